/-
  DERIVED. GIVEN WITH THE SEED: THE CARDS: each row of YtikhnfgpopcdjaaDoorRows.lean that lists a variable, with what it lists TIED to the program's text (the seventh form; the later family's looks); each row that meets fmt, with fmt's text TOLD by the authors' own Lean function (tested against real Go, not proved from fmt's source: count such statements apart). THE CARD IS WHAT COUNTS. Prove the row's statement (the work); the ties are given (YtikhnfgpopcdjaaDoorTie.lean); close each card by the builder's one call (the guide's Derived/Test/ToyasCard.lean, 'card_holds'). Laid BY PROGRAM, IN A SANDBOX (cutbox-door.mjs). By AI agents, Wed Nov 11 2026. No macro, syntax, notation, axiom, sorry.
-/
import Derived.Test.YtikhnfgpopcdjaaDoorRows
import GoSem.ClaimSeven
namespace Go.Proofs.YtikhnfgpopcdjaaDoor
namespace Rows

/-- THE TIED CARD OF 'laws.FnImplied'. -/
def fnImpliedCard : Claim7 := { stood := { row := fnImpliedRow, standIns := [], harness := (true, "13b4118bca90d44abc6f667297a79094e086f19b8ffdbf454d1630a77bbc5d14"), looks := false }, kinds := [], alts := [], laidByText := true, laidKinds := [.data], laidTests := true, laidLooks := .later }
def FnImpliedCardSaid : Prop := Claim7.holds Tryd.pinned (.plain (OpenSpec.ofChange fnImpliedSpec)) fnImpliedCard

/-- THE SECOND FORM's CARD OF 'laws.FnImplied'. -/
def fnImpliedUptoCard : Claim7 := { stood := { row := fnImpliedUptoRow, standIns := [], harness := (true, "13b4118bca90d44abc6f667297a79094e086f19b8ffdbf454d1630a77bbc5d14"), looks := false }, kinds := [], alts := [], laidByText := true, laidKinds := [.data], laidTests := true, laidLooks := .later }
def FnImpliedUptoCardSaid : Prop := Claim7.holds Tryd.pinned (.plain (OpenSpec.upto fnImpliedSpec)) fnImpliedUptoCard
end Rows
end Go.Proofs.YtikhnfgpopcdjaaDoor
