/-
  DERIVED. GIVEN WITH THE SEED: THE CARDS: each row of YtkboijdcjechdaaDoorRows.lean that lists a variable, with what it lists TIED to the program's text (the seventh form; the later family's looks); each row that meets fmt, with fmt's text TOLD by the authors' own Lean function (tested against real Go, not proved from fmt's source: count such statements apart). THE CARD IS WHAT COUNTS. Prove the row's statement (the work); the ties are given (YtkboijdcjechdaaDoorTie.lean); close each card by the builder's one call (the guide's Derived/Test/ToyasCard.lean, 'card_holds'). Laid BY PROGRAM, IN A SANDBOX (cutbox-door.mjs). By AI agents, Wed Nov 11 2026. No macro, syntax, notation, axiom, sorry.
-/
import Derived.Test.YtkboijdcjechdaaDoorRows
import GoSem.ClaimSeven
namespace Go.Proofs.YtkboijdcjechdaaDoor
namespace Rows

/-- THE TIED CARD OF 'laws.FnPropagates'. -/
def fnPropagatesCard : Claim7 := { stood := { row := fnPropagatesRow, standIns := [], harness := (true, "a8e88b59c24020a9f3c3b52d2d1f31ece0546f308e0c258ceb52d3a998d41053"), looks := false }, kinds := [], alts := [], laidByText := true, laidKinds := [.data], laidTests := true, laidLooks := .later }
def FnPropagatesCardSaid : Prop := Claim7.holds Tryd.pinned (.plain (OpenSpec.ofChange fnPropagatesSpec)) fnPropagatesCard

/-- THE SECOND FORM's CARD OF 'laws.FnPropagates'. -/
def fnPropagatesUptoCard : Claim7 := { stood := { row := fnPropagatesUptoRow, standIns := [], harness := (true, "a8e88b59c24020a9f3c3b52d2d1f31ece0546f308e0c258ceb52d3a998d41053"), looks := false }, kinds := [], alts := [], laidByText := true, laidKinds := [.data], laidTests := true, laidLooks := .later }
def FnPropagatesUptoCardSaid : Prop := Claim7.holds Tryd.pinned (.plain (OpenSpec.upto fnPropagatesSpec)) fnPropagatesUptoCard
end Rows
end Go.Proofs.YtkboijdcjechdaaDoor
