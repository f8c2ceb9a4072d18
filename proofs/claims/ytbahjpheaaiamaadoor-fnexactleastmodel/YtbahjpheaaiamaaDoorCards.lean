/-
  DERIVED. GIVEN WITH THE SEED: THE CARDS: each row of YtbahjpheaaiamaaDoorRows.lean that lists a variable, with what it lists TIED to the program's text (the seventh form; the later family's looks); each row that meets fmt, with fmt's text TOLD by the authors' own Lean function (tested against real Go, not proved from fmt's source: count such statements apart). THE CARD IS WHAT COUNTS. Prove the row's statement (the work); the ties are given (YtbahjpheaaiamaaDoorTie.lean); close each card by the builder's one call (the guide's Derived/Test/ToyasCard.lean, 'card_holds'). Laid BY PROGRAM, IN A SANDBOX (cutbox-door.mjs). By AI agents, Wed Nov 11 2026. No macro, syntax, notation, axiom, sorry.
-/
import Derived.Test.YtbahjpheaaiamaaDoorRows
import GoSem.ClaimSeven
namespace Go.Proofs.YtbahjpheaaiamaaDoor
namespace Rows

/-- THE TIED CARD OF 'laws.FnExactLeastModel'. -/
def fnExactLeastModelCard : Claim7 := { stood := { row := fnExactLeastModelRow, standIns := [], harness := (true, "385fff4d77d89a38f8faf7d22146974c57d7068149e4c56d4417af12c1f06fb1"), looks := false }, kinds := [], alts := [], laidByText := true, laidKinds := [.data], laidTests := true, laidLooks := .later }
def FnExactLeastModelCardSaid : Prop := Claim7.holds Tryd.pinned (.plain (OpenSpec.ofChange fnExactLeastModelSpec)) fnExactLeastModelCard

/-- THE TIED CARD OF 'laws.FnExactImplied'. -/
def fnExactImpliedCard : Claim7 := { stood := { row := fnExactImpliedRow, standIns := [], harness := (true, "385fff4d77d89a38f8faf7d22146974c57d7068149e4c56d4417af12c1f06fb1"), looks := false }, kinds := [], alts := [], laidByText := true, laidKinds := [.data], laidTests := true, laidLooks := .later }
def FnExactImpliedCardSaid : Prop := Claim7.holds Tryd.pinned (.plain (OpenSpec.ofChange fnExactImpliedSpec)) fnExactImpliedCard

/-- THE SECOND FORM's CARD OF 'laws.FnExactLeastModel'. -/
def fnExactLeastModelUptoCard : Claim7 := { stood := { row := fnExactLeastModelUptoRow, standIns := [], harness := (true, "385fff4d77d89a38f8faf7d22146974c57d7068149e4c56d4417af12c1f06fb1"), looks := false }, kinds := [], alts := [], laidByText := true, laidKinds := [.data], laidTests := true, laidLooks := .later }
def FnExactLeastModelUptoCardSaid : Prop := Claim7.holds Tryd.pinned (.plain (OpenSpec.upto fnExactLeastModelSpec)) fnExactLeastModelUptoCard

/-- THE SECOND FORM's CARD OF 'laws.FnExactImplied'. -/
def fnExactImpliedUptoCard : Claim7 := { stood := { row := fnExactImpliedUptoRow, standIns := [], harness := (true, "385fff4d77d89a38f8faf7d22146974c57d7068149e4c56d4417af12c1f06fb1"), looks := false }, kinds := [], alts := [], laidByText := true, laidKinds := [.data], laidTests := true, laidLooks := .later }
def FnExactImpliedUptoCardSaid : Prop := Claim7.holds Tryd.pinned (.plain (OpenSpec.upto fnExactImpliedSpec)) fnExactImpliedUptoCard
end Rows
end Go.Proofs.YtbahjpheaaiamaaDoor
