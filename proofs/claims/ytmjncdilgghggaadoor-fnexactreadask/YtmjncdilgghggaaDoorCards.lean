/-
  DERIVED. GIVEN WITH THE SEED: THE CARDS: each row of YtmjncdilgghggaaDoorRows.lean that lists a variable, with what it lists TIED to the program's text (the seventh form; the later family's looks); each row that meets fmt, with fmt's text TOLD by the authors' own Lean function (tested against real Go, not proved from fmt's source: count such statements apart). THE CARD IS WHAT COUNTS. Prove the row's statement (the work); the ties are given (YtmjncdilgghggaaDoorTie.lean); close each card by the builder's one call (the guide's Derived/Test/ToyasCard.lean, 'card_holds'). Laid BY PROGRAM, IN A SANDBOX (cutbox-door.mjs). By AI agents, Wed Nov 11 2026. No macro, syntax, notation, axiom, sorry.
-/
import Derived.Test.YtmjncdilgghggaaDoorRows
import GoSem.ClaimSeven
namespace Go.Proofs.YtmjncdilgghggaaDoor
namespace Rows

/-- THE TIED CARD OF 'laws.FnExactReadAsk'. -/
def fnExactReadAskCard : Claim7 := { stood := { row := fnExactReadAskRow, standIns := [], harness := (true, "7653e7736db0255c83e131502fa42a00dd55e77369f141a358f05c586d8742bd"), looks := false }, kinds := [], alts := [], laidByText := true, laidKinds := [.data, .pinned], laidTests := true, laidLooks := .later }
def FnExactReadAskCardSaid : Prop := Claim7.holds Tryd.pinned (.plain (OpenSpec.ofChange fnExactReadAskSpec)) fnExactReadAskCard

/-- THE SECOND FORM's CARD OF 'laws.FnExactReadAsk'. -/
def fnExactReadAskUptoCard : Claim7 := { stood := { row := fnExactReadAskUptoRow, standIns := [], harness := (true, "7653e7736db0255c83e131502fa42a00dd55e77369f141a358f05c586d8742bd"), looks := false }, kinds := [], alts := [], laidByText := true, laidKinds := [.data, .pinned], laidTests := true, laidLooks := .later }
def FnExactReadAskUptoCardSaid : Prop := Claim7.holds Tryd.pinned (.plain (OpenSpec.upto fnExactReadAskSpec)) fnExactReadAskUptoCard
end Rows
end Go.Proofs.YtmjncdilgghggaaDoor
