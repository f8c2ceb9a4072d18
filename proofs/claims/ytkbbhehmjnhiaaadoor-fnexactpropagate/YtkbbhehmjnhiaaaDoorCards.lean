/-
  DERIVED. GIVEN WITH THE SEED: THE CARDS: each row of YtkbbhehmjnhiaaaDoorRows.lean that lists a variable, with what it lists TIED to the program's text (the seventh form; the later family's looks); each row that meets fmt, with fmt's text TOLD by the authors' own Lean function (tested against real Go, not proved from fmt's source: count such statements apart). THE CARD IS WHAT COUNTS. Prove the row's statement (the work); the ties are given (YtkbbhehmjnhiaaaDoorTie.lean); close each card by the builder's one call (the guide's Derived/Test/ToyasCard.lean, 'card_holds'). Laid BY PROGRAM, IN A SANDBOX (cutbox-door.mjs). By AI agents, Wed Nov 11 2026. No macro, syntax, notation, axiom, sorry.
-/
import Derived.Test.YtkbbhehmjnhiaaaDoorRows
import GoSem.ClaimSeven
namespace Go.Proofs.YtkbbhehmjnhiaaaDoor
namespace Rows

/-- THE TIED CARD OF 'laws.FnExactPropagate'. -/
def fnExactPropagateCard : Claim7 := { stood := { row := fnExactPropagateRow, standIns := [], harness := (true, "b94aeccee5c91751c1518b8b8c87ae4bf8bfaa4a68f048ed4446d9c761f9fcf3"), looks := false }, kinds := [], alts := [], laidByText := true, laidKinds := [.data], laidTests := true, laidLooks := .later }
def FnExactPropagateCardSaid : Prop := Claim7.holds Tryd.pinned (.plain (OpenSpec.ofChange fnExactPropagateSpec)) fnExactPropagateCard

/-- THE SECOND FORM's CARD OF 'laws.FnExactPropagate'. -/
def fnExactPropagateUptoCard : Claim7 := { stood := { row := fnExactPropagateUptoRow, standIns := [], harness := (true, "b94aeccee5c91751c1518b8b8c87ae4bf8bfaa4a68f048ed4446d9c761f9fcf3"), looks := false }, kinds := [], alts := [], laidByText := true, laidKinds := [.data], laidTests := true, laidLooks := .later }
def FnExactPropagateUptoCardSaid : Prop := Claim7.holds Tryd.pinned (.plain (OpenSpec.upto fnExactPropagateSpec)) fnExactPropagateUptoCard
end Rows
end Go.Proofs.YtkbbhehmjnhiaaaDoor
