/-
  DERIVED. GIVEN WITH THE SEED: THE CARDS: each row of YtolejaegnkcjjaaGreatDoorRows.lean that lists a variable, with what it lists TIED to the program's text (the seventh form; the later family's looks); each row that meets fmt, with fmt's text TOLD by the authors' own Lean function (tested against real Go, not proved from fmt's source: count such statements apart). THE CARD IS WHAT COUNTS. Prove the row's statement (the work); the ties are given (YtolejaegnkcjjaaGreatDoorTie.lean); close each card by the builder's one call (the guide's Derived/Test/ToyasCard.lean, 'card_holds'). Laid BY PROGRAM, IN A SANDBOX (cutbox-door.mjs). By AI agents, Wed Nov 11 2026. No macro, syntax, notation, axiom, sorry.
-/
import Derived.Test.YtolejaegnkcjjaaGreatDoorRows
import GoSem.ClaimSeven
namespace Go.Proofs.YtolejaegnkcjjaaGreatDoor
namespace Rows

/-- THE TIED CARD OF 'laws.FnExactCheckProof'. -/
def fnExactCheckProofCard : Claim7 := { stood := { row := fnExactCheckProofRow, standIns := [], harness := (true, "db4f910cc7061c9f7b0d69213ef4e1545fed4973b3dbb15941f2081f849c7973"), looks := true }, kinds := [], alts := [], laidByText := true, laidKinds := [.data, .handle], laidTests := true, laidLooks := .later }
def FnExactCheckProofCardSaid : Prop := Claim7.holds Tryz.pinned (.plain (OpenSpec.ofChange fnExactCheckProofSpec)) fnExactCheckProofCard

/-- THE TIED CARD OF 'laws.FnExactRefutation'. -/
def fnExactRefutationCard : Claim7 := { stood := { row := fnExactRefutationRow, standIns := [], harness := (true, "db4f910cc7061c9f7b0d69213ef4e1545fed4973b3dbb15941f2081f849c7973"), looks := true }, kinds := [], alts := [], laidByText := true, laidKinds := [.data, .handle], laidTests := true, laidLooks := .later }
def FnExactRefutationCardSaid : Prop := Claim7.holds Tryz.pinned (.plain (OpenSpec.ofChange fnExactRefutationSpec)) fnExactRefutationCard

/-- THE SECOND FORM's CARD OF 'laws.FnExactCheckProof'. -/
def fnExactCheckProofUptoCard : Claim7 := { stood := { row := fnExactCheckProofUptoRow, standIns := [], harness := (true, "db4f910cc7061c9f7b0d69213ef4e1545fed4973b3dbb15941f2081f849c7973"), looks := true }, kinds := [], alts := [], laidByText := true, laidKinds := [.data, .handle], laidTests := true, laidLooks := .later }
def FnExactCheckProofUptoCardSaid : Prop := Claim7.holds Tryz.pinned (.plain (OpenSpec.upto fnExactCheckProofSpec)) fnExactCheckProofUptoCard

/-- THE SECOND FORM's CARD OF 'laws.FnExactRefutation'. -/
def fnExactRefutationUptoCard : Claim7 := { stood := { row := fnExactRefutationUptoRow, standIns := [], harness := (true, "db4f910cc7061c9f7b0d69213ef4e1545fed4973b3dbb15941f2081f849c7973"), looks := true }, kinds := [], alts := [], laidByText := true, laidKinds := [.data, .handle], laidTests := true, laidLooks := .later }
def FnExactRefutationUptoCardSaid : Prop := Claim7.holds Tryz.pinned (.plain (OpenSpec.upto fnExactRefutationSpec)) fnExactRefutationUptoCard
end Rows
end Go.Proofs.YtolejaegnkcjjaaGreatDoor
