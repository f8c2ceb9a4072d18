/-
  DERIVED. GIVEN WITH THE SEED: THE CARDS: each row of YtcgpjlpggbgdaaaGreatDoorRows.lean that lists a variable, with what it lists TIED to the program's text (the seventh form; the later family's looks); each row that meets fmt, with fmt's text TOLD by the authors' own Lean function (tested against real Go, not proved from fmt's source: count such statements apart). THE CARD IS WHAT COUNTS. Prove the row's statement (the work); the ties are given (YtcgpjlpggbgdaaaGreatDoorTie.lean); close each card by the builder's one call (the guide's Derived/Test/ToyasCard.lean, 'card_holds'). Laid BY PROGRAM, IN A SANDBOX (cutbox-door.mjs). By AI agents, Wed Nov 11 2026. No macro, syntax, notation, axiom, sorry.
-/
import Derived.Test.YtcgpjlpggbgdaaaGreatDoorRows
import GoSem.ClaimSeven
namespace Go.Proofs.YtcgpjlpggbgdaaaGreatDoor
namespace Rows

/-- THE TIED CARD OF 'laws.FnProofTexts'. -/
def fnProofTextsCard : Claim7 := { stood := { row := fnProofTextsRow, standIns := [], harness := (true, "bf7e0945e054a16fcb786eee0d6e6ca62a68ef9c6f57809230135e1ba06d9514"), looks := true }, kinds := [], alts := [], laidByText := true, laidKinds := [.data, .data, .data, .data, .handle, .pinned], laidTests := true, laidLooks := .later }
def FnProofTextsCardSaid : Prop := Claim7.holds Tryz.pinned (.plain (OpenSpec.ofChange fnProofTextsSpec)) fnProofTextsCard

/-- THE SECOND FORM's CARD OF 'laws.FnProofTexts'. -/
def fnProofTextsUptoCard : Claim7 := { stood := { row := fnProofTextsUptoRow, standIns := [], harness := (true, "bf7e0945e054a16fcb786eee0d6e6ca62a68ef9c6f57809230135e1ba06d9514"), looks := true }, kinds := [], alts := [], laidByText := true, laidKinds := [.data, .data, .data, .data, .handle, .pinned], laidTests := true, laidLooks := .later }
def FnProofTextsUptoCardSaid : Prop := Claim7.holds Tryz.pinned (.plain (OpenSpec.upto fnProofTextsSpec)) fnProofTextsUptoCard
end Rows
end Go.Proofs.YtcgpjlpggbgdaaaGreatDoor
