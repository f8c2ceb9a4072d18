/-
  DERIVED. GIVEN WITH THE SEED: THE CARDS: each row of YtpfecijahiikhaaGreatDoorRows.lean that lists a variable, with what it lists TIED to the program's text (the seventh form; the later family's looks); each row that meets fmt, with fmt's text TOLD by the authors' own Lean function (tested against real Go, not proved from fmt's source: count such statements apart). THE CARD IS WHAT COUNTS. Prove the row's statement (the work); the ties are given (YtpfecijahiikhaaGreatDoorTie.lean); close each card by the builder's one call (the guide's Derived/Test/ToyasCard.lean, 'card_holds'). Laid BY PROGRAM, IN A SANDBOX (cutbox-door.mjs). By AI agents, Wed Nov 11 2026. No macro, syntax, notation, axiom, sorry.
-/
import Derived.Test.YtpfecijahiikhaaGreatDoorRows
import GoSem.ClaimSeven
namespace Go.Proofs.YtpfecijahiikhaaGreatDoor
namespace Rows

/-- THE TIED CARD OF 'laws.FnRups'. -/
def fnRupsCard : Claim7 := { stood := { row := fnRupsRow, standIns := [], harness := (true, "799cdb4956935366d009993f924604b736cb8fb9534dfb7f066b909cfcd55576"), looks := true }, kinds := [], alts := [], laidByText := true, laidKinds := [.data, .handle], laidTests := true, laidLooks := .later }
def FnRupsCardSaid : Prop := Claim7.holds Tryz.pinned (.plain (OpenSpec.ofChange fnRupsSpec)) fnRupsCard

/-- THE SECOND FORM's CARD OF 'laws.FnRups'. -/
def fnRupsUptoCard : Claim7 := { stood := { row := fnRupsUptoRow, standIns := [], harness := (true, "799cdb4956935366d009993f924604b736cb8fb9534dfb7f066b909cfcd55576"), looks := true }, kinds := [], alts := [], laidByText := true, laidKinds := [.data, .handle], laidTests := true, laidLooks := .later }
def FnRupsUptoCardSaid : Prop := Claim7.holds Tryz.pinned (.plain (OpenSpec.upto fnRupsSpec)) fnRupsUptoCard
end Rows
end Go.Proofs.YtpfecijahiikhaaGreatDoor
