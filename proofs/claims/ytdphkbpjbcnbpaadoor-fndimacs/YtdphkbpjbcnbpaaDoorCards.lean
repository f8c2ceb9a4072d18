/-
  DERIVED. GIVEN WITH THE SEED: THE CARDS: each row of YtdphkbpjbcnbpaaDoorRows.lean that lists a variable, with what it lists TIED to the program's text (the seventh form; the later family's looks); each row that meets fmt, with fmt's text TOLD by the authors' own Lean function (tested against real Go, not proved from fmt's source: count such statements apart). THE CARD IS WHAT COUNTS. Prove the row's statement (the work); the ties are given (YtdphkbpjbcnbpaaDoorTie.lean); close each card by the builder's one call (the guide's Derived/Test/ToyasCard.lean, 'card_holds'). Laid BY PROGRAM, IN A SANDBOX (cutbox-door.mjs). By AI agents, Wed Nov 11 2026. No macro, syntax, notation, axiom, sorry.
-/
import Derived.Test.YtdphkbpjbcnbpaaDoorRows
import GoSem.ClaimSeven
namespace Go.Proofs.YtdphkbpjbcnbpaaDoor
namespace Rows

/-- THE TIED CARD OF 'laws.FnDimacs'. -/
def fnDimacsCard : Claim7 := { stood := { row := fnDimacsRow, standIns := [], harness := (true, "ed2a15dc480267f06d0870ebaad50abeffddb424d9bac1b1f25d0922c5c5eb71"), looks := false }, kinds := [], alts := [], laidByText := true, laidKinds := [.data, .data, .data, .data, .pinned], laidTests := true, laidLooks := .later }
def FnDimacsCardSaid : Prop := Claim7.holds Tryd.pinned (.plain (OpenSpec.ofChange fnDimacsSpec)) fnDimacsCard

/-- THE SECOND FORM's CARD OF 'laws.FnDimacs'. -/
def fnDimacsUptoCard : Claim7 := { stood := { row := fnDimacsUptoRow, standIns := [], harness := (true, "ed2a15dc480267f06d0870ebaad50abeffddb424d9bac1b1f25d0922c5c5eb71"), looks := false }, kinds := [], alts := [], laidByText := true, laidKinds := [.data, .data, .data, .data, .pinned], laidTests := true, laidLooks := .later }
def FnDimacsUptoCardSaid : Prop := Claim7.holds Tryd.pinned (.plain (OpenSpec.upto fnDimacsSpec)) fnDimacsUptoCard
end Rows
end Go.Proofs.YtdphkbpjbcnbpaaDoor
