/-
  DERIVED. GIVEN WITH THE SEED: THE CARDS: each row of YtdldehkpcfhhhaaDoorRows.lean that lists a variable, with what it lists TIED to the program's text (the seventh form; the later family's looks); each row that meets fmt, with fmt's text TOLD by the authors' own Lean function (tested against real Go, not proved from fmt's source: count such statements apart). THE CARD IS WHAT COUNTS. Prove the row's statement (the work); the ties are given (YtdldehkpcfhhhaaDoorTie.lean); close each card by the builder's one call (the guide's Derived/Test/ToyasCard.lean, 'card_holds'). Laid BY PROGRAM, IN A SANDBOX (cutbox-door.mjs). By AI agents, Wed Nov 11 2026. No macro, syntax, notation, axiom, sorry.
-/
import Derived.Test.YtdldehkpcfhhhaaDoorRows
import GoSem.ClaimSeven
namespace Go.Proofs.YtdldehkpcfhhhaaDoor
namespace Rows

/-- THE TIED CARD OF 'laws.FnExactProofText'. -/
def fnExactProofTextCard : Claim7 := { stood := { row := fnExactProofTextRow, standIns := [], harness := (true, "1ee685d95ace804b66f160ae938dd05ab7a1c4e3eec71c08dea8391f7bc1186a"), looks := true }, kinds := [], alts := [], laidByText := true, laidKinds := [.data, .data, .data, .handle], laidTests := true, laidLooks := .later }
def FnExactProofTextCardSaid : Prop := Claim7.holds Tryd.pinned (.plain (OpenSpec.ofChange fnExactProofTextSpec)) fnExactProofTextCard

/-- THE TIED CARD OF 'laws.FnExactDimacsText'. -/
def fnExactDimacsTextCard : Claim7 := { stood := { row := fnExactDimacsTextRow, standIns := [], harness := (true, "1ee685d95ace804b66f160ae938dd05ab7a1c4e3eec71c08dea8391f7bc1186a"), looks := true }, kinds := [], alts := [], laidByText := true, laidKinds := [.data, .data, .data], laidTests := true, laidLooks := .later }
def FnExactDimacsTextCardSaid : Prop := Claim7.holds Tryd.pinned (.plain (OpenSpec.ofChange fnExactDimacsTextSpec)) fnExactDimacsTextCard

/-- THE SECOND FORM's CARD OF 'laws.FnExactProofText'. -/
def fnExactProofTextUptoCard : Claim7 := { stood := { row := fnExactProofTextUptoRow, standIns := [], harness := (true, "1ee685d95ace804b66f160ae938dd05ab7a1c4e3eec71c08dea8391f7bc1186a"), looks := true }, kinds := [], alts := [], laidByText := true, laidKinds := [.data, .data, .data, .handle], laidTests := true, laidLooks := .later }
def FnExactProofTextUptoCardSaid : Prop := Claim7.holds Tryd.pinned (.plain (OpenSpec.upto fnExactProofTextSpec)) fnExactProofTextUptoCard

/-- THE SECOND FORM's CARD OF 'laws.FnExactDimacsText'. -/
def fnExactDimacsTextUptoCard : Claim7 := { stood := { row := fnExactDimacsTextUptoRow, standIns := [], harness := (true, "1ee685d95ace804b66f160ae938dd05ab7a1c4e3eec71c08dea8391f7bc1186a"), looks := true }, kinds := [], alts := [], laidByText := true, laidKinds := [.data, .data, .data], laidTests := true, laidLooks := .later }
def FnExactDimacsTextUptoCardSaid : Prop := Claim7.holds Tryd.pinned (.plain (OpenSpec.upto fnExactDimacsTextSpec)) fnExactDimacsTextUptoCard
end Rows
end Go.Proofs.YtdldehkpcfhhhaaDoor
