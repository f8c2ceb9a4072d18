/-
  DERIVED. GIVEN WITH THE SEED: THE CARDS: each row of YtolejaegnkcjjaaDoorRows.lean that lists a variable, with what it lists TIED to the program's text (the seventh form; the later family's looks); each row that meets fmt, with fmt's text TOLD by the authors' own Lean function (tested against real Go, not proved from fmt's source: count such statements apart). THE CARD IS WHAT COUNTS. Prove the row's statement (the work); the ties are given (YtolejaegnkcjjaaDoorTie.lean); close each card by the builder's one call (the guide's Derived/Test/ToyasCard.lean, 'card_holds'). Laid BY PROGRAM, IN A SANDBOX (cutbox-door.mjs). By AI agents, Wed Nov 11 2026. No macro, syntax, notation, axiom, sorry.
-/
import Derived.Test.YtolejaegnkcjjaaDoorRows
import GoSem.ClaimSeven
namespace Go.Proofs.YtolejaegnkcjjaaDoor
namespace Rows

/-- THE TIED CARD OF 'laws.FnExactRup'. -/
def fnExactRupCard : Claim7 := { stood := { row := fnExactRupRow, standIns := [], harness := (true, "e2738a7f09038b6a3ad0e9add87cc4e1338dad78048bbab3f6dad32575c84db4"), looks := true }, kinds := [], alts := [], laidByText := true, laidKinds := [.data, .handle], laidTests := true, laidLooks := .later }
def FnExactRupCardSaid : Prop := Claim7.holds Tryd.pinned (.plain (OpenSpec.ofChange fnExactRupSpec)) fnExactRupCard

/-- THE TIED CARD OF 'laws.FnExactRat'. -/
def fnExactRatCard : Claim7 := { stood := { row := fnExactRatRow, standIns := [], harness := (true, "e2738a7f09038b6a3ad0e9add87cc4e1338dad78048bbab3f6dad32575c84db4"), looks := true }, kinds := [], alts := [], laidByText := true, laidKinds := [.data, .handle], laidTests := true, laidLooks := .later }
def FnExactRatCardSaid : Prop := Claim7.holds Tryd.pinned (.plain (OpenSpec.ofChange fnExactRatSpec)) fnExactRatCard

/-- THE SECOND FORM's CARD OF 'laws.FnExactRup'. -/
def fnExactRupUptoCard : Claim7 := { stood := { row := fnExactRupUptoRow, standIns := [], harness := (true, "e2738a7f09038b6a3ad0e9add87cc4e1338dad78048bbab3f6dad32575c84db4"), looks := true }, kinds := [], alts := [], laidByText := true, laidKinds := [.data, .handle], laidTests := true, laidLooks := .later }
def FnExactRupUptoCardSaid : Prop := Claim7.holds Tryd.pinned (.plain (OpenSpec.upto fnExactRupSpec)) fnExactRupUptoCard

/-- THE SECOND FORM's CARD OF 'laws.FnExactRat'. -/
def fnExactRatUptoCard : Claim7 := { stood := { row := fnExactRatUptoRow, standIns := [], harness := (true, "e2738a7f09038b6a3ad0e9add87cc4e1338dad78048bbab3f6dad32575c84db4"), looks := true }, kinds := [], alts := [], laidByText := true, laidKinds := [.data, .handle], laidTests := true, laidLooks := .later }
def FnExactRatUptoCardSaid : Prop := Claim7.holds Tryd.pinned (.plain (OpenSpec.upto fnExactRatSpec)) fnExactRatUptoCard
end Rows
end Go.Proofs.YtolejaegnkcjjaaDoor
