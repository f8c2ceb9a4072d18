/- Formulas that are drawn out of a code: they are right, and lie in memory of their own; two formulas that are the same; conditions: a code that fits. -/
import Derived.Test.YtolejaegnkcjjaaDoorRowsOwn
import Derived.Test.YtolejaegnkcjjaaDoorPart18
import Derived.Test.YtolejaegnkcjjaaDoorPart13
import Derived.Test.YtolejaegnkcjjaaDoorCnf
import Derived.Laws.AppendOwnNone
import Derived.Deep.AppendLies
namespace Go.Proofs.YtolejaegnkcjjaaDoor.sorted
open Go.RowKit Go.Deep
theorem bdn {B : Nat} {W w1 : World} (h : Below B W w1) (n : Nat) : Below B W (w1.drewN n) := h.trans ⟨rfl, rfl, rfl, Nat.le_refl _, fun _ _ => rfl⟩
end Go.Proofs.YtolejaegnkcjjaaDoor.sorted
namespace Go.Proofs.YtolejaegnkcjjaaDoor.cnfDraw
open Go.RowKit Go.Deep Go.Sort base copy cnf rowsOwn source heldStore
set_option linter.unusedVariables false

theorem own_new {B H : Nat} (w : World) (h : w.heap.size = H) (hB : B ≤ H) : (w.alloc (.cells #[] 3)).ownsRow B 3 1 (.slice (some ⟨H, 0, none⟩) 0 0) 0 [] := ⟨rfl, .inr ⟨H, 0, #[], rfl, hB, by subst h; exact heap_alloc_new w _, Nat.le_refl _, Nat.zero_le _, rfl, rfl⟩⟩
theorem own_form {B : Nat} {w : World} {v : Value} {ps : List (Value × List Int)} (h : OwnRows B w v ps) : ∃ p c, v = .slice p ps.length c := by
  rcases h.outer.2 with ⟨e, h0⟩ | ⟨g, c, cur, e, _⟩
  · exact ⟨none, 0, by rw [e, h0]⟩
  · exact ⟨_, _, e⟩
theorem own_lt {B g : Nat} {w : World} {v : Value} {zs : List Int} (h : OwnInts B w v zs) (hg : v.ownBlock = some g) : B ≤ g ∧ g < w.heap.size := World.ownsRow.lt h g hg
/-- Only block b, and what is new, has turned. -/
theorem grown_own {w w1 w2 : World} {b : Nat} {row : Option Nat} (h : w.grownBy w1 (some b)) (hg : w1.grownBy w2 row) (hr : ∀ g, row = some g → w.heap.size ≤ g) : w.grownBy w2 (some b) :=
  ⟨hg.os.trans h.os, hg.tape.trans h.tape, hg.output.trans h.output, Nat.le_trans h.size hg.size, fun k hk hne => by
    rw [hg.block k (Nat.lt_of_lt_of_le hk h.size) (fun e => by have := hr k e.symm; omega), h.block k hk hne]⟩
theorem below_grown {w w1 : World} (h : Below w.heap.size w w1) : w.grownBy w1 none := ⟨h.os, h.tape, h.output, h.size, fun k hk _ => h.block k hk⟩
theorem own_far {B b : Nat} {w w1 : World} {v : Value} {zs : List Int} (h : OwnInts B w v zs) (hg : w.grownBy w1 (some b)) (hb : b < B) : OwnInts B w1 v zs :=
  own_grown h hg (fun g hgv e => by injection e with e; have := (own_lt h hgv).1; omega)
end Go.Proofs.YtolejaegnkcjjaaDoor.cnfDraw
