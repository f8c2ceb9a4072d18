/- A drawn word of three bits: right, new, small; conditions: lengths that fit. -/
import Derived.Test.YtikdadpapdkfiaaSourceI
import Derived.Test.YtikdadpapdkfiaaBuilt
import Derived.Test.YtikdadpapdkfiaaWordTrees
import Derived.Laws.ResultCell
namespace Go.Proofs.Ytikdadpapdkfiaa.wordDraw
open Go.RowKit Go.Deep Go.Sort Go base trees built wordTrees intsOwn source
set_option linter.unusedVariables false

def asksW : Nat → Nat
  | 0 => 3
  | d + 1 => 3 + 2 * asksW d
def szW : Nat → Nat
  | 0 => 1
  | d + 1 => 1 + 2 * szW d
theorem szW_pos (d : Nat) : 1 ≤ szW d := by cases d <;> simp [szW]
def FineW (d : Nat) (t : T) : Prop := rightW 3 d t = true ∧ size d t ≤ szW d
theorem asksW_pos (d : Nat) : 3 ≤ asksW d := by cases d <;> simp [asksW]
theorem src_kept {w w1 : World} {b len cap k : Nat} {a : Option Addr} (h : Src w b a len cap k) (hk : ∀ j, j ≤ b → w1.heap[j]? = w.heap[j]?) : Src w1 b a len cap k := by
  obtain ⟨h1, ⟨n, s, p1, p2, p3, p4, hr⟩, h3⟩ := h
  exact ⟨h1, ⟨n, s, p1, p2, p3, p4, hr.of_block (hk b (Nat.le_refl _))⟩, fun i hi => by
    obtain ⟨bb, off, e, hne, x, hx, hc⟩ := h3 i hi
    exact ⟨bb, off, e, hne, x, hx, (World.cell?_of_block (a := ⟨bb, off + i, none⟩) (hk bb (by omega))).trans hc⟩⟩
theorem grown_new {w W : World} {row : Option Nat} (h : w.grownBy W row) {R o : Nat} (hx : w.heap.size ≤ R) (v : Value) : w.grownBy (W.setCell ⟨R, o, none⟩ v) row :=
  ⟨h.os, h.tape, h.output, by simpa [World.setCell] using h.size, fun j hj hne => (Below.heap_setCell _ _ _ _ (by dsimp only; omega)).trans (h.block j hj hne)⟩
theorem grown_below' {w W : World} {row : Option Nat} (h : Below w.heap.size w W) : w.grownBy W row := ⟨h.os, h.tape, h.output, h.size, fun j hj _ => h.block j hj⟩
theorem src_lt {w : World} {b len cap k : Nat} {a : Option Addr} (h : Src w b a len cap k) : b < w.heap.size := by
  obtain ⟨_, ⟨_, _, _, _, _, _, hr⟩, _⟩ := h
  exact hr.lt
def leafT (k n : Int) : T := mkT k n 0 fun _ _ => (0, 0, 0)
theorem rd_leaf (q : Nat → Prop) (w : World) (d : Nat) (k n : Int) (a : Option Addr) : Rd q 1048576 w d (leafT k n) a 0 := by
  cases d with
  | zero => exact ⟨rfl, rfl⟩
  | succ d => exact ⟨rfl, Nat.zero_le _, fun i hi => absurd hi (Nat.not_lt_zero _)⟩
theorem fine_leaf (d : Nat) {k n : Int} (h : (k = 1 ∧ 0 ≤ n ∧ n < 8) ∨ (k = 2 ∧ 0 ≤ n ∧ n < 4)) : FineW d (leafT k n) := by
  have hs : shapeW 3 (leafT k n) = true := by
    refine decide_eq_true (show ((0 : Nat) : Int) = kidsW k ∧ 0 ≤ n ∧ n ≤ mostW 3 k from ?_)
    rcases h with ⟨rfl, h0, h1⟩ | ⟨rfl, h0, h1⟩
    · exact ⟨rfl, h0, by simp [mostW]; omega⟩
    · exact ⟨rfl, h0, by simp [mostW]; omega⟩
  cases d with
  | zero => exact ⟨hs, by simp [size, szW]⟩
  | succ d =>
    refine ⟨?_, ?_⟩
    · show (shapeW 3 (leafT k n) && allTo _ 0) = true
      rw [hs]; rfl
    · show 1 + sumTo _ 0 ≤ _
      have := szW_pos d
      simp [sumTo, szW]
theorem fine_node {d : Nat} {κ : Int} {x y : T} (hk : κ = 3 ∨ κ = 4 ∨ κ = 5) (hx : FineW d x) (hy : FineW d y) : FineW (d + 1) (ndT κ 2 (two x y)) := by
  have hs : shapeW 3 (ndT κ 2 (two x y)) = true := by
    refine decide_eq_true (show ((2 : Nat) : Int) = kidsW κ ∧ (0 : Int) ≤ 0 ∧ 0 ≤ mostW 3 κ from ?_)
    rcases hk with rfl | rfl | rfl <;> decide
  refine ⟨?_, ?_⟩
  · show (shapeW 3 (ndT κ 2 (two x y)) && (allTo (fun i => rightW 3 d (kid (ndT κ 2 (two x y)) i)) 0 && rightW 3 d x && rightW 3 d y)) = true
    rw [hs, hx.1, hy.1]; rfl
  · show 1 + (sumTo (fun i => size d (kid (ndT κ 2 (two x y)) i)) 0 + size d x + size d y) ≤ 1 + 2 * szW d
    have h1 := hx.2
    have h2 := hy.2
    simp only [sumTo]
    omega
def WAt (d : Nat) : Prop := ∀ (deep b : Nat) (a : Option Addr) (len cap k : Nat) (w : World), deep ≤ d → Src w b a len cap k → k + asksW d ≤ 1048576 →
  Calls Try.prog 13 #[.pointer (some ⟨b, 0, none⟩), .int .i64 3, .int .i64 (deep : Int)] w fun e w' => ∃ t a' l c, e = .returned (.agg #[.int .i64 (kd t), .int .i64 (nn t), .slice a' l c]) ∧ Rd (fun x => w.heap.size ≤ x) 1048576 w' d t a' l ∧ FineW d t ∧ Src w' b a len cap (k + asksW d) ∧ w.grownBy w' (some b)
end Go.Proofs.Ytikdadpapdkfiaa.wordDraw
