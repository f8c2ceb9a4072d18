/- The laws' own helpers over trees of expressions, with what they own: how many nodes are counted, copies, marks; conditions: lengths that fit. -/
import Derived.Test.YtnaodjnmoicekaaOwnTree
import Derived.Test.YtnaodjnmoicekaaTreeCopy
namespace Go.Proofs.Ytnaodjnmoicekaa.treeOwn
open Go.RowKit Go.Deep base trees ownTree
set_option linter.unusedVariables false

/-- How many nodes a row of trees has. -/
def rowN (d : Nat) (t : T) : Nat := sumTo (fun i => size (d - 1) (kid t i)) (ln t)
theorem size_rowN {d : Nat} {t : T} (h0 : d = 0 → ln t = 0) : size d t = 1 + rowN d t := size_eq h0

theorem ow_set {w : World} {d l : Nat} {t : T} {a : Option Addr} {S : Nat → Prop} (h : Ow w d t a l S) {x : Addr} (hx : ¬ S x.block) (v : Value) : Ow (w.setCell x v) d t a l S :=
  h.kept fun b hb _ => Below.heap_setCell _ _ _ _ (fun e => hx (e ▸ hb))
theorem size_set (w : World) (x : Addr) (v : Value) : (w.setCell x v).heap.size = w.heap.size := by simp [World.setCell]

/-- A row of trees in block N of its own, of which the first k are laid, each between two marks of its own. -/
def Laid (w : World) (N len k d : Nat) (t : T) : Prop := ∃ (F : Nat → Value) (f : Nat → Option Addr × Nat × Nat) (lo hi : Nat → Nat), w.rowIs N 32 (len * 3) F ∧
    (∀ i, i < k → F (i * 3) = .int .i64 (kd (kid t i)) ∧ F (i * 3 + 1) = .int .i64 (nn (kid t i)) ∧ F (i * 3 + 2) = .slice (f i).1 (f i).2.1 (f i).2.2 ∧ N < lo i ∧ hi i ≤ w.heap.size ∧ Ow w (d - 1) (kid t i) (f i).1 (f i).2.1 (fun b => lo i ≤ b ∧ b < hi i)) ∧ ∀ i j, i < j → j < k → hi i ≤ lo j
theorem Laid.ow {w : World} {B N len d : Nat} {t : T} (h : Laid w N len len d t) (hl : ln t = len) (hz : d = 0 → ln t = 0) (hm : len ≤ 1048576) (hB : B ≤ N) : Ow w d t (some ⟨N, 0, none⟩) len (fun b => B ≤ b ∧ b < w.heap.size) := by
  obtain ⟨F, f, lo, hi, hF, hc, hlt⟩ := h
  cases d with
  | zero => exact ⟨hl, by rw [← hl]; exact hz rfl⟩
  | succ d =>
    refine ⟨hl, hm, fun hl0 => ⟨N, f, fun i b => lo i ≤ b ∧ b < hi i, rfl, ⟨hB, hF.lt⟩, fun x => hF.frozen x, fun i b hi' hb' => ?_, fun i j b hi' hj' h1 h2 => ?_, fun i hi' => ?_⟩⟩
    · obtain ⟨_, _, _, q1, q2, _⟩ := hc i hi'
      exact ⟨⟨by omega, by omega⟩, by omega⟩
    · rcases Nat.lt_trichotomy i j with h | h | h
      · have := hlt i j h hj'; omega
      · exact h
      · have := hlt j i h hi'; omega
    · obtain ⟨e0, e1, e2, _, _, q⟩ := hc i hi'
      refine ⟨⟨?_, ?_, ?_⟩, by simpa using q⟩
      · rw [← e0]; exact hF.cell (by omega)
      · rw [← e1]; exact hF.cell (by omega)
      · rw [← e2]; exact hF.cell (by omega)
theorem Laid.below {w w1 : World} {N len k d : Nat} {t : T} (h : Laid w N len k d t) (hb : Below w.heap.size w w1) : Laid w1 N len k d t := by
  obtain ⟨F, f, lo, hi, hF, hc, hlt⟩ := h
  refine ⟨F, f, lo, hi, hF.of_block (hb.block _ hF.lt), fun i hi' => ?_, hlt⟩
  obtain ⟨e0, e1, e2, q1, q2, q⟩ := hc i hi'
  exact ⟨e0, e1, e2, q1, Nat.le_trans q2 hb.size, q.below hb⟩
/-- One more: W is the world ahead of the call that made it. -/
theorem Laid.next {W w : World} {N len k d M l : Nat} {t : T} (h : Laid W N len k d t) (hb : Below W.heap.size W w) (hk : k < len) (hr : Ow w (d - 1) (kid t k) (some ⟨M, 0, none⟩) l (fun b => W.heap.size ≤ b ∧ b < w.heap.size)) :
    Laid (((w.setCell ⟨N, k * 3, none⟩ (.int .i64 (kd (kid t k)))).setCell ⟨N, k * 3 + 1, none⟩ (.int .i64 (nn (kid t k)))).setCell ⟨N, k * 3 + 2, none⟩ (.slice (some ⟨M, 0, none⟩) l l)) N len (k + 1) d t := by
  obtain ⟨F, f, lo, hi, hF0, hc0, hlt⟩ := h
  have hN : N < W.heap.size := hF0.lt
  have hF := hF0.of_block (hb.block _ hF0.lt)
  refine ⟨_, fun i => if i = k then (some ⟨M, 0, none⟩, l, l) else f i, fun i => if i = k then W.heap.size else lo i, fun i => if i = k then w.heap.size else hi i, ((hF.set (k * 3) _).set (k * 3 + 1) _).set (k * 3 + 2) _, fun i hik => ?_, fun i j hij hj => ?_⟩
  · by_cases e : i = k
    · subst e
      refine ⟨by rw [if_neg (by omega), if_neg (by omega), if_pos rfl], by rw [if_neg (by omega), if_pos rfl], by rw [if_pos rfl]; simp, by simp only [if_true]; exact hN, by simp, ?_⟩
      simp only [if_true]
      exact ow_set (ow_set (ow_set hr (by simp; omega) _) (by simp; omega) _) (by simp; omega) _
    · obtain ⟨e0, e1, e2, q1, q2, q0⟩ := hc0 i (by omega)
      have q := q0.below hb
      have hbs := hb.size
      simp only [if_neg e]
      refine ⟨by rw [if_neg (by omega), if_neg (by omega), if_neg (by omega)]; exact e0, by rw [if_neg (by omega), if_neg (by omega), if_neg (by omega)]; exact e1, by rw [if_neg (by omega), if_neg (by omega), if_neg (by omega)]; exact e2, q1, by simp only [size_set]; omega, ?_⟩
      exact ow_set (ow_set (ow_set q (by simp; omega) _) (by simp; omega) _) (by simp; omega) _
  · by_cases e : j = k
    · subst e
      simp only [if_neg (show i ≠ j by omega), if_true]
      exact (hc0 i hij).2.2.2.2.1
    · simp only [if_neg (show i ≠ k by omega), if_neg e]
      exact hlt i j hij (by omega)

end Go.Proofs.Ytnaodjnmoicekaa.treeOwn
