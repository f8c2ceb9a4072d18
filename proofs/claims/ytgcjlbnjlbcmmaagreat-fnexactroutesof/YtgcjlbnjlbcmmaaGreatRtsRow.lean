/- Owned rows of routes, told by their cells; conditions: none. -/
import Derived.Test.YtgcjlbnjlbcmmaaGreatCandSem
import Derived.Test.YtgcjlbnjlbcmmaaGreatIntsOwn
namespace Go.Proofs.YtgcjlbnjlbcmmaaGreat.rtsRow
open Go.RowKit Go.Deep Go base netSem nbSem intsOwn routeRow candSem
set_option linter.unusedVariables false

/-- Routes of a list, as a function. -/
def rF (zs : List Rt) (i : Nat) : Rt := zs[i]?.getD noRt
theorem flat_at (zs : List Rt) (i j : Nat) (hi : i < zs.length) (hj : j < 4) : (zs.flatMap rcs)[i * 4 + j]? = some (rc (rF zs i) j) := by
  induction zs generalizing i with
  | nil => exact absurd hi (Nat.not_lt_zero _)
  | cons a zs ih =>
    simp only [List.flatMap_cons]
    match i with
    | 0 =>
      rw [List.getElem?_append_left (by simp [rcs]; omega)]
      match j, hj with
      | 0, _ => simp [rcs, rc, rF]
      | 1, _ => simp [rcs, rc, rF]
      | 2, _ => simp [rcs, rc, rF]
      | 3, _ => simp [rcs, rc, rF]
      | j + 4, hj => exact absurd hj (by omega)
    | i + 1 =>
      rw [List.getElem?_append_right (by simp [rcs]; omega), show (i + 1) * 4 + j - (rcs a).length = i * 4 + j by simp [rcs]; omega]
      rw [ih i (by simp only [List.length_cons] at hi; omega)]
      simp [rF]
theorem rts_form {B : Nat} {w : World} {v : Value} {zs : List Rt} (h : OwnRts B w v zs) : ∃ a c, v = .slice a zs.length c ∧ RtRow w a zs.length (rF zs) := by
  obtain ⟨h1, h2⟩ := h
  rcases h2 with ⟨rfl, h0⟩ | ⟨g, cap, cur, rfl, hb, hh, hc, hm, hs, ht⟩
  · rw [h0]
    exact ⟨none, 0, rfl, by unfold maxLen; omega, fun i hi => absurd hi (Nat.not_lt_zero _)⟩
  · refine ⟨some ⟨g, 0, none⟩, cap, rfl, Nat.le_trans hc hm, fun i hi => ⟨g, 0, rfl, fun j hj => ?_⟩⟩
    have h7 := flat_at zs i j hi hj
    rw [← ht, List.getElem?_take_of_lt (by omega)] at h7
    rw [Nat.zero_add]
    simp only [World.cell?, hh]
    simpa using h7
theorem rts_row {B : Nat} {w : World} {a : Option Addr} {n c : Nat} {zs : List Rt} (h : OwnRts B w (.slice a n c) zs) : RtRow w a n (rF zs) := by
  obtain ⟨a', c', e, hr⟩ := rts_form h
  have e1 : a = a' := by injection e
  have e2 : n = zs.length := by injection e
  subst e1 e2
  exact hr
theorem rts_blocks {B : Nat} {w w1 : World} {v : Value} {zs : List Rt} (h : OwnRts B w v zs) (hb : ∀ g, v.ownBlock = some g → g < w.heap.size → w1.heap[g]? = w.heap[g]?) : OwnRts B w1 v zs := by
  obtain ⟨h1, h2⟩ := h
  refine ⟨h1, ?_⟩
  rcases h2 with h2 | ⟨g, cap, cur, rfl, hgB, hh, hn⟩
  · exact .inl h2
  · exact .inr ⟨g, cap, cur, rfl, hgB, (hb g rfl (Array.getElem?_eq_some_iff.1 hh).1).trans hh, hn⟩
theorem rts_low {B : Nat} {w w1 : World} {v : Value} {zs : List Rt} (h : OwnRts B w v zs) (hb : Below w.heap.size w w1) : OwnRts B w1 v zs := rts_blocks h fun g _ hg => hb.block g hg
theorem rts_keeps {B : Nat} {w w1 : World} {v : Value} {zs : List Rt} {row : Option Nat} (h : OwnRts B w v zs) (hg : w.grownBy w1 row) (hne : ∀ g, v.ownBlock = some g → some g ≠ row) : OwnRts B w1 v zs := rts_blocks h fun g e hgl => hg.block g hgl (hne g e)
theorem rts_lt {B g : Nat} {w : World} {v : Value} {zs : List Rt} (h : OwnRts B w v zs) (hg : v.ownBlock = some g) : B ≤ g ∧ g < w.heap.size := World.ownsRow.lt h g hg
/-- The best of a list, or none. -/
def bst (zs : List Rt) : Rt := if zs.length = 0 then noRt else bestTo (rF zs) (zs.length - 1)
theorem bst_nil {zs : List Rt} (h : zs.length = 0) : bst zs = noRt := by unfold bst; rw [if_pos h]
theorem bst_some {zs : List Rt} (h : 0 < zs.length) : bst zs = bestTo (rF zs) (zs.length - 1) := by unfold bst; rw [if_neg (by omega)]
end Go.Proofs.YtgcjlbnjlbcmmaaGreat.rtsRow
