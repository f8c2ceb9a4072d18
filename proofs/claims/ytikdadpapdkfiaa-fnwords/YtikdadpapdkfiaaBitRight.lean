/- Each bit of a right word is a right expression but for its size; of no program; conditions: none. -/
import Derived.Test.YtikdadpapdkfiaaBitWord
namespace Go.Proofs.Ytikdadpapdkfiaa.bitRight
open Go.RowKit Go.Deep Go base trees built wordTrees lessImpl bitRows bitSum bitSumRow bitWord
set_option linter.unusedVariables false

/-- Its nodes are right, however deep one looks. -/
def AllR (t : T) : Prop := ∀ D, right D t = true
theorem AllR.of {t : T} (h : shapeT t = true) (hk : ∀ i, i < ln t → AllR (kid t i)) : AllR t := by
  intro D
  cases D with
  | zero => exact h
  | succ D =>
    show (shapeT t && allTo (fun i => right D (kid t i)) (ln t)) = true
    rw [h, Bool.true_and]
    exact allTo_of fun i hi => hk i hi D
theorem AllR.cT {n : Int} (h0 : 0 ≤ n) (h1 : n ≤ 1) : AllR (cT n) := AllR.of (decide_eq_true ⟨rfl, h0, h1⟩) (fun i hi => absurd hi (Nat.not_lt_zero _))
theorem AllR.vT {n : Int} (h0 : 0 ≤ n) (h1 : n ≤ 11) : AllR (vT n) := AllR.of (decide_eq_true ⟨rfl, h0, h1⟩) (fun i hi => absurd hi (Nat.not_lt_zero _))
theorem AllR.one {x : T} (hx : AllR x) : AllR (ndT 3 1 (one x)) := AllR.of (decide_eq_true (show ((1 : Nat) : Int) = kidsOf 3 ∧ (0 : Int) ≤ 0 ∧ (0 : Int) ≤ mostN 3 from by decide)) (fun i hi => hx)
theorem AllR.two {k : Int} (hk : k = 4 ∨ k = 5 ∨ k = 6) {x y : T} (hx : AllR x) (hy : AllR y) : AllR (ndT k 2 (two x y)) := by
  refine AllR.of ?_ (fun i hi => ?_)
  · refine decide_eq_true (show ((2 : Nat) : Int) = kidsOf k ∧ (0 : Int) ≤ 0 ∧ (0 : Int) ≤ mostN k from ?_)
    rcases hk with rfl | rfl | rfl <;> decide
  · show AllR (built.two x y i)
    unfold built.two
    split
    · exact hx
    · exact hy
theorem AllR.three {x y z : T} (hx : AllR x) (hy : AllR y) (hz : AllR z) : AllR (ndT 7 3 (three x y z)) := by
  refine AllR.of (decide_eq_true (show ((3 : Nat) : Int) = kidsOf 7 ∧ (0 : Int) ≤ 0 ∧ (0 : Int) ≤ mostN 7 from by decide)) (fun i hi => ?_)
  show AllR (built.three x y z i)
  unfold built.three
  split
  · exact hx
  · split
    · exact hy
    · exact hz
theorem cbit_cases (n : Int) (k : Nat) (h0 : 0 ≤ n) (h1 : n < 64) : 0 ≤ cbit n k ∧ cbit n k ≤ 1 := by
  obtain ⟨u, rfl⟩ : ∃ u : Nat, n = (u : Int) := ⟨n.toNat, by omega⟩
  unfold cbit
  have e : ((u : Int) / 2 ^ k) = ((u / 2 ^ k : Nat) : Int) := by simp
  have hl : u / 2 ^ k < 4096 := Nat.lt_of_le_of_lt (Nat.div_le_self _ _) (by omega)
  rw [e]
  generalize u / 2 ^ k = m at *
  have h := bits_mask .i64 40 (by decide) (fun m h0 h1 => by rw [IntKind.wrap_i64]; omega) 1 (by decide) (m : Int) (by omega) (by omega)
  simp only [Int.reducePow, Int.reduceSub] at h
  rw [h]
  omega
theorem less_allR {A B : T} {l : Nat} (hA : ∀ i, i < l → AllR (kid A i)) (hB : ∀ i, i < l → AllR (kid B i)) : ∀ k, k ≤ l → AllR (lessT A B (cT 0) k) := by
  intro k
  induction k with
  | zero => intro _; exact AllR.cT (by decide) (by decide)
  | succ k ih =>
    intro hk
    have hx := hA k (by omega)
    have hy := hB k (by omega)
    exact AllR.two (by decide) (AllR.two (by decide) (AllR.one hx) hy) (AllR.two (by decide) (AllR.one (AllR.two (by decide) hx hy)) (ih (by omega)))
theorem carry_allR {A B : T} {l : Nat} (hA : ∀ i, i < l → AllR (kid A i)) (hB : ∀ i, i < l → AllR (kid B i)) : ∀ k, k ≤ l → AllR (carryT A B k) := by
  intro k
  induction k with
  | zero => intro _; exact AllR.cT (by decide) (by decide)
  | succ k ih =>
    intro hk
    have hx := hA k (by omega)
    have hy := hB k (by omega)
    exact AllR.two (by decide) (AllR.two (by decide) hx hy) (AllR.two (by decide) (ih (by omega)) (AllR.two (by decide) hx hy))
/-- Each bit of a right word. -/
theorem row_allR (b : Nat) (hb1 : 1 ≤ b) (hb2 : b ≤ 6) (d : Nat) : ∀ (t : T) (a : Option Addr) (l : Nat) (w : World), Rd (fun _ => True) 1048576 w d t a l → rightW b d t = true → ∀ i, i < b → AllR (kid (rowW b d t) i) := by
  induction d using Nat.strongRecOn with
  | _ d ih =>
  intro t a l w hr hR i hi
  rcases shape_cases (right_shape hr.zero hR) with ⟨h, _, h0, h1⟩ | ⟨h, _, h0, h1⟩ | ⟨h, hl, _⟩
  · rw [row_const h]
    have := mod_bounds hb1 hb2
    obtain ⟨g0, g1⟩ := cbit_cases (nn t) i h0 (by omega)
    exact AllR.cT g0 g1
  · rw [row_var h]
    have hm : (nn t).toNat + 1 ≤ 12 / b := by omega
    have h2 : ((nn t).toNat + 1) * b ≤ 12 := Nat.le_trans (Nat.mul_le_mul_right b hm) (Nat.div_mul_le_self 12 b)
    have h3 : ((nn t).toNat + 1) * b = (nn t).toNat * b + b := Nat.succ_mul _ _
    exact AllR.vT (by omega) (by omega)
  · have hd : 0 < d := by
      rcases Nat.eq_zero_or_pos d with h' | h'
      · have := hr.zero h'; omega
      · exact h'
    have hll : l = 2 := by rw [← hr.len]; exact hl
    subst hll
    have kids : ∀ j, j < 2 → ∀ i, i < b → AllR (kid (rowW b (d - 1) (kid t j)) i) := fun j hj i hi => by
      obtain ⟨_, _, _, _, _, _, _, a', l', _, _, hk⟩ := hr.cell hj
      exact ih (d - 1) (by omega) (kid t j) a' l' w hk (right_kid hr.zero hR (by rw [hl]; exact hj)) i hi
    rw [row_pos hd h]
    have hA := kids 0 (by omega)
    have hB := kids 1 (by omega)
    split
    · exact AllR.two (by decide) (AllR.two (by decide) (hA i hi) (hB i hi)) (carry_allR hA hB i (by omega))
    · split
      · exact AllR.two (by decide) (hA i hi) (hB i hi)
      · exact AllR.three (less_allR hA hB b (Nat.le_refl _)) (hA i hi) (hB i hi)
end Go.Proofs.Ytikdadpapdkfiaa.bitRight
