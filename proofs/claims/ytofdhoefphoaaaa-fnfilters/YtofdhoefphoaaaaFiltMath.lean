/- The expression of filters is true of a port's bits just when the port is filtered; of no program; conditions: ports that may be. -/
import Derived.Test.YtofdhoefphoaaaaFexSem
import Derived.Test.YtofdhoefphoaaaaFiltSem
import Derived.Test.YtofdhoefphoaaaaTreeEval
import Derived.Test.YtofdhoefphoaaaaValues
namespace Go.Proofs.Ytofdhoefphoaaaa.filtMath
open Go.RowKit Go.Deep Go base trees built lessImpl bitRows netSem filtSem fexSem treeEval values
set_option linter.unusedVariables false

/-- A tree tells a value, however deep one looks from n on, and has no variable above 3. -/
def Tells (vs : List Bool) (n : Nat) (t : T) (x : Bool) : Prop := ∀ D, n ≤ D → evalT vs D t = x ∧ mostV D t ≤ 3
variable {vs : List Bool} {n m : Nat} {s t u : T} {x y z : Bool}
theorem Tells.more (h : Tells vs n t x) (hm : n ≤ m) : Tells vs m t x := fun D hD => h D (by omega)
theorem most_c (D : Nat) (k : Int) : mostV D (cT k) ≤ 3 := by
  rw [mostV_eq (fun _ => rfl), if_neg (by show (2 : Int) ≠ 1; decide)]
  exact maxI_of (by decide) fun i hi => absurd hi (Nat.not_lt_zero _)
theorem tells_c (k : Int) : Tells vs 0 (cT k) (decide (k = 1)) := fun D _ => by
  refine ⟨?_, most_c D k⟩
  cases D with
  | zero => rfl
  | succ D => rfl
theorem tells_v (k : Nat) (hk : k ≤ 3) : Tells vs 0 (vT (k : Int)) (vs[k]?.getD false) := fun D _ => by
  cases D with
  | zero => exact ⟨rfl, by show (k : Int) ≤ 3; omega⟩
  | succ D => exact ⟨rfl, by show (k : Int) ≤ 3; omega⟩
theorem most_one {d : Nat} {t : T} (h : mostV d t ≤ 3) : mostV (d + 1) (ndT 3 1 (one t)) ≤ 3 := by
  rw [mostV_eq (fun e => by omega), if_neg (by show (3 : Int) ≠ 1; decide)]
  exact maxI_of (by decide) fun i hi => h
theorem most_two {d : Nat} {k : Int} {t u : T} (hk : k ≠ 1) (hx : mostV d t ≤ 3) (hy : mostV d u ≤ 3) : mostV (d + 1) (ndT k 2 (two t u)) ≤ 3 := by
  rw [mostV_eq (fun e => by omega), if_neg (show kd (ndT k 2 (two t u)) ≠ 1 from hk)]
  refine maxI_of (by decide) fun i hi => ?_
  show mostV d (two t u i) ≤ 3
  unfold two
  split
  · exact hx
  · exact hy
theorem tells_not (h : Tells vs n t x) : Tells vs (n + 1) (ndT 3 1 (one t)) (!x) := fun D hD => by
  obtain ⟨D, rfl⟩ : ∃ k, D = k + 1 := ⟨D - 1, by omega⟩
  obtain ⟨h1, h2⟩ := h D (by omega)
  exact ⟨by rw [← h1]; rfl, most_one h2⟩
theorem tells_and (h : Tells vs n t x) (h' : Tells vs n u y) : Tells vs (n + 1) (ndT 4 2 (two t u)) (x && y) := fun D hD => by
  obtain ⟨D, rfl⟩ : ∃ k, D = k + 1 := ⟨D - 1, by omega⟩
  obtain ⟨h1, h2⟩ := h D (by omega)
  obtain ⟨h3, h4⟩ := h' D (by omega)
  exact ⟨by rw [← h1, ← h3]; rfl, most_two (by decide) h2 h4⟩
theorem tells_or (h : Tells vs n t x) (h' : Tells vs n u y) : Tells vs (n + 1) (ndT 5 2 (two t u)) (x || y) := fun D hD => by
  obtain ⟨D, rfl⟩ : ∃ k, D = k + 1 := ⟨D - 1, by omega⟩
  obtain ⟨h1, h2⟩ := h D (by omega)
  obtain ⟨h3, h4⟩ := h' D (by omega)
  exact ⟨by rw [← h1, ← h3]; rfl, most_two (by decide) h2 h4⟩
theorem tells_xor (h : Tells vs n t x) (h' : Tells vs n u y) : Tells vs (n + 1) (ndT 6 2 (two t u)) (x != y) := fun D hD => by
  obtain ⟨D, rfl⟩ : ∃ k, D = k + 1 := ⟨D - 1, by omega⟩
  obtain ⟨h1, h2⟩ := h D (by omega)
  obtain ⟨h3, h4⟩ := h' D (by omega)
  exact ⟨by rw [← h1, ← h3]; rfl, most_two (by decide) h2 h4⟩
variable {A B : T} {a b : Nat → Bool}
def lessV (a b : Nat → Bool) : Nat → Bool
  | 0 => false
  | k + 1 => (!(a k) && b k) || (!(a k != b k) && lessV a b k)
theorem tells_less {l : Nat} (hA : ∀ i, i < l → Tells vs n (kid A i) (a i)) (hB : ∀ i, i < l → Tells vs n (kid B i) (b i)) : ∀ k, k ≤ l → Tells vs (n + 4 * k) (lessT A B (cT 0) k) (lessV a b k)
  | 0, _ => (tells_c 0).more (by omega)
  | k + 1, hk => by
    have ih := tells_less hA hB k (by omega)
    have h1 := (hA k (by omega)).more (show n ≤ n + 4 * k by omega)
    have h2 := (hB k (by omega)).more (show n ≤ n + 4 * k by omega)
    exact (tells_or ((tells_and (tells_not h1) (h2.more (by omega))).more (show n + 4 * k + 1 + 1 ≤ n + 4 * k + 1 + 1 + 1 by omega)) (tells_and (tells_not (tells_xor h1 h2)) (ih.more (by omega)))).more (by omega)
theorem less_16 : ∀ (i n : Fin 16), lessV (fun k => (valsOf i.val 4)[k]?.getD false) (fun k => decide (cbit (n.val : Int) k = 1)) 4 = decide (i.val < n.val) ∧ lessV (fun k => decide (cbit (n.val : Int) k = 1)) (fun k => (valsOf i.val 4)[k]?.getD false) 4 = decide (n.val < i.val) := by decide +kernel
theorem tells_port (i k : Nat) (hk : k < 4) : Tells (valsOf i 4) 0 (kid portT k) ((valsOf i 4)[k]?.getD false) := by
  have h := tells_v (vs := valsOf i 4) (0 * 4 + k) (by omega)
  have e : 0 * 4 + k = k := by omega
  rw [e] at h
  show Tells _ 0 (vT ((0 * 4 + k : Nat) : Int)) _
  rw [e]
  exact h
theorem tells_bits (vs : List Bool) (n : Int) (k : Nat) : Tells vs 0 (kid (constT n 4) k) (decide (cbit n k = 1)) := tells_c _
theorem tells_within (i : Nat) (hi : i < 16) (lo hiP : Int) (h0 : 0 ≤ lo) (h1 : lo < 16) (h2 : 0 ≤ hiP) (h3 : hiP < 16) : Tells (valsOf i 4) 18 (withinT lo hiP) (inB i lo hiP) := by
  have a1 := tells_less (l := 4) (fun k hk => tells_port i k hk) (fun k _ => tells_bits (valsOf i 4) lo k) 4 (Nat.le_refl _)
  have a2 := tells_less (l := 4) (fun k _ => tells_bits (valsOf i 4) hiP k) (fun k hk => tells_port i k hk) 4 (Nat.le_refl _)
  have b1 := (less_16 ⟨i, hi⟩ ⟨lo.toNat, by omega⟩).1
  have b2 := (less_16 ⟨i, hi⟩ ⟨hiP.toNat, by omega⟩).2
  simp only [] at b1 b2
  rw [show ((lo.toNat : Nat) : Int) = lo by omega] at b1
  rw [show ((hiP.toNat : Nat) : Int) = hiP by omega] at b2
  rw [b1] at a1
  rw [b2] at a2
  have := tells_and (tells_not a1) (tells_not a2)
  have e : (!decide (i < lo.toNat) && !decide (hiP.toNat < i)) = inB i lo hiP := by
    unfold inB
    rw [Bool.eq_iff_iff]
    simp
    omega
  rw [e] at this
  exact this
theorem filt_succ (f : R) (k : Nat) (a b port : Int) : filt f (k + 1) a b port = (filt f k a b port || filtB f a b port k) := by
  rw [Bool.eq_iff_iff]
  unfold filt
  simp only [Bool.or_eq_true, decide_eq_true_eq, firstAt_spec]
  constructor
  · rintro ⟨i, hi, h⟩
    by_cases e : i = k
    · subst e; exact .inr h
    · exact .inl ⟨i, by omega, h⟩
  · rintro (⟨i, hi, h⟩ | h)
    · exact ⟨i, by omega, h⟩
    · exact ⟨k, by omega, h⟩
/-- The expression of the first k filters is true of a port just when one of them is for it. -/
theorem tells_fex (f : R) (a b : Int) (i : Nat) (hi : i < 16) : ∀ k, (∀ j, j < k → (0 ≤ f j 2 ∧ f j 2 < 16) ∧ 0 ≤ f j 3 ∧ f j 3 < 16) → Tells (valsOf i 4) (19 + k) (fexT f a b k) (filt f k a b i)
  | 0, _ => (tells_c 0).more (by omega)
  | k + 1, h => by
    have ih := tells_fex f a b i hi k (fun j hj => h j (by omega))
    obtain ⟨⟨h0, h1⟩, h2, h3⟩ := h k (by omega)
    rw [filt_succ]
    simp only [fexT]
    by_cases e : f k 0 = a ∧ f k 1 = b
    · rw [if_pos e]
      have e2 : filtB f a b i k = inB i (f k 2) (f k 3) := by
        unfold filtB
        rw [e.1, e.2]
        simp
      rw [e2]
      exact (tells_or ih ((tells_within i hi _ _ h0 h1 h2 h3).more (by omega))).more (by omega)
    · rw [if_neg e]
      have e2 : filtB f a b i k = false := by
        unfold filtB
        by_cases e3 : f k 0 = a
        · have e4 : ¬ f k 1 = b := fun h => e ⟨e3, h⟩
          simp [e4]
        · simp [e3]
      rw [e2, Bool.or_false]
      exact ih.more (by omega)
end Go.Proofs.Ytofdhoefphoaaaa.filtMath
