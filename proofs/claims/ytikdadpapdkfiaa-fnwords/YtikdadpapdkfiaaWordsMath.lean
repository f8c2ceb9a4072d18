/- The bits of a word of three bits tell its value; of no program; conditions: none but a right word and values that it may have. -/
import Derived.Test.YtikdadpapdkfiaaBitRight
import Derived.Test.YtikdadpapdkfiaaWordVal
import Derived.Test.YtikdadpapdkfiaaTreeEval
namespace Go.Proofs.Ytikdadpapdkfiaa.wordsMath
open Go.RowKit Go.Deep Go base trees built wordTrees lessImpl bitRows bitSum bitSumRow bitWord bitRight
open treeEval (evalT mostV mostV_eq maxI_of)
set_option linter.unusedVariables false

/-- A tree tells a value, however deep one looks from n on. -/
def Tells (vs : List Bool) (n : Nat) (t : T) (x : Bool) : Prop := ∀ D, n ≤ D → evalT vs D t = x
variable {vs : List Bool} {n m : Nat} {s t u : T} {x y z : Bool}
theorem Tells.more (h : Tells vs n t x) (hm : n ≤ m) : Tells vs m t x := fun D hD => h D (by omega)
theorem tells_c (k : Int) : Tells vs 0 (cT k) (decide (k = 1)) := fun D _ => by
  cases D with
  | zero => rfl
  | succ D => rfl
theorem tells_v (k : Int) : Tells vs 0 (vT k) (vs[k.toNat]?.getD false) := fun D _ => by
  cases D with
  | zero => rfl
  | succ D => rfl
theorem tells_not (h : Tells vs n t x) : Tells vs (n + 1) (ndT 3 1 (one t)) (!x) := fun D hD => by
  obtain ⟨D, rfl⟩ : ∃ k, D = k + 1 := ⟨D - 1, by omega⟩
  rw [← h D (by omega)]; rfl
theorem tells_and (h : Tells vs n t x) (h' : Tells vs n u y) : Tells vs (n + 1) (ndT 4 2 (two t u)) (x && y) := fun D hD => by
  obtain ⟨D, rfl⟩ : ∃ k, D = k + 1 := ⟨D - 1, by omega⟩
  rw [← h D (by omega), ← h' D (by omega)]; rfl
theorem tells_or (h : Tells vs n t x) (h' : Tells vs n u y) : Tells vs (n + 1) (ndT 5 2 (two t u)) (x || y) := fun D hD => by
  obtain ⟨D, rfl⟩ : ∃ k, D = k + 1 := ⟨D - 1, by omega⟩
  rw [← h D (by omega), ← h' D (by omega)]; rfl
theorem tells_xor (h : Tells vs n t x) (h' : Tells vs n u y) : Tells vs (n + 1) (ndT 6 2 (two t u)) (x != y) := fun D hD => by
  obtain ⟨D, rfl⟩ : ∃ k, D = k + 1 := ⟨D - 1, by omega⟩
  rw [← h D (by omega), ← h' D (by omega)]; rfl
theorem tells_ite (hs : Tells vs n s z) (h : Tells vs n t x) (h' : Tells vs n u y) : Tells vs (n + 1) (ndT 7 3 (three s t u)) (if z then x else y) := fun D hD => by
  obtain ⟨D, rfl⟩ : ∃ k, D = k + 1 := ⟨D - 1, by omega⟩
  rw [← hs D (by omega), ← h D (by omega), ← h' D (by omega)]; rfl

variable {A B : T} {a b : Nat → Bool}
def carryV (a b : Nat → Bool) : Nat → Bool
  | 0 => false
  | k + 1 => (a k && b k) || (carryV a b k && (a k != b k))
theorem tells_carry {l : Nat} (hA : ∀ i, i < l → Tells vs n (kid A i) (a i)) (hB : ∀ i, i < l → Tells vs n (kid B i) (b i)) : ∀ k, k ≤ l → Tells vs (n + 3 * k) (carryT A B k) (carryV a b k)
  | 0, _ => (tells_c 0).more (by omega)
  | k + 1, hk => by
    have ih := tells_carry hA hB k (by omega)
    have h1 := (hA k (by omega)).more (show n ≤ n + 3 * k by omega)
    have h2 := (hB k (by omega)).more (show n ≤ n + 3 * k by omega)
    exact (tells_or ((tells_and h1 h2).more (show n + 3 * k + 1 ≤ n + 3 * k + 1 + 1 by omega)) (tells_and (ih.more (by omega)) (tells_xor h1 h2))).more (by omega)
theorem tells_sum {l : Nat} (hA : ∀ i, i < l → Tells vs n (kid A i) (a i)) (hB : ∀ i, i < l → Tells vs n (kid B i) (b i)) (i : Nat) (hi : i < l) : Tells vs (n + 3 * i + 2) (kid (sumT A B l) i) ((a i != b i) != carryV a b i) := by
  have ih := tells_carry hA hB i (by omega)
  exact tells_xor (tells_xor ((hA i hi).more (by omega)) ((hB i hi).more (by omega))) (ih.more (by omega))
def lessV (a b : Nat → Bool) : Nat → Bool
  | 0 => false
  | k + 1 => (!(a k) && b k) || (!(a k != b k) && lessV a b k)
theorem tells_less {l : Nat} (hA : ∀ i, i < l → Tells vs n (kid A i) (a i)) (hB : ∀ i, i < l → Tells vs n (kid B i) (b i)) : ∀ k, k ≤ l → Tells vs (n + 4 * k) (lessT A B (cT 0) k) (lessV a b k)
  | 0, _ => (tells_c 0).more (by omega)
  | k + 1, hk => by
    have ih := tells_less hA hB k (by omega)
    have h1 := (hA k (by omega)).more (show n ≤ n + 4 * k by omega)
    have h2 := (hB k (by omega)).more (show n ≤ n + 4 * k by omega)
    exact (tells_or ((tells_and (tells_not h1) (h2.more (by omega))).more (show n + 4 * k + 1 + 1 ≤ n + 4 * k + 1 + 1 + 1 by omega)) (tells_and (tells_not (tells_xor h1 h2)) (ih.more (by omega)))).more (by omega)
theorem tells_min {l : Nat} (hA : ∀ i, i < l → Tells vs n (kid A i) (a i)) (hB : ∀ i, i < l → Tells vs n (kid B i) (b i)) (i : Nat) (hi : i < l) : Tells vs (n + 4 * l + 1) (kid (iteT A B l) i) (if lessV a b l then a i else b i) := by
  have ih := tells_less hA hB l (by omega)
  exact tells_ite ih ((hA i hi).more (by omega)) ((hB i hi).more (by omega))
theorem tells_ands {l : Nat} (hA : ∀ i, i < l → Tells vs n (kid A i) (a i)) (hB : ∀ i, i < l → Tells vs n (kid B i) (b i)) (i : Nat) (hi : i < l) : Tells vs (n + 1) (kid (andT A B l) i) (a i && b i) :=
  tells_and (hA i hi) (hB i hi)

/-- A bit of a number. -/
def bt (x : Int) (i : Nat) : Bool := decide (x / 2 ^ i % 2 = 1)
theorem bt_const : ∀ x : Fin 8, ∀ i : Fin 3, decide (cbit ((x.val : Nat) : Int) i.val = 1) = bt ((x.val : Nat) : Int) i.val := by decide +kernel
theorem bt_sum : ∀ x y : Fin 8, ∀ i : Fin 3, ((bt ((x.val : Nat) : Int) i.val != bt ((y.val : Nat) : Int) i.val) != carryV (bt ((x.val : Nat) : Int)) (bt ((y.val : Nat) : Int)) i.val) = bt ((((x.val : Nat) : Int) + ((y.val : Nat) : Int)) % 8) i.val := by decide +kernel
theorem bt_and : ∀ x y : Fin 8, ∀ i : Fin 3, (bt ((x.val : Nat) : Int) i.val && bt ((y.val : Nat) : Int) i.val) = bt (bits .and .i64 ((x.val : Nat) : Int) ((y.val : Nat) : Int)) i.val := by decide +kernel
theorem bt_min : ∀ x y : Fin 8, ∀ i : Fin 3, (if lessV (bt ((x.val : Nat) : Int)) (bt ((y.val : Nat) : Int)) 3 then bt ((x.val : Nat) : Int) i.val else bt ((y.val : Nat) : Int) i.val) = bt (min ((x.val : Nat) : Int) ((y.val : Nat) : Int)) i.val := by decide +kernel
theorem bt_whole : ∀ x : Fin 8, (((if bt ((x.val : Nat) : Int) 2 then 1 else 0) * 2 + (if bt ((x.val : Nat) : Int) 1 then 1 else 0)) * 2 + (if bt ((x.val : Nat) : Int) 0 then (1 : Int) else 0)) = ((x.val : Nat) : Int) := by decide +kernel
theorem fin8 {x : Int} (h0 : 0 ≤ x) (h1 : x < 8) : ∃ f : Fin 8, x = ((f.val : Nat) : Int) := ⟨⟨x.toNat, by omega⟩, by simp; omega⟩
theorem whole {x : Int} (h0 : 0 ≤ x) (h1 : x < 8) : (((if bt x 2 then 1 else 0) * 2 + (if bt x 1 then 1 else 0)) * 2 + (if bt x 0 then (1 : Int) else 0)) = x := by
  obtain ⟨f, rfl⟩ := fin8 h0 h1
  exact bt_whole f

theorem bits_tell {env : List Int} (hf : wordVal.Fit 3 env) (hv : ∀ j i, j < 4 → i < 3 → vs[j * 3 + i]?.getD false = bt (env[j]?.getD 0) i) {q : Nat → Prop} {M : Nat} {w : World} (d : Nat) : ∀ (t : T) (a : Option Addr) (l : Nat), Rd q M w d t a l → rightW 3 d t = true → ∀ i, i < 3 → Tells vs (13 * d) (kid (rowW 3 d t) i) (bt (wordVal.valW 3 env d t) i) := by
  induction d using Nat.strongRecOn with
  | _ d ih =>
  intro t a l hr hR i hi
  rcases shape_cases (right_shape hr.zero hR) with ⟨h, _, h0, h1⟩ | ⟨h, _, h0, h1⟩ | ⟨h, hl, _⟩
  · rw [row_const h, wordVal.val_const h]
    have h8 : modOf 3 = 8 := rfl
    obtain ⟨f, hfx⟩ := fin8 h0 (by omega)
    have hb := bt_const f ⟨i, hi⟩
    rw [← hfx] at hb
    have h2 := tells_c (vs := vs) (cbit (nn t) i)
    rw [hb] at h2
    exact h2.more (by omega)
  · rw [row_var h, wordVal.val_var h]
    have h12 : 12 / 3 = 4 := rfl
    have e := hv (nn t).toNat i (by omega) hi
    have h2 := tells_v (vs := vs) (((nn t).toNat * 3 + i : Nat) : Int)
    rw [Int.toNat_natCast, e] at h2
    exact h2.more (by omega)
  · have hd : 0 < d := by
      rcases Nat.eq_zero_or_pos d with h' | h'
      · have := hr.zero h'; omega
      · exact h'
    have hll : l = 2 := by rw [← hr.len]; exact hl
    subst hll
    obtain ⟨d', rfl⟩ : ∃ k, d = k + 1 := ⟨d - 1, by omega⟩
    have kids : ∀ j, j < 2 → (∀ i, i < 3 → Tells vs (13 * d') (kid (rowW 3 d' (kid t j)) i) (bt (wordVal.valW 3 env d' (kid t j)) i)) ∧ (0 ≤ wordVal.valW 3 env d' (kid t j) ∧ wordVal.valW 3 env d' (kid t j) < 8) := fun j hj => by
      obtain ⟨_, _, _, _, _, _, _, a', l', _, _, hk⟩ := hr.cell hj
      have hR' := right_kid hr.zero hR (i := j) (by rw [hl]; exact hj)
      have hbd := wordVal.val_bounds (by decide) (by decide) hf hk hR'
      exact ⟨ih d' (by omega) (kid t j) a' l' hk hR', hbd.1, hbd.2⟩
    obtain ⟨kA, bA0, bA1⟩ := kids 0 (by omega)
    obtain ⟨kB, bB0, bB1⟩ := kids 1 (by omega)
    have e1 := row_pos (b := 3) hd h
    have e2 := wordVal.val_pos (b := 3) (vs := env) (t := t) hd
    rw [if_neg (by omega), if_neg (by omega)] at e2
    rw [Nat.add_sub_cancel] at e1 e2
    rw [e1, e2]
    clear e1 e2 kids
    generalize rowW 3 d' (kid t 0) = A at *
    generalize rowW 3 d' (kid t 1) = B at *
    obtain ⟨fx, hx⟩ := fin8 bA0 bA1
    obtain ⟨fy, hy⟩ := fin8 bB0 bB1
    generalize wordVal.valW 3 env d' (kid t 0) = X at *
    generalize wordVal.valW 3 env d' (kid t 1) = Y at *
    subst hx hy
    by_cases h3 : kd t = 3
    · rw [if_pos h3, if_pos h3]
      have h2 := tells_sum kA kB i hi
      rw [bt_sum fx fy ⟨i, hi⟩] at h2
      exact h2.more (by omega)
    · rw [if_neg h3, if_neg h3]
      by_cases h4 : kd t = 4
      · rw [if_pos h4, if_pos h4]
        have h2 := tells_ands kA kB i hi
        rw [bt_and fx fy ⟨i, hi⟩] at h2
        exact h2.more (by omega)
      · rw [if_neg h4, if_neg h4]
        have h2 := tells_min kA kB i hi
        rw [bt_min fx fy ⟨i, hi⟩] at h2
        exact h2.more (by omega)
theorem most_right {q : Nat → Prop} {M : Nat} {w : World} (D : Nat) : ∀ (t : T) (a : Option Addr) (l : Nat), Rd q M w D t a l → right D t = true → mostV D t ≤ 11 := by
  induction D using Nat.strongRecOn with
  | _ D ih =>
  intro t a l hr hR
  rw [mostV_eq hr.zero]
  have hs := treeEval.shape_cases (treeEval.right_shape hr.zero hR)
  split
  · rename_i h1
    omega
  · refine maxI_of (by omega) fun i hi => ?_
    have hl := hr.len
    obtain ⟨hd, _, _, _, _, _, _, a', l', _, _, hk⟩ := hr.cell (i := i) (by omega)
    exact ih (D - 1) (by omega) (kid t i) a' l' hk (treeEval.right_kid hr.zero hR hi)
end Go.Proofs.Ytikdadpapdkfiaa.wordsMath
