/- What is built of a list of expressions: its code, its literals, its gates; of no program; conditions: none. -/
import Derived.Test.YtaileckcflnbdaaBuildTree
import Derived.Test.YtaileckcflnbdaaTreeEval
namespace Go.Proofs.Ytaileckcflnbdaa.buildList
open Go.RowKit Go.Deep Go base trees treeEval buildSem buildTree
set_option linter.unusedVariables false

theorem here_of {n : Int} {d : Nat} {t : T} (h0 : d = 0 → ln t = 0) (hR : right d t = true) (hm : mostV d t < n) : Here n t := by
  have h1 := shape_cases (right_shape h0 hR)
  rw [mostV_eq h0] at hm
  unfold Here
  rcases h1 with h | h | h | h | h | h | h
  · rw [if_pos h.1] at hm
    omega
  all_goals omega
theorem ok_of {q : Nat → Prop} {M : Nat} {w : World} {n : Int} (d : Nat) : ∀ (t : T) (a : Option Addr) (l : Nat), Rd q M w d t a l → right d t = true → mostV d t < n → OkT n d t := by
  induction d with
  | zero =>
    intro t a l hr hR hm
    exact ⟨here_of (fun e => hr.zero e) hR hm, hr.zero rfl⟩
  | succ d ih =>
    intro t a l hr hR hm
    have h0 : d + 1 = 0 → ln t = 0 := fun e => by omega
    have hh := here_of h0 hR hm
    refine ⟨hh, fun i hi => ?_⟩
    obtain ⟨_, b, off, _, _, _, _, a', l', c', _, hx⟩ := hr.cell (i := i) (by rw [← hr.len]; exact hi)
    have hk : kd t ≠ 1 := by
      unfold Here at hh
      omega
    have := mostV_kid h0 hk hi
    exact ih (kid t i) a' l' hx (right_kid h0 hR hi) (by have e : d + 1 - 1 = d := rfl; rw [e] at this; omega)

/-- The fault of one expression of a list. -/
def faultAt (n : Int) (d : Nat) (t : T) (i : Nat) : Int := if okB (d - 1) (kid t i) 1 0 = false then 1 else if n ≤ mostV (d - 1) (kid t i) then 5 else 0
/-- The first fault of the first k. -/
def faultL (n : Int) (d : Nat) (t : T) : Nat → Int
  | 0 => 0
  | k + 1 => if faultL n d t k ≠ 0 then faultL n d t k else faultAt n d t k
theorem fault_next {n : Int} {d : Nat} {t : T} {k : Nat} (h : faultL n d t k = 0) : faultL n d t (k + 1) = faultAt n d t k := by
  simp only [faultL]; rw [if_neg (by simp [h])]
theorem fault_stays {n : Int} {d : Nat} {t : T} {k : Nat} (h : faultL n d t k ≠ 0) : ∀ j, faultL n d t (k + j) = faultL n d t k
  | 0 => rfl
  | j + 1 => by
    have e := fault_stays h j
    show faultL n d t (k + j + 1) = _
    simp only [faultL]
    rw [e, if_pos h]
theorem fault_stop {n : Int} {d : Nat} {t : T} {k l : Nat} (hk : k < l) (h : faultL n d t k = 0) (h1 : faultAt n d t k ≠ 0) : faultL n d t l = faultAt n d t k := by
  have e := fault_next h
  have := fault_stays (n := n) (d := d) (t := t) (k := k + 1) (by rw [e]; exact h1) (l - (k + 1))
  rw [← e, ← this]
  congr 1
  omega
theorem fault_at {n : Int} {d : Nat} {t : T} {l : Nat} (h : faultL n d t l = 0) : ∀ i, i < l → faultAt n d t i = 0 := by
  induction l with
  | zero => intro i hi; omega
  | succ l ih =>
    have hl : faultL n d t l = 0 := Classical.byContradiction fun hn => by
      have := fault_stays hn 1
      rw [h] at this
      exact hn this.symm
    intro i hi
    by_cases e : i = l
    · subst e; rw [← fault_next hl]; exact h
    · exact ih hl i (by omega)
theorem fault_none {n : Int} {d : Nat} {t : T} {i : Nat} (h : faultAt n d t i = 0) : okB (d - 1) (kid t i) 1 0 = true ∧ mostV (d - 1) (kid t i) < n := by
  unfold faultAt at h
  by_cases h1 : okB (d - 1) (kid t i) 1 0 = false
  · rw [if_pos h1] at h; omega
  · rw [if_neg h1] at h
    by_cases h2 : n ≤ mostV (d - 1) (kid t i)
    · rw [if_pos h2] at h; omega
    · exact ⟨by simpa using h1, by omega⟩
/-- What is built of the first k expressions of a list: literals and gates. -/
abbrev rowB (n : Int) (d : Nat) (t : T) (k : Nat) : List Int × Gl := makeRow (makeT n (d - 1)) t k []
theorem row_mono {n : Int} {d : Nat} {t : T} (hn : 0 ≤ n) {l : Nat} (hok : ∀ i, i < l → OkT n (d - 1) (kid t i)) {k : Nat} : ∀ j, k + j ≤ l → (rowB n d t k).2.length ≤ (rowB n d t (k + j)).2.length
  | 0, _ => Nat.le_refl _
  | j + 1, hj => by
    have h1 := row_mono hn hok (k := k) j (by omega)
    have h2 := (make_fine hn (d - 1) (kid t (k + j)) (rowB n d t (k + j)).2 (hok (k + j) (by omega))).2.1
    exact Nat.le_trans h1 h2
def bC (n : Int) (d : Nat) (t : T) (l : Nat) : Int := if 4096 < l then 2 else if ¬ (0 ≤ n ∧ n ≤ 12) then 5 else if faultL n d t l ≠ 0 then faultL n d t l else if 400 < (rowB n d t l).2.length then 11 else 0
def bG (n : Int) (d : Nat) (t : T) (l : Nat) : Gl := if bC n d t l = 0 then (rowB n d t l).2 else []
def bL (n : Int) (d : Nat) (t : T) (l : Nat) : List Int := if bC n d t l = 0 then (rowB n d t l).1 else []
def bN (n : Int) (d : Nat) (t : T) (l : Nat) : Int := if bC n d t l = 0 then n else 0
theorem bC_long {n : Int} {d : Nat} {t : T} {l : Nat} (h : 4096 < l) : bC n d t l = 2 := by unfold bC; rw [if_pos h]
theorem bC_range {n : Int} {d : Nat} {t : T} {l : Nat} (h : ¬ 4096 < l) (h1 : ¬ (0 ≤ n ∧ n ≤ 12)) : bC n d t l = 5 := by unfold bC; rw [if_neg h, if_pos h1]
theorem bC_fault {n : Int} {d : Nat} {t : T} {k l : Nat} (h : ¬ 4096 < l) (h1 : 0 ≤ n ∧ n ≤ 12) (hk : k < l) (h2 : faultL n d t k = 0) (h3 : faultAt n d t k ≠ 0) : bC n d t l = faultAt n d t k := by
  have e := fault_stop hk h2 h3
  unfold bC; rw [if_neg h, if_neg (by simp [h1]), e, if_pos h3]
theorem bC_size {n : Int} {d : Nat} {t : T} {k l : Nat} (h : ¬ 4096 < l) (h1 : 0 ≤ n ∧ n ≤ 12) (h2 : faultL n d t l = 0) (hok : ∀ i, i < l → OkT n (d - 1) (kid t i)) (hk : k ≤ l) (h3 : 400 < (rowB n d t k).2.length) : bC n d t l = 11 := by
  have h4 := row_mono h1.1 hok (k := k) (l - k) (by omega)
  have e : k + (l - k) = l := by omega
  rw [e] at h4
  unfold bC; rw [if_neg h, if_neg (by simp [h1]), if_neg (by simp [h2]), if_pos (by omega)]
theorem bC_ok {n : Int} {d : Nat} {t : T} {l : Nat} (h : ¬ 4096 < l) (h1 : 0 ≤ n ∧ n ≤ 12) (h2 : faultL n d t l = 0) (h3 : ¬ 400 < (rowB n d t l).2.length) : bC n d t l = 0 := by
  unfold bC; rw [if_neg h, if_neg (by simp [h1]), if_neg (by simp [h2]), if_neg h3]
end Go.Proofs.Ytaileckcflnbdaa.buildList
