/- What is built of a tree: literals stay those of nodes that are there, and how many gates there are at most; of no program; conditions: none. -/
import Derived.Test.YtaileckcflnbdaaBuildSem
namespace Go.Proofs.Ytaileckcflnbdaa.buildTree
open Go.RowKit Go.Deep Go base trees buildSem
set_option linter.unusedVariables false

/-- A node that is right, its variable one of n. -/
def Here (n : Int) (t : T) : Prop := (kd t = 1 ∧ 0 ≤ nn t ∧ nn t < n ∧ ln t = 0) ∨ (kd t = 2 ∧ 0 ≤ nn t ∧ nn t ≤ 1 ∧ ln t = 0) ∨ (kd t = 3 ∧ ln t = 1) ∨ ((kd t = 4 ∨ kd t = 5 ∨ kd t = 6) ∧ ln t = 2) ∨ (kd t = 7 ∧ ln t = 3)
def OkT (n : Int) : Nat → T → Prop
  | 0, t => Here n t ∧ ln t = 0
  | d + 1, t => Here n t ∧ ∀ i, i < ln t → OkT n d (kid t i)
theorem OkT.here {n : Int} {d : Nat} {t : T} (h : OkT n d t) : Here n t := by
  cases d with
  | zero => exact h.1
  | succ d => exact h.1
theorem OkT.zero {n : Int} {d : Nat} {t : T} (h : OkT n d t) (e : d = 0) : ln t = 0 := by
  subst e; exact h.2
theorem OkT.kid {n : Int} {d : Nat} {t : T} (h : OkT n d t) {i : Nat} (hi : i < ln t) : OkT n (d - 1) (trees.kid t i) := by
  cases d with
  | zero => have := h.2; omega
  | succ d => exact h.2 i hi
theorem size_sum {d : Nat} {t : T} (h0 : d = 0 → ln t = 0) : size d t = 1 + sumTo (fun i => size (d - 1) (kid t i)) (ln t) := by
  cases d with
  | zero => rw [h0 rfl]; rfl
  | succ d => rfl
theorem at0_app_lt {ks : List Int} {x : Int} {i : Nat} (h : i < ks.length) : at0 (ks ++ [x]) i = at0 ks i := by
  unfold at0
  rw [List.getElem?_append_left h]
theorem at0_app_eq {ks : List Int} {x : Int} : at0 (ks ++ [x]) ks.length = x := by
  unfold at0
  simp
theorem row_len (mk : T → Gl → Int × Gl) (t : T) (gs : Gl) : ∀ k, (makeRow mk t k gs).1.length = k
  | 0 => rfl
  | k + 1 => by simp only [makeRow, List.length_append, row_len mk t gs k, List.length_cons, List.length_nil]
def Fine (n : Int) (gs : Gl) (m : Nat) (r : Int × Gl) : Prop := In n r.2 r.1 ∧ gs.length ≤ r.2.length ∧ r.2.length ≤ gs.length + m
theorem row_fine {n : Int} (mk : T → Gl → Int × Gl) (t : T) (sz : Nat → Nat) (gs : Gl) : ∀ k, (∀ i, i < k → ∀ gs', Fine n gs' (3 * sz i) (mk (kid t i) gs')) →
    gs.length ≤ (makeRow mk t k gs).2.length ∧ (makeRow mk t k gs).2.length ≤ gs.length + 3 * sumTo sz k ∧ ∀ i, i < k → In n (makeRow mk t k gs).2 (at0 (makeRow mk t k gs).1 i)
  | 0, _ => ⟨Nat.le_refl _, by simp [makeRow], fun i hi => absurd hi (Nat.not_lt_zero _)⟩
  | k + 1, h => by
    obtain ⟨h1, h2, h3⟩ := row_fine mk t sz gs k (fun i hi => h i (by omega))
    obtain ⟨k1, k2, k3⟩ := h k (by omega) (makeRow mk t k gs).2
    refine ⟨by simp only [makeRow]; omega, by simp only [makeRow, sumTo]; omega, fun i hi => ?_⟩
    simp only [makeRow]
    by_cases e : i = k
    · subst e
      have hl := row_len mk t gs i
      have : at0 ((makeRow mk t i gs).1 ++ [(mk (kid t i) (makeRow mk t i gs).2).1]) i = (mk (kid t i) (makeRow mk t i gs).2).1 := by
        have := at0_app_eq (ks := (makeRow mk t i gs).1) (x := (mk (kid t i) (makeRow mk t i gs).2).1)
        rwa [hl] at this
      rw [this]
      exact k1
    · rw [at0_app_lt (by rw [row_len]; omega)]
      exact (h3 i (by omega)).more k2
theorem op_fine {n k : Int} {gs : Gl} {ks : List Int} (hn : 0 ≤ n) (hk : 3 ≤ k ∧ k ≤ 7) (h : ∀ i, i < (if k = 3 then 1 else if k = 7 then 3 else 2) → In n gs (at0 ks i)) : Fine n gs 3 (opL n k gs ks) := by
  unfold opL
  by_cases e3 : k = 3
  · rw [if_pos e3]
    exact ⟨not_in (h 0 (by rw [if_pos e3]; omega)), Nat.le_refl _, by simp only []; omega⟩
  · rw [if_neg e3]
    have h0 := h 0 (by rw [if_neg e3]; split <;> omega)
    have h1 := h 1 (by rw [if_neg e3]; split <;> omega)
    by_cases e4 : k = 4
    · rw [if_pos e4]
      obtain ⟨a1, a2, a3⟩ := and_in n gs _ _ hn h0 h1
      exact ⟨a1, a2, by omega⟩
    · rw [if_neg e4]
      by_cases e5 : k = 5
      · rw [if_pos e5]
        obtain ⟨a1, a2, a3⟩ := or_in n gs _ _ hn h0 h1
        exact ⟨a1, a2, by omega⟩
      · rw [if_neg e5]
        by_cases e6 : k = 6
        · rw [if_pos e6]
          exact xor_in n gs _ _ hn h0 h1
        · rw [if_neg e6]
          exact ite_in n gs _ _ _ hn h0 h1 (h 2 (by rw [if_neg e3, if_pos (by omega)]; omega))
theorem make_fine {n : Int} (hn : 0 ≤ n) : ∀ (d : Nat) (t : T) (gs : Gl), OkT n d t → Fine n gs (3 * size d t) (makeT n d t gs) := by
  intro d
  induction d using Nat.strongRecOn with
  | _ d ih =>
    intro t gs hok
    have hh := hok.here
    have hz := size_sum (d := d) (t := t) (fun e => hok.zero e)
    by_cases h1 : kd t = 1
    · rw [makeT_var n d t gs h1]
      unfold Here at hh
      exact ⟨⟨by simp only []; omega, by simp only []; omega⟩, Nat.le_refl _, by simp only []; omega⟩
    · by_cases h2 : kd t = 2
      · rw [makeT_const n d t gs h2]
        unfold Here at hh
        exact ⟨⟨by simp only []; omega, by simp only []; omega⟩, Nat.le_refl _, by simp only []; omega⟩
      · rw [makeT_op n d t gs h1 h2 (fun e => hok.zero e)]
        have hd : 0 < d := by
          rcases Nat.eq_zero_or_pos d with e | e
          · have := hok.zero e
            unfold Here at hh
            omega
          · exact e
        obtain ⟨r1, r2, r3⟩ := row_fine (n := n) (makeT n (d - 1)) t (fun i => size (d - 1) (kid t i)) gs (ln t) (fun i hi gs' => ih (d - 1) (by omega) (kid t i) gs' (hok.kid hi))
        have hk : 3 ≤ kd t ∧ kd t ≤ 7 ∧ ln t = (if kd t = 3 then 1 else if kd t = 7 then 3 else 2) := by
          unfold Here at hh
          rcases hh with hh | hh | hh | hh | hh
          · omega
          · omega
          · rw [if_pos hh.1]; omega
          · rw [if_neg (by omega), if_neg (by omega)]; omega
          · rw [if_neg (by omega), if_pos hh.1]; omega
        obtain ⟨o1, o2, o3⟩ := op_fine (n := n) (k := kd t) (gs := (makeRow (makeT n (d - 1)) t (ln t) gs).2) (ks := (makeRow (makeT n (d - 1)) t (ln t) gs).1) hn ⟨hk.1, hk.2.1⟩ (fun i hi => r3 i (by rw [hk.2.2]; exact hi))
        refine ⟨o1, by omega, ?_⟩
        rw [hz]
        omega
end Go.Proofs.Ytaileckcflnbdaa.buildTree
