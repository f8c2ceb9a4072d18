/- What is left of sorted clauses where those that repeat are struck: it rises, and holds the same clauses. -/
import Derived.Test.YtiiigdcfnnjkcaaCompactClauses
namespace Go.Proofs.Ytiiigdcfnnjkcaa.rises
open Go.RowKit Go.Deep base order clauseOrder sortClauses compactClauses

theorem getD_at {α : Type} [Inhabited α] {l : List α} {i : Nat} (h : i < l.length) : l[i]?.getD default = l[i] := by rw [List.getElem?_eq_getElem h]; rfl
theorem le_lt {a b c : List Int} (h : ¬ cmpL b a < 0) (h' : cmpL b c < 0) : cmpL a c < 0 := by
  rcases cmp_one b a with e | e | e
  · exact absurd (by rw [e]; decide) h
  · rw [← cmp_zero e]; exact h'
  · exact cmp_trans (by rw [cmp_neg b a, e]; decide) h'
theorem lt_of_le_ne {a b : List Int} (h : ¬ cmpL b a < 0) (h' : a ≠ b) : cmpL a b < 0 := by
  rcases cmp_one a b with e | e | e
  · rw [e]; decide
  · exact absurd (cmp_zero e) h'
  · exact absurd (by rw [cmp_neg a b, e]; decide) h
theorem comp_sub (ps : List (Value × List Int)) : ∀ m, m ≤ ps.length → ∀ p ∈ compC ps m, p ∈ ps.take m
  | 0, _, p, h => by simp [compC] at h
  | m + 1, hm, p, h => by
    have hl : m < ps.length := hm
    unfold compC at h
    rw [List.take_succ_eq_append_getElem hl, List.mem_append]
    rcases List.mem_append.1 h with h | h
    · exact .inl (comp_sub ps m (by omega) p h)
    · split at h
      · rw [getD_at hl] at h; exact .inr h
      · simp at h
theorem comp_mem (ps : List (Value × List Int)) : ∀ m, m ≤ ps.length → ∀ x, x ∈ (compC ps m).map (·.2) ↔ x ∈ (ps.take m).map (·.2)
  | 0, _, x => by simp [compC]
  | m + 1, hm, x => by
    have hl : m < ps.length := hm
    have ih := comp_mem ps m (by omega) x
    unfold compC
    rw [List.take_succ_eq_append_getElem hl, List.map_append, List.map_append, List.mem_append, List.mem_append, ih, getD_at hl]
    by_cases hk : keepsC ps m = true
    · rw [if_pos hk]
    · rw [if_neg hk]
      unfold keepsC at hk
      rw [decide_eq_true_iff, not_or] at hk
      obtain ⟨h0, h1⟩ := hk
      have h2 : ps[m].2 = ps[m - 1].2 := by
        rw [getD_at hl, getD_at (show m - 1 < ps.length by omega)] at h1
        exact Classical.not_not.1 h1
      constructor
      · rintro (h | h)
        · exact .inl h
        · simp at h
      · rintro (h | h)
        · exact .inl h
        · refine .inl ?_
          simp only [List.map_cons, List.map_nil, List.mem_singleton] at h
          rw [h, h2]
          exact List.mem_map.2 ⟨ps[m - 1], List.mem_take_iff_getElem.2 ⟨m - 1, by omega, rfl⟩, rfl⟩
theorem comp_rises {ps : List (Value × List Int)} (hs : ps.Pairwise fun a b => ¬ cmpL b.2 a.2 < 0) : ∀ m, m ≤ ps.length → (compC ps m).Pairwise fun a b => cmpL a.2 b.2 < 0
  | 0, _ => by simp [compC]
  | m + 1, hm => by
    have hl : m < ps.length := hm
    unfold compC
    refine List.pairwise_append.2 ⟨comp_rises hs m (by omega), by split <;> simp, fun p hp q hq => ?_⟩
    by_cases hk : keepsC ps m = true
    · rw [if_pos hk, getD_at hl, List.mem_singleton] at hq
      subst hq
      obtain ⟨i, hi, he⟩ := List.mem_take_iff_getElem.1 (comp_sub ps m (by omega) p hp)
      have him : i < m := by omega
      have hpw := List.pairwise_iff_getElem.1 hs
      unfold keepsC at hk
      rw [decide_eq_true_iff, getD_at hl, getD_at (show m - 1 < ps.length by omega)] at hk
      have hne : ps[m - 1].2 ≠ ps[m].2 := fun e => by
        rcases hk with h | h
        · omega
        · exact h e.symm
      have h1 := lt_of_le_ne (hpw (m - 1) m (by omega) hl (by omega)) hne
      rw [← he]
      by_cases hii : i = m - 1
      · subst hii; exact h1
      · exact le_lt (hpw i (m - 1) (by omega) (by omega) (by omega)) h1
    · rw [if_neg hk] at hq
      simp at hq
/-- Clauses that rise and hold what sorted ones hold are those, with repeats struck. -/
theorem comp_is {ps : List (Value × List Int)} {ys : List (List Int)} (hs : ps.Pairwise fun a b => ¬ cmpL b.2 a.2 < 0) (hy : ys.Pairwise fun a b => cmpL a b < 0) (hm : ∀ x, x ∈ ys ↔ x ∈ ps.map (·.2)) : (compC ps ps.length).map (·.2) = ys := by
  refine rises_uniq (R := fun a b => cmpL a b < 0) cmp_asym (List.pairwise_map.2 (comp_rises hs _ (Nat.le_refl _))) hy fun x => ?_
  rw [comp_mem ps _ (Nat.le_refl _), List.take_length, hm]
/-- A clause put in behind those that are less, ahead of one that is not and is another: the list rises still. -/
theorem ins_rises {xs : List (List Int)} {x : List Int} {j : Nat} (h : xs.Pairwise fun a b => cmpL a b < 0) (hj : j ≤ xs.length) (hl : ∀ i, i < j → cmpL (xs[i]?.getD []) x < 0) (hr : j < xs.length → ¬ cmpL (xs[j]?.getD []) x < 0 ∧ xs[j]?.getD [] ≠ x) :
    (xs.take j ++ [x] ++ xs.drop j).Pairwise fun a b => cmpL a b < 0 := by
  have hpw := List.pairwise_iff_getElem.1 h
  have h1 : ∀ a ∈ xs.take j, cmpL a x < 0 := fun a ha => by
    obtain ⟨i, hi, e⟩ := List.mem_take_iff_getElem.1 ha
    have := hl i (by omega)
    rw [List.getElem?_eq_getElem (by omega)] at this
    rw [← e]
    exact this
  have h2 : ∀ b ∈ xs.drop j, cmpL x b < 0 := fun b hb => by
    obtain ⟨i, hi, e⟩ := List.mem_drop_iff_getElem.1 hb
    have hlt : j < xs.length := by omega
    obtain ⟨r1, r2⟩ := hr hlt
    rw [List.getElem?_eq_getElem hlt] at r1 r2
    have hx : cmpL x xs[j] < 0 := lt_of_le_ne r1 fun e => r2 e.symm
    rw [← e]
    by_cases hi0 : i = 0
    · subst hi0
      exact hx
    · exact cmp_trans hx (hpw j (j + i) hlt (by omega) (by omega))
  refine List.pairwise_append.2 ⟨List.pairwise_append.2 ⟨h.sublist (List.take_sublist _ _), by simp, fun a ha b hb => ?_⟩, h.sublist (List.drop_sublist _ _), fun a ha b hb => ?_⟩
  · rw [List.mem_singleton] at hb
    subst hb
    exact h1 a ha
  · rcases List.mem_append.1 ha with ha | ha
    · exact cmp_trans (h1 a ha) (h2 b hb)
    · rw [List.mem_singleton] at ha
      subst ha
      exact h2 b hb
theorem ins_mem {xs : List (List Int)} {x z : List Int} {j : Nat} : z ∈ xs.take j ++ [x] ++ xs.drop j ↔ z ∈ xs ∨ z = x := by
  have e : z ∈ xs ↔ z ∈ xs.take j ∨ z ∈ xs.drop j := by
    rw [← List.mem_append, List.take_append_drop]
  rw [e, List.mem_append, List.mem_append, List.mem_singleton]
  constructor
  · rintro ((h | h) | h)
    · exact .inl (.inl h)
    · exact .inr h
    · exact .inl (.inr h)
  · rintro ((h | h) | h)
    · exact .inl (.inl h)
    · exact .inr h
    · exact .inl (.inr h)
/-- A rising list that holds the clause already is the one that it is put into. -/
theorem has_mem {xs : List (List Int)} {x : List Int} {j : Nat} (hj : j < xs.length) (he : xs[j]?.getD [] = x) : x ∈ xs := by
  rw [List.getElem?_eq_getElem hj] at he
  rw [← he]
  exact List.getElem_mem hj
end Go.Proofs.Ytiiigdcfnnjkcaa.rises
