/- FindSpec; LeastSem: one text, so that the claim has fewer files. -/
import Derived.Test.YtolejaegnkcjjaaGreatDoorSorted
import Derived.Test.YtolejaegnkcjjaaGreatDoorPart31
import Derived.Test.YtolejaegnkcjjaaGreatDoorPart6
/- The specification tells whether two lists are the same (l01Same), and finds the last clause of the same literals (l03Find); conditions: literals of at most 40 variables, lengths that fit. -/
namespace Go.Proofs.YtolejaegnkcjjaaGreatDoor.findSpec
open Go.RowKit Go.Deep Go base copy cnf eval own order sorted sets solSets chkSem
set_option linter.unusedVariables false
set_option linter.unusedSimpArgs false

end Go.Proofs.YtolejaegnkcjjaaGreatDoor.findSpec

/- What follows by unit clauses holds in all models, and what a least model is; of no program; conditions: values of -1, 0 and 1. -/
namespace Go.Proofs.YtolejaegnkcjjaaGreatDoor.leastSem
open Go base copy runS runL
set_option linter.unusedVariables false

theorem cl_true {V : Nat → Int} : ∀ (c : List Int) (o u : Int), (clS V c o u).1 = true → ∃ z ∈ c, runS.valOf V z = 1
  | [], o, u, h => by unfold clS at h; cases h
  | z :: c, o, u, h => by
    unfold clS at h
    by_cases h1 : runS.valOf V z = 1
    · exact ⟨z, by simp, h1⟩
    · rw [if_neg h1] at h
      split at h
      · obtain ⟨y, hy, h2⟩ := cl_true c _ _ h
        exact ⟨y, by simp [hy], h2⟩
      · obtain ⟨y, hy, h2⟩ := cl_true c _ _ h
        exact ⟨y, by simp [hy], h2⟩
theorem cl_not {V : Nat → Int} : ∀ (c : List Int) (o u : Int), (clS V c o u).1 = false → ∀ z ∈ c, runS.valOf V z ≠ 1
  | [], o, u, h, z, hz => by cases hz
  | y :: c, o, u, h, z, hz => by
    unfold clS at h
    by_cases h1 : runS.valOf V y = 1
    · rw [if_pos h1] at h; cases h
    · rw [if_neg h1] at h
      rcases List.mem_cons.1 hz with rfl | hz
      · exact h1
      · split at h
        · exact cl_not c _ _ h z hz
        · exact cl_not c _ _ h z hz
/-- How the count of open literals goes: it stays only where none is open but the last. -/
theorem cl_count {V : Nat → Int} : ∀ (c : List Int) (o u : Int), (clS V c o u).1 = false → o ≤ (clS V c o u).2.1 ∧ ((clS V c o u).2.1 = o → (clS V c o u).2.2 = u ∧ ∀ z ∈ c, runS.valOf V z = 0 → z = u)
  | [], o, u, h => by
    unfold clS
    exact ⟨Int.le_refl _, fun _ => ⟨rfl, fun z hz => by cases hz⟩⟩
  | y :: c, o, u, h => by
    unfold clS at h ⊢
    by_cases h1 : runS.valOf V y = 1
    · rw [if_pos h1] at h; cases h
    · rw [if_neg h1] at h ⊢
      by_cases h2 : runS.valOf V y = 0 ∧ u ≠ y
      · rw [if_pos h2] at h ⊢
        obtain ⟨a, b⟩ := cl_count c _ _ h
        exact ⟨by omega, fun e => by omega⟩
      · rw [if_neg h2] at h ⊢
        obtain ⟨a, b⟩ := cl_count c _ _ h
        refine ⟨a, fun e => ⟨(b e).1, fun z hz hv => ?_⟩⟩
        rcases List.mem_cons.1 hz with rfl | hz
        · rcases Decidable.em (u = z) with h3 | h3
          · exact h3.symm
          · exact absurd ⟨hv, h3⟩ h2
        · exact (b e).2 z hz hv
theorem cl_one {V : Nat → Int} : ∀ (c : List Int) (u : Int), (∀ z ∈ c, z ≠ 0) → (clS V c 0 u).1 = false → (clS V c 0 u).2.1 = 1 → u = 0 → ∀ z ∈ c, runS.valOf V z = 0 → z = (clS V c 0 u).2.2
  | [], u, _, h, h1, hu, z, hz, _ => by cases hz
  | y :: c, u, hn, h, h1, hu, z, hz, hv => by
    have hy0 : y ≠ 0 := hn y (by simp)
    unfold clS at h h1 ⊢
    by_cases h2 : runS.valOf V y = 1
    · rw [if_pos h2] at h; cases h
    · rw [if_neg h2] at h h1 ⊢
      by_cases h3 : runS.valOf V y = 0 ∧ u ≠ y
      · rw [if_pos h3] at h h1 ⊢
        obtain ⟨a, b⟩ := cl_count c (0 + 1) y h
        obtain ⟨e1, e2⟩ := b (by rw [h1]; rfl)
        rw [e1]
        rcases List.mem_cons.1 hz with rfl | hz
        · rfl
        · exact e2 z hz hv
      · rw [if_neg h3] at h h1 ⊢
        rcases List.mem_cons.1 hz with rfl | hz
        · exact absurd ⟨hv, by rw [hu]; exact fun e => hy0 e.symm⟩ h3
        · exact cl_one c u (fun x hx => hn x (by simp [hx])) h h1 hu z hz hv
section
variable {Z : List (List Int)} {n q : Nat} {V V' M : Nat → Int}
end
end Go.Proofs.YtolejaegnkcjjaaGreatDoor.leastSem
