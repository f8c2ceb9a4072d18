/- What propagation tells is true in each model in which the given literals are; conditions: a right formula, literals of its variables. -/
import Derived.Test.YtkboijdcjechdaaDoorSolClose
import Derived.Test.YtkboijdcjechdaaDoorSolFace
namespace Go.Proofs.YtkboijdcjechdaaDoor.propsMath
open base copy cnf eval sets setsOf solSets solMath solHold solProp solNew solFace solClose
set_option linter.unusedVariables false
set_option linter.unusedSimpArgs false

theorem asg_lit {vs : List Bool} {n : Nat} (hn : n ≤ 40) {l : Int} (hl : litB n l = true) : mem (asg vs n) l = litT vs l := by
  obtain ⟨h0, h1, h2⟩ := litB_range hl
  rw [Bool.eq_iff_iff, mem_asg hn]
  unfold litT
  constructor
  · rintro ⟨_, _, h⟩
    rw [h]; simp
  · intro h
    exact ⟨h0, by omega, by simpa using h⟩
theorem model_closed {n : Nat} (hn : n ≤ 40) {Z : List (List Int)} {vs : List Bool} (hz : cnfB n Z = true) (hm : cnfT vs Z = true) : Closed (Z.map setL) (asg vs n) := by
  refine ⟨asg_wf hn, asg_cons hn, fun c hc => .inl ?_⟩
  obtain ⟨zs, h1, rfl⟩ := List.mem_map.1 hc
  unfold cnfT at hm
  rw [List.all_eq_true] at hm
  have h2 := hm zs h1
  unfold clauseT at h2
  rw [List.any_eq_true] at h2
  obtain ⟨z, h3, h4⟩ := h2
  have hw := cnf_lits hz zs h1
  refine (meet_iff (wf_set hw)).2 ⟨z, ?_, ?_⟩
  · rw [mem_set (fun y hy => (hw y hy).1), List.contains_iff_mem]; exact h3
  · obtain ⟨i, hi, e⟩ := List.mem_iff_getElem.1 h1
    have hcl := cnf_clause hz i hi
    rw [List.getElem?_eq_getElem hi] at hcl
    have hcl : clauseB n zs = true := by rw [← e]; exact hcl
    unfold clauseB at hcl
    rw [Bool.and_eq_true, List.all_eq_true] at hcl
    rw [asg_lit hn (hcl.2 z h3)]; exact h4
theorem giv_code {n : Int} : ∀ (zs : List Int) (H : LS), (∀ z ∈ zs, litB n z = true) → (givS n zs H).1 = 0 ∨ (givS n zs H).1 = 8
  | [], H, _ => .inl rfl
  | z :: r, H, h => by
    unfold givS
    rw [if_neg (by rw [h z (by simp)]; decide)]
    split
    · exact .inr rfl
    · exact giv_code r _ (fun y hy => h y (by simp [hy]))
theorem giv_sub {n : Int} (h1 : n ≤ 40) {K : LS} : ∀ (zs : List Int) (H : LS), (∀ z ∈ zs, litB n z = true) → Sub H K → (∀ z ∈ zs, mem K z = true) → (givS n zs H).1 = 0 → Sub (givS n zs H).2 K
  | [], H, _, hs, _, _ => hs
  | z :: r, H, h, hs, hk, hc => by
    unfold givS at hc ⊢
    have e1 : ¬ litB n z = false := by rw [h z (by simp)]; decide
    rw [if_neg e1] at hc ⊢
    by_cases e2 : mem H (-z) = true
    · rw [if_pos e2] at hc; cases hc
    · rw [if_neg e2] at hc ⊢
      obtain ⟨z0, _, _⟩ := lit_of h1 (h z (by simp))
      refine giv_sub h1 r _ (fun y hy => h y (by simp [hy])) (fun l hl => ?_) (fun y hy => hk y (by simp [hy])) hc
      rw [mem_held z0] at hl
      by_cases e : z = l
      · rw [← e]; exact hk z (by simp)
      · exact hs l (by simpa [e] using hl)
/-- The code of what Propagate answers, and what its literals are in a model. -/
theorem pr_says {n : Nat} (hn : n ≤ 40) {Z : List (List Int)} (hz : cnfB n Z = true) {zs : List Int} (hl : zs.length ≤ 4096) (hzs : ∀ z ∈ zs, litB n z = true) :
    ((prA n Z zs).2.2 = 0 ∨ (prA n Z zs).2.2 = 8) ∧ ((prA n Z zs).2.2 = 0 → ∀ vs, cnfT vs Z = true → zs.all (litT vs) = true → (prA n Z zs).2.1 = -1 ∧ ∀ z ∈ (prA n Z zs).1, litB n z = true ∧ litT vs z = true) := by
  have hn' : (n : Int) ≤ 40 := by omega
  unfold prA
  rw [if_neg (by omega), if_neg (by rw [hz]; decide)]
  by_cases h0 : (givS n zs (0, 0)).1 ≠ 0
  · rw [if_pos h0]
    rcases giv_code zs (0, 0) hzs with e | e
    · exact absurd e h0
    · exact ⟨.inr e, fun e2 => absurd e2 h0⟩
  · rw [if_neg h0]
    refine ⟨.inl rfl, fun _ vs hm ha => ?_⟩
    have h0 : (givS n zs (0, 0)).1 = 0 := by simpa using h0
    have hc0 : ∀ l, mem (0, 0) l = true → mem (0, 0) (-l) = false := fun l h => by rw [mem_zero] at h; cases h
    obtain ⟨hw, hco⟩ := giv_fine hn' zs (0, 0) wf_zero hc0 h0
    rw [List.all_eq_true] at ha
    have hsub := giv_sub (K := asg vs n) hn' zs (0, 0) hzs (fun l h => by rw [mem_zero] at h; cases h) (fun z hzm => by rw [asg_lit hn (hzs z hzm)]; exact ha z hzm) h0
    have hcl := model_closed hn hz hm
    obtain ⟨u1, u2, u3, u4, u5, u6⟩ := new_full (n := n) (H := (givS n zs (0, 0)).2) (cs := Z.map setL) hw hco (fun c hc => by
      obtain ⟨zs, h1, rfl⟩ := List.mem_map.1 hc
      exact wf_set (cnf_lits hz zs h1))
    obtain ⟨q1, q2, q3, q4⟩ := prop_within (meas (newS n (givS n zs (0, 0)).2 (Z.map setL)) + 1) _ u1 (by rw [u2]; exact hcl) (by rw [u4]; exact hsub)
    refine ⟨q4, fun z hzm => ?_⟩
    obtain ⟨p, hp, rfl⟩ := List.mem_map.1 hzm
    have ht := prop_tin (meas (newS n (givS n zs (0, 0)).2 (Z.map setL)) + 1) _ u1 (fun p hp => by rw [u5] at hp; cases hp) p hp
    have hz1 := q1 _ ht
    have hr := (mem_asg hn p.1).1 hz1
    have hlb : litB n p.1 = true := by unfold litB; exact decide_eq_true ⟨hr.1, by omega, by omega⟩
    exact ⟨hlb, by rw [← asg_lit hn hlb]; exact hz1⟩
end Go.Proofs.YtkboijdcjechdaaDoor.propsMath
