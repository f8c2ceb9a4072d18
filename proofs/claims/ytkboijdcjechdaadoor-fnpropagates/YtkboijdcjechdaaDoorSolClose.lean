/- What propagation comes to: no clause is false at its end just where what is true goes with values of which no clause asks for more; conditions: none. -/
import Derived.Test.YtkboijdcjechdaaDoorSolProp
namespace Go.Proofs.YtkboijdcjechdaaDoor.solClose
open sets solSets solMath solHold solProp
set_option linter.unusedVariables false
set_option linter.unusedSimpArgs false

def Cons (H : LS) : Prop := ∀ l, mem H l = true → mem H (-l) = false
def Sub (A B : LS) : Prop := ∀ l, mem A l = true → mem B l = true
/-- Values of which each clause is true, or has two literals that are not false. -/
structure Closed (C : List LS) (H : LS) : Prop where
  wf : Wf H
  cons : Cons H
  cl : ∀ c ∈ C, meetL c H = true ∨ ∃ x y, x ≠ y ∧ mem (restL c H) x = true ∧ mem (restL c H) y = true
theorem Sub.refl (A : LS) : Sub A A := fun _ h => h
theorem Sub.trans {A B C : LS} (h : Sub A B) (k : Sub B C) : Sub A C := fun l hl => k l (h l hl)
theorem cl_mem {s : Sv} {i : Nat} (hi : i < s.C.length) : s.cl i ∈ s.C := by
  unfold Sv.cl
  rw [List.getElem?_eq_getElem hi]
  exact List.getElem_mem hi
theorem full_ok {s : Sv} {H : LS} (h : Full s) (hc : Closed s.C H) (hs : Sub s.H H) : s.F = -1 := by
  rcases h.ok.fin with e | ⟨f, hf, e, hr⟩
  · exact e
  · exfalso
    have hwc := h.ok.wfC f
    rcases hc.cl _ (cl_mem hf) with hm | ⟨x, y, _, hx, _⟩
    · obtain ⟨l, h1, h2⟩ := (meet_iff hwc).1 hm
      have h3 := (zero_iff (wf_rest hwc _)).1 hr l
      rw [mem_rest hwc h.ok.wfH, h1] at h3
      have h4 : mem s.H (-l) = true := by simpa using h3
      have h5 := hs _ h4
      rw [hc.cons l h2] at h5
      cases h5
    · rw [none_mono hwc h.ok.wfH hc.wf hs hr, mem_zero] at hx
      cases hx
theorem pop_within {s : Sv} {i : Nat} {D : List Nat} {H : LS} (h : Full s) (hF : s.F = -1) (hD : s.D = i :: D) (hc : Closed s.C H) (hs : Sub s.H H) : Sub (popS s i D).H H := by
  unfold popS
  by_cases hm : meetL (s.cl i) s.H = true
  · rw [if_pos hm]; exact hs
  · rw [if_neg hm]
    obtain ⟨x, e, h1, h2, h3, h4, h5, h6⟩ := unit_of h hF hD hm
    rw [e, (hold_same _ _ _).2.2.1]
    have hwc := h.ok.wfC i
    have hi : i < s.C.length := h.ok.dlt i (by rw [hD]; simp)
    have hx : mem H x = true := by
      rcases hc.cl _ (cl_mem hi) with hq | ⟨a, b, hab, ha, hb⟩
      · obtain ⟨l, q1, q2⟩ := (meet_iff hwc).1 hq
        by_cases el : x = l
        · rw [el]; exact q2
        · exfalso
          have h7 : mem (restL (s.cl i) s.H) l = false := by rw [h1, mem_only h2]; simpa using el
          rw [mem_rest hwc h.ok.wfH, q1] at h7
          have h8 : mem s.H (-l) = true := by simpa using h7
          have h9 := hs _ h8
          rw [hc.cons l q2] at h9
          cases h9
      · exfalso
        have ha := rest_mono hwc h.ok.wfH hc.wf hs ha
        have hb := rest_mono hwc h.ok.wfH hc.wf hs hb
        rw [h1, mem_only h2, decide_eq_true_eq] at ha hb
        exact hab (ha.symm.trans hb)
    intro l hl
    rw [mem_held h2] at hl
    by_cases el : x = l
    · rw [← el]; exact hx
    · exact hs l (by simpa [el] using hl)
theorem prop_within {H : LS} : ∀ (k : Nat) (s : Sv), Full s → Closed s.C H → Sub s.H H → Sub (propF k s).H H ∧ Full (propF k s) ∧ (propF k s).C = s.C ∧ (propF k s).F = -1
  | 0, s, h, hc, hs => ⟨hs, h, rfl, full_ok h hc hs⟩
  | k + 1, s, h, hc, hs => by
    have hF := full_ok h hc hs
    cases hD : s.D with
    | nil => rw [propF_end (.inr hD)]; exact ⟨hs, h, rfl, hF⟩
    | cons i D =>
      rw [propF_step hF hD]
      have hC := (pop_same (s := s) (i := i) (D := D)).1
      obtain ⟨a, b, c, d⟩ := prop_within k (popS s i D) (pop_full h hF hD) (by rw [hC]; exact hc) (pop_within h hF hD hc hs)
      exact ⟨a, b, c.trans hC, d⟩
/-- The trail's literals are true. -/
def TinH (s : Sv) : Prop := ∀ p ∈ s.T, mem s.H p.1 = true
theorem pop_tin {s : Sv} {i : Nat} {D : List Nat} (h : Full s) (hF : s.F = -1) (hD : s.D = i :: D) (ht : TinH s) : TinH (popS s i D) := by
  unfold popS
  by_cases hm : meetL (s.cl i) s.H = true
  · rw [if_pos hm]; exact ht
  · rw [if_neg hm]
    obtain ⟨x, e, h1, h2, h3, h4, h5, h6⟩ := unit_of h hF hD hm
    rw [e]
    intro p hp
    rw [(hold_same _ _ _).2.2.2.1, List.mem_append] at hp
    rw [(hold_same _ _ _).2.2.1, mem_held h2]
    show (mem s.H p.1 || _) = true
    rcases hp with hp | hp
    · rw [ht p hp]; rfl
    · have : p = (x, (i : Int)) := by simpa using hp
      rw [this]; simp
theorem prop_tin : ∀ (k : Nat) (s : Sv), Full s → TinH s → TinH (propF k s)
  | 0, s, _, ht => ht
  | k + 1, s, h, ht => by
    by_cases hF : s.F = -1
    · cases hD : s.D with
      | nil => rw [propF_end (.inr hD)]; exact ht
      | cons i D => rw [propF_step hF hD]; exact prop_tin k _ (pop_full h hF hD) (pop_tin h hF hD ht)
    · rw [propF_end (.inl hF)]; exact ht
/-- Whole values as a set of literals. -/
def asgL (vs : List Bool) (n : Nat) : List Int := (List.range n).map fun (i : Nat) => if vs[i]?.getD false = true then ((i : Int) + 1) else -((i : Int) + 1)
def asg (vs : List Bool) (n : Nat) : LS := setL (asgL vs n)
theorem asg_lits {vs : List Bool} {n : Nat} (hn : n ≤ 40) : ∀ z ∈ asgL vs n, z ≠ 0 ∧ z.natAbs < 41 := fun z hz => by
  unfold asgL at hz
  obtain ⟨i, hi, rfl⟩ := List.mem_map.1 hz
  rw [List.mem_range] at hi
  split <;> omega
theorem mem_asg {vs : List Bool} {n : Nat} (hn : n ≤ 40) (l : Int) : mem (asg vs n) l = true ↔ l ≠ 0 ∧ l.natAbs ≤ n ∧ (vs[l.natAbs - 1]?.getD false = decide (0 < l)) := by
  unfold asg
  rw [mem_set (fun z hz => (asg_lits hn z hz).1), List.contains_iff_mem]
  unfold asgL
  rw [List.mem_map]
  constructor
  · rintro ⟨i, hi, e⟩
    rw [List.mem_range] at hi
    by_cases hb : vs[i]?.getD false = true
    · rw [if_pos hb] at e
      subst e
      refine ⟨by omega, by omega, ?_⟩
      rw [show ((i : Int) + 1).natAbs - 1 = i by omega, hb]
      symm; simp; try omega
    · rw [if_neg hb] at e
      subst e
      refine ⟨by omega, by omega, ?_⟩
      rw [show (-((i : Int) + 1)).natAbs - 1 = i by omega]
      have : vs[i]?.getD false = false := by simpa using hb
      rw [this]
      symm; simp; try omega
  · rintro ⟨h0, h1, h2⟩
    refine ⟨l.natAbs - 1, List.mem_range.2 (by omega), ?_⟩
    rw [h2]
    by_cases hp : 0 < l
    · simp only [hp, decide_true, if_true]; omega
    · simp only [hp, decide_false]
      simp; omega
theorem asg_cons {vs : List Bool} {n : Nat} (hn : n ≤ 40) : Cons (asg vs n) := fun l hl => by
  rw [mem_asg hn] at hl
  cases hx : mem (asg vs n) (-l)
  · rfl
  · rw [mem_asg hn] at hx
    have h1 := hl.2.2
    have h2 := hx.2.2
    rw [Int.natAbs_neg, h1] at h2
    have h0 := hl.1
    rw [decide_eq_decide] at h2
    omega
theorem asg_wf {vs : List Bool} {n : Nat} (hn : n ≤ 40) : Wf (asg vs n) := wf_set (asg_lits hn)
end Go.Proofs.YtkboijdcjechdaaDoor.solClose
