/- What propagation comes to: no clause is false at its end just where what is true goes with values of which no clause asks for more; conditions: none. -/
import Derived.Test.YtolejaegnkcjjaaDoorSolProp
namespace Go.Proofs.YtolejaegnkcjjaaDoor.solClose
open sets solSets solMath solHold solProp
set_option linter.unusedVariables false
set_option linter.unusedSimpArgs false

def Cons (H : LS) : Prop := ∀ l, mem H l = true → mem H (-l) = false
def Sub (A B : LS) : Prop := ∀ l, mem A l = true → mem B l = true
/-- Values of which each clause is true, or has two literals that are not false. -/
structure Closed (C : List LS) (H : LS) : Prop where
  wf : Wf H
  cons : Cons H
  cl : ∀ c ∈ C, meetL c H = true ∨ ∃ x y, x ≠ y ∧ mem (restL c H) x = true ∧ mem (restL c H) y = true
theorem Sub.refl (A : LS) : Sub A A := fun _ h => h
theorem Sub.trans {A B C : LS} (h : Sub A B) (k : Sub B C) : Sub A C := fun l hl => k l (h l hl)
theorem cl_mem {s : Sv} {i : Nat} (hi : i < s.C.length) : s.cl i ∈ s.C := by
  unfold Sv.cl
  rw [List.getElem?_eq_getElem hi]
  exact List.getElem_mem hi
theorem full_ok {s : Sv} {H : LS} (h : Full s) (hc : Closed s.C H) (hs : Sub s.H H) : s.F = -1 := by
  rcases h.ok.fin with e | ⟨f, hf, e, hr⟩
  · exact e
  · exfalso
    have hwc := h.ok.wfC f
    rcases hc.cl _ (cl_mem hf) with hm | ⟨x, y, _, hx, _⟩
    · obtain ⟨l, h1, h2⟩ := (meet_iff hwc).1 hm
      have h3 := (zero_iff (wf_rest hwc _)).1 hr l
      rw [mem_rest hwc h.ok.wfH, h1] at h3
      have h4 : mem s.H (-l) = true := by simpa using h3
      have h5 := hs _ h4
      rw [hc.cons l h2] at h5
      cases h5
    · rw [none_mono hwc h.ok.wfH hc.wf hs hr, mem_zero] at hx
      cases hx
theorem pop_within {s : Sv} {i : Nat} {D : List Nat} {H : LS} (h : Full s) (hF : s.F = -1) (hD : s.D = i :: D) (hc : Closed s.C H) (hs : Sub s.H H) : Sub (popS s i D).H H := by
  unfold popS
  by_cases hm : meetL (s.cl i) s.H = true
  · rw [if_pos hm]; exact hs
  · rw [if_neg hm]
    obtain ⟨x, e, h1, h2, h3, h4, h5, h6⟩ := unit_of h hF hD hm
    rw [e, (hold_same _ _ _).2.2.1]
    have hwc := h.ok.wfC i
    have hi : i < s.C.length := h.ok.dlt i (by rw [hD]; simp)
    have hx : mem H x = true := by
      rcases hc.cl _ (cl_mem hi) with hq | ⟨a, b, hab, ha, hb⟩
      · obtain ⟨l, q1, q2⟩ := (meet_iff hwc).1 hq
        by_cases el : x = l
        · rw [el]; exact q2
        · exfalso
          have h7 : mem (restL (s.cl i) s.H) l = false := by rw [h1, mem_only h2]; simpa using el
          rw [mem_rest hwc h.ok.wfH, q1] at h7
          have h8 : mem s.H (-l) = true := by simpa using h7
          have h9 := hs _ h8
          rw [hc.cons l q2] at h9
          cases h9
      · exfalso
        have ha := rest_mono hwc h.ok.wfH hc.wf hs ha
        have hb := rest_mono hwc h.ok.wfH hc.wf hs hb
        rw [h1, mem_only h2, decide_eq_true_eq] at ha hb
        exact hab (ha.symm.trans hb)
    intro l hl
    rw [mem_held h2] at hl
    by_cases el : x = l
    · rw [← el]; exact hx
    · exact hs l (by simpa [el] using hl)
theorem prop_within {H : LS} : ∀ (k : Nat) (s : Sv), Full s → Closed s.C H → Sub s.H H → Sub (propF k s).H H ∧ Full (propF k s) ∧ (propF k s).C = s.C ∧ (propF k s).F = -1
  | 0, s, h, hc, hs => ⟨hs, h, rfl, full_ok h hc hs⟩
  | k + 1, s, h, hc, hs => by
    have hF := full_ok h hc hs
    cases hD : s.D with
    | nil => rw [propF_end (.inr hD)]; exact ⟨hs, h, rfl, hF⟩
    | cons i D =>
      rw [propF_step hF hD]
      have hC := (pop_same (s := s) (i := i) (D := D)).1
      obtain ⟨a, b, c, d⟩ := prop_within k (popS s i D) (pop_full h hF hD) (by rw [hC]; exact hc) (pop_within h hF hD hc hs)
      exact ⟨a, b, c.trans hC, d⟩
theorem pop_grows {s : Sv} {i : Nat} {D : List Nat} (h : Full s) (hF : s.F = -1) (hD : s.D = i :: D) : Sub s.H (popS s i D).H := by
  unfold popS
  by_cases hm : meetL (s.cl i) s.H = true
  · rw [if_pos hm]; exact Sub.refl _
  · rw [if_neg hm]
    obtain ⟨x, e, h1, h2, h3, h4, h5, h6⟩ := unit_of h hF hD hm
    rw [e, (hold_same _ _ _).2.2.1]
    intro l hl
    rw [mem_held h2]
    have hl : mem s.H l = true := hl
    show (mem s.H l || _) = true
    rw [hl]; rfl
theorem prop_grows : ∀ (k : Nat) (s : Sv), Full s → Sub s.H (propF k s).H
  | 0, s, h => Sub.refl _
  | k + 1, s, h => by
    by_cases hF : s.F = -1
    · cases hD : s.D with
      | nil => rw [propF_end (.inr hD)]; exact Sub.refl _
      | cons i D =>
        rw [propF_step hF hD]
        exact (pop_grows h hF hD).trans (prop_grows k _ (pop_full h hF hD))
    · rw [propF_end (.inl hF)]; exact Sub.refl _
/-- Where nothing is due and nothing is false, what is true is closed. -/
theorem rest_closed {s : Sv} (h : Full s) (hF : s.F = -1) (hD : s.D = []) : Closed s.C s.H := by
  refine ⟨h.ok.wfH, h.ok.cons, fun c hc => ?_⟩
  obtain ⟨i, hi, e⟩ := List.mem_iff_getElem.1 hc
  have e2 : s.cl i = c := by unfold Sv.cl; rw [List.getElem?_eq_getElem hi]; exact e
  have := h.st i hi
  unfold StH at this
  rw [e2] at this
  rcases this with q | ⟨_, q, _⟩ | ⟨_, _, _, _, q⟩ | ⟨q1, q2, q3⟩
  · exact .inl q
  · exact absurd hF q
  · rw [hD] at q; cases q
  · exact .inr ⟨_, _, q3, q1, q2⟩
theorem prop_iff {s : Sv} (h : Full s) : (propF (meas s + 1) s).F = -1 ↔ ∃ H, Closed s.C H ∧ Sub s.H H := by
  constructor
  · intro hF
    obtain ⟨h1, h2, h3, _, _⟩ := propF_done (meas s + 1) s h (Nat.lt_succ_self _)
    have hD : (propF (meas s + 1) s).D = [] := h2.resolve_left (fun e => e hF)
    refine ⟨(propF (meas s + 1) s).H, ?_, prop_grows _ s h⟩
    rw [← h3]
    exact rest_closed h1 hF hD
  · rintro ⟨H, hc, hs⟩
    exact (prop_within _ s h hc hs).2.2.2
end Go.Proofs.YtolejaegnkcjjaaDoor.solClose
