/- SolHold; SolProp: one text, so that the claim has fewer files. -/
import Derived.Test.YtpfecijahiikhaaGreatDoorSolMath
/- A solver's state: a literal is made true, what is due is taken; what is kept by that; conditions: none. -/
namespace Go.Proofs.YtpfecijahiikhaaGreatDoor.solHold
open sets solSets solMath
set_option linter.unusedVariables false
set_option linter.unusedSimpArgs false

structure Full (s : Sv) : Prop where
  ok : Okay s
  st : ∀ i, i < s.C.length → StH s s.H i
/-- All watched literals are fit for values that were there once. -/
def Good (s : Sv) (H : LS) : Prop := ∀ i, i < s.C.length → meetL (s.cl i) H = true ∨ (mem (restL (s.cl i) H) (s.wt i).1 = true ∧ mem (restL (s.cl i) H) (s.wt i).2 = true ∧ (s.wt i).1 ≠ (s.wt i).2)
theorem upd_same (L : Int → List Nat) (x : Int) : upd L x (L x) = L := by
  funext y; unfold upd; split
  · rename_i e; rw [e]
  · rfl
theorem mv_same (s : Sv) (i : Nat) (x : Int) : (mv s i x).1.C = s.C ∧ (mv s i x).1.n = s.n ∧ (mv s i x).1.H = s.H ∧ (mv s i x).1.T = s.T ∧ (mv s i x).1.K = s.K := by
  unfold mv
  split
  · exact ⟨rfl, rfl, rfl, rfl, rfl⟩
  · split
    · exact ⟨rfl, rfl, rfl, rfl, rfl⟩
    · split <;> exact ⟨rfl, rfl, rfl, rfl, rfl⟩
theorem mvs_same (x : Int) : ∀ (R : List Nat) (s : Sv) (kept : List Nat), (mvs x R s kept).1.C = s.C ∧ (mvs x R s kept).1.n = s.n ∧ (mvs x R s kept).1.H = s.H ∧ (mvs x R s kept).1.T = s.T ∧ (mvs x R s kept).1.K = s.K
  | [], s, kept => ⟨rfl, rfl, rfl, rfl, rfl⟩
  | i :: R, s, kept => by
    obtain ⟨h1, h2, h3, h4, h5⟩ := mvs_same x R (mv s i x).1 (if (mv s i x).2 = true then kept else kept ++ [i])
    obtain ⟨g1, g2, g3, g4, g5⟩ := mv_same s i x
    exact ⟨h1.trans g1, h2.trans g2, h3.trans g3, h4.trans g4, h5.trans g5⟩
theorem mvs_mid {H0 : LS} {l : Int} : ∀ (R : List Nat) (s : Sv) (kept : List Nat), Mid s H0 l kept R → Mid (mvs (-l) R s kept).1 H0 l (mvs (-l) R s kept).2 []
  | [], s, kept, h => h
  | i :: R, s, kept, h => mvs_mid R _ _ (mv_mid h)
theorem mid_start {s : Sv} {l r : Int} (h : Okay s) (hst : ∀ i, i < s.C.length → StH s s.H i ∨ mem (s.cl i) l = true) (l0 : l ≠ 0) (lo : -40 ≤ l ∧ l ≤ 40) (no : mem s.H l = false ∧ mem s.H (-l) = false) :
    Mid (held1 s l r) s.H l [] (s.L (-l)) := by
  have hw : Wf (withL s.H (onlyL l)) := wf_with h.wfH (wf_only l0 lo.1 lo.2)
  have hsub : ∀ y, mem s.H y = true → mem (withL s.H (onlyL l)) y = true := fun y hy => by rw [mem_held l0, hy]; rfl
  have hwt : ∀ i, (held1 s l r).wt i = s.wt i := fun _ => rfl
  have hcl : ∀ i, (held1 s l r).cl i = s.cl i := fun _ => rfl
  have hnl : -l ≠ 0 := by omega
  refine ⟨?_, rfl, h.wfH, l0, lo, no, fun i hi => ?_, fun i hi hd => h.dfew i hd, fun i hi hn => ?_⟩
  · refine ⟨hw, fun y hy => ?_, h.wfC, h.len, h.w1, h.w2, fun x hx => ?_, fun x i hx => ?_, h.dsort, h.dlt, fun i hi => few_mono (h.wfC i) h.wfH hw hsub (h.dfew i hi), ?_⟩
    · have hy : mem (withL s.H (onlyL l)) y = true := hy
      show mem (withL s.H (onlyL l)) (-y) = false
      rw [mem_held l0] at hy ⊢
      by_cases e : l = y
      · subst e; rw [no.2]; simp; omega
      · simp only [e, decide_false, Bool.or_false] at hy
        rw [h.cons y hy]
        simp
        intro e2
        have : y = -l := by omega
        rw [this, no.2] at hy
        cases hy
    · show (upd s.L (-l) ([] ++ s.L (-l)) x).Nodup
      rw [List.nil_append, upd_same]; exact h.nodup x hx
    · show i ∈ upd s.L (-l) ([] ++ s.L (-l)) x ↔ _
      rw [List.nil_append, upd_same]; exact h.lists x i hx
    · rcases h.fin with e | ⟨f, hf, e, hr⟩
      · exact .inl e
      · exact .inr ⟨f, hf, e, none_mono (h.wfC f) h.wfH hw hsub hr⟩
  · rcases hst i (h.lt hnl hi) with ho | ho
    · exact .inl ho
    · exact .inr ho
  · have hi : i < s.C.length := hi
    have hc := h.wfC i
    show StH (held1 s l r) (withL s.H (onlyL l)) i
    have hnw : ¬ ((s.wt i).1 = -l ∨ (s.wt i).2 = -l) := fun e => hn ((h.lists (-l) i hnl).2 e)
    have key : ∀ y, mem (restL (s.cl i) s.H) y = true → y ≠ -l → mem (restL (s.cl i) (withL s.H (onlyL l))) y = true := fun y hy hne => by
      rw [mem_rest hc h.wfH, Bool.and_eq_true] at hy
      rw [mem_rest hc hw, mem_held l0, hy.1]
      have : mem s.H (-y) = false := by have := hy.2; simpa using this
      rw [this]
      simp
      omega
    rcases hst i hi with ho | ho
    · rcases ho with ho | ⟨h1, h2⟩ | ⟨x, h1, h2, h3, h4⟩ | ⟨h1, h2, h3⟩
      · exact .inl (meet_mono hc hsub ho)
      · exact .inr (.inl ⟨none_mono hc h.wfH hw hsub h1, h2⟩)
      · have hxl : x ≠ -l := fun e => hnw (by rcases h3 with h3 | h3 <;> simp [← h3, e])
        have hm : mem (restL (s.cl i) s.H) x = true := by rw [h1, mem_only h2]; simp
        have hr := (wf_rest hc s.H).range hm
        refine .inr (.inr (.inl ⟨x, ls_ext (wf_rest hc _) (wf_only h2 hr.2.1 hr.2.2) fun y => ?_, h2, h3, h4⟩))
        rw [mem_only h2, Bool.eq_iff_iff, decide_eq_true_eq]
        constructor
        · intro hy
          have := rest_mono hc h.wfH hw hsub hy
          rw [h1, mem_only h2, decide_eq_true_eq] at this
          exact this
        · intro e; subst e; exact key _ hm hxl
      · exact .inr (.inr (.inr ⟨key _ h1 (fun e => hnw (.inl e)), key _ h2 (fun e => hnw (.inr e)), h3⟩))
    · exact .inl ((meet_iff hc).2 ⟨l, ho, by rw [mem_held l0]; simp⟩)
theorem hold_same (s : Sv) (l r : Int) : (holdS s l r).C = s.C ∧ (holdS s l r).n = s.n ∧ (holdS s l r).H = withL s.H (onlyL l) ∧ (holdS s l r).T = s.T ++ [(l, r)] ∧ (holdS s l r).K = s.K :=
  mvs_same (-l) (s.L (-l)) (held1 s l r) []
theorem hold_full {s : Sv} {l r : Int} (h : Okay s) (hst : ∀ i, i < s.C.length → StH s s.H i ∨ mem (s.cl i) l = true) (l0 : l ≠ 0) (lo : -40 ≤ l ∧ l ≤ 40) (no : mem s.H l = false ∧ mem s.H (-l) = false) : Full (holdS s l r) := by
  have hm := mvs_mid _ _ _ (mid_start (r := r) h hst l0 lo no)
  refine ⟨by have := hm.ok; rw [List.append_nil] at this; exact this, fun i hi => ?_⟩
  have := hm.new i hi (by simp)
  exact this
theorem mv_good {s : Sv} {H0 H1 : LS} {l : Int} {kept R : List Nat} {i : Nat} (h : Mid s H0 l kept (i :: R)) (h1 : Wf H1) (hs : ∀ y, mem H1 y = true → mem s.H y = true) (hg : Good s H1) : Good (mv s i (-l)).1 H1 := by
  obtain ⟨_, _, _, _, hlt⟩ := h.head
  have hc := h.wfc i
  by_cases hm : meetL (s.cl i) s.H = true
  · unfold mv; rw [if_pos hm]; exact hg
  · by_cases hr : restL (s.cl i) s.H = (0, 0)
    · unfold mv; rw [if_neg hm, if_pos hr]; exact hg
    · by_cases ho : restL (s.cl i) s.H = onlyL (stay s i (-l))
      · unfold mv; rw [if_neg hm, if_neg hr, if_pos ho]; exact hg
      · obtain ⟨s1, s2, s3, s4⟩ := h.stays hm hr
        obtain ⟨t1, t2, t3, t4⟩ := h.to hm hr ho
        have hlw : i < s.W.length := by have := h.ok.len; dsimp only at this; omega
        unfold mv
        rw [if_neg hm, if_neg hr, if_neg ho]
        intro j hj
        have hwj : Sv.wt { s with W := s.W.set i (stay s i (-l), toL s i (-l)), L := upd s.L (toL s i (-l)) (s.L (toL s i (-l)) ++ [i]) } j = if j = i then (stay s i (-l), toL s i (-l)) else s.wt j := wt_set hlw
        dsimp only at hj ⊢
        rw [hwj]
        by_cases e : j = i
        · subst e
          rw [if_pos rfl]
          rcases hg j hj with hq | ⟨g1, g2, g3⟩
          · exact absurd (meet_mono hc hs hq) hm
          · refine .inr ⟨?_, rest_mono hc h1 h.wfH hs t1, fun e => t3 e.symm⟩
            rcases s3 with e | e
            · dsimp only; rw [e]; exact g1
            · dsimp only; rw [e]; exact g2
        · rw [if_neg e]; exact hg j hj
theorem mvs_good {H0 H1 : LS} {l : Int} (h1 : Wf H1) : ∀ (R : List Nat) (s : Sv) (kept : List Nat), Mid s H0 l kept R → (∀ y, mem H1 y = true → mem s.H y = true) → Good s H1 → Good (mvs (-l) R s kept).1 H1
  | [], s, kept, _, _, hg => hg
  | i :: R, s, kept, h, hs, hg => mvs_good h1 R _ _ (mv_mid h) (by rw [(mv_same s i (-l)).2.2.1]; exact hs) (mv_good h h1 hs hg)
theorem hold_good {s : Sv} {l r : Int} {H1 : LS} (h : Okay s) (hst : ∀ i, i < s.C.length → StH s s.H i ∨ mem (s.cl i) l = true) (l0 : l ≠ 0) (lo : -40 ≤ l ∧ l ≤ 40) (no : mem s.H l = false ∧ mem s.H (-l) = false)
    (h1 : Wf H1) (hs : ∀ y, mem H1 y = true → mem s.H y = true) (hg : Good s H1) : Good (holdS s l r) H1 := by
  have := mvs_good (l := l) h1 _ _ _ (mid_start (r := r) h hst l0 lo no) (fun y hy => by show mem (withL s.H (onlyL l)) y = true; rw [mem_held l0, hs y hy]; rfl) hg
  exact this
/-- The first clause that is due is taken. -/
def popS (s : Sv) (i : Nat) (D : List Nat) : Sv := if meetL (s.cl i) s.H = true then { s with D := D } else holdS { s with D := D } (firstL (restL (s.cl i) s.H)) i
theorem unit_of {s : Sv} {i : Nat} {D : List Nat} (h : Full s) (hF : s.F = -1) (hD : s.D = i :: D) (hm : ¬ meetL (s.cl i) s.H = true) :
    ∃ x, firstL (restL (s.cl i) s.H) = x ∧ restL (s.cl i) s.H = onlyL x ∧ x ≠ 0 ∧ (-40 ≤ x ∧ x ≤ 40) ∧ mem (s.cl i) x = true ∧ mem s.H x = false ∧ mem s.H (-x) = false := by
  have hi : i ∈ s.D := by rw [hD]; simp
  have hc := h.ok.wfC i
  rcases h.st i (h.ok.dlt i hi) with hq | ⟨_, hq, _⟩ | ⟨x, h1, h2, h3, h4⟩ | ⟨h1, h2, h3⟩
  · exact absurd hq hm
  · exact absurd hF hq
  · have hx : mem (restL (s.cl i) s.H) x = true := by rw [h1, mem_only h2]; simp
    have hr := (wf_rest hc s.H).range hx
    have hmx := hx
    rw [mem_rest hc h.ok.wfH, Bool.and_eq_true] at hmx
    have hf := first_spec (a := onlyL x) (wf_only h2 hr.2.1 hr.2.2) (fun e => by rw [h1, e, mem_zero] at hx; cases hx)
    have e := hf.1
    rw [mem_only h2, decide_eq_true_eq] at e
    exact ⟨x, by rw [h1]; exact e.symm, h1, h2, hr.2, hmx.1, meet_false hc (by simpa using hm) hmx.1, by simpa using hmx.2⟩
  · rcases h.ok.dfew i hi with hq | ⟨x, hx⟩
    · exact absurd hq hm
    · exact absurd ((hx _ h1).trans (hx _ h2).symm) h3
theorem okay_pop {s : Sv} {i : Nat} {D : List Nat} (h : Okay s) (hD : s.D = i :: D) : Okay { s with D := D } :=
  ⟨h.wfH, h.cons, h.wfC, h.len, h.w1, h.w2, h.nodup, h.lists, by have := h.dsort; rw [hD, List.pairwise_cons] at this; exact this.2, fun j hj => h.dlt j (by rw [hD]; simp [show j ∈ D from hj]), fun j hj => h.dfew j (by rw [hD]; simp [show j ∈ D from hj]), h.fin⟩
theorem pop_st {s : Sv} {i : Nat} {D : List Nat} (h : Full s) (hD : s.D = i :: D) {j : Nat} (hj : j < s.C.length) (hne : j ≠ i) : StH { s with D := D } s.H j :=
  st_keep (s := s) rfl rfl (fun hd => by rw [hD] at hd; rcases List.mem_cons.1 hd with e | e; exact absurd e hne; exact e) id (h.st j hj)
theorem pop_full {s : Sv} {i : Nat} {D : List Nat} (h : Full s) (hF : s.F = -1) (hD : s.D = i :: D) : Full (popS s i D) := by
  unfold popS
  by_cases hm : meetL (s.cl i) s.H = true
  · rw [if_pos hm]
    refine ⟨okay_pop h.ok hD, fun j hj => ?_⟩
    by_cases e : j = i
    · subst e; exact .inl hm
    · exact pop_st h hD hj e
  · rw [if_neg hm]
    obtain ⟨x, e, h1, h2, h3, h4, h5, h6⟩ := unit_of h hF hD hm
    rw [e]
    refine hold_full (okay_pop h.ok hD) (fun j hj => ?_) h2 h3 ⟨h5, h6⟩
    by_cases e : j = i
    · subst e; exact .inr h4
    · exact .inl (pop_st h hD hj e)
end Go.Proofs.YtpfecijahiikhaaGreatDoor.solHold

/- A solver's state: what is due is taken until a clause is false or nothing is due; how long that goes on; conditions: none. -/
namespace Go.Proofs.YtpfecijahiikhaaGreatDoor.solProp
open sets solSets solMath solHold
set_option linter.unusedVariables false
set_option linter.unusedSimpArgs false

def propF : Nat → Sv → Sv
  | 0, s => s
  | k + 1, s => if s.F = -1 then (match s.D with | [] => s | i :: D => propF k (popS s i D)) else s
def free (H : LS) : Nat := ((List.range 41).filter (fun (v : Nat) => !mem H (v : Int) && !mem H (-(v : Int)))).length
def meas (s : Sv) : Nat := free s.H * (s.C.length + 1) + s.D.length
theorem filter_lt {p q : Nat → Bool} : ∀ {l : List Nat} {a : Nat}, a ∈ l → p a = true → q a = false → (∀ x, q x = true → p x = true) → (l.filter q).length < (l.filter p).length
  | [], a, h, _, _, _ => by cases h
  | b :: l, a, h, hp, hq, hm => by
    have mono : (l.filter q).length ≤ (l.filter p).length := by
      clear h hp hq
      induction l with
      | nil => simp
      | cons c l ih =>
        by_cases hqc : q c = true
        · rw [List.filter_cons_of_pos hqc, List.filter_cons_of_pos (hm c hqc)]; simp; exact ih
        · rw [List.filter_cons_of_neg hqc]
          by_cases hpc : p c = true
          · rw [List.filter_cons_of_pos hpc]; simp; omega
          · rw [List.filter_cons_of_neg hpc]; exact ih
    by_cases e : a = b
    · subst e
      rw [List.filter_cons_of_neg (by simp [hq]), List.filter_cons_of_pos hp]
      simp; omega
    · have hl : a ∈ l := by
        rcases List.mem_cons.1 h with h | h
        · exact absurd h e
        · exact h
      have ih := filter_lt hl hp hq hm
      by_cases hqb : q b = true
      · rw [List.filter_cons_of_pos hqb, List.filter_cons_of_pos (hm b hqb)]; simp; exact ih
      · rw [List.filter_cons_of_neg hqb]
        by_cases hpb : p b = true
        · rw [List.filter_cons_of_pos hpb]; simp; omega
        · rw [List.filter_cons_of_neg hpb]; exact ih
theorem free_hold {H : LS} {l : Int} (l0 : l ≠ 0) (lo : -40 ≤ l ∧ l ≤ 40) (no : mem H l = false ∧ mem H (-l) = false) : free (withL H (onlyL l)) < free H := by
  unfold free
  refine filter_lt (a := l.natAbs) (List.mem_range.2 (by omega)) ?_ ?_ ?_
  · rcases (show (l.natAbs : Int) = l ∨ (l.natAbs : Int) = -l by omega) with e | e
    · rw [e, no.1, no.2]; rfl
    · rw [e, Int.neg_neg, no.1, no.2]; rfl
  · rcases (show (l.natAbs : Int) = l ∨ (l.natAbs : Int) = -l by omega) with e | e
    · rw [e, mem_held l0]; simp
    · rw [e, Int.neg_neg, mem_held l0, mem_held l0]; simp
  · intro x hx
    rw [mem_held l0, mem_held l0] at hx
    simp at hx ⊢
    exact ⟨hx.1.1, hx.2.1⟩
theorem free_most (H : LS) : free H ≤ 41 := by
  unfold free
  exact Nat.le_trans (List.length_filter_le _ _) (by simp)
theorem pop_same {s : Sv} {i : Nat} {D : List Nat} : (popS s i D).C = s.C ∧ (popS s i D).n = s.n ∧ (popS s i D).K = s.K := by
  unfold popS
  split
  · exact ⟨rfl, rfl, rfl⟩
  · have := hold_same { s with D := D } (firstL (restL (s.cl i) s.H)) i
    exact ⟨this.1, this.2.1, this.2.2.2.2⟩
theorem pop_less {s : Sv} {i : Nat} {D : List Nat} (h : Full s) (hF : s.F = -1) (hD : s.D = i :: D) : meas (popS s i D) < meas s := by
  have hf := pop_full h hF hD
  have hc := (pop_same (s := s) (i := i) (D := D)).1
  have hd := hf.ok.dmost
  unfold meas
  rw [hc] at hd ⊢
  by_cases hm : meetL (s.cl i) s.H = true
  · have e : popS s i D = { s with D := D } := by unfold popS; rw [if_pos hm]
    rw [e, hD]
    simp
  · obtain ⟨x, e, h1, h2, h3, h4, h5, h6⟩ := unit_of h hF hD hm
    have eH : (popS s i D).H = withL s.H (onlyL x) := by
      unfold popS
      rw [if_neg hm, e]
      exact (hold_same _ _ _).2.2.1
    have := free_hold h2 h3 ⟨h5, h6⟩
    rw [eH]
    generalize free (withL s.H (onlyL x)) = a at *
    generalize free s.H = b at *
    generalize s.C.length = c at *
    obtain ⟨d, rfl⟩ : ∃ d, b = a + 1 + d := ⟨b - a - 1, by omega⟩
    rw [show (a + 1 + d) * (c + 1) = a * (c + 1) + (c + 1) + d * (c + 1) by rw [Nat.add_mul, Nat.add_mul]; omega]
    generalize a * (c + 1) = p at *
    generalize d * (c + 1) = q at *
    omega
theorem propF_end {k : Nat} {s : Sv} (h : s.F ≠ -1 ∨ s.D = []) : propF (k + 1) s = s := by
  unfold propF
  by_cases hF : s.F = -1
  · rw [if_pos hF]
    rcases h with h | h
    · exact absurd hF h
    · rw [h]
  · rw [if_neg hF]
theorem propF_step {k : Nat} {s : Sv} {i : Nat} {D : List Nat} (hF : s.F = -1) (hD : s.D = i :: D) : propF (k + 1) s = propF k (popS s i D) := by
  conv => lhs; unfold propF
  rw [if_pos hF, hD]
/-- Where it ends. -/
theorem propF_done : ∀ (k : Nat) (s : Sv), Full s → meas s < k → Full (propF k s) ∧ ((propF k s).F ≠ -1 ∨ (propF k s).D = []) ∧ (propF k s).C = s.C ∧ (propF k s).n = s.n ∧ (propF k s).K = s.K
  | 0, s, _, hm => by omega
  | k + 1, s, h, hm => by
    by_cases hF : s.F = -1
    · cases hD : s.D with
      | nil => rw [propF_end (.inr hD)]; exact ⟨h, .inr hD, rfl, rfl, rfl⟩
      | cons i D =>
        rw [propF_step hF hD]
        have := propF_done k _ (pop_full h hF hD) (by have := pop_less h hF hD; omega)
        obtain ⟨e1, e2, e3⟩ := pop_same (s := s) (i := i) (D := D)
        exact ⟨this.1, this.2.1, this.2.2.1.trans e1, this.2.2.2.1.trans e2, this.2.2.2.2.trans e3⟩
    · rw [propF_end (.inl hF)]; exact ⟨h, .inl hF, rfl, rfl, rfl⟩
theorem propF_same : ∀ (k m : Nat) (s : Sv), Full s → meas s < k → meas s < m → propF k s = propF m s
  | 0, _, s, _, h, _ => by omega
  | _ + 1, 0, s, _, _, h => by omega
  | k + 1, m + 1, s, h, h1, h2 => by
    by_cases hF : s.F = -1
    · cases hD : s.D with
      | nil => rw [propF_end (.inr hD), propF_end (.inr hD)]
      | cons i D =>
        rw [propF_step hF hD, propF_step hF hD]
        have := pop_less h hF hD
        exact propF_same k m _ (pop_full h hF hD) (by omega) (by omega)
    · rw [propF_end (.inl hF), propF_end (.inl hF)]
end Go.Proofs.YtpfecijahiikhaaGreatDoor.solProp
