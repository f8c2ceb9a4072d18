/- SolAdd; SolProp; SolClose: one text, so that the claim has fewer files. -/
import Derived.Test.YtbahjpheaaiamaaDoorPart6
/- A solver's state: a clause is put behind the others, while nothing has become true yet; what is kept by that; conditions: none. -/
namespace Go.Proofs.YtbahjpheaaiamaaDoor.solAdd
open sets solSets solMath solHold
set_option linter.unusedVariables false
set_option linter.unusedSimpArgs false

def base1 (s : Sv) (c : LS) : Sv := { s with C := s.C ++ [c], W := s.W ++ [(0, 0)] }
def oneL (s : Sv) (c : LS) : Int := firstL (restL c s.H)
def othL (s : Sv) (c : LS) : Int := firstL (woL (restL c s.H) (onlyL (oneL s c)))
/-- What watch leaves. -/
def watS (s : Sv) (i : Nat) (x y : Int) : Sv := if y = 0 then { s with W := s.W.set i (x, y), L := upd s.L x (s.L x ++ [i]) } else { s with W := s.W.set i (x, y), L := upd (upd s.L x (s.L x ++ [i])) y ((upd s.L x (s.L x ++ [i])) y ++ [i]) }
def addS (s : Sv) (c : LS) : Sv :=
  if oneL s c = 0 then { base1 s c with F := failF s.F s.C.length }
  else if othL s c = 0 then watS { base1 s c with D := insS s.C.length s.D } s.C.length (oneL s c) 0
  else watS (base1 s c) s.C.length (oneL s c) (othL s c)
theorem cl_add {s : Sv} {c : LS} {D : List Nat} {W : List (Int × Int)} {L : Int → List Nat} {F : Int} (j : Nat) : Sv.cl { s with C := s.C ++ [c], W := W, L := L, D := D, F := F } j = if j = s.C.length then c else s.cl j := by
  unfold Sv.cl
  dsimp only
  by_cases h : j < s.C.length
  · rw [List.getElem?_append_left h, if_neg (by omega)]
  · rw [List.getElem?_append_right (by omega)]
    by_cases e : j = s.C.length
    · rw [if_pos e, e]; simp
    · rw [if_neg e, List.getElem?_eq_none (by simp; omega), List.getElem?_eq_none (by omega)]
theorem wt_add {s : Sv} (p : Int × Int) (j : Nat) : ((s.W ++ [(0, 0)]).set s.W.length p)[j]?.getD (0, 0) = if j = s.W.length then p else s.wt j := by
  unfold Sv.wt
  rw [List.getElem?_set]
  by_cases e : s.W.length = j
  · rw [if_pos e, if_pos e.symm, if_pos (by simp)]; rfl
  · rw [if_neg e, if_neg (fun h => e h.symm)]
    by_cases h : j < s.W.length
    · rw [List.getElem?_append_left h]
    · rw [List.getElem?_append_right (by omega), List.getElem?_eq_none (by simp; omega), List.getElem?_eq_none (by omega)]
theorem wt_new {s : Sv} (j : Nat) : (s.W ++ [(0, 0)])[j]?.getD (0, 0) = s.wt j := by
  unfold Sv.wt
  by_cases h : j < s.W.length
  · rw [List.getElem?_append_left h]
  · rw [List.getElem?_append_right (by omega), List.getElem?_eq_none (i := j) (l := s.W) (by omega)]
    by_cases e : j = s.W.length
    · subst e; simp
    · rw [List.getElem?_eq_none (by simp; omega)]
theorem wt_last {s : Sv} (h : Okay s) : s.wt s.C.length = (0, 0) := by
  unfold Sv.wt
  rw [List.getElem?_eq_none (by rw [h.len]; exact Nat.le_refl _)]; rfl
theorem ins_last {D : List Nat} {n : Nat} (h : ∀ x ∈ D, x < n) : insS n D = D ++ [n] := by
  unfold insS
  have : D.countP (· < n) = D.length := by rw [List.countP_eq_length]; intro a ha; simpa using h a ha
  rw [this, List.take_length, List.drop_length]
/-- The common part: a clause with two watched literals (x, y), y 0 where there is one alone. -/
theorem add_okay {s : Sv} (h : Full s) {c : LS} (hc : Wf c) {x y : Int} (hx : x ≠ 0) (hmx : mem c x = true) (hy : y ≠ 0 → mem c y = true ∧ x ≠ y) {D : List Nat} (hD1 : D.Pairwise (· < ·)) (hD2 : ∀ j ∈ D, j < s.C.length + 1) (hD3 : ∀ j ∈ D, j = s.C.length ∨ j ∈ s.D) (hD4 : s.C.length ∈ D → Few c s.H) (hD5 : ∀ j ∈ s.D, j ∈ D)
    (L : Int → List Nat) (hL : ∀ q j, q ≠ 0 → (j ∈ L q ↔ (j ∈ s.L q ∨ j = s.C.length ∧ (x = q ∨ y = q)))) (hLn : ∀ q, q ≠ 0 → (L q).Nodup)
    (hst : (restL c s.H = onlyL x ∧ s.C.length ∈ D) ∨ (mem (restL c s.H) x = true ∧ mem (restL c s.H) y = true ∧ x ≠ y)) :
    Full { s with C := s.C ++ [c], W := (s.W ++ [(0, 0)]).set s.C.length (x, y), L := L, D := D, F := s.F } := by
  have hlen := h.ok.len
  have hcl : ∀ j, Sv.cl { s with C := s.C ++ [c], W := (s.W ++ [(0, 0)]).set s.C.length (x, y), L := L, D := D, F := s.F } j = if j = s.C.length then c else s.cl j := fun j => cl_add j
  have hwt : ∀ j, Sv.wt { s with C := s.C ++ [c], W := (s.W ++ [(0, 0)]).set s.C.length (x, y), L := L, D := D, F := s.F } j = if j = s.C.length then (x, y) else s.wt j := fun j => by
    show ((s.W ++ [(0, 0)]).set s.C.length (x, y))[j]?.getD (0, 0) = _
    rw [← hlen, wt_add]
  refine ⟨⟨h.ok.wfH, h.ok.cons, fun j => ?_, ?_, fun j => ?_, fun j => ?_, hLn, fun q j hq => ?_, hD1, fun j hj => ?_, fun j hj => ?_, ?_⟩, fun j hj => ?_⟩
  · rw [hcl]; split
    · exact hc
    · exact h.ok.wfC j
  · show ((s.W ++ [(0, 0)]).set s.C.length (x, y)).length = (s.C ++ [c]).length
    simp [hlen]
  · rw [hcl, hwt]
    by_cases e : j = s.C.length
    · rw [if_pos e, if_pos e]; exact fun _ => hmx
    · rw [if_neg e, if_neg e]; exact h.ok.w1 j
  · rw [hcl, hwt]
    by_cases e : j = s.C.length
    · rw [if_pos e, if_pos e]; exact hy
    · rw [if_neg e, if_neg e]; exact h.ok.w2 j
  · rw [hwt]
    show j ∈ L q ↔ _
    rw [hL q j hq, h.ok.lists q j hq]
    by_cases e : j = s.C.length
    · rw [if_pos e, e, wt_last h.ok]
      constructor
      · rintro ((e | e) | ⟨_, e⟩)
        · exact absurd e.symm hq
        · exact absurd e.symm hq
        · exact e
      · exact fun e => .inr ⟨rfl, e⟩
    · rw [if_neg e]
      constructor
      · rintro (e' | ⟨e', _⟩)
        · exact e'
        · exact absurd e' e
      · exact fun e' => .inl e'
  · show j < (s.C ++ [c]).length
    simp; exact hD2 j hj
  · rw [hcl]
    by_cases e : j = s.C.length
    · rw [if_pos e]; exact hD4 (by rw [← e]; exact hj)
    · rw [if_neg e]
      rcases hD3 j hj with e' | e'
      · exact absurd e' e
      · exact h.ok.dfew j e'
  · rcases h.ok.fin with e | ⟨f, hf, e, hr⟩
    · exact .inl e
    · refine .inr ⟨f, by show f < (s.C ++ [c]).length; simp; omega, e, ?_⟩
      rw [hcl, if_neg (by omega)]; exact hr
  · have hj : j < (s.C ++ [c]).length := hj
    simp at hj
    unfold StH
    rw [hcl, hwt]
    by_cases e : j = s.C.length
    · rw [if_pos e, if_pos e]
      rcases hst with ⟨h1, h2⟩ | h1
      · exact .inr (.inr (.inl ⟨x, h1, hx, .inl rfl, by rw [e]; exact h2⟩))
      · exact .inr (.inr (.inr h1))
    · rw [if_neg e, if_neg e]
      rcases h.st j (by omega) with q | q | ⟨z, q1, q2, q3, q4⟩ | q
      · exact .inl q
      · exact .inr (.inl q)
      · exact .inr (.inr (.inl ⟨z, q1, q2, q3, hD5 j q4⟩))
      · exact .inr (.inr (.inr q))
theorem not_in {s : Sv} (h : Okay s) {q : Int} (hq : q ≠ 0) : s.C.length ∉ s.L q := fun hi => Nat.lt_irrefl _ (h.lt hq hi)
theorem add_full {s : Sv} {c : LS} (h : Full s) (hc : Wf c) : Full (addS s c) := by
  have hwr := wf_rest hc s.H
  unfold addS
  by_cases h0 : oneL s c = 0
  · rw [if_pos h0]
    have hr : restL c s.H = (0, 0) := (first_zero hwr).1 h0
    have hlen := h.ok.len
    have hcl : ∀ j, Sv.cl { base1 s c with F := failF s.F s.C.length } j = if j = s.C.length then c else s.cl j := fun j => cl_add j
    have hwt : ∀ j, Sv.wt { base1 s c with F := failF s.F s.C.length } j = s.wt j := fun j => wt_new j
    refine ⟨⟨h.ok.wfH, h.ok.cons, fun j => ?_, ?_, fun j => ?_, fun j => ?_, h.ok.nodup, fun q j hq => ?_, h.ok.dsort, fun j hj => ?_, fun j hj => ?_, ?_⟩, fun j hj => ?_⟩
    · rw [hcl]; split
      · exact hc
      · exact h.ok.wfC j
    · show (s.W ++ [(0, 0)]).length = (s.C ++ [c]).length
      simp [hlen]
    · rw [hcl, hwt]
      by_cases e : j = s.C.length
      · rw [e, wt_last h.ok]; exact fun hx => absurd rfl hx
      · rw [if_neg e]; exact h.ok.w1 j
    · rw [hcl, hwt]
      by_cases e : j = s.C.length
      · rw [e, wt_last h.ok]; exact fun hx => absurd rfl hx
      · rw [if_neg e]; exact h.ok.w2 j
    · rw [hwt]; exact h.ok.lists q j hq
    · have := h.ok.dlt j hj
      show j < (s.C ++ [c]).length
      simp; omega
    · rw [hcl, if_neg (by have := h.ok.dlt j hj; omega)]; exact h.ok.dfew j hj
    · show failF s.F s.C.length = -1 ∨ _
      by_cases e : s.F = -1 ∨ ((s.C.length : Nat) : Int) < s.F
      · refine .inr ⟨s.C.length, by show s.C.length < (s.C ++ [c]).length; simp, by show failF s.F s.C.length = _; unfold failF; rw [if_pos e], ?_⟩
        rw [hcl, if_pos rfl]; exact hr
      · have e2 : failF s.F s.C.length = s.F := by unfold failF; rw [if_neg e]
        rcases h.ok.fin with e | ⟨f, hf, e, hr⟩
        · exact .inl (e2.trans e)
        · refine .inr ⟨f, by show f < (s.C ++ [c]).length; simp; omega, by show failF s.F s.C.length = _; rw [e2]; exact e, ?_⟩
          rw [hcl, if_neg (by omega)]; exact hr
    · have hj : j < (s.C ++ [c]).length := hj
      simp at hj
      by_cases e : j = s.C.length
      · refine .inr (.inl ?_)
        rw [hcl, if_pos e]
        exact ⟨hr, by rw [e]; exact fail_ne _ _⟩
      · have hq := h.st j (by omega)
        unfold StH at hq ⊢
        rw [hcl, hwt, if_neg e]
        rcases hq with q | ⟨q1, q2⟩ | q | q
        · exact .inl q
        · exact .inr (.inl ⟨q1, fail_keep q2⟩)
        · exact .inr (.inr (.inl q))
        · exact .inr (.inr (.inr q))
  · rw [if_neg h0]
    have hne : restL c s.H ≠ (0, 0) := fun e => h0 ((first_zero hwr).2 e)
    obtain ⟨f1, f2, _⟩ := first_spec hwr hne
    have f1 : mem (restL c s.H) (oneL s c) = true := f1
    have f2 : oneL s c ≠ 0 := f2
    obtain ⟨_, lo, hi⟩ := hwr.range f1
    have hwo := wf_only f2 lo hi
    have hm1 : mem c (oneL s c) = true := by rw [mem_rest hc h.ok.wfH, Bool.and_eq_true] at f1; exact f1.1
    by_cases h1 : othL s c = 0
    · rw [if_pos h1]
      have hr : restL c s.H = onlyL (oneL s c) := ls_ext hwr hwo fun y => by
        have := (zero_iff (wf_wo hwr _)).1 ((first_zero (wf_wo hwr _)).1 h1) y
        rw [mem_wo hwr hwo, mem_only f2] at this
        rw [mem_only f2]
        by_cases hy : oneL s c = y
        · rw [← hy, f1]; simp
        · simp [hy] at this
          simp [hy, this]
      unfold watS
      rw [if_pos rfl]
      refine add_okay h hc f2 hm1 (fun e => absurd rfl e) (ins_sorted h.ok.dsort (fun hd => Nat.lt_irrefl _ (h.ok.dlt _ hd))) (fun j hj => ?_) (fun j hj => mem_ins.1 hj) (fun _ => .inr ⟨oneL s c, fun y hy => ?_⟩) (fun j hj => mem_ins.2 (.inr hj)) _ (fun q j hq => ?_) (fun q hq => ?_) (.inl ⟨hr, mem_ins.2 (.inl rfl)⟩)
      · rcases mem_ins.1 hj with e | e
        · omega
        · have := h.ok.dlt j e; omega
      · rw [hr, mem_only f2, decide_eq_true_eq] at hy; exact hy.symm
      · show j ∈ upd s.L (oneL s c) (s.L (oneL s c) ++ [s.C.length]) q ↔ _
        unfold upd
        by_cases e : q = oneL s c
        · rw [if_pos e, e]; simp
        · rw [if_neg e]
          constructor
          · exact .inl
          · rintro (e' | ⟨_, e' | e'⟩)
            · exact e'
            · exact absurd e'.symm e
            · exact absurd e'.symm hq
      · show (upd s.L (oneL s c) (s.L (oneL s c) ++ [s.C.length]) q).Nodup
        unfold upd
        by_cases e : q = oneL s c
        · rw [if_pos e, List.nodup_append]
          exact ⟨h.ok.nodup _ f2, by simp, fun a ha b hb => by simp at hb; subst hb; rintro rfl; exact not_in h.ok f2 ha⟩
        · rw [if_neg e]; exact h.ok.nodup q hq
    · rw [if_neg h1]
      obtain ⟨g1, g2, _⟩ := first_spec (wf_wo hwr (onlyL (oneL s c))) (fun e => h1 ((first_zero (wf_wo hwr _)).2 e))
      have g1 : mem (woL (restL c s.H) (onlyL (oneL s c))) (othL s c) = true := g1
      rw [mem_wo hwr hwo, mem_only f2, Bool.and_eq_true] at g1
      have hne2 : oneL s c ≠ othL s c := by have := g1.2; simpa using this
      have hm2 : mem c (othL s c) = true := by have := g1.1; rw [mem_rest hc h.ok.wfH, Bool.and_eq_true] at this; exact this.1
      have hup : upd s.L (oneL s c) (s.L (oneL s c) ++ [s.C.length]) (othL s c) = s.L (othL s c) := by unfold upd; rw [if_neg (fun e => hne2 e.symm)]
      unfold watS
      rw [if_neg h1]
      refine add_okay h hc f2 hm1 (fun _ => ⟨hm2, hne2⟩) h.ok.dsort (fun j hj => by have := h.ok.dlt j hj; omega) (fun j hj => .inr hj) (fun hd => absurd (h.ok.dlt _ hd) (Nat.lt_irrefl _)) (fun j hj => hj) _ (fun q j hq => ?_) (fun q hq => ?_) (.inr ⟨f1, g1.1, hne2⟩)
      · show j ∈ upd (upd s.L (oneL s c) (s.L (oneL s c) ++ [s.C.length])) (othL s c) (upd s.L (oneL s c) (s.L (oneL s c) ++ [s.C.length]) (othL s c) ++ [s.C.length]) q ↔ _
        rw [hup]
        unfold upd
        by_cases e2 : q = othL s c
        · rw [if_pos e2, e2]
          simp [hne2]
        · rw [if_neg e2]
          by_cases e : q = oneL s c
          · rw [if_pos e, e]; simp
          · rw [if_neg e]
            constructor
            · exact .inl
            · rintro (e' | ⟨_, e' | e'⟩)
              · exact e'
              · exact absurd e'.symm e
              · exact absurd e'.symm e2
      · show (upd (upd s.L (oneL s c) (s.L (oneL s c) ++ [s.C.length])) (othL s c) (upd s.L (oneL s c) (s.L (oneL s c) ++ [s.C.length]) (othL s c) ++ [s.C.length]) q).Nodup
        rw [hup]
        unfold upd
        by_cases e2 : q = othL s c
        · rw [if_pos e2, List.nodup_append]
          exact ⟨h.ok.nodup _ h1, by simp, fun a ha b hb => by simp at hb; subst hb; rintro rfl; exact not_in h.ok h1 ha⟩
        · rw [if_neg e2]
          by_cases e : q = oneL s c
          · rw [if_pos e, List.nodup_append]
            exact ⟨h.ok.nodup _ f2, by simp, fun a ha b hb => by simp at hb; subst hb; rintro rfl; exact not_in h.ok f2 ha⟩
          · rw [if_neg e]; exact h.ok.nodup q hq
end Go.Proofs.YtbahjpheaaiamaaDoor.solAdd

/- A solver's state: what is due is taken until a clause is false or nothing is due; how long that goes on; conditions: none. -/
namespace Go.Proofs.YtbahjpheaaiamaaDoor.solProp
open sets solSets solMath solHold
set_option linter.unusedVariables false
set_option linter.unusedSimpArgs false

def propF : Nat → Sv → Sv
  | 0, s => s
  | k + 1, s => if s.F = -1 then (match s.D with | [] => s | i :: D => propF k (popS s i D)) else s
def free (H : LS) : Nat := ((List.range 41).filter (fun (v : Nat) => !mem H (v : Int) && !mem H (-(v : Int)))).length
def meas (s : Sv) : Nat := free s.H * (s.C.length + 1) + s.D.length
theorem filter_lt {p q : Nat → Bool} : ∀ {l : List Nat} {a : Nat}, a ∈ l → p a = true → q a = false → (∀ x, q x = true → p x = true) → (l.filter q).length < (l.filter p).length
  | [], a, h, _, _, _ => by cases h
  | b :: l, a, h, hp, hq, hm => by
    have mono : (l.filter q).length ≤ (l.filter p).length := by
      clear h hp hq
      induction l with
      | nil => simp
      | cons c l ih =>
        by_cases hqc : q c = true
        · rw [List.filter_cons_of_pos hqc, List.filter_cons_of_pos (hm c hqc)]; simp; exact ih
        · rw [List.filter_cons_of_neg hqc]
          by_cases hpc : p c = true
          · rw [List.filter_cons_of_pos hpc]; simp; omega
          · rw [List.filter_cons_of_neg hpc]; exact ih
    by_cases e : a = b
    · subst e
      rw [List.filter_cons_of_neg (by simp [hq]), List.filter_cons_of_pos hp]
      simp; omega
    · have hl : a ∈ l := by
        rcases List.mem_cons.1 h with h | h
        · exact absurd h e
        · exact h
      have ih := filter_lt hl hp hq hm
      by_cases hqb : q b = true
      · rw [List.filter_cons_of_pos hqb, List.filter_cons_of_pos (hm b hqb)]; simp; exact ih
      · rw [List.filter_cons_of_neg hqb]
        by_cases hpb : p b = true
        · rw [List.filter_cons_of_pos hpb]; simp; omega
        · rw [List.filter_cons_of_neg hpb]; exact ih
theorem free_hold {H : LS} {l : Int} (l0 : l ≠ 0) (lo : -40 ≤ l ∧ l ≤ 40) (no : mem H l = false ∧ mem H (-l) = false) : free (withL H (onlyL l)) < free H := by
  unfold free
  refine filter_lt (a := l.natAbs) (List.mem_range.2 (by omega)) ?_ ?_ ?_
  · rcases (show (l.natAbs : Int) = l ∨ (l.natAbs : Int) = -l by omega) with e | e
    · rw [e, no.1, no.2]; rfl
    · rw [e, Int.neg_neg, no.1, no.2]; rfl
  · rcases (show (l.natAbs : Int) = l ∨ (l.natAbs : Int) = -l by omega) with e | e
    · rw [e, mem_held l0]; simp
    · rw [e, Int.neg_neg, mem_held l0, mem_held l0]; simp
  · intro x hx
    rw [mem_held l0, mem_held l0] at hx
    simp at hx ⊢
    exact ⟨hx.1.1, hx.2.1⟩
theorem pop_same {s : Sv} {i : Nat} {D : List Nat} : (popS s i D).C = s.C ∧ (popS s i D).n = s.n ∧ (popS s i D).K = s.K := by
  unfold popS
  split
  · exact ⟨rfl, rfl, rfl⟩
  · have := hold_same { s with D := D } (firstL (restL (s.cl i) s.H)) i
    exact ⟨this.1, this.2.1, this.2.2.2.2⟩
theorem pop_less {s : Sv} {i : Nat} {D : List Nat} (h : Full s) (hF : s.F = -1) (hD : s.D = i :: D) : meas (popS s i D) < meas s := by
  have hf := pop_full h hF hD
  have hc := (pop_same (s := s) (i := i) (D := D)).1
  have hd := hf.ok.dmost
  unfold meas
  rw [hc] at hd ⊢
  by_cases hm : meetL (s.cl i) s.H = true
  · have e : popS s i D = { s with D := D } := by unfold popS; rw [if_pos hm]
    rw [e, hD]
    simp
  · obtain ⟨x, e, h1, h2, h3, h4, h5, h6⟩ := unit_of h hF hD hm
    have eH : (popS s i D).H = withL s.H (onlyL x) := by
      unfold popS
      rw [if_neg hm, e]
      exact (hold_same _ _ _).2.2.1
    have := free_hold h2 h3 ⟨h5, h6⟩
    rw [eH]
    generalize free (withL s.H (onlyL x)) = a at *
    generalize free s.H = b at *
    generalize s.C.length = c at *
    obtain ⟨d, rfl⟩ : ∃ d, b = a + 1 + d := ⟨b - a - 1, by omega⟩
    rw [show (a + 1 + d) * (c + 1) = a * (c + 1) + (c + 1) + d * (c + 1) by rw [Nat.add_mul, Nat.add_mul]; omega]
    generalize a * (c + 1) = p at *
    generalize d * (c + 1) = q at *
    omega
theorem propF_end {k : Nat} {s : Sv} (h : s.F ≠ -1 ∨ s.D = []) : propF (k + 1) s = s := by
  unfold propF
  by_cases hF : s.F = -1
  · rw [if_pos hF]
    rcases h with h | h
    · exact absurd hF h
    · rw [h]
  · rw [if_neg hF]
theorem propF_step {k : Nat} {s : Sv} {i : Nat} {D : List Nat} (hF : s.F = -1) (hD : s.D = i :: D) : propF (k + 1) s = propF k (popS s i D) := by
  conv => lhs; unfold propF
  rw [if_pos hF, hD]
/-- Where it ends. -/
theorem propF_done : ∀ (k : Nat) (s : Sv), Full s → meas s < k → Full (propF k s) ∧ ((propF k s).F ≠ -1 ∨ (propF k s).D = []) ∧ (propF k s).C = s.C ∧ (propF k s).n = s.n ∧ (propF k s).K = s.K
  | 0, s, _, hm => by omega
  | k + 1, s, h, hm => by
    by_cases hF : s.F = -1
    · cases hD : s.D with
      | nil => rw [propF_end (.inr hD)]; exact ⟨h, .inr hD, rfl, rfl, rfl⟩
      | cons i D =>
        rw [propF_step hF hD]
        have := propF_done k _ (pop_full h hF hD) (by have := pop_less h hF hD; omega)
        obtain ⟨e1, e2, e3⟩ := pop_same (s := s) (i := i) (D := D)
        exact ⟨this.1, this.2.1, this.2.2.1.trans e1, this.2.2.2.1.trans e2, this.2.2.2.2.trans e3⟩
    · rw [propF_end (.inl hF)]; exact ⟨h, .inl hF, rfl, rfl, rfl⟩
theorem propF_same : ∀ (k m : Nat) (s : Sv), Full s → meas s < k → meas s < m → propF k s = propF m s
  | 0, _, s, _, h, _ => by omega
  | _ + 1, 0, s, _, _, h => by omega
  | k + 1, m + 1, s, h, h1, h2 => by
    by_cases hF : s.F = -1
    · cases hD : s.D with
      | nil => rw [propF_end (.inr hD), propF_end (.inr hD)]
      | cons i D =>
        rw [propF_step hF hD, propF_step hF hD]
        have := pop_less h hF hD
        exact propF_same k m _ (pop_full h hF hD) (by omega) (by omega)
    · rw [propF_end (.inl hF), propF_end (.inl hF)]
end Go.Proofs.YtbahjpheaaiamaaDoor.solProp

/- What propagation comes to: no clause is false at its end just where what is true goes with values of which no clause asks for more; conditions: none. -/
namespace Go.Proofs.YtbahjpheaaiamaaDoor.solClose
open sets solSets solMath solHold solProp
set_option linter.unusedVariables false
set_option linter.unusedSimpArgs false

def Cons (H : LS) : Prop := ∀ l, mem H l = true → mem H (-l) = false
def Sub (A B : LS) : Prop := ∀ l, mem A l = true → mem B l = true
/-- Values of which each clause is true, or has two literals that are not false. -/
structure Closed (C : List LS) (H : LS) : Prop where
  wf : Wf H
  cons : Cons H
  cl : ∀ c ∈ C, meetL c H = true ∨ ∃ x y, x ≠ y ∧ mem (restL c H) x = true ∧ mem (restL c H) y = true
theorem Sub.refl (A : LS) : Sub A A := fun _ h => h
theorem Sub.trans {A B C : LS} (h : Sub A B) (k : Sub B C) : Sub A C := fun l hl => k l (h l hl)
theorem Closed.less {C C' : List LS} {H : LS} (h : Closed C H) (hs : ∀ c ∈ C', c ∈ C) : Closed C' H := ⟨h.wf, h.cons, fun c hc => h.cl c (hs c hc)⟩
theorem cl_mem {s : Sv} {i : Nat} (hi : i < s.C.length) : s.cl i ∈ s.C := by
  unfold Sv.cl
  rw [List.getElem?_eq_getElem hi]
  exact List.getElem_mem hi
/-- Where nothing is due and nothing is false, what is true is closed. -/
theorem rest_closed {s : Sv} (h : Full s) (hF : s.F = -1) (hD : s.D = []) : Closed s.C s.H := by
  refine ⟨h.ok.wfH, h.ok.cons, fun c hc => ?_⟩
  obtain ⟨i, hi, e⟩ := List.mem_iff_getElem.1 hc
  have e2 : s.cl i = c := by unfold Sv.cl; rw [List.getElem?_eq_getElem hi]; exact e
  have := h.st i hi
  unfold StH at this
  rw [e2] at this
  rcases this with q | ⟨_, q, _⟩ | ⟨_, _, _, _, q⟩ | ⟨q1, q2, q3⟩
  · exact .inl q
  · exact absurd hF q
  · rw [hD] at q; cases q
  · exact .inr ⟨_, _, q3, q1, q2⟩
/-- The trail's literals are true. -/
def TinH (s : Sv) : Prop := ∀ p ∈ s.T, mem s.H p.1 = true
end Go.Proofs.YtbahjpheaaiamaaDoor.solClose
