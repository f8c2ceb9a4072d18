/- SolProp; SolClose: one text, so that the claim has fewer files. -/
import Derived.Test.YtbahjpheaaiamaaDoorPart6
/- A solver's state: what is due is taken until a clause is false or nothing is due; how long that goes on; conditions: none. -/
namespace Go.Proofs.YtbahjpheaaiamaaDoor.solProp
open sets solSets solMath solHold
set_option linter.unusedVariables false
set_option linter.unusedSimpArgs false

def propF : Nat → Sv → Sv
  | 0, s => s
  | k + 1, s => if s.F = -1 then (match s.D with | [] => s | i :: D => propF k (popS s i D)) else s
def free (H : LS) : Nat := ((List.range 41).filter (fun (v : Nat) => !mem H (v : Int) && !mem H (-(v : Int)))).length
def meas (s : Sv) : Nat := free s.H * (s.C.length + 1) + s.D.length
theorem filter_lt {p q : Nat → Bool} : ∀ {l : List Nat} {a : Nat}, a ∈ l → p a = true → q a = false → (∀ x, q x = true → p x = true) → (l.filter q).length < (l.filter p).length
  | [], a, h, _, _, _ => by cases h
  | b :: l, a, h, hp, hq, hm => by
    have mono : (l.filter q).length ≤ (l.filter p).length := by
      clear h hp hq
      induction l with
      | nil => simp
      | cons c l ih =>
        by_cases hqc : q c = true
        · rw [List.filter_cons_of_pos hqc, List.filter_cons_of_pos (hm c hqc)]; simp; exact ih
        · rw [List.filter_cons_of_neg hqc]
          by_cases hpc : p c = true
          · rw [List.filter_cons_of_pos hpc]; simp; omega
          · rw [List.filter_cons_of_neg hpc]; exact ih
    by_cases e : a = b
    · subst e
      rw [List.filter_cons_of_neg (by simp [hq]), List.filter_cons_of_pos hp]
      simp; omega
    · have hl : a ∈ l := by
        rcases List.mem_cons.1 h with h | h
        · exact absurd h e
        · exact h
      have ih := filter_lt hl hp hq hm
      by_cases hqb : q b = true
      · rw [List.filter_cons_of_pos hqb, List.filter_cons_of_pos (hm b hqb)]; simp; exact ih
      · rw [List.filter_cons_of_neg hqb]
        by_cases hpb : p b = true
        · rw [List.filter_cons_of_pos hpb]; simp; omega
        · rw [List.filter_cons_of_neg hpb]; exact ih
theorem free_hold {H : LS} {l : Int} (l0 : l ≠ 0) (lo : -40 ≤ l ∧ l ≤ 40) (no : mem H l = false ∧ mem H (-l) = false) : free (withL H (onlyL l)) < free H := by
  unfold free
  refine filter_lt (a := l.natAbs) (List.mem_range.2 (by omega)) ?_ ?_ ?_
  · rcases (show (l.natAbs : Int) = l ∨ (l.natAbs : Int) = -l by omega) with e | e
    · rw [e, no.1, no.2]; rfl
    · rw [e, Int.neg_neg, no.1, no.2]; rfl
  · rcases (show (l.natAbs : Int) = l ∨ (l.natAbs : Int) = -l by omega) with e | e
    · rw [e, mem_held l0]; simp
    · rw [e, Int.neg_neg, mem_held l0, mem_held l0]; simp
  · intro x hx
    rw [mem_held l0, mem_held l0] at hx
    simp at hx ⊢
    exact ⟨hx.1.1, hx.2.1⟩
theorem pop_same {s : Sv} {i : Nat} {D : List Nat} : (popS s i D).C = s.C ∧ (popS s i D).n = s.n ∧ (popS s i D).K = s.K := by
  unfold popS
  split
  · exact ⟨rfl, rfl, rfl⟩
  · have := hold_same { s with D := D } (firstL (restL (s.cl i) s.H)) i
    exact ⟨this.1, this.2.1, this.2.2.2.2⟩
theorem pop_less {s : Sv} {i : Nat} {D : List Nat} (h : Full s) (hF : s.F = -1) (hD : s.D = i :: D) : meas (popS s i D) < meas s := by
  have hf := pop_full h hF hD
  have hc := (pop_same (s := s) (i := i) (D := D)).1
  have hd := hf.ok.dmost
  unfold meas
  rw [hc] at hd ⊢
  by_cases hm : meetL (s.cl i) s.H = true
  · have e : popS s i D = { s with D := D } := by unfold popS; rw [if_pos hm]
    rw [e, hD]
    simp
  · obtain ⟨x, e, h1, h2, h3, h4, h5, h6⟩ := unit_of h hF hD hm
    have eH : (popS s i D).H = withL s.H (onlyL x) := by
      unfold popS
      rw [if_neg hm, e]
      exact (hold_same _ _ _).2.2.1
    have := free_hold h2 h3 ⟨h5, h6⟩
    rw [eH]
    generalize free (withL s.H (onlyL x)) = a at *
    generalize free s.H = b at *
    generalize s.C.length = c at *
    obtain ⟨d, rfl⟩ : ∃ d, b = a + 1 + d := ⟨b - a - 1, by omega⟩
    rw [show (a + 1 + d) * (c + 1) = a * (c + 1) + (c + 1) + d * (c + 1) by rw [Nat.add_mul, Nat.add_mul]; omega]
    generalize a * (c + 1) = p at *
    generalize d * (c + 1) = q at *
    omega
theorem propF_end {k : Nat} {s : Sv} (h : s.F ≠ -1 ∨ s.D = []) : propF (k + 1) s = s := by
  unfold propF
  by_cases hF : s.F = -1
  · rw [if_pos hF]
    rcases h with h | h
    · exact absurd hF h
    · rw [h]
  · rw [if_neg hF]
theorem propF_step {k : Nat} {s : Sv} {i : Nat} {D : List Nat} (hF : s.F = -1) (hD : s.D = i :: D) : propF (k + 1) s = propF k (popS s i D) := by
  conv => lhs; unfold propF
  rw [if_pos hF, hD]
/-- Where it ends. -/
theorem propF_done : ∀ (k : Nat) (s : Sv), Full s → meas s < k → Full (propF k s) ∧ ((propF k s).F ≠ -1 ∨ (propF k s).D = []) ∧ (propF k s).C = s.C ∧ (propF k s).n = s.n ∧ (propF k s).K = s.K
  | 0, s, _, hm => by omega
  | k + 1, s, h, hm => by
    by_cases hF : s.F = -1
    · cases hD : s.D with
      | nil => rw [propF_end (.inr hD)]; exact ⟨h, .inr hD, rfl, rfl, rfl⟩
      | cons i D =>
        rw [propF_step hF hD]
        have := propF_done k _ (pop_full h hF hD) (by have := pop_less h hF hD; omega)
        obtain ⟨e1, e2, e3⟩ := pop_same (s := s) (i := i) (D := D)
        exact ⟨this.1, this.2.1, this.2.2.1.trans e1, this.2.2.2.1.trans e2, this.2.2.2.2.trans e3⟩
    · rw [propF_end (.inl hF)]; exact ⟨h, .inl hF, rfl, rfl, rfl⟩
theorem propF_same : ∀ (k m : Nat) (s : Sv), Full s → meas s < k → meas s < m → propF k s = propF m s
  | 0, _, s, _, h, _ => by omega
  | _ + 1, 0, s, _, _, h => by omega
  | k + 1, m + 1, s, h, h1, h2 => by
    by_cases hF : s.F = -1
    · cases hD : s.D with
      | nil => rw [propF_end (.inr hD), propF_end (.inr hD)]
      | cons i D =>
        rw [propF_step hF hD, propF_step hF hD]
        have := pop_less h hF hD
        exact propF_same k m _ (pop_full h hF hD) (by omega) (by omega)
    · rw [propF_end (.inl hF), propF_end (.inl hF)]
end Go.Proofs.YtbahjpheaaiamaaDoor.solProp

/- What propagation comes to: no clause is false at its end just where what is true goes with values of which no clause asks for more; conditions: none. -/
namespace Go.Proofs.YtbahjpheaaiamaaDoor.solClose
open sets solSets solMath solHold solProp
set_option linter.unusedVariables false
set_option linter.unusedSimpArgs false

def Cons (H : LS) : Prop := ∀ l, mem H l = true → mem H (-l) = false
def Sub (A B : LS) : Prop := ∀ l, mem A l = true → mem B l = true
/-- Values of which each clause is true, or has two literals that are not false. -/
structure Closed (C : List LS) (H : LS) : Prop where
  wf : Wf H
  cons : Cons H
  cl : ∀ c ∈ C, meetL c H = true ∨ ∃ x y, x ≠ y ∧ mem (restL c H) x = true ∧ mem (restL c H) y = true
theorem Sub.refl (A : LS) : Sub A A := fun _ h => h
theorem Sub.trans {A B C : LS} (h : Sub A B) (k : Sub B C) : Sub A C := fun l hl => k l (h l hl)
theorem Closed.less {C C' : List LS} {H : LS} (h : Closed C H) (hs : ∀ c ∈ C', c ∈ C) : Closed C' H := ⟨h.wf, h.cons, fun c hc => h.cl c (hs c hc)⟩
theorem cl_mem {s : Sv} {i : Nat} (hi : i < s.C.length) : s.cl i ∈ s.C := by
  unfold Sv.cl
  rw [List.getElem?_eq_getElem hi]
  exact List.getElem_mem hi
/-- Where nothing is due and nothing is false, what is true is closed. -/
theorem rest_closed {s : Sv} (h : Full s) (hF : s.F = -1) (hD : s.D = []) : Closed s.C s.H := by
  refine ⟨h.ok.wfH, h.ok.cons, fun c hc => ?_⟩
  obtain ⟨i, hi, e⟩ := List.mem_iff_getElem.1 hc
  have e2 : s.cl i = c := by unfold Sv.cl; rw [List.getElem?_eq_getElem hi]; exact e
  have := h.st i hi
  unfold StH at this
  rw [e2] at this
  rcases this with q | ⟨_, q, _⟩ | ⟨_, _, _, _, q⟩ | ⟨q1, q2, q3⟩
  · exact .inl q
  · exact absurd hF q
  · rw [hD] at q; cases q
  · exact .inr ⟨_, _, q3, q1, q2⟩
/-- The trail's literals are true. -/
def TinH (s : Sv) : Prop := ∀ p ∈ s.T, mem s.H p.1 = true
end Go.Proofs.YtbahjpheaaiamaaDoor.solClose
