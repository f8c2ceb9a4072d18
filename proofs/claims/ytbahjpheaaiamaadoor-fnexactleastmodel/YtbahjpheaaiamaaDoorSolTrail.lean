/- A solver's trail and choices: what is true is what was given and what has become true, each once; choices are taken back; literals are supposed by one choice; conditions: none. -/
import Derived.Test.YtbahjpheaaiamaaDoorPart16
namespace Go.Proofs.YtbahjpheaaiamaaDoor.solTrail
open sets solSets solMath solHold solProp solClose
set_option linter.unusedVariables false
set_option linter.unusedSimpArgs false

abbrev TR := List (Int × Int)
def HT (H : LS) : TR → LS
  | [] => H
  | p :: r => HT (withL H (onlyL p.1)) r
def Fresh (H : LS) : TR → Prop
  | [] => True
  | p :: r => (p.1 ≠ 0 ∧ (-40 ≤ p.1 ∧ p.1 ≤ 40) ∧ mem H p.1 = false ∧ mem H (-p.1) = false) ∧ Fresh (withL H (onlyL p.1)) r
def hasT (T : TR) (l : Int) : Bool := T.any fun p => decide (p.1 = l)
theorem ht_append (A B : TR) : ∀ H, HT H (A ++ B) = HT (HT H A) B := by
  induction A with
  | nil => intro H; rfl
  | cons p A ih => intro H; exact ih _
theorem fresh_append (A B : TR) : ∀ H, Fresh H (A ++ B) ↔ Fresh H A ∧ Fresh (HT H A) B := by
  induction A with
  | nil => intro H; simp [Fresh, HT]
  | cons p A ih =>
    intro H
    rw [List.cons_append]
    show (_ ∧ Fresh _ (A ++ B)) ↔ (_ ∧ Fresh _ A) ∧ Fresh (HT _ A) B
    rw [ih]
    simp only [and_assoc]
theorem mem_ht : ∀ (T : TR) (H : LS), Fresh H T → ∀ l, mem (HT H T) l = (mem H l || hasT T l)
  | [], H, _, l => by simp [HT, hasT]
  | p :: r, H, h, l => by
    show mem (HT (withL H (onlyL p.1)) r) l = _
    rw [mem_ht r _ h.2, mem_held h.1.1]
    unfold hasT
    rw [List.any_cons, Bool.or_assoc]
theorem wf_ht : ∀ (T : TR) (H : LS), Wf H → Fresh H T → Wf (HT H T)
  | [], H, w, _ => w
  | p :: r, H, w, h => wf_ht r _ (wf_with w (wf_only h.1.1 h.1.2.1.1 h.1.2.1.2)) h.2
theorem cons_with {H : LS} {x : Int} (hc : Cons H) (h0 : x ≠ 0) (h : mem H x = false ∧ mem H (-x) = false) : Cons (withL H (onlyL x)) := fun l hl => by
  rw [mem_held h0] at hl ⊢
  by_cases e : x = l
  · subst e
    rw [h.2]; simp; omega
  · have hl : mem H l = true := by simpa [e] using hl
    rw [hc l hl]
    simp
    intro e2
    rw [show l = -x by omega, h.2] at hl
    cases hl
theorem cons_ht : ∀ (T : TR) (H : LS), Cons H → Fresh H T → Cons (HT H T)
  | [], H, w, _ => w
  | p :: r, H, w, h => cons_ht r _ (cons_with w h.1.1 h.1.2.2) h.2
theorem sub_with {H : LS} {x : Int} (h0 : x ≠ 0) : Sub H (withL H (onlyL x)) := fun l hl => by rw [mem_held h0, hl]; rfl
theorem sub_ht : ∀ (T : TR) (H : LS), Fresh H T → Sub H (HT H T)
  | [], H, _ => Sub.refl H
  | p :: r, H, h => (sub_with h.1.1).trans (sub_ht r _ h.2)
/-- The literals of a trail are taken out of what is true, one by one. -/
def woAll (H : LS) : TR → LS
  | [] => H
  | p :: r => woAll (woL H (onlyL p.1)) r
theorem mem_woAll : ∀ (T : TR) (H : LS), Wf H → (∀ p ∈ T, p.1 ≠ 0 ∧ -40 ≤ p.1 ∧ p.1 ≤ 40) → ∀ l, mem (woAll H T) l = (mem H l && !hasT T l)
  | [], H, _, _, l => by simp [woAll, hasT]
  | p :: r, H, w, h, l => by
    have hp := h p (by simp)
    show mem (woAll (woL H (onlyL p.1)) r) l = _
    rw [mem_woAll r _ (wf_wo w _) (fun q hq => h q (by simp [hq])), mem_wo w (wf_only hp.1 hp.2.1 hp.2.2), mem_only hp.1]
    unfold hasT
    rw [List.any_cons, Bool.not_or, Bool.and_assoc]
theorem wf_woAll : ∀ (T : TR) (H : LS), Wf H → Wf (woAll H T)
  | [], H, w => w
  | p :: r, H, w => wf_woAll r _ (wf_wo w _)
theorem fresh_range : ∀ (T : TR) (H : LS), Fresh H T → ∀ p ∈ T, p.1 ≠ 0 ∧ -40 ≤ p.1 ∧ p.1 ≤ 40
  | [], H, _, p, hp => by cases hp
  | q :: r, H, h, p, hp => by
    rcases List.mem_cons.1 hp with rfl | hp
    · exact ⟨h.1.1, h.1.2.1⟩
    · exact fresh_range r _ h.2 p hp
theorem fresh_off : ∀ (T : TR) (H : LS), Fresh H T → ∀ l, mem H l = true → hasT T l = false ∧ hasT T (-l) = false
  | [], H, _, l, _ => ⟨rfl, rfl⟩
  | p :: r, H, h, l, hl => by
    obtain ⟨h1, h2⟩ := fresh_off r _ h.2 l (sub_with h.1.1 l hl)
    have e1 : p.1 ≠ l := fun e => by rw [← e, h.1.2.2.1] at hl; cases hl
    have e2 : p.1 ≠ -l := fun e => by have := h.1.2.2.2; rw [e, Int.neg_neg, hl] at this; cases this
    unfold hasT at h1 h2 ⊢
    rw [List.any_cons, List.any_cons, h1, h2]
    simp [e1, e2]
theorem wo_ht {H : LS} {T : TR} (w : Wf H) (h : Fresh H T) : woAll (HT H T) T = H := by
  refine ls_ext (wf_woAll _ _ (wf_ht _ _ w h)) w fun l => ?_
  rw [mem_woAll _ _ (wf_ht _ _ w h) (fresh_range _ _ h), mem_ht _ _ h]
  cases hl : mem H l
  · cases hasT T l <;> rfl
  · rw [(fresh_off T H h l hl).1]; rfl
/-- The trail of a state over what was given: G. -/
structure Trl (G : LS) (s : Sv) : Prop where
  wf : Wf G
  h : s.H = HT G s.T
  fresh : Fresh G s.T
/-- What was true at a choice: the first k of the trail. -/
def atK (G : LS) (s : Sv) (k : Nat) : LS := HT G (s.T.take k)
/-- The choices: each is of a time when nothing was due and no clause false. -/
structure Stk (G : LS) (s : Sv) : Prop where
  tr : Trl G s
  mono : s.K.Pairwise (· ≤ ·)
  le : ∀ k ∈ s.K, k ≤ s.T.length
  good : ∀ k ∈ s.K, solHold.Good s (atK G s k)
theorem Trl.split {G : LS} {s : Sv} (h : Trl G s) (k : Nat) : s.H = HT (atK G s k) (s.T.drop k) ∧ Fresh G (s.T.take k) ∧ Fresh (atK G s k) (s.T.drop k) := by
  have e := List.take_append_drop k s.T
  have hf := h.fresh
  rw [← e, fresh_append] at hf
  refine ⟨?_, hf.1, hf.2⟩
  unfold atK
  rw [← ht_append, e]
  exact h.h
theorem Trl.wfK {G : LS} {s : Sv} (h : Trl G s) (k : Nat) : Wf (atK G s k) := wf_ht _ _ h.wf (h.split k).2.1
theorem Trl.subK {G : LS} {s : Sv} (h : Trl G s) (k : Nat) : Sub (atK G s k) s.H := by rw [(h.split k).1]; exact sub_ht _ _ (h.split k).2.2
/-- Choices are taken back. -/
def backS (s : Sv) (lv : Nat) : Sv :=
  if lv = s.K.length then s else { s with H := woAll s.H (s.T.drop (s.K[lv]?.getD 0)), T := s.T.take (s.K[lv]?.getD 0), K := s.K.take lv, D := [], F := -1 }
theorem back_H {G : LS} {s : Sv} (h : Trl G s) (k : Nat) : woAll s.H (s.T.drop k) = atK G s k := by
  obtain ⟨h1, h2, h3⟩ := h.split k
  rw [h1]
  exact wo_ht (h.wfK k) h3
theorem back_full {s : Sv} {H : LS} {T : TR} {K : List Nat} (ok : Okay s) (wf : Wf H) (hc : Cons H) (hg : solHold.Good s H) : Full { s with H := H, T := T, K := K, D := [], F := -1 } :=
  ⟨⟨wf, hc, ok.wfC, ok.len, ok.w1, ok.w2, ok.nodup, ok.lists, List.Pairwise.nil, fun i hi => (by cases hi), fun i hi => (by cases hi), .inl rfl⟩, fun i hi => by
    rcases hg i hi with q | q
    · exact .inl q
    · exact .inr (.inr (.inr q))⟩
theorem back_stk {G : LS} {s : Sv} {lv : Nat} (ok : Okay s) (h : Stk G s) (hl : lv < s.K.length) (hcG : Cons G) :
    Full (backS s lv) ∧ Stk G (backS s lv) ∧ (backS s lv).F = -1 ∧ (backS s lv).D = [] ∧ (backS s lv).C = s.C ∧ (backS s lv).n = s.n ∧ (backS s lv).H = atK G s (s.K[lv]?.getD 0) ∧ (backS s lv).T = s.T.take (s.K[lv]?.getD 0) ∧ (backS s lv).K = s.K.take lv := by
  have hkm : s.K[lv]?.getD 0 ∈ s.K := by rw [List.getElem?_eq_getElem hl]; exact List.getElem_mem hl
  have e : backS s lv = { s with H := atK G s (s.K[lv]?.getD 0), T := s.T.take (s.K[lv]?.getD 0), K := s.K.take lv, D := [], F := -1 } := by
    unfold backS
    rw [if_neg (by omega), back_H h.tr]
  have hle : ∀ q ∈ s.K.take lv, q ≤ s.K[lv]?.getD 0 := fun q hq => by
    have hp := h.mono
    rw [← List.take_append_drop lv s.K, List.pairwise_append] at hp
    refine hp.2.2 q hq _ ?_
    rw [List.drop_eq_getElem_cons hl, List.getElem?_eq_getElem hl]
    exact List.mem_cons_self
  obtain ⟨k, hk⟩ : ∃ k, s.K[lv]?.getD 0 = k := ⟨_, rfl⟩
  rw [hk] at e hkm hle ⊢
  have hcK : Cons (atK G s k) := cons_ht _ _ hcG (h.tr.split k).2.1
  rw [e]
  refine ⟨back_full ok (h.tr.wfK k) hcK (h.good k hkm), ⟨⟨h.tr.wf, rfl, (h.tr.split k).2.1⟩, h.mono.sublist (List.take_sublist _ _), fun q hq => ?_, fun q hq => ?_⟩, rfl, rfl, rfl, rfl, rfl, rfl, rfl⟩
  · have h1 := hle q hq
    have h2 := h.le q (List.mem_of_mem_take hq)
    show q ≤ (s.T.take k).length
    rw [List.length_take]; omega
  · have hq' : q ∈ s.K.take lv := hq
    have h1 := hle q hq'
    have e2 : atK G { s with H := atK G s k, T := s.T.take k, K := s.K.take lv, D := [], F := -1 } q = atK G s q := by
      unfold atK
      dsimp only
      rw [List.take_take, Nat.min_eq_left h1]
    rw [e2]
    exact h.good q (List.mem_of_mem_take hq')
/-- The trail grows behind the choices. -/
theorem stk_hold {G : LS} {s : Sv} {l r : Int} (ok : Okay s) (h : Stk G s) (hst : ∀ i, i < s.C.length → StH s s.H i ∨ mem (s.cl i) l = true) (l0 : l ≠ 0) (lo : -40 ≤ l ∧ l ≤ 40) (no : mem s.H l = false ∧ mem s.H (-l) = false) : Stk G (holdS s l r) := by
  obtain ⟨e1, e2, e3, e4, e5⟩ := hold_same s l r
  have hat : ∀ k, k ≤ s.T.length → atK G (holdS s l r) k = atK G s k := fun k hk => by
    unfold atK
    rw [e4, List.take_append_of_le_length hk]
  refine ⟨⟨h.tr.wf, ?_, ?_⟩, by rw [e5]; exact h.mono, fun k hk => ?_, fun k hk => ?_⟩
  · rw [e3, e4, ht_append, ← h.tr.h]; rfl
  · rw [e4, fresh_append, ← h.tr.h]
    exact ⟨h.tr.fresh, ⟨l0, lo, no⟩, trivial⟩
  · rw [e5] at hk
    have := h.le k hk
    rw [e4]; simp; omega
  · rw [e5] at hk
    rw [hat k (h.le k hk)]
    exact hold_good ok hst l0 lo no (h.tr.wfK k) (h.tr.subK k) (h.good k hk)
theorem good_D {s : Sv} {D : List Nat} {H : LS} (h : solHold.Good s H) : solHold.Good { s with D := D } H := h
theorem stk_D {G : LS} {s : Sv} {D : List Nat} (h : Stk G s) : Stk G { s with D := D } := ⟨⟨h.tr.wf, h.tr.h, h.tr.fresh⟩, h.mono, h.le, fun k hk => good_D (h.good k hk)⟩
theorem stk_pop {G : LS} {s : Sv} {i : Nat} {D : List Nat} (h : Full s) (hF : s.F = -1) (hD : s.D = i :: D) (hs : Stk G s) : Stk G (popS s i D) := by
  unfold popS
  by_cases hm : meetL (s.cl i) s.H = true
  · rw [if_pos hm]; exact stk_D hs
  · rw [if_neg hm]
    obtain ⟨x, e, h1, h2, h3, h4, h5, h6⟩ := unit_of h hF hD hm
    rw [e]
    refine stk_hold (okay_pop h.ok hD) (stk_D hs) (fun j hj => ?_) h2 h3 ⟨h5, h6⟩
    by_cases e : j = i
    · subst e; exact .inr h4
    · exact .inl (pop_st h hD hj e)
/-- A choice is noted: nothing is due, no clause is false. -/
def pushS (s : Sv) : Sv := { s with K := s.K ++ [s.T.length] }
theorem push_full {s : Sv} (h : Full s) : Full (pushS s) := ⟨⟨h.ok.wfH, h.ok.cons, h.ok.wfC, h.ok.len, h.ok.w1, h.ok.w2, h.ok.nodup, h.ok.lists, h.ok.dsort, h.ok.dlt, h.ok.dfew, h.ok.fin⟩, h.st⟩
theorem still_good {s : Sv} (h : Full s) (hF : s.F = -1) (hD : s.D = []) : solHold.Good s s.H := fun i hi => by
  rcases h.st i hi with q | ⟨_, q, _⟩ | ⟨_, _, _, _, q⟩ | q
  · exact .inl q
  · exact absurd hF q
  · rw [hD] at q; cases q
  · exact .inr q
theorem push_stk {G : LS} {s : Sv} (h : Full s) (hF : s.F = -1) (hD : s.D = []) (hs : Stk G s) : Stk G (pushS s) := by
  have hat : ∀ k, atK G (pushS s) k = atK G s k := fun k => rfl
  refine ⟨⟨hs.tr.wf, hs.tr.h, hs.tr.fresh⟩, ?_, fun k hk => ?_, fun k hk => ?_⟩
  · show (s.K ++ [s.T.length]).Pairwise _
    rw [List.pairwise_append]
    exact ⟨hs.mono, List.pairwise_singleton _ _, fun a ha b hb => by simp at hb; subst hb; exact hs.le a ha⟩
  · have hk : k ∈ s.K ++ [s.T.length] := hk
    rcases List.mem_append.1 hk with hk | hk
    · exact hs.le k hk
    · have : k = s.T.length := by simpa using hk
      subst this; exact Nat.le_refl _
  · have hk : k ∈ s.K ++ [s.T.length] := hk
    rw [hat]
    rcases List.mem_append.1 hk with hk | hk
    · exact hs.good k hk
    · have : k = s.T.length := by simpa using hk
      subst this
      have e : atK G s s.T.length = s.H := by unfold atK; rw [List.take_length]; exact hs.tr.h.symm
      rw [e]
      exact still_good (push_full h) hF hD
end Go.Proofs.YtbahjpheaaiamaaDoor.solTrail
