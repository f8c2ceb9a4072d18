/- CdLearn; CdSolve: one text, so that the claim has fewer files. -/
import Derived.Test.YtbahjpheaaiamaaDoorPart19
import Derived.Test.YtbahjpheaaiamaaDoorPart26
/- What a search learns: choices are taken back as far as the lesson allows, and it is put behind the clauses; the number of the trail rises by it; conditions: none. -/
namespace Go.Proofs.YtbahjpheaaiamaaDoor.cdLearn
open sets solSets solMath solHold solAdd solProp solClose solTrail solLastT solAddM cdVal cdState cdLes
set_option linter.unusedVariables false
set_option linter.unusedSimpArgs false

theorem mem_take_of {K : List Nat} {lv i : Nat} (h : K.Pairwise (· < ·)) (hl : lv < K.length) (hi : i ∈ K) (hlt : i < K[lv]?.getD 0) : i ∈ K.take lv := by
  rw [← List.take_append_drop lv K] at hi h
  rcases List.mem_append.1 hi with hi | hi
  · exact hi
  · exfalso
    rw [List.pairwise_append] at h
    rw [List.getElem?_eq_getElem hl] at hlt
    have hlt : i < K[lv] := hlt
    rw [List.drop_eq_getElem_cons hl] at hi h
    rcases List.mem_cons.1 hi with e | e
    · omega
    · have := (List.pairwise_cons.1 h.2.1).1 i e
      omega
theorem take_lt {K : List Nat} {lv i : Nat} (h : K.Pairwise (· < ·)) (hl : lv < K.length) (hi : i ∈ K.take lv) : i < K[lv]?.getD 0 := by
  rw [← List.take_append_drop lv K] at h
  rw [List.pairwise_append] at h
  rw [List.getElem?_eq_getElem hl]
  exact h.2.2 i hi _ (by rw [List.drop_eq_getElem_cons hl]; exact List.mem_cons_self)
theorem at_take {G : LS} {s : Sv} {k i : Nat} {H : LS} {K D : List Nat} {F : Int} (h : i ≤ k) : atK G { s with H := H, T := s.T.take k, K := K, D := D, F := F } i = atK G s i := by
  unfold atK
  dsimp only
  rw [List.take_take, Nat.min_eq_left h]
theorem back_eq {G : LS} {s : Sv} {lv : Nat} (h : Trl G s) (hl : lv < s.K.length) : backS s lv = { s with H := atK G s (s.K[lv]?.getD 0), T := s.T.take (s.K[lv]?.getD 0), K := s.K.take lv, D := [], F := -1 } := by
  unfold backS
  rw [if_neg (by omega), back_H h]
theorem cd_back {n : Nat} {Z : List LS} {G B : LS} {s : Sv} {lv : Nat} (h : Cd n Z G B s) (hl : lv < s.K.length) : Cd n Z G B (backS s lv) := by
  obtain ⟨b1, b2, b3, b4, b5, b6, b7, b8, b9⟩ := back_stk h.full.ok h.stk hl h.q.consG
  rw [back_eq h.stk.tr hl] at b1 b2 ⊢
  obtain ⟨k, hk⟩ : ∃ k, s.K[lv]?.getD 0 = k := ⟨_, rfl⟩
  have hkm : k ∈ s.K := by rw [← hk, List.getElem?_eq_getElem hl]; exact List.getElem_mem hl
  have hkT := h.lt k hkm
  have htk : ∀ i ∈ s.K.take lv, i < k := fun i hi => by rw [← hk]; exact take_lt h.q.inc hl hi
  rw [hk] at b1 b2 ⊢
  have hTl : (s.T.take k).length = k := by rw [List.length_take]; omega
  refine ⟨b1, b2, ⟨h.q.consG, h.q.nv, h.q.n40, h.q.inC, fun p hp => h.q.inT p (List.mem_of_mem_take hp), h.q.imp, h.q.own, h.q.inc.sublist (List.take_sublist _ _), fun i hi hex => ?_, fun H hH hB => ?_, ?_⟩, fun i hi => ?_⟩
  · have hi' : i < k := by rw [← hTl]; exact hi
    have hg : (s.T.take k)[i]?.getD (0, 0) = s.T[i]?.getD (0, 0) := by rw [List.getElem?_take, if_pos hi']
    obtain ⟨j, hj, hji⟩ := hex
    rcases h.q.why i (by omega) ⟨j, List.mem_of_mem_take hj, hji⟩ with h1 | ⟨r, h1, h2, h3, h4⟩
    · exact .inl (mem_take_of h.q.inc hl h1 (by rw [hk]; exact hi'))
    · refine .inr ⟨r, ?_, h2, ?_, fun y hy => ?_⟩
      · show ((s.T.take k)[i]?.getD (0, 0)).2 = r
        rw [hg]; exact h1
      · show mem (s.cl r) ((s.T.take k)[i]?.getD (0, 0)).1 = true
        rw [hg]; exact h3
      · rw [at_take (Nat.le_of_lt hi')]
        show y = ((s.T.take k)[i]?.getD (0, 0)).1 ∨ _
        rw [hg]; exact h4 y hy
  · have hlow := h.q.low H hH hB
    have e : lev0 { s with H := atK G s k, T := s.T.take k, K := s.K.take lv, D := [], F := -1 } = lev0 s := by
      unfold lev0
      dsimp only
      cases hK : s.K with
      | nil => rw [hK] at hl; exact absurd hl (Nat.not_lt_zero _)
      | cons a b =>
        cases lv with
        | zero =>
          rw [hK] at hk
          show (s.T.take k).length = a
          rw [hTl, ← hk]; rfl
        | succ m => rfl
    rw [e, at_take]
    · exact hlow
    · unfold lev0
      cases hK : s.K with
      | nil => rw [hK] at hl; exact absurd hl (Nat.not_lt_zero _)
      | cons a b =>
        show a ≤ k
        rw [hK] at hkm
        have hinc := h.q.inc
        rw [hK] at hinc
        rcases List.mem_cons.1 hkm with e2 | e2
        · omega
        · exact Nat.le_of_lt ((List.pairwise_cons.1 hinc).1 k e2)
  · have hlow := h.q.bas
    have e : lev0 { s with H := atK G s k, T := s.T.take k, K := s.K.take lv, D := [], F := -1 } = lev0 s := by
      unfold lev0
      dsimp only
      cases hK : s.K with
      | nil => rw [hK] at hl; exact absurd hl (Nat.not_lt_zero _)
      | cons a b =>
        cases lv with
        | zero =>
          rw [hK] at hk
          show (s.T.take k).length = a
          rw [hTl, ← hk]; rfl
        | succ m => rfl
    rw [e, at_take]
    · exact hlow
    · unfold lev0
      cases hK : s.K with
      | nil => rw [hK] at hl; exact absurd hl (Nat.not_lt_zero _)
      | cons a b =>
        show a ≤ k
        rw [hK] at hkm
        have hinc := h.q.inc
        rw [hK] at hinc
        rcases List.mem_cons.1 hkm with e2 | e2
        · omega
        · exact Nat.le_of_lt ((List.pairwise_cons.1 hinc).1 k e2)
  · show i < (s.T.take k).length
    rw [hTl]; exact htk i hi
/-- The last literal of a clause in a trail, by its place. -/
theorem last_place {T : TR} {c : LS} (h : ∃ i, i < T.length ∧ mem c (-(T[i]?.getD (0, 0)).1) = true) : ∃ i, i < T.length ∧ lastF T c = -(T[i]?.getD (0, 0)).1 ∧ mem c (-(T[i]?.getD (0, 0)).1) = true ∧ ∀ j, i < j → j < T.length → mem c (-(T[j]?.getD (0, 0)).1) = false := by
  obtain ⟨i0, hi0, hm0⟩ := h
  have gen : ∀ d k, k + d = T.length → (∀ j, k ≤ j → j < T.length → mem c (-(T[j]?.getD (0, 0)).1) = false) ∨ ∃ i, k ≤ i ∧ i < T.length ∧ mem c (-(T[i]?.getD (0, 0)).1) = true ∧ ∀ j, i < j → j < T.length → mem c (-(T[j]?.getD (0, 0)).1) = false := by
    intro d
    induction d with
    | zero => intro k hk; exact .inl fun j h1 h2 => by omega
    | succ d ih =>
      intro k hk
      rcases ih (k + 1) (by omega) with h | ⟨i, h1, h2⟩
      · cases hm : mem c (-(T[k]?.getD (0, 0)).1) with
        | false =>
          left
          intro j h1 h2
          by_cases e : j = k
          · rw [e]; exact hm
          · exact h j (by omega) h2
        | true => exact .inr ⟨k, Nat.le_refl _, by omega, hm, fun j h1 h2 => h j (by omega) h2⟩
      · exact .inr ⟨i, by omega, h2⟩
  rcases gen T.length 0 (by omega) with h | ⟨i, _, h2, h3, h4⟩
  · rw [h i0 (Nat.zero_le _) hi0] at hm0; cases hm0
  · refine ⟨i, h2, ?_, h3, h4⟩
    have := last_hit (T := T) (c := c) (k := T.length - 1 - i) (by omega) (fun j hj => h4 _ (by omega) (by omega)) (by rw [show T.length - 1 - (T.length - 1 - i) = i by omega]; exact h3)
    rw [show T.length - 1 - (T.length - 1 - i) = i by omega] at this
    exact this
/-- How far choices are taken back: the lesson's other literals are false there, one of them by the last choice that stays. -/
structure Lvl (G : LS) (s : Sv) (c : LS) (u : Int) (lv : Nat) : Prop where
  lt : lv < s.K.length
  low : ∀ y, mem c y = true → y ≠ u → mem (atK G s (s.K[lv]?.getD 0)) (-y) = true
  hang : lv = 0 ∨ ∃ i, s.K[lv - 1]?.getD 0 ≤ i ∧ i < s.K[lv]?.getD 0 ∧ mem c (-(tl s i)) = true
theorem learn_spec {n : Nat} {Z : List LS} {G B : LS} {s : Sv} {st k lv : Nat} {c : LS} (h : Cd n Z G B s) (hst : LastK s st) (hl : Les n Z G s st k c) (hv : Lvl G s c (-(tl s k)) lv) :
    Cd n Z G B (addT (backS s lv) c) ∧ (addT (backS s lv) c).F = -1 ∧ num s < num (propF (meas (addT (backS s lv) c) + 1) (addT (backS s lv) c)) := by
  have hb := cd_back h hv.lt
  obtain ⟨b1, b2, bF, bD, bC, bn, bH, bT, bK⟩ := back_stk h.full.ok h.stk hv.lt h.q.consG
  obtain ⟨s1, hs1⟩ : ∃ s1, backS s lv = s1 := ⟨_, rfl⟩
  rw [hs1] at hb b1 b2 bF bD bC bn bH bT bK ⊢
  obtain ⟨kk, hkk⟩ : ∃ kk, s.K[lv]?.getD 0 = kk := ⟨_, rfl⟩
  have hkm : kk ∈ s.K := by rw [← hkk, List.getElem?_eq_getElem hv.lt]; exact List.getElem_mem hv.lt
  have hkT := h.lt kk hkm
  have hkst := hst.2 kk hkm
  have hlow := hv.low
  have hhang := hv.hang
  rw [hkk] at bH bT hlow hhang
  have ht := h.stk.tr
  obtain ⟨u, hu⟩ : ∃ u, -(tl s k) = u := ⟨_, rfl⟩
  obtain ⟨f1, f2, f3, f4, f5⟩ := tl_fresh ht hl.lt (show kk ≤ k by have := hl.ge; omega)
  have hu0 : u ≠ 0 := by omega
  have hum := hl.u
  rw [hu] at hum hlow
  have f1' : mem s1.H (-u) = false := by rw [bH, ← hu, Int.neg_neg]; exact f1
  have f2' : mem s1.H u = false := by rw [bH, ← hu]; exact f2
  have hwf1 : Wf s1.H := b1.ok.wfH
  have hwo : Wf (onlyL u) := wf_only hu0 (by omega) (by omega)
  have hT1 : s1.T.length = kk := by rw [bT, List.length_take]; omega
  have htl : ∀ i, i < kk → tl s1 i = tl s i := fun i hi => by unfold tl; rw [bT, List.getElem?_take, if_pos hi]
  have hat : ∀ i, i ≤ kk → atK G s1 i = atK G s i := fun i hi => by unfold atK; rw [bT, List.take_take, Nat.min_eq_left hi]
  have hrest : restL c s1.H = onlyL u := ls_ext (wf_rest hl.wf _) hwo fun y => by
    rw [mem_rest hl.wf hwf1, mem_only hu0]
    by_cases e : u = y
    · subst e; rw [hum, f1']; simp
    · rw [decide_eq_false e]
      cases hy : mem c y with
      | false => rfl
      | true => rw [bH, hlow y hy (fun e2 => e e2.symm)]; rfl
  have hne : onlyL u ≠ (0, 0) := fun e => by
    have : mem (onlyL u) u = true := by rw [mem_only hu0]; simp
    rw [e, mem_zero] at this; cases this
  have hfirst : ∀ {x : LS}, Wf x → x ≠ (0, 0) → (∀ y, mem x y = true → y = u) → firstL x = u := fun hx hn hy => hy _ (first_spec hx hn).1
  have hone : oneL s1 c = u := by
    unfold oneL
    rw [hrest]
    exact hfirst hwo hne (fun y hy => by rw [mem_only hu0] at hy; exact (of_decide_eq_true hy).symm)
  have hoth : othL s1 c = 0 := by
    unfold othL
    rw [hone, hrest]
    refine (first_zero (wf_wo hwo _)).2 ((zero_iff (wf_wo hwo _)).2 fun y => ?_)
    rw [mem_wo hwo hwo]
    cases mem (onlyL u) y <;> rfl
  obtain ⟨y0, hy0⟩ : ∃ y0, lastF s1.T c = y0 := ⟨_, rfl⟩
  have hadd : addT s1 c = watS { base1 s1 c with D := insS s1.C.length s1.D } s1.C.length u y0 := by
    unfold addT
    rw [hone, if_neg hu0, if_pos hoth, hy0]
  obtain ⟨g1, g2, g3, g4, g5, g6⟩ := addT_same s1 c
  obtain ⟨_, _, _, _, _, _, w7, w8⟩ := wat_same { base1 s1 c with D := insS s1.C.length s1.D } s1.C.length u y0
  have hF2 : (addT s1 c).F = -1 := by rw [hadd, w7]; exact bF
  have hD2 : (addT s1 c).D = [s1.C.length] := by
    rw [hadd, w8]
    show insS s1.C.length s1.D = _
    rw [bD, ins_last (by simp)]; rfl
  have htin : TinH s1 := fun p hp => by
    obtain ⟨i, hi, e⟩ := List.getElem_of_mem hp
    have hall := Trl.all b2.tr
    rw [← hall, mem_at b2.tr (Nat.le_refl _)]
    exact .inr ⟨i, hi, by unfold tl; rw [List.getElem?_eq_getElem hi, Option.getD_some, e]⟩
  have hfull := add_fullT b1 hl.wf htin
  have hlen1 : s1.W.length = s1.C.length := b1.ok.len
  have hcl : ∀ j, (addT s1 c).cl j = if j = s1.C.length then c else s1.cl j := fun j => by
    unfold Sv.cl
    rw [g1]
    by_cases hj : j < s1.C.length
    · rw [List.getElem?_append_left hj, if_neg (by omega)]
    · rw [List.getElem?_append_right (by omega)]
      by_cases e : j = s1.C.length
      · rw [if_pos e, e]; simp
      · rw [if_neg e, List.getElem?_eq_none (by simp; omega), List.getElem?_eq_none (by omega)]
  have hwt : ∀ j, (addT s1 c).wt j = if j = s1.C.length then (u, y0) else s1.wt j := fun j => by
    have e : (addT s1 c).W = (s1.W ++ [(0, 0)]).set s1.C.length (u, y0) := by
      rw [hadd]; unfold watS; split <;> rfl
    unfold Sv.wt
    rw [e, ← hlen1]
    exact wt_add (s := s1) (u, y0) j
  have hat2 : ∀ i, atK G (addT s1 c) i = atK G s1 i := fun i => by unfold atK; rw [g4]
  have hclo : ∀ j, j < s1.C.length → (addT s1 c).cl j = s1.cl j := fun j hj => by rw [hcl, if_neg (by omega)]
  have hstk : Stk G (addT s1 c) := by
    refine ⟨⟨b2.tr.wf, by rw [g3, g4]; exact b2.tr.h, by rw [g4]; exact b2.tr.fresh⟩, by rw [g5]; exact b2.mono, fun q hq => by rw [g5] at hq; rw [g4]; exact b2.le q hq, fun q hq => ?_⟩
    rw [g5] at hq
    intro i hi
    rw [g1, List.length_append] at hi
    have hi : i < s1.C.length + 1 := hi
    rw [hat2, hcl, hwt]
    by_cases e : i = s1.C.length
    · rw [if_pos e, if_pos e]
      -- the new clause: two of its literals have no value at that choice
      have hqk : q ∈ s.K.take lv := by rw [← bK]; exact hq
      have hqlt : q < kk := by rw [← hkk]; exact take_lt h.q.inc hv.lt hqk
      have hlv : lv ≠ 0 := fun e0 => by rw [e0] at hqk; simp at hqk
      obtain ⟨i1, i1a, i1b, i1c⟩ := hhang.resolve_left hlv
      have hq1 : q ≤ s.K[lv - 1]?.getD 0 := by
        have hl1 : lv - 1 < s.K.length := by have := hv.lt; omega
        by_cases e1 : q ∈ s.K.take (lv - 1)
        · exact Nat.le_of_lt (take_lt h.q.inc hl1 e1)
        · have hqk' := hqk
          rw [show lv = lv - 1 + 1 by omega, List.take_succ_eq_append_getElem hl1, List.mem_append, List.mem_singleton] at hqk'
          rw [List.getElem?_eq_getElem hl1]
          exact Nat.le_of_eq (hqk'.resolve_left e1)
      obtain ⟨i2, j1, j2, j3, j4⟩ := last_place (T := s1.T) (c := c) ⟨i1, by rw [hT1]; exact i1b, by have := htl i1 i1b; unfold tl at this i1c; rw [this]; exact i1c⟩
      rw [hT1] at j1
      have j5 : i1 ≤ i2 := Classical.byContradiction fun hn => by
        have := j4 i1 (by omega) (by rw [hT1]; exact i1b)
        have e9 := htl i1 i1b
        unfold tl at e9 i1c
        rw [e9, i1c] at this; cases this
      have hy : y0 = -(tl s i2) := by rw [← hy0, j2, ← htl i2 j1]; rfl
      have hym : mem c y0 = true := by rw [← hy0, j2]; exact j3
      obtain ⟨p1, p2, p3, _, _⟩ := tl_fresh ht (show i2 < s.T.length by omega) (show q ≤ i2 by omega)
      have r1 := (tl_fresh ht hl.lt (show q ≤ k by have := hl.ge; omega)).1
      right
      rw [hat q (Nat.le_of_lt hqlt), mem_rest hl.wf (ht.wfK q), mem_rest hl.wf (ht.wfK q), hum, hym]
      refine ⟨?_, ?_, fun e9 => ?_⟩
      · rw [← hu, Int.neg_neg, r1]; rfl
      · show (true && !mem (atK G s q) (-y0)) = true
        rw [hy, Int.neg_neg, p1]; rfl
      · have e9 : u = y0 := e9
        have hk2 := tl_inj ht hl.lt (show i2 < s.T.length by omega) (by omega)
        have := hl.ge
        omega
    · rw [if_neg e, if_neg e]
      exact b2.good q hq i (by omega)
  have hq : CdQ n Z G B (addT s1 c) := by
    refine ⟨hb.q.consG, by rw [g2]; exact hb.q.nv, hb.q.n40, fun i hi => ?_, fun p hp => by rw [g4] at hp; exact hb.q.inT p hp, fun i hi => ?_, ?_, by rw [g5]; exact hb.q.inc, fun i hi hex => ?_, fun H hH hB => ?_, ?_⟩
    · rw [g1, List.length_append] at hi
      have hi : i < s1.C.length + 1 := hi
      rw [hcl]
      split
      · exact hl.inN
      · exact hb.q.inC i (by omega)
    · rw [g1, List.length_append] at hi
      have hi : i < s1.C.length + 1 := hi
      rw [hcl]
      split
      · exact hl.imp
      · exact hb.q.imp i (by omega)
    · rw [g1, List.take_append_of_le_length hb.q.len]; exact hb.q.own
    · rw [g4] at hi ⊢
      rw [g5] at hex ⊢
      rcases hb.q.why i hi hex with h1 | ⟨r, h1, h2, h3, h4⟩
      · exact .inl h1
      · exact .inr ⟨r, h1, by rw [g1, List.length_append]; exact Nat.lt_of_lt_of_le h2 (Nat.le_add_right _ _), by rw [hclo r h2]; exact h3, fun y hy => by rw [hclo r h2] at hy; rw [hat2]; exact h4 y hy⟩
    · have e : lev0 (addT s1 c) = lev0 s1 := by unfold lev0; rw [g5, g4]
      rw [e, hat2]
      exact hb.q.low H hH hB
    · have e : lev0 (addT s1 c) = lev0 s1 := by unfold lev0; rw [g5, g4]
      rw [e, hat2]
      exact hb.q.bas
  have hcd : Cd n Z G B (addT s1 c) := ⟨hfull, hstk, hq, fun q hq => by rw [g5] at hq; rw [g4]; exact hb.lt q hq⟩
  refine ⟨hcd, hF2, ?_⟩
  rw [propF_step hF2 hD2]
  obtain ⟨m1, m2, m3⟩ := prop_more (meas (addT s1 c)) _ (pop_full hfull hF2 hD2)
  refine Nat.lt_of_lt_of_le ?_ m2
  have hnm : ¬ meetL ((addT s1 c).cl s1.C.length) (addT s1 c).H = true := by
    rw [hcl, if_pos rfl, g3]
    intro hm
    obtain ⟨l, a1, a2⟩ := (meet_iff hl.wf).1 hm
    by_cases e : l = u
    · rw [e, f2'] at a2; cases a2
    · have := hlow l a1 e
      rw [← bH] at this
      have a3 := b1.ok.cons l a2
      rw [this] at a3; cases a3
  unfold popS
  rw [if_neg hnm]
  obtain ⟨e1, e2, e3, e4, e5⟩ := hold_same { addT s1 c with D := [] } (firstL (restL ((addT s1 c).cl s1.C.length) (addT s1 c).H)) (s1.C.length : Nat)
  unfold num
  rw [e2, e4, e5, List.length_append]
  show dig s.n.toNat s.K s.T.length < dig (addT s1 c).n.toNat (addT s1 c).K ((addT s1 c).T.length + 1)
  rw [g2, g4, g5, hT1, bn, bK]
  have hnn : s.n.toNat = n := by rw [h.q.nv]; rfl
  rw [hnn]
  refine dig_rise hkm hkT (trail_most h.q ht) (fun p hp => ⟨fun hpk => mem_take_of h.q.inc hv.lt hpk (by rw [hkk]; exact hp), fun hpk => List.mem_of_mem_take hpk⟩) (fun hk9 => ?_)
  have := take_lt h.q.inc hv.lt hk9
  omega
end Go.Proofs.YtbahjpheaaiamaaDoor.cdLearn

/- A search's ends: a model where all variables have values and nothing is due; none where a clause is false without a choice, or the opposite of what is asked for is true; how far choices are taken back; the lessons thinned; conditions: none. -/
namespace Go.Proofs.YtbahjpheaaiamaaDoor.cdSolve
open sets solSets solMath solHold solAdd solProp solClose solTrail solLastT solAddM cdVal cdState cdLes cdLearn
set_option linter.unusedVariables false
set_option linter.unusedSimpArgs false

theorem low_all {n : Nat} {Z : List LS} {G B : LS} {s : Sv} (h : Cd n Z G B s) (hK : s.K = []) {H : LS} (hH : Mdl n Z H) (hB : Sub B H) : Sub s.H H := by
  have h1 := h.q.low H hH hB
  have e : lev0 s = s.T.length := by unfold lev0; rw [hK]; rfl
  rw [e, Trl.all h.stk.tr] at h1
  exact h1
/-- A clause is false without a choice: there is no model. -/
theorem no_model {n : Nat} {Z : List LS} {G B : LS} {s : Sv} (h : Cd n Z G B s) (hF : s.F ≠ -1) (hK : s.K = []) : ¬ ∃ H, Mdl n Z H ∧ Sub B H := by
  rintro ⟨H, hH, hB⟩
  have hs := low_all h hK hH hB
  rcases h.full.ok.fin with e | ⟨f, hf, e, hr⟩
  · exact hF e
  · have hwc := h.full.ok.wfC f
    obtain ⟨y, y1, y2⟩ := (meet_iff hwc).1 (h.q.imp f hf H hH)
    have h1 := (zero_iff (wf_rest hwc _)).1 hr y
    rw [mem_rest hwc h.full.ok.wfH, y1] at h1
    have h2 : mem s.H (-y) = true := by simpa using h1
    have h3 := hH.cons y y2
    rw [hs _ h2] at h3
    cases h3
/-- All variables have values, nothing is due, no clause is false: a model. -/
theorem whole_model {n : Nat} {Z : List LS} {G B : LS} {s : Sv} (h : Cd n Z G B s) (hF : s.F = -1) (hD : s.D = []) (hall : ∀ v : Nat, 1 ≤ v → v ≤ n → mem s.H (v : Int) = true ∨ mem s.H (-(v : Int)) = true) : Mdl n Z s.H := by
  have hc := rest_closed h.full hF hD
  refine ⟨hc.wf, hc.cons, hall, fun c hcz => ?_⟩
  have hcC := h.q.cl hcz
  obtain ⟨i, hi, e⟩ := List.mem_iff_getElem.1 hcC
  have e2 : s.cl i = c := by unfold Sv.cl; rw [List.getElem?_eq_getElem hi]; exact e
  have hwc : Wf c := by rw [← e2]; exact h.full.ok.wfC i
  rcases hc.cl c hcC with hm | ⟨x, y, _, hx, _⟩
  · exact hm
  · rw [mem_rest hwc hc.wf, Bool.and_eq_true] at hx
    have hn := h.q.inC i hi x (by rw [e2]; exact hx.1)
    have h0 := (hwc.range hx.1).1
    have h1 : mem s.H (-x) = false := by simpa using hx.2
    refine (meet_iff hwc).2 ⟨x, hx.1, ?_⟩
    rcases hall x.natAbs (by omega) hn with h2 | h2
    · rcases (show (x.natAbs : Int) = x ∨ (x.natAbs : Int) = -x by omega) with e3 | e3
      · rw [← e3]; exact h2
      · rw [e3, h1] at h2; cases h2
    · rcases (show (x.natAbs : Int) = x ∨ (x.natAbs : Int) = -x by omega) with e3 | e3
      · rw [e3, h1] at h2; cases h2
      · rw [e3, Int.neg_neg] at h2; exact h2
/-- What is asked for is the first choice, or true without one. -/
def Ask (G : LS) (s : Sv) (l : Int) : Prop := s.K ≠ [] → l = 0 ∨ mem (atK G s (lev0 s + 1)) l = true
theorem lev_in {s : Sv} (hK : s.K ≠ []) : lev0 s ∈ s.K := by
  unfold lev0
  cases h : s.K with
  | nil => exact absurd h hK
  | cons a b => exact List.mem_cons_self
/-- The opposite of what is asked for is true: no model has it. -/
theorem no_asked {n : Nat} {Z : List LS} {G B : LS} {s : Sv} {l : Int} (h : Cd n Z G B s) (ha : Ask G s l) (hl : mem s.H (-l) = true) : s.K = [] ∧ ¬ ∃ H, Mdl n Z H ∧ Sub B H ∧ mem H l = true := by
  have hl0 : l ≠ 0 := fun e => by rw [e, Int.neg_zero, h.full.ok.wfH.zero] at hl; cases hl
  have hK : s.K = [] := Classical.byContradiction fun hK => by
    have h1 := (ha hK).resolve_left hl0
    have h2 := at_mono h.stk.tr (Nat.le_refl _) (show lev0 s + 1 ≤ s.T.length by have := h.lt _ (lev_in hK); omega) _ h1
    rw [Trl.all h.stk.tr] at h2
    have h3 := h.full.ok.cons l h2
    rw [hl] at h3; cases h3
  refine ⟨hK, ?_⟩
  rintro ⟨H, hH, hB, hm⟩
  have h1 := low_all h hK hH hB _ hl
  rw [hH.cons l hm] at h1
  cases h1
theorem ask_hold {G : LS} {s : Sv} {l x r : Int} (h : Ask G s l) (hlt : ∀ k ∈ s.K, k < s.T.length) : Ask G (holdS s x r) l := fun hK => by
  have hK' : s.K ≠ [] := by rw [(hold_same s x r).2.2.2.2] at hK; exact hK
  rw [lev_hold hK', at_snoc (by have := hlt _ (lev_in hK'); omega)]
  exact h hK'
theorem ask_prop {n : Nat} {Z : List LS} {G B : LS} {l : Int} : ∀ (k : Nat) (s : Sv), Cd n Z G B s → Ask G s l → Ask G (propF k s) l
  | 0, s, _, h => h
  | k + 1, s, hc, h => by
    by_cases hF : s.F = -1
    · cases hD : s.D with
      | nil => rw [propF_end (.inr hD)]; exact h
      | cons i D =>
        rw [propF_step hF hD]
        refine ask_prop k _ (cd_pop hc hF hD) ?_
        unfold popS
        split
        · exact h
        · exact ask_hold (s := { s with D := D }) h hc.lt
    · rw [propF_end (.inl hF)]; exact h
theorem ask_back {n : Nat} {Z : List LS} {G B : LS} {s : Sv} {l : Int} {lv : Nat} (hc : Cd n Z G B s) (h : Ask G s l) (hl : lv < s.K.length) : Ask G (backS s lv) l := by
  rw [back_eq hc.stk.tr hl]
  intro hK
  cases hKs : s.K with
  | nil => rw [hKs] at hl; exact absurd hl (Nat.not_lt_zero _)
  | cons a b =>
    cases lv with
    | zero => exact absurd rfl hK
    | succ j =>
      have e : lev0 { s with H := atK G s (s.K[j + 1]?.getD 0), T := s.T.take (s.K[j + 1]?.getD 0), K := s.K.take (j + 1), D := [], F := -1 } = lev0 s := by
        unfold lev0
        dsimp only
        rw [hKs]; rfl
      rw [hKs] at e
      rw [e, ← hKs]
      have hlt : lev0 s < s.K[j + 1]?.getD 0 := by
        have h1 : lev0 s = a := by unfold lev0; rw [hKs]; rfl
        have h2 := List.pairwise_iff_getElem.1 hc.q.inc 0 (j + 1) (by omega) hl (by omega)
        have h3 : s.K[0]'(by omega) = a := by simp [hKs]
        rw [List.getElem?_eq_getElem hl, Option.getD_some, h1, ← h3]
        exact h2
      rw [at_take (by omega)]
      exact h (by rw [hKs]; simp)
theorem ask_add {G : LS} {s : Sv} {l : Int} {c : LS} (h : Ask G s l) : Ask G (addT s c) l := by
  obtain ⟨g1, g2, g3, g4, g5, g6⟩ := addT_same s c
  intro hK
  have e1 : lev0 (addT s c) = lev0 s := by unfold lev0; rw [g5, g4]
  have e2 : ∀ k, atK G (addT s c) k = atK G s k := fun k => by unfold atK; rw [g4]
  rw [e1, e2]
  exact h (by rw [g5] at hK; exact hK)
/-- A choice: the trail grows, its number stays. -/
theorem choose_spec {n : Nat} {Z : List LS} {G B : LS} {s : Sv} {l x : Int} (h : Cd n Z G B s) (hF : s.F = -1) (hD : s.D = []) (ha : Ask G s l) (x0 : x ≠ 0) (xn : x.natAbs ≤ n) (no : mem s.H x = false ∧ mem s.H (-x) = false) (hask : s.K = [] → l = 0 ∨ x = l ∨ mem s.H l = true) :
    Cd n Z G B (holdS (pushS s) x (-1)) ∧ Ask G (holdS (pushS s) x (-1)) l ∧ num (holdS (pushS s) x (-1)) = num s ∧ (holdS (pushS s) x (-1)).T.length = s.T.length + 1 := by
  have hpf := push_full h.full
  have hps := push_stk h.full hF hD h.stk
  have h40 := h.q.n40
  have hst : ∀ i, i < (pushS s).C.length → StH (pushS s) (pushS s).H i ∨ mem ((pushS s).cl i) x = true := fun i hi => .inl (hpf.st i hi)
  obtain ⟨e1, e2, e3, e4, e5⟩ := hold_same (pushS s) x (-1)
  have hq : CdQ n Z G B (pushS s) := by
    refine ⟨h.q.consG, h.q.nv, h.q.n40, h.q.inC, h.q.inT, h.q.imp, h.q.own, ?_, fun i hi hex => ?_, fun H hH hB => ?_, ?_⟩
    · show (s.K ++ [s.T.length]).Pairwise _
      rw [List.pairwise_append]
      exact ⟨h.q.inc, List.pairwise_singleton _ _, fun a ha b hb => by simp at hb; subst hb; exact h.lt a ha⟩
    · obtain ⟨k, hk, hki⟩ := hex
      have hk : k ∈ s.K ++ [s.T.length] := hk
      rcases List.mem_append.1 hk with hk | hk
      · rcases h.q.why i hi ⟨k, hk, hki⟩ with h1 | h1
        · exact .inl (List.mem_append_left _ h1)
        · exact .inr h1
      · have : k = s.T.length := by simpa using hk
        have hi : i < s.T.length := hi
        omega
    · have e : lev0 (pushS s) = lev0 s := by
        unfold lev0 pushS
        dsimp only
        cases s.K <;> rfl
      rw [e]
      exact h.q.low H hH hB
    · have e : lev0 (pushS s) = lev0 s := by
        unfold lev0 pushS
        dsimp only
        cases s.K <;> rfl
      rw [e]
      exact h.q.bas
  have hcq := cq_hold (x := x) (r := -1) hq hps x0 xn (fun _ => .inl (List.mem_append_right _ (by simp [pushS]))) (fun e => by
    have : s.K ++ [s.T.length] = [] := e
    simp at this)
  refine ⟨⟨hold_full hpf.ok hst x0 (by omega) no, stk_hold hpf.ok hps hst x0 (by omega) no, hcq, fun k hk => ?_⟩, fun hK => ?_, ?_, ?_⟩
  · rw [e5] at hk
    rw [e4, List.length_append]
    have hk : k ∈ s.K ++ [s.T.length] := hk
    show k < s.T.length + 1
    rcases List.mem_append.1 hk with hk | hk
    · have := h.lt k hk; omega
    · have : k = s.T.length := by simpa using hk
      omega
  · have hKp : (pushS s).K ≠ [] := by simp [pushS]
    have hlp : lev0 (pushS s) = lev0 s := by
      unfold lev0 pushS
      dsimp only
      cases s.K <;> rfl
    rw [lev_hold hKp, hlp]
    by_cases hKs : s.K = []
    · have e8 : lev0 s = s.T.length := by unfold lev0; rw [hKs]; rfl
      have e9 : atK G (holdS (pushS s) x (-1)) (lev0 s + 1) = withL s.H (onlyL x) := by
        unfold atK
        rw [e4, e8, List.take_of_length_le (by show (s.T ++ [(x, -1)]).length ≤ _; simp)]
        show HT G (s.T ++ [(x, -1)]) = _
        rw [ht_append, ← h.stk.tr.h]
        rfl
      rw [e9, mem_held x0]
      rcases hask hKs with e | e | e
      · exact .inl e
      · exact .inr (by rw [e]; simp)
      · exact .inr (by rw [e]; rfl)
    · have := h.lt _ (lev_in hKs)
      rw [at_snoc (s := pushS s) (show lev0 s + 1 ≤ s.T.length by omega)]
      exact ha hKs
  · unfold num
    rw [e2, e4, e5, List.length_append]
    show dig s.n.toNat (s.K ++ [s.T.length]) (s.T.length + 1) = _
    show dig s.n.toNat (s.K ++ [s.T.length]) s.T.length + (if s.T.length ∈ s.K ++ [s.T.length] then 0 else _) = _
    rw [if_pos (by simp), Nat.add_zero]
    exact dig_congr _ (fun p hp => by
      rw [List.mem_append]
      constructor
      · rintro (h1 | h1)
        · exact h1
        · have : p = s.T.length := by simpa using h1
          omega
      · exact .inl)
  · rw [e4, List.length_append]; rfl
/-- How far choices are taken back, on the way down. -/
structure LvI (G : LS) (s : Sv) (c : LS) (u : Int) (lv : Nat) : Prop where
  lt : lv < s.K.length
  low : ∀ y, mem c y = true → y ≠ u → mem (atK G s (s.K[lv]?.getD 0)) (-y) = true
theorem lv_start {n : Nat} {Z : List LS} {G B : LS} {s : Sv} {st k : Nat} {c : LS} (h : Cd n Z G B s) (hst : LastK s st) (hl : Les n Z G s st k c) : LvI G s c (-(tl s k)) (s.K.length - 1) := by
  have hK : s.K ≠ [] := List.ne_nil_of_mem hst.1
  have hlen := List.length_pos_iff.2 hK
  refine ⟨by omega, fun y hy hne => ?_⟩
  have e : s.K[s.K.length - 1]?.getD 0 = st := by
    rw [List.getElem?_eq_getElem (by omega), Option.getD_some]
    have h1 := hst.2 _ (List.getElem_mem (show s.K.length - 1 < s.K.length by omega))
    obtain ⟨i, hi, e⟩ := List.getElem_of_mem hst.1
    by_cases e2 : i = s.K.length - 1
    · subst e2; exact e
    · have := List.pairwise_iff_getElem.1 h.q.inc i (s.K.length - 1) hi (by omega) (by omega)
      omega
  rw [e]
  exact hl.rest y hy hne
theorem lv_down {n : Nat} {Z : List LS} {G B : LS} {s : Sv} {c : LS} {u : Int} {lv : Nat} (h : Cd n Z G B s) (hv : LvI G s c u lv) (h0 : 0 < lv) (hno : ¬ ∃ i, s.K[lv - 1]?.getD 0 ≤ i ∧ i < s.K[lv]?.getD 0 ∧ mem c (-(tl s i)) = true) : LvI G s c u (lv - 1) := by
  have hl := hv.lt
  have hm : ∀ j, j < s.K.length → s.K[j]?.getD 0 ≤ s.T.length := fun j hj => by
    rw [List.getElem?_eq_getElem hj]
    exact h.stk.le _ (List.getElem_mem hj)
  refine ⟨by omega, fun y hy hne => ?_⟩
  have h1 := hv.low y hy hne
  rw [mem_at h.stk.tr (hm lv hl)] at h1
  rw [mem_at h.stk.tr (hm _ (by omega))]
  rcases h1 with h1 | ⟨i, hi, e⟩
  · exact .inl h1
  · refine .inr ⟨i, Classical.byContradiction fun hn => hno ⟨i, by omega, hi, ?_⟩, e⟩
    rw [e, Int.neg_neg]; exact hy
theorem lv_end {G : LS} {s : Sv} {c : LS} {u : Int} {lv : Nat} (hv : LvI G s c u lv) (h : lv = 0 ∨ ∃ i, s.K[lv - 1]?.getD 0 ≤ i ∧ i < s.K[lv]?.getD 0 ∧ mem c (-(tl s i)) = true) : Lvl G s c u lv := ⟨hv.lt, hv.low, h⟩
end Go.Proofs.YtbahjpheaaiamaaDoor.cdSolve
