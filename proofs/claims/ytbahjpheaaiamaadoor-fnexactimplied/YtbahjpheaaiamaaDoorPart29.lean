/- CdSolve; CdX; SolLearn: one text, so that the claim has fewer files. -/
import Derived.Test.YtbahjpheaaiamaaDoorPart28
import Derived.Test.YtbahjpheaaiamaaDoorSolLesson
import Derived.Test.YtbahjpheaaiamaaDoorPart23
import Derived.Test.YtbahjpheaaiamaaDoorSolAddT
/- A search's ends: a model where all variables have values and nothing is due; none where a clause is false without a choice, or the opposite of what is asked for is true; how far choices are taken back; the lessons thinned; conditions: none. -/
namespace Go.Proofs.YtbahjpheaaiamaaDoor.cdSolve
open sets solSets solMath solHold solAdd solProp solClose solTrail solLastT solAddM cdVal cdState cdLes cdLearn
set_option linter.unusedVariables false
set_option linter.unusedSimpArgs false

theorem low_all {n : Nat} {Z : List LS} {G B : LS} {s : Sv} (h : Cd n Z G B s) (hK : s.K = []) {H : LS} (hH : Mdl n Z H) (hB : Sub B H) : Sub s.H H := by
  have h1 := h.q.low H hH hB
  have e : lev0 s = s.T.length := by unfold lev0; rw [hK]; rfl
  rw [e, Trl.all h.stk.tr] at h1
  exact h1
/-- A clause is false without a choice: there is no model. -/
theorem no_model {n : Nat} {Z : List LS} {G B : LS} {s : Sv} (h : Cd n Z G B s) (hF : s.F ≠ -1) (hK : s.K = []) : ¬ ∃ H, Mdl n Z H ∧ Sub B H := by
  rintro ⟨H, hH, hB⟩
  have hs := low_all h hK hH hB
  rcases h.full.ok.fin with e | ⟨f, hf, e, hr⟩
  · exact hF e
  · have hwc := h.full.ok.wfC f
    obtain ⟨y, y1, y2⟩ := (meet_iff hwc).1 (h.q.imp f hf H hH)
    have h1 := (zero_iff (wf_rest hwc _)).1 hr y
    rw [mem_rest hwc h.full.ok.wfH, y1] at h1
    have h2 : mem s.H (-y) = true := by simpa using h1
    have h3 := hH.cons y y2
    rw [hs _ h2] at h3
    cases h3
/-- All variables have values, nothing is due, no clause is false: a model. -/
theorem whole_model {n : Nat} {Z : List LS} {G B : LS} {s : Sv} (h : Cd n Z G B s) (hF : s.F = -1) (hD : s.D = []) (hall : ∀ v : Nat, 1 ≤ v → v ≤ n → mem s.H (v : Int) = true ∨ mem s.H (-(v : Int)) = true) : Mdl n Z s.H := by
  have hc := rest_closed h.full hF hD
  refine ⟨hc.wf, hc.cons, hall, fun c hcz => ?_⟩
  have hcC := h.q.cl hcz
  obtain ⟨i, hi, e⟩ := List.mem_iff_getElem.1 hcC
  have e2 : s.cl i = c := by unfold Sv.cl; rw [List.getElem?_eq_getElem hi]; exact e
  have hwc : Wf c := by rw [← e2]; exact h.full.ok.wfC i
  rcases hc.cl c hcC with hm | ⟨x, y, _, hx, _⟩
  · exact hm
  · rw [mem_rest hwc hc.wf, Bool.and_eq_true] at hx
    have hn := h.q.inC i hi x (by rw [e2]; exact hx.1)
    have h0 := (hwc.range hx.1).1
    have h1 : mem s.H (-x) = false := by simpa using hx.2
    refine (meet_iff hwc).2 ⟨x, hx.1, ?_⟩
    rcases hall x.natAbs (by omega) hn with h2 | h2
    · rcases (show (x.natAbs : Int) = x ∨ (x.natAbs : Int) = -x by omega) with e3 | e3
      · rw [← e3]; exact h2
      · rw [e3, h1] at h2; cases h2
    · rcases (show (x.natAbs : Int) = x ∨ (x.natAbs : Int) = -x by omega) with e3 | e3
      · rw [e3, h1] at h2; cases h2
      · rw [e3, Int.neg_neg] at h2; exact h2
/-- What is asked for is the first choice, or true without one. -/
def Ask (G : LS) (s : Sv) (l : Int) : Prop := s.K ≠ [] → l = 0 ∨ mem (atK G s (lev0 s + 1)) l = true
theorem lev_in {s : Sv} (hK : s.K ≠ []) : lev0 s ∈ s.K := by
  unfold lev0
  cases h : s.K with
  | nil => exact absurd h hK
  | cons a b => exact List.mem_cons_self
/-- The opposite of what is asked for is true: no model has it. -/
theorem no_asked {n : Nat} {Z : List LS} {G B : LS} {s : Sv} {l : Int} (h : Cd n Z G B s) (ha : Ask G s l) (hl : mem s.H (-l) = true) : s.K = [] ∧ ¬ ∃ H, Mdl n Z H ∧ Sub B H ∧ mem H l = true := by
  have hl0 : l ≠ 0 := fun e => by rw [e, Int.neg_zero, h.full.ok.wfH.zero] at hl; cases hl
  have hK : s.K = [] := Classical.byContradiction fun hK => by
    have h1 := (ha hK).resolve_left hl0
    have h2 := at_mono h.stk.tr (Nat.le_refl _) (show lev0 s + 1 ≤ s.T.length by have := h.lt _ (lev_in hK); omega) _ h1
    rw [Trl.all h.stk.tr] at h2
    have h3 := h.full.ok.cons l h2
    rw [hl] at h3; cases h3
  refine ⟨hK, ?_⟩
  rintro ⟨H, hH, hB, hm⟩
  have h1 := low_all h hK hH hB _ hl
  rw [hH.cons l hm] at h1
  cases h1
theorem ask_hold {G : LS} {s : Sv} {l x r : Int} (h : Ask G s l) (hlt : ∀ k ∈ s.K, k < s.T.length) : Ask G (holdS s x r) l := fun hK => by
  have hK' : s.K ≠ [] := by rw [(hold_same s x r).2.2.2.2] at hK; exact hK
  rw [lev_hold hK', at_snoc (by have := hlt _ (lev_in hK'); omega)]
  exact h hK'
theorem ask_prop {n : Nat} {Z : List LS} {G B : LS} {l : Int} : ∀ (k : Nat) (s : Sv), Cd n Z G B s → Ask G s l → Ask G (propF k s) l
  | 0, s, _, h => h
  | k + 1, s, hc, h => by
    by_cases hF : s.F = -1
    · cases hD : s.D with
      | nil => rw [propF_end (.inr hD)]; exact h
      | cons i D =>
        rw [propF_step hF hD]
        refine ask_prop k _ (cd_pop hc hF hD) ?_
        unfold popS
        split
        · exact h
        · exact ask_hold (s := { s with D := D }) h hc.lt
    · rw [propF_end (.inl hF)]; exact h
theorem ask_back {n : Nat} {Z : List LS} {G B : LS} {s : Sv} {l : Int} {lv : Nat} (hc : Cd n Z G B s) (h : Ask G s l) (hl : lv < s.K.length) : Ask G (backS s lv) l := by
  rw [back_eq hc.stk.tr hl]
  intro hK
  cases hKs : s.K with
  | nil => rw [hKs] at hl; exact absurd hl (Nat.not_lt_zero _)
  | cons a b =>
    cases lv with
    | zero => exact absurd rfl hK
    | succ j =>
      have e : lev0 { s with H := atK G s (s.K[j + 1]?.getD 0), T := s.T.take (s.K[j + 1]?.getD 0), K := s.K.take (j + 1), D := [], F := -1 } = lev0 s := by
        unfold lev0
        dsimp only
        rw [hKs]; rfl
      rw [hKs] at e
      rw [e, ← hKs]
      have hlt : lev0 s < s.K[j + 1]?.getD 0 := by
        have h1 : lev0 s = a := by unfold lev0; rw [hKs]; rfl
        have h2 := List.pairwise_iff_getElem.1 hc.q.inc 0 (j + 1) (by omega) hl (by omega)
        have h3 : s.K[0]'(by omega) = a := by simp [hKs]
        rw [List.getElem?_eq_getElem hl, Option.getD_some, h1, ← h3]
        exact h2
      rw [at_take (by omega)]
      exact h (by rw [hKs]; simp)
theorem ask_add {G : LS} {s : Sv} {l : Int} {c : LS} (h : Ask G s l) : Ask G (addT s c) l := by
  obtain ⟨g1, g2, g3, g4, g5, g6⟩ := addT_same s c
  intro hK
  have e1 : lev0 (addT s c) = lev0 s := by unfold lev0; rw [g5, g4]
  have e2 : ∀ k, atK G (addT s c) k = atK G s k := fun k => by unfold atK; rw [g4]
  rw [e1, e2]
  exact h (by rw [g5] at hK; exact hK)
/-- A choice: the trail grows, its number stays. -/
theorem choose_spec {n : Nat} {Z : List LS} {G B : LS} {s : Sv} {l x : Int} (h : Cd n Z G B s) (hF : s.F = -1) (hD : s.D = []) (ha : Ask G s l) (x0 : x ≠ 0) (xn : x.natAbs ≤ n) (no : mem s.H x = false ∧ mem s.H (-x) = false) (hask : s.K = [] → l = 0 ∨ x = l ∨ mem s.H l = true) :
    Cd n Z G B (holdS (pushS s) x (-1)) ∧ Ask G (holdS (pushS s) x (-1)) l ∧ num (holdS (pushS s) x (-1)) = num s ∧ (holdS (pushS s) x (-1)).T.length = s.T.length + 1 := by
  have hpf := push_full h.full
  have hps := push_stk h.full hF hD h.stk
  have h40 := h.q.n40
  have hst : ∀ i, i < (pushS s).C.length → StH (pushS s) (pushS s).H i ∨ mem ((pushS s).cl i) x = true := fun i hi => .inl (hpf.st i hi)
  obtain ⟨e1, e2, e3, e4, e5⟩ := hold_same (pushS s) x (-1)
  have hq : CdQ n Z G B (pushS s) := by
    refine ⟨h.q.consG, h.q.nv, h.q.n40, h.q.inC, h.q.inT, h.q.imp, h.q.own, ?_, fun i hi hex => ?_, fun H hH hB => ?_⟩
    · show (s.K ++ [s.T.length]).Pairwise _
      rw [List.pairwise_append]
      exact ⟨h.q.inc, List.pairwise_singleton _ _, fun a ha b hb => by simp at hb; subst hb; exact h.lt a ha⟩
    · obtain ⟨k, hk, hki⟩ := hex
      have hk : k ∈ s.K ++ [s.T.length] := hk
      rcases List.mem_append.1 hk with hk | hk
      · rcases h.q.why i hi ⟨k, hk, hki⟩ with h1 | h1
        · exact .inl (List.mem_append_left _ h1)
        · exact .inr h1
      · have : k = s.T.length := by simpa using hk
        have hi : i < s.T.length := hi
        omega
    · have e : lev0 (pushS s) = lev0 s := by
        unfold lev0 pushS
        dsimp only
        cases s.K <;> rfl
      rw [e]
      exact h.q.low H hH hB
  have hcq := cq_hold (x := x) (r := -1) hq hps x0 xn (fun _ => .inl (List.mem_append_right _ (by simp [pushS]))) (fun e => by
    have : s.K ++ [s.T.length] = [] := e
    simp at this)
  refine ⟨⟨hold_full hpf.ok hst x0 (by omega) no, stk_hold hpf.ok hps hst x0 (by omega) no, hcq, fun k hk => ?_⟩, fun hK => ?_, ?_, ?_⟩
  · rw [e5] at hk
    rw [e4, List.length_append]
    have hk : k ∈ s.K ++ [s.T.length] := hk
    show k < s.T.length + 1
    rcases List.mem_append.1 hk with hk | hk
    · have := h.lt k hk; omega
    · have : k = s.T.length := by simpa using hk
      omega
  · have hKp : (pushS s).K ≠ [] := by simp [pushS]
    have hlp : lev0 (pushS s) = lev0 s := by
      unfold lev0 pushS
      dsimp only
      cases s.K <;> rfl
    rw [lev_hold hKp, hlp]
    by_cases hKs : s.K = []
    · have e8 : lev0 s = s.T.length := by unfold lev0; rw [hKs]; rfl
      have e9 : atK G (holdS (pushS s) x (-1)) (lev0 s + 1) = withL s.H (onlyL x) := by
        unfold atK
        rw [e4, e8, List.take_of_length_le (by show (s.T ++ [(x, -1)]).length ≤ _; simp)]
        show HT G (s.T ++ [(x, -1)]) = _
        rw [ht_append, ← h.stk.tr.h]
        rfl
      rw [e9, mem_held x0]
      rcases hask hKs with e | e | e
      · exact .inl e
      · exact .inr (by rw [e]; simp)
      · exact .inr (by rw [e]; rfl)
    · have := h.lt _ (lev_in hKs)
      rw [at_snoc (s := pushS s) (show lev0 s + 1 ≤ s.T.length by omega)]
      exact ha hKs
  · unfold num
    rw [e2, e4, e5, List.length_append]
    show dig s.n.toNat (s.K ++ [s.T.length]) (s.T.length + 1) = _
    show dig s.n.toNat (s.K ++ [s.T.length]) s.T.length + (if s.T.length ∈ s.K ++ [s.T.length] then 0 else _) = _
    rw [if_pos (by simp), Nat.add_zero]
    exact dig_congr _ (fun p hp => by
      rw [List.mem_append]
      constructor
      · rintro (h1 | h1)
        · exact h1
        · have : p = s.T.length := by simpa using h1
          omega
      · exact .inl)
  · rw [e4, List.length_append]; rfl
/-- How far choices are taken back, on the way down. -/
structure LvI (G : LS) (s : Sv) (c : LS) (u : Int) (lv : Nat) : Prop where
  lt : lv < s.K.length
  low : ∀ y, mem c y = true → y ≠ u → mem (atK G s (s.K[lv]?.getD 0)) (-y) = true
theorem lv_start {n : Nat} {Z : List LS} {G B : LS} {s : Sv} {st k : Nat} {c : LS} (h : Cd n Z G B s) (hst : LastK s st) (hl : Les n Z G s st k c) : LvI G s c (-(tl s k)) (s.K.length - 1) := by
  have hK : s.K ≠ [] := List.ne_nil_of_mem hst.1
  have hlen := List.length_pos_iff.2 hK
  refine ⟨by omega, fun y hy hne => ?_⟩
  have e : s.K[s.K.length - 1]?.getD 0 = st := by
    rw [List.getElem?_eq_getElem (by omega), Option.getD_some]
    have h1 := hst.2 _ (List.getElem_mem (show s.K.length - 1 < s.K.length by omega))
    obtain ⟨i, hi, e⟩ := List.getElem_of_mem hst.1
    by_cases e2 : i = s.K.length - 1
    · subst e2; exact e
    · have := List.pairwise_iff_getElem.1 h.q.inc i (s.K.length - 1) hi (by omega) (by omega)
      omega
  rw [e]
  exact hl.rest y hy hne
theorem lv_down {n : Nat} {Z : List LS} {G B : LS} {s : Sv} {c : LS} {u : Int} {lv : Nat} (h : Cd n Z G B s) (hv : LvI G s c u lv) (h0 : 0 < lv) (hno : ¬ ∃ i, s.K[lv - 1]?.getD 0 ≤ i ∧ i < s.K[lv]?.getD 0 ∧ mem c (-(tl s i)) = true) : LvI G s c u (lv - 1) := by
  have hl := hv.lt
  have hm : ∀ j, j < s.K.length → s.K[j]?.getD 0 ≤ s.T.length := fun j hj => by
    rw [List.getElem?_eq_getElem hj]
    exact h.stk.le _ (List.getElem_mem hj)
  refine ⟨by omega, fun y hy hne => ?_⟩
  have h1 := hv.low y hy hne
  rw [mem_at h.stk.tr (hm lv hl)] at h1
  rw [mem_at h.stk.tr (hm _ (by omega))]
  rcases h1 with h1 | ⟨i, hi, e⟩
  · exact .inl h1
  · refine .inr ⟨i, Classical.byContradiction fun hn => hno ⟨i, by omega, hi, ?_⟩, e⟩
    rw [e, Int.neg_neg]; exact hy
theorem lv_end {G : LS} {s : Sv} {c : LS} {u : Int} {lv : Nat} (hv : LvI G s c u lv) (h : lv = 0 ∨ ∃ i, s.K[lv - 1]?.getD 0 ≤ i ∧ i < s.K[lv]?.getD 0 ∧ mem c (-(tl s i)) = true) : Lvl G s c u lv := ⟨hv.lt, hv.low, h⟩
end Go.Proofs.YtbahjpheaaiamaaDoor.cdSolve

/- The state's field X (weights, patience, room) has no part in the search's mathematics; of no program. -/
namespace Go.Proofs.YtbahjpheaaiamaaDoor.cdX
open Go.RowKit Go.Deep Go.Shelf Go base sets setsOf solSets solOps solMath solHold solProp solTrail solAddM cdVal cdState cdLes cdLearn cdSolve solLastT
set_option linter.unusedVariables false

theorem ok_X {s : Sv} {X : Nat → Value} (h : Okay s) : Okay { s with X := X } := by
  cases h
  constructor <;> assumption
theorem full_X {s : Sv} {X : Nat → Value} (h : Full s) : Full { s with X := X } := ⟨ok_X h.ok, h.st⟩
theorem trl_X {G : LS} {s : Sv} {X : Nat → Value} (h : Trl G s) : Trl G { s with X := X } := ⟨h.wf, h.h, h.fresh⟩
theorem stk_X {G : LS} {s : Sv} {X : Nat → Value} (h : Stk G s) : Stk G { s with X := X } := ⟨trl_X h.tr, h.mono, h.le, h.good⟩
theorem cdq_X {n : Nat} {Z : List LS} {G B : LS} {s : Sv} {X : Nat → Value} (h : CdQ n Z G B s) : CdQ n Z G B { s with X := X } := ⟨h.consG, h.nv, h.n40, h.inC, h.inT, h.imp, h.own, h.inc, h.why, h.low⟩
theorem cd_X {n : Nat} {Z : List LS} {G B : LS} {s : Sv} {X : Nat → Value} (h : Cd n Z G B s) : Cd n Z G B { s with X := X } := ⟨full_X h.full, stk_X h.stk, cdq_X h.q, h.lt⟩
theorem les_X {n : Nat} {Z : List LS} {G : LS} {s : Sv} {st k : Nat} {c : LS} {X : Nat → Value} (h : Les n Z G s st k c) : Les n Z G { s with X := X } st k c := ⟨h.wf, h.inN, h.imp, h.lt, h.ge, h.u, h.rest⟩
theorem mv_setX (s : Sv) (X : Nat → Value) (i : Nat) (x : Int) : mv { s with X := X } i x = ({ (mv s i x).1 with X := X }, (mv s i x).2) := by
  have hc : Sv.cl { s with X := X } i = s.cl i := rfl
  have hs : stay { s with X := X } i x = stay s i x := rfl
  have ht : toL { s with X := X } i x = toL s i x := rfl
  unfold mv
  simp only [hc, hs, ht]
  split
  · rfl
  · split
    · rfl
    · split <;> rfl
theorem mvs_setX (x : Int) (X : Nat → Value) : ∀ (R : List Nat) (s : Sv) (kept : List Nat), mvs x R { s with X := X } kept = ({ (mvs x R s kept).1 with X := X }, (mvs x R s kept).2)
  | [], _, _ => rfl
  | i :: r, s, kept => by
    show mvs x r (mv { s with X := X } i x).1 (if (mv { s with X := X } i x).2 = true then kept else kept ++ [i]) = _
    rw [mv_setX]
    exact mvs_setX x X r (mv s i x).1 _
theorem hold_setX (s : Sv) (X : Nat → Value) (l r : Int) : holdS { s with X := X } l r = { holdS s l r with X := X } := by
  have h : mvs (-l) (s.L (-l)) (held1 { s with X := X } l r) [] = ({ (mvs (-l) (s.L (-l)) (held1 s l r) []).1 with X := X }, (mvs (-l) (s.L (-l)) (held1 s l r) []).2) := mvs_setX (-l) X (s.L (-l)) (held1 s l r) []
  show { (mvs (-l) (s.L (-l)) (held1 { s with X := X } l r) []).1 with L := upd (mvs (-l) (s.L (-l)) (held1 { s with X := X } l r) []).1.L (-l) (mvs (-l) (s.L (-l)) (held1 { s with X := X } l r) []).2 } = _
  rw [h]
  rfl
theorem pop_setX (s : Sv) (X : Nat → Value) (i : Nat) (D : List Nat) : popS { s with X := X } i D = { popS s i D with X := X } := by
  by_cases h : meetL (s.cl i) s.H = true
  · have e1 : popS s i D = { s with D := D } := if_pos h
    have e2 : popS { s with X := X } i D = { s with D := D, X := X } := if_pos h
    rw [e1, e2]
  · have e1 : popS s i D = holdS { s with D := D } (firstL (restL (s.cl i) s.H)) i := if_neg h
    have e2 : popS { s with X := X } i D = holdS { s with D := D, X := X } (firstL (restL (s.cl i) s.H)) i := if_neg h
    rw [e1, e2]
    exact hold_setX { s with D := D } X _ _
theorem prop_setX (X : Nat → Value) : ∀ (k : Nat) (s : Sv), propF k { s with X := X } = { propF k s with X := X }
  | 0, s => rfl
  | k + 1, s => by
    by_cases hF : s.F = -1
    · obtain ⟨d, hD⟩ : ∃ d, s.D = d := ⟨_, rfl⟩
      cases d with
      | nil =>
        rw [propF_end (.inr hD), propF_end (s := { s with X := X }) (.inr hD)]
      | cons i D =>
        rw [propF_step hF hD, propF_step (s := { s with X := X }) hF hD, pop_setX]
        exact prop_setX X k _
    · rw [propF_end (.inl hF), propF_end (s := { s with X := X }) (.inl hF)]
theorem num_X (s : Sv) (X : Nat → Value) : num (propF (meas { s with X := X } + 1) { s with X := X }) = num (propF (meas s + 1) s) := by
  rw [show meas { s with X := X } = meas s from rfl, prop_setX]
  rfl
theorem back_X (s : Sv) (lv : Nat) : (backS s lv).X = s.X := by
  unfold backS
  split <;> rfl
end Go.Proofs.YtbahjpheaaiamaaDoor.cdX

/- A solver of the program: it learns (learn); conditions: a choice has been made, a clause is false; what refresh does is given. -/
namespace Go.Proofs.YtbahjpheaaiamaaDoor.solLearn
open Go.RowKit Go.Deep Go.Shelf Go base sets setsOf solSets solOps solMath solHold solMem solFail solX solProp solClose solTrail solAddM cdVal cdState cdLes cdLearn cdSolve cdX solHang solPush solLesson solGrow solLastT
set_option linter.unusedVariables false
set_option linter.unusedSimpArgs false

theorem tinB {n : Nat} {Z : List LS} {G B : LS} {s s2 : Sv} {kk : Nat} (h2 : Stk G s2) (hH : s2.H = atK G s kk) (hT : s2.T = s.T.take kk) (h : Cd n Z G B s) (hk : kk < s.T.length) : TinH s2 := fun p hp => by
  rw [h2.tr.h, mem_ht _ _ h2.tr.fresh, Bool.or_eq_true]
  exact .inr (has_iff.2 (by
    obtain ⟨i, hi, rfl⟩ := List.getElem_of_mem hp
    exact ⟨i, hi, by rw [List.getElem?_eq_getElem hi]; rfl⟩))
set_option maxHeartbeats 3200000 in
set_option maxRecDepth 8000 in
theorem learn_impl (n : Nat) (Z : List LS) (G B : LS) (M mb : Nat) (F : Nat → Value) (V : Int → Value) (s : Sv) (w : World) (h : Sol 0 M mb F V s w) (hv0 : V 0 = nilV) (hcd : Cd n Z G B s) (hF : s.F ≠ -1) (hK : s.K ≠ []) (g : Int) (hg : 1024 ≤ g ∧ g ≤ 1099511627776) (hw : Wg s.X g (1000 * g)) (hlen : s.C.length ≤ 8000000000000) (Q : World → Prop)
    (HRf : ∀ (F1 : Nat → Value) (V1 : Int → Value) (s1 : Sv) (w1 : World) (g1 : Int), Sol 0 M mb F1 V1 s1 w1 → V1 0 = nilV → Chg M mb (blk 0 F V) (blk 0 F1 V1) w w1 → Cd n Z G B s1 → s1.F = -1 → num s < num (propF (meas s1 + 1) s1) → s1.C.length = s.C.length + 1 → (1024 ≤ g1 ∧ g1 ≤ 1099511627776) → Wg s1.X g1 (1000 * g1) → (∀ j, (j < 11 ∨ 52 < j) → s1.X j = s.X j) → (∀ l, cdSolve.Ask G s l → cdSolve.Ask G s1 l) →
      Calls Tryd.prog 63 #[.pointer (some ⟨M, 0, none⟩)] w1 fun e w2 => e = .returned (.tuple #[]) ∧ Q w2) :
    Calls Tryd.prog 42 #[.pointer (some ⟨M, 0, none⟩)] w fun e w2 => e = .returned (.tuple #[]) ∧ Q w2 := by
  have HS := hid h
  have HCd := hid hcd
  have HR := hid HRf
  have HW := hid hw
  have h40 := hcd.q.n40
  have hKp := List.length_pos_iff.2 hK
  have hM := h.lt.1
  have HLs := hid (fun (W : World) (hb : Below w.heap.size w W) => lesson_impl n Z G B M mb F V s W (h.below hb) hcd hF hK g hg hw hlen)
  clear h hcd hw HRf
  go_enter Tryd.func42, Tryd.ntmps42
  go_wp2_with fail
  refine (HLs.out w (Below.refl _ _)).mono ?_
  rintro e w1 ⟨C1, C2, st, k, F1, X1, rfl, hla, hle, hs1, hw1, hsx, hch⟩
  obtain ⟨s1, e1⟩ : ∃ s1 : Sv, ({ s with X := X1 } : Sv) = s1 := ⟨_, rfl⟩
  have HK1 : Hid (s1.K = s.K ∧ s1.T = s.T ∧ s1.C = s.C ∧ num s1 = num s ∧ s1.X = X1 ∧ s1.F = s.F) := hid (by rw [← e1]; exact ⟨rfl, rfl, rfl, rfl, rfl, rfl⟩)
  have HCd1 : Hid (Cd n Z G B s1) := hid (by rw [← e1]; exact cd_X HCd.out)
  have HLes : Hid (Les n Z G s1 st k (C1, C2)) := hid (by rw [← e1]; exact les_X hle)
  have HLa : Hid (LastK s1 st) := hid (by rw [← e1]; exact hla)
  have HS1 : Hid (Sol 0 M mb F1 V s1 w1) := hid (by rw [← e1]; exact hs1)
  have HA1 : Hid (∀ l, cdSolve.Ask G s l → cdSolve.Ask G s1 l) := hid (by rw [← e1]; exact fun l ha => ha)
  have HW1 := hid hw1
  have HX1 := hid hsx
  have HC1 := hid hch
  have hM1 := hs1.lt.1
  have hKs : s1.K.length = s.K.length := by rw [HK1.out.1]
  obtain ⟨ka, kc, hk8, hk1, hk2⟩ := choice_form HS1.out
  have c8 := HS1.out.cell (i := 8) (by omega)
  rw [hk8] at c8
  rw [hKs] at c8 hk1
  unfold maxLen at hk2
  have hlv := lv_start HCd1.out HLa.out HLes.out
  rw [hKs] at hlv
  have HLv := hid hlv
  have HKt : Hid (∀ j, j < s.K.length → s1.K[j]?.getD 0 < s1.T.length) := hid (fun j hj => by rw [List.getElem?_eq_getElem (by omega)]; exact HCd1.out.lt _ (List.getElem_mem _))
  have HKi : Hid (∀ i j, i < j → j < s.K.length → s1.K[i]?.getD 0 < s1.K[j]?.getD 0) := hid (fun i j h1 h2 => by
    rw [List.getElem?_eq_getElem (by omega), List.getElem?_eq_getElem (by omega)]
    exact List.pairwise_iff_getElem.1 HCd1.out.q.inc i j (by omega) (by omega) h1)
  have HTl : Hid (∀ p ∈ s1.T, p.1 ≠ 0 ∧ -40 ≤ p.1 ∧ p.1 ≤ 40) := hid (fun p hp => by
    obtain ⟨i, hi, rfl⟩ := List.getElem_of_mem hp
    have := (tl_fresh HCd1.out.stk.tr hi (Nat.zero_le _)).2.2
    unfold tl at this
    rw [List.getElem?_eq_getElem hi] at this
    exact this)
  have hTm := trail_most HCd1.out.q HCd1.out.stk.tr
  have hKm : s.K.length ≤ 100000 := by
    have h2 : ∀ i, i < s.K.length → i ≤ s1.K[i]?.getD 0 := fun i => by
      induction i with
      | zero => intro _; exact Nat.zero_le _
      | succ i ih =>
        intro hi
        have h3 := ih (by omega)
        have h4 := HKi.out i (i + 1) (by omega) hi
        omega
    have h3 := h2 (s.K.length - 1) (by omega)
    have h4 := HKt.out (s.K.length - 1) (by omega)
    omega
  obtain ⟨kn, hkn⟩ : ∃ kn, s.K.length = kn := ⟨_, rfl⟩
  have HKn := hid hkn
  rw [hkn] at c8 hk1 hKp HLv HKt HKi hKm hKs
  clear e1 hla hle hs1 hw1 hsx hch hlv hk8 hkn hF hK
  go_wp2_with fail
  obtain ⟨wa, hwa⟩ : ∃ wa, w1.alloc (.cells #[.int .u64 (C1 : Int), .int .u64 (C2 : Int)] 51) = wa := ⟨_, rfl⟩
  have HYa : Hid (wa.heap[w1.heap.size]? = some (.cells #[.int .u64 (C1 : Int), .int .u64 (C2 : Int)] 51 (0, 0))) := hid (by rw [← hwa]; exact World.alloc_heap_new _ _)
  have HBa : Hid (Below w1.heap.size w1 wa) := hid (by rw [← hwa]; exact (by repeat (first | exact Below.refl _ _ | assumption | refine Below.drew ?_ | refine Below.alloc ?_ (by first | exact Nat.le_refl _ | omega | (simp; done) | (simp; omega)) _ | refine Below.setCell ?_ (by first | exact Nat.le_refl _ | omega | (simp; done) | (simp; omega)) _)))
  have HZa : Hid (wa.heap.size = w1.heap.size + 1) := hid (by rw [← hwa]; simp)
  rw [hwa]
  clear hwa
  go_loopw [3] (fun i wr => ∃ lv : Nat, lv < kn ∧ i = .int .i64 lv ∧ LvI (G) s1 (C1, C2) (-(tl s1 k)) lv ∧ Below wa.heap.size wa wr) (fun i _ => (intOf i).toNat)
  case atStart => exact ⟨kn - 1, by omega, by go_num, HLv.out, Below.refl _ _⟩
  case round =>
    obtain ⟨lv, hlk, rfl, hL, hb⟩ := hrel
    have HL := hid hL
    have HB := hid hb
    clear hL hb
    by_cases h0 : lv = 0
    · have HE := hid (lv_end HL.out (.inl h0))
      have hi : ¬ (0 < (lv : Int)) := by omega
      clear HL h0
      go_wp2_with fail
      have hbr : Below w1.heap.size w1 wr := HBa.out.trans (HB.out.mono HBa.out.size)
      refine (solBackI.back_impl M mb F1 V s1 wr (HS1.out.below hbr) HCd1.out.full.ok.wfH lv (by omega) (fun _ => Nat.le_of_lt (HKt.out lv (by omega))) HTl.out (by omega) (by omega)).mono ?_
      rintro e w2 ⟨rfl, F2, hs2, hch2, hf2⟩
      have hcb := cd_back HCd1.out HE.out.lt
      obtain ⟨l1, l2, l3⟩ := learn_spec HCd1.out HLa.out HLes.out HE.out
      obtain ⟨b1, b2, bF, bD, bC, bn, bH, bT, bK⟩ := back_stk HCd1.out.full.ok HCd1.out.stk HE.out.lt HCd1.out.q.consG
      have bX := back_X s1 lv
      have aX := (addT_same (backS s1 lv) (C1, C2)).2.2.2.2.2
      have aC := (addT_same (backS s1 lv) (C1, C2)).1
      obtain ⟨s2, e2⟩ : ∃ s2, backS s1 lv = s2 := ⟨_, rfl⟩
      rw [e2] at hs2 hcb l1 l2 l3 b1 b2 bF bD bC bn bH bT bK bX aX aC
      have htin : TinH s2 := tinB b2 bH bT HCd1.out (HKt.out lv (by omega))
      have htl : (∀ p ∈ s2.T, p.1 ≠ 0 ∧ -40 ≤ p.1 ∧ p.1 ≤ 40) ∧ s2.T.length ≤ 100000 := by
        rw [bT]
        exact ⟨fun p hp => HTl.out p (List.mem_of_mem_take hp), by rw [List.length_take]; omega⟩
      have hbk : wr.heap[w1.heap.size]? = some (.cells #[.int .u64 (C1 : Int), .int .u64 (C2 : Int)] 51 (0, 0)) := (HB.out.block _ (by have := HZa.out; omega)).trans HYa.out
      have hbk2 : w2.heap[w1.heap.size]? = some (.cells #[.int .u64 (C1 : Int), .int .u64 (C2 : Int)] 51 (0, 0)) := (hch2.block _ (Array.getElem?_eq_some_iff.1 hbk).1 (by omega) (by have := HS1.out.lt.2; omega) (fun a ha => by have := HS1.out.blt ha; omega)).trans hbk
      have q0 : w2.cell? ⟨w1.heap.size, 0, none⟩ = some (.int .u64 C1) := by simp [World.cell?, hbk2]
      have q1 : w2.cell? ⟨w1.heap.size, 1, none⟩ = some (.int .u64 C2) := by simp [World.cell?, hbk2]
      have HS2 := hid hs2
      have HC2 := hid hch2
      have HCb := hid hcb
      have HL1 := hid l1
      have HL2 := hid l2
      have HL3 := hid l3
      have HTin := hid htin
      have HAs : Hid (∀ l, cdSolve.Ask G s l → cdSolve.Ask G (addT s2 (C1, C2)) l) := hid (fun l ha => ask_add (by rw [← e2]; exact ask_back HCd1.out (HA1.out l ha) HE.out.lt))
      have HTl2 := hid htl
      have HAX : Hid ((addT s2 (C1, C2)).X = X1) := hid (by rw [aX, bX, HK1.out.2.2.2.2.1])
      have HAC : Hid (s2.C.length = s.C.length ∧ (addT s2 (C1, C2)).C.length = s.C.length + 1) := hid ⟨by rw [bC, HK1.out.2.2.1], by rw [aC, List.length_append, bC, HK1.out.2.2.1]; rfl⟩
      clear hs2 hch2 hf2 hcb l1 l2 l3 b1 b2 bF bD bC bn bH bT bK bX aX aC htin htl hbk hbk2 e2
      go_wp2_with fail
      refine (solAddI.addT_impl M mb F2 V s2 w2 HS2.out hv0 C1 C2 HLes.out.wf HCb.out.full.ok ⟨HTin.out, HTl2.out.1, HTl2.out.2⟩ (by rw [HAC.out.1]; exact hlen)).mono ?_
      rintro e w3 ⟨rfl, F3, V3, hs3, hv3, hch3⟩
      have HS3 := hid hs3
      have HV3 := hid hv3
      have HC3 := hid hch3
      clear hs3 hv3 hch3 q0 q1
      go_wp2_with fail
      refine (grow_impl M mb F3 V3 (addT s2 (C1, C2)) w3 HS3.out g hg (by rw [HAX.out]; exact HW1.out)).mono ?_
      rintro e w4 ⟨rfl, F4, X4, g4, hs4, hw4, hg4, hx4, hch4, hf4⟩
      have HR5 := hid (HR.out F4 V3 { addT s2 (C1, C2) with X := X4 } w4 g4 hs4 HV3.out (HC1.out.trans ((Chg.below hbr).trans (HC2.out.trans (HC3.out.trans hch4)))) (cd_X HL1.out) HL2.out (by rw [num_X, ← HK1.out.2.2.2.1]; exact HL3.out) HAC.out.2 hg4 hw4 (fun j hj => (hx4 j hj).trans (by rw [HAX.out]; exact HX1.out j (by omega))) (fun l ha => HAs.out l ha))
      clear hs4 hw4 hg4 hx4 hch4 hf4
      go_wp2_with fail
      refine HR5.out.mono ?_
      rintro e w5 ⟨rfl, hq⟩
      have HQ5 := hid hq
      clear hq
      go_wp2
      exact ⟨rfl, .tuple #[], by simp [results, Tryd.results42, go_sem], rfl, HQ5.out⟩
    · have hi : 0 < (lv : Int) := by omega
      have H0 := hid h0
      clear h0
      have hya := (HB.out.block w1.heap.size (by have := HZa.out; omega)).trans HYa.out
      have q0 : wr.cell? ⟨w1.heap.size, 0, none⟩ = some (.int .u64 C1) := by simp [World.cell?, hya]
      have q1 : wr.cell? ⟨w1.heap.size, 1, none⟩ = some (.int .u64 C2) := by simp [World.cell?, hya]
      clear hya
      go_wp2_with fail
      refine (hangs_impl M mb F1 V s1 wr (HS1.out.below (HBa.out.trans (HB.out.mono HBa.out.size))) lv (by omega) (by omega) (HKi.out (lv - 1) lv (by omega) hlk) (HKt.out lv hlk) HTl.out C1 C2 HLes.out.wf (by omega) (by omega)).mono ?_
      rintro e w9 ⟨t, rfl, ht, hb9⟩
      have HT := hid ht
      have HB9 := hid hb9
      clear ht hb9 q0 q1
      cases t with
      | true =>
        have HE := hid (lv_end HL.out (.inr (HT.out.1 rfl)))
        replace HB : Hid (Below wa.heap.size wa w9) := hid (HB.out.trans (HB9.out.mono HB.out.size))
        clear HL HT HB9
        go_wp2_with fail
        have hbr : Below w1.heap.size w1 w9 := HBa.out.trans (HB.out.mono HBa.out.size)
        refine (solBackI.back_impl M mb F1 V s1 w9 (HS1.out.below hbr) HCd1.out.full.ok.wfH lv (by omega) (fun _ => Nat.le_of_lt (HKt.out lv (by omega))) HTl.out (by omega) (by omega)).mono ?_
        rintro e w2 ⟨rfl, F2, hs2, hch2, hf2⟩
        have hcb := cd_back HCd1.out HE.out.lt
        obtain ⟨l1, l2, l3⟩ := learn_spec HCd1.out HLa.out HLes.out HE.out
        obtain ⟨b1, b2, bF, bD, bC, bn, bH, bT, bK⟩ := back_stk HCd1.out.full.ok HCd1.out.stk HE.out.lt HCd1.out.q.consG
        have bX := back_X s1 lv
        have aX := (addT_same (backS s1 lv) (C1, C2)).2.2.2.2.2
        have aC := (addT_same (backS s1 lv) (C1, C2)).1
        obtain ⟨s2, e2⟩ : ∃ s2, backS s1 lv = s2 := ⟨_, rfl⟩
        rw [e2] at hs2 hcb l1 l2 l3 b1 b2 bF bD bC bn bH bT bK bX aX aC
        have htin : TinH s2 := tinB b2 bH bT HCd1.out (HKt.out lv (by omega))
        have htl : (∀ p ∈ s2.T, p.1 ≠ 0 ∧ -40 ≤ p.1 ∧ p.1 ≤ 40) ∧ s2.T.length ≤ 100000 := by
          rw [bT]
          exact ⟨fun p hp => HTl.out p (List.mem_of_mem_take hp), by rw [List.length_take]; omega⟩
        have hbk : w9.heap[w1.heap.size]? = some (.cells #[.int .u64 (C1 : Int), .int .u64 (C2 : Int)] 51 (0, 0)) := (HB.out.block _ (by have := HZa.out; omega)).trans HYa.out
        have hbk2 : w2.heap[w1.heap.size]? = some (.cells #[.int .u64 (C1 : Int), .int .u64 (C2 : Int)] 51 (0, 0)) := (hch2.block _ (Array.getElem?_eq_some_iff.1 hbk).1 (by omega) (by have := HS1.out.lt.2; omega) (fun a ha => by have := HS1.out.blt ha; omega)).trans hbk
        have q0 : w2.cell? ⟨w1.heap.size, 0, none⟩ = some (.int .u64 C1) := by simp [World.cell?, hbk2]
        have q1 : w2.cell? ⟨w1.heap.size, 1, none⟩ = some (.int .u64 C2) := by simp [World.cell?, hbk2]
        have HS2 := hid hs2
        have HC2 := hid hch2
        have HCb := hid hcb
        have HL1 := hid l1
        have HL2 := hid l2
        have HL3 := hid l3
        have HTin := hid htin
        have HAs : Hid (∀ l, cdSolve.Ask G s l → cdSolve.Ask G (addT s2 (C1, C2)) l) := hid (fun l ha => ask_add (by rw [← e2]; exact ask_back HCd1.out (HA1.out l ha) HE.out.lt))
        have HTl2 := hid htl
        have HAX : Hid ((addT s2 (C1, C2)).X = X1) := hid (by rw [aX, bX, HK1.out.2.2.2.2.1])
        have HAC : Hid (s2.C.length = s.C.length ∧ (addT s2 (C1, C2)).C.length = s.C.length + 1) := hid ⟨by rw [bC, HK1.out.2.2.1], by rw [aC, List.length_append, bC, HK1.out.2.2.1]; rfl⟩
        clear hs2 hch2 hf2 hcb l1 l2 l3 b1 b2 bF bD bC bn bH bT bK bX aX aC htin htl hbk hbk2 e2
        go_wp2_with fail
        refine (solAddI.addT_impl M mb F2 V s2 w2 HS2.out hv0 C1 C2 HLes.out.wf HCb.out.full.ok ⟨HTin.out, HTl2.out.1, HTl2.out.2⟩ (by rw [HAC.out.1]; exact hlen)).mono ?_
        rintro e w3 ⟨rfl, F3, V3, hs3, hv3, hch3⟩
        have HS3 := hid hs3
        have HV3 := hid hv3
        have HC3 := hid hch3
        clear hs3 hv3 hch3 q0 q1
        go_wp2_with fail
        refine (grow_impl M mb F3 V3 (addT s2 (C1, C2)) w3 HS3.out g hg (by rw [HAX.out]; exact HW1.out)).mono ?_
        rintro e w4 ⟨rfl, F4, X4, g4, hs4, hw4, hg4, hx4, hch4, hf4⟩
        have HR5 := hid (HR.out F4 V3 { addT s2 (C1, C2) with X := X4 } w4 g4 hs4 HV3.out (HC1.out.trans ((Chg.below hbr).trans (HC2.out.trans (HC3.out.trans hch4)))) (cd_X HL1.out) HL2.out (by rw [num_X, ← HK1.out.2.2.2.1]; exact HL3.out) HAC.out.2 hg4 hw4 (fun j hj => (hx4 j hj).trans (by rw [HAX.out]; exact HX1.out j (by omega))) (fun l ha => HAs.out l ha))
        clear hs4 hw4 hg4 hx4 hch4 hf4
        go_wp2_with fail
        refine HR5.out.mono ?_
        rintro e w5 ⟨rfl, hq⟩
        have HQ5 := hid hq
        clear hq
        go_wp2
        exact ⟨rfl, .tuple #[], by simp [results, Tryd.results42, go_sem], rfl, HQ5.out⟩
      | false =>
        have HD := hid (lv_down HCd1.out HL.out (by omega) (fun h => by have := HT.out.2 h; cases this))
        clear HT
        go_wp2
        go_roundw
        case rel => exact ⟨lv - 1, by omega, by go_num, HD.out, HB.out.trans (HB9.out.mono HB.out.size)⟩
        case measure => simp [intOf]; omega
end Go.Proofs.YtbahjpheaaiamaaDoor.solLearn
