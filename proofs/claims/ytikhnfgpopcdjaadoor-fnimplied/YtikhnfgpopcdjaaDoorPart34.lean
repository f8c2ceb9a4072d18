/- CdSolve; CdX: one text, so that the claim has fewer files. -/
import Derived.Test.YtikhnfgpopcdjaaDoorPart33
/- A search's ends: a model where all variables have values and nothing is due; none where a clause is false without a choice, or the opposite of what is asked for is true; how far choices are taken back; the lessons thinned; conditions: none. -/
namespace Go.Proofs.YtikhnfgpopcdjaaDoor.cdSolve
open sets solSets solMath solHold solAdd solProp solClose solTrail solLastT solAddM cdVal cdState cdLes cdLearn
set_option linter.unusedVariables false
set_option linter.unusedSimpArgs false

theorem low_all {n : Nat} {Z : List LS} {G B : LS} {s : Sv} (h : Cd n Z G B s) (hK : s.K = []) {H : LS} (hH : Mdl n Z H) (hB : Sub B H) : Sub s.H H := by
  have h1 := h.q.low H hH hB
  have e : lev0 s = s.T.length := by unfold lev0; rw [hK]; rfl
  rw [e, Trl.all h.stk.tr] at h1
  exact h1
/-- A clause is false without a choice: there is no model. -/
theorem no_model {n : Nat} {Z : List LS} {G B : LS} {s : Sv} (h : Cd n Z G B s) (hF : s.F ≠ -1) (hK : s.K = []) : ¬ ∃ H, Mdl n Z H ∧ Sub B H := by
  rintro ⟨H, hH, hB⟩
  have hs := low_all h hK hH hB
  rcases h.full.ok.fin with e | ⟨f, hf, e, hr⟩
  · exact hF e
  · have hwc := h.full.ok.wfC f
    obtain ⟨y, y1, y2⟩ := (meet_iff hwc).1 (h.q.imp f hf H hH)
    have h1 := (zero_iff (wf_rest hwc _)).1 hr y
    rw [mem_rest hwc h.full.ok.wfH, y1] at h1
    have h2 : mem s.H (-y) = true := by simpa using h1
    have h3 := hH.cons y y2
    rw [hs _ h2] at h3
    cases h3
/-- All variables have values, nothing is due, no clause is false: a model. -/
theorem whole_model {n : Nat} {Z : List LS} {G B : LS} {s : Sv} (h : Cd n Z G B s) (hF : s.F = -1) (hD : s.D = []) (hall : ∀ v : Nat, 1 ≤ v → v ≤ n → mem s.H (v : Int) = true ∨ mem s.H (-(v : Int)) = true) : Mdl n Z s.H := by
  have hc := rest_closed h.full hF hD
  refine ⟨hc.wf, hc.cons, hall, fun c hcz => ?_⟩
  have hcC := h.q.cl hcz
  obtain ⟨i, hi, e⟩ := List.mem_iff_getElem.1 hcC
  have e2 : s.cl i = c := by unfold Sv.cl; rw [List.getElem?_eq_getElem hi]; exact e
  have hwc : Wf c := by rw [← e2]; exact h.full.ok.wfC i
  rcases hc.cl c hcC with hm | ⟨x, y, _, hx, _⟩
  · exact hm
  · rw [mem_rest hwc hc.wf, Bool.and_eq_true] at hx
    have hn := h.q.inC i hi x (by rw [e2]; exact hx.1)
    have h0 := (hwc.range hx.1).1
    have h1 : mem s.H (-x) = false := by simpa using hx.2
    refine (meet_iff hwc).2 ⟨x, hx.1, ?_⟩
    rcases hall x.natAbs (by omega) hn with h2 | h2
    · rcases (show (x.natAbs : Int) = x ∨ (x.natAbs : Int) = -x by omega) with e3 | e3
      · rw [← e3]; exact h2
      · rw [e3, h1] at h2; cases h2
    · rcases (show (x.natAbs : Int) = x ∨ (x.natAbs : Int) = -x by omega) with e3 | e3
      · rw [e3, h1] at h2; cases h2
      · rw [e3, Int.neg_neg] at h2; exact h2
/-- What is asked for is the first choice, or true without one. -/
def Ask (G : LS) (s : Sv) (l : Int) : Prop := s.K ≠ [] → l = 0 ∨ mem (atK G s (lev0 s + 1)) l = true
theorem lev_in {s : Sv} (hK : s.K ≠ []) : lev0 s ∈ s.K := by
  unfold lev0
  cases h : s.K with
  | nil => exact absurd h hK
  | cons a b => exact List.mem_cons_self
/-- The opposite of what is asked for is true: no model has it. -/
theorem no_asked {n : Nat} {Z : List LS} {G B : LS} {s : Sv} {l : Int} (h : Cd n Z G B s) (ha : Ask G s l) (hl : mem s.H (-l) = true) : s.K = [] ∧ ¬ ∃ H, Mdl n Z H ∧ Sub B H ∧ mem H l = true := by
  have hl0 : l ≠ 0 := fun e => by rw [e, Int.neg_zero, h.full.ok.wfH.zero] at hl; cases hl
  have hK : s.K = [] := Classical.byContradiction fun hK => by
    have h1 := (ha hK).resolve_left hl0
    have h2 := at_mono h.stk.tr (Nat.le_refl _) (show lev0 s + 1 ≤ s.T.length by have := h.lt _ (lev_in hK); omega) _ h1
    rw [Trl.all h.stk.tr] at h2
    have h3 := h.full.ok.cons l h2
    rw [hl] at h3; cases h3
  refine ⟨hK, ?_⟩
  rintro ⟨H, hH, hB, hm⟩
  have h1 := low_all h hK hH hB _ hl
  rw [hH.cons l hm] at h1
  cases h1
theorem ask_hold {G : LS} {s : Sv} {l x r : Int} (h : Ask G s l) (hlt : ∀ k ∈ s.K, k < s.T.length) : Ask G (holdS s x r) l := fun hK => by
  have hK' : s.K ≠ [] := by rw [(hold_same s x r).2.2.2.2] at hK; exact hK
  rw [lev_hold hK', at_snoc (by have := hlt _ (lev_in hK'); omega)]
  exact h hK'
theorem ask_prop {n : Nat} {Z : List LS} {G B : LS} {l : Int} : ∀ (k : Nat) (s : Sv), Cd n Z G B s → Ask G s l → Ask G (propF k s) l
  | 0, s, _, h => h
  | k + 1, s, hc, h => by
    by_cases hF : s.F = -1
    · cases hD : s.D with
      | nil => rw [propF_end (.inr hD)]; exact h
      | cons i D =>
        rw [propF_step hF hD]
        refine ask_prop k _ (cd_pop hc hF hD) ?_
        unfold popS
        split
        · exact h
        · exact ask_hold (s := { s with D := D }) h hc.lt
    · rw [propF_end (.inl hF)]; exact h
theorem ask_back {n : Nat} {Z : List LS} {G B : LS} {s : Sv} {l : Int} {lv : Nat} (hc : Cd n Z G B s) (h : Ask G s l) (hl : lv < s.K.length) : Ask G (backS s lv) l := by
  rw [back_eq hc.stk.tr hl]
  intro hK
  cases hKs : s.K with
  | nil => rw [hKs] at hl; exact absurd hl (Nat.not_lt_zero _)
  | cons a b =>
    cases lv with
    | zero => exact absurd rfl hK
    | succ j =>
      have e : lev0 { s with H := atK G s (s.K[j + 1]?.getD 0), T := s.T.take (s.K[j + 1]?.getD 0), K := s.K.take (j + 1), D := [], F := -1 } = lev0 s := by
        unfold lev0
        dsimp only
        rw [hKs]; rfl
      rw [hKs] at e
      rw [e, ← hKs]
      have hlt : lev0 s < s.K[j + 1]?.getD 0 := by
        have h1 : lev0 s = a := by unfold lev0; rw [hKs]; rfl
        have h2 := List.pairwise_iff_getElem.1 hc.q.inc 0 (j + 1) (by omega) hl (by omega)
        have h3 : s.K[0]'(by omega) = a := by simp [hKs]
        rw [List.getElem?_eq_getElem hl, Option.getD_some, h1, ← h3]
        exact h2
      rw [at_take (by omega)]
      exact h (by rw [hKs]; simp)
theorem ask_add {G : LS} {s : Sv} {l : Int} {c : LS} (h : Ask G s l) : Ask G (addT s c) l := by
  obtain ⟨g1, g2, g3, g4, g5, g6⟩ := addT_same s c
  intro hK
  have e1 : lev0 (addT s c) = lev0 s := by unfold lev0; rw [g5, g4]
  have e2 : ∀ k, atK G (addT s c) k = atK G s k := fun k => by unfold atK; rw [g4]
  rw [e1, e2]
  exact h (by rw [g5] at hK; exact hK)
/-- A choice: the trail grows, its number stays. -/
theorem choose_spec {n : Nat} {Z : List LS} {G B : LS} {s : Sv} {l x : Int} (h : Cd n Z G B s) (hF : s.F = -1) (hD : s.D = []) (ha : Ask G s l) (x0 : x ≠ 0) (xn : x.natAbs ≤ n) (no : mem s.H x = false ∧ mem s.H (-x) = false) (hask : s.K = [] → l = 0 ∨ x = l ∨ mem s.H l = true) :
    Cd n Z G B (holdS (pushS s) x (-1)) ∧ Ask G (holdS (pushS s) x (-1)) l ∧ num (holdS (pushS s) x (-1)) = num s ∧ (holdS (pushS s) x (-1)).T.length = s.T.length + 1 := by
  have hpf := push_full h.full
  have hps := push_stk h.full hF hD h.stk
  have h40 := h.q.n40
  have hst : ∀ i, i < (pushS s).C.length → StH (pushS s) (pushS s).H i ∨ mem ((pushS s).cl i) x = true := fun i hi => .inl (hpf.st i hi)
  obtain ⟨e1, e2, e3, e4, e5⟩ := hold_same (pushS s) x (-1)
  have hq : CdQ n Z G B (pushS s) := by
    refine ⟨h.q.consG, h.q.nv, h.q.n40, h.q.inC, h.q.inT, h.q.imp, h.q.own, ?_, fun i hi hex => ?_, fun H hH hB => ?_⟩
    · show (s.K ++ [s.T.length]).Pairwise _
      rw [List.pairwise_append]
      exact ⟨h.q.inc, List.pairwise_singleton _ _, fun a ha b hb => by simp at hb; subst hb; exact h.lt a ha⟩
    · obtain ⟨k, hk, hki⟩ := hex
      have hk : k ∈ s.K ++ [s.T.length] := hk
      rcases List.mem_append.1 hk with hk | hk
      · rcases h.q.why i hi ⟨k, hk, hki⟩ with h1 | h1
        · exact .inl (List.mem_append_left _ h1)
        · exact .inr h1
      · have : k = s.T.length := by simpa using hk
        have hi : i < s.T.length := hi
        omega
    · have e : lev0 (pushS s) = lev0 s := by
        unfold lev0 pushS
        dsimp only
        cases s.K <;> rfl
      rw [e]
      exact h.q.low H hH hB
  have hcq := cq_hold (x := x) (r := -1) hq hps x0 xn (fun _ => .inl (List.mem_append_right _ (by simp [pushS]))) (fun e => by
    have : s.K ++ [s.T.length] = [] := e
    simp at this)
  refine ⟨⟨hold_full hpf.ok hst x0 (by omega) no, stk_hold hpf.ok hps hst x0 (by omega) no, hcq, fun k hk => ?_⟩, fun hK => ?_, ?_, ?_⟩
  · rw [e5] at hk
    rw [e4, List.length_append]
    have hk : k ∈ s.K ++ [s.T.length] := hk
    show k < s.T.length + 1
    rcases List.mem_append.1 hk with hk | hk
    · have := h.lt k hk; omega
    · have : k = s.T.length := by simpa using hk
      omega
  · have hKp : (pushS s).K ≠ [] := by simp [pushS]
    have hlp : lev0 (pushS s) = lev0 s := by
      unfold lev0 pushS
      dsimp only
      cases s.K <;> rfl
    rw [lev_hold hKp, hlp]
    by_cases hKs : s.K = []
    · have e8 : lev0 s = s.T.length := by unfold lev0; rw [hKs]; rfl
      have e9 : atK G (holdS (pushS s) x (-1)) (lev0 s + 1) = withL s.H (onlyL x) := by
        unfold atK
        rw [e4, e8, List.take_of_length_le (by show (s.T ++ [(x, -1)]).length ≤ _; simp)]
        show HT G (s.T ++ [(x, -1)]) = _
        rw [ht_append, ← h.stk.tr.h]
        rfl
      rw [e9, mem_held x0]
      rcases hask hKs with e | e | e
      · exact .inl e
      · exact .inr (by rw [e]; simp)
      · exact .inr (by rw [e]; rfl)
    · have := h.lt _ (lev_in hKs)
      rw [at_snoc (s := pushS s) (show lev0 s + 1 ≤ s.T.length by omega)]
      exact ha hKs
  · unfold num
    rw [e2, e4, e5, List.length_append]
    show dig s.n.toNat (s.K ++ [s.T.length]) (s.T.length + 1) = _
    show dig s.n.toNat (s.K ++ [s.T.length]) s.T.length + (if s.T.length ∈ s.K ++ [s.T.length] then 0 else _) = _
    rw [if_pos (by simp), Nat.add_zero]
    exact dig_congr _ (fun p hp => by
      rw [List.mem_append]
      constructor
      · rintro (h1 | h1)
        · exact h1
        · have : p = s.T.length := by simpa using h1
          omega
      · exact .inl)
  · rw [e4, List.length_append]; rfl
/-- How far choices are taken back, on the way down. -/
structure LvI (G : LS) (s : Sv) (c : LS) (u : Int) (lv : Nat) : Prop where
  lt : lv < s.K.length
  low : ∀ y, mem c y = true → y ≠ u → mem (atK G s (s.K[lv]?.getD 0)) (-y) = true
theorem lv_start {n : Nat} {Z : List LS} {G B : LS} {s : Sv} {st k : Nat} {c : LS} (h : Cd n Z G B s) (hst : LastK s st) (hl : Les n Z G s st k c) : LvI G s c (-(tl s k)) (s.K.length - 1) := by
  have hK : s.K ≠ [] := List.ne_nil_of_mem hst.1
  have hlen := List.length_pos_iff.2 hK
  refine ⟨by omega, fun y hy hne => ?_⟩
  have e : s.K[s.K.length - 1]?.getD 0 = st := by
    rw [List.getElem?_eq_getElem (by omega), Option.getD_some]
    have h1 := hst.2 _ (List.getElem_mem (show s.K.length - 1 < s.K.length by omega))
    obtain ⟨i, hi, e⟩ := List.getElem_of_mem hst.1
    by_cases e2 : i = s.K.length - 1
    · subst e2; exact e
    · have := List.pairwise_iff_getElem.1 h.q.inc i (s.K.length - 1) hi (by omega) (by omega)
      omega
  rw [e]
  exact hl.rest y hy hne
theorem lv_down {n : Nat} {Z : List LS} {G B : LS} {s : Sv} {c : LS} {u : Int} {lv : Nat} (h : Cd n Z G B s) (hv : LvI G s c u lv) (h0 : 0 < lv) (hno : ¬ ∃ i, s.K[lv - 1]?.getD 0 ≤ i ∧ i < s.K[lv]?.getD 0 ∧ mem c (-(tl s i)) = true) : LvI G s c u (lv - 1) := by
  have hl := hv.lt
  have hm : ∀ j, j < s.K.length → s.K[j]?.getD 0 ≤ s.T.length := fun j hj => by
    rw [List.getElem?_eq_getElem hj]
    exact h.stk.le _ (List.getElem_mem hj)
  refine ⟨by omega, fun y hy hne => ?_⟩
  have h1 := hv.low y hy hne
  rw [mem_at h.stk.tr (hm lv hl)] at h1
  rw [mem_at h.stk.tr (hm _ (by omega))]
  rcases h1 with h1 | ⟨i, hi, e⟩
  · exact .inl h1
  · refine .inr ⟨i, Classical.byContradiction fun hn => hno ⟨i, by omega, hi, ?_⟩, e⟩
    rw [e, Int.neg_neg]; exact hy
theorem lv_end {G : LS} {s : Sv} {c : LS} {u : Int} {lv : Nat} (hv : LvI G s c u lv) (h : lv = 0 ∨ ∃ i, s.K[lv - 1]?.getD 0 ≤ i ∧ i < s.K[lv]?.getD 0 ∧ mem c (-(tl s i)) = true) : Lvl G s c u lv := ⟨hv.lt, hv.low, h⟩
end Go.Proofs.YtikhnfgpopcdjaaDoor.cdSolve

/- The state's field X (weights, patience, room) has no part in the search's mathematics; of no program. -/
namespace Go.Proofs.YtikhnfgpopcdjaaDoor.cdX
open Go.RowKit Go.Deep Go.Shelf Go base sets setsOf solSets solOps solMath solHold solProp solTrail solAddM cdVal cdState cdLes cdLearn cdSolve solLastT
set_option linter.unusedVariables false

theorem ok_X {s : Sv} {X : Nat → Value} (h : Okay s) : Okay { s with X := X } := by
  cases h
  constructor <;> assumption
theorem full_X {s : Sv} {X : Nat → Value} (h : Full s) : Full { s with X := X } := ⟨ok_X h.ok, h.st⟩
theorem trl_X {G : LS} {s : Sv} {X : Nat → Value} (h : Trl G s) : Trl G { s with X := X } := ⟨h.wf, h.h, h.fresh⟩
theorem stk_X {G : LS} {s : Sv} {X : Nat → Value} (h : Stk G s) : Stk G { s with X := X } := ⟨trl_X h.tr, h.mono, h.le, h.good⟩
theorem cdq_X {n : Nat} {Z : List LS} {G B : LS} {s : Sv} {X : Nat → Value} (h : CdQ n Z G B s) : CdQ n Z G B { s with X := X } := ⟨h.consG, h.nv, h.n40, h.inC, h.inT, h.imp, h.own, h.inc, h.why, h.low⟩
theorem cd_X {n : Nat} {Z : List LS} {G B : LS} {s : Sv} {X : Nat → Value} (h : Cd n Z G B s) : Cd n Z G B { s with X := X } := ⟨full_X h.full, stk_X h.stk, cdq_X h.q, h.lt⟩
theorem les_X {n : Nat} {Z : List LS} {G : LS} {s : Sv} {st k : Nat} {c : LS} {X : Nat → Value} (h : Les n Z G s st k c) : Les n Z G { s with X := X } st k c := ⟨h.wf, h.inN, h.imp, h.lt, h.ge, h.u, h.rest⟩
theorem mv_setX (s : Sv) (X : Nat → Value) (i : Nat) (x : Int) : mv { s with X := X } i x = ({ (mv s i x).1 with X := X }, (mv s i x).2) := by
  have hc : Sv.cl { s with X := X } i = s.cl i := rfl
  have hs : stay { s with X := X } i x = stay s i x := rfl
  have ht : toL { s with X := X } i x = toL s i x := rfl
  unfold mv
  simp only [hc, hs, ht]
  split
  · rfl
  · split
    · rfl
    · split <;> rfl
theorem mvs_setX (x : Int) (X : Nat → Value) : ∀ (R : List Nat) (s : Sv) (kept : List Nat), mvs x R { s with X := X } kept = ({ (mvs x R s kept).1 with X := X }, (mvs x R s kept).2)
  | [], _, _ => rfl
  | i :: r, s, kept => by
    show mvs x r (mv { s with X := X } i x).1 (if (mv { s with X := X } i x).2 = true then kept else kept ++ [i]) = _
    rw [mv_setX]
    exact mvs_setX x X r (mv s i x).1 _
theorem hold_setX (s : Sv) (X : Nat → Value) (l r : Int) : holdS { s with X := X } l r = { holdS s l r with X := X } := by
  have h : mvs (-l) (s.L (-l)) (held1 { s with X := X } l r) [] = ({ (mvs (-l) (s.L (-l)) (held1 s l r) []).1 with X := X }, (mvs (-l) (s.L (-l)) (held1 s l r) []).2) := mvs_setX (-l) X (s.L (-l)) (held1 s l r) []
  show { (mvs (-l) (s.L (-l)) (held1 { s with X := X } l r) []).1 with L := upd (mvs (-l) (s.L (-l)) (held1 { s with X := X } l r) []).1.L (-l) (mvs (-l) (s.L (-l)) (held1 { s with X := X } l r) []).2 } = _
  rw [h]
  rfl
theorem pop_setX (s : Sv) (X : Nat → Value) (i : Nat) (D : List Nat) : popS { s with X := X } i D = { popS s i D with X := X } := by
  by_cases h : meetL (s.cl i) s.H = true
  · have e1 : popS s i D = { s with D := D } := if_pos h
    have e2 : popS { s with X := X } i D = { s with D := D, X := X } := if_pos h
    rw [e1, e2]
  · have e1 : popS s i D = holdS { s with D := D } (firstL (restL (s.cl i) s.H)) i := if_neg h
    have e2 : popS { s with X := X } i D = holdS { s with D := D, X := X } (firstL (restL (s.cl i) s.H)) i := if_neg h
    rw [e1, e2]
    exact hold_setX { s with D := D } X _ _
theorem prop_setX (X : Nat → Value) : ∀ (k : Nat) (s : Sv), propF k { s with X := X } = { propF k s with X := X }
  | 0, s => rfl
  | k + 1, s => by
    by_cases hF : s.F = -1
    · obtain ⟨d, hD⟩ : ∃ d, s.D = d := ⟨_, rfl⟩
      cases d with
      | nil =>
        rw [propF_end (.inr hD), propF_end (s := { s with X := X }) (.inr hD)]
      | cons i D =>
        rw [propF_step hF hD, propF_step (s := { s with X := X }) hF hD, pop_setX]
        exact prop_setX X k _
    · rw [propF_end (.inl hF), propF_end (s := { s with X := X }) (.inl hF)]
theorem num_X (s : Sv) (X : Nat → Value) : num (propF (meas { s with X := X } + 1) { s with X := X }) = num (propF (meas s + 1) s) := by
  rw [show meas { s with X := X } = meas s from rfl, prop_setX]
  rfl
theorem back_X (s : Sv) (lv : Nat) : (backS s lv).X = s.X := by
  unfold backS
  split <;> rfl
end Go.Proofs.YtikhnfgpopcdjaaDoor.cdX
