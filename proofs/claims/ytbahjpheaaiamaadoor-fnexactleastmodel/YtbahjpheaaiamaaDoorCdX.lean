/- The state's field X (weights, patience, room) has no part in the search's mathematics; of no program. -/
import Derived.Test.YtbahjpheaaiamaaDoorPart27
namespace Go.Proofs.YtbahjpheaaiamaaDoor.cdX
open Go.RowKit Go.Deep Go.Shelf Go base sets setsOf solSets solOps solMath solHold solProp solTrail solAddM cdVal cdState cdLes cdLearn cdSolve solLastT
set_option linter.unusedVariables false

theorem ok_X {s : Sv} {X : Nat → Value} (h : Okay s) : Okay { s with X := X } := by
  cases h
  constructor <;> assumption
theorem full_X {s : Sv} {X : Nat → Value} (h : Full s) : Full { s with X := X } := ⟨ok_X h.ok, h.st⟩
theorem trl_X {G : LS} {s : Sv} {X : Nat → Value} (h : Trl G s) : Trl G { s with X := X } := ⟨h.wf, h.h, h.fresh⟩
theorem stk_X {G : LS} {s : Sv} {X : Nat → Value} (h : Stk G s) : Stk G { s with X := X } := ⟨trl_X h.tr, h.mono, h.le, h.good⟩
theorem cdq_X {n : Nat} {Z : List LS} {G B : LS} {s : Sv} {X : Nat → Value} (h : CdQ n Z G B s) : CdQ n Z G B { s with X := X } := ⟨h.consG, h.nv, h.n40, h.inC, h.inT, h.imp, h.own, h.inc, h.why, h.low, h.bas⟩
theorem cd_X {n : Nat} {Z : List LS} {G B : LS} {s : Sv} {X : Nat → Value} (h : Cd n Z G B s) : Cd n Z G B { s with X := X } := ⟨full_X h.full, stk_X h.stk, cdq_X h.q, h.lt⟩
theorem les_X {n : Nat} {Z : List LS} {G : LS} {s : Sv} {st k : Nat} {c : LS} {X : Nat → Value} (h : Les n Z G s st k c) : Les n Z G { s with X := X } st k c := ⟨h.wf, h.inN, h.imp, h.lt, h.ge, h.u, h.rest⟩
theorem mv_setX (s : Sv) (X : Nat → Value) (i : Nat) (x : Int) : mv { s with X := X } i x = ({ (mv s i x).1 with X := X }, (mv s i x).2) := by
  have hc : Sv.cl { s with X := X } i = s.cl i := rfl
  have hs : stay { s with X := X } i x = stay s i x := rfl
  have ht : toL { s with X := X } i x = toL s i x := rfl
  unfold mv
  simp only [hc, hs, ht]
  split
  · rfl
  · split
    · rfl
    · split <;> rfl
theorem mvs_setX (x : Int) (X : Nat → Value) : ∀ (R : List Nat) (s : Sv) (kept : List Nat), mvs x R { s with X := X } kept = ({ (mvs x R s kept).1 with X := X }, (mvs x R s kept).2)
  | [], _, _ => rfl
  | i :: r, s, kept => by
    show mvs x r (mv { s with X := X } i x).1 (if (mv { s with X := X } i x).2 = true then kept else kept ++ [i]) = _
    rw [mv_setX]
    exact mvs_setX x X r (mv s i x).1 _
theorem hold_setX (s : Sv) (X : Nat → Value) (l r : Int) : holdS { s with X := X } l r = { holdS s l r with X := X } := by
  have h : mvs (-l) (s.L (-l)) (held1 { s with X := X } l r) [] = ({ (mvs (-l) (s.L (-l)) (held1 s l r) []).1 with X := X }, (mvs (-l) (s.L (-l)) (held1 s l r) []).2) := mvs_setX (-l) X (s.L (-l)) (held1 s l r) []
  show { (mvs (-l) (s.L (-l)) (held1 { s with X := X } l r) []).1 with L := upd (mvs (-l) (s.L (-l)) (held1 { s with X := X } l r) []).1.L (-l) (mvs (-l) (s.L (-l)) (held1 { s with X := X } l r) []).2 } = _
  rw [h]
  rfl
theorem pop_setX (s : Sv) (X : Nat → Value) (i : Nat) (D : List Nat) : popS { s with X := X } i D = { popS s i D with X := X } := by
  by_cases h : meetL (s.cl i) s.H = true
  · have e1 : popS s i D = { s with D := D } := if_pos h
    have e2 : popS { s with X := X } i D = { s with D := D, X := X } := if_pos h
    rw [e1, e2]
  · have e1 : popS s i D = holdS { s with D := D } (firstL (restL (s.cl i) s.H)) i := if_neg h
    have e2 : popS { s with X := X } i D = holdS { s with D := D, X := X } (firstL (restL (s.cl i) s.H)) i := if_neg h
    rw [e1, e2]
    exact hold_setX { s with D := D } X _ _
theorem prop_setX (X : Nat → Value) : ∀ (k : Nat) (s : Sv), propF k { s with X := X } = { propF k s with X := X }
  | 0, s => rfl
  | k + 1, s => by
    by_cases hF : s.F = -1
    · obtain ⟨d, hD⟩ : ∃ d, s.D = d := ⟨_, rfl⟩
      cases d with
      | nil =>
        rw [propF_end (.inr hD), propF_end (s := { s with X := X }) (.inr hD)]
      | cons i D =>
        rw [propF_step hF hD, propF_step (s := { s with X := X }) hF hD, pop_setX]
        exact prop_setX X k _
    · rw [propF_end (.inl hF), propF_end (s := { s with X := X }) (.inl hF)]
theorem num_X (s : Sv) (X : Nat → Value) : num (propF (meas { s with X := X } + 1) { s with X := X }) = num (propF (meas s + 1) s) := by
  rw [show meas { s with X := X } = meas s from rfl, prop_setX]
  rfl
theorem back_X (s : Sv) (lv : Nat) : (backS s lv).X = s.X := by
  unfold backS
  split <;> rfl
end Go.Proofs.YtbahjpheaaiamaaDoor.cdX
