/- A checker of the program tells whether a clause is RUP (isRup); conditions: clauses of at most 40 variables, lengths that fit. -/
import Derived.Test.YtolejaegnkcjjaaGreatDoorPart29
import Derived.Test.YtolejaegnkcjjaaGreatDoorSolSupI
import Derived.Test.YtolejaegnkcjjaaGreatDoorSolBackI
namespace Go.Proofs.YtolejaegnkcjjaaGreatDoor.chkRup
open Go.RowKit Go.Deep Go.Maps Go base sets setsOf solSets solOps solMath solHold solMem solAddI solClose solTrail solBackI solSupI chkNew chkMath
set_option linter.unusedVariables false
set_option linter.unusedSimpArgs false

theorem always_impl (a b : Nat) (w : World) (ha : a < 18446744073709551616) (hb : b < 18446744073709551616) :
    Calls Tryz.prog 76 #[.agg #[.int .u64 a, .int .u64 b]] w fun e w' => e = .returned (.bool (meetL (a, b) (turnL (a, b)))) ∧ Below w.heap.size w w' := by
  have HT := hid (fun w : World => turned_impl a b w)
  have HM : Hid (∀ w : World, Calls Tryz.prog 80 #[.agg #[.int .u64 a, .int .u64 b], .agg #[.int .u64 b, .int .u64 a]] w fun e w' => e = .returned (.bool (meetL (a, b) (turnL (a, b)))) ∧ Below w.heap.size w w') := hid (fun w => meets_impl a b b a w ha hb hb ha)
  generalize meetL (a, b) (turnL (a, b)) = m at *
  go_enter Tryz.func76, Tryz.ntmps76
  go_wp2_with fail
  go_region_with (first
    | (go_at_call 78; refine (HT.out _).mono ?_; rintro e1 w1 ⟨rfl, hb1⟩; have HB1 := hid ((show Below w.heap.size w _ from (by repeat (first | exact Below.refl _ _ | assumption | refine netSem.bdn ?_ _ | refine Below.drew ?_ | refine Below.alloc ?_ (by first | exact Nat.le_refl _ | omega | (simp; done) | (simp; omega)) _))).trans (hb1.mono (by simp))); have c0 : w1.cell? ⟨w.heap.size, 0, none⟩ = some (.int .u64 a) := keep hb1 (by simp [go_sem]); have c1 : w1.cell? ⟨w.heap.size, 1, none⟩ = some (.int .u64 b) := keep hb1 (by simp [go_sem]); clear hb1)
    | (go_at_call 80; refine (HM.out _).mono ?_; rintro e2 w2 ⟨rfl, hb2⟩; have HB2 := hid (HB1.out.trans (hb2.mono HB1.out.size)); clear hb2))
  all_goals
    go_wp2
    go_ret
    exact ⟨rfl, HB2.out⟩
set_option maxHeartbeats 3200000 in
set_option maxRecDepth 8000 in
theorem isRup_impl (M mb : Nat) (F : Nat → Value) (V : Int → Value) (cs : List LS) (s : Sv) (w : World) (h : Sol 0 M mb F V s w) (hv0 : V 0 = nilV) (hk : Chk cs s) (hlen : cs.length ≤ 8000000000000) (C1 C2 : Nat) (hc : Wf (C1, C2)) :
    Calls Tryz.prog 54 #[.pointer (some ⟨M, 0, none⟩), .agg #[.int .u64 C1, .int .u64 C2]] w fun e w' => e = .returned (.bool (rupS s (C1, C2)).2) ∧ ∃ F' V', Sol 0 M mb F' V' (rupS s (C1, C2)).1 w' ∧ V' 0 = nilV ∧ Chg M mb (blk 0 F V) (blk 0 F' V') w w' ∧ F' 2 = F 2 := by
  have HS := hid h
  have HV0 := hid hv0
  have HK := hid hk
  have hcl := hc.lt
  dsimp only at hcl
  have HAl := hid (fun w : World => always_impl C1 C2 w hcl.1 hcl.2)
  have HTu := hid (fun w : World => turned_impl C1 C2 w)
  obtain ⟨m, hm⟩ : ∃ m, meetL (C1, C2) (turnL (C1, C2)) = m := ⟨_, rfl⟩
  rw [hm] at HAl
  have HM := hid hm
  have hMl := h.lt.1
  have k10 := h.cell (i := 10) (by omega)
  rw [h.f10] at k10
  obtain ⟨f, hf⟩ : ∃ f, s.F = f := ⟨_, rfl⟩
  rw [hf] at k10
  have HF := hid hf
  have hCl : s.C.length ≤ 8000000000000 := by rw [hk.C]; exact hlen
  have HWc := hid hc
  clear h hv0 hk hcl hm hf hc
  by_cases hF : f = -1
  · have d1 : (f == -1) = true := by simp [hF]
    have d2 : (f != -1) = false := by simp [hF]
    cases m with
    | true =>
      have HR : Hid (rupS s (C1, C2) = (s, true)) := hid (by unfold rupS; rw [if_pos (.inr HM.out)])
      clear hF
      go_enter Tryz.func54, Tryz.ntmps54
      go_wp2_with fail
      refine (HAl.out _).mono ?_
      rintro e w1 ⟨rfl, hb1⟩
      have HB1 := hid ((show Below w.heap.size w _ from (by repeat (first | exact Below.refl _ _ | assumption | refine Below.drew ?_ | refine Below.alloc ?_ (by first | exact Nat.le_refl _ | omega | (simp; done) | (simp; omega)) _ | refine Below.setCell ?_ (by first | exact Nat.le_refl _ | omega | (simp; done) | (simp; omega)) _))).trans (hb1.mono (by simp)))
      clear hb1
      go_wp2_with fail
      go_ret
      rw [HR.out]
      exact ⟨rfl, F, V, HS.out.below HB1.out, HV0.out, Chg.below HB1.out, rfl⟩
    | false =>
      have hsF : s.F = -1 := HF.out.trans hF
      have hsD : s.D = [] := HK.out.still.resolve_left (fun e => e hsF)
      have hmm : ¬ meetL (C1, C2) (turnL (C1, C2)) = true := by rw [HM.out]; decide
      have HSu := hid (fun (W : World) (h : Sol 0 M mb F V s W) => suppose_impl (0, 0) M mb F V s W h HV0.out HK.out.full hsF hsD HK.out.stk C2 C1 (wf_turn HWc.out) (turn_cons HWc.out hmm) hCl (by rw [HK.out.K]; simp))
      obtain ⟨a1, a2, a3, a4, a5, ⟨T', a6⟩, a7, _⟩ := sup_spec HK.out.full hsF hsD HK.out.stk (wf_turn HWc.out) (turn_cons HWc.out hmm)
      have HR : Hid (rupS s (C1, C2) = (backS (supS s (C2, C1)).1 0, (supS s (C2, C1)).2)) := hid (by unfold rupS; rw [if_neg (by rintro (e | e); exact e hsF; exact hmm e)]; rfl)
      have e12 : turnL (C1, C2) = (C2, C1) := rfl
      rw [e12] at a1 a2 a3 a4 a5 a6 a7
      obtain ⟨⟨s2, b2⟩, hs2⟩ : ∃ q, supS s (C2, C1) = q := ⟨_, rfl⟩
      rw [hs2] at a1 a2 a5 a6 HSu HR
      dsimp only at a1 a2 a5 a6 HSu HR
      rw [HK.out.K, List.nil_append] at a5
      have hfr := fresh_range _ _ a2.tr.fresh
      have hfm := fresh_most a2.tr.fresh
      have HBk := hid (fun (W : World) F' V' (h : Sol 0 M mb F' V' s2 W) => back_impl M mb F' V' s2 W h a1.ok.wfH 0 (Nat.zero_le _) (fun _ => by
        have hkm : s2.K[0]?.getD 0 = s.T.length := by rw [a5]; rfl
        rw [hkm, a6]; simp) hfr (by omega) (by rw [a5]; simp))
      clear hF hsF hsD hmm a1 a2 a3 a4 a5 a6 a7 e12 hs2 hfr hfm
      go_enter Tryz.func54, Tryz.ntmps54
      go_wp2_with fail
      refine (HAl.out _).mono ?_
      rintro e w1 ⟨rfl, hb1⟩
      have HB1 := hid ((show Below w.heap.size w _ from (by repeat (first | exact Below.refl _ _ | assumption | refine Below.drew ?_ | refine Below.alloc ?_ (by first | exact Nat.le_refl _ | omega | (simp; done) | (simp; omega)) _ | refine Below.setCell ?_ (by first | exact Nat.le_refl _ | omega | (simp; done) | (simp; omega)) _))).trans (hb1.mono (by simp)))
      have c0 : w1.cell? ⟨w.heap.size, 0, none⟩ = some (.int .u64 C1) := keep hb1 (by simp [go_sem])
      have c1 : w1.cell? ⟨w.heap.size, 1, none⟩ = some (.int .u64 C2) := keep hb1 (by simp [go_sem])
      clear hb1
      go_wp2_with fail
      refine (HTu.out _).mono ?_
      rintro e w2 ⟨rfl, hb2⟩
      have HB2 := hid (HB1.out.trans (hb2.mono HB1.out.size))
      clear hb2 c0 c1
      go_wp2_with fail
      refine (HSu.out _ (HS.out.below HB2.out)).mono ?_
      rintro e w3 ⟨rfl, F3, V3, q1, qv, q2, qf⟩
      have HF3 := hid qf
      clear qf
      have HQ3 := hid q1
      have HV3 := hid qv
      have HC3 := hid ((Chg.below HB2.out).trans q2)
      clear q1 qv q2
      go_wp2_with fail
      refine (HBk.out _ F3 V3 HQ3.out).mono ?_
      rintro e w4 ⟨rfl, F4, q1, q2, qf⟩
      have HF4 := hid (qf.trans HF3.out)
      clear qf
      have HQ4 := hid q1
      have HC4 := hid (HC3.out.trans q2)
      clear q1 q2
      go_wp2_with fail
      go_ret
      rw [HR.out]
      exact ⟨rfl, F4, V3, HQ4.out, HV3.out, HC4.out, HF4.out⟩
  · have d1 : (f == -1) = false := by simp [hF]
    have d2 : (f != -1) = true := by simp [hF]
    have HR : Hid (rupS s (C1, C2) = (s, true)) := hid (by unfold rupS; rw [if_pos (.inl (by rw [HF.out]; exact hF))])
    go_enter Tryz.func54, Tryz.ntmps54
    go_wp2_with fail
    go_ret
    rw [HR.out]
    exact ⟨rfl, F, V, HS.out.below (by repeat (first | exact Below.refl _ _ | assumption | refine netSem.bdn ?_ _ | refine Below.drew ?_ | refine Below.alloc ?_ (by first | exact Nat.le_refl _ | omega | (simp; done) | (simp; omega)) _)), HV0.out, Chg.below (by repeat (first | exact Below.refl _ _ | assumption | refine netSem.bdn ?_ _ | refine Below.drew ?_ | refine Below.alloc ?_ (by first | exact Nat.le_refl _ | omega | (simp; done) | (simp; omega)) _)), rfl⟩
end Go.Proofs.YtolejaegnkcjjaaGreatDoor.chkRup
