/- A solver of the program: what is due is taken until a clause is false or nothing is due (propagate); conditions: lengths that fit. -/
import Derived.Test.YtbahjpheaaiamaaDoorSolHoldI
import Derived.Test.YtbahjpheaaiamaaDoorPart16
import Derived.Deep.LoopGhost
import Derived.Deep.CutBlock
namespace Go.Proofs.YtbahjpheaaiamaaDoor.solPropI
open Go.RowKit Go.Deep Go.Maps Go base sets setsOf solSets solOps solMath solHold solProp solMem solFail solDue solExpect solPush solLoop solMove solHoldI heldStore drawn drawnLin drawnMk drawnApp
set_option linter.unusedVariables false
set_option linter.unusedSimpArgs false
set_option pp.deepTerms true
set_option pp.maxSteps 10000000

theorem due_pop {w : World} {v : Value} {i : Nat} {D : List Nat} (h : DueRow w v (i :: D)) : ∃ g off cap, v = .slice (some ⟨g, off, none⟩) (D.length + 1) cap ∧ D.length + 1 ≤ cap ∧ cap ≤ maxLen ∧ w.cell? ⟨g, off, none⟩ = some (.int .i64 (i : Int)) ∧ (cap = 1 → DueRow w (.slice (some ⟨g, off, none⟩) D.length 0) D) ∧ (cap ≠ 1 → DueRow w (.slice (some ⟨g, off + 1, none⟩) D.length (cap - 1)) D) := by
  rcases h with ⟨_, h⟩ | ⟨g, off, n, cap, rfl, h⟩
  · cases h
  · have hl := h.len
    simp at hl
    subst hl
    have h0 := h.cell 0 (by omega)
    refine ⟨g, off, cap, rfl, h.le, h.most, by simpa using h0, fun e => ?_, fun e => ?_⟩
    · have := h.le
      have hD : D.length = 0 := by omega
      refine .inr ⟨g, off, D.length, 0, rfl, ⟨rfl, by omega, by omega, fun j hj => by omega, fun j hj => by omega, h.froz, h.shape⟩⟩
    · have := h.le
      have := h.most
      refine .inr ⟨g, off + 1, D.length, cap - 1, rfl, ⟨rfl, by omega, by omega, fun j hj => ?_, fun j hj => ?_, h.froz, h.shape⟩⟩
      · have := h.cell (j + 1) (by omega)
        rw [show off + 1 + j = off + (j + 1) by omega, this]
        simp
      · have := h.has (j + 1) (by omega)
        rw [show off + 1 + j = off + (j + 1) by omega]
        exact this
theorem due_len {w : World} {v : Value} {D : List Nat} (h : DueRow w v D) : ∃ a c, v = .slice a D.length c ∧ D.length ≤ maxLen := by
  rcases h with ⟨rfl, rfl⟩ | ⟨g, off, n, cap, rfl, h⟩
  · exact ⟨none, 0, rfl, Nat.zero_le _⟩
  · exact ⟨_, cap, by rw [h.len], by rw [h.len]; exact Nat.le_trans h.le h.most⟩
set_option maxHeartbeats 6400000 in
set_option maxRecDepth 8000 in
theorem propagate_impl (M mb : Nat) (F : Nat → Value) (V : Int → Value) (s : Sv) (w : World) (h : Sol 0 M mb F V s w) (hv0 : V 0 = nilV) (hf : Full s) (hlen : s.C.length ≤ 8000000000000) (hT : s.T.length + free s.H ≤ 100000) :
    Calls Tryd.prog 41 #[.pointer (some ⟨M, 0, none⟩)] w fun e w' => e = .returned (.tuple #[]) ∧ ∃ F' V', Sol 0 M mb F' V' (propF (meas s + 1) s) w' ∧ V' 0 = nilV ∧ Chg M mb (blk 0 F V) (blk 0 F' V') w w' ∧ F' 2 = F 2 := by
  obtain ⟨R, hR⟩ : ∃ R, propF (meas s + 1) s = R := ⟨_, rfl⟩
  rw [hR]
  have HR := hid hR
  have HS := hid h
  have HV0' := hid hv0
  have HFu := hid hf
  have HLe := hid hlen
  have HT0 := hid hT
  clear hR h hv0 hf hlen hT
  go_enter Tryd.func41, Tryd.ntmps41
  go_wp2
  go_loopg [] (meas s) (fun g wr => ∃ (Fj : Nat → Value) (Vj : Int → Value) (s1 : Sv), Sol 0 M mb Fj Vj s1 wr ∧ Vj 0 = nilV ∧ Chg M mb (blk 0 F V) (blk 0 Fj Vj) w wr ∧ Full s1 ∧ meas s1 ≤ g ∧ (∀ k, meas s1 < k → propF k s1 = R) ∧ (s1.C.length ≤ 8000000000000 ∧ s1.T.length + free s1.H ≤ 100000) ∧ Fj 2 = F 2)
  case atStart => exact ⟨F, V, s, HS.out, HV0'.out, Chg.below (Below.refl _ _), HFu.out, Nat.le_refl _, fun k hk => by rw [← HR.out]; exact propF_same _ _ _ HFu.out hk (Nat.lt_succ_self _), ⟨HLe.out, HT0.out⟩, rfl⟩
  case round =>
    obtain ⟨Fj, V, s1, hS, hv, hC, hfu, hm, hPk, ⟨hl, ht⟩, hf2⟩ := hrel
    have HF2 := hid hf2
    clear hf2
    have HSj := hid hS
    have HV0 := hid hv
    have HCj := hid hC
    have HFj := hid hfu
    have HPk := hid hPk
    have HTj := hid ht
    have k10 := hS.cell (i := 10) (by omega)
    rw [hS.f10] at k10
    have hMl := hS.lt.1
    by_cases hF : s1.F = -1
    · have dF : (s1.F == -1) = true := by simp [hF]
      have HF := hid hF
      obtain ⟨f, hf9⟩ : ∃ f, s1.F = f := ⟨_, rfl⟩
      rw [hf9] at k10 dF
      have k9 := hS.cell (i := 9) (by omega)
      have HD9 : Hid (DueRow wr (Fj 9) s1.D) := hid (hS.rows 1005 (by omega))
      cases hD : s1.D with
      | nil =>
        rw [hD] at HD9
        obtain ⟨a, c, e9, _⟩ := due_len HD9.out
        rw [e9] at k9
        have HE : Hid (R = s1) := hid (by rw [← HPk.out (meas s1 + 1) (Nat.lt_succ_self _)]; exact propF_end (.inr hD))
        clear hS hv hC hfu hPk ht hF hf9 HD9 e9 hD
        go_wp2
        go_end0
        exact ⟨rfl, Fj, V, by rw [HE.out]; exact HSj.out.below (by repeat (first | exact Below.refl _ _ | assumption | refine netSem.bdn ?_ _ | refine Below.drew ?_ | refine Below.alloc ?_ (by first | exact Nat.le_refl _ | omega | (simp; done) | (simp; omega)) _)), HV0.out, HCj.out.trans (Chg.below (by repeat (first | exact Below.refl _ _ | assumption | refine netSem.bdn ?_ _ | refine Below.drew ?_ | refine Below.alloc ?_ (by first | exact Nat.le_refl _ | omega | (simp; done) | (simp; omega)) _))), HF2.out⟩
      | cons nb D =>
        rw [hD] at HD9
        obtain ⟨g, off, cap, e9, hle, hmost, hcell, hd1, hd2⟩ := due_pop HD9.out
        rw [e9] at k9
        have f9 := hS.frozen 9
        have HE9 := hid e9
        have HD := hid hD
        have HFp := hid (pop_full hfu hF hD)
        have HLs := hid (pop_less hfu hF hD)
        have HLsg : Hid (meas (popS s1 nb D) < gk) := hid (by have := HLs.out; omega)
        have HPF : Hid (∀ k, meas (popS s1 nb D) < k → R = propF k (popS s1 nb D)) := hid (fun k hk => by
          rw [← HPk.out (meas s1 + 1) (Nat.lt_succ_self _), propF_step hF hD]
          exact propF_same _ _ _ HFp.out HLs.out hk)
        have hnl : nb < s1.C.length := hfu.ok.dlt nb (by rw [hD]; simp)
        have HNl := hid hnl
        have HTl : Hid ((popS s1 nb D).C.length ≤ 8000000000000 ∧ (popS s1 nb D).T.length + free (popS s1 nb D).H ≤ 100000) := hid ⟨by rw [pop_same.1]; exact hl, by
          by_cases hmt : meetL (s1.cl nb) s1.H = true
          · unfold popS; rw [if_pos hmt]; exact ht
          · obtain ⟨x, e, h1, h2, h3, h4, h5, h6⟩ := unit_of hfu hF hD hmt
            unfold popS
            rw [if_neg hmt, e]
            obtain ⟨_, _, t1, t2, _⟩ := hold_same { s1 with D := D } x nb
            rw [t1, t2]
            have := free_hold h2 h3 ⟨h5, h6⟩
            simp only [List.length_append, List.length_singleton]
            show s1.T.length + 1 + free (withL s1.H (onlyL x)) ≤ 100000
            omega⟩
        have hcap : (1 : Int) ≤ (cap : Int) := by omega
        have HM9 : Hid (∀ v', DueRow wr v' D → (v'.ownBlock = some g) → ∃ Fq, Sol 0 M mb Fq V { s1 with D := D } (wr.setCell ⟨M, 9, none⟩ v') ∧ Chg M mb (blk 0 Fj V) (blk 0 Fq V) wr (wr.setCell ⟨M, 9, none⟩ v') ∧ Fq 2 = Fj 2) := hid (fun v' h1 h2 => by
          have := Sol.store HSj.out (by omega) (a0 := 1005) (c := 9) (by simp) (v' := v') (s' := { s1 with D := D }) (w1 := wr) (grown_refl _ _) (by show DueRow wr v' D; exact h1) (.inl (by show _ = (Fj 9).ownBlock; rw [HE9.out, h2]; rfl)) (fun a ha v w hr => by unfold RowA at hr ⊢; simpa [ha] using hr) rfl rfl rfl
          exact ⟨_, this.1, this.2, rfl⟩)
        have HD1 := hid hd1
        have HD2 := hid hd2
        have hc1 : (0 : Int) < ((D.length + 1 : Nat) : Int) := by omega
        have hmost' : D.length + 1 ≤ 9223372036854775807 := by unfold maxLen at hmost; omega
        clear hS hv hC hfu hPk ht hF hf9 HD9 e9 hD hd1 hd2 hnl
        go_upto_region 2 with fail
        go_cut [] from 23 to 30 (fun wc => ∃ Fq, Sol 0 M mb Fq V { s1 with D := D } wc ∧ Chg M mb (blk 0 Fj V) (blk 0 Fq V) wr wc ∧ Fq 2 = Fj 2)
        case first =>
          by_cases hcp : cap = 1
          · subst hcp
            obtain ⟨Fq, q1, q2, qf⟩ := HM9.out _ (HD1.out rfl) rfl
            have HQf := hid qf
            clear qf
            have HD0 : Hid (D.length = 0) := hid (by omega)
            have HQ1 := hid q1
            have HQ2 := hid q2
            clear q1 q2
            clear HD1 HD2 HM9
            go_wp2_with fail
            go_meet
            have q1 := HQ1.out
            have q2 := HQ2.out
            rw [HD0.out] at q1 q2
            exact ⟨Fq, q1, q2, HQf.out⟩
          · obtain ⟨Fq, q1, q2, qf⟩ := HM9.out _ (HD2.out hcp) rfl
            have HQf := hid qf
            clear qf
            have HQ1 := hid q1
            have HQ2 := hid q2
            have hcp2 : ¬ ((cap : Int) = 1) := by omega
            clear q1 q2 HD1 HD2 HM9
            go_wp2_with fail
            go_meet
            exact ⟨Fq, HQ1.out, HQ2.out, HQf.out⟩
        case rest =>
          obtain ⟨Fq, hSq, hCq, hfq⟩ := hcut
          have HFq := hid (hfq.trans HF2.out)
          clear hfq
          have HSq := hid hSq
          have HCq := hid hCq
          have HT := hid hSq.tab
          obtain ⟨g2, cap2, hF2, hm2, c0, c1⟩ := Sol.clause hSq (by omega) (i := nb) HNl.out
          have hc9 : Wf (s1.cl nb) := HFj.out.ok.wfC nb
          have hH9 : Wf s1.H := HFj.out.ok.wfH
          have k2 := hSq.cell (i := 2) (by omega)
          rw [hF2] at k2
          have k5 := hSq.cell (i := 5) (by omega)
          have k6 := hSq.cell (i := 6) (by omega)
          rw [hSq.f5] at k5
          rw [hSq.f6] at k6
          have hMq := hSq.lt.1
          replace k5 : wc.cell? ⟨M, 5, none⟩ = some (.int .u64 s1.H.1) := k5
          replace k6 : wc.cell? ⟨M, 6, none⟩ = some (.int .u64 s1.H.2) := k6
          replace c0 : wc.cell? ⟨g2, nb * 2, none⟩ = some (.int .u64 (s1.cl nb).1) := c0
          replace c1 : wc.cell? ⟨g2, nb * 2 + 1, none⟩ = some (.int .u64 (s1.cl nb).2) := c1
          replace k2 : wc.cell? ⟨M, 2, none⟩ = some (.slice (some ⟨g2, 0, none⟩) s1.C.length cap2) := k2
          unfold maxLen at hm2
          replace hm2 : s1.C.length ≤ 9223372036854775807 := hm2
          have hil : (nb : Int) < (s1.C.length : Int) := by have := HNl.out; omega
          have hwf := wf_rest hc9 s1.H
          obtain ⟨q1, q2⟩ := hc9.lt
          obtain ⟨q3, q4⟩ := hH9.lt
          obtain ⟨C1, hC1⟩ : ∃ q, (s1.cl nb).1 = q := ⟨_, rfl⟩
          obtain ⟨C2, hC2⟩ : ∃ q, (s1.cl nb).2 = q := ⟨_, rfl⟩
          obtain ⟨H1, hH1⟩ : ∃ q, s1.H.1 = q := ⟨_, rfl⟩
          obtain ⟨H2, hH2⟩ : ∃ q, s1.H.2 = q := ⟨_, rfl⟩
          obtain ⟨R1, hR1⟩ : ∃ q, (restL (s1.cl nb) s1.H).1 = q := ⟨_, rfl⟩
          obtain ⟨R2, hR2⟩ : ∃ q, (restL (s1.cl nb) s1.H).2 = q := ⟨_, rfl⟩
          rw [hC1] at c0 q1
          rw [hC2] at c1 q2
          rw [hH1] at k5 q3
          rw [hH2] at k6 q4
          obtain ⟨bm, hbm⟩ : ∃ q, meetL (s1.cl nb) s1.H = q := ⟨_, rfl⟩
          have HM : Hid (∀ w : World, Calls Tryd.prog 49 #[.agg #[.int .u64 C1, .int .u64 C2], .agg #[.int .u64 H1, .int .u64 H2]] w fun e w' => e = .returned (.bool bm) ∧ Below w.heap.size w w') := hid (fun w => by
            have := meets_impl C1 C2 H1 H2 w q1 q2 q3 q4
            rw [← hbm]
            unfold meetL
            rw [hC1, hC2, hH1, hH2]
            exact this)
          have HTu : Hid (∀ w : World, Calls Tryd.prog 34 #[.agg #[.int .u64 H1, .int .u64 H2]] w fun e w' => e = .returned (.agg #[.int .u64 H2, .int .u64 H1]) ∧ Below w.heap.size w w') := hid (fun w => turned_impl H1 H2 w)
          have HWo : Hid (∀ w : World, Calls Tryd.prog 55 #[.agg #[.int .u64 C1, .int .u64 C2], .agg #[.int .u64 H2, .int .u64 H1]] w fun e w' => e = .returned (.agg #[.int .u64 R1, .int .u64 R2]) ∧ Below w.heap.size w w') := hid (fun w => by
            have := without_impl C1 C2 H2 H1 w q1 q2 q4 q3
            have e1 : R1 = C1 &&& (18446744073709551615 - H2) := by rw [← hR1, ← hC1, ← hH2]; rfl
            have e2 : R2 = C2 &&& (18446744073709551615 - H1) := by rw [← hR2, ← hC2, ← hH1]; rfl
            rw [e1, e2]
            exact this)
          have HPt : Hid (bm = true → popS s1 nb D = { s1 with D := D }) := hid (fun e => by unfold popS; rw [hbm, e, if_pos rfl])
          have HUn : Hid (bm = false → ∃ xu, xu = xu ∧ Hid (popS s1 nb D = holdS { s1 with D := D } xu nb) ∧ Hid (∀ W : World, Below wc.heap.size wc W → Calls Tryd.prog 44 #[.pointer (some ⟨M, 0, none⟩), .int .i64 xu, .int .i64 nb] W fun e w' => e = .returned (.tuple #[]) ∧ ∃ F' V', Sol 0 M mb F' V' (holdS { s1 with D := D } xu nb) w' ∧ V' 0 = nilV ∧ Chg M mb (blk 0 Fq V) (blk 0 F' V') W w' ∧ F' 2 = Fq 2) ∧ Hid (∀ w : World, Tab w → Calls Tryd.prog 48 #[.agg #[.int .u64 R1, .int .u64 R2]] w fun e w' => e = .returned (.int .i64 xu) ∧ Below w.heap.size w w')) := hid (fun e => by
            have hnm : ¬ meetL (s1.cl nb) s1.H = true := by rw [hbm, e]; decide
            obtain ⟨x, ex, h1, h2, h3, h4, h5, h6⟩ := unit_of HFj.out HF.out HD.out hnm
            refine ⟨x, rfl, hid (by unfold popS; rw [if_neg hnm, ex]), hid (fun W hb => ?_), hid (fun w ht => ?_)⟩
            · refine hold_impl M mb Fq V { s1 with D := D } W (HSq.out.below hb) HV0.out x nb (okay_pop HFj.out.ok HD.out) (fun j hj => ?_) h2 h3 ⟨h5, h6⟩ ⟨by omega, by have := HNl.out; omega⟩ hl (by have := HTj.out; show s1.T.length ≤ _; omega)
              by_cases ej : j = nb
              · subst ej; exact .inr h4
              · exact .inl (pop_st HFj.out HD.out hj ej)
            · have := first_impl (restL (s1.cl nb) s1.H) w hwf ht
              rw [ex, hR1, hR2] at this
              exact this)
          have HKx : Hid (∀ w8 : World, Below (wc.alloc (.cells #[.int .u64 C1, .int .u64 C2] 51)).heap.size (wc.alloc (.cells #[.int .u64 C1, .int .u64 C2] 51)) w8 → w8.cell? ⟨wc.heap.size, 0, none⟩ = some (.int .u64 C1) ∧ w8.cell? ⟨wc.heap.size, 1, none⟩ = some (.int .u64 C2) ∧ w8.cell? ⟨M, 5, none⟩ = some (.int .u64 H1) ∧ w8.cell? ⟨M, 6, none⟩ = some (.int .u64 H2)) := hid (fun w8 hb => by
            have hb0 : Below wc.heap.size wc w8 := (show Below wc.heap.size wc _ from (by repeat (first | exact Below.refl _ _ | assumption | refine Below.drew ?_ | refine Below.alloc ?_ (by first | exact Nat.le_refl _ | omega | (simp; done) | (simp; omega)) _ | refine Below.setCell ?_ (by first | exact Nat.le_refl _ | omega | (simp; done) | (simp; omega)) _))).trans (hb.mono (by simp))
            exact ⟨keep hb (by simp [go_sem]), keep hb (by simp [go_sem]), keep hb0 k5, keep hb0 k6⟩)
          obtain ⟨CL, hCL⟩ : ∃ q, s1.C.length = q := ⟨_, rfl⟩
          rw [hCL] at k2 hm2 hil hl
          clear hSq hCq hF2 hc9 hH9 hwf q1 q2 q3 q4 hC1 hC2 hH1 hH2 hR1 hR2 hbm hCL k9 k10 f9 hcell dF
          go_wp2_with fail
          refine region_calm (fun uc => ⟨#[.pointer (some ⟨M, 0, none⟩), undef, .int .i64 (nb : Int), .pointer (some ⟨wc.heap.size, 0, none⟩), .pointer (some ⟨M, 0, none⟩), .pointer (some ⟨M, 0, none⟩), .pointer (some ⟨M, 10, none⟩), .int .i64 f, .bool true, .bool true, .pointer (some ⟨M, 0, none⟩), .pointer (some ⟨M, 0, none⟩), .pointer (some ⟨M, 9, none⟩), .slice (some ⟨g, off, none⟩) (D.length + 1) cap, .int .i64 (D.length + 1), .bool true, .bool true, .pointer (some ⟨M, 0, none⟩), .pointer (some ⟨M, 0, none⟩), .pointer (some ⟨M, 9, none⟩), .slice (some ⟨g, off, none⟩) (D.length + 1) cap, .pointer (some ⟨g, off, none⟩), .int .i64 (nb : Int), u23, u24, u25, u26, u27, u28, u29, u30, .pointer (some ⟨M, 0, none⟩), .pointer (some ⟨M, 0, none⟩), .pointer (some ⟨M, 2, none⟩), .slice (some ⟨g2, 0, none⟩) CL cap2, .int .i64 (nb : Int), .pointer (some ⟨g2, nb * 2, none⟩), .agg #[.int .u64 C1, .int .u64 C2], uc 38, uc 39, uc 40, uc 41, uc 42, uc 43, uc 44, u45, u46, u47, u48, u49, u50, u51, u52, u53, u54, u55], []⟩) (fun i => [38, 39, 40, 41, 42, 43, 44].getD i 0) (fun i v w8 => match i with | 0 => v = .agg #[.int .u64 C1, .int .u64 C2] | 1 => v = .pointer (some ⟨M, 0, none⟩) | 2 => v = .pointer (some ⟨M, 0, none⟩) | 3 => v = .pointer (some ⟨M, 5, none⟩) | 4 => v = .agg #[.int .u64 H1, .int .u64 H2] | 5 => v = .bool bm | 6 => v = .bool (!bm) | _ => True) (wc.alloc (.cells #[.int .u64 C1, .int .u64 C2] 51)) 7 (fun k => match k with | 38 => u38 | 39 => u39 | 40 => u40 | 41 => u41 | 42 => u42 | 43 => u43 | 44 => u44 | _ => undef) (by rfl) (by kernel_rfl) (by rfl) (by kernel_rfl) (Below.refl _ _) ?hput ?hinj ?stable ?step ?fin
          case hput =>
            intro i hi uc v
            match i, hi with
            | 0, _ => rfl
            | 1, _ => rfl
            | 2, _ => rfl
            | 3, _ => rfl
            | 4, _ => rfl
            | 5, _ => rfl
            | 6, _ => rfl
            | i + 7, hi => exact absurd hi (by omega)
          case hinj =>
            intro i j hi hj h
            exact slots_inj [38, 39, 40, 41, 42, 43, 44] (by decide) hi hj h
          case stable =>
            intro i v w8 w9 hb h
            match i, hb, h with
            | 0, hb, h => exact h
            | 1, hb, h => exact h
            | 2, hb, h => exact h
            | 3, hb, h => exact h
            | 4, hb, h => exact h
            | 5, hb, h => exact h
            | 6, hb, h => exact h
            | _ + 7, hb, h => trivial
          case step =>
            intro i hi uc w8 S8 hdep
            match i, hi, hdep with
            | 0, _, hdep =>
              clear hdep
              refine ⟨_, rfl, fun K' hK => ?_⟩
              obtain ⟨y0, y1, y2, y3⟩ := HKx.out w8 S8
              go_simp
              exact hK.out _ _ (Below.refl _ _) rfl
            | 1, _, hdep =>
              clear hdep
              refine ⟨_, rfl, fun K' hK => ?_⟩
              go_simp
              exact hK.out _ _ (Below.refl _ _) rfl
            | 2, _, hdep =>
              have h1 : (uc 39) = .pointer (some ⟨M, 0, none⟩) := hdep 1 (by kernel_rfl)
              clear hdep
              refine ⟨_, rfl, fun K' hK => ?_⟩
              simp only [h1] at hK ⊢
              go_simp
              exact hK.out _ _ (Below.refl _ _) rfl
            | 3, _, hdep =>
              have h2 : (uc 40) = .pointer (some ⟨M, 0, none⟩) := hdep 2 (by kernel_rfl)
              clear hdep
              refine ⟨_, rfl, fun K' hK => ?_⟩
              simp only [h2] at hK ⊢
              go_simp
              exact hK.out _ _ (Below.refl _ _) rfl
            | 4, _, hdep =>
              have h3 : (uc 41) = .pointer (some ⟨M, 5, none⟩) := hdep 3 (by kernel_rfl)
              clear hdep
              refine ⟨_, rfl, fun K' hK => ?_⟩
              obtain ⟨y0, y1, y2, y3⟩ := HKx.out w8 S8
              simp only [h3] at hK ⊢
              go_simp
              exact hK.out _ _ (Below.refl _ _) rfl
            | 5, _, hdep =>
              have h0 : (uc 38) = .agg #[.int .u64 C1, .int .u64 C2] := hdep 0 (by kernel_rfl)
              have h4 : (uc 42) = .agg #[.int .u64 H1, .int .u64 H2] := hdep 4 (by kernel_rfl)
              clear hdep
              refine ⟨_, rfl, fun K' hK => ?_⟩
              simp only [h0, h4] at hK ⊢
              go_simp
              refine (HM.out _).mono ?_
              rintro e w9 ⟨rfl, hb9⟩
              exact hK.out _ _ hb9 rfl
            | 6, _, hdep =>
              have h5 : (uc 43) = .bool bm := hdep 5 (by kernel_rfl)
              clear hdep
              refine ⟨_, rfl, fun K' hK => ?_⟩
              simp only [h5] at hK ⊢
              go_simp
              exact hK.out _ _ (Below.refl _ _) rfl
            | i + 7, hi, _ => exact absurd hi (by omega)
          case fin =>
            intro uc w1 S8 hall
            have h6 : (uc 44) = .bool (!bm) := hall 6 (by decide)
            clear hall
            have HB1 := hid S8
            obtain ⟨y0, y1, y2, y3⟩ := HKx.out w1 S8
            have HBa : Hid (Below wc.heap.size wc w1) := hid ((show Below wc.heap.size wc _ from (by repeat (first | exact Below.refl _ _ | assumption | refine Below.drew ?_ | refine Below.alloc ?_ (by first | exact Nat.le_refl _ | omega | (simp; done) | (simp; omega)) _ | refine Below.setCell ?_ (by first | exact Nat.le_refl _ | omega | (simp; done) | (simp; omega)) _))).trans (S8.mono (by simp)))
            clear S8
            rw [h6]
            clear h6
            cases bm with
            | true =>
              go_wp2_with fail
              go_roundg (meas (popS s1 nb D))
              case measure => exact HLsg.out
              case rel => exact ⟨_, V, popS s1 nb D, by rw [show popS s1 nb D = { s1 with D := D } from (by simpa using HPt.out)]; exact HSq.out.below HBa.out, HV0.out, HCj.out.trans (HCq.out.trans (Chg.below HBa.out)), HFp.out, Nat.le_refl _, fun k hk => by rw [← HPF.out k (by have := HLs.out; omega)], HTl.out, HFq.out⟩
            | false =>
              obtain ⟨xu, hxu, HPo, HHo, HFi⟩ := HUn.out rfl
              go_wp2_with fail
              refine region_below (fun ud => ⟨#[.pointer (some ⟨M, 0, none⟩), undef, .int .i64 (nb : Int), .pointer (some ⟨wc.heap.size, 0, none⟩), .pointer (some ⟨M, 0, none⟩), .pointer (some ⟨M, 0, none⟩), .pointer (some ⟨M, 10, none⟩), .int .i64 f, .bool true, .bool true, .pointer (some ⟨M, 0, none⟩), .pointer (some ⟨M, 0, none⟩), .pointer (some ⟨M, 9, none⟩), .slice (some ⟨g, off, none⟩) (D.length + 1) cap, .int .i64 (D.length + 1), .bool true, .bool true, .pointer (some ⟨M, 0, none⟩), .pointer (some ⟨M, 0, none⟩), .pointer (some ⟨M, 9, none⟩), .slice (some ⟨g, off, none⟩) (D.length + 1) cap, .pointer (some ⟨g, off, none⟩), .int .i64 (nb : Int), u23, u24, u25, u26, u27, u28, u29, u30, .pointer (some ⟨M, 0, none⟩), .pointer (some ⟨M, 0, none⟩), .pointer (some ⟨M, 2, none⟩), .slice (some ⟨g2, 0, none⟩) CL cap2, .int .i64 (nb : Int), .pointer (some ⟨g2, nb * 2, none⟩), .agg #[.int .u64 C1, .int .u64 C2], uc 38, uc 39, uc 40, uc 41, uc 42, uc 43, .bool true, ud 45, ud 46, ud 47, ud 48, ud 49, ud 50, ud 51, ud 52, ud 53, ud 54, u55], []⟩) (fun i => [45, 46, 47, 48, 49, 50, 51, 52, 53, 54].getD i 0) (fun i v w8 => match i with | 0 => v = .pointer (some ⟨M, 0, none⟩) | 1 => v = .agg #[.int .u64 C1, .int .u64 C2] | 2 => v = .pointer (some ⟨M, 0, none⟩) | 3 => v = .pointer (some ⟨M, 0, none⟩) | 4 => v = .pointer (some ⟨M, 5, none⟩) | 5 => v = .agg #[.int .u64 H1, .int .u64 H2] | 6 => v = .agg #[.int .u64 H2, .int .u64 H1] | 7 => v = .agg #[.int .u64 R1, .int .u64 R2] | 8 => v = .int .i64 xu | 9 => v = .int .i64 (nb : Int) | _ => True) w1 10 (fun k => match k with | 45 => u45 | 46 => u46 | 47 => u47 | 48 => u48 | 49 => u49 | 50 => u50 | 51 => u51 | 52 => u52 | 53 => u53 | 54 => u54 | _ => undef) (by rfl) (by kernel_rfl) (by rfl) ⟨by kernel_rfl, by kernel_rfl, by kernel_rfl, by decide⟩ (by kernel_rfl) (Below.refl _ _) ?hput ?hinj ?stable ?step ?last
              case hput =>
                intro i hi ud v
                match i, hi with
                | 0, _ => rfl
                | 1, _ => rfl
                | 2, _ => rfl
                | 3, _ => rfl
                | 4, _ => rfl
                | 5, _ => rfl
                | 6, _ => rfl
                | 7, _ => rfl
                | 8, _ => rfl
                | 9, _ => rfl
                | i + 10, hi => exact absurd hi (by omega)
              case hinj =>
                intro i j hi hj h
                exact slots_inj [45, 46, 47, 48, 49, 50, 51, 52, 53, 54] (by decide) hi hj h
              case stable =>
                intro i v w8 w9 hb h
                match i, h with
                | 0, h => exact h
                | 1, h => exact h
                | 2, h => exact h
                | 3, h => exact h
                | 4, h => exact h
                | 5, h => exact h
                | 6, h => exact h
                | 7, h => exact h
                | 8, h => exact h
                | 9, h => exact h
                | _ + 10, h => trivial
              case step =>
                intro i hi ud w8 S8 hdep
                match i, hi with
                | 0, _ =>
                  clear hdep
                  refine ⟨_, rfl, fun K' hK => ?_⟩
                  go_simp
                  exact hK.out _ _ (Below.refl _ _) rfl
                | 1, _ =>
                  clear hdep
                  refine ⟨_, rfl, fun K' hK => ?_⟩
                  obtain ⟨y0, y1, y2, y3⟩ := HKx.out w8 (HB1.out.trans (S8.mono HB1.out.size))
                  go_simp
                  exact hK.out _ _ (Below.refl _ _) rfl
                | 2, _ =>
                  clear hdep
                  refine ⟨_, rfl, fun K' hK => ?_⟩
                  go_simp
                  exact hK.out _ _ (Below.refl _ _) rfl
                | 3, _ =>
                  have h2 : (ud 47) = .pointer (some ⟨M, 0, none⟩) := hdep 2 (by kernel_rfl)
                  clear hdep
                  refine ⟨_, rfl, fun K' hK => ?_⟩
                  simp only [h2] at hK ⊢
                  go_simp
                  exact hK.out _ _ (Below.refl _ _) rfl
                | 4, _ =>
                  have h3 : (ud 48) = .pointer (some ⟨M, 0, none⟩) := hdep 3 (by kernel_rfl)
                  clear hdep
                  refine ⟨_, rfl, fun K' hK => ?_⟩
                  simp only [h3] at hK ⊢
                  go_simp
                  exact hK.out _ _ (Below.refl _ _) rfl
                | 5, _ =>
                  have h4 : (ud 49) = .pointer (some ⟨M, 5, none⟩) := hdep 4 (by kernel_rfl)
                  clear hdep
                  refine ⟨_, rfl, fun K' hK => ?_⟩
                  obtain ⟨y0, y1, y2, y3⟩ := HKx.out w8 (HB1.out.trans (S8.mono HB1.out.size))
                  simp only [h4] at hK ⊢
                  go_simp
                  exact hK.out _ _ (Below.refl _ _) rfl
                | 6, _ =>
                  have h5 : (ud 50) = .agg #[.int .u64 H1, .int .u64 H2] := hdep 5 (by kernel_rfl)
                  clear hdep
                  refine ⟨_, rfl, fun K' hK => ?_⟩
                  simp only [h5] at hK ⊢
                  go_simp
                  refine (HTu.out _).mono ?_
                  rintro e w9 ⟨rfl, hb9⟩
                  exact hK.out _ _ hb9 rfl
                | 7, _ =>
                  have h1 : (ud 46) = .agg #[.int .u64 C1, .int .u64 C2] := hdep 1 (by kernel_rfl)
                  have h6 : (ud 51) = .agg #[.int .u64 H2, .int .u64 H1] := hdep 6 (by kernel_rfl)
                  clear hdep
                  refine ⟨_, rfl, fun K' hK => ?_⟩
                  simp only [h1, h6] at hK ⊢
                  go_simp
                  refine (HWo.out _).mono ?_
                  rintro e w9 ⟨rfl, hb9⟩
                  exact hK.out _ _ hb9 rfl
                | 8, _ =>
                  have h7 : (ud 52) = .agg #[.int .u64 R1, .int .u64 R2] := hdep 7 (by kernel_rfl)
                  clear hdep
                  refine ⟨_, rfl, fun K' hK => ?_⟩
                  simp only [h7] at hK ⊢
                  go_simp
                  refine (HFi.out _ (tab_below HT.out (HBa.out.trans (S8.mono HBa.out.size)))).mono ?_
                  rintro e w9 ⟨rfl, hb9⟩
                  exact hK.out _ _ hb9 rfl
                | 9, _ =>
                  clear hdep
                  refine ⟨_, rfl, fun K' hK => ?_⟩
                  go_simp
                  exact hK.out _ _ (Below.refl _ _) rfl
                | i + 10, hi => exact absurd hi (by omega)
              case last =>
                intro ud w8 S8 hall
                have h0 : (ud 45) = .pointer (some ⟨M, 0, none⟩) := hall 0 (by decide)
                have h8 : (ud 53) = .int .i64 xu := hall 8 (by decide)
                have h9 : (ud 54) = .int .i64 (nb : Int) := hall 9 (by decide)
                clear hall
                refine ⟨_, rfl, fun K' hK => ?_⟩
                simp only [h0, h8, h9] at hK ⊢
                go_simp
                refine (HHo.out w8 (HBa.out.trans (S8.mono HBa.out.size))).mono ?_
                rintro e9 w9 ⟨rfl, F', V', q1, qv, q2, qf⟩
                have HFy := hid (qf.trans HFq.out)
                clear qf
                refine hK.out _ _ ?_
                have HQ1 := hid q1
                have HQ2 := hid ((Chg.below (HBa.out.trans (S8.mono HBa.out.size))).trans q2)
                have HQv := hid qv
                clear q1 q2 qv S8 h0 h8 h9
                go_wp2_with fail
                go_roundg (meas (popS s1 nb D))
                case measure => exact HLsg.out
                case rel => exact ⟨F', V', popS s1 nb D, by rw [HPo.out]; exact HQ1.out, HQv.out, HCj.out.trans (HCq.out.trans HQ2.out), HFp.out, Nat.le_refl _, fun k hk => by rw [← HPF.out k (by have := HLs.out; omega)], HTl.out, HFy.out⟩
    · have dF : (s1.F == -1) = false := by simp [hF]
      have HE : Hid (R = s1) := hid (by rw [← HPk.out (meas s1 + 1) (Nat.lt_succ_self _)]; exact propF_end (.inl hF))
      obtain ⟨f, hf9⟩ : ∃ f, s1.F = f := ⟨_, rfl⟩
      rw [hf9] at k10 dF
      clear hS hv hC hfu hPk ht hF hf9
      go_wp2
      go_end0
      exact ⟨rfl, Fj, V, by rw [HE.out]; exact HSj.out.below (by repeat (first | exact Below.refl _ _ | assumption | refine netSem.bdn ?_ _ | refine Below.drew ?_ | refine Below.alloc ?_ (by first | exact Nat.le_refl _ | omega | (simp; done) | (simp; omega)) _)), HV0.out, HCj.out.trans (Chg.below (by repeat (first | exact Below.refl _ _ | assumption | refine netSem.bdn ?_ _ | refine Below.drew ?_ | refine Below.alloc ?_ (by first | exact Nat.le_refl _ | omega | (simp; done) | (simp; omega)) _))), HF2.out⟩
end Go.Proofs.YtbahjpheaaiamaaDoor.solPropI
