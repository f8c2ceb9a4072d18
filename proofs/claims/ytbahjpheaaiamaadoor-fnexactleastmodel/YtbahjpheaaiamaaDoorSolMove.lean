/- A solver of the program: a clause whose watched literal has become false watches another one, or is due, or has failed (moveWatch); conditions: literals of its variables, lengths that fit. -/
import Derived.Test.YtbahjpheaaiamaaDoorSolWatch
import Derived.Deep.RegionWith
import Derived.Deep.CutBlock
import Derived.Test.YtbahjpheaaiamaaDoorPart13
namespace Go.Proofs.YtbahjpheaaiamaaDoor.solMove
open Go.RowKit Go.Deep Go.Maps Go base sets setsOf solSets solOps solMath solHold solMem solFail solDue solExpect solPush heldStore drawn drawnLin drawnMk drawnApp stepAppend
set_option linter.unusedVariables false
set_option linter.unusedSimpArgs false
set_option pp.deepTerms true
set_option pp.maxSteps 10000000

theorem ls_eq {a : LS} {p o : Nat} (h1 : a.1 = p) (h2 : a.2 = o) : a = (p, o) := Prod.ext h1 h2
set_option maxHeartbeats 6400000 in
set_option maxRecDepth 8000 in
theorem move_impl (z : Int) (M mb : Nat) (F : Nat → Value) (V : Int → Value) (s : Sv) (w : World) (h : Sol z M mb F V s w) (hz : z ≤ 40) (nb : Nat) (x : Int) (hx : -40 ≤ x ∧ x ≤ 40) (hi : nb < s.C.length) (hlen : s.W.length = s.C.length) (hl : s.C.length ≤ 8400000000000) (hc : Wf (s.cl nb)) (hH : Wf s.H)
    (hst : -40 ≤ stay s nb x ∧ stay s nb x ≤ 40) (hstw : restL (s.cl nb) s.H ≠ (0, 0) → meetL (s.cl nb) s.H = false → stay s nb x ≠ 0) (hto : meetL (s.cl nb) s.H = false → restL (s.cl nb) s.H ≠ (0, 0) → restL (s.cl nb) s.H ≠ onlyL (stay s nb x) → toL s nb x ≠ z ∧ toL s nb x ≠ 0)
    (hF : -1 ≤ s.F ∧ s.F ≤ 8400000000000) (hD : s.D.length ≤ 8400000000000) (hDs : s.D.Pairwise (· < ·)) (hL : ∀ q, q ≠ 0 → q ≠ z → (s.L q).length ≤ 8200000000000) :
    Calls Tryd.prog 64 #[.pointer (some ⟨M, 0, none⟩), .int .i64 nb, .int .i64 x] w fun e w' => e = .returned (.bool (mv s nb x).2) ∧ ∃ F' V', Sol z M mb F' V' (mv s nb x).1 w' ∧ Chg M mb (blk z F V) (blk z F' V') w w' ∧ F' 2 = F 2 := by
  obtain ⟨g, cap, hF2, hm2, c0, c1⟩ := Sol.clause h hz hi
  obtain ⟨g3, cap3, hF3, hm3, d0, d1, dfz⟩ := Sol.watch h hz (i := nb) (by omega)
  have k2 := h.cell (i := 2) (by omega)
  rw [hF2] at k2
  have k3 := h.cell (i := 3) (by omega)
  rw [hF3] at k3
  have k5 := h.cell (i := 5) (by omega)
  have k6 := h.cell (i := 6) (by omega)
  rw [h.f5] at k5
  rw [h.f6] at k6
  unfold maxLen at hm2 hm3
  have hMl := h.lt.1
  have HS := hid h
  have HT := hid h.tab
  have hil : (nb : Int) < (s.C.length : Int) := by omega
  have hil3 : (nb : Int) < (s.W.length : Int) := by omega
  have hwf := wf_rest hc s.H
  obtain ⟨r1, r2⟩ := hwf.lt
  obtain ⟨C1, hC1⟩ : ∃ q, (s.cl nb).1 = q := ⟨_, rfl⟩
  obtain ⟨C2, hC2⟩ : ∃ q, (s.cl nb).2 = q := ⟨_, rfl⟩
  obtain ⟨H1, hH1⟩ : ∃ q, s.H.1 = q := ⟨_, rfl⟩
  obtain ⟨H2, hH2⟩ : ∃ q, s.H.2 = q := ⟨_, rfl⟩
  obtain ⟨R1, hR1⟩ : ∃ q, (restL (s.cl nb) s.H).1 = q := ⟨_, rfl⟩
  obtain ⟨R2, hR2⟩ : ∃ q, (restL (s.cl nb) s.H).2 = q := ⟨_, rfl⟩
  obtain ⟨sy, hsy⟩ : ∃ q, stay s nb x = q := ⟨_, rfl⟩
  obtain ⟨ty, hty⟩ : ∃ q, toL s nb x = q := ⟨_, rfl⟩
  obtain ⟨a0, ha0⟩ : ∃ q, (s.wt nb).1 = q := ⟨_, rfl⟩
  obtain ⟨a1, ha1⟩ : ∃ q, (s.wt nb).2 = q := ⟨_, rfl⟩
  rw [hC1] at c0
  rw [hC2] at c1
  rw [hH1] at k5
  rw [hH2] at k6
  rw [ha0] at d0
  rw [ha1] at d1
  obtain ⟨q1, q2⟩ := hc.lt
  obtain ⟨q3, q4⟩ := hH.lt
  rw [hC1] at q1
  rw [hC2] at q2
  rw [hH1] at q3
  rw [hH2] at q4
  rw [hR1] at r1
  rw [hR2] at r2
  have HRe : Hid (restL (s.cl nb) s.H = (R1, R2)) := hid (ls_eq hR1 hR2)
  obtain ⟨bm, hbm⟩ : ∃ q, meetL (s.cl nb) s.H = q := ⟨_, rfl⟩
  have HM : Hid (∀ w : World, Calls Tryd.prog 49 #[.agg #[.int .u64 C1, .int .u64 C2], .agg #[.int .u64 H1, .int .u64 H2]] w fun e w' => e = .returned (.bool bm) ∧ Below w.heap.size w w') := hid (fun w => by
    have := meets_impl C1 C2 H1 H2 w q1 q2 q3 q4
    rw [← hbm]
    unfold meetL
    rw [hC1, hC2, hH1, hH2]
    exact this)
  have HTu : Hid (∀ w : World, Calls Tryd.prog 34 #[.agg #[.int .u64 H1, .int .u64 H2]] w fun e w' => e = .returned (.agg #[.int .u64 H2, .int .u64 H1]) ∧ Below w.heap.size w w') := hid (fun w => turned_impl H1 H2 w)
  have HWo : Hid (∀ w : World, Calls Tryd.prog 55 #[.agg #[.int .u64 C1, .int .u64 C2], .agg #[.int .u64 H2, .int .u64 H1]] w fun e w' => e = .returned (.agg #[.int .u64 R1, .int .u64 R2]) ∧ Below w.heap.size w w') := hid (fun w => by
    have := without_impl C1 C2 H2 H1 w q1 q2 q4 q3
    have e1 : R1 = C1 &&& (18446744073709551615 - H2) := by rw [← hR1, ← hC1, ← hH2]; rfl
    have e2 : R2 = C2 &&& (18446744073709551615 - H1) := by rw [← hR2, ← hC2, ← hH1]; rfl
    rw [e1, e2]
    exact this)
  rw [hsy] at hst
  have HOn : Hid (∀ w : World, Calls Tryd.prog 46 #[.int .i64 sy] w fun e w' => e = .returned (.agg #[.int .u64 (pBit sy), .int .u64 (oBit sy)]) ∧ Below w.heap.size w w') := hid (fun w => only_impl sy w hst.1 hst.2)
  have HW2 : Hid (sy ≠ 0 → ∀ w : World, Calls Tryd.prog 55 #[.agg #[.int .u64 R1, .int .u64 R2], .agg #[.int .u64 (pBit sy), .int .u64 (oBit sy)]] w fun e w' => e = .returned (.agg #[.int .u64 (woL (restL (s.cl nb) s.H) (onlyL sy)).1, .int .u64 (woL (restL (s.cl nb) s.H) (onlyL sy)).2]) ∧ Below w.heap.size w w') := hid (fun hs w => by
    have hw := (wf_only hs hst.1 hst.2).lt
    have := without_impl R1 R2 (pBit sy) (oBit sy) w r1 r2 hw.1 hw.2
    unfold woL onlyL
    rw [hR1, hR2]
    exact this)
  have HFi : Hid (∀ w : World, Tab w → Calls Tryd.prog 48 #[.agg #[.int .u64 (woL (restL (s.cl nb) s.H) (onlyL sy)).1, .int .u64 (woL (restL (s.cl nb) s.H) (onlyL sy)).2]] w fun e w' => e = .returned (.int .i64 ty) ∧ Below w.heap.size w w') := hid (fun w ht => by
    have := first_impl (woL (restL (s.cl nb) s.H) (onlyL sy)) w (wf_wo hwf _) ht
    have e : firstL (woL (restL (s.cl nb) s.H) (onlyL sy)) = ty := by rw [← hty, ← hsy]; rfl
    rw [e] at this
    exact this)
  obtain ⟨N1, hN1⟩ : ∃ q, (woL (restL (s.cl nb) s.H) (onlyL sy)).1 = q := ⟨_, rfl⟩
  obtain ⟨N2, hN2⟩ : ∃ q, (woL (restL (s.cl nb) s.H) (onlyL sy)).2 = q := ⟨_, rfl⟩
  rw [hN1, hN2] at HW2 HFi
  have HTy : Hid (meetL (s.cl nb) s.H = false → restL (s.cl nb) s.H ≠ (0, 0) → restL (s.cl nb) s.H ≠ onlyL sy → ty ≠ z ∧ ty ≠ 0 ∧ -40 ≤ ty ∧ ty ≤ 40) := hid (fun e1 e2 e3 => by
    rw [← hsy] at e3
    obtain ⟨h1, h2⟩ := hto e1 e2 e3
    rw [hty] at h1 h2
    refine ⟨h1, h2, ?_⟩
    have hne : woL (restL (s.cl nb) s.H) (onlyL (stay s nb x)) ≠ (0, 0) := fun e => h2 (by rw [← hty]; unfold toL; exact (first_zero (wf_wo hwf _)).2 e)
    have := (wf_wo hwf _).range (first_spec (wf_wo hwf _) hne).1
    rw [← hty]
    exact this.2)
  have HSw : Hid (restL (s.cl nb) s.H ≠ (0, 0) → meetL (s.cl nb) s.H = false → sy ≠ 0) := hid (by rw [← hsy]; exact hstw)
  have HMv : Hid (mv s nb x = if bm = true then (s, false) else if (R1, R2) = (0, 0) then ({ s with F := failF s.F nb }, false) else if (R1, R2) = (pBit sy, oBit sy) then ({ s with D := insS nb s.D }, false) else ({ s with W := s.W.set nb (sy, ty), L := solMath.upd s.L ty (s.L ty ++ [nb]) }, true)) := hid (by
    unfold mv
    rw [hbm, HRe.out, hsy, hty]
    rfl)
  obtain ⟨P2, hP2⟩ : ∃ q, pBit sy = q := ⟨_, rfl⟩
  obtain ⟨O2, hO2⟩ : ∃ q, oBit sy = q := ⟨_, rfl⟩
  rw [hP2, hO2] at HOn HW2 HMv
  have HPO : Hid (onlyL sy = (P2, O2)) := hid (by unfold onlyL; rw [hP2, hO2])
  clear hP2 hO2
  obtain ⟨CL, hCL⟩ : ∃ q, s.C.length = q := ⟨_, rfl⟩
  obtain ⟨WL, hWL⟩ : ∃ q, s.W.length = q := ⟨_, rfl⟩
  have HBm := hid hbm
  have HSt : Hid (sy = if a0 = x then a1 else a0) := hid (by rw [← hsy, ← ha0, ← ha1]; rfl)
  have HF3 := hid hF3
  have HLe := hid hlen
  have HWi : Hid (nb < s.W.length) := hid (by omega)
  rw [hCL] at k2 hm2 hil hl
  rw [hWL] at k3 hm3 hil3
  have HWL := hid hWL
  have HLl := hid hL
  have HF := hid hF
  have HD := hid hD
  have HDs := hid hDs
  have HKx : Hid (∀ w8 : World, Below (w.alloc (.cells #[.int .u64 C1, .int .u64 C2] 51)).heap.size (w.alloc (.cells #[.int .u64 C1, .int .u64 C2] 51)) w8 → (w8.cell? ⟨w.heap.size, 0, none⟩ = some (.int .u64 C1) ∧ w8.cell? ⟨w.heap.size, 1, none⟩ = some (.int .u64 C2) ∧ w8.cell? ⟨M, 5, none⟩ = some (.int .u64 H1) ∧ w8.cell? ⟨M, 6, none⟩ = some (.int .u64 H2) ∧ w8.cell? ⟨M, 3, none⟩ = some (.slice (some ⟨g3, 0, none⟩) WL cap3) ∧ w8.cell? ⟨g3, nb * 2, none⟩ = some (.int .i64 a0) ∧ w8.cell? ⟨g3, nb * 2 + 1, none⟩ = some (.int .i64 a1)) ∧ Below w.heap.size w w8 ∧ w.heap.size < w8.heap.size) := hid (fun w8 hb => by
    have hb0 : Below w.heap.size w w8 := (show Below w.heap.size w _ from (by repeat (first | exact Below.refl _ _ | assumption | refine Below.drew ?_ | refine Below.alloc ?_ (by first | exact Nat.le_refl _ | omega | (simp; done) | (simp; omega)) _ | refine Below.setCell ?_ (by first | exact Nat.le_refl _ | omega | (simp; done) | (simp; omega)) _))).trans (hb.mono (by simp))
    exact ⟨⟨keep hb (by simp [go_sem]), keep hb (by simp [go_sem]), keep hb0 k5, keep hb0 k6, keep hb0 k3, keep hb0 d0, keep hb0 d1⟩, hb0, by have := hb.size; simp at this; omega⟩)
  have HFz : Hid (∀ w8 : World, Below w.heap.size w w8 → ∀ j, w8.frozen? ⟨g3, j, none⟩ = false) := hid (fun w8 hb j => (World.frozen?_of_block (a := ⟨g3, j, none⟩) (hb.block g3 (World.block_lt_of_cell? _ _ d0))).trans (dfz j))
  have HMx : Hid (∀ w8 : World, Below w.heap.size w w8 → w8.cell? ⟨M, 3, none⟩ = some (.slice (some ⟨g3, 0, none⟩) WL cap3) ∧ w8.cell? ⟨g3, nb * 2, none⟩ = some (.int .i64 a0) ∧ w8.cell? ⟨g3, nb * 2 + 1, none⟩ = some (.int .i64 a1)) := hid (fun w8 hb => ⟨keep hb k3, keep hb d0, keep hb d1⟩)
  obtain ⟨i0, hi9, hzz⟩ := Option.map_eq_some_iff.1 solPush.info_i
  simp only [Prod.mk.injEq] at hzz
  obtain ⟨hz0, hz1, hz2⟩ := hzz
  have HI := hid hi9
  have HZ0 := hid hz0
  have HZ1 := hid hz1
  have HZ2 := hid hz2
  clear hz0 hz1 hz2 hi9
  clear hbm h hF2 hF3 hc hH hwf hR1 hR2 hsy hty ha0 ha1 hst hstw hto hN1 hN2 hC1 hC2 hH1 hH2 hlen hCL hWL hL hF hD hDs q1 q2 q3 q4 dfz
  go_enter Tryd.func64, Tryd.ntmps64
  go_wp2
  refine region_calm (fun ub => ⟨#[.pointer (some ⟨M, 0, none⟩), .int .i64 (nb : Int), .int .i64 x, undef, undef, undef, .bool false, .pointer (some ⟨w.heap.size, 0, none⟩), undef, undef, undef, .pointer (some ⟨M, 0, none⟩), .pointer (some ⟨M, 0, none⟩), .pointer (some ⟨M, 2, none⟩), .slice (some ⟨g, 0, none⟩) CL cap, .int .i64 (nb : Int), .pointer (some ⟨g, nb * 2, none⟩), .agg #[.int .u64 C1, .int .u64 C2], ub 18, ub 19, ub 20, ub 21, ub 22, ub 23, undef, undef, undef, undef, undef, undef, undef, undef, undef, undef, undef, undef, undef, undef, undef, undef, undef, undef, undef, undef, undef, undef, undef, undef, undef, undef, undef, undef, undef, undef, undef, undef, undef, undef, undef, undef, undef, undef, undef, undef, undef, undef, undef, undef, undef, undef, undef, undef, undef, undef, undef, undef, undef, undef, undef, undef, undef, undef, undef, undef, undef, undef, undef, undef, undef, undef, undef, undef], []⟩) (fun i => [18, 19, 20, 21, 22, 23].getD i 0) (fun i v w8 => match i with | 0 => v = .agg #[.int .u64 C1, .int .u64 C2] | 1 => v = .pointer (some ⟨M, 0, none⟩) | 2 => v = .pointer (some ⟨M, 0, none⟩) | 3 => v = .pointer (some ⟨M, 5, none⟩) | 4 => v = .agg #[.int .u64 H1, .int .u64 H2] | 5 => v = .bool bm | _ => True) (w.alloc (.cells #[.int .u64 C1, .int .u64 C2] 51)) 6 (fun k => match k with | 18 => undef | 19 => undef | 20 => undef | 21 => undef | 22 => undef | 23 => undef | _ => undef) (by rfl) (by kernel_rfl) (by rfl) (by kernel_rfl) (Below.refl _ _) ?hput ?hinj ?stable ?step ?fin
  case hput =>
    intro i hi ub v
    match i, hi with
    | 0, _ => rfl
    | 1, _ => rfl
    | 2, _ => rfl
    | 3, _ => rfl
    | 4, _ => rfl
    | 5, _ => rfl
    | i + 6, hi => exact absurd hi (by omega)
  case hinj =>
    intro i j hi hj h
    exact slots_inj [18, 19, 20, 21, 22, 23] (by decide) hi hj h
  case stable =>
    intro i v w8 w9 hb h
    match i, hb, h with
    | 0, hb, h => exact h
    | 1, hb, h => exact h
    | 2, hb, h => exact h
    | 3, hb, h => exact h
    | 4, hb, h => exact h
    | 5, hb, h => exact h
    | _ + 6, hb, h => trivial
  case step =>
    intro i hi ub w8 S8 hdep
    match i, hi, hdep with
    | 0, _, hdep =>
      clear hdep
      refine ⟨_, rfl, fun K' hK => ?_⟩
      obtain ⟨⟨y0, y1, y2, y3, y4, y5, y6⟩, hB, hlt⟩ := HKx.out w8 S8
      go_simp
      exact hK.out _ _ (Below.refl _ _) rfl
    | 1, _, hdep =>
      clear hdep
      refine ⟨_, rfl, fun K' hK => ?_⟩
      go_simp
      exact hK.out _ _ (Below.refl _ _) rfl
    | 2, _, hdep =>
      have h1 : (ub 19) = .pointer (some ⟨M, 0, none⟩) := hdep 1 (by kernel_rfl)
      clear hdep
      refine ⟨_, rfl, fun K' hK => ?_⟩
      simp only [h1] at hK ⊢
      go_simp
      exact hK.out _ _ (Below.refl _ _) rfl
    | 3, _, hdep =>
      have h2 : (ub 20) = .pointer (some ⟨M, 0, none⟩) := hdep 2 (by kernel_rfl)
      clear hdep
      refine ⟨_, rfl, fun K' hK => ?_⟩
      simp only [h2] at hK ⊢
      go_simp
      exact hK.out _ _ (Below.refl _ _) rfl
    | 4, _, hdep =>
      have h3 : (ub 21) = .pointer (some ⟨M, 5, none⟩) := hdep 3 (by kernel_rfl)
      clear hdep
      refine ⟨_, rfl, fun K' hK => ?_⟩
      obtain ⟨⟨y0, y1, y2, y3, y4, y5, y6⟩, hB, hlt⟩ := HKx.out w8 S8
      simp only [h3] at hK ⊢
      go_simp
      exact hK.out _ _ (Below.refl _ _) rfl
    | 5, _, hdep =>
      have h0 : (ub 18) = .agg #[.int .u64 C1, .int .u64 C2] := hdep 0 (by kernel_rfl)
      have h4 : (ub 22) = .agg #[.int .u64 H1, .int .u64 H2] := hdep 4 (by kernel_rfl)
      clear hdep
      refine ⟨_, rfl, fun K' hK => ?_⟩
      simp only [h0, h4] at hK ⊢
      go_simp
      refine (HM.out _).mono ?_
      rintro e w9 ⟨rfl, hb9⟩
      exact hK.out _ _ hb9 rfl
    | i + 6, hi, _ => exact absurd hi (by omega)
  case fin =>
    intro ub w1 S8 hall
    have h5 : (ub 23) = .bool bm := hall 5 (by decide)
    clear hall
    have HB1 := hid S8
    obtain ⟨⟨y0, y1, y2, y3, y4, y5, y6⟩, hB, hlt⟩ := HKx.out w1 S8
    have HBa := hid hB
    clear S8 hB c0 c1 k2 k3 k5 k6 d0 d1 HM
    rw [h5]
    clear h5
    cases bm with
    | true =>
      go_wp2
      go_ret
      have e9 : mv s nb x = (s, false) := HMv.out
      rw [e9]
      exact ⟨rfl, F, V, HS.out.below HBa.out, Chg.below HBa.out, rfl⟩
    | false =>
      go_upto_if 34 with fail
      go_cut [8] from 35 to 42 (fun s8 wc => s8 = .int .i64 sy ∧ wc = w1)
      case first =>
        by_cases hax : a0 = x
        · have HSe : Hid (sy = a1) := hid (by rw [HSt.out, if_pos hax])
          have dax : (a0 == x) = true := by simp [hax]
          clear hax HSt
          go_wp2_with fail
          go_meet
          exact ⟨by rw [HSe.out], rfl⟩
        · have HSe : Hid (sy = a0) := hid (by rw [HSt.out, if_neg hax])
          have dax : (a0 == x) = false := by simp [hax]
          clear hax HSt
          go_wp2_with fail
          go_meet
          exact ⟨by rw [HSe.out], rfl⟩
      case rest =>
        obtain ⟨rfl, hwc⟩ := hcut
        have hwc := hwc.symm
        subst hwc
        go_wp2_with fail
        refine region_below (fun ua => ⟨#[.pointer (some ⟨M, 0, none⟩), .int .i64 (nb : Int), .int .i64 x, undef, undef, undef, .bool false, .pointer (some ⟨w.heap.size, 0, none⟩), .int .i64 sy, ua 9, undef, .pointer (some ⟨M, 0, none⟩), .pointer (some ⟨M, 0, none⟩), .pointer (some ⟨M, 2, none⟩), .slice (some ⟨g, 0, none⟩) CL cap, .int .i64 (nb : Int), .pointer (some ⟨g, nb * 2, none⟩), .agg #[.int .u64 C1, .int .u64 C2], ub 18, ub 19, ub 20, ub 21, ub 22, .bool false, .pointer (some ⟨M, 0, none⟩), .pointer (some ⟨M, 0, none⟩), .pointer (some ⟨M, 3, none⟩), .slice (some ⟨g3, 0, none⟩) WL cap3, .int .i64 (nb : Int), .pointer (some ⟨g3, nb * 2, none⟩), .pointer (some ⟨g3, nb * 2, none⟩), .int .i64 a0, .int .i64 a0, .int .i64 x, .bool (a0 == x), u35, u36, u37, u38, u39, u40, u41, u42, ua 43, ua 44, ua 45, ua 46, ua 47, ua 48, ua 49, undef, undef, undef, undef, undef, undef, undef, undef, undef, undef, undef, undef, undef, undef, undef, undef, undef, undef, undef, undef, undef, undef, undef, undef, undef, undef, undef, undef, undef, undef, undef, undef, undef, undef, undef, undef, undef, undef, undef, undef, undef, undef], []⟩) (fun i => [43, 44, 45, 46, 47, 48, 49, 9].getD i 0) (fun i v w8 => match i with | 0 => v = .agg #[.int .u64 C1, .int .u64 C2] | 1 => v = .pointer (some ⟨M, 0, none⟩) | 2 => v = .pointer (some ⟨M, 0, none⟩) | 3 => v = .pointer (some ⟨M, 5, none⟩) | 4 => v = .agg #[.int .u64 H1, .int .u64 H2] | 5 => v = .agg #[.int .u64 H2, .int .u64 H1] | 6 => v = .agg #[.int .u64 R1, .int .u64 R2] | 7 => ∃ N, v = .pointer (some ⟨N, 0, none⟩) ∧ w1.heap.size ≤ N ∧ SetAt w8 N 0 0 | _ => True) w1 8 (fun k => match k with | 43 => undef | 44 => undef | 45 => undef | 46 => undef | 47 => undef | 48 => undef | 49 => undef | 9 => undef | _ => undef) (by rfl) (by kernel_rfl) (by rfl) ⟨by kernel_rfl, by kernel_rfl, by kernel_rfl, by decide⟩ (by kernel_rfl) (Below.refl _ _) ?hput ?hinj ?stable ?step ?last
        case hput =>
          intro i hi ua v
          match i, hi with
          | 0, _ => rfl
          | 1, _ => rfl
          | 2, _ => rfl
          | 3, _ => rfl
          | 4, _ => rfl
          | 5, _ => rfl
          | 6, _ => rfl
          | 7, _ => rfl
          | i + 8, hi => exact absurd hi (by omega)
        case hinj =>
          intro i j hi hj h
          exact slots_inj [43, 44, 45, 46, 47, 48, 49, 9] (by decide) hi hj h
        case stable =>
          intro i v w8 w9 hb h
          match i, h with
          | 0, h => exact h
          | 1, h => exact h
          | 2, h => exact h
          | 3, h => exact h
          | 4, h => exact h
          | 5, h => exact h
          | 6, h => exact h
          | 7, h => (obtain ⟨N, e1, e2, e3⟩ := h; exact ⟨N, e1, e2, e3.below hb⟩)
          | _ + 8, h => trivial
        case step =>
          intro i hi ua w8 S8 hdep
          match i, hi with
          | 0, _ =>
            clear hdep
            refine ⟨_, rfl, fun K' hK => ?_⟩
            obtain ⟨⟨y0, y1, y2, y3, y4, y5, y6⟩, hB, hlt⟩ := HKx.out w8 (HB1.out.trans (S8.mono HB1.out.size))
            go_simp
            exact hK.out _ _ (Below.refl _ _) rfl
          | 1, _ =>
            clear hdep
            refine ⟨_, rfl, fun K' hK => ?_⟩
            go_simp
            exact hK.out _ _ (Below.refl _ _) rfl
          | 2, _ =>
            have h1 : (ua 44) = .pointer (some ⟨M, 0, none⟩) := hdep 1 (by kernel_rfl)
            clear hdep
            refine ⟨_, rfl, fun K' hK => ?_⟩
            simp only [h1] at hK ⊢
            go_simp
            exact hK.out _ _ (Below.refl _ _) rfl
          | 3, _ =>
            have h2 : (ua 45) = .pointer (some ⟨M, 0, none⟩) := hdep 2 (by kernel_rfl)
            clear hdep
            refine ⟨_, rfl, fun K' hK => ?_⟩
            simp only [h2] at hK ⊢
            go_simp
            exact hK.out _ _ (Below.refl _ _) rfl
          | 4, _ =>
            have h3 : (ua 46) = .pointer (some ⟨M, 5, none⟩) := hdep 3 (by kernel_rfl)
            clear hdep
            refine ⟨_, rfl, fun K' hK => ?_⟩
            obtain ⟨⟨y0, y1, y2, y3, y4, y5, y6⟩, hB, hlt⟩ := HKx.out w8 (HB1.out.trans (S8.mono HB1.out.size))
            simp only [h3] at hK ⊢
            go_simp
            exact hK.out _ _ (Below.refl _ _) rfl
          | 5, _ =>
            have h4 : (ua 47) = .agg #[.int .u64 H1, .int .u64 H2] := hdep 4 (by kernel_rfl)
            clear hdep
            refine ⟨_, rfl, fun K' hK => ?_⟩
            simp only [h4] at hK ⊢
            go_simp
            refine (HTu.out _).mono ?_
            rintro e w9 ⟨rfl, hb9⟩
            exact hK.out _ _ hb9 rfl
          | 6, _ =>
            have h0 : (ua 43) = .agg #[.int .u64 C1, .int .u64 C2] := hdep 0 (by kernel_rfl)
            have h5 : (ua 48) = .agg #[.int .u64 H2, .int .u64 H1] := hdep 5 (by kernel_rfl)
            clear hdep
            refine ⟨_, rfl, fun K' hK => ?_⟩
            simp only [h0, h5] at hK ⊢
            go_simp
            refine (HWo.out _).mono ?_
            rintro e w9 ⟨rfl, hb9⟩
            exact hK.out _ _ hb9 rfl
          | 7, _ =>
            clear hdep
            refine ⟨_, rfl, fun K' hK => ?_⟩
            go_simp
            exact hK.out _ _ (by repeat (first | exact Below.refl _ _ | assumption | refine Below.drew ?_ | refine Below.alloc ?_ (by first | exact Nat.le_refl _ | omega | (simp; done) | (simp; omega)) _ | refine Below.setCell ?_ (by first | exact Nat.le_refl _ | omega | (simp; done) | (simp; omega)) _)) ⟨w8.heap.size, rfl, S8.size, SetAt.new w8 0 0⟩
          | i + 8, hi => exact absurd hi (by omega)
        case last =>
          intro ua w8 S8 hall
          have h6 : (ua 49) = .agg #[.int .u64 R1, .int .u64 R2] := hall 6 (by decide)
          have h7 : ∃ N, (ua 9) = .pointer (some ⟨N, 0, none⟩) ∧ w1.heap.size ≤ N ∧ SetAt w8 N 0 0 := hall 7 (by decide)
          clear hall
          refine ⟨_, rfl, fun K' hK => ?_⟩
          obtain ⟨N, e7, hN, hs⟩ := h7
          obtain ⟨z0, z1, z2, z3⟩ := hs.facts
          simp only [e7, h6] at hK ⊢
          go_simp
          refine hK.out _ _ ?_
          have HN := hid (hs.put R1 R2)
          have HB8 : Hid (Below w1.heap.size w1 ((w8.setCell ⟨N, 0, none⟩ (.int .u64 R1)).setCell ⟨N, 1, none⟩ (.int .u64 R2))) := hid ((S8.setCell (by dsimp only; omega) _).setCell (by dsimp only; omega) _)
          clear hs z0 z1 z2 z3 S8 h6 e7
          generalize (w8.setCell ⟨N, 0, none⟩ (.int .u64 R1)).setCell ⟨N, 1, none⟩ (.int .u64 R2) = w3 at *
          obtain ⟨z0, z1, -, -⟩ := HN.out.facts
          have HB3 := hid (HB1.out.trans (HB8.out.mono HB1.out.size))
          clear y0 y1 y2 y3 y4 y5 y6 hlt
          obtain ⟨-, hB3, hlt3⟩ := HKx.out w3 HB3.out
          have HBw := hid hB3
          clear hB3
          go_upto_region 9 with fail
          go_cut [51] from 52 to 53 (fun s51 wc => s51 = .bool (decide (R1 = 0 ∧ R2 = 0)) ∧ wc = w3)
          case first =>
            have hRc : (R1 = 0 ∧ R2 = 0) ∨ ((R1 = 0 ∧ R2 ≠ 0) ∨ R1 ≠ 0) := by omega
            rcases hRc with ⟨hr1, hr2⟩ | ⟨hr1, hr2⟩ | hr1
            · have HD0 : Hid (decide (R1 = 0 ∧ R2 = 0) = true) := hid (decide_eq_true ⟨hr1, hr2⟩)
              subst hr1
              subst hr2
              go_wp2_with fail
              go_meet
              exact ⟨by rw [HD0.out], rfl⟩
            · have HD0 : Hid (decide (R1 = 0 ∧ R2 = 0) = false) := hid (decide_eq_false (fun h => hr2 h.2))
              subst hr1
              go_wp2_with fail
              go_meet
              exact ⟨by rw [HD0.out], rfl⟩
            · have HD0 : Hid (decide (R1 = 0 ∧ R2 = 0) = false) := hid (decide_eq_false (fun h => hr1 h.1))
              go_wp2_with fail
              go_meet
              exact ⟨by rw [HD0.out], rfl⟩
          case rest =>
            obtain ⟨rfl, hwc⟩ := hcut
            have hwc := hwc.symm
            subst hwc
            obtain ⟨b0, hb0⟩ : ∃ b0, decide (R1 = 0 ∧ R2 = 0) = b0 := ⟨_, rfl⟩
            have HD0 := hid hb0
            rw [hb0]
            clear hb0
            cases b0 with
            | true =>
              have HE0 : Hid ((R1, R2) = (0, 0)) := hid (by obtain ⟨e1, e2⟩ := of_decide_eq_true HD0.out; rw [e1, e2])
              go_wp2_with (go_at_call 56; refine (fail_impl z M mb F V s w3 (HS.out.below HBw.out) hz nb (by omega) HF.out).mono ?_; rintro e w4 ⟨rfl, F', q1, q2, qf⟩; have HQ1 := hid q1; have HQ2 := hid q2; have HQf := hid qf; clear q1 q2 qf)
              go_ret
              have e9 : mv s nb x = ({ s with F := failF s.F nb }, false) := by rw [HMv.out, if_neg Bool.false_ne_true, if_pos HE0.out]
              rw [e9]
              exact ⟨rfl, F', V, HQ1.out, (Chg.below HBw.out).trans HQ2.out, HQf.out⟩
            | false =>
              have HR0 : Hid ((R1, R2) ≠ (0, 0)) := hid (fun e => by injection e with e1 e2; exact of_decide_eq_false HD0.out ⟨e1, e2⟩)
              have HRn : Hid (restL (s.cl nb) s.H ≠ (0, 0)) := hid (by rw [HRe.out]; exact HR0.out)
              have HSy : Hid (sy ≠ 0) := hid (HSw.out HRn.out HBm.out)
              go_upto_region 12 with fail
              go_cut [57] from 58 to 60 (fun s57 wd => s57 = .bool (decide (R1 = P2 ∧ R2 = O2)) ∧ Below w3.heap.size w3 wd)
              case first =>
                go_wp2_with fail
                refine (HOn.out _).mono ?_
                rintro e w4 ⟨rfl, hb4⟩
                have HB4 := hid hb4
                clear hb4
                have hPc : (R1 = P2 ∧ R2 = O2) ∨ ((R1 = P2 ∧ R2 ≠ O2) ∨ R1 ≠ P2) := by omega
                rcases hPc with ⟨hp1, hp2⟩ | ⟨hp1, hp2⟩ | hp1
                · have HD1 : Hid (decide (R1 = P2 ∧ R2 = O2) = true) := hid (decide_eq_true ⟨hp1, hp2⟩)
                  subst hp1
                  subst hp2
                  go_wp2_with fail
                  go_meet
                  exact ⟨by rw [HD1.out], HB4.out⟩
                · have HD1 : Hid (decide (R1 = P2 ∧ R2 = O2) = false) := hid (decide_eq_false (fun h => hp2 h.2))
                  subst hp1
                  go_wp2_with fail
                  go_meet
                  exact ⟨by rw [HD1.out], HB4.out⟩
                · have HD1 : Hid (decide (R1 = P2 ∧ R2 = O2) = false) := hid (decide_eq_false (fun h => hp1 h.1))
                  go_wp2_with fail
                  go_meet
                  exact ⟨by rw [HD1.out], HB4.out⟩
              case rest =>
                obtain ⟨rfl, hb4⟩ := hcut
                have HN4 := hid (HN.out.below hb4)
                have HBv := hid (HBw.out.trans (hb4.mono HBw.out.size))
                clear hb4 z0 z1
                obtain ⟨v0, v1, -, -⟩ := HN4.out.facts
                obtain ⟨b1, hb1⟩ : ∃ b1, decide (R1 = P2 ∧ R2 = O2) = b1 := ⟨_, rfl⟩
                have HD1 := hid hb1
                rw [hb1]
                clear hb1
                cases b1 with
                | true =>
                  have HE1 : Hid ((R1, R2) = (P2, O2)) := hid (by obtain ⟨e1, e2⟩ := of_decide_eq_true HD1.out; rw [e1, e2])
                  go_wp2_with (go_at_call 57; refine (expect_impl z M mb F V s wc (HS.out.below HBv.out) hz nb (by omega) HD.out HDs.out).mono ?_; rintro e w5 ⟨rfl, F', q1, q2, qf⟩; have HQ1 := hid q1; have HQ2 := hid q2; have HQf := hid qf; clear q1 q2 qf)
                  go_ret
                  have e9 : mv s nb x = ({ s with D := insS nb s.D }, false) := by rw [HMv.out, if_neg Bool.false_ne_true, if_neg HR0.out, if_pos HE1.out]
                  rw [e9]
                  exact ⟨rfl, F', V, HQ1.out, (Chg.below HBv.out).trans HQ2.out, HQf.out⟩
                | false =>
                  have HP0 : Hid ((R1, R2) ≠ (P2, O2)) := hid (fun e => by injection e with e1 e2; exact of_decide_eq_false HD1.out ⟨e1, e2⟩)
                  have HRo : Hid (restL (s.cl nb) s.H ≠ onlyL sy) := hid (by rw [HPO.out, HRe.out]; exact HP0.out)
                  go_wp2_with fail
                  refine region_calm (fun uc => ⟨#[.pointer (some ⟨M, 0, none⟩), .int .i64 (nb : Int), .int .i64 x, undef, undef, undef, .bool false, .pointer (some ⟨w.heap.size, 0, none⟩), .int .i64 sy, .pointer (some ⟨N, 0, none⟩), uc 10, .pointer (some ⟨M, 0, none⟩), .pointer (some ⟨M, 0, none⟩), .pointer (some ⟨M, 2, none⟩), .slice (some ⟨g, 0, none⟩) CL cap, .int .i64 (nb : Int), .pointer (some ⟨g, nb * 2, none⟩), .agg #[.int .u64 C1, .int .u64 C2], ub 18, ub 19, ub 20, ub 21, ub 22, .bool false, .pointer (some ⟨M, 0, none⟩), .pointer (some ⟨M, 0, none⟩), .pointer (some ⟨M, 3, none⟩), .slice (some ⟨g3, 0, none⟩) WL cap3, .int .i64 (nb : Int), .pointer (some ⟨g3, nb * 2, none⟩), .pointer (some ⟨g3, nb * 2, none⟩), .int .i64 a0, .int .i64 a0, .int .i64 x, .bool (a0 == x), u35, u36, u37, u38, u39, u40, u41, u42, ua 43, ua 44, ua 45, ua 46, ua 47, ua 48, .agg #[.int .u64 R1, .int .u64 R2], .agg #[.int .u64 R1, .int .u64 R2], .bool false, u52, u53, undef, undef, undef, .bool false, u58, u59, u60, undef, undef, undef, uc 64, uc 65, uc 66, uc 67, uc 68, undef, undef, undef, undef, undef, undef, undef, undef, undef, undef, undef, undef, undef, undef, undef, undef, undef, undef, undef, undef, undef, undef, undef], []⟩) (fun i => [64, 65, 66, 67, 68, 10].getD i 0) (fun i v w8 => match i with | 0 => v = .agg #[.int .u64 R1, .int .u64 R2] | 1 => v = .int .i64 sy | 2 => v = .agg #[.int .u64 P2, .int .u64 O2] | 3 => v = .agg #[.int .u64 N1, .int .u64 N2] | 4 => v = .int .i64 ty | 5 => v = .int .i64 ty | _ => True) wc 6 (fun k => match k with | 64 => undef | 65 => undef | 66 => undef | 67 => undef | 68 => undef | 10 => undef | _ => undef) (by rfl) (by kernel_rfl) (by rfl) (by kernel_rfl) (Below.refl _ _) ?hput ?hinj ?stable ?step ?fin
                  case hput =>
                    intro i hi uc v
                    match i, hi with
                    | 0, _ => rfl
                    | 1, _ => rfl
                    | 2, _ => rfl
                    | 3, _ => rfl
                    | 4, _ => rfl
                    | 5, _ => rfl
                    | i + 6, hi => exact absurd hi (by omega)
                  case hinj =>
                    intro i j hi hj h
                    exact slots_inj [64, 65, 66, 67, 68, 10] (by decide) hi hj h
                  case stable =>
                    intro i v w8 w9 hb h
                    match i, hb, h with
                    | 0, hb, h => exact h
                    | 1, hb, h => exact h
                    | 2, hb, h => exact h
                    | 3, hb, h => exact h
                    | 4, hb, h => exact h
                    | 5, hb, h => exact h
                    | _ + 6, hb, h => trivial
                  case step =>
                    intro i hi uc w8 S8 hdep
                    match i, hi, hdep with
                    | 0, _, hdep =>
                      clear hdep
                      refine ⟨_, rfl, fun K' hK => ?_⟩
                      obtain ⟨x0, x1, -, -⟩ := (HN4.out.below S8).facts
                      go_simp
                      exact hK.out _ _ (Below.refl _ _) rfl
                    | 1, _, hdep =>
                      clear hdep
                      refine ⟨_, rfl, fun K' hK => ?_⟩
                      go_simp
                      exact hK.out _ _ (Below.refl _ _) rfl
                    | 2, _, hdep =>
                      have h1 : (uc 65) = .int .i64 sy := hdep 1 (by kernel_rfl)
                      clear hdep
                      refine ⟨_, rfl, fun K' hK => ?_⟩
                      simp only [h1] at hK ⊢
                      go_simp
                      refine (HOn.out _).mono ?_
                      rintro e w9 ⟨rfl, hb9⟩
                      exact hK.out _ _ hb9 rfl
                    | 3, _, hdep =>
                      have h0 : (uc 64) = .agg #[.int .u64 R1, .int .u64 R2] := hdep 0 (by kernel_rfl)
                      have h2 : (uc 66) = .agg #[.int .u64 P2, .int .u64 O2] := hdep 2 (by kernel_rfl)
                      clear hdep
                      refine ⟨_, rfl, fun K' hK => ?_⟩
                      simp only [h0, h2] at hK ⊢
                      go_simp
                      refine (HW2.out HSy.out _).mono ?_
                      rintro e w9 ⟨rfl, hb9⟩
                      exact hK.out _ _ hb9 rfl
                    | 4, _, hdep =>
                      have h3 : (uc 67) = .agg #[.int .u64 N1, .int .u64 N2] := hdep 3 (by kernel_rfl)
                      clear hdep
                      refine ⟨_, rfl, fun K' hK => ?_⟩
                      simp only [h3] at hK ⊢
                      go_simp
                      refine (HFi.out _ (tab_below HT.out (HBv.out.trans (S8.mono HBv.out.size)))).mono ?_
                      rintro e w9 ⟨rfl, hb9⟩
                      exact hK.out _ _ hb9 rfl
                    | 5, _, hdep =>
                      have h4 : (uc 68) = .int .i64 ty := hdep 4 (by kernel_rfl)
                      clear hdep
                      refine ⟨_, rfl, fun K' hK => ?_⟩
                      simp only [h4] at hK ⊢
                      go_simp
                      exact hK.out _ _ (Below.refl _ _) rfl
                    | i + 6, hi, _ => exact absurd hi (by omega)
                  case fin =>
                    intro uc w5 S8 hall
                    have h5 : (uc 10) = .int .i64 ty := hall 5 (by decide)
                    clear hall
                    rw [h5]
                    have HB5 := hid (HBv.out.trans (S8.mono HBv.out.size))
                    clear h5 S8 v0 v1
                    obtain ⟨hkz, hk2, hk0, hk1⟩ := HTy.out HBm.out HRn.out HRo.out
                    obtain ⟨m3, m4, m5⟩ := HMx.out w5 HB5.out
                    have mf0 := HFz.out w5 HB5.out (nb * 2)
                    have mf1 := HFz.out w5 HB5.out (nb * 2 + 1)
                    obtain ⟨q1, q2⟩ := Sol.setWatch (HS.out.below HB5.out) hz HWi.out HF3.out (sy, ty)
                    have HS6 := hid q1
                    have HC6' := hid q2
                    clear q1 q2
                    go_wp2
                    obtain ⟨w6, hw6⟩ : ∃ w6, (w5.setCell ⟨g3, nb * 2, none⟩ (.int .i64 sy)).setCell ⟨g3, nb * 2 + 1, none⟩ (.int .i64 ty) = w6 := ⟨_, rfl⟩
                    have HS1 : Hid (Sol z M mb F V { s with W := s.W.set nb (sy, ty) } w6) := hid (by rw [← hw6]; exact HS6.out)
                    have HC6 : Hid (Chg M mb (blk z F V) (blk z F V) w5 w6) := hid (by rw [← hw6]; exact HC6'.out)
                    rw [hw6]
                    clear hw6 HS6 HC6' m3 m4 m5 mf0 mf1
                    obtain ⟨s1, hs1⟩ : ∃ s1 : Sv, { s with W := s.W.set nb (sy, ty) } = s1 := ⟨_, rfl⟩
                    rw [hs1] at HS1
                    have hLk' : (s1.L ty).length ≤ 8400000000000 := by rw [← hs1]; have := HLl.out ty hk2 hkz; show (s.L ty).length ≤ _; omega
                    have HE1 := hid hs1
                    clear hs1
                    have HMc : Hid (∀ w8 : World, World.grownBy w6 w8 (V ty).ownBlock → w8.cell? ⟨M, 4, none⟩ = some (.map (some mb))) := hid (fun w8 hg => by
                      have q := HS1.out.cell (i := 4) (by omega)
                      rw [HS1.out.f4] at q
                      rw [World.cell?_of_block (a := ⟨M, 4, none⟩) (hg.block M HS1.out.lt.1 (Sol.offV HS1.out hk1 hkz).1)]
                      exact q)
                    have HLk : Hid (∀ w8 : World, World.grownBy w6 w8 (V ty).ownBlock → (Instr.lookup 63 (.map (some mb)) (.int .i64 ty) false).run Tryd.prog w8 = .ok (V ty) w8) := hid (fun w8 hg => Sol.lookAt HS1.out hk0 hk1 hg (Sol.offV HS1.out hk1 hkz).2)
                    have HOw : Hid (∀ w8 : World, Below w6.heap.size w6 w8 → w8.ownsRow 0 3 1 (V ty) (s1.L ty).length (intsN (s1.L ty))) := hid (fun w8 hb => own_kept (Sol.rowOf HS1.out hk0 hk1 hk2 hkz) fun g hg => hb.block g (World.ownsRow.lt (Sol.rowOf HS1.out hk0 hk1 hk2 hkz) g hg).2)
                    have HRl : Hid (∀ j, (V ty).ownBlock = some j → j < w6.heap.size) := hid (fun j hj => (World.ownsRow.lt (Sol.rowOf HS1.out hk0 hk1 hk2 hkz) j hj).2)
                    refine region_app (fun ud => ⟨#[.pointer (some ⟨M, 0, none⟩), .int .i64 (nb : Int), .int .i64 x, undef, undef, undef, .bool false, .pointer (some ⟨w.heap.size, 0, none⟩), .int .i64 sy, .pointer (some ⟨N, 0, none⟩), .int .i64 ty, .pointer (some ⟨M, 0, none⟩), .pointer (some ⟨M, 0, none⟩), .pointer (some ⟨M, 2, none⟩), .slice (some ⟨g, 0, none⟩) CL cap, .int .i64 (nb : Int), .pointer (some ⟨g, nb * 2, none⟩), .agg #[.int .u64 C1, .int .u64 C2], ub 18, ub 19, ub 20, ub 21, ub 22, .bool false, .pointer (some ⟨M, 0, none⟩), .pointer (some ⟨M, 0, none⟩), .pointer (some ⟨M, 3, none⟩), .slice (some ⟨g3, 0, none⟩) WL cap3, .int .i64 (nb : Int), .pointer (some ⟨g3, nb * 2, none⟩), .pointer (some ⟨g3, nb * 2, none⟩), .int .i64 a0, .int .i64 a0, .int .i64 x, .bool (a0 == x), u35, u36, u37, u38, u39, u40, u41, u42, ua 43, ua 44, ua 45, ua 46, ua 47, ua 48, .agg #[.int .u64 R1, .int .u64 R2], .agg #[.int .u64 R1, .int .u64 R2], .bool false, u52, u53, undef, undef, undef, .bool false, u58, u59, u60, undef, undef, undef, uc 64, uc 65, uc 66, uc 67, uc 68, .pointer (some ⟨M, 0, none⟩), .pointer (some ⟨M, 0, none⟩), .pointer (some ⟨M, 3, none⟩), .slice (some ⟨g3, 0, none⟩) WL cap3, .int .i64 (nb : Int), .int .i64 sy, .int .i64 ty, .agg #[.int .i64 sy, .int .i64 ty], .pointer (some ⟨g3, nb * 2, none⟩), ud 78, ud 79, ud 80, ud 81, ud 82, ud 83, ud 84, ud 85, ud 86, ud 87, ud 88, ud 89, ud 90, ud 91], []⟩) (fun i => [78, 79, 80, 81, 82, 83, 84, 85, 86, 87, 88, 89, 90, 91].getD i 0) (fun i v w8 => match i with | 0 => v = .pointer (some ⟨M, 0, none⟩) | 1 => v = .pointer (some ⟨M, 0, none⟩) | 2 => v = .pointer (some ⟨M, 4, none⟩) | 3 => v = .map (some mb) | 4 => v = .int .i64 ty | 5 => v = .pointer (some ⟨M, 0, none⟩) | 6 => v = .pointer (some ⟨M, 0, none⟩) | 7 => v = .pointer (some ⟨M, 4, none⟩) | 8 => v = .map (some mb) | 9 => v = .int .i64 ty | 10 => v = V ty | 11 => v = .int .i64 (nb : Int) | 12 => ∃ gb, v = .slice (some ⟨gb, 0, none⟩) 1 1 ∧ w6.heap.size ≤ gb ∧ World.cell? w8 ⟨gb, 0, none⟩ = some (.int .i64 (nb : Int)) | 13 => World.ownsRow w8 0 3 1 v ((s1.L ty).length + 1) (intsN (s1.L ty) ++ [.int .i64 (nb : Int)]) ∧ (Value.ownBlock v = (V ty).ownBlock ∨ Value.ownBlock v = none ∨ ∃ g, w6.heap.size ≤ g ∧ Value.ownBlock v = some g) | _ => True) w6 (V ty).ownBlock 13 14 (fun k => match k with | 78 => undef | 79 => undef | 80 => undef | 81 => undef | 82 => undef | 83 => undef | 84 => undef | 85 => undef | 86 => undef | 87 => undef | 88 => undef | 89 => undef | 90 => undef | 91 => undef | _ => undef) (by rfl) (by kernel_rfl) (by rfl) ⟨by kernel_rfl, by kernel_rfl, by kernel_rfl, by decide⟩ (by kernel_rfl) (Below.refl _ _) ?hput ?hinj ?stB ?stA ?step ?last
                    case hput =>
                      intro i hi ud v
                      match i, hi with
                      | 0, _ => rfl
                      | 1, _ => rfl
                      | 2, _ => rfl
                      | 3, _ => rfl
                      | 4, _ => rfl
                      | 5, _ => rfl
                      | 6, _ => rfl
                      | 7, _ => rfl
                      | 8, _ => rfl
                      | 9, _ => rfl
                      | 10, _ => rfl
                      | 11, _ => rfl
                      | 12, _ => rfl
                      | 13, _ => rfl
                      | i + 14, hi => exact absurd hi (by omega)
                    case hinj =>
                      intro i j hi hj h
                      exact slots_inj [78, 79, 80, 81, 82, 83, 84, 85, 86, 87, 88, 89, 90, 91] (by decide) hi hj h
                    case stB =>
                      intro i v w8 w9 hb h
                      match i, h with
                      | 0, h => exact h
                      | 1, h => exact h
                      | 2, h => exact h
                      | 3, h => exact h
                      | 4, h => exact h
                      | 5, h => exact h
                      | 6, h => exact h
                      | 7, h => exact h
                      | 8, h => exact h
                      | 9, h => exact h
                      | 10, h => exact h
                      | 11, h => exact h
                      | 12, h =>
                        obtain ⟨gb, e1, e2, e3⟩ := h
                        exact ⟨gb, e1, e2, keep hb e3⟩
                      | 13, h => exact ⟨own_kept h.1 fun g hg => hb.block g (World.ownsRow.lt h.1 g hg).2, h.2⟩
                      | _ + 14, h => trivial
                    case stA =>
                      intro i v w8 w9 hne hb hg h
                      match i, hne, h with
                      | 0, _, h => exact h
                      | 1, _, h => exact h
                      | 2, _, h => exact h
                      | 3, _, h => exact h
                      | 4, _, h => exact h
                      | 5, _, h => exact h
                      | 6, _, h => exact h
                      | 7, _, h => exact h
                      | 8, _, h => exact h
                      | 9, _, h => exact h
                      | 10, _, h => exact h
                      | 11, _, h => exact h
                      | 12, _, h =>
                        obtain ⟨gb, e1, e2, e3⟩ := h
                        exact ⟨gb, e1, e2, (World.cell?_of_block (a := ⟨gb, 0, none⟩) (hg.block gb (World.block_lt_of_cell? _ _ e3) (fun e => by have := HRl.out gb e.symm; omega))).trans e3⟩
                      | 13, hne, h => exact absurd rfl hne
                      | _ + 14, _, h => trivial
                    case step =>
                      intro i hi ud w8 S8 hq hdep
                      match i, hi, hq, hdep with
                      | 0, _, hq, hdep =>
                        clear hdep
                        refine ⟨_, rfl, fun K' hK => ?_⟩
                        go_simp
                        exact hK.out _ _ (grown_refl _ _) (fun _ => Below.refl _ _) rfl
                      | 1, _, hq, hdep =>
                        have h0 : (ud 78) = .pointer (some ⟨M, 0, none⟩) := hdep 0 (by kernel_rfl)
                        clear hdep
                        refine ⟨_, rfl, fun K' hK => ?_⟩
                        simp only [h0] at hK ⊢
                        go_simp
                        exact hK.out _ _ (grown_refl _ _) (fun _ => Below.refl _ _) rfl
                      | 2, _, hq, hdep =>
                        have h1 : (ud 79) = .pointer (some ⟨M, 0, none⟩) := hdep 1 (by kernel_rfl)
                        clear hdep
                        refine ⟨_, rfl, fun K' hK => ?_⟩
                        simp only [h1] at hK ⊢
                        go_simp
                        exact hK.out _ _ (grown_refl _ _) (fun _ => Below.refl _ _) rfl
                      | 3, _, hq, hdep =>
                        have h2 : (ud 80) = .pointer (some ⟨M, 4, none⟩) := hdep 2 (by kernel_rfl)
                        clear hdep
                        refine ⟨_, rfl, fun K' hK => ?_⟩
                        have qc := HMc.out w8 S8
                        simp only [h2] at hK ⊢
                        go_simp
                        exact hK.out _ _ (grown_refl _ _) (fun _ => Below.refl _ _) rfl
                      | 4, _, hq, hdep =>
                        clear hdep
                        refine ⟨_, rfl, fun K' hK => ?_⟩
                        go_simp
                        exact hK.out _ _ (grown_refl _ _) (fun _ => Below.refl _ _) rfl
                      | 5, _, hq, hdep =>
                        clear hdep
                        refine ⟨_, rfl, fun K' hK => ?_⟩
                        go_simp
                        exact hK.out _ _ (grown_refl _ _) (fun _ => Below.refl _ _) rfl
                      | 6, _, hq, hdep =>
                        have h5 : (ud 83) = .pointer (some ⟨M, 0, none⟩) := hdep 5 (by kernel_rfl)
                        clear hdep
                        refine ⟨_, rfl, fun K' hK => ?_⟩
                        simp only [h5] at hK ⊢
                        go_simp
                        exact hK.out _ _ (grown_refl _ _) (fun _ => Below.refl _ _) rfl
                      | 7, _, hq, hdep =>
                        have h6 : (ud 84) = .pointer (some ⟨M, 0, none⟩) := hdep 6 (by kernel_rfl)
                        clear hdep
                        refine ⟨_, rfl, fun K' hK => ?_⟩
                        simp only [h6] at hK ⊢
                        go_simp
                        exact hK.out _ _ (grown_refl _ _) (fun _ => Below.refl _ _) rfl
                      | 8, _, hq, hdep =>
                        have h7 : (ud 85) = .pointer (some ⟨M, 4, none⟩) := hdep 7 (by kernel_rfl)
                        clear hdep
                        refine ⟨_, rfl, fun K' hK => ?_⟩
                        have qc := HMc.out w8 S8
                        simp only [h7] at hK ⊢
                        go_simp
                        exact hK.out _ _ (grown_refl _ _) (fun _ => Below.refl _ _) rfl
                      | 9, _, hq, hdep =>
                        clear hdep
                        refine ⟨_, rfl, fun K' hK => ?_⟩
                        go_simp
                        exact hK.out _ _ (grown_refl _ _) (fun _ => Below.refl _ _) rfl
                      | 10, _, hq, hdep =>
                        have h8 : (ud 86) = .map (some mb) := hdep 8 (by kernel_rfl)
                        have h9 : (ud 87) = .int .i64 ty := hdep 9 (by kernel_rfl)
                        clear hdep
                        refine ⟨_, rfl, fun K' hK => ?_⟩
                        refine step_look w8 rfl _ _ 63 rfl (some 88) rfl _ _ _ h8 h9 (HLk.out w8 S8) ?_
                        exact hK.out _ _ (grown_refl _ _) (fun _ => Below.refl _ _) rfl
                      | 11, _, hq, hdep =>
                        clear hdep
                        refine ⟨_, rfl, fun K' hK => ?_⟩
                        go_simp
                        exact hK.out _ _ (grown_refl _ _) (fun _ => Below.refl _ _) rfl
                      | 12, _, hq, hdep =>
                        have h11 : (ud 89) = .int .i64 (nb : Int) := hdep 11 (by kernel_rfl)
                        clear hdep
                        refine ⟨_, rfl, fun K' hK => ?_⟩
                        simp only [h11] at hK ⊢
                        go_simp
                        exact hK.out _ _ (grown_below (by repeat (first | exact Below.refl _ _ | assumption | refine Below.drew ?_ | refine Below.alloc ?_ (by first | exact Nat.le_refl _ | omega | (simp; done) | (simp; omega)) _ | refine Below.setCell ?_ (by first | exact Nat.le_refl _ | omega | (simp; done) | (simp; omega)) _))) (fun _ => (by repeat (first | exact Below.refl _ _ | assumption | refine Below.drew ?_ | refine Below.alloc ?_ (by first | exact Nat.le_refl _ | omega | (simp; done) | (simp; omega)) _ | refine Below.setCell ?_ (by first | exact Nat.le_refl _ | omega | (simp; done) | (simp; omega)) _))) ⟨w8.heap.size, rfl, S8.size, by simp [go_sem]⟩
                      | 13, _, hq, hdep =>
                        have h10 : (ud 88) = V ty := hdep 10 (by kernel_rfl)
                        have h12 : ∃ gb, (ud 90) = .slice (some ⟨gb, 0, none⟩) 1 1 ∧ w6.heap.size ≤ gb ∧ World.cell? w8 ⟨gb, 0, none⟩ = some (.int .i64 (nb : Int)) := hdep 12 (by kernel_rfl)
                        clear hdep
                        refine ⟨_, rfl, fun K' hK => ?_⟩
                        obtain ⟨gb, e12, hgb, hc12⟩ := h12
                        refine step_append_at w8 rfl _ _ 36 rfl (some 91) rfl 0 3 i0 (.int .i64 0) 1 8 Tryd.underlying36 HI.out HZ0.out HZ1.out HZ2.out rfl (by decide) _ _ _ h10 (HOw.out w8 (hq rfl)) ⟨gb, 0, none⟩ 1 1 [.int .i64 (nb : Int)] e12 rfl (fun t y ht => by rw [Addr.add_lit]; cases t with | zero => (injection ht with ht; rw [← ht]; exact hc12) | succ t => (cases ht)) (fun y hy => by simp at hy; subst hy; rfl) (by unfold maxLen; omega) (by omega) (Nat.zero_le _) ?_
                        intro v' w' hown hg hat
                        refine hK.out v' w' hg (fun h => absurd rfl h) ⟨hown, ?_⟩
                        rcases hat with hat | hat
                        · exact .inl hat
                        · exact .inr (.inr ⟨_, S8.size, hat⟩)
                      | i + 14, hi, _, _ => exact absurd hi (by omega)
                    case last =>
                      intro ud w8 S8 hall
                      have h3 : (ud 81) = .map (some mb) := hall 3 (by decide)
                      have h4 : (ud 82) = .int .i64 ty := hall 4 (by decide)
                      have h13 : World.ownsRow w8 0 3 1 (ud 91) ((s1.L ty).length + 1) (intsN (s1.L ty) ++ [.int .i64 (nb : Int)]) ∧ (Value.ownBlock (ud 91) = (V ty).ownBlock ∨ Value.ownBlock (ud 91) = none ∨ ∃ g, w6.heap.size ≤ g ∧ Value.ownBlock (ud 91) = some g) := hall 13 (by decide)
                      clear hall
                      refine ⟨_, rfl, fun K' hK => ?_⟩
                      obtain ⟨vn, hvn⟩ : ∃ vn, ud 91 = vn := ⟨_, rfl⟩
                      rw [hvn] at h13
                      obtain ⟨w2, hr, q1, q2⟩ := Sol.mapPut HS1.out hk0 hk1 hk2 (v' := vn) (s1.L ty ++ [nb]) hkz S8 (by rw [List.length_append]; unfold intsN; rw [List.map_append]; exact h13.1) h13.2
                      refine step_put w8 w2 rfl _ _ _ 63 rfl none rfl _ _ _ h3 h4 hvn hr ?_
                      refine hK.out _ _ ?_
                      have HS2 := hid q1
                      have HC2 := hid q2
                      clear q1 q2 hr h13 h3 h4 S8 HMc HLk HOw HRl
                      go_wp2
                      go_ret
                      have e9 : mv s nb x = ({ s with W := s.W.set nb (sy, ty), L := solMath.upd s.L ty (s.L ty ++ [nb]) }, true) := by rw [HMv.out, if_neg Bool.false_ne_true, if_neg HR0.out, if_neg HP0.out]
                      rw [e9]
                      refine ⟨rfl, F, _, ?_, ((Chg.below HB5.out).trans HC6.out).trans HC2.out, rfl⟩
                      have := HS2.out
                      rw [← HE1.out] at this
                      exact this
end Go.Proofs.YtbahjpheaaiamaaDoor.solMove
