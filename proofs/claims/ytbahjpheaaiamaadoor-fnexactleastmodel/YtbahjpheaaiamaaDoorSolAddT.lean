/- A solver of the program: a clause is put behind the others (add); conditions: literals of its variables, lengths that fit. -/
import Derived.Test.YtbahjpheaaiamaaDoorSolHoldI
import Derived.Test.YtbahjpheaaiamaaDoorPart26
import Derived.Test.YtbahjpheaaiamaaDoorPart23
import Derived.Test.YtbahjpheaaiamaaDoorSolWatch
namespace Go.Proofs.YtbahjpheaaiamaaDoor.solAddI
open Go.RowKit Go.Deep Go.Maps Go base sets setsOf solSets solOps solMath solHold solAdd solMem solFail solDue solExpect solPush solLoop solMove solHoldI solClose solTrail solLastT solAddM backFact heldStore drawn drawnLin drawnMk drawnApp stepAppend
set_option linter.unusedVariables false
set_option linter.unusedSimpArgs false
set_option pp.deepTerms true
set_option pp.maxSteps 10000000

theorem info_set' : (Tryd.prog.info? 51).map (fun i => (i.zero, i.size, i.bytes)) = some (some (.agg #[.int .u64 0, .int .u64 0]), 2, 16) := by kernel_rfl
theorem info_two : (Tryd.prog.info? 83).map (fun i => (i.zero, i.size, i.bytes)) = some (some (.agg #[.int .i64 0, .int .i64 0]), 2, 16) := by kernel_rfl
section
variable {M mb : Nat} {F : Nat → Value} {V : Int → Value} {s : Sv} {w : World}
/-- A box that was made behind the solver stays as it was. -/
theorem box_far {β : Int → Option Nat} {w1 w' : World} (h : Sol 0 M mb F V s w) (hc : Chg M mb (blk 0 F V) β w1 w') {o : Nat} {x : Value} (h0 : w1.cell? ⟨w.heap.size, o, none⟩ = some x) : w'.cell? ⟨w.heap.size, o, none⟩ = some x :=
  hc.cell (by have := h.lt; omega) (by have := h.lt; omega) (fun a e => by have := h.blt e; omega) h0
theorem trail_row (h : Sol 0 M mb F V s w) : ∃ a c, w.cell? ⟨M, 7, none⟩ = some (.slice a s.T.length c) ∧ Row2 w a s.T.length s.T := by
  have hr : w.ownsRow 0 87 2 (F 7) s.T.length (flatP s.T) := h.rows 1003 (by omega)
  obtain ⟨a, c, e⟩ := own_form hr
  have hc := h.cell (i := 7) (by omega)
  rw [e] at hc
  refine ⟨a, c, hc, rfl, ?_, fun i hi => ?_⟩
  · rcases hr.2 with ⟨_, e2⟩ | ⟨g, cap, cur, _, _, _, hn, hm, _⟩
    · rw [e2]; exact Nat.zero_le _
    · exact Nat.le_trans hn hm
  · obtain ⟨g, cap, e2, _, c0, c1, _⟩ := row_cells hr hi
    rw [e] at e2
    injection e2 with e1
    obtain ⟨f0, f1⟩ := flatP_get s.T i hi
    exact ⟨g, 0, e1, by rw [Nat.zero_add]; exact c0 _ f0, by rw [Nat.zero_add]; exact c1 _ f1⟩
theorem last_range {T : TR} {c : LS} (h : ∀ p ∈ T, p.1 ≠ 0 ∧ -40 ≤ p.1 ∧ p.1 ≤ 40) : -40 ≤ lastF T c ∧ lastF T c ≤ 40 := by
  rcases last_cases T c with ⟨e, _⟩ | ⟨p, hp, e, _⟩
  · omega
  · have := h p hp
    omega
end
set_option maxHeartbeats 6400000 in
set_option maxRecDepth 8000 in
theorem addT_impl (M mb : Nat) (F : Nat → Value) (V : Int → Value) (s : Sv) (w : World) (h : Sol 0 M mb F V s w) (hv0 : V 0 = nilV) (C1 C2 : Nat) (hc : Wf (C1, C2)) (ok : Okay s) (hT : TinH s ∧ (∀ p ∈ s.T, p.1 ≠ 0 ∧ -40 ≤ p.1 ∧ p.1 ≤ 40) ∧ s.T.length ≤ 100000) (hlen : s.C.length ≤ 8000000000000) :
    Calls Tryd.prog 39 #[.pointer (some ⟨M, 0, none⟩), .agg #[.int .u64 C1, .int .u64 C2]] w fun e w' => e = .returned (.tuple #[]) ∧ ∃ F' V', Sol 0 M mb F' V' (addT s (C1, C2)) w' ∧ V' 0 = nilV ∧ Chg M mb (blk 0 F V) (blk 0 F' V') w w' := by
  have HS := hid h
  have HV0 := hid hv0
  have HTT := hid hT
  have HWc := hid hc
  have hwr := wf_rest hc s.H
  obtain ⟨on, hon⟩ : ∃ q, oneL s (C1, C2) = q := ⟨_, rfl⟩
  obtain ⟨ot, hot⟩ : ∃ q, othL s (C1, C2) = q := ⟨_, rfl⟩
  have hlW := ok.len
  have HFf : Hid (-1 ≤ (base1 s (C1, C2)).F ∧ (base1 s (C1, C2)).F ≤ 8400000000000) := hid (by
    show -1 ≤ s.F ∧ s.F ≤ 8400000000000
    rcases ok.fin with e | ⟨f, hf, e, _⟩
    · omega
    · omega)
  have HDl : Hid ((base1 s (C1, C2)).D.length ≤ 8400000000000) := hid (by show s.D.length ≤ _; have := ok.dmost; omega)
  have HDs : Hid ((base1 s (C1, C2)).D.Pairwise (· < ·)) := hid ok.dsort
  have HLl : Hid (∀ q, q ≠ 0 → (s.L q).length ≤ 8200000000000) := hid (fun q hq => by have := ok.most (x := q) hq; omega)
  have hran : ∀ (S : LS), Wf S → -40 ≤ firstL S ∧ firstL S ≤ 40 := fun S hS => by
    by_cases e : S = (0, 0)
    · have := (first_zero hS).2 e; omega
    · exact (hS.range (first_spec hS e).1).2
  have HRo : Hid (-40 ≤ on ∧ on ≤ 40) := hid (by rw [← hon]; exact hran _ hwr)
  have HRt : Hid (-40 ≤ ot ∧ ot ≤ 40) := hid (by rw [← hot]; exact hran _ (wf_wo hwr _))
  obtain ⟨H1, hH1⟩ : ∃ q, s.H.1 = q := ⟨_, rfl⟩
  obtain ⟨H2, hH2⟩ : ∃ q, s.H.2 = q := ⟨_, rfl⟩
  obtain ⟨R1, hR1⟩ : ∃ q, (restL (C1, C2) s.H).1 = q := ⟨_, rfl⟩
  obtain ⟨R2, hR2⟩ : ∃ q, (restL (C1, C2) s.H).2 = q := ⟨_, rfl⟩
  obtain ⟨P2, hP2⟩ : ∃ q, pBit on = q := ⟨_, rfl⟩
  obtain ⟨O2, hO2⟩ : ∃ q, oBit on = q := ⟨_, rfl⟩
  obtain ⟨N1, hN1⟩ : ∃ q, (woL (restL (C1, C2) s.H) (onlyL on)).1 = q := ⟨_, rfl⟩
  obtain ⟨N2, hN2⟩ : ∃ q, (woL (restL (C1, C2) s.H) (onlyL on)).2 = q := ⟨_, rfl⟩
  obtain ⟨q1, q2⟩ := hc.lt
  obtain ⟨q3, q4⟩ := ok.wfH.lt
  obtain ⟨r1, r2⟩ := hwr.lt
  rw [hH1] at q3
  rw [hH2] at q4
  rw [hR1] at r1
  rw [hR2] at r2
  simp only at q1 q2
  have HTu : Hid (∀ w : World, Calls Tryd.prog 34 #[.agg #[.int .u64 H1, .int .u64 H2]] w fun e w' => e = .returned (.agg #[.int .u64 H2, .int .u64 H1]) ∧ Below w.heap.size w w') := hid (fun w => turned_impl H1 H2 w)
  have HWo : Hid (∀ w : World, Calls Tryd.prog 55 #[.agg #[.int .u64 C1, .int .u64 C2], .agg #[.int .u64 H2, .int .u64 H1]] w fun e w' => e = .returned (.agg #[.int .u64 R1, .int .u64 R2]) ∧ Below w.heap.size w w') := hid (fun w => by
    have := without_impl C1 C2 H2 H1 w q1 q2 q4 q3
    have e1 : R1 = C1 &&& (18446744073709551615 - H2) := by rw [← hR1, ← hH2]; rfl
    have e2 : R2 = C2 &&& (18446744073709551615 - H1) := by rw [← hR2, ← hH1]; rfl
    rw [e1, e2]
    exact this)
  have HFi : Hid (∀ w : World, Tab w → Calls Tryd.prog 48 #[.agg #[.int .u64 R1, .int .u64 R2]] w fun e w' => e = .returned (.int .i64 on) ∧ Below w.heap.size w w') := hid (fun w ht => by
    have := first_impl (restL (C1, C2) s.H) w hwr ht
    rw [hR1, hR2] at this
    have e : firstL (restL (C1, C2) s.H) = on := hon
    rw [e] at this
    exact this)
  have HOn : Hid (on ≠ 0 → ∀ w : World, Calls Tryd.prog 46 #[.int .i64 on] w fun e w' => e = .returned (.agg #[.int .u64 P2, .int .u64 O2]) ∧ Below w.heap.size w w') := hid (fun _ w => by
    have := only_impl on w HRo.out.1 HRo.out.2
    rw [hP2, hO2] at this
    exact this)
  have HW2 : Hid (on ≠ 0 → ∀ w : World, Calls Tryd.prog 55 #[.agg #[.int .u64 R1, .int .u64 R2], .agg #[.int .u64 P2, .int .u64 O2]] w fun e w' => e = .returned (.agg #[.int .u64 N1, .int .u64 N2]) ∧ Below w.heap.size w w') := hid (fun h0 w => by
    have hw := (wf_only h0 HRo.out.1 HRo.out.2).lt
    have := without_impl R1 R2 (pBit on) (oBit on) w r1 r2 hw.1 hw.2
    rw [hP2, hO2] at this
    have e1 : N1 = R1 &&& (18446744073709551615 - P2) := by rw [← hN1, ← hR1, ← hP2]; rfl
    have e2 : N2 = R2 &&& (18446744073709551615 - O2) := by rw [← hN2, ← hR2, ← hO2]; rfl
    rw [e1, e2]
    exact this)
  have HF2 : Hid (∀ w : World, Tab w → Calls Tryd.prog 48 #[.agg #[.int .u64 N1, .int .u64 N2]] w fun e w' => e = .returned (.int .i64 ot) ∧ Below w.heap.size w w') := hid (fun w ht => by
    have := first_impl (woL (restL (C1, C2) s.H) (onlyL on)) w (wf_wo hwr _) ht
    rw [hN1, hN2] at this
    have e : firstL (woL (restL (C1, C2) s.H) (onlyL on)) = ot := by rw [← hot, ← hon]; rfl
    rw [e] at this
    exact this)
  have HTr : Hid (w.ownsRow 0 51 2 (F 2) s.C.length (flatC s.C)) := hid (h.rows 1001 (by omega))
  obtain ⟨fa, fc, hfa⟩ := own_form HTr.out
  have k2 := h.cell (i := 2) (by omega)
  rw [hfa] at k2 HTr
  obtain ⟨CL, hCL⟩ : ∃ q, s.C.length = q := ⟨_, rfl⟩
  have HA0 : Hid (on = 0 → addT s (C1, C2) = { base1 s (C1, C2) with F := failF s.F CL }) := hid (fun e => by unfold addT; rw [hon, if_pos e, hCL])
  have HA1 : Hid (on ≠ 0 → ot = 0 → addT s (C1, C2) = solWatch.watS { base1 s (C1, C2) with D := insS CL s.D } CL on (lastF s.T (C1, C2))) := hid (fun e e1 => by unfold addT; rw [hon, hot, if_neg e, if_pos e1, hCL]; rfl)
  have HA2 : Hid (on ≠ 0 → ot ≠ 0 → addT s (C1, C2) = solWatch.watS (base1 s (C1, C2)) CL on ot) := hid (fun e e1 => by unfold addT; rw [hon, hot, if_neg e, if_neg e1, hCL]; rfl)
  have HWl : Hid (s.W.length = CL) := hid (by rw [hlW, hCL])
  have HWn : Hid (CL < (base1 s (C1, C2)).W.length ∧ (base1 s (C1, C2)).W.length ≤ 8400000000000) := hid (by
    show CL < (s.W ++ [(0, 0)]).length ∧ (s.W ++ [(0, 0)]).length ≤ 8400000000000
    simp
    omega)
  have HCLx := hid hCL
  rw [hCL] at k2 HTr hlen hfa
  have HH1 := hid hH1
  have HH2 := hid hH2
  have hMl := h.lt.1
  obtain ⟨w1, hw1⟩ : ∃ w1, w.alloc (.cells #[.int .u64 C1, .int .u64 C2] 51) = w1 := ⟨_, rfl⟩
  have hb1 : Below w.heap.size w w1 := by rw [← hw1]; exact (by repeat (first | exact Below.refl _ _ | assumption | refine Below.drew ?_ | refine Below.alloc ?_ (by first | exact Nat.le_refl _ | omega | (simp; done) | (simp; omega)) _ | refine Below.setCell ?_ (by first | exact Nat.le_refl _ | omega | (simp; done) | (simp; omega)) _))
  have HCb0 : Hid (w1.cell? ⟨w.heap.size, 0, none⟩ = some (.int .u64 C1) ∧ w1.cell? ⟨w.heap.size, 1, none⟩ = some (.int .u64 C2)) := hid (by rw [← hw1]; exact ⟨by simp [go_sem], by simp [go_sem]⟩)
  have HS1 := hid (h.below hb1)
  have HCw : Hid (Chg M mb (blk 0 F V) (blk 0 F V) w w1) := hid (Chg.below hb1)
  have HFa := hid hfa
  have hrow : (Value.ownBlock (.slice fa CL fc)) = (F 2).ownBlock := by rw [hfa]
  have hMr : some M ≠ Value.ownBlock (.slice fa CL fc) := fun e => (h.off 1001 M (by rw [blk_ne (by omega)]; show (F 2).ownBlock = _; rw [← hrow]; exact e.symm)).1 rfl
  have HRl : Hid (∀ j, Value.ownBlock (.slice fa CL fc) = some j → j < w1.heap.size) := hid (fun j hj => by have := (World.ownsRow.lt HTr.out j hj).2; have := hb1.size; omega)
  have hRl0 : ∀ j, Value.ownBlock (.slice fa CL fc) = some j → j < w.heap.size := fun j hj => (World.ownsRow.lt HTr.out j hj).2
  have HOw : Hid (∀ w8 : World, Below w1.heap.size w1 w8 → w8.ownsRow 0 51 2 (.slice fa CL fc) CL (flatC s.C)) := hid (fun w8 hb => own_kept HTr.out fun g hg => by
    have := hRl0 g hg
    have := hb1.size
    exact (hb.block g (by omega)).trans (hb1.block g (by omega)))
  have HMc : Hid (∀ w8 : World, w1.grownBy w8 (Value.ownBlock (.slice fa CL fc)) → w8.cell? ⟨M, 2, none⟩ = some (.slice fa CL fc) ∧ w8.frozen? ⟨M, 2, none⟩ = false ∧ M < w8.heap.size) := hid (fun w8 hg => by
    have hb := hg.block M HS1.out.lt.1 hMr
    exact ⟨(World.cell?_of_block (a := ⟨M, 2, none⟩) hb).trans (keep hb1 k2), (World.frozen?_of_block (a := ⟨M, 2, none⟩) hb).trans (HS1.out.frozen 2), Nat.lt_of_lt_of_le HS1.out.lt.1 hg.size⟩)
  have HCb : Hid (∀ w8 : World, w1.grownBy w8 (Value.ownBlock (.slice fa CL fc)) → w8.cell? ⟨w.heap.size, 0, none⟩ = some (.int .u64 C1) ∧ w8.cell? ⟨w.heap.size, 1, none⟩ = some (.int .u64 C2)) := hid (fun w8 hg => by
    have hb := hg.block w.heap.size (World.block_lt_of_cell? _ _ HCb0.out.1) (fun e => by have := hRl0 _ e.symm; omega)
    exact ⟨(World.cell?_of_block (a := ⟨w.heap.size, 0, none⟩) hb).trans HCb0.out.1, (World.cell?_of_block (a := ⟨w.heap.size, 1, none⟩) hb).trans HCb0.out.2⟩)
  have HSt : Hid (∀ (w8 : World) (va : Option Addr) (vc : Nat), w1.grownBy w8 (Value.ownBlock (.slice fa CL fc)) → w8.ownsRow 0 51 2 (.slice va (CL + 1) vc) (CL + 1) (flatC s.C ++ [.int .u64 C1, .int .u64 C2]) → (Value.ownBlock (.slice va (CL + 1) vc) = Value.ownBlock (.slice fa CL fc) ∨ Value.ownBlock (.slice va (CL + 1) vc) = none ∨ ∃ g, w1.heap.size ≤ g ∧ Value.ownBlock (.slice va (CL + 1) vc) = some g) → Sol 0 M mb (fun j => if j = 2 then Value.slice va (CL + 1) vc else F j) V { s with C := s.C ++ [(C1, C2)] } (w8.setCell ⟨M, 2, none⟩ (.slice va (CL + 1) vc)) ∧ Chg M mb (blk 0 F V) (blk 0 (fun j => if j = 2 then Value.slice va (CL + 1) vc else F j) V) w1 (w8.setCell ⟨M, 2, none⟩ (.slice va (CL + 1) vc))) := hid (fun w8 va vc hg ho hl =>
    Sol.store HS1.out (by omega) (a0 := 1001) (c := 2) (by simp) (v' := .slice va (CL + 1) vc) (s' := { s with C := s.C ++ [(C1, C2)] }) (w1 := w8) (by show w1.grownBy w8 (F 2).ownBlock; rw [← hrow]; exact hg) (by show w8.ownsRow 0 51 2 _ (s.C ++ [(C1, C2)]).length (flatC (s.C ++ [(C1, C2)])); rw [flatC_add, List.length_append, HCLx.out]; exact ho) (by show _ = (F 2).ownBlock ∨ _; rw [← hrow]; exact hl) (fun a ha v w hr => by unfold RowA at *; simpa [ha] using hr) rfl rfl rfl)
  obtain ⟨i0, hi9, hzz⟩ := Option.map_eq_some_iff.1 info_set'
  simp only [Prod.mk.injEq] at hzz
  obtain ⟨hz0, hz1, hz2⟩ := hzz
  have HI := hid hi9
  have HZ0 := hid hz0
  have HZ1 := hid hz1
  have HZ2 := hid hz2
  clear hz0 hz1 hz2 hi9
  obtain ⟨j0, hj9, hzz⟩ := Option.map_eq_some_iff.1 info_two
  simp only [Prod.mk.injEq] at hzz
  obtain ⟨hz0, hz1, hz2⟩ := hzz
  have HJ := hid hj9
  have HY0 := hid hz0
  have HY1 := hid hz1
  have HY2 := hid hz2
  clear hz0 hz1 hz2 hj9
  clear h hv0 ok hT hwr hon hot hlW hran hH1 hH2 hR1 hR2 hP2 hO2 hN1 hN2 q1 q2 q3 q4 r1 r2 hfa hCL hb1 hrow hMr hRl0 hc HTr
  have HW1 := hid hw1
  clear hw1
  go_enter Tryd.func39, Tryd.ntmps39
  go_wp2
  rw [HW1.out]
  clear HW1 k2
  refine region_app (fun ua => ⟨#[.pointer (some ⟨M, 0, none⟩), .agg #[.int .u64 C1, .int .u64 C2], undef, .pointer (some ⟨w.heap.size, 0, none⟩), .int .i64 (CL : Int), undef, undef, undef, .pointer (some ⟨M, 0, none⟩), .pointer (some ⟨M, 0, none⟩), .pointer (some ⟨M, 2, none⟩), .slice fa CL fc, .int .i64 (CL : Int), ua 13, ua 14, ua 15, ua 16, ua 17, ua 18, ua 19, ua 20, ua 21, ua 22, undef, undef, undef, undef, undef, undef, undef, undef, undef, undef, undef, undef, undef, undef, undef, undef, undef, undef, undef, undef, undef, undef, undef, undef, undef, undef, undef, undef, undef, undef, undef, undef, undef, undef, undef, undef, undef, undef, undef, undef, undef, undef], []⟩) (fun i => [13, 14, 15, 16, 17, 18, 19, 20, 21, 22].getD i 0) (fun i v w8 => match i with | 0 => v = .pointer (some ⟨M, 0, none⟩) | 1 => v = .pointer (some ⟨M, 0, none⟩) | 2 => v = .pointer (some ⟨M, 0, none⟩) | 3 => v = .pointer (some ⟨M, 2, none⟩) | 4 => v = .slice fa CL fc | 5 => v = .agg #[.int .u64 C1, .int .u64 C2] | 6 => ∃ gb, v = .slice (some ⟨gb, 0, none⟩) 1 1 ∧ w1.heap.size ≤ gb ∧ World.cell? w8 ⟨gb, 0, none⟩ = some (.int .u64 C1) ∧ World.cell? w8 ⟨gb, 1, none⟩ = some (.int .u64 C2) | 7 => World.ownsRow w8 0 51 2 v (CL + 1) (flatC s.C ++ [.int .u64 C1, .int .u64 C2]) ∧ (Value.ownBlock v = Value.ownBlock (.slice fa CL fc) ∨ Value.ownBlock v = none ∨ ∃ g, w1.heap.size ≤ g ∧ Value.ownBlock v = some g) | 8 => v = .pointer (some ⟨M, 0, none⟩) | 9 => v = .pointer (some ⟨M, 2, none⟩) | _ => True) w1 (Value.ownBlock (.slice fa CL fc)) 7 10 (fun k => match k with | 13 => undef | 14 => undef | 15 => undef | 16 => undef | 17 => undef | 18 => undef | 19 => undef | 20 => undef | 21 => undef | 22 => undef | _ => undef) (by rfl) (by kernel_rfl) (by rfl) ⟨by kernel_rfl, by kernel_rfl, by kernel_rfl, by decide⟩ (by kernel_rfl) (Below.refl _ _) ?hput ?hinj ?stB ?stA ?step ?last
  case hput =>
    intro i hi ua v
    match i, hi with
    | 0, _ => rfl
    | 1, _ => rfl
    | 2, _ => rfl
    | 3, _ => rfl
    | 4, _ => rfl
    | 5, _ => rfl
    | 6, _ => rfl
    | 7, _ => rfl
    | 8, _ => rfl
    | 9, _ => rfl
    | i + 10, hi => exact absurd hi (by omega)
  case hinj =>
    intro i j hi hj h
    exact slots_inj [13, 14, 15, 16, 17, 18, 19, 20, 21, 22] (by decide) hi hj h
  case stB =>
    intro i v w8 w9 hb h
    match i, h with
    | 0, h => exact h
    | 1, h => exact h
    | 2, h => exact h
    | 3, h => exact h
    | 4, h => exact h
    | 5, h => exact h
    | 6, h =>
      obtain ⟨gb, e1, e2, e3, e4⟩ := h
      exact ⟨gb, e1, e2, keep hb e3, keep hb e4⟩
    | 7, h => exact ⟨own_kept h.1 fun g hg => hb.block g (World.ownsRow.lt h.1 g hg).2, h.2⟩
    | 8, h => exact h
    | 9, h => exact h
    | _ + 10, h => trivial
  case stA =>
    intro i v w8 w9 hne hb hg h
    match i, hne, h with
    | 0, _, h => exact h
    | 1, _, h => exact h
    | 2, _, h => exact h
    | 3, _, h => exact h
    | 4, _, h => exact h
    | 5, _, h => exact h
    | 6, _, h =>
      obtain ⟨gb, e1, e2, e3, e4⟩ := h
      have hk := hg.block gb (World.block_lt_of_cell? _ _ e3) (fun e => by have := HRl.out gb e.symm; omega)
      exact ⟨gb, e1, e2, (World.cell?_of_block (a := ⟨gb, 0, none⟩) hk).trans e3, (World.cell?_of_block (a := ⟨gb, 1, none⟩) hk).trans e4⟩
    | 7, hne, h => exact absurd rfl hne
    | 8, _, h => exact h
    | 9, _, h => exact h
    | _ + 10, _, h => trivial
  case step =>
    intro i hi ua w8 S8 hq hdep
    match i, hi, hq, hdep with
    | 0, _, hq, hdep =>
      clear hdep
      refine ⟨_, rfl, fun K' hK => ?_⟩
      go_simp
      exact hK.out _ _ (grown_refl _ _) (fun _ => Below.refl _ _) rfl
    | 1, _, hq, hdep =>
      clear hdep
      refine ⟨_, rfl, fun K' hK => ?_⟩
      go_simp
      exact hK.out _ _ (grown_refl _ _) (fun _ => Below.refl _ _) rfl
    | 2, _, hq, hdep =>
      have h1 : (ua 14) = .pointer (some ⟨M, 0, none⟩) := hdep 1 (by kernel_rfl)
      clear hdep
      refine ⟨_, rfl, fun K' hK => ?_⟩
      simp only [h1] at hK ⊢
      go_simp
      exact hK.out _ _ (grown_refl _ _) (fun _ => Below.refl _ _) rfl
    | 3, _, hq, hdep =>
      have h2 : (ua 15) = .pointer (some ⟨M, 0, none⟩) := hdep 2 (by kernel_rfl)
      clear hdep
      refine ⟨_, rfl, fun K' hK => ?_⟩
      simp only [h2] at hK ⊢
      go_simp
      exact hK.out _ _ (grown_refl _ _) (fun _ => Below.refl _ _) rfl
    | 4, _, hq, hdep =>
      have h3 : (ua 16) = .pointer (some ⟨M, 2, none⟩) := hdep 3 (by kernel_rfl)
      clear hdep
      refine ⟨_, rfl, fun K' hK => ?_⟩
      obtain ⟨qc, -, -⟩ := HMc.out w8 S8
      simp only [h3] at hK ⊢
      go_simp
      exact hK.out _ _ (grown_refl _ _) (fun _ => Below.refl _ _) rfl
    | 5, _, hq, hdep =>
      clear hdep
      refine ⟨_, rfl, fun K' hK => ?_⟩
      obtain ⟨q0, q1⟩ := HCb.out w8 S8
      go_simp
      exact hK.out _ _ (grown_refl _ _) (fun _ => Below.refl _ _) rfl
    | 6, _, hq, hdep =>
      have h5 : (ua 18) = .agg #[.int .u64 C1, .int .u64 C2] := hdep 5 (by kernel_rfl)
      clear hdep
      refine ⟨_, rfl, fun K' hK => ?_⟩
      simp only [h5] at hK ⊢
      go_simp
      exact hK.out _ _ (grown_below (by repeat (first | exact Below.refl _ _ | assumption | refine Below.drew ?_ | refine Below.alloc ?_ (by first | exact Nat.le_refl _ | omega | (simp; done) | (simp; omega)) _ | refine Below.setCell ?_ (by first | exact Nat.le_refl _ | omega | (simp; done) | (simp; omega)) _))) (fun _ => (by repeat (first | exact Below.refl _ _ | assumption | refine Below.drew ?_ | refine Below.alloc ?_ (by first | exact Nat.le_refl _ | omega | (simp; done) | (simp; omega)) _ | refine Below.setCell ?_ (by first | exact Nat.le_refl _ | omega | (simp; done) | (simp; omega)) _))) ⟨w8.heap.size, rfl, S8.size, by simp [go_sem], by simp [go_sem]⟩
    | 7, _, hq, hdep =>
      have h4 : (ua 17) = .slice fa CL fc := hdep 4 (by kernel_rfl)
      have h6 : ∃ gb, (ua 19) = .slice (some ⟨gb, 0, none⟩) 1 1 ∧ w1.heap.size ≤ gb ∧ World.cell? w8 ⟨gb, 0, none⟩ = some (.int .u64 C1) ∧ World.cell? w8 ⟨gb, 1, none⟩ = some (.int .u64 C2) := hdep 6 (by kernel_rfl)
      clear hdep
      refine ⟨_, rfl, fun K' hK => ?_⟩
      obtain ⟨gb, e6, hgb, hc6, hc7⟩ := h6
      refine step_append_at w8 rfl _ _ 64 rfl (some 20) rfl 0 51 i0 _ 2 16 Tryd.underlying64 HI.out HZ0.out HZ1.out HZ2.out rfl (by decide) _ _ _ h4 (HOw.out w8 (hq rfl)) ⟨gb, 0, none⟩ 1 1 [.int .u64 C1, .int .u64 C2] e6 rfl (fun t y ht => by rw [Addr.add_lit]; rcases t with _ | _ | t; exact (by injection ht with ht; rw [← ht]; exact hc6); exact (by injection ht with ht; rw [← ht]; exact hc7); cases ht) (fun y hy => by simp at hy; rcases hy with rfl | rfl <;> rfl) (by unfold maxLen; omega) (by omega) (Nat.zero_le _) ?_
      intro v' w' hown hg hat
      refine hK.out v' w' hg (fun h => absurd rfl h) ⟨hown, ?_⟩
      rcases hat with hat | hat
      · exact .inl hat
      · exact .inr (.inr ⟨_, S8.size, hat⟩)
    | 8, _, hq, hdep =>
      have h0 : (ua 13) = .pointer (some ⟨M, 0, none⟩) := hdep 0 (by kernel_rfl)
      clear hdep
      refine ⟨_, rfl, fun K' hK => ?_⟩
      simp only [h0] at hK ⊢
      go_simp
      exact hK.out _ _ (grown_refl _ _) (fun _ => Below.refl _ _) rfl
    | 9, _, hq, hdep =>
      have h8 : (ua 21) = .pointer (some ⟨M, 0, none⟩) := hdep 8 (by kernel_rfl)
      clear hdep
      refine ⟨_, rfl, fun K' hK => ?_⟩
      simp only [h8] at hK ⊢
      go_simp
      exact hK.out _ _ (grown_refl _ _) (fun _ => Below.refl _ _) rfl
    | i + 10, hi, _, _ => exact absurd hi (by omega)
  case last =>
    intro ua w8 S8 hall
    have h7 : World.ownsRow w8 0 51 2 (ua 20) (CL + 1) (flatC s.C ++ [.int .u64 C1, .int .u64 C2]) ∧ (Value.ownBlock (ua 20) = Value.ownBlock (.slice fa CL fc) ∨ Value.ownBlock (ua 20) = none ∨ ∃ g, w1.heap.size ≤ g ∧ Value.ownBlock (ua 20) = some g) := hall 7 (by decide)
    have h9 : (ua 22) = .pointer (some ⟨M, 2, none⟩) := hall 9 (by decide)
    clear hall
    refine ⟨_, rfl, fun K' hK => ?_⟩
    obtain ⟨vn, hvn⟩ : ∃ vn, ua 20 = vn := ⟨_, rfl⟩
    rw [hvn] at h7
    obtain ⟨va, vc, e7⟩ := own_form h7.1
    subst e7
    obtain ⟨qc, qf, -⟩ := HMc.out w8 S8
    obtain ⟨qs1, qs2⟩ := HSt.out w8 va vc S8 h7.1 h7.2
    have HS2 := hid qs1
    have HC2 := hid qs2
    clear qs1 qs2
    simp only [h9, hvn] at hK ⊢
    go_simp
    refine hK.out _ _ ?_
    clear h7 h9 hvn qc qf S8
    generalize w8.setCell ⟨M, 2, none⟩ (.slice va (CL + 1) vc) = w2 at *
    obtain ⟨F2, hF2⟩ : ∃ F2, (fun j => if j = 2 then Value.slice va (CL + 1) vc else F j) = F2 := ⟨_, rfl⟩
    rw [hF2] at HS2 HC2
    clear hF2
    have HTr : Hid (w2.ownsRow 0 83 2 (F2 3) s.W.length (flatP s.W)) := hid (HS2.out.rows 1002 (by omega))
    obtain ⟨ta, tc, hta⟩ := own_form HTr.out
    have c3 := HS2.out.cell (i := 3) (by omega)
    rw [hta] at c3 HTr
    have HF3 := hid hta
    rw [HWl.out] at c3 HTr
    have hM2 := HS2.out.lt.1
    have HM3 : Hid (∀ w3 : World, w2.grownBy w3 (Value.ownBlock (.slice ta CL tc)) → w3.frozen? ⟨M, 3, none⟩ = false ∧ w3.cell? ⟨M, 3, none⟩ = some (.slice ta CL tc)) := hid (fun w3 hg => by
      have hne : some M ≠ Value.ownBlock (.slice ta CL tc) := fun e => (HS2.out.off 1002 M (by rw [blk_ne (by omega)]; show (F2 3).ownBlock = _; rw [HF3.out, HWl.out]; exact e.symm)).1 rfl
      have hb := hg.block M hM2 hne
      exact ⟨(World.frozen?_of_block (a := ⟨M, 3, none⟩) hb).trans (HS2.out.frozen 3), (World.cell?_of_block (a := ⟨M, 3, none⟩) hb).trans c3⟩)
    have HS3 : Hid (∀ (w3 : World) (va : Option Addr) (vc : Nat), w2.grownBy w3 (Value.ownBlock (.slice ta CL tc)) → w3.ownsRow 0 83 2 (.slice va (CL + 1) vc) (CL + 1) (flatP s.W ++ [.int .i64 0, .int .i64 0]) → (Value.ownBlock (.slice va (CL + 1) vc) = Value.ownBlock (.slice ta CL tc) ∨ ∃ g, w2.heap.size ≤ g ∧ Value.ownBlock (.slice va (CL + 1) vc) = some g) → ∃ Fb, Sol 0 M mb Fb V (base1 s (C1, C2)) (w3.setCell ⟨M, 3, none⟩ (.slice va (CL + 1) vc)) ∧ Chg M mb (blk 0 F2 V) (blk 0 Fb V) w2 (w3.setCell ⟨M, 3, none⟩ (.slice va (CL + 1) vc))) := hid (fun w3 va vc hg ho hl => by
      have := Sol.store HS2.out (by omega) (a0 := 1002) (c := 3) (by simp) (v' := .slice va (CL + 1) vc) (s' := base1 s (C1, C2)) (w1 := w3) (by show w2.grownBy w3 (F2 3).ownBlock; rw [HF3.out, HWl.out]; exact hg) (by show w3.ownsRow 0 83 2 _ (s.W ++ [(0, 0)]).length (flatP (s.W ++ [(0, 0)])); rw [flatP_add, List.length_append, HWl.out]; exact ho) (by show _ = (F2 3).ownBlock ∨ _; rw [HF3.out, HWl.out]; rcases hl with hl | hl; exact .inl hl; exact .inr (.inr hl)) (fun a ha v w hr => by unfold RowA base1 at *; simpa [ha] using hr) rfl rfl rfl
      exact ⟨_, this.1, this.2⟩)
    clear hta
    go_wp2_with (at_builtin; (refine wpList_append_own_at _ rfl _ _ 65 rfl 0 83 j0 _ 2 16 Tryd.underlying65 HJ.out HY0.out HY1.out HY2.out rfl (by decide) _ _ _ rfl (World.ownsRow.alloc HTr.out _) ⟨w2.heap.size, 0, none⟩ 1 1 [.int .i64 0, .int .i64 0] rfl rfl (cell_two_new _ _ _ _) (fun x hx => by simp at hx; subst hx; rfl) (by unfold maxLen; omega) (by omega) (Nat.zero_le _) ?_); intro v' w3 hown' hgrow3 hnil3 hat3; obtain ⟨vb, vd, e3⟩ := own_form hown'; subst e3; have hg3 : w2.grownBy w3 (Value.ownBlock (.slice ta CL tc)) := (grown_below ((Below.refl _ w2).alloc (Nat.le_refl _) _)).trans hgrow3; obtain ⟨z7, k7⟩ := HM3.out w3 hg3; obtain ⟨Fb, q1, q2⟩ := HS3.out w3 vb vd hg3 hown' (by rcases hat3 with hat3 | hat3; exact .inl hat3; exact .inr ⟨_, by simp, hat3⟩); have HSb := hid q1; have HCc := hid q2; clear q1 q2 hown' hgrow3 hnil3 hat3 hg3)
    clear c3 z7 k7
    generalize w3.setCell ⟨M, 3, none⟩ (.slice vb (CL + 1) vd) = w4 at *
    have HCall : Hid (Chg M mb (blk 0 F V) (blk 0 Fb V) w1 w4) := hid (HC2.out.trans HCc.out)
    have k5 := HSb.out.cell (i := 5) (by omega)
    have k6 := HSb.out.cell (i := 6) (by omega)
    rw [HSb.out.f5] at k5
    rw [HSb.out.f6] at k6
    replace k5 : w4.cell? ⟨M, 5, none⟩ = some (.int .u64 s.H.1) := k5
    replace k6 : w4.cell? ⟨M, 6, none⟩ = some (.int .u64 s.H.2) := k6
    rw [HH1.out] at k5
    rw [HH2.out] at k6
    have HBx : Hid (w4.cell? ⟨w.heap.size, 0, none⟩ = some (.int .u64 C1) ∧ w4.cell? ⟨w.heap.size, 1, none⟩ = some (.int .u64 C2)) := hid ⟨box_far HS.out HCall.out HCb0.out.1, box_far HS.out HCall.out HCb0.out.2⟩
    have HK4 : Hid (∀ w8 : World, Below w4.heap.size w4 w8 → w8.cell? ⟨w.heap.size, 0, none⟩ = some (.int .u64 C1) ∧ w8.cell? ⟨w.heap.size, 1, none⟩ = some (.int .u64 C2) ∧ w8.cell? ⟨M, 5, none⟩ = some (.int .u64 H1) ∧ w8.cell? ⟨M, 6, none⟩ = some (.int .u64 H2)) := hid (fun w8 hb => ⟨keep hb HBx.out.1, keep hb HBx.out.2, keep hb k5, keep hb k6⟩)
    have HT4 := hid HSb.out.tab
    clear k5 k6 hM2
    refine region_below (fun ub => ⟨#[.pointer (some ⟨M, 0, none⟩), .agg #[.int .u64 C1, .int .u64 C2], undef, .pointer (some ⟨w.heap.size, 0, none⟩), .int .i64 CL, ub 5, undef, undef, .pointer (some ⟨M, 0, none⟩), .pointer (some ⟨M, 0, none⟩), .pointer (some ⟨M, 2, none⟩), .slice fa CL fc, .int .i64 CL, ua 13, ua 14, ua 15, ua 16, ua 17, ua 18, ua 19, .slice va (CL + 1) vc, ua 21, .pointer (some ⟨M, 2, none⟩), .pointer (some ⟨M, 0, none⟩), .pointer (some ⟨M, 0, none⟩), .pointer (some ⟨M, 0, none⟩), .pointer (some ⟨M, 3, none⟩), .slice ta CL tc, .agg #[.int .i64 0, .int .i64 0], .slice (some ⟨w2.heap.size, 0, none⟩) 1 1, .slice vb (CL + 1) vd, .pointer (some ⟨M, 0, none⟩), .pointer (some ⟨M, 3, none⟩), ub 33, ub 34, ub 35, ub 36, ub 37, ub 38, ub 39, undef, undef, undef, undef, undef, undef, undef, undef, undef, undef, undef, undef, undef, undef, undef, undef, undef, undef, undef, undef, undef, undef, undef, undef, undef], []⟩) (fun i => [33, 34, 35, 36, 37, 38, 39, 5].getD i 0) (fun i v w8 => match i with | 0 => v = .agg #[.int .u64 C1, .int .u64 C2] | 1 => v = .pointer (some ⟨M, 0, none⟩) | 2 => v = .pointer (some ⟨M, 0, none⟩) | 3 => v = .pointer (some ⟨M, 5, none⟩) | 4 => v = .agg #[.int .u64 H1, .int .u64 H2] | 5 => v = .agg #[.int .u64 H2, .int .u64 H1] | 6 => v = .agg #[.int .u64 R1, .int .u64 R2] | 7 => ∃ N, v = .pointer (some ⟨N, 0, none⟩) ∧ w4.heap.size ≤ N ∧ SetAt w8 N 0 0 | _ => True) w4 8 (fun k => match k with | 33 => undef | 34 => undef | 35 => undef | 36 => undef | 37 => undef | 38 => undef | 39 => undef | 5 => undef | _ => undef) (by rfl) (by kernel_rfl) (by rfl) ⟨by kernel_rfl, by kernel_rfl, by kernel_rfl, by decide⟩ (by kernel_rfl) (Below.refl _ _) ?hput ?hinj ?stable ?step ?last
    case hput =>
      intro i hi ub v
      match i, hi with
      | 0, _ => rfl
      | 1, _ => rfl
      | 2, _ => rfl
      | 3, _ => rfl
      | 4, _ => rfl
      | 5, _ => rfl
      | 6, _ => rfl
      | 7, _ => rfl
      | i + 8, hi => exact absurd hi (by omega)
    case hinj =>
      intro i j hi hj h
      exact slots_inj [33, 34, 35, 36, 37, 38, 39, 5] (by decide) hi hj h
    case stable =>
      intro i v w8 w9 hb h
      match i, h with
      | 0, h => exact h
      | 1, h => exact h
      | 2, h => exact h
      | 3, h => exact h
      | 4, h => exact h
      | 5, h => exact h
      | 6, h => exact h
      | 7, h => (obtain ⟨N, e1, e2, e3⟩ := h; exact ⟨N, e1, e2, e3.below hb⟩)
      | _ + 8, h => trivial
    case step =>
      intro i hi ub w8 S8 hdep
      match i, hi with
      | 0, _ =>
        clear hdep
        refine ⟨_, rfl, fun K' hK => ?_⟩
        obtain ⟨y0, y1, y2, y3⟩ := HK4.out w8 S8
        go_simp
        exact hK.out _ _ (Below.refl _ _) rfl
      | 1, _ =>
        clear hdep
        refine ⟨_, rfl, fun K' hK => ?_⟩
        go_simp
        exact hK.out _ _ (Below.refl _ _) rfl
      | 2, _ =>
        have h1 : (ub 34) = .pointer (some ⟨M, 0, none⟩) := hdep 1 (by kernel_rfl)
        clear hdep
        refine ⟨_, rfl, fun K' hK => ?_⟩
        simp only [h1] at hK ⊢
        go_simp
        exact hK.out _ _ (Below.refl _ _) rfl
      | 3, _ =>
        have h2 : (ub 35) = .pointer (some ⟨M, 0, none⟩) := hdep 2 (by kernel_rfl)
        clear hdep
        refine ⟨_, rfl, fun K' hK => ?_⟩
        simp only [h2] at hK ⊢
        go_simp
        exact hK.out _ _ (Below.refl _ _) rfl
      | 4, _ =>
        have h3 : (ub 36) = .pointer (some ⟨M, 5, none⟩) := hdep 3 (by kernel_rfl)
        clear hdep
        refine ⟨_, rfl, fun K' hK => ?_⟩
        obtain ⟨y0, y1, y2, y3⟩ := HK4.out w8 S8
        simp only [h3] at hK ⊢
        go_simp
        exact hK.out _ _ (Below.refl _ _) rfl
      | 5, _ =>
        have h4 : (ub 37) = .agg #[.int .u64 H1, .int .u64 H2] := hdep 4 (by kernel_rfl)
        clear hdep
        refine ⟨_, rfl, fun K' hK => ?_⟩
        simp only [h4] at hK ⊢
        go_simp
        refine (HTu.out _).mono ?_
        rintro e w9 ⟨rfl, hb9⟩
        exact hK.out _ _ hb9 rfl
      | 6, _ =>
        have h0 : (ub 33) = .agg #[.int .u64 C1, .int .u64 C2] := hdep 0 (by kernel_rfl)
        have h5 : (ub 38) = .agg #[.int .u64 H2, .int .u64 H1] := hdep 5 (by kernel_rfl)
        clear hdep
        refine ⟨_, rfl, fun K' hK => ?_⟩
        simp only [h0, h5] at hK ⊢
        go_simp
        refine (HWo.out _).mono ?_
        rintro e w9 ⟨rfl, hb9⟩
        exact hK.out _ _ hb9 rfl
      | 7, _ =>
        clear hdep
        refine ⟨_, rfl, fun K' hK => ?_⟩
        go_simp
        exact hK.out _ _ (by repeat (first | exact Below.refl _ _ | assumption | refine Below.drew ?_ | refine Below.alloc ?_ (by first | exact Nat.le_refl _ | omega | (simp; done) | (simp; omega)) _ | refine Below.setCell ?_ (by first | exact Nat.le_refl _ | omega | (simp; done) | (simp; omega)) _)) ⟨w8.heap.size, rfl, S8.size, SetAt.new w8 0 0⟩
      | i + 8, hi => exact absurd hi (by omega)
    case last =>
      intro ub w8 S8 hall
      have h6 : (ub 39) = .agg #[.int .u64 R1, .int .u64 R2] := hall 6 (by decide)
      have h7 : ∃ N, (ub 5) = .pointer (some ⟨N, 0, none⟩) ∧ w4.heap.size ≤ N ∧ SetAt w8 N 0 0 := hall 7 (by decide)
      clear hall
      refine ⟨_, rfl, fun K' hK => ?_⟩
      obtain ⟨N, e7, hN, hs⟩ := h7
      obtain ⟨z0, z1, z2, z3⟩ := hs.facts
      simp only [e7, h6] at hK ⊢
      go_simp
      refine hK.out _ _ ?_
      have HN := hid (hs.put R1 R2)
      have HB8 : Hid (Below w4.heap.size w4 ((w8.setCell ⟨N, 0, none⟩ (.int .u64 R1)).setCell ⟨N, 1, none⟩ (.int .u64 R2))) := hid ((S8.setCell (by dsimp only; omega) _).setCell (by dsimp only; omega) _)
      clear hs z0 z1 z2 z3 S8 h6 e7
      generalize (w8.setCell ⟨N, 0, none⟩ (.int .u64 R1)).setCell ⟨N, 1, none⟩ (.int .u64 R2) = w5 at *
      obtain ⟨z0, z1, -, -⟩ := HN.out.facts
      go_wp2_with fail
      refine (HFi.out w5 (tab_below HT4.out HB8.out)).mono ?_
      rintro e w6 ⟨rfl, hb6⟩
      have HB6 := hid (HB8.out.trans (hb6.mono HB8.out.size))
      have HN6 := hid (HN.out.below hb6)
      clear hb6 z0 z1
      obtain ⟨z0, z1, -, -⟩ := HN6.out.facts
      by_cases h0 : on = 0
      · have d0 : (on == 0) = true := by simp [h0]
        have HA : Hid (addT s (C1, C2) = { base1 s (C1, C2) with F := failF s.F CL }) := hid (HA0.out h0)
        clear h0
        go_wp2_with (go_at_call 56; refine (fail_impl 0 M mb Fb V (base1 s (C1, C2)) w6 (HSb.out.below HB6.out) (by omega) CL (by omega) HFf.out).mono ?_; rintro e w7 ⟨rfl, F', q1, q2, -⟩; have HQ1 := hid q1; have HQ2 := hid q2; clear q1 q2)
        refine bodyPost_ret (results_none rfl _ _ _) rfl ?_
        exact ⟨rfl, F', V, by rw [HA.out]; exact HQ1.out, HV0.out, HCw.out.trans ((HCall.out.trans (Chg.below HB6.out)).trans HQ2.out)⟩
      · have d0 : (on == 0) = false := by simp [h0]
        have HO0 := hid h0
        clear h0
        go_wp2_with fail
        refine region_calm (fun uc => ⟨#[.pointer (some ⟨M, 0, none⟩), .agg #[.int .u64 C1, .int .u64 C2], undef, .pointer (some ⟨w.heap.size, 0, none⟩), .int .i64 CL, .pointer (some ⟨N, 0, none⟩), .int .i64 on, uc 7, .pointer (some ⟨M, 0, none⟩), .pointer (some ⟨M, 0, none⟩), .pointer (some ⟨M, 2, none⟩), .slice fa CL fc, .int .i64 CL, ua 13, ua 14, ua 15, ua 16, ua 17, ua 18, ua 19, .slice va (CL + 1) vc, ua 21, .pointer (some ⟨M, 2, none⟩), .pointer (some ⟨M, 0, none⟩), .pointer (some ⟨M, 0, none⟩), .pointer (some ⟨M, 0, none⟩), .pointer (some ⟨M, 3, none⟩), .slice ta CL tc, .agg #[.int .i64 0, .int .i64 0], .slice (some ⟨w2.heap.size, 0, none⟩) 1 1, .slice vb (CL + 1) vd, .pointer (some ⟨M, 0, none⟩), .pointer (some ⟨M, 3, none⟩), ub 33, ub 34, ub 35, ub 36, ub 37, ub 38, .agg #[.int .u64 R1, .int .u64 R2], .agg #[.int .u64 R1, .int .u64 R2], .int .i64 on, .int .i64 on, .bool false, undef, undef, undef, uc 47, uc 48, uc 49, uc 50, uc 51, undef, undef, undef, undef, undef, undef, undef, undef, undef, undef, undef, undef, undef], []⟩) (fun i => [47, 48, 49, 50, 51, 7].getD i 0) (fun i v w8 => match i with | 0 => v = .agg #[.int .u64 R1, .int .u64 R2] | 1 => v = .int .i64 on | 2 => v = .agg #[.int .u64 P2, .int .u64 O2] | 3 => v = .agg #[.int .u64 N1, .int .u64 N2] | 4 => v = .int .i64 ot | 5 => v = .int .i64 ot | _ => True) w6 6 (fun k => match k with | 47 => undef | 48 => undef | 49 => undef | 50 => undef | 51 => undef | 7 => undef | _ => undef) (by rfl) (by kernel_rfl) (by rfl) (by kernel_rfl) (Below.refl _ _) ?hput ?hinj ?stable ?step ?fin
        case hput =>
          intro i hi uc v
          match i, hi with
          | 0, _ => rfl
          | 1, _ => rfl
          | 2, _ => rfl
          | 3, _ => rfl
          | 4, _ => rfl
          | 5, _ => rfl
          | i + 6, hi => exact absurd hi (by omega)
        case hinj =>
          intro i j hi hj h
          exact slots_inj [47, 48, 49, 50, 51, 7] (by decide) hi hj h
        case stable =>
          intro i v w8 w9 hb h
          match i, hb, h with
          | 0, hb, h => exact h
          | 1, hb, h => exact h
          | 2, hb, h => exact h
          | 3, hb, h => exact h
          | 4, hb, h => exact h
          | 5, hb, h => exact h
          | _ + 6, hb, h => trivial
        case step =>
          intro i hi uc w8 S8 hdep
          match i, hi, hdep with
          | 0, _, hdep =>
            clear hdep
            refine ⟨_, rfl, fun K' hK => ?_⟩
            obtain ⟨x0, x1, -, -⟩ := (HN6.out.below S8).facts
            go_simp
            exact hK.out _ _ (Below.refl _ _) rfl
          | 1, _, hdep =>
            clear hdep
            refine ⟨_, rfl, fun K' hK => ?_⟩
            go_simp
            exact hK.out _ _ (Below.refl _ _) rfl
          | 2, _, hdep =>
            have h1 : (uc 48) = .int .i64 on := hdep 1 (by kernel_rfl)
            clear hdep
            refine ⟨_, rfl, fun K' hK => ?_⟩
            simp only [h1] at hK ⊢
            go_simp
            refine (HOn.out HO0.out _).mono ?_
            rintro e w9 ⟨rfl, hb9⟩
            exact hK.out _ _ hb9 rfl
          | 3, _, hdep =>
            have h0 : (uc 47) = .agg #[.int .u64 R1, .int .u64 R2] := hdep 0 (by kernel_rfl)
            have h2 : (uc 49) = .agg #[.int .u64 P2, .int .u64 O2] := hdep 2 (by kernel_rfl)
            clear hdep
            refine ⟨_, rfl, fun K' hK => ?_⟩
            simp only [h0, h2] at hK ⊢
            go_simp
            refine (HW2.out HO0.out _).mono ?_
            rintro e w9 ⟨rfl, hb9⟩
            exact hK.out _ _ hb9 rfl
          | 4, _, hdep =>
            have h3 : (uc 50) = .agg #[.int .u64 N1, .int .u64 N2] := hdep 3 (by kernel_rfl)
            clear hdep
            refine ⟨_, rfl, fun K' hK => ?_⟩
            simp only [h3] at hK ⊢
            go_simp
            refine (HF2.out _ (tab_below HT4.out (HB6.out.trans (S8.mono HB6.out.size)))).mono ?_
            rintro e w9 ⟨rfl, hb9⟩
            exact hK.out _ _ hb9 rfl
          | 5, _, hdep =>
            have h4 : (uc 51) = .int .i64 ot := hdep 4 (by kernel_rfl)
            clear hdep
            refine ⟨_, rfl, fun K' hK => ?_⟩
            simp only [h4] at hK ⊢
            go_simp
            exact hK.out _ _ (Below.refl _ _) rfl
          | i + 6, hi, _ => exact absurd hi (by omega)
        case fin =>
          intro uc w7 S8 hall
          have h5 : (uc 7) = .int .i64 ot := hall 5 (by decide)
          clear hall
          rw [h5]
          have HB7 := hid (HB6.out.trans (S8.mono HB6.out.size))
          clear h5 S8 z0 z1
          obtain ⟨y0, y1, y2, y3⟩ := HK4.out w7 HB7.out
          by_cases h1 : ot = 0
          · have d1 : (ot == 0) = true := by simp [h1]
            have HA : Hid (addT s (C1, C2) = solWatch.watS { base1 s (C1, C2) with D := insS CL s.D } CL on (lastF s.T (C1, C2))) := hid (HA1.out HO0.out h1)
            clear h1
            go_wp2_with fail
            refine (expect_impl 0 M mb Fb V (base1 s (C1, C2)) w7 (HSb.out.below HB7.out) (by omega) CL (by omega) HDl.out HDs.out).mono ?_
            rintro e wa ⟨rfl, Fc, q1, q2, -⟩
            have HQ1 := hid q1
            have HQ2 := hid q2
            have x0 := box_far HS.out ((HCall.out.trans (Chg.below HB7.out)).trans q2) HCb0.out.1
            have x1 := box_far HS.out ((HCall.out.trans (Chg.below HB7.out)).trans q2) HCb0.out.2
            obtain ⟨na, nc, htn, hrn⟩ := trail_row q1
            have HTn := hid htn
            have HRn : Hid (Row2 wa na s.T.length s.T) := hid hrn
            replace htn : wa.cell? ⟨M, 7, none⟩ = some (.slice na s.T.length nc) := htn
            have HTn := hid htn
            have HLf := hid (last_impl na s.T.length nc M C1 C2 s.T wa htn hrn HWc.out HTT.out.2.1)
            have HYy := hid (last_range HTT.out.2.1 (c := (C1, C2)))
            clear q1 q2 y0 y1 y2 y3 htn hrn
            generalize lastF s.T (C1, C2) = yy at *
            generalize s.T.length = tlen at *
            go_wp2_with fail
            refine HLf.out.mono ?_
            rintro e wb ⟨rfl, hbb⟩
            have HSw := hid (HQ1.out.below hbb)
            have HBb := hid hbb
            clear hbb x0 x1
            go_wp2_with fail
            refine (solWatch.watch_impl 0 M mb Fc V { base1 s (C1, C2) with D := insS CL s.D } wb HSw.out (by omega) CL on yy HWn.out.1 HWn.out.2 ⟨HO0.out, HRo.out.1, HRo.out.2, HO0.out⟩ ⟨HYy.out.1, HYy.out.2, fun e => e⟩ HLl.out).mono ?_
            rintro e wd ⟨rfl, V', q1, q2, qv⟩
            have HQ3 := hid q1
            have HQ4 := hid q2
            have HVn := hid (qv.trans HV0.out)
            clear q1 q2 qv
            go_wp2_with fail
            go_end0
            exact ⟨rfl, Fc, V', by rw [HA.out]; exact HQ3.out, HVn.out, HCw.out.trans ((((HCall.out.trans (Chg.below HB7.out)).trans HQ2.out).trans (Chg.below HBb.out)).trans HQ4.out)⟩
          · have d1 : (ot == 0) = false := by simp [h1]
            have HA : Hid (addT s (C1, C2) = solWatch.watS (base1 s (C1, C2)) CL on ot) := hid (HA2.out HO0.out h1)
            have HO1 := hid h1
            clear h1
            go_wp2_with fail
            refine (solWatch.watch_impl 0 M mb Fb V (base1 s (C1, C2)) w7 (HSb.out.below HB7.out) (by omega) CL on ot HWn.out.1 HWn.out.2 ⟨HO0.out, HRo.out.1, HRo.out.2, HO0.out⟩ ⟨HRt.out.1, HRt.out.2, fun _ => HO1.out⟩ HLl.out).mono ?_
            rintro e wd ⟨rfl, V', q1, q2, qv⟩
            have HQ3 := hid q1
            have HQ4 := hid q2
            have HVn := hid (qv.trans HV0.out)
            clear q1 q2 qv
            go_wp2_with fail
            go_end0
            exact ⟨rfl, Fb, V', by rw [HA.out]; exact HQ3.out, HVn.out, HCw.out.trans ((HCall.out.trans (Chg.below HB7.out)).trans HQ4.out)⟩
end Go.Proofs.YtbahjpheaaiamaaDoor.solAddI
