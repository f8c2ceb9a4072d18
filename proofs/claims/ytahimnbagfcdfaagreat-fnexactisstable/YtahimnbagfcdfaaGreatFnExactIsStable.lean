/- For every network, announcements, flags and routes IsStable answers as its specification (the answer and the code); the arguments are as they were; conditions: none. -/
import Derived.Test.YtahimnbagfcdfaaGreatStabAll
import Derived.Test.YtahimnbagfcdfaaGreatNetWhole
import Derived.Test.YtahimnbagfcdfaaGreatNetArgs
import Derived.Test.YtahimnbagfcdfaaGreatRouteArgs
namespace Go.Proofs.YtahimnbagfcdfaaGreat.fnExactIsStable
open Go.ChangeShapes Go.WideShapes Go.ChangeAt Go.RowKit Go.Deep Go.Joins base copy names netSem netCopy netWhole netOKImpl netOKSpec netArgs args intsOwn nbSem routeRow walkSem routesB candSem sceneFault sceneFace stabFace stabFaceS
set_option linter.unusedVariables false

set_option maxHeartbeats 12800000 in
set_option maxRecDepth 8000 in
theorem walk (p : Nat → Option Addr) (l c : Nat → Nat) (s : Ss) (g : R) (o e : List Int) (x f : R) (ea da ra : Option Addr) (el ec dl dc rl rc : Nat) (env : List Int) (ds : List Bool) (rs : Rs) (w : World) (h : NetIs w p l s g o e x f) (he : IntRow w ea el env) (hd : BoolRow w da dl ds) (hr : RtRow w ra rl rs) :
    Calls Tryz.prog 4 #[netV p l c, .slice ea el ec, .slice da dl dc, .slice ra rl rc] w fun e' w' => e' = .returned (.bool true) ∧ Below w.heap.size w w' := by
  have HN := hid h
  have HV := hid he
  have HD := hid hd
  have HT := hid hr
  have HVn := hid he.length
  have HDn := hid hd.length
  have me := he.most
  have md := hd.most
  have mr := hr.most
  have MR := hid mr
  unfold maxLen at me md mr
  have HM : Hid (∀ i, i < 6 → l i ≤ maxLen) := fun i hi => by
    match i, hi with
    | 0, _ => exact h.routers.most
    | 1, _ => exact h.links.most
    | 2, _ => exact h.origins.most
    | 3, _ => exact h.externals.most
    | 4, _ => exact h.imports.most
    | 5, _ => exact h.filters.most
    | i + 6, hi => exact absurd hi (by omega)
  have HS := hid h.routers.size
  have HO := hid h.origins.length
  have HE := hid h.externals.length
  clear h he hd hr
  have C1 : ∀ w8 : World, Below ((w.alloc (.cells #[.slice (p 0) (l 0) (c 0), .slice (p 1) (l 1) (c 1), .slice (p 2) (l 2) (c 2), .slice (p 3) (l 3) (c 3), .slice (p 4) (l 4) (c 4), .slice (p 5) (l 5) (c 5)] 28))).heap.size (w.alloc (.cells #[.slice (p 0) (l 0) (c 0), .slice (p 1) (l 1) (c 1), .slice (p 2) (l 2) (c 2), .slice (p 3) (l 3) (c 3), .slice (p 4) (l 4) (c 4), .slice (p 5) (l 5) (c 5)] 28)) w8 → (w8.cell? ⟨w.heap.size, 0, none⟩ = some (.slice (p 0) (l 0) (c 0)) ∧ w8.cell? ⟨w.heap.size, 1, none⟩ = some (.slice (p 1) (l 1) (c 1)) ∧ w8.cell? ⟨w.heap.size, 2, none⟩ = some (.slice (p 2) (l 2) (c 2)) ∧ w8.cell? ⟨w.heap.size, 3, none⟩ = some (.slice (p 3) (l 3) (c 3)) ∧ w8.cell? ⟨w.heap.size, 4, none⟩ = some (.slice (p 4) (l 4) (c 4)) ∧ w8.cell? ⟨w.heap.size, 5, none⟩ = some (.slice (p 5) (l 5) (c 5))) ∧ NetIs w8 p l s g o e x f ∧ IntRow w8 ea el env ∧ BoolRow w8 da dl ds ∧ RtRow w8 ra rl rs ∧ Below w.heap.size w w8 ∧ w.heap.size < w8.heap.size :=
    fun w8 hb => ⟨⟨keep hb (by simp [go_sem]), keep hb (by simp [go_sem]), keep hb (by simp [go_sem]), keep hb (by simp [go_sem]), keep hb (by simp [go_sem]), keep hb (by simp [go_sem])⟩, (HN.out.below (by repeat (first | exact Below.refl _ _ | assumption | refine Below.drew ?_ | refine Below.alloc ?_ (by first | exact Nat.le_refl _ | omega | (simp; done) | (simp; omega)) _ | refine Below.setCell ?_ (by first | exact Nat.le_refl _ | omega | (simp; done) | (simp; omega)) _))).below hb, (HV.out.below (by repeat (first | exact Below.refl _ _ | assumption | refine Below.drew ?_ | refine Below.alloc ?_ (by first | exact Nat.le_refl _ | omega | (simp; done) | (simp; omega)) _ | refine Below.setCell ?_ (by first | exact Nat.le_refl _ | omega | (simp; done) | (simp; omega)) _))).below hb, (HD.out.below (by repeat (first | exact Below.refl _ _ | assumption | refine Below.drew ?_ | refine Below.alloc ?_ (by first | exact Nat.le_refl _ | omega | (simp; done) | (simp; omega)) _ | refine Below.setCell ?_ (by first | exact Nat.le_refl _ | omega | (simp; done) | (simp; omega)) _))).below hb, (HT.out.below (by repeat (first | exact Below.refl _ _ | assumption | refine Below.drew ?_ | refine Below.alloc ?_ (by first | exact Nat.le_refl _ | omega | (simp; done) | (simp; omega)) _ | refine Below.setCell ?_ (by first | exact Nat.le_refl _ | omega | (simp; done) | (simp; omega)) _))).below hb, (show Below w.heap.size w _ from (by repeat (first | exact Below.refl _ _ | assumption | refine Below.drew ?_ | refine Below.alloc ?_ (by first | exact Nat.le_refl _ | omega | (simp; done) | (simp; omega)) _ | refine Below.setCell ?_ (by first | exact Nat.le_refl _ | omega | (simp; done) | (simp; omega)) _))).trans (hb.mono (by simp)), Nat.lt_of_lt_of_le (by simp) hb.size⟩
  have HC1 := hid C1
  clear C1
  obtain ⟨A, hA⟩ : ∃ A, (stabA (rtC (netB l s g o e x f) (routesB g (l 1) (l 0) rl rs) el dl rl (l 3) (l 1) env) (stabB g (l 1) o e x (l 4) env ds rs (l 0))) = A := ⟨_, rfl⟩
  have EA := hid hA
  obtain ⟨C, hC⟩ : ∃ C, rtC (netB l s g o e x f) (routesB g (l 1) (l 0) rl rs) el dl rl (l 3) (l 1) env = C := ⟨_, rfl⟩
  have EC := hid hC
  rw [hC] at EA
  have hdV : decide (env = env) = true := decide_eq_true rfl
  have hdD : decide (ds = ds) = true := decide_eq_true rfl
  have hqC : (C != C) = false := by simp
  have hqA : (!(A == A)) = false := by simp
  clear hC hA
  unfold netV
  by_cases hbig0 : 1048576 < el
  · have d0 : decide ((1048576 : Int) < (el : Int)) = true := decide_eq_true (by omega)
    go_enter Tryz.func4, Tryz.ntmps4
    go_wp2
    go_ret
    exact ⟨rfl, (by repeat (first | exact Below.refl _ _ | assumption | refine Below.drew ?_ | refine Below.alloc ?_ (by first | exact Nat.le_refl _ | omega | (simp; done) | (simp; omega)) _ | refine Below.setCell ?_ (by first | exact Nat.le_refl _ | omega | (simp; done) | (simp; omega)) _))⟩
  have d0 : decide ((1048576 : Int) < (el : Int)) = false := decide_eq_false (by omega)
  by_cases hbig : 1048576 < dl
  · have d1 : decide ((1048576 : Int) < (dl : Int)) = true := decide_eq_true (by omega)
    go_enter Tryz.func4, Tryz.ntmps4
    go_wp2
    go_ret
    exact ⟨rfl, (by repeat (first | exact Below.refl _ _ | assumption | refine Below.drew ?_ | refine Below.alloc ?_ (by first | exact Nat.le_refl _ | omega | (simp; done) | (simp; omega)) _ | refine Below.setCell ?_ (by first | exact Nat.le_refl _ | omega | (simp; done) | (simp; omega)) _))⟩
  have d1 : decide ((1048576 : Int) < (dl : Int)) = false := decide_eq_false (by omega)
  have hel : el ≤ 1048576 := by omega
  have hdl : dl ≤ 1048576 := by omega
  go_enter Tryz.func4, Tryz.ntmps4
  go_wp2_with fail
  refine (szNet p l c s g o e x f 1048576 _ (HN.out.below (by repeat (first | exact Below.refl _ _ | assumption | refine Below.drew ?_ | refine Below.alloc ?_ (by first | exact Nat.le_refl _ | omega | (simp; done) | (simp; omega)) _ | refine Below.setCell ?_ (by first | exact Nat.le_refl _ | omega | (simp; done) | (simp; omega)) _))) (by omega) (by omega)).mono ?_
  rintro e' w1 ⟨r, rfl, hb, hr1, hr2, hr3⟩
  have H3 := hid hr3
  have HB := hid hb
  obtain ⟨⟨q0, q1, q2, q3, q4, q5⟩, hn, hv, hd, ht, hB, hz⟩ := HC1.out w1 hb
  have NW := hid hn
  have VW := hid hv
  have DW := hid hd
  have TW := hid ht
  clear hr3 hn hv hd ht
  by_cases hneg : r < 0
  · clear hb
    go_wp2
    go_ret
    exact ⟨rfl, hB⟩
  have HL := hid (H3.out (by omega))
  go_wp2_with fail
  refine (szRouteS ra rl rc r _ MR.out (by omega) (by omega)).mono ?_
  rintro e' w1q ⟨rfl, hw⟩
  have hw := hw.symm
  subst hw
  by_cases hneg2 : r < (rl : Int)
  · rw [if_pos hneg2]
    clear hb
    go_wp2
    go_ret
    exact ⟨rfl, hB⟩
  rw [if_neg hneg2]
  have hrl : rl ≤ 1048576 := by omega
  have hneg3 : decide (r - (rl : Int) < 0) = false := decide_eq_false (by omega)
  clear hb hB hneg2

  go_wp2_with fail
  refine (toNet p l c s g o e x f _ NW.out HL.out).mono ?_
  rintro e' w2 ⟨Na, rfl, hb, hc⟩
  have HB := hid (HB.out.trans (hb.mono HB.out.size))
  clear q0 q1 q2 q3 q4 q5 hz NW VW DW TW
  obtain ⟨⟨q0, q1, q2, q3, q4, q5⟩, hn, hv, hd, ht, -, hz⟩ := HC1.out w2 HB.out
  have NW := hid hn
  have VW := hid hv
  have DW := hid hd
  have TW := hid ht
  clear hn hv hd ht
  have CA := hid (hc.net HM.out HS.out HO.out HE.out)
  clear hc hb
  unfold netV
  go_wp2_with fail
  refine (toIntN ea el ec env _ VW.out hel).mono ?_
  rintro e' w3 ⟨Ia, rfl, -, hb, -, hr⟩
  have HB := hid (HB.out.trans (hb.mono HB.out.size))
  have CA := hid (CA.out.below hb)
  clear q0 q1 q2 q3 q4 q5 hz NW VW DW TW
  obtain ⟨⟨q0, q1, q2, q3, q4, q5⟩, hn, hv, hd, ht, -, hz⟩ := HC1.out w3 HB.out
  have NW := hid hn
  have VW := hid hv
  have DW := hid hd
  have TW := hid ht
  clear hn hv hd ht
  have IA := hid hr
  clear hr hb
  go_wp2_with fail
  refine (toBoolN da dl dc ds _ DW.out hdl).mono ?_
  rintro e' w4 ⟨Ma, rfl, -, hb, -, hr⟩
  have HB := hid (HB.out.trans (hb.mono HB.out.size))
  have CA := hid (CA.out.below hb)
  have IA := hid (IA.out.below hb)
  clear q0 q1 q2 q3 q4 q5 hz NW VW DW TW
  obtain ⟨⟨q0, q1, q2, q3, q4, q5⟩, hn, hv, hd, ht, -, hz⟩ := HC1.out w4 HB.out
  have NW := hid hn
  have VW := hid hv
  have DW := hid hd
  have TW := hid ht
  clear hn hv hd ht
  have RA := hid hr
  clear hr hb
  go_wp2_with fail
  refine (toRouteS ra rl rc rs _ TW.out hrl).mono ?_
  rintro e' w5 ⟨Ta, rfl, -, hb, hr⟩
  have HB := hid (HB.out.trans (hb.mono HB.out.size))
  have CA := hid (CA.out.below hb)
  have IA := hid (IA.out.below hb)
  have RA := hid (RA.out.below hb)
  clear q0 q1 q2 q3 q4 q5 hz NW VW DW TW
  obtain ⟨⟨q0, q1, q2, q3, q4, q5⟩, hn, hv, hd, ht, -, hz⟩ := HC1.out w5 HB.out
  have NW := hid hn
  have VW := hid hv
  have DW := hid hd
  have TW := hid ht
  clear hn hv hd ht
  have TA := hid (hr.is MR.out)
  clear hr hb
  go_wp2_with fail
  refine (isStable_spec (fun i => some ⟨Na i, 0, none⟩) l l s g o e x f (some ⟨Ia, 0, none⟩) (some ⟨Ma, 0, none⟩) (some ⟨Ta, 0, none⟩) el el dl dl rl rl env ds rs _ CA.out (Nat.le_refl _) (Nat.le_refl _) IA.out RA.out TA.out).mono ?_
  rintro e' w6 ⟨rfl, hb⟩
  rw [EC.out, EA.out]
  have HB := hid (HB.out.trans (hb.mono HB.out.size))
  clear q0 q1 q2 q3 q4 q5 hz NW VW DW TW
  obtain ⟨⟨q0, q1, q2, q3, q4, q5⟩, hn, hv, hd, ht, -, hz⟩ := HC1.out w6 HB.out
  have NW := hid hn
  have VW := hid hv
  have DW := hid hd
  have TW := hid ht
  clear hn hv hd ht
  clear hb CA IA RA TA
  have HB6s := hid HB.out.size
  go_wp2_with fail
  refine (toNet p l c s g o e x f _ NW.out HL.out).mono ?_
  rintro e' w7 ⟨Nb, rfl, hb, hc⟩
  have HB := hid (HB.out.trans (hb.mono HB.out.size))
  clear q0 q1 q2 q3 q4 q5 hz NW VW DW TW
  obtain ⟨⟨q0, q1, q2, q3, q4, q5⟩, hn, hv, hd, ht, -, hz⟩ := HC1.out w7 HB.out
  have NW := hid hn
  have VW := hid hv
  have DW := hid hd
  have TW := hid ht
  clear hn hv hd ht
  have CB := hid hc
  have NL := hid (And.intro (show w6.heap.size ≤ Nb 0 from hc.low) (And.intro hc.up hc.lt))
  clear hc hb
  unfold netV
  go_wp2_with fail
  have HA7 : Hid (Below w7.heap.size w7 (w7.alloc (.cells #[.slice (some ⟨Nb 0, 0, none⟩) (l 0) (l 0), .slice (some ⟨Nb 1, 0, none⟩) (l 1) (l 1), .slice (some ⟨Nb 2, 0, none⟩) (l 2) (l 2), .slice (some ⟨Nb 3, 0, none⟩) (l 3) (l 3), .slice (some ⟨Nb 4, 0, none⟩) (l 4) (l 4), .slice (some ⟨Nb 5, 0, none⟩) (l 5) (l 5)] 40))) := (by repeat (first | exact Below.refl _ _ | assumption | refine Below.drew ?_ | refine Below.alloc ?_ (by first | exact Nat.le_refl _ | omega | (simp; done) | (simp; omega)) _ | refine Below.setCell ?_ (by first | exact Nat.le_refl _ | omega | (simp; done) | (simp; omega)) _))
  refine (toIntN ea el ec env _ (VW.out.below HA7.out) hel).mono ?_
  rintro e' w8 ⟨Ib, rfl, hIb, hb8, hrow, hr⟩
  have hb : Below w7.heap.size w7 w8 := HA7.out.trans (hb8.mono (by simp))
  have IL : Hid (w7.heap.size < Ib ∧ Ib < w8.heap.size) := ⟨by simp at hIb; omega, hrow.lt⟩
  have XC : Hid (∀ w9 : World, (∀ o v, w8.cell? ⟨w7.heap.size, o, none⟩ = some v → w9.cell? ⟨w7.heap.size, o, none⟩ = some v) → (w9.cell? ⟨w7.heap.size, 0, none⟩ = some (.slice (some ⟨Nb 0, 0, none⟩) (l 0) (l 0)) ∧ w9.cell? ⟨w7.heap.size, 1, none⟩ = some (.slice (some ⟨Nb 1, 0, none⟩) (l 1) (l 1)) ∧ w9.cell? ⟨w7.heap.size, 2, none⟩ = some (.slice (some ⟨Nb 2, 0, none⟩) (l 2) (l 2)) ∧ w9.cell? ⟨w7.heap.size, 3, none⟩ = some (.slice (some ⟨Nb 3, 0, none⟩) (l 3) (l 3)) ∧ w9.cell? ⟨w7.heap.size, 4, none⟩ = some (.slice (some ⟨Nb 4, 0, none⟩) (l 4) (l 4)) ∧ w9.cell? ⟨w7.heap.size, 5, none⟩ = some (.slice (some ⟨Nb 5, 0, none⟩) (l 5) (l 5)))) :=
    fun w9 hk => ⟨hk _ _ (keep hb8 (by simp [go_sem])), hk _ _ (keep hb8 (by simp [go_sem])), hk _ _ (keep hb8 (by simp [go_sem])), hk _ _ (keep hb8 (by simp [go_sem])), hk _ _ (keep hb8 (by simp [go_sem])), hk _ _ (keep hb8 (by simp [go_sem]))⟩
  have HB := hid (HB.out.trans (hb.mono HB.out.size))
  have CB := hid (CB.out.below hb)
  clear q0 q1 q2 q3 q4 q5 hz NW VW DW TW
  obtain ⟨⟨q0, q1, q2, q3, q4, q5⟩, hn, hv, hd, ht, -, hz⟩ := HC1.out w8 HB.out
  have NW := hid hn
  have VW := hid hv
  have DW := hid hd
  have TW := hid ht
  clear hn hv hd ht
  have IB := hid hr
  have IW := hid hrow
  clear hr hrow hb8 hIb hb HA7
  have XK : Hid (∀ o v, w8.cell? ⟨w7.heap.size, o, none⟩ = some v → w8.cell? ⟨w7.heap.size, o, none⟩ = some v) := fun _ _ h => h
  go_wp2_with fail
  refine (toBoolN da dl dc ds _ DW.out hdl).mono ?_
  rintro e' w9 ⟨Mb, rfl, hMb, hb, hrow, hr⟩
  have ML : Hid (w8.heap.size ≤ Mb ∧ Mb < w9.heap.size) := ⟨hMb, hrow.lt⟩
  have HB := hid (HB.out.trans (hb.mono HB.out.size))
  have CB := hid (CB.out.below hb)
  have IB := hid (IB.out.below hb)
  have IW := hid (IW.out.of_block (hb.block _ IW.out.lt))
  have XK := hid (fun o v (h : w8.cell? ⟨w7.heap.size, o, none⟩ = some v) => keep hb (XK.out o v h))
  clear q0 q1 q2 q3 q4 q5 hz NW VW DW TW
  obtain ⟨⟨q0, q1, q2, q3, q4, q5⟩, hn, hv, hd, ht, -, hz⟩ := HC1.out w9 HB.out
  have NW := hid hn
  have VW := hid hv
  have DW := hid hd
  have TW := hid ht
  clear hn hv hd ht
  have RB := hid hr
  have RW := hid hrow
  clear hr hrow hMb hb
  go_wp2_with fail
  refine (toRouteS ra rl rc rs _ TW.out hrl).mono ?_
  rintro e' w10 ⟨Tb, rfl, hTb, hb, hr⟩
  have TL : Hid (w9.heap.size ≤ Tb ∧ Tb < w10.heap.size) := ⟨hTb, by obtain ⟨f, hf, -⟩ := hr.row; exact hf.lt⟩
  have HB := hid (HB.out.trans (hb.mono HB.out.size))
  have CB := hid (CB.out.below hb)
  have IB := hid (IB.out.below hb)
  have IW := hid (IW.out.of_block (hb.block _ IW.out.lt))
  have XK := hid (fun o v (h : w8.cell? ⟨w7.heap.size, o, none⟩ = some v) => keep hb (XK.out o v h))
  have RB := hid (RB.out.below hb)
  have RW := hid (RW.out.of_block (hb.block _ RW.out.lt))
  clear q0 q1 q2 q3 q4 q5 hz NW VW DW TW
  obtain ⟨⟨q0, q1, q2, q3, q4, q5⟩, hn, hv, hd, ht, -, hz⟩ := HC1.out w10 HB.out
  have NW := hid hn
  have VW := hid hv
  have DW := hid hd
  have TW := hid ht
  clear hn hv hd ht
  have TB := hid hr
  clear hr hb hTb
  obtain ⟨x0, x1, x2, x3, x4, x5⟩ := XC.out w10 XK.out
  have z := And.intro IL.out (And.intro ML.out TL.out)
  have z7 : w7.heap.size < w10.heap.size := by omega
  clear z
  have CN := hid (CB.out.net HM.out HS.out HO.out HE.out)
  have TN := hid (TB.out.is MR.out)
  go_wp2_with fail
  refine (isStable_impl (fun i => some ⟨Nb i, 0, none⟩) l l s g o e x f (some ⟨Ib, 0, none⟩) (some ⟨Mb, 0, none⟩) (some ⟨Tb, 0, none⟩) el el dl dl rl rl env ds rs _ CN.out (Nat.le_refl _) (Nat.le_refl _) IB.out RB.out TN.out).mono ?_
  rintro e' w12 ⟨rfl, hb⟩
  rw [EC.out, EA.out]
  clear CN TN x0 x1 x2 x3 x4 x5
  have Z := hid (Nat.lt_of_lt_of_le z7 hb.size)
  have HB := hid (HB.out.trans (hb.mono HB.out.size))
  have CB := hid (CB.out.below hb)
  have IB := hid (IB.out.below hb)
  have IW := hid (IW.out.of_block (hb.block _ IW.out.lt))
  have XK := hid (fun o v (h : w8.cell? ⟨w7.heap.size, o, none⟩ = some v) => keep hb (XK.out o v h))
  have RB := hid (RB.out.below hb)
  have RW := hid (RW.out.of_block (hb.block _ RW.out.lt))
  have TB := hid (TB.out.below hb)
  clear q0 q1 q2 q3 q4 q5 hz NW VW DW TW
  obtain ⟨⟨q0, q1, q2, q3, q4, q5⟩, hn, hv, hd, ht, -, hz⟩ := HC1.out w12 HB.out
  have NW := hid hn
  have VW := hid hv
  have DW := hid hd
  have TW := hid ht
  clear hn hv hd ht
  clear hb z7
  obtain ⟨x0, x1, x2, x3, x4, x5⟩ := XC.out w12 XK.out
  have zz := Z.out
  have CN := hid (CB.out.net HM.out HS.out HO.out HE.out)
  go_wp2_with fail
  go_region_with (first
    | (go_at_call 8; refine (toNet p l c s g o e x f _ (NW.out.below (Below.refl _ w12).drew) HL.out).mono ?_; rintro e' w13 ⟨N9, rfl, hb9, hc9⟩; have hb9' : Below w12.heap.size w12 w13 := ((Below.refl _ w12).drew).trans hb9; obtain ⟨x0, x1, x2, x3, x4, x5⟩ := XC.out w13 (fun o v h => keep hb9' (XK.out o v h)); clear hb9)
    | (go_at_call 14; refine (eqNet (fun i => some ⟨Nb i, 0, none⟩) (fun i => some ⟨N9 i, 0, none⟩) l l l s g o e x f _ (CN.out.below hb9') (hc9.net HM.out HS.out HO.out HE.out)).mono ?_; rintro e' w14 ⟨rfl, hb14⟩))
  all_goals
    have hb : Below w12.heap.size w12 w14 := hb9'.trans (hb14.mono hb9'.size)
    clear hb9' hb14 hc9 CN x0 x1 x2 x3 x4 x5 zz
    have HB := hid (HB.out.trans (hb.mono HB.out.size))
    have CB := hid (CB.out.below hb)
    have IB := hid (IB.out.below hb)
    have IW := hid (IW.out.of_block (hb.block _ IW.out.lt))
    have XK := hid (fun o v (h : w8.cell? ⟨w7.heap.size, o, none⟩ = some v) => keep hb (XK.out o v h))
    have RB := hid (RB.out.below hb)
    have RW := hid (RW.out.of_block (hb.block _ RW.out.lt))
    have TB := hid (TB.out.below hb)
    have Z := hid (Nat.lt_of_lt_of_le Z.out hb.size)
    clear q0 q1 q2 q3 q4 q5 hz NW VW DW TW
    obtain ⟨⟨q0, q1, q2, q3, q4, q5⟩, hn, hv, hd, ht, -, hz⟩ := HC1.out w14 HB.out
    have NW := hid hn
    have VW := hid hv
    have DW := hid hd
    have TW := hid ht
    clear hn hv hd ht
    clear hb
    go_wp2_with fail
    refine (toIntN ea el ec env _ VW.out hel).mono ?_
    rintro e' w15 ⟨Ic, rfl, -, hb, -, hr⟩
    have HB := hid (HB.out.trans (hb.mono HB.out.size))
    have CB := hid (CB.out.below hb)
    have IB := hid (IB.out.below hb)
    have IW := hid (IW.out.of_block (hb.block _ IW.out.lt))
    have XK := hid (fun o v (h : w8.cell? ⟨w7.heap.size, o, none⟩ = some v) => keep hb (XK.out o v h))
    have RB := hid (RB.out.below hb)
    have RW := hid (RW.out.of_block (hb.block _ RW.out.lt))
    have TB := hid (TB.out.below hb)
    have Z := hid (Nat.lt_of_lt_of_le Z.out hb.size)
    clear q0 q1 q2 q3 q4 q5 hz NW VW DW TW
    obtain ⟨⟨q0, q1, q2, q3, q4, q5⟩, hn, hv, hd, ht, -, hz⟩ := HC1.out w15 HB.out
    have NW := hid hn
    have VW := hid hv
    have DW := hid hd
    have TW := hid ht
    clear hn hv hd ht
    have IC := hid hr
    clear hr hb
    go_wp2_with fail
    refine (eqIntS _ _ _ _ _ _ env env _ IB.out IC.out).mono ?_
    rintro e' w16 ⟨rfl, n16, rfl⟩
    have hb : Below w15.heap.size w15 (w15.drewN n16) := below_drewN _ _
    generalize w15.drewN n16 = w16 at *
    have HB := hid (HB.out.trans (hb.mono HB.out.size))
    have CB := hid (CB.out.below hb)
    have IB := hid (IB.out.below hb)
    have IW := hid (IW.out.of_block (hb.block _ IW.out.lt))
    have XK := hid (fun o v (h : w8.cell? ⟨w7.heap.size, o, none⟩ = some v) => keep hb (XK.out o v h))
    have RB := hid (RB.out.below hb)
    have RW := hid (RW.out.of_block (hb.block _ RW.out.lt))
    have TB := hid (TB.out.below hb)
    have Z := hid (Nat.lt_of_lt_of_le Z.out hb.size)
    clear q0 q1 q2 q3 q4 q5 hz NW VW DW TW
    obtain ⟨⟨q0, q1, q2, q3, q4, q5⟩, hn, hv, hd, ht, -, hz⟩ := HC1.out w16 HB.out
    have NW := hid hn
    have VW := hid hv
    have DW := hid hd
    have TW := hid ht
    clear hn hv hd ht
    clear hb IC
    go_wp2_with fail
    refine (toBoolN da dl dc ds _ DW.out hdl).mono ?_
    rintro e' w17 ⟨Mc, rfl, -, hb, -, hr⟩
    have HB := hid (HB.out.trans (hb.mono HB.out.size))
    have CB := hid (CB.out.below hb)
    have IB := hid (IB.out.below hb)
    have IW := hid (IW.out.of_block (hb.block _ IW.out.lt))
    have XK := hid (fun o v (h : w8.cell? ⟨w7.heap.size, o, none⟩ = some v) => keep hb (XK.out o v h))
    have RB := hid (RB.out.below hb)
    have RW := hid (RW.out.of_block (hb.block _ RW.out.lt))
    have TB := hid (TB.out.below hb)
    have Z := hid (Nat.lt_of_lt_of_le Z.out hb.size)
    clear q0 q1 q2 q3 q4 q5 hz NW VW DW TW
    obtain ⟨⟨q0, q1, q2, q3, q4, q5⟩, hn, hv, hd, ht, -, hz⟩ := HC1.out w17 HB.out
    have NW := hid hn
    have VW := hid hv
    have DW := hid hd
    have TW := hid ht
    clear hn hv hd ht
    have RC := hid hr
    clear hr hb
    go_wp2_with fail
    refine (eqBoolS _ _ _ _ _ _ ds ds _ RB.out RC.out).mono ?_
    rintro e' w18 ⟨rfl, n18, rfl⟩
    have hb : Below w17.heap.size w17 (w17.drewN n18) := below_drewN _ _
    generalize w17.drewN n18 = w18 at *
    have HB := hid (HB.out.trans (hb.mono HB.out.size))
    have CB := hid (CB.out.below hb)
    have IB := hid (IB.out.below hb)
    have IW := hid (IW.out.of_block (hb.block _ IW.out.lt))
    have XK := hid (fun o v (h : w8.cell? ⟨w7.heap.size, o, none⟩ = some v) => keep hb (XK.out o v h))
    have RB := hid (RB.out.below hb)
    have RW := hid (RW.out.of_block (hb.block _ RW.out.lt))
    have TB := hid (TB.out.below hb)
    have Z := hid (Nat.lt_of_lt_of_le Z.out hb.size)
    clear q0 q1 q2 q3 q4 q5 hz NW VW DW TW
    obtain ⟨⟨q0, q1, q2, q3, q4, q5⟩, hn, hv, hd, ht, -, hz⟩ := HC1.out w18 HB.out
    have NW := hid hn
    have VW := hid hv
    have DW := hid hd
    have TW := hid ht
    clear hn hv hd ht
    clear hb RC
    go_wp2_with fail
    refine (toRouteS ra rl rc rs _ TW.out hrl).mono ?_
    rintro e' w19 ⟨Tc, rfl, -, hb, hr⟩
    have HB := hid (HB.out.trans (hb.mono HB.out.size))
    have CB := hid (CB.out.below hb)
    have IB := hid (IB.out.below hb)
    have IW := hid (IW.out.of_block (hb.block _ IW.out.lt))
    have XK := hid (fun o v (h : w8.cell? ⟨w7.heap.size, o, none⟩ = some v) => keep hb (XK.out o v h))
    have RB := hid (RB.out.below hb)
    have RW := hid (RW.out.of_block (hb.block _ RW.out.lt))
    have TB := hid (TB.out.below hb)
    have Z := hid (Nat.lt_of_lt_of_le Z.out hb.size)
    clear q0 q1 q2 q3 q4 q5 hz NW VW DW TW
    obtain ⟨⟨q0, q1, q2, q3, q4, q5⟩, hn, hv, hd, ht, -, hz⟩ := HC1.out w19 HB.out
    have NW := hid hn
    have VW := hid hv
    have DW := hid hd
    have TW := hid ht
    clear hn hv hd ht
    have TC := hid (hr.is MR.out)
    clear hr hb
    have TN := hid (TB.out.is MR.out)
    go_wp2_with fail
    refine (eqRouteS _ _ rl rl rl rs _ TN.out TC.out).mono ?_
    rintro e' w20 ⟨rfl, hb⟩
    have HB := hid (HB.out.trans (hb.mono HB.out.size))
    have CB := hid (CB.out.below hb)
    have IB := hid (IB.out.below hb)
    have IW := hid (IW.out.of_block (hb.block _ IW.out.lt))
    have XK := hid (fun o v (h : w8.cell? ⟨w7.heap.size, o, none⟩ = some v) => keep hb (XK.out o v h))
    have RB := hid (RB.out.below hb)
    have RW := hid (RW.out.of_block (hb.block _ RW.out.lt))
    have TB := hid (TB.out.below hb)
    have Z := hid (Nat.lt_of_lt_of_le Z.out hb.size)
    clear q0 q1 q2 q3 q4 q5 hz NW VW DW TW
    obtain ⟨⟨q0, q1, q2, q3, q4, q5⟩, hn, hv, hd, ht, -, hz⟩ := HC1.out w20 HB.out
    have NW := hid hn
    have VW := hid hv
    have DW := hid hd
    have TW := hid ht
    clear hn hv hd ht
    clear hb TC TN
    go_wp2
    go_ret
    exact ⟨rfl, (HC1.out _ HB.out).2.2.2.2.2.1⟩


theorem own : ownKnob Tryz.prog.godebug = none := by kernel_rfl
theorem laidOut : laidOutB Tryz.prog = true := by kernel_rfl

set_option maxRecDepth 100000 in
theorem lifted (os : Os) (started : os.Started) (H : Type) (enc : TypeId × Value → H) :
    ReturnsInHanded {} Tryz.checked os 4 .any (Rows.fnExactIsStableSpec.pre6 enc Tryz.prog Tryz.f4 Rows.fnExactIsStableRow.domain false) (Rows.fnExactIsStableSpec.post enc Tryz.prog Tryz.f4 false true false false) := by
  refine returnsInHanded_of_change (C := Tryz.checked) own started (by kernel_rfl) Tryz.func4
    (ChangeSpec.witness6 (enc := enc) (C := Tryz.checked) false ⟨#[], #[.agg #[.slice none 0 0, .slice none 0 0, .slice none 0 0, .slice none 0 0, .slice none 0 0, .slice none 0 0], .slice none 0 0, .slice none 0 0, .slice none 0 0], []⟩ 8 (by kernel_rfl) (by kernel_rfl) (by kernel_rfl) (by kernel_rfl)) ?_
  intro W base args ds gs before hval0 hW hcnd _
  have hval : ∀ (j : Nat) t v, Tryz.f4.params[j]? = some t → args[j]? = some v → Value.okWide Tryz.prog W .any base t v := hval0
  have hW' := hW
  obtain ⟨p, q, hA0, hV, rfl, hfz, hnd⟩ := hW
  have hA : DataW.TrodAll enc Tryz.prog W 0 (fun _ => true) true Tryz.f4.params.toList args.toList ds p := hA0
  rw [Tryz.params4] at hA hval
  obtain ⟨v0, vs0, d0, ds0, p0, q0, hargs, rfl, rfl, h0, r0⟩ := trodAll_cons hA
  obtain ⟨v1, vs1, d1, ds1, p1, q1, rfl, rfl, rfl, h1, r1⟩ := trodAll_cons r0
  obtain ⟨v2, vs2, d2, ds2, p2, q2, rfl, rfl, rfl, h2, r2⟩ := trodAll_cons r1
  obtain ⟨v3, vs3, d3, ds3, p3, q3, rfl, rfl, rfl, h3, r3⟩ := trodAll_cons r2
  obtain ⟨rfl, rfl, rfl⟩ := trodAll_nil r3
  obtain rfl : args = #[v0, v1, v2, v3] := by cases args; simp_all
  obtain ⟨rfl, rfl⟩ := trodVars_none hV
  have k0 := h0
  have lt0 : ∀ x ∈ p0, x.block < W.heap.size := by obtain ⟨m, hm⟩ := k0; exact DataW.trod_lt m _ _ _ hm
  have k1 := h1
  have lt1 : ∀ x ∈ p1, x.block < W.heap.size := by obtain ⟨m, hm⟩ := k1; exact DataW.trod_lt m _ _ _ hm
  have k2 := h2
  have lt2 : ∀ x ∈ p2, x.block < W.heap.size := by obtain ⟨m, hm⟩ := k2; exact DataW.trod_lt m _ _ _ hm
  have k3 := h3
  have lt3 : ∀ x ∈ p3, x.block < W.heap.size := by obtain ⟨m, hm⟩ := k3; exact DataW.trod_lt m _ _ _ hm
  obtain ⟨p, l, c, s, g, o, e, x, f, rfl, hnet⟩ := net_of_trod (hval 0 28 v0 rfl rfl) h0
  obtain ⟨ea, el, ec, rfl⟩ := okWide_slice Tryz.underlying24 (hval 1 24 v1 rfl rfl)
  obtain ⟨da, dl, dc, rfl⟩ := okWide_slice Tryz.underlying29 (hval 2 29 v2 rfl rfl)
  obtain ⟨ra, rl, rc, rfl⟩ := okWide_slice Tryz.underlying30 (hval 3 30 v3 rfl rfl)
  obtain ⟨ze, hze⟩ : ∃ zs, IntRow W ea el zs := by
    obtain ⟨fuel, hf⟩ := h1
    obtain ⟨a', l', c', zs, e, hb, _⟩ := row_of_trod Tryz.underlying24 Tryz.underlying3 (by kernel_rfl) (by simpa [Value.cells] using hf)
    cases e
    exact ⟨zs, hb⟩
  obtain ⟨zd, hzd⟩ : ∃ zs, BoolRow W da dl zs := by
    obtain ⟨fuel, hf⟩ := h2
    obtain ⟨a', l', c', zs, e, hb⟩ := bools_of_trod Tryz.underlying29 Tryz.underlying4 (by kernel_rfl) (by simpa [Value.cells] using hf)
    cases e
    exact ⟨zs, hb⟩
  obtain ⟨zr, hzr⟩ : ∃ zs, RtRow W ra rl zs := by
    obtain ⟨fuel, hf⟩ := h3
    obtain ⟨a', l', c', zs, e, hb⟩ := routeArgs.routes_of_trod (by simpa [Value.cells] using hf)
    cases e
    exact ⟨zs, hb⟩
  clear hA0 hval0
  refine (walk p l c s g o e x f ea da ra el ec dl dc rl rc ze zd zr W hnet hze hzd hzr).mono fun e W' ⟨he, bel⟩ => ?_
  subst he
  exact ⟨_, rfl, _, _, _, [], _, [], hW', trodAll_mk1 (shut_bool Tryz.underlying4 _), (trodAll_cons_mk (Below.trod laidOut (by kernel_rfl) (of_decide_eq_true (by kernel_rfl)) k0 bel lt0) (trodAll_cons_mk (Below.trod laidOut (by kernel_rfl) (of_decide_eq_true (by kernel_rfl)) k1 bel lt1) (trodAll_cons_mk (Below.trod laidOut (by kernel_rfl) (of_decide_eq_true (by kernel_rfl)) k2 bel lt2) (trodAll_cons_mk (Below.trod laidOut (by kernel_rfl) (of_decide_eq_true (by kernel_rfl)) k3 bel lt3) trodAll_mk0)))), rfl, bel.frame _, fun h => by cases h⟩

theorem over : Rows.fnExactIsStableRow.holds Tryz.pinned (OpenSpec.ofChange Rows.fnExactIsStableSpec) :=
  OpenClaim.holds_of_wide 4 Tryz.f4 rfl rfl rfl rfl rfl rfl rfl ⟨rfl, rfl, rfl, rfl, rfl⟩ rfl rfl rfl rfl rfl (by kernel_rfl) Tryz.func4 (by kernel_rfl)
    (of_decide_eq_true (by kernel_rfl)) (by unfold Func.isWrapper; first | (rw [if_pos (by decide +kernel)]; kernel_rfl) | (rw [if_neg (by decide +kernel)]; exact ⟨rfl, rfl⟩))
    (fun os started H enc _ => lifted os started H enc)
end Go.Proofs.YtahimnbagfcdfaaGreat.fnExactIsStable
namespace Go.Proofs.YtahimnbagfcdfaaGreat
theorem fnExactIsStable_holds : Rows.FnExactIsStableSaid := fnExactIsStable.over
end Go.Proofs.YtahimnbagfcdfaaGreat
