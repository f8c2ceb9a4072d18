/- For every circuit, literals and values EvalAig answers as its specification; it writes into no argument and keeps nothing of one, and its answer owns its memory; conditions: none. -/
import Derived.Test.YtijeicccmjgpiaaMarkAig
import Derived.Test.YtijeicccmjgpiaaAigArgs
namespace Go.Proofs.Ytijeicccmjgpiaa.fnExactEvalAig
open Go.ChangeShapes Go.WideShapes Go.ChangeAt Go.RowKit Go.Deep Go.Joins base copy gates trees aigImpl aigSpec nodes evalAig markAig aigArgs args
set_option linter.unusedVariables false

set_option maxHeartbeats 12800000 in
theorem walk (n : Int) (a : Option Addr) (l c : Nat) (g : Gs) (la : Option Addr) (ll lc : Nat) (ls : List Int) (va : Option Addr) (lv vc : Nat) (vs : List Bool) (w : World) (hr : GateRow w a l g) (hw : ∀ i, i < l → I64 (g i).1 ∧ I64 (g i).2) (hl : IntRow w la ll ls) (hz : ∀ k, k < ll → I64 (ls[k]?.getD 0)) (hv : BoolRow w va lv vs) :
    Calls Try.prog 4 #[.agg #[.int .i64 n, .slice a l c], .slice la ll lc, .slice va lv vc] w fun e w' => e = .returned (.bool true) ∧ Below w.heap.size w w' := by
  have hml := hr.most
  have hmi := hl.most
  have hmv := hv.most
  have HML := hid hml
  unfold maxLen at hmi hmv hml
  have HR := hid hr
  have HW := hid hw
  have HL := hid hl
  have HZ := hid hz
  have HV := hid hv
  clear hr hw hl hz hv
  by_cases hbig : (1048576 : Int) < (ll : Int)
  · go_enter Try.func4, Try.ntmps4
    go_wp2
    go_ret
    exact ⟨rfl, (by repeat (first | exact Below.refl _ _ | assumption | refine Below.drew ?_ | refine Below.alloc ?_ (by first | exact Nat.le_refl _ | omega | (simp; done) | (simp; omega)) _ | refine Below.setCell ?_ (by first | exact Nat.le_refl _ | omega | (simp; done) | (simp; omega)) _))⟩
  have hll : ll ≤ 1048576 := by omega
  by_cases hbig2 : (1048576 : Int) < (lv : Int)
  · go_enter Try.func4, Try.ntmps4
    go_wp2
    go_ret
    exact ⟨rfl, (by repeat (first | exact Below.refl _ _ | assumption | refine Below.drew ?_ | refine Below.alloc ?_ (by first | exact Nat.le_refl _ | omega | (simp; done) | (simp; omega)) _ | refine Below.setCell ?_ (by first | exact Nat.le_refl _ | omega | (simp; done) | (simp; omega)) _))⟩
  have hlv : lv ≤ 1048576 := by omega
  obtain ⟨res, e1⟩ : ∃ res, evList n l g ls vs = res := ⟨_, rfl⟩
  obtain ⟨r2, e2⟩ : ∃ r2, evCode n l g ls vs.length = r2 := ⟨_, rfl⟩
  have hLl : res.length ≤ 1048576 := by
    rw [← e1]
    unfold evList
    split
    · rw [List.length_map, HL.out.length]; exact hll
    · simp
  obtain ⟨L, hL⟩ : ∃ L, res.length = L := ⟨_, rfl⟩
  rw [hL] at hLl
  have E1 := hid e1
  have E2 := hid e2
  have EL := hid hL
  clear e1 e2 hL
  go_enter Try.func4, Try.ntmps4
  go_wp2_with fail
  refine (szAig n a l c 1048576 _ HML.out (by omega) (by omega)).mono ?_
  rintro e w1 ⟨r, rfl, hb1, hr1, hr2, hr3⟩
  have H3 := hid hr3
  have hB1 := hid ((show Below w.heap.size w _ from (by repeat (first | exact Below.refl _ _ | assumption | refine Below.drew ?_ | refine Below.alloc ?_ (by first | exact Nat.le_refl _ | omega | (simp; done) | (simp; omega)) _ | refine Below.setCell ?_ (by first | exact Nat.le_refl _ | omega | (simp; done) | (simp; omega)) _))).trans (hb1.mono (by simp)))
  have b0 : w1.cell? ⟨w.heap.size, 0, none⟩ = some (.int .i64 n) := keep hb1 (by simp [go_sem])
  have b1 : w1.cell? ⟨w.heap.size, 1, none⟩ = some (.slice a l c) := keep hb1 (by simp [go_sem])
  clear hb1 hr3
  by_cases hneg : r < 0
  · go_wp2
    go_ret
    exact ⟨rfl, hB1.out⟩
  have hsl : l ≤ 1048576 := by have := H3.out (by omega); omega
  clear H3
  go_wp2_with fail
  refine (toAig n a l c g _ (HR.out.below hB1.out) hsl).mono ?_
  rintro e w2 ⟨N2, rfl, hN2, hb2, hc2⟩
  have HC2 := hid (hc2.gates HML.out)
  replace b0 := keep hb2 b0
  replace b1 := keep hb2 b1
  have hB2 := hid (hB1.out.trans (hb2.mono hB1.out.size))
  clear hb2 hc2 hN2 hB1
  go_wp2_with fail
  refine (toIntN la ll lc ls _ (HL.out.below hB2.out) hll).mono ?_
  rintro e w3 ⟨N3, rfl, hN3, hb3, hc3, hi3⟩
  have HC3 := hid (HC2.out.below hb3)
  have HI3 := hid hi3
  replace b0 := keep hb3 b0
  replace b1 := keep hb3 b1
  have hB3 := hid (hB2.out.trans (hb3.mono hB2.out.size))
  clear hb3 hc3 hN3 hi3 hB2 HC2
  go_wp2_with fail
  refine (toBoolN va lv vc vs _ (HV.out.below hB3.out) hlv).mono ?_
  rintro e w4 ⟨N4, rfl, hN4, hb4, hc4, hv4⟩
  have HC4 := hid (HC3.out.below hb4)
  have HI4 := hid (HI3.out.below hb4)
  have HV4 := hid hv4
  replace b0 := keep hb4 b0
  replace b1 := keep hb4 b1
  have hB4 := hid (hB3.out.trans (hb4.mono hB3.out.size))
  clear hb4 hc4 hN4 hv4 hB3 HC3 HI3
  go_wp2_with fail
  refine (evalAig_spec n _ l l g _ ll ll ls N4 lv lv vs _ HC4.out HW.out HI4.out HZ.out HV4.out).mono ?_
  rintro e w5 ⟨v5, rfl, hown5, hb5⟩
  rw [E1.out] at hown5
  rw [E2.out]
  obtain ⟨sa, sc, rfl, hrow5⟩ := hown5.form EL.out
  have HS := hid hrow5
  replace b0 := keep hb5 b0
  replace b1 := keep hb5 b1
  have hB5 := hid (hB4.out.trans (hb5.mono hB4.out.size))
  have HB0 := hid b0
  have HB1 := hid b1
  have hS5 := World.block_lt_of_cell? _ _ b0
  clear hb5 hown5 hrow5 hB4 HC4 HI4 HV4
  have HR5 := hid (HR.out.below hB5.out)
  have HL5 := hid (HL.out.below hB5.out)
  have HV5 := hid (HV.out.below hB5.out)
  clear HR HL HV
  -- the program's own call
  go_wp2_with fail
  refine (toAig n a l c g _ HR5.out hsl).mono ?_
  rintro e w6 ⟨N6, rfl, hN6, hb6, hc6⟩
  have HC6 := hid hc6
  have HN6 := hid hN6
  replace b0 := keep hb6 b0
  replace b1 := keep hb6 b1
  have HX6 := hid hb6
  have z6 : w5.heap.size ≤ w6.heap.size := hb6.size
  have hN6' : N6 < w6.heap.size := by obtain ⟨f, hf, _⟩ := hc6.row; exact hf.lt
  have HN6' := hid hN6'
  clear hb6 hc6 hN6 hN6'
  go_wp2_with fail
  refine (toIntN la ll lc ls _ (HL5.out.below (HX6.out.trans ((show Below w6.heap.size w6 _ from (by repeat (first | exact Below.refl _ _ | assumption | refine Below.drew ?_ | refine Below.alloc ?_ (by first | exact Nat.le_refl _ | omega | (simp; done) | (simp; omega)) _ | refine Below.setCell ?_ (by first | exact Nat.le_refl _ | omega | (simp; done) | (simp; omega)) _))).mono z6))) hll).mono ?_
  rintro e w7 ⟨N7, rfl, hN7, hb7, hc7, hi7⟩
  have hb67 := hid ((show Below w6.heap.size w6 _ from (by repeat (first | exact Below.refl _ _ | assumption | refine Below.drew ?_ | refine Below.alloc ?_ (by first | exact Nat.le_refl _ | omega | (simp; done) | (simp; omega)) _ | refine Below.setCell ?_ (by first | exact Nat.le_refl _ | omega | (simp; done) | (simp; omega)) _))).trans (hb7.mono (by simp)))
  have x0 : w7.cell? ⟨w6.heap.size, 0, none⟩ = some (.int .i64 n) := keep hb7 (by simp [go_sem])
  have x1 : w7.cell? ⟨w6.heap.size, 1, none⟩ = some (.slice (some ⟨N6, 0, none⟩) l l) := keep hb7 (by simp [go_sem])
  replace b0 := keep hb67.out b0
  replace b1 := keep hb67.out b1
  have HX7 := hid (HX6.out.trans (hb67.out.mono z6))
  have HC7 := hid (HC6.out.below hb67.out)
  have HI7 := hid hi7
  have HF7 := hid hc7
  have HN7 : Hid (w6.heap.size < N7) := by show _ < _; simp at hN7; omega
  have HZ7 : Hid (w6.heap.size < w7.heap.size) := World.block_lt_of_cell? _ _ x0
  have HN7' : Hid (N7 < w7.heap.size) := hc7.lt
  clear hb7 hc7 hi7 hN7 hb67 HX6 HC6
  go_wp2_with fail
  refine (toBoolN va lv vc vs _ (HV5.out.below HX7.out) hlv).mono ?_
  rintro e w8 ⟨N8, rfl, hN8, hb8, hc8, hv8⟩
  replace x0 := keep hb8 x0
  replace x1 := keep hb8 x1
  replace b0 := keep hb8 b0
  replace b1 := keep hb8 b1
  have HX8 := hid (HX7.out.trans (hb8.mono HX7.out.size))
  have HC8 := hid (HC7.out.below hb8)
  have HI8 := hid (HI7.out.below hb8)
  have HF8 := hid (hc8)
  have HF78 := hid (HF7.out.of_block (hb8.block _ HN7'.out))
  have HV8 := hid hv8
  have HN8 := hid hN8
  have HN8' : Hid (N8 < w8.heap.size) := hc8.lt
  have HZ8 := hid hb8.size
  clear hb8 hc8 hv8 hN8 HX7 HC7 HI7 HF7
  go_wp2_with fail
  refine (evalAig_impl n _ l l g _ ll ll ls N8 lv lv vs _ (HC8.out.gates HML.out) HW.out HI8.out HZ.out HV8.out).mono ?_
  rintro e w9 ⟨v9, rfl, hown9, hb9⟩
  rw [E1.out] at hown9
  rw [E2.out]
  obtain ⟨ga, gc, rfl, hrow9⟩ := hown9.form EL.out
  have HO9 := hid hown9
  replace x0 := keep hb9 x0
  replace x1 := keep hb9 x1
  replace b0 := keep hb9 b0
  replace b1 := keep hb9 b1
  have HX9 := hid (HX8.out.trans (hb9.mono HX8.out.size))
  have HC9 := hid (HC8.out.below hb9)
  have HI9 := hid (HI8.out.below hb9)
  have HV9 := hid (HV8.out.below hb9)
  have HF9 := hid (HF78.out.of_block (hb9.block _ (Nat.lt_of_lt_of_le HN7'.out HZ8.out)))
  have HG9 := hid (HF8.out.of_block (hb9.block _ HN8'.out))
  have HZ9 := hid hb9.size
  clear hb9 hown9 hrow9 HX8 HC8 HI8 HV8 HF8 HF78
  have hd1 : decide (res = res) = true := decide_eq_true rfl
  have hd2 : (r2 != r2) = false := by simp
  go_wp2_with fail
  refine (eqBoolS _ _ L L _ _ res res _ (row_of_own HO9.out) (HS.out.below HX9.out)).mono ?_
  rintro e w10 ⟨rfl, n10, hw10⟩
  have hb10 : Below w9.heap.size w9 w10 := by rw [hw10]; exact below_drewN _ _
  clear hw10
  have HO10 := hid (HO9.out.below hb10)
  replace x0 := keep hb10 x0
  replace x1 := keep hb10 x1
  replace b0 := keep hb10 b0
  replace b1 := keep hb10 b1
  have HX10 := hid (HX9.out.trans (hb10.mono HX9.out.size))
  have HC10 := hid (HC9.out.below hb10)
  have HI10 := hid (HI9.out.below hb10)
  have HV10 := hid (HV9.out.below hb10)
  have HF10 := hid (HF9.out.of_block (hb10.block _ (HF9.out.lt)))
  have HG10 := hid (HG9.out.of_block (hb10.block _ (HG9.out.lt)))
  have HZ10 := hid (Nat.le_trans HZ9.out hb10.size)
  clear hb10 HO9 HX9 HC9 HI9 HV9 HF9 HG9
  go_wp2_with fail
  have K11 : ∀ w11 : World, Below w10.heap.size w10 w11 → w11.cell? ⟨w6.heap.size, 0, none⟩ = some (.int .i64 n) ∧ w11.cell? ⟨w6.heap.size, 1, none⟩ = some (.slice (some ⟨N6, 0, none⟩) l l) := fun w11 h => ⟨keep h x0, keep h x1⟩
  have HK11 := hid K11
  clear K11
  go_region_with (first
    | (go_at_call 8; refine (toAig n a l c g _ (HR5.out.below HX10.out.drew) hsl).mono ?_; rintro e w11 ⟨N11, rfl, hN11, hb11, hc11⟩; have hb11' : Below w10.heap.size w10 w11 := ((Below.refl _ w10).drew).trans hb11; obtain ⟨y0, y1⟩ := HK11.out w11 hb11'; clear hb11)
    | (go_at_call 10; refine (eqAig n _ _ l l l g _ ((HC10.out.below hb11').gates HML.out) (hc11.gates HML.out)).mono ?_; rintro e w12 ⟨rfl, hb12⟩))
  all_goals
    have hbb := hb11'.trans (hb12.mono hb11'.size)
    have HO12 := hid (HO10.out.below hbb)
    replace x0 := keep hbb x0
    replace x1 := keep hbb x1
    replace b0 := keep hbb b0
    replace b1 := keep hbb b1
    have HX12 := hid (HX10.out.trans (hbb.mono HX10.out.size))
    have HC12 := hid (HC10.out.below hbb)
    have HI12 := hid (HI10.out.below hbb)
    have HV12 := hid (HV10.out.below hbb)
    have HF12 := hid (HF10.out.of_block (hbb.block _ (HF10.out.lt)))
    have HG12 := hid (HG10.out.of_block (hbb.block _ (HG10.out.lt)))
    have HZ12 := hid (Nat.le_trans HZ10.out hbb.size)
    clear hbb hb11' hb12 hc11 hN11 y0 y1 HO10 HX10 HC10 HI10 HV10 HF10 HG10 HK11
    go_wp2_with fail
    refine (toIntN la ll lc ls _ (HL5.out.below HX12.out) hll).mono ?_
    rintro e w13 ⟨N13, rfl, hN13, hb13, hc13, hi13⟩
    have HI13 := hid (HI12.out.below hb13)
    have HJ13 := hid hi13
    have HB13 := hid hb13
    clear hc13 hi13 hN13 hb13
    have hd3 : decide (ls = ls) = true := decide_eq_true rfl
    go_wp2_with fail
    refine (eqIntS _ _ ll ll _ _ ls ls _ HI13.out HJ13.out).mono ?_
    rintro e w14 ⟨rfl, n14, hw14⟩
    have hb14 : Below w12.heap.size w12 w14 := HB13.out.trans (by rw [hw14]; exact (below_drewN _ _).mono HB13.out.size)
    clear hw14 HB13 HI13 HJ13
    have HX14 := hid (HX12.out.trans (hb14.mono HX12.out.size))
    have HB14 := hid hb14
    have HV14 := hid (HV12.out.below hb14)
    clear hb14
    go_wp2_with fail
    refine (toBoolN va lv vc vs _ (HV5.out.below HX14.out) hlv).mono ?_
    rintro e w15 ⟨N15, rfl, hN15, hb15, hc15, hv15⟩
    have HV15 := hid (HV14.out.below hb15)
    have HJ15 := hid hv15
    have HB15 := hid (HB14.out.trans (hb15.mono HB14.out.size))
    clear hc15 hv15 hN15 hb15
    have hd4 : decide (vs = vs) = true := decide_eq_true rfl
    go_wp2_with fail
    refine (eqBoolS _ _ lv lv _ _ vs vs _ HV15.out HJ15.out).mono ?_
    rintro e w16 ⟨rfl, n16, hw16⟩
    have hb16 : Below w12.heap.size w12 w16 := HB15.out.trans (by rw [hw16]; exact (below_drewN _ _).mono HB15.out.size)
    clear hw16 HB15 HB14 HV15 HJ15 HV14 HX14
    have HO16 := hid (HO12.out.below hb16)
    replace x0 := keep hb16 x0
    replace x1 := keep hb16 x1
    have HX16 := hid (HX12.out.trans (hb16.mono HX12.out.size))
    have HC16 := hid (HC12.out.below hb16)
    have HF16 := hid (HF12.out.of_block (hb16.block _ (HF12.out.lt)))
    have HG16 := hid (HG12.out.of_block (hb16.block _ (HG12.out.lt)))
    have HZ16 := hid (Nat.le_trans HZ12.out hb16.size)
    clear hb16 HO12 HX12 HC12 HI12 HV12 HF12 HG12 b0 b1
    -- the marks
    go_wp2_with fail
    refine (mark_aig n N6 l 1 _ (by obtain ⟨f, hf, _⟩ := HC16.out.row; exact ⟨f, hf⟩) (by omega) (by omega) hsl).mono ?_
    rintro e w17 ⟨rfl, ho17⟩
    have HO17 := hid (own_oth HO16.out ho17 (by have := HN6'.out; have := HZ7.out; have := HZ8.out; omega))
    have HX17 := hid (HX16.out.trans (ho17.below HX16.out.size HN6.out))
    have HF17 := hid (HF16.out.of_block (ho17.block _ HF16.out.lt (by have := HN6'.out; have := HN7.out; omega)))
    have HG17 := hid (HG16.out.of_block (ho17.block _ HG16.out.lt (by have := HN6'.out; have := HZ7.out; have := HN8.out; omega)))
    have HZ17 := hid (Nat.le_trans HZ16.out ho17.size)
    clear ho17 HO16 HX16 HC16 HF16 HG16 x0 x1
    go_wp2_with fail
    refine (mark_ints N7 ll (1 + 2 * (l : Int)) _ ⟨_, HF17.out⟩ (by omega) (by omega) hll).mono ?_
    rintro e w18 ⟨rfl, ho18⟩
    have HO18 := hid (own_oth HO17.out ho18 (by have := HN7'.out; have := HZ8.out; omega))
    have HX18 := hid (HX17.out.trans (ho18.below HX17.out.size (by have := HN7.out; omega)))
    have HG18 := hid (HG17.out.of_block (ho18.block _ HG17.out.lt (by have := HN7'.out; have := HN8.out; omega)))
    have HZ18 := hid (Nat.le_trans HZ17.out ho18.size)
    clear ho18 HO17 HX17 HF17 HG17
    go_wp2_with fail
    refine (mark_bools N8 lv lv lv (1 + 2 * (l : Int) + ll) _ ⟨_, HG18.out⟩ (Nat.le_refl _) (by omega) (by omega) hlv).mono ?_
    rintro e w19 ⟨rfl, ho19, _⟩
    have HO19 := hid (own_oth HO18.out ho19 HN8'.out)
    have HX19 := hid (HX18.out.trans (ho19.below HX18.out.size (by have := HN8.out; have := HZ7.out; omega)))
    have HZ19 := hid (Nat.le_trans HZ18.out ho19.size)
    clear ho19 HO18 HX18 HG18
    have hd5 : decide ((1 + 2 * (l : Int) + ll + lv) < 0) = false := decide_eq_false (by omega)
    go_wp2_with fail
    refine (eqBoolS _ _ L L _ _ res res _ (row_of_own HO19.out) (HS.out.below HX19.out)).mono ?_
    rintro e w20 ⟨rfl, n20, hw20⟩
    have hb20 : Below w19.heap.size w19 w20 := by rw [hw20]; exact below_drewN _ _
    clear hw20
    have HO20 := hid (HO19.out.below hb20)
    have HX20 := hid (HX19.out.trans (hb20.mono HX19.out.size))
    have HZ20 := hid (Nat.le_trans HZ19.out hb20.size)
    clear hb20 HO19 HX19
    -- the answer's own marks
    go_wp2_with fail
    refine (mark_own w8.heap.size L _ _ res 1 _ HO20.out (by omega) (by omega) hLl (by have := HZ20.out; omega)).mono ?_
    rintro e w21 ⟨rfl, hb21, hrow21⟩
    have HM21 := hid hrow21
    have HX21 := hid (HX20.out.trans (hb21.mono (by have := HZ8.out; have := HZ7.out; omega)))
    clear hb21 hrow21 HO20 HX20
    go_wp2_with fail
    refine (held_bools _ L _ 1 _ HM21.out (by omega) (by omega) hLl).mono ?_
    rintro e w22 ⟨rfl, hw22⟩
    replace hw22 := hw22.symm
    subst hw22
    have hd6 : decide ((1 + (L : Int)) < 0) = false := decide_eq_false (by omega)
    have hd7 : ((1 + (L : Int)) != (1 + (L : Int))) = false := by simp
    have b0 := keep HX21.out HB0.out
    have b1 := keep HX21.out HB1.out
    go_wp2_with fail
    refine (toAig n a l c g _ (HR5.out.below HX21.out) hsl).mono ?_
    rintro e w23 ⟨N23, rfl, hN23, hb23, hc23⟩
    have HB23 := hid hb23
    have HC23 := hid hc23
    clear hb23 hc23 hN23 b0 b1
    go_wp2_with fail
    refine (toIntN la ll lc ls _ (HL5.out.below (HX21.out.trans (HB23.out.mono HX21.out.size))) hll).mono ?_
    rintro e w24 ⟨N24, rfl, hN24, hb24, hc24, hi24⟩
    have HC24 := hid (HC23.out.below hb24)
    have HI24 := hid hi24
    have HB24 := hid (HB23.out.trans (hb24.mono HB23.out.size))
    clear hb24 hc24 hi24 hN24 HB23 HC23
    go_wp2_with fail
    refine (toBoolN va lv vc vs _ (HV5.out.below (HX21.out.trans (HB24.out.mono HX21.out.size))) hlv).mono ?_
    rintro e w25 ⟨N25, rfl, hN25, hb25, hc25, hv25⟩
    have HC25 := hid (HC24.out.below hb25)
    have HI25 := hid (HI24.out.below hb25)
    have HV25 := hid hv25
    have HB25 := hid (HB24.out.trans (hb25.mono HB24.out.size))
    clear hb25 hc25 hv25 hN25 HB24 HC24 HI24
    go_wp2_with fail
    refine (evalAig_impl n _ l l g _ ll ll ls N25 lv lv vs _ (HC25.out.gates HML.out) HW.out HI25.out HZ.out HV25.out).mono ?_
    rintro e w26 ⟨v26, rfl, hown26, hb26⟩
    rw [E1.out] at hown26
    rw [E2.out]
    obtain ⟨ha, hcap, rfl, hrow26⟩ := hown26.form EL.out
    have HR26 := hid hrow26
    have HB26 := hid (HB25.out.trans (hb26.mono HB25.out.size))
    have HX26 := hid (HX21.out.trans (HB26.out.mono HX21.out.size))
    clear hb26 hown26 hrow26 HB25 HC25 HI25 HV25
    go_wp2_with fail
    refine (eqBoolS _ _ L L _ _ res res _ HR26.out (HS.out.below HX26.out)).mono ?_
    rintro e w27 ⟨rfl, n27, hw27⟩
    have hb27 : Below w26.heap.size w26 w27 := by rw [hw27]; exact below_drewN _ _
    clear hw27
    have HM27 := hid (HM21.out.below (HB26.out.trans (hb27.mono HB26.out.size)))
    have HX27 := hid (HX26.out.trans (hb27.mono HX26.out.size))
    clear hb27
    go_wp2_with fail
    refine (held_bools _ L _ 1 _ HM27.out (by omega) (by omega) hLl).mono ?_
    rintro e w28 ⟨rfl, hw28⟩
    replace hw28 := hw28.symm
    subst hw28
    go_wp2
    go_ret
    exact ⟨rfl, hB5.out.trans (HX27.out.mono hB5.out.size)⟩

theorem own : ownKnob Try.prog.godebug = none := by kernel_rfl

set_option maxRecDepth 100000 in
theorem lifted (os : Os) (started : os.Started) (H : Type) (enc : TypeId × Value → H) :
    ReturnsInHanded {} Try.checked os 4 .any (Rows.fnExactEvalAigSpec.pre6 enc Try.prog Try.f4 Rows.fnExactEvalAigRow.domain false) (Rows.fnExactEvalAigSpec.post enc Try.prog Try.f4 false true false false) := by
  refine returnsInHanded_of_change (C := Try.checked) own started (by kernel_rfl) Try.func4
    (ChangeSpec.witness6 (enc := enc) (C := Try.checked) false ⟨#[], #[.agg #[.int .i64 0, .slice none 0 0], .slice none 0 0, .slice none 0 0], []⟩ 8 (by kernel_rfl) (by kernel_rfl) (by kernel_rfl) (by kernel_rfl)) ?_
  intro W base args ds gs before hval0 hW hcnd _
  have hval : ∀ (j : Nat) t v, Try.f4.params[j]? = some t → args[j]? = some v → Value.okWide Try.prog W .any base t v := hval0
  have hW' := hW
  obtain ⟨p, q, hA0, hV, rfl, hfz, hnd⟩ := hW
  have hA : DataW.TrodAll enc Try.prog W 0 (fun _ => true) true Try.f4.params.toList args.toList ds p := hA0
  rw [Try.params4] at hA hval
  obtain ⟨v0, vs0, d0, ds0, p0, q0, hargs, rfl, rfl, h0, r0⟩ := trodAll_cons hA
  obtain ⟨v1, vs1, d1, ds1, p1, q1, rfl, rfl, rfl, h1, r1⟩ := trodAll_cons r0
  obtain ⟨v2, vs2, d2, ds2, p2, q2, rfl, rfl, rfl, h2, r2⟩ := trodAll_cons r1
  obtain ⟨rfl, rfl, rfl⟩ := trodAll_nil r2
  obtain rfl : args = #[v0, v1, v2] := by cases args; simp_all
  obtain ⟨rfl, rfl⟩ := trodVars_none hV
  have k0 := h0
  have lt0 : ∀ x ∈ p0, x.block < W.heap.size := by obtain ⟨m, hm⟩ := k0; exact DataW.trod_lt m _ _ _ hm
  have k1 := h1
  have lt1 : ∀ x ∈ p1, x.block < W.heap.size := by obtain ⟨m, hm⟩ := k1; exact DataW.trod_lt m _ _ _ hm
  have k2 := h2
  have lt2 : ∀ x ∈ p2, x.block < W.heap.size := by obtain ⟨m, hm⟩ := k2; exact DataW.trod_lt m _ _ _ hm
  obtain ⟨va, lv, vc, rfl⟩ := okWide_slice Try.underlying34 (hval 2 34 v2 rfl rfl)
  obtain ⟨vs, hvs⟩ : ∃ vs, BoolRow W va lv vs := by
    obtain ⟨fuel, hf⟩ := h2
    obtain ⟨a', l', c', vs, e, hb⟩ := bools_of_trod Try.underlying34 Try.underlying4 (by kernel_rfl) (by simpa [Value.cells] using hf)
    cases e
    exact ⟨vs, hb⟩
  obtain ⟨la, ll, lc, rfl⟩ := okWide_slice Try.underlying33 (hval 1 33 v1 rfl rfl)
  obtain ⟨ls, hls, hlz⟩ : ∃ ls, IntRow W la ll ls ∧ ∀ n ∈ ls, (Lit.int .i64 n).wf = true := by
    obtain ⟨fuel, hf⟩ := h1
    obtain ⟨a', l', c', ls, e, hb, hz⟩ := row_of_trod Try.underlying33 Try.underlying3 (by kernel_rfl) (by simpa [Value.cells] using hf)
    cases e
    exact ⟨ls, hb, hz⟩
  obtain ⟨c0, c1, y0, y1, m, rfl, hd0, hp0, hy0, hy1⟩ := open_agg2 Try.underlying24 (by kernel_rfl) cells_aig (hval 0 24 v0 rfl rfl) h0
  obtain ⟨n, rfl, _⟩ := int_of_trod Try.underlying3 hy0
  obtain ⟨a, len, cap, g, rfl, hrow, hwf⟩ := gates_of_trod hy1
  have hiz : ∀ k, k < ll → I64 (ls[k]?.getD 0) := fun k hk => by
    rw [List.getElem?_eq_getElem (by rw [hls.length]; exact hk)]
    exact in64_of (hlz _ (List.getElem_mem _))
  clear hA0 hval0
  refine (walk n a len cap g la ll lc ls va lv vc vs W hrow hwf hls hiz hvs).mono fun e W' ⟨he, bel⟩ => ?_
  subst he
  exact ⟨_, rfl, _, _, _, [], _, [], hW', trodAll_mk1 (shut_bool Try.underlying4 _), (trodAll_cons_mk (Below.trod laidOut (by kernel_rfl) (of_decide_eq_true (by kernel_rfl)) k0 bel lt0) (trodAll_cons_mk (Below.trod laidOut (by kernel_rfl) (of_decide_eq_true (by kernel_rfl)) k1 bel lt1) (trodAll_cons_mk (Below.trod laidOut (by kernel_rfl) (of_decide_eq_true (by kernel_rfl)) k2 bel lt2) trodAll_mk0))), rfl, bel.frame _, fun h => by cases h⟩

theorem over : Rows.fnExactEvalAigRow.holds Try.pinned (OpenSpec.ofChange Rows.fnExactEvalAigSpec) :=
  OpenClaim.holds_of_wide 4 Try.f4 rfl rfl rfl rfl rfl rfl rfl ⟨rfl, rfl, rfl, rfl, rfl⟩ rfl rfl rfl rfl rfl (by kernel_rfl) Try.func4 (by kernel_rfl)
    (of_decide_eq_true (by kernel_rfl)) (by unfold Func.isWrapper; first | (rw [if_pos (by decide +kernel)]; kernel_rfl) | (rw [if_neg (by decide +kernel)]; exact ⟨rfl, rfl⟩))
    (fun os started H enc _ => lifted os started H enc)
end Go.Proofs.Ytijeicccmjgpiaa.fnExactEvalAig
namespace Go.Proofs.Ytijeicccmjgpiaa
theorem fnExactEvalAig_holds : Rows.FnExactEvalAigSaid := fnExactEvalAig.over
end Go.Proofs.Ytijeicccmjgpiaa
