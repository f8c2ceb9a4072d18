/- Whether a port is neither below nor above, as an expression, of the program; conditions: ports that may be. -/
import Derived.Test.YtofdhoefphoaaaaFexSem
import Derived.Test.YtofdhoefphoaaaaFaceImpl
namespace Go.Proofs.Ytofdhoefphoaaaa.fexWithin
open Go.RowKit Go.Deep Go base trees built heldStore drawn lessImpl faceImpl bitRows bitPart netSem fexSem
set_option linter.unusedVariables false

set_option maxHeartbeats 1600000 in
set_option maxRecDepth 8000 in
theorem less_q (Q : Nat → Prop) (d : Nat) (A B : T) (aA aB : Option Addr) (l cA cB : Nat) (w : World) (hA : Rd Q 1048576 w (d + 1) A aA l) (hB : Rd Q 1048576 w (d + 1) B aB l) (kA : ∀ i, i < l → kd (kid A i) ≠ 0) :
    Calls Try.prog 36 #[.slice aA l cA, .slice aB l cB] w fun e' w' => ∃ a lr c, e' = .returned (.agg #[.int .i64 (kd (lessT A B (cT 0) l)), .int .i64 (nn (lessT A B (cT 0) l)), .slice a lr c]) ∧ Rd (fun b => Q b ∨ w.heap.size < b) 1048576 w' (d + 4 * l) (lessT A B (cT 0) l) a lr ∧ Below w.heap.size w w' := by
  have HA := hid (rd_old hA)
  have HB := hid (rd_old hB)
  have HK := hid kA
  clear hA hB kA
  obtain ⟨t, hT⟩ : ∃ t, lessT A B (cT 0) l = t := ⟨_, rfl⟩
  rw [hT]
  have HT := hid hT
  clear hT
  go_enter Try.func36, Try.ntmps36
  go_wp2_with fail
  refine (const_impl 0 _).mono ?_
  rintro e w1 ⟨rfl, hb1⟩
  have z0 : w1.cell? ⟨w.heap.size, 0, none⟩ = some (.int .i64 0) := keep hb1 (by simp [go_sem])
  have z1 : w1.cell? ⟨w.heap.size, 1, none⟩ = some (.int .i64 0) := keep hb1 (by simp [go_sem])
  have z2 : w1.cell? ⟨w.heap.size, 2, none⟩ = some (.slice none 0 0) := keep hb1 (by simp [go_sem])
  have y0 : w1.frozen? ⟨w.heap.size, 0, none⟩ = false := (hb1.frozen (p := ⟨w.heap.size, 0, none⟩) (by simp)).trans (by simp [go_sem])
  have y1 : w1.frozen? ⟨w.heap.size, 1, none⟩ = false := (hb1.frozen (p := ⟨w.heap.size, 1, none⟩) (by simp)).trans (by simp [go_sem])
  have y2 : w1.frozen? ⟨w.heap.size, 2, none⟩ = false := (hb1.frozen (p := ⟨w.heap.size, 2, none⟩) (by simp)).trans (by simp [go_sem])
  have HB1 := hid ((show Below w.heap.size w _ from (by repeat (first | exact Below.refl _ _ | assumption | refine Below.drew ?_ | refine Below.alloc ?_ (by first | exact Nat.le_refl _ | omega | (simp; done) | (simp; omega)) _ | refine Below.setCell ?_ (by first | exact Nat.le_refl _ | omega | (simp; done) | (simp; omega)) _))).trans (hb1.mono (by simp)))
  have hsz : w.heap.size < w1.heap.size := World.block_lt_of_cell? _ _ z0
  clear hb1
  go_wp2_with fail
  refine (lessT_gathered (fun b => Q b ∧ b < w.heap.size) d A B (cT 0) aA aB none l cA cB 0 0 _ (HA.out.below HB1.out) (HB.out.below HB1.out) (rd_const _ _ _ _) (by decide) HK.out).mono ?_
  rintro e w2 ⟨v, rfl, ⟨a, lr, c, hr, rfl⟩, hb2⟩
  replace z0 := keep hb2 z0
  replace z1 := keep hb2 z1
  replace z2 := keep hb2 z2
  replace y0 := (hb2.frozen (p := ⟨w.heap.size, 0, none⟩) hsz).trans y0
  replace y1 := (hb2.frozen (p := ⟨w.heap.size, 1, none⟩) hsz).trans y1
  replace y2 := (hb2.frozen (p := ⟨w.heap.size, 2, none⟩) hsz).trans y2
  rw [HT.out] at hr ⊢
  have HR := hid (rd_set3 hr (R := w.heap.size) (by simp; omega) (.int .i64 (kd t)) (.int .i64 (nn t)) (.slice a lr c))
  have HB3 := hid (below_set3 (HB1.out.trans (hb2.mono HB1.out.size)) (R := w.heap.size) (Nat.le_refl _) (.int .i64 (kd t)) (.int .i64 (nn t)) (.slice a lr c))
  clear hb2 hr
  go_wp2
  refine bodyPost_ret (v := .agg #[.int .i64 (kd t), .int .i64 (nn t), .slice a lr c]) (by simp [results, Try.results36, go_sem, z0, z1, z2]) rfl ⟨a, lr, c, rfl, HR.out.imp fun b hb => hb.imp (fun h => h.1) (fun h => by omega), HB3.out⟩


set_option maxHeartbeats 3200000 in
set_option maxRecDepth 8000 in
theorem within_impl (lo hi : Int) (w : World) (h0 : 0 ≤ lo) (h1 : lo < 64) (h2 : 0 ≤ hi) (h3 : hi < 64) :
    Calls Try.prog 17 #[.int .i64 lo, .int .i64 hi] w fun e' w' => ∃ v, e' = .returned v ∧ XV (fun b => w.heap.size ≤ b) w' 18 (withinT lo hi) v ∧ Below w.heap.size w w' := by
  obtain ⟨t1, hT1⟩ : ∃ t, lessT portT (constT lo 4) (cT 0) 4 = t := ⟨_, rfl⟩
  obtain ⟨t2, hT2⟩ : ∃ t, lessT (constT hi 4) portT (cT 0) 4 = t := ⟨_, rfl⟩
  have HT1 := hid hT1
  have HT2 := hid hT2
  have HT : Hid (withinT lo hi = ndT 4 2 (two (ndT 3 1 (one t1)) (ndT 3 1 (one t2)))) := by
    show _ = _
    unfold withinT
    rw [hT1, hT2]
  have K1 : kd t1 ≠ 0 := by rw [← hT1]; exact lessT_kind (by decide) 4
  have K2 : kd t2 ≠ 0 := by rw [← hT2]; exact lessT_kind (by decide) 4
  have HK1 := hid K1
  have HK2 := hid K2
  rw [HT.out]
  clear hT1 hT2 K1 K2
  go_enter Try.func17, Try.ntmps17
  go_wp2_with fail
  have HA0 : Hid (Below w.heap.size w (w.alloc (.cells #[.int .i64 0, .int .i64 0, .slice none 0 0] 33))) := (by repeat (first | exact Below.refl _ _ | assumption | refine Below.drew ?_ | refine Below.alloc ?_ (by first | exact Nat.le_refl _ | omega | (simp; done) | (simp; omega)) _ | refine Below.setCell ?_ (by first | exact Nat.le_refl _ | omega | (simp; done) | (simp; omega)) _))
  refine (variables_impl _).mono ?_
  rintro e' w1 ⟨a, c, rfl, hc, hb1, hr⟩
  obtain ⟨g, off, rfl⟩ : ∃ g off, a = some ⟨g, off, none⟩ := by
    obtain ⟨g, off, e, _⟩ := hr.2.2 0 (by omega)
    exact ⟨g, off, e⟩
  have HR : Hid (Rd (fun b => w.heap.size < b) 1048576 w1 1 portT (some ⟨g, off, none⟩) 4) := by
    have := sub_rd (n := 0) (b := 4) (D := 0) hr (by omega)
    rw [Nat.zero_mul, Nat.add_zero] at this
    exact this.imp fun b hb => by simp at hb; omega
  have HZ : Hid (∀ w8 : World, Below w1.heap.size w1 w8 → (w8.cell? ⟨w.heap.size, 0, none⟩ = some (.int .i64 0) ∧ w8.cell? ⟨w.heap.size, 1, none⟩ = some (.int .i64 0) ∧ w8.cell? ⟨w.heap.size, 2, none⟩ = some (.slice none 0 0)) ∧ (∀ x, w8.frozen? ⟨w.heap.size, x, none⟩ = false) ∧ Below w.heap.size w w8 ∧ w.heap.size < w8.heap.size) :=
    fun w8 h => ⟨⟨keep h (keep hb1 (by simp [go_sem])), keep h (keep hb1 (by simp [go_sem])), keep h (keep hb1 (by simp [go_sem]))⟩, fun x => (h.frozen (p := ⟨w.heap.size, x, none⟩) (by have := hb1.size; simp at this; dsimp only; omega)).trans ((hb1.frozen (p := ⟨w.heap.size, x, none⟩) (by simp)).trans (by simp [go_sem])), (HA0.out.trans (hb1.mono (by simp))).trans (h.mono (HA0.out.trans (hb1.mono (by simp))).size), by have := h.size; have := hb1.size; simp at this; omega⟩
  clear hr hb1 HA0
  go_wp2_with fail
  refine (part_of 0 4 4 (by omega) (by omega) g off c hc _).mono ?_
  rintro e' w1' ⟨rfl, hw⟩
  have hw := hw.symm
  subst hw
  go_wp2_with fail
  refine (constants_impl lo 4 (by omega) h0 h1 _).mono ?_
  rintro e' w2 ⟨a2, c2, rfl, hb2, hr2⟩
  have HB2 := hid hb2
  have HC2 : Hid (Rd (fun b => w.heap.size < b) 1048576 w2 1 (constT lo 4) a2 4) := hr2.imp fun b hb => by have := (HZ.out w1 (Below.refl _ _)).2.2.2; omega
  have HR2 := hid (HR.out.below hb2)
  clear hb2 hr2
  go_wp2_with fail
  refine (less_q (fun b => w.heap.size < b) 0 portT (constT lo 4) _ _ 4 _ _ _ HR2.out HC2.out port_kind).mono ?_
  rintro e' w3 ⟨a3, l3, c3, rfl, hr3, hb3⟩
  rw [HT1.out] at hr3 ⊢
  have z2 : w.heap.size < w2.heap.size := (HZ.out w2 HB2.out).2.2.2
  have HB3 := hid (HB2.out.trans (hb3.mono HB2.out.size))
  have HX3 : Hid (Rd (fun b => w.heap.size < b) 1048576 w3 16 t1 a3 l3) := hr3.imp fun b hb => by omega
  have HR3 := hid (HR2.out.below hb3)
  clear hb3 hr3
  go_wp2_with fail
  refine (constants_impl hi 4 (by omega) h2 h3 _).mono ?_
  rintro e' w4 ⟨a4, c4, rfl, hb4, hr4⟩
  have b34 : Below w3.heap.size w3 w4 := (show Below w3.heap.size w3 _ from (by repeat (first | exact Below.refl _ _ | assumption | refine Below.drew ?_ | refine Below.alloc ?_ (by first | exact Nat.le_refl _ | omega | (simp; done) | (simp; omega)) _ | refine Below.setCell ?_ (by first | exact Nat.le_refl _ | omega | (simp; done) | (simp; omega)) _))).trans (hb4.mono (by simp))
  have x0 : w4.cell? ⟨w3.heap.size, 0, none⟩ = some (.int .i64 (kd t1)) := keep hb4 (by simp [go_sem])
  have x1 : w4.cell? ⟨w3.heap.size, 1, none⟩ = some (.int .i64 (nn t1)) := keep hb4 (by simp [go_sem])
  have x2 : w4.cell? ⟨w3.heap.size, 2, none⟩ = some (.slice a3 l3 c3) := keep hb4 (by simp [go_sem])
  have z3 : w.heap.size < w3.heap.size := (HZ.out w3 HB3.out).2.2.2
  have HB4 := hid (HB3.out.trans (b34.mono HB3.out.size))
  have HC4 : Hid (Rd (fun b => w.heap.size < b) 1048576 w4 1 (constT hi 4) a4 4) := hr4.imp fun b hb => by simp at hb; omega
  have HR4 := hid (HR3.out.below b34)
  have HX4 := hid (HX3.out.below b34)
  have XC : Hid (w4.cell? ⟨w3.heap.size, 0, none⟩ = some (.int .i64 (kd t1)) ∧ w4.cell? ⟨w3.heap.size, 1, none⟩ = some (.int .i64 (nn t1)) ∧ w4.cell? ⟨w3.heap.size, 2, none⟩ = some (.slice a3 l3 c3)) := ⟨x0, x1, x2⟩
  clear hb4 hr4 b34 x0 x1 x2
  go_wp2_with fail
  refine (less_q (fun b => w.heap.size < b) 0 (constT hi 4) portT _ _ 4 _ _ _ HC4.out HR4.out (const_kind hi)).mono ?_
  rintro e' w5 ⟨a5, l5, c5, rfl, hr5, hb5⟩
  rw [HT2.out] at hr5 ⊢
  have z4 : w.heap.size < w4.heap.size := (HZ.out w4 HB4.out).2.2.2
  have HB5 := hid (HB4.out.trans (hb5.mono HB4.out.size))
  have HX5 := hid (HX4.out.below hb5)
  have HY5 : Hid (Rd (fun b => w.heap.size < b) 1048576 w5 16 t2 a5 l5) := hr5.imp fun b hb => by omega
  have XC5 : Hid (w5.cell? ⟨w3.heap.size, 0, none⟩ = some (.int .i64 (kd t1)) ∧ w5.cell? ⟨w3.heap.size, 1, none⟩ = some (.int .i64 (nn t1)) ∧ w5.cell? ⟨w3.heap.size, 2, none⟩ = some (.slice a3 l3 c3)) := ⟨keep hb5 XC.out.1, keep hb5 XC.out.2.1, keep hb5 XC.out.2.2⟩
  clear hb5 hr5
  go_wp2_with fail
  have b5 : Below w5.heap.size w5 (w5.alloc (.cells #[.int .i64 (kd t2), .int .i64 (nn t2), .slice a5 l5 c5] 33)) := (by repeat (first | exact Below.refl _ _ | assumption | refine Below.drew ?_ | refine Below.alloc ?_ (by first | exact Nat.le_refl _ | omega | (simp; done) | (simp; omega)) _ | refine Below.setCell ?_ (by first | exact Nat.le_refl _ | omega | (simp; done) | (simp; omega)) _))
  have HX8 := hid (HX5.out.below b5)
  have HY8 := hid (HY5.out.below b5)
  have hc8 : ((w5.alloc (.cells #[.int .i64 (kd t2), .int .i64 (nn t2), .slice a5 l5 c5] 33)).cell? ⟨w3.heap.size, 0, none⟩ = some (.int .i64 (kd t1)) ∧ (w5.alloc (.cells #[.int .i64 (kd t2), .int .i64 (nn t2), .slice a5 l5 c5] 33)).cell? ⟨w3.heap.size, 1, none⟩ = some (.int .i64 (nn t1)) ∧ (w5.alloc (.cells #[.int .i64 (kd t2), .int .i64 (nn t2), .slice a5 l5 c5] 33)).cell? ⟨w3.heap.size, 2, none⟩ = some (.slice a3 l3 c3)) ∧ ((w5.alloc (.cells #[.int .i64 (kd t2), .int .i64 (nn t2), .slice a5 l5 c5] 33)).cell? ⟨w5.heap.size, 0, none⟩ = some (.int .i64 (kd t2)) ∧ (w5.alloc (.cells #[.int .i64 (kd t2), .int .i64 (nn t2), .slice a5 l5 c5] 33)).cell? ⟨w5.heap.size, 1, none⟩ = some (.int .i64 (nn t2)) ∧ (w5.alloc (.cells #[.int .i64 (kd t2), .int .i64 (nn t2), .slice a5 l5 c5] 33)).cell? ⟨w5.heap.size, 2, none⟩ = some (.slice a5 l5 c5)) := ⟨⟨keep b5 XC5.out.1, keep b5 XC5.out.2.1, keep b5 XC5.out.2.2⟩, by simp [go_sem], by simp [go_sem], by simp [go_sem]⟩
  have HB8 := hid (HB5.out.trans (b5.mono HB5.out.size))
  generalize (w5.alloc (.cells #[.int .i64 (kd t2), .int .i64 (nn t2), .slice a5 l5 c5] 33)) = W8 at *
  have HK : Hid (∀ w8 : World, Below W8.heap.size W8 w8 → (w8.cell? ⟨w3.heap.size, 0, none⟩ = some (.int .i64 (kd t1)) ∧ w8.cell? ⟨w3.heap.size, 1, none⟩ = some (.int .i64 (nn t1)) ∧ w8.cell? ⟨w3.heap.size, 2, none⟩ = some (.slice a3 l3 c3)) ∧ (w8.cell? ⟨w5.heap.size, 0, none⟩ = some (.int .i64 (kd t2)) ∧ w8.cell? ⟨w5.heap.size, 1, none⟩ = some (.int .i64 (nn t2)) ∧ w8.cell? ⟨w5.heap.size, 2, none⟩ = some (.slice a5 l5 c5)) ∧ (w8.cell? ⟨w.heap.size, 0, none⟩ = some (.int .i64 0) ∧ w8.cell? ⟨w.heap.size, 1, none⟩ = some (.int .i64 0) ∧ w8.cell? ⟨w.heap.size, 2, none⟩ = some (.slice none 0 0)) ∧ (∀ x, w8.frozen? ⟨w.heap.size, x, none⟩ = false) ∧ Below w.heap.size w w8 ∧ w.heap.size < w8.heap.size) :=
    fun w8 h => ⟨⟨keep h hc8.1.1, keep h hc8.1.2.1, keep h hc8.1.2.2⟩, ⟨keep h hc8.2.1, keep h hc8.2.2.1, keep h hc8.2.2.2⟩, HZ.out w8 (HB8.out.trans (h.mono HB8.out.size))⟩
  have z8 : w.heap.size < W8.heap.size := (HZ.out W8 HB8.out).2.2.2
  clear hc8 b5 XC XC5 HX3 HX4 HX5 HY5 HR HR2 HR3 HR4 HC2 HC4
  refine region_below (fun u => ⟨#[.int .i64 lo, .int .i64 hi, undef, undef, .pointer (some ⟨w.heap.size, 0, none⟩), .slice (some ⟨g, off, none⟩) 4 4, .pointer (some ⟨w3.heap.size, 0, none⟩), .pointer (some ⟨w5.heap.size, 0, none⟩), .slice (some ⟨g, off, none⟩) 12 c, .slice (some ⟨g, off, none⟩) 4 4, .slice (some ⟨g, off, none⟩) 4 4, .int .i64 lo, .slice a2 4 c2, .agg #[.int .i64 (kd t1), .int .i64 (nn t1), .slice a3 l3 c3], .int .i64 hi, .slice a4 4 c4, .slice (some ⟨g, off, none⟩) 4 4, .agg #[.int .i64 (kd t2), .int .i64 (nn t2), .slice a5 l5 c5], u 18, u 19, u 20, u 21, u 22, u 23, u 24, u 25], []⟩) (fun i => [18, 19, 20, 21, 22, 23, 24, 25].getD i 0) (fun i v w8 => match i with | 0 => TV (fun b => w.heap.size < b) W8.heap.size w8 (16) (t1) v | 1 => RV (fun b => w.heap.size < b) W8.heap.size w8 (16 + 1) (ndT 3 1 (one (t1))) 1 v | 2 => TV (fun b => w.heap.size < b) W8.heap.size w8 (16 + 1) (ndT 3 1 (one (t1))) v | 3 => TV (fun b => w.heap.size < b) W8.heap.size w8 (16) (t2) v | 4 => RV (fun b => w.heap.size < b) W8.heap.size w8 (16 + 1) (ndT 3 1 (one (t2))) 1 v | 5 => TV (fun b => w.heap.size < b) W8.heap.size w8 (16 + 1) (ndT 3 1 (one (t2))) v | 6 => RV (fun b => w.heap.size < b) W8.heap.size w8 (16 + 1 + 1) (ndT 4 2 (two (ndT 3 1 (one (t1))) (ndT 3 1 (one (t2))))) 2 v | 7 => TV (fun b => w.heap.size < b) W8.heap.size w8 (16 + 1 + 1) (ndT 4 2 (two (ndT 3 1 (one (t1))) (ndT 3 1 (one (t2))))) v | _ => True) W8 8 (fun k => match k with | 18 => undef | 19 => undef | 20 => undef | 21 => undef | 22 => undef | 23 => undef | 24 => undef | 25 => undef | _ => undef) (by rfl) (by kernel_rfl) (by rfl) ⟨by kernel_rfl, by kernel_rfl, by kernel_rfl, by decide⟩ (by kernel_rfl) (Below.refl _ _) ?hput ?hinj ?stable ?step ?last
  case hput =>
    intro i hi u v
    match i, hi with
    | 0, _ => rfl
    | 1, _ => rfl
    | 2, _ => rfl
    | 3, _ => rfl
    | 4, _ => rfl
    | 5, _ => rfl
    | 6, _ => rfl
    | 7, _ => rfl
    | i + 8, hi => exact absurd hi (by omega)
  case hinj =>
    intro i j hi hj h
    exact slots_inj [18, 19, 20, 21, 22, 23, 24, 25] (by decide) hi hj h
  case stable =>
    intro i v w8 w9 hb h
    match i, h with
    | 0, h => exact h.below hb
    | 1, h => exact h.below hb
    | 2, h => exact h.below hb
    | 3, h => exact h.below hb
    | 4, h => exact h.below hb
    | 5, h => exact h.below hb
    | 6, h => exact h.below hb
    | 7, h => exact h.below hb
    | _ + 8, h => trivial
  case step =>
    intro i hi u w8 S8 hdep
    match i, hi with
    | 0, _ =>
      clear hdep
      refine ⟨_, rfl, fun K' hK => ?_⟩
      obtain ⟨⟨c0, c1, c2⟩, ⟨d0, d1, d2⟩, -, -, -, -⟩ := HK.out w8 S8
      go_simp
      exact hK.out _ _ (Below.refl _ _) ⟨a3, l3, c3, rfl, nz_base (rd_old HX8.out) S8⟩
    | 1, _ =>
      have h0 : TV (fun b => w.heap.size < b) W8.heap.size w8 (16) (t1) (u 18) := hdep 0 (by kernel_rfl)
      clear hdep
      refine ⟨_, rfl, fun K' hK => ?_⟩
      obtain ⟨a0, l0, c0, e0, r0⟩ := h0
      simp only [e0] at hK ⊢
      go_simp
      exact hK.out _ _ (by repeat (first | exact Below.refl _ _ | assumption | refine Below.drew ?_ | refine Below.alloc ?_ (by first | exact Nat.le_refl _ | omega | (simp; done) | (simp; omega)) _ | refine Below.setCell ?_ (by first | exact Nat.le_refl _ | omega | (simp; done) | (simp; omega)) _)) ⟨w8.heap.size, rfl, row1 3 S8.size HK1.out (r0.more (by omega))⟩
    | 2, _ =>
      have h1 : RV (fun b => w.heap.size < b) W8.heap.size w8 (16 + 1) (ndT 3 1 (one (t1))) 1 (u 19) := hdep 1 (by kernel_rfl)
      clear hdep
      refine ⟨_, rfl, fun K' hK => ?_⟩
      obtain ⟨N1, e1, r1⟩ := h1
      simp only [e1] at hK ⊢
      go_simp
      refine (new_impl 3 _ _ _ _).mono ?_
      rintro e w9 ⟨rfl, hb9⟩
      exact hK.out _ _ hb9 ⟨_, _, _, rfl, nz_below r1 hb9⟩
    | 3, _ =>
      clear hdep
      refine ⟨_, rfl, fun K' hK => ?_⟩
      obtain ⟨⟨c0, c1, c2⟩, ⟨d0, d1, d2⟩, -, -, -, -⟩ := HK.out w8 S8
      go_simp
      exact hK.out _ _ (Below.refl _ _) ⟨a5, l5, c5, rfl, nz_base (rd_old HY8.out) S8⟩
    | 4, _ =>
      have h3 : TV (fun b => w.heap.size < b) W8.heap.size w8 (16) (t2) (u 21) := hdep 3 (by kernel_rfl)
      clear hdep
      refine ⟨_, rfl, fun K' hK => ?_⟩
      obtain ⟨a3, l3, c3, e3, r3⟩ := h3
      simp only [e3] at hK ⊢
      go_simp
      exact hK.out _ _ (by repeat (first | exact Below.refl _ _ | assumption | refine Below.drew ?_ | refine Below.alloc ?_ (by first | exact Nat.le_refl _ | omega | (simp; done) | (simp; omega)) _ | refine Below.setCell ?_ (by first | exact Nat.le_refl _ | omega | (simp; done) | (simp; omega)) _)) ⟨w8.heap.size, rfl, row1 3 S8.size HK2.out (r3.more (by omega))⟩
    | 5, _ =>
      have h4 : RV (fun b => w.heap.size < b) W8.heap.size w8 (16 + 1) (ndT 3 1 (one (t2))) 1 (u 22) := hdep 4 (by kernel_rfl)
      clear hdep
      refine ⟨_, rfl, fun K' hK => ?_⟩
      obtain ⟨N4, e4, r4⟩ := h4
      simp only [e4] at hK ⊢
      go_simp
      refine (new_impl 3 _ _ _ _).mono ?_
      rintro e w9 ⟨rfl, hb9⟩
      exact hK.out _ _ hb9 ⟨_, _, _, rfl, nz_below r4 hb9⟩
    | 6, _ =>
      have h2 : TV (fun b => w.heap.size < b) W8.heap.size w8 (16 + 1) (ndT 3 1 (one (t1))) (u 20) := hdep 2 (by kernel_rfl)
      have h5 : TV (fun b => w.heap.size < b) W8.heap.size w8 (16 + 1) (ndT 3 1 (one (t2))) (u 23) := hdep 5 (by kernel_rfl)
      clear hdep
      refine ⟨_, rfl, fun K' hK => ?_⟩
      obtain ⟨a2, l2, c2, e2, r2⟩ := h2
      obtain ⟨a5, l5, c5, e5, r5⟩ := h5
      simp only [e2, e5] at hK ⊢
      go_simp
      exact hK.out _ _ (by repeat (first | exact Below.refl _ _ | assumption | refine Below.drew ?_ | refine Below.alloc ?_ (by first | exact Nat.le_refl _ | omega | (simp; done) | (simp; omega)) _ | refine Below.setCell ?_ (by first | exact Nat.le_refl _ | omega | (simp; done) | (simp; omega)) _)) ⟨w8.heap.size, rfl, row2 4 S8.size (nd_kind (by decide)) (r2.more (by omega)) (r5.more (by omega))⟩
    | 7, _ =>
      have h6 : RV (fun b => w.heap.size < b) W8.heap.size w8 (16 + 1 + 1) (ndT 4 2 (two (ndT 3 1 (one (t1))) (ndT 3 1 (one (t2))))) 2 (u 24) := hdep 6 (by kernel_rfl)
      clear hdep
      refine ⟨_, rfl, fun K' hK => ?_⟩
      obtain ⟨N6, e6, r6⟩ := h6
      simp only [e6] at hK ⊢
      go_simp
      refine (new_impl 4 _ _ _ _).mono ?_
      rintro e w9 ⟨rfl, hb9⟩
      exact hK.out _ _ hb9 ⟨_, _, _, rfl, nz_below r6 hb9⟩
    | i + 8, hi => exact absurd hi (by omega)
  case last =>
    intro u w8 S8 hall
    have h7 : TV (fun b => w.heap.size < b) W8.heap.size w8 (16 + 1 + 1) (ndT 4 2 (two (ndT 3 1 (one (t1))) (ndT 3 1 (one (t2))))) (u 25) := hall 7 (by decide)
    clear hall
    refine ⟨_, rfl, fun K' hK => ?_⟩
    obtain ⟨-, -, ⟨f0, f1, f2⟩, hfr, hbb, hzz⟩ := HK.out w8 S8
    have g0 := hfr 0
    have g1 := hfr 1
    have g2 := hfr 2
    obtain ⟨a8, l8, c8, e8, r8⟩ := h7
    simp only [e8] at hK ⊢
    go_simp
    refine hK.out _ _ ?_
    clear hK K'
    (try simp only [Exit.then])
    have HR := hid (rd_set3 (r8.imp (q' := fun b => w.heap.size < b) fun b hb => by rcases hb with hb | hb; exact hb.1; omega) (R := w.heap.size) (Nat.lt_irrefl _) (.int .i64 (kd (ndT 4 2 (two (ndT 3 1 (one (t1))) (ndT 3 1 (one (t2))))))) (.int .i64 (nn (ndT 4 2 (two (ndT 3 1 (one (t1))) (ndT 3 1 (one (t2))))))) (.slice a8 l8 c8))
    have HB := hid (below_set3 hbb (R := w.heap.size) (Nat.le_refl _) (.int .i64 (kd (ndT 4 2 (two (ndT 3 1 (one (t1))) (ndT 3 1 (one (t2))))))) (.int .i64 (nn (ndT 4 2 (two (ndT 3 1 (one (t1))) (ndT 3 1 (one (t2))))))) (.slice a8 l8 c8))
    go_wp2
    refine bodyPost_ret (v := .agg #[.int .i64 (kd (ndT 4 2 (two (ndT 3 1 (one (t1))) (ndT 3 1 (one (t2)))))), .int .i64 (nn (ndT 4 2 (two (ndT 3 1 (one (t1))) (ndT 3 1 (one (t2)))))), .slice a8 l8 c8]) (by simp [results, Try.results17, go_sem, f0, f1, f2]) rfl ⟨_, rfl, ⟨a8, l8, c8, HR.out.imp fun b h => Nat.le_of_lt h, rfl⟩, HB.out⟩
end Go.Proofs.Ytofdhoefphoaaaa.fexWithin
