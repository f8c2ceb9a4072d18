/- What the program puts together of two rows of expressions, bit by bit; conditions: none. -/
import Derived.Test.YtacamkdcofppcaaBuilt
namespace Go.Proofs.Ytacamkdcofppcaa.equalImpl
open Go.RowKit Go.Deep Go base trees built heldStore drawn
set_option linter.unusedVariables false

def eqStep (e p q : T) : T := ndT 4 2 (two e (ndT 3 1 (one (ndT 6 2 (two p q)))))
set_option maxHeartbeats 3200000 in
set_option maxRecDepth 8000 in
theorem equal_step (Q : Nat → Prop) (D : Nat) (e p q : T) (ae ap aq : Option Addr) (le lp lq ce cp cq : Nat) (w : World) (he : Rd Q 1048576 w D e ae le) (hp : Rd Q 1048576 w D p ap lp) (hq : Rd Q 1048576 w D q aq lq) (ke : kd e ≠ 0) (kp : kd p ≠ 0) :
    Calls Try.prog 22 #[.agg #[.int .i64 (kd e), .int .i64 (nn e), .slice ae le ce], .agg #[.int .i64 (kd p), .int .i64 (nn p), .slice ap lp cp], .agg #[.int .i64 (kd q), .int .i64 (nn q), .slice aq lq cq]] w fun e' w' => ∃ v, e' = .returned v ∧ XV (fun b => Q b ∨ w.heap.size ≤ b) w' (D + 3) (eqStep e p q) v ∧ Below w.heap.size w w' := by
  have HE := hid he
  have HP := hid hp
  have HQ := hid hq
  clear he hp hq
  go_enter Try.func22, Try.ntmps22
  go_wp2_with fail
  have HW : Hid (Below w.heap.size w ((((w.alloc (.cells #[.int .i64 (kd e), .int .i64 (nn e), .slice ae le ce] 27)).alloc (.cells #[.int .i64 (kd p), .int .i64 (nn p), .slice ap lp cp] 27)).alloc (.cells #[.int .i64 (kd q), .int .i64 (nn q), .slice aq lq cq] 27)).alloc (.cells #[.int .i64 0, .int .i64 0, .slice none 0 0] 27))) := (by repeat (first | exact Below.refl _ _ | assumption | refine Below.drew ?_ | refine Below.alloc ?_ (by first | exact Nat.le_refl _ | omega | (simp; done) | (simp; omega)) _ | refine Below.setCell ?_ (by first | exact Nat.le_refl _ | omega | (simp; done) | (simp; omega)) _))
  have hf : ((((w.alloc (.cells #[.int .i64 (kd e), .int .i64 (nn e), .slice ae le ce] 27)).alloc (.cells #[.int .i64 (kd p), .int .i64 (nn p), .slice ap lp cp] 27)).alloc (.cells #[.int .i64 (kd q), .int .i64 (nn q), .slice aq lq cq] 27)).alloc (.cells #[.int .i64 0, .int .i64 0, .slice none 0 0] 27)).cell? ⟨w.heap.size, 0, none⟩ = some (.int .i64 (kd e)) ∧ ((((w.alloc (.cells #[.int .i64 (kd e), .int .i64 (nn e), .slice ae le ce] 27)).alloc (.cells #[.int .i64 (kd p), .int .i64 (nn p), .slice ap lp cp] 27)).alloc (.cells #[.int .i64 (kd q), .int .i64 (nn q), .slice aq lq cq] 27)).alloc (.cells #[.int .i64 0, .int .i64 0, .slice none 0 0] 27)).cell? ⟨w.heap.size, 1, none⟩ = some (.int .i64 (nn e)) ∧ ((((w.alloc (.cells #[.int .i64 (kd e), .int .i64 (nn e), .slice ae le ce] 27)).alloc (.cells #[.int .i64 (kd p), .int .i64 (nn p), .slice ap lp cp] 27)).alloc (.cells #[.int .i64 (kd q), .int .i64 (nn q), .slice aq lq cq] 27)).alloc (.cells #[.int .i64 0, .int .i64 0, .slice none 0 0] 27)).cell? ⟨w.heap.size, 2, none⟩ = some (.slice ae le ce) ∧ ((((w.alloc (.cells #[.int .i64 (kd e), .int .i64 (nn e), .slice ae le ce] 27)).alloc (.cells #[.int .i64 (kd p), .int .i64 (nn p), .slice ap lp cp] 27)).alloc (.cells #[.int .i64 (kd q), .int .i64 (nn q), .slice aq lq cq] 27)).alloc (.cells #[.int .i64 0, .int .i64 0, .slice none 0 0] 27)).cell? ⟨w.heap.size + 1, 0, none⟩ = some (.int .i64 (kd p)) ∧ ((((w.alloc (.cells #[.int .i64 (kd e), .int .i64 (nn e), .slice ae le ce] 27)).alloc (.cells #[.int .i64 (kd p), .int .i64 (nn p), .slice ap lp cp] 27)).alloc (.cells #[.int .i64 (kd q), .int .i64 (nn q), .slice aq lq cq] 27)).alloc (.cells #[.int .i64 0, .int .i64 0, .slice none 0 0] 27)).cell? ⟨w.heap.size + 1, 1, none⟩ = some (.int .i64 (nn p)) ∧ ((((w.alloc (.cells #[.int .i64 (kd e), .int .i64 (nn e), .slice ae le ce] 27)).alloc (.cells #[.int .i64 (kd p), .int .i64 (nn p), .slice ap lp cp] 27)).alloc (.cells #[.int .i64 (kd q), .int .i64 (nn q), .slice aq lq cq] 27)).alloc (.cells #[.int .i64 0, .int .i64 0, .slice none 0 0] 27)).cell? ⟨w.heap.size + 1, 2, none⟩ = some (.slice ap lp cp) ∧ ((((w.alloc (.cells #[.int .i64 (kd e), .int .i64 (nn e), .slice ae le ce] 27)).alloc (.cells #[.int .i64 (kd p), .int .i64 (nn p), .slice ap lp cp] 27)).alloc (.cells #[.int .i64 (kd q), .int .i64 (nn q), .slice aq lq cq] 27)).alloc (.cells #[.int .i64 0, .int .i64 0, .slice none 0 0] 27)).cell? ⟨w.heap.size + 1 + 1, 0, none⟩ = some (.int .i64 (kd q)) ∧ ((((w.alloc (.cells #[.int .i64 (kd e), .int .i64 (nn e), .slice ae le ce] 27)).alloc (.cells #[.int .i64 (kd p), .int .i64 (nn p), .slice ap lp cp] 27)).alloc (.cells #[.int .i64 (kd q), .int .i64 (nn q), .slice aq lq cq] 27)).alloc (.cells #[.int .i64 0, .int .i64 0, .slice none 0 0] 27)).cell? ⟨w.heap.size + 1 + 1, 1, none⟩ = some (.int .i64 (nn q)) ∧ ((((w.alloc (.cells #[.int .i64 (kd e), .int .i64 (nn e), .slice ae le ce] 27)).alloc (.cells #[.int .i64 (kd p), .int .i64 (nn p), .slice ap lp cp] 27)).alloc (.cells #[.int .i64 (kd q), .int .i64 (nn q), .slice aq lq cq] 27)).alloc (.cells #[.int .i64 0, .int .i64 0, .slice none 0 0] 27)).cell? ⟨w.heap.size + 1 + 1, 2, none⟩ = some (.slice aq lq cq) ∧ ((((w.alloc (.cells #[.int .i64 (kd e), .int .i64 (nn e), .slice ae le ce] 27)).alloc (.cells #[.int .i64 (kd p), .int .i64 (nn p), .slice ap lp cp] 27)).alloc (.cells #[.int .i64 (kd q), .int .i64 (nn q), .slice aq lq cq] 27)).alloc (.cells #[.int .i64 0, .int .i64 0, .slice none 0 0] 27)).cell? ⟨w.heap.size + 1 + 1 + 1, 0, none⟩ = some (.int .i64 0) ∧ ((((w.alloc (.cells #[.int .i64 (kd e), .int .i64 (nn e), .slice ae le ce] 27)).alloc (.cells #[.int .i64 (kd p), .int .i64 (nn p), .slice ap lp cp] 27)).alloc (.cells #[.int .i64 (kd q), .int .i64 (nn q), .slice aq lq cq] 27)).alloc (.cells #[.int .i64 0, .int .i64 0, .slice none 0 0] 27)).cell? ⟨w.heap.size + 1 + 1 + 1, 1, none⟩ = some (.int .i64 0) ∧ ((((w.alloc (.cells #[.int .i64 (kd e), .int .i64 (nn e), .slice ae le ce] 27)).alloc (.cells #[.int .i64 (kd p), .int .i64 (nn p), .slice ap lp cp] 27)).alloc (.cells #[.int .i64 (kd q), .int .i64 (nn q), .slice aq lq cq] 27)).alloc (.cells #[.int .i64 0, .int .i64 0, .slice none 0 0] 27)).cell? ⟨w.heap.size + 1 + 1 + 1, 2, none⟩ = some (.slice none 0 0) ∧ ((((w.alloc (.cells #[.int .i64 (kd e), .int .i64 (nn e), .slice ae le ce] 27)).alloc (.cells #[.int .i64 (kd p), .int .i64 (nn p), .slice ap lp cp] 27)).alloc (.cells #[.int .i64 (kd q), .int .i64 (nn q), .slice aq lq cq] 27)).alloc (.cells #[.int .i64 0, .int .i64 0, .slice none 0 0] 27)).frozen? ⟨w.heap.size + 1 + 1 + 1, 0, none⟩ = false ∧ ((((w.alloc (.cells #[.int .i64 (kd e), .int .i64 (nn e), .slice ae le ce] 27)).alloc (.cells #[.int .i64 (kd p), .int .i64 (nn p), .slice ap lp cp] 27)).alloc (.cells #[.int .i64 (kd q), .int .i64 (nn q), .slice aq lq cq] 27)).alloc (.cells #[.int .i64 0, .int .i64 0, .slice none 0 0] 27)).frozen? ⟨w.heap.size + 1 + 1 + 1, 1, none⟩ = false ∧ ((((w.alloc (.cells #[.int .i64 (kd e), .int .i64 (nn e), .slice ae le ce] 27)).alloc (.cells #[.int .i64 (kd p), .int .i64 (nn p), .slice ap lp cp] 27)).alloc (.cells #[.int .i64 (kd q), .int .i64 (nn q), .slice aq lq cq] 27)).alloc (.cells #[.int .i64 0, .int .i64 0, .slice none 0 0] 27)).frozen? ⟨w.heap.size + 1 + 1 + 1, 2, none⟩ = false := by
    refine ⟨?_, ?_, ?_, ?_, ?_, ?_, ?_, ?_, ?_, ?_, ?_, ?_, ?_, ?_, ?_⟩ <;> simp [go_sem]
  have HZ : Hid (((((w.alloc (.cells #[.int .i64 (kd e), .int .i64 (nn e), .slice ae le ce] 27)).alloc (.cells #[.int .i64 (kd p), .int .i64 (nn p), .slice ap lp cp] 27)).alloc (.cells #[.int .i64 (kd q), .int .i64 (nn q), .slice aq lq cq] 27)).alloc (.cells #[.int .i64 0, .int .i64 0, .slice none 0 0] 27)).heap.size = w.heap.size + 1 + 1 + 1 + 1) := by show _ = _; simp
  generalize ((((w.alloc (.cells #[.int .i64 (kd e), .int .i64 (nn e), .slice ae le ce] 27)).alloc (.cells #[.int .i64 (kd p), .int .i64 (nn p), .slice ap lp cp] 27)).alloc (.cells #[.int .i64 (kd q), .int .i64 (nn q), .slice aq lq cq] 27)).alloc (.cells #[.int .i64 0, .int .i64 0, .slice none 0 0] 27)) = W8 at *
  have HK : Hid (∀ w8 : World, Below W8.heap.size W8 w8 → w8.cell? ⟨w.heap.size, 0, none⟩ = some (.int .i64 (kd e)) ∧ w8.cell? ⟨w.heap.size, 1, none⟩ = some (.int .i64 (nn e)) ∧ w8.cell? ⟨w.heap.size, 2, none⟩ = some (.slice ae le ce) ∧ w8.cell? ⟨w.heap.size + 1, 0, none⟩ = some (.int .i64 (kd p)) ∧ w8.cell? ⟨w.heap.size + 1, 1, none⟩ = some (.int .i64 (nn p)) ∧ w8.cell? ⟨w.heap.size + 1, 2, none⟩ = some (.slice ap lp cp) ∧ w8.cell? ⟨w.heap.size + 1 + 1, 0, none⟩ = some (.int .i64 (kd q)) ∧ w8.cell? ⟨w.heap.size + 1 + 1, 1, none⟩ = some (.int .i64 (nn q)) ∧ w8.cell? ⟨w.heap.size + 1 + 1, 2, none⟩ = some (.slice aq lq cq) ∧ w8.cell? ⟨w.heap.size + 1 + 1 + 1, 0, none⟩ = some (.int .i64 0) ∧ w8.cell? ⟨w.heap.size + 1 + 1 + 1, 1, none⟩ = some (.int .i64 0) ∧ w8.cell? ⟨w.heap.size + 1 + 1 + 1, 2, none⟩ = some (.slice none 0 0) ∧ w8.frozen? ⟨w.heap.size + 1 + 1 + 1, 0, none⟩ = false ∧ w8.frozen? ⟨w.heap.size + 1 + 1 + 1, 1, none⟩ = false ∧ w8.frozen? ⟨w.heap.size + 1 + 1 + 1, 2, none⟩ = false) :=
    fun w8 h => ⟨keep h hf.1, keep h hf.2.1, keep h hf.2.2.1, keep h hf.2.2.2.1, keep h hf.2.2.2.2.1, keep h hf.2.2.2.2.2.1, keep h hf.2.2.2.2.2.2.1, keep h hf.2.2.2.2.2.2.2.1, keep h hf.2.2.2.2.2.2.2.2.1, keep h hf.2.2.2.2.2.2.2.2.2.1, keep h hf.2.2.2.2.2.2.2.2.2.2.1, keep h hf.2.2.2.2.2.2.2.2.2.2.2.1,
      (h.frozen (by rw [HZ.out]; dsimp only; omega)).trans hf.2.2.2.2.2.2.2.2.2.2.2.2.1, (h.frozen (by rw [HZ.out]; dsimp only; omega)).trans hf.2.2.2.2.2.2.2.2.2.2.2.2.2.1, (h.frozen (by rw [HZ.out]; dsimp only; omega)).trans hf.2.2.2.2.2.2.2.2.2.2.2.2.2.2⟩
  clear hf
  refine region_below (fun u => ⟨#[.agg #[.int .i64 (kd e), .int .i64 (nn e), .slice ae le ce], .agg #[.int .i64 (kd p), .int .i64 (nn p), .slice ap lp cp], .agg #[.int .i64 (kd q), .int .i64 (nn q), .slice aq lq cq], .pointer (some ⟨w.heap.size, 0, none⟩), .pointer (some ⟨w.heap.size + 1, 0, none⟩), .pointer (some ⟨w.heap.size + 1 + 1, 0, none⟩), .pointer (some ⟨w.heap.size + 1 + 1 + 1, 0, none⟩), u 7, u 8, u 9, u 10, u 11, u 12, u 13, u 14, u 15], []⟩) (fun i => [7, 8, 9, 10, 11, 12, 13, 14, 15].getD i 0) (fun i v w8 => match i with | 0 => TV Q w.heap.size w8 (D) (e) v | 1 => TV Q w.heap.size w8 (D) (p) v | 2 => TV Q w.heap.size w8 (D) (q) v | 3 => RV Q w.heap.size w8 (D + 1) (ndT 6 2 (two (p) (q))) 2 v | 4 => TV Q w.heap.size w8 (D + 1) (ndT 6 2 (two (p) (q))) v | 5 => RV Q w.heap.size w8 (D + 1 + 1) (ndT 3 1 (one (ndT 6 2 (two (p) (q))))) 1 v | 6 => TV Q w.heap.size w8 (D + 1 + 1) (ndT 3 1 (one (ndT 6 2 (two (p) (q))))) v | 7 => RV Q w.heap.size w8 (D + 1 + 1 + 1) (ndT 4 2 (two (e) (ndT 3 1 (one (ndT 6 2 (two (p) (q))))))) 2 v | 8 => TV Q w.heap.size w8 (D + 1 + 1 + 1) (ndT 4 2 (two (e) (ndT 3 1 (one (ndT 6 2 (two (p) (q))))))) v | _ => True) W8 9 (fun k => match k with | 7 => undef | 8 => undef | 9 => undef | 10 => undef | 11 => undef | 12 => undef | 13 => undef | 14 => undef | 15 => undef | _ => undef) (by rfl) (by kernel_rfl) (by rfl) ⟨by kernel_rfl, by kernel_rfl, by kernel_rfl, by decide⟩ (by kernel_rfl) (Below.refl _ _) ?hput ?hinj ?stable ?step ?last
  case hput =>
    intro i hi u v
    match i, hi with
    | 0, _ => rfl
    | 1, _ => rfl
    | 2, _ => rfl
    | 3, _ => rfl
    | 4, _ => rfl
    | 5, _ => rfl
    | 6, _ => rfl
    | 7, _ => rfl
    | 8, _ => rfl
  case hinj =>
    intro i j hi hj h
    exact slots_inj [7, 8, 9, 10, 11, 12, 13, 14, 15] (by decide) hi hj h
  case stable =>
    intro i v w8 w9 hb h
    match i, h with
    | 0, h => exact h.below hb
    | 1, h => exact h.below hb
    | 2, h => exact h.below hb
    | 3, h => exact h.below hb
    | 4, h => exact h.below hb
    | 5, h => exact h.below hb
    | 6, h => exact h.below hb
    | 7, h => exact h.below hb
    | 8, h => exact h.below hb
    | _ + 9, h => trivial
  case step =>
    intro i hi u w8 S8 hdep
    match i, hi with
    | 0, _ =>
      clear hdep
      refine ⟨_, rfl, fun K' hK => ?_⟩
      obtain ⟨f0, f1, f2, f3, f4, f5, f6, f7, f8, f9, f10, f11, g0, g1, g2⟩ := HK.out w8 S8
      go_simp
      exact hK.out _ _ (Below.refl _ _) ⟨ae, le, ce, rfl, nz_below (nz_base (rd_old HE.out) HW.out) S8⟩
    | 1, _ =>
      clear hdep
      refine ⟨_, rfl, fun K' hK => ?_⟩
      obtain ⟨f0, f1, f2, f3, f4, f5, f6, f7, f8, f9, f10, f11, g0, g1, g2⟩ := HK.out w8 S8
      go_simp
      exact hK.out _ _ (Below.refl _ _) ⟨ap, lp, cp, rfl, nz_below (nz_base (rd_old HP.out) HW.out) S8⟩
    | 2, _ =>
      clear hdep
      refine ⟨_, rfl, fun K' hK => ?_⟩
      obtain ⟨f0, f1, f2, f3, f4, f5, f6, f7, f8, f9, f10, f11, g0, g1, g2⟩ := HK.out w8 S8
      go_simp
      exact hK.out _ _ (Below.refl _ _) ⟨aq, lq, cq, rfl, nz_below (nz_base (rd_old HQ.out) HW.out) S8⟩
    | 3, _ =>
      have h1 : TV Q w.heap.size w8 (D) (p) (u 8) := hdep 1 (by kernel_rfl)
      have h2 : TV Q w.heap.size w8 (D) (q) (u 9) := hdep 2 (by kernel_rfl)
      clear hdep
      refine ⟨_, rfl, fun K' hK => ?_⟩
      obtain ⟨a1, l1, c1, e1, r1⟩ := h1
      obtain ⟨a2, l2, c2, e2, r2⟩ := h2
      simp only [e1, e2] at hK ⊢
      go_simp
      exact hK.out _ _ (by repeat (first | exact Below.refl _ _ | assumption | refine Below.drew ?_ | refine Below.alloc ?_ (by first | exact Nat.le_refl _ | omega | (simp; done) | (simp; omega)) _ | refine Below.setCell ?_ (by first | exact Nat.le_refl _ | omega | (simp; done) | (simp; omega)) _)) ⟨w8.heap.size, rfl, row2 6 (Nat.le_trans (by rw [HZ.out]; omega) S8.size) kp (r1.more (by omega)) (r2.more (by omega))⟩
    | 4, _ =>
      have h3 : RV Q w.heap.size w8 (D + 1) (ndT 6 2 (two (p) (q))) 2 (u 10) := hdep 3 (by kernel_rfl)
      clear hdep
      refine ⟨_, rfl, fun K' hK => ?_⟩
      obtain ⟨N3, e3, r3⟩ := h3
      simp only [e3] at hK ⊢
      go_simp
      refine (new_impl 6 _ _ _ _).mono ?_
      rintro e w9 ⟨rfl, hb9⟩
      exact hK.out _ _ hb9 ⟨_, _, _, rfl, nz_below r3 hb9⟩
    | 5, _ =>
      have h4 : TV Q w.heap.size w8 (D + 1) (ndT 6 2 (two (p) (q))) (u 11) := hdep 4 (by kernel_rfl)
      clear hdep
      refine ⟨_, rfl, fun K' hK => ?_⟩
      obtain ⟨a4, l4, c4, e4, r4⟩ := h4
      simp only [e4] at hK ⊢
      go_simp
      exact hK.out _ _ (by repeat (first | exact Below.refl _ _ | assumption | refine Below.drew ?_ | refine Below.alloc ?_ (by first | exact Nat.le_refl _ | omega | (simp; done) | (simp; omega)) _ | refine Below.setCell ?_ (by first | exact Nat.le_refl _ | omega | (simp; done) | (simp; omega)) _)) ⟨w8.heap.size, rfl, row1 3 (Nat.le_trans (by rw [HZ.out]; omega) S8.size) (nd_kind (by decide)) (r4.more (by omega))⟩
    | 6, _ =>
      have h5 : RV Q w.heap.size w8 (D + 1 + 1) (ndT 3 1 (one (ndT 6 2 (two (p) (q))))) 1 (u 12) := hdep 5 (by kernel_rfl)
      clear hdep
      refine ⟨_, rfl, fun K' hK => ?_⟩
      obtain ⟨N5, e5, r5⟩ := h5
      simp only [e5] at hK ⊢
      go_simp
      refine (new_impl 3 _ _ _ _).mono ?_
      rintro e w9 ⟨rfl, hb9⟩
      exact hK.out _ _ hb9 ⟨_, _, _, rfl, nz_below r5 hb9⟩
    | 7, _ =>
      have h0 : TV Q w.heap.size w8 (D) (e) (u 7) := hdep 0 (by kernel_rfl)
      have h6 : TV Q w.heap.size w8 (D + 1 + 1) (ndT 3 1 (one (ndT 6 2 (two (p) (q))))) (u 13) := hdep 6 (by kernel_rfl)
      clear hdep
      refine ⟨_, rfl, fun K' hK => ?_⟩
      obtain ⟨a0, l0, c0, e0, r0⟩ := h0
      obtain ⟨a6, l6, c6, e6, r6⟩ := h6
      simp only [e0, e6] at hK ⊢
      go_simp
      exact hK.out _ _ (by repeat (first | exact Below.refl _ _ | assumption | refine Below.drew ?_ | refine Below.alloc ?_ (by first | exact Nat.le_refl _ | omega | (simp; done) | (simp; omega)) _ | refine Below.setCell ?_ (by first | exact Nat.le_refl _ | omega | (simp; done) | (simp; omega)) _)) ⟨w8.heap.size, rfl, row2 4 (Nat.le_trans (by rw [HZ.out]; omega) S8.size) ke (r0.more (by omega)) (r6.more (by omega))⟩
    | 8, _ =>
      have h7 : RV Q w.heap.size w8 (D + 1 + 1 + 1) (ndT 4 2 (two (e) (ndT 3 1 (one (ndT 6 2 (two (p) (q))))))) 2 (u 14) := hdep 7 (by kernel_rfl)
      clear hdep
      refine ⟨_, rfl, fun K' hK => ?_⟩
      obtain ⟨N7, e7, r7⟩ := h7
      simp only [e7] at hK ⊢
      go_simp
      refine (new_impl 4 _ _ _ _).mono ?_
      rintro e w9 ⟨rfl, hb9⟩
      exact hK.out _ _ hb9 ⟨_, _, _, rfl, nz_below r7 hb9⟩
  case last =>
    intro u w8 S8 hall
    have h8 : TV Q w.heap.size w8 (D + 1 + 1 + 1) (ndT 4 2 (two (e) (ndT 3 1 (one (ndT 6 2 (two (p) (q))))))) (u 15) := hall 8 (by decide)
    clear hall
    refine ⟨_, rfl, fun K' hK => ?_⟩
    obtain ⟨f0, f1, f2, f3, f4, f5, f6, f7, f8, f9, f10, f11, g0, g1, g2⟩ := HK.out w8 S8
    obtain ⟨a8, l8, c8, e8, r8⟩ := h8
    go_simp
    refine hK.out _ _ ?_
    clear hK K'
    (try simp only [Exit.then])
    have HR := hid (rd_set3 (nz_not r8 (by omega) f9) (R := w.heap.size + 1 + 1 + 1) (by simp) (.int .i64 (kd (ndT 4 2 (two (e) (ndT 3 1 (one (ndT 6 2 (two (p) (q))))))))) (.int .i64 (nn (ndT 4 2 (two (e) (ndT 3 1 (one (ndT 6 2 (two (p) (q))))))))) (.slice a8 l8 c8))
    have HB := hid (below_set3 (HW.out.trans (S8.mono (by rw [HZ.out]; omega))) (R := w.heap.size + 1 + 1 + 1) (by omega) (.int .i64 (kd (ndT 4 2 (two (e) (ndT 3 1 (one (ndT 6 2 (two (p) (q))))))))) (.int .i64 (nn (ndT 4 2 (two (e) (ndT 3 1 (one (ndT 6 2 (two (p) (q))))))))) (.slice a8 l8 c8))
    go_wp2
    refine bodyPost_ret (v := .agg #[.int .i64 (kd (ndT 4 2 (two (e) (ndT 3 1 (one (ndT 6 2 (two (p) (q)))))))), .int .i64 (nn (ndT 4 2 (two (e) (ndT 3 1 (one (ndT 6 2 (two (p) (q)))))))), .slice a8 l8 c8]) (by simp [results, Try.results22, go_sem, f9, f10, f11]) rfl ⟨_, rfl, ⟨a8, l8, c8, HR.out.imp fun _ h => h.1, rfl⟩, HB.out⟩

/-- What is gathered of the first so many. -/
def eqT (A B s0 : T) : Nat → T
  | 0 => s0
  | i + 1 => eqStep (eqT A B s0 i) (kid A i) (kid B i)
theorem eqT_kind {A B s0 : T} (h : kd s0 ≠ 0) (i : Nat) : kd (eqT A B s0 i) ≠ 0 := by
  cases i with
  | zero => exact h
  | succ i => exact nd_kind (by decide)
set_option maxHeartbeats 3200000 in
set_option maxRecDepth 8000 in
theorem eqT_gathered (Q : Nat → Prop) (D : Nat) (A B s0 : T) (aA aB aS : Option Addr) (l cA cB lS cS : Nat) (w : World) (hA : Rd Q 1048576 w (D + 1) A aA l) (hB : Rd Q 1048576 w (D + 1) B aB l) (hS : Rd Q 1048576 w D s0 aS lS) (ks : kd s0 ≠ 0) (kA : ∀ i, i < l → kd (kid A i) ≠ 0) :
    Calls Try.prog 20 #[.agg #[.int .i64 (kd s0), .int .i64 (nn s0), .slice aS lS cS], .slice aA l cA, .slice aB l cB, .func (.func 22) #[] #[]] w fun e' w' => ∃ v, e' = .returned v ∧ XV (fun b => Q b ∨ w.heap.size ≤ b) w' (D + 3 * l) (eqT A B s0 l) v ∧ Below w.heap.size w w' := by
  have hmost := hA.most
  have HA := hid (rd_old hA)
  have HB := hid (rd_old hB)
  have HS := hid (rd_old hS)
  have HKA := hid kA
  have HKS := hid ks
  clear hA hB hS kA ks
  go_enter Try.func20, Try.ntmps20
  go_wp2
  go_loopw [12] (fun i wr => ∃ (k : Nat) (a : Option Addr) (lk ck : Nat), k ≤ l ∧ i = .int .i64 k ∧ Below w.heap.size w wr ∧ Rd (fun b => (Q b ∧ b < w.heap.size) ∨ w.heap.size + 1 < b) 1048576 wr (D + 3 * k) (eqT A B s0 k) a lk ∧
    (wr.cell? ⟨w.heap.size, 0, none⟩ = some (.int .i64 (kd (eqT A B s0 k))) ∧ wr.cell? ⟨w.heap.size, 1, none⟩ = some (.int .i64 (nn (eqT A B s0 k))) ∧ wr.cell? ⟨w.heap.size, 2, none⟩ = some (.slice a lk ck)) ∧
    (wr.cell? ⟨w.heap.size + 1, 0, none⟩ = some (.int .i64 0) ∧ wr.cell? ⟨w.heap.size + 1, 1, none⟩ = some (.int .i64 0) ∧ wr.cell? ⟨w.heap.size + 1, 2, none⟩ = some (.slice none 0 0)) ∧
    (∀ x, wr.frozen? ⟨w.heap.size, x, none⟩ = false ∧ wr.frozen? ⟨w.heap.size + 1, x, none⟩ = false)) (fun i _ => l - (intOf i).toNat)
  case atStart => exact ⟨0, aS, lS, cS, Nat.zero_le _, rfl, (by repeat (first | exact Below.refl _ _ | assumption | refine Below.drew ?_ | refine Below.alloc ?_ (by first | exact Nat.le_refl _ | omega | (simp; done) | (simp; omega)) _ | refine Below.setCell ?_ (by first | exact Nat.le_refl _ | omega | (simp; done) | (simp; omega)) _)), (HS.out.imp fun b hb => .inl hb).below (by repeat (first | exact Below.refl _ _ | assumption | refine Below.drew ?_ | refine Below.alloc ?_ (by first | exact Nat.le_refl _ | omega | (simp; done) | (simp; omega)) _ | refine Below.setCell ?_ (by first | exact Nat.le_refl _ | omega | (simp; done) | (simp; omega)) _)), ⟨by simp [go_sem, eqT], by simp [go_sem, eqT], by simp [go_sem]⟩, ⟨by simp [go_sem], by simp [go_sem], by simp [go_sem]⟩, fun x => ⟨by simp [go_sem], by simp [go_sem]⟩⟩
  case round =>
    obtain ⟨k, ak, lk, ck, hk, rfl, hb, hrk, ⟨c0, c1, c2⟩, ⟨z0, z1, z2⟩, hfr⟩ := hrel
    have HBe := hid hb
    have HRk := hid hrk
    have HFr := hid hfr
    have hsz : w.heap.size + 1 < wr.heap.size := World.block_lt_of_cell? _ _ z0
    clear hb hrk hfr
    by_cases hlt : k < l
    · obtain ⟨hd0, bA, offA, rfl, -, x0, x1, ax, lx, cx, x2, hx⟩ := HA.out.cell hlt
      obtain ⟨-, bB, offB, rfl, -, y0, y1, ay, ly, cy, y2, hy⟩ := HB.out.cell hlt
      have HX := hid ((hx.imp (q' := (fun b => (Q b ∧ b < w.heap.size) ∨ w.heap.size + 1 < b)) fun b hb => .inl hb).below HBe.out)
      have HY := hid ((hy.imp (q' := (fun b => (Q b ∧ b < w.heap.size) ∨ w.heap.size + 1 < b)) fun b hb => .inl hb).below HBe.out)
      have HK : Hid (∀ w8 : World, Below wr.heap.size wr w8 → (w8.cell? ⟨w.heap.size, 0, none⟩ = some (.int .i64 (kd (eqT A B s0 k))) ∧ w8.cell? ⟨w.heap.size, 1, none⟩ = some (.int .i64 (nn (eqT A B s0 k))) ∧ w8.cell? ⟨w.heap.size, 2, none⟩ = some (.slice ak lk ck)) ∧
          (w8.cell? ⟨bA, offA + k * 3, none⟩ = some (.int .i64 (kd (kid A k))) ∧ w8.cell? ⟨bA, offA + k * 3 + 1, none⟩ = some (.int .i64 (nn (kid A k))) ∧ w8.cell? ⟨bA, offA + k * 3 + 2, none⟩ = some (.slice ax lx cx)) ∧
          (w8.cell? ⟨bB, offB + k * 3, none⟩ = some (.int .i64 (kd (kid B k))) ∧ w8.cell? ⟨bB, offB + k * 3 + 1, none⟩ = some (.int .i64 (nn (kid B k))) ∧ w8.cell? ⟨bB, offB + k * 3 + 2, none⟩ = some (.slice ay ly cy)) ∧
          (w8.cell? ⟨w.heap.size + 1, 0, none⟩ = some (.int .i64 0) ∧ w8.cell? ⟨w.heap.size + 1, 1, none⟩ = some (.int .i64 0) ∧ w8.cell? ⟨w.heap.size + 1, 2, none⟩ = some (.slice none 0 0)) ∧
          ∀ x, w8.frozen? ⟨w.heap.size, x, none⟩ = false ∧ w8.frozen? ⟨w.heap.size + 1, x, none⟩ = false) :=
        fun w8 h => ⟨⟨keep h c0, keep h c1, keep h c2⟩, ⟨keep h (keep HBe.out x0), keep h (keep HBe.out x1), keep h (keep HBe.out x2)⟩, ⟨keep h (keep HBe.out y0), keep h (keep HBe.out y1), keep h (keep HBe.out y2)⟩, ⟨keep h z0, keep h z1, keep h z2⟩,
          fun x => ⟨(h.frozen (p := ⟨w.heap.size, x, none⟩) (by dsimp only; omega)).trans (HFr.out x).1, (h.frozen (p := ⟨w.heap.size + 1, x, none⟩) (by dsimp only; omega)).trans (HFr.out x).2⟩⟩
      clear x0 x1 x2 y0 y1 y2 c0 c1 c2 z0 z1 z2 hx hy
      go_wp2
      refine region_below (fun u => ⟨#[.agg #[.int .i64 (kd s0), .int .i64 (nn s0), .slice aS lS cS], .slice (some ⟨bA, offA, none⟩) l cA, .slice (some ⟨bB, offB, none⟩) l cB, .func (.func 22) #[] #[], .pointer (some ⟨w.heap.size, 0, none⟩), undef, undef, undef, .pointer (some ⟨w.heap.size + 1, 0, none⟩), .int .i64 (k : Int), .slice (some ⟨bA, offA, none⟩) l cA, .int .i64 (l : Int), .int .i64 (k : Int), .bool true, .int .i64 (k : Int), u 15, u 16, u 17, u 18, u 19, u 20, u 21, u 22, u 23, u 24, u 25, u26, undef], []⟩) (fun i => [15, 16, 17, 18, 19, 20, 21, 22, 23, 24, 25].getD i 0) (fun i v w8 => match i with | 0 => v = .func (.func 22) #[] #[] | 1 => XV (fun b => (Q b ∧ b < w.heap.size) ∨ w.heap.size + 1 < b) w8 (D + 3 * k) (eqT A B s0 k) v | 2 => v = .slice (some ⟨bA, offA, none⟩) l cA | 3 => v = .int .i64 (k : Int) | 4 => v = .pointer (some ⟨bA, offA + k * 3, none⟩) | 5 => XV (fun b => (Q b ∧ b < w.heap.size) ∨ w.heap.size + 1 < b) w8 (D) (kid A k) v | 6 => v = .slice (some ⟨bB, offB, none⟩) l cB | 7 => v = .int .i64 (k : Int) | 8 => v = .pointer (some ⟨bB, offB + k * 3, none⟩) | 9 => XV (fun b => (Q b ∧ b < w.heap.size) ∨ w.heap.size + 1 < b) w8 (D) (kid B k) v | 10 => XV (fun b => (Q b ∧ b < w.heap.size) ∨ w.heap.size + 1 < b) w8 (D + 3 * (k + 1)) (eqT A B s0 (k + 1)) v | _ => True) wr 11 (fun k => match k with | 15 => u15 | 16 => u16 | 17 => u17 | 18 => u18 | 19 => u19 | 20 => u20 | 21 => u21 | 22 => u22 | 23 => u23 | 24 => u24 | 25 => u25 | _ => undef) (by rfl) (by kernel_rfl) (by rfl) ⟨by kernel_rfl, by kernel_rfl, by kernel_rfl, by decide⟩ (by kernel_rfl) (Below.refl _ _) ?hput ?hinj ?stable ?step ?last
      case hput =>
        intro i hi u v
        match i, hi with
        | 0, _ => rfl
        | 1, _ => rfl
        | 2, _ => rfl
        | 3, _ => rfl
        | 4, _ => rfl
        | 5, _ => rfl
        | 6, _ => rfl
        | 7, _ => rfl
        | 8, _ => rfl
        | 9, _ => rfl
        | 10, _ => rfl
      case hinj =>
        intro i j hi hj h
        exact slots_inj [15, 16, 17, 18, 19, 20, 21, 22, 23, 24, 25] (by decide) hi hj h
      case stable =>
        intro i v w8 w9 hb h
        match i, h with
        | 0, h => exact h
        | 1, h => exact h.below hb
        | 2, h => exact h
        | 3, h => exact h
        | 4, h => exact h
        | 5, h => exact h.below hb
        | 6, h => exact h
        | 7, h => exact h
        | 8, h => exact h
        | 9, h => exact h.below hb
        | 10, h => exact h.below hb
        | _ + 11, h => trivial
      case step =>
        intro i hi u w8 S8 hdep
        match i, hi with
        | 0, _ =>
          clear hdep
          refine ⟨_, rfl, fun K' hK => ?_⟩
          go_simp
          exact hK.out _ _ (Below.refl _ _) rfl
        | 1, _ =>
          clear hdep
          refine ⟨_, rfl, fun K' hK => ?_⟩
          obtain ⟨⟨c0, c1, c2⟩, ⟨x0, x1, x2⟩, ⟨y0, y1, y2⟩, -, -⟩ := HK.out w8 S8
          go_simp
          exact hK.out _ _ (Below.refl _ _) ⟨ak, lk, ck, HRk.out.below S8, rfl⟩
        | 2, _ =>
          clear hdep
          refine ⟨_, rfl, fun K' hK => ?_⟩
          go_simp
          exact hK.out _ _ (Below.refl _ _) rfl
        | 3, _ =>
          clear hdep
          refine ⟨_, rfl, fun K' hK => ?_⟩
          go_simp
          exact hK.out _ _ (Below.refl _ _) rfl
        | 4, _ =>
          have h2 : (u 17) = .slice (some ⟨bA, offA, none⟩) l cA := hdep 2 (by kernel_rfl)
          have h3 : (u 18) = .int .i64 (k : Int) := hdep 3 (by kernel_rfl)
          clear hdep
          refine ⟨_, rfl, fun K' hK => ?_⟩
          simp only [h2, h3] at hK ⊢
          go_simp
          exact hK.out _ _ (Below.refl _ _) rfl
        | 5, _ =>
          have h4 : (u 19) = .pointer (some ⟨bA, offA + k * 3, none⟩) := hdep 4 (by kernel_rfl)
          clear hdep
          refine ⟨_, rfl, fun K' hK => ?_⟩
          obtain ⟨⟨c0, c1, c2⟩, ⟨x0, x1, x2⟩, ⟨y0, y1, y2⟩, -, -⟩ := HK.out w8 S8
          simp only [h4] at hK ⊢
          go_simp
          exact hK.out _ _ (Below.refl _ _) ⟨ax, lx, cx, HX.out.below S8, rfl⟩
        | 6, _ =>
          clear hdep
          refine ⟨_, rfl, fun K' hK => ?_⟩
          go_simp
          exact hK.out _ _ (Below.refl _ _) rfl
        | 7, _ =>
          clear hdep
          refine ⟨_, rfl, fun K' hK => ?_⟩
          go_simp
          exact hK.out _ _ (Below.refl _ _) rfl
        | 8, _ =>
          have h6 : (u 21) = .slice (some ⟨bB, offB, none⟩) l cB := hdep 6 (by kernel_rfl)
          have h7 : (u 22) = .int .i64 (k : Int) := hdep 7 (by kernel_rfl)
          clear hdep
          refine ⟨_, rfl, fun K' hK => ?_⟩
          simp only [h6, h7] at hK ⊢
          go_simp
          exact hK.out _ _ (Below.refl _ _) rfl
        | 9, _ =>
          have h8 : (u 23) = .pointer (some ⟨bB, offB + k * 3, none⟩) := hdep 8 (by kernel_rfl)
          clear hdep
          refine ⟨_, rfl, fun K' hK => ?_⟩
          obtain ⟨⟨c0, c1, c2⟩, ⟨x0, x1, x2⟩, ⟨y0, y1, y2⟩, -, -⟩ := HK.out w8 S8
          simp only [h8] at hK ⊢
          go_simp
          exact hK.out _ _ (Below.refl _ _) ⟨ay, ly, cy, HY.out.below S8, rfl⟩
        | 10, _ =>
          have h0 : (u 15) = .func (.func 22) #[] #[] := hdep 0 (by kernel_rfl)
          have h1 : XV (fun b => (Q b ∧ b < w.heap.size) ∨ w.heap.size + 1 < b) w8 (D + 3 * k) (eqT A B s0 k) (u 16) := hdep 1 (by kernel_rfl)
          have h5 : XV (fun b => (Q b ∧ b < w.heap.size) ∨ w.heap.size + 1 < b) w8 (D) (kid A k) (u 20) := hdep 5 (by kernel_rfl)
          have h9 : XV (fun b => (Q b ∧ b < w.heap.size) ∨ w.heap.size + 1 < b) w8 (D) (kid B k) (u 24) := hdep 9 (by kernel_rfl)
          clear hdep
          refine ⟨_, rfl, fun K' hK => ?_⟩
          obtain ⟨a1, l1, c1, r1, e1⟩ := h1
          obtain ⟨a5, l5, c5, r5, e5⟩ := h5
          obtain ⟨a9, l9, c9, r9, e9⟩ := h9
          simp only [h0, e1, e5, e9] at hK ⊢
          go_simp
          refine (equal_step _ (D + 3 * k) _ _ _ _ _ _ _ _ _ _ _ _ _ r1 (r5.more (by omega)) (r9.more (by omega)) (eqT_kind HKS.out k) (HKA.out k hlt)).mono ?_
          rintro e w9 ⟨v, rfl, ⟨a9, l9, c9, r9, e9⟩, hb9⟩
          subst e9
          exact hK.out _ _ hb9 ⟨a9, l9, c9, r9.imp fun b hb => (by
            rcases hb with hb | hb
            · exact hb
            · exact .inr (by have := S8.size; omega)), rfl⟩
      case last =>
        intro u w8 S8 hall
        have h10 : XV (fun b => (Q b ∧ b < w.heap.size) ∨ w.heap.size + 1 < b) w8 (D + 3 * (k + 1)) (eqT A B s0 (k + 1)) (u 25) := hall 10 (by decide)
        clear hall
        refine ⟨_, rfl, fun K' hK => ?_⟩
        obtain ⟨⟨c0, c1, c2⟩, -, -, ⟨z0, z1, z2⟩, hfr⟩ := HK.out w8 S8
        obtain ⟨a8, l8, c8, r8, e8⟩ := h10
        have g0 := (hfr 0).1
        have g1 := (hfr 1).1
        have g2 := (hfr 2).1
        simp only [e8] at hK ⊢
        go_simp
        refine hK.out _ _ ?_
        clear hK K'
        (try simp only [Exit.then])
        have HR := hid (rd_set3 r8 (R := w.heap.size) (by first | (simp; done) | (simp; omega)) (.int .i64 (kd (eqT A B s0 (k + 1)))) (.int .i64 (nn (eqT A B s0 (k + 1)))) (.slice a8 l8 c8))
        have HB3 := hid (below_set3 (HBe.out.trans (S8.mono HBe.out.size)) (R := w.heap.size) (Nat.le_refl _) (.int .i64 (kd (eqT A B s0 (k + 1)))) (.int .i64 (nn (eqT A B s0 (k + 1)))) (.slice a8 l8 c8))
        go_wp2
        go_roundw
        case rel =>
          exact ⟨k + 1, a8, l8, c8, by omega, by go_num, HB3.out, HR.out, set3_cells c0 c1 c2 _ _ _, ⟨(set3_far _ (by omega) _ _ _ _).trans z0, (set3_far _ (by omega) _ _ _ _).trans z1, (set3_far _ (by omega) _ _ _ _).trans z2⟩, fun x => ⟨(set3_froz _ _ _ _ _ _).trans (hfr x).1, (set3_froz _ _ _ _ _ _).trans (hfr x).2⟩⟩
        case measure => simp [intOf]; omega
    · have e : k = l := by omega
      subst e
      have g0 := (HFr.out 0).2
      have g1 := (HFr.out 1).2
      have g2 := (HFr.out 2).2
      have HR := hid (rd_set3 HRk.out (R := w.heap.size + 1) (by first | (simp; done) | (simp; omega)) (.int .i64 (kd (eqT A B s0 k))) (.int .i64 (nn (eqT A B s0 k))) (.slice ak lk ck))
      have HB3 := hid (below_set3 HBe.out (R := w.heap.size + 1) (by omega) (.int .i64 (kd (eqT A B s0 k))) (.int .i64 (nn (eqT A B s0 k))) (.slice ak lk ck))
      go_wp2
      refine bodyPost_ret (v := .agg #[.int .i64 (kd (eqT A B s0 k)), .int .i64 (nn (eqT A B s0 k)), .slice ak lk ck]) (by simp [results, Try.results20, go_sem, z0, z1, z2]) rfl ⟨_, rfl, ⟨ak, lk, ck, HR.out.imp fun b hb => (by
        rcases hb with hb | hb
        · exact .inl hb.1
        · exact .inr (by omega)), rfl⟩, HB3.out⟩
end Go.Proofs.Ytacamkdcofppcaa.equalImpl
