/- What the program puts together of two rows of expressions, bit by bit; conditions: none. -/
import Derived.Test.YtofdhoefphoaaaaEqualImpl
namespace Go.Proofs.Ytofdhoefphoaaaa.lessImpl
open Go.RowKit Go.Deep Go base trees built heldStore drawn equalImpl
set_option linter.unusedVariables false

def hereT (p q : T) : T := ndT 4 2 (two (ndT 3 1 (one p)) q)
def sameT (p q : T) : T := ndT 3 1 (one (ndT 6 2 (two p q)))
def lessStep (e p q : T) : T := ndT 5 2 (two (hereT p q) (ndT 4 2 (two (sameT p q) e)))
set_option maxHeartbeats 3200000 in
set_option maxRecDepth 8000 in
theorem less_step (Q : Nat → Prop) (D : Nat) (e p q : T) (ae ap aq : Option Addr) (le lp lq ce cp cq : Nat) (w : World) (he : Rd Q 1048576 w D e ae le) (hp : Rd Q 1048576 w D p ap lp) (hq : Rd Q 1048576 w D q aq lq) (ke : kd e ≠ 0) (kp : kd p ≠ 0) :
    Calls Try.prog 64 #[.agg #[.int .i64 (kd e), .int .i64 (nn e), .slice ae le ce], .agg #[.int .i64 (kd p), .int .i64 (nn p), .slice ap lp cp], .agg #[.int .i64 (kd q), .int .i64 (nn q), .slice aq lq cq]] w fun e' w' => ∃ v, e' = .returned v ∧ XV (fun b => Q b ∨ w.heap.size ≤ b) w' (D + 4) (lessStep e p q) v ∧ Below w.heap.size w w' := by
  have HE := hid he
  have HP := hid hp
  have HQ := hid hq
  clear he hp hq
  go_enter Try.func64, Try.ntmps64
  go_wp2_with fail
  have HW : Hid (Below w.heap.size w ((((w.alloc (.cells #[.int .i64 (kd e), .int .i64 (nn e), .slice ae le ce] 33)).alloc (.cells #[.int .i64 (kd p), .int .i64 (nn p), .slice ap lp cp] 33)).alloc (.cells #[.int .i64 (kd q), .int .i64 (nn q), .slice aq lq cq] 33)).alloc (.cells #[.int .i64 0, .int .i64 0, .slice none 0 0] 33))) := (by repeat (first | exact Below.refl _ _ | assumption | refine Below.drew ?_ | refine Below.alloc ?_ (by first | exact Nat.le_refl _ | omega | (simp; done) | (simp; omega)) _ | refine Below.setCell ?_ (by first | exact Nat.le_refl _ | omega | (simp; done) | (simp; omega)) _))
  have hf : ((((w.alloc (.cells #[.int .i64 (kd e), .int .i64 (nn e), .slice ae le ce] 33)).alloc (.cells #[.int .i64 (kd p), .int .i64 (nn p), .slice ap lp cp] 33)).alloc (.cells #[.int .i64 (kd q), .int .i64 (nn q), .slice aq lq cq] 33)).alloc (.cells #[.int .i64 0, .int .i64 0, .slice none 0 0] 33)).cell? ⟨w.heap.size, 0, none⟩ = some (.int .i64 (kd e)) ∧ ((((w.alloc (.cells #[.int .i64 (kd e), .int .i64 (nn e), .slice ae le ce] 33)).alloc (.cells #[.int .i64 (kd p), .int .i64 (nn p), .slice ap lp cp] 33)).alloc (.cells #[.int .i64 (kd q), .int .i64 (nn q), .slice aq lq cq] 33)).alloc (.cells #[.int .i64 0, .int .i64 0, .slice none 0 0] 33)).cell? ⟨w.heap.size, 1, none⟩ = some (.int .i64 (nn e)) ∧ ((((w.alloc (.cells #[.int .i64 (kd e), .int .i64 (nn e), .slice ae le ce] 33)).alloc (.cells #[.int .i64 (kd p), .int .i64 (nn p), .slice ap lp cp] 33)).alloc (.cells #[.int .i64 (kd q), .int .i64 (nn q), .slice aq lq cq] 33)).alloc (.cells #[.int .i64 0, .int .i64 0, .slice none 0 0] 33)).cell? ⟨w.heap.size, 2, none⟩ = some (.slice ae le ce) ∧ ((((w.alloc (.cells #[.int .i64 (kd e), .int .i64 (nn e), .slice ae le ce] 33)).alloc (.cells #[.int .i64 (kd p), .int .i64 (nn p), .slice ap lp cp] 33)).alloc (.cells #[.int .i64 (kd q), .int .i64 (nn q), .slice aq lq cq] 33)).alloc (.cells #[.int .i64 0, .int .i64 0, .slice none 0 0] 33)).cell? ⟨w.heap.size + 1, 0, none⟩ = some (.int .i64 (kd p)) ∧ ((((w.alloc (.cells #[.int .i64 (kd e), .int .i64 (nn e), .slice ae le ce] 33)).alloc (.cells #[.int .i64 (kd p), .int .i64 (nn p), .slice ap lp cp] 33)).alloc (.cells #[.int .i64 (kd q), .int .i64 (nn q), .slice aq lq cq] 33)).alloc (.cells #[.int .i64 0, .int .i64 0, .slice none 0 0] 33)).cell? ⟨w.heap.size + 1, 1, none⟩ = some (.int .i64 (nn p)) ∧ ((((w.alloc (.cells #[.int .i64 (kd e), .int .i64 (nn e), .slice ae le ce] 33)).alloc (.cells #[.int .i64 (kd p), .int .i64 (nn p), .slice ap lp cp] 33)).alloc (.cells #[.int .i64 (kd q), .int .i64 (nn q), .slice aq lq cq] 33)).alloc (.cells #[.int .i64 0, .int .i64 0, .slice none 0 0] 33)).cell? ⟨w.heap.size + 1, 2, none⟩ = some (.slice ap lp cp) ∧ ((((w.alloc (.cells #[.int .i64 (kd e), .int .i64 (nn e), .slice ae le ce] 33)).alloc (.cells #[.int .i64 (kd p), .int .i64 (nn p), .slice ap lp cp] 33)).alloc (.cells #[.int .i64 (kd q), .int .i64 (nn q), .slice aq lq cq] 33)).alloc (.cells #[.int .i64 0, .int .i64 0, .slice none 0 0] 33)).cell? ⟨w.heap.size + 1 + 1, 0, none⟩ = some (.int .i64 (kd q)) ∧ ((((w.alloc (.cells #[.int .i64 (kd e), .int .i64 (nn e), .slice ae le ce] 33)).alloc (.cells #[.int .i64 (kd p), .int .i64 (nn p), .slice ap lp cp] 33)).alloc (.cells #[.int .i64 (kd q), .int .i64 (nn q), .slice aq lq cq] 33)).alloc (.cells #[.int .i64 0, .int .i64 0, .slice none 0 0] 33)).cell? ⟨w.heap.size + 1 + 1, 1, none⟩ = some (.int .i64 (nn q)) ∧ ((((w.alloc (.cells #[.int .i64 (kd e), .int .i64 (nn e), .slice ae le ce] 33)).alloc (.cells #[.int .i64 (kd p), .int .i64 (nn p), .slice ap lp cp] 33)).alloc (.cells #[.int .i64 (kd q), .int .i64 (nn q), .slice aq lq cq] 33)).alloc (.cells #[.int .i64 0, .int .i64 0, .slice none 0 0] 33)).cell? ⟨w.heap.size + 1 + 1, 2, none⟩ = some (.slice aq lq cq) ∧ ((((w.alloc (.cells #[.int .i64 (kd e), .int .i64 (nn e), .slice ae le ce] 33)).alloc (.cells #[.int .i64 (kd p), .int .i64 (nn p), .slice ap lp cp] 33)).alloc (.cells #[.int .i64 (kd q), .int .i64 (nn q), .slice aq lq cq] 33)).alloc (.cells #[.int .i64 0, .int .i64 0, .slice none 0 0] 33)).cell? ⟨w.heap.size + 1 + 1 + 1, 0, none⟩ = some (.int .i64 0) ∧ ((((w.alloc (.cells #[.int .i64 (kd e), .int .i64 (nn e), .slice ae le ce] 33)).alloc (.cells #[.int .i64 (kd p), .int .i64 (nn p), .slice ap lp cp] 33)).alloc (.cells #[.int .i64 (kd q), .int .i64 (nn q), .slice aq lq cq] 33)).alloc (.cells #[.int .i64 0, .int .i64 0, .slice none 0 0] 33)).cell? ⟨w.heap.size + 1 + 1 + 1, 1, none⟩ = some (.int .i64 0) ∧ ((((w.alloc (.cells #[.int .i64 (kd e), .int .i64 (nn e), .slice ae le ce] 33)).alloc (.cells #[.int .i64 (kd p), .int .i64 (nn p), .slice ap lp cp] 33)).alloc (.cells #[.int .i64 (kd q), .int .i64 (nn q), .slice aq lq cq] 33)).alloc (.cells #[.int .i64 0, .int .i64 0, .slice none 0 0] 33)).cell? ⟨w.heap.size + 1 + 1 + 1, 2, none⟩ = some (.slice none 0 0) ∧ ((((w.alloc (.cells #[.int .i64 (kd e), .int .i64 (nn e), .slice ae le ce] 33)).alloc (.cells #[.int .i64 (kd p), .int .i64 (nn p), .slice ap lp cp] 33)).alloc (.cells #[.int .i64 (kd q), .int .i64 (nn q), .slice aq lq cq] 33)).alloc (.cells #[.int .i64 0, .int .i64 0, .slice none 0 0] 33)).frozen? ⟨w.heap.size + 1 + 1 + 1, 0, none⟩ = false ∧ ((((w.alloc (.cells #[.int .i64 (kd e), .int .i64 (nn e), .slice ae le ce] 33)).alloc (.cells #[.int .i64 (kd p), .int .i64 (nn p), .slice ap lp cp] 33)).alloc (.cells #[.int .i64 (kd q), .int .i64 (nn q), .slice aq lq cq] 33)).alloc (.cells #[.int .i64 0, .int .i64 0, .slice none 0 0] 33)).frozen? ⟨w.heap.size + 1 + 1 + 1, 1, none⟩ = false ∧ ((((w.alloc (.cells #[.int .i64 (kd e), .int .i64 (nn e), .slice ae le ce] 33)).alloc (.cells #[.int .i64 (kd p), .int .i64 (nn p), .slice ap lp cp] 33)).alloc (.cells #[.int .i64 (kd q), .int .i64 (nn q), .slice aq lq cq] 33)).alloc (.cells #[.int .i64 0, .int .i64 0, .slice none 0 0] 33)).frozen? ⟨w.heap.size + 1 + 1 + 1, 2, none⟩ = false := by
    refine ⟨?_, ?_, ?_, ?_, ?_, ?_, ?_, ?_, ?_, ?_, ?_, ?_, ?_, ?_, ?_⟩ <;> simp [go_sem]
  have HZ : Hid (((((w.alloc (.cells #[.int .i64 (kd e), .int .i64 (nn e), .slice ae le ce] 33)).alloc (.cells #[.int .i64 (kd p), .int .i64 (nn p), .slice ap lp cp] 33)).alloc (.cells #[.int .i64 (kd q), .int .i64 (nn q), .slice aq lq cq] 33)).alloc (.cells #[.int .i64 0, .int .i64 0, .slice none 0 0] 33)).heap.size = w.heap.size + 1 + 1 + 1 + 1) := by show _ = _; simp
  generalize ((((w.alloc (.cells #[.int .i64 (kd e), .int .i64 (nn e), .slice ae le ce] 33)).alloc (.cells #[.int .i64 (kd p), .int .i64 (nn p), .slice ap lp cp] 33)).alloc (.cells #[.int .i64 (kd q), .int .i64 (nn q), .slice aq lq cq] 33)).alloc (.cells #[.int .i64 0, .int .i64 0, .slice none 0 0] 33)) = W8 at *
  have HK : Hid (∀ w8 : World, Below W8.heap.size W8 w8 → w8.cell? ⟨w.heap.size, 0, none⟩ = some (.int .i64 (kd e)) ∧ w8.cell? ⟨w.heap.size, 1, none⟩ = some (.int .i64 (nn e)) ∧ w8.cell? ⟨w.heap.size, 2, none⟩ = some (.slice ae le ce) ∧ w8.cell? ⟨w.heap.size + 1, 0, none⟩ = some (.int .i64 (kd p)) ∧ w8.cell? ⟨w.heap.size + 1, 1, none⟩ = some (.int .i64 (nn p)) ∧ w8.cell? ⟨w.heap.size + 1, 2, none⟩ = some (.slice ap lp cp) ∧ w8.cell? ⟨w.heap.size + 1 + 1, 0, none⟩ = some (.int .i64 (kd q)) ∧ w8.cell? ⟨w.heap.size + 1 + 1, 1, none⟩ = some (.int .i64 (nn q)) ∧ w8.cell? ⟨w.heap.size + 1 + 1, 2, none⟩ = some (.slice aq lq cq) ∧ w8.cell? ⟨w.heap.size + 1 + 1 + 1, 0, none⟩ = some (.int .i64 0) ∧ w8.cell? ⟨w.heap.size + 1 + 1 + 1, 1, none⟩ = some (.int .i64 0) ∧ w8.cell? ⟨w.heap.size + 1 + 1 + 1, 2, none⟩ = some (.slice none 0 0) ∧ w8.frozen? ⟨w.heap.size + 1 + 1 + 1, 0, none⟩ = false ∧ w8.frozen? ⟨w.heap.size + 1 + 1 + 1, 1, none⟩ = false ∧ w8.frozen? ⟨w.heap.size + 1 + 1 + 1, 2, none⟩ = false) :=
    fun w8 h => ⟨keep h hf.1, keep h hf.2.1, keep h hf.2.2.1, keep h hf.2.2.2.1, keep h hf.2.2.2.2.1, keep h hf.2.2.2.2.2.1, keep h hf.2.2.2.2.2.2.1, keep h hf.2.2.2.2.2.2.2.1, keep h hf.2.2.2.2.2.2.2.2.1, keep h hf.2.2.2.2.2.2.2.2.2.1, keep h hf.2.2.2.2.2.2.2.2.2.2.1, keep h hf.2.2.2.2.2.2.2.2.2.2.2.1,
      (h.frozen (by rw [HZ.out]; dsimp only; omega)).trans hf.2.2.2.2.2.2.2.2.2.2.2.2.1, (h.frozen (by rw [HZ.out]; dsimp only; omega)).trans hf.2.2.2.2.2.2.2.2.2.2.2.2.2.1, (h.frozen (by rw [HZ.out]; dsimp only; omega)).trans hf.2.2.2.2.2.2.2.2.2.2.2.2.2.2⟩
  clear hf
  refine region_below (fun ua => ⟨#[.agg #[.int .i64 (kd e), .int .i64 (nn e), .slice ae le ce], .agg #[.int .i64 (kd p), .int .i64 (nn p), .slice ap lp cp], .agg #[.int .i64 (kd q), .int .i64 (nn q), .slice aq lq cq], .pointer (some ⟨w.heap.size, 0, none⟩), .pointer (some ⟨w.heap.size + 1, 0, none⟩), .pointer (some ⟨w.heap.size + 1 + 1, 0, none⟩), .pointer (some ⟨w.heap.size + 1 + 1 + 1, 0, none⟩), ua 7, undef, ua 9, ua 10, ua 11, ua 12, ua 13, ua 14, undef, undef, undef, undef, undef, undef, undef, undef, undef, undef, undef, undef, undef], []⟩) (fun i => [9, 10, 11, 12, 13, 14, 7].getD i 0) (fun i v wa => match i with | 0 => TV Q w.heap.size wa (D) (p) v | 1 => RV Q w.heap.size wa (D + 1) (ndT 3 1 (one (p))) 1 v | 2 => TV Q w.heap.size wa (D + 1) (ndT 3 1 (one (p))) v | 3 => TV Q w.heap.size wa (D) (q) v | 4 => RV Q w.heap.size wa (D + 1 + 1) (ndT 4 2 (two (ndT 3 1 (one (p))) (q))) 2 v | 5 => TV Q w.heap.size wa (D + 1 + 1) (ndT 4 2 (two (ndT 3 1 (one (p))) (q))) v | 6 => PV W8.heap.size wa v | _ => True) W8 7 (fun k => match k with | 9 => undef | 10 => undef | 11 => undef | 12 => undef | 13 => undef | 14 => undef | 7 => undef | _ => undef) (by rfl) (by kernel_rfl) (by rfl) ⟨by kernel_rfl, by kernel_rfl, by kernel_rfl, by decide⟩ (by kernel_rfl) (Below.refl _ _) ?hput ?hinj ?stable ?step ?last
  case hput =>
    intro i hi ua v
    match i, hi with
    | 0, _ => rfl
    | 1, _ => rfl
    | 2, _ => rfl
    | 3, _ => rfl
    | 4, _ => rfl
    | 5, _ => rfl
    | 6, _ => rfl
  case hinj =>
    intro i j hi hj h
    exact slots_inj [9, 10, 11, 12, 13, 14, 7] (by decide) hi hj h
  case stable =>
    intro i v wa w9 hb h
    match i, h with
    | 0, h => exact h.below hb
    | 1, h => exact h.below hb
    | 2, h => exact h.below hb
    | 3, h => exact h.below hb
    | 4, h => exact h.below hb
    | 5, h => exact h.below hb
    | 6, h => exact h.below hb
    | _ + 7, h => trivial
  case step =>
    intro i hi ua wa Sa hdep
    match i, hi with
    | 0, _ =>
      clear hdep
      refine ⟨_, rfl, fun K' hK => ?_⟩
      obtain ⟨f0, f1, f2, f3, f4, f5, f6, f7, f8, f9, f10, f11, g0, g1, g2⟩ := HK.out wa Sa
      go_simp
      exact hK.out _ _ (Below.refl _ _) ⟨ap, lp, cp, rfl, nz_below (nz_base (rd_old HP.out) HW.out) Sa⟩
    | 1, _ =>
      have h0 : TV Q w.heap.size wa (D) (p) (ua 9) := hdep 0 (by kernel_rfl)
      clear hdep
      refine ⟨_, rfl, fun K' hK => ?_⟩
      obtain ⟨a0, l0, c0, e0, r0⟩ := h0
      simp only [e0] at hK ⊢
      go_simp
      exact hK.out _ _ (by repeat (first | exact Below.refl _ _ | assumption | refine Below.drew ?_ | refine Below.alloc ?_ (by first | exact Nat.le_refl _ | omega | (simp; done) | (simp; omega)) _ | refine Below.setCell ?_ (by first | exact Nat.le_refl _ | omega | (simp; done) | (simp; omega)) _)) ⟨wa.heap.size, rfl, row1 3 (Nat.le_trans (by rw [HZ.out]; omega) Sa.size) kp (r0.more (by omega))⟩
    | 2, _ =>
      have h1 : RV Q w.heap.size wa (D + 1) (ndT 3 1 (one (p))) 1 (ua 10) := hdep 1 (by kernel_rfl)
      clear hdep
      refine ⟨_, rfl, fun K' hK => ?_⟩
      obtain ⟨N1, e1, r1⟩ := h1
      simp only [e1] at hK ⊢
      go_simp
      refine (new_impl 3 _ _ _ _).mono ?_
      rintro e w9 ⟨rfl, hb9⟩
      exact hK.out _ _ hb9 ⟨_, _, _, rfl, nz_below r1 hb9⟩
    | 3, _ =>
      clear hdep
      refine ⟨_, rfl, fun K' hK => ?_⟩
      obtain ⟨f0, f1, f2, f3, f4, f5, f6, f7, f8, f9, f10, f11, g0, g1, g2⟩ := HK.out wa Sa
      go_simp
      exact hK.out _ _ (Below.refl _ _) ⟨aq, lq, cq, rfl, nz_below (nz_base (rd_old HQ.out) HW.out) Sa⟩
    | 4, _ =>
      have h2 : TV Q w.heap.size wa (D + 1) (ndT 3 1 (one (p))) (ua 11) := hdep 2 (by kernel_rfl)
      have h3 : TV Q w.heap.size wa (D) (q) (ua 12) := hdep 3 (by kernel_rfl)
      clear hdep
      refine ⟨_, rfl, fun K' hK => ?_⟩
      obtain ⟨a2, l2, c2, e2, r2⟩ := h2
      obtain ⟨a3, l3, c3, e3, r3⟩ := h3
      simp only [e2, e3] at hK ⊢
      go_simp
      exact hK.out _ _ (by repeat (first | exact Below.refl _ _ | assumption | refine Below.drew ?_ | refine Below.alloc ?_ (by first | exact Nat.le_refl _ | omega | (simp; done) | (simp; omega)) _ | refine Below.setCell ?_ (by first | exact Nat.le_refl _ | omega | (simp; done) | (simp; omega)) _)) ⟨wa.heap.size, rfl, row2 4 (Nat.le_trans (by rw [HZ.out]; omega) Sa.size) (nd_kind (by decide)) (r2.more (by omega)) (r3.more (by omega))⟩
    | 5, _ =>
      have h4 : RV Q w.heap.size wa (D + 1 + 1) (ndT 4 2 (two (ndT 3 1 (one (p))) (q))) 2 (ua 13) := hdep 4 (by kernel_rfl)
      clear hdep
      refine ⟨_, rfl, fun K' hK => ?_⟩
      obtain ⟨N4, e4, r4⟩ := h4
      simp only [e4] at hK ⊢
      go_simp
      refine (new_impl 4 _ _ _ _).mono ?_
      rintro e w9 ⟨rfl, hb9⟩
      exact hK.out _ _ hb9 ⟨_, _, _, rfl, nz_below r4 hb9⟩
    | 6, _ =>
      clear hdep
      refine ⟨_, rfl, fun K' hK => ?_⟩
      go_simp
      refine hK.out _ _ (by repeat (first | exact Below.refl _ _ | assumption | refine Below.drew ?_ | refine Below.alloc ?_ (by first | exact Nat.le_refl _ | omega | (simp; done) | (simp; omega)) _ | refine Below.setCell ?_ (by first | exact Nat.le_refl _ | omega | (simp; done) | (simp; omega)) _)) ⟨wa.heap.size, rfl, ?_, ⟨?_, ?_, ?_⟩, ?_, ?_, ?_⟩
      · exact Sa.size
      all_goals simp [go_sem]
  case last =>
    intro ua wa Sa hall
    have h5 : TV Q w.heap.size wa (D + 1 + 1) (ndT 4 2 (two (ndT 3 1 (one (p))) (q))) (ua 14) := hall 5 (by decide)
    have h6 : PV W8.heap.size wa (ua 7) := hall 6 (by decide)
    clear hall
    refine ⟨_, rfl, fun K' hK => ?_⟩
    obtain ⟨f0, f1, f2, f3, f4, f5, f6, f7, f8, f9, f10, f11, g0, g1, g2⟩ := HK.out wa Sa
    obtain ⟨a5, l5, c5, e5, r5⟩ := h5
    obtain ⟨N, e6, hN, ⟨n0, n1, n2⟩, m0, m1, m2⟩ := h6
    simp only [e5, e6] at hK ⊢
    go_simp
    refine hK.out _ _ ?_
    clear hK K'
    (try simp only [Exit.then])
    have HN : Hid (w.heap.size + 4 ≤ N) := by have := HZ.out; show _ ≤ _; omega
    obtain ⟨k0, k1, k2⟩ := set3_cells n0 n1 n2 (.int .i64 (kd (ndT 4 2 (two (ndT 3 1 (one (p))) (q))))) (.int .i64 (nn (ndT 4 2 (two (ndT 3 1 (one (p))) (q))))) (.slice a5 l5 c5)
    have q0 := (set3_far wa (R := N) (by have := HN.out; omega) 0 (.int .i64 (kd (ndT 4 2 (two (ndT 3 1 (one (p))) (q))))) (.int .i64 (nn (ndT 4 2 (two (ndT 3 1 (one (p))) (q))))) (.slice a5 l5 c5)).trans f0
    have q1 := (set3_far wa (R := N) (by have := HN.out; omega) 1 (.int .i64 (kd (ndT 4 2 (two (ndT 3 1 (one (p))) (q))))) (.int .i64 (nn (ndT 4 2 (two (ndT 3 1 (one (p))) (q))))) (.slice a5 l5 c5)).trans f1
    have q2 := (set3_far wa (R := N) (by have := HN.out; omega) 2 (.int .i64 (kd (ndT 4 2 (two (ndT 3 1 (one (p))) (q))))) (.int .i64 (nn (ndT 4 2 (two (ndT 3 1 (one (p))) (q))))) (.slice a5 l5 c5)).trans f2
    have q3 := (set3_far wa (R := N) (by have := HN.out; omega) 0 (.int .i64 (kd (ndT 4 2 (two (ndT 3 1 (one (p))) (q))))) (.int .i64 (nn (ndT 4 2 (two (ndT 3 1 (one (p))) (q))))) (.slice a5 l5 c5)).trans f3
    have q4 := (set3_far wa (R := N) (by have := HN.out; omega) 1 (.int .i64 (kd (ndT 4 2 (two (ndT 3 1 (one (p))) (q))))) (.int .i64 (nn (ndT 4 2 (two (ndT 3 1 (one (p))) (q))))) (.slice a5 l5 c5)).trans f4
    have q5 := (set3_far wa (R := N) (by have := HN.out; omega) 2 (.int .i64 (kd (ndT 4 2 (two (ndT 3 1 (one (p))) (q))))) (.int .i64 (nn (ndT 4 2 (two (ndT 3 1 (one (p))) (q))))) (.slice a5 l5 c5)).trans f5
    have q6 := (set3_far wa (R := N) (by have := HN.out; omega) 0 (.int .i64 (kd (ndT 4 2 (two (ndT 3 1 (one (p))) (q))))) (.int .i64 (nn (ndT 4 2 (two (ndT 3 1 (one (p))) (q))))) (.slice a5 l5 c5)).trans f6
    have q7 := (set3_far wa (R := N) (by have := HN.out; omega) 1 (.int .i64 (kd (ndT 4 2 (two (ndT 3 1 (one (p))) (q))))) (.int .i64 (nn (ndT 4 2 (two (ndT 3 1 (one (p))) (q))))) (.slice a5 l5 c5)).trans f7
    have q8 := (set3_far wa (R := N) (by have := HN.out; omega) 2 (.int .i64 (kd (ndT 4 2 (two (ndT 3 1 (one (p))) (q))))) (.int .i64 (nn (ndT 4 2 (two (ndT 3 1 (one (p))) (q))))) (.slice a5 l5 c5)).trans f8
    have q9 := (set3_far wa (R := N) (by have := HN.out; omega) 0 (.int .i64 (kd (ndT 4 2 (two (ndT 3 1 (one (p))) (q))))) (.int .i64 (nn (ndT 4 2 (two (ndT 3 1 (one (p))) (q))))) (.slice a5 l5 c5)).trans f9
    have q10 := (set3_far wa (R := N) (by have := HN.out; omega) 1 (.int .i64 (kd (ndT 4 2 (two (ndT 3 1 (one (p))) (q))))) (.int .i64 (nn (ndT 4 2 (two (ndT 3 1 (one (p))) (q))))) (.slice a5 l5 c5)).trans f10
    have q11 := (set3_far wa (R := N) (by have := HN.out; omega) 2 (.int .i64 (kd (ndT 4 2 (two (ndT 3 1 (one (p))) (q))))) (.int .i64 (nn (ndT 4 2 (two (ndT 3 1 (one (p))) (q))))) (.slice a5 l5 c5)).trans f11
    have p0 := (set3_froz wa N ⟨w.heap.size + 1 + 1 + 1, 0, none⟩ (.int .i64 (kd (ndT 4 2 (two (ndT 3 1 (one (p))) (q))))) (.int .i64 (nn (ndT 4 2 (two (ndT 3 1 (one (p))) (q))))) (.slice a5 l5 c5)).trans g0
    have p1 := (set3_froz wa N ⟨w.heap.size + 1 + 1 + 1, 1, none⟩ (.int .i64 (kd (ndT 4 2 (two (ndT 3 1 (one (p))) (q))))) (.int .i64 (nn (ndT 4 2 (two (ndT 3 1 (one (p))) (q))))) (.slice a5 l5 c5)).trans g1
    have p2 := (set3_froz wa N ⟨w.heap.size + 1 + 1 + 1, 2, none⟩ (.int .i64 (kd (ndT 4 2 (two (ndT 3 1 (one (p))) (q))))) (.int .i64 (nn (ndT 4 2 (two (ndT 3 1 (one (p))) (q))))) (.slice a5 l5 c5)).trans g2
    have HRh := hid (nz_set3 r5 (by have := HN.out; omega) n0 (.int .i64 (kd (ndT 4 2 (two (ndT 3 1 (one (p))) (q))))) (.int .i64 (nn (ndT 4 2 (two (ndT 3 1 (one (p))) (q))))) (.slice a5 l5 c5))
    have HBb := hid (below_set3 (HW.out.trans (Sa.mono (by rw [HZ.out]; omega))) (R := N) (by have := HN.out; omega) (.int .i64 (kd (ndT 4 2 (two (ndT 3 1 (one (p))) (q))))) (.int .i64 (nn (ndT 4 2 (two (ndT 3 1 (one (p))) (q))))) (.slice a5 l5 c5))
    generalize (((wa.setCell ⟨N, 0, none⟩ (.int .i64 (kd (ndT 4 2 (two (ndT 3 1 (one (p))) (q)))))).setCell ⟨N, 1, none⟩ (.int .i64 (nn (ndT 4 2 (two (ndT 3 1 (one (p))) (q)))))).setCell ⟨N, 2, none⟩ (.slice a5 l5 c5)) = wb at *
    clear f0 f1 f2 f3 f4 f5 f6 f7 f8 f9 f10 f11 g0 g1 g2 n0 n1 n2 m0 m1 m2 r5 Sa
    have HPb := hid (nz_base (rd_old HP.out) HBb.out)
    have HQb := hid (nz_base (rd_old HQ.out) HBb.out)
    have HEb := hid (nz_base (rd_old HE.out) HBb.out)
    generalize ua 9 = s9 at *
    generalize ua 10 = s10 at *
    generalize ua 11 = s11 at *
    generalize ua 12 = s12 at *
    generalize ua 13 = s13 at *
    have hbs := HBb.out.size
    go_wp2_with fail
    refine (new_impl 6 _ _ _ _).mono ?_
    rintro e2 w2 ⟨rfl, hb2⟩
    have HR2 := hid (nz_below (row2 (w := wb) (B := w.heap.size) 6 (by omega) kp HPb.out HQb.out (cx := cp) (cy := cq)) hb2)
    have HC2 := hid ((show Below wb.heap.size wb _ from (by repeat (first | exact Below.refl _ _ | assumption | refine Below.drew ?_ | refine Below.alloc ?_ (by first | exact Nat.le_refl _ | omega | (simp; done) | (simp; omega)) _ | refine Below.setCell ?_ (by first | exact Nat.le_refl _ | omega | (simp; done) | (simp; omega)) _))).trans (hb2.mono (by simp)))
    clear hb2
    go_wp2_with fail
    refine (new_impl 3 _ _ _ _).mono ?_
    rintro e3 w3 ⟨rfl, hb3⟩
    have HR3 := hid (nz_below (row1 (w := w2) (B := w.heap.size) 3 (by have := HC2.out.size; omega) (nd_kind (by decide)) HR2.out (cx := 2)) hb3)
    have HC3 := hid (HC2.out.trans ((show Below wb.heap.size w2 _ from (Below.refl _ _).alloc HC2.out.size _).trans (hb3.mono (by have := HC2.out.size; simp; omega))))
    clear hb3
    have j0 := keep HC3.out q0
    have j1 := keep HC3.out q1
    have j2 := keep HC3.out q2
    have j3 := keep HC3.out q3
    have j4 := keep HC3.out q4
    have j5 := keep HC3.out q5
    have j6 := keep HC3.out q6
    have j7 := keep HC3.out q7
    have j8 := keep HC3.out q8
    have j9 := keep HC3.out q9
    have j10 := keep HC3.out q10
    have j11 := keep HC3.out q11
    have i0 := keep HC3.out k0
    have i1 := keep HC3.out k1
    have i2 := keep HC3.out k2
    have z0 := (HC3.out.frozen (p := ⟨w.heap.size + 1 + 1 + 1, 0, none⟩) (World.block_lt_of_cell? _ _ q9)).trans p0
    have z1 := (HC3.out.frozen (p := ⟨w.heap.size + 1 + 1 + 1, 1, none⟩) (World.block_lt_of_cell? _ _ q10)).trans p1
    have z2 := (HC3.out.frozen (p := ⟨w.heap.size + 1 + 1 + 1, 2, none⟩) (World.block_lt_of_cell? _ _ q11)).trans p2
    clear q0 q1 q2 q3 q4 q5 q6 q7 q8 q9 q10 q11 p0 p1 p2 k0 k1 k2 j3 j4 j5 j6 j7 j8
    go_wp2_with fail
    have HA9 : Hid (Below w3.heap.size w3 (w3.alloc (.cells #[.int .i64 3, .int .i64 0, .slice (some ⟨w2.heap.size, 0, none⟩) 1 1] 33))) := (by repeat (first | exact Below.refl _ _ | assumption | refine Below.drew ?_ | refine Below.alloc ?_ (by first | exact Nat.le_refl _ | omega | (simp; done) | (simp; omega)) _ | refine Below.setCell ?_ (by first | exact Nat.le_refl _ | omega | (simp; done) | (simp; omega)) _))
    have HM : Hid ((w3.alloc (.cells #[.int .i64 3, .int .i64 0, .slice (some ⟨w2.heap.size, 0, none⟩) 1 1] 33)).cell? ⟨w3.heap.size, 0, none⟩ = some (.int .i64 (kd (ndT 3 1 (one (ndT 6 2 (two (p) (q))))))) ∧ (w3.alloc (.cells #[.int .i64 3, .int .i64 0, .slice (some ⟨w2.heap.size, 0, none⟩) 1 1] 33)).cell? ⟨w3.heap.size, 1, none⟩ = some (.int .i64 (nn (ndT 3 1 (one (ndT 6 2 (two (p) (q))))))) ∧ (w3.alloc (.cells #[.int .i64 3, .int .i64 0, .slice (some ⟨w2.heap.size, 0, none⟩) 1 1] 33)).cell? ⟨w3.heap.size, 2, none⟩ = some (.slice (some ⟨w2.heap.size, 0, none⟩) 1 1)) := ⟨cell_new _ _ _ rfl, cell_new _ _ _ rfl, cell_new _ _ _ rfl⟩
    have HS9 : Hid ((w3.alloc (.cells #[.int .i64 3, .int .i64 0, .slice (some ⟨w2.heap.size, 0, none⟩) 1 1] 33)).heap.size = w3.heap.size + 1) := by show _ = _; simp
    generalize (w3.alloc (.cells #[.int .i64 3, .int .i64 0, .slice (some ⟨w2.heap.size, 0, none⟩) 1 1] 33)) = W9 at *
    have HK9 : Hid (∀ w8 : World, Below W9.heap.size W9 w8 → w8.cell? ⟨N, 0, none⟩ = some (.int .i64 (kd (ndT 4 2 (two (ndT 3 1 (one (p))) (q))))) ∧ w8.cell? ⟨N, 1, none⟩ = some (.int .i64 (nn (ndT 4 2 (two (ndT 3 1 (one (p))) (q))))) ∧ w8.cell? ⟨N, 2, none⟩ = some (.slice a5 l5 c5) ∧ w8.cell? ⟨w3.heap.size, 0, none⟩ = some (.int .i64 (kd (ndT 3 1 (one (ndT 6 2 (two (p) (q))))))) ∧ w8.cell? ⟨w3.heap.size, 1, none⟩ = some (.int .i64 (nn (ndT 3 1 (one (ndT 6 2 (two (p) (q))))))) ∧ w8.cell? ⟨w3.heap.size, 2, none⟩ = some (.slice (some ⟨w2.heap.size, 0, none⟩) 1 1) ∧ w8.cell? ⟨w.heap.size, 0, none⟩ = some (.int .i64 (kd e)) ∧ w8.cell? ⟨w.heap.size, 1, none⟩ = some (.int .i64 (nn e)) ∧ w8.cell? ⟨w.heap.size, 2, none⟩ = some (.slice ae le ce) ∧ w8.cell? ⟨w.heap.size + 1 + 1 + 1, 0, none⟩ = some (.int .i64 0) ∧ w8.cell? ⟨w.heap.size + 1 + 1 + 1, 1, none⟩ = some (.int .i64 0) ∧ w8.cell? ⟨w.heap.size + 1 + 1 + 1, 2, none⟩ = some (.slice none 0 0) ∧ w8.frozen? ⟨w.heap.size + 1 + 1 + 1, 0, none⟩ = false ∧ w8.frozen? ⟨w.heap.size + 1 + 1 + 1, 1, none⟩ = false ∧ w8.frozen? ⟨w.heap.size + 1 + 1 + 1, 2, none⟩ = false) :=
      fun w8 h => ⟨keep h (keep HA9.out i0), keep h (keep HA9.out i1), keep h (keep HA9.out i2), keep h HM.out.1, keep h HM.out.2.1, keep h HM.out.2.2, keep h (keep HA9.out j0), keep h (keep HA9.out j1), keep h (keep HA9.out j2), keep h (keep HA9.out j9), keep h (keep HA9.out j10), keep h (keep HA9.out j11),
        (h.frozen (World.block_lt_of_cell? _ _ (keep HA9.out j9))).trans ((HA9.out.frozen (World.block_lt_of_cell? _ _ j9)).trans z0), (h.frozen (World.block_lt_of_cell? _ _ (keep HA9.out j10))).trans ((HA9.out.frozen (World.block_lt_of_cell? _ _ j10)).trans z1), (h.frozen (World.block_lt_of_cell? _ _ (keep HA9.out j11))).trans ((HA9.out.frozen (World.block_lt_of_cell? _ _ j11)).trans z2)⟩
    have HB9 := hid (HBb.out.trans ((HC3.out.trans (HA9.out.mono HC3.out.size)).mono hbs))
    have HR9 := hid (nz_below (nz_below HRh.out HC3.out) HA9.out)
    have HT9 := hid (nz_below HR3.out HA9.out)
    have HE9 := hid (nz_base (rd_old HE.out) HB9.out)
    clear i0 i1 i2 j0 j1 j2 j9 j10 j11 z0 z1 z2
    refine region_below (fun u => ⟨#[.agg #[.int .i64 (kd e), .int .i64 (nn e), .slice ae le ce], .agg #[.int .i64 (kd p), .int .i64 (nn p), .slice ap lp cp], .agg #[.int .i64 (kd q), .int .i64 (nn q), .slice aq lq cq], .pointer (some ⟨w.heap.size, 0, none⟩), .pointer (some ⟨w.heap.size + 1, 0, none⟩), .pointer (some ⟨w.heap.size + 1 + 1, 0, none⟩), .pointer (some ⟨w.heap.size + 1 + 1 + 1, 0, none⟩), .pointer (some ⟨N, 0, none⟩), .pointer (some ⟨w3.heap.size, 0, none⟩), s9, s10, s11, s12, s13, .agg #[.int .i64 (kd (ndT 4 2 (two (ndT 3 1 (one (p))) (q)))), .int .i64 (nn (ndT 4 2 (two (ndT 3 1 (one (p))) (q)))), .slice a5 l5 c5], .agg #[.int .i64 (kd p), .int .i64 (nn p), .slice ap lp cp], .agg #[.int .i64 (kd q), .int .i64 (nn q), .slice aq lq cq], .slice (some ⟨wb.heap.size, 0, none⟩) 2 2, .agg #[.int .i64 6, .int .i64 0, .slice (some ⟨wb.heap.size, 0, none⟩) 2 2], .slice (some ⟨w2.heap.size, 0, none⟩) 1 1, .agg #[.int .i64 3, .int .i64 0, .slice (some ⟨w2.heap.size, 0, none⟩) 1 1], u 21, u 22, u 23, u 24, u 25, u 26, u 27], []⟩) (fun i => [21, 22, 23, 24, 25, 26, 27].getD i 0) (fun i v w8 => match i with | 0 => TV Q w.heap.size w8 (D + 1 + 1) (ndT 4 2 (two (ndT 3 1 (one (p))) (q))) v | 1 => TV Q w.heap.size w8 (D + 1 + 1) (ndT 3 1 (one (ndT 6 2 (two (p) (q))))) v | 2 => TV Q w.heap.size w8 (D) (e) v | 3 => RV Q w.heap.size w8 (D + 1 + 1 + 1) (ndT 4 2 (two (ndT 3 1 (one (ndT 6 2 (two (p) (q))))) (e))) 2 v | 4 => TV Q w.heap.size w8 (D + 1 + 1 + 1) (ndT 4 2 (two (ndT 3 1 (one (ndT 6 2 (two (p) (q))))) (e))) v | 5 => RV Q w.heap.size w8 (D + 1 + 1 + 1 + 1) (ndT 5 2 (two (ndT 4 2 (two (ndT 3 1 (one (p))) (q))) (ndT 4 2 (two (ndT 3 1 (one (ndT 6 2 (two (p) (q))))) (e))))) 2 v | 6 => TV Q w.heap.size w8 (D + 1 + 1 + 1 + 1) (ndT 5 2 (two (ndT 4 2 (two (ndT 3 1 (one (p))) (q))) (ndT 4 2 (two (ndT 3 1 (one (ndT 6 2 (two (p) (q))))) (e))))) v | _ => True) W9 7 (fun k => match k with | 21 => undef | 22 => undef | 23 => undef | 24 => undef | 25 => undef | 26 => undef | 27 => undef | _ => undef) (by rfl) (by kernel_rfl) (by rfl) ⟨by kernel_rfl, by kernel_rfl, by kernel_rfl, by decide⟩ (by kernel_rfl) (Below.refl _ _) ?hput ?hinj ?stable ?step ?last
    case hput =>
      intro i hi u v
      match i, hi with
      | 0, _ => rfl
      | 1, _ => rfl
      | 2, _ => rfl
      | 3, _ => rfl
      | 4, _ => rfl
      | 5, _ => rfl
      | 6, _ => rfl
    case hinj =>
      intro i j hi hj h
      exact slots_inj [21, 22, 23, 24, 25, 26, 27] (by decide) hi hj h
    case stable =>
      intro i v w8 w9 hb h
      match i, h with
      | 0, h => exact h.below hb
      | 1, h => exact h.below hb
      | 2, h => exact h.below hb
      | 3, h => exact h.below hb
      | 4, h => exact h.below hb
      | 5, h => exact h.below hb
      | 6, h => exact h.below hb
      | _ + 7, h => trivial
    case step =>
      intro i hi u w8 S8 hdep
      match i, hi with
      | 0, _ =>
        clear hdep
        refine ⟨_, rfl, fun K' hK => ?_⟩
        obtain ⟨f0, f1, f2, f3, f4, f5, f6, f7, f8, f9, f10, f11, g0, g1, g2⟩ := HK9.out w8 S8
        go_simp
        exact hK.out _ _ (Below.refl _ _) ⟨a5, l5, c5, rfl, nz_below HR9.out S8⟩
      | 1, _ =>
        clear hdep
        refine ⟨_, rfl, fun K' hK => ?_⟩
        obtain ⟨f0, f1, f2, f3, f4, f5, f6, f7, f8, f9, f10, f11, g0, g1, g2⟩ := HK9.out w8 S8
        go_simp
        exact hK.out _ _ (Below.refl _ _) ⟨_, _, _, rfl, nz_below HT9.out S8⟩
      | 2, _ =>
        clear hdep
        refine ⟨_, rfl, fun K' hK => ?_⟩
        obtain ⟨f0, f1, f2, f3, f4, f5, f6, f7, f8, f9, f10, f11, g0, g1, g2⟩ := HK9.out w8 S8
        go_simp
        exact hK.out _ _ (Below.refl _ _) ⟨ae, le, ce, rfl, nz_below HE9.out S8⟩
      | 3, _ =>
        have h1 : TV Q w.heap.size w8 (D + 1 + 1) (ndT 3 1 (one (ndT 6 2 (two (p) (q))))) (u 22) := hdep 1 (by kernel_rfl)
        have h2 : TV Q w.heap.size w8 (D) (e) (u 23) := hdep 2 (by kernel_rfl)
        clear hdep
        refine ⟨_, rfl, fun K' hK => ?_⟩
        obtain ⟨a1, l1, c1, e1, r1⟩ := h1
        obtain ⟨a2, l2, c2, e2, r2⟩ := h2
        simp only [e1, e2] at hK ⊢
        go_simp
        exact hK.out _ _ (by repeat (first | exact Below.refl _ _ | assumption | refine Below.drew ?_ | refine Below.alloc ?_ (by first | exact Nat.le_refl _ | omega | (simp; done) | (simp; omega)) _ | refine Below.setCell ?_ (by first | exact Nat.le_refl _ | omega | (simp; done) | (simp; omega)) _)) ⟨w8.heap.size, rfl, row2 4 (Nat.le_trans HB9.out.size S8.size) (nd_kind (by decide)) (r1.more (by omega)) (r2.more (by omega))⟩
      | 4, _ =>
        have h3 : RV Q w.heap.size w8 (D + 1 + 1 + 1) (ndT 4 2 (two (ndT 3 1 (one (ndT 6 2 (two (p) (q))))) (e))) 2 (u 24) := hdep 3 (by kernel_rfl)
        clear hdep
        refine ⟨_, rfl, fun K' hK => ?_⟩
        obtain ⟨N3, e3, r3⟩ := h3
        simp only [e3] at hK ⊢
        go_simp
        refine (new_impl 4 _ _ _ _).mono ?_
        rintro e w9 ⟨rfl, hb9⟩
        exact hK.out _ _ hb9 ⟨_, _, _, rfl, nz_below r3 hb9⟩
      | 5, _ =>
        have h0 : TV Q w.heap.size w8 (D + 1 + 1) (ndT 4 2 (two (ndT 3 1 (one (p))) (q))) (u 21) := hdep 0 (by kernel_rfl)
        have h4 : TV Q w.heap.size w8 (D + 1 + 1 + 1) (ndT 4 2 (two (ndT 3 1 (one (ndT 6 2 (two (p) (q))))) (e))) (u 25) := hdep 4 (by kernel_rfl)
        clear hdep
        refine ⟨_, rfl, fun K' hK => ?_⟩
        obtain ⟨a0, l0, c0, e0, r0⟩ := h0
        obtain ⟨a4, l4, c4, e4, r4⟩ := h4
        simp only [e0, e4] at hK ⊢
        go_simp
        exact hK.out _ _ (by repeat (first | exact Below.refl _ _ | assumption | refine Below.drew ?_ | refine Below.alloc ?_ (by first | exact Nat.le_refl _ | omega | (simp; done) | (simp; omega)) _ | refine Below.setCell ?_ (by first | exact Nat.le_refl _ | omega | (simp; done) | (simp; omega)) _)) ⟨w8.heap.size, rfl, row2 5 (Nat.le_trans HB9.out.size S8.size) (nd_kind (by decide)) (r0.more (by omega)) (r4.more (by omega))⟩
      | 6, _ =>
        have h5 : RV Q w.heap.size w8 (D + 1 + 1 + 1 + 1) (ndT 5 2 (two (ndT 4 2 (two (ndT 3 1 (one (p))) (q))) (ndT 4 2 (two (ndT 3 1 (one (ndT 6 2 (two (p) (q))))) (e))))) 2 (u 26) := hdep 5 (by kernel_rfl)
        clear hdep
        refine ⟨_, rfl, fun K' hK => ?_⟩
        obtain ⟨N5, e5, r5⟩ := h5
        simp only [e5] at hK ⊢
        go_simp
        refine (new_impl 5 _ _ _ _).mono ?_
        rintro e w9 ⟨rfl, hb9⟩
        exact hK.out _ _ hb9 ⟨_, _, _, rfl, nz_below r5 hb9⟩
    case last =>
      intro u w8 S8 hall
      have h6 : TV Q w.heap.size w8 (D + 1 + 1 + 1 + 1) (ndT 5 2 (two (ndT 4 2 (two (ndT 3 1 (one (p))) (q))) (ndT 4 2 (two (ndT 3 1 (one (ndT 6 2 (two (p) (q))))) (e))))) (u 27) := hall 6 (by decide)
      clear hall
      refine ⟨_, rfl, fun K' hK => ?_⟩
      obtain ⟨f0, f1, f2, f3, f4, f5, f6, f7, f8, f9, f10, f11, g0, g1, g2⟩ := HK9.out w8 S8
      obtain ⟨a6, l6, c6, e6', r6⟩ := h6
      simp only [e6'] at hK ⊢
      go_simp
      refine hK.out _ _ ?_
      clear hK K'
      (try simp only [Exit.then])
      have HR := hid (rd_set3 (nz_not r6 (by omega) f9) (R := w.heap.size + 1 + 1 + 1) (by simp) (.int .i64 (kd (ndT 5 2 (two (ndT 4 2 (two (ndT 3 1 (one (p))) (q))) (ndT 4 2 (two (ndT 3 1 (one (ndT 6 2 (two (p) (q))))) (e))))))) (.int .i64 (nn (ndT 5 2 (two (ndT 4 2 (two (ndT 3 1 (one (p))) (q))) (ndT 4 2 (two (ndT 3 1 (one (ndT 6 2 (two (p) (q))))) (e))))))) (.slice a6 l6 c6))
      have HB := hid (below_set3 (HB9.out.trans (S8.mono HB9.out.size)) (R := w.heap.size + 1 + 1 + 1) (by omega) (.int .i64 (kd (ndT 5 2 (two (ndT 4 2 (two (ndT 3 1 (one (p))) (q))) (ndT 4 2 (two (ndT 3 1 (one (ndT 6 2 (two (p) (q))))) (e))))))) (.int .i64 (nn (ndT 5 2 (two (ndT 4 2 (two (ndT 3 1 (one (p))) (q))) (ndT 4 2 (two (ndT 3 1 (one (ndT 6 2 (two (p) (q))))) (e))))))) (.slice a6 l6 c6))
      go_wp2
      refine bodyPost_ret (v := .agg #[.int .i64 (kd (ndT 5 2 (two (ndT 4 2 (two (ndT 3 1 (one (p))) (q))) (ndT 4 2 (two (ndT 3 1 (one (ndT 6 2 (two (p) (q))))) (e)))))), .int .i64 (nn (ndT 5 2 (two (ndT 4 2 (two (ndT 3 1 (one (p))) (q))) (ndT 4 2 (two (ndT 3 1 (one (ndT 6 2 (two (p) (q))))) (e)))))), .slice a6 l6 c6]) (by simp [results, Try.results64, go_sem, f9, f10, f11]) rfl ⟨_, rfl, ⟨a6, l6, c6, HR.out.imp fun _ h => h.1, rfl⟩, HB.out⟩
    

/-- What is gathered of the first so many. -/
def lessT (A B s0 : T) : Nat → T
  | 0 => s0
  | i + 1 => lessStep (lessT A B s0 i) (kid A i) (kid B i)
theorem lessT_kind {A B s0 : T} (h : kd s0 ≠ 0) (i : Nat) : kd (lessT A B s0 i) ≠ 0 := by
  cases i with
  | zero => exact h
  | succ i => exact nd_kind (by decide)
set_option maxHeartbeats 3200000 in
set_option maxRecDepth 8000 in
theorem lessT_gathered (Q : Nat → Prop) (D : Nat) (A B s0 : T) (aA aB aS : Option Addr) (l cA cB lS cS : Nat) (w : World) (hA : Rd Q 1048576 w (D + 1) A aA l) (hB : Rd Q 1048576 w (D + 1) B aB l) (hS : Rd Q 1048576 w D s0 aS lS) (ks : kd s0 ≠ 0) (kA : ∀ i, i < l → kd (kid A i) ≠ 0) :
    Calls Try.prog 63 #[.agg #[.int .i64 (kd s0), .int .i64 (nn s0), .slice aS lS cS], .slice aA l cA, .slice aB l cB, .func (.func 64) #[] #[]] w fun e' w' => ∃ v, e' = .returned v ∧ XV (fun b => Q b ∨ w.heap.size ≤ b) w' (D + 4 * l) (lessT A B s0 l) v ∧ Below w.heap.size w w' := by
  have hmost := hA.most
  have HA := hid (rd_old hA)
  have HB := hid (rd_old hB)
  have HS := hid (rd_old hS)
  have HKA := hid kA
  have HKS := hid ks
  clear hA hB hS kA ks
  go_enter Try.func63, Try.ntmps63
  go_wp2
  go_loopw [12] (fun i wr => ∃ (k : Nat) (a : Option Addr) (lk ck : Nat), k ≤ l ∧ i = .int .i64 k ∧ Below w.heap.size w wr ∧ Rd (fun b => (Q b ∧ b < w.heap.size) ∨ w.heap.size + 1 < b) 1048576 wr (D + 4 * k) (lessT A B s0 k) a lk ∧
    (wr.cell? ⟨w.heap.size, 0, none⟩ = some (.int .i64 (kd (lessT A B s0 k))) ∧ wr.cell? ⟨w.heap.size, 1, none⟩ = some (.int .i64 (nn (lessT A B s0 k))) ∧ wr.cell? ⟨w.heap.size, 2, none⟩ = some (.slice a lk ck)) ∧
    (wr.cell? ⟨w.heap.size + 1, 0, none⟩ = some (.int .i64 0) ∧ wr.cell? ⟨w.heap.size + 1, 1, none⟩ = some (.int .i64 0) ∧ wr.cell? ⟨w.heap.size + 1, 2, none⟩ = some (.slice none 0 0)) ∧
    (∀ x, wr.frozen? ⟨w.heap.size, x, none⟩ = false ∧ wr.frozen? ⟨w.heap.size + 1, x, none⟩ = false)) (fun i _ => l - (intOf i).toNat)
  case atStart => exact ⟨0, aS, lS, cS, Nat.zero_le _, rfl, (by repeat (first | exact Below.refl _ _ | assumption | refine Below.drew ?_ | refine Below.alloc ?_ (by first | exact Nat.le_refl _ | omega | (simp; done) | (simp; omega)) _ | refine Below.setCell ?_ (by first | exact Nat.le_refl _ | omega | (simp; done) | (simp; omega)) _)), (HS.out.imp fun b hb => .inl hb).below (by repeat (first | exact Below.refl _ _ | assumption | refine Below.drew ?_ | refine Below.alloc ?_ (by first | exact Nat.le_refl _ | omega | (simp; done) | (simp; omega)) _ | refine Below.setCell ?_ (by first | exact Nat.le_refl _ | omega | (simp; done) | (simp; omega)) _)), ⟨by simp [go_sem, lessT], by simp [go_sem, lessT], by simp [go_sem]⟩, ⟨by simp [go_sem], by simp [go_sem], by simp [go_sem]⟩, fun x => ⟨by simp [go_sem], by simp [go_sem]⟩⟩
  case round =>
    obtain ⟨k, ak, lk, ck, hk, rfl, hb, hrk, ⟨c0, c1, c2⟩, ⟨z0, z1, z2⟩, hfr⟩ := hrel
    have HBe := hid hb
    have HRk := hid hrk
    have HFr := hid hfr
    have hsz : w.heap.size + 1 < wr.heap.size := World.block_lt_of_cell? _ _ z0
    clear hb hrk hfr
    by_cases hlt : k < l
    · obtain ⟨hd0, bA, offA, rfl, -, x0, x1, ax, lx, cx, x2, hx⟩ := HA.out.cell hlt
      obtain ⟨-, bB, offB, rfl, -, y0, y1, ay, ly, cy, y2, hy⟩ := HB.out.cell hlt
      have HX := hid ((hx.imp (q' := (fun b => (Q b ∧ b < w.heap.size) ∨ w.heap.size + 1 < b)) fun b hb => .inl hb).below HBe.out)
      have HY := hid ((hy.imp (q' := (fun b => (Q b ∧ b < w.heap.size) ∨ w.heap.size + 1 < b)) fun b hb => .inl hb).below HBe.out)
      have HK : Hid (∀ w8 : World, Below wr.heap.size wr w8 → (w8.cell? ⟨w.heap.size, 0, none⟩ = some (.int .i64 (kd (lessT A B s0 k))) ∧ w8.cell? ⟨w.heap.size, 1, none⟩ = some (.int .i64 (nn (lessT A B s0 k))) ∧ w8.cell? ⟨w.heap.size, 2, none⟩ = some (.slice ak lk ck)) ∧
          (w8.cell? ⟨bA, offA + k * 3, none⟩ = some (.int .i64 (kd (kid A k))) ∧ w8.cell? ⟨bA, offA + k * 3 + 1, none⟩ = some (.int .i64 (nn (kid A k))) ∧ w8.cell? ⟨bA, offA + k * 3 + 2, none⟩ = some (.slice ax lx cx)) ∧
          (w8.cell? ⟨bB, offB + k * 3, none⟩ = some (.int .i64 (kd (kid B k))) ∧ w8.cell? ⟨bB, offB + k * 3 + 1, none⟩ = some (.int .i64 (nn (kid B k))) ∧ w8.cell? ⟨bB, offB + k * 3 + 2, none⟩ = some (.slice ay ly cy)) ∧
          (w8.cell? ⟨w.heap.size + 1, 0, none⟩ = some (.int .i64 0) ∧ w8.cell? ⟨w.heap.size + 1, 1, none⟩ = some (.int .i64 0) ∧ w8.cell? ⟨w.heap.size + 1, 2, none⟩ = some (.slice none 0 0)) ∧
          ∀ x, w8.frozen? ⟨w.heap.size, x, none⟩ = false ∧ w8.frozen? ⟨w.heap.size + 1, x, none⟩ = false) :=
        fun w8 h => ⟨⟨keep h c0, keep h c1, keep h c2⟩, ⟨keep h (keep HBe.out x0), keep h (keep HBe.out x1), keep h (keep HBe.out x2)⟩, ⟨keep h (keep HBe.out y0), keep h (keep HBe.out y1), keep h (keep HBe.out y2)⟩, ⟨keep h z0, keep h z1, keep h z2⟩,
          fun x => ⟨(h.frozen (p := ⟨w.heap.size, x, none⟩) (by dsimp only; omega)).trans (HFr.out x).1, (h.frozen (p := ⟨w.heap.size + 1, x, none⟩) (by dsimp only; omega)).trans (HFr.out x).2⟩⟩
      clear x0 x1 x2 y0 y1 y2 c0 c1 c2 z0 z1 z2 hx hy
      go_wp2
      refine region_below (fun u => ⟨#[.agg #[.int .i64 (kd s0), .int .i64 (nn s0), .slice aS lS cS], .slice (some ⟨bA, offA, none⟩) l cA, .slice (some ⟨bB, offB, none⟩) l cB, .func (.func 64) #[] #[], .pointer (some ⟨w.heap.size, 0, none⟩), undef, undef, undef, .pointer (some ⟨w.heap.size + 1, 0, none⟩), .int .i64 (k : Int), .slice (some ⟨bA, offA, none⟩) l cA, .int .i64 (l : Int), .int .i64 (k : Int), .bool true, .int .i64 (k : Int), u 15, u 16, u 17, u 18, u 19, u 20, u 21, u 22, u 23, u 24, u 25, u26, undef], []⟩) (fun i => [15, 16, 17, 18, 19, 20, 21, 22, 23, 24, 25].getD i 0) (fun i v w8 => match i with | 0 => v = .func (.func 64) #[] #[] | 1 => XV (fun b => (Q b ∧ b < w.heap.size) ∨ w.heap.size + 1 < b) w8 (D + 4 * k) (lessT A B s0 k) v | 2 => v = .slice (some ⟨bA, offA, none⟩) l cA | 3 => v = .int .i64 (k : Int) | 4 => v = .pointer (some ⟨bA, offA + k * 3, none⟩) | 5 => XV (fun b => (Q b ∧ b < w.heap.size) ∨ w.heap.size + 1 < b) w8 (D) (kid A k) v | 6 => v = .slice (some ⟨bB, offB, none⟩) l cB | 7 => v = .int .i64 (k : Int) | 8 => v = .pointer (some ⟨bB, offB + k * 3, none⟩) | 9 => XV (fun b => (Q b ∧ b < w.heap.size) ∨ w.heap.size + 1 < b) w8 (D) (kid B k) v | 10 => XV (fun b => (Q b ∧ b < w.heap.size) ∨ w.heap.size + 1 < b) w8 (D + 4 * (k + 1)) (lessT A B s0 (k + 1)) v | _ => True) wr 11 (fun k => match k with | 15 => u15 | 16 => u16 | 17 => u17 | 18 => u18 | 19 => u19 | 20 => u20 | 21 => u21 | 22 => u22 | 23 => u23 | 24 => u24 | 25 => u25 | _ => undef) (by rfl) (by kernel_rfl) (by rfl) ⟨by kernel_rfl, by kernel_rfl, by kernel_rfl, by decide⟩ (by kernel_rfl) (Below.refl _ _) ?hput ?hinj ?stable ?step ?last
      case hput =>
        intro i hi u v
        match i, hi with
        | 0, _ => rfl
        | 1, _ => rfl
        | 2, _ => rfl
        | 3, _ => rfl
        | 4, _ => rfl
        | 5, _ => rfl
        | 6, _ => rfl
        | 7, _ => rfl
        | 8, _ => rfl
        | 9, _ => rfl
        | 10, _ => rfl
      case hinj =>
        intro i j hi hj h
        exact slots_inj [15, 16, 17, 18, 19, 20, 21, 22, 23, 24, 25] (by decide) hi hj h
      case stable =>
        intro i v w8 w9 hb h
        match i, h with
        | 0, h => exact h
        | 1, h => exact h.below hb
        | 2, h => exact h
        | 3, h => exact h
        | 4, h => exact h
        | 5, h => exact h.below hb
        | 6, h => exact h
        | 7, h => exact h
        | 8, h => exact h
        | 9, h => exact h.below hb
        | 10, h => exact h.below hb
        | _ + 11, h => trivial
      case step =>
        intro i hi u w8 S8 hdep
        match i, hi with
        | 0, _ =>
          clear hdep
          refine ⟨_, rfl, fun K' hK => ?_⟩
          go_simp
          exact hK.out _ _ (Below.refl _ _) rfl
        | 1, _ =>
          clear hdep
          refine ⟨_, rfl, fun K' hK => ?_⟩
          obtain ⟨⟨c0, c1, c2⟩, ⟨x0, x1, x2⟩, ⟨y0, y1, y2⟩, -, -⟩ := HK.out w8 S8
          go_simp
          exact hK.out _ _ (Below.refl _ _) ⟨ak, lk, ck, HRk.out.below S8, rfl⟩
        | 2, _ =>
          clear hdep
          refine ⟨_, rfl, fun K' hK => ?_⟩
          go_simp
          exact hK.out _ _ (Below.refl _ _) rfl
        | 3, _ =>
          clear hdep
          refine ⟨_, rfl, fun K' hK => ?_⟩
          go_simp
          exact hK.out _ _ (Below.refl _ _) rfl
        | 4, _ =>
          have h2 : (u 17) = .slice (some ⟨bA, offA, none⟩) l cA := hdep 2 (by kernel_rfl)
          have h3 : (u 18) = .int .i64 (k : Int) := hdep 3 (by kernel_rfl)
          clear hdep
          refine ⟨_, rfl, fun K' hK => ?_⟩
          simp only [h2, h3] at hK ⊢
          go_simp
          exact hK.out _ _ (Below.refl _ _) rfl
        | 5, _ =>
          have h4 : (u 19) = .pointer (some ⟨bA, offA + k * 3, none⟩) := hdep 4 (by kernel_rfl)
          clear hdep
          refine ⟨_, rfl, fun K' hK => ?_⟩
          obtain ⟨⟨c0, c1, c2⟩, ⟨x0, x1, x2⟩, ⟨y0, y1, y2⟩, -, -⟩ := HK.out w8 S8
          simp only [h4] at hK ⊢
          go_simp
          exact hK.out _ _ (Below.refl _ _) ⟨ax, lx, cx, HX.out.below S8, rfl⟩
        | 6, _ =>
          clear hdep
          refine ⟨_, rfl, fun K' hK => ?_⟩
          go_simp
          exact hK.out _ _ (Below.refl _ _) rfl
        | 7, _ =>
          clear hdep
          refine ⟨_, rfl, fun K' hK => ?_⟩
          go_simp
          exact hK.out _ _ (Below.refl _ _) rfl
        | 8, _ =>
          have h6 : (u 21) = .slice (some ⟨bB, offB, none⟩) l cB := hdep 6 (by kernel_rfl)
          have h7 : (u 22) = .int .i64 (k : Int) := hdep 7 (by kernel_rfl)
          clear hdep
          refine ⟨_, rfl, fun K' hK => ?_⟩
          simp only [h6, h7] at hK ⊢
          go_simp
          exact hK.out _ _ (Below.refl _ _) rfl
        | 9, _ =>
          have h8 : (u 23) = .pointer (some ⟨bB, offB + k * 3, none⟩) := hdep 8 (by kernel_rfl)
          clear hdep
          refine ⟨_, rfl, fun K' hK => ?_⟩
          obtain ⟨⟨c0, c1, c2⟩, ⟨x0, x1, x2⟩, ⟨y0, y1, y2⟩, -, -⟩ := HK.out w8 S8
          simp only [h8] at hK ⊢
          go_simp
          exact hK.out _ _ (Below.refl _ _) ⟨ay, ly, cy, HY.out.below S8, rfl⟩
        | 10, _ =>
          have h0 : (u 15) = .func (.func 64) #[] #[] := hdep 0 (by kernel_rfl)
          have h1 : XV (fun b => (Q b ∧ b < w.heap.size) ∨ w.heap.size + 1 < b) w8 (D + 4 * k) (lessT A B s0 k) (u 16) := hdep 1 (by kernel_rfl)
          have h5 : XV (fun b => (Q b ∧ b < w.heap.size) ∨ w.heap.size + 1 < b) w8 (D) (kid A k) (u 20) := hdep 5 (by kernel_rfl)
          have h9 : XV (fun b => (Q b ∧ b < w.heap.size) ∨ w.heap.size + 1 < b) w8 (D) (kid B k) (u 24) := hdep 9 (by kernel_rfl)
          clear hdep
          refine ⟨_, rfl, fun K' hK => ?_⟩
          obtain ⟨a1, l1, c1, r1, e1⟩ := h1
          obtain ⟨a5, l5, c5, r5, e5⟩ := h5
          obtain ⟨a9, l9, c9, r9, e9⟩ := h9
          simp only [h0, e1, e5, e9] at hK ⊢
          go_simp
          refine (less_step _ (D + 4 * k) _ _ _ _ _ _ _ _ _ _ _ _ _ r1 (r5.more (by omega)) (r9.more (by omega)) (lessT_kind HKS.out k) (HKA.out k hlt)).mono ?_
          rintro e w9 ⟨v, rfl, ⟨a9, l9, c9, r9, e9⟩, hb9⟩
          subst e9
          exact hK.out _ _ hb9 ⟨a9, l9, c9, r9.imp fun b hb => (by
            rcases hb with hb | hb
            · exact hb
            · exact .inr (by have := S8.size; omega)), rfl⟩
      case last =>
        intro u w8 S8 hall
        have h10 : XV (fun b => (Q b ∧ b < w.heap.size) ∨ w.heap.size + 1 < b) w8 (D + 4 * (k + 1)) (lessT A B s0 (k + 1)) (u 25) := hall 10 (by decide)
        clear hall
        refine ⟨_, rfl, fun K' hK => ?_⟩
        obtain ⟨⟨c0, c1, c2⟩, -, -, ⟨z0, z1, z2⟩, hfr⟩ := HK.out w8 S8
        obtain ⟨a8, l8, c8, r8, e8⟩ := h10
        have g0 := (hfr 0).1
        have g1 := (hfr 1).1
        have g2 := (hfr 2).1
        simp only [e8] at hK ⊢
        go_simp
        refine hK.out _ _ ?_
        clear hK K'
        (try simp only [Exit.then])
        have HR := hid (rd_set3 r8 (R := w.heap.size) (by first | (simp; done) | (simp; omega)) (.int .i64 (kd (lessT A B s0 (k + 1)))) (.int .i64 (nn (lessT A B s0 (k + 1)))) (.slice a8 l8 c8))
        have HB3 := hid (below_set3 (HBe.out.trans (S8.mono HBe.out.size)) (R := w.heap.size) (Nat.le_refl _) (.int .i64 (kd (lessT A B s0 (k + 1)))) (.int .i64 (nn (lessT A B s0 (k + 1)))) (.slice a8 l8 c8))
        go_wp2
        go_roundw
        case rel =>
          exact ⟨k + 1, a8, l8, c8, by omega, by go_num, HB3.out, HR.out, set3_cells c0 c1 c2 _ _ _, ⟨(set3_far _ (by omega) _ _ _ _).trans z0, (set3_far _ (by omega) _ _ _ _).trans z1, (set3_far _ (by omega) _ _ _ _).trans z2⟩, fun x => ⟨(set3_froz _ _ _ _ _ _).trans (hfr x).1, (set3_froz _ _ _ _ _ _).trans (hfr x).2⟩⟩
        case measure => simp [intOf]; omega
    · have e : k = l := by omega
      subst e
      have g0 := (HFr.out 0).2
      have g1 := (HFr.out 1).2
      have g2 := (HFr.out 2).2
      have HR := hid (rd_set3 HRk.out (R := w.heap.size + 1) (by first | (simp; done) | (simp; omega)) (.int .i64 (kd (lessT A B s0 k))) (.int .i64 (nn (lessT A B s0 k))) (.slice ak lk ck))
      have HB3 := hid (below_set3 HBe.out (R := w.heap.size + 1) (by omega) (.int .i64 (kd (lessT A B s0 k))) (.int .i64 (nn (lessT A B s0 k))) (.slice ak lk ck))
      go_wp2
      refine bodyPost_ret (v := .agg #[.int .i64 (kd (lessT A B s0 k)), .int .i64 (nn (lessT A B s0 k)), .slice ak lk ck]) (by simp [results, Try.results63, go_sem, z0, z1, z2]) rfl ⟨_, rfl, ⟨ak, lk, ck, HR.out.imp fun b hb => (by
        rcases hb with hb | hb
        · exact .inl hb.1
        · exact .inr (by omega)), rfl⟩, HB3.out⟩
end Go.Proofs.Ytofdhoefphoaaaa.lessImpl
