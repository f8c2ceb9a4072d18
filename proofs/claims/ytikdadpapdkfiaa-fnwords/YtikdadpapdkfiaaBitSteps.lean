/- The function literals that the program hands on to put bits together one by one: and, if-then-else; conditions: none. -/
import Derived.Test.YtikdadpapdkfiaaBitPart
namespace Go.Proofs.Ytikdadpapdkfiaa.bitSteps
open Go.RowKit Go.Deep Go base trees built heldStore drawn ownTree ownEx wordTrees bitRows bitPart
set_option linter.unusedVariables false

set_option maxHeartbeats 800000 in
theorem and_step (Q : Nat → Prop) (D : Nat) (p q : T) (ap aq : Option Addr) (lp lq cp cq : Nat) (w : World) (hp : Rd Q 1048576 w D p ap lp) (hq : Rd Q 1048576 w D q aq lq) (kp : kd p ≠ 0) :
    Calls Try.prog 40 #[.agg #[.int .i64 (kd p), .int .i64 (nn p), .slice ap lp cp], .agg #[.int .i64 (kd q), .int .i64 (nn q), .slice aq lq cq]] w fun e' w' => ∃ v, e' = .returned v ∧ XV (fun b => Q b ∨ w.heap.size ≤ b) w' (D + 1) (ndT 4 2 (two p q)) v ∧ Below w.heap.size w w' := by
  have HP := hid (rd_old hp)
  have HQ := hid (rd_old hq)
  clear hp hq
  have HW : Hid (Below w.heap.size w (((w.alloc (.cells #[.int .i64 (kd p), .int .i64 (nn p), .slice ap lp cp] 39)).alloc (.cells #[.int .i64 (kd q), .int .i64 (nn q), .slice aq lq cq] 39)).alloc (.cells #[.int .i64 0, .int .i64 0, .slice none 0 0] 39))) := (by repeat (first | exact Below.refl _ _ | assumption | refine Below.drew ?_ | refine Below.alloc ?_ (by first | exact Nat.le_refl _ | omega | (simp; done) | (simp; omega)) _ | refine Below.setCell ?_ (by first | exact Nat.le_refl _ | omega | (simp; done) | (simp; omega)) _))
  have hz : (((w.alloc (.cells #[.int .i64 (kd p), .int .i64 (nn p), .slice ap lp cp] 39)).alloc (.cells #[.int .i64 (kd q), .int .i64 (nn q), .slice aq lq cq] 39)).alloc (.cells #[.int .i64 0, .int .i64 0, .slice none 0 0] 39)).heap.size = w.heap.size + 1 + 1 + 1 := by simp
  have HR := hid (row2 (q := Q) (B := w.heap.size) (w := (((w.alloc (.cells #[.int .i64 (kd p), .int .i64 (nn p), .slice ap lp cp] 39)).alloc (.cells #[.int .i64 (kd q), .int .i64 (nn q), .slice aq lq cq] 39)).alloc (.cells #[.int .i64 0, .int .i64 0, .slice none 0 0] 39))) (D := D) (cx := cp) (cy := cq) 4 (by rw [hz]; omega) kp (nz_base HP.out HW.out) (nz_base HQ.out HW.out))
  rw [hz] at HR
  clear hz
  go_enter Try.func40, Try.ntmps40
  go_wp2_with fail
  refine (new_impl 4 _ _ _ _).mono ?_
  rintro e w9 ⟨rfl, hb9⟩
  have z0 : w9.cell? ⟨w.heap.size + 1 + 1, 0, none⟩ = some (.int .i64 0) := keep hb9 (by simp [go_sem])
  have z1 : w9.cell? ⟨w.heap.size + 1 + 1, 1, none⟩ = some (.int .i64 0) := keep hb9 (by simp [go_sem])
  have z2 : w9.cell? ⟨w.heap.size + 1 + 1, 2, none⟩ = some (.slice none 0 0) := keep hb9 (by simp [go_sem])
  have y0 : w9.frozen? ⟨w.heap.size + 1 + 1, 0, none⟩ = false := (hb9.frozen (p := ⟨w.heap.size + 1 + 1, 0, none⟩) (by simp)).trans (by simp [go_sem])
  have y1 : w9.frozen? ⟨w.heap.size + 1 + 1, 1, none⟩ = false := (hb9.frozen (p := ⟨w.heap.size + 1 + 1, 1, none⟩) (by simp)).trans (by simp [go_sem])
  have y2 : w9.frozen? ⟨w.heap.size + 1 + 1, 2, none⟩ = false := (hb9.frozen (p := ⟨w.heap.size + 1 + 1, 2, none⟩) (by simp)).trans (by simp [go_sem])
  have HB9 := hid ((HW.out.trans (show Below w.heap.size _ _ from (by repeat (first | exact Below.refl _ _ | assumption | refine Below.drew ?_ | refine Below.alloc ?_ (by first | exact Nat.le_refl _ | omega | (simp; done) | (simp; omega)) _ | refine Below.setCell ?_ (by first | exact Nat.le_refl _ | omega | (simp; done) | (simp; omega)) _)))).trans (hb9.mono (by simp; omega)))
  have HR9 := hid (nz_below HR.out hb9)
  have HR8 := hid (nz_set3 HR9.out (R := w.heap.size + 1 + 1) (by omega) z0 (.int .i64 4) (.int .i64 0) (.slice (some ⟨w.heap.size + 1 + 1 + 1, 0, none⟩) 2 2))
  have HB8 := hid (below_set3 HB9.out (R := w.heap.size + 1 + 1) (by omega) (.int .i64 4) (.int .i64 0) (.slice (some ⟨w.heap.size + 1 + 1 + 1, 0, none⟩) 2 2))
  clear hb9
  go_wp2
  refine bodyPost_ret (v := .agg #[.int .i64 4, .int .i64 0, .slice (some ⟨w.heap.size + 1 + 1 + 1, 0, none⟩) 2 2]) (by simp [results, Try.results40, go_sem, z0, z1, z2]) rfl ⟨_, rfl, ⟨_, _, _, HR8.out.imp fun b hb => hb.imp And.left And.left, rfl⟩, HB8.out⟩

set_option maxHeartbeats 800000 in
theorem ite_step (Q : Nat → Prop) (D : Nat) (p q f : T) (ap aq af : Option Addr) (lp lq lf cp cq cf : Nat) (w : World) (hp : Rd Q 1048576 w D p ap lp) (hq : Rd Q 1048576 w D q aq lq) (hf : Rd Q 1048576 w D f af lf) (kf : kd f ≠ 0) (C : Nat) (s0 : w.cell? ⟨C, 0, none⟩ = some (.int .i64 (kd f))) (s1 : w.cell? ⟨C, 1, none⟩ = some (.int .i64 (nn f))) (s2 : w.cell? ⟨C, 2, none⟩ = some (.slice af lf cf)) :
    Calls Try.prog 43 #[.agg #[.int .i64 (kd p), .int .i64 (nn p), .slice ap lp cp], .agg #[.int .i64 (kd q), .int .i64 (nn q), .slice aq lq cq], .pointer (some ⟨C, 0, none⟩)] w fun e' w' => ∃ v, e' = .returned v ∧ XV (fun b => Q b ∨ w.heap.size ≤ b) w' (D + 1) (ndT 7 3 (three f p q)) v ∧ Below w.heap.size w w' := by
  have HP := hid (rd_old hp)
  have HQ := hid (rd_old hq)
  have HF := hid (rd_old hf)
  have hC := World.block_lt_of_cell? _ _ s0
  clear hp hq hf
  have HW : Hid (Below w.heap.size w (((w.alloc (.cells #[.int .i64 (kd p), .int .i64 (nn p), .slice ap lp cp] 39)).alloc (.cells #[.int .i64 (kd q), .int .i64 (nn q), .slice aq lq cq] 39)).alloc (.cells #[.int .i64 0, .int .i64 0, .slice none 0 0] 39))) := (by repeat (first | exact Below.refl _ _ | assumption | refine Below.drew ?_ | refine Below.alloc ?_ (by first | exact Nat.le_refl _ | omega | (simp; done) | (simp; omega)) _ | refine Below.setCell ?_ (by first | exact Nat.le_refl _ | omega | (simp; done) | (simp; omega)) _))
  have hz : (((w.alloc (.cells #[.int .i64 (kd p), .int .i64 (nn p), .slice ap lp cp] 39)).alloc (.cells #[.int .i64 (kd q), .int .i64 (nn q), .slice aq lq cq] 39)).alloc (.cells #[.int .i64 0, .int .i64 0, .slice none 0 0] 39)).heap.size = w.heap.size + 1 + 1 + 1 := by simp
  have HR := hid (row3 (q := Q) (B := w.heap.size) (w := (((w.alloc (.cells #[.int .i64 (kd p), .int .i64 (nn p), .slice ap lp cp] 39)).alloc (.cells #[.int .i64 (kd q), .int .i64 (nn q), .slice aq lq cq] 39)).alloc (.cells #[.int .i64 0, .int .i64 0, .slice none 0 0] 39))) (D := D) (cx := cf) (cy := cp) (cz := cq) 7 (by rw [hz]; omega) kf (nz_base HF.out HW.out) (nz_base HP.out HW.out) (nz_base HQ.out HW.out))
  rw [hz] at HR
  clear hz
  have s0' : (((w.alloc (.cells #[.int .i64 (kd p), .int .i64 (nn p), .slice ap lp cp] 39)).alloc (.cells #[.int .i64 (kd q), .int .i64 (nn q), .slice aq lq cq] 39)).alloc (.cells #[.int .i64 0, .int .i64 0, .slice none 0 0] 39)).cell? ⟨C, 0, none⟩ = some (.int .i64 (kd f)) := keep HW.out s0
  have s1' : (((w.alloc (.cells #[.int .i64 (kd p), .int .i64 (nn p), .slice ap lp cp] 39)).alloc (.cells #[.int .i64 (kd q), .int .i64 (nn q), .slice aq lq cq] 39)).alloc (.cells #[.int .i64 0, .int .i64 0, .slice none 0 0] 39)).cell? ⟨C, 1, none⟩ = some (.int .i64 (nn f)) := keep HW.out s1
  have s2' : (((w.alloc (.cells #[.int .i64 (kd p), .int .i64 (nn p), .slice ap lp cp] 39)).alloc (.cells #[.int .i64 (kd q), .int .i64 (nn q), .slice aq lq cq] 39)).alloc (.cells #[.int .i64 0, .int .i64 0, .slice none 0 0] 39)).cell? ⟨C, 2, none⟩ = some (.slice af lf cf) := keep HW.out s2
  go_enter Try.func43, Try.ntmps43
  go_wp2_with fail
  refine (new_impl 7 _ _ _ _).mono ?_
  rintro e w9 ⟨rfl, hb9⟩
  have z0 : w9.cell? ⟨w.heap.size + 1 + 1, 0, none⟩ = some (.int .i64 0) := keep hb9 (by simp [go_sem])
  have z1 : w9.cell? ⟨w.heap.size + 1 + 1, 1, none⟩ = some (.int .i64 0) := keep hb9 (by simp [go_sem])
  have z2 : w9.cell? ⟨w.heap.size + 1 + 1, 2, none⟩ = some (.slice none 0 0) := keep hb9 (by simp [go_sem])
  have y0 : w9.frozen? ⟨w.heap.size + 1 + 1, 0, none⟩ = false := (hb9.frozen (p := ⟨w.heap.size + 1 + 1, 0, none⟩) (by simp)).trans (by simp [go_sem])
  have y1 : w9.frozen? ⟨w.heap.size + 1 + 1, 1, none⟩ = false := (hb9.frozen (p := ⟨w.heap.size + 1 + 1, 1, none⟩) (by simp)).trans (by simp [go_sem])
  have y2 : w9.frozen? ⟨w.heap.size + 1 + 1, 2, none⟩ = false := (hb9.frozen (p := ⟨w.heap.size + 1 + 1, 2, none⟩) (by simp)).trans (by simp [go_sem])
  have HB9 := hid ((HW.out.trans (show Below w.heap.size _ _ from (by repeat (first | exact Below.refl _ _ | assumption | refine Below.drew ?_ | refine Below.alloc ?_ (by first | exact Nat.le_refl _ | omega | (simp; done) | (simp; omega)) _ | refine Below.setCell ?_ (by first | exact Nat.le_refl _ | omega | (simp; done) | (simp; omega)) _)))).trans (hb9.mono (by simp; omega)))
  have HR9 := hid (nz_below HR.out hb9)
  have HR8 := hid (nz_set3 HR9.out (R := w.heap.size + 1 + 1) (by omega) z0 (.int .i64 7) (.int .i64 0) (.slice (some ⟨w.heap.size + 1 + 1 + 1, 0, none⟩) 3 3))
  have HB8 := hid (below_set3 HB9.out (R := w.heap.size + 1 + 1) (by omega) (.int .i64 7) (.int .i64 0) (.slice (some ⟨w.heap.size + 1 + 1 + 1, 0, none⟩) 3 3))
  clear hb9
  go_wp2
  refine bodyPost_ret (v := .agg #[.int .i64 7, .int .i64 0, .slice (some ⟨w.heap.size + 1 + 1 + 1, 0, none⟩) 3 3]) (by simp [results, Try.results43, go_sem, z0, z1, z2]) rfl ⟨_, rfl, ⟨_, _, _, HR8.out.imp fun b hb => hb.imp And.left And.left, rfl⟩, HB8.out⟩
end Go.Proofs.Ytikdadpapdkfiaa.bitSteps
