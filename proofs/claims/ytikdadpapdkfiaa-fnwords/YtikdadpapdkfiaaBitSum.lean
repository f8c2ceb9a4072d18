/- The program's sum of two rows of bits: the function literal that it hands on, with the carry that it keeps; conditions: none. -/
import Derived.Test.YtikdadpapdkfiaaBitPair
namespace Go.Proofs.Ytikdadpapdkfiaa.bitSum
open Go.RowKit Go.Deep Go base trees built heldStore drawn ownTree ownEx wordTrees bitRows bitPart bitSteps bitPair
set_option linter.unusedVariables false

def difT (p q : T) : T := ndT 6 2 (two p q)
def bitT (s p q : T) : T := ndT 6 2 (two (difT p q) s)
def carT (s p q : T) : T := ndT 5 2 (two (ndT 4 2 (two p q)) (ndT 4 2 (two s (difT p q))))
set_option maxHeartbeats 3200000 in
set_option maxRecDepth 8000 in
theorem sum_step (Q : Nat → Prop) (C D : Nat) (p q s : T) (ap aq aS : Option Addr) (lp lq lS cp cq cS : Nat) (w : World) (hp : Rd Q 1048576 w D p ap lp) (hq : Rd Q 1048576 w D q aq lq) (hs : Rd Q 1048576 w D s aS lS) (hQ : ∀ b, Q b → b ≠ C) (kp : kd p ≠ 0) (ks : kd s ≠ 0)
    (s0 : w.cell? ⟨C, 0, none⟩ = some (.int .i64 (kd s))) (s1 : w.cell? ⟨C, 1, none⟩ = some (.int .i64 (nn s))) (s2 : w.cell? ⟨C, 2, none⟩ = some (.slice aS lS cS)) (g0 : w.frozen? ⟨C, 0, none⟩ = false) (g1 : w.frozen? ⟨C, 1, none⟩ = false) (g2 : w.frozen? ⟨C, 2, none⟩ = false) :
    Calls Try.prog 56 #[.agg #[.int .i64 (kd p), .int .i64 (nn p), .slice ap lp cp], .agg #[.int .i64 (kd q), .int .i64 (nn q), .slice aq lq cq], .pointer (some ⟨C, 0, none⟩)] w fun e' w' => ∃ v, e' = .returned v ∧ XV (fun b => (Q b ∨ w.heap.size ≤ b)) w' (D + 2) (bitT s p q) v ∧ Oth C w w' ∧
      ∃ a l c, w'.cell? ⟨C, 0, none⟩ = some (.int .i64 (kd (carT s p q))) ∧ w'.cell? ⟨C, 1, none⟩ = some (.int .i64 (nn (carT s p q))) ∧ w'.cell? ⟨C, 2, none⟩ = some (.slice a l c) ∧ Rd (fun b => (Q b ∨ w.heap.size ≤ b)) 1048576 w' (D + 3) (carT s p q) a l ∧ (w'.frozen? ⟨C, 0, none⟩ = false ∧ w'.frozen? ⟨C, 1, none⟩ = false ∧ w'.frozen? ⟨C, 2, none⟩ = false) := by
  have HP := hid (rd_old hp)
  have HQ := hid (rd_old hq)
  have HS := hid (rd_old hs)
  have hC := World.block_lt_of_cell? _ _ s0
  simp only at hC
  clear hp hq hs
  have HW : Hid (Below w.heap.size w ((((w.alloc (.cells #[.int .i64 (kd p), .int .i64 (nn p), .slice ap lp cp] 39)).alloc (.cells #[.int .i64 (kd q), .int .i64 (nn q), .slice aq lq cq] 39)).alloc (.cells #[.int .i64 0, .int .i64 0, .slice none 0 0] 39)).alloc (.cells #[.int .i64 (kd p), .int .i64 (nn p), .slice ap lp cp, .int .i64 (kd q), .int .i64 (nn q), .slice aq lq cq] 39))) := (by repeat (first | exact Below.refl _ _ | assumption | refine Below.drew ?_ | refine Below.alloc ?_ (by first | exact Nat.le_refl _ | omega | (simp; done) | (simp; omega)) _ | refine Below.setCell ?_ (by first | exact Nat.le_refl _ | omega | (simp; done) | (simp; omega)) _))
  have hz : (((w.alloc (.cells #[.int .i64 (kd p), .int .i64 (nn p), .slice ap lp cp] 39)).alloc (.cells #[.int .i64 (kd q), .int .i64 (nn q), .slice aq lq cq] 39)).alloc (.cells #[.int .i64 0, .int .i64 0, .slice none 0 0] 39)).heap.size = w.heap.size + 1 + 1 + 1 := by simp
  have HR := hid (row2 (q := Q) (B := w.heap.size) (w := (((w.alloc (.cells #[.int .i64 (kd p), .int .i64 (nn p), .slice ap lp cp] 39)).alloc (.cells #[.int .i64 (kd q), .int .i64 (nn q), .slice aq lq cq] 39)).alloc (.cells #[.int .i64 0, .int .i64 0, .slice none 0 0] 39))) (D := D) (cx := cp) (cy := cq) 6 (by rw [hz]; omega) kp (nz_base HP.out (by repeat (first | exact Below.refl _ _ | assumption | refine Below.drew ?_ | refine Below.alloc ?_ (by first | exact Nat.le_refl _ | omega | (simp; done) | (simp; omega)) _ | refine Below.setCell ?_ (by first | exact Nat.le_refl _ | omega | (simp; done) | (simp; omega)) _))) (nz_base HQ.out (by repeat (first | exact Below.refl _ _ | assumption | refine Below.drew ?_ | refine Below.alloc ?_ (by first | exact Nat.le_refl _ | omega | (simp; done) | (simp; omega)) _ | refine Below.setCell ?_ (by first | exact Nat.le_refl _ | omega | (simp; done) | (simp; omega)) _))))
  rw [hz] at HR
  clear hz
  go_enter Try.func56, Try.ntmps56
  go_wp2_with fail
  refine (new_impl 6 _ _ _ _).mono ?_
  rintro e w1 ⟨rfl, hb1⟩
  have p0 : w1.cell? ⟨w.heap.size, 0, none⟩ = some (.int .i64 (kd p)) := keep hb1 (by simp [go_sem])
  have p1 : w1.cell? ⟨w.heap.size, 1, none⟩ = some (.int .i64 (nn p)) := keep hb1 (by simp [go_sem])
  have p2 : w1.cell? ⟨w.heap.size, 2, none⟩ = some (.slice ap lp cp) := keep hb1 (by simp [go_sem])
  have q0 : w1.cell? ⟨w.heap.size + 1, 0, none⟩ = some (.int .i64 (kd q)) := keep hb1 (by simp [go_sem])
  have q1 : w1.cell? ⟨w.heap.size + 1, 1, none⟩ = some (.int .i64 (nn q)) := keep hb1 (by simp [go_sem])
  have q2 : w1.cell? ⟨w.heap.size + 1, 2, none⟩ = some (.slice aq lq cq) := keep hb1 (by simp [go_sem])
  have z0 : w1.cell? ⟨w.heap.size + 1 + 1, 0, none⟩ = some (.int .i64 0) := keep hb1 (by simp [go_sem])
  have z1 : w1.cell? ⟨w.heap.size + 1 + 1, 1, none⟩ = some (.int .i64 0) := keep hb1 (by simp [go_sem])
  have z2 : w1.cell? ⟨w.heap.size + 1 + 1, 2, none⟩ = some (.slice none 0 0) := keep hb1 (by simp [go_sem])
  have y0 : w1.frozen? ⟨w.heap.size + 1 + 1, 0, none⟩ = false := (hb1.frozen (p := ⟨w.heap.size + 1 + 1, 0, none⟩) (by simp)).trans (by simp [go_sem])
  have y1 : w1.frozen? ⟨w.heap.size + 1 + 1, 1, none⟩ = false := (hb1.frozen (p := ⟨w.heap.size + 1 + 1, 1, none⟩) (by simp)).trans (by simp [go_sem])
  have y2 : w1.frozen? ⟨w.heap.size + 1 + 1, 2, none⟩ = false := (hb1.frozen (p := ⟨w.heap.size + 1 + 1, 2, none⟩) (by simp)).trans (by simp [go_sem])
  have HB1 := hid (HW.out.trans (hb1.mono (by simp; omega)))
  have hs1 : w.heap.size + 1 + 1 + 1 < w1.heap.size := Nat.lt_of_lt_of_le (by simp) hb1.size
  have HR1 := hid (nz_below HR.out hb1)
  replace s0 : w1.cell? ⟨C, 0, none⟩ = some (.int .i64 (kd s)) := keep HB1.out s0
  replace s1 : w1.cell? ⟨C, 1, none⟩ = some (.int .i64 (nn s)) := keep HB1.out s1
  replace s2 : w1.cell? ⟨C, 2, none⟩ = some (.slice aS lS cS) := keep HB1.out s2
  replace g0 : w1.frozen? ⟨C, 0, none⟩ = false := (HB1.out.frozen (p := ⟨C, 0, none⟩) hC).trans g0
  replace g1 : w1.frozen? ⟨C, 1, none⟩ = false := (HB1.out.frozen (p := ⟨C, 1, none⟩) hC).trans g1
  replace g2 : w1.frozen? ⟨C, 2, none⟩ = false := (HB1.out.frozen (p := ⟨C, 2, none⟩) hC).trans g2
  clear hb1
  have HA5 : Hid (Below w1.heap.size w1 (w1.alloc (.cells #[.int .i64 6, .int .i64 0, .slice (some ⟨w.heap.size + 1 + 1 + 1, 0, none⟩) 2 2] 39))) := (by repeat (first | exact Below.refl _ _ | assumption | refine Below.drew ?_ | refine Below.alloc ?_ (by first | exact Nat.le_refl _ | omega | (simp; done) | (simp; omega)) _ | refine Below.setCell ?_ (by first | exact Nat.le_refl _ | omega | (simp; done) | (simp; omega)) _))
  have t0 : (w1.alloc (.cells #[.int .i64 6, .int .i64 0, .slice (some ⟨w.heap.size + 1 + 1 + 1, 0, none⟩) 2 2] 39)).cell? ⟨C, 0, none⟩ = some (.int .i64 (kd s)) := keep HA5.out s0
  have t1 : (w1.alloc (.cells #[.int .i64 6, .int .i64 0, .slice (some ⟨w.heap.size + 1 + 1 + 1, 0, none⟩) 2 2] 39)).cell? ⟨C, 1, none⟩ = some (.int .i64 (nn s)) := keep HA5.out s1
  have t2 : (w1.alloc (.cells #[.int .i64 6, .int .i64 0, .slice (some ⟨w.heap.size + 1 + 1 + 1, 0, none⟩) 2 2] 39)).cell? ⟨C, 2, none⟩ = some (.slice aS lS cS) := keep HA5.out s2
  have HR5 := hid (nz_below HR1.out HA5.out)
  have hz5 : (w1.alloc (.cells #[.int .i64 6, .int .i64 0, .slice (some ⟨w.heap.size + 1 + 1 + 1, 0, none⟩) 2 2] 39)).heap.size = w1.heap.size + 1 := by simp
  have HR6 := hid (row2 (q := Q) (B := w.heap.size) (w := (w1.alloc (.cells #[.int .i64 6, .int .i64 0, .slice (some ⟨w.heap.size + 1 + 1 + 1, 0, none⟩) 2 2] 39))) (D := D + 1) (x := difT p q) (ax := some ⟨w.heap.size + 1 + 1 + 1, 0, none⟩) (lx := 2) (cx := 2) (cy := cS) 6 (by rw [hz5]; omega) (nd_kind (by decide)) HR5.out ((nz_below (nz_base HS.out HB1.out) HA5.out).more (by omega)))
  rw [hz5] at HR6
  clear hz5
  go_wp2_with fail
  refine (new_impl 6 _ _ _ _).mono ?_
  rintro e w2 ⟨rfl, hb2⟩
  have HB2 : Hid (Below w1.heap.size w1 w2) := (show Below w1.heap.size w1 ((w1.alloc (.cells #[.int .i64 6, .int .i64 0, .slice (some ⟨w.heap.size + 1 + 1 + 1, 0, none⟩) 2 2] 39)).alloc (.cells #[.int .i64 6, .int .i64 0, .slice (some ⟨w.heap.size + 1 + 1 + 1, 0, none⟩) 2 2, .int .i64 (kd s), .int .i64 (nn s), .slice aS lS cS] 39)) from (by repeat (first | exact Below.refl _ _ | assumption | refine Below.drew ?_ | refine Below.alloc ?_ (by first | exact Nat.le_refl _ | omega | (simp; done) | (simp; omega)) _ | refine Below.setCell ?_ (by first | exact Nat.le_refl _ | omega | (simp; done) | (simp; omega)) _))).trans (hb2.mono (by simp; omega))
  have hs2 : w1.heap.size + 1 < w2.heap.size := Nat.lt_of_lt_of_le (by simp) hb2.size
  have HR2 := hid (nz_below HR6.out hb2)
  have d0 : w2.cell? ⟨w1.heap.size, 0, none⟩ = some (.int .i64 6) := keep hb2 (by simp [go_sem])
  have d1 : w2.cell? ⟨w1.heap.size, 1, none⟩ = some (.int .i64 0) := keep hb2 (by simp [go_sem])
  have d2 : w2.cell? ⟨w1.heap.size, 2, none⟩ = some (.slice (some ⟨w.heap.size + 1 + 1 + 1, 0, none⟩) 2 2) := keep hb2 (by simp [go_sem])
  replace p0 : w2.cell? ⟨w.heap.size, 0, none⟩ = some (.int .i64 (kd p)) := keep HB2.out p0
  replace p1 : w2.cell? ⟨w.heap.size, 1, none⟩ = some (.int .i64 (nn p)) := keep HB2.out p1
  replace p2 : w2.cell? ⟨w.heap.size, 2, none⟩ = some (.slice ap lp cp) := keep HB2.out p2
  replace q0 : w2.cell? ⟨w.heap.size + 1, 0, none⟩ = some (.int .i64 (kd q)) := keep HB2.out q0
  replace q1 : w2.cell? ⟨w.heap.size + 1, 1, none⟩ = some (.int .i64 (nn q)) := keep HB2.out q1
  replace q2 : w2.cell? ⟨w.heap.size + 1, 2, none⟩ = some (.slice aq lq cq) := keep HB2.out q2
  replace z0 : w2.cell? ⟨w.heap.size + 1 + 1, 0, none⟩ = some (.int .i64 0) := keep HB2.out z0
  replace z1 : w2.cell? ⟨w.heap.size + 1 + 1, 1, none⟩ = some (.int .i64 0) := keep HB2.out z1
  replace z2 : w2.cell? ⟨w.heap.size + 1 + 1, 2, none⟩ = some (.slice none 0 0) := keep HB2.out z2
  replace s0 : w2.cell? ⟨C, 0, none⟩ = some (.int .i64 (kd s)) := keep HB2.out s0
  replace s1 : w2.cell? ⟨C, 1, none⟩ = some (.int .i64 (nn s)) := keep HB2.out s1
  replace s2 : w2.cell? ⟨C, 2, none⟩ = some (.slice aS lS cS) := keep HB2.out s2
  replace y0 : w2.frozen? ⟨w.heap.size + 1 + 1, 0, none⟩ = false := (HB2.out.frozen (p := ⟨w.heap.size + 1 + 1, 0, none⟩) (by dsimp only; omega)).trans y0
  replace y1 : w2.frozen? ⟨w.heap.size + 1 + 1, 1, none⟩ = false := (HB2.out.frozen (p := ⟨w.heap.size + 1 + 1, 1, none⟩) (by dsimp only; omega)).trans y1
  replace y2 : w2.frozen? ⟨w.heap.size + 1 + 1, 2, none⟩ = false := (HB2.out.frozen (p := ⟨w.heap.size + 1 + 1, 2, none⟩) (by dsimp only; omega)).trans y2
  replace g0 : w2.frozen? ⟨C, 0, none⟩ = false := (HB2.out.frozen (p := ⟨C, 0, none⟩) (by dsimp only; omega)).trans g0
  replace g1 : w2.frozen? ⟨C, 1, none⟩ = false := (HB2.out.frozen (p := ⟨C, 1, none⟩) (by dsimp only; omega)).trans g1
  replace g2 : w2.frozen? ⟨C, 2, none⟩ = false := (HB2.out.frozen (p := ⟨C, 2, none⟩) (by dsimp only; omega)).trans g2
  clear t0 t1 t2
  have HA7 : Hid (Below w2.heap.size w2 (w2.alloc (.cells #[.int .i64 6, .int .i64 0, .slice (some ⟨w1.heap.size + 1, 0, none⟩) 2 2] 39))) := (by repeat (first | exact Below.refl _ _ | assumption | refine Below.drew ?_ | refine Below.alloc ?_ (by first | exact Nat.le_refl _ | omega | (simp; done) | (simp; omega)) _ | refine Below.setCell ?_ (by first | exact Nat.le_refl _ | omega | (simp; done) | (simp; omega)) _))
  clear hb2
  go_wp2_with fail
  replace p0 : (w2.alloc (.cells #[.int .i64 6, .int .i64 0, .slice (some ⟨w1.heap.size + 1, 0, none⟩) 2 2] 39)).cell? ⟨w.heap.size, 0, none⟩ = some (.int .i64 (kd p)) := keep HA7.out p0
  replace p1 : (w2.alloc (.cells #[.int .i64 6, .int .i64 0, .slice (some ⟨w1.heap.size + 1, 0, none⟩) 2 2] 39)).cell? ⟨w.heap.size, 1, none⟩ = some (.int .i64 (nn p)) := keep HA7.out p1
  replace p2 : (w2.alloc (.cells #[.int .i64 6, .int .i64 0, .slice (some ⟨w1.heap.size + 1, 0, none⟩) 2 2] 39)).cell? ⟨w.heap.size, 2, none⟩ = some (.slice ap lp cp) := keep HA7.out p2
  replace q0 : (w2.alloc (.cells #[.int .i64 6, .int .i64 0, .slice (some ⟨w1.heap.size + 1, 0, none⟩) 2 2] 39)).cell? ⟨w.heap.size + 1, 0, none⟩ = some (.int .i64 (kd q)) := keep HA7.out q0
  replace q1 : (w2.alloc (.cells #[.int .i64 6, .int .i64 0, .slice (some ⟨w1.heap.size + 1, 0, none⟩) 2 2] 39)).cell? ⟨w.heap.size + 1, 1, none⟩ = some (.int .i64 (nn q)) := keep HA7.out q1
  replace q2 : (w2.alloc (.cells #[.int .i64 6, .int .i64 0, .slice (some ⟨w1.heap.size + 1, 0, none⟩) 2 2] 39)).cell? ⟨w.heap.size + 1, 2, none⟩ = some (.slice aq lq cq) := keep HA7.out q2
  replace z0 : (w2.alloc (.cells #[.int .i64 6, .int .i64 0, .slice (some ⟨w1.heap.size + 1, 0, none⟩) 2 2] 39)).cell? ⟨w.heap.size + 1 + 1, 0, none⟩ = some (.int .i64 0) := keep HA7.out z0
  replace z1 : (w2.alloc (.cells #[.int .i64 6, .int .i64 0, .slice (some ⟨w1.heap.size + 1, 0, none⟩) 2 2] 39)).cell? ⟨w.heap.size + 1 + 1, 1, none⟩ = some (.int .i64 0) := keep HA7.out z1
  replace z2 : (w2.alloc (.cells #[.int .i64 6, .int .i64 0, .slice (some ⟨w1.heap.size + 1, 0, none⟩) 2 2] 39)).cell? ⟨w.heap.size + 1 + 1, 2, none⟩ = some (.slice none 0 0) := keep HA7.out z2
  replace s0 : (w2.alloc (.cells #[.int .i64 6, .int .i64 0, .slice (some ⟨w1.heap.size + 1, 0, none⟩) 2 2] 39)).cell? ⟨C, 0, none⟩ = some (.int .i64 (kd s)) := keep HA7.out s0
  replace s1 : (w2.alloc (.cells #[.int .i64 6, .int .i64 0, .slice (some ⟨w1.heap.size + 1, 0, none⟩) 2 2] 39)).cell? ⟨C, 1, none⟩ = some (.int .i64 (nn s)) := keep HA7.out s1
  replace s2 : (w2.alloc (.cells #[.int .i64 6, .int .i64 0, .slice (some ⟨w1.heap.size + 1, 0, none⟩) 2 2] 39)).cell? ⟨C, 2, none⟩ = some (.slice aS lS cS) := keep HA7.out s2
  replace d0 : (w2.alloc (.cells #[.int .i64 6, .int .i64 0, .slice (some ⟨w1.heap.size + 1, 0, none⟩) 2 2] 39)).cell? ⟨w1.heap.size, 0, none⟩ = some (.int .i64 6) := keep HA7.out d0
  replace d1 : (w2.alloc (.cells #[.int .i64 6, .int .i64 0, .slice (some ⟨w1.heap.size + 1, 0, none⟩) 2 2] 39)).cell? ⟨w1.heap.size, 1, none⟩ = some (.int .i64 0) := keep HA7.out d1
  replace d2 : (w2.alloc (.cells #[.int .i64 6, .int .i64 0, .slice (some ⟨w1.heap.size + 1, 0, none⟩) 2 2] 39)).cell? ⟨w1.heap.size, 2, none⟩ = some (.slice (some ⟨w.heap.size + 1 + 1 + 1, 0, none⟩) 2 2) := keep HA7.out d2
  have b0 : (w2.alloc (.cells #[.int .i64 6, .int .i64 0, .slice (some ⟨w1.heap.size + 1, 0, none⟩) 2 2] 39)).cell? ⟨w2.heap.size, 0, none⟩ = some (.int .i64 6) := by simp [go_sem]
  have b1 : (w2.alloc (.cells #[.int .i64 6, .int .i64 0, .slice (some ⟨w1.heap.size + 1, 0, none⟩) 2 2] 39)).cell? ⟨w2.heap.size, 1, none⟩ = some (.int .i64 0) := by simp [go_sem]
  have b2 : (w2.alloc (.cells #[.int .i64 6, .int .i64 0, .slice (some ⟨w1.heap.size + 1, 0, none⟩) 2 2] 39)).cell? ⟨w2.heap.size, 2, none⟩ = some (.slice (some ⟨w1.heap.size + 1, 0, none⟩) 2 2) := by simp [go_sem]
  replace y0 : (w2.alloc (.cells #[.int .i64 6, .int .i64 0, .slice (some ⟨w1.heap.size + 1, 0, none⟩) 2 2] 39)).frozen? ⟨w.heap.size + 1 + 1, 0, none⟩ = false := (HA7.out.frozen (p := ⟨w.heap.size + 1 + 1, 0, none⟩) (by dsimp only; omega)).trans y0
  replace y1 : (w2.alloc (.cells #[.int .i64 6, .int .i64 0, .slice (some ⟨w1.heap.size + 1, 0, none⟩) 2 2] 39)).frozen? ⟨w.heap.size + 1 + 1, 1, none⟩ = false := (HA7.out.frozen (p := ⟨w.heap.size + 1 + 1, 1, none⟩) (by dsimp only; omega)).trans y1
  replace y2 : (w2.alloc (.cells #[.int .i64 6, .int .i64 0, .slice (some ⟨w1.heap.size + 1, 0, none⟩) 2 2] 39)).frozen? ⟨w.heap.size + 1 + 1, 2, none⟩ = false := (HA7.out.frozen (p := ⟨w.heap.size + 1 + 1, 2, none⟩) (by dsimp only; omega)).trans y2
  replace g0 : (w2.alloc (.cells #[.int .i64 6, .int .i64 0, .slice (some ⟨w1.heap.size + 1, 0, none⟩) 2 2] 39)).frozen? ⟨C, 0, none⟩ = false := (HA7.out.frozen (p := ⟨C, 0, none⟩) (by dsimp only; omega)).trans g0
  replace g1 : (w2.alloc (.cells #[.int .i64 6, .int .i64 0, .slice (some ⟨w1.heap.size + 1, 0, none⟩) 2 2] 39)).frozen? ⟨C, 1, none⟩ = false := (HA7.out.frozen (p := ⟨C, 1, none⟩) (by dsimp only; omega)).trans g1
  replace g2 : (w2.alloc (.cells #[.int .i64 6, .int .i64 0, .slice (some ⟨w1.heap.size + 1, 0, none⟩) 2 2] 39)).frozen? ⟨C, 2, none⟩ = false := (HA7.out.frozen (p := ⟨C, 2, none⟩) (by dsimp only; omega)).trans g2
  have HR7 := hid (nz_below HR2.out HA7.out)
  have HB7 := hid (HB1.out.trans ((HB2.out.trans (HA7.out.mono HB2.out.size)).mono HB1.out.size))
  have HD7 := hid (nz_below HR1.out (HB2.out.trans (HA7.out.mono HB2.out.size)))
  have hz7 : (w2.alloc (.cells #[.int .i64 6, .int .i64 0, .slice (some ⟨w1.heap.size + 1, 0, none⟩) 2 2] 39)).heap.size = w2.heap.size + 1 := by simp
  generalize (w2.alloc (.cells #[.int .i64 6, .int .i64 0, .slice (some ⟨w1.heap.size + 1, 0, none⟩) 2 2] 39)) = W8 at *
  have HK : Hid (∀ w8 : World, Below W8.heap.size W8 w8 → w8.cell? ⟨w.heap.size, 0, none⟩ = some (.int .i64 (kd p)) ∧ w8.cell? ⟨w.heap.size, 1, none⟩ = some (.int .i64 (nn p)) ∧ w8.cell? ⟨w.heap.size, 2, none⟩ = some (.slice ap lp cp) ∧ w8.cell? ⟨w.heap.size + 1, 0, none⟩ = some (.int .i64 (kd q)) ∧ w8.cell? ⟨w.heap.size + 1, 1, none⟩ = some (.int .i64 (nn q)) ∧ w8.cell? ⟨w.heap.size + 1, 2, none⟩ = some (.slice aq lq cq) ∧ w8.cell? ⟨w.heap.size + 1 + 1, 0, none⟩ = some (.int .i64 0) ∧ w8.cell? ⟨w.heap.size + 1 + 1, 1, none⟩ = some (.int .i64 0) ∧ w8.cell? ⟨w.heap.size + 1 + 1, 2, none⟩ = some (.slice none 0 0) ∧ w8.cell? ⟨C, 0, none⟩ = some (.int .i64 (kd s)) ∧ w8.cell? ⟨C, 1, none⟩ = some (.int .i64 (nn s)) ∧ w8.cell? ⟨C, 2, none⟩ = some (.slice aS lS cS) ∧ w8.cell? ⟨w1.heap.size, 0, none⟩ = some (.int .i64 6) ∧ w8.cell? ⟨w1.heap.size, 1, none⟩ = some (.int .i64 0) ∧ w8.cell? ⟨w1.heap.size, 2, none⟩ = some (.slice (some ⟨w.heap.size + 1 + 1 + 1, 0, none⟩) 2 2) ∧ w8.cell? ⟨w2.heap.size, 0, none⟩ = some (.int .i64 6) ∧ w8.cell? ⟨w2.heap.size, 1, none⟩ = some (.int .i64 0) ∧ w8.cell? ⟨w2.heap.size, 2, none⟩ = some (.slice (some ⟨w1.heap.size + 1, 0, none⟩) 2 2) ∧ w8.frozen? ⟨w.heap.size + 1 + 1, 0, none⟩ = false ∧ w8.frozen? ⟨w.heap.size + 1 + 1, 1, none⟩ = false ∧ w8.frozen? ⟨w.heap.size + 1 + 1, 2, none⟩ = false ∧ w8.frozen? ⟨C, 0, none⟩ = false ∧ w8.frozen? ⟨C, 1, none⟩ = false ∧ w8.frozen? ⟨C, 2, none⟩ = false) :=
    fun w8 h => ⟨keep h p0, keep h p1, keep h p2, keep h q0, keep h q1, keep h q2, keep h z0, keep h z1, keep h z2, keep h s0, keep h s1, keep h s2, keep h d0, keep h d1, keep h d2, keep h b0, keep h b1, keep h b2, (h.frozen (p := ⟨w.heap.size + 1 + 1, 0, none⟩) (by dsimp only; omega)).trans y0, (h.frozen (p := ⟨w.heap.size + 1 + 1, 1, none⟩) (by dsimp only; omega)).trans y1, (h.frozen (p := ⟨w.heap.size + 1 + 1, 2, none⟩) (by dsimp only; omega)).trans y2, (h.frozen (p := ⟨C, 0, none⟩) (by dsimp only; omega)).trans g0, (h.frozen (p := ⟨C, 1, none⟩) (by dsimp only; omega)).trans g1, (h.frozen (p := ⟨C, 2, none⟩) (by dsimp only; omega)).trans g2⟩
  have HSZ : Hid (w.heap.size ≤ W8.heap.size) := by show _ ≤ _; omega
  clear p0 p1 p2 q0 q1 q2 z0 z1 z2 s0 s1 s2 d0 d1 d2 b0 b1 b2 y0 y1 y2 g0 g1 g2
  refine region_below (fun u => ⟨#[.agg #[.int .i64 (kd p), .int .i64 (nn p), .slice ap lp cp], .agg #[.int .i64 (kd q), .int .i64 (nn q), .slice aq lq cq], .pointer (some ⟨C, 0, none⟩), .pointer (some ⟨w.heap.size, 0, none⟩), .pointer (some ⟨w.heap.size + 1, 0, none⟩), .pointer (some ⟨w.heap.size + 1 + 1, 0, none⟩), .pointer (some ⟨w1.heap.size, 0, none⟩), .pointer (some ⟨w2.heap.size, 0, none⟩), .agg #[.int .i64 (kd p), .int .i64 (nn p), .slice ap lp cp], .agg #[.int .i64 (kd q), .int .i64 (nn q), .slice aq lq cq], .slice (some ⟨w.heap.size + 1 + 1 + 1, 0, none⟩) 2 2, .agg #[.int .i64 6, .int .i64 0, .slice (some ⟨w.heap.size + 1 + 1 + 1, 0, none⟩) 2 2], .agg #[.int .i64 6, .int .i64 0, .slice (some ⟨w.heap.size + 1 + 1 + 1, 0, none⟩) 2 2], .agg #[.int .i64 (kd s), .int .i64 (nn s), .slice aS lS cS], .slice (some ⟨w1.heap.size + 1, 0, none⟩) 2 2, .agg #[.int .i64 6, .int .i64 0, .slice (some ⟨w1.heap.size + 1, 0, none⟩) 2 2], u 16, u 17, u 18, u 19, u 20, u 21, u 22, u 23, u 24, u 25, undef], []⟩) (fun i => [16, 17, 18, 19, 20, 21, 22, 23, 24, 25].getD i 0) (fun i v w8 => match i with | 0 => TV Q w.heap.size w8 (D) (p) v | 1 => TV Q w.heap.size w8 (D) (q) v | 2 => RV Q w.heap.size w8 (D + 1) (ndT 4 2 (two (p) (q))) 2 v | 3 => TV Q w.heap.size w8 (D + 1) (ndT 4 2 (two (p) (q))) v | 4 => TV Q w.heap.size w8 (D) (s) v | 5 => TV Q w.heap.size w8 (D + 1) (difT p q) v | 6 => RV Q w.heap.size w8 (D + 1 + 1) (ndT 4 2 (two (s) (difT p q))) 2 v | 7 => TV Q w.heap.size w8 (D + 1 + 1) (ndT 4 2 (two (s) (difT p q))) v | 8 => RV Q w.heap.size w8 (D + 1 + 1 + 1) (ndT 5 2 (two (ndT 4 2 (two (p) (q))) (ndT 4 2 (two (s) (difT p q))))) 2 v | 9 => TV Q w.heap.size w8 (D + 1 + 1 + 1) (ndT 5 2 (two (ndT 4 2 (two (p) (q))) (ndT 4 2 (two (s) (difT p q))))) v | _ => True) W8 10 (fun k => match k with | 16 => undef | 17 => undef | 18 => undef | 19 => undef | 20 => undef | 21 => undef | 22 => undef | 23 => undef | 24 => undef | 25 => undef | _ => undef) (by rfl) (by kernel_rfl) (by rfl) ⟨by kernel_rfl, by kernel_rfl, by kernel_rfl, by decide⟩ (by kernel_rfl) (Below.refl _ _) ?hput ?hinj ?stable ?step ?last
  case hput =>
    intro i hi u v
    match i, hi with
    | 0, _ => rfl
    | 1, _ => rfl
    | 2, _ => rfl
    | 3, _ => rfl
    | 4, _ => rfl
    | 5, _ => rfl
    | 6, _ => rfl
    | 7, _ => rfl
    | 8, _ => rfl
    | 9, _ => rfl
    | i + 10, hi => exact absurd hi (by omega)
  case hinj =>
    intro i j hi hj h
    exact slots_inj [16, 17, 18, 19, 20, 21, 22, 23, 24, 25] (by decide) hi hj h
  case stable =>
    intro i v w8 w9 hb h
    match i, h with
    | 0, h => exact h.below hb
    | 1, h => exact h.below hb
    | 2, h => exact h.below hb
    | 3, h => exact h.below hb
    | 4, h => exact h.below hb
    | 5, h => exact h.below hb
    | 6, h => exact h.below hb
    | 7, h => exact h.below hb
    | 8, h => exact h.below hb
    | 9, h => exact h.below hb
    | _ + 10, h => trivial
  case step =>
    intro i hi u w8 S8 hdep
    match i, hi with
    | 0, _ =>
      clear hdep
      refine ⟨_, rfl, fun K' hK => ?_⟩
      obtain ⟨p0, p1, p2, q0, q1, q2, z0, z1, z2, s0, s1, s2, d0, d1, d2, b0, b1, b2, y0, y1, y2, g0, g1, g2⟩ := HK.out w8 S8
      go_simp
      exact hK.out _ _ (Below.refl _ _) ⟨ap, lp, cp, rfl, nz_below (nz_base HP.out HB7.out) S8⟩
    | 1, _ =>
      clear hdep
      refine ⟨_, rfl, fun K' hK => ?_⟩
      obtain ⟨p0, p1, p2, q0, q1, q2, z0, z1, z2, s0, s1, s2, d0, d1, d2, b0, b1, b2, y0, y1, y2, g0, g1, g2⟩ := HK.out w8 S8
      go_simp
      exact hK.out _ _ (Below.refl _ _) ⟨aq, lq, cq, rfl, nz_below (nz_base HQ.out HB7.out) S8⟩
    | 2, _ =>
      have h0 : TV Q w.heap.size w8 (D) (p) (u 16) := hdep 0 (by kernel_rfl)
      have h1 : TV Q w.heap.size w8 (D) (q) (u 17) := hdep 1 (by kernel_rfl)
      clear hdep
      refine ⟨_, rfl, fun K' hK => ?_⟩
      obtain ⟨a0, l0, c0, e0, r0⟩ := h0
      obtain ⟨a1, l1, c1, e1, r1⟩ := h1
      simp only [e0, e1] at hK ⊢
      go_simp
      exact hK.out _ _ (by repeat (first | exact Below.refl _ _ | assumption | refine Below.drew ?_ | refine Below.alloc ?_ (by first | exact Nat.le_refl _ | omega | (simp; done) | (simp; omega)) _ | refine Below.setCell ?_ (by first | exact Nat.le_refl _ | omega | (simp; done) | (simp; omega)) _)) ⟨w8.heap.size, rfl, row2 4 (Nat.le_trans HSZ.out S8.size) kp (r0.more (by omega)) (r1.more (by omega))⟩
    | 3, _ =>
      have h2 : RV Q w.heap.size w8 (D + 1) (ndT 4 2 (two (p) (q))) 2 (u 18) := hdep 2 (by kernel_rfl)
      clear hdep
      refine ⟨_, rfl, fun K' hK => ?_⟩
      obtain ⟨N2, e2, r2⟩ := h2
      simp only [e2] at hK ⊢
      go_simp
      refine (new_impl 4 _ _ _ _).mono ?_
      rintro e w9 ⟨rfl, hb9⟩
      exact hK.out _ _ hb9 ⟨_, _, _, rfl, nz_below r2 hb9⟩
    | 4, _ =>
      clear hdep
      refine ⟨_, rfl, fun K' hK => ?_⟩
      obtain ⟨p0, p1, p2, q0, q1, q2, z0, z1, z2, s0, s1, s2, d0, d1, d2, b0, b1, b2, y0, y1, y2, g0, g1, g2⟩ := HK.out w8 S8
      go_simp
      exact hK.out _ _ (Below.refl _ _) ⟨aS, lS, cS, rfl, nz_below (nz_base HS.out HB7.out) S8⟩
    | 5, _ =>
      clear hdep
      refine ⟨_, rfl, fun K' hK => ?_⟩
      obtain ⟨p0, p1, p2, q0, q1, q2, z0, z1, z2, s0, s1, s2, d0, d1, d2, b0, b1, b2, y0, y1, y2, g0, g1, g2⟩ := HK.out w8 S8
      go_simp
      exact hK.out _ _ (Below.refl _ _) ⟨some ⟨w.heap.size + 1 + 1 + 1, 0, none⟩, 2, 2, rfl, nz_below HD7.out S8⟩
    | 6, _ =>
      have h4 : TV Q w.heap.size w8 (D) (s) (u 20) := hdep 4 (by kernel_rfl)
      have h5 : TV Q w.heap.size w8 (D + 1) (difT p q) (u 21) := hdep 5 (by kernel_rfl)
      clear hdep
      refine ⟨_, rfl, fun K' hK => ?_⟩
      obtain ⟨a4, l4, c4, e4, r4⟩ := h4
      obtain ⟨a5, l5, c5, e5, r5⟩ := h5
      simp only [e4, e5] at hK ⊢
      go_simp
      exact hK.out _ _ (by repeat (first | exact Below.refl _ _ | assumption | refine Below.drew ?_ | refine Below.alloc ?_ (by first | exact Nat.le_refl _ | omega | (simp; done) | (simp; omega)) _ | refine Below.setCell ?_ (by first | exact Nat.le_refl _ | omega | (simp; done) | (simp; omega)) _)) ⟨w8.heap.size, rfl, row2 4 (Nat.le_trans HSZ.out S8.size) ks (r4.more (by omega)) (r5.more (by omega))⟩
    | 7, _ =>
      have h6 : RV Q w.heap.size w8 (D + 1 + 1) (ndT 4 2 (two (s) (difT p q))) 2 (u 22) := hdep 6 (by kernel_rfl)
      clear hdep
      refine ⟨_, rfl, fun K' hK => ?_⟩
      obtain ⟨N6, e6, r6⟩ := h6
      simp only [e6] at hK ⊢
      go_simp
      refine (new_impl 4 _ _ _ _).mono ?_
      rintro e w9 ⟨rfl, hb9⟩
      exact hK.out _ _ hb9 ⟨_, _, _, rfl, nz_below r6 hb9⟩
    | 8, _ =>
      have h3 : TV Q w.heap.size w8 (D + 1) (ndT 4 2 (two (p) (q))) (u 19) := hdep 3 (by kernel_rfl)
      have h7 : TV Q w.heap.size w8 (D + 1 + 1) (ndT 4 2 (two (s) (difT p q))) (u 23) := hdep 7 (by kernel_rfl)
      clear hdep
      refine ⟨_, rfl, fun K' hK => ?_⟩
      obtain ⟨a3, l3, c3, e3, r3⟩ := h3
      obtain ⟨a7, l7, c7, e7, r7⟩ := h7
      simp only [e3, e7] at hK ⊢
      go_simp
      exact hK.out _ _ (by repeat (first | exact Below.refl _ _ | assumption | refine Below.drew ?_ | refine Below.alloc ?_ (by first | exact Nat.le_refl _ | omega | (simp; done) | (simp; omega)) _ | refine Below.setCell ?_ (by first | exact Nat.le_refl _ | omega | (simp; done) | (simp; omega)) _)) ⟨w8.heap.size, rfl, row2 5 (Nat.le_trans HSZ.out S8.size) (nd_kind (by decide)) (r3.more (by omega)) (r7.more (by omega))⟩
    | 9, _ =>
      have h8 : RV Q w.heap.size w8 (D + 1 + 1 + 1) (ndT 5 2 (two (ndT 4 2 (two (p) (q))) (ndT 4 2 (two (s) (difT p q))))) 2 (u 24) := hdep 8 (by kernel_rfl)
      clear hdep
      refine ⟨_, rfl, fun K' hK => ?_⟩
      obtain ⟨N8, e8, r8⟩ := h8
      simp only [e8] at hK ⊢
      go_simp
      refine (new_impl 5 _ _ _ _).mono ?_
      rintro e w9 ⟨rfl, hb9⟩
      exact hK.out _ _ hb9 ⟨_, _, _, rfl, nz_below r8 hb9⟩
    | i + 10, hi => exact absurd hi (by omega)
  case last =>
    intro u w8 S8 hall
    have h9 : TV Q w.heap.size w8 (D + 1 + 1 + 1) (ndT 5 2 (two (ndT 4 2 (two (p) (q))) (ndT 4 2 (two (s) (difT p q))))) (u 25) := hall 9 (by decide)
    clear hall
    refine ⟨_, rfl, fun K' hK => ?_⟩
    obtain ⟨p0, p1, p2, q0, q1, q2, z0, z1, z2, s0, s1, s2, d0, d1, d2, b0, b1, b2, y0, y1, y2, g0, g1, g2⟩ := HK.out w8 S8
    obtain ⟨a9, l9, c9, e9, r9⟩ := h9
    simp only [e9] at hK ⊢
    go_simp
    refine hK.out _ _ ?_
    clear hK K'
    (try simp only [Exit.then])
    have HQC := hid hQ
    obtain ⟨k0, k1, k2⟩ := set3_cells s0 s1 s2 (.int .i64 (kd (ndT 5 2 (two (ndT 4 2 (two (p) (q))) (ndT 4 2 (two (s) (difT p q))))))) (.int .i64 (nn (ndT 5 2 (two (ndT 4 2 (two (p) (q))) (ndT 4 2 (two (s) (difT p q))))))) (.slice a9 l9 c9)
    have HC9 := hid (rd_set3 ((nz_not r9 (R := w.heap.size + 1 + 1) (by omega) z0).imp (q' := fun b => (Q b ∨ w.heap.size ≤ b) ∧ b ≠ w.heap.size + 1 + 1 ∧ b ≠ C) (fun b hb => ⟨hb.1, hb.2, fun e => by rcases hb.1 with h | h; exact HQC.out b h e; omega⟩)) (R := C) (by simp) (.int .i64 (kd (ndT 5 2 (two (ndT 4 2 (two (p) (q))) (ndT 4 2 (two (s) (difT p q))))))) (.int .i64 (nn (ndT 5 2 (two (ndT 4 2 (two (p) (q))) (ndT 4 2 (two (s) (difT p q))))))) (.slice a9 l9 c9))
    have HB9 := hid (rd_set3 ((nz_not (nz_below HR7.out S8) (R := w.heap.size + 1 + 1) (by omega) z0).imp (q' := fun b => (Q b ∨ w.heap.size ≤ b) ∧ b ≠ w.heap.size + 1 + 1 ∧ b ≠ C) (fun b hb => ⟨hb.1, hb.2, fun e => by rcases hb.1 with h | h; exact HQC.out b h e; omega⟩)) (R := C) (by simp) (.int .i64 (kd (ndT 5 2 (two (ndT 4 2 (two (p) (q))) (ndT 4 2 (two (s) (difT p q))))))) (.int .i64 (nn (ndT 5 2 (two (ndT 4 2 (two (p) (q))) (ndT 4 2 (two (s) (difT p q))))))) (.slice a9 l9 c9))
    have HO9 := hid ((Oth.of_below C (HB7.out.trans (S8.mono HSZ.out))).trans (((Oth.set C w8 0 _).trans (Oth.set C _ 1 _)).trans (Oth.set C _ 2 _) : Oth C w8 (((w8.setCell ⟨C, 0, none⟩ (.int .i64 (kd (ndT 5 2 (two (ndT 4 2 (two (p) (q))) (ndT 4 2 (two (s) (difT p q)))))))).setCell ⟨C, 1, none⟩ (.int .i64 (nn (ndT 5 2 (two (ndT 4 2 (two (p) (q))) (ndT 4 2 (two (s) (difT p q)))))))).setCell ⟨C, 2, none⟩ (.slice a9 l9 c9))))
    have v0 : (((w8.setCell ⟨C, 0, none⟩ (.int .i64 (kd (ndT 5 2 (two (ndT 4 2 (two (p) (q))) (ndT 4 2 (two (s) (difT p q)))))))).setCell ⟨C, 1, none⟩ (.int .i64 (nn (ndT 5 2 (two (ndT 4 2 (two (p) (q))) (ndT 4 2 (two (s) (difT p q)))))))).setCell ⟨C, 2, none⟩ (.slice a9 l9 c9)).cell? ⟨w2.heap.size, 0, none⟩ = some (.int .i64 6) := (set3_far w8 (R := C) (b := w2.heap.size) (by omega) 0 (.int .i64 (kd (ndT 5 2 (two (ndT 4 2 (two (p) (q))) (ndT 4 2 (two (s) (difT p q))))))) (.int .i64 (nn (ndT 5 2 (two (ndT 4 2 (two (p) (q))) (ndT 4 2 (two (s) (difT p q))))))) (.slice a9 l9 c9)).trans b0
    have v1 : (((w8.setCell ⟨C, 0, none⟩ (.int .i64 (kd (ndT 5 2 (two (ndT 4 2 (two (p) (q))) (ndT 4 2 (two (s) (difT p q)))))))).setCell ⟨C, 1, none⟩ (.int .i64 (nn (ndT 5 2 (two (ndT 4 2 (two (p) (q))) (ndT 4 2 (two (s) (difT p q)))))))).setCell ⟨C, 2, none⟩ (.slice a9 l9 c9)).cell? ⟨w2.heap.size, 1, none⟩ = some (.int .i64 0) := (set3_far w8 (R := C) (b := w2.heap.size) (by omega) 1 (.int .i64 (kd (ndT 5 2 (two (ndT 4 2 (two (p) (q))) (ndT 4 2 (two (s) (difT p q))))))) (.int .i64 (nn (ndT 5 2 (two (ndT 4 2 (two (p) (q))) (ndT 4 2 (two (s) (difT p q))))))) (.slice a9 l9 c9)).trans b1
    have v2 : (((w8.setCell ⟨C, 0, none⟩ (.int .i64 (kd (ndT 5 2 (two (ndT 4 2 (two (p) (q))) (ndT 4 2 (two (s) (difT p q)))))))).setCell ⟨C, 1, none⟩ (.int .i64 (nn (ndT 5 2 (two (ndT 4 2 (two (p) (q))) (ndT 4 2 (two (s) (difT p q)))))))).setCell ⟨C, 2, none⟩ (.slice a9 l9 c9)).cell? ⟨w2.heap.size, 2, none⟩ = some (.slice (some ⟨w1.heap.size + 1, 0, none⟩) 2 2) := (set3_far w8 (R := C) (b := w2.heap.size) (by omega) 2 (.int .i64 (kd (ndT 5 2 (two (ndT 4 2 (two (p) (q))) (ndT 4 2 (two (s) (difT p q))))))) (.int .i64 (nn (ndT 5 2 (two (ndT 4 2 (two (p) (q))) (ndT 4 2 (two (s) (difT p q))))))) (.slice a9 l9 c9)).trans b2
    have n0 : (((w8.setCell ⟨C, 0, none⟩ (.int .i64 (kd (ndT 5 2 (two (ndT 4 2 (two (p) (q))) (ndT 4 2 (two (s) (difT p q)))))))).setCell ⟨C, 1, none⟩ (.int .i64 (nn (ndT 5 2 (two (ndT 4 2 (two (p) (q))) (ndT 4 2 (two (s) (difT p q)))))))).setCell ⟨C, 2, none⟩ (.slice a9 l9 c9)).cell? ⟨w.heap.size + 1 + 1, 0, none⟩ = some (.int .i64 0) := (set3_far w8 (R := C) (b := w.heap.size + 1 + 1) (by omega) 0 (.int .i64 (kd (ndT 5 2 (two (ndT 4 2 (two (p) (q))) (ndT 4 2 (two (s) (difT p q))))))) (.int .i64 (nn (ndT 5 2 (two (ndT 4 2 (two (p) (q))) (ndT 4 2 (two (s) (difT p q))))))) (.slice a9 l9 c9)).trans z0
    have n1 : (((w8.setCell ⟨C, 0, none⟩ (.int .i64 (kd (ndT 5 2 (two (ndT 4 2 (two (p) (q))) (ndT 4 2 (two (s) (difT p q)))))))).setCell ⟨C, 1, none⟩ (.int .i64 (nn (ndT 5 2 (two (ndT 4 2 (two (p) (q))) (ndT 4 2 (two (s) (difT p q)))))))).setCell ⟨C, 2, none⟩ (.slice a9 l9 c9)).cell? ⟨w.heap.size + 1 + 1, 1, none⟩ = some (.int .i64 0) := (set3_far w8 (R := C) (b := w.heap.size + 1 + 1) (by omega) 1 (.int .i64 (kd (ndT 5 2 (two (ndT 4 2 (two (p) (q))) (ndT 4 2 (two (s) (difT p q))))))) (.int .i64 (nn (ndT 5 2 (two (ndT 4 2 (two (p) (q))) (ndT 4 2 (two (s) (difT p q))))))) (.slice a9 l9 c9)).trans z1
    have n2 : (((w8.setCell ⟨C, 0, none⟩ (.int .i64 (kd (ndT 5 2 (two (ndT 4 2 (two (p) (q))) (ndT 4 2 (two (s) (difT p q)))))))).setCell ⟨C, 1, none⟩ (.int .i64 (nn (ndT 5 2 (two (ndT 4 2 (two (p) (q))) (ndT 4 2 (two (s) (difT p q)))))))).setCell ⟨C, 2, none⟩ (.slice a9 l9 c9)).cell? ⟨w.heap.size + 1 + 1, 2, none⟩ = some (.slice none 0 0) := (set3_far w8 (R := C) (b := w.heap.size + 1 + 1) (by omega) 2 (.int .i64 (kd (ndT 5 2 (two (ndT 4 2 (two (p) (q))) (ndT 4 2 (two (s) (difT p q))))))) (.int .i64 (nn (ndT 5 2 (two (ndT 4 2 (two (p) (q))) (ndT 4 2 (two (s) (difT p q))))))) (.slice a9 l9 c9)).trans z2
    have o0 : (((w8.setCell ⟨C, 0, none⟩ (.int .i64 (kd (ndT 5 2 (two (ndT 4 2 (two (p) (q))) (ndT 4 2 (two (s) (difT p q)))))))).setCell ⟨C, 1, none⟩ (.int .i64 (nn (ndT 5 2 (two (ndT 4 2 (two (p) (q))) (ndT 4 2 (two (s) (difT p q)))))))).setCell ⟨C, 2, none⟩ (.slice a9 l9 c9)).frozen? ⟨w.heap.size + 1 + 1, 0, none⟩ = false := (set3_froz w8 C ⟨w.heap.size + 1 + 1, 0, none⟩ (.int .i64 (kd (ndT 5 2 (two (ndT 4 2 (two (p) (q))) (ndT 4 2 (two (s) (difT p q))))))) (.int .i64 (nn (ndT 5 2 (two (ndT 4 2 (two (p) (q))) (ndT 4 2 (two (s) (difT p q))))))) (.slice a9 l9 c9)).trans y0
    have o1 : (((w8.setCell ⟨C, 0, none⟩ (.int .i64 (kd (ndT 5 2 (two (ndT 4 2 (two (p) (q))) (ndT 4 2 (two (s) (difT p q)))))))).setCell ⟨C, 1, none⟩ (.int .i64 (nn (ndT 5 2 (two (ndT 4 2 (two (p) (q))) (ndT 4 2 (two (s) (difT p q)))))))).setCell ⟨C, 2, none⟩ (.slice a9 l9 c9)).frozen? ⟨w.heap.size + 1 + 1, 1, none⟩ = false := (set3_froz w8 C ⟨w.heap.size + 1 + 1, 1, none⟩ (.int .i64 (kd (ndT 5 2 (two (ndT 4 2 (two (p) (q))) (ndT 4 2 (two (s) (difT p q))))))) (.int .i64 (nn (ndT 5 2 (two (ndT 4 2 (two (p) (q))) (ndT 4 2 (two (s) (difT p q))))))) (.slice a9 l9 c9)).trans y1
    have o2 : (((w8.setCell ⟨C, 0, none⟩ (.int .i64 (kd (ndT 5 2 (two (ndT 4 2 (two (p) (q))) (ndT 4 2 (two (s) (difT p q)))))))).setCell ⟨C, 1, none⟩ (.int .i64 (nn (ndT 5 2 (two (ndT 4 2 (two (p) (q))) (ndT 4 2 (two (s) (difT p q)))))))).setCell ⟨C, 2, none⟩ (.slice a9 l9 c9)).frozen? ⟨w.heap.size + 1 + 1, 2, none⟩ = false := (set3_froz w8 C ⟨w.heap.size + 1 + 1, 2, none⟩ (.int .i64 (kd (ndT 5 2 (two (ndT 4 2 (two (p) (q))) (ndT 4 2 (two (s) (difT p q))))))) (.int .i64 (nn (ndT 5 2 (two (ndT 4 2 (two (p) (q))) (ndT 4 2 (two (s) (difT p q))))))) (.slice a9 l9 c9)).trans y2
    have u0 : (((w8.setCell ⟨C, 0, none⟩ (.int .i64 (kd (ndT 5 2 (two (ndT 4 2 (two (p) (q))) (ndT 4 2 (two (s) (difT p q)))))))).setCell ⟨C, 1, none⟩ (.int .i64 (nn (ndT 5 2 (two (ndT 4 2 (two (p) (q))) (ndT 4 2 (two (s) (difT p q)))))))).setCell ⟨C, 2, none⟩ (.slice a9 l9 c9)).frozen? ⟨C, 0, none⟩ = false := (set3_froz w8 C ⟨C, 0, none⟩ (.int .i64 (kd (ndT 5 2 (two (ndT 4 2 (two (p) (q))) (ndT 4 2 (two (s) (difT p q))))))) (.int .i64 (nn (ndT 5 2 (two (ndT 4 2 (two (p) (q))) (ndT 4 2 (two (s) (difT p q))))))) (.slice a9 l9 c9)).trans g0
    have u1 : (((w8.setCell ⟨C, 0, none⟩ (.int .i64 (kd (ndT 5 2 (two (ndT 4 2 (two (p) (q))) (ndT 4 2 (two (s) (difT p q)))))))).setCell ⟨C, 1, none⟩ (.int .i64 (nn (ndT 5 2 (two (ndT 4 2 (two (p) (q))) (ndT 4 2 (two (s) (difT p q)))))))).setCell ⟨C, 2, none⟩ (.slice a9 l9 c9)).frozen? ⟨C, 1, none⟩ = false := (set3_froz w8 C ⟨C, 1, none⟩ (.int .i64 (kd (ndT 5 2 (two (ndT 4 2 (two (p) (q))) (ndT 4 2 (two (s) (difT p q))))))) (.int .i64 (nn (ndT 5 2 (two (ndT 4 2 (two (p) (q))) (ndT 4 2 (two (s) (difT p q))))))) (.slice a9 l9 c9)).trans g1
    have u2 : (((w8.setCell ⟨C, 0, none⟩ (.int .i64 (kd (ndT 5 2 (two (ndT 4 2 (two (p) (q))) (ndT 4 2 (two (s) (difT p q)))))))).setCell ⟨C, 1, none⟩ (.int .i64 (nn (ndT 5 2 (two (ndT 4 2 (two (p) (q))) (ndT 4 2 (two (s) (difT p q)))))))).setCell ⟨C, 2, none⟩ (.slice a9 l9 c9)).frozen? ⟨C, 2, none⟩ = false := (set3_froz w8 C ⟨C, 2, none⟩ (.int .i64 (kd (ndT 5 2 (two (ndT 4 2 (two (p) (q))) (ndT 4 2 (two (s) (difT p q))))))) (.int .i64 (nn (ndT 5 2 (two (ndT 4 2 (two (p) (q))) (ndT 4 2 (two (s) (difT p q))))))) (.slice a9 l9 c9)).trans g2
    clear p0 p1 p2 q0 q1 q2 z0 z1 z2 s0 s1 s2 d0 d1 d2 b0 b1 b2 y0 y1 y2 g0 g1 g2 r9 e9
    generalize (((w8.setCell ⟨C, 0, none⟩ (.int .i64 (kd (ndT 5 2 (two (ndT 4 2 (two (p) (q))) (ndT 4 2 (two (s) (difT p q)))))))).setCell ⟨C, 1, none⟩ (.int .i64 (nn (ndT 5 2 (two (ndT 4 2 (two (p) (q))) (ndT 4 2 (two (s) (difT p q)))))))).setCell ⟨C, 2, none⟩ (.slice a9 l9 c9)) = W9 at *
    have HC10 := hid (rd_set3 HC9.out (R := w.heap.size + 1 + 1) (by simp) (.int .i64 6) (.int .i64 0) (.slice (some ⟨w1.heap.size + 1, 0, none⟩) 2 2))
    have HB10 := hid (rd_set3 HB9.out (R := w.heap.size + 1 + 1) (by simp) (.int .i64 6) (.int .i64 0) (.slice (some ⟨w1.heap.size + 1, 0, none⟩) 2 2))
    have hb10 := below_set3 (Below.refl w.heap.size W9) (R := w.heap.size + 1 + 1) (by omega) (.int .i64 6) (.int .i64 0) (.slice (some ⟨w1.heap.size + 1, 0, none⟩) 2 2)
    have HO10 := hid (show Oth C w _ from ⟨hb10.os.trans HO9.out.os, hb10.tape.trans HO9.out.tape, hb10.output.trans HO9.out.output, Nat.le_trans HO9.out.size hb10.size, fun i hi hn => (hb10.block i hi).trans (HO9.out.block i hi hn)⟩)
    have K0 := hid ((set3_far W9 (R := w.heap.size + 1 + 1) (b := C) (by omega) 0 (.int .i64 6) (.int .i64 0) (.slice (some ⟨w1.heap.size + 1, 0, none⟩) 2 2)).trans k0)
    have K1 := hid ((set3_far W9 (R := w.heap.size + 1 + 1) (b := C) (by omega) 1 (.int .i64 6) (.int .i64 0) (.slice (some ⟨w1.heap.size + 1, 0, none⟩) 2 2)).trans k1)
    have K2 := hid ((set3_far W9 (R := w.heap.size + 1 + 1) (b := C) (by omega) 2 (.int .i64 6) (.int .i64 0) (.slice (some ⟨w1.heap.size + 1, 0, none⟩) 2 2)).trans k2)
    have G0 := hid ((set3_froz W9 (w.heap.size + 1 + 1) ⟨C, 0, none⟩ (.int .i64 6) (.int .i64 0) (.slice (some ⟨w1.heap.size + 1, 0, none⟩) 2 2)).trans u0)
    have G1 := hid ((set3_froz W9 (w.heap.size + 1 + 1) ⟨C, 1, none⟩ (.int .i64 6) (.int .i64 0) (.slice (some ⟨w1.heap.size + 1, 0, none⟩) 2 2)).trans u1)
    have G2 := hid ((set3_froz W9 (w.heap.size + 1 + 1) ⟨C, 2, none⟩ (.int .i64 6) (.int .i64 0) (.slice (some ⟨w1.heap.size + 1, 0, none⟩) 2 2)).trans u2)
    clear hb10 k0 k1 k2 u0 u1 u2
    go_wp2
    refine bodyPost_ret (v := .agg #[.int .i64 6, .int .i64 0, .slice (some ⟨w1.heap.size + 1, 0, none⟩) 2 2]) (by simp [results, Try.results56, go_sem, n0, n1, n2]) rfl ⟨_, rfl, ⟨_, _, _, HB10.out.imp fun b hb => hb.1, rfl⟩, HO10.out, a9, l9, c9, K0.out, K1.out, K2.out, HC10.out.imp fun b hb => hb.1, G0.out, G1.out, G2.out⟩

end Go.Proofs.Ytikdadpapdkfiaa.bitSum
