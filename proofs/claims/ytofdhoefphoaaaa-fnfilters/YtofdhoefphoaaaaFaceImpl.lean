/- EqualEx and LessEx of the program: for all rows of expressions that lie in memory; conditions: none. -/
import Derived.Test.YtofdhoefphoaaaaRowsImpl
namespace Go.Proofs.Ytofdhoefphoaaaa.faceImpl
open Go.RowKit Go.Deep Go base trees built heldStore drawn ownTree ownEx ownExE equalImpl lessImpl treeImpl rowsImpl
set_option linter.unusedVariables false

/-- The code of EqualEx, and its expression. -/
def equalC (d : Nat) (A B : T) (la lb : Nat) : Int := if rowsC d A B la lb ≠ 0 then rowsC d A B la lb else ansC (okB (d + 3 * la) (eqT A B (cT 1) la) 1 0)
def equalAns (d : Nat) (A B : T) (la lb : Nat) : T := if rowsC d A B la lb ≠ 0 then zT else ansT (okB (d + 3 * la) (eqT A B (cT 1) la) 1 0) (eqT A B (cT 1) la)

set_option maxHeartbeats 800000 in
theorem less_rows (d : Nat) (A B : T) (aA aB : Option Addr) (l cA cB : Nat) (w : World) (hA : Rd (fun _ => True) 1048576 w (d + 1) A aA l) (hB : Rd (fun _ => True) 1048576 w (d + 1) B aB l) (kA : ∀ i, i < l → kd (kid A i) ≠ 0) :
    Calls Try.prog 36 #[.slice aA l cA, .slice aB l cB] w fun e' w' => ∃ a lr c, e' = .returned (.agg #[.int .i64 (kd (lessT A B (cT 0) l)), .int .i64 (nn (lessT A B (cT 0) l)), .slice a lr c]) ∧ Rd (fun _ => True) 1048576 w' (d + 4 * l) (lessT A B (cT 0) l) a lr ∧ Below w.heap.size w w' := by
  have HA := hid (rd_old hA)
  have HB := hid (rd_old hB)
  have HK := hid kA
  clear hA hB kA
  obtain ⟨t, hT⟩ : ∃ t, lessT A B (cT 0) l = t := ⟨_, rfl⟩
  rw [hT]
  have HT := hid hT
  clear hT
  go_enter Try.func36, Try.ntmps36
  go_wp2_with fail
  refine (const_impl 0 _).mono ?_
  rintro e w1 ⟨rfl, hb1⟩
  have z0 : w1.cell? ⟨w.heap.size, 0, none⟩ = some (.int .i64 0) := keep hb1 (by simp [go_sem])
  have z1 : w1.cell? ⟨w.heap.size, 1, none⟩ = some (.int .i64 0) := keep hb1 (by simp [go_sem])
  have z2 : w1.cell? ⟨w.heap.size, 2, none⟩ = some (.slice none 0 0) := keep hb1 (by simp [go_sem])
  have y0 : w1.frozen? ⟨w.heap.size, 0, none⟩ = false := (hb1.frozen (p := ⟨w.heap.size, 0, none⟩) (by simp)).trans (by simp [go_sem])
  have y1 : w1.frozen? ⟨w.heap.size, 1, none⟩ = false := (hb1.frozen (p := ⟨w.heap.size, 1, none⟩) (by simp)).trans (by simp [go_sem])
  have y2 : w1.frozen? ⟨w.heap.size, 2, none⟩ = false := (hb1.frozen (p := ⟨w.heap.size, 2, none⟩) (by simp)).trans (by simp [go_sem])
  have HB1 := hid ((show Below w.heap.size w _ from (by repeat (first | exact Below.refl _ _ | assumption | refine Below.drew ?_ | refine Below.alloc ?_ (by first | exact Nat.le_refl _ | omega | (simp; done) | (simp; omega)) _ | refine Below.setCell ?_ (by first | exact Nat.le_refl _ | omega | (simp; done) | (simp; omega)) _))).trans (hb1.mono (by simp)))
  have hsz : w.heap.size < w1.heap.size := World.block_lt_of_cell? _ _ z0
  clear hb1
  go_wp2_with fail
  refine (lessT_gathered (fun b => b < w.heap.size) d A B (cT 0) aA aB none l cA cB 0 0 _ ((HA.out.imp fun b hb => hb.2).below HB1.out) ((HB.out.imp fun b hb => hb.2).below HB1.out) (rd_const _ _ _ _) (by decide) HK.out).mono ?_
  rintro e w2 ⟨v, rfl, ⟨a, lr, c, hr, rfl⟩, hb2⟩
  replace z0 := keep hb2 z0
  replace z1 := keep hb2 z1
  replace z2 := keep hb2 z2
  replace y0 := (hb2.frozen (p := ⟨w.heap.size, 0, none⟩) hsz).trans y0
  replace y1 := (hb2.frozen (p := ⟨w.heap.size, 1, none⟩) hsz).trans y1
  replace y2 := (hb2.frozen (p := ⟨w.heap.size, 2, none⟩) hsz).trans y2
  rw [HT.out] at hr ⊢
  have HR := hid (rd_set3 hr (R := w.heap.size) (by simp; omega) (.int .i64 (kd t)) (.int .i64 (nn t)) (.slice a lr c))
  have HB3 := hid (below_set3 (HB1.out.trans (hb2.mono HB1.out.size)) (R := w.heap.size) (Nat.le_refl _) (.int .i64 (kd t)) (.int .i64 (nn t)) (.slice a lr c))
  clear hb2 hr
  go_wp2
  refine bodyPost_ret (v := .agg #[.int .i64 (kd t), .int .i64 (nn t), .slice a lr c]) (by simp [results, Try.results36, go_sem, z0, z1, z2]) rfl ⟨a, lr, c, rfl, HR.out.imp fun _ _ => trivial, HB3.out⟩

/-- The code of LessEx, and its expression. -/
def lessC (d : Nat) (A B : T) (la lb : Nat) : Int := if rowsC d A B la lb ≠ 0 then rowsC d A B la lb else ansC (okB (d + 4 * la) (lessT A B (cT 0) la) 1 0)
def lessAns (d : Nat) (A B : T) (la lb : Nat) : T := if rowsC d A B la lb ≠ 0 then zT else ansT (okB (d + 4 * la) (lessT A B (cT 0) la) 1 0) (lessT A B (cT 0) la)

end Go.Proofs.Ytofdhoefphoaaaa.faceImpl
