/- LessEx of the specification: for all rows of expressions that lie in memory; conditions: none. -/
import Derived.Test.YtkccckknjhdnhaaLessSpec
namespace Go.Proofs.Ytkccckknjhdnhaa.lessFace
open Go.RowKit Go.Deep Go base trees built heldStore drawn ownTree ownEx ownExE treeSpec rowsImpl copySpec rowsSpec equalImpl lessImpl faceImpl equalSpec lessSpec
set_option linter.unusedVariables false

set_option maxHeartbeats 3200000 in
set_option maxRecDepth 8000 in
theorem less_spec (d : Nat) (A B : T) (aA aB : Option Addr) (la lb cA cB : Nat) (w : World) (hA : Rd (fun _ => True) 1048576 w (d + 1) A aA la) (hB : Rd (fun _ => True) 1048576 w (d + 1) B aB lb) :
    Calls Try.prog 15 #[.slice aA la cA, .slice aB lb cB] w fun e w' => ∃ a l c, e = .returned (.tuple #[.agg #[.int .i64 (kd (lessAns d A B la lb)), .int .i64 (nn (lessAns d A B la lb)), .slice a l c], .int .i64 (lessC d A B la lb)]) ∧ Below w.heap.size w w' ∧
      Rd (fun _ => True) 1048576 w' (d + 4 * la) (lessAns d A B la lb) a l := by
  have hmost := hA.most
  have HA := hid hA.old
  have HB := hid hB.old
  have HA0 := hid hA
  have HB0 := hid hB
  clear hA hB
  by_cases hc : rowsC d A B la lb ≠ 0
  · have e1 : lessC d A B la lb = rowsC d A B la lb := if_pos hc
    have e2 : lessAns d A B la lb = zT := if_pos hc
    rw [e1, e2]
    obtain ⟨rc, hrc⟩ : ∃ rc, rowsC d A B la lb = rc := ⟨_, rfl⟩
    rw [hrc] at hc ⊢
    have HRC := hid hrc
    have dc : (rc != 0) = true := by simp [hc]
    clear hrc
    go_enter Try.func15, Try.ntmps15
    go_wp2_with fail
    refine (pair_spec d A B aA aB la lb cA cB _ (HA0.out.below (by repeat (first | exact Below.refl _ _ | assumption | refine Below.drew ?_ | refine Below.alloc ?_ (by first | exact Nat.le_refl _ | omega | (simp; done) | (simp; omega)) _ | refine Below.setCell ?_ (by first | exact Nat.le_refl _ | omega | (simp; done) | (simp; omega)) _))) (HB0.out.below (by repeat (first | exact Below.refl _ _ | assumption | refine Below.drew ?_ | refine Below.alloc ?_ (by first | exact Nat.le_refl _ | omega | (simp; done) | (simp; omega)) _ | refine Below.setCell ?_ (by first | exact Nat.le_refl _ | omega | (simp; done) | (simp; omega)) _)))).mono ?_
    rintro e w1 ⟨rfl, hb1⟩
    have z0 : w1.cell? ⟨w.heap.size, 0, none⟩ = some (.int .i64 0) := keep hb1 (by simp [go_sem])
    have z1 : w1.cell? ⟨w.heap.size, 1, none⟩ = some (.int .i64 0) := keep hb1 (by simp [go_sem])
    have z2 : w1.cell? ⟨w.heap.size, 2, none⟩ = some (.slice none 0 0) := keep hb1 (by simp [go_sem])
    have y0 : w1.frozen? ⟨w.heap.size, 0, none⟩ = false := (hb1.frozen (p := ⟨w.heap.size, 0, none⟩) (by simp)).trans (by simp [go_sem])
    have y1 : w1.frozen? ⟨w.heap.size, 1, none⟩ = false := (hb1.frozen (p := ⟨w.heap.size, 1, none⟩) (by simp)).trans (by simp [go_sem])
    have y2 : w1.frozen? ⟨w.heap.size, 2, none⟩ = false := (hb1.frozen (p := ⟨w.heap.size, 2, none⟩) (by simp)).trans (by simp [go_sem])
    have HB1 := hid ((show Below w.heap.size w _ from (by repeat (first | exact Below.refl _ _ | assumption | refine Below.drew ?_ | refine Below.alloc ?_ (by first | exact Nat.le_refl _ | omega | (simp; done) | (simp; omega)) _ | refine Below.setCell ?_ (by first | exact Nat.le_refl _ | omega | (simp; done) | (simp; omega)) _))).trans (hb1.mono (by simp)))
    clear hb1 hc e1 e2
    rw [HRC.out]
    have HB3 := hid (below_set3 HB1.out (R := w.heap.size) (Nat.le_refl _) (.int .i64 0) (.int .i64 0) (.slice none 0 0))
    go_wp2
    refine bodyPost_ret (v := .tuple #[.agg #[.int .i64 0, .int .i64 0, .slice none 0 0], .int .i64 rc]) (by simp [results, Try.results15, go_sem, z0, z1, z2]) rfl ⟨none, 0, 0, rfl, HB3.out, (Ow.none _ _ rfl _ (fun _ => True)).rd⟩
  · have hc' : rowsC d A B la lb = 0 := by simpa using hc
    obtain ⟨rfl, hl6, okA, okB'⟩ := rowsC_zero hc'
    have e1 : lessC d A B la la = ansC (okB (d + 4 * la) (lessT A B (cT 0) la) 1 0) := if_neg hc
    have e2 : lessAns d A B la la = ansT (okB (d + 4 * la) (lessT A B (cT 0) la) 1 0) (lessT A B (cT 0) la) := if_neg hc
    rw [e1, e2]
    clear hc e1 e2
    obtain ⟨tt, hTT⟩ : ∃ tt, lessT A B (cT 0) la = tt := ⟨_, rfl⟩
    rw [hTT]
    have HTT := hid hTT
    clear hTT
    obtain ⟨t3, hT3⟩ : ∃ t3, ansT (okB (d + 4 * la) tt 1 0) tt = t3 := ⟨_, rfl⟩
    obtain ⟨k3, hK3⟩ : ∃ k3, ansC (okB (d + 4 * la) tt 1 0) = k3 := ⟨_, rfl⟩
    rw [hT3, hK3]
    have HOA := hid okA
    have HOB := hid okB'
    clear okA okB'
    have HT3 := hid hT3
    have HK3 := hid hK3
    clear hT3 hK3
    go_enter Try.func15, Try.ntmps15
    go_wp2_with fail
    refine (pair_spec d A B aA aB la la cA cB _ (HA0.out.below (by repeat (first | exact Below.refl _ _ | assumption | refine Below.drew ?_ | refine Below.alloc ?_ (by first | exact Nat.le_refl _ | omega | (simp; done) | (simp; omega)) _ | refine Below.setCell ?_ (by first | exact Nat.le_refl _ | omega | (simp; done) | (simp; omega)) _))) (HB0.out.below (by repeat (first | exact Below.refl _ _ | assumption | refine Below.drew ?_ | refine Below.alloc ?_ (by first | exact Nat.le_refl _ | omega | (simp; done) | (simp; omega)) _ | refine Below.setCell ?_ (by first | exact Nat.le_refl _ | omega | (simp; done) | (simp; omega)) _)))).mono ?_
    rintro e w1 ⟨rfl, hb1⟩
    have z0 : w1.cell? ⟨w.heap.size, 0, none⟩ = some (.int .i64 0) := keep hb1 (by simp [go_sem])
    have z1 : w1.cell? ⟨w.heap.size, 1, none⟩ = some (.int .i64 0) := keep hb1 (by simp [go_sem])
    have z2 : w1.cell? ⟨w.heap.size, 2, none⟩ = some (.slice none 0 0) := keep hb1 (by simp [go_sem])
    have y0 : ∀ x, w1.frozen? ⟨w.heap.size, x, none⟩ = false := fun x => (hb1.frozen (p := ⟨w.heap.size, x, none⟩) (by simp)).trans (by simp [go_sem])
    have HB1 := hid ((show Below w.heap.size w _ from (by repeat (first | exact Below.refl _ _ | assumption | refine Below.drew ?_ | refine Below.alloc ?_ (by first | exact Nat.le_refl _ | omega | (simp; done) | (simp; omega)) _ | refine Below.setCell ?_ (by first | exact Nat.le_refl _ | omega | (simp; done) | (simp; omega)) _))).trans (hb1.mono (by simp)))
    have hs1 : w.heap.size < w1.heap.size := World.block_lt_of_cell? _ _ z0
    clear hb1
    rw [hc']
    clear hc'
    go_wp2_with fail
    refine (less_rows d A B aA aB la cA cB _ (HA0.out.below HB1.out) (HB0.out.below HB1.out) HOA.out HOB.out).mono ?_
    rintro e w2 ⟨a2, l2, c2, rfl, hr2, hb2⟩
    rw [HTT.out] at hr2 ⊢
    replace z0 := keep hb2 z0
    replace z1 := keep hb2 z1
    replace z2 := keep hb2 z2
    have y0' : ∀ x, w2.frozen? ⟨w.heap.size, x, none⟩ = false := fun x => (hb2.frozen (p := ⟨w.heap.size, x, none⟩) hs1).trans (y0 x)
    have HB2 := hid (HB1.out.trans (hb2.mono HB1.out.size))
    have hs2 : w.heap.size < w2.heap.size := World.block_lt_of_cell? _ _ z0
    have HR2 := hid hr2
    clear hb2 y0 hr2
    go_wp2_with fail
    have V3' : Hid (Below w2.heap.size w2 (w2.alloc (.cells #[.int .i64 (kd tt), .int .i64 (nn tt), .slice a2 l2 c2] 26))) := (by repeat (first | exact Below.refl _ _ | assumption | refine Below.drew ?_ | refine Below.alloc ?_ (by first | exact Nat.le_refl _ | omega | (simp; done) | (simp; omega)) _ | refine Below.setCell ?_ (by first | exact Nat.le_refl _ | omega | (simp; done) | (simp; omega)) _))
    have x0 := cell_new w2 #[.int .i64 (kd tt), .int .i64 (nn tt), .slice a2 l2 c2] 26 (i := 0) rfl
    have x1 := cell_new w2 #[.int .i64 (kd tt), .int .i64 (nn tt), .slice a2 l2 c2] 26 (i := 1) rfl
    have x2 := cell_new w2 #[.int .i64 (kd tt), .int .i64 (nn tt), .slice a2 l2 c2] 26 (i := 2) rfl
    generalize w2.alloc (.cells #[.int .i64 (kd tt), .int .i64 (nn tt), .slice a2 l2 c2] 26) = w3 at *
    replace z0 := keep V3'.out z0
    replace z1 := keep V3'.out z1
    replace z2 := keep V3'.out z2
    have y3 : ∀ x, w3.frozen? ⟨w.heap.size, x, none⟩ = false := fun x => (V3'.out.frozen (p := ⟨w.heap.size, x, none⟩) hs2).trans (y0' x)
    have HB3 := hid (HB2.out.trans (V3'.out.mono HB2.out.size))
    have HR3 := hid (HR2.out.below V3'.out)
    have hs3 : w.heap.size < w3.heap.size := World.block_lt_of_cell? _ _ z0
    clear y0'
    refine (exOK_spec (d + 4 * la) tt a2 l2 c2 _ (HR3.out.imp fun _ _ => trivial)).mono ?_
    rintro e w4 ⟨rfl, hb4⟩
    replace x0 := keep hb4 x0
    replace x1 := keep hb4 x1
    replace x2 := keep hb4 x2
    replace z0 := keep hb4 z0
    replace z1 := keep hb4 z1
    replace z2 := keep hb4 z2
    have g0 := (hb4.frozen (p := ⟨w.heap.size, 0, none⟩) hs3).trans (y3 0)
    have g1 := (hb4.frozen (p := ⟨w.heap.size, 1, none⟩) hs3).trans (y3 1)
    have g2 := (hb4.frozen (p := ⟨w.heap.size, 2, none⟩) hs3).trans (y3 2)
    have HB4 := hid (HB3.out.trans (hb4.mono HB3.out.size))
    have HR4 := hid (HR3.out.below hb4)
    clear hb4 y3
    have HT3' := HT3
    have HK3' := HK3
    cases hok : okB (d + 4 * la) tt 1 0 with
    | false =>
      rw [hok] at HT3' HK3'
      have et : t3 = zT := HT3'.out.symm
      have ek : k3 = 11 := HK3'.out.symm
      have HEt := hid et
      have HEk := hid ek
      clear et ek
      have HB5 := hid (below_set3 HB4.out (R := w.heap.size) (Nat.le_refl _) (.int .i64 0) (.int .i64 0) (.slice none 0 0))
      go_wp2
      refine bodyPost_ret (v := .tuple #[.agg #[.int .i64 0, .int .i64 0, .slice none 0 0], .int .i64 11]) (by simp [results, Try.results15, go_sem, z0, z1, z2]) rfl ⟨none, 0, 0, by rw [HEt.out, HEk.out]; rfl, HB5.out, by rw [HEt.out]; exact (Ow.none _ _ rfl _ (fun _ => True)).rd⟩
    | true =>
      rw [hok] at HT3' HK3'
      have et : t3 = tt := HT3'.out.symm
      have ek : k3 = 0 := HK3'.out.symm
      have HEt := hid et
      have HEk := hid ek
      clear et ek
      have HR5 := hid (rd_set3 HR4.out (R := w.heap.size) (by omega) (.int .i64 (kd tt)) (.int .i64 (nn tt)) (.slice a2 l2 c2))
      have HB5 := hid (below_set3 HB4.out (R := w.heap.size) (Nat.le_refl _) (.int .i64 (kd tt)) (.int .i64 (nn tt)) (.slice a2 l2 c2))
      go_wp2
      refine bodyPost_ret (v := .tuple #[.agg #[.int .i64 (kd tt), .int .i64 (nn tt), .slice a2 l2 c2], .int .i64 0]) (by simp [results, Try.results15, go_sem, z0, z1, z2]) rfl ⟨a2, l2, c2, by rw [HEt.out, HEk.out], HB5.out, by rw [HEt.out]; exact HR5.out.imp fun _ _ => trivial⟩
end Go.Proofs.Ytkccckknjhdnhaa.lessFace
