/- EqualEx and LessEx of the program: for all rows of expressions that lie in memory; conditions: none. -/
import Derived.Test.YtacamkdcofppcaaRowsImpl
namespace Go.Proofs.Ytacamkdcofppcaa.faceImpl
open Go.RowKit Go.Deep Go base trees built heldStore drawn ownTree ownEx ownExE equalImpl lessImpl treeImpl rowsImpl
set_option linter.unusedVariables false

set_option maxHeartbeats 800000 in
theorem equal_rows (d : Nat) (A B : T) (aA aB : Option Addr) (l cA cB : Nat) (w : World) (hA : Rd (fun _ => True) 1048576 w (d + 1) A aA l) (hB : Rd (fun _ => True) 1048576 w (d + 1) B aB l) (kA : ∀ i, i < l → kd (kid A i) ≠ 0) :
    Calls Try.prog 12 #[.slice aA l cA, .slice aB l cB] w fun e' w' => ∃ a lr c, e' = .returned (.agg #[.int .i64 (kd (eqT A B (cT 1) l)), .int .i64 (nn (eqT A B (cT 1) l)), .slice a lr c]) ∧ Rd (fun _ => True) 1048576 w' (d + 3 * l) (eqT A B (cT 1) l) a lr ∧ Below w.heap.size w w' := by
  have HA := hid (rd_old hA)
  have HB := hid (rd_old hB)
  have HK := hid kA
  clear hA hB kA
  obtain ⟨t, hT⟩ : ∃ t, eqT A B (cT 1) l = t := ⟨_, rfl⟩
  rw [hT]
  have HT := hid hT
  clear hT
  go_enter Try.func12, Try.ntmps12
  go_wp2_with fail
  refine (const_impl 1 _).mono ?_
  rintro e w1 ⟨rfl, hb1⟩
  have z0 : w1.cell? ⟨w.heap.size, 0, none⟩ = some (.int .i64 0) := keep hb1 (by simp [go_sem])
  have z1 : w1.cell? ⟨w.heap.size, 1, none⟩ = some (.int .i64 0) := keep hb1 (by simp [go_sem])
  have z2 : w1.cell? ⟨w.heap.size, 2, none⟩ = some (.slice none 0 0) := keep hb1 (by simp [go_sem])
  have y0 : w1.frozen? ⟨w.heap.size, 0, none⟩ = false := (hb1.frozen (p := ⟨w.heap.size, 0, none⟩) (by simp)).trans (by simp [go_sem])
  have y1 : w1.frozen? ⟨w.heap.size, 1, none⟩ = false := (hb1.frozen (p := ⟨w.heap.size, 1, none⟩) (by simp)).trans (by simp [go_sem])
  have y2 : w1.frozen? ⟨w.heap.size, 2, none⟩ = false := (hb1.frozen (p := ⟨w.heap.size, 2, none⟩) (by simp)).trans (by simp [go_sem])
  have HB1 := hid ((show Below w.heap.size w _ from (by repeat (first | exact Below.refl _ _ | assumption | refine Below.drew ?_ | refine Below.alloc ?_ (by first | exact Nat.le_refl _ | omega | (simp; done) | (simp; omega)) _ | refine Below.setCell ?_ (by first | exact Nat.le_refl _ | omega | (simp; done) | (simp; omega)) _))).trans (hb1.mono (by simp)))
  have hsz : w.heap.size < w1.heap.size := World.block_lt_of_cell? _ _ z0
  clear hb1
  go_wp2_with fail
  refine (eqT_gathered (fun b => b < w.heap.size) d A B (cT 1) aA aB none l cA cB 0 0 _ ((HA.out.imp fun b hb => hb.2).below HB1.out) ((HB.out.imp fun b hb => hb.2).below HB1.out) (rd_const _ _ _ _) (by decide) HK.out).mono ?_
  rintro e w2 ⟨v, rfl, ⟨a, lr, c, hr, rfl⟩, hb2⟩
  replace z0 := keep hb2 z0
  replace z1 := keep hb2 z1
  replace z2 := keep hb2 z2
  replace y0 := (hb2.frozen (p := ⟨w.heap.size, 0, none⟩) hsz).trans y0
  replace y1 := (hb2.frozen (p := ⟨w.heap.size, 1, none⟩) hsz).trans y1
  replace y2 := (hb2.frozen (p := ⟨w.heap.size, 2, none⟩) hsz).trans y2
  rw [HT.out] at hr ⊢
  have HR := hid (rd_set3 hr (R := w.heap.size) (by simp; omega) (.int .i64 (kd t)) (.int .i64 (nn t)) (.slice a lr c))
  have HB3 := hid (below_set3 (HB1.out.trans (hb2.mono HB1.out.size)) (R := w.heap.size) (Nat.le_refl _) (.int .i64 (kd t)) (.int .i64 (nn t)) (.slice a lr c))
  clear hb2 hr
  go_wp2
  refine bodyPost_ret (v := .agg #[.int .i64 (kd t), .int .i64 (nn t), .slice a lr c]) (by simp [results, Try.results12, go_sem, z0, z1, z2]) rfl ⟨a, lr, c, rfl, HR.out.imp fun _ _ => trivial, HB3.out⟩

/-- The code of EqualEx, and its expression. -/
def equalC (d : Nat) (A B : T) (la lb : Nat) : Int := if rowsC d A B la lb ≠ 0 then rowsC d A B la lb else ansC (okB (d + 3 * la) (eqT A B (cT 1) la) 1 0)
def equalAns (d : Nat) (A B : T) (la lb : Nat) : T := if rowsC d A B la lb ≠ 0 then zT else ansT (okB (d + 3 * la) (eqT A B (cT 1) la) 1 0) (eqT A B (cT 1) la)

set_option maxHeartbeats 800000 in
theorem equal_impl (d : Nat) (A B : T) (aA aB : Option Addr) (la lb cA cB : Nat) (w : World) (hA : Rd (fun _ => True) 1048576 w (d + 1) A aA la) (hB : Rd (fun _ => True) 1048576 w (d + 1) B aB lb) :
    Calls Try.prog 5 #[.slice aA la cA, .slice aB lb cB] w fun e w' => ∃ a l c, e = .returned (.tuple #[.agg #[.int .i64 (kd (equalAns d A B la lb)), .int .i64 (nn (equalAns d A B la lb)), .slice a l c], .int .i64 (equalC d A B la lb)]) ∧ Below w.heap.size w w' ∧
      Ow w' (d + 3 * la) (equalAns d A B la lb) a l (fun b => w.heap.size ≤ b ∧ b < w'.heap.size) := by
  have HA := hid hA
  have HB := hid hB
  clear hA hB
  by_cases hc : rowsC d A B la lb ≠ 0
  · have e1 : equalC d A B la lb = rowsC d A B la lb := if_pos hc
    have e2 : equalAns d A B la lb = zT := if_pos hc
    rw [e1, e2]
    obtain ⟨rc, hrc⟩ : ∃ rc, rowsC d A B la lb = rc := ⟨_, rfl⟩
    rw [hrc] at hc ⊢
    have HRC := hid hrc
    have dc : (rc != 0) = true := by simp [hc]
    clear hrc
    go_enter Try.func5, Try.ntmps5
    go_wp2_with fail
    refine (fault_impl d A B aA aB la lb cA cB _ (HA.out.below (by repeat (first | exact Below.refl _ _ | assumption | refine Below.drew ?_ | refine Below.alloc ?_ (by first | exact Nat.le_refl _ | omega | (simp; done) | (simp; omega)) _ | refine Below.setCell ?_ (by first | exact Nat.le_refl _ | omega | (simp; done) | (simp; omega)) _))) (HB.out.below (by repeat (first | exact Below.refl _ _ | assumption | refine Below.drew ?_ | refine Below.alloc ?_ (by first | exact Nat.le_refl _ | omega | (simp; done) | (simp; omega)) _ | refine Below.setCell ?_ (by first | exact Nat.le_refl _ | omega | (simp; done) | (simp; omega)) _)))).mono ?_
    rintro e w1 ⟨rfl, hb1⟩
    have z0 : w1.cell? ⟨w.heap.size, 0, none⟩ = some (.int .i64 0) := keep hb1 (by simp [go_sem])
    have z1 : w1.cell? ⟨w.heap.size, 1, none⟩ = some (.int .i64 0) := keep hb1 (by simp [go_sem])
    have z2 : w1.cell? ⟨w.heap.size, 2, none⟩ = some (.slice none 0 0) := keep hb1 (by simp [go_sem])
    have y0 : w1.frozen? ⟨w.heap.size, 0, none⟩ = false := (hb1.frozen (p := ⟨w.heap.size, 0, none⟩) (by simp)).trans (by simp [go_sem])
    have y1 : w1.frozen? ⟨w.heap.size, 1, none⟩ = false := (hb1.frozen (p := ⟨w.heap.size, 1, none⟩) (by simp)).trans (by simp [go_sem])
    have y2 : w1.frozen? ⟨w.heap.size, 2, none⟩ = false := (hb1.frozen (p := ⟨w.heap.size, 2, none⟩) (by simp)).trans (by simp [go_sem])
    have HB1 := hid ((show Below w.heap.size w _ from (by repeat (first | exact Below.refl _ _ | assumption | refine Below.drew ?_ | refine Below.alloc ?_ (by first | exact Nat.le_refl _ | omega | (simp; done) | (simp; omega)) _ | refine Below.setCell ?_ (by first | exact Nat.le_refl _ | omega | (simp; done) | (simp; omega)) _))).trans (hb1.mono (by simp)))
    clear hb1 hc e1 e2
    rw [HRC.out]
    have HB3 := hid (below_set3 HB1.out (R := w.heap.size) (Nat.le_refl _) (.int .i64 0) (.int .i64 0) (.slice none 0 0))
    go_wp2
    refine bodyPost_ret (v := .tuple #[.agg #[.int .i64 0, .int .i64 0, .slice none 0 0], .int .i64 rc]) (by simp [results, Try.results5, go_sem, z0, z1, z2]) rfl ⟨none, 0, 0, rfl, HB3.out, Ow.none _ _ rfl _ _⟩
  · have hc' : rowsC d A B la lb = 0 := by simpa using hc
    have hfacts : la = lb ∧ allOk d A la = true := by
      unfold rowsC at hc'
      split at hc'
      · omega
      · split at hc'
        · omega
        · split at hc'
          · omega
          · rename_i h1 h2 h3
            refine ⟨by omega, ?_⟩
            cases h : allOk d A la with
            | true => rfl
            | false => exact absurd (.inl h) h3
    obtain ⟨rfl, hok⟩ := hfacts
    have HKd := hid (allOk_kind HA.out hok)
    have e1 : equalC d A B la la = ansC (okB (d + 3 * la) (eqT A B (cT 1) la) 1 0) := if_neg hc
    have e2 : equalAns d A B la la = ansT (okB (d + 3 * la) (eqT A B (cT 1) la) 1 0) (eqT A B (cT 1) la) := if_neg hc
    rw [e1, e2]
    clear hc e1 e2 hok
    obtain ⟨t, hT⟩ : ∃ t, eqT A B (cT 1) la = t := ⟨_, rfl⟩
    rw [hT]
    obtain ⟨t3, hT3⟩ : ∃ t3, ansT (okB (d + 3 * la) t 1 0) t = t3 := ⟨_, rfl⟩
    obtain ⟨k3, hK3⟩ : ∃ k3, ansC (okB (d + 3 * la) t 1 0) = k3 := ⟨_, rfl⟩
    rw [hT3, hK3]
    have HT := hid hT
    have HT3 := hid hT3
    have HK3 := hid hK3
    clear hT hT3 hK3
    go_enter Try.func5, Try.ntmps5
    go_wp2_with fail
    refine (fault_impl d A B aA aB la la cA cB _ (HA.out.below (by repeat (first | exact Below.refl _ _ | assumption | refine Below.drew ?_ | refine Below.alloc ?_ (by first | exact Nat.le_refl _ | omega | (simp; done) | (simp; omega)) _ | refine Below.setCell ?_ (by first | exact Nat.le_refl _ | omega | (simp; done) | (simp; omega)) _))) (HB.out.below (by repeat (first | exact Below.refl _ _ | assumption | refine Below.drew ?_ | refine Below.alloc ?_ (by first | exact Nat.le_refl _ | omega | (simp; done) | (simp; omega)) _ | refine Below.setCell ?_ (by first | exact Nat.le_refl _ | omega | (simp; done) | (simp; omega)) _)))).mono ?_
    rintro e w1 ⟨rfl, hb1⟩
    have z0 : w1.cell? ⟨w.heap.size, 0, none⟩ = some (.int .i64 0) := keep hb1 (by simp [go_sem])
    have z1 : w1.cell? ⟨w.heap.size, 1, none⟩ = some (.int .i64 0) := keep hb1 (by simp [go_sem])
    have z2 : w1.cell? ⟨w.heap.size, 2, none⟩ = some (.slice none 0 0) := keep hb1 (by simp [go_sem])
    have y0 : w1.frozen? ⟨w.heap.size, 0, none⟩ = false := (hb1.frozen (p := ⟨w.heap.size, 0, none⟩) (by simp)).trans (by simp [go_sem])
    have y1 : w1.frozen? ⟨w.heap.size, 1, none⟩ = false := (hb1.frozen (p := ⟨w.heap.size, 1, none⟩) (by simp)).trans (by simp [go_sem])
    have y2 : w1.frozen? ⟨w.heap.size, 2, none⟩ = false := (hb1.frozen (p := ⟨w.heap.size, 2, none⟩) (by simp)).trans (by simp [go_sem])
    have HB1 := hid ((show Below w.heap.size w _ from (by repeat (first | exact Below.refl _ _ | assumption | refine Below.drew ?_ | refine Below.alloc ?_ (by first | exact Nat.le_refl _ | omega | (simp; done) | (simp; omega)) _ | refine Below.setCell ?_ (by first | exact Nat.le_refl _ | omega | (simp; done) | (simp; omega)) _))).trans (hb1.mono (by simp)))
    have hsz : w.heap.size < w1.heap.size := World.block_lt_of_cell? _ _ z0
    clear hb1
    rw [hc']
    clear hc'
    go_wp2_with fail
    refine (equal_rows d A B aA aB la cA cB _ (HA.out.below HB1.out) (HB.out.below HB1.out) HKd.out).mono ?_
    rintro e w2 ⟨a2, l2, c2, rfl, hr2, hb2⟩
    replace z0 := keep hb2 z0
    replace z1 := keep hb2 z1
    replace z2 := keep hb2 z2
    replace y0 := (hb2.frozen (p := ⟨w.heap.size, 0, none⟩) hsz).trans y0
    replace y1 := (hb2.frozen (p := ⟨w.heap.size, 1, none⟩) hsz).trans y1
    replace y2 := (hb2.frozen (p := ⟨w.heap.size, 2, none⟩) hsz).trans y2
    have HB2 := hid (HB1.out.trans (hb2.mono HB1.out.size))
    have HR2 := hid hr2
    have hsz2 : w.heap.size < w2.heap.size := World.block_lt_of_cell? _ _ z0
    clear hb2 hr2
    rw [HT.out] at HR2 ⊢
    go_wp2_with fail
    refine (answered_impl (d + 3 * la) t a2 l2 c2 _ HR2.out).mono ?_
    rintro e w3 ⟨a3, l3, c3, rfl, hb3, ho3⟩
    replace z0 := keep hb3 z0
    replace z1 := keep hb3 z1
    replace z2 := keep hb3 z2
    replace y0 := (hb3.frozen (p := ⟨w.heap.size, 0, none⟩) hsz2).trans y0
    replace y1 := (hb3.frozen (p := ⟨w.heap.size, 1, none⟩) hsz2).trans y1
    replace y2 := (hb3.frozen (p := ⟨w.heap.size, 2, none⟩) hsz2).trans y2
    rw [HT3.out] at ho3
    rw [HT3.out, HK3.out]
    have HO := hid (ho3.kept fun b hb _ => set3_heap w3 (R := w.heap.size) (b := b) (by omega) (.int .i64 (kd t3)) (.int .i64 (nn t3)) (.slice a3 l3 c3))
    have HB3 := hid (below_set3 (HB2.out.trans (hb3.mono HB2.out.size)) (R := w.heap.size) (Nat.le_refl _) (.int .i64 (kd t3)) (.int .i64 (nn t3)) (.slice a3 l3 c3))
    have hs2 := HB2.out.size
    clear hb3 ho3
    go_wp2
    refine bodyPost_ret (v := .tuple #[.agg #[.int .i64 (kd t3), .int .i64 (nn t3), .slice a3 l3 c3], .int .i64 k3]) (by simp [results, Try.results5, go_sem, z0, z1, z2]) rfl ⟨a3, l3, c3, rfl, HB3.out, HO.out.sub fun b hb => ⟨by omega, by simpa [World.setCell] using hb.2⟩⟩

set_option maxHeartbeats 800000 in
theorem less_rows (d : Nat) (A B : T) (aA aB : Option Addr) (l cA cB : Nat) (w : World) (hA : Rd (fun _ => True) 1048576 w (d + 1) A aA l) (hB : Rd (fun _ => True) 1048576 w (d + 1) B aB l) (kA : ∀ i, i < l → kd (kid A i) ≠ 0) :
    Calls Try.prog 13 #[.slice aA l cA, .slice aB l cB] w fun e' w' => ∃ a lr c, e' = .returned (.agg #[.int .i64 (kd (lessT A B (cT 0) l)), .int .i64 (nn (lessT A B (cT 0) l)), .slice a lr c]) ∧ Rd (fun _ => True) 1048576 w' (d + 4 * l) (lessT A B (cT 0) l) a lr ∧ Below w.heap.size w w' := by
  have HA := hid (rd_old hA)
  have HB := hid (rd_old hB)
  have HK := hid kA
  clear hA hB kA
  obtain ⟨t, hT⟩ : ∃ t, lessT A B (cT 0) l = t := ⟨_, rfl⟩
  rw [hT]
  have HT := hid hT
  clear hT
  go_enter Try.func13, Try.ntmps13
  go_wp2_with fail
  refine (const_impl 0 _).mono ?_
  rintro e w1 ⟨rfl, hb1⟩
  have z0 : w1.cell? ⟨w.heap.size, 0, none⟩ = some (.int .i64 0) := keep hb1 (by simp [go_sem])
  have z1 : w1.cell? ⟨w.heap.size, 1, none⟩ = some (.int .i64 0) := keep hb1 (by simp [go_sem])
  have z2 : w1.cell? ⟨w.heap.size, 2, none⟩ = some (.slice none 0 0) := keep hb1 (by simp [go_sem])
  have y0 : w1.frozen? ⟨w.heap.size, 0, none⟩ = false := (hb1.frozen (p := ⟨w.heap.size, 0, none⟩) (by simp)).trans (by simp [go_sem])
  have y1 : w1.frozen? ⟨w.heap.size, 1, none⟩ = false := (hb1.frozen (p := ⟨w.heap.size, 1, none⟩) (by simp)).trans (by simp [go_sem])
  have y2 : w1.frozen? ⟨w.heap.size, 2, none⟩ = false := (hb1.frozen (p := ⟨w.heap.size, 2, none⟩) (by simp)).trans (by simp [go_sem])
  have HB1 := hid ((show Below w.heap.size w _ from (by repeat (first | exact Below.refl _ _ | assumption | refine Below.drew ?_ | refine Below.alloc ?_ (by first | exact Nat.le_refl _ | omega | (simp; done) | (simp; omega)) _ | refine Below.setCell ?_ (by first | exact Nat.le_refl _ | omega | (simp; done) | (simp; omega)) _))).trans (hb1.mono (by simp)))
  have hsz : w.heap.size < w1.heap.size := World.block_lt_of_cell? _ _ z0
  clear hb1
  go_wp2_with fail
  refine (lessT_gathered (fun b => b < w.heap.size) d A B (cT 0) aA aB none l cA cB 0 0 _ ((HA.out.imp fun b hb => hb.2).below HB1.out) ((HB.out.imp fun b hb => hb.2).below HB1.out) (rd_const _ _ _ _) (by decide) HK.out).mono ?_
  rintro e w2 ⟨v, rfl, ⟨a, lr, c, hr, rfl⟩, hb2⟩
  replace z0 := keep hb2 z0
  replace z1 := keep hb2 z1
  replace z2 := keep hb2 z2
  replace y0 := (hb2.frozen (p := ⟨w.heap.size, 0, none⟩) hsz).trans y0
  replace y1 := (hb2.frozen (p := ⟨w.heap.size, 1, none⟩) hsz).trans y1
  replace y2 := (hb2.frozen (p := ⟨w.heap.size, 2, none⟩) hsz).trans y2
  rw [HT.out] at hr ⊢
  have HR := hid (rd_set3 hr (R := w.heap.size) (by simp; omega) (.int .i64 (kd t)) (.int .i64 (nn t)) (.slice a lr c))
  have HB3 := hid (below_set3 (HB1.out.trans (hb2.mono HB1.out.size)) (R := w.heap.size) (Nat.le_refl _) (.int .i64 (kd t)) (.int .i64 (nn t)) (.slice a lr c))
  clear hb2 hr
  go_wp2
  refine bodyPost_ret (v := .agg #[.int .i64 (kd t), .int .i64 (nn t), .slice a lr c]) (by simp [results, Try.results13, go_sem, z0, z1, z2]) rfl ⟨a, lr, c, rfl, HR.out.imp fun _ _ => trivial, HB3.out⟩

/-- The code of LessEx, and its expression. -/
def lessC (d : Nat) (A B : T) (la lb : Nat) : Int := if rowsC d A B la lb ≠ 0 then rowsC d A B la lb else ansC (okB (d + 4 * la) (lessT A B (cT 0) la) 1 0)
def lessAns (d : Nat) (A B : T) (la lb : Nat) : T := if rowsC d A B la lb ≠ 0 then zT else ansT (okB (d + 4 * la) (lessT A B (cT 0) la) 1 0) (lessT A B (cT 0) la)

set_option maxHeartbeats 800000 in
theorem less_impl (d : Nat) (A B : T) (aA aB : Option Addr) (la lb cA cB : Nat) (w : World) (hA : Rd (fun _ => True) 1048576 w (d + 1) A aA la) (hB : Rd (fun _ => True) 1048576 w (d + 1) B aB lb) :
    Calls Try.prog 6 #[.slice aA la cA, .slice aB lb cB] w fun e w' => ∃ a l c, e = .returned (.tuple #[.agg #[.int .i64 (kd (lessAns d A B la lb)), .int .i64 (nn (lessAns d A B la lb)), .slice a l c], .int .i64 (lessC d A B la lb)]) ∧ Below w.heap.size w w' ∧
      Ow w' (d + 4 * la) (lessAns d A B la lb) a l (fun b => w.heap.size ≤ b ∧ b < w'.heap.size) := by
  have HA := hid hA
  have HB := hid hB
  clear hA hB
  by_cases hc : rowsC d A B la lb ≠ 0
  · have e1 : lessC d A B la lb = rowsC d A B la lb := if_pos hc
    have e2 : lessAns d A B la lb = zT := if_pos hc
    rw [e1, e2]
    obtain ⟨rc, hrc⟩ : ∃ rc, rowsC d A B la lb = rc := ⟨_, rfl⟩
    rw [hrc] at hc ⊢
    have HRC := hid hrc
    have dc : (rc != 0) = true := by simp [hc]
    clear hrc
    go_enter Try.func6, Try.ntmps6
    go_wp2_with fail
    refine (fault_impl d A B aA aB la lb cA cB _ (HA.out.below (by repeat (first | exact Below.refl _ _ | assumption | refine Below.drew ?_ | refine Below.alloc ?_ (by first | exact Nat.le_refl _ | omega | (simp; done) | (simp; omega)) _ | refine Below.setCell ?_ (by first | exact Nat.le_refl _ | omega | (simp; done) | (simp; omega)) _))) (HB.out.below (by repeat (first | exact Below.refl _ _ | assumption | refine Below.drew ?_ | refine Below.alloc ?_ (by first | exact Nat.le_refl _ | omega | (simp; done) | (simp; omega)) _ | refine Below.setCell ?_ (by first | exact Nat.le_refl _ | omega | (simp; done) | (simp; omega)) _)))).mono ?_
    rintro e w1 ⟨rfl, hb1⟩
    have z0 : w1.cell? ⟨w.heap.size, 0, none⟩ = some (.int .i64 0) := keep hb1 (by simp [go_sem])
    have z1 : w1.cell? ⟨w.heap.size, 1, none⟩ = some (.int .i64 0) := keep hb1 (by simp [go_sem])
    have z2 : w1.cell? ⟨w.heap.size, 2, none⟩ = some (.slice none 0 0) := keep hb1 (by simp [go_sem])
    have y0 : w1.frozen? ⟨w.heap.size, 0, none⟩ = false := (hb1.frozen (p := ⟨w.heap.size, 0, none⟩) (by simp)).trans (by simp [go_sem])
    have y1 : w1.frozen? ⟨w.heap.size, 1, none⟩ = false := (hb1.frozen (p := ⟨w.heap.size, 1, none⟩) (by simp)).trans (by simp [go_sem])
    have y2 : w1.frozen? ⟨w.heap.size, 2, none⟩ = false := (hb1.frozen (p := ⟨w.heap.size, 2, none⟩) (by simp)).trans (by simp [go_sem])
    have HB1 := hid ((show Below w.heap.size w _ from (by repeat (first | exact Below.refl _ _ | assumption | refine Below.drew ?_ | refine Below.alloc ?_ (by first | exact Nat.le_refl _ | omega | (simp; done) | (simp; omega)) _ | refine Below.setCell ?_ (by first | exact Nat.le_refl _ | omega | (simp; done) | (simp; omega)) _))).trans (hb1.mono (by simp)))
    clear hb1 hc e1 e2
    rw [HRC.out]
    have HB3 := hid (below_set3 HB1.out (R := w.heap.size) (Nat.le_refl _) (.int .i64 0) (.int .i64 0) (.slice none 0 0))
    go_wp2
    refine bodyPost_ret (v := .tuple #[.agg #[.int .i64 0, .int .i64 0, .slice none 0 0], .int .i64 rc]) (by simp [results, Try.results6, go_sem, z0, z1, z2]) rfl ⟨none, 0, 0, rfl, HB3.out, Ow.none _ _ rfl _ _⟩
  · have hc' : rowsC d A B la lb = 0 := by simpa using hc
    have hfacts : la = lb ∧ allOk d A la = true := by
      unfold rowsC at hc'
      split at hc'
      · omega
      · split at hc'
        · omega
        · split at hc'
          · omega
          · rename_i h1 h2 h3
            refine ⟨by omega, ?_⟩
            cases h : allOk d A la with
            | true => rfl
            | false => exact absurd (.inl h) h3
    obtain ⟨rfl, hok⟩ := hfacts
    have HKd := hid (allOk_kind HA.out hok)
    have e1 : lessC d A B la la = ansC (okB (d + 4 * la) (lessT A B (cT 0) la) 1 0) := if_neg hc
    have e2 : lessAns d A B la la = ansT (okB (d + 4 * la) (lessT A B (cT 0) la) 1 0) (lessT A B (cT 0) la) := if_neg hc
    rw [e1, e2]
    clear hc e1 e2 hok
    obtain ⟨t, hT⟩ : ∃ t, lessT A B (cT 0) la = t := ⟨_, rfl⟩
    rw [hT]
    obtain ⟨t3, hT3⟩ : ∃ t3, ansT (okB (d + 4 * la) t 1 0) t = t3 := ⟨_, rfl⟩
    obtain ⟨k3, hK3⟩ : ∃ k3, ansC (okB (d + 4 * la) t 1 0) = k3 := ⟨_, rfl⟩
    rw [hT3, hK3]
    have HT := hid hT
    have HT3 := hid hT3
    have HK3 := hid hK3
    clear hT hT3 hK3
    go_enter Try.func6, Try.ntmps6
    go_wp2_with fail
    refine (fault_impl d A B aA aB la la cA cB _ (HA.out.below (by repeat (first | exact Below.refl _ _ | assumption | refine Below.drew ?_ | refine Below.alloc ?_ (by first | exact Nat.le_refl _ | omega | (simp; done) | (simp; omega)) _ | refine Below.setCell ?_ (by first | exact Nat.le_refl _ | omega | (simp; done) | (simp; omega)) _))) (HB.out.below (by repeat (first | exact Below.refl _ _ | assumption | refine Below.drew ?_ | refine Below.alloc ?_ (by first | exact Nat.le_refl _ | omega | (simp; done) | (simp; omega)) _ | refine Below.setCell ?_ (by first | exact Nat.le_refl _ | omega | (simp; done) | (simp; omega)) _)))).mono ?_
    rintro e w1 ⟨rfl, hb1⟩
    have z0 : w1.cell? ⟨w.heap.size, 0, none⟩ = some (.int .i64 0) := keep hb1 (by simp [go_sem])
    have z1 : w1.cell? ⟨w.heap.size, 1, none⟩ = some (.int .i64 0) := keep hb1 (by simp [go_sem])
    have z2 : w1.cell? ⟨w.heap.size, 2, none⟩ = some (.slice none 0 0) := keep hb1 (by simp [go_sem])
    have y0 : w1.frozen? ⟨w.heap.size, 0, none⟩ = false := (hb1.frozen (p := ⟨w.heap.size, 0, none⟩) (by simp)).trans (by simp [go_sem])
    have y1 : w1.frozen? ⟨w.heap.size, 1, none⟩ = false := (hb1.frozen (p := ⟨w.heap.size, 1, none⟩) (by simp)).trans (by simp [go_sem])
    have y2 : w1.frozen? ⟨w.heap.size, 2, none⟩ = false := (hb1.frozen (p := ⟨w.heap.size, 2, none⟩) (by simp)).trans (by simp [go_sem])
    have HB1 := hid ((show Below w.heap.size w _ from (by repeat (first | exact Below.refl _ _ | assumption | refine Below.drew ?_ | refine Below.alloc ?_ (by first | exact Nat.le_refl _ | omega | (simp; done) | (simp; omega)) _ | refine Below.setCell ?_ (by first | exact Nat.le_refl _ | omega | (simp; done) | (simp; omega)) _))).trans (hb1.mono (by simp)))
    have hsz : w.heap.size < w1.heap.size := World.block_lt_of_cell? _ _ z0
    clear hb1
    rw [hc']
    clear hc'
    go_wp2_with fail
    refine (less_rows d A B aA aB la cA cB _ (HA.out.below HB1.out) (HB.out.below HB1.out) HKd.out).mono ?_
    rintro e w2 ⟨a2, l2, c2, rfl, hr2, hb2⟩
    replace z0 := keep hb2 z0
    replace z1 := keep hb2 z1
    replace z2 := keep hb2 z2
    replace y0 := (hb2.frozen (p := ⟨w.heap.size, 0, none⟩) hsz).trans y0
    replace y1 := (hb2.frozen (p := ⟨w.heap.size, 1, none⟩) hsz).trans y1
    replace y2 := (hb2.frozen (p := ⟨w.heap.size, 2, none⟩) hsz).trans y2
    have HB2 := hid (HB1.out.trans (hb2.mono HB1.out.size))
    have HR2 := hid hr2
    have hsz2 : w.heap.size < w2.heap.size := World.block_lt_of_cell? _ _ z0
    clear hb2 hr2
    rw [HT.out] at HR2 ⊢
    go_wp2_with fail
    refine (answered_impl (d + 4 * la) t a2 l2 c2 _ HR2.out).mono ?_
    rintro e w3 ⟨a3, l3, c3, rfl, hb3, ho3⟩
    replace z0 := keep hb3 z0
    replace z1 := keep hb3 z1
    replace z2 := keep hb3 z2
    replace y0 := (hb3.frozen (p := ⟨w.heap.size, 0, none⟩) hsz2).trans y0
    replace y1 := (hb3.frozen (p := ⟨w.heap.size, 1, none⟩) hsz2).trans y1
    replace y2 := (hb3.frozen (p := ⟨w.heap.size, 2, none⟩) hsz2).trans y2
    rw [HT3.out] at ho3
    rw [HT3.out, HK3.out]
    have HO := hid (ho3.kept fun b hb _ => set3_heap w3 (R := w.heap.size) (b := b) (by omega) (.int .i64 (kd t3)) (.int .i64 (nn t3)) (.slice a3 l3 c3))
    have HB3 := hid (below_set3 (HB2.out.trans (hb3.mono HB2.out.size)) (R := w.heap.size) (Nat.le_refl _) (.int .i64 (kd t3)) (.int .i64 (nn t3)) (.slice a3 l3 c3))
    have hs2 := HB2.out.size
    clear hb3 ho3
    go_wp2
    refine bodyPost_ret (v := .tuple #[.agg #[.int .i64 (kd t3), .int .i64 (nn t3), .slice a3 l3 c3], .int .i64 k3]) (by simp [results, Try.results6, go_sem, z0, z1, z2]) rfl ⟨a3, l3, c3, rfl, HB3.out, HO.out.sub fun b hb => ⟨by omega, by simpa [World.setCell] using hb.2⟩⟩
end Go.Proofs.Ytacamkdcofppcaa.faceImpl
