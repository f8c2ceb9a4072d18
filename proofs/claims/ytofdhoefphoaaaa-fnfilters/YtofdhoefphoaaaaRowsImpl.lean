/- EqualEx and LessEx of the program: for all rows of expressions that lie in memory; conditions: none. -/
import Derived.Test.YtofdhoefphoaaaaLessImpl
import Derived.Test.YtofdhoefphoaaaaOwnExE
import Derived.Test.YtofdhoefphoaaaaTreeImpl
namespace Go.Proofs.Ytofdhoefphoaaaa.rowsImpl
open Go.RowKit Go.Deep Go base trees built heldStore drawn ownTree ownEx ownExE equalImpl lessImpl treeImpl
set_option linter.unusedVariables false

/-- All expressions of a row are right. -/
def allOk (d : Nat) (t : T) (l : Nat) : Bool := allTo (fun i => okB d (kid t i) 1 0) l
theorem ok_kind {d : Nat} {t : T} (h0 : d = 0 → ln t = 0) (h : okB d t 1 0 = true) : kd t ≠ 0 := by
  intro e
  have h1 := (okB_iff.1 h).2.2
  rw [right_eq h0, Bool.and_eq_true] at h1
  have h2 := of_decide_eq_true h1.1
  rw [e] at h2
  have h3 : kidsOf 0 = -1 := by decide
  omega
theorem allOk_kind {q : Nat → Prop} {M d l : Nat} {w : World} {t : T} {a : Option Addr} (hr : Rd q M w (d + 1) t a l) (h : allOk d t l = true) : ∀ i, i < l → kd (kid t i) ≠ 0 := by
  intro i hi
  obtain ⟨_, _, _, _, _, _, _, _, _, _, _, hx⟩ := hr.cell hi
  exact ok_kind hx.zero (allTo_true h hi)
/-- The code of two rows of expressions that are held against each other. -/
def rowsC (d : Nat) (A B : T) (la lb : Nat) : Int := if 4096 < la ∨ 4096 < lb then 2 else if la ≠ lb ∨ 6 < la then 5 else if allOk d A la = false ∨ allOk d B lb = false then 1 else 0
/-- What is answered where there is a fault. -/
def zT : T := mkT 0 0 0 fun _ _ => (0, 0, 0)
def ansT (ok : Bool) (t : T) : T := if ok = true then t else zT
def ansC (ok : Bool) : Int := if ok = true then 0 else 11
set_option maxHeartbeats 800000 in
theorem answered_impl (D : Nat) (t : T) (a : Option Addr) (l c : Nat) (w : World) (hr : Rd (fun _ => True) 1048576 w D t a l) :
    Calls Try.prog 18 #[.agg #[.int .i64 (kd t), .int .i64 (nn t), .slice a l c]] w fun e w' => ∃ a' l' c', e = .returned (.tuple #[.agg #[.int .i64 (kd (ansT (okB D t 1 0) t)), .int .i64 (nn (ansT (okB D t 1 0) t)), .slice a' l' c'], .int .i64 (ansC (okB D t 1 0))]) ∧ Below w.heap.size w w' ∧
      Ow w' D (ansT (okB D t 1 0) t) a' l' (fun b => w.heap.size ≤ b ∧ b < w'.heap.size) := by
  have HR := hid hr
  clear hr
  cases ho : okB D t 1 0 with
  | false =>
    have e1 : ansT false t = zT := rfl
    have e2 : ansC false = 11 := rfl
    rw [e1, e2]
    go_enter Try.func18, Try.ntmps18
    go_wp2_with fail
    refine (exOK_impl D t a l c _ (HR.out.below (by repeat (first | exact Below.refl _ _ | assumption | refine Below.drew ?_ | refine Below.alloc ?_ (by first | exact Nat.le_refl _ | omega | (simp; done) | (simp; omega)) _ | refine Below.setCell ?_ (by first | exact Nat.le_refl _ | omega | (simp; done) | (simp; omega)) _)))).mono ?_
    rintro e w1 ⟨rfl, hb1⟩
    have z0 : w1.cell? ⟨w.heap.size + 1, 0, none⟩ = some (.int .i64 0) := keep hb1 (by simp [go_sem])
    have z1 : w1.cell? ⟨w.heap.size + 1, 1, none⟩ = some (.int .i64 0) := keep hb1 (by simp [go_sem])
    have z2 : w1.cell? ⟨w.heap.size + 1, 2, none⟩ = some (.slice none 0 0) := keep hb1 (by simp [go_sem])
    have y0 : w1.frozen? ⟨w.heap.size + 1, 0, none⟩ = false := (hb1.frozen (p := ⟨w.heap.size + 1, 0, none⟩) (by simp)).trans (by simp [go_sem])
    have y1 : w1.frozen? ⟨w.heap.size + 1, 1, none⟩ = false := (hb1.frozen (p := ⟨w.heap.size + 1, 1, none⟩) (by simp)).trans (by simp [go_sem])
    have y2 : w1.frozen? ⟨w.heap.size + 1, 2, none⟩ = false := (hb1.frozen (p := ⟨w.heap.size + 1, 2, none⟩) (by simp)).trans (by simp [go_sem])
    have HB1 := hid ((show Below w.heap.size w _ from (by repeat (first | exact Below.refl _ _ | assumption | refine Below.drew ?_ | refine Below.alloc ?_ (by first | exact Nat.le_refl _ | omega | (simp; done) | (simp; omega)) _ | refine Below.setCell ?_ (by first | exact Nat.le_refl _ | omega | (simp; done) | (simp; omega)) _))).trans (hb1.mono (by simp; omega)))
    clear hb1
    rw [ho]
    have HB3 := hid (below_set3 HB1.out (R := w.heap.size + 1) (by omega) (.int .i64 0) (.int .i64 0) (.slice none 0 0))
    go_wp2
    refine bodyPost_ret (v := .tuple #[.agg #[.int .i64 0, .int .i64 0, .slice none 0 0], .int .i64 11]) (by simp [results, Try.results18, go_sem, z0, z1, z2]) rfl ⟨none, 0, 0, rfl, HB3.out, Ow.none _ _ rfl _ _⟩
  | true =>
    have e1 : ansT true t = t := rfl
    have e2 : ansC true = 0 := rfl
    rw [e1, e2]
    go_enter Try.func18, Try.ntmps18
    go_wp2_with fail
    refine (exOK_impl D t a l c _ (HR.out.below (by repeat (first | exact Below.refl _ _ | assumption | refine Below.drew ?_ | refine Below.alloc ?_ (by first | exact Nat.le_refl _ | omega | (simp; done) | (simp; omega)) _ | refine Below.setCell ?_ (by first | exact Nat.le_refl _ | omega | (simp; done) | (simp; omega)) _)))).mono ?_
    rintro e w1 ⟨rfl, hb1⟩
    have x0 : w1.cell? ⟨w.heap.size, 0, none⟩ = some (.int .i64 (kd t)) := keep hb1 (by simp [go_sem])
    have x1 : w1.cell? ⟨w.heap.size, 1, none⟩ = some (.int .i64 (nn t)) := keep hb1 (by simp [go_sem])
    have x2 : w1.cell? ⟨w.heap.size, 2, none⟩ = some (.slice a l c) := keep hb1 (by simp [go_sem])
    have z0 : w1.cell? ⟨w.heap.size + 1, 0, none⟩ = some (.int .i64 0) := keep hb1 (by simp [go_sem])
    have z1 : w1.cell? ⟨w.heap.size + 1, 1, none⟩ = some (.int .i64 0) := keep hb1 (by simp [go_sem])
    have z2 : w1.cell? ⟨w.heap.size + 1, 2, none⟩ = some (.slice none 0 0) := keep hb1 (by simp [go_sem])
    have y0 : w1.frozen? ⟨w.heap.size + 1, 0, none⟩ = false := (hb1.frozen (p := ⟨w.heap.size + 1, 0, none⟩) (by simp)).trans (by simp [go_sem])
    have y1 : w1.frozen? ⟨w.heap.size + 1, 1, none⟩ = false := (hb1.frozen (p := ⟨w.heap.size + 1, 1, none⟩) (by simp)).trans (by simp [go_sem])
    have y2 : w1.frozen? ⟨w.heap.size + 1, 2, none⟩ = false := (hb1.frozen (p := ⟨w.heap.size + 1, 2, none⟩) (by simp)).trans (by simp [go_sem])
    have HB1 := hid ((show Below w.heap.size w _ from (by repeat (first | exact Below.refl _ _ | assumption | refine Below.drew ?_ | refine Below.alloc ?_ (by first | exact Nat.le_refl _ | omega | (simp; done) | (simp; omega)) _ | refine Below.setCell ?_ (by first | exact Nat.le_refl _ | omega | (simp; done) | (simp; omega)) _))).trans (hb1.mono (by simp; omega)))
    have hsz : w.heap.size + 1 < w1.heap.size := World.block_lt_of_cell? _ _ z0
    clear hb1
    rw [ho]
    go_wp2_with fail
    refine (ownE D t a l c _ (HR.out.below HB1.out)).mono ?_
    rintro e w2 ⟨a', c', rfl, hb2, ho2⟩
    replace z0 := keep hb2 z0
    replace z1 := keep hb2 z1
    replace z2 := keep hb2 z2
    replace y0 := (hb2.frozen (p := ⟨w.heap.size + 1, 0, none⟩) hsz).trans y0
    replace y1 := (hb2.frozen (p := ⟨w.heap.size + 1, 1, none⟩) hsz).trans y1
    replace y2 := (hb2.frozen (p := ⟨w.heap.size + 1, 2, none⟩) hsz).trans y2
    have HO := hid (ho2.kept fun b hb _ => set3_heap w2 (R := w.heap.size + 1) (b := b) (by omega) (.int .i64 (kd t)) (.int .i64 (nn t)) (.slice a' l c'))
    have HB3 := hid (below_set3 (HB1.out.trans (hb2.mono HB1.out.size)) (R := w.heap.size + 1) (by omega) (.int .i64 (kd t)) (.int .i64 (nn t)) (.slice a' l c'))
    clear hb2 ho2
    go_wp2
    refine bodyPost_ret (v := .tuple #[.agg #[.int .i64 (kd t), .int .i64 (nn t), .slice a' l c'], .int .i64 0]) (by simp [results, Try.results18, go_sem, z0, z1, z2]) rfl ⟨a', l, c', rfl, HB3.out, HO.out.sub fun b hb => ⟨by omega, by simpa [World.setCell] using hb.2⟩⟩
end Go.Proofs.Ytofdhoefphoaaaa.rowsImpl
