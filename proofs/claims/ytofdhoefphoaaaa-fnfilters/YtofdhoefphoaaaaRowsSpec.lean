/- Whether rows of expressions are right, of the specification; conditions: none. -/
import Derived.Test.YtofdhoefphoaaaaRowsImpl
import Derived.Test.YtofdhoefphoaaaaCopySpec
import Derived.Test.YtofdhoefphoaaaaTreeSpec
namespace Go.Proofs.Ytofdhoefphoaaaa.rowsSpec
open Go.RowKit Go.Deep Go base trees built heldStore drawn ownTree ownEx ownExE treeSpec rowsImpl copySpec
set_option linter.unusedVariables false

theorem right_kd {d : Nat} {t : T} (h0 : d = 0 → ln t = 0) (h : right d t = true) : kd t ≠ 0 := by
  intro e
  rw [right_eq h0, Bool.and_eq_true] at h
  have h2 := of_decide_eq_true h.1
  rw [e] at h2
  have h3 : kidsOf 0 = -1 := by decide
  omega
/-- The rows of a right expression begin with no 0. -/
theorem ow_nz {w : World} {d l : Nat} {t : T} {a : Option Addr} {S : Nat → Prop} (h : Ow w d t a l S) (hr : right d t = true) : Rd (fun b => S b ∧ ∃ v, w.cell? ⟨b, 0, none⟩ = some v ∧ v ≠ .int .i64 0) 1048576 w d t a l := by
  induction d generalizing t a l S with
  | zero => exact h
  | succ d ih =>
    refine ⟨h.1, h.2.1, fun i hi => ?_⟩
    obtain ⟨g, f, Sk, e, hg, _, hS, _, hc⟩ := h.2.2 (by omega)
    obtain ⟨⟨c0, c1, c2⟩, ho⟩ := hc i hi
    have hrk : ∀ j, j < l → right d (kid t j) = true := fun j hj => by
      rw [right_eq (d := d + 1) (fun e => by omega), Bool.and_eq_true] at hr
      exact allTo_true hr.2 (by rw [h.1]; exact hj)
    have hz : kd (kid t 0) ≠ 0 := right_kd (hc 0 (by omega)).2.zero (hrk 0 (by omega))
    refine ⟨g, 0, e, ⟨hg, _, by simpa using (hc 0 (by omega)).1.1, fun e => hz (by injection e)⟩, by simpa using c0, by simpa using c1, (f i).1, (f i).2.1, (f i).2.2, by simpa using c2, (ih ho (hrk i hi)).imp fun b hb => ⟨(hS i b hi hb.1).1, hb.2⟩⟩
theorem allOk_right {d l : Nat} {t : T} (h : allOk d t l = true) : ∀ i, i < l → right d (kid t i) = true := fun i hi => (okB_iff.1 (allTo_true h hi)).2.2
end Go.Proofs.Ytofdhoefphoaaaa.rowsSpec
