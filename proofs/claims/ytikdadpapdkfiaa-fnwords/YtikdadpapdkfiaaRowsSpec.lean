/- Whether rows of expressions are right, of the specification; conditions: none. -/
import Derived.Test.YtikdadpapdkfiaaRowsImpl
import Derived.Test.YtikdadpapdkfiaaCopySpec
import Derived.Test.YtikdadpapdkfiaaTreeSpec
namespace Go.Proofs.Ytikdadpapdkfiaa.rowsSpec
open Go.RowKit Go.Deep Go base trees built heldStore drawn ownTree ownEx ownExE treeSpec rowsImpl copySpec
set_option linter.unusedVariables false

set_option maxHeartbeats 800000 in
theorem fits_spec (d : Nat) (t : T) (a : Option Addr) (l c : Nat) (w : World) (hr : Rd (fun _ => True) 1048576 w (d + 1) t a l) :
    Calls Try.prog 28 #[.slice a l c] w fun e w' => e = .returned (.bool (allOk d t l)) ∧ Below w.heap.size w w' := by
  have hmost := hr.most
  have HR := hid hr
  clear hr
  go_enter Try.func28, Try.ntmps28
  go_wp2
  go_loopw [3] (fun i wr => ∃ k : Nat, k ≤ l ∧ i = .int .i64 k ∧ Below w.heap.size w wr ∧ ∀ x, x < k → okB d (kid t x) 1 0 = true) (fun i _ => l - (intOf i).toNat)
  case atStart => exact ⟨0, Nat.zero_le _, rfl, Below.refl _ _, fun x hx => absurd hx (Nat.not_lt_zero _)⟩
  case round =>
    obtain ⟨k, hk, rfl, hb, ha⟩ := hrel
    have HA := hid ha
    have HB := hid hb
    clear ha hb
    by_cases hlt : k < l
    · obtain ⟨hd0, bb, off, rfl, hq, hc0, hc1, a', l', c', hc2, hrow⟩ := HR.out.cell hlt
      replace hc0 := keep HB.out hc0
      replace hc1 := keep HB.out hc1
      replace hc2 := keep HB.out hc2
      have HX := hid (hrow.below HB.out)
      clear hrow
      cases hok : okB d (kid t k) 1 0 with
      | false =>
        go_wp2_with fail
        refine (exOK_spec d (kid t k) a' l' c' _ (HX.out.below (by repeat (first | exact Below.refl _ _ | assumption | refine Below.drew ?_ | refine Below.alloc ?_ (by first | exact Nat.le_refl _ | omega | (simp; done) | (simp; omega)) _ | refine Below.setCell ?_ (by first | exact Nat.le_refl _ | omega | (simp; done) | (simp; omega)) _)))).mono ?_
        rintro e w1 ⟨rfl, hb1⟩
        have HB1 := hid (HB.out.trans (hb1.mono HB.out.size))
        clear hb1
        rw [hok]
        go_wp2
        go_ret
        exact ⟨ret_bool (allTo_false (f := fun i => okB d (kid t i) 1 0) hlt hok).symm, HB1.out⟩
      | true =>
        go_wp2_with fail
        refine (exOK_spec d (kid t k) a' l' c' _ (HX.out.below (by repeat (first | exact Below.refl _ _ | assumption | refine Below.drew ?_ | refine Below.alloc ?_ (by first | exact Nat.le_refl _ | omega | (simp; done) | (simp; omega)) _ | refine Below.setCell ?_ (by first | exact Nat.le_refl _ | omega | (simp; done) | (simp; omega)) _)))).mono ?_
        rintro e w1 ⟨rfl, hb1⟩
        have HB1 := hid (HB.out.trans (hb1.mono HB.out.size))
        clear hb1
        rw [hok]
        go_wp2
        go_roundw
        case rel =>
          refine ⟨k + 1, by omega, by go_num, HB1.out, fun x hx => ?_⟩
          by_cases e : x = k
          · subst e; exact hok
          · exact HA.out x (by omega)
        case measure => simp [intOf]; omega
    · have e : k = l := by omega
      subst e
      go_wp2
      go_ret
      exact ⟨ret_bool (allTo_of (f := fun i => okB d (kid t i) 1 0) HA.out).symm, HB.out⟩

theorem right_kd {d : Nat} {t : T} (h0 : d = 0 → ln t = 0) (h : right d t = true) : kd t ≠ 0 := by
  intro e
  rw [right_eq h0, Bool.and_eq_true] at h
  have h2 := of_decide_eq_true h.1
  rw [e] at h2
  have h3 : kidsOf 0 = -1 := by decide
  omega
/-- The rows of a right expression begin with no 0. -/
theorem ow_nz {w : World} {d l : Nat} {t : T} {a : Option Addr} {S : Nat → Prop} (h : Ow w d t a l S) (hr : right d t = true) : Rd (fun b => S b ∧ ∃ v, w.cell? ⟨b, 0, none⟩ = some v ∧ v ≠ .int .i64 0) 1048576 w d t a l := by
  induction d generalizing t a l S with
  | zero => exact h
  | succ d ih =>
    refine ⟨h.1, h.2.1, fun i hi => ?_⟩
    obtain ⟨g, f, Sk, e, hg, _, hS, _, hc⟩ := h.2.2 (by omega)
    obtain ⟨⟨c0, c1, c2⟩, ho⟩ := hc i hi
    have hrk : ∀ j, j < l → right d (kid t j) = true := fun j hj => by
      rw [right_eq (d := d + 1) (fun e => by omega), Bool.and_eq_true] at hr
      exact allTo_true hr.2 (by rw [h.1]; exact hj)
    have hz : kd (kid t 0) ≠ 0 := right_kd (hc 0 (by omega)).2.zero (hrk 0 (by omega))
    refine ⟨g, 0, e, ⟨hg, _, by simpa using (hc 0 (by omega)).1.1, fun e => hz (by injection e)⟩, by simpa using c0, by simpa using c1, (f i).1, (f i).2.1, (f i).2.2, by simpa using c2, (ih ho (hrk i hi)).imp fun b hb => ⟨(hS i b hi hb.1).1, hb.2⟩⟩
theorem allOk_right {d l : Nat} {t : T} (h : allOk d t l = true) : ∀ i, i < l → right d (kid t i) = true := fun i hi => (okB_iff.1 (allTo_true h hi)).2.2
end Go.Proofs.Ytikdadpapdkfiaa.rowsSpec
