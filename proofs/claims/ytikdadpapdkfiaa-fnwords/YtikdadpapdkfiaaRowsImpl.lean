/- EqualEx and LessEx of the program: for all rows of expressions that lie in memory; conditions: none. -/
import Derived.Test.YtikdadpapdkfiaaLessImpl
import Derived.Test.YtikdadpapdkfiaaOwnExE
import Derived.Test.YtikdadpapdkfiaaTreeImpl
namespace Go.Proofs.Ytikdadpapdkfiaa.rowsImpl
open Go.RowKit Go.Deep Go base trees built heldStore drawn ownTree ownEx ownExE equalImpl lessImpl treeImpl
set_option linter.unusedVariables false

/-- All expressions of a row are right. -/
def allOk (d : Nat) (t : T) (l : Nat) : Bool := allTo (fun i => okB d (kid t i) 1 0) l
theorem ok_kind {d : Nat} {t : T} (h0 : d = 0 → ln t = 0) (h : okB d t 1 0 = true) : kd t ≠ 0 := by
  intro e
  have h1 := (okB_iff.1 h).2.2
  rw [right_eq h0, Bool.and_eq_true] at h1
  have h2 := of_decide_eq_true h1.1
  rw [e] at h2
  have h3 : kidsOf 0 = -1 := by decide
  omega
theorem allOk_kind {q : Nat → Prop} {M d l : Nat} {w : World} {t : T} {a : Option Addr} (hr : Rd q M w (d + 1) t a l) (h : allOk d t l = true) : ∀ i, i < l → kd (kid t i) ≠ 0 := by
  intro i hi
  obtain ⟨_, _, _, _, _, _, _, _, _, _, _, hx⟩ := hr.cell hi
  exact ok_kind hx.zero (allTo_true h hi)
set_option maxHeartbeats 800000 in
theorem all_impl (d : Nat) (t : T) (a : Option Addr) (l c : Nat) (w : World) (hr : Rd (fun _ => True) 1048576 w (d + 1) t a l) :
    Calls Try.prog 23 #[.slice a l c, .func (.func 24) #[] #[]] w fun e w' => e = .returned (.bool (allOk d t l)) ∧ Below w.heap.size w w' := by
  have hmost := hr.most
  have HR := hid hr
  clear hr
  go_enter Try.func23, Try.ntmps23
  go_wp2
  go_loopw [9] (fun i wr => ∃ k : Nat, k ≤ l ∧ i = .int .i64 k ∧ Below w.heap.size w wr ∧ ∀ x, x < k → okB d (kid t x) 1 0 = true) (fun i _ => l - (intOf i).toNat)
  case atStart => exact ⟨0, Nat.zero_le _, rfl, Below.refl _ _, fun x hx => absurd hx (Nat.not_lt_zero _)⟩
  case round =>
    obtain ⟨k, hk, rfl, hb, ha⟩ := hrel
    have HA := hid ha
    have HB := hid hb
    clear ha hb
    by_cases hlt : k < l
    · obtain ⟨hd0, bb, off, rfl, hq, hc0, hc1, a', l', c', hc2, hrow⟩ := HR.out.cell hlt
      replace hc0 := keep HB.out hc0
      replace hc1 := keep HB.out hc1
      replace hc2 := keep HB.out hc2
      have HX := hid (hrow.below HB.out)
      clear hrow
      cases hok : okB d (kid t k) 1 0 with
      | false =>
        go_wp2_with fail
        refine (exOK_impl d (kid t k) a' l' c' _ (HX.out.below (by repeat (first | exact Below.refl _ _ | assumption | refine Below.drew ?_ | refine Below.alloc ?_ (by first | exact Nat.le_refl _ | omega | (simp; done) | (simp; omega)) _ | refine Below.setCell ?_ (by first | exact Nat.le_refl _ | omega | (simp; done) | (simp; omega)) _)))).mono ?_
        rintro e w1 ⟨rfl, hb1⟩
        have HB1 := hid (HB.out.trans (((show Below wr.heap.size wr _ from (by repeat (first | exact Below.refl _ _ | assumption | refine Below.drew ?_ | refine Below.alloc ?_ (by first | exact Nat.le_refl _ | omega | (simp; done) | (simp; omega)) _ | refine Below.setCell ?_ (by first | exact Nat.le_refl _ | omega | (simp; done) | (simp; omega)) _))).trans (hb1.mono (by simp))).mono HB.out.size))
        clear hb1
        rw [hok]
        go_wp2
        go_ret
        exact ⟨ret_bool (allTo_false (f := fun i => okB d (kid t i) 1 0) hlt hok).symm, HB1.out⟩
      | true =>
        go_wp2_with fail
        refine (exOK_impl d (kid t k) a' l' c' _ (HX.out.below (by repeat (first | exact Below.refl _ _ | assumption | refine Below.drew ?_ | refine Below.alloc ?_ (by first | exact Nat.le_refl _ | omega | (simp; done) | (simp; omega)) _ | refine Below.setCell ?_ (by first | exact Nat.le_refl _ | omega | (simp; done) | (simp; omega)) _)))).mono ?_
        rintro e w1 ⟨rfl, hb1⟩
        have HB1 := hid (HB.out.trans (((show Below wr.heap.size wr _ from (by repeat (first | exact Below.refl _ _ | assumption | refine Below.drew ?_ | refine Below.alloc ?_ (by first | exact Nat.le_refl _ | omega | (simp; done) | (simp; omega)) _ | refine Below.setCell ?_ (by first | exact Nat.le_refl _ | omega | (simp; done) | (simp; omega)) _))).trans (hb1.mono (by simp))).mono HB.out.size))
        clear hb1
        rw [hok]
        go_wp2
        go_roundw
        case rel =>
          refine ⟨k + 1, by omega, by go_num, HB1.out, fun x hx => ?_⟩
          by_cases e : x = k
          · subst e; exact hok
          · exact HA.out x (by omega)
        case measure => simp [intOf]; omega
    · have e : k = l := by omega
      subst e
      go_wp2
      go_ret
      exact ⟨ret_bool (allTo_of (f := fun i => okB d (kid t i) 1 0) HA.out).symm, HB.out⟩

/-- The code of two rows of expressions that are held against each other. -/
def rowsC (d : Nat) (A B : T) (la lb : Nat) : Int := if 4096 < la ∨ 4096 < lb then 2 else if la ≠ lb ∨ 6 < la then 5 else if allOk d A la = false ∨ allOk d B lb = false then 1 else 0
/-- What is answered where there is a fault. -/
def zT : T := mkT 0 0 0 fun _ _ => (0, 0, 0)
def ansT (ok : Bool) (t : T) : T := if ok = true then t else zT
def ansC (ok : Bool) : Int := if ok = true then 0 else 11
end Go.Proofs.Ytikdadpapdkfiaa.rowsImpl
