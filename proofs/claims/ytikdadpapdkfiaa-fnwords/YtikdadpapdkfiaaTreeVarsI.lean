/- The greatest variable of an expression, of the program and of the specification; EvalEx of both; conditions: none. -/
import Derived.Test.YtikdadpapdkfiaaTreeEval
import Derived.Test.YtikdadpapdkfiaaTreeImpl
namespace Go.Proofs.Ytikdadpapdkfiaa.treeVars
open Go.RowKit Go.Deep base trees treeEval treeImpl
set_option linter.unusedVariables false

def HasE (d : Nat) : Prop := ∀ (t : T) (a : Option Addr) (l c n : Nat) (w : World), Rd (fun _ => True) 1048576 w d t a l → right d t = true →
    Calls Try.prog 30 #[.agg #[.int .i64 (kd t), .int .i64 (nn t), .slice a l c], .int .i64 (n : Int)] w fun e w' => e = .returned (.bool (decide ((n : Int) ≤ mostV d t))) ∧ Below w.heap.size w w'

set_option maxHeartbeats 800000 in
theorem hasE (d : Nat) : HasE d := by
  induction d using Nat.strongRecOn with
  | _ d ih =>
  intro t a l c n w hr hR
  have HL := hid hr.len
  have HZ := hid hr.zero
  have hmost := hr.most
  have HR := hid hr
  have HI := hid ih
  have HRT := hid hR
  have hsh := shape_cases (right_shape hr.zero hR)
  rw [hr.len] at hsh
  clear hr ih hR
  by_cases h1 : kd t = 1
  · have hl : l = 0 := by omega
    subst hl
    have hM : mostV d t = nn t := by rw [mostV_eq HZ.out, if_pos h1]
    rw [hM, h1]
    clear hM h1 hsh HR HL HZ HRT
    generalize nn t = nk at *
    by_cases h2 : (n : Int) ≤ nk
    · have d2 : decide ((n : Int) ≤ nk) = true := decide_eq_true h2
      rw [d2]
      go_enter Try.func30, Try.ntmps30
      go_wp2
      go_ret
      exact ⟨rfl, (by repeat (first | exact Below.refl _ _ | assumption | refine Below.drew ?_ | refine Below.alloc ?_ (by first | exact Nat.le_refl _ | omega | (simp; done) | (simp; omega)) _ | refine Below.setCell ?_ (by first | exact Nat.le_refl _ | omega | (simp; done) | (simp; omega)) _))⟩
    · have d2 : decide ((n : Int) ≤ nk) = false := decide_eq_false h2
      rw [d2]
      go_enter Try.func30, Try.ntmps30
      go_wp2
      go_loopw [19] (fun i wr => i = .int .i64 0 ∧ Below w.heap.size w wr) (fun i _ => 0)
      case atStart => exact ⟨rfl, (by repeat (first | exact Below.refl _ _ | assumption | refine Below.drew ?_ | refine Below.alloc ?_ (by first | exact Nat.le_refl _ | omega | (simp; done) | (simp; omega)) _ | refine Below.setCell ?_ (by first | exact Nat.le_refl _ | omega | (simp; done) | (simp; omega)) _))⟩
      case round =>
        obtain ⟨rfl, hb⟩ := hrel
        have HB := hid hb
        clear hb
        go_wp2
        go_ret
        exact ⟨rfl, HB.out⟩
  have hM : mostV d t = maxI (fun i => mostV (d - 1) (kid t i)) (ln t) := by rw [mostV_eq HZ.out, if_neg h1]
  rw [hM, HL.out]
  have e1 : (kd t == 1) = false := by simp [h1]
  clear hM hsh h1
  generalize kd t = kk at *
  generalize nn t = nk at *
  generalize hm : maxI (fun i => mostV (d - 1) (kid t i)) l = m at *
  have HM := hid hm
  clear hm
  go_enter Try.func30, Try.ntmps30
  go_wp2
  go_loopw [19] (fun i wr => ∃ j : Nat, j ≤ l ∧ i = .int .i64 j ∧ Below w.heap.size w wr ∧ ∀ x, x < j → mostV (d - 1) (kid t x) < (n : Int)) (fun i _ => l - (intOf i).toNat)
  case atStart => exact ⟨0, Nat.zero_le _, rfl, (by repeat (first | exact Below.refl _ _ | assumption | refine Below.drew ?_ | refine Below.alloc ?_ (by first | exact Nat.le_refl _ | omega | (simp; done) | (simp; omega)) _ | refine Below.setCell ?_ (by first | exact Nat.le_refl _ | omega | (simp; done) | (simp; omega)) _)), fun x hx => absurd hx (Nat.not_lt_zero _)⟩
  case round =>
    obtain ⟨j, hj, rfl, hb, ha⟩ := hrel
    have HB := hid hb
    have HA := hid ha
    clear hb ha
    by_cases hlt : j < l
    · obtain ⟨hd0, b, off, rfl, hq, hc0, hc1, a', l', c', hc2, hrow⟩ := HR.out.cell hlt
      replace hc0 := keep HB.out hc0
      replace hc1 := keep HB.out hc1
      replace hc2 := keep HB.out hc2
      have hbr := World.block_lt_of_cell? _ _ hc0
      have HX := hid (hrow.below HB.out)
      have HIE := hid (HI.out (d - 1) (by omega))
      have HRK := hid (right_kid HZ.out HRT.out (i := j) (by rw [HL.out]; exact hlt))
      clear hrow
      by_cases hv : (n : Int) ≤ mostV (d - 1) (kid t j)
      · have d2 : decide ((n : Int) ≤ mostV (d - 1) (kid t j)) = true := decide_eq_true hv
        go_wp2_with fail
        refine (HIE.out (kid t j) a' l' c' n _ (HX.out.below (by repeat (first | exact Below.refl _ _ | assumption | refine Below.drew ?_ | refine Below.alloc ?_ (by first | exact Nat.le_refl _ | omega | (simp; done) | (simp; omega)) _ | refine Below.setCell ?_ (by first | exact Nat.le_refl _ | omega | (simp; done) | (simp; omega)) _))) HRK.out).mono ?_
        rintro e w1 ⟨rfl, hb1⟩
        have HB1 := hid (HB.out.trans (((show Below wr.heap.size wr _ from (by repeat (first | exact Below.refl _ _ | assumption | refine Below.drew ?_ | refine Below.alloc ?_ (by first | exact Nat.le_refl _ | omega | (simp; done) | (simp; omega)) _ | refine Below.setCell ?_ (by first | exact Nat.le_refl _ | omega | (simp; done) | (simp; omega)) _))).trans (hb1.mono (by simp))).mono HB.out.size))
        clear hb1
        rw [d2]
        go_wp2
        go_ret
        refine ⟨ret_bool ?_, HB1.out⟩
        have := maxI_le (f := fun i => mostV (d - 1) (kid t i)) hlt
        rw [HM.out] at this
        exact (decide_eq_true (Int.le_trans hv this)).symm
      · have d2 : decide ((n : Int) ≤ mostV (d - 1) (kid t j)) = false := decide_eq_false hv
        go_wp2_with fail
        refine (HIE.out (kid t j) a' l' c' n _ (HX.out.below (by repeat (first | exact Below.refl _ _ | assumption | refine Below.drew ?_ | refine Below.alloc ?_ (by first | exact Nat.le_refl _ | omega | (simp; done) | (simp; omega)) _ | refine Below.setCell ?_ (by first | exact Nat.le_refl _ | omega | (simp; done) | (simp; omega)) _))) HRK.out).mono ?_
        rintro e w1 ⟨rfl, hb1⟩
        have HB1 := hid (HB.out.trans (((show Below wr.heap.size wr _ from (by repeat (first | exact Below.refl _ _ | assumption | refine Below.drew ?_ | refine Below.alloc ?_ (by first | exact Nat.le_refl _ | omega | (simp; done) | (simp; omega)) _ | refine Below.setCell ?_ (by first | exact Nat.le_refl _ | omega | (simp; done) | (simp; omega)) _))).trans (hb1.mono (by simp))).mono HB.out.size))
        clear hb1
        rw [d2]
        go_wp2
        go_roundw
        case rel =>
          refine ⟨j + 1, by omega, by go_num, HB1.out, fun x hx => ?_⟩
          by_cases e : x = j
          · subst e; omega
          · exact HA.out x (by omega)
        case measure => simp [intOf]; omega
    · have e : j = l := by omega
      subst e
      go_wp2
      go_ret
      refine ⟨ret_bool ?_, HB.out⟩
      have := maxI_of (f := fun i => mostV (d - 1) (kid t i)) (n := j) (m := (n : Int) - 1) (by omega) (fun i hi => by have := HA.out i hi; show mostV (d - 1) (kid t i) ≤ _; omega)
      rw [HM.out] at this
      exact (decide_eq_false (by omega)).symm

/-- EvalEx' code, and its value. -/
def evC (d : Nat) (t : T) (vl : Nat) : Int := if 4096 < vl then 2 else if okB d t 1 0 = false then 1 else if (vl : Int) ≤ mostV d t then 5 else 0
def evB (d : Nat) (t : T) (vl : Nat) (vs : List Bool) : Bool := if evC d t vl = 0 then evalT vs d t else false

set_option maxHeartbeats 800000 in
theorem evalEx_impl (d : Nat) (t : T) (a : Option Addr) (l c : Nat) (va : Option Addr) (vl vc : Nat) (vs : List Bool) (w : World) (hr : Rd (fun _ => True) 1048576 w d t a l) (hv : BoolRow w va vl vs) :
    Calls Try.prog 11 #[.agg #[.int .i64 (kd t), .int .i64 (nn t), .slice a l c], .slice va vl vc] w fun e w' => e = .returned (.tuple #[.bool (evB d t vl vs), .int .i64 (evC d t vl)]) ∧ Below w.heap.size w w' := by
  have hmv := hv.most
  unfold maxLen at hmv
  have HR := hid hr
  have HV := hid hv
  clear hr hv
  by_cases h1 : 4096 < vl
  · have e2 : evC d t vl = 2 := if_pos h1
    have e1 : evB d t vl vs = false := by unfold evB; rw [e2]; rfl
    rw [e1, e2]
    clear e1 e2
    go_enter Try.func11, Try.ntmps11
    go_wp2
    go_ret2
    exact ⟨rfl, (by repeat (first | exact Below.refl _ _ | assumption | refine Below.drew ?_ | refine Below.alloc ?_ (by first | exact Nat.le_refl _ | omega | (simp; done) | (simp; omega)) _ | refine Below.setCell ?_ (by first | exact Nat.le_refl _ | omega | (simp; done) | (simp; omega)) _))⟩
  cases hb : okB d t 1 0 with
  | false =>
    have e2 : evC d t vl = 1 := by unfold evC; rw [if_neg h1, if_pos hb]
    have e1 : evB d t vl vs = false := by unfold evB; rw [e2]; rfl
    rw [e1, e2]
    clear e1 e2
    go_enter Try.func11, Try.ntmps11
    go_wp2_with fail
    refine (exOK_impl d t a l c _ (HR.out.below (by repeat (first | exact Below.refl _ _ | assumption | refine Below.drew ?_ | refine Below.alloc ?_ (by first | exact Nat.le_refl _ | omega | (simp; done) | (simp; omega)) _ | refine Below.setCell ?_ (by first | exact Nat.le_refl _ | omega | (simp; done) | (simp; omega)) _)))).mono ?_
    rintro e w1 ⟨rfl, hb1⟩
    have HB := hid ((show Below w.heap.size w _ from (by repeat (first | exact Below.refl _ _ | assumption | refine Below.drew ?_ | refine Below.alloc ?_ (by first | exact Nat.le_refl _ | omega | (simp; done) | (simp; omega)) _ | refine Below.setCell ?_ (by first | exact Nat.le_refl _ | omega | (simp; done) | (simp; omega)) _))).trans (hb1.mono (by simp)))
    clear hb1
    rw [hb]
    go_wp2
    go_ret2
    exact ⟨rfl, HB.out⟩
  | true =>
    have hR := (okB_iff.1 hb).2.2
    by_cases hm : (vl : Int) ≤ mostV d t
    · have e2 : evC d t vl = 5 := by unfold evC; rw [if_neg h1, if_neg (by rw [hb]; decide), if_pos hm]
      have e1 : evB d t vl vs = false := by unfold evB; rw [e2]; rfl
      rw [e1, e2]
      clear e1 e2
      have dm : decide ((vl : Int) ≤ mostV d t) = true := decide_eq_true hm
      go_enter Try.func11, Try.ntmps11
      go_wp2_with fail
      refine (exOK_impl d t a l c _ (HR.out.below (by repeat (first | exact Below.refl _ _ | assumption | refine Below.drew ?_ | refine Below.alloc ?_ (by first | exact Nat.le_refl _ | omega | (simp; done) | (simp; omega)) _ | refine Below.setCell ?_ (by first | exact Nat.le_refl _ | omega | (simp; done) | (simp; omega)) _)))).mono ?_
      rintro e w1 ⟨rfl, hb1⟩
      have f0 : w1.cell? ⟨w.heap.size, 0, none⟩ = some (.int .i64 (kd t)) := keep hb1 (by simp [go_sem])
      have f1 : w1.cell? ⟨w.heap.size, 1, none⟩ = some (.int .i64 (nn t)) := keep hb1 (by simp [go_sem])
      have f2 : w1.cell? ⟨w.heap.size, 2, none⟩ = some (.slice a l c) := keep hb1 (by simp [go_sem])
      have HB := hid ((show Below w.heap.size w _ from (by repeat (first | exact Below.refl _ _ | assumption | refine Below.drew ?_ | refine Below.alloc ?_ (by first | exact Nat.le_refl _ | omega | (simp; done) | (simp; omega)) _ | refine Below.setCell ?_ (by first | exact Nat.le_refl _ | omega | (simp; done) | (simp; omega)) _))).trans (hb1.mono (by simp)))
      clear hb1
      rw [hb]
      go_wp2_with fail
      refine (hasE d t a l c vl _ (HR.out.below HB.out) hR).mono ?_
      rintro e w2 ⟨rfl, hb2⟩
      have HB2 := hid (HB.out.trans (hb2.mono HB.out.size))
      clear hb2
      rw [dm]
      go_wp2
      go_ret2
      exact ⟨rfl, HB2.out⟩
    · have e2 : evC d t vl = 0 := by unfold evC; rw [if_neg h1, if_neg (by rw [hb]; decide), if_neg hm]
      have e1 : evB d t vl vs = evalT vs d t := by unfold evB; rw [e2]; rfl
      rw [e1, e2]
      clear e1 e2
      have dm : decide ((vl : Int) ≤ mostV d t) = false := decide_eq_false hm
      go_enter Try.func11, Try.ntmps11
      go_wp2_with fail
      refine (exOK_impl d t a l c _ (HR.out.below (by repeat (first | exact Below.refl _ _ | assumption | refine Below.drew ?_ | refine Below.alloc ?_ (by first | exact Nat.le_refl _ | omega | (simp; done) | (simp; omega)) _ | refine Below.setCell ?_ (by first | exact Nat.le_refl _ | omega | (simp; done) | (simp; omega)) _)))).mono ?_
      rintro e w1 ⟨rfl, hb1⟩
      have f0 : w1.cell? ⟨w.heap.size, 0, none⟩ = some (.int .i64 (kd t)) := keep hb1 (by simp [go_sem])
      have f1 : w1.cell? ⟨w.heap.size, 1, none⟩ = some (.int .i64 (nn t)) := keep hb1 (by simp [go_sem])
      have f2 : w1.cell? ⟨w.heap.size, 2, none⟩ = some (.slice a l c) := keep hb1 (by simp [go_sem])
      have HB := hid ((show Below w.heap.size w _ from (by repeat (first | exact Below.refl _ _ | assumption | refine Below.drew ?_ | refine Below.alloc ?_ (by first | exact Nat.le_refl _ | omega | (simp; done) | (simp; omega)) _ | refine Below.setCell ?_ (by first | exact Nat.le_refl _ | omega | (simp; done) | (simp; omega)) _))).trans (hb1.mono (by simp)))
      clear hb1
      rw [hb]
      go_wp2_with fail
      refine (hasE d t a l c vl _ (HR.out.below HB.out) hR).mono ?_
      rintro e w2 ⟨rfl, hb2⟩
      replace f0 := keep hb2 f0
      replace f1 := keep hb2 f1
      replace f2 := keep hb2 f2
      have HB2 := hid (HB.out.trans (hb2.mono HB.out.size))
      clear hb2
      rw [dm]
      go_wp2_with fail
      refine (valueE d t a l c va vl vc vs _ (HR.out.below HB2.out) hR (by omega) (HV.out.below HB2.out)).mono ?_
      rintro e w3 ⟨rfl, hb3⟩
      have HB3 := hid (HB2.out.trans (hb3.mono HB2.out.size))
      clear hb3
      go_wp2
      go_ret2
      exact ⟨rfl, HB3.out⟩

end Go.Proofs.Ytikdadpapdkfiaa.treeVars
