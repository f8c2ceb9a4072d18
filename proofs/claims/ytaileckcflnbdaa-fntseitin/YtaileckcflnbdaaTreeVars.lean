/- The greatest variable of an expression, of the program and of the specification; EvalEx of both; conditions: none. -/
import Derived.Test.YtaileckcflnbdaaTreeEval
import Derived.Test.YtaileckcflnbdaaTrees
import Derived.BigRegion
import Derived.Test.YtaileckcflnbdaaTreeSpec
namespace Go.Proofs.Ytaileckcflnbdaa.treeVars
open Go.RowKit Go.Deep base trees treeEval treeSpec
set_option linter.unusedVariables false

def MostE (d : Nat) : Prop := ∀ (t : T) (a : Option Addr) (l c : Nat) (w : World), Rd (fun _ => True) 1048576 w d t a l →
    Calls Try.prog 17 #[.agg #[.int .i64 (kd t), .int .i64 (nn t), .slice a l c]] w fun e w' => e = .returned (.int .i64 (mostV d t)) ∧ Below w.heap.size w w'

set_option maxHeartbeats 800000 in
theorem mostE (d : Nat) : MostE d := by
  induction d using Nat.strongRecOn with
  | _ d ih =>
  intro t a l c w hr
  have HL := hid hr.len
  have HZ := hid hr.zero
  have hmost := hr.most
  have HR := hid hr
  have HI := hid ih
  clear hr ih
  by_cases h1 : kd t = 1
  · have hM : mostV d t = nn t := by rw [mostV_eq HZ.out, if_pos h1]
    rw [hM, h1]
    clear hM h1 HR HL HZ
    generalize nn t = nk at *
    go_enter Try.func17, Try.ntmps17
    go_wp2
    go_ret
    exact ⟨rfl, (by repeat (first | exact Below.refl _ _ | assumption | refine Below.drew ?_ | refine Below.alloc ?_ (by first | exact Nat.le_refl _ | omega | (simp; done) | (simp; omega)) _ | refine Below.setCell ?_ (by first | exact Nat.le_refl _ | omega | (simp; done) | (simp; omega)) _))⟩
  have hM : mostV d t = maxI (fun i => mostV (d - 1) (kid t i)) (ln t) := by rw [mostV_eq HZ.out, if_neg h1]
  rw [hM, HL.out]
  have e1 : (kd t == 1) = false := by simp [h1]
  clear hM h1
  generalize kd t = kk at *
  generalize nn t = nk at *
  go_enter Try.func17, Try.ntmps17
  go_wp2
  go_loopw [4, 3] (fun i v wr => ∃ j : Nat, j ≤ l ∧ i = .int .i64 j ∧ v = .int .i64 (maxI (fun i => mostV (d - 1) (kid t i)) j) ∧ Below w.heap.size w wr ∧ wr.cell? ⟨w.heap.size, 2, none⟩ = some (.slice a l c)) (fun i _ _ => l - (intOf i).toNat)
  case atStart => exact ⟨0, Nat.zero_le _, rfl, rfl, (by repeat (first | exact Below.refl _ _ | assumption | refine Below.drew ?_ | refine Below.alloc ?_ (by first | exact Nat.le_refl _ | omega | (simp; done) | (simp; omega)) _ | refine Below.setCell ?_ (by first | exact Nat.le_refl _ | omega | (simp; done) | (simp; omega)) _)), by simp [go_sem]⟩
  case round =>
    obtain ⟨j, hj, rfl, rfl, hb, hce⟩ := hrel
    have HB := hid hb
    clear hb
    by_cases hlt : j < l
    · obtain ⟨hd0, b, off, rfl, hq, hc0, hc1, a', l', c', hc2, hrow⟩ := HR.out.cell hlt
      replace hc0 := keep HB.out hc0
      replace hc1 := keep HB.out hc1
      replace hc2 := keep HB.out hc2
      have HX := hid (hrow.below HB.out)
      have HIE := hid (HI.out (d - 1) (by omega))
      clear hrow
      generalize hp : maxI (fun i => mostV (d - 1) (kid t i)) j = p at *
      have HP := hid hp
      clear hp
      go_wp2_with fail
      refine (HIE.out (kid t j) a' l' c' _ (HX.out.below (by repeat (first | exact Below.refl _ _ | assumption | refine Below.drew ?_ | refine Below.alloc ?_ (by first | exact Nat.le_refl _ | omega | (simp; done) | (simp; omega)) _ | refine Below.setCell ?_ (by first | exact Nat.le_refl _ | omega | (simp; done) | (simp; omega)) _)))).mono ?_
      rintro e w1 ⟨rfl, hb1⟩
      have HB1 := hid (HB.out.trans (hb1.mono HB.out.size))
      have hce1 := keep hb1 hce
      clear hb1
      go_wp2
      go_roundw
      case rel => exact ⟨j + 1, by omega, by go_num, by simp only [maxI]; rw [HP.out]; first | rfl | (congr 1; omega), HB1.out, hce1⟩
      case measure => simp [intOf]; omega
    · have e : j = l := by omega
      subst e
      go_wp2
      go_ret
      exact ⟨rfl, HB.out⟩

/-- EvalEx' code, and its value. -/
def evC (d : Nat) (t : T) (vl : Nat) : Int := if 4096 < vl then 2 else if okB d t 1 0 = false then 1 else if (vl : Int) ≤ mostV d t then 5 else 0
def evB (d : Nat) (t : T) (vl : Nat) (vs : List Bool) : Bool := if evC d t vl = 0 then evalT vs d t else false

set_option maxHeartbeats 800000 in
theorem evalEx_spec (d : Nat) (t : T) (a : Option Addr) (l c : Nat) (va : Option Addr) (vl vc : Nat) (vs : List Bool) (w : World) (hr : Rd (fun _ => True) 1048576 w d t a l) (hv : BoolRow w va vl vs) :
    Calls Try.prog 10 #[.agg #[.int .i64 (kd t), .int .i64 (nn t), .slice a l c], .slice va vl vc] w fun e w' => e = .returned (.tuple #[.bool (evB d t vl vs), .int .i64 (evC d t vl)]) ∧ Below w.heap.size w w' := by
  have hmv := hv.most
  unfold maxLen at hmv
  have HR := hid hr
  have HV := hid hv
  clear hr hv
  by_cases h1 : 4096 < vl
  · have e2 : evC d t vl = 2 := if_pos h1
    have e1 : evB d t vl vs = false := by unfold evB; rw [e2]; rfl
    rw [e1, e2]
    clear e1 e2
    go_enter Try.func10, Try.ntmps10
    go_wp2
    go_ret2
    exact ⟨rfl, (by repeat (first | exact Below.refl _ _ | assumption | refine Below.drew ?_ | refine Below.alloc ?_ (by first | exact Nat.le_refl _ | omega | (simp; done) | (simp; omega)) _ | refine Below.setCell ?_ (by first | exact Nat.le_refl _ | omega | (simp; done) | (simp; omega)) _))⟩
  cases hb : okB d t 1 0 with
  | false =>
    have e2 : evC d t vl = 1 := by unfold evC; rw [if_neg h1, if_pos hb]
    have e1 : evB d t vl vs = false := by unfold evB; rw [e2]; rfl
    rw [e1, e2]
    clear e1 e2
    go_enter Try.func10, Try.ntmps10
    go_wp2_with fail
    refine (exOK_spec d t a l c _ (HR.out.below (by repeat (first | exact Below.refl _ _ | assumption | refine Below.drew ?_ | refine Below.alloc ?_ (by first | exact Nat.le_refl _ | omega | (simp; done) | (simp; omega)) _ | refine Below.setCell ?_ (by first | exact Nat.le_refl _ | omega | (simp; done) | (simp; omega)) _)))).mono ?_
    rintro e w1 ⟨rfl, hb1⟩
    have HB := hid ((show Below w.heap.size w _ from (by repeat (first | exact Below.refl _ _ | assumption | refine Below.drew ?_ | refine Below.alloc ?_ (by first | exact Nat.le_refl _ | omega | (simp; done) | (simp; omega)) _ | refine Below.setCell ?_ (by first | exact Nat.le_refl _ | omega | (simp; done) | (simp; omega)) _))).trans (hb1.mono (by simp)))
    clear hb1
    rw [hb]
    go_wp2
    go_ret2
    exact ⟨rfl, HB.out⟩
  | true =>
    have hR := (okB_iff.1 hb).2.2
    by_cases hm : (vl : Int) ≤ mostV d t
    · have e2 : evC d t vl = 5 := by unfold evC; rw [if_neg h1, if_neg (by rw [hb]; decide), if_pos hm]
      have e1 : evB d t vl vs = false := by unfold evB; rw [e2]; rfl
      rw [e1, e2]
      clear e1 e2
      have dm : decide ((vl : Int) ≤ mostV d t) = true := decide_eq_true hm
      go_enter Try.func10, Try.ntmps10
      go_wp2_with fail
      refine (exOK_spec d t a l c _ (HR.out.below (by repeat (first | exact Below.refl _ _ | assumption | refine Below.drew ?_ | refine Below.alloc ?_ (by first | exact Nat.le_refl _ | omega | (simp; done) | (simp; omega)) _ | refine Below.setCell ?_ (by first | exact Nat.le_refl _ | omega | (simp; done) | (simp; omega)) _)))).mono ?_
      rintro e w1 ⟨rfl, hb1⟩
      have f0 : w1.cell? ⟨w.heap.size, 0, none⟩ = some (.int .i64 (kd t)) := keep hb1 (by simp [go_sem])
      have f1 : w1.cell? ⟨w.heap.size, 1, none⟩ = some (.int .i64 (nn t)) := keep hb1 (by simp [go_sem])
      have f2 : w1.cell? ⟨w.heap.size, 2, none⟩ = some (.slice a l c) := keep hb1 (by simp [go_sem])
      have HB := hid ((show Below w.heap.size w _ from (by repeat (first | exact Below.refl _ _ | assumption | refine Below.drew ?_ | refine Below.alloc ?_ (by first | exact Nat.le_refl _ | omega | (simp; done) | (simp; omega)) _ | refine Below.setCell ?_ (by first | exact Nat.le_refl _ | omega | (simp; done) | (simp; omega)) _))).trans (hb1.mono (by simp)))
      clear hb1
      rw [hb]
      go_wp2_with fail
      refine (mostE d t a l c _ (HR.out.below HB.out)).mono ?_
      rintro e w2 ⟨rfl, hb2⟩
      have HB2 := hid (HB.out.trans (hb2.mono HB.out.size))
      clear hb2
      generalize hmv : mostV d t = mv at *
      go_wp2
      go_ret2
      exact ⟨rfl, HB2.out⟩
    · have e2 : evC d t vl = 0 := by unfold evC; rw [if_neg h1, if_neg (by rw [hb]; decide), if_neg hm]
      have e1 : evB d t vl vs = evalT vs d t := by unfold evB; rw [e2]; rfl
      rw [e1, e2]
      clear e1 e2
      have dm : decide ((vl : Int) ≤ mostV d t) = false := decide_eq_false hm
      go_enter Try.func10, Try.ntmps10
      go_wp2_with fail
      refine (exOK_spec d t a l c _ (HR.out.below (by repeat (first | exact Below.refl _ _ | assumption | refine Below.drew ?_ | refine Below.alloc ?_ (by first | exact Nat.le_refl _ | omega | (simp; done) | (simp; omega)) _ | refine Below.setCell ?_ (by first | exact Nat.le_refl _ | omega | (simp; done) | (simp; omega)) _)))).mono ?_
      rintro e w1 ⟨rfl, hb1⟩
      have f0 : w1.cell? ⟨w.heap.size, 0, none⟩ = some (.int .i64 (kd t)) := keep hb1 (by simp [go_sem])
      have f1 : w1.cell? ⟨w.heap.size, 1, none⟩ = some (.int .i64 (nn t)) := keep hb1 (by simp [go_sem])
      have f2 : w1.cell? ⟨w.heap.size, 2, none⟩ = some (.slice a l c) := keep hb1 (by simp [go_sem])
      have HB := hid ((show Below w.heap.size w _ from (by repeat (first | exact Below.refl _ _ | assumption | refine Below.drew ?_ | refine Below.alloc ?_ (by first | exact Nat.le_refl _ | omega | (simp; done) | (simp; omega)) _ | refine Below.setCell ?_ (by first | exact Nat.le_refl _ | omega | (simp; done) | (simp; omega)) _))).trans (hb1.mono (by simp)))
      clear hb1
      rw [hb]
      go_wp2_with fail
      refine (mostE d t a l c _ (HR.out.below HB.out)).mono ?_
      rintro e w2 ⟨rfl, hb2⟩
      replace f0 := keep hb2 f0
      replace f1 := keep hb2 f1
      replace f2 := keep hb2 f2
      have HB2 := hid (HB.out.trans (hb2.mono HB.out.size))
      clear hb2
      generalize hmv : mostV d t = mv at *
      go_wp2_with fail
      refine (evalE d t a l c va vl vc vs _ (HR.out.below HB2.out) hR (by omega) (HV.out.below HB2.out)).mono ?_
      rintro e w3 ⟨rfl, hb3⟩
      have HB3 := hid (HB2.out.trans (hb3.mono HB2.out.size))
      clear hb3
      go_wp2
      go_ret2
      exact ⟨rfl, HB3.out⟩
end Go.Proofs.Ytaileckcflnbdaa.treeVars
