/- The value of an expression, of the program and of the specification: for every right tree that lies in memory; conditions: its variables have values. -/
import Derived.Test.YtaileckcflnbdaaTrees
import Derived.BigRegion
import Derived.Deep.RegionHeld3
namespace Go.Proofs.Ytaileckcflnbdaa.treeEval
open Go.RowKit Go.Deep base trees
set_option linter.unusedVariables false

def maxI (f : Nat → Int) : Nat → Int
  | 0 => -1
  | n + 1 => max (maxI f n) (f n)
theorem maxI_le {f : Nat → Int} {i n : Nat} (h : i < n) : f i ≤ maxI f n := by
  induction n with
  | zero => omega
  | succ n ih =>
    simp only [maxI]
    by_cases e : i = n
    · subst e; omega
    · have := ih (by omega); omega
theorem maxI_of {f : Nat → Int} {n : Nat} {m : Int} (h0 : -1 ≤ m) (h : ∀ i, i < n → f i ≤ m) : maxI f n ≤ m := by
  induction n with
  | zero => exact h0
  | succ n ih =>
    simp only [maxI]
    have h1 := ih fun i hi => h i (by omega)
    have h2 := h n (by omega)
    omega
/-- The greatest variable of a tree, -1 without one. -/
def mostV : Nat → T → Int
  | 0, t => if kd t = 1 then nn t else -1
  | d + 1, t => if kd t = 1 then nn t else maxI (fun i => mostV d (kid t i)) (ln t)
theorem mostV_eq {d : Nat} {t : T} (h0 : d = 0 → ln t = 0) : mostV d t = if kd t = 1 then nn t else maxI (fun i => mostV (d - 1) (kid t i)) (ln t) := by
  cases d with
  | zero => rw [h0 rfl]; rfl
  | succ d => rfl
def evalT (vs : List Bool) : Nat → T → Bool
  | 0, t => if kd t = 1 then vs[(nn t).toNat]?.getD false else decide (nn t = 1)
  | d + 1, t => if kd t = 1 then vs[(nn t).toNat]?.getD false else if kd t = 2 then decide (nn t = 1) else if kd t = 3 then !(evalT vs d (kid t 0)) else if kd t = 4 then evalT vs d (kid t 0) && evalT vs d (kid t 1)
    else if kd t = 5 then evalT vs d (kid t 0) || evalT vs d (kid t 1) else if kd t = 6 then evalT vs d (kid t 0) != evalT vs d (kid t 1) else if evalT vs d (kid t 0) then evalT vs d (kid t 1) else evalT vs d (kid t 2)

variable {q : Nat → Prop} {M d : Nat} {w : World} {t : T} {a : Option Addr} {l : Nat}
theorem right_shape (h0 : d = 0 → ln t = 0) (h : right d t = true) : shapeT t = true := by
  rw [right_eq h0, Bool.and_eq_true] at h; exact h.1
theorem right_kid (h0 : d = 0 → ln t = 0) (h : right d t = true) {i : Nat} (hi : i < ln t) : right (d - 1) (kid t i) = true := by
  rw [right_eq h0, Bool.and_eq_true] at h; exact allTo_true h.2 hi
theorem mostV_kid (h0 : d = 0 → ln t = 0) (hk : kd t ≠ 1) {i : Nat} (hi : i < ln t) : mostV (d - 1) (kid t i) ≤ mostV d t := by
  rw [mostV_eq h0, if_neg hk]; exact maxI_le (f := fun i => mostV (d - 1) (kid t i)) hi
/-- The kinds of a right tree. -/
theorem shape_cases (h : shapeT t = true) : (kd t = 1 ∧ ln t = 0 ∧ 0 ≤ nn t ∧ nn t ≤ 11) ∨ (kd t = 2 ∧ ln t = 0 ∧ 0 ≤ nn t ∧ nn t ≤ 1) ∨ (kd t = 3 ∧ ln t = 1 ∧ nn t = 0) ∨ (kd t = 4 ∧ ln t = 2 ∧ nn t = 0) ∨ (kd t = 5 ∧ ln t = 2 ∧ nn t = 0) ∨ (kd t = 6 ∧ ln t = 2 ∧ nn t = 0) ∨ (kd t = 7 ∧ ln t = 3 ∧ nn t = 0) := by
  obtain ⟨h1, h2, h3⟩ := of_decide_eq_true h
  by_cases e1 : kd t = 1
  · rw [e1] at h1 h3
    simp [kidsOf, mostN] at h1 h3
    exact Or.inl ⟨e1, h1, h2, h3⟩
  by_cases e2 : kd t = 2
  · rw [e2] at h1 h3
    simp [kidsOf, mostN] at h1 h3
    exact Or.inr (Or.inl ⟨e2, h1, h2, h3⟩)
  have hn : nn t = 0 := by simp [mostN, e1, e2] at h3; omega
  by_cases e3 : kd t = 3
  · rw [e3] at h1
    simp [kidsOf] at h1
    exact Or.inr (Or.inr (Or.inl ⟨e3, by omega, hn⟩))
  by_cases e4 : kd t = 4
  · rw [e4] at h1
    simp [kidsOf] at h1
    exact Or.inr (Or.inr (Or.inr (Or.inl ⟨e4, by omega, hn⟩)))
  by_cases e5 : kd t = 5
  · rw [e5] at h1
    simp [kidsOf] at h1
    exact Or.inr (Or.inr (Or.inr (Or.inr (Or.inl ⟨e5, by omega, hn⟩))))
  by_cases e6 : kd t = 6
  · rw [e6] at h1
    simp [kidsOf] at h1
    exact Or.inr (Or.inr (Or.inr (Or.inr (Or.inr (Or.inl ⟨e6, by omega, hn⟩)))))
  by_cases e7 : kd t = 7
  · rw [e7] at h1
    simp [kidsOf] at h1
    exact Or.inr (Or.inr (Or.inr (Or.inr (Or.inr (Or.inr ⟨e7, by omega, hn⟩)))))
  · simp [kidsOf, e1, e2, e3, e4, e5, e6, e7] at h1
theorem eval_pos (vs : List Bool) (hd : 0 < d) : evalT vs d t = if kd t = 1 then vs[(nn t).toNat]?.getD false else if kd t = 2 then decide (nn t = 1) else if kd t = 3 then !(evalT vs (d - 1) (kid t 0)) else if kd t = 4 then evalT vs (d - 1) (kid t 0) && evalT vs (d - 1) (kid t 1)
    else if kd t = 5 then evalT vs (d - 1) (kid t 0) || evalT vs (d - 1) (kid t 1) else if kd t = 6 then evalT vs (d - 1) (kid t 0) != evalT vs (d - 1) (kid t 1) else if evalT vs (d - 1) (kid t 0) then evalT vs (d - 1) (kid t 1) else evalT vs (d - 1) (kid t 2) := by
  cases d with
  | zero => omega
  | succ d => rfl
theorem eval_var (vs : List Bool) (h : kd t = 1) : evalT vs d t = vs[(nn t).toNat]?.getD false := by
  cases d <;> simp [evalT, h]
theorem eval_const (vs : List Bool) (h : kd t = 2) : evalT vs d t = decide (nn t = 1) := by
  cases d <;> simp [evalT, h]

def EvE (F : FuncId) (d : Nat) : Prop := ∀ (t : T) (a : Option Addr) (l c : Nat) (va : Option Addr) (vl vc : Nat) (vs : List Bool) (w : World), Rd (fun _ => True) 1048576 w d t a l → right d t = true → mostV d t < (vl : Int) → BoolRow w va vl vs →
    Calls Try.prog F #[.agg #[.int .i64 (kd t), .int .i64 (nn t), .slice a l c], .slice va vl vc] w fun e w' => e = .returned (.bool (evalT vs d t)) ∧ Below w.heap.size w w'
/-- What a call at one expression answers, from a world on. -/
def At (F : FuncId) (W : World) (k n : Int) (x : Option Addr) (m s : Nat) (v : Value) (r : Bool) : Prop :=
  ∀ (w' : World) (args : Array Value), args = #[.agg #[.int .i64 k, .int .i64 n, .slice x m s], v] → Below W.heap.size W w' → Calls Try.prog F args w' fun e w'' => e = .returned (.bool r) ∧ Below w'.heap.size w' w''
theorem At.later {F : FuncId} {W W' : World} {k n : Int} {x : Option Addr} {m s : Nat} {v : Value} {r : Bool} (h : At F W k n x m s v r) (hb : Below W.heap.size W W') : At F W' k n x m s v r :=
  fun w' args he hw => h w' args he (hb.trans (hw.mono hb.size))
/-- One kid, where it lies and what a call at it answers, from then on. -/
theorem kid_facts {F : FuncId} {va : Option Addr} {vl vc : Nat} {vs : List Bool} (hI : EvE F (d - 1)) (hr : Rd (fun _ => True) 1048576 w d t a l) (hR : right d t = true) (hm : mostV d t < (vl : Int)) (hv : BoolRow w va vl vs) (h1 : kd t ≠ 1) {i : Nat} (hi : i < l) :
    ∃ b off, a = some ⟨b, off, none⟩ ∧ ∃ k n x m s, w.cell? ⟨b, off + i * 3, none⟩ = some (.int .i64 k) ∧ w.cell? ⟨b, off + i * 3 + 1, none⟩ = some (.int .i64 n) ∧ w.cell? ⟨b, off + i * 3 + 2, none⟩ = some (.slice x m s) ∧
      Hid (At F w k n x m s (.slice va vl vc) (evalT vs (d - 1) (kid t i))) := by
  obtain ⟨hd, b, off, e, -, hc0, hc1, x, m, s, hc2, hx⟩ := hr.cell hi
  have hi' : i < ln t := by rw [hr.len]; exact hi
  refine ⟨b, off, e, _, _, x, m, s, hc0, hc1, hc2, fun w' args he hb => ?_⟩
  subst he
  exact hI (kid t i) x m s va vl vc vs w' (hx.below hb) (right_kid hr.zero hR hi') (by have := mostV_kid hr.zero h1 hi'; omega) (hv.below hb)

set_option maxHeartbeats 3200000 in
set_option maxRecDepth 8000 in
theorem evalE (d : Nat) : EvE 29 d := by
  induction d using Nat.strongRecOn with
  | _ d ih =>
  intro t a l c va vl vc vs w hr hR hm hv
  have HL := hid hr.len
  have HZ := hid hr.zero
  have HR := hid hr
  have HI := hid ih
  have HRT := hid hR
  have HV := hid hv
  have HM := hid hm
  have hvl := hv.most
  unfold maxLen at hvl
  have hsh := shape_cases (right_shape hr.zero hR)
  rw [hr.len] at hsh
  clear hr ih hR hv hm
  rcases hsh with ⟨h1, h2, h3, h4⟩ | ⟨h1, h2, h3, h4⟩ | ⟨h1, h2, h3⟩ | ⟨h1, h2, h3⟩ | ⟨h1, h2, h3⟩ | ⟨h1, h2, h3⟩ | ⟨h1, h2, h3⟩
  · have hE := eval_var (d := d) vs h1
    have hlt : nn t < (vl : Int) := by have := HM.out; rw [mostV_eq HZ.out, if_pos h1] at this; exact this
    obtain ⟨n, hn⟩ : ∃ n : Nat, nn t = n := ⟨(nn t).toNat, by omega⟩
    obtain ⟨b, off, rfl, hc⟩ := HV.out.cell n (by omega)
    have hbw := World.block_lt_of_cell? _ _ hc
    rw [hE, h1, hn]
    simp only [Int.toNat_natCast]
    rw [hn] at hlt h4 h3
    generalize vs[n]?.getD false = res at *
    clear hE h1 hn
    go_enter Try.func29, Try.ntmps29
    go_wp2
    go_ret
    exact ⟨rfl, (by repeat (first | exact Below.refl _ _ | assumption | refine Below.drew ?_ | refine Below.alloc ?_ (by first | exact Nat.le_refl _ | omega | (simp; done) | (simp; omega)) _ | refine Below.setCell ?_ (by first | exact Nat.le_refl _ | omega | (simp; done) | (simp; omega)) _))⟩
  · rw [eval_const vs h1, h1]
    clear h1
    generalize nn t = n at *
    obtain rfl | rfl : n = 0 ∨ n = 1 := by omega
    all_goals
      go_enter Try.func29, Try.ntmps29
      go_wp2
      go_ret
      exact ⟨rfl, (by repeat (first | exact Below.refl _ _ | assumption | refine Below.drew ?_ | refine Below.alloc ?_ (by first | exact Nat.le_refl _ | omega | (simp; done) | (simp; omega)) _ | refine Below.setCell ?_ (by first | exact Nat.le_refl _ | omega | (simp; done) | (simp; omega)) _))⟩
  · have hd : 0 < d := (HR.out.cell (i := 0) (by omega)).1
    obtain ⟨b, off, rfl, k0, n0, x0, m0, s0, g0, g1, g2, E0⟩ := kid_facts (vc := vc) (HI.out (d - 1) (by omega)) HR.out HRT.out HM.out HV.out (by omega) (i := 0) (by omega)
    simp only [Nat.zero_mul, Nat.add_zero] at g0 g1 g2
    have hbw := World.block_lt_of_cell? _ _ g0
    rw [eval_pos vs hd, if_neg (by omega), if_neg (by omega), if_pos h1]
    rw [h1, h3]
    subst h2
    clear h1 h3 hd
    generalize evalT vs (d - 1) (kid t 0) = e0 at *
    go_enter Try.func29, Try.ntmps29
    go_wp2_with fail
    refine (E0.out _ _ rfl (by repeat (first | exact Below.refl _ _ | assumption | refine Below.drew ?_ | refine Below.alloc ?_ (by first | exact Nat.le_refl _ | omega | (simp; done) | (simp; omega)) _ | refine Below.setCell ?_ (by first | exact Nat.le_refl _ | omega | (simp; done) | (simp; omega)) _))).mono ?_
    rintro e w1 ⟨rfl, hb1⟩
    have HB := hid ((show Below w.heap.size w _ from (by repeat (first | exact Below.refl _ _ | assumption | refine Below.drew ?_ | refine Below.alloc ?_ (by first | exact Nat.le_refl _ | omega | (simp; done) | (simp; omega)) _ | refine Below.setCell ?_ (by first | exact Nat.le_refl _ | omega | (simp; done) | (simp; omega)) _))).trans (hb1.mono (by simp)))
    clear hb1
    go_wp2
    go_ret
    exact ⟨rfl, HB.out⟩
  · have hd : 0 < d := (HR.out.cell (i := 0) (by omega)).1
    obtain ⟨b, off, rfl, k0, n0, x0, m0, s0, g0, g1, g2, E0⟩ := kid_facts (vc := vc) (HI.out (d - 1) (by omega)) HR.out HRT.out HM.out HV.out (by omega) (i := 0) (by omega)
    obtain ⟨b', off', heq, k1, n1, x1, m1, s1, j0, j1, j2, E1⟩ := kid_facts (vc := vc) (HI.out (d - 1) (by omega)) HR.out HRT.out HM.out HV.out (by omega) (i := 1) (by omega)
    obtain ⟨rfl, rfl⟩ : b = b' ∧ off = off' := by simpa using heq
    simp only [Nat.zero_mul, Nat.add_zero] at g0 g1 g2
    simp only [Nat.one_mul, Nat.add_assoc, Nat.reduceAdd] at j0 j1 j2
    have hbw := World.block_lt_of_cell? _ _ g0
    rw [eval_pos vs hd, if_neg (by omega), if_neg (by omega), if_neg (by omega), if_pos h1]
    rw [h1, h3]
    subst h2
    clear h1 h3 hd heq
    generalize evalT vs (d - 1) (kid t 0) = e0 at *
    generalize evalT vs (d - 1) (kid t 1) = e1 at *
    cases e0 with
    | false =>
      go_enter Try.func29, Try.ntmps29
      go_wp2_with fail
      refine (E0.out _ _ rfl (by repeat (first | exact Below.refl _ _ | assumption | refine Below.drew ?_ | refine Below.alloc ?_ (by first | exact Nat.le_refl _ | omega | (simp; done) | (simp; omega)) _ | refine Below.setCell ?_ (by first | exact Nat.le_refl _ | omega | (simp; done) | (simp; omega)) _))).mono ?_
      rintro e w1 ⟨rfl, hb1⟩
      have HB := hid ((show Below w.heap.size w _ from (by repeat (first | exact Below.refl _ _ | assumption | refine Below.drew ?_ | refine Below.alloc ?_ (by first | exact Nat.le_refl _ | omega | (simp; done) | (simp; omega)) _ | refine Below.setCell ?_ (by first | exact Nat.le_refl _ | omega | (simp; done) | (simp; omega)) _))).trans (hb1.mono (by simp)))
      clear hb1
      go_wp2
      go_ret
      exact ⟨rfl, HB.out⟩
    | true =>
      go_enter Try.func29, Try.ntmps29
      go_wp2_with fail
      refine (E0.out _ _ rfl (by repeat (first | exact Below.refl _ _ | assumption | refine Below.drew ?_ | refine Below.alloc ?_ (by first | exact Nat.le_refl _ | omega | (simp; done) | (simp; omega)) _ | refine Below.setCell ?_ (by first | exact Nat.le_refl _ | omega | (simp; done) | (simp; omega)) _))).mono ?_
      rintro e w1 ⟨rfl, hb1⟩
      have f2 : w1.cell? ⟨w.heap.size, 2, none⟩ = some (.slice (some ⟨b, off, none⟩) 2 c) := keep hb1 (by simp [go_sem])
      have HB := hid ((show Below w.heap.size w _ from (by repeat (first | exact Below.refl _ _ | assumption | refine Below.drew ?_ | refine Below.alloc ?_ (by first | exact Nat.le_refl _ | omega | (simp; done) | (simp; omega)) _ | refine Below.setCell ?_ (by first | exact Nat.le_refl _ | omega | (simp; done) | (simp; omega)) _))).trans (hb1.mono (by simp)))
      clear hb1
      replace j0 := keep HB.out j0
      replace j1 := keep HB.out j1
      replace j2 := keep HB.out j2
      go_wp2_with fail
      refine (E1.out _ _ rfl HB.out).mono ?_
      rintro e w2 ⟨rfl, hb2⟩
      have HB2 := hid (HB.out.trans (hb2.mono HB.out.size))
      clear hb2
      go_wp2
      go_ret
      exact ⟨rfl, HB2.out⟩
  · have hd : 0 < d := (HR.out.cell (i := 0) (by omega)).1
    obtain ⟨b, off, rfl, k0, n0, x0, m0, s0, g0, g1, g2, E0⟩ := kid_facts (vc := vc) (HI.out (d - 1) (by omega)) HR.out HRT.out HM.out HV.out (by omega) (i := 0) (by omega)
    obtain ⟨b', off', heq, k1, n1, x1, m1, s1, j0, j1, j2, E1⟩ := kid_facts (vc := vc) (HI.out (d - 1) (by omega)) HR.out HRT.out HM.out HV.out (by omega) (i := 1) (by omega)
    obtain ⟨rfl, rfl⟩ : b = b' ∧ off = off' := by simpa using heq
    simp only [Nat.zero_mul, Nat.add_zero] at g0 g1 g2
    simp only [Nat.one_mul, Nat.add_assoc, Nat.reduceAdd] at j0 j1 j2
    have hbw := World.block_lt_of_cell? _ _ g0
    rw [eval_pos vs hd, if_neg (by omega), if_neg (by omega), if_neg (by omega), if_neg (by omega), if_pos h1]
    rw [h1, h3]
    subst h2
    clear h1 h3 hd heq
    generalize evalT vs (d - 1) (kid t 0) = e0 at *
    generalize evalT vs (d - 1) (kid t 1) = e1 at *
    cases e0 with
    | true =>
      go_enter Try.func29, Try.ntmps29
      go_wp2_with fail
      refine (E0.out _ _ rfl (by repeat (first | exact Below.refl _ _ | assumption | refine Below.drew ?_ | refine Below.alloc ?_ (by first | exact Nat.le_refl _ | omega | (simp; done) | (simp; omega)) _ | refine Below.setCell ?_ (by first | exact Nat.le_refl _ | omega | (simp; done) | (simp; omega)) _))).mono ?_
      rintro e w1 ⟨rfl, hb1⟩
      have HB := hid ((show Below w.heap.size w _ from (by repeat (first | exact Below.refl _ _ | assumption | refine Below.drew ?_ | refine Below.alloc ?_ (by first | exact Nat.le_refl _ | omega | (simp; done) | (simp; omega)) _ | refine Below.setCell ?_ (by first | exact Nat.le_refl _ | omega | (simp; done) | (simp; omega)) _))).trans (hb1.mono (by simp)))
      clear hb1
      go_wp2
      go_ret
      exact ⟨rfl, HB.out⟩
    | false =>
      go_enter Try.func29, Try.ntmps29
      go_wp2_with fail
      refine (E0.out _ _ rfl (by repeat (first | exact Below.refl _ _ | assumption | refine Below.drew ?_ | refine Below.alloc ?_ (by first | exact Nat.le_refl _ | omega | (simp; done) | (simp; omega)) _ | refine Below.setCell ?_ (by first | exact Nat.le_refl _ | omega | (simp; done) | (simp; omega)) _))).mono ?_
      rintro e w1 ⟨rfl, hb1⟩
      have f2 : w1.cell? ⟨w.heap.size, 2, none⟩ = some (.slice (some ⟨b, off, none⟩) 2 c) := keep hb1 (by simp [go_sem])
      have HB := hid ((show Below w.heap.size w _ from (by repeat (first | exact Below.refl _ _ | assumption | refine Below.drew ?_ | refine Below.alloc ?_ (by first | exact Nat.le_refl _ | omega | (simp; done) | (simp; omega)) _ | refine Below.setCell ?_ (by first | exact Nat.le_refl _ | omega | (simp; done) | (simp; omega)) _))).trans (hb1.mono (by simp)))
      clear hb1
      replace j0 := keep HB.out j0
      replace j1 := keep HB.out j1
      replace j2 := keep HB.out j2
      go_wp2_with fail
      refine (E1.out _ _ rfl HB.out).mono ?_
      rintro e w2 ⟨rfl, hb2⟩
      have HB2 := hid (HB.out.trans (hb2.mono HB.out.size))
      clear hb2
      go_wp2
      go_ret
      exact ⟨rfl, HB2.out⟩
  · have hd : 0 < d := (HR.out.cell (i := 0) (by omega)).1
    obtain ⟨b, off, rfl, k0, n0, x0, m0, s0, g0, g1, g2, E0⟩ := kid_facts (vc := vc) (HI.out (d - 1) (by omega)) HR.out HRT.out HM.out HV.out (by omega) (i := 0) (by omega)
    obtain ⟨b', off', heq, k1, n1, x1, m1, s1, j0, j1, j2, E1⟩ := kid_facts (vc := vc) (HI.out (d - 1) (by omega)) HR.out HRT.out HM.out HV.out (by omega) (i := 1) (by omega)
    obtain ⟨rfl, rfl⟩ : b = b' ∧ off = off' := by simpa using heq
    simp only [Nat.zero_mul, Nat.add_zero] at g0 g1 g2
    simp only [Nat.one_mul, Nat.add_assoc, Nat.reduceAdd] at j0 j1 j2
    have hbw := World.block_lt_of_cell? _ _ g0
    rw [eval_pos vs hd, if_neg (by omega), if_neg (by omega), if_neg (by omega), if_neg (by omega), if_neg (by omega), if_pos h1]
    rw [h1, h3]
    subst h2
    clear h1 h3 hd heq
    generalize evalT vs (d - 1) (kid t 0) = e0 at *
    generalize evalT vs (d - 1) (kid t 1) = e1 at *
    go_enter Try.func29, Try.ntmps29
    go_wp2_with fail
    have HW : Hid (Below w.heap.size w (w.alloc (.cells #[.int .i64 6, .int .i64 0, .slice (some ⟨b, off, none⟩) 2 c] 25))) := (by repeat (first | exact Below.refl _ _ | assumption | refine Below.drew ?_ | refine Below.alloc ?_ (by first | exact Nat.le_refl _ | omega | (simp; done) | (simp; omega)) _ | refine Below.setCell ?_ (by first | exact Nat.le_refl _ | omega | (simp; done) | (simp; omega)) _))
    have f2 : (w.alloc (.cells #[.int .i64 6, .int .i64 0, .slice (some ⟨b, off, none⟩) 2 c] 25)).cell? ⟨w.heap.size, 2, none⟩ = some (.slice (some ⟨b, off, none⟩) 2 c) := by simp [go_sem]
    replace g0 := keep HW.out g0
    replace g1 := keep HW.out g1
    replace g2 := keep HW.out g2
    replace j0 := keep HW.out j0
    replace j1 := keep HW.out j1
    replace j2 := keep HW.out j2
    replace E0 := hid (E0.out.later HW.out)
    replace E1 := hid (E1.out.later HW.out)
    have HWZ := hid HW.out.size
    clear HV HR
    generalize (w.alloc (.cells #[.int .i64 6, .int .i64 0, .slice (some ⟨b, off, none⟩) 2 c] 25)) = W at *
    have HK : Hid (∀ w8 : World, Below W.heap.size W w8 → w8.cell? ⟨w.heap.size, 2, none⟩ = some (.slice (some ⟨b, off, none⟩) 2 c) ∧ w8.cell? ⟨b, off, none⟩ = some (.int .i64 k0) ∧ w8.cell? ⟨b, off + 1, none⟩ = some (.int .i64 n0) ∧ w8.cell? ⟨b, off + 2, none⟩ = some (.slice x0 m0 s0) ∧ w8.cell? ⟨b, off + 3, none⟩ = some (.int .i64 k1) ∧ w8.cell? ⟨b, off + 4, none⟩ = some (.int .i64 n1) ∧ w8.cell? ⟨b, off + 5, none⟩ = some (.slice x1 m1 s1) ∧ Below W.heap.size W w8) :=
      fun w8 h => ⟨keep h f2, keep h g0, keep h g1, keep h g2, keep h j0, keep h j1, keep h j2, h⟩
    clear f2 g0 g1 g2 j0 j1 j2
    go_region_held3 (fun w8 => w8.cell? ⟨w.heap.size, 2, none⟩ = some (.slice (some ⟨b, off, none⟩) 2 c) ∧ w8.cell? ⟨b, off, none⟩ = some (.int .i64 k0) ∧ w8.cell? ⟨b, off + 1, none⟩ = some (.int .i64 n0) ∧ w8.cell? ⟨b, off + 2, none⟩ = some (.slice x0 m0 s0) ∧ w8.cell? ⟨b, off + 3, none⟩ = some (.int .i64 k1) ∧ w8.cell? ⟨b, off + 4, none⟩ = some (.int .i64 n1) ∧ w8.cell? ⟨b, off + 5, none⟩ = some (.slice x1 m1 s1) ∧ Below W.heap.size W w8)
      (refine HK.out _ (by repeat (first | exact Below.refl _ _ | assumption | refine Below.drew ?_)))
      (first
        | (go_at_call 29; refine (E0.out _ _ (by rfl) (by repeat (first | exact Below.refl _ _ | assumption | refine Below.drew ?_))).mono ?_; rintro e w7 ⟨rfl, hb7⟩; have hb57 : Below W.heap.size W w7 := Below.trans (by repeat (first | exact Below.refl _ _ | assumption | refine Below.drew ?_)) (hb7.mono (Below.size (B := W.heap.size) (by repeat (first | exact Below.refl _ _ | assumption | refine Below.drew ?_)))); clear hb7)
        | (go_at_call 29; refine (E1.out _ _ (by rfl) (by repeat (first | exact Below.refl _ _ | assumption | refine Below.drew ?_))).mono ?_; rintro e w9 ⟨rfl, hb9⟩; have hb59 : Below W.heap.size W w9 := Below.trans (by repeat (first | exact Below.refl _ _ | assumption | refine Below.drew ?_)) (hb9.mono (Below.size (B := W.heap.size) (by repeat (first | exact Below.refl _ _ | assumption | refine Below.drew ?_)))); clear hb9))
    all_goals
      go_wp2
      go_ret
      exact ⟨rfl, HW.out.trans (Below.mono (by first | exact hb59 | exact hb57 | assumption) HWZ.out)⟩
  · have hd : 0 < d := (HR.out.cell (i := 0) (by omega)).1
    obtain ⟨b, off, rfl, k0, n0, x0, m0, s0, g0, g1, g2, E0⟩ := kid_facts (vc := vc) (HI.out (d - 1) (by omega)) HR.out HRT.out HM.out HV.out (by omega) (i := 0) (by omega)
    obtain ⟨b', off', heq, k1, n1, x1, m1, s1, j0, j1, j2, E1⟩ := kid_facts (vc := vc) (HI.out (d - 1) (by omega)) HR.out HRT.out HM.out HV.out (by omega) (i := 1) (by omega)
    obtain ⟨b2, off2, heq2, k2, n2, x2, m2, s2, p0, p1, p2, E2⟩ := kid_facts (vc := vc) (HI.out (d - 1) (by omega)) HR.out HRT.out HM.out HV.out (by omega) (i := 2) (by omega)
    obtain ⟨rfl, rfl⟩ : b = b' ∧ off = off' := by simpa using heq
    obtain ⟨rfl, rfl⟩ : b = b2 ∧ off = off2 := by simpa using heq2
    simp only [Nat.zero_mul, Nat.add_zero] at g0 g1 g2
    simp only [Nat.one_mul, Nat.add_assoc, Nat.reduceAdd, Nat.reduceMul] at j0 j1 j2 p0 p1 p2
    have hbw := World.block_lt_of_cell? _ _ g0
    rw [eval_pos vs hd, if_neg (by omega), if_neg (by omega), if_neg (by omega), if_neg (by omega), if_neg (by omega), if_neg (by omega)]
    rw [h1, h3]
    subst h2
    clear h1 h3 hd heq heq2
    generalize evalT vs (d - 1) (kid t 0) = e0 at *
    generalize evalT vs (d - 1) (kid t 1) = e1 at *
    generalize evalT vs (d - 1) (kid t 2) = e2 at *
    cases e0 with
    | false =>
      go_enter Try.func29, Try.ntmps29
      go_wp2_with fail
      refine (E0.out _ _ rfl (by repeat (first | exact Below.refl _ _ | assumption | refine Below.drew ?_ | refine Below.alloc ?_ (by first | exact Nat.le_refl _ | omega | (simp; done) | (simp; omega)) _ | refine Below.setCell ?_ (by first | exact Nat.le_refl _ | omega | (simp; done) | (simp; omega)) _))).mono ?_
      rintro e w1 ⟨rfl, hb1⟩
      have f2 : w1.cell? ⟨w.heap.size, 2, none⟩ = some (.slice (some ⟨b, off, none⟩) 3 c) := keep hb1 (by simp [go_sem])
      have HB := hid ((show Below w.heap.size w _ from (by repeat (first | exact Below.refl _ _ | assumption | refine Below.drew ?_ | refine Below.alloc ?_ (by first | exact Nat.le_refl _ | omega | (simp; done) | (simp; omega)) _ | refine Below.setCell ?_ (by first | exact Nat.le_refl _ | omega | (simp; done) | (simp; omega)) _))).trans (hb1.mono (by simp)))
      clear hb1
      replace p0 := keep HB.out p0
      replace p1 := keep HB.out p1
      replace p2 := keep HB.out p2
      go_wp2_with fail
      refine (E2.out _ _ rfl HB.out).mono ?_
      rintro e w2 ⟨rfl, hb2⟩
      have HB2 := hid (HB.out.trans (hb2.mono HB.out.size))
      clear hb2
      go_wp2
      go_ret
      exact ⟨rfl, HB2.out⟩
    | true =>
      go_enter Try.func29, Try.ntmps29
      go_wp2_with fail
      refine (E0.out _ _ rfl (by repeat (first | exact Below.refl _ _ | assumption | refine Below.drew ?_ | refine Below.alloc ?_ (by first | exact Nat.le_refl _ | omega | (simp; done) | (simp; omega)) _ | refine Below.setCell ?_ (by first | exact Nat.le_refl _ | omega | (simp; done) | (simp; omega)) _))).mono ?_
      rintro e w1 ⟨rfl, hb1⟩
      have f2 : w1.cell? ⟨w.heap.size, 2, none⟩ = some (.slice (some ⟨b, off, none⟩) 3 c) := keep hb1 (by simp [go_sem])
      have HB := hid ((show Below w.heap.size w _ from (by repeat (first | exact Below.refl _ _ | assumption | refine Below.drew ?_ | refine Below.alloc ?_ (by first | exact Nat.le_refl _ | omega | (simp; done) | (simp; omega)) _ | refine Below.setCell ?_ (by first | exact Nat.le_refl _ | omega | (simp; done) | (simp; omega)) _))).trans (hb1.mono (by simp)))
      clear hb1
      replace j0 := keep HB.out j0
      replace j1 := keep HB.out j1
      replace j2 := keep HB.out j2
      go_wp2_with fail
      refine (E1.out _ _ rfl HB.out).mono ?_
      rintro e w2 ⟨rfl, hb2⟩
      have HB2 := hid (HB.out.trans (hb2.mono HB.out.size))
      clear hb2
      go_wp2
      go_ret
      exact ⟨rfl, HB2.out⟩
end Go.Proofs.Ytaileckcflnbdaa.treeEval
