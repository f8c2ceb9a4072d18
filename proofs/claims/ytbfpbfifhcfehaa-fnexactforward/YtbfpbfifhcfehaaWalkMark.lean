/- The laws' own marks in rows of routes and in a walk; conditions: lengths that fit. -/
import Derived.Test.YtbfpbfifhcfehaaRouteRow
import Derived.Test.YtbfpbfifhcfehaaIntsOwn
import Derived.Test.YtbfpbfifhcfehaaNetMark
namespace Go.Proofs.Ytbfpbfifhcfehaa.walkMark
open Go.RowKit Go.Deep base copy netSem routeRow intsOwn netMark
set_option linter.unusedVariables false

set_option maxHeartbeats 800000 in
theorem mark_bool (N len : Nat) (n : Int) (w : World) (h : ∃ f, w.rowIs N 4 len f) (hn0 : 0 ≤ n) (hn : n ≤ 100000000) (hl : len ≤ 1048576) :
    Calls Try.prog 20 #[.slice (some ⟨N, 0, none⟩) len len, .int .i64 n] w fun e w' => e = .returned (.int .i64 (n + len)) ∧ w.grownBy w' (some N) := by
  have HO := hid h
  clear h
  go_enter Try.func20, Try.ntmps20
  go_wp2
  go_loopw [5, 1] (fun i t wr => ∃ k : Nat, k ≤ len ∧ i = .int .i64 k ∧ t = .int .i64 (n + k) ∧ w.grownBy wr (some N) ∧ ∃ f, wr.rowIs N 4 len f) (fun i _ _ => len - (intOf i).toNat)
  case atStart => exact ⟨0, Nat.zero_le _, rfl, by simp, grown_refl _ _, HO.out⟩
  case round =>
    obtain ⟨k, hk, rfl, rfl, hot, f, hf⟩ := hrel
    have HT := hid hot
    have HF := hid hf
    clear hot
    by_cases hlt : k < len
    · have g0 := hf.cell (i := k) (by omega)
      have z0 := hf.frozen k
      clear hf
      go_wp2
      all_goals
        go_roundw
        case rel => exact ⟨k + 1, by omega, by go_num, by congr 1; omega, grown_set HT.out, _, HF.out.set k _⟩
        case measure => simp [intOf]; omega
    · have e : k = len := by omega
      subst e
      clear hf
      go_wp2
      go_ret
      exact ⟨rfl, HT.out⟩

set_option maxHeartbeats 1600000 in
theorem mark_rts (N len : Nat) (n : Int) (w : World) (h : ∃ f, w.rowIs N 82 (len * 4) f) (hn0 : 0 ≤ n) (hn : n ≤ 100000000) (hl : len ≤ 1048576) :
    Calls Try.prog 21 #[.slice (some ⟨N, 0, none⟩) len len, .int .i64 n] w fun e w' => e = .returned (.int .i64 (n + 4 * len)) ∧ w.grownBy w' (some N) := by
  have HO := hid h
  clear h
  go_enter Try.func21, Try.ntmps21
  go_wp2
  go_loopw [5, 1] (fun i t wr => ∃ k : Nat, k ≤ len ∧ i = .int .i64 k ∧ t = .int .i64 (n + 4 * k) ∧ w.grownBy wr (some N) ∧ ∃ f, wr.rowIs N 82 (len * 4) f) (fun i _ _ => len - (intOf i).toNat)
  case atStart => exact ⟨0, Nat.zero_le _, rfl, by simp, grown_refl _ _, HO.out⟩
  case round =>
    obtain ⟨k, hk, rfl, rfl, hot, f, hf⟩ := hrel
    have HT := hid hot
    have HF := hid hf
    clear hot
    by_cases hlt : k < len
    · have g0 := hf.cell (i := k * 4) (by omega)
      have z0 := hf.frozen (k * 4)
      have g1 := hf.cell (i := k * 4 + 1) (by omega)
      have z1 := hf.frozen (k * 4 + 1)
      have g2 := hf.cell (i := k * 4 + 2) (by omega)
      have z2 := hf.frozen (k * 4 + 2)
      have g3 := hf.cell (i := k * 4 + 3) (by omega)
      have z3 := hf.frozen (k * 4 + 3)
      clear hf
      go_wp2
      all_goals
        go_roundw
        case rel => exact ⟨k + 1, by omega, by go_num, by congr 1; omega, grown_set (grown_set (grown_set (grown_set HT.out))), _, ((((HF.out.set (k * 4) _).set (k * 4 + 1) _).set (k * 4 + 2) _).set (k * 4 + 3) _)⟩
        case measure => simp [intOf]; omega
    · have e : k = len := by omega
      subst e
      clear hf
      go_wp2
      go_ret
      exact ⟨rfl, HT.out⟩

set_option maxHeartbeats 800000 in
theorem eq_walk (O : Int) (a a' : Option Addr) (len cap cap' : Nat) (zs : List Int) (w : World) (hr : IntRow w a len zs) (hr' : IntRow w a' len zs) :
    Calls Try.prog 16 #[.agg #[.int .i64 O, .slice a len cap], .agg #[.int .i64 O, .slice a' len cap']] w fun e w' => e = .returned (.bool true) ∧ Below w.heap.size w w' := by
  have HR := hid hr
  have HR' := hid hr'
  clear hr hr'
  have h0 : (O != O) = false := by simp
  have hd : decide (zs = zs) = true := decide_eq_true rfl
  go_enter Try.func16, Try.ntmps16
  go_wp2_with fail
  refine (eqIntS _ _ _ _ _ _ zs zs _ (HR.out.below (by repeat (first | exact Below.refl _ _ | assumption | refine Below.drew ?_ | refine Below.alloc ?_ (by first | exact Nat.le_refl _ | omega | (simp; done) | (simp; omega)) _ | refine Below.setCell ?_ (by first | exact Nat.le_refl _ | omega | (simp; done) | (simp; omega)) _))) (HR'.out.below (by repeat (first | exact Below.refl _ _ | assumption | refine Below.drew ?_ | refine Below.alloc ?_ (by first | exact Nat.le_refl _ | omega | (simp; done) | (simp; omega)) _ | refine Below.setCell ?_ (by first | exact Nat.le_refl _ | omega | (simp; done) | (simp; omega)) _)))).mono ?_
  rintro e' w1 ⟨rfl, n8, hw⟩
  have HB : Hid (Below w.heap.size w w1) := by rw [hw]; exact (show Below w.heap.size w _ from (by repeat (first | exact Below.refl _ _ | assumption | refine Below.drew ?_ | refine Below.alloc ?_ (by first | exact Nat.le_refl _ | omega | (simp; done) | (simp; omega)) _ | refine Below.setCell ?_ (by first | exact Nat.le_refl _ | omega | (simp; done) | (simp; omega)) _))).trans ((below_drewN _ _).mono (by simp; omega))
  clear hw
  go_wp2
  go_ret
  exact ⟨rfl, HB.out⟩

theorem grown_alloc (w : World) (o : Obj) (row : Option Nat) : w.grownBy (w.alloc o) row := by
  have hb : Below w.heap.size w (w.alloc o) := (by repeat (first | exact Below.refl _ _ | assumption | refine Below.drew ?_ | refine Below.alloc ?_ (by first | exact Nat.le_refl _ | omega | (simp; done) | (simp; omega)) _ | refine Below.setCell ?_ (by first | exact Nat.le_refl _ | omega | (simp; done) | (simp; omega)) _))
  exact ⟨hb.os, hb.tape, hb.output, hb.size, fun j hj _ => hb.block j hj⟩
theorem grown_trans {w w1 w2 : World} {row : Option Nat} (h : w.grownBy w1 row) (h' : w1.grownBy w2 row) : w.grownBy w2 row :=
  ⟨h'.os.trans h.os, h'.tape.trans h.tape, h'.output.trans h.output, Nat.le_trans h.size h'.size, fun j hj hne => (h'.block j (Nat.lt_of_lt_of_le hj h.size) hne).trans (h.block j hj hne)⟩

set_option maxHeartbeats 800000 in
theorem mark_walk (B : Nat) (O : Int) (v : Value) (zs : List Int) (n : Int) (w : World) (h : OwnInts B w v zs) (hn0 : 0 ≤ n) (hn : n ≤ 2097152) (hl : zs.length ≤ 1048576) :
    Calls Try.prog 22 #[.agg #[.int .i64 O, v], .int .i64 n] w fun e w' => e = .returned (.int .i64 (n + zs.length)) ∧ OwnInts B w' v (marks n zs.length) ∧ w.grownBy w' v.ownBlock := by
  obtain ⟨a, c, rfl, -⟩ := h.form
  have HO := hid h
  clear h
  go_enter Try.func22, Try.ntmps22
  go_wp2_with fail
  refine (mark_any B (.slice a zs.length c) zs n _ (HO.out.below (by repeat (first | exact Below.refl _ _ | assumption | refine Below.drew ?_ | refine Below.alloc ?_ (by first | exact Nat.le_refl _ | omega | (simp; done) | (simp; omega)) _ | refine Below.setCell ?_ (by first | exact Nat.le_refl _ | omega | (simp; done) | (simp; omega)) _))) hn0 hn hl).mono ?_
  rintro e' w1 ⟨rfl, ho, hg⟩
  have H1 := hid ho
  have HG := hid (grown_trans (grown_alloc w _ _) hg)
  clear ho hg
  go_wp2
  go_ret
  exact ⟨rfl, H1.out, HG.out⟩

set_option maxHeartbeats 800000 in
theorem held_walk (O : Int) (a : Option Addr) (len cap : Nat) (n : Int) (w : World) (hr : IntRow w a len (marks n len)) (hn0 : 0 ≤ n) (hn : n ≤ 2097152) (hl : len ≤ 1048576) :
    Calls Try.prog 23 #[.agg #[.int .i64 O, .slice a len cap], .int .i64 n] w fun e w' => e = .returned (.int .i64 (n + len)) ∧ Below w.heap.size w w' := by
  have HR := hid hr
  clear hr
  have d0 : decide (n + (len : Int) < 0) = false := decide_eq_false (by omega)
  go_enter Try.func23, Try.ntmps23
  go_wp2_with fail
  refine (held_ints a len cap n _ (HR.out.below (by repeat (first | exact Below.refl _ _ | assumption | refine Below.drew ?_ | refine Below.alloc ?_ (by first | exact Nat.le_refl _ | omega | (simp; done) | (simp; omega)) _ | refine Below.setCell ?_ (by first | exact Nat.le_refl _ | omega | (simp; done) | (simp; omega)) _))) hn0 hn hl).mono ?_
  rintro e' w1 ⟨rfl, hw⟩
  have hw := hw.symm
  subst hw
  go_wp2
  go_ret
  exact ⟨rfl, (by repeat (first | exact Below.refl _ _ | assumption | refine Below.drew ?_ | refine Below.alloc ?_ (by first | exact Nat.le_refl _ | omega | (simp; done) | (simp; omega)) _ | refine Below.setCell ?_ (by first | exact Nat.le_refl _ | omega | (simp; done) | (simp; omega)) _))⟩
end Go.Proofs.Ytbfpbfifhcfehaa.walkMark
