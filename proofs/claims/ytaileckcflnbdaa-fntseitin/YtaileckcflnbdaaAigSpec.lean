/- Whether a circuit is right, of the specification; conditions: none. -/
import Derived.Test.YtaileckcflnbdaaAigImpl
namespace Go.Proofs.Ytaileckcflnbdaa.aigSpec
open Go.RowKit Go.Deep base gates trees aigImpl
set_option linter.unusedVariables false

def inB (n low high : Int) : Bool := decide (low ≤ n ∧ n ≤ high)
set_option maxHeartbeats 400000 in
theorem in_spec (n low high : Int) (w : World) :
    Calls Try.prog 15 #[.int .i64 n, .int .i64 low, .int .i64 high] w fun e w' => e = .returned (.bool (inB n low high)) ∧ w' = w := by
  go_enter Try.func15, Try.ntmps15
  go_wp2
  all_goals
    go_ret
    refine ⟨ret_bool ?_, rfl⟩
    rw [Bool.eq_iff_iff]; simp [inB, *]; try omega

set_option maxHeartbeats 3200000 in
theorem aigOK_spec (n : Int) (a : Option Addr) (len cap : Nat) (g : Gs) (w : World) (hr : GateRow w a len g) (hw : ∀ i, i < len → I64 (g i).1 ∧ I64 (g i).2) :
    Calls Try.prog 23 #[.agg #[.int .i64 n, .slice a len cap]] w fun e w' => e = .returned (.bool (aigB n len g)) ∧ Below w.heap.size w w' := by
  have hmost := hr.most
  unfold maxLen at hmost
  have HR := hid hr
  have HW := hid hw
  clear hr hw
  by_cases hv : ¬ (0 ≤ n ∧ n ≤ 12)
  · rw [aigB_bad (by omega)]
    have hi : inB n 0 12 = false := decide_eq_false hv
    go_enter Try.func23, Try.ntmps23
    go_wp2_with (go_at_call 15; refine (in_spec _ _ _ _).mono ?_; rintro e w' ⟨rfl, rfl⟩)
    go_ret
    exact ⟨rfl, (by repeat (first | exact Below.refl _ _ | assumption | refine Below.drew ?_ | refine Below.alloc ?_ (by first | exact Nat.le_refl _ | omega | (simp; done) | (simp; omega)) _ | refine Below.setCell ?_ (by first | exact Nat.le_refl _ | omega | (simp; done) | (simp; omega)) _))⟩
  have hv' : 0 ≤ n ∧ n ≤ 12 := by omega
  clear hv
  have hi : inB n 0 12 = true := decide_eq_true hv'
  by_cases h3 : (400 : Int) < (len : Int)
  · rw [aigB_bad (by omega)]
    go_enter Try.func23, Try.ntmps23
    go_wp2_with (go_at_call 15; refine (in_spec _ _ _ _).mono ?_; rintro e w' ⟨rfl, rfl⟩)
    go_ret
    exact ⟨rfl, (by repeat (first | exact Below.refl _ _ | assumption | refine Below.drew ?_ | refine Below.alloc ?_ (by first | exact Nat.le_refl _ | omega | (simp; done) | (simp; omega)) _ | refine Below.setCell ?_ (by first | exact Nat.le_refl _ | omega | (simp; done) | (simp; omega)) _))⟩
  have d3 : decide ((400 : Int) < (len : Int)) = false := decide_eq_false h3
  have HA := hid (aigB_all (g := g) (n := n) (len := len) (by omega))
  obtain ⟨h0, h1⟩ := hv'
  go_enter Try.func23, Try.ntmps23
  go_wp2_with (go_at_call 15; refine (in_spec _ _ _ _).mono ?_; rintro e w' ⟨rfl, rfl⟩)
  go_loopw [3] (fun i wr => ∃ k : Nat, k ≤ len ∧ i = .int .i64 k ∧ Below w.heap.size w wr ∧ wr.cell? ⟨w.heap.size, 0, none⟩ = some (.int .i64 n) ∧ wr.cell? ⟨w.heap.size, 1, none⟩ = some (.slice a len cap) ∧ ∀ j, j < k → goodB n g j = true) (fun i _ => len - (intOf i).toNat)
  case atStart => exact ⟨0, Nat.zero_le _, rfl, (by repeat (first | exact Below.refl _ _ | assumption | refine Below.drew ?_ | refine Below.alloc ?_ (by first | exact Nat.le_refl _ | omega | (simp; done) | (simp; omega)) _ | refine Below.setCell ?_ (by first | exact Nat.le_refl _ | omega | (simp; done) | (simp; omega)) _)), by simp [go_sem], by simp [go_sem], fun j hj => absurd hj (Nat.not_lt_zero _)⟩
  case round =>
    obtain ⟨k, hk, rfl, hb, hn, hs, ha⟩ := hrel
    have HB := hid hb
    have HG := hid ha
    clear hb ha
    by_cases hlt : k < len
    · obtain ⟨b, off, rfl, hc0, hc1⟩ := HR.out.cell k hlt
      obtain ⟨wx, wy⟩ := HW.out k hlt
      replace hc0 := keep HB.out hc0
      replace hc1 := keep HB.out hc1
      obtain ⟨x, y, hg⟩ : ∃ x y, g k = (x, y) := ⟨_, _, rfl⟩
      rw [hg] at hc0 hc1 wx wy
      have HGK := hid hg
      have hbr := World.block_lt_of_cell? _ _ hc0
      have hnr := World.block_lt_of_cell? _ _ hn
      have hwx := wrap_half wx
      have hwy := wrap_half wy
      clear hg wx wy
      cases hgb : gateB x y (n + 1 + k) with
      | false =>
        have hbad := of_decide_eq_false hgb
        have HF := hid (allTo_false hlt (good_no HGK.out hgb))
        by_cases e1 : x < 2
        · have f1 : decide (x < 2) = true := decide_eq_true e1
          clear hbad
          go_wp2
          go_ret
          exact ⟨ret_bool (by rw [HA.out]; exact HF.out.symm), HB.out.trans ((show Below wr.heap.size wr _ from (by repeat (first | exact Below.refl _ _ | assumption | refine Below.drew ?_ | refine Below.alloc ?_ (by first | exact Nat.le_refl _ | omega | (simp; done) | (simp; omega)) _ | refine Below.setCell ?_ (by first | exact Nat.le_refl _ | omega | (simp; done) | (simp; omega)) _))).mono HB.out.size)⟩
        have f1 : decide (x < 2) = false := decide_eq_false e1
        by_cases e2 : y ≤ x
        · have f2 : decide (y ≤ x) = true := decide_eq_true e2
          clear hbad
          go_wp2
          go_ret
          exact ⟨ret_bool (by rw [HA.out]; exact HF.out.symm), HB.out.trans ((show Below wr.heap.size wr _ from (by repeat (first | exact Below.refl _ _ | assumption | refine Below.drew ?_ | refine Below.alloc ?_ (by first | exact Nat.le_refl _ | omega | (simp; done) | (simp; omega)) _ | refine Below.setCell ?_ (by first | exact Nat.le_refl _ | omega | (simp; done) | (simp; omega)) _))).mono HB.out.size)⟩
        have f2 : decide (y ≤ x) = false := decide_eq_false e2
        by_cases e3 : 2 * (n + 1 + k) ≤ y
        · have f3 : decide (2 * (n + 1 + (k : Int)) ≤ y) = true := decide_eq_true e3
          clear hbad
          go_wp2
          go_ret
          exact ⟨ret_bool (by rw [HA.out]; exact HF.out.symm), HB.out.trans ((show Below wr.heap.size wr _ from (by repeat (first | exact Below.refl _ _ | assumption | refine Below.drew ?_ | refine Below.alloc ?_ (by first | exact Nat.le_refl _ | omega | (simp; done) | (simp; omega)) _ | refine Below.setCell ?_ (by first | exact Nat.le_refl _ | omega | (simp; done) | (simp; omega)) _))).mono HB.out.size)⟩
        have f3 : decide (2 * (n + 1 + (k : Int)) ≤ y) = false := decide_eq_false e3
        have f4 : (x / 2 == y / 2) = true := by simp only [beq_iff_eq]; omega
        clear hbad hwx hwy
        go_wp2
        go_ret
        exact ⟨ret_bool (by rw [HA.out]; exact HF.out.symm), HB.out.trans ((show Below wr.heap.size wr _ from (by repeat (first | exact Below.refl _ _ | assumption | refine Below.drew ?_ | refine Below.alloc ?_ (by first | exact Nat.le_refl _ | omega | (simp; done) | (simp; omega)) _ | refine Below.setCell ?_ (by first | exact Nat.le_refl _ | omega | (simp; done) | (simp; omega)) _))).mono HB.out.size)⟩
      | true =>
        have hok := of_decide_eq_true hgb
        have f1 : decide (x < 2) = false := decide_eq_false (by omega)
        have f2 : decide (y ≤ x) = false := decide_eq_false (by omega)
        have f3 : decide (2 * (n + 1 + (k : Int)) ≤ y) = false := decide_eq_false (by omega)
        have f4 : (x / 2 == y / 2) = false := by simp only [beq_eq_false_iff_ne]; omega
        have e1 : 2 ≤ x := by omega
        have e2 : x < y := by omega
        have e3 : y < 2 * (n + 1 + k) := by omega
        clear hwx hwy hok
        go_wp2
        go_loopw [6] (fun i w2 => ∃ m : Nat, m ≤ k ∧ i = .int .i64 m ∧ Below wr.heap.size wr w2 ∧ w2.cell? ⟨wr.heap.size, 0, none⟩ = some (.int .i64 x) ∧ w2.cell? ⟨wr.heap.size, 1, none⟩ = some (.int .i64 y) ∧ ∀ j, j < m → g j ≠ (x, y)) (fun i _ => k - (intOf i).toNat)
        case atStart => exact ⟨0, Nat.zero_le _, rfl, (by repeat (first | exact Below.refl _ _ | assumption | refine Below.drew ?_ | refine Below.alloc ?_ (by first | exact Nat.le_refl _ | omega | (simp; done) | (simp; omega)) _ | refine Below.setCell ?_ (by first | exact Nat.le_refl _ | omega | (simp; done) | (simp; omega)) _)), by simp [go_sem], by simp [go_sem], fun j hj => absurd hj (Nat.not_lt_zero _)⟩
        case round =>
          obtain ⟨m, hm, rfl, hb2, g0, g1, hne⟩ := hrel
          have HB2 := hid hb2
          have HNE := hid hne
          replace hn := keep hb2 hn
          replace hs := keep hb2 hs
          clear hb2 hne hc0 hc1
          by_cases hltm : m < k
          · obtain ⟨b', off', hbo, hm0, hm1⟩ := HR.out.cell m (by omega)
            obtain ⟨rfl, rfl⟩ : b = b' ∧ off = off' := by simpa using hbo
            replace hm0 := keep HB2.out (keep HB.out hm0)
            replace hm1 := keep HB2.out (keep HB.out hm1)
            obtain ⟨p, q, hpq⟩ : ∃ p q, g m = (p, q) := ⟨_, _, rfl⟩
            rw [hpq] at hm0 hm1
            have HPQ := hid hpq
            clear hpq hbo
            by_cases heq : p = x ∧ q = y
            · obtain ⟨rfl, rfl⟩ := heq
              go_wp2
              go_quiet (fail)
              go_wp2
              go_ret
              exact ⟨ret_bool (by rw [HA.out]; exact (allTo_false hlt (good_twice HGK.out hltm HPQ.out)).symm), HB.out.trans ((HB2.out.trans ((below_drewN _ _).mono HB2.out.size)).mono HB.out.size)⟩
            · have HNQ := hid (show (p, q) ≠ (x, y) from fun h => heq (by simpa using h))
              by_cases hp : p = x
              · have hq : (q == y) = false := by simp; exact fun h => heq ⟨hp, h⟩
                subst hp
                clear heq
                go_wp2
                go_quiet (fail)
                go_wp2
                go_roundw
                case rel =>
                  refine ⟨m + 1, by omega, by go_num, HB2.out.trans ((below_drewN _ _).mono HB2.out.size), by simpa using g0, by simpa using g1, fun j hj => ?_⟩
                  by_cases e : j = m
                  · subst e; rw [HPQ.out]; exact HNQ.out
                  · exact HNE.out j (by omega)
                case measure => simp [intOf]; omega
              · have hq : (p == x) = false := by simp [hp]
                clear heq hp
                go_wp2
                go_quiet (fail)
                go_wp2
                go_roundw
                case rel =>
                  refine ⟨m + 1, by omega, by go_num, HB2.out.trans ((below_drewN _ _).mono HB2.out.size), by simpa using g0, by simpa using g1, fun j hj => ?_⟩
                  by_cases e : j = m
                  · subst e; rw [HPQ.out]; exact HNQ.out
                  · exact HNE.out j (by omega)
                case measure => simp [intOf]; omega
          · have e : m = k := by omega
            subst e
            have HGD := hid (good_yes HGK.out hgb (fun ⟨j, hj, h⟩ => HNE.out j hj h))
            have HB3 := hid (HB.out.trans (HB2.out.mono HB.out.size))
            go_wp2
            go_roundw
            case rel =>
              refine ⟨m + 1, by omega, by go_num, HB3.out, hn, hs, fun j hj => ?_⟩
              by_cases e : j = m
              · subst e; exact HGD.out
              · exact HG.out j (by omega)
            case measure => simp [intOf]; omega
    · have e : k = len := by omega
      subst e
      go_wp2
      go_ret
      exact ⟨ret_bool (by rw [HA.out]; exact (allTo_of HG.out).symm), HB.out⟩
end Go.Proofs.Ytaileckcflnbdaa.aigSpec
