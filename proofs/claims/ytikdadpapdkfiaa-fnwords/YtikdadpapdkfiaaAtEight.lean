/- The laws' helper that tells a number below 8 out of bytes; conditions: lengths that fit. -/
import Derived.Test.YtikdadpapdkfiaaValues
namespace Go.Proofs.Ytikdadpapdkfiaa.atEight
open Go.ChangeShapes Go.WideShapes Go.ChangeAt Go.RowKit Go.Deep Go.Joins base args values
set_option linter.unusedVariables false

set_option maxHeartbeats 1600000 in
theorem at_0_8 (a : Option Addr) (len cap : Nat) (w : World) (hb : Bytes w a len) (hl : len ≤ 1048576) :
    Calls Try.prog 5 #[.slice a len cap, .int .i64 0, .int .i64 8] w fun e w' => ∃ r : Nat, e = .returned (.int .i64 r) ∧ r < 8 ∧ Below w.heap.size w w' := by
  have HB := hid hb
  clear hb
  have hfin : ∀ z : Int, 0 ≤ z % 8 ∧ z % 8 < 8 := fun z => ⟨Int.emod_nonneg _ (by omega), Int.emod_lt_of_pos _ (by omega)⟩
  have HFin := hid hfin
  clear hfin
  by_cases h0 : len = 0
  · subst h0
    go_enter Try.func5, Try.ntmps5
    go_wp2
    go_ret
    exact ⟨0, rfl, by omega, (by repeat (first | exact Below.refl _ _ | assumption | refine Below.drew ?_ | refine Below.alloc ?_ (by first | exact Nat.le_refl _ | omega | (simp; done) | (simp; omega)) _ | refine Below.setCell ?_ (by first | exact Nat.le_refl _ | omega | (simp; done) | (simp; omega)) _))⟩
  have hq0 : ((len : Int) == 0) = false := by simp; omega
  have hlp : (0 : Int) < (len : Int) := by omega
  obtain ⟨p, hp⟩ : ∃ p : Nat, 0 % len = p := ⟨_, rfl⟩
  obtain ⟨q, hq⟩ : ∃ q : Nat, (0 + 1) % len = q := ⟨_, rfl⟩
  obtain ⟨r, hr⟩ : ∃ r : Nat, 0 / len = r := ⟨_, rfl⟩
  have hpl : p < len := by rw [← hp]; exact Nat.mod_lt _ (by omega)
  have hql : q < len := by rw [← hq]; exact Nat.mod_lt _ (by omega)
  have hrl : r ≤ 0 := by rw [← hr]; exact Nat.div_le_self _ _
  have hp' : (0 : Int) % (len : Int) = (p : Int) := by rw [← hp]; simp
  have hq' : (1 : Int) % (len : Int) = (q : Int) := by rw [← hq]; simp
  have hr' : (0 : Int) / (len : Int) = (r : Int) := by rw [← hr]; simp
  clear hp hq hr
  obtain ⟨bb, off, rfl, x, hx, hc⟩ := HB.out p hpl
  obtain ⟨bb', off', he, y, hy, hd⟩ := HB.out q hql
  cases he
  have ip : (p : Int) < (len : Int) := by omega
  have iq : (q : Int) < (len : Int) := by omega
  obtain rfl : p = 0 := by have h := hp'; simp at h; omega
  obtain rfl : r = 0 := by omega
  rw [Nat.add_zero] at hc
  clear hp' hr'
  go_enter Try.func5, Try.ntmps5
  go_wp2
  go_quiet (fail)
  go_wp2
  go_ret
  obtain ⟨f0, f1⟩ := HFin.out ((x : Int) * 31 + (y : Int))
  have hb := below_drewN w nq
  first
  | exact ⟨(((x : Int) * 31 + (y : Int)) % 8).toNat, ret_int (by omega), by omega, hb⟩
  | exact ⟨ret_int (by omega), by omega, hb⟩
  | exact ⟨(((x : Int) * 31 + (y : Int)) % 8).toNat, ret_int (by have := HFin.out ((x : Int) * 31 + (y : Int)); omega), by have := HFin.out ((x : Int) * 31 + (y : Int)); omega, hb⟩

set_option maxHeartbeats 1600000 in
theorem at_1_8 (a : Option Addr) (len cap : Nat) (w : World) (hb : Bytes w a len) (hl : len ≤ 1048576) :
    Calls Try.prog 5 #[.slice a len cap, .int .i64 1, .int .i64 8] w fun e w' => ∃ r : Nat, e = .returned (.int .i64 r) ∧ r < 8 ∧ Below w.heap.size w w' := by
  have HB := hid hb
  clear hb
  have hfin : ∀ z : Int, 0 ≤ z % 8 ∧ z % 8 < 8 := fun z => ⟨Int.emod_nonneg _ (by omega), Int.emod_lt_of_pos _ (by omega)⟩
  have HFin := hid hfin
  clear hfin
  by_cases h0 : len = 0
  · subst h0
    go_enter Try.func5, Try.ntmps5
    go_wp2
    go_ret
    exact ⟨7, rfl, by omega, (by repeat (first | exact Below.refl _ _ | assumption | refine Below.drew ?_ | refine Below.alloc ?_ (by first | exact Nat.le_refl _ | omega | (simp; done) | (simp; omega)) _ | refine Below.setCell ?_ (by first | exact Nat.le_refl _ | omega | (simp; done) | (simp; omega)) _))⟩
  have hq0 : ((len : Int) == 0) = false := by simp; omega
  have hlp : (0 : Int) < (len : Int) := by omega
  obtain ⟨p, hp⟩ : ∃ p : Nat, 1 % len = p := ⟨_, rfl⟩
  obtain ⟨q, hq⟩ : ∃ q : Nat, (1 + 1) % len = q := ⟨_, rfl⟩
  obtain ⟨r, hr⟩ : ∃ r : Nat, 1 / len = r := ⟨_, rfl⟩
  have hpl : p < len := by rw [← hp]; exact Nat.mod_lt _ (by omega)
  have hql : q < len := by rw [← hq]; exact Nat.mod_lt _ (by omega)
  have hrl : r ≤ 1 := by rw [← hr]; exact Nat.div_le_self _ _
  have hp' : (1 : Int) % (len : Int) = (p : Int) := by rw [← hp]; simp
  have hq' : (2 : Int) % (len : Int) = (q : Int) := by rw [← hq]; simp
  have hr' : (1 : Int) / (len : Int) = (r : Int) := by rw [← hr]; simp
  clear hp hq hr
  obtain ⟨bb, off, rfl, x, hx, hc⟩ := HB.out p hpl
  obtain ⟨bb', off', he, y, hy, hd⟩ := HB.out q hql
  cases he
  have ip : (p : Int) < (len : Int) := by omega
  have iq : (q : Int) < (len : Int) := by omega
  go_enter Try.func5, Try.ntmps5
  go_wp2
  go_quiet (fail)
  go_wp2
  go_ret
  obtain ⟨f0, f1⟩ := HFin.out ((x : Int) * 31 + (y : Int) + (r : Int))
  have hb := below_drewN w nq
  first
  | exact ⟨(((x : Int) * 31 + (y : Int) + (r : Int)) % 8).toNat, ret_int (by omega), by omega, hb⟩
  | exact ⟨ret_int (by omega), by omega, hb⟩
  | exact ⟨(((x : Int) * 31 + (y : Int)) % 8).toNat, ret_int (by have := HFin.out ((x : Int) * 31 + (y : Int)); omega), by have := HFin.out ((x : Int) * 31 + (y : Int)); omega, hb⟩

set_option maxHeartbeats 1600000 in
theorem at_2_8 (a : Option Addr) (len cap : Nat) (w : World) (hb : Bytes w a len) (hl : len ≤ 1048576) :
    Calls Try.prog 5 #[.slice a len cap, .int .i64 2, .int .i64 8] w fun e w' => ∃ r : Nat, e = .returned (.int .i64 r) ∧ r < 8 ∧ Below w.heap.size w w' := by
  have HB := hid hb
  clear hb
  have hfin : ∀ z : Int, 0 ≤ z % 8 ∧ z % 8 < 8 := fun z => ⟨Int.emod_nonneg _ (by omega), Int.emod_lt_of_pos _ (by omega)⟩
  have HFin := hid hfin
  clear hfin
  by_cases h0 : len = 0
  · subst h0
    go_enter Try.func5, Try.ntmps5
    go_wp2
    go_ret
    exact ⟨6, rfl, by omega, (by repeat (first | exact Below.refl _ _ | assumption | refine Below.drew ?_ | refine Below.alloc ?_ (by first | exact Nat.le_refl _ | omega | (simp; done) | (simp; omega)) _ | refine Below.setCell ?_ (by first | exact Nat.le_refl _ | omega | (simp; done) | (simp; omega)) _))⟩
  have hq0 : ((len : Int) == 0) = false := by simp; omega
  have hlp : (0 : Int) < (len : Int) := by omega
  obtain ⟨p, hp⟩ : ∃ p : Nat, 2 % len = p := ⟨_, rfl⟩
  obtain ⟨q, hq⟩ : ∃ q : Nat, (2 + 1) % len = q := ⟨_, rfl⟩
  obtain ⟨r, hr⟩ : ∃ r : Nat, 2 / len = r := ⟨_, rfl⟩
  have hpl : p < len := by rw [← hp]; exact Nat.mod_lt _ (by omega)
  have hql : q < len := by rw [← hq]; exact Nat.mod_lt _ (by omega)
  have hrl : r ≤ 2 := by rw [← hr]; exact Nat.div_le_self _ _
  have hp' : (2 : Int) % (len : Int) = (p : Int) := by rw [← hp]; simp
  have hq' : (3 : Int) % (len : Int) = (q : Int) := by rw [← hq]; simp
  have hr' : (2 : Int) / (len : Int) = (r : Int) := by rw [← hr]; simp
  clear hp hq hr
  obtain ⟨bb, off, rfl, x, hx, hc⟩ := HB.out p hpl
  obtain ⟨bb', off', he, y, hy, hd⟩ := HB.out q hql
  cases he
  have ip : (p : Int) < (len : Int) := by omega
  have iq : (q : Int) < (len : Int) := by omega
  go_enter Try.func5, Try.ntmps5
  go_wp2
  go_quiet (fail)
  go_wp2
  go_ret
  obtain ⟨f0, f1⟩ := HFin.out ((x : Int) * 31 + (y : Int) + (r : Int))
  have hb := below_drewN w nq
  first
  | exact ⟨(((x : Int) * 31 + (y : Int) + (r : Int)) % 8).toNat, ret_int (by omega), by omega, hb⟩
  | exact ⟨ret_int (by omega), by omega, hb⟩
  | exact ⟨(((x : Int) * 31 + (y : Int)) % 8).toNat, ret_int (by have := HFin.out ((x : Int) * 31 + (y : Int)); omega), by have := HFin.out ((x : Int) * 31 + (y : Int)); omega, hb⟩

set_option maxHeartbeats 1600000 in
theorem at_3_8 (a : Option Addr) (len cap : Nat) (w : World) (hb : Bytes w a len) (hl : len ≤ 1048576) :
    Calls Try.prog 5 #[.slice a len cap, .int .i64 3, .int .i64 8] w fun e w' => ∃ r : Nat, e = .returned (.int .i64 r) ∧ r < 8 ∧ Below w.heap.size w w' := by
  have HB := hid hb
  clear hb
  have hfin : ∀ z : Int, 0 ≤ z % 8 ∧ z % 8 < 8 := fun z => ⟨Int.emod_nonneg _ (by omega), Int.emod_lt_of_pos _ (by omega)⟩
  have HFin := hid hfin
  clear hfin
  by_cases h0 : len = 0
  · subst h0
    go_enter Try.func5, Try.ntmps5
    go_wp2
    go_ret
    exact ⟨5, rfl, by omega, (by repeat (first | exact Below.refl _ _ | assumption | refine Below.drew ?_ | refine Below.alloc ?_ (by first | exact Nat.le_refl _ | omega | (simp; done) | (simp; omega)) _ | refine Below.setCell ?_ (by first | exact Nat.le_refl _ | omega | (simp; done) | (simp; omega)) _))⟩
  have hq0 : ((len : Int) == 0) = false := by simp; omega
  have hlp : (0 : Int) < (len : Int) := by omega
  obtain ⟨p, hp⟩ : ∃ p : Nat, 3 % len = p := ⟨_, rfl⟩
  obtain ⟨q, hq⟩ : ∃ q : Nat, (3 + 1) % len = q := ⟨_, rfl⟩
  obtain ⟨r, hr⟩ : ∃ r : Nat, 3 / len = r := ⟨_, rfl⟩
  have hpl : p < len := by rw [← hp]; exact Nat.mod_lt _ (by omega)
  have hql : q < len := by rw [← hq]; exact Nat.mod_lt _ (by omega)
  have hrl : r ≤ 3 := by rw [← hr]; exact Nat.div_le_self _ _
  have hp' : (3 : Int) % (len : Int) = (p : Int) := by rw [← hp]; simp
  have hq' : (4 : Int) % (len : Int) = (q : Int) := by rw [← hq]; simp
  have hr' : (3 : Int) / (len : Int) = (r : Int) := by rw [← hr]; simp
  clear hp hq hr
  obtain ⟨bb, off, rfl, x, hx, hc⟩ := HB.out p hpl
  obtain ⟨bb', off', he, y, hy, hd⟩ := HB.out q hql
  cases he
  have ip : (p : Int) < (len : Int) := by omega
  have iq : (q : Int) < (len : Int) := by omega
  go_enter Try.func5, Try.ntmps5
  go_wp2
  go_quiet (fail)
  go_wp2
  go_ret
  obtain ⟨f0, f1⟩ := HFin.out ((x : Int) * 31 + (y : Int) + (r : Int))
  have hb := below_drewN w nq
  first
  | exact ⟨(((x : Int) * 31 + (y : Int) + (r : Int)) % 8).toNat, ret_int (by omega), by omega, hb⟩
  | exact ⟨ret_int (by omega), by omega, hb⟩
  | exact ⟨(((x : Int) * 31 + (y : Int)) % 8).toNat, ret_int (by have := HFin.out ((x : Int) * 31 + (y : Int)); omega), by have := HFin.out ((x : Int) * 31 + (y : Int)); omega, hb⟩

theorem at_8 (k : Nat) (hk : k < 4) (a : Option Addr) (len cap : Nat) (w : World) (hb : Bytes w a len) (hl : len ≤ 1048576) :
    Calls Try.prog 5 #[.slice a len cap, .int .i64 (k : Int), .int .i64 8] w fun e w' => ∃ r : Nat, e = .returned (.int .i64 r) ∧ r < 8 ∧ Below w.heap.size w w' := by
  match k, hk with
  | 0, _ => exact at_0_8 a len cap w hb hl
  | 1, _ => exact at_1_8 a len cap w hb hl
  | 2, _ => exact at_2_8 a len cap w hb hl
  | 3, _ => exact at_3_8 a len cap w hb hl
  | k + 4, hk => exact absurd hk (by omega)
end Go.Proofs.Ytikdadpapdkfiaa.atEight
