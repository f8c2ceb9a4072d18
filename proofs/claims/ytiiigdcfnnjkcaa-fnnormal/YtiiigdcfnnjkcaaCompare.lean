/- How the program compares literals; conditions: literals of at most 40 variables. -/
import Derived.Test.YtiiigdcfnnjkcaaOrder
namespace Go.Proofs.Ytiiigdcfnnjkcaa.compare
open Go.RowKit Go.Deep base order

set_option maxHeartbeats 400000 in
theorem rank_impl (l : Int) (w : World) (h0 : -40 ≤ l) (h1 : l ≤ 40) :
    Calls Try.prog 74 #[.int .i64 l] w fun e w' => e = .returned (.int .i64 (rk l)) ∧ w' = w := by
  by_cases h : l < 0
  · have e : rk l = -2 * l + 1 := by unfold rk; rw [if_pos h]
    rw [e]
    clear e
    go_enter Try.func74, Try.ntmps74
    go_wp2
    go_ret
    exact ⟨ret_int (by omega), rfl⟩
  · have e : rk l = 2 * l := by unfold rk; rw [if_neg h]
    rw [e]
    clear e
    go_enter Try.func74, Try.ntmps74
    go_wp2
    go_ret
    exact ⟨ret_int (by omega), rfl⟩

/-- Below nought, nought, above. -/
def sgn (x y : Int) : Int := if x < y then -1 else if y < x then 1 else 0
set_option maxHeartbeats 400000 in
theorem cmp_int (x y : Int) (w : World) :
    Calls Try.prog 73 #[.int .i64 x, .int .i64 y] w fun e w' => e = .returned (.int .i64 (sgn x y)) ∧ w' = w := by
  rcases Int.lt_trichotomy x y with h | h | h
  · have e : sgn x y = -1 := by unfold sgn; rw [if_pos h]
    rw [e]
    clear e
    go_enter Try.func73, Try.ntmps73
    go_wp2
    go_ret
    exact ⟨rfl, rfl⟩
  · subst h
    have e : sgn x x = 0 := by unfold sgn; rw [if_neg (by omega), if_neg (by omega)]
    rw [e]
    clear e
    go_enter Try.func73, Try.ntmps73
    go_wp2
    go_ret
    exact ⟨rfl, rfl⟩
  · have e : sgn x y = 1 := by unfold sgn; rw [if_neg (by omega), if_pos h]
    rw [e]
    clear e
    go_enter Try.func73, Try.ntmps73
    go_wp2
    go_ret
    exact ⟨rfl, rfl⟩

set_option maxHeartbeats 400000 in
theorem lits_impl (a b : Int) (w : World) (h0 : -40 ≤ a ∧ a ≤ 40) (h1 : -40 ≤ b ∧ b ≤ 40) :
    Calls Try.prog 59 #[.int .i64 a, .int .i64 b] w fun e w' => e = .returned (.int .i64 (sgn (rk a) (rk b))) ∧ w' = w := by
  have HA := hid (fun w => rank_impl a w h0.1 h0.2)
  have HB := hid (fun w => rank_impl b w h1.1 h1.2)
  clear h0 h1
  generalize rk a = x at *
  generalize rk b = y at *
  have HC := hid (cmp_int x y)
  generalize sgn x y = r at *
  go_enter Try.func59, Try.ntmps59
  go_wp2_with fail
  refine (HA.out _).mono ?_
  rintro e w' ⟨rfl, rfl⟩
  go_wp2_with fail
  refine (HB.out _).mono ?_
  rintro e w' ⟨rfl, rfl⟩
  go_wp2_with fail
  refine (HC.out _).mono ?_
  rintro e w' ⟨rfl, rfl⟩
  go_wp2
  go_ret
  exact ⟨rfl, rfl⟩
end Go.Proofs.Ytiiigdcfnnjkcaa.compare
