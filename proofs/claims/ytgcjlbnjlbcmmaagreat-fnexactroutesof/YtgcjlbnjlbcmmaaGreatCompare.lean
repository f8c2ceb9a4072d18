/- How the program compares literals; conditions: literals of at most 40 variables. -/
import Derived.Test.YtgcjlbnjlbcmmaaGreatOrder
namespace Go.Proofs.YtgcjlbnjlbcmmaaGreat.compare
open Go.RowKit Go.Deep base order

/-- Below nought, nought, above. -/
def sgn (x y : Int) : Int := if x < y then -1 else if y < x then 1 else 0
set_option maxHeartbeats 400000 in
theorem cmp_int (x y : Int) (w : World) :
    Calls Tryz.prog 134 #[.int .i64 x, .int .i64 y] w fun e w' => e = .returned (.int .i64 (sgn x y)) ∧ w' = w := by
  rcases Int.lt_trichotomy x y with h | h | h
  · have e : sgn x y = -1 := by unfold sgn; rw [if_pos h]
    rw [e]
    clear e
    go_enter Tryz.func134, Tryz.ntmps134
    go_wp2
    go_ret
    exact ⟨rfl, rfl⟩
  · subst h
    have e : sgn x x = 0 := by unfold sgn; rw [if_neg (by omega), if_neg (by omega)]
    rw [e]
    clear e
    go_enter Tryz.func134, Tryz.ntmps134
    go_wp2
    go_ret
    exact ⟨rfl, rfl⟩
  · have e : sgn x y = 1 := by unfold sgn; rw [if_neg (by omega), if_pos h]
    rw [e]
    clear e
    go_enter Tryz.func134, Tryz.ntmps134
    go_wp2
    go_ret
    exact ⟨rfl, rfl⟩

end Go.Proofs.YtgcjlbnjlbcmmaaGreat.compare
