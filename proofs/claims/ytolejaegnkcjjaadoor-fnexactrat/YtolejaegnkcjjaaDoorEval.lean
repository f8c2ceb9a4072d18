/- The contracts of what tells whether values make a formula true, of the program and of the specification; conditions: lengths that fit. -/
import Derived.Test.YtolejaegnkcjjaaDoorCnf
namespace Go.Proofs.YtolejaegnkcjjaaDoor.eval
open Go.RowKit Go.Deep base copy cnf

set_option maxHeartbeats 400000 in
theorem abs_spec (n : Int) (w : World) (h0 : -4611686018427387904 ≤ n) (h1 : n ≤ 4611686018427387904) :
    Calls Tryd.prog 32 #[.int .i64 n] w fun e w' => e = .returned (.int .i64 (n.natAbs : Int)) ∧ w' = w := by
  go_enter Tryd.func32, Tryd.ntmps32
  go_wp2
  all_goals
    go_ret
    exact ⟨ret_int (by omega), rfl⟩

theorem cnf_vars {vars : Int} {zss : List (List Int)} (h : cnfB vars zss = true) : 0 ≤ vars ∧ vars ≤ 40 ∧ zss.length ≤ 300 := by
  simp only [cnfB, Bool.and_eq_true, decide_eq_true_eq] at h
  exact h.1

end Go.Proofs.YtolejaegnkcjjaaDoor.eval
