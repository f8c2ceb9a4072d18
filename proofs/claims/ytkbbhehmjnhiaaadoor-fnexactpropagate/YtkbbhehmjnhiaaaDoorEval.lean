/- The contracts of what tells whether values make a formula true, of the program and of the specification; conditions: lengths that fit. -/
import Derived.Test.YtkbbhehmjnhiaaaDoorCnf
namespace Go.Proofs.YtkbbhehmjnhiaaaDoor.eval
open Go.RowKit Go.Deep base copy cnf

set_option maxHeartbeats 400000 in
theorem abs_spec (n : Int) (w : World) (h0 : -4611686018427387904 ≤ n) (h1 : n ≤ 4611686018427387904) :
    Calls Tryd.prog 17 #[.int .i64 n] w fun e w' => e = .returned (.int .i64 (n.natAbs : Int)) ∧ w' = w := by
  go_enter Tryd.func17, Tryd.ntmps17
  go_wp2
  all_goals
    go_ret
    exact ⟨ret_int (by omega), rfl⟩

end Go.Proofs.YtkbbhehmjnhiaaaDoor.eval
