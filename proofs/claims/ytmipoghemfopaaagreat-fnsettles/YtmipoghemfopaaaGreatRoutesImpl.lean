/- Of the program: whether routes are right, and whether a link on their ways is down; conditions: none but a right network. -/
import Derived.Test.YtmipoghemfopaaaGreatRoutesB
import Derived.Test.YtmipoghemfopaaaGreatNetImpl
namespace Go.Proofs.YtmipoghemfopaaaGreat.routesImpl
open Go.RowKit Go.Deep Go base names netSem netImpl routeRow walkSem routesB
set_option linter.unusedVariables false

set_option maxHeartbeats 400000 in
theorem none_impl (w : World) :
    Calls Tryz.prog 34 #[] w fun e' w' => e' = .returned (.agg #[.int .i64 (-3), .int .i64 0, .int .i64 0, .bool false]) ∧ Below w.heap.size w w' := by
  go_enter Tryz.func34, Tryz.ntmps34
  go_wp2
  refine bodyPost_ret (v := .agg #[.int .i64 (-3), .int .i64 0, .int .i64 0, .bool false]) (by simp [results, Tryz.results34, go_sem]) rfl ⟨rfl, (by repeat (first | exact Below.refl _ _ | assumption | refine Below.drew ?_ | refine Below.alloc ?_ (by first | exact Nat.le_refl _ | omega | (simp; done) | (simp; omega)) _ | refine Below.setCell ?_ (by first | exact Nat.le_refl _ | omega | (simp; done) | (simp; omega)) _))⟩

end Go.Proofs.YtmipoghemfopaaaGreat.routesImpl
