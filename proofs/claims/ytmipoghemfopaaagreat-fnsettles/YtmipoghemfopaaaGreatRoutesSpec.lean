/- Of the specification: whether routes are right; conditions: none. -/
import Derived.Test.YtmipoghemfopaaaGreatRoutesB
import Derived.Test.YtmipoghemfopaaaGreatNetSpec
import Derived.Test.YtmipoghemfopaaaGreatDrawAll
namespace Go.Proofs.YtmipoghemfopaaaGreat.routesSpec
open Go.RowKit Go.Deep Go base names netSem netSpec routeRow walkSem routesB drawn
set_option linter.unusedVariables false

set_option maxHeartbeats 400000 in
theorem none_spec (w : World) :
    Calls Tryz.prog 23 #[] w fun e' w' => e' = .returned (.agg #[.int .i64 (-3), .int .i64 0, .int .i64 0, .bool false]) ∧ Below w.heap.size w w' := by
  go_enter Tryz.func23, Tryz.ntmps23
  go_wp2
  refine bodyPost_ret (v := .agg #[.int .i64 (-3), .int .i64 0, .int .i64 0, .bool false]) (by simp [results, Tryz.results23, go_sem]) rfl ⟨rfl, (by repeat (first | exact Below.refl _ _ | assumption | refine Below.drew ?_ | refine Below.alloc ?_ (by first | exact Nat.le_refl _ | omega | (simp; done) | (simp; omega)) _ | refine Below.setCell ?_ (by first | exact Nat.le_refl _ | omega | (simp; done) | (simp; omega)) _))⟩

theorem ne_ifs (x0 x1 x2 : Int) (x3 : Bool) (w8 : World) : (if x0 = -3 then if x1 = 0 then if x2 = 0 then if x3 = true then Result.ok (Next.value (Value.bool true)) w8 else Result.ok (Next.value (Value.bool false)) w8 else Result.ok (Next.value (Value.bool true)) w8 else Result.ok (Next.value (Value.bool true)) w8 else Result.ok (Next.value (Value.bool true)) w8) = Result.ok (Next.value (Value.bool (!(x0 == -3 && x1 == 0 && x2 == 0 && x3 == false)))) w8 := by
  by_cases h0 : x0 = -3 <;> by_cases h1 : x1 = 0 <;> by_cases h2 : x2 = 0 <;> cases x3 <;> simp [h0, h1, h2]

end Go.Proofs.YtmipoghemfopaaaGreat.routesSpec
