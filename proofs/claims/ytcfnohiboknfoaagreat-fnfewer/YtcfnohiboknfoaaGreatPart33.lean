import Derived.Test.YtcfnohiboknfoaaGreatPart19
set_option linter.unusedVariables false
namespace Go.Proofs.YtcfnohiboknfoaaGreat.routesSpec
open Go.RowKit Go.Deep Go base names netSem netSpec routeRow walkSem routesB drawn
set_option maxHeartbeats 400000 in
theorem none_spec (w:World) :
  Calls Tryz.prog 79 #[] w fun e' w'=>e' = .returned (.agg #[.int .i64 (-3),.int .i64 0,.int .i64 0,.bool false])∧Below w.heap.size w w' := by
 go_enter Tryz.func79,Tryz.ntmps79
 go_wp2
 refine bodyPost_ret (v:=.agg #[.int .i64 (-3),.int .i64 0,.int .i64 0,.bool false]) (by simp [results,Tryz.results79,go_sem]) rfl ⟨rfl,Bl⟩
end Go.Proofs.YtcfnohiboknfoaaGreat.routesSpec
namespace Go.Proofs.YtcfnohiboknfoaaGreat.candFace
open Go.RowKit Go.Deep Go base netSem netSpec routeRow routesB routesSpec nbSem candSem candEnv candSpec sceneFault sceneFace
end Go.Proofs.YtcfnohiboknfoaaGreat.candFace
