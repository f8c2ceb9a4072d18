/- Of the specification: Candidates; conditions: none. -/
import Derived.Test.YtmipoghemfopaaaGreatSceneAll
import Derived.Test.YtmipoghemfopaaaGreatRoutesSpec
import Derived.Test.YtmipoghemfopaaaGreatCandEnv
namespace Go.Proofs.YtmipoghemfopaaaGreat.candFace
open Go.RowKit Go.Deep Go base netSem netSpec routeRow routesB routesSpec nbSem candSem candEnv candSpec sceneFault sceneFace
set_option linter.unusedVariables false

theorem env_code {ok rb : Bool} {el dl rl l3 l1 : Nat} {env : List Int} (h : ¬ 4096 < rl) : rtC ok rb el dl rl l3 l1 env = if envC ok el dl l3 l1 env = 0 then (if rb = true then 0 else 1) else envC ok el dl l3 l1 env := by
  unfold rtC envC arC
  by_cases h1 : 4096 < el ∨ 4096 < dl
  · rw [if_pos (by omega), if_pos h1]; rfl
  · rw [if_neg (by omega), if_neg h1]

end Go.Proofs.YtmipoghemfopaaaGreat.candFace
