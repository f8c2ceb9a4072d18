/- Routes that hold the marks of a count; of the laws; conditions: the count is small. -/
import Derived.Test.YtmipoghemfopaaaGreatRouteRow
import Derived.Test.YtmipoghemfopaaaGreatIntsOwn
import Derived.Test.YtmipoghemfopaaaGreatCandSem
namespace Go.Proofs.YtmipoghemfopaaaGreat.rtsHeld
open Go.RowKit Go.Deep Go base routeRow intsOwn candSem
set_option linter.unusedVariables false

/-- What a marked row of routes holds. -/
def markR (n : Int) (i : Nat) : Rt := ⟨n + 4 * i, n + 4 * i + 1, n + 4 * i + 2, (n + 4 * i + 3).tmod 3 == 0⟩

end Go.Proofs.YtmipoghemfopaaaGreat.rtsHeld
