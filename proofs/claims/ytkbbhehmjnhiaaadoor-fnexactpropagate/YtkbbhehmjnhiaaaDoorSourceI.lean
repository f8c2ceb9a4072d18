/- The specification's source of choices: a number is told out of a code's bytes; whatever the bytes, it is in its bounds, and only the source's own block is written; conditions: lengths that fit. -/
import Derived.Test.YtkbbhehmjnhiaaaDoorIntsOwn
import Derived.BigRegion
namespace Go.Proofs.YtkbbhehmjnhiaaaDoor.source
open Go.RowKit Go.Deep Go.Sort base intsOwn

end Go.Proofs.YtkbbhehmjnhiaaaDoor.source
