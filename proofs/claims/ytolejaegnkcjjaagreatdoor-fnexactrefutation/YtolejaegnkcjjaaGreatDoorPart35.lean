/- ChkRup; DrawnSeq: one text, so that the claim has fewer files. -/
import Derived.Test.YtolejaegnkcjjaaGreatDoorPart30
import Derived.Test.YtolejaegnkcjjaaGreatDoorSolSupI
import Derived.Test.YtolejaegnkcjjaaGreatDoorSolBackI
import Derived.Test.YtolejaegnkcjjaaGreatDoorPart16
/- A checker of the program tells whether a clause is RUP (isRup); conditions: clauses of at most 40 variables, lengths that fit. -/
namespace Go.Proofs.YtolejaegnkcjjaaGreatDoor.chkRup
open Go.RowKit Go.Deep Go.Maps Go base sets setsOf solSets solOps solMath solHold solMem solAddI solClose solTrail solBackI solSupI chkNew chkMath
set_option linter.unusedVariables false
set_option linter.unusedSimpArgs false

end Go.Proofs.YtolejaegnkcjjaaGreatDoor.chkRup

/- A region that draws its order, of which the last operation but one (a call that all others lead to) may write what it likes, the others only make new memory: one proof an operation; of no program; conditions: none. -/
namespace Go.Proofs.YtolejaegnkcjjaaGreatDoor.drawnSeq
open Go Go.RowKit heldStore drawn drawnLin
set_option linter.unusedVariables false

variable {P : Program} {ops : Array Oper} {Q : Exit → Act → World → Prop}
end Go.Proofs.YtolejaegnkcjjaaGreatDoor.drawnSeq
