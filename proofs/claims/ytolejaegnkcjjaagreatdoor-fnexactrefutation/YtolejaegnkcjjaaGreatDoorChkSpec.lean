/- The specification checks a proof step by step (l03Check); conditions: a right formula and right steps. -/
import Derived.Test.YtolejaegnkcjjaaGreatDoorPart39
import Derived.Test.YtolejaegnkcjjaaGreatDoorPart41
import Derived.Test.YtolejaegnkcjjaaGreatDoorSteps
import Derived.Test.YtolejaegnkcjjaaGreatDoorPart16
import Derived.Laws.AppendOwnNone
namespace Go.Proofs.YtolejaegnkcjjaaGreatDoor.chkSpec
open Go.RowKit Go.Deep Go base copy cnf steps sets setsOf solSets solMath solClose chkMath ratMath chkSem findSpec rupSpec ratSpec clsRow heldStore drawn drawnLin stepAppend
set_option linter.unusedVariables false
set_option linter.unusedSimpArgs false
set_option pp.deepTerms true
set_option pp.maxSteps 10000000

/-- Clauses of few literals, all of the variables below n. -/
def ShortIn (n : Nat) (zss : List (List Int)) : Prop := ∀ ys ∈ zss, ys.length ≤ 12 ∧ ∀ z ∈ ys, z ≠ 0 ∧ z.natAbs < n
theorem ShortIn.add {n : Nat} {zss : List (List Int)} (h : ShortIn n zss) {zs : List Int} (hz : zs.length ≤ 12 ∧ ∀ z ∈ zs, z ≠ 0 ∧ z.natAbs < n) : ShortIn n (zss ++ [zs]) := fun ys hy => by
  rcases List.mem_append.1 hy with hy | hy
  · exact h ys hy
  · rw [List.mem_singleton.1 hy]; exact hz
end Go.Proofs.YtolejaegnkcjjaaGreatDoor.chkSpec
