/- What the program puts together of two rows of expressions, bit by bit; conditions: none. -/
import Derived.Test.YtofdhoefphoaaaaBuilt
namespace Go.Proofs.Ytofdhoefphoaaaa.equalImpl
open Go.RowKit Go.Deep Go base trees built heldStore drawn
set_option linter.unusedVariables false

def eqStep (e p q : T) : T := ndT 4 2 (two e (ndT 3 1 (one (ndT 6 2 (two p q)))))
/-- What is gathered of the first so many. -/
def eqT (A B s0 : T) : Nat → T
  | 0 => s0
  | i + 1 => eqStep (eqT A B s0 i) (kid A i) (kid B i)
theorem eqT_kind {A B s0 : T} (h : kd s0 ≠ 0) (i : Nat) : kd (eqT A B s0 i) ≠ 0 := by
  cases i with
  | zero => exact h
  | succ i => exact nd_kind (by decide)
end Go.Proofs.Ytofdhoefphoaaaa.equalImpl
