/- The expression of a router's filters, as a tree; of no program; conditions: none. -/
import Derived.Test.YtofdhoefphoaaaaLessImpl
import Derived.Test.YtofdhoefphoaaaaBitPart
import Derived.Test.YtofdhoefphoaaaaNetSem
namespace Go.Proofs.Ytofdhoefphoaaaa.fexSem
open Go.RowKit Go.Deep Go base trees built lessImpl bitRows netSem
set_option linter.unusedVariables false

def portT : T := varT 0 4
def withinT (lo hi : Int) : T := ndT 4 2 (two (ndT 3 1 (one (lessT portT (constT lo 4) (cT 0) 4))) (ndT 3 1 (one (lessT (constT hi 4) portT (cT 0) 4))))
/-- The expression of the first k filters. -/
def fexT (f : R) (a b : Int) : Nat → T
  | 0 => cT 0
  | k + 1 => if f k 0 = a ∧ f k 1 = b then ndT 5 2 (two (fexT f a b k) (withinT (f k 2) (f k 3))) else fexT f a b k
theorem fexT_kind (f : R) (a b : Int) (k : Nat) : kd (fexT f a b k) ≠ 0 := by
  induction k with
  | zero => exact (by decide : (2 : Int) ≠ 0)
  | succ k ih =>
    simp only [fexT]
    split
    · exact nd_kind (by decide)
    · exact ih
theorem port_kind (i : Nat) (h : i < 4) : kd (kid portT i) ≠ 0 := (by decide : (1 : Int) ≠ 0)
theorem const_kind (n : Int) (i : Nat) (h : i < 4) : kd (kid (constT n 4) i) ≠ 0 := (by decide : (2 : Int) ≠ 0)
end Go.Proofs.Ytofdhoefphoaaaa.fexSem
