/- The first port that two filters tell apart, as plain functions; of no program; conditions: none. -/
import Derived.Test.YtofdhoefphoaaaaFiltSem
import Derived.Test.YtofdhoefphoaaaaNetSem
namespace Go.Proofs.Ytofdhoefphoaaaa.apartSem
open Go.RowKit Go.Deep base names netSem filtSem
set_option linter.unusedVariables false

def apB (f : R) (m : Nat) (a b : Int) (ff : R) (mm : Nat) (a2 b2 : Int) (k : Nat) : Bool := filt f m a b k != filt ff mm a2 b2 k
def apA (f : R) (m : Nat) (a b : Int) (ff : R) (mm : Nat) (a2 b2 : Int) : Int := firstAt (apB f m a b ff mm a2 b2) 16
def apI (r rr : Nat) (a b a2 b2 : Int) : Bool := inB a 0 (r - 1) && inB b 0 (r - 1) && inB a2 0 (rr - 1) && inB b2 0 (rr - 1)
def apC (k kk i : Bool) (A : Int) : Int := if k && kk then (if i then (if A < 0 then 6 else 0) else 5) else 1
def apP (c A : Int) : Int := if c = 0 then A else 0
theorem two_ints {a b x y : Int} (h : a = b) (h' : x = y) : Ending.returned (.tuple #[.int .i64 a, .int .i64 x]) = .returned (.tuple #[.int .i64 b, .int .i64 y]) := by rw [h, h']
end Go.Proofs.Ytofdhoefphoaaaa.apartSem
