/- Whether a filter is for a port, as plain functions; of no program; conditions: none. -/
import Derived.Test.YtofdhoefphoaaaaNetSem
namespace Go.Proofs.Ytofdhoefphoaaaa.filtSem
open Go.RowKit Go.Deep base names netSem
set_option linter.unusedVariables false

def filtB (f : R) (a b port : Int) (i : Nat) : Bool := f i 0 == a && f i 1 == b && inB port (f i 2) (f i 3)
/-- A filter of a to b is for a port. -/
def filt (f : R) (m : Nat) (a b port : Int) : Bool := decide (0 ≤ firstAt (filtB f a b port) m)
theorem filt_hit {f : R} {m k : Nat} {a b port : Int} (hk : k < m) (h : filtB f a b port k = true) : filt f m a b port = true := decide_eq_true (firstAt_spec.2 ⟨k, hk, h⟩)
theorem filt_none {f : R} {m : Nat} {a b port : Int} (h : ∀ i, i < m → filtB f a b port i = false) : filt f m a b port = false := by
  unfold filt
  rw [firstAt_none h]; decide
end Go.Proofs.Ytofdhoefphoaaaa.filtSem
