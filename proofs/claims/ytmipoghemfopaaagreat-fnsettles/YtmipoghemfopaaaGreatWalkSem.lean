/- The way of a packet by routes, as plain functions; of no program; conditions: none. -/
import Derived.Test.YtmipoghemfopaaaGreatNetAll
import Derived.Test.YtmipoghemfopaaaGreatRouteRow
namespace Go.Proofs.YtmipoghemfopaaaGreat.walkSem
open Go.RowKit Go.Deep base names netSem routeRow
set_option linter.unusedVariables false

def filtB (f : R) (a b port : Int) (i : Nat) : Bool := f i 0 == a && f i 1 == b && inB port (f i 2) (f i 3)
/-- A filter of a to b is for a port. -/
def filt (f : R) (m : Nat) (a b port : Int) : Bool := decide (0 ≤ firstAt (filtB f a b port) m)
theorem filt_hit {f : R} {m k : Nat} {a b port : Int} (hk : k < m) (h : filtB f a b port k = true) : filt f m a b port = true := decide_eq_true (firstAt_spec.2 ⟨k, hk, h⟩)
theorem filt_none {f : R} {m : Nat} {a b port : Int} (h : ∀ i, i < m → filtB f a b port i = false) : filt f m a b port = false := by
  unfold filt
  rw [firstAt_none h]; decide
/-- How a packet ends at a router; 0: it goes on. -/
def outAt (f : R) (m : Nat) (a via port : Int) : Int := if via = -2 then 1 else if via = -1 then 2 else if via = -3 then 3 else if filt f m a via port = true then 4 else 0
theorem out_pos (f : R) (m : Nat) (a via port : Int) : 0 ≤ outAt f m a via port ∧ outAt f m a via port ≤ 4 := by
  unfold outAt
  repeat' split
  all_goals decide
def wayR (rs : Rs) (f : R) (m : Nat) (port : Int) : Nat → Int → List Int
  | 0, _ => []
  | n + 1, a => if outAt f m a (rs a.toNat).via port = 0 then (rs a.toNat).via :: wayR rs f m port n (rs a.toNat).via else []
def wayO (rs : Rs) (f : R) (m : Nat) (port : Int) : Nat → Int → Int
  | 0, _ => 3
  | n + 1, a => if outAt f m a (rs a.toNat).via port = 0 then wayO rs f m port n (rs a.toNat).via else outAt f m a (rs a.toNat).via port
theorem way_stop {rs : Rs} {f : R} {m n : Nat} {port a : Int} (h : outAt f m a (rs a.toNat).via port ≠ 0) : wayR rs f m port (n + 1) a = [] ∧ wayO rs f m port (n + 1) a = outAt f m a (rs a.toNat).via port := by
  simp only [wayR, wayO]
  rw [if_neg h, if_neg h]
  exact ⟨rfl, rfl⟩
theorem way_go {rs : Rs} {f : R} {m n : Nat} {port a : Int} (h : outAt f m a (rs a.toNat).via port = 0) : wayR rs f m port (n + 1) a = (rs a.toNat).via :: wayR rs f m port n (rs a.toNat).via ∧ wayO rs f m port (n + 1) a = wayO rs f m port n (rs a.toNat).via := by
  simp only [wayR, wayO]
  rw [if_pos h, if_pos h]
  exact ⟨rfl, rfl⟩
theorem way_len (rs : Rs) (f : R) (m : Nat) (port : Int) : ∀ (n : Nat) (a : Int), (wayR rs f m port n a).length ≤ n := by
  intro n
  induction n with
  | zero => intro a; simp [wayR]
  | succ n ih =>
    intro a
    simp only [wayR]
    split
    · rw [List.length_cons]; have := ih (rs a.toNat).via; omega
    · simp
/-- Each Via is one that is below n, or tells an end. -/
def Viable (rs : Rs) (n : Nat) : Prop := ∀ i, i < n → -3 ≤ (rs i).via ∧ (rs i).via < n
theorem out_next {f : R} {m : Nat} {a via port : Int} (h : outAt f m a via port = 0) (hv : -3 ≤ via) : 0 ≤ via := by
  unfold outAt at h
  split at h
  · cases h
  split at h
  · cases h
  split at h
  · cases h
  omega
end Go.Proofs.YtmipoghemfopaaaGreat.walkSem
