/- What Forward answers, as plain functions; of no program; conditions: none. -/
import Derived.Test.YtbfpbfifhcfehaaRoutesB
namespace Go.Proofs.Ytbfpbfifhcfehaa.fwSem
open Go.RowKit Go.Deep base names netSem routeRow walkSem routesB
set_option linter.unusedVariables false

def fC (l : Nat → Nat) (s : Ss) (g : R) (o e : List Int) (x f : R) (dl rl : Nat) (ds : List Bool) (rs : Rs) (fr port : Int) : Int := fwC (netB l s g o e x f) (routesB g (l 1) (l 0) rl rs) dl rl (l 1) (l 0) fr port (anyDown g (l 1) rl ds rs)
def fwO (C : Int) (rs : Rs) (f : R) (m : Nat) (port : Int) (rl : Nat) (fr : Int) : Int := if C = 0 then wayO rs f m port rl fr else 0
def fwP (C : Int) (rs : Rs) (f : R) (m : Nat) (port : Int) (rl : Nat) (fr : Int) : List Int := if C = 0 then fr :: wayR rs f m port rl fr else []
theorem fwP_len (C : Int) (rs : Rs) (f : R) (m : Nat) (port : Int) (rl : Nat) (fr : Int) : (fwP C rs f m port rl fr).length ≤ rl + 1 := by
  unfold fwP
  split
  · rw [List.length_cons]; have := way_len rs f m port rl fr; omega
  · simp
theorem fC_small {l : Nat → Nat} {s : Ss} {g : R} {o e : List Int} {x f : R} {dl rl : Nat} {ds : List Bool} {rs : Rs} {fr port : Int} (h : fC l s g o e x f dl rl ds rs fr port = 0) : rl ≤ 4096 := by
  unfold fC fwC at h
  split at h
  · cases h
  · omega
theorem fwP_small (l : Nat → Nat) (s : Ss) (g : R) (o e : List Int) (x f : R) (dl rl : Nat) (ds : List Bool) (rs : Rs) (fr port : Int) (m : Nat) : (fwP (fC l s g o e x f dl rl ds rs fr port) rs f m port rl fr).length ≤ 4097 := by
  by_cases h : fC l s g o e x f dl rl ds rs fr port = 0
  · have := fwP_len (fC l s g o e x f dl rl ds rs fr port) rs f m port rl fr
    have := fC_small h
    omega
  · unfold fwP; rw [if_neg h]; simp
theorem no_out {C : Int} {rs : Rs} {f : R} {m : Nat} {port : Int} {rl : Nat} {fr : Int} (h : C ≠ 0) : fwO C rs f m port rl fr = 0 ∧ fwP C rs f m port rl fr = [] := by
  unfold fwO fwP; rw [if_neg h, if_neg h]; exact ⟨rfl, rfl⟩
theorem yes_out (rs : Rs) (f : R) (m : Nat) (port : Int) (rl : Nat) (fr : Int) : fwO 0 rs f m port rl fr = wayO rs f m port rl fr ∧ fwP 0 rs f m port rl fr = fr :: wayR rs f m port rl fr := by
  unfold fwO fwP; rw [if_pos rfl, if_pos rfl]; exact ⟨rfl, rfl⟩
end Go.Proofs.Ytbfpbfifhcfehaa.fwSem
