/- Whether a property is one of a network, as a plain function; of no program; conditions: none. -/
import Derived.Test.YtbfpbfifhcfehaaNetSem
namespace Go.Proofs.Ytbfpbfifhcfehaa.propSem
open Go.RowKit Go.Deep base names netSem
set_option linter.unusedVariables false

def propB (nb : Bool) (r : Nat) (k fr po wy : Int) : Bool := nb && inB k 1 4 && inB fr 0 (r - 1) && inB po (-1) 15 && (if k = 3 then inB wy 0 (r - 1) else decide (wy = 0))
theorem netB_in {l : Nat → Nat} {s : Ss} {g x f : R} {o e : List Int} (h : netB l s g o e x f = true) : 1 ≤ l 0 ∧ l 0 ≤ 4 := by
  unfold netB routersB inB at h
  simp only [Bool.and_eq_true, decide_eq_true_eq] at h
  obtain ⟨⟨⟨⟨⟨⟨⟨h1, _⟩, _⟩, _⟩, _⟩, _⟩, _⟩, _⟩ := h
  omega
theorem prop_eq {r : Nat} {k fr po wy : Int} {b1 b2 b3 b4 b5 b6 b7 : Bool} (hr : 1 ≤ r) (e1 : inB k 1 4 = b1) (e2 : inB fr 0 (r - 1) = b2) (e3 : (po == -1) = b3) (e4 : inB po 0 15 = b4) (e5 : (wy == 0) = b5) (e6 : (k == 3) = b6) (e7 : inB wy 0 (r - 1) = b7) :
    propB true r k fr po wy = (b1 && b2 && (b3 || b4) && (b5 || b6 && b7)) := by
  subst e1 e2 e3 e4 e5 e6 e7
  have h3 : inB po (-1) 15 = (po == -1 || inB po 0 15) := by
    rw [Bool.eq_iff_iff]; simp [inB]; omega
  have h5 : (if k = 3 then inB wy 0 (r - 1) else decide (wy = 0)) = (wy == 0 || k == 3 && inB wy 0 (r - 1)) := by
    by_cases hk : k = 3
    · rw [if_pos hk, Bool.eq_iff_iff]; simp [inB, hk]; omega
    · rw [if_neg hk, Bool.eq_iff_iff]; simp [hk]
  unfold propB
  rw [h3, h5, Bool.true_and]
theorem prop_eq' {nb : Bool} {r : Nat} {k fr po wy : Int} {b1 b2 b3 b4 b5 b6 : Bool} (e1 : inB k 1 4 = b1) (e2 : inB fr 0 (r - 1) = b2) (e3 : inB po (-1) 15 = b3) (e4 : (k == 3) = b4) (e5 : inB wy 0 (r - 1) = b5) (e6 : (wy == 0) = b6) :
    propB nb r k fr po wy = (nb && b1 && b2 && b3 && (if b4 then b5 else b6)) := by
  subst e1 e2 e3 e4 e5 e6
  unfold propB
  by_cases hk : k = 3
  · simp [hk]
  · simp [hk]
    intros
    rw [Bool.eq_iff_iff]; simp
end Go.Proofs.Ytbfpbfifhcfehaa.propSem
