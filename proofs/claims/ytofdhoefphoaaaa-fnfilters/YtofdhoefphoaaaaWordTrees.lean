/- What is told of a tree that is a word of so many bits; of no program; conditions: none. -/
import Derived.Test.YtofdhoefphoaaaaTrees
namespace Go.Proofs.Ytofdhoefphoaaaa.wordTrees
open Go.RowKit Go.Deep base trees
set_option linter.unusedVariables false

def kidsW (k : Int) : Int := if k = 1 ∨ k = 2 then 0 else if k = 3 ∨ k = 4 ∨ k = 5 then 2 else -1
def mostW (b : Nat) (k : Int) : Int := if k = 1 then ((2 ^ b : Nat) : Int) - 1 else if k = 2 then ((12 / b : Nat) : Int) - 1 else 0
def shapeW (b : Nat) (t : T) : Bool := decide ((ln t : Int) = kidsW (kd t) ∧ 0 ≤ nn t ∧ nn t ≤ mostW b (kd t))
def rightW (b : Nat) : Nat → T → Bool
  | 0, t => shapeW b t
  | d + 1, t => shapeW b t && allTo (fun i => rightW b d (kid t i)) (ln t)

variable {b d : Nat} {t : T}
theorem rightW_eq (h0 : d = 0 → ln t = 0) : rightW b d t = (shapeW b t && allTo (fun i => rightW b (d - 1) (kid t i)) (ln t)) := by
  cases d with
  | zero => rw [h0 rfl]; simp [rightW, allTo]
  | succ d => rfl
/-- Right, with so many nodes ahead of it. -/
def okW (b d : Nat) (t : T) (n : Nat) : Bool := decide (n + size d t ≤ 9) && rightW b d t
theorem okW_iff {n : Nat} : okW b d t n = true ↔ n + size d t ≤ 9 ∧ rightW b d t = true := by simp [okW]
theorem okW_shape (h0 : d = 0 → ln t = 0) {n : Nat} (h : shapeW b t = false) : okW b d t n = false := by
  cases e : okW b d t n with
  | false => rfl
  | true =>
    have := (okW_iff.1 e).2
    rw [rightW_eq h0, h] at this
    simp at this
theorem okW_long (h0 : d = 0 → ln t = 0) {n : Nat} (h : 9 ≤ n) : okW b d t n = false := by
  cases e : okW b d t n with
  | false => rfl
  | true =>
    have h1 := okW_iff.1 e
    have h2 := size_pos h0
    omega
theorem okW_kid (h0 : d = 0 → ln t = 0) {n : Nat} (h : okW b d t n = true) {i : Nat} (hi : i < ln t) : okW b (d - 1) (kid t i) (n + 1 + sumTo (fun i => size (d - 1) (kid t i)) i) = true := by
  obtain ⟨h1, h3⟩ := okW_iff.1 h
  rw [size_eq h0] at h1
  rw [rightW_eq h0, Bool.and_eq_true] at h3
  have h4 := sumTo_le (f := fun i => size (d - 1) (kid t i)) (show i + 1 ≤ ln t from hi)
  rw [sumTo_succ] at h4
  have h6 := allTo_true h3.2 hi
  exact okW_iff.2 ⟨by omega, h6⟩
theorem okW_of (h0 : d = 0 → ln t = 0) {n : Nat} (hs : shapeW b t = true) (hn : n + 1 ≤ 9) (h : ∀ i, i < ln t → okW b (d - 1) (kid t i) (n + 1 + sumTo (fun i => size (d - 1) (kid t i)) i) = true) : okW b d t n = true := by
  refine okW_iff.2 ⟨?_, ?_⟩
  · rw [size_eq h0]
    by_cases e : ln t = 0
    · rw [e]; simp only [sumTo]; omega
    · have h1 := (okW_iff.1 (h (ln t - 1) (by omega))).1
      have h2 : sumTo (fun i => size (d - 1) (kid t i)) (ln t) = sumTo (fun i => size (d - 1) (kid t i)) (ln t - 1) + size (d - 1) (kid t (ln t - 1)) := by
        have e1 : ln t = (ln t - 1) + 1 := by omega
        rw [e1, sumTo_succ, Nat.add_sub_cancel]
      omega
  · rw [rightW_eq h0, hs, Bool.true_and]
    exact allTo_of fun i hi => (okW_iff.1 (h i hi)).2
theorem bdn {N : Nat} {W w : World} (h : Below N W w) (n : Nat) : Below N W (w.drewN n) := ⟨h.os, h.tape, h.output, h.size, h.block⟩
theorem bits_cases {b : Nat} (h1 : 1 ≤ b) (h2 : b ≤ 6) : b = 1 ∨ b = 2 ∨ b = 3 ∨ b = 4 ∨ b = 5 ∨ b = 6 := by omega
theorem bits_most {b : Nat} (h1 : 1 ≤ b) (h2 : b ≤ 6) : (b = 1 ∧ mostW b 1 = 1 ∧ mostW b 2 = 11) ∨ (b = 2 ∧ mostW b 1 = 3 ∧ mostW b 2 = 5) ∨ (b = 3 ∧ mostW b 1 = 7 ∧ mostW b 2 = 3) ∨ (b = 4 ∧ mostW b 1 = 15 ∧ mostW b 2 = 2) ∨ (b = 5 ∧ mostW b 1 = 31 ∧ mostW b 2 = 1) ∨ (b = 6 ∧ mostW b 1 = 63 ∧ mostW b 2 = 1) := by
  rcases bits_cases h1 h2 with rfl | rfl | rfl | rfl | rfl | rfl <;> decide
/-- Only what is right has a kind, its kids and its number. -/
theorem right_shape (h0 : d = 0 → ln t = 0) (h : rightW b d t = true) : shapeW b t = true := by
  rw [rightW_eq h0, Bool.and_eq_true] at h; exact h.1
theorem right_kid (h0 : d = 0 → ln t = 0) (h : rightW b d t = true) {i : Nat} (hi : i < ln t) : rightW b (d - 1) (kid t i) = true := by
  rw [rightW_eq h0, Bool.and_eq_true] at h; exact allTo_true h.2 hi
end Go.Proofs.Ytofdhoefphoaaaa.wordTrees
