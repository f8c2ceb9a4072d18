/- RunL; LeastSem: one text, so that the claim has fewer files. -/
import Derived.Test.YtjdcndkgodpnlaaDoorPart37
import Derived.Test.YtjdcndkgodpnlaaDoorRowsOwn
import Derived.Test.YtjdcndkgodpnlaaDoorCnfDraw
/- What follows from clauses and values by clauses that have one open literal alone, of the specification (l02Run); conditions: lengths that fit. -/
namespace Go.Proofs.YtjdcndkgodpnlaaDoor.runL
open Go.RowKit Go.Deep base copy runS rowsOwn
set_option linter.unusedVariables false

theorem own_far {B b : Nat} {w w1 : World} {v : Value} {zs : List Int} (h : OwnInts B w v zs) (hg : w.grownBy w1 (some b)) (hb : b < B) : OwnInts B w1 v zs :=
  own_grown h hg (fun g hgv e => by injection e with e; have := (World.ownsRow.lt h g hgv).1; omega)
end Go.Proofs.YtjdcndkgodpnlaaDoor.runL

/- What follows by unit clauses holds in all models, and what a least model is; of no program; conditions: values of -1, 0 and 1. -/
namespace Go.Proofs.YtjdcndkgodpnlaaDoor.leastSem
open Go base copy runS runL
set_option linter.unusedVariables false

/-- Whole values of the variables below n. -/
def Tot (M : Nat → Int) (n : Nat) : Prop := ∀ i, 1 ≤ i → i < n → M i = 1 ∨ M i = -1
/-- A model of clauses. -/
def Mod (Z : List (List Int)) (n : Nat) (M : Nat → Int) : Prop := Tot M n ∧ ∀ c ∈ Z, ∃ z ∈ c, runS.valOf M z = 1
/-- The clauses' literals are of the variables below n. -/
def Lits (Z : List (List Int)) (n : Nat) : Prop := ∀ c ∈ Z, ∀ z ∈ c, z ≠ 0 ∧ z.natAbs < n
def Rng (V : Nat → Int) (n : Nat) : Prop := ∀ i, i < n → -1 ≤ V i ∧ V i ≤ 1
theorem cl_true {V : Nat → Int} : ∀ (c : List Int) (o u : Int), (clS V c o u).1 = true → ∃ z ∈ c, runS.valOf V z = 1
  | [], o, u, h => by unfold clS at h; cases h
  | z :: c, o, u, h => by
    unfold clS at h
    by_cases h1 : runS.valOf V z = 1
    · exact ⟨z, by simp, h1⟩
    · rw [if_neg h1] at h
      split at h
      · obtain ⟨y, hy, h2⟩ := cl_true c _ _ h
        exact ⟨y, by simp [hy], h2⟩
      · obtain ⟨y, hy, h2⟩ := cl_true c _ _ h
        exact ⟨y, by simp [hy], h2⟩
theorem whole_model {V : Nat → Int} {n : Nat} {Z : List (List Int)} (hl : Lits Z n) (hr : Rng V n) (hw : ∀ i, 1 ≤ i → i < n → V i ≠ 0) (ho : ∀ c ∈ Z, (clS V c 0 0).1 = true ∨ (clS V c 0 0).2.1 ≠ 0) : Mod Z n V := by
  refine ⟨fun i h1 h2 => by have := hr i h2; have := hw i h1 h2; omega, fun c hc => ?_⟩
  by_cases h : (clS V c 0 0).1 = true
  · exact cl_true c 0 0 h
  · have h' : (clS V c 0 0).1 = false := by simpa using h
    rcases ho c hc with h1 | h1
    · exact absurd h1 h
    · obtain ⟨x, y, z⟩ : Bool × Int × Int := clS V c 0 0
      have h2 := (cl_open V c 0 0 (clS V c 0 0).2.1 (clS V c 0 0).2.2 (by rw [← h'])).2
      rcases h2 with ⟨h3, _⟩ | ⟨h3, h4⟩
      · exact absurd h3 h1
      · have := hw _ (by have := (hl c hc _ h3).1; omega) (hl c hc _ h3).2
        exact absurd (val_zero h4) this
section
variable {Z : List (List Int)} {n q : Nat} {V V' M : Nat → Int}
end
end Go.Proofs.YtjdcndkgodpnlaaDoor.leastSem
