/- SolFace; PropsMath; RatMath; ChkSem; SatMath: one text, so that the claim has fewer files. -/
import Derived.Test.YtjdcndkgodpnlaaDoorPart36
import Derived.Test.YtjdcndkgodpnlaaDoorSolPropI
import Derived.Test.YtjdcndkgodpnlaaDoorPart37
import Derived.Test.YtjdcndkgodpnlaaDoorRowsOwn
import Derived.BigRegion
import Derived.Test.YtjdcndkgodpnlaaDoorPart17
import Derived.Test.YtjdcndkgodpnlaaDoorPart41
import Derived.Test.YtjdcndkgodpnlaaDoorPart27
import Derived.Test.YtjdcndkgodpnlaaDoorPart40
/- Propagate of the program; conditions: lengths that fit, the table of math/bits as its initialiser lays it. -/
namespace Go.Proofs.YtjdcndkgodpnlaaDoor.solFace
open Go.RowKit Go.Deep Go.Maps Go base copy cnf sets setsOf solSets solOps solMath solHold solProp solAdd solMem solHoldI solNew solPropI rowsOwn
set_option linter.unusedVariables false
set_option linter.unusedSimpArgs false

end Go.Proofs.YtjdcndkgodpnlaaDoor.solFace

/- What propagation tells is true in each model in which the given literals are; conditions: a right formula, literals of its variables. -/
namespace Go.Proofs.YtjdcndkgodpnlaaDoor.propsMath
open base copy cnf eval sets setsOf solSets solMath solHold solProp solNew solFace solClose
set_option linter.unusedVariables false
set_option linter.unusedSimpArgs false

theorem asg_lit {vs : List Bool} {n : Nat} (hn : n ≤ 40) {l : Int} (hl : litB n l = true) : mem (asg vs n) l = litT vs l := by
  obtain ⟨h0, h1, h2⟩ := litB_range hl
  rw [Bool.eq_iff_iff, mem_asg hn]
  unfold litT
  constructor
  · rintro ⟨_, _, h⟩
    rw [h]; simp
  · intro h
    exact ⟨h0, by omega, by simpa using h⟩
end Go.Proofs.YtjdcndkgodpnlaaDoor.propsMath

/- What a clause that resolves away is (RAT), by sets of literals; conditions: none. -/
namespace Go.Proofs.YtjdcndkgodpnlaaDoor.ratMath
open sets solSets solMath solHold solProp solNew solClose solTrail chkNew chkMath
set_option linter.unusedVariables false
set_option linter.unusedSimpArgs false

/-- What a clause resolves to with another one, on a literal. -/
def resL (c d : LS) (l : Int) : LS := withL c (woL d (onlyL (-l)))
def ratAt (cs : List LS) (c : LS) (l : Int) (d : LS) : Prop := mem d (-l) = true → rupP cs (resL c d l)
def ratP (cs : List LS) (zs : List Int) : Prop := ∃ l r, zs = l :: r ∧ ∀ d ∈ cs, ratAt cs (setL zs) l d
end Go.Proofs.YtjdcndkgodpnlaaDoor.ratMath

/- What checking a proof comes to, step by step; a checker's state behind a clause that is put to the others; conditions: none. -/
namespace Go.Proofs.YtjdcndkgodpnlaaDoor.chkSem
open sets solSets solMath solHold solProp solNew solAdd solClose solTrail solAddM chkNew chkMath ratMath
set_option linter.unusedVariables false
set_option linter.unusedSimpArgs false

abbrev Sp := Bool × List Int
/-- The last clause of the same literals. -/
def FindAt (cs : List LS) (c : LS) (k : Nat) : Prop := k < cs.length ∧ cs[k]?.getD (0, 0) = c ∧ ∀ j, k < j → j < cs.length → cs[j]?.getD (0, 0) ≠ c
def NoFind (cs : List LS) (c : LS) : Prop := ∀ j, j < cs.length → cs[j]?.getD (0, 0) ≠ c
theorem NoFind.not {cs : List LS} {c : LS} {k : Nat} (h : NoFind cs c) (g : FindAt cs c k) : False := h k g.1 g.2.1
def okR (zss : List (List Int)) (zs : List Int) : Prop := rupP (zss.map setL) (setL zs) ∨ ratP (zss.map setL) zs
/-- Steps i and on: the place and the code that checking ends with. -/
def ChkR : List (List Int) → List Sp → Nat → Int → Int → Prop
  | _, [], i, p, c => p = i ∧ c = 3
  | zss, (d, zs) :: r, i, p, c =>
    if d = true then (NoFind (zss.map setL) (setL zs) ∧ p = i ∧ c = 6) ∨ ∃ k, FindAt (zss.map setL) (setL zs) k ∧ ChkR (zss.eraseIdx k) r (i + 1) p c
    else (¬ okR zss zs ∧ p = i ∧ c = 8) ∨ (okR zss zs ∧ zs = [] ∧ p = i ∧ c = 0) ∨ (okR zss zs ∧ zs ≠ [] ∧ ChkR (zss ++ [zs]) r (i + 1) p c)
theorem ChkR.place : ∀ (r : List Sp) (zss : List (List Int)) (i : Nat) (p c : Int), ChkR zss r i p c → (i : Int) ≤ p ∧ p ≤ i + r.length ∧ (c = 0 ∨ c = 3 ∨ c = 6 ∨ c = 8)
  | [], zss, i, p, c, h => by have h1 : p = i := h.1; have h2 : c = 3 := h.2; simp; omega
  | (d, zs) :: r, zss, i, p, c, h => by
    unfold ChkR at h
    simp only [List.length_cons]
    by_cases hd : d = true
    · rw [if_pos hd] at h
      rcases h with ⟨h1, h2, h3⟩ | ⟨k, h1, h2⟩
      · omega
      · have := ChkR.place r _ _ _ _ h2
        omega
    · rw [if_neg hd] at h
      rcases h with ⟨h1, h2, h3⟩ | ⟨h1, h2, h3, h4⟩ | ⟨h1, h2, h3⟩
      · omega
      · omega
      · have := ChkR.place r _ _ _ _ h3
        omega
end Go.Proofs.YtjdcndkgodpnlaaDoor.chkSem

/- What the rules of a proof keep: a clause that propagation tells is true in all models, one that resolves away takes no last model; what checks has none, and a refutation checks; conditions: literals of the formula. -/
namespace Go.Proofs.YtjdcndkgodpnlaaDoor.satMath
open sets solSets solMath solHold solProp solNew solClose solTrail chkNew chkMath ratMath chkSem runS leastSem
open rupSpec (LitsIn)
set_option linter.unusedVariables false
set_option linter.unusedSimpArgs false

end Go.Proofs.YtjdcndkgodpnlaaDoor.satMath
