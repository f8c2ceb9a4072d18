/- SolRun; ChkNew; ChkMath; RupSpec; RupFaceS: one text, so that the claim has fewer files. -/
import Derived.Test.YtbahjpheaaiamaaDoorPart16
import Derived.Test.YtbahjpheaaiamaaDoorLeastSem
import Derived.Test.YtbahjpheaaiamaaDoorPart35
import Derived.Test.YtbahjpheaaiamaaDoorSolPropI
import Derived.Test.YtbahjpheaaiamaaDoorSolTrail
import Derived.Test.YtbahjpheaaiamaaDoorPart36
/- What a solver's state comes to is what the specification's run tells: the literals that follow, as they come, and the first clause that is false; conditions: literals of at most 40 variables. -/
namespace Go.Proofs.YtbahjpheaaiamaaDoor.solRun
open sets solSets solMath solHold solProp runS runL leastSem
set_option linter.unusedVariables false
set_option linter.unusedSimpArgs false

section
variable {V : Nat → Int} {H : LS} {zs : List Int}
end
section
variable {V : Nat → Int} {H : LS}
end
theorem mem_at {α : Type} {d : α} {Z : List α} {zs : α} (h : zs ∈ Z) : ∃ i, i < Z.length ∧ Z[i]?.getD d = zs := by
  obtain ⟨i, hi, e⟩ := List.mem_iff_getElem.1 h
  exact ⟨i, hi, by rw [List.getElem?_eq_getElem hi]; exact e⟩
end Go.Proofs.YtbahjpheaaiamaaDoor.solRun

/- A checker: a solver of clauses that has noted what is true by these alone (newChecker); conditions: clauses of at most 40 variables, lengths that fit, the table of math/bits as its initialiser lays it. -/
namespace Go.Proofs.YtbahjpheaaiamaaDoor.chkNew
open Go.RowKit Go.Deep Go.Maps Go base sets setsOf solSets solOps solMath solHold solProp solAdd solMem solAddI solNew solPropI solClose solTrail
set_option linter.unusedVariables false
set_option linter.unusedSimpArgs false

/-- A row of sets of literals. -/
structure LsRow (w : World) (a : Option Addr) (len : Nat) (cs : List LS) : Prop where
  length : cs.length = len
  cell : ∀ i, i < len → ∃ b, a = some ⟨b, 0, none⟩ ∧ w.cell? ⟨b, i * 2, none⟩ = some (.int .u64 (cs[i]?.getD (0, 0)).1) ∧ w.cell? ⟨b, i * 2 + 1, none⟩ = some (.int .u64 (cs[i]?.getD (0, 0)).2)
theorem LsRow.below {w w1 : World} {a : Option Addr} {len : Nat} {cs : List LS} (h : LsRow w a len cs) (hb : Below w.heap.size w w1) : LsRow w1 a len cs := ⟨h.length, fun i hi => by
  obtain ⟨b, e, h1, h2⟩ := h.cell i hi
  exact ⟨b, e, keep hb h1, keep hb h2⟩⟩
end Go.Proofs.YtbahjpheaaiamaaDoor.chkNew

/- A checker: what propagation from the opposites of a clause's literals tells (RUP), and the state behind it; conditions: none. -/
namespace Go.Proofs.YtbahjpheaaiamaaDoor.chkMath
open sets solSets solMath solHold solProp solNew solClose solTrail chkNew
set_option linter.unusedVariables false
set_option linter.unusedSimpArgs false

/-- Propagation from the opposites comes to a false clause. -/
def rupP (cs : List LS) (c : LS) : Prop := meetL c (turnL c) = true ∨ ¬ ∃ H, Closed cs H ∧ Sub (turnL c) H
end Go.Proofs.YtbahjpheaaiamaaDoor.chkMath

/- The specification tells whether a clause is RUP (l03Rup); conditions: literals of the variables, lengths that fit. -/
namespace Go.Proofs.YtbahjpheaaiamaaDoor.rupSpec
open Go.RowKit Go.Deep Go base copy cnf sets setsOf solSets solMath solHold solProp solNew solClose solTrail chkNew chkMath rowsOwn runS runL solRun
set_option linter.unusedVariables false
set_option linter.unusedSimpArgs false

def LitsIn (n : Nat) (zss : List (List Int)) : Prop := ∀ zs ∈ zss, ∀ z ∈ zs, z ≠ 0 ∧ z.natAbs < n
end Go.Proofs.YtbahjpheaaiamaaDoor.rupSpec

/- Rup of the specification; conditions: lengths that fit. -/
namespace Go.Proofs.YtbahjpheaaiamaaDoor.rupFaceS
open Go.RowKit Go.Deep Go base copy cnf sets setsOf solSets solMath solClose solTrail chkMath rupSpec
set_option linter.unusedVariables false
set_option linter.unusedSimpArgs false

def rupCode (vars : Int) (zss : List (List Int)) (zs : List Int) : Int := if 4096 < zs.length then 2 else if (cnfB vars zss && clauseB vars zs) = false then 1 else 0
structure RupAns (vars : Int) (zss : List (List Int)) (zs : List Int) (t : Bool) (c : Int) : Prop where
  code : c = rupCode vars zss zs
  no : c ≠ 0 → t = false
  yes : c = 0 → (t = true ↔ rupP (zss.map setL) (setL zs))
theorem RupAns.uniq {vars : Int} {zss : List (List Int)} {zs : List Int} {t t' : Bool} {c c' : Int} (h : RupAns vars zss zs t c) (k : RupAns vars zss zs t' c') : t = t' ∧ c = c' := by
  have e : c = c' := h.code.trans k.code.symm
  refine ⟨?_, e⟩
  by_cases h0 : c = 0
  · have h1 := h.yes h0
    have h2 := k.yes (by rw [← e]; exact h0)
    rw [Bool.eq_iff_iff, h1, h2]
  · rw [h.no h0, k.no (by rw [← e]; exact h0)]
theorem cnf_in {n : Nat} {zss : List (List Int)} (h : cnfB ((n : Int) - 1) zss = true) : LitsIn n zss := fun zs hz z hzz => by
  unfold cnfB at h
  rw [Bool.and_eq_true, List.all_eq_true] at h
  have h2 := h.2 zs hz
  unfold clauseB at h2
  rw [Bool.and_eq_true, List.all_eq_true] at h2
  have h3 := h2.2 z hzz
  unfold litB at h3
  have := of_decide_eq_true h3
  omega
theorem clause_in {n : Nat} {zs : List Int} (h : clauseB ((n : Int) - 1) zs = true) : ∀ z ∈ zs, z ≠ 0 ∧ z.natAbs < n := fun z hzz => by
  unfold clauseB at h
  rw [Bool.and_eq_true, List.all_eq_true] at h
  have h3 := h.2 z hzz
  unfold litB at h3
  have := of_decide_eq_true h3
  omega
theorem cnf_vars {vars : Int} {zss : List (List Int)} (h : cnfB vars zss = true) : 0 ≤ vars ∧ vars ≤ 40 ∧ zss.length ≤ 300 := by
  unfold cnfB at h
  rw [Bool.and_eq_true, decide_eq_true_eq] at h
  exact h.1
end Go.Proofs.YtbahjpheaaiamaaDoor.rupFaceS
