/- SolRun; ChkNew; ChkMath: one text, so that the claim has fewer files. -/
import Derived.Test.YtikhnfgpopcdjaaDoorPart19
import Derived.Test.YtikhnfgpopcdjaaDoorPart42
import Derived.Test.YtikhnfgpopcdjaaDoorPart27
import Derived.Test.YtikhnfgpopcdjaaDoorSolPropI
import Derived.Test.YtikhnfgpopcdjaaDoorSolTrail
/- What a solver's state comes to is what the specification's run tells: the literals that follow, as they come, and the first clause that is false; conditions: literals of at most 40 variables. -/
namespace Go.Proofs.YtikhnfgpopcdjaaDoor.solRun
open sets solSets solMath solHold solProp runS runL leastSem
set_option linter.unusedVariables false
set_option linter.unusedSimpArgs false

section
variable {V : Nat → Int} {H : LS} {zs : List Int}
end
section
variable {V : Nat → Int} {H : LS}
end
theorem mem_at {α : Type} {d : α} {Z : List α} {zs : α} (h : zs ∈ Z) : ∃ i, i < Z.length ∧ Z[i]?.getD d = zs := by
  obtain ⟨i, hi, e⟩ := List.mem_iff_getElem.1 h
  exact ⟨i, hi, by rw [List.getElem?_eq_getElem hi]; exact e⟩
end Go.Proofs.YtikhnfgpopcdjaaDoor.solRun

/- A checker: a solver of clauses that has noted what is true by these alone (newChecker); conditions: clauses of at most 40 variables, lengths that fit, the table of math/bits as its initialiser lays it. -/
namespace Go.Proofs.YtikhnfgpopcdjaaDoor.chkNew
open Go.RowKit Go.Deep Go.Maps Go base sets setsOf solSets solOps solMath solHold solProp solAdd solMem solAddI solNew solPropI solClose solTrail
set_option linter.unusedVariables false
set_option linter.unusedSimpArgs false

/-- A row of sets of literals. -/
structure LsRow (w : World) (a : Option Addr) (len : Nat) (cs : List LS) : Prop where
  length : cs.length = len
  cell : ∀ i, i < len → ∃ b, a = some ⟨b, 0, none⟩ ∧ w.cell? ⟨b, i * 2, none⟩ = some (.int .u64 (cs[i]?.getD (0, 0)).1) ∧ w.cell? ⟨b, i * 2 + 1, none⟩ = some (.int .u64 (cs[i]?.getD (0, 0)).2)
theorem LsRow.below {w w1 : World} {a : Option Addr} {len : Nat} {cs : List LS} (h : LsRow w a len cs) (hb : Below w.heap.size w w1) : LsRow w1 a len cs := ⟨h.length, fun i hi => by
  obtain ⟨b, e, h1, h2⟩ := h.cell i hi
  exact ⟨b, e, keep hb h1, keep hb h2⟩⟩
end Go.Proofs.YtikhnfgpopcdjaaDoor.chkNew

/- A checker: what propagation from the opposites of a clause's literals tells (RUP), and the state behind it; conditions: none. -/
namespace Go.Proofs.YtikhnfgpopcdjaaDoor.chkMath
open sets solSets solMath solHold solProp solNew solClose solTrail chkNew
set_option linter.unusedVariables false
set_option linter.unusedSimpArgs false

/-- Propagation from the opposites comes to a false clause. -/
def rupP (cs : List LS) (c : LS) : Prop := meetL c (turnL c) = true ∨ ¬ ∃ H, Closed cs H ∧ Sub (turnL c) H
end Go.Proofs.YtikhnfgpopcdjaaDoor.chkMath
