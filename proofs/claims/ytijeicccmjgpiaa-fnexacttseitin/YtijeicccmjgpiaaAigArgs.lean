/- From the form's readings of a circuit to the row of gates that the contracts speak of; conditions: none. -/
import Derived.Test.YtijeicccmjgpiaaAigImpl
import Derived.Test.YtijeicccmjgpiaaArgs
import Derived.Deep.SlicePairs
namespace Go.Proofs.Ytijeicccmjgpiaa.aigArgs
open Go.ChangeShapes Go.WideShapes Go.ChangeAt Go.RowKit Go.Deep Go.Joins base gates aigImpl args
set_option linter.unusedVariables false

theorem cells_aig : Try.prog.cellsOf 24 = 2 := by kernel_rfl
theorem in64_of {x : Int} (h : (Lit.int .i64 x).wf = true) : I64 x := by
  simp only [Lit.wf, Bool.and_eq_true, decide_eq_true_eq] at h
  exact h
theorem gates_of_trod {H : Type} {enc : TypeId × Value → H} {w : World} {base : Nat} {held : Bool} {fuel : Nat} {v : Value} {x : DataW H × List MemPlace}
    (h : DataW.trod enc Try.prog w base (fun _ => true) held fuel 22 [v] = some x) : ∃ a len cap g, v = .slice a len cap ∧ GateRow w a len g ∧ ∀ i, i < len → I64 (g i).1 ∧ I64 (g i).2 := by
  rcases open_slice_pairs Try.underlying22 Try.underlying73 (by kernel_rfl) (by rfl) (by rfl) (by kernel_rfl) (by kernel_rfl) h with ⟨hcs, _⟩ | ⟨a, len, cap, m, n, V0, V1, D0, D1, P0, P1, hcs, hb, hl, hm, hmm, rfl, hx⟩
  · exact ⟨none, 0, 0, fun _ => (0, 0), by simpa using hcs, ⟨Nat.zero_le _, fun i hi => absurd hi (Nat.not_lt_zero _)⟩, fun i hi => absurd hi (Nat.not_lt_zero _)⟩
  · simp only [if_true] at hmm
    subst hmm
    have each : ∀ i, i < m → ∃ q : Int × Int, V0 i = .int .i64 q.1 ∧ V1 i = .int .i64 q.2 ∧ I64 q.1 ∧ I64 q.2 := fun i hi => by
      obtain ⟨_, _, h0, h1⟩ := hx i hi
      obtain ⟨k0, e0, w0⟩ := int_of_trod Try.underlying3 h0
      obtain ⟨k1, e1, w1⟩ := int_of_trod Try.underlying3 h1
      exact ⟨(k0, k1), e0, e1, in64_of w0, in64_of w1⟩
    obtain ⟨f, hf⟩ := choose_lt each
    refine ⟨some a, len, m, f, by simpa using hcs, ⟨Nat.le_trans hl hm, fun i hi => ?_⟩, fun i hi => ?_⟩
    · obtain ⟨e0, e1, _, _⟩ := hf i (by omega)
      have hz : w.cell? (a.add 0) = some (V0 0) := by simpa using (hx 0 (by omega)).1
      obtain ⟨q1, q2⟩ := at_none hz (hx i (by omega)).1
      obtain ⟨_, q3⟩ := at_none hz (hx i (by omega)).2.1
      refine ⟨a.block, a.off, by rw [← q1], ?_, ?_⟩
      · rw [q2, e0]
      · rw [Nat.add_assoc, q3, e1]
    · obtain ⟨_, _, w0, w1⟩ := hf i (by omega)
      exact ⟨w0, w1⟩
end Go.Proofs.Ytijeicccmjgpiaa.aigArgs
