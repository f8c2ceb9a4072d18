/- A checker of the program tells whether a clause is RAT (isRat); conditions: clauses of at most 40 variables, lengths that fit. -/
import Derived.Test.YtolejaegnkcjjaaGreatDoorPart30
import Derived.Test.YtolejaegnkcjjaaGreatDoorPart35
namespace Go.Proofs.YtolejaegnkcjjaaGreatDoor.chkRat
open Go.RowKit Go.Deep Go.Maps Go base sets setsOf solSets solOps solMath solHold solMem solPush solAddI solClose solTrail chkNew chkMath chkRup ratMath heldStore drawn drawnLin drawnSeq
set_option linter.unusedVariables false
set_option linter.unusedSimpArgs false

def TwoJ (L : Nat → Bool) (u : Nat → Value) (w : World) : Prop := (L 7 = true → ∃ R : Nat, u 5 = .pointer (some ⟨R, 0, none⟩) ∧ R < w.heap.size) ∧ (L 8 = true → ∃ R : Nat, u 6 = .pointer (some ⟨R, 0, none⟩) ∧ R < w.heap.size) ∧ (L 7 = true → L 8 = true → u 5 ≠ u 6)
theorem TwoJ.nil (u : Nat → Value) (w : World) : TwoJ (fun _ => false) u w := ⟨fun h => (by cases h), fun h => (by cases h), fun h => (by cases h)⟩
theorem TwoJ.go {L : Nat → Bool} {u : Nat → Value} {w w' : World} (h : TwoJ L u w) (i k : Nat) (v : Value) (h7 : i ≠ 7) (h8 : i ≠ 8) (h5 : k ≠ 5) (h6 : k ≠ 6) (hw : w.heap.size ≤ w'.heap.size) : TwoJ (come L i) (upd u k v) w' := by
  unfold TwoJ
  rw [come_ne (Ne.symm h7), come_ne (Ne.symm h8), upd_ne u v (Ne.symm h5), upd_ne u v (Ne.symm h6)]
  exact ⟨fun e => (by obtain ⟨R, e1, e2⟩ := h.1 e; exact ⟨R, e1, by omega⟩), fun e => (by obtain ⟨R, e1, e2⟩ := h.2.1 e; exact ⟨R, e1, by omega⟩), h.2.2⟩
theorem TwoJ.c7 {L : Nat → Bool} {u : Nat → Value} {w w' : World} (h : TwoJ L u w) (hw : w.heap.size < w'.heap.size) : TwoJ (come L 7) (upd u 5 (.pointer (some ⟨w.heap.size, 0, none⟩))) w' := by
  unfold TwoJ
  rw [come_ne (by decide : (8 : Nat) ≠ 7), drawn.upd_same, upd_ne u _ (by decide : (6 : Nat) ≠ 5)]
  refine ⟨fun _ => ⟨_, rfl, hw⟩, fun e => (by obtain ⟨R, e1, e2⟩ := h.2.1 e; exact ⟨R, e1, by omega⟩), fun _ e => ?_⟩
  obtain ⟨R, e1, e2⟩ := h.2.1 e
  rw [e1]
  intro e3
  injection e3 with e3
  injection e3 with e3
  injection e3 with e3
  omega
theorem TwoJ.c8 {L : Nat → Bool} {u : Nat → Value} {w w' : World} (h : TwoJ L u w) (hw : w.heap.size < w'.heap.size) : TwoJ (come L 8) (upd u 6 (.pointer (some ⟨w.heap.size, 0, none⟩))) w' := by
  unfold TwoJ
  rw [come_ne (by decide : (7 : Nat) ≠ 8), drawn.upd_same, upd_ne u _ (by decide : (5 : Nat) ≠ 6)]
  refine ⟨fun e => (by obtain ⟨R, e1, e2⟩ := h.1 e; exact ⟨R, e1, by omega⟩), fun _ => ⟨_, rfl, hw⟩, fun e _ => ?_⟩
  obtain ⟨R, e1, e2⟩ := h.1 e
  rw [e1]
  intro e3
  injection e3 with e3
  injection e3 with e3
  injection e3 with e3
  omega

end Go.Proofs.YtolejaegnkcjjaaGreatDoor.chkRat
