/- ProofText, of the program; conditions: the library's tables as they are laid. -/
import Derived.Test.YtcgpjlpggbgdaaaGreatDoorStepsImpl
import Derived.BigQuiet
namespace Go.Proofs.YtcgpjlpggbgdaaaGreatDoor.proofImpl
open Go.RowKit Go.Deep base copy cnf digits lines textImpl steps fault asHit stepsImpl
set_option linter.unusedVariables false

/-- What answerOf answers for ProofText. -/
theorem answer (N : Nat) (a : Option Addr) (len cap : Nat) (ss : List St) (w : World) (hc : w.cell? ⟨N, 0, none⟩ = some (.slice a len cap)) (hr : StepRow w a len ss) (ht : TabW w) (he : ErrW w) :
    Calls Tryz.prog 13 #[.func (.func 14) #[] #[.pointer (some ⟨N, 0, none⟩)]] w fun e w' => e = .returned (.tuple #[.string ⟨(ptBytes ss).toArray⟩, .agg #[.int .i64 (ptCode ss), .int .i64 0]]) ∧ Below w.heap.size w w' := by
  have hcf : ∀ w, (callFunc 14 #[.pointer (some ⟨N, 0, none⟩)]).run Tryz.prog w = .ok (.enter 14 #[.pointer (some ⟨N, 0, none⟩)]) w := fun w => enters_of Tryz.func14 (by kernel_rfl) rfl _ w
  have hb0 : Below w.heap.size w (w.alloc (.cells #[.int .i64 0, .int .i64 0] 40)) := (Below.refl _ _).alloc (Nat.le_refl _) _
  have hz : (w.alloc (.cells #[.int .i64 0, .int .i64 0] 40)).heap.size = w.heap.size + 1 := by simp
  have hl := hr.length
  by_cases hlong : 4096 < len
  · have e1 : ptBytes ss = [] := by unfold ptBytes; rw [if_pos (by rw [hl]; exact hlong)]
    have e2 : ptCode ss = 2 := by unfold ptCode; rw [if_pos (by rw [hl]; exact hlong)]
    rw [e1, e2]
    refine answerOf_fault 14 _ 2 0 w he hcf ?_
    rintro w0 rfl
    rw [← hz]
    exact do_long N a len cap ss _ (keep hb0 hc) (hr.below hb0) hlong
  · have hl0 : ¬ 4096 < ss.length := by rw [hl]; exact hlong
    cases hB : stepsB 40 ss
    · have e1 : ptBytes ss = [] := by unfold ptBytes; rw [if_neg hl0, hB]; rfl
      have e2 : ptCode ss = 1 := by unfold ptCode; rw [if_neg hl0, hB]; rfl
      rw [e1, e2]
      refine answerOf_fault 14 _ 1 0 w he hcf ?_
      rintro w0 rfl
      rw [← hz]
      exact do_bad N a len cap ss _ (keep hb0 hc) (hr.below hb0) (by omega) hB
    · have e1 : ptBytes ss = proofBytes ss := by unfold ptBytes; rw [if_neg hl0, hB]; rfl
      have e2 : ptCode ss = 0 := by unfold ptCode; rw [if_neg hl0, hB]; rfl
      rw [e1, e2]
      refine answerOf_ret 14 _ _ w hcf ?_
      rintro w0 rfl
      rw [← hz]
      exact do_good N a len cap ss _ (keep hb0 hc) (hr.below hb0) (by omega) hB (ht.below hb0)

set_option maxRecDepth 8000 in
theorem pt_impl (a : Option Addr) (len cap : Nat) (ss : List St) (w : World) (hr : StepRow w a len ss) (ht : TabW w) (he : ErrW w) :
    Calls Tryz.prog 6 #[.slice a len cap] w fun e w' => e = .returned (.tuple #[.string ⟨(ptBytes ss).toArray⟩, .int .i64 (ptCode ss)]) ∧ Below w.heap.size w w' := by
  have hmf : ∀ (fn : Fn) (first cap : Array Value) (w : World), (Instr.makeFunc fn first cap).run Tryz.prog w = .ok (.func fn first cap) w := fun _ _ _ _ => rfl
  have HR := hid hr
  have HT := hid ht
  have HE := hid he
  clear hr ht he
  have HA := hid (fun N w hc hr ht he => answer N a len cap ss w hc hr ht he)
  obtain ⟨s, hs⟩ : ∃ s : ByteArray, ⟨(ptBytes ss).toArray⟩ = s := ⟨_, rfl⟩
  rw [hs] at HA ⊢
  generalize ptCode ss = C at *
  clear hs
  go_enter Tryz.func6, Tryz.ntmps6
  go_wp2_with fail
  refine (HA.out _ _ ?_ (HR.out.below (by repeat (first | exact Below.refl _ _ | assumption | refine Below.drew ?_ | refine Below.alloc ?_ (by first | exact Nat.le_refl _ | omega | (simp; done) | (simp; omega)) _ | refine Below.setCell ?_ (by first | exact Nat.le_refl _ | omega | (simp; done) | (simp; omega)) _))) (HT.out.below (by repeat (first | exact Below.refl _ _ | assumption | refine Below.drew ?_ | refine Below.alloc ?_ (by first | exact Nat.le_refl _ | omega | (simp; done) | (simp; omega)) _ | refine Below.setCell ?_ (by first | exact Nat.le_refl _ | omega | (simp; done) | (simp; omega)) _))) (HE.out.below (by repeat (first | exact Below.refl _ _ | assumption | refine Below.drew ?_ | refine Below.alloc ?_ (by first | exact Nat.le_refl _ | omega | (simp; done) | (simp; omega)) _ | refine Below.setCell ?_ (by first | exact Nat.le_refl _ | omega | (simp; done) | (simp; omega)) _)))).mono ?_
  · simp [go_sem]
  rintro e w1 ⟨rfl, hb1⟩
  have HB := hid ((show Below w.heap.size w _ from (by repeat (first | exact Below.refl _ _ | assumption | refine Below.drew ?_ | refine Below.alloc ?_ (by first | exact Nat.le_refl _ | omega | (simp; done) | (simp; omega)) _ | refine Below.setCell ?_ (by first | exact Nat.le_refl _ | omega | (simp; done) | (simp; omega)) _))).trans (hb1.mono (by simp)))
  clear hb1
  go_wp2
  go_region
  all_goals
    go_wp2
    go_ret2
    exact ⟨rfl, Below.drew (Below.alloc HB.out HB.out.size _)⟩
end Go.Proofs.YtcgpjlpggbgdaaaGreatDoor.proofImpl
