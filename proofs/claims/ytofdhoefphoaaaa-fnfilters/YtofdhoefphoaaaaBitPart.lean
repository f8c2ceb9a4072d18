/- One variable's bits, cut out of the row of all; conditions: none. -/
import Derived.Test.YtofdhoefphoaaaaBitRows
namespace Go.Proofs.Ytofdhoefphoaaaa.bitPart
open Go.RowKit Go.Deep Go base trees built heldStore drawn ownTree ownEx wordTrees bitRows
set_option linter.unusedVariables false
set_option maxHeartbeats 800000 in
theorem part_of (n b : Nat) (bI : Int) (hcases : (b = 1 ∧ bI = 1) ∨ (b = 2 ∧ bI = 2) ∨ (b = 3 ∧ bI = 3) ∨ (b = 4 ∧ bI = 4) ∨ (b = 5 ∧ bI = 5) ∨ (b = 6 ∧ bI = 6)) (hn : n * b + b ≤ 12) (g off c : Nat) (hc : 12 ≤ c) (w : World) : Calls Try.prog 34 #[.slice (some ⟨g, off, none⟩) 12 c, .int .i64 (n : Int), .int .i64 bI] w fun e w' => e = .returned (.slice (some ⟨g, off + n * b * 3, none⟩) b b) ∧ w' = w := by
  rcases hcases with ⟨rfl, rfl⟩ | ⟨rfl, rfl⟩ | ⟨rfl, rfl⟩ | ⟨rfl, rfl⟩ | ⟨rfl, rfl⟩ | ⟨rfl, rfl⟩
  all_goals
    go_enter Try.func34, Try.ntmps34
    go_wp2
    go_ret
    refine ⟨?_, rfl⟩
  · simp
  · have e : (n + 1) * 2 - n * 2 = 2 := by omega
    simp [e]
  · have e : (n + 1) * 3 - n * 3 = 3 := by omega
    simp [e]
  · have e : (n + 1) * 4 - n * 4 = 4 := by omega
    simp [e]
  · have e : (n + 1) * 5 - n * 5 = 5 := by omega
    simp [e]
  · have e : (n + 1) * 6 - n * 6 = 6 := by omega
    simp [e]
end Go.Proofs.Ytofdhoefphoaaaa.bitPart
