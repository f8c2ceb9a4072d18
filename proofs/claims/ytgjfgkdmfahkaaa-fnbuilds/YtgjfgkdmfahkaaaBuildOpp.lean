/- The opposite of a literal, of the program; conditions: a literal of a node that may be there. -/
import Derived.Test.YtgjfgkdmfahkaaaBuildSem
import Derived.Laws.BitsAllLaws
namespace Go.Proofs.Ytgjfgkdmfahkaaa.buildOpp
open Go.RowKit Go.Deep Go base trees buildSem
set_option linter.unusedVariables false

theorem nat_xor1 (a : Nat) : a ^^^ 1 = if a % 2 = 1 then a - 1 else a + 1 := by
  have h1 : (a ^^^ 1) / 2 = a / 2 := by rw [Nat.xor_div_two]; simp
  have h2 := Nat.testBit_xor a 1 0
  rw [Nat.testBit_zero, Nat.testBit_zero, Nat.testBit_zero] at h2
  by_cases h : a % 2 = 1
  · rw [if_pos h]
    have h3 := of_decide_eq_false (show decide ((a ^^^ 1) % 2 = 1) = false by rw [h2, decide_eq_true h]; rfl)
    omega
  · rw [if_neg h]
    have h3 := of_decide_eq_true (show decide ((a ^^^ 1) % 2 = 1) = true by rw [h2, decide_eq_false h]; rfl)
    omega
theorem i64_xor1 (a : Nat) (ha : a < 4611686018427387904) : bits .xor .i64 (a : Int) 1 = notL (a : Int) := by
  show IntKind.i64.wrap ((BitVec.ofInt 64 (a : Int) ^^^ BitVec.ofInt 64 ((1 : Nat) : Int)).toNat : Int) = _
  rw [BitVec.toNat_xor, ofInt_u64 a (by omega), ofInt_u64 1 (by omega), nat_xor1]
  unfold notL
  by_cases h : a % 2 = 1
  · rw [if_pos h, if_pos (by omega)]
    simp [IntKind.wrap, IntKind.bits, IntKind.signed]
    omega
  · rw [if_neg h, if_neg (by omega)]
    simp [IntKind.wrap, IntKind.bits, IntKind.signed]
    omega
theorem opposite_impl (a : Int) (w : World) (h0 : 0 ≤ a) (h1 : a ≤ 1000000000) :
    Calls Try.prog 47 #[.int .i64 a] w fun e w' => e = .returned (.int .i64 (notL a)) ∧ w' = w := by
  obtain ⟨m, rfl⟩ : ∃ m : Nat, a = (m : Int) := ⟨a.toNat, by omega⟩
  have hx := i64_xor1 m (by omega)
  go_enter Try.func47, Try.ntmps47
  go_wp2
  go_ret
  exact ⟨rfl, rfl⟩
end Go.Proofs.Ytgjfgkdmfahkaaa.buildOpp
