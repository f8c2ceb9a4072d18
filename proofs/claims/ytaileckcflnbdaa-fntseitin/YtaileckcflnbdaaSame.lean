/- The laws' own helpers that hold lists against each other, where they are the same; conditions: none. -/
import Derived.Test.YtaileckcflnbdaaBase
namespace Go.Proofs.Ytaileckcflnbdaa.same
open Go.RowKit Go.Deep base
set_option linter.unusedVariables false

set_option maxHeartbeats 400000 in
theorem sameInts (a a' : Option Addr) (len cap cap' : Nat) (zs : List Int) (w : World) (hr : IntRow w a len zs) (hr' : IntRow w a' len zs) :
    Calls Try.prog 27 #[.slice a len cap, .slice a' len cap'] w fun e w' => e = .returned (.bool true) ∧ Below w.heap.size w w' := by
  have hmost := hr.most
  unfold maxLen at hmost
  have HC := hid hr.cell
  have HC' := hid hr'.cell
  clear hr hr'
  have hb : ((len : Int) != (len : Int)) = false := by simp
  go_enter Try.func27, Try.ntmps27
  go_wp2
  go_loopw [5] (fun i wr => ∃ k : Nat, k ≤ len ∧ i = .int .i64 k ∧ ∃ n, wr = w.drewN n) (fun i _ => len - (intOf i).toNat)
  case atStart => exact ⟨0, Nat.zero_le _, rfl, 0, rfl⟩
  case round =>
    obtain ⟨k, hk, rfl, n, hw⟩ := hrel
    by_cases hlt : k < len
    · obtain ⟨b, off, rfl, hc0⟩ := HC.out k hlt
      obtain ⟨b', off', rfl, hc0'⟩ := HC'.out k hlt
      have hc : wr.cell? ⟨b, off + k, none⟩ = some (.int .i64 (zs[k]?.getD 0)) := by rw [hw]; simpa using hc0
      have hc' : wr.cell? ⟨b', off' + k, none⟩ = some (.int .i64 (zs[k]?.getD 0)) := by rw [hw]; simpa using hc0'
      have HW := hid hw
      clear hw hc0 hc0'
      generalize zs[k]?.getD 0 = z at *
      have hq : (z != z) = false := by simp
      go_wp2
      go_quiet (fail)
      go_wp2
      go_roundw
      case rel => exact ⟨k + 1, by omega, by go_num, n + nq, by rw [HW.out, World.drewN_drewN]⟩
      case measure => simp [intOf]; omega
    · have e : k = len := by omega
      subst e
      have HW := hid hw
      clear hw
      go_wp2
      go_ret
      exact ⟨rfl, by rw [HW.out]; exact below_drewN _ _⟩

set_option maxHeartbeats 400000 in
theorem sameBools (a a' : Option Addr) (len cap cap' : Nat) (zs : List Bool) (w : World) (hr : BoolRow w a len zs) (hr' : BoolRow w a' len zs) :
    Calls Try.prog 11 #[.slice a len cap, .slice a' len cap'] w fun e w' => e = .returned (.bool true) ∧ Below w.heap.size w w' := by
  have hmost := hr.most
  unfold maxLen at hmost
  have HC := hid hr.cell
  have HC' := hid hr'.cell
  clear hr hr'
  have hb : ((len : Int) != (len : Int)) = false := by simp
  go_enter Try.func11, Try.ntmps11
  go_wp2
  go_loopw [5] (fun i wr => ∃ k : Nat, k ≤ len ∧ i = .int .i64 k ∧ ∃ n, wr = w.drewN n) (fun i _ => len - (intOf i).toNat)
  case atStart => exact ⟨0, Nat.zero_le _, rfl, 0, rfl⟩
  case round =>
    obtain ⟨k, hk, rfl, n, hw⟩ := hrel
    by_cases hlt : k < len
    · obtain ⟨b, off, rfl, hc0⟩ := HC.out k hlt
      obtain ⟨b', off', rfl, hc0'⟩ := HC'.out k hlt
      have hc : wr.cell? ⟨b, off + k, none⟩ = some (.bool (zs[k]?.getD false)) := by rw [hw]; simpa using hc0
      have hc' : wr.cell? ⟨b', off' + k, none⟩ = some (.bool (zs[k]?.getD false)) := by rw [hw]; simpa using hc0'
      have HW := hid hw
      clear hw hc0 hc0'
      generalize zs[k]?.getD false = z at *
      have hq : (z == z) = true := by simp
      go_wp2
      go_quiet (fail)
      go_wp2
      go_roundw
      case rel => exact ⟨k + 1, by omega, by go_num, n + nq, by rw [HW.out, World.drewN_drewN]⟩
      case measure => simp [intOf]; omega
    · have e : k = len := by omega
      subst e
      have HW := hid hw
      clear hw
      go_wp2
      go_ret
      exact ⟨rfl, by rw [HW.out]; exact below_drewN _ _⟩
end Go.Proofs.Ytaileckcflnbdaa.same
