/- slices.Backward of ints: an iterator that hands a row's elements out from the last to the first; conditions: the loop's body leaves the row as it is. -/
import Derived.RangeFuncNested
import Derived.RangeFuncBound
import Derived.RangeFuncCalls
import Derived.RangeFuncLeaves
import Derived.Shelf.Abstract
import Derived.Shelf.RegionOpen
import Derived.WalkKit
import Derived.OwnWalkIn
import Derived.TacticsInMore
import Derived.LoopNIn
import Derived.LoopIn
import Derived.Test.YtgcjlbnjlbcmmaaGreatBase
namespace Go.Proofs.YtgcjlbnjlbcmmaaGreat.rofBack
open Go.RowKit Go.Deep Go.Shelf Go base
set_option linter.unusedVariables false
attribute [local go_sem] Oper.semAt_some

/-- What has come when k rounds are over. -/
def upto {α : Type} (f : Nat → α) (k : Nat) : List α := (List.range k).map f
theorem upto_succ {α : Type} (f : Nat → α) (k : Nat) : upto f (k + 1) = upto f k ++ [f k] := by simp [upto, List.range_succ]
theorem upto_length {α : Type} (f : Nat → α) (k : Nat) : (upto f k).length = k := by simp [upto]

theorem upto_snoc {α : Type} {f : Nat → α} {pre : List α} {y : α} {t : Nat} (h : pre ++ [y] = upto f t) : ∃ t', t = t' + 1 ∧ pre = upto f t' ∧ y = f t' ∧ pre.length = t' := by
  cases t with
  | zero => simp [upto] at h
  | succ t =>
    rw [upto_succ] at h
    obtain ⟨h1, h2⟩ := List.append_inj' h rfl
    exact ⟨t, rfl, h1, by simpa using h2, by rw [h1, upto_length]⟩

set_option maxRecDepth 100000 in
set_option maxHeartbeats 2000000 in
theorem back1_in {α : Type} (encs : α → Array Value) (f : Nat → α) (d l Bs len cap : Nat) (a : Option Addr) (zs : List Int) (he : ∀ k : Nat, k < len → encs (f k) = #[.int .i64 ((len : Int) - 1 - k), .int .i64 (zs[len - 1 - k]?.getD 0)]) (Kp : World → World → Prop) (J Jx : List α → World → Prop)
    (hK : ∀ W W', Kp W W' → W.cell? ⟨Bs, 0, none⟩ = some (.slice a len cap) ∧ IntRow W a len zs → W'.cell? ⟨Bs, 0, none⟩ = some (.slice a len cap) ∧ IntRow W' a len zs)
    (hY : ∀ pre x W, J pre W → pre.length < len → YieldAt Fence.wide (d - 1) Tryz.prog l (encs x) W fun e W' =>
      (e = .returned (.bool true) ∧ J (pre ++ [x]) W' ∧ Kp W W') ∨ (e = .returned (.bool false) ∧ Jx (pre ++ [x]) W'))
    (W : World) (hG : W.cell? ⟨Bs, 0, none⟩ = some (.slice a len cap) ∧ IntRow W a len zs) (h0 : J [] W) :
    CallsIn Fence.wide d Tryz.prog 89 #[.func (.yield l) #[] #[], .pointer (some ⟨Bs, 0, none⟩)] W fun e W' => (∃ v, e = .returned v) ∧
      ((∃ ys, ys = upto f len ∧ J ys W') ∨ (∃ pre, (∃ k, k ≤ len ∧ pre = upto f k) ∧ Jx pre W')) := by
  have hmost := hG.2.most
  unfold maxLen at hmost
  have HG := hid hG
  have hBs := hG.1
  have HK := hid hK
  have HE := hid he
  clear hG hK he
  refine callsIn_of_wp Tryz.func89 rfl trivial ?_ rfl
  simp only [Tryz.ntmps89, List.size_toArray, List.length_cons, List.length_nil, Nat.reduceAdd, Nat.reduceSub, Array.replicate_succ, Array.replicate_zero, List.push_toArray, List.append_toArray, List.nil_append, List.cons_append]
  gi_wp2
  clear hBs
  gi_loopw [3] (fun i wr => ∃ k : Nat, k ≤ len ∧ i = .int .i64 ((len : Int) - 1 - k) ∧ J (upto f k) wr ∧ wr.cell? ⟨Bs, 0, none⟩ = some (.slice a len cap) ∧ IntRow wr a len zs)
    (fun i _ => ((intOf i) + 1).toNat)
  case atStart => exact ⟨0, Nat.zero_le _, by simp, h0, HG.out⟩
  case round =>
    obtain ⟨k, hk, rfl, hJs, hc, hr⟩ := hrel
    have HR := hid hr
    have HC := hid hc
    clear hr
    by_cases hlt : k < len
    · obtain ⟨fn, tmps, assign, body, hy, hR⟩ := hY _ (f k) wr hJs (by rw [upto_length]; exact hlt)
      rw [HE.out k hlt] at hy
      obtain ⟨b, off, ha, hcx⟩ := HR.out.cell (len - 1 - k) (by omega)
      obtain ⟨t, ht⟩ : ∃ t : Nat, (len : Int) - 1 - k = (t : Int) := ⟨len - 1 - k, by omega⟩
      have ht2 : len - 1 - k = t := by omega
      rw [ht2] at hy hcx
      rw [ht] at hy ⊢
      have HT := hid ht
      have htl : (t : Int) < (len : Int) := by omega
      have hg0 : decide ((0 : Int) ≤ (t : Int)) = true := decide_eq_true (by omega)
      clear ht ht2
      subst ha
      gi_wp2
      refine ⟨fun h => (by cases h), hR.mono ?_⟩
      rintro e W3 (⟨rfl, hJ3, hk3⟩ | ⟨rfl, hJx3⟩)
      · have HG3 := hid (HK.out _ _ hk3 ⟨HC.out, HR.out⟩)
        gi_wp2
        go_roundw
        case rel => exact ⟨k + 1, by omega, by rw [show (len : Int) - 1 - (k + 1 : Nat) = (t : Int) - 1 by have := HT.out; omega], by rw [upto_succ]; exact hJ3, HG3.out⟩
        case measure => simp [intOf]
      · gi_wp2
        refine bodyPost_ret (results_none rfl _ _ _) rfl ?_
        exact ⟨⟨_, rfl⟩, .inr ⟨_, ⟨k + 1, by omega, (upto_succ _ _).symm⟩, hJx3⟩⟩
    · obtain rfl : k = len := by omega
      have hg0 : decide ((0 : Int) ≤ (k : Int) - 1 - k) = false := decide_eq_false (by omega)
      rw [show (k : Int) - 1 - k = -1 by omega]
      gi_wp2
      go_end0
      exact ⟨⟨_, rfl⟩, .inl ⟨_, rfl, hJs⟩⟩

theorem back_stops {α : Type} (encs : α → Array Value) (f : Nat → α) (d Bs len cap : Nat) (a : Option Addr) (zs : List Int) (he : ∀ k : Nat, k < len → encs (f k) = #[.int .i64 ((len : Int) - 1 - k), .int .i64 (zs[len - 1 - k]?.getD 0)]) (Kp : World → World → Prop)
    (hK : ∀ W W', Kp W W' → W.cell? ⟨Bs, 0, none⟩ = some (.slice a len cap) ∧ IntRow W a len zs → W'.cell? ⟨Bs, 0, none⟩ = some (.slice a len cap) ∧ IntRow W' a len zs)
    (w : World) (hG : w.cell? ⟨Bs, 0, none⟩ = some (.slice a len cap) ∧ IntRow w a len zs) :
    SeqStopsK Fence.wide d Tryz.prog 89 #[.pointer (some ⟨Bs, 0, none⟩)] encs Kp (fun ys => ys = upto f len) (fun pre => ∃ k, k ≤ len ∧ pre = upto f k) len w :=
  fun l J Jx W hW _ _ hY h0 => back1_in encs f d l Bs len cap a zs he Kp J Jx hK hY W ⟨keep hW hG.1, hG.2.below hW⟩ h0

theorem back_impl (a : Option Addr) (len cap : Nat) (w : World) :
    Calls Tryz.prog 65 #[.slice a len cap] w fun e w' => e = .returned (.func (.func 89) #[] #[.pointer (some ⟨w.heap.size, 0, none⟩)]) ∧ w' = w.alloc (.cells #[.slice a len cap] 24) := by
  go_enter Tryz.func65, Tryz.ntmps65
  go_wp2
  go_ret
  exact ⟨rfl, rfl⟩
end Go.Proofs.YtgcjlbnjlbcmmaaGreat.rofBack
