/- What tells whether a network is right, of the specification, part by part; conditions: none. -/
import Derived.Test.YtffacjebnbplaaaGreatDoorPart5
namespace Go.Proofs.YtffacjebnbplaaaGreatDoor.netSpec
open Go.RowKit Go.Deep base names netSem
set_option linter.unusedVariables false

set_option maxHeartbeats 400000 in
theorem in_spec (n low high : Int) (w : World) :
    Calls Tryz.prog 32 #[.int .i64 n, .int .i64 low, .int .i64 high] w fun e w' => e = .returned (.bool (inB n low high)) ∧ w' = w := by
  go_enter Tryz.func32, Tryz.ntmps32
  go_wp2
  all_goals
    go_ret
    refine ⟨ret_bool ?_, rfl⟩
    rw [Bool.eq_iff_iff]; simp [inB, *]; try omega

set_option maxHeartbeats 400000 in
theorem place_spec (a : Option Addr) (len cap : Nat) (s : Ss) (t : ByteArray) (w : World) (hr : StrRow w a len s) :
    Calls Tryz.prog 35 #[.slice a len cap, .string t] w fun e w' => e = .returned (.int .i64 (nameAt s len t)) ∧ w' = w := by
  have hmost := hr.most
  unfold maxLen at hmost
  have HC := hid hr.cell
  clear hr
  go_enter Tryz.func35, Tryz.ntmps35
  go_wp2
  go_loop [5] (fun i => ∃ k : Nat, k ≤ len ∧ i = .int .i64 k ∧ ∀ j, j < k → same s t j = false) (fun i => len - (intOf i).toNat)
  case atStart => exact ⟨0, Nat.zero_le _, rfl, fun j hj => absurd hj (Nat.not_lt_zero _)⟩
  case round =>
    obtain ⟨k, hk, rfl, ha⟩ := hrel
    have HA := hid ha
    clear ha
    by_cases hlt : k < len
    · obtain ⟨b, off, rfl, hc⟩ := HC.out k hlt
      by_cases he : (s k).toList = t.toList
      · have hq : ((s k).toList == t.toList) = true := by simp [he]
        have HE := hid (show same s t k = true from decide_eq_true he)
        clear he
        go_wp2
        go_ret
        exact ⟨ret_int (firstAt_hit hlt HE.out HA.out).symm, rfl⟩
      · have hq : ((s k).toList == t.toList) = false := beq_eq_false_iff_ne.2 he
        have HE := hid (show same s t k = false from decide_eq_false he)
        clear he
        go_wp2
        go_round
        case rel =>
          refine ⟨k + 1, by omega, by go_num, fun j hj => ?_⟩
          by_cases e : j = k
          · subst e; exact HE.out
          · exact HA.out j (by omega)
        case measure => simp [intOf]; omega
    · have e : k = len := by omega
      subst e
      go_wp2
      go_ret
      exact ⟨ret_int (firstAt_none HA.out).symm, rfl⟩

set_option maxHeartbeats 800000 in
theorem link_spec (p : Option Addr) (len cap : Nat) (g : R) (a b : Int) (w : World) (hr : Row 3 w p len g) :
    Calls Tryz.prog 25 #[.slice p len cap, .int .i64 a, .int .i64 b] w fun e w' => e = .returned (.int .i64 (linkAt g len a b)) ∧ w' = w := by
  have hmost := hr.most
  unfold maxLen at hmost
  have HR := hid hr
  clear hr
  go_enter Tryz.func25, Tryz.ntmps25
  go_wp2
  go_loop [7] (fun i => ∃ k : Nat, k ≤ len ∧ i = .int .i64 k ∧ ∀ j, j < k → hit g a b j = false) (fun i => len - (intOf i).toNat)
  case atStart => exact ⟨0, Nat.zero_le _, rfl, fun j hj => absurd hj (Nat.not_lt_zero _)⟩
  case round =>
    obtain ⟨k, hk, rfl, ha⟩ := hrel
    have HA := hid ha
    clear ha
    by_cases hlt : k < len
    · obtain ⟨b0, off, rfl, c0, c1, c2⟩ := HR.out.at3 hlt
      obtain ⟨D, hD⟩ : ∃ D, hit g a b k = D := ⟨_, rfl⟩
      have HQ := hid hD
      have hE : decide (g k 0 = a ∧ g k 1 = b ∨ g k 0 = b ∧ g k 1 = a) = D := hD
      clear hD
      generalize g k 0 = x at *
      generalize g k 1 = y at *
      generalize g k 2 = z at *
      obtain ⟨p1, e1⟩ : ∃ p, (x == a) = p := ⟨_, rfl⟩
      obtain ⟨p2, e2⟩ : ∃ p, (y == b) = p := ⟨_, rfl⟩
      obtain ⟨p3, e3⟩ : ∃ p, (x == b) = p := ⟨_, rfl⟩
      obtain ⟨p4, e4⟩ : ∃ p, (y == a) = p := ⟨_, rfl⟩
      have HD : D = (p1 && p2 || p3 && p4) := by
        rw [← hE, ← e1, ← e2, ← e3, ← e4, Bool.eq_iff_iff]
        simp
      clear hE
      cases p1 <;> cases p2 <;> cases p3 <;> cases p4
      all_goals
        subst HD
        go_wp2
        first
        | (go_ret; exact ⟨ret_int (firstAt_hit hlt HQ.out HA.out).symm, rfl⟩)
        | (go_round
           case rel =>
             refine ⟨k + 1, by omega, by go_num, fun j hj => ?_⟩
             by_cases e : j = k
             · subst e; exact HQ.out
             · exact HA.out j (by omega)
           case measure => simp [intOf]; omega)
    · have e : k = len := by omega
      subst e
      go_wp2
      go_ret
      exact ⟨ret_int (firstAt_none HA.out).symm, rfl⟩

set_option maxHeartbeats 800000 in
theorem rising_spec (a : Option Addr) (len cap : Nat) (zs : List Int) (r : Nat) (w : World) (hr : IntRow w a len zs) (hm : r ≤ maxLen) :
    Calls Tryz.prog 33 #[.slice a len cap, .int .i64 r] w fun e w' => e = .returned (.bool (risingB zs len r)) ∧ ∃ n, w' = w.drewN n := by
  obtain ⟨hlen, hmost, hcell⟩ := hr
  unfold maxLen at hmost
  have HC := hid hcell
  have HM := hid hm
  unfold maxLen at hm
  clear hlen hcell
  go_enter Tryz.func33, Tryz.ntmps33
  go_wp2
  go_loopw [5] (fun i wr => ∃ k n : Nat, k ≤ len ∧ i = .int .i64 k ∧ (∀ j, j < k → risesB zs r j = true) ∧ wr = w.drewN n) (fun i _ => len - (intOf i).toNat)
  case atStart => exact ⟨0, 0, Nat.zero_le _, rfl, fun j hj => absurd hj (Nat.not_lt_zero _), rfl⟩
  case round =>
    obtain ⟨k, n, hk, rfl, ha, hw⟩ := hrel
    have HA := hid ha
    have HW := hid hw
    clear ha
    by_cases hlt : k < len
    · obtain ⟨b, off, rfl, hc0⟩ := HC.out k hlt
      have hc : wr.cell? ⟨b, off + k, none⟩ = some (.int .i64 (zAt zs k)) := by rw [hw]; simpa [zAt] using hc0
      have HQ : Hid (risesB zs r k = (inB (zAt zs k) 0 (r - 1) && (decide (k = 0) || decide (zAt zs (k - 1) < zAt zs k)))) := rfl
      obtain ⟨p1, e1⟩ : ∃ p, inB (zAt zs k) 0 (r - 1) = p := ⟨_, rfl⟩
      rw [e1] at HQ
      cases p1 with
      | false =>
        have HF := hid (show risesB zs r k = false from HQ.out)
        clear hw hc0
        generalize zAt zs k = z at *
        go_wp2
        go_quiet (first | (go_at_call 32; exact Calls.quiet_of_same (in_spec _ _ _ _)))
        go_wp2
        go_ret
        exact ⟨ret_bool (allN_false hlt HF.out).symm, n + nq, by rw [HW.out, World.drewN_drewN]⟩
      | true =>
        by_cases hk0 : k = 0
        · have HF := hid (show risesB zs r k = true by rw [HQ.out, decide_eq_true hk0]; rfl)
          have ip3 : decide ((0 : Int) < (k : Int)) = false := decide_eq_false (by omega)
          have ip4 : decide (0 < k) = false := decide_eq_false (by omega)
          clear hw hc0 hk0
          generalize zAt zs k = z at *
          go_wp2
          go_quiet (first | (go_at_call 32; exact Calls.quiet_of_same (in_spec _ _ _ _)))
          go_wp2
          go_roundw
          case rel =>
            refine ⟨k + 1, n + nq, by omega, by go_num, fun j hj => ?_, by rw [HW.out, World.drewN_drewN]⟩
            by_cases e : j = k
            · subst e; exact HF.out
            · exact HA.out j (by omega)
          case measure => simp [intOf]; omega
        · obtain ⟨m, hm1⟩ : ∃ m, k = m + 1 := ⟨k - 1, by omega⟩
          obtain ⟨b', off', hab, hd0⟩ := HC.out m (by omega)
          cases hab
          have hd : wr.cell? ⟨b, off + m, none⟩ = some (.int .i64 (zAt zs m)) := by rw [hw]; simpa [zAt] using hd0
          have ek : k - 1 = m := by omega
          have ip : (k : Int) - 1 = (m : Int) := by omega
          have ip1 : (m : Int) < (len : Int) := by omega
          have ip2 : (k : Int) < (len : Int) := by omega
          have ip3 : decide ((0 : Int) < (k : Int)) = true := decide_eq_true (by omega)
          have ip4 : decide (0 < k) = true := decide_eq_true (by omega)
          have HQ2 : Hid (risesB zs r k = decide (zAt zs m < zAt zs k)) := by
            show _ = _
            rw [HQ.out, ek, decide_eq_false hk0]; rfl
          have HM1 := hid hm1
          clear hw hc0 hd0 hm1 ek HQ
          obtain ⟨p2, e2⟩ : ∃ p, decide (zAt zs k ≤ zAt zs m) = p := ⟨_, rfl⟩
          have HF : Hid (risesB zs r k = !p2) := by
            show _ = _
            rw [HQ2.out, ← e2, Bool.eq_iff_iff]; simp
          clear HQ2
          generalize zAt zs k = z at *
          generalize zAt zs m = y at *
          cases p2 with
          | true =>
            go_wp2
            go_quiet (first | (go_at_call 32; exact Calls.quiet_of_same (in_spec _ _ _ _)))
            go_wp2
            go_ret
            exact ⟨ret_bool (allN_false hlt HF.out).symm, n + nq, by rw [HW.out, World.drewN_drewN]⟩
          | false =>
            go_wp2
            go_quiet (first | (go_at_call 32; exact Calls.quiet_of_same (in_spec _ _ _ _)))
            go_wp2
            go_roundw
            case rel =>
              refine ⟨k + 1, n + nq, by omega, by go_num, fun j hj => ?_, by rw [HW.out, World.drewN_drewN]⟩
              by_cases e : j = k
              · subst e; exact HF.out
              · exact HA.out j (by omega)
            case measure => simp [intOf]; omega
    · have e : k = len := by omega
      subst e
      go_wp2
      go_ret
      exact ⟨ret_bool (allN_of HA.out).symm, n, by first | exact HW.out | rfl⟩
end Go.Proofs.YtffacjebnbplaaaGreatDoor.netSpec
