/- A law's own helpers: one of a few out of bytes, and whether two lists are the same; conditions: lengths that fit. -/
import Derived.Test.YtiiigdcfnnjkcaaClauseOf
namespace Go.Proofs.Ytiiigdcfnnjkcaa.draws
open Go.RowKit Go.Deep base copy own source

set_option maxHeartbeats 400000 in
theorem same_ints (a a' : Option Addr) (len len' cap cap' : Nat) (zs ys : List Int) (w : World) (hr : IntRow w a len zs) (hr' : IntRow w a' len' ys) :
    Calls Try.prog 17 #[.slice a len cap, .slice a' len' cap'] w fun e w' => e = .returned (.bool (decide (zs = ys))) ∧ ∃ n, w' = w.drewN n := by
  obtain ⟨hlen, hmost, hcell⟩ := hr
  obtain ⟨hlen', hmost', hcell'⟩ := hr'
  unfold maxLen at hmost hmost'
  have HC := hid hcell
  have HC' := hid hcell'
  have HL := hid hlen
  have HL' := hid hlen'
  clear hcell hcell' hlen hlen'
  by_cases hne : len = len'
  · subst hne
    have hb : ((len : Int) != (len : Int)) = false := by simp
    go_enter Try.func17, Try.ntmps17
    go_wp2
    go_loopw [5] (fun i wr => ∃ k : Nat, k ≤ len ∧ i = .int .i64 k ∧ zs.take k = ys.take k ∧ ∃ n, wr = w.drewN n) (fun i _ => len - (intOf i).toNat)
    case atStart => exact ⟨0, Nat.zero_le _, rfl, rfl, 0, rfl⟩
    case round =>
      obtain ⟨k, hk, rfl, ht, n, hw⟩ := hrel
      have HT := hid ht
      clear ht
      by_cases hlt : k < len
      · obtain ⟨b, off, rfl, hc0⟩ := HC.out k hlt
        obtain ⟨b', off', rfl, hc0'⟩ := HC'.out k hlt
        have hc : wr.cell? ⟨b, off + k, none⟩ = some (.int .i64 (zs[k]?.getD 0)) := by rw [hw]; simpa using hc0
        have hc' : wr.cell? ⟨b', off' + k, none⟩ = some (.int .i64 (ys[k]?.getD 0)) := by rw [hw]; simpa using hc0'
        have HW := hid hw
        clear hw hc0 hc0'
        by_cases he : zs[k]?.getD 0 = ys[k]?.getD 0
        · have hq : (zs[k]?.getD 0 != ys[k]?.getD 0) = false := by simp [he]
          have HE := hid he
          clear he
          go_wp2
          go_quiet (fail)
          go_wp2
          go_roundw
          case rel => exact ⟨k + 1, by omega, by go_num, take_eq_succ (by rw [HL.out]; omega) (by rw [HL'.out]; omega) HT.out HE.out, n + nq, by rw [HW.out, World.drewN_drewN]⟩
          case measure => simp [intOf]; omega
        · have hq : (zs[k]?.getD 0 != ys[k]?.getD 0) = true := by simp [he]
          have HE := hid he
          clear he
          go_wp2
          go_quiet (fail)
          go_wp2
          go_ret
          exact ⟨ret_bool (decide_eq_false (ne_of_getD HE.out)).symm, n + nq, by rw [HW.out, World.drewN_drewN]⟩
      · have e : k = len := by omega
        subst e
        have HW := hid hw
        clear hw
        go_wp2
        go_ret
        refine ⟨ret_bool (decide_eq_true ?_).symm, n, HW.out⟩
        have := HT.out
        rwa [List.take_of_length_le (by rw [HL.out]; omega), List.take_of_length_le (by rw [HL'.out]; omega)] at this
  · have hb : ((len : Int) != (len' : Int)) = true := by simp; omega
    have hd : ¬ zs = ys := fun h => hne (by rw [← HL.out, ← HL'.out, h])
    have HD := hid hd
    clear hd
    go_enter Try.func17, Try.ntmps17
    go_wp2
    go_ret
    exact ⟨ret_bool (decide_eq_false HD.out).symm, 0, rfl⟩

set_option maxHeartbeats 800000 in
theorem at_first (a : Option Addr) (len cap : Nat) (w : World) (hb : Bytes w a len) (hl : len ≤ 1048576) :
    Calls Try.prog 13 #[.slice a len cap, .int .i64 0, .int .i64 4] w fun e w' => ∃ r : Int, e = .returned (.int .i64 r) ∧ 0 ≤ r ∧ r < 4 ∧ ∃ q, w' = w.drewN q := by
  have HB := hid hb
  clear hb
  by_cases h0 : len = 0
  · subst h0
    go_enter Try.func13, Try.ntmps13
    go_wp2
    go_ret
    exact ⟨_, rfl, by omega, by omega, 0, rfl⟩
  obtain ⟨bb, off, rfl, x, hx, hc⟩ := HB.out 0 (by omega)
  have hq0 : ((len : Int) == 0) = false := by simp; omega
  have hlp : (0 : Int) < (len : Int) := by omega
  rw [Nat.add_zero] at hc
  by_cases h1 : len = 1
  · subst h1
    go_enter Try.func13, Try.ntmps13
    go_wp2
    go_quiet (fail)
    go_wp2
    go_ret
    exact ⟨_, rfl, Int.emod_nonneg _ (by omega), Int.emod_lt_of_pos _ (by omega), nq, rfl⟩
  obtain ⟨bb', off', he, y, hy, hd⟩ := HB.out 1 (by omega)
  cases he
  have hm : (1 : Int) % (len : Int) = 1 := Int.emod_eq_of_lt (by omega) (by omega)
  have hlp2 : (1 : Int) < (len : Int) := by omega
  go_enter Try.func13, Try.ntmps13
  go_wp2
  go_quiet (fail)
  go_wp2
  go_ret
  exact ⟨_, rfl, Int.emod_nonneg _ (by omega), Int.emod_lt_of_pos _ (by omega), nq, rfl⟩
end Go.Proofs.Ytiiigdcfnnjkcaa.draws
