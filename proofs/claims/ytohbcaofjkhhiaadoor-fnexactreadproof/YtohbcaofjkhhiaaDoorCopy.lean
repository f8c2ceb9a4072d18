/- The contracts of the laws' own helpers over lists of integers: what they count, copy and compare; conditions: lengths that fit. -/
import Derived.Test.YtohbcaofjkhhiaaDoorBase
namespace Go.Proofs.YtohbcaofjkhhiaaDoor.copy
open Go.RowKit Go.Deep base

theorem Tryd.info_int : (Tryd.prog.info? 3).map (fun i => (i.zero, i.size, i.bytes)) = some (some (.int .i64 0), 1, 8) := by kernel_rfl

theorem Tryd.info_ints : (Tryd.prog.info? 34).map (fun i => (i.zero, i.size, i.bytes)) = some (some (.slice none 0 0), 1, 24) := by kernel_rfl

theorem take_eq_succ {α : Type} {zs ys : List α} {d : α} {k : Nat} (hz : k < zs.length) (hy : k < ys.length) (h : zs.take k = ys.take k) (e : zs[k]?.getD d = ys[k]?.getD d) : zs.take (k + 1) = ys.take (k + 1) := by
  rw [List.getElem?_eq_getElem hz, List.getElem?_eq_getElem hy] at e
  have e' : zs[k] = ys[k] := by simpa using e
  rw [List.take_succ_eq_append_getElem hz, List.take_succ_eq_append_getElem hy, h, e']
theorem ne_of_getD {α : Type} {zs ys : List α} {d : α} {k : Nat} (e : ¬ zs[k]?.getD d = ys[k]?.getD d) : ¬ zs = ys := fun h => e (by rw [h])

set_option maxHeartbeats 400000 in
theorem eqIntS (a a' : Option Addr) (len len' cap cap' : Nat) (zs ys : List Int) (w : World) (hr : IntRow w a len zs) (hr' : IntRow w a' len' ys) :
    Calls Tryd.prog 26 #[.slice a len cap, .slice a' len' cap'] w fun e w' => e = .returned (.bool (decide (zs = ys))) ∧ ∃ n, w' = w.drewN n := by
  obtain ⟨hlen, hmost, hcell⟩ := hr
  obtain ⟨hlen', hmost', hcell'⟩ := hr'
  unfold maxLen at hmost hmost'
  have HC := hid hcell
  have HC' := hid hcell'
  have HL := hid hlen
  have HL' := hid hlen'
  clear hcell hcell' hlen hlen'
  by_cases hne : len = len'
  · subst hne
    have hb : ((len : Int) != (len : Int)) = false := by simp
    go_enter Tryd.func26, Tryd.ntmps26
    go_wp2
    go_loopw [5] (fun i wr => ∃ k : Nat, k ≤ len ∧ i = .int .i64 k ∧ zs.take k = ys.take k ∧ ∃ n, wr = w.drewN n) (fun i _ => len - (intOf i).toNat)
    case atStart => exact ⟨0, Nat.zero_le _, rfl, rfl, 0, rfl⟩
    case round =>
      obtain ⟨k, hk, rfl, ht, n, hw⟩ := hrel
      have HT := hid ht
      clear ht
      by_cases hlt : k < len
      · obtain ⟨b, off, rfl, hc0⟩ := HC.out k hlt
        obtain ⟨b', off', rfl, hc0'⟩ := HC'.out k hlt
        have hc : wr.cell? ⟨b, off + k, none⟩ = some (.int .i64 (zs[k]?.getD 0)) := by rw [hw]; simpa using hc0
        have hc' : wr.cell? ⟨b', off' + k, none⟩ = some (.int .i64 (ys[k]?.getD 0)) := by rw [hw]; simpa using hc0'
        have HW := hid hw
        clear hw hc0 hc0'
        by_cases he : zs[k]?.getD 0 = ys[k]?.getD 0
        · have hq : (zs[k]?.getD 0 != ys[k]?.getD 0) = false := by simp [he]
          have HE := hid he
          clear he
          go_wp2
          go_quiet (fail)
          go_wp2
          go_roundw
          case rel => exact ⟨k + 1, by omega, by go_num, take_eq_succ (by rw [HL.out]; omega) (by rw [HL'.out]; omega) HT.out HE.out, n + nq, by rw [HW.out, World.drewN_drewN]⟩
          case measure => simp [intOf]; omega
        · have hq : (zs[k]?.getD 0 != ys[k]?.getD 0) = true := by simp [he]
          have HE := hid he
          clear he
          go_wp2
          go_quiet (fail)
          go_wp2
          go_ret
          exact ⟨ret_bool (decide_eq_false (ne_of_getD HE.out)).symm, n + nq, by rw [HW.out, World.drewN_drewN]⟩
      · have e : k = len := by omega
        subst e
        have HW := hid hw
        clear hw
        go_wp2
        go_ret
        refine ⟨ret_bool (decide_eq_true ?_).symm, n, HW.out⟩
        have := HT.out
        rwa [List.take_of_length_le (by rw [HL.out]; omega), List.take_of_length_le (by rw [HL'.out]; omega)] at this
  · have hb : ((len : Int) != (len' : Int)) = true := by simp; omega
    have hd : ¬ zs = ys := fun h => hne (by rw [← HL.out, ← HL'.out, h])
    have HD := hid hd
    clear hd
    go_enter Tryd.func26, Tryd.ntmps26
    go_wp2
    go_ret
    exact ⟨ret_bool (decide_eq_false HD.out).symm, 0, rfl⟩

theorem IntRow.of_rowIs' {w : World} {b len : Nat} {zs : List Int} {t : TypeId} (hl : zs.length = len) (hm : len ≤ maxLen) (h : w.rowIs b t len (fun j => .int .i64 (zs[j]?.getD 0))) : IntRow w (some ⟨b, 0, none⟩) len zs :=
  ⟨hl, hm, fun i hi => ⟨b, 0, rfl, by simpa using h.cell hi⟩⟩
end Go.Proofs.YtohbcaofjkhhiaaDoor.copy
