/- The contracts of the laws' own helpers over lists of integers: what they count, copy and compare; conditions: lengths that fit. -/
import Derived.Test.YtongkdccfjiemaaBase
namespace Go.Proofs.Ytongkdccfjiemaa.copy
open Go.RowKit Go.Deep base

theorem Try.info_int : (Try.prog.info? 3).map (fun i => (i.zero, i.size, i.bytes)) = some (some (.int .i64 0), 1, 8) := by kernel_rfl

theorem take_eq_succ {α : Type} {zs ys : List α} {d : α} {k : Nat} (hz : k < zs.length) (hy : k < ys.length) (h : zs.take k = ys.take k) (e : zs[k]?.getD d = ys[k]?.getD d) : zs.take (k + 1) = ys.take (k + 1) := by
  rw [List.getElem?_eq_getElem hz, List.getElem?_eq_getElem hy] at e
  have e' : zs[k] = ys[k] := by simpa using e
  rw [List.take_succ_eq_append_getElem hz, List.take_succ_eq_append_getElem hy, h, e']
theorem ne_of_getD {α : Type} {zs ys : List α} {d : α} {k : Nat} (e : ¬ zs[k]?.getD d = ys[k]?.getD d) : ¬ zs = ys := fun h => e (by rw [h])

theorem BoolRow.of_rowIs {w : World} {b len : Nat} {zs : List Bool} {t : TypeId} (hl : zs.length = len) (hm : len ≤ maxLen) (h : w.rowIs b t len (fun j => .bool (zs[j]?.getD false))) : BoolRow w (some ⟨b, 0, none⟩) len zs :=
  ⟨hl, hm, fun i hi => ⟨b, 0, rfl, by simpa using h.cell hi⟩⟩
theorem Try.info_bool : (Try.prog.info? 4).map (fun i => (i.zero, i.size, i.bytes)) = some (some (.bool false), 1, 1) := by kernel_rfl
set_option maxHeartbeats 400000 in
theorem toBoolS (a : Option Addr) (len cap : Nat) (zs : List Bool) (w : World) (hr : BoolRow w a len zs) (hb : len ≤ 1048576) :
    Calls Try.prog 11 #[.slice a len cap] w fun e w' => e = .returned (.slice (some ⟨w.heap.size, 0, none⟩) len len) ∧ Below w.heap.size w w' ∧ w'.heap.size = w.heap.size + 1 ∧ w'.rowIs w.heap.size 4 len (fun i => .bool (zs[i]?.getD false)) := by
  obtain ⟨hlen, hmost, hcell⟩ := hr
  unfold maxLen at hmost
  have HC := hid hcell
  clear hcell hlen
  have hmk := run_make_row' (P := Try.prog) 33 4 (.bool false) 1 Try.underlying33 Try.info_bool rfl .i64 .i64 len (by omega) (by omega)
  go_enter Try.func11, Try.ntmps11
  go_wp2
  go_loopw [4] (fun i wr => ∃ k : Nat, k ≤ len ∧ i = .int .i64 k ∧ Below w.heap.size w wr ∧ wr.heap.size = w.heap.size + 1 ∧ wr.rowIs w.heap.size 4 len (fun j => if j < k then .bool (zs[j]?.getD false) else .bool false)) (fun i _ => len - (intOf i).toNat)
  case atStart => exact ⟨0, Nat.zero_le _, rfl, (Below.refl _ _).alloc (Nat.le_refl _) _, by simp, (World.rowIs_made w _ len 4).congr (fun j _ => by simp)⟩
  case round =>
    obtain ⟨k, hk, rfl, hbel, hsz, hrow⟩ := hrel
    by_cases hlt : k < len
    · obtain ⟨b, off, rfl, hc⟩ := HC.out k hlt
      have hc' := keep hbel hc
      have g4 : wr.cell? ⟨w.heap.size, k, none⟩ = some (.bool false) := by simpa using hrow.cell hlt
      have g5 : wr.frozen? ⟨w.heap.size, k, none⟩ = false := hrow.frozen k
      have HB : Hid (Below w.heap.size w wr) := hbel
      have HR := hid hrow
      have HS : Hid (wr.heap.size = w.heap.size + 1) := hsz
      clear hbel hrow hsz hc hmk
      go_wp2
      go_roundw
      case rel =>
        refine ⟨k + 1, by omega, by go_num, HB.out.setCell (Nat.le_refl _) _, by simp [HS.out], (HR.out.set k _).congr (fun j _ => ?_)⟩
        by_cases e : j = k
        · subst e; simp
        · rw [if_neg e]
          by_cases hj : j < k
          · rw [if_pos hj, if_pos (by omega)]
          · rw [if_neg hj, if_neg (by omega)]
      case measure => simp [intOf]; omega
    · have e : k = len := by omega
      subst e
      have HB : Hid (Below w.heap.size w wr) := hbel
      have HR := hid hrow
      have HS : Hid (wr.heap.size = w.heap.size + 1) := hsz
      clear hbel hrow hsz hmk
      go_wp2
      go_ret
      exact ⟨rfl, HB.out, HS.out, HR.out.congr (fun j hj => by rw [if_pos hj])⟩

set_option maxHeartbeats 400000 in
theorem eqBoolS (a a' : Option Addr) (len len' cap cap' : Nat) (zs ys : List Bool) (w : World) (hr : BoolRow w a len zs) (hr' : BoolRow w a' len' ys) :
    Calls Try.prog 13 #[.slice a len cap, .slice a' len' cap'] w fun e w' => e = .returned (.bool (decide (zs = ys))) ∧ ∃ n, w' = w.drewN n := by
  obtain ⟨hlen, hmost, hcell⟩ := hr
  obtain ⟨hlen', hmost', hcell'⟩ := hr'
  unfold maxLen at hmost hmost'
  have HC := hid hcell
  have HC' := hid hcell'
  have HL := hid hlen
  have HL' := hid hlen'
  clear hcell hcell' hlen hlen'
  by_cases hne : len = len'
  · subst hne
    have hb : ((len : Int) != (len : Int)) = false := by simp
    go_enter Try.func13, Try.ntmps13
    go_wp2
    go_loopw [5] (fun i wr => ∃ k : Nat, k ≤ len ∧ i = .int .i64 k ∧ zs.take k = ys.take k ∧ ∃ n, wr = w.drewN n) (fun i _ => len - (intOf i).toNat)
    case atStart => exact ⟨0, Nat.zero_le _, rfl, rfl, 0, rfl⟩
    case round =>
      obtain ⟨k, hk, rfl, ht, n, hw⟩ := hrel
      have HT := hid ht
      clear ht
      by_cases hlt : k < len
      · obtain ⟨b, off, rfl, hc0⟩ := HC.out k hlt
        obtain ⟨b', off', rfl, hc0'⟩ := HC'.out k hlt
        have hc : wr.cell? ⟨b, off + k, none⟩ = some (.bool (zs[k]?.getD false)) := by rw [hw]; simpa using hc0
        have hc' : wr.cell? ⟨b', off' + k, none⟩ = some (.bool (ys[k]?.getD false)) := by rw [hw]; simpa using hc0'
        have HW := hid hw
        clear hw hc0 hc0'
        by_cases he : zs[k]?.getD false = ys[k]?.getD false
        · have hq : (zs[k]?.getD false == ys[k]?.getD false) = true := by simp [he]
          have HE := hid he
          clear he
          go_wp2
          go_quiet (fail)
          go_wp2
          go_roundw
          case rel => exact ⟨k + 1, by omega, by go_num, take_eq_succ (by rw [HL.out]; omega) (by rw [HL'.out]; omega) HT.out HE.out, n + nq, by rw [HW.out, World.drewN_drewN]⟩
          case measure => simp [intOf]; omega
        · have hq : (zs[k]?.getD false == ys[k]?.getD false) = false := by simp [he]
          have HE := hid he
          clear he
          go_wp2
          go_quiet (fail)
          go_wp2
          go_ret
          exact ⟨ret_bool (decide_eq_false (ne_of_getD HE.out)).symm, n + nq, by rw [HW.out, World.drewN_drewN]⟩
      · have e : k = len := by omega
        subst e
        have HW := hid hw
        clear hw
        go_wp2
        go_ret
        refine ⟨ret_bool (decide_eq_true ?_).symm, n, HW.out⟩
        have := HT.out
        rwa [List.take_of_length_le (by rw [HL.out]; omega), List.take_of_length_le (by rw [HL'.out]; omega)] at this
  · have hb : ((len : Int) != (len' : Int)) = true := by simp; omega
    have hd : ¬ zs = ys := fun h => hne (by rw [← HL.out, ← HL'.out, h])
    have HD := hid hd
    clear hd
    go_enter Try.func13, Try.ntmps13
    go_wp2
    go_ret
    exact ⟨ret_bool (decide_eq_false HD.out).symm, 0, rfl⟩

theorem IntRow.of_rowIs' {w : World} {b len : Nat} {zs : List Int} {t : TypeId} (hl : zs.length = len) (hm : len ≤ maxLen) (h : w.rowIs b t len (fun j => .int .i64 (zs[j]?.getD 0))) : IntRow w (some ⟨b, 0, none⟩) len zs :=
  ⟨hl, hm, fun i hi => ⟨b, 0, rfl, by simpa using h.cell hi⟩⟩
theorem toBoolN (a : Option Addr) (len cap : Nat) (zs : List Bool) (w : World) (hr : BoolRow w a len zs) (hb : len ≤ 1048576) :
    Calls Try.prog 11 #[.slice a len cap] w fun e w' => ∃ N, e = .returned (.slice (some ⟨N, 0, none⟩) len len) ∧ w.heap.size ≤ N ∧ Below w.heap.size w w' ∧ w'.rowIs N 4 len (fun i => .bool (zs[i]?.getD false)) ∧ BoolRow w' (some ⟨N, 0, none⟩) len zs :=
  (toBoolS a len cap zs w hr hb).mono fun _ _ ⟨h1, h2, _, h4⟩ => ⟨_, h1, Nat.le_refl _, h2, h4, BoolRow.of_rowIs hr.length hr.most h4⟩
end Go.Proofs.Ytongkdccfjiemaa.copy
