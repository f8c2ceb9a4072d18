/- Base; Copy: one text, so that the claim has fewer files. -/
import Derived.Test.YtbahjpheaaiamaaDoorRows
import Derived.WalkKit
import Derived.Below
import Derived.Deep.OwnRows
import Derived.Deep.QuietTactic
import Derived.BigQuiet
import Derived.Deep.RegionWith
/- What the contracts are stated in: rows of cells that read as lists, and how they are kept where only new memory is written; of no program; conditions: none. -/
namespace Go.Proofs.YtbahjpheaaiamaaDoor.base
open Go.RowKit Go.Deep

theorem ret_bool {a b : Bool} (h : a = b) : Ending.returned (.bool a) = .returned (.bool b) := by rw [h]
theorem ret_int {k : IntKind} {a b : Int} (h : a = b) : Ending.returned (.int k a) = .returned (.int k b) := by rw [h]

theorem hid {p : Prop} (h : p) : Hid p := h
theorem below_drewN (w : World) (n : Nat) : Below w.heap.size w (w.drewN n) := ⟨rfl, rfl, rfl, Nat.le_refl _, fun _ _ => rfl⟩
theorem bcell {W w1 : World} (hb : Below W.heap.size W w1) : (∀ b o, b < W.heap.size → w1.cell? ⟨b, o, none⟩ = W.cell? ⟨b, o, none⟩) ∧ (∀ b o, b < W.heap.size → w1.frozen? ⟨b, o, none⟩ = W.frozen? ⟨b, o, none⟩) :=
  ⟨fun b o h => hb.cell (p := ⟨b, o, none⟩) h, fun b o h => hb.frozen (p := ⟨b, o, none⟩) h⟩
theorem keep {W w1 : World} (hb : Below W.heap.size W w1) {b o : Nat} {v : Value} (h : W.cell? ⟨b, o, none⟩ = some v) : w1.cell? ⟨b, o, none⟩ = some v := by
  rw [hb.cell (p := ⟨b, o, none⟩) (World.block_lt_of_cell? _ _ h)]; exact h

/-- A slice reads as a list of integers: its length, and each of its cells. -/
structure IntRow (w : World) (a : Option Addr) (len : Nat) (zs : List Int) : Prop where
  length : zs.length = len
  most : len ≤ maxLen
  cell : ∀ i, i < len → ∃ b off, a = some ⟨b, off, none⟩ ∧ w.cell? ⟨b, off + i, none⟩ = some (.int .i64 (zs[i]?.getD 0))
theorem IntRow.below {W w1 : World} {a : Option Addr} {len : Nat} {zs : List Int} (h : IntRow W a len zs) (hb : Below W.heap.size W w1) : IntRow w1 a len zs :=
  ⟨h.length, h.most, fun i hi => by
    obtain ⟨b, off, e, hc⟩ := h.cell i hi
    exact ⟨b, off, e, keep hb hc⟩⟩
theorem IntRow.drewN {W : World} {a : Option Addr} {len : Nat} {zs : List Int} (h : IntRow W a len zs) (n : Nat) : IntRow (W.drewN n) a len zs := h.below (below_drewN _ _)
/-- A slice of slices of integers. -/
structure IntRows (w : World) (a : Option Addr) (len : Nat) (zss : List (List Int)) : Prop where
  length : zss.length = len
  most : len ≤ maxLen
  cell : ∀ i, i < len → ∃ b off, a = some ⟨b, off, none⟩ ∧ ∃ a' l' c', w.cell? ⟨b, off + i, none⟩ = some (.slice a' l' c') ∧ IntRow w a' l' (zss[i]?.getD [])
theorem IntRows.below {W w1 : World} {a : Option Addr} {len : Nat} {zss : List (List Int)} (h : IntRows W a len zss) (hb : Below W.heap.size W w1) : IntRows w1 a len zss :=
  ⟨h.length, h.most, fun i hi => by
    obtain ⟨b, off, e, a', l', c', hc, hr⟩ := h.cell i hi
    exact ⟨b, off, e, a', l', c', keep hb hc, hr.below hb⟩⟩
/-- A slice of bools. -/
structure BoolRow (w : World) (a : Option Addr) (len : Nat) (zs : List Bool) : Prop where
  length : zs.length = len
  most : len ≤ maxLen
  cell : ∀ i, i < len → ∃ b off, a = some ⟨b, off, none⟩ ∧ w.cell? ⟨b, off + i, none⟩ = some (.bool (zs[i]?.getD false))
theorem BoolRow.below {W w1 : World} {a : Option Addr} {len : Nat} {zs : List Bool} (h : BoolRow W a len zs) (hb : Below W.heap.size W w1) : BoolRow w1 a len zs :=
  ⟨h.length, h.most, fun i hi => by
    obtain ⟨b, off, e, hc⟩ := h.cell i hi
    exact ⟨b, off, e, keep hb hc⟩⟩

theorem all_take_succ {α : Type} {p : α → Bool} {zs : List α} {d : α} {k : Nat} (h : k < zs.length) : (zs.take (k + 1)).all p = ((zs.take k).all p && p (zs[k]?.getD d)) := by
  rw [List.take_succ_eq_append_getElem h, List.all_append, List.getElem?_eq_getElem h]; simp
theorem all_false {α : Type} {p : α → Bool} {zs : List α} {d : α} {k : Nat} (h : k < zs.length) (hp : p (zs[k]?.getD d) = false) : zs.all p = false := by
  rw [List.all_eq_false]
  refine ⟨zs[k], List.getElem_mem h, ?_⟩
  rw [List.getElem?_eq_getElem h] at hp
  simpa using hp
end Go.Proofs.YtbahjpheaaiamaaDoor.base

/- The contracts of the laws' own helpers over lists of integers: what they count, copy and compare; conditions: lengths that fit. -/
namespace Go.Proofs.YtbahjpheaaiamaaDoor.copy
open Go.RowKit Go.Deep base

set_option maxHeartbeats 400000 in
theorem szIntS (a : Option Addr) (len cap : Nat) (left : Int) (w : World) (hm : len ≤ maxLen) (h0 : 0 ≤ left) (h1 : left ≤ 1048576) :
    Calls Tryd.prog 35 #[.slice a len cap, .int .i64 left] w fun e w' => e = .returned (.int .i64 (if left < len then -1 else left - len)) ∧ w' = w := by
  unfold maxLen at hm
  by_cases h : left < (len : Int)
  · rw [if_pos h]
    go_enter Tryd.func35, Tryd.ntmps35
    go_wp2
    go_ret
    exact ⟨rfl, rfl⟩
  · rw [if_neg h]
    go_enter Tryd.func35, Tryd.ntmps35
    go_wp2
    go_ret
    exact ⟨rfl, rfl⟩

theorem Tryd.info_int : (Tryd.prog.info? 3).map (fun i => (i.zero, i.size, i.bytes)) = some (some (.int .i64 0), 1, 8) := by kernel_rfl

set_option maxHeartbeats 400000 in
theorem toIntS (a : Option Addr) (len cap : Nat) (zs : List Int) (w : World) (hr : IntRow w a len zs) (hb : len ≤ 1048576) :
    Calls Tryd.prog 15 #[.slice a len cap] w fun e w' => e = .returned (.slice (some ⟨w.heap.size, 0, none⟩) len len) ∧ Below w.heap.size w w' ∧ w'.heap.size = w.heap.size + 1 ∧ w'.rowIs w.heap.size 3 len (fun i => .int .i64 (zs[i]?.getD 0)) := by
  obtain ⟨hlen, hmost, hcell⟩ := hr
  unfold maxLen at hmost
  have HC := hid hcell
  clear hcell hlen
  have hmk := run_make_row' (P := Tryd.prog) 36 3 (.int .i64 0) 8 Tryd.underlying36 Tryd.info_int rfl .i64 .i64 len (by omega) (by omega)
  go_enter Tryd.func15, Tryd.ntmps15
  go_wp2
  go_loopw [4] (fun i wr => ∃ k : Nat, k ≤ len ∧ i = .int .i64 k ∧ Below w.heap.size w wr ∧ wr.heap.size = w.heap.size + 1 ∧ wr.rowIs w.heap.size 3 len (fun j => if j < k then .int .i64 (zs[j]?.getD 0) else .int .i64 0)) (fun i _ => len - (intOf i).toNat)
  case atStart => exact ⟨0, Nat.zero_le _, rfl, (Below.refl _ _).alloc (Nat.le_refl _) _, by simp, (World.rowIs_made w _ len 3).congr (fun j _ => by simp)⟩
  case round =>
    obtain ⟨k, hk, rfl, hbel, hsz, hrow⟩ := hrel
    by_cases hlt : k < len
    · obtain ⟨b, off, rfl, hc⟩ := HC.out k hlt
      have hc' := keep hbel hc
      have g4 : wr.cell? ⟨w.heap.size, k, none⟩ = some (.int .i64 0) := by simpa using hrow.cell hlt
      have g5 : wr.frozen? ⟨w.heap.size, k, none⟩ = false := hrow.frozen k
      have HB : Hid (Below w.heap.size w wr) := hbel
      have HR := hid hrow
      have HS : Hid (wr.heap.size = w.heap.size + 1) := hsz
      clear hbel hrow hsz hc hmk
      go_wp2
      go_roundw
      case rel =>
        refine ⟨k + 1, by omega, by go_num, HB.out.setCell (Nat.le_refl _) _, by simp [HS.out], (HR.out.set k _).congr (fun j _ => ?_)⟩
        by_cases e : j = k
        · subst e; simp
        · rw [if_neg e]
          by_cases hj : j < k
          · rw [if_pos hj, if_pos (by omega)]
          · rw [if_neg hj, if_neg (by omega)]
      case measure => simp [intOf]; omega
    · have e : k = len := by omega
      subst e
      have HB : Hid (Below w.heap.size w wr) := hbel
      have HR := hid hrow
      have HS : Hid (wr.heap.size = w.heap.size + 1) := hsz
      clear hbel hrow hsz hmk
      go_wp2
      go_ret
      exact ⟨rfl, HB.out, HS.out, HR.out.congr (fun j hj => by rw [if_pos hj])⟩

theorem Tryd.info_ints : (Tryd.prog.info? 36).map (fun i => (i.zero, i.size, i.bytes)) = some (some (.slice none 0 0), 1, 24) := by kernel_rfl

/-- A list of lists in blocks of its own: the outer one in block N, the inner ones behind it, one block each. -/
structure Copied (w : World) (N : Nat) (zss : List (List Int)) : Prop where
  outer : w.rowIs N 36 zss.length (fun i => .slice (some ⟨N + 1 + i, 0, none⟩) (zss[i]?.getD []).length (zss[i]?.getD []).length)
  inner : ∀ i, i < zss.length → w.rowIs (N + 1 + i) 3 (zss[i]?.getD []).length (fun j => .int .i64 ((zss[i]?.getD [])[j]?.getD 0))
theorem IntRow.of_rowIs {w : World} {b : Nat} {zs : List Int} {t : TypeId} (h : w.rowIs b t zs.length (fun j => .int .i64 (zs[j]?.getD 0))) (hm : zs.length ≤ maxLen) : IntRow w (some ⟨b, 0, none⟩) zs.length zs :=
  ⟨rfl, hm, fun i hi => ⟨b, 0, rfl, by simpa using h.cell hi⟩⟩
theorem Copied.rows {w : World} {N : Nat} {zss : List (List Int)} (h : Copied w N zss) (hm : zss.length ≤ maxLen) (hi : ∀ i, i < zss.length → (zss[i]?.getD []).length ≤ maxLen) : IntRows w (some ⟨N, 0, none⟩) zss.length zss :=
  ⟨rfl, hm, fun i hlt => ⟨N, 0, rfl, _, _, _, by simpa using h.outer.cell hlt, IntRow.of_rowIs (h.inner i hlt) (hi i hlt)⟩⟩
theorem Copied.rowsLen {w : World} {N len : Nat} {zss : List (List Int)} (h : Copied w N zss) (hl : zss.length = len) (hb : (len : Int) ≤ 1048576 ∧ ∀ i, i < len → ((zss[i]?.getD []).length : Int) ≤ 1048576) : IntRows w (some ⟨N, 0, none⟩) len zss := by
  subst hl
  exact h.rows (by unfold maxLen; omega) (fun i hi => by have := hb.2 i hi; unfold maxLen; omega)
theorem Copied.set {w : World} {N : Nat} {zss : List (List Int)} (h : Copied w N zss) {a : Addr} (ha : a.block < N) (v : Value) : Copied (w.setCell a v) N zss :=
  ⟨h.outer.setOther (by omega) v, fun i hi => (h.inner i hi).setOther (by omega) v⟩
theorem Copied.below {w w1 : World} {N : Nat} {zss : List (List Int)} (h : Copied w N zss) (hb : Below w.heap.size w w1) : Copied w1 N zss :=
  ⟨h.outer.of_block (hb.block _ h.outer.lt), fun i hi => (h.inner i hi).of_block (hb.block _ (h.inner i hi).lt)⟩

set_option maxHeartbeats 800000 in
theorem toIntSS (a : Option Addr) (len cap : Nat) (zss : List (List Int)) (w : World) (hr : IntRows w a len zss) (hb : len ≤ 1048576) (hi : ∀ i, i < len → (zss[i]?.getD []).length ≤ 1048576) :
    Calls Tryd.prog 21 #[.slice a len cap] w fun e w' => e = .returned (.slice (some ⟨w.heap.size, 0, none⟩) len len) ∧ Below w.heap.size w w' ∧ Copied w' w.heap.size zss := by
  obtain ⟨hlen, hmost, hcell⟩ := hr
  unfold maxLen at hmost
  have HC := hid hcell
  have HI := hid hi
  have HL := hid hlen
  clear hcell hlen hi
  have hmk := run_make_row' (P := Tryd.prog) 22 36 (.slice none 0 0) 24 Tryd.underlying22 Tryd.info_ints rfl .i64 .i64 len (by omega) (by omega)
  go_enter Tryd.func21, Tryd.ntmps21
  go_wp2
  go_loopw [4] (fun i wr => ∃ k : Nat, k ≤ len ∧ i = .int .i64 k ∧ Below w.heap.size w wr ∧ wr.heap.size = w.heap.size + 1 + k ∧
    wr.rowIs w.heap.size 36 len (fun j => if j < k then .slice (some ⟨w.heap.size + 1 + j, 0, none⟩) (zss[j]?.getD []).length (zss[j]?.getD []).length else .slice none 0 0) ∧
    ∀ j, j < k → wr.rowIs (w.heap.size + 1 + j) 3 (zss[j]?.getD []).length (fun x => .int .i64 ((zss[j]?.getD [])[x]?.getD 0))) (fun i _ => len - (intOf i).toNat)
  case atStart => exact ⟨0, Nat.zero_le _, rfl, (Below.refl _ _).alloc (Nat.le_refl _) _, by simp, (World.rowIs_made w _ len 36).congr (fun j _ => by simp), fun j hj => absurd hj (Nat.not_lt_zero _)⟩
  case round =>
    obtain ⟨k, hk, rfl, hbel, hsz, hrow, hin⟩ := hrel
    have HB := hid hbel
    have HR := hid hrow
    have HS := hid hsz
    have HN := hid hin
    by_cases hlt : k < len
    · obtain ⟨b, off, rfl, a', l', c', hc, hrow'⟩ := HC.out k hlt
      have hc' := keep hbel hc
      have hr' := hrow'.below hbel
      have hl' : l' ≤ 1048576 := by have := HI.out k hlt; rw [hrow'.length] at this; exact this
      have HLL := hid hrow'.length
      have g5 : wr.frozen? ⟨w.heap.size, k, none⟩ = false := hrow.frozen k
      have g4 : wr.cell? ⟨w.heap.size, k, none⟩ = some (.slice none 0 0) := by simpa using hrow.cell hlt
      clear hbel hrow hsz hc hmk hin hrow'
      go_wp2_with fail
      refine (toIntS a' l' c' _ _ hr' hl').mono ?_
      rintro e w2 ⟨rfl, hb2, hs2, hro2⟩
      have g6 : w2.frozen? ⟨w.heap.size, k, none⟩ = false := by rw [hb2.frozen (p := ⟨w.heap.size, k, none⟩) (HR.out.lt)]; exact g5
      have g7 : w2.cell? ⟨w.heap.size, k, none⟩ = some (.slice none 0 0) := keep hb2 g4
      have HB2 := hid hb2
      have HS2 := hid hs2
      have HO2 := hid hro2
      clear hb2 hs2 hro2 g4 g5 hc' hr'
      go_wp2
      go_roundw
      case rel =>
        have hbw : Below w.heap.size w w2 := HB.out.trans (HB2.out.mono (by rw [HS.out]; omega))
        have ew : wr.heap.size = w.heap.size + 1 + k := HS.out
        refine ⟨k + 1, by omega, by go_num, hbw.setCell (Nat.le_refl _) _, by simp [HS2.out, HS.out]; omega, ?_, ?_⟩
        · refine ((HR.out.of_block (HB2.out.block _ HR.out.lt)).set k _).congr (fun j _ => ?_)
          by_cases e : j = k
          · subst e; simp [HLL.out, ew]
          · rw [if_neg e]
            by_cases hj : j < k
            · rw [if_pos hj, if_pos (by omega)]
            · rw [if_neg hj, if_neg (by omega)]
        · intro j hj
          by_cases e : j = k
          · subst e
            have := HO2.out
            rw [ew, ← HLL.out] at this
            exact this.setOther (by show _ ≠ w.heap.size; omega) _
          · have h1 := HN.out j (by omega)
            exact (h1.of_block (HB2.out.block _ h1.lt)).setOther (by show _ ≠ w.heap.size; omega) _
      case measure => simp [intOf]; omega
    · have e : k = len := by omega
      subst e
      clear hbel hrow hsz hmk hin
      go_wp2
      go_ret
      refine ⟨rfl, HB.out, ?_, ?_⟩
      · rw [HL.out]; exact HR.out.congr (fun j hj => by rw [if_pos hj])
      · rw [HL.out]; exact HN.out

theorem take_eq_succ {α : Type} {zs ys : List α} {d : α} {k : Nat} (hz : k < zs.length) (hy : k < ys.length) (h : zs.take k = ys.take k) (e : zs[k]?.getD d = ys[k]?.getD d) : zs.take (k + 1) = ys.take (k + 1) := by
  rw [List.getElem?_eq_getElem hz, List.getElem?_eq_getElem hy] at e
  have e' : zs[k] = ys[k] := by simpa using e
  rw [List.take_succ_eq_append_getElem hz, List.take_succ_eq_append_getElem hy, h, e']
theorem ne_of_getD {α : Type} {zs ys : List α} {d : α} {k : Nat} (e : ¬ zs[k]?.getD d = ys[k]?.getD d) : ¬ zs = ys := fun h => e (by rw [h])

set_option maxHeartbeats 400000 in
theorem eqIntS (a a' : Option Addr) (len len' cap cap' : Nat) (zs ys : List Int) (w : World) (hr : IntRow w a len zs) (hr' : IntRow w a' len' ys) :
    Calls Tryd.prog 17 #[.slice a len cap, .slice a' len' cap'] w fun e w' => e = .returned (.bool (decide (zs = ys))) ∧ ∃ n, w' = w.drewN n := by
  obtain ⟨hlen, hmost, hcell⟩ := hr
  obtain ⟨hlen', hmost', hcell'⟩ := hr'
  unfold maxLen at hmost hmost'
  have HC := hid hcell
  have HC' := hid hcell'
  have HL := hid hlen
  have HL' := hid hlen'
  clear hcell hcell' hlen hlen'
  by_cases hne : len = len'
  · subst hne
    have hb : ((len : Int) != (len : Int)) = false := by simp
    go_enter Tryd.func17, Tryd.ntmps17
    go_wp2
    go_loopw [5] (fun i wr => ∃ k : Nat, k ≤ len ∧ i = .int .i64 k ∧ zs.take k = ys.take k ∧ ∃ n, wr = w.drewN n) (fun i _ => len - (intOf i).toNat)
    case atStart => exact ⟨0, Nat.zero_le _, rfl, rfl, 0, rfl⟩
    case round =>
      obtain ⟨k, hk, rfl, ht, n, hw⟩ := hrel
      have HT := hid ht
      clear ht
      by_cases hlt : k < len
      · obtain ⟨b, off, rfl, hc0⟩ := HC.out k hlt
        obtain ⟨b', off', rfl, hc0'⟩ := HC'.out k hlt
        have hc : wr.cell? ⟨b, off + k, none⟩ = some (.int .i64 (zs[k]?.getD 0)) := by rw [hw]; simpa using hc0
        have hc' : wr.cell? ⟨b', off' + k, none⟩ = some (.int .i64 (ys[k]?.getD 0)) := by rw [hw]; simpa using hc0'
        have HW := hid hw
        clear hw hc0 hc0'
        by_cases he : zs[k]?.getD 0 = ys[k]?.getD 0
        · have hq : (zs[k]?.getD 0 != ys[k]?.getD 0) = false := by simp [he]
          have HE := hid he
          clear he
          go_wp2
          go_quiet (fail)
          go_wp2
          go_roundw
          case rel => exact ⟨k + 1, by omega, by go_num, take_eq_succ (by rw [HL.out]; omega) (by rw [HL'.out]; omega) HT.out HE.out, n + nq, by rw [HW.out, World.drewN_drewN]⟩
          case measure => simp [intOf]; omega
        · have hq : (zs[k]?.getD 0 != ys[k]?.getD 0) = true := by simp [he]
          have HE := hid he
          clear he
          go_wp2
          go_quiet (fail)
          go_wp2
          go_ret
          exact ⟨ret_bool (decide_eq_false (ne_of_getD HE.out)).symm, n + nq, by rw [HW.out, World.drewN_drewN]⟩
      · have e : k = len := by omega
        subst e
        have HW := hid hw
        clear hw
        go_wp2
        go_ret
        refine ⟨ret_bool (decide_eq_true ?_).symm, n, HW.out⟩
        have := HT.out
        rwa [List.take_of_length_le (by rw [HL.out]; omega), List.take_of_length_le (by rw [HL'.out]; omega)] at this
  · have hb : ((len : Int) != (len' : Int)) = true := by simp; omega
    have hd : ¬ zs = ys := fun h => hne (by rw [← HL.out, ← HL'.out, h])
    have HD := hid hd
    clear hd
    go_enter Tryd.func17, Tryd.ntmps17
    go_wp2
    go_ret
    exact ⟨ret_bool (decide_eq_false HD.out).symm, 0, rfl⟩

set_option maxHeartbeats 400000 in
theorem eqIntSS (a a' : Option Addr) (len len' cap cap' : Nat) (zs ys : List (List Int)) (w : World) (hr : IntRows w a len zs) (hr' : IntRows w a' len' ys) :
    Calls Tryd.prog 27 #[.slice a len cap, .slice a' len' cap'] w fun e w' => e = .returned (.bool (decide (zs = ys))) ∧ ∃ n, w' = w.drewN n := by
  obtain ⟨hlen, hmost, hcell⟩ := hr
  obtain ⟨hlen', hmost', hcell'⟩ := hr'
  unfold maxLen at hmost hmost'
  have HC := hid hcell
  have HC' := hid hcell'
  have HL := hid hlen
  have HL' := hid hlen'
  clear hcell hcell' hlen hlen'
  by_cases hne : len = len'
  · subst hne
    have hb : ((len : Int) != (len : Int)) = false := by simp
    go_enter Tryd.func27, Tryd.ntmps27
    go_wp2
    go_loopw [5] (fun i wr => ∃ k : Nat, k ≤ len ∧ i = .int .i64 k ∧ zs.take k = ys.take k ∧ ∃ n, wr = w.drewN n) (fun i _ => len - (intOf i).toNat)
    case atStart => exact ⟨0, Nat.zero_le _, rfl, rfl, 0, rfl⟩
    case round =>
      obtain ⟨k, hk, rfl, ht, n, hw⟩ := hrel
      have HT := hid ht
      clear ht
      by_cases hlt : k < len
      · obtain ⟨b, off, rfl, x, l, c, hc0, hx0⟩ := HC.out k hlt
        obtain ⟨b', off', rfl, x', l', c', hc0', hx0'⟩ := HC'.out k hlt
        have hc : wr.cell? ⟨b, off + k, none⟩ = some (.slice x l c) := by rw [hw]; simpa using hc0
        have hc' : wr.cell? ⟨b', off' + k, none⟩ = some (.slice x' l' c') := by rw [hw]; simpa using hc0'
        have hx : IntRow wr x l (zs[k]?.getD []) := by rw [hw]; exact hx0.drewN n
        have hx' : IntRow wr x' l' (ys[k]?.getD []) := by rw [hw]; exact hx0'.drewN n
        have HW := hid hw
        clear hw hc0 hc0' hx0 hx0'
        by_cases he : zs[k]?.getD [] = ys[k]?.getD []
        · have hq : decide (zs[k]?.getD [] = ys[k]?.getD []) = true := decide_eq_true he
          have HE := hid he
          clear he
          go_wp2
          go_quiet ((go_at_call 17; exact Calls.quiet_of (eqIntS _ _ _ _ _ _ _ _ _ (hx.drewN _) (hx'.drewN _))))
          go_wp2
          go_roundw
          case rel => exact ⟨k + 1, by omega, by go_num, take_eq_succ (by rw [HL.out]; omega) (by rw [HL'.out]; omega) HT.out HE.out, n + nq, by rw [HW.out, World.drewN_drewN]⟩
          case measure => simp [intOf]; omega
        · have hq : decide (zs[k]?.getD [] = ys[k]?.getD []) = false := decide_eq_false he
          have HE := hid he
          clear he
          go_wp2
          go_quiet ((go_at_call 17; exact Calls.quiet_of (eqIntS _ _ _ _ _ _ _ _ _ (hx.drewN _) (hx'.drewN _))))
          go_wp2
          go_ret
          exact ⟨ret_bool (decide_eq_false (ne_of_getD HE.out)).symm, n + nq, by rw [HW.out, World.drewN_drewN]⟩
      · have e : k = len := by omega
        subst e
        have HW := hid hw
        clear hw
        go_wp2
        go_ret
        refine ⟨ret_bool (decide_eq_true ?_).symm, n, HW.out⟩
        have := HT.out
        rwa [List.take_of_length_le (by rw [HL.out]; omega), List.take_of_length_le (by rw [HL'.out]; omega)] at this
  · have hb : ((len : Int) != (len' : Int)) = true := by simp; omega
    have hd : ¬ zs = ys := fun h => hne (by rw [← HL.out, ← HL'.out, h])
    have HD := hid hd
    clear hd
    go_enter Tryd.func27, Tryd.ntmps27
    go_wp2
    go_ret
    exact ⟨ret_bool (decide_eq_false HD.out).symm, 0, rfl⟩
theorem BoolRow.of_rowIs {w : World} {b len : Nat} {zs : List Bool} {t : TypeId} (hl : zs.length = len) (hm : len ≤ maxLen) (h : w.rowIs b t len (fun j => .bool (zs[j]?.getD false))) : BoolRow w (some ⟨b, 0, none⟩) len zs :=
  ⟨hl, hm, fun i hi => ⟨b, 0, rfl, by simpa using h.cell hi⟩⟩
theorem Tryd.info_bool : (Tryd.prog.info? 4).map (fun i => (i.zero, i.size, i.bytes)) = some (some (.bool false), 1, 1) := by kernel_rfl
set_option maxHeartbeats 400000 in
theorem eqBoolS (a a' : Option Addr) (len len' cap cap' : Nat) (zs ys : List Bool) (w : World) (hr : BoolRow w a len zs) (hr' : BoolRow w a' len' ys) :
    Calls Tryd.prog 9 #[.slice a len cap, .slice a' len' cap'] w fun e w' => e = .returned (.bool (decide (zs = ys))) ∧ ∃ n, w' = w.drewN n := by
  obtain ⟨hlen, hmost, hcell⟩ := hr
  obtain ⟨hlen', hmost', hcell'⟩ := hr'
  unfold maxLen at hmost hmost'
  have HC := hid hcell
  have HC' := hid hcell'
  have HL := hid hlen
  have HL' := hid hlen'
  clear hcell hcell' hlen hlen'
  by_cases hne : len = len'
  · subst hne
    have hb : ((len : Int) != (len : Int)) = false := by simp
    go_enter Tryd.func9, Tryd.ntmps9
    go_wp2
    go_loopw [5] (fun i wr => ∃ k : Nat, k ≤ len ∧ i = .int .i64 k ∧ zs.take k = ys.take k ∧ ∃ n, wr = w.drewN n) (fun i _ => len - (intOf i).toNat)
    case atStart => exact ⟨0, Nat.zero_le _, rfl, rfl, 0, rfl⟩
    case round =>
      obtain ⟨k, hk, rfl, ht, n, hw⟩ := hrel
      have HT := hid ht
      clear ht
      by_cases hlt : k < len
      · obtain ⟨b, off, rfl, hc0⟩ := HC.out k hlt
        obtain ⟨b', off', rfl, hc0'⟩ := HC'.out k hlt
        have hc : wr.cell? ⟨b, off + k, none⟩ = some (.bool (zs[k]?.getD false)) := by rw [hw]; simpa using hc0
        have hc' : wr.cell? ⟨b', off' + k, none⟩ = some (.bool (ys[k]?.getD false)) := by rw [hw]; simpa using hc0'
        have HW := hid hw
        clear hw hc0 hc0'
        by_cases he : zs[k]?.getD false = ys[k]?.getD false
        · have hq : (zs[k]?.getD false == ys[k]?.getD false) = true := by simp [he]
          have HE := hid he
          clear he
          go_wp2
          go_quiet (fail)
          go_wp2
          go_roundw
          case rel => exact ⟨k + 1, by omega, by go_num, take_eq_succ (by rw [HL.out]; omega) (by rw [HL'.out]; omega) HT.out HE.out, n + nq, by rw [HW.out, World.drewN_drewN]⟩
          case measure => simp [intOf]; omega
        · have hq : (zs[k]?.getD false == ys[k]?.getD false) = false := by simp [he]
          have HE := hid he
          clear he
          go_wp2
          go_quiet (fail)
          go_wp2
          go_ret
          exact ⟨ret_bool (decide_eq_false (ne_of_getD HE.out)).symm, n + nq, by rw [HW.out, World.drewN_drewN]⟩
      · have e : k = len := by omega
        subst e
        have HW := hid hw
        clear hw
        go_wp2
        go_ret
        refine ⟨ret_bool (decide_eq_true ?_).symm, n, HW.out⟩
        have := HT.out
        rwa [List.take_of_length_le (by rw [HL.out]; omega), List.take_of_length_le (by rw [HL'.out]; omega)] at this
  · have hb : ((len : Int) != (len' : Int)) = true := by simp; omega
    have hd : ¬ zs = ys := fun h => hne (by rw [← HL.out, ← HL'.out, h])
    have HD := hid hd
    clear hd
    go_enter Tryd.func9, Tryd.ntmps9
    go_wp2
    go_ret
    exact ⟨ret_bool (decide_eq_false HD.out).symm, 0, rfl⟩

end Go.Proofs.YtbahjpheaaiamaaDoor.copy
