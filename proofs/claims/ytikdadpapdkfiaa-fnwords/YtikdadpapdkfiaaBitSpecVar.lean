/- The specification's row of bits of a variable; conditions: none. -/
import Derived.Test.YtikdadpapdkfiaaBitSpec
namespace Go.Proofs.Ytikdadpapdkfiaa.bitSpecVar
open Go.RowKit Go.Deep Go base trees built heldStore drawn ownTree ownEx wordTrees wordSpec lessImpl faceImpl bitRows bitPart bitSteps bitPair bitSum bitSumRow bitWord bitSpec
set_option linter.unusedVariables false

set_option maxHeartbeats 1600000 in
theorem bits_var1 (n : Nat) (a : Option Addr) (l c : Nat) (hnb : n * 1 + 1 ≤ 12) (w : World) : Calls Try.prog 27 #[.agg #[.int .i64 2, .int .i64 (n : Int), .slice a l c], .int .i64 1] w fun e w' => ∃ v, e = .returned v ∧ RowV w' 1 (varT n 1) 1 v ∧ Below w.heap.size w w' := by
  obtain ⟨i0, hi0, hz0, hz1, hz2⟩ := info_parts info_ex
  have HI := hid hi0
  have HZ0 := hid hz0
  have HZ1 := hid hz1
  have HZ2 := hid hz2
  clear hi0 hz0 hz1 hz2
  have HG0 := hid (GrowR.made (w.alloc (.cells #[.int .i64 2, .int .i64 (n : Int), .slice a l c] 25)) (B := w.heap.size + 1) (fun _ => False) 0 (varT n 1) (by simp))
  have hz : (w.alloc (.cells #[.int .i64 2, .int .i64 (n : Int), .slice a l c] 25)).heap.size = w.heap.size + 1 := by simp
  rw [hz] at HG0
  clear hz
  go_enter Try.func27, Try.ntmps27
  go_wp2
  go_loopw [7, 5] (fun i v wr => ∃ k : Nat, k ≤ 1 ∧ i = .int .i64 k ∧ Below w.heap.size w wr ∧ wr.cell? ⟨w.heap.size, 1, none⟩ = some (.int .i64 (n : Int)) ∧ GrowR wr (w.heap.size + 1) (fun _ => False) v k 0 (varT n 1)) (fun i _ _ => 1 - (intOf i).toNat)
  case atStart => exact ⟨0, Nat.zero_le _, rfl, (by repeat (first | exact Below.refl _ _ | assumption | refine Below.drew ?_ | refine Below.alloc ?_ (by first | exact Nat.le_refl _ | omega | (simp; done) | (simp; omega)) _ | refine Below.setCell ?_ (by first | exact Nat.le_refl _ | omega | (simp; done) | (simp; omega)) _)), by simp [go_sem], HG0.out⟩
  case round =>
    clear HG0
    obtain ⟨k, hk, rfl, hb, f1, hgr⟩ := hrel
    have HB := hid hb
    have HG := hid hgr
    have hsN : w.heap.size < wr.heap.size := World.block_lt_of_cell? _ _ f1
    clear hb hgr
    by_cases hlt : k < 1
    · have HA1 : Hid (Below wr.heap.size wr (wr.alloc (.cells #[.int .i64 1, .int .i64 ((n : Int) + (k : Int)), .slice none 0 0] 39))) := (by repeat (first | exact Below.refl _ _ | assumption | refine Below.drew ?_ | refine Below.alloc ?_ (by first | exact Nat.le_refl _ | omega | (simp; done) | (simp; omega)) _ | refine Below.setCell ?_ (by first | exact Nat.le_refl _ | omega | (simp; done) | (simp; omega)) _))
      obtain ⟨xs, hxs⟩ := (HG.out.below HA1.out).owns
      have HX1 := hid hxs
      have hsz := HB.out.size
      clear hxs
      go_wp2_with (at_builtin; (refine wpList_append_own_at _ rfl _ _ 32 rfl (w.heap.size + 1) 39 i0 _ 3 40 Try.underlying32 HI.out HZ0.out HZ1.out HZ2.out rfl (by decide) _ _ _ rfl HX1.out ⟨wr.heap.size, 0, none⟩ 1 1 [.int .i64 1, .int .i64 ((n : Int) + (k : Int)), .slice none 0 0] rfl rfl (three_at (by simp [go_sem]) (by simp [go_sem]) (by simp [go_sem])) (fun u hu => by simp at hu; rcases hu with rfl | rfl | rfl <;> rfl) (by unfold maxLen; omega) (by omega) (by simp; omega) ?_); intro v2 w2 hown2 hg2 hnil2 hat2)
      have HG2 := hid ((HG.out.below HA1.out).next (a' := none) (l' := 0) (c' := 0) (by simp; omega) (rd_leaf _ _ _ rfl _) HX1.out (by
        have e1 : nn (kid (varT n 1) k) = (n : Int) + (k : Int) := by show ((n * 1 + k : Nat) : Int) = _; omega
        rw [e1]; exact hown2) hg2 hat2)
      have HB2 : Hid (Below w.heap.size w w2) := (HB.out.trans (HA1.out.mono HB.out.size)).grown hg2 (by simp; omega) (fun j hj => by have := (World.ownsRow.lt HX1.out j hj).1; omega)
      have f2 : w2.cell? ⟨w.heap.size, 1, none⟩ = some (.int .i64 (n : Int)) := (World.grownBy.cell hg2 (keep HA1.out f1) (fun e => by have := (World.ownsRow.lt HX1.out _ e.symm).1; dsimp only at this; omega))
      clear hown2 hg2 hnil2 hat2 f1
      go_wp2
      exact ⟨⟨k + 1, by omega, by go_num, HB2.out, f2, HG2.out⟩, by simp [intOf]; omega⟩
    · have e : k = 1 := by omega
      subst e
      obtain ⟨a2, c2, e2, hc2, ho2⟩ := HG.out.done rfl (by omega)
      subst e2
      have HO2 := hid ho2
      clear ho2
      go_wp2
      go_ret
      exact ⟨_, rfl, ⟨a2, c2, rfl, HO2.out.imp fun _ _ => trivial⟩, HB.out⟩
set_option maxHeartbeats 1600000 in
theorem bits_var2 (n : Nat) (a : Option Addr) (l c : Nat) (hnb : n * 2 + 2 ≤ 12) (w : World) : Calls Try.prog 27 #[.agg #[.int .i64 2, .int .i64 (n : Int), .slice a l c], .int .i64 2] w fun e w' => ∃ v, e = .returned v ∧ RowV w' 1 (varT n 2) 2 v ∧ Below w.heap.size w w' := by
  obtain ⟨i0, hi0, hz0, hz1, hz2⟩ := info_parts info_ex
  have HI := hid hi0
  have HZ0 := hid hz0
  have HZ1 := hid hz1
  have HZ2 := hid hz2
  clear hi0 hz0 hz1 hz2
  have HG0 := hid (GrowR.made (w.alloc (.cells #[.int .i64 2, .int .i64 (n : Int), .slice a l c] 25)) (B := w.heap.size + 1) (fun _ => False) 0 (varT n 2) (by simp))
  have hz : (w.alloc (.cells #[.int .i64 2, .int .i64 (n : Int), .slice a l c] 25)).heap.size = w.heap.size + 1 := by simp
  rw [hz] at HG0
  clear hz
  go_enter Try.func27, Try.ntmps27
  go_wp2
  go_loopw [7, 5] (fun i v wr => ∃ k : Nat, k ≤ 2 ∧ i = .int .i64 k ∧ Below w.heap.size w wr ∧ wr.cell? ⟨w.heap.size, 1, none⟩ = some (.int .i64 (n : Int)) ∧ GrowR wr (w.heap.size + 1) (fun _ => False) v k 0 (varT n 2)) (fun i _ _ => 2 - (intOf i).toNat)
  case atStart => exact ⟨0, Nat.zero_le _, rfl, (by repeat (first | exact Below.refl _ _ | assumption | refine Below.drew ?_ | refine Below.alloc ?_ (by first | exact Nat.le_refl _ | omega | (simp; done) | (simp; omega)) _ | refine Below.setCell ?_ (by first | exact Nat.le_refl _ | omega | (simp; done) | (simp; omega)) _)), by simp [go_sem], HG0.out⟩
  case round =>
    clear HG0
    obtain ⟨k, hk, rfl, hb, f1, hgr⟩ := hrel
    have HB := hid hb
    have HG := hid hgr
    have hsN : w.heap.size < wr.heap.size := World.block_lt_of_cell? _ _ f1
    clear hb hgr
    by_cases hlt : k < 2
    · have HA1 : Hid (Below wr.heap.size wr (wr.alloc (.cells #[.int .i64 1, .int .i64 ((n : Int) * 2 + (k : Int)), .slice none 0 0] 39))) := (by repeat (first | exact Below.refl _ _ | assumption | refine Below.drew ?_ | refine Below.alloc ?_ (by first | exact Nat.le_refl _ | omega | (simp; done) | (simp; omega)) _ | refine Below.setCell ?_ (by first | exact Nat.le_refl _ | omega | (simp; done) | (simp; omega)) _))
      obtain ⟨xs, hxs⟩ := (HG.out.below HA1.out).owns
      have HX1 := hid hxs
      have hsz := HB.out.size
      clear hxs
      go_wp2_with (at_builtin; (refine wpList_append_own_at _ rfl _ _ 32 rfl (w.heap.size + 1) 39 i0 _ 3 40 Try.underlying32 HI.out HZ0.out HZ1.out HZ2.out rfl (by decide) _ _ _ rfl HX1.out ⟨wr.heap.size, 0, none⟩ 1 1 [.int .i64 1, .int .i64 ((n : Int) * 2 + (k : Int)), .slice none 0 0] rfl rfl (three_at (by simp [go_sem]) (by simp [go_sem]) (by simp [go_sem])) (fun u hu => by simp at hu; rcases hu with rfl | rfl | rfl <;> rfl) (by unfold maxLen; omega) (by omega) (by simp; omega) ?_); intro v2 w2 hown2 hg2 hnil2 hat2)
      have HG2 := hid ((HG.out.below HA1.out).next (a' := none) (l' := 0) (c' := 0) (by simp; omega) (rd_leaf _ _ _ rfl _) HX1.out (by
        have e1 : nn (kid (varT n 2) k) = (n : Int) * 2 + (k : Int) := by show ((n * 2 + k : Nat) : Int) = _; omega
        rw [e1]; exact hown2) hg2 hat2)
      have HB2 : Hid (Below w.heap.size w w2) := (HB.out.trans (HA1.out.mono HB.out.size)).grown hg2 (by simp; omega) (fun j hj => by have := (World.ownsRow.lt HX1.out j hj).1; omega)
      have f2 : w2.cell? ⟨w.heap.size, 1, none⟩ = some (.int .i64 (n : Int)) := (World.grownBy.cell hg2 (keep HA1.out f1) (fun e => by have := (World.ownsRow.lt HX1.out _ e.symm).1; dsimp only at this; omega))
      clear hown2 hg2 hnil2 hat2 f1
      go_wp2
      exact ⟨⟨k + 1, by omega, by go_num, HB2.out, f2, HG2.out⟩, by simp [intOf]; omega⟩
    · have e : k = 2 := by omega
      subst e
      obtain ⟨a2, c2, e2, hc2, ho2⟩ := HG.out.done rfl (by omega)
      subst e2
      have HO2 := hid ho2
      clear ho2
      go_wp2
      go_ret
      exact ⟨_, rfl, ⟨a2, c2, rfl, HO2.out.imp fun _ _ => trivial⟩, HB.out⟩
set_option maxHeartbeats 1600000 in
theorem bits_var3 (n : Nat) (a : Option Addr) (l c : Nat) (hnb : n * 3 + 3 ≤ 12) (w : World) : Calls Try.prog 27 #[.agg #[.int .i64 2, .int .i64 (n : Int), .slice a l c], .int .i64 3] w fun e w' => ∃ v, e = .returned v ∧ RowV w' 1 (varT n 3) 3 v ∧ Below w.heap.size w w' := by
  obtain ⟨i0, hi0, hz0, hz1, hz2⟩ := info_parts info_ex
  have HI := hid hi0
  have HZ0 := hid hz0
  have HZ1 := hid hz1
  have HZ2 := hid hz2
  clear hi0 hz0 hz1 hz2
  have HG0 := hid (GrowR.made (w.alloc (.cells #[.int .i64 2, .int .i64 (n : Int), .slice a l c] 25)) (B := w.heap.size + 1) (fun _ => False) 0 (varT n 3) (by simp))
  have hz : (w.alloc (.cells #[.int .i64 2, .int .i64 (n : Int), .slice a l c] 25)).heap.size = w.heap.size + 1 := by simp
  rw [hz] at HG0
  clear hz
  go_enter Try.func27, Try.ntmps27
  go_wp2
  go_loopw [7, 5] (fun i v wr => ∃ k : Nat, k ≤ 3 ∧ i = .int .i64 k ∧ Below w.heap.size w wr ∧ wr.cell? ⟨w.heap.size, 1, none⟩ = some (.int .i64 (n : Int)) ∧ GrowR wr (w.heap.size + 1) (fun _ => False) v k 0 (varT n 3)) (fun i _ _ => 3 - (intOf i).toNat)
  case atStart => exact ⟨0, Nat.zero_le _, rfl, (by repeat (first | exact Below.refl _ _ | assumption | refine Below.drew ?_ | refine Below.alloc ?_ (by first | exact Nat.le_refl _ | omega | (simp; done) | (simp; omega)) _ | refine Below.setCell ?_ (by first | exact Nat.le_refl _ | omega | (simp; done) | (simp; omega)) _)), by simp [go_sem], HG0.out⟩
  case round =>
    clear HG0
    obtain ⟨k, hk, rfl, hb, f1, hgr⟩ := hrel
    have HB := hid hb
    have HG := hid hgr
    have hsN : w.heap.size < wr.heap.size := World.block_lt_of_cell? _ _ f1
    clear hb hgr
    by_cases hlt : k < 3
    · have HA1 : Hid (Below wr.heap.size wr (wr.alloc (.cells #[.int .i64 1, .int .i64 ((n : Int) * 3 + (k : Int)), .slice none 0 0] 39))) := (by repeat (first | exact Below.refl _ _ | assumption | refine Below.drew ?_ | refine Below.alloc ?_ (by first | exact Nat.le_refl _ | omega | (simp; done) | (simp; omega)) _ | refine Below.setCell ?_ (by first | exact Nat.le_refl _ | omega | (simp; done) | (simp; omega)) _))
      obtain ⟨xs, hxs⟩ := (HG.out.below HA1.out).owns
      have HX1 := hid hxs
      have hsz := HB.out.size
      clear hxs
      go_wp2_with (at_builtin; (refine wpList_append_own_at _ rfl _ _ 32 rfl (w.heap.size + 1) 39 i0 _ 3 40 Try.underlying32 HI.out HZ0.out HZ1.out HZ2.out rfl (by decide) _ _ _ rfl HX1.out ⟨wr.heap.size, 0, none⟩ 1 1 [.int .i64 1, .int .i64 ((n : Int) * 3 + (k : Int)), .slice none 0 0] rfl rfl (three_at (by simp [go_sem]) (by simp [go_sem]) (by simp [go_sem])) (fun u hu => by simp at hu; rcases hu with rfl | rfl | rfl <;> rfl) (by unfold maxLen; omega) (by omega) (by simp; omega) ?_); intro v2 w2 hown2 hg2 hnil2 hat2)
      have HG2 := hid ((HG.out.below HA1.out).next (a' := none) (l' := 0) (c' := 0) (by simp; omega) (rd_leaf _ _ _ rfl _) HX1.out (by
        have e1 : nn (kid (varT n 3) k) = (n : Int) * 3 + (k : Int) := by show ((n * 3 + k : Nat) : Int) = _; omega
        rw [e1]; exact hown2) hg2 hat2)
      have HB2 : Hid (Below w.heap.size w w2) := (HB.out.trans (HA1.out.mono HB.out.size)).grown hg2 (by simp; omega) (fun j hj => by have := (World.ownsRow.lt HX1.out j hj).1; omega)
      have f2 : w2.cell? ⟨w.heap.size, 1, none⟩ = some (.int .i64 (n : Int)) := (World.grownBy.cell hg2 (keep HA1.out f1) (fun e => by have := (World.ownsRow.lt HX1.out _ e.symm).1; dsimp only at this; omega))
      clear hown2 hg2 hnil2 hat2 f1
      go_wp2
      exact ⟨⟨k + 1, by omega, by go_num, HB2.out, f2, HG2.out⟩, by simp [intOf]; omega⟩
    · have e : k = 3 := by omega
      subst e
      obtain ⟨a2, c2, e2, hc2, ho2⟩ := HG.out.done rfl (by omega)
      subst e2
      have HO2 := hid ho2
      clear ho2
      go_wp2
      go_ret
      exact ⟨_, rfl, ⟨a2, c2, rfl, HO2.out.imp fun _ _ => trivial⟩, HB.out⟩
set_option maxHeartbeats 1600000 in
theorem bits_var4 (n : Nat) (a : Option Addr) (l c : Nat) (hnb : n * 4 + 4 ≤ 12) (w : World) : Calls Try.prog 27 #[.agg #[.int .i64 2, .int .i64 (n : Int), .slice a l c], .int .i64 4] w fun e w' => ∃ v, e = .returned v ∧ RowV w' 1 (varT n 4) 4 v ∧ Below w.heap.size w w' := by
  obtain ⟨i0, hi0, hz0, hz1, hz2⟩ := info_parts info_ex
  have HI := hid hi0
  have HZ0 := hid hz0
  have HZ1 := hid hz1
  have HZ2 := hid hz2
  clear hi0 hz0 hz1 hz2
  have HG0 := hid (GrowR.made (w.alloc (.cells #[.int .i64 2, .int .i64 (n : Int), .slice a l c] 25)) (B := w.heap.size + 1) (fun _ => False) 0 (varT n 4) (by simp))
  have hz : (w.alloc (.cells #[.int .i64 2, .int .i64 (n : Int), .slice a l c] 25)).heap.size = w.heap.size + 1 := by simp
  rw [hz] at HG0
  clear hz
  go_enter Try.func27, Try.ntmps27
  go_wp2
  go_loopw [7, 5] (fun i v wr => ∃ k : Nat, k ≤ 4 ∧ i = .int .i64 k ∧ Below w.heap.size w wr ∧ wr.cell? ⟨w.heap.size, 1, none⟩ = some (.int .i64 (n : Int)) ∧ GrowR wr (w.heap.size + 1) (fun _ => False) v k 0 (varT n 4)) (fun i _ _ => 4 - (intOf i).toNat)
  case atStart => exact ⟨0, Nat.zero_le _, rfl, (by repeat (first | exact Below.refl _ _ | assumption | refine Below.drew ?_ | refine Below.alloc ?_ (by first | exact Nat.le_refl _ | omega | (simp; done) | (simp; omega)) _ | refine Below.setCell ?_ (by first | exact Nat.le_refl _ | omega | (simp; done) | (simp; omega)) _)), by simp [go_sem], HG0.out⟩
  case round =>
    clear HG0
    obtain ⟨k, hk, rfl, hb, f1, hgr⟩ := hrel
    have HB := hid hb
    have HG := hid hgr
    have hsN : w.heap.size < wr.heap.size := World.block_lt_of_cell? _ _ f1
    clear hb hgr
    by_cases hlt : k < 4
    · have HA1 : Hid (Below wr.heap.size wr (wr.alloc (.cells #[.int .i64 1, .int .i64 ((n : Int) * 4 + (k : Int)), .slice none 0 0] 39))) := (by repeat (first | exact Below.refl _ _ | assumption | refine Below.drew ?_ | refine Below.alloc ?_ (by first | exact Nat.le_refl _ | omega | (simp; done) | (simp; omega)) _ | refine Below.setCell ?_ (by first | exact Nat.le_refl _ | omega | (simp; done) | (simp; omega)) _))
      obtain ⟨xs, hxs⟩ := (HG.out.below HA1.out).owns
      have HX1 := hid hxs
      have hsz := HB.out.size
      clear hxs
      go_wp2_with (at_builtin; (refine wpList_append_own_at _ rfl _ _ 32 rfl (w.heap.size + 1) 39 i0 _ 3 40 Try.underlying32 HI.out HZ0.out HZ1.out HZ2.out rfl (by decide) _ _ _ rfl HX1.out ⟨wr.heap.size, 0, none⟩ 1 1 [.int .i64 1, .int .i64 ((n : Int) * 4 + (k : Int)), .slice none 0 0] rfl rfl (three_at (by simp [go_sem]) (by simp [go_sem]) (by simp [go_sem])) (fun u hu => by simp at hu; rcases hu with rfl | rfl | rfl <;> rfl) (by unfold maxLen; omega) (by omega) (by simp; omega) ?_); intro v2 w2 hown2 hg2 hnil2 hat2)
      have HG2 := hid ((HG.out.below HA1.out).next (a' := none) (l' := 0) (c' := 0) (by simp; omega) (rd_leaf _ _ _ rfl _) HX1.out (by
        have e1 : nn (kid (varT n 4) k) = (n : Int) * 4 + (k : Int) := by show ((n * 4 + k : Nat) : Int) = _; omega
        rw [e1]; exact hown2) hg2 hat2)
      have HB2 : Hid (Below w.heap.size w w2) := (HB.out.trans (HA1.out.mono HB.out.size)).grown hg2 (by simp; omega) (fun j hj => by have := (World.ownsRow.lt HX1.out j hj).1; omega)
      have f2 : w2.cell? ⟨w.heap.size, 1, none⟩ = some (.int .i64 (n : Int)) := (World.grownBy.cell hg2 (keep HA1.out f1) (fun e => by have := (World.ownsRow.lt HX1.out _ e.symm).1; dsimp only at this; omega))
      clear hown2 hg2 hnil2 hat2 f1
      go_wp2
      exact ⟨⟨k + 1, by omega, by go_num, HB2.out, f2, HG2.out⟩, by simp [intOf]; omega⟩
    · have e : k = 4 := by omega
      subst e
      obtain ⟨a2, c2, e2, hc2, ho2⟩ := HG.out.done rfl (by omega)
      subst e2
      have HO2 := hid ho2
      clear ho2
      go_wp2
      go_ret
      exact ⟨_, rfl, ⟨a2, c2, rfl, HO2.out.imp fun _ _ => trivial⟩, HB.out⟩
set_option maxHeartbeats 1600000 in
theorem bits_var5 (n : Nat) (a : Option Addr) (l c : Nat) (hnb : n * 5 + 5 ≤ 12) (w : World) : Calls Try.prog 27 #[.agg #[.int .i64 2, .int .i64 (n : Int), .slice a l c], .int .i64 5] w fun e w' => ∃ v, e = .returned v ∧ RowV w' 1 (varT n 5) 5 v ∧ Below w.heap.size w w' := by
  obtain ⟨i0, hi0, hz0, hz1, hz2⟩ := info_parts info_ex
  have HI := hid hi0
  have HZ0 := hid hz0
  have HZ1 := hid hz1
  have HZ2 := hid hz2
  clear hi0 hz0 hz1 hz2
  have HG0 := hid (GrowR.made (w.alloc (.cells #[.int .i64 2, .int .i64 (n : Int), .slice a l c] 25)) (B := w.heap.size + 1) (fun _ => False) 0 (varT n 5) (by simp))
  have hz : (w.alloc (.cells #[.int .i64 2, .int .i64 (n : Int), .slice a l c] 25)).heap.size = w.heap.size + 1 := by simp
  rw [hz] at HG0
  clear hz
  go_enter Try.func27, Try.ntmps27
  go_wp2
  go_loopw [7, 5] (fun i v wr => ∃ k : Nat, k ≤ 5 ∧ i = .int .i64 k ∧ Below w.heap.size w wr ∧ wr.cell? ⟨w.heap.size, 1, none⟩ = some (.int .i64 (n : Int)) ∧ GrowR wr (w.heap.size + 1) (fun _ => False) v k 0 (varT n 5)) (fun i _ _ => 5 - (intOf i).toNat)
  case atStart => exact ⟨0, Nat.zero_le _, rfl, (by repeat (first | exact Below.refl _ _ | assumption | refine Below.drew ?_ | refine Below.alloc ?_ (by first | exact Nat.le_refl _ | omega | (simp; done) | (simp; omega)) _ | refine Below.setCell ?_ (by first | exact Nat.le_refl _ | omega | (simp; done) | (simp; omega)) _)), by simp [go_sem], HG0.out⟩
  case round =>
    clear HG0
    obtain ⟨k, hk, rfl, hb, f1, hgr⟩ := hrel
    have HB := hid hb
    have HG := hid hgr
    have hsN : w.heap.size < wr.heap.size := World.block_lt_of_cell? _ _ f1
    clear hb hgr
    by_cases hlt : k < 5
    · have HA1 : Hid (Below wr.heap.size wr (wr.alloc (.cells #[.int .i64 1, .int .i64 ((n : Int) * 5 + (k : Int)), .slice none 0 0] 39))) := (by repeat (first | exact Below.refl _ _ | assumption | refine Below.drew ?_ | refine Below.alloc ?_ (by first | exact Nat.le_refl _ | omega | (simp; done) | (simp; omega)) _ | refine Below.setCell ?_ (by first | exact Nat.le_refl _ | omega | (simp; done) | (simp; omega)) _))
      obtain ⟨xs, hxs⟩ := (HG.out.below HA1.out).owns
      have HX1 := hid hxs
      have hsz := HB.out.size
      clear hxs
      go_wp2_with (at_builtin; (refine wpList_append_own_at _ rfl _ _ 32 rfl (w.heap.size + 1) 39 i0 _ 3 40 Try.underlying32 HI.out HZ0.out HZ1.out HZ2.out rfl (by decide) _ _ _ rfl HX1.out ⟨wr.heap.size, 0, none⟩ 1 1 [.int .i64 1, .int .i64 ((n : Int) * 5 + (k : Int)), .slice none 0 0] rfl rfl (three_at (by simp [go_sem]) (by simp [go_sem]) (by simp [go_sem])) (fun u hu => by simp at hu; rcases hu with rfl | rfl | rfl <;> rfl) (by unfold maxLen; omega) (by omega) (by simp; omega) ?_); intro v2 w2 hown2 hg2 hnil2 hat2)
      have HG2 := hid ((HG.out.below HA1.out).next (a' := none) (l' := 0) (c' := 0) (by simp; omega) (rd_leaf _ _ _ rfl _) HX1.out (by
        have e1 : nn (kid (varT n 5) k) = (n : Int) * 5 + (k : Int) := by show ((n * 5 + k : Nat) : Int) = _; omega
        rw [e1]; exact hown2) hg2 hat2)
      have HB2 : Hid (Below w.heap.size w w2) := (HB.out.trans (HA1.out.mono HB.out.size)).grown hg2 (by simp; omega) (fun j hj => by have := (World.ownsRow.lt HX1.out j hj).1; omega)
      have f2 : w2.cell? ⟨w.heap.size, 1, none⟩ = some (.int .i64 (n : Int)) := (World.grownBy.cell hg2 (keep HA1.out f1) (fun e => by have := (World.ownsRow.lt HX1.out _ e.symm).1; dsimp only at this; omega))
      clear hown2 hg2 hnil2 hat2 f1
      go_wp2
      exact ⟨⟨k + 1, by omega, by go_num, HB2.out, f2, HG2.out⟩, by simp [intOf]; omega⟩
    · have e : k = 5 := by omega
      subst e
      obtain ⟨a2, c2, e2, hc2, ho2⟩ := HG.out.done rfl (by omega)
      subst e2
      have HO2 := hid ho2
      clear ho2
      go_wp2
      go_ret
      exact ⟨_, rfl, ⟨a2, c2, rfl, HO2.out.imp fun _ _ => trivial⟩, HB.out⟩
set_option maxHeartbeats 1600000 in
theorem bits_var6 (n : Nat) (a : Option Addr) (l c : Nat) (hnb : n * 6 + 6 ≤ 12) (w : World) : Calls Try.prog 27 #[.agg #[.int .i64 2, .int .i64 (n : Int), .slice a l c], .int .i64 6] w fun e w' => ∃ v, e = .returned v ∧ RowV w' 1 (varT n 6) 6 v ∧ Below w.heap.size w w' := by
  obtain ⟨i0, hi0, hz0, hz1, hz2⟩ := info_parts info_ex
  have HI := hid hi0
  have HZ0 := hid hz0
  have HZ1 := hid hz1
  have HZ2 := hid hz2
  clear hi0 hz0 hz1 hz2
  have HG0 := hid (GrowR.made (w.alloc (.cells #[.int .i64 2, .int .i64 (n : Int), .slice a l c] 25)) (B := w.heap.size + 1) (fun _ => False) 0 (varT n 6) (by simp))
  have hz : (w.alloc (.cells #[.int .i64 2, .int .i64 (n : Int), .slice a l c] 25)).heap.size = w.heap.size + 1 := by simp
  rw [hz] at HG0
  clear hz
  go_enter Try.func27, Try.ntmps27
  go_wp2
  go_loopw [7, 5] (fun i v wr => ∃ k : Nat, k ≤ 6 ∧ i = .int .i64 k ∧ Below w.heap.size w wr ∧ wr.cell? ⟨w.heap.size, 1, none⟩ = some (.int .i64 (n : Int)) ∧ GrowR wr (w.heap.size + 1) (fun _ => False) v k 0 (varT n 6)) (fun i _ _ => 6 - (intOf i).toNat)
  case atStart => exact ⟨0, Nat.zero_le _, rfl, (by repeat (first | exact Below.refl _ _ | assumption | refine Below.drew ?_ | refine Below.alloc ?_ (by first | exact Nat.le_refl _ | omega | (simp; done) | (simp; omega)) _ | refine Below.setCell ?_ (by first | exact Nat.le_refl _ | omega | (simp; done) | (simp; omega)) _)), by simp [go_sem], HG0.out⟩
  case round =>
    clear HG0
    obtain ⟨k, hk, rfl, hb, f1, hgr⟩ := hrel
    have HB := hid hb
    have HG := hid hgr
    have hsN : w.heap.size < wr.heap.size := World.block_lt_of_cell? _ _ f1
    clear hb hgr
    by_cases hlt : k < 6
    · have HA1 : Hid (Below wr.heap.size wr (wr.alloc (.cells #[.int .i64 1, .int .i64 ((n : Int) * 6 + (k : Int)), .slice none 0 0] 39))) := (by repeat (first | exact Below.refl _ _ | assumption | refine Below.drew ?_ | refine Below.alloc ?_ (by first | exact Nat.le_refl _ | omega | (simp; done) | (simp; omega)) _ | refine Below.setCell ?_ (by first | exact Nat.le_refl _ | omega | (simp; done) | (simp; omega)) _))
      obtain ⟨xs, hxs⟩ := (HG.out.below HA1.out).owns
      have HX1 := hid hxs
      have hsz := HB.out.size
      clear hxs
      go_wp2_with (at_builtin; (refine wpList_append_own_at _ rfl _ _ 32 rfl (w.heap.size + 1) 39 i0 _ 3 40 Try.underlying32 HI.out HZ0.out HZ1.out HZ2.out rfl (by decide) _ _ _ rfl HX1.out ⟨wr.heap.size, 0, none⟩ 1 1 [.int .i64 1, .int .i64 ((n : Int) * 6 + (k : Int)), .slice none 0 0] rfl rfl (three_at (by simp [go_sem]) (by simp [go_sem]) (by simp [go_sem])) (fun u hu => by simp at hu; rcases hu with rfl | rfl | rfl <;> rfl) (by unfold maxLen; omega) (by omega) (by simp; omega) ?_); intro v2 w2 hown2 hg2 hnil2 hat2)
      have HG2 := hid ((HG.out.below HA1.out).next (a' := none) (l' := 0) (c' := 0) (by simp; omega) (rd_leaf _ _ _ rfl _) HX1.out (by
        have e1 : nn (kid (varT n 6) k) = (n : Int) * 6 + (k : Int) := by show ((n * 6 + k : Nat) : Int) = _; omega
        rw [e1]; exact hown2) hg2 hat2)
      have HB2 : Hid (Below w.heap.size w w2) := (HB.out.trans (HA1.out.mono HB.out.size)).grown hg2 (by simp; omega) (fun j hj => by have := (World.ownsRow.lt HX1.out j hj).1; omega)
      have f2 : w2.cell? ⟨w.heap.size, 1, none⟩ = some (.int .i64 (n : Int)) := (World.grownBy.cell hg2 (keep HA1.out f1) (fun e => by have := (World.ownsRow.lt HX1.out _ e.symm).1; dsimp only at this; omega))
      clear hown2 hg2 hnil2 hat2 f1
      go_wp2
      exact ⟨⟨k + 1, by omega, by go_num, HB2.out, f2, HG2.out⟩, by simp [intOf]; omega⟩
    · have e : k = 6 := by omega
      subst e
      obtain ⟨a2, c2, e2, hc2, ho2⟩ := HG.out.done rfl (by omega)
      subst e2
      have HO2 := hid ho2
      clear ho2
      go_wp2
      go_ret
      exact ⟨_, rfl, ⟨a2, c2, rfl, HO2.out.imp fun _ _ => trivial⟩, HB.out⟩
theorem bits_var (n b : Nat) (hb1 : 1 ≤ b) (hb2 : b ≤ 6) (a : Option Addr) (l c : Nat) (hnb : n * b + b ≤ 12) (w : World) : Calls Try.prog 27 #[.agg #[.int .i64 2, .int .i64 (n : Int), .slice a l c], .int .i64 (b : Int)] w fun e w' => ∃ v, e = .returned v ∧ RowV w' 1 (varT n b) b v ∧ Below w.heap.size w w' := by
  rcases bits_cases hb1 hb2 with rfl | rfl | rfl | rfl | rfl | rfl
  · exact bits_var1 n a l c hnb w
  · exact bits_var2 n a l c hnb w
  · exact bits_var3 n a l c hnb w
  · exact bits_var4 n a l c hnb w
  · exact bits_var5 n a l c hnb w
  · exact bits_var6 n a l c hnb w
end Go.Proofs.Ytikdadpapdkfiaa.bitSpecVar
