/- What an import does and when, of the program: readDeed; conditions: the words of a right deed. -/
import Derived.Test.YtffacjebnbplaaaGreatDoorReadFilter
import Derived.Test.YtffacjebnbplaaaGreatDoorNetDeed
namespace Go.Proofs.YtffacjebnbplaaaGreatDoor.readDeed
open Go.RowKit Go.Deep Go base heldStore drawn drawnSrc drawnMk netSem netLines netBytes netImpl netDeed askWords askSem readMath readNew readMem readSmall readAdd readLink
set_option linter.unusedVariables false
theorem cell_in {w : World} {b : Nat} {cs : Array Value} {T : TypeId} {fr : Nat × Nat} (hb : w.heap[b]? = some (.cells cs T fr)) (j : Nat) : w.cell? ⟨b, j, none⟩ = cs[j]? := by
  simp [World.cell?, hb]
theorem frozen_in {w : World} {b : Nat} {cs : Array Value} {T : TypeId} (hb : w.heap[b]? = some (.cells cs T (0, 0))) (j : Nat) : w.frozen? ⟨b, j, none⟩ = false := by
  simp [World.frozen?, hb]
theorem put_at {P o : Nat} {w : World} {xs : Array Value} {t : TypeId} (v : Value) (hP : w.heap[P]? = some (.cells xs t (0, 0))) : (w.setCell ⟨P, o, none⟩ v).heap[P]? = some (.cells (xs.setIfInBounds o v) t (0, 0)) := heap_setCell_same w P o _ _ _ hP
theorem when_at {h : Nat} (h1 : 1 ≤ h) (h2 : h ≤ 2) : nameAt whenN 3 (whenN h) = h := by
  obtain rfl | rfl : h = 1 ∨ h = 2 := by omega
  · refine firstAt_hit (by omega) (decide_eq_true rfl) fun i hi => ?_
    obtain rfl : i = 0 := by omega
    simp [same, numbers.toList_data, whenN]
  · refine firstAt_hit (by omega) (decide_eq_true rfl) fun i hi => ?_
    obtain rfl | rfl : i = 0 ∨ i = 1 := by omega
    all_goals simp [same, numbers.toList_data, whenN]
theorem do_at {d : Nat} (h1 : 1 ≤ d) (h2 : d ≤ 4) : nameAt doN 5 (doN d) = d := by
  obtain rfl | rfl | rfl | rfl : d = 1 ∨ d = 2 ∨ d = 3 ∨ d = 4 := by omega
  all_goals
    refine firstAt_hit (by omega) (decide_eq_true rfl) fun i hi => ?_
  · obtain rfl : i = 0 := by omega
    simp [same, numbers.toList_data, doN]
  · obtain rfl | rfl : i = 0 ∨ i = 1 := by omega
    all_goals simp [same, numbers.toList_data, doN]
  · obtain rfl | rfl | rfl : i = 0 ∨ i = 1 ∨ i = 2 := by omega
    all_goals simp [same, numbers.toList_data, doN]
  · obtain rfl | rfl | rfl | rfl : i = 0 ∨ i = 1 ∨ i = 2 ∨ i = 3 := by omega
    all_goals simp [same, numbers.toList_data, doN]
theorem when_size (h : Nat) : (whenN h).size ≤ 10 := by unfold whenN; (repeat' split) <;> decide
theorem do_size (h : Nat) : (doN h).size ≤ 10 := by unfold doN; (repeat' split) <;> decide
theorem index_when {N h : Nat} (w : World) (hc : ∀ i, i < 3 → w.cell? ⟨N, i, none⟩ = some (.string (whenN i))) (h1 : 1 ≤ h) (h2 : h ≤ 2) :
    Calls Tryz.prog 75 #[.slice (some ⟨N, 0, none⟩) 3 3, .string (whenN h)] w fun e w' => e = .returned (.int .i64 h) ∧ w' = w := by
  have h3 := index_str (some ⟨N, 0, none⟩) 3 3 whenN (whenN h) w ⟨by decide, fun i _ => Nat.le_trans (when_size i) (by decide), fun i hi => ⟨N, 0, rfl, by rw [Nat.zero_add]; exact hc i hi⟩⟩
  rw [when_at h1 h2] at h3
  exact h3
theorem index_do {N d : Nat} (w : World) (hc : ∀ i, i < 5 → w.cell? ⟨N, i, none⟩ = some (.string (doN i))) (h1 : 1 ≤ d) (h2 : d ≤ 4) :
    Calls Tryz.prog 75 #[.slice (some ⟨N, 0, none⟩) 5 5, .string (doN d)] w fun e w' => e = .returned (.int .i64 d) ∧ w' = w := by
  have h3 := index_str (some ⟨N, 0, none⟩) 5 5 doN (doN d) w ⟨by decide, fun i _ => Nat.le_trans (do_size i) (by decide), fun i hi => ⟨N, 0, rfl, by rw [Nat.zero_add]; exact hc i hi⟩⟩
  rw [do_at h1 h2] at h3
  exact h3
def imp0 (h d n : Nat) : Array Value := #[.int .i64 0, .int .i64 0, .int .i64 h, .int .i64 d, .int .i64 n]
def ifW : ByteArray := ⟨#[105, 102]⟩
set_option maxHeartbeats 3200000 in
set_option maxRecDepth 8000 in
theorem deed_if {h d n lw : Nat} (bk off c : Nat) (w : World) (hlw : lw = if d = 2 then 4 else 3) (hlc : lw ≤ c) (hm : c ≤ maxLen) (hbk : bk < w.heap.size) (hc0 : w.cell? ⟨bk, off, none⟩ = some (.string ifW)) (hc1 : w.cell? ⟨bk, off + 1, none⟩ = some (.string (whenN h))) (hc2 : w.cell? ⟨bk, off + 2, none⟩ = some (.string (doN d))) (hc3 : d = 2 → w.cell? ⟨bk, off + 3, none⟩ = some (.string (numW n)))
    (h1 : 1 ≤ h) (h2 : h ≤ 2) (d1 : 1 ≤ d) (d2 : d ≤ 4) (hn : n ≤ 1000) (hd : d ≠ 2 → n = 0) :
    Calls Tryz.prog 68 #[.slice (some ⟨bk, off, none⟩) lw c] w fun e w' => e = .returned (.tuple #[.agg (imp0 h d n), .int .i64 0]) ∧ Below w.heap.size w w' := by
  unfold maxLen at hm
  have HB : deedB (h : Int) (d : Int) (n : Int) = true := by
    unfold deedB
    rw [show inB (h : Int) 0 2 = true from decide_eq_true (by omega), show inB (d : Int) 1 4 = true from decide_eq_true (by omega)]
    by_cases e : d = 2
    · subst e; exact decide_eq_true (by simp; omega)
    · rw [hd e, if_neg (by omega)]; rfl
  have HDd : Hid (∀ w8 : World, Calls Tryz.prog 52 #[.agg (imp0 h d n)] w8 fun e w' => e = .returned (.bool true) ∧ Below w8.heap.size w8 w') := hid (fun w8 => by
    have h3 := netFace.deed_impl 0 0 h d n w8
    rw [HB] at h3
    exact h3)
  have HNm : Hid (∀ w8 : World, Calls Tryz.prog 66 #[.string (numW n)] w8 fun e w' => e = .returned (.tuple #[.int .i64 n, .bool true]) ∧ w' = w8) := hid (fun w8 => by
    have h1 := numbers.number_impl (numW n) w8
    obtain ⟨f1, f2, _⟩ := num_facts hn
    rw [f1, f2] at h1
    exact h1)
  have hlw3 : 3 ≤ lw := by rw [hlw]; split <;> omega
  have hlw4 : lw ≤ 4 := by rw [hlw]; split <;> omega
  have hd3 : decide (3 ≤ (lw : Int)) = true := decide_eq_true (by omega)
  have hd2 : decide (2 < (lw : Int)) = true := decide_eq_true (by omega)
  have HLw := hid hlw
  have HC3 := hid hc3
  have HD0 := hid hd
  have qi : (ifW.toList == ([105, 102] : List UInt8)) = true := by rw [numbers.toList_data]; rfl
  clear HB hlw hc3 hd
  go_enter Tryz.func68, Tryz.ntmps68
  go_wp2_with fail
  obtain ⟨W1, hW1⟩ : ∃ W1, (w.alloc (.cells #[.int .i64 0, .int .i64 0, .int .i64 0, .int .i64 0, .int .i64 0] 65)).alloc (.cells #[.int .i64 0, .int .i64 0, .int .i64 0, .int .i64 0, .int .i64 0] 65) = W1 := ⟨_, rfl⟩
  have HB1 : Hid (Below w.heap.size w W1) := hid (by rw [← hW1]; exact (by repeat (first | exact Below.refl _ _ | assumption | refine Below.drew ?_ | refine Below.alloc ?_ (by first | exact Nat.le_refl _ | omega | (simp; done) | (simp; omega)) _ | refine Below.setCell ?_ (by first | exact Nat.le_refl _ | omega | (simp; done) | (simp; omega)) _)))
  have HR1 : Hid (W1.heap[w.heap.size]? = some (.cells #[.int .i64 0, .int .i64 0, .int .i64 0, .int .i64 0, .int .i64 0] 65 (0, 0))) := hid (by rw [← hW1]; exact (heap_alloc_old _ _ (by simp)).trans (heap_alloc_new w _))
  have HI1 : Hid (W1.heap[w.heap.size + 1]? = some (.cells #[.int .i64 0, .int .i64 0, .int .i64 0, .int .i64 0, .int .i64 0] 65 (0, 0))) := hid (by rw [← hW1]; have := heap_alloc_new (w.alloc (.cells #[.int .i64 0, .int .i64 0, .int .i64 0, .int .i64 0, .int .i64 0] 65)) (.cells #[.int .i64 0, .int .i64 0, .int .i64 0, .int .i64 0, .int .i64 0] 65); rw [World.size_alloc] at this; exact this)
  rw [hW1]
  clear hW1
  have hc1 := keep HB1.out hc1
  have cW := cell_in HI1.out 2
  have zW := frozen_in HI1.out 2
  simp only [List.getElem?_toArray, List.getElem?_cons_zero, List.getElem?_cons_succ] at cW
  refine region_below (fun ua => ⟨#[.slice (some ⟨bk, off, none⟩) lw c, undef, .pointer (some ⟨w.heap.size, 0, none⟩), .int .i64 0, .pointer (some ⟨w.heap.size + 1, 0, none⟩), undef, undef, undef, .slice (some ⟨bk, off, none⟩) lw c, .int .i64 lw, .bool true, .bool true, .slice (some ⟨bk, off, none⟩) lw c, .pointer (some ⟨bk, off, none⟩), .string ifW, .bool true, .bool true, ua 17, ua 18, ua 19, ua 20, ua 21, ua 22, undef, undef, undef, undef, undef, undef, undef, undef, undef, undef, undef, undef, undef, undef, undef, undef, undef, undef, undef, undef, undef, undef, undef, undef, undef, undef, undef, undef, undef, undef, undef, undef, undef, undef, undef, undef, undef, undef, undef, undef, undef, undef, undef, undef, undef, undef], []⟩) (fun i => [17, 18, 19, 20, 21, 22].getD i 0) (fun i v w8 => match i with | 0 => ∃ NN, v = .slice (some ⟨NN, 0, none⟩) 3 3 ∧ ∀ i, i < 3 → World.cell? w8 ⟨NN, i, none⟩ = some (.string (whenN i)) | 1 => v = .slice (some ⟨bk, off, none⟩) lw c | 2 => v = .pointer (some ⟨bk, off + 1, none⟩) | 3 => v = .string (whenN h) | 4 => v = .int .i64 (h : Int) | 5 => v = .pointer (some ⟨w.heap.size + 1, 2, none⟩) | _ => True) W1 6 (fun k => match k with | 17 => undef | 18 => undef | 19 => undef | 20 => undef | 21 => undef | 22 => undef | _ => undef) (by rfl) (by kernel_rfl) (by rfl) ⟨by kernel_rfl, by kernel_rfl, by kernel_rfl, by decide⟩ (by kernel_rfl) (Below.refl _ _) ?hput ?hinj ?stable ?step ?last
  case hput =>
    intro i hi ua v
    match i, hi with
    | 0, _ => rfl
    | 1, _ => rfl
    | 2, _ => rfl
    | 3, _ => rfl
    | 4, _ => rfl
    | 5, _ => rfl
    | i + 6, hi => exact absurd hi (by omega)
  case hinj =>
    intro i j hi hj h
    exact slots_inj [17, 18, 19, 20, 21, 22] (by decide) hi hj h
  case stable =>
    intro i v w8 w9 hb h
    match i, h with
    | 0, h => obtain ⟨NN, e1, e2⟩ := h; exact ⟨NN, e1, fun i hi => keep hb (e2 i hi)⟩
    | 1, h => exact h
    | 2, h => exact h
    | 3, h => exact h
    | 4, h => exact h
    | 5, h => exact h
    | _ + 6, h => trivial
  case step =>
    intro i hi ua w8 S8 hdep
    match i, hi with
    | 0, _ =>
      clear hdep
      refine ⟨_, rfl, fun K' hK => ?_⟩
      go_simp
      refine (when_impl w8).mono ?_
      rintro e9 w9 ⟨NN, rfl, hwc, hwb⟩
      exact hK.out _ _ hwb ⟨NN, rfl, hwc⟩
    | 1, _ =>
      clear hdep
      refine ⟨_, rfl, fun K' hK => ?_⟩
      go_simp
      exact hK.out _ _ (Below.refl _ _) rfl
    | 2, _ =>
      have h1 : (ua 18) = .slice (some ⟨bk, off, none⟩) lw c := hdep 1 (by kernel_rfl)
      clear hdep
      refine ⟨_, rfl, fun K' hK => ?_⟩
      have hbn : (1 : Int) < (lw : Int) := by omega
      have hbm : 0 < lw - 2 := by omega
      simp only [h1] at hK ⊢
      go_simp
      exact hK.out _ _ (Below.refl _ _) rfl
    | 3, _ =>
      have h2 : (ua 19) = .pointer (some ⟨bk, off + 1, none⟩) := hdep 2 (by kernel_rfl)
      clear hdep
      refine ⟨_, rfl, fun K' hK => ?_⟩
      have q := keep S8 hc1
      simp only [h2] at hK ⊢
      go_simp
      exact hK.out _ _ (Below.refl _ _) rfl
    | 4, _ =>
      have h0 : ∃ NN, (ua 17) = .slice (some ⟨NN, 0, none⟩) 3 3 ∧ ∀ i, i < 3 → World.cell? w8 ⟨NN, i, none⟩ = some (.string (whenN i)) := hdep 0 (by kernel_rfl)
      have h3 : (ua 20) = .string (whenN h) := hdep 3 (by kernel_rfl)
      clear hdep
      refine ⟨_, rfl, fun K' hK => ?_⟩
      obtain ⟨NN, e0, hwc⟩ := h0
      simp only [e0, h3] at hK ⊢
      go_simp
      refine (index_when w8 hwc h1 h2).mono ?_
      rintro e9 w9 ⟨rfl, rfl⟩
      exact hK.out _ _ (Below.refl _ _) rfl
    | 5, _ =>
      clear hdep
      refine ⟨_, rfl, fun K' hK => ?_⟩
      go_simp
      exact hK.out _ _ (Below.refl _ _) rfl
    | i + 6, hi => exact absurd hi (by omega)
  case last =>
    intro ua w8 S8 hall
    have h4 : (ua 21) = .int .i64 (h : Int) := hall 4 (by decide)
    have h5 : (ua 22) = .pointer (some ⟨w.heap.size + 1, 2, none⟩) := hall 5 (by decide)
    clear hall
    refine ⟨_, rfl, fun K' hK => ?_⟩
    simp only [h4, h5] at hK ⊢
    have cW2 := keep S8 cW
    have zW2 : w8.frozen? ⟨w.heap.size + 1, 2, none⟩ = false := (World.frozen?_of_block (S8.block _ (World.block_lt_of_cell? _ _ cW))).trans zW
    go_simp
    refine hK.out _ _ ?_
    have HWb := hid S8
    clear S8 h4 h5 hK
    obtain ⟨W2, hW2⟩ : ∃ W, w8.setCell ⟨w.heap.size + 1, 2, none⟩ (.int .i64 (h : Int)) = W := ⟨_, rfl⟩
    have hlR := (Array.getElem?_eq_some_iff.1 HR1.out).1
    have hlI := (Array.getElem?_eq_some_iff.1 HI1.out).1
    have HI2 : Hid (W2.heap[w.heap.size + 1]? = some (.cells #[.int .i64 0, .int .i64 0, .int .i64 (h : Int), .int .i64 0, .int .i64 0] 65 (0, 0))) := hid (by rw [← hW2]; exact put_at (.int .i64 (h : Int)) ((HWb.out.block _ hlI).trans HI1.out))
    have HR2 : Hid (W2.heap[w.heap.size]? = some (.cells #[.int .i64 0, .int .i64 0, .int .i64 0, .int .i64 0, .int .i64 0] 65 (0, 0))) := hid (by rw [← hW2]; exact (Below.heap_setCell _ _ _ _ (by dsimp only; omega)).trans ((HWb.out.block _ hlR).trans HR1.out))
    have HB2 : Hid (Below w.heap.size w W2) := hid (by rw [← hW2]; exact (HB1.out.trans (HWb.out.mono HB1.out.size)).setCell (by dsimp only; omega) _)
    rw [hW2]
    clear hW2 HWb hlR hlI cW zW cW2 zW2
    have hcn : ¬ c = 2 := by omega
    have hcd := keep HB2.out hc2
    go_wp2_with fail
    have cW := cell_in HI2.out 3
    have zW := frozen_in HI2.out 3
    simp only [List.getElem?_toArray, List.getElem?_cons_zero, List.getElem?_cons_succ] at cW
    refine region_below (fun ub => ⟨#[.slice (some ⟨bk, off + 2, none⟩) (lw - 2) (c - 2), undef, .pointer (some ⟨w.heap.size, 0, none⟩), .int .i64 0, .pointer (some ⟨w.heap.size + 1, 0, none⟩), undef, undef, undef, .slice (some ⟨bk, off, none⟩) lw c, .int .i64 lw, .bool true, .bool true, .slice (some ⟨bk, off, none⟩) lw c, .pointer (some ⟨bk, off, none⟩), .string ifW, .bool true, .bool true, ua 17, ua 18, ua 19, ua 20, .int .i64 h, .pointer (some ⟨w.heap.size + 1, 2, none⟩), .slice (some ⟨bk, off, none⟩) lw c, .slice (some ⟨bk, off + 2, none⟩) (lw - 2) (c - 2), ub 25, ub 26, ub 27, ub 28, ub 29, ub 30, undef, undef, undef, undef, undef, undef, undef, undef, undef, undef, undef, undef, undef, undef, undef, undef, undef, undef, undef, undef, undef, undef, undef, undef, undef, undef, undef, undef, undef, undef, undef, undef, undef, undef, undef, undef, undef, undef], []⟩) (fun i => [25, 26, 27, 28, 29, 30].getD i 0) (fun i v w8 => match i with | 0 => ∃ NN, v = .slice (some ⟨NN, 0, none⟩) 5 5 ∧ ∀ i, i < 5 → World.cell? w8 ⟨NN, i, none⟩ = some (.string (doN i)) | 1 => v = .slice (some ⟨bk, off + 2, none⟩) (lw - 2) (c - 2) | 2 => v = .pointer (some ⟨bk, off + 2, none⟩) | 3 => v = .string (doN d) | 4 => v = .int .i64 (d : Int) | 5 => v = .pointer (some ⟨w.heap.size + 1, 3, none⟩) | _ => True) W2 6 (fun k => match k with | 25 => undef | 26 => undef | 27 => undef | 28 => undef | 29 => undef | 30 => undef | _ => undef) (by rfl) (by kernel_rfl) (by rfl) ⟨by kernel_rfl, by kernel_rfl, by kernel_rfl, by decide⟩ (by kernel_rfl) (Below.refl _ _) ?hput ?hinj ?stable ?step ?last
    case hput =>
      intro i hi ub v
      match i, hi with
      | 0, _ => rfl
      | 1, _ => rfl
      | 2, _ => rfl
      | 3, _ => rfl
      | 4, _ => rfl
      | 5, _ => rfl
      | i + 6, hi => exact absurd hi (by omega)
    case hinj =>
      intro i j hi hj h
      exact slots_inj [25, 26, 27, 28, 29, 30] (by decide) hi hj h
    case stable =>
      intro i v w8 w9 hb h
      match i, h with
      | 0, h => obtain ⟨NN, e1, e2⟩ := h; exact ⟨NN, e1, fun i hi => keep hb (e2 i hi)⟩
      | 1, h => exact h
      | 2, h => exact h
      | 3, h => exact h
      | 4, h => exact h
      | 5, h => exact h
      | _ + 6, h => trivial
    case step =>
      intro i hi ub w8 S8 hdep
      match i, hi with
      | 0, _ =>
        clear hdep
        refine ⟨_, rfl, fun K' hK => ?_⟩
        go_simp
        refine (do_impl w8).mono ?_
        rintro e9 w9 ⟨NN, rfl, hwc, hwb⟩
        exact hK.out _ _ hwb ⟨NN, rfl, hwc⟩
      | 1, _ =>
        clear hdep
        refine ⟨_, rfl, fun K' hK => ?_⟩
        go_simp
        exact hK.out _ _ (Below.refl _ _) rfl
      | 2, _ =>
        have h1 : (ub 26) = .slice (some ⟨bk, off + 2, none⟩) (lw - 2) (c - 2) := hdep 1 (by kernel_rfl)
        clear hdep
        refine ⟨_, rfl, fun K' hK => ?_⟩
        have hbn : (0 : Int) < ((lw - 2 : Nat) : Int) := by omega
        have hbm : 0 < lw - 2 := by omega
        simp only [h1] at hK ⊢
        go_simp
        exact hK.out _ _ (Below.refl _ _) rfl
      | 3, _ =>
        have h2 : (ub 27) = .pointer (some ⟨bk, off + 2, none⟩) := hdep 2 (by kernel_rfl)
        clear hdep
        refine ⟨_, rfl, fun K' hK => ?_⟩
        have q := keep S8 hcd
        simp only [h2] at hK ⊢
        go_simp
        exact hK.out _ _ (Below.refl _ _) rfl
      | 4, _ =>
        have h0 : ∃ NN, (ub 25) = .slice (some ⟨NN, 0, none⟩) 5 5 ∧ ∀ i, i < 5 → World.cell? w8 ⟨NN, i, none⟩ = some (.string (doN i)) := hdep 0 (by kernel_rfl)
        have h3 : (ub 28) = .string (doN d) := hdep 3 (by kernel_rfl)
        clear hdep
        refine ⟨_, rfl, fun K' hK => ?_⟩
        obtain ⟨NN, e0, hwc⟩ := h0
        simp only [e0, h3] at hK ⊢
        go_simp
        refine (index_do w8 hwc d1 d2).mono ?_
        rintro e9 w9 ⟨rfl, rfl⟩
        exact hK.out _ _ (Below.refl _ _) rfl
      | 5, _ =>
        clear hdep
        refine ⟨_, rfl, fun K' hK => ?_⟩
        go_simp
        exact hK.out _ _ (Below.refl _ _) rfl
      | i + 6, hi => exact absurd hi (by omega)
    case last =>
      intro ub w8 S8 hall
      have h4 : (ub 29) = .int .i64 (d : Int) := hall 4 (by decide)
      have h5 : (ub 30) = .pointer (some ⟨w.heap.size + 1, 3, none⟩) := hall 5 (by decide)
      clear hall
      refine ⟨_, rfl, fun K' hK => ?_⟩
      simp only [h4, h5] at hK ⊢
      have cW2 := keep S8 cW
      have zW2 : w8.frozen? ⟨w.heap.size + 1, 3, none⟩ = false := (World.frozen?_of_block (S8.block _ (World.block_lt_of_cell? _ _ cW))).trans zW
      go_simp
      refine hK.out _ _ ?_
      have HWb := hid S8
      clear S8 h4 h5 hK
      obtain ⟨W3, hW3⟩ : ∃ W, w8.setCell ⟨w.heap.size + 1, 3, none⟩ (.int .i64 (d : Int)) = W := ⟨_, rfl⟩
      have hlR := (Array.getElem?_eq_some_iff.1 HR2.out).1
      have hlI := (Array.getElem?_eq_some_iff.1 HI2.out).1
      have HI3 : Hid (W3.heap[w.heap.size + 1]? = some (.cells #[.int .i64 0, .int .i64 0, .int .i64 (h : Int), .int .i64 (d : Int), .int .i64 0] 65 (0, 0))) := hid (by rw [← hW3]; exact put_at (.int .i64 (d : Int)) ((HWb.out.block _ hlI).trans HI2.out))
      have HR3 : Hid (W3.heap[w.heap.size]? = some (.cells #[.int .i64 0, .int .i64 0, .int .i64 0, .int .i64 0, .int .i64 0] 65 (0, 0))) := hid (by rw [← hW3]; exact (Below.heap_setCell _ _ _ _ (by dsimp only; omega)).trans ((HWb.out.block _ hlR).trans HR2.out))
      have HB3 : Hid (Below w.heap.size w W3) := hid (by rw [← hW3]; exact (HB2.out.trans (HWb.out.mono HB2.out.size)).setCell (by dsimp only; omega) _)
      rw [hW3]
      clear hW3 HWb hlR hlI cW zW cW2 zW2
      have qh : decide (((h : Int) : Int) < 0) = false := decide_eq_false (by omega)
      have qd : decide ((d : Int) < 0) = false := decide_eq_false (by omega)
      by_cases hd : d = 2
      · have hc3 := keep HB3.out (HC3.out hd)
        have hdd : ((d : Int) == 2) = true := by simp [hd]
        have hlw2 := HLw.out
        rw [if_pos hd] at hlw2
        subst hlw2
        subst hd
        have c0 := cell_in HI3.out 0
        have c1 := cell_in HI3.out 1
        have c2 := cell_in HI3.out 2
        have c3 := cell_in HI3.out 3
        have c4 := cell_in HI3.out 4
        have z4 := frozen_in HI3.out 4
        simp only [List.getElem?_toArray, List.getElem?_cons_zero, List.getElem?_cons_succ] at c0 c1 c2 c3 c4
        go_wp2_with fail
        refine (HNm.out _).mono ?_
        rintro e5 w5 ⟨rfl, hw5⟩
        have hw5 := hw5.symm
        subst hw5
        have hlR := (Array.getElem?_eq_some_iff.1 HR3.out).1
        have hlI := (Array.getElem?_eq_some_iff.1 HI3.out).1
        have HI4 := hid (put_at (o := 4) (.int .i64 (n : Int)) HI3.out)
        have HR4 := hid ((Below.heap_setCell W3 ⟨w.heap.size + 1, 4, none⟩ (.int .i64 (n : Int)) w.heap.size (by dsimp only; omega)).trans HR3.out)
        have HB4 : Hid (Below w.heap.size w (W3.setCell ⟨w.heap.size + 1, 4, none⟩ (.int .i64 (n : Int)))) := HB3.out.setCell (by dsimp only; omega) _
        go_wp2_with fail
        refine (HDd.out _).mono ?_
        rintro e6 w6 ⟨rfl, hb6⟩
        have HI6 := hid ((hb6.block _ (Array.getElem?_eq_some_iff.1 HI4.out).1).trans HI4.out)
        have HR6 := hid ((hb6.block _ (Array.getElem?_eq_some_iff.1 HR4.out).1).trans HR4.out)
        have HB6 : Hid (Below w.heap.size w w6) := HB4.out.trans (hb6.mono HB4.out.size)
        clear c0 c1 c2 c3 c4 z4 hlR hlI hb6
        have c0 := cell_in HI6.out 0
        have c1 := cell_in HI6.out 1
        have c2 := cell_in HI6.out 2
        have c3 := cell_in HI6.out 3
        have c4 := cell_in HI6.out 4
        have r0 := cell_in HR6.out 0
        have zr0 := frozen_in HR6.out 0
        have r1 := cell_in HR6.out 1
        have zr1 := frozen_in HR6.out 1
        have r2 := cell_in HR6.out 2
        have zr2 := frozen_in HR6.out 2
        have r3 := cell_in HR6.out 3
        have zr3 := frozen_in HR6.out 3
        have r4 := cell_in HR6.out 4
        have zr4 := frozen_in HR6.out 4
        simp only [List.getElem?_toArray, List.getElem?_cons_zero, List.getElem?_cons_succ] at c0 r0 c1 r1 c2 r2 c3 r3 c4 r4
        go_wp2
        refine bodyPost_ret (v := .tuple #[.agg (imp0 h 2 n), .int .i64 0]) (by rw [results_c2 rfl]; go_simp; rfl) rfl ?_
        exact ⟨rfl, by have hbb := HB6.out; exact (by repeat (first | exact Below.refl _ _ | assumption | refine Below.drew ?_ | refine Below.alloc ?_ (by first | exact Nat.le_refl _ | omega | (simp; done) | (simp; omega)) _ | refine Below.setCell ?_ (by first | exact Nat.le_refl _ | omega | (simp; done) | (simp; omega)) _))⟩
      · have hdd : ((d : Int) == 2) = false := beq_eq_false_iff_ne.2 (by omega)
        have hlw2 := HLw.out
        rw [if_neg hd] at hlw2
        subst hlw2
        have hn0 := HD0.out hd
        subst hn0
        clear hd
        have c0 := cell_in HI3.out 0
        have c1 := cell_in HI3.out 1
        have c2 := cell_in HI3.out 2
        have c3 := cell_in HI3.out 3
        have c4 := cell_in HI3.out 4
        have r0 := cell_in HR3.out 0
        have zr0 := frozen_in HR3.out 0
        have r1 := cell_in HR3.out 1
        have zr1 := frozen_in HR3.out 1
        have r2 := cell_in HR3.out 2
        have zr2 := frozen_in HR3.out 2
        have r3 := cell_in HR3.out 3
        have zr3 := frozen_in HR3.out 3
        have r4 := cell_in HR3.out 4
        have zr4 := frozen_in HR3.out 4
        simp only [List.getElem?_toArray, List.getElem?_cons_zero, List.getElem?_cons_succ] at c0 r0 c1 r1 c2 r2 c3 r3 c4 r4
        have hlR := (Array.getElem?_eq_some_iff.1 HR3.out).1
        have hlI := (Array.getElem?_eq_some_iff.1 HI3.out).1
        go_wp2_with fail
        refine (HDd.out W3).mono ?_
        rintro e6 w6 ⟨rfl, hb6⟩
        have HI6 := hid ((hb6.block _ hlI).trans HI3.out)
        have HR6 := hid ((hb6.block _ hlR).trans HR3.out)
        have HB6 : Hid (Below w.heap.size w w6) := HB3.out.trans (hb6.mono HB3.out.size)
        clear c0 c1 c2 c3 c4 r0 r1 r2 r3 r4 zr0 zr1 zr2 zr3 zr4 hlR hlI hb6
        have c0 := cell_in HI6.out 0
        have c1 := cell_in HI6.out 1
        have c2 := cell_in HI6.out 2
        have c3 := cell_in HI6.out 3
        have c4 := cell_in HI6.out 4
        have r0 := cell_in HR6.out 0
        have zr0 := frozen_in HR6.out 0
        have r1 := cell_in HR6.out 1
        have zr1 := frozen_in HR6.out 1
        have r2 := cell_in HR6.out 2
        have zr2 := frozen_in HR6.out 2
        have r3 := cell_in HR6.out 3
        have zr3 := frozen_in HR6.out 3
        have r4 := cell_in HR6.out 4
        have zr4 := frozen_in HR6.out 4
        simp only [List.getElem?_toArray, List.getElem?_cons_zero, List.getElem?_cons_succ] at c0 r0 c1 r1 c2 r2 c3 r3 c4 r4
        go_wp2
        refine bodyPost_ret (v := .tuple #[.agg (imp0 h d 0), .int .i64 0]) (by rw [results_c2 rfl]; go_simp; rfl) rfl ?_
        exact ⟨rfl, by have hbb := HB6.out; exact (by repeat (first | exact Below.refl _ _ | assumption | refine Below.drew ?_ | refine Below.alloc ?_ (by first | exact Nat.le_refl _ | omega | (simp; done) | (simp; omega)) _ | refine Below.setCell ?_ (by first | exact Nat.le_refl _ | omega | (simp; done) | (simp; omega)) _))⟩
end Go.Proofs.YtffacjebnbplaaaGreatDoor.readDeed
