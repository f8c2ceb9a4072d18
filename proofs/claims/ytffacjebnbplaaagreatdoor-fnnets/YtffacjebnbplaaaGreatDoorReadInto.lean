/- Lists that rise as they are read, of the program: readInto, readOrigin, readExternal; conditions: a name that is there, a number greater than all so far. -/
import Derived.Test.YtffacjebnbplaaaGreatDoorReadLink
import Derived.Test.YtffacjebnbplaaaGreatDoorShelfS
import Derived.Shelf.Slices.SearchI
import Derived.Shelf.Slices.Empties
namespace Go.Proofs.YtffacjebnbplaaaGreatDoor.readInto
open Go.RowKit Go.Deep Go base heldStore drawn drawnSrc drawnMk netSem netLines netBytes netImpl askWords askSem readMath readNew readMem readSmall readAdd readLink
set_option linter.unusedVariables false
theorem info_i : (Tryz.prog.info? 3).map (fun i => (i.zero, i.size, i.bytes)) = some (some (.int .i64 0), 1, 8) := by kernel_rfl
set_option maxHeartbeats 1600000 in
set_option maxRecDepth 8000 in
theorem insert_end {B n : Nat} (va : Option Addr) (vc : Nat) (xs : List Value) (z : Int) (vb : Nat) (w : World) (h : w.ownsRow B 3 1 (.slice va n vc) n xs) (hn : n ≤ 100) (hcap : n ≤ vc) (hm : vc ≤ maxLen) (hv : w.cell? ⟨vb, 0, none⟩ = some (.int .i64 z)) (hB : B ≤ w.heap.size) :
    Calls Tryz.prog 86 #[.slice va n vc, .int .i64 n, .slice (some ⟨vb, 0, none⟩) 1 1] w fun e w' => ∃ va' vc', e = .returned (.slice va' (n + 1) vc') ∧ w'.ownsRow B 3 1 (.slice va' (n + 1) vc') (n + 1) (xs ++ [.int .i64 z]) ∧ w.grownBy w' (Value.ownBlock (.slice va n vc)) ∧ (Value.ownBlock (.slice va' (n + 1) vc') = Value.ownBlock (.slice va n vc) ∨ Value.ownBlock (.slice va' (n + 1) vc') = some w.heap.size) := by
  unfold maxLen at hm
  obtain ⟨i0, hi0, hzz⟩ := Option.map_eq_some_iff.1 info_i
  simp only [Prod.mk.injEq] at hzz
  obtain ⟨hz0, hz1, hz2⟩ := hzz
  have HI := hid hi0
  have HZ0 := hid hz0
  have HZ1 := hid hz1
  have HZ2 := hid hz2
  have HX := hid h
  have HB := hid hB
  clear hi0 hz0 hz1 hz2 h hB
  by_cases hvn : vc = n
  · subst hvn
    go_enter Tryz.func86, Tryz.ntmps86
    go_wp2_with (at_builtin; (refine wpList_append_own_at _ rfl _ _ 25 rfl B 3 i0 _ 1 8 Tryz.underlying25 HI.out HZ0.out HZ1.out HZ2.out rfl (by decide) _ _ _ rfl HX.out ⟨vb, 0, none⟩ 1 1 [.int .i64 z] rfl rfl (at_one hv) (fun u hu => by simp at hu; subst hu; rfl) (by unfold maxLen; omega) (by omega) HB.out ?_); intro v2 w5 hown2 hg2 hnil2 hat2; obtain ⟨va2, vc2, e8⟩ := own_form hown2; subst e8)
    go_ret
    exact ⟨_, _, rfl, hown2, hg2, hat2⟩
  · have hvn' := hvn
    go_enter Tryz.func86, Tryz.ntmps86
    go_wp2_with (at_builtin; (refine wpList_append_own_at _ rfl _ _ 25 rfl B 3 i0 _ 1 8 Tryz.underlying25 HI.out HZ0.out HZ1.out HZ2.out rfl (by decide) _ _ _ rfl HX.out ⟨vb, 0, none⟩ 1 1 [.int .i64 z] rfl rfl (at_one hv) (fun u hu => by simp at hu; subst hu; rfl) (by unfold maxLen; omega) (by omega) HB.out ?_); intro v2 w5 hown2 hg2 hnil2 hat2; obtain ⟨va2, vc2, e8⟩ := own_form hown2; subst e8)
    go_ret
    exact ⟨_, _, rfl, hown2, hg2, hat2⟩
theorem search_end {B n : Nat} (va : Option Addr) (vc : Nat) (zl : List Int) (z : Int) (w : World) (h : w.ownsRow B 3 1 (.slice va n vc) n (flatR 1 (fun i _ => zAt zl i) n)) (hn : n ≤ 100) (hr : ∀ i j, i < j → j < n → zAt zl i < zAt zl j) (hz : ∀ i, i < n → zAt zl i < z) :
    Calls Tryz.prog 85 #[.slice va n vc, .int .i64 z] w fun e w' => e = .returned (.tuple #[.int .i64 n, .bool false]) ∧ ∃ q, w' = w.drewN q := by
  rcases Nat.eq_zero_or_pos n with h0 | h0
  · subst h0
    refine (Any.slices_BinarySearch_int_empty Tryz.lays2_25 va vc z w).mono ?_
    rintro e w' ⟨rfl, rfl⟩
    exact ⟨rfl, 0, rfl⟩
  · obtain ⟨b, rfl, hc⟩ := own_cell h h0
    have hlen : ((List.range n).map (zAt zl)).length = n := by simp
    have htk : ((List.range n).map (zAt zl)).take n = (List.range n).map (zAt zl) := List.take_of_length_le (by simp)
    have h1 := Any.slices_BinarySearch_int Tryz.lays2_25 b 0 n vc ((List.range n).map (zAt zl)) z w (by simp) (by omega) (fun j hj => by
      rw [hlen] at hj
      rw [Nat.zero_add]
      have h2 := flat_at 1 (fun i _ => zAt zl i) (n := n) (i := j) (j := 0) hj (by omega)
      rw [Nat.mul_one, Nat.add_zero] at h2
      rw [hc j _ (by omega) h2]
      simp [List.getD, hj]) (by
      rw [htk, List.pairwise_iff_getElem]
      intro i j hi hj hij
      simp only [List.length_map, List.length_range] at hi hj
      simp only [List.getElem_map, List.getElem_range]
      have := hr i j hij hj
      omega)
    refine Calls.mono h1 ?_
    rintro e w' ⟨rfl, q, rfl⟩
    have c1 : ((List.range n).map (zAt zl)).countP (fun y => decide (y < z)) = n := by
      have : ((List.range n).map (zAt zl)).countP (fun y => decide (y < z)) = ((List.range n).map (zAt zl)).length := List.countP_eq_length.2 (fun y hy => by
        obtain ⟨i, hi, rfl⟩ := List.mem_map.1 hy
        exact decide_eq_true (hz i (List.mem_range.1 hi)))
      rw [this, hlen]
    have c2 : ((List.range n).map (zAt zl)).contains z = false := by
      rw [Bool.eq_false_iff]
      intro hc2
      obtain ⟨i, hi, e0⟩ := List.mem_map.1 (List.contains_iff_mem.1 hc2)
      have := hz i (List.mem_range.1 hi)
      omega
    rw [htk, c1, c2]
    exact ⟨rfl, q, rfl⟩
set_option maxHeartbeats 3200000 in
set_option maxRecDepth 8000 in
theorem into_impl {M mb B r i a j q most : Nat} {s : Ss} {g x f : R} {o e : List Int} {k : Nat → Nat} {v : Nat → Value} {w : World} (ad : Option Addr) (c : Nat) (kw : Wd) (zl : List Int) (h : NRd M mb B s g o e x f k v w) (hR : TRow w.heap.size w ad c [kw, nm s (zAt zl i)]) (hkw : kw ≠ []) (hj : j = 2 ∨ j = 3) (hq : cl j = q) (hrow : ∀ n, rowV s g o e x f j n = flatR 1 (fun t _ => zAt zl t) n) (hk0 : k 0 = r) (hk1 : k j = i) (hsz : ∀ j, j < r → (s j).size ≤ maxLen)
    (e0 : zAt zl i = a) (ha : Named s r a) (hi : i < most) (hmo : most ≤ 100) (hr : ∀ t u, t < u → u ≤ i → zAt zl t < zAt zl u) :
    Calls Tryz.prog 67 #[.pointer (some ⟨M, 0, none⟩), .pointer (some ⟨M, q, none⟩), .int .i64 most, .slice ad 2 c] w fun e' w' => ∃ v', e' = .returned (.int .i64 0) ∧ NRd M mb B s g o e x f (fset k j (i + 1)) v' w' ∧ Stay M B w w' := by
  have hj6 : j < 6 := by omega
  have hcap : 2 ≤ c := hR.cap
  have hmost := hR.most
  unfold maxLen at hmost
  rw [e0] at hR
  have hty : tyR j = 3 := by rcases hj with rfl | rfl <;> rfl
  have hsr : szR j = 1 := by rcases hj with rfl | rfl <;> rfl
  obtain ⟨bk, off, rfl, hbk, hc0⟩ := word_cell hR (i := 0) (t := kw) rfl
  obtain ⟨_, _, q2, _, hc1⟩ := word_cell hR (i := 1) (t := nm s a) rfl
  simp only [Option.some.injEq, Addr.mk.injEq, and_true] at q2
  obtain ⟨rfl, rfl⟩ := q2
  have p1 : piece (nm s a) = s a := rfl
  rw [p1] at hc1
  rw [Nat.add_zero] at hc0
  obtain ⟨va, vc, hv0, _⟩ := h.form (j := 0) (by omega)
  obtain ⟨la, lc, hv1, hlc⟩ := h.form hj6
  rw [hk0] at hv0
  rw [hk1] at hv1 hlc
  have hlm : lc ≤ maxLen := by
    have h1 := h.own hj6 hv1 hk1 (Below.refl _ _)
    rcases h1.2 with ⟨h2, _⟩ | ⟨b, cap, cur, h2, _, _, _, h3, _⟩
    · injection h2 with _ _ h2; rw [h2]; exact Nat.zero_le _
    · injection h2 with _ _ h2; rw [h2]; exact h3
  have HF1 : Hid (∀ (fb : Nat) (w8 : World), Below w.heap.size w w8 → (∀ i y, ([kw, []] : List Wd)[i]? = some y → w8.cell? ⟨fb, i, none⟩ = some (.string (piece y))) → Calls Tryz.prog 63 #[.slice (some ⟨bk, off, none⟩) 2 c, .slice (some ⟨fb, 0, none⟩) 2 2] w8 fun e w' => e = .returned (.bool true) ∧ w' = w8) := hid (fun fb w8 hb8 hc8 => by
    have h1 := form_impl w.heap.size (some ⟨bk, off, none⟩) c _ [kw, []] fb w8 (hR.under hb8) hc8 (by simp)
    have h2 : formB [kw, nm s a] [kw, []] = true := by simp [formB, allN, formAt, List.range_succ]
    rw [h2] at h1
    exact h1)
  have HT : Hid (∀ w8 : World, Below w.heap.size w w8 → Calls Tryz.prog 83 #[.pointer (some ⟨M, 0, none⟩), .string (s a)] w8 fun e w' => e = .returned (.tuple #[.int .i64 a, .int .i64 0]) ∧ w' = w8) := hid (fun w8 hb8 => by
    obtain ⟨hc0, hr0⟩ := (h.below hb8).names hv0 hk0 hsz
    exact number_impl M va r vc s (s a) a w8 hc0 hr0 ha.ok ha.at_)
  have HC : Hid (∀ w8 : World, Below w.heap.size w w8 → w8.cell? ⟨M, q, none⟩ = some (.slice la i lc)) := hid (fun w8 hb8 => by
    have h1 := (h.below hb8).at hj6
    rw [hv1, hq] at h1
    exact h1)
  have HOw : Hid (∀ w8 : World, Below w.heap.size w w8 → w8.ownsRow B 3 1 (.slice la i lc) i (flatR 1 (fun t _ => zAt zl t) i)) := hid (fun w8 hb => by
    have h1 := h.own hj6 hv1 hk1 hb
    rw [hrow, hty, hsr] at h1
    exact h1)
  have HS : Hid (∀ w8 : World, Below w.heap.size w w8 → Calls Tryz.prog 85 #[.slice la i lc, .int .i64 a] w8 fun e w' => e = .returned (.tuple #[.int .i64 i, .bool false]) ∧ ∃ q, w' = w8.drewN q) := hid (fun w8 hb => search_end la lc zl a w8 (HOw.out w8 hb) (by omega) (fun t u h1 h2 => hr t u h1 (by omega)) (fun t h1 => by rw [← e0]; exact hr t i h1 (Nat.le_refl _)))
  have HBW := hid h.le
  have HIn : Hid (∀ (vb : Nat) (w8 : World), Below w.heap.size w w8 → w8.cell? ⟨vb, 0, none⟩ = some (.int .i64 a) → Calls Tryz.prog 86 #[.slice la i lc, .int .i64 i, .slice (some ⟨vb, 0, none⟩) 1 1] w8 fun e' w' => ∃ va' vc', e' = .returned (.slice va' (i + 1) vc') ∧ (w'.cell? ⟨M, q, none⟩ = some (.slice la i lc) ∧ w'.frozen? ⟨M, q, none⟩ = false) ∧ NRd M mb B s g o e x f (fset k j (i + 1)) (fset v j (.slice va' (i + 1) vc')) (w'.setCell ⟨M, q, none⟩ (.slice va' (i + 1) vc')) ∧ Stay M B w (w'.setCell ⟨M, q, none⟩ (.slice va' (i + 1) vc'))) := hid (fun vb w8 hb hc8 => by
    refine (insert_end la lc _ a vb w8 (HOw.out w8 hb) (by omega) hlc hlm hc8 (Nat.le_trans HBW.out hb.size)).mono ?_
    rintro e' w' ⟨va', vc', rfl, ho, hg, hat⟩
    have h1 := h.store hj6 hv1 hk1 hb (es := [.int .i64 a]) (by rw [hrow, hrow, ← e0]; exact flat_succ 1 _ i) w' va' vc' hg (by rw [hrow, hty, hsr]; exact ho) (hat.imp id fun e1 => ⟨_, Nat.le_refl _, e1⟩)
    rw [hq] at h1
    exact ⟨va', vc', rfl, h1.1, h1.2.1, h1.2.2⟩)
  have hmi : ((i : Int) == (most : Int)) = false := beq_eq_false_iff_ne.2 (by omega)
  clear h hR hk0 hk1 hsz e0 ha hv0 hv1 HOw hr hrow hq hty hsr hlm hj hkw
  go_enter Tryz.func67, Tryz.ntmps67
  go_wp2_with fail
  refine (HF1.out _ _ (by repeat (first | exact Below.refl _ _ | assumption | refine Below.drew ?_ | refine Below.alloc ?_ (by first | exact Nat.le_refl _ | omega | (simp; done) | (simp; omega)) _ | refine Below.setCell ?_ (by first | exact Nat.le_refl _ | omega | (simp; done) | (simp; omega)) _)) ?cells).mono ?_
  case cells =>
    intro i y hy
    match i, hy with
    | 0, hy => (injection hy with hy; subst hy; simp [go_sem])
    | 1, hy => (injection hy with hy; subst hy; simp [go_sem]; rfl)
    | i + 2, hy => (simp at hy)
  rintro e1 w1 ⟨rfl, hw1⟩
  have HB1 : Hid (Below w.heap.size w w1) := by rw [hw1]; exact (by repeat (first | exact Below.refl _ _ | assumption | refine Below.drew ?_ | refine Below.alloc ?_ (by first | exact Nat.le_refl _ | omega | (simp; done) | (simp; omega)) _ | refine Below.setCell ?_ (by first | exact Nat.le_refl _ | omega | (simp; done) | (simp; omega)) _))
  have hc1 := keep HB1.out hc1
  clear hw1 HF1 hc0
  go_wp2_with fail
  refine region_calm (fun us => ⟨#[.pointer (some ⟨M, 0, none⟩), .pointer (some ⟨M, q, none⟩), .int .i64 most, .slice (some ⟨bk, off, none⟩) 2 c, undef, undef, undef, undef, .int .i64 0, us 9, us 10, undef, undef, .slice (some ⟨bk, off, none⟩) 2 c, .slice (some ⟨bk, off, none⟩) 2 c, .pointer (some ⟨bk, off, none⟩), .string (piece kw), .slice (some ⟨w.heap.size, 0, none⟩) 2 2, .bool true, .bool false, us 20, us 21, us 22, us 23, us 24, us 25, us 26, us 27, us 28, us 29, undef, undef, undef, undef, undef, undef, undef, undef, undef, undef, undef, undef, undef, undef, undef, undef, undef, undef, undef, undef, undef, undef, undef, undef, undef, undef, undef, undef, undef], []⟩) (fun i => [21, 22, 23, 24, 25, 26, 27, 20, 28, 29, 9, 10].getD i 0) (fun i v w8 => match i with | 0 => v = .pointer (some ⟨M, 0, none⟩) | 1 => v = .pointer (some ⟨M, 0, none⟩) | 2 => v = .pointer (some ⟨M, 0, none⟩) | 3 => v = .slice (some ⟨bk, off, none⟩) 2 c | 4 => v = .pointer (some ⟨bk, off + 1, none⟩) | 5 => v = .string (s a) | 6 => v = .tuple #[.int .i64 (a : Int), .int .i64 0] | 7 => v = .tuple #[.int .i64 (a : Int), .int .i64 0] | 8 => v = .int .i64 (a : Int) | 9 => v = .int .i64 0 | 10 => v = .int .i64 (a : Int) | 11 => v = .int .i64 0 | _ => True) w1 12 (fun k => match k with | 21 => undef | 22 => undef | 23 => undef | 24 => undef | 25 => undef | 26 => undef | 27 => undef | 20 => undef | 28 => undef | 29 => undef | 9 => undef | 10 => undef | _ => undef) (by rfl) (by kernel_rfl) (by rfl) (by kernel_rfl) (Below.refl _ _) ?hput ?hinj ?stable ?step ?fin
  case hput =>
    intro i hi us v
    match i, hi with
    | 0, _ => rfl
    | 1, _ => rfl
    | 2, _ => rfl
    | 3, _ => rfl
    | 4, _ => rfl
    | 5, _ => rfl
    | 6, _ => rfl
    | 7, _ => rfl
    | 8, _ => rfl
    | 9, _ => rfl
    | 10, _ => rfl
    | 11, _ => rfl
    | i + 12, hi => exact absurd hi (by omega)
  case hinj =>
    intro i j hi hj h
    exact slots_inj [21, 22, 23, 24, 25, 26, 27, 20, 28, 29, 9, 10] (by decide) hi hj h
  case stable =>
    intro i v w8 w9 hb h
    match i, hb, h with
    | 0, hb, h => exact h
    | 1, hb, h => exact h
    | 2, hb, h => exact h
    | 3, hb, h => exact h
    | 4, hb, h => exact h
    | 5, hb, h => exact h
    | 6, hb, h => exact h
    | 7, hb, h => exact h
    | 8, hb, h => exact h
    | 9, hb, h => exact h
    | 10, hb, h => exact h
    | 11, hb, h => exact h
    | _ + 12, hb, h => trivial
  case step =>
    intro i hi us w8 S8 hdep
    match i, hi, hdep with
    | 0, _, hdep =>
      clear hdep
      refine ⟨_, rfl, fun K' hK => ?_⟩
      go_simp
      exact hK.out _ _ (Below.refl _ _) rfl
    | 1, _, hdep =>
      have h0 : (us 21) = .pointer (some ⟨M, 0, none⟩) := hdep 0 (by kernel_rfl)
      clear hdep
      refine ⟨_, rfl, fun K' hK => ?_⟩
      simp only [h0] at hK ⊢
      go_simp
      exact hK.out _ _ (Below.refl _ _) rfl
    | 2, _, hdep =>
      have h1 : (us 22) = .pointer (some ⟨M, 0, none⟩) := hdep 1 (by kernel_rfl)
      clear hdep
      refine ⟨_, rfl, fun K' hK => ?_⟩
      simp only [h1] at hK ⊢
      go_simp
      exact hK.out _ _ (Below.refl _ _) rfl
    | 3, _, hdep =>
      clear hdep
      refine ⟨_, rfl, fun K' hK => ?_⟩
      go_simp
      exact hK.out _ _ (Below.refl _ _) rfl
    | 4, _, hdep =>
      have h3 : (us 24) = .slice (some ⟨bk, off, none⟩) 2 c := hdep 3 (by kernel_rfl)
      clear hdep
      refine ⟨_, rfl, fun K' hK => ?_⟩
      simp only [h3] at hK ⊢
      go_simp
      exact hK.out _ _ (Below.refl _ _) rfl
    | 5, _, hdep =>
      have h4 : (us 25) = .pointer (some ⟨bk, off + 1, none⟩) := hdep 4 (by kernel_rfl)
      clear hdep
      refine ⟨_, rfl, fun K' hK => ?_⟩
      have q := keep S8 hc1
      simp only [h4] at hK ⊢
      go_simp
      exact hK.out _ _ (Below.refl _ _) rfl
    | 6, _, hdep =>
      have h2 : (us 23) = .pointer (some ⟨M, 0, none⟩) := hdep 2 (by kernel_rfl)
      have h5 : (us 26) = .string (s a) := hdep 5 (by kernel_rfl)
      clear hdep
      refine ⟨_, rfl, fun K' hK => ?_⟩
      simp only [h2, h5] at hK ⊢
      go_simp
      refine (HT.out w8 (HB1.out.trans (S8.mono HB1.out.size))).mono ?_
      rintro e9 w9 ⟨rfl, rfl⟩
      exact hK.out _ _ (Below.refl _ _) rfl
    | 7, _, hdep =>
      have h6 : (us 27) = .tuple #[.int .i64 (a : Int), .int .i64 0] := hdep 6 (by kernel_rfl)
      clear hdep
      refine ⟨_, rfl, fun K' hK => ?_⟩
      simp only [h6] at hK ⊢
      go_simp
      exact hK.out _ _ (Below.refl _ _) rfl
    | 8, _, hdep =>
      have h7 : (us 20) = .tuple #[.int .i64 (a : Int), .int .i64 0] := hdep 7 (by kernel_rfl)
      clear hdep
      refine ⟨_, rfl, fun K' hK => ?_⟩
      simp only [h7] at hK ⊢
      go_simp
      exact hK.out _ _ (Below.refl _ _) rfl
    | 9, _, hdep =>
      have h7 : (us 20) = .tuple #[.int .i64 (a : Int), .int .i64 0] := hdep 7 (by kernel_rfl)
      clear hdep
      refine ⟨_, rfl, fun K' hK => ?_⟩
      simp only [h7] at hK ⊢
      go_simp
      exact hK.out _ _ (Below.refl _ _) rfl
    | 10, _, hdep =>
      have h8 : (us 28) = .int .i64 (a : Int) := hdep 8 (by kernel_rfl)
      clear hdep
      refine ⟨_, rfl, fun K' hK => ?_⟩
      simp only [h8] at hK ⊢
      go_simp
      exact hK.out _ _ (Below.refl _ _) rfl
    | 11, _, hdep =>
      have h9 : (us 29) = .int .i64 0 := hdep 9 (by kernel_rfl)
      clear hdep
      refine ⟨_, rfl, fun K' hK => ?_⟩
      simp only [h9] at hK ⊢
      go_simp
      exact hK.out _ _ (Below.refl _ _) rfl
    | i + 12, hi, _ => exact absurd hi (by omega)
  case fin =>
    intro us w2 S8 hall
    have h10 : (us 9) = .int .i64 (a : Int) := hall 10 (by decide)
    have h11 : (us 10) = .int .i64 0 := hall 11 (by decide)
    clear hall
    simp only [h10, h11]
    clear h10 h11
    have HB2 : Hid (Below w.heap.size w w2) := HB1.out.trans (S8.mono HB1.out.size)
    clear S8 HT
    have hC := HC.out w2 HB2.out
    go_wp2_with fail
    refine (HS.out w2 HB2.out).mono ?_
    rintro e3 w3 ⟨rfl, nq, rfl⟩
    have HB3 : Hid (Below w.heap.size w (w2.drewN nq)) := HB2.out.trans ((below_drewN _ _).mono HB2.out.size)
    have hC := HC.out _ HB3.out
    clear HS HB2
    generalize w2.drewN nq = w4 at *
    have hs4 := HB3.out.size
    go_wp2_with fail
    refine (HIn.out _ _ (HB3.out.trans (show Below w.heap.size w4 _ from (by repeat (first | exact Below.refl _ _ | assumption | refine Below.drew ?_ | refine Below.alloc ?_ (by first | exact Nat.le_refl _ | omega | (simp; done) | (simp; omega)) _ | refine Below.setCell ?_ (by first | exact Nat.le_refl _ | omega | (simp; done) | (simp; omega)) _)))) (by simp [go_sem])).mono ?_
    rintro e3 w5 ⟨va', vc', rfl, ⟨qc, qf⟩, qn, qs⟩
    have HQn := hid qn
    have HQs := hid qs
    clear qn qs
    go_wp2
    go_ret
    exact ⟨_, rfl, HQn.out, HQs.out⟩
set_option maxHeartbeats 1600000 in
theorem origin_impl {M mb B r i a : Nat} {s : Ss} {g x f : R} {o e : List Int} {k : Nat → Nat} {v : Nat → Value} {w : World} (ad : Option Addr) (c : Nat) (h : NRd M mb B s g o e x f k v w) (hR : TRow w.heap.size w ad c (oW s o i)) (hk0 : k 0 = r) (hk1 : k 2 = i) (hsz : ∀ j, j < r → (s j).size ≤ maxLen)
    (e0 : zAt o i = a) (ha : Named s r a) (hi : i < 4) (hr : ∀ t u, t < u → u ≤ i → zAt o t < zAt o u) :
    Calls Tryz.prog 39 #[.pointer (some ⟨M, 0, none⟩), .slice ad 2 c] w fun e' w' => ∃ v', e' = .returned (.int .i64 0) ∧ NRd M mb B s g o e x f (fset k 2 (i + 1)) v' w' ∧ Stay M B w w' := by
  have HX := hid (into_impl (j := 2) (q := 3) (most := 4) ad c kOrigin o h hR (by decide) (.inl rfl) rfl (fun n => rfl) hk0 hk1 hsz e0 ha hi (by omega) hr)
  clear h hR hk0 hk1 hsz e0 ha hi hr
  go_enter Tryz.func39, Tryz.ntmps39
  go_wp2_with fail
  refine HX.out.mono ?_
  rintro e' w' ⟨v', rfl, hn, hs⟩
  have HN := hid hn
  have HS := hid hs
  clear hn hs HX
  go_wp2
  go_ret
  exact ⟨v', rfl, HN.out, HS.out⟩
set_option maxHeartbeats 1600000 in
theorem external_impl {M mb B r i a : Nat} {s : Ss} {g x f : R} {o e : List Int} {k : Nat → Nat} {v : Nat → Value} {w : World} (ad : Option Addr) (c : Nat) (h : NRd M mb B s g o e x f k v w) (hR : TRow w.heap.size w ad c (eW s e i)) (hk0 : k 0 = r) (hk1 : k 3 = i) (hsz : ∀ j, j < r → (s j).size ≤ maxLen)
    (e0 : zAt e i = a) (ha : Named s r a) (hi : i < 2) (hr : ∀ t u, t < u → u ≤ i → zAt e t < zAt e u) :
    Calls Tryz.prog 40 #[.pointer (some ⟨M, 0, none⟩), .slice ad 2 c] w fun e' w' => ∃ v', e' = .returned (.int .i64 0) ∧ NRd M mb B s g o e x f (fset k 3 (i + 1)) v' w' ∧ Stay M B w w' := by
  have HX := hid (into_impl (j := 3) (q := 4) (most := 2) ad c kExternal e h hR (by decide) (.inr rfl) rfl (fun n => rfl) hk0 hk1 hsz e0 ha hi (by omega) hr)
  clear h hR hk0 hk1 hsz e0 ha hi hr
  go_enter Tryz.func40, Tryz.ntmps40
  go_wp2_with fail
  refine HX.out.mono ?_
  rintro e' w' ⟨v', rfl, hn, hs⟩
  have HN := hid hn
  have HS := hid hs
  clear hn hs HX
  go_wp2
  go_ret
  exact ⟨v', rfl, HN.out, HS.out⟩
end Go.Proofs.YtffacjebnbplaaaGreatDoor.readInto
