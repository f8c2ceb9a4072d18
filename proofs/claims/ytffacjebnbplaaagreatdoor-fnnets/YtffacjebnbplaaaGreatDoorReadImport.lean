/- An import's line, of the program: readImport; conditions: names that are there, a link, a right deed. -/
import Derived.Test.YtffacjebnbplaaaGreatDoorReadDeedP
namespace Go.Proofs.YtffacjebnbplaaaGreatDoor.readImport
open Go.RowKit Go.Deep Go base heldStore drawn drawnSrc drawnMk netSem netLines netBytes netImpl askWords askSem readMath readNew readMem readSmall readAdd readLink readDeed readDeedP
set_option linter.unusedVariables false
theorem info_m : (Tryz.prog.info? 65).map (fun i => (i.zero, i.size, i.bytes)) = some (some (.agg #[.int .i64 0, .int .i64 0, .int .i64 0, .int .i64 0, .int .i64 0]), 5, 40) := by kernel_rfl
theorem five_at {w : World} {b : Nat} {x y z t u0 : Value} (h0 : w.cell? ⟨b, 0, none⟩ = some x) (h1 : w.cell? ⟨b, 1, none⟩ = some y) (h2 : w.cell? ⟨b, 2, none⟩ = some z) (h3 : w.cell? ⟨b, 3, none⟩ = some t) (h4 : w.cell? ⟨b, 4, none⟩ = some u0) : ∀ j u, [x, y, z, t, u0][j]? = some u → w.cell? ((⟨b, 0, none⟩ : Addr).add j) = some u := by
  intro j u h
  match j, h with
  | 0, h => simp at h; subst h; simpa [Addr.add] using h0
  | 1, h => simp at h; subst h; simpa [Addr.add] using h1
  | 2, h => simp at h; subst h; simpa [Addr.add] using h2
  | 3, h => simp at h; subst h; simpa [Addr.add] using h3
  | 4, h => simp at h; subst h; simpa [Addr.add] using h4
  | j + 5, h => simp at h
/-- The words of a deed, read wherever they lie. -/
theorem deed_read {h d n lw : Nat} (bk off c : Nat) (w : World) (hR : ∀ j t, (dW (h : Int) (d : Int) (n : Int))[j]? = some t → w.cell? ⟨bk, off + j, none⟩ = some (.string (piece t))) (hlw : lw = (dW (h : Int) (d : Int) (n : Int)).length) (hlc : lw ≤ c) (hm : c ≤ maxLen) (hbk : bk < w.heap.size) (h2 : h ≤ 2) (d1 : 1 ≤ d) (d2 : d ≤ 4) (hn : n ≤ 1000) (hd : d ≠ 2 → n = 0) :
    Calls Tryz.prog 68 #[.slice (some ⟨bk, off, none⟩) lw c] w fun e w' => e = .returned (.tuple #[.agg (imp0 h d n), .int .i64 0]) ∧ Below w.heap.size w w' := by
  have e0 : dW (h : Int) (d : Int) (n : Int) = (deedW h d n).map (·.data.toList) := by unfold dW; simp
  rw [e0] at hR hlw
  by_cases h0 : h = 0
  · subst h0
    refine deed_plain bk off c w ?_ hlc hm hbk ?_ ?_ d1 d2 hn hd
    · rw [hlw]; by_cases e : d = 2 <;> simp [deedW, whenW, prefW, e]
    · exact hR 0 (doN d).data.toList (by simp [deedW, whenW])
    · intro e
      exact hR 1 (numW n).data.toList (by simp [deedW, whenW, prefW, e])
  · refine deed_if bk off c w ?_ hlc hm hbk ?_ ?_ ?_ ?_ (by omega) h2 d1 d2 hn hd
    · rw [hlw]; by_cases e : d = 2 <;> simp [deedW, whenW, prefW, e, h0]
    · exact hR 0 ifW.data.toList (by simp [deedW, whenW, h0, ifW])
    · exact hR 1 (whenN h).data.toList (by simp [deedW, whenW, h0])
    · exact hR 2 (doN d).data.toList (by simp [deedW, whenW, h0])
    · intro e
      exact hR 3 (numW n).data.toList (by simp [deedW, whenW, prefW, e, h0])
set_option maxHeartbeats 3200000 in
set_option maxRecDepth 8000 in
theorem import_read {M mb B r i a b hh d n nl lw : Nat} {s : Ss} {g x f : R} {o e : List Int} {k : Nat → Nat} {v : Nat → Value} {w : World} (ad : Option Addr) (c : Nat) (h : NRd M mb B s g o e x f k v w) (hR : TRow w.heap.size w ad c (iW s x i)) (hlw : lw = (iW s x i).length) (hk0 : k 0 = r) (hkl : k 1 = nl) (hk1 : k 4 = i) (hsz : ∀ j, j < r → (s j).size ≤ maxLen)
    (e0 : x i 0 = a) (e1 : x i 1 = b) (e2 : x i 2 = hh) (e3 : x i 3 = d) (e4 : x i 4 = n) (ha : Named s r a) (hb : Named s r b) (h2 : hh ≤ 2) (d1 : 1 ≤ d) (d2 : d ≤ 4) (hn : n ≤ 1000) (hd : d ≠ 2 → n = 0) (hl : 0 ≤ linkAt g nl a b) (hi : i < 12) :
    Calls Tryz.prog 41 #[.pointer (some ⟨M, 0, none⟩), .slice ad lw c] w fun e' w' => ∃ v', e' = .returned (.int .i64 0) ∧ NRd M mb B s g o e x f (fset k 4 (i + 1)) v' w' ∧ Stay M B w w' := by
  have hcap := hR.cap
  rw [← hlw] at hcap
  have hmost := hR.most
  have hcm := hid hmost
  unfold maxLen at hmost
  have eW : iW s x i = [kImport, nm s a, kFrom, nm s b] ++ dW (hh : Int) (d : Int) (n : Int) := by unfold iW; rw [e0, e1, e2, e3, e4]
  rw [eW] at hR hlw
  have hdl : (dW (hh : Int) (d : Int) (n : Int)).length = lw - 4 ∧ 5 ≤ lw := by
    have h9 : 1 ≤ (dW (hh : Int) (d : Int) (n : Int)).length := by simp [dW, deedW]; omega
    rw [List.length_append] at hlw
    simp at hlw
    omega
  obtain ⟨bk, off, rfl, hbk, hc1⟩ := word_cell hR (i := 1) (t := nm s a) rfl
  obtain ⟨_, _, q2, _, hcf⟩ := word_cell hR (i := 2) (t := kFrom) rfl
  obtain ⟨_, _, q4, _, hc2⟩ := word_cell hR (i := 3) (t := nm s b) rfl
  simp only [Option.some.injEq, Addr.mk.injEq, and_true] at q2 q4
  obtain ⟨rfl, rfl⟩ := q2
  obtain ⟨rfl, rfl⟩ := q4
  have hDW : ∀ j t, (dW (hh : Int) (d : Int) (n : Int))[j]? = some t → w.cell? ⟨bk, off + 4 + j, none⟩ = some (.string (piece t)) := fun j t ht => by
    obtain ⟨_, _, q, _, hc⟩ := word_cell hR (i := 4 + j) (t := t) (by rw [List.getElem?_append_right (by simp)]; simpa using ht)
    simp only [Option.some.injEq, Addr.mk.injEq, and_true] at q
    obtain ⟨rfl, rfl⟩ := q
    rw [Nat.add_assoc]
    exact hc
  have p1 : piece (nm s a) = s a := rfl
  have p2 : piece (nm s b) = s b := rfl
  rw [p1] at hc1
  rw [p2] at hc2
  obtain ⟨va, vc, hv0, _⟩ := h.form (j := 0) (by omega)
  obtain ⟨na, nc, hvl, _⟩ := h.form (j := 1) (by omega)
  obtain ⟨la, lc, hv1, hlc⟩ := h.form (j := 4) (by omega)
  rw [hkl] at hvl
  rw [hk0] at hv0
  rw [hk1] at hv1 hlc
  have HT : Hid (∀ w8 : World, Below w.heap.size w w8 → Calls Tryz.prog 65 #[.pointer (some ⟨M, 0, none⟩), .string (s a), .string (s b)] w8 fun e w' => e = .returned (.tuple #[.int .i64 a, .int .i64 b, .int .i64 0]) ∧ w' = w8) := hid (fun w8 hb8 => by
    obtain ⟨hc0, hr0⟩ := (h.below hb8).names hv0 hk0 hsz
    exact two_impl M va r vc s (s a) (s b) a b w8 hc0 hr0 ha.ok ha.at_ hb.ok hb.at_)
  have HDd : Hid (∀ w8 : World, Below w.heap.size w w8 → Calls Tryz.prog 68 #[.slice (some ⟨bk, off + 4, none⟩) (lw - 4) (c - 4)] w8 fun e w' => e = .returned (.tuple #[.agg (imp0 hh d n), .int .i64 0]) ∧ Below w8.heap.size w8 w') := hid (fun w8 hb8 => deed_read bk (off + 4) (c - 4) w8 (fun j t ht => keep hb8 (hDW j t ht)) hdl.1.symm (by omega) (Nat.le_trans (Nat.sub_le _ _) hcm.out) (Nat.lt_of_lt_of_le hbk hb8.size) h2 d1 d2 hn hd)
  have HJ : Hid (∀ w8 : World, Below w.heap.size w w8 → Calls Tryz.prog 49 #[.slice na nl nc, .int .i64 a, .int .i64 b] w8 fun e w' => e = .returned (.bool true) ∧ Below w8.heap.size w8 w') := hid (fun w8 hb8 => by
    obtain ⟨hc0, hr0⟩ := (h.below hb8).links hvl hkl
    have h1 := joined_impl na nl nc g a b w8 hr0
    rw [decide_eq_true hl] at h1
    exact h1)
  have HC : Hid (∀ w8 : World, Below w.heap.size w w8 → w8.cell? ⟨M, 2, none⟩ = some (.slice na nl nc) ∧ w8.cell? ⟨M, 5, none⟩ = some (.slice la i lc)) := hid (fun w8 hb8 => ⟨((h.below hb8).links hvl hkl).1, by
    have h1 := (h.below hb8).at (j := 4) (by omega)
    rw [hv1] at h1
    exact h1⟩)
  have HOw0 : Hid (∀ w8 : World, Below w.heap.size w w8 → w8.ownsRow B 65 5 (.slice la i lc) i (flatR 5 x i)) := hid (fun w8 hb => h.own (j := 4) (by omega) hv1 hk1 hb)
  have HSt0 : Hid (∀ (W w8 : World) (va' : Option Addr) (vc' : Nat), Below w.heap.size w W → W.grownBy w8 (Value.ownBlock (.slice la i lc)) → w8.ownsRow B 65 5 (.slice va' (i + 1) vc') (i + 1) (flatR 5 x i ++ [.int .i64 a, .int .i64 b, .int .i64 hh, .int .i64 d, .int .i64 n]) → (Value.ownBlock (.slice va' (i + 1) vc') = Value.ownBlock (.slice la i lc) ∨ ∃ b, W.heap.size ≤ b ∧ Value.ownBlock (.slice va' (i + 1) vc') = some b) → (w8.cell? ⟨M, 5, none⟩ = some (.slice la i lc) ∧ w8.frozen? ⟨M, 5, none⟩ = false) ∧ NRd M mb B s g o e x f (fset k 4 (i + 1)) (fset v 4 (.slice va' (i + 1) vc')) (w8.setCell ⟨M, 5, none⟩ (.slice va' (i + 1) vc')) ∧ Stay M B w (w8.setCell ⟨M, 5, none⟩ (.slice va' (i + 1) vc'))) := hid (fun W w8 va' vc' hb hg ho hat => h.store (j := 4) (by omega) hv1 hk1 hb (es := [.int .i64 a, .int .i64 b, .int .i64 hh, .int .i64 d, .int .i64 n]) (by rw [← e0, ← e1, ← e2, ← e3, ← e4]; exact flat_succ 5 x i) w8 va' vc' hg ho hat)
  have HBW0 := hid h.le
  have HMl : Hid (M < w.heap.size) := hid (World.block_lt_of_cell? _ _ (h.cell (i := 0) (by omega)))
  have HMB := hid h.lt
  have HRl0 : Hid (∀ j, Value.ownBlock (.slice la i lc) = some j → B ≤ j ∧ j < w.heap.size) := hid (fun j hj => World.ownsRow.lt (h.own (j := 4) (by omega) hv1 hk1 (Below.refl _ _)) j hj)
  obtain ⟨i0, hi0, hzz⟩ := Option.map_eq_some_iff.1 info_m
  simp only [Prod.mk.injEq] at hzz
  obtain ⟨hz0, hz1, hz2⟩ := hzz
  have HI := hid hi0
  have HZ0 := hid hz0
  have HZ1 := hid hz1
  have HZ2 := hid hz2
  have hi12 : ((i : Int) == 12) = false := beq_eq_false_iff_ne.2 (by omega)
  have hl5 : 5 ≤ lw := hdl.2
  have ql : decide ((lw : Int) < 5) = false := decide_eq_false (by omega)
  have qf : ((piece kFrom).toList == ([102, 114, 111, 109] : List UInt8)) = true := by rw [piece_list]; rfl
  clear hi0 hz0 hz1 hz2 h hR hlw hk0 hk1 hkl hsz e0 e1 e2 e3 e4 ha hb hl p1 p2 eW hv0 hv1 hvl hdl hDW hd
  have HB0 : Hid (Below w.heap.size w w) := Below.refl _ _
  go_enter Tryz.func41, Tryz.ntmps41
  go_wp2_with fail
  refine region_calm (fun us => ⟨#[.pointer (some ⟨M, 0, none⟩), .slice (some ⟨bk, off, none⟩) lw c, undef, undef, .int .i64 0, us 5, us 6, us 7, undef, .slice (some ⟨bk, off, none⟩) lw c, .int .i64 lw, .bool false, .bool false, .slice (some ⟨bk, off, none⟩) lw c, .pointer (some ⟨bk, off + 2, none⟩), .string (piece kFrom), .bool false, .bool false, us 18, us 19, us 20, us 21, us 22, us 23, us 24, us 25, us 26, us 27, us 28, us 29, us 30, us 31, undef, undef, undef, undef, undef, undef, undef, undef, undef, undef, undef, undef, undef, undef, undef, undef, undef, undef, undef, undef, undef, undef, undef, undef, undef, undef, undef, undef, undef, undef, undef, undef, undef, undef, undef, undef, undef, undef, undef, undef, undef, undef, undef, undef, undef, undef, undef], []⟩) (fun i => [19, 20, 21, 22, 23, 24, 25, 26, 27, 28, 18, 29, 30, 31, 5, 6, 7].getD i 0) (fun i v w8 => match i with | 0 => v = .pointer (some ⟨M, 0, none⟩) | 1 => v = .pointer (some ⟨M, 0, none⟩) | 2 => v = .pointer (some ⟨M, 0, none⟩) | 3 => v = .slice (some ⟨bk, off, none⟩) lw c | 4 => v = .pointer (some ⟨bk, off + 1, none⟩) | 5 => v = .string (s a) | 6 => v = .slice (some ⟨bk, off, none⟩) lw c | 7 => v = .pointer (some ⟨bk, off + 3, none⟩) | 8 => v = .string (s b) | 9 => v = .tuple #[.int .i64 (a : Int), .int .i64 (b : Int), .int .i64 0] | 10 => v = .tuple #[.int .i64 (a : Int), .int .i64 (b : Int), .int .i64 0] | 11 => v = .int .i64 (a : Int) | 12 => v = .int .i64 (b : Int) | 13 => v = .int .i64 0 | 14 => v = .int .i64 (a : Int) | 15 => v = .int .i64 (b : Int) | 16 => v = .int .i64 0 | _ => True) w 17 (fun k => match k with | 19 => undef | 20 => undef | 21 => undef | 22 => undef | 23 => undef | 24 => undef | 25 => undef | 26 => undef | 27 => undef | 28 => undef | 18 => undef | 29 => undef | 30 => undef | 31 => undef | 5 => undef | 6 => undef | 7 => undef | _ => undef) (by rfl) (by kernel_rfl) (by rfl) (by kernel_rfl) (Below.refl _ _) ?hput ?hinj ?stable ?step ?fin
  case hput =>
    intro i hi us v
    match i, hi with
    | 0, _ => rfl
    | 1, _ => rfl
    | 2, _ => rfl
    | 3, _ => rfl
    | 4, _ => rfl
    | 5, _ => rfl
    | 6, _ => rfl
    | 7, _ => rfl
    | 8, _ => rfl
    | 9, _ => rfl
    | 10, _ => rfl
    | 11, _ => rfl
    | 12, _ => rfl
    | 13, _ => rfl
    | 14, _ => rfl
    | 15, _ => rfl
    | 16, _ => rfl
    | i + 17, hi => exact absurd hi (by omega)
  case hinj =>
    intro i j hi hj h
    exact slots_inj [19, 20, 21, 22, 23, 24, 25, 26, 27, 28, 18, 29, 30, 31, 5, 6, 7] (by decide) hi hj h
  case stable =>
    intro i v w8 w9 hb h
    match i, hb, h with
    | 0, hb, h => exact h
    | 1, hb, h => exact h
    | 2, hb, h => exact h
    | 3, hb, h => exact h
    | 4, hb, h => exact h
    | 5, hb, h => exact h
    | 6, hb, h => exact h
    | 7, hb, h => exact h
    | 8, hb, h => exact h
    | 9, hb, h => exact h
    | 10, hb, h => exact h
    | 11, hb, h => exact h
    | 12, hb, h => exact h
    | 13, hb, h => exact h
    | 14, hb, h => exact h
    | 15, hb, h => exact h
    | 16, hb, h => exact h
    | _ + 17, hb, h => trivial
  case step =>
    intro i hi us w8 S8 hdep
    match i, hi, hdep with
    | 0, _, hdep =>
      clear hdep
      refine ⟨_, rfl, fun K' hK => ?_⟩
      go_simp
      exact hK.out _ _ (Below.refl _ _) rfl
    | 1, _, hdep =>
      have h0 : (us 19) = .pointer (some ⟨M, 0, none⟩) := hdep 0 (by kernel_rfl)
      clear hdep
      refine ⟨_, rfl, fun K' hK => ?_⟩
      simp only [h0] at hK ⊢
      go_simp
      exact hK.out _ _ (Below.refl _ _) rfl
    | 2, _, hdep =>
      have h1 : (us 20) = .pointer (some ⟨M, 0, none⟩) := hdep 1 (by kernel_rfl)
      clear hdep
      refine ⟨_, rfl, fun K' hK => ?_⟩
      simp only [h1] at hK ⊢
      go_simp
      exact hK.out _ _ (Below.refl _ _) rfl
    | 3, _, hdep =>
      clear hdep
      refine ⟨_, rfl, fun K' hK => ?_⟩
      go_simp
      exact hK.out _ _ (Below.refl _ _) rfl
    | 4, _, hdep =>
      have h3 : (us 22) = .slice (some ⟨bk, off, none⟩) lw c := hdep 3 (by kernel_rfl)
      clear hdep
      refine ⟨_, rfl, fun K' hK => ?_⟩
      have hbn : 1 < lw := by omega
      have hbm : (1 : Int) < (lw : Int) := by omega
      simp only [h3] at hK ⊢
      go_simp
      exact hK.out _ _ (Below.refl _ _) rfl
    | 5, _, hdep =>
      have h4 : (us 23) = .pointer (some ⟨bk, off + 1, none⟩) := hdep 4 (by kernel_rfl)
      clear hdep
      refine ⟨_, rfl, fun K' hK => ?_⟩
      have q := keep S8 hc1
      simp only [h4] at hK ⊢
      go_simp
      exact hK.out _ _ (Below.refl _ _) rfl
    | 6, _, hdep =>
      clear hdep
      refine ⟨_, rfl, fun K' hK => ?_⟩
      go_simp
      exact hK.out _ _ (Below.refl _ _) rfl
    | 7, _, hdep =>
      have h6 : (us 25) = .slice (some ⟨bk, off, none⟩) lw c := hdep 6 (by kernel_rfl)
      clear hdep
      refine ⟨_, rfl, fun K' hK => ?_⟩
      have hbn : 3 < lw := by omega
      have hbm : (3 : Int) < (lw : Int) := by omega
      simp only [h6] at hK ⊢
      go_simp
      exact hK.out _ _ (Below.refl _ _) rfl
    | 8, _, hdep =>
      have h7 : (us 26) = .pointer (some ⟨bk, off + 3, none⟩) := hdep 7 (by kernel_rfl)
      clear hdep
      refine ⟨_, rfl, fun K' hK => ?_⟩
      have q := keep S8 hc2
      simp only [h7] at hK ⊢
      go_simp
      exact hK.out _ _ (Below.refl _ _) rfl
    | 9, _, hdep =>
      have h2 : (us 21) = .pointer (some ⟨M, 0, none⟩) := hdep 2 (by kernel_rfl)
      have h5 : (us 24) = .string (s a) := hdep 5 (by kernel_rfl)
      have h8 : (us 27) = .string (s b) := hdep 8 (by kernel_rfl)
      clear hdep
      refine ⟨_, rfl, fun K' hK => ?_⟩
      simp only [h2, h5, h8] at hK ⊢
      go_simp
      refine (HT.out w8 (HB0.out.trans (S8.mono HB0.out.size))).mono ?_
      rintro e9 w9 ⟨rfl, rfl⟩
      exact hK.out _ _ (Below.refl _ _) rfl
    | 10, _, hdep =>
      have h9 : (us 28) = .tuple #[.int .i64 (a : Int), .int .i64 (b : Int), .int .i64 0] := hdep 9 (by kernel_rfl)
      clear hdep
      refine ⟨_, rfl, fun K' hK => ?_⟩
      simp only [h9] at hK ⊢
      go_simp
      exact hK.out _ _ (Below.refl _ _) rfl
    | 11, _, hdep =>
      have h10 : (us 18) = .tuple #[.int .i64 (a : Int), .int .i64 (b : Int), .int .i64 0] := hdep 10 (by kernel_rfl)
      clear hdep
      refine ⟨_, rfl, fun K' hK => ?_⟩
      simp only [h10] at hK ⊢
      go_simp
      exact hK.out _ _ (Below.refl _ _) rfl
    | 12, _, hdep =>
      have h10 : (us 18) = .tuple #[.int .i64 (a : Int), .int .i64 (b : Int), .int .i64 0] := hdep 10 (by kernel_rfl)
      clear hdep
      refine ⟨_, rfl, fun K' hK => ?_⟩
      simp only [h10] at hK ⊢
      go_simp
      exact hK.out _ _ (Below.refl _ _) rfl
    | 13, _, hdep =>
      have h10 : (us 18) = .tuple #[.int .i64 (a : Int), .int .i64 (b : Int), .int .i64 0] := hdep 10 (by kernel_rfl)
      clear hdep
      refine ⟨_, rfl, fun K' hK => ?_⟩
      simp only [h10] at hK ⊢
      go_simp
      exact hK.out _ _ (Below.refl _ _) rfl
    | 14, _, hdep =>
      have h11 : (us 29) = .int .i64 (a : Int) := hdep 11 (by kernel_rfl)
      clear hdep
      refine ⟨_, rfl, fun K' hK => ?_⟩
      simp only [h11] at hK ⊢
      go_simp
      exact hK.out _ _ (Below.refl _ _) rfl
    | 15, _, hdep =>
      have h12 : (us 30) = .int .i64 (b : Int) := hdep 12 (by kernel_rfl)
      clear hdep
      refine ⟨_, rfl, fun K' hK => ?_⟩
      simp only [h12] at hK ⊢
      go_simp
      exact hK.out _ _ (Below.refl _ _) rfl
    | 16, _, hdep =>
      have h13 : (us 31) = .int .i64 0 := hdep 13 (by kernel_rfl)
      clear hdep
      refine ⟨_, rfl, fun K' hK => ?_⟩
      simp only [h13] at hK ⊢
      go_simp
      exact hK.out _ _ (Below.refl _ _) rfl
    | i + 17, hi, _ => exact absurd hi (by omega)
  case fin =>
    intro us w3 S8 hall
    have h14 : (us 5) = .int .i64 (a : Int) := hall 14 (by decide)
    have h15 : (us 6) = .int .i64 (b : Int) := hall 15 (by decide)
    have h16 : (us 7) = .int .i64 0 := hall 16 (by decide)
    clear hall
    simp only [h14, h15, h16]
    clear h14 h15 h16
    have HB3 : Hid (Below w.heap.size w w3) := HB0.out.trans (S8.mono HB0.out.size)
    have hs3 := HB3.out.size
    have hc4n : ¬ c = 4 := by omega
    have hl4 : 4 ≤ lw := by omega
    clear S8 HT
    go_wp2_with fail
    refine (HDd.out w3 HB3.out).mono ?_
    rintro e4 w4 ⟨rfl, hb4⟩
    have HB4 : Hid (Below w.heap.size w w4) := HB3.out.trans (hb4.mono HB3.out.size)
    have hs4 := HB4.out.size
    obtain ⟨hC, hC5⟩ := HC.out w4 HB4.out
    have hM4 : M < w4.heap.size := Nat.lt_of_lt_of_le HMl.out hs4
    clear hb4 HDd
    unfold imp0
    go_wp2_with fail
    obtain ⟨NI, hNI⟩ : ∃ N, w4.heap.size = N := ⟨_, rfl⟩
    obtain ⟨W4, hW4⟩ : ∃ W, w4.alloc (.cells #[.int .i64 0, .int .i64 0, .int .i64 hh, .int .i64 d, .int .i64 n] 65) = W := ⟨_, rfl⟩
    have hI4 : W4.heap[NI]? = some (.cells #[.int .i64 0, .int .i64 0, .int .i64 hh, .int .i64 d, .int .i64 n] 65 (0, 0)) := by rw [← hW4, ← hNI]; exact heap_alloc_new w4 _
    have HBW4 : Hid (Below w.heap.size w W4) := hid (by rw [← hW4]; exact HB4.out.trans (show Below w.heap.size w4 _ from (by repeat (first | exact Below.refl _ _ | assumption | refine Below.drew ?_ | refine Below.alloc ?_ (by first | exact Nat.le_refl _ | omega | (simp; done) | (simp; omega)) _ | refine Below.setCell ?_ (by first | exact Nat.le_refl _ | omega | (simp; done) | (simp; omega)) _))))
    have hNw : w.heap.size ≤ NI := by rw [← hNI]; exact hs4
    rw [hW4, hNI]
    clear hW4 hNI hC hC5 hM4 hs4 HB4
    refine (HJ.out W4 HBW4.out).mono ?_
    rintro e5 w5 ⟨rfl, hb5⟩
    have hI5 := (hb5.block NI (Array.getElem?_eq_some_iff.1 hI4).1).trans hI4
    have HB5 : Hid (Below w.heap.size w w5) := HBW4.out.trans (hb5.mono HBW4.out.size)
    have hs5 := HB5.out.size
    obtain ⟨hC, hC5⟩ := HC.out w5 HB5.out
    have hI6 := put_at (o := 1) (.int .i64 (b : Int)) (put_at (o := 0) (.int .i64 (a : Int)) hI5)
    obtain ⟨W6, hW6⟩ : ∃ W, (w5.setCell ⟨NI, 0, none⟩ (.int .i64 (a : Int))).setCell ⟨NI, 1, none⟩ (.int .i64 (b : Int)) = W := ⟨_, rfl⟩
    have HB6 : Hid (Below w.heap.size w W6) := hid (by rw [← hW6]; exact (HB5.out.setCell (by dsimp only; omega) _).setCell (by dsimp only; omega) _)
    rw [hW6] at hI6
    have HI6 : Hid (W6.heap[NI]? = some (.cells #[.int .i64 a, .int .i64 b, .int .i64 hh, .int .i64 d, .int .i64 n] 65 (0, 0))) := hid hI6
    have c0 := cell_in hI5 0
    have c1 := cell_in hI5 1
    have z0 := frozen_in hI5 0
    have z1 := frozen_in hI5 1
    simp only [List.getElem?_toArray, List.getElem?_cons_zero, List.getElem?_cons_succ] at c0 c1
    clear hb5 hI4 hI6 HBW4 HJ hI5
    go_wp2_with fail
    (try rw [hW6])
    clear hW6 c0 c1 z0 z1 hC hC5 HB5 hs5
    have hs6 := HB6.out.size
    have HMc : Hid (∀ w8 : World, World.grownBy W6 w8 (Value.ownBlock (.slice la i lc)) → w8.cell? ⟨M, 5, none⟩ = some (.slice la i lc) ∧ w8.cell? ⟨NI, 0, none⟩ = some (.int .i64 a) ∧ w8.cell? ⟨NI, 1, none⟩ = some (.int .i64 b) ∧ w8.cell? ⟨NI, 2, none⟩ = some (.int .i64 hh) ∧ w8.cell? ⟨NI, 3, none⟩ = some (.int .i64 d) ∧ w8.cell? ⟨NI, 4, none⟩ = some (.int .i64 n)) := hid (fun w8 hg => by
      have h1 := (HC.out W6 HB6.out).2
      have hneM : some M ≠ Value.ownBlock (.slice la i lc) := fun e => by have := (HRl0.out M e.symm).1; have := HMB.out; omega
      have hneN : some NI ≠ Value.ownBlock (.slice la i lc) := fun e => by have := (HRl0.out NI e.symm).2; omega
      have h2 := (hg.block NI (Array.getElem?_eq_some_iff.1 HI6.out).1 hneN).trans HI6.out
      exact ⟨(World.cell?_of_block (a := ⟨M, 5, none⟩) (hg.block M (World.block_lt_of_cell? _ _ h1) hneM)).trans h1, cell_in h2 0, cell_in h2 1, cell_in h2 2, cell_in h2 3, cell_in h2 4⟩)
    have HOw : Hid (∀ w8 : World, Below W6.heap.size W6 w8 → w8.ownsRow B 65 5 (.slice la i lc) i (flatR 5 x i)) := hid (fun w8 hb => HOw0.out w8 (HB6.out.trans (hb.mono HB6.out.size)))
    have HSt := hid (fun w8 va' vc' => HSt0.out W6 w8 va' vc' HB6.out)
    have HBW : Hid (B ≤ W6.heap.size) := Nat.le_trans HBW0.out HB6.out.size
    have HRl : Hid (∀ j, Value.ownBlock (.slice la i lc) = some j → j < W6.heap.size) := hid (fun j hj => Nat.lt_of_lt_of_le (HRl0.out j hj).2 HB6.out.size)
    clear HOw0 HSt0 HBW0 HRl0 HC HMB HMl
    refine drawnApp.region_app (fun ua => ⟨#[.pointer (some ⟨M, 0, none⟩), .slice (some ⟨bk, off, none⟩) lw c, undef, undef, .int .i64 0, .int .i64 a, .int .i64 b, .int .i64 0, .pointer (some ⟨NI, 0, none⟩), .slice (some ⟨bk, off, none⟩) lw c, .int .i64 lw, .bool false, .bool false, .slice (some ⟨bk, off, none⟩) lw c, .pointer (some ⟨bk, off + 2, none⟩), .string (piece kFrom), .bool false, .bool false, us 18, us 19, us 20, us 21, us 22, us 23, us 24, us 25, us 26, us 27, us 28, us 29, us 30, us 31, .int .i64 0, .bool false, undef, .tuple #[.agg #[.int .i64 0, .int .i64 0, .int .i64 hh, .int .i64 d, .int .i64 n], .int .i64 0], .slice (some ⟨bk, off, none⟩) lw c, .slice (some ⟨bk, off + 4, none⟩) (lw - 4) (c - 4), .tuple #[.agg #[.int .i64 0, .int .i64 0, .int .i64 hh, .int .i64 d, .int .i64 n], .int .i64 0], .agg #[.int .i64 0, .int .i64 0, .int .i64 hh, .int .i64 d, .int .i64 n], .int .i64 0, .bool false, .int .i64 0, .bool false, undef, .bool false, .pointer (some ⟨M, 0, none⟩), .pointer (some ⟨M, 0, none⟩), .pointer (some ⟨M, 1, none⟩), .pointer (some ⟨M, 2, none⟩), .slice na nl nc, .int .i64 a, .int .i64 b, .bool true, .bool false, .bool false, .pointer (some ⟨M, 0, none⟩), .pointer (some ⟨M, 0, none⟩), .pointer (some ⟨M, 1, none⟩), .pointer (some ⟨M, 5, none⟩), .slice la i lc, .int .i64 i, .bool false, .int .i64 a, .int .i64 b, .pointer (some ⟨NI, 0, none⟩), .pointer (some ⟨NI, 1, none⟩), ua 67, ua 68, ua 69, ua 70, ua 71, ua 72, ua 73, ua 74, ua 75, ua 76, ua 77, ua 78], []⟩) (fun i => [67, 68, 69, 70, 71, 72, 73, 74, 75, 76, 77, 78].getD i 0) (fun iq vq w8 => match iq with | 0 => vq = .pointer (some ⟨M, 0, none⟩) | 1 => vq = .pointer (some ⟨M, 0, none⟩) | 2 => vq = .pointer (some ⟨M, 0, none⟩) | 3 => vq = .pointer (some ⟨M, 1, none⟩) | 4 => vq = .pointer (some ⟨M, 5, none⟩) | 5 => vq = .slice la i lc | 6 => vq = .agg #[.int .i64 (a : Int), .int .i64 (b : Int), .int .i64 (hh : Int), .int .i64 (d : Int), .int .i64 (n : Int)] | 7 => ∃ gb, vq = .slice (some ⟨gb, 0, none⟩) 1 1 ∧ W6.heap.size ≤ gb ∧ World.cell? w8 ⟨gb, 0, none⟩ = some (.int .i64 (a : Int)) ∧ World.cell? w8 ⟨gb, 1, none⟩ = some (.int .i64 (b : Int)) ∧ World.cell? w8 ⟨gb, 2, none⟩ = some (.int .i64 (hh : Int)) ∧ World.cell? w8 ⟨gb, 3, none⟩ = some (.int .i64 (d : Int)) ∧ World.cell? w8 ⟨gb, 4, none⟩ = some (.int .i64 (n : Int)) | 8 => World.ownsRow w8 B 65 5 vq (i + 1) (flatR 5 x i ++ [.int .i64 (a : Int), .int .i64 (b : Int), .int .i64 (hh : Int), .int .i64 (d : Int), .int .i64 (n : Int)]) ∧ (Value.ownBlock vq = Value.ownBlock (.slice la i lc) ∨ ∃ b, W6.heap.size ≤ b ∧ Value.ownBlock vq = some b) | 9 => vq = .pointer (some ⟨M, 0, none⟩) | 10 => vq = .pointer (some ⟨M, 1, none⟩) | 11 => vq = .pointer (some ⟨M, 5, none⟩) | _ => True) W6 (Value.ownBlock (.slice la i lc)) 8 12 (fun k => match k with | 67 => undef | 68 => undef | 69 => undef | 70 => undef | 71 => undef | 72 => undef | 73 => undef | 74 => undef | 75 => undef | 76 => undef | 77 => undef | 78 => undef | _ => undef) (by rfl) (by kernel_rfl) (by rfl) ⟨by kernel_rfl, by kernel_rfl, by kernel_rfl, by decide⟩ (by kernel_rfl) (Below.refl _ _) ?hput ?hinj ?stB ?stA ?step ?last
    case hput =>
      intro i hi ua v
      match i, hi with
      | 0, _ => rfl
      | 1, _ => rfl
      | 2, _ => rfl
      | 3, _ => rfl
      | 4, _ => rfl
      | 5, _ => rfl
      | 6, _ => rfl
      | 7, _ => rfl
      | 8, _ => rfl
      | 9, _ => rfl
      | 10, _ => rfl
      | 11, _ => rfl
      | i + 12, hi => exact absurd hi (by omega)
    case hinj =>
      intro i j hi hj h
      exact slots_inj [67, 68, 69, 70, 71, 72, 73, 74, 75, 76, 77, 78] (by decide) hi hj h
    case stB =>
      intro iq vq w8 w9 hb h
      match iq, h with
      | 0, h => exact h
      | 1, h => exact h
      | 2, h => exact h
      | 3, h => exact h
      | 4, h => exact h
      | 5, h => exact h
      | 6, h => exact h
      | 7, h => obtain ⟨gb, e1, e2, k0, k1, k2, k3, k4⟩ := h; exact ⟨gb, e1, e2, keep hb k0, keep hb k1, keep hb k2, keep hb k3, keep hb k4⟩
      | 8, h => exact ⟨readMem.own_kept h.1 fun b hg => hb.block b (World.ownsRow.lt h.1 b hg).2, h.2⟩
      | 9, h => exact h
      | 10, h => exact h
      | 11, h => exact h
      | _ + 12, h => trivial
    case stA =>
      intro iq vq w8 w9 hne hb hg h
      match iq, hne, h with
      | 0, _, h => exact h
      | 1, _, h => exact h
      | 2, _, h => exact h
      | 3, _, h => exact h
      | 4, _, h => exact h
      | 5, _, h => exact h
      | 6, _, h => exact h
      | 7, _, h => obtain ⟨gb, e1, e2, k0, k1, k2, k3, k4⟩ := h; have kk : ∀ {q u}, w8.cell? ⟨gb, q, none⟩ = some u → w9.cell? ⟨gb, q, none⟩ = some u := fun {q u} e3 => (World.cell?_of_block (a := ⟨gb, q, none⟩) (hg.block gb (World.block_lt_of_cell? _ _ e3) (fun e => by have := HRl.out gb e.symm; omega))).trans e3; exact ⟨gb, e1, e2, kk k0, kk k1, kk k2, kk k3, kk k4⟩
      | 8, hne, h => exact absurd rfl hne
      | 9, _, h => exact h
      | 10, _, h => exact h
      | 11, _, h => exact h
      | _ + 12, _, h => trivial
    case step =>
      intro iq hi ua w8 S8 hq hdep
      match iq, hi, hq, hdep with
      | 0, _, hq, hdep =>
        clear hdep
        refine ⟨_, rfl, fun K' hK => ?_⟩
        go_simp
        exact hK.out _ _ (drawnApp.grown_refl _ _) (fun _ => Below.refl _ _) rfl
      | 1, _, hq, hdep =>
        clear hdep
        refine ⟨_, rfl, fun K' hK => ?_⟩
        go_simp
        exact hK.out _ _ (drawnApp.grown_refl _ _) (fun _ => Below.refl _ _) rfl
      | 2, _, hq, hdep =>
        have h1 : (ua 68) = .pointer (some ⟨M, 0, none⟩) := hdep 1 (by kernel_rfl)
        clear hdep
        refine ⟨_, rfl, fun K' hK => ?_⟩
        simp only [h1] at hK ⊢
        go_simp
        exact hK.out _ _ (drawnApp.grown_refl _ _) (fun _ => Below.refl _ _) rfl
      | 3, _, hq, hdep =>
        have h2 : (ua 69) = .pointer (some ⟨M, 0, none⟩) := hdep 2 (by kernel_rfl)
        clear hdep
        refine ⟨_, rfl, fun K' hK => ?_⟩
        simp only [h2] at hK ⊢
        go_simp
        exact hK.out _ _ (drawnApp.grown_refl _ _) (fun _ => Below.refl _ _) rfl
      | 4, _, hq, hdep =>
        have h3 : (ua 70) = .pointer (some ⟨M, 1, none⟩) := hdep 3 (by kernel_rfl)
        clear hdep
        refine ⟨_, rfl, fun K' hK => ?_⟩
        simp only [h3] at hK ⊢
        go_simp
        exact hK.out _ _ (drawnApp.grown_refl _ _) (fun _ => Below.refl _ _) rfl
      | 5, _, hq, hdep =>
        have h4 : (ua 71) = .pointer (some ⟨M, 5, none⟩) := hdep 4 (by kernel_rfl)
        clear hdep
        refine ⟨_, rfl, fun K' hK => ?_⟩
        obtain ⟨qc, q0, q1, q2, q3, q4⟩ := HMc.out w8 S8
        simp only [h4] at hK ⊢
        go_simp
        exact hK.out _ _ (drawnApp.grown_refl _ _) (fun _ => Below.refl _ _) rfl
      | 6, _, hq, hdep =>
        clear hdep
        refine ⟨_, rfl, fun K' hK => ?_⟩
        obtain ⟨qc, q0, q1, q2, q3, q4⟩ := HMc.out w8 S8
        go_simp
        exact hK.out _ _ (drawnApp.grown_refl _ _) (fun _ => Below.refl _ _) rfl
      | 7, _, hq, hdep =>
        have h6 : (ua 73) = .agg #[.int .i64 (a : Int), .int .i64 (b : Int), .int .i64 (hh : Int), .int .i64 (d : Int), .int .i64 (n : Int)] := hdep 6 (by kernel_rfl)
        clear hdep
        refine ⟨_, rfl, fun K' hK => ?_⟩
        simp only [h6] at hK ⊢
        go_simp
        exact hK.out _ _ (drawnApp.grown_below (by repeat (first | exact Below.refl _ _ | assumption | refine Below.drew ?_ | refine Below.alloc ?_ (by first | exact Nat.le_refl _ | omega | (simp; done) | (simp; omega)) _ | refine Below.setCell ?_ (by first | exact Nat.le_refl _ | omega | (simp; done) | (simp; omega)) _))) (fun _ => (by repeat (first | exact Below.refl _ _ | assumption | refine Below.drew ?_ | refine Below.alloc ?_ (by first | exact Nat.le_refl _ | omega | (simp; done) | (simp; omega)) _ | refine Below.setCell ?_ (by first | exact Nat.le_refl _ | omega | (simp; done) | (simp; omega)) _))) ⟨w8.heap.size, rfl, S8.size, by simp [go_sem], by simp [go_sem], by simp [go_sem], by simp [go_sem], by simp [go_sem]⟩
      | 8, _, hq, hdep =>
        have h5 : (ua 72) = .slice la i lc := hdep 5 (by kernel_rfl)
        have h7 : ∃ gb, (ua 74) = .slice (some ⟨gb, 0, none⟩) 1 1 ∧ W6.heap.size ≤ gb ∧ World.cell? w8 ⟨gb, 0, none⟩ = some (.int .i64 (a : Int)) ∧ World.cell? w8 ⟨gb, 1, none⟩ = some (.int .i64 (b : Int)) ∧ World.cell? w8 ⟨gb, 2, none⟩ = some (.int .i64 (hh : Int)) ∧ World.cell? w8 ⟨gb, 3, none⟩ = some (.int .i64 (d : Int)) ∧ World.cell? w8 ⟨gb, 4, none⟩ = some (.int .i64 (n : Int)) := hdep 7 (by kernel_rfl)
        clear hdep
        refine ⟨_, rfl, fun K' hK => ?_⟩
        obtain ⟨gb, e7, hgb, k0, k1, k2, k3, k4⟩ := h7
        refine stepAppend.step_append_at w8 rfl _ _ 26 rfl (some 75) rfl B 65 i0 _ 5 40 Tryz.underlying26 HI.out HZ0.out HZ1.out HZ2.out rfl (by decide) _ _ _ h5 (HOw.out w8 (hq rfl)) ⟨gb, 0, none⟩ 1 1 [.int .i64 (a : Int), .int .i64 (b : Int), .int .i64 (hh : Int), .int .i64 (d : Int), .int .i64 (n : Int)] e7 rfl (five_at k0 k1 k2 k3 k4) (fun y hy => by simp at hy; rcases hy with rfl | rfl | rfl | rfl | rfl <;> rfl) (by unfold maxLen; omega) (by omega) (Nat.le_trans HBW.out S8.size) ?_
        intro v1 w1 hown hg hat
        refine hK.out v1 w1 hg (fun h => absurd rfl h) ⟨hown, ?_⟩
        rcases hat with hat | hat
        · exact .inl hat
        · exact .inr ⟨_, S8.size, hat⟩
      | 9, _, hq, hdep =>
        have h0 : (ua 67) = .pointer (some ⟨M, 0, none⟩) := hdep 0 (by kernel_rfl)
        clear hdep
        refine ⟨_, rfl, fun K' hK => ?_⟩
        simp only [h0] at hK ⊢
        go_simp
        exact hK.out _ _ (drawnApp.grown_refl _ _) (fun _ => Below.refl _ _) rfl
      | 10, _, hq, hdep =>
        have h9 : (ua 76) = .pointer (some ⟨M, 0, none⟩) := hdep 9 (by kernel_rfl)
        clear hdep
        refine ⟨_, rfl, fun K' hK => ?_⟩
        simp only [h9] at hK ⊢
        go_simp
        exact hK.out _ _ (drawnApp.grown_refl _ _) (fun _ => Below.refl _ _) rfl
      | 11, _, hq, hdep =>
        have h10 : (ua 77) = .pointer (some ⟨M, 1, none⟩) := hdep 10 (by kernel_rfl)
        clear hdep
        refine ⟨_, rfl, fun K' hK => ?_⟩
        simp only [h10] at hK ⊢
        go_simp
        exact hK.out _ _ (drawnApp.grown_refl _ _) (fun _ => Below.refl _ _) rfl
      | i + 12, hi, _, _ => exact absurd hi (by omega)
    case last =>
      intro ua w8 S8 hall
      have h8 : World.ownsRow w8 B 65 5 (ua 75) (i + 1) (flatR 5 x i ++ [.int .i64 (a : Int), .int .i64 (b : Int), .int .i64 (hh : Int), .int .i64 (d : Int), .int .i64 (n : Int)]) ∧ (Value.ownBlock (ua 75) = Value.ownBlock (.slice la i lc) ∨ ∃ b, W6.heap.size ≤ b ∧ Value.ownBlock (ua 75) = some b) := hall 8 (by decide)
      have h11 : (ua 78) = .pointer (some ⟨M, 5, none⟩) := hall 11 (by decide)
      clear hall
      refine ⟨_, rfl, fun K' hK => ?_⟩
      obtain ⟨vn, hvn⟩ : ∃ vn, ua 75 = vn := ⟨_, rfl⟩
      rw [hvn] at h8
      obtain ⟨va2, vc2, e8⟩ := own_form h8.1
      subst e8
      obtain ⟨⟨qc, qf⟩, qn, qs⟩ := HSt.out w8 va2 vc2 S8 h8.1 h8.2
      have HQn := hid qn
      have HQs := hid qs
      clear qn qs
      simp only [h11, hvn] at hK ⊢
      go_simp
      refine hK.out _ _ ?_
      clear h8 h11 hvn qc qf S8
      go_wp2
      go_ret
      exact ⟨_, rfl, HQn.out, HQs.out⟩
end Go.Proofs.YtffacjebnbplaaaGreatDoor.readImport
