/- A filter's line, of the program: readFilter; conditions: names that are there, a link, right ports. -/
import Derived.Test.YtffacjebnbplaaaGreatDoorReadInto
import Derived.Test.YtffacjebnbplaaaGreatDoorNetFace
namespace Go.Proofs.YtffacjebnbplaaaGreatDoor.readFilter
open Go.RowKit Go.Deep Go base heldStore drawn drawnSrc drawnMk netSem netLines netBytes netImpl askWords askSem readMath readNew readMem readSmall readAdd readLink
set_option linter.unusedVariables false
theorem info_f : (Tryz.prog.info? 68).map (fun i => (i.zero, i.size, i.bytes)) = some (some (.agg #[.int .i64 0, .int .i64 0, .int .i64 0, .int .i64 0]), 4, 32) := by kernel_rfl
theorem four_at {w : World} {b : Nat} {x y z t : Value} (h0 : w.cell? ⟨b, 0, none⟩ = some x) (h1 : w.cell? ⟨b, 1, none⟩ = some y) (h2 : w.cell? ⟨b, 2, none⟩ = some z) (h3 : w.cell? ⟨b, 3, none⟩ = some t) : ∀ j u, [x, y, z, t][j]? = some u → w.cell? ((⟨b, 0, none⟩ : Addr).add j) = some u := by
  intro j u h
  match j, h with
  | 0, h => simp at h; subst h; simpa [Addr.add] using h0
  | 1, h => simp at h; subst h; simpa [Addr.add] using h1
  | 2, h => simp at h; subst h; simpa [Addr.add] using h2
  | 3, h => simp at h; subst h; simpa [Addr.add] using h3
  | j + 4, h => simp at h
set_option maxHeartbeats 3200000 in
set_option maxRecDepth 8000 in
theorem filter_read {M mb B r i a b N N2 nl : Nat} {s : Ss} {g x f : R} {o e : List Int} {k : Nat → Nat} {v : Nat → Value} {w : World} (ad : Option Addr) (c : Nat) (h : NRd M mb B s g o e x f k v w) (hR : TRow w.heap.size w ad c (fW s f i)) (hk0 : k 0 = r) (hkl : k 1 = nl) (hk1 : k 5 = i) (hsz : ∀ j, j < r → (s j).size ≤ maxLen)
    (e0 : f i 0 = a) (e1 : f i 1 = b) (e2 : f i 2 = N) (e3 : f i 3 = N2) (ha : Named s r a) (hb : Named s r b) (hN1 : N ≤ 15) (hN2 : N2 ≤ 15) (hp : portsB N N2 = true) (hl : 0 ≤ linkAt g nl a b) (hi : i < 6) :
    Calls Tryz.prog 42 #[.pointer (some ⟨M, 0, none⟩), .slice ad 7 c] w fun e' w' => ∃ v', e' = .returned (.int .i64 0) ∧ NRd M mb B s g o e x f (fset k 5 (i + 1)) v' w' ∧ Stay M B w w' := by
  have hcap : 7 ≤ c := hR.cap
  have hmost := hR.most
  unfold maxLen at hmost
  have eW : fW s f i = [kFilter, nm s a, kTo, nm s b, kPort, Lib.itoa (N : Int), Lib.itoa (N2 : Int)] := by unfold fW; rw [e0, e1, e2, e3]
  rw [eW] at hR
  obtain ⟨bk, off, rfl, hbk, hc1⟩ := word_cell hR (i := 1) (t := nm s a) rfl
  obtain ⟨_, _, q2, _, hc2⟩ := word_cell hR (i := 3) (t := nm s b) rfl
  obtain ⟨_, _, q4, _, hc4⟩ := word_cell hR (i := 5) (t := Lib.itoa (N : Int)) rfl
  obtain ⟨_, _, q5, _, hc5⟩ := word_cell hR (i := 6) (t := Lib.itoa (N2 : Int)) rfl
  simp only [Option.some.injEq, Addr.mk.injEq, and_true] at q2 q4 q5
  obtain ⟨rfl, rfl⟩ := q2
  obtain ⟨rfl, rfl⟩ := q4
  obtain ⟨rfl, rfl⟩ := q5
  have p1 : piece (nm s a) = s a := rfl
  have p2 : piece (nm s b) = s b := rfl
  have p4 : piece (Lib.itoa (N : Int)) = numW N := rfl
  have p5 : piece (Lib.itoa (N2 : Int)) = numW N2 := rfl
  rw [p1] at hc1
  rw [p2] at hc2
  rw [p4] at hc4
  rw [p5] at hc5
  obtain ⟨va, vc, hv0, _⟩ := h.form (j := 0) (by omega)
  obtain ⟨na, nc, hvl, _⟩ := h.form (j := 1) (by omega)
  obtain ⟨la, lc, hv1, hlc⟩ := h.form (j := 5) (by omega)
  rw [hkl] at hvl
  rw [hk0] at hv0
  rw [hk1] at hv1 hlc
  have HF2 : Hid (∀ (fb : Nat) (w8 : World), Below w.heap.size w w8 → (∀ i y, ([kFilter, [], kTo, [], kPort, [], []] : List Wd)[i]? = some y → w8.cell? ⟨fb, i, none⟩ = some (.string (piece y))) → Calls Tryz.prog 63 #[.slice (some ⟨bk, off, none⟩) 7 c, .slice (some ⟨fb, 0, none⟩) 7 7] w8 fun e w' => e = .returned (.bool true) ∧ w' = w8) := hid (fun fb w8 hb8 hc8 => by
    have h1 := form_impl w.heap.size (some ⟨bk, off, none⟩) c _ [kFilter, [], kTo, [], kPort, [], []] fb w8 (hR.under hb8) hc8 (by simp)
    have h2 : formB [kFilter, nm s a, kTo, nm s b, kPort, Lib.itoa (N : Int), Lib.itoa (N2 : Int)] [kFilter, [], kTo, [], kPort, [], []] = true := by simp [formB, allN, formAt, List.range_succ, kFilter, kTo, kPort]
    rw [h2] at h1
    exact h1)
  have HT : Hid (∀ w8 : World, Below w.heap.size w w8 → Calls Tryz.prog 65 #[.pointer (some ⟨M, 0, none⟩), .string (s a), .string (s b)] w8 fun e w' => e = .returned (.tuple #[.int .i64 a, .int .i64 b, .int .i64 0]) ∧ w' = w8) := hid (fun w8 hb8 => by
    obtain ⟨hc0, hr0⟩ := (h.below hb8).names hv0 hk0 hsz
    exact two_impl M va r vc s (s a) (s b) a b w8 hc0 hr0 ha.ok ha.at_ hb.ok hb.at_)
  have HNm : Hid (∀ w8 : World, Calls Tryz.prog 66 #[.string (numW N)] w8 fun e w' => e = .returned (.tuple #[.int .i64 N, .bool true]) ∧ w' = w8) := hid (fun w8 => by
    have h1 := numbers.number_impl (numW N) w8
    obtain ⟨f1, f2, _⟩ := num_facts (n := N) (by omega)
    rw [f1, f2] at h1
    exact h1)
  have HNm2 : Hid (∀ w8 : World, Calls Tryz.prog 66 #[.string (numW N2)] w8 fun e w' => e = .returned (.tuple #[.int .i64 N2, .bool true]) ∧ w' = w8) := hid (fun w8 => by
    have h1 := numbers.number_impl (numW N2) w8
    obtain ⟨f1, f2, _⟩ := num_facts (n := N2) (by omega)
    rw [f1, f2] at h1
    exact h1)
  have HW : Hid (∀ w8 : World, Calls Tryz.prog 55 #[.int .i64 N, .int .i64 N2] w8 fun e w' => e = .returned (.bool true) ∧ w' = w8) := hid (fun w8 => by
    have h1 := netFace.ports_impl (N : Int) (N2 : Int) w8
    rw [hp] at h1
    exact h1)
  have HJ : Hid (∀ w8 : World, Below w.heap.size w w8 → Calls Tryz.prog 49 #[.slice na nl nc, .int .i64 a, .int .i64 b] w8 fun e w' => e = .returned (.bool true) ∧ Below w8.heap.size w8 w') := hid (fun w8 hb8 => by
    obtain ⟨hc0, hr0⟩ := (h.below hb8).links hvl hkl
    have h1 := joined_impl na nl nc g a b w8 hr0
    rw [decide_eq_true hl] at h1
    exact h1)
  have HC : Hid (∀ w8 : World, Below w.heap.size w w8 → w8.cell? ⟨M, 2, none⟩ = some (.slice na nl nc) ∧ w8.cell? ⟨M, 6, none⟩ = some (.slice la i lc)) := hid (fun w8 hb8 => ⟨((h.below hb8).links hvl hkl).1, by
    have h1 := (h.below hb8).at (j := 5) (by omega)
    rw [hv1] at h1
    exact h1⟩)
  have HOw : Hid (∀ w8 : World, Below w.heap.size w w8 → w8.ownsRow B 68 4 (.slice la i lc) i (flatR 4 f i)) := hid (fun w8 hb => h.own (j := 5) (by omega) hv1 hk1 hb)
  have HSt : Hid (∀ (W w8 : World) (va' : Option Addr) (vc' : Nat), Below w.heap.size w W → W.grownBy w8 (Value.ownBlock (.slice la i lc)) → w8.ownsRow B 68 4 (.slice va' (i + 1) vc') (i + 1) (flatR 4 f i ++ [.int .i64 a, .int .i64 b, .int .i64 N, .int .i64 N2]) → (Value.ownBlock (.slice va' (i + 1) vc') = Value.ownBlock (.slice la i lc) ∨ Value.ownBlock (.slice va' (i + 1) vc') = some W.heap.size) → (w8.cell? ⟨M, 6, none⟩ = some (.slice la i lc) ∧ w8.frozen? ⟨M, 6, none⟩ = false) ∧ NRd M mb B s g o e x f (fset k 5 (i + 1)) (fset v 5 (.slice va' (i + 1) vc')) (w8.setCell ⟨M, 6, none⟩ (.slice va' (i + 1) vc')) ∧ Stay M B w (w8.setCell ⟨M, 6, none⟩ (.slice va' (i + 1) vc'))) := hid (fun W w8 va' vc' hb hg ho hat => h.store (j := 5) (by omega) hv1 hk1 hb (es := [.int .i64 a, .int .i64 b, .int .i64 N, .int .i64 N2]) (by rw [← e0, ← e1, ← e2, ← e3]; exact flat_succ 4 f i) w8 va' vc' hg ho (hat.imp id fun e => ⟨_, Nat.le_refl _, e⟩))
  have HBW := hid h.le
  have HMl := hid (World.block_lt_of_cell? _ _ (h.cell (i := 0) (by omega)))
  obtain ⟨i0, hi0, hzz⟩ := Option.map_eq_some_iff.1 info_f
  simp only [Prod.mk.injEq] at hzz
  obtain ⟨hz0, hz1, hz2⟩ := hzz
  have HI := hid hi0
  have HZ0 := hid hz0
  have HZ1 := hid hz1
  have HZ2 := hid hz2
  have hi6 : ((i : Int) == 6) = false := beq_eq_false_iff_ne.2 (by omega)
  clear hi0 hz0 hz1 hz2 h hR hk0 hk1 hkl hsz e0 e1 e2 e3 ha hb hl p1 p2 p4 p5 eW hv0 hv1 hvl hp
  go_enter Tryz.func42, Tryz.ntmps42
  go_wp2_with fail
  refine (HF2.out _ _ (by repeat (first | exact Below.refl _ _ | assumption | refine Below.drew ?_ | refine Below.alloc ?_ (by first | exact Nat.le_refl _ | omega | (simp; done) | (simp; omega)) _ | refine Below.setCell ?_ (by first | exact Nat.le_refl _ | omega | (simp; done) | (simp; omega)) _)) ?cells).mono ?_
  case cells =>
    intro i y hy
    match i, hy with
    | 0, hy => (injection hy with hy; subst hy; simp [go_sem]; rfl)
    | 1, hy => (injection hy with hy; subst hy; simp [go_sem]; rfl)
    | 2, hy => (injection hy with hy; subst hy; simp [go_sem]; rfl)
    | 3, hy => (injection hy with hy; subst hy; simp [go_sem]; rfl)
    | 4, hy => (injection hy with hy; subst hy; simp [go_sem]; rfl)
    | 5, hy => (injection hy with hy; subst hy; simp [go_sem]; rfl)
    | 6, hy => (injection hy with hy; subst hy; simp [go_sem]; rfl)
    | i + 7, hy => (simp at hy)
  rintro e1 w2 ⟨rfl, hw2⟩
  have HB2 : Hid (Below w.heap.size w w2) := by rw [hw2]; exact (by repeat (first | exact Below.refl _ _ | assumption | refine Below.drew ?_ | refine Below.alloc ?_ (by first | exact Nat.le_refl _ | omega | (simp; done) | (simp; omega)) _ | refine Below.setCell ?_ (by first | exact Nat.le_refl _ | omega | (simp; done) | (simp; omega)) _))
  clear hw2 HF2
  have hs2 := HB2.out.size
  have hc1 := keep HB2.out hc1
  have hc2 := keep HB2.out hc2
  have hc4 := keep HB2.out hc4
  have hc5 := keep HB2.out hc5
  go_wp2_with fail
  refine region_calm (fun us => ⟨#[.pointer (some ⟨M, 0, none⟩), .slice (some ⟨bk, off, none⟩) 7 c, undef, undef, .int .i64 0, us 5, us 6, us 7, undef, undef, undef, undef, .slice (some ⟨bk, off, none⟩) 7 c, .slice (some ⟨w.heap.size, 0, none⟩) 7 7, .bool true, .bool false, us 16, us 17, us 18, us 19, us 20, us 21, us 22, us 23, us 24, us 25, us 26, us 27, us 28, us 29, undef, undef, undef, undef, undef, undef, undef, undef, undef, undef, undef, undef, undef, undef, undef, undef, undef, undef, undef, undef, undef, undef, undef, undef, undef, undef, undef, undef, undef, undef, undef, undef, undef, undef, undef, undef, undef, undef, undef, undef, undef, undef, undef, undef, undef, undef, undef, undef, undef, undef, undef, undef, undef, undef, undef, undef, undef, undef, undef, undef, undef, undef, undef], []⟩) (fun i => [17, 18, 19, 20, 21, 22, 23, 24, 25, 26, 16, 27, 28, 29, 5, 6, 7].getD i 0) (fun i v w8 => match i with | 0 => v = .pointer (some ⟨M, 0, none⟩) | 1 => v = .pointer (some ⟨M, 0, none⟩) | 2 => v = .pointer (some ⟨M, 0, none⟩) | 3 => v = .slice (some ⟨bk, off, none⟩) 7 c | 4 => v = .pointer (some ⟨bk, off + 1, none⟩) | 5 => v = .string (s a) | 6 => v = .slice (some ⟨bk, off, none⟩) 7 c | 7 => v = .pointer (some ⟨bk, off + 3, none⟩) | 8 => v = .string (s b) | 9 => v = .tuple #[.int .i64 (a : Int), .int .i64 (b : Int), .int .i64 0] | 10 => v = .tuple #[.int .i64 (a : Int), .int .i64 (b : Int), .int .i64 0] | 11 => v = .int .i64 (a : Int) | 12 => v = .int .i64 (b : Int) | 13 => v = .int .i64 0 | 14 => v = .int .i64 (a : Int) | 15 => v = .int .i64 (b : Int) | 16 => v = .int .i64 0 | _ => True) w2 17 (fun k => match k with | 17 => undef | 18 => undef | 19 => undef | 20 => undef | 21 => undef | 22 => undef | 23 => undef | 24 => undef | 25 => undef | 26 => undef | 16 => undef | 27 => undef | 28 => undef | 29 => undef | 5 => undef | 6 => undef | 7 => undef | _ => undef) (by rfl) (by kernel_rfl) (by rfl) (by kernel_rfl) (Below.refl _ _) ?hput ?hinj ?stable ?step ?fin
  case hput =>
    intro i hi us v
    match i, hi with
    | 0, _ => rfl
    | 1, _ => rfl
    | 2, _ => rfl
    | 3, _ => rfl
    | 4, _ => rfl
    | 5, _ => rfl
    | 6, _ => rfl
    | 7, _ => rfl
    | 8, _ => rfl
    | 9, _ => rfl
    | 10, _ => rfl
    | 11, _ => rfl
    | 12, _ => rfl
    | 13, _ => rfl
    | 14, _ => rfl
    | 15, _ => rfl
    | 16, _ => rfl
    | i + 17, hi => exact absurd hi (by omega)
  case hinj =>
    intro i j hi hj h
    exact slots_inj [17, 18, 19, 20, 21, 22, 23, 24, 25, 26, 16, 27, 28, 29, 5, 6, 7] (by decide) hi hj h
  case stable =>
    intro i v w8 w9 hb h
    match i, hb, h with
    | 0, hb, h => exact h
    | 1, hb, h => exact h
    | 2, hb, h => exact h
    | 3, hb, h => exact h
    | 4, hb, h => exact h
    | 5, hb, h => exact h
    | 6, hb, h => exact h
    | 7, hb, h => exact h
    | 8, hb, h => exact h
    | 9, hb, h => exact h
    | 10, hb, h => exact h
    | 11, hb, h => exact h
    | 12, hb, h => exact h
    | 13, hb, h => exact h
    | 14, hb, h => exact h
    | 15, hb, h => exact h
    | 16, hb, h => exact h
    | _ + 17, hb, h => trivial
  case step =>
    intro i hi us w8 S8 hdep
    match i, hi, hdep with
    | 0, _, hdep =>
      clear hdep
      refine ⟨_, rfl, fun K' hK => ?_⟩
      go_simp
      exact hK.out _ _ (Below.refl _ _) rfl
    | 1, _, hdep =>
      have h0 : (us 17) = .pointer (some ⟨M, 0, none⟩) := hdep 0 (by kernel_rfl)
      clear hdep
      refine ⟨_, rfl, fun K' hK => ?_⟩
      simp only [h0] at hK ⊢
      go_simp
      exact hK.out _ _ (Below.refl _ _) rfl
    | 2, _, hdep =>
      have h1 : (us 18) = .pointer (some ⟨M, 0, none⟩) := hdep 1 (by kernel_rfl)
      clear hdep
      refine ⟨_, rfl, fun K' hK => ?_⟩
      simp only [h1] at hK ⊢
      go_simp
      exact hK.out _ _ (Below.refl _ _) rfl
    | 3, _, hdep =>
      clear hdep
      refine ⟨_, rfl, fun K' hK => ?_⟩
      go_simp
      exact hK.out _ _ (Below.refl _ _) rfl
    | 4, _, hdep =>
      have h3 : (us 20) = .slice (some ⟨bk, off, none⟩) 7 c := hdep 3 (by kernel_rfl)
      clear hdep
      refine ⟨_, rfl, fun K' hK => ?_⟩
      simp only [h3] at hK ⊢
      go_simp
      exact hK.out _ _ (Below.refl _ _) rfl
    | 5, _, hdep =>
      have h4 : (us 21) = .pointer (some ⟨bk, off + 1, none⟩) := hdep 4 (by kernel_rfl)
      clear hdep
      refine ⟨_, rfl, fun K' hK => ?_⟩
      have q := keep S8 hc1
      simp only [h4] at hK ⊢
      go_simp
      exact hK.out _ _ (Below.refl _ _) rfl
    | 6, _, hdep =>
      clear hdep
      refine ⟨_, rfl, fun K' hK => ?_⟩
      go_simp
      exact hK.out _ _ (Below.refl _ _) rfl
    | 7, _, hdep =>
      have h6 : (us 23) = .slice (some ⟨bk, off, none⟩) 7 c := hdep 6 (by kernel_rfl)
      clear hdep
      refine ⟨_, rfl, fun K' hK => ?_⟩
      simp only [h6] at hK ⊢
      go_simp
      exact hK.out _ _ (Below.refl _ _) rfl
    | 8, _, hdep =>
      have h7 : (us 24) = .pointer (some ⟨bk, off + 3, none⟩) := hdep 7 (by kernel_rfl)
      clear hdep
      refine ⟨_, rfl, fun K' hK => ?_⟩
      have q := keep S8 hc2
      simp only [h7] at hK ⊢
      go_simp
      exact hK.out _ _ (Below.refl _ _) rfl
    | 9, _, hdep =>
      have h2 : (us 19) = .pointer (some ⟨M, 0, none⟩) := hdep 2 (by kernel_rfl)
      have h5 : (us 22) = .string (s a) := hdep 5 (by kernel_rfl)
      have h8 : (us 25) = .string (s b) := hdep 8 (by kernel_rfl)
      clear hdep
      refine ⟨_, rfl, fun K' hK => ?_⟩
      simp only [h2, h5, h8] at hK ⊢
      go_simp
      refine (HT.out w8 (HB2.out.trans (S8.mono HB2.out.size))).mono ?_
      rintro e9 w9 ⟨rfl, rfl⟩
      exact hK.out _ _ (Below.refl _ _) rfl
    | 10, _, hdep =>
      have h9 : (us 26) = .tuple #[.int .i64 (a : Int), .int .i64 (b : Int), .int .i64 0] := hdep 9 (by kernel_rfl)
      clear hdep
      refine ⟨_, rfl, fun K' hK => ?_⟩
      simp only [h9] at hK ⊢
      go_simp
      exact hK.out _ _ (Below.refl _ _) rfl
    | 11, _, hdep =>
      have h10 : (us 16) = .tuple #[.int .i64 (a : Int), .int .i64 (b : Int), .int .i64 0] := hdep 10 (by kernel_rfl)
      clear hdep
      refine ⟨_, rfl, fun K' hK => ?_⟩
      simp only [h10] at hK ⊢
      go_simp
      exact hK.out _ _ (Below.refl _ _) rfl
    | 12, _, hdep =>
      have h10 : (us 16) = .tuple #[.int .i64 (a : Int), .int .i64 (b : Int), .int .i64 0] := hdep 10 (by kernel_rfl)
      clear hdep
      refine ⟨_, rfl, fun K' hK => ?_⟩
      simp only [h10] at hK ⊢
      go_simp
      exact hK.out _ _ (Below.refl _ _) rfl
    | 13, _, hdep =>
      have h10 : (us 16) = .tuple #[.int .i64 (a : Int), .int .i64 (b : Int), .int .i64 0] := hdep 10 (by kernel_rfl)
      clear hdep
      refine ⟨_, rfl, fun K' hK => ?_⟩
      simp only [h10] at hK ⊢
      go_simp
      exact hK.out _ _ (Below.refl _ _) rfl
    | 14, _, hdep =>
      have h11 : (us 27) = .int .i64 (a : Int) := hdep 11 (by kernel_rfl)
      clear hdep
      refine ⟨_, rfl, fun K' hK => ?_⟩
      simp only [h11] at hK ⊢
      go_simp
      exact hK.out _ _ (Below.refl _ _) rfl
    | 15, _, hdep =>
      have h12 : (us 28) = .int .i64 (b : Int) := hdep 12 (by kernel_rfl)
      clear hdep
      refine ⟨_, rfl, fun K' hK => ?_⟩
      simp only [h12] at hK ⊢
      go_simp
      exact hK.out _ _ (Below.refl _ _) rfl
    | 16, _, hdep =>
      have h13 : (us 29) = .int .i64 0 := hdep 13 (by kernel_rfl)
      clear hdep
      refine ⟨_, rfl, fun K' hK => ?_⟩
      simp only [h13] at hK ⊢
      go_simp
      exact hK.out _ _ (Below.refl _ _) rfl
    | i + 17, hi, _ => exact absurd hi (by omega)
  case fin =>
    intro us w3 S8 hall
    have h14 : (us 5) = .int .i64 (a : Int) := hall 14 (by decide)
    have h15 : (us 6) = .int .i64 (b : Int) := hall 15 (by decide)
    have h16 : (us 7) = .int .i64 0 := hall 16 (by decide)
    clear hall
    simp only [h14, h15, h16]
    clear h14 h15 h16
    have HB3 : Hid (Below w.heap.size w w3) := HB2.out.trans (S8.mono HB2.out.size)
    have hc4 := keep S8 hc4
    have hc5 := keep S8 hc5
    have hs3 := HB3.out.size
    clear S8 HT
    go_wp2_with fail
    refine (HNm.out w3).mono ?_
    rintro e3 w4 ⟨rfl, hw4⟩
    have hw4 := hw4.symm
    subst hw4
    go_wp2_with fail
    refine (HNm2.out w3).mono ?_
    rintro e3 w4 ⟨rfl, hw4⟩
    have hw4 := hw4.symm
    subst hw4
    go_wp2_with fail
    refine (HW.out w3).mono ?_
    rintro e3 w4 ⟨rfl, hw4⟩
    have hw4 := hw4.symm
    subst hw4
    obtain ⟨hC, hC6⟩ := HC.out w3 HB3.out
    go_wp2_with fail
    refine (HJ.out w3 HB3.out).mono ?_
    rintro e3 w4 ⟨rfl, hb4⟩
    have HB4 : Hid (Below w.heap.size w w4) := HB3.out.trans (hb4.mono HB3.out.size)
    have hs4 := HB4.out.size
    obtain ⟨hC, hC6⟩ := HC.out w4 HB4.out
    clear hb4 HJ
    have HB5 : Hid (Below w.heap.size w (w4.alloc (.cells #[.int .i64 a, .int .i64 b, .int .i64 N, .int .i64 N2] 68))) := HB4.out.trans (show Below w.heap.size w4 _ from (by repeat (first | exact Below.refl _ _ | assumption | refine Below.drew ?_ | refine Below.alloc ?_ (by first | exact Nat.le_refl _ | omega | (simp; done) | (simp; omega)) _ | refine Below.setCell ?_ (by first | exact Nat.le_refl _ | omega | (simp; done) | (simp; omega)) _)))
    have HX1 := hid (HOw.out _ HB5.out)
    have HBB : Hid (B ≤ (w4.alloc (.cells #[.int .i64 a, .int .i64 b, .int .i64 N, .int .i64 N2] 68)).heap.size) := Nat.le_trans HBW.out HB5.out.size
    go_wp2_with (at_builtin; (refine wpList_append_own_at _ rfl _ _ 27 rfl B 68 i0 _ 4 32 Tryz.underlying27 HI.out HZ0.out HZ1.out HZ2.out rfl (by decide) _ _ _ rfl HX1.out ⟨w4.heap.size, 0, none⟩ 1 1 [.int .i64 a, .int .i64 b, .int .i64 N, .int .i64 N2] rfl rfl (four_at (by simp [go_sem]) (by simp [go_sem]) (by simp [go_sem]) (by simp [go_sem])) (fun u hu => by simp at hu; rcases hu with rfl | rfl | rfl | rfl <;> rfl) (by unfold maxLen; omega) (by omega) HBB.out ?_); intro v2 w5 hown2 hg2 hnil2 hat2; obtain ⟨va2, vc2, e8⟩ := own_form hown2; subst e8; obtain ⟨⟨qc, qf⟩, qn, qs⟩ := HSt.out _ w5 va2 vc2 HB5.out hg2 hown2 hat2; have HQn := hid qn; have HQs := hid qs; clear qn qs hown2 hg2 hnil2 hat2 HX1 HBB)
    go_ret
    exact ⟨_, rfl, HQn.out, HQs.out⟩
end Go.Proofs.YtffacjebnbplaaaGreatDoor.readFilter
