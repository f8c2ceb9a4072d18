/- The program's row of bits of a word: for every right word that lies in memory; conditions: none. -/
import Derived.Test.YtikdadpapdkfiaaBitWord
namespace Go.Proofs.Ytikdadpapdkfiaa.bitWordRow
open Go.RowKit Go.Deep Go base trees built heldStore drawn ownTree ownEx wordTrees wordSpec lessImpl faceImpl bitRows bitPart bitSteps bitPair bitSum bitSumRow bitWord
set_option linter.unusedVariables false

theorem var_fits {n b : Nat} (h1 : 1 ≤ b) (h2 : b ≤ 6) (h : (n : Int) < ((12 / b : Nat) : Int)) : n * b + b ≤ 12 := by
  rcases bits_cases h1 h2 with rfl | rfl | rfl | rfl | rfl | rfl <;> omega
theorem bits_int {b : Nat} (h1 : 1 ≤ b) (h2 : b ≤ 6) : (b = 1 ∧ (b : Int) = 1) ∨ (b = 2 ∧ (b : Int) = 2) ∨ (b = 3 ∧ (b : Int) = 3) ∨ (b = 4 ∧ (b : Int) = 4) ∨ (b = 5 ∧ (b : Int) = 5) ∨ (b = 6 ∧ (b : Int) = 6) := by omega
set_option maxHeartbeats 6400000 in
set_option maxRecDepth 8000 in
theorem word_row (b : Nat) (hb1 : 1 ≤ b) (hb2 : b ≤ 6) (d : Nat) : WR b d := by
  induction d using Nat.strongRecOn with
  | _ d ih =>
  intro t a l c va vc w hr hR hv hvc
  have HR := hid hr
  have HI := hid ih
  have HRT := hid hR
  have HV := hid hv
  have hsh := shape_cases (right_shape hr.zero hR)
  have HLn := hid hr.len
  have HZr := hid hr.zero
  rw [hr.len] at hsh
  clear hr ih hR hv
  rcases hsh with ⟨h1, h2, h3, h4⟩ | ⟨h1, h2, h3, h4⟩ | ⟨h1, h2, h3⟩
  · rw [row_const h1, h1]
    have hmm := (mod_bounds hb1 hb2).2
    generalize nn t = n at *
    clear h1
    go_enter Try.func21, Try.ntmps21
    go_wp2_with fail
    refine (constants_impl n b hb2 h3 (by omega) _).mono ?_
    rintro e w1 ⟨a1, c1, rfl, hb, hr1⟩
    have HB : Hid (Below w.heap.size w w1) := (show Below w.heap.size w _ from (by repeat (first | exact Below.refl _ _ | assumption | refine Below.drew ?_ | refine Below.alloc ?_ (by first | exact Nat.le_refl _ | omega | (simp; done) | (simp; omega)) _ | refine Below.setCell ?_ (by first | exact Nat.le_refl _ | omega | (simp; done) | (simp; omega)) _))).trans (hb.mono (by simp))
    have HR1 := hid hr1
    clear hb hr1
    go_wp2
    go_ret
    exact ⟨_, rfl, ⟨a1, c1, rfl, (HR1.out.imp fun _ _ => trivial).more (by omega)⟩, HB.out⟩
  · rw [row_var h1, h1]
    obtain ⟨n, hn⟩ : ∃ n : Nat, nn t = n := ⟨(nn t).toNat, by omega⟩
    rw [hn] at h3 h4 ⊢
    simp only [Int.toNat_natCast]
    have hnb := var_fits hb1 hb2 h4
    obtain ⟨-, g, off, rfl, -⟩ := HV.out.cell (i := 0) (by omega)
    have HS := hid (sub_rd (D := 0) HV.out hnb)
    clear h1 hn h3 h4
    go_enter Try.func21, Try.ntmps21
    go_wp2_with fail
    refine (part_of n b (b : Int) (bits_int hb1 hb2) hnb g off vc hvc _).mono ?_
    rintro e w1 ⟨rfl, rfl⟩
    go_wp2
    go_ret
    exact ⟨_, rfl, ⟨_, _, rfl, (HS.out.below (by repeat (first | exact Below.refl _ _ | assumption | refine Below.drew ?_ | refine Below.alloc ?_ (by first | exact Nat.le_refl _ | omega | (simp; done) | (simp; omega)) _ | refine Below.setCell ?_ (by first | exact Nat.le_refl _ | omega | (simp; done) | (simp; omega)) _))).more (by omega)⟩, (by repeat (first | exact Below.refl _ _ | assumption | refine Below.drew ?_ | refine Below.alloc ?_ (by first | exact Nat.le_refl _ | omega | (simp; done) | (simp; omega)) _ | refine Below.setCell ?_ (by first | exact Nat.le_refl _ | omega | (simp; done) | (simp; omega)) _))⟩
  · have hd : 0 < d := (HR.out.cell (i := 0) (by omega)).1
    rw [row_pos hd h1, h3]
    obtain ⟨-, bb, off, rfl, -, g0, g1, x0, m0, s0, g2, hx0⟩ := HR.out.cell (i := 0) (by omega)
    obtain ⟨-, b', off', heq, -, j0, j1, x1, m1, s1, j2, hx1⟩ := HR.out.cell (i := 1) (by omega)
    obtain ⟨rfl, rfl⟩ : bb = b' ∧ off = off' := by simpa using heq
    simp only [Nat.zero_mul, Nat.add_zero] at g0 g1 g2
    simp only [Nat.one_mul, Nat.add_assoc, Nat.reduceAdd] at j0 j1 j2
    have E0 := hid (fun (w' : World) (hb : Below w.heap.size w w') => HI.out (d - 1) (by omega) (kid t 0) x0 m0 s0 va vc w' (hx0.below hb) (right_kid HZr.out HRT.out (by rw [HLn.out]; omega)) (HV.out.below hb) hvc)
    have E1 := hid (fun (w' : World) (hb : Below w.heap.size w w') => HI.out (d - 1) (by omega) (kid t 1) x1 m1 s1 va vc w' (hx1.below hb) (right_kid HZr.out HRT.out (by rw [HLn.out]; omega)) (HV.out.below hb) hvc)
    have HKA : Hid (∀ i, kd (kid (rowW b (d - 1) (kid t 0)) i) ≠ 0) := row_kind b (d - 1) (kid t 0)
    subst h2
    clear hx0 hx1 heq HR HI HRT HV HLn HZr
    obtain ⟨D0, hD0⟩ : ∃ D0, 30 * (d - 1) = D0 := ⟨_, rfl⟩
    rw [hD0] at E0 E1
    generalize rowW b (d - 1) (kid t 0) = RA at *
    generalize rowW b (d - 1) (kid t 1) = RB at *
    rcases h1 with h1 | h1 | h1
    · rw [if_pos h1, h1]
      clear h1 h3
      go_enter Try.func21, Try.ntmps21
      go_wp2_with fail
      have HW : Hid (Below w.heap.size w (w.alloc (.cells #[.int .i64 3, .int .i64 0, .slice (some ⟨bb, off, none⟩) 2 c] 25))) := (by repeat (first | exact Below.refl _ _ | assumption | refine Below.drew ?_ | refine Below.alloc ?_ (by first | exact Nat.le_refl _ | omega | (simp; done) | (simp; omega)) _ | refine Below.setCell ?_ (by first | exact Nat.le_refl _ | omega | (simp; done) | (simp; omega)) _))
      have f0 : (w.alloc (.cells #[.int .i64 3, .int .i64 0, .slice (some ⟨bb, off, none⟩) 2 c] 25)).cell? ⟨w.heap.size, 0, none⟩ = some (.int .i64 3) := by simp [go_sem]
      have f2 : (w.alloc (.cells #[.int .i64 3, .int .i64 0, .slice (some ⟨bb, off, none⟩) 2 c] 25)).cell? ⟨w.heap.size, 2, none⟩ = some (.slice (some ⟨bb, off, none⟩) 2 c) := by simp [go_sem]
      replace g0 : (w.alloc (.cells #[.int .i64 3, .int .i64 0, .slice (some ⟨bb, off, none⟩) 2 c] 25)).cell? ⟨bb, off, none⟩ = some (.int .i64 (kd (kid t 0))) := keep HW.out g0
      replace g1 : (w.alloc (.cells #[.int .i64 3, .int .i64 0, .slice (some ⟨bb, off, none⟩) 2 c] 25)).cell? ⟨bb, off + 1, none⟩ = some (.int .i64 (nn (kid t 0))) := keep HW.out g1
      replace g2 : (w.alloc (.cells #[.int .i64 3, .int .i64 0, .slice (some ⟨bb, off, none⟩) 2 c] 25)).cell? ⟨bb, off + 2, none⟩ = some (.slice x0 m0 s0) := keep HW.out g2
      replace j0 : (w.alloc (.cells #[.int .i64 3, .int .i64 0, .slice (some ⟨bb, off, none⟩) 2 c] 25)).cell? ⟨bb, off + 3, none⟩ = some (.int .i64 (kd (kid t 1))) := keep HW.out j0
      replace j1 : (w.alloc (.cells #[.int .i64 3, .int .i64 0, .slice (some ⟨bb, off, none⟩) 2 c] 25)).cell? ⟨bb, off + 4, none⟩ = some (.int .i64 (nn (kid t 1))) := keep HW.out j1
      replace j2 : (w.alloc (.cells #[.int .i64 3, .int .i64 0, .slice (some ⟨bb, off, none⟩) 2 c] 25)).cell? ⟨bb, off + 5, none⟩ = some (.slice x1 m1 s1) := keep HW.out j2
      replace E0 := hid (fun w' (hb : Below (w.alloc (.cells #[.int .i64 3, .int .i64 0, .slice (some ⟨bb, off, none⟩) 2 c] 25)).heap.size (w.alloc (.cells #[.int .i64 3, .int .i64 0, .slice (some ⟨bb, off, none⟩) 2 c] 25)) w') => E0.out w' (HW.out.trans (hb.mono HW.out.size)))
      replace E1 := hid (fun w' (hb : Below (w.alloc (.cells #[.int .i64 3, .int .i64 0, .slice (some ⟨bb, off, none⟩) 2 c] 25)).heap.size (w.alloc (.cells #[.int .i64 3, .int .i64 0, .slice (some ⟨bb, off, none⟩) 2 c] 25)) w') => E1.out w' (HW.out.trans (hb.mono HW.out.size)))
      have HWZ : Hid (w.heap.size + 1 = (w.alloc (.cells #[.int .i64 3, .int .i64 0, .slice (some ⟨bb, off, none⟩) 2 c] 25)).heap.size) := by show _ = _; simp
      generalize (w.alloc (.cells #[.int .i64 3, .int .i64 0, .slice (some ⟨bb, off, none⟩) 2 c] 25)) = W at *
      have HK : Hid (∀ w8 : World, Below W.heap.size W w8 → w8.cell? ⟨w.heap.size, 0, none⟩ = some (.int .i64 3) ∧ w8.cell? ⟨w.heap.size, 2, none⟩ = some (.slice (some ⟨bb, off, none⟩) 2 c) ∧ w8.cell? ⟨bb, off, none⟩ = some (.int .i64 (kd (kid t 0))) ∧ w8.cell? ⟨bb, off + 1, none⟩ = some (.int .i64 (nn (kid t 0))) ∧ w8.cell? ⟨bb, off + 2, none⟩ = some (.slice x0 m0 s0) ∧ w8.cell? ⟨bb, off + 3, none⟩ = some (.int .i64 (kd (kid t 1))) ∧ w8.cell? ⟨bb, off + 4, none⟩ = some (.int .i64 (nn (kid t 1))) ∧ w8.cell? ⟨bb, off + 5, none⟩ = some (.slice x1 m1 s1)) := fun w8 h => ⟨keep h f0, keep h f2, keep h g0, keep h g1, keep h g2, keep h j0, keep h j1, keep h j2⟩
      clear f0 f2 g0 g1 g2 j0 j1 j2
      refine region_below (fun u => ⟨#[.agg #[.int .i64 3, .int .i64 0, .slice (some ⟨bb, off, none⟩) 2 c], .int .i64 (b : Int), .slice va 12 vc, .pointer (some ⟨w.heap.size, 0, none⟩), undef, undef, .slice none 0 0, u 7, undef, undef, .pointer (some ⟨w.heap.size, 0, none⟩), .int .i64 3, .bool false, .bool false, undef, undef, undef, undef, .bool false, .bool false, undef, undef, undef, undef, undef, u 25, u 26, u 27, u 28, u 29, u 30, u 31, u 32, u 33, u 34, u 35, u 36, u 37, u 38, undef, undef, undef, undef, undef, undef, undef, undef, undef, undef, undef, undef, undef, undef, undef, undef, undef, undef, undef], []⟩) (fun i => [25, 26, 27, 28, 29, 30, 31, 32, 33, 34, 35, 36, 37, 38, 7].getD i 0) (fun i v w8 => match i with | 0 => v = .pointer (some ⟨w.heap.size, 2, none⟩) | 1 => v = .slice (some ⟨bb, off, none⟩) 2 c | 2 => v = .pointer (some ⟨bb, off, none⟩) | 3 => v = .agg #[.int .i64 (kd (kid t 0)), .int .i64 (nn (kid t 0)), .slice x0 m0 s0] | 4 => v = .int .i64 (b : Int) | 5 => v = .slice va 12 vc | 6 => RowV w8 (D0 + 1) RA b v | 7 => v = .pointer (some ⟨w.heap.size, 2, none⟩) | 8 => v = .slice (some ⟨bb, off, none⟩) 2 c | 9 => v = .pointer (some ⟨bb, off + 3, none⟩) | 10 => v = .agg #[.int .i64 (kd (kid t 1)), .int .i64 (nn (kid t 1)), .slice x1 m1 s1] | 11 => v = .int .i64 (b : Int) | 12 => v = .slice va 12 vc | 13 => RowV w8 (D0 + 1) RB b v | 14 => RowV w8 (D0 + 1) RA b v | _ => True) W 15 (fun k => match k with | 25 => undef | 26 => undef | 27 => undef | 28 => undef | 29 => undef | 30 => undef | 31 => undef | 32 => undef | 33 => undef | 34 => undef | 35 => undef | 36 => undef | 37 => undef | 38 => undef | 7 => undef | _ => undef) (by rfl) (by kernel_rfl) (by rfl) ⟨by kernel_rfl, by kernel_rfl, by kernel_rfl, by decide⟩ (by kernel_rfl) (Below.refl _ _) ?hput ?hinj ?stable ?step ?last
      case hput =>
        intro i hi u v
        match i, hi with
        | 0, _ => rfl
        | 1, _ => rfl
        | 2, _ => rfl
        | 3, _ => rfl
        | 4, _ => rfl
        | 5, _ => rfl
        | 6, _ => rfl
        | 7, _ => rfl
        | 8, _ => rfl
        | 9, _ => rfl
        | 10, _ => rfl
        | 11, _ => rfl
        | 12, _ => rfl
        | 13, _ => rfl
        | 14, _ => rfl
        | i + 15, hi => exact absurd hi (by omega)
      case hinj =>
        intro i j hi hj h
        exact slots_inj [25, 26, 27, 28, 29, 30, 31, 32, 33, 34, 35, 36, 37, 38, 7] (by decide) hi hj h
      case stable =>
        intro i v w8 w9 hb h
        match i, h with
        | 0, h => exact h
        | 1, h => exact h
        | 2, h => exact h
        | 3, h => exact h
        | 4, h => exact h
        | 5, h => exact h
        | 6, h => exact h.below hb
        | 7, h => exact h
        | 8, h => exact h
        | 9, h => exact h
        | 10, h => exact h
        | 11, h => exact h
        | 12, h => exact h
        | 13, h => exact h.below hb
        | 14, h => exact h.below hb
        | _ + 15, h => trivial
      case step =>
        intro i hi u w8 S8 hdep
        match i, hi with
        | 0, _ =>
          clear hdep
          refine ⟨_, rfl, fun K' hK => ?_⟩
          go_simp
          exact hK.out _ _ (Below.refl _ _) rfl
        | 1, _ =>
          have h0 : (u 25) = .pointer (some ⟨w.heap.size, 2, none⟩) := hdep 0 (by kernel_rfl)
          clear hdep
          refine ⟨_, rfl, fun K' hK => ?_⟩
          obtain ⟨f0, f2, g0, g1, g2, j0, j1, j2⟩ := HK.out w8 S8
          simp only [h0] at hK ⊢
          go_simp
          exact hK.out _ _ (Below.refl _ _) rfl
        | 2, _ =>
          have h1 : (u 26) = .slice (some ⟨bb, off, none⟩) 2 c := hdep 1 (by kernel_rfl)
          clear hdep
          refine ⟨_, rfl, fun K' hK => ?_⟩
          simp only [h1] at hK ⊢
          go_simp
          exact hK.out _ _ (Below.refl _ _) rfl
        | 3, _ =>
          have h2 : (u 27) = .pointer (some ⟨bb, off, none⟩) := hdep 2 (by kernel_rfl)
          clear hdep
          refine ⟨_, rfl, fun K' hK => ?_⟩
          obtain ⟨f0, f2, g0, g1, g2, j0, j1, j2⟩ := HK.out w8 S8
          simp only [h2] at hK ⊢
          go_simp
          exact hK.out _ _ (Below.refl _ _) rfl
        | 4, _ =>
          clear hdep
          refine ⟨_, rfl, fun K' hK => ?_⟩
          go_simp
          exact hK.out _ _ (Below.refl _ _) rfl
        | 5, _ =>
          clear hdep
          refine ⟨_, rfl, fun K' hK => ?_⟩
          go_simp
          exact hK.out _ _ (Below.refl _ _) rfl
        | 6, _ =>
          have h3 : (u 28) = .agg #[.int .i64 (kd (kid t 0)), .int .i64 (nn (kid t 0)), .slice x0 m0 s0] := hdep 3 (by kernel_rfl)
          have h4 : (u 29) = .int .i64 (b : Int) := hdep 4 (by kernel_rfl)
          have h5 : (u 30) = .slice va 12 vc := hdep 5 (by kernel_rfl)
          clear hdep
          refine ⟨_, rfl, fun K' hK => ?_⟩
          simp only [h3, h4, h5] at hK ⊢
          go_simp
          refine (E0.out _ S8).mono ?_
          rintro e w9 ⟨v, rfl, hrow, hb9⟩
          exact hK.out _ _ hb9 hrow
        | 7, _ =>
          clear hdep
          refine ⟨_, rfl, fun K' hK => ?_⟩
          go_simp
          exact hK.out _ _ (Below.refl _ _) rfl
        | 8, _ =>
          have h7 : (u 32) = .pointer (some ⟨w.heap.size, 2, none⟩) := hdep 7 (by kernel_rfl)
          clear hdep
          refine ⟨_, rfl, fun K' hK => ?_⟩
          obtain ⟨f0, f2, g0, g1, g2, j0, j1, j2⟩ := HK.out w8 S8
          simp only [h7] at hK ⊢
          go_simp
          exact hK.out _ _ (Below.refl _ _) rfl
        | 9, _ =>
          have h8 : (u 33) = .slice (some ⟨bb, off, none⟩) 2 c := hdep 8 (by kernel_rfl)
          clear hdep
          refine ⟨_, rfl, fun K' hK => ?_⟩
          simp only [h8] at hK ⊢
          go_simp
          exact hK.out _ _ (Below.refl _ _) rfl
        | 10, _ =>
          have h9 : (u 34) = .pointer (some ⟨bb, off + 3, none⟩) := hdep 9 (by kernel_rfl)
          clear hdep
          refine ⟨_, rfl, fun K' hK => ?_⟩
          obtain ⟨f0, f2, g0, g1, g2, j0, j1, j2⟩ := HK.out w8 S8
          simp only [h9] at hK ⊢
          go_simp
          exact hK.out _ _ (Below.refl _ _) rfl
        | 11, _ =>
          clear hdep
          refine ⟨_, rfl, fun K' hK => ?_⟩
          go_simp
          exact hK.out _ _ (Below.refl _ _) rfl
        | 12, _ =>
          clear hdep
          refine ⟨_, rfl, fun K' hK => ?_⟩
          go_simp
          exact hK.out _ _ (Below.refl _ _) rfl
        | 13, _ =>
          have h10 : (u 35) = .agg #[.int .i64 (kd (kid t 1)), .int .i64 (nn (kid t 1)), .slice x1 m1 s1] := hdep 10 (by kernel_rfl)
          have h11 : (u 36) = .int .i64 (b : Int) := hdep 11 (by kernel_rfl)
          have h12 : (u 37) = .slice va 12 vc := hdep 12 (by kernel_rfl)
          clear hdep
          refine ⟨_, rfl, fun K' hK => ?_⟩
          simp only [h10, h11, h12] at hK ⊢
          go_simp
          refine (E1.out _ S8).mono ?_
          rintro e w9 ⟨v, rfl, hrow, hb9⟩
          exact hK.out _ _ hb9 hrow
        | 14, _ =>
          have h6 : RowV w8 (D0 + 1) RA b (u 31) := hdep 6 (by kernel_rfl)
          clear hdep
          refine ⟨_, rfl, fun K' hK => ?_⟩
          go_simp
          exact hK.out _ _ (Below.refl _ _) h6
        | i + 15, hi => exact absurd hi (by omega)
      case last =>
        intro u w8 S8 hall
        have h13 : RowV w8 (D0 + 1) RB b (u 38) := hall 13 (by decide)
        have h14 : RowV w8 (D0 + 1) RA b (u 7) := hall 14 (by decide)
        clear hall
        refine ⟨_, rfl, fun K' hK => ?_⟩
        obtain ⟨f0, f2, g0, g1, g2, j0, j1, j2⟩ := HK.out w8 S8
        obtain ⟨aB, cB, eB, rB⟩ := h13
        obtain ⟨aA, cA, eA, rA⟩ := h14
        simp only [eA, eB] at hK ⊢
        go_simp
        refine hK.out _ _ ?_
        clear hK K'
        (try simp only [Exit.then])
        have HB8 : Hid (Below w.heap.size w w8) := HW.out.trans (S8.mono HW.out.size)
        have HA := hid rA
        have HBB := hid rB
        have hs8 := S8.size
        clear rA rB eA eB g0 g1 g2 j0 j1 j2 f2
        go_wp2_with fail
        refine (sum_row (fun _ => True) D0 RA RB aA aB b cA cB _ HA.out HBB.out (fun i _ => HKA.out i)).mono ?_
        rintro e w9 ⟨a9, c9, rfl, hr9, hb9⟩
        have HR9 : Hid (Rd (fun _ => True) 1048576 w9 (D0 + 3 * b + 1) (sumT RA RB b) a9 b) := hr9.imp fun _ _ => trivial
        have HB9 : Hid (Below w.heap.size w w9) := HB8.out.trans (hb9.mono HB8.out.size)
        clear hr9 hb9
        go_wp2
        go_ret
        exact ⟨_, rfl, ⟨a9, c9, rfl, HR9.out.more (by omega)⟩, HB9.out⟩
    · rw [if_neg (by omega), if_pos h1, h1]
      clear h1 h3
      go_enter Try.func21, Try.ntmps21
      go_wp2_with fail
      have HW : Hid (Below w.heap.size w (w.alloc (.cells #[.int .i64 4, .int .i64 0, .slice (some ⟨bb, off, none⟩) 2 c] 25))) := (by repeat (first | exact Below.refl _ _ | assumption | refine Below.drew ?_ | refine Below.alloc ?_ (by first | exact Nat.le_refl _ | omega | (simp; done) | (simp; omega)) _ | refine Below.setCell ?_ (by first | exact Nat.le_refl _ | omega | (simp; done) | (simp; omega)) _))
      have f0 : (w.alloc (.cells #[.int .i64 4, .int .i64 0, .slice (some ⟨bb, off, none⟩) 2 c] 25)).cell? ⟨w.heap.size, 0, none⟩ = some (.int .i64 4) := by simp [go_sem]
      have f2 : (w.alloc (.cells #[.int .i64 4, .int .i64 0, .slice (some ⟨bb, off, none⟩) 2 c] 25)).cell? ⟨w.heap.size, 2, none⟩ = some (.slice (some ⟨bb, off, none⟩) 2 c) := by simp [go_sem]
      replace g0 : (w.alloc (.cells #[.int .i64 4, .int .i64 0, .slice (some ⟨bb, off, none⟩) 2 c] 25)).cell? ⟨bb, off, none⟩ = some (.int .i64 (kd (kid t 0))) := keep HW.out g0
      replace g1 : (w.alloc (.cells #[.int .i64 4, .int .i64 0, .slice (some ⟨bb, off, none⟩) 2 c] 25)).cell? ⟨bb, off + 1, none⟩ = some (.int .i64 (nn (kid t 0))) := keep HW.out g1
      replace g2 : (w.alloc (.cells #[.int .i64 4, .int .i64 0, .slice (some ⟨bb, off, none⟩) 2 c] 25)).cell? ⟨bb, off + 2, none⟩ = some (.slice x0 m0 s0) := keep HW.out g2
      replace j0 : (w.alloc (.cells #[.int .i64 4, .int .i64 0, .slice (some ⟨bb, off, none⟩) 2 c] 25)).cell? ⟨bb, off + 3, none⟩ = some (.int .i64 (kd (kid t 1))) := keep HW.out j0
      replace j1 : (w.alloc (.cells #[.int .i64 4, .int .i64 0, .slice (some ⟨bb, off, none⟩) 2 c] 25)).cell? ⟨bb, off + 4, none⟩ = some (.int .i64 (nn (kid t 1))) := keep HW.out j1
      replace j2 : (w.alloc (.cells #[.int .i64 4, .int .i64 0, .slice (some ⟨bb, off, none⟩) 2 c] 25)).cell? ⟨bb, off + 5, none⟩ = some (.slice x1 m1 s1) := keep HW.out j2
      replace E0 := hid (fun w' (hb : Below (w.alloc (.cells #[.int .i64 4, .int .i64 0, .slice (some ⟨bb, off, none⟩) 2 c] 25)).heap.size (w.alloc (.cells #[.int .i64 4, .int .i64 0, .slice (some ⟨bb, off, none⟩) 2 c] 25)) w') => E0.out w' (HW.out.trans (hb.mono HW.out.size)))
      replace E1 := hid (fun w' (hb : Below (w.alloc (.cells #[.int .i64 4, .int .i64 0, .slice (some ⟨bb, off, none⟩) 2 c] 25)).heap.size (w.alloc (.cells #[.int .i64 4, .int .i64 0, .slice (some ⟨bb, off, none⟩) 2 c] 25)) w') => E1.out w' (HW.out.trans (hb.mono HW.out.size)))
      have HWZ : Hid (w.heap.size + 1 = (w.alloc (.cells #[.int .i64 4, .int .i64 0, .slice (some ⟨bb, off, none⟩) 2 c] 25)).heap.size) := by show _ = _; simp
      generalize (w.alloc (.cells #[.int .i64 4, .int .i64 0, .slice (some ⟨bb, off, none⟩) 2 c] 25)) = W at *
      have HK : Hid (∀ w8 : World, Below W.heap.size W w8 → w8.cell? ⟨w.heap.size, 0, none⟩ = some (.int .i64 4) ∧ w8.cell? ⟨w.heap.size, 2, none⟩ = some (.slice (some ⟨bb, off, none⟩) 2 c) ∧ w8.cell? ⟨bb, off, none⟩ = some (.int .i64 (kd (kid t 0))) ∧ w8.cell? ⟨bb, off + 1, none⟩ = some (.int .i64 (nn (kid t 0))) ∧ w8.cell? ⟨bb, off + 2, none⟩ = some (.slice x0 m0 s0) ∧ w8.cell? ⟨bb, off + 3, none⟩ = some (.int .i64 (kd (kid t 1))) ∧ w8.cell? ⟨bb, off + 4, none⟩ = some (.int .i64 (nn (kid t 1))) ∧ w8.cell? ⟨bb, off + 5, none⟩ = some (.slice x1 m1 s1)) := fun w8 h => ⟨keep h f0, keep h f2, keep h g0, keep h g1, keep h g2, keep h j0, keep h j1, keep h j2⟩
      clear f0 f2 g0 g1 g2 j0 j1 j2
      refine region_below (fun u => ⟨#[.agg #[.int .i64 4, .int .i64 0, .slice (some ⟨bb, off, none⟩) 2 c], .int .i64 (b : Int), .slice va 12 vc, .pointer (some ⟨w.heap.size, 0, none⟩), undef, undef, .slice none 0 0, u 7, undef, undef, .pointer (some ⟨w.heap.size, 0, none⟩), .int .i64 4, .bool false, .bool false, undef, undef, undef, undef, .bool false, .bool false, undef, undef, undef, undef, undef, u 25, u 26, u 27, u 28, u 29, u 30, u 31, u 32, u 33, u 34, u 35, u 36, u 37, u 38, undef, undef, undef, undef, undef, undef, undef, undef, undef, undef, undef, undef, undef, undef, undef, undef, undef, undef, undef], []⟩) (fun i => [25, 26, 27, 28, 29, 30, 31, 32, 33, 34, 35, 36, 37, 38, 7].getD i 0) (fun i v w8 => match i with | 0 => v = .pointer (some ⟨w.heap.size, 2, none⟩) | 1 => v = .slice (some ⟨bb, off, none⟩) 2 c | 2 => v = .pointer (some ⟨bb, off, none⟩) | 3 => v = .agg #[.int .i64 (kd (kid t 0)), .int .i64 (nn (kid t 0)), .slice x0 m0 s0] | 4 => v = .int .i64 (b : Int) | 5 => v = .slice va 12 vc | 6 => RowV w8 (D0 + 1) RA b v | 7 => v = .pointer (some ⟨w.heap.size, 2, none⟩) | 8 => v = .slice (some ⟨bb, off, none⟩) 2 c | 9 => v = .pointer (some ⟨bb, off + 3, none⟩) | 10 => v = .agg #[.int .i64 (kd (kid t 1)), .int .i64 (nn (kid t 1)), .slice x1 m1 s1] | 11 => v = .int .i64 (b : Int) | 12 => v = .slice va 12 vc | 13 => RowV w8 (D0 + 1) RB b v | 14 => RowV w8 (D0 + 1) RA b v | _ => True) W 15 (fun k => match k with | 25 => undef | 26 => undef | 27 => undef | 28 => undef | 29 => undef | 30 => undef | 31 => undef | 32 => undef | 33 => undef | 34 => undef | 35 => undef | 36 => undef | 37 => undef | 38 => undef | 7 => undef | _ => undef) (by rfl) (by kernel_rfl) (by rfl) ⟨by kernel_rfl, by kernel_rfl, by kernel_rfl, by decide⟩ (by kernel_rfl) (Below.refl _ _) ?hput ?hinj ?stable ?step ?last
      case hput =>
        intro i hi u v
        match i, hi with
        | 0, _ => rfl
        | 1, _ => rfl
        | 2, _ => rfl
        | 3, _ => rfl
        | 4, _ => rfl
        | 5, _ => rfl
        | 6, _ => rfl
        | 7, _ => rfl
        | 8, _ => rfl
        | 9, _ => rfl
        | 10, _ => rfl
        | 11, _ => rfl
        | 12, _ => rfl
        | 13, _ => rfl
        | 14, _ => rfl
        | i + 15, hi => exact absurd hi (by omega)
      case hinj =>
        intro i j hi hj h
        exact slots_inj [25, 26, 27, 28, 29, 30, 31, 32, 33, 34, 35, 36, 37, 38, 7] (by decide) hi hj h
      case stable =>
        intro i v w8 w9 hb h
        match i, h with
        | 0, h => exact h
        | 1, h => exact h
        | 2, h => exact h
        | 3, h => exact h
        | 4, h => exact h
        | 5, h => exact h
        | 6, h => exact h.below hb
        | 7, h => exact h
        | 8, h => exact h
        | 9, h => exact h
        | 10, h => exact h
        | 11, h => exact h
        | 12, h => exact h
        | 13, h => exact h.below hb
        | 14, h => exact h.below hb
        | _ + 15, h => trivial
      case step =>
        intro i hi u w8 S8 hdep
        match i, hi with
        | 0, _ =>
          clear hdep
          refine ⟨_, rfl, fun K' hK => ?_⟩
          go_simp
          exact hK.out _ _ (Below.refl _ _) rfl
        | 1, _ =>
          have h0 : (u 25) = .pointer (some ⟨w.heap.size, 2, none⟩) := hdep 0 (by kernel_rfl)
          clear hdep
          refine ⟨_, rfl, fun K' hK => ?_⟩
          obtain ⟨f0, f2, g0, g1, g2, j0, j1, j2⟩ := HK.out w8 S8
          simp only [h0] at hK ⊢
          go_simp
          exact hK.out _ _ (Below.refl _ _) rfl
        | 2, _ =>
          have h1 : (u 26) = .slice (some ⟨bb, off, none⟩) 2 c := hdep 1 (by kernel_rfl)
          clear hdep
          refine ⟨_, rfl, fun K' hK => ?_⟩
          simp only [h1] at hK ⊢
          go_simp
          exact hK.out _ _ (Below.refl _ _) rfl
        | 3, _ =>
          have h2 : (u 27) = .pointer (some ⟨bb, off, none⟩) := hdep 2 (by kernel_rfl)
          clear hdep
          refine ⟨_, rfl, fun K' hK => ?_⟩
          obtain ⟨f0, f2, g0, g1, g2, j0, j1, j2⟩ := HK.out w8 S8
          simp only [h2] at hK ⊢
          go_simp
          exact hK.out _ _ (Below.refl _ _) rfl
        | 4, _ =>
          clear hdep
          refine ⟨_, rfl, fun K' hK => ?_⟩
          go_simp
          exact hK.out _ _ (Below.refl _ _) rfl
        | 5, _ =>
          clear hdep
          refine ⟨_, rfl, fun K' hK => ?_⟩
          go_simp
          exact hK.out _ _ (Below.refl _ _) rfl
        | 6, _ =>
          have h3 : (u 28) = .agg #[.int .i64 (kd (kid t 0)), .int .i64 (nn (kid t 0)), .slice x0 m0 s0] := hdep 3 (by kernel_rfl)
          have h4 : (u 29) = .int .i64 (b : Int) := hdep 4 (by kernel_rfl)
          have h5 : (u 30) = .slice va 12 vc := hdep 5 (by kernel_rfl)
          clear hdep
          refine ⟨_, rfl, fun K' hK => ?_⟩
          simp only [h3, h4, h5] at hK ⊢
          go_simp
          refine (E0.out _ S8).mono ?_
          rintro e w9 ⟨v, rfl, hrow, hb9⟩
          exact hK.out _ _ hb9 hrow
        | 7, _ =>
          clear hdep
          refine ⟨_, rfl, fun K' hK => ?_⟩
          go_simp
          exact hK.out _ _ (Below.refl _ _) rfl
        | 8, _ =>
          have h7 : (u 32) = .pointer (some ⟨w.heap.size, 2, none⟩) := hdep 7 (by kernel_rfl)
          clear hdep
          refine ⟨_, rfl, fun K' hK => ?_⟩
          obtain ⟨f0, f2, g0, g1, g2, j0, j1, j2⟩ := HK.out w8 S8
          simp only [h7] at hK ⊢
          go_simp
          exact hK.out _ _ (Below.refl _ _) rfl
        | 9, _ =>
          have h8 : (u 33) = .slice (some ⟨bb, off, none⟩) 2 c := hdep 8 (by kernel_rfl)
          clear hdep
          refine ⟨_, rfl, fun K' hK => ?_⟩
          simp only [h8] at hK ⊢
          go_simp
          exact hK.out _ _ (Below.refl _ _) rfl
        | 10, _ =>
          have h9 : (u 34) = .pointer (some ⟨bb, off + 3, none⟩) := hdep 9 (by kernel_rfl)
          clear hdep
          refine ⟨_, rfl, fun K' hK => ?_⟩
          obtain ⟨f0, f2, g0, g1, g2, j0, j1, j2⟩ := HK.out w8 S8
          simp only [h9] at hK ⊢
          go_simp
          exact hK.out _ _ (Below.refl _ _) rfl
        | 11, _ =>
          clear hdep
          refine ⟨_, rfl, fun K' hK => ?_⟩
          go_simp
          exact hK.out _ _ (Below.refl _ _) rfl
        | 12, _ =>
          clear hdep
          refine ⟨_, rfl, fun K' hK => ?_⟩
          go_simp
          exact hK.out _ _ (Below.refl _ _) rfl
        | 13, _ =>
          have h10 : (u 35) = .agg #[.int .i64 (kd (kid t 1)), .int .i64 (nn (kid t 1)), .slice x1 m1 s1] := hdep 10 (by kernel_rfl)
          have h11 : (u 36) = .int .i64 (b : Int) := hdep 11 (by kernel_rfl)
          have h12 : (u 37) = .slice va 12 vc := hdep 12 (by kernel_rfl)
          clear hdep
          refine ⟨_, rfl, fun K' hK => ?_⟩
          simp only [h10, h11, h12] at hK ⊢
          go_simp
          refine (E1.out _ S8).mono ?_
          rintro e w9 ⟨v, rfl, hrow, hb9⟩
          exact hK.out _ _ hb9 hrow
        | 14, _ =>
          have h6 : RowV w8 (D0 + 1) RA b (u 31) := hdep 6 (by kernel_rfl)
          clear hdep
          refine ⟨_, rfl, fun K' hK => ?_⟩
          go_simp
          exact hK.out _ _ (Below.refl _ _) h6
        | i + 15, hi => exact absurd hi (by omega)
      case last =>
        intro u w8 S8 hall
        have h13 : RowV w8 (D0 + 1) RB b (u 38) := hall 13 (by decide)
        have h14 : RowV w8 (D0 + 1) RA b (u 7) := hall 14 (by decide)
        clear hall
        refine ⟨_, rfl, fun K' hK => ?_⟩
        obtain ⟨f0, f2, g0, g1, g2, j0, j1, j2⟩ := HK.out w8 S8
        obtain ⟨aB, cB, eB, rB⟩ := h13
        obtain ⟨aA, cA, eA, rA⟩ := h14
        simp only [eA, eB] at hK ⊢
        go_simp
        refine hK.out _ _ ?_
        clear hK K'
        (try simp only [Exit.then])
        have HB8 : Hid (Below w.heap.size w w8) := HW.out.trans (S8.mono HW.out.size)
        have HA := hid rA
        have HBB := hid rB
        have hs8 := S8.size
        clear rA rB eA eB g0 g1 g2 j0 j1 j2 f2
        go_wp2_with fail
        refine (and_row D0 RA RB aA aB b cA cB _ HA.out HBB.out (fun i _ => HKA.out i)).mono ?_
        rintro e w9 ⟨v9, rfl, ⟨a9, c9, rfl, hr9⟩, hb9⟩
        have HR9 := hid hr9
        have HB9 : Hid (Below w.heap.size w w9) := HB8.out.trans (hb9.mono HB8.out.size)
        clear hr9 hb9
        go_wp2
        go_ret
        exact ⟨_, rfl, ⟨a9, c9, rfl, HR9.out.more (by omega)⟩, HB9.out⟩
    · rw [if_neg (by omega), if_neg (by omega), h1]
      clear h1 h3
      go_enter Try.func21, Try.ntmps21
      go_wp2_with fail
      have HW : Hid (Below w.heap.size w (w.alloc (.cells #[.int .i64 5, .int .i64 0, .slice (some ⟨bb, off, none⟩) 2 c] 25))) := (by repeat (first | exact Below.refl _ _ | assumption | refine Below.drew ?_ | refine Below.alloc ?_ (by first | exact Nat.le_refl _ | omega | (simp; done) | (simp; omega)) _ | refine Below.setCell ?_ (by first | exact Nat.le_refl _ | omega | (simp; done) | (simp; omega)) _))
      have f0 : (w.alloc (.cells #[.int .i64 5, .int .i64 0, .slice (some ⟨bb, off, none⟩) 2 c] 25)).cell? ⟨w.heap.size, 0, none⟩ = some (.int .i64 5) := by simp [go_sem]
      have f2 : (w.alloc (.cells #[.int .i64 5, .int .i64 0, .slice (some ⟨bb, off, none⟩) 2 c] 25)).cell? ⟨w.heap.size, 2, none⟩ = some (.slice (some ⟨bb, off, none⟩) 2 c) := by simp [go_sem]
      replace g0 : (w.alloc (.cells #[.int .i64 5, .int .i64 0, .slice (some ⟨bb, off, none⟩) 2 c] 25)).cell? ⟨bb, off, none⟩ = some (.int .i64 (kd (kid t 0))) := keep HW.out g0
      replace g1 : (w.alloc (.cells #[.int .i64 5, .int .i64 0, .slice (some ⟨bb, off, none⟩) 2 c] 25)).cell? ⟨bb, off + 1, none⟩ = some (.int .i64 (nn (kid t 0))) := keep HW.out g1
      replace g2 : (w.alloc (.cells #[.int .i64 5, .int .i64 0, .slice (some ⟨bb, off, none⟩) 2 c] 25)).cell? ⟨bb, off + 2, none⟩ = some (.slice x0 m0 s0) := keep HW.out g2
      replace j0 : (w.alloc (.cells #[.int .i64 5, .int .i64 0, .slice (some ⟨bb, off, none⟩) 2 c] 25)).cell? ⟨bb, off + 3, none⟩ = some (.int .i64 (kd (kid t 1))) := keep HW.out j0
      replace j1 : (w.alloc (.cells #[.int .i64 5, .int .i64 0, .slice (some ⟨bb, off, none⟩) 2 c] 25)).cell? ⟨bb, off + 4, none⟩ = some (.int .i64 (nn (kid t 1))) := keep HW.out j1
      replace j2 : (w.alloc (.cells #[.int .i64 5, .int .i64 0, .slice (some ⟨bb, off, none⟩) 2 c] 25)).cell? ⟨bb, off + 5, none⟩ = some (.slice x1 m1 s1) := keep HW.out j2
      replace E0 := hid (fun w' (hb : Below (w.alloc (.cells #[.int .i64 5, .int .i64 0, .slice (some ⟨bb, off, none⟩) 2 c] 25)).heap.size (w.alloc (.cells #[.int .i64 5, .int .i64 0, .slice (some ⟨bb, off, none⟩) 2 c] 25)) w') => E0.out w' (HW.out.trans (hb.mono HW.out.size)))
      replace E1 := hid (fun w' (hb : Below (w.alloc (.cells #[.int .i64 5, .int .i64 0, .slice (some ⟨bb, off, none⟩) 2 c] 25)).heap.size (w.alloc (.cells #[.int .i64 5, .int .i64 0, .slice (some ⟨bb, off, none⟩) 2 c] 25)) w') => E1.out w' (HW.out.trans (hb.mono HW.out.size)))
      have HWZ : Hid (w.heap.size + 1 = (w.alloc (.cells #[.int .i64 5, .int .i64 0, .slice (some ⟨bb, off, none⟩) 2 c] 25)).heap.size) := by show _ = _; simp
      generalize (w.alloc (.cells #[.int .i64 5, .int .i64 0, .slice (some ⟨bb, off, none⟩) 2 c] 25)) = W at *
      have HK : Hid (∀ w8 : World, Below W.heap.size W w8 → w8.cell? ⟨w.heap.size, 0, none⟩ = some (.int .i64 5) ∧ w8.cell? ⟨w.heap.size, 2, none⟩ = some (.slice (some ⟨bb, off, none⟩) 2 c) ∧ w8.cell? ⟨bb, off, none⟩ = some (.int .i64 (kd (kid t 0))) ∧ w8.cell? ⟨bb, off + 1, none⟩ = some (.int .i64 (nn (kid t 0))) ∧ w8.cell? ⟨bb, off + 2, none⟩ = some (.slice x0 m0 s0) ∧ w8.cell? ⟨bb, off + 3, none⟩ = some (.int .i64 (kd (kid t 1))) ∧ w8.cell? ⟨bb, off + 4, none⟩ = some (.int .i64 (nn (kid t 1))) ∧ w8.cell? ⟨bb, off + 5, none⟩ = some (.slice x1 m1 s1)) := fun w8 h => ⟨keep h f0, keep h f2, keep h g0, keep h g1, keep h g2, keep h j0, keep h j1, keep h j2⟩
      clear f0 f2 g0 g1 g2 j0 j1 j2
      refine region_below (fun u => ⟨#[.agg #[.int .i64 5, .int .i64 0, .slice (some ⟨bb, off, none⟩) 2 c], .int .i64 (b : Int), .slice va 12 vc, .pointer (some ⟨w.heap.size, 0, none⟩), undef, undef, .slice none 0 0, u 7, undef, undef, .pointer (some ⟨w.heap.size, 0, none⟩), .int .i64 5, .bool false, .bool false, undef, undef, undef, undef, .bool false, .bool false, undef, undef, undef, undef, undef, u 25, u 26, u 27, u 28, u 29, u 30, u 31, u 32, u 33, u 34, u 35, u 36, u 37, u 38, undef, undef, undef, undef, undef, undef, undef, undef, undef, undef, undef, undef, undef, undef, undef, undef, undef, undef, undef], []⟩) (fun i => [25, 26, 27, 28, 29, 30, 31, 32, 33, 34, 35, 36, 37, 38, 7].getD i 0) (fun i v w8 => match i with | 0 => v = .pointer (some ⟨w.heap.size, 2, none⟩) | 1 => v = .slice (some ⟨bb, off, none⟩) 2 c | 2 => v = .pointer (some ⟨bb, off, none⟩) | 3 => v = .agg #[.int .i64 (kd (kid t 0)), .int .i64 (nn (kid t 0)), .slice x0 m0 s0] | 4 => v = .int .i64 (b : Int) | 5 => v = .slice va 12 vc | 6 => RowV w8 (D0 + 1) RA b v | 7 => v = .pointer (some ⟨w.heap.size, 2, none⟩) | 8 => v = .slice (some ⟨bb, off, none⟩) 2 c | 9 => v = .pointer (some ⟨bb, off + 3, none⟩) | 10 => v = .agg #[.int .i64 (kd (kid t 1)), .int .i64 (nn (kid t 1)), .slice x1 m1 s1] | 11 => v = .int .i64 (b : Int) | 12 => v = .slice va 12 vc | 13 => RowV w8 (D0 + 1) RB b v | 14 => RowV w8 (D0 + 1) RA b v | _ => True) W 15 (fun k => match k with | 25 => undef | 26 => undef | 27 => undef | 28 => undef | 29 => undef | 30 => undef | 31 => undef | 32 => undef | 33 => undef | 34 => undef | 35 => undef | 36 => undef | 37 => undef | 38 => undef | 7 => undef | _ => undef) (by rfl) (by kernel_rfl) (by rfl) ⟨by kernel_rfl, by kernel_rfl, by kernel_rfl, by decide⟩ (by kernel_rfl) (Below.refl _ _) ?hput ?hinj ?stable ?step ?last
      case hput =>
        intro i hi u v
        match i, hi with
        | 0, _ => rfl
        | 1, _ => rfl
        | 2, _ => rfl
        | 3, _ => rfl
        | 4, _ => rfl
        | 5, _ => rfl
        | 6, _ => rfl
        | 7, _ => rfl
        | 8, _ => rfl
        | 9, _ => rfl
        | 10, _ => rfl
        | 11, _ => rfl
        | 12, _ => rfl
        | 13, _ => rfl
        | 14, _ => rfl
        | i + 15, hi => exact absurd hi (by omega)
      case hinj =>
        intro i j hi hj h
        exact slots_inj [25, 26, 27, 28, 29, 30, 31, 32, 33, 34, 35, 36, 37, 38, 7] (by decide) hi hj h
      case stable =>
        intro i v w8 w9 hb h
        match i, h with
        | 0, h => exact h
        | 1, h => exact h
        | 2, h => exact h
        | 3, h => exact h
        | 4, h => exact h
        | 5, h => exact h
        | 6, h => exact h.below hb
        | 7, h => exact h
        | 8, h => exact h
        | 9, h => exact h
        | 10, h => exact h
        | 11, h => exact h
        | 12, h => exact h
        | 13, h => exact h.below hb
        | 14, h => exact h.below hb
        | _ + 15, h => trivial
      case step =>
        intro i hi u w8 S8 hdep
        match i, hi with
        | 0, _ =>
          clear hdep
          refine ⟨_, rfl, fun K' hK => ?_⟩
          go_simp
          exact hK.out _ _ (Below.refl _ _) rfl
        | 1, _ =>
          have h0 : (u 25) = .pointer (some ⟨w.heap.size, 2, none⟩) := hdep 0 (by kernel_rfl)
          clear hdep
          refine ⟨_, rfl, fun K' hK => ?_⟩
          obtain ⟨f0, f2, g0, g1, g2, j0, j1, j2⟩ := HK.out w8 S8
          simp only [h0] at hK ⊢
          go_simp
          exact hK.out _ _ (Below.refl _ _) rfl
        | 2, _ =>
          have h1 : (u 26) = .slice (some ⟨bb, off, none⟩) 2 c := hdep 1 (by kernel_rfl)
          clear hdep
          refine ⟨_, rfl, fun K' hK => ?_⟩
          simp only [h1] at hK ⊢
          go_simp
          exact hK.out _ _ (Below.refl _ _) rfl
        | 3, _ =>
          have h2 : (u 27) = .pointer (some ⟨bb, off, none⟩) := hdep 2 (by kernel_rfl)
          clear hdep
          refine ⟨_, rfl, fun K' hK => ?_⟩
          obtain ⟨f0, f2, g0, g1, g2, j0, j1, j2⟩ := HK.out w8 S8
          simp only [h2] at hK ⊢
          go_simp
          exact hK.out _ _ (Below.refl _ _) rfl
        | 4, _ =>
          clear hdep
          refine ⟨_, rfl, fun K' hK => ?_⟩
          go_simp
          exact hK.out _ _ (Below.refl _ _) rfl
        | 5, _ =>
          clear hdep
          refine ⟨_, rfl, fun K' hK => ?_⟩
          go_simp
          exact hK.out _ _ (Below.refl _ _) rfl
        | 6, _ =>
          have h3 : (u 28) = .agg #[.int .i64 (kd (kid t 0)), .int .i64 (nn (kid t 0)), .slice x0 m0 s0] := hdep 3 (by kernel_rfl)
          have h4 : (u 29) = .int .i64 (b : Int) := hdep 4 (by kernel_rfl)
          have h5 : (u 30) = .slice va 12 vc := hdep 5 (by kernel_rfl)
          clear hdep
          refine ⟨_, rfl, fun K' hK => ?_⟩
          simp only [h3, h4, h5] at hK ⊢
          go_simp
          refine (E0.out _ S8).mono ?_
          rintro e w9 ⟨v, rfl, hrow, hb9⟩
          exact hK.out _ _ hb9 hrow
        | 7, _ =>
          clear hdep
          refine ⟨_, rfl, fun K' hK => ?_⟩
          go_simp
          exact hK.out _ _ (Below.refl _ _) rfl
        | 8, _ =>
          have h7 : (u 32) = .pointer (some ⟨w.heap.size, 2, none⟩) := hdep 7 (by kernel_rfl)
          clear hdep
          refine ⟨_, rfl, fun K' hK => ?_⟩
          obtain ⟨f0, f2, g0, g1, g2, j0, j1, j2⟩ := HK.out w8 S8
          simp only [h7] at hK ⊢
          go_simp
          exact hK.out _ _ (Below.refl _ _) rfl
        | 9, _ =>
          have h8 : (u 33) = .slice (some ⟨bb, off, none⟩) 2 c := hdep 8 (by kernel_rfl)
          clear hdep
          refine ⟨_, rfl, fun K' hK => ?_⟩
          simp only [h8] at hK ⊢
          go_simp
          exact hK.out _ _ (Below.refl _ _) rfl
        | 10, _ =>
          have h9 : (u 34) = .pointer (some ⟨bb, off + 3, none⟩) := hdep 9 (by kernel_rfl)
          clear hdep
          refine ⟨_, rfl, fun K' hK => ?_⟩
          obtain ⟨f0, f2, g0, g1, g2, j0, j1, j2⟩ := HK.out w8 S8
          simp only [h9] at hK ⊢
          go_simp
          exact hK.out _ _ (Below.refl _ _) rfl
        | 11, _ =>
          clear hdep
          refine ⟨_, rfl, fun K' hK => ?_⟩
          go_simp
          exact hK.out _ _ (Below.refl _ _) rfl
        | 12, _ =>
          clear hdep
          refine ⟨_, rfl, fun K' hK => ?_⟩
          go_simp
          exact hK.out _ _ (Below.refl _ _) rfl
        | 13, _ =>
          have h10 : (u 35) = .agg #[.int .i64 (kd (kid t 1)), .int .i64 (nn (kid t 1)), .slice x1 m1 s1] := hdep 10 (by kernel_rfl)
          have h11 : (u 36) = .int .i64 (b : Int) := hdep 11 (by kernel_rfl)
          have h12 : (u 37) = .slice va 12 vc := hdep 12 (by kernel_rfl)
          clear hdep
          refine ⟨_, rfl, fun K' hK => ?_⟩
          simp only [h10, h11, h12] at hK ⊢
          go_simp
          refine (E1.out _ S8).mono ?_
          rintro e w9 ⟨v, rfl, hrow, hb9⟩
          exact hK.out _ _ hb9 hrow
        | 14, _ =>
          have h6 : RowV w8 (D0 + 1) RA b (u 31) := hdep 6 (by kernel_rfl)
          clear hdep
          refine ⟨_, rfl, fun K' hK => ?_⟩
          go_simp
          exact hK.out _ _ (Below.refl _ _) h6
        | i + 15, hi => exact absurd hi (by omega)
      case last =>
        intro u w8 S8 hall
        have h13 : RowV w8 (D0 + 1) RB b (u 38) := hall 13 (by decide)
        have h14 : RowV w8 (D0 + 1) RA b (u 7) := hall 14 (by decide)
        clear hall
        refine ⟨_, rfl, fun K' hK => ?_⟩
        obtain ⟨f0, f2, g0, g1, g2, j0, j1, j2⟩ := HK.out w8 S8
        obtain ⟨aB, cB, eB, rB⟩ := h13
        obtain ⟨aA, cA, eA, rA⟩ := h14
        simp only [eA, eB] at hK ⊢
        go_simp
        refine hK.out _ _ ?_
        clear hK K'
        (try simp only [Exit.then])
        have HB8 : Hid (Below w.heap.size w w8) := HW.out.trans (S8.mono HW.out.size)
        have HA := hid rA
        have HBB := hid rB
        have hs8 := S8.size
        clear rA rB eA eB g0 g1 g2 j0 j1 j2 f2
        go_wp2_with fail
        refine (less_rows D0 RA RB aA aB b cA cB _ HA.out HBB.out (fun i _ => HKA.out i)).mono ?_
        rintro e w7 ⟨a7, l7, c7, rfl, hr7, hb7⟩
        have HB7 : Hid (Below w8.heap.size w8 w7) := hb7
        have HX7 : Hid (Below w7.heap.size w7 (w7.alloc (.cells #[.int .i64 (kd (lessT RA RB (cT 0) b)), .int .i64 (nn (lessT RA RB (cT 0) b)), .slice a7 l7 c7] 39))) := (by repeat (first | exact Below.refl _ _ | assumption | refine Below.drew ?_ | refine Below.alloc ?_ (by first | exact Nat.le_refl _ | omega | (simp; done) | (simp; omega)) _ | refine Below.setCell ?_ (by first | exact Nat.le_refl _ | omega | (simp; done) | (simp; omega)) _))
        have hs7 := hb7.size
        have HA7 := hid ((rd_old (HA.out.below hb7)).below HX7.out)
        have HB7' := hid ((rd_old (HBB.out.below hb7)).below HX7.out)
        have HR7 := hid ((rd_old hr7).below HX7.out)
        clear hr7 hb7
        go_wp2_with fail
        refine (ite_row w7.heap.size D0 RA RB aA aB a7 b cA cB l7 c7 _ (HA7.out.imp fun x hx => by have := hx.2; omega) (HB7'.out.imp fun x hx => by have := hx.2; omega) (HR7.out.imp fun x hx => by have := hx.2; omega) (cell_new _ _ _ rfl) (cell_new _ _ _ rfl) (cell_new _ _ _ rfl) (N := w.heap.size) (by have := HB8.out.size; omega)).mono ?_
        rintro e w9 ⟨v9, rfl, ⟨a9, c9, rfl, hr9⟩, hb9⟩
        have HR9 := hid hr9
        have HB9 : Hid (Below w.heap.size w w9) := (HB8.out.trans ((HB7.out.trans (HX7.out.mono HB7.out.size)).mono HB8.out.size)).trans hb9
        clear hr9 hb9
        go_wp2
        go_ret
        exact ⟨_, rfl, ⟨a9, c9, rfl, HR9.out.more (by omega)⟩, HB9.out⟩
end Go.Proofs.Ytikdadpapdkfiaa.bitWordRow
