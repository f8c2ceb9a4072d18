/- A line is read, of the program: read over the map of readers; conditions: a line without words, a remark, or a line that its reader takes. -/
import Derived.Test.YtffacjebnbplaaaGreatDoorReadImport
namespace Go.Proofs.YtffacjebnbplaaaGreatDoor.readGo
open Go.RowKit Go.Deep Go base heldStore drawn drawnSrc drawnMk netSem netLines netBytes netImpl askWords askSem readMath readNew readMem readSmall readAdd
set_option linter.unusedVariables false
theorem read_none (M : Nat) (ad : Option Addr) (c : Nat) (w : World) :
    Calls Tryz.prog 16 #[.pointer (some ⟨M, 0, none⟩), .slice ad 0 c] w fun e w' => e = .returned (.int .i64 0) ∧ w' = w := by
  go_enter Tryz.func16, Tryz.ntmps16
  go_wp2
  go_ret
  exact ⟨rfl, rfl⟩
theorem read_remark (M : Nat) (ad : Option Addr) (c : Nat) (kw : Wd) (R : List Wd) (w : World) (hR : TRow w.heap.size w ad c (kw :: R)) (hk : Lib.hasPrefix kw [35] = true) :
    Calls Tryz.prog 16 #[.pointer (some ⟨M, 0, none⟩), .slice ad (R.length + 1) c] w fun e w' => e = .returned (.int .i64 0) ∧ w' = w := by
  have hcap := hR.cap
  simp only [List.length_cons] at hcap
  have hmost := hR.most
  unfold maxLen at hmost
  obtain ⟨b, off, rfl, hb, hc⟩ := hR.head
  have HP := hid (prefix_impl (piece kw) ⟨#[35]⟩ w)
  have e1 : (piece kw).data.toList = kw := rfl
  rw [e1, show (⟨#[35]⟩ : ByteArray).data.toList = [35] from rfl, hk] at HP
  have hz : ((R.length : Int) + 1 == 0) = false := beq_eq_false_iff_ne.2 (by omega)
  clear hk e1 hR
  go_enter Tryz.func16, Tryz.ntmps16
  go_wp2_with fail
  refine HP.out.mono ?_
  rintro e w' ⟨rfl, rfl⟩
  go_wp2
  go_ret
  exact ⟨rfl, rfl⟩
theorem rdr_pre {kw : Wd} {n : Nat} (h : Rdr kw n) : Lib.hasPrefix kw [35] = false := by cases h <;> decide
set_option maxHeartbeats 1600000 in
set_option maxRecDepth 8000 in
theorem read_go {M mb B n : Nat} {s : Ss} {g x f : R} {o e : List Int} {k k' : Nat → Nat} {v : Nat → Value} {w : World} (ad : Option Addr) (c : Nat) (kw : Wd) (R : List Wd) (h : NRd M mb B s g o e x f k v w) (hR : TRow w.heap.size w ad c (kw :: R)) (hn : Rdr kw n)
    (hcall : ∀ w8, Below w.heap.size w w8 → Calls Tryz.prog n #[.pointer (some ⟨M, 0, none⟩), .slice ad (R.length + 1) c] w8 fun e' w' => ∃ v', e' = .returned (.int .i64 0) ∧ NRd M mb B s g o e x f k' v' w' ∧ Stay M B w8 w') :
    Calls Tryz.prog 16 #[.pointer (some ⟨M, 0, none⟩), .slice ad (R.length + 1) c] w fun e' w' => ∃ v', e' = .returned (.int .i64 0) ∧ NRd M mb B s g o e x f k' v' w' ∧ Stay M B w w' := by
  have hcap := hR.cap
  simp only [List.length_cons] at hcap
  have hmost := hR.most
  unfold maxLen at hmost
  obtain ⟨b, off, rfl, hb, hc⟩ := hR.head
  have HP := hid (prefix_impl (piece kw) ⟨#[35]⟩ w)
  have e1 : (piece kw).data.toList = kw := rfl
  rw [e1, show (⟨#[35]⟩ : ByteArray).data.toList = [35] from rfl, rdr_pre hn] at HP
  have hz : ((R.length : Int) + 1 == 0) = false := beq_eq_false_iff_ne.2 (by omega)
  obtain ⟨mm, hmm⟩ := h.map
  have HL : Hid (∀ w8, Below w.heap.size w w8 → (Instr.lookup 48 (.map (some mb)) (.string (piece kw)) true).run Tryz.prog w8 = .ok (.tuple #[fv n, .bool true]) w8) := hid (fun w8 hb => look_at (map_kept hmm (hb.block _ hmm.lt)) hn)
  have hM := h.cell (i := 7) (by omega)
  have hM7 : w.cell? ⟨M, 7, none⟩ = some (.map (some mb)) := hM
  have HC := hid hcall
  have HBW := hid h.le
  have hn0 := hid hn
  clear e1 hR hcall hmm hn h hM
  go_enter Tryz.func16, Tryz.ntmps16
  go_wp2_with fail
  refine HP.out.mono ?_
  rintro e1 w1 ⟨rfl, hw1⟩
  have hw1 := hw1.symm
  subst hw1
  go_wp2_with fail
  refine region_calm (fun us => ⟨#[.pointer (some ⟨M, 0, none⟩), .slice (some ⟨b, off, none⟩) (R.length + 1) c, undef, undef, .int .i64 0, us 5, us 6, .slice (some ⟨b, off, none⟩) (R.length + 1) c, .int .i64 (R.length + 1), .bool false, .bool false, .slice (some ⟨b, off, none⟩) (R.length + 1) c, .pointer (some ⟨b, off, none⟩), .string (piece kw), .bool false, .bool false, us 16, us 17, us 18, us 19, us 20, us 21, us 22, us 23, us 24, us 25, us 26, undef, undef, undef, undef, undef, undef], []⟩) (fun i => [17, 18, 19, 20, 21, 22, 23, 24, 16, 25, 26, 5, 6].getD i 0) (fun i v w8 => match i with | 0 => v = .pointer (some ⟨M, 0, none⟩) | 1 => v = .pointer (some ⟨M, 0, none⟩) | 2 => v = .pointer (some ⟨M, 7, none⟩) | 3 => v = .map (some mb) | 4 => v = .slice (some ⟨b, off, none⟩) (R.length + 1) c | 5 => v = .pointer (some ⟨b, off, none⟩) | 6 => v = .string (piece kw) | 7 => v = .tuple #[fv n, .bool true] | 8 => v = .tuple #[fv n, .bool true] | 9 => v = fv n | 10 => v = .bool true | 11 => v = fv n | 12 => v = .bool true | _ => True) w 13 (fun k => match k with | 17 => undef | 18 => undef | 19 => undef | 20 => undef | 21 => undef | 22 => undef | 23 => undef | 24 => undef | 16 => undef | 25 => undef | 26 => undef | 5 => undef | 6 => undef | _ => undef) (by rfl) (by kernel_rfl) (by rfl) (by kernel_rfl) (Below.refl _ _) ?hput ?hinj ?stable ?step ?fin
  case hput =>
    intro i hi us v
    match i, hi with
    | 0, _ => rfl
    | 1, _ => rfl
    | 2, _ => rfl
    | 3, _ => rfl
    | 4, _ => rfl
    | 5, _ => rfl
    | 6, _ => rfl
    | 7, _ => rfl
    | 8, _ => rfl
    | 9, _ => rfl
    | 10, _ => rfl
    | 11, _ => rfl
    | 12, _ => rfl
    | i + 13, hi => exact absurd hi (by omega)
  case hinj =>
    intro i j hi hj h
    exact slots_inj [17, 18, 19, 20, 21, 22, 23, 24, 16, 25, 26, 5, 6] (by decide) hi hj h
  case stable =>
    intro i v w8 w9 hb h
    match i, hb, h with
    | 0, hb, h => exact h
    | 1, hb, h => exact h
    | 2, hb, h => exact h
    | 3, hb, h => exact h
    | 4, hb, h => exact h
    | 5, hb, h => exact h
    | 6, hb, h => exact h
    | 7, hb, h => exact h
    | 8, hb, h => exact h
    | 9, hb, h => exact h
    | 10, hb, h => exact h
    | 11, hb, h => exact h
    | 12, hb, h => exact h
    | _ + 13, hb, h => trivial
  case step =>
    intro i hi us w8 S8 hdep
    match i, hi, hdep with
    | 0, _, hdep =>
      clear hdep
      refine ⟨_, rfl, fun K' hK => ?_⟩
      go_simp
      exact hK.out _ _ (Below.refl _ _) rfl
    | 1, _, hdep =>
      have h0 : (us 17) = .pointer (some ⟨M, 0, none⟩) := hdep 0 (by kernel_rfl)
      clear hdep
      refine ⟨_, rfl, fun K' hK => ?_⟩
      simp only [h0] at hK ⊢
      go_simp
      exact hK.out _ _ (Below.refl _ _) rfl
    | 2, _, hdep =>
      have h1 : (us 18) = .pointer (some ⟨M, 0, none⟩) := hdep 1 (by kernel_rfl)
      clear hdep
      refine ⟨_, rfl, fun K' hK => ?_⟩
      simp only [h1] at hK ⊢
      go_simp
      exact hK.out _ _ (Below.refl _ _) rfl
    | 3, _, hdep =>
      have h2 : (us 19) = .pointer (some ⟨M, 7, none⟩) := hdep 2 (by kernel_rfl)
      clear hdep
      refine ⟨_, rfl, fun K' hK => ?_⟩
      have q := keep S8 hM7
      simp only [h2] at hK ⊢
      go_simp
      exact hK.out _ _ (Below.refl _ _) rfl
    | 4, _, hdep =>
      clear hdep
      refine ⟨_, rfl, fun K' hK => ?_⟩
      go_simp
      exact hK.out _ _ (Below.refl _ _) rfl
    | 5, _, hdep =>
      have h4 : (us 21) = .slice (some ⟨b, off, none⟩) (R.length + 1) c := hdep 4 (by kernel_rfl)
      clear hdep
      refine ⟨_, rfl, fun K' hK => ?_⟩
      have hbn : 0 < R.length + 1 := by omega
      have hbm : (0 : Int) < (R.length : Int) + 1 := by omega
      simp only [h4] at hK ⊢
      go_simp
      exact hK.out _ _ (Below.refl _ _) rfl
    | 6, _, hdep =>
      have h5 : (us 22) = .pointer (some ⟨b, off, none⟩) := hdep 5 (by kernel_rfl)
      clear hdep
      refine ⟨_, rfl, fun K' hK => ?_⟩
      have q := keep S8 hc
      simp only [h5] at hK ⊢
      go_simp
      exact hK.out _ _ (Below.refl _ _) rfl
    | 7, _, hdep =>
      have h3 : (us 20) = .map (some mb) := hdep 3 (by kernel_rfl)
      have h6 : (us 23) = .string (piece kw) := hdep 6 (by kernel_rfl)
      clear hdep
      refine ⟨_, rfl, fun K' hK => ?_⟩
      have ql := HL.out w8 S8
      simp only [h3, h6] at hK ⊢
      go_simp
      exact hK.out _ _ (Below.refl _ _) rfl
    | 8, _, hdep =>
      have h7 : (us 24) = .tuple #[fv n, .bool true] := hdep 7 (by kernel_rfl)
      clear hdep
      refine ⟨_, rfl, fun K' hK => ?_⟩
      simp only [h7] at hK ⊢
      go_simp
      exact hK.out _ _ (Below.refl _ _) rfl
    | 9, _, hdep =>
      have h8 : (us 16) = .tuple #[fv n, .bool true] := hdep 8 (by kernel_rfl)
      clear hdep
      refine ⟨_, rfl, fun K' hK => ?_⟩
      simp only [h8] at hK ⊢
      go_simp
      exact hK.out _ _ (Below.refl _ _) rfl
    | 10, _, hdep =>
      have h8 : (us 16) = .tuple #[fv n, .bool true] := hdep 8 (by kernel_rfl)
      clear hdep
      refine ⟨_, rfl, fun K' hK => ?_⟩
      simp only [h8] at hK ⊢
      go_simp
      exact hK.out _ _ (Below.refl _ _) rfl
    | 11, _, hdep =>
      have h9 : (us 25) = fv n := hdep 9 (by kernel_rfl)
      clear hdep
      refine ⟨_, rfl, fun K' hK => ?_⟩
      simp only [h9] at hK ⊢
      go_simp
      exact hK.out _ _ (Below.refl _ _) rfl
    | 12, _, hdep =>
      have h10 : (us 26) = .bool true := hdep 10 (by kernel_rfl)
      clear hdep
      refine ⟨_, rfl, fun K' hK => ?_⟩
      simp only [h10] at hK ⊢
      go_simp
      exact hK.out _ _ (Below.refl _ _) rfl
    | i + 13, hi, _ => exact absurd hi (by omega)
  case fin =>
    intro us w3 S8 hall
    have h11 : (us 5) = fv n := hall 11 (by decide)
    have h12 : (us 6) = .bool true := hall 12 (by decide)
    clear hall
    simp only [h11, h12]
    clear h11 h12
    have HS := hid S8
    have hs3 := S8.size
    clear S8 HL
    have hn9 := hn0.out
    clear hn0 HP
    cases hn9
    all_goals
      unfold fv
      simp only [Act.eval]
      go_wp2_with fail
      refine (HC.out w3 HS.out).mono ?_
      rintro e4 w4 ⟨v', rfl, q1, q2⟩
      have HQ1 := hid q1
      have HQ2 := hid q2
      clear q1 q2 HC
      go_wp2
      go_ret
      exact ⟨v', rfl, HQ1.out, (Stay.of_below HS.out HBW.out).trans HQ2.out⟩
end Go.Proofs.YtffacjebnbplaaaGreatDoor.readGo
