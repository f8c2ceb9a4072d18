/- WordBits of the program: for every word that lies in memory; conditions: none. -/
import Derived.Test.YtikdadpapdkfiaaBitWordRow
namespace Go.Proofs.Ytikdadpapdkfiaa.bitFace
open Go.RowKit Go.Deep Go base trees built heldStore drawn ownTree ownEx ownExE wordTrees wordSpec wordIs lessImpl rowsImpl faceImpl bitRows bitPart bitSteps bitPair bitSum bitSumRow bitWord bitWordRow
set_option linter.unusedVariables false

theorem word_bits {d : Nat} {t : T} {bits : Int} (h : wordB d t bits = true) : ∃ b : Nat, bits = (b : Int) ∧ 1 ≤ b ∧ b ≤ 6 ∧ rightW b d t = true := by
  unfold wordB at h
  rw [Bool.and_eq_true] at h
  have h1 := of_decide_eq_true h.1
  exact ⟨bits.toNat, by omega, by omega, by omega, (okW_iff.1 h.2).2⟩
/-- The code of WordBits, how long its row is, and the row. -/
def wbC (d : Nat) (t : T) (bits : Int) : Int := if wordB d t bits = false then 1 else if allOk (30 * d) (rowW bits.toNat d t) bits.toNat = false then 11 else 0
def wbL (d : Nat) (t : T) (bits : Int) : Nat := if wbC d t bits = 0 then bits.toNat else 0
def wbT (d : Nat) (t : T) (bits : Int) : T := if wbC d t bits = 0 then rowW bits.toNat d t else zT
theorem ow_nil (w : World) (D : Nat) (t : T) (a : Option Addr) (S : Nat → Prop) : ln t = 0 → Ow w D t a 0 S := by
  intro h
  cases D with
  | zero => exact ⟨h, rfl⟩
  | succ D => exact ⟨h, by omega, fun h => by omega⟩

set_option maxHeartbeats 3200000 in
theorem wordBits_impl (d : Nat) (t : T) (a : Option Addr) (l c : Nat) (bits : Int) (w : World) (hr : Rd (fun _ => True) 1048576 w d t a l) :
    Calls Try.prog 8 #[.agg #[.int .i64 (kd t), .int .i64 (nn t), .slice a l c], .int .i64 bits] w fun e w' => ∃ a' c', e = .returned (.tuple #[.slice a' (wbL d t bits) c', .int .i64 (wbC d t bits)]) ∧ Below w.heap.size w w' ∧ Ow w' (30 * d + 1) (wbT d t bits) a' (wbL d t bits) (fun b => w.heap.size ≤ b ∧ b < w'.heap.size) := by
  have HR := hid hr
  clear hr
  cases hB : wordB d t bits with
  | false =>
    have e0 : wbC d t bits = 1 := if_pos hB
    have e1 : wbL d t bits = 0 := if_neg (by rw [e0]; decide)
    have e2 : wbT d t bits = zT := if_neg (by rw [e0]; decide)
    rw [e0, e1, e2]
    go_enter Try.func8, Try.ntmps8
    go_wp2_with fail
    refine (wordOK_impl d t a l c bits _ (HR.out.below (by repeat (first | exact Below.refl _ _ | assumption | refine Below.drew ?_ | refine Below.alloc ?_ (by first | exact Nat.le_refl _ | omega | (simp; done) | (simp; omega)) _ | refine Below.setCell ?_ (by first | exact Nat.le_refl _ | omega | (simp; done) | (simp; omega)) _)))).mono ?_
    rintro e w1 ⟨rfl, hb⟩
    have HB : Hid (Below w.heap.size w w1) := (show Below w.heap.size w _ from (by repeat (first | exact Below.refl _ _ | assumption | refine Below.drew ?_ | refine Below.alloc ?_ (by first | exact Nat.le_refl _ | omega | (simp; done) | (simp; omega)) _ | refine Below.setCell ?_ (by first | exact Nat.le_refl _ | omega | (simp; done) | (simp; omega)) _))).trans (hb.mono (by simp))
    clear hb
    rw [hB]
    go_wp2
    refine bodyPost_ret (v := .tuple #[.slice none 0 0, .int .i64 1]) (by simp [results, Try.results8, go_sem]) rfl ?_
    exact ⟨none, 0, rfl, HB.out, ow_nil _ _ _ _ _ rfl⟩
  | true =>
    obtain ⟨b, rfl, hb1, hb2, hRT⟩ := word_bits hB
    have HRT := hid hRT
    have ec : wbC d t (b : Int) = if allOk (30 * d) (rowW b d t) b = false then 11 else 0 := by
      unfold wbC
      rw [if_neg (by rw [hB]; decide), Int.toNat_natCast]
    have el : wbL d t (b : Int) = if wbC d t (b : Int) = 0 then b else 0 := rfl
    have et : wbT d t (b : Int) = if wbC d t (b : Int) = 0 then rowW b d t else zT := rfl
    have HBW := hid hB
    obtain ⟨C, hC⟩ : ∃ C, wbC d t (b : Int) = C := ⟨_, rfl⟩
    obtain ⟨L, hL⟩ : ∃ L, wbL d t (b : Int) = L := ⟨_, rfl⟩
    obtain ⟨TT, hT⟩ : ∃ TT, wbT d t (b : Int) = TT := ⟨_, rfl⟩
    have HCC := hid (hC.symm.trans ec)
    rw [hC] at el et
    have HLL := hid (hL.symm.trans el)
    have HTT := hid (hT.symm.trans et)
    rw [hC, hL, hT]
    clear hRT ec el et hB hC hL hT
    go_enter Try.func8, Try.ntmps8
    go_wp2_with fail
    refine (wordOK_impl d t a l c (b : Int) _ (HR.out.below (by repeat (first | exact Below.refl _ _ | assumption | refine Below.drew ?_ | refine Below.alloc ?_ (by first | exact Nat.le_refl _ | omega | (simp; done) | (simp; omega)) _ | refine Below.setCell ?_ (by first | exact Nat.le_refl _ | omega | (simp; done) | (simp; omega)) _)))).mono ?_
    rintro e w1 ⟨rfl, hb⟩
    have HW : Hid (Below w.heap.size w w1) := (show Below w.heap.size w _ from (by repeat (first | exact Below.refl _ _ | assumption | refine Below.drew ?_ | refine Below.alloc ?_ (by first | exact Nat.le_refl _ | omega | (simp; done) | (simp; omega)) _ | refine Below.setCell ?_ (by first | exact Nat.le_refl _ | omega | (simp; done) | (simp; omega)) _))).trans (hb.mono (by simp))
    have f0 : w1.cell? ⟨w.heap.size, 0, none⟩ = some (.int .i64 (kd t)) := keep hb (by simp [go_sem])
    have f1 : w1.cell? ⟨w.heap.size, 1, none⟩ = some (.int .i64 (nn t)) := keep hb (by simp [go_sem])
    have f2 : w1.cell? ⟨w.heap.size, 2, none⟩ = some (.slice a l c) := keep hb (by simp [go_sem])
    clear hb
    rw [HBW.out]
    go_wp2_with fail
    have HK : Hid (∀ w8 : World, Below w1.heap.size w1 w8 → w8.cell? ⟨w.heap.size, 0, none⟩ = some (.int .i64 (kd t)) ∧ w8.cell? ⟨w.heap.size, 1, none⟩ = some (.int .i64 (nn t)) ∧ w8.cell? ⟨w.heap.size, 2, none⟩ = some (.slice a l c)) := fun w8 h => ⟨keep h f0, keep h f1, keep h f2⟩
    clear f0 f1 f2
    refine region_below (fun u => ⟨#[.agg #[.int .i64 (kd t), .int .i64 (nn t), .slice a l c], .int .i64 (b : Int), .pointer (some ⟨w.heap.size, 0, none⟩), undef, .slice none 0 0, .int .i64 0, undef, .agg #[.int .i64 (kd t), .int .i64 (nn t), .slice a l c], .int .i64 (b : Int), .bool true, .bool false, u 11, u 12, u 13, u 14, undef, undef, undef, undef, undef], []⟩) (fun i => [11, 12, 13, 14].getD i 0) (fun i v w8 => match i with | 0 => v = .agg #[.int .i64 (kd t), .int .i64 (nn t), .slice a l c] | 1 => v = .int .i64 (b : Int) | 2 => (∃ x y, v = .slice x 12 y ∧ 12 ≤ y ∧ Rd (fun _ => True) 1048576 w8 1 varsT x 12) | 3 => RowV w8 (30 * d + 1) (rowW b d t) b v | _ => True) w1 4 (fun k => match k with | 11 => undef | 12 => undef | 13 => undef | 14 => undef | _ => undef) (by rfl) (by kernel_rfl) (by rfl) ⟨by kernel_rfl, by kernel_rfl, by kernel_rfl, by decide⟩ (by kernel_rfl) (Below.refl _ _) ?hput ?hinj ?stable ?step ?last
    case hput =>
      intro i hi u v
      match i, hi with
      | 0, _ => rfl
      | 1, _ => rfl
      | 2, _ => rfl
      | 3, _ => rfl
      | i + 4, hi => exact absurd hi (by omega)
    case hinj =>
      intro i j hi hj h
      exact slots_inj [11, 12, 13, 14] (by decide) hi hj h
    case stable =>
      intro i v w8 w9 hb h
      match i, h with
      | 0, h => exact h
      | 1, h => exact h
      | 2, h => (obtain ⟨x, y, e, h1, h2⟩ := h; exact ⟨x, y, e, h1, h2.below hb⟩)
      | 3, h => exact h.below hb
      | _ + 4, h => trivial
    case step =>
      intro i hi u w8 S8 hdep
      match i, hi with
      | 0, _ =>
        clear hdep
        refine ⟨_, rfl, fun K' hK => ?_⟩
        obtain ⟨f0, f1, f2⟩ := HK.out w8 S8
        go_simp
        exact hK.out _ _ (Below.refl _ _) rfl
      | 1, _ =>
        clear hdep
        refine ⟨_, rfl, fun K' hK => ?_⟩
        go_simp
        exact hK.out _ _ (Below.refl _ _) rfl
      | 2, _ =>
        clear hdep
        refine ⟨_, rfl, fun K' hK => ?_⟩
        go_simp
        refine (variables_impl _).mono ?_
        rintro e w9 ⟨x, y, rfl, hy, hb9, hr9⟩
        exact hK.out _ _ hb9 ⟨x, y, rfl, hy, hr9.imp fun _ _ => trivial⟩
      | 3, _ =>
        have h0 : (u 11) = .agg #[.int .i64 (kd t), .int .i64 (nn t), .slice a l c] := hdep 0 (by kernel_rfl)
        have h1 : (u 12) = .int .i64 (b : Int) := hdep 1 (by kernel_rfl)
        have h2 : (∃ x y, (u 13) = .slice x 12 y ∧ 12 ≤ y ∧ Rd (fun _ => True) 1048576 w8 1 varsT x 12) := hdep 2 (by kernel_rfl)
        clear hdep
        refine ⟨_, rfl, fun K' hK => ?_⟩
        obtain ⟨x, y, e2, hy, hrv⟩ := h2
        simp only [h0, h1, e2] at hK ⊢
        go_simp
        refine (word_row b hb1 hb2 d t a l c x y _ ((HR.out.below HW.out).below S8) HRT.out hrv hy).mono ?_
        rintro e w9 ⟨v, rfl, hrow, hb9⟩
        exact hK.out _ _ hb9 hrow
      | i + 4, hi => exact absurd hi (by omega)
    case last =>
      intro u w8 S8 hall
      have h3 : RowV w8 (30 * d + 1) (rowW b d t) b (u 14) := hall 3 (by decide)
      clear hall
      refine ⟨_, rfl, fun K' hK => ?_⟩
      obtain ⟨aR, cR, eR, rR⟩ := h3
      simp only [eR] at hK ⊢
      go_simp
      refine hK.out _ _ ?_
      clear hK K'
      (try simp only [Exit.then])
      have HB8 : Hid (Below w.heap.size w w8) := HW.out.trans (S8.mono HW.out.size)
      have HA := hid rR
      clear rR eR
      go_wp2_with fail
      refine (all_impl (30 * d) (rowW b d t) aR b cR _ HA.out).mono ?_
      rintro e w9 ⟨rfl, hb9⟩
      have HB9 : Hid (Below w.heap.size w w9) := HB8.out.trans (hb9.mono HB8.out.size)
      have HA9 := hid (HA.out.below hb9)
      clear hb9
      cases hok : allOk (30 * d) (rowW b d t) b with
      | false =>
        obtain rfl : C = 11 := by rw [HCC.out, hok]; rfl
        obtain rfl : L = 0 := HLL.out.trans (if_neg (by decide))
        obtain rfl : TT = zT := HTT.out.trans (if_neg (by decide))
        clear HCC HLL HTT
        go_wp2
        refine bodyPost_ret (v := .tuple #[.slice none 0 0, .int .i64 11]) (by simp [results, Try.results8, go_sem]) rfl ?_
        exact ⟨none, 0, rfl, HB9.out, ow_nil _ _ _ _ _ rfl⟩
      | true =>
        obtain rfl : C = 0 := by rw [HCC.out, hok]; rfl
        obtain rfl : L = b := HLL.out.trans (if_pos rfl)
        obtain rfl : TT = rowW L d t := HTT.out.trans (if_pos rfl)
        clear HCC HLL HTT
        go_wp2_with fail
        refine (each_of (30 * d + 1) (fun _ => ownE _) (rowW L d t) aR L cR _ HA9.out).mono ?_
        rintro e w7 ⟨a7, c7, rfl, hb7, ho7⟩
        have HB7 : Hid (Below w.heap.size w w7) := HB9.out.trans (hb7.mono HB9.out.size)
        have HO7 : Hid (Ow w7 (30 * d + 1) (rowW L d t) a7 L (fun x => w.heap.size ≤ x ∧ x < w7.heap.size)) := ho7.sub fun x hx => ⟨Nat.le_trans HB9.out.size hx.1, hx.2⟩
        clear hb7 ho7
        go_wp2
        refine bodyPost_ret (v := .tuple #[.slice a7 L c7, .int .i64 0]) (by simp [results, Try.results8, go_sem]) rfl ?_
        exact ⟨a7, c7, rfl, HB7.out, HO7.out⟩
end Go.Proofs.Ytikdadpapdkfiaa.bitFace
