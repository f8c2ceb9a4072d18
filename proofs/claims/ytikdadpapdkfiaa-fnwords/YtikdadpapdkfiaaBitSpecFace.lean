/- WordBits of the specification: for every word that lies in memory; conditions: none. -/
import Derived.Test.YtikdadpapdkfiaaBitSpecRow
import Derived.Test.YtikdadpapdkfiaaBitFace
namespace Go.Proofs.Ytikdadpapdkfiaa.bitSpecFace
open Go.RowKit Go.Deep Go base trees built heldStore drawn ownTree ownEx ownExE wordTrees wordSpec wordIs lessImpl rowsImpl rowsSpec faceImpl bitRows bitPart bitSteps bitPair bitSum bitSumRow bitWord bitWordRow bitFace bitSpecRow
set_option linter.unusedVariables false

set_option maxHeartbeats 3200000 in
theorem wordBits_spec (d : Nat) (t : T) (a : Option Addr) (l c : Nat) (bits : Int) (w : World) (hr : Rd (fun _ => True) 1048576 w d t a l) :
    Calls Try.prog 9 #[.agg #[.int .i64 (kd t), .int .i64 (nn t), .slice a l c], .int .i64 bits] w fun e w' => ∃ a' c', e = .returned (.tuple #[.slice a' (wbL d t bits) c', .int .i64 (wbC d t bits)]) ∧ Below w.heap.size w w' ∧ Rd (fun _ => True) 1048576 w' (30 * d + 1) (wbT d t bits) a' (wbL d t bits) := by
  have HR := hid hr
  clear hr
  cases hB : wordB d t bits with
  | false =>
    have e0 : wbC d t bits = 1 := if_pos hB
    have e1 : wbL d t bits = 0 := if_neg (by rw [e0]; decide)
    have e2 : wbT d t bits = zT := if_neg (by rw [e0]; decide)
    rw [e0, e1, e2]
    go_enter Try.func9, Try.ntmps9
    go_wp2_with fail
    refine (wordOK_spec d t a l c bits _ (HR.out.below (by repeat (first | exact Below.refl _ _ | assumption | refine Below.drew ?_ | refine Below.alloc ?_ (by first | exact Nat.le_refl _ | omega | (simp; done) | (simp; omega)) _ | refine Below.setCell ?_ (by first | exact Nat.le_refl _ | omega | (simp; done) | (simp; omega)) _)))).mono ?_
    rintro e w1 ⟨rfl, hb⟩
    have HB : Hid (Below w.heap.size w w1) := (show Below w.heap.size w _ from (by repeat (first | exact Below.refl _ _ | assumption | refine Below.drew ?_ | refine Below.alloc ?_ (by first | exact Nat.le_refl _ | omega | (simp; done) | (simp; omega)) _ | refine Below.setCell ?_ (by first | exact Nat.le_refl _ | omega | (simp; done) | (simp; omega)) _))).trans (hb.mono (by simp))
    clear hb
    rw [hB]
    go_wp2
    go_ret2
    exact ⟨_, _, rfl, HB.out.alloc HB.out.size _, rd_leaf _ _ _ rfl _⟩
  | true =>
    obtain ⟨b, rfl, hb1, hb2, hRT⟩ := word_bits hB
    have HRT := hid hRT
    have ec : wbC d t (b : Int) = if allOk (30 * d) (rowW b d t) b = false then 11 else 0 := by
      unfold wbC
      rw [if_neg (by rw [hB]; decide), Int.toNat_natCast]
    have el : wbL d t (b : Int) = if wbC d t (b : Int) = 0 then b else 0 := rfl
    have et : wbT d t (b : Int) = if wbC d t (b : Int) = 0 then rowW b d t else zT := rfl
    have HBW := hid hB
    obtain ⟨C, hC⟩ : ∃ C, wbC d t (b : Int) = C := ⟨_, rfl⟩
    obtain ⟨L, hL⟩ : ∃ L, wbL d t (b : Int) = L := ⟨_, rfl⟩
    obtain ⟨TT, hT⟩ : ∃ TT, wbT d t (b : Int) = TT := ⟨_, rfl⟩
    have HCC := hid (hC.symm.trans ec)
    rw [hC] at el et
    have HLL := hid (hL.symm.trans el)
    have HTT := hid (hT.symm.trans et)
    rw [hC, hL, hT]
    clear hRT ec el et hB hC hL hT
    go_enter Try.func9, Try.ntmps9
    go_wp2_with fail
    refine (wordOK_spec d t a l c (b : Int) _ (HR.out.below (by repeat (first | exact Below.refl _ _ | assumption | refine Below.drew ?_ | refine Below.alloc ?_ (by first | exact Nat.le_refl _ | omega | (simp; done) | (simp; omega)) _ | refine Below.setCell ?_ (by first | exact Nat.le_refl _ | omega | (simp; done) | (simp; omega)) _)))).mono ?_
    rintro e w1 ⟨rfl, hb⟩
    have HW : Hid (Below w.heap.size w w1) := (show Below w.heap.size w _ from (by repeat (first | exact Below.refl _ _ | assumption | refine Below.drew ?_ | refine Below.alloc ?_ (by first | exact Nat.le_refl _ | omega | (simp; done) | (simp; omega)) _ | refine Below.setCell ?_ (by first | exact Nat.le_refl _ | omega | (simp; done) | (simp; omega)) _))).trans (hb.mono (by simp))
    have f0 : w1.cell? ⟨w.heap.size, 0, none⟩ = some (.int .i64 (kd t)) := keep hb (by simp [go_sem])
    have f1 : w1.cell? ⟨w.heap.size, 1, none⟩ = some (.int .i64 (nn t)) := keep hb (by simp [go_sem])
    have f2 : w1.cell? ⟨w.heap.size, 2, none⟩ = some (.slice a l c) := keep hb (by simp [go_sem])
    clear hb
    rw [HBW.out]
    go_wp2_with fail
    refine (bits_row b hb1 hb2 d t a l c _ (HR.out.below HW.out) HRT.out).mono ?_
    rintro e w2 ⟨v, rfl, ⟨aR, cR, rfl, rR⟩, hb⟩
    have HB8 : Hid (Below w.heap.size w w2) := HW.out.trans (hb.mono HW.out.size)
    have HA := hid rR
    clear rR hb f0 f1 f2
    go_wp2_with fail
    refine (fits_spec (30 * d) (rowW b d t) aR b cR _ HA.out).mono ?_
    rintro e w9 ⟨rfl, hb9⟩
    have HB9 : Hid (Below w.heap.size w w9) := HB8.out.trans (hb9.mono HB8.out.size)
    have HA9 := hid (HA.out.below hb9)
    clear hb9
    cases hok : allOk (30 * d) (rowW b d t) b with
    | false =>
      obtain rfl : C = 11 := by rw [HCC.out, hok]; rfl
      obtain rfl : L = 0 := HLL.out.trans (if_neg (by decide))
      obtain rfl : TT = zT := HTT.out.trans (if_neg (by decide))
      clear HCC HLL HTT
      go_wp2
      go_ret2
      exact ⟨_, _, rfl, HB9.out.alloc HB9.out.size _, rd_leaf _ _ _ rfl _⟩
    | true =>
      obtain rfl : C = 0 := by rw [HCC.out, hok]; rfl
      obtain rfl : L = b := HLL.out.trans (if_pos rfl)
      obtain rfl : TT = rowW L d t := HTT.out.trans (if_pos rfl)
      clear HCC HLL HTT
      go_wp2
      go_ret2
      exact ⟨_, _, rfl, HB9.out, HA9.out⟩
end Go.Proofs.Ytikdadpapdkfiaa.bitSpecFace
