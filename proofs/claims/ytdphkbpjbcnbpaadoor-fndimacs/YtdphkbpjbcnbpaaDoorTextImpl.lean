/- A formula's text, of the program; conditions: lengths that fit, the library's table of powers as it is laid. -/
import Derived.Test.YtdphkbpjbcnbpaaDoorLines
import Derived.Deep.RegionHeld3
namespace Go.Proofs.YtdphkbpjbcnbpaaDoor.textImpl
open Go.RowKit Go.Deep base copy cnf digits lines

def headBytes (vars : Int) (n : Nat) : List UInt8 := [112, 32, 99, 110, 102, 32] ++ Lib.itoa vars ++ [32] ++ Lib.itoa n ++ [10]
def textBytes (vars : Int) (zss : List (List Int)) : List UInt8 := headBytes vars zss.length ++ zss.flatMap lineBytes
theorem keepB {B : Nat} {w w1 : World} (hb : Below B w w1) {b o : Nat} {v : Value} (hlt : b < B) (h : w.cell? ⟨b, o, none⟩ = some v) : w1.cell? ⟨b, o, none⟩ = some v := by
  rw [hb.cell (p := ⟨b, o, none⟩) hlt]; exact h
def headStr (t1 t2 : List UInt8) : ByteArray := ⟨#[112, 32, 99, 110, 102, 32]⟩ ++ ⟨t1.toArray⟩ ++ ⟨#[32]⟩ ++ ⟨t2.toArray⟩ ++ ⟨#[10]⟩
theorem head_list (t1 t2 : List UInt8) : (headStr t1 t2).data.toList = [112, 32, 99, 110, 102, 32] ++ t1 ++ [32] ++ t2 ++ [10] := by
  unfold headStr
  simp
theorem head_size (t1 t2 : List UInt8) : (headStr t1 t2).size = 6 + t1.length + 1 + t2.length + 1 := by
  have h : (headStr t1 t2).size = (headStr t1 t2).data.toList.length := by rw [Array.length_toList]; rfl
  rw [h, head_list]
  simp
  omega
theorem text_succ {zss : List (List Int)} {k : Nat} (h : k < zss.length) : (zss.take (k + 1)).flatMap lineBytes = (zss.take k).flatMap lineBytes ++ lineBytes (zss[k]?.getD []) := by
  rw [List.take_succ_eq_append_getElem h, List.flatMap_append, List.getElem?_eq_getElem h]
  simp
theorem line_len {zs : List Int} (hl : zs.length ≤ 12) (hz : ∀ z ∈ zs, -40 ≤ z ∧ z ≤ 40) : (lineBytes zs).length ≤ 12038 := by
  have h1 := flat_len zs (fun z h => by have := hz z h; omega)
  have h2 : zs.length * 1003 ≤ 12 * 1003 := Nat.mul_le_mul_right _ hl
  unfold lineBytes
  rw [List.length_append]
  simp only [List.length_cons, List.length_nil]
  omega
theorem text_len (zss : List (List Int)) (h : ∀ zs ∈ zss, zs.length ≤ 12 ∧ ∀ z ∈ zs, -40 ≤ z ∧ z ≤ 40) : (zss.flatMap lineBytes).length ≤ zss.length * 12038 := by
  induction zss with
  | nil => simp
  | cons x xs ih =>
    have h1 := ih (fun z hz => h z (by simp [hz]))
    have h2 := h x (by simp)
    have h3 := line_len h2.1 h2.2
    rw [List.flatMap_cons, List.length_append, List.length_cons, Nat.succ_mul]
    omega
theorem text_most {zss : List (List Int)} (h : ∀ zs ∈ zss, zs.length ≤ 12 ∧ ∀ z ∈ zs, -40 ≤ z ∧ z ≤ 40) (hl : zss.length ≤ 300) : (zss.flatMap lineBytes).length ≤ 3611400 := by
  have h1 := text_len zss h
  have h2 := Nat.mul_le_mul_right 12038 hl
  exact Nat.le_trans h1 h2
theorem cnf_rows {vars : Int} {zss : List (List Int)} (h : cnfB vars zss = true) : 0 ≤ vars ∧ vars ≤ 40 ∧ zss.length ≤ 300 ∧ ∀ zs ∈ zss, zs.length ≤ 12 ∧ ∀ z ∈ zs, -40 ≤ z ∧ z ≤ 40 := by
  simp only [cnfB, Bool.and_eq_true, decide_eq_true_eq, List.all_eq_true] at h
  obtain ⟨⟨h1, h2, h3⟩, h4⟩ := h
  refine ⟨h1, h2, h3, fun zs hz => ?_⟩
  have h5 := h4 zs hz
  simp only [clauseB, Bool.and_eq_true, decide_eq_true_eq, List.all_eq_true] at h5
  refine ⟨h5.1, fun z hzz => ?_⟩
  have h6 : z ≠ 0 ∧ -vars ≤ z ∧ z ≤ vars := of_decide_eq_true (h5.2 z hzz)
  omega

set_option maxHeartbeats 400000 in
theorem text_impl_bad (vars : Int) (a : Option Addr) (len cap : Nat) (zss : List (List Int)) (w : World) (hr : IntRows w a len zss) (hB : cnfB vars zss = false) :
    Calls Tryd.prog 5 #[.agg #[.int .i64 vars, .slice a len cap]] w fun e w' => e = .returned (.tuple #[.string ⟨#[]⟩, .int .i64 1]) ∧ Below w.heap.size w w' := by
  have HR := hid hr
  clear hr
  go_enter Tryd.func5, Tryd.ntmps5
  go_wp2_with fail
  refine (cnfOK_impl vars a len cap zss _ (HR.out.below (by repeat (first | exact Below.refl _ _ | assumption | refine Below.drew ?_ | refine Below.alloc ?_ (by first | exact Nat.le_refl _ | omega | (simp; done) | (simp; omega)) _ | refine Below.setCell ?_ (by first | exact Nat.le_refl _ | omega | (simp; done) | (simp; omega)) _)))).mono ?_
  rintro e w1 ⟨rfl, hb1⟩
  have HB := hid ((show Below w.heap.size w _ from (by repeat (first | exact Below.refl _ _ | assumption | refine Below.drew ?_ | refine Below.alloc ?_ (by first | exact Nat.le_refl _ | omega | (simp; done) | (simp; omega)) _ | refine Below.setCell ?_ (by first | exact Nat.le_refl _ | omega | (simp; done) | (simp; omega)) _))).trans (hb1.mono (by simp)))
  clear hb1
  rw [hB]
  go_wp2
  go_ret2
  exact ⟨rfl, HB.out⟩

set_option maxHeartbeats 3200000 in
set_option maxRecDepth 8000 in
theorem text_impl_good (vars : Int) (a : Option Addr) (len cap : Nat) (zss : List (List Int)) (w : World) (hr : IntRows w a len zss) (hB : cnfB vars zss = true) (ht : TabW w) :
    Calls Tryd.prog 5 #[.agg #[.int .i64 vars, .slice a len cap]] w fun e w' => e = .returned (.tuple #[.string ⟨(textBytes vars zss).toArray⟩, .int .i64 0]) ∧ Below w.heap.size w w' := by
  obtain ⟨hv0, hv1, hl300, hrows⟩ := cnf_rows hB
  have HRo := hid hrows
  have HR := hid hr
  have HL := hid hr.length
  have HT := hid ht
  have hle : len ≤ 300 := by rw [← hr.length]; exact hl300
  obtain ⟨tb, htb⟩ : ∃ tb, textBytes vars zss = tb := ⟨_, rfl⟩
  have HTb := hid htb
  rw [htb]
  have HIt := hid (fun w ht => itoa_impl vars w (by omega) (by omega) ht)
  have HIl := hid (fun w ht => itoa_impl (len : Int) w (by omega) (by omega) ht)
  have hil1 := itoa_len vars (by omega) (by omega)
  have hil2 := itoa_len (len : Int) (by omega) (by omega)
  have HHd : Hid (headBytes vars zss.length = [112, 32, 99, 110, 102, 32] ++ Lib.itoa vars ++ [32] ++ Lib.itoa (len : Int) ++ [10]) := by
    show _ = _
    rw [hr.length]
    rfl
  generalize Lib.itoa vars = t1 at *
  generalize Lib.itoa (len : Int) = t2 at *
  have HTx : Hid (∀ k, ((zss.take k).flatMap lineBytes).length ≤ 3611400) := fun k => text_most (fun zs h => HRo.out zs (List.mem_of_mem_take h)) (Nat.le_trans (List.length_take_le' _ _) hl300)
  clear hr ht hrows htb hl300
  go_enter Tryd.func5, Tryd.ntmps5
  go_wp2_with fail
  refine (cnfOK_impl vars a len cap zss _ (HR.out.below (by repeat (first | exact Below.refl _ _ | assumption | refine Below.drew ?_ | refine Below.alloc ?_ (by first | exact Nat.le_refl _ | omega | (simp; done) | (simp; omega)) _ | refine Below.setCell ?_ (by first | exact Nat.le_refl _ | omega | (simp; done) | (simp; omega)) _)))).mono ?_
  rintro e w1 ⟨rfl, hb1⟩
  have HB := hid ((show Below w.heap.size w _ from (by repeat (first | exact Below.refl _ _ | assumption | refine Below.drew ?_ | refine Below.alloc ?_ (by first | exact Nat.le_refl _ | omega | (simp; done) | (simp; omega)) _ | refine Below.setCell ?_ (by first | exact Nat.le_refl _ | omega | (simp; done) | (simp; omega)) _))).trans (hb1.mono (by simp)))
  have b0 : w1.cell? ⟨w.heap.size, 0, none⟩ = some (.int .i64 vars) := keep hb1 (by simp [go_sem])
  have b1 : w1.cell? ⟨w.heap.size, 1, none⟩ = some (.slice a len cap) := keep hb1 (by simp [go_sem])
  have z1 : w.heap.size < w1.heap.size := by have := hb1.size; simp at this; omega
  clear hb1
  rw [hB]
  clear hB
  have hS0 : w1.cell? ⟨w.heap.size, 0, none⟩ = some (.int .i64 vars) ∧ w1.cell? ⟨w.heap.size, 1, none⟩ = some (.slice a len cap) := ⟨b0, b1⟩
  have HS0 := hid hS0
  have hsz1 : ¬ (9223372036854775807 < 6 + t1.length) := by omega
  have hsz2 : ¬ (9223372036854775807 < 6 + t1.length + 1) := by omega
  have hsz3 : ¬ (9223372036854775807 < 6 + t1.length + 1 + t2.length) := by omega
  have hsz4 : ¬ (9223372036854775807 < 6 + t1.length + 1 + t2.length + 1) := by omega
  have hba : Below w1.heap.size w1 (w1.alloc (.cells #[.pointer none, .slice none 0 0] 39)) := (Below.refl _ _).alloc (Nat.le_refl _) _
  have HBa := hid hba
  clear hS0 hba b0 b1
  go_wp2
  go_region_held3 (fun w' => w'.cell? ⟨w.heap.size, 0, none⟩ = some (.int .i64 vars) ∧ w'.cell? ⟨w.heap.size, 1, none⟩ = some (.slice a len cap))
    (first | assumption | exact ⟨keep HBa.out HS0.out.1, keep HBa.out HS0.out.2⟩)
    (first
      | (go_at_call 13; refine (HIt.out _ (HT.out.below (HB.out.trans (HBa.out.mono (by omega))).drew)).mono ?_; rintro e w2 ⟨rfl, hb2⟩; have hb12 : Below w1.heap.size w1 w2 := HBa.out.drew.trans (hb2.mono (by simp)); have hbu2 : Lib.IsBuilder 39 5 w1.heap.size w1.heap.size (Lib.byteCells []) w2 := builder_below (show Lib.IsBuilder _ _ _ _ _ (World.drew _) from Lib.fresh_isBuilder _ _ w1) hb2; have hS2 : w2.cell? ⟨w.heap.size, 0, none⟩ = some (.int .i64 vars) ∧ w2.cell? ⟨w.heap.size, 1, none⟩ = some (.slice a len cap) := ⟨keep hb12 HS0.out.1, keep hb12 HS0.out.2⟩; clear hb2)
      | (go_at_call 13; refine (HIl.out _ (HT.out.below (HB.out.trans (hb12.mono (by omega))))).mono ?_; rintro e w3 ⟨rfl, hb3⟩; have hb13 : Below w1.heap.size w1 w3 := hb12.trans (hb3.mono hb12.size); have hbu3 : Lib.IsBuilder 39 5 w1.heap.size w1.heap.size (Lib.byteCells []) w3 := builder_below hbu2 hb3; have hS3 : w3.cell? ⟨w.heap.size, 0, none⟩ = some (.int .i64 vars) ∧ w3.cell? ⟨w.heap.size, 1, none⟩ = some (.slice a len cap) := ⟨keep hb13 HS0.out.1, keep hb13 HS0.out.2⟩; clear hb3)
      | (go_at_call 12; refine (write_impl w1.heap.size w1.heap.size [] (headStr t1 t2) _ hbu3 (by rw [head_size]; simp only [List.length_nil]; omega) hb13.size).mono ?_; rintro e w4 ⟨rfl, hbu4, hb4⟩; have hb14 : Below w1.heap.size w1 w4 := hb13.trans hb4; have hS4 : w4.cell? ⟨w.heap.size, 0, none⟩ = some (.int .i64 vars) ∧ w4.cell? ⟨w.heap.size, 1, none⟩ = some (.slice a len cap) := ⟨keep hb14 HS0.out.1, keep hb14 HS0.out.2⟩; clear hb4))
  all_goals
    rw [head_list, List.nil_append, ← HHd.out] at hbu4
    have HBu4 := hid hbu4
    have HB4 := hid hb14
    have k1 := hS4.2
    have k0 := hS4.1
    have hhl : (headBytes vars zss.length).length ≤ 2012 := by
      rw [HHd.out]
      simp
      omega
    obtain ⟨hd, hhd⟩ : ∃ hd, headBytes vars zss.length = hd := ⟨_, rfl⟩
    have HTe : Hid (tb = hd ++ zss.flatMap lineBytes) := by
      show _ = _
      rw [← HTb.out, ← hhd]
      rfl
    rw [hhd] at HBu4 hhl
    clear hbu4 hb14 hS4 hhd hb12 hbu2 hS2 hb13 hbu3 hS3
    generalize hq : w4 = W4 at *
    clear hq
    go_wp2
    go_loopw [25] (fun i wr => ∃ k : Nat, k ≤ len ∧ i = .int .i64 k ∧ Lib.IsBuilder 39 5 w1.heap.size w1.heap.size (Lib.byteCells (hd ++ (zss.take k).flatMap lineBytes)) wr ∧ Below w1.heap.size w1 wr) (fun i _ => len - (intOf i).toNat)
    case atStart => exact ⟨0, Nat.zero_le _, rfl, by simpa using HBu4.out, HB4.out⟩
    case round =>
      obtain ⟨k, hk, rfl, hbu, hbel⟩ := hrel
      have HBu := hid hbu
      have HBk := hid hbel
      have hfl := HTx.out k
      have HBw := hid (HB.out.trans (hbel.mono (by omega)))
      have HSz := hid hbel.size
      clear hbu
      by_cases hlt : k < len
      · obtain ⟨b, off, rfl, x, l, c, hc0, hx0⟩ := HR.out.cell k hlt
        have hc := keep HBw.out hc0
        have HX := hid (hx0.below HBw.out)
        have hkz : k < zss.length := by rw [HL.out]; exact hlt
        have hmem : zss[k]?.getD [] ∈ zss := by rw [List.getElem?_eq_getElem hkz]; exact List.getElem_mem _
        have HZ := hid (HRo.out _ hmem)
        have HXl := hid hx0.length
        have HF := hid (text_succ (zss := zss) hkz)
        clear hc0 hx0 hmem hbel
        generalize zss[k]?.getD [] = zs at *
        generalize (zss.take k).flatMap lineBytes = acc at *
        have hll := line_len HZ.out.1 HZ.out.2
        have HLine := hid (fun w hr ht => line_impl x l c zs w hr HZ.out.2 (by rw [← HXl.out]; exact HZ.out.1) ht)
        generalize lineBytes zs = lb at *
        go_wp2_with fail
        refine (HLine.out _ HX.out (HT.out.below HBw.out)).mono ?_
        rintro e w5 ⟨rfl, hb5⟩
        have HB5 := hid (HBk.out.trans (hb5.mono HBk.out.size))
        have HBu5 := hid (builder_below HBu.out hb5)
        have HS5 := hid HB5.out.size
        clear hb5
        go_wp2_with fail
        refine (write_impl w1.heap.size w1.heap.size _ _ _ HBu5.out ?_ HS5.out).mono ?_
        · show _ + lb.toArray.size ≤ _
          rw [List.length_append, List.size_toArray]
          omega
        rintro e w6 ⟨rfl, hbu6, hb6⟩
        have HB6 := hid (HB5.out.trans hb6)
        have HBu6 : Hid (Lib.IsBuilder 39 5 w1.heap.size w1.heap.size (Lib.byteCells (hd ++ (zss.take (k + 1)).flatMap lineBytes)) w6) := by
          show Lib.IsBuilder _ _ _ _ _ _
          rw [HF.out, ← List.append_assoc]
          exact hbu6
        clear hbu6 hb6
        go_wp2
        go_roundw
        case rel => exact ⟨k + 1, by omega, by go_num, HBu6.out, HB6.out⟩
        case measure => simp [intOf]; omega
      · have e : k = len := by omega
        subst e
        have ht : zss.take k = zss := List.take_of_length_le (by rw [HL.out]; omega)
        rw [ht, ← HTe.out] at HBu
        clear hbel ht
        go_wp2_with fail
        refine (string_impl w1.heap.size w1.heap.size tb _ HBu.out HSz.out).mono ?_
        rintro e w5 ⟨rfl, hb5⟩
        have HB5 := hid (HB.out.trans ((HBk.out.trans hb5).mono (by omega)))
        clear hb5
        go_wp2
        go_ret2
        exact ⟨rfl, HB5.out⟩
end Go.Proofs.YtdphkbpjbcnbpaaDoor.textImpl
