/- A formula's text, of the program; conditions: lengths that fit, the library's table of powers as it is laid. -/
import Derived.Test.YtcgpjlpggbgdaaaGreatDoorLines
import Derived.Deep.RegionHeld3
namespace Go.Proofs.YtcgpjlpggbgdaaaGreatDoor.textImpl
open Go.RowKit Go.Deep base copy cnf digits lines

def headBytes (vars : Int) (n : Nat) : List UInt8 := [112, 32, 99, 110, 102, 32] ++ Lib.itoa vars ++ [32] ++ Lib.itoa n ++ [10]
def textBytes (vars : Int) (zss : List (List Int)) : List UInt8 := headBytes vars zss.length ++ zss.flatMap lineBytes
theorem keepB {B : Nat} {w w1 : World} (hb : Below B w w1) {b o : Nat} {v : Value} (hlt : b < B) (h : w.cell? ⟨b, o, none⟩ = some v) : w1.cell? ⟨b, o, none⟩ = some v := by
  rw [hb.cell (p := ⟨b, o, none⟩) hlt]; exact h
def headStr (t1 t2 : List UInt8) : ByteArray := ⟨#[112, 32, 99, 110, 102, 32]⟩ ++ ⟨t1.toArray⟩ ++ ⟨#[32]⟩ ++ ⟨t2.toArray⟩ ++ ⟨#[10]⟩
theorem head_list (t1 t2 : List UInt8) : (headStr t1 t2).data.toList = [112, 32, 99, 110, 102, 32] ++ t1 ++ [32] ++ t2 ++ [10] := by
  unfold headStr
  simp
theorem head_size (t1 t2 : List UInt8) : (headStr t1 t2).size = 6 + t1.length + 1 + t2.length + 1 := by
  have h : (headStr t1 t2).size = (headStr t1 t2).data.toList.length := by rw [Array.length_toList]; rfl
  rw [h, head_list]
  simp
  omega
theorem text_succ {zss : List (List Int)} {k : Nat} (h : k < zss.length) : (zss.take (k + 1)).flatMap lineBytes = (zss.take k).flatMap lineBytes ++ lineBytes (zss[k]?.getD []) := by
  rw [List.take_succ_eq_append_getElem h, List.flatMap_append, List.getElem?_eq_getElem h]
  simp
theorem line_len {zs : List Int} (hl : zs.length ≤ 12) (hz : ∀ z ∈ zs, -40 ≤ z ∧ z ≤ 40) : (lineBytes zs).length ≤ 12038 := by
  have h1 := flat_len zs (fun z h => by have := hz z h; omega)
  have h2 : zs.length * 1003 ≤ 12 * 1003 := Nat.mul_le_mul_right _ hl
  unfold lineBytes
  rw [List.length_append]
  simp only [List.length_cons, List.length_nil]
  omega
theorem text_len (zss : List (List Int)) (h : ∀ zs ∈ zss, zs.length ≤ 12 ∧ ∀ z ∈ zs, -40 ≤ z ∧ z ≤ 40) : (zss.flatMap lineBytes).length ≤ zss.length * 12038 := by
  induction zss with
  | nil => simp
  | cons x xs ih =>
    have h1 := ih (fun z hz => h z (by simp [hz]))
    have h2 := h x (by simp)
    have h3 := line_len h2.1 h2.2
    rw [List.flatMap_cons, List.length_append, List.length_cons, Nat.succ_mul]
    omega
theorem text_most {zss : List (List Int)} (h : ∀ zs ∈ zss, zs.length ≤ 12 ∧ ∀ z ∈ zs, -40 ≤ z ∧ z ≤ 40) (hl : zss.length ≤ 300) : (zss.flatMap lineBytes).length ≤ 3611400 := by
  have h1 := text_len zss h
  have h2 := Nat.mul_le_mul_right 12038 hl
  exact Nat.le_trans h1 h2
theorem cnf_rows {vars : Int} {zss : List (List Int)} (h : cnfB vars zss = true) : 0 ≤ vars ∧ vars ≤ 40 ∧ zss.length ≤ 300 ∧ ∀ zs ∈ zss, zs.length ≤ 12 ∧ ∀ z ∈ zs, -40 ≤ z ∧ z ≤ 40 := by
  simp only [cnfB, Bool.and_eq_true, decide_eq_true_eq, List.all_eq_true] at h
  obtain ⟨⟨h1, h2, h3⟩, h4⟩ := h
  refine ⟨h1, h2, h3, fun zs hz => ?_⟩
  have h5 := h4 zs hz
  simp only [clauseB, Bool.and_eq_true, decide_eq_true_eq, List.all_eq_true] at h5
  refine ⟨h5.1, fun z hzz => ?_⟩
  have h6 : z ≠ 0 ∧ -vars ≤ z ∧ z ≤ vars := of_decide_eq_true (h5.2 z hzz)
  omega

end Go.Proofs.YtcgpjlpggbgdaaaGreatDoor.textImpl
