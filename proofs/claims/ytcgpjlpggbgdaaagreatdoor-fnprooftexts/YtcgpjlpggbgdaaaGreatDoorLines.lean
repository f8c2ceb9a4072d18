/- A clause's line, of the program; conditions: literals of at most 40 variables, at most 12 of them, the library's table of powers as it is laid. -/
import Derived.Test.YtcgpjlpggbgdaaaGreatDoorDigits
import Derived.Test.YtcgpjlpggbgdaaaGreatDoorShelfT
import Derived.Test.YtcgpjlpggbgdaaaGreatDoorShelfW
import Derived.Test.YtcgpjlpggbgdaaaGreatDoorCnf
import Derived.Lib.LaidTab
namespace Go.Proofs.YtcgpjlpggbgdaaaGreatDoor.lines
open Go.RowKit Go.Deep Go.Sort base copy cnf digits

def litBytes (z : Int) : List UInt8 := Lib.itoa z ++ [32]
def lineBytes (zs : List Int) : List UInt8 := zs.flatMap litBytes ++ [48, 10]
/-- The library's table of powers is as the program lays it. -/
def TabW (w : World) : Prop := Lib.TabIs Tryz.prog w "internal/strconv.uint64pow10" .u64 Lib.pow10Tab
theorem TabW.below {w w1 : World} (h : TabW w) (hb : Below w.heap.size w w1) : TabW w1 := by
  unfold TabW Lib.TabIs at *
  unfold World.var? at *
  cases hg : Tryz.prog.globalNamed "internal/strconv.uint64pow10" with
  | none =>
    rw [hg] at h
    cases h
  | some g =>
    rw [hg] at h
    simp only [Option.bind_some] at h ⊢
    have hlt : g < w.heap.size := by
      rcases Nat.lt_or_ge g w.heap.size with h' | h'
      · exact h'
      · rw [Array.getElem?_eq_none h'] at h
        cases h
    rw [hb.block g hlt]
    exact h
theorem below_grow (w : World) (k : Nat) (os : Array Obj) : Below w.heap.size w (grow (w.drewN k) os) :=
  ⟨rfl, rfl, rfl, by simp [grow], fun j hj => by
    show (w.heap ++ os)[j]? = _
    rw [Array.getElem?_append, if_pos hj]⟩
theorem own_pass {B n : Nat} {w w1 : World} {v : Value} {t : TypeId} {s : Nat} {xs : List Value} (h : w.ownsRow B t s v n xs) (hb : Below w.heap.size w w1) : w1.ownsRow B t s v n xs := by
  obtain ⟨h1, h2⟩ := h
  refine ⟨h1, ?_⟩
  rcases h2 with h2 | ⟨g, cap, cur, e, hg, hh, hn, hm, hs, ht⟩
  · exact .inl h2
  · exact .inr ⟨g, cap, cur, e, hg, by rw [hb.block g (Array.getElem?_eq_some_iff.1 hh).1]; exact hh, hn, hm, hs, ht⟩
theorem builder_below {T e : TypeId} {B b : Nat} {bs : List Value} {w w1 : World} (h : Lib.IsBuilder T e B b bs w) (hb : Below w.heap.size w w1) : Lib.IsBuilder T e B b bs w1 := by
  rcases h with ⟨h1, v, h2, h3, h4⟩ | ⟨h1, v, h2, h3, h4⟩
  · exact .inl ⟨h1, v, by rw [hb.block b (Array.getElem?_eq_some_iff.1 h2).1]; exact h2, own_pass h3 hb, h4⟩
  · exact .inr ⟨h1, v, by rw [hb.block b (Array.getElem?_eq_some_iff.1 h2).1]; exact h2, own_pass h3 hb, h4⟩
theorem str_cells (s : ByteArray) : Lib.strCells s = Lib.byteCells s.data.toList := rfl
theorem cells_append (a b : List UInt8) : Lib.byteCells (a ++ b) = Lib.byteCells a ++ Lib.byteCells b := by simp [Lib.byteCells]
theorem itoa_len (z : Int) (h0 : -1000 ≤ z) (h1 : z ≤ 1000) : (Lib.itoa z).length ≤ 1002 := by
  unfold Lib.itoa
  split
  · have := dec_len z.natAbs
    simp
    omega
  · have := dec_len z.toNat
    omega
theorem flat_succ {zs : List Int} {k : Nat} (h : k < zs.length) : (zs.take (k + 1)).flatMap litBytes = (zs.take k).flatMap litBytes ++ litBytes (zs[k]?.getD 0) := by
  rw [List.take_succ_eq_append_getElem h, List.flatMap_append, List.getElem?_eq_getElem h]
  simp
theorem flat_len (zs : List Int) (hz : ∀ z ∈ zs, -1000 ≤ z ∧ z ≤ 1000) : (zs.flatMap litBytes).length ≤ zs.length * 1003 := by
  induction zs with
  | nil => simp
  | cons x xs ih =>
    have h1 := ih (fun z hz' => hz z (by simp [hz']))
    have h2 := hz x (by simp)
    have h3 := itoa_len x h2.1 h2.2
    rw [List.flatMap_cons, List.length_append, List.length_cons]
    unfold litBytes
    rw [List.length_append]
    simp only [List.length_cons, List.length_nil]
    unfold litBytes at h1
    omega

theorem itoa_impl (z : Int) (w : World) (h0 : -1000 ≤ z) (h1 : z ≤ 1000) (ht : TabW w) :
    Calls Tryz.prog 47 #[.int .i64 z] w fun e w' => e = .returned (.string ⟨(Lib.itoa z).toArray⟩) ∧ Below w.heap.size w w' := by
  have h := Any.strconv_Itoa Tryz.laysM171 z (by omega) (by omega) w ht
  change Calls Tryz.prog 47 _ _ _ at h
  refine h.mono ?_
  rintro e w' ⟨rfl, k, os, rfl⟩
  exact ⟨rfl, below_grow w k os⟩
theorem write_impl (B b : Nat) (l : List UInt8) (s : ByteArray) (w : World) (h : Lib.IsBuilder 66 5 B b (Lib.byteCells l) w) (hlen : l.length + s.size ≤ 140737488355328) (hBw : B ≤ w.heap.size) :
    Calls Tryz.prog 32 #[.pointer (some ⟨b, 0, none⟩), .string s] w fun e w' => e = .returned (.tuple #[.int .i64 s.size, .nilIface]) ∧ Lib.IsBuilder 66 5 B b (Lib.byteCells (l ++ s.data.toList)) w' ∧ Below B w w' := by
  have hc := Any.Builder_WriteString Tryz.lays166 Tryz.Builder_Extra_166 B b (Lib.byteCells l) s w h (by rw [Lib.byteCells_length]; exact hlen) hBw
  change Calls Tryz.prog 32 _ _ _ at hc
  refine hc.mono ?_
  rintro e w' ⟨rfl, h1, h2⟩
  refine ⟨rfl, .inr ?_, h2⟩
  rw [cells_append, ← str_cells]
  exact h1
theorem string_impl (B b : Nat) (l : List UInt8) (w : World) (h : Lib.IsBuilder 66 5 B b (Lib.byteCells l) w) (hBw : B ≤ w.heap.size) :
    Calls Tryz.prog 34 #[.pointer (some ⟨b, 0, none⟩)] w fun e w' => e = .returned (.string ⟨l.toArray⟩) ∧ Below B w w' := by
  have hc := Any.Builder_String_any Tryz.lays169 Tryz.Builder_Extra_169 B b l w h hBw
  change Calls Tryz.prog 34 _ _ _ at hc
  exact hc

set_option maxHeartbeats 1600000 in
set_option maxRecDepth 8000 in
theorem line_impl (a : Option Addr) (len cap : Nat) (zs : List Int) (w : World) (hr : IntRow w a len zs) (hz : ∀ z ∈ zs, -40 ≤ z ∧ z ≤ 40) (hb : len ≤ 12) (ht : TabW w) :
    Calls Tryz.prog 33 #[.slice a len cap] w fun e w' => e = .returned (.string ⟨(lineBytes zs).toArray⟩) ∧ Below w.heap.size w w' := by
  have HR := hid hr
  have HL := hid hr.length
  have HZ := hid hz
  have HT := hid ht
  have HFl := hid (fun k => flat_len (zs.take k) (fun z h => by have := hz z (List.mem_of_mem_take h); omega))
  obtain ⟨lb, hlb⟩ : ∃ lb, lineBytes zs = lb := ⟨_, rfl⟩
  have HLi : Hid (lb = zs.flatMap litBytes ++ [48, 10]) := hlb.symm
  rw [hlb]
  clear hr hz ht hlb
  go_enter Tryz.func33, Tryz.ntmps33
  go_wp2
  go_loopw [8] (fun i wr => ∃ k : Nat, k ≤ len ∧ i = .int .i64 k ∧ Lib.IsBuilder 66 5 w.heap.size w.heap.size (Lib.byteCells ((zs.take k).flatMap litBytes)) wr ∧ Below w.heap.size w wr) (fun i _ => len - (intOf i).toNat)
  case atStart => exact ⟨0, Nat.zero_le _, rfl, Lib.fresh_isBuilder _ _ w, (by repeat (first | exact Below.refl _ _ | assumption | refine Below.drew ?_ | refine Below.alloc ?_ (by first | exact Nat.le_refl _ | omega | (simp; done) | (simp; omega)) _ | refine Below.setCell ?_ (by first | exact Nat.le_refl _ | omega | (simp; done) | (simp; omega)) _))⟩
  case round =>
    obtain ⟨k, hk, rfl, hbu, hbel⟩ := hrel
    have HBu := hid hbu
    have HB := hid hbel
    have hfl : ((zs.take k).flatMap litBytes).length ≤ 12036 := by
      have h1 := HFl.out k
      have h2 : (zs.take k).length ≤ 12 := by rw [List.length_take]; omega
      have h3 : (zs.take k).length * 1003 ≤ 12 * 1003 := Nat.mul_le_mul_right _ h2
      omega
    by_cases hlt : k < len
    · obtain ⟨b, off, rfl, hc0⟩ := HR.out.cell k hlt
      have hc := keep hbel hc0
      have hkz : k < zs.length := by rw [HL.out]; exact hlt
      have hmem : zs[k]?.getD 0 ∈ zs := by rw [List.getElem?_eq_getElem hkz]; exact List.getElem_mem _
      obtain ⟨hz0, hz1⟩ := HZ.out _ hmem
      have HF := hid (flat_succ (zs := zs) hkz)
      clear hc0 hmem hbu hbel
      generalize zs[k]?.getD 0 = z at *
      generalize (zs.take k).flatMap litBytes = acc at *
      have HIt := hid (fun w ht => itoa_impl z w (by omega) (by omega) ht)
      have hil := itoa_len z (by omega) (by omega)
      obtain ⟨t, hti⟩ : ∃ t, Lib.itoa z = t := ⟨_, rfl⟩
      have HTi := hid hti
      rw [hti] at HIt hil
      clear hti
      go_wp2_with fail
      refine (HIt.out _ (HT.out.below HB.out)).mono ?_
      rintro e w1 ⟨rfl, hb1⟩
      have HB1 := hid (HB.out.trans (hb1.mono HB.out.size))
      have HBu1 := hid (builder_below HBu.out hb1)
      have HS1 := hid HB1.out.size
      clear hb1
      have hls : ¬ (9223372036854775807 < t.length + 1) := by omega
      go_wp2_with fail
      refine (write_impl w.heap.size w.heap.size acc _ _ HBu1.out ?_ HS1.out).mono ?_
      · rw [ByteArray.size_append]
        show acc.length + (t.toArray.size + 1) ≤ _
        rw [List.size_toArray]
        omega
      rintro e w2 ⟨rfl, hbu2, hb2⟩
      have HB2 := hid (HB1.out.trans hb2)
      have HBu2 : Hid (Lib.IsBuilder 66 5 w.heap.size w.heap.size (Lib.byteCells ((zs.take (k + 1)).flatMap litBytes)) w2) := by
        show Lib.IsBuilder _ _ _ _ _ _
        rw [HF.out]
        unfold litBytes
        rw [HTi.out]
        simpa using hbu2
      clear hbu2 hb2
      go_wp2
      go_roundw
      case rel => exact ⟨k + 1, by omega, by go_num, HBu2.out, HB2.out⟩
      case measure => simp [intOf]; omega
    · have e : k = len := by omega
      subst e
      have ht : zs.take k = zs := List.take_of_length_le (by rw [HL.out]; omega)
      rw [ht] at HBu hfl
      clear hbu hbel ht
      have HS := hid HB.out.size
      generalize zs.flatMap litBytes = acc at *
      go_wp2_with fail
      refine (string_impl w.heap.size w.heap.size acc _ HBu.out HS.out).mono ?_
      rintro e w1 ⟨rfl, hb1⟩
      have HB1 := hid (HB.out.trans hb1)
      clear hb1
      go_wp2
      go_ret
      exact ⟨ret_str (by rw [HLi.out]; apply ByteArray.ext; simp), HB1.out⟩
end Go.Proofs.YtcgpjlpggbgdaaaGreatDoor.lines
