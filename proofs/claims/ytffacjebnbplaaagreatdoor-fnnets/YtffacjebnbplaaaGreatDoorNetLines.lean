/- Lines of a network's text, as the program writes them: numbers, words that are joined, a Builder; conditions: lengths that fit, the library's table of powers as it is laid. -/
import Derived.Test.YtffacjebnbplaaaGreatDoorPart1
import Derived.Test.YtffacjebnbplaaaGreatDoorPart6
import Derived.Lib.LaidTab
import Derived.Lib.ItoaNum
namespace Go.Proofs.YtffacjebnbplaaaGreatDoor.netLines
open Go.RowKit Go.Deep Go.Sort base
set_option linter.unusedVariables false

theorem ret_str {a b : ByteArray} (h : a = b) : Ending.returned (.string a) = .returned (.string b) := by rw [h]
theorem dec_small {u : Nat} (h : u < 10) : Lib.decDigits u = [UInt8.ofNat (48 + u)] := by rw [Lib.decDigits, dif_pos h]
theorem dec_more {u : Nat} (h : ¬ u < 10) : Lib.decDigits u = Lib.decDigits (u / 10) ++ [UInt8.ofNat (48 + u % 10)] := by rw [Lib.decDigits, dif_neg h]
theorem dec_len : ∀ u : Nat, (Lib.decDigits u).length ≤ u + 1 := by
  intro u
  induction u using Nat.strongRecOn with
  | _ u ih =>
    by_cases h : u < 10
    · rw [dec_small h]
      simp
    · rw [dec_more h, List.length_append]
      have := ih (u / 10) (by omega)
      simp
      omega
/-- The library's table of powers is as the program lays it. -/
def TabW (w : World) : Prop := Lib.TabIs Tryz.prog w "internal/strconv.uint64pow10" .u64 Lib.pow10Tab
theorem TabW.below {w w1 : World} (h : TabW w) (hb : Below w.heap.size w w1) : TabW w1 := by
  unfold TabW Lib.TabIs at *
  unfold World.var? at *
  cases hg : Tryz.prog.globalNamed "internal/strconv.uint64pow10" with
  | none =>
    rw [hg] at h
    cases h
  | some g =>
    rw [hg] at h
    simp only [Option.bind_some] at h ⊢
    have hlt : g < w.heap.size := by
      rcases Nat.lt_or_ge g w.heap.size with h' | h'
      · exact h'
      · rw [Array.getElem?_eq_none h'] at h
        cases h
    rw [hb.block g hlt]
    exact h
theorem below_grow (w : World) (k : Nat) (os : Array Obj) : Below w.heap.size w (grow (w.drewN k) os) :=
  ⟨rfl, rfl, rfl, by simp [grow], fun j hj => by
    show (w.heap ++ os)[j]? = _
    rw [Array.getElem?_append, if_pos hj]⟩
theorem own_pass {B n : Nat} {w w1 : World} {v : Value} {t : TypeId} {s : Nat} {xs : List Value} (h : w.ownsRow B t s v n xs) (hb : Below w.heap.size w w1) : w1.ownsRow B t s v n xs := by
  obtain ⟨h1, h2⟩ := h
  refine ⟨h1, ?_⟩
  rcases h2 with h2 | ⟨g, cap, cur, e, hg, hh, hn, hm, hs, ht⟩
  · exact .inl h2
  · exact .inr ⟨g, cap, cur, e, hg, by rw [hb.block g (Array.getElem?_eq_some_iff.1 hh).1]; exact hh, hn, hm, hs, ht⟩
abbrev IsB (B b : Nat) (l : List UInt8) (w : World) : Prop := Lib.IsBuilder 71 5 B b (Lib.byteCells l) w
theorem builder_below {B b : Nat} {l : List UInt8} {w w1 : World} (h : IsB B b l w) (hb : Below w.heap.size w w1) : IsB B b l w1 := by
  rcases h with ⟨h1, v, h2, h3, h4⟩ | ⟨h1, v, h2, h3, h4⟩
  · exact .inl ⟨h1, v, by rw [hb.block b (Array.getElem?_eq_some_iff.1 h2).1]; exact h2, own_pass h3 hb, h4⟩
  · exact .inr ⟨h1, v, by rw [hb.block b (Array.getElem?_eq_some_iff.1 h2).1]; exact h2, own_pass h3 hb, h4⟩
theorem str_cells (s : ByteArray) : Lib.strCells s = Lib.byteCells s.data.toList := rfl
theorem cells_append (a b : List UInt8) : Lib.byteCells (a ++ b) = Lib.byteCells a ++ Lib.byteCells b := by simp [Lib.byteCells]
theorem itoa_len (z : Int) (h0 : -1000 ≤ z) (h1 : z ≤ 1000) : (Lib.itoa z).length ≤ 1002 := by
  unfold Lib.itoa
  split
  · have := dec_len z.natAbs
    simp
    omega
  · have := dec_len z.toNat
    omega
theorem itoa_impl (z : Int) (w : World) (h0 : -1000 ≤ z) (h1 : z ≤ 1000) (ht : TabW w) :
    Calls Tryz.prog 29 #[.int .i64 z] w fun e w' => e = .returned (.string ⟨(Lib.itoa z).toArray⟩) ∧ Below w.heap.size w w' := by
  have h := Any.strconv_Itoa Tryz.laysM171 z (by omega) (by omega) w ht
  change Calls Tryz.prog 29 _ _ _ at h
  refine h.mono ?_
  rintro e w' ⟨rfl, k, os, rfl⟩
  exact ⟨rfl, below_grow w k os⟩
theorem write_impl (B b : Nat) (l : List UInt8) (s : ByteArray) (w : World) (h : IsB B b l w) (hlen : l.length + s.size ≤ 140737488355328) (hBw : B ≤ w.heap.size) :
    Calls Tryz.prog 57 #[.pointer (some ⟨b, 0, none⟩), .string s] w fun e w' => e = .returned (.tuple #[.int .i64 s.size, .nilIface]) ∧ IsB B b (l ++ s.data.toList) w' ∧ Below B w w' := by
  have hc := Any.Builder_WriteString Tryz.lays166 Tryz.Builder_Extra_166 B b (Lib.byteCells l) s w h (by rw [Lib.byteCells_length]; exact hlen) hBw
  change Calls Tryz.prog 57 _ _ _ at hc
  refine hc.mono ?_
  rintro e w' ⟨rfl, h1, h2⟩
  refine ⟨rfl, .inr ?_, h2⟩
  rw [cells_append, ← str_cells]
  exact h1
theorem string_impl (B b : Nat) (l : List UInt8) (w : World) (h : IsB B b l w) (hBw : B ≤ w.heap.size) :
    Calls Tryz.prog 31 #[.pointer (some ⟨b, 0, none⟩)] w fun e w' => e = .returned (.string ⟨l.toArray⟩) ∧ Below B w w' := by
  have hc := Any.Builder_String_any Tryz.lays169 Tryz.Builder_Extra_169 B b l w h hBw
  change Calls Tryz.prog 31 _ _ _ at hc
  exact hc

/-- A line of words. -/
def lineB (ws : List (List UInt8)) : List UInt8 := Lib.join ws [32] ++ [10]
theorem join_len (ws : List (List UInt8)) {m : Nat} (h : ∀ x ∈ ws, x.length ≤ m) : (Lib.join ws [32]).length ≤ ws.length * (m + 1) := by
  unfold Lib.join
  induction ws with
  | nil => simp
  | cons x xs ih =>
    cases xs with
    | nil =>
      have := h x (by simp)
      simp
      omega
    | cons y ys =>
      have h1 := ih (fun z hz => h z (by simp [hz]))
      have h2 := h x (by simp)
      rw [List.intercalate_cons_cons, List.length_append, List.length_append]
      have e : (x :: y :: ys).length * (m + 1) = (y :: ys).length * (m + 1) + (m + 1) := by rw [List.length_cons (a := x), Nat.succ_mul]
      have e1 : [(32 : UInt8)].length = 1 := rfl
      rw [e, e1]
      omega
set_option maxHeartbeats 400000 in
theorem lineOf_impl (bk o c : Nat) (xs : List ByteArray) (w : World) (hcells : ∀ (j : Nat) x, xs[j]? = some x → w.cell? ⟨bk, o + j, none⟩ = some (.string x)) (hbk : bk < w.heap.size) (hcap : xs.length ≤ c) (hn : xs.length ≤ 20) (hx : ∀ x ∈ xs, x.size ≤ 1100) :
    Calls Tryz.prog 58 #[.slice (some ⟨bk, o, none⟩) xs.length c] w fun e w' => e = .returned (.string ((⟨(Lib.join (xs.map (·.data.toList)) [32]).toArray⟩ : ByteArray) ++ ⟨#[10]⟩)) ∧ Below w.heap.size w w' := by
  have hl : (Lib.join (xs.map (·.data.toList)) [32]).length ≤ 22020 := by
    have h1 := join_len (xs.map (·.data.toList)) (m := 1100) (fun y hy => by
      obtain ⟨x, hx', rfl⟩ := List.mem_map.1 hy
      have := hx x hx'
      rw [Array.length_toList]; exact this)
    rw [List.length_map] at h1
    have h2 := Nat.mul_le_mul_right 1101 hn
    omega
  have HJ : Hid (∀ w' : World, Below w.heap.size w w' → Calls Tryz.prog 78 #[.slice (some ⟨bk, o, none⟩) xs.length c, .string ⟨#[32]⟩] w' fun e w'' => e = .returned (.string ⟨(Lib.join (xs.map (·.data.toList)) [32]).toArray⟩) ∧ Below w'.heap.size w' w'') := fun w' hb => by
    have hc := Any.strings_Join Tryz.lays156 Tryz.Builder_Extra_156 bk o c xs ⟨#[32]⟩ w' (fun j x hj => keep hb (hcells j x hj)) (Nat.lt_of_lt_of_le hbk hb.size) (by omega) hcap (by show (Lib.join _ [32]).length ≤ _; omega)
    change Calls Tryz.prog 78 _ _ _ at hc
    exact hc
  obtain ⟨t, ht⟩ : ∃ t, Lib.join (xs.map (·.data.toList)) [32] = t := ⟨_, rfl⟩
  rw [ht] at HJ hl ⊢
  generalize xs.length = n at *
  clear hcells ht hx
  have hls : ¬ (9223372036854775807 < t.length + 1) := by omega
  go_enter Tryz.func58, Tryz.ntmps58
  go_wp2_with fail
  refine (HJ.out _ (Below.refl _ _)).mono ?_
  rintro e w1 ⟨rfl, hb1⟩
  have HB1 := hid hb1
  clear hb1
  go_wp2
  go_ret
  exact ⟨rfl, HB1.out⟩
set_option maxHeartbeats 400000 in
theorem line_impl (B b : Nat) (acc : List UInt8) (bk o c : Nat) (xs : List ByteArray) (w : World) (h : IsB B b acc w) (hcells : ∀ (j : Nat) x, xs[j]? = some x → w.cell? ⟨bk, o + j, none⟩ = some (.string x)) (hbk : bk < w.heap.size) (hcap : xs.length ≤ c) (hn : xs.length ≤ 20) (hx : ∀ x ∈ xs, x.size ≤ 1100) (ha : acc.length ≤ 10000000) (hBw : B ≤ w.heap.size) :
    Calls Tryz.prog 28 #[.pointer (some ⟨b, 0, none⟩), .slice (some ⟨bk, o, none⟩) xs.length c] w fun e w' => e = .returned (.tuple #[]) ∧ IsB B b (acc ++ lineB (xs.map (·.data.toList))) w' ∧ Below B w w' := by
  have hl : (Lib.join (xs.map (·.data.toList)) [32]).length ≤ 22020 := by
    have h1 := join_len (xs.map (·.data.toList)) (m := 1100) (fun y hy => by
      obtain ⟨x, hx', rfl⟩ := List.mem_map.1 hy
      have := hx x hx'
      rw [Array.length_toList]; exact this)
    rw [List.length_map] at h1
    have h2 := Nat.mul_le_mul_right 1101 hn
    omega
  have HJ := hid (lineOf_impl bk o c xs w hcells hbk hcap hn hx)
  have HB := hid h
  have HBw := hid hBw
  obtain ⟨t, ht⟩ : ∃ t, Lib.join (xs.map (·.data.toList)) [32] = t := ⟨_, rfl⟩
  have HL : Hid (lineB (xs.map (·.data.toList)) = t ++ [10]) := by show _ = _; unfold lineB; rw [ht]
  rw [ht] at HJ hl
  generalize xs.length = n at *
  clear h hcells ht hx hBw
  go_enter Tryz.func28, Tryz.ntmps28
  go_wp2_with fail
  refine HJ.out.mono ?_
  rintro e w1 ⟨rfl, hb1⟩
  have HB1 := hid (builder_below HB.out hb1)
  have HS1 := hid (Nat.le_trans HBw.out hb1.size)
  have HD1 := hid (hb1.mono HBw.out)
  clear hb1
  have hls : ¬ (9223372036854775807 < t.length + 1) := by omega
  go_wp2_with fail
  refine (write_impl B b acc _ _ HB1.out ?_ HS1.out).mono ?_
  · rw [ByteArray.size_append]
    show acc.length + (t.toArray.size + 1) ≤ _
    rw [List.size_toArray]
    omega
  rintro e w2 ⟨rfl, hbu2, hb2⟩
  have HB2 : Hid (IsB B b (acc ++ lineB (xs.map (·.data.toList))) w2) := by
    show IsB _ _ _ _
    rw [HL.out]
    simpa using hbu2
  have HD2 := hid (HD1.out.trans hb2)
  clear hbu2 hb2
  go_wp2
  go_end0
  exact ⟨rfl, HB2.out, HD2.out⟩
end Go.Proofs.YtffacjebnbplaaaGreatDoor.netLines
