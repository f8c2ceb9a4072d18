/- The contracts of CodeWord and CodeOf, of the program (under the table of the codes' words as its initialiser lays it) and of the specification; conditions: the table holds the words. -/
import Derived.Test.YtijdmgdcnljmnaeDoorBase
import Derived.Laws.Rows
namespace Go.Proofs.YtijdmgdcnljmnaeDoor.codes
open Go.RowKit Go.Deep base

def words : List ByteArray := [⟨#[111, 107]⟩, ⟨#[98, 97, 100]⟩, ⟨#[108, 111, 110, 103]⟩, ⟨#[102, 111, 114, 109]⟩, ⟨#[115, 121, 110, 116, 97, 120]⟩, ⟨#[114, 97, 110, 103, 101]⟩, ⟨#[110, 111, 110, 101]⟩, ⟨#[109, 97, 110, 121]⟩, ⟨#[115, 116, 97, 116, 101]⟩, ⟨#[110, 97, 109, 101]⟩, ⟨#[116, 119, 105, 99, 101]⟩, ⟨#[115, 105, 122, 101]⟩, ⟨#[108, 111, 111, 112]⟩]
def wordOf (n : Int) : ByteArray := if n < 0 then ⟨#[]⟩ else words[n.toNat]?.getD ⟨#[]⟩
theorem wordOf_neg {n : Int} (h : n < 0) : wordOf n = ⟨#[]⟩ := by simp [wordOf, h]
theorem wordOf_big {n : Int} (h : 13 ≤ n) : wordOf n = ⟨#[]⟩ := by
  have h' : ¬ n < 0 := by omega
  have : words[n.toNat]? = none := List.getElem?_eq_none (by show 13 ≤ n.toNat; omega)
  simp [wordOf, h', this]
theorem cases13 (n : Int) (h0 : 0 ≤ n) (h1 : n < 13) : n = 0 ∨ n = 1 ∨ n = 2 ∨ n = 3 ∨ n = 4 ∨ n = 5 ∨ n = 6 ∨ n = 7 ∨ n = 8 ∨ n = 9 ∨ n = 10 ∨ n = 11 ∨ n = 12 := by omega
theorem ret_string {a b : ByteArray} (h : a = b) : Ending.returned (.string a) = .returned (.string b) := by rw [h]
/-- The table of the codes' words lies in block 0. -/
def tab : Array Value := (words.map Value.string).toArray
structure TableIn (w : World) : Prop where
  cell : ∀ i, i < 13 → w.cell? ⟨0, i, none⟩ = some (.string (words[i]?.getD ⟨#[]⟩))
  block : ∃ t fr, w.heap[0]? = some (.cells tab t fr)
theorem TableIn.below {W w1 : World} (h : TableIn W) (hb : Below W.heap.size W w1) : TableIn w1 :=
  ⟨fun i hi => keep hb (h.cell i hi), by
    obtain ⟨t, fr, e⟩ := h.block
    exact ⟨t, fr, by rw [hb.block 0 (Array.getElem?_eq_some_iff.1 e).1]; exact e⟩⟩

set_option maxHeartbeats 1600000 in
theorem word_spec (n : Int) (w : World) :
    Calls Tryd.prog 6 #[.int .i64 n] w fun e w' => e = .returned (.string (wordOf n)) ∧ Below w.heap.size w w' := by
  by_cases h0 : n < 0
  · rw [wordOf_neg h0]
    go_enter Tryd.func6, Tryd.ntmps6
    go_wp2
    go_ret
    exact ⟨rfl, (by repeat (first | exact Below.refl _ _ | assumption | refine Below.drew ?_ | refine Below.alloc ?_ (by first | exact Nat.le_refl _ | omega | (simp; done) | (simp; omega)) _ | refine Below.setCell ?_ (by first | exact Nat.le_refl _ | omega | (simp; done) | (simp; omega)) _))⟩
  have d0 : decide (n < 0) = false := decide_eq_false h0
  by_cases h1 : 13 ≤ n
  · rw [wordOf_big h1]
    go_enter Tryd.func6, Tryd.ntmps6
    go_wp2
    go_ret
    exact ⟨rfl, (by repeat (first | exact Below.refl _ _ | assumption | refine Below.drew ?_ | refine Below.alloc ?_ (by first | exact Nat.le_refl _ | omega | (simp; done) | (simp; omega)) _ | refine Below.setCell ?_ (by first | exact Nat.le_refl _ | omega | (simp; done) | (simp; omega)) _))⟩
  clear d0
  rcases cases13 n (by omega) (by omega) with rfl | rfl | rfl | rfl | rfl | rfl | rfl | rfl | rfl | rfl | rfl | rfl | rfl
  all_goals
    clear h0 h1
    go_enter Tryd.func6, Tryd.ntmps6
    go_wp2
    go_ret
    exact ⟨rfl, (by repeat (first | exact Below.refl _ _ | assumption | refine Below.drew ?_ | refine Below.alloc ?_ (by first | exact Nat.le_refl _ | omega | (simp; done) | (simp; omega)) _ | refine Below.setCell ?_ (by first | exact Nat.le_refl _ | omega | (simp; done) | (simp; omega)) _))⟩

set_option maxHeartbeats 1600000 in
theorem word_impl (n : Int) (w : World) (ht : TableIn w) :
    Calls Tryd.prog 7 #[.int .i64 n] w fun e w' => e = .returned (.string (wordOf n)) ∧ w' = w := by
  have HT := hid ht
  clear ht
  by_cases h0 : n < 0
  · rw [wordOf_neg h0]
    go_enter Tryd.func7, Tryd.ntmps7
    go_wp2
    go_ret
    exact ⟨rfl, rfl⟩
  have d0 : decide (n < 0) = false := decide_eq_false h0
  by_cases h1 : 13 ≤ n
  · rw [wordOf_big h1]
    go_enter Tryd.func7, Tryd.ntmps7
    go_wp2
    go_ret
    exact ⟨rfl, rfl⟩
  clear d0
  have hc := HT.out.cell n.toNat (by omega)
  rcases cases13 n (by omega) (by omega) with rfl | rfl | rfl | rfl | rfl | rfl | rfl | rfl | rfl | rfl | rfl | rfl | rfl
  all_goals
    clear h0 h1
    simp only [Int.toNat_zero, Int.reduceToNat, words, List.getElem?_cons_succ, List.getElem?_cons_zero, Option.getD_some] at hc
    go_enter Tryd.func7, Tryd.ntmps7
    go_wp2
    go_ret
    exact ⟨rfl, rfl⟩
def scanW (s : ByteArray) : Nat → Int → Int
  | 0, _ => -1
  | f + 1, i => if (wordOf i).toList = s.toList then i else scanW s f (i + 1)
def codeOf (s : ByteArray) : Int := scanW s 13 0
theorem scan_yes {s : ByteArray} {k : Nat} (h : k < 13) (e : (wordOf k).toList = s.toList) : scanW s (13 - k) k = k := by
  obtain ⟨f, hf⟩ : ∃ f, 13 - k = f + 1 := ⟨12 - k, by omega⟩
  rw [hf]; simp [scanW, e]
theorem scan_no {s : ByteArray} {k : Nat} (h : k < 13) (e : ¬ (wordOf k).toList = s.toList) : scanW s (13 - k) k = scanW s (13 - (k + 1)) ((k + 1 : Nat) : Int) := by
  obtain ⟨f, hf⟩ : ∃ f, 13 - k = f + 1 := ⟨12 - k, by omega⟩
  have : 13 - (k + 1) = f := by omega
  rw [hf, this]; simp [scanW, e]

set_option maxHeartbeats 800000 in
theorem codeOf_spec (s : ByteArray) (w : World) :
    Calls Tryd.prog 8 #[.string s] w fun e w' => e = .returned (.int .i64 (codeOf s)) ∧ Below w.heap.size w w' := by
  go_enter Tryd.func8, Tryd.ntmps8
  go_wp2
  go_loopw [3] (fun i wr => ∃ k : Nat, k ≤ 13 ∧ i = .int .i64 k ∧ codeOf s = scanW s (13 - k) k ∧ Below w.heap.size w wr) (fun i _ => 13 - (intOf i).toNat)
  case atStart => exact ⟨0, by omega, rfl, rfl, Below.refl _ _⟩
  case round =>
    obtain ⟨k, hk, rfl, hc, hb⟩ := hrel
    have HC := hid hc
    have HB := hid hb
    clear hc hb
    by_cases hlt : k < 13
    · have hle : (k : Int) ≤ 12 := by omega
      by_cases he : (wordOf k).toList = s.toList
      · have HY := hid (scan_yes hlt he)
        have hq : ((wordOf k).toList == s.toList) = true := beq_iff_eq.2 he
        clear he
        go_wp2_with fail
        refine (word_spec k _).mono ?_
        rintro e w1 ⟨rfl, hb1⟩
        have HB1 := hid (HB.out.trans (hb1.mono HB.out.size))
        clear hb1
        generalize wordOf k = t at *
        go_wp2
        go_ret
        exact ⟨ret_int (by rw [HC.out, HY.out]), HB1.out⟩
      · have HN := hid (scan_no hlt he)
        have hq : ((wordOf k).toList == s.toList) = false := beq_eq_false_iff_ne.2 he
        clear he
        go_wp2_with fail
        refine (word_spec k _).mono ?_
        rintro e w1 ⟨rfl, hb1⟩
        have HB1 := hid (HB.out.trans (hb1.mono HB.out.size))
        clear hb1
        generalize wordOf k = t at *
        go_wp2
        go_roundw
        case rel => exact ⟨k + 1, by omega, by go_num, by rw [HC.out, HN.out], HB1.out⟩
        case measure => simp [intOf]; omega
    · have e : k = 13 := by omega
      subst e
      go_wp2
      go_ret
      exact ⟨ret_int HC.out.symm, HB.out⟩

theorem index_tab (k : Nat) (h : k < 13) (w : World) : (Instr.index 37 (.agg tab) (.int .i64 (k : Int))).run Tryd.prog w = .ok (.string (wordOf k)) w := by
  rcases (show k = 0 ∨ k = 1 ∨ k = 2 ∨ k = 3 ∨ k = 4 ∨ k = 5 ∨ k = 6 ∨ k = 7 ∨ k = 8 ∨ k = 9 ∨ k = 10 ∨ k = 11 ∨ k = 12 by omega) with rfl | rfl | rfl | rfl | rfl | rfl | rfl | rfl | rfl | rfl | rfl | rfl | rfl
  all_goals kernel_rfl
set_option maxHeartbeats 800000 in
theorem codeOf_impl (s : ByteArray) (w : World) (ht : TableIn w) :
    Calls Tryd.prog 9 #[.string s] w fun e w' => e = .returned (.int .i64 (codeOf s)) ∧ w' = w := by
  obtain ⟨tt, fr, hg⟩ := ht.block
  have HG := hid hg
  clear ht hg
  go_enter Tryd.func9, Tryd.ntmps9
  go_wp2_with (refine wpList_load_row rfl 37 _ rfl 0 rfl tt _ fr _ HG.out Tryd.underlying37 rfl (by kernel_rfl) ?_)
  go_loop [6] (fun i => ∃ k : Nat, k ≤ 13 ∧ i = .int .i64 k ∧ codeOf s = scanW s (13 - k) k) (fun i => 13 - (intOf i).toNat)
  case atStart => exact ⟨0, by omega, rfl, rfl⟩
  case round =>
    obtain ⟨k, hk, rfl, hc⟩ := hrel
    have HC := hid hc
    clear hc
    by_cases hlt : k < 13
    · have hidx := index_tab k hlt
      have hle : (k : Int) < 13 := by omega
      by_cases he : (wordOf k).toList = s.toList
      · have HY := hid (scan_yes hlt he)
        have hq : ((wordOf k).toList == s.toList) = true := beq_iff_eq.2 he
        clear he
        generalize wordOf k = t at *
        go_wp2
        go_ret
        exact ⟨ret_int (by rw [HC.out, HY.out]), rfl⟩
      · have HN := hid (scan_no hlt he)
        have hq : ((wordOf k).toList == s.toList) = false := beq_eq_false_iff_ne.2 he
        clear he
        generalize wordOf k = t at *
        go_wp2
        go_round
        case rel => exact ⟨k + 1, by omega, by go_num, by rw [HC.out, HN.out]⟩
        case measure => simp [intOf]; omega
    · have e : k = 13 := by omega
      subst e
      go_wp2
      go_ret
      exact ⟨ret_int HC.out.symm, rfl⟩
end Go.Proofs.YtijdmgdcnljmnaeDoor.codes
