/- The lines of a text, of the program and of the specification; conditions: lengths that fit. -/
import Derived.Test.YtcgpjlpggbgdaaaGreatDoorWords
import Derived.Lib.IndexBytes
namespace Go.Proofs.YtcgpjlpggbgdaaaGreatDoor.cuts
open Go.RowKit Go.Deep base numbers words
set_option linter.unusedVariables false

/-- A text parted at each 10. -/
def cutL : List UInt8 → List (List UInt8)
  | [] => [[]]
  | b :: l => if b = 10 then [] :: cutL l else match cutL l with
    | h :: t => (b :: h) :: t
    | [] => [[b]]
theorem cutL_miss : ∀ a : List UInt8, (∀ x ∈ a, x ≠ 10) → cutL a = [a]
  | [], _ => rfl
  | b :: l, h => by
    have ih := cutL_miss l (fun x hx => h x (by simp [hx]))
    rw [cutL, if_neg (h b (by simp)), ih]
theorem cutL_hit : ∀ (a b : List UInt8), (∀ x ∈ a, x ≠ 10) → cutL (a ++ 10 :: b) = a :: cutL b
  | [], b, _ => by simp [cutL]
  | c :: l, b, h => by
    have ih := cutL_hit l b (fun x hx => h x (by simp [hx]))
    rw [List.cons_append, cutL, if_neg (h c (by simp)), ih]
theorem idx_none : ∀ l : List UInt8, Lib.indexByte l 10 = -1 → ∀ x ∈ l, x ≠ 10
  | [], _, x, hx => by cases hx
  | b :: l, h, x, hx => by
    unfold Lib.indexByte at h
    split at h
    · cases h
    · rename_i hb
      have hb' : b ≠ 10 := fun e => hb (by simp [e])
      split at h
      · rename_i h2
        rcases List.mem_cons.1 hx with rfl | hx
        · exact hb'
        · exact idx_none l (by simpa using h2) x hx
      · have := Lib.indexByte_ge l 10
        omega
theorem idx_some : ∀ (l : List UInt8) (i : Nat), Lib.indexByte l 10 = i → l = l.take i ++ 10 :: l.drop (i + 1) ∧ ∀ x ∈ l.take i, x ≠ 10
  | [], i, h => by simp [Lib.indexByte] at h
  | b :: l, i, h => by
    unfold Lib.indexByte at h
    split at h
    · rename_i hb
      have hi : i = 0 := by omega
      have hb' : b = 10 := by simpa using hb
      subst hi hb'
      simp
    · rename_i hb
      have hb' : b ≠ 10 := fun e => hb (by simp [e])
      split at h
      · omega
      · rename_i h2
        have hge := Lib.indexByte_ge l 10
        have h2' : Lib.indexByte l 10 ≠ -1 := by simpa using h2
        obtain ⟨j, rfl⟩ : ∃ j, i = j + 1 := ⟨i - 1, by omega⟩
        obtain ⟨e, hn⟩ := idx_some l j (by omega)
        refine ⟨?_, ?_⟩
        · simp only [List.take_succ_cons, List.cons_append, List.drop_succ_cons]
          rw [← e]
        · intro x hx
          simp only [List.take_succ_cons] at hx
          rcases List.mem_cons.1 hx with rfl | hx
          · exact hb'
          · exact hn x hx
def piece (l : List UInt8) : ByteArray := ⟨l.toArray⟩
theorem idx_nl (s : ByteArray) : Lib.indexB s ⟨#[10]⟩ = Lib.indexByte s.data.toList 10 := Lib.one s ⟨#[10]⟩ rfl
theorem split_cut : ∀ (n : Nat) (s : ByteArray), Lib.countB s ⟨#[10]⟩ = n → Lib.splitB ⟨#[10]⟩ 0 n s = (cutL s.data.toList).map piece := by
  have hself : ∀ s : ByteArray, piece s.data.toList = s := fun s => rfl
  have miss : ∀ s : ByteArray, Lib.indexB s ⟨#[10]⟩ = -1 → (cutL s.data.toList).map piece = [s] := fun s h => by
    rw [cutL_miss _ (idx_none _ (by rw [← idx_nl]; exact h))]
    rfl
  intro n
  induction n with
  | zero =>
    intro s h
    rcases Lib.indexB_cases s ⟨#[10]⟩ with h1 | ⟨i, h1, h2⟩
    · rw [miss s h1]; rfl
    · have := Lib.countB_hit s ⟨#[10]⟩ i (Nat.le_refl _) h1
      omega
  | succ n ih =>
    intro s h
    rcases Lib.indexB_cases s ⟨#[10]⟩ with h1 | ⟨i, h1, h2⟩
    · have := Lib.countB_miss s ⟨#[10]⟩ h1
      omega
    · have hc := Lib.countB_hit s ⟨#[10]⟩ i (Nat.le_refl _) h1
      rw [Lib.splitB_hit _ _ _ _ i h1, ih _ (by omega)]
      obtain ⟨e, hn⟩ := idx_some s.data.toList i (by rw [← idx_nl]; exact h1)
      have e2 : cutL s.data.toList = s.data.toList.take i :: cutL (s.data.toList.drop (i + 1)) := by
        conv => lhs; rw [e]
        exact cutL_hit _ _ hn
      rw [e2, List.map_cons]
      congr 1
      · rw [← hself (s.extract 0 (i + 0)), Lib.extract_from_zero]; rfl
      · rw [Lib.extract_to_end]; rfl
theorem info_str : (Tryz.prog.info? 9).map (fun i => (i.zero, i.size, i.bytes)) = some (some (.string ⟨#[]⟩), 1, 16) := by kernel_rfl
/-- The lines of a text, by strings.Split. -/
theorem lines_impl (s : ByteArray) (m : Int) (w : World) (hs : s.size < 4294967281) (hm : w.cell? ⟨1, 0, none⟩ = some (.int .i64 m)) :
    Calls Tryz.prog 49 #[.string s, .string ⟨#[10]⟩] w fun e w' => e = .returned (.slice (some ⟨w.heap.size, 0, none⟩) (cutL s.data.toList).length (cutL s.data.toList).length) ∧ w' = w.alloc (.cells ((cutL s.data.toList).map fun l => Value.string (piece l)).toArray 9) := by
  have h := Any.strings_Split Tryz.lays146 info_str s ⟨#[10]⟩ m w hs hm (Nat.le_refl _)
  change Calls Tryz.prog 49 _ _ _ at h
  have e1 := split_cut _ s rfl
  have e2 := Lib.splitB_all ⟨#[10]⟩ (Nat.le_refl _) 0 _ s rfl
  rw [e1, List.length_map] at e2
  refine h.mono ?_
  rintro e w' ⟨rfl, rfl⟩
  rw [e1, ← e2, List.map_map]
  exact ⟨rfl, rfl⟩

theorem piece_part (s : ByteArray) (a b : Nat) : s.extract a b = piece ((s.data.toList.drop a).take (b - a)) := by
  have h := Lib.extract_data s a b
  have e : piece (s.extract a b).data.toList = s.extract a b := rfl
  rw [← e, h]
def lineCells (l : List (List UInt8)) : List Value := l.map fun x => Value.string (piece x)
theorem at_one {w : World} {b : Nat} {x : Value} (h0 : w.cell? ⟨b, 0, none⟩ = some x) : ∀ j u, [x][j]? = some u → w.cell? ((⟨b, 0, none⟩ : Addr).add j) = some u := by
  intro j u h
  match j, h with
  | 0, h => simp at h; subst h; simpa [Addr.add] using h0
  | j + 1, h => simp at h
theorem byte_ne {x : UInt8} (h : ((x.toNat : Int) == 10) = false) : x ≠ 10 := fun e => by subst e; simp at h
theorem byte_eq {x : UInt8} (h : ((x.toNat : Int) == 10) = true) : x = 10 := by
  have : (x.toNat : Int) = 10 := by simpa using h
  exact UInt8.toNat_inj.1 (show x.toNat = (10 : UInt8).toNat from by have : (10 : UInt8).toNat = 10 := rfl; omega)
theorem at_byte (s : ByteArray) (i : Nat) (h : i < s.size) : s.data.toList[i]'(by simpa using h) = s[i] := rfl

end Go.Proofs.YtcgpjlpggbgdaaaGreatDoor.cuts
