/- The lines of a text, of the program and of the specification; conditions: lengths that fit. -/
import Derived.Test.YtohbcaofjkhhiaaDoorWords
import Derived.Lib.IndexBytes
namespace Go.Proofs.YtohbcaofjkhhiaaDoor.cuts
open Go.RowKit Go.Deep base numbers words
set_option linter.unusedVariables false

/-- A text parted at each 10. -/
def cutL : List UInt8 → List (List UInt8)
  | [] => [[]]
  | b :: l => if b = 10 then [] :: cutL l else match cutL l with
    | h :: t => (b :: h) :: t
    | [] => [[b]]
theorem cutL_miss : ∀ a : List UInt8, (∀ x ∈ a, x ≠ 10) → cutL a = [a]
  | [], _ => rfl
  | b :: l, h => by
    have ih := cutL_miss l (fun x hx => h x (by simp [hx]))
    rw [cutL, if_neg (h b (by simp)), ih]
theorem cutL_hit : ∀ (a b : List UInt8), (∀ x ∈ a, x ≠ 10) → cutL (a ++ 10 :: b) = a :: cutL b
  | [], b, _ => by simp [cutL]
  | c :: l, b, h => by
    have ih := cutL_hit l b (fun x hx => h x (by simp [hx]))
    rw [List.cons_append, cutL, if_neg (h c (by simp)), ih]
theorem idx_none : ∀ l : List UInt8, Lib.indexByte l 10 = -1 → ∀ x ∈ l, x ≠ 10
  | [], _, x, hx => by cases hx
  | b :: l, h, x, hx => by
    unfold Lib.indexByte at h
    split at h
    · cases h
    · rename_i hb
      have hb' : b ≠ 10 := fun e => hb (by simp [e])
      split at h
      · rename_i h2
        rcases List.mem_cons.1 hx with rfl | hx
        · exact hb'
        · exact idx_none l (by simpa using h2) x hx
      · have := Lib.indexByte_ge l 10
        omega
theorem idx_some : ∀ (l : List UInt8) (i : Nat), Lib.indexByte l 10 = i → l = l.take i ++ 10 :: l.drop (i + 1) ∧ ∀ x ∈ l.take i, x ≠ 10
  | [], i, h => by simp [Lib.indexByte] at h
  | b :: l, i, h => by
    unfold Lib.indexByte at h
    split at h
    · rename_i hb
      have hi : i = 0 := by omega
      have hb' : b = 10 := by simpa using hb
      subst hi hb'
      simp
    · rename_i hb
      have hb' : b ≠ 10 := fun e => hb (by simp [e])
      split at h
      · omega
      · rename_i h2
        have hge := Lib.indexByte_ge l 10
        have h2' : Lib.indexByte l 10 ≠ -1 := by simpa using h2
        obtain ⟨j, rfl⟩ : ∃ j, i = j + 1 := ⟨i - 1, by omega⟩
        obtain ⟨e, hn⟩ := idx_some l j (by omega)
        refine ⟨?_, ?_⟩
        · simp only [List.take_succ_cons, List.cons_append, List.drop_succ_cons]
          rw [← e]
        · intro x hx
          simp only [List.take_succ_cons] at hx
          rcases List.mem_cons.1 hx with rfl | hx
          · exact hb'
          · exact hn x hx
def piece (l : List UInt8) : ByteArray := ⟨l.toArray⟩
theorem idx_nl (s : ByteArray) : Lib.indexB s ⟨#[10]⟩ = Lib.indexByte s.data.toList 10 := Lib.one s ⟨#[10]⟩ rfl
theorem split_cut : ∀ (n : Nat) (s : ByteArray), Lib.countB s ⟨#[10]⟩ = n → Lib.splitB ⟨#[10]⟩ 0 n s = (cutL s.data.toList).map piece := by
  have hself : ∀ s : ByteArray, piece s.data.toList = s := fun s => rfl
  have miss : ∀ s : ByteArray, Lib.indexB s ⟨#[10]⟩ = -1 → (cutL s.data.toList).map piece = [s] := fun s h => by
    rw [cutL_miss _ (idx_none _ (by rw [← idx_nl]; exact h))]
    rfl
  intro n
  induction n with
  | zero =>
    intro s h
    rcases Lib.indexB_cases s ⟨#[10]⟩ with h1 | ⟨i, h1, h2⟩
    · rw [miss s h1]; rfl
    · have := Lib.countB_hit s ⟨#[10]⟩ i (Nat.le_refl _) h1
      omega
  | succ n ih =>
    intro s h
    rcases Lib.indexB_cases s ⟨#[10]⟩ with h1 | ⟨i, h1, h2⟩
    · have := Lib.countB_miss s ⟨#[10]⟩ h1
      omega
    · have hc := Lib.countB_hit s ⟨#[10]⟩ i (Nat.le_refl _) h1
      rw [Lib.splitB_hit _ _ _ _ i h1, ih _ (by omega)]
      obtain ⟨e, hn⟩ := idx_some s.data.toList i (by rw [← idx_nl]; exact h1)
      have e2 : cutL s.data.toList = s.data.toList.take i :: cutL (s.data.toList.drop (i + 1)) := by
        conv => lhs; rw [e]
        exact cutL_hit _ _ hn
      rw [e2, List.map_cons]
      congr 1
      · rw [← hself (s.extract 0 (i + 0)), Lib.extract_from_zero]; rfl
      · rw [Lib.extract_to_end]; rfl
theorem info_str : (Tryd.prog.info? 9).map (fun i => (i.zero, i.size, i.bytes)) = some (some (.string ⟨#[]⟩), 1, 16) := by kernel_rfl
/-- The lines of a text, by strings.Split. -/
theorem lines_impl (s : ByteArray) (m : Int) (w : World) (hs : s.size < 4294967281) (hm : w.cell? ⟨1, 0, none⟩ = some (.int .i64 m)) :
    Calls Tryd.prog 28 #[.string s, .string ⟨#[10]⟩] w fun e w' => e = .returned (.slice (some ⟨w.heap.size, 0, none⟩) (cutL s.data.toList).length (cutL s.data.toList).length) ∧ w' = w.alloc (.cells ((cutL s.data.toList).map fun l => Value.string (piece l)).toArray 9) := by
  have h := Any.strings_Split Tryd.lays146 info_str s ⟨#[10]⟩ m w hs hm (Nat.le_refl _)
  change Calls Tryd.prog 28 _ _ _ at h
  have e1 := split_cut _ s rfl
  have e2 := Lib.splitB_all ⟨#[10]⟩ (Nat.le_refl _) 0 _ s rfl
  rw [e1, List.length_map] at e2
  refine h.mono ?_
  rintro e w' ⟨rfl, rfl⟩
  rw [e1, ← e2, List.map_map]
  exact ⟨rfl, rfl⟩

theorem piece_part (s : ByteArray) (a b : Nat) : s.extract a b = piece ((s.data.toList.drop a).take (b - a)) := by
  have h := Lib.extract_data s a b
  have e : piece (s.extract a b).data.toList = s.extract a b := rfl
  rw [← e, h]
def lineCells (l : List (List UInt8)) : List Value := l.map fun x => Value.string (piece x)
theorem at_one {w : World} {b : Nat} {x : Value} (h0 : w.cell? ⟨b, 0, none⟩ = some x) : ∀ j u, [x][j]? = some u → w.cell? ((⟨b, 0, none⟩ : Addr).add j) = some u := by
  intro j u h
  match j, h with
  | 0, h => simp at h; subst h; simpa [Addr.add] using h0
  | j + 1, h => simp at h
theorem byte_ne {x : UInt8} (h : ((x.toNat : Int) == 10) = false) : x ≠ 10 := fun e => by subst e; simp at h
theorem byte_eq {x : UInt8} (h : ((x.toNat : Int) == 10) = true) : x = 10 := by
  have : (x.toNat : Int) = 10 := by simpa using h
  exact UInt8.toNat_inj.1 (show x.toNat = (10 : UInt8).toNat from by have : (10 : UInt8).toNat = 10 := rfl; omega)
theorem at_byte (s : ByteArray) (i : Nat) (h : i < s.size) : s.data.toList[i]'(by simpa using h) = s[i] := rfl

set_option maxHeartbeats 1600000 in
set_option maxRecDepth 8000 in
theorem lines_spec (s : ByteArray) (w : World) (hs : s.size ≤ 1048576) :
    Calls Tryd.prog 9 #[.string s, .int .u8 10] w fun e w' => ∃ v, e = .returned v ∧ w'.ownsRow w.heap.size 9 1 v (cutL s.data.toList).length (lineCells (cutL s.data.toList)) ∧ Below w.heap.size w w' := by
  obtain ⟨i0, hi, hzz⟩ := Option.map_eq_some_iff.1 info_str
  simp only [Prod.mk.injEq] at hzz
  obtain ⟨hz0, hz1, hz2⟩ := hzz
  have HI := hid hi
  have HZ0 := hid hz0
  have HZ1 := hid hz1
  have HZ2 := hid hz2
  clear hi hz0 hz1 hz2
  have hLs : s.data.toList.length = s.size := by simp
  obtain ⟨L, hL⟩ : ∃ L, s.data.toList = L := ⟨_, rfl⟩
  have HLs : Hid (L.length = s.size) := by show _ = _; rw [← hL]; exact hLs
  have HPart : Hid (∀ a b, s.extract a b = piece ((L.drop a).take (b - a))) := fun a b => by rw [← hL]; exact piece_part s a b
  have HAt : Hid (∀ k (h : k < s.size), L[k]? = some s[k]) := fun k h => by
    subst hL
    rw [List.getElem?_eq_getElem (by simpa using h)]
    rfl
  rw [hL]
  clear hL hLs
  go_enter Tryd.func9, Tryd.ntmps9
  go_wp2
  go_loopw [5, 6, 7] (fun v st i wr => ∃ (k a : Nat) (out : List (List UInt8)), k ≤ s.size ∧ a ≤ k ∧ i = .int .i64 k ∧ st = .int .i64 a ∧ out.length ≤ k ∧ wr.ownsRow w.heap.size 9 1 v out.length (lineCells out) ∧ Below w.heap.size w wr ∧
    cutL L = out ++ cutL (L.drop a) ∧ ∀ x ∈ (L.drop a).take (k - a), x ≠ 10) (fun _ _ i _ => s.size - (intOf i).toNat)
  case atStart => exact ⟨0, 0, [], Nat.zero_le _, Nat.zero_le _, rfl, rfl, Nat.le_refl _, own_none w _ _ rfl (Nat.le_refl _), (Below.refl _ _).alloc (Nat.le_refl _) _, rfl, by simp⟩
  case round =>
    obtain ⟨k, a, out, hk, hak, rfl, rfl, hol, hown, hbel, hcut, hno⟩ := hrel
    have HO := hid hown
    have HB := hid hbel
    have HC := hid hcut
    have HN := hid hno
    clear hown hbel hcut hno
    by_cases hlt : k < s.size
    · have hat := HAt.out k hlt
      have HTk : Hid (L.drop a = (L.drop a).take (k - a) ++ s[k] :: L.drop (k + 1)) := by
        show _ = _
        have h1 : (L.drop a).drop (k - a) = s[k] :: L.drop (k + 1) := by
          rw [List.drop_drop, show a + (k - a) = k from by omega]
          have hl : k < L.length := by rw [HLs.out]; exact hlt
          rw [List.drop_eq_getElem_cons hl]
          rw [List.getElem?_eq_getElem hl] at hat
          rw [Option.some.inj hat]
        rw [← h1, List.take_append_drop]
      have HTs : Hid ((L.drop a).take (k + 1 - a) = (L.drop a).take (k - a) ++ [s[k]]) := by
        show _ = _
        have h2 : (L.drop a)[k - a]? = some s[k] := by rw [List.getElem?_drop, show a + (k - a) = k from by omega]; exact hat
        rw [show k + 1 - a = (k - a) + 1 from by omega, List.take_add_one, h2]
        rfl
      clear hat
      by_cases hq : ((s[k].toNat : Int) == 10) = true
      · have HC2 : Hid (cutL L = (out ++ [(L.drop a).take (k - a)]) ++ cutL (L.drop (k + 1))) := by
          show _ = _
          rw [HC.out, HTk.out, byte_eq hq, cutL_hit _ _ HN.out, ← byte_eq hq, ← HTk.out, List.append_assoc]
          rfl
        have HP := hid (HPart.out a k)
        clear HTk HTs HC
        go_wp2_with (at_builtin; (refine wpList_append_own _ rfl _ _ 28 rfl w.heap.size 9 i0 _ 1 16 Tryd.underlying28 HI.out HZ0.out HZ1.out HZ2.out rfl (by decide) _ _ _ rfl (own_pass HO.out (by repeat (first | exact Below.refl _ _ | assumption | refine Below.drew ?_ | refine Below.alloc ?_ (by first | exact Nat.le_refl _ | omega | (simp; done) | (simp; omega)) _ | refine Below.setCell ?_ (by first | exact Nat.le_refl _ | omega | (simp; done) | (simp; omega)) _))) ⟨wr.heap.size, 0, none⟩ 1 1 [.string (s.extract a k)] rfl rfl (at_one (by simp [go_sem])) (by simp [Value.oneCell']) (by unfold maxLen; omega) (by omega) (by simp; exact Nat.le_succ_of_le HB.out.size) ?_); intro v2 w2 hown2 hg2 hnil2)
        have HB2 : Hid (Below w.heap.size w w2) := (show Below w.heap.size w _ from HB.out.alloc HB.out.size _).grown hg2 (by simp; exact Nat.le_succ_of_le HB.out.size) (fun j hj => (HO.out.lt j hj).1)
        have HO2 : Hid (w2.ownsRow w.heap.size 9 1 v2 (out ++ [(L.drop a).take (k - a)]).length (lineCells (out ++ [(L.drop a).take (k - a)]))) := by
          show World.ownsRow _ _ _ _ _ _ _
          have e1 : lineCells (out ++ [(L.drop a).take (k - a)]) = lineCells out ++ [.string (s.extract a k)] := by simp [lineCells, HP.out]
          rw [e1, List.length_append]
          exact hown2
        clear hown2 hg2 hnil2
        go_wp2
        exact ⟨⟨k + 1, k + 1, out ++ [(L.drop a).take (k - a)], by omega, Nat.le_refl _, by go_num, by go_num, by simp; omega, HO2.out, HB2.out, HC2.out, by simp⟩, by simp [intOf]; omega⟩
      · have hq' : ((s[k].toNat : Int) == 10) = false := by simpa using hq
        have HN2 : Hid (∀ x ∈ (L.drop a).take (k + 1 - a), x ≠ 10) := by
          show ∀ x ∈ _, _
          rw [HTs.out]
          intro x hx
          rcases List.mem_append.1 hx with hx | hx
          · exact HN.out x hx
          · simp at hx; subst hx; exact byte_ne hq'
        clear HTk HTs hq
        go_wp2
        exact ⟨⟨k + 1, a, out, by omega, by omega, by go_num, rfl, by omega, HO.out, HB.out, HC.out, HN2.out⟩, by simp [intOf]; omega⟩
    · have e : k = s.size := by omega
      have hdk : decide ((k : Int) < (s.size : Int)) = false := decide_eq_false (by omega)
      have has : a ≤ s.size := by omega
      have HC2 : Hid (cutL L = out ++ [L.drop a]) := by
        show _ = _
        rw [HC.out, cutL_miss]
        intro x hx
        refine HN.out x ?_
        rw [List.take_of_length_le (by rw [List.length_drop, HLs.out]; omega)]
        exact hx
      have HP : Hid (s.extract a s.size = piece (L.drop a)) := by
        show _ = _
        rw [HPart.out a s.size, List.take_of_length_le (by rw [List.length_drop, HLs.out]; omega)]
      clear HC HN e
      go_wp2_with (at_builtin; (refine wpList_append_own _ rfl _ _ 28 rfl w.heap.size 9 i0 _ 1 16 Tryd.underlying28 HI.out HZ0.out HZ1.out HZ2.out rfl (by decide) _ _ _ rfl (own_pass HO.out (by repeat (first | exact Below.refl _ _ | assumption | refine Below.drew ?_ | refine Below.alloc ?_ (by first | exact Nat.le_refl _ | omega | (simp; done) | (simp; omega)) _ | refine Below.setCell ?_ (by first | exact Nat.le_refl _ | omega | (simp; done) | (simp; omega)) _))) ⟨wr.heap.size, 0, none⟩ 1 1 [.string (s.extract a s.size)] rfl rfl (at_one (by simp [go_sem])) (by simp [Value.oneCell']) (by unfold maxLen; omega) (by omega) (by simp; exact Nat.le_succ_of_le HB.out.size) ?_); intro v2 w2 hown2 hg2 hnil2)
      have HB2 : Hid (Below w.heap.size w w2) := (show Below w.heap.size w _ from HB.out.alloc HB.out.size _).grown hg2 (by simp; exact Nat.le_succ_of_le HB.out.size) (fun j hj => (HO.out.lt j hj).1)
      have HO2 : Hid (w2.ownsRow w.heap.size 9 1 v2 (cutL L).length (lineCells (cutL L))) := by
        show World.ownsRow _ _ _ _ _ _ _
        have e1 : lineCells (out ++ [L.drop a]) = lineCells out ++ [.string (s.extract a s.size)] := by simp [lineCells, HP.out]
        rw [HC2.out, e1, List.length_append]
        exact hown2
      clear hown2 hg2 hnil2
      go_wp2
      go_ret
      exact ⟨_, rfl, HO2.out, HB2.out⟩
end Go.Proofs.YtohbcaofjkhhiaaDoor.cuts
