/- The words of a line, of the program and of the specification; conditions: lengths that fit. -/
import Derived.Test.YtcgpjlpggbgdaaaGreatDoorNumbers
import Derived.Laws.AppendOwn
namespace Go.Proofs.YtcgpjlpggbgdaaaGreatDoor.words
open Go.RowKit Go.Deep base numbers
set_option linter.unusedVariables false

def blankB (n : Int) : Bool := n == 32 || n == 9 || n == 13
/-- What stands behind the first i bytes: where the word begun begins, and the words that have ended. -/
def wst (s : ByteArray) : Nat → Nat × List (Nat × Nat)
  | 0 => (0, [])
  | i + 1 => if i < s.size ∧ blankB (digS s i) = false then wst s i else (i + 1, if (wst s i).1 < i then (wst s i).2 ++ [((wst s i).1, i)] else (wst s i).2)
def words (s : ByteArray) : List (Nat × Nat) := (wst s (s.size + 1)).2
def wordCells (s : ByteArray) (place : Int) (l : List (Nat × Nat)) : List Value := l.flatMap fun x => [.string (s.extract x.1 x.2), .int .i64 (place + x.1)]
theorem wst_go {s : ByteArray} {i : Nat} (h : i < s.size) (hb : blankB (digS s i) = false) : wst s (i + 1) = wst s i := by
  rw [wst, if_pos ⟨h, hb⟩]
theorem wst_end {s : ByteArray} {i : Nat} (h : ¬ (i < s.size ∧ blankB (digS s i) = false)) : wst s (i + 1) = (i + 1, if (wst s i).1 < i then (wst s i).2 ++ [((wst s i).1, i)] else (wst s i).2) := by
  rw [wst, if_neg h]
theorem wst_le (s : ByteArray) : ∀ i, (wst s i).1 ≤ i ∧ (wst s i).2.length ≤ i
  | 0 => ⟨Nat.le_refl _, Nat.le_refl _⟩
  | i + 1 => by
    have h := wst_le s i
    by_cases hb : i < s.size ∧ blankB (digS s i) = false
    · rw [wst_go hb.1 hb.2]; omega
    · rw [wst_end hb]
      refine ⟨Nat.le_refl _, ?_⟩
      split
      · simp; omega
      · simp; omega
theorem cells_len (s : ByteArray) (place : Int) (l : List (Nat × Nat)) : (wordCells s place l).length = l.length * 2 := by
  induction l with
  | nil => rfl
  | cons x xs ih => simp only [wordCells, List.flatMap_cons, List.length_append, List.length_cons, List.length_nil] at ih ⊢; omega

set_option maxHeartbeats 400000 in
theorem blank_impl (n : Int) (w : World) :
    Calls Tryz.prog 62 #[.int .u8 n] w fun e w' => e = .returned (.bool (blankB n)) ∧ w' = w := by
  go_enter Tryz.func62, Tryz.ntmps62
  go_wp2
  all_goals
    go_ret
    refine ⟨ret_bool ?_, rfl⟩
    simp_all [blankB]

theorem info_word : (Tryz.prog.info? 77).map (fun i => (i.zero, i.size, i.bytes)) = some (some (.agg #[.string ⟨#[]⟩, .int .i64 0]), 2, 24) := by kernel_rfl
theorem one_word (a : ByteArray) (n : Int) : ∀ u ∈ [Value.string a, .int .i64 n], u.oneCell' = true := fun u hu => by
  simp at hu
  rcases hu with rfl | rfl <;> rfl
theorem at_two {w : World} {b : Nat} {x y : Value} (h0 : w.cell? ⟨b, 0, none⟩ = some x) (h1 : w.cell? ⟨b, 1, none⟩ = some y) : ∀ j u, [x, y][j]? = some u → w.cell? ((⟨b, 0, none⟩ : Addr).add j) = some u := by
  intro j u h
  match j, h with
  | 0, h => simp at h; subst h; simpa [Addr.add] using h0
  | 1, h => simp at h; subst h; simpa [Addr.add] using h1
  | j + 2, h => simp at h
theorem own_pass {B n : Nat} {w w1 : World} {v : Value} {t : TypeId} {s : Nat} {xs : List Value} (h : w.ownsRow B t s v n xs) (hb : Below w.heap.size w w1) : w1.ownsRow B t s v n xs := by
  obtain ⟨h1, h2⟩ := h
  refine ⟨h1, ?_⟩
  rcases h2 with h2 | ⟨g, cap, cur, e, hg, hh, hn, hm, hs, ht⟩
  · exact .inl h2
  · exact .inr ⟨g, cap, cur, e, hg, by rw [hb.block g (Array.getElem?_eq_some_iff.1 hh).1]; exact hh, hn, hm, hs, ht⟩

set_option maxHeartbeats 1600000 in
set_option maxRecDepth 8000 in
theorem words_impl (s : ByteArray) (place : Int) (w : World) (hs : s.size ≤ 1048576) (hp0 : 0 ≤ place) (hp1 : place ≤ 1048576) :
    Calls Tryz.prog 50 #[.string s, .int .i64 place] w fun e w' => ∃ v, e = .returned v ∧ w'.ownsRow w.heap.size 77 2 v (words s).length (wordCells s place (words s)) ∧ Below w.heap.size w w' := by
  obtain ⟨i0, hi, hzz⟩ := Option.map_eq_some_iff.1 info_word
  simp only [Prod.mk.injEq] at hzz
  obtain ⟨hz0, hz1, hz2⟩ := hzz
  have HI := hid hi
  have HZ0 := hid hz0
  have HZ1 := hid hz1
  have HZ2 := hid hz2
  clear hi hz0 hz1 hz2
  have HW : Hid (words s = (wst s (s.size + 1)).2) := rfl
  generalize words s = ws at *
  go_enter Tryz.func50, Tryz.ntmps50
  go_wp2
  go_loopw [5, 6, 7] (fun v st i wr => ∃ k : Nat, k ≤ s.size + 1 ∧ i = .int .i64 k ∧ st = .int .i64 (wst s k).1 ∧ wr.ownsRow w.heap.size 77 2 v (wst s k).2.length (wordCells s place (wst s k).2) ∧ Below w.heap.size w wr) (fun _ _ i _ => s.size + 1 - (intOf i).toNat)
  case atStart => exact ⟨0, Nat.zero_le _, rfl, rfl, World.ownsRow_nil _ _ _ _, Below.refl _ _⟩
  case round =>
    obtain ⟨k, hk, rfl, rfl, hown, hbel⟩ := hrel
    have HO := hid hown
    have HB := hid hbel
    have hle := wst_le s k
    have HG := hid (fun h1 h2 => wst_go (s := s) (i := k) h1 h2)
    have HE := hid (fun h => wst_end (s := s) (i := k) h)
    obtain ⟨hle1, hle2⟩ := hle
    clear hown hbel
    generalize hst : wst s k = st at *
    obtain ⟨a, l⟩ := st
    simp only at hle1 hle2 HO
    have HST := hid hst
    clear hst
    by_cases hend : k ≤ s.size
    · by_cases hlt : k < s.size
      · have HD := hid (digS_eq s k hlt)
        by_cases hbl : blankB (s[k].toNat : Int) = true
        · have hE := HE.out (fun h => by rw [HD.out, hbl] at h; exact Bool.noConfusion h.2)
          have HE' := hid hE
          clear hE
          by_cases hak : a < k
          · have hda : decide ((a : Int) < (k : Int)) = true := decide_eq_true (by omega)
            have HE2 : Hid (wst s (k + 1) = (k + 1, l ++ [(a, k)])) := by
              show _ = _
              rw [HE'.out, if_pos hak]
            clear HE' HE HG
            go_wp2_with fail
            refine (blank_impl _ _).mono ?_
            rintro e w1 ⟨rfl, hw1⟩
            replace hw1 := hw1.symm
            subst hw1
            rw [hbl]
            go_wp2_with (at_builtin; (refine wpList_append_own _ rfl _ _ 75 rfl w.heap.size 77 i0 _ 2 24 Tryz.underlying75 HI.out HZ0.out HZ1.out HZ2.out rfl (by decide) _ _ _ rfl (own_pass HO.out (by repeat (first | exact Below.refl _ _ | assumption | refine Below.drew ?_ | refine Below.alloc ?_ (by first | exact Nat.le_refl _ | omega | (simp; done) | (simp; omega)) _ | refine Below.setCell ?_ (by first | exact Nat.le_refl _ | omega | (simp; done) | (simp; omega)) _))) ⟨wr.heap.size, 0, none⟩ 1 1 [.string (s.extract a k), .int .i64 (place + a)] rfl rfl (at_two (by simp [go_sem]) (by simp [go_sem])) (one_word _ _) (by unfold maxLen; omega) (by omega) (by simp; exact Nat.le_succ_of_le HB.out.size) ?_); intro v2 w2 hown2 hg2 hnil2)
            have HB2 : Hid (Below w.heap.size w w2) := (show Below w.heap.size w _ from HB.out.alloc HB.out.size _).grown hg2 (by simp; exact Nat.le_succ_of_le HB.out.size) (fun j hj => (HO.out.lt j hj).1)
            have HO2 : Hid (w2.ownsRow w.heap.size 77 2 v2 (l ++ [(a, k)]).length (wordCells s place (l ++ [(a, k)]))) := by
              show World.ownsRow _ _ _ _ _ _ _
              have e1 : wordCells s place (l ++ [(a, k)]) = wordCells s place l ++ [.string (s.extract a k), .int .i64 (place + a)] := by simp [wordCells]
              rw [e1, List.length_append]
              exact hown2
            clear hown2 hg2 hnil2
            go_wp2
            exact ⟨⟨k + 1, by omega, by go_num, by rw [HE2.out]; go_num, by rw [HE2.out]; exact HO2.out, HB2.out⟩, by simp [intOf]; omega⟩
          · have hda : decide ((a : Int) < (k : Int)) = false := decide_eq_false (by omega)
            have HE2 : Hid (wst s (k + 1) = (k + 1, l)) := by
              show _ = _
              rw [HE'.out, if_neg hak]
            clear HE' HE HG
            go_wp2_with fail
            refine (blank_impl _ _).mono ?_
            rintro e w1 ⟨rfl, hw1⟩
            replace hw1 := hw1.symm
            subst hw1
            rw [hbl]
            go_wp2
            exact ⟨⟨k + 1, by omega, by go_num, by rw [HE2.out]; go_num, by rw [HE2.out]; exact HO.out, HB.out⟩, by simp [intOf]; omega⟩
        · have hbl' : blankB (s[k].toNat : Int) = false := by simpa using hbl
          have HG2 := hid (HG.out hlt (by rw [HD.out]; exact hbl'))
          clear HG HE hbl
          go_wp2_with fail
          refine (blank_impl _ _).mono ?_
          rintro e w1 ⟨rfl, hw1⟩
          replace hw1 := hw1.symm
          subst hw1
          rw [hbl']
          go_wp2
          exact ⟨⟨k + 1, by omega, by go_num, by rw [HG2.out], by rw [HG2.out]; exact HO.out, HB.out⟩, by simp [intOf]; omega⟩
      · have HE' := hid (HE.out (fun h => hlt h.1))
        have hdk : decide ((k : Int) < (s.size : Int)) = false := decide_eq_false (by omega)
        by_cases hak : a < k
        · have hda : decide ((a : Int) < (k : Int)) = true := decide_eq_true (by omega)
          have HE2 : Hid (wst s (k + 1) = (k + 1, l ++ [(a, k)])) := by
            show _ = _
            rw [HE'.out, if_pos hak]
          clear HE' HE HG
          skip
          go_wp2_with (at_builtin; (refine wpList_append_own _ rfl _ _ 75 rfl w.heap.size 77 i0 _ 2 24 Tryz.underlying75 HI.out HZ0.out HZ1.out HZ2.out rfl (by decide) _ _ _ rfl (own_pass HO.out (by repeat (first | exact Below.refl _ _ | assumption | refine Below.drew ?_ | refine Below.alloc ?_ (by first | exact Nat.le_refl _ | omega | (simp; done) | (simp; omega)) _ | refine Below.setCell ?_ (by first | exact Nat.le_refl _ | omega | (simp; done) | (simp; omega)) _))) ⟨wr.heap.size, 0, none⟩ 1 1 [.string (s.extract a k), .int .i64 (place + a)] rfl rfl (at_two (by simp [go_sem]) (by simp [go_sem])) (one_word _ _) (by unfold maxLen; omega) (by omega) (by simp; exact Nat.le_succ_of_le HB.out.size) ?_); intro v2 w2 hown2 hg2 hnil2)
          have HB2 : Hid (Below w.heap.size w w2) := (show Below w.heap.size w _ from HB.out.alloc HB.out.size _).grown hg2 (by simp; exact Nat.le_succ_of_le HB.out.size) (fun j hj => (HO.out.lt j hj).1)
          have HO2 : Hid (w2.ownsRow w.heap.size 77 2 v2 (l ++ [(a, k)]).length (wordCells s place (l ++ [(a, k)]))) := by
            show World.ownsRow _ _ _ _ _ _ _
            have e1 : wordCells s place (l ++ [(a, k)]) = wordCells s place l ++ [.string (s.extract a k), .int .i64 (place + a)] := by simp [wordCells]
            rw [e1, List.length_append]
            exact hown2
          clear hown2 hg2 hnil2
          go_wp2
          exact ⟨⟨k + 1, by omega, by go_num, by rw [HE2.out]; go_num, by rw [HE2.out]; exact HO2.out, HB2.out⟩, by simp [intOf]; omega⟩
        · have hda : decide ((a : Int) < (k : Int)) = false := decide_eq_false (by omega)
          have HE2 : Hid (wst s (k + 1) = (k + 1, l)) := by
            show _ = _
            rw [HE'.out, if_neg hak]
          clear HE' HE HG
          skip
          go_wp2
          exact ⟨⟨k + 1, by omega, by go_num, by rw [HE2.out]; go_num, by rw [HE2.out]; exact HO.out, HB.out⟩, by simp [intOf]; omega⟩
    · have e : k = s.size + 1 := by omega
      subst e
      have HO' : Hid (wr.ownsRow w.heap.size 77 2 u5 ws.length (wordCells s place ws)) := by
        show World.ownsRow _ _ _ _ _ _ _
        rw [HW.out, HST.out]
        exact HO.out
      clear HO HG HE
      go_wp2
      go_ret
      exact ⟨_, rfl, HO'.out, HB.out⟩

theorem own_none {B H : Nat} (w : World) (t : TypeId) (s : Nat) (h : w.heap.size = H) (hB : B ≤ H) : (w.alloc (.cells #[] t)).ownsRow B t s (.slice (some ⟨H, 0, none⟩) 0 0) 0 [] :=
  ⟨by simp, .inr ⟨H, 0, #[], rfl, hB, by subst h; exact heap_alloc_new w _, Nat.le_refl _, Nat.zero_le _, by simp, by simp⟩⟩
theorem blank_cases {n : Int} (h : blankB n = true) : (n == 32) = true ∨ ((n == 32) = false ∧ (n == 9) = true) ∨ ((n == 32) = false ∧ (n == 9) = false ∧ (n == 13) = true) := by
  unfold blankB at h
  cases h1 : n == 32 <;> cases h2 : n == 9 <;> simp_all
theorem blank_ne {n : Int} (h : blankB n = true) : (n != 32) = false ∨ ((n != 32) = true ∧ (n != 9) = false) ∨ ((n != 32) = true ∧ (n != 9) = true ∧ (n != 13) = false) := by
  rcases blank_cases h with h1 | ⟨h1, h2⟩ | ⟨h1, h2, h3⟩ <;> simp_all [bne]
theorem blank_not {n : Int} (h : blankB n = false) : (n == 32) = false ∧ (n == 9) = false ∧ (n == 13) = false := by
  unfold blankB at h
  cases h1 : n == 32 <;> cases h2 : n == 9 <;> simp_all

end Go.Proofs.YtcgpjlpggbgdaaaGreatDoor.words
