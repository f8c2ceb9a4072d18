/- A right network's text is read as the network, of the program: ReadNet; conditions: the text that NetText writes, behind a remark. -/
import Derived.Test.YtffacjebnbplaaaGreatDoorReadLine
namespace Go.Proofs.YtffacjebnbplaaaGreatDoor.readNetI
open Go.RowKit Go.Deep Go base netSem netLines netBytes askWords askSem readMath readNew readMem readSmall readGo readLine
set_option linter.unusedVariables false

theorem results_c1 {fn : Func} {p : Tmp} {ty : TypeId} (h : fn.results = #[.cell p ty]) (tmps : Array Value) (P : Program) (w : World) :
    (results fn tmps).run P w = ((asAddr (tmps.getD p undef)).run P w).andThen fun a w₁ => (loadVar ty a).run P w₁ := by
  simp only [results, h]
  simp [Sem.run_bind]
set_option maxHeartbeats 1600000 in
theorem net_impl {M mb B : Nat} {s : Ss} {g x f : netSem.R} {o e : List Int} {k : Nat → Nat} {v : Nat → Value} {w : World} (p : Nat → Option Addr) (c : Nat → Nat) (h : NRd M mb B s g o e x f k v w) (hv : ∀ j, j < 6 → v j = .slice (p j) (k j) (c j)) :
    Calls Tryz.prog 18 #[.pointer (some ⟨M, 0, none⟩)] w fun e' w' => e' = .returned (netV p k c) ∧ Below w.heap.size w w' := by
  have c0 : w.cell? ⟨M, 0, none⟩ = some (.slice (p 0) (k 0) (c 0)) := by rw [← hv 0 (by omega)]; exact h.cell (i := 0) (by omega)
  have c1 : w.cell? ⟨M, 1, none⟩ = some (.slice none 0 0) := h.cell (i := 1) (by omega)
  have c2 : w.cell? ⟨M, 2, none⟩ = some (.slice (p 1) (k 1) (c 1)) := by rw [← hv 1 (by omega)]; exact h.cell (i := 2) (by omega)
  have c3 : w.cell? ⟨M, 3, none⟩ = some (.slice (p 2) (k 2) (c 2)) := by rw [← hv 2 (by omega)]; exact h.cell (i := 3) (by omega)
  have c4 : w.cell? ⟨M, 4, none⟩ = some (.slice (p 3) (k 3) (c 3)) := by rw [← hv 3 (by omega)]; exact h.cell (i := 4) (by omega)
  have c5 : w.cell? ⟨M, 5, none⟩ = some (.slice (p 4) (k 4) (c 4)) := by rw [← hv 4 (by omega)]; exact h.cell (i := 5) (by omega)
  have c6 : w.cell? ⟨M, 6, none⟩ = some (.slice (p 5) (k 5) (c 5)) := by rw [← hv 5 (by omega)]; exact h.cell (i := 6) (by omega)
  have hM : M < w.heap.size := World.block_lt_of_cell? _ _ c0
  clear h hv
  go_enter Tryz.func18, Tryz.ntmps18
  go_wp2
  refine bodyPost_ret (v := netV p k c) (by rw [results_c1 rfl]; go_simp; rfl) rfl ?_
  exact ⟨rfl, (by repeat (first | exact Below.refl _ _ | assumption | refine Below.drew ?_ | refine Below.alloc ?_ (by first | exact Nat.le_refl _ | omega | (simp; done) | (simp; omega)) _ | refine Below.setCell ?_ (by first | exact Nat.le_refl _ | omega | (simp; done) | (simp; omega)) _))⟩
def remT : List UInt8 := [35, 32, 97, 32, 114, 101, 109, 97, 114, 107]
def remW : List Wd := [[35], [97], [114, 101, 109, 97, 114, 107]]
theorem rem_words : wordsL remT = remW := by decide
theorem rem_no : ∀ b ∈ remT, b ≠ 10 := by decide
theorem num_short {n : Nat} (h : n ≤ 1000) : (Lib.itoa (n : Int)).length ≤ 4 := by
  rw [itoa_eq h]
  unfold dec4
  (repeat' split) <;> simp
variable {l : Nat → Nat} {s : Ss} {g x f : netSem.R} {o e : List Int}
theorem up_most2 {F : Nat → List UInt8} {n m : Nat} (h : ∀ i, i < n → (F i).length ≤ 200) (hn : n ≤ m) : (upTo F n).length ≤ m * 200 := Nat.le_trans (up_len h) (Nat.mul_le_mul_right _ hn)
theorem text_short (hF : Facts l s g o e x f) (hG : netBytes.Good l s g o e x f) : (netL l s g o e x f).length ≤ 7000 := by
  have nl : ∀ a : Nat, a < l 0 → (nm s (a : Int)).length ≤ 40 := fun a ha => hG.nm ha
  have h0 := up_most2 (F := routerL s) (n := l 0) (m := 4) (fun i hi => by
    have := nl i hi
    simp only [routerL, List.length_append, List.length_cons, List.length_nil]; omega) hF.l0
  have h1 := up_most2 (F := linkL s g) (n := l 1) (m := 6) (fun i hi => by
    obtain ⟨a, b, n, ha, hb, _, _, hn, e0, e1, e2, _⟩ := hF.link i hi
    have q1 := nl a ha
    have q2 := nl b hb
    have q3 := num_short (n := n) (by omega)
    simp only [linkL, e0, e1, e2, List.length_append, List.length_cons, List.length_nil]; omega) hF.l1
  have h2 := up_most2 (F := origL s o) (n := l 2) (m := 4) (fun i hi => by
    obtain ⟨a, ha, e0⟩ := hF.orig i hi
    have q1 := nl a ha
    simp only [origL, e0, List.length_append, List.length_cons, List.length_nil]; omega) hF.l2
  have h3 := up_most2 (F := extL s e) (n := l 3) (m := 2) (fun i hi => by
    obtain ⟨a, ha, e0⟩ := hF.extn i hi
    have q1 := nl a ha
    simp only [extL, e0, List.length_append, List.length_cons, List.length_nil]; omega) hF.l3
  have h4 := up_most2 (F := impL s x) (n := l 4) (m := 12) (fun i hi => by
    obtain ⟨a, b, w, d, n, ha, hb, _, _, _, hn, _, e0, e1, e2, e3, e4, _⟩ := hF.impo i hi
    have q1 := nl a ha
    have q2 := nl b hb
    have q3 := whenS_len (w : Int)
    have q4 := doS_len (d : Int)
    have q5 : (prefS (d : Int) (n : Int)).length ≤ 5 := by
      have := num_short hn
      unfold prefS
      split
      · simp only [List.length_append, List.length_cons, List.length_nil]; omega
      · simp
    simp only [impL, e0, e1, e2, e3, e4, List.length_append, List.length_cons, List.length_nil]; omega) hF.l4
  have h5 := up_most2 (F := filtL s f) (n := l 5) (m := 6) (fun i hi => by
    obtain ⟨a, b, n, m, ha, hb, hn, hm, _, e0, e1, e2, e3, _⟩ := hF.filt i hi
    have q1 := nl a ha
    have q2 := nl b hb
    have q3 := num_short (n := n) (by omega)
    have q4 := num_short (n := m) (by omega)
    simp only [filtL, e0, e1, e2, e3, List.length_append, List.length_cons, List.length_nil]; omega) hF.l5
  simp only [netL, List.length_append]
  omega
theorem word_fine {a : Nat} (hF : Facts l s g o e x f) (ha : a < l 0) : fine (nm s (a : Int)) = true := name_fine (hF.nam a ha).1.ok
theorem deed_fine {h d n : Nat} (hn : n ≤ 1000) (h2 : h ≤ 2) (d1 : 1 ≤ d) (d2 : d ≤ 4) : ∀ y ∈ dW (h : Int) (d : Int) (n : Int), fine y = true := by
  intro y hy
  have hnf := (num_facts hn).2.2
  obtain rfl | rfl | rfl : h = 0 ∨ h = 1 ∨ h = 2 := by omega
  all_goals
    obtain rfl | rfl | rfl | rfl : d = 1 ∨ d = 2 ∨ d = 3 ∨ d = 4 := by omega
    all_goals
      simp [dW, deedW, whenW, prefW, whenN, doN, numW_list] at hy
      (try rcases hy with rfl | hy) <;> (try rcases hy with rfl | hy) <;> (try rcases hy with rfl | hy) <;> (try subst hy) <;> first | exact hnf | decide
theorem all_fine (hF : Facts l s g o e x f) : ∀ ws ∈ allW l s g o e x f, ∀ y ∈ ws, fine y = true := by
  intro ws hws y hy
  obtain ⟨t, ht, rfl⟩ := List.getElem_of_mem hws
  have ht' : t < totN l := by rw [← all_len (s := s) (g := g) (o := o) (e := e) (x := x) (f := f)]; exact ht
  have hg := List.getElem?_eq_getElem ht
  rcases all_at (s := s) (g := g) (o := o) (e := e) (x := x) (f := f) ht' with ⟨h0, hw⟩ | ⟨i, hi, _, hw⟩ | ⟨i, hi, _, hw⟩ | ⟨i, hi, _, hw⟩ | ⟨i, hi, _, hw⟩ | ⟨i, hi, _, hw⟩
  all_goals
    rw [hg] at hw
    injection hw with hw
    rw [hw] at hy
  · simp only [rW, List.mem_cons, List.not_mem_nil, or_false] at hy
    rcases hy with rfl | rfl
    · decide
    · exact word_fine hF h0
  · obtain ⟨a, b, n, ha, hb, _, _, hn, e0, e1, e2, _⟩ := hF.link i hi
    simp only [lkW, e0, e1, e2, List.mem_cons, List.not_mem_nil, or_false] at hy
    rcases hy with rfl | rfl | rfl | rfl | rfl
    · decide
    · exact word_fine hF ha
    · exact word_fine hF hb
    · decide
    · exact (num_facts (by omega)).2.2
  · obtain ⟨a, ha, e0⟩ := hF.orig i hi
    simp only [oW, e0, List.mem_cons, List.not_mem_nil, or_false] at hy
    rcases hy with rfl | rfl
    · decide
    · exact word_fine hF ha
  · obtain ⟨a, ha, e0⟩ := hF.extn i hi
    simp only [eW, e0, List.mem_cons, List.not_mem_nil, or_false] at hy
    rcases hy with rfl | rfl
    · decide
    · exact word_fine hF ha
  · obtain ⟨a, b, h, d, n, ha, hb, q1, q2, q3, hn, _, e0, e1, e2, e3, e4, _⟩ := hF.impo i hi
    simp only [iW, e0, e1, e2, e3, e4, List.mem_append, List.mem_cons, List.not_mem_nil, or_false] at hy
    rcases hy with (rfl | rfl | rfl | rfl) | hy
    · decide
    · exact word_fine hF ha
    · decide
    · exact word_fine hF hb
    · exact deed_fine hn q1 q2 q3 y hy
  · obtain ⟨a, b, n, m, ha, hb, hn, hm, _, e0, e1, e2, e3, _⟩ := hF.filt i hi
    simp only [fW, e0, e1, e2, e3, List.mem_cons, List.not_mem_nil, or_false] at hy
    rcases hy with rfl | rfl | rfl | rfl | rfl | rfl | rfl
    · decide
    · exact word_fine hF ha
    · decide
    · exact word_fine hF hb
    · decide
    · exact (num_facts (by omega)).2.2
    · exact (num_facts (by omega)).2.2
/-- The lines of the text that a law reads, and their words. -/
def linesL (l : Nat → Nat) (s : Ss) (g : netSem.R) (o e : List Int) (x f : netSem.R) : List (List UInt8) := remT :: ((allW l s g o e x f).map (fun ws => Lib.join ws [32]) ++ [[]])
theorem lines_cut (hF : Facts l s g o e x f) (hG : netBytes.Good l s g o e x f) : cutC 10 (remT ++ 10 :: netL l s g o e x f) = linesL l s g o e x f := by
  rw [cutC_hit 10 _ _ rem_no, ← all_text hG, cut_lines _ (all_fine hF)]
  rfl
theorem lines_len : (linesL l s g o e x f).length = totN l + 2 := by
  simp [linesL, all_len]
theorem line_first : (linesL l s g o e x f)[0]? = some remT := rfl
theorem line_mid (hF : Facts l s g o e x f) {t : Nat} (ht : t < totN l) : ∃ ws, (allW l s g o e x f)[t]? = some ws ∧ ∃ y, (linesL l s g o e x f)[t + 1]? = some y ∧ wordsL y = ws := by
  have hl : t < (allW l s g o e x f).length := by rw [all_len]; exact ht
  refine ⟨_, List.getElem?_eq_getElem hl, Lib.join (allW l s g o e x f)[t] [32], ?_, words_join _ (all_fine hF _ (List.getElem_mem hl))⟩
  unfold linesL
  rw [List.getElem?_cons_succ, List.getElem?_append_left (by simpa using hl), List.getElem?_map, List.getElem?_eq_getElem hl]
  rfl
theorem line_last : (linesL l s g o e x f)[totN l + 1]? = some [] := by
  unfold linesL
  rw [List.getElem?_cons_succ, List.getElem?_append_right (by simp [all_len])]
  simp [all_len]
theorem idx10 (s : ByteArray) : Lib.indexB s ⟨#[10]⟩ = Lib.indexByte s.data.toList 10 := Lib.one s ⟨#[10]⟩ rfl
theorem split_cut10 : ∀ (n : Nat) (s : ByteArray), Lib.countB s ⟨#[10]⟩ = n → Lib.splitB ⟨#[10]⟩ 0 n s = (cutC 10 s.data.toList).map piece := by
  have hself : ∀ s : ByteArray, piece s.data.toList = s := fun s => rfl
  have miss : ∀ s : ByteArray, Lib.indexB s ⟨#[10]⟩ = -1 → (cutC 10 s.data.toList).map piece = [s] := fun s h => by
    rw [cutC_miss 10 _ (idx_none 10 _ (by rw [← idx10]; exact h))]
    rfl
  intro n
  induction n with
  | zero =>
    intro s h
    rcases Lib.indexB_cases s ⟨#[10]⟩ with h1 | ⟨i, h1, h2⟩
    · rw [miss s h1]; rfl
    · have := Lib.countB_hit s ⟨#[10]⟩ i (Nat.le_refl _) h1
      omega
  | succ n ih =>
    intro s h
    rcases Lib.indexB_cases s ⟨#[10]⟩ with h1 | ⟨i, h1, h2⟩
    · have := Lib.countB_miss s ⟨#[10]⟩ h1
      omega
    · have hc := Lib.countB_hit s ⟨#[10]⟩ i (Nat.le_refl _) h1
      rw [Lib.splitB_hit _ _ _ _ i h1, ih _ (by omega)]
      obtain ⟨e, hn⟩ := idx_some 10 s.data.toList i (by rw [← idx10]; exact h1)
      have e2 : cutC 10 s.data.toList = s.data.toList.take i :: cutC 10 (s.data.toList.drop (i + 1)) := by
        conv => lhs; rw [e]
        exact cutC_hit 10 _ _ hn
      rw [e2, List.map_cons]
      congr 1
      · rw [← hself (s.extract 0 (i + 0)), Lib.extract_from_zero]; rfl
      · rw [Lib.extract_to_end]; rfl
/-- The pieces of a text, by strings.Split. -/
theorem split_nl (s : ByteArray) (m : Int) (w : World) (hs : s.size < 4294967281) (hm : w.cell? ⟨0, 0, none⟩ = some (.int .i64 m)) :
    Calls Tryz.prog 15 #[.string s, .string ⟨#[10]⟩] w fun e w' => e = .returned (.slice (some ⟨w.heap.size, 0, none⟩) (cutC 10 s.data.toList).length (cutC 10 s.data.toList).length) ∧ w' = w.alloc (.cells ((cutC 10 s.data.toList).map fun l => Value.string (piece l)).toArray 9) := by
  have h := Any.strings_Split Tryz.lays146 info_str s ⟨#[10]⟩ m w hs hm (Nat.le_refl _)
  change Calls Tryz.prog 15 _ _ _ at h
  have e1 := split_cut10 _ s rfl
  have e2 := Lib.splitB_all ⟨#[10]⟩ (Nat.le_refl _) 0 _ s rfl
  rw [e1, List.length_map] at e2
  refine h.mono ?_
  rintro e w' ⟨rfl, rfl⟩
  rw [e1, ← e2, List.map_map]
  exact ⟨rfl, rfl⟩

/-- Each line is read. -/
theorem line_read (hF : Facts l s g o e x f) {M mb B t : Nat} {v : Nat → Value} {w : World} (y : List UInt8) (ad : Option Addr) (c : Nat) (ht : t < totN l + 2) (hy : (linesL l s g o e x f)[t]? = some y) (h : NRd M mb B s g o e x f (cntN l (t - 1)) v w) (hR : TRow w.heap.size w ad c (wordsL y)) :
    Calls Tryz.prog 16 #[.pointer (some ⟨M, 0, none⟩), .slice ad (wordsL y).length c] w fun e' w' => ∃ v', e' = .returned (.int .i64 0) ∧ NRd M mb B s g o e x f (cntN l t) v' w' ∧ Stay M B w w' := by
  rcases Nat.eq_zero_or_pos t with h0 | h0
  · subst h0
    rw [line_first] at hy
    injection hy with hy
    subst hy
    rw [rem_words] at hR ⊢
    refine (read_remark M ad c [35] [[97], [114, 101, 109, 97, 114, 107]] w hR (by decide)).mono ?_
    rintro e' w' ⟨rfl, rfl⟩
    exact ⟨v, rfl, h, Stay.refl _ _ _⟩
  · obtain ⟨u, rfl⟩ : ∃ u, t = u + 1 := ⟨t - 1, by omega⟩
    rw [Nat.add_sub_cancel] at h
    by_cases hu : u < totN l
    · obtain ⟨ws, hws, y', hy', hw⟩ := line_mid (s := s) (g := g) (o := o) (e := e) (x := x) (f := f) hF hu
      rw [hy] at hy'
      injection hy' with hy'
      subst hy'
      rw [hw] at hR ⊢
      exact read_line hF ad c hu hws h hR
    · have hu' : u = totN l := by omega
      subst hu'
      rw [line_last] at hy
      injection hy with hy
      subst hy
      have e0 : wordsL [] = [] := rfl
      rw [e0] at hR ⊢
      refine (read_none M ad c w).mono ?_
      rintro e' w' ⟨rfl, rfl⟩
      exact ⟨v, rfl, congr h (fun j hj => by
        obtain rfl | rfl | rfl | rfl | rfl | rfl : j = 0 ∨ j = 1 ∨ j = 2 ∨ j = 3 ∨ j = 4 ∨ j = 5 := by omega
        all_goals simp [cntN, totN]
        all_goals omega), Stay.refl _ _ _⟩
theorem line_short (hF : Facts l s g o e x f) (hG : netBytes.Good l s g o e x f) {t : Nat} {y : List UInt8} (hy : (linesL l s g o e x f)[t]? = some y) : y.length ≤ 10000 := by
  have h1 : y ∈ cutC 10 (remT ++ 10 :: netL l s g o e x f) := by rw [lines_cut hF hG]; exact List.mem_of_getElem? hy
  have h2 := cutC_small 10 _ y h1
  have h3 := text_short hF hG
  rw [List.length_append, List.length_cons] at h2
  have : remT.length = 10 := rfl
  omega
def nil6 : Nat → Value := fun _ => .slice none 0 0
theorem cnt_zero (j : Nat) : cntN l 0 j = 0 := by
  unfold cntN
  split <;> simp
theorem rowV_zero (j : Nat) : rowV s g o e x f j 0 = [] := by
  unfold rowV
  split <;> rfl
theorem nrd_new {w0 : World} {mb B n : Nat} (hm : w0.ownsMap Tryz.prog 9 hE mb n mapD) {W : World} (hb : Below (w0.heap.size + 1) (w0.alloc (.cells (cells0 mb) 50)) W) (hB : w0.heap.size < B) (hmb : mb < B) (hle : B ≤ W.heap.size) (hne : w0.heap.size ≠ mb) : NRd w0.heap.size mb B s g o e x f (cntN l 0) nil6 W := by
  have hr := World.rowIs_alloc w0 (cells0 mb) 50 (cellF mb nil6) (fun i hi => by
    have hi : i < 8 := hi
    obtain rfl | rfl | rfl | rfl | rfl | rfl | rfl | rfl : i = 0 ∨ i = 1 ∨ i = 2 ∨ i = 3 ∨ i = 4 ∨ i = 5 ∨ i = 6 ∨ i = 7 := by omega
    all_goals rfl)
  refine ⟨World.rowIs.of_block hr (hb.block _ (by omega)), fun j hj => ?_, fun i j b _ _ _ h => (by cases h), ⟨n, map_kept (hm.alloc _) (hb.block _ (by have := hm.lt; omega))⟩, hB, hmb, hne, hle⟩
  rw [cnt_zero, rowV_zero]
  exact World.ownsRow_nil _ _ _ _
theorem nrd_off {M mb B : Nat} {k : Nat → Nat} {v : Nat → Value} {w w' : World} (h : NRd M mb B s g o e x f k v w) (Z : Nat) (hz : Z < B) (hM : Z ≠ M) (hm : Z ≠ mb) (hs : w.heap.size ≤ w'.heap.size) (hb : ∀ j, j < w.heap.size → j ≠ Z → w'.heap[j]? = w.heap[j]?) : NRd M mb B s g o e x f k v w' := by
  obtain ⟨n, hmp⟩ := h.map
  exact ⟨World.rowIs.of_block h.cells (hb _ (World.rowIs.lt h.cells) (fun e0 => hM e0.symm)), fun j hj => own_kept (h.rows j hj) fun b hg => by
    have h1 := World.ownsRow.lt (h.rows j hj) b hg
    exact hb b h1.2 (by omega), h.apart, ⟨n, map_kept hmp (hb _ hmp.lt (fun e0 => hm e0.symm))⟩, h.lt, h.mlt, h.ne, Nat.le_trans h.le hs⟩
theorem ints_of {w : World} {B n : Nat} {a : Option Addr} {lv c : Nat} {z : List Int} (h : w.ownsRow B 3 1 (.slice a lv c) n (flatR 1 (fun i _ => zAt z i) n)) (hz : z.length = n) : IntRow w a n z :=
  ⟨hz, own_most h, fun i hi => by
    obtain ⟨b, e0, hc⟩ := own_cell h (by omega)
    refine ⟨b, 0, e0, ?_⟩
    have h2 := flat_at 1 (fun i _ => zAt z i) (n := n) (i := i) (j := 0) hi (by omega)
    rw [Nat.mul_one, Nat.add_zero] at h2
    rw [Nat.zero_add]
    exact hc i _ (by omega) h2⟩
theorem net_of {M mb B : Nat} {v : Nat → Value} {w : World} {p : Nat → Option Addr} {c : Nat → Nat} (h : NRd M mb B s g o e x f l v w) (hv : ∀ j, j < 6 → v j = .slice (p j) (l j) (c j)) (ho : o.length = l 2) (he : e.length = l 3) (hs : ∀ i, i < l 0 → (s i).size ≤ maxLen) : NetIs w p l s g o e x f :=
  ⟨str_of (h.own (j := 0) (by omega) (hv 0 (by omega)) rfl (Below.refl _ _)) hs, row_of (h.own (j := 1) (by omega) (hv 1 (by omega)) rfl (Below.refl _ _)), ints_of (h.own (j := 2) (by omega) (hv 2 (by omega)) rfl (Below.refl _ _)) ho, ints_of (h.own (j := 3) (by omega) (hv 3 (by omega)) rfl (Below.refl _ _)) he, row_of (h.own (j := 4) (by omega) (hv 4 (by omega)) rfl (Below.refl _ _)), row_of (h.own (j := 5) (by omega) (hv 5 (by omega)) rfl (Below.refl _ _))⟩
def pOf (v : Value) : Option Addr := match v with | .slice a _ _ => a | _ => none
def cOf (v : Value) : Nat := match v with | .slice _ _ c => c | _ => 0
set_option maxHeartbeats 3200000 in
set_option maxRecDepth 8000 in
theorem read_net (hF : Facts l s g o e x f) (hG : netBytes.Good l s g o e x f) (h1 : 1 ≤ l 0) (ho : o.length = l 2) (he : e.length = l 3) (m : Int) (w : World) (hm : w.cell? ⟨0, 0, none⟩ = some (.int .i64 m)) :
    Calls Tryz.prog 7 #[.string (piece (remT ++ 10 :: netL l s g o e x f))] w fun e' w' => ∃ p c, e' = .returned (.tuple #[netV p l c, .int .i64 0, .int .i64 0]) ∧ NetIs w' p l s g o e x f ∧ (l 0 ≤ c 0 ∧ l 1 ≤ c 1) ∧ Below w.heap.size w w' := by
  have hlen : (piece (remT ++ 10 :: netL l s g o e x f)).size = 11 + (netL l s g o e x f).length := by
    rw [piece_size, List.length_append, List.length_cons]
    have : remT.length = 10 := rfl
    omega
  have hts := text_short hF hG
  have HSp : Hid (∀ w8 : World, w8.cell? ⟨0, 0, none⟩ = some (.int .i64 m) → Calls Tryz.prog 15 #[.string (piece (remT ++ 10 :: netL l s g o e x f)), .string ⟨#[10]⟩] w8 fun e9 w' => e9 = .returned (.slice (some ⟨w8.heap.size, 0, none⟩) (totN l + 2) (totN l + 2)) ∧ w' = w8.alloc (.cells ((linesL l s g o e x f).map fun x => Value.string (piece x)).toArray 9)) := hid (fun w8 h8 => by
    have q := split_nl (piece (remT ++ 10 :: netL l s g o e x f)) m w8 (by omega) h8
    have e1 : (piece (remT ++ 10 :: netL l s g o e x f)).data.toList = remT ++ 10 :: netL l s g o e x f := rfl
    rw [e1, lines_cut hF hG, lines_len] at q
    exact q)
  obtain ⟨TX, hTX⟩ : ∃ t, piece (remT ++ 10 :: netL l s g o e x f) = t := ⟨_, rfl⟩
  rw [hTX] at HSp hlen ⊢
  clear hTX
  have hsz : decide ((65536 : Int) < (TX.size : Int)) = false := decide_eq_false (by omega)
  have hl34 : totN l ≤ 34 := by
    have a0 := hF.l0
    have a1 := hF.l1
    have a2 := hF.l2
    have a3 := hF.l3
    have a4 := hF.l4
    have a5 := hF.l5
    unfold totN
    omega
  have HM := hid hm
  have hGl := World.block_lt_of_cell? _ _ hm
  dsimp only at hGl
  clear hlen hts hm
  go_enter Tryz.func7, Tryz.ntmps7
  go_wp2_with fail
  refine (new_impl _).mono ?_
  rintro e1 w1 ⟨w0, rfl, rfl, hmap, hb0⟩
  obtain ⟨nm0, hmap⟩ := hmap
  have hz0 := hb0.size
  simp only [World.size_alloc] at hz0
  obtain ⟨M, hMe⟩ : ∃ M, w0.heap.size = M := ⟨_, rfl⟩
  have hmbe : (w.alloc (.cells #[.slice none 0 0, .slice none 0 0, .slice none 0 0, .slice none 0 0, .slice none 0 0, .slice none 0 0] 29)).heap.size = w.heap.size + 1 := by simp
  rw [hmbe] at hmap ⊢
  have hmlt := hmap.lt
  have hZ0 : w0.heap[w.heap.size]? = some (.cells #[.slice none 0 0, .slice none 0 0, .slice none 0 0, .slice none 0 0, .slice none 0 0, .slice none 0 0] 29 (0, 0)) := (hb0.block _ (by rw [hmbe]; omega)).trans (heap_alloc_new w _)
  have HB1 : Hid (Below w.heap.size w (w0.alloc (.cells (cells0 (w.heap.size + 1)) 50))) := hid (((show Below w.heap.size w (w.alloc _) from (by repeat (first | exact Below.refl _ _ | assumption | refine Below.drew ?_ | refine Below.alloc ?_ (by first | exact Nat.le_refl _ | omega | (simp; done) | (simp; omega)) _ | refine Below.setCell ?_ (by first | exact Nat.le_refl _ | omega | (simp; done) | (simp; omega)) _))).trans (hb0.mono (by rw [hmbe]; omega))).trans ((show Below w0.heap.size w0 _ from (by repeat (first | exact Below.refl _ _ | assumption | refine Below.drew ?_ | refine Below.alloc ?_ (by first | exact Nat.le_refl _ | omega | (simp; done) | (simp; omega)) _ | refine Below.setCell ?_ (by first | exact Nat.le_refl _ | omega | (simp; done) | (simp; omega)) _))).mono (by omega)))
  obtain ⟨W1, hW1⟩ : ∃ W, w0.alloc (.cells (cells0 (w.heap.size + 1)) 50) = W := ⟨_, rfl⟩
  have hs1 : W1.heap.size = M + 1 := by rw [← hW1, World.size_alloc, hMe]
  have HZ1 : Hid (W1.heap[w.heap.size]? = some (.cells #[.slice none 0 0, .slice none 0 0, .slice none 0 0, .slice none 0 0, .slice none 0 0, .slice none 0 0] 29 (0, 0))) := hid (by rw [← hW1]; exact (heap_alloc_old _ _ (by omega)).trans hZ0)
  have HN1 : Hid (∀ (W : World) (B : Nat), Below W1.heap.size W1 W → M < B → w.heap.size + 1 < B → B ≤ W.heap.size → NRd M (w.heap.size + 1) B s g o e x f (cntN l 0) nil6 W) := hid (fun W B hb hB hmb hle => by
    subst hMe
    exact nrd_new hmap (by rw [hW1]; exact hb.mono (by omega)) hB hmb hle (by omega))
  rw [hW1] at HB1 ⊢
  rw [hMe]
  have hMw : w.heap.size + 1 < M := by omega
  clear hmap hb0 hz0 hmlt hZ0 hW1 hMe hmbe
  have hm1 := keep HB1.out HM.out
  go_wp2_with fail
  refine (HSp.out W1 hm1).mono ?_
  rintro e1 w2 ⟨rfl, hw2⟩
  have HCell : Hid (∀ (t : Nat) (y : List UInt8), (linesL l s g o e x f)[t]? = some y → w2.cell? ⟨M + 1, t, none⟩ = some (.string (piece y))) := hid (fun t y hy => by
    rw [hw2, ← hs1]
    simp only [World.cell?, heap_alloc_new]
    simp [hy])
  have HB12 : Hid (Below W1.heap.size W1 w2) := hid (by rw [hw2]; exact (by repeat (first | exact Below.refl _ _ | assumption | refine Below.drew ?_ | refine Below.alloc ?_ (by first | exact Nat.le_refl _ | omega | (simp; done) | (simp; omega)) _ | refine Below.setCell ?_ (by first | exact Nat.le_refl _ | omega | (simp; done) | (simp; omega)) _)))
  have hs2 : w2.heap.size = M + 2 := by rw [hw2, World.size_alloc, hs1]
  have HN2 := hid (HN1.out w2 (M + 2) HB12.out (by omega) (by omega) (by omega))
  have HZ2 : Hid (w2.heap[w.heap.size]? = some (.cells #[.slice none 0 0, .slice none 0 0, .slice none 0 0, .slice none 0 0, .slice none 0 0, .slice none 0 0] 29 (0, 0))) := hid ((HB12.out.block _ (by omega)).trans HZ1.out)
  have HB2 : Hid (Below w.heap.size w w2) := HB1.out.trans (HB12.out.mono HB1.out.size)
  have hm2 := keep HB2.out HM.out
  rw [hs1]
  clear hw2 HN1 HSp HB12 HZ1 hm1 HB1
  have HRd : Hid (∀ (t : Nat) (y : List UInt8) (v : Nat → Value) (w8 : World) (ad : Option Addr) (c : Nat), t < totN l + 2 → (linesL l s g o e x f)[t]? = some y → NRd M (w.heap.size + 1) (M + 2) s g o e x f (cntN l (t - 1)) v w8 → TRow w8.heap.size w8 ad c (wordsL y) → Calls Tryz.prog 16 #[.pointer (some ⟨M, 0, none⟩), .slice ad (wordsL y).length c] w8 fun e' w' => ∃ v', e' = .returned (.int .i64 0) ∧ NRd M (w.heap.size + 1) (M + 2) s g o e x f (cntN l t) v' w' ∧ Stay M (M + 2) w8 w') := hid (fun t y v w8 ad c ht hy h hR => line_read hF y ad c ht hy h hR)
  have HLs : Hid (∀ (t : Nat) (y : List UInt8), (linesL l s g o e x f)[t]? = some y → y.length ≤ 10000) := hid (fun t y hy => line_short hF hG hy)
  have HLn : Hid ((linesL l s g o e x f).length = totN l + 2) := lines_len
  have HGl := hid hGl
  obtain ⟨LN, hLN⟩ : ∃ q, totN l + 2 = q := ⟨_, rfl⟩
  rw [hLN] at HRd HLn ⊢
  have HLN := hid hLN
  have hLq : LN ≤ 36 := by omega
  have HS2 := hid hs2
  clear hLN hs2 hs1
  go_wp2_with fail
  go_loopw [6, 7, 8, 17] (fun a0 b0 c0 i wr => ∃ (t : Nat) (v : Nat → Value), t ≤ LN ∧ i = .int .i64 t ∧ NRd M (w.heap.size + 1) (M + 2) s g o e x f (cntN l (t - 1)) v wr ∧ Stay M (M + 2) w2 wr) (fun _ _ _ i _ => LN - (intOf i).toNat)
  case atStart => exact ⟨0, nil6, Nat.zero_le _, rfl, HN2.out, Stay.refl _ _ _⟩
  case round =>
    obtain ⟨t, v, ht, rfl, hn, hst⟩ := hrel
    have HN := hid hn
    have HS := hid hst
    clear hn hst
    by_cases hlt : t < LN
    · obtain ⟨y, hy⟩ : ∃ y, (linesL l s g o e x f)[t]? = some y := ⟨_, List.getElem?_eq_getElem (by rw [HLn.out]; exact hlt)⟩
      have HY := hid hy
      have hc := (World.cell?_of_block (a := ⟨M + 1, t, none⟩) (HS.out.block (M + 1) (by omega) (by omega))).trans (HCell.out t y hy)
      have hm3 := (World.cell?_of_block (a := ⟨0, 0, none⟩) (HS.out.block _ (by dsimp only; have := HGl.out; omega) (by dsimp only; have := HGl.out; omega))).trans hm2
      have hdl : decide ((t : Int) < (LN : Int)) = true := decide_eq_true (by omega)
      clear hy
      go_wp2_with fail
      refine (words_impl (piece y) m _ (by rw [piece_size]; have := HLs.out t y HY.out; omega) hm3).mono ?_
      rintro e1 w3 ⟨vw, rfl, how, hb3⟩
      obtain ⟨ad, c, rfl, htr⟩ := TRow.of_own how (Nat.le_refl _) (fun z hz => Nat.le_trans (words_small hz) (by have := HLs.out t y HY.out; show y.length ≤ _; omega)) (fun z hz => words_some hz)
      have HT := hid htr
      have HN3 := hid (HN.out.below hb3)
      have HS3 := hid (HS.out.trans (Stay.of_below hb3 HN.out.le))
      clear how hb3 htr hc hm3 HN HS
      go_wp2_with fail
      refine (HRd.out t y v w3 ad c hlt HY.out HN3.out HT.out).mono ?_
      rintro e1 w4 ⟨v', rfl, hn4, hs4⟩
      have HN4 := hid hn4
      have HS4 := hid (HS3.out.trans hs4)
      clear hn4 hs4 HN3 HS3 HT
      go_wp2
      go_roundw
      case rel => exact ⟨t + 1, v', by omega, by go_num, HN4.out, HS4.out⟩
      case measure => simp [intOf]; omega
    · have e0 : t = LN := by omega
      subst e0
      have hdl : decide ((t : Int) < (t : Int)) = false := decide_eq_false (by omega)
      have hNl := congr (k' := l) HN.out (fun j hj => by
        have hq := HLN.out
        have ht1 : t - 1 = totN l + 1 := by omega
        rw [ht1]
        obtain rfl | rfl | rfl | rfl | rfl | rfl : j = 0 ∨ j = 1 ∨ j = 2 ∨ j = 3 ∨ j = 4 ∨ j = 5 := by omega
        all_goals simp [cntN, totN]
        all_goals omega)
      have hvj : ∀ j, j < 6 → v j = .slice (pOf (v j)) (l j) (cOf (v j)) ∧ l j ≤ cOf (v j) := fun j hj => by
        obtain ⟨a, c, ea, hc⟩ := hNl.form hj
        rw [ea]
        exact ⟨rfl, hc⟩
      have HNl := hid hNl
      have HV := hid (fun j hj => (hvj j hj).1)
      have HCp : Hid (l 0 ≤ cOf (v 0) ∧ l 1 ≤ cOf (v 1)) := hid ⟨(hvj 0 (by omega)).2, (hvj 1 (by omega)).2⟩
      have c0 : wr.cell? ⟨M, 0, none⟩ = some (.slice (pOf (v 0)) (l 0) (cOf (v 0))) := by rw [← HV.out 0 (by omega)]; exact hNl.at (j := 0) (by omega)
      have hl0 : ((l 0 : Int) == 0) = false := beq_eq_false_iff_ne.2 (by omega)
      have hZr := (HS.out.block w.heap.size (by omega) (by omega)).trans HZ2.out
      clear hNl hvj HN
      go_wp2_with fail
      refine (net_impl (fun j => pOf (v j)) (fun j => cOf (v j)) HNl.out HV.out).mono ?_
      rintro e1 w5 ⟨rfl, hb5⟩
      have hZ5 := (hb5.block w.heap.size (Array.getElem?_eq_some_iff.1 hZr).1).trans hZr
      have HB5 := hid hb5
      have hs5 := (Array.getElem?_eq_some_iff.1 hZ5).1
      have r0 := readDeed.cell_in hZ5 0
      have r1 := readDeed.cell_in hZ5 1
      have r2 := readDeed.cell_in hZ5 2
      have r3 := readDeed.cell_in hZ5 3
      have r4 := readDeed.cell_in hZ5 4
      have r5 := readDeed.cell_in hZ5 5
      have z0 := readDeed.frozen_in hZ5 0
      have z1 := readDeed.frozen_in hZ5 1
      have z2 := readDeed.frozen_in hZ5 2
      have z3 := readDeed.frozen_in hZ5 3
      have z4 := readDeed.frozen_in hZ5 4
      have z5 := readDeed.frozen_in hZ5 5
      simp only [List.getElem?_toArray, List.getElem?_cons_zero, List.getElem?_cons_succ] at r0 r1 r2 r3 r4 r5
      unfold netV
      clear hb5 hZr hZ5 c0
      go_wp2
      refine bodyPost_ret (v := .tuple #[netV (fun j => pOf (v j)) l (fun j => cOf (v j)), .int .i64 0, .int .i64 0]) (by rw [results_c3 rfl]; go_simp; rfl) rfl ?_
      have hBr : Below w.heap.size w wr := ⟨HS.out.os.trans HB2.out.os, HS.out.tape.trans HB2.out.tape, HS.out.output.trans HB2.out.output, Nat.le_trans HB2.out.size HS.out.size, fun j hj => (HS.out.block j (by omega) (by omega)).trans (HB2.out.block j hj)⟩
      have hB5 := hBr.trans (HB5.out.mono hBr.size)
      have hN5 := HNl.out.below HB5.out
      refine ⟨_, _, rfl, net_of (M := M) (mb := w.heap.size + 1) (B := M + 2) (v := v) (c := fun j => cOf (v j)) (nrd_off hN5 w.heap.size (by omega) (by omega) (by omega) (by simp [World.setCell]) (fun j hj hne => ?_)) HV.out ho he (fun i hi => ?_), HCp.out, (((((hB5.setCell (Nat.le_refl _) _).setCell (Nat.le_refl _) _).setCell (Nat.le_refl _) _).setCell (Nat.le_refl _) _).setCell (Nat.le_refl _) _).setCell (Nat.le_refl _) _⟩
      · exact (Below.heap_setCell _ _ _ _ hne).trans ((Below.heap_setCell _ _ _ _ hne).trans ((Below.heap_setCell _ _ _ _ hne).trans ((Below.heap_setCell _ _ _ _ hne).trans ((Below.heap_setCell _ _ _ _ hne).trans (Below.heap_setCell _ _ _ _ hne)))))
      · have h9 := (hF.nam i hi).1.ok
        simp only [names.nameB, Bool.and_eq_true, decide_eq_true_eq] at h9
        unfold maxLen
        omega
end Go.Proofs.YtffacjebnbplaaaGreatDoor.readNetI
