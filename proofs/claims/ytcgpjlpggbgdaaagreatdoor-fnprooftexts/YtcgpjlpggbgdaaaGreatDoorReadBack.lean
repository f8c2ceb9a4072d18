/- A proof's text, read, is the proof: of the functions that tell what ProofText writes and ReadProof reads; conditions: right steps. -/
import Derived.Test.YtcgpjlpggbgdaaaGreatDoorReadSpecP
import Derived.Lib.ItoaNum
namespace Go.Proofs.YtcgpjlpggbgdaaaGreatDoor.readBack
open Go.RowKit Go.Deep base numbers words cuts stepRead readSem readSpecP
set_option linter.unusedVariables false

/- The digits of literals: at most two. -/
def dec2 (u : Nat) : List UInt8 := if u < 10 then [UInt8.ofNat (48 + u)] else [UInt8.ofNat (48 + u / 10), UInt8.ofNat (48 + u % 10)]
def lb (z : Int) : List UInt8 := if z < 0 then 45 :: dec2 z.natAbs else dec2 z.toNat
theorem dec2_eq {u : Nat} (h : u < 100) : Lib.decDigits u = dec2 u := by
  unfold dec2
  by_cases h1 : u < 10
  · rw [if_pos h1, Lib.decDigits_one h1]
  · rw [if_neg h1, Lib.decDigits_two h1 h]
theorem lb_eq {z : Int} (h : litB 40 z = true) : Lib.itoa z = lb z := by
  have h2 : z ≠ 0 ∧ -40 ≤ z ∧ z ≤ 40 := of_decide_eq_true h
  unfold Lib.itoa lb
  rw [dec2_eq (by omega), dec2_eq (by omega)]
/-- What a word of a line is: not empty, without a blank or a newline. -/
def wordB (w : List UInt8) : Bool := !w.isEmpty && w.all fun b => !(blankB (b.toNat : Int)) && !(b == 10)
theorem lit_all : ∀ k : Fin 81, litB 40 ((k.val : Int) - 40) = true → (negS (piece (lb ((k.val : Int) - 40))) = decide ((k.val : Int) - 40 < 0) ∧ (cutS (piece (lb ((k.val : Int) - 40)))).size ≠ 0 ∧ (cutS (piece (lb ((k.val : Int) - 40)))).size ≤ 18 ∧ digS (cutS (piece (lb ((k.val : Int) - 40)))) 0 ≠ 48 ∧ allS (cutS (piece (lb ((k.val : Int) - 40)))) (cutS (piece (lb ((k.val : Int) - 40)))).size = true ∧ valS (cutS (piece (lb ((k.val : Int) - 40)))) (cutS (piece (lb ((k.val : Int) - 40)))).size = (((k.val : Int) - 40).natAbs : Int) ∧ wordB (lb ((k.val : Int) - 40)) = true ∧ lb ((k.val : Int) - 40) ≠ [100] ∧ lb ((k.val : Int) - 40) ≠ [99] ∧ (lb ((k.val : Int) - 40)).length ≤ 3) := by decide +kernel
theorem lit_facts {z : Int} (h : litB 40 z = true) : isNum (piece (lb z)) = true ∧ numS (piece (lb z)) = z ∧ wordB (lb z) = true ∧ lb z ≠ [100] ∧ lb z ≠ [99] ∧ (lb z).length ≤ 3 := by
  have h2 : z ≠ 0 ∧ -40 ≤ z ∧ z ≤ 40 := of_decide_eq_true h
  have hk := lit_all ⟨(z + 40).toNat, by omega⟩
  have e : (((z + 40).toNat : Nat) : Int) - 40 = z := by omega
  simp only [e] at hk
  obtain ⟨h3, h4, h5, h6, h7, h8, h9, h10, h11, h12⟩ := hk h
  have hn : isNum (piece (lb z)) = true := by
    unfold isNum
    rw [h7, Bool.and_true]
    exact decide_eq_true ⟨h4, h5, fun hx => h6 hx.1⟩
  refine ⟨hn, ?_, h9, h10, h11, h12⟩
  unfold numS
  rw [if_pos hn, h3, h8]
  by_cases hz : z < 0
  · rw [if_pos (by simpa using hz)]; omega
  · rw [if_neg (by simpa using hz)]; omega
theorem zero_facts : isNum (piece [48]) = true ∧ numS (piece [48]) = 0 := by
  have h1 : (piece [48]).toList = [48] := toList_data _
  have hn : isNum (piece [48]) = true := by
    unfold isNum
    rw [show allS (cutS (piece [48])) (cutS (piece [48])).size = true by decide +kernel, Bool.and_true]
    exact decide_eq_true ⟨by decide +kernel, by decide +kernel, fun hx => hx.2 h1⟩
  refine ⟨hn, ?_⟩
  unfold numS
  rw [if_pos hn]
  decide +kernel

/- A line that is words with one blank between them. -/
def joined : List (List UInt8) → List UInt8
  | [] => []
  | [w] => w
  | w :: v :: r => w ++ 32 :: joined (v :: r)
def offs : List (List UInt8) → Nat → List (Nat × Nat)
  | [], _ => []
  | w :: r, p => (p, p + w.length) :: offs r (p + w.length + 1)
theorem dig_at {s : ByteArray} {pre l : List UInt8} (h : s.data.toList = pre ++ l) (j : Nat) (hj : j < l.length) : digS s (pre.length + j) = (l[j].toNat : Int) := by
  unfold digS
  rw [h, List.getD_eq_getElem?_getD, List.getElem?_append_right (by omega), Nat.add_sub_cancel_left, List.getElem?_eq_getElem hj]
  rfl
theorem size_at {s : ByteArray} {l : List UInt8} (h : s.data.toList = l) : s.size = l.length := by
  rw [← h, Array.length_toList]; rfl
theorem in_word {s : ByteArray} {pre w tl : List UInt8} (h : s.data.toList = pre ++ (w ++ tl)) (hw : wordB w = true) : ∀ j, j ≤ w.length → wst s (pre.length + j) = wst s pre.length := by
  intro j
  induction j with
  | zero => intro _; rfl
  | succ j ih =>
    intro hj
    rw [← ih (by omega), ← Nat.add_assoc]
    refine wst_go (by rw [size_at h]; simp; omega) ?_
    rw [dig_at h j (by simp; omega), List.getElem_append_left (by omega)]
    have := Bool.and_eq_true_iff.1 hw
    have h3 := List.all_eq_true.1 this.2 w[j] (List.getElem_mem (by omega))
    simp at h3
    simpa using h3.1
theorem words_of {s : ByteArray} : ∀ (W : List (List UInt8)) (pre : List UInt8), W ≠ [] → (∀ w ∈ W, wordB w = true) → s.data.toList = pre ++ joined W → (wst s pre.length).1 = pre.length → words s = (wst s pre.length).2 ++ offs W pre.length
  | [], pre, h0, _, _, _ => absurd rfl h0
  | [w], pre, _, hW, h, h1 => by
    have hw := hW w (by simp)
    have h' : s.data.toList = pre ++ (w ++ []) := by simpa [joined] using h
    have hz := size_at h'
    simp at hz
    have hi := in_word h' hw w.length (Nat.le_refl _)
    have hne : 0 < w.length := by
      have := Bool.and_eq_true_iff.1 hw
      cases w with
      | nil => simp at this
      | cons a b => simp
    unfold words
    rw [hz, wst_end (by rw [hz]; omega), hi, if_pos (by rw [h1]; omega), h1]
    rfl
  | w :: v :: r, pre, _, hW, h, h1 => by
    have hw := hW w (by simp)
    have h' : s.data.toList = pre ++ (w ++ 32 :: joined (v :: r)) := by simpa [joined] using h
    have hz := size_at h'
    simp at hz
    have hi := in_word h' hw w.length (Nat.le_refl _)
    have hne : 0 < w.length := by
      have := Bool.and_eq_true_iff.1 hw
      cases w with
      | nil => simp at this
      | cons a b => simp
    have hd : digS s (pre.length + w.length) = 32 := by
      rw [dig_at h' w.length (by simp), List.getElem_append_right (Nat.le_refl _)]
      simp
    have he : wst s (pre.length + w.length + 1) = (pre.length + w.length + 1, (wst s pre.length).2 ++ [(pre.length, pre.length + w.length)]) := by
      rw [wst_end (by rw [hd]; simp [blankB]), hi, if_pos (by rw [h1]; omega), h1]
    have hl : (pre ++ w ++ [32]).length = pre.length + w.length + 1 := by simp; omega
    have ih := words_of (v :: r) (pre ++ w ++ [32]) (by simp) (fun x hx => hW x (by simp at hx ⊢; exact .inr hx)) (by rw [h']; simp) (by rw [hl, he])
    rw [ih, hl, he]
    simp [offs]
theorem extract_at {s : ByteArray} {pre w tl : List UInt8} (h : s.data.toList = pre ++ (w ++ tl)) : s.extract pre.length (pre.length + w.length) = piece w := by
  have e : s = ⟨(pre ++ (w ++ tl)).toArray⟩ := by
    cases s with
    | mk d => congr 1; exact (Array.toList_inj.1 (by simpa using h))
  subst e
  apply ByteArray.ext
  simp [ByteArray.data_extract, piece]
theorem words_are {s : ByteArray} : ∀ (W : List (List UInt8)) (pre : List UInt8), s.data.toList = pre ++ joined W → (offs W pre.length).map (fun x => s.extract x.1 x.2) = W.map piece
  | [], pre, h => rfl
  | [w], pre, h => by
    have h' : s.data.toList = pre ++ (w ++ []) := by simpa [joined] using h
    simp [offs, extract_at h']
  | w :: v :: r, pre, h => by
    have h' : s.data.toList = pre ++ (w ++ 32 :: joined (v :: r)) := by simpa [joined] using h
    have hl : (pre ++ w ++ [32]).length = pre.length + w.length + 1 := by simp; omega
    have ih := words_are (v :: r) (pre ++ w ++ [32]) (by rw [h']; simp)
    rw [hl] at ih
    rw [offs, List.map_cons, List.map_cons, ih, extract_at h']
/-- The words of such a line. -/
theorem line_words (W : List (List UInt8)) (p : Int) (h0 : W ≠ []) (hW : ∀ w ∈ W, wordB w = true) : (wordsAt (piece (joined W)) p).map Prod.fst = W.map piece := by
  have h : (piece (joined W)).data.toList = [] ++ joined W := by simp [piece]
  have h1 := words_of W [] h0 hW h rfl
  unfold wordsAt
  rw [h1, List.map_map]
  have := words_are W [] h
  simpa [wst, Function.comp_def] using this
theorem step_back (fin : Int) : ∀ (zs : List Int) (W : List Wd) (acc : List Int), W.map Prod.fst = zs.map (fun z => piece (lb z)) ++ [piece [48]] → (∀ z ∈ zs, litB 40 z = true) → acc.length + zs.length ≤ 12 → stepOf fin W false acc = .ok (acc ++ zs)
  | [], [], acc, h, _, _ => by simp at h
  | [], x :: r, acc, h, _, _ => by
    simp at h
    obtain ⟨h1, h2⟩ := h
    subst h2
    unfold stepOf
    rw [h1, zero_facts.1, if_neg (by simp), if_pos zero_facts.2]
    unfold stepOf
    simp
  | z :: zs, [], acc, h, _, _ => by simp at h
  | z :: zs, x :: r, acc, h, hz, hl => by
    simp only [List.map_cons, List.cons_append, List.cons.injEq] at h
    obtain ⟨h1, h2⟩ := h
    have hz1 := hz z (by simp)
    have hz0 : z ≠ 0 ∧ -40 ≤ z ∧ z ≤ 40 := of_decide_eq_true hz1
    obtain ⟨f1, f2, _⟩ := lit_facts hz1
    simp only [List.length_cons] at hl
    have ih := step_back fin zs r (acc ++ [z]) h2 (fun y hy => hz y (by simp [hy])) (by simp; omega)
    unfold stepOf
    rw [h1, f1, f2, if_neg (by simp), if_neg hz0.1, if_neg (by rw [hz1]; simp), if_neg (by omega), ih]
    simp
/- A step's line. -/
def wsOf (s : Bool × List Int) : List (List UInt8) := (if s.1 then [[100]] else []) ++ (s.2.map lb ++ [[48]])
def sb (s : Bool × List Int) : List UInt8 := (if s.1 then [100, 32] else []) ++ (s.2.flatMap (fun z => lb z ++ [32]) ++ [48])
theorem joined_cons {w : List UInt8} {r : List (List UInt8)} (h : r ≠ []) : joined (w :: r) = w ++ 32 :: joined r := by
  cases r with
  | nil => exact absurd rfl h
  | cons v r => rfl
theorem joined_lits : ∀ zs : List Int, joined (zs.map lb ++ [[48]]) = zs.flatMap (fun z => lb z ++ [32]) ++ [48]
  | [] => rfl
  | z :: zs => by
    rw [List.map_cons, List.cons_append, joined_cons (by simp), joined_lits zs]
    simp
theorem joined_ws (s : Bool × List Int) : joined (wsOf s) = sb s := by
  obtain ⟨d, zs⟩ := s
  unfold wsOf sb
  cases d
  · simpa using joined_lits zs
  · simp only [if_true, List.singleton_append]
    rw [joined_cons (by simp), joined_lits zs]
    simp
def RightS (s : Bool × List Int) : Prop := s.2.length ≤ 12 ∧ ∀ z ∈ s.2, litB 40 z = true
theorem ws_words {s : Bool × List Int} (h : RightS s) : ∀ w ∈ wsOf s, wordB w = true := by
  intro w hw
  rcases List.mem_append.1 hw with hw | hw
  · split at hw
    · rw [List.mem_singleton.1 hw]; decide
    · simp at hw
  · rcases List.mem_append.1 hw with hw | hw
    · obtain ⟨z, hz, rfl⟩ := List.mem_map.1 hw
      exact (lit_facts (h.2 z hz)).2.2.1
    · rw [List.mem_singleton.1 hw]; decide
theorem first_word {W : List Wd} {l : List UInt8} {r : List (List UInt8)} (h : W.map Prod.fst = (l :: r).map piece) : 0 < W.length ∧ (W[0]?.getD ((⟨#[]⟩, 0) : Wd)).1.toList = l ∧ (W.drop 1).map Prod.fst = r.map piece := by
  cases W with
  | nil => simp at h
  | cons x t =>
    simp only [List.map_cons, List.cons.injEq] at h
    refine ⟨by simp, ?_, by simpa using h.2⟩
    show x.1.toList = l
    rw [h.1, toList_data]
    simp [piece]
theorem line_facts {s : Bool × List Int} (hs : RightS s) {W : List Wd} (h : W.map Prod.fst = (wsOf s).map piece) : spoke W = true ∧ isDel W = s.1 ∧ (restOf W).map Prod.fst = s.2.map (fun z => piece (lb z)) ++ [piece [48]] := by
  obtain ⟨d, zs⟩ := s
  unfold spoke restOf
  cases d
  · have key : ∃ l r, wsOf (false, zs) = l :: r ∧ l ≠ [100] ∧ l ≠ [99] := by
      cases zs with
      | nil => exact ⟨[48], [], rfl, by decide, by decide⟩
      | cons z zs =>
        obtain ⟨_, _, _, f1, f2, _⟩ := lit_facts (hs.2 z (by simp))
        exact ⟨lb z, zs.map lb ++ [[48]], rfl, f1, f2⟩
    obtain ⟨l, r, e, n1, n2⟩ := key
    rw [e] at h
    obtain ⟨f1, f2, f3⟩ := first_word h
    have hd : isDel W = false := by unfold isDel; rw [f2]; simpa using n1
    rw [f2, hd]
    refine ⟨by simp [f1, n2], rfl, ?_⟩
    rw [if_neg (by simp), h, ← e]
    simp [wsOf]
  · have e : wsOf (true, zs) = [100] :: (zs.map lb ++ [[48]]) := rfl
    rw [e] at h
    obtain ⟨f1, f2, f3⟩ := first_word h
    have hd : isDel W = true := by unfold isDel; rw [f2]; rfl
    rw [f2, hd]
    refine ⟨by simp [f1], rfl, ?_⟩
    rw [if_pos rfl, f3]
    simp
theorem cut_line : ∀ (L rest : List UInt8), (∀ x ∈ L, x ≠ 10) → cutL (L ++ 10 :: rest) = L :: cutL rest
  | [], rest, _ => by rw [List.nil_append, cutL, if_pos rfl]
  | b :: L, rest, h => by
    rw [List.cons_append, cutL, if_neg (h b (by simp)), cut_line L rest (fun x hx => h x (by simp [hx]))]
theorem word_no_nl {w : List UInt8} (h : wordB w = true) : ∀ x ∈ w, x ≠ 10 := fun x hx => by
  have := List.all_eq_true.1 (Bool.and_eq_true_iff.1 h).2 x hx
  simp at this
  exact this.2
theorem joined_no_nl : ∀ W : List (List UInt8), (∀ w ∈ W, wordB w = true) → ∀ x ∈ joined W, x ≠ 10
  | [], _, x, hx => by simp [joined] at hx
  | [w], h, x, hx => word_no_nl (h w (by simp)) x hx
  | w :: v :: r, h, x, hx => by
    rw [joined_cons (by simp)] at hx
    rcases List.mem_append.1 hx with hx | hx
    · exact word_no_nl (h w (by simp)) x hx
    · rcases List.mem_cons.1 hx with rfl | hx
      · decide
      · exact joined_no_nl (v :: r) (fun y hy => h y (by simp at hy ⊢; exact .inr hy)) x hx
def flat (ss : List (Bool × List Int)) : List UInt8 := ss.flatMap fun s => sb s ++ [10]
theorem none_spoke (p : Nat) : spoke (wordsAt (piece []) p) = false := by
  have : words (piece []) = [] := by decide +kernel
  unfold wordsAt
  rw [this]
  rfl
theorem read_lines : ∀ (ss : List (Bool × List Int)) (p : Nat) (acc : List (Bool × List Int)), (∀ s ∈ ss, RightS s) → acc.length + ss.length ≤ 200 → readS (sp (cutL (flat ss)) p) acc = .ok (acc ++ ss)
  | [], p, acc, _, _ => by
    have e : cutL (flat []) = [[]] := rfl
    rw [e, sp, none_spoke, if_neg (by simp)]
    simp [sp, readS]
  | s :: ss, p, acc, h, hl => by
    have hs := h s (by simp)
    have e : flat (s :: ss) = sb s ++ 10 :: flat ss := by simp [flat]
    have hno : ∀ x ∈ sb s, x ≠ 10 := by rw [← joined_ws]; exact joined_no_nl _ (ws_words hs)
    have hw : (wordsAt (piece (sb s)) p).map Prod.fst = (wsOf s).map piece := by rw [← joined_ws]; exact line_words _ _ (by simp [wsOf]) (ws_words hs)
    obtain ⟨f1, f2, f3⟩ := line_facts hs hw
    rw [e, cut_line _ _ hno, sp, f1, if_pos rfl, List.singleton_append, readS, step_back _ s.2 _ [] f3 hs.2 (by simpa using hs.1)]
    simp only [List.length_cons] at hl
    dsimp only
    rw [if_neg (by omega), f2, List.nil_append]
    rw [read_lines ss _ _ (fun x hx => h x (by simp [hx])) (by simp; omega)]
    simp
theorem flat_len : ∀ ss : List (Bool × List Int), (∀ s ∈ ss, RightS s) → (flat ss).length ≤ ss.length * 52
  | [], _ => by simp [flat]
  | s :: ss, h => by
    have ih := flat_len ss (fun x hx => h x (by simp [hx]))
    have hs := h s (by simp)
    have lits : ∀ zs : List Int, (∀ z ∈ zs, litB 40 z = true) → (zs.flatMap (fun z => lb z ++ [32])).length ≤ zs.length * 4 := by
      intro zs
      induction zs with
      | nil => intro _; simp
      | cons z zs ih2 =>
        intro hz
        have h1 := ih2 (fun y hy => hz y (by simp [hy]))
        have h2 := (lit_facts (hz z (by simp))).2.2.2.2.2
        simp only [List.flatMap_cons, List.length_append, List.length_cons, List.length_nil]
        omega
    have e : flat (s :: ss) = sb s ++ 10 :: flat ss := by simp [flat]
    have h3 := lits s.2 hs.2
    have h4 := hs.1
    have h5 : (sb s).length ≤ 51 := by
      unfold sb
      rw [List.length_append, List.length_append]
      have : (if s.1 then ([100, 32] : List UInt8) else []).length ≤ 2 := by split <;> simp
      simp only [List.length_cons, List.length_nil]
      omega
    rw [e, List.length_append, List.length_cons, List.length_cons]
    omega
/-- What was written is read. -/
theorem read_back (ss : List (Bool × List Int)) (h : ∀ s ∈ ss, RightS s) (hl : ss.length ≤ 200) : readR (piece (flat ss)) = .ok ss := by
  have hz : (piece (flat ss)).size = (flat ss).length := by simp [piece, ByteArray.size]
  have hf := flat_len ss h
  unfold readR
  rw [if_neg (by rw [hz]; omega)]
  have e : (piece (flat ss)).data.toList = flat ss := by simp [piece]
  rw [e, read_lines ss 0 [] h (by simpa using hl)]
  rfl
end Go.Proofs.YtcgpjlpggbgdaaaGreatDoor.readBack
