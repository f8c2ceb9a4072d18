/- A formula's text, read: the words of its lines and the clauses that they tell; of no program; conditions: a right formula of few clauses. -/
import Derived.Test.YtdphkbpjbcnbpaaDoorReadBack
import Derived.Test.YtdphkbpjbcnbpaaDoorTextImpl
namespace Go.Proofs.YtdphkbpjbcnbpaaDoor.readDim
open Go.RowKit Go.Deep base numbers words cuts stepRead readSem readBack
set_option linter.unusedVariables false

/-- The clauses of numbers that are read one after another. -/
def rdC (vars : Int) (count : Nat) : List Int → List (List Int) → List Int → Option (List (List Int))
  | [], acc, _ => if acc.length < count then none else some acc
  | z :: r, acc, cur => if acc.length = count then none else if z = 0 then rdC vars count r (acc ++ [cur]) [] else if litB vars z = false then none else if cur.length = 12 then none else rdC vars count r acc (cur ++ [z])
theorem rd_lits {vars : Int} {count : Nat} {rest : List Int} {acc : List (List Int)} (hl : acc.length < count) : ∀ (zs cur : List Int), (∀ z ∈ zs, litB vars z = true) → cur.length + zs.length ≤ 12 → rdC vars count (zs ++ 0 :: rest) acc cur = rdC vars count rest (acc ++ [cur ++ zs]) []
  | [], cur, _, _ => by
    rw [List.nil_append, rdC, if_neg (by omega), if_pos rfl, List.append_nil]
  | z :: zs, cur, h, hc => by
    have hz := h z (by simp)
    have hz0 : z ≠ 0 := (of_decide_eq_true hz : z ≠ 0 ∧ -vars ≤ z ∧ z ≤ vars).1
    simp only [List.length_cons] at hc
    rw [List.cons_append, rdC, if_neg (by omega), if_neg hz0, if_neg (by rw [hz]; simp), if_neg (by omega), rd_lits hl zs (cur ++ [z]) (fun y hy => h y (by simp [hy])) (by simp; omega)]
    simp
theorem rd_all {vars : Int} {count : Nat} : ∀ (L acc : List (List Int)), (∀ zs ∈ L, zs.length ≤ 12 ∧ ∀ z ∈ zs, litB vars z = true) → acc.length + L.length = count → rdC vars count (L.flatMap fun zs => zs ++ [0]) acc [] = some (acc ++ L)
  | [], acc, _, hc => by
    simp only [List.length_nil, Nat.add_zero] at hc
    rw [List.flatMap_nil, rdC, if_neg (by omega), List.append_nil]
  | zs :: L, acc, h, hc => by
    obtain ⟨h1, h2⟩ := h zs (by simp)
    simp only [List.length_cons] at hc
    have e : (zs :: L).flatMap (fun zs => zs ++ [0]) = zs ++ 0 :: L.flatMap fun zs => zs ++ [0] := by simp
    rw [e, rd_lits (by omega) zs [] h2 (by simpa using h1), rd_all L _ (fun y hy => h y (by simp [hy])) (by simp; omega)]
    simp
theorem itoa_lb {z : Int} (h0 : -40 ≤ z) (h1 : z ≤ 40) : Lib.itoa z = lb z := by
  unfold Lib.itoa lb
  rw [dec2_eq (by omega), dec2_eq (by omega)]
theorem flatMap_same {α β : Type} {f g : α → List β} : ∀ {l : List α}, (∀ x ∈ l, f x = g x) → l.flatMap f = l.flatMap g
  | [], _ => rfl
  | x :: l, h => by rw [List.flatMap_cons, List.flatMap_cons, h x (by simp), flatMap_same (fun y hy => h y (by simp [hy]))]
theorem line_eq {zs : List Int} (h : ∀ z ∈ zs, litB 40 z = true) : lines.lineBytes zs = sb (false, zs) ++ [10] := by
  have e : zs.flatMap lines.litBytes = zs.flatMap (fun z => lb z ++ [32]) := flatMap_same fun z hz => by
    unfold lines.litBytes
    rw [lb_eq (h z hz)]
  unfold lines.lineBytes sb
  rw [e]
  simp
theorem lines_eq {zss : List (List Int)} (h : ∀ zs ∈ zss, ∀ z ∈ zs, litB 40 z = true) : zss.flatMap lines.lineBytes = flat (zss.map fun zs => (false, zs)) := by
  unfold flat
  rw [List.flatMap_map]
  exact flatMap_same fun zs hz => line_eq (h zs hz)
theorem num_facts {z : Int} (h0 : 0 ≤ z) (h1 : z ≤ 40) : isNum (piece (lb z)) = true ∧ numS (piece (lb z)) = z ∧ wordB (lb z) = true := by
  by_cases hz : z = 0
  · subst hz
    exact ⟨zero_facts.1, zero_facts.2, by decide⟩
  · obtain ⟨a, b, c, _⟩ := lit_facts (z := z) (decide_eq_true ⟨hz, by omega, h1⟩)
    exact ⟨a, b, c⟩
theorem spoken_lines : ∀ (ss : List (Bool × List Int)) (p : Nat), (∀ s ∈ ss, RightS s) → ((sp (cutL (flat ss ++ [10])) p).map Prod.fst).flatten.map Prod.fst = ss.flatMap fun s => (wsOf s).map piece
  | [], p, _ => by
    have e : cutL (flat [] ++ [10]) = [[], []] := rfl
    rw [e, sp, none_spoke, if_neg (by simp), sp, none_spoke, if_neg (by simp)]
    simp [sp]
  | s :: ss, p, h => by
    have hs := h s (by simp)
    have e : flat (s :: ss) ++ [10] = sb s ++ 10 :: (flat ss ++ [10]) := by simp [flat]
    have hno : ∀ x ∈ sb s, x ≠ 10 := by rw [← joined_ws]; exact joined_no_nl _ (ws_words hs)
    have hw : (wordsAt (piece (sb s)) p).map Prod.fst = (wsOf s).map piece := by rw [← joined_ws]; exact line_words _ _ (by simp [wsOf]) (ws_words hs)
    obtain ⟨f1, f2, f3⟩ := line_facts hs hw
    have ih := spoken_lines ss (p + (sb s).length + 1) (fun x hx => h x (by simp [hx]))
    rw [e, cut_line _ _ hno, sp, f1, if_pos rfl, List.singleton_append]
    simp only [List.map_cons, List.flatten_cons, List.map_append, List.flatMap_cons, hw, ih]
def remark : List UInt8 := [99, 32, 97, 32, 114, 101, 109, 97, 114, 107]
def headWs (v n : Int) : List (List UInt8) := [[112], [99, 110, 102], lb v, lb n]
theorem head_joined (v n : Int) : joined (headWs v n) = [112, 32, 99, 110, 102, 32] ++ lb v ++ [32] ++ lb n := by
  unfold headWs
  rw [joined_cons (by simp), joined_cons (by simp), joined_cons (by simp)]
  simp [joined]
theorem head_eq {v : Int} {n : Nat} (h0 : 0 ≤ v) (h1 : v ≤ 40) (hn : n ≤ 40) : textImpl.headBytes v n = joined (headWs v n) ++ [10] := by
  rw [head_joined]
  unfold textImpl.headBytes
  rw [itoa_lb (by omega) h1, itoa_lb (by omega) (by omega)]
theorem remark_joined : remark = joined [[99], [97], [114, 101, 109, 97, 114, 107]] := by decide
theorem head_words {v n : Int} (h0 : 0 ≤ v) (h1 : v ≤ 40) (n0 : 0 ≤ n) (n1 : n ≤ 40) : ∀ w ∈ headWs v n, wordB w = true := by
  intro w hw
  simp only [headWs, List.mem_cons, List.not_mem_nil, or_false] at hw
  rcases hw with rfl | rfl | rfl | rfl
  · decide
  · decide
  · exact (num_facts h0 h1).2.2
  · exact (num_facts n0 n1).2.2
/-- The text that a law reads. -/
def txt (v : Int) (zss : List (List Int)) : List UInt8 := remark ++ 10 :: (textImpl.textBytes v zss ++ [10])
theorem read_words {v : Int} {zss : List (List Int)} (h0 : 0 ≤ v) (h1 : v ≤ 40) (hn : zss.length ≤ 40) (hz : ∀ zs ∈ zss, zs.length ≤ 12 ∧ ∀ z ∈ zs, litB v z = true) :
    ∃ H rest, (sp (cutL (txt v zss)) 0).map Prod.fst = H :: rest ∧ H.map Prod.fst = (headWs v zss.length).map piece ∧ (∀ x ∈ rest.flatten, isNum x.1 = true) ∧ (rest.flatten.map fun x => numS x.1) = zss.flatMap (fun zs => zs ++ [0]) := by
  have hl : ∀ {z : Int}, litB v z = true → litB 40 z = true := fun {z} hz => by
    have := (of_decide_eq_true hz : z ≠ 0 ∧ -v ≤ z ∧ z ≤ v)
    exact decide_eq_true ⟨this.1, by omega, by omega⟩
  have hss : ∀ s ∈ zss.map (fun zs => (false, zs)), RightS s := fun s hs => by
    obtain ⟨zs, hzs, rfl⟩ := List.mem_map.1 hs
    exact ⟨(hz zs hzs).1, fun z hz' => hl ((hz zs hzs).2 z hz')⟩
  have e1 : txt v zss = remark ++ 10 :: (joined (headWs v zss.length) ++ 10 :: (flat (zss.map fun zs => (false, zs)) ++ [10])) := by
    unfold txt textImpl.textBytes
    rw [head_eq h0 h1 hn, lines_eq (fun zs hzs z hz' => hl ((hz zs hzs).2 z hz'))]
    simp
  have hr : ∀ w ∈ ([[99], [97], [114, 101, 109, 97, 114, 107]] : List (List UInt8)), wordB w = true := by decide
  have c1 := cut_line remark (joined (headWs v zss.length) ++ 10 :: (flat (zss.map fun zs => (false, zs)) ++ [10])) (by decide)
  have hh := head_words h0 h1 (n := (zss.length : Int)) (by omega) (by omega)
  have c2 := cut_line (joined (headWs v zss.length)) (flat (zss.map fun zs => (false, zs)) ++ [10]) (joined_no_nl _ hh)
  have w1 : (wordsAt (piece remark) ((0 : Nat) : Int)).map Prod.fst = ([[99], [97], [114, 101, 109, 97, 114, 107]] : List (List UInt8)).map piece := by rw [remark_joined]; exact line_words _ _ (by simp) hr
  have s1 : spoke (wordsAt (piece remark) ((0 : Nat) : Int)) = false := by
    obtain ⟨_, f, _⟩ := first_word w1
    unfold spoke
    rw [f]
    simp
  have w2 : ∀ p : Nat, (wordsAt (piece (joined (headWs v zss.length))) (p : Int)).map Prod.fst = (headWs v zss.length).map piece := fun p => line_words _ _ (by simp [headWs]) hh
  have s2 : ∀ p : Nat, spoke (wordsAt (piece (joined (headWs v zss.length))) (p : Int)) = true := fun p => by
    obtain ⟨f0, f, _⟩ := first_word (w2 p)
    unfold spoke
    rw [f, decide_eq_true f0]
    rfl
  rw [e1, c1, sp, s1, if_neg (by simp), List.nil_append, c2, sp, s2, if_pos rfl, List.singleton_append, List.map_cons]
  refine ⟨_, _, rfl, w2 _, ?_⟩
  have hsp := spoken_lines (zss.map fun zs => (false, zs)) (0 + remark.length + 1 + (joined (headWs v zss.length)).length + 1) hss
  generalize ((sp (cutL (flat (zss.map fun zs => (false, zs)) ++ [10])) (0 + remark.length + 1 + (joined (headWs v zss.length)).length + 1)).map Prod.fst).flatten = R at *
  rw [List.flatMap_map] at hsp
  have e2 : zss.flatMap (fun zs => (wsOf (false, zs)).map piece) = zss.flatMap (fun zs => zs.map (fun z => piece (lb z)) ++ [piece [48]]) := flatMap_same fun zs _ => by simp [wsOf]
  rw [e2] at hsp
  refine ⟨fun x hx => ?_, ?_⟩
  · have : x.1 ∈ R.map Prod.fst := List.mem_map_of_mem hx
    rw [hsp] at this
    obtain ⟨zs, hzs, hm⟩ := List.mem_flatMap.1 this
    rcases List.mem_append.1 hm with hm | hm
    · obtain ⟨z, hz1, hz2⟩ := List.mem_map.1 hm
      rw [← hz2]
      exact (lit_facts (hl ((hz zs hzs).2 z hz1))).1
    · rw [List.mem_singleton] at hm
      rw [hm]
      exact zero_facts.1
  · have e3 : (R.map fun x => numS x.1) = (R.map Prod.fst).map numS := by rw [List.map_map]; rfl
    rw [e3, hsp, List.map_flatMap]
    refine flatMap_same fun zs hzs => ?_
    rw [List.map_append, List.map_map]
    congr 1
    · have : ∀ z ∈ zs, (numS ∘ fun z => piece (lb z)) z = z := fun z hz' => (lit_facts (hl ((hz zs hzs).2 z hz'))).2.1
      rw [List.map_congr_left this]
      exact List.map_id _
    · simp [zero_facts.2]
theorem txt_len {v : Int} {zss : List (List Int)} (h0 : 0 ≤ v) (h1 : v ≤ 40) (hn : zss.length ≤ 40) (hz : ∀ zs ∈ zss, zs.length ≤ 12 ∧ ∀ z ∈ zs, litB 40 z = true) : (txt v zss).length ≤ 65536 := by
  have h2 := flat_len (zss.map fun zs => (false, zs)) (fun s hs => by
    obtain ⟨zs, hzs, rfl⟩ := List.mem_map.1 hs
    exact hz zs hzs)
  rw [← lines_eq (fun zs hzs => (hz zs hzs).2), List.length_map] at h2
  have h3 := lines.itoa_len v (by omega) (by omega)
  have h4 := lines.itoa_len (zss.length : Int) (by omega) (by omega)
  unfold txt textImpl.textBytes textImpl.headBytes remark
  simp only [List.length_append, List.length_cons, List.length_nil]
  omega
end Go.Proofs.YtdphkbpjbcnbpaaDoor.readDim
