/- A proof's text, of the specification (ReadProof); conditions: lengths that fit. -/
import Derived.Test.YtcgpjlpggbgdaaaGreatDoorLineSpec
namespace Go.Proofs.YtcgpjlpggbgdaaaGreatDoor.readSpecP
open Go.RowKit Go.Deep base numbers words cuts stepRead readSem lineSpec
set_option linter.unusedVariables false

/-- A step in memory: whether it takes away, the value of its clause, and that clause. -/
abbrev Pt := Bool × Value × List Int
def pcs (p : Pt) : List Value := [.bool p.1, p.2.1]
/-- A row of steps that a call owns, each clause with it. -/
structure OwnSteps (B : Nat) (w : World) (v : Value) (ps : List Pt) : Prop where
  outer : w.ownsRow B 53 2 v ps.length (ps.flatMap pcs)
  inner : ∀ p ∈ ps, w.ownsRow B 3 1 p.2.1 p.2.2.length (p.2.2.map (Value.int .i64))
/-- No two clauses lie in one block. -/
def Lone (ps : List Pt) : Prop := ps.Pairwise fun p q => ∀ g, p.2.1.ownBlock = some g → q.2.1.ownBlock = some g → False
def strip (p : Pt) : Bool × List Int := (p.1, p.2.2)
theorem OwnSteps.below {B : Nat} {w w1 : World} {v : Value} {ps : List Pt} (h : OwnSteps B w v ps) (hb : Below w.heap.size w w1) : OwnSteps B w1 v ps := ⟨own_pass h.outer hb, fun p hp => own_pass (h.inner p hp) hb⟩
theorem own_base {B B' n : Nat} {w : World} {v : Value} {t : TypeId} {s : Nat} {xs : List Value} (h : w.ownsRow B t s v n xs) (hB : B' ≤ B) : w.ownsRow B' t s v n xs := by
  obtain ⟨h1, h2⟩ := h
  refine ⟨h1, ?_⟩
  rcases h2 with h2 | ⟨g, cap, cur, e, hg, hn⟩
  · exact .inl h2
  · exact .inr ⟨g, cap, cur, e, Nat.le_trans hB hg, hn⟩
theorem OwnSteps.mono {B B' : Nat} {w : World} {v : Value} {ps : List Pt} (h : OwnSteps B w v ps) (hB : B' ≤ B) : OwnSteps B' w v ps := ⟨own_base h.outer hB, fun p hp => own_base (h.inner p hp) hB⟩
/-- What is read: the code, the place, the steps. -/
def codeR : Except (Int × Int) (List (Bool × List Int)) → Int
  | .error x => x.1
  | .ok _ => 0
def placeR : Except (Int × Int) (List (Bool × List Int)) → Int
  | .error x => x.2
  | .ok _ => 0
def stepsR : Except (Int × Int) (List (Bool × List Int)) → List (Bool × List Int)
  | .error _ => []
  | .ok ss => ss
def readR (s : ByteArray) : Except (Int × Int) (List (Bool × List Int)) := if 65536 < s.size then .error (2, 0) else readS (sp (cutL s.data.toList) 0) []
/-- A row of words that a call owns, by its cells. -/
theorem row_words {B : Nat} {w : World} {v : Value} {t : TypeId} {s : ByteArray} {place : Int} (h : w.ownsRow B t 2 v (words s).length (wordCells s place (words s))) : ∃ a c, v = .slice a (words s).length c ∧ WordRow w a (words s).length (wordsAt s place) ∧ (words s).length ≤ c ∧ c ≤ maxLen := by
  obtain ⟨h1, h2⟩ := h
  have hl : (wordsAt s place).length = (words s).length := by simp [wordsAt]
  rcases h2 with ⟨rfl, h0⟩ | ⟨g, cap, cur, rfl, hb, hh, hc, hm, hz, ht⟩
  · rw [h0] at hl ⊢
    exact ⟨none, 0, rfl, ⟨hl, by unfold maxLen; omega, fun i hi => absurd hi (Nat.not_lt_zero _)⟩, Nat.le_refl _, by unfold maxLen; omega⟩
  · refine ⟨_, cap, rfl, ⟨hl, Nat.le_trans hc hm, fun i hi => ⟨g, 0, rfl, ?_, ?_⟩⟩, hc, hm⟩
    all_goals
      have hx : (wordsAt s place)[i]? = some ((s.extract ((words s)[i]).1 ((words s)[i]).2, place + ((words s)[i]).1)) := by
        unfold wordsAt
        rw [List.getElem?_map, List.getElem?_eq_getElem hi]; rfl
      rw [hx]
      have key : ∀ j, j < 2 → (cur.toList.take ((words s).length * 2))[i * 2 + j]? = ([.string (s.extract ((words s)[i]).1 ((words s)[i]).2), .int .i64 (place + ((words s)[i]).1)] : List Value)[j]? := fun j hj => by
        rw [ht]
        have gen : ∀ (l : List (Nat × Nat)) (i : Nat) (h : i < l.length), (wordCells s place l)[i * 2 + j]? = ([.string (s.extract (l[i]).1 (l[i]).2), .int .i64 (place + (l[i]).1)] : List Value)[j]? := by
          intro l
          induction l with
          | nil => intro i h; exact absurd h (Nat.not_lt_zero _)
          | cons a l ih =>
            intro i h
            simp only [wordCells, List.flatMap_cons]
            match i with
            | 0 =>
              rw [List.getElem?_append_left (by simp; omega)]
              simp
            | i + 1 =>
              rw [List.getElem?_append_right (by simp; omega), show (i + 1) * 2 + j - [Value.string (s.extract a.1 a.2), Value.int .i64 (place + a.1)].length = i * 2 + j by simp; omega]
              exact ih i (by simp at h; omega)
        exact gen (words s) i hi
    · have k0 := key 0 (by omega)
      rw [List.getElem?_take_of_lt (by omega)] at k0
      simp only [World.cell?, hh]
      simpa using k0
    · have k1 := key 1 (by omega)
      rw [List.getElem?_take_of_lt (by omega)] at k1
      simp only [World.cell?, hh]
      simpa using k1
theorem words_sizes (s : ByteArray) (place : Int) (h : s.size ≤ 1048576) : ∀ x ∈ wordsAt s place, x.1.size ≤ 1048576 := by
  intro x hx
  obtain ⟨y, hy, rfl⟩ := List.mem_map.1 hx
  show (s.extract y.1 y.2).size ≤ _
  rw [ByteArray.size_extract]
  omega
theorem line_cell {B : Nat} {w : World} {v : Value} {L : List (List UInt8)} (h : w.ownsRow B 9 1 v L.length (lineCells L)) : ∃ a c, v = .slice a L.length c ∧ ∀ i, i < L.length → ∃ b, a = some ⟨b, 0, none⟩ ∧ b < w.heap.size ∧ w.cell? ⟨b, i, none⟩ = some (.string (piece (L[i]?.getD []))) := by
  obtain ⟨h1, h2⟩ := h
  rcases h2 with ⟨rfl, h0⟩ | ⟨g, cap, cur, rfl, hb, hh, hc, hm, hz, ht⟩
  · rw [h0]; exact ⟨none, 0, rfl, fun i hi => absurd hi (Nat.not_lt_zero _)⟩
  · refine ⟨_, cap, rfl, fun i hi => ⟨g, rfl, (Array.getElem?_eq_some_iff.1 hh).1, ?_⟩⟩
    have h7 : (lineCells L)[i]? = some (.string (piece (L[i]?.getD []))) := by
      unfold lineCells
      rw [List.getElem?_map, List.getElem?_eq_getElem hi]; rfl
    rw [← ht, List.getElem?_take_of_lt (by omega)] at h7
    simp only [World.cell?, hh]
    simpa using h7

theorem results_three {fn : Func} {p u v : Tmp} (h : fn.results = #[.tmp p, .tmp u, .tmp v]) (tmps : Array Value) (P : Program) (w : World) :
    (results fn tmps).run P w = .ok (.tuple #[tmps.getD p undef, tmps.getD u undef, tmps.getD v undef]) w := by
  simp only [results, h]
  simp
theorem cut_sum : ∀ (n : Nat) (l : List UInt8), l.length ≤ n → ((cutL l).map fun x => x.length + 1).sum = l.length + 1 := by
  intro n
  induction n with
  | zero =>
    intro l hl
    have e0 : l = [] := List.length_eq_zero_iff.1 (by omega)
    subst e0
    rfl
  | succ n ih =>
    intro l hl
    obtain ⟨L, hn, h⟩ := cut_parts l
    rcases h with ⟨rfl, hc⟩ | ⟨rest, rfl, hc⟩
    · rw [hc]; simp
    · rw [hc, List.map_cons, List.sum_cons, ih rest (by simp at hl; omega)]
      simp
      omega
theorem len_le_sum : ∀ L : List (List UInt8), L.length ≤ (L.map fun x => x.length + 1).sum
  | [] => Nat.le_refl _
  | a :: L => by
    have := len_le_sum L
    simp only [List.length_cons, List.map_cons, List.sum_cons]
    omega
theorem step_code (fin : Int) : ∀ (W : List Wd) (ended : Bool) (acc : List Int) x, stepOf fin W ended acc = .error x → x.1 ≠ 0
  | [], ended, acc, x, h => by
    unfold stepOf at h
    split at h
    · cases h
    · cases h; show (4 : Int) ≠ 0; decide
  | y :: r, ended, acc, x, h => by
    unfold stepOf at h
    split at h
    · cases h; show (4 : Int) ≠ 0; decide
    · split at h
      · exact step_code fin r _ _ x h
      · split at h
        · cases h; show (5 : Int) ≠ 0; decide
        · split at h
          · cases h; show (11 : Int) ≠ 0; decide
          · exact step_code fin r _ _ x h
theorem drop_line {L : List (List UInt8)} {k : Nat} (h : k < L.length) : L.drop k = L[k]?.getD [] :: L.drop (k + 1) := by
  rw [List.drop_eq_getElem_cons h, List.getElem?_eq_getElem h]; rfl
theorem steps_add {B : Nat} {w w3 : World} {v v' : Value} {ps : List Pt} {p : Pt} (h : OwnSteps B w v ps) (hx : w.ownsRow B 3 1 p.2.1 p.2.2.length (p.2.2.map (Value.int .i64))) (ho : w3.ownsRow B 53 2 v' (ps.length + 1) (ps.flatMap pcs ++ pcs p)) (hg : w.grownBy w3 v.ownBlock) : OwnSteps B w3 v' (ps ++ [p]) := by
  have keepI : ∀ q : Pt, w.ownsRow B 3 1 q.2.1 q.2.2.length (q.2.2.map (Value.int .i64)) → w3.ownsRow B 3 1 q.2.1 q.2.2.length (q.2.2.map (Value.int .i64)) := fun q hq => by
    obtain ⟨h1, h2⟩ := hq
    refine ⟨h1, ?_⟩
    rcases h2 with h2 | ⟨g, cap, cur, e, hb, hh, hn⟩
    · exact .inl h2
    · refine .inr ⟨g, cap, cur, e, hb, ?_, hn⟩
      rw [hg.block g (Array.getElem?_eq_some_iff.1 hh).1 (fun e9 => by
        rcases h.outer.2 with ⟨ev, _⟩ | ⟨g', cap', cur', ev, hb', hh', hn'⟩
        · rw [ev] at e9; cases e9
        · rw [ev] at e9
          injection e9 with e9
          subst e9
          rw [hh'] at hh
          simp only [Option.some.injEq, Obj.cells.injEq] at hh
          exact absurd hh.2.1 (by decide))]
      exact hh
  refine ⟨?_, fun q hq => ?_⟩
  · rw [List.length_append, List.flatMap_append]
    simpa using ho
  · rcases List.mem_append.1 hq with hq | hq
    · exact keepI q (h.inner q hq)
    · simp at hq; subst hq; exact keepI _ hx
theorem lone_add {ps : List Pt} {p : Pt} {M : Nat} (hl : Lone ps) (h1 : ∀ q ∈ ps, ∀ g, q.2.1.ownBlock = some g → g < M) (h2 : ∀ g, p.2.1.ownBlock = some g → M ≤ g) : Lone (ps ++ [p]) := by
  unfold Lone
  rw [List.pairwise_append]
  refine ⟨hl, List.pairwise_singleton _ _, fun a ha b hb g e1 e2 => ?_⟩
  simp at hb
  subst hb
  have := h1 a ha g e1
  have := h2 g e2
  omega
theorem step_info : (Tryz.prog.info? 53).map (fun i => (i.zero, i.size, i.bytes)) = some (some (.agg #[.bool false, .slice none 0 0]), 2, 32) := by kernel_rfl

end Go.Proofs.YtcgpjlpggbgdaaaGreatDoor.readSpecP
