/- Trees of expressions whose rows lie each in a block of its own, and rows of them that grow by append; of no program; conditions: none. -/
import Derived.Test.YtaileckcflnbdaaTrees
import Derived.Maps.AppendAt
import Derived.Laws.OwnMore
namespace Go.Proofs.Ytaileckcflnbdaa.ownTree
open Go.RowKit Go.Deep base trees
set_option linter.unusedVariables false

/-- An expression that lies in a row: its kind, its number, its own row. -/
def CellE (w : World) (g i : Nat) (k n : Int) (f : Option Addr × Nat × Nat) : Prop := w.cell? ⟨g, i * 3, none⟩ = some (.int .i64 k) ∧ w.cell? ⟨g, i * 3 + 1, none⟩ = some (.int .i64 n) ∧ w.cell? ⟨g, i * 3 + 2, none⟩ = some (.slice f.1 f.2.1 f.2.2)
/-- A row of trees, each of whose rows lies in a block of its own among S, to be written. -/
def Ow (w : World) : Nat → T → Option Addr → Nat → (Nat → Prop) → Prop
  | 0, t, _, l, _ => ln t = l ∧ l = 0
  | d + 1, t, a, l, S => ln t = l ∧ l ≤ 1048576 ∧ (0 < l → ∃ (g : Nat) (f : Nat → Option Addr × Nat × Nat) (Sk : Nat → Nat → Prop), a = some ⟨g, 0, none⟩ ∧ S g ∧ (∀ x, w.frozen? ⟨g, x, none⟩ = false) ∧
      (∀ i b, i < l → Sk i b → S b ∧ b ≠ g) ∧ (∀ i j b, i < l → j < l → Sk i b → Sk j b → i = j) ∧ ∀ i, i < l → CellE w g i (kd (kid t i)) (nn (kid t i)) (f i) ∧ Ow w d (kid t i) (f i).1 (f i).2.1 (Sk i))

variable {w w' : World} {d l : Nat} {t : T} {a : Option Addr} {S S' : Nat → Prop}
theorem Ow.len (h : Ow w d t a l S) : ln t = l := by
  cases d with
  | zero => exact h.1
  | succ d => exact h.1
theorem Ow.zero (h : Ow w d t a l S) (e : d = 0) : ln t = 0 := by
  subst e; exact h.1.trans h.2
theorem Ow.most (h : Ow w d t a l S) : l ≤ 1048576 := by
  cases d with
  | zero => rw [h.2]; omega
  | succ d => exact h.2.1
theorem Ow.row (h : Ow w d t a l S) (hl : 0 < l) : 0 < d ∧ ∃ (g : Nat) (f : Nat → Option Addr × Nat × Nat) (Sk : Nat → Nat → Prop), a = some ⟨g, 0, none⟩ ∧ S g ∧ (∀ x, w.frozen? ⟨g, x, none⟩ = false) ∧
      (∀ i b, i < l → Sk i b → S b ∧ b ≠ g) ∧ (∀ i j b, i < l → j < l → Sk i b → Sk j b → i = j) ∧ ∀ i, i < l → CellE w g i (kd (kid t i)) (nn (kid t i)) (f i) ∧ Ow w (d - 1) (kid t i) (f i).1 (f i).2.1 (Sk i) := by
  cases d with
  | zero => have := h.2; omega
  | succ d => exact ⟨Nat.succ_pos _, h.2.2 hl⟩
theorem Ow.rd (h : Ow w d t a l S) : Rd S 1048576 w d t a l := by
  induction d generalizing t a l S with
  | zero => exact h
  | succ d ih =>
    refine ⟨h.1, h.2.1, fun i hi => ?_⟩
    obtain ⟨g, f, Sk, e, hg, _, hS, _, hc⟩ := h.2.2 (by omega)
    obtain ⟨⟨c0, c1, c2⟩, ho⟩ := hc i hi
    exact ⟨g, 0, e, hg, by simpa using c0, by simpa using c1, (f i).1, (f i).2.1, (f i).2.2, by simpa using c2, (ih ho).imp fun b hb => (hS i b hi hb).1⟩
theorem Ow.kept (h : Ow w d t a l S) (hk : ∀ b, S b → b < w.heap.size → w'.heap[b]? = w.heap[b]?) : Ow w' d t a l S := by
  induction d generalizing t a l S with
  | zero => exact h
  | succ d ih =>
    refine ⟨h.1, h.2.1, fun hl => ?_⟩
    obtain ⟨g, f, Sk, e, hg, hf, hS, hd, hc⟩ := h.2.2 hl
    have hlt : g < w.heap.size := World.block_lt_of_cell? _ _ (hc 0 hl).1.1
    have hb := hk g hg hlt
    refine ⟨g, f, Sk, e, hg, fun x => (World.frozen?_of_block (a := ⟨g, x, none⟩) hb).trans (hf x), hS, hd, fun i hi => ?_⟩
    obtain ⟨⟨c0, c1, c2⟩, ho⟩ := hc i hi
    exact ⟨⟨(World.cell?_of_block (a := ⟨g, _, none⟩) hb).trans c0, (World.cell?_of_block (a := ⟨g, _, none⟩) hb).trans c1, (World.cell?_of_block (a := ⟨g, _, none⟩) hb).trans c2⟩, ih ho fun b hb' hlt' => hk b (hS i b hi hb').1 hlt'⟩
theorem Ow.below (h : Ow w d t a l S) (hb : Below w.heap.size w w') : Ow w' d t a l S := h.kept fun b _ hlt => hb.block b hlt
theorem Ow.sub (h : Ow w d t a l S) (hs : ∀ b, S b → S' b) : Ow w d t a l S' := by
  cases d with
  | zero => exact h
  | succ d =>
    refine ⟨h.1, h.2.1, fun hl => ?_⟩
    obtain ⟨g, f, Sk, e, hg, hf, hS, hd, hc⟩ := h.2.2 hl
    exact ⟨g, f, Sk, e, hs g hg, hf, fun i b hi hb => ⟨hs b (hS i b hi hb).1, (hS i b hi hb).2⟩, hd, hc⟩
theorem Ow.more (h : Ow w d t a l S) {d' : Nat} (hd : d ≤ d') : Ow w d' t a l S := by
  induction d generalizing t a l S d' with
  | zero =>
    cases d' with
    | zero => exact h
    | succ d' => exact ⟨h.1, by rw [h.2]; omega, fun hl => by have := h.2; omega⟩
  | succ d ih =>
    cases d' with
    | zero => omega
    | succ d' =>
      refine ⟨h.1, h.2.1, fun hl => ?_⟩
      obtain ⟨g, f, Sk, e, hg, hf, hS, hdj, hc⟩ := h.2.2 hl
      exact ⟨g, f, Sk, e, hg, hf, hS, hdj, fun i hi => ⟨(hc i hi).1, ih (hc i hi).2 (by omega)⟩⟩
/-- What stands at the root counts for nothing. -/
theorem Ow.root (h : Ow w d t a l S) {t' : T} (hl : ln t' = ln t) (hk : ∀ i, i < ln t → kid t' i = kid t i) : Ow w d t' a l S := by
  cases d with
  | zero => exact ⟨hl.trans h.1, h.2⟩
  | succ d =>
    refine ⟨hl.trans h.1, h.2.1, fun hl' => ?_⟩
    obtain ⟨g, f, Sk, e, hg, hf, hS, hdj, hc⟩ := h.2.2 hl'
    refine ⟨g, f, Sk, e, hg, hf, hS, hdj, fun i hi => ?_⟩
    rw [hk i (by rw [h.1]; exact hi)]
    exact hc i hi
theorem Ow.none (w : World) (d : Nat) {t : T} (h : ln t = 0) (a : Option Addr) (S : Nat → Prop) : Ow w d t a 0 S := by
  cases d with
  | zero => exact ⟨h, rfl⟩
  | succ d => exact ⟨h, by omega, fun hl => by omega⟩

/-- The cells of a row of expressions. -/
def cellsOf (f : Nat → Option Addr × Nat × Nat) (t : T) : Nat → List Value
  | 0 => []
  | k + 1 => cellsOf f t k ++ [.int .i64 (kd (kid t k)), .int .i64 (nn (kid t k)), .slice (f k).1 (f k).2.1 (f k).2.2]
theorem cellsOf_length (f : Nat → Option Addr × Nat × Nat) (t : T) (k : Nat) : (cellsOf f t k).length = k * 3 := by
  induction k with
  | zero => rfl
  | succ k ih => simp only [cellsOf, List.length_append, ih, List.length_cons, List.length_nil]; omega
theorem cellsOf_congr {f f' : Nat → Option Addr × Nat × Nat} (t : T) {k : Nat} (h : ∀ i, i < k → f i = f' i) : cellsOf f t k = cellsOf f' t k := by
  induction k with
  | zero => rfl
  | succ k ih => simp only [cellsOf, ih fun i hi => h i (by omega), h k (by omega)]
theorem cellsOf_at (f : Nat → Option Addr × Nat × Nat) (t : T) {k i : Nat} (hi : i < k) : (cellsOf f t k)[i * 3]? = some (.int .i64 (kd (kid t i))) ∧ (cellsOf f t k)[i * 3 + 1]? = some (.int .i64 (nn (kid t i))) ∧ (cellsOf f t k)[i * 3 + 2]? = some (.slice (f i).1 (f i).2.1 (f i).2.2) := by
  induction k with
  | zero => omega
  | succ k ih =>
    have hlen := cellsOf_length f t k
    simp only [cellsOf]
    by_cases e : i = k
    · subst e
      refine ⟨?_, ?_, ?_⟩ <;> rw [List.getElem?_append_right (by omega), hlen]
      · simp
      · simp [Nat.add_sub_cancel_left]
      · simp [Nat.add_sub_cancel_left]
    · obtain ⟨h0, h1, h2⟩ := ih (by omega)
      refine ⟨?_, ?_, ?_⟩ <;> rw [List.getElem?_append_left (by omega)]
      · exact h0
      · exact h1
      · exact h2

/-- A row of expressions that grows: each lies between two marks of its own, the row in none of them. -/
def Grow (w : World) (B : Nat) (v : Value) (k d : Nat) (t : T) : Prop := ∃ (f : Nat → Option Addr × Nat × Nat) (lo hi : Nat → Nat), w.ownsRow B 25 3 v k (cellsOf f t k) ∧
    (∀ i, i < k → B ≤ lo i ∧ hi i ≤ w.heap.size ∧ Ow w (d - 1) (kid t i) (f i).1 (f i).2.1 (fun b => lo i ≤ b ∧ b < hi i) ∧ ∀ g, v.ownBlock = some g → ¬ (lo i ≤ g ∧ g < hi i)) ∧ ∀ i j, i < j → j < k → hi i ≤ lo j
theorem Grow.nil (w : World) (B d : Nat) (t : T) : Grow w B (.slice none 0 0) 0 d t :=
  ⟨fun _ => (none, 0, 0), fun _ => 0, fun _ => 0, World.ownsRow_nil w B 25 3, fun i hi => by omega, fun i j _ hj => by omega⟩
variable {B k : Nat} {v : Value}
theorem owns_kept {n : Nat} {xs : List Value} (h : w.ownsRow B 25 3 v n xs) (hk : ∀ g, v.ownBlock = some g → w'.heap[g]? = w.heap[g]?) : w'.ownsRow B 25 3 v n xs := by
  refine ⟨h.1, h.2.imp id fun ⟨g, cap, cur, e, hb, hh, h1, h2, h3, h4⟩ => ⟨g, cap, cur, e, hb, ?_, h1, h2, h3, h4⟩⟩
  rw [hk g (by rw [e]; rfl)]; exact hh
theorem Grow.below (h : Grow w B v k d t) (hb : Below w.heap.size w w') : Grow w' B v k d t := by
  obtain ⟨f, lo, hi, ho, hc, hlt⟩ := h
  exact ⟨f, lo, hi, owns_kept ho fun g e => hb.block g (World.ownsRow.lt ho g e).2, fun i hi => ⟨(hc i hi).1, Nat.le_trans (hc i hi).2.1 hb.size, (hc i hi).2.2.1.below hb, (hc i hi).2.2.2⟩, hlt⟩
/-- What holds of a grown row's cells ahead of the append that makes it longer. -/
theorem Grow.owns (h : Grow w B v k d t) : ∃ xs, w.ownsRow B 25 3 v k xs := by
  obtain ⟨f, _, _, ho, _⟩ := h
  exact ⟨_, ho⟩
/-- One more. W is the world ahead of the call that made the new one. -/
theorem Grow.next {W w1 w2 : World} {v' : Value} {a' : Option Addr} {l' c' : Nat} {xs : List Value} (h : Grow W B v k d t) (hB : B ≤ W.heap.size) (hb : Below W.heap.size W w1) (ho : Ow w1 (d - 1) (kid t k) a' l' (fun b => W.heap.size ≤ b ∧ b < w1.heap.size))
    (hx : w1.ownsRow B 25 3 v k xs)
    (hv : w2.ownsRow B 25 3 v' (k + 1) (xs ++ [.int .i64 (kd (kid t k)), .int .i64 (nn (kid t k)), .slice a' l' c'])) (hg : w1.grownBy w2 v.ownBlock) (hat : v'.ownBlock = v.ownBlock ∨ v'.ownBlock = some w1.heap.size) : Grow w2 B v' (k + 1) d t := by
  obtain ⟨f, lo, hi, ho0, hc, hlt⟩ := h
  have ho1 : w1.ownsRow B 25 3 v k (cellsOf f t k) := owns_kept ho0 fun g e => hb.block g (World.ownsRow.lt ho0 g e).2
  have exs : xs = cellsOf f t k := by
    rcases hx.2 with ⟨e1, e2⟩ | ⟨g, cap, cur, e, _, hh, _, _, _, h4⟩
    · subst e2
      have h0 := hx.1
      have h1 := ho1.1
      rw [Nat.zero_mul] at h0 h1
      rw [List.eq_nil_of_length_eq_zero h0, List.eq_nil_of_length_eq_zero h1]
    · rcases ho1.2 with ⟨e1, _⟩ | ⟨g', cap', cur', e', _, hh', _, _, _, h4'⟩
      · rw [e] at e1; cases e1
      · rw [e] at e'
        cases e'
        rw [hh] at hh'
        cases hh'
        rw [← h4, ← h4']
  subst exs
  have hrow : ∀ g, v.ownBlock = some g → g < W.heap.size := fun g e => (World.ownsRow.lt ho0 g e).2
  refine ⟨fun i => if i = k then (a', l', c') else f i, fun i => if i = k then W.heap.size else lo i, fun i => if i = k then w1.heap.size else hi i, ?_, fun i hik => ?_, fun i j hij hj => ?_⟩
  · have e1 : cellsOf (fun i => if i = k then (a', l', c') else f i) t (k + 1) = cellsOf f t k ++ [.int .i64 (kd (kid t k)), .int .i64 (nn (kid t k)), .slice a' l' c'] := by
      simp only [cellsOf, if_true]
      rw [cellsOf_congr t (f' := f) (fun i hi => if_neg (by omega))]
    rw [e1]; exact hv
  · by_cases e : i = k
    · subst e
      simp only [if_true]
      refine ⟨hB, hg.size, ho.kept fun b hb' hlt' => hg.block b hlt' fun e => ?_, fun g e1 => ?_⟩
      · have := hrow b e.symm; omega
      · rcases hat with h' | h'
        · have := hrow g (h' ▸ e1); omega
        · rw [h'] at e1; injection e1 with e1; omega
    · simp only [if_neg e]
      obtain ⟨h1, h2, h3, h4⟩ := hc i (by omega)
      refine ⟨h1, Nat.le_trans h2 (Nat.le_trans hb.size hg.size), (h3.below hb).kept fun b hb' hlt' => hg.block b hlt' fun e' => ?_, fun g e1 => ?_⟩
      · exact h4 b e'.symm hb'
      · rcases hat with h' | h'
        · exact h4 g (h' ▸ e1)
        · rw [h'] at e1; injection e1 with e1
          have := hb.size; omega
  · by_cases e : j = k
    · subst e
      simp only [if_neg (show i ≠ j by omega), if_true]
      exact (hc i hij).2.1
    · simp only [if_neg (show i ≠ k by omega), if_neg e]
      exact hlt i j hij (by omega)
theorem Grow.done (h : Grow w B v l d t) (hl : ln t = l) (hz : d = 0 → ln t = 0) (hm : l ≤ 1048576) : ∃ a c, v = .slice a l c ∧ Ow w d t a l (fun b => B ≤ b ∧ b < w.heap.size) := by
  obtain ⟨f, lo, hi, ho, hc, hlt⟩ := h
  rcases ho.2 with ⟨e1, e2⟩ | ⟨g, cap, cur, e, hb, hh, h1, h2, h3, h4⟩
  · subst e2
    exact ⟨_, _, e1, Ow.none _ _ hl _ _⟩
  · subst e
    refine ⟨_, _, rfl, ?_⟩
    cases d with
    | zero => exact ⟨hl, by rw [← hl]; exact hz rfl⟩
    | succ d =>
      refine ⟨hl, hm, fun hl0 => ⟨g, f, fun i b => lo i ≤ b ∧ b < hi i, rfl, ⟨hb, (World.ownsRow.lt ho g rfl).2⟩, fun x => World.ownsRow.frozenAt ho x, fun i b hi' hb' => ?_, fun i j b hi' hj' h1 h2 => ?_, fun i hi' => ?_⟩⟩
      · obtain ⟨q1, q2, q3, q4⟩ := hc i hi'
        exact ⟨⟨by omega, by omega⟩, fun e => q4 g rfl (e ▸ hb')⟩
      · rcases Nat.lt_trichotomy i j with h | h | h
        · have := hlt i j h hj'; omega
        · exact h
        · have := hlt j i h hi'; omega
      · obtain ⟨q1, q2, q3, q4⟩ := hc i hi'
        obtain ⟨c0, c1, c2⟩ := cellsOf_at f t hi'
        refine ⟨⟨(World.ownsRow.cellAt ho _ (by omega)).trans c0, (World.ownsRow.cellAt ho _ (by omega)).trans c1, (World.ownsRow.cellAt ho _ (by omega)).trans c2⟩, ?_⟩
        simpa using q3
end Go.Proofs.Ytaileckcflnbdaa.ownTree
