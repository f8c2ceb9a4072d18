/- A row of expressions that grows by append, whose trees may lie anywhere but in it; of no program but its types; conditions: none. -/
import Derived.Test.YtaileckcflnbdaaOwnTree
namespace Go.Proofs.Ytaileckcflnbdaa.growRow
open Go.RowKit Go.Deep Go base trees ownTree
set_option linter.unusedVariables false

theorem rd_leaf (q : Nat → Prop) (w : World) (D : Nat) {t : T} (h : ln t = 0) (a : Option Addr) : Rd q 1048576 w D t a 0 := by
  cases D with
  | zero => exact ⟨h, rfl⟩
  | succ D => exact ⟨h, by omega, fun i hi => by omega⟩
/-- A row that grows, of expressions which may lie anywhere but in it. -/
def GrowR (w : World) (B : Nat) (Q : Nat → Prop) (v : Value) (k D : Nat) (t : T) : Prop := ∃ f : Nat → Option Addr × Nat × Nat, w.ownsRow B 25 3 v k (cellsOf f t k) ∧
    ∀ i, i < k → Rd (fun b => (Q b ∧ b < B) ∨ (B ≤ b ∧ b < w.heap.size ∧ v.ownBlock ≠ some b)) 1048576 w D (kid t i) (f i).1 (f i).2.1
theorem GrowR.nil (w : World) (B : Nat) (Q : Nat → Prop) (D : Nat) (t : T) : GrowR w B Q (.slice none 0 0) 0 D t :=
  ⟨fun _ => (none, 0, 0), World.ownsRow_nil w B 25 3, fun i hi => by omega⟩
variable {w w' : World} {B k D : Nat} {Q : Nat → Prop} {v : Value} {t : T}
theorem GrowR.kept (h : GrowR w B Q v k D t) (hb : ∀ b, b < w.heap.size → w'.heap[b]? = w.heap[b]?) (hs : w.heap.size ≤ w'.heap.size) : GrowR w' B Q v k D t := by
  obtain ⟨f, ho, hc⟩ := h
  refine ⟨f, owns_kept ho fun g e => hb g (World.ownsRow.lt ho g e).2, fun i hi => (hc i hi).kept fun b o x hq hx => ?_⟩
  have hlt := World.block_lt_of_cell? _ _ hx
  exact ⟨(World.cell?_of_block (a := ⟨b, o, none⟩) (hb b hlt)).trans hx, hq.imp id fun ⟨h1, h2, h3⟩ => ⟨h1, by omega, h3⟩⟩
theorem GrowR.below (h : GrowR w B Q v k D t) (hb : Below w.heap.size w w') : GrowR w' B Q v k D t := h.kept (fun b h => hb.block b h) hb.size
theorem GrowR.owns (h : GrowR w B Q v k D t) : ∃ xs, w.ownsRow B 25 3 v k xs := by
  obtain ⟨f, ho, _⟩ := h
  exact ⟨_, ho⟩
theorem GrowR.form (h : GrowR w B Q v k D t) : (∃ a c, v = .slice a k c) ∧ ∀ g, v.ownBlock = some g → B ≤ g ∧ g < w.heap.size := by
  obtain ⟨f, ho, _⟩ := h
  refine ⟨?_, World.ownsRow.lt ho⟩
  rcases ho.2 with ⟨e1, e2⟩ | ⟨g, cap, cur, e, _⟩
  · subst e2; exact ⟨_, _, e1⟩
  · exact ⟨_, _, e⟩
/-- One more, whose tree lies in old blocks of Q or in blocks that were there ahead of the append. -/
theorem GrowR.next {w1 w2 : World} {v' : Value} {a' : Option Addr} {l' c' : Nat} {xs : List Value} (h : GrowR w1 B Q v k D t) (hB : B ≤ w1.heap.size) (ho : Rd (fun b => (Q b ∧ b < B) ∨ (B ≤ b ∧ b < w1.heap.size ∧ v.ownBlock ≠ some b)) 1048576 w1 D (kid t k) a' l')
    (hx : w1.ownsRow B 25 3 v k xs)
    (hv : w2.ownsRow B 25 3 v' (k + 1) (xs ++ [.int .i64 (kd (kid t k)), .int .i64 (nn (kid t k)), .slice a' l' c'])) (hg : w1.grownBy w2 v.ownBlock) (hat : v'.ownBlock = v.ownBlock ∨ v'.ownBlock = some w1.heap.size) : GrowR w2 B Q v' (k + 1) D t := by
  obtain ⟨f, ho0, hc⟩ := h
  have exs : xs = cellsOf f t k := by
    rcases hx.2 with ⟨e1, e2⟩ | ⟨g, cap, cur, e, _, hh, _, _, _, h4⟩
    · subst e2
      have h0 := hx.1
      have h1 := ho0.1
      rw [Nat.zero_mul] at h0 h1
      rw [List.eq_nil_of_length_eq_zero h0, List.eq_nil_of_length_eq_zero h1]
    · rcases ho0.2 with ⟨e1, _⟩ | ⟨g', cap', cur', e', _, hh', _, _, _, h4'⟩
      · rw [e] at e1; cases e1
      · rw [e] at e'
        cases e'
        rw [hh] at hh'
        cases hh'
        rw [← h4, ← h4']
  subst exs
  have hrow : ∀ g, v.ownBlock = some g → B ≤ g := fun g e => (World.ownsRow.lt ho0 g e).1
  have hup : ∀ (t' : T) (a : Option Addr) (l : Nat), Rd (fun b => (Q b ∧ b < B) ∨ (B ≤ b ∧ b < w1.heap.size ∧ v.ownBlock ≠ some b)) 1048576 w1 D t' a l → Rd (fun b => (Q b ∧ b < B) ∨ (B ≤ b ∧ b < w2.heap.size ∧ v'.ownBlock ≠ some b)) 1048576 w2 D t' a l := fun t' a l hr =>
    hr.kept fun b o x hq hx => by
      have hlt := World.block_lt_of_cell? _ _ hx
      have hne : some b ≠ v.ownBlock := by
        rcases hq with hq | hq
        · intro e; have := hrow b e.symm; omega
        · exact Ne.symm hq.2.2
      refine ⟨(World.cell?_of_block (a := ⟨b, o, none⟩) (hg.block b hlt hne)).trans hx, hq.imp id fun ⟨h1, h2, h3⟩ => ⟨h1, Nat.lt_of_lt_of_le h2 hg.size, ?_⟩⟩
      rcases hat with e | e
      · rw [e]; exact h3
      · rw [e]; intro e'; injection e' with e'; omega
  refine ⟨fun i => if i = k then (a', l', c') else f i, ?_, fun i hik => ?_⟩
  · have e1 : cellsOf (fun i => if i = k then (a', l', c') else f i) t (k + 1) = cellsOf f t k ++ [.int .i64 (kd (kid t k)), .int .i64 (nn (kid t k)), .slice a' l' c'] := by
      simp only [cellsOf, if_true]
      rw [cellsOf_congr t (f' := f) (fun i hi => if_neg (by omega))]
    rw [e1]; exact hv
  · by_cases e : i = k
    · subst e; simp only [if_true]; exact hup _ _ _ ho
    · simp only [if_neg e]; exact hup _ _ _ (hc i (by omega))
theorem GrowR.done {l : Nat} (h : GrowR w B Q v l D t) (hl : ln t = l) (hm : l ≤ 1048576) : ∃ a c, v = .slice a l c ∧ l ≤ c ∧ Rd (fun b => (Q b ∧ b < B) ∨ B ≤ b) 1048576 w (D + 1) t a l := by
  obtain ⟨f, ho, hc⟩ := h
  rcases ho.2 with ⟨e1, e2⟩ | ⟨g, cap, cur, e, hb, hh, h1, h2, h3, h4⟩
  · subst e2
    exact ⟨_, _, e1, Nat.zero_le _, rd_leaf _ _ _ hl _⟩
  · subst e
    refine ⟨_, _, rfl, h1, hl, hm, fun i hi => ?_⟩
    obtain ⟨c0, c1, c2⟩ := cellsOf_at f t hi
    refine ⟨g, 0, rfl, .inr hb, ?_, ?_, (f i).1, (f i).2.1, (f i).2.2, ?_, (hc i hi).imp fun b hb => hb.imp id fun h => h.1⟩
    · simpa using (World.ownsRow.cellAt ho (i * 3) (by omega)).trans c0
    · simpa using (World.ownsRow.cellAt ho (i * 3 + 1) (by omega)).trans c1
    · simpa using (World.ownsRow.cellAt ho (i * 3 + 2) (by omega)).trans c2

theorem GrowR.congr {t' : T} (h : GrowR w B Q v k D t) (he : ∀ i, i < k → kid t' i = kid t i) : GrowR w B Q v k D t' := by
  obtain ⟨f, ho, hc⟩ := h
  refine ⟨f, ?_, fun i hi => by rw [he i hi]; exact hc i hi⟩
  have e : ∀ j, j ≤ k → cellsOf f t' j = cellsOf f t j := by
    intro j
    induction j with
    | zero => intro _; rfl
    | succ j ih => intro hj; simp only [cellsOf]; rw [ih (by omega), he j (by omega)]
  rw [e k (Nat.le_refl _)]
  exact ho
/-- What lies below B may change, where no tree lies there. -/
theorem GrowR.from (h : GrowR w B (fun _ => False) v k D t) (hb : ∀ b, B ≤ b → b < w.heap.size → w'.heap[b]? = w.heap[b]?) (hs : w.heap.size ≤ w'.heap.size) : GrowR w' B (fun _ => False) v k D t := by
  obtain ⟨f, ho, hc⟩ := h
  refine ⟨f, owns_kept ho fun g e => hb g (World.ownsRow.lt ho g e).1 (World.ownsRow.lt ho g e).2, fun i hi => (hc i hi).kept fun b o x hq hx => ?_⟩
  have hlt := World.block_lt_of_cell? _ _ hx
  rcases hq with ⟨h0, _⟩ | ⟨h1, h2, h3⟩
  · exact h0.elim
  · exact ⟨(World.cell?_of_block (a := ⟨b, o, none⟩) (hb b h1 hlt)).trans hx, .inr ⟨h1, by omega, h3⟩⟩
end Go.Proofs.Ytaileckcflnbdaa.growRow
