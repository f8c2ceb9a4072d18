/- Circuits as they are built: literals, gates that are there once, and how the maker lies in memory; of no program but its types; conditions: none. -/
import Derived.Test.YtaileckcflnbdaaTrees
import Derived.Laws.AppendOwn
import Derived.OwnWalk
import Derived.WalkSpells
import Derived.Sort.Row
namespace Go.Proofs.Ytaileckcflnbdaa.buildSem
open Go.RowKit Go.Deep Go.Sort Go base trees
set_option linter.unusedVariables false

abbrev Gl := List (Int × Int)
def notL (a : Int) : Int := if a % 2 = 1 then a - 1 else a + 1
def placeG (gs : Gl) (p q : Int) : Option Nat := gs.findIdx? (fun g => decide (g = (p, q)))
def addG (n : Int) (gs : Gl) (p q : Int) : Int × Gl := match placeG gs p q with
  | some i => (2 * (n + 1 + i), gs)
  | none => (2 * (n + (gs.length + 1 : Nat)), gs ++ [(p, q)])
def ordL (n : Int) (gs : Gl) (p q : Int) : Int × Gl := if p = 0 then (0, gs) else if p = 1 ∨ p = q then (q, gs) else if p / 2 = q / 2 then (0, gs) else addG n gs p q
def andL (n : Int) (gs : Gl) (a b : Int) : Int × Gl := if b < a then ordL n gs b a else ordL n gs a b
def orL (n : Int) (gs : Gl) (a b : Int) : Int × Gl := (notL (andL n gs (notL a) (notL b)).1, (andL n gs (notL a) (notL b)).2)
def xorL (n : Int) (gs : Gl) (a b : Int) : Int × Gl :=
  let x := andL n gs a (notL b)
  let y := andL n x.2 (notL a) b
  orL n y.2 x.1 y.1
def iteL (n : Int) (gs : Gl) (a b c : Int) : Int × Gl :=
  let x := andL n gs a b
  let y := andL n x.2 (notL a) c
  orL n y.2 x.1 y.1
def at0 (ks : List Int) (i : Nat) : Int := ks[i]?.getD 0
def opL (n k : Int) (gs : Gl) (ks : List Int) : Int × Gl :=
  if k = 3 then (notL (at0 ks 0), gs) else if k = 4 then andL n gs (at0 ks 0) (at0 ks 1) else if k = 5 then orL n gs (at0 ks 0) (at0 ks 1) else if k = 6 then xorL n gs (at0 ks 0) (at0 ks 1) else iteL n gs (at0 ks 0) (at0 ks 1) (at0 ks 2)
def makeRow (mk : T → Gl → Int × Gl) (t : T) : Nat → Gl → List Int × Gl
  | 0, gs => ([], gs)
  | i + 1, gs => ((makeRow mk t i gs).1 ++ [(mk (kid t i) (makeRow mk t i gs).2).1], (mk (kid t i) (makeRow mk t i gs).2).2)
/-- The literal of an expression, and the gates that there are then. -/
def makeT (n : Int) : Nat → T → Gl → Int × Gl
  | 0, t, gs => if kd t = 1 then (2 * (nn t + 1), gs) else if kd t = 2 then (nn t, gs) else opL n (kd t) gs []
  | d + 1, t, gs => if kd t = 1 then (2 * (nn t + 1), gs) else if kd t = 2 then (nn t, gs) else opL n (kd t) (makeRow (makeT n d) t (ln t) gs).2 (makeRow (makeT n d) t (ln t) gs).1
theorem makeT_var (n : Int) (d : Nat) (t : T) (gs : Gl) (h : kd t = 1) : makeT n d t gs = (2 * (nn t + 1), gs) := by
  cases d <;> simp only [makeT] <;> rw [if_pos h]
theorem makeT_const (n : Int) (d : Nat) (t : T) (gs : Gl) (h : kd t = 2) : makeT n d t gs = (nn t, gs) := by
  cases d <;> simp only [makeT] <;> rw [if_neg (by omega), if_pos h]
theorem makeT_op (n : Int) (d : Nat) (t : T) (gs : Gl) (h1 : kd t ≠ 1) (h2 : kd t ≠ 2) (h0 : d = 0 → ln t = 0) : makeT n d t gs = opL n (kd t) (makeRow (makeT n (d - 1)) t (ln t) gs).2 (makeRow (makeT n (d - 1)) t (ln t) gs).1 := by
  cases d with
  | zero => simp only [makeT]; rw [if_neg h1, if_neg h2, h0 rfl]; rfl
  | succ d => simp only [makeT]; rw [if_neg h1, if_neg h2]; rfl

/- Bounds. -/
def In (n : Int) (gs : Gl) (z : Int) : Prop := 0 ≤ z ∧ z ≤ 2 * (n + gs.length) + 1
theorem place_lt {gs : Gl} {p q : Int} {i : Nat} (h : placeG gs p q = some i) : i < gs.length ∧ gs[i]?.getD (0, 0) = (p, q) := by
  unfold placeG at h
  rw [List.findIdx?_eq_some_iff_getElem] at h
  obtain ⟨hi, h1, _⟩ := h
  refine ⟨hi, ?_⟩
  rw [List.getElem?_eq_getElem hi]
  exact of_decide_eq_true h1
theorem place_at {gs : Gl} {p q : Int} {k : Nat} (hk : k < gs.length) (h : gs[k]?.getD (0, 0) = (p, q)) (h0 : ∀ j, j < k → gs[j]?.getD (0, 0) ≠ (p, q)) : placeG gs p q = some k := by
  unfold placeG
  rw [List.findIdx?_eq_some_iff_getElem]
  refine ⟨hk, ?_, fun j hj => ?_⟩
  · rw [List.getElem?_eq_getElem hk] at h
    exact decide_eq_true h
  · have := h0 j hj
    rw [List.getElem?_eq_getElem (by omega)] at this
    simpa using this
theorem place_none {gs : Gl} {p q : Int} (h0 : ∀ j, j < gs.length → gs[j]?.getD (0, 0) ≠ (p, q)) : placeG gs p q = none := by
  unfold placeG
  rw [List.findIdx?_eq_none_iff]
  intro x hx
  obtain ⟨j, hj, rfl⟩ := List.getElem_of_mem hx
  have := h0 j hj
  rw [List.getElem?_eq_getElem hj] at this
  simpa using this
theorem not_in {n : Int} {gs : Gl} {z : Int} (h : In n gs z) : In n gs (notL z) := by
  obtain ⟨h0, h1⟩ := h
  unfold In notL
  split <;> omega
theorem In.more {n : Int} {gs gs' : Gl} {z : Int} (h : In n gs z) (hl : gs.length ≤ gs'.length) : In n gs' z := ⟨h.1, by have := h.2; omega⟩
theorem add_in (n : Int) (gs : Gl) (p q : Int) (hn : 0 ≤ n) : In n (addG n gs p q).2 (addG n gs p q).1 ∧ gs.length ≤ (addG n gs p q).2.length ∧ (addG n gs p q).2.length ≤ gs.length + 1 := by
  unfold addG
  cases h : placeG gs p q with
  | none =>
    simp only [In, List.length_append, List.length_cons, List.length_nil]
    omega
  | some i =>
    have := (place_lt h).1
    simp only [In]
    omega
theorem ord_in (n : Int) (gs : Gl) (p q : Int) (hn : 0 ≤ n) (hq : In n gs q) : In n (ordL n gs p q).2 (ordL n gs p q).1 ∧ gs.length ≤ (ordL n gs p q).2.length ∧ (ordL n gs p q).2.length ≤ gs.length + 1 := by
  unfold ordL
  split
  · exact ⟨⟨by omega, by simp only []; omega⟩, Nat.le_refl _, by simp only []; omega⟩
  · split
    · exact ⟨hq, Nat.le_refl _, by simp only []; omega⟩
    · split
      · exact ⟨⟨by omega, by simp only []; omega⟩, Nat.le_refl _, by simp only []; omega⟩
      · exact add_in n gs p q hn
theorem and_in (n : Int) (gs : Gl) (a b : Int) (hn : 0 ≤ n) (ha : In n gs a) (hb : In n gs b) : In n (andL n gs a b).2 (andL n gs a b).1 ∧ gs.length ≤ (andL n gs a b).2.length ∧ (andL n gs a b).2.length ≤ gs.length + 1 := by
  unfold andL
  split
  · exact ord_in n gs b a hn ha
  · exact ord_in n gs a b hn hb
theorem or_in (n : Int) (gs : Gl) (a b : Int) (hn : 0 ≤ n) (ha : In n gs a) (hb : In n gs b) : In n (orL n gs a b).2 (orL n gs a b).1 ∧ gs.length ≤ (orL n gs a b).2.length ∧ (orL n gs a b).2.length ≤ gs.length + 1 := by
  obtain ⟨h1, h2, h3⟩ := and_in n gs (notL a) (notL b) hn (not_in ha) (not_in hb)
  exact ⟨not_in h1, h2, h3⟩
theorem xor_in (n : Int) (gs : Gl) (a b : Int) (hn : 0 ≤ n) (ha : In n gs a) (hb : In n gs b) : In n (xorL n gs a b).2 (xorL n gs a b).1 ∧ gs.length ≤ (xorL n gs a b).2.length ∧ (xorL n gs a b).2.length ≤ gs.length + 3 := by
  obtain ⟨h1, h2, h3⟩ := and_in n gs a (notL b) hn ha (not_in hb)
  obtain ⟨k1, k2, k3⟩ := and_in n (andL n gs a (notL b)).2 (notL a) b hn ((not_in ha).more h2) (hb.more h2)
  obtain ⟨l1, l2, l3⟩ := or_in n (andL n (andL n gs a (notL b)).2 (notL a) b).2 _ _ hn (h1.more k2) k1
  exact ⟨l1, by simp only [xorL]; omega, by simp only [xorL]; omega⟩
theorem ite_in (n : Int) (gs : Gl) (a b c : Int) (hn : 0 ≤ n) (ha : In n gs a) (hb : In n gs b) (hc : In n gs c) : In n (iteL n gs a b c).2 (iteL n gs a b c).1 ∧ gs.length ≤ (iteL n gs a b c).2.length ∧ (iteL n gs a b c).2.length ≤ gs.length + 3 := by
  obtain ⟨h1, h2, h3⟩ := and_in n gs a b hn ha hb
  obtain ⟨k1, k2, k3⟩ := and_in n (andL n gs a b).2 (notL a) c hn ((not_in ha).more h2) (hc.more h2)
  obtain ⟨l1, l2, l3⟩ := or_in n (andL n (andL n gs a b).2 (notL a) c).2 _ _ hn (h1.more k2) k1
  exact ⟨l1, by simp only [iteL]; omega, by simp only [iteL]; omega⟩

/- Gates in memory. -/
def flatG (gs : Gl) : List Value := gs.flatMap fun g => [.int .i64 g.1, .int .i64 g.2]
theorem flat_len (gs : Gl) : (flatG gs).length = gs.length * 2 := by
  induction gs with
  | nil => rfl
  | cons g gs ih => simp only [flatG, List.flatMap_cons, List.length_append, List.length_cons, List.length_nil] at ih ⊢; omega
theorem flat_add (gs : Gl) (p q : Int) : flatG (gs ++ [(p, q)]) = flatG gs ++ [.int .i64 p, .int .i64 q] := by simp [flatG]
theorem flat_at {gs : Gl} {k : Nat} (h : k < gs.length) : (flatG gs)[k * 2]? = some (.int .i64 (gs[k]?.getD (0, 0)).1) ∧ (flatG gs)[k * 2 + 1]? = some (.int .i64 (gs[k]?.getD (0, 0)).2) := by
  induction gs generalizing k with
  | nil => simp at h
  | cons g gs ih =>
    cases k with
    | zero => simp [flatG]
    | succ k =>
      have := ih (k := k) (by simpa using h)
      simp only [flatG, List.flatMap_cons, List.cons_append, List.nil_append, Nat.succ_mul, List.getElem?_cons_succ] at this ⊢
      exact this

/-- The maker in block M: its inputs and its gates, whose row lies in a block of its own from B on. -/
structure Mk (ty : TypeId) (M B : Nat) (n : Int) (gs : Gl) (v : Value) (w : World) : Prop where
  two : w.rowIs M ty 2 (fun i => if i = 0 then .int .i64 n else v)
  own : w.ownsRow B 60 2 v gs.length (flatG gs)
  lt : M < B
  le : B ≤ w.heap.size
theorem Mk.c0 {ty : TypeId} {M B : Nat} {n : Int} {gs : Gl} {v : Value} {w : World} (h : Mk ty M B n gs v w) : w.cell? ⟨M, 0, none⟩ = some (.int .i64 n) := World.rowIs.cell h.two (by omega)
theorem Mk.c1 {ty : TypeId} {M B : Nat} {n : Int} {gs : Gl} {v : Value} {w : World} (h : Mk ty M B n gs v w) : w.cell? ⟨M, 1, none⟩ = some v := World.rowIs.cell h.two (by omega)
theorem Mk.z {ty : TypeId} {M B : Nat} {n : Int} {gs : Gl} {v : Value} {w : World} (h : Mk ty M B n gs v w) (i : Nat) : w.frozen? ⟨M, i, none⟩ = false := World.rowIs.frozen h.two i
theorem Mk.form {ty : TypeId} {M B : Nat} {n : Int} {gs : Gl} {v : Value} {w : World} (h : Mk ty M B n gs v w) : ∃ a c, v = .slice a gs.length c := by
  rcases h.own.2 with ⟨e, h0⟩ | ⟨g, cap, cur, e, _⟩
  · exact ⟨none, 0, by rw [e, h0]⟩
  · exact ⟨_, _, e⟩
theorem Mk.gate {ty : TypeId} {M B : Nat} {n : Int} {gs : Gl} {v : Value} {w : World} (h : Mk ty M B n gs v w) {k : Nat} (hk : k < gs.length) : ∃ g c, v = .slice (some ⟨g, 0, none⟩) gs.length c ∧ w.cell? ⟨g, k * 2, none⟩ = some (.int .i64 (gs[k]?.getD (0, 0)).1) ∧ w.cell? ⟨g, k * 2 + 1, none⟩ = some (.int .i64 (gs[k]?.getD (0, 0)).2) := by
  rcases h.own.2 with ⟨_, h0⟩ | ⟨g, cap, cur, rfl, hb, hh, hn, hm, hs, ht⟩
  · omega
  · obtain ⟨f0, f1⟩ := flat_at hk
    rw [← ht, List.getElem?_take, if_pos (by omega)] at f0 f1
    rw [Array.getElem?_toList] at f0 f1
    exact ⟨g, cap, rfl, by simp [World.cell?, hh, f0], by simp [World.cell?, hh, f1]⟩
theorem own_kept {B n : Nat} {w w1 : World} {v : Value} {t : TypeId} {s : Nat} {xs : List Value} (h : w.ownsRow B t s v n xs) (hb : ∀ g, v.ownBlock = some g → w1.heap[g]? = w.heap[g]?) : w1.ownsRow B t s v n xs := by
  obtain ⟨h1, h2⟩ := h
  refine ⟨h1, ?_⟩
  rcases h2 with h2 | ⟨g, cap, cur, rfl, hg, hh, hn, hm, hs, ht⟩
  · exact .inl h2
  · exact .inr ⟨g, cap, cur, rfl, hg, by rw [hb g rfl]; exact hh, hn, hm, hs, ht⟩
theorem Mk.below {ty : TypeId} {M B : Nat} {n : Int} {gs : Gl} {v : Value} {w w1 : World} (h : Mk ty M B n gs v w) (hb : Below w.heap.size w w1) : Mk ty M B n gs v w1 :=
  ⟨World.rowIs.of_block h.two (hb.block _ (World.rowIs.lt h.two)), own_kept h.own fun g hg => hb.block g (World.ownsRow.lt h.own g hg).2, h.lt, Nat.le_trans h.le hb.size⟩

/-- All is as it was but the maker's block and the row of its gates. -/
structure Chg (M : Nat) (v : Value) (w w' : World) : Prop where
  os : w'.os = w.os
  tape : w'.tape = w.tape
  output : w'.output = w.output
  size : w.heap.size ≤ w'.heap.size
  block : ∀ j, j < w.heap.size → j ≠ M → some j ≠ v.ownBlock → w'.heap[j]? = w.heap[j]?
/-- The row is where it was, or new. -/
def New (w : World) (v v' : Value) : Prop := v'.ownBlock = v.ownBlock ∨ ∃ g, w.heap.size ≤ g ∧ v'.ownBlock = some g
theorem New.refl (w : World) (v : Value) : New w v v := .inl rfl
theorem New.trans {w w1 : World} {v v1 v2 : Value} (h : New w v v1) (k : New w1 v1 v2) (hs : w.heap.size ≤ w1.heap.size) : New w v v2 := by
  rcases k with k | ⟨g, hg, k⟩
  · rcases h with h | ⟨g, hg, h⟩
    · exact .inl (k.trans h)
    · exact .inr ⟨g, hg, k.trans h⟩
  · exact .inr ⟨g, by omega, k⟩
theorem Chg.of_below {M : Nat} {v : Value} {w w1 : World} (h : Below w.heap.size w w1) : Chg M v w w1 := ⟨h.os, h.tape, h.output, h.size, fun j hj _ _ => h.block j hj⟩
theorem Chg.trans {M : Nat} {v v1 : Value} {w w1 w2 : World} (h : Chg M v w w1) (hn : New w v v1) (k : Chg M v1 w1 w2) : Chg M v w w2 :=
  ⟨k.os.trans h.os, k.tape.trans h.tape, k.output.trans h.output, Nat.le_trans h.size k.size, fun j hj h1 h2 => (k.block j (Nat.lt_of_lt_of_le hj h.size) h1 (by
    rcases hn with hn | ⟨g, hg, hn⟩
    · rw [hn]; exact h2
    · rw [hn]; intro e; injection e with e; omega)).trans (h.block j hj h1 h2)⟩
theorem Chg.cell {M : Nat} {v : Value} {w w1 : World} (h : Chg M v w w1) {b o : Nat} {x : Value} (h1 : b ≠ M) (h2 : some b ≠ v.ownBlock) (hc : w.cell? ⟨b, o, none⟩ = some x) : w1.cell? ⟨b, o, none⟩ = some x :=
  (World.cell?_of_block (a := ⟨b, o, none⟩) (h.block b (World.block_lt_of_cell? _ _ hc) h1 h2)).trans hc
theorem Chg.below {ty : TypeId} {M B : Nat} {n : Int} {gs : Gl} {v : Value} {w w1 : World} (h : Chg M v w w1) (hm : Mk ty M B n gs v w) : Below M w w1 :=
  ⟨h.os, h.tape, h.output, h.size, fun j hj => h.block j (by have := hm.lt; have := hm.le; omega) (by omega) (fun e => by have := (World.ownsRow.lt hm.own j e.symm).1; have := hm.lt; omega)⟩
/-- A gate is appended, and the grown row stored. -/
theorem Mk.add {ty : TypeId} {M B : Nat} {n : Int} {gs : Gl} {v v2 : Value} {w W w2 : World} {p q : Int} (h : Mk ty M B n gs v w) (hb : Below w.heap.size w W) (ho : w2.ownsRow B 60 2 v2 (gs.length + 1) (flatG gs ++ [.int .i64 p, .int .i64 q])) (hg : W.grownBy w2 v.ownBlock) (ha : v2.ownBlock = v.ownBlock ∨ v2.ownBlock = some W.heap.size) :
    (w2.cell? ⟨M, 1, none⟩ = some v ∧ w2.frozen? ⟨M, 1, none⟩ = false) ∧ Mk ty M B n (gs ++ [(p, q)]) v2 (w2.setCell ⟨M, 1, none⟩ v2) ∧ Chg M v w (w2.setCell ⟨M, 1, none⟩ v2) ∧ New w v v2 := by
  have hW := h.below hb
  have hlt := h.lt
  have hle := h.le
  have hne : some M ≠ v.ownBlock := fun e => by have := (World.ownsRow.lt h.own M e.symm).1; omega
  have htw := World.rowIs.of_block hW.two (hg.block _ (World.rowIs.lt hW.two) hne)
  refine ⟨⟨World.rowIs.cell htw (i := 1) (by omega), World.rowIs.frozen htw 1⟩, ⟨?_, ?_, hlt, ?_⟩, ⟨?_, ?_, ?_, ?_, fun j hj h1 h2 => ?_⟩, ?_⟩
  · refine World.rowIs.congr (World.rowIs.set htw 1 v2) fun i hi => ?_
    match i, hi with
    | 0, _ => rfl
    | 1, _ => rfl
  · rw [flat_add, List.length_append]
    refine own_kept ho fun g hgb => ?_
    have := (World.ownsRow.lt ho g hgb).1
    exact Below.heap_setCell _ _ _ _ (by dsimp only; omega)
  · have h1 := hg.size
    have h2 := hb.size
    simp [World.setCell]
    omega
  · rw [setCell_eq]; exact hg.os.trans hb.os
  · rw [setCell_eq]; exact hg.tape.trans hb.tape
  · rw [setCell_eq]; exact hg.output.trans hb.output
  · have h1 := hg.size
    have h2 := hb.size
    simp [World.setCell]
    omega
  · rw [Below.heap_setCell _ _ _ _ (by dsimp only; omega)]
    exact (hg.block j (Nat.lt_of_lt_of_le hj hb.size) h2).trans (hb.block j hj)
  · rcases ha with ha | ha
    · exact .inl ha
    · exact .inr ⟨_, hb.size, ha⟩
end Go.Proofs.Ytaileckcflnbdaa.buildSem
