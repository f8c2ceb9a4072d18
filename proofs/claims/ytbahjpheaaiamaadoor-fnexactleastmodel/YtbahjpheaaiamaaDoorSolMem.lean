/- A solver in memory: its cells, its rows, its map of rows; what stays so while one of them is written; conditions: none. -/
import Derived.Test.YtbahjpheaaiamaaDoorPart6
import Derived.Maps.OwnSet
import Derived.Maps.Views
import Derived.Maps.AppendAt
import Derived.DeepKeys4
import Derived.WideKeyPair
namespace Go.Proofs.YtbahjpheaaiamaaDoor.solMem
open Go.RowKit Go.Deep Go.Maps Go.WideMaps Go base sets setsOf solSets solOps solMath solHold
set_option linter.unusedVariables false
set_option linter.unusedSimpArgs false

def flatC : List LS → List Value
  | [] => []
  | c :: r => .int .u64 c.1 :: .int .u64 c.2 :: flatC r
def flatP : List (Int × Int) → List Value
  | [] => []
  | c :: r => .int .i64 c.1 :: .int .i64 c.2 :: flatP r
def intsN (D : List Nat) : List Value := D.map (fun (i : Nat) => .int .i64 (i : Int))
theorem flatP_len : ∀ C : List (Int × Int), (flatP C).length = C.length * 2
  | [] => rfl
  | c :: r => by simp [flatP, flatP_len r]; omega
theorem flatC_add : ∀ (C : List LS) (c : LS), flatC (C ++ [c]) = flatC C ++ [.int .u64 c.1, .int .u64 c.2]
  | [], c => rfl
  | d :: r, c => by simp [flatC, flatC_add r c]
theorem flatP_add : ∀ (C : List (Int × Int)) (c : Int × Int), flatP (C ++ [c]) = flatP C ++ [.int .i64 c.1, .int .i64 c.2]
  | [], c => rfl
  | d :: r, c => by simp [flatP, flatP_add r c]
theorem flatC_get : ∀ (C : List LS) (i : Nat), i < C.length → (flatC C)[i * 2]? = some (.int .u64 (C[i]?.getD (0, 0)).1) ∧ (flatC C)[i * 2 + 1]? = some (.int .u64 (C[i]?.getD (0, 0)).2)
  | c :: r, 0, _ => ⟨rfl, rfl⟩
  | c :: r, i + 1, h => by
    have := flatC_get r i (by simpa using h)
    rw [show (i + 1) * 2 = i * 2 + 2 by omega]
    simpa [flatC] using this
theorem flatP_get : ∀ (C : List (Int × Int)) (i : Nat), i < C.length → (flatP C)[i * 2]? = some (.int .i64 (C[i]?.getD (0, 0)).1) ∧ (flatP C)[i * 2 + 1]? = some (.int .i64 (C[i]?.getD (0, 0)).2)
  | c :: r, 0, _ => ⟨rfl, rfl⟩
  | c :: r, i + 1, h => by
    have := flatP_get r i (by simpa using h)
    rw [show (i + 1) * 2 = i * 2 + 2 by omega]
    simpa [flatP] using this
theorem flatP_set : ∀ (C : List (Int × Int)) (i : Nat) (p : Int × Int), flatP (C.set i p) = ((flatP C).set (i * 2) (.int .i64 p.1)).set (i * 2 + 1) (.int .i64 p.2)
  | [], i, p => by simp [flatP]
  | c :: r, 0, p => rfl
  | c :: r, i + 1, p => by
    rw [List.set_cons_succ, show (i + 1) * 2 = i * 2 + 2 by omega]
    simp [flatP, flatP_set r i p]
/-- What is due: a row that may begin within its block. -/
structure DueAt (w : World) (g off n cap : Nat) (D : List Nat) : Prop where
  len : D.length = n
  le : n ≤ cap
  most : cap ≤ maxLen
  cell : ∀ j, j < n → w.cell? ⟨g, off + j, none⟩ = some (.int .i64 ((D[j]?.getD 0 : Nat) : Int))
  has : ∀ j, j < cap → (w.cell? ⟨g, off + j, none⟩).isSome = true
  froz : ∀ j, w.frozen? ⟨g, j, none⟩ = false
  shape : ∃ t k, w.shape? g = some (t, k) ∧ k ≠ 0
def DueRow (w : World) (v : Value) (D : List Nat) : Prop := (v = .slice none 0 0 ∧ D = []) ∨ ∃ g off n cap, v = .slice (some ⟨g, off, none⟩) n cap ∧ DueAt w g off n cap D
def hE (v : Value) : Option (DataW Value × List MemPlace) := some (.held v, [])
def nilV : Value := .slice none 0 0
def key (l : Int) : Lit := .int .i64 l
structure MapV (D : DataW Value) (V : Int → Value) : Prop where
  tidy : Tidy D
  keys : ∀ es, D = .map es → ∀ p ∈ es, ∃ l : Int, p.1 = key l ∧ -40 ≤ l ∧ l ≤ 40
  at_ : ∀ l, -40 ≤ l → l ≤ 40 → D.atKey (key l) (.held nilV) = .held (V l)
def valA (F : Nat → Value) (V : Int → Value) (a : Int) : Value := if a = 1001 then F 2 else if a = 1002 then F 3 else if a = 1003 then F 7 else if a = 1004 then F 8 else if a = 1005 then F 9 else V a
def blk (z : Int) (F : Nat → Value) (V : Int → Value) (a : Int) : Option Nat := if a = z then none else (valA F V a).ownBlock
def RowA (s : Sv) (a : Int) (v : Value) (w : World) : Prop :=
  if a = 1001 then w.ownsRow 0 51 2 v s.C.length (flatC s.C)
  else if a = 1002 then w.ownsRow 0 83 2 v s.W.length (flatP s.W)
  else if a = 1003 then w.ownsRow 0 87 2 v s.T.length (flatP s.T)
  else if a = 1004 then w.ownsRow 0 3 1 v s.K.length (intsN s.K)
  else if a = 1005 then DueRow w v s.D
  else if -40 ≤ a ∧ a ≤ 40 ∧ a ≠ 0 then w.ownsRow 0 3 1 v (s.L a).length (intsN (s.L a)) else v = nilV
theorem own_kept {B n : Nat} {w w1 : World} {v : Value} {t : TypeId} {s : Nat} {xs : List Value} (h : w.ownsRow B t s v n xs) (hb : ∀ g, v.ownBlock = some g → w1.heap[g]? = w.heap[g]?) : w1.ownsRow B t s v n xs := by
  obtain ⟨h1, h2⟩ := h
  refine ⟨h1, ?_⟩
  rcases h2 with h2 | ⟨g, cap, cur, rfl, hg, hh, hn, hm, hs, ht⟩
  · exact .inl h2
  · exact .inr ⟨g, cap, cur, rfl, hg, by rw [hb g rfl]; exact hh, hn, hm, hs, ht⟩
theorem shape_of {w w1 : World} {g : Nat} (h : w1.heap[g]? = w.heap[g]?) : w1.shape? g = w.shape? g := by simp [World.shape?, h]
theorem due_at_kept {w w1 : World} {g off n cap : Nat} {D : List Nat} (h : DueAt w g off n cap D) (hb : w1.heap[g]? = w.heap[g]?) : DueAt w1 g off n cap D :=
  ⟨h.len, h.le, h.most, fun j hj => (World.cell?_of_block (a := ⟨g, off + j, none⟩) hb).trans (h.cell j hj), fun j hj => by rw [World.cell?_of_block (a := ⟨g, off + j, none⟩) hb]; exact h.has j hj, fun j => (World.frozen?_of_block (a := ⟨g, j, none⟩) hb).trans (h.froz j), by rw [shape_of hb]; exact h.shape⟩
theorem due_kept {w w1 : World} {v : Value} {D : List Nat} (h : DueRow w v D) (hb : ∀ g, v.ownBlock = some g → w1.heap[g]? = w.heap[g]?) : DueRow w1 v D := by
  rcases h with h | ⟨g, off, n, cap, rfl, h1⟩
  · exact .inl h
  · exact .inr ⟨g, off, n, cap, rfl, due_at_kept h1 (hb g rfl)⟩
theorem row_kept {w w1 : World} {v : Value} {s : Sv} {a : Int} (h : RowA s a v w) (hb : ∀ g, v.ownBlock = some g → w1.heap[g]? = w.heap[g]?) : RowA s a v w1 := by
  unfold RowA at h ⊢
  by_cases e1 : a = 1001
  · rw [if_pos e1] at h ⊢; exact own_kept h hb
  rw [if_neg e1] at h ⊢
  by_cases e2 : a = 1002
  · rw [if_pos e2] at h ⊢; exact own_kept h hb
  rw [if_neg e2] at h ⊢
  by_cases e3 : a = 1003
  · rw [if_pos e3] at h ⊢; exact own_kept h hb
  rw [if_neg e3] at h ⊢
  by_cases e4 : a = 1004
  · rw [if_pos e4] at h ⊢; exact own_kept h hb
  rw [if_neg e4] at h ⊢
  by_cases e5 : a = 1005
  · rw [if_pos e5] at h ⊢; exact due_kept h hb
  rw [if_neg e5] at h ⊢
  by_cases e6 : -40 ≤ a ∧ a ≤ 40 ∧ a ≠ 0
  · rw [if_pos e6] at h ⊢; exact own_kept h hb
  rw [if_neg e6] at h ⊢
  exact h
theorem due_at_lt {w : World} {g off n cap : Nat} {D : List Nat} (h : DueAt w g off n cap D) : g < w.heap.size := by
  obtain ⟨t, k, h1, _⟩ := h.shape
  refine Classical.byContradiction fun hx => ?_
  unfold World.shape? at h1
  rw [Array.getElem?_eq_none (by omega)] at h1
  cases h1
theorem due_lt {w : World} {v : Value} {D : List Nat} (h : DueRow w v D) : ∀ g, v.ownBlock = some g → g < w.heap.size := by
  rcases h with ⟨rfl, _⟩ | ⟨g, off, n, cap, rfl, h1⟩
  · intro g hg; cases hg
  · intro g' hg
    injection hg with hg
    have := due_at_lt h1
    simp only at hg
    omega
theorem row_lt {w : World} {v : Value} {s : Sv} {a : Int} (h : RowA s a v w) : ∀ g, v.ownBlock = some g → g < w.heap.size := by
  unfold RowA at h
  split at h
  · exact fun g hg => (World.ownsRow.lt h g hg).2
  · split at h
    · exact fun g hg => (World.ownsRow.lt h g hg).2
    · split at h
      · exact fun g hg => (World.ownsRow.lt h g hg).2
      · split at h
        · exact fun g hg => (World.ownsRow.lt h g hg).2
        · split at h
          · exact due_lt h
          · split at h
            · exact fun g hg => (World.ownsRow.lt h g hg).2
            · intro g hg; rw [h] at hg; cases hg
structure Sol (z : Int) (M mb : Nat) (F : Nat → Value) (V : Int → Value) (s : Sv) (w : World) : Prop where
  cells : w.rowIs M 69 56 F
  f0 : F 0 = .int .i64 s.n
  f4 : F 4 = .map (some mb)
  f5 : F 5 = .int .u64 s.H.1
  f6 : F 6 = .int .u64 s.H.2
  f10 : F 10 = .int .i64 s.F
  fx : ∀ j, (j = 1 ∨ 11 ≤ j) → F j = s.X j
  map : ∃ D, w.ownsMap Tryd.prog 3 hE mb 81 D ∧ MapV D V
  rows : ∀ a, a ≠ z → RowA s a (valA F V a) w
  apart : ∀ a b g, a ≠ b → blk z F V a = some g → blk z F V b ≠ some g
  off : ∀ a g, blk z F V a = some g → g ≠ M ∧ g ≠ mb
  ne : M ≠ mb
  tab : Tab w
  tabo : 0 ≠ M ∧ 0 ≠ mb ∧ ∀ a, blk z F V a ≠ some 0
structure Chg (M mb : Nat) (β β' : Int → Option Nat) (w w' : World) : Prop where
  os : w'.os = w.os
  tape : w'.tape = w.tape
  output : w'.output = w.output
  size : w.heap.size ≤ w'.heap.size
  block : ∀ j, j < w.heap.size → j ≠ M → j ≠ mb → (∀ a, β a ≠ some j) → w'.heap[j]? = w.heap[j]?
  news : ∀ a j, β' a = some j → β a = some j ∨ w.heap.size ≤ j
theorem Chg.below {M mb : Nat} {β : Int → Option Nat} {w w' : World} (h : Below w.heap.size w w') : Chg M mb β β w w' := ⟨h.os, h.tape, h.output, h.size, fun j hj _ _ _ => h.block j hj, fun a j h => .inl h⟩
theorem Chg.trans {M mb : Nat} {β β1 β2 : Int → Option Nat} {w w1 w2 : World} (h : Chg M mb β β1 w w1) (k : Chg M mb β1 β2 w1 w2) : Chg M mb β β2 w w2 := by
  refine ⟨k.os.trans h.os, k.tape.trans h.tape, k.output.trans h.output, Nat.le_trans h.size k.size, fun j hj h1 h2 h3 => ?_, fun a j ha => ?_⟩
  · refine (k.block j (Nat.lt_of_lt_of_le hj h.size) h1 h2 fun a ha => ?_).trans (h.block j hj h1 h2 h3)
    rcases h.news a j ha with h4 | h4
    · exact h3 a h4
    · omega
  · rcases k.news a j ha with h4 | h4
    · exact h.news a j h4
    · exact .inr (Nat.le_trans h.size h4)
theorem Chg.cell {M mb : Nat} {β β' : Int → Option Nat} {w w' : World} (h : Chg M mb β β' w w') {b o : Nat} {x : Value} (h1 : b ≠ M) (h2 : b ≠ mb) (h3 : ∀ a, β a ≠ some b) (hc : w.cell? ⟨b, o, none⟩ = some x) : w'.cell? ⟨b, o, none⟩ = some x :=
  (World.cell?_of_block (a := ⟨b, o, none⟩) (h.block b (World.block_lt_of_cell? _ _ hc) h1 h2 h3)).trans hc
theorem Chg.toBelow {M mb B : Nat} {β β' : Int → Option Nat} {w w' : World} (h : Chg M mb β β' w w') (h0 : B ≤ w.heap.size) (h1 : B ≤ M) (h2 : B ≤ mb) (h3 : ∀ a g, β a = some g → B ≤ g) : Below B w w' :=
  ⟨h.os, h.tape, h.output, h.size, fun j hj => h.block j (by omega) (by omega) (by omega) (fun a e => by have := h3 a j e; omega)⟩
section
variable {z : Int} {M mb : Nat} {F : Nat → Value} {V : Int → Value} {s : Sv} {w : World}
theorem Sol.lt (h : Sol z M mb F V s w) : M < w.heap.size ∧ mb < w.heap.size := ⟨World.rowIs.lt h.cells, by obtain ⟨D, hD, _⟩ := h.map; exact hD.lt⟩
theorem blk_val {a : Int} {g : Nat} (hb : blk z F V a = some g) : a ≠ z ∧ (valA F V a).ownBlock = some g := by
  unfold blk at hb
  split at hb
  · cases hb
  · exact ⟨by assumption, hb⟩
theorem blk_ne {a : Int} (h : a ≠ z) : blk z F V a = (valA F V a).ownBlock := if_neg h
theorem Sol.blt (h : Sol z M mb F V s w) {a : Int} {g : Nat} (hb : blk z F V a = some g) : g < w.heap.size := by
  obtain ⟨h1, h2⟩ := blk_val hb
  exact row_lt (h.rows a h1) g h2
theorem Sol.below {w1 : World} (h : Sol z M mb F V s w) (hb : Below w.heap.size w w1) : Sol z M mb F V s w1 := by
  obtain ⟨D, hD, hV⟩ := h.map
  exact ⟨World.rowIs.of_block h.cells (hb.block _ h.lt.1), h.f0, h.f4, h.f5, h.f6, h.f10, h.fx, ⟨D, by
    obtain ⟨es, clock, h1, h2⟩ := hD
    exact ⟨es, clock, by rw [hb.block _ h.lt.2]; exact h1, h2⟩, hV⟩, fun a ha => row_kept (h.rows a ha) fun g hg => hb.block g (row_lt (h.rows a ha) g hg), h.apart, h.off, h.ne, tab_below h.tab hb, h.tabo⟩
theorem Sol.cell (h : Sol z M mb F V s w) {i : Nat} (hi : i < 56) : w.cell? ⟨M, i, none⟩ = some (F i) := World.rowIs.cell h.cells hi
theorem Sol.frozen (h : Sol z M mb F V s w) (i : Nat) : w.frozen? ⟨M, i, none⟩ = false := World.rowIs.frozen h.cells i
/-- One row is written, or another takes its place; the cells of the solver tell so. -/
theorem Sol.step {F' : Nat → Value} {V' : Int → Value} {s' : Sv} {w' : World} (h : Sol z M mb F V s w) (a0 : Int) (hz : a0 ≠ z)
    (cells : w'.rowIs M 69 56 F') (f0 : F' 0 = .int .i64 s'.n) (f4 : F' 4 = .map (some mb)) (f5 : F' 5 = .int .u64 s'.H.1) (f6 : F' 6 = .int .u64 s'.H.2) (f10 : F' 10 = .int .i64 s'.F) (fx : ∀ j, (j = 1 ∨ 11 ≤ j) → F' j = s'.X j)
    (map : ∃ D, w'.ownsMap Tryd.prog 3 hE mb 81 D ∧ MapV D V')
    (same : ∀ a, a ≠ a0 → a ≠ z → valA F' V' a = valA F V a ∧ (∀ v w, RowA s a v w → RowA s' a v w))
    (blocks : ∀ j, j < w.heap.size → j ≠ M → j ≠ mb → some j ≠ (valA F V a0).ownBlock → w'.heap[j]? = w.heap[j]?)
    (row : RowA s' a0 (valA F' V' a0) w')
    (loc : (valA F' V' a0).ownBlock = (valA F V a0).ownBlock ∨ (valA F' V' a0).ownBlock = none ∨ ∃ g, w.heap.size ≤ g ∧ (valA F' V' a0).ownBlock = some g)
    (os : w'.os = w.os) (tape : w'.tape = w.tape) (output : w'.output = w.output) (size : w.heap.size ≤ w'.heap.size) :
    Sol z M mb F' V' s' w' ∧ Chg M mb (blk z F V) (blk z F' V') w w' := by
  have old : ∀ a g, a ≠ a0 → blk z F' V' a = some g → blk z F V a = some g := fun a g ha hb => by
    obtain ⟨h1, h2⟩ := blk_val hb
    rw [blk_ne h1, ← (same a ha h1).1]
    exact h2
  have new : ∀ g, blk z F' V' a0 = some g → blk z F V a0 = some g ∨ w.heap.size ≤ g := fun g hb => by
    obtain ⟨h1, h2⟩ := blk_val hb
    rcases loc with l | l | ⟨g', l1, l2⟩
    · exact .inl (by rw [blk_ne h1, ← l]; exact h2)
    · rw [l] at h2; cases h2
    · rw [l2] at h2; injection h2 with h2; exact .inr (by omega)
  have nw : ∀ a g, blk z F' V' a = some g → blk z F V a = some g ∨ w.heap.size ≤ g := fun a g hb => by
    by_cases e : a = a0
    · subst e; exact new g hb
    · exact .inl (old a g e hb)
  refine ⟨⟨cells, f0, f4, f5, f6, f10, fx, map, fun a ha => ?_, fun a b g hab h1 h2 => ?_, fun a g hb => ?_, h.ne, fun j hj => ?_, ⟨h.tabo.1, h.tabo.2.1, fun a e => ?_⟩⟩, ⟨os, tape, output, size, fun j hj h1 h2 h3 => blocks j hj h1 h2 fun e => h3 a0 ?_, nw⟩⟩
  · by_cases e : a = a0
    · subst e; exact row
    · obtain ⟨e1, e2⟩ := same a e ha
      rw [e1]
      refine row_kept (e2 _ _ (h.rows a ha)) fun g hg => ?_
      have hbg : blk z F V a = some g := by rw [blk_ne ha]; exact hg
      exact blocks g (h.blt hbg) (h.off a g hbg).1 (h.off a g hbg).2 fun e3 => h.apart a a0 g e hbg (by rw [blk_ne hz]; exact e3.symm)
  · by_cases ea : a = a0
    · subst ea
      have hb := old b g (fun e => hab e.symm) h2
      rcases new g h1 with h3 | h3
      · exact h.apart a b g hab h3 hb
      · have := h.blt hb; omega
    · have ha := old a g ea h1
      by_cases eb : b = a0
      · subst eb
        rcases new g h2 with h3 | h3
        · exact h.apart a b g hab ha h3
        · have := h.blt ha; omega
      · exact h.apart a b g hab ha (old b g eb h2)
  · rcases nw a g hb with h3 | h3
    · exact h.off a g h3
    · have := h.lt; omega
  · have hc := h.tab j hj
    have hlt := World.block_lt_of_cell? _ _ hc
    rw [World.cell?_of_block (a := ⟨0, j, none⟩) (blocks _ hlt h.tabo.1 h.tabo.2.1 (fun e => h.tabo.2.2 a0 (by rw [blk_ne hz]; exact e.symm)))]
    exact hc
  · rcases nw a _ e with h3 | h3
    · exact h.tabo.2.2 a h3
    · have hc := h.tab 0 (by decide)
      have hlt := World.block_lt_of_cell? _ _ hc
      simp only at hlt
      omega
  · rw [blk_ne hz]; exact e.symm
end
theorem map_tight {P : Program} {k : TypeId} {R : Value → Option (DataW Value × List MemPlace)} {b n : Nat} {D : DataW Value} {w : World} (h : w.ownsMap P k R b n D) : w.ownsMap P k R b (Maps.size D) D := by
  obtain ⟨es, clock, h1, h2, h3, h4⟩ := h
  refine ⟨es, clock, h1, h2, ?_, h4⟩
  rw [h4, size_eq, length_sorted]
  simp
theorem map_few {D : DataW Value} {V : Int → Value} (h : MapV D V) : Maps.size D ≤ 81 := by
  obtain ⟨es, e, hp⟩ := h.tidy
  rw [e, size_eq]
  have hk := h.keys es e
  have hN : (es.map fun p => match p.1 with | .int _ l => (l + 40).toNat | _ => 0).Nodup := by
    rw [List.Nodup, List.pairwise_map]
    refine hp.imp_of_mem fun {p q} h1 h2 hne e => hne ?_
    obtain ⟨l, e1, a1, a2⟩ := hk p h1
    obtain ⟨m, e2, b1, b2⟩ := hk q h2
    rw [e1, e2] at e ⊢
    unfold key at e ⊢
    simp only at e
    have : l = m := by omega
    rw [this]
  have := nodup_most (n := 81) hN (fun x hx => by
    obtain ⟨p, h1, rfl⟩ := List.mem_map.1 hx
    obtain ⟨l, e1, a1, a2⟩ := hk p h1
    rw [e1]
    unfold key
    simp only
    omega)
  rwa [List.length_map] at this
theorem mapV_new : MapV (.map []) (fun _ => nilV) := ⟨tidy_empty, fun es e p hp => (by injection e with e; subst e; cases hp), fun l _ _ => rfl⟩
theorem mem_insert {x p : Lit × DataW Value} : ∀ {es : List (Lit × DataW Value)}, p ∈ DataW.insert x es → p = x ∨ p ∈ es
  | [], h => by unfold DataW.insert at h; simpa using h
  | y :: r, h => by
    unfold DataW.insert at h
    split at h
    · simpa using h
    · rcases List.mem_cons.1 h with e | e
      · exact .inr (by simp [e])
      · rcases mem_insert e with e | e
        · exact .inl e
        · exact .inr (by simp [e])
theorem mapV_put {D : DataW Value} {V : Int → Value} (h : MapV D V) {l : Int} (h0 : -40 ≤ l) (h1 : l ≤ 40) (v : Value) : MapV (D.put (key l) (.held v)) (fun m => if m = l then v else V m) := by
  refine ⟨h.tidy.put (by trivial) _, fun es e p hp => ?_, fun m m0 m1 => ?_⟩
  · obtain ⟨es0, e0, _⟩ := h.tidy
    subst e0
    injection e with e
    subst e
    rcases mem_insert hp with e | e
    · exact ⟨l, by rw [e], h0, h1⟩
    · exact h.keys _ rfl p ((List.mem_filter.1 e).1)
  · by_cases e : m = l
    · subst e
      rw [Maps.atKey_put_same h.tidy.isMap (by trivial), if_pos rfl]
    · rw [Maps.atKey_put_other (fun e2 => e (by unfold key at e2; injection e2)), if_neg e]
      exact h.at_ m m0 m1
end Go.Proofs.YtbahjpheaaiamaaDoor.solMem
