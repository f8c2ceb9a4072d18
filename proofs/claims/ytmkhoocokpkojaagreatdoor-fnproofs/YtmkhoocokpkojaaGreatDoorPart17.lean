import Derived.Test.YtmkhoocokpkojaaGreatDoorPart16
import Derived.Maps.OwnSet
import Derived.Maps.Views
import Derived.Maps.AppendAt
import Derived.DeepKeys4
import Derived.WideKeyPair
import Derived.Shelf.Spec.SlicesInsertGrow
import Derived.Shelf.Slices.SearchI
import Derived.Shelf.Slices.Empties
namespace Go.Proofs.YtmkhoocokpkojaaGreatDoor.solMem
open Go.RowKit Go.Deep Go.Maps Go.WideMaps Go base sets setsOf solSets solOps solMath solHold
set_option linter.unusedVariables false
set_option linter.unusedSimpArgs false
def flatC : List LS → List Value
 | [] => []
 | c :: r => .int .u64 c.1 :: .int .u64 c.2 :: flatC r
def flatP : List (Int × Int) → List Value
 | [] => []
 | c :: r => .int .i64 c.1 :: .int .i64 c.2 :: flatP r
def intsN (D : List Nat) : List Value := D.map (fun (i : Nat) => .int .i64 (i : Int))
theorem flatC_len : ∀ C : List LS, (flatC C).length = C.length * 2
 | [] => rfl
 | c :: r => by simp [flatC, flatC_len r]; omega
theorem flatP_len : ∀ C : List (Int × Int), (flatP C).length = C.length * 2
 | [] => rfl
 | c :: r => by simp [flatP, flatP_len r]; omega
theorem flatC_add : ∀ (C : List LS) (c : LS), flatC (C ++ [c]) = flatC C ++ [.int .u64 c.1, .int .u64 c.2]
 | [], c => rfl
 | d :: r, c => by simp [flatC, flatC_add r c]
theorem flatP_add : ∀ (C : List (Int × Int)) (c : Int × Int), flatP (C ++ [c]) = flatP C ++ [.int .i64 c.1, .int .i64 c.2]
 | [], c => rfl
 | d :: r, c => by simp [flatP, flatP_add r c]
theorem flatC_get : ∀ (C : List LS) (i : Nat), i < C.length → (flatC C)[i * 2]? = some (.int .u64 (C[i]?.getD (0, 0)).1) ∧ (flatC C)[i * 2 + 1]? = some (.int .u64 (C[i]?.getD (0, 0)).2)
 | c :: r, 0, _ => ⟨rfl, rfl⟩
 | c :: r, i + 1, h => by
  have := flatC_get r i (by simpa using h)
  rw [show (i + 1) * 2 = i * 2 + 2 by omega]
  simpa [flatC] using this
theorem flatP_get : ∀ (C : List (Int × Int)) (i : Nat), i < C.length → (flatP C)[i * 2]? = some (.int .i64 (C[i]?.getD (0, 0)).1) ∧ (flatP C)[i * 2 + 1]? = some (.int .i64 (C[i]?.getD (0, 0)).2)
 | c :: r, 0, _ => ⟨rfl, rfl⟩
 | c :: r, i + 1, h => by
  have := flatP_get r i (by simpa using h)
  rw [show (i + 1) * 2 = i * 2 + 2 by omega]
  simpa [flatP] using this
theorem flatP_set : ∀ (C : List (Int × Int)) (i : Nat) (p : Int × Int), flatP (C.set i p) = ((flatP C).set (i * 2) (.int .i64 p.1)).set (i * 2 + 1) (.int .i64 p.2)
 | [], i, p => by simp [flatP]
 | c :: r, 0, p => rfl
 | c :: r, i + 1, p => by
  rw [List.set_cons_succ, show (i + 1) * 2 = i * 2 + 2 by omega]
  simp [flatP, flatP_set r i p]
structure DueAt (w : World) (g off n cap : Nat) (D : List Nat) : Prop where
 len : D.length = n
 le : n ≤ cap
 most : cap ≤ maxLen
 cell : ∀ j, j < n → w.cell? ⟨g, off + j, none⟩ = some (.int .i64 ((D[j]?.getD 0 : Nat) : Int))
 has : ∀ j, j < cap → (w.cell? ⟨g, off + j, none⟩).isSome = true
 froz : ∀ j, w.frozen? ⟨g, j, none⟩ = false
 shape : ∃ t k, w.shape? g = some (t, k) ∧ k ≠ 0
def DueRow (w : World) (v : Value) (D : List Nat) : Prop := (v = .slice none 0 0 ∧ D = []) ∨ ∃ g off n cap, v = .slice (some ⟨g, off, none⟩) n cap ∧ DueAt w g off n cap D
def hE (v : Value) : Option (DataW Value × List MemPlace) := some (.held v, [])
def nilV : Value := .slice none 0 0
def key (l : Int) : Lit := .int .i64 l
structure MapV (D : DataW Value) (V : Int → Value) : Prop where
 tidy : Tidy D
 keys : ∀ es, D = .map es → ∀ p ∈ es, ∃ l : Int, p.1 = key l ∧ -40 ≤ l ∧ l ≤ 40
 at_ : ∀ l, -40 ≤ l → l ≤ 40 → D.atKey (key l) (.held nilV) = .held (V l)
def valA (F : Nat → Value) (V : Int → Value) (a : Int) : Value := if a = 1001 then F 2 else if a = 1002 then F 3 else if a = 1003 then F 7 else if a = 1004 then F 8 else if a = 1005 then F 9 else V a
def blk (z : Int) (F : Nat → Value) (V : Int → Value) (a : Int) : Option Nat := if a = z then none else (valA F V a).ownBlock
def RowA (s : Sv) (a : Int) (v : Value) (w : World) : Prop :=
 if a = 1001 then w.ownsRow 0 68 2 v s.C.length (flatC s.C)
 else if a = 1002 then w.ownsRow 0 115 2 v s.W.length (flatP s.W)
 else if a = 1003 then w.ownsRow 0 136 2 v s.T.length (flatP s.T)
 else if a = 1004 then w.ownsRow 0 3 1 v s.K.length (intsN s.K)
 else if a = 1005 then DueRow w v s.D
 else if -40 ≤ a ∧ a ≤ 40 ∧ a ≠ 0 then w.ownsRow 0 3 1 v (s.L a).length (intsN (s.L a)) else v = nilV
theorem own_kept {B n : Nat} {w w1 : World} {v : Value} {t : TypeId} {s : Nat} {xs : List Value} (h : w.ownsRow B t s v n xs) (hb : ∀ g, v.ownBlock = some g → w1.heap[g]? = w.heap[g]?) : w1.ownsRow B t s v n xs := by
 obtain ⟨h1, h2⟩ := h
 refine ⟨h1, ?_⟩
 rcases h2 with h2 | ⟨g, cap, cur, rfl, hg, hh, hn, hm, hs, ht⟩
 · exact .inl h2
 · exact .inr ⟨g, cap, cur, rfl, hg, by rw [hb g rfl]; exact hh, hn, hm, hs, ht⟩
theorem shape_of {w w1 : World} {g : Nat} (h : w1.heap[g]? = w.heap[g]?) : w1.shape? g = w.shape? g := by simp [World.shape?, h]
theorem due_at_kept {w w1 : World} {g off n cap : Nat} {D : List Nat} (h : DueAt w g off n cap D) (hb : w1.heap[g]? = w.heap[g]?) : DueAt w1 g off n cap D :=
 ⟨h.len, h.le, h.most, fun j hj => (World.cell?_of_block (a := ⟨g, off + j, none⟩) hb).trans (h.cell j hj), fun j hj => by rw [World.cell?_of_block (a := ⟨g, off + j, none⟩) hb]; exact h.has j hj, fun j => (World.frozen?_of_block (a := ⟨g, j, none⟩) hb).trans (h.froz j), by rw [shape_of hb]; exact h.shape⟩
theorem due_kept {w w1 : World} {v : Value} {D : List Nat} (h : DueRow w v D) (hb : ∀ g, v.ownBlock = some g → w1.heap[g]? = w.heap[g]?) : DueRow w1 v D := by
 rcases h with h | ⟨g, off, n, cap, rfl, h1⟩
 · exact .inl h
 · exact .inr ⟨g, off, n, cap, rfl, due_at_kept h1 (hb g rfl)⟩
theorem row_kept {w w1 : World} {v : Value} {s : Sv} {a : Int} (h : RowA s a v w) (hb : ∀ g, v.ownBlock = some g → w1.heap[g]? = w.heap[g]?) : RowA s a v w1 := by
 unfold RowA at h ⊢
 by_cases e1 : a = 1001
 · rw [if_pos e1] at h ⊢; exact own_kept h hb
 rw [if_neg e1] at h ⊢
 by_cases e2 : a = 1002
 · rw [if_pos e2] at h ⊢; exact own_kept h hb
 rw [if_neg e2] at h ⊢
 by_cases e3 : a = 1003
 · rw [if_pos e3] at h ⊢; exact own_kept h hb
 rw [if_neg e3] at h ⊢
 by_cases e4 : a = 1004
 · rw [if_pos e4] at h ⊢; exact own_kept h hb
 rw [if_neg e4] at h ⊢
 by_cases e5 : a = 1005
 · rw [if_pos e5] at h ⊢; exact due_kept h hb
 rw [if_neg e5] at h ⊢
 by_cases e6 : -40 ≤ a ∧ a ≤ 40 ∧ a ≠ 0
 · rw [if_pos e6] at h ⊢; exact own_kept h hb
 rw [if_neg e6] at h ⊢
 exact h
theorem due_at_lt {w : World} {g off n cap : Nat} {D : List Nat} (h : DueAt w g off n cap D) : g < w.heap.size := by
 obtain ⟨t, k, h1, _⟩ := h.shape
 refine Classical.byContradiction fun hx => ?_
 unfold World.shape? at h1
 rw [Array.getElem?_eq_none (by omega)] at h1
 cases h1
theorem due_lt {w : World} {v : Value} {D : List Nat} (h : DueRow w v D) : ∀ g, v.ownBlock = some g → g < w.heap.size := by
 rcases h with ⟨rfl, _⟩ | ⟨g, off, n, cap, rfl, h1⟩
 · intro g hg; cases hg
 · intro g' hg
   injection hg with hg
   have := due_at_lt h1
   simp only at hg
   omega
theorem row_lt {w : World} {v : Value} {s : Sv} {a : Int} (h : RowA s a v w) : ∀ g, v.ownBlock = some g → g < w.heap.size := by
 unfold RowA at h
 split at h
 · exact fun g hg => (World.ownsRow.lt h g hg).2
 · split at h
   · exact fun g hg => (World.ownsRow.lt h g hg).2
   · split at h
     · exact fun g hg => (World.ownsRow.lt h g hg).2
     · split at h
       · exact fun g hg => (World.ownsRow.lt h g hg).2
       · split at h
         · exact due_lt h
         · split at h
           · exact fun g hg => (World.ownsRow.lt h g hg).2
           · intro g hg; rw [h] at hg; cases hg
structure Sol (z : Int) (M mb : Nat) (F : Nat → Value) (V : Int → Value) (s : Sv) (w : World) : Prop where
 cells : w.rowIs M 72 56 F
 f0 : F 0 = .int .i64 s.n
 f4 : F 4 = .map (some mb)
 f5 : F 5 = .int .u64 s.H.1
 f6 : F 6 = .int .u64 s.H.2
 f10 : F 10 = .int .i64 s.F
 fx : ∀ j, (j = 1 ∨ 11 ≤ j) → F j = s.X j
 map : ∃ D, w.ownsMap Tryz.prog 3 hE mb 81 D ∧ MapV D V
 rows : ∀ a, a ≠ z → RowA s a (valA F V a) w
 apart : ∀ a b g, a ≠ b → blk z F V a = some g → blk z F V b ≠ some g
 off : ∀ a g, blk z F V a = some g → g ≠ M ∧ g ≠ mb
 ne : M ≠ mb
 tab : Tab w
 tabo : 1 ≠ M ∧ 1 ≠ mb ∧ ∀ a, blk z F V a ≠ some 1
structure Chg (M mb : Nat) (β β' : Int → Option Nat) (w w' : World) : Prop where
 os : w'.os = w.os
 tape : w'.tape = w.tape
 output : w'.output = w.output
 size : w.heap.size ≤ w'.heap.size
 block : ∀ j, j < w.heap.size → j ≠ M → j ≠ mb → (∀ a, β a ≠ some j) → w'.heap[j]? = w.heap[j]?
 news : ∀ a j, β' a = some j → β a = some j ∨ w.heap.size ≤ j
theorem Chg.below {M mb : Nat} {β : Int → Option Nat} {w w' : World} (h : Below w.heap.size w w') : Chg M mb β β w w' := ⟨h.os, h.tape, h.output, h.size, fun j hj _ _ _ => h.block j hj, fun a j h => .inl h⟩
theorem Chg.trans {M mb : Nat} {β β1 β2 : Int → Option Nat} {w w1 w2 : World} (h : Chg M mb β β1 w w1) (k : Chg M mb β1 β2 w1 w2) : Chg M mb β β2 w w2 := by
 refine ⟨k.os.trans h.os, k.tape.trans h.tape, k.output.trans h.output, Nat.le_trans h.size k.size, fun j hj h1 h2 h3 => ?_, fun a j ha => ?_⟩
 · refine (k.block j (Nat.lt_of_lt_of_le hj h.size) h1 h2 fun a ha => ?_).trans (h.block j hj h1 h2 h3)
   rcases h.news a j ha with h4 | h4
   · exact h3 a h4
   · omega
 · rcases k.news a j ha with h4 | h4
   · exact h.news a j h4
   · exact .inr (Nat.le_trans h.size h4)
theorem Chg.cell {M mb : Nat} {β β' : Int → Option Nat} {w w' : World} (h : Chg M mb β β' w w') {b o : Nat} {x : Value} (h1 : b ≠ M) (h2 : b ≠ mb) (h3 : ∀ a, β a ≠ some b) (hc : w.cell? ⟨b, o, none⟩ = some x) : w'.cell? ⟨b, o, none⟩ = some x :=
 (World.cell?_of_block (a := ⟨b, o, none⟩) (h.block b (World.block_lt_of_cell? _ _ hc) h1 h2 h3)).trans hc
theorem Chg.toBelow {M mb B : Nat} {β β' : Int → Option Nat} {w w' : World} (h : Chg M mb β β' w w') (h0 : B ≤ w.heap.size) (h1 : B ≤ M) (h2 : B ≤ mb) (h3 : ∀ a g, β a = some g → B ≤ g) : Below B w w' :=
 ⟨h.os, h.tape, h.output, h.size, fun j hj => h.block j (by omega) (by omega) (by omega) (fun a e => by have := h3 a j e; omega)⟩
section
variable {z : Int} {M mb : Nat} {F : Nat → Value} {V : Int → Value} {s : Sv} {w : World}
theorem Sol.lt (h : Sol z M mb F V s w) : M < w.heap.size ∧ mb < w.heap.size := ⟨World.rowIs.lt h.cells, by obtain ⟨D, hD, _⟩ := h.map; exact hD.lt⟩
theorem blk_val {a : Int} {g : Nat} (hb : blk z F V a = some g) : a ≠ z ∧ (valA F V a).ownBlock = some g := by
 unfold blk at hb
 split at hb
 · cases hb
 · exact ⟨by assumption, hb⟩
theorem blk_ne {a : Int} (h : a ≠ z) : blk z F V a = (valA F V a).ownBlock := if_neg h
theorem Sol.blt (h : Sol z M mb F V s w) {a : Int} {g : Nat} (hb : blk z F V a = some g) : g < w.heap.size := by
 obtain ⟨h1, h2⟩ := blk_val hb
 exact row_lt (h.rows a h1) g h2
theorem Sol.below {w1 : World} (h : Sol z M mb F V s w) (hb : Below w.heap.size w w1) : Sol z M mb F V s w1 := by
 obtain ⟨D, hD, hV⟩ := h.map
 exact ⟨World.rowIs.of_block h.cells (hb.block _ h.lt.1), h.f0, h.f4, h.f5, h.f6, h.f10, h.fx, ⟨D, by
  obtain ⟨es, clock, h1, h2⟩ := hD
  exact ⟨es, clock, by rw [hb.block _ h.lt.2]; exact h1, h2⟩, hV⟩, fun a ha => row_kept (h.rows a ha) fun g hg => hb.block g (row_lt (h.rows a ha) g hg), h.apart, h.off, h.ne, tab_below h.tab hb, h.tabo⟩
theorem Sol.cell (h : Sol z M mb F V s w) {i : Nat} (hi : i < 56) : w.cell? ⟨M, i, none⟩ = some (F i) := World.rowIs.cell h.cells hi
theorem Sol.frozen (h : Sol z M mb F V s w) (i : Nat) : w.frozen? ⟨M, i, none⟩ = false := World.rowIs.frozen h.cells i
theorem Sol.step {F' : Nat → Value} {V' : Int → Value} {s' : Sv} {w' : World} (h : Sol z M mb F V s w) (a0 : Int) (hz : a0 ≠ z)
  (cells : w'.rowIs M 72 56 F') (f0 : F' 0 = .int .i64 s'.n) (f4 : F' 4 = .map (some mb)) (f5 : F' 5 = .int .u64 s'.H.1) (f6 : F' 6 = .int .u64 s'.H.2) (f10 : F' 10 = .int .i64 s'.F) (fx : ∀ j, (j = 1 ∨ 11 ≤ j) → F' j = s'.X j)
  (map : ∃ D, w'.ownsMap Tryz.prog 3 hE mb 81 D ∧ MapV D V')
  (same : ∀ a, a ≠ a0 → a ≠ z → valA F' V' a = valA F V a ∧ (∀ v w, RowA s a v w → RowA s' a v w))
  (blocks : ∀ j, j < w.heap.size → j ≠ M → j ≠ mb → some j ≠ (valA F V a0).ownBlock → w'.heap[j]? = w.heap[j]?)
  (row : RowA s' a0 (valA F' V' a0) w')
  (loc : (valA F' V' a0).ownBlock = (valA F V a0).ownBlock ∨ (valA F' V' a0).ownBlock = none ∨ ∃ g, w.heap.size ≤ g ∧ (valA F' V' a0).ownBlock = some g)
  (os : w'.os = w.os) (tape : w'.tape = w.tape) (output : w'.output = w.output) (size : w.heap.size ≤ w'.heap.size) :
  Sol z M mb F' V' s' w' ∧ Chg M mb (blk z F V) (blk z F' V') w w' := by
 have old : ∀ a g, a ≠ a0 → blk z F' V' a = some g → blk z F V a = some g := fun a g ha hb => by
  obtain ⟨h1, h2⟩ := blk_val hb
  rw [blk_ne h1, ← (same a ha h1).1]
  exact h2
 have new : ∀ g, blk z F' V' a0 = some g → blk z F V a0 = some g ∨ w.heap.size ≤ g := fun g hb => by
  obtain ⟨h1, h2⟩ := blk_val hb
  rcases loc with l | l | ⟨g', l1, l2⟩
  · exact .inl (by rw [blk_ne h1, ← l]; exact h2)
  · rw [l] at h2; cases h2
  · rw [l2] at h2; injection h2 with h2; exact .inr (by omega)
 have nw : ∀ a g, blk z F' V' a = some g → blk z F V a = some g ∨ w.heap.size ≤ g := fun a g hb => by
  by_cases e : a = a0
  · subst e; exact new g hb
  · exact .inl (old a g e hb)
 refine ⟨⟨cells, f0, f4, f5, f6, f10, fx, map, fun a ha => ?_, fun a b g hab h1 h2 => ?_, fun a g hb => ?_, h.ne, fun j hj => ?_, ⟨h.tabo.1, h.tabo.2.1, fun a e => ?_⟩⟩, ⟨os, tape, output, size, fun j hj h1 h2 h3 => blocks j hj h1 h2 fun e => h3 a0 ?_, nw⟩⟩
 · by_cases e : a = a0
   · subst e; exact row
   · obtain ⟨e1, e2⟩ := same a e ha
     rw [e1]
     refine row_kept (e2 _ _ (h.rows a ha)) fun g hg => ?_
     have hbg : blk z F V a = some g := by rw [blk_ne ha]; exact hg
     exact blocks g (h.blt hbg) (h.off a g hbg).1 (h.off a g hbg).2 fun e3 => h.apart a a0 g e hbg (by rw [blk_ne hz]; exact e3.symm)
 · by_cases ea : a = a0
   · subst ea
     have hb := old b g (fun e => hab e.symm) h2
     rcases new g h1 with h3 | h3
     · exact h.apart a b g hab h3 hb
     · have := h.blt hb; omega
   · have ha := old a g ea h1
     by_cases eb : b = a0
     · subst eb
       rcases new g h2 with h3 | h3
       · exact h.apart a b g hab ha h3
       · have := h.blt ha; omega
     · exact h.apart a b g hab ha (old b g eb h2)
 · rcases nw a g hb with h3 | h3
   · exact h.off a g h3
   · have := h.lt; omega
 · have hc := h.tab j hj
   have hlt := World.block_lt_of_cell? _ _ hc
   rw [World.cell?_of_block (a := ⟨1, j, none⟩) (blocks _ hlt h.tabo.1 h.tabo.2.1 (fun e => h.tabo.2.2 a0 (by rw [blk_ne hz]; exact e.symm)))]
   exact hc
 · rcases nw a _ e with h3 | h3
   · exact h.tabo.2.2 a h3
   · have hc := h.tab 0 (by decide)
     have hlt := World.block_lt_of_cell? _ _ hc
     simp only at hlt
     omega
 · rw [blk_ne hz]; exact e.symm
end
theorem map_tight {P : Program} {k : TypeId} {R : Value → Option (DataW Value × List MemPlace)} {b n : Nat} {D : DataW Value} {w : World} (h : w.ownsMap P k R b n D) : w.ownsMap P k R b (Maps.size D) D := by
 obtain ⟨es, clock, h1, h2, h3, h4⟩ := h
 refine ⟨es, clock, h1, h2, ?_, h4⟩
 rw [h4, size_eq, length_sorted]
 simp
theorem map_few {D : DataW Value} {V : Int → Value} (h : MapV D V) : Maps.size D ≤ 81 := by
 obtain ⟨es, e, hp⟩ := h.tidy
 rw [e, size_eq]
 have hk := h.keys es e
 have hN : (es.map fun p => match p.1 with | .int _ l => (l + 40).toNat | _ => 0).Nodup := by
  rw [List.Nodup, List.pairwise_map]
  refine hp.imp_of_mem fun {p q} h1 h2 hne e => hne ?_
  obtain ⟨l, e1, a1, a2⟩ := hk p h1
  obtain ⟨m, e2, b1, b2⟩ := hk q h2
  rw [e1, e2] at e ⊢
  unfold key at e ⊢
  simp only at e
  have : l = m := by omega
  rw [this]
 have := nodup_most (n := 81) hN (fun x hx => by
  obtain ⟨p, h1, rfl⟩ := List.mem_map.1 hx
  obtain ⟨l, e1, a1, a2⟩ := hk p h1
  rw [e1]
  unfold key
  simp only
  omega)
 rwa [List.length_map] at this
theorem mapV_new : MapV (.map []) (fun _ => nilV) := ⟨tidy_empty, fun es e p hp => (by injection e with e; subst e; cases hp), fun l _ _ => rfl⟩
theorem mem_insert {x p : Lit × DataW Value} : ∀ {es : List (Lit × DataW Value)}, p ∈ DataW.insert x es → p = x ∨ p ∈ es
 | [], h => by unfold DataW.insert at h; simpa using h
 | y :: r, h => by
  unfold DataW.insert at h
  split at h
  · simpa using h
  · rcases List.mem_cons.1 h with e | e
    · exact .inr (by simp [e])
    · rcases mem_insert e with e | e
      · exact .inl e
      · exact .inr (by simp [e])
theorem mapV_put {D : DataW Value} {V : Int → Value} (h : MapV D V) {l : Int} (h0 : -40 ≤ l) (h1 : l ≤ 40) (v : Value) : MapV (D.put (key l) (.held v)) (fun m => if m = l then v else V m) := by
 refine ⟨h.tidy.put (by trivial) _, fun es e p hp => ?_, fun m m0 m1 => ?_⟩
 · obtain ⟨es0, e0, _⟩ := h.tidy
   subst e0
   injection e with e
   subst e
   rcases mem_insert hp with e | e
   · exact ⟨l, by rw [e], h0, h1⟩
   · exact h.keys _ rfl p ((List.mem_filter.1 e).1)
 · by_cases e : m = l
   · subst e
     rw [Maps.atKey_put_same h.tidy.isMap (by trivial), if_pos rfl]
   · rw [Maps.atKey_put_other (fun e2 => e (by unfold key at e2; injection e2)), if_neg e]
     exact h.at_ m m0 m1
end Go.Proofs.YtmkhoocokpkojaaGreatDoor.solMem
namespace Go.Proofs.YtmkhoocokpkojaaGreatDoor.solDue
open Go.RowKit Go.Deep Go.Maps Go base sets setsOf solSets solOps solMath solHold solMem
set_option linter.unusedVariables false
set_option linter.unusedSimpArgs false
theorem setCells_facts (b : Nat) : ∀ (vs : List Value) (o : Nat) (w : World), (w.setCells b o vs).os = w.os ∧ (w.setCells b o vs).tape = w.tape ∧ (w.setCells b o vs).output = w.output ∧ (w.setCells b o vs).heap.size = w.heap.size ∧ (∀ j, j ≠ b → (w.setCells b o vs).heap[j]? = w.heap[j]?) ∧ (∀ g, (w.setCells b o vs).shape? g = w.shape? g)
 | [], o, w => ⟨rfl, rfl, rfl, rfl, fun _ _ => rfl, fun _ => rfl⟩
 | v :: r, o, w => by
  obtain ⟨h1, h2, h3, h4, h5, h6⟩ := setCells_facts b r (o + 1) (w.setCell ⟨b, o, none⟩ v)
  have hs : ∀ g, (w.setCell ⟨b, o, none⟩ v).shape? g = w.shape? g := fun g => by
   by_cases e : g = b
   · subst e
     unfold World.shape? World.setCell
     simp only [Array.getElem?_modify]
     cases hx : w.heap[g]? with
     | none => simp
     | some ob => cases ob <;> simp
   · exact shape_of (Below.heap_setCell _ _ _ _ (by simpa using e))
  refine ⟨?_, ?_, ?_, ?_, fun j hj => ?_, fun g => ?_⟩
  · rw [World.setCells]; exact h1.trans (by simp [World.setCell])
  · rw [World.setCells]; exact h2.trans (by simp [World.setCell])
  · rw [World.setCells]; exact h3.trans (by simp [World.setCell])
  · rw [World.setCells]; exact h4.trans (by simp [World.setCell])
  · rw [World.setCells]; exact (h5 j hj).trans (Below.heap_setCell _ _ _ _ (by simpa using hj))
  · rw [World.setCells]; exact (h6 g).trans (hs g)
def put1 (k i : Nat) (D : List Nat) : List Nat := D.take k ++ i :: D.drop k
theorem put1_len {k i : Nat} {D : List Nat} (h : k ≤ D.length) : (put1 k i D).length = D.length + 1 := by unfold put1; simp; omega
theorem put1_lo {k i j : Nat} {D : List Nat} (h : k ≤ D.length) (hj : j < k) : (put1 k i D)[j]?.getD 0 = D[j]?.getD 0 := by
 unfold put1
 rw [List.getElem?_append_left (by simp; omega), List.getElem?_take, if_pos hj]
theorem put1_at {k i : Nat} {D : List Nat} (h : k ≤ D.length) : (put1 k i D)[k]?.getD 0 = i := by
 unfold put1
 rw [List.getElem?_append_right (by simp; omega)]
 have : k - (D.take k).length = 0 := by simp; omega
 rw [this]; rfl
theorem put1_hi {k i j : Nat} {D : List Nat} (h : k ≤ D.length) (hj : k < j) : (put1 k i D)[j]?.getD 0 = D[j - 1]?.getD 0 := by
 unfold put1
 rw [List.getElem?_append_right (by simp; omega)]
 have : j - (D.take k).length = (j - 1 - k) + 1 := by simp; omega
 rw [this, List.getElem?_cons_succ, List.getElem?_drop]
 congr 2; omega
theorem intsN_get {D : List Nat} {j : Nat} {v : Value} (h : (intsN D)[j]? = some v) : j < D.length ∧ v = .int .i64 ((D[j]?.getD 0 : Nat) : Int) := by
 unfold intsN at h
 rw [List.getElem?_map] at h
 cases hd : D[j]? with
 | none => rw [hd] at h; cases h
 | some d => rw [hd] at h; injection h with h; exact ⟨(List.getElem?_eq_some_iff.1 hd).1, h.symm⟩
theorem intsN_one {D : List Nat} : ∀ v ∈ intsN D, v.oneCell' = true := fun v hv => by
 unfold intsN at hv
 obtain ⟨d, _, rfl⟩ := List.mem_map.1 hv
 rfl
section
variable {w : World}
theorem due_grown {g cap n : Nat} {cs : List Value} {E : List Nat} (w' : World) (hlen : E.length = n) (hc : n ≤ cap) (hm : cap ≤ maxLen) (arr : Array Value) (hh : w'.heap[g]? = some (.cells arr 3 (0, 0))) (hs : arr.size = cap) (h0 : 0 < cap) (hcell : ∀ j, j < n → arr[j]? = some (.int .i64 ((E[j]?.getD 0 : Nat) : Int))) : DueRow w' (.slice (some ⟨g, 0, none⟩) n cap) E := by
 refine .inr ⟨g, 0, n, cap, rfl, ⟨hlen, hc, hm, fun j hj => ?_, fun j hj => ?_, fun j => ?_, ⟨_, _, by unfold World.shape?; rw [hh], by omega⟩⟩⟩
 · simp [World.cell?, hh, hcell j hj]
 · simp [World.cell?, hh, Array.getElem?_eq_getElem (show j < arr.size by omega)]
 · simp [World.frozen?, hh]
end
theorem insert_impl (w : World) (v : Value) (D : List Nat) (k i vb : Nat) (h : DueRow w v D) (hk : k ≤ D.length) (hl : D.length ≤ 8400000000000) (hvb : v.ownBlock ≠ some vb) (hv : w.heap[vb]? = some (.cells #[.int .i64 i] 3 (0, 0))) :
  Calls Tryz.prog 93 #[v, .int .i64 k, .slice (some ⟨vb, 0, none⟩) 1 1] w fun e w' => ∃ v', e = .returned v' ∧ DueRow w' v' (put1 k i D) ∧ w.grownBy w' v.ownBlock ∧ (v'.ownBlock = v.ownBlock ∨ v'.ownBlock = some w.heap.size) := by
 have hvs : ∀ j u, [Value.int .i64 i][j]? = some u → w.cell? ⟨vb, 0 + j, none⟩ = some u := fun j u hj => by
  match j, hj with
  | 0, hj => simp at hj; subst hj; simp [World.cell?, hv]
 have h1v : ∀ u ∈ [Value.int .i64 (i : Int)], u.oneCell' = true := fun u hu => by simp at hu; subst hu; rfl
 have gsz : ∀ c : Nat, ((((intsN D) ++ [Value.int .i64 (i : Int)]).toArray ++ Builtin.zeroCells (Value.int .i64 0).cells (grownCap w (D.length + 1) c 3 - (D.length + 1)))).size = grownCap w (D.length + 1) c 3 := fun c => by
  have := grownCap_ge w (D.length + 1) c 3
  simp [intsN, Builtin.zeroCells, Value.cells]
  omega
 rcases h with ⟨rfl, rfl⟩ | ⟨g, off, n, cap, rfl, hd⟩
 · have e0 : k = 0 := by simpa using hk
   subst e0
   refine (Any2.slices_Insert_int_end_grow Tryz.lays2_21 none 0 0 vb 0 1 1 [] [.int .i64 i] w (by omega) (by omega) (by omega) (by omega) rfl rfl (fun _ => rfl) (fun a e => by cases e) hvs h1v).mono ?_
   rintro e w' ⟨rfl, rfl⟩
   simp only [show Tryz.lays2_21_ren.t 3 = 3 from rfl]
   have hge := grownCap_ge w 1 0 3
   have hle := grownCap_le_maxLen w 1 0 3 (by unfold maxLen; omega)
   have hsz : (([Value.int .i64 (i : Int)]).toArray ++ Builtin.zeroCells (Value.int .i64 0).cells (grownCap w 1 0 3 - 1)).size = grownCap w 1 0 3 := by
    simp [Builtin.zeroCells, Value.cells]
    omega
   refine ⟨_, rfl, due_grown (cs := []) _ rfl hge hle _ (Go.heap_alloc_new w.drew _) hsz (Nat.lt_of_lt_of_le (Nat.succ_pos _) hge) (fun j hj => ?_), ⟨rfl, rfl, rfl, by simp, fun q hq _ => Go.heap_alloc_old w.drew _ hq⟩, .inr rfl⟩
   have : j = 0 := by omega
   subst this
   rw [Array.getElem?_append_left (by simp)]
   simp [put1]
 · obtain ⟨hlen, hle, hmost, hcell, hsome, hfroz, t, kk, hsh, hkk⟩ := hd
   subst hlen
   have hcs : ∀ j u, (intsN D)[j]? = some u → w.cell? ⟨g, off + j, none⟩ = some u := fun j u hj => by
    obtain ⟨h1, rfl⟩ := intsN_get hj
    exact hcell j h1
   have hil : (intsN D).length = D.length := by unfold intsN; simp
   have hne : vb ≠ g := fun e => hvb (by simp [Value.ownBlock, e])
   by_cases hroom : D.length + 1 ≤ cap
   · by_cases hkn : k < D.length
     · refine (Any2.slices_Insert_int_shift Tryz.lays2_21 g off D.length cap k vb 0 1 1 (intsN D) [.int .i64 i] w hkn (by omega) hroom (by unfold maxLen at hmost; omega) hne hil rfl hcs (fun j hj => hsome j (by omega)) (fun j _ => hfroz _) hvs intsN_one h1v 3 t 1 kk (by unfold World.shape?; rw [hv]; rfl) hsh hkk (by simp [World.frozen?, hv]) (by simp [World.frozen?, hv])).mono ?_
       rintro e w' ⟨rfl, rfl⟩
       obtain ⟨a1, a2, a3, a4, a5, a6⟩ := setCells_facts g ((intsN D).drop k) (off + (k + 1)) w.drew
       obtain ⟨b1, b2, b3, b4, b5, b6⟩ := setCells_facts g [Value.int .i64 i] (off + k) (w.drew.setCells g (off + (k + 1)) ((intsN D).drop k))
       have hsm : ∀ j, j < cap → ((w.drew.setCells g (off + (k + 1)) ((intsN D).drop k)).cell? ⟨g, off + j, none⟩).isSome = true := fun j hj =>
        isSome_setCells g _ _ _ (fun q hq => by rw [Nat.add_assoc]; exact hsome _ (by simp [intsN] at hq; omega)) _ (hsome j hj)
       refine ⟨_, rfl, .inr ⟨g, off, D.length + 1, cap, rfl, ⟨put1_len hk, hroom, hmost, fun j hj => ?_, fun j hj => ?_, fun j => ?_, ⟨t, kk, (b6 g).trans ((a6 g).trans hsh), hkk⟩⟩⟩, ⟨b1.trans a1, b2.trans a2, b3.trans a3, by rw [b4, a4]; exact Nat.le_refl _, fun q hq hqn => (b5 q (fun e => hqn (by rw [e]; rfl))).trans (a5 q (fun e => hqn (by rw [e]; rfl)))⟩, .inl rfl⟩
       · rcases Nat.lt_trichotomy j k with hjk | hjk | hjk
         · rw [World.cell?_setCells_out g _ _ _ _ (fun _ _ => by simp; omega), World.cell?_setCells_out g _ _ _ _ (fun _ _ => by show off + j < off + (k + 1) ∨ _; omega), put1_lo hk hjk]
           exact hcell j (by omega)
         · subst hjk
           have := World.cell?_setCells_in g [Value.int .i64 i] (off + j) _ (fun q hq => by obtain rfl : q = 0 := (by simpa using hq); exact hsm j (by omega)) 0 (by simp)
           rw [put1_at hk]
           simpa using this
         · rw [World.cell?_setCells_out g _ _ _ _ (fun _ _ => by simp; omega), put1_hi hk hjk]
           have := World.cell?_setCells_in g ((intsN D).drop k) (off + (k + 1)) w.drew (fun q hq => by rw [Nat.add_assoc]; exact hsome _ (by simp [intsN] at hq; omega)) (j - (k + 1)) (by simp [intsN]; omega)
           rw [show off + (k + 1) + (j - (k + 1)) = off + j by omega] at this
           rw [this, List.getElem_drop]
           congr 1
           have hq := intsN_get (D := D) (j := k + (j - (k + 1))) (List.getElem?_eq_getElem (by simp [intsN]; omega))
           rw [hq.2]
           congr 4; omega
       · exact isSome_setCells g _ _ _ (fun q hq => by obtain rfl : q = 0 := (by simpa using hq); exact hsm k (by omega)) _ (hsm j hj)
       · rw [World.frozen?_setCells, World.frozen?_setCells]; exact hfroz j
     · have e : k = D.length := by omega
       subst e
       refine (Any2.slices_Insert_int_end_room Tryz.lays2_21 g off D.length cap vb 0 1 1 [.int .i64 i] w (by omega) hroom (by unfold maxLen at hmost; omega) rfl (fun j hj => by rw [Nat.add_assoc]; exact hsome _ (by omega)) (fun j _ => hfroz _) hvs h1v).mono ?_
       rintro e w' ⟨rfl, rfl⟩
       obtain ⟨b1, b2, b3, b4, b5, b6⟩ := setCells_facts g [Value.int .i64 i] (off + D.length) w
       refine ⟨_, rfl, .inr ⟨g, off, D.length + 1, cap, rfl, ⟨put1_len hk, hroom, hmost, fun j hj => ?_, fun j hj => ?_, fun j => ?_, ⟨t, kk, (b6 g).trans hsh, hkk⟩⟩⟩, ⟨b1, b2, b3, by rw [b4]; exact Nat.le_refl _, fun q hq hqn => b5 q (fun e => hqn (by rw [e]; rfl))⟩, .inl rfl⟩
       · by_cases hjk : j < D.length
         · rw [World.cell?_setCells_out g _ _ _ _ (fun _ _ => by simp; omega), put1_lo hk hjk]
           exact hcell j hjk
         · have e : j = D.length := by omega
           subst e
           have := World.cell?_setCells_in g [Value.int .i64 i] (off + D.length) w (fun q hq => by rw [Nat.add_assoc]; exact hsome _ (by simp at hq; omega)) 0 (by simp)
           rw [put1_at hk]
           simpa using this
       · exact isSome_setCells g _ _ _ (fun q hq => by rw [Nat.add_assoc]; exact hsome _ (by simp at hq; omega)) _ (hsome j hj)
       · rw [World.frozen?_setCells]; exact hfroz j
   · have hge := grownCap_ge w (D.length + 1) cap 3
     have hgm := grownCap_le_maxLen w (D.length + 1) cap 3 (by unfold maxLen; omega)
     by_cases hkn : k < D.length
     · refine (Any2.slices_Insert_int_grow Tryz.lays2_21 g off D.length cap k vb 0 1 1 (intsN D) [.int .i64 i] w hkn (by omega) hle (by omega) (by omega) hil rfl hcs hvs intsN_one h1v).mono ?_
       rintro e w' ⟨rfl, rfl⟩
       simp only [show Tryz.lays2_21_ren.t 3 = 3 from rfl]
       obtain ⟨G, hG⟩ : ∃ G, grownCap w (D.length + 1) cap 3 = G := ⟨_, rfl⟩
       rw [hG] at hge hgm ⊢
       obtain ⟨arr, harr⟩ : ∃ arr : Array Value, ((intsN D).take k).toArray ++ Builtin.zeroCells (Value.int .i64 0).cells (D.length + 1 - k) ++ Builtin.zeroCells (Value.int .i64 0).cells (G - (D.length + 1)) = arr := ⟨_, rfl⟩
       rw [harr]
       have hasz : arr.size = G := by rw [← harr]; simp [intsN, Builtin.zeroCells, Value.cells]; omega
       obtain ⟨W1, hW1⟩ : ∃ W1, (w.alloc (.cells arr 3)).drew = W1 := ⟨_, rfl⟩
       rw [hW1]
       have c1 : ∀ j, W1.cell? ⟨w.heap.size, j, none⟩ = arr[j]? := fun j => by rw [← hW1]; exact World.cell?_alloc_at (w := w) arr _ w.heap.size j rfl
       have z1 : W1.heap.size = w.heap.size + 1 := by rw [← hW1]; simp
       have o1 : ∀ j, j < w.heap.size → W1.heap[j]? = w.heap[j]? := fun j hj => by rw [← hW1]; exact Go.heap_alloc_old w _ hj
       have f1 : ∀ j, W1.frozen? ⟨w.heap.size, j, none⟩ = false := fun j => by rw [← hW1]; have := Go.heap_alloc_new w (.cells arr 3); show (w.alloc (.cells arr 3)).frozen? _ = _; unfold World.frozen?; dsimp only; rw [this]; simp
       have p1 : W1.shape? w.heap.size = some (3, G) := by rw [← hW1, ← hasz]; have := Go.heap_alloc_new w (.cells arr 3); show (w.alloc (.cells arr 3)).shape? _ = _; unfold World.shape?; rw [this]
       have q1 : W1.os = w.os ∧ W1.tape = w.tape ∧ W1.output = w.output := by rw [← hW1]; exact ⟨rfl, rfl, rfl⟩
       have m1 : ∀ j, j < G → (W1.cell? ⟨w.heap.size, 0 + j, none⟩).isSome = true := fun j hj => by rw [c1, Array.getElem?_eq_getElem (by omega)]; rfl
       clear hW1
       obtain ⟨a1, a2, a3, a4, a5, a6⟩ := setCells_facts w.heap.size [Value.int .i64 i] k W1
       obtain ⟨W2, hW2⟩ : ∃ W2, (W1.setCells w.heap.size k [Value.int .i64 i]).drew = W2 := ⟨_, rfl⟩
       have c2 : ∀ j, W2.cell? ⟨w.heap.size, j, none⟩ = if j = k then some (.int .i64 i) else arr[j]? := fun j => by
        rw [← hW2]
        show (W1.setCells w.heap.size k [Value.int .i64 i]).cell? _ = _
        by_cases e : j = k
        · subst e
          rw [if_pos rfl]
          have := World.cell?_setCells_in w.heap.size [Value.int .i64 i] j W1 (fun q hq => by obtain rfl : q = 0 := (by simpa using hq); have := m1 j (by omega); simpa using this) 0 (by simp)
          simpa using this
        · rw [if_neg e, World.cell?_setCells_out w.heap.size _ _ _ _ (fun _ _ => by simp; omega), c1]
       have a1' : W2.os = W1.os ∧ W2.tape = W1.tape ∧ W2.output = W1.output ∧ W2.heap.size = W1.heap.size := by rw [← hW2]; exact ⟨a1, a2, a3, a4⟩
       have a5' : ∀ j, j ≠ w.heap.size → W2.heap[j]? = W1.heap[j]? := by rw [← hW2]; exact a5
       have a6' : ∀ g, W2.shape? g = W1.shape? g := by rw [← hW2]; exact a6
       have f2 : ∀ j, W2.frozen? ⟨w.heap.size, j, none⟩ = false := fun j => by
        rw [← hW2]
        show (W1.setCells w.heap.size k [Value.int .i64 i]).frozen? _ = _
        rw [World.frozen?_setCells]; exact f1 j
       have m2 : ∀ j, j < G → (W2.cell? ⟨w.heap.size, j, none⟩).isSome = true := fun j hj => by
        rw [c2]
        split
        · rfl
        · rw [Array.getElem?_eq_getElem (by omega)]; rfl
       rw [hW2]
       clear hW2
       obtain ⟨b1, b2, b3, b4, b5, b6⟩ := setCells_facts w.heap.size ((intsN D).drop k) (k + 1) W2
       refine ⟨_, rfl, .inr ⟨w.heap.size, 0, D.length + 1, G, rfl, ⟨put1_len hk, hge, hgm, fun j hj => ?_, fun j hj => ?_, fun j => ?_, ⟨3, G, (b6 _).trans ((a6' _).trans p1), by omega⟩⟩⟩, ⟨b1.trans (a1'.1.trans q1.1), b2.trans (a1'.2.1.trans q1.2.1), b3.trans (a1'.2.2.1.trans q1.2.2), by rw [b4, a1'.2.2.2, z1]; omega, fun q hq _ => (b5 q (by omega)).trans ((a5' q (by omega)).trans (o1 q hq))⟩, .inr rfl⟩
       · rw [Nat.zero_add]
         rcases Nat.lt_trichotomy j k with hjk | hjk | hjk
         · rw [World.cell?_setCells_out w.heap.size _ _ _ _ (fun _ _ => by show j < k + 1 ∨ _; omega), c2, if_neg (by omega), put1_lo hk hjk, ← harr]
           rw [Array.getElem?_append_left (by simp [intsN, Builtin.zeroCells, Value.cells]; omega), Array.getElem?_append_left (by simp [intsN]; omega)]
           simp only [List.getElem?_toArray]
           rw [List.getElem?_take, if_pos hjk]
           have hq := intsN_get (D := D) (j := j) (List.getElem?_eq_getElem (by rw [hil]; omega))
           rw [List.getElem?_eq_getElem (by rw [hil]; omega), hq.2]
         · subst hjk
           rw [World.cell?_setCells_out w.heap.size _ _ _ _ (fun _ _ => by show j < j + 1 ∨ _; omega), c2, if_pos rfl, put1_at hk]
         · rw [put1_hi hk hjk]
           have := World.cell?_setCells_in w.heap.size ((intsN D).drop k) (k + 1) W2 (fun q hq => m2 _ (by simp [intsN] at hq; omega)) (j - (k + 1)) (by simp [intsN]; omega)
           rw [show k + 1 + (j - (k + 1)) = j by omega] at this
           rw [this, List.getElem_drop]
           congr 1
           have hq := intsN_get (D := D) (j := k + (j - (k + 1))) (List.getElem?_eq_getElem (by simp [intsN]; omega))
           rw [hq.2]
           congr 4; omega
       · rw [Nat.zero_add]
         exact isSome_setCells w.heap.size _ _ _ (fun q hq => m2 _ (by simp [intsN] at hq; omega)) _ (m2 j hj)
       · rw [World.frozen?_setCells]; exact f2 j
     · have e : k = D.length := by omega
       subst e
       refine (Any2.slices_Insert_int_end_grow Tryz.lays2_21 (some ⟨g, off, none⟩) D.length cap vb 0 1 1 (intsN D) [.int .i64 i] w (by omega) hle (by omega) (by omega) hil rfl (fun e => by cases e) (fun a e j u hj => by injection e with e; subst e; rw [Addr.add_lit]; exact hcs j u hj) hvs h1v).mono ?_
       rintro e w' ⟨rfl, rfl⟩
       simp only [show Tryz.lays2_21_ren.t 3 = 3 from rfl]
       have hsz := gsz cap
       refine ⟨_, rfl, due_grown (cs := []) _ (put1_len hk) hge hgm _ (Go.heap_alloc_new w.drew _) hsz (Nat.lt_of_lt_of_le (Nat.succ_pos _) hge) (fun j hj => ?_), ⟨rfl, rfl, rfl, by simp, fun q hq _ => Go.heap_alloc_old w.drew _ hq⟩, .inr rfl⟩
       rw [Array.getElem?_append_left (by simp [intsN]; omega)]
       by_cases hjk : j < D.length
       · rw [put1_lo hk hjk]
         simp only [List.getElem?_toArray]
         rw [List.getElem?_append_left (by rw [hil]; exact hjk)]
         have hq := intsN_get (D := D) (j := j) (List.getElem?_eq_getElem (by rw [hil]; exact hjk))
         rw [List.getElem?_eq_getElem (by rw [hil]; exact hjk), hq.2]
       · have e : j = D.length := by omega
         subst e
         rw [put1_at hk]
         simp only [List.getElem?_toArray]
         rw [List.getElem?_append_right (by rw [hil]; exact Nat.le_refl _), hil]
         simp
end Go.Proofs.YtmkhoocokpkojaaGreatDoor.solDue
