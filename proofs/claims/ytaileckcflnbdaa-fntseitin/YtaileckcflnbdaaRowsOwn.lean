/- Rows of rows that a call makes for itself, their marks, and that they are held: for formulas; conditions: lengths that fit. -/
import Derived.Test.YtaileckcflnbdaaCopy
import Derived.OwnWalk
import Derived.WalkSpells
import Derived.Maps.AppendAt
import Derived.Sort.Row
import Derived.Laws.ResultCell
namespace Go.Proofs.Ytaileckcflnbdaa.rowsOwn
open Go.RowKit Go.Deep Go.Sort base copy
set_option linter.unusedVariables false

/-- A slice of the call's own (blocks from B on) that holds a list of integers. -/
def OwnInts (B : Nat) (w : World) (v : Value) (zs : List Int) : Prop := w.ownsRow B 3 1 v zs.length (zs.map (Value.int .i64))
theorem OwnInts.nil (B : Nat) (w : World) : OwnInts B w (.slice none 0 0) [] := World.ownsRow_nil w B 3 1
theorem OwnInts.form {B : Nat} {w : World} {v : Value} {zs : List Int} (h : OwnInts B w v zs) : ∃ a cap, v = .slice a zs.length cap ∧ IntRow w a zs.length zs := by
  obtain ⟨h1, h2⟩ := h
  rcases h2 with ⟨rfl, hn⟩ | ⟨g, cap, cur, rfl, hb, hh, hn, hm, hs, ht⟩
  · exact ⟨none, 0, by rw [hn], ⟨rfl, by rw [hn]; exact Nat.zero_le _, fun i hi => by omega⟩⟩
  · refine ⟨some ⟨g, 0, none⟩, cap, rfl, ⟨rfl, Nat.le_trans hn hm, fun i hi => ⟨g, 0, rfl, ?_⟩⟩⟩
    have h3 : cur[i]? = some (.int .i64 (zs[i]?.getD 0)) := by
      have : (cur.toList.take (zs.length * 1))[i]? = (zs.map (Value.int .i64))[i]? := by rw [ht]
      rw [List.getElem?_take, if_pos (by omega)] at this
      rw [← Array.getElem?_toList, this, List.getElem?_map, List.getElem?_eq_getElem hi]
      rfl
    simp [World.cell?, hh, h3]
theorem OwnInts.below {B : Nat} {W w1 : World} {v : Value} {zs : List Int} (h : OwnInts B W v zs) (hb : Below W.heap.size W w1) : OwnInts B w1 v zs := by
  obtain ⟨h1, h2⟩ := h
  refine ⟨h1, ?_⟩
  rcases h2 with h2 | ⟨g, cap, cur, e, hg, hh, hn, hm, hs, ht⟩
  · exact .inl h2
  · exact .inr ⟨g, cap, cur, e, hg, by rw [hb.block g (Array.getElem?_eq_some_iff.1 hh).1]; exact hh, hn, hm, hs, ht⟩
theorem OwnInts.mono {B B' : Nat} {w : World} {v : Value} {zs : List Int} (h : OwnInts B w v zs) (hb : B' ≤ B) : OwnInts B' w v zs := by
  obtain ⟨h1, h2⟩ := h
  refine ⟨h1, ?_⟩
  rcases h2 with h2 | ⟨g, cap, cur, e, hg, hh, hn, hm, hs, ht⟩
  · exact .inl h2
  · exact .inr ⟨g, cap, cur, e, Nat.le_trans hb hg, hh, hn, hm, hs, ht⟩
theorem grown_below {B : Nat} {w w1 w2 : World} {v : Value} {zs : List Int} (h : OwnInts B w1 v zs) (hb : Below B w w1) (hB : B ≤ w1.heap.size) (hg : w1.grownBy w2 v.ownBlock) : Below B w w2 :=
  hb.grown hg hB (fun k hk => (World.ownsRow.lt h k hk).1)
theorem own_pass {B n : Nat} {w w1 : World} {v : Value} {t : TypeId} {s : Nat} {xs : List Value} (h : w.ownsRow B t s v n xs) (hb : Below w.heap.size w w1) : w1.ownsRow B t s v n xs := by
  obtain ⟨h1, h2⟩ := h
  refine ⟨h1, ?_⟩
  rcases h2 with h2 | ⟨g, cap, cur, e, hg, hh, hn, hm, hs, ht⟩
  · exact .inl h2
  · exact .inr ⟨g, cap, cur, e, hg, by rw [hb.block g (Array.getElem?_eq_some_iff.1 hh).1]; exact hh, hn, hm, hs, ht⟩
theorem own_holds {B g n cap : Nat} {w : World} {zs : List Int} (h : OwnInts B w (.slice (some ⟨g, 0, none⟩) n cap) zs) : zs.length = n ∧ ∀ j, j < n → w.cell? ⟨g, 0 + j, none⟩ = some (.int .i64 (zs[j]?.getD 0)) ∧ w.frozen? ⟨g, 0 + j, none⟩ = false := by
  obtain ⟨a, c, e, hr⟩ := h.form
  simp only [Value.slice.injEq] at e
  obtain ⟨rfl, hl, _⟩ := e
  refine ⟨hl.symm, fun j hj => ?_⟩
  obtain ⟨b, o, e2, hc⟩ := hr.cell j (by omega)
  cases e2
  refine ⟨hc, ?_⟩
  rcases h.2 with ⟨e, _⟩ | ⟨g', cap', cur, e, hg, hh, _⟩
  · cases e
  · cases e
    simp [World.frozen?, hh]
/-- A slice of slices of the call's own: the values of its cells, and what each of them reads as. -/
structure OwnRows (B : Nat) (w : World) (v : Value) (ps : List (Value × List Int)) : Prop where
  outer : w.ownsRow B 30 1 v ps.length (ps.map Prod.fst)
  inner : ∀ p ∈ ps, OwnInts B w p.1 p.2
theorem OwnRows.nil (B : Nat) (w : World) : OwnRows B w (.slice none 0 0) [] := ⟨World.ownsRow_nil w B 30 1, fun p hp => by simp at hp⟩
theorem OwnRows.below {B : Nat} {w w1 : World} {v : Value} {ps : List (Value × List Int)} (h : OwnRows B w v ps) (hb : RowKit.Below w.heap.size w w1) : OwnRows B w1 v ps :=
  ⟨own_pass h.outer hb, fun p hp => (h.inner p hp).below hb⟩
/-- The rows lie in other blocks than the row of rows. -/
theorem OwnRows.apart {B g n c : Nat} {w : World} {ps : List (Value × List Int)} (h : OwnRows B w (.slice (some ⟨g, 0, none⟩) n c) ps) {p : Value × List Int} (hp : OwnInts B w p.1 p.2) {k : Nat} (hk : p.1.ownBlock = some k) : k ≠ g := by
  intro e
  subst e
  rcases h.outer.2 with ⟨e, _⟩ | ⟨g', cap, cur, e, _, hh, _⟩
  · cases e
  · cases e
    rcases hp.2 with ⟨e, _⟩ | ⟨g', cap, cur', e, _, hh', _⟩
    · rw [e] at hk; cases hk
    · rw [e] at hk
      have hk' : some g' = some k := hk
      injection hk' with hk'
      subst hk'
      rw [hh] at hh'
      injection hh' with hh'
      injection hh' with _ ht
      exact absurd ht (by decide)
theorem row_of_own {B : Nat} {w : World} {a : Option Addr} {n c : Nat} {zs : List Int} (h : OwnInts B w (.slice a n c) zs) : IntRow w a n zs := by
  obtain ⟨a', c', e, hr⟩ := h.form
  have e1 : a = a' := by injection e
  have e2 : n = zs.length := by injection e
  rw [e1, e2]
  exact hr
theorem own_grown {B : Nat} {w w1 : World} {v : Value} {zs : List Int} {row : Option Nat} (h : OwnInts B w v zs) (hg : w.grownBy w1 row) (hne : ∀ g, v.ownBlock = some g → some g ≠ row) : OwnInts B w1 v zs := by
  obtain ⟨h1, h2⟩ := h
  refine ⟨h1, ?_⟩
  rcases h2 with h2 | ⟨g, cap, cur, rfl, hgB, hh, hn, hm, hs, ht⟩
  · exact .inl h2
  · exact .inr ⟨g, cap, cur, rfl, hgB, by rw [hg.block g (Array.getElem?_eq_some_iff.1 hh).1 (hne g rfl)]; exact hh, hn, hm, hs, ht⟩
theorem grown_refl (w : World) (row : Option Nat) : w.grownBy w row := ⟨rfl, rfl, rfl, Nat.le_refl _, fun _ _ _ => rfl⟩
theorem grown_set {w w1 : World} {g k : Nat} {v : Value} (h : w.grownBy w1 (some g)) : w.grownBy (w1.setCell ⟨g, k, none⟩ v) (some g) := by
  rw [setCell_eq]
  refine ⟨h.os, h.tape, h.output, ?_, fun j hj hne => ?_⟩
  · show _ ≤ (w1.heap.modify g _).size
    rw [Array.size_modify]; exact h.size
  · show (w1.heap.modify g _)[j]? = _
    rw [Array.getElem?_modify, if_neg (fun e => hne (by rw [e]))]
    exact h.block j hj hne
theorem own_set {B g n c k : Nat} {w : World} {zs : List Int} {z : Int} (h : OwnInts B w (.slice (some ⟨g, 0, none⟩) n c) zs) (hk : k < n) : OwnInts B (w.setCell ⟨g, k, none⟩ (.int .i64 z)) (.slice (some ⟨g, 0, none⟩) n c) (zs.set k z) := by
  obtain ⟨h1, h2⟩ := h
  have hl : zs.length = n := by
    rcases h2 with ⟨e, _⟩ | ⟨g', cap, cur, e, _⟩
    · cases e
    · simp only [Value.slice.injEq] at e; exact e.2.1.symm
  subst hl
  refine ⟨by simp, .inr ?_⟩
  rcases h2 with ⟨e, _⟩ | ⟨g', cap, cur, e, hg, hh, hn, hm, hs, ht⟩
  · cases e
  · cases e
    refine ⟨g, c, cur.setIfInBounds k (.int .i64 z), by rw [List.length_set], hg, ?_, by rw [List.length_set]; exact hn, hm, by simpa using hs, ?_⟩
    · rw [setCell_eq]
      show (w.heap.modify g _)[g]? = _
      rw [Array.getElem?_modify, if_pos rfl, hh]
      rfl
    · rw [List.length_set, Array.toList_setIfInBounds, List.take_set, ht, List.map_set]
def marks (n : Int) (len : Nat) : List Int := (List.range len).map (fun i : Nat => n + (i : Int))
theorem marks_get {n : Int} {len i : Nat} (h : i < len) : (marks n len)[i]?.getD 0 = n + (i : Int) := by
  unfold marks
  rw [List.getElem?_map, List.getElem?_range h]; rfl
theorem rows_cell {B g n c j : Nat} {w : World} {cs : List (Value × List Int)} (h : OwnRows B w (.slice (some ⟨g, 0, none⟩) n c) cs) (hj : j < n) : cs.length = n ∧ ∃ p, cs[j]? = some p ∧ w.cell? ⟨g, j, none⟩ = some p.1 ∧ w.frozen? ⟨g, j, none⟩ = false ∧ OwnInts B w p.1 p.2 := by
  have hl : cs.length = n := by
    rcases h.outer.2 with ⟨e, _⟩ | ⟨g', c', cur, e, _⟩
    · cases e
    · injection e with _ e _; exact e.symm
  have hjc : j < cs.length := by omega
  refine ⟨hl, cs[j], List.getElem?_eq_getElem hjc, ?_⟩
  rcases h.outer.2 with ⟨e, _⟩ | ⟨g', cap, cur, e, _, hh, _, _, hs, ht⟩
  · cases e
  · have eg : g = g' := by injection e with e; injection e with e; injection e
    subst eg
    have h3 : cur[j]? = some cs[j].1 := by
      have : (cur.toList.take (cs.length * 1))[j]? = (cs.map Prod.fst)[j]? := by rw [ht]
      rw [List.getElem?_take, if_pos (by omega)] at this
      rw [← Array.getElem?_toList, this, List.getElem?_map, List.getElem?_eq_getElem hjc]
      rfl
    exact ⟨by simp [World.cell?, hh, h3], by simp [World.frozen?, hh], h.inner _ (List.getElem_mem hjc)⟩
/-- No two of the rows lie in one block. -/
def Lone (ps : List (Value × List Int)) : Prop := ps.Pairwise fun p q => ∀ g, p.1.ownBlock = some g → q.1.ownBlock = some g → False
theorem own_mono {B B' n : Nat} {t : TypeId} {w : World} {v : Value} {xs : List Value} (h : w.ownsRow B t 1 v n xs) (hb : B' ≤ B) : w.ownsRow B' t 1 v n xs := by
  obtain ⟨h1, h2⟩ := h
  refine ⟨h1, ?_⟩
  rcases h2 with h2 | ⟨g, cap, cur, e, hg, hh, hn, hm, hs, ht⟩
  · exact .inl h2
  · exact .inr ⟨g, cap, cur, e, Nat.le_trans hb hg, hh, hn, hm, hs, ht⟩
theorem rows_mono {B B' : Nat} {w : World} {v : Value} {ps : List (Value × List Int)} (h : OwnRows B w v ps) (hb : B' ≤ B) : OwnRows B' w v ps := ⟨own_mono h.outer hb, fun p hp => (h.inner p hp).mono hb⟩
/-- A store ahead of what a list of clauses owns leaves it. -/
theorem own_ahead {B n b o : Nat} {t : TypeId} {w : World} {v x : Value} {xs : List Value} (h : w.ownsRow B t 1 v n xs) (hb : b < B) : (w.setCell ⟨b, o, none⟩ x).ownsRow B t 1 v n xs := by
  obtain ⟨h1, h2⟩ := h
  refine ⟨h1, ?_⟩
  rcases h2 with h2 | ⟨g, cap, cur, e, hg, hh, hn, hm, hs, ht⟩
  · exact .inl h2
  · refine .inr ⟨g, cap, cur, e, hg, ?_, hn, hm, hs, ht⟩
    rw [Sort.setCell_eq]
    show (w.heap.modify b _)[g]? = _
    rw [Array.getElem?_modify, if_neg (by omega), hh]
theorem rows_ahead {B b o : Nat} {w : World} {v x : Value} {ps : List (Value × List Int)} (h : OwnRows B w v ps) (hb : b < B) : OwnRows B (w.setCell ⟨b, o, none⟩ x) v ps := ⟨own_ahead h.outer hb, fun p hp => own_ahead (h.inner p hp) hb⟩
theorem info_row : (Try.prog.info? 30).map (fun i => (i.zero, i.size, i.bytes)) = some (some (.slice none 0 0), 1, 24) := by kernel_rfl
/-- The marks of rows of these lengths, one behind the other. -/
def rowMarks (n : Int) : List Nat → List (List Int)
  | [] => []
  | l :: ls => marks n l :: rowMarks (n + l) ls
theorem rowMarks_length : ∀ (ls : List Nat) (n : Int), (rowMarks n ls).length = ls.length
  | [], _ => rfl
  | _ :: ls, n => by unfold rowMarks; rw [List.length_cons, rowMarks_length ls, List.length_cons]
theorem rowMarks_get : ∀ (ls : List Nat) (n : Int) (k : Nat), k < ls.length → (rowMarks n ls)[k]?.getD [] = marks (n + ((ls.take k).sum : Nat)) (ls[k]?.getD 0)
  | [], _, k, h => absurd h (Nat.not_lt_zero _)
  | l :: ls, n, 0, _ => by simp [rowMarks]
  | l :: ls, n, k + 1, h => by
    unfold rowMarks
    rw [List.getElem?_cons_succ, rowMarks_get ls (n + l) k (by simpa using h), List.getElem?_cons_succ, List.take_succ_cons, List.sum_cons]
    congr 1
    omega
theorem sum_succ {ls : List Nat} {k : Nat} (h : k < ls.length) : (ls.take (k + 1)).sum = (ls.take k).sum + ls[k]?.getD 0 := by
  rw [List.take_succ_eq_append_getElem h, List.getElem?_eq_getElem h, List.sum_append]
  simp
theorem sum_le : ∀ (ls : List Nat) (k : Nat), (ls.take k).sum ≤ ls.sum
  | [], k => by simp
  | l :: ls, 0 => by simp
  | l :: ls, k + 1 => by
    rw [List.take_succ_cons, List.sum_cons, List.sum_cons]
    have := sum_le ls k
    omega
theorem outer_grown {B : Nat} {w w1 : World} {v : Value} {ps : List (Value × List Int)} {row : Option Nat} (h : OwnRows B w v ps) (hg : w.grownBy w1 row) (hne : ∀ g, v.ownBlock = some g → some g ≠ row) : w1.ownsRow B 30 1 v ps.length (ps.map Prod.fst) := by
  obtain ⟨h1, h2⟩ := h.outer
  refine ⟨h1, ?_⟩
  rcases h2 with h2 | ⟨g, cap, cur, rfl, hgB, hh, hn, hm, hs, ht⟩
  · exact .inl h2
  · exact .inr ⟨g, cap, cur, rfl, hgB, by rw [hg.block g (Array.getElem?_eq_some_iff.1 hh).1 (hne g rfl)]; exact hh, hn, hm, hs, ht⟩
/-- Marking one row of rows that lie apart: the others and the row of rows are as they were. -/
theorem rows_marked {B k : Nat} {w w1 : World} {v : Value} {ps : List (Value × List Int)} {p : Value × List Int} {ys : List Int} (h : OwnRows B w v ps) (hl : Lone ps) (hk : ps[k]? = some p) (ho : OwnInts B w1 p.1 ys) (hg : w.grownBy w1 p.1.ownBlock) : OwnRows B w1 v (ps.set k (p.1, ys)) ∧ Lone (ps.set k (p.1, ys)) ∧ (ps.set k (p.1, ys)).map Prod.fst = ps.map Prod.fst := by
  have hkl : k < ps.length := (List.getElem?_eq_some_iff.1 hk).1
  have hke : ps[k] = p := (List.getElem?_eq_some_iff.1 hk).2
  have hmap : (ps.set k (p.1, ys)).map Prod.fst = ps.map Prod.fst := by
    rw [List.map_set]
    apply List.ext_getElem?
    intro i
    rw [List.getElem?_set]
    by_cases e : k = i
    · subst e
      rw [if_pos rfl, if_pos (by simpa using hkl), List.getElem?_map, hk]
      rfl
    · rw [if_neg e]
  have hpw := List.pairwise_iff_getElem.1 hl
  refine ⟨⟨?_, fun q hq => ?_⟩, ?_, hmap⟩
  · rw [hmap, List.length_set]
    refine outer_grown h hg fun g hv e => ?_
    rcases h.outer.2 with ⟨e', _⟩ | ⟨g', c', cur, e', _⟩
    · rw [e'] at hv; cases hv
    · subst e'
      have hv' : some g' = some g := hv
      injection hv' with hv'
      subst hv'
      exact OwnRows.apart h (h.inner p (hke ▸ List.getElem_mem hkl)) e.symm rfl
  · obtain ⟨i, hi, e⟩ := List.mem_iff_getElem.1 hq
    rw [List.getElem_set] at e
    by_cases eq : k = i
    · rw [if_pos eq] at e
      rw [← e]
      exact ho
    · rw [if_neg eq] at e
      have hi' : i < ps.length := by simpa using hi
      rw [← e]
      refine own_grown (h.inner _ (List.getElem_mem hi')) hg fun g hv e2 => ?_
      rcases Nat.lt_or_gt_of_ne eq with h1 | h1
      · exact hpw k i hkl hi' h1 g (by rw [hke]; exact e2.symm) hv
      · exact hpw i k hi' hkl h1 g hv (by rw [hke]; exact e2.symm)
  · have e1 : ∀ l : List (Value × List Int), Lone l ↔ (l.map Prod.fst).Pairwise fun x y => ∀ g, x.ownBlock = some g → y.ownBlock = some g → False := fun l => by unfold Lone; rw [List.pairwise_map]
    rw [e1, hmap, ← e1]
    exact hl
/-- Of what was there only the blocks of these values may have turned. -/
def OnlyIn (w w' : World) (vs : List Value) : Prop := w.heap.size ≤ w'.heap.size ∧ ∀ g, g < w.heap.size → (∀ v ∈ vs, v.ownBlock ≠ some g) → w'.heap[g]? = w.heap[g]?
theorem OnlyIn.refl (w : World) (vs : List Value) : OnlyIn w w vs := ⟨Nat.le_refl _, fun _ _ _ => rfl⟩
theorem OnlyIn.grown {w w1 w2 : World} {vs : List Value} {v : Value} (h : OnlyIn w w1 vs) (hv : v ∈ vs) (hg : w1.grownBy w2 v.ownBlock) : OnlyIn w w2 vs :=
  ⟨Nat.le_trans h.1 hg.size, fun g hlt hne => by rw [hg.block g (Nat.lt_of_lt_of_le hlt h.1) (fun e => hne v hv e.symm)]; exact h.2 g hlt hne⟩
theorem OnlyIn.after {w w1 w2 : World} {vs : List Value} (hb : Below w.heap.size w w1) (h : OnlyIn w1 w2 vs) : OnlyIn w w2 vs :=
  ⟨Nat.le_trans hb.size h.1, fun g hlt hne => by rw [h.2 g (Nat.lt_of_lt_of_le hlt hb.size) hne]; exact hb.block g hlt⟩
theorem own_only {B : Nat} {w w1 : World} {v : Value} {t : TypeId} {n : Nat} {xs : List Value} {vs : List Value} (h : w.ownsRow B t 1 v n xs) (ho : OnlyIn w w1 vs) (hne : ∀ u ∈ vs, ∀ g, u.ownBlock = some g → g < B) : w1.ownsRow B t 1 v n xs := by
  obtain ⟨h1, h2⟩ := h
  refine ⟨h1, ?_⟩
  rcases h2 with h2 | ⟨g, cap, cur, rfl, hgB, hh, hn, hm, hs, ht⟩
  · exact .inl h2
  · exact .inr ⟨g, cap, cur, rfl, hgB, by rw [ho.2 g (Array.getElem?_eq_some_iff.1 hh).1 (fun u hu e => by have := hne u hu g e; omega)]; exact hh, hn, hm, hs, ht⟩
theorem rows_only {B : Nat} {w w1 : World} {v : Value} {ps : List (Value × List Int)} {vs : List Value} (h : OwnRows B w v ps) (ho : OnlyIn w w1 vs) (hne : ∀ u ∈ vs, ∀ g, u.ownBlock = some g → g < B) : OwnRows B w1 v ps :=
  ⟨own_only h.outer ho hne, fun p hp => own_only (h.inner p hp) ho hne⟩
theorem cell_only {b o : Nat} {w w1 : World} {x : Value} {vs : List Value} (h : w.cell? ⟨b, o, none⟩ = some x) (ho : OnlyIn w w1 vs) (hne : ∀ u ∈ vs, u.ownBlock ≠ some b) : w1.cell? ⟨b, o, none⟩ = some x := by
  have hb := World.block_lt_of_cell? _ _ h
  unfold World.cell? at h ⊢
  rw [ho.2 b hb hne]
  exact h
theorem lens_set {qs : List (Value × List Int)} {ls : List Nat} {k : Nat} {pv : Value} {pz ys : List Int} (h : qs.map (fun p => p.2.length) = ls) (hp : qs[k]? = some (pv, pz)) (hy : ys.length = pz.length) : (qs.set k (pv, ys)).map (fun p => p.2.length) = ls := by
  have hkl : k < qs.length := (List.getElem?_eq_some_iff.1 hp).1
  rw [List.map_set, ← h]
  apply List.ext_getElem?
  intro i
  rw [List.getElem?_set]
  by_cases e : k = i
  · subst e
    rw [if_pos rfl, if_pos (by simpa using hkl), List.getElem?_map, hp]
    show some ys.length = some pz.length
    rw [hy]
  · rw [if_neg e]
theorem marks_set {qs : List (Value × List Int)} {M : List (List Int)} {k : Nat} {pv : Value} {ys : List Int} (h : ∀ j, j < k → (qs.map (·.2))[j]? = M[j]?) (hk : k < qs.length) (hM : M[k]? = some ys) : ∀ j, j < k + 1 → ((qs.set k (pv, ys)).map (·.2))[j]? = M[j]? := fun j hj => by
  rw [List.map_set, List.getElem?_set]
  by_cases e : k = j
  · subst e
    rw [if_pos rfl, if_pos (by simpa using hk), hM]
  · rw [if_neg e]
    exact h j (by omega)
theorem rows_of_own {B n c : Nat} {w : World} {a : Option Addr} {ps : List (Value × List Int)} (h : OwnRows B w (.slice a n c) ps) : IntRows w a n (ps.map (·.2)) := by
  rcases h.outer.2 with ⟨e, h0⟩ | ⟨g, cap, cur, e, _, _, hn, hm, _⟩
  · have e1 : n = 0 := by injection e
    subst e1
    exact ⟨by rw [List.length_map]; exact h0, Nat.zero_le _, fun i hi => absurd hi (Nat.not_lt_zero _)⟩
  · have e1 : a = some ⟨g, 0, none⟩ := by injection e
    have e2 : n = ps.length := by injection e
    subst e1
    refine ⟨by rw [List.length_map]; exact e2.symm, by omega, fun i hi => ⟨g, 0, rfl, ?_⟩⟩
    obtain ⟨_, p, hp, hc, _, ho⟩ := rows_cell h hi
    obtain ⟨a', c', e', hr⟩ := ho.form
    refine ⟨a', p.2.length, c', by rw [Nat.zero_add, hc, e'], ?_⟩
    rw [List.getElem?_map, hp]
    exact hr
theorem rows_add {B : Nat} {w w3 : World} {v v' : Value} {ps qs : List (Value × List Int)} (h : OwnRows B w v ps) (hx : ∀ q ∈ qs, OwnInts B w q.1 q.2) (ho : w3.ownsRow B 30 1 v' (ps.length + qs.length) (ps.map Prod.fst ++ qs.map Prod.fst)) (hg : w.grownBy w3 v.ownBlock) : OwnRows B w3 v' (ps ++ qs) := by
  have hap : ∀ q : Value × List Int, OwnInts B w q.1 q.2 → OwnInts B w3 q.1 q.2 := fun q hq => by
    refine own_grown hq hg fun k hk => ?_
    rcases h.outer.2 with ⟨e, _⟩ | ⟨g', c', cur, e, _⟩
    · rw [e]; exact fun e => by cases e
    · subst e
      have hh := OwnRows.apart h hq hk
      intro e
      have e' : some k = some g' := e
      injection e' with e'
      exact hh e'
  refine ⟨by rw [List.length_append, List.map_append]; exact ho, fun q hq => ?_⟩
  rcases List.mem_append.1 hq with hq | hq
  · exact hap q (h.inner q hq)
  · exact hap _ (hx q hq)
theorem rows_below {B N : Nat} {w w1 w2 : World} {v : Value} {ps : List (Value × List Int)} (h : OwnRows B w1 v ps) (hb : Below N w w1) (hN : N ≤ B) (hB : B ≤ w1.heap.size) (hg : w1.grownBy w2 v.ownBlock) : Below N w w2 :=
  hb.grown hg (Nat.le_trans hN hB) (fun k hk => Nat.le_trans hN (World.ownsRow.lt h.outer k hk).1)
theorem rows_apart {B : Nat} {w : World} {v : Value} {ps : List (Value × List Int)} (h : OwnRows (B + 1) w v ps) : some B ≠ v.ownBlock := fun e => by
  have := (World.ownsRow.lt h.outer _ e.symm).1
  omega
theorem lone_more {ps qs : List (Value × List Int)} {M : Nat} (hl : Lone ps) (hq : Lone qs) (h1 : ∀ p ∈ ps, ∀ g, p.1.ownBlock = some g → g < M) (h2 : ∀ q ∈ qs, ∀ g, q.1.ownBlock = some g → M ≤ g) : Lone (ps ++ qs) :=
  List.pairwise_append.2 ⟨hl, hq, fun p hp q hq' g e1 e2 => by have := h1 p hp g e1; have := h2 q hq' g e2; omega⟩
theorem rows_lt {B : Nat} {w : World} {v : Value} {ps : List (Value × List Int)} (h : OwnRows B w v ps) : ∀ p ∈ ps, ∀ g, p.1.ownBlock = some g → g < w.heap.size := fun p hp g e => (World.ownsRow.lt (h.inner p hp) g e).2
theorem row_made {B : Nat} (w : World) (zs : List Int) (hB : B ≤ w.heap.size) (hl : zs.length ≤ maxLen) : OwnInts B (w.alloc (.cells (zs.map (Value.int .i64)).toArray 3)) (.slice (some ⟨w.heap.size, 0, none⟩) zs.length zs.length) zs :=
  ⟨by simp, .inr ⟨w.heap.size, zs.length, (zs.map (Value.int .i64)).toArray, rfl, hB, heap_alloc_new w _, Nat.le_refl _, hl, by simp, by simp [List.take_of_length_le]⟩⟩
end Go.Proofs.Ytaileckcflnbdaa.rowsOwn
