/- Rows of rows that a call makes for itself, their marks, and that they are held: for formulas; conditions: lengths that fit. -/
import Derived.Test.YtjdcndkgodpnlaaDoorPart1
import Derived.OwnWalk
import Derived.WalkSpells
import Derived.Maps.AppendAt
import Derived.Sort.Row
import Derived.Laws.ResultCell
namespace Go.Proofs.YtjdcndkgodpnlaaDoor.rowsOwn
open Go.RowKit Go.Deep Go.Sort base copy
set_option linter.unusedVariables false

/-- A slice of the call's own (blocks from B on) that holds a list of integers. -/
def OwnInts (B : Nat) (w : World) (v : Value) (zs : List Int) : Prop := w.ownsRow B 3 1 v zs.length (zs.map (Value.int .i64))
theorem OwnInts.nil (B : Nat) (w : World) : OwnInts B w (.slice none 0 0) [] := World.ownsRow_nil w B 3 1
theorem OwnInts.form {B : Nat} {w : World} {v : Value} {zs : List Int} (h : OwnInts B w v zs) : ∃ a cap, v = .slice a zs.length cap ∧ IntRow w a zs.length zs := by
  obtain ⟨h1, h2⟩ := h
  rcases h2 with ⟨rfl, hn⟩ | ⟨g, cap, cur, rfl, hb, hh, hn, hm, hs, ht⟩
  · exact ⟨none, 0, by rw [hn], ⟨rfl, by rw [hn]; exact Nat.zero_le _, fun i hi => by omega⟩⟩
  · refine ⟨some ⟨g, 0, none⟩, cap, rfl, ⟨rfl, Nat.le_trans hn hm, fun i hi => ⟨g, 0, rfl, ?_⟩⟩⟩
    have h3 : cur[i]? = some (.int .i64 (zs[i]?.getD 0)) := by
      have : (cur.toList.take (zs.length * 1))[i]? = (zs.map (Value.int .i64))[i]? := by rw [ht]
      rw [List.getElem?_take, if_pos (by omega)] at this
      rw [← Array.getElem?_toList, this, List.getElem?_map, List.getElem?_eq_getElem hi]
      rfl
    simp [World.cell?, hh, h3]
theorem OwnInts.below {B : Nat} {W w1 : World} {v : Value} {zs : List Int} (h : OwnInts B W v zs) (hb : Below W.heap.size W w1) : OwnInts B w1 v zs := by
  obtain ⟨h1, h2⟩ := h
  refine ⟨h1, ?_⟩
  rcases h2 with h2 | ⟨g, cap, cur, e, hg, hh, hn, hm, hs, ht⟩
  · exact .inl h2
  · exact .inr ⟨g, cap, cur, e, hg, by rw [hb.block g (Array.getElem?_eq_some_iff.1 hh).1]; exact hh, hn, hm, hs, ht⟩
theorem OwnInts.mono {B B' : Nat} {w : World} {v : Value} {zs : List Int} (h : OwnInts B w v zs) (hb : B' ≤ B) : OwnInts B' w v zs := by
  obtain ⟨h1, h2⟩ := h
  refine ⟨h1, ?_⟩
  rcases h2 with h2 | ⟨g, cap, cur, e, hg, hh, hn, hm, hs, ht⟩
  · exact .inl h2
  · exact .inr ⟨g, cap, cur, e, Nat.le_trans hb hg, hh, hn, hm, hs, ht⟩
theorem grown_below {B : Nat} {w w1 w2 : World} {v : Value} {zs : List Int} (h : OwnInts B w1 v zs) (hb : Below B w w1) (hB : B ≤ w1.heap.size) (hg : w1.grownBy w2 v.ownBlock) : Below B w w2 :=
  hb.grown hg hB (fun k hk => (World.ownsRow.lt h k hk).1)
theorem own_pass {B n : Nat} {w w1 : World} {v : Value} {t : TypeId} {s : Nat} {xs : List Value} (h : w.ownsRow B t s v n xs) (hb : Below w.heap.size w w1) : w1.ownsRow B t s v n xs := by
  obtain ⟨h1, h2⟩ := h
  refine ⟨h1, ?_⟩
  rcases h2 with h2 | ⟨g, cap, cur, e, hg, hh, hn, hm, hs, ht⟩
  · exact .inl h2
  · exact .inr ⟨g, cap, cur, e, hg, by rw [hb.block g (Array.getElem?_eq_some_iff.1 hh).1]; exact hh, hn, hm, hs, ht⟩
/-- A slice of slices of the call's own: the values of its cells, and what each of them reads as. -/
structure OwnRows (B : Nat) (w : World) (v : Value) (ps : List (Value × List Int)) : Prop where
  outer : w.ownsRow B 55 1 v ps.length (ps.map Prod.fst)
  inner : ∀ p ∈ ps, OwnInts B w p.1 p.2
theorem OwnRows.nil (B : Nat) (w : World) : OwnRows B w (.slice none 0 0) [] := ⟨World.ownsRow_nil w B 55 1, fun p hp => by simp at hp⟩
theorem OwnRows.below {B : Nat} {w w1 : World} {v : Value} {ps : List (Value × List Int)} (h : OwnRows B w v ps) (hb : RowKit.Below w.heap.size w w1) : OwnRows B w1 v ps :=
  ⟨own_pass h.outer hb, fun p hp => (h.inner p hp).below hb⟩
/-- The rows lie in other blocks than the row of rows. -/
theorem OwnRows.apart {B g n c : Nat} {w : World} {ps : List (Value × List Int)} (h : OwnRows B w (.slice (some ⟨g, 0, none⟩) n c) ps) {p : Value × List Int} (hp : OwnInts B w p.1 p.2) {k : Nat} (hk : p.1.ownBlock = some k) : k ≠ g := by
  intro e
  subst e
  rcases h.outer.2 with ⟨e, _⟩ | ⟨g', cap, cur, e, _, hh, _⟩
  · cases e
  · cases e
    rcases hp.2 with ⟨e, _⟩ | ⟨g', cap, cur', e, _, hh', _⟩
    · rw [e] at hk; cases hk
    · rw [e] at hk
      have hk' : some g' = some k := hk
      injection hk' with hk'
      subst hk'
      rw [hh] at hh'
      injection hh' with hh'
      injection hh' with _ ht
      exact absurd ht (by decide)
theorem own_grown {B : Nat} {w w1 : World} {v : Value} {zs : List Int} {row : Option Nat} (h : OwnInts B w v zs) (hg : w.grownBy w1 row) (hne : ∀ g, v.ownBlock = some g → some g ≠ row) : OwnInts B w1 v zs := by
  obtain ⟨h1, h2⟩ := h
  refine ⟨h1, ?_⟩
  rcases h2 with h2 | ⟨g, cap, cur, rfl, hgB, hh, hn, hm, hs, ht⟩
  · exact .inl h2
  · exact .inr ⟨g, cap, cur, rfl, hgB, by rw [hg.block g (Array.getElem?_eq_some_iff.1 hh).1 (hne g rfl)]; exact hh, hn, hm, hs, ht⟩
theorem grown_refl (w : World) (row : Option Nat) : w.grownBy w row := ⟨rfl, rfl, rfl, Nat.le_refl _, fun _ _ _ => rfl⟩
theorem grown_set {w w1 : World} {g k : Nat} {v : Value} (h : w.grownBy w1 (some g)) : w.grownBy (w1.setCell ⟨g, k, none⟩ v) (some g) := by
  rw [setCell_eq]
  refine ⟨h.os, h.tape, h.output, ?_, fun j hj hne => ?_⟩
  · show _ ≤ (w1.heap.modify g _).size
    rw [Array.size_modify]; exact h.size
  · show (w1.heap.modify g _)[j]? = _
    rw [Array.getElem?_modify, if_neg (fun e => hne (by rw [e]))]
    exact h.block j hj hne
def marks (n : Int) (len : Nat) : List Int := (List.range len).map (fun i : Nat => n + (i : Int))
theorem rows_cell {B g n c j : Nat} {w : World} {cs : List (Value × List Int)} (h : OwnRows B w (.slice (some ⟨g, 0, none⟩) n c) cs) (hj : j < n) : cs.length = n ∧ ∃ p, cs[j]? = some p ∧ w.cell? ⟨g, j, none⟩ = some p.1 ∧ w.frozen? ⟨g, j, none⟩ = false ∧ OwnInts B w p.1 p.2 := by
  have hl : cs.length = n := by
    rcases h.outer.2 with ⟨e, _⟩ | ⟨g', c', cur, e, _⟩
    · cases e
    · injection e with _ e _; exact e.symm
  have hjc : j < cs.length := by omega
  refine ⟨hl, cs[j], List.getElem?_eq_getElem hjc, ?_⟩
  rcases h.outer.2 with ⟨e, _⟩ | ⟨g', cap, cur, e, _, hh, _, _, hs, ht⟩
  · cases e
  · have eg : g = g' := by injection e with e; injection e with e; injection e
    subst eg
    have h3 : cur[j]? = some cs[j].1 := by
      have : (cur.toList.take (cs.length * 1))[j]? = (cs.map Prod.fst)[j]? := by rw [ht]
      rw [List.getElem?_take, if_pos (by omega)] at this
      rw [← Array.getElem?_toList, this, List.getElem?_map, List.getElem?_eq_getElem hjc]
      rfl
    exact ⟨by simp [World.cell?, hh, h3], by simp [World.frozen?, hh], h.inner _ (List.getElem_mem hjc)⟩
theorem own_mono {B B' n : Nat} {t : TypeId} {w : World} {v : Value} {xs : List Value} (h : w.ownsRow B t 1 v n xs) (hb : B' ≤ B) : w.ownsRow B' t 1 v n xs := by
  obtain ⟨h1, h2⟩ := h
  refine ⟨h1, ?_⟩
  rcases h2 with h2 | ⟨g, cap, cur, e, hg, hh, hn, hm, hs, ht⟩
  · exact .inl h2
  · exact .inr ⟨g, cap, cur, e, Nat.le_trans hb hg, hh, hn, hm, hs, ht⟩
theorem rows_mono {B B' : Nat} {w : World} {v : Value} {ps : List (Value × List Int)} (h : OwnRows B w v ps) (hb : B' ≤ B) : OwnRows B' w v ps := ⟨own_mono h.outer hb, fun p hp => (h.inner p hp).mono hb⟩
/-- A store ahead of what a list of clauses owns leaves it. -/
theorem own_ahead {B n b o : Nat} {t : TypeId} {w : World} {v x : Value} {xs : List Value} (h : w.ownsRow B t 1 v n xs) (hb : b < B) : (w.setCell ⟨b, o, none⟩ x).ownsRow B t 1 v n xs := by
  obtain ⟨h1, h2⟩ := h
  refine ⟨h1, ?_⟩
  rcases h2 with h2 | ⟨g, cap, cur, e, hg, hh, hn, hm, hs, ht⟩
  · exact .inl h2
  · refine .inr ⟨g, cap, cur, e, hg, ?_, hn, hm, hs, ht⟩
    rw [Sort.setCell_eq]
    show (w.heap.modify b _)[g]? = _
    rw [Array.getElem?_modify, if_neg (by omega), hh]
theorem rows_ahead {B b o : Nat} {w : World} {v x : Value} {ps : List (Value × List Int)} (h : OwnRows B w v ps) (hb : b < B) : OwnRows B (w.setCell ⟨b, o, none⟩ x) v ps := ⟨own_ahead h.outer hb, fun p hp => own_ahead (h.inner p hp) hb⟩
theorem info_row : (Tryd.prog.info? 55).map (fun i => (i.zero, i.size, i.bytes)) = some (some (.slice none 0 0), 1, 24) := by kernel_rfl
theorem outer_grown {B : Nat} {w w1 : World} {v : Value} {ps : List (Value × List Int)} {row : Option Nat} (h : OwnRows B w v ps) (hg : w.grownBy w1 row) (hne : ∀ g, v.ownBlock = some g → some g ≠ row) : w1.ownsRow B 55 1 v ps.length (ps.map Prod.fst) := by
  obtain ⟨h1, h2⟩ := h.outer
  refine ⟨h1, ?_⟩
  rcases h2 with h2 | ⟨g, cap, cur, rfl, hgB, hh, hn, hm, hs, ht⟩
  · exact .inl h2
  · exact .inr ⟨g, cap, cur, rfl, hgB, by rw [hg.block g (Array.getElem?_eq_some_iff.1 hh).1 (hne g rfl)]; exact hh, hn, hm, hs, ht⟩
/-- Of what was there only the blocks of these values may have turned. -/
def OnlyIn (w w' : World) (vs : List Value) : Prop := w.heap.size ≤ w'.heap.size ∧ ∀ g, g < w.heap.size → (∀ v ∈ vs, v.ownBlock ≠ some g) → w'.heap[g]? = w.heap[g]?
theorem OnlyIn.refl (w : World) (vs : List Value) : OnlyIn w w vs := ⟨Nat.le_refl _, fun _ _ _ => rfl⟩
theorem OnlyIn.grown {w w1 w2 : World} {vs : List Value} {v : Value} (h : OnlyIn w w1 vs) (hv : v ∈ vs) (hg : w1.grownBy w2 v.ownBlock) : OnlyIn w w2 vs :=
  ⟨Nat.le_trans h.1 hg.size, fun g hlt hne => by rw [hg.block g (Nat.lt_of_lt_of_le hlt h.1) (fun e => hne v hv e.symm)]; exact h.2 g hlt hne⟩
theorem OnlyIn.after {w w1 w2 : World} {vs : List Value} (hb : Below w.heap.size w w1) (h : OnlyIn w1 w2 vs) : OnlyIn w w2 vs :=
  ⟨Nat.le_trans hb.size h.1, fun g hlt hne => by rw [h.2 g (Nat.lt_of_lt_of_le hlt hb.size) hne]; exact hb.block g hlt⟩
theorem rows_of_own {B n c : Nat} {w : World} {a : Option Addr} {ps : List (Value × List Int)} (h : OwnRows B w (.slice a n c) ps) : IntRows w a n (ps.map (·.2)) := by
  rcases h.outer.2 with ⟨e, h0⟩ | ⟨g, cap, cur, e, _, _, hn, hm, _⟩
  · have e1 : n = 0 := by injection e
    subst e1
    exact ⟨by rw [List.length_map]; exact h0, Nat.zero_le _, fun i hi => absurd hi (Nat.not_lt_zero _)⟩
  · have e1 : a = some ⟨g, 0, none⟩ := by injection e
    have e2 : n = ps.length := by injection e
    subst e1
    refine ⟨by rw [List.length_map]; exact e2.symm, by omega, fun i hi => ⟨g, 0, rfl, ?_⟩⟩
    obtain ⟨_, p, hp, hc, _, ho⟩ := rows_cell h hi
    obtain ⟨a', c', e', hr⟩ := ho.form
    refine ⟨a', p.2.length, c', by rw [Nat.zero_add, hc, e'], ?_⟩
    rw [List.getElem?_map, hp]
    exact hr
end Go.Proofs.YtjdcndkgodpnlaaDoor.rowsOwn
