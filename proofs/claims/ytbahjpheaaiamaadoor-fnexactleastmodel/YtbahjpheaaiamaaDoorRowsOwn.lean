/- Rows of rows that a call makes for itself, their marks, and that they are held: for formulas; conditions: lengths that fit. -/
import Derived.Test.YtbahjpheaaiamaaDoorPart1
import Derived.OwnWalk
import Derived.WalkSpells
import Derived.Maps.AppendAt
import Derived.Sort.Row
import Derived.Laws.ResultCell
namespace Go.Proofs.YtbahjpheaaiamaaDoor.rowsOwn
open Go.RowKit Go.Deep Go.Sort base copy
set_option linter.unusedVariables false

/-- A slice of the call's own (blocks from B on) that holds a list of integers. -/
def OwnInts (B : Nat) (w : World) (v : Value) (zs : List Int) : Prop := w.ownsRow B 3 1 v zs.length (zs.map (Value.int .i64))
theorem OwnInts.nil (B : Nat) (w : World) : OwnInts B w (.slice none 0 0) [] := World.ownsRow_nil w B 3 1
theorem OwnInts.form {B : Nat} {w : World} {v : Value} {zs : List Int} (h : OwnInts B w v zs) : ∃ a cap, v = .slice a zs.length cap ∧ IntRow w a zs.length zs := by
  obtain ⟨h1, h2⟩ := h
  rcases h2 with ⟨rfl, hn⟩ | ⟨g, cap, cur, rfl, hb, hh, hn, hm, hs, ht⟩
  · exact ⟨none, 0, by rw [hn], ⟨rfl, by rw [hn]; exact Nat.zero_le _, fun i hi => by omega⟩⟩
  · refine ⟨some ⟨g, 0, none⟩, cap, rfl, ⟨rfl, Nat.le_trans hn hm, fun i hi => ⟨g, 0, rfl, ?_⟩⟩⟩
    have h3 : cur[i]? = some (.int .i64 (zs[i]?.getD 0)) := by
      have : (cur.toList.take (zs.length * 1))[i]? = (zs.map (Value.int .i64))[i]? := by rw [ht]
      rw [List.getElem?_take, if_pos (by omega)] at this
      rw [← Array.getElem?_toList, this, List.getElem?_map, List.getElem?_eq_getElem hi]
      rfl
    simp [World.cell?, hh, h3]
theorem OwnInts.below {B : Nat} {W w1 : World} {v : Value} {zs : List Int} (h : OwnInts B W v zs) (hb : Below W.heap.size W w1) : OwnInts B w1 v zs := by
  obtain ⟨h1, h2⟩ := h
  refine ⟨h1, ?_⟩
  rcases h2 with h2 | ⟨g, cap, cur, e, hg, hh, hn, hm, hs, ht⟩
  · exact .inl h2
  · exact .inr ⟨g, cap, cur, e, hg, by rw [hb.block g (Array.getElem?_eq_some_iff.1 hh).1]; exact hh, hn, hm, hs, ht⟩
theorem OwnInts.mono {B B' : Nat} {w : World} {v : Value} {zs : List Int} (h : OwnInts B w v zs) (hb : B' ≤ B) : OwnInts B' w v zs := by
  obtain ⟨h1, h2⟩ := h
  refine ⟨h1, ?_⟩
  rcases h2 with h2 | ⟨g, cap, cur, e, hg, hh, hn, hm, hs, ht⟩
  · exact .inl h2
  · exact .inr ⟨g, cap, cur, e, Nat.le_trans hb hg, hh, hn, hm, hs, ht⟩
theorem grown_below {B : Nat} {w w1 w2 : World} {v : Value} {zs : List Int} (h : OwnInts B w1 v zs) (hb : Below B w w1) (hB : B ≤ w1.heap.size) (hg : w1.grownBy w2 v.ownBlock) : Below B w w2 :=
  hb.grown hg hB (fun k hk => (World.ownsRow.lt h k hk).1)
theorem own_pass {B n : Nat} {w w1 : World} {v : Value} {t : TypeId} {s : Nat} {xs : List Value} (h : w.ownsRow B t s v n xs) (hb : Below w.heap.size w w1) : w1.ownsRow B t s v n xs := by
  obtain ⟨h1, h2⟩ := h
  refine ⟨h1, ?_⟩
  rcases h2 with h2 | ⟨g, cap, cur, e, hg, hh, hn, hm, hs, ht⟩
  · exact .inl h2
  · exact .inr ⟨g, cap, cur, e, hg, by rw [hb.block g (Array.getElem?_eq_some_iff.1 hh).1]; exact hh, hn, hm, hs, ht⟩
theorem own_holds {B g n cap : Nat} {w : World} {zs : List Int} (h : OwnInts B w (.slice (some ⟨g, 0, none⟩) n cap) zs) : zs.length = n ∧ ∀ j, j < n → w.cell? ⟨g, 0 + j, none⟩ = some (.int .i64 (zs[j]?.getD 0)) ∧ w.frozen? ⟨g, 0 + j, none⟩ = false := by
  obtain ⟨a, c, e, hr⟩ := h.form
  simp only [Value.slice.injEq] at e
  obtain ⟨rfl, hl, _⟩ := e
  refine ⟨hl.symm, fun j hj => ?_⟩
  obtain ⟨b, o, e2, hc⟩ := hr.cell j (by omega)
  cases e2
  refine ⟨hc, ?_⟩
  rcases h.2 with ⟨e, _⟩ | ⟨g', cap', cur, e, hg, hh, _⟩
  · cases e
  · cases e
    simp [World.frozen?, hh]
/-- A slice of slices of the call's own: the values of its cells, and what each of them reads as. -/
structure OwnRows (B : Nat) (w : World) (v : Value) (ps : List (Value × List Int)) : Prop where
  outer : w.ownsRow B 36 1 v ps.length (ps.map Prod.fst)
  inner : ∀ p ∈ ps, OwnInts B w p.1 p.2
theorem OwnRows.nil (B : Nat) (w : World) : OwnRows B w (.slice none 0 0) [] := ⟨World.ownsRow_nil w B 36 1, fun p hp => by simp at hp⟩
theorem OwnRows.below {B : Nat} {w w1 : World} {v : Value} {ps : List (Value × List Int)} (h : OwnRows B w v ps) (hb : RowKit.Below w.heap.size w w1) : OwnRows B w1 v ps :=
  ⟨own_pass h.outer hb, fun p hp => (h.inner p hp).below hb⟩
/-- The rows lie in other blocks than the row of rows. -/
theorem OwnRows.apart {B g n c : Nat} {w : World} {ps : List (Value × List Int)} (h : OwnRows B w (.slice (some ⟨g, 0, none⟩) n c) ps) {p : Value × List Int} (hp : OwnInts B w p.1 p.2) {k : Nat} (hk : p.1.ownBlock = some k) : k ≠ g := by
  intro e
  subst e
  rcases h.outer.2 with ⟨e, _⟩ | ⟨g', cap, cur, e, _, hh, _⟩
  · cases e
  · cases e
    rcases hp.2 with ⟨e, _⟩ | ⟨g', cap, cur', e, _, hh', _⟩
    · rw [e] at hk; cases hk
    · rw [e] at hk
      have hk' : some g' = some k := hk
      injection hk' with hk'
      subst hk'
      rw [hh] at hh'
      injection hh' with hh'
      injection hh' with _ ht
      exact absurd ht (by decide)
theorem row_of_own {B : Nat} {w : World} {a : Option Addr} {n c : Nat} {zs : List Int} (h : OwnInts B w (.slice a n c) zs) : IntRow w a n zs := by
  obtain ⟨a', c', e, hr⟩ := h.form
  have e1 : a = a' := by injection e
  have e2 : n = zs.length := by injection e
  rw [e1, e2]
  exact hr
theorem own_grown {B : Nat} {w w1 : World} {v : Value} {zs : List Int} {row : Option Nat} (h : OwnInts B w v zs) (hg : w.grownBy w1 row) (hne : ∀ g, v.ownBlock = some g → some g ≠ row) : OwnInts B w1 v zs := by
  obtain ⟨h1, h2⟩ := h
  refine ⟨h1, ?_⟩
  rcases h2 with h2 | ⟨g, cap, cur, rfl, hgB, hh, hn, hm, hs, ht⟩
  · exact .inl h2
  · exact .inr ⟨g, cap, cur, rfl, hgB, by rw [hg.block g (Array.getElem?_eq_some_iff.1 hh).1 (hne g rfl)]; exact hh, hn, hm, hs, ht⟩
theorem grown_refl (w : World) (row : Option Nat) : w.grownBy w row := ⟨rfl, rfl, rfl, Nat.le_refl _, fun _ _ _ => rfl⟩
theorem grown_set {w w1 : World} {g k : Nat} {v : Value} (h : w.grownBy w1 (some g)) : w.grownBy (w1.setCell ⟨g, k, none⟩ v) (some g) := by
  rw [setCell_eq]
  refine ⟨h.os, h.tape, h.output, ?_, fun j hj hne => ?_⟩
  · show _ ≤ (w1.heap.modify g _).size
    rw [Array.size_modify]; exact h.size
  · show (w1.heap.modify g _)[j]? = _
    rw [Array.getElem?_modify, if_neg (fun e => hne (by rw [e]))]
    exact h.block j hj hne
theorem own_set {B g n c k : Nat} {w : World} {zs : List Int} {z : Int} (h : OwnInts B w (.slice (some ⟨g, 0, none⟩) n c) zs) (hk : k < n) : OwnInts B (w.setCell ⟨g, k, none⟩ (.int .i64 z)) (.slice (some ⟨g, 0, none⟩) n c) (zs.set k z) := by
  obtain ⟨h1, h2⟩ := h
  have hl : zs.length = n := by
    rcases h2 with ⟨e, _⟩ | ⟨g', cap, cur, e, _⟩
    · cases e
    · simp only [Value.slice.injEq] at e; exact e.2.1.symm
  subst hl
  refine ⟨by simp, .inr ?_⟩
  rcases h2 with ⟨e, _⟩ | ⟨g', cap, cur, e, hg, hh, hn, hm, hs, ht⟩
  · cases e
  · cases e
    refine ⟨g, c, cur.setIfInBounds k (.int .i64 z), by rw [List.length_set], hg, ?_, by rw [List.length_set]; exact hn, hm, by simpa using hs, ?_⟩
    · rw [setCell_eq]
      show (w.heap.modify g _)[g]? = _
      rw [Array.getElem?_modify, if_pos rfl, hh]
      rfl
    · rw [List.length_set, Array.toList_setIfInBounds, List.take_set, ht, List.map_set]
def marks (n : Int) (len : Nat) : List Int := (List.range len).map (fun i : Nat => n + (i : Int))
set_option maxHeartbeats 800000 in
theorem mark_ints (B g len c : Nat) (zs : List Int) (n : Int) (w : World) (h : OwnInts B w (.slice (some ⟨g, 0, none⟩) len c) zs) (hn0 : 0 ≤ n) (hn : n ≤ 2097152) (hl : len ≤ 1048576) :
    Calls Tryd.prog 50 #[.slice (some ⟨g, 0, none⟩) len c, .int .i64 n] w fun e w' => e = .returned (.int .i64 (n + len)) ∧ OwnInts B w' (.slice (some ⟨g, 0, none⟩) len c) (marks n len) ∧ w.grownBy w' (some g) := by
  have hlen := (own_holds h).1
  have HO := hid h
  clear h
  go_enter Tryd.func50, Tryd.ntmps50
  go_wp2
  go_loopw [5, 1] (fun i t wr => ∃ k : Nat, k ≤ len ∧ i = .int .i64 k ∧ t = .int .i64 (n + k) ∧ w.grownBy wr (some g) ∧ ∃ ys, OwnInts B wr (.slice (some ⟨g, 0, none⟩) len c) ys ∧ ∀ j, j < k → ys[j]?.getD 0 = n + (j : Int)) (fun i _ _ => len - (intOf i).toNat)
  case atStart => exact ⟨0, Nat.zero_le _, rfl, by simp, grown_refl _ _, zs, HO.out, fun j hj => absurd hj (Nat.not_lt_zero _)⟩
  case round =>
    obtain ⟨k, hk, rfl, rfl, hgr, ys, hown, hys⟩ := hrel
    obtain ⟨hyl, hcells⟩ := own_holds hown
    have HG := hid hgr
    have HOw := hid hown
    have HY := hid hys
    clear hgr hys
    by_cases hlt : k < len
    · obtain ⟨hc, hf⟩ := hcells k hlt
      rw [Nat.zero_add] at hc hf
      have HYL := hid hyl
      clear hown hcells hyl
      go_wp2
      go_roundw
      case rel =>
        refine ⟨k + 1, by omega, by go_num, by congr 1; omega, grown_set HG.out, ys.set k (n + k), own_set HOw.out hlt, fun j hj => ?_⟩
        rw [List.getElem?_set]
        by_cases e : k = j
        · subst e; rw [if_pos rfl, if_pos (by rw [HYL.out]; exact hlt)]; rfl
        · rw [if_neg e]; exact HY.out j (by omega)
      case measure => simp [intOf]; omega
    · have e : k = len := by omega
      subst e
      have HE : Hid (ys = marks n k) := by
        show _ = _
        apply List.ext_getElem
        · simp [marks]; omega
        · intro i h1 h2
          have := HY.out i (by omega)
          rw [List.getElem?_eq_getElem h1] at this
          simp [marks] at this ⊢
          exact this
      clear hown hcells hyl
      go_wp2
      go_ret
      exact ⟨rfl, by rw [← HE.out]; exact HOw.out, HG.out⟩
set_option maxHeartbeats 400000 in
theorem mark_any (B : Nat) (v : Value) (zs : List Int) (n : Int) (w : World) (h : OwnInts B w v zs) (hn0 : 0 ≤ n) (hn : n ≤ 2097152) (hl : zs.length ≤ 1048576) :
    Calls Tryd.prog 50 #[v, .int .i64 n] w fun e w' => e = .returned (.int .i64 (n + zs.length)) ∧ OwnInts B w' v (marks n zs.length) ∧ w.grownBy w' v.ownBlock := by
  rcases h.2 with ⟨rfl, h0⟩ | ⟨g, cap, cur, rfl, _⟩
  · have hz : zs = [] := List.length_eq_zero_iff.1 h0
    subst hz
    go_enter Tryd.func50, Tryd.ntmps50
    go_wp2
    go_loop [5, 1] (fun i t => i = .int .i64 0 ∧ t = .int .i64 n) (fun _ _ => 0)
    case atStart => exact ⟨rfl, rfl⟩
    case round =>
      obtain ⟨rfl, rfl⟩ := hrel
      go_wp2
      go_ret
      exact ⟨rfl, OwnInts.nil _ _, grown_refl _ _⟩
  · exact mark_ints B g zs.length cap zs n w h hn0 hn hl
theorem rows_cell {B g n c j : Nat} {w : World} {cs : List (Value × List Int)} (h : OwnRows B w (.slice (some ⟨g, 0, none⟩) n c) cs) (hj : j < n) : cs.length = n ∧ ∃ p, cs[j]? = some p ∧ w.cell? ⟨g, j, none⟩ = some p.1 ∧ w.frozen? ⟨g, j, none⟩ = false ∧ OwnInts B w p.1 p.2 := by
  have hl : cs.length = n := by
    rcases h.outer.2 with ⟨e, _⟩ | ⟨g', c', cur, e, _⟩
    · cases e
    · injection e with _ e _; exact e.symm
  have hjc : j < cs.length := by omega
  refine ⟨hl, cs[j], List.getElem?_eq_getElem hjc, ?_⟩
  rcases h.outer.2 with ⟨e, _⟩ | ⟨g', cap, cur, e, _, hh, _, _, hs, ht⟩
  · cases e
  · have eg : g = g' := by injection e with e; injection e with e; injection e
    subst eg
    have h3 : cur[j]? = some cs[j].1 := by
      have : (cur.toList.take (cs.length * 1))[j]? = (cs.map Prod.fst)[j]? := by rw [ht]
      rw [List.getElem?_take, if_pos (by omega)] at this
      rw [← Array.getElem?_toList, this, List.getElem?_map, List.getElem?_eq_getElem hjc]
      rfl
    exact ⟨by simp [World.cell?, hh, h3], by simp [World.frozen?, hh], h.inner _ (List.getElem_mem hjc)⟩
/-- No two of the rows lie in one block. -/
def Lone (ps : List (Value × List Int)) : Prop := ps.Pairwise fun p q => ∀ g, p.1.ownBlock = some g → q.1.ownBlock = some g → False
/-- The marks of rows of these lengths, one behind the other. -/
def rowMarks (n : Int) : List Nat → List (List Int)
  | [] => []
  | l :: ls => marks n l :: rowMarks (n + l) ls
theorem rowMarks_length : ∀ (ls : List Nat) (n : Int), (rowMarks n ls).length = ls.length
  | [], _ => rfl
  | _ :: ls, n => by unfold rowMarks; rw [List.length_cons, rowMarks_length ls, List.length_cons]
theorem rowMarks_get : ∀ (ls : List Nat) (n : Int) (k : Nat), k < ls.length → (rowMarks n ls)[k]?.getD [] = marks (n + ((ls.take k).sum : Nat)) (ls[k]?.getD 0)
  | [], _, k, h => absurd h (Nat.not_lt_zero _)
  | l :: ls, n, 0, _ => by simp [rowMarks]
  | l :: ls, n, k + 1, h => by
    unfold rowMarks
    rw [List.getElem?_cons_succ, rowMarks_get ls (n + l) k (by simpa using h), List.getElem?_cons_succ, List.take_succ_cons, List.sum_cons]
    congr 1
    omega
theorem sum_succ {ls : List Nat} {k : Nat} (h : k < ls.length) : (ls.take (k + 1)).sum = (ls.take k).sum + ls[k]?.getD 0 := by
  rw [List.take_succ_eq_append_getElem h, List.getElem?_eq_getElem h, List.sum_append]
  simp
theorem sum_le : ∀ (ls : List Nat) (k : Nat), (ls.take k).sum ≤ ls.sum
  | [], k => by simp
  | l :: ls, 0 => by simp
  | l :: ls, k + 1 => by
    rw [List.take_succ_cons, List.sum_cons, List.sum_cons]
    have := sum_le ls k
    omega
theorem outer_grown {B : Nat} {w w1 : World} {v : Value} {ps : List (Value × List Int)} {row : Option Nat} (h : OwnRows B w v ps) (hg : w.grownBy w1 row) (hne : ∀ g, v.ownBlock = some g → some g ≠ row) : w1.ownsRow B 36 1 v ps.length (ps.map Prod.fst) := by
  obtain ⟨h1, h2⟩ := h.outer
  refine ⟨h1, ?_⟩
  rcases h2 with h2 | ⟨g, cap, cur, rfl, hgB, hh, hn, hm, hs, ht⟩
  · exact .inl h2
  · exact .inr ⟨g, cap, cur, rfl, hgB, by rw [hg.block g (Array.getElem?_eq_some_iff.1 hh).1 (hne g rfl)]; exact hh, hn, hm, hs, ht⟩
/-- Marking one row of rows that lie apart: the others and the row of rows are as they were. -/
theorem rows_marked {B k : Nat} {w w1 : World} {v : Value} {ps : List (Value × List Int)} {p : Value × List Int} {ys : List Int} (h : OwnRows B w v ps) (hl : Lone ps) (hk : ps[k]? = some p) (ho : OwnInts B w1 p.1 ys) (hg : w.grownBy w1 p.1.ownBlock) : OwnRows B w1 v (ps.set k (p.1, ys)) ∧ Lone (ps.set k (p.1, ys)) ∧ (ps.set k (p.1, ys)).map Prod.fst = ps.map Prod.fst := by
  have hkl : k < ps.length := (List.getElem?_eq_some_iff.1 hk).1
  have hke : ps[k] = p := (List.getElem?_eq_some_iff.1 hk).2
  have hmap : (ps.set k (p.1, ys)).map Prod.fst = ps.map Prod.fst := by
    rw [List.map_set]
    apply List.ext_getElem?
    intro i
    rw [List.getElem?_set]
    by_cases e : k = i
    · subst e
      rw [if_pos rfl, if_pos (by simpa using hkl), List.getElem?_map, hk]
      rfl
    · rw [if_neg e]
  have hpw := List.pairwise_iff_getElem.1 hl
  refine ⟨⟨?_, fun q hq => ?_⟩, ?_, hmap⟩
  · rw [hmap, List.length_set]
    refine outer_grown h hg fun g hv e => ?_
    rcases h.outer.2 with ⟨e', _⟩ | ⟨g', c', cur, e', _⟩
    · rw [e'] at hv; cases hv
    · subst e'
      have hv' : some g' = some g := hv
      injection hv' with hv'
      subst hv'
      exact OwnRows.apart h (h.inner p (hke ▸ List.getElem_mem hkl)) e.symm rfl
  · obtain ⟨i, hi, e⟩ := List.mem_iff_getElem.1 hq
    rw [List.getElem_set] at e
    by_cases eq : k = i
    · rw [if_pos eq] at e
      rw [← e]
      exact ho
    · rw [if_neg eq] at e
      have hi' : i < ps.length := by simpa using hi
      rw [← e]
      refine own_grown (h.inner _ (List.getElem_mem hi')) hg fun g hv e2 => ?_
      rcases Nat.lt_or_gt_of_ne eq with h1 | h1
      · exact hpw k i hkl hi' h1 g (by rw [hke]; exact e2.symm) hv
      · exact hpw i k hi' hkl h1 g hv (by rw [hke]; exact e2.symm)
  · have e1 : ∀ l : List (Value × List Int), Lone l ↔ (l.map Prod.fst).Pairwise fun x y => ∀ g, x.ownBlock = some g → y.ownBlock = some g → False := fun l => by unfold Lone; rw [List.pairwise_map]
    rw [e1, hmap, ← e1]
    exact hl
/-- Of what was there only the blocks of these values may have turned. -/
def OnlyIn (w w' : World) (vs : List Value) : Prop := w.heap.size ≤ w'.heap.size ∧ ∀ g, g < w.heap.size → (∀ v ∈ vs, v.ownBlock ≠ some g) → w'.heap[g]? = w.heap[g]?
theorem OnlyIn.refl (w : World) (vs : List Value) : OnlyIn w w vs := ⟨Nat.le_refl _, fun _ _ _ => rfl⟩
theorem OnlyIn.grown {w w1 w2 : World} {vs : List Value} {v : Value} (h : OnlyIn w w1 vs) (hv : v ∈ vs) (hg : w1.grownBy w2 v.ownBlock) : OnlyIn w w2 vs :=
  ⟨Nat.le_trans h.1 hg.size, fun g hlt hne => by rw [hg.block g (Nat.lt_of_lt_of_le hlt h.1) (fun e => hne v hv e.symm)]; exact h.2 g hlt hne⟩
theorem OnlyIn.after {w w1 w2 : World} {vs : List Value} (hb : Below w.heap.size w w1) (h : OnlyIn w1 w2 vs) : OnlyIn w w2 vs :=
  ⟨Nat.le_trans hb.size h.1, fun g hlt hne => by rw [h.2 g (Nat.lt_of_lt_of_le hlt hb.size) hne]; exact hb.block g hlt⟩
theorem own_only {B : Nat} {w w1 : World} {v : Value} {t : TypeId} {n : Nat} {xs : List Value} {vs : List Value} (h : w.ownsRow B t 1 v n xs) (ho : OnlyIn w w1 vs) (hne : ∀ u ∈ vs, ∀ g, u.ownBlock = some g → g < B) : w1.ownsRow B t 1 v n xs := by
  obtain ⟨h1, h2⟩ := h
  refine ⟨h1, ?_⟩
  rcases h2 with h2 | ⟨g, cap, cur, rfl, hgB, hh, hn, hm, hs, ht⟩
  · exact .inl h2
  · exact .inr ⟨g, cap, cur, rfl, hgB, by rw [ho.2 g (Array.getElem?_eq_some_iff.1 hh).1 (fun u hu e => by have := hne u hu g e; omega)]; exact hh, hn, hm, hs, ht⟩
theorem lens_set {qs : List (Value × List Int)} {ls : List Nat} {k : Nat} {pv : Value} {pz ys : List Int} (h : qs.map (fun p => p.2.length) = ls) (hp : qs[k]? = some (pv, pz)) (hy : ys.length = pz.length) : (qs.set k (pv, ys)).map (fun p => p.2.length) = ls := by
  have hkl : k < qs.length := (List.getElem?_eq_some_iff.1 hp).1
  rw [List.map_set, ← h]
  apply List.ext_getElem?
  intro i
  rw [List.getElem?_set]
  by_cases e : k = i
  · subst e
    rw [if_pos rfl, if_pos (by simpa using hkl), List.getElem?_map, hp]
    show some ys.length = some pz.length
    rw [hy]
  · rw [if_neg e]
theorem marks_set {qs : List (Value × List Int)} {M : List (List Int)} {k : Nat} {pv : Value} {ys : List Int} (h : ∀ j, j < k → (qs.map (·.2))[j]? = M[j]?) (hk : k < qs.length) (hM : M[k]? = some ys) : ∀ j, j < k + 1 → ((qs.set k (pv, ys)).map (·.2))[j]? = M[j]? := fun j hj => by
  rw [List.map_set, List.getElem?_set]
  by_cases e : k = j
  · subst e
    rw [if_pos rfl, if_pos (by simpa using hk), hM]
  · rw [if_neg e]
    exact h j (by omega)
set_option maxHeartbeats 800000 in
theorem mark_rows (B g len c : Nat) (ps : List (Value × List Int)) (n : Int) (w : World) (h : OwnRows B w (.slice (some ⟨g, 0, none⟩) len c) ps) (hlo : Lone ps) (hn0 : 0 ≤ n) (hn : n + ((ps.map (fun p => p.2.length)).sum : Nat) ≤ 1048576) (hlen : len ≤ 1048576) :
    Calls Tryd.prog 28 #[.slice (some ⟨g, 0, none⟩) len c, .int .i64 n] w fun e w' => e = .returned (.int .i64 (n + ((ps.map (fun p => p.2.length)).sum : Nat))) ∧ ∃ qs, OwnRows B w' (.slice (some ⟨g, 0, none⟩) len c) qs ∧ qs.map (·.2) = rowMarks n (ps.map (fun p => p.2.length)) ∧ Below B w w' ∧ OnlyIn w w' (ps.map Prod.fst) := by
  obtain ⟨ls, hls⟩ : ∃ ls, ps.map (fun p => p.2.length) = ls := ⟨_, rfl⟩
  rw [hls] at hn ⊢
  have hpl : ps.length = len := by
    rcases h.outer.2 with ⟨e, _⟩ | ⟨g', c', cur, e, _⟩
    · cases e
    · injection e with _ e _; exact e.symm
  have hll : ls.length = len := by rw [← hls, List.length_map, hpl]
  have HLL := hid hll
  have HO := hid h
  have HLo := hid hlo
  have HLS := hid hls
  clear h hlo hls hpl hll
  go_enter Tryd.func28, Tryd.ntmps28
  go_wp2
  go_loopw [5, 1] (fun i t wr => ∃ (k s : Nat) (qs : List (Value × List Int)), k ≤ len ∧ i = .int .i64 k ∧ t = .int .i64 (n + s) ∧ s = (ls.take k).sum ∧ OwnRows B wr (.slice (some ⟨g, 0, none⟩) len c) qs ∧ Lone qs ∧ qs.map (fun p => p.2.length) = ls ∧ (∀ j, j < k → (qs.map (·.2))[j]? = (rowMarks n ls)[j]?) ∧ Below B w wr ∧ qs.map Prod.fst = ps.map Prod.fst ∧ OnlyIn w wr (ps.map Prod.fst)) (fun i _ _ => len - (intOf i).toNat)
  case atStart => exact ⟨0, 0, ps, Nat.zero_le _, rfl, by simp, by simp, HO.out, HLo.out, HLS.out, fun j hj => absurd hj (Nat.not_lt_zero _), Below.refl _ _, rfl, OnlyIn.refl _ _⟩
  case round =>
    obtain ⟨k, s, qs, hk, rfl, rfl, hs, hown, hlone, hql, hqm, hbel, hfst, honly⟩ := hrel
    have HF := hid hfst
    have HOn := hid honly
    clear hfst honly
    have hs1 : s ≤ ls.sum := by rw [hs]; exact sum_le ls k
    have HOw := hid hown
    have HLn := hid hlone
    have HQL := hid hql
    have HQM := hid hqm
    have HB := hid hbel
    by_cases hlt : k < len
    · obtain ⟨hqlen, ⟨pv, pz⟩, hp, hcell, _, hpo⟩ := rows_cell hown hlt
      dsimp only at hcell hpo
      have hpl : pz.length = ls[k]?.getD 0 := by rw [← hql, List.getElem?_map, hp]; rfl
      have hkl : k < ls.length := by rw [HLL.out]; exact hlt
      have hsum := sum_succ (ls := ls) (k := k) hkl
      have hle := sum_le ls (k + 1)
      have hget := rowMarks_get ls n k hkl
      rw [← hs, ← hpl] at hsum hget
      have HGet : Hid ((rowMarks n ls)[k]? = some (marks (n + (s : Int)) pz.length)) := by
        show _ = _
        rw [List.getElem?_eq_getElem (by rw [rowMarks_length]; exact hkl)] at hget ⊢
        exact congrArg some hget
      have hBs : B ≤ wr.heap.size := by have := World.ownsRow.lt hown.outer g rfl; omega
      have HPo := hid hpo
      have HSum := hid hsum
      have HP := hid hp
      have HBs := hid hBs
      have HQn := hid hqlen
      have hb2 : s + pz.length ≤ ls.sum := by omega
      clear hown hlone hql hqm hbel hp hpo hsum hle hs hpl hBs hget hkl hqlen
      go_wp2_with fail
      refine (mark_any B pv pz (n + s) _ HPo.out (by omega) (by omega) (by omega)).mono ?_
      rintro e w2 ⟨rfl, ho2, hg2⟩
      have HM := hid (rows_marked HOw.out HLn.out HP.out ho2 hg2)
      have HB2 := hid (HB.out.grown hg2 HBs.out (fun k hk => (World.ownsRow.lt HPo.out k hk).1))
      have HOn2 : Hid (OnlyIn w w2 (ps.map Prod.fst)) := HOn.out.grown (by rw [← HF.out]; exact List.mem_map.2 ⟨(pv, pz), List.mem_of_getElem? HP.out, rfl⟩) hg2
      clear ho2 hg2
      go_wp2
      go_roundw
      case rel => exact ⟨k + 1, s + pz.length, _, by omega, by go_num, by congr 1; omega, HSum.out.symm, HM.out.1, HM.out.2.1, lens_set HQL.out HP.out (by simp [marks]), marks_set HQM.out (by rw [HQn.out]; exact hlt) HGet.out, HB2.out, by rw [HM.out.2.2, HF.out], HOn2.out⟩
      case measure => simp [intOf]; omega
    · have e : k = len := by omega
      subst e
      have HE : Hid (s = ls.sum) := by
        show _ = _
        rw [hs, List.take_of_length_le (by rw [HLL.out]; omega)]
      have HA : Hid (qs.map (·.2) = rowMarks n ls) := by
        show _ = _
        apply List.ext_getElem?
        intro i
        by_cases hi : i < k
        · exact HQM.out i hi
        · have e1 : qs.length = k := by rw [← HLL.out, ← HQL.out, List.length_map]
          rw [List.getElem?_eq_none (by rw [List.length_map]; omega), List.getElem?_eq_none (by rw [rowMarks_length, HLL.out]; omega)]
      clear hs hown hlone hql hqm hbel
      go_wp2
      go_ret
      exact ⟨by rw [← HE.out]; rfl, qs, HOw.out, HA.out, HB.out, HOn.out⟩
theorem rows_of_own {B n c : Nat} {w : World} {a : Option Addr} {ps : List (Value × List Int)} (h : OwnRows B w (.slice a n c) ps) : IntRows w a n (ps.map (·.2)) := by
  rcases h.outer.2 with ⟨e, h0⟩ | ⟨g, cap, cur, e, _, _, hn, hm, _⟩
  · have e1 : n = 0 := by injection e
    subst e1
    exact ⟨by rw [List.length_map]; exact h0, Nat.zero_le _, fun i hi => absurd hi (Nat.not_lt_zero _)⟩
  · have e1 : a = some ⟨g, 0, none⟩ := by injection e
    have e2 : n = ps.length := by injection e
    subst e1
    refine ⟨by rw [List.length_map]; exact e2.symm, by omega, fun i hi => ⟨g, 0, rfl, ?_⟩⟩
    obtain ⟨_, p, hp, hc, _, ho⟩ := rows_cell h hi
    obtain ⟨a', c', e', hr⟩ := ho.form
    refine ⟨a', p.2.length, c', by rw [Nat.zero_add, hc, e'], ?_⟩
    rw [List.getElem?_map, hp]
    exact hr
set_option maxHeartbeats 400000 in
theorem mark_rows_any (B : Nat) (v : Value) (ps : List (Value × List Int)) (n : Int) (w : World) (h : OwnRows B w v ps) (hlo : Lone ps) (hn0 : 0 ≤ n) (hn : n + ((ps.map (fun p => p.2.length)).sum : Nat) ≤ 1048576) (hlen : ps.length ≤ 1048576) :
    Calls Tryd.prog 28 #[v, .int .i64 n] w fun e w' => e = .returned (.int .i64 (n + ((ps.map (fun p => p.2.length)).sum : Nat))) ∧ ∃ qs, OwnRows B w' v qs ∧ qs.map (·.2) = rowMarks n (ps.map (fun p => p.2.length)) ∧ Below B w w' ∧ OnlyIn w w' (ps.map Prod.fst) := by
  rcases h.outer.2 with ⟨e, h0⟩ | ⟨g, cap, cur, e, _⟩
  · subst e
    have hz : ps = [] := List.length_eq_zero_iff.1 h0
    subst hz
    have HO := hid h
    clear h hlo h0
    go_enter Tryd.func28, Tryd.ntmps28
    go_wp2
    go_loop [5, 1] (fun i t => i = .int .i64 0 ∧ t = .int .i64 n) (fun _ _ => 0)
    case atStart => exact ⟨rfl, rfl⟩
    case round =>
      obtain ⟨rfl, rfl⟩ := hrel
      go_wp2
      go_ret
      exact ⟨by simp, [], HO.out, rfl, Below.refl _ _, OnlyIn.refl _ _⟩
  · subst e
    exact mark_rows B g ps.length cap ps n w h hlo hn0 hn hlen
set_option maxHeartbeats 400000 in
theorem markCnf_own (B : Nat) (vars : Int) (a : Option Addr) (len cap : Nat) (ps : List (Value × List Int)) (n : Int) (w : World) (h : OwnRows B w (.slice a len cap) ps) (hlo : Lone ps) (hB : B ≤ w.heap.size) (hn0 : 0 ≤ n) (hn : n + ((ps.map (fun p => p.2.length)).sum : Nat) ≤ 1048576) (hlen : ps.length ≤ 1048576) :
    Calls Tryd.prog 11 #[.agg #[.int .i64 vars, .slice a len cap], .int .i64 n] w fun e w' => e = .returned (.int .i64 (n + ((ps.map (fun p => p.2.length)).sum : Nat))) ∧ ∃ qs, OwnRows B w' (.slice a len cap) qs ∧ qs.map (·.2) = rowMarks n (ps.map (fun p => p.2.length)) ∧ Below B w w' ∧ OnlyIn w w' (ps.map Prod.fst) := by
  have HO := hid h
  have HLo := hid hlo
  have HBB := hid hB
  clear h hlo hB
  go_enter Tryd.func11, Tryd.ntmps11
  go_wp2_with fail
  refine (mark_rows_any B _ ps n _ (OwnRows.below HO.out (by repeat (first | exact Below.refl _ _ | assumption | refine Below.drew ?_ | refine Below.alloc ?_ (by first | exact Nat.le_refl _ | omega | (simp; done) | (simp; omega)) _ | refine Below.setCell ?_ (by first | exact Nat.le_refl _ | omega | (simp; done) | (simp; omega)) _))) HLo.out hn0 hn hlen).mono ?_
  rintro e w1 ⟨rfl, qs, ho, hm, hb, hon⟩
  have HO1 := hid ho
  have HM1 := hid hm
  have HB1 : Hid (Below B w w1) := ((Below.refl _ w).alloc HBB.out _).trans hb
  have HOn : Hid (OnlyIn w w1 (ps.map Prod.fst)) := OnlyIn.after (by repeat (first | exact Below.refl _ _ | assumption | refine Below.drew ?_ | refine Below.alloc ?_ (by first | exact Nat.le_refl _ | omega | (simp; done) | (simp; omega)) _ | refine Below.setCell ?_ (by first | exact Nat.le_refl _ | omega | (simp; done) | (simp; omega)) _)) hon
  clear ho hm hb hon
  go_wp2
  go_ret
  exact ⟨rfl, qs, HO1.out, HM1.out, HB1.out, HOn.out⟩
end Go.Proofs.YtbahjpheaaiamaaDoor.rowsOwn
