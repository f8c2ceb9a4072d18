import Derived.Test.YtmkhoocokpkojaaGreatDoorRows
import Derived.WalkKit
import Derived.Below
import Derived.Deep.OwnRows
import Derived.Deep.QuietTactic
import Derived.BigQuiet
import Derived.Deep.RegionWith
import Derived.OwnWalk
import Derived.WalkSpells
import Derived.Maps.AppendAt
import Derived.Sort.Row
import Derived.Laws.ResultCell
namespace Go.Proofs.YtmkhoocokpkojaaGreatDoor.base
open Go.RowKit Go.Deep
theorem ret_bool {a b : Bool} (h : a = b) : Ending.returned (.bool a) = .returned (.bool b) := by rw [h]
theorem ret_int {k : IntKind} {a b : Int} (h : a = b) : Ending.returned (.int k a) = .returned (.int k b) := by rw [h]
theorem hid {p : Prop} (h : p) : Hid p := h
theorem below_drewN (w : World) (n : Nat) : Below w.heap.size w (w.drewN n) := ⟨rfl, rfl, rfl, Nat.le_refl _, fun _ _ => rfl⟩
theorem keep {W w1 : World} (hb : Below W.heap.size W w1) {b o : Nat} {v : Value} (h : W.cell? ⟨b, o, none⟩ = some v) : w1.cell? ⟨b, o, none⟩ = some v := by
 rw [hb.cell (p := ⟨b, o, none⟩) (World.block_lt_of_cell? _ _ h)]; exact h
structure IntRow (w : World) (a : Option Addr) (len : Nat) (zs : List Int) : Prop where
 length : zs.length = len
 most : len ≤ maxLen
 cell : ∀ i, i < len → ∃ b off, a = some ⟨b, off, none⟩ ∧ w.cell? ⟨b, off + i, none⟩ = some (.int .i64 (zs[i]?.getD 0))
theorem IntRow.below {W w1 : World} {a : Option Addr} {len : Nat} {zs : List Int} (h : IntRow W a len zs) (hb : Below W.heap.size W w1) : IntRow w1 a len zs :=
 ⟨h.length, h.most, fun i hi => by
  obtain ⟨b, off, e, hc⟩ := h.cell i hi
  exact ⟨b, off, e, keep hb hc⟩⟩
theorem IntRow.drewN {W : World} {a : Option Addr} {len : Nat} {zs : List Int} (h : IntRow W a len zs) (n : Nat) : IntRow (W.drewN n) a len zs := h.below (below_drewN _ _)
structure IntRows (w : World) (a : Option Addr) (len : Nat) (zss : List (List Int)) : Prop where
 length : zss.length = len
 most : len ≤ maxLen
 cell : ∀ i, i < len → ∃ b off, a = some ⟨b, off, none⟩ ∧ ∃ a' l' c', w.cell? ⟨b, off + i, none⟩ = some (.slice a' l' c') ∧ IntRow w a' l' (zss[i]?.getD [])
theorem IntRows.below {W w1 : World} {a : Option Addr} {len : Nat} {zss : List (List Int)} (h : IntRows W a len zss) (hb : Below W.heap.size W w1) : IntRows w1 a len zss :=
 ⟨h.length, h.most, fun i hi => by
  obtain ⟨b, off, e, a', l', c', hc, hr⟩ := h.cell i hi
  exact ⟨b, off, e, a', l', c', keep hb hc, hr.below hb⟩⟩
structure BoolRow (w : World) (a : Option Addr) (len : Nat) (zs : List Bool) : Prop where
 length : zs.length = len
 most : len ≤ maxLen
 cell : ∀ i, i < len → ∃ b off, a = some ⟨b, off, none⟩ ∧ w.cell? ⟨b, off + i, none⟩ = some (.bool (zs[i]?.getD false))
theorem BoolRow.below {W w1 : World} {a : Option Addr} {len : Nat} {zs : List Bool} (h : BoolRow W a len zs) (hb : Below W.heap.size W w1) : BoolRow w1 a len zs :=
 ⟨h.length, h.most, fun i hi => by
  obtain ⟨b, off, e, hc⟩ := h.cell i hi
  exact ⟨b, off, e, keep hb hc⟩⟩
theorem all_take_succ {α : Type} {p : α → Bool} {zs : List α} {d : α} {k : Nat} (h : k < zs.length) : (zs.take (k + 1)).all p = ((zs.take k).all p && p (zs[k]?.getD d)) := by
 rw [List.take_succ_eq_append_getElem h, List.all_append, List.getElem?_eq_getElem h]; simp
theorem all_false {α : Type} {p : α → Bool} {zs : List α} {d : α} {k : Nat} (h : k < zs.length) (hp : p (zs[k]?.getD d) = false) : zs.all p = false := by
 rw [List.all_eq_false]
 refine ⟨zs[k], List.getElem_mem h, ?_⟩
 rw [List.getElem?_eq_getElem h] at hp
 simpa using hp
theorem any_take_succ {α : Type} {p : α → Bool} {zs : List α} {d : α} {k : Nat} (h : k < zs.length) : (zs.take (k + 1)).any p = ((zs.take k).any p || p (zs[k]?.getD d)) := by
 rw [List.take_succ_eq_append_getElem h, List.any_append, List.getElem?_eq_getElem h]; simp
end Go.Proofs.YtmkhoocokpkojaaGreatDoor.base
namespace Go.Proofs.YtmkhoocokpkojaaGreatDoor.copy
open Go.RowKit Go.Deep base
theorem Tryz.info_int : (Tryz.prog.info? 3).map (fun i => (i.zero, i.size, i.bytes)) = some (some (.int .i64 0), 1, 8) := by kernel_rfl
structure Copied (w : World) (N : Nat) (zss : List (List Int)) : Prop where
 outer : w.rowIs N 52 zss.length (fun i => .slice (some ⟨N + 1 + i, 0, none⟩) (zss[i]?.getD []).length (zss[i]?.getD []).length)
 inner : ∀ i, i < zss.length → w.rowIs (N + 1 + i) 3 (zss[i]?.getD []).length (fun j => .int .i64 ((zss[i]?.getD [])[j]?.getD 0))
theorem IntRow.of_rowIs {w : World} {b : Nat} {zs : List Int} {t : TypeId} (h : w.rowIs b t zs.length (fun j => .int .i64 (zs[j]?.getD 0))) (hm : zs.length ≤ maxLen) : IntRow w (some ⟨b, 0, none⟩) zs.length zs :=
 ⟨rfl, hm, fun i hi => ⟨b, 0, rfl, by simpa using h.cell hi⟩⟩
theorem Copied.rows {w : World} {N : Nat} {zss : List (List Int)} (h : Copied w N zss) (hm : zss.length ≤ maxLen) (hi : ∀ i, i < zss.length → (zss[i]?.getD []).length ≤ maxLen) : IntRows w (some ⟨N, 0, none⟩) zss.length zss :=
 ⟨rfl, hm, fun i hlt => ⟨N, 0, rfl, _, _, _, by simpa using h.outer.cell hlt, IntRow.of_rowIs (h.inner i hlt) (hi i hlt)⟩⟩
theorem Copied.set {w : World} {N : Nat} {zss : List (List Int)} (h : Copied w N zss) {a : Addr} (ha : a.block < N) (v : Value) : Copied (w.setCell a v) N zss :=
 ⟨h.outer.setOther (by omega) v, fun i hi => (h.inner i hi).setOther (by omega) v⟩
theorem Copied.below {w w1 : World} {N : Nat} {zss : List (List Int)} (h : Copied w N zss) (hb : Below w.heap.size w w1) : Copied w1 N zss :=
 ⟨h.outer.of_block (hb.block _ h.outer.lt), fun i hi => (h.inner i hi).of_block (hb.block _ (h.inner i hi).lt)⟩
theorem take_eq_succ {α : Type} {zs ys : List α} {d : α} {k : Nat} (hz : k < zs.length) (hy : k < ys.length) (h : zs.take k = ys.take k) (e : zs[k]?.getD d = ys[k]?.getD d) : zs.take (k + 1) = ys.take (k + 1) := by
 rw [List.getElem?_eq_getElem hz, List.getElem?_eq_getElem hy] at e
 have e' : zs[k] = ys[k] := by simpa using e
 rw [List.take_succ_eq_append_getElem hz, List.take_succ_eq_append_getElem hy, h, e']
theorem ne_of_getD {α : Type} {zs ys : List α} {d : α} {k : Nat} (e : ¬ zs[k]?.getD d = ys[k]?.getD d) : ¬ zs = ys := fun h => e (by rw [h])
theorem BoolRow.of_rowIs {w : World} {b len : Nat} {zs : List Bool} {t : TypeId} (hl : zs.length = len) (hm : len ≤ maxLen) (h : w.rowIs b t len (fun j => .bool (zs[j]?.getD false))) : BoolRow w (some ⟨b, 0, none⟩) len zs :=
 ⟨hl, hm, fun i hi => ⟨b, 0, rfl, by simpa using h.cell hi⟩⟩
theorem Tryz.info_bool : (Tryz.prog.info? 4).map (fun i => (i.zero, i.size, i.bytes)) = some (some (.bool false), 1, 1) := by kernel_rfl
end Go.Proofs.YtmkhoocokpkojaaGreatDoor.copy
namespace Go.Proofs.YtmkhoocokpkojaaGreatDoor.rowsOwn
open Go.RowKit Go.Deep Go.Sort base copy
set_option linter.unusedVariables false
def OwnInts (B : Nat) (w : World) (v : Value) (zs : List Int) : Prop := w.ownsRow B 3 1 v zs.length (zs.map (Value.int .i64))
theorem OwnInts.nil (B : Nat) (w : World) : OwnInts B w (.slice none 0 0) [] := World.ownsRow_nil w B 3 1
theorem OwnInts.form {B : Nat} {w : World} {v : Value} {zs : List Int} (h : OwnInts B w v zs) : ∃ a cap, v = .slice a zs.length cap ∧ IntRow w a zs.length zs := by
 obtain ⟨h1, h2⟩ := h
 rcases h2 with ⟨rfl, hn⟩ | ⟨g, cap, cur, rfl, hb, hh, hn, hm, hs, ht⟩
 · exact ⟨none, 0, by rw [hn], ⟨rfl, by rw [hn]; exact Nat.zero_le _, fun i hi => by omega⟩⟩
 · refine ⟨some ⟨g, 0, none⟩, cap, rfl, ⟨rfl, Nat.le_trans hn hm, fun i hi => ⟨g, 0, rfl, ?_⟩⟩⟩
   have h3 : cur[i]? = some (.int .i64 (zs[i]?.getD 0)) := by
    have : (cur.toList.take (zs.length * 1))[i]? = (zs.map (Value.int .i64))[i]? := by rw [ht]
    rw [List.getElem?_take, if_pos (by omega)] at this
    rw [← Array.getElem?_toList, this, List.getElem?_map, List.getElem?_eq_getElem hi]
    rfl
   simp [World.cell?, hh, h3]
theorem OwnInts.below {B : Nat} {W w1 : World} {v : Value} {zs : List Int} (h : OwnInts B W v zs) (hb : Below W.heap.size W w1) : OwnInts B w1 v zs := by
 obtain ⟨h1, h2⟩ := h
 refine ⟨h1, ?_⟩
 rcases h2 with h2 | ⟨g, cap, cur, e, hg, hh, hn, hm, hs, ht⟩
 · exact .inl h2
 · exact .inr ⟨g, cap, cur, e, hg, by rw [hb.block g (Array.getElem?_eq_some_iff.1 hh).1]; exact hh, hn, hm, hs, ht⟩
theorem OwnInts.mono {B B' : Nat} {w : World} {v : Value} {zs : List Int} (h : OwnInts B w v zs) (hb : B' ≤ B) : OwnInts B' w v zs := by
 obtain ⟨h1, h2⟩ := h
 refine ⟨h1, ?_⟩
 rcases h2 with h2 | ⟨g, cap, cur, e, hg, hh, hn, hm, hs, ht⟩
 · exact .inl h2
 · exact .inr ⟨g, cap, cur, e, Nat.le_trans hb hg, hh, hn, hm, hs, ht⟩
theorem grown_below {B : Nat} {w w1 w2 : World} {v : Value} {zs : List Int} (h : OwnInts B w1 v zs) (hb : Below B w w1) (hB : B ≤ w1.heap.size) (hg : w1.grownBy w2 v.ownBlock) : Below B w w2 :=
 hb.grown hg hB (fun k hk => (World.ownsRow.lt h k hk).1)
theorem own_pass {B n : Nat} {w w1 : World} {v : Value} {t : TypeId} {s : Nat} {xs : List Value} (h : w.ownsRow B t s v n xs) (hb : Below w.heap.size w w1) : w1.ownsRow B t s v n xs := by
 obtain ⟨h1, h2⟩ := h
 refine ⟨h1, ?_⟩
 rcases h2 with h2 | ⟨g, cap, cur, e, hg, hh, hn, hm, hs, ht⟩
 · exact .inl h2
 · exact .inr ⟨g, cap, cur, e, hg, by rw [hb.block g (Array.getElem?_eq_some_iff.1 hh).1]; exact hh, hn, hm, hs, ht⟩
theorem own_holds {B g n cap : Nat} {w : World} {zs : List Int} (h : OwnInts B w (.slice (some ⟨g, 0, none⟩) n cap) zs) : zs.length = n ∧ ∀ j, j < n → w.cell? ⟨g, 0 + j, none⟩ = some (.int .i64 (zs[j]?.getD 0)) ∧ w.frozen? ⟨g, 0 + j, none⟩ = false := by
 obtain ⟨a, c, e, hr⟩ := h.form
 simp only [Value.slice.injEq] at e
 obtain ⟨rfl, hl, _⟩ := e
 refine ⟨hl.symm, fun j hj => ?_⟩
 obtain ⟨b, o, e2, hc⟩ := hr.cell j (by omega)
 cases e2
 refine ⟨hc, ?_⟩
 rcases h.2 with ⟨e, _⟩ | ⟨g', cap', cur, e, hg, hh, _⟩
 · cases e
 · cases e
   simp [World.frozen?, hh]
structure OwnRows (B : Nat) (w : World) (v : Value) (ps : List (Value × List Int)) : Prop where
 outer : w.ownsRow B 52 1 v ps.length (ps.map Prod.fst)
 inner : ∀ p ∈ ps, OwnInts B w p.1 p.2
theorem OwnRows.nil (B : Nat) (w : World) : OwnRows B w (.slice none 0 0) [] := ⟨World.ownsRow_nil w B 52 1, fun p hp => by simp at hp⟩
theorem OwnRows.below {B : Nat} {w w1 : World} {v : Value} {ps : List (Value × List Int)} (h : OwnRows B w v ps) (hb : RowKit.Below w.heap.size w w1) : OwnRows B w1 v ps :=
 ⟨own_pass h.outer hb, fun p hp => (h.inner p hp).below hb⟩
theorem OwnRows.apart {B g n c : Nat} {w : World} {ps : List (Value × List Int)} (h : OwnRows B w (.slice (some ⟨g, 0, none⟩) n c) ps) {p : Value × List Int} (hp : OwnInts B w p.1 p.2) {k : Nat} (hk : p.1.ownBlock = some k) : k ≠ g := by
 intro e
 subst e
 rcases h.outer.2 with ⟨e, _⟩ | ⟨g', cap, cur, e, _, hh, _⟩
 · cases e
 · cases e
   rcases hp.2 with ⟨e, _⟩ | ⟨g', cap, cur', e, _, hh', _⟩
   · rw [e] at hk; cases hk
   · rw [e] at hk
     have hk' : some g' = some k := hk
     injection hk' with hk'
     subst hk'
     rw [hh] at hh'
     injection hh' with hh'
     injection hh' with _ ht
     exact absurd ht (by decide)
theorem own_grown {B : Nat} {w w1 : World} {v : Value} {zs : List Int} {row : Option Nat} (h : OwnInts B w v zs) (hg : w.grownBy w1 row) (hne : ∀ g, v.ownBlock = some g → some g ≠ row) : OwnInts B w1 v zs := by
 obtain ⟨h1, h2⟩ := h
 refine ⟨h1, ?_⟩
 rcases h2 with h2 | ⟨g, cap, cur, rfl, hgB, hh, hn, hm, hs, ht⟩
 · exact .inl h2
 · exact .inr ⟨g, cap, cur, rfl, hgB, by rw [hg.block g (Array.getElem?_eq_some_iff.1 hh).1 (hne g rfl)]; exact hh, hn, hm, hs, ht⟩
theorem grown_refl (w : World) (row : Option Nat) : w.grownBy w row := ⟨rfl, rfl, rfl, Nat.le_refl _, fun _ _ _ => rfl⟩
theorem grown_set {w w1 : World} {g k : Nat} {v : Value} (h : w.grownBy w1 (some g)) : w.grownBy (w1.setCell ⟨g, k, none⟩ v) (some g) := by
 rw [setCell_eq]
 refine ⟨h.os, h.tape, h.output, ?_, fun j hj hne => ?_⟩
 · show _ ≤ (w1.heap.modify g _).size
   rw [Array.size_modify]; exact h.size
 · show (w1.heap.modify g _)[j]? = _
   rw [Array.getElem?_modify, if_neg (fun e => hne (by rw [e]))]
   exact h.block j hj hne
theorem own_set {B g n c k : Nat} {w : World} {zs : List Int} {z : Int} (h : OwnInts B w (.slice (some ⟨g, 0, none⟩) n c) zs) (hk : k < n) : OwnInts B (w.setCell ⟨g, k, none⟩ (.int .i64 z)) (.slice (some ⟨g, 0, none⟩) n c) (zs.set k z) := by
 obtain ⟨h1, h2⟩ := h
 have hl : zs.length = n := by
  rcases h2 with ⟨e, _⟩ | ⟨g', cap, cur, e, _⟩
  · cases e
  · simp only [Value.slice.injEq] at e; exact e.2.1.symm
 subst hl
 refine ⟨by simp, .inr ?_⟩
 rcases h2 with ⟨e, _⟩ | ⟨g', cap, cur, e, hg, hh, hn, hm, hs, ht⟩
 · cases e
 · cases e
   refine ⟨g, c, cur.setIfInBounds k (.int .i64 z), by rw [List.length_set], hg, ?_, by rw [List.length_set]; exact hn, hm, by simpa using hs, ?_⟩
   · rw [setCell_eq]
     show (w.heap.modify g _)[g]? = _
     rw [Array.getElem?_modify, if_pos rfl, hh]
     rfl
   · rw [List.length_set, Array.toList_setIfInBounds, List.take_set, ht, List.map_set]
def marks (n : Int) (len : Nat) : List Int := (List.range len).map (fun i : Nat => n + (i : Int))
theorem rows_cell {B g n c j : Nat} {w : World} {cs : List (Value × List Int)} (h : OwnRows B w (.slice (some ⟨g, 0, none⟩) n c) cs) (hj : j < n) : cs.length = n ∧ ∃ p, cs[j]? = some p ∧ w.cell? ⟨g, j, none⟩ = some p.1 ∧ w.frozen? ⟨g, j, none⟩ = false ∧ OwnInts B w p.1 p.2 := by
 have hl : cs.length = n := by
  rcases h.outer.2 with ⟨e, _⟩ | ⟨g', c', cur, e, _⟩
  · cases e
  · injection e with _ e _; exact e.symm
 have hjc : j < cs.length := by omega
 refine ⟨hl, cs[j], List.getElem?_eq_getElem hjc, ?_⟩
 rcases h.outer.2 with ⟨e, _⟩ | ⟨g', cap, cur, e, _, hh, _, _, hs, ht⟩
 · cases e
 · have eg : g = g' := by injection e with e; injection e with e; injection e
   subst eg
   have h3 : cur[j]? = some cs[j].1 := by
    have : (cur.toList.take (cs.length * 1))[j]? = (cs.map Prod.fst)[j]? := by rw [ht]
    rw [List.getElem?_take, if_pos (by omega)] at this
    rw [← Array.getElem?_toList, this, List.getElem?_map, List.getElem?_eq_getElem hjc]
    rfl
   exact ⟨by simp [World.cell?, hh, h3], by simp [World.frozen?, hh], h.inner _ (List.getElem_mem hjc)⟩
def Lone (ps : List (Value × List Int)) : Prop := ps.Pairwise fun p q => ∀ g, p.1.ownBlock = some g → q.1.ownBlock = some g → False
theorem own_mono {B B' n : Nat} {t : TypeId} {w : World} {v : Value} {xs : List Value} (h : w.ownsRow B t 1 v n xs) (hb : B' ≤ B) : w.ownsRow B' t 1 v n xs := by
 obtain ⟨h1, h2⟩ := h
 refine ⟨h1, ?_⟩
 rcases h2 with h2 | ⟨g, cap, cur, e, hg, hh, hn, hm, hs, ht⟩
 · exact .inl h2
 · exact .inr ⟨g, cap, cur, e, Nat.le_trans hb hg, hh, hn, hm, hs, ht⟩
theorem rows_mono {B B' : Nat} {w : World} {v : Value} {ps : List (Value × List Int)} (h : OwnRows B w v ps) (hb : B' ≤ B) : OwnRows B' w v ps := ⟨own_mono h.outer hb, fun p hp => (h.inner p hp).mono hb⟩
theorem own_ahead {B n b o : Nat} {t : TypeId} {w : World} {v x : Value} {xs : List Value} (h : w.ownsRow B t 1 v n xs) (hb : b < B) : (w.setCell ⟨b, o, none⟩ x).ownsRow B t 1 v n xs := by
 obtain ⟨h1, h2⟩ := h
 refine ⟨h1, ?_⟩
 rcases h2 with h2 | ⟨g, cap, cur, e, hg, hh, hn, hm, hs, ht⟩
 · exact .inl h2
 · refine .inr ⟨g, cap, cur, e, hg, ?_, hn, hm, hs, ht⟩
   rw [Sort.setCell_eq]
   show (w.heap.modify b _)[g]? = _
   rw [Array.getElem?_modify, if_neg (by omega), hh]
theorem rows_ahead {B b o : Nat} {w : World} {v x : Value} {ps : List (Value × List Int)} (h : OwnRows B w v ps) (hb : b < B) : OwnRows B (w.setCell ⟨b, o, none⟩ x) v ps := ⟨own_ahead h.outer hb, fun p hp => own_ahead (h.inner p hp) hb⟩
theorem info_row : (Tryz.prog.info? 52).map (fun i => (i.zero, i.size, i.bytes)) = some (some (.slice none 0 0), 1, 24) := by kernel_rfl
theorem outer_grown {B : Nat} {w w1 : World} {v : Value} {ps : List (Value × List Int)} {row : Option Nat} (h : OwnRows B w v ps) (hg : w.grownBy w1 row) (hne : ∀ g, v.ownBlock = some g → some g ≠ row) : w1.ownsRow B 52 1 v ps.length (ps.map Prod.fst) := by
 obtain ⟨h1, h2⟩ := h.outer
 refine ⟨h1, ?_⟩
 rcases h2 with h2 | ⟨g, cap, cur, rfl, hgB, hh, hn, hm, hs, ht⟩
 · exact .inl h2
 · exact .inr ⟨g, cap, cur, rfl, hgB, by rw [hg.block g (Array.getElem?_eq_some_iff.1 hh).1 (hne g rfl)]; exact hh, hn, hm, hs, ht⟩
def OnlyIn (w w' : World) (vs : List Value) : Prop := w.heap.size ≤ w'.heap.size ∧ ∀ g, g < w.heap.size → (∀ v ∈ vs, v.ownBlock ≠ some g) → w'.heap[g]? = w.heap[g]?
theorem OnlyIn.refl (w : World) (vs : List Value) : OnlyIn w w vs := ⟨Nat.le_refl _, fun _ _ _ => rfl⟩
theorem OnlyIn.grown {w w1 w2 : World} {vs : List Value} {v : Value} (h : OnlyIn w w1 vs) (hv : v ∈ vs) (hg : w1.grownBy w2 v.ownBlock) : OnlyIn w w2 vs :=
 ⟨Nat.le_trans h.1 hg.size, fun g hlt hne => by rw [hg.block g (Nat.lt_of_lt_of_le hlt h.1) (fun e => hne v hv e.symm)]; exact h.2 g hlt hne⟩
theorem OnlyIn.after {w w1 w2 : World} {vs : List Value} (hb : Below w.heap.size w w1) (h : OnlyIn w1 w2 vs) : OnlyIn w w2 vs :=
 ⟨Nat.le_trans hb.size h.1, fun g hlt hne => by rw [h.2 g (Nat.lt_of_lt_of_le hlt hb.size) hne]; exact hb.block g hlt⟩
theorem rows_of_own {B n c : Nat} {w : World} {a : Option Addr} {ps : List (Value × List Int)} (h : OwnRows B w (.slice a n c) ps) : IntRows w a n (ps.map (·.2)) := by
 rcases h.outer.2 with ⟨e, h0⟩ | ⟨g, cap, cur, e, _, _, hn, hm, _⟩
 · have e1 : n = 0 := by injection e
   subst e1
   exact ⟨by rw [List.length_map]; exact h0, Nat.zero_le _, fun i hi => absurd hi (Nat.not_lt_zero _)⟩
 · have e1 : a = some ⟨g, 0, none⟩ := by injection e
   have e2 : n = ps.length := by injection e
   subst e1
   refine ⟨by rw [List.length_map]; exact e2.symm, by omega, fun i hi => ⟨g, 0, rfl, ?_⟩⟩
   obtain ⟨_, p, hp, hc, _, ho⟩ := rows_cell h hi
   obtain ⟨a', c', e', hr⟩ := ho.form
   refine ⟨a', p.2.length, c', by rw [Nat.zero_add, hc, e'], ?_⟩
   rw [List.getElem?_map, hp]
   exact hr
theorem row_made {B : Nat} (w : World) (zs : List Int) (hB : B ≤ w.heap.size) (hl : zs.length ≤ maxLen) : OwnInts B (w.alloc (.cells (zs.map (Value.int .i64)).toArray 3)) (.slice (some ⟨w.heap.size, 0, none⟩) zs.length zs.length) zs :=
 ⟨by simp, .inr ⟨w.heap.size, zs.length, (zs.map (Value.int .i64)).toArray, rfl, hB, heap_alloc_new w _, Nat.le_refl _, hl, by simp, by simp [List.take_of_length_le]⟩⟩
end Go.Proofs.YtmkhoocokpkojaaGreatDoor.rowsOwn
namespace Go.Proofs.YtmkhoocokpkojaaGreatDoor.intsOwn
open Go.RowKit Go.Deep Go.Sort base copy
set_option linter.unusedVariables false
def OwnInts (B : Nat) (w : World) (v : Value) (zs : List Int) : Prop := w.ownsRow B 3 1 v zs.length (zs.map (Value.int .i64))
theorem OwnInts.nil (B : Nat) (w : World) : OwnInts B w (.slice none 0 0) [] := World.ownsRow_nil w B 3 1
theorem OwnInts.form {B : Nat} {w : World} {v : Value} {zs : List Int} (h : OwnInts B w v zs) : ∃ a cap, v = .slice a zs.length cap ∧ IntRow w a zs.length zs := by
 obtain ⟨h1, h2⟩ := h
 rcases h2 with ⟨rfl, hn⟩ | ⟨g, cap, cur, rfl, hb, hh, hn, hm, hs, ht⟩
 · exact ⟨none, 0, by rw [hn], ⟨rfl, by rw [hn]; exact Nat.zero_le _, fun i hi => by omega⟩⟩
 · refine ⟨some ⟨g, 0, none⟩, cap, rfl, ⟨rfl, Nat.le_trans hn hm, fun i hi => ⟨g, 0, rfl, ?_⟩⟩⟩
   have h3 : cur[i]? = some (.int .i64 (zs[i]?.getD 0)) := by
    have : (cur.toList.take (zs.length * 1))[i]? = (zs.map (Value.int .i64))[i]? := by rw [ht]
    rw [List.getElem?_take, if_pos (by omega)] at this
    rw [← Array.getElem?_toList, this, List.getElem?_map, List.getElem?_eq_getElem hi]
    rfl
   simp [World.cell?, hh, h3]
theorem OwnInts.below {B : Nat} {W w1 : World} {v : Value} {zs : List Int} (h : OwnInts B W v zs) (hb : Below W.heap.size W w1) : OwnInts B w1 v zs := by
 obtain ⟨h1, h2⟩ := h
 refine ⟨h1, ?_⟩
 rcases h2 with h2 | ⟨g, cap, cur, e, hg, hh, hn, hm, hs, ht⟩
 · exact .inl h2
 · exact .inr ⟨g, cap, cur, e, hg, by rw [hb.block g (Array.getElem?_eq_some_iff.1 hh).1]; exact hh, hn, hm, hs, ht⟩
theorem OwnInts.mono {B B' : Nat} {w : World} {v : Value} {zs : List Int} (h : OwnInts B w v zs) (hb : B' ≤ B) : OwnInts B' w v zs := by
 obtain ⟨h1, h2⟩ := h
 refine ⟨h1, ?_⟩
 rcases h2 with h2 | ⟨g, cap, cur, e, hg, hh, hn, hm, hs, ht⟩
 · exact .inl h2
 · exact .inr ⟨g, cap, cur, e, Nat.le_trans hb hg, hh, hn, hm, hs, ht⟩
theorem grown_below {B : Nat} {w w1 w2 : World} {v : Value} {zs : List Int} (h : OwnInts B w1 v zs) (hb : Below B w w1) (hB : B ≤ w1.heap.size) (hg : w1.grownBy w2 v.ownBlock) : Below B w w2 :=
 hb.grown hg hB (fun k hk => (World.ownsRow.lt h k hk).1)
theorem own_pass {B n : Nat} {w w1 : World} {v : Value} {t : TypeId} {s : Nat} {xs : List Value} (h : w.ownsRow B t s v n xs) (hb : Below w.heap.size w w1) : w1.ownsRow B t s v n xs := by
 obtain ⟨h1, h2⟩ := h
 refine ⟨h1, ?_⟩
 rcases h2 with h2 | ⟨g, cap, cur, e, hg, hh, hn, hm, hs, ht⟩
 · exact .inl h2
 · exact .inr ⟨g, cap, cur, e, hg, by rw [hb.block g (Array.getElem?_eq_some_iff.1 hh).1]; exact hh, hn, hm, hs, ht⟩
theorem own_holds {B g n cap : Nat} {w : World} {zs : List Int} (h : OwnInts B w (.slice (some ⟨g, 0, none⟩) n cap) zs) : zs.length = n ∧ ∀ j, j < n → w.cell? ⟨g, 0 + j, none⟩ = some (.int .i64 (zs[j]?.getD 0)) ∧ w.frozen? ⟨g, 0 + j, none⟩ = false := by
 obtain ⟨a, c, e, hr⟩ := h.form
 simp only [Value.slice.injEq] at e
 obtain ⟨rfl, hl, _⟩ := e
 refine ⟨hl.symm, fun j hj => ?_⟩
 obtain ⟨b, o, e2, hc⟩ := hr.cell j (by omega)
 cases e2
 refine ⟨hc, ?_⟩
 rcases h.2 with ⟨e, _⟩ | ⟨g', cap', cur, e, hg, hh, _⟩
 · cases e
 · cases e
   simp [World.frozen?, hh]
theorem own_lt {B g : Nat} {w : World} {v : Value} {zs : List Int} (h : OwnInts B w v zs) (hg : v.ownBlock = some g) : B ≤ g ∧ g < w.heap.size := World.ownsRow.lt h g hg
theorem own_grown {B : Nat} {w w1 : World} {v : Value} {zs : List Int} {row : Option Nat} (h : OwnInts B w v zs) (hg : w.grownBy w1 row) (hne : ∀ g, v.ownBlock = some g → some g ≠ row) : OwnInts B w1 v zs := by
 obtain ⟨h1, h2⟩ := h
 refine ⟨h1, ?_⟩
 rcases h2 with h2 | ⟨g, cap, cur, rfl, hgB, hh, hn, hm, hs, ht⟩
 · exact .inl h2
 · exact .inr ⟨g, cap, cur, rfl, hgB, by rw [hg.block g (Array.getElem?_eq_some_iff.1 hh).1 (hne g rfl)]; exact hh, hn, hm, hs, ht⟩
theorem grown_refl (w : World) (row : Option Nat) : w.grownBy w row := ⟨rfl, rfl, rfl, Nat.le_refl _, fun _ _ _ => rfl⟩
theorem grown_set {w w1 : World} {g k : Nat} {v : Value} (h : w.grownBy w1 (some g)) : w.grownBy (w1.setCell ⟨g, k, none⟩ v) (some g) := by
 rw [setCell_eq]
 refine ⟨h.os, h.tape, h.output, ?_, fun j hj hne => ?_⟩
 · show _ ≤ (w1.heap.modify g _).size
   rw [Array.size_modify]; exact h.size
 · show (w1.heap.modify g _)[j]? = _
   rw [Array.getElem?_modify, if_neg (fun e => hne (by rw [e]))]
   exact h.block j hj hne
theorem own_set {B g n c k : Nat} {w : World} {zs : List Int} {z : Int} (h : OwnInts B w (.slice (some ⟨g, 0, none⟩) n c) zs) (hk : k < n) : OwnInts B (w.setCell ⟨g, k, none⟩ (.int .i64 z)) (.slice (some ⟨g, 0, none⟩) n c) (zs.set k z) := by
 obtain ⟨h1, h2⟩ := h
 have hl : zs.length = n := by
  rcases h2 with ⟨e, _⟩ | ⟨g', cap, cur, e, _⟩
  · cases e
  · simp only [Value.slice.injEq] at e; exact e.2.1.symm
 subst hl
 refine ⟨by simp, .inr ?_⟩
 rcases h2 with ⟨e, _⟩ | ⟨g', cap, cur, e, hg, hh, hn, hm, hs, ht⟩
 · cases e
 · cases e
   refine ⟨g, c, cur.setIfInBounds k (.int .i64 z), by rw [List.length_set], hg, ?_, by rw [List.length_set]; exact hn, hm, by simpa using hs, ?_⟩
   · rw [setCell_eq]
     show (w.heap.modify g _)[g]? = _
     rw [Array.getElem?_modify, if_pos rfl, hh]
     rfl
   · rw [List.length_set, Array.toList_setIfInBounds, List.take_set, ht, List.map_set]
def marks (n : Int) (len : Nat) : List Int := (List.range len).map (fun i : Nat => n + (i : Int))
end Go.Proofs.YtmkhoocokpkojaaGreatDoor.intsOwn
