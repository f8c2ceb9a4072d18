/- Lists of sets of literals in memory of the call's own, and what tells whether all of them meet values; with the contracts of the functions that make and read them; conditions: lengths that fit. -/
import Derived.Test.YtolejaegnkcjjaaDoorSets
import Derived.OwnWalk
import Derived.WalkSpells
import Derived.Maps.AppendAt
namespace Go.Proofs.YtolejaegnkcjjaaDoor.setsOf
open Go.RowKit Go.Deep base copy cnf eval sets

def setCells (zss : List (List Int)) : List Value := zss.flatMap (fun zs => [.int .u64 (pSet zs), .int .u64 (oSet zs)])
theorem setCells_get : ∀ (zss : List (List Int)) (i : Nat), i < zss.length → (setCells zss)[i * 2]? = some (.int .u64 (pSet (zss[i]?.getD []))) ∧ (setCells zss)[i * 2 + 1]? = some (.int .u64 (oSet (zss[i]?.getD [])))
  | [], i, h => absurd h (Nat.not_lt_zero _)
  | z :: zss, 0, _ => ⟨rfl, rfl⟩
  | z :: zss, i + 1, h => by
    have := setCells_get zss i (by simpa using h)
    have e : setCells (z :: zss) = [.int .u64 (pSet z), .int .u64 (oSet z)] ++ setCells zss := rfl
    rw [e, show (i + 1) * 2 = i * 2 + 2 by omega]
    rw [List.getElem?_append_right (by simp), List.getElem?_append_right (by simp)]
    simpa using this
theorem setCells_append (zss : List (List Int)) (zs : List Int) : setCells (zss ++ [zs]) = setCells zss ++ [.int .u64 (pSet zs), .int .u64 (oSet zs)] := by
  simp [setCells]
theorem cell_two_new (w : World) (x y : Value) (t : TypeId) : ∀ j u, [x, y][j]? = some u → (w.alloc (.cells #[x, y] t)).cell? ((⟨w.heap.size, 0, none⟩ : Addr).add j) = some u := by
  intro j u h
  rcases j with _ | _ | j
  · simp at h; subst h; simp [go_sem, Addr.add]
  · simp at h; subst h; simp [go_sem, Addr.add]
  · simp at h
theorem take_snoc {α : Type} {zs : List α} {d : α} {k : Nat} (h : k < zs.length) : zs.take (k + 1) = zs.take k ++ [zs[k]?.getD d] := by
  rw [List.take_succ_eq_append_getElem h, List.getElem?_eq_getElem h]; rfl
/-- A slice that reads as a list of sets. -/
structure SetRow (w : World) (a : Option Addr) (len : Nat) (zss : List (List Int)) : Prop where
  length : zss.length = len
  most : len ≤ maxLen
  cell : ∀ i, i < len → ∃ b, a = some ⟨b, 0, none⟩ ∧ w.cell? ⟨b, i * 2, none⟩ = some (.int .u64 (pSet (zss[i]?.getD []))) ∧ w.cell? ⟨b, i * 2 + 1, none⟩ = some (.int .u64 (oSet (zss[i]?.getD [])))
theorem SetRow.below {W w1 : World} {a : Option Addr} {len : Nat} {zss : List (List Int)} (h : SetRow W a len zss) (hb : Below W.heap.size W w1) : SetRow w1 a len zss :=
  ⟨h.length, h.most, fun i hi => by
    obtain ⟨b, e, h1, h2⟩ := h.cell i hi
    exact ⟨b, e, keep hb h1, keep hb h2⟩⟩
def OwnSets (B : Nat) (w : World) (v : Value) (zss : List (List Int)) : Prop := w.ownsRow B 52 2 v zss.length (setCells zss)
theorem OwnSets.nil (B : Nat) (w : World) : OwnSets B w (.slice none 0 0) [] := World.ownsRow_nil w B 52 2
theorem OwnSets.form {B : Nat} {w : World} {v : Value} {zss : List (List Int)} (h : OwnSets B w v zss) : ∃ a cap, v = .slice a zss.length cap ∧ SetRow w a zss.length zss := by
  obtain ⟨h1, h2⟩ := h
  rcases h2 with ⟨rfl, hn⟩ | ⟨g, cap, cur, rfl, hb, hh, hn, hm, hs, ht⟩
  · exact ⟨none, 0, by rw [hn], ⟨rfl, by rw [hn]; exact Nat.zero_le _, fun i hi => by omega⟩⟩
  · refine ⟨some ⟨g, 0, none⟩, cap, rfl, ⟨rfl, Nat.le_trans hn hm, fun i hi => ⟨g, rfl, ?_⟩⟩⟩
    have h3 : ∀ j, j < zss.length * 2 → cur[j]? = (setCells zss)[j]? := fun j hj => by
      have : (cur.toList.take (zss.length * 2))[j]? = (setCells zss)[j]? := by rw [ht]
      rw [List.getElem?_take, if_pos hj] at this
      rw [← Array.getElem?_toList, this]
    obtain ⟨g1, g2⟩ := setCells_get zss i hi
    have e1 := h3 (i * 2) (by omega)
    have e2 := h3 (i * 2 + 1) (by omega)
    rw [g1] at e1
    rw [g2] at e2
    exact ⟨by simp [World.cell?, hh, e1], by simp [World.cell?, hh, e2]⟩
theorem OwnSets.below {B : Nat} {W w1 : World} {v : Value} {zss : List (List Int)} (h : OwnSets B W v zss) (hb : Below W.heap.size W w1) : OwnSets B w1 v zss := by
  obtain ⟨h1, h2⟩ := h
  refine ⟨h1, ?_⟩
  rcases h2 with h2 | ⟨g, cap, cur, e, hg, hh, hn, hm, hs, ht⟩
  · exact .inl h2
  · exact .inr ⟨g, cap, cur, e, hg, by rw [hb.block g (Array.getElem?_eq_some_iff.1 hh).1]; exact hh, hn, hm, hs, ht⟩
theorem grown_below {B : Nat} {w w1 w2 : World} {v : Value} {zss : List (List Int)} (h : OwnSets B w1 v zss) (hb : Below B w w1) (hB : B ≤ w1.heap.size) (hg : w1.grownBy w2 v.ownBlock) : Below B w w2 :=
  hb.grown hg hB (fun k hk => (World.ownsRow.lt h k hk).1)

theorem Tryd.info_set : (Tryd.prog.info? 52).map (fun i => (i.zero, i.size, i.bytes)) = some (some (.agg #[.int .u64 0, .int .u64 0]), 2, 16) := by kernel_rfl

set_option maxHeartbeats 1600000 in
theorem setsOf_impl (a : Option Addr) (len cap : Nat) (zss : List (List Int)) (w : World) (hr : IntRows w a len zss) (hb : len ≤ 1048576) (hz : ∀ i, i < len → ∀ z ∈ zss[i]?.getD [], z.natAbs < 41) :
    Calls Tryd.prog 23 #[.slice a len cap] w fun e w' => ∃ v, e = .returned v ∧ OwnSets w.heap.size w' v zss ∧ Below w.heap.size w w' := by
  have hmost := hr.most
  unfold maxLen at hmost
  have HR := hid hr
  have HL := hid hr.length
  have HZ := hid hz
  clear hr hz
  obtain ⟨i0, hi, hzz⟩ := Option.map_eq_some_iff.1 Tryd.info_set
  simp only [Prod.mk.injEq] at hzz
  obtain ⟨hz0, hz1, hz2⟩ := hzz
  have HI := hid hi
  have HZ0 := hid hz0
  have HZ1 := hid hz1
  have HZ2 := hid hz2
  clear hi hz0 hz1 hz2
  go_enter Tryd.func23, Tryd.ntmps23
  go_wp2
  go_loopw [8, 3] (fun i v wr => ∃ k : Nat, k ≤ len ∧ i = .int .i64 k ∧ OwnSets w.heap.size wr v (zss.take k) ∧ Below w.heap.size w wr) (fun i _ _ => len - (intOf i).toNat)
  case atStart => exact ⟨0, Nat.zero_le _, rfl, OwnSets.nil _ _, Below.refl _ _⟩
  case round =>
    rename_i v0
    obtain ⟨k, hk, rfl, hown, hbel⟩ := hrel
    have HO := hid hown
    have HB := hid hbel
    by_cases hlt : k < len
    · obtain ⟨b, off, rfl, x, l, c, hc0, hx0⟩ := HR.out.cell k hlt
      have hc := keep hbel hc0
      have HX := hid (hx0.below hbel)
      have HZk := hid (HZ.out k hlt)
      have HT := hid (take_snoc (zs := zss) (d := []) (k := k) (by rw [HL.out]; omega))
      have HLen : Hid ((zss.take k).length ≤ k) := List.length_take_le _ _
      clear hown hbel hc0 hx0
      generalize zss[k]?.getD [] = zs at *
      have HB0 := hid HB.out.size
      go_wp2_with fail
      refine (setOf_impl x l c zs _ HX.out HZk.out).mono ?_
      rintro e w2 ⟨rfl, hb2⟩
      have HB2 := hid (HB.out.trans (hb2.mono HB0.out))
      have HO2 := hid (HO.out.below hb2)
      have HB20 := hid HB2.out.size
      clear hb2
      go_wp2_with (at_builtin; (refine wpList_append_own _ rfl _ _ 47 rfl w.heap.size 52 i0 _ 2 16 Tryd.underlying47 HI.out HZ0.out HZ1.out HZ2.out rfl (by decide) _ _ _ rfl (World.ownsRow.alloc HO2.out _) ⟨w2.heap.size, 0, none⟩ 1 1 [.int .u64 (pSet zs), .int .u64 (oSet zs)] rfl rfl (cell_two_new _ _ _ _) (fun x hx => by simp at hx; rcases hx with rfl | rfl <;> rfl) (by have := HLen.out; unfold maxLen; omega) (by have := HLen.out; omega) (by have := HB20.out; simp; omega) ?_); intro v' w3 hown' hgrow3 hnil3)
      have HO3 : Hid (OwnSets w.heap.size w3 v' (zss.take (k + 1))) := by
        show OwnSets _ _ _ _
        rw [HT.out]
        unfold OwnSets
        rw [List.length_append, setCells_append]
        exact hown'
      have HB3 : Hid (Below w.heap.size w w3) := grown_below (OwnSets.below HO2.out (by repeat (first | exact Below.refl _ _ | assumption | refine Below.drew ?_ | refine Below.alloc ?_ (by first | exact Nat.le_refl _ | omega | (simp; done) | (simp; omega)) _ | refine Below.setCell ?_ (by first | exact Nat.le_refl _ | omega | (simp; done) | (simp; omega)) _))) (HB2.out.alloc HB20.out _) (by have := HB20.out; simp; omega) hgrow3
      clear hown' hgrow3 hnil3
      go_wp2
      go_roundw
      case rel => exact ⟨k + 1, by omega, by go_num, HO3.out, HB3.out⟩
      case measure => simp [intOf]; omega
    · have e : k = len := by omega
      subst e
      clear hown hbel
      have ht : zss.take k = zss := List.take_of_length_le (by rw [HL.out]; omega)
      rw [ht] at HO
      clear ht
      go_wp2
      go_ret
      exact ⟨_, rfl, HO.out, HB.out⟩

end Go.Proofs.YtolejaegnkcjjaaDoor.setsOf
