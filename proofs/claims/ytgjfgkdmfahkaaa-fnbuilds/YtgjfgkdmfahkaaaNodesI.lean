/- The values of a circuit's nodes, of the program and of the specification: rows of bools that a call makes for itself; conditions: the circuit is right and there are as many values as inputs. -/
import Derived.Test.YtgjfgkdmfahkaaaAigImpl
import Derived.OwnWalk
import Derived.WalkSpells
import Derived.Maps.AppendAt
namespace Go.Proofs.Ytgjfgkdmfahkaaa.nodes
open Go.RowKit Go.Deep base gates trees aigImpl
set_option linter.unusedVariables false

def OwnBools (B : Nat) (w : World) (v : Value) (zs : List Bool) : Prop := w.ownsRow B 4 1 v zs.length (zs.map Value.bool)
theorem OwnBools.form {B L : Nat} {w : World} {v : Value} {zs : List Bool} (h : OwnBools B w v zs) (hL : zs.length = L) : ∃ a cap, v = .slice a L cap ∧ BoolRow w a L zs := by
  subst hL
  obtain ⟨h1, h2⟩ := h
  rcases h2 with ⟨rfl, hn⟩ | ⟨g, cap, cur, rfl, hb, hh, hn, hm, hs, ht⟩
  · exact ⟨none, 0, by rw [hn], ⟨rfl, by rw [hn]; exact Nat.zero_le _, fun i hi => by omega⟩⟩
  · refine ⟨some ⟨g, 0, none⟩, cap, rfl, ⟨rfl, Nat.le_trans hn hm, fun i hi => ⟨g, 0, rfl, ?_⟩⟩⟩
    have h3 : cur[i]? = some (.bool (zs[i]?.getD false)) := by
      have : (cur.toList.take (zs.length * 1))[i]? = (zs.map Value.bool)[i]? := by rw [ht]
      rw [List.getElem?_take, if_pos (by omega)] at this
      rw [← Array.getElem?_toList, this, List.getElem?_map, List.getElem?_eq_getElem hi]
      rfl
    simp [World.cell?, hh, h3]
theorem OwnBools.below {B : Nat} {W w1 : World} {v : Value} {zs : List Bool} (h : OwnBools B W v zs) (hb : Below W.heap.size W w1) : OwnBools B w1 v zs := by
  obtain ⟨h1, h2⟩ := h
  refine ⟨h1, ?_⟩
  rcases h2 with h2 | ⟨g, cap, cur, e, hg, hh, hn, hm, hs, ht⟩
  · exact .inl h2
  · exact .inr ⟨g, cap, cur, e, hg, by rw [hb.block g (Array.getElem?_eq_some_iff.1 hh).1]; exact hh, hn, hm, hs, ht⟩
theorem grown_below {B N : Nat} {w w1 w2 : World} {v : Value} {zs : List Bool} (h : OwnBools B w1 v zs) (hb : Below N w w1) (hN : N ≤ B) (hB : B ≤ w1.heap.size) (hg : w1.grownBy w2 v.ownBlock) : Below N w w2 :=
  hb.grown hg (Nat.le_trans hN hB) (fun k hk => Nat.le_trans hN (World.ownsRow.lt h k hk).1)
theorem OwnBools.mono {B B' : Nat} {w : World} {v : Value} {zs : List Bool} (h : OwnBools B w v zs) (hB : B' ≤ B) : OwnBools B' w v zs := by
  obtain ⟨h1, h2⟩ := h
  refine ⟨h1, ?_⟩
  rcases h2 with h2 | ⟨g, cap, cur, e, hg, h3⟩
  · exact .inl h2
  · exact .inr ⟨g, cap, cur, e, Nat.le_trans hB hg, h3⟩
theorem own_apart {B : Nat} {w : World} {v : Value} {zs : List Bool} (h : OwnBools (B + 1) w v zs) : some B ≠ v.ownBlock := fun e => by
  have := (World.ownsRow.lt h _ e.symm).1
  omega
theorem OwnBools.one (B : Nat) (w : World) (b : Bool) (hB : B ≤ w.heap.size) : OwnBools B (w.alloc (.cells #[.bool b] 4)) (.slice (some ⟨w.heap.size, 0, none⟩) 1 1) [b] :=
  ⟨rfl, .inr ⟨w.heap.size, 1, #[.bool b], rfl, hB, heap_alloc_new w _, Nat.le_refl _, by unfold maxLen; omega, rfl, rfl⟩⟩
theorem OwnBools.nil (B : Nat) (w : World) : OwnBools B w (.slice none 0 0) [] := ⟨rfl, .inl ⟨rfl, rfl⟩⟩
theorem OwnBools.zero (B : Nat) (w : World) (hB : B ≤ w.heap.size) : OwnBools B (w.alloc (.cells #[] 4)) (.slice (some ⟨w.heap.size, 0, none⟩) 0 0) [] :=
  ⟨rfl, .inr ⟨w.heap.size, 0, #[], rfl, hB, heap_alloc_new w _, Nat.le_refl _, Nat.zero_le _, rfl, rfl⟩⟩
theorem OwnBools.add {B : Nat} {w : World} {v : Value} {zs ys : List Bool} {n m : Nat} (h : w.ownsRow B 4 1 v (n + m) (zs.map Value.bool ++ ys.map Value.bool)) (hn : zs.length = n) (hm : ys.length = m) : OwnBools B w v (zs ++ ys) := by
  unfold OwnBools
  rw [List.length_append, List.map_append, hn, hm]
  exact h
theorem row_cells {w : World} {g n : Nat} {zs : List Bool} (h : BoolRow w (some ⟨g, 0, none⟩) n zs) {w1 : World} (hb : Below w.heap.size w w1) : ∀ i u, (zs.map Value.bool)[i]? = some u → w1.cell? ((⟨g, 0, none⟩ : Addr).add i) = some u := fun i u hu => by
  rw [List.getElem?_map] at hu
  by_cases hi : i < n
  · obtain ⟨b, o, e, hc⟩ := h.cell i hi
    cases e
    rw [List.getElem?_eq_getElem (by rw [h.length]; omega)] at hu hc
    simp at hu
    subst hu
    have e2 : ((⟨g, 0, none⟩ : Addr).add i) = ⟨g, 0 + i, none⟩ := by
      by_cases e : i = 0
      · subst e; rfl
      · simp [Addr.add, e]
    rw [e2]
    exact keep hb hc
  · rw [List.getElem?_eq_none (by rw [h.length]; omega)] at hu
    simp at hu
theorem info_bool : (Try.prog.info? 4).map (fun i => (i.zero, i.size, i.bytes)) = some (some (.bool false), 1, 1) := by kernel_rfl

/-- A literal's value, by those of the nodes. -/
def litV (ns : List Bool) (l : Int) : Bool := (ns[(l / 2).toNat]?.getD false) != decide (l % 2 = 1)
def nodesOf (vs : List Bool) (g : Gs) : Nat → List Bool
  | 0 => false :: vs
  | k + 1 => nodesOf vs g k ++ [litV (nodesOf vs g k) (g k).1 && litV (nodesOf vs g k) (g k).2]
theorem nodes_len (vs : List Bool) (g : Gs) (k : Nat) : (nodesOf vs g k).length = vs.length + 1 + k := by
  induction k with
  | zero => simp [nodesOf]
  | succ k ih => simp [nodesOf, ih]; omega

set_option maxHeartbeats 400000 in
theorem isTrue_impl (l : Int) (a : Option Addr) (len cap : Nat) (ns : List Bool) (w : World) (hr : BoolRow w a len ns) (h0 : 0 ≤ l) (h1 : l < 2 * (len : Int)) (hl : len ≤ 1000000) :
    Calls Try.prog 31 #[.int .i64 l, .slice a len cap] w fun e w' => e = .returned (.bool (litV ns l)) ∧ w' = w := by
  obtain ⟨m, hm⟩ : ∃ m : Nat, l / 2 = m := ⟨(l / 2).toNat, by omega⟩
  obtain ⟨b, off, rfl, hc⟩ := hr.cell m (by omega)
  have e : litV ns l = ((ns[m]?.getD false) != decide (l % 2 = 1)) := by unfold litV; rw [hm]; rfl
  rw [e]
  clear e hr
  generalize ns[m]?.getD false = v at *
  by_cases h2 : l % 2 = 1
  · have d2 : (l % 2 == 1) = true := by simp [h2]
    rw [decide_eq_true h2]
    obtain rfl : l = 2 * (m : Int) + 1 := by omega
    have e1 : (2 * (m : Int) + 1) / 2 = m := by omega
    have e2 : (2 * (m : Int) + 1) % 2 = 1 := by omega
    clear h2 hm d2
    go_enter Try.func31, Try.ntmps31
    go_wp2
    go_ret
    exact ⟨by cases v <;> rfl, rfl⟩
  · rw [decide_eq_false h2]
    obtain rfl : l = 2 * (m : Int) := by omega
    have e1 : (2 * (m : Int)) / 2 = m := by omega
    have e2 : (2 * (m : Int)) % 2 = 0 := by omega
    clear h2 hm
    go_enter Try.func31, Try.ntmps31
    go_wp2
    go_ret
    exact ⟨by cases v <;> rfl, rfl⟩

theorem own_first (w : World) (n : Int) (a : Option Addr) (len cap : Nat) : OwnBools (w.heap.size + 1) ((w.alloc (.cells #[.int .i64 n, .slice a len cap] 29)).alloc (.cells #[.bool false] 4)) (.slice (some ⟨w.heap.size + 1, 0, none⟩) 1 1) [false] := by
  have := OwnBools.one (w.heap.size + 1) (w.alloc (.cells #[.int .i64 n, .slice a len cap] 29)) false (by simp)
  simpa using this
theorem own_ne (w : World) : some w.heap.size ≠ (Value.slice (some ⟨w.heap.size + 1, 0, none⟩) 1 1).ownBlock := by
  simp [Value.ownBlock]

set_option maxHeartbeats 3200000 in
theorem nodes_impl (n : Int) (a : Option Addr) (len cap : Nat) (g : Gs) (NV vl vc : Nat) (vs : List Bool) (w : World) (hr : GateRow w a len g) (hv : BoolRow w (some ⟨NV, 0, none⟩) vl vs) (hok : aigB n len g = true) (hn : (vl : Int) = n) :
    Calls Try.prog 29 #[.agg #[.int .i64 n, .slice a len cap], .slice (some ⟨NV, 0, none⟩) vl vc] w fun e w' => ∃ v, e = .returned v ∧ OwnBools w.heap.size w' v (nodesOf vs g len) ∧ Below w.heap.size w w' := by
  obtain ⟨hb0, hb1⟩ := Bool.and_eq_true_iff.1 hok
  have hbd := of_decide_eq_true hb0
  have HGood := hid (fun i (hi : i < len) => of_decide_eq_true (Bool.and_eq_true_iff.1 (allTo_true hb1 hi)).1)
  have HLV := hid hv.length
  have HR := hid hr
  have HV := hid hv
  clear hr hv hok hb0 hb1
  obtain ⟨i0, hi, hzz⟩ := Option.map_eq_some_iff.1 info_bool
  simp only [Prod.mk.injEq] at hzz
  obtain ⟨hz0, hz1, hz2⟩ := hzz
  have HI := hid hi
  have HZ0 := hid hz0
  have HZ1 := hid hz1
  have HZ2 := hid hz2
  clear hi hz0 hz1 hz2
  go_enter Try.func29, Try.ntmps29
  have HW1 := hid (show Below w.heap.size w (w.alloc (.cells #[.int .i64 n, .slice a len cap] 29)) from (by repeat (first | exact Below.refl _ _ | assumption | refine Below.drew ?_ | refine Below.alloc ?_ (by first | exact Nat.le_refl _ | omega | (simp; done) | (simp; omega)) _ | refine Below.setCell ?_ (by first | exact Nat.le_refl _ | omega | (simp; done) | (simp; omega)) _)))
  go_wp2_with (at_builtin; (refine wpList_append_own _ rfl _ _ 36 rfl (w.heap.size + 1) 4 i0 (.bool false) 1 1 Try.underlying36 HI.out HZ0.out HZ1.out HZ2.out rfl (by decide) _ 1 [Value.bool false] rfl (own_first w n a len cap) ⟨NV, 0, none⟩ vl vc (vs.map Value.bool) rfl (by rw [List.length_map, HLV.out]; omega) (row_cells HV.out (by repeat (first | exact Below.refl _ _ | assumption | refine Below.drew ?_ | refine Below.alloc ?_ (by first | exact Nat.le_refl _ | omega | (simp; done) | (simp; omega)) _ | refine Below.setCell ?_ (by first | exact Nat.le_refl _ | omega | (simp; done) | (simp; omega)) _))) (fun x hx => by obtain ⟨b, _, rfl⟩ := List.mem_map.1 hx; rfl) (by unfold maxLen; omega) (by omega) (by simp) ?_); intro v1 w1 hown1 hgrow1 hnil1; (have HO1 := hid (OwnBools.add (zs := [false]) hown1 rfl HLV.out)); (have HB1 := hid (grown_below (N := w.heap.size) (own_first w n a len cap) (show Below w.heap.size w _ from (by repeat (first | exact Below.refl _ _ | assumption | refine Below.drew ?_ | refine Below.alloc ?_ (by first | exact Nat.le_refl _ | omega | (simp; done) | (simp; omega)) _ | refine Below.setCell ?_ (by first | exact Nat.le_refl _ | omega | (simp; done) | (simp; omega)) _))) (by omega) (by simp) hgrow1)); (have hce := hgrow1.cell (a := ⟨w.heap.size, 1, none⟩) (v := .slice a len cap) (by simp [go_sem]) (own_ne w)); clear hown1 hgrow1 hnil1)
  go_loopw [14, 5] (fun i v wr => ∃ k : Nat, k ≤ len ∧ i = .int .i64 k ∧ OwnBools (w.heap.size + 1) wr v (nodesOf vs g k) ∧ Below w.heap.size w wr ∧ w.heap.size + 1 ≤ wr.heap.size) (fun i _ _ => len - (intOf i).toNat)
  case atStart => exact ⟨0, Nat.zero_le _, rfl, HO1.out, HB1.out, World.block_lt_of_cell? _ _ hce⟩
  case round =>
    rename_i v0
    obtain ⟨k, hk, rfl, hown, hbel, hzz⟩ := hrel
    obtain ⟨va, vcap, hvv, hrow⟩ := hown.form (nodes_len vs g k)
    rw [HLV.out] at hvv hrow
    subst hvv
    have HO := hid hown
    have HB := hid hbel
    have HB0 := hid hzz
    have HRW := hid hrow
    clear hown hbel hrow hzz
    by_cases hlt : k < len
    · have hgk := HGood.out k hlt
      obtain ⟨b, off, rfl, hc0, hc1⟩ := HR.out.cell k hlt
      replace hc0 := keep HB.out hc0
      replace hc1 := keep HB.out hc1
      have HLen : Hid ((nodesOf vs g k).length = vl + 1 + k) := by show _ = _; rw [nodes_len, HLV.out]
      have HNX : Hid (nodesOf vs g (k + 1) = nodesOf vs g k ++ [litV (nodesOf vs g k) (g k).1 && litV (nodesOf vs g k) (g k).2]) := rfl
      obtain ⟨x, y, hg⟩ : ∃ x y, g k = (x, y) := ⟨_, _, rfl⟩
      rw [hg] at hc0 hc1 hgk HNX
      simp only at hgk HNX
      have hbr := World.block_lt_of_cell? _ _ hc0
      clear hg
      go_wp2_with fail
      have HW2 := hid (show Below wr.heap.size wr (wr.alloc (.cells #[.int .i64 x, .int .i64 y] 63)) from (by repeat (first | exact Below.refl _ _ | assumption | refine Below.drew ?_ | refine Below.alloc ?_ (by first | exact Nat.le_refl _ | omega | (simp; done) | (simp; omega)) _ | refine Below.setCell ?_ (by first | exact Nat.le_refl _ | omega | (simp; done) | (simp; omega)) _)))
      have q0 : (wr.alloc (.cells #[.int .i64 x, .int .i64 y] 63)).cell? ⟨wr.heap.size, 0, none⟩ = some (.int .i64 x) := by simp [go_sem]
      have q1 : (wr.alloc (.cells #[.int .i64 x, .int .i64 y] 63)).cell? ⟨wr.heap.size, 1, none⟩ = some (.int .i64 y) := by simp [go_sem]
      generalize (wr.alloc (.cells #[.int .i64 x, .int .i64 y] 63)) = W2 at *
      have HO2 := hid (HO.out.below HW2.out)
      have HR2 := hid (HRW.out.below HW2.out)
      have HBW := hid (HB.out.trans (HW2.out.mono HB.out.size))
      have HS2 : Hid (w.heap.size + 1 ≤ W2.heap.size) := Nat.le_trans HB0.out HW2.out.size
      have hqb := World.block_lt_of_cell? _ _ q0
      have HQ := hid hqb
      refine (isTrue_impl x _ _ _ (nodesOf vs g k) _ HR2.out (by omega) (by omega) (by omega)).mono ?_
      rintro e w' ⟨rfl, hww⟩
      replace hww := hww.symm
      subst hww
      cases hx : litV (nodesOf vs g k) x with
      | false =>
        rw [hx, Bool.false_and] at HNX
        go_wp2_with (at_builtin; (refine wpList_append_own _ rfl _ _ 36 rfl (w.heap.size + 1) 4 i0 (.bool false) 1 1 Try.underlying36 HI.out HZ0.out HZ1.out HZ2.out rfl (by decide) _ _ _ rfl (World.ownsRow.alloc HO2.out _) ⟨W2.heap.size, 0, none⟩ 1 1 [_] rfl rfl (cell_one_new _ _ _) (fun x hx => by simp at hx; subst hx; rfl) (by have := HLen.out; unfold maxLen; omega) (by have := HLen.out; omega) (by have := HS2.out; simp; omega) ?_); intro v3 w3 hown3 hgrow3 hnil3; (have HO3 : Hid (OwnBools (w.heap.size + 1) w3 v3 (nodesOf vs g (k + 1))) := HNX.out ▸ OwnBools.add (ys := [_]) hown3 rfl rfl); (have HB3 := hid (grown_below (N := w.heap.size) (HO2.out.below (by repeat (first | exact Below.refl _ _ | assumption | refine Below.drew ?_ | refine Below.alloc ?_ (by first | exact Nat.le_refl _ | omega | (simp; done) | (simp; omega)) _ | refine Below.setCell ?_ (by first | exact Nat.le_refl _ | omega | (simp; done) | (simp; omega)) _))) (HBW.out.alloc HBW.out.size _) (by omega) (by have := HS2.out; simp; omega) hgrow3)); (have HS3 : Hid (w.heap.size + 1 ≤ w3.heap.size) := Nat.le_trans (by have := HS2.out; simp; omega) hgrow3.size); clear hown3 hgrow3 hnil3)
        go_roundw
        case rel => exact ⟨k + 1, by omega, by go_num, HO3.out, HB3.out, HS3.out⟩
        case measure => simp [intOf]; omega
      | true =>
        rw [hx, Bool.true_and] at HNX
        go_wp2_with fail
        refine (isTrue_impl y _ _ _ (nodesOf vs g k) _ HR2.out (by omega) (by omega) (by omega)).mono ?_
        rintro e w' ⟨rfl, hww⟩
        replace hww := hww.symm
        subst hww
        generalize litV (nodesOf vs g k) y = by2 at *
        go_wp2_with (at_builtin; (refine wpList_append_own _ rfl _ _ 36 rfl (w.heap.size + 1) 4 i0 (.bool false) 1 1 Try.underlying36 HI.out HZ0.out HZ1.out HZ2.out rfl (by decide) _ _ _ rfl (World.ownsRow.alloc HO2.out _) ⟨W2.heap.size, 0, none⟩ 1 1 [_] rfl rfl (cell_one_new _ _ _) (fun x hx => by simp at hx; subst hx; rfl) (by have := HLen.out; unfold maxLen; omega) (by have := HLen.out; omega) (by have := HS2.out; simp; omega) ?_); intro v3 w3 hown3 hgrow3 hnil3; (have HO3 : Hid (OwnBools (w.heap.size + 1) w3 v3 (nodesOf vs g (k + 1))) := HNX.out ▸ OwnBools.add (ys := [_]) hown3 rfl rfl); (have HB3 := hid (grown_below (N := w.heap.size) (HO2.out.below (by repeat (first | exact Below.refl _ _ | assumption | refine Below.drew ?_ | refine Below.alloc ?_ (by first | exact Nat.le_refl _ | omega | (simp; done) | (simp; omega)) _ | refine Below.setCell ?_ (by first | exact Nat.le_refl _ | omega | (simp; done) | (simp; omega)) _))) (HBW.out.alloc HBW.out.size _) (by omega) (by have := HS2.out; simp; omega) hgrow3)); (have HS3 : Hid (w.heap.size + 1 ≤ w3.heap.size) := Nat.le_trans (by have := HS2.out; simp; omega) hgrow3.size); clear hown3 hgrow3 hnil3)
        go_roundw
        case rel => exact ⟨k + 1, by omega, by go_num, HO3.out, HB3.out, HS3.out⟩
        case measure => simp [intOf]; omega
    · have e : k = len := by omega
      subst e
      go_wp2
      go_ret
      exact ⟨_, rfl, HO.out.mono (by omega), HB.out⟩

end Go.Proofs.Ytgjfgkdmfahkaaa.nodes
