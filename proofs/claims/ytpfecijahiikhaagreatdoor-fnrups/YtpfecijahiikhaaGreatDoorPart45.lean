/- NodesO; LeastModel: one text, so that the claim has fewer files. -/
import Derived.Test.YtpfecijahiikhaaGreatDoorRowsOwn
import Derived.OwnWalk
import Derived.WalkSpells
import Derived.Maps.AppendAt
import Derived.Test.YtpfecijahiikhaaGreatDoorPart44
import Derived.Deep.CutBlock
import Derived.Deep.RegionWith
/- Rows of bools that a call makes for itself; conditions: none. -/
namespace Go.Proofs.YtpfecijahiikhaaGreatDoor.nodes
open Go.RowKit Go.Deep base
set_option linter.unusedVariables false


def OwnBools (B : Nat) (w : World) (v : Value) (zs : List Bool) : Prop := w.ownsRow B 4 1 v zs.length (zs.map Value.bool)
theorem OwnBools.form {B L : Nat} {w : World} {v : Value} {zs : List Bool} (h : OwnBools B w v zs) (hL : zs.length = L) : ∃ a cap, v = .slice a L cap ∧ BoolRow w a L zs := by
  subst hL
  obtain ⟨h1, h2⟩ := h
  rcases h2 with ⟨rfl, hn⟩ | ⟨g, cap, cur, rfl, hb, hh, hn, hm, hs, ht⟩
  · exact ⟨none, 0, by rw [hn], ⟨rfl, by rw [hn]; exact Nat.zero_le _, fun i hi => by omega⟩⟩
  · refine ⟨some ⟨g, 0, none⟩, cap, rfl, ⟨rfl, Nat.le_trans hn hm, fun i hi => ⟨g, 0, rfl, ?_⟩⟩⟩
    have h3 : cur[i]? = some (.bool (zs[i]?.getD false)) := by
      have : (cur.toList.take (zs.length * 1))[i]? = (zs.map Value.bool)[i]? := by rw [ht]
      rw [List.getElem?_take, if_pos (by omega)] at this
      rw [← Array.getElem?_toList, this, List.getElem?_map, List.getElem?_eq_getElem hi]
      rfl
    simp [World.cell?, hh, h3]
theorem OwnBools.below {B : Nat} {W w1 : World} {v : Value} {zs : List Bool} (h : OwnBools B W v zs) (hb : Below W.heap.size W w1) : OwnBools B w1 v zs := by
  obtain ⟨h1, h2⟩ := h
  refine ⟨h1, ?_⟩
  rcases h2 with h2 | ⟨g, cap, cur, e, hg, hh, hn, hm, hs, ht⟩
  · exact .inl h2
  · exact .inr ⟨g, cap, cur, e, hg, by rw [hb.block g (Array.getElem?_eq_some_iff.1 hh).1]; exact hh, hn, hm, hs, ht⟩
theorem grown_below {B N : Nat} {w w1 w2 : World} {v : Value} {zs : List Bool} (h : OwnBools B w1 v zs) (hb : Below N w w1) (hN : N ≤ B) (hB : B ≤ w1.heap.size) (hg : w1.grownBy w2 v.ownBlock) : Below N w w2 :=
  hb.grown hg (Nat.le_trans hN hB) (fun k hk => Nat.le_trans hN (World.ownsRow.lt h k hk).1)
theorem OwnBools.mono {B B' : Nat} {w : World} {v : Value} {zs : List Bool} (h : OwnBools B w v zs) (hB : B' ≤ B) : OwnBools B' w v zs := by
  obtain ⟨h1, h2⟩ := h
  refine ⟨h1, ?_⟩
  rcases h2 with h2 | ⟨g, cap, cur, e, hg, h3⟩
  · exact .inl h2
  · exact .inr ⟨g, cap, cur, e, Nat.le_trans hB hg, h3⟩
theorem OwnBools.one (B : Nat) (w : World) (b : Bool) (hB : B ≤ w.heap.size) : OwnBools B (w.alloc (.cells #[.bool b] 4)) (.slice (some ⟨w.heap.size, 0, none⟩) 1 1) [b] :=
  ⟨rfl, .inr ⟨w.heap.size, 1, #[.bool b], rfl, hB, heap_alloc_new w _, Nat.le_refl _, by unfold maxLen; omega, rfl, rfl⟩⟩
theorem OwnBools.nil (B : Nat) (w : World) : OwnBools B w (.slice none 0 0) [] := ⟨rfl, .inl ⟨rfl, rfl⟩⟩
theorem OwnBools.zero (B : Nat) (w : World) (hB : B ≤ w.heap.size) : OwnBools B (w.alloc (.cells #[] 4)) (.slice (some ⟨w.heap.size, 0, none⟩) 0 0) [] :=
  ⟨rfl, .inr ⟨w.heap.size, 0, #[], rfl, hB, heap_alloc_new w _, Nat.le_refl _, Nat.zero_le _, rfl, rfl⟩⟩
theorem OwnBools.add {B : Nat} {w : World} {v : Value} {zs ys : List Bool} {n m : Nat} (h : w.ownsRow B 4 1 v (n + m) (zs.map Value.bool ++ ys.map Value.bool)) (hn : zs.length = n) (hm : ys.length = m) : OwnBools B w v (zs ++ ys) := by
  unfold OwnBools
  rw [List.length_append, List.map_append, hn, hm]
  exact h
theorem row_cells {w : World} {g n : Nat} {zs : List Bool} (h : BoolRow w (some ⟨g, 0, none⟩) n zs) {w1 : World} (hb : Below w.heap.size w w1) : ∀ i u, (zs.map Value.bool)[i]? = some u → w1.cell? ((⟨g, 0, none⟩ : Addr).add i) = some u := fun i u hu => by
  rw [List.getElem?_map] at hu
  by_cases hi : i < n
  · obtain ⟨b, o, e, hc⟩ := h.cell i hi
    cases e
    rw [List.getElem?_eq_getElem (by rw [h.length]; omega)] at hu hc
    simp at hu
    subst hu
    have e2 : ((⟨g, 0, none⟩ : Addr).add i) = ⟨g, 0 + i, none⟩ := by
      by_cases e : i = 0
      · subst e; rfl
      · simp [Addr.add, e]
    rw [e2]
    exact keep hb hc
  · rw [List.getElem?_eq_none (by rw [h.length]; omega)] at hu
    simp at hu
theorem info_bool : (Tryz.prog.info? 4).map (fun i => (i.zero, i.size, i.bytes)) = some (some (.bool false), 1, 1) := by kernel_rfl
end Go.Proofs.YtpfecijahiikhaaGreatDoor.nodes

/- The least model of a right formula, of the specification (LeastModel); conditions: a right formula. -/
namespace Go.Proofs.YtpfecijahiikhaaGreatDoor.leastModel
open Go.RowKit Go.Deep base copy rowsOwn runL leastSem leastImpl
open runS (ValRow setV openN)
open nodes (OwnBools)
set_option linter.unusedVariables false

def V0 : Nat → Int := fun _ => 0
def bitsOf (M : Nat → Int) (k : Nat) : List Bool := (List.range k).map fun i => M (i + 1) == 1
theorem bits_len (M : Nat → Int) (k : Nat) : (bitsOf M k).length = k := by simp [bitsOf]
theorem bits_succ (M : Nat → Int) (k : Nat) : bitsOf M (k + 1) = bitsOf M k ++ [M (k + 1) == 1] := by simp [bitsOf, List.range_succ]
theorem open_V0 : ∀ n, openN V0 n = n
  | 0 => rfl
  | n + 1 => by
    unfold openN
    rw [open_V0 n]
    rfl
theorem lits_of {nv : Nat} {psZ : List (Value × List Int)} (h : cnf.cnfB (nv : Int) (psZ.map (·.2)) = true) : Lits (psZ.map (·.2)) (nv + 1) := fun c hc z hz => by
  unfold cnf.cnfB at h
  rw [Bool.and_eq_true] at h
  have h3 := List.all_eq_true.1 h.2 c hc
  unfold cnf.clauseB at h3
  rw [Bool.and_eq_true] at h3
  have := (of_decide_eq_true (List.all_eq_true.1 h3.2 z hz) : z ≠ 0 ∧ -(nv : Int) ≤ z ∧ z ≤ nv)
  exact ⟨this.1, by omega⟩
/-- How the search ends, by one word. -/
def One (Z : List (List Int)) (n : Nat) (w : World) (v : Value) (ok : Bool) (w' : World) : Prop :=
  (∃ g c M, v = .slice (some ⟨g, 0, none⟩) n c ∧ ok = true ∧ ValRow w' g n M ∧ Least Z n V0 M ∧ Below w.heap.size w w') ∨ (v = .slice none 0 0 ∧ ok = false ∧ None_ Z n V0 ∧ Below w.heap.size w w')
theorem one_of {Z : List (List Int)} {n : Nat} {w w' : World} {e : Ending} (h : LEnds Z n V0 w e w') : ∃ v ok, e = .returned (.tuple #[v, .bool ok]) ∧ One Z n w v ok w' := by
  rcases h with ⟨g, c, M, rfl, h1, h2, h3⟩ | ⟨rfl, h1, h2⟩
  · exact ⟨_, _, rfl, .inl ⟨g, c, M, rfl, rfl, h1, h2, h3⟩⟩
  · exact ⟨_, _, rfl, .inr ⟨rfl, rfl, h1, h2⟩⟩
/-- How it ends. -/
def MEnds (Z : List (List Int)) (nv : Nat) (w : World) (e : Ending) (w' : World) : Prop :=
  (∃ v M, e = .returned (.tuple #[v, .int .i64 0]) ∧ OwnBools w.heap.size w' v (bitsOf M nv) ∧ Least Z (nv + 1) V0 M ∧ Below w.heap.size w w') ∨ (∃ v, e = .returned (.tuple #[v, .int .i64 6]) ∧ None_ Z (nv + 1) V0 ∧ Below w.heap.size w w')
set_option maxRecDepth 100000 in
set_option maxHeartbeats 6400000 in
theorem leastModel_spec (B nv zn zc : Nat) (zp : Option Addr) (psZ : List (Value × List Int)) (w : World) (hr : OwnRows B w (.slice zp zn zc) psZ) (hcnf : cnf.cnfB (nv : Int) (psZ.map (·.2)) = true) (hnv : nv ≤ 40) :
    Calls Tryz.prog 11 #[.agg #[.int .i64 (nv : Int), .slice zp zn zc]] w fun e w' => MEnds (psZ.map (·.2)) nv w e w' := by
  have HR := hid hr
  have HCnf := hid hcnf
  have HLi := hid (lits_of hcnf)
  clear hr hcnf
  obtain ⟨i0, hi, hzz⟩ := Option.map_eq_some_iff.1 nodes.info_bool
  simp only [Prod.mk.injEq] at hzz
  obtain ⟨hz0, hz1, hz2⟩ := hzz
  have HI := hid hi
  have HZ0 := hid hz0
  have HZ1 := hid hz1
  have HZ2 := hid hz2
  clear hi hz0 hz1 hz2
  obtain ⟨Z, hZ⟩ : ∃ Z, psZ.map (·.2) = Z := ⟨_, rfl⟩
  rw [hZ] at HLi ⊢
  have HZe := hid hZ
  clear hZ
  go_enter Tryz.func11, Tryz.ntmps11
  go_wp2_with fail
  refine (cnf.cnfOK_spec (nv : Int) zp zn zc (psZ.map (·.2)) _ ?_).mono ?_
  · exact (rows_of_own HR.out).below (by repeat (first | exact Below.refl _ _ | assumption | refine Below.drew ?_ | refine Below.alloc ?_ (by first | exact Nat.le_refl _ | omega | (simp; done) | (simp; omega)) _ | refine Below.setCell ?_ (by first | exact Nat.le_refl _ | omega | (simp; done) | (simp; omega)) _))
  rintro e w1 ⟨rfl, hb1⟩
  rw [HCnf.out]
  have HB1 : Hid (Below w.heap.size w w1) := hid ((show Below w.heap.size w _ from (by repeat (first | exact Below.refl _ _ | assumption | refine Below.drew ?_ | refine Below.alloc ?_ (by first | exact Nat.le_refl _ | omega | (simp; done) | (simp; omega)) _ | refine Below.setCell ?_ (by first | exact Nat.le_refl _ | omega | (simp; done) | (simp; omega)) _))).trans (hb1.mono (by simp)))
  have q0 : w1.cell? ⟨w.heap.size, 0, none⟩ = some (.int .i64 (nv : Int)) := keep hb1 (by simp [go_sem])
  have q1 : w1.cell? ⟨w.heap.size, 1, none⟩ = some (.slice zp zn zc) := keep hb1 (by simp [go_sem])
  have z1 : w.heap.size < w1.heap.size := by have := hb1.size; simp at this; omega
  have HR1 := hid (HR.out.below HB1.out)
  clear hb1
  obtain ⟨n, hn⟩ : ∃ n, nv + 1 = n := ⟨_, rfl⟩
  have HN := hid hn
  rw [hn] at HLi
  have HEnd : Hid (∀ e w', (∃ v M, e = Ending.returned (.tuple #[v, .int .i64 0]) ∧ OwnBools w.heap.size w' v (bitsOf M nv) ∧ Least Z n V0 M ∧ Below w.heap.size w w') ∨ (∃ v, e = Ending.returned (.tuple #[v, .int .i64 6]) ∧ None_ Z n V0 ∧ Below w.heap.size w w') → MEnds Z nv w e w') := hid (fun e w' h => by unfold MEnds; rw [hn]; exact h)
  have HL : Hid (∀ W9 : World, W9 = w1.drew.alloc (.cells (madeCells #[.int .i64 0] n) 3) → Calls Tryz.prog 30 #[.slice zp zn zc, .slice (some ⟨w1.heap.size, 0, none⟩) n n] W9 fun e w' => LEnds Z n V0 W9 e w') := hid (fun W9 h9 => by
    have hb : Below w1.heap.size w1 W9 := by rw [h9]; exact (by repeat (first | exact Below.refl _ _ | assumption | refine Below.drew ?_ | refine Below.alloc ?_ (by first | exact Nat.le_refl _ | omega | (simp; done) | (simp; omega)) _ | refine Below.setCell ?_ (by first | exact Nat.le_refl _ | omega | (simp; done) | (simp; omega)) _))
    have hrow : W9.rowIs w1.heap.size 3 n (fun _ => .int .i64 0) := by rw [h9]; exact World.rowIs_made w1.drew _ n 3
    have h := least_spec B n zp zn zc psZ (by omega) (by omega) (by rw [HZe.out]; exact HLi.out) (n + 1) w1.heap.size n V0 W9 (by rw [open_V0]; omega) (HR1.out.below hb) ⟨fun i hi => ⟨hrow.cell hi, hrow.frozen i⟩, fun i _ => by unfold V0; omega⟩
    rw [HZe.out] at h
    exact h)
  have hn' : (nv : Int) + 1 = (n : Int) := by omega
  have hmk := run_make_row' (P := Tryz.prog) 27 3 (.int .i64 0) 8 Tryz.underlying27 Tryz.info_int rfl .i64 .i64 n (by omega) (by omega)
  have hwr : IntKind.i64.wrap ((nv : Int) + 1) = (n : Int) := by rw [IntKind.wrap_i64]; omega
  clear hn hn'
  go_upto_region 3 with fail
  go_cut [4, 5] from 12 to 21 (fun s4 s5 wc => (∃ g c M, s4 = .slice (some ⟨g, 0, none⟩) n c ∧ s5 = .bool true ∧ ValRow wc g n M ∧ Least Z n V0 M ∧ Below w1.heap.size w1 wc) ∨ (s4 = .slice none 0 0 ∧ s5 = .bool false ∧ None_ Z n V0 ∧ Below w1.heap.size w1 wc))
  case first =>
    have HBm : Hid (∀ w', Below (w1.drew.alloc (.cells (madeCells #[.int .i64 0] n) 3)).heap.size (w1.drew.alloc (.cells (madeCells #[.int .i64 0] n) 3)) w' → Below w1.heap.size w1 w') := hid (fun w' hb => (show Below w1.heap.size w1 _ from (by repeat (first | exact Below.refl _ _ | assumption | refine Below.drew ?_ | refine Below.alloc ?_ (by first | exact Nat.le_refl _ | omega | (simp; done) | (simp; omega)) _ | refine Below.setCell ?_ (by first | exact Nat.le_refl _ | omega | (simp; done) | (simp; omega)) _))).trans (hb.mono (by simp)))
    go_region_with (go_at_call 30; refine (HL.out _ rfl).mono ?_; intro e w3 hl3; obtain ⟨v3, ok3, rfl, ho3⟩ := one_of hl3; have HO3 := hid ho3; clear hl3 ho3)
    all_goals
      go_wp2
      go_meet
      case rel =>
        rcases HO3.out with ⟨g3, c3, M3, rfl, rfl, hv3, hl3, hb3⟩ | ⟨rfl, rfl, hno3, hb3⟩
        · exact .inl ⟨g3, c3, M3, rfl, rfl, hv3, hl3, HBm.out _ hb3⟩
        · exact .inr ⟨rfl, rfl, hno3, HBm.out _ hb3⟩
  case rest =>
    clear hmk hwr
    rcases hcut with ⟨g3, c3, M, rfl, rfl, hv3, hl3, hb3⟩ | ⟨rfl, rfl, hno3, hb3⟩
    · have HV3 := hid hv3
      have HL3 := hid hl3
      have HB3 := hid (HB1.out.trans (hb3.mono HB1.out.size))
      have hnn : nv + 1 = n := HN.out
      have HNn := hid hnn
      have hzc := HB3.out.size
      clear hv3 hl3 hb3 hnn
      go_wp2
      go_loopw [7, 6] (fun i v wr => ∃ k : Nat, k ≤ nv ∧ i = .int .i64 ((k + 1 : Nat) : Int) ∧ OwnBools wc.heap.size wr v (bitsOf M k) ∧ Below wc.heap.size wc wr) (fun i _ _ => nv + 1 - (intOf i).toNat)
      case atStart => exact ⟨0, Nat.zero_le _, rfl, nodes.OwnBools.zero _ wc (Nat.le_refl _), (by repeat (first | exact Below.refl _ _ | assumption | refine Below.drew ?_ | refine Below.alloc ?_ (by first | exact Nat.le_refl _ | omega | (simp; done) | (simp; omega)) _ | refine Below.setCell ?_ (by first | exact Nat.le_refl _ | omega | (simp; done) | (simp; omega)) _))⟩
      case round =>
        rename_i v
        obtain ⟨k, hk, rfl, hox, hbel⟩ := hrel
        have HO := hid hox
        have HB := hid hbel
        have hszw := hbel.size
        obtain ⟨xa, xc, hv, -⟩ := hox.form (bits_len M k)
        subst hv
        clear hox
        by_cases hlt : k < nv
        · obtain ⟨hc0, _⟩ := HV3.out.cell (k + 1) (by have := HNn.out; omega)
          have hc := keep hbel hc0
          have hki : ((k + 1 : Nat) : Int) < (n : Int) := by have := HNn.out; omega
          have HSu := hid (bits_succ M k)
          obtain ⟨x, hx⟩ : ∃ x, M (k + 1) = x := ⟨_, rfl⟩
          rw [hx] at hc HSu
          clear hbel hc0 hx
          go_wp2_with (at_builtin; (refine wpList_append_own _ rfl _ _ 31 rfl wc.heap.size 4 i0 (.bool false) 1 1 Tryz.underlying31 HI.out HZ0.out HZ1.out HZ2.out rfl (by decide) _ k _ rfl (by have h9 := World.ownsRow.alloc HO.out (.cells #[.bool (x == 1)] 4); rw [bits_len] at h9; exact h9) ⟨wr.heap.size, 0, none⟩ 1 1 [.bool (x == 1)] rfl rfl (cell_one_new _ _ _) (fun u hu => by simp at hu; subst hu; rfl) (by unfold maxLen; omega) (by omega) (by simp; omega) ?_); intro v' w9 hown' hgrow9 hnil9)
          have HO9 : Hid (OwnBools wc.heap.size w9 v' (bitsOf M (k + 1))) := hid (by
            unfold OwnBools
            rw [HSu.out, List.length_append, List.map_append, bits_len]
            exact hown')
          have hba : Below wc.heap.size wc (wr.alloc (.cells #[.bool (x == 1)] 4)) := HB.out.alloc HB.out.size _
          have HB9 : Hid (Below wc.heap.size wc w9) := hid (hba.grown hgrow9 (by simp; omega) (fun j hj => (World.ownsRow.lt HO.out j hj).1))
          clear hown' hgrow9 hnil9 hba
          go_wp2
          go_roundw
          case rel => exact ⟨k + 1, by omega, by go_num, HO9.out, HB9.out⟩
          case measure => simp [intOf]; omega
        · have e : k = nv := by omega
          subst e
          have hki : ¬ (((k + 1 : Nat) : Int) < (n : Int)) := by have := HNn.out; omega
          clear hbel
          go_wp2
          go_ret2
          exact HEnd.out _ _ (.inl ⟨_, M, rfl, HO.out.mono hzc, HL3.out, HB3.out.trans (HB.out.mono HB3.out.size)⟩)
    · have HN3 := hid hno3
      have HB3 := hid (HB1.out.trans (hb3.mono HB1.out.size))
      clear hno3 hb3
      go_wp2
      go_ret2
      exact HEnd.out _ _ (.inr ⟨_, rfl, HN3.out, HB3.out.alloc HB3.out.size _⟩)
end Go.Proofs.YtpfecijahiikhaaGreatDoor.leastModel
