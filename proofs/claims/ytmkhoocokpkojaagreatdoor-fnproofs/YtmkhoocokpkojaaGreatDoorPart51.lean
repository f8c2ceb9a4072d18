import Derived.Test.YtmkhoocokpkojaaGreatDoorPart50
import Derived.Deep.CutBlock
import Derived.Deep.RegionWith
import Derived.Test.YtmkhoocokpkojaaGreatDoorPart6
import Derived.Test.YtmkhoocokpkojaaGreatDoorPart1
import Derived.Laws.ResultCell
import Derived.Deep.RegionHeld3
import Derived.Test.YtmkhoocokpkojaaGreatDoorPart34
import Derived.Test.YtmkhoocokpkojaaGreatDoorCnfDraw
import Derived.Test.YtmkhoocokpkojaaGreatDoorPart2
import Derived.ProofKit
import Derived.OpenShut
import Derived.ShutString
import Derived.ChangeOld
import Derived.Lib.SmallJoins
import Derived.Deep.Slices
namespace Go.Proofs.YtmkhoocokpkojaaGreatDoor.leastModel
open Go.RowKit Go.Deep base copy rowsOwn runL leastSem leastImpl
open runS (ValRow setV openN)
open nodes (OwnBools)
set_option linter.unusedVariables false
def V0 : Nat → Int := fun _ => 0
def bitsOf (M : Nat → Int) (k : Nat) : List Bool := (List.range k).map fun i => M (i + 1) == 1
theorem bits_len (M : Nat → Int) (k : Nat) : (bitsOf M k).length = k := by simp [bitsOf]
theorem bits_succ (M : Nat → Int) (k : Nat) : bitsOf M (k + 1) = bitsOf M k ++ [M (k + 1) == 1] := by simp [bitsOf, List.range_succ]
theorem open_V0 : ∀ n, openN V0 n = n
 | 0 => rfl
 | n + 1 => by
  unfold openN
  rw [open_V0 n]
  rfl
theorem lits_of {nv : Nat} {psZ : List (Value × List Int)} (h : cnf.cnfB (nv : Int) (psZ.map (·.2)) = true) : Lits (psZ.map (·.2)) (nv + 1) := fun c hc z hz => by
 unfold cnf.cnfB at h
 rw [Bool.and_eq_true] at h
 have h3 := List.all_eq_true.1 h.2 c hc
 unfold cnf.clauseB at h3
 rw [Bool.and_eq_true] at h3
 have := (of_decide_eq_true (List.all_eq_true.1 h3.2 z hz) : z ≠ 0 ∧ -(nv : Int) ≤ z ∧ z ≤ nv)
 exact ⟨this.1, by omega⟩
def One (Z : List (List Int)) (n : Nat) (w : World) (v : Value) (ok : Bool) (w' : World) : Prop :=
 (∃ g c M, v = .slice (some ⟨g, 0, none⟩) n c ∧ ok = true ∧ ValRow w' g n M ∧ Least Z n V0 M ∧ Below w.heap.size w w') ∨ (v = .slice none 0 0 ∧ ok = false ∧ None_ Z n V0 ∧ Below w.heap.size w w')
theorem one_of {Z : List (List Int)} {n : Nat} {w w' : World} {e : Ending} (h : LEnds Z n V0 w e w') : ∃ v ok, e = .returned (.tuple #[v, .bool ok]) ∧ One Z n w v ok w' := by
 rcases h with ⟨g, c, M, rfl, h1, h2, h3⟩ | ⟨rfl, h1, h2⟩
 · exact ⟨_, _, rfl, .inl ⟨g, c, M, rfl, rfl, h1, h2, h3⟩⟩
 · exact ⟨_, _, rfl, .inr ⟨rfl, rfl, h1, h2⟩⟩
def MEnds (Z : List (List Int)) (nv : Nat) (w : World) (e : Ending) (w' : World) : Prop :=
 (∃ v M, e = .returned (.tuple #[v, .int .i64 0]) ∧ OwnBools w.heap.size w' v (bitsOf M nv) ∧ Least Z (nv + 1) V0 M ∧ Below w.heap.size w w') ∨ (∃ v, e = .returned (.tuple #[v, .int .i64 6]) ∧ None_ Z (nv + 1) V0 ∧ Below w.heap.size w w')
set_option maxRecDepth 100000 in
set_option maxHeartbeats 6400000 in
theorem leastModel_spec (B nv zn zc : Nat) (zp : Option Addr) (psZ : List (Value × List Int)) (w : World) (hr : OwnRows B w (.slice zp zn zc) psZ) (hcnf : cnf.cnfB (nv : Int) (psZ.map (·.2)) = true) (hnv : nv ≤ 40) :
  Calls Tryz.prog 10 #[.agg #[.int .i64 (nv : Int), .slice zp zn zc]] w fun e w' => MEnds (psZ.map (·.2)) nv w e w' := by
 have HR := hid hr
 have HCnf := hid hcnf
 have HLi := hid (lits_of hcnf)
 clear hr hcnf
 obtain ⟨i0, hi, hzz⟩ := Option.map_eq_some_iff.1 nodes.info_bool
 simp only [Prod.mk.injEq] at hzz
 obtain ⟨hz0, hz1, hz2⟩ := hzz
 have HI := hid hi
 have HZ0 := hid hz0
 have HZ1 := hid hz1
 have HZ2 := hid hz2
 clear hi hz0 hz1 hz2
 obtain ⟨Z, hZ⟩ : ∃ Z, psZ.map (·.2) = Z := ⟨_, rfl⟩
 rw [hZ] at HLi ⊢
 have HZe := hid hZ
 clear hZ
 go_enter Tryz.func10, Tryz.ntmps10
 go_wp2_with fail
 refine (cnf.cnfOK_spec (nv : Int) zp zn zc (psZ.map (·.2)) _ ?_).mono ?_
 · exact (rows_of_own HR.out).below (by repeat (first | exact Below.refl _ _ | assumption | refine Below.drew ?_ | refine Below.alloc ?_ (by first | exact Nat.le_refl _ | omega | (simp; done) | (simp; omega)) _ | refine Below.setCell ?_ (by first | exact Nat.le_refl _ | omega | (simp; done) | (simp; omega)) _))
 rintro e w1 ⟨rfl, hb1⟩
 rw [HCnf.out]
 have HB1 : Hid (Below w.heap.size w w1) := hid ((show Below w.heap.size w _ from (by repeat (first | exact Below.refl _ _ | assumption | refine Below.drew ?_ | refine Below.alloc ?_ (by first | exact Nat.le_refl _ | omega | (simp; done) | (simp; omega)) _ | refine Below.setCell ?_ (by first | exact Nat.le_refl _ | omega | (simp; done) | (simp; omega)) _))).trans (hb1.mono (by simp)))
 have q0 : w1.cell? ⟨w.heap.size, 0, none⟩ = some (.int .i64 (nv : Int)) := keep hb1 (by simp [go_sem])
 have q1 : w1.cell? ⟨w.heap.size, 1, none⟩ = some (.slice zp zn zc) := keep hb1 (by simp [go_sem])
 have z1 : w.heap.size < w1.heap.size := by have := hb1.size; simp at this; omega
 have HR1 := hid (HR.out.below HB1.out)
 clear hb1
 obtain ⟨n, hn⟩ : ∃ n, nv + 1 = n := ⟨_, rfl⟩
 have HN := hid hn
 rw [hn] at HLi
 have HEnd : Hid (∀ e w', (∃ v M, e = Ending.returned (.tuple #[v, .int .i64 0]) ∧ OwnBools w.heap.size w' v (bitsOf M nv) ∧ Least Z n V0 M ∧ Below w.heap.size w w') ∨ (∃ v, e = Ending.returned (.tuple #[v, .int .i64 6]) ∧ None_ Z n V0 ∧ Below w.heap.size w w') → MEnds Z nv w e w') := hid (fun e w' h => by unfold MEnds; rw [hn]; exact h)
 have HL : Hid (∀ W9 : World, W9 = w1.drew.alloc (.cells (madeCells #[.int .i64 0] n) 3) → Calls Tryz.prog 27 #[.slice zp zn zc, .slice (some ⟨w1.heap.size, 0, none⟩) n n] W9 fun e w' => LEnds Z n V0 W9 e w') := hid (fun W9 h9 => by
  have hb : Below w1.heap.size w1 W9 := by rw [h9]; exact (by repeat (first | exact Below.refl _ _ | assumption | refine Below.drew ?_ | refine Below.alloc ?_ (by first | exact Nat.le_refl _ | omega | (simp; done) | (simp; omega)) _ | refine Below.setCell ?_ (by first | exact Nat.le_refl _ | omega | (simp; done) | (simp; omega)) _))
  have hrow : W9.rowIs w1.heap.size 3 n (fun _ => .int .i64 0) := by rw [h9]; exact World.rowIs_made w1.drew _ n 3
  have h := least_spec B n zp zn zc psZ (by omega) (by omega) (by rw [HZe.out]; exact HLi.out) (n + 1) w1.heap.size n V0 W9 (by rw [open_V0]; omega) (HR1.out.below hb) ⟨fun i hi => ⟨hrow.cell hi, hrow.frozen i⟩, fun i _ => by unfold V0; omega⟩
  rw [HZe.out] at h
  exact h)
 have hn' : (nv : Int) + 1 = (n : Int) := by omega
 have hmk := run_make_row' (P := Tryz.prog) 52 3 (.int .i64 0) 8 Tryz.underlying52 Tryz.info_int rfl .i64 .i64 n (by omega) (by omega)
 have hwr : IntKind.i64.wrap ((nv : Int) + 1) = (n : Int) := by rw [IntKind.wrap_i64]; omega
 clear hn hn'
 go_upto_region 3 with fail
 go_cut [4, 5] from 12 to 21 (fun s4 s5 wc => (∃ g c M, s4 = .slice (some ⟨g, 0, none⟩) n c ∧ s5 = .bool true ∧ ValRow wc g n M ∧ Least Z n V0 M ∧ Below w1.heap.size w1 wc) ∨ (s4 = .slice none 0 0 ∧ s5 = .bool false ∧ None_ Z n V0 ∧ Below w1.heap.size w1 wc))
 case first =>
  have HBm : Hid (∀ w', Below (w1.drew.alloc (.cells (madeCells #[.int .i64 0] n) 3)).heap.size (w1.drew.alloc (.cells (madeCells #[.int .i64 0] n) 3)) w' → Below w1.heap.size w1 w') := hid (fun w' hb => (show Below w1.heap.size w1 _ from (by repeat (first | exact Below.refl _ _ | assumption | refine Below.drew ?_ | refine Below.alloc ?_ (by first | exact Nat.le_refl _ | omega | (simp; done) | (simp; omega)) _ | refine Below.setCell ?_ (by first | exact Nat.le_refl _ | omega | (simp; done) | (simp; omega)) _))).trans (hb.mono (by simp)))
  go_region_with (go_at_call 27; refine (HL.out _ rfl).mono ?_; intro e w3 hl3; obtain ⟨v3, ok3, rfl, ho3⟩ := one_of hl3; have HO3 := hid ho3; clear hl3 ho3)
  all_goals
   go_wp2
   go_meet
   case rel =>
    rcases HO3.out with ⟨g3, c3, M3, rfl, rfl, hv3, hl3, hb3⟩ | ⟨rfl, rfl, hno3, hb3⟩
    · exact .inl ⟨g3, c3, M3, rfl, rfl, hv3, hl3, HBm.out _ hb3⟩
    · exact .inr ⟨rfl, rfl, hno3, HBm.out _ hb3⟩
 case rest =>
  clear hmk hwr
  rcases hcut with ⟨g3, c3, M, rfl, rfl, hv3, hl3, hb3⟩ | ⟨rfl, rfl, hno3, hb3⟩
  · have HV3 := hid hv3
    have HL3 := hid hl3
    have HB3 := hid (HB1.out.trans (hb3.mono HB1.out.size))
    have hnn : nv + 1 = n := HN.out
    have HNn := hid hnn
    have hzc := HB3.out.size
    clear hv3 hl3 hb3 hnn
    go_wp2
    go_loopw [7, 6] (fun i v wr => ∃ k : Nat, k ≤ nv ∧ i = .int .i64 ((k + 1 : Nat) : Int) ∧ OwnBools wc.heap.size wr v (bitsOf M k) ∧ Below wc.heap.size wc wr) (fun i _ _ => nv + 1 - (intOf i).toNat)
    case atStart => exact ⟨0, Nat.zero_le _, rfl, nodes.OwnBools.zero _ wc (Nat.le_refl _), (by repeat (first | exact Below.refl _ _ | assumption | refine Below.drew ?_ | refine Below.alloc ?_ (by first | exact Nat.le_refl _ | omega | (simp; done) | (simp; omega)) _ | refine Below.setCell ?_ (by first | exact Nat.le_refl _ | omega | (simp; done) | (simp; omega)) _))⟩
    case round =>
     rename_i v
     obtain ⟨k, hk, rfl, hox, hbel⟩ := hrel
     have HO := hid hox
     have HB := hid hbel
     have hszw := hbel.size
     obtain ⟨xa, xc, hv, -⟩ := hox.form (bits_len M k)
     subst hv
     clear hox
     by_cases hlt : k < nv
     · obtain ⟨hc0, _⟩ := HV3.out.cell (k + 1) (by have := HNn.out; omega)
       have hc := keep hbel hc0
       have hki : ((k + 1 : Nat) : Int) < (n : Int) := by have := HNn.out; omega
       have HSu := hid (bits_succ M k)
       obtain ⟨x, hx⟩ : ∃ x, M (k + 1) = x := ⟨_, rfl⟩
       rw [hx] at hc HSu
       clear hbel hc0 hx
       go_wp2_with (at_builtin; (refine wpList_append_own _ rfl _ _ 32 rfl wc.heap.size 4 i0 (.bool false) 1 1 Tryz.underlying32 HI.out HZ0.out HZ1.out HZ2.out rfl (by decide) _ k _ rfl (by have h9 := World.ownsRow.alloc HO.out (.cells #[.bool (x == 1)] 4); rw [bits_len] at h9; exact h9) ⟨wr.heap.size, 0, none⟩ 1 1 [.bool (x == 1)] rfl rfl (cell_one_new _ _ _) (fun u hu => by simp at hu; subst hu; rfl) (by unfold maxLen; omega) (by omega) (by simp; omega) ?_); intro v' w9 hown' hgrow9 hnil9)
       have HO9 : Hid (OwnBools wc.heap.size w9 v' (bitsOf M (k + 1))) := hid (by
        unfold OwnBools
        rw [HSu.out, List.length_append, List.map_append, bits_len]
        exact hown')
       have hba : Below wc.heap.size wc (wr.alloc (.cells #[.bool (x == 1)] 4)) := HB.out.alloc HB.out.size _
       have HB9 : Hid (Below wc.heap.size wc w9) := hid (hba.grown hgrow9 (by simp; omega) (fun j hj => (World.ownsRow.lt HO.out j hj).1))
       clear hown' hgrow9 hnil9 hba
       go_wp2
       go_roundw
       case rel => exact ⟨k + 1, by omega, by go_num, HO9.out, HB9.out⟩
       case measure => simp [intOf]; omega
     · have e : k = nv := by omega
       subst e
       have hki : ¬ (((k + 1 : Nat) : Int) < (n : Int)) := by have := HNn.out; omega
       clear hbel
       go_wp2
       go_ret2
       exact HEnd.out _ _ (.inl ⟨_, M, rfl, HO.out.mono hzc, HL3.out, HB3.out.trans (HB.out.mono HB3.out.size)⟩)
  · have HN3 := hid hno3
    have HB3 := hid (HB1.out.trans (hb3.mono HB1.out.size))
    clear hno3 hb3
    go_wp2
    go_ret2
    exact HEnd.out _ _ (.inr ⟨_, rfl, HN3.out, HB3.out.alloc HB3.out.size _⟩)
end Go.Proofs.YtmkhoocokpkojaaGreatDoor.leastModel
namespace Go.Proofs.YtmkhoocokpkojaaGreatDoor.endsCode
open Go.RowKit Go.Deep base copy leastSem leastModel
set_option linter.unusedVariables false
theorem ext_zero (M : Nat → Int) (n : Nat) : Ext V0 M n := fun i _ _ h => absurd rfl h
theorem ends_code {Z : List (List Int)} {nv : Nat} {w w' : World} {e : Ending} (h : MEnds Z nv w e w') : ∃ v c, e = .returned (.tuple #[v, .int .i64 c]) ∧ ((c = 0 ∧ ∃ M, Mod Z (nv + 1) M) ∨ (c = 6 ∧ ¬ ∃ M, Mod Z (nv + 1) M)) ∧ Below w.heap.size w w' := by
 rcases h with ⟨v, M, rfl, _, hL, hb⟩ | ⟨v, rfl, hN, hb⟩
 · exact ⟨v, 0, rfl, .inl ⟨rfl, M, hL.1⟩, hb⟩
 · exact ⟨v, 6, rfl, .inr ⟨rfl, fun ⟨M, hM⟩ => hN M hM (ext_zero M _)⟩, hb⟩
end Go.Proofs.YtmkhoocokpkojaaGreatDoor.endsCode
namespace Go.Proofs.YtmkhoocokpkojaaGreatDoor.stepsEq
open Go.RowKit Go.Deep base copy intsOwn
open readSpecP (Pt pcs OwnSteps Lone strip)
set_option linter.unusedVariables false
theorem bdn {B : Nat} {w w1 : World} (h : Below B w w1) (n : Nat) : Below B w (w1.drewN n) := ⟨h.1, h.2, h.3, h.4, h.5⟩
abbrev St := Bool × List Int
structure StepRow (w : World) (a : Option Addr) (len : Nat) (ss : List St) : Prop where
 length : ss.length = len
 most : len ≤ maxLen
 cell : ∀ i, i < len → ∃ b off, a = some ⟨b, off, none⟩ ∧ w.cell? ⟨b, off + i * 2, none⟩ = some (.bool (ss[i]?.getD (false, [])).1) ∧
  ∃ a' l' c', w.cell? ⟨b, off + i * 2 + 1, none⟩ = some (.slice a' l' c') ∧ IntRow w a' l' (ss[i]?.getD (false, [])).2
theorem StepRow.below {W w1 : World} {a : Option Addr} {len : Nat} {ss : List St} (h : StepRow W a len ss) (hb : Below W.heap.size W w1) : StepRow w1 a len ss :=
 ⟨h.length, h.most, fun i hi => by
  obtain ⟨b, off, e, h1, a', l', c', hc, hr⟩ := h.cell i hi
  exact ⟨b, off, e, keep hb h1, a', l', c', keep hb hc, hr.below hb⟩⟩
theorem flat_get : ∀ (ps : List Pt) (k : Nat) (p : Pt), ps[k]? = some p → (ps.flatMap pcs)[k * 2]? = some (.bool p.1) ∧ (ps.flatMap pcs)[k * 2 + 1]? = some p.2.1
 | [], k, p, h => by simp at h
 | q :: ps, 0, p, h => by
  simp at h
  subst h
  simp [pcs]
 | q :: ps, k + 1, p, h => by
  have ih := flat_get ps k p (by simpa using h)
  rw [show (k + 1) * 2 = k * 2 + 2 by omega, show k * 2 + 2 + 1 = k * 2 + 1 + 2 by omega]
  simpa [pcs] using ih
theorem steps_len {B n c : Nat} {w : World} {a : Option Addr} {ps : List Pt} (h : OwnSteps B w (.slice a n c) ps) : ps.length = n := by
 rcases h.outer.2 with ⟨e, h0⟩ | ⟨g', c', cur, e, _⟩
 · injection e with _ e _; omega
 · injection e with _ e _; exact e.symm
theorem steps_cell {B g n c j : Nat} {w : World} {ps : List Pt} (h : OwnSteps B w (.slice (some ⟨g, 0, none⟩) n c) ps) (hj : j < n) : ∃ p, ps[j]? = some p ∧ w.cell? ⟨g, j * 2, none⟩ = some (.bool p.1) ∧ w.cell? ⟨g, j * 2 + 1, none⟩ = some p.2.1 ∧ w.frozen? ⟨g, j * 2, none⟩ = false ∧ OwnInts B w p.2.1 p.2.2 := by
 have hl := steps_len h
 have hjc : j < ps.length := by omega
 refine ⟨ps[j], List.getElem?_eq_getElem hjc, ?_⟩
 obtain ⟨f1, f2⟩ := flat_get ps j ps[j] (List.getElem?_eq_getElem hjc)
 rcases h.outer.2 with ⟨e, _⟩ | ⟨g', cap, cur, e, _, hh, _, _, hs, ht⟩
 · cases e
 · have eg : g = g' := by injection e with e; injection e with e; injection e
   subst eg
   have h3 : ∀ i, i < ps.length * 2 → cur[i]? = (ps.flatMap pcs)[i]? := fun i hi => by
    rw [← ht, List.getElem?_take, if_pos hi, Array.getElem?_toList]
   exact ⟨by simp [World.cell?, hh, h3 (j * 2) (by omega), f1], by simp [World.cell?, hh, h3 (j * 2 + 1) (by omega), f2], by simp [World.frozen?, hh], h.inner _ (List.getElem_mem hjc)⟩
theorem row_of_steps {B : Nat} {w : World} {v : Value} {ps : List Pt} {ss : List St} (h : OwnSteps B w v ps) (hs : ps.map strip = ss) : ∃ a c, v = .slice a ss.length c ∧ StepRow w a ss.length ss := by
 have hl : ss.length = ps.length := by rw [← hs, List.length_map]
 rcases h.outer.2 with ⟨e, h0⟩ | ⟨g, cap, cur, e, _, hh, hn, hm, _⟩
 · rw [hl, h0]
   exact ⟨none, 0, e, ⟨by omega, by unfold maxLen; omega, fun i hi => absurd hi (Nat.not_lt_zero _)⟩⟩
 · subst e
   rw [hl]
   refine ⟨_, cap, rfl, ⟨hl, Nat.le_trans hn hm, fun i hi => ?_⟩⟩
   obtain ⟨p, hp, c0, c1, _, hi2⟩ := steps_cell h hi
   obtain ⟨a', c', e', hr⟩ := hi2.form
   have hsi : ss[i]?.getD (false, []) = (p.1, p.2.2) := by rw [← hs, List.getElem?_map, hp]; rfl
   refine ⟨g, 0, rfl, ?_, a', p.2.2.length, c', ?_, ?_⟩
   · rw [hsi]; simpa using c0
   · rw [← e']; simpa using c1
   · rw [hsi]; exact hr
end Go.Proofs.YtmkhoocokpkojaaGreatDoor.stepsEq
namespace Go.Proofs.YtmkhoocokpkojaaGreatDoor.sameSteps
open Go.RowKit Go.Deep base copy
open readSpecP (Pt pcs OwnSteps strip)
set_option linter.unusedVariables false
abbrev St := Bool × List Int
theorem row_steps {B : Nat} {w : World} {v : Value} {ps : List Pt} {ss : List St} (h : OwnSteps B w v ps) (hs : ps.map strip = ss) : ∃ a c, v = .slice a ss.length c ∧ steps.StepRow w a ss.length ss := by
 obtain ⟨a, c, e, hr⟩ := stepsEq.row_of_steps h hs
 exact ⟨a, c, e, ⟨hr.length, hr.most, hr.cell⟩⟩
set_option maxHeartbeats 1600000 in
set_option maxRecDepth 8000 in
theorem same_steps (a a' : Option Addr) (len cap cap' : Nat) (ss : List St) (w : World) (hr : steps.StepRow w a len ss) (hr' : steps.StepRow w a' len ss) :
  Calls Tryz.prog 13 #[.slice a len cap, .slice a' len cap'] w fun e w' => e = .returned (.bool true) ∧ Below w.heap.size w w' := by
 have hmost := hr.most
 unfold maxLen at hmost
 have HR := hid hr
 have HR' := hid hr'
 clear hr hr'
 have hbl : ((len : Int) != (len : Int)) = false := by simp
 go_enter Tryz.func13, Tryz.ntmps13
 go_wp2
 go_loopw [5] (fun i wr => ∃ k q : Nat, k ≤ len ∧ i = .int .i64 k ∧ wr = w.drewN q) (fun i _ => len - (intOf i).toNat)
 case atStart => exact ⟨0, 0, Nat.zero_le _, rfl, rfl⟩
 case round =>
  obtain ⟨k, q, hk, rfl, hw⟩ := hrel
  have HB : Hid (Below w.heap.size w wr) := hid (by rw [hw]; exact stepsEq.bdn (Below.refl _ _) q)
  have HW := hid hw
  clear hw
  by_cases hlt : k < len
  · obtain ⟨b, off, rfl, hc0, x, l, c, hc1, hx0⟩ := HR.out.cell k hlt
    obtain ⟨b', off', rfl, hc0', x', l', c', hc1', hx0'⟩ := HR'.out.cell k hlt
    replace hc0 := keep HB.out hc0
    replace hc1 := keep HB.out hc1
    replace hc0' := keep HB.out hc0'
    replace hc1' := keep HB.out hc1'
    have HX := hid (hx0.below HB.out)
    have HX' := hid (hx0'.below HB.out)
    clear hx0 hx0'
    generalize ss[k]?.getD (false, []) = y at *
    obtain ⟨d, zs⟩ := y
    simp only at hc0 hc0' HX HX'
    have HC : Hid (∀ q, Calls Tryz.prog 34 #[.slice x l c, .slice x' l' c'] (wr.drewN q) fun e w' => e = .returned (.bool true) ∧ ∃ n, w' = (wr.drewN q).drewN n) := hid (fun q => (cnfDraw.same_ints x x' l l' c c' zs zs _ (HX.out.drewN q) (HX'.out.drewN q)).mono (fun e w' ⟨he, hw⟩ => ⟨by rw [he, decide_eq_true rfl], hw⟩))
    have i1 : (0 : Int) ≤ (k : Int) := by omega
    have i2 : (k : Int) < (len : Int) := by omega
    have hdd : (d != d) = false := by simp
    go_wp2
    go_quiet ((go_at_call 34; exact Calls.quiet_of (HC.out _)))
    go_wp2
    go_roundw
    case rel => exact ⟨k + 1, q + nq, by omega, by go_num, by rw [HW.out, World.drewN_drewN]⟩
    case measure => simp [intOf]; omega
  · have e : k = len := by omega
    subst e
    go_wp2
    go_ret
    exact ⟨rfl, HB.out⟩
end Go.Proofs.YtmkhoocokpkojaaGreatDoor.sameSteps
namespace Go.Proofs.YtmkhoocokpkojaaGreatDoor.atAny
open Go.RowKit Go.Deep Go base source
set_option linter.unusedVariables false
theorem ret_int {a b : Int} (h : a = b) : Ending.returned (.int .i64 a) = .returned (.int .i64 b) := by rw [h]
set_option maxHeartbeats 1600000 in
theorem at_any (i n : Nat) (hi : i ≤ 1000000) (hn : 1 ≤ n) (hn' : n ≤ 256) (a : Option Addr) (len cap : Nat) (w : World) (hb : Bytes w a len) (hl : len ≤ 1048576) :
  Calls Tryz.prog 5 #[.slice a len cap, .int .i64 (i : Int), .int .i64 (n : Int)] w fun e w' => ∃ r : Nat, e = .returned (.int .i64 r) ∧ r < n ∧ Below w.heap.size w w' := by
 have HB := hid hb
 clear hb
 by_cases h1 : n = 1
 · subst h1
   go_enter Tryz.func5, Tryz.ntmps5
   go_wp2
   go_ret
   exact ⟨0, rfl, by omega, (by repeat (first | exact Below.refl _ _ | assumption | refine Below.drew ?_ | refine Below.alloc ?_ (by first | exact Nat.le_refl _ | omega | (simp; done) | (simp; omega)) _ | refine Below.setCell ?_ (by first | exact Nat.le_refl _ | omega | (simp; done) | (simp; omega)) _))⟩
 have hn1 : decide ((n : Int) ≤ 1) = false := decide_eq_false (by omega)
 have hn0 : ((n : Int) == 0) = false := by simp; omega
 have hn2 : (0 : Int) < (n : Int) := by omega
 have hfin : ∀ z : Int, 0 ≤ z % (n : Int) ∧ z % (n : Int) < n := fun z => ⟨Int.emod_nonneg _ (by omega), Int.emod_lt_of_pos _ (by omega)⟩
 have HFin := hid hfin
 clear hfin
 by_cases h0 : len = 0
 · subst h0
   go_enter Tryz.func5, Tryz.ntmps5
   go_wp2
   go_ret
   obtain ⟨f0, f1⟩ := HFin.out ((i : Int) * 7)
   exact ⟨((i : Int) * 7 % (n : Int)).toNat, ret_int (by omega), by omega, (by repeat (first | exact Below.refl _ _ | assumption | refine Below.drew ?_ | refine Below.alloc ?_ (by first | exact Nat.le_refl _ | omega | (simp; done) | (simp; omega)) _ | refine Below.setCell ?_ (by first | exact Nat.le_refl _ | omega | (simp; done) | (simp; omega)) _))⟩
 have hq0 : ((len : Int) == 0) = false := by simp; omega
 have hlp : (0 : Int) < (len : Int) := by omega
 obtain ⟨p, hp⟩ : ∃ p : Nat, i % len = p := ⟨_, rfl⟩
 obtain ⟨q, hq⟩ : ∃ q : Nat, (i + 1) % len = q := ⟨_, rfl⟩
 obtain ⟨r, hr⟩ : ∃ r : Nat, i / len = r := ⟨_, rfl⟩
 have hpl : p < len := by rw [← hp]; exact Nat.mod_lt _ (by omega)
 have hql : q < len := by rw [← hq]; exact Nat.mod_lt _ (by omega)
 have hrl : r ≤ 1000000 := by rw [← hr]; exact Nat.le_trans (Nat.div_le_self _ _) hi
 have hp' : (i : Int) % (len : Int) = (p : Int) := by rw [← hp]; simp
 have hq' : ((i : Int) + 1) % (len : Int) = (q : Int) := by rw [← hq]; simp
 have hr' : (i : Int) / (len : Int) = (r : Int) := by rw [← hr]; simp
 clear hp hq hr
 obtain ⟨bb, off, rfl, x, hx, hc⟩ := HB.out p hpl
 obtain ⟨bb', off', he, y, hy, hd⟩ := HB.out q hql
 cases he
 have ip : (p : Int) < (len : Int) := by omega
 have iq : (q : Int) < (len : Int) := by omega
 go_enter Tryz.func5, Tryz.ntmps5
 go_wp2
 go_quiet (fail)
 go_wp2
 go_ret
 obtain ⟨f0, f1⟩ := HFin.out ((x : Int) * 31 + (y : Int) + (r : Int))
 have hb := base.below_drewN w nq
 exact ⟨(((x : Int) * 31 + (y : Int) + (r : Int)) % (n : Int)).toNat, ret_int (by omega), by omega, hb⟩
end Go.Proofs.YtmkhoocokpkojaaGreatDoor.atAny
namespace Go.Proofs.YtmkhoocokpkojaaGreatDoor.args
open Go.ChangeShapes Go.WideShapes Go.ChangeAt Go.RowKit Go.Deep Go.Joins base
variable {H : Type} {enc : TypeId × Value → H} {P : Program} {w : World} {base : Nat} {held : Bool}
theorem at_none {x : Addr} {i : Nat} {v v0 : Value} (h0 : w.cell? (x.add 0) = some v0) (h : w.cell? (x.add i) = some v) : x = ⟨x.block, x.off, none⟩ ∧ w.cell? ⟨x.block, x.off + i, none⟩ = some v := by
 have hs := World.cell?_spot h0
 obtain ⟨b, o, s⟩ := x
 have hs' : s = none := by simpa [Addr.add] using hs
 subst hs'
 refine ⟨rfl, ?_⟩
 by_cases e : i = 0
 · subst e; simpa [Addr.add] using h
 · simpa [Addr.add, e] using h
end Go.Proofs.YtmkhoocokpkojaaGreatDoor.args
namespace Go.Proofs.YtmkhoocokpkojaaGreatDoor.byteArgs
open Go.ChangeShapes Go.WideShapes Go.ChangeAt Go.RowKit Go.Deep Go.Joins base args
theorem bytes_of_trod {H : Type} {enc : TypeId × Value → H} {P : Program} {w : World} {base : Nat} {held : Bool} {t e : TypeId} {fuel : Nat} {v : Value} {x : DataW H × List MemPlace} (ht : P.underlying t = some (.slice e)) (he : P.underlying e = some (.int .u8)) (ce : P.cellsOf e = 1)
  (h : DataW.trod enc P w base (fun _ => true) held fuel t [v] = some x) : ∃ a len cap, v = .slice a len cap ∧ source.Bytes w a len ∧ len ≤ maxLen := by
 rcases open_ints ht he ce h with ⟨hcs, _⟩ | ⟨x, l, c, zs, hcs, _, hl, hm, hz, _, hcell, hwz⟩
 · exact ⟨none, 0, 0, by simpa using hcs, fun i hi => absurd hi (Nat.not_lt_zero _), Nat.zero_le _⟩
 · simp only [if_true] at hz
   refine ⟨some x, l, c, by simpa using hcs, fun i hi => ?_, Nat.le_trans hl hm⟩
   obtain ⟨e1, e2⟩ := at_none (hcell 0 (by omega)) (hcell i (by omega))
   have hi' : i < zs.length := by omega
   have hw := hwz zs[i] (List.getElem_mem hi')
   have hr : 0 ≤ zs[i] ∧ zs[i] < 256 := by
    simp [Lit.wf, IntKind.min, IntKind.max, IntKind.bits, IntKind.signed] at hw
    omega
   obtain ⟨y, hy⟩ := Int.eq_ofNat_of_zero_le hr.1
   refine ⟨x.block, x.off, by rw [← e1], y, by omega, ?_⟩
   rw [e2, List.getD_eq_getElem?_getD, List.getElem?_eq_getElem hi', Option.getD_some, hy]
end Go.Proofs.YtmkhoocokpkojaaGreatDoor.byteArgs
