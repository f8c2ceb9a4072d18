/- NodesO; LeastModel; ImpSpec; ImpIff: one text, so that the claim has fewer files. -/
import Derived.Test.YtbahjpheaaiamaaDoorRowsOwn
import Derived.OwnWalk
import Derived.WalkSpells
import Derived.Maps.AppendAt
import Derived.Test.YtbahjpheaaiamaaDoorPart41
import Derived.Deep.CutBlock
import Derived.Deep.RegionWith
import Derived.Test.YtbahjpheaaiamaaDoorPart38
import Derived.Test.YtbahjpheaaiamaaDoorPart40
/- Rows of bools that a call makes for itself; conditions: none. -/
namespace Go.Proofs.YtbahjpheaaiamaaDoor.nodes
open Go.RowKit Go.Deep base
set_option linter.unusedVariables false


def OwnBools (B : Nat) (w : World) (v : Value) (zs : List Bool) : Prop := w.ownsRow B 4 1 v zs.length (zs.map Value.bool)
theorem OwnBools.form {B L : Nat} {w : World} {v : Value} {zs : List Bool} (h : OwnBools B w v zs) (hL : zs.length = L) : ∃ a cap, v = .slice a L cap ∧ BoolRow w a L zs := by
  subst hL
  obtain ⟨h1, h2⟩ := h
  rcases h2 with ⟨rfl, hn⟩ | ⟨g, cap, cur, rfl, hb, hh, hn, hm, hs, ht⟩
  · exact ⟨none, 0, by rw [hn], ⟨rfl, by rw [hn]; exact Nat.zero_le _, fun i hi => by omega⟩⟩
  · refine ⟨some ⟨g, 0, none⟩, cap, rfl, ⟨rfl, Nat.le_trans hn hm, fun i hi => ⟨g, 0, rfl, ?_⟩⟩⟩
    have h3 : cur[i]? = some (.bool (zs[i]?.getD false)) := by
      have : (cur.toList.take (zs.length * 1))[i]? = (zs.map Value.bool)[i]? := by rw [ht]
      rw [List.getElem?_take, if_pos (by omega)] at this
      rw [← Array.getElem?_toList, this, List.getElem?_map, List.getElem?_eq_getElem hi]
      rfl
    simp [World.cell?, hh, h3]
theorem OwnBools.below {B : Nat} {W w1 : World} {v : Value} {zs : List Bool} (h : OwnBools B W v zs) (hb : Below W.heap.size W w1) : OwnBools B w1 v zs := by
  obtain ⟨h1, h2⟩ := h
  refine ⟨h1, ?_⟩
  rcases h2 with h2 | ⟨g, cap, cur, e, hg, hh, hn, hm, hs, ht⟩
  · exact .inl h2
  · exact .inr ⟨g, cap, cur, e, hg, by rw [hb.block g (Array.getElem?_eq_some_iff.1 hh).1]; exact hh, hn, hm, hs, ht⟩
theorem grown_below {B N : Nat} {w w1 w2 : World} {v : Value} {zs : List Bool} (h : OwnBools B w1 v zs) (hb : Below N w w1) (hN : N ≤ B) (hB : B ≤ w1.heap.size) (hg : w1.grownBy w2 v.ownBlock) : Below N w w2 :=
  hb.grown hg (Nat.le_trans hN hB) (fun k hk => Nat.le_trans hN (World.ownsRow.lt h k hk).1)
theorem OwnBools.mono {B B' : Nat} {w : World} {v : Value} {zs : List Bool} (h : OwnBools B w v zs) (hB : B' ≤ B) : OwnBools B' w v zs := by
  obtain ⟨h1, h2⟩ := h
  refine ⟨h1, ?_⟩
  rcases h2 with h2 | ⟨g, cap, cur, e, hg, h3⟩
  · exact .inl h2
  · exact .inr ⟨g, cap, cur, e, Nat.le_trans hB hg, h3⟩
theorem OwnBools.one (B : Nat) (w : World) (b : Bool) (hB : B ≤ w.heap.size) : OwnBools B (w.alloc (.cells #[.bool b] 4)) (.slice (some ⟨w.heap.size, 0, none⟩) 1 1) [b] :=
  ⟨rfl, .inr ⟨w.heap.size, 1, #[.bool b], rfl, hB, heap_alloc_new w _, Nat.le_refl _, by unfold maxLen; omega, rfl, rfl⟩⟩
theorem OwnBools.nil (B : Nat) (w : World) : OwnBools B w (.slice none 0 0) [] := ⟨rfl, .inl ⟨rfl, rfl⟩⟩
theorem OwnBools.zero (B : Nat) (w : World) (hB : B ≤ w.heap.size) : OwnBools B (w.alloc (.cells #[] 4)) (.slice (some ⟨w.heap.size, 0, none⟩) 0 0) [] :=
  ⟨rfl, .inr ⟨w.heap.size, 0, #[], rfl, hB, heap_alloc_new w _, Nat.le_refl _, Nat.zero_le _, rfl, rfl⟩⟩
theorem OwnBools.add {B : Nat} {w : World} {v : Value} {zs ys : List Bool} {n m : Nat} (h : w.ownsRow B 4 1 v (n + m) (zs.map Value.bool ++ ys.map Value.bool)) (hn : zs.length = n) (hm : ys.length = m) : OwnBools B w v (zs ++ ys) := by
  unfold OwnBools
  rw [List.length_append, List.map_append, hn, hm]
  exact h
theorem row_cells {w : World} {g n : Nat} {zs : List Bool} (h : BoolRow w (some ⟨g, 0, none⟩) n zs) {w1 : World} (hb : Below w.heap.size w w1) : ∀ i u, (zs.map Value.bool)[i]? = some u → w1.cell? ((⟨g, 0, none⟩ : Addr).add i) = some u := fun i u hu => by
  rw [List.getElem?_map] at hu
  by_cases hi : i < n
  · obtain ⟨b, o, e, hc⟩ := h.cell i hi
    cases e
    rw [List.getElem?_eq_getElem (by rw [h.length]; omega)] at hu hc
    simp at hu
    subst hu
    have e2 : ((⟨g, 0, none⟩ : Addr).add i) = ⟨g, 0 + i, none⟩ := by
      by_cases e : i = 0
      · subst e; rfl
      · simp [Addr.add, e]
    rw [e2]
    exact keep hb hc
  · rw [List.getElem?_eq_none (by rw [h.length]; omega)] at hu
    simp at hu
end Go.Proofs.YtbahjpheaaiamaaDoor.nodes

/- The least model of a right formula, of the specification (LeastModel); conditions: a right formula. -/
namespace Go.Proofs.YtbahjpheaaiamaaDoor.leastModel
open Go.RowKit Go.Deep base copy rowsOwn runL leastSem leastImpl
open runS (ValRow setV openN)
open nodes (OwnBools)
set_option linter.unusedVariables false

def V0 : Nat → Int := fun _ => 0
/-- How the search ends, by one word. -/
def One (Z : List (List Int)) (n : Nat) (w : World) (v : Value) (ok : Bool) (w' : World) : Prop :=
  (∃ g c M, v = .slice (some ⟨g, 0, none⟩) n c ∧ ok = true ∧ ValRow w' g n M ∧ Least Z n V0 M ∧ Below w.heap.size w w') ∨ (v = .slice none 0 0 ∧ ok = false ∧ None_ Z n V0 ∧ Below w.heap.size w w')
end Go.Proofs.YtbahjpheaaiamaaDoor.leastModel

/- Implied of the specification: a clause is implied just when it is true in all models; conditions: a right formula and a right clause. -/
namespace Go.Proofs.YtbahjpheaaiamaaDoor.impSpec
open Go.RowKit Go.Deep base copy cnf sets rowsOwn solSets solMath solHold solProp solClose solRun chkNew chkMath rupSpec leastSem leastImpl runL
open runS (ValRow setV abs_spec set_spec)
open rupFaceS (cnf_in clause_in)
set_option linter.unusedVariables false
set_option linter.unusedSimpArgs false

/-- A clause is true in all models. -/
def impP (n : Nat) (Z : List (List Int)) (zs : List Int) : Prop := ∀ M, Mod Z n M → ∃ z ∈ zs, runS.valOf M z = 1
theorem val_turn (M : Nat → Int) {l : Int} (h : l ≠ 0) : runS.valOf M (-l) = -runS.valOf M l := by
  unfold runS.valOf
  rw [Int.natAbs_neg]
  by_cases h1 : l < 0
  · rw [if_pos h1, if_neg (by omega)]; omega
  · rw [if_neg h1, if_pos (by omega)]
theorem tot_lit {M : Nat → Int} {n : Nat} {z : Int} (h : Tot M n) (hz : z ≠ 0) (hn : z.natAbs < n) : runS.valOf M z = 1 ∨ runS.valOf M z = -1 := by
  have := h z.natAbs (by omega) hn
  unfold runS.valOf
  split <;> omega
theorem one_any {Z : List (List Int)} {n : Nat} {V : Nat → Int} {w w' : World} {e : Ending} (h : LEnds Z n V w e w') : ∃ v ok, e = .returned (.tuple #[v, .bool ok]) ∧ ((∃ M, ok = true ∧ Least Z n V M ∧ Below w.heap.size w w') ∨ (ok = false ∧ None_ Z n V ∧ Below w.heap.size w w')) := by
  rcases h with ⟨g, c, M, rfl, h1, h2, h3⟩ | ⟨rfl, h1, h2⟩
  · exact ⟨_, _, rfl, .inl ⟨M, rfl, h2, h3⟩⟩
  · exact ⟨_, _, rfl, .inr ⟨rfl, h1, h2⟩⟩
set_option maxHeartbeats 6400000 in
set_option maxRecDepth 8000 in
theorem refuted_spec (B n : Nat) (a : Option Addr) (len cap : Nat) (psZ : List (Value × List Int)) (zss : List (List Int)) (hps : psZ.map (·.2) = zss) (b : Option Addr) (bl bc : Nat) (zs : List Int) (w : World) (hr : OwnRows B w (.slice a len cap) psZ) (hb : IntRow w b bl zs) (hn : 1 ≤ n ∧ n ≤ 41) (hl : LitsIn n zss) (hz : ∀ z ∈ zs, z ≠ 0 ∧ z.natAbs < n) :
    Calls Tryd.prog 30 #[.slice a len cap, .int .i64 ((n : Int) - 1), .slice b bl bc] w fun e w' => ∃ t : Bool, e = .returned (.bool t) ∧ (t = true ↔ impP n zss zs) ∧ Below w.heap.size w w' := by
  have hmost := hb.most
  unfold maxLen at hmost
  have HLb := hid hb.length
  have HRo := hid hr
  have HBr := hid hb
  have HZ := hid hz
  have HLi := hid hl
  have HPs := hid hps
  have hmk := run_make_row' (P := Tryd.prog) 36 3 (.int .i64 0) 8 Tryd.underlying36 Tryd.info_int rfl .i64 .i64 n (by omega) (by omega)
  have hwr : IntKind.i64.wrap ((n : Int) - 1 + 1) = (n : Int) := by rw [IntKind.wrap_i64]; omega
  obtain ⟨hn0, hn41⟩ := hn
  clear hr hb hz hl hps
  go_enter Tryd.func30, Tryd.ntmps30
  go_wp2
  clear hmk hwr
  go_loopw [8] (fun i wr => ∃ (k : Nat) (V : Nat → Int) (H : LS), k ≤ bl ∧ i = .int .i64 k ∧ ValRow wr w.heap.size n V ∧ Below w.heap.size w wr ∧ w.heap.size < wr.heap.size ∧ Wf H ∧ Cons H ∧ Agree V H ∧ H = turnL (setL (zs.take k))) (fun i _ => bl - (intOf i).toNat)
  case atStart =>
    refine ⟨0, fun _ => 0, (0, 0), Nat.zero_le _, rfl, ?_, (Below.refl _ _).alloc (Nat.le_refl _) _, by simp, wf_zero, cons_zero, agree0, rfl⟩
    have hrow := World.rowIs_made w (.int .i64 0) n 3
    exact ⟨fun i hi => ⟨hrow.cell hi, hrow.frozen i⟩, fun i _ => by omega⟩
  case round =>
    obtain ⟨k, V, H, hk, rfl, hvr, hbr, hsz, hwf, hcs, hag, hHe⟩ := hrel
    have HVR := hid hvr
    have HBR := hid hbr
    have HWf := hid hwf
    have HCs := hid hcs
    have HAg := hid hag
    have HHe := hid hHe
    clear hvr hbr hwf hcs hag hHe
    by_cases hlt : k < bl
    · obtain ⟨g, off, rfl, hc⟩ := (HBr.out.below HBR.out).cell k hlt
      have hkl : k < zs.length := by rw [HLb.out]; exact hlt
      have hzz := HZ.out (zs[k]?.getD 0) (by rw [List.getElem?_eq_getElem hkl]; exact List.getElem_mem hkl)
      have HTk := hid (set_take hkl)
      have HIn : Hid (zs[k]?.getD 0 ∈ zs) := hid (by rw [List.getElem?_eq_getElem hkl]; exact List.getElem_mem hkl)
      clear hkl
      generalize zs[k]?.getD 0 = z at *
      obtain ⟨z0, hzn⟩ := hzz
      have zlo : -40 ≤ z := by omega
      have zhi : z ≤ 40 := by omega
      obtain ⟨hvc, hvf⟩ := HVR.out.cell z.natAbs hzn
      obtain ⟨r0, r1⟩ := HVR.out.range z.natAbs hzn
      have htt := true_test HAg.out HCs.out ⟨r0, r1⟩ z0 zlo zhi
      obtain ⟨W9, hW9⟩ : ∃ W9, wr.setCell ⟨w.heap.size, (-z).natAbs, none⟩ (.int .i64 (if 0 < -z then 1 else -1)) = W9 := ⟨_, rfl⟩
      have HSt := hid (set_spec w.heap.size n n V (-z) wr HVR.out (by rw [Int.natAbs_neg]; exact hzn) (by omega) hn41)
      rw [hW9] at HSt
      have HW9 := hid hW9
      clear hW9
      have HZn := hid hzn
      obtain ⟨vz, hvz⟩ : ∃ v, V z.natAbs = v := ⟨_, rfl⟩
      obtain ⟨j, hj⟩ : ∃ j, z.natAbs = j := ⟨_, rfl⟩
      rw [hvz] at hvc r0 r1 htt
      have HA : Hid (∀ w, Calls Tryd.prog 51 #[.int .i64 z] w fun e w' => e = .returned (.int .i64 (j : Int)) ∧ w' = w) := fun w => by
        have := abs_spec z w (by omega) (by omega)
        rw [hj] at this
        exact this
      rw [hj] at hvc hvf hzn
      have hjn : (j : Int) < (n : Int) := by omega
      clear hvz hj
      by_cases hm : mem H z = true
      · obtain ⟨p1, p2⟩ := htt.1 hm
        have HT : Hid (impP n zss zs) := hid (by
          have h1 := hm
          rw [HHe.out, mem_turn z0, mem_set (fun y hy => (HZ.out y (List.mem_of_mem_take hy)).1), List.contains_iff_mem] at h1
          have h2 := List.mem_of_mem_take h1
          intro M hM
          rcases tot_lit hM.1 z0 HZn.out with e | e
          · exact ⟨z, HIn.out, e⟩
          · exact ⟨-z, h2, by rw [val_turn M z0, e]; rfl⟩)
        have hq : (vz = 1 ∧ 0 < z) ∨ (vz = -1 ∧ z < 0) := by
          have : vz = 1 ∨ vz = -1 := by omega
          rcases this with rfl | rfl
          · left; simp at p2; omega
          · right; simp at p2; omega
        clear htt p1 p2 hm
        have hdz : z < 0 → (!decide (0 < z)) = true := fun h => by simp; omega
        rcases hq with ⟨rfl, hq⟩ | ⟨rfl, hq⟩
        rotate_left
        have hdz := hdz hq
        all_goals
          go_wp2_with (go_at_call 51; refine (HA.out _).mono ?_; rintro e w' ⟨rfl, rfl⟩)
          go_ret
          exact ⟨true, rfl, ⟨fun _ => HT.out, fun _ => rfl⟩, HBR.out⟩
      · have hq : vz = 0 ∨ (vz = 1 ∧ z < 0) ∨ (vz = -1 ∧ 0 < z) := by
          have : vz = 0 ∨ vz = 1 ∨ vz = -1 := by omega
          rcases this with rfl | rfl | rfl
          · exact .inl rfl
          · by_cases hp : 0 < z
            · exact absurd (htt.2 ⟨by omega, by simp [hp]⟩) hm
            · exact .inr (.inl ⟨rfl, by omega⟩)
          · by_cases hp : 0 < z
            · exact .inr (.inr ⟨rfl, hp⟩)
            · exact absurd (htt.2 ⟨by omega, by simp; omega⟩) hm
        have hmf : mem H z = false := by simpa using hm
        have HN : Hid (∃ (k' : Nat) (V' : Nat → Int) (H' : LS), k' ≤ bl ∧ (.int .i64 ((k : Int) + 1) : Value) = .int .i64 k' ∧ ValRow W9 w.heap.size n V' ∧ Below w.heap.size w W9 ∧ w.heap.size < W9.heap.size ∧ Wf H' ∧ Cons H' ∧ Agree V' H' ∧ H' = turnL (setL (zs.take k'))) := hid (by
          rw [← HW9.out]
          refine ⟨k + 1, setV V (-z), withL H (onlyL (-z)), by omega, rfl, HVR.out.set, HBR.out.setCell (Nat.le_refl _) _, by simpa using hsz, wf_with HWf.out (wf_only (by omega) (by omega) (by omega)), ?_, agree_set HAg.out (by omega) (by omega) (by omega) (by rw [Int.neg_neg]; exact hmf), ?_⟩
          · intro l hl
            rw [mem_held (by omega)] at hl ⊢
            by_cases e : -z = l
            · subst e
              rw [Int.neg_neg, hmf]
              simp; omega
            · have hl : mem H l = true := by simpa [e] using hl
              rw [HCs.out l hl]
              simp
              intro e3
              have : z = l := by omega
              rw [← this, hmf] at hl
              cases hl
          · rw [HTk.out, turn_with, ← HHe.out, turn_only z0])
        clear htt hm hmf
        rcases hq with rfl | ⟨rfl, hq⟩ | ⟨rfl, hq⟩
        all_goals
          go_wp2_with first
            | (go_at_call 51; refine (HA.out _).mono ?_; rintro e w' ⟨rfl, rfl⟩)
            | (go_at_call 52; refine HSt.out.mono ?_; rintro e w' ⟨rfl, rfl⟩)
          go_round
          case rel => first | exact HN.out | (have := HN.out; go_num)
          case measure => simp [intOf]; omega
    · have e : k = bl := by omega
      subst e
      have hTk : zs.take k = zs := List.take_of_length_le (by rw [HLb.out]; exact Nat.le_refl _)
      rw [hTk] at HHe
      have HLe := hid (least_spec B n a len cap psZ (by omega) hn41 (by rw [HPs.out]; exact HLi.out) (runS.openN V n + 1) w.heap.size n V wr (Nat.lt_succ_self _) (HRo.out.below HBR.out) HVR.out)
      rw [HPs.out] at HLe
      have HY : Hid (∀ M, Least zss n V M → ¬ impP n zss zs) := hid (fun M hL hi => by
        obtain ⟨z, hz, hv⟩ := hi M hL.1
        have h0 := HZ.out z hz
        have h1 : mem H (-z) = true := by
          rw [HHe.out, mem_turn (by omega), Int.neg_neg, mem_set (fun y hy => (HZ.out y hy).1), List.contains_iff_mem]; exact hz
        have h2 := HAg.out (-z) (by omega) (by omega) (by omega)
        rw [if_pos h1] at h2
        have h3 := val_ext (z := -z) hL.2.1 (by omega) (by omega) (by omega)
        rw [h2, val_turn M h0.1, hv] at h3
        cases h3)
      have HNo : Hid (None_ zss n V → impP n zss zs) := hid (fun hN M hM => Classical.byContradiction fun hno => hN M hM (fun i h1 h2 h3 => by
        have h4 := HAg.out (i : Int) (by omega) (by omega) (by omega)
        have h5 : runS.valOf V (i : Int) = V i := by unfold runS.valOf; rw [if_neg (by omega)]; rfl
        rw [h5] at h4
        have hmi : ∀ x : Int, x ≠ 0 → mem H x = true → -x ∈ zs := fun x hx hm => by
          rwa [HHe.out, mem_turn hx, mem_set (fun y hy => (HZ.out y hy).1), List.contains_iff_mem] at hm
        have h6 : runS.valOf M (i : Int) = M i := by unfold runS.valOf; rw [if_neg (by omega)]; rfl
        by_cases h7 : mem H (i : Int) = true
        · rw [if_pos h7] at h4
          have h8 := hmi _ (by omega) h7
          rcases tot_lit (z := -(i : Int)) hM.1 (by omega) (by omega) with e | e
          · exact absurd ⟨_, h8, e⟩ hno
          · rw [val_turn M (by omega), h6] at e
            rw [h4]; omega
        · rw [if_neg h7] at h4
          by_cases h9 : mem H (-(i : Int)) = true
          · rw [if_pos h9] at h4
            have h8 := hmi _ (by omega) h9
            rw [Int.neg_neg] at h8
            rcases tot_lit (z := (i : Int)) hM.1 (by omega) (by omega) with e | e
            · exact absurd ⟨_, h8, e⟩ hno
            · rw [h6] at e
              rw [h4]; exact e
          · rw [if_neg h9] at h4
            exact absurd h4 h3))
      clear hTk
      go_wp2_with (go_at_call 20; refine HLe.out.mono ?_; intro e w2 hl2; obtain ⟨v2, ok2, rfl, ho2⟩ := one_any hl2; have HO2 := hid ho2; clear hl2 ho2)
      go_ret
      rcases HO2.out with ⟨M, rfl, hL, hb2⟩ | ⟨rfl, hL, hb2⟩
      · exact ⟨false, rfl, ⟨fun h => (by cases h), fun h => absurd h (HY.out M hL)⟩, HBR.out.trans (hb2.mono HBR.out.size)⟩
      · exact ⟨true, rfl, ⟨fun _ => HNo.out hL, fun _ => rfl⟩, HBR.out.trans (hb2.mono HBR.out.size)⟩
set_option maxHeartbeats 3200000 in
set_option maxRecDepth 8000 in
theorem implied_spec (B nv : Nat) (a : Option Addr) (len cap : Nat) (psZ : List (Value × List Int)) (zss : List (List Int)) (hps : psZ.map (·.2) = zss) (b : Option Addr) (bl bc : Nat) (zs : List Int) (w : World) (hr : OwnRows B w (.slice a len cap) psZ) (hb : IntRow w b bl zs) (hck : cnfB (nv : Int) zss = true) (hcl : clauseB (nv : Int) zs = true) (hnv : nv ≤ 40) (hbl : bl ≤ 4096) :
    Calls Tryd.prog 14 #[.agg #[.int .i64 nv, .slice a len cap], .slice b bl bc] w fun e w' => ∃ t : Bool, e = .returned (.tuple #[.bool t, .int .i64 0]) ∧ (t = true ↔ impP (nv + 1) zss zs) ∧ Below w.heap.size w w' := by
  have HRo := hid hr
  have HBr := hid hb
  have hir : IntRows w a len zss := by rw [← hps]; exact rows_of_own hr
  have HCo := hid (fun (W : World) (hbw : Below w.heap.size w W) => cnfOK_spec (nv : Int) a len cap zss W (hir.below hbw))
  have HCl := hid (fun (W : World) (hbw : Below w.heap.size w W) => clause_spec b bl bc zs (nv : Int) W (by omega) (by omega) (HBr.out.below hbw))
  have HRu := hid (fun (W : World) (hbw : Below w.heap.size w W) => refuted_spec B (nv + 1) a len cap psZ zss hps b bl bc zs W (HRo.out.below hbw) (HBr.out.below hbw) (by omega) (cnf_in (by simpa using hck)) (clause_in (by simpa using hcl)))
  rw [hck] at HCo
  rw [hcl] at HCl
  have en : ((nv + 1 : Nat) : Int) - 1 = nv := by omega
  rw [en] at HRu
  have d1 : ¬ (4096 : Int) < (bl : Int) := by omega
  clear hr hb hir hck hcl hps
  go_enter Tryd.func14, Tryd.ntmps14
  go_wp2_with fail
  refine (HCo.out _ (by repeat (first | exact Below.refl _ _ | assumption | refine Below.drew ?_ | refine Below.alloc ?_ (by first | exact Nat.le_refl _ | omega | (simp; done) | (simp; omega)) _ | refine Below.setCell ?_ (by first | exact Nat.le_refl _ | omega | (simp; done) | (simp; omega)) _))).mono ?_
  rintro e w1 ⟨rfl, hb1⟩
  have f0 := keep hb1 (show (w.alloc (.cells #[.int .i64 nv, .slice a len cap] 29)).cell? ⟨w.heap.size, 0, none⟩ = some (.int .i64 nv) by simp [go_sem])
  have f1 := keep hb1 (show (w.alloc (.cells #[.int .i64 nv, .slice a len cap] 29)).cell? ⟨w.heap.size, 1, none⟩ = some (.slice a len cap) by simp [go_sem])
  have H1 := hid ((show Below w.heap.size w _ from (by repeat (first | exact Below.refl _ _ | assumption | refine Below.drew ?_ | refine Below.alloc ?_ (by first | exact Nat.le_refl _ | omega | (simp; done) | (simp; omega)) _ | refine Below.setCell ?_ (by first | exact Nat.le_refl _ | omega | (simp; done) | (simp; omega)) _))).trans (Below.mono hb1 (by simp)))
  clear hb1
  go_wp2_with fail
  refine (HCl.out _ H1.out).mono ?_
  rintro e w2 ⟨rfl, rfl⟩
  go_wp2_with fail
  refine (HRu.out _ H1.out).mono ?_
  rintro e w3 ⟨t, rfl, ht, hb3⟩
  have HT := hid ht
  have HB3 := hid (H1.out.trans (hb3.mono H1.out.size))
  clear ht hb3
  go_wp2
  go_ret2
  exact ⟨t, rfl, HT.out, HB3.out⟩
end Go.Proofs.YtbahjpheaaiamaaDoor.impSpec

/- Implied told by values is Implied told by sets; conditions: a right formula, a right clause. -/
namespace Go.Proofs.YtbahjpheaaiamaaDoor.impIff
open base copy cnf eval sets setsOf solSets solMath solClose runS leastSem cdState satMath impSpec impMath
open rupSpec (LitsIn)

theorem impP_iff {n : Nat} (hn : n ≤ 40) {Z : List (List Int)} {zs : List Int} (hl : LitsIn (n + 1) Z) (hz : ∀ z ∈ zs, z ≠ 0 ∧ z.natAbs < n + 1) : impP (n + 1) Z zs ↔ impM n Z zs := by
  constructor
  · intro h H hH
    obtain ⟨z, h1, h2⟩ := h _ (mod_of hn hl hH)
    exact (meet_lits hn hz).2 ⟨z, h1, (val_set hH (hz z h1).1 (hz z h1).2).1 h2⟩
  · intro h M hM
    obtain ⟨z, h1, h2⟩ := (meet_lits hn hz).1 (h _ (mdl_of hn hl hM))
    exact ⟨z, h1, ((mem_setM hM.1 z).1 h2).2.2⟩
end Go.Proofs.YtbahjpheaaiamaaDoor.impIff
