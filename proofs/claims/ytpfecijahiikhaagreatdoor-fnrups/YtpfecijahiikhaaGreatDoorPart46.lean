/- ImpSpec; RupsMath; ClauseOfI; Args; ByteArgsI: one text, so that the claim has fewer files. -/
import Derived.Test.YtpfecijahiikhaaGreatDoorPart35
import Derived.Test.YtpfecijahiikhaaGreatDoorPart45
import Derived.Test.YtpfecijahiikhaaGreatDoorPart44
import Derived.Test.YtpfecijahiikhaaGreatDoorCnfDraw
import Derived.Test.YtpfecijahiikhaaGreatDoorPart1
import Derived.ProofKit
import Derived.OpenShut
import Derived.ShutString
import Derived.ChangeOld
import Derived.Lib.SmallJoins
import Derived.Deep.Slices
import Derived.Test.YtpfecijahiikhaaGreatDoorPart8
/- Implied of the specification: a clause is implied just when it is true in all models; conditions: a right formula and a right clause. -/
namespace Go.Proofs.YtpfecijahiikhaaGreatDoor.impSpec
open Go.RowKit Go.Deep base copy cnf sets rowsOwn solSets solMath solHold solProp solClose solRun chkNew chkMath rupSpec leastSem leastImpl runL
open runS (ValRow setV abs_spec set_spec)
open rupFaceS (cnf_in clause_in)
set_option linter.unusedVariables false
set_option linter.unusedSimpArgs false

/-- A clause is true in all models. -/
def impP (n : Nat) (Z : List (List Int)) (zs : List Int) : Prop := ∀ M, Mod Z n M → ∃ z ∈ zs, runS.valOf M z = 1
theorem val_turn (M : Nat → Int) {l : Int} (h : l ≠ 0) : runS.valOf M (-l) = -runS.valOf M l := by
  unfold runS.valOf
  rw [Int.natAbs_neg]
  by_cases h1 : l < 0
  · rw [if_pos h1, if_neg (by omega)]; omega
  · rw [if_neg h1, if_pos (by omega)]
theorem tot_lit {M : Nat → Int} {n : Nat} {z : Int} (h : Tot M n) (hz : z ≠ 0) (hn : z.natAbs < n) : runS.valOf M z = 1 ∨ runS.valOf M z = -1 := by
  have := h z.natAbs (by omega) hn
  unfold runS.valOf
  split <;> omega
theorem one_any {Z : List (List Int)} {n : Nat} {V : Nat → Int} {w w' : World} {e : Ending} (h : LEnds Z n V w e w') : ∃ v ok, e = .returned (.tuple #[v, .bool ok]) ∧ ((∃ M, ok = true ∧ Least Z n V M ∧ Below w.heap.size w w') ∨ (ok = false ∧ None_ Z n V ∧ Below w.heap.size w w')) := by
  rcases h with ⟨g, c, M, rfl, h1, h2, h3⟩ | ⟨rfl, h1, h2⟩
  · exact ⟨_, _, rfl, .inl ⟨M, rfl, h2, h3⟩⟩
  · exact ⟨_, _, rfl, .inr ⟨rfl, h1, h2⟩⟩
set_option maxHeartbeats 6400000 in
set_option maxRecDepth 8000 in
theorem refuted_spec (B n : Nat) (a : Option Addr) (len cap : Nat) (psZ : List (Value × List Int)) (zss : List (List Int)) (hps : psZ.map (·.2) = zss) (b : Option Addr) (bl bc : Nat) (zs : List Int) (w : World) (hr : OwnRows B w (.slice a len cap) psZ) (hb : IntRow w b bl zs) (hn : 1 ≤ n ∧ n ≤ 41) (hl : LitsIn n zss) (hz : ∀ z ∈ zs, z ≠ 0 ∧ z.natAbs < n) :
    Calls Tryz.prog 29 #[.slice a len cap, .int .i64 ((n : Int) - 1), .slice b bl bc] w fun e w' => ∃ t : Bool, e = .returned (.bool t) ∧ (t = true ↔ impP n zss zs) ∧ Below w.heap.size w w' := by
  have hmost := hb.most
  unfold maxLen at hmost
  have HLb := hid hb.length
  have HRo := hid hr
  have HBr := hid hb
  have HZ := hid hz
  have HLi := hid hl
  have HPs := hid hps
  have hmk := run_make_row' (P := Tryz.prog) 27 3 (.int .i64 0) 8 Tryz.underlying27 Tryz.info_int rfl .i64 .i64 n (by omega) (by omega)
  have hwr : IntKind.i64.wrap ((n : Int) - 1 + 1) = (n : Int) := by rw [IntKind.wrap_i64]; omega
  obtain ⟨hn0, hn41⟩ := hn
  clear hr hb hz hl hps
  go_enter Tryz.func29, Tryz.ntmps29
  go_wp2
  clear hmk hwr
  go_loopw [8] (fun i wr => ∃ (k : Nat) (V : Nat → Int) (H : LS), k ≤ bl ∧ i = .int .i64 k ∧ ValRow wr w.heap.size n V ∧ Below w.heap.size w wr ∧ w.heap.size < wr.heap.size ∧ Wf H ∧ Cons H ∧ Agree V H ∧ H = turnL (setL (zs.take k))) (fun i _ => bl - (intOf i).toNat)
  case atStart =>
    refine ⟨0, fun _ => 0, (0, 0), Nat.zero_le _, rfl, ?_, (Below.refl _ _).alloc (Nat.le_refl _) _, by simp, wf_zero, cons_zero, agree0, rfl⟩
    have hrow := World.rowIs_made w (.int .i64 0) n 3
    exact ⟨fun i hi => ⟨hrow.cell hi, hrow.frozen i⟩, fun i _ => by omega⟩
  case round =>
    obtain ⟨k, V, H, hk, rfl, hvr, hbr, hsz, hwf, hcs, hag, hHe⟩ := hrel
    have HVR := hid hvr
    have HBR := hid hbr
    have HWf := hid hwf
    have HCs := hid hcs
    have HAg := hid hag
    have HHe := hid hHe
    clear hvr hbr hwf hcs hag hHe
    by_cases hlt : k < bl
    · obtain ⟨g, off, rfl, hc⟩ := (HBr.out.below HBR.out).cell k hlt
      have hkl : k < zs.length := by rw [HLb.out]; exact hlt
      have hzz := HZ.out (zs[k]?.getD 0) (by rw [List.getElem?_eq_getElem hkl]; exact List.getElem_mem hkl)
      have HTk := hid (set_take hkl)
      have HIn : Hid (zs[k]?.getD 0 ∈ zs) := hid (by rw [List.getElem?_eq_getElem hkl]; exact List.getElem_mem hkl)
      clear hkl
      generalize zs[k]?.getD 0 = z at *
      obtain ⟨z0, hzn⟩ := hzz
      have zlo : -40 ≤ z := by omega
      have zhi : z ≤ 40 := by omega
      obtain ⟨hvc, hvf⟩ := HVR.out.cell z.natAbs hzn
      obtain ⟨r0, r1⟩ := HVR.out.range z.natAbs hzn
      have htt := true_test HAg.out HCs.out ⟨r0, r1⟩ z0 zlo zhi
      obtain ⟨W9, hW9⟩ : ∃ W9, wr.setCell ⟨w.heap.size, (-z).natAbs, none⟩ (.int .i64 (if 0 < -z then 1 else -1)) = W9 := ⟨_, rfl⟩
      have HSt := hid (set_spec w.heap.size n n V (-z) wr HVR.out (by rw [Int.natAbs_neg]; exact hzn) (by omega) hn41)
      rw [hW9] at HSt
      have HW9 := hid hW9
      clear hW9
      have HZn := hid hzn
      obtain ⟨vz, hvz⟩ : ∃ v, V z.natAbs = v := ⟨_, rfl⟩
      obtain ⟨j, hj⟩ : ∃ j, z.natAbs = j := ⟨_, rfl⟩
      rw [hvz] at hvc r0 r1 htt
      have HA : Hid (∀ w, Calls Tryz.prog 51 #[.int .i64 z] w fun e w' => e = .returned (.int .i64 (j : Int)) ∧ w' = w) := fun w => by
        have := abs_spec z w (by omega) (by omega)
        rw [hj] at this
        exact this
      rw [hj] at hvc hvf hzn
      have hjn : (j : Int) < (n : Int) := by omega
      clear hvz hj
      by_cases hm : mem H z = true
      · obtain ⟨p1, p2⟩ := htt.1 hm
        have HT : Hid (impP n zss zs) := hid (by
          have h1 := hm
          rw [HHe.out, mem_turn z0, mem_set (fun y hy => (HZ.out y (List.mem_of_mem_take hy)).1), List.contains_iff_mem] at h1
          have h2 := List.mem_of_mem_take h1
          intro M hM
          rcases tot_lit hM.1 z0 HZn.out with e | e
          · exact ⟨z, HIn.out, e⟩
          · exact ⟨-z, h2, by rw [val_turn M z0, e]; rfl⟩)
        have hq : (vz = 1 ∧ 0 < z) ∨ (vz = -1 ∧ z < 0) := by
          have : vz = 1 ∨ vz = -1 := by omega
          rcases this with rfl | rfl
          · left; simp at p2; omega
          · right; simp at p2; omega
        clear htt p1 p2 hm
        have hdz : z < 0 → (!decide (0 < z)) = true := fun h => by simp; omega
        rcases hq with ⟨rfl, hq⟩ | ⟨rfl, hq⟩
        rotate_left
        have hdz := hdz hq
        all_goals
          go_wp2_with (go_at_call 51; refine (HA.out _).mono ?_; rintro e w' ⟨rfl, rfl⟩)
          go_ret
          exact ⟨true, rfl, ⟨fun _ => HT.out, fun _ => rfl⟩, HBR.out⟩
      · have hq : vz = 0 ∨ (vz = 1 ∧ z < 0) ∨ (vz = -1 ∧ 0 < z) := by
          have : vz = 0 ∨ vz = 1 ∨ vz = -1 := by omega
          rcases this with rfl | rfl | rfl
          · exact .inl rfl
          · by_cases hp : 0 < z
            · exact absurd (htt.2 ⟨by omega, by simp [hp]⟩) hm
            · exact .inr (.inl ⟨rfl, by omega⟩)
          · by_cases hp : 0 < z
            · exact .inr (.inr ⟨rfl, hp⟩)
            · exact absurd (htt.2 ⟨by omega, by simp; omega⟩) hm
        have hmf : mem H z = false := by simpa using hm
        have HN : Hid (∃ (k' : Nat) (V' : Nat → Int) (H' : LS), k' ≤ bl ∧ (.int .i64 ((k : Int) + 1) : Value) = .int .i64 k' ∧ ValRow W9 w.heap.size n V' ∧ Below w.heap.size w W9 ∧ w.heap.size < W9.heap.size ∧ Wf H' ∧ Cons H' ∧ Agree V' H' ∧ H' = turnL (setL (zs.take k'))) := hid (by
          rw [← HW9.out]
          refine ⟨k + 1, setV V (-z), withL H (onlyL (-z)), by omega, rfl, HVR.out.set, HBR.out.setCell (Nat.le_refl _) _, by simpa using hsz, wf_with HWf.out (wf_only (by omega) (by omega) (by omega)), ?_, agree_set HAg.out (by omega) (by omega) (by omega) (by rw [Int.neg_neg]; exact hmf), ?_⟩
          · intro l hl
            rw [mem_held (by omega)] at hl ⊢
            by_cases e : -z = l
            · subst e
              rw [Int.neg_neg, hmf]
              simp; omega
            · have hl : mem H l = true := by simpa [e] using hl
              rw [HCs.out l hl]
              simp
              intro e3
              have : z = l := by omega
              rw [← this, hmf] at hl
              cases hl
          · rw [HTk.out, turn_with, ← HHe.out, turn_only z0])
        clear htt hm hmf
        rcases hq with rfl | ⟨rfl, hq⟩ | ⟨rfl, hq⟩
        all_goals
          go_wp2_with first
            | (go_at_call 51; refine (HA.out _).mono ?_; rintro e w' ⟨rfl, rfl⟩)
            | (go_at_call 52; refine HSt.out.mono ?_; rintro e w' ⟨rfl, rfl⟩)
          go_round
          case rel => first | exact HN.out | (have := HN.out; go_num)
          case measure => simp [intOf]; omega
    · have e : k = bl := by omega
      subst e
      have hTk : zs.take k = zs := List.take_of_length_le (by rw [HLb.out]; exact Nat.le_refl _)
      rw [hTk] at HHe
      have HLe := hid (least_spec B n a len cap psZ (by omega) hn41 (by rw [HPs.out]; exact HLi.out) (runS.openN V n + 1) w.heap.size n V wr (Nat.lt_succ_self _) (HRo.out.below HBR.out) HVR.out)
      rw [HPs.out] at HLe
      have HY : Hid (∀ M, Least zss n V M → ¬ impP n zss zs) := hid (fun M hL hi => by
        obtain ⟨z, hz, hv⟩ := hi M hL.1
        have h0 := HZ.out z hz
        have h1 : mem H (-z) = true := by
          rw [HHe.out, mem_turn (by omega), Int.neg_neg, mem_set (fun y hy => (HZ.out y hy).1), List.contains_iff_mem]; exact hz
        have h2 := HAg.out (-z) (by omega) (by omega) (by omega)
        rw [if_pos h1] at h2
        have h3 := val_ext (z := -z) hL.2.1 (by omega) (by omega) (by omega)
        rw [h2, val_turn M h0.1, hv] at h3
        cases h3)
      have HNo : Hid (None_ zss n V → impP n zss zs) := hid (fun hN M hM => Classical.byContradiction fun hno => hN M hM (fun i h1 h2 h3 => by
        have h4 := HAg.out (i : Int) (by omega) (by omega) (by omega)
        have h5 : runS.valOf V (i : Int) = V i := by unfold runS.valOf; rw [if_neg (by omega)]; rfl
        rw [h5] at h4
        have hmi : ∀ x : Int, x ≠ 0 → mem H x = true → -x ∈ zs := fun x hx hm => by
          rwa [HHe.out, mem_turn hx, mem_set (fun y hy => (HZ.out y hy).1), List.contains_iff_mem] at hm
        have h6 : runS.valOf M (i : Int) = M i := by unfold runS.valOf; rw [if_neg (by omega)]; rfl
        by_cases h7 : mem H (i : Int) = true
        · rw [if_pos h7] at h4
          have h8 := hmi _ (by omega) h7
          rcases tot_lit (z := -(i : Int)) hM.1 (by omega) (by omega) with e | e
          · exact absurd ⟨_, h8, e⟩ hno
          · rw [val_turn M (by omega), h6] at e
            rw [h4]; omega
        · rw [if_neg h7] at h4
          by_cases h9 : mem H (-(i : Int)) = true
          · rw [if_pos h9] at h4
            have h8 := hmi _ (by omega) h9
            rw [Int.neg_neg] at h8
            rcases tot_lit (z := (i : Int)) hM.1 (by omega) (by omega) with e | e
            · exact absurd ⟨_, h8, e⟩ hno
            · rw [h6] at e
              rw [h4]; exact e
          · rw [if_neg h9] at h4
            exact absurd h4 h3))
      clear hTk
      go_wp2_with (go_at_call 30; refine HLe.out.mono ?_; intro e w2 hl2; obtain ⟨v2, ok2, rfl, ho2⟩ := one_any hl2; have HO2 := hid ho2; clear hl2 ho2)
      go_ret
      rcases HO2.out with ⟨M, rfl, hL, hb2⟩ | ⟨rfl, hL, hb2⟩
      · exact ⟨false, rfl, ⟨fun h => (by cases h), fun h => absurd h (HY.out M hL)⟩, HBR.out.trans (hb2.mono HBR.out.size)⟩
      · exact ⟨true, rfl, ⟨fun _ => HNo.out hL, fun _ => rfl⟩, HBR.out.trans (hb2.mono HBR.out.size)⟩
set_option maxHeartbeats 3200000 in
set_option maxRecDepth 8000 in
theorem implied_spec (B nv : Nat) (a : Option Addr) (len cap : Nat) (psZ : List (Value × List Int)) (zss : List (List Int)) (hps : psZ.map (·.2) = zss) (b : Option Addr) (bl bc : Nat) (zs : List Int) (w : World) (hr : OwnRows B w (.slice a len cap) psZ) (hb : IntRow w b bl zs) (hck : cnfB (nv : Int) zss = true) (hcl : clauseB (nv : Int) zs = true) (hnv : nv ≤ 40) (hbl : bl ≤ 4096) :
    Calls Tryz.prog 10 #[.agg #[.int .i64 nv, .slice a len cap], .slice b bl bc] w fun e w' => ∃ t : Bool, e = .returned (.tuple #[.bool t, .int .i64 0]) ∧ (t = true ↔ impP (nv + 1) zss zs) ∧ Below w.heap.size w w' := by
  have HRo := hid hr
  have HBr := hid hb
  have hir : IntRows w a len zss := by rw [← hps]; exact rows_of_own hr
  have HCo := hid (fun (W : World) (hbw : Below w.heap.size w W) => cnfOK_spec (nv : Int) a len cap zss W (hir.below hbw))
  have HCl := hid (fun (W : World) (hbw : Below w.heap.size w W) => clause_spec b bl bc zs (nv : Int) W (by omega) (by omega) (HBr.out.below hbw))
  have HRu := hid (fun (W : World) (hbw : Below w.heap.size w W) => refuted_spec B (nv + 1) a len cap psZ zss hps b bl bc zs W (HRo.out.below hbw) (HBr.out.below hbw) (by omega) (cnf_in (by simpa using hck)) (clause_in (by simpa using hcl)))
  rw [hck] at HCo
  rw [hcl] at HCl
  have en : ((nv + 1 : Nat) : Int) - 1 = nv := by omega
  rw [en] at HRu
  have d1 : ¬ (4096 : Int) < (bl : Int) := by omega
  clear hr hb hir hck hcl hps
  go_enter Tryz.func10, Tryz.ntmps10
  go_wp2_with fail
  refine (HCo.out _ (by repeat (first | exact Below.refl _ _ | assumption | refine Below.drew ?_ | refine Below.alloc ?_ (by first | exact Nat.le_refl _ | omega | (simp; done) | (simp; omega)) _ | refine Below.setCell ?_ (by first | exact Nat.le_refl _ | omega | (simp; done) | (simp; omega)) _))).mono ?_
  rintro e w1 ⟨rfl, hb1⟩
  have f0 := keep hb1 (show (w.alloc (.cells #[.int .i64 nv, .slice a len cap] 25)).cell? ⟨w.heap.size, 0, none⟩ = some (.int .i64 nv) by simp [go_sem])
  have f1 := keep hb1 (show (w.alloc (.cells #[.int .i64 nv, .slice a len cap] 25)).cell? ⟨w.heap.size, 1, none⟩ = some (.slice a len cap) by simp [go_sem])
  have H1 := hid ((show Below w.heap.size w _ from (by repeat (first | exact Below.refl _ _ | assumption | refine Below.drew ?_ | refine Below.alloc ?_ (by first | exact Nat.le_refl _ | omega | (simp; done) | (simp; omega)) _ | refine Below.setCell ?_ (by first | exact Nat.le_refl _ | omega | (simp; done) | (simp; omega)) _))).trans (Below.mono hb1 (by simp)))
  clear hb1
  go_wp2_with fail
  refine (HCl.out _ H1.out).mono ?_
  rintro e w2 ⟨rfl, rfl⟩
  go_wp2_with fail
  refine (HRu.out _ H1.out).mono ?_
  rintro e w3 ⟨t, rfl, ht, hb3⟩
  have HT := hid ht
  have HB3 := hid (H1.out.trans (hb3.mono H1.out.size))
  clear ht hb3
  go_wp2
  go_ret2
  exact ⟨t, rfl, HT.out, HB3.out⟩
end Go.Proofs.YtpfecijahiikhaaGreatDoor.impSpec

/- How LeastModel ends, by one word; where a clause resolves away both formulas have models or none has; conditions: literals of the formula. -/
namespace Go.Proofs.YtpfecijahiikhaaGreatDoor.rupsMath
open Go.RowKit Go.Deep base copy cnf sets solSets solMath solHold solProp solClose chkMath ratMath leastSem leastModel satMath impSpec
open rupSpec (LitsIn)
open rupFaceS (rupCode cnf_in clause_in)
set_option linter.unusedVariables false

theorem ext_zero (M : Nat → Int) (n : Nat) : Ext V0 M n := fun i _ _ h => absurd rfl h
theorem ends_code {Z : List (List Int)} {nv : Nat} {w w' : World} {e : Ending} (h : MEnds Z nv w e w') : ∃ v c, e = .returned (.tuple #[v, .int .i64 c]) ∧ ((c = 0 ∧ ∃ M, Mod Z (nv + 1) M) ∨ (c = 6 ∧ ¬ ∃ M, Mod Z (nv + 1) M)) ∧ Below w.heap.size w w' := by
  rcases h with ⟨v, M, rfl, _, hL, hb⟩ | ⟨v, rfl, hN, hb⟩
  · exact ⟨v, 0, rfl, .inl ⟨rfl, M, hL.1⟩, hb⟩
  · exact ⟨v, 6, rfl, .inr ⟨rfl, fun ⟨M, hM⟩ => hN M hM (ext_zero M _)⟩, hb⟩
theorem code_zero {v : Nat} {Z : List (List Int)} {zs : List Int} (hz : cnfB (v : Int) Z = true) (hc : clauseB (v : Int) zs = true) : rupCode (v : Int) Z zs = 0 := by
  have hl : zs.length ≤ 12 := by
    unfold clauseB at hc
    rw [Bool.and_eq_true] at hc
    exact of_decide_eq_true hc.1
  unfold rupCode
  rw [if_neg (by omega), hz, hc]
  rfl
theorem clause_ok {v : Int} {zs : List Int} (h : zs.length ≤ 3) (hl : ∀ z ∈ zs, litB v z = true) : clauseB v zs = true := by
  unfold clauseB
  rw [Bool.and_eq_true]
  exact ⟨decide_eq_true (by omega), List.all_eq_true.2 hl⟩
theorem cnf_more {v : Int} {Z : List (List Int)} {zs : List Int} (hz : cnfB v Z = true) (hc : clauseB v zs = true) (hl : Z.length ≤ 16) : cnfB v (Z ++ [zs]) = true := by
  unfold cnfB at hz ⊢
  rw [Bool.and_eq_true] at hz ⊢
  have := (of_decide_eq_true hz.1 : 0 ≤ v ∧ v ≤ 40 ∧ Z.length ≤ 300)
  refine ⟨decide_eq_true ⟨this.1, this.2.1, by rw [List.length_append]; simp; omega⟩, ?_⟩
  rw [List.all_append, hz.2]
  simp [hc]
theorem rup_imp {v : Nat} {Z : List (List Int)} {zs : List Int} (hz : cnfB (v : Int) Z = true) (hc : clauseB (v : Int) zs = true) (hv : v ≤ 40) (h : rupP (Z.map setL) (setL zs)) : impP (v + 1) Z zs := fun M hM =>
  rup_model hv (cnf_in (by simpa using hz)) (clause_in (by simpa using hc)) h hM
theorem rat_both {v : Nat} {Z : List (List Int)} {zs : List Int} (hz : cnfB (v : Int) Z = true) (hc : clauseB (v : Int) zs = true) (hv : v ≤ 40) (h : ratP (Z.map setL) zs) : (∃ M, Mod Z (v + 1) M) ↔ ∃ M, Mod (Z ++ [zs]) (v + 1) M := by
  constructor
  · rintro ⟨M, hM⟩
    exact rat_model hv (cnf_in (by simpa using hz)) (clause_in (by simpa using hc)) h hM
  · rintro ⟨M, hT, hM⟩
    exact ⟨M, hT, fun c hc => hM c (List.mem_append_left _ hc)⟩
end Go.Proofs.YtpfecijahiikhaaGreatDoor.rupsMath

/- A drawn clause (ClauseOf), without what sorts; conditions: at most 40 variables. -/
namespace Go.Proofs.YtpfecijahiikhaaGreatDoor.clauseOfI
open Go.RowKit Go.Deep base copy cnf rowsOwn source cnfDraw
theorem clauseOf_spec (a : Option Addr) (len cap : Nat) (vars : Int) (w : World) (hb : Bytes w a len) (hl : len ≤ 1048576) (hv : 1 ≤ vars) (hv' : vars ≤ 40) :
    Calls Tryz.prog 5 #[.slice a len cap, .int .i64 vars] w fun e w' => ∃ x zs, e = .returned x ∧ OwnInts w.heap.size w' x zs ∧ zs.length ≤ 3 ∧ (∀ z ∈ zs, litB vars z = true) ∧ Below w.heap.size w w' := by
  have HB := hid hb
  clear hb
  go_enter Tryz.func5, Tryz.ntmps5
  go_wp2_with fail
  refine (source_spec a len cap _ HB.out hl).mono ?_
  rintro e w1 ⟨b, rfl, hbe, hbl, hs1, hb1⟩
  have HS1 := hid hs1
  have HB1 := hid hb1
  have HBe := hid (Nat.le_of_eq hbe.symm)
  clear hs1 hb1 hbe
  go_wp2_with fail
  refine (next_src b a len cap 0 4 _ HS1.out (by omega) (by omega) (by omega)).mono ?_
  rintro e w2 ⟨r, rfl, r0, r1, hs2, hg2⟩
  have HS2 := hid hs2
  have HB2 : Hid (Below w.heap.size w w2) := HB1.out.grown hg2 HB1.out.size (fun g e => by injection e with e; have := HBe.out; omega)
  have hbl2 : b < w2.heap.size := Nat.lt_of_lt_of_le hbl hg2.size
  clear hs2 hg2
  go_wp2_with fail
  refine (clause_src b a len cap 1 vars r _ HS2.out hbl2 (by omega) (by omega) hv' r0 (by omega)).mono ?_
  rintro e w3 ⟨x, zs, rfl, ho3, hz3, hl3, hg3, _⟩
  have HB3 : Hid (Below w.heap.size w w3) := HB2.out.grown hg3 HB2.out.size (fun g e => by injection e with e; have := HBe.out; omega)
  have HO3 := hid (ho3.mono HB2.out.size)
  have HL3 := hid hl3
  have HZ3 : Hid (zs.length ≤ 3) := by show _ ≤ _; omega
  clear ho3 hl3 hg3 hz3
  go_wp2
  go_ret
  exact ⟨x, zs, rfl, HO3.out, HZ3.out, HL3.out, HB3.out⟩
end Go.Proofs.YtpfecijahiikhaaGreatDoor.clauseOfI

/- From the form's readings of arguments to the rows that the contracts speak of; of no program; conditions: none. -/
namespace Go.Proofs.YtpfecijahiikhaaGreatDoor.args
open Go.ChangeShapes Go.WideShapes Go.ChangeAt Go.RowKit Go.Deep Go.Joins base

variable {H : Type} {enc : TypeId × Value → H} {P : Program} {w : World} {base : Nat} {held : Bool}

theorem at_none {x : Addr} {i : Nat} {v v0 : Value} (h0 : w.cell? (x.add 0) = some v0) (h : w.cell? (x.add i) = some v) : x = ⟨x.block, x.off, none⟩ ∧ w.cell? ⟨x.block, x.off + i, none⟩ = some v := by
  have hs := World.cell?_spot h0
  obtain ⟨b, o, s⟩ := x
  have hs' : s = none := by simpa [Addr.add] using hs
  subst hs'
  refine ⟨rfl, ?_⟩
  by_cases e : i = 0
  · subst e; simpa [Addr.add] using h
  · simpa [Addr.add, e] using h

end Go.Proofs.YtpfecijahiikhaaGreatDoor.args

/- From the form's reading of bytes to what the contracts speak of; of no program; conditions: none. -/
namespace Go.Proofs.YtpfecijahiikhaaGreatDoor.byteArgs
open Go.ChangeShapes Go.WideShapes Go.ChangeAt Go.RowKit Go.Deep Go.Joins base args

theorem bytes_of_trod {H : Type} {enc : TypeId × Value → H} {P : Program} {w : World} {base : Nat} {held : Bool} {t e : TypeId} {fuel : Nat} {v : Value} {x : DataW H × List MemPlace} (ht : P.underlying t = some (.slice e)) (he : P.underlying e = some (.int .u8)) (ce : P.cellsOf e = 1)
    (h : DataW.trod enc P w base (fun _ => true) held fuel t [v] = some x) : ∃ a len cap, v = .slice a len cap ∧ source.Bytes w a len ∧ len ≤ maxLen := by
  rcases open_ints ht he ce h with ⟨hcs, _⟩ | ⟨x, l, c, zs, hcs, _, hl, hm, hz, _, hcell, hwz⟩
  · exact ⟨none, 0, 0, by simpa using hcs, fun i hi => absurd hi (Nat.not_lt_zero _), Nat.zero_le _⟩
  · simp only [if_true] at hz
    refine ⟨some x, l, c, by simpa using hcs, fun i hi => ?_, Nat.le_trans hl hm⟩
    obtain ⟨e1, e2⟩ := at_none (hcell 0 (by omega)) (hcell i (by omega))
    have hi' : i < zs.length := by omega
    have hw := hwz zs[i] (List.getElem_mem hi')
    have hr : 0 ≤ zs[i] ∧ zs[i] < 256 := by
      simp [Lit.wf, IntKind.min, IntKind.max, IntKind.bits, IntKind.signed] at hw
      omega
    obtain ⟨y, hy⟩ := Int.eq_ofNat_of_zero_le hr.1
    refine ⟨x.block, x.off, by rw [← e1], y, by omega, ?_⟩
    rw [e2, List.getD_eq_getElem?_getD, List.getElem?_eq_getElem hi', Option.getD_some, hy]

end Go.Proofs.YtpfecijahiikhaaGreatDoor.byteArgs
