/- ImpImpl; LeastImpl: one text, so that the claim has fewer files. -/
import Derived.Test.YtbahjpheaaiamaaDoorPart40
import Derived.BigQuiet
import Derived.Test.YtbahjpheaaiamaaDoorLeastSem
/- Implied of the program: a clause is implied just when each model meets it; what solve says is given; conditions: lengths that fit, the table of math/bits as it is laid. -/
namespace Go.Proofs.YtbahjpheaaiamaaDoor.impImpl
open Go.RowKit Go.Deep Go base copy cnf sets setsOf solSets solOps solMath solHold solMem solNew solClose solTrail chkNew chkRup cdVal cdState impMath solStart heldStore drawn drawnLin drawnSrc drawnFree drawnOne
open rupSpec (LitsIn)
open rupFaceS (cnf_in clause_in)
set_option linter.unusedVariables false
set_option linter.unusedSimpArgs false

/-- The code of Implied. -/
def impCode (vars : Int) (Z : List (List Int)) (zs : List Int) : Int := if 4096 < zs.length then 2 else if (cnfB vars Z && clauseB vars zs) = false then 1 else 0
/-- What solve says of each solver that has just been made. -/
def Solves (n : Nat) (Z : List (List Int)) (H : LS) : Prop := ∀ (M mb : Nat) (F : Nat → Value) (V : Int → Value) (w : World), Sol 0 M mb F V (newS n H (Z.map setL)) w → V 0 = nilV →
    Calls Tryd.prog 24 #[.pointer (some ⟨M, 0, none⟩), .int .i64 0] w fun e w' => ∃ (b : Bool) (mb' : Nat) (F' : Nat → Value) (V' : Int → Value), e = .returned (.bool b) ∧ solSolve.ChgM M mb mb' (blk 0 F V) (blk 0 F' V') w w' ∧ SaysOf n Z H b
theorem implied_bad (vars : Int) (a : Option Addr) (len cap : Nat) (zss : List (List Int)) (b : Option Addr) (bl bc : Nat) (zs : List Int) (w : World) (hr : IntRows w a len zss) (hb : IntRow w b bl zs) (hc : impCode vars zss zs ≠ 0) :
    Calls Tryd.prog 16 #[.agg #[.int .i64 vars, .slice a len cap], .slice b bl bc] w fun e w' => e = .returned (.tuple #[.bool false, .int .i64 (impCode vars zss zs)]) ∧ Below w.heap.size w w' := by
  have hmost := hb.most
  unfold maxLen at hmost
  have hlb := hb.length
  have HCo := hid (fun (W : World) (hbw : Below w.heap.size w W) => cnfOK_impl vars a len cap zss W (hr.below hbw))
  have HBr := hid hb
  clear hr hb
  by_cases h1 : 4096 < bl
  · have HC : Hid (impCode vars zss zs = 2) := hid (by unfold impCode; rw [if_pos (by omega)])
    have d1 : (4096 : Int) < (bl : Int) := by omega
    clear hlb hc
    go_enter Tryd.func16, Tryd.ntmps16
    go_wp2
    go_ret2
    exact ⟨by rw [HC.out]; rfl, (by repeat (first | exact Below.refl _ _ | assumption | refine Below.drew ?_ | refine Below.alloc ?_ (by first | exact Nat.le_refl _ | omega | (simp; done) | (simp; omega)) _ | refine Below.setCell ?_ (by first | exact Nat.le_refl _ | omega | (simp; done) | (simp; omega)) _))⟩
  · have d1 : ¬ (4096 : Int) < (bl : Int) := by omega
    cases hck : cnfB vars zss with
    | false =>
      have HC : Hid (impCode vars zss zs = 1) := hid (by unfold impCode; rw [if_neg (by omega), if_pos (by rw [hck]; rfl)])
      rw [hck] at HCo
      clear hlb hck hc
      go_enter Tryd.func16, Tryd.ntmps16
      go_wp2_with fail
      refine (HCo.out _ (by repeat (first | exact Below.refl _ _ | assumption | refine Below.drew ?_ | refine Below.alloc ?_ (by first | exact Nat.le_refl _ | omega | (simp; done) | (simp; omega)) _ | refine Below.setCell ?_ (by first | exact Nat.le_refl _ | omega | (simp; done) | (simp; omega)) _))).mono ?_
      rintro e w2 ⟨rfl, hb2⟩
      have H2 := hid ((show Below w.heap.size w _ from (by repeat (first | exact Below.refl _ _ | assumption | refine Below.drew ?_ | refine Below.alloc ?_ (by first | exact Nat.le_refl _ | omega | (simp; done) | (simp; omega)) _ | refine Below.setCell ?_ (by first | exact Nat.le_refl _ | omega | (simp; done) | (simp; omega)) _))).trans (Below.mono hb2 (by simp)))
      clear hb2
      go_wp2
      go_ret2
      exact ⟨by rw [HC.out]; rfl, H2.out⟩
    | true =>
      rw [hck] at HCo
      obtain ⟨hv0, hv1, hv2⟩ := rupFaceS.cnf_vars hck
      have HCl := hid (fun (W : World) (hbw : Below w.heap.size w W) => clause_impl b bl bc zs vars W hv0 hv1 (HBr.out.below hbw))
      cases hcl : clauseB vars zs with
      | true => exact absurd (by unfold impCode; rw [if_neg (by omega), if_neg (by rw [hck, hcl]; decide)]) hc
      | false =>
        have HC : Hid (impCode vars zss zs = 1) := hid (by unfold impCode; rw [if_neg (by omega), if_pos (by rw [hck, hcl]; rfl)])
        rw [hcl] at HCl
        clear hlb hck hcl hc
        go_enter Tryd.func16, Tryd.ntmps16
        go_wp2_with fail
        refine (HCo.out _ (by repeat (first | exact Below.refl _ _ | assumption | refine Below.drew ?_ | refine Below.alloc ?_ (by first | exact Nat.le_refl _ | omega | (simp; done) | (simp; omega)) _ | refine Below.setCell ?_ (by first | exact Nat.le_refl _ | omega | (simp; done) | (simp; omega)) _))).mono ?_
        rintro e w2 ⟨rfl, hb2⟩
        have f0 := keep hb2 (show (w.alloc (.cells #[.int .i64 vars, .slice a len cap] 29)).cell? ⟨w.heap.size, 0, none⟩ = some (.int .i64 vars) by simp [go_sem])
        have H2 := hid ((show Below w.heap.size w _ from (by repeat (first | exact Below.refl _ _ | assumption | refine Below.drew ?_ | refine Below.alloc ?_ (by first | exact Nat.le_refl _ | omega | (simp; done) | (simp; omega)) _ | refine Below.setCell ?_ (by first | exact Nat.le_refl _ | omega | (simp; done) | (simp; omega)) _))).trans (Below.mono hb2 (by simp)))
        clear hb2
        go_wp2_with fail
        refine (HCl.out _ H2.out).mono ?_
        rintro e w3 ⟨rfl, rfl⟩
        go_wp2
        go_ret2
        exact ⟨by rw [HC.out]; rfl, H2.out⟩
set_option maxHeartbeats 3200000 in
set_option maxRecDepth 8000 in
theorem implied_impl (n : Nat) (a : Option Addr) (len cap : Nat) (zss : List (List Int)) (b : Option Addr) (bl bc : Nat) (zs : List Int) (w : World) (hr : IntRows w a len zss) (hb : IntRow w b bl zs) (ht : Tab w) (hc : impCode n zss zs = 0)
    (hsv : (∀ l, mem (setL zs) l = true → mem (setL zs) (-l) = false) → Solves n zss (turnL (setL zs))) :
    Calls Tryd.prog 16 #[.agg #[.int .i64 n, .slice a len cap], .slice b bl bc] w fun e w' => ∃ t : Bool, e = .returned (.tuple #[.bool t, .int .i64 0]) ∧ (t = true ↔ impM n zss zs) ∧ Below w.heap.size w w' := by
  have hmost := hb.most
  unfold maxLen at hmost
  have hcks : zs.length ≤ 4096 ∧ cnfB (n : Int) zss = true ∧ clauseB (n : Int) zs = true := by
    unfold impCode at hc
    by_cases h1 : 4096 < zs.length
    · rw [if_pos h1] at hc; cases hc
    · rw [if_neg h1] at hc
      cases h2 : cnfB (n : Int) zss <;> cases h3 : clauseB (n : Int) zs <;> simp [h2, h3] at hc <;> exact ⟨by omega, rfl, rfl⟩
  obtain ⟨hzl, hck, hcl⟩ := hcks
  obtain ⟨hv0, hv1, hv2⟩ := rupFaceS.cnf_vars hck
  have hn : n ≤ 40 := by omega
  have hll : LitsIn (n + 1) zss := cnf_in (by simpa using hck)
  have hzz : ∀ z ∈ zs, z ≠ 0 ∧ z.natAbs < n + 1 := clause_in (by simpa using hcl)
  have hz41 : ∀ c ∈ zss, ∀ z ∈ c, z ≠ 0 ∧ z.natAbs < 41 := fun c h1 z h2 => by
    have := hll c h1 z h2
    exact ⟨this.1, by omega⟩
  have HCo := hid (fun (W : World) (hbw : Below w.heap.size w W) => cnfOK_impl n a len cap zss W (hr.below hbw))
  have HCl := hid (fun (W : World) (hbw : Below w.heap.size w W) => clause_impl b bl bc zs n W hv0 hv1 (hb.below hbw))
  have HSt := hid (fun W (hW : Below w.heap.size w W) => setOf_impl b bl bc zs W (hb.below hW) (fun z hz => by have := hzz z hz; omega))
  rw [hck] at HCo
  rw [hcl] at HCl
  have d1 : ¬ (4096 : Int) < (bl : Int) := by have := hb.length; omega
  have hwz : Wf (setL zs) := wf_lits hn hzz
  have HWz := hid hwz
  have HZz := hid hzz
  have HLl := hid hll
  have HSv := hid hsv
  have HNw := hid (fun (H : LS) (W : World) (hW : Below w.heap.size w W) (h1 : Wf H) (h2 : ∀ l, mem H l = true → mem H (-l) = false) => new_impl n a len cap zss H W (hr.below hW) (by have := hr.length; omega) hz41 h1 h2 (tab_below ht hW))
  obtain ⟨P, hP⟩ : ∃ q, pSet zs = q := ⟨_, rfl⟩
  obtain ⟨O, hO⟩ : ∃ q, oSet zs = q := ⟨_, rfl⟩
  rw [hP, hO] at HSt
  have hsz : setL zs = (P, O) := by rw [← hP, ← hO]; rfl
  have HSz := hid hsz
  rw [hsz] at hwz
  have hp64 : P < 18446744073709551616 ∧ O < 18446744073709551616 := ⟨by have := hwz.p; omega, by have := hwz.o; omega⟩
  have HAl := hid (fun (W : World) => always_impl P O W hp64.1 hp64.2)
  have HTu := hid (fun (W : World) => turned_impl P O W)
  obtain ⟨m, hm⟩ : ∃ m, meetL (P, O) (turnL (P, O)) = m := ⟨_, rfl⟩
  rw [hm] at HAl
  have HM := hid hm
  clear hr hb ht hc hsv hck hcl hzl hv0 hv1 hv2 hll hzz hz41 hwz hP hO hsz hm hp64
  go_enter Tryd.func16, Tryd.ntmps16
  go_wp2_with fail
  refine (HCo.out _ (by repeat (first | exact Below.refl _ _ | assumption | refine Below.drew ?_ | refine Below.alloc ?_ (by first | exact Nat.le_refl _ | omega | (simp; done) | (simp; omega)) _ | refine Below.setCell ?_ (by first | exact Nat.le_refl _ | omega | (simp; done) | (simp; omega)) _))).mono ?_
  rintro e w2 ⟨rfl, hb2⟩
  have f0 := keep hb2 (show (w.alloc (.cells #[.int .i64 n, .slice a len cap] 29)).cell? ⟨w.heap.size, 0, none⟩ = some (.int .i64 n) by simp [go_sem])
  have f1 := keep hb2 (show (w.alloc (.cells #[.int .i64 n, .slice a len cap] 29)).cell? ⟨w.heap.size, 1, none⟩ = some (.slice a len cap) by simp [go_sem])
  have H2 := hid ((show Below w.heap.size w _ from (by repeat (first | exact Below.refl _ _ | assumption | refine Below.drew ?_ | refine Below.alloc ?_ (by first | exact Nat.le_refl _ | omega | (simp; done) | (simp; omega)) _ | refine Below.setCell ?_ (by first | exact Nat.le_refl _ | omega | (simp; done) | (simp; omega)) _))).trans (Below.mono hb2 (by simp)))
  have z2 : w.heap.size + 1 ≤ w2.heap.size := by have := hb2.size; simp at this; omega
  clear hb2
  go_wp2_with fail
  refine (HCl.out _ H2.out).mono ?_
  rintro e w3 ⟨rfl, hw3⟩
  have hw3 := hw3.symm
  subst hw3
  go_wp2_with fail
  refine (HSt.out _ H2.out).mono ?_
  rintro e w4 ⟨rfl, hb4⟩
  replace f0 := keep hb4 f0
  replace f1 := keep hb4 f1
  have H4 := hid (H2.out.trans (hb4.mono H2.out.size))
  have z4 : w.heap.size + 1 ≤ w4.heap.size := Nat.le_trans z2 hb4.size
  clear hb4 z2
  go_wp2_with fail
  refine (HAl.out _).mono ?_
  rintro e w5 ⟨rfl, hb5⟩
  have c6 := keep hb5 (show (w4.alloc (.cells #[.int .u64 P, .int .u64 O] 51)).cell? ⟨w4.heap.size, 0, none⟩ = some (.int .u64 P) by simp [go_sem])
  have c7 := keep hb5 (show (w4.alloc (.cells #[.int .u64 P, .int .u64 O] 51)).cell? ⟨w4.heap.size, 1, none⟩ = some (.int .u64 O) by simp [go_sem])
  have hb45 : Below w4.heap.size w4 w5 := (show Below w4.heap.size w4 _ from (by repeat (first | exact Below.refl _ _ | assumption | refine Below.drew ?_ | refine Below.alloc ?_ (by first | exact Nat.le_refl _ | omega | (simp; done) | (simp; omega)) _ | refine Below.setCell ?_ (by first | exact Nat.le_refl _ | omega | (simp; done) | (simp; omega)) _))).trans (hb5.mono (by simp))
  replace f0 := keep hb45 f0
  replace f1 := keep hb45 f1
  have H5 := hid (H4.out.trans (hb45.mono H4.out.size))
  clear hb5 hb45
  cases m with
  | true =>
    have HIm : Hid (impM n zss zs) := hid (by
      have hw : Wf (P, O) := by rw [← HSz.out]; exact HWz.out
      obtain ⟨l, h1, h2⟩ := (meet_iff hw).1 HM.out
      have hr := hw.range h1
      rw [mem_turn hr.1] at h2
      exact imp_all hn HZz.out (by rw [HSz.out]; exact h1) (by rw [HSz.out]; exact h2))
    go_wp2
    go_ret2
    exact ⟨true, rfl, ⟨fun _ => HIm.out, fun _ => rfl⟩, H5.out⟩
  | false =>
    have hcs : ∀ l, mem (setL zs) l = true → mem (setL zs) (-l) = false := fun l hl => by
      cases h9 : mem (setL zs) (-l) with
      | false => rfl
      | true =>
        have hr := HWz.out.range hl
        have h8 : meetL (P, O) (turnL (P, O)) = true := (meet_iff (by rw [← HSz.out]; exact HWz.out)).2 ⟨l, by rw [← HSz.out]; exact hl, by rw [← HSz.out, mem_turn hr.1]; exact h9⟩
        rw [HM.out] at h8; cases h8
    have HSl := hid (HSv.out hcs)
    have hwt : Wf (turnL (setL zs)) := wf_turn HWz.out
    have hct : ∀ l, mem (turnL (setL zs)) l = true → mem (turnL (setL zs)) (-l) = false := fun l hl => by
      have hr := hwt.range hl
      rw [mem_turn hr.1] at hl
      rw [mem_turn (by omega)]
      exact hcs _ hl
    have etu : (turnL (setL zs)).1 = O ∧ (turnL (setL zs)).2 = P := by rw [HSz.out]; exact ⟨rfl, rfl⟩
    have HN2 := hid (fun (W : World) (hW : Below w.heap.size w W) => HNw.out (turnL (setL zs)) W hW hwt hct)
    rw [etu.1, etu.2] at HN2
    have HF5 : Hid (∀ W : World, Below w5.heap.size w5 W → W.cell? ⟨w.heap.size, 0, none⟩ = some (.int .i64 n) ∧ W.cell? ⟨w.heap.size, 1, none⟩ = some (.slice a len cap) ∧ W.cell? ⟨w4.heap.size, 0, none⟩ = some (.int .u64 P) ∧ W.cell? ⟨w4.heap.size, 1, none⟩ = some (.int .u64 O)) := by
      have F0 := hid f0
      have F1 := hid f1
      have F6 := hid c6
      have F7 := hid c7
      exact hid (fun W hb => ⟨keep hb F0.out, keep hb F1.out, keep hb F6.out, keep hb F7.out⟩)
    clear f0 f1 c6 c7 hcs hwt hct etu
    go_wp2_with fail
    refine region_one (fun uu => ⟨#[.agg #[.int .i64 n, .slice a len cap], .slice b bl bc, .pointer (some ⟨w.heap.size, 0, none⟩), undef, uu 4, uu 5, .pointer (some ⟨w4.heap.size, 0, none⟩), .slice b bl bc, .int .i64 bl, .bool false, .agg #[.int .i64 n, .slice a len cap], .bool true, .bool false, .bool false, .slice b bl bc, .pointer (some ⟨w.heap.size, 0, none⟩), .int .i64 n, .bool true, .bool false, .bool false, .slice b bl bc, .agg #[.int .u64 P, .int .u64 O], .agg #[.int .u64 P, .int .u64 O], .bool false, uu 24, uu 25, uu 26, uu 27, uu 28, uu 29], []⟩) (fun i => [24, 25, 26, 27, 28, 29, 4, 5].getD i 0) (fun i x8 w8 => match i with | 0 => x8 = .agg #[.int .i64 n, .slice a len cap] | 1 => x8 = .agg #[.int .u64 P, .int .u64 O] | 2 => x8 = .agg #[.int .u64 O, .int .u64 P] | 3 => ∃ (M mb : Nat) (F : Nat → Value) (V : Int → Value), x8 = .pointer (some ⟨M, 0, none⟩) ∧ Sol 0 M mb F V (newS n (turnL (setL zs)) (zss.map setL)) w8 ∧ V 0 = nilV ∧ w5.heap.size ≤ M ∧ w5.heap.size ≤ mb ∧ ∀ a g, blk 0 F V a = some g → w5.heap.size ≤ g | 4 => ∃ b8 : Bool, x8 = .bool b8 ∧ SaysOf n zss (turnL (setL zs)) b8 | 5 => ∃ b8 : Bool, x8 = .bool (!b8) ∧ SaysOf n zss (turnL (setL zs)) b8 | 6 => ∃ b8 : Bool, x8 = .bool (!b8) ∧ SaysOf n zss (turnL (setL zs)) b8 | 7 => x8 = .int .i64 0 | _ => True) w5 8 3 4 (fun k => match k with | 24 => undef | 25 => undef | 26 => undef | 27 => undef | 28 => undef | 29 => undef | 4 => .bool false | 5 => .int .i64 0 | _ => undef) (by rfl) (by kernel_rfl) (by rfl) (by kernel_rfl) (by decide) (Below.refl _ _) ?hput ?hinj ?stable ?still ?step ?one ?fin
    case hput =>
      intro i hi uu v
      match i, hi with
      | 0, _ => rfl
      | 1, _ => rfl
      | 2, _ => rfl
      | 3, _ => rfl
      | 4, _ => rfl
      | 5, _ => rfl
      | 6, _ => rfl
      | 7, _ => rfl
      | i + 8, hi => exact absurd hi (by omega)
    case hinj =>
      intro i j hi hj h
      exact slots_inj [24, 25, 26, 27, 28, 29, 4, 5] (by decide) hi hj h
    case stable =>
      intro x8 w8 w9 hb h
      obtain ⟨M, mb, F, V, e, q1, q2⟩ := h
      exact ⟨M, mb, F, V, e, q1.below hb, q2⟩
    case still =>
      intro i x8 w8 w9 hne h
      match i, hne, h with
      | 0, hne, h => exact h
      | 1, hne, h => exact h
      | 2, hne, h => exact h
      | 3, hne, h => exact absurd rfl hne
      | 4, hne, h => exact h
      | 5, hne, h => exact h
      | 6, hne, h => exact h
      | 7, hne, h => exact h
      | _ + 8, _, _ => trivial
    case step =>
      intro i hi hne uu w8 S8 hdep
      match i, hi, hne with
      | 0, _, _ =>
        clear hdep
        refine ⟨_, rfl, fun K' hK => ?_⟩
        obtain ⟨y0, y1, y2, y3⟩ := HF5.out w8 S8
        go_simp
        exact hK.out _ _ (Below.refl _ _) rfl
      | 1, _, _ =>
        clear hdep
        refine ⟨_, rfl, fun K' hK => ?_⟩
        obtain ⟨y0, y1, y2, y3⟩ := HF5.out w8 S8
        go_simp
        exact hK.out _ _ (Below.refl _ _) rfl
      | 2, _, _ =>
        have h1 : (uu 25) = .agg #[.int .u64 P, .int .u64 O] := hdep 1 (by kernel_rfl) (by decide)
        clear hdep
        refine ⟨_, rfl, fun K' hK => ?_⟩
        simp only [h1] at hK ⊢
        go_simp
        refine (HTu.out _).mono ?_
        rintro e w9 ⟨rfl, hb9⟩
        exact hK.out _ _ hb9 rfl
      | 3, _, _ =>
        have h0 : (uu 24) = .agg #[.int .i64 n, .slice a len cap] := hdep 0 (by kernel_rfl) (by decide)
        have h2 : (uu 26) = .agg #[.int .u64 O, .int .u64 P] := hdep 2 (by kernel_rfl) (by decide)
        clear hdep
        refine ⟨_, rfl, fun K' hK => ?_⟩
        simp only [h0, h2] at hK ⊢
        go_simp
        refine (HN2.out _ (H5.out.trans (S8.mono H5.out.size))).mono ?_
        rintro e w9 ⟨M, mb, F, V, rfl, q1, qv, hb9, m1, m2, m3⟩
        exact hK.out _ _ hb9 ⟨M, mb, F, V, rfl, q1, qv, Nat.le_trans S8.size m1, Nat.le_trans S8.size m2, fun a g hg => Nat.le_trans S8.size (m3 a g hg)⟩
      | 4, _, hne => exact absurd rfl hne
      | 5, _, _ =>
        have h4 : ∃ b8 : Bool, (uu 28) = .bool b8 ∧ SaysOf n zss (turnL (setL zs)) b8 := hdep 4 (by kernel_rfl) (by decide)
        clear hdep
        refine ⟨_, rfl, fun K' hK => ?_⟩
        obtain ⟨b8, e4, hs8⟩ := h4
        simp only [e4] at hK ⊢
        go_simp
        exact hK.out _ _ (Below.refl _ _) ⟨b8, rfl, hs8⟩
      | 6, _, _ =>
        have h5 : ∃ b8 : Bool, (uu 29) = .bool (!b8) ∧ SaysOf n zss (turnL (setL zs)) b8 := hdep 5 (by kernel_rfl) (by decide)
        clear hdep
        refine ⟨_, rfl, fun K' hK => ?_⟩
        obtain ⟨b8, e5, hs8⟩ := h5
        simp only [e5] at hK ⊢
        go_simp
        exact hK.out _ _ (Below.refl _ _) ⟨b8, rfl, hs8⟩
      | 7, _, _ =>
        clear hdep
        refine ⟨_, rfl, fun K' hK => ?_⟩
        go_simp
        exact hK.out _ _ (Below.refl _ _) rfl
      | i + 8, hi, _ => exact absurd hi (by omega)
    case one =>
      intro _ uu w8 S8 hdep
      have h3 : ∃ (M mb : Nat) (F : Nat → Value) (V : Int → Value), (uu 27) = .pointer (some ⟨M, 0, none⟩) ∧ Sol 0 M mb F V (newS n (turnL (setL zs)) (zss.map setL)) w8 ∧ V 0 = nilV ∧ w5.heap.size ≤ M ∧ w5.heap.size ≤ mb ∧ ∀ a g, blk 0 F V a = some g → w5.heap.size ≤ g := hdep 3 (by kernel_rfl)
      clear hdep
      refine ⟨_, rfl, fun K' hK => ?_⟩
      obtain ⟨M, mb, F, V, e3, q1, qv, m1, m2, m3⟩ := h3
      simp only [e3] at hK ⊢
      go_simp
      refine (HSl.out M mb F V _ q1 qv).mono ?_
      rintro e w9 ⟨b8, mb', F', V', rfl, hch, hs8⟩
      exact hK.out _ _ (S8.trans (hch.toBelow S8.size m1 m2 m3)) ⟨b8, rfl, hs8⟩
    case fin =>
      intro uu w8 S8 hall
      have h6 : ∃ b8 : Bool, (uu 4) = .bool (!b8) ∧ SaysOf n zss (turnL (setL zs)) b8 := hall 6 (by decide) (by decide)
      have h7 : (uu 5) = .int .i64 0 := hall 7 (by decide) (by decide)
      clear hall
      obtain ⟨b8, e6, hs8⟩ := h6
      have HS8 := hid hs8
      have HB8 := hid (H5.out.trans (S8.mono H5.out.size))
      have HE6 := hid e6
      have HE7 := hid h7
      clear e6 h7 hs8 S8
      go_wp2
      go_ret2
      refine ⟨!b8, by show Ending.returned (.tuple #[uu 4, uu 5]) = _; rw [HE6.out, HE7.out], ?_, HB8.out⟩
      cases b8 with
      | true =>
        obtain ⟨H', h1, h2⟩ := HS8.out.1 rfl
        exact ⟨fun h => (by cases h), fun h => absurd h (imp_yes hn HZz.out h1 h2)⟩
      | false => exact ⟨fun _ => imp_no hn HZz.out (HS8.out.2 rfl), fun _ => rfl⟩
end Go.Proofs.YtbahjpheaaiamaaDoor.impImpl

/- The least model that goes with chosen values, of the specification (l02Least); conditions: literals of the variables, lengths that fit. -/
namespace Go.Proofs.YtbahjpheaaiamaaDoor.leastImpl
open Go.RowKit Go.Deep base copy rowsOwn runL leastSem
open runS (ValRow setV openN open_set open_le)
set_option linter.unusedVariables false

def valsL (V : Nat → Int) (n : Nat) : List Int := (List.range n).map V
theorem vals_len (V : Nat → Int) (n : Nat) : (valsL V n).length = n := by simp [valsL]
theorem vals_at (V : Nat → Int) {n i : Nat} (h : i < n) : (valsL V n)[i]?.getD 0 = V i := by simp [valsL, h]
theorem vals_news {w : World} {b n : Nat} {V : Nat → Int} (h : ValRow w b n V) : ∀ i u, ((valsL V n).map (Value.int .i64))[i]? = some u → w.cell? ((⟨b, 0, none⟩ : Addr).add i) = some u := fun i u hu => by
  have hi : i < n := by
    have := (List.getElem?_eq_some_iff.1 hu).1
    simpa [valsL] using this
  have e : (⟨b, 0, none⟩ : Addr).add i = ⟨b, 0 + i, none⟩ := by unfold Addr.add; split <;> simp_all
  rw [e, Nat.zero_add, (h.cell i hi).1]
  rw [← hu]
  simp [valsL, hi]
theorem vals_own {B g n c : Nat} {w : World} {V : Nat → Int} (h : OwnInts B w (.slice (some ⟨g, 0, none⟩) n c) (valsL V n)) (hr : Rng V n) : ValRow w g n V :=
  ⟨fun i hi => by
    obtain ⟨h1, h2⟩ := (own_holds h).2 i hi
    rw [Nat.zero_add, vals_at V hi] at h1
    rw [Nat.zero_add] at h2
    exact ⟨h1, h2⟩, hr⟩
theorem one_ints (zs : List Int) : ∀ u ∈ zs.map (Value.int .i64), u.oneCell' = true := fun u hu => by
  obtain ⟨z, _, rfl⟩ := List.mem_map.1 hu
  rfl
/-- How it ends: with the least model in a row of its own, or none is. -/
def LEnds (Z : List (List Int)) (n : Nat) (V : Nat → Int) (w : World) (e : Ending) (w' : World) : Prop :=
  (∃ g c M, e = .returned (.tuple #[.slice (some ⟨g, 0, none⟩) n c, .bool true]) ∧ ValRow w' g n M ∧ Least Z n V M ∧ Below w.heap.size w w') ∨ (e = .returned (.tuple #[.slice none 0 0, .bool false]) ∧ None_ Z n V ∧ Below w.heap.size w w')
set_option maxRecDepth 100000 in
set_option maxHeartbeats 6400000 in
theorem least_spec (B n : Nat) (a : Option Addr) (len cap : Nat) (psZ : List (Value × List Int)) (hn1 : 1 ≤ n) (hn : n ≤ 41) (hl : Lits (psZ.map (·.2)) n) :
    ∀ (m b c : Nat) (V : Nat → Int) (w : World), openN V n < m → OwnRows B w (.slice a len cap) psZ → ValRow w b n V →
      Calls Tryd.prog 20 #[.slice a len cap, .slice (some ⟨b, 0, none⟩) n c] w fun e w' => LEnds (psZ.map (·.2)) n V w e w' := by
  obtain ⟨i0, hi, hzz⟩ := Option.map_eq_some_iff.1 Tryd.info_int
  simp only [Prod.mk.injEq] at hzz
  obtain ⟨hz0, hz1, hz2⟩ := hzz
  have HI := hid hi
  have HZ0 := hid hz0
  have HZ1 := hid hz1
  have HZ2 := hid hz2
  clear hi hz0 hz1 hz2
  have HLi := hid hl
  obtain ⟨Z, hZ⟩ : ∃ Z, psZ.map (·.2) = Z := ⟨_, rfl⟩
  rw [hZ] at HLi ⊢
  have HZe := hid hZ
  clear hl hZ
  intro m
  induction m with
  | zero => intro b c V w h; exact absurd h (Nat.not_lt_zero _)
  | succ m ih =>
    intro b c V w hop hrows hv
    have HIh := hid ih
    have HOp := hid hop
    have HRows := hid hrows
    have HNews := hid (fun o => vals_news (vals_keep hv ((show Below w.heap.size w (w.alloc o) from (by repeat (first | exact Below.refl _ _ | assumption | refine Below.drew ?_ | refine Below.alloc ?_ (by first | exact Nat.le_refl _ | omega | (simp; done) | (simp; omega)) _ | refine Below.setCell ?_ (by first | exact Nat.le_refl _ | omega | (simp; done) | (simp; omega)) _))).block b (World.block_lt_of_cell? _ _ (hv.cell 0 (by omega)).1))))
    have HRng := hid hv.range
    clear ih hop hrows hv
    go_enter Tryd.func20, Tryd.ntmps20
    go_wp2_with (at_builtin; (refine wpList_append_own _ rfl _ _ 36 rfl w.heap.size 3 i0 (.int .i64 0) 1 8 Tryd.underlying36 HI.out HZ0.out HZ1.out HZ2.out rfl (by decide) _ _ _ rfl (cnfDraw.own_new w rfl (Nat.le_refl _)) ⟨b, 0, none⟩ n c ((valsL V n).map (.int .i64)) rfl (by rw [List.length_map, vals_len, Nat.mul_one]) (HNews.out _) (one_ints _) (by unfold maxLen; omega) (by omega) (by simp) ?_); intro v1 w1 hown1 hg1 hnil1)
    have hba : Below w.heap.size w (w.alloc (.cells #[] 3)) := (by repeat (first | exact Below.refl _ _ | assumption | refine Below.drew ?_ | refine Below.alloc ?_ (by first | exact Nat.le_refl _ | omega | (simp; done) | (simp; omega)) _ | refine Below.setCell ?_ (by first | exact Nat.le_refl _ | omega | (simp; done) | (simp; omega)) _))
    have HB1 : Hid (Below w.heap.size w w1) := hid (hba.grown hg1 hba.size (fun j e => by have e' : some w.heap.size = some j := e; injection e' with e'; omega))
    have HO1 : Hid (OwnInts w.heap.size w1 v1 (valsL V n)) := hid (by
      unfold OwnInts
      rw [vals_len]
      simpa using hown1)
    obtain ⟨vb, vc, hv1, hvb, hvl⟩ : ∃ g c, v1 = .slice (some ⟨g, 0, none⟩) n c ∧ w.heap.size ≤ g ∧ g < w1.heap.size := by
      rcases HO1.out.2 with ⟨e, h0⟩ | ⟨g, cp, cur, e, h1, h2, _⟩
      · rw [vals_len] at h0; omega
      · rw [vals_len] at e
        exact ⟨g, cp, e, h1, (Array.getElem?_eq_some_iff.1 h2).1⟩
    subst hv1
    have hvr1 := vals_own HO1.out HRng.out
    have HRun := hid (run_spec a len cap vb n vc Z V w1 (fun w' hg => by
      rw [← HZe.out]
      exact rows_of_own (HRows.out.below (HB1.out.grown hg HB1.out.size (fun j e => by injection e with e; omega)))) hvr1 hvl (fun zs' hz' z hz => (HLi.out zs' hz' z hz).2) hn)
    have HSn : Hid (∀ M', Mod Z n M' → Ext V M' n → (runF (n + 1) Z V []).2.1 = -1 ∧ Ext (runF (n + 1) Z V []).2.2 M' n) := hid (fun M' h1 h2 => run_sound HLi.out _ _ _ M' h1 h2)
    have HSa : Hid (∀ i, V i ≠ 0 → (runF (n + 1) Z V []).2.2 i = V i) := hid (fun i h => run_same _ _ _ i h)
    have HRg : Hid (Rng (runF (n + 1) Z V []).2.2 n) := hid (run_rng _ _ _ HRng.out)
    have HOn : Hid ((runF (n + 1) Z V []).2.1 < 0 → ∀ c ∈ Z, (runS.clS (runF (n + 1) Z V []).2.2 c 0 0).1 = true ∨ (runS.clS (runF (n + 1) Z V []).2.2 c 0 0).2.1 ≠ 0) := hid (run_open HLi.out _ _ _ (by have := open_most V n; omega))
    have HOl : Hid (openN (runF (n + 1) Z V []).2.2 n ≤ openN V n) := hid (open_le n (fun i _ h => by rw [run_same _ _ _ i h]; exact h))
    generalize runF (n + 1) Z V [] = R at *
    obtain ⟨Ro, Ra, V'⟩ := R
    simp only at HRun HSn HSa HRg HOn HOl
    clear hown1 hg1 hnil1 hba hvr1 HNews HO1
    go_wp2_with fail
    refine HRun.out.mono ?_
    rintro e w2 ⟨ov, rfl, -, hv2, hg2⟩
    have HB2 : Hid (Below w.heap.size w w2) := hid (HB1.out.grown hg2 HB1.out.size (fun j e => by injection e with e; omega))
    have HV2 := hid hv2
    have hvl2 : vb < w2.heap.size := Nat.lt_of_lt_of_le hvl hg2.size
    clear hv2 hg2 HRun
    by_cases hat : 0 ≤ Ra
    · go_wp2
      go_ret2
      exact .inr ⟨rfl, (fun M' h1 h2 => by have := (HSn.out M' h1 h2).1; omega), HB2.out⟩
    · have hat' : ¬ (0 : Int) ≤ Ra := hat
      have HOn2 := hid (HOn.out (by omega))
      go_wp2
      go_loop [9] (fun i => ∃ q : Nat, 1 ≤ q ∧ q ≤ n ∧ i = .int .i64 q ∧ ∀ j, 1 ≤ j → j < q → V' j ≠ 0) (fun i => n - (intOf i).toNat)
      case atStart => exact ⟨1, Nat.le_refl _, hn1, rfl, (fun j h1 h2 => by omega)⟩
      case round =>
        obtain ⟨q, hq1, hq2, rfl, hbf⟩ := hrel
        have HBf := hid hbf
        clear hbf
        by_cases hlt : q < n
        · obtain ⟨hc, hf⟩ := HV2.out.cell q hlt
          have hqi : (q : Int) < (n : Int) := by omega
          by_cases hv0 : V' q = 0
          · rw [hv0] at hc
            have HV0 := hid hv0
            have HLow : Hid (ValRow (w2.setCell ⟨vb, q, none⟩ (.int .i64 (-1))) vb n (setV V' (-(q : Int)))) := hid (by
              have h9 := HV2.out.set (z := -(q : Int))
              rw [if_neg (by omega)] at h9
              have e9 : (-(q : Int)).natAbs = q := by omega
              rw [e9] at h9
              exact h9)
            have HB3 : Hid (Below w.heap.size w (w2.setCell ⟨vb, q, none⟩ (.int .i64 (-1)))) := hid (HB2.out.setCell (by show w.heap.size ≤ vb; exact hvb) _)
            have hvl3 : vb < (w2.setCell ⟨vb, q, none⟩ (.int .i64 (-1))).heap.size := by simpa [World.setCell] using hvl2
            have HI1 := hid (HIh.out vb vc (setV V' (-(q : Int))) _ (by
              have h8 := open_set (V := V') (z := -(q : Int)) n (by omega) (by rw [show (-(q : Int)).natAbs = q by omega]; exact HV0.out)
              have := HOp.out
              have := HOl.out
              omega) (HRows.out.below HB3.out) HLow.out)
            clear hv0
            go_wp2_with fail
            obtain ⟨w3, hw3⟩ : ∃ w3, w2.setCell ⟨vb, q, none⟩ (.int .i64 (-1)) = w3 := ⟨_, rfl⟩
            rw [hw3] at HLow HB3 hvl3 HI1 ⊢
            clear hw3
            refine HI1.out.mono ?_
            rintro e w4 (⟨g4, c4, M4, rfl, hv4, hl4, hb4⟩ | ⟨rfl, hno, hb4⟩)
            · have HV4 := hid hv4
              have HL4 := hid (least_low (fun M' h1 h2 => (HSn.out M' h1 h2).2) HSa.out hq1 hlt HBf.out HV0.out hl4)
              have HB4 := hid (HB3.out.trans (hb4.mono HB3.out.size))
              clear hv4 hl4 hb4
              go_wp2
              go_ret2
              exact .inl ⟨g4, c4, M4, rfl, HV4.out, HL4.out, HB4.out⟩
            · have HNo := hid hno
              have HB4 := hid (HB3.out.trans (hb4.mono HB3.out.size))
              have HV4 := hid (vals_keep HLow.out (hb4.block vb hvl3))
              have hvl4 : vb < w4.heap.size := Nat.lt_of_lt_of_le hvl3 hb4.size
              obtain ⟨hc4, hf4⟩ := HV4.out.cell q hlt
              have HHi : Hid (ValRow (w4.setCell ⟨vb, q, none⟩ (.int .i64 1)) vb n (setV V' (q : Int))) := hid (by
                have h9 := HV4.out.set (z := (q : Int))
                rw [if_pos (by omega), Int.natAbs_natCast, set_two] at h9
                exact h9)
              have HB5 : Hid (Below w.heap.size w (w4.setCell ⟨vb, q, none⟩ (.int .i64 1))) := hid (HB4.out.setCell (by show w.heap.size ≤ vb; exact hvb) _)
              have HI2 := hid (HIh.out vb vc (setV V' (q : Int)) _ (by
                have h8 := open_set (V := V') (z := (q : Int)) n (by omega) (by rw [Int.natAbs_natCast]; exact HV0.out)
                have := HOp.out
                have := HOl.out
                omega) (HRows.out.below HB5.out) HHi.out)
              clear hno hb4 HI1
              go_wp2_with fail
              refine HI2.out.mono ?_
              rintro e w6 (⟨g6, c6, M6, rfl, hv6, hl6, hb6⟩ | ⟨rfl, hno6, hb6⟩)
              · have HV6 := hid hv6
                have HL6 := hid (least_high (fun M' h1 h2 => (HSn.out M' h1 h2).2) HSa.out hq1 hlt HV0.out HNo.out hl6)
                have HB6 := hid (HB5.out.trans (hb6.mono HB5.out.size))
                clear hv6 hl6 hb6
                go_wp2
                go_ret2
                exact .inl ⟨g6, c6, M6, rfl, HV6.out, HL6.out, HB6.out⟩
              · have HN6 := hid (none_both (fun M' h1 h2 => (HSn.out M' h1 h2).2) hq1 hlt HNo.out hno6)
                have HB6 := hid (HB5.out.trans (hb6.mono HB5.out.size))
                clear hno6 hb6
                go_wp2
                go_ret2
                exact .inr ⟨rfl, HN6.out, HB6.out⟩
          · have hvq : (V' q == 0) = false := beq_eq_false_iff_ne.2 hv0
            have hvq' : (V' q != 0) = true := by simp [hv0]
            go_wp2
            go_round
            case rel => exact ⟨q + 1, by omega, by omega, by go_num, fun j h1 h2 => by
              rcases Nat.lt_or_ge j q with h3 | h3
              · exact HBf.out j h1 h3
              · have : j = q := by omega
                subst this
                exact hv0⟩
            case measure => simp [intOf]; omega
        · have e : q = n := by omega
          have HW := hid (least_whole (fun M' h1 h2 => (HSn.out M' h1 h2).2) HSa.out (fun i a b => HBf.out i a (by omega)) (whole_model HLi.out HRg.out (fun i a b => HBf.out i a (by omega)) HOn2.out))
          have hqi : ¬ (q : Int) < (n : Int) := by omega
          clear e
          go_wp2
          go_ret2
          exact .inl ⟨vb, vc, V', rfl, HV2.out, HW.out, HB2.out⟩
end Go.Proofs.YtbahjpheaaiamaaDoor.leastImpl
