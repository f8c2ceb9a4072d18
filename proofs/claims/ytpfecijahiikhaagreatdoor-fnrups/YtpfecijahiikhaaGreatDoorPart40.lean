/- RupFaceI; RatMath: one text, so that the claim has fewer files. -/
import Derived.Test.YtpfecijahiikhaaGreatDoorPart35
import Derived.Test.YtpfecijahiikhaaGreatDoorPart37
import Derived.Test.YtpfecijahiikhaaGreatDoorFaultB
import Derived.Test.YtpfecijahiikhaaGreatDoorDrawnSeq
import Derived.BigQuiet
import Derived.Test.YtpfecijahiikhaaGreatDoorPart34
/- Rup of the program; conditions: lengths that fit, the table of math/bits and errors.errorType as they are laid. -/
namespace Go.Proofs.YtpfecijahiikhaaGreatDoor.rupFaceI
open Go.RowKit Go.Deep Go base copy cnf sets setsOf solSets solOps solMath solMem solClose solTrail chkNew chkMath chkRup rupSpec rupFaceS faultB heldStore drawn drawnLin drawnSeq
set_option linter.unusedVariables false
set_option linter.unusedSimpArgs false

def faultV (c : Int) : Value := .iface 41 (.agg #[.int .i64 c, .int .i64 0])
theorem ls_of_sets {w : World} {a : Option Addr} {len : Nat} {zss : List (List Int)} (h : SetRow w a len zss) : LsRow w a len (zss.map setL) := ⟨by rw [List.length_map]; exact h.length, fun i hi => by
  obtain ⟨b, e, h1, h2⟩ := h.cell i hi
  have hil : i < zss.length := by rw [h.length]; exact hi
  have e2 : (zss.map setL)[i]?.getD (0, 0) = setL (zss[i]?.getD []) := by rw [List.getElem?_map, List.getElem?_eq_getElem hil]; rfl
  rw [e2]
  exact ⟨b, e, h1, h2⟩⟩
def MustEnd (c : Int) (e : Ending) : Prop := if c = 0 then e = .returned (.tuple #[]) else e = .panicked [{ v := faultV c, recovered := false }]
theorem must_bad {c : Int} (h : c ≠ 0) : MustEnd c (.panicked [{ v := faultV c, recovered := false }]) := by unfold MustEnd; rw [if_neg h]
theorem must_zero {c : Int} (h : c = 0) : MustEnd c (.returned (.tuple #[])) := by unfold MustEnd; rw [if_pos h]
/-- The clause of a formula: the code that is thrown, 0 where none is. -/
theorem must_clause (vars : Int) (a : Option Addr) (len cap : Nat) (zss : List (List Int)) (b : Option Addr) (bl bc : Nat) (zs : List Int) (w : World) (hr : IntRows w a len zss) (hb : IntRow w b bl zs) :
    Calls Tryz.prog 18 #[.agg #[.int .i64 vars, .slice a len cap], .slice b bl bc] w fun e w' => MustEnd (rupCode vars zss zs) e ∧ Below w.heap.size w w' := by
  have hmost := hb.most
  unfold maxLen at hmost
  have hlb := hb.length
  have HCo := hid (fun (W : World) (hbw : Below w.heap.size w W) => cnfOK_impl vars a len cap zss W (hr.below hbw))
  have HBr := hid hb
  clear hr hb
  by_cases h1 : 4096 < bl
  · have HC : Hid (rupCode vars zss zs = 2) := hid (by unfold rupCode; rw [if_pos (by omega)])
    have d1 : decide ((bl : Int) ≤ 4096) = false := decide_eq_false (by omega)
    clear hlb
    go_enter Tryz.func18, Tryz.ntmps18
    go_wp2_with fail
    refine (must_not 2 _).mono ?_
    rintro e w1 ⟨rfl, hw1⟩
    have hw1 := hw1.symm
    subst hw1
    go_wp2
    exact ⟨rfl, by rw [HC.out]; exact must_bad (by decide), (by repeat (first | exact Below.refl _ _ | assumption | refine Below.drew ?_ | refine Below.alloc ?_ (by first | exact Nat.le_refl _ | omega | (simp; done) | (simp; omega)) _ | refine Below.setCell ?_ (by first | exact Nat.le_refl _ | omega | (simp; done) | (simp; omega)) _))⟩
  · have d1 : decide ((bl : Int) ≤ 4096) = true := decide_eq_true (by omega)
    cases hck : cnfB vars zss with
    | false =>
      have HC : Hid (rupCode vars zss zs = 1) := hid (by unfold rupCode; rw [if_neg (by omega), if_pos (by rw [hck]; rfl)])
      rw [hck] at HCo
      clear hlb hck
      go_enter Tryz.func18, Tryz.ntmps18
      go_wp2_with fail
      refine (must_so 2 _).mono ?_
      rintro e w1 ⟨rfl, hw1⟩
      have hw1 := hw1.symm
      subst hw1
      go_wp2_with fail
      refine (HCo.out _ (by repeat (first | exact Below.refl _ _ | assumption | refine Below.drew ?_ | refine Below.alloc ?_ (by first | exact Nat.le_refl _ | omega | (simp; done) | (simp; omega)) _ | refine Below.setCell ?_ (by first | exact Nat.le_refl _ | omega | (simp; done) | (simp; omega)) _))).mono ?_
      rintro e w2 ⟨rfl, hb2⟩
      have H2 := hid ((show Below w.heap.size w _ from (by repeat (first | exact Below.refl _ _ | assumption | refine Below.drew ?_ | refine Below.alloc ?_ (by first | exact Nat.le_refl _ | omega | (simp; done) | (simp; omega)) _ | refine Below.setCell ?_ (by first | exact Nat.le_refl _ | omega | (simp; done) | (simp; omega)) _))).trans (Below.mono hb2 (by simp)))
      clear hb2
      go_wp2_with fail
      refine (must_not 1 _).mono ?_
      rintro e w1 ⟨rfl, hw1⟩
      have hw1 := hw1.symm
      subst hw1
      go_wp2
      exact ⟨rfl, by rw [HC.out]; exact must_bad (by decide), H2.out⟩
    | true =>
      rw [hck] at HCo
      obtain ⟨hv0, hv1, hv2⟩ := rupFaceS.cnf_vars hck
      have HCl := hid (fun (W : World) (hbw : Below w.heap.size w W) => clause_impl b bl bc zs vars W hv0 hv1 (HBr.out.below hbw))
      cases hcl : clauseB vars zs with
      | false =>
        have HC : Hid (rupCode vars zss zs = 1) := hid (by unfold rupCode; rw [if_neg (by omega), if_pos (by rw [hck, hcl]; rfl)])
        rw [hcl] at HCl
        clear hlb hck hcl
        go_enter Tryz.func18, Tryz.ntmps18
        go_wp2_with fail
        refine (must_so 2 _).mono ?_
        rintro e w1 ⟨rfl, hw1⟩
        have hw1 := hw1.symm
        subst hw1
        go_wp2_with fail
        refine (HCo.out _ (by repeat (first | exact Below.refl _ _ | assumption | refine Below.drew ?_ | refine Below.alloc ?_ (by first | exact Nat.le_refl _ | omega | (simp; done) | (simp; omega)) _ | refine Below.setCell ?_ (by first | exact Nat.le_refl _ | omega | (simp; done) | (simp; omega)) _))).mono ?_
        rintro e w2 ⟨rfl, hb2⟩
        have f0 := keep hb2 (show (w.alloc (.cells #[.int .i64 vars, .slice a len cap] 25)).cell? ⟨w.heap.size, 0, none⟩ = some (.int .i64 vars) by simp [go_sem])
        have H2 := hid ((show Below w.heap.size w _ from (by repeat (first | exact Below.refl _ _ | assumption | refine Below.drew ?_ | refine Below.alloc ?_ (by first | exact Nat.le_refl _ | omega | (simp; done) | (simp; omega)) _ | refine Below.setCell ?_ (by first | exact Nat.le_refl _ | omega | (simp; done) | (simp; omega)) _))).trans (Below.mono hb2 (by simp)))
        clear hb2
        go_wp2_with fail
        refine (HCl.out _ H2.out).mono ?_
        rintro e w3 ⟨rfl, rfl⟩
        go_wp2_with fail
        refine (must_not 1 _).mono ?_
        rintro e w1 ⟨rfl, hw1⟩
        have hw1 := hw1.symm
        subst hw1
        go_wp2
        exact ⟨rfl, by rw [HC.out]; exact must_bad (by decide), H2.out⟩
      | true =>
        have HC : Hid (rupCode vars zss zs = 0) := hid (by unfold rupCode; rw [if_neg (by omega), if_neg (by rw [hck, hcl]; decide)])
        rw [hcl] at HCl
        clear hlb hck hcl
        go_enter Tryz.func18, Tryz.ntmps18
        go_wp2_with fail
        refine (must_so 2 _).mono ?_
        rintro e w1 ⟨rfl, hw1⟩
        have hw1 := hw1.symm
        subst hw1
        go_wp2_with fail
        refine (HCo.out _ (by repeat (first | exact Below.refl _ _ | assumption | refine Below.drew ?_ | refine Below.alloc ?_ (by first | exact Nat.le_refl _ | omega | (simp; done) | (simp; omega)) _ | refine Below.setCell ?_ (by first | exact Nat.le_refl _ | omega | (simp; done) | (simp; omega)) _))).mono ?_
        rintro e w2 ⟨rfl, hb2⟩
        have f0 := keep hb2 (show (w.alloc (.cells #[.int .i64 vars, .slice a len cap] 25)).cell? ⟨w.heap.size, 0, none⟩ = some (.int .i64 vars) by simp [go_sem])
        have H2 := hid ((show Below w.heap.size w _ from (by repeat (first | exact Below.refl _ _ | assumption | refine Below.drew ?_ | refine Below.alloc ?_ (by first | exact Nat.le_refl _ | omega | (simp; done) | (simp; omega)) _ | refine Below.setCell ?_ (by first | exact Nat.le_refl _ | omega | (simp; done) | (simp; omega)) _))).trans (Below.mono hb2 (by simp)))
        clear hb2
        go_wp2_with fail
        refine (HCl.out _ H2.out).mono ?_
        rintro e w3 ⟨rfl, rfl⟩
        go_wp2_with fail
        refine (must_so 1 _).mono ?_
        rintro e w1 ⟨rfl, hw1⟩
        have hw1 := hw1.symm
        subst hw1
        go_wp2
        go_end0
        exact ⟨by rw [HC.out]; exact must_zero rfl, H2.out⟩
theorem do_bad (N1 N2 : Nat) (vars : Int) (a : Option Addr) (len cap : Nat) (zss : List (List Int)) (b : Option Addr) (bl bc : Nat) (zs : List Int) (w : World) (hr : IntRows w a len zss) (hb : IntRow w b bl zs) (c0 : w.cell? ⟨N1, 0, none⟩ = some (.int .i64 vars)) (c1 : w.cell? ⟨N1, 1, none⟩ = some (.slice a len cap)) (c2 : w.cell? ⟨N2, 0, none⟩ = some (.slice b bl bc)) (hc : rupCode vars zss zs ≠ 0) :
    Calls Tryz.prog 17 #[.pointer (some ⟨N1, 0, none⟩), .pointer (some ⟨N2, 0, none⟩)] w fun e w' => e = .panicked [{ v := faultV (rupCode vars zss zs), recovered := false }] ∧ Below w.heap.size w w' := by
  have HM := hid (fun W (hW : Below w.heap.size w W) => (must_clause vars a len cap zss b bl bc zs W (hr.below hW) (hb.below hW)).mono (fun e w' h => (⟨by have h1 := h.1; unfold MustEnd at h1; rw [if_neg hc] at h1; exact h1, h.2⟩ : e = .panicked [{ v := faultV (rupCode vars zss zs), recovered := false }] ∧ Below W.heap.size W w')))
  clear hr hb hc
  generalize rupCode vars zss zs = c at *
  go_enter Tryz.func17, Tryz.ntmps17
  go_wp2_with fail
  refine (HM.out _ (by repeat (first | exact Below.refl _ _ | assumption | refine Below.drew ?_ | refine Below.alloc ?_ (by first | exact Nat.le_refl _ | omega | (simp; done) | (simp; omega)) _ | refine Below.setCell ?_ (by first | exact Nat.le_refl _ | omega | (simp; done) | (simp; omega)) _))).mono ?_
  rintro e w1 ⟨rfl, hb1⟩
  have HB1 := hid ((show Below w.heap.size w _ from (by repeat (first | exact Below.refl _ _ | assumption | refine Below.drew ?_ | refine Below.alloc ?_ (by first | exact Nat.le_refl _ | omega | (simp; done) | (simp; omega)) _ | refine Below.setCell ?_ (by first | exact Nat.le_refl _ | omega | (simp; done) | (simp; omega)) _))).trans (hb1.mono (by first | exact Nat.le_refl _ | simp)))
  clear hb1
  go_wp2
  exact ⟨rfl, rfl, HB1.out⟩
set_option maxHeartbeats 3200000 in
set_option maxRecDepth 8000 in
theorem do_ok (N1 N2 : Nat) (vars : Int) (a : Option Addr) (len cap : Nat) (zss : List (List Int)) (b : Option Addr) (bl bc : Nat) (zs : List Int) (w : World) (hr : IntRows w a len zss) (hb : IntRow w b bl zs) (c0 : w.cell? ⟨N1, 0, none⟩ = some (.int .i64 vars)) (c1 : w.cell? ⟨N1, 1, none⟩ = some (.slice a len cap)) (c2 : w.cell? ⟨N2, 0, none⟩ = some (.slice b bl bc)) (hc : rupCode vars zss zs = 0) (ht : Tab w) :
    Calls Tryz.prog 17 #[.pointer (some ⟨N1, 0, none⟩), .pointer (some ⟨N2, 0, none⟩)] w fun e w' => ∃ t : Bool, e = .returned (.bool t) ∧ (t = true ↔ rupP (zss.map setL) (setL zs)) ∧ Below w.heap.size w w' := by
  have HM := hid (fun W (hW : Below w.heap.size w W) => (must_clause vars a len cap zss b bl bc zs W (hr.below hW) (hb.below hW)).mono (fun e w' h => (⟨by have h1 := h.1; unfold MustEnd at h1; rw [if_pos hc] at h1; exact h1, h.2⟩ : e = .returned (.tuple #[]) ∧ Below W.heap.size W w')))
  have hck : cnfB vars zss = true ∧ clauseB vars zs = true := by
    unfold rupCode at hc
    by_cases h1 : 4096 < zs.length
    · rw [if_pos h1] at hc; cases hc
    · rw [if_neg h1] at hc
      cases h2 : cnfB vars zss <;> cases h3 : clauseB vars zs <;> simp [h2, h3] at hc <;> exact ⟨rfl, rfl⟩
  obtain ⟨hv0, hv1, hv2⟩ := rupFaceS.cnf_vars hck.1
  obtain ⟨n, hn⟩ : ∃ n : Nat, vars = (n : Int) - 1 := ⟨(vars + 1).toNat, by omega⟩
  have hzs := clause_in (n := n) (by rw [← hn]; exact hck.2)
  have hzz := cnf_in (n := n) (by rw [← hn]; exact hck.1)
  have HSs := hid (fun W (hW : Below w.heap.size w W) => setsOf_impl a len cap zss W (hr.below hW) (by have := hr.length; omega) (fun i hi z hz => by
    have hi' : i < zss.length := by rw [hr.length]; exact hi
    rw [List.getElem?_eq_getElem hi'] at hz
    have := hzz _ (List.getElem_mem hi') z hz
    omega))
  have HSt := hid (fun W (hW : Below w.heap.size w W) => setOf_impl b bl bc zs W (hb.below hW) (fun z hz => by have := hzs z hz; omega))
  have HLz := hid hr.length
  have HWf : Hid (∀ c ∈ zss.map setL, Wf c) := hid (fun c hc => by
    obtain ⟨ys, h1, rfl⟩ := List.mem_map.1 hc
    exact wf_set (fun z hz => by have := hzz ys h1 z hz; omega))
  have HWz : Hid (Wf (setL zs)) := hid (wf_set (fun z hz => by have := hzs z hz; omega))
  have HTb := hid ht
  have HL3 : Hid (zss.length ≤ 300) := hid hv2
  obtain ⟨P, hP⟩ : ∃ q, pSet zs = q := ⟨_, rfl⟩
  obtain ⟨O, hO⟩ : ∃ q, oSet zs = q := ⟨_, rfl⟩
  rw [hP, hO] at HSt
  have HSz : Hid (setL zs = (P, O)) := hid (by rw [← hP, ← hO]; rfl)
  clear hr hb hc ht hck hv0 hv1 hv2 hn hzs hzz hP hO
  go_enter Tryz.func17, Tryz.ntmps17
  go_wp2_with fail
  refine (HM.out _ (by repeat (first | exact Below.refl _ _ | assumption | refine Below.drew ?_ | refine Below.alloc ?_ (by first | exact Nat.le_refl _ | omega | (simp; done) | (simp; omega)) _ | refine Below.setCell ?_ (by first | exact Nat.le_refl _ | omega | (simp; done) | (simp; omega)) _))).mono ?_
  rintro e w1 ⟨rfl, hb1⟩
  have HB1 := hid ((show Below w.heap.size w _ from (by repeat (first | exact Below.refl _ _ | assumption | refine Below.drew ?_ | refine Below.alloc ?_ (by first | exact Nat.le_refl _ | omega | (simp; done) | (simp; omega)) _ | refine Below.setCell ?_ (by first | exact Nat.le_refl _ | omega | (simp; done) | (simp; omega)) _))).trans (hb1.mono (by first | exact Nat.le_refl _ | simp)))
  have d0 := keep HB1.out c0
  have d1 := keep HB1.out c1
  have d2 := keep HB1.out c2
  clear hb1 c0 c1 c2
  have HK1 : Hid (∀ w8 : World, Below w1.heap.size w1 w8 → w8.cell? ⟨N1, 0, none⟩ = some (.int .i64 vars) ∧ w8.cell? ⟨N1, 1, none⟩ = some (.slice a len cap) ∧ w8.cell? ⟨N2, 0, none⟩ = some (.slice b bl bc)) := hid (fun w8 hb => ⟨keep hb d0, keep hb d1, keep hb d2⟩)
  have HCk := hid (chk_start (n := vars) HWf.out)
  clear d0 d1 d2
  go_wp2_with fail
  refine region_seq (fun us => ⟨#[.pointer (some ⟨N1, 0, none⟩), .pointer (some ⟨N2, 0, none⟩), .bool false, .agg #[.int .i64 vars, .slice a len cap], .slice b bl bc, .tuple #[], us 6, us 7, us 8, us 9, us 10, us 11, us 12, us 13, us 14], []⟩) (fun i => [6, 7, 8, 9, 10, 11, 12, 13, 14].getD i 0) (fun i v w8 => match i with | 0 => v = .pointer (some ⟨N1, 0, none⟩) | 1 => v = .int .i64 vars | 2 => v = .pointer (some ⟨N1, 1, none⟩) | 3 => v = .slice a len cap | 4 => ∃ sa sc, v = .slice sa zss.length sc ∧ LsRow w8 sa zss.length (zss.map setL) | 5 => ∃ (M mb : Nat) (F : Nat → Value) (V : Int → Value), v = .pointer (some ⟨M, 0, none⟩) ∧ Sol 0 M mb F V (chkS vars (zss.map setL)) w8 ∧ V 0 = nilV ∧ w1.heap.size ≤ M ∧ w1.heap.size ≤ mb ∧ ∀ a g, blk 0 F V a = some g → w1.heap.size ≤ g | 6 => v = .slice b bl bc | 7 => v = .agg #[.int .u64 P, .int .u64 O] | _ => True) (fun v w9 => ∃ t : Bool, v = .bool t ∧ (t = true ↔ rupP (zss.map setL) (setL zs)) ∧ Below w1.heap.size w1 w9) w1 8 [1, 5, 3, 4, 5, 8, 7, 8] (fun k => match k with | 6 => undef | 7 => undef | 8 => undef | 9 => undef | 10 => undef | 11 => undef | 12 => undef | 13 => undef | 14 => undef | _ => undef) (by rfl) (by kernel_rfl) (by rfl) ⟨by kernel_rfl, by kernel_rfl, by kernel_rfl, by decide⟩ (by kernel_rfl) (by kernel_rfl) (Below.refl _ _) ?hput ?hinj ?stable ?step ?pre ?last
  case hput =>
    intro i hi us v
    match i, hi with
    | 0, _ => rfl
    | 1, _ => rfl
    | 2, _ => rfl
    | 3, _ => rfl
    | 4, _ => rfl
    | 5, _ => rfl
    | 6, _ => rfl
    | 7, _ => rfl
    | 8, _ => rfl
    | i + 9, hi => exact absurd hi (by omega)
  case hinj =>
    intro i j hi hj h
    exact slots_inj [6, 7, 8, 9, 10, 11, 12, 13, 14] (by decide) hi hj h
  case stable =>
    intro i v w8 w9 hb h
    match i, h with
    | 0, h => exact h
    | 1, h => exact h
    | 2, h => exact h
    | 3, h => exact h
    | 4, h => obtain ⟨sa, sc, e, hr⟩ := h; exact ⟨sa, sc, e, hr.below hb⟩
    | 5, h => obtain ⟨M, mb, F, V, e, q1, q2⟩ := h; exact ⟨M, mb, F, V, e, q1.below hb, q2⟩
    | 6, h => exact h
    | 7, h => exact h
    | _ + 8, h => trivial
  case step =>
    intro i hi us w8 S8 hdep
    match i, hi with
    | 0, _ =>
      clear hdep
      refine ⟨_, rfl, fun K' hK => ?_⟩
      go_simp
      exact hK.out _ _ (Below.refl _ _) rfl
    | 1, _ =>
      have h0 : (us 6) = .pointer (some ⟨N1, 0, none⟩) := hdep 0 (by kernel_rfl)
      clear hdep
      refine ⟨_, rfl, fun K' hK => ?_⟩
      obtain ⟨y0, y1, y2⟩ := HK1.out w8 S8
      simp only [h0] at hK ⊢
      go_simp
      exact hK.out _ _ (Below.refl _ _) rfl
    | 2, _ =>
      clear hdep
      refine ⟨_, rfl, fun K' hK => ?_⟩
      go_simp
      exact hK.out _ _ (Below.refl _ _) rfl
    | 3, _ =>
      have h2 : (us 8) = .pointer (some ⟨N1, 1, none⟩) := hdep 2 (by kernel_rfl)
      clear hdep
      refine ⟨_, rfl, fun K' hK => ?_⟩
      obtain ⟨y0, y1, y2⟩ := HK1.out w8 S8
      simp only [h2] at hK ⊢
      go_simp
      exact hK.out _ _ (Below.refl _ _) rfl
    | 4, _ =>
      have h3 : (us 9) = .slice a len cap := hdep 3 (by kernel_rfl)
      clear hdep
      refine ⟨_, rfl, fun K' hK => ?_⟩
      simp only [h3] at hK ⊢
      go_simp
      refine (HSs.out _ (HB1.out.trans (S8.mono HB1.out.size))).mono ?_
      rintro e w9 ⟨v9, rfl, ho9, hb9⟩
      obtain ⟨sa, sc, rfl, hrow⟩ := ho9.form
      exact hK.out _ _ hb9 ⟨sa, sc, rfl, ls_of_sets hrow⟩
    | 5, _ =>
      have h1 : (us 7) = .int .i64 vars := hdep 1 (by kernel_rfl)
      have h4 : ∃ sa sc, (us 10) = .slice sa zss.length sc ∧ LsRow w8 sa zss.length (zss.map setL) := hdep 4 (by kernel_rfl)
      clear hdep
      refine ⟨_, rfl, fun K' hK => ?_⟩
      obtain ⟨sa, sc, e4, hrow⟩ := h4
      simp only [h1, e4] at hK ⊢
      go_simp
      refine (chk_impl vars sa zss.length sc (zss.map setL) _ hrow (by have := HL3.out; omega) HWf.out (tab_below HTb.out (HB1.out.trans (S8.mono HB1.out.size)))).mono ?_
      rintro e w9 ⟨M, mb, F, V, rfl, q1, qv, hb9, m1, m2, m3⟩
      exact hK.out _ _ hb9 ⟨M, mb, F, V, rfl, q1, qv, Nat.le_trans S8.size m1, Nat.le_trans S8.size m2, fun a g hg => Nat.le_trans S8.size (m3 a g hg)⟩
    | 6, _ =>
      clear hdep
      refine ⟨_, rfl, fun K' hK => ?_⟩
      obtain ⟨y0, y1, y2⟩ := HK1.out w8 S8
      go_simp
      exact hK.out _ _ (Below.refl _ _) rfl
    | 7, _ =>
      have h6 : (us 12) = .slice b bl bc := hdep 6 (by kernel_rfl)
      clear hdep
      refine ⟨_, rfl, fun K' hK => ?_⟩
      simp only [h6] at hK ⊢
      go_simp
      refine (HSt.out _ (HB1.out.trans (S8.mono HB1.out.size))).mono ?_
      rintro e w9 ⟨rfl, hb9⟩
      exact hK.out _ _ hb9 rfl
    | i + 8, hi => exact absurd hi (by omega)
  case pre =>
    intro us w8 S8 hall
    have h5 : ∃ (M mb : Nat) (F : Nat → Value) (V : Int → Value), (us 11) = .pointer (some ⟨M, 0, none⟩) ∧ Sol 0 M mb F V (chkS vars (zss.map setL)) w8 ∧ V 0 = nilV ∧ w1.heap.size ≤ M ∧ w1.heap.size ≤ mb ∧ ∀ a g, blk 0 F V a = some g → w1.heap.size ≤ g := hall 5 (by decide)
    have h7 : (us 13) = .agg #[.int .u64 P, .int .u64 O] := hall 7 (by decide)
    clear hall
    refine ⟨_, rfl, fun K' hK => ?_⟩
    obtain ⟨M, mb, F, V, e5, q1, qv, m1, m2, m3⟩ := h5
    simp only [e5, h7] at hK ⊢
    go_simp
    obtain ⟨r1, r2, r3⟩ := rup_spec (HCk.out).1 HWz.out
    refine (isRup_impl M mb F V (zss.map setL) _ _ q1 qv (HCk.out).1 (by rw [List.length_map]; have := HL3.out; omega) P O (by rw [← HSz.out]; exact HWz.out)).mono ?_
    rintro e w9 ⟨rfl, F', V', p1, pv, p2, -⟩
    refine hK.out _ _ ⟨_, rfl, ?_, S8.trans (p2.toBelow S8.size m1 m2 m3)⟩
    rw [← HSz.out]
    exact r2
  case last =>
    intro us w8 hp
    refine ⟨_, rfl, fun K' hK => ?_⟩
    obtain ⟨t, e, ht, hb⟩ := hp
    have HTt := hid ht
    have HBt := hid (HB1.out.trans (hb.mono HB1.out.size))
    clear ht hb
    simp only [e] at hK ⊢
    go_simp
    refine hK.out _ _ ?_
    go_wp2
    go_ret
    exact ⟨t, by show Ending.returned (us 14) = _; rw [show us 14 = .bool t from e], HTt.out, HBt.out⟩
theorem answer (N1 N2 : Nat) (vars : Int) (a : Option Addr) (len cap : Nat) (zss : List (List Int)) (b : Option Addr) (bl bc : Nat) (zs : List Int) (w : World) (hr : IntRows w a len zss) (hb : IntRow w b bl zs) (c0 : w.cell? ⟨N1, 0, none⟩ = some (.int .i64 vars)) (c1 : w.cell? ⟨N1, 1, none⟩ = some (.slice a len cap)) (c2 : w.cell? ⟨N2, 0, none⟩ = some (.slice b bl bc)) (ht : Tab w) (he : ErrW w) :
    Calls Tryz.prog 16 #[.func (.func 17) #[] #[.pointer (some ⟨N1, 0, none⟩), .pointer (some ⟨N2, 0, none⟩)]] w fun e w' => ∃ (t : Bool) (c : Int), e = .returned (.tuple #[.bool t, .agg #[.int .i64 c, .int .i64 0]]) ∧ RupAns vars zss zs t c ∧ Below w.heap.size w w' := by
  have hcf : ∀ w, (callFunc 17 #[.pointer (some ⟨N1, 0, none⟩), .pointer (some ⟨N2, 0, none⟩)]).run Tryz.prog w = .ok (.enter 17 #[.pointer (some ⟨N1, 0, none⟩), .pointer (some ⟨N2, 0, none⟩)]) w := fun w => enters_of Tryz.func17 (by kernel_rfl) rfl _ w
  have hb0 : Below w.heap.size w (w.alloc (.cells #[.int .i64 0, .int .i64 0] 41)) := (Below.refl _ _).alloc (Nat.le_refl _) _
  have hz : (w.alloc (.cells #[.int .i64 0, .int .i64 0] 41)).heap.size = w.heap.size + 1 := by simp
  by_cases hc : rupCode vars zss zs = 0
  · have hd := do_ok N1 N2 vars a len cap zss b bl bc zs _ (hr.below hb0) (hb.below hb0) (keep hb0 c0) (keep hb0 c1) (keep hb0 c2) hc (tab_below ht hb0)
    rw [hz] at hd
    obtain ⟨t, ht⟩ : ∃ t : Bool, (t = true ↔ rupP (zss.map setL) (setL zs)) := by
      rcases Classical.em (rupP (zss.map setL) (setL zs)) with h | h
      · exact ⟨true, ⟨fun _ => h, fun _ => rfl⟩⟩
      · exact ⟨false, ⟨fun e => (by cases e), fun e => absurd e h⟩⟩
    refine (answerOf_ret 17 _ t w hcf ?_).mono ?_
    · rintro w0 rfl
      refine hd.mono ?_
      rintro e w' ⟨t', rfl, h1, h2⟩
      have : t' = t := by rw [Bool.eq_iff_iff, h1, ht]
      rw [this]
      exact ⟨rfl, h2⟩
    · rintro e w' ⟨rfl, hb9⟩
      exact ⟨t, 0, rfl, ⟨hc.symm, fun h => absurd rfl h, fun _ => ht⟩, hb9⟩
  · have hd := do_bad N1 N2 vars a len cap zss b bl bc zs _ (hr.below hb0) (hb.below hb0) (keep hb0 c0) (keep hb0 c1) (keep hb0 c2) hc
    rw [hz] at hd
    refine (answerOf_fault 17 _ (rupCode vars zss zs) 0 w he hcf ?_).mono ?_
    · rintro w0 rfl
      exact hd
    · rintro e w' ⟨rfl, hb9⟩
      exact ⟨false, _, rfl, ⟨rfl, fun _ => rfl, fun h => absurd h hc⟩, hb9⟩
set_option maxHeartbeats 1600000 in
set_option maxRecDepth 8000 in
theorem rup_impl (vars : Int) (a : Option Addr) (len cap : Nat) (zss : List (List Int)) (b : Option Addr) (bl bc : Nat) (zs : List Int) (w : World) (hr : IntRows w a len zss) (hb : IntRow w b bl zs) (ht : Tab w) (he : ErrW w) :
    Calls Tryz.prog 6 #[.agg #[.int .i64 vars, .slice a len cap], .slice b bl bc] w fun e w' => ∃ (t : Bool) (c : Int), e = .returned (.tuple #[.bool t, .int .i64 c]) ∧ RupAns vars zss zs t c ∧ Below w.heap.size w w' := by
  have hmf : ∀ (fn : Fn) (first cap : Array Value) (w : World), (Instr.makeFunc fn first cap).run Tryz.prog w = .ok (.func fn first cap) w := fun _ _ _ _ => rfl
  have HA := hid (fun N1 N2 W (hW : Below w.heap.size w W) c0 c1 c2 => answer N1 N2 vars a len cap zss b bl bc zs W (hr.below hW) (hb.below hW) c0 c1 c2 (tab_below ht hW) (he.below hW))
  clear hr hb ht he
  go_enter Tryz.func6, Tryz.ntmps6
  go_wp2_with fail
  refine (HA.out _ _ _ (by repeat (first | exact Below.refl _ _ | assumption | refine Below.drew ?_ | refine Below.alloc ?_ (by first | exact Nat.le_refl _ | omega | (simp; done) | (simp; omega)) _ | refine Below.setCell ?_ (by first | exact Nat.le_refl _ | omega | (simp; done) | (simp; omega)) _)) ?_ ?_ ?_).mono ?_
  · simp [go_sem]
  · simp [go_sem]
  · simp [go_sem]
  rintro e w1 ⟨t, c, rfl, hra, hb1⟩
  have HRa := hid hra
  have HB := hid ((show Below w.heap.size w _ from (by repeat (first | exact Below.refl _ _ | assumption | refine Below.drew ?_ | refine Below.alloc ?_ (by first | exact Nat.le_refl _ | omega | (simp; done) | (simp; omega)) _ | refine Below.setCell ?_ (by first | exact Nat.le_refl _ | omega | (simp; done) | (simp; omega)) _))).trans (hb1.mono (by first | (simp; done) | (simp; omega))))
  clear hra hb1
  go_wp2
  go_region
  all_goals
    go_wp2
    go_ret2
    exact ⟨t, c, rfl, HRa.out, Below.drew (Below.alloc HB.out HB.out.size _)⟩
end Go.Proofs.YtpfecijahiikhaaGreatDoor.rupFaceI

/- What a clause that resolves away is (RAT), by sets of literals; conditions: none. -/
namespace Go.Proofs.YtpfecijahiikhaaGreatDoor.ratMath
open sets solSets solMath solHold solProp solNew solClose solTrail chkNew chkMath
set_option linter.unusedVariables false
set_option linter.unusedSimpArgs false

/-- What a clause resolves to with another one, on a literal. -/
def resL (c d : LS) (l : Int) : LS := withL c (woL d (onlyL (-l)))
def ratAt (cs : List LS) (c : LS) (l : Int) (d : LS) : Prop := mem d (-l) = true → rupP cs (resL c d l)
def ratP (cs : List LS) (zs : List Int) : Prop := ∃ l r, zs = l :: r ∧ ∀ d ∈ cs, ratAt cs (setL zs) l d
theorem wf_res {c d : LS} (hc : Wf c) (hd : Wf d) (l : Int) : Wf (resL c d l) := wf_with hc (wf_wo hd _)
theorem both_set {zs ys : List Int} {l : Int} (h1 : ∀ z ∈ zs, z ≠ 0 ∧ z.natAbs < 41) (h2 : ∀ z ∈ ys, z ≠ 0 ∧ z.natAbs < 41) (hl : l ≠ 0) (hl2 : -40 ≤ l ∧ l ≤ 40) : setL (zs ++ ys.filter (fun y => y != -l)) = resL (setL zs) (setL ys) l := by
  have h3 : ∀ z ∈ zs ++ ys.filter (fun y => y != -l), z ≠ 0 ∧ z.natAbs < 41 := fun z hz => by
    rcases List.mem_append.1 hz with hz | hz
    · exact h1 z hz
    · exact h2 z (List.mem_filter.1 hz).1
  refine ls_ext (wf_set h3) (wf_res (wf_set h1) (wf_set h2) l) fun m => ?_
  unfold resL
  rw [mem_set (fun z hz => (h3 z hz).1), mem_with, mem_wo (wf_set h2) (wf_only (by omega) (by omega) (by omega)), mem_only (by omega), mem_set (fun z hz => (h1 z hz).1), mem_set (fun z hz => (h2 z hz).1), Bool.eq_iff_iff]
  simp only [List.contains_iff_mem, List.mem_append, List.mem_filter, Bool.or_eq_true, Bool.and_eq_true, bne_iff_ne, ne_eq, Bool.not_eq_true', decide_eq_false_iff_not]
  constructor
  · rintro (h | ⟨h, h'⟩)
    · exact .inl h
    · exact .inr ⟨h, fun e => h' e.symm⟩
  · rintro (h | ⟨h, h'⟩)
    · exact .inl h
    · exact .inr ⟨h, fun e => h' e.symm⟩
end Go.Proofs.YtpfecijahiikhaaGreatDoor.ratMath
