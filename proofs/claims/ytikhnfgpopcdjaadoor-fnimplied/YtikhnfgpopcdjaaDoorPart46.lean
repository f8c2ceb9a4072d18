/- ChkRup; DrawnOne; ImpImpl: one text, so that the claim has fewer files. -/
import Derived.Test.YtikhnfgpopcdjaaDoorPart43
import Derived.Test.YtikhnfgpopcdjaaDoorPart37
import Derived.Test.YtikhnfgpopcdjaaDoorPart28
import Derived.Test.YtikhnfgpopcdjaaDoorPart30
import Derived.Test.YtikhnfgpopcdjaaDoorPart45
import Derived.BigQuiet
/- A checker of the program tells whether a clause is RUP (isRup); conditions: clauses of at most 40 variables, lengths that fit. -/
namespace Go.Proofs.YtikhnfgpopcdjaaDoor.chkRup
open Go.RowKit Go.Deep Go.Maps Go base sets setsOf solSets solOps solMath solHold solMem solAddI solClose solTrail solBackI solSupI chkNew chkMath
set_option linter.unusedVariables false
set_option linter.unusedSimpArgs false

theorem always_impl (a b : Nat) (w : World) (ha : a < 18446744073709551616) (hb : b < 18446744073709551616) :
    Calls Tryd.prog 16 #[.agg #[.int .u64 a, .int .u64 b]] w fun e w' => e = .returned (.bool (meetL (a, b) (turnL (a, b)))) ∧ Below w.heap.size w w' := by
  have HT := hid (fun w : World => turned_impl a b w)
  have HM : Hid (∀ w : World, Calls Tryd.prog 28 #[.agg #[.int .u64 a, .int .u64 b], .agg #[.int .u64 b, .int .u64 a]] w fun e w' => e = .returned (.bool (meetL (a, b) (turnL (a, b)))) ∧ Below w.heap.size w w') := hid (fun w => meets_impl a b b a w ha hb hb ha)
  generalize meetL (a, b) (turnL (a, b)) = m at *
  go_enter Tryd.func16, Tryd.ntmps16
  go_wp2_with fail
  go_region_with (first
    | (go_at_call 18; refine (HT.out _).mono ?_; rintro e1 w1 ⟨rfl, hb1⟩; have HB1 := hid ((show Below w.heap.size w _ from (by repeat (first | exact Below.refl _ _ | assumption | refine netSem.bdn ?_ _ | refine Below.drew ?_ | refine Below.alloc ?_ (by first | exact Nat.le_refl _ | omega | (simp; done) | (simp; omega)) _))).trans (hb1.mono (by simp))); have c0 : w1.cell? ⟨w.heap.size, 0, none⟩ = some (.int .u64 a) := keep hb1 (by simp [go_sem]); have c1 : w1.cell? ⟨w.heap.size, 1, none⟩ = some (.int .u64 b) := keep hb1 (by simp [go_sem]); clear hb1)
    | (go_at_call 28; refine (HM.out _).mono ?_; rintro e2 w2 ⟨rfl, hb2⟩; have HB2 := hid (HB1.out.trans (hb2.mono HB1.out.size)); clear hb2))
  all_goals
    go_wp2
    go_ret
    exact ⟨rfl, HB2.out⟩
end Go.Proofs.YtikhnfgpopcdjaaDoor.chkRup

/- A drawn region with one operation that may write what another one of the region made: what the rest tells speaks of no memory; conditions: none. -/
namespace Go.Proofs.YtikhnfgpopcdjaaDoor.drawnOne
open Go Go.RowKit heldStore drawn drawnLin drawnSrc drawnFree
set_option linter.unusedVariables false
variable {P : Program} {ops : Array Oper} {Q : Exit → Act → World → Prop}

theorem region_one {id : Nat} {a : Act} {w : World} (A : (Nat → Value) → Act) (s : Nat → Nat) (φ : Nat → Value → World → Prop) (W : World) (n p q : Nat) (u0 : Nat → Value) (ha : a = A u0)
    (hm : P.follows .mixedOrders = true) (hz : ops.size = n) (hup : upC ops = true) (hpq : p ≠ q) (hW : Below W.heap.size W w)
    (hput : ∀ i, i < n → ∀ u v, (A u).put (some (s i)) v = A (upd u (s i) v)) (hinj : ∀ i j, i < n → j < n → s i = s j → i = j)
    (stable : ∀ v w w', Below w.heap.size w w' → φ p v w → φ p v w') (still : ∀ i v w w', i ≠ p → φ i v w → φ i v w')
    (step : ∀ i, i < n → i ≠ q → ∀ u w, Below W.heap.size W w → (∀ j, Region.waitsFor .any ops i j = true → j ≠ p → φ j (u (s j)) w) → ∃ o, ops[i]? = some o ∧ ∀ K' : Act → World → Prop, Shut (∀ v w', Below w.heap.size w w' → φ i v w' → K' ((A u).put (some (s i)) v) w') → if Region.wanted o (yielded ops (A u).tmps) = true then Oper.wp P o (A u) w K' Q else K' ((A u).put o.dst undef) w)
    (one : q < n → ∀ u w, Below W.heap.size W w → (∀ j, Region.waitsFor .any ops q j = true → φ j (u (s j)) w) → ∃ o, ops[q]? = some o ∧ ∀ K' : Act → World → Prop, Shut (∀ v w', Below W.heap.size W w' → φ q v w' → K' ((A u).put (some (s q)) v) w') → if Region.wanted o (yielded ops (A u).tmps) = true then Oper.wp P o (A u) w K' Q else K' ((A u).put o.dst undef) w)
    (fin : ∀ u w, Below W.heap.size W w → (∀ j, j < n → j ≠ p → φ j (u (s j)) w) → Q .normal (A u) w) :
    (Code.region id ops true).wp P Q a w := by
  have lt : ∀ i j, i < n → Region.waitsFor .any ops i j = true → j < n := fun i j hi hj => by
    obtain ⟨oj, hoj, e, he, hb, hon⟩ := Region.waitsFor_spec hj
    have h9 := upC_spec hup hoj e he hb
    rw [hon] at h9
    omega
  refine region_free A (fun i => some (s i)) (fun L u w8 => Below W.heap.size W w8 ∧ ∀ j, j < n → L j = true → (j = p → L q = false) → φ j (u (s j)) w8) n u0 ha hm hz hup ⟨hW.trans ((Below.refl _ _).drew.mono hW.size), fun j _ h => (by cases h)⟩ (fun i hi u v => hput i hi u v) ?_ ?_
  · intro i hi L u w8 hLi hwait ⟨hb, hI⟩
    by_cases e : i = q
    · subst e
      obtain ⟨o, ho, h⟩ := one hi u w8 hb (fun j hj => hI j (lt i j hi hj) (hwait j hj) (fun _ => hLi))
      refine ⟨o, ho, fun K' hK => h K' fun v w' hb' hv => hK.out v w' ⟨hb', fun j hj h1 h2 => ?_⟩⟩
      show φ j (upd u (s i) v (s j)) w'
      by_cases e2 : j = i
      · subst e2
        rw [upd_same]; exact hv
      · rw [come_ne e2] at h1
        have e3 : j ≠ p := fun e3 => by have := h2 e3; rw [come_same] at this; cases this
        rw [upd_ne _ _ (fun e4 => e2 (hinj j i hj hi e4))]
        exact still j _ _ _ e3 (hI j hj h1 (fun e4 => absurd e4 e3))
    · obtain ⟨o, ho, h⟩ := step i hi e u w8 hb (fun j hj hjp => hI j (lt i j hi hj) (hwait j hj) (fun e4 => absurd e4 hjp))
      refine ⟨o, ho, fun K' hK => h K' fun v w' hb' hv => hK.out v w' ⟨hb.trans (hb'.mono hb.size), fun j hj h1 h2 => ?_⟩⟩
      show φ j (upd u (s i) v (s j)) w'
      by_cases e2 : j = i
      · subst e2
        rw [upd_same]; exact hv
      · rw [come_ne e2] at h1
        rw [upd_ne _ _ (fun e4 => e2 (hinj j i hj hi e4))]
        have h3 := hI j hj h1 (fun e4 => by have := h2 e4; rw [come_ne (Ne.symm e)] at this; exact this)
        by_cases e3 : j = p
        · rw [e3] at h3 ⊢; exact stable _ _ _ hb' h3
        · exact still j _ _ _ e3 h3
  · intro L u w8 hL ⟨hb, hI⟩
    exact fin u w8 hb (fun j hj hjp => hI j hj (hL j hj) (fun e => absurd e hjp))
end Go.Proofs.YtikhnfgpopcdjaaDoor.drawnOne

/- Implied of the program: a clause is implied just when each model meets it; what solve says is given; conditions: lengths that fit, the table of math/bits as it is laid. -/
namespace Go.Proofs.YtikhnfgpopcdjaaDoor.impImpl
open Go.RowKit Go.Deep Go base copy cnf sets setsOf solSets solOps solMath solHold solMem solNew solClose solTrail chkNew chkRup cdVal cdState impMath solStart heldStore drawn drawnLin drawnSrc drawnFree drawnOne
open rupSpec (LitsIn)
open rupFaceS (cnf_in clause_in)
set_option linter.unusedVariables false
set_option linter.unusedSimpArgs false

/-- The code of Implied. -/
def impCode (vars : Int) (Z : List (List Int)) (zs : List Int) : Int := if 4096 < zs.length then 2 else if (cnfB vars Z && clauseB vars zs) = false then 1 else 0
/-- What solve says of each solver that has just been made. -/
def Solves (n : Nat) (Z : List (List Int)) (H : LS) : Prop := ∀ (M mb : Nat) (F : Nat → Value) (V : Int → Value) (w : World), Sol 0 M mb F V (newS n H (Z.map setL)) w → V 0 = nilV →
    Calls Tryd.prog 19 #[.pointer (some ⟨M, 0, none⟩), .int .i64 0] w fun e w' => ∃ (b : Bool) (F' : Nat → Value) (V' : Int → Value), e = .returned (.bool b) ∧ Chg M mb (blk 0 F V) (blk 0 F' V') w w' ∧ SaysOf n Z H b
set_option maxHeartbeats 3200000 in
set_option maxRecDepth 8000 in
theorem implied_impl (n : Nat) (a : Option Addr) (len cap : Nat) (zss : List (List Int)) (b : Option Addr) (bl bc : Nat) (zs : List Int) (w : World) (hr : IntRows w a len zss) (hb : IntRow w b bl zs) (ht : Tab w) (hc : impCode n zss zs = 0)
    (hsv : (∀ l, mem (setL zs) l = true → mem (setL zs) (-l) = false) → Solves n zss (turnL (setL zs))) :
    Calls Tryd.prog 6 #[.agg #[.int .i64 n, .slice a len cap], .slice b bl bc] w fun e w' => ∃ t : Bool, e = .returned (.tuple #[.bool t, .int .i64 0]) ∧ (t = true ↔ impM n zss zs) ∧ Below w.heap.size w w' := by
  have hmost := hb.most
  unfold maxLen at hmost
  have hcks : zs.length ≤ 4096 ∧ cnfB (n : Int) zss = true ∧ clauseB (n : Int) zs = true := by
    unfold impCode at hc
    by_cases h1 : 4096 < zs.length
    · rw [if_pos h1] at hc; cases hc
    · rw [if_neg h1] at hc
      cases h2 : cnfB (n : Int) zss <;> cases h3 : clauseB (n : Int) zs <;> simp [h2, h3] at hc <;> exact ⟨by omega, rfl, rfl⟩
  obtain ⟨hzl, hck, hcl⟩ := hcks
  obtain ⟨hv0, hv1, hv2⟩ := rupFaceS.cnf_vars hck
  have hn : n ≤ 40 := by omega
  have hll : LitsIn (n + 1) zss := cnf_in (by simpa using hck)
  have hzz : ∀ z ∈ zs, z ≠ 0 ∧ z.natAbs < n + 1 := clause_in (by simpa using hcl)
  have hz41 : ∀ c ∈ zss, ∀ z ∈ c, z ≠ 0 ∧ z.natAbs < 41 := fun c h1 z h2 => by
    have := hll c h1 z h2
    exact ⟨this.1, by omega⟩
  have HCo := hid (fun (W : World) (hbw : Below w.heap.size w W) => cnfOK_impl n a len cap zss W (hr.below hbw))
  have HCl := hid (fun (W : World) (hbw : Below w.heap.size w W) => clause_impl b bl bc zs n W hv0 hv1 (hb.below hbw))
  have HSt := hid (fun W (hW : Below w.heap.size w W) => setOf_impl b bl bc zs W (hb.below hW) (fun z hz => by have := hzz z hz; omega))
  rw [hck] at HCo
  rw [hcl] at HCl
  have d1 : ¬ (4096 : Int) < (bl : Int) := by have := hb.length; omega
  have hwz : Wf (setL zs) := wf_lits hn hzz
  have HWz := hid hwz
  have HZz := hid hzz
  have HLl := hid hll
  have HSv := hid hsv
  have HNw := hid (fun (H : LS) (W : World) (hW : Below w.heap.size w W) (h1 : Wf H) (h2 : ∀ l, mem H l = true → mem H (-l) = false) => new_impl n a len cap zss H W (hr.below hW) (by have := hr.length; omega) hz41 h1 h2 (tab_below ht hW))
  obtain ⟨P, hP⟩ : ∃ q, pSet zs = q := ⟨_, rfl⟩
  obtain ⟨O, hO⟩ : ∃ q, oSet zs = q := ⟨_, rfl⟩
  rw [hP, hO] at HSt
  have hsz : setL zs = (P, O) := by rw [← hP, ← hO]; rfl
  have HSz := hid hsz
  rw [hsz] at hwz
  have hp64 : P < 18446744073709551616 ∧ O < 18446744073709551616 := ⟨by have := hwz.p; omega, by have := hwz.o; omega⟩
  have HAl := hid (fun (W : World) => always_impl P O W hp64.1 hp64.2)
  have HTu := hid (fun (W : World) => turned_impl P O W)
  obtain ⟨m, hm⟩ : ∃ m, meetL (P, O) (turnL (P, O)) = m := ⟨_, rfl⟩
  rw [hm] at HAl
  have HM := hid hm
  clear hr hb ht hc hsv hck hcl hzl hv0 hv1 hv2 hll hzz hz41 hwz hP hO hsz hm hp64
  go_enter Tryd.func6, Tryd.ntmps6
  go_wp2_with fail
  refine (HCo.out _ (by repeat (first | exact Below.refl _ _ | assumption | refine Below.drew ?_ | refine Below.alloc ?_ (by first | exact Nat.le_refl _ | omega | (simp; done) | (simp; omega)) _ | refine Below.setCell ?_ (by first | exact Nat.le_refl _ | omega | (simp; done) | (simp; omega)) _))).mono ?_
  rintro e w2 ⟨rfl, hb2⟩
  have f0 := keep hb2 (show (w.alloc (.cells #[.int .i64 n, .slice a len cap] 25)).cell? ⟨w.heap.size, 0, none⟩ = some (.int .i64 n) by simp [go_sem])
  have f1 := keep hb2 (show (w.alloc (.cells #[.int .i64 n, .slice a len cap] 25)).cell? ⟨w.heap.size, 1, none⟩ = some (.slice a len cap) by simp [go_sem])
  have H2 := hid ((show Below w.heap.size w _ from (by repeat (first | exact Below.refl _ _ | assumption | refine Below.drew ?_ | refine Below.alloc ?_ (by first | exact Nat.le_refl _ | omega | (simp; done) | (simp; omega)) _ | refine Below.setCell ?_ (by first | exact Nat.le_refl _ | omega | (simp; done) | (simp; omega)) _))).trans (Below.mono hb2 (by simp)))
  have z2 : w.heap.size + 1 ≤ w2.heap.size := by have := hb2.size; simp at this; omega
  clear hb2
  go_wp2_with fail
  refine (HCl.out _ H2.out).mono ?_
  rintro e w3 ⟨rfl, hw3⟩
  have hw3 := hw3.symm
  subst hw3
  go_wp2_with fail
  refine (HSt.out _ H2.out).mono ?_
  rintro e w4 ⟨rfl, hb4⟩
  replace f0 := keep hb4 f0
  replace f1 := keep hb4 f1
  have H4 := hid (H2.out.trans (hb4.mono H2.out.size))
  have z4 : w.heap.size + 1 ≤ w4.heap.size := Nat.le_trans z2 hb4.size
  clear hb4 z2
  go_wp2_with fail
  refine (HAl.out _).mono ?_
  rintro e w5 ⟨rfl, hb5⟩
  have c6 := keep hb5 (show (w4.alloc (.cells #[.int .u64 P, .int .u64 O] 45)).cell? ⟨w4.heap.size, 0, none⟩ = some (.int .u64 P) by simp [go_sem])
  have c7 := keep hb5 (show (w4.alloc (.cells #[.int .u64 P, .int .u64 O] 45)).cell? ⟨w4.heap.size, 1, none⟩ = some (.int .u64 O) by simp [go_sem])
  have hb45 : Below w4.heap.size w4 w5 := (show Below w4.heap.size w4 _ from (by repeat (first | exact Below.refl _ _ | assumption | refine Below.drew ?_ | refine Below.alloc ?_ (by first | exact Nat.le_refl _ | omega | (simp; done) | (simp; omega)) _ | refine Below.setCell ?_ (by first | exact Nat.le_refl _ | omega | (simp; done) | (simp; omega)) _))).trans (hb5.mono (by simp))
  replace f0 := keep hb45 f0
  replace f1 := keep hb45 f1
  have H5 := hid (H4.out.trans (hb45.mono H4.out.size))
  clear hb5 hb45
  cases m with
  | true =>
    have HIm : Hid (impM n zss zs) := hid (by
      have hw : Wf (P, O) := by rw [← HSz.out]; exact HWz.out
      obtain ⟨l, h1, h2⟩ := (meet_iff hw).1 HM.out
      have hr := hw.range h1
      rw [mem_turn hr.1] at h2
      exact imp_all hn HZz.out (by rw [HSz.out]; exact h1) (by rw [HSz.out]; exact h2))
    go_wp2
    go_ret2
    exact ⟨true, rfl, ⟨fun _ => HIm.out, fun _ => rfl⟩, H5.out⟩
  | false =>
    have hcs : ∀ l, mem (setL zs) l = true → mem (setL zs) (-l) = false := fun l hl => by
      cases h9 : mem (setL zs) (-l) with
      | false => rfl
      | true =>
        have hr := HWz.out.range hl
        have h8 : meetL (P, O) (turnL (P, O)) = true := (meet_iff (by rw [← HSz.out]; exact HWz.out)).2 ⟨l, by rw [← HSz.out]; exact hl, by rw [← HSz.out, mem_turn hr.1]; exact h9⟩
        rw [HM.out] at h8; cases h8
    have HSl := hid (HSv.out hcs)
    have hwt : Wf (turnL (setL zs)) := wf_turn HWz.out
    have hct : ∀ l, mem (turnL (setL zs)) l = true → mem (turnL (setL zs)) (-l) = false := fun l hl => by
      have hr := hwt.range hl
      rw [mem_turn hr.1] at hl
      rw [mem_turn (by omega)]
      exact hcs _ hl
    have etu : (turnL (setL zs)).1 = O ∧ (turnL (setL zs)).2 = P := by rw [HSz.out]; exact ⟨rfl, rfl⟩
    have HN2 := hid (fun (W : World) (hW : Below w.heap.size w W) => HNw.out (turnL (setL zs)) W hW hwt hct)
    rw [etu.1, etu.2] at HN2
    have HF5 : Hid (∀ W : World, Below w5.heap.size w5 W → W.cell? ⟨w.heap.size, 0, none⟩ = some (.int .i64 n) ∧ W.cell? ⟨w.heap.size, 1, none⟩ = some (.slice a len cap) ∧ W.cell? ⟨w4.heap.size, 0, none⟩ = some (.int .u64 P) ∧ W.cell? ⟨w4.heap.size, 1, none⟩ = some (.int .u64 O)) := by
      have F0 := hid f0
      have F1 := hid f1
      have F6 := hid c6
      have F7 := hid c7
      exact hid (fun W hb => ⟨keep hb F0.out, keep hb F1.out, keep hb F6.out, keep hb F7.out⟩)
    clear f0 f1 c6 c7 hcs hwt hct etu
    go_wp2_with fail
    refine region_one (fun uu => ⟨#[.agg #[.int .i64 n, .slice a len cap], .slice b bl bc, .pointer (some ⟨w.heap.size, 0, none⟩), undef, uu 4, uu 5, .pointer (some ⟨w4.heap.size, 0, none⟩), .slice b bl bc, .int .i64 bl, .bool false, .agg #[.int .i64 n, .slice a len cap], .bool true, .bool false, .bool false, .slice b bl bc, .pointer (some ⟨w.heap.size, 0, none⟩), .int .i64 n, .bool true, .bool false, .bool false, .slice b bl bc, .agg #[.int .u64 P, .int .u64 O], .agg #[.int .u64 P, .int .u64 O], .bool false, uu 24, uu 25, uu 26, uu 27, uu 28, uu 29], []⟩) (fun i => [24, 25, 26, 27, 28, 29, 4, 5].getD i 0) (fun i x8 w8 => match i with | 0 => x8 = .agg #[.int .i64 n, .slice a len cap] | 1 => x8 = .agg #[.int .u64 P, .int .u64 O] | 2 => x8 = .agg #[.int .u64 O, .int .u64 P] | 3 => ∃ (M mb : Nat) (F : Nat → Value) (V : Int → Value), x8 = .pointer (some ⟨M, 0, none⟩) ∧ Sol 0 M mb F V (newS n (turnL (setL zs)) (zss.map setL)) w8 ∧ V 0 = nilV ∧ w5.heap.size ≤ M ∧ w5.heap.size ≤ mb ∧ ∀ a g, blk 0 F V a = some g → w5.heap.size ≤ g | 4 => ∃ b8 : Bool, x8 = .bool b8 ∧ SaysOf n zss (turnL (setL zs)) b8 | 5 => ∃ b8 : Bool, x8 = .bool (!b8) ∧ SaysOf n zss (turnL (setL zs)) b8 | 6 => ∃ b8 : Bool, x8 = .bool (!b8) ∧ SaysOf n zss (turnL (setL zs)) b8 | 7 => x8 = .int .i64 0 | _ => True) w5 8 3 4 (fun k => match k with | 24 => undef | 25 => undef | 26 => undef | 27 => undef | 28 => undef | 29 => undef | 4 => .bool false | 5 => .int .i64 0 | _ => undef) (by rfl) (by kernel_rfl) (by rfl) (by kernel_rfl) (by decide) (Below.refl _ _) ?hput ?hinj ?stable ?still ?step ?one ?fin
    case hput =>
      intro i hi uu v
      match i, hi with
      | 0, _ => rfl
      | 1, _ => rfl
      | 2, _ => rfl
      | 3, _ => rfl
      | 4, _ => rfl
      | 5, _ => rfl
      | 6, _ => rfl
      | 7, _ => rfl
      | i + 8, hi => exact absurd hi (by omega)
    case hinj =>
      intro i j hi hj h
      exact slots_inj [24, 25, 26, 27, 28, 29, 4, 5] (by decide) hi hj h
    case stable =>
      intro x8 w8 w9 hb h
      obtain ⟨M, mb, F, V, e, q1, q2⟩ := h
      exact ⟨M, mb, F, V, e, q1.below hb, q2⟩
    case still =>
      intro i x8 w8 w9 hne h
      match i, hne, h with
      | 0, hne, h => exact h
      | 1, hne, h => exact h
      | 2, hne, h => exact h
      | 3, hne, h => exact absurd rfl hne
      | 4, hne, h => exact h
      | 5, hne, h => exact h
      | 6, hne, h => exact h
      | 7, hne, h => exact h
      | _ + 8, _, _ => trivial
    case step =>
      intro i hi hne uu w8 S8 hdep
      match i, hi, hne with
      | 0, _, _ =>
        clear hdep
        refine ⟨_, rfl, fun K' hK => ?_⟩
        obtain ⟨y0, y1, y2, y3⟩ := HF5.out w8 S8
        go_simp
        exact hK.out _ _ (Below.refl _ _) rfl
      | 1, _, _ =>
        clear hdep
        refine ⟨_, rfl, fun K' hK => ?_⟩
        obtain ⟨y0, y1, y2, y3⟩ := HF5.out w8 S8
        go_simp
        exact hK.out _ _ (Below.refl _ _) rfl
      | 2, _, _ =>
        have h1 : (uu 25) = .agg #[.int .u64 P, .int .u64 O] := hdep 1 (by kernel_rfl) (by decide)
        clear hdep
        refine ⟨_, rfl, fun K' hK => ?_⟩
        simp only [h1] at hK ⊢
        go_simp
        refine (HTu.out _).mono ?_
        rintro e w9 ⟨rfl, hb9⟩
        exact hK.out _ _ hb9 rfl
      | 3, _, _ =>
        have h0 : (uu 24) = .agg #[.int .i64 n, .slice a len cap] := hdep 0 (by kernel_rfl) (by decide)
        have h2 : (uu 26) = .agg #[.int .u64 O, .int .u64 P] := hdep 2 (by kernel_rfl) (by decide)
        clear hdep
        refine ⟨_, rfl, fun K' hK => ?_⟩
        simp only [h0, h2] at hK ⊢
        go_simp
        refine (HN2.out _ (H5.out.trans (S8.mono H5.out.size))).mono ?_
        rintro e w9 ⟨M, mb, F, V, rfl, q1, qv, hb9, m1, m2, m3⟩
        exact hK.out _ _ hb9 ⟨M, mb, F, V, rfl, q1, qv, Nat.le_trans S8.size m1, Nat.le_trans S8.size m2, fun a g hg => Nat.le_trans S8.size (m3 a g hg)⟩
      | 4, _, hne => exact absurd rfl hne
      | 5, _, _ =>
        have h4 : ∃ b8 : Bool, (uu 28) = .bool b8 ∧ SaysOf n zss (turnL (setL zs)) b8 := hdep 4 (by kernel_rfl) (by decide)
        clear hdep
        refine ⟨_, rfl, fun K' hK => ?_⟩
        obtain ⟨b8, e4, hs8⟩ := h4
        simp only [e4] at hK ⊢
        go_simp
        exact hK.out _ _ (Below.refl _ _) ⟨b8, rfl, hs8⟩
      | 6, _, _ =>
        have h5 : ∃ b8 : Bool, (uu 29) = .bool (!b8) ∧ SaysOf n zss (turnL (setL zs)) b8 := hdep 5 (by kernel_rfl) (by decide)
        clear hdep
        refine ⟨_, rfl, fun K' hK => ?_⟩
        obtain ⟨b8, e5, hs8⟩ := h5
        simp only [e5] at hK ⊢
        go_simp
        exact hK.out _ _ (Below.refl _ _) ⟨b8, rfl, hs8⟩
      | 7, _, _ =>
        clear hdep
        refine ⟨_, rfl, fun K' hK => ?_⟩
        go_simp
        exact hK.out _ _ (Below.refl _ _) rfl
      | i + 8, hi, _ => exact absurd hi (by omega)
    case one =>
      intro _ uu w8 S8 hdep
      have h3 : ∃ (M mb : Nat) (F : Nat → Value) (V : Int → Value), (uu 27) = .pointer (some ⟨M, 0, none⟩) ∧ Sol 0 M mb F V (newS n (turnL (setL zs)) (zss.map setL)) w8 ∧ V 0 = nilV ∧ w5.heap.size ≤ M ∧ w5.heap.size ≤ mb ∧ ∀ a g, blk 0 F V a = some g → w5.heap.size ≤ g := hdep 3 (by kernel_rfl)
      clear hdep
      refine ⟨_, rfl, fun K' hK => ?_⟩
      obtain ⟨M, mb, F, V, e3, q1, qv, m1, m2, m3⟩ := h3
      simp only [e3] at hK ⊢
      go_simp
      refine (HSl.out M mb F V _ q1 qv).mono ?_
      rintro e w9 ⟨b8, F', V', rfl, hch, hs8⟩
      exact hK.out _ _ (S8.trans (hch.toBelow S8.size m1 m2 m3)) ⟨b8, rfl, hs8⟩
    case fin =>
      intro uu w8 S8 hall
      have h6 : ∃ b8 : Bool, (uu 4) = .bool (!b8) ∧ SaysOf n zss (turnL (setL zs)) b8 := hall 6 (by decide) (by decide)
      have h7 : (uu 5) = .int .i64 0 := hall 7 (by decide) (by decide)
      clear hall
      obtain ⟨b8, e6, hs8⟩ := h6
      have HS8 := hid hs8
      have HB8 := hid (H5.out.trans (S8.mono H5.out.size))
      have HE6 := hid e6
      have HE7 := hid h7
      clear e6 h7 hs8 S8
      go_wp2
      go_ret2
      refine ⟨!b8, by show Ending.returned (.tuple #[uu 4, uu 5]) = _; rw [HE6.out, HE7.out], ?_, HB8.out⟩
      cases b8 with
      | true =>
        obtain ⟨H', h1, h2⟩ := HS8.out.1 rfl
        exact ⟨fun h => (by cases h), fun h => absurd h (imp_yes hn HZz.out h1 h2)⟩
      | false => exact ⟨fun _ => imp_no hn HZz.out (HS8.out.2 rfl), fun _ => rfl⟩
end Go.Proofs.YtikhnfgpopcdjaaDoor.impImpl
