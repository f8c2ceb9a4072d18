import Derived.Test.YtmkhoocokpkojaaGreatDoorPart33
import Derived.Test.YtmkhoocokpkojaaGreatDoorPart34
import Derived.Test.YtmkhoocokpkojaaGreatDoorChkSpec
import Derived.Test.YtmkhoocokpkojaaGreatDoorPart31
import Derived.Shelf.RegionOpenPlain
import Derived.WalkKit
import Derived.Deep.RegionLaw
import Derived.Laws.IdiomCopy
import Derived.RangeFuncNested
import Derived.RangeFuncBound
import Derived.RangeFuncCalls
import Derived.RangeFuncLeaves
import Derived.Shelf.Abstract
import Derived.Shelf.RegionOpen
import Derived.OwnWalkIn
import Derived.TacticsInMore
import Derived.LoopNIn
import Derived.LoopIn
import Derived.Test.YtmkhoocokpkojaaGreatDoorPart1
import Derived.Test.YtmkhoocokpkojaaGreatDoorPart26
namespace Go.Proofs.YtmkhoocokpkojaaGreatDoor.rupFaceS
open Go.RowKit Go.Deep Go base copy cnf sets setsOf solSets solMath solClose solTrail chkMath rupSpec
set_option linter.unusedVariables false
set_option linter.unusedSimpArgs false
def rupCode (vars : Int) (zss : List (List Int)) (zs : List Int) : Int := if 4096 < zs.length then 2 else if (cnfB vars zss && clauseB vars zs) = false then 1 else 0
structure RupAns (vars : Int) (zss : List (List Int)) (zs : List Int) (t : Bool) (c : Int) : Prop where
 code : c = rupCode vars zss zs
 no : c ≠ 0 → t = false
 yes : c = 0 → (t = true ↔ rupP (zss.map setL) (setL zs))
theorem RupAns.uniq {vars : Int} {zss : List (List Int)} {zs : List Int} {t t' : Bool} {c c' : Int} (h : RupAns vars zss zs t c) (k : RupAns vars zss zs t' c') : t = t' ∧ c = c' := by
 have e : c = c' := h.code.trans k.code.symm
 refine ⟨?_, e⟩
 by_cases h0 : c = 0
 · have h1 := h.yes h0
   have h2 := k.yes (by rw [← e]; exact h0)
   rw [Bool.eq_iff_iff, h1, h2]
 · rw [h.no h0, k.no (by rw [← e]; exact h0)]
theorem cnf_in {n : Nat} {zss : List (List Int)} (h : cnfB ((n : Int) - 1) zss = true) : LitsIn n zss := fun zs hz z hzz => by
 unfold cnfB at h
 rw [Bool.and_eq_true, List.all_eq_true] at h
 have h2 := h.2 zs hz
 unfold clauseB at h2
 rw [Bool.and_eq_true, List.all_eq_true] at h2
 have h3 := h2.2 z hzz
 unfold litB at h3
 have := of_decide_eq_true h3
 omega
theorem clause_in {n : Nat} {zs : List Int} (h : clauseB ((n : Int) - 1) zs = true) : ∀ z ∈ zs, z ≠ 0 ∧ z.natAbs < n := fun z hzz => by
 unfold clauseB at h
 rw [Bool.and_eq_true, List.all_eq_true] at h
 have h3 := h.2 z hzz
 unfold litB at h3
 have := of_decide_eq_true h3
 omega
theorem cnf_vars {vars : Int} {zss : List (List Int)} (h : cnfB vars zss = true) : 0 ≤ vars ∧ vars ≤ 40 ∧ zss.length ≤ 300 := by
 unfold cnfB at h
 rw [Bool.and_eq_true, decide_eq_true_eq] at h
 exact h.1
end Go.Proofs.YtmkhoocokpkojaaGreatDoor.rupFaceS
namespace Go.Proofs.YtmkhoocokpkojaaGreatDoor.stepsAre
open Go.RowKit Go.Deep base copy cnf steps
set_option linter.unusedVariables false
def stepsB (vars : Int) (ss : List St) : Bool := decide (ss.length ≤ 200) && ss.all (fun s => clauseB vars s.2)
set_option maxHeartbeats 800000 in
theorem are_impl (a : Option Addr) (len cap : Nat) (ss : List St) (vars : Int) (w : World) (h0 : 0 ≤ vars) (h1 : vars ≤ 40) (hr : StepRow w a len ss) :
  Calls Tryz.prog 22 #[.slice a len cap, .int .i64 vars] w fun e w' => e = .returned (.bool (stepsB vars ss)) ∧ Below w.heap.size w w' := by
 have hmost := hr.most
 unfold maxLen at hmost
 have HR := hid hr
 have HL := hid hr.length
 clear hr
 by_cases h3 : (200 : Int) < (len : Int)
 · have hf : stepsB vars ss = false := by
    have : decide (ss.length ≤ 200) = false := decide_eq_false (by rw [HL.out]; omega)
    simp [stepsB, this]
   rw [hf]
   clear hf
   go_enter Tryz.func22, Tryz.ntmps22
   go_wp2
   go_ret
   exact ⟨rfl, Below.refl _ _⟩
 have hN : Hid (stepsB vars ss = ss.all (fun s => clauseB vars s.2)) := by
  show _ = _
  have : decide (ss.length ≤ 200) = true := decide_eq_true (by rw [HL.out]; omega)
  simp [stepsB, this]
 go_enter Tryz.func22, Tryz.ntmps22
 go_wp2
 go_loopw [12] (fun i wr => ∃ k : Nat, k ≤ len ∧ i = .int .i64 k ∧ (ss.take k).all (fun s => clauseB vars s.2) = true ∧ Below w.heap.size w wr) (fun i _ => len - (intOf i).toNat)
 case atStart => exact ⟨0, Nat.zero_le _, rfl, rfl, Below.refl _ _⟩
 case round =>
  obtain ⟨k, hk, rfl, ha, hbel⟩ := hrel
  have HA := hid ha
  have HB := hid hbel
  clear ha
  by_cases hlt : k < len
  · obtain ⟨b, off, rfl, hd, x, l, c, hc, hx⟩ := HR.out.cell k hlt
    replace hd := keep hbel hd
    replace hc := keep hbel hc
    have hbw : b < wr.heap.size := World.block_lt_of_cell? _ _ hc
    have HX := hid (hx.below hbel)
    have HS := hid hbel.size
    clear hx hbel
    by_cases hL : clauseB vars (ss[k]?.getD (false, [])).2 = true
    · go_wp2_with fail
      refine (clause_impl x l c _ vars _ h0 h1 (HX.out.below (by repeat (first | exact Below.refl _ _ | assumption | refine Below.drew ?_ | refine Below.alloc ?_ (by first | exact Nat.le_refl _ | omega | (simp; done) | (simp; omega)) _ | refine Below.setCell ?_ (by first | exact Nat.le_refl _ | omega | (simp; done) | (simp; omega)) _)))).mono ?_
      rintro e w1 ⟨rfl, rfl⟩
      rw [hL]
      have HB1 : Hid (Below w.heap.size w (wr.alloc (.cells #[.bool (ss[k]?.getD (false, [])).1, .slice x l c] 79))) := HB.out.alloc HS.out _
      go_wp2
      go_roundw
      case rel => exact ⟨k + 1, by omega, by go_num, by rw [all_take_succ (d := (false, [])) (by rw [HL.out]; omega), HA.out, hL]; rfl, HB1.out⟩
      case measure => simp [intOf]; omega
    · have hL' : clauseB vars (ss[k]?.getD (false, [])).2 = false := by simpa using hL
      clear hL
      go_wp2_with fail
      refine (clause_impl x l c _ vars _ h0 h1 (HX.out.below (by repeat (first | exact Below.refl _ _ | assumption | refine Below.drew ?_ | refine Below.alloc ?_ (by first | exact Nat.le_refl _ | omega | (simp; done) | (simp; omega)) _ | refine Below.setCell ?_ (by first | exact Nat.le_refl _ | omega | (simp; done) | (simp; omega)) _)))).mono ?_
      rintro e w1 ⟨rfl, rfl⟩
      rw [hL']
      go_wp2
      go_ret
      exact ⟨ret_bool (by rw [hN.out, all_false (d := (false, [])) (by rw [HL.out]; omega) hL']), HB.out.alloc HS.out _⟩
  · have e : k = len := by omega
    subst e
    clear hbel
    go_wp2
    go_ret
    exact ⟨ret_bool (by rw [hN.out, ← HA.out, List.take_of_length_le (by rw [HL.out]; omega)]), HB.out⟩
set_option maxHeartbeats 800000 in
theorem are_spec (a : Option Addr) (len cap : Nat) (ss : List St) (vars : Int) (w : World) (h0 : 0 ≤ vars) (h1 : vars ≤ 40) (hr : StepRow w a len ss) :
  Calls Tryz.prog 25 #[.slice a len cap, .int .i64 vars] w fun e w' => e = .returned (.bool (stepsB vars ss)) ∧ w' = w := by
 have hmost := hr.most
 unfold maxLen at hmost
 have HR := hid hr
 have HL := hid hr.length
 clear hr
 by_cases h3 : (200 : Int) < (len : Int)
 · have hf : stepsB vars ss = false := by
    have : decide (ss.length ≤ 200) = false := decide_eq_false (by rw [HL.out]; omega)
    simp [stepsB, this]
   rw [hf]
   clear hf
   go_enter Tryz.func25, Tryz.ntmps25
   go_wp2
   go_ret
   exact ⟨rfl, rfl⟩
 have hN : Hid (stepsB vars ss = ss.all (fun s => clauseB vars s.2)) := by
  show _ = _
  have : decide (ss.length ≤ 200) = true := decide_eq_true (by rw [HL.out]; omega)
  simp [stepsB, this]
 go_enter Tryz.func25, Tryz.ntmps25
 go_wp2
 go_loop [5] (fun i => ∃ k : Nat, k ≤ len ∧ i = .int .i64 k ∧ (ss.take k).all (fun s => clauseB vars s.2) = true) (fun i => len - (intOf i).toNat)
 case atStart => exact ⟨0, Nat.zero_le _, rfl, rfl⟩
 case round =>
  obtain ⟨k, hk, rfl, ha⟩ := hrel
  have HA := hid ha
  clear ha
  by_cases hlt : k < len
  · obtain ⟨b, off, rfl, hd, x, l, c, hc, hx⟩ := HR.out.cell k hlt
    have HX := hid hx
    clear hx
    by_cases hL : clauseB vars (ss[k]?.getD (false, [])).2 = true
    · go_wp2_with fail
      refine (clause_spec x l c _ vars _ h0 h1 HX.out).mono ?_
      rintro e w1 ⟨rfl, rfl⟩
      rw [hL]
      go_wp2
      go_round
      case rel => exact ⟨k + 1, by omega, by go_num, by rw [all_take_succ (d := (false, [])) (by rw [HL.out]; omega), HA.out, hL]; rfl⟩
      case measure => simp [intOf]; omega
    · have hL' : clauseB vars (ss[k]?.getD (false, [])).2 = false := by simpa using hL
      clear hL
      go_wp2_with fail
      refine (clause_spec x l c _ vars _ h0 h1 HX.out).mono ?_
      rintro e w1 ⟨rfl, rfl⟩
      rw [hL']
      go_wp2
      go_ret
      exact ⟨ret_bool (by rw [hN.out, all_false (d := (false, [])) (by rw [HL.out]; omega) hL']), rfl⟩
  · have e : k = len := by omega
    subst e
    go_wp2
    go_ret
    exact ⟨ret_bool (by rw [hN.out, ← HA.out, List.take_of_length_le (by rw [HL.out]; omega)]), rfl⟩
end Go.Proofs.YtmkhoocokpkojaaGreatDoor.stepsAre
namespace Go.Proofs.YtmkhoocokpkojaaGreatDoor.chkFaceS
open Go.RowKit Go.Deep Go base copy cnf steps sets setsOf solSets solMath solClose chkMath chkSem chkSpec stepsAre rupFaceS
set_option linter.unusedVariables false
set_option linter.unusedSimpArgs false
structure ChkAns (vars : Int) (zss : List (List Int)) (ss : List St) (p c : Int) : Prop where
 long : 4096 < ss.length → p = 0 ∧ c = 2
 bad : ¬ 4096 < ss.length → (cnfB vars zss && stepsB vars ss) = false → p = 0 ∧ c = 1
 ok : ¬ 4096 < ss.length → (cnfB vars zss && stepsB vars ss) = true → ChkR zss ss 0 p c
theorem ChkAns.uniq {vars : Int} {zss : List (List Int)} {ss : List St} {p c p' c' : Int} (h : ChkAns vars zss ss p c) (k : ChkAns vars zss ss p' c') : p = p' ∧ c = c' := by
 by_cases h1 : 4096 < ss.length
 · have a := h.long h1
   have b := k.long h1
   omega
 · cases h2 : (cnfB vars zss && stepsB vars ss) with
   | false =>
    have a := h.bad h1 h2
    have b := k.bad h1 h2
    omega
   | true => exact ChkR.uniq _ _ _ _ _ _ _ (h.ok h1 h2) (k.ok h1 h2)
theorem short_cnf {n : Nat} {zss : List (List Int)} (h : cnfB ((n : Int) - 1) zss = true) : ShortIn n zss := fun zs hz => by
 have h2 := cnf_in h zs hz
 unfold cnfB at h
 rw [Bool.and_eq_true, List.all_eq_true] at h
 have h3 := h.2 zs hz
 unfold clauseB at h3
 rw [Bool.and_eq_true, decide_eq_true_eq] at h3
 exact ⟨h3.1, h2⟩
theorem short_steps {n : Nat} {ss : List St} (h : stepsB ((n : Int) - 1) ss = true) : ShortIn n (ss.map Prod.snd) ∧ ss.length ≤ 200 := by
 unfold stepsB at h
 rw [Bool.and_eq_true, List.all_eq_true, decide_eq_true_eq] at h
 refine ⟨fun zs hz => ?_, h.1⟩
 obtain ⟨s, hs, rfl⟩ := List.mem_map.1 hz
 have h2 := h.2 s hs
 have h3 := clause_in h2
 unfold clauseB at h2
 rw [Bool.and_eq_true, decide_eq_true_eq] at h2
 exact ⟨h2.1, h3⟩
set_option maxHeartbeats 3200000 in
set_option maxRecDepth 8000 in
theorem check_spec' (vars : Int) (a : Option Addr) (len cap : Nat) (zss : List (List Int)) (b : Option Addr) (bl bc : Nat) (ss : List St) (w : World) (hr : IntRows w a len zss) (hb : StepRow w b bl ss) (hnil : a = none → cap = 0) :
  Calls Tryz.prog 9 #[.agg #[.int .i64 vars, .slice a len cap], .slice b bl bc] w fun e w' => ∃ p c : Int, e = .returned (.tuple #[.int .i64 p, .int .i64 c]) ∧ ChkAns vars zss ss p c ∧ Below w.heap.size w w' := by
 have hmost := hb.most
 unfold maxLen at hmost
 have HRo := hid hr
 have HBr := hid hb
 have hlb := hb.length
 have hlr := hr.length
 have HCo := hid (fun (W : World) (hbw : Below w.heap.size w W) => cnfOK_spec vars a len cap zss W (hr.below hbw))
 clear hr hb
 by_cases h1 : 4096 < bl
 · have HA : Hid (ChkAns vars zss ss 0 2) := hid ⟨fun _ => ⟨rfl, rfl⟩, fun h => absurd (by omega) h, fun h => absurd (by omega) h⟩
   have d1 : (4096 : Int) < (bl : Int) := by omega
   clear hlb hlr hnil
   go_enter Tryz.func9, Tryz.ntmps9
   go_wp2
   go_ret2
   exact ⟨0, 2, rfl, HA.out, (by repeat (first | exact Below.refl _ _ | assumption | refine Below.drew ?_ | refine Below.alloc ?_ (by first | exact Nat.le_refl _ | omega | (simp; done) | (simp; omega)) _ | refine Below.setCell ?_ (by first | exact Nat.le_refl _ | omega | (simp; done) | (simp; omega)) _))⟩
 · have d1 : ¬ (4096 : Int) < (bl : Int) := by omega
   cases hck : cnfB vars zss with
   | false =>
    have HA : Hid (ChkAns vars zss ss 0 1) := hid ⟨fun h => absurd h (by omega), fun _ _ => ⟨rfl, rfl⟩, fun _ h => (by rw [hck] at h; cases h)⟩
    rw [hck] at HCo
    clear hlb hlr hck hnil
    go_enter Tryz.func9, Tryz.ntmps9
    go_wp2_with fail
    refine (HCo.out _ (by repeat (first | exact Below.refl _ _ | assumption | refine Below.drew ?_ | refine Below.alloc ?_ (by first | exact Nat.le_refl _ | omega | (simp; done) | (simp; omega)) _ | refine Below.setCell ?_ (by first | exact Nat.le_refl _ | omega | (simp; done) | (simp; omega)) _))).mono ?_
    rintro e w1 ⟨rfl, hb1⟩
    have H1 := hid ((show Below w.heap.size w _ from (by repeat (first | exact Below.refl _ _ | assumption | refine Below.drew ?_ | refine Below.alloc ?_ (by first | exact Nat.le_refl _ | omega | (simp; done) | (simp; omega)) _ | refine Below.setCell ?_ (by first | exact Nat.le_refl _ | omega | (simp; done) | (simp; omega)) _))).trans (Below.mono hb1 (by simp)))
    clear hb1
    go_wp2
    go_ret2
    exact ⟨0, 1, rfl, HA.out, H1.out⟩
   | true =>
    rw [hck] at HCo
    obtain ⟨hv0, hv1, hv2⟩ := cnf_vars hck
    obtain ⟨n, hn⟩ : ∃ n : Nat, vars = (n : Int) - 1 := ⟨(vars + 1).toNat, by omega⟩
    have HSt := hid (fun (W : World) (hbw : Below w.heap.size w W) => are_spec b bl bc ss vars W hv0 hv1 (HBr.out.below hbw))
    cases hst : stepsB vars ss with
    | false =>
     have HA : Hid (ChkAns vars zss ss 0 1) := hid ⟨fun h => absurd h (by omega), fun _ _ => ⟨rfl, rfl⟩, fun _ h => (by rw [hck, hst] at h; cases h)⟩
     rw [hst] at HSt
     clear hlb hlr hck hst hn hnil
     go_enter Tryz.func9, Tryz.ntmps9
     go_wp2_with fail
     refine (HCo.out _ (by repeat (first | exact Below.refl _ _ | assumption | refine Below.drew ?_ | refine Below.alloc ?_ (by first | exact Nat.le_refl _ | omega | (simp; done) | (simp; omega)) _ | refine Below.setCell ?_ (by first | exact Nat.le_refl _ | omega | (simp; done) | (simp; omega)) _))).mono ?_
     rintro e w1 ⟨rfl, hb1⟩
     have f0 := keep hb1 (show (w.alloc (.cells #[.int .i64 vars, .slice a len cap] 25)).cell? ⟨w.heap.size, 0, none⟩ = some (.int .i64 vars) by simp [go_sem])
     have H1 := hid ((show Below w.heap.size w _ from (by repeat (first | exact Below.refl _ _ | assumption | refine Below.drew ?_ | refine Below.alloc ?_ (by first | exact Nat.le_refl _ | omega | (simp; done) | (simp; omega)) _ | refine Below.setCell ?_ (by first | exact Nat.le_refl _ | omega | (simp; done) | (simp; omega)) _))).trans (Below.mono hb1 (by simp)))
     clear hb1
     go_wp2_with fail
     refine (HSt.out _ H1.out).mono ?_
     rintro e w2 ⟨rfl, rfl⟩
     go_wp2
     go_ret2
     exact ⟨0, 1, rfl, HA.out, H1.out⟩
    | true =>
     have hsn : stepsB ((n : Int) - 1) ss = true := by rw [← hn]; exact hst
     have hcn : cnfB ((n : Int) - 1) zss = true := by rw [← hn]; exact hck
     have HRu := hid (fun (W : World) (hbw : Below w.heap.size w W) => check_spec n a len cap zss b bl bc ss W (HRo.out.below hbw) (HBr.out.below hbw) (by omega) (short_cnf hcn) (by omega) (by have := (short_steps hsn).2; omega) (short_steps hsn).1 hnil)
     rw [← hn] at HRu
     have HA : Hid (∀ p c : Int, ChkR zss ss 0 p c → ChkAns vars zss ss p c) := hid (fun p c ht => ⟨fun h => absurd h (by omega), fun _ h => (by rw [hck, hst] at h; cases h), fun _ _ => ht⟩)
     rw [hst] at HSt
     clear hlb hlr hck hst hn hsn hcn hnil
     go_enter Tryz.func9, Tryz.ntmps9
     go_wp2_with fail
     refine (HCo.out _ (by repeat (first | exact Below.refl _ _ | assumption | refine Below.drew ?_ | refine Below.alloc ?_ (by first | exact Nat.le_refl _ | omega | (simp; done) | (simp; omega)) _ | refine Below.setCell ?_ (by first | exact Nat.le_refl _ | omega | (simp; done) | (simp; omega)) _))).mono ?_
     rintro e w1 ⟨rfl, hb1⟩
     have f0 := keep hb1 (show (w.alloc (.cells #[.int .i64 vars, .slice a len cap] 25)).cell? ⟨w.heap.size, 0, none⟩ = some (.int .i64 vars) by simp [go_sem])
     have f1 := keep hb1 (show (w.alloc (.cells #[.int .i64 vars, .slice a len cap] 25)).cell? ⟨w.heap.size, 1, none⟩ = some (.slice a len cap) by simp [go_sem])
     have H1 := hid ((show Below w.heap.size w _ from (by repeat (first | exact Below.refl _ _ | assumption | refine Below.drew ?_ | refine Below.alloc ?_ (by first | exact Nat.le_refl _ | omega | (simp; done) | (simp; omega)) _ | refine Below.setCell ?_ (by first | exact Nat.le_refl _ | omega | (simp; done) | (simp; omega)) _))).trans (Below.mono hb1 (by simp)))
     clear hb1
     go_wp2_with fail
     refine (HSt.out _ H1.out).mono ?_
     rintro e w2 ⟨rfl, rfl⟩
     go_wp2_with fail
     refine (HRu.out _ H1.out).mono ?_
     rintro e w3 ⟨p, c, rfl, ht, hb3⟩
     have HT := hid ht
     have HB3 := hid (H1.out.trans (hb3.mono H1.out.size))
     clear ht hb3
     go_wp2
     go_ret2
     exact ⟨p, c, rfl, HA.out p c HT.out, HB3.out⟩
end Go.Proofs.YtmkhoocokpkojaaGreatDoor.chkFaceS
namespace Go.Proofs.YtmkhoocokpkojaaGreatDoor.deleteI
open Go.RowKit Go.Deep Go.Maps Go base sets solSets solOps solMath solMem solAddI chkNew
set_option linter.unusedVariables false
set_option linter.unusedSimpArgs false
theorem flatC_drop : ∀ (C : List LS) (k : Nat), flatC (C.drop k) = (flatC C).drop (k * 2)
 | C, 0 => by simp
 | [], k + 1 => by simp [flatC]
 | c :: r, k + 1 => by rw [List.drop_succ_cons, flatC_drop r k, show (k + 1) * 2 = k * 2 + 2 by omega]; simp [flatC]
theorem flatC_one : ∀ (C : List LS), ∀ u ∈ flatC C, u.oneCell' = true
 | [], u, h => by cases h
 | c :: r, u, h => by
  simp only [flatC, List.mem_cons] at h
  rcases h with rfl | rfl | h
  · rfl
  · rfl
  · exact flatC_one r u h
theorem clear_one (w : World) (ty : TypeId) (b o c : Nat) (h0 : (w.cell? ⟨b, o, none⟩).isSome = true) (h1 : (w.cell? ⟨b, o + 1, none⟩).isSome = true) (f0 : w.frozen? ⟨b, o, none⟩ = false) (f1 : w.frozen? ⟨b, o + 1, none⟩ = false) :
  (Builtin.clear_ #[59] ty #[.slice (some ⟨b, o, none⟩) 1 c]).run Tryz.prog w = .ok (.tuple #[]) (w.setCells b o [.int .u64 0, .int .u64 0]) := by
 have hv : ∀ w, (zeroValue 68).run Tryz.prog w = .ok (.agg #[.int .u64 0, .int .u64 0]) w := fun w => by kernel_rfl
 have hst := run_storeCells_cells (P := Tryz.prog) b o [.int .u64 0, .int .u64 0] 0 w (by intro j hj; rcases j with _ | _ | j; simpa using h0; simpa using h1; simp at hj; omega) (by intro j hj; rcases j with _ | _ | j; simpa using f0; simpa using f1; simp at hj; omega) (by intro v hv'; simp at hv'; subst hv'; rfl)
 simp only [Nat.add_zero] at hst
 have hz : (Builtin.zeroCells (Value.agg #[.int .u64 0, .int .u64 0]).cells 1).toList = [.int .u64 0, .int .u64 0] := by simp [Builtin.zeroCells, Value.cells, List.range_succ]; try rfl
 simp [Builtin.clear_, run_underlying Tryz.underlying59, hv, hz, hst]
theorem set_grown {w W : World} {g : Nat} (h : w.grownBy W (some g)) (o : Nat) (vs : List Value) : w.grownBy (W.setCells g o vs) (some g) := by
 obtain ⟨h1, h2, h3, h4, h5, _⟩ := solDue.setCells_facts g vs o W
 exact ⟨h1.trans h.os, h2.trans h.tape, h3.trans h.output, by rw [h4]; exact h.size, fun j hj hne => (h5 j (fun e => hne (by rw [e]))).trans (h.block j hj hne)⟩
set_option maxHeartbeats 4000000 in
set_option maxRecDepth 1000000 in
theorem delete_impl (B g n cap k : Nat) (cs : List LS) (w : World) (ho : w.ownsRow B 68 2 (.slice (some ⟨g, 0, none⟩) n cap) n (flatC cs)) (hl : cs.length = n) (hk : k < n) :
  Calls Tryz.prog 66 #[.slice (some ⟨g, 0, none⟩) n cap, .int .i64 (k : Int), .int .i64 ((k : Int) + 1)] w fun e w' => e = .returned (.slice (some ⟨g, 0, none⟩) (n - 1) cap) ∧ LsRow w' (some ⟨g, 0, none⟩) (n - 1) (cs.eraseIdx k) ∧ w.grownBy w' (some g) := by
 obtain ⟨hcap, hm, hall, hrow, hfz⟩ : n ≤ cap ∧ cap ≤ maxLen ∧ (∀ j, j < cap * 2 → (w.cell? ⟨g, j, none⟩).isSome = true) ∧ (∀ j u, (flatC cs)[j]? = some u → w.cell? ⟨g, j, none⟩ = some u) ∧ ∀ j, w.frozen? ⟨g, j, none⟩ = false := by
  rcases ho.2 with ⟨e, _⟩ | ⟨g', c, cur, e, hg, hh, hn, hm, hs, ht⟩
  · cases e
  · injection e with e1 e2 e3
    injection e1 with e1
    injection e1 with e1
    subst e1 e3
    refine ⟨hn, hm, fun j hj => by simp [World.cell?, hh, Array.getElem?_eq_getElem (show j < cur.size by omega)], fun j u hu => ?_, fun j => by simp [World.frozen?, hh]⟩
    have hjl : j < (flatC cs).length := (List.getElem?_eq_some_iff.1 hu).1
    rw [flatC_len] at hjl
    rw [← ht, List.getElem?_take, if_pos (by omega), Array.getElem?_toList] at hu
    simp [World.cell?, hh, hu]
 unfold maxLen at hm
 obtain ⟨news, hnews⟩ : ∃ news, flatC (cs.drop (k + 1)) = news := ⟨_, rfl⟩
 have hnl : news.length = (n - (k + 1)) * 2 := by rw [← hnews, flatC_len, List.length_drop, hl]
 have hng : ∀ t u, news[t]? = some u → w.cell? ⟨g, (k + 1) * 2 + t, none⟩ = some u := fun t u hu => by
  rw [← hnews, flatC_drop, List.getElem?_drop] at hu
  exact hrow _ u hu
 obtain ⟨A, hA, hsrc⟩ : ∃ A : Addr, (if cap = k + 1 then some (⟨g, 0, none⟩ : Addr) else some ⟨g, (k + 1) * 2, none⟩) = some A ∧ Hid (∀ t u, news[t]? = some u → w.drew.cell? (A.add t) = some u) := by
  by_cases h : cap = k + 1
  · refine ⟨⟨g, 0, none⟩, by simp [h], fun t u hu => ?_⟩
    have h0 : news.length = 0 := by rw [hnl]; omega
    rw [List.length_eq_zero_iff.1 h0] at hu
    simp at hu
  · refine ⟨⟨g, (k + 1) * 2, none⟩, by simp [h], fun t u hu => ?_⟩
    rw [Addr.add_lit]
    exact hng t u hu
 have s1 : Hid (news.length = (n - (k + 1)) * 2) := hnl
 have s2 : Hid (∀ u ∈ news, u.oneCell' = true) := by rw [← hnews]; exact flatC_one _
 have s3 : Hid (∀ t, t < news.length → (w.drew.cell? ⟨g, 0 + k * 2 + t, none⟩).isSome = true ∧ w.drew.frozen? ⟨g, 0 + k * 2 + t, none⟩ = false) := fun t ht => by
  rw [hnl] at ht
  exact ⟨hall _ (by omega), hfz _⟩
 obtain ⟨W1, hW1⟩ : ∃ W1, W1 = w.drew.setCells g (0 + k * 2) news := ⟨_, rfl⟩
 have hcl : ∀ ty c, (Builtin.clear_ #[59] ty #[.slice (some ⟨g, (k + (n - (k + 1))) * 2, none⟩) (n - (k + (n - (k + 1)))) c]).run Tryz.prog W1 = .ok (.tuple #[]) (W1.setCells g ((k + (n - (k + 1))) * 2) [.int .u64 0, .int .u64 0]) := fun ty c => by
  have hs : ∀ j, j < cap * 2 → (W1.cell? ⟨g, j, none⟩).isSome = true := fun j hj => by
   rw [hW1]
   exact World.isSome_setCells g news _ w.drew _ (hall j hj)
  have hf : ∀ j, W1.frozen? ⟨g, j, none⟩ = false := fun j => by rw [hW1, World.frozen?_setCells]; exact hfz j
  rw [show n - (k + (n - (k + 1))) = 1 by omega]
  exact clear_one W1 ty g _ c (hs _ (by omega)) (hs _ (by omega)) (hf _) (hf _)
 have HW := hid hW1
 have HRow := hid hrow
 have HNw := hid hnews
 have HAll := hid hall
 have i0 := info_set'
 obtain ⟨i0, hi9, hzz⟩ := Option.map_eq_some_iff.1 info_set'
 simp only [Prod.mk.injEq] at hzz
 obtain ⟨hz0, hz1, hz2⟩ := hzz
 have HI := hid hi9
 have HZ1 := hid hz1
 clear hz0 hz1 hz2 hi9 hW1 hng hrow hnews hall hfz ho hnl
 have j1 : (k : Int) ≤ (k : Int) + 1 := by omega
 have j2 : (k : Int) + 1 ≤ (n : Int) := by omega
 have j3 : (n : Int) ≤ (cap : Int) := by omega
 have j4 : (0 : Int) ≤ (k : Int) := by omega
 have j5 : ((k : Int) == (k : Int) + 1) = false := by rw [beq_eq_false_iff_ne]; omega
 have j6 : (0 : Int) ≤ (k : Int) + 1 := by omega
 have j7 : (k : Int) ≤ (cap : Int) := by omega
 go_enter Tryz.func66, Tryz.ntmps66
 go_wp2_with fail
 have mixed : Tryz.prog.follows .mixedOrders = true := rfl
 go_region_law_o (refine step_append_room rfl (.tmp 22) (.tmp 25) 59 rfl 68 i0 2 Tryz.underlying59 HI.out HZ1.out g 0 k cap (by simp [Act.eval, Act.put]) A (n - (k + 1)) (cap - (k + 1)) news (by simp [Act.eval, Act.put]) s1.out hsrc.out s2.out (by omega) s3.out ?_; rw [← HW.out])
 go_wp2_with fail
 go_ret
 have hg1 : w.grownBy W1 (some g) := by
  rw [HW.out]
  have h1 : w.grownBy w.drew (some g) := ⟨rfl, rfl, rfl, Nat.le_refl _, fun _ _ _ => rfl⟩
  exact set_grown h1 _ _
 refine ⟨by rw [show k + (n - (k + 1)) = n - 1 by omega]; rfl, ⟨by rw [List.length_eraseIdx, if_pos (by omega), hl], fun i hi => ⟨g, rfl, ?_⟩⟩, set_grown hg1 _ _⟩
 have key : ∀ j, j < 2 → ∀ u, (flatC cs)[(if i < k then i else i + 1) * 2 + j]? = some u → (W1.setCells g ((k + (n - (k + 1))) * 2) [.int .u64 0, .int .u64 0]).cell? ⟨g, i * 2 + j, none⟩ = some u := fun j hj u hu => by
  rw [World.cell?_setCells_out g _ _ _ _ (fun _ _ => .inl (by show i * 2 + j < _; omega)), HW.out]
  by_cases hik : i < k
  · rw [if_pos hik] at hu
    rw [World.cell?_setCells_out g _ _ _ _ (fun _ _ => .inl (by show i * 2 + j < _; omega))]
    exact HRow.out _ _ hu
  · rw [if_neg hik] at hu
    have ht : (i - k) * 2 + j < news.length := by rw [s1.out]; omega
    have h9 := World.cell?_setCells_in g news (0 + k * 2) w.drew (fun t ht' => (s3.out t ht').1) ((i - k) * 2 + j) ht
    rw [show 0 + k * 2 + ((i - k) * 2 + j) = i * 2 + j by omega] at h9
    rw [h9]
    have e : news[(i - k) * 2 + j]? = some u := by
     rw [← HNw.out, flatC_drop, List.getElem?_drop, show (k + 1) * 2 + ((i - k) * 2 + j) = (i + 1) * 2 + j by omega]
     exact hu
    rw [List.getElem?_eq_getElem ht] at e
    exact e
 obtain ⟨q0, q1⟩ := flatC_get cs (if i < k then i else i + 1) (by split <;> omega)
 have ee : (cs.eraseIdx k)[i]?.getD (0, 0) = cs[if i < k then i else i + 1]?.getD (0, 0) := by
  rw [List.getElem?_eraseIdx]
  split <;> rfl
 rw [ee]
 exact ⟨by have := key 0 (by omega) _ q0; simpa using this, key 1 (by omega) _ q1⟩
end Go.Proofs.YtmkhoocokpkojaaGreatDoor.deleteI
namespace Go.Proofs.YtmkhoocokpkojaaGreatDoor.backSet
open Go.RowKit Go.Deep Go.Shelf Go base rangeAt rangeTwo rangeNo
set_option linter.unusedVariables false
attribute [local go_sem] Oper.semAt_some
structure Row2 (W : World) (a : Option Addr) (len : Nat) (zs : List (Nat × Nat)) : Prop where
 length : zs.length = len
 most : len ≤ maxLen
 cell : ∀ i, i < len → ∃ b off, a = some ⟨b, off, none⟩ ∧ W.cell? ⟨b, off + i * 2, none⟩ = some (.int .u64 (zs[i]?.getD (0, 0)).1) ∧ W.cell? ⟨b, off + i * 2 + 1, none⟩ = some (.int .u64 (zs[i]?.getD (0, 0)).2)
theorem Row2.below {W W' : World} {a : Option Addr} {len : Nat} {zs : List (Nat × Nat)} (h : Row2 W a len zs) (hb : Below W.heap.size W W') : Row2 W' a len zs := ⟨h.length, h.most, fun i hi => by
 obtain ⟨b, off, e, h1, h2⟩ := h.cell i hi
 exact ⟨b, off, e, keep hb h1, keep hb h2⟩⟩
theorem Row2.same {W W' : World} {a : Option Addr} {len : Nat} {zs : List (Nat × Nat)} (h : Row2 W a len zs) (hb : ∀ b off, a = some ⟨b, off, none⟩ → W'.heap[b]? = W.heap[b]?) : Row2 W' a len zs := ⟨h.length, h.most, fun i hi => by
 obtain ⟨b, off, e, h1, h2⟩ := h.cell i hi
 exact ⟨b, off, e, (World.cell?_of_block (a := ⟨b, off + i * 2, none⟩) (hb b off e)).trans h1, (World.cell?_of_block (a := ⟨b, off + i * 2 + 1, none⟩) (hb b off e)).trans h2⟩⟩
def upto {α : Type} (f : Nat → α) (k : Nat) : List α := (List.range k).map f
theorem upto_succ {α : Type} (f : Nat → α) (k : Nat) : upto f (k + 1) = upto f k ++ [f k] := by simp [upto, List.range_succ]
theorem upto_length {α : Type} (f : Nat → α) (k : Nat) : (upto f k).length = k := by simp [upto]
def Held (Bs : Nat) (a : Option Addr) (len cap : Nat) (zs : List (Nat × Nat)) (W : World) : Prop := W.cell? ⟨Bs, 0, none⟩ = some (.slice a len cap) ∧ Row2 W a len zs
set_option maxRecDepth 100000 in
set_option maxHeartbeats 2000000 in
theorem back_no {α : Type} (encs : α → Array Value) (f : Nat → α) (Bs len cap : Nat) (a : Option Addr) (zs : List (Nat × Nat)) (he : ∀ k : Nat, k < len → encs (f k) = #[.int .i64 ((len : Int) - 1 - k), .agg #[.int .u64 (zs[len - 1 - k]?.getD (0, 0)).1, .int .u64 (zs[len - 1 - k]?.getD (0, 0)).2]]) :
  SeqNo Tryz.prog 89 #[.pointer (some ⟨Bs, 0, none⟩)] encs (fun pre x => ∃ k, k < len ∧ pre = upto f k ∧ x = f k) (fun A B => Held Bs a len cap zs A → Held Bs a len cap zs B) (fun xs => xs = upto f len) (Held Bs a len cap zs) := by
 intro l J Jx W hG hY h0
 have hmost := hG.2.most
 unfold maxLen at hmost
 have HG := hid hG
 have hBs := hG.1
 have HE := hid he
 clear hG he
 refine callsIn_of_wp Tryz.func89 rfl trivial ?_ rfl
 simp only [Tryz.ntmps89, List.size_toArray, List.length_cons, List.length_nil, Nat.reduceAdd, Nat.reduceSub, Array.replicate_succ, Array.replicate_zero, List.push_toArray, List.append_toArray, List.nil_append, List.cons_append]
 gi_wp2
 clear hBs
 gi_loopw [3] (fun i wr => ∃ k : Nat, k ≤ len ∧ i = .int .i64 ((len : Int) - 1 - k) ∧ J (upto f k) wr ∧ Held Bs a len cap zs wr)
  (fun i _ => ((intOf i) + 1).toNat)
 case atStart => exact ⟨0, Nat.zero_le _, by simp, h0, HG.out⟩
 case round =>
  obtain ⟨k, hk, rfl, hJs, hc, hr⟩ := hrel
  have HR := hid hr
  have HC := hid hc
  clear hr
  by_cases hlt : k < len
  · obtain ⟨fn, tmps, assign, body, hy, hR⟩ := yield_any (m' := 8) (hY _ (f k) wr hJs ⟨k, hlt, rfl, rfl⟩)
    rw [HE.out k hlt] at hy
    obtain ⟨b, off, ha, hcx, hcy⟩ := HR.out.cell (len - 1 - k) (by omega)
    obtain ⟨t, ht⟩ : ∃ t : Nat, (len : Int) - 1 - k = (t : Int) := ⟨len - 1 - k, by omega⟩
    have ht2 : len - 1 - k = t := by omega
    rw [ht2] at hy hcx hcy
    rw [ht] at hy ⊢
    have HT := hid ht
    have htl : (t : Int) < (len : Int) := by omega
    have hg0 : decide ((0 : Int) ≤ (t : Int)) = true := decide_eq_true (by omega)
    clear ht ht2
    subst ha
    gi_wp2
    refine hR.mono ?_
    rintro e W3 (⟨rfl, hJ3, hk3⟩ | ⟨rfl, hJx3⟩)
    · have HG3 := hid (hk3 ⟨HC.out, HR.out⟩)
      gi_wp2
      go_roundw
      case rel => exact ⟨k + 1, by omega, by rw [show (len : Int) - 1 - (k + 1 : Nat) = (t : Int) - 1 by have := HT.out; omega], by rw [upto_succ]; exact hJ3, HG3.out⟩
      case measure => simp [intOf]
    · gi_wp2
      refine bodyPost_ret (results_none rfl _ _ _) rfl ?_
      exact ⟨⟨_, rfl⟩, .inr hJx3⟩
  · obtain rfl : k = len := by omega
    have hg0 : decide ((0 : Int) ≤ (k : Int) - 1 - k) = false := decide_eq_false (by omega)
    rw [show (k : Int) - 1 - k = -1 by omega]
    gi_wp2
    go_end0
    exact ⟨⟨_, rfl⟩, .inl ⟨_, rfl, hJs⟩⟩
theorem back_two {α : Type} (encs : α → Array Value) (f : Nat → α) (Bs len cap : Nat) (a : Option Addr) (zs : List (Nat × Nat)) (he : ∀ k : Nat, k < len → encs (f k) = #[.int .i64 ((len : Int) - 1 - k), .agg #[.int .u64 (zs[len - 1 - k]?.getD (0, 0)).1, .int .u64 (zs[len - 1 - k]?.getD (0, 0)).2]]) :
  SeqTwo Tryz.prog 89 #[.pointer (some ⟨Bs, 0, none⟩)] encs (fun pre x _ => ∃ k, k < len ∧ pre = upto f k ∧ x = f k) (fun _ A B => Held Bs a len cap zs A → Held Bs a len cap zs B) (fun _ => False) (fun xs => xs = upto f len) (Held Bs a len cap zs) (fun _ => True) :=
 fun l J Jx W hG _ _ hY h0 => (back_no encs f Bs len cap a zs he l J Jx W hG (fun pre x W1 h1 h2 => by
  obtain ⟨f1, t1, a1, b1, h3, h4⟩ := hY pre x W1 h1 h2
  exact ⟨f1, t1, a1, b1, h3, h4.mono fun e W' h5 => h5.elim .inl (fun h6 => .inr ⟨h6.1, h6.2.1⟩)⟩) h0).mono fun e W' h => ⟨h.1, h.2.elim (fun ⟨xs, h1, h2⟩ => .inl ⟨xs, h1, h2, trivial⟩) .inr⟩
theorem back_impl (a : Option Addr) (len cap : Nat) (w : World) :
  Calls Tryz.prog 65 #[.slice a len cap] w fun e w' => e = .returned (.func (.func 89) #[] #[.pointer (some ⟨w.heap.size, 0, none⟩)]) ∧ w' = w.alloc (.cells #[.slice a len cap] 59) := by
 go_enter Tryz.func65, Tryz.ntmps65
 go_wp2
 go_ret
 exact ⟨rfl, rfl⟩
end Go.Proofs.YtmkhoocokpkojaaGreatDoor.backSet
