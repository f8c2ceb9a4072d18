/- ChkFaceI; CopyOwn; Args: one text, so that the claim has fewer files. -/
import Derived.Test.YtolejaegnkcjjaaGreatDoorPart39
import Derived.Test.YtolejaegnkcjjaaGreatDoorEndI
import Derived.Test.YtolejaegnkcjjaaGreatDoorPart48
import Derived.BigQuiet
import Derived.Test.YtolejaegnkcjjaaGreatDoorRowsOwn
import Derived.Test.YtolejaegnkcjjaaGreatDoorPart2
import Derived.Test.YtolejaegnkcjjaaGreatDoorPart1
import Derived.ProofKit
import Derived.OpenShut
import Derived.ShutString
import Derived.ChangeOld
import Derived.Lib.SmallJoins
import Derived.Deep.Slices
/- CheckProof of the program; conditions: lengths that fit, the table of math/bits and errors.errorType as they are laid. -/
namespace Go.Proofs.YtolejaegnkcjjaaGreatDoor.chkFaceI
open Go.RowKit Go.Deep Go base copy cnf steps sets setsOf solSets solOps solMath solMem chkNew chkMath chkSem chkSpec stepsAre withoutI endI rupFaceS chkFaceS faultI
set_option linter.unusedVariables false
set_option linter.unusedSimpArgs false

/-- How a check ends: with a place, or with a fault that is thrown. -/
def Ended (p c : Int) (e : Ending) : Prop := (c = 0 ∧ e = .returned (.int .i64 p)) ∨ (c ≠ 0 ∧ e = .panicked [{ v := faultW c p, recovered := false }])
set_option maxHeartbeats 3200000 in
set_option maxRecDepth 8000 in
theorem do_chk (N1 N2 : Nat) (vars : Int) (a : Option Addr) (len cap : Nat) (zss : List (List Int)) (b : Option Addr) (bl bc : Nat) (ss : List St) (w : World) (hr : IntRows w a len zss) (hb : StepRow w b bl ss) (c0 : w.cell? ⟨N1, 0, none⟩ = some (.int .i64 vars)) (c1 : w.cell? ⟨N1, 1, none⟩ = some (.slice a len cap)) (c2 : w.cell? ⟨N2, 0, none⟩ = some (.slice b bl bc)) (ht : Tab w) :
    Calls Tryz.prog 26 #[.pointer (some ⟨N2, 0, none⟩), .pointer (some ⟨N1, 0, none⟩)] w fun e w' => ∃ p c : Int, ChkAns vars zss ss p c ∧ Ended p c e ∧ Below w.heap.size w w' := by
  have hmost := hb.most
  unfold maxLen at hmost
  have HRo := hid hr
  have HBr := hid hb
  have hlb := hb.length
  have hlr := hr.length
  have HTb := hid ht
  have HCo := hid (fun (W : World) (hbw : Below w.heap.size w W) => cnfOK_impl vars a len cap zss W (hr.below hbw))
  clear hr hb ht
  by_cases h1 : 4096 < bl
  · have HA : Hid (ChkAns vars zss ss 0 2) := hid ⟨fun _ => ⟨rfl, rfl⟩, fun h => absurd (by omega) h, fun h => absurd (by omega) h⟩
    have d1 : decide ((bl : Int) ≤ 4096) = false := decide_eq_false (by omega)
    clear hlb hlr
    go_enter Tryz.func26, Tryz.ntmps26
    go_wp2_with fail
    refine (must_not 2 _).mono ?_
    rintro e w1 ⟨rfl, rfl⟩
    go_wp2
    exact ⟨rfl, 0, 2, HA.out, .inr ⟨by decide, rfl⟩, (by repeat (first | exact Below.refl _ _ | assumption | refine Below.drew ?_ | refine Below.alloc ?_ (by first | exact Nat.le_refl _ | omega | (simp; done) | (simp; omega)) _ | refine Below.setCell ?_ (by first | exact Nat.le_refl _ | omega | (simp; done) | (simp; omega)) _))⟩
  · have d1 : decide ((bl : Int) ≤ 4096) = true := decide_eq_true (by omega)
    cases hck : cnfB vars zss with
    | false =>
      have HA : Hid (ChkAns vars zss ss 0 1) := hid ⟨fun h => absurd h (by omega), fun _ _ => ⟨rfl, rfl⟩, fun _ h => (by rw [hck] at h; cases h)⟩
      rw [hck] at HCo
      clear hlb hlr hck
      go_enter Tryz.func26, Tryz.ntmps26
      go_wp2_with fail
      refine (must_so 2 _).mono ?_
      rintro e w1 ⟨rfl, hw1⟩
      have hw1 := hw1.symm
      subst hw1
      go_wp2_with fail
      refine (HCo.out _ (by repeat (first | exact Below.refl _ _ | assumption | refine Below.drew ?_ | refine Below.alloc ?_ (by first | exact Nat.le_refl _ | omega | (simp; done) | (simp; omega)) _ | refine Below.setCell ?_ (by first | exact Nat.le_refl _ | omega | (simp; done) | (simp; omega)) _))).mono ?_
      rintro e w1 ⟨rfl, hb1⟩
      have H1 := hid ((show Below w.heap.size w _ from (by repeat (first | exact Below.refl _ _ | assumption | refine Below.drew ?_ | refine Below.alloc ?_ (by first | exact Nat.le_refl _ | omega | (simp; done) | (simp; omega)) _ | refine Below.setCell ?_ (by first | exact Nat.le_refl _ | omega | (simp; done) | (simp; omega)) _))).trans (Below.mono hb1 (by first | exact Nat.le_refl _ | simp)))
      clear hb1
      go_wp2_with fail
      refine (must_not 1 _).mono ?_
      rintro e w2 ⟨rfl, rfl⟩
      go_wp2
      exact ⟨rfl, 0, 1, HA.out, .inr ⟨by decide, rfl⟩, H1.out⟩
    | true =>
      rw [hck] at HCo
      obtain ⟨hv0, hv1, hv2⟩ := cnf_vars hck
      obtain ⟨n, hn⟩ : ∃ n : Nat, vars = (n : Int) - 1 := ⟨(vars + 1).toNat, by omega⟩
      have HSt := hid (fun (W : World) (hbw : Below w.heap.size w W) => are_impl b bl bc ss vars W hv0 hv1 (HBr.out.below hbw))
      cases hst : stepsB vars ss with
      | false =>
        have HA : Hid (ChkAns vars zss ss 0 1) := hid ⟨fun h => absurd h (by omega), fun _ _ => ⟨rfl, rfl⟩, fun _ h => (by rw [hck, hst] at h; cases h)⟩
        rw [hst] at HSt
        clear hlb hlr hck hst hn
        go_enter Tryz.func26, Tryz.ntmps26
        go_wp2_with fail
        refine (must_so 2 _).mono ?_
        rintro e w1 ⟨rfl, hw1⟩
        have hw1 := hw1.symm
        subst hw1
        go_wp2_with fail
        refine (HCo.out _ (by repeat (first | exact Below.refl _ _ | assumption | refine Below.drew ?_ | refine Below.alloc ?_ (by first | exact Nat.le_refl _ | omega | (simp; done) | (simp; omega)) _ | refine Below.setCell ?_ (by first | exact Nat.le_refl _ | omega | (simp; done) | (simp; omega)) _))).mono ?_
        rintro e w1 ⟨rfl, hb1⟩
        have f0 := keep hb1 c0
        have f2 := keep hb1 c2
        have H1 := hid ((show Below w.heap.size w _ from (by repeat (first | exact Below.refl _ _ | assumption | refine Below.drew ?_ | refine Below.alloc ?_ (by first | exact Nat.le_refl _ | omega | (simp; done) | (simp; omega)) _ | refine Below.setCell ?_ (by first | exact Nat.le_refl _ | omega | (simp; done) | (simp; omega)) _))).trans (Below.mono hb1 (by first | exact Nat.le_refl _ | simp)))
        clear hb1
        go_wp2_with fail
        refine (HSt.out _ H1.out).mono ?_
        rintro e w2 ⟨rfl, hb2⟩
        have H2 := hid (H1.out.trans (hb2.mono H1.out.size))
        clear hb2
        go_wp2_with fail
        refine (must_not 1 _).mono ?_
        rintro e w3 ⟨rfl, rfl⟩
        go_wp2
        exact ⟨rfl, 0, 1, HA.out, .inr ⟨by decide, rfl⟩, H2.out⟩
      | true =>
        have hsn : stepsB ((n : Int) - 1) ss = true := by rw [← hn]; exact hst
        have hcn : cnfB ((n : Int) - 1) zss = true := by rw [← hn]; exact hck
        have HEn := hid (fun (W : World) (hbw : Below w.heap.size w W) => end_impl n a len cap zss b bl bc ss W (HRo.out.below hbw) (HBr.out.below hbw) (by omega) (short_cnf hcn) (by omega) (by have := (short_steps hsn).2; omega) (short_steps hsn).1 (tab_below HTb.out hbw))
        rw [← hn] at HEn
        have HA : Hid (∀ p c : Int, ChkR zss ss 0 p c → ChkAns vars zss ss p c) := hid (fun p c ht => ⟨fun h => absurd h (by omega), fun _ h => (by rw [hck, hst] at h; cases h), fun _ _ => ht⟩)
        rw [hst] at HSt
        clear hlb hlr hck hst hn hsn hcn
        go_enter Tryz.func26, Tryz.ntmps26
        go_wp2_with fail
        refine (must_so 2 _).mono ?_
        rintro e w1 ⟨rfl, hw1⟩
        have hw1 := hw1.symm
        subst hw1
        go_wp2_with fail
        refine (HCo.out _ (by repeat (first | exact Below.refl _ _ | assumption | refine Below.drew ?_ | refine Below.alloc ?_ (by first | exact Nat.le_refl _ | omega | (simp; done) | (simp; omega)) _ | refine Below.setCell ?_ (by first | exact Nat.le_refl _ | omega | (simp; done) | (simp; omega)) _))).mono ?_
        rintro e w1 ⟨rfl, hb1⟩
        have f0 := keep hb1 c0
        have f2 := keep hb1 c2
        have f1 := keep hb1 c1
        have H1 := hid ((show Below w.heap.size w _ from (by repeat (first | exact Below.refl _ _ | assumption | refine Below.drew ?_ | refine Below.alloc ?_ (by first | exact Nat.le_refl _ | omega | (simp; done) | (simp; omega)) _ | refine Below.setCell ?_ (by first | exact Nat.le_refl _ | omega | (simp; done) | (simp; omega)) _))).trans (Below.mono hb1 (by first | exact Nat.le_refl _ | simp)))
        clear hb1
        go_wp2_with fail
        refine (HSt.out _ H1.out).mono ?_
        rintro e w2 ⟨rfl, hb2⟩
        replace f0 := keep hb2 f0
        replace f1 := keep hb2 f1
        replace f2 := keep hb2 f2
        have H2 := hid (H1.out.trans (hb2.mono H1.out.size))
        clear hb2
        go_wp2_with fail
        refine (must_so 1 _).mono ?_
        rintro e w3 ⟨rfl, rfl⟩
        go_wp2_with fail
        refine (HEn.out _ H2.out).mono ?_
        rintro e w4 ⟨p, c, hc, he, hb4⟩
        have HB4 := hid (H2.out.trans (hb4.mono H2.out.size))
        have HA4 := hid (HA.out p c hc)
        clear hc hb4
        rcases he with ⟨rfl, rfl⟩ | ⟨h0, rfl⟩
        · go_wp2
          go_ret
          exact ⟨p, 0, HA4.out, .inl ⟨rfl, rfl⟩, HB4.out⟩
        · have H0 := hid h0
          clear h0
          go_wp2
          exact ⟨rfl, p, c, HA4.out, .inr ⟨H0.out, rfl⟩, HB4.out⟩
theorem answer (N1 N2 : Nat) (vars : Int) (a : Option Addr) (len cap : Nat) (zss : List (List Int)) (b : Option Addr) (bl bc : Nat) (ss : List St) (w : World) (hr : IntRows w a len zss) (hb : StepRow w b bl ss) (c0 : w.cell? ⟨N1, 0, none⟩ = some (.int .i64 vars)) (c1 : w.cell? ⟨N1, 1, none⟩ = some (.slice a len cap)) (c2 : w.cell? ⟨N2, 0, none⟩ = some (.slice b bl bc)) (ht : Tab w) (he : ErrW w) :
    Calls Tryz.prog 25 #[.func (.func 26) #[] #[.pointer (some ⟨N2, 0, none⟩), .pointer (some ⟨N1, 0, none⟩)]] w fun e w' => ∃ p c : Int, ChkAns vars zss ss p c ∧ ((c = 0 ∧ e = .returned (.tuple #[.int .i64 p, .agg #[.int .i64 0, .int .i64 0]])) ∨ (c ≠ 0 ∧ e = .returned (.tuple #[.int .i64 0, .agg #[.int .i64 c, .int .i64 p]]))) ∧ Below w.heap.size w w' := by
  have hcf : ∀ w, (callFunc 26 #[.pointer (some ⟨N2, 0, none⟩), .pointer (some ⟨N1, 0, none⟩)]).run Tryz.prog w = .ok (.enter 26 #[.pointer (some ⟨N2, 0, none⟩), .pointer (some ⟨N1, 0, none⟩)]) w := fun w => enters_of Tryz.func26 (by kernel_rfl) rfl _ w
  have hb0 : Below w.heap.size w (w.alloc (.cells #[.int .i64 0, .int .i64 0] 53)) := (Below.refl _ _).alloc (Nat.le_refl _) _
  have hz : (w.alloc (.cells #[.int .i64 0, .int .i64 0] 53)).heap.size = w.heap.size + 1 := by simp
  have hd := do_chk N1 N2 vars a len cap zss b bl bc ss _ (hr.below hb0) (hb.below hb0) (keep hb0 c0) (keep hb0 c1) (keep hb0 c2) (tab_below ht hb0)
  rw [hz] at hd
  obtain ⟨p, c, hpc⟩ : ∃ p c, ChkAns vars zss ss p c := by
    obtain ⟨e, w', fr, ⟨p, c, h2, -⟩, -⟩ := hd []
    exact ⟨p, c, h2⟩
  by_cases hc : c = 0
  · subst hc
    refine (answerOf_ret 26 _ p w hcf ?_).mono ?_
    · rintro w0 rfl
      refine hd.mono ?_
      rintro e w' ⟨p', c', h1, h2, h3⟩
      obtain ⟨rfl, rfl⟩ := hpc.uniq h1
      rcases h2 with ⟨_, rfl⟩ | ⟨h2, _⟩
      · exact ⟨rfl, h3⟩
      · exact absurd rfl h2
    · rintro e w' ⟨rfl, hb9⟩
      exact ⟨p, 0, hpc, .inl ⟨rfl, rfl⟩, hb9⟩
  · refine (answerOf_fault 26 _ c p w he hcf ?_).mono ?_
    · rintro w0 rfl
      refine hd.mono ?_
      rintro e w' ⟨p', c', h1, h2, h3⟩
      obtain ⟨rfl, rfl⟩ := hpc.uniq h1
      rcases h2 with ⟨h2, _⟩ | ⟨_, rfl⟩
      · exact absurd h2 hc
      · exact ⟨rfl, h3⟩
    · rintro e w' ⟨rfl, hb9⟩
      exact ⟨p, c, hpc, .inr ⟨hc, rfl⟩, hb9⟩
set_option maxHeartbeats 1600000 in
set_option maxRecDepth 8000 in
theorem chk_face (vars : Int) (a : Option Addr) (len cap : Nat) (zss : List (List Int)) (b : Option Addr) (bl bc : Nat) (ss : List St) (w : World) (hr : IntRows w a len zss) (hb : StepRow w b bl ss) (ht : Tab w) (he : ErrW w) :
    Calls Tryz.prog 10 #[.agg #[.int .i64 vars, .slice a len cap], .slice b bl bc] w fun e w' => ∃ p c : Int, e = .returned (.tuple #[.int .i64 p, .int .i64 c]) ∧ ChkAns vars zss ss p c ∧ Below w.heap.size w w' := by
  have hmf : ∀ (fn : Fn) (first cap : Array Value) (w : World), (Instr.makeFunc fn first cap).run Tryz.prog w = .ok (.func fn first cap) w := fun _ _ _ _ => rfl
  have HA := hid (fun N1 N2 W (hW : Below w.heap.size w W) c0 c1 c2 => answer N1 N2 vars a len cap zss b bl bc ss W (hr.below hW) (hb.below hW) c0 c1 c2 (tab_below ht hW) (he.below hW))
  clear hr hb ht he
  go_enter Tryz.func10, Tryz.ntmps10
  go_wp2_with fail
  refine (HA.out _ _ _ (by repeat (first | exact Below.refl _ _ | assumption | refine Below.drew ?_ | refine Below.alloc ?_ (by first | exact Nat.le_refl _ | omega | (simp; done) | (simp; omega)) _ | refine Below.setCell ?_ (by first | exact Nat.le_refl _ | omega | (simp; done) | (simp; omega)) _)) ?_ ?_ ?_).mono ?_
  · simp [go_sem]
  · simp [go_sem]
  · simp [go_sem]
  rintro e w1 ⟨p, c, hra, he, hb1⟩
  have HRa := hid hra
  have HB := hid ((show Below w.heap.size w _ from (by repeat (first | exact Below.refl _ _ | assumption | refine Below.drew ?_ | refine Below.alloc ?_ (by first | exact Nat.le_refl _ | omega | (simp; done) | (simp; omega)) _ | refine Below.setCell ?_ (by first | exact Nat.le_refl _ | omega | (simp; done) | (simp; omega)) _))).trans (hb1.mono (by first | (simp; done) | (simp; omega))))
  clear hra hb1
  rcases he with ⟨rfl, rfl⟩ | ⟨h0, rfl⟩
  · go_wp2
    go_ret2
    exact ⟨p, 0, rfl, HRa.out, Below.alloc HB.out HB.out.size _⟩
  · have hne : (c != 0) = true := by simp [h0]
    clear h0
    go_wp2
    go_quiet (fail)
    go_wp2
    go_ret2
    have hb9 := Below.alloc HB.out HB.out.size (.cells #[.int .i64 c, .int .i64 p] 53)
    refine ⟨p, c, rfl, HRa.out, ?_⟩
    exact below_drewN hb9 nq
end Go.Proofs.YtolejaegnkcjjaaGreatDoor.chkFaceI

/- A copied formula's rows are its own and lie apart; sizes of formulas told by their sums; conditions: lengths that fit. -/
namespace Go.Proofs.YtolejaegnkcjjaaGreatDoor.copyOwn
open Go.RowKit Go.Deep base copy cnf rowsOwn
set_option linter.unusedVariables false

theorem own_lt {B g : Nat} {w : World} {v : Value} {zs : List Int} (h : OwnInts B w v zs) (hg : v.ownBlock = some g) : B ≤ g ∧ g < w.heap.size := World.ownsRow.lt h g hg
def copiedPs (N : Nat) (zss : List (List Int)) : List (Value × List Int) := (List.range zss.length).map fun i => (.slice (some ⟨N + 1 + i, 0, none⟩) (zss[i]?.getD []).length (zss[i]?.getD []).length, zss[i]?.getD [])
theorem at_le : ∀ {ls : List Nat} {i : Nat}, i < ls.length → ls[i]?.getD 0 ≤ ls.sum
  | [], i, h => absurd h (Nat.not_lt_zero _)
  | l :: ls, 0, _ => by simp
  | l :: ls, i + 1, h => by
    have := at_le (ls := ls) (i := i) (by simpa using h)
    rw [List.getElem?_cons_succ, List.sum_cons]
    omega
set_option maxHeartbeats 400000 in
theorem szRows_sum (a : Option Addr) (len cap : Nat) (zss : List (List Int)) (left : Int) (w : World) (hr : IntRows w a len zss) (h0 : 0 ≤ left) (h1 : left ≤ 1048576) :
    Calls Tryz.prog 18 #[.slice a len cap, .int .i64 left] w fun e w' => ∃ r : Int, e = .returned (.int .i64 r) ∧ w' = w ∧ -1 ≤ r ∧ r ≤ left ∧ (0 ≤ r → (len : Int) + ((zss.map List.length).sum : Nat) ≤ left) := by
  obtain ⟨hlen, hmost, hcell⟩ := hr
  unfold maxLen at hmost
  have HC := hid hcell
  obtain ⟨ls, hls⟩ : ∃ ls, zss.map List.length = ls := ⟨_, rfl⟩
  rw [hls]
  have HLs := hid hls
  have HLn : Hid (ls.length = len) := by
    show _ = _
    rw [← hls, List.length_map, hlen]
  clear hcell hlen hls
  by_cases h : left < (len : Int)
  · go_enter Tryz.func18, Tryz.ntmps18
    go_wp2
    go_ret
    exact ⟨_, rfl, rfl, by omega, by omega, by omega⟩
  · go_enter Tryz.func18, Tryz.ntmps18
    go_wp2
    go_loop [5, 1] (fun i t => ∃ (k s : Nat) (l : Int), k ≤ len ∧ i = .int .i64 k ∧ t = .int .i64 l ∧ 0 ≤ l ∧ l + len + s ≤ left ∧ s = (ls.take k).sum) (fun i _ => len - (intOf i).toNat)
    case atStart => exact ⟨0, 0, left - len, Nat.zero_le _, rfl, rfl, by omega, by omega, by simp⟩
    case round =>
      obtain ⟨k, s, l, hk, rfl, rfl, hl0, hl1, hs⟩ := hrel
      have HS := hid hs
      clear hs
      by_cases hlt : k < len
      · obtain ⟨b, off, rfl, a', l', c', hc, hrow⟩ := HC.out k hlt
        have hlen' := hrow.length
        have hmost' := hrow.most
        have HL : Hid (ls[k]?.getD 0 = l') := by
          show _ = _
          rw [← HLs.out, List.getElem?_map, ← hlen']
          cases zss[k]? <;> rfl
        have HSum := hid (sum_succ (ls := ls) (k := k) (by rw [HLn.out]; exact hlt))
        clear hlen' hrow
        by_cases hs : l < (l' : Int)
        · go_wp2_with (go_at_call 42; refine (szIntS _ _ _ _ _ hmost' hl0 (by omega)).mono ?_; rintro e w' ⟨rfl, rfl⟩)
          go_ret
          exact ⟨_, rfl, rfl, by omega, by omega, by omega⟩
        · go_wp2_with (go_at_call 42; refine (szIntS _ _ _ _ _ hmost' hl0 (by omega)).mono ?_; rintro e w' ⟨rfl, rfl⟩)
          go_round
          case rel => exact ⟨k + 1, s + l', l - l', by omega, by go_num, by rw [if_neg (by omega)], by omega, by omega, by rw [HSum.out, ← HS.out, HL.out]⟩
          case measure => simp [intOf]; omega
      · have e : k = len := by omega
        subst e
        have HE : Hid (s = ls.sum) := by
          show _ = _
          rw [HS.out, List.take_of_length_le (by rw [HLn.out]; omega)]
        go_wp2
        go_ret
        refine ⟨l, rfl, rfl, by omega, by omega, fun _ => ?_⟩
        have := HE.out
        omega

set_option maxHeartbeats 400000 in
theorem szCnf_sum (vars : Int) (a : Option Addr) (len cap : Nat) (zss : List (List Int)) (left : Int) (w : World) (hr : IntRows w a len zss) (h0 : 0 ≤ left) (h1 : left ≤ 1048576) :
    Calls Tryz.prog 5 #[.agg #[.int .i64 vars, .slice a len cap], .int .i64 left] w fun e w' => ∃ r : Int, e = .returned (.int .i64 r) ∧ Below w.heap.size w w' ∧ -1 ≤ r ∧ r ≤ left ∧ (0 ≤ r → (len : Int) + ((zss.map List.length).sum : Nat) ≤ left) := by
  go_enter Tryz.func5, Tryz.ntmps5
  go_wp2_with fail
  refine (szRows_sum a len cap zss left _ ?_ h0 h1).mono ?_
  · exact hr.below (by repeat (first | exact Below.refl _ _ | assumption | refine Below.drew ?_ | refine Below.alloc ?_ (by first | exact Nat.le_refl _ | omega | (simp; done) | (simp; omega)) _ | refine Below.setCell ?_ (by first | exact Nat.le_refl _ | omega | (simp; done) | (simp; omega)) _))
  rintro e w1 ⟨r, rfl, rfl, hr1, hr2, hr3⟩
  have H3 := hid hr3
  clear hr3
  go_wp2
  · go_ret
    exact ⟨_, rfl, (by repeat (first | exact Below.refl _ _ | assumption | refine Below.drew ?_ | refine Below.alloc ?_ (by first | exact Nat.le_refl _ | omega | (simp; done) | (simp; omega)) _ | refine Below.setCell ?_ (by first | exact Nat.le_refl _ | omega | (simp; done) | (simp; omega)) _)), by omega, by omega, by omega⟩
  · go_ret
    exact ⟨r, rfl, (by repeat (first | exact Below.refl _ _ | assumption | refine Below.drew ?_ | refine Below.alloc ?_ (by first | exact Nat.le_refl _ | omega | (simp; done) | (simp; omega)) _ | refine Below.setCell ?_ (by first | exact Nat.le_refl _ | omega | (simp; done) | (simp; omega)) _)), by omega, by omega, H3.out⟩
theorem copied_lt {N : Nat} {w : World} {zss : List (List Int)} (h : Copied w N zss) : ∀ u ∈ (copiedPs N zss).map Prod.fst, ∀ g, u.ownBlock = some g → g < w.heap.size := fun u hu g hg => by
  obtain ⟨p, hp, rfl⟩ := List.mem_map.1 hu
  unfold copiedPs at hp
  obtain ⟨i, hir, rfl⟩ := List.mem_map.1 hp
  have hil : i < zss.length := List.mem_range.1 hir
  obtain ⟨c, hh, _⟩ := h.inner i hil
  have e : some (N + 1 + i) = some g := hg
  injection e with e
  rw [← e]
  exact (Array.getElem?_eq_some_iff.1 hh).1
end Go.Proofs.YtolejaegnkcjjaaGreatDoor.copyOwn

/- From the form's readings of arguments to the rows that the contracts speak of; of no program; conditions: none. -/
namespace Go.Proofs.YtolejaegnkcjjaaGreatDoor.args
open Go.ChangeShapes Go.WideShapes Go.ChangeAt Go.RowKit Go.Deep Go.Joins base

variable {H : Type} {enc : TypeId × Value → H} {P : Program} {w : World} {base : Nat} {held : Bool}

theorem getD_take {α : Type} {zs : List α} {d : α} {n i : Nat} (h : i < n) : (zs.take n)[i]?.getD d = zs[i]?.getD d := by
  rw [List.getElem?_take, if_pos h]
theorem at_none {x : Addr} {i : Nat} {v v0 : Value} (h0 : w.cell? (x.add 0) = some v0) (h : w.cell? (x.add i) = some v) : x = ⟨x.block, x.off, none⟩ ∧ w.cell? ⟨x.block, x.off + i, none⟩ = some v := by
  have hs := World.cell?_spot h0
  obtain ⟨b, o, s⟩ := x
  have hs' : s = none := by simpa [Addr.add] using hs
  subst hs'
  refine ⟨rfl, ?_⟩
  by_cases e : i = 0
  · subst e; simpa [Addr.add] using h
  · simpa [Addr.add, e] using h

theorem int_of_trod {e : TypeId} {k : IntKind} {fuel : Nat} {v : Value} {x : DataW H × List MemPlace} (he : P.underlying e = some (.int k)) (h : DataW.trod enc P w base (fun _ => true) held fuel e [v] = some x) :
    ∃ n, v = .int k n ∧ (Lit.int k n).wf = true := by
  obtain ⟨n, e0, _, hw⟩ := DataW.trod_int he h
  exact ⟨n, by simpa using e0, hw⟩

theorem row_of_trod {t e : TypeId} {fuel : Nat} {v : Value} {x : DataW H × List MemPlace} (ht : P.underlying t = some (.slice e)) (he : P.underlying e = some (.int .i64)) (ce : P.cellsOf e = 1)
    (h : DataW.trod enc P w base (fun _ => true) held fuel t [v] = some x) : ∃ a len cap zs, v = .slice a len cap ∧ IntRow w a len zs ∧ ∀ n ∈ zs, (Lit.int .i64 n).wf = true := by
  rcases open_ints ht he ce h with ⟨hcs, _⟩ | ⟨x, l, c, zs, hcs, _, hl, hm, hz, _, hcell, hwz⟩
  · exact ⟨none, 0, 0, [], by simpa using hcs, ⟨rfl, Nat.zero_le _, fun i hi => absurd hi (Nat.not_lt_zero _)⟩, by simp⟩
  · simp only [if_true] at hz
    refine ⟨some x, l, c, zs.take l, by simpa using hcs, ⟨by simp [hz, hl], Nat.le_trans hl hm, fun i hi => ?_⟩, fun n hn => hwz n (List.mem_of_mem_take hn)⟩
    obtain ⟨e1, e2⟩ := at_none (hcell 0 (by omega)) (hcell i (by omega))
    exact ⟨x.block, x.off, by rw [← e1], by rw [e2, getD_take hi, List.getD_eq_getElem?_getD]⟩

theorem rows_of_trod {t e q : TypeId} {fuel : Nat} {v : Value} {x : DataW H × List MemPlace} (ht : P.underlying t = some (.slice e)) (he : P.underlying e = some (.slice q)) (hq : P.underlying q = some (.int .i64)) (ce : P.cellsOf e = 1) (cq : P.cellsOf q = 1)
    (h : DataW.trod enc P w base (fun _ => true) held fuel t [v] = some x) : ∃ a len cap zss, v = .slice a len cap ∧ IntRows w a len zss ∧ ∀ zs ∈ zss, ∀ n ∈ zs, (Lit.int .i64 n).wf = true := by
  rcases open_slice1 ht ce h with ⟨hcs, _⟩ | ⟨a, len, cap, m, n, V, D, Pl, hcs, hb, hl, hm, hmm, rfl, hx⟩
  · exact ⟨none, 0, 0, [], by simpa using hcs, ⟨rfl, Nat.zero_le _, fun i hi => absurd hi (Nat.not_lt_zero _)⟩, by simp⟩
  · simp only [if_true] at hmm
    subst hmm
    have each : ∀ i, i < m → ∃ zs : List Int, ∃ a' l' c', V i = .slice a' l' c' ∧ IntRow w a' l' zs ∧ ∀ n ∈ zs, (Lit.int .i64 n).wf = true := fun i hi => by
      obtain ⟨a', l', c', zs, e0, h1, h2⟩ := row_of_trod he hq cq (hx i hi).2
      exact ⟨zs, a', l', c', e0, h1, h2⟩
    obtain ⟨f, hf⟩ := choose_lt each
    refine ⟨some a, len, m, (List.range len).map f, by simpa using hcs, ⟨by simp, Nat.le_trans hl hm, fun i hi => ?_⟩, ?_⟩
    · obtain ⟨a', l', c', e0, h1, _⟩ := hf i (by omega)
      obtain ⟨e1, e2⟩ := at_none (hx 0 (by omega)).1 (hx i (by omega)).1
      refine ⟨a.block, a.off, by rw [← e1], a', l', c', by rw [e2, e0], ?_⟩
      simpa [hi] using h1
    · intro zs hz
      obtain ⟨i, hi, rfl⟩ := List.mem_map.1 hz
      obtain ⟨_, _, _, _, _, h2⟩ := hf i (by have := List.mem_range.1 hi; omega)
      exact h2
end Go.Proofs.YtolejaegnkcjjaaGreatDoor.args
