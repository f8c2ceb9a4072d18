/- ImpFace; CopyOwn; Args: one text, so that the claim has fewer files. -/
import Derived.Test.YtbahjpheaaiamaaDoorPart41
import Derived.Test.YtbahjpheaaiamaaDoorPart42
import Derived.Test.YtbahjpheaaiamaaDoorPart47
import Derived.Test.YtbahjpheaaiamaaDoorRowsOwn
import Derived.Test.YtbahjpheaaiamaaDoorPart2
import Derived.Test.YtbahjpheaaiamaaDoorPart1
import Derived.ProofKit
import Derived.OpenShut
import Derived.ShutString
import Derived.ChangeOld
import Derived.Lib.SmallJoins
import Derived.Deep.Slices
/- Implied of the program and of the specification: one answer, whatever the formula and the clause; conditions: lengths that fit, the table of math/bits as it is laid. -/
namespace Go.Proofs.YtbahjpheaaiamaaDoor.impFace
open Go.RowKit Go.Deep Go base copy cnf sets setsOf rowsOwn solSets solOps solMath solHold solMem solClose cdState impSpec impMath impIff impImpl solStart solBig
open rupSpec (LitsIn)
open rupFaceS (cnf_in clause_in)
set_option linter.unusedVariables false
set_option linter.unusedSimpArgs false

structure ImpAns (vars : Int) (zss : List (List Int)) (zs : List Int) (t : Bool) (c : Int) : Prop where
  code : c = impCode vars zss zs
  no : c ≠ 0 → t = false
  yes : c = 0 → (t = true ↔ impM vars.toNat zss zs)
theorem ImpAns.uniq {vars : Int} {zss : List (List Int)} {zs : List Int} {t t' : Bool} {c c' : Int} (h : ImpAns vars zss zs t c) (k : ImpAns vars zss zs t' c') : t = t' ∧ c = c' := by
  have e : c = c' := h.code.trans k.code.symm
  refine ⟨?_, e⟩
  by_cases h0 : c = 0
  · have h1 := h.yes h0
    have h2 := k.yes (by rw [← e]; exact h0)
    rw [Bool.eq_iff_iff, h1, h2]
  · rw [h.no h0, k.no (by rw [← e]; exact h0)]
theorem code_ok {vars : Int} {zss : List (List Int)} {zs : List Int} (hc : impCode vars zss zs = 0) : zs.length ≤ 4096 ∧ cnfB vars zss = true ∧ clauseB vars zs = true := by
  unfold impCode at hc
  by_cases h1 : 4096 < zs.length
  · rw [if_pos h1] at hc; cases hc
  · rw [if_neg h1] at hc
    cases h2 : cnfB vars zss <;> cases h3 : clauseB vars zs <;> simp [h2, h3] at hc <;> exact ⟨by omega, rfl, rfl⟩
theorem imp_impl' (vars : Int) (a : Option Addr) (len cap : Nat) (zss : List (List Int)) (b : Option Addr) (bl bc : Nat) (zs : List Int) (w : World) (hr : IntRows w a len zss) (hb : IntRow w b bl zs) (ht : Tab w) :
    Calls Tryd.prog 16 #[.agg #[.int .i64 vars, .slice a len cap], .slice b bl bc] w fun e w' => ∃ (t : Bool) (c : Int), e = .returned (.tuple #[.bool t, .int .i64 c]) ∧ ImpAns vars zss zs t c ∧ Below w.heap.size w w' := by
  by_cases hc : impCode vars zss zs = 0
  · obtain ⟨h1, h2, h3⟩ := code_ok hc
    obtain ⟨v0, v1, v2⟩ := rupFaceS.cnf_vars h2
    obtain ⟨n, rfl⟩ := Int.eq_ofNat_of_zero_le v0
    have hl : LitsIn (n + 1) zss := cnf_in (by simpa using h2)
    have hz : ∀ z ∈ zs, z ≠ 0 ∧ z.natAbs < n + 1 := clause_in (by simpa using h3)
    refine (implied_impl n a len cap zss b bl bc zs w hr hb ht hc (fun hcs M mb F V W hs hv => ?_)).mono ?_
    · have hw := wf_lits (n := n) (by omega) hz
      refine start_solve_big n (by omega) zss _ hl (solSets.wf_turn hw) (fun l h9 => ?_) (by omega) M mb F V W hs hv
      have hr := (solSets.wf_turn hw).range h9
      rw [mem_turn hr.1] at h9
      rw [mem_turn (by omega)]
      exact hcs _ h9
    · rintro e w' ⟨t, rfl, h4, h5⟩
      exact ⟨t, 0, rfl, ⟨hc.symm, fun h => absurd rfl h, fun _ => by rw [h4]; rfl⟩, h5⟩
  · refine (implied_bad vars a len cap zss b bl bc zs w hr hb hc).mono ?_
    rintro e w' ⟨rfl, h5⟩
    exact ⟨false, _, rfl, ⟨rfl, fun _ => rfl, fun h => absurd h hc⟩, h5⟩
theorem implied_sbad (vars : Int) (a : Option Addr) (len cap : Nat) (zss : List (List Int)) (b : Option Addr) (bl bc : Nat) (zs : List Int) (w : World) (hr : IntRows w a len zss) (hb : IntRow w b bl zs) (hc : impCode vars zss zs ≠ 0) :
    Calls Tryd.prog 14 #[.agg #[.int .i64 vars, .slice a len cap], .slice b bl bc] w fun e w' => e = .returned (.tuple #[.bool false, .int .i64 (impCode vars zss zs)]) ∧ Below w.heap.size w w' := by
  have hmost := hb.most
  unfold maxLen at hmost
  have hlb := hb.length
  have HCo := hid (fun (W : World) (hbw : Below w.heap.size w W) => cnfOK_spec vars a len cap zss W (hr.below hbw))
  have HBr := hid hb
  clear hr hb
  by_cases h1 : 4096 < bl
  · have HC : Hid (impCode vars zss zs = 2) := hid (by unfold impCode; rw [if_pos (by omega)])
    have d1 : (4096 : Int) < (bl : Int) := by omega
    clear hlb hc
    go_enter Tryd.func14, Tryd.ntmps14
    go_wp2
    go_ret2
    exact ⟨by rw [HC.out]; rfl, (by repeat (first | exact Below.refl _ _ | assumption | refine Below.drew ?_ | refine Below.alloc ?_ (by first | exact Nat.le_refl _ | omega | (simp; done) | (simp; omega)) _ | refine Below.setCell ?_ (by first | exact Nat.le_refl _ | omega | (simp; done) | (simp; omega)) _))⟩
  · have d1 : ¬ (4096 : Int) < (bl : Int) := by omega
    cases hck : cnfB vars zss with
    | false =>
      have HC : Hid (impCode vars zss zs = 1) := hid (by unfold impCode; rw [if_neg (by omega), if_pos (by rw [hck]; rfl)])
      rw [hck] at HCo
      clear hlb hck hc
      go_enter Tryd.func14, Tryd.ntmps14
      go_wp2_with fail
      refine (HCo.out _ (by repeat (first | exact Below.refl _ _ | assumption | refine Below.drew ?_ | refine Below.alloc ?_ (by first | exact Nat.le_refl _ | omega | (simp; done) | (simp; omega)) _ | refine Below.setCell ?_ (by first | exact Nat.le_refl _ | omega | (simp; done) | (simp; omega)) _))).mono ?_
      rintro e w2 ⟨rfl, hb2⟩
      have H2 := hid ((show Below w.heap.size w _ from (by repeat (first | exact Below.refl _ _ | assumption | refine Below.drew ?_ | refine Below.alloc ?_ (by first | exact Nat.le_refl _ | omega | (simp; done) | (simp; omega)) _ | refine Below.setCell ?_ (by first | exact Nat.le_refl _ | omega | (simp; done) | (simp; omega)) _))).trans (Below.mono hb2 (by simp)))
      clear hb2
      go_wp2
      go_ret2
      exact ⟨by rw [HC.out]; rfl, H2.out⟩
    | true =>
      rw [hck] at HCo
      obtain ⟨hv0, hv1, hv2⟩ := rupFaceS.cnf_vars hck
      have HCl := hid (fun (W : World) (hbw : Below w.heap.size w W) => clause_spec b bl bc zs vars W hv0 hv1 (HBr.out.below hbw))
      cases hcl : clauseB vars zs with
      | true => exact absurd (by unfold impCode; rw [if_neg (by omega), if_neg (by rw [hck, hcl]; decide)]) hc
      | false =>
        have HC : Hid (impCode vars zss zs = 1) := hid (by unfold impCode; rw [if_neg (by omega), if_pos (by rw [hck, hcl]; rfl)])
        rw [hcl] at HCl
        clear hlb hck hcl hc
        go_enter Tryd.func14, Tryd.ntmps14
        go_wp2_with fail
        refine (HCo.out _ (by repeat (first | exact Below.refl _ _ | assumption | refine Below.drew ?_ | refine Below.alloc ?_ (by first | exact Nat.le_refl _ | omega | (simp; done) | (simp; omega)) _ | refine Below.setCell ?_ (by first | exact Nat.le_refl _ | omega | (simp; done) | (simp; omega)) _))).mono ?_
        rintro e w2 ⟨rfl, hb2⟩
        have f0 := keep hb2 (show (w.alloc (.cells #[.int .i64 vars, .slice a len cap] 29)).cell? ⟨w.heap.size, 0, none⟩ = some (.int .i64 vars) by simp [go_sem])
        have H2 := hid ((show Below w.heap.size w _ from (by repeat (first | exact Below.refl _ _ | assumption | refine Below.drew ?_ | refine Below.alloc ?_ (by first | exact Nat.le_refl _ | omega | (simp; done) | (simp; omega)) _ | refine Below.setCell ?_ (by first | exact Nat.le_refl _ | omega | (simp; done) | (simp; omega)) _))).trans (Below.mono hb2 (by simp)))
        clear hb2
        go_wp2_with fail
        refine (HCl.out _ H2.out).mono ?_
        rintro e w3 ⟨rfl, rfl⟩
        go_wp2
        go_ret2
        exact ⟨by rw [HC.out]; rfl, H2.out⟩
theorem imp_spec' (B : Nat) (vars : Int) (a : Option Addr) (len cap : Nat) (ps : List (Value × List Int)) (zss : List (List Int)) (hps : ps.map (·.2) = zss) (b : Option Addr) (bl bc : Nat) (zs : List Int) (w : World) (ho : OwnRows B w (.slice a len cap) ps) (hb : IntRow w b bl zs) :
    Calls Tryd.prog 14 #[.agg #[.int .i64 vars, .slice a len cap], .slice b bl bc] w fun e w' => ∃ (t : Bool) (c : Int), e = .returned (.tuple #[.bool t, .int .i64 c]) ∧ ImpAns vars zss zs t c ∧ Below w.heap.size w w' := by
  by_cases hc : impCode vars zss zs = 0
  · obtain ⟨h1, h2, h3⟩ := code_ok hc
    obtain ⟨v0, v1, v2⟩ := rupFaceS.cnf_vars h2
    obtain ⟨n, rfl⟩ := Int.eq_ofNat_of_zero_le v0
    have hl : LitsIn (n + 1) zss := cnf_in (by simpa using h2)
    have hz : ∀ z ∈ zs, z ≠ 0 ∧ z.natAbs < n + 1 := clause_in (by simpa using h3)
    refine (implied_spec B n a len cap ps zss hps b bl bc zs w ho hb h2 h3 (by omega) (by rw [← hb.length]; exact h1)).mono ?_
    rintro e w' ⟨t, rfl, h4, h5⟩
    exact ⟨t, 0, rfl, ⟨hc.symm, fun h => absurd rfl h, fun _ => by rw [h4]; exact impP_iff (by omega) hl hz⟩, h5⟩
  · refine (implied_sbad vars a len cap zss b bl bc zs w (by rw [← hps]; exact rows_of_own ho) hb hc).mono ?_
    rintro e w' ⟨rfl, h5⟩
    exact ⟨false, _, rfl, ⟨rfl, fun _ => rfl, fun h => absurd h hc⟩, h5⟩
end Go.Proofs.YtbahjpheaaiamaaDoor.impFace

/- A copied formula's rows are its own and lie apart; sizes of formulas told by their sums; conditions: lengths that fit. -/
namespace Go.Proofs.YtbahjpheaaiamaaDoor.copyOwn
open Go.RowKit Go.Deep base copy cnf rowsOwn
set_option linter.unusedVariables false

theorem own_lt {B g : Nat} {w : World} {v : Value} {zs : List Int} (h : OwnInts B w v zs) (hg : v.ownBlock = some g) : B ≤ g ∧ g < w.heap.size := World.ownsRow.lt h g hg
theorem own_of_row {B N len : Nat} {w : World} {zs : List Int} (h : w.rowIs N 3 len (fun i => .int .i64 (zs[i]?.getD 0))) (hl : zs.length = len) (hB : B ≤ N) (hm : len ≤ maxLen) : OwnInts B w (.slice (some ⟨N, 0, none⟩) len len) zs := by
  obtain ⟨c, hh, hs, hc⟩ := h
  subst hl
  refine ⟨by simp, .inr ⟨N, _, c, rfl, hB, hh, Nat.le_refl _, hm, by omega, ?_⟩⟩
  apply List.ext_getElem?
  intro i
  rw [List.getElem?_take, List.getElem?_map]
  split
  · rename_i hi
    have hi' : i < zs.length := by omega
    rw [Array.getElem?_toList, hc i hi']
    simp [List.getElem?_eq_getElem hi']
  · rename_i hi
    rw [List.getElem?_eq_none (by omega)]
    rfl
def copiedPs (N : Nat) (zss : List (List Int)) : List (Value × List Int) := (List.range zss.length).map fun i => (.slice (some ⟨N + 1 + i, 0, none⟩) (zss[i]?.getD []).length (zss[i]?.getD []).length, zss[i]?.getD [])
theorem copiedPs_snd (N : Nat) (zss : List (List Int)) : (copiedPs N zss).map (·.2) = zss := by
  unfold copiedPs
  rw [List.map_map]
  apply List.ext_getElem
  · simp
  · intro i h1 h2
    simp [List.getElem?_eq_getElem h2]
theorem copied_own {B N : Nat} {w : World} {zss : List (List Int)} (h : Copied w N zss) (hB : B ≤ N) (hm : zss.length ≤ maxLen) (hi : ∀ i, i < zss.length → (zss[i]?.getD []).length ≤ maxLen) :
    OwnRows B w (.slice (some ⟨N, 0, none⟩) zss.length zss.length) (copiedPs N zss) ∧ Lone (copiedPs N zss) := by
  have hlen : (copiedPs N zss).length = zss.length := by simp [copiedPs]
  refine ⟨⟨?_, fun p hp => ?_⟩, ?_⟩
  · obtain ⟨c, hh, hs, hc⟩ := h.outer
    refine ⟨by simp, .inr ⟨N, zss.length, c, by rw [hlen], hB, hh, by omega, hm, by omega, ?_⟩⟩
    apply List.ext_getElem?
    intro i
    rw [List.getElem?_take, List.getElem?_map, hlen]
    split
    · rename_i hi2
      have hi' : i < zss.length := by omega
      rw [Array.getElem?_toList, hc i hi']
      unfold copiedPs
      rw [List.getElem?_map, List.getElem?_range hi']
      rfl
    · rename_i hi2
      rw [List.getElem?_eq_none (by omega)]
      rfl
  · unfold copiedPs at hp
    obtain ⟨i, hir, rfl⟩ := List.mem_map.1 hp
    have hil : i < zss.length := List.mem_range.1 hir
    exact own_of_row (h.inner i hil) rfl (by omega) (hi i hil)
  · unfold Lone copiedPs
    rw [List.pairwise_map]
    refine List.pairwise_lt_range.imp fun {a b} hab g h1 h2 => ?_
    have e1 : some (N + 1 + a) = some g := h1
    have e2 : some (N + 1 + b) = some g := h2
    injection e1 with e1
    injection e2 with e2
    omega
theorem at_le : ∀ {ls : List Nat} {i : Nat}, i < ls.length → ls[i]?.getD 0 ≤ ls.sum
  | [], i, h => absurd h (Nat.not_lt_zero _)
  | l :: ls, 0, _ => by simp
  | l :: ls, i + 1, h => by
    have := at_le (ls := ls) (i := i) (by simpa using h)
    rw [List.getElem?_cons_succ, List.sum_cons]
    omega
set_option maxHeartbeats 400000 in
theorem szRows_sum (a : Option Addr) (len cap : Nat) (zss : List (List Int)) (left : Int) (w : World) (hr : IntRows w a len zss) (h0 : 0 ≤ left) (h1 : left ≤ 1048576) :
    Calls Tryd.prog 18 #[.slice a len cap, .int .i64 left] w fun e w' => ∃ r : Int, e = .returned (.int .i64 r) ∧ w' = w ∧ -1 ≤ r ∧ r ≤ left ∧ (0 ≤ r → (len : Int) + ((zss.map List.length).sum : Nat) ≤ left) := by
  obtain ⟨hlen, hmost, hcell⟩ := hr
  unfold maxLen at hmost
  have HC := hid hcell
  obtain ⟨ls, hls⟩ : ∃ ls, zss.map List.length = ls := ⟨_, rfl⟩
  rw [hls]
  have HLs := hid hls
  have HLn : Hid (ls.length = len) := by
    show _ = _
    rw [← hls, List.length_map, hlen]
  clear hcell hlen hls
  by_cases h : left < (len : Int)
  · go_enter Tryd.func18, Tryd.ntmps18
    go_wp2
    go_ret
    exact ⟨_, rfl, rfl, by omega, by omega, by omega⟩
  · go_enter Tryd.func18, Tryd.ntmps18
    go_wp2
    go_loop [5, 1] (fun i t => ∃ (k s : Nat) (l : Int), k ≤ len ∧ i = .int .i64 k ∧ t = .int .i64 l ∧ 0 ≤ l ∧ l + len + s ≤ left ∧ s = (ls.take k).sum) (fun i _ => len - (intOf i).toNat)
    case atStart => exact ⟨0, 0, left - len, Nat.zero_le _, rfl, rfl, by omega, by omega, by simp⟩
    case round =>
      obtain ⟨k, s, l, hk, rfl, rfl, hl0, hl1, hs⟩ := hrel
      have HS := hid hs
      clear hs
      by_cases hlt : k < len
      · obtain ⟨b, off, rfl, a', l', c', hc, hrow⟩ := HC.out k hlt
        have hlen' := hrow.length
        have hmost' := hrow.most
        have HL : Hid (ls[k]?.getD 0 = l') := by
          show _ = _
          rw [← HLs.out, List.getElem?_map, ← hlen']
          cases zss[k]? <;> rfl
        have HSum := hid (sum_succ (ls := ls) (k := k) (by rw [HLn.out]; exact hlt))
        clear hlen' hrow
        by_cases hs : l < (l' : Int)
        · go_wp2_with (go_at_call 35; refine (szIntS _ _ _ _ _ hmost' hl0 (by omega)).mono ?_; rintro e w' ⟨rfl, rfl⟩)
          go_ret
          exact ⟨_, rfl, rfl, by omega, by omega, by omega⟩
        · go_wp2_with (go_at_call 35; refine (szIntS _ _ _ _ _ hmost' hl0 (by omega)).mono ?_; rintro e w' ⟨rfl, rfl⟩)
          go_round
          case rel => exact ⟨k + 1, s + l', l - l', by omega, by go_num, by rw [if_neg (by omega)], by omega, by omega, by rw [HSum.out, ← HS.out, HL.out]⟩
          case measure => simp [intOf]; omega
      · have e : k = len := by omega
        subst e
        have HE : Hid (s = ls.sum) := by
          show _ = _
          rw [HS.out, List.take_of_length_le (by rw [HLn.out]; omega)]
        go_wp2
        go_ret
        refine ⟨l, rfl, rfl, by omega, by omega, fun _ => ?_⟩
        have := HE.out
        omega

set_option maxHeartbeats 400000 in
theorem szCnf_sum (vars : Int) (a : Option Addr) (len cap : Nat) (zss : List (List Int)) (left : Int) (w : World) (hr : IntRows w a len zss) (h0 : 0 ≤ left) (h1 : left ≤ 1048576) :
    Calls Tryd.prog 5 #[.agg #[.int .i64 vars, .slice a len cap], .int .i64 left] w fun e w' => ∃ r : Int, e = .returned (.int .i64 r) ∧ Below w.heap.size w w' ∧ -1 ≤ r ∧ r ≤ left ∧ (0 ≤ r → (len : Int) + ((zss.map List.length).sum : Nat) ≤ left) := by
  go_enter Tryd.func5, Tryd.ntmps5
  go_wp2_with fail
  refine (szRows_sum a len cap zss left _ ?_ h0 h1).mono ?_
  · exact hr.below (by repeat (first | exact Below.refl _ _ | assumption | refine Below.drew ?_ | refine Below.alloc ?_ (by first | exact Nat.le_refl _ | omega | (simp; done) | (simp; omega)) _ | refine Below.setCell ?_ (by first | exact Nat.le_refl _ | omega | (simp; done) | (simp; omega)) _))
  rintro e w1 ⟨r, rfl, rfl, hr1, hr2, hr3⟩
  have H3 := hid hr3
  clear hr3
  go_wp2
  · go_ret
    exact ⟨_, rfl, (by repeat (first | exact Below.refl _ _ | assumption | refine Below.drew ?_ | refine Below.alloc ?_ (by first | exact Nat.le_refl _ | omega | (simp; done) | (simp; omega)) _ | refine Below.setCell ?_ (by first | exact Nat.le_refl _ | omega | (simp; done) | (simp; omega)) _)), by omega, by omega, by omega⟩
  · go_ret
    exact ⟨r, rfl, (by repeat (first | exact Below.refl _ _ | assumption | refine Below.drew ?_ | refine Below.alloc ?_ (by first | exact Nat.le_refl _ | omega | (simp; done) | (simp; omega)) _ | refine Below.setCell ?_ (by first | exact Nat.le_refl _ | omega | (simp; done) | (simp; omega)) _)), by omega, by omega, H3.out⟩
theorem copied_lt {N : Nat} {w : World} {zss : List (List Int)} (h : Copied w N zss) : ∀ u ∈ (copiedPs N zss).map Prod.fst, ∀ g, u.ownBlock = some g → g < w.heap.size := fun u hu g hg => by
  obtain ⟨p, hp, rfl⟩ := List.mem_map.1 hu
  unfold copiedPs at hp
  obtain ⟨i, hir, rfl⟩ := List.mem_map.1 hp
  have hil : i < zss.length := List.mem_range.1 hir
  obtain ⟨c, hh, _⟩ := h.inner i hil
  have e : some (N + 1 + i) = some g := hg
  injection e with e
  rw [← e]
  exact (Array.getElem?_eq_some_iff.1 hh).1
end Go.Proofs.YtbahjpheaaiamaaDoor.copyOwn

/- From the form's readings of arguments to the rows that the contracts speak of; of no program; conditions: none. -/
namespace Go.Proofs.YtbahjpheaaiamaaDoor.args
open Go.ChangeShapes Go.WideShapes Go.ChangeAt Go.RowKit Go.Deep Go.Joins base

variable {H : Type} {enc : TypeId × Value → H} {P : Program} {w : World} {base : Nat} {held : Bool}

theorem getD_take {α : Type} {zs : List α} {d : α} {n i : Nat} (h : i < n) : (zs.take n)[i]?.getD d = zs[i]?.getD d := by
  rw [List.getElem?_take, if_pos h]
theorem at_none {x : Addr} {i : Nat} {v v0 : Value} (h0 : w.cell? (x.add 0) = some v0) (h : w.cell? (x.add i) = some v) : x = ⟨x.block, x.off, none⟩ ∧ w.cell? ⟨x.block, x.off + i, none⟩ = some v := by
  have hs := World.cell?_spot h0
  obtain ⟨b, o, s⟩ := x
  have hs' : s = none := by simpa [Addr.add] using hs
  subst hs'
  refine ⟨rfl, ?_⟩
  by_cases e : i = 0
  · subst e; simpa [Addr.add] using h
  · simpa [Addr.add, e] using h

theorem int_of_trod {e : TypeId} {k : IntKind} {fuel : Nat} {v : Value} {x : DataW H × List MemPlace} (he : P.underlying e = some (.int k)) (h : DataW.trod enc P w base (fun _ => true) held fuel e [v] = some x) :
    ∃ n, v = .int k n ∧ (Lit.int k n).wf = true := by
  obtain ⟨n, e0, _, hw⟩ := DataW.trod_int he h
  exact ⟨n, by simpa using e0, hw⟩

theorem row_of_trod {t e : TypeId} {fuel : Nat} {v : Value} {x : DataW H × List MemPlace} (ht : P.underlying t = some (.slice e)) (he : P.underlying e = some (.int .i64)) (ce : P.cellsOf e = 1)
    (h : DataW.trod enc P w base (fun _ => true) held fuel t [v] = some x) : ∃ a len cap zs, v = .slice a len cap ∧ IntRow w a len zs ∧ ∀ n ∈ zs, (Lit.int .i64 n).wf = true := by
  rcases open_ints ht he ce h with ⟨hcs, _⟩ | ⟨x, l, c, zs, hcs, _, hl, hm, hz, _, hcell, hwz⟩
  · exact ⟨none, 0, 0, [], by simpa using hcs, ⟨rfl, Nat.zero_le _, fun i hi => absurd hi (Nat.not_lt_zero _)⟩, by simp⟩
  · simp only [if_true] at hz
    refine ⟨some x, l, c, zs.take l, by simpa using hcs, ⟨by simp [hz, hl], Nat.le_trans hl hm, fun i hi => ?_⟩, fun n hn => hwz n (List.mem_of_mem_take hn)⟩
    obtain ⟨e1, e2⟩ := at_none (hcell 0 (by omega)) (hcell i (by omega))
    exact ⟨x.block, x.off, by rw [← e1], by rw [e2, getD_take hi, List.getD_eq_getElem?_getD]⟩

theorem rows_of_trod {t e q : TypeId} {fuel : Nat} {v : Value} {x : DataW H × List MemPlace} (ht : P.underlying t = some (.slice e)) (he : P.underlying e = some (.slice q)) (hq : P.underlying q = some (.int .i64)) (ce : P.cellsOf e = 1) (cq : P.cellsOf q = 1)
    (h : DataW.trod enc P w base (fun _ => true) held fuel t [v] = some x) : ∃ a len cap zss, v = .slice a len cap ∧ IntRows w a len zss ∧ ∀ zs ∈ zss, ∀ n ∈ zs, (Lit.int .i64 n).wf = true := by
  rcases open_slice1 ht ce h with ⟨hcs, _⟩ | ⟨a, len, cap, m, n, V, D, Pl, hcs, hb, hl, hm, hmm, rfl, hx⟩
  · exact ⟨none, 0, 0, [], by simpa using hcs, ⟨rfl, Nat.zero_le _, fun i hi => absurd hi (Nat.not_lt_zero _)⟩, by simp⟩
  · simp only [if_true] at hmm
    subst hmm
    have each : ∀ i, i < m → ∃ zs : List Int, ∃ a' l' c', V i = .slice a' l' c' ∧ IntRow w a' l' zs ∧ ∀ n ∈ zs, (Lit.int .i64 n).wf = true := fun i hi => by
      obtain ⟨a', l', c', zs, e0, h1, h2⟩ := row_of_trod he hq cq (hx i hi).2
      exact ⟨zs, a', l', c', e0, h1, h2⟩
    obtain ⟨f, hf⟩ := choose_lt each
    refine ⟨some a, len, m, (List.range len).map f, by simpa using hcs, ⟨by simp, Nat.le_trans hl hm, fun i hi => ?_⟩, ?_⟩
    · obtain ⟨a', l', c', e0, h1, _⟩ := hf i (by omega)
      obtain ⟨e1, e2⟩ := at_none (hx 0 (by omega)).1 (hx i (by omega)).1
      refine ⟨a.block, a.off, by rw [← e1], a', l', c', by rw [e2, e0], ?_⟩
      simpa [hi] using h1
    · intro zs hz
      obtain ⟨i, hi, rfl⟩ := List.mem_map.1 hz
      obtain ⟨_, _, _, _, _, h2⟩ := hf i (by have := List.mem_range.1 hi; omega)
      exact h2
end Go.Proofs.YtbahjpheaaiamaaDoor.args
