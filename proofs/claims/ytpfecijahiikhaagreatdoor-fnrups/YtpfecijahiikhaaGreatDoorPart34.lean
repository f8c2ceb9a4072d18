/- ChkNew; ChkMath; RupSpec: one text, so that the claim has fewer files. -/
import Derived.Test.YtpfecijahiikhaaGreatDoorPart32
import Derived.Test.YtpfecijahiikhaaGreatDoorSolPropI
import Derived.Test.YtpfecijahiikhaaGreatDoorSolTrail
import Derived.Test.YtpfecijahiikhaaGreatDoorPart13
import Derived.Test.YtpfecijahiikhaaGreatDoorRunS
/- A checker: a solver of clauses that has noted what is true by these alone (newChecker); conditions: clauses of at most 40 variables, lengths that fit, the table of math/bits as its initialiser lays it. -/
namespace Go.Proofs.YtpfecijahiikhaaGreatDoor.chkNew
open Go.RowKit Go.Deep Go.Maps Go base sets setsOf solSets solOps solMath solHold solProp solAdd solMem solAddI solNew solPropI solClose solTrail
set_option linter.unusedVariables false
set_option linter.unusedSimpArgs false

/-- A row of sets of literals. -/
structure LsRow (w : World) (a : Option Addr) (len : Nat) (cs : List LS) : Prop where
  length : cs.length = len
  cell : ∀ i, i < len → ∃ b, a = some ⟨b, 0, none⟩ ∧ w.cell? ⟨b, i * 2, none⟩ = some (.int .u64 (cs[i]?.getD (0, 0)).1) ∧ w.cell? ⟨b, i * 2 + 1, none⟩ = some (.int .u64 (cs[i]?.getD (0, 0)).2)
theorem LsRow.below {w w1 : World} {a : Option Addr} {len : Nat} {cs : List LS} (h : LsRow w a len cs) (hb : Below w.heap.size w w1) : LsRow w1 a len cs := ⟨h.length, fun i hi => by
  obtain ⟨b, e, h1, h2⟩ := h.cell i hi
  exact ⟨b, e, keep hb h1, keep hb h2⟩⟩
def chkS (n : Int) (cs : List LS) : Sv := propF (meas (newS n (0, 0) cs 0) + 1) (newS n (0, 0) cs 0)
theorem cons_zero : ∀ l, mem (0, 0) l = true → mem (0, 0) (-l) = false := fun l h => by rw [mem_zero] at h; cases h
theorem nil_rows (w : World) : IntRows w none 0 [] := ⟨rfl, Nat.zero_le _, fun i hi => absurd hi (Nat.not_lt_zero _)⟩
set_option maxHeartbeats 3200000 in
set_option maxRecDepth 8000 in
theorem chk_impl (n : Int) (a : Option Addr) (len cap : Nat) (cs : List LS) (w : World) (hr : LsRow w a len cs) (hlen : len ≤ 700000) (hw : ∀ c ∈ cs, Wf c) (ht : Tab w) :
    Calls Tryz.prog 19 #[.int .i64 n, .slice a len cap] w fun e w' => ∃ M mb F V, e = .returned (.pointer (some ⟨M, 0, none⟩)) ∧ Sol 0 M mb F V (chkS n cs) w' ∧ V 0 = nilV ∧ Below w.heap.size w w' ∧ w.heap.size ≤ M ∧ w.heap.size ≤ mb ∧ ∀ a g, blk 0 F V a = some g → w.heap.size ≤ g := by
  have HR := hid hr
  have HWf := hid hw
  have hlz := hr.length
  have HLz := hid hlz
  have HNw := hid (fun (W : World) (hb : Below w.heap.size w W) => new_impl n none 0 0 [] (0, 0) W (nil_rows W) (by omega) (fun zs hz => by cases hz) wf_zero cons_zero (tab_below ht hb))
  clear hr hw ht hlz
  go_enter Tryz.func19, Tryz.ntmps19
  go_wp2_with fail
  refine (HNw.out _ (by repeat (first | exact Below.refl _ _ | assumption | refine Below.drew ?_ | refine Below.alloc ?_ (by first | exact Nat.le_refl _ | omega | (simp; done) | (simp; omega)) _ | refine Below.setCell ?_ (by first | exact Nat.le_refl _ | omega | (simp; done) | (simp; omega)) _))).mono ?_
  rintro e w5 ⟨M, mb, F0, V0, rfl, hS0, hv0, hb5, hM, hmb, hge⟩
  have HS0 : Hid (Sol 0 M mb F0 V0 (newS n (0, 0) (cs.take 0) 0) w5) := hid (by rw [List.take_zero]; exact hS0)
  have HV00 := hid hv0
  have HB5 := hid ((show Below w.heap.size w _ from (by repeat (first | exact Below.refl _ _ | assumption | refine Below.drew ?_ | refine Below.alloc ?_ (by first | exact Nat.le_refl _ | omega | (simp; done) | (simp; omega)) _ | refine Below.setCell ?_ (by first | exact Nat.le_refl _ | omega | (simp; done) | (simp; omega)) _))).trans (hb5.mono (by first | exact Nat.le_refl _ | simp)))
  have HGe0 := hid hge
  have HMb : Hid (w.heap.size ≤ M ∧ w.heap.size ≤ mb) := hid (by first | exact ⟨hM, hmb⟩ | (simp at hM hmb; omega))
  clear hS0 hv0 hb5 hM hmb hge
  have HRk : Hid (∀ wr F V, Chg M mb (blk 0 F0 V0) (blk 0 F V) w5 wr → LsRow wr a len cs ∧ Below w.heap.size w wr ∧ (∀ a g, blk 0 F V a = some g → w.heap.size ≤ g)) := hid (fun wr F V hc => by
    obtain ⟨m1, m2⟩ := HMb.out
    have hbel : Below w.heap.size w wr := HB5.out.trans (hc.toBelow HB5.out.size m1 m2 (fun a g e => HGe0.out a g e))
    refine ⟨HR.out.below hbel, hbel, fun a g hg => ?_⟩
    rcases hc.news a g hg with e | e
    · exact HGe0.out a g e
    · have := HB5.out.size; omega)
  go_wp2_with fail
  go_loopw [14] (fun i wr => ∃ (k : Nat) (F : Nat → Value) (V : Int → Value), k ≤ len ∧ i = .int .i64 k ∧ Sol 0 M mb F V (newS n (0, 0) (cs.take k) 0) wr ∧ V 0 = nilV ∧ Chg M mb (blk 0 F0 V0) (blk 0 F V) w5 wr) (fun i _ => len - (intOf i).toNat)
  case atStart => exact ⟨0, _, _, Nat.zero_le _, rfl, HS0.out, HV00.out, Chg.below (Below.refl _ _)⟩
  case round =>
    obtain ⟨k, F, V, hk, rfl, hS, hv, hC⟩ := hrel
    have HSk := hid hS
    have HVk := hid hv
    have HCk := hid hC
    obtain ⟨hrow, hbel, hge⟩ := HRk.out wr F V hC
    have HBk := hid hbel
    have HGe := hid hge
    clear hS hv hC hbel hge
    by_cases hlt : k < len
    · obtain ⟨b, rfl, c0, c1⟩ := hrow.cell k hlt
      have hkl : (k : Int) < (len : Int) := by omega
      have hzk : k < cs.length := by rw [HLz.out]; exact hlt
      obtain ⟨⟨C1, C2⟩, hcx⟩ : ∃ c, cs[k]?.getD (0, 0) = c := ⟨_, rfl⟩
      have hget : cs[k]? = some (C1, C2) := by rw [List.getElem?_eq_getElem hzk] at hcx ⊢; exact congrArg some hcx
      rw [hcx] at c0 c1
      dsimp only at c0 c1
      have hwc : Wf (C1, C2) := HWf.out _ (List.mem_of_getElem? hget)
      obtain ⟨hfu, hCC, -, -, hTT, -⟩ := new_full (n := n) (H := (0, 0)) (cs := cs.take k) wf_zero cons_zero (fun d hd => HWf.out d (List.mem_of_mem_take hd)) 0
      have HNx : Hid (newS n (0, 0) (cs.take (k + 1)) 0 = addS (newS n (0, 0) (cs.take k) 0) (C1, C2)) := hid (by
        rw [List.take_add_one, hget]
        unfold newS
        rw [List.foldl_append]
        rfl)
      have HAd := hid (fun (W : World) (hb : Below wr.heap.size wr W) => add_impl M mb F V (newS n (0, 0) (cs.take k) 0) W (HSk.out.below hb) HVk.out C1 C2 hwc hfu.ok hTT (by rw [hCC]; have := List.length_take_le k cs; omega))
      have hbw := World.block_lt_of_cell? _ _ c0
      simp only at hbw
      clear hget hcx hwc hfu hCC hTT hrow hzk
      go_wp2_with fail
      refine (HAd.out _ (by repeat (first | exact Below.refl _ _ | assumption | refine Below.drew ?_ | refine Below.alloc ?_ (by first | exact Nat.le_refl _ | omega | (simp; done) | (simp; omega)) _ | refine Below.setCell ?_ (by first | exact Nat.le_refl _ | omega | (simp; done) | (simp; omega)) _))).mono ?_
      rintro e w6 ⟨rfl, F', V', q1, qv, q2⟩
      have HQ1 := hid q1
      have HQv := hid qv
      have HQ2 := hid (HCk.out.trans ((Chg.below (show Below wr.heap.size wr _ from (by repeat (first | exact Below.refl _ _ | assumption | refine Below.drew ?_ | refine Below.alloc ?_ (by first | exact Nat.le_refl _ | omega | (simp; done) | (simp; omega)) _ | refine Below.setCell ?_ (by first | exact Nat.le_refl _ | omega | (simp; done) | (simp; omega)) _)))).trans q2))
      clear q1 qv q2
      go_wp2
      go_roundw
      case rel => exact ⟨k + 1, F', V', by omega, by go_num, by rw [HNx.out]; exact HQ1.out, HQv.out, HQ2.out⟩
      case measure => simp [intOf]; omega
    · have e : k = len := by omega
      subst e
      have HTk : Hid (cs.take k = cs) := hid (List.take_of_length_le (by rw [HLz.out]; exact Nat.le_refl _))
      obtain ⟨hfu, hCC, -, hHH, hTT, -⟩ := new_full (n := n) (H := (0, 0)) (cs := cs) wf_zero cons_zero (fun d hd => HWf.out d hd) 0
      have hSk := HSk.out
      rw [HTk.out] at hSk
      have HPr := hid (fun (W : World) (hb : Below wr.heap.size wr W) => propagate_impl M mb F V (newS n (0, 0) cs 0) W (hSk.below hb) HVk.out hfu (by rw [hCC, HLz.out]; omega) (by rw [hTT]; have := free_most (newS n (0, 0) cs 0).H; simp; omega))
      clear hrow hfu hCC hHH hTT hSk
      go_wp2_with fail
      refine (HPr.out _ (by repeat (first | exact Below.refl _ _ | assumption | refine Below.drew ?_ | refine Below.alloc ?_ (by first | exact Nat.le_refl _ | omega | (simp; done) | (simp; omega)) _ | refine Below.setCell ?_ (by first | exact Nat.le_refl _ | omega | (simp; done) | (simp; omega)) _))).mono ?_
      rintro e w6 ⟨rfl, F', V', q1, qv, q2, -⟩
      have HQ1 := hid q1
      have HQv := hid qv
      obtain ⟨-, hbel, hge⟩ := HRk.out w6 F' V' (HCk.out.trans ((Chg.below (show Below wr.heap.size wr _ from (by repeat (first | exact Below.refl _ _ | assumption | refine Below.drew ?_ | refine Below.alloc ?_ (by first | exact Nat.le_refl _ | omega | (simp; done) | (simp; omega)) _ | refine Below.setCell ?_ (by first | exact Nat.le_refl _ | omega | (simp; done) | (simp; omega)) _)))).trans q2))
      have HBe := hid hbel
      have HG6 := hid hge
      clear q1 qv q2 hbel hge
      go_wp2
      go_ret
      exact ⟨M, mb, F', V', rfl, HQ1.out, HQv.out, HBe.out, HMb.out.1, HMb.out.2, HG6.out⟩
end Go.Proofs.YtpfecijahiikhaaGreatDoor.chkNew

/- A checker: what propagation from the opposites of a clause's literals tells (RUP), and the state behind it; conditions: none. -/
namespace Go.Proofs.YtpfecijahiikhaaGreatDoor.chkMath
open sets solSets solMath solHold solProp solNew solClose solTrail chkNew
set_option linter.unusedVariables false
set_option linter.unusedSimpArgs false

structure Chk (cs : List LS) (s : Sv) : Prop where
  full : Full s
  C : s.C = cs
  stk : Stk (0, 0) s
  K : s.K = []
  still : s.F ≠ -1 ∨ s.D = []
  least : ∀ H, Closed cs H → Sub s.H H
theorem chk_start {n : Int} {cs : List LS} (hw : ∀ c ∈ cs, Wf c) : Chk cs (chkS n cs) ∧ (chkS n cs).n = n := by
  obtain ⟨u1, u2, u3, u4, u5, u6⟩ := new_full (n := n) (H := (0, 0)) (cs := cs) wf_zero cons_zero hw 0
  obtain ⟨d1, d2, d3, d4, d5⟩ := propF_done (meas (newS n (0, 0) cs 0) + 1) _ u1 (Nat.lt_succ_self _)
  have hst : Stk (0, 0) (newS n (0, 0) cs 0) := ⟨⟨wf_zero, by rw [u5, u4]; rfl, by rw [u5]; trivial⟩, by rw [u6]; exact List.Pairwise.nil, fun k hk => (by rw [u6] at hk; cases hk), fun k hk => (by rw [u6] at hk; cases hk)⟩
  exact ⟨⟨d1, d3.trans u2, stk_prop _ _ u1 hst, d5.trans u6, d2, fun H hc => (prop_within _ _ u1 (by rw [u2]; exact hc) (fun l hl => by rw [u4, mem_zero] at hl; cases hl)).1⟩, d4.trans u3⟩
/-- Propagation from the opposites comes to a false clause. -/
def rupP (cs : List LS) (c : LS) : Prop := meetL c (turnL c) = true ∨ ¬ ∃ H, Closed cs H ∧ Sub (turnL c) H
def rupS (s : Sv) (c : LS) : Sv × Bool := if s.F ≠ -1 ∨ meetL c (turnL c) = true then (s, true) else (backS (supS s (turnL c)).1 0, (supS s (turnL c)).2)
theorem turn_cons {c : LS} (hc : Wf c) (h : ¬ meetL c (turnL c) = true) : Cons (turnL c) := fun l hl => by
  have hr := (wf_turn hc).range hl
  rw [mem_turn hr.1] at hl
  rw [mem_turn (by have := hr.1; omega), Int.neg_neg]
  have := meet_false hc (by simpa using h) hl
  rw [mem_turn (by have := hr.1; omega), Int.neg_neg] at this
  exact this
theorem take_app {T T' : TR} : (T ++ T').take T.length = T := by simp
theorem rup_spec {cs : List LS} {s : Sv} {c : LS} (h : Chk cs s) (hc : Wf c) : Chk cs (rupS s c).1 ∧ ((rupS s c).2 = true ↔ rupP cs c) ∧ (rupS s c).1.n = s.n := by
  unfold rupS
  by_cases h0 : s.F ≠ -1 ∨ meetL c (turnL c) = true
  · rw [if_pos h0]
    refine ⟨h, ⟨fun _ => ?_, fun _ => rfl⟩, rfl⟩
    rcases h0 with h0 | h0
    · exact .inr fun ⟨H, h1, h2⟩ => h0 (full_ok h.full (by rw [h.C]; exact h1) (h.least H h1))
    · exact .inl h0
  · rw [if_neg h0]
    have hF : s.F = -1 := Classical.byContradiction fun e => h0 (.inl e)
    have hm : ¬ meetL c (turnL c) = true := fun e => h0 (.inr e)
    have hD : s.D = [] := h.still.resolve_left (fun e => e hF)
    obtain ⟨a1, a2, a3, a4, a5, ⟨T', a6⟩, a7, _⟩ := sup_spec h.full hF hD h.stk (wf_turn hc) (turn_cons hc hm)
    rw [h.K, List.nil_append] at a5
    have hk0 : (supS s (turnL c)).1.K[0]?.getD 0 = s.T.length := by rw [a5]; rfl
    obtain ⟨b1, b2, b3, b4, b5, b6, b7, b8, b9⟩ := back_stk (lv := 0) a1.ok a2 (by rw [a5]; simp) cons_zero
    have hH : (backS (supS s (turnL c)).1 0).H = s.H := by
      rw [b7, hk0]
      unfold atK
      rw [a6, take_app]
      exact h.stk.tr.h.symm
    refine ⟨⟨b1, b5.trans (a3.trans h.C), b2, by rw [b9]; simp, .inr b4, fun H hc => by rw [hH]; exact h.least H hc⟩, ?_, b6.trans a4⟩
    dsimp only
    rw [a7]
    constructor
    · intro hn
      exact .inr fun ⟨H, h1, h2⟩ => hn ⟨H, by rw [h.C]; exact h1, h.least H h1, h2⟩
    · rintro (e | hn)
      · exact absurd e hm
      · rintro ⟨H, h1, h2, h3⟩
        exact hn ⟨H, by rw [← h.C]; exact h1, h3⟩
end Go.Proofs.YtpfecijahiikhaaGreatDoor.chkMath

/- The specification tells whether a clause is RUP (l03Rup); conditions: literals of the variables, lengths that fit. -/
namespace Go.Proofs.YtpfecijahiikhaaGreatDoor.rupSpec
open Go.RowKit Go.Deep Go base copy cnf sets setsOf solSets solMath solHold solProp solNew solClose solTrail chkNew chkMath rowsOwn runS runL solRun
set_option linter.unusedVariables false
set_option linter.unusedSimpArgs false

def LitsIn (n : Nat) (zss : List (List Int)) : Prop := ∀ zs ∈ zss, ∀ z ∈ zs, z ≠ 0 ∧ z.natAbs < n
theorem agree0 : Agree (fun _ => 0) (0, 0) := fun z _ _ _ => by rw [mem_zero, mem_zero]; unfold runS.valOf; split <;> rfl
theorem run_two {n : Nat} {zss : List (List Int)} {V : Nat → Int} {H : LS} (hn : n ≤ 41) (hl : LitsIn n zss) (ha : Agree V H) (hH : Wf H) (hc : Cons H) :
    ((runF (n + 1) zss V []).2.1 = -1 ↔ ∃ K, Closed (zss.map setL) K ∧ Sub H K) ∧ -1 ≤ (runF (n + 1) zss V []).2.1 := by
  have hz : ∀ zs ∈ zss, Lit40 zs := fun zs h z hz => by have := hl zs h z hz; omega
  obtain ⟨f1, f2, f3, f4, f5, f6⟩ := new_full (n := 0) (H := H) (cs := zss.map setL) hH hc (fun c hcm => by
    obtain ⟨ys, h1, rfl⟩ := List.mem_map.1 hcm
    exact wf_set (hz ys h1))
  have := run_prop (n := n) (Z := zss) hz (fun zs h z hz => (hl zs h z hz).2) _ (newS 0 H (zss.map setL)) V (n + 1) (Nat.le_refl _) f1 f2 (by rw [f4]; exact ha) (by have := open_most V n; omega)
  rw [f5] at this
  have h2 : (runF (n + 1) zss V []).2.1 = (propF (meas (newS 0 H (zss.map setL)) + 1) (newS 0 H (zss.map setL))).F := this.2
  have hp := prop_iff f1
  rw [f2, f4] at hp
  rw [h2]
  refine ⟨hp, ?_⟩
  obtain ⟨d1, _⟩ := propF_done (meas (newS 0 H (zss.map setL)) + 1) _ f1 (Nat.lt_succ_self _)
  rcases d1.ok.fin with e | ⟨f, _, e, _⟩
  · omega
  · omega
/-- A literal is true already: as the test asks. -/
theorem true_test {V : Nat → Int} {H : LS} {z : Int} (ha : Agree V H) (hc : Cons H) (hr : -1 ≤ V z.natAbs ∧ V z.natAbs ≤ 1) (hz : z ≠ 0) (h0 : -40 ≤ z) (h1 : z ≤ 40) : mem H z = true ↔ (V z.natAbs ≠ 0 ∧ ((V z.natAbs == 1) == decide (0 < z)) = true) := by
  have hv := ha z hz h0 h1
  unfold runS.valOf at hv
  cases hm : mem H z with
  | true =>
    rw [hm, if_pos rfl] at hv
    refine ⟨fun _ => ?_, fun _ => rfl⟩
    by_cases hp : 0 < z
    · rw [if_neg (by omega)] at hv
      rw [hv]
      exact ⟨by omega, by simp [hp]⟩
    · rw [if_pos (by omega)] at hv
      have : V z.natAbs = -1 := by omega
      rw [this]
      refine ⟨by omega, ?_⟩
      simp; omega
  | false =>
    rw [hm, if_neg Bool.false_ne_true] at hv
    refine ⟨fun h => (by cases h), ?_⟩
    rintro ⟨h2, h3⟩
    cases hm2 : mem H (-z) with
    | true =>
      rw [hm2, if_pos rfl] at hv
      by_cases hp : 0 < z
      · rw [if_neg (by omega)] at hv
        rw [hv] at h3
        simp [hp] at h3
      · rw [if_pos (by omega)] at hv
        have : V z.natAbs = 1 := by omega
        rw [this] at h3
        simp at h3
        omega
    | false =>
      rw [hm2, if_neg Bool.false_ne_true] at hv
      exfalso
      split at hv <;> omega
theorem set_take {zs : List Int} {k : Nat} (h : k < zs.length) : setL (zs.take (k + 1)) = withL (setL (zs.take k)) (onlyL (zs[k]?.getD 0)) := by
  unfold setL withL onlyL
  rw [pSet_succ h, oSet_succ h]
theorem turn_with (a b : LS) : turnL (withL a b) = withL (turnL a) (turnL b) := rfl
theorem turn_only {z : Int} (h : z ≠ 0) : turnL (onlyL z) = onlyL (-z) := by
  unfold turnL onlyL pBit oBit
  by_cases hz : z < 0
  · rw [if_pos hz, if_pos hz, if_neg (by omega), if_neg (by omega), Int.natAbs_neg]
  · rw [if_neg hz, if_neg hz, if_pos (by omega), if_pos (by omega), Int.natAbs_neg]
set_option maxHeartbeats 6400000 in
set_option maxRecDepth 8000 in
theorem rup_spec (n : Nat) (a : Option Addr) (len cap : Nat) (zss : List (List Int)) (b : Option Addr) (bl bc : Nat) (zs : List Int) (w : World) (hr : IntRows w a len zss) (hb : IntRow w b bl zs) (hn : 1 ≤ n ∧ n ≤ 41) (hl : LitsIn n zss) (hz : ∀ z ∈ zs, z ≠ 0 ∧ z.natAbs < n) :
    Calls Tryz.prog 27 #[.slice a len cap, .int .i64 ((n : Int) - 1), .slice b bl bc] w fun e w' => ∃ t : Bool, e = .returned (.bool t) ∧ (t = true ↔ rupP (zss.map setL) (setL zs)) ∧ Below w.heap.size w w' := by
  have hmost := hb.most
  unfold maxLen at hmost
  have HLb := hid hb.length
  have HRo := hid hr
  have HBr := hid hb
  have HZ := hid hz
  have HLi := hid hl
  have hmk := run_make_row' (P := Tryz.prog) 27 3 (.int .i64 0) 8 Tryz.underlying27 Tryz.info_int rfl .i64 .i64 n (by omega) (by omega)
  have hwr : IntKind.i64.wrap ((n : Int) - 1 + 1) = (n : Int) := by rw [IntKind.wrap_i64]; omega
  obtain ⟨hn0, hn41⟩ := hn
  clear hr hb hz hl
  go_enter Tryz.func27, Tryz.ntmps27
  go_wp2
  clear hmk hwr
  go_loopw [8] (fun i wr => ∃ (k : Nat) (V : Nat → Int) (H : LS), k ≤ bl ∧ i = .int .i64 k ∧ ValRow wr w.heap.size n V ∧ Below w.heap.size w wr ∧ w.heap.size < wr.heap.size ∧ Wf H ∧ Cons H ∧ Agree V H ∧ H = turnL (setL (zs.take k))) (fun i _ => bl - (intOf i).toNat)
  case atStart =>
    refine ⟨0, fun _ => 0, (0, 0), Nat.zero_le _, rfl, ?_, (Below.refl _ _).alloc (Nat.le_refl _) _, by simp, wf_zero, cons_zero, agree0, rfl⟩
    have hrow := World.rowIs_made w (.int .i64 0) n 3
    exact ⟨fun i hi => ⟨hrow.cell hi, hrow.frozen i⟩, fun i _ => by omega⟩
  case round =>
    obtain ⟨k, V, H, hk, rfl, hvr, hbr, hsz, hwf, hcs, hag, hHe⟩ := hrel
    have HVR := hid hvr
    have HBR := hid hbr
    have HWf := hid hwf
    have HCs := hid hcs
    have HAg := hid hag
    have HHe := hid hHe
    clear hvr hbr hwf hcs hag hHe
    by_cases hlt : k < bl
    · obtain ⟨g, off, rfl, hc⟩ := (HBr.out.below HBR.out).cell k hlt
      have hkl : k < zs.length := by rw [HLb.out]; exact hlt
      have hzz := HZ.out (zs[k]?.getD 0) (by rw [List.getElem?_eq_getElem hkl]; exact List.getElem_mem hkl)
      have HTk := hid (set_take hkl)
      have HIn : Hid (zs[k]?.getD 0 ∈ zs) := hid (by rw [List.getElem?_eq_getElem hkl]; exact List.getElem_mem hkl)
      clear hkl
      generalize zs[k]?.getD 0 = z at *
      obtain ⟨z0, hzn⟩ := hzz
      have zlo : -40 ≤ z := by omega
      have zhi : z ≤ 40 := by omega
      obtain ⟨hvc, hvf⟩ := HVR.out.cell z.natAbs hzn
      obtain ⟨r0, r1⟩ := HVR.out.range z.natAbs hzn
      have htt := true_test HAg.out HCs.out ⟨r0, r1⟩ z0 zlo zhi
      obtain ⟨W9, hW9⟩ : ∃ W9, wr.setCell ⟨w.heap.size, (-z).natAbs, none⟩ (.int .i64 (if 0 < -z then 1 else -1)) = W9 := ⟨_, rfl⟩
      have HSt := hid (set_spec w.heap.size n n V (-z) wr HVR.out (by rw [Int.natAbs_neg]; exact hzn) (by omega) hn41)
      rw [hW9] at HSt
      have HW9 := hid hW9
      clear hW9
      have HZn := hid hzn
      obtain ⟨vz, hvz⟩ : ∃ v, V z.natAbs = v := ⟨_, rfl⟩
      obtain ⟨j, hj⟩ : ∃ j, z.natAbs = j := ⟨_, rfl⟩
      rw [hvz] at hvc r0 r1 htt
      have HA : Hid (∀ w, Calls Tryz.prog 51 #[.int .i64 z] w fun e w' => e = .returned (.int .i64 (j : Int)) ∧ w' = w) := fun w => by
        have := abs_spec z w (by omega) (by omega)
        rw [hj] at this
        exact this
      rw [hj] at hvc hvf hzn
      have hjn : (j : Int) < (n : Int) := by omega
      clear hvz hj
      by_cases hm : mem H z = true
      · obtain ⟨p1, p2⟩ := htt.1 hm
        have HT : Hid (rupP (zss.map setL) (setL zs)) := hid (.inl (by
          have h1 := hm
          rw [HHe.out, mem_turn z0, mem_set (fun y hy => (HZ.out y (List.mem_of_mem_take hy)).1), List.contains_iff_mem] at h1
          have h2 := List.mem_of_mem_take h1
          refine (meet_iff (wf_set fun y hy => (by have := HZ.out y hy; omega))).2 ⟨z, ?_, ?_⟩
          · rw [mem_set (fun y hy => (HZ.out y hy).1), List.contains_iff_mem]; exact HIn.out
          · rw [mem_turn z0, mem_set (fun y hy => (HZ.out y hy).1), List.contains_iff_mem]; exact h2))
        have hq : (vz = 1 ∧ 0 < z) ∨ (vz = -1 ∧ z < 0) := by
          have : vz = 1 ∨ vz = -1 := by omega
          rcases this with rfl | rfl
          · left; simp at p2; omega
          · right; simp at p2; omega
        clear htt p1 p2 hm
        have hdz : z < 0 → (!decide (0 < z)) = true := fun h => by simp; omega
        rcases hq with ⟨rfl, hq⟩ | ⟨rfl, hq⟩
        rotate_left
        have hdz := hdz hq
        all_goals
          go_wp2_with (go_at_call 51; refine (HA.out _).mono ?_; rintro e w' ⟨rfl, rfl⟩)
          go_ret
          exact ⟨true, rfl, ⟨fun _ => HT.out, fun _ => rfl⟩, HBR.out⟩
      · have hq : vz = 0 ∨ (vz = 1 ∧ z < 0) ∨ (vz = -1 ∧ 0 < z) := by
          have : vz = 0 ∨ vz = 1 ∨ vz = -1 := by omega
          rcases this with rfl | rfl | rfl
          · exact .inl rfl
          · by_cases hp : 0 < z
            · exact absurd (htt.2 ⟨by omega, by simp [hp]⟩) hm
            · exact .inr (.inl ⟨rfl, by omega⟩)
          · by_cases hp : 0 < z
            · exact .inr (.inr ⟨rfl, hp⟩)
            · exact absurd (htt.2 ⟨by omega, by simp; omega⟩) hm
        have hmf : mem H z = false := by simpa using hm
        have HN : Hid (∃ (k' : Nat) (V' : Nat → Int) (H' : LS), k' ≤ bl ∧ (.int .i64 ((k : Int) + 1) : Value) = .int .i64 k' ∧ ValRow W9 w.heap.size n V' ∧ Below w.heap.size w W9 ∧ w.heap.size < W9.heap.size ∧ Wf H' ∧ Cons H' ∧ Agree V' H' ∧ H' = turnL (setL (zs.take k'))) := hid (by
          rw [← HW9.out]
          refine ⟨k + 1, setV V (-z), withL H (onlyL (-z)), by omega, rfl, HVR.out.set, HBR.out.setCell (Nat.le_refl _) _, by simpa using hsz, wf_with HWf.out (wf_only (by omega) (by omega) (by omega)), ?_, agree_set HAg.out (by omega) (by omega) (by omega) (by rw [Int.neg_neg]; exact hmf), ?_⟩
          · intro l hl
            rw [mem_held (by omega)] at hl ⊢
            by_cases e : -z = l
            · subst e
              rw [Int.neg_neg, hmf]
              simp; omega
            · have hl : mem H l = true := by simpa [e] using hl
              rw [HCs.out l hl]
              simp
              intro e3
              have : z = l := by omega
              rw [← this, hmf] at hl
              cases hl
          · rw [HTk.out, turn_with, ← HHe.out, turn_only z0])
        clear htt hm hmf
        rcases hq with rfl | ⟨rfl, hq⟩ | ⟨rfl, hq⟩
        all_goals
          go_wp2_with first
            | (go_at_call 51; refine (HA.out _).mono ?_; rintro e w' ⟨rfl, rfl⟩)
            | (go_at_call 52; refine HSt.out.mono ?_; rintro e w' ⟨rfl, rfl⟩)
          go_round
          case rel => first | exact HN.out | (have := HN.out; go_num)
          case measure => simp [intOf]; omega
    · have e : k = bl := by omega
      subst e
      have hTk : zs.take k = zs := List.take_of_length_le (by rw [HLb.out]; exact Nat.le_refl _)
      rw [hTk] at HHe
      obtain ⟨t1, t2⟩ := run_two hn41 HLi.out HAg.out HWf.out HCs.out
      have HRun := hid (run_spec a len cap w.heap.size n n zss V wr (fun w' hg => HRo.out.below (HBR.out.grown hg (Nat.le_of_lt hsz) (fun q e => by injection e with e; omega))) HVR.out hsz (fun ys hy z hz => (HLi.out ys hy z hz).2) hn41)
      obtain ⟨at_, hat⟩ : ∃ x, (runF (n + 1) zss V []).2.1 = x := ⟨_, rfl⟩
      rw [hat] at t1 t2 HRun
      have HIff : Hid (0 ≤ at_ ↔ rupP (zss.map setL) (setL zs)) := hid (by
        rw [HHe.out] at t1
        constructor
        · intro h
          exact .inr fun ⟨K, h1, h2⟩ => by have := t1.2 ⟨K, h1, h2⟩; omega
        · rintro (h | h)
          · exfalso
            have hw : Wf (setL zs) := wf_set fun y hy => (by have := HZ.out y hy; omega)
            obtain ⟨l, h1, h2⟩ := (meet_iff hw).1 h
            have h3 := HCs.out l (by rw [HHe.out]; exact h2)
            rw [HHe.out, mem_turn (by have := (hw.range h1).1; omega), Int.neg_neg, h1] at h3
            cases h3
          · have : at_ ≠ -1 := fun e => h (t1.1 e)
            omega)
      clear t1 t2 hat hTk
      go_wp2_with (go_at_call 53; refine HRun.out.mono ?_; rintro e w2 ⟨v2, rfl, hown, -, hgr⟩; have HGr := hid hgr; clear hown hgr)
      go_ret
      exact ⟨decide (0 ≤ at_), rfl, by rw [decide_eq_true_eq]; exact HIff.out, HBR.out.grown HGr.out (Nat.le_of_lt hsz) (fun q e => by injection e with e; omega)⟩
end Go.Proofs.YtpfecijahiikhaaGreatDoor.rupSpec
