/- EvalAig, of the program and of the specification; conditions: the literals fit. -/
import Derived.Test.YtgjfgkdmfahkaaaNodesI
namespace Go.Proofs.Ytgjfgkdmfahkaaa.evalAig
open Go.RowKit Go.Deep base gates trees aigImpl nodes
set_option linter.unusedVariables false

def inL (n : Int) (len : Nat) (l : Int) : Bool := decide (0 ≤ l ∧ l ≤ 2 * (n + len) + 1)
def evCode (n : Int) (len : Nat) (g : Gs) (ls : List Int) (vl : Nat) : Int :=
  if 4096 < ls.length ∨ 4096 < vl then 2 else if aigB n len g = false then 1 else if (vl : Int) ≠ n ∨ ls.all (inL n len) = false then 5 else 0
def evList (n : Int) (len : Nat) (g : Gs) (ls : List Int) (vs : List Bool) : List Bool := if evCode n len g ls vs.length = 0 then ls.map (litV (nodesOf vs g len)) else []

set_option maxHeartbeats 400000 in
theorem isLit_impl (n : Int) (a : Option Addr) (len cap : Nat) (l : Int) (w : World) (h0 : 0 ≤ n) (h1 : n ≤ 12) (h2 : len ≤ 400) (hl : I64 l) :
    Calls Try.prog 30 #[.agg #[.int .i64 n, .slice a len cap], .int .i64 l] w fun e w' => e = .returned (.bool (inL n len l)) ∧ Below w.heap.size w w' := by
  obtain ⟨w0, w1⟩ := hl
  by_cases h3 : 0 ≤ l
  · have d3 : decide (0 ≤ l) = true := decide_eq_true h3
    by_cases h4 : l / 2 ≤ n + len
    · have d4 : decide (l / 2 ≤ n + (len : Int)) = true := decide_eq_true h4
      rw [show inL n len l = true from decide_eq_true (by omega)]
      go_enter Try.func30, Try.ntmps30
      go_wp2
      go_ret
      exact ⟨rfl, (by repeat (first | exact Below.refl _ _ | assumption | refine Below.drew ?_ | refine Below.alloc ?_ (by first | exact Nat.le_refl _ | omega | (simp; done) | (simp; omega)) _ | refine Below.setCell ?_ (by first | exact Nat.le_refl _ | omega | (simp; done) | (simp; omega)) _))⟩
    · have d4 : decide (l / 2 ≤ n + (len : Int)) = false := decide_eq_false h4
      rw [show inL n len l = false from decide_eq_false (by omega)]
      go_enter Try.func30, Try.ntmps30
      go_wp2
      go_ret
      exact ⟨rfl, (by repeat (first | exact Below.refl _ _ | assumption | refine Below.drew ?_ | refine Below.alloc ?_ (by first | exact Nat.le_refl _ | omega | (simp; done) | (simp; omega)) _ | refine Below.setCell ?_ (by first | exact Nat.le_refl _ | omega | (simp; done) | (simp; omega)) _))⟩
  · have d3 : decide (0 ≤ l) = false := decide_eq_false h3
    rw [show inL n len l = false from decide_eq_false (by omega)]
    go_enter Try.func30, Try.ntmps30
    go_wp2
    go_ret
    exact ⟨rfl, (by repeat (first | exact Below.refl _ _ | assumption | refine Below.drew ?_ | refine Below.alloc ?_ (by first | exact Nat.le_refl _ | omega | (simp; done) | (simp; omega)) _ | refine Below.setCell ?_ (by first | exact Nat.le_refl _ | omega | (simp; done) | (simp; omega)) _))⟩

theorem code_long {n : Int} {len : Nat} {g : Gs} {ls : List Int} {vs : List Bool} (h : 4096 < ls.length ∨ 4096 < vs.length) : evCode n len g ls vs.length = 2 ∧ evList n len g ls vs = [] := by
  have e : evCode n len g ls vs.length = 2 := if_pos h
  exact ⟨e, by unfold evList; rw [e]; rfl⟩
theorem code_bad {n : Int} {len : Nat} {g : Gs} {ls : List Int} {vs : List Bool} (h : ¬ (4096 < ls.length ∨ 4096 < vs.length)) (h1 : aigB n len g = false) : evCode n len g ls vs.length = 1 ∧ evList n len g ls vs = [] := by
  have e : evCode n len g ls vs.length = 1 := by unfold evCode; rw [if_neg h, if_pos h1]
  exact ⟨e, by unfold evList; rw [e]; rfl⟩
theorem code_range {n : Int} {len : Nat} {g : Gs} {ls : List Int} {vs : List Bool} (h : ¬ (4096 < ls.length ∨ 4096 < vs.length)) (h1 : aigB n len g = true) (h2 : (vs.length : Int) ≠ n ∨ ls.all (inL n len) = false) : evCode n len g ls vs.length = 5 ∧ evList n len g ls vs = [] := by
  have e : evCode n len g ls vs.length = 5 := by unfold evCode; rw [if_neg h, if_neg (by rw [h1]; decide), if_pos h2]
  exact ⟨e, by unfold evList; rw [e]; rfl⟩
theorem code_ok {n : Int} {len : Nat} {g : Gs} {ls : List Int} {vs : List Bool} (h : ¬ (4096 < ls.length ∨ 4096 < vs.length)) (h1 : aigB n len g = true) (h2 : (vs.length : Int) = n) (h3 : ls.all (inL n len) = true) : evCode n len g ls vs.length = 0 ∧ evList n len g ls vs = ls.map (litV (nodesOf vs g len)) := by
  have e : evCode n len g ls vs.length = 0 := by unfold evCode; rw [if_neg h, if_neg (by rw [h1]; decide), if_neg (by rw [h3]; simp [h2])]
  exact ⟨e, by unfold evList; rw [e]; rfl⟩
theorem map_take_succ {ns : List Bool} {ls : List Int} {k : Nat} (h : k < ls.length) : (ls.take (k + 1)).map (litV ns) = (ls.take k).map (litV ns) ++ [litV ns (ls[k]?.getD 0)] := by
  rw [List.take_succ_eq_append_getElem h, List.map_append, List.getElem?_eq_getElem h]; rfl
theorem ret_two {v : Value} {a b : Int} (h : a = b) : Ending.returned (.tuple #[v, .int .i64 a]) = .returned (.tuple #[v, .int .i64 b]) := by rw [h]

set_option maxHeartbeats 3200000 in
theorem evalAig_impl (n : Int) (a : Option Addr) (len cap : Nat) (g : Gs) (la : Option Addr) (ll lc : Nat) (ls : List Int) (NV vl vc : Nat) (vs : List Bool) (w : World) (hr : GateRow w a len g) (hg : ∀ i, i < len → I64 (g i).1 ∧ I64 (g i).2) (hl : IntRow w la ll ls) (hz : ∀ k, k < ll → I64 (ls[k]?.getD 0)) (hv : BoolRow w (some ⟨NV, 0, none⟩) vl vs) :
    Calls Try.prog 12 #[.agg #[.int .i64 n, .slice a len cap], .slice la ll lc, .slice (some ⟨NV, 0, none⟩) vl vc] w fun e w' => ∃ v, e = .returned (.tuple #[v, .int .i64 (evCode n len g ls vs.length)]) ∧ OwnBools w.heap.size w' v (evList n len g ls vs) ∧ Below w.heap.size w w' := by
  have hml := hl.most
  have hmv := hv.most
  unfold maxLen at hml hmv
  have HLL := hid hl.length
  have HLV := hid hv.length
  have HR := hid hr
  have HG := hid hg
  have HL := hid hl
  have HZ := hid hz
  have HV := hid hv
  clear hr hg hl hz hv
  by_cases h1 : 4096 < ll ∨ 4096 < vl
  · obtain ⟨e1, e2⟩ := code_long (n := n) (len := len) (g := g) (ls := ls) (vs := vs) (by rw [HLL.out, HLV.out]; exact h1)
    rw [e1, e2]
    clear e1 e2
    by_cases h2 : (4096 : Int) < (ll : Int)
    · go_enter Try.func12, Try.ntmps12
      go_wp2
      go_ret2
      exact ⟨_, rfl, OwnBools.nil _ _, (by repeat (first | exact Below.refl _ _ | assumption | refine Below.drew ?_ | refine Below.alloc ?_ (by first | exact Nat.le_refl _ | omega | (simp; done) | (simp; omega)) _ | refine Below.setCell ?_ (by first | exact Nat.le_refl _ | omega | (simp; done) | (simp; omega)) _))⟩
    · have d2 : decide ((4096 : Int) < (ll : Int)) = false := decide_eq_false h2
      have h3 : (4096 : Int) < (vl : Int) := by omega
      go_enter Try.func12, Try.ntmps12
      go_wp2
      go_ret2
      exact ⟨_, rfl, OwnBools.nil _ _, (by repeat (first | exact Below.refl _ _ | assumption | refine Below.drew ?_ | refine Below.alloc ?_ (by first | exact Nat.le_refl _ | omega | (simp; done) | (simp; omega)) _ | refine Below.setCell ?_ (by first | exact Nat.le_refl _ | omega | (simp; done) | (simp; omega)) _))⟩
  have HN1 : Hid (¬ (4096 < ls.length ∨ 4096 < vs.length)) := by show ¬ _; rw [HLL.out, HLV.out]; exact h1
  have d1 : decide ((4096 : Int) < (ll : Int)) = false := decide_eq_false (by omega)
  have d2 : decide ((4096 : Int) < (vl : Int)) = false := decide_eq_false (by omega)
  cases hb : aigB n len g with
  | false =>
    obtain ⟨e1, e2⟩ := code_bad (ls := ls) (vs := vs) HN1.out hb
    rw [e1, e2]
    clear e1 e2
    go_enter Try.func12, Try.ntmps12
    go_wp2_with fail
    refine (aigOK_impl n a len cap g _ (HR.out.below (by repeat (first | exact Below.refl _ _ | assumption | refine Below.drew ?_ | refine Below.alloc ?_ (by first | exact Nat.le_refl _ | omega | (simp; done) | (simp; omega)) _ | refine Below.setCell ?_ (by first | exact Nat.le_refl _ | omega | (simp; done) | (simp; omega)) _))) HG.out).mono ?_
    rintro e w1 ⟨rfl, hb1⟩
    have HB := hid ((show Below w.heap.size w _ from (by repeat (first | exact Below.refl _ _ | assumption | refine Below.drew ?_ | refine Below.alloc ?_ (by first | exact Nat.le_refl _ | omega | (simp; done) | (simp; omega)) _ | refine Below.setCell ?_ (by first | exact Nat.le_refl _ | omega | (simp; done) | (simp; omega)) _))).trans (hb1.mono (by simp)))
    clear hb1
    rw [hb]
    go_wp2
    go_ret2
    exact ⟨_, rfl, OwnBools.nil _ _, HB.out⟩
  | true =>
    have hbd := of_decide_eq_true (Bool.and_eq_true_iff.1 hb).1
    obtain ⟨b0, b1, b2⟩ := hbd
    by_cases hn : (vl : Int) = n
    · subst hn
      have dn : ((vl : Int) != (vl : Int)) = false := by simp
      go_enter Try.func12, Try.ntmps12
      go_wp2_with fail
      refine (aigOK_impl vl a len cap g _ (HR.out.below (by repeat (first | exact Below.refl _ _ | assumption | refine Below.drew ?_ | refine Below.alloc ?_ (by first | exact Nat.le_refl _ | omega | (simp; done) | (simp; omega)) _ | refine Below.setCell ?_ (by first | exact Nat.le_refl _ | omega | (simp; done) | (simp; omega)) _))) HG.out).mono ?_
      rintro e w1 ⟨rfl, hb1⟩
      have f0 : w1.cell? ⟨w.heap.size, 0, none⟩ = some (.int .i64 vl) := keep hb1 (by simp [go_sem])
      have f1 : w1.cell? ⟨w.heap.size, 1, none⟩ = some (.slice a len cap) := keep hb1 (by simp [go_sem])
      have HB := hid ((show Below w.heap.size w _ from (by repeat (first | exact Below.refl _ _ | assumption | refine Below.drew ?_ | refine Below.alloc ?_ (by first | exact Nat.le_refl _ | omega | (simp; done) | (simp; omega)) _ | refine Below.setCell ?_ (by first | exact Nat.le_refl _ | omega | (simp; done) | (simp; omega)) _))).trans (hb1.mono (by simp)))
      clear hb1
      rw [hb]
      go_wp2_with fail
      refine (nodes_impl vl a len cap g NV vl vc vs _ (HR.out.below HB.out) (HV.out.below HB.out) hb rfl).mono ?_
      rintro e w2 ⟨v2, rfl, hown2, hb2⟩
      obtain ⟨na, nc, rfl, hrow2⟩ := hown2.form (L := vl + 1 + len) (by rw [nodes_len, HLV.out])
      have HRN := hid hrow2
      replace f0 := keep hb2 f0
      replace f1 := keep hb2 f1
      have HB2 := hid (HB.out.trans (hb2.mono HB.out.size))
      clear hb2 hown2 hrow2
      obtain ⟨i0, hi, hzz⟩ := Option.map_eq_some_iff.1 info_bool
      simp only [Prod.mk.injEq] at hzz
      obtain ⟨hz0, hz1, hz2⟩ := hzz
      have HI := hid hi
      have HZ0 := hid hz0
      have HZ1 := hid hz1
      have HZ2 := hid hz2
      have HBT := hid hb
      clear hi hz0 hz1 hz2 hb
      generalize hns : nodesOf vs g len = ns at *
      have HNS := hid hns
      clear hns
      go_wp2
      go_loopw [33, 9] (fun i v wr => ∃ k : Nat, k ≤ ll ∧ i = .int .i64 k ∧ (ls.take k).all (inL vl len) = true ∧ OwnBools w2.heap.size wr v ((ls.take k).map (litV ns)) ∧ Below w2.heap.size w2 wr) (fun i _ _ => ll - (intOf i).toNat)
      case atStart => exact ⟨0, Nat.zero_le _, rfl, rfl, OwnBools.nil _ _, Below.refl _ _⟩
      case round =>
        rename_i v0
        obtain ⟨k, hk, rfl, ha, hown, hbel⟩ := hrel
        have HA := hid ha
        have HO := hid hown
        have HBk := hid hbel
        replace f0 := keep hbel f0
        replace f1 := keep hbel f1
        clear ha hown hbel
        by_cases hlt : k < ll
        · obtain ⟨b, off, rfl, hc⟩ := HL.out.cell k hlt
          replace hc := keep HBk.out (keep HB2.out hc)
          have HIZ := hid (HZ.out k hlt)
          have HT : Hid (inL vl len (ls[k]?.getD 0) = true → (ls.take (k + 1)).all (inL vl len) = true) := fun h => by rw [all_take_succ (d := 0) (by rw [HLL.out]; exact hlt), HA.out, h]; rfl
          have HF : Hid (inL vl len (ls[k]?.getD 0) = false → ls.all (inL vl len) = false) := fun h => all_false (d := 0) (by rw [HLL.out]; exact hlt) h
          have HNX : Hid ((ls.take (k + 1)).map (litV ns) = (ls.take k).map (litV ns) ++ [litV ns (ls[k]?.getD 0)]) := map_take_succ (by rw [HLL.out]; exact hlt)
          have HLen : Hid (((ls.take k).map (litV ns)).length = k) := by show _ = _; rw [List.length_map, List.length_take, HLL.out]; omega
          generalize ls[k]?.getD 0 = z at *
          cases hq : inL vl len z with
          | false =>
            go_wp2_with fail
            refine (isLit_impl vl _ len cap z _ (by omega) (by omega) (by omega) HIZ.out).mono ?_
            rintro e w3 ⟨rfl, hb3⟩
            have HB3 := hid (HB2.out.trans ((HBk.out.trans (hb3.mono HBk.out.size)).mono HB2.out.size))
            clear hb3
            rw [hq]
            go_wp2
            go_ret2
            obtain ⟨e1, e2⟩ := code_range (ls := ls) (vs := vs) HN1.out HBT.out (Or.inr (HF.out hq))
            rw [e1, e2]
            exact ⟨_, rfl, OwnBools.nil _ _, HB3.out⟩
          | true =>
            have hzr := of_decide_eq_true hq
            obtain ⟨z0, z1⟩ := hzr
            go_wp2_with fail
            refine (isLit_impl vl _ len cap z _ (by omega) (by omega) (by omega) HIZ.out).mono ?_
            rintro e w3 ⟨rfl, hb3⟩
            have HBk3 := hid (HBk.out.trans (hb3.mono HBk.out.size))
            have HO3 := hid (HO.out.below hb3)
            have HR3 := hid (HRN.out.below HBk3.out)
            replace f0 := keep hb3 f0
            replace f1 := keep hb3 f1
            clear hb3
            rw [hq]
            go_wp2_with fail
            refine (isTrue_impl z _ _ _ ns _ HR3.out z0 (by push_cast; omega) (by omega)).mono ?_
            rintro e w' ⟨rfl, hww⟩
            replace hww := hww.symm
            subst hww
            generalize litV ns z = bz at *
            go_wp2_with (at_builtin; (refine wpList_append_own _ rfl _ _ 36 rfl w2.heap.size 4 i0 (.bool false) 1 1 Try.underlying36 HI.out HZ0.out HZ1.out HZ2.out rfl (by decide) _ _ _ rfl (World.ownsRow.alloc HO3.out _) ⟨w3.heap.size, 0, none⟩ 1 1 [_] rfl rfl (cell_one_new _ _ _) (fun x hx => by simp at hx; subst hx; rfl) (by have := HLen.out; unfold maxLen; omega) (by have := HLen.out; omega) (by have := HBk3.out.size; simp; omega) ?_); intro v4 w4 hown4 hgrow4 hnil4; (have HO4 : Hid (OwnBools w2.heap.size w4 v4 ((ls.take (k + 1)).map (litV ns))) := HNX.out ▸ OwnBools.add (ys := [_]) hown4 rfl rfl); (have HB4 := hid (grown_below (N := w2.heap.size) (HO3.out.below (by repeat (first | exact Below.refl _ _ | assumption | refine Below.drew ?_ | refine Below.alloc ?_ (by first | exact Nat.le_refl _ | omega | (simp; done) | (simp; omega)) _ | refine Below.setCell ?_ (by first | exact Nat.le_refl _ | omega | (simp; done) | (simp; omega)) _))) (HBk3.out.alloc HBk3.out.size _) (Nat.le_refl _) (by have := HBk3.out.size; simp; omega) hgrow4)); clear hown4 hgrow4 hnil4)
            go_roundw
            case rel => exact ⟨k + 1, by omega, by go_num, HT.out hq, HO4.out, HB4.out⟩
            case measure => simp [intOf]; omega
        · have e : k = ll := by omega
          subst e
          have hall : ls.all (inL vl len) = true := by rw [← HA.out, List.take_of_length_le (by rw [HLL.out]; omega)]
          have hO := HO.out
          rw [List.take_of_length_le (by rw [HLL.out]; omega)] at hO
          have HOK := hid (code_ok (n := vl) (ls := ls) (vs := vs) HN1.out HBT.out (by rw [HLV.out]) hall)
          have HOO := hid hO
          clear hO hall
          go_wp2
          go_ret2
          refine ⟨_, ret_two HOK.out.1.symm, ?_, HB2.out.trans (HBk.out.mono HB2.out.size)⟩
          rw [HOK.out.2, HNS.out]
          exact HOO.out.mono HB2.out.size
    · have dn : ((vl : Int) != n) = true := by simp [hn]
      obtain ⟨e1, e2⟩ := code_range (ls := ls) (vs := vs) HN1.out hb (Or.inl (by rw [HLV.out]; exact hn))
      rw [e1, e2]
      clear e1 e2
      go_enter Try.func12, Try.ntmps12
      go_wp2_with fail
      refine (aigOK_impl n a len cap g _ (HR.out.below (by repeat (first | exact Below.refl _ _ | assumption | refine Below.drew ?_ | refine Below.alloc ?_ (by first | exact Nat.le_refl _ | omega | (simp; done) | (simp; omega)) _ | refine Below.setCell ?_ (by first | exact Nat.le_refl _ | omega | (simp; done) | (simp; omega)) _))) HG.out).mono ?_
      rintro e w1 ⟨rfl, hb1⟩
      have f0 : w1.cell? ⟨w.heap.size, 0, none⟩ = some (.int .i64 n) := keep hb1 (by simp [go_sem])
      have f1 : w1.cell? ⟨w.heap.size, 1, none⟩ = some (.slice a len cap) := keep hb1 (by simp [go_sem])
      have HB := hid ((show Below w.heap.size w _ from (by repeat (first | exact Below.refl _ _ | assumption | refine Below.drew ?_ | refine Below.alloc ?_ (by first | exact Nat.le_refl _ | omega | (simp; done) | (simp; omega)) _ | refine Below.setCell ?_ (by first | exact Nat.le_refl _ | omega | (simp; done) | (simp; omega)) _))).trans (hb1.mono (by simp)))
      clear hb1
      rw [hb]
      go_wp2
      go_ret2
      exact ⟨_, rfl, OwnBools.nil _ _, HB.out⟩

end Go.Proofs.Ytgjfgkdmfahkaaa.evalAig
