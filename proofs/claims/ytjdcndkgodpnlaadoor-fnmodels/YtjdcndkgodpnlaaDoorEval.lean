/- The contracts of what tells whether values make a formula true, of the program and of the specification; conditions: lengths that fit. -/
import Derived.Test.YtjdcndkgodpnlaaDoorPart1
namespace Go.Proofs.YtjdcndkgodpnlaaDoor.eval
open Go.RowKit Go.Deep base copy cnf

def litT (vs : List Bool) (l : Int) : Bool := vs[l.natAbs - 1]?.getD false == decide (0 < l)
def clauseT (vs : List Bool) (zs : List Int) : Bool := zs.any (litT vs)
def cnfT (vs : List Bool) (zss : List (List Int)) : Bool := zss.all (clauseT vs)
def evalCode (vars : Int) (zss : List (List Int)) (vs : List Bool) : Int :=
  if 4096 < vs.length then 2 else if cnfB vars zss = false then 1 else if (vs.length : Int) ≠ vars then 5 else 0
def evalB (vars : Int) (zss : List (List Int)) (vs : List Bool) : Bool := decide (evalCode vars zss vs = 0) && cnfT vs zss
theorem litB_range {vars l : Int} (h : litB vars l = true) : l ≠ 0 ∧ -vars ≤ l ∧ l ≤ vars := of_decide_eq_true h
set_option maxHeartbeats 400000 in
theorem abs_spec (n : Int) (w : World) (h0 : -4611686018427387904 ≤ n) (h1 : n ≤ 4611686018427387904) :
    Calls Tryd.prog 54 #[.int .i64 n] w fun e w' => e = .returned (.int .i64 (n.natAbs : Int)) ∧ w' = w := by
  go_enter Tryd.func54, Tryd.ntmps54
  go_wp2
  all_goals
    go_ret
    exact ⟨ret_int (by omega), rfl⟩

theorem litT_abs {vs : List Bool} {l : Int} : litT vs l = (vs[l.natAbs - 1]?.getD false == decide (0 < l)) := rfl
set_option maxHeartbeats 800000 in
theorem true_spec (av : Option Addr) (lv cv : Nat) (vs : List Bool) (l : Int) (w : World) (hv : BoolRow w av lv vs) (hlit : litB lv l = true) (h40 : lv ≤ 40) :
    Calls Tryd.prog 38 #[.slice av lv cv, .int .i64 l] w fun e w' => e = .returned (.bool (litT vs l)) ∧ w' = w := by
  obtain ⟨hne, hlo, hhi⟩ := litB_range hlit
  clear hlit
  obtain ⟨j, hj⟩ : ∃ j : Nat, l.natAbs = j + 1 := ⟨l.natAbs - 1, by omega⟩
  obtain ⟨b, off, rfl, hc⟩ := hv.cell j (by omega)
  have hjl : (j : Int) < (lv : Int) := by omega
  have HA : ∀ w, Calls Tryd.prog 54 #[.int .i64 l] w fun e w' => e = .returned (.int .i64 ((j : Int) + 1)) ∧ w' = w := fun w => by
    have := abs_spec l w (by omega) (by omega)
    rw [hj] at this
    exact this
  have hb : litT vs l = (vs[j]?.getD false == decide (0 < l)) := by rw [litT_abs, hj]; rfl
  have HB := hid hb
  clear hv hj hb
  replace HA := hid HA
  generalize vs[j]?.getD false = x at *
  go_enter Tryd.func38, Tryd.ntmps38
  go_wp2_with (go_at_call 54; refine (HA.out _).mono ?_; rintro e w' ⟨rfl, rfl⟩)
  all_goals
    go_ret
    exact ⟨ret_bool HB.out.symm, rfl⟩

theorem clause_lits {vars : Int} {zs : List Int} (h : clauseB vars zs = true) (j : Nat) (hj : j < zs.length) : litB vars (zs[j]?.getD 0) = true := by
  simp only [clauseB, Bool.and_eq_true, List.all_eq_true] at h
  rw [List.getElem?_eq_getElem hj]
  exact h.2 _ (List.getElem_mem hj)
theorem cnf_clause {vars : Int} {zss : List (List Int)} (h : cnfB vars zss = true) (i : Nat) (hi : i < zss.length) : clauseB vars (zss[i]?.getD []) = true := by
  simp only [cnfB, Bool.and_eq_true, List.all_eq_true] at h
  rw [List.getElem?_eq_getElem hi]
  exact h.2 _ (List.getElem_mem hi)
theorem cnf_vars {vars : Int} {zss : List (List Int)} (h : cnfB vars zss = true) : 0 ≤ vars ∧ vars ≤ 40 ∧ zss.length ≤ 300 := by
  simp only [cnfB, Bool.and_eq_true, decide_eq_true_eq] at h
  exact h.1

set_option maxHeartbeats 1600000 in
theorem eval_spec (vars : Int) (a av : Option Addr) (len cap lv cv : Nat) (zss : List (List Int)) (vs : List Bool) (w : World) (hr : IntRows w a len zss) (hv : BoolRow w av lv vs) (hok : cnfB lv zss = true) :
    Calls Tryd.prog 19 #[.agg #[.int .i64 vars, .slice a len cap], .slice av lv cv] w fun e w' => e = .returned (.bool (cnfT vs zss)) ∧ Below w.heap.size w w' := by
  have hmost := hr.most
  have hmostv := hv.most
  unfold maxLen at hmost hmostv
  have HR := hid hr
  have HV := hid hv
  have HK := hid hok
  have HL := hid HR.out.length
  have h40 : lv ≤ 40 := by have := cnf_vars hok; omega
  clear hr hv hok
  go_enter Tryd.func19, Tryd.ntmps19
  go_wp2
  go_loop [5] (fun i => ∃ k : Nat, k ≤ len ∧ i = .int .i64 k ∧ (zss.take k).all (clauseT vs) = true) (fun i => len - (intOf i).toNat)
  case atStart => exact ⟨0, Nat.zero_le _, rfl, rfl⟩
  case round =>
    obtain ⟨k, hk, rfl, ha⟩ := hrel
    have HA := hid ha
    clear ha
    by_cases hlt : k < len
    · obtain ⟨b, off, rfl, x, l, c, hc, hx⟩ := HR.out.cell k hlt
      have hbw : b < w.heap.size := World.block_lt_of_cell? _ _ hc
      have hml := hx.most
      unfold maxLen at hml
      have HX := hid hx
      have HXL := hid hx.length
      have HLit := hid (clause_lits (cnf_clause HK.out k (by rw [HL.out]; omega)))
      have HS : Hid (clauseT vs (zss[k]?.getD []) = true → (zss.take (k + 1)).all (clauseT vs) = true) := fun h => by rw [all_take_succ (d := []) (by rw [HL.out]; omega), HA.out, h]; rfl
      have HF : Hid (clauseT vs (zss[k]?.getD []) = false → cnfT vs zss = false) := fun h => all_false (d := []) (by rw [HL.out]; omega) h
      clear hx
      generalize zss[k]?.getD [] = zs at *
      go_wp2
      go_loop [7, 6] (fun i t => ∃ m : Nat, m ≤ l ∧ i = .int .i64 m ∧ t = .bool ((zs.take m).any (litT vs))) (fun i _ => l - (intOf i).toNat)
      case atStart => exact ⟨0, Nat.zero_le _, rfl, rfl⟩
      case round =>
        obtain ⟨m, hm, rfl, rfl⟩ := hrel
        by_cases hlt2 : m < l
        · obtain ⟨b2, off2, rfl, hc2⟩ := HX.out.cell m hlt2
          have hbw2 : b2 < w.heap.size := World.block_lt_of_cell? _ _ hc2
          have HT := hid (any_take_succ (p := litT vs) (d := 0) (zs := zs) (k := m) (by rw [HXL.out]; omega))
          have HLm := hid (HLit.out m (by rw [HXL.out]; omega))
          cases hq : (zs.take m).any (litT vs)
          · rw [hq] at HT
            go_wp2_with (go_at_call 38; refine (true_spec _ _ _ _ _ _ (HV.out.below (by repeat (first | exact Below.refl _ _ | assumption | refine Below.drew ?_ | refine Below.alloc ?_ (by first | exact Nat.le_refl _ | omega | (simp; done) | (simp; omega)) _ | refine Below.setCell ?_ (by first | exact Nat.le_refl _ | omega | (simp; done) | (simp; omega)) _))) HLm.out h40).mono ?_; rintro e w' ⟨rfl, rfl⟩)
            go_round
            case rel => exact ⟨m + 1, by omega, by go_num, by rw [HT.out]; simp⟩
            case measure => simp [intOf]; omega
          · rw [hq] at HT
            go_wp2_with (go_at_call 38; refine (true_spec _ _ _ _ _ _ (HV.out.below (by repeat (first | exact Below.refl _ _ | assumption | refine Below.drew ?_ | refine Below.alloc ?_ (by first | exact Nat.le_refl _ | omega | (simp; done) | (simp; omega)) _ | refine Below.setCell ?_ (by first | exact Nat.le_refl _ | omega | (simp; done) | (simp; omega)) _))) HLm.out h40).mono ?_; rintro e w' ⟨rfl, rfl⟩)
            go_round
            case rel => exact ⟨m + 1, by omega, by go_num, by rw [HT.out]; simp⟩
            case measure => simp [intOf]; omega
        · have e : m = l := by omega
          subst e
          have ht : zs.take m = zs := List.take_of_length_le (by rw [HXL.out]; omega)
          rw [ht]
          have HE := hid (show zs.any (litT vs) = clauseT vs zs from rfl)
          rw [HE.out]
          clear ht
          cases hq : clauseT vs zs
          · have HQ := hid hq
            clear hq
            go_wp2
            go_ret
            exact ⟨ret_bool (HF.out HQ.out).symm, (by repeat (first | exact Below.refl _ _ | assumption | refine Below.drew ?_ | refine Below.alloc ?_ (by first | exact Nat.le_refl _ | omega | (simp; done) | (simp; omega)) _ | refine Below.setCell ?_ (by first | exact Nat.le_refl _ | omega | (simp; done) | (simp; omega)) _))⟩
          · have HQ := hid hq
            clear hq
            go_wp2
            go_round
            case rel => exact ⟨k + 1, by omega, by go_num, HS.out HQ.out⟩
            case measure => simp [intOf]; omega
    · have e : k = len := by omega
      subst e
      go_wp2
      go_ret
      exact ⟨ret_bool (by have := HA.out; rw [List.take_of_length_le (by rw [HL.out]; omega)] at this; exact this.symm), (by repeat (first | exact Below.refl _ _ | assumption | refine Below.drew ?_ | refine Below.alloc ?_ (by first | exact Nat.le_refl _ | omega | (simp; done) | (simp; omega)) _ | refine Below.setCell ?_ (by first | exact Nat.le_refl _ | omega | (simp; done) | (simp; omega)) _))⟩

theorem code_long {vars : Int} {zss : List (List Int)} {vs : List Bool} (h : 4096 < vs.length) : evalCode vars zss vs = 2 ∧ evalB vars zss vs = false := by
  have : evalCode vars zss vs = 2 := by simp [evalCode, h]
  exact ⟨this, by simp [evalB, this]⟩
theorem code_bad {vars : Int} {zss : List (List Int)} {vs : List Bool} (h : ¬ 4096 < vs.length) (hb : cnfB vars zss = false) : evalCode vars zss vs = 1 ∧ evalB vars zss vs = false := by
  have : evalCode vars zss vs = 1 := by simp [evalCode, h, hb]
  exact ⟨this, by simp [evalB, this]⟩
theorem code_range {vars : Int} {zss : List (List Int)} {vs : List Bool} (h : ¬ 4096 < vs.length) (hb : cnfB vars zss = true) (hn : ¬ (vs.length : Int) = vars) : evalCode vars zss vs = 5 ∧ evalB vars zss vs = false := by
  have : evalCode vars zss vs = 5 := by simp [evalCode, h, hb, hn]
  exact ⟨this, by simp [evalB, this]⟩
theorem code_ok {vars : Int} {zss : List (List Int)} {vs : List Bool} (h : ¬ 4096 < vs.length) (hb : cnfB vars zss = true) (hn : (vs.length : Int) = vars) : evalCode vars zss vs = 0 ∧ evalB vars zss vs = cnfT vs zss := by
  have : evalCode vars zss vs = 0 := by simp [evalCode, h, hb, hn]
  exact ⟨this, by simp [evalB, this]⟩

set_option maxHeartbeats 1600000 in
theorem evalCnf_spec (vars : Int) (a av : Option Addr) (len cap lv cv : Nat) (zss : List (List Int)) (vs : List Bool) (w : World) (hr : IntRows w a len zss) (hv : BoolRow w av lv vs) :
    Calls Tryd.prog 7 #[.agg #[.int .i64 vars, .slice a len cap], .slice av lv cv] w fun e w' => e = .returned (.tuple #[.bool (evalB vars zss vs), .int .i64 (evalCode vars zss vs)]) ∧ Below w.heap.size w w' := by
  have hmostv := hv.most
  unfold maxLen at hmostv
  have HR := hid hr
  have HV := hid hv
  have HL := hid hv.length
  clear hr hv
  by_cases h1 : 4096 < lv
  · obtain ⟨e1, e2⟩ := code_long (vars := vars) (zss := zss) (vs := vs) (by rw [HL.out]; exact h1)
    rw [e1, e2]
    clear e1 e2
    go_enter Tryd.func7, Tryd.ntmps7
    go_wp2
    go_ret2
    exact ⟨rfl, (by repeat (first | exact Below.refl _ _ | assumption | refine Below.drew ?_ | refine Below.alloc ?_ (by first | exact Nat.le_refl _ | omega | (simp; done) | (simp; omega)) _ | refine Below.setCell ?_ (by first | exact Nat.le_refl _ | omega | (simp; done) | (simp; omega)) _))⟩
  cases hb : cnfB vars zss
  · obtain ⟨e1, e2⟩ := code_bad (vars := vars) (zss := zss) (vs := vs) (by rw [HL.out]; exact h1) hb
    rw [e1, e2]
    clear e1 e2
    go_enter Tryd.func7, Tryd.ntmps7
    go_wp2_with fail
    refine (cnfOK_spec vars a len cap zss _ (HR.out.below (by repeat (first | exact Below.refl _ _ | assumption | refine Below.drew ?_ | refine Below.alloc ?_ (by first | exact Nat.le_refl _ | omega | (simp; done) | (simp; omega)) _ | refine Below.setCell ?_ (by first | exact Nat.le_refl _ | omega | (simp; done) | (simp; omega)) _)))).mono ?_
    rintro e w1 ⟨rfl, hb1⟩
    have HB := hid ((show Below w.heap.size w _ from (by repeat (first | exact Below.refl _ _ | assumption | refine Below.drew ?_ | refine Below.alloc ?_ (by first | exact Nat.le_refl _ | omega | (simp; done) | (simp; omega)) _ | refine Below.setCell ?_ (by first | exact Nat.le_refl _ | omega | (simp; done) | (simp; omega)) _))).trans (hb1.mono (by simp)))
    clear hb1
    go_wp2
    go_ret2
    exact ⟨rfl, HB.out⟩
  by_cases hn : (lv : Int) = vars
  · obtain ⟨e1, e2⟩ := code_ok (vars := vars) (zss := zss) (vs := vs) (by rw [HL.out]; exact h1) hb (by rw [HL.out]; exact hn)
    rw [e1, e2]
    clear e1 e2
    subst hn
    have HK := hid hb
    have hq : ((lv : Int) != (lv : Int)) = false := by simp
    go_enter Tryd.func7, Tryd.ntmps7
    go_wp2_with fail
    refine (cnfOK_spec lv a len cap zss _ (HR.out.below (by repeat (first | exact Below.refl _ _ | assumption | refine Below.drew ?_ | refine Below.alloc ?_ (by first | exact Nat.le_refl _ | omega | (simp; done) | (simp; omega)) _ | refine Below.setCell ?_ (by first | exact Nat.le_refl _ | omega | (simp; done) | (simp; omega)) _)))).mono ?_
    rintro e w1 ⟨rfl, hb1⟩
    have HB := hid ((show Below w.heap.size w _ from (by repeat (first | exact Below.refl _ _ | assumption | refine Below.drew ?_ | refine Below.alloc ?_ (by first | exact Nat.le_refl _ | omega | (simp; done) | (simp; omega)) _ | refine Below.setCell ?_ (by first | exact Nat.le_refl _ | omega | (simp; done) | (simp; omega)) _))).trans (hb1.mono (by simp)))
    have b0 : w1.cell? ⟨w.heap.size, 0, none⟩ = some (.int .i64 lv) := keep hb1 (by simp [go_sem])
    have b1 : w1.cell? ⟨w.heap.size, 1, none⟩ = some (.slice a len cap) := keep hb1 (by simp [go_sem])
    clear hb1
    go_wp2_with fail
    refine (eval_spec lv a av len cap lv cv zss vs _ (HR.out.below HB.out) (HV.out.below HB.out) HK.out).mono ?_
    rintro e w2 ⟨rfl, hb2⟩
    have HB2 := hid (HB.out.trans (hb2.mono HB.out.size))
    clear hb2
    go_wp2
    go_ret2
    exact ⟨rfl, HB2.out⟩
  · obtain ⟨e1, e2⟩ := code_range (vars := vars) (zss := zss) (vs := vs) (by rw [HL.out]; exact h1) hb (by rw [HL.out]; exact hn)
    rw [e1, e2]
    clear e1 e2
    have hq : ((lv : Int) != vars) = true := by simp [hn]
    clear hn
    go_enter Tryd.func7, Tryd.ntmps7
    go_wp2_with fail
    refine (cnfOK_spec vars a len cap zss _ (HR.out.below (by repeat (first | exact Below.refl _ _ | assumption | refine Below.drew ?_ | refine Below.alloc ?_ (by first | exact Nat.le_refl _ | omega | (simp; done) | (simp; omega)) _ | refine Below.setCell ?_ (by first | exact Nat.le_refl _ | omega | (simp; done) | (simp; omega)) _)))).mono ?_
    rintro e w1 ⟨rfl, hb1⟩
    have HB := hid ((show Below w.heap.size w _ from (by repeat (first | exact Below.refl _ _ | assumption | refine Below.drew ?_ | refine Below.alloc ?_ (by first | exact Nat.le_refl _ | omega | (simp; done) | (simp; omega)) _ | refine Below.setCell ?_ (by first | exact Nat.le_refl _ | omega | (simp; done) | (simp; omega)) _))).trans (hb1.mono (by simp)))
    have b0 : w1.cell? ⟨w.heap.size, 0, none⟩ = some (.int .i64 vars) := keep hb1 (by simp [go_sem])
    clear hb1
    go_wp2
    go_ret2
    exact ⟨rfl, HB.out⟩

end Go.Proofs.YtjdcndkgodpnlaaDoor.eval
