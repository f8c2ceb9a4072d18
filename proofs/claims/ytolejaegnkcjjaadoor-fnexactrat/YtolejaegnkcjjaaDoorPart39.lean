/- RupFaceS; RatFaceS: one text, so that the claim has fewer files. -/
import Derived.Test.YtolejaegnkcjjaaDoorRupSpec
import Derived.Test.YtolejaegnkcjjaaDoorRatSpec
/- Rup of the specification; conditions: lengths that fit. -/
namespace Go.Proofs.YtolejaegnkcjjaaDoor.rupFaceS
open Go.RowKit Go.Deep Go base copy cnf sets setsOf solSets solMath solClose solTrail chkMath rupSpec
set_option linter.unusedVariables false
set_option linter.unusedSimpArgs false

def rupCode (vars : Int) (zss : List (List Int)) (zs : List Int) : Int := if 4096 < zs.length then 2 else if (cnfB vars zss && clauseB vars zs) = false then 1 else 0
structure RupAns (vars : Int) (zss : List (List Int)) (zs : List Int) (t : Bool) (c : Int) : Prop where
  code : c = rupCode vars zss zs
  no : c ≠ 0 → t = false
  yes : c = 0 → (t = true ↔ rupP (zss.map setL) (setL zs))
theorem RupAns.uniq {vars : Int} {zss : List (List Int)} {zs : List Int} {t t' : Bool} {c c' : Int} (h : RupAns vars zss zs t c) (k : RupAns vars zss zs t' c') : t = t' ∧ c = c' := by
  have e : c = c' := h.code.trans k.code.symm
  refine ⟨?_, e⟩
  by_cases h0 : c = 0
  · have h1 := h.yes h0
    have h2 := k.yes (by rw [← e]; exact h0)
    rw [Bool.eq_iff_iff, h1, h2]
  · rw [h.no h0, k.no (by rw [← e]; exact h0)]
theorem cnf_in {n : Nat} {zss : List (List Int)} (h : cnfB ((n : Int) - 1) zss = true) : LitsIn n zss := fun zs hz z hzz => by
  unfold cnfB at h
  rw [Bool.and_eq_true, List.all_eq_true] at h
  have h2 := h.2 zs hz
  unfold clauseB at h2
  rw [Bool.and_eq_true, List.all_eq_true] at h2
  have h3 := h2.2 z hzz
  unfold litB at h3
  have := of_decide_eq_true h3
  omega
theorem clause_in {n : Nat} {zs : List Int} (h : clauseB ((n : Int) - 1) zs = true) : ∀ z ∈ zs, z ≠ 0 ∧ z.natAbs < n := fun z hzz => by
  unfold clauseB at h
  rw [Bool.and_eq_true, List.all_eq_true] at h
  have h3 := h.2 z hzz
  unfold litB at h3
  have := of_decide_eq_true h3
  omega
theorem cnf_vars {vars : Int} {zss : List (List Int)} (h : cnfB vars zss = true) : 0 ≤ vars ∧ vars ≤ 40 ∧ zss.length ≤ 300 := by
  unfold cnfB at h
  rw [Bool.and_eq_true, decide_eq_true_eq] at h
  exact h.1
end Go.Proofs.YtolejaegnkcjjaaDoor.rupFaceS

/- Rat of the specification; conditions: lengths that fit. -/
namespace Go.Proofs.YtolejaegnkcjjaaDoor.ratFaceS
open Go.RowKit Go.Deep Go base copy cnf sets setsOf solSets solMath solClose solTrail chkMath ratMath rupSpec ratSpec rupFaceS
set_option linter.unusedVariables false
set_option linter.unusedSimpArgs false

structure RatAns (vars : Int) (zss : List (List Int)) (zs : List Int) (t : Bool) (c : Int) : Prop where
  code : c = rupCode vars zss zs
  no : c ≠ 0 → t = false
  yes : c = 0 → (t = true ↔ ratP (zss.map setL) zs)
theorem RatAns.uniq {vars : Int} {zss : List (List Int)} {zs : List Int} {t t' : Bool} {c c' : Int} (h : RatAns vars zss zs t c) (k : RatAns vars zss zs t' c') : t = t' ∧ c = c' := by
  have e : c = c' := h.code.trans k.code.symm
  refine ⟨?_, e⟩
  by_cases h0 : c = 0
  · have h1 := h.yes h0
    have h2 := k.yes (by rw [← e]; exact h0)
    rw [Bool.eq_iff_iff, h1, h2]
  · rw [h.no h0, k.no (by rw [← e]; exact h0)]
theorem cnf_short {vars : Int} {zss : List (List Int)} (h : cnfB vars zss = true) : ∀ ys ∈ zss, ys.length ≤ 4096 := fun ys hy => by
  unfold cnfB at h
  rw [Bool.and_eq_true, List.all_eq_true] at h
  have h2 := h.2 ys hy
  unfold clauseB at h2
  rw [Bool.and_eq_true, decide_eq_true_eq] at h2
  omega
set_option maxHeartbeats 3200000 in
set_option maxRecDepth 8000 in
theorem rat_spec' (vars : Int) (a : Option Addr) (len cap : Nat) (zss : List (List Int)) (b : Option Addr) (bl bc : Nat) (zs : List Int) (w : World) (hr : IntRows w a len zss) (hb : IntRow w b bl zs) :
    Calls Tryd.prog 12 #[.agg #[.int .i64 vars, .slice a len cap], .slice b bl bc] w fun e w' => ∃ (t : Bool) (c : Int), e = .returned (.tuple #[.bool t, .int .i64 c]) ∧ RatAns vars zss zs t c ∧ Below w.heap.size w w' := by
  have hmost := hb.most
  unfold maxLen at hmost
  have HLb := hid hb.length
  have HRo := hid hr
  have HBr := hid hb
  have hlb := hb.length
  have HCo := hid (fun (W : World) (hbw : Below w.heap.size w W) => cnfOK_spec vars a len cap zss W (hr.below hbw))
  clear hr hb
  by_cases h1 : 4096 < bl
  · have HA : Hid (RatAns vars zss zs false 2) := hid ⟨by unfold rupCode; rw [if_pos (by omega)], fun _ => rfl, fun h => by cases h⟩
    have d1 : (4096 : Int) < (bl : Int) := by omega
    clear hlb
    go_enter Tryd.func12, Tryd.ntmps12
    go_wp2
    go_ret2
    exact ⟨false, 2, rfl, HA.out, (by repeat (first | exact Below.refl _ _ | assumption | refine Below.drew ?_ | refine Below.alloc ?_ (by first | exact Nat.le_refl _ | omega | (simp; done) | (simp; omega)) _ | refine Below.setCell ?_ (by first | exact Nat.le_refl _ | omega | (simp; done) | (simp; omega)) _))⟩
  · have d1 : ¬ (4096 : Int) < (bl : Int) := by omega
    cases hck : cnfB vars zss with
    | false =>
      have HA : Hid (RatAns vars zss zs false 1) := hid ⟨by unfold rupCode; rw [if_neg (by omega), if_pos (by rw [hck]; rfl)], fun _ => rfl, fun h => by cases h⟩
      rw [hck] at HCo
      clear hlb hck
      go_enter Tryd.func12, Tryd.ntmps12
      go_wp2_with fail
      refine (HCo.out _ (by repeat (first | exact Below.refl _ _ | assumption | refine Below.drew ?_ | refine Below.alloc ?_ (by first | exact Nat.le_refl _ | omega | (simp; done) | (simp; omega)) _ | refine Below.setCell ?_ (by first | exact Nat.le_refl _ | omega | (simp; done) | (simp; omega)) _))).mono ?_
      rintro e w1 ⟨rfl, hb1⟩
      have H1 := hid ((show Below w.heap.size w _ from (by repeat (first | exact Below.refl _ _ | assumption | refine Below.drew ?_ | refine Below.alloc ?_ (by first | exact Nat.le_refl _ | omega | (simp; done) | (simp; omega)) _ | refine Below.setCell ?_ (by first | exact Nat.le_refl _ | omega | (simp; done) | (simp; omega)) _))).trans (Below.mono hb1 (by simp)))
      clear hb1
      go_wp2
      go_ret2
      exact ⟨false, 1, rfl, HA.out, H1.out⟩
    | true =>
      rw [hck] at HCo
      obtain ⟨hv0, hv1, hv2⟩ := rupFaceS.cnf_vars hck
      obtain ⟨n, hn⟩ : ∃ n : Nat, vars = (n : Int) - 1 := ⟨(vars + 1).toNat, by omega⟩
      have HCl := hid (fun (W : World) (hbw : Below w.heap.size w W) => clause_spec b bl bc zs vars W hv0 hv1 (HBr.out.below hbw))
      cases hcl : clauseB vars zs with
      | false =>
        have HA : Hid (RatAns vars zss zs false 1) := hid ⟨by unfold rupCode; rw [if_neg (by omega), if_pos (by rw [hck, hcl]; rfl)], fun _ => rfl, fun h => by cases h⟩
        rw [hcl] at HCl
        clear hlb hck hcl hn
        go_enter Tryd.func12, Tryd.ntmps12
        go_wp2_with fail
        refine (HCo.out _ (by repeat (first | exact Below.refl _ _ | assumption | refine Below.drew ?_ | refine Below.alloc ?_ (by first | exact Nat.le_refl _ | omega | (simp; done) | (simp; omega)) _ | refine Below.setCell ?_ (by first | exact Nat.le_refl _ | omega | (simp; done) | (simp; omega)) _))).mono ?_
        rintro e w1 ⟨rfl, hb1⟩
        have f0 := keep hb1 (show (w.alloc (.cells #[.int .i64 vars, .slice a len cap] 29)).cell? ⟨w.heap.size, 0, none⟩ = some (.int .i64 vars) by simp [go_sem])
        have H1 := hid ((show Below w.heap.size w _ from (by repeat (first | exact Below.refl _ _ | assumption | refine Below.drew ?_ | refine Below.alloc ?_ (by first | exact Nat.le_refl _ | omega | (simp; done) | (simp; omega)) _ | refine Below.setCell ?_ (by first | exact Nat.le_refl _ | omega | (simp; done) | (simp; omega)) _))).trans (Below.mono hb1 (by simp)))
        clear hb1
        go_wp2_with fail
        refine (HCl.out _ H1.out).mono ?_
        rintro e w2 ⟨rfl, rfl⟩
        go_wp2
        go_ret2
        exact ⟨false, 1, rfl, HA.out, H1.out⟩
      | true =>
        have HRu := hid (fun (W : World) (hbw : Below w.heap.size w W) => rat_spec n a len cap zss b bl bc zs W (HRo.out.below hbw) (HBr.out.below hbw) (by omega) (cnf_in (by rw [← hn]; exact hck)) (clause_in (by rw [← hn]; exact hcl)) (by omega) (cnf_short hck))
        rw [← hn] at HRu
        have HA : Hid (∀ t : Bool, (t = true ↔ ratP (zss.map setL) zs) → RatAns vars zss zs t 0) := hid (fun t ht => ⟨by unfold rupCode; rw [if_neg (by omega), if_neg (by rw [hck, hcl]; decide)], fun h => absurd rfl h, fun _ => ht⟩)
        rw [hcl] at HCl
        clear hlb hck hcl hn
        go_enter Tryd.func12, Tryd.ntmps12
        go_wp2_with fail
        refine (HCo.out _ (by repeat (first | exact Below.refl _ _ | assumption | refine Below.drew ?_ | refine Below.alloc ?_ (by first | exact Nat.le_refl _ | omega | (simp; done) | (simp; omega)) _ | refine Below.setCell ?_ (by first | exact Nat.le_refl _ | omega | (simp; done) | (simp; omega)) _))).mono ?_
        rintro e w1 ⟨rfl, hb1⟩
        have f0 := keep hb1 (show (w.alloc (.cells #[.int .i64 vars, .slice a len cap] 29)).cell? ⟨w.heap.size, 0, none⟩ = some (.int .i64 vars) by simp [go_sem])
        have f1 := keep hb1 (show (w.alloc (.cells #[.int .i64 vars, .slice a len cap] 29)).cell? ⟨w.heap.size, 1, none⟩ = some (.slice a len cap) by simp [go_sem])
        have H1 := hid ((show Below w.heap.size w _ from (by repeat (first | exact Below.refl _ _ | assumption | refine Below.drew ?_ | refine Below.alloc ?_ (by first | exact Nat.le_refl _ | omega | (simp; done) | (simp; omega)) _ | refine Below.setCell ?_ (by first | exact Nat.le_refl _ | omega | (simp; done) | (simp; omega)) _))).trans (Below.mono hb1 (by simp)))
        clear hb1
        go_wp2_with fail
        refine (HCl.out _ H1.out).mono ?_
        rintro e w2 ⟨rfl, rfl⟩
        go_wp2_with fail
        refine (HRu.out _ H1.out).mono ?_
        rintro e w3 ⟨t, rfl, ht, hb3⟩
        have HT := hid ht
        have HB3 := hid (H1.out.trans (hb3.mono H1.out.size))
        clear ht hb3
        go_wp2
        go_ret2
        exact ⟨t, 0, rfl, HA.out t HT.out, HB3.out⟩
end Go.Proofs.YtolejaegnkcjjaaDoor.ratFaceS
