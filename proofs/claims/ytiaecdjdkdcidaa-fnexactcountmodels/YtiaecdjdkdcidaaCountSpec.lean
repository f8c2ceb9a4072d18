/- The specification's count of models; conditions: lengths that fit. -/
import Derived.Test.YtiaecdjdkdcidaaCount
import Derived.Test.YtiaecdjdkdcidaaOwnBools
namespace Go.Proofs.Ytiaecdjdkdcidaa.countSpec
open Go.RowKit Go.Deep base copy cnf eval sets setsOf count ownBools

set_option maxHeartbeats 1600000 in
theorem count_spec (vars : Int) (a : Option Addr) (len cap : Nat) (zss : List (List Int)) (w : World) (hr : IntRows w a len zss) :
    Calls Try.prog 5 #[.agg #[.int .i64 vars, .slice a len cap]] w fun e w' => e = .returned (.tuple #[.int .i64 (countN vars zss), .int .i64 (countCode vars zss)]) ∧ Below w.heap.size w w' := by
  have HR := hid hr
  have HL := hid hr.length
  clear hr
  cases hb : cnfB vars zss
  · have e1 : countN vars zss = 0 := by simp [countN, hb]
    have e2 : countCode vars zss = 1 := by simp [countCode, hb]
    rw [e1, e2]
    clear e1 e2
    go_enter Try.func5, Try.ntmps5
    go_wp2_with fail
    refine (cnfOK_spec vars a len cap zss _ (HR.out.below (by repeat (first | exact Below.refl _ _ | assumption | refine Below.drew ?_ | refine Below.alloc ?_ (by first | exact Nat.le_refl _ | omega | (simp; done) | (simp; omega)) _ | refine Below.setCell ?_ (by first | exact Nat.le_refl _ | omega | (simp; done) | (simp; omega)) _)))).mono ?_
    rintro e w1 ⟨rfl, hb1⟩
    have HB := hid ((show Below w.heap.size w _ from (by repeat (first | exact Below.refl _ _ | assumption | refine Below.drew ?_ | refine Below.alloc ?_ (by first | exact Nat.le_refl _ | omega | (simp; done) | (simp; omega)) _ | refine Below.setCell ?_ (by first | exact Nat.le_refl _ | omega | (simp; done) | (simp; omega)) _))).trans (hb1.mono (by simp)))
    clear hb1
    go_wp2
    go_ret2
    exact ⟨rfl, HB.out⟩
  obtain ⟨hv0, hv40, hlen⟩ := cnf_vars hb
  by_cases h12 : 12 < vars
  · have e1 : countN vars zss = 0 := by simp [countN, hb, h12]
    have e2 : countCode vars zss = 11 := by simp [countCode, hb, h12]
    rw [e1, e2]
    clear e1 e2
    go_enter Try.func5, Try.ntmps5
    go_wp2_with fail
    refine (cnfOK_spec vars a len cap zss _ (HR.out.below (by repeat (first | exact Below.refl _ _ | assumption | refine Below.drew ?_ | refine Below.alloc ?_ (by first | exact Nat.le_refl _ | omega | (simp; done) | (simp; omega)) _ | refine Below.setCell ?_ (by first | exact Nat.le_refl _ | omega | (simp; done) | (simp; omega)) _)))).mono ?_
    rintro e w1 ⟨rfl, hb1⟩
    have HB := hid ((show Below w.heap.size w _ from (by repeat (first | exact Below.refl _ _ | assumption | refine Below.drew ?_ | refine Below.alloc ?_ (by first | exact Nat.le_refl _ | omega | (simp; done) | (simp; omega)) _ | refine Below.setCell ?_ (by first | exact Nat.le_refl _ | omega | (simp; done) | (simp; omega)) _))).trans (hb1.mono (by simp)))
    have b0 : w1.cell? ⟨w.heap.size, 0, none⟩ = some (.int .i64 vars) := keep hb1 (by simp [go_sem])
    clear hb1
    go_wp2
    go_ret2
    exact ⟨rfl, HB.out⟩
  obtain ⟨v, rfl⟩ := Int.eq_ofNat_of_zero_le hv0
  obtain ⟨M, hM⟩ : ∃ M, M = 2 ^ v := ⟨_, rfl⟩
  have e1 : countN v zss = countTo v zss M := by rw [hM]; simp [countN, hb, h12]
  have e2 : countCode v zss = 0 := by simp [countCode, hb, h12]
  rw [e1, e2]
  clear e1 e2
  have HK := hid hb
  have HLen : Hid (zss.length ≤ 300) := hlen
  have hp := pow12 (vars := v) (by omega)
  have hW : wrap64 ((2 : Int) ^ v) = (M : Int) := by
    have hc : ((2 : Int) ^ v) = ((2 ^ v : Nat) : Int) := by simp
    rw [hc, ← hM]
    rw [← hM] at hp
    unfold wrap64
    omega
  rw [← hM] at hp
  clear hlen hM
  go_enter Try.func5, Try.ntmps5
  go_wp2_with fail
  refine (cnfOK_spec v a len cap zss _ (HR.out.below (by repeat (first | exact Below.refl _ _ | assumption | refine Below.drew ?_ | refine Below.alloc ?_ (by first | exact Nat.le_refl _ | omega | (simp; done) | (simp; omega)) _ | refine Below.setCell ?_ (by first | exact Nat.le_refl _ | omega | (simp; done) | (simp; omega)) _)))).mono ?_
  rintro e w1 ⟨rfl, hb1⟩
  have HB := hid ((show Below w.heap.size w _ from (by repeat (first | exact Below.refl _ _ | assumption | refine Below.drew ?_ | refine Below.alloc ?_ (by first | exact Nat.le_refl _ | omega | (simp; done) | (simp; omega)) _ | refine Below.setCell ?_ (by first | exact Nat.le_refl _ | omega | (simp; done) | (simp; omega)) _))).trans (hb1.mono (by simp)))
  have b0 : w1.cell? ⟨w.heap.size, 0, none⟩ = some (.int .i64 v) := keep hb1 (by simp [go_sem])
  have b1 : w1.cell? ⟨w.heap.size, 1, none⟩ = some (.slice a len cap) := keep hb1 (by simp [go_sem])
  clear hb1
  go_wp2
  go_loopw [5, 4] (fun i t wr => ∃ k : Nat, k ≤ M ∧ i = .int .i64 k ∧ t = .int .i64 (countTo v zss k) ∧ Below w1.heap.size w1 wr) (fun i _ _ => M - (intOf i).toNat)
  case atStart => exact ⟨0, Nat.zero_le _, rfl, rfl, Below.refl _ _⟩
  case round =>
    obtain ⟨k, hk, rfl, rfl, hbel⟩ := hrel
    have hcn : countTo v zss k ≤ 4096 := by have := countTo_le v zss k; omega
    have k0 : wr.cell? ⟨w.heap.size, 0, none⟩ = some (.int .i64 v) := keep hbel b0
    have k1 : wr.cell? ⟨w.heap.size, 1, none⟩ = some (.slice a len cap) := keep hbel b1
    have HX := hid hbel
    clear hbel
    by_cases hlt : k < M
    · have HKK := hid (fun (w2 : World) (h2 : Below wr.heap.size wr w2) => And.intro (keep h2 k0) (keep h2 k1))
      have HXw := hid (HB.out.trans (HX.out.mono HB.out.size))
      have HN : Hid (countTo v zss (k + 1) = countTo v zss k + (if cnfT (valsOf k v) zss then 1 else 0)) := rfl
      have HVL : Hid ((valsOf k v).length = v) := by show _ = _; simp [valsOf]
      generalize countTo v zss k = n at *
      go_wp2
      go_region_with (first
        | (go_at_call 12; refine (values_spec k v _ (by omega) (by omega)).mono ?_; rintro e w2 ⟨bv, rfl, hown, hb2⟩; have hb2' : Below wr.heap.size wr w2 := ((Below.refl _ wr).drew).trans hb2; obtain ⟨y0, y1⟩ := HKK.out w2 hb2'; obtain ⟨av, cv, rfl, hvr⟩ := hown.form; clear hb2 hown; rw [HVL.out] at hvr; rw [HVL.out]; have HVR := hid hvr; clear hvr)
        | (go_at_call 11; refine (eval_spec v a av len cap v cv zss (valsOf k v) _ (HR.out.below (HXw.out.trans (hb2'.mono HXw.out.size))) HVR.out HK.out).mono ?_; rintro e w3 ⟨rfl, hb3⟩; have hb3' : Below wr.heap.size wr w3 := hb2'.trans (hb3.mono hb2'.size); clear hb3))
      all_goals
        have H3 := hid (HX.out.trans (hb3'.mono HX.out.size))
        clear hb3' hb2' y0 y1
        cases hq : cnfT (valsOf k v) zss
        · have HN' := HN.out
          rw [hq] at HN'
          have HN2 := hid HN'
          clear HN' HN hq
          go_wp2
          go_roundw
          case rel => exact ⟨k + 1, by omega, by go_num, by rw [HN2.out]; rfl, H3.out⟩
          case measure => simp [intOf]; omega
        · have HN' := HN.out
          rw [hq] at HN'
          have HN2 := hid HN'
          clear HN' HN hq
          go_wp2
          go_roundw
          case rel => exact ⟨k + 1, by omega, by go_num, by rw [HN2.out]; rfl, H3.out⟩
          case measure => simp [intOf]; omega
    · have e : k = M := by omega
      subst e
      go_wp2
      go_ret2
      exact ⟨rfl, HB.out.trans (HX.out.mono HB.out.size)⟩
end Go.Proofs.Ytiaecdjdkdcidaa.countSpec
