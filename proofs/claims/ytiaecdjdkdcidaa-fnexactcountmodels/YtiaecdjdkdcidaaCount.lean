/- Counting models, of the program and of the specification: both count the numbers below 2 to the variables whose bits are a model; conditions: lengths that fit. -/
import Derived.Test.YtiaecdjdkdcidaaSetsOf
namespace Go.Proofs.Ytiaecdjdkdcidaa.count
open Go.RowKit Go.Deep base copy cnf eval sets setsOf

/-- How many of the numbers below n tell a model. -/
def countTo (vars : Nat) (zss : List (List Int)) : Nat → Nat
  | 0 => 0
  | n + 1 => countTo vars zss n + (if cnfT (valsOf n vars) zss then 1 else 0)
def countCode (vars : Int) (zss : List (List Int)) : Int := if cnfB vars zss then (if 12 < vars then 11 else 0) else 1
def countN (vars : Int) (zss : List (List Int)) : Int := if cnfB vars zss then (if 12 < vars then 0 else countTo vars.toNat zss (2 ^ vars.toNat)) else 0
theorem countTo_le (vars : Nat) (zss : List (List Int)) : ∀ n, countTo vars zss n ≤ n
  | 0 => Nat.le_refl _
  | n + 1 => by
    have := countTo_le vars zss n
    show _ + _ ≤ _
    split <;> omega
theorem ret_ints {a b x y : Int} (h : a = b) (h' : x = y) : Ending.returned (.tuple #[.int .i64 a, .int .i64 x]) = .returned (.tuple #[.int .i64 b, .int .i64 y]) := by rw [h, h']
theorem pow12 {vars : Nat} (h : vars ≤ 12) : 2 ^ vars ≤ 4096 := Nat.pow_le_pow_right (by decide) h
theorem cnf_abs {vars : Nat} {zss : List (List Int)} (h : cnfB vars zss = true) (i : Nat) (hi : i < zss.length) : ∀ z ∈ zss[i]?.getD [], litB vars z = true := fun z hz => by
  have h1 := cnf_clause h i hi
  simp only [clauseB, Bool.and_eq_true, List.all_eq_true] at h1
  exact h1.2 z hz
theorem cnf_meets {vars n : Nat} {zss : List (List Int)} (h : cnfB vars zss = true) (hv : vars ≤ 12) (hn : n < 4096) : meetsAll zss (2 * n) (18446744073709551615 - 2 * n) = cnfT (valsOf n vars) zss := by
  simp only [cnfB, Bool.and_eq_true, List.all_eq_true] at h
  unfold meetsAll cnfT
  rw [Bool.eq_iff_iff, List.all_eq_true, List.all_eq_true]
  have hm : ∀ zs ∈ zss, meetB (pSet zs) (oSet zs) (2 * n) (18446744073709551615 - 2 * n) = clauseT (valsOf n vars) zs := fun zs hz => by
    have h1 := h.2 zs hz
    simp only [clauseB, Bool.and_eq_true, List.all_eq_true] at h1
    exact meet_vals hn hv h1.2
  constructor
  · intro g zs hz
    rw [← hm zs hz]; exact g zs hz
  · intro g zs hz
    rw [hm zs hz]; exact g zs hz
theorem xor_ones {x : Nat} (hx : x < 18446744073709551616) : 18446744073709551615 ^^^ x = 18446744073709551615 - x := by
  refine Nat.eq_of_testBit_eq fun i => ?_
  rw [Nat.testBit_xor]
  by_cases hi : i < 64
  · rw [testBit_compl hx hi, show (18446744073709551615 : Nat) = 2 ^ 64 - 1 from rfl, Nat.testBit_two_pow_sub_one, decide_eq_true hi]
    cases x.testBit i <;> rfl
  · rw [Nat.testBit_lt_two_pow (x := 18446744073709551615) (Nat.lt_of_lt_of_le (by decide : (18446744073709551615 : Nat) < 2 ^ 64) (Nat.pow_le_pow_right (by decide) (by omega))),
      Nat.testBit_lt_two_pow (x := x) (Nat.lt_of_lt_of_le hx (Nat.pow_le_pow_right (n := 2) (i := 64) (by decide) (by omega))),
      Nat.testBit_lt_two_pow (x := 18446744073709551615 - x) (Nat.lt_of_le_of_lt (Nat.sub_le _ _) (Nat.lt_of_lt_of_le (by decide : (18446744073709551615 : Nat) < 2 ^ 64) (Nat.pow_le_pow_right (by decide) (by omega))))]
    rfl
theorem compl_k {k : Nat} (h : k < 4096) : bits .xor .u64 IntKind.u64.max ((k : Int) * 2) = ((18446744073709551615 - 2 * k : Nat) : Int) := by
  rw [show (k : Int) * 2 = ((2 * k : Nat) : Int) by omega, show IntKind.u64.max = ((18446744073709551615 : Nat) : Int) from rfl, bits_xor_u64_nat _ _ (by decide) (by omega), xor_ones (by omega)]
theorem twice_k (k : Nat) : (k : Int) * 2 = ((2 * k : Nat) : Int) := by omega

set_option maxHeartbeats 1600000 in
theorem count_impl (vars : Int) (a : Option Addr) (len cap : Nat) (zss : List (List Int)) (w : World) (hr : IntRows w a len zss) :
    Calls Try.prog 7 #[.agg #[.int .i64 vars, .slice a len cap]] w fun e w' => e = .returned (.tuple #[.int .i64 (countN vars zss), .int .i64 (countCode vars zss)]) ∧ Below w.heap.size w w' := by
  have HR := hid hr
  have HL := hid hr.length
  clear hr
  cases hb : cnfB vars zss
  · have e1 : countN vars zss = 0 := by simp [countN, hb]
    have e2 : countCode vars zss = 1 := by simp [countCode, hb]
    rw [e1, e2]
    clear e1 e2
    go_enter Try.func7, Try.ntmps7
    go_wp2_with fail
    refine (cnfOK_impl vars a len cap zss _ (HR.out.below (by repeat (first | exact Below.refl _ _ | assumption | refine Below.drew ?_ | refine Below.alloc ?_ (by first | exact Nat.le_refl _ | omega | (simp; done) | (simp; omega)) _ | refine Below.setCell ?_ (by first | exact Nat.le_refl _ | omega | (simp; done) | (simp; omega)) _)))).mono ?_
    rintro e w1 ⟨rfl, hb1⟩
    have HB := hid ((show Below w.heap.size w _ from (by repeat (first | exact Below.refl _ _ | assumption | refine Below.drew ?_ | refine Below.alloc ?_ (by first | exact Nat.le_refl _ | omega | (simp; done) | (simp; omega)) _ | refine Below.setCell ?_ (by first | exact Nat.le_refl _ | omega | (simp; done) | (simp; omega)) _))).trans (hb1.mono (by simp)))
    clear hb1
    go_wp2
    go_ret2
    exact ⟨rfl, HB.out⟩
  obtain ⟨hv0, hv40, hlen⟩ := cnf_vars hb
  by_cases h12 : 12 < vars
  · have e1 : countN vars zss = 0 := by simp [countN, hb, h12]
    have e2 : countCode vars zss = 11 := by simp [countCode, hb, h12]
    rw [e1, e2]
    clear e1 e2
    go_enter Try.func7, Try.ntmps7
    go_wp2_with fail
    refine (cnfOK_impl vars a len cap zss _ (HR.out.below (by repeat (first | exact Below.refl _ _ | assumption | refine Below.drew ?_ | refine Below.alloc ?_ (by first | exact Nat.le_refl _ | omega | (simp; done) | (simp; omega)) _ | refine Below.setCell ?_ (by first | exact Nat.le_refl _ | omega | (simp; done) | (simp; omega)) _)))).mono ?_
    rintro e w1 ⟨rfl, hb1⟩
    have HB := hid ((show Below w.heap.size w _ from (by repeat (first | exact Below.refl _ _ | assumption | refine Below.drew ?_ | refine Below.alloc ?_ (by first | exact Nat.le_refl _ | omega | (simp; done) | (simp; omega)) _ | refine Below.setCell ?_ (by first | exact Nat.le_refl _ | omega | (simp; done) | (simp; omega)) _))).trans (hb1.mono (by simp)))
    have b0 : w1.cell? ⟨w.heap.size, 0, none⟩ = some (.int .i64 vars) := keep hb1 (by simp [go_sem])
    clear hb1
    go_wp2
    go_ret2
    exact ⟨rfl, HB.out⟩
  obtain ⟨v, rfl⟩ := Int.eq_ofNat_of_zero_le hv0
  obtain ⟨M, hM⟩ : ∃ M, M = 2 ^ v := ⟨_, rfl⟩
  have e1 : countN v zss = countTo v zss M := by rw [hM]; simp [countN, hb, h12]
  have e2 : countCode v zss = 0 := by simp [countCode, hb, h12]
  rw [e1, e2]
  clear e1 e2
  have HK := hid hb
  have HLen : Hid (zss.length ≤ 300) := hlen
  have hp := pow12 (vars := v) (by omega)
  rw [← hM] at hp
  have HM := hid hM
  clear hlen hM
  go_enter Try.func7, Try.ntmps7
  go_wp2_with fail
  refine (cnfOK_impl v a len cap zss _ (HR.out.below (by repeat (first | exact Below.refl _ _ | assumption | refine Below.drew ?_ | refine Below.alloc ?_ (by first | exact Nat.le_refl _ | omega | (simp; done) | (simp; omega)) _ | refine Below.setCell ?_ (by first | exact Nat.le_refl _ | omega | (simp; done) | (simp; omega)) _)))).mono ?_
  rintro e w1 ⟨rfl, hb1⟩
  have HB := hid ((show Below w.heap.size w _ from (by repeat (first | exact Below.refl _ _ | assumption | refine Below.drew ?_ | refine Below.alloc ?_ (by first | exact Nat.le_refl _ | omega | (simp; done) | (simp; omega)) _ | refine Below.setCell ?_ (by first | exact Nat.le_refl _ | omega | (simp; done) | (simp; omega)) _))).trans (hb1.mono (by simp)))
  have b0 : w1.cell? ⟨w.heap.size, 0, none⟩ = some (.int .i64 v) := keep hb1 (by simp [go_sem])
  have b1 : w1.cell? ⟨w.heap.size, 1, none⟩ = some (.slice a len cap) := keep hb1 (by simp [go_sem])
  clear hb1
  go_wp2_with fail
  have HLits : Hid (∀ i, i < len → ∀ z ∈ zss[i]?.getD [], z.natAbs < 41) := fun i hi z hz => by
    have := litB_range (cnf_abs HK.out i (by rw [HL.out]; exact hi) z hz)
    omega
  refine (setsOf_impl a len cap zss _ (HR.out.below HB.out) (by have := HLen.out; have := HL.out; omega) HLits.out).mono ?_
  rintro e w2 ⟨sv, rfl, hown, hb2⟩
  obtain ⟨a', cap', rfl, hrow⟩ := hown.form
  have HB2 := hid (HB.out.trans (hb2.mono HB.out.size))
  have HS := hid hrow
  replace b0 : w2.cell? ⟨w.heap.size, 0, none⟩ = some (.int .i64 v) := keep hb2 b0
  clear hb2 hown hrow b1
  have HW := hid (wrap_pow (n := v) (by omega))
  go_wp2
  rw [HW.out, ← HM.out]
  clear HW
  go_loopw [20, 5] (fun i t wr => ∃ k : Nat, k ≤ M ∧ i = .int .u64 k ∧ t = .int .i64 (countTo v zss k) ∧ Below w2.heap.size w2 wr) (fun i _ _ => M - (intOf i).toNat)
  case atStart => exact ⟨0, Nat.zero_le _, rfl, rfl, Below.refl _ _⟩
  case round =>
    obtain ⟨k, hk, rfl, rfl, hbel⟩ := hrel
    have HW := hid hbel
    have HC := hid (countTo_le v zss k)
    clear hbel
    by_cases hlt : k < M
    · go_wp2_with fail
      rw [compl_k (k := k) (by omega), twice_k k]
      refine (allMeet_impl a' zss.length cap' zss (2 * k) (18446744073709551615 - 2 * k) _ (HS.out.below HW.out) (by rw [HL.out]; exact HLits.out) (by omega) (by omega)).mono ?_
      rintro e w3 ⟨rfl, hb3⟩
      have HW3 := hid (HW.out.trans (hb3.mono HW.out.size))
      have HE := hid (cnf_meets (n := k) HK.out (by omega) (by omega))
      rw [HE.out]
      clear hb3
      cases hq : cnfT (valsOf k v) zss
      · have HN : Hid (countTo v zss (k + 1) = countTo v zss k) := by show countTo v zss k + _ = _; rw [hq]; rfl
        clear hq
        go_wp2
        go_roundw
        case rel => exact ⟨k + 1, by omega, by go_num, by rw [HN.out], HW3.out⟩
        case measure => simp [intOf]; omega
      · have HN : Hid (countTo v zss (k + 1) = countTo v zss k + 1) := by show countTo v zss k + _ = _; rw [hq]; rfl
        clear hq
        have hcn : countTo v zss k ≤ 4096 := by have := HC.out; omega
        generalize countTo v zss k = n at *
        go_wp2
        go_roundw
        case rel => exact ⟨k + 1, by omega, by go_num, by rw [HN.out]; rfl, HW3.out⟩
        case measure => simp [intOf]; omega
    · have e : k = M := by omega
      subst e
      go_wp2
      go_ret2
      exact ⟨rfl, HB2.out.trans (HW.out.mono HB2.out.size)⟩
end Go.Proofs.Ytiaecdjdkdcidaa.count
