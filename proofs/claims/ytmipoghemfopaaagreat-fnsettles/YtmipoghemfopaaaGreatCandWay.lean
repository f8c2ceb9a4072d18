/- Of the specification: where a number is in a list, whether a way by Vias comes to a router; conditions: none. -/
import Derived.Test.YtmipoghemfopaaaGreatCandSem
import Derived.Test.YtmipoghemfopaaaGreatNetSpec
namespace Go.Proofs.YtmipoghemfopaaaGreat.candWay
open Go.RowKit Go.Deep Go base names netSem netSpec nbSem routeRow candSem
set_option linter.unusedVariables false

set_option maxHeartbeats 800000 in
theorem has_spec (a : Option Addr) (len cap : Nat) (z : List Int) (v : Int) (w : World) (hr : IntRow w a len z) :
    Calls Tryz.prog 41 #[.slice a len cap, .int .i64 v] w fun e w' => e = .returned (.int .i64 (hasAt z v)) ∧ w' = w := by
  obtain ⟨hlen, hmost, hcell⟩ := hr
  unfold maxLen at hmost
  have HC := hid hcell
  have HL := hid hlen
  clear hcell hlen
  go_enter Tryz.func41, Tryz.ntmps41
  go_wp2
  go_loop [5] (fun i => ∃ k : Nat, k ≤ len ∧ i = .int .i64 k ∧ ∀ j, j < k → decide (zAt z j = v) = false) (fun i => len - (intOf i).toNat)
  case atStart => exact ⟨0, Nat.zero_le _, rfl, fun j hj => absurd hj (Nat.not_lt_zero _)⟩
  case round =>
    obtain ⟨k, hk, rfl, ha⟩ := hrel
    have HA := hid ha
    clear ha
    by_cases hlt : k < len
    · obtain ⟨b0, off, rfl, c0⟩ := HC.out k hlt
      have HZ : Hid (zAt z k = z[k]?.getD 0) := hid rfl
      generalize z[k]?.getD 0 = y at *
      obtain ⟨p1, e1⟩ : ∃ p, (y == v) = p := ⟨_, rfl⟩
      cases p1 with
      | true =>
        have HQ := hid (show decide (zAt z k = v) = true by rw [HZ.out]; simpa using e1)
        go_wp2
        go_ret
        exact ⟨ret_int (firstAt_hit (by rw [HL.out]; exact hlt) HQ.out HA.out).symm, rfl⟩
      | false =>
        have HQ := hid (show decide (zAt z k = v) = false by rw [HZ.out]; simpa using e1)
        go_wp2
        go_round
        case rel =>
          refine ⟨k + 1, by omega, by go_num, fun j hj => ?_⟩
          by_cases e : j = k
          · subst e; exact HQ.out
          · exact HA.out j (by omega)
        case measure => simp [intOf]; omega
    · have e : k = len := by omega
      have HA2 := hid (firstAt_none (p := fun i => decide (zAt z i = v)) (n := z.length) (fun i hi => HA.out i (by rw [e, ← HL.out]; exact hi)))
      subst e
      go_wp2
      go_ret
      exact ⟨ret_int HA2.out.symm, rfl⟩

set_option maxHeartbeats 1600000 in
theorem thru_spec (a : Option Addr) (n cap : Nat) (rs : Rs) (fr router : Int) (w : World) (hr : RtRow w a n rs) (hn : n ≤ 4) (hv : ∀ i, i < n → (rs i).via < n) (hf : 0 ≤ fr) (hf2 : fr < n) :
    Calls Tryz.prog 43 #[.slice a n cap, .int .i64 fr, .int .i64 router] w fun e w' => e = .returned (.bool (thru rs router (n + 1) fr)) ∧ Below w.heap.size w w' := by
  have HR := hid hr
  have HV := hid hv
  clear hr hv
  obtain ⟨m0, rfl⟩ : ∃ m : Nat, fr = (m : Int) := ⟨fr.toNat, by omega⟩
  obtain ⟨T, hT⟩ : ∃ T, thru rs router (n + 1) (m0 : Int) = T := ⟨_, rfl⟩
  have HT := hid hT
  rw [hT]
  clear hT
  go_enter Tryz.func43, Tryz.ntmps43
  go_wp2
  go_loopw [8, 7] (fun i v wr => ∃ k m : Nat, k ≤ n + 1 ∧ m < n ∧ i = .int .i64 k ∧ v = .int .i64 m ∧ Below w.heap.size w wr ∧ thru rs router (n + 1 - k) (m : Int) = T) (fun i _ _ => n + 1 - (intOf i).toNat)
  case atStart => exact ⟨0, m0, Nat.zero_le _, by omega, rfl, rfl, (by repeat (first | exact Below.refl _ _ | assumption | refine Below.drew ?_ | refine Below.alloc ?_ (by first | exact Nat.le_refl _ | omega | (simp; done) | (simp; omega)) _ | refine Below.setCell ?_ (by first | exact Nat.le_refl _ | omega | (simp; done) | (simp; omega)) _)), HT.out⟩
  case round =>
    obtain ⟨k, m, hk, hm, rfl, rfl, hb, ht⟩ := hrel
    have HB := hid hb
    have HU := hid ht
    clear hb ht HT
    by_cases hlt : k ≤ n
    · have HU2 : Hid ((if (m : Int) = router then true else if (m : Int) < 0 then false else if (rs m).via < 0 then false else thru rs router (n - k) (rs m).via) = T) := hid (by
        have h := HU.out
        rw [show n + 1 - k = n - k + 1 from by omega] at h
        exact h)
      have HVm := hid (HV.out m hm)
      obtain ⟨b0, off, rfl, c0, c1, c2, c3⟩ := HR.out.at4 hm
      replace c0 := keep HB.out c0
      replace c1 := keep HB.out c1
      replace c2 := keep HB.out c2
      replace c3 := keep HB.out c3
      generalize (rs m).via = y at *
      generalize (rs m).pref = y1 at *
      generalize (rs m).len = y2 at *
      generalize (rs m).mark = y3 at *
      clear HU
      by_cases h1 : (m : Int) = router
      · have e1 : ((m : Int) == router) = true := by simp [h1]
        have HT2 := HU2.out
        rw [if_pos h1] at HT2
        subst HT2
        clear h1 HU2
        go_wp2
        go_ret
        exact ⟨rfl, (by repeat (first | exact Below.refl _ _ | assumption | refine Below.drew ?_ | refine Below.alloc ?_ (by first | exact Nat.le_refl _ | omega | (simp; done) | (simp; omega)) _ | refine Below.setCell ?_ (by first | exact Nat.le_refl _ | omega | (simp; done) | (simp; omega)) _))⟩
      have e1 : ((m : Int) == router) = false := by simp [h1]
      have e2 : decide ((m : Int) < 0) = false := decide_eq_false (by omega)
      have HU3 := HU2.out
      rw [if_neg h1, if_neg (by omega)] at HU3
      clear h1 HU2
      by_cases h2 : y < 0
      · have e3 : decide (y < 0) = true := decide_eq_true h2
        rw [if_pos h2] at HU3
        subst HU3
        clear h2
        go_wp2
        go_ret
        exact ⟨rfl, HB.out.trans (by first | exact Below.refl _ _ | exact (by repeat (first | exact Below.refl _ _ | assumption | refine Below.drew ?_ | refine Below.alloc ?_ (by first | exact Nat.le_refl _ | omega | (simp; done) | (simp; omega)) _ | refine Below.setCell ?_ (by first | exact Nat.le_refl _ | omega | (simp; done) | (simp; omega)) _)))⟩
      · have e3 : decide (y < 0) = false := decide_eq_false h2
        rw [if_neg h2] at HU3
        have HU4 := hid HU3
        clear HU3
        obtain ⟨m1, rfl⟩ : ∃ q : Nat, y = (q : Int) := ⟨y.toNat, by omega⟩
        clear h2
        go_wp2
        go_roundw
        case rel => exact ⟨k + 1, m1, by omega, by have := HVm.out; omega, by go_num, rfl, (by repeat (first | exact Below.refl _ _ | assumption | refine Below.drew ?_ | refine Below.alloc ?_ (by first | exact Nat.le_refl _ | omega | (simp; done) | (simp; omega)) _ | refine Below.setCell ?_ (by first | exact Nat.le_refl _ | omega | (simp; done) | (simp; omega)) _)), by rw [show n + 1 - (k + 1) = n - k from by omega]; exact HU4.out⟩
        case measure => simp [intOf]; omega
    · have e : k = n + 1 := by omega
      subst e
      have HT2 := HU.out
      rw [Nat.sub_self] at HT2
      have HT3 : true = T := HT2
      subst HT3
      have e1 : decide (((n + 1 : Nat) : Int) ≤ (n : Int)) = false := decide_eq_false (by omega)
      clear HT2 HU hlt
      go_wp2
      go_ret
      exact ⟨rfl, HB.out⟩
end Go.Proofs.YtmipoghemfopaaaGreat.candWay
