/- Of the program: a way by Vias has an end and does not come to another router; conditions: none. -/
import Derived.Test.YtmipoghemfopaaaGreatCandSem
namespace Go.Proofs.YtmipoghemfopaaaGreat.candClear
open Go.RowKit Go.Deep Go base netSem nbSem routeRow candSem
set_option linter.unusedVariables false

set_option maxHeartbeats 1600000 in
theorem clear_impl (a : Option Addr) (n cap : Nat) (rs : Rs) (fr other : Int) (w : World) (hr : RtRow w a n rs) (hv : ∀ i, i < n → (rs i).via < n) (hf : 0 ≤ fr) (hf2 : fr < n) :
    Calls Tryz.prog 68 #[.slice a n cap, .int .i64 fr, .int .i64 other] w fun e w' => e = .returned (.bool (!(thru rs other n fr))) ∧ Below w.heap.size w w' := by
  have HR := hid hr
  have HV := hid hv
  have mr := hr.most
  unfold maxLen at mr
  clear hr hv
  obtain ⟨m0, rfl⟩ : ∃ m : Nat, fr = (m : Int) := ⟨fr.toNat, by omega⟩
  obtain ⟨T, hT⟩ : ∃ T, thru rs other n (m0 : Int) = T := ⟨_, rfl⟩
  have HT := hid hT
  rw [hT]
  clear hT
  go_enter Tryz.func68, Tryz.ntmps68
  go_wp2
  go_loopw [9, 1] (fun i v wr => ∃ k m : Nat, k ≤ n ∧ m < n ∧ i = .int .i64 k ∧ v = .int .i64 m ∧ Below w.heap.size w wr ∧ thru rs other (n - k) (m : Int) = T) (fun i _ _ => n - (intOf i).toNat)
  case atStart => exact ⟨0, m0, Nat.zero_le _, by omega, rfl, rfl, (by repeat (first | exact Below.refl _ _ | assumption | refine Below.drew ?_ | refine Below.alloc ?_ (by first | exact Nat.le_refl _ | omega | (simp; done) | (simp; omega)) _ | refine Below.setCell ?_ (by first | exact Nat.le_refl _ | omega | (simp; done) | (simp; omega)) _)), HT.out⟩
  case round =>
    obtain ⟨k, m, hk, hm, rfl, rfl, hb, ht⟩ := hrel
    have HB := hid hb
    have HU := hid ht
    clear hb ht HT
    by_cases hlt : k < n
    · have HU2 : Hid ((if (m : Int) = other then true else if (m : Int) < 0 then false else if (rs m).via < 0 then false else thru rs other (n - k - 1) (rs m).via) = T) := hid (by
        have h := HU.out
        rw [show n - k = n - k - 1 + 1 from by omega] at h
        exact h)
      have HVm := hid (HV.out m hm)
      obtain ⟨b0, off, rfl, c0, c1, c2, c3⟩ := HR.out.at4 hm
      replace c0 := keep HB.out c0
      clear c1 c2 c3
      generalize (rs m).via = y at *
      clear HU
      by_cases h1 : (m : Int) = other
      · have e1 : ((m : Int) == other) = true := by simp [h1]
        have HT2 := HU2.out
        rw [if_pos h1] at HT2
        subst HT2
        clear h1 HU2
        go_wp2
        go_ret
        exact ⟨rfl, HB.out⟩
      have e1 : ((m : Int) == other) = false := by simp [h1]
      have HU3 := HU2.out
      rw [if_neg h1, if_neg (by omega)] at HU3
      clear h1 HU2
      by_cases h2 : y < 0
      · have e3 : decide (y < 0) = true := decide_eq_true h2
        rw [if_pos h2] at HU3
        subst HU3
        clear h2
        go_wp2
        go_ret
        exact ⟨rfl, HB.out⟩
      · have e3 : decide (y < 0) = false := decide_eq_false h2
        rw [if_neg h2] at HU3
        have HU4 := hid HU3
        clear HU3
        obtain ⟨m1, rfl⟩ : ∃ q : Nat, y = (q : Int) := ⟨y.toNat, by omega⟩
        clear h2
        go_wp2
        go_roundw
        case rel => exact ⟨k + 1, m1, by omega, by have := HVm.out; omega, by go_num, rfl, HB.out, by rw [show n - (k + 1) = n - k - 1 from by omega]; exact HU4.out⟩
        case measure => simp [intOf]; omega
    · have e : k = n := by omega
      subst e
      have HT2 := HU.out
      rw [Nat.sub_self] at HT2
      have HT3 : true = T := HT2
      subst HT3
      clear HT2 HU hlt
      go_wp2
      go_ret
      exact ⟨rfl, HB.out⟩
end Go.Proofs.YtmipoghemfopaaaGreat.candClear
