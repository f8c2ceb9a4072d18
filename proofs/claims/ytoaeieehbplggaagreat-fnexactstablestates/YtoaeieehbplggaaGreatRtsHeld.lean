/- Routes that hold the marks of a count; of the laws; conditions: the count is small. -/
import Derived.Test.YtoaeieehbplggaaGreatRouteRow
import Derived.Test.YtoaeieehbplggaaGreatIntsOwn
import Derived.Test.YtoaeieehbplggaaGreatCandSem
namespace Go.Proofs.YtoaeieehbplggaaGreat.rtsHeld
open Go.RowKit Go.Deep Go base routeRow intsOwn candSem
set_option linter.unusedVariables false

/-- What a marked row of routes holds. -/
def markR (n : Int) (i : Nat) : Rt := ⟨n + 4 * i, n + 4 * i + 1, n + 4 * i + 2, (n + 4 * i + 3).tmod 3 == 0⟩

set_option maxHeartbeats 1600000 in
theorem held_rts (a : Option Addr) (len cap : Nat) (n : Int) (w : World) (hr : RtRow w a len (markR n)) (hn0 : 0 ≤ n) (hn : n ≤ 2097152) (hl : len ≤ 1048576) :
    Calls Tryz.prog 44 #[.slice a len cap, .int .i64 n] w fun e w' => e = .returned (.int .i64 (n + 4 * len)) ∧ w' = w := by
  have HR := hid hr
  clear hr
  go_enter Tryz.func44, Tryz.ntmps44
  go_wp2
  go_loopw [5, 1] (fun i t wr => ∃ k : Nat, k ≤ len ∧ i = .int .i64 k ∧ t = .int .i64 (n + 4 * k) ∧ wr = w) (fun i _ _ => len - (intOf i).toNat)
  case atStart => exact ⟨0, Nat.zero_le _, rfl, by simp, rfl⟩
  case round =>
    obtain ⟨k, hk, rfl, rfl, hw⟩ := hrel
    subst hw
    by_cases hlt : k < len
    · obtain ⟨b, off, rfl, hc⟩ := HR.out.cell k hlt
      have c0 := hc 0 (by omega)
      have c1 := hc 1 (by omega)
      have c2 := hc 2 (by omega)
      have c3 := hc 3 (by omega)
      simp only [rc, markR, Nat.add_zero] at c0 c1 c2 c3
      clear hc
      have hk2 : (k : Int) ≤ 1048576 := by omega
      obtain ⟨m, hm⟩ : ∃ m : Int, n + 4 * (k : Int) = m := ⟨_, rfl⟩
      rw [hm] at c0 c1 c2 c3 ⊢
      have m0 : 0 ≤ m := by omega
      have m1 : m ≤ 6291456 := by omega
      have HM := hid hm
      clear hm
      have e3 : m + 3 = m + 1 + 1 + 1 := by omega
      rw [e3] at c3
      clear e3
      go_wp2
      all_goals
        go_roundw
        case rel => exact ⟨k + 1, by omega, by go_num, by have := HM.out; congr 1; omega, trivial⟩
        case measure => simp [intOf]; omega
    · have e : k = len := by omega
      subst e
      go_wp2
      go_ret
      exact ⟨rfl, rfl⟩

set_option maxHeartbeats 3200000 in
theorem mark_row (N len cap : Nat) (n : Int) (w : World) (h : ∃ f, w.rowIs N 126 (cap * 4) f) (hlc : len ≤ cap) (hcap : cap ≤ maxLen) (hn0 : 0 ≤ n) (hn : n ≤ 2097152) (hl : len ≤ 1048576) :
    Calls Tryz.prog 43 #[.slice (some ⟨N, 0, none⟩) len cap, .int .i64 n] w fun e w' => e = .returned (.int .i64 (n + 4 * len)) ∧ w.grownBy w' (some N) ∧ ∃ f, w'.rowIs N 126 (cap * 4) f ∧ ∀ i, i < len → ∀ j, j < 4 → f (i * 4 + j) = rc (markR n i) j := by
  have HO := hid h
  have HCap := hid hcap
  clear h hcap
  go_enter Tryz.func43, Tryz.ntmps43
  go_wp2
  go_loopw [5, 1] (fun i t wr => ∃ k : Nat, k ≤ len ∧ i = .int .i64 k ∧ t = .int .i64 (n + 4 * k) ∧ w.grownBy wr (some N) ∧ ∃ f, wr.rowIs N 126 (cap * 4) f ∧ ∀ i, i < k → ∀ j, j < 4 → f (i * 4 + j) = rc (markR n i) j) (fun i _ _ => len - (intOf i).toNat)
  case atStart =>
    obtain ⟨f, hf⟩ := HO.out
    exact ⟨0, Nat.zero_le _, rfl, by simp, grown_refl _ _, f, hf, fun i hi => absurd hi (Nat.not_lt_zero _)⟩
  case round =>
    obtain ⟨k, hk, rfl, rfl, hot, f, hf, hm⟩ := hrel
    have HT := hid hot
    have HF := hid hf
    have HM := hid hm
    clear hot hm
    by_cases hlt : k < len
    · have g0 := hf.cell (i := k * 4) (by omega)
      have z0 := hf.frozen (k * 4)
      have g1 := hf.cell (i := k * 4 + 1) (by omega)
      have z1 := hf.frozen (k * 4 + 1)
      have g2 := hf.cell (i := k * 4 + 2) (by omega)
      have z2 := hf.frozen (k * 4 + 2)
      have g3 := hf.cell (i := k * 4 + 3) (by omega)
      have z3 := hf.frozen (k * 4 + 3)
      clear hf
      obtain ⟨m, hm⟩ : ∃ m : Int, n + 4 * (k : Int) = m := ⟨_, rfl⟩
      rw [hm]
      have m0 : 0 ≤ m := by omega
      have m1 : m ≤ 6291456 := by omega
      have HMm := hid hm
      clear hm
      go_wp2
      all_goals
        go_roundw
        case rel =>
          refine ⟨k + 1, by omega, by go_num, by have := HMm.out; congr 1; omega, grown_set (grown_set (grown_set (grown_set HT.out))), _, ((((HF.out.set (k * 4) _).set (k * 4 + 1) _).set (k * 4 + 2) _).set (k * 4 + 3) _), fun i hi j hj => ?_⟩
          by_cases e : i = k
          · subst e
            have hmm := HMm.out
            match j, hj with
            | 0, _ => simp [rc, markR, hmm]
            | 1, _ => simp [rc, markR, hmm]
            | 2, _ => simp [rc, markR, hmm]; omega
            | 3, _ => simp [rc, markR, hmm]; rw [Int.tmod_eq_emod_of_nonneg (by omega), show m + 1 + 1 + 1 = m + 3 by omega]
          · rw [if_neg (by omega), if_neg (by omega), if_neg (by omega), if_neg (by omega)]
            exact HM.out i (by omega) j hj
        case measure => simp [intOf]; omega
    · have e : k = len := by omega
      subst e
      clear hf
      go_wp2
      go_ret
      exact ⟨rfl, HT.out, f, HF.out, HM.out⟩

theorem mark_nil (n : Int) (w : World) : Calls Tryz.prog 43 #[.slice none 0 0, .int .i64 n] w fun e w' => e = .returned (.int .i64 n) ∧ w' = w := by
  go_enter Tryz.func43, Tryz.ntmps43
  go_wp2
  go_loopw [5, 1] (fun i t wr => i = .int .i64 0 ∧ t = .int .i64 n ∧ wr = w) (fun _ _ _ => 0)
  case atStart => exact ⟨rfl, rfl, rfl⟩
  case round =>
    obtain ⟨rfl, rfl, hw⟩ := hrel
    subst hw
    go_wp2
    go_ret
    exact ⟨rfl, rfl⟩
/-- Marks of an answer that owns its memory. -/
theorem mark_own (B : Nat) (v : Value) (zs : List Rt) (n : Int) (w : World) (h : OwnRts B w v zs) (hn0 : 0 ≤ n) (hn : n ≤ 2097152) (hl : zs.length ≤ 1048576) :
    Calls Tryz.prog 43 #[v, .int .i64 n] w fun e w' => e = .returned (.int .i64 (n + 4 * zs.length)) ∧ w.grownBy w' v.ownBlock ∧ ∃ a cap, v = .slice a zs.length cap ∧ RtRow w' a zs.length (markR n) := by
  obtain ⟨_, h2⟩ := h
  rcases h2 with ⟨rfl, h0⟩ | ⟨g, cap, cur, rfl, hb, hh, hc, hm, hs, ht⟩
  · refine (mark_nil n w).mono ?_
    rintro e w' ⟨rfl, hw⟩
    subst hw
    rw [h0]
    exact ⟨by simp, grown_refl _ _, none, 0, rfl, by unfold maxLen; omega, fun i hi => absurd hi (Nat.not_lt_zero _)⟩
  · refine (mark_row g zs.length cap n w ⟨fun i => cur[i]?.getD (.bool false), cur, hh, hs, fun i hi => ?_⟩ hc hm hn0 hn hl).mono ?_
    · have h9 : i < cur.size := by omega
      simp [h9]
    rintro e w' ⟨rfl, hg, f, hf, hm2⟩
    refine ⟨rfl, hg, some ⟨g, 0, none⟩, cap, rfl, Nat.le_trans hc hm, fun i hi => ⟨g, 0, rfl, fun j hj => ?_⟩⟩
    have h7 := hf.cell (i := i * 4 + j) (by omega)
    rw [hm2 i hi j hj] at h7
    rw [Nat.zero_add]
    exact h7
end Go.Proofs.YtoaeieehbplggaaGreat.rtsHeld
