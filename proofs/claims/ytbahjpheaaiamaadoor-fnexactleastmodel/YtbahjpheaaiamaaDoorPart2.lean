/- Cnf; Eval: one text, so that the claim has fewer files. -/
import Derived.Test.YtbahjpheaaiamaaDoorPart1
/- The contracts of the laws' helpers over formulas, and of what tells a literal, a clause and a right formula, of the program and of the specification; conditions: lengths that fit. -/
namespace Go.Proofs.YtbahjpheaaiamaaDoor.cnf
open Go.RowKit Go.Deep base copy

def litB (vars n : Int) : Bool := decide (n ≠ 0 ∧ -vars ≤ n ∧ n ≤ vars)
def clauseB (vars : Int) (zs : List Int) : Bool := decide (zs.length ≤ 12) && zs.all (litB vars)
def cnfB (vars : Int) (zss : List (List Int)) : Bool := decide (0 ≤ vars ∧ vars ≤ 40 ∧ zss.length ≤ 300) && zss.all (clauseB vars)

set_option maxHeartbeats 400000 in
theorem lit_impl (n vars : Int) (w : World) (h0 : 0 ≤ vars) (h1 : vars ≤ 40) :
    Calls Tryd.prog 53 #[.int .i64 n, .int .i64 vars] w fun e w' => e = .returned (.bool (litB vars n)) ∧ w' = w := by
  go_enter Tryd.func53, Tryd.ntmps53
  go_wp2
  all_goals
    go_ret
    refine ⟨ret_bool ?_, rfl⟩
    rw [Bool.eq_iff_iff]; simp [litB, *]; try omega

set_option maxHeartbeats 400000 in
theorem clause_impl (a : Option Addr) (len cap : Nat) (zs : List Int) (vars : Int) (w : World) (h0 : 0 ≤ vars) (h1 : vars ≤ 40) (hr : IntRow w a len zs) :
    Calls Tryd.prog 31 #[.slice a len cap, .int .i64 vars] w fun e w' => e = .returned (.bool (clauseB vars zs)) ∧ w' = w := by
  obtain ⟨hlen, hmost, hcell⟩ := hr
  unfold maxLen at hmost
  have HL := hid hlen
  have HC := hid hcell
  clear hlen hcell
  by_cases h12 : 12 < len
  · have hf : clauseB vars zs = false := by
      have : decide (zs.length ≤ 12) = false := decide_eq_false (by rw [HL.out]; omega)
      simp [clauseB, this]
    rw [hf]
    clear hf
    go_enter Tryd.func31, Tryd.ntmps31
    go_wp2
    go_ret
    exact ⟨rfl, rfl⟩
  have hN : Hid (clauseB vars zs = zs.all (litB vars)) := by
    show _ = _
    have : decide (zs.length ≤ 12) = true := decide_eq_true (by rw [HL.out]; omega)
    simp [clauseB, this]
  go_enter Tryd.func31, Tryd.ntmps31
  go_wp2
  go_loop [12] (fun i => ∃ k : Nat, k ≤ len ∧ i = .int .i64 k ∧ (zs.take k).all (litB vars) = true) (fun i => len - (intOf i).toNat)
  case atStart => exact ⟨0, Nat.zero_le _, rfl, rfl⟩
  case round =>
    obtain ⟨k, hk, rfl, ha⟩ := hrel
    have HA := hid ha
    clear ha
    by_cases hlt : k < len
    · obtain ⟨b, off, rfl, hc⟩ := HC.out k hlt
      by_cases hL : litB vars (zs[k]?.getD 0) = true
      · go_wp2_with (go_at_call 53; refine (lit_impl _ _ _ h0 h1).mono ?_; rintro e w' ⟨rfl, rfl⟩)
        go_round
        case rel => exact ⟨k + 1, by omega, by go_num, by rw [all_take_succ (d := 0) (by rw [HL.out]; omega), HA.out, hL]; rfl⟩
        case measure => simp [intOf]; omega
      · have hL' : litB vars (zs[k]?.getD 0) = false := by simpa using hL
        clear hL
        go_wp2_with (go_at_call 53; refine (lit_impl _ _ _ h0 h1).mono ?_; rintro e w' ⟨rfl, rfl⟩)
        go_ret
        exact ⟨ret_bool (by rw [hN.out, all_false (d := 0) (by rw [HL.out]; omega) hL']), rfl⟩
    · have e : k = len := by omega
      subst e
      go_wp2
      go_ret
      exact ⟨ret_bool (by rw [hN.out, ← HA.out, List.take_of_length_le (by rw [HL.out]; omega)]), rfl⟩

def inB (n low high : Int) : Bool := decide (low ≤ n ∧ n ≤ high)
set_option maxHeartbeats 400000 in
theorem in_spec (n low high : Int) (w : World) :
    Calls Tryd.prog 36 #[.int .i64 n, .int .i64 low, .int .i64 high] w fun e w' => e = .returned (.bool (inB n low high)) ∧ w' = w := by
  go_enter Tryd.func36, Tryd.ntmps36
  go_wp2
  all_goals
    go_ret
    refine ⟨ret_bool ?_, rfl⟩
    rw [Bool.eq_iff_iff]; simp [inB, *]; try omega

theorem lit_in {n vars : Int} (h : litB vars n = true) : (n == 0) = false ∧ inB n (-vars) vars = true := by
  simp [litB] at h
  exact ⟨by simp [h.1], by simp [inB]; omega⟩
theorem lit_out {n vars : Int} (h : litB vars n = false) (h0 : (n == 0) = false) : inB n (-vars) vars = false := by
  simp at h0
  simp [litB] at h
  simp [inB]
  intro h1
  have := h h0 h1
  omega
set_option maxHeartbeats 400000 in
theorem clause_spec (a : Option Addr) (len cap : Nat) (zs : List Int) (vars : Int) (w : World) (h0 : 0 ≤ vars) (h1 : vars ≤ 40) (hr : IntRow w a len zs) :
    Calls Tryd.prog 29 #[.slice a len cap, .int .i64 vars] w fun e w' => e = .returned (.bool (clauseB vars zs)) ∧ w' = w := by
  obtain ⟨hlen, hmost, hcell⟩ := hr
  unfold maxLen at hmost
  have HL := hid hlen
  have HC := hid hcell
  clear hlen hcell
  by_cases h12 : 12 < len
  · have hf : clauseB vars zs = false := by
      have : decide (zs.length ≤ 12) = false := decide_eq_false (by rw [HL.out]; omega)
      simp [clauseB, this]
    rw [hf]
    clear hf
    go_enter Tryd.func29, Tryd.ntmps29
    go_wp2
    go_ret
    exact ⟨rfl, rfl⟩
  have hN : Hid (clauseB vars zs = zs.all (litB vars)) := by
    show _ = _
    have : decide (zs.length ≤ 12) = true := decide_eq_true (by rw [HL.out]; omega)
    simp [clauseB, this]
  go_enter Tryd.func29, Tryd.ntmps29
  go_wp2
  go_loop [5] (fun i => ∃ k : Nat, k ≤ len ∧ i = .int .i64 k ∧ (zs.take k).all (litB vars) = true) (fun i => len - (intOf i).toNat)
  case atStart => exact ⟨0, Nat.zero_le _, rfl, rfl⟩
  case round =>
    obtain ⟨k, hk, rfl, ha⟩ := hrel
    have HA := hid ha
    clear ha
    by_cases hlt : k < len
    · obtain ⟨b, off, rfl, hc⟩ := HC.out k hlt
      by_cases hL : litB vars (zs[k]?.getD 0) = true
      · obtain ⟨hz, hi⟩ := lit_in hL
        go_wp2_with (go_at_call 36; refine (in_spec _ _ _ _).mono ?_; rintro e w' ⟨rfl, rfl⟩)
        go_round
        case rel => exact ⟨k + 1, by omega, by go_num, by rw [all_take_succ (d := 0) (by rw [HL.out]; omega), HA.out, hL]; rfl⟩
        case measure => simp [intOf]; omega
      · have hL' : litB vars (zs[k]?.getD 0) = false := by simpa using hL
        clear hL
        by_cases hz : (zs[k]?.getD 0 == 0) = true
        · go_wp2_with (go_at_call 36; refine (in_spec _ _ _ _).mono ?_; rintro e w' ⟨rfl, rfl⟩)
          go_ret
          exact ⟨ret_bool (by rw [hN.out, all_false (d := 0) (by rw [HL.out]; omega) hL']), rfl⟩
        · have hz' : (zs[k]?.getD 0 == 0) = false := by simpa using hz
          clear hz
          have hi := lit_out hL' hz'
          go_wp2_with (go_at_call 36; refine (in_spec _ _ _ _).mono ?_; rintro e w' ⟨rfl, rfl⟩)
          go_ret
          exact ⟨ret_bool (by rw [hN.out, all_false (d := 0) (by rw [HL.out]; omega) hL']), rfl⟩
    · have e : k = len := by omega
      subst e
      go_wp2
      go_ret
      exact ⟨ret_bool (by rw [hN.out, ← HA.out, List.take_of_length_le (by rw [HL.out]; omega)]), rfl⟩

set_option maxHeartbeats 400000 in
theorem toCnf (vars : Int) (a : Option Addr) (len cap : Nat) (zss : List (List Int)) (w : World) (hr : IntRows w a len zss) (hb : len ≤ 1048576) (hi : ∀ i, i < len → (zss[i]?.getD []).length ≤ 1048576) :
    Calls Tryd.prog 7 #[.agg #[.int .i64 vars, .slice a len cap]] w fun e w' => ∃ N, e = .returned (.agg #[.int .i64 vars, .slice (some ⟨N, 0, none⟩) len len]) ∧ w.heap.size ≤ N ∧ Below w.heap.size w w' ∧ Copied w' N zss := by
  have HI := hid hi
  clear hi
  go_enter Tryd.func7, Tryd.ntmps7
  go_wp2_with fail
  refine (toIntSS a len cap zss _ ?_ hb HI.out).mono ?_
  · exact hr.below (by repeat (first | exact Below.refl _ _ | assumption | refine Below.drew ?_ | refine Below.alloc ?_ (by first | exact Nat.le_refl _ | omega | (simp; done) | (simp; omega)) _ | refine Below.setCell ?_ (by first | exact Nat.le_refl _ | omega | (simp; done) | (simp; omega)) _))
  rintro e w1 ⟨rfl, hb1, hc1⟩
  obtain ⟨hc, hf⟩ := bcell hb1
  have hz : w.heap.size + 2 < w1.heap.size := by have := hb1.size; simp at this; omega
  have hw0 : Below w.heap.size w w1 := (show Below _ _ _ from (by repeat (first | exact Below.refl _ _ | assumption | refine Below.drew ?_ | refine Below.alloc ?_ (by first | exact Nat.le_refl _ | omega | (simp; done) | (simp; omega)) _ | refine Below.setCell ?_ (by first | exact Nat.le_refl _ | omega | (simp; done) | (simp; omega)) _))).trans (hb1.mono (by simp; omega))
  have HB := hid hb1
  have HC := hid hc1
  have H0 := hid hw0
  clear hb1 hc1 hw0
  go_wp2
  have hC := HC.out
  simp only [nblk_alloc] at hC
  refine bodyPost_ret (v := .agg #[.int .i64 vars, .slice (some ⟨w.heap.size + 1 + 1 + 1, 0, none⟩) len len]) (by simp [results, Tryd.results7, go_sem, hc]) rfl ⟨w.heap.size + 1 + 1 + 1, rfl, by omega, ?_, ?_⟩
  · exact ((H0.out.setCell (by simp; omega) _).setCell (by simp) _).setCell (by simp) _
  · exact ((hC.set (by simp) _).set (by simp) _).set (by simp) _

set_option maxHeartbeats 400000 in
theorem eqCnf (v v' : Int) (a a' : Option Addr) (len len' cap cap' : Nat) (zs ys : List (List Int)) (w : World) (hr : IntRows w a len zs) (hr' : IntRows w a' len' ys) :
    Calls Tryd.prog 10 #[.agg #[.int .i64 v, .slice a len cap], .agg #[.int .i64 v', .slice a' len' cap']] w fun e w' => e = .returned (.bool (decide (v = v' ∧ zs = ys))) ∧ Below w.heap.size w w' := by
  by_cases hv : v = v'
  · have hb : (v != v') = false := by simp [hv]
    have HV := hid hv
    clear hv
    go_enter Tryd.func10, Tryd.ntmps10
    go_wp2_with fail
    refine (eqIntSS a a' len len' cap cap' zs ys _ ?_ ?_).mono ?_
    · exact hr.below (by repeat (first | exact Below.refl _ _ | assumption | refine Below.drew ?_ | refine Below.alloc ?_ (by first | exact Nat.le_refl _ | omega | (simp; done) | (simp; omega)) _ | refine Below.setCell ?_ (by first | exact Nat.le_refl _ | omega | (simp; done) | (simp; omega)) _))
    · exact hr'.below (by repeat (first | exact Below.refl _ _ | assumption | refine Below.drew ?_ | refine Below.alloc ?_ (by first | exact Nat.le_refl _ | omega | (simp; done) | (simp; omega)) _ | refine Below.setCell ?_ (by first | exact Nat.le_refl _ | omega | (simp; done) | (simp; omega)) _))
    rintro e w1 ⟨rfl, n, rfl⟩
    by_cases he : zs = ys
    · have hd : decide (zs = ys) = true := decide_eq_true he
      have HE := hid he
      clear he
      go_wp2
      go_ret
      exact ⟨ret_bool (decide_eq_true ⟨HV.out, HE.out⟩).symm, (show Below _ _ _ from (by repeat (first | exact Below.refl _ _ | assumption | refine Below.drew ?_ | refine Below.alloc ?_ (by first | exact Nat.le_refl _ | omega | (simp; done) | (simp; omega)) _ | refine Below.setCell ?_ (by first | exact Nat.le_refl _ | omega | (simp; done) | (simp; omega)) _))).trans ((below_drewN _ n).mono (by simp; omega))⟩
    · have hd : decide (zs = ys) = false := decide_eq_false he
      have HE := hid he
      clear he
      go_wp2
      go_ret
      exact ⟨ret_bool (decide_eq_false (fun h => HE.out h.2)).symm, (show Below _ _ _ from (by repeat (first | exact Below.refl _ _ | assumption | refine Below.drew ?_ | refine Below.alloc ?_ (by first | exact Nat.le_refl _ | omega | (simp; done) | (simp; omega)) _ | refine Below.setCell ?_ (by first | exact Nat.le_refl _ | omega | (simp; done) | (simp; omega)) _))).trans ((below_drewN _ n).mono (by simp; omega))⟩
  · have hb : (v != v') = true := by simp [hv]
    have HV := hid hv
    clear hv
    go_enter Tryd.func10, Tryd.ntmps10
    go_wp2
    go_ret
    exact ⟨ret_bool (decide_eq_false (fun h => HV.out h.1)).symm, (by repeat (first | exact Below.refl _ _ | assumption | refine Below.drew ?_ | refine Below.alloc ?_ (by first | exact Nat.le_refl _ | omega | (simp; done) | (simp; omega)) _ | refine Below.setCell ?_ (by first | exact Nat.le_refl _ | omega | (simp; done) | (simp; omega)) _))⟩

theorem cnfB_bad {vars : Int} {zss : List (List Int)} (h : ¬ (0 ≤ vars ∧ vars ≤ 40 ∧ zss.length ≤ 300)) : cnfB vars zss = false := by
  have : decide (0 ≤ vars ∧ vars ≤ 40 ∧ zss.length ≤ 300) = false := decide_eq_false h
  simp [cnfB, this]
theorem cnfB_all {vars : Int} {zss : List (List Int)} (h : 0 ≤ vars ∧ vars ≤ 40 ∧ zss.length ≤ 300) : cnfB vars zss = zss.all (clauseB vars) := by
  have : decide (0 ≤ vars ∧ vars ≤ 40 ∧ zss.length ≤ 300) = true := decide_eq_true h
  simp [cnfB, this]

set_option maxHeartbeats 800000 in
theorem cnfOK_impl (vars : Int) (a : Option Addr) (len cap : Nat) (zss : List (List Int)) (w : World) (hr : IntRows w a len zss) :
    Calls Tryd.prog 22 #[.agg #[.int .i64 vars, .slice a len cap]] w fun e w' => e = .returned (.bool (cnfB vars zss)) ∧ Below w.heap.size w w' := by
  have hmost := hr.most
  unfold maxLen at hmost
  have HR := hid hr
  clear hr
  have HL := hid HR.out.length
  by_cases hbad : ¬ (0 ≤ vars ∧ vars ≤ 40 ∧ len ≤ 300)
  · have hf : cnfB vars zss = false := cnfB_bad (by rw [HL.out]; exact hbad)
    rw [hf]
    clear hf
    by_cases h1 : vars < 0
    · go_enter Tryd.func22, Tryd.ntmps22
      go_wp2
      go_ret
      exact ⟨rfl, (by repeat (first | exact Below.refl _ _ | assumption | refine Below.drew ?_ | refine Below.alloc ?_ (by first | exact Nat.le_refl _ | omega | (simp; done) | (simp; omega)) _ | refine Below.setCell ?_ (by first | exact Nat.le_refl _ | omega | (simp; done) | (simp; omega)) _))⟩
    have d1 : decide (vars < 0) = false := decide_eq_false h1
    by_cases h2 : (40 : Int) < vars
    · go_enter Tryd.func22, Tryd.ntmps22
      go_wp2
      go_ret
      exact ⟨rfl, (by repeat (first | exact Below.refl _ _ | assumption | refine Below.drew ?_ | refine Below.alloc ?_ (by first | exact Nat.le_refl _ | omega | (simp; done) | (simp; omega)) _ | refine Below.setCell ?_ (by first | exact Nat.le_refl _ | omega | (simp; done) | (simp; omega)) _))⟩
    have d2 : decide ((40 : Int) < vars) = false := decide_eq_false h2
    have h3 : (300 : Int) < (len : Int) := by omega
    go_enter Tryd.func22, Tryd.ntmps22
    go_wp2
    go_ret
    exact ⟨rfl, (by repeat (first | exact Below.refl _ _ | assumption | refine Below.drew ?_ | refine Below.alloc ?_ (by first | exact Nat.le_refl _ | omega | (simp; done) | (simp; omega)) _ | refine Below.setCell ?_ (by first | exact Nat.le_refl _ | omega | (simp; done) | (simp; omega)) _))⟩
  have hgood : 0 ≤ vars ∧ vars ≤ 40 ∧ len ≤ 300 := by omega
  clear hbad
  obtain ⟨h0, h1, h2⟩ := hgood
  have d1 : decide (vars < 0) = false := decide_eq_false (by omega)
  have d2 : decide ((40 : Int) < vars) = false := decide_eq_false (by omega)
  have d3 : decide ((300 : Int) < (len : Int)) = false := decide_eq_false (by omega)
  have hN := hid (cnfB_all (vars := vars) (zss := zss) (by rw [HL.out]; exact ⟨h0, h1, h2⟩))
  go_enter Tryd.func22, Tryd.ntmps22
  go_wp2
  go_loop [22] (fun i => ∃ k : Nat, k ≤ len ∧ i = .int .i64 k ∧ (zss.take k).all (clauseB vars) = true) (fun i => len - (intOf i).toNat)
  case atStart => exact ⟨0, Nat.zero_le _, rfl, rfl⟩
  case round =>
    obtain ⟨k, hk, rfl, ha⟩ := hrel
    have HA := hid ha
    clear ha
    by_cases hlt : k < len
    · obtain ⟨b, off, rfl, x, l, c, hc, hx⟩ := HR.out.cell k hlt
      have hbw : b < w.heap.size := World.block_lt_of_cell? _ _ hc
      have HX := hid hx
      clear hx
      by_cases hL : clauseB vars (zss[k]?.getD []) = true
      · go_wp2_with (go_at_call 31; refine (clause_impl _ _ _ _ _ _ h0 h1 (HX.out.below (by repeat (first | exact Below.refl _ _ | assumption | refine Below.drew ?_ | refine Below.alloc ?_ (by first | exact Nat.le_refl _ | omega | (simp; done) | (simp; omega)) _ | refine Below.setCell ?_ (by first | exact Nat.le_refl _ | omega | (simp; done) | (simp; omega)) _)))).mono ?_; rintro e w' ⟨rfl, rfl⟩)
        go_round
        case rel => exact ⟨k + 1, by omega, by go_num, by rw [all_take_succ (d := []) (by rw [HL.out]; omega), HA.out, hL]; rfl⟩
        case measure => simp [intOf]; omega
      · have hL' : clauseB vars (zss[k]?.getD []) = false := by simpa using hL
        clear hL
        go_wp2_with (go_at_call 31; refine (clause_impl _ _ _ _ _ _ h0 h1 (HX.out.below (by repeat (first | exact Below.refl _ _ | assumption | refine Below.drew ?_ | refine Below.alloc ?_ (by first | exact Nat.le_refl _ | omega | (simp; done) | (simp; omega)) _ | refine Below.setCell ?_ (by first | exact Nat.le_refl _ | omega | (simp; done) | (simp; omega)) _)))).mono ?_; rintro e w' ⟨rfl, rfl⟩)
        go_ret
        exact ⟨ret_bool (by rw [hN.out, all_false (d := []) (by rw [HL.out]; omega) hL']), (by repeat (first | exact Below.refl _ _ | assumption | refine Below.drew ?_ | refine Below.alloc ?_ (by first | exact Nat.le_refl _ | omega | (simp; done) | (simp; omega)) _ | refine Below.setCell ?_ (by first | exact Nat.le_refl _ | omega | (simp; done) | (simp; omega)) _))⟩
    · have e : k = len := by omega
      subst e
      go_wp2
      go_ret
      exact ⟨ret_bool (by rw [hN.out, ← HA.out, List.take_of_length_le (by rw [HL.out]; omega)]), (by repeat (first | exact Below.refl _ _ | assumption | refine Below.drew ?_ | refine Below.alloc ?_ (by first | exact Nat.le_refl _ | omega | (simp; done) | (simp; omega)) _ | refine Below.setCell ?_ (by first | exact Nat.le_refl _ | omega | (simp; done) | (simp; omega)) _))⟩

set_option maxHeartbeats 800000 in
theorem cnfOK_spec (vars : Int) (a : Option Addr) (len cap : Nat) (zss : List (List Int)) (w : World) (hr : IntRows w a len zss) :
    Calls Tryd.prog 19 #[.agg #[.int .i64 vars, .slice a len cap]] w fun e w' => e = .returned (.bool (cnfB vars zss)) ∧ Below w.heap.size w w' := by
  have hmost := hr.most
  unfold maxLen at hmost
  have HR := hid hr
  clear hr
  have HL := hid HR.out.length
  by_cases hv : ¬ (0 ≤ vars ∧ vars ≤ 40)
  · have hf : cnfB vars zss = false := cnfB_bad (by omega)
    rw [hf]
    clear hf
    have hi : inB vars 0 40 = false := decide_eq_false hv
    go_enter Tryd.func19, Tryd.ntmps19
    go_wp2_with (go_at_call 36; refine (in_spec _ _ _ _).mono ?_; rintro e w' ⟨rfl, rfl⟩)
    go_ret
    exact ⟨rfl, (by repeat (first | exact Below.refl _ _ | assumption | refine Below.drew ?_ | refine Below.alloc ?_ (by first | exact Nat.le_refl _ | omega | (simp; done) | (simp; omega)) _ | refine Below.setCell ?_ (by first | exact Nat.le_refl _ | omega | (simp; done) | (simp; omega)) _))⟩
  have hv' : 0 ≤ vars ∧ vars ≤ 40 := by omega
  clear hv
  have hi : inB vars 0 40 = true := decide_eq_true hv'
  obtain ⟨h0, h1⟩ := hv'
  by_cases h3 : (300 : Int) < (len : Int)
  · have hf : cnfB vars zss = false := cnfB_bad (by rw [HL.out]; omega)
    rw [hf]
    clear hf
    go_enter Tryd.func19, Tryd.ntmps19
    go_wp2_with (go_at_call 36; refine (in_spec _ _ _ _).mono ?_; rintro e w' ⟨rfl, rfl⟩)
    go_ret
    exact ⟨rfl, (by repeat (first | exact Below.refl _ _ | assumption | refine Below.drew ?_ | refine Below.alloc ?_ (by first | exact Nat.le_refl _ | omega | (simp; done) | (simp; omega)) _ | refine Below.setCell ?_ (by first | exact Nat.le_refl _ | omega | (simp; done) | (simp; omega)) _))⟩
  have d3 : decide ((300 : Int) < (len : Int)) = false := decide_eq_false h3
  have hN := hid (cnfB_all (vars := vars) (zss := zss) (by rw [HL.out]; omega))
  go_enter Tryd.func19, Tryd.ntmps19
  go_wp2_with (go_at_call 36; refine (in_spec _ _ _ _).mono ?_; rintro e w' ⟨rfl, rfl⟩)
  go_loopw [3] (fun i wr => ∃ k : Nat, k ≤ len ∧ i = .int .i64 k ∧ (zss.take k).all (clauseB vars) = true ∧ ∃ n, wr = (w.alloc (.cells #[.int .i64 vars, .slice a len cap] 29)).drewN n) (fun i _ => len - (intOf i).toNat)
  case atStart => exact ⟨0, Nat.zero_le _, rfl, rfl, 0, rfl⟩
  case round =>
    obtain ⟨k, hk, rfl, ha, n, hw⟩ := hrel
    have HA := hid ha
    clear ha
    have hB : Below w.heap.size w wr := by
      rw [hw]
      exact (show Below _ _ _ from (by repeat (first | exact Below.refl _ _ | assumption | refine Below.drew ?_ | refine Below.alloc ?_ (by first | exact Nat.le_refl _ | omega | (simp; done) | (simp; omega)) _ | refine Below.setCell ?_ (by first | exact Nat.le_refl _ | omega | (simp; done) | (simp; omega)) _))).trans ((below_drewN _ n).mono (by simp))
    have f0 : wr.cell? ⟨w.heap.size, 0, none⟩ = some (.int .i64 vars) := by rw [hw]; simp [go_sem]
    have f1 : wr.cell? ⟨w.heap.size, 1, none⟩ = some (.slice a len cap) := by rw [hw]; simp [go_sem]
    have HW := hid hw
    have HB := hid hB
    clear hw hB
    by_cases hlt : k < len
    · obtain ⟨b, off, rfl, x, l, c, hc0, hx0⟩ := HR.out.cell k hlt
      have hc := keep HB.out hc0
      have HX := hid (hx0.below HB.out)
      clear hx0 hc0
      by_cases hL : clauseB vars (zss[k]?.getD []) = true
      · go_wp2
        go_quiet ((go_at_call 29; exact Calls.quiet_of_same (clause_spec _ _ _ _ _ _ h0 h1 (HX.out.drewN _))))
        go_wp2
        go_roundw
        case rel => exact ⟨k + 1, by omega, by go_num, by rw [all_take_succ (d := []) (by rw [HL.out]; omega), HA.out, hL]; rfl, n + nq, by rw [HW.out, World.drewN_drewN]⟩
        case measure => simp [intOf]; omega
      · have hL' : clauseB vars (zss[k]?.getD []) = false := by simpa using hL
        clear hL
        go_wp2
        go_quiet ((go_at_call 29; exact Calls.quiet_of_same (clause_spec _ _ _ _ _ _ h0 h1 (HX.out.drewN _))))
        go_wp2
        go_ret
        exact ⟨ret_bool (by rw [hN.out, all_false (d := []) (by rw [HL.out]; omega) hL']), HB.out.trans ((below_drewN _ nq).mono HB.out.size)⟩
    · have e : k = len := by omega
      subst e
      go_wp2
      go_ret
      exact ⟨ret_bool (by rw [hN.out, ← HA.out, List.take_of_length_le (by rw [HL.out]; omega)]), HB.out⟩
end Go.Proofs.YtbahjpheaaiamaaDoor.cnf

/- The contracts of what tells whether values make a formula true, of the program and of the specification; conditions: lengths that fit. -/
namespace Go.Proofs.YtbahjpheaaiamaaDoor.eval
open Go.RowKit Go.Deep base copy cnf

set_option maxHeartbeats 400000 in
theorem abs_spec (n : Int) (w : World) (h0 : -4611686018427387904 ≤ n) (h1 : n ≤ 4611686018427387904) :
    Calls Tryd.prog 51 #[.int .i64 n] w fun e w' => e = .returned (.int .i64 (n.natAbs : Int)) ∧ w' = w := by
  go_enter Tryd.func51, Tryd.ntmps51
  go_wp2
  all_goals
    go_ret
    exact ⟨ret_int (by omega), rfl⟩

theorem cnf_vars {vars : Int} {zss : List (List Int)} (h : cnfB vars zss = true) : 0 ≤ vars ∧ vars ≤ 40 ∧ zss.length ≤ 300 := by
  simp only [cnfB, Bool.and_eq_true, decide_eq_true_eq] at h
  exact h.1

end Go.Proofs.YtbahjpheaaiamaaDoor.eval
