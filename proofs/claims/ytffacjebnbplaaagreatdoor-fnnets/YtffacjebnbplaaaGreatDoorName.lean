/- The contracts of the functions that tell names: letters, digits, and what NameOK answers, of the program and of the specification; conditions: none. -/
import Derived.Test.YtffacjebnbplaaaGreatDoorPart1
namespace Go.Proofs.YtffacjebnbplaaaGreatDoor.names
open Go.RowKit base

def letB (n : Int) : Bool := decide (97 ≤ n ∧ n ≤ 122 ∨ 65 ≤ n ∧ n ≤ 90 ∨ n = 95)
def digB (n : Int) : Bool := decide (48 ≤ n ∧ n ≤ 57)

set_option maxHeartbeats 400000 in
theorem let_impl (n : Int) (w : World) :
    Calls Tryz.prog 73 #[.int .u8 n] w fun e w' => e = .returned (.bool (letB n)) ∧ w' = w := by
  go_enter Tryz.func73, Tryz.ntmps73
  go_wp2
  all_goals
    go_ret
    refine ⟨ret_bool ?_, rfl⟩
    rw [Bool.eq_iff_iff]; simp [letB]; try omega

set_option maxHeartbeats 400000 in
theorem let_spec (n : Int) (w : World) :
    Calls Tryz.prog 80 #[.int .u8 n] w fun e w' => e = .returned (.bool (letB n)) ∧ w' = w := by
  go_enter Tryz.func80, Tryz.ntmps80
  go_wp2
  all_goals
    go_ret
    refine ⟨ret_bool ?_, rfl⟩
    rw [Bool.eq_iff_iff]; simp [letB]; try omega

set_option maxHeartbeats 400000 in
theorem dig_impl (n : Int) (w : World) :
    Calls Tryz.prog 74 #[.int .u8 n] w fun e w' => e = .returned (.bool (digB n)) ∧ w' = w := by
  go_enter Tryz.func74, Tryz.ntmps74
  go_wp2
  all_goals
    go_ret
    refine ⟨ret_bool ?_, rfl⟩
    rw [Bool.eq_iff_iff]; simp [digB]; try omega

set_option maxHeartbeats 400000 in
theorem dig_spec (n : Int) (w : World) :
    Calls Tryz.prog 81 #[.int .u8 n] w fun e w' => e = .returned (.bool (digB n)) ∧ w' = w := by
  go_enter Tryz.func81, Tryz.ntmps81
  go_wp2
  all_goals
    go_ret
    refine ⟨ret_bool ?_, rfl⟩
    rw [Bool.eq_iff_iff]; simp [digB]; try omega

def allTo (p : Nat → Bool) : Nat → Bool
  | 0 => true
  | k + 1 => allTo p k && p k
theorem allTo_false {p : Nat → Bool} {k n : Nat} (h : k < n) (hp : p k = false) : allTo p n = false := by
  induction n with
  | zero => omega
  | succ n ih =>
    by_cases e : k = n
    · subst e; simp [allTo, hp]
    · simp [allTo, ih (by omega)]
def byt (s : ByteArray) (i : Nat) : Int := (s.data.toList.getD i 0).toNat
theorem byt_eq (s : ByteArray) (i : Nat) (h : i < s.size) : byt s i = (s[i].toNat : Int) := by
  unfold byt
  rw [List.getD_eq_getElem?_getD, List.getElem?_eq_getElem (by simpa using h)]; rfl
def good (s : ByteArray) (i : Nat) : Bool := letB (byt s i) || (decide (0 < i) && digB (byt s i))
def nameB (s : ByteArray) : Bool := decide (0 < s.size ∧ s.size ≤ 40) && allTo (good s) s.size

set_option maxHeartbeats 400000 in
theorem name_impl (s : ByteArray) (w : World) (hs : s.size ≤ maxLen) :
    Calls Tryz.prog 46 #[.string s] w fun e w' => e = .returned (.bool (nameB s)) ∧ w' = w := by
  unfold maxLen at hs
  by_cases h0 : s.size = 0
  · have hz : ((s.size : Int) == 0) = true := by simp [h0]
    have hf : nameB s = false := by simp [nameB, h0]
    rw [hf]
    clear hf
    go_enter Tryz.func46, Tryz.ntmps46
    go_wp2
    go_ret
    exact ⟨rfl, rfl⟩
  by_cases h1 : 40 < s.size
  · have hz : ((s.size : Int) == 0) = false := beq_eq_false_iff_ne.2 (by omega)
    have hf : nameB s = false := by
      have : decide (0 < s.size ∧ s.size ≤ 40) = false := decide_eq_false (by omega)
      simp [nameB, this]
    rw [hf]
    clear hf
    go_enter Tryz.func46, Tryz.ntmps46
    go_wp2
    go_ret
    exact ⟨rfl, rfl⟩
  have hz : ((s.size : Int) == 0) = false := beq_eq_false_iff_ne.2 (by omega)
  have hd : decide ((40 : Int) < (s.size : Int)) = false := by simp; omega
  have hN : Hid (nameB s = allTo (good s) s.size) := by
    show _ = _
    have : decide (0 < s.size ∧ s.size ≤ 40) = true := decide_eq_true (by omega)
    simp [nameB, this]
  go_enter Tryz.func46, Tryz.ntmps46
  go_wp2
  go_loop [14] (fun i => ∃ k : Nat, k ≤ s.size ∧ i = .int .i64 k ∧ allTo (good s) k = true) (fun i => s.size - (intOf i).toNat)
  case atStart => exact ⟨0, Nat.zero_le _, rfl, rfl⟩
  case round =>
    obtain ⟨k, hk, rfl, ha⟩ := hrel
    have HA : Hid (allTo (good s) k = true) := ha
    clear ha
    by_cases hlt : k < s.size
    · have HB : Hid (byt s k = (s[k].toNat : Int)) := byt_eq s k hlt
      by_cases hL : letB (s[k].toNat : Int) = true
      · have hg : Hid (good s k = true) := by show _ = _; simp [good, HB.out, hL]
        go_wp2_with (first | (go_at_call 73; refine (let_impl _ _).mono ?_; rintro e w' ⟨rfl, rfl⟩) | (go_at_call 74; refine (dig_impl _ _).mono ?_; rintro e w' ⟨rfl, rfl⟩))
        go_round
        case rel => exact ⟨k + 1, by omega, by go_num, by simp [allTo, HA.out, hg.out]⟩
        case measure => simp [intOf]; omega
      · have hL' : letB (s[k].toNat : Int) = false := by simpa using hL
        clear hL
        by_cases hk0 : k = 0
        · subst hk0
          have hg : Hid (good s 0 = false) := by show _ = _; simp [good, HB.out, hL']
          go_wp2_with (first | (go_at_call 73; refine (let_impl _ _).mono ?_; rintro e w' ⟨rfl, rfl⟩) | (go_at_call 74; refine (dig_impl _ _).mono ?_; rintro e w' ⟨rfl, rfl⟩))
          go_ret
          exact ⟨ret_bool (by rw [hN.out, allTo_false hlt hg.out]), rfl⟩
        · have hk1 : ((k : Int) == 0) = false := by simp; omega
          by_cases hD : digB (s[k].toNat : Int) = true
          · have hg : Hid (good s k = true) := by show _ = _; simp [good, HB.out, hD]; omega
            go_wp2_with (first | (go_at_call 73; refine (let_impl _ _).mono ?_; rintro e w' ⟨rfl, rfl⟩) | (go_at_call 74; refine (dig_impl _ _).mono ?_; rintro e w' ⟨rfl, rfl⟩))
            go_round
            case rel => exact ⟨k + 1, by omega, by go_num, by simp [allTo, HA.out, hg.out]⟩
            case measure => simp [intOf]; omega
          · have hD' : digB (s[k].toNat : Int) = false := by simpa using hD
            clear hD
            have hg : Hid (good s k = false) := by show _ = _; simp [good, HB.out, hL', hD']
            go_wp2_with (first | (go_at_call 73; refine (let_impl _ _).mono ?_; rintro e w' ⟨rfl, rfl⟩) | (go_at_call 74; refine (dig_impl _ _).mono ?_; rintro e w' ⟨rfl, rfl⟩))
            go_ret
            exact ⟨ret_bool (by rw [hN.out, allTo_false hlt hg.out]), rfl⟩
    · have e : k = s.size := by omega
      subst e
      go_wp2
      go_ret
      exact ⟨ret_bool (by rw [hN.out, HA.out]), rfl⟩

set_option maxHeartbeats 400000 in
theorem word_spec (s : ByteArray) (w : World) (hs : s.size ≤ maxLen) :
    Calls Tryz.prog 62 #[.string s] w fun e w' => e = .returned (.bool (nameB s)) ∧ w' = w := by
  unfold maxLen at hs
  by_cases h0 : s.size = 0
  · have hz : ((s.size : Int) < 1) := by omega
    have hf : nameB s = false := by simp [nameB, h0]
    rw [hf]
    clear hf
    go_enter Tryz.func62, Tryz.ntmps62
    go_wp2
    go_ret
    exact ⟨rfl, rfl⟩
  by_cases h1 : 40 < s.size
  · have hz : ¬ ((s.size : Int) < 1) := by omega
    have hf : nameB s = false := by
      have : decide (0 < s.size ∧ s.size ≤ 40) = false := decide_eq_false (by omega)
      simp [nameB, this]
    rw [hf]
    clear hf
    go_enter Tryz.func62, Tryz.ntmps62
    go_wp2
    go_ret
    exact ⟨rfl, rfl⟩
  have hz : decide ((s.size : Int) < 1) = false := by simp; omega
  have hd : decide ((40 : Int) < (s.size : Int)) = false := by simp; omega
  have hlt0 : 0 < s.size := by omega
  have hN : Hid (nameB s = allTo (good s) s.size) := by
    show _ = _
    have : decide (0 < s.size ∧ s.size ≤ 40) = true := decide_eq_true (by omega)
    simp [nameB, this]
  have HB0 : Hid (byt s 0 = (s[0].toNat : Int)) := byt_eq s 0 hlt0
  by_cases hL0 : letB (s[0].toNat : Int) = true
  · have hg0 : Hid (allTo (good s) 1 = true) := by show _ = _; simp [allTo, good, HB0.out, hL0]
    go_enter Tryz.func62, Tryz.ntmps62
    go_wp2_with (go_at_call 80; refine (let_spec _ _).mono ?_; rintro e w' ⟨rfl, rfl⟩)
    go_loop [3] (fun i => ∃ k : Nat, 1 ≤ k ∧ k ≤ s.size ∧ i = .int .i64 k ∧ allTo (good s) k = true) (fun i => s.size - (intOf i).toNat)
    case atStart => exact ⟨1, by omega, by omega, rfl, hg0.out⟩
    case round =>
      obtain ⟨k, hk1, hk, rfl, ha⟩ := hrel
      have HA : Hid (allTo (good s) k = true) := ha
      clear ha
      by_cases hlt : k < s.size
      · have HB : Hid (byt s k = (s[k].toNat : Int)) := byt_eq s k hlt
        by_cases hL : letB (s[k].toNat : Int) = true
        · have hg : Hid (good s k = true) := by show _ = _; simp [good, HB.out, hL]
          go_wp2_with (first | (go_at_call 80; refine (let_spec _ _).mono ?_; rintro e w' ⟨rfl, rfl⟩) | (go_at_call 81; refine (dig_spec _ _).mono ?_; rintro e w' ⟨rfl, rfl⟩))
          go_round
          case rel => exact ⟨k + 1, by omega, by omega, by go_num, by simp [allTo, HA.out, hg.out]⟩
          case measure => simp [intOf]; omega
        · have hL' : letB (s[k].toNat : Int) = false := by simpa using hL
          clear hL
          by_cases hD : digB (s[k].toNat : Int) = true
          · have hg : Hid (good s k = true) := by show _ = _; simp [good, HB.out, hD]; omega
            go_wp2_with (first | (go_at_call 80; refine (let_spec _ _).mono ?_; rintro e w' ⟨rfl, rfl⟩) | (go_at_call 81; refine (dig_spec _ _).mono ?_; rintro e w' ⟨rfl, rfl⟩))
            go_round
            case rel => exact ⟨k + 1, by omega, by omega, by go_num, by simp [allTo, HA.out, hg.out]⟩
            case measure => simp [intOf]; omega
          · have hD' : digB (s[k].toNat : Int) = false := by simpa using hD
            clear hD
            have hg : Hid (good s k = false) := by show _ = _; simp [good, HB.out, hL', hD']
            go_wp2_with (first | (go_at_call 80; refine (let_spec _ _).mono ?_; rintro e w' ⟨rfl, rfl⟩) | (go_at_call 81; refine (dig_spec _ _).mono ?_; rintro e w' ⟨rfl, rfl⟩))
            go_ret
            exact ⟨ret_bool (by rw [hN.out, allTo_false hlt hg.out]), rfl⟩
      · have e : k = s.size := by omega
        subst e
        go_wp2
        go_ret
        exact ⟨ret_bool (by rw [hN.out, HA.out]), rfl⟩
  · have hL' : letB (s[0].toNat : Int) = false := by simpa using hL0
    clear hL0
    have hg : Hid (good s 0 = false) := by show _ = _; simp [good, HB0.out, hL']
    go_enter Tryz.func62, Tryz.ntmps62
    go_wp2_with (go_at_call 80; refine (let_spec _ _).mono ?_; rintro e w' ⟨rfl, rfl⟩)
    go_ret
    exact ⟨ret_bool (by rw [hN.out, allTo_false hlt0 hg.out]), rfl⟩

set_option maxHeartbeats 400000 in
theorem name_spec (s : ByteArray) (w : World) (hs : s.size ≤ maxLen) :
    Calls Tryz.prog 34 #[.string s] w fun e w' => e = .returned (.bool (nameB s)) ∧ w' = w := by
  go_enter Tryz.func34, Tryz.ntmps34
  go_wp2_with (go_at_call 62; refine (word_spec _ _ hs).mono ?_; rintro e w' ⟨rfl, rfl⟩)
  go_ret
  exact ⟨rfl, rfl⟩
end Go.Proofs.YtffacjebnbplaaaGreatDoor.names
