/- Texts of numbers, of the program and of the specification; conditions: none. -/
import Derived.Test.YtffacjebnbplaaaGreatDoorPart1
namespace Go.Proofs.YtffacjebnbplaaaGreatDoor.numbers
open Go.RowKit base
set_option linter.unusedVariables false

def digB (n : Int) : Bool := decide (48 ≤ n ∧ n ≤ 57)
def digS (s : ByteArray) (i : Nat) : Int := (s.data.toList.getD i 0).toNat
theorem digS_eq (s : ByteArray) (i : Nat) (h : i < s.size) : digS s i = (s[i].toNat : Int) := by
  unfold digS
  rw [List.getD_eq_getElem?_getD, List.getElem?_eq_getElem (by simpa using h)]; rfl
/-- The digits up to k as a number. -/
def valS (s : ByteArray) : Nat → Int
  | 0 => 0
  | k + 1 => valS s k * 10 + (digS s k - 48)
def allS (s : ByteArray) : Nat → Bool
  | 0 => true
  | k + 1 => allS s k && digB (digS s k)
theorem allS_false {s : ByteArray} {k n : Nat} (h : k < n) (hp : digB (digS s k) = false) : allS s n = false := by
  induction n with
  | zero => omega
  | succ n ih =>
    by_cases e : k = n
    · subst e; simp [allS, hp]
    · simp [allS, ih (by omega)]
theorem val_bound {s : ByteArray} : ∀ k, allS s k = true → 0 ≤ valS s k ∧ valS s k < 10 ^ k
  | 0, _ => by simp [valS]
  | k + 1, h => by
    simp only [allS, Bool.and_eq_true] at h
    have h1 := val_bound k h.1
    have h2 : 48 ≤ digS s k ∧ digS s k ≤ 57 := of_decide_eq_true h.2
    rw [valS, Int.pow_succ]
    omega
set_option maxHeartbeats 400000 in
theorem dig_impl (n : Int) (w : World) :
    Calls Tryz.prog 74 #[.int .u8 n] w fun e w' => e = .returned (.bool (digB n)) ∧ w' = w := by
  go_enter Tryz.func74, Tryz.ntmps74
  go_wp2
  all_goals
    go_ret
    refine ⟨ret_bool ?_, rfl⟩
    rw [Bool.eq_iff_iff]; simp [digB]; try omega

/-- The text without its sign, and whether there is one. -/
def negS (s : ByteArray) : Bool := Lib.hasPrefix s.data.toList [45]
def cutS (s : ByteArray) : ByteArray := ⟨(Lib.trimPrefix s.data.toList [45]).toArray⟩
/-- Whether a text is a number's. -/
def isNum (s : ByteArray) : Bool := decide ((cutS s).size ≠ 0 ∧ (cutS s).size ≤ 18 ∧ ¬ (digS (cutS s) 0 = 48 ∧ s.toList ≠ [48])) && allS (cutS s) (cutS s).size
def numS (s : ByteArray) : Int := if isNum s then (if negS s then - valS (cutS s) (cutS s).size else valS (cutS s) (cutS s).size) else 0

theorem cut_impl (s : ByteArray) (w : World) :
    Calls Tryz.prog 84 #[.string s, .string ⟨#[45]⟩] w fun e w' => e = .returned (.tuple #[.string (cutS s), .bool (negS s)]) ∧ w' = w := by
  have h := Any.strings_CutPrefix Tryz.lays103 s ⟨#[45]⟩ w
  change Calls Tryz.prog 84 _ _ _ at h
  exact h
set_option maxHeartbeats 800000 in
theorem number_impl (s : ByteArray) (w : World) :
    Calls Tryz.prog 66 #[.string s] w fun e w' => e = .returned (.tuple #[.int .i64 (numS s), .bool (isNum s)]) ∧ w' = w := by
  have HC := hid (cut_impl s w)
  obtain ⟨D, hD⟩ : ∃ D, cutS s = D := ⟨_, rfl⟩
  obtain ⟨N, hN⟩ : ∃ N, negS s = N := ⟨_, rfl⟩
  obtain ⟨V, hV⟩ : ∃ V, numS s = V := ⟨_, rfl⟩
  obtain ⟨I, hI⟩ : ∃ I, isNum s = I := ⟨_, rfl⟩
  rw [hD, hN] at HC
  rw [hV, hI]
  have HI : Hid (I = (decide (D.size ≠ 0 ∧ D.size ≤ 18 ∧ ¬ (digS D 0 = 48 ∧ s.toList ≠ [48])) && allS D D.size)) := by
    show _ = _
    rw [← hI, ← hD]; rfl
  have HV : Hid (V = if I then (if N then - valS D D.size else valS D D.size) else 0) := by
    show _ = _
    rw [← hV, ← hI, ← hN, ← hD]; rfl
  clear hD hN hV hI
  by_cases h0 : D.size = 0
  · have hz : ((D.size : Int) == 0) = true := by simp [h0]
    have hI : I = false := by rw [HI.out]; simp [h0]
    have hV : V = 0 := by rw [HV.out, hI]; rfl
    subst hI hV
    clear HI HV
    go_enter Tryz.func66, Tryz.ntmps66
    go_wp2_with fail
    refine HC.out.mono ?_
    rintro e w1 ⟨rfl, rfl⟩
    go_wp2
    go_ret2
    exact ⟨rfl, rfl⟩
  have hz : ((D.size : Int) == 0) = false := beq_eq_false_iff_ne.2 (by omega)
  by_cases h1 : 18 < D.size
  · have hI : I = false := by
      rw [HI.out]
      have : decide (D.size ≠ 0 ∧ D.size ≤ 18 ∧ ¬ (digS D 0 = 48 ∧ s.toList ≠ [48])) = false := decide_eq_false (by omega)
      rw [this]; rfl
    have hV : V = 0 := by rw [HV.out, hI]; rfl
    subst hI hV
    clear HI HV
    have hd : decide ((18 : Int) < (D.size : Int)) = true := decide_eq_true (by omega)
    go_enter Tryz.func66, Tryz.ntmps66
    go_wp2_with fail
    refine HC.out.mono ?_
    rintro e w1 ⟨rfl, rfl⟩
    go_wp2
    go_ret2
    exact ⟨rfl, rfl⟩
  have hd : decide ((18 : Int) < (D.size : Int)) = false := decide_eq_false (by omega)
  have h0' : 0 < D.size := by omega
  have HB0 := hid (digS_eq D 0 h0')
  by_cases h2 : digS D 0 = 48 ∧ s.toList ≠ [48]
  · have hI : I = false := by
      rw [HI.out]
      have : decide (D.size ≠ 0 ∧ D.size ≤ 18 ∧ ¬ (digS D 0 = 48 ∧ s.toList ≠ [48])) = false := decide_eq_false (fun h => h.2.2 h2)
      rw [this]; rfl
    have hV : V = 0 := by rw [HV.out, hI]; rfl
    subst hI hV
    clear HI HV
    have hq : ((D[0].toNat : Int) == 48) = true := by rw [← HB0.out, h2.1]; rfl
    have hr : (s.toList == [48]) = false := beq_eq_false_iff_ne.2 h2.2
    clear h2
    go_enter Tryz.func66, Tryz.ntmps66
    go_wp2_with fail
    refine HC.out.mono ?_
    rintro e w1 ⟨rfl, rfl⟩
    go_wp2
    go_ret2
    exact ⟨rfl, rfl⟩
  have hIe : Hid (I = allS D D.size) := by
    show _ = _
    rw [HI.out]
    have : decide (D.size ≠ 0 ∧ D.size ≤ 18 ∧ ¬ (digS D 0 = 48 ∧ s.toList ≠ [48])) = true := decide_eq_true ⟨h0, by omega, h2⟩
    rw [this]; rfl
  have hcase : (((D[0].toNat : Int) == 48) = true ∧ (s.toList == [48]) = true) ∨ ((D[0].toNat : Int) == 48) = false := by
    rw [← HB0.out]
    by_cases hq : digS D 0 = 48
    · exact .inl ⟨by rw [hq]; rfl, beq_iff_eq.2 (Decidable.byContradiction fun hs => h2 ⟨hq, hs⟩)⟩
    · exact .inr (beq_eq_false_iff_ne.2 hq)
  clear HI h2 HB0
  rcases hcase with ⟨hq, hr⟩ | hq
  all_goals
    go_enter Tryz.func66, Tryz.ntmps66
    go_wp2_with fail
    refine HC.out.mono ?_
    rintro e w1 ⟨rfl, rfl⟩
    go_wp2
    go_loop [30, 6] (fun i n => ∃ k : Nat, k ≤ D.size ∧ i = .int .i64 k ∧ n = .int .i64 (valS D k) ∧ allS D k = true) (fun i _ => D.size - (intOf i).toNat)
    case atStart => exact ⟨0, Nat.zero_le _, rfl, rfl, rfl⟩
    case round =>
      obtain ⟨k, hk, rfl, rfl, ha⟩ := hrel
      have HA := hid ha
      have hvb := val_bound k ha
      have hp : (10 : Int) ^ k ≤ 10 ^ 18 := by
        have : (10 : Nat) ^ k ≤ 10 ^ 18 := Nat.pow_le_pow_right (by omega) (by omega)
        exact_mod_cast this
      have HVn := hid (show valS D (k + 1) = valS D k * 10 + (digS D k - 48) from rfl)
      clear ha
      by_cases hlt : k < D.size
      · have HBk := hid (digS_eq D k hlt)
        have hp17 : valS D k < 100000000000000000 := by
          have : (10 : Nat) ^ k ≤ 10 ^ 17 := Nat.pow_le_pow_right (by omega) (by omega)
          have : (10 : Int) ^ k ≤ 10 ^ 17 := by exact_mod_cast this
          omega
        have hv0 := hvb.1
        have HF := hid (fun (h : digB (digS D k) = false) => allS_false hlt h)
        have HS := hid (show allS D (k + 1) = (allS D k && digB (digS D k)) from rfl)
        rw [HBk.out] at HF HS HVn
        clear hvb hp
        by_cases hL : digB (D[k].toNat : Int) = true
        · have hx : 48 ≤ (D[k].toNat : Int) ∧ (D[k].toNat : Int) ≤ 57 := of_decide_eq_true hL
          obtain ⟨hx1, hx2⟩ := hx
          generalize hv : valS D k = v at *
          clear hv
          go_wp2_with (go_at_call 74; refine (dig_impl _ _).mono ?_; rintro e w' ⟨rfl, rfl⟩)
          exact ⟨⟨k + 1, by omega, by go_num, by rw [HVn.out]; congr 1; omega, by rw [HS.out, HA.out, hL]; rfl⟩, by simp [intOf]; omega⟩
        · have hL' : digB (D[k].toNat : Int) = false := by simpa using hL
          clear hL
          have hI : I = false := by rw [hIe.out]; exact HF.out hL'
          have hV : V = 0 := by rw [HV.out, hI]; rfl
          go_wp2_with (go_at_call 74; refine (dig_impl _ _).mono ?_; rintro e w' ⟨rfl, rfl⟩)
          go_ret2
          exact ⟨by rw [hI, hV]; rfl, rfl⟩
      · have e : k = D.size := by omega
        subst e
        have hI : I = true := by rw [hIe.out]; exact HA.out
        have hV : V = if N then - valS D D.size else valS D D.size := by rw [HV.out, hI]; rfl
        subst hI
        clear HV hIe
        have HVv := hid hV
        clear hV
        obtain ⟨hv0, hv1⟩ := hvb
        have hv2 : valS D D.size ≤ 1000000000000000000 := by omega
        clear hp hv1 HVn
        generalize valS D D.size = v at *
        cases N
        · go_wp2
          go_ret2
          exact ⟨by rw [HVv.out]; rfl, rfl⟩
        · go_wp2
          go_ret2
          exact ⟨by rw [HVv.out]; rfl, rfl⟩

theorem toList_data (s : ByteArray) : s.toList = s.data.toList := Lib.toList_data s
end Go.Proofs.YtffacjebnbplaaaGreatDoor.numbers
