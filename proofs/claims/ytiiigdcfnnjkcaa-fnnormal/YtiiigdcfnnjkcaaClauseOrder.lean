/- Clauses in order: literal by literal, a beginning ahead; lists that rise by it and hold the same are one; with the contracts of the functions that compare clauses, of the program and of the specification; conditions: literals of at most 40 variables. -/
import Derived.Test.YtiiigdcfnnjkcaaInOrder
import Derived.Test.YtiiigdcfnnjkcaaMark
namespace Go.Proofs.Ytiiigdcfnnjkcaa.clauseOrder
open Go.RowKit Go.Deep base copy cnf eval own order sorted compare inOrder mark

def cmpL : List Int → List Int → Int
  | [], [] => 0
  | [], _ :: _ => -1
  | _ :: _, [] => 1
  | x :: a, y :: b => if rk x < rk y then -1 else if rk y < rk x then 1 else cmpL a b
theorem cmp_self : ∀ a, cmpL a a = 0
  | [] => rfl
  | x :: a => by unfold cmpL; rw [if_neg (by omega), if_neg (by omega)]; exact cmp_self a
theorem cmp_neg : ∀ a b, cmpL b a = -(cmpL a b)
  | [], [] => rfl
  | [], _ :: _ => rfl
  | _ :: _, [] => rfl
  | x :: a, y :: b => by
    unfold cmpL
    by_cases h1 : rk x < rk y
    · rw [if_pos h1, if_neg (by omega), if_pos h1]; rfl
    · by_cases h2 : rk y < rk x
      · rw [if_pos h2, if_neg h1, if_pos h2]
      · rw [if_neg h1, if_neg h2, if_neg h2, if_neg h1]; exact cmp_neg a b
theorem cmp_zero : ∀ {a b}, cmpL a b = 0 → a = b
  | [], [], _ => rfl
  | [], _ :: _, h => by simp [cmpL] at h
  | _ :: _, [], h => by simp [cmpL] at h
  | x :: a, y :: b, h => by
    unfold cmpL at h
    by_cases h1 : rk x < rk y
    · rw [if_pos h1] at h; cases h
    · by_cases h2 : rk y < rk x
      · rw [if_neg h1, if_pos h2] at h; cases h
      · rw [if_neg h1, if_neg h2] at h
        rw [rk_inj (show rk x = rk y by omega), cmp_zero h]
theorem cmp_trans : ∀ {a b c}, cmpL a b < 0 → cmpL b c < 0 → cmpL a c < 0
  | [], [], _, h, _ => by simp [cmpL] at h
  | _ :: _, [], _, h, _ => by simp [cmpL] at h
  | [], _ :: _, [], _, h => by simp [cmpL] at h
  | [], _ :: _, _ :: _, _, _ => by simp [cmpL]
  | _ :: _, _ :: _, [], _, h => by simp [cmpL] at h
  | x :: a, y :: b, z :: c, h1, h2 => by
    unfold cmpL at h1 h2 ⊢
    by_cases p1 : rk x < rk y
    · by_cases p2 : rk y < rk z
      · rw [if_pos (by omega)]; decide
      · by_cases p3 : rk z < rk y
        · rw [if_neg p2, if_pos p3] at h2; exact absurd h2 (by decide)
        · rw [if_pos (by omega)]; decide
    · by_cases q1 : rk y < rk x
      · rw [if_neg p1, if_pos q1] at h1; exact absurd h1 (by decide)
      · rw [if_neg p1, if_neg q1] at h1
        by_cases p2 : rk y < rk z
        · rw [if_pos (by omega)]; decide
        · by_cases p3 : rk z < rk y
          · rw [if_neg p2, if_pos p3] at h2; exact absurd h2 (by decide)
          · rw [if_neg p2, if_neg p3] at h2
            rw [if_neg (by omega), if_neg (by omega)]
            exact cmp_trans h1 h2
theorem cmp_one (a b : List Int) : cmpL a b = -1 ∨ cmpL a b = 0 ∨ cmpL a b = 1 := by
  induction a generalizing b with
  | nil => cases b <;> simp [cmpL]
  | cons x a ih =>
    cases b with
    | nil => simp [cmpL]
    | cons y b =>
      unfold cmpL
      split
      · exact .inl rfl
      · split
        · exact .inr (.inr rfl)
        · exact ih b
/-- Two lists that rise by a relation that never goes both ways, and hold the same, are one. -/
theorem rises_uniq {α : Type} {R : α → α → Prop} (hR : ∀ x y, R x y → ¬ R y x) : ∀ {a b : List α}, a.Pairwise R → b.Pairwise R → (∀ x, x ∈ a ↔ x ∈ b) → a = b
  | [], [], _, _, _ => rfl
  | [], y :: _, _, _, h => absurd ((h y).2 (List.mem_cons_self ..)) (by simp)
  | x :: _, [], _, _, h => absurd ((h x).1 (List.mem_cons_self ..)) (by simp)
  | x :: a, y :: b, ha, hb, h => by
    have ha' := List.pairwise_cons.1 ha
    have hb' := List.pairwise_cons.1 hb
    have e : x = y := by
      rcases List.mem_cons.1 ((h x).1 (List.mem_cons_self ..)) with e | hx
      · exact e
      · rcases List.mem_cons.1 ((h y).2 (List.mem_cons_self ..)) with e | hy
        · exact e.symm
        · exact absurd (ha'.1 y hy) (hR y x (hb'.1 x hx))
    subst e
    have hirr : ∀ z, ¬ R z z := fun z hz => hR z z hz hz
    have ht : a = b := rises_uniq hR ha'.2 hb'.2 (fun z => by
      have hz := h z
      simp only [List.mem_cons] at hz
      constructor
      · intro hm
        rcases hz.1 (.inr hm) with rfl | h2
        · exact absurd (ha'.1 z hm) (hirr z)
        · exact h2
      · intro hm
        rcases hz.2 (.inr hm) with rfl | h2
        · exact absurd (hb'.1 z hm) (hirr z)
        · exact h2)
    rw [ht]
theorem cmp_asym (a b : List Int) (h : cmpL a b < 0) : ¬ cmpL b a < 0 := by rw [cmp_neg a b]; omega
/-- The same beginning, then another literal, or an end. -/
theorem cmp_at {a b : List Int} : ∀ {k : Nat}, k < a.length → k < b.length → a.take k = b.take k → ¬ a[k]?.getD 0 = b[k]?.getD 0 → cmpL a b = sgn (rk (a[k]?.getD 0)) (rk (b[k]?.getD 0)) := by
  induction a generalizing b with
  | nil => intro k h; simp at h
  | cons x a ih =>
    intro k h1 h2 h3 h4
    cases b with
    | nil => simp at h2
    | cons y b =>
      cases k with
      | zero =>
        simp at h4 ⊢
        have hne : rk x ≠ rk y := fun e => h4 (rk_inj e)
        unfold cmpL sgn
        by_cases p : rk x < rk y
        · rw [if_pos p, if_pos p]
        · rw [if_neg p, if_neg p, if_pos (by omega), if_pos (by omega)]
      | succ k =>
        simp at h1 h2 h3 h4 ⊢
        obtain ⟨rfl, h3⟩ := h3
        have := ih (b := b) h1 h2 h3 (by simpa using h4)
        unfold cmpL
        rw [if_neg (by omega), if_neg (by omega), this]
theorem cmp_end {a b : List Int} (h : a.take b.length = b.take a.length) : cmpL a b = if a.length < b.length then -1 else if b.length < a.length then 1 else 0 := by
  induction a generalizing b with
  | nil => cases b <;> simp [cmpL]
  | cons x a ih =>
    cases b with
    | nil => simp [cmpL]
    | cons y b =>
      simp at h
      obtain ⟨rfl, h⟩ := h
      unfold cmpL
      rw [if_neg (by omega), if_neg (by omega), ih h]
      simp

set_option maxHeartbeats 800000 in
theorem less_spec (a b : Option Addr) (la ca lb cb : Nat) (za zb : List Int) (w : World) (hra : IntRow w a la za) (hrb : IntRow w b lb zb) (hza : ∀ i, i < la → -40 ≤ za[i]?.getD 0 ∧ za[i]?.getD 0 ≤ 40) (hzb : ∀ i, i < lb → -40 ≤ zb[i]?.getD 0 ∧ zb[i]?.getD 0 ≤ 40) :
    Calls Try.prog 39 #[.slice a la ca, .slice b lb cb] w fun e w' => e = .returned (.bool (decide (cmpL za zb < 0))) ∧ ∃ q, w' = w.drewN q := by
  have hma := hra.most
  have hmb := hrb.most
  unfold maxLen at hma hmb
  have HA := hid hra
  have HB := hid hrb
  have HLA := hid hra.length
  have HLB := hid hrb.length
  have HZA := hid hza
  have HZB := hid hzb
  clear hra hrb hza hzb
  go_enter Try.func39, Try.ntmps39
  go_wp2
  go_loopw [5] (fun i wr => ∃ k q : Nat, k ≤ la ∧ k ≤ lb ∧ i = .int .i64 k ∧ za.take k = zb.take k ∧ wr = w.drewN q) (fun i _ => la - (intOf i).toNat)
  case atStart => exact ⟨0, 0, Nat.zero_le _, Nat.zero_le _, rfl, rfl, rfl⟩
  case round =>
    obtain ⟨k, q, hk1, hk2, rfl, ht, hw⟩ := hrel
    have HT := hid ht
    clear ht
    by_cases h1 : k < la
    · by_cases h2 : k < lb
      · obtain ⟨b1, o1, rfl, hc0⟩ := HA.out.cell k h1
        obtain ⟨b2, o2, rfl, hd0⟩ := HB.out.cell k h2
        have hc : wr.cell? ⟨b1, o1 + k, none⟩ = some (.int .i64 (za[k]?.getD 0)) := by rw [hw]; simpa using hc0
        have hd : wr.cell? ⟨b2, o2 + k, none⟩ = some (.int .i64 (zb[k]?.getD 0)) := by rw [hw]; simpa using hd0
        have r1 := HZA.out k h1
        have r2 := HZB.out k h2
        have HW := hid hw
        clear hc0 hd0 hw
        have i1 : (k : Int) < (la : Int) := by omega
        have i2 : (k : Int) < (lb : Int) := by omega
        by_cases he : za[k]?.getD 0 = zb[k]?.getD 0
        · have hq : (za[k]?.getD 0 != zb[k]?.getD 0) = false := by simp [he]
          have HE := hid he
          clear he
          go_wp2
          go_quiet (fail)
          go_wp2
          go_roundw
          case rel => exact ⟨k + 1, q + nq, by omega, by omega, by go_num, take_eq_succ (by rw [HLA.out]; omega) (by rw [HLB.out]; omega) HT.out HE.out, by rw [HW.out, World.drewN_drewN]⟩
          case measure => simp [intOf]; omega
        · have hq : (za[k]?.getD 0 != zb[k]?.getD 0) = true := by simp [he]
          have HC := hid (cmp_at (by rw [HLA.out]; exact h1) (by rw [HLB.out]; exact h2) HT.out he)
          have HE := hid he
          clear he
          generalize za[k]?.getD 0 = x at *
          generalize zb[k]?.getD 0 = y at *
          go_wp2
          go_quiet (fail)
          go_wp2
          have hc' : (wr.drewN nq).cell? ⟨b1, o1 + k, none⟩ = some (.int .i64 x) := hc
          have hd' : (wr.drewN nq).cell? ⟨b2, o2 + k, none⟩ = some (.int .i64 y) := hd
          have HW2 : Hid (wr.drewN nq = w.drewN (q + nq)) := by show _ = _; rw [HW.out, World.drewN_drewN]
          clear hc hd HW
          generalize wr.drewN nq = W2 at *
          go_quiet ((go_at_call 64; exact Calls.quiet_of_same (before_spec _ _ _ r1 r2)))
          go_wp2
          go_ret
          refine ⟨ret_bool ?_, _, by rw [HW2.out, World.drewN_drewN]⟩
          rw [HC.out]
          unfold sgn
          by_cases p : rk x < rk y
          · rw [if_pos p]; simp [p]
          · rw [if_neg p]
            split <;> simp [p]
      · have e : k = lb := by omega
        have HE : Hid (decide (cmpL za zb < 0) = decide (la < lb)) := by
          show _ = _
          rw [cmp_end (by rw [HLA.out, HLB.out, ← e, HT.out, List.take_of_length_le (by rw [HLB.out]; omega), List.take_of_length_le (by rw [HLB.out]; omega)]), HLA.out, HLB.out, if_neg (by omega)]
          split <;> simp <;> omega
        have HW := hid hw
        clear hw e
        have i1 : (k : Int) < (la : Int) := by omega
        have i2 : ¬ (k : Int) < (lb : Int) := by omega
        go_wp2
        go_ret
        exact ⟨ret_bool (by rw [HE.out]), q, HW.out⟩
    · have e : k = la := by omega
      have HE : Hid (decide (cmpL za zb < 0) = decide (la < lb)) := by
        show _ = _
        rw [cmp_end (by rw [HLA.out, HLB.out, ← e, ← HT.out, List.take_of_length_le (by rw [HLA.out]; omega), List.take_of_length_le (by rw [HLA.out]; omega)]), HLA.out, HLB.out]
        split
        · simp; omega
        · split <;> simp <;> omega
      have HW := hid hw
      clear hw e
      have i1 : ¬ (k : Int) < (la : Int) := by omega
      go_wp2
      go_ret
      exact ⟨ret_bool (by rw [HE.out]), q, HW.out⟩
set_option maxHeartbeats 400000 in
theorem same_spec (a a' : Option Addr) (len len' cap cap' : Nat) (zs ys : List Int) (w : World) (hr : IntRow w a len zs) (hr' : IntRow w a' len' ys) :
    Calls Try.prog 40 #[.slice a len cap, .slice a' len' cap'] w fun e w' => e = .returned (.bool (decide (zs = ys))) ∧ ∃ n, w' = w.drewN n := by
  obtain ⟨hlen, hmost, hcell⟩ := hr
  obtain ⟨hlen', hmost', hcell'⟩ := hr'
  unfold maxLen at hmost hmost'
  have HC := hid hcell
  have HC' := hid hcell'
  have HL := hid hlen
  have HL' := hid hlen'
  clear hcell hcell' hlen hlen'
  by_cases hne : len = len'
  · subst hne
    have hb : ((len : Int) != (len : Int)) = false := by simp
    go_enter Try.func40, Try.ntmps40
    go_wp2
    go_loopw [5] (fun i wr => ∃ k : Nat, k ≤ len ∧ i = .int .i64 k ∧ zs.take k = ys.take k ∧ ∃ n, wr = w.drewN n) (fun i _ => len - (intOf i).toNat)
    case atStart => exact ⟨0, Nat.zero_le _, rfl, rfl, 0, rfl⟩
    case round =>
      obtain ⟨k, hk, rfl, ht, n, hw⟩ := hrel
      have HT := hid ht
      clear ht
      by_cases hlt : k < len
      · obtain ⟨b, off, rfl, hc0⟩ := HC.out k hlt
        obtain ⟨b', off', rfl, hc0'⟩ := HC'.out k hlt
        have hc : wr.cell? ⟨b, off + k, none⟩ = some (.int .i64 (zs[k]?.getD 0)) := by rw [hw]; simpa using hc0
        have hc' : wr.cell? ⟨b', off' + k, none⟩ = some (.int .i64 (ys[k]?.getD 0)) := by rw [hw]; simpa using hc0'
        have HW := hid hw
        clear hw hc0 hc0'
        by_cases he : zs[k]?.getD 0 = ys[k]?.getD 0
        · have hq : (zs[k]?.getD 0 != ys[k]?.getD 0) = false := by simp [he]
          have HE := hid he
          clear he
          go_wp2
          go_quiet (fail)
          go_wp2
          go_roundw
          case rel => exact ⟨k + 1, by omega, by go_num, take_eq_succ (by rw [HL.out]; omega) (by rw [HL'.out]; omega) HT.out HE.out, n + nq, by rw [HW.out, World.drewN_drewN]⟩
          case measure => simp [intOf]; omega
        · have hq : (zs[k]?.getD 0 != ys[k]?.getD 0) = true := by simp [he]
          have HE := hid he
          clear he
          go_wp2
          go_quiet (fail)
          go_wp2
          go_ret
          exact ⟨ret_bool (decide_eq_false (ne_of_getD HE.out)).symm, n + nq, by rw [HW.out, World.drewN_drewN]⟩
      · have e : k = len := by omega
        subst e
        have HW := hid hw
        clear hw
        go_wp2
        go_ret
        refine ⟨ret_bool (decide_eq_true ?_).symm, n, HW.out⟩
        have := HT.out
        rwa [List.take_of_length_le (by rw [HL.out]; omega), List.take_of_length_le (by rw [HL'.out]; omega)] at this
  · have hb : ((len : Int) != (len' : Int)) = true := by simp; omega
    have hd : ¬ zs = ys := fun h => hne (by rw [← HL.out, ← HL'.out, h])
    have HD := hid hd
    clear hd
    go_enter Try.func40, Try.ntmps40
    go_wp2
    go_ret
    exact ⟨ret_bool (decide_eq_false HD.out).symm, 0, rfl⟩

set_option maxHeartbeats 800000 in
theorem compareFunc_int (a b : Option Addr) (la ca lb cb : Nat) (za zb : List Int) (w : World) (hra : IntRow w a la za) (hrb : IntRow w b lb zb) (hza : ∀ i, i < la → -40 ≤ za[i]?.getD 0 ∧ za[i]?.getD 0 ≤ 40) (hzb : ∀ i, i < lb → -40 ≤ zb[i]?.getD 0 ∧ zb[i]?.getD 0 ≤ 40) :
    Calls Try.prog 63 #[.slice a la ca, .slice b lb cb, .func (.func 59) #[] #[]] w fun e w' => e = .returned (.int .i64 (cmpL za zb)) ∧ w' = w := by
  have hma := hra.most
  have hmb := hrb.most
  unfold maxLen at hma hmb
  have HA := hid hra
  have HB := hid hrb
  have HLA := hid hra.length
  have HLB := hid hrb.length
  have HZA := hid hza
  have HZB := hid hzb
  clear hra hrb hza hzb
  go_enter Try.func63, Try.ntmps63
  go_wp2
  go_loop [13] (fun i => ∃ k : Nat, k ≤ la ∧ k ≤ lb ∧ i = .int .i64 k ∧ za.take k = zb.take k) (fun i => la - (intOf i).toNat)
  case atStart => exact ⟨0, Nat.zero_le _, Nat.zero_le _, rfl, rfl⟩
  case round =>
    obtain ⟨k, hk1, hk2, rfl, ht⟩ := hrel
    have HT := hid ht
    clear ht
    by_cases h1 : k < la
    · obtain ⟨b1, o1, rfl, hc⟩ := HA.out.cell k h1
      by_cases h2 : k < lb
      · obtain ⟨b2, o2, rfl, hd⟩ := HB.out.cell k h2
        have r1 := HZA.out k h1
        have r2 := HZB.out k h2
        have i1 : (k : Int) < (la : Int) := by omega
        have i2 : (k : Int) < (lb : Int) := by omega
        by_cases he : za[k]?.getD 0 = zb[k]?.getD 0
        · have HE := hid he
          have HS := hid (take_eq_succ (by rw [HLA.out]; omega) (by rw [HLB.out]; omega) HT.out he)
          rw [he] at hc r1
          clear he
          generalize zb[k]?.getD 0 = y at *
          have hsg : sgn (rk y) (rk y) = 0 := by unfold sgn; rw [if_neg (by omega), if_neg (by omega)]
          go_wp2_with fail
          refine (lits_impl y y _ r1 r2).mono ?_
          rintro e w1 ⟨rfl, rfl⟩
          rw [hsg]
          go_wp2
          go_round
          case rel => exact ⟨k + 1, by omega, by omega, by go_num, HS.out⟩
          case measure => simp [intOf]; omega
        · have HC := hid (cmp_at (by rw [HLA.out]; exact h1) (by rw [HLB.out]; exact h2) HT.out he)
          have hne : rk (za[k]?.getD 0) ≠ rk (zb[k]?.getD 0) := fun h => he (rk_inj h)
          clear he
          generalize za[k]?.getD 0 = x at *
          generalize zb[k]?.getD 0 = y at *
          go_wp2_with fail
          refine (lits_impl x y _ r1 r2).mono ?_
          rintro e w1 ⟨rfl, rfl⟩
          rw [← HC.out]
          have hnz : (cmpL za zb != 0) = true := by
            have := HC.out
            unfold sgn at this
            rw [this]
            split
            · rfl
            · rw [if_pos (by omega)]; rfl
          obtain ⟨r, hr⟩ : ∃ r, cmpL za zb = r := ⟨_, rfl⟩
          rw [hr] at hnz ⊢
          have HR := hid hr
          clear hr HC
          go_wp2
          go_ret
          exact ⟨ret_int HR.out.symm, rfl⟩
      · have HE : Hid (cmpL za zb = 1) := by
          show _ = _
          rw [cmp_end (by rw [HLA.out, HLB.out, ← (show k = lb by omega), HT.out, List.take_of_length_le (by rw [HLB.out]; omega), List.take_of_length_le (by rw [HLB.out]; omega)]), HLA.out, HLB.out, if_neg (by omega), if_pos (by omega)]
        have i1 : (k : Int) < (la : Int) := by omega
        have i2 : (lb : Int) ≤ (k : Int) := by omega
        go_wp2
        go_ret
        exact ⟨ret_int HE.out.symm, rfl⟩
    · have HE : Hid (cmpL za zb = if la < lb then -1 else 0) := by
        show _ = _
        rw [cmp_end (by rw [HLA.out, HLB.out, ← (show k = la by omega), ← HT.out, List.take_of_length_le (by rw [HLA.out]; omega), List.take_of_length_le (by rw [HLA.out]; omega)]), HLA.out, HLB.out]
        split
        · rfl
        · rw [if_neg (by omega)]
      have i1 : ¬ (k : Int) < (la : Int) := by omega
      by_cases hl : la < lb
      · have i2 : (la : Int) < (lb : Int) := by omega
        go_wp2
        go_ret
        exact ⟨ret_int (by rw [HE.out, if_pos hl]), rfl⟩
      · have i2 : (lb : Int) ≤ (la : Int) := by omega
        go_wp2
        go_ret
        exact ⟨ret_int (by rw [HE.out, if_neg hl]), rfl⟩
set_option maxHeartbeats 400000 in
theorem clauses_impl (a b : Option Addr) (la ca lb cb : Nat) (za zb : List Int) (w : World) (hra : IntRow w a la za) (hrb : IntRow w b lb zb) (hza : ∀ i, i < la → -40 ≤ za[i]?.getD 0 ∧ za[i]?.getD 0 ≤ 40) (hzb : ∀ i, i < lb → -40 ≤ zb[i]?.getD 0 ∧ zb[i]?.getD 0 ≤ 40) :
    Calls Try.prog 34 #[.slice a la ca, .slice b lb cb] w fun e w' => e = .returned (.int .i64 (cmpL za zb)) ∧ w' = w := by
  have HA := hid hra
  have HB := hid hrb
  have HZA := hid hza
  have HZB := hid hzb
  clear hra hrb hza hzb
  go_enter Try.func34, Try.ntmps34
  go_wp2_with fail
  refine (compareFunc_int a b la ca lb cb za zb _ HA.out HB.out HZA.out HZB.out).mono ?_
  rintro e w1 ⟨rfl, rfl⟩
  go_wp2
  go_ret
  exact ⟨rfl, rfl⟩
end Go.Proofs.Ytiiigdcfnnjkcaa.clauseOrder
