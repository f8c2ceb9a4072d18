/- Whether a word is right, of the specification: for every tree that lies in memory; conditions: none. -/
import Derived.Test.YtikdadpapdkfiaaWordIs
namespace Go.Proofs.Ytikdadpapdkfiaa.wordSpec
open Go.RowKit Go.Deep base trees wordTrees wordIs
set_option linter.unusedVariables false

def inB (n low high : Int) : Bool := decide (low ≤ n ∧ n ≤ high)
set_option maxHeartbeats 400000 in
theorem in_spec (n low high : Int) (w : World) :
    Calls Try.prog 19 #[.int .i64 n, .int .i64 low, .int .i64 high] w fun e w' => e = .returned (.bool (inB n low high)) ∧ w' = w := by
  go_enter Try.func19, Try.ntmps19
  go_wp2
  all_goals
    go_ret
    refine ⟨ret_bool ?_, rfl⟩
    rw [Bool.eq_iff_iff]; simp [inB, *]; try omega

/-- What is left of m nodes, -1 if that is not enough. -/
def leftOf (d : Nat) (t : T) (m : Nat) : Int := if size d t ≤ m then (m : Int) - size d t else -1
def LeftW (d : Nat) : Prop := ∀ (t : T) (a : Option Addr) (l c m : Nat) (w : World), Rd (fun _ => True) 1048576 w d t a l → m ≤ 9 →
    Calls Try.prog 34 #[.agg #[.int .i64 (kd t), .int .i64 (nn t), .slice a l c], .int .i64 (m : Int)] w fun e w' => e = .returned (.int .i64 (leftOf d t m)) ∧ Below w.heap.size w w'

set_option maxHeartbeats 800000 in
theorem leftW (d : Nat) : LeftW d := by
  induction d using Nat.strongRecOn with
  | _ d ih =>
  intro t a l c m w hr hm
  have HL := hid hr.len
  have HZ := hid hr.zero
  have hmost := hr.most
  have HR := hid hr
  have HI := hid ih
  have HSP := hid (size_pos hr.zero)
  clear hr ih
  go_enter Try.func34, Try.ntmps34
  go_wp2
  go_loopw [5, 1] (fun i v wr => ∃ (j : Nat) (r : Int), j ≤ l ∧ i = .int .i64 j ∧ v = .int .i64 r ∧ Below w.heap.size w wr ∧ wr.cell? ⟨w.heap.size, 2, none⟩ = some (.slice a l c) ∧ -1 ≤ r ∧ r ≤ 9 ∧
    (0 ≤ r → r = (m : Int) - 1 - sumTo (fun i => size (d - 1) (kid t i)) j) ∧ (r < 0 → leftOf d t m = -1)) (fun i _ _ => l - (intOf i).toNat)
  case atStart =>
    refine ⟨0, (m : Int) - 1, Nat.zero_le _, rfl, by go_num, (by repeat (first | exact Below.refl _ _ | assumption | refine Below.drew ?_ | refine Below.alloc ?_ (by first | exact Nat.le_refl _ | omega | (simp; done) | (simp; omega)) _ | refine Below.setCell ?_ (by first | exact Nat.le_refl _ | omega | (simp; done) | (simp; omega)) _)), by simp [go_sem], by omega, by omega, fun _ => by simp [sumTo], fun h => ?_⟩
    have := HSP.out
    unfold leftOf; rw [if_neg (by omega)]
  case round =>
    obtain ⟨j, r, hj, rfl, rfl, hb, hce, hr0, hr1, hp, hn⟩ := hrel
    have HB := hid hb
    have HP := hid hp
    have HN := hid hn
    clear hb hp hn
    by_cases hneg : r < 0
    · have d3 : decide ((0 : Int) ≤ r) = false := decide_eq_false (by omega)
      by_cases hlt : j < l
      · go_wp2
        go_ret
        exact ⟨ret_int (by rw [HN.out hneg]; omega), HB.out⟩
      · go_wp2
        go_ret
        exact ⟨ret_int (by rw [HN.out hneg]; omega), HB.out⟩
    have d3 : decide ((0 : Int) ≤ r) = true := decide_eq_true (by omega)
    by_cases hlt : j < l
    · obtain ⟨hd0, b, off, rfl, hq, hc0, hc1, a', l', c', hc2, hrow⟩ := HR.out.cell hlt
      replace hc0 := keep HB.out hc0
      replace hc1 := keep HB.out hc1
      replace hc2 := keep HB.out hc2
      have HX := hid (hrow.below HB.out)
      have HIE := hid (HI.out (d - 1) (by omega))
      clear hrow
      obtain ⟨r', rfl⟩ : ∃ r' : Nat, r = (r' : Int) := ⟨r.toNat, by omega⟩
      go_wp2_with fail
      refine (HIE.out (kid t j) a' l' c' r' _ (HX.out.below (by repeat (first | exact Below.refl _ _ | assumption | refine Below.drew ?_ | refine Below.alloc ?_ (by first | exact Nat.le_refl _ | omega | (simp; done) | (simp; omega)) _ | refine Below.setCell ?_ (by first | exact Nat.le_refl _ | omega | (simp; done) | (simp; omega)) _))) (by omega)).mono ?_
      rintro e w1 ⟨rfl, hb1⟩
      have hce1 := keep hb1 hce
      have HB1 := hid (HB.out.trans (hb1.mono HB.out.size))
      clear hb1
      have hlo : -1 ≤ leftOf (d - 1) (kid t j) r' ∧ leftOf (d - 1) (kid t j) r' ≤ 9 ∧ (0 ≤ leftOf (d - 1) (kid t j) r' → size (d - 1) (kid t j) ≤ r' ∧ leftOf (d - 1) (kid t j) r' = (r' : Int) - size (d - 1) (kid t j)) ∧ (leftOf (d - 1) (kid t j) r' < 0 → ¬ size (d - 1) (kid t j) ≤ r') := by
        unfold leftOf
        split <;> omega
      generalize leftOf (d - 1) (kid t j) r' = q at *
      obtain ⟨q0, q1, q2, q3⟩ := hlo
      have Q2 := hid q2
      have Q3 := hid q3
      clear q2 q3
      go_wp2
      go_roundw
      case rel =>
        have e1 := HP.out (by omega)
        refine ⟨j + 1, q, by omega, by go_num, rfl, HB1.out, hce1, q0, q1, fun h => ?_, fun h => ?_⟩
        · obtain ⟨p1, p3⟩ := Q2.out h
          rw [p3, sumTo_succ]; omega
        · have h1 := Q3.out h
          have h2 := sumTo_le (f := fun i => size (d - 1) (kid t i)) (show j + 1 ≤ ln t by rw [HL.out]; exact hlt)
          rw [sumTo_succ] at h2
          unfold leftOf
          rw [size_eq HZ.out, if_neg (by omega)]
      case measure => simp [intOf]; omega
    · have e : j = l := by omega
      subst e
      go_wp2
      go_ret
      have e1 := HP.out (by omega)
      refine ⟨ret_int ?_, HB.out⟩
      unfold leftOf
      rw [size_eq HZ.out, HL.out]
      rw [if_pos (by omega)]
      omega

theorem kids_cases (k : Int) : k = 1 ∨ k = 2 ∨ (k = 3 ∨ k = 4 ∨ k = 5) ∨ (kidsW k = -1 ∧ (k == 1) = false ∧ (k == 2) = false ∧ (k == 3) = false ∧ (k == 4) = false ∧ (k == 5) = false) := by
  by_cases h : k = 1 ∨ k = 2 ∨ k = 3 ∨ k = 4 ∨ k = 5
  · omega
  · right; right; right
    refine ⟨?_, ?_, ?_, ?_, ?_, ?_⟩
    · unfold kidsW; rw [if_neg (by omega), if_neg (by omega)]
    all_goals simp; omega
def RightW (b d : Nat) : Prop := ∀ (t : T) (a : Option Addr) (l c : Nat) (w : World), Rd (fun _ => True) 1048576 w d t a l →
    Calls Try.prog 35 #[.agg #[.int .i64 (kd t), .int .i64 (nn t), .slice a l c], .int .i64 (b : Int)] w fun e w' => e = .returned (.bool (rightW b d t)) ∧ Below w.heap.size w w'
theorem right_leaf {b d : Nat} {t : T} (h0 : d = 0 → ln t = 0) (h1 : kidsW (kd t) = 0) : rightW b d t = (inB (nn t) 0 (mostW b (kd t)) && decide ((ln t : Int) = 0)) := by
  rw [rightW_eq h0]
  by_cases e : ln t = 0
  · rw [e]; simp [allTo, shapeW, inB, h1, e]
  · have : shapeW b t = false := decide_eq_false (by omega)
    rw [this]; simp [e]

/-- Two kids that lie in one row. -/
theorem two_kids {q : Nat → Prop} {M d : Nat} {w : World} {t : T} {a : Option Addr} (h : Rd q M w d t a 2) : 0 < d ∧ ∃ b off, a = some ⟨b, off, none⟩ ∧ ∃ x lx cx y ly cy,
    (w.cell? ⟨b, off, none⟩ = some (.int .i64 (kd (kid t 0))) ∧ w.cell? ⟨b, off + 1, none⟩ = some (.int .i64 (nn (kid t 0))) ∧ w.cell? ⟨b, off + 2, none⟩ = some (.slice x lx cx)) ∧
    (w.cell? ⟨b, off + 3, none⟩ = some (.int .i64 (kd (kid t 1))) ∧ w.cell? ⟨b, off + 3 + 1, none⟩ = some (.int .i64 (nn (kid t 1))) ∧ w.cell? ⟨b, off + 3 + 2, none⟩ = some (.slice y ly cy)) ∧
    Rd q M w (d - 1) (kid t 0) x lx ∧ Rd q M w (d - 1) (kid t 1) y ly := by
  obtain ⟨h0, b, off, rfl, _, c0, c1, x, lx, cx, c2, hx⟩ := h.cell (i := 0) (by omega)
  obtain ⟨_, b', off', e, _, e0, e1, y, ly, cy, e2, hy⟩ := h.cell (i := 1) (by omega)
  cases e
  exact ⟨h0, b, off, rfl, x, lx, cx, y, ly, cy, ⟨by simpa using c0, by simpa using c1, by simpa using c2⟩, ⟨by simpa using e0, by simpa using e1, by simpa using e2⟩, hx, hy⟩

set_option maxHeartbeats 1600000 in
theorem rightW_spec (b : Nat) (hb1 : 1 ≤ b) (hb2 : b ≤ 6) (d : Nat) : RightW b d := by
  induction d using Nat.strongRecOn with
  | _ d ih =>
  intro t a l c w hr
  have HL := hid hr.len
  have HZ := hid hr.zero
  have hmost := hr.most
  have HR := hid hr
  have HI := hid ih
  clear hr ih
  have hsh : shapeW b t = decide ((l : Int) = kidsW (kd t) ∧ 0 ≤ nn t ∧ nn t ≤ mostW b (kd t)) := by unfold shapeW; rw [HL.out]
  rcases kids_cases (kd t) with h | h | h | h
  · have e := right_leaf (b := b) HZ.out (by rw [h]; rfl)
    rw [h, HL.out] at e
    rw [h, e]
    clear h e hsh
    generalize nn t = nk
    rcases bits_most hb1 hb2 with ⟨rfl, e1, -⟩ | ⟨rfl, e1, -⟩ | ⟨rfl, e1, -⟩ | ⟨rfl, e1, -⟩ | ⟨rfl, e1, -⟩ | ⟨rfl, e1, -⟩
    all_goals
      rw [e1]
      clear e1
      cases hi : inB nk 0 _ with
      | false =>
        go_enter Try.func35, Try.ntmps35
        go_wp2_with (go_at_call 19; refine (in_spec _ _ _ _).mono ?_; rintro e w' ⟨rfl, rfl⟩)
        go_ret
        exact ⟨rfl, (by repeat (first | exact Below.refl _ _ | assumption | refine Below.drew ?_ | refine Below.alloc ?_ (by first | exact Nat.le_refl _ | omega | (simp; done) | (simp; omega)) _ | refine Below.setCell ?_ (by first | exact Nat.le_refl _ | omega | (simp; done) | (simp; omega)) _))⟩
      | true =>
        by_cases hl : l = 0
        · subst hl
          go_enter Try.func35, Try.ntmps35
          go_wp2_with (go_at_call 19; refine (in_spec _ _ _ _).mono ?_; rintro e w' ⟨rfl, rfl⟩)
          go_ret
          exact ⟨rfl, (by repeat (first | exact Below.refl _ _ | assumption | refine Below.drew ?_ | refine Below.alloc ?_ (by first | exact Nat.le_refl _ | omega | (simp; done) | (simp; omega)) _ | refine Below.setCell ?_ (by first | exact Nat.le_refl _ | omega | (simp; done) | (simp; omega)) _))⟩
        · have hl' : ((l : Int) == 0) = false := by simp [hl]
          have hl2 : decide ((l : Int) = 0) = false := decide_eq_false (by omega)
          rw [hl2]
          clear hl hl2
          go_enter Try.func35, Try.ntmps35
          go_wp2_with (go_at_call 19; refine (in_spec _ _ _ _).mono ?_; rintro e w' ⟨rfl, rfl⟩)
          go_ret
          exact ⟨rfl, (by repeat (first | exact Below.refl _ _ | assumption | refine Below.drew ?_ | refine Below.alloc ?_ (by first | exact Nat.le_refl _ | omega | (simp; done) | (simp; omega)) _ | refine Below.setCell ?_ (by first | exact Nat.le_refl _ | omega | (simp; done) | (simp; omega)) _))⟩
  · have e := right_leaf (b := b) HZ.out (by rw [h]; rfl)
    rw [h, HL.out] at e
    rw [h, e]
    clear h e hsh
    generalize nn t = nk
    rcases bits_most hb1 hb2 with ⟨rfl, -, e1⟩ | ⟨rfl, -, e1⟩ | ⟨rfl, -, e1⟩ | ⟨rfl, -, e1⟩ | ⟨rfl, -, e1⟩ | ⟨rfl, -, e1⟩
    all_goals
      rw [e1]
      clear e1
      by_cases h1 : 0 ≤ nk
      · have d1 : decide (0 ≤ nk) = true := decide_eq_true h1
        cases h2 : inB nk 0 _ with
        | true =>
          have h3 := of_decide_eq_true h2
          try have d12 : decide (nk < 12) = true := decide_eq_true (by omega)
          try have d6 : decide (nk < 6) = true := decide_eq_true (by omega)
          try have d4 : decide (nk < 4) = true := decide_eq_true (by omega)
          try have d3 : decide (nk < 3) = true := decide_eq_true (by omega)
          try have d2 : decide (nk < 2) = true := decide_eq_true (by omega)
          have hq : ((l : Int) == 0) = decide ((l : Int) = 0) := by rw [Bool.eq_iff_iff]; simp
          rw [Bool.true_and, ← hq]
          clear h2 h3 hq h1
          go_enter Try.func35, Try.ntmps35
          go_wp2
          go_quiet (fail)
          go_wp2
          go_ret
          exact ⟨rfl, bdn (by repeat (first | exact Below.refl _ _ | assumption | refine Below.drew ?_ | refine Below.alloc ?_ (by first | exact Nat.le_refl _ | omega | (simp; done) | (simp; omega)) _ | refine Below.setCell ?_ (by first | exact Nat.le_refl _ | omega | (simp; done) | (simp; omega)) _)) _⟩
        | false =>
          have h3 := of_decide_eq_false h2
          try have d12 : decide (nk < 12) = false := decide_eq_false (by omega)
          try have d6 : decide (nk < 6) = false := decide_eq_false (by omega)
          try have d4 : decide (nk < 4) = false := decide_eq_false (by omega)
          try have d3 : decide (nk < 3) = false := decide_eq_false (by omega)
          try have d2 : decide (nk < 2) = false := decide_eq_false (by omega)
          rw [Bool.false_and]
          clear h2 h3 h1
          go_enter Try.func35, Try.ntmps35
          go_wp2
          go_quiet (fail)
          go_wp2
          go_ret
          exact ⟨rfl, bdn (by repeat (first | exact Below.refl _ _ | assumption | refine Below.drew ?_ | refine Below.alloc ?_ (by first | exact Nat.le_refl _ | omega | (simp; done) | (simp; omega)) _ | refine Below.setCell ?_ (by first | exact Nat.le_refl _ | omega | (simp; done) | (simp; omega)) _)) _⟩
      · have d1 : decide (0 ≤ nk) = false := decide_eq_false h1
        cases h2 : inB nk 0 _ with
        | true =>
          have h3 := of_decide_eq_true h2
          omega
        | false =>
          rw [Bool.false_and]
          clear h2 h1
          go_enter Try.func35, Try.ntmps35
          go_wp2
          go_quiet (fail)
          go_wp2
          go_ret
          exact ⟨rfl, bdn (by repeat (first | exact Below.refl _ _ | assumption | refine Below.drew ?_ | refine Below.alloc ?_ (by first | exact Nat.le_refl _ | omega | (simp; done) | (simp; omega)) _ | refine Below.setCell ?_ (by first | exact Nat.le_refl _ | omega | (simp; done) | (simp; omega)) _)) _⟩
  · have hm : mostW b (kd t) = 0 := by unfold mostW; rw [if_neg (by omega), if_neg (by omega)]
    have hk2 : kidsW (kd t) = 2 := by unfold kidsW; rw [if_neg (by omega), if_pos h]
    by_cases hn : nn t = 0
    · by_cases hk : l = 2
      · have hs : shapeW b t = true := by rw [hsh]; exact decide_eq_true ⟨by omega, by omega, by omega⟩
        have hN : rightW b d t = (rightW b (d - 1) (kid t 0) && rightW b (d - 1) (kid t 1)) := by rw [rightW_eq HZ.out, hs, Bool.true_and, HL.out, hk]; simp [allTo]
        have HN := hid hN
        clear hs hN hm hsh
        subst hk
        rw [HN.out, hn]
        obtain ⟨hd0, bb, off, rfl, x, lx, cx, y, ly, cy, ⟨c0, c1, c2⟩, ⟨c3, c4, c5⟩, hx, hy⟩ := two_kids HR.out
        have hbb : bb < w.heap.size := World.block_lt_of_cell? _ _ c0
        have HX := hid hx
        have HY := hid hy
        have HIE := hid (HI.out (d - 1) (by omega))
        clear hx hy
        rcases h with h | h | h
        all_goals
          rw [h]
          clear h hk2
          cases r0 : rightW b (d - 1) (kid t 0) with
          | false =>
            go_enter Try.func35, Try.ntmps35
            go_wp2_with fail
            refine (HIE.out (kid t 0) x lx cx _ (HX.out.below (by repeat (first | exact Below.refl _ _ | assumption | refine Below.drew ?_ | refine Below.alloc ?_ (by first | exact Nat.le_refl _ | omega | (simp; done) | (simp; omega)) _ | refine Below.setCell ?_ (by first | exact Nat.le_refl _ | omega | (simp; done) | (simp; omega)) _)))).mono ?_
            rintro e w1 ⟨rfl, hb1⟩
            have HB1 := hid ((show Below w.heap.size w _ from (by repeat (first | exact Below.refl _ _ | assumption | refine Below.drew ?_ | refine Below.alloc ?_ (by first | exact Nat.le_refl _ | omega | (simp; done) | (simp; omega)) _ | refine Below.setCell ?_ (by first | exact Nat.le_refl _ | omega | (simp; done) | (simp; omega)) _))).trans (hb1.mono (by simp)))
            clear hb1
            rw [r0]
            go_wp2
            go_ret
            exact ⟨rfl, HB1.out⟩
          | true =>
            go_enter Try.func35, Try.ntmps35
            go_wp2_with fail
            refine (HIE.out (kid t 0) x lx cx _ (HX.out.below (by repeat (first | exact Below.refl _ _ | assumption | refine Below.drew ?_ | refine Below.alloc ?_ (by first | exact Nat.le_refl _ | omega | (simp; done) | (simp; omega)) _ | refine Below.setCell ?_ (by first | exact Nat.le_refl _ | omega | (simp; done) | (simp; omega)) _)))).mono ?_
            rintro e w1 ⟨rfl, hb1⟩
            have b2 : w1.cell? ⟨w.heap.size, 2, none⟩ = some (.slice (some ⟨bb, off, none⟩) 2 c) := keep hb1 (by simp [go_sem])
            have HB1 := hid ((show Below w.heap.size w _ from (by repeat (first | exact Below.refl _ _ | assumption | refine Below.drew ?_ | refine Below.alloc ?_ (by first | exact Nat.le_refl _ | omega | (simp; done) | (simp; omega)) _ | refine Below.setCell ?_ (by first | exact Nat.le_refl _ | omega | (simp; done) | (simp; omega)) _))).trans (hb1.mono (by simp)))
            replace c3 := keep HB1.out c3
            replace c4 := keep HB1.out c4
            replace c5 := keep HB1.out c5
            clear hb1
            rw [r0]
            go_wp2_with fail
            refine (HIE.out (kid t 1) y ly cy _ (HY.out.below HB1.out)).mono ?_
            rintro e w2 ⟨rfl, hb2⟩
            have HB2 := hid (HB1.out.trans (hb2.mono HB1.out.size))
            clear hb2
            go_wp2
            go_ret
            exact ⟨rfl, HB2.out⟩
      · have hF : rightW b d t = false := by
          rw [rightW_eq HZ.out]
          have : shapeW b t = false := by rw [hsh]; exact decide_eq_false (by omega)
          rw [this]; rfl
        rw [hF, hn]
        have dk : ((l : Int) == 2) = false := by simp; omega
        clear hF hsh hm hn hk2 hk
        rcases h with h | h | h
        all_goals
          rw [h]
          clear h
          go_enter Try.func35, Try.ntmps35
          go_wp2
          go_ret
          exact ⟨rfl, (by repeat (first | exact Below.refl _ _ | assumption | refine Below.drew ?_ | refine Below.alloc ?_ (by first | exact Nat.le_refl _ | omega | (simp; done) | (simp; omega)) _ | refine Below.setCell ?_ (by first | exact Nat.le_refl _ | omega | (simp; done) | (simp; omega)) _))⟩
    · have hF : rightW b d t = false := by
        rw [rightW_eq HZ.out]
        have : shapeW b t = false := by rw [hsh]; exact decide_eq_false (by omega)
        rw [this]; rfl
      rw [hF]
      clear hF hsh hm hk2
      have dn : (nn t == 0) = false := by simp [hn]
      clear hn
      generalize nn t = nk at *
      rcases h with h | h | h
      all_goals
        rw [h]
        clear h
        go_enter Try.func35, Try.ntmps35
        go_wp2
        go_ret
        exact ⟨rfl, (by repeat (first | exact Below.refl _ _ | assumption | refine Below.drew ?_ | refine Below.alloc ?_ (by first | exact Nat.le_refl _ | omega | (simp; done) | (simp; omega)) _ | refine Below.setCell ?_ (by first | exact Nat.le_refl _ | omega | (simp; done) | (simp; omega)) _))⟩
  · obtain ⟨e0, e1, e2, e3, e4, e5⟩ := h
    have hF : rightW b d t = false := by
      rw [rightW_eq HZ.out]
      have : shapeW b t = false := by rw [hsh, e0]; exact decide_eq_false (by omega)
      rw [this]; rfl
    rw [hF]
    clear hF hsh e0
    generalize kd t = kk at *
    generalize nn t = nk at *
    go_enter Try.func35, Try.ntmps35
    go_wp2
    go_ret
    exact ⟨rfl, (by repeat (first | exact Below.refl _ _ | assumption | refine Below.drew ?_ | refine Below.alloc ?_ (by first | exact Nat.le_refl _ | omega | (simp; done) | (simp; omega)) _ | refine Below.setCell ?_ (by first | exact Nat.le_refl _ | omega | (simp; done) | (simp; omega)) _))⟩

set_option maxHeartbeats 400000 in
theorem wordOK_spec (d : Nat) (t : T) (a : Option Addr) (l c : Nat) (bits : Int) (w : World) (hr : Rd (fun _ => True) 1048576 w d t a l) :
    Calls Try.prog 18 #[.agg #[.int .i64 (kd t), .int .i64 (nn t), .slice a l c], .int .i64 bits] w fun e w' => e = .returned (.bool (wordB d t bits)) ∧ Below w.heap.size w w' := by
  have HR := hid hr
  clear hr
  by_cases h : 1 ≤ bits ∧ bits ≤ 6
  · have e : wordB d t bits = okW bits.toNat d t 0 := by unfold wordB; rw [decide_eq_true h, Bool.true_and]
    rw [e]
    have hi : inB bits 1 6 = true := decide_eq_true h
    obtain ⟨n, rfl⟩ : ∃ n : Nat, bits = (n : Int) := ⟨bits.toNat, by omega⟩
    rw [Int.toNat_natCast]
    by_cases hs : size d t ≤ 9
    · have hp : decide (0 ≤ leftOf d t 9) = true := by unfold leftOf; rw [if_pos hs]; exact decide_eq_true (by omega)
      have hO : okW n d t 0 = rightW n d t := by unfold okW; rw [decide_eq_true (by omega), Bool.true_and]
      have HO := hid hO
      rw [HO.out]
      clear hO hs e
      go_enter Try.func18, Try.ntmps18
      go_wp2_with (go_at_call 19; refine (in_spec _ _ _ _).mono ?_; rintro e w' ⟨rfl, rfl⟩)
      refine (leftW d t a l c 9 _ (HR.out.below (by repeat (first | exact Below.refl _ _ | assumption | refine Below.drew ?_ | refine Below.alloc ?_ (by first | exact Nat.le_refl _ | omega | (simp; done) | (simp; omega)) _ | refine Below.setCell ?_ (by first | exact Nat.le_refl _ | omega | (simp; done) | (simp; omega)) _))) (by omega)).mono ?_
      rintro e w1 ⟨rfl, hb1⟩
      have b0 : w1.cell? ⟨w.heap.size, 0, none⟩ = some (.int .i64 (kd t)) := keep hb1 (by simp [go_sem])
      have b1 : w1.cell? ⟨w.heap.size, 1, none⟩ = some (.int .i64 (nn t)) := keep hb1 (by simp [go_sem])
      have b2 : w1.cell? ⟨w.heap.size, 2, none⟩ = some (.slice a l c) := keep hb1 (by simp [go_sem])
      have HB := hid ((show Below w.heap.size w _ from (by repeat (first | exact Below.refl _ _ | assumption | refine Below.drew ?_ | refine Below.alloc ?_ (by first | exact Nat.le_refl _ | omega | (simp; done) | (simp; omega)) _ | refine Below.setCell ?_ (by first | exact Nat.le_refl _ | omega | (simp; done) | (simp; omega)) _))).trans (hb1.mono (by simp)))
      clear hb1
      generalize leftOf d t 9 = x at *
      go_wp2_with fail
      refine (rightW_spec n (by omega) (by omega) d t a l c _ (HR.out.below HB.out)).mono ?_
      rintro e w2 ⟨rfl, hb2⟩
      have HB2 := hid (HB.out.trans (hb2.mono HB.out.size))
      clear hb2
      go_wp2
      go_ret
      exact ⟨rfl, HB2.out⟩
    · have hp : decide (0 ≤ leftOf d t 9) = false := by unfold leftOf; rw [if_neg hs]; exact decide_eq_false (by omega)
      have hO : okW n d t 0 = false := by unfold okW; rw [decide_eq_false (by omega), Bool.false_and]
      rw [hO]
      clear hO hs e
      go_enter Try.func18, Try.ntmps18
      go_wp2_with (go_at_call 19; refine (in_spec _ _ _ _).mono ?_; rintro e w' ⟨rfl, rfl⟩)
      refine (leftW d t a l c 9 _ (HR.out.below (by repeat (first | exact Below.refl _ _ | assumption | refine Below.drew ?_ | refine Below.alloc ?_ (by first | exact Nat.le_refl _ | omega | (simp; done) | (simp; omega)) _ | refine Below.setCell ?_ (by first | exact Nat.le_refl _ | omega | (simp; done) | (simp; omega)) _))) (by omega)).mono ?_
      rintro e w1 ⟨rfl, hb1⟩
      have HB := hid ((show Below w.heap.size w _ from (by repeat (first | exact Below.refl _ _ | assumption | refine Below.drew ?_ | refine Below.alloc ?_ (by first | exact Nat.le_refl _ | omega | (simp; done) | (simp; omega)) _ | refine Below.setCell ?_ (by first | exact Nat.le_refl _ | omega | (simp; done) | (simp; omega)) _))).trans (hb1.mono (by simp)))
      clear hb1
      generalize leftOf d t 9 = x at *
      go_wp2
      go_ret
      exact ⟨rfl, HB.out⟩
  · have e : wordB d t bits = false := by unfold wordB; rw [decide_eq_false h, Bool.false_and]
    rw [e]
    have hi : inB bits 1 6 = false := decide_eq_false h
    clear h e
    go_enter Try.func18, Try.ntmps18
    go_wp2_with (go_at_call 19; refine (in_spec _ _ _ _).mono ?_; rintro e w' ⟨rfl, rfl⟩)
    go_ret
    exact ⟨rfl, (by repeat (first | exact Below.refl _ _ | assumption | refine Below.drew ?_ | refine Below.alloc ?_ (by first | exact Nat.le_refl _ | omega | (simp; done) | (simp; omega)) _ | refine Below.setCell ?_ (by first | exact Nat.le_refl _ | omega | (simp; done) | (simp; omega)) _))⟩
end Go.Proofs.Ytikdadpapdkfiaa.wordSpec
