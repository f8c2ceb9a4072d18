/- Whether an expression is right, of the specification: for every tree that lies in memory; conditions: none. -/
import Derived.Test.YtaileckcflnbdaaTrees
import Derived.BigRegion
namespace Go.Proofs.Ytaileckcflnbdaa.treeSpec
open Go.RowKit Go.Deep base trees
set_option linter.unusedVariables false

def inB (n low high : Int) : Bool := decide (low ≤ n ∧ n ≤ high)
set_option maxHeartbeats 400000 in
theorem in_spec (n low high : Int) (w : World) :
    Calls Try.prog 15 #[.int .i64 n, .int .i64 low, .int .i64 high] w fun e w' => e = .returned (.bool (inB n low high)) ∧ w' = w := by
  go_enter Try.func15, Try.ntmps15
  go_wp2
  all_goals
    go_ret
    refine ⟨ret_bool ?_, rfl⟩
    rw [Bool.eq_iff_iff]; simp [inB, *]; try omega

/-- What is left of m nodes, -1 if that is not enough or something stands too deep. -/
def leftOf (d : Nat) (t : T) (m dep : Nat) : Int := if size d t ≤ m ∧ dep + depth d t ≤ 41 then (m : Int) - size d t else -1
def LeftE (d : Nat) : Prop := ∀ (t : T) (a : Option Addr) (l c m dep : Nat) (w : World), Rd (fun _ => True) 1048576 w d t a l → m ≤ 400 → dep ≤ 41 →
    Calls Try.prog 32 #[.agg #[.int .i64 (kd t), .int .i64 (nn t), .slice a l c], .int .i64 (m : Int), .int .i64 (dep : Int)] w fun e w' => e = .returned (.int .i64 (leftOf d t m dep)) ∧ Below w.heap.size w w'

set_option maxHeartbeats 800000 in
theorem leftE (d : Nat) : LeftE d := by
  induction d using Nat.strongRecOn with
  | _ d ih =>
  intro t a l c m dep w hr hm hdep
  have HL := hid hr.len
  have HZ := hid hr.zero
  have hmost := hr.most
  have HR := hid hr
  have HI := hid ih
  have hsp := size_pos hr.zero
  have hdp := depth_pos hr.zero
  clear hr ih
  by_cases hlong : 41 ≤ dep
  · have e : leftOf d t m dep = -1 := by unfold leftOf; rw [if_neg (by omega)]
    rw [e]
    have d2 : decide ((40 : Int) < (dep : Int)) = true := decide_eq_true (by omega)
    go_enter Try.func32, Try.ntmps32
    go_wp2
    go_ret
    exact ⟨rfl, (by repeat (first | exact Below.refl _ _ | assumption | refine Below.drew ?_ | refine Below.alloc ?_ (by first | exact Nat.le_refl _ | omega | (simp; done) | (simp; omega)) _ | refine Below.setCell ?_ (by first | exact Nat.le_refl _ | omega | (simp; done) | (simp; omega)) _))⟩
  have d2 : decide ((40 : Int) < (dep : Int)) = false := decide_eq_false (by omega)
  have HSP := hid hsp
  have HDP := hid hdp
  clear hsp hdp
  go_enter Try.func32, Try.ntmps32
  go_wp2
  go_loopw [7, 1] (fun i v wr => ∃ (j : Nat) (r : Int), j ≤ l ∧ i = .int .i64 j ∧ v = .int .i64 r ∧ Below w.heap.size w wr ∧ wr.cell? ⟨w.heap.size, 2, none⟩ = some (.slice a l c) ∧ -1 ≤ r ∧ r ≤ 400 ∧
    (0 ≤ r → r = (m : Int) - 1 - sumTo (fun i => size (d - 1) (kid t i)) j ∧ ∀ x, x < j → dep + 1 + depth (d - 1) (kid t x) ≤ 41) ∧ (r < 0 → leftOf d t m dep = -1)) (fun i _ _ => l - (intOf i).toNat)
  case atStart =>
    refine ⟨0, (m : Int) - 1, Nat.zero_le _, rfl, by go_num, (by repeat (first | exact Below.refl _ _ | assumption | refine Below.drew ?_ | refine Below.alloc ?_ (by first | exact Nat.le_refl _ | omega | (simp; done) | (simp; omega)) _ | refine Below.setCell ?_ (by first | exact Nat.le_refl _ | omega | (simp; done) | (simp; omega)) _)), by simp [go_sem], by omega, by omega, fun _ => ⟨by simp [sumTo], fun x hx => absurd hx (Nat.not_lt_zero _)⟩, fun h => ?_⟩
    have := HSP.out
    unfold leftOf; rw [if_neg (by omega)]
  case round =>
    obtain ⟨j, r, hj, rfl, rfl, hb, hce, hr0, hr1, hp, hn⟩ := hrel
    have HB := hid hb
    have HP := hid hp
    have HN := hid hn
    clear hb hp hn
    by_cases hneg : r < 0
    · have d3 : decide ((0 : Int) ≤ r) = false := decide_eq_false (by omega)
      by_cases hlt : j < l
      · go_wp2
        go_ret
        exact ⟨ret_int (by rw [HN.out hneg]; omega), HB.out⟩
      · go_wp2
        go_ret
        exact ⟨ret_int (by rw [HN.out hneg]; omega), HB.out⟩
    have d3 : decide ((0 : Int) ≤ r) = true := decide_eq_true (by omega)
    by_cases hlt : j < l
    · obtain ⟨hd0, b, off, rfl, hq, hc0, hc1, a', l', c', hc2, hrow⟩ := HR.out.cell hlt
      replace hc0 := keep HB.out hc0
      replace hc1 := keep HB.out hc1
      replace hc2 := keep HB.out hc2
      have HX := hid (hrow.below HB.out)
      have HIE := hid (HI.out (d - 1) (by omega))
      clear hrow
      obtain ⟨r', rfl⟩ : ∃ r' : Nat, r = (r' : Int) := ⟨r.toNat, by omega⟩
      go_wp2_with fail
      refine (HIE.out (kid t j) a' l' c' r' (dep + 1) _ (HX.out.below (by repeat (first | exact Below.refl _ _ | assumption | refine Below.drew ?_ | refine Below.alloc ?_ (by first | exact Nat.le_refl _ | omega | (simp; done) | (simp; omega)) _ | refine Below.setCell ?_ (by first | exact Nat.le_refl _ | omega | (simp; done) | (simp; omega)) _))) (by omega) (by omega)).mono ?_
      rintro e w1 ⟨rfl, hb1⟩
      have hce1 := keep hb1 hce
      have HB1 := hid (HB.out.trans (hb1.mono HB.out.size))
      clear hb1
      have hlo : -1 ≤ leftOf (d - 1) (kid t j) r' (dep + 1) ∧ leftOf (d - 1) (kid t j) r' (dep + 1) ≤ 400 ∧ (0 ≤ leftOf (d - 1) (kid t j) r' (dep + 1) → size (d - 1) (kid t j) ≤ r' ∧ dep + 1 + depth (d - 1) (kid t j) ≤ 41 ∧ leftOf (d - 1) (kid t j) r' (dep + 1) = (r' : Int) - size (d - 1) (kid t j)) ∧ (leftOf (d - 1) (kid t j) r' (dep + 1) < 0 → ¬ (size (d - 1) (kid t j) ≤ r' ∧ dep + 1 + depth (d - 1) (kid t j) ≤ 41)) := by
        unfold leftOf
        split <;> omega
      generalize leftOf (d - 1) (kid t j) r' (dep + 1) = q at *
      obtain ⟨q0, q1, q2, q3⟩ := hlo
      have Q2 := hid q2
      have Q3 := hid q3
      clear q2 q3
      go_wp2
      go_roundw
      case rel =>
        obtain ⟨e1, e2⟩ := HP.out (by omega)
        refine ⟨j + 1, q, by omega, by go_num, rfl, HB1.out, hce1, q0, q1, fun h => ?_, fun h => ?_⟩
        · obtain ⟨p1, p2, p3⟩ := Q2.out h
          refine ⟨by rw [p3, sumTo_succ]; omega, fun x hx => ?_⟩
          by_cases e : x = j
          · subst e; exact p2
          · exact e2 x (by omega)
        · have h1 := Q3.out h
          have h2 := sumTo_le (f := fun i => size (d - 1) (kid t i)) (show j + 1 ≤ ln t by rw [HL.out]; exact hlt)
          rw [sumTo_succ] at h2
          have h3 := maxTo_le (f := fun i => depth (d - 1) (kid t i)) (show j < ln t by rw [HL.out]; exact hlt)
          unfold leftOf
          rw [size_eq HZ.out, depth_eq HZ.out, if_neg (by omega)]
      case measure => simp [intOf]; omega
    · have e : j = l := by omega
      subst e
      go_wp2
      go_ret
      obtain ⟨e1, e2⟩ := HP.out (by omega)
      refine ⟨ret_int ?_, HB.out⟩
      unfold leftOf
      have h4 := maxTo_of (f := fun i => depth (d - 1) (kid t i)) (n := ln t) (m := 40 - dep) fun i hi => by
        have := e2 i (by rw [HL.out] at hi; exact hi)
        show depth (d - 1) (kid t i) ≤ 40 - dep
        omega
      rw [size_eq HZ.out, depth_eq HZ.out, HL.out]
      rw [HL.out] at h4
      rw [if_pos (by omega)]
      omega

theorem kids_cases (k : Int) : k = 1 ∨ k = 2 ∨ (k = 3 ∨ k = 4 ∨ k = 5 ∨ k = 6 ∨ k = 7) ∨ (kidsOf k = -1 ∧ (k == 1) = false ∧ (k == 2) = false ∧ (k == 3) = false ∧ (k == 4) = false ∧ (k == 5) = false ∧ (k == 6) = false ∧ (k == 7) = false) := by
  by_cases h : k = 1 ∨ k = 2 ∨ k = 3 ∨ k = 4 ∨ k = 5 ∨ k = 6 ∨ k = 7
  · omega
  · right; right; right
    refine ⟨?_, ?_, ?_, ?_, ?_, ?_, ?_, ?_⟩
    · unfold kidsOf; rw [if_neg (by omega), if_neg (by omega), if_neg (by omega), if_neg (by omega)]
    all_goals simp; omega
def RightE (d : Nat) : Prop := ∀ (t : T) (a : Option Addr) (l c : Nat) (w : World), Rd (fun _ => True) 1048576 w d t a l →
    Calls Try.prog 33 #[.agg #[.int .i64 (kd t), .int .i64 (nn t), .slice a l c]] w fun e w' => e = .returned (.bool (right d t)) ∧ Below w.heap.size w w'
theorem right_leaf {d : Nat} {t : T} (h0 : d = 0 → ln t = 0) (h1 : kidsOf (kd t) = 0) : right d t = (inB (nn t) 0 (mostN (kd t)) && decide ((ln t : Int) = 0)) := by
  rw [right_eq h0]
  by_cases e : ln t = 0
  · rw [e]; simp [allTo, shapeT, inB, h1, e]
  · have : shapeT t = false := decide_eq_false (by omega)
    rw [this]; simp [e]

set_option maxHeartbeats 1600000 in
theorem rightE (d : Nat) : RightE d := by
  induction d using Nat.strongRecOn with
  | _ d ih =>
  intro t a l c w hr
  have HL := hid hr.len
  have HZ := hid hr.zero
  have hmost := hr.most
  have HR := hid hr
  have HI := hid ih
  clear hr ih
  have hsh : shapeT t = decide ((l : Int) = kidsOf (kd t) ∧ 0 ≤ nn t ∧ nn t ≤ mostN (kd t)) := by unfold shapeT; rw [HL.out]
  rcases kids_cases (kd t) with h | h | h | h
  · have e := right_leaf HZ.out (by rw [h]; rfl)
    rw [h, HL.out] at e
    rw [h, e]
    clear h e hsh
    generalize nn t = nk
    cases hi : inB nk 0 (mostN 1) with
    | false =>
      have hi' : inB nk 0 11 = false := hi
      go_enter Try.func33, Try.ntmps33
      go_wp2_with (go_at_call 15; refine (in_spec _ _ _ _).mono ?_; rintro e w' ⟨rfl, rfl⟩)
      go_ret
      exact ⟨rfl, (by repeat (first | exact Below.refl _ _ | assumption | refine Below.drew ?_ | refine Below.alloc ?_ (by first | exact Nat.le_refl _ | omega | (simp; done) | (simp; omega)) _ | refine Below.setCell ?_ (by first | exact Nat.le_refl _ | omega | (simp; done) | (simp; omega)) _))⟩
    | true =>
      have hi' : inB nk 0 11 = true := hi
      by_cases hl : l = 0
      · subst hl
        go_enter Try.func33, Try.ntmps33
        go_wp2_with (go_at_call 15; refine (in_spec _ _ _ _).mono ?_; rintro e w' ⟨rfl, rfl⟩)
        go_ret
        exact ⟨rfl, (by repeat (first | exact Below.refl _ _ | assumption | refine Below.drew ?_ | refine Below.alloc ?_ (by first | exact Nat.le_refl _ | omega | (simp; done) | (simp; omega)) _ | refine Below.setCell ?_ (by first | exact Nat.le_refl _ | omega | (simp; done) | (simp; omega)) _))⟩
      · have hl' : ((l : Int) == 0) = false := by simp [hl]
        have hl2 : decide ((l : Int) = 0) = false := decide_eq_false (by omega)
        rw [hl2]
        clear hl hl2
        go_enter Try.func33, Try.ntmps33
        go_wp2_with (go_at_call 15; refine (in_spec _ _ _ _).mono ?_; rintro e w' ⟨rfl, rfl⟩)
        go_ret
        exact ⟨rfl, (by repeat (first | exact Below.refl _ _ | assumption | refine Below.drew ?_ | refine Below.alloc ?_ (by first | exact Nat.le_refl _ | omega | (simp; done) | (simp; omega)) _ | refine Below.setCell ?_ (by first | exact Nat.le_refl _ | omega | (simp; done) | (simp; omega)) _))⟩
  · have e := right_leaf HZ.out (by rw [h]; rfl)
    rw [h, HL.out] at e
    rw [h, e]
    clear h e hsh
    generalize nn t = nk
    cases hi : inB nk 0 (mostN 2) with
    | false =>
      have hi' : inB nk 0 1 = false := hi
      go_enter Try.func33, Try.ntmps33
      go_wp2_with (go_at_call 15; refine (in_spec _ _ _ _).mono ?_; rintro e w' ⟨rfl, rfl⟩)
      go_ret
      exact ⟨rfl, (by repeat (first | exact Below.refl _ _ | assumption | refine Below.drew ?_ | refine Below.alloc ?_ (by first | exact Nat.le_refl _ | omega | (simp; done) | (simp; omega)) _ | refine Below.setCell ?_ (by first | exact Nat.le_refl _ | omega | (simp; done) | (simp; omega)) _))⟩
    | true =>
      have hi' : inB nk 0 1 = true := hi
      by_cases hl : l = 0
      · subst hl
        go_enter Try.func33, Try.ntmps33
        go_wp2_with (go_at_call 15; refine (in_spec _ _ _ _).mono ?_; rintro e w' ⟨rfl, rfl⟩)
        go_ret
        exact ⟨rfl, (by repeat (first | exact Below.refl _ _ | assumption | refine Below.drew ?_ | refine Below.alloc ?_ (by first | exact Nat.le_refl _ | omega | (simp; done) | (simp; omega)) _ | refine Below.setCell ?_ (by first | exact Nat.le_refl _ | omega | (simp; done) | (simp; omega)) _))⟩
      · have hl' : ((l : Int) == 0) = false := by simp [hl]
        have hl2 : decide ((l : Int) = 0) = false := decide_eq_false (by omega)
        rw [hl2]
        clear hl hl2
        go_enter Try.func33, Try.ntmps33
        go_wp2_with (go_at_call 15; refine (in_spec _ _ _ _).mono ?_; rintro e w' ⟨rfl, rfl⟩)
        go_ret
        exact ⟨rfl, (by repeat (first | exact Below.refl _ _ | assumption | refine Below.drew ?_ | refine Below.alloc ?_ (by first | exact Nat.le_refl _ | omega | (simp; done) | (simp; omega)) _ | refine Below.setCell ?_ (by first | exact Nat.le_refl _ | omega | (simp; done) | (simp; omega)) _))⟩
  · have hm : mostN (kd t) = 0 := by unfold mostN; rw [if_neg (by omega), if_neg (by omega)]
    by_cases hn : nn t = 0
    · by_cases hk : (l : Int) = kidsOf (kd t)
      · have hs : shapeT t = true := by rw [hsh]; exact decide_eq_true ⟨hk, by omega, by omega⟩
        have hN : right d t = allTo (fun i => right (d - 1) (kid t i)) (ln t) := by rw [right_eq HZ.out, hs, Bool.true_and]
        have HN := hid hN
        clear hs hN hm hsh
        generalize hx : right d t = res at *
        rw [hn]
        rcases h with h | h | h | h | h
        all_goals
          rw [h] at hk
          simp [kidsOf] at hk
          rw [h]
          replace hk := congrArg Int.toNat hk
          simp at hk
          subst hk
          clear h
          go_enter Try.func33, Try.ntmps33
          go_wp2
          go_loopw [4] (fun i wr => ∃ j : Nat, j ≤ ln t ∧ i = .int .i64 j ∧ Below w.heap.size w wr ∧ wr.cell? ⟨w.heap.size, 2, none⟩ = some (.slice a (ln t) c) ∧ ∀ x, x < j → right (d - 1) (kid t x) = true) (fun i _ => ln t - (intOf i).toNat)
          case atStart => exact ⟨0, Nat.zero_le _, rfl, (by repeat (first | exact Below.refl _ _ | assumption | refine Below.drew ?_ | refine Below.alloc ?_ (by first | exact Nat.le_refl _ | omega | (simp; done) | (simp; omega)) _ | refine Below.setCell ?_ (by first | exact Nat.le_refl _ | omega | (simp; done) | (simp; omega)) _)), by simp [go_sem, HL.out], fun x hx => absurd hx (Nat.not_lt_zero _)⟩
          case round =>
            obtain ⟨j, hj, rfl, hb, hce, ha⟩ := hrel
            have HB := hid hb
            have HA := hid ha
            clear hb ha
            rw [HL.out] at hce hj
            by_cases hlt : j < ln t
            · have hlt' := hlt
              rw [HL.out] at hlt'
              obtain ⟨hd0, b, off, rfl, hq, hc0, hc1, a', l', c', hc2, hrow⟩ := HR.out.cell hlt'
              replace hc0 := keep HB.out hc0
              replace hc1 := keep HB.out hc1
              replace hc2 := keep HB.out hc2
              have HX := hid (hrow.below HB.out)
              have HIE := hid (HI.out (d - 1) (by omega))
              have HLT := hid hlt
              clear hrow hlt
              cases hok : right (d - 1) (kid t j) with
              | false =>
                go_wp2_with fail
                refine (HIE.out (kid t j) a' l' c' _ (HX.out.below (by repeat (first | exact Below.refl _ _ | assumption | refine Below.drew ?_ | refine Below.alloc ?_ (by first | exact Nat.le_refl _ | omega | (simp; done) | (simp; omega)) _ | refine Below.setCell ?_ (by first | exact Nat.le_refl _ | omega | (simp; done) | (simp; omega)) _)))).mono ?_
                rintro e w1 ⟨rfl, hb1⟩
                have HB1 := hid (HB.out.trans (hb1.mono HB.out.size))
                clear hb1
                rw [hok]
                go_wp2
                go_ret
                exact ⟨ret_bool (by rw [HN.out]; exact (allTo_false (f := fun i => right (d - 1) (kid t i)) HLT.out hok).symm), HB1.out⟩
              | true =>
                go_wp2_with fail
                refine (HIE.out (kid t j) a' l' c' _ (HX.out.below (by repeat (first | exact Below.refl _ _ | assumption | refine Below.drew ?_ | refine Below.alloc ?_ (by first | exact Nat.le_refl _ | omega | (simp; done) | (simp; omega)) _ | refine Below.setCell ?_ (by first | exact Nat.le_refl _ | omega | (simp; done) | (simp; omega)) _)))).mono ?_
                rintro e w1 ⟨rfl, hb1⟩
                have hce1 := keep hb1 hce
                have HB1 := hid (HB.out.trans (hb1.mono HB.out.size))
                clear hb1
                rw [hok]
                go_wp2
                go_roundw
                case rel =>
                  refine ⟨j + 1, HLT.out, by go_num, HB1.out, by rw [HL.out]; exact hce1, fun x hx => ?_⟩
                  by_cases e : x = j
                  · subst e; exact hok
                  · exact HA.out x (by omega)
                case measure => have := HLT.out; simp [intOf]; omega
            · have e : j = ln t := by rw [HL.out] at hlt ⊢; omega
              have HE := hid e
              rw [HL.out] at e
              subst e
              go_wp2
              go_ret
              exact ⟨ret_bool (by rw [HN.out]; exact (allTo_of (f := fun i => right (d - 1) (kid t i)) (fun i hi => HA.out i (by rw [HE.out]; exact hi))).symm), HB.out⟩
      · have hF : right d t = false := by
          rw [right_eq HZ.out]
          have : shapeT t = false := by rw [hsh]; exact decide_eq_false (by omega)
          rw [this]; rfl
        rw [hF, hn]
        clear hF hsh hm hn
        rcases h with h | h | h | h | h
        all_goals
          rw [h] at hk
          simp [kidsOf] at hk
          rw [h]
          clear h
          first | (have dk : ((l : Int) != 1) = true := (by simp; exact hk))
                | (have dk : ((l : Int) != 2) = true := (by simp; exact hk))
                | (have dk : ((l : Int) != 3) = true := (by simp; exact hk))
          clear hk
          go_enter Try.func33, Try.ntmps33
          go_wp2
          go_ret
          exact ⟨rfl, (by repeat (first | exact Below.refl _ _ | assumption | refine Below.drew ?_ | refine Below.alloc ?_ (by first | exact Nat.le_refl _ | omega | (simp; done) | (simp; omega)) _ | refine Below.setCell ?_ (by first | exact Nat.le_refl _ | omega | (simp; done) | (simp; omega)) _))⟩
    · have hF : right d t = false := by
        rw [right_eq HZ.out]
        have : shapeT t = false := by rw [hsh]; exact decide_eq_false (by omega)
        rw [this]; rfl
      rw [hF]
      clear hF hsh hm
      have dn : (nn t != 0) = true := by simp [hn]
      clear hn
      generalize nn t = nk at *
      rcases h with h | h | h | h | h
      all_goals
        rw [h]
        clear h
        go_enter Try.func33, Try.ntmps33
        go_wp2
        go_ret
        exact ⟨rfl, (by repeat (first | exact Below.refl _ _ | assumption | refine Below.drew ?_ | refine Below.alloc ?_ (by first | exact Nat.le_refl _ | omega | (simp; done) | (simp; omega)) _ | refine Below.setCell ?_ (by first | exact Nat.le_refl _ | omega | (simp; done) | (simp; omega)) _))⟩
  · obtain ⟨e0, e1, e2, e3, e4, e5, e6, e7⟩ := h
    have hF : right d t = false := by
      rw [right_eq HZ.out]
      have : shapeT t = false := by rw [hsh, e0]; exact decide_eq_false (by omega)
      rw [this]; rfl
    rw [hF]
    clear hF hsh e0
    generalize kd t = kk at *
    generalize nn t = nk at *
    go_enter Try.func33, Try.ntmps33
    go_wp2
    go_ret
    exact ⟨rfl, (by repeat (first | exact Below.refl _ _ | assumption | refine Below.drew ?_ | refine Below.alloc ?_ (by first | exact Nat.le_refl _ | omega | (simp; done) | (simp; omega)) _ | refine Below.setCell ?_ (by first | exact Nat.le_refl _ | omega | (simp; done) | (simp; omega)) _))⟩

set_option maxHeartbeats 400000 in
theorem exOK_spec (d : Nat) (t : T) (a : Option Addr) (l c : Nat) (w : World) (hr : Rd (fun _ => True) 1048576 w d t a l) :
    Calls Try.prog 16 #[.agg #[.int .i64 (kd t), .int .i64 (nn t), .slice a l c]] w fun e w' => e = .returned (.bool (okB d t 1 0)) ∧ Below w.heap.size w w' := by
  have HR := hid hr
  clear hr
  go_enter Try.func16, Try.ntmps16
  go_wp2_with fail
  refine (leftE d t a l c 400 1 _ (HR.out.below (by repeat (first | exact Below.refl _ _ | assumption | refine Below.drew ?_ | refine Below.alloc ?_ (by first | exact Nat.le_refl _ | omega | (simp; done) | (simp; omega)) _ | refine Below.setCell ?_ (by first | exact Nat.le_refl _ | omega | (simp; done) | (simp; omega)) _))) (by omega) (by omega)).mono ?_
  rintro e w1 ⟨rfl, hb1⟩
  have HB := hid ((show Below w.heap.size w _ from (by repeat (first | exact Below.refl _ _ | assumption | refine Below.drew ?_ | refine Below.alloc ?_ (by first | exact Nat.le_refl _ | omega | (simp; done) | (simp; omega)) _ | refine Below.setCell ?_ (by first | exact Nat.le_refl _ | omega | (simp; done) | (simp; omega)) _))).trans (hb1.mono (by simp)))
  have b0 : w1.cell? ⟨w.heap.size, 0, none⟩ = some (.int .i64 (kd t)) := keep hb1 (by simp [go_sem])
  have b1 : w1.cell? ⟨w.heap.size, 1, none⟩ = some (.int .i64 (nn t)) := keep hb1 (by simp [go_sem])
  have b2 : w1.cell? ⟨w.heap.size, 2, none⟩ = some (.slice a l c) := keep hb1 (by simp [go_sem])
  clear hb1
  by_cases h : size d t ≤ 400 ∧ 1 + depth d t ≤ 41
  · have hp : decide (0 ≤ leftOf d t 400 1) = true := by unfold leftOf; rw [if_pos h]; exact decide_eq_true (by omega)
    have hO : okB d t 1 0 = right d t := by
      unfold okB
      rw [decide_eq_true (by omega), Bool.true_and]
    have HO := hid hO
    clear hO h
    generalize leftOf d t 400 1 = x at *
    go_wp2_with fail
    refine (rightE d t a l c _ (HR.out.below HB.out)).mono ?_
    rintro e w2 ⟨rfl, hb2⟩
    have HB2 := hid (HB.out.trans (hb2.mono HB.out.size))
    clear hb2
    go_wp2
    go_ret
    exact ⟨ret_bool HO.out.symm, HB2.out⟩
  · have hp : decide (0 ≤ leftOf d t 400 1) = false := by unfold leftOf; rw [if_neg h]; exact decide_eq_false (by omega)
    have hO : okB d t 1 0 = false := by
      unfold okB
      rw [decide_eq_false (by omega), Bool.false_and]
    have HO := hid hO
    clear hO h
    generalize leftOf d t 400 1 = x at *
    go_wp2
    go_ret
    exact ⟨ret_bool HO.out.symm, HB.out⟩
end Go.Proofs.Ytaileckcflnbdaa.treeSpec
