/- Whether an expression is right, of the program: for every tree that lies in memory; conditions: none. -/
import Derived.Test.YtofdhoefphoaaaaTrees
import Derived.BigRegion
namespace Go.Proofs.Ytofdhoefphoaaaa.treeImpl
open Go.RowKit Go.Deep base trees
set_option linter.unusedVariables false

set_option maxHeartbeats 800000 in
theorem kids_impl (k : Int) (w : World) : Calls Try.prog 74 #[.int .i64 k] w fun e w' => e = .returned (.int .i64 (kidsOf k)) ∧ w' = w := by
  by_cases h : k = 1 ∨ k = 2 ∨ k = 3 ∨ k = 4 ∨ k = 5 ∨ k = 6 ∨ k = 7
  · rcases h with rfl | rfl | rfl | rfl | rfl | rfl | rfl
    all_goals
      go_enter Try.func74, Try.ntmps74
      go_wp2
      go_ret
      exact ⟨rfl, rfl⟩
  · have e : kidsOf k = -1 := by unfold kidsOf; rw [if_neg (by omega), if_neg (by omega), if_neg (by omega), if_neg (by omega)]
    rw [e]
    have e1 : (k == 1) = false := by simp; omega
    have e2 : (k == 2) = false := by simp; omega
    have e3 : (k == 3) = false := by simp; omega
    have e4 : (k == 4) = false := by simp; omega
    have e5 : (k == 5) = false := by simp; omega
    have e6 : (k == 6) = false := by simp; omega
    have e7 : (k == 7) = false := by simp; omega
    clear h e
    go_enter Try.func74, Try.ntmps74
    go_wp2
    go_ret
    exact ⟨rfl, rfl⟩

set_option maxHeartbeats 400000 in
theorem most_impl (k : Int) (w : World) : Calls Try.prog 75 #[.int .i64 k] w fun e w' => e = .returned (.int .i64 (mostN k)) ∧ w' = w := by
  by_cases h : k = 1 ∨ k = 2
  · rcases h with rfl | rfl
    all_goals
      go_enter Try.func75, Try.ntmps75
      go_wp2
      go_ret
      exact ⟨rfl, rfl⟩
  · have e : mostN k = 0 := by unfold mostN; rw [if_neg (by omega), if_neg (by omega)]
    rw [e]
    have e1 : (k == 1) = false := by simp; omega
    have e2 : (k == 2) = false := by simp; omega
    clear h e
    go_enter Try.func75, Try.ntmps75
    go_wp2
    go_ret
    exact ⟨rfl, rfl⟩

def IsE (d : Nat) : Prop := ∀ (t : T) (a : Option Addr) (l c dep k B : Nat) (w : World), Rd (fun b => b ≠ B) 1048576 w d t a l → k ≤ 400 → dep ≤ 41 → w.cell? ⟨B, 0, none⟩ = some (.int .i64 (k : Int)) → w.frozen? ⟨B, 0, none⟩ = false →
    Calls Try.prog 65 #[.agg #[.int .i64 (kd t), .int .i64 (nn t), .slice a l c], .int .i64 (dep : Int), .pointer (some ⟨B, 0, none⟩)] w fun e w' => ∃ k' : Nat, e = .returned (.bool (okB d t dep k)) ∧ (okB d t dep k = true → k' = k + size d t) ∧ k' ≤ 401 ∧
      w'.cell? ⟨B, 0, none⟩ = some (.int .i64 (k' : Int)) ∧ w'.frozen? ⟨B, 0, none⟩ = false ∧ Oth B w w'

set_option maxHeartbeats 800000 in
theorem isE (d : Nat) : IsE d := by
  induction d using Nat.strongRecOn with
  | _ d ih =>
  intro t a l c dep k B w hr hk hdep hB hfz
  have hBl : B < w.heap.size := World.block_lt_of_cell? _ _ hB
  have HL := hid hr.len
  have HZ := hid hr.zero
  have hmost := hr.most
  have HR := hid hr
  have HI := hid ih
  have hne : w.heap.size ≠ B := by omega
  have hne' : B ≠ w.heap.size := by omega
  clear hr ih
  have hset := set_facts (v := .int .i64 ((k : Int) + 1)) hB
  have hset' : (w.setCell ⟨B, 0, none⟩ (.int .i64 ((k : Int) + 1))).frozen? ⟨B, 0, none⟩ = false := by simpa [go_sem] using hfz
  have HO := hid (Oth.set B w 0 (.int .i64 ((k : Int) + 1)))
  have HS := hid (keep (b := B) (o := 0) (show Below (w.setCell ⟨B, 0, none⟩ (.int .i64 ((k : Int) + 1))).heap.size (w.setCell ⟨B, 0, none⟩ (.int .i64 ((k : Int) + 1))) _ from (Below.refl _ _).alloc (Nat.le_refl _) (.cells #[.int .i64 (kd t), .int .i64 (nn t), .slice a l c] 33)) hset)
  by_cases hlong : 400 ≤ k ∨ 41 ≤ dep
  · rw [okB_long HZ.out hlong]
    by_cases h1 : 400 ≤ k
    · have d1 : decide ((400 : Int) < (k : Int) + 1) = true := decide_eq_true (by omega)
      go_enter Try.func65, Try.ntmps65
      go_wp2
      go_ret
      exact ⟨k + 1, rfl, fun h => (by cases h), by omega, by simpa using HS.out, by simp [go_sem, hset', hBl], HO.out.then (by repeat (first | exact Below.refl _ _ | assumption | refine Below.drew ?_ | refine Below.alloc ?_ (by first | exact Nat.le_refl _ | omega | (simp; done) | (simp; omega)) _ | refine Below.setCell ?_ (by first | exact Nat.le_refl _ | omega | (simp; done) | (simp; omega)) _))⟩
    · have d1 : decide ((400 : Int) < (k : Int) + 1) = false := decide_eq_false (by omega)
      have d2 : decide ((40 : Int) < (dep : Int)) = true := decide_eq_true (by omega)
      go_enter Try.func65, Try.ntmps65
      go_wp2
      go_ret
      exact ⟨k + 1, rfl, fun h => (by cases h), by omega, by simpa using HS.out, by simp [go_sem, hset', hBl], HO.out.then (by repeat (first | exact Below.refl _ _ | assumption | refine Below.drew ?_ | refine Below.alloc ?_ (by first | exact Nat.le_refl _ | omega | (simp; done) | (simp; omega)) _ | refine Below.setCell ?_ (by first | exact Nat.le_refl _ | omega | (simp; done) | (simp; omega)) _))⟩
  have d1 : decide ((400 : Int) < (k : Int) + 1) = false := decide_eq_false (by omega)
  have d2 : decide ((40 : Int) < (dep : Int)) = false := decide_eq_false (by omega)
  by_cases hs : shapeT t = true
  · have hs' := of_decide_eq_true hs
    rw [HL.out] at hs'
    have d3 : ((l : Int) != kidsOf (kd t)) = false := by simp [hs'.1]
    have d4 : decide (nn t < 0) = false := decide_eq_false (by omega)
    have d5 : decide (mostN (kd t) < nn t) = false := decide_eq_false (by omega)
    have HSH := hid hs
    clear hs hs'
    generalize hkk : kd t = kk at *
    generalize hnk : nn t = nk at *
    have HKK := hid hkk
    have HNK := hid hnk
    clear hkk hnk
    go_enter Try.func65, Try.ntmps65
    go_wp2
    go_quiet (first | (go_at_call 74; exact Calls.quiet_of_same (kids_impl _ _)) | (go_at_call 75; exact Calls.quiet_of_same (most_impl _ _)))
    go_wp2
    go_loopw [45] (fun i wr => ∃ j : Nat, j ≤ l ∧ i = .int .i64 j ∧ wr.cell? ⟨B, 0, none⟩ = some (.int .i64 ((k + 1 + sumTo (fun i => size (d - 1) (kid t i)) j : Nat) : Int)) ∧ wr.frozen? ⟨B, 0, none⟩ = false ∧ Oth B w wr ∧ k + 1 + sumTo (fun i => size (d - 1) (kid t i)) j ≤ 400 ∧
      ∀ x, x < j → okB (d - 1) (kid t x) (dep + 1) (k + 1 + sumTo (fun i => size (d - 1) (kid t i)) x) = true) (fun i _ => l - (intOf i).toNat)
    case atStart =>
      refine ⟨0, Nat.zero_le _, rfl, ?_, ?_, ?_, ?_, fun x hx => absurd hx (Nat.not_lt_zero _)⟩
      · simpa [sumTo] using HS.out
      · simp [go_sem, hset', hBl]
      · exact (HO.out.then (by repeat (first | exact Below.refl _ _ | assumption | refine Below.drew ?_ | refine Below.alloc ?_ (by first | exact Nat.le_refl _ | omega | (simp; done) | (simp; omega)) _ | refine Below.setCell ?_ (by first | exact Nat.le_refl _ | omega | (simp; done) | (simp; omega)) _))).then (below_drewN _ _)
      · simp only [sumTo]; omega
    case round =>
      obtain ⟨j, hj, rfl, hcB, hfB, hO, hle, ha⟩ := hrel
      have HA := hid ha
      have HOt := hid hO
      clear ha hO hset hset' hB hfz
      generalize hs0 : k + 1 + sumTo (fun i => size (d - 1) (kid t i)) j = s0 at *
      have HS0 := hid hs0
      clear hs0
      by_cases hlt : j < l
      · obtain ⟨hd0, b, off, rfl, hq, hc0, hc1, a', l', c', hc2, hrow⟩ := HR.out.cell hlt
        have hbw : b < w.heap.size := World.block_lt_of_cell? _ _ hc0
        replace hc0 := HOt.out.cell hq hc0
        replace hc1 := HOt.out.cell hq hc1
        replace hc2 := HOt.out.cell hq hc2
        have hBr : B < wr.heap.size := World.block_lt_of_cell? _ _ hcB
        have HX := hid (hrow.oth HOt.out)
        have HIE := hid (HI.out (d - 1) (by omega))
        clear hrow
        cases hok : okB (d - 1) (kid t j) (dep + 1) s0 with
        | false =>
          go_wp2_with fail
          refine (HIE.out (kid t j) a' l' c' (dep + 1) s0 B _ (HX.out.below (by repeat (first | exact Below.refl _ _ | assumption | refine Below.drew ?_ | refine Below.alloc ?_ (by first | exact Nat.le_refl _ | omega | (simp; done) | (simp; omega)) _ | refine Below.setCell ?_ (by first | exact Nat.le_refl _ | omega | (simp; done) | (simp; omega)) _))) (by omega) (by omega) (by simpa [go_sem, hBr] using hcB) (by simpa [go_sem, hBr] using hfB)).mono ?_
          rintro e w1 ⟨k', rfl, h1, h2, h3, h4, h5⟩
          have HP := hid (And.intro h2 (And.intro h3 (And.intro h4 (HOt.out.trans ((Oth.of_below B (show Below wr.heap.size wr _ from (by repeat (first | exact Below.refl _ _ | assumption | refine Below.drew ?_ | refine Below.alloc ?_ (by first | exact Nat.le_refl _ | omega | (simp; done) | (simp; omega)) _ | refine Below.setCell ?_ (by first | exact Nat.le_refl _ | omega | (simp; done) | (simp; omega)) _)))).trans h5)))))
          clear h1 h2 h3 h4 h5
          rw [hok]
          go_wp2
          go_ret
          have hF : okB d t dep k = false := by
            cases e : okB d t dep k with
            | false => rfl
            | true =>
              have := okB_kid HZ.out e (i := j) (by rw [HL.out]; exact hlt)
              rw [HS0.out, hok] at this
              exact this.symm
          exact ⟨k', ret_bool hF.symm, (fun h => by rw [hF] at h; cases h), HP.out.1, HP.out.2.1, HP.out.2.2.1, HP.out.2.2.2⟩
        | true =>
          go_wp2_with fail
          refine (HIE.out (kid t j) a' l' c' (dep + 1) s0 B _ (HX.out.below (by repeat (first | exact Below.refl _ _ | assumption | refine Below.drew ?_ | refine Below.alloc ?_ (by first | exact Nat.le_refl _ | omega | (simp; done) | (simp; omega)) _ | refine Below.setCell ?_ (by first | exact Nat.le_refl _ | omega | (simp; done) | (simp; omega)) _))) (by omega) (by omega) (by simpa [go_sem, hBr] using hcB) (by simpa [go_sem, hBr] using hfB)).mono ?_
          rintro e w1 ⟨k', rfl, h1, h2, h3, h4, h5⟩
          have h6 := h1 hok
          have h7 := (okB_iff.1 hok).1
          have HP := hid (And.intro h3 (And.intro h4 (HOt.out.trans ((Oth.of_below B (show Below wr.heap.size wr _ from (by repeat (first | exact Below.refl _ _ | assumption | refine Below.drew ?_ | refine Below.alloc ?_ (by first | exact Nat.le_refl _ | omega | (simp; done) | (simp; omega)) _ | refine Below.setCell ?_ (by first | exact Nat.le_refl _ | omega | (simp; done) | (simp; omega)) _)))).trans h5))))
          clear h1 h2 h3 h4 h5
          rw [hok]
          go_wp2
          go_roundw
          case rel =>
            have e : k + 1 + sumTo (fun i => size (d - 1) (kid t i)) (j + 1) = k' := by rw [sumTo_succ, ← Nat.add_assoc, HS0.out, h6]
            refine ⟨j + 1, by omega, by go_num, by rw [e]; exact HP.out.1, HP.out.2.1, HP.out.2.2, by omega, fun x hx => ?_⟩
            by_cases e : x = j
            · subst e; rw [HS0.out]; exact hok
            · exact HA.out x (by omega)
          case measure => simp [intOf]; omega
      · have e : j = l := by omega
        subst e
        have hT : okB d t dep k = true := okB_of HZ.out HSH.out (by omega) (by omega) (by rw [HL.out]; exact HA.out)
        have hsz : s0 = k + size d t := by rw [size_eq HZ.out, HL.out, ← HS0.out]; omega
        have HT := hid hT
        clear hT
        go_wp2
        go_ret
        exact ⟨s0, ret_bool HT.out.symm, fun _ => hsz, by omega, hcB, hfB, HOt.out⟩
  · have hs0 : shapeT t = false := by simpa using hs
    rw [okB_shape HZ.out hs0]
    have hs1 : ¬ ((l : Int) = kidsOf (kd t) ∧ 0 ≤ nn t ∧ nn t ≤ mostN (kd t)) := by
      have := of_decide_eq_false hs0
      rwa [HL.out] at this
    clear hs hs0
    generalize hkk : kd t = kk at *
    generalize hnk : nn t = nk at *
    clear hkk hnk
    by_cases h3 : (l : Int) = kidsOf kk
    · have d3 : ((l : Int) != kidsOf kk) = false := by simp [h3]
      by_cases h4 : nk < 0
      · have d4 : decide (nk < 0) = true := decide_eq_true h4
        clear h3 hs1 h4
        go_enter Try.func65, Try.ntmps65
        go_wp2
        go_quiet (first | (go_at_call 74; exact Calls.quiet_of_same (kids_impl _ _)) | (go_at_call 75; exact Calls.quiet_of_same (most_impl _ _)))
        go_wp2
        go_ret
        exact ⟨k + 1, rfl, fun h => (by cases h), by omega, by simpa using HS.out, by simp [go_sem, hset', hBl], (HO.out.then (by repeat (first | exact Below.refl _ _ | assumption | refine Below.drew ?_ | refine Below.alloc ?_ (by first | exact Nat.le_refl _ | omega | (simp; done) | (simp; omega)) _ | refine Below.setCell ?_ (by first | exact Nat.le_refl _ | omega | (simp; done) | (simp; omega)) _))).then (below_drewN _ _)⟩
      · have d4 : decide (nk < 0) = false := decide_eq_false h4
        have d5 : decide (mostN kk < nk) = true := decide_eq_true (by omega)
        clear h3 hs1 h4
        go_enter Try.func65, Try.ntmps65
        go_wp2
        go_quiet (first | (go_at_call 74; exact Calls.quiet_of_same (kids_impl _ _)) | (go_at_call 75; exact Calls.quiet_of_same (most_impl _ _)))
        go_wp2
        go_ret
        exact ⟨k + 1, rfl, fun h => (by cases h), by omega, by simpa using HS.out, by simp [go_sem, hset', hBl], (HO.out.then (by repeat (first | exact Below.refl _ _ | assumption | refine Below.drew ?_ | refine Below.alloc ?_ (by first | exact Nat.le_refl _ | omega | (simp; done) | (simp; omega)) _ | refine Below.setCell ?_ (by first | exact Nat.le_refl _ | omega | (simp; done) | (simp; omega)) _))).then (below_drewN _ _)⟩
    · have d3 : ((l : Int) != kidsOf kk) = true := by simp [h3]
      clear h3 hs1
      go_enter Try.func65, Try.ntmps65
      go_wp2
      go_quiet (first | (go_at_call 74; exact Calls.quiet_of_same (kids_impl _ _)) | (go_at_call 75; exact Calls.quiet_of_same (most_impl _ _)))
      go_wp2
      go_ret
      exact ⟨k + 1, rfl, fun h => (by cases h), by omega, by simpa using HS.out, by simp [go_sem, hset', hBl], (HO.out.then (by repeat (first | exact Below.refl _ _ | assumption | refine Below.drew ?_ | refine Below.alloc ?_ (by first | exact Nat.le_refl _ | omega | (simp; done) | (simp; omega)) _ | refine Below.setCell ?_ (by first | exact Nat.le_refl _ | omega | (simp; done) | (simp; omega)) _))).then (below_drewN _ _)⟩

set_option maxHeartbeats 400000 in
theorem exOK_impl (d : Nat) (t : T) (a : Option Addr) (l c : Nat) (w : World) (hr : Rd (fun _ => True) 1048576 w d t a l) :
    Calls Try.prog 38 #[.agg #[.int .i64 (kd t), .int .i64 (nn t), .slice a l c]] w fun e w' => e = .returned (.bool (okB d t 1 0)) ∧ Below w.heap.size w w' := by
  have HR := hid hr.old
  clear hr
  go_enter Try.func38, Try.ntmps38
  go_wp2_with fail
  refine (isE d t a l c 1 0 (w.heap.size + 1) _ ((HR.out.imp fun b hb => (by omega : b ≠ w.heap.size + 1)).below (by repeat (first | exact Below.refl _ _ | assumption | refine Below.drew ?_ | refine Below.alloc ?_ (by first | exact Nat.le_refl _ | omega | (simp; done) | (simp; omega)) _ | refine Below.setCell ?_ (by first | exact Nat.le_refl _ | omega | (simp; done) | (simp; omega)) _))) (by omega) (by omega) ?_ ?_).mono ?_
  · simp [go_sem]
  · simp [go_sem]
  rintro e w1 ⟨k', rfl, h1, h2, h3, h4, h5⟩
  have HB := hid ((show Below w.heap.size w _ from (by repeat (first | exact Below.refl _ _ | assumption | refine Below.drew ?_ | refine Below.alloc ?_ (by first | exact Nat.le_refl _ | omega | (simp; done) | (simp; omega)) _ | refine Below.setCell ?_ (by first | exact Nat.le_refl _ | omega | (simp; done) | (simp; omega)) _))).trans (h5.below (N := w.heap.size) (by simp; omega) (by omega)))
  clear h1 h2 h3 h4 h5
  go_wp2
  go_ret
  exact ⟨rfl, HB.out⟩
end Go.Proofs.Ytofdhoefphoaaaa.treeImpl
