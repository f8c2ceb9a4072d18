/- Of the program: whether routes are right, and whether a link on their ways is down; conditions: none but a right network. -/
import Derived.Test.YtahimnbagfcdfaaGreatRoutesB
import Derived.Test.YtahimnbagfcdfaaGreatNetImpl
namespace Go.Proofs.YtahimnbagfcdfaaGreat.routesImpl
open Go.RowKit Go.Deep Go base names netSem netImpl routeRow walkSem routesB
set_option linter.unusedVariables false

set_option maxHeartbeats 400000 in
theorem none_impl (w : World) :
    Calls Tryz.prog 80 #[] w fun e' w' => e' = .returned (.agg #[.int .i64 (-3), .int .i64 0, .int .i64 0, .bool false]) ∧ Below w.heap.size w w' := by
  go_enter Tryz.func80, Tryz.ntmps80
  go_wp2
  refine bodyPost_ret (v := .agg #[.int .i64 (-3), .int .i64 0, .int .i64 0, .bool false]) (by simp [results, Tryz.results80, go_sem]) rfl ⟨rfl, (by repeat (first | exact Below.refl _ _ | assumption | refine Below.drew ?_ | refine Below.alloc ?_ (by first | exact Nat.le_refl _ | omega | (simp; done) | (simp; omega)) _ | refine Below.setCell ?_ (by first | exact Nat.le_refl _ | omega | (simp; done) | (simp; omega)) _))⟩

set_option maxHeartbeats 1600000 in
theorem route_impl (p : Nat → Option Addr) (l c : Nat → Nat) (g : R) (i : Nat) (r : Rt) (w : World) (h : Row 3 w (p 1) (l 1) g) :
    Calls Tryz.prog 78 #[netV p l c, .int .i64 (i : Int), rtV r] w fun e' w' => e' = .returned (.bool (routeI g (l 1) i r)) ∧ Below w.heap.size w w' := by
  have HR := hid h
  clear h
  obtain ⟨D, hD⟩ : ∃ D, routeI g (l 1) i r = D := ⟨_, rfl⟩
  rw [hD]
  have HD := hid hD
  clear hD
  unfold routeI noneB at HD
  unfold netV rtV
  obtain ⟨x0, x1, x2, x3⟩ := r
  simp only [] at HD ⊢
  have HC : Hid (∀ w8 : World, Below ((w.alloc (.cells #[.slice (p 0) (l 0) (c 0), .slice (p 1) (l 1) (c 1), .slice (p 2) (l 2) (c 2), .slice (p 3) (l 3) (c 3), .slice (p 4) (l 4) (c 4), .slice (p 5) (l 5) (c 5)] 40)).alloc (.cells #[.int .i64 x0, .int .i64 x1, .int .i64 x2, .bool x3] 70)).heap.size ((w.alloc (.cells #[.slice (p 0) (l 0) (c 0), .slice (p 1) (l 1) (c 1), .slice (p 2) (l 2) (c 2), .slice (p 3) (l 3) (c 3), .slice (p 4) (l 4) (c 4), .slice (p 5) (l 5) (c 5)] 40)).alloc (.cells #[.int .i64 x0, .int .i64 x1, .int .i64 x2, .bool x3] 70)) w8 →
      w8.cell? ⟨w.heap.size + 1, 0, none⟩ = some (.int .i64 x0) ∧ w8.cell? ⟨w.heap.size + 1, 1, none⟩ = some (.int .i64 x1) ∧ w8.cell? ⟨w.heap.size + 1, 2, none⟩ = some (.int .i64 x2) ∧ w8.cell? ⟨w.heap.size + 1, 3, none⟩ = some (.bool x3) ∧ Below w.heap.size w w8) :=
    fun w8 hb => ⟨keep hb (by simp [go_sem]), keep hb (by simp [go_sem]), keep hb (by simp [go_sem]), keep hb (by simp [go_sem]), (show Below w.heap.size w _ from (by repeat (first | exact Below.refl _ _ | assumption | refine Below.drew ?_ | refine Below.alloc ?_ (by first | exact Nat.le_refl _ | omega | (simp; done) | (simp; omega)) _ | refine Below.setCell ?_ (by first | exact Nat.le_refl _ | omega | (simp; done) | (simp; omega)) _))).trans (hb.mono (by simp; omega))⟩
  by_cases h3 : x0 = -3
  · rw [if_pos h3] at HD
    have e3 : (x0 == -3) = true := by simp [h3]
    subst h3
    clear e3
    obtain ⟨b1, e1⟩ : ∃ b, decide (x1 = 0) = b := ⟨_, rfl⟩
    obtain ⟨b2, e2⟩ : ∃ b, decide (x2 = 0) = b := ⟨_, rfl⟩
    have HV : Hid (D = (b1 && b2 && !x3)) := by show _ = _; rw [← HD.out, e1, e2]; rfl
    clear HD
    have E1 := hid e1
    have E2 := hid e2
    clear e1 e2
    by_cases h1 : x1 = 0 <;> by_cases h2 : x2 = 0 <;> cases x3
    all_goals
      (try subst h1)
      (try subst h2)
      go_enter Tryz.func78, Tryz.ntmps78
      go_wp2_with fail
      go_region_with (go_at_call 80; refine (none_impl _).mono ?_; rintro e w5 ⟨rfl, hb5⟩; obtain ⟨r0, r1, r2, r3, hB⟩ := HC.out w5 (((Below.refl _ _).drew).trans hb5))
      all_goals
        go_wp2
        go_ret
        exact ⟨ret_bool (by rw [HV.out, ← E1.out, ← E2.out]; simp [*]), hB⟩
  · rw [if_neg h3] at HD
    have e3 : (x0 == -3) = false := by simp [h3]
    clear h3
    obtain ⟨b1, e1⟩ : ∃ b, inB x0 (-2) (-1) = b := ⟨_, rfl⟩
    obtain ⟨b2, e2⟩ : ∃ b, decide (0 ≤ linkAt g (l 1) (i : Int) x0) = b := ⟨_, rfl⟩
    obtain ⟨b4, e4⟩ : ∃ b, inB x1 0 1000 = b := ⟨_, rfl⟩
    obtain ⟨b5, e5⟩ : ∃ b, inB x2 0 10000 = b := ⟨_, rfl⟩
    rw [e1, e2, e4, e5] at HD
    have E2 := hid e2
    clear e2
    cases b1 with
    | true =>
      cases b4 <;> cases b5
      all_goals
        go_enter Tryz.func78, Tryz.ntmps78
        go_wp2_with (go_at_call 65; refine (within_impl _ _ _ _).mono ?_; rintro e w' ⟨rfl, rfl⟩)
        go_ret
        exact ⟨ret_bool (by rw [← HD.out]; rfl), (by repeat (first | exact Below.refl _ _ | assumption | refine Below.drew ?_ | refine Below.alloc ?_ (by first | exact Nat.le_refl _ | omega | (simp; done) | (simp; omega)) _ | refine Below.setCell ?_ (by first | exact Nat.le_refl _ | omega | (simp; done) | (simp; omega)) _))⟩
    | false =>
      go_enter Tryz.func78, Tryz.ntmps78
      go_wp2_with (go_at_call 65; refine (within_impl _ _ _ _).mono ?_; rintro e w' ⟨rfl, hw⟩; have hw := hw.symm; subst hw)
      refine (joined_impl (p 1) (l 1) (c 1) g i x0 _ (HR.out.below (by repeat (first | exact Below.refl _ _ | assumption | refine Below.drew ?_ | refine Below.alloc ?_ (by first | exact Nat.le_refl _ | omega | (simp; done) | (simp; omega)) _ | refine Below.setCell ?_ (by first | exact Nat.le_refl _ | omega | (simp; done) | (simp; omega)) _)))).mono ?_
      rintro e w1 ⟨rfl, hb1⟩
      rw [E2.out]
      obtain ⟨r0, r1, r2, r3, hB⟩ := HC.out _ hb1
      have HB := hid hB
      clear hb1 hB
      cases b2 <;> cases b4 <;> cases b5
      all_goals
        go_wp2_with (go_at_call 65; refine (within_impl _ _ _ _).mono ?_; rintro e w' ⟨rfl, rfl⟩)
        go_ret
        exact ⟨ret_bool (by rw [← HD.out]; rfl), HB.out⟩

set_option maxHeartbeats 1600000 in
theorem routes_impl (p : Nat → Option Addr) (l c : Nat → Nat) (g : R) (ra : Option Addr) (rl rc : Nat) (rs : Rs) (w : World) (h0 : l 0 ≤ maxLen) (h : Row 3 w (p 1) (l 1) g) (hr : RtRow w ra rl rs) (hin : LinksIn g (l 1) (l 0)) :
    Calls Tryz.prog 64 #[netV p l c, .slice ra rl rc] w fun e' w' => e' = .returned (.bool (routesB g (l 1) (l 0) rl rs)) ∧ Below w.heap.size w w' := by
  have hm2 := hr.most
  unfold maxLen at hm2 h0
  have HR := hid h
  have HT := hid hr
  have HI := hid (fun i => route_eq hin i (rs i))
  clear h hr hin
  unfold netV
  have C1 : Hid (∀ w8 : World, Below (w.alloc (.cells #[.slice (p 0) (l 0) (c 0), .slice (p 1) (l 1) (c 1), .slice (p 2) (l 2) (c 2), .slice (p 3) (l 3) (c 3), .slice (p 4) (l 4) (c 4), .slice (p 5) (l 5) (c 5)] 40)).heap.size (w.alloc (.cells #[.slice (p 0) (l 0) (c 0), .slice (p 1) (l 1) (c 1), .slice (p 2) (l 2) (c 2), .slice (p 3) (l 3) (c 3), .slice (p 4) (l 4) (c 4), .slice (p 5) (l 5) (c 5)] 40)) w8 →
      (w8.cell? ⟨w.heap.size, 0, none⟩ = some (.slice (p 0) (l 0) (c 0)) ∧ w8.cell? ⟨w.heap.size, 1, none⟩ = some (.slice (p 1) (l 1) (c 1)) ∧ w8.cell? ⟨w.heap.size, 2, none⟩ = some (.slice (p 2) (l 2) (c 2)) ∧ w8.cell? ⟨w.heap.size, 3, none⟩ = some (.slice (p 3) (l 3) (c 3)) ∧ w8.cell? ⟨w.heap.size, 4, none⟩ = some (.slice (p 4) (l 4) (c 4)) ∧ w8.cell? ⟨w.heap.size, 5, none⟩ = some (.slice (p 5) (l 5) (c 5))) ∧ Row 3 w8 (p 1) (l 1) g ∧ RtRow w8 ra rl rs ∧ Below w.heap.size w w8) :=
    fun w8 hb => ⟨⟨keep hb (by simp [go_sem]), keep hb (by simp [go_sem]), keep hb (by simp [go_sem]), keep hb (by simp [go_sem]), keep hb (by simp [go_sem]), keep hb (by simp [go_sem])⟩, (HR.out.below (by repeat (first | exact Below.refl _ _ | assumption | refine Below.drew ?_ | refine Below.alloc ?_ (by first | exact Nat.le_refl _ | omega | (simp; done) | (simp; omega)) _ | refine Below.setCell ?_ (by first | exact Nat.le_refl _ | omega | (simp; done) | (simp; omega)) _))).below hb, (HT.out.below (by repeat (first | exact Below.refl _ _ | assumption | refine Below.drew ?_ | refine Below.alloc ?_ (by first | exact Nat.le_refl _ | omega | (simp; done) | (simp; omega)) _ | refine Below.setCell ?_ (by first | exact Nat.le_refl _ | omega | (simp; done) | (simp; omega)) _))).below hb, (show Below w.heap.size w _ from (by repeat (first | exact Below.refl _ _ | assumption | refine Below.drew ?_ | refine Below.alloc ?_ (by first | exact Nat.le_refl _ | omega | (simp; done) | (simp; omega)) _ | refine Below.setCell ?_ (by first | exact Nat.le_refl _ | omega | (simp; done) | (simp; omega)) _))).trans (hb.mono (by simp))⟩
  obtain ⟨D, hD⟩ : ∃ D, routesB g (l 1) (l 0) rl rs = D := ⟨_, rfl⟩
  rw [hD]
  have HD := hid hD
  clear hD
  by_cases he : rl = l 0
  case neg =>
    have e1 : ((rl : Int) != (l 0 : Int)) = true := by simp; omega
    have e2 : D = false := by rw [← HD.out]; unfold routesB; rw [decide_eq_false he]; rfl
    subst e2
    clear he
    go_enter Tryz.func64, Tryz.ntmps64
    go_wp2
    go_ret
    exact ⟨rfl, (by repeat (first | exact Below.refl _ _ | assumption | refine Below.drew ?_ | refine Below.alloc ?_ (by first | exact Nat.le_refl _ | omega | (simp; done) | (simp; omega)) _ | refine Below.setCell ?_ (by first | exact Nat.le_refl _ | omega | (simp; done) | (simp; omega)) _))⟩
  have e1 : ((rl : Int) != (l 0 : Int)) = false := by simp [he]
  have HD2 : Hid (D = allN (fun i => routeI g (l 1) i (rs i)) rl) := by
    show _ = _
    rw [← HD.out]; unfold routesB; rw [decide_eq_true he, Bool.true_and]
    exact congrArg (fun q => allN q rl) (funext HI.out)
  clear he HD HI
  go_enter Tryz.func64, Tryz.ntmps64
  go_wp2
  go_loopw [15] (fun i wr => ∃ k : Nat, k ≤ rl ∧ i = .int .i64 k ∧ (∀ j, j < k → routeI g (l 1) j (rs j) = true) ∧ Below (w.alloc (.cells #[.slice (p 0) (l 0) (c 0), .slice (p 1) (l 1) (c 1), .slice (p 2) (l 2) (c 2), .slice (p 3) (l 3) (c 3), .slice (p 4) (l 4) (c 4), .slice (p 5) (l 5) (c 5)] 40)).heap.size (w.alloc (.cells #[.slice (p 0) (l 0) (c 0), .slice (p 1) (l 1) (c 1), .slice (p 2) (l 2) (c 2), .slice (p 3) (l 3) (c 3), .slice (p 4) (l 4) (c 4), .slice (p 5) (l 5) (c 5)] 40)) wr) (fun i _ => rl - (intOf i).toNat)
  case atStart => exact ⟨0, Nat.zero_le _, rfl, fun j hj => absurd hj (Nat.not_lt_zero _), Below.refl _ _⟩
  case round =>
    obtain ⟨k, hk, rfl, ha, hbel⟩ := hrel
    have HA := hid ha
    have HB := hid hbel
    obtain ⟨⟨q0, q1, q2, q3, q4, q5⟩, hrow, hrts, hB⟩ := C1.out wr hbel
    have BR := hid hB
    have s1 := World.block_lt_of_cell? _ _ q0
    clear ha hB
    by_cases hlt : k < rl
    · obtain ⟨b0, off, rfl, c0, c1', c2, c3⟩ := hrts.at4 hlt
      have HRow := hid hrow
      have s2 := World.block_lt_of_cell? _ _ c0
      clear hrow hrts hbel
      obtain ⟨E, hE⟩ : ∃ b, routeI g (l 1) k (rs k) = b := ⟨_, rfl⟩
      have HE := hid hE
      clear hE
      go_wp2_with fail
      refine (route_impl p l c g k (rs k) _ (HRow.out.below (by repeat (first | exact Below.refl _ _ | assumption | refine Below.drew ?_ | refine Below.alloc ?_ (by first | exact Nat.le_refl _ | omega | (simp; done) | (simp; omega)) _ | refine Below.setCell ?_ (by first | exact Nat.le_refl _ | omega | (simp; done) | (simp; omega)) _)))).mono ?_
      rintro e w1 ⟨rfl, hb1⟩
      rw [HE.out]
      have B1 : Hid (Below wr.heap.size wr w1) := (show Below wr.heap.size wr _ from (by repeat (first | exact Below.refl _ _ | assumption | refine Below.drew ?_ | refine Below.alloc ?_ (by first | exact Nat.le_refl _ | omega | (simp; done) | (simp; omega)) _ | refine Below.setCell ?_ (by first | exact Nat.le_refl _ | omega | (simp; done) | (simp; omega)) _))).trans (hb1.mono (by simp))
      clear hb1
      cases E with
      | true =>
        go_wp2
        go_roundw
        case rel =>
          refine ⟨k + 1, by omega, by go_num, fun j hj => ?_, HB.out.trans (B1.out.mono HB.out.size)⟩
          by_cases e : j = k
          · subst e; exact HE.out
          · exact HA.out j (by omega)
        case measure => simp [intOf]; omega
      | false =>
        have e2 : D = false := by rw [HD2.out]; exact allN_false hlt HE.out
        subst e2
        go_wp2
        go_ret
        exact ⟨rfl, BR.out.trans (B1.out.mono BR.out.size)⟩
    · have e : k = rl := by omega
      subst e
      have e2 : D = true := by rw [HD2.out]; exact allN_of HA.out
      subst e2
      clear hbel hrow hrts
      go_wp2
      go_ret
      exact ⟨rfl, BR.out⟩

end Go.Proofs.YtahimnbagfcdfaaGreat.routesImpl
