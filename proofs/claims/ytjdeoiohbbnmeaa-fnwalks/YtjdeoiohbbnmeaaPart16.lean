/- RoutesImpl; SceneBy: one text, so that the claim has fewer files. -/
import Derived.Test.YtjdeoiohbbnmeaaPart14
import Derived.Test.YtjdeoiohbbnmeaaNetImpl
import Derived.Test.YtjdeoiohbbnmeaaCandImp
import Derived.Laws.ResultCell
import Derived.Test.YtjdeoiohbbnmeaaPart11
/- Of the program: whether routes are right, and whether a link on their ways is down; conditions: none but a right network. -/
namespace Go.Proofs.Ytjdeoiohbbnmeaa.routesImpl
open Go.RowKit Go.Deep Go base names netSem netImpl routeRow walkSem routesB
set_option linter.unusedVariables false

set_option maxHeartbeats 400000 in
theorem none_impl (w : World) :
    Calls Try.prog 66 #[] w fun e' w' => e' = .returned (.agg #[.int .i64 (-3), .int .i64 0, .int .i64 0, .bool false]) ∧ Below w.heap.size w w' := by
  go_enter Try.func66, Try.ntmps66
  go_wp2
  refine bodyPost_ret (v := .agg #[.int .i64 (-3), .int .i64 0, .int .i64 0, .bool false]) (by simp [results, Try.results66, go_sem]) rfl ⟨rfl, (by repeat (first | exact Below.refl _ _ | assumption | refine Below.drew ?_ | refine Below.alloc ?_ (by first | exact Nat.le_refl _ | omega | (simp; done) | (simp; omega)) _ | refine Below.setCell ?_ (by first | exact Nat.le_refl _ | omega | (simp; done) | (simp; omega)) _))⟩

set_option maxHeartbeats 1600000 in
theorem route_impl (p : Nat → Option Addr) (l c : Nat → Nat) (g : R) (i : Nat) (r : Rt) (w : World) (h : Row 3 w (p 1) (l 1) g) :
    Calls Try.prog 44 #[netV p l c, .int .i64 (i : Int), rtV r] w fun e' w' => e' = .returned (.bool (routeI g (l 1) i r)) ∧ Below w.heap.size w w' := by
  have HR := hid h
  clear h
  obtain ⟨D, hD⟩ : ∃ D, routeI g (l 1) i r = D := ⟨_, rfl⟩
  rw [hD]
  have HD := hid hD
  clear hD
  unfold routeI noneB at HD
  unfold netV rtV
  obtain ⟨x0, x1, x2, x3⟩ := r
  simp only [] at HD ⊢
  have HC : Hid (∀ w8 : World, Below ((w.alloc (.cells #[.slice (p 0) (l 0) (c 0), .slice (p 1) (l 1) (c 1), .slice (p 2) (l 2) (c 2), .slice (p 3) (l 3) (c 3), .slice (p 4) (l 4) (c 4), .slice (p 5) (l 5) (c 5)] 29)).alloc (.cells #[.int .i64 x0, .int .i64 x1, .int .i64 x2, .bool x3] 45)).heap.size ((w.alloc (.cells #[.slice (p 0) (l 0) (c 0), .slice (p 1) (l 1) (c 1), .slice (p 2) (l 2) (c 2), .slice (p 3) (l 3) (c 3), .slice (p 4) (l 4) (c 4), .slice (p 5) (l 5) (c 5)] 29)).alloc (.cells #[.int .i64 x0, .int .i64 x1, .int .i64 x2, .bool x3] 45)) w8 →
      w8.cell? ⟨w.heap.size + 1, 0, none⟩ = some (.int .i64 x0) ∧ w8.cell? ⟨w.heap.size + 1, 1, none⟩ = some (.int .i64 x1) ∧ w8.cell? ⟨w.heap.size + 1, 2, none⟩ = some (.int .i64 x2) ∧ w8.cell? ⟨w.heap.size + 1, 3, none⟩ = some (.bool x3) ∧ Below w.heap.size w w8) :=
    fun w8 hb => ⟨keep hb (by simp [go_sem]), keep hb (by simp [go_sem]), keep hb (by simp [go_sem]), keep hb (by simp [go_sem]), (show Below w.heap.size w _ from (by repeat (first | exact Below.refl _ _ | assumption | refine Below.drew ?_ | refine Below.alloc ?_ (by first | exact Nat.le_refl _ | omega | (simp; done) | (simp; omega)) _ | refine Below.setCell ?_ (by first | exact Nat.le_refl _ | omega | (simp; done) | (simp; omega)) _))).trans (hb.mono (by simp; omega))⟩
  by_cases h3 : x0 = -3
  · rw [if_pos h3] at HD
    have e3 : (x0 == -3) = true := by simp [h3]
    subst h3
    clear e3
    obtain ⟨b1, e1⟩ : ∃ b, decide (x1 = 0) = b := ⟨_, rfl⟩
    obtain ⟨b2, e2⟩ : ∃ b, decide (x2 = 0) = b := ⟨_, rfl⟩
    have HV : Hid (D = (b1 && b2 && !x3)) := by show _ = _; rw [← HD.out, e1, e2]; rfl
    clear HD
    have E1 := hid e1
    have E2 := hid e2
    clear e1 e2
    by_cases h1 : x1 = 0 <;> by_cases h2 : x2 = 0 <;> cases x3
    all_goals
      (try subst h1)
      (try subst h2)
      go_enter Try.func44, Try.ntmps44
      go_wp2_with fail
      go_region_with (go_at_call 66; refine (none_impl _).mono ?_; rintro e w5 ⟨rfl, hb5⟩; obtain ⟨r0, r1, r2, r3, hB⟩ := HC.out w5 (((Below.refl _ _).drew).trans hb5))
      all_goals
        go_wp2
        go_ret
        exact ⟨ret_bool (by rw [HV.out, ← E1.out, ← E2.out]; simp [*]), hB⟩
  · rw [if_neg h3] at HD
    have e3 : (x0 == -3) = false := by simp [h3]
    clear h3
    obtain ⟨b1, e1⟩ : ∃ b, inB x0 (-2) (-1) = b := ⟨_, rfl⟩
    obtain ⟨b2, e2⟩ : ∃ b, decide (0 ≤ linkAt g (l 1) (i : Int) x0) = b := ⟨_, rfl⟩
    obtain ⟨b4, e4⟩ : ∃ b, inB x1 0 1000 = b := ⟨_, rfl⟩
    obtain ⟨b5, e5⟩ : ∃ b, inB x2 0 10000 = b := ⟨_, rfl⟩
    rw [e1, e2, e4, e5] at HD
    have E2 := hid e2
    clear e2
    cases b1 with
    | true =>
      cases b4 <;> cases b5
      all_goals
        go_enter Try.func44, Try.ntmps44
        go_wp2_with (go_at_call 31; refine (within_impl _ _ _ _).mono ?_; rintro e w' ⟨rfl, rfl⟩)
        go_ret
        exact ⟨ret_bool (by rw [← HD.out]; rfl), (by repeat (first | exact Below.refl _ _ | assumption | refine Below.drew ?_ | refine Below.alloc ?_ (by first | exact Nat.le_refl _ | omega | (simp; done) | (simp; omega)) _ | refine Below.setCell ?_ (by first | exact Nat.le_refl _ | omega | (simp; done) | (simp; omega)) _))⟩
    | false =>
      go_enter Try.func44, Try.ntmps44
      go_wp2_with (go_at_call 31; refine (within_impl _ _ _ _).mono ?_; rintro e w' ⟨rfl, hw⟩; have hw := hw.symm; subst hw)
      refine (joined_impl (p 1) (l 1) (c 1) g i x0 _ (HR.out.below (by repeat (first | exact Below.refl _ _ | assumption | refine Below.drew ?_ | refine Below.alloc ?_ (by first | exact Nat.le_refl _ | omega | (simp; done) | (simp; omega)) _ | refine Below.setCell ?_ (by first | exact Nat.le_refl _ | omega | (simp; done) | (simp; omega)) _)))).mono ?_
      rintro e w1 ⟨rfl, hb1⟩
      rw [E2.out]
      obtain ⟨r0, r1, r2, r3, hB⟩ := HC.out _ hb1
      have HB := hid hB
      clear hb1 hB
      cases b2 <;> cases b4 <;> cases b5
      all_goals
        go_wp2_with (go_at_call 31; refine (within_impl _ _ _ _).mono ?_; rintro e w' ⟨rfl, rfl⟩)
        go_ret
        exact ⟨ret_bool (by rw [← HD.out]; rfl), HB.out⟩

set_option maxHeartbeats 1600000 in
theorem routes_impl (p : Nat → Option Addr) (l c : Nat → Nat) (g : R) (ra : Option Addr) (rl rc : Nat) (rs : Rs) (w : World) (h0 : l 0 ≤ maxLen) (h : Row 3 w (p 1) (l 1) g) (hr : RtRow w ra rl rs) (hin : LinksIn g (l 1) (l 0)) :
    Calls Try.prog 20 #[netV p l c, .slice ra rl rc] w fun e' w' => e' = .returned (.bool (routesB g (l 1) (l 0) rl rs)) ∧ Below w.heap.size w w' := by
  have hm2 := hr.most
  unfold maxLen at hm2 h0
  have HR := hid h
  have HT := hid hr
  have HI := hid (fun i => route_eq hin i (rs i))
  clear h hr hin
  unfold netV
  have C1 : Hid (∀ w8 : World, Below (w.alloc (.cells #[.slice (p 0) (l 0) (c 0), .slice (p 1) (l 1) (c 1), .slice (p 2) (l 2) (c 2), .slice (p 3) (l 3) (c 3), .slice (p 4) (l 4) (c 4), .slice (p 5) (l 5) (c 5)] 29)).heap.size (w.alloc (.cells #[.slice (p 0) (l 0) (c 0), .slice (p 1) (l 1) (c 1), .slice (p 2) (l 2) (c 2), .slice (p 3) (l 3) (c 3), .slice (p 4) (l 4) (c 4), .slice (p 5) (l 5) (c 5)] 29)) w8 →
      (w8.cell? ⟨w.heap.size, 0, none⟩ = some (.slice (p 0) (l 0) (c 0)) ∧ w8.cell? ⟨w.heap.size, 1, none⟩ = some (.slice (p 1) (l 1) (c 1)) ∧ w8.cell? ⟨w.heap.size, 2, none⟩ = some (.slice (p 2) (l 2) (c 2)) ∧ w8.cell? ⟨w.heap.size, 3, none⟩ = some (.slice (p 3) (l 3) (c 3)) ∧ w8.cell? ⟨w.heap.size, 4, none⟩ = some (.slice (p 4) (l 4) (c 4)) ∧ w8.cell? ⟨w.heap.size, 5, none⟩ = some (.slice (p 5) (l 5) (c 5))) ∧ Row 3 w8 (p 1) (l 1) g ∧ RtRow w8 ra rl rs ∧ Below w.heap.size w w8) :=
    fun w8 hb => ⟨⟨keep hb (by simp [go_sem]), keep hb (by simp [go_sem]), keep hb (by simp [go_sem]), keep hb (by simp [go_sem]), keep hb (by simp [go_sem]), keep hb (by simp [go_sem])⟩, (HR.out.below (by repeat (first | exact Below.refl _ _ | assumption | refine Below.drew ?_ | refine Below.alloc ?_ (by first | exact Nat.le_refl _ | omega | (simp; done) | (simp; omega)) _ | refine Below.setCell ?_ (by first | exact Nat.le_refl _ | omega | (simp; done) | (simp; omega)) _))).below hb, (HT.out.below (by repeat (first | exact Below.refl _ _ | assumption | refine Below.drew ?_ | refine Below.alloc ?_ (by first | exact Nat.le_refl _ | omega | (simp; done) | (simp; omega)) _ | refine Below.setCell ?_ (by first | exact Nat.le_refl _ | omega | (simp; done) | (simp; omega)) _))).below hb, (show Below w.heap.size w _ from (by repeat (first | exact Below.refl _ _ | assumption | refine Below.drew ?_ | refine Below.alloc ?_ (by first | exact Nat.le_refl _ | omega | (simp; done) | (simp; omega)) _ | refine Below.setCell ?_ (by first | exact Nat.le_refl _ | omega | (simp; done) | (simp; omega)) _))).trans (hb.mono (by simp))⟩
  obtain ⟨D, hD⟩ : ∃ D, routesB g (l 1) (l 0) rl rs = D := ⟨_, rfl⟩
  rw [hD]
  have HD := hid hD
  clear hD
  by_cases he : rl = l 0
  case neg =>
    have e1 : ((rl : Int) != (l 0 : Int)) = true := by simp; omega
    have e2 : D = false := by rw [← HD.out]; unfold routesB; rw [decide_eq_false he]; rfl
    subst e2
    clear he
    go_enter Try.func20, Try.ntmps20
    go_wp2
    go_ret
    exact ⟨rfl, (by repeat (first | exact Below.refl _ _ | assumption | refine Below.drew ?_ | refine Below.alloc ?_ (by first | exact Nat.le_refl _ | omega | (simp; done) | (simp; omega)) _ | refine Below.setCell ?_ (by first | exact Nat.le_refl _ | omega | (simp; done) | (simp; omega)) _))⟩
  have e1 : ((rl : Int) != (l 0 : Int)) = false := by simp [he]
  have HD2 : Hid (D = allN (fun i => routeI g (l 1) i (rs i)) rl) := by
    show _ = _
    rw [← HD.out]; unfold routesB; rw [decide_eq_true he, Bool.true_and]
    exact congrArg (fun q => allN q rl) (funext HI.out)
  clear he HD HI
  go_enter Try.func20, Try.ntmps20
  go_wp2
  go_loopw [15] (fun i wr => ∃ k : Nat, k ≤ rl ∧ i = .int .i64 k ∧ (∀ j, j < k → routeI g (l 1) j (rs j) = true) ∧ Below (w.alloc (.cells #[.slice (p 0) (l 0) (c 0), .slice (p 1) (l 1) (c 1), .slice (p 2) (l 2) (c 2), .slice (p 3) (l 3) (c 3), .slice (p 4) (l 4) (c 4), .slice (p 5) (l 5) (c 5)] 29)).heap.size (w.alloc (.cells #[.slice (p 0) (l 0) (c 0), .slice (p 1) (l 1) (c 1), .slice (p 2) (l 2) (c 2), .slice (p 3) (l 3) (c 3), .slice (p 4) (l 4) (c 4), .slice (p 5) (l 5) (c 5)] 29)) wr) (fun i _ => rl - (intOf i).toNat)
  case atStart => exact ⟨0, Nat.zero_le _, rfl, fun j hj => absurd hj (Nat.not_lt_zero _), Below.refl _ _⟩
  case round =>
    obtain ⟨k, hk, rfl, ha, hbel⟩ := hrel
    have HA := hid ha
    have HB := hid hbel
    obtain ⟨⟨q0, q1, q2, q3, q4, q5⟩, hrow, hrts, hB⟩ := C1.out wr hbel
    have BR := hid hB
    have s1 := World.block_lt_of_cell? _ _ q0
    clear ha hB
    by_cases hlt : k < rl
    · obtain ⟨b0, off, rfl, c0, c1', c2, c3⟩ := hrts.at4 hlt
      have HRow := hid hrow
      have s2 := World.block_lt_of_cell? _ _ c0
      clear hrow hrts hbel
      obtain ⟨E, hE⟩ : ∃ b, routeI g (l 1) k (rs k) = b := ⟨_, rfl⟩
      have HE := hid hE
      clear hE
      go_wp2_with fail
      refine (route_impl p l c g k (rs k) _ (HRow.out.below (by repeat (first | exact Below.refl _ _ | assumption | refine Below.drew ?_ | refine Below.alloc ?_ (by first | exact Nat.le_refl _ | omega | (simp; done) | (simp; omega)) _ | refine Below.setCell ?_ (by first | exact Nat.le_refl _ | omega | (simp; done) | (simp; omega)) _)))).mono ?_
      rintro e w1 ⟨rfl, hb1⟩
      rw [HE.out]
      have B1 : Hid (Below wr.heap.size wr w1) := (show Below wr.heap.size wr _ from (by repeat (first | exact Below.refl _ _ | assumption | refine Below.drew ?_ | refine Below.alloc ?_ (by first | exact Nat.le_refl _ | omega | (simp; done) | (simp; omega)) _ | refine Below.setCell ?_ (by first | exact Nat.le_refl _ | omega | (simp; done) | (simp; omega)) _))).trans (hb1.mono (by simp))
      clear hb1
      cases E with
      | true =>
        go_wp2
        go_roundw
        case rel =>
          refine ⟨k + 1, by omega, by go_num, fun j hj => ?_, HB.out.trans (B1.out.mono HB.out.size)⟩
          by_cases e : j = k
          · subst e; exact HE.out
          · exact HA.out j (by omega)
        case measure => simp [intOf]; omega
      | false =>
        have e2 : D = false := by rw [HD2.out]; exact allN_false hlt HE.out
        subst e2
        go_wp2
        go_ret
        exact ⟨rfl, BR.out.trans (B1.out.mono BR.out.size)⟩
    · have e : k = rl := by omega
      subst e
      have e2 : D = true := by rw [HD2.out]; exact allN_of HA.out
      subst e2
      clear hbel hrow hrts
      go_wp2
      go_ret
      exact ⟨rfl, BR.out⟩

set_option maxHeartbeats 1600000 in
theorem down_impl (p : Nat → Option Addr) (l c : Nat → Nat) (g : R) (da ra : Option Addr) (dl dc rl rc : Nat) (ds : List Bool) (rs : Rs) (w : World) (h : Row 3 w (p 1) (l 1) g) (hd : BoolRow w da dl ds) (hr : RtRow w ra rl rs) (hdl : dl = l 1) :
    Calls Try.prog 23 #[netV p l c, .slice da dl dc, .slice ra rl rc] w fun e' w' => e' = .returned (.bool (anyDown g (l 1) rl ds rs)) ∧ Below w.heap.size w w' := by
  have hm2 := hr.most
  have hm3 := hd.most
  unfold maxLen at hm2 hm3
  have HR := hid h
  have HT := hid hr
  have HDn := hid hd
  have HDL := hid hdl
  clear h hr hd hdl
  unfold netV
  have C1 : Hid (∀ w8 : World, Below (w.alloc (.cells #[.slice (p 0) (l 0) (c 0), .slice (p 1) (l 1) (c 1), .slice (p 2) (l 2) (c 2), .slice (p 3) (l 3) (c 3), .slice (p 4) (l 4) (c 4), .slice (p 5) (l 5) (c 5)] 29)).heap.size (w.alloc (.cells #[.slice (p 0) (l 0) (c 0), .slice (p 1) (l 1) (c 1), .slice (p 2) (l 2) (c 2), .slice (p 3) (l 3) (c 3), .slice (p 4) (l 4) (c 4), .slice (p 5) (l 5) (c 5)] 29)) w8 →
      w8.cell? ⟨w.heap.size, 1, none⟩ = some (.slice (p 1) (l 1) (c 1)) ∧ Row 3 w8 (p 1) (l 1) g ∧ RtRow w8 ra rl rs ∧ BoolRow w8 da dl ds ∧ Below w.heap.size w w8) :=
    fun w8 hb => ⟨keep hb (by simp [go_sem]), (HR.out.below (by repeat (first | exact Below.refl _ _ | assumption | refine Below.drew ?_ | refine Below.alloc ?_ (by first | exact Nat.le_refl _ | omega | (simp; done) | (simp; omega)) _ | refine Below.setCell ?_ (by first | exact Nat.le_refl _ | omega | (simp; done) | (simp; omega)) _))).below hb, (HT.out.below (by repeat (first | exact Below.refl _ _ | assumption | refine Below.drew ?_ | refine Below.alloc ?_ (by first | exact Nat.le_refl _ | omega | (simp; done) | (simp; omega)) _ | refine Below.setCell ?_ (by first | exact Nat.le_refl _ | omega | (simp; done) | (simp; omega)) _))).below hb, (HDn.out.below (by repeat (first | exact Below.refl _ _ | assumption | refine Below.drew ?_ | refine Below.alloc ?_ (by first | exact Nat.le_refl _ | omega | (simp; done) | (simp; omega)) _ | refine Below.setCell ?_ (by first | exact Nat.le_refl _ | omega | (simp; done) | (simp; omega)) _))).below hb, (show Below w.heap.size w _ from (by repeat (first | exact Below.refl _ _ | assumption | refine Below.drew ?_ | refine Below.alloc ?_ (by first | exact Nat.le_refl _ | omega | (simp; done) | (simp; omega)) _ | refine Below.setCell ?_ (by first | exact Nat.le_refl _ | omega | (simp; done) | (simp; omega)) _))).trans (hb.mono (by simp))⟩
  obtain ⟨D, hD⟩ : ∃ D, anyDown g (l 1) rl ds rs = D := ⟨_, rfl⟩
  rw [hD]
  have HD := hid hD
  clear hD
  go_enter Try.func23, Try.ntmps23
  go_wp2
  go_loopw [12] (fun i wr => ∃ k : Nat, k ≤ rl ∧ i = .int .i64 k ∧ (∀ j, j < k → downB g (l 1) ds j (rs j) = false) ∧ Below (w.alloc (.cells #[.slice (p 0) (l 0) (c 0), .slice (p 1) (l 1) (c 1), .slice (p 2) (l 2) (c 2), .slice (p 3) (l 3) (c 3), .slice (p 4) (l 4) (c 4), .slice (p 5) (l 5) (c 5)] 29)).heap.size (w.alloc (.cells #[.slice (p 0) (l 0) (c 0), .slice (p 1) (l 1) (c 1), .slice (p 2) (l 2) (c 2), .slice (p 3) (l 3) (c 3), .slice (p 4) (l 4) (c 4), .slice (p 5) (l 5) (c 5)] 29)) wr) (fun i _ => rl - (intOf i).toNat)
  case atStart => exact ⟨0, Nat.zero_le _, rfl, fun j hj => absurd hj (Nat.not_lt_zero _), Below.refl _ _⟩
  case round =>
    obtain ⟨k, hk, rfl, ha, hbel⟩ := hrel
    have HA := hid ha
    have HB := hid hbel
    obtain ⟨q1, hrow, hrts, hdn, hB⟩ := C1.out wr hbel
    have BR := hid hB
    have s1 := World.block_lt_of_cell? _ _ q1
    clear ha hB
    by_cases hlt : k < rl
    · obtain ⟨b0, off, rfl, c0, c1', c2, c3⟩ := hrts.at4 hlt
      have HRow := hid hrow
      have HDw := hid hdn
      have s2 := World.block_lt_of_cell? _ _ c0
      clear hrow hrts hbel hdn
      have HQ : Hid (downB g (l 1) ds k (rs k) = (decide (0 ≤ linkAt g (l 1) (k : Int) (rs k).via) && ds[(linkAt g (l 1) (k : Int) (rs k).via).toNat]?.getD false)) := rfl
      have HLB := hid (firstAt_bounds (hit g (k : Int) (rs k).via) (l 1))
      obtain ⟨L, hL⟩ : ∃ L, linkAt g (l 1) (k : Int) (rs k).via = L := ⟨_, rfl⟩
      have hLL : firstAt (hit g (k : Int) (rs k).via) (l 1) = L := hL
      rw [hLL] at HLB
      rw [hL] at HQ
      clear hLL
      have HL := hid hL
      clear hL
      generalize (rs k).via = x0 at *
      generalize (rs k).pref = x1 at *
      generalize (rs k).len = x2 at *
      generalize (rs k).mark = x3 at *
      go_wp2_with fail
      refine (link_impl (p 1) (l 1) (c 1) g k x0 _ (HRow.out.below (by repeat (first | exact Below.refl _ _ | assumption | refine Below.drew ?_ | refine Below.alloc ?_ (by first | exact Nat.le_refl _ | omega | (simp; done) | (simp; omega)) _ | refine Below.setCell ?_ (by first | exact Nat.le_refl _ | omega | (simp; done) | (simp; omega)) _)))).mono ?_
      rintro e w1 ⟨rfl, hb1⟩
      rw [HL.out]
      have hb1' : Below wr.heap.size wr w1 := (show Below wr.heap.size wr _ from (by repeat (first | exact Below.refl _ _ | assumption | refine Below.drew ?_ | refine Below.alloc ?_ (by first | exact Nat.le_refl _ | omega | (simp; done) | (simp; omega)) _ | refine Below.setCell ?_ (by first | exact Nat.le_refl _ | omega | (simp; done) | (simp; omega)) _))).trans (hb1.mono (by simp))
      have B1 := hid hb1'
      have D1 := hid (HDw.out.below hb1')
      clear hb1 hb1'
      by_cases h0 : 0 ≤ L
      · obtain ⟨m, rfl⟩ : ∃ m : Nat, L = (m : Int) := ⟨L.toNat, by omega⟩
        have hml : m < l 1 := by have := HLB.out; omega
        obtain ⟨b, off', rfl, hdc⟩ := D1.out.cell m (by rw [HDL.out]; exact hml)
        have hmd : (m : Int) < (dl : Int) := by rw [HDL.out]; omega
        have HQ2 : Hid (downB g (l 1) ds k (rs k) = ds[m]?.getD false) := by
          show _ = _
          rw [HQ.out]; simp
        clear HQ
        generalize ds[m]?.getD false = db at *
        have g0 : decide ((0 : Int) ≤ (m : Int)) = true := decide_eq_true (by omega)
        clear h0
        cases db with
        | true =>
          have e2 : D = true := by rw [← HD.out]; unfold anyDown; rw [allN_false hlt (by rw [HQ2.out]; rfl)]; rfl
          subst e2
          go_wp2
          go_ret
          exact ⟨rfl, BR.out.trans (B1.out.mono BR.out.size)⟩
        | false =>
          go_wp2
          go_roundw
          case rel =>
            refine ⟨k + 1, by omega, by go_num, fun j hj => ?_, HB.out.trans (B1.out.mono HB.out.size)⟩
            by_cases e : j = k
            · subst e; exact HQ2.out
            · exact HA.out j (by omega)
          case measure => simp [intOf]; omega
      · have g0 : decide ((0 : Int) ≤ L) = false := decide_eq_false h0
        have HQ2 : Hid (downB g (l 1) ds k (rs k) = false) := by
          show _ = _
          rw [HQ.out, g0]; rfl
        clear HQ h0
        go_wp2
        go_roundw
        case rel =>
          refine ⟨k + 1, by omega, by go_num, fun j hj => ?_, HB.out.trans (B1.out.mono HB.out.size)⟩
          by_cases e : j = k
          · subst e; exact HQ2.out
          · exact HA.out j (by omega)
        case measure => simp [intOf]; omega
    · have e : k = rl := by omega
      subst e
      have e2 : D = false := by rw [← HD.out]; unfold anyDown; rw [allN_of (fun i hi => by rw [HA.out i hi]; rfl)]; rfl
      subst e2
      clear hbel hrow hrts hdn
      go_wp2
      go_ret
      exact ⟨rfl, BR.out⟩
end Go.Proofs.Ytjdeoiohbbnmeaa.routesImpl

/- Of the program: what a router could have of a Via; conditions: a right scene and right routes. -/
namespace Go.Proofs.Ytjdeoiohbbnmeaa.sceneBy
open Go.RowKit Go.Deep Go base netSem routeRow nbSem candSem candImp hopSem intsOwn hopMake hopBetween sceneSem routesImpl
set_option linter.unusedVariables false

/-- What is right of routes, links and imports. -/
structure Good (n : Nat) (l : Nat → Nat) (g x : R) (rs : Rs) : Prop where
  few : n ≤ 4
  uniq : ∀ i, i < l 1 → linkAt g i (g i 0) (g i 1) < 0
  cost : ∀ i, i < l 1 → 0 ≤ g i 2 ∧ g i 2 ≤ 100
  deed : ∀ i, i < l 4 → 1 ≤ x i 3 ∧ x i 3 ≤ 4
  via : ∀ i, i < n → -3 ≤ (rs i).via ∧ (rs i).via < n
  len : ∀ i, i < n → 0 ≤ (rs i).len ∧ (rs i).len ≤ 20000
theorem ck_bounds {g : R} {p q : Int} : ∀ k, (∀ i, i < k → 0 ≤ g i 2 ∧ g i 2 ≤ 100) → 0 ≤ ckT g p q k ∧ ckT g p q k ≤ 100
  | 0, _ => by simp [ckT]
  | k + 1, h => by
    simp only [ckT]
    split
    · exact h k (by omega)
    · exact ck_bounds k (fun i hi => h i (by omega))

theorem js_lt {x : R} {p q : Int} {k i : Nat} (h : i ∈ jsT x p q k) : i < k := by
  unfold jsT at h
  exact List.mem_range.1 (List.mem_filter.1 h).1
end Go.Proofs.Ytjdeoiohbbnmeaa.sceneBy
