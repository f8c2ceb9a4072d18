/- Whether a property is one of a network, of the program; conditions: none. -/
import Derived.Test.YtbfpbfifhcfehaaPropSem
import Derived.Test.YtbfpbfifhcfehaaNetOKImpl
namespace Go.Proofs.Ytbfpbfifhcfehaa.propImpl
open Go.RowKit Go.Deep Go base names netSem propSem netImpl netParts netFace netOKImpl
set_option linter.unusedVariables false

theorem port_impl (n : Int) (w : World) :
    Calls Try.prog 39 #[.int .i64 n] w fun e w' => e = .returned (.bool (inB n 0 15)) ∧ w' = w := by
  go_enter Try.func39, Try.ntmps39
  go_wp2_with (go_at_call 37; refine (within_impl _ _ _ _).mono ?_; rintro e w' ⟨rfl, rfl⟩)
  go_ret
  exact ⟨rfl, rfl⟩

set_option maxHeartbeats 3200000 in
theorem prop_impl (p : Nat → Option Addr) (l c : Nat → Nat) (s : Ss) (g : R) (o e : List Int) (x f : R) (k fr po wy : Int) (w : World) (h : NetIs w p l s g o e x f) (hc0 : l 0 ≤ c 0) (hc1 : l 1 ≤ c 1) :
    Calls Try.prog 9 #[netV p l c, .agg #[.int .i64 k, .int .i64 fr, .int .i64 po, .int .i64 wy]] w fun e' w' => e' = .returned (.bool (propB (netB l s g o e x f) (l 0) k fr po wy)) ∧ Below w.heap.size w w' := by
  have HN := hid h
  have m0 := h.routers.most
  have HM0 := hid m0
  unfold maxLen at m0
  have HK0 := hid hc0
  have HK1 := hid hc1
  clear h hc0 hc1
  obtain ⟨D, hD⟩ : ∃ D, propB (netB l s g o e x f) (l 0) k fr po wy = D := ⟨_, rfl⟩
  rw [hD]
  have HP := hid hD
  clear hD
  have C1 : ∀ w8 : World, Below ((w.alloc (.cells #[.slice (p 0) (l 0) (c 0), .slice (p 1) (l 1) (c 1), .slice (p 2) (l 2) (c 2), .slice (p 3) (l 3) (c 3), .slice (p 4) (l 4) (c 4), .slice (p 5) (l 5) (c 5)] 37)).alloc (.cells #[.int .i64 k, .int .i64 fr, .int .i64 po, .int .i64 wy] 39)).heap.size ((w.alloc (.cells #[.slice (p 0) (l 0) (c 0), .slice (p 1) (l 1) (c 1), .slice (p 2) (l 2) (c 2), .slice (p 3) (l 3) (c 3), .slice (p 4) (l 4) (c 4), .slice (p 5) (l 5) (c 5)] 37)).alloc (.cells #[.int .i64 k, .int .i64 fr, .int .i64 po, .int .i64 wy] 39)) w8 →
      w8.cell? ⟨w.heap.size, 0, none⟩ = some (.slice (p 0) (l 0) (c 0)) ∧ w8.cell? ⟨w.heap.size + 1, 0, none⟩ = some (.int .i64 k) ∧ w8.cell? ⟨w.heap.size + 1, 1, none⟩ = some (.int .i64 fr) ∧ w8.cell? ⟨w.heap.size + 1, 2, none⟩ = some (.int .i64 po) ∧ w8.cell? ⟨w.heap.size + 1, 3, none⟩ = some (.int .i64 wy) ∧ Below w.heap.size w w8 :=
    fun w8 hb => ⟨keep hb (by simp [go_sem]), keep hb (by simp [go_sem]), keep hb (by simp [go_sem]), keep hb (by simp [go_sem]), keep hb (by simp [go_sem]), (show Below w.heap.size w _ from (by repeat (first | exact Below.refl _ _ | assumption | refine Below.drew ?_ | refine Below.alloc ?_ (by first | exact Nat.le_refl _ | omega | (simp; done) | (simp; omega)) _ | refine Below.setCell ?_ (by first | exact Nat.le_refl _ | omega | (simp; done) | (simp; omega)) _))).trans (hb.mono (by simp; omega))⟩
  have HC1 := hid C1
  clear C1
  unfold netV
  go_enter Try.func9, Try.ntmps9
  go_wp2_with fail
  refine (netOK_impl p l c s g o e x f _ (HN.out.below (by repeat (first | exact Below.refl _ _ | assumption | refine Below.drew ?_ | refine Below.alloc ?_ (by first | exact Nat.le_refl _ | omega | (simp; done) | (simp; omega)) _ | refine Below.setCell ?_ (by first | exact Nat.le_refl _ | omega | (simp; done) | (simp; omega)) _))) HK0.out HK1.out).mono ?_
  rintro e' w1 ⟨rfl, hb1⟩
  obtain ⟨q0, x0, x1, x2, x3, hB⟩ := HC1.out w1 hb1
  have B1 := hid hB
  clear hb1 hB HC1
  obtain ⟨b, eb⟩ : ∃ b, netB l s g o e x f = b := ⟨_, rfl⟩
  rw [eb]
  cases b with
  | false =>
    go_wp2
    go_ret
    exact ⟨ret_bool (by rw [← HP.out, eb]; simp [propB]), B1.out⟩
  | true =>
  have h0 := netB_in eb
  obtain ⟨b1, e1⟩ : ∃ b, inB k 1 4 = b := ⟨_, rfl⟩
  obtain ⟨b2, e2⟩ : ∃ b, inB fr 0 (l 0 - 1) = b := ⟨_, rfl⟩
  obtain ⟨b3, e3⟩ : ∃ b, (po == -1) = b := ⟨_, rfl⟩
  obtain ⟨b4, e4⟩ : ∃ b, inB po 0 15 = b := ⟨_, rfl⟩
  obtain ⟨b5, e5⟩ : ∃ b, (wy == 0) = b := ⟨_, rfl⟩
  obtain ⟨b6, e6⟩ : ∃ b, (k == 3) = b := ⟨_, rfl⟩
  obtain ⟨b7, e7⟩ : ∃ b, inB wy 0 (l 0 - 1) = b := ⟨_, rfl⟩
  have HD : Hid (D = (b1 && b2 && (b3 || b4) && (b5 || b6 && b7))) := by
    show _ = _
    rw [← HP.out, eb]; exact (prop_eq h0.1 e1 e2 e3 e4 e5 e6 e7)
  clear HP eb
  cases b1 with
  | false =>
    go_wp2_with (first | (go_at_call 37; refine (within_impl _ _ _ _).mono ?_; rintro e w' ⟨rfl, rfl⟩) | (go_at_call 38; refine (router_impl _ _ _ HM0.out).mono ?_; rintro e w' ⟨rfl, rfl⟩) | (go_at_call 39; refine (port_impl _ _).mono ?_; rintro e w' ⟨rfl, rfl⟩))
    go_ret
    exact ⟨ret_bool (by rw [HD.out]; rfl), B1.out⟩
  | true =>
    cases b2 with
    | false =>
      go_wp2_with (first | (go_at_call 37; refine (within_impl _ _ _ _).mono ?_; rintro e w' ⟨rfl, rfl⟩) | (go_at_call 38; refine (router_impl _ _ _ HM0.out).mono ?_; rintro e w' ⟨rfl, rfl⟩) | (go_at_call 39; refine (port_impl _ _).mono ?_; rintro e w' ⟨rfl, rfl⟩))
      go_ret
      exact ⟨ret_bool (by rw [HD.out]; rfl), B1.out⟩
    | true =>
      cases b3 with
      | false =>
        cases b4 with
        | false =>
          go_wp2_with (first | (go_at_call 37; refine (within_impl _ _ _ _).mono ?_; rintro e w' ⟨rfl, rfl⟩) | (go_at_call 38; refine (router_impl _ _ _ HM0.out).mono ?_; rintro e w' ⟨rfl, rfl⟩) | (go_at_call 39; refine (port_impl _ _).mono ?_; rintro e w' ⟨rfl, rfl⟩))
          go_ret
          exact ⟨ret_bool (by rw [HD.out]; rfl), B1.out⟩
        | true =>
          cases b5 with
          | false =>
            cases b6 with
            | false =>
              go_wp2_with (first | (go_at_call 37; refine (within_impl _ _ _ _).mono ?_; rintro e w' ⟨rfl, rfl⟩) | (go_at_call 38; refine (router_impl _ _ _ HM0.out).mono ?_; rintro e w' ⟨rfl, rfl⟩) | (go_at_call 39; refine (port_impl _ _).mono ?_; rintro e w' ⟨rfl, rfl⟩))
              go_ret
              exact ⟨ret_bool (by rw [HD.out]; rfl), B1.out⟩
            | true =>
              cases b7 with
              | false =>
                go_wp2_with (first | (go_at_call 37; refine (within_impl _ _ _ _).mono ?_; rintro e w' ⟨rfl, rfl⟩) | (go_at_call 38; refine (router_impl _ _ _ HM0.out).mono ?_; rintro e w' ⟨rfl, rfl⟩) | (go_at_call 39; refine (port_impl _ _).mono ?_; rintro e w' ⟨rfl, rfl⟩))
                go_ret
                exact ⟨ret_bool (by rw [HD.out]; rfl), B1.out⟩
              | true =>
                go_wp2_with (first | (go_at_call 37; refine (within_impl _ _ _ _).mono ?_; rintro e w' ⟨rfl, rfl⟩) | (go_at_call 38; refine (router_impl _ _ _ HM0.out).mono ?_; rintro e w' ⟨rfl, rfl⟩) | (go_at_call 39; refine (port_impl _ _).mono ?_; rintro e w' ⟨rfl, rfl⟩))
                go_ret
                exact ⟨ret_bool (by rw [HD.out]; rfl), B1.out⟩
          | true =>
            go_wp2_with (first | (go_at_call 37; refine (within_impl _ _ _ _).mono ?_; rintro e w' ⟨rfl, rfl⟩) | (go_at_call 38; refine (router_impl _ _ _ HM0.out).mono ?_; rintro e w' ⟨rfl, rfl⟩) | (go_at_call 39; refine (port_impl _ _).mono ?_; rintro e w' ⟨rfl, rfl⟩))
            go_ret
            exact ⟨ret_bool (by rw [HD.out]; rfl), B1.out⟩
      | true =>
        cases b5 with
        | false =>
          cases b6 with
          | false =>
            go_wp2_with (first | (go_at_call 37; refine (within_impl _ _ _ _).mono ?_; rintro e w' ⟨rfl, rfl⟩) | (go_at_call 38; refine (router_impl _ _ _ HM0.out).mono ?_; rintro e w' ⟨rfl, rfl⟩) | (go_at_call 39; refine (port_impl _ _).mono ?_; rintro e w' ⟨rfl, rfl⟩))
            go_ret
            exact ⟨ret_bool (by rw [HD.out]; rfl), B1.out⟩
          | true =>
            cases b7 with
            | false =>
              go_wp2_with (first | (go_at_call 37; refine (within_impl _ _ _ _).mono ?_; rintro e w' ⟨rfl, rfl⟩) | (go_at_call 38; refine (router_impl _ _ _ HM0.out).mono ?_; rintro e w' ⟨rfl, rfl⟩) | (go_at_call 39; refine (port_impl _ _).mono ?_; rintro e w' ⟨rfl, rfl⟩))
              go_ret
              exact ⟨ret_bool (by rw [HD.out]; rfl), B1.out⟩
            | true =>
              go_wp2_with (first | (go_at_call 37; refine (within_impl _ _ _ _).mono ?_; rintro e w' ⟨rfl, rfl⟩) | (go_at_call 38; refine (router_impl _ _ _ HM0.out).mono ?_; rintro e w' ⟨rfl, rfl⟩) | (go_at_call 39; refine (port_impl _ _).mono ?_; rintro e w' ⟨rfl, rfl⟩))
              go_ret
              exact ⟨ret_bool (by rw [HD.out]; rfl), B1.out⟩
        | true =>
          go_wp2_with (first | (go_at_call 37; refine (within_impl _ _ _ _).mono ?_; rintro e w' ⟨rfl, rfl⟩) | (go_at_call 38; refine (router_impl _ _ _ HM0.out).mono ?_; rintro e w' ⟨rfl, rfl⟩) | (go_at_call 39; refine (port_impl _ _).mono ?_; rintro e w' ⟨rfl, rfl⟩))
          go_ret
          exact ⟨ret_bool (by rw [HD.out]; rfl), B1.out⟩
end Go.Proofs.Ytbfpbfifhcfehaa.propImpl
