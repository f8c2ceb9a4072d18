/- PropImpl; ForwardImpl: one text, so that the claim has fewer files. -/
import Derived.Test.YtjdeoiohbbnmeaaPart39
import Derived.Test.YtjdeoiohbbnmeaaPart23
import Derived.Test.YtjdeoiohbbnmeaaPart16
import Derived.Test.YtjdeoiohbbnmeaaPart31
/- Whether a property is one of a network, of the program; conditions: none. -/
namespace Go.Proofs.Ytjdeoiohbbnmeaa.propImpl
open Go.RowKit Go.Deep Go base names netSem propSem netImpl netParts netFace netOKImpl
set_option linter.unusedVariables false

theorem port_impl (n : Int) (w : World) :
    Calls Try.prog 22 #[.int .i64 n] w fun e w' => e = .returned (.bool (inB n 0 15)) ∧ w' = w := by
  go_enter Try.func22, Try.ntmps22
  go_wp2_with (go_at_call 31; refine (within_impl _ _ _ _).mono ?_; rintro e w' ⟨rfl, rfl⟩)
  go_ret
  exact ⟨rfl, rfl⟩

set_option maxHeartbeats 3200000 in
theorem prop_impl (p : Nat → Option Addr) (l c : Nat → Nat) (s : Ss) (g : R) (o e : List Int) (x f : R) (k fr po wy : Int) (w : World) (h : NetIs w p l s g o e x f) (hc0 : l 0 ≤ c 0) (hc1 : l 1 ≤ c 1) :
    Calls Try.prog 30 #[netV p l c, .agg #[.int .i64 k, .int .i64 fr, .int .i64 po, .int .i64 wy]] w fun e' w' => e' = .returned (.bool (propB (netB l s g o e x f) (l 0) k fr po wy)) ∧ Below w.heap.size w w' := by
  have HN := hid h
  have m0 := h.routers.most
  have HM0 := hid m0
  unfold maxLen at m0
  have HK0 := hid hc0
  have HK1 := hid hc1
  clear h hc0 hc1
  obtain ⟨D, hD⟩ : ∃ D, propB (netB l s g o e x f) (l 0) k fr po wy = D := ⟨_, rfl⟩
  rw [hD]
  have HP := hid hD
  clear hD
  have C1 : ∀ w8 : World, Below ((w.alloc (.cells #[.slice (p 0) (l 0) (c 0), .slice (p 1) (l 1) (c 1), .slice (p 2) (l 2) (c 2), .slice (p 3) (l 3) (c 3), .slice (p 4) (l 4) (c 4), .slice (p 5) (l 5) (c 5)] 29)).alloc (.cells #[.int .i64 k, .int .i64 fr, .int .i64 po, .int .i64 wy] 49)).heap.size ((w.alloc (.cells #[.slice (p 0) (l 0) (c 0), .slice (p 1) (l 1) (c 1), .slice (p 2) (l 2) (c 2), .slice (p 3) (l 3) (c 3), .slice (p 4) (l 4) (c 4), .slice (p 5) (l 5) (c 5)] 29)).alloc (.cells #[.int .i64 k, .int .i64 fr, .int .i64 po, .int .i64 wy] 49)) w8 →
      w8.cell? ⟨w.heap.size, 0, none⟩ = some (.slice (p 0) (l 0) (c 0)) ∧ w8.cell? ⟨w.heap.size + 1, 0, none⟩ = some (.int .i64 k) ∧ w8.cell? ⟨w.heap.size + 1, 1, none⟩ = some (.int .i64 fr) ∧ w8.cell? ⟨w.heap.size + 1, 2, none⟩ = some (.int .i64 po) ∧ w8.cell? ⟨w.heap.size + 1, 3, none⟩ = some (.int .i64 wy) ∧ Below w.heap.size w w8 :=
    fun w8 hb => ⟨keep hb (by simp [go_sem]), keep hb (by simp [go_sem]), keep hb (by simp [go_sem]), keep hb (by simp [go_sem]), keep hb (by simp [go_sem]), (show Below w.heap.size w _ from (by repeat (first | exact Below.refl _ _ | assumption | refine Below.drew ?_ | refine Below.alloc ?_ (by first | exact Nat.le_refl _ | omega | (simp; done) | (simp; omega)) _ | refine Below.setCell ?_ (by first | exact Nat.le_refl _ | omega | (simp; done) | (simp; omega)) _))).trans (hb.mono (by simp; omega))⟩
  have HC1 := hid C1
  clear C1
  unfold netV
  go_enter Try.func30, Try.ntmps30
  go_wp2_with fail
  refine (netOK_impl p l c s g o e x f _ (HN.out.below (by repeat (first | exact Below.refl _ _ | assumption | refine Below.drew ?_ | refine Below.alloc ?_ (by first | exact Nat.le_refl _ | omega | (simp; done) | (simp; omega)) _ | refine Below.setCell ?_ (by first | exact Nat.le_refl _ | omega | (simp; done) | (simp; omega)) _))) HK0.out HK1.out).mono ?_
  rintro e' w1 ⟨rfl, hb1⟩
  obtain ⟨q0, x0, x1, x2, x3, hB⟩ := HC1.out w1 hb1
  have B1 := hid hB
  clear hb1 hB HC1
  obtain ⟨b, eb⟩ : ∃ b, netB l s g o e x f = b := ⟨_, rfl⟩
  rw [eb]
  cases b with
  | false =>
    go_wp2
    go_ret
    exact ⟨ret_bool (by rw [← HP.out, eb]; simp [propB]), B1.out⟩
  | true =>
  have h0 := netB_in eb
  obtain ⟨b1, e1⟩ : ∃ b, inB k 1 4 = b := ⟨_, rfl⟩
  obtain ⟨b2, e2⟩ : ∃ b, inB fr 0 (l 0 - 1) = b := ⟨_, rfl⟩
  obtain ⟨b3, e3⟩ : ∃ b, (po == -1) = b := ⟨_, rfl⟩
  obtain ⟨b4, e4⟩ : ∃ b, inB po 0 15 = b := ⟨_, rfl⟩
  obtain ⟨b5, e5⟩ : ∃ b, (wy == 0) = b := ⟨_, rfl⟩
  obtain ⟨b6, e6⟩ : ∃ b, (k == 3) = b := ⟨_, rfl⟩
  obtain ⟨b7, e7⟩ : ∃ b, inB wy 0 (l 0 - 1) = b := ⟨_, rfl⟩
  have HD : Hid (D = (b1 && b2 && (b3 || b4) && (b5 || b6 && b7))) := by
    show _ = _
    rw [← HP.out, eb]; exact (prop_eq h0.1 e1 e2 e3 e4 e5 e6 e7)
  clear HP eb
  cases b1 with
  | false =>
    go_wp2_with (first | (go_at_call 31; refine (within_impl _ _ _ _).mono ?_; rintro e w' ⟨rfl, rfl⟩) | (go_at_call 21; refine (router_impl _ _ _ HM0.out).mono ?_; rintro e w' ⟨rfl, rfl⟩) | (go_at_call 22; refine (port_impl _ _).mono ?_; rintro e w' ⟨rfl, rfl⟩))
    go_ret
    exact ⟨ret_bool (by rw [HD.out]; rfl), B1.out⟩
  | true =>
    cases b2 with
    | false =>
      go_wp2_with (first | (go_at_call 31; refine (within_impl _ _ _ _).mono ?_; rintro e w' ⟨rfl, rfl⟩) | (go_at_call 21; refine (router_impl _ _ _ HM0.out).mono ?_; rintro e w' ⟨rfl, rfl⟩) | (go_at_call 22; refine (port_impl _ _).mono ?_; rintro e w' ⟨rfl, rfl⟩))
      go_ret
      exact ⟨ret_bool (by rw [HD.out]; rfl), B1.out⟩
    | true =>
      cases b3 with
      | false =>
        cases b4 with
        | false =>
          go_wp2_with (first | (go_at_call 31; refine (within_impl _ _ _ _).mono ?_; rintro e w' ⟨rfl, rfl⟩) | (go_at_call 21; refine (router_impl _ _ _ HM0.out).mono ?_; rintro e w' ⟨rfl, rfl⟩) | (go_at_call 22; refine (port_impl _ _).mono ?_; rintro e w' ⟨rfl, rfl⟩))
          go_ret
          exact ⟨ret_bool (by rw [HD.out]; rfl), B1.out⟩
        | true =>
          cases b5 with
          | false =>
            cases b6 with
            | false =>
              go_wp2_with (first | (go_at_call 31; refine (within_impl _ _ _ _).mono ?_; rintro e w' ⟨rfl, rfl⟩) | (go_at_call 21; refine (router_impl _ _ _ HM0.out).mono ?_; rintro e w' ⟨rfl, rfl⟩) | (go_at_call 22; refine (port_impl _ _).mono ?_; rintro e w' ⟨rfl, rfl⟩))
              go_ret
              exact ⟨ret_bool (by rw [HD.out]; rfl), B1.out⟩
            | true =>
              cases b7 with
              | false =>
                go_wp2_with (first | (go_at_call 31; refine (within_impl _ _ _ _).mono ?_; rintro e w' ⟨rfl, rfl⟩) | (go_at_call 21; refine (router_impl _ _ _ HM0.out).mono ?_; rintro e w' ⟨rfl, rfl⟩) | (go_at_call 22; refine (port_impl _ _).mono ?_; rintro e w' ⟨rfl, rfl⟩))
                go_ret
                exact ⟨ret_bool (by rw [HD.out]; rfl), B1.out⟩
              | true =>
                go_wp2_with (first | (go_at_call 31; refine (within_impl _ _ _ _).mono ?_; rintro e w' ⟨rfl, rfl⟩) | (go_at_call 21; refine (router_impl _ _ _ HM0.out).mono ?_; rintro e w' ⟨rfl, rfl⟩) | (go_at_call 22; refine (port_impl _ _).mono ?_; rintro e w' ⟨rfl, rfl⟩))
                go_ret
                exact ⟨ret_bool (by rw [HD.out]; rfl), B1.out⟩
          | true =>
            go_wp2_with (first | (go_at_call 31; refine (within_impl _ _ _ _).mono ?_; rintro e w' ⟨rfl, rfl⟩) | (go_at_call 21; refine (router_impl _ _ _ HM0.out).mono ?_; rintro e w' ⟨rfl, rfl⟩) | (go_at_call 22; refine (port_impl _ _).mono ?_; rintro e w' ⟨rfl, rfl⟩))
            go_ret
            exact ⟨ret_bool (by rw [HD.out]; rfl), B1.out⟩
      | true =>
        cases b5 with
        | false =>
          cases b6 with
          | false =>
            go_wp2_with (first | (go_at_call 31; refine (within_impl _ _ _ _).mono ?_; rintro e w' ⟨rfl, rfl⟩) | (go_at_call 21; refine (router_impl _ _ _ HM0.out).mono ?_; rintro e w' ⟨rfl, rfl⟩) | (go_at_call 22; refine (port_impl _ _).mono ?_; rintro e w' ⟨rfl, rfl⟩))
            go_ret
            exact ⟨ret_bool (by rw [HD.out]; rfl), B1.out⟩
          | true =>
            cases b7 with
            | false =>
              go_wp2_with (first | (go_at_call 31; refine (within_impl _ _ _ _).mono ?_; rintro e w' ⟨rfl, rfl⟩) | (go_at_call 21; refine (router_impl _ _ _ HM0.out).mono ?_; rintro e w' ⟨rfl, rfl⟩) | (go_at_call 22; refine (port_impl _ _).mono ?_; rintro e w' ⟨rfl, rfl⟩))
              go_ret
              exact ⟨ret_bool (by rw [HD.out]; rfl), B1.out⟩
            | true =>
              go_wp2_with (first | (go_at_call 31; refine (within_impl _ _ _ _).mono ?_; rintro e w' ⟨rfl, rfl⟩) | (go_at_call 21; refine (router_impl _ _ _ HM0.out).mono ?_; rintro e w' ⟨rfl, rfl⟩) | (go_at_call 22; refine (port_impl _ _).mono ?_; rintro e w' ⟨rfl, rfl⟩))
              go_ret
              exact ⟨ret_bool (by rw [HD.out]; rfl), B1.out⟩
        | true =>
          go_wp2_with (first | (go_at_call 31; refine (within_impl _ _ _ _).mono ?_; rintro e w' ⟨rfl, rfl⟩) | (go_at_call 21; refine (router_impl _ _ _ HM0.out).mono ?_; rintro e w' ⟨rfl, rfl⟩) | (go_at_call 22; refine (port_impl _ _).mono ?_; rintro e w' ⟨rfl, rfl⟩))
          go_ret
          exact ⟨ret_bool (by rw [HD.out]; rfl), B1.out⟩
end Go.Proofs.Ytjdeoiohbbnmeaa.propImpl

/- Of the program: Forward; conditions: none. -/
namespace Go.Proofs.Ytjdeoiohbbnmeaa.forwardImpl
open Go.RowKit Go.Deep Go base names netSem netImpl netParts netFace netOKImpl routeRow walkSem routesB intsOwn nbSem fwSem walkImpl routesImpl propImpl
set_option linter.unusedVariables false

set_option maxHeartbeats 6400000 in
set_option maxRecDepth 8000 in
theorem forward_impl (p : Nat → Option Addr) (l c : Nat → Nat) (s : Ss) (g : R) (o e : List Int) (x f : R) (da ra : Option Addr) (dl dc rl rc : Nat) (ds : List Bool) (rs : Rs) (fr port : Int) (w : World) (h : NetIs w p l s g o e x f) (hc0 : l 0 ≤ c 0) (hc1 : l 1 ≤ c 1) (hd : BoolRow w da dl ds) (hr : RtRow w ra rl rs) :
    Calls Try.prog 9 #[netV p l c, .slice da dl dc, .slice ra rl rc, .int .i64 fr, .int .i64 port] w fun e' w' => ∃ v, e' = .returned (.tuple #[.agg #[.int .i64 (fwO (fC l s g o e x f dl rl ds rs fr port) rs f (l 5) port rl fr), v], .int .i64 (fC l s g o e x f dl rl ds rs fr port)]) ∧ OwnInts w.heap.size w' v (fwP (fC l s g o e x f dl rl ds rs fr port) rs f (l 5) port rl fr) ∧ Below w.heap.size w w' := by
  have HN := hid h
  have HD := hid hd
  have HT := hid hr
  have m0 := h.routers.most
  have M0 := hid m0
  have m1 := h.links.most
  have md := hd.most
  have mr := hr.most
  have HK0 := hid hc0
  have HK1 := hid hc1
  unfold maxLen at m0 m1 md mr
  clear h hd hr hc0 hc1
  obtain ⟨C, hC⟩ : ∃ C, fC l s g o e x f dl rl ds rs fr port = C := ⟨_, rfl⟩
  rw [hC]
  have HC := hid hC
  clear hC
  unfold fC fwC at HC
  obtain ⟨ok, hok⟩ : ∃ b, netB l s g o e x f = b := ⟨_, rfl⟩
  have HOK := hid hok
  rw [hok] at HC
  clear hok
  have C1 : Hid (∀ w8 : World, Below ((w.alloc (.cells #[.slice (p 0) (l 0) (c 0), .slice (p 1) (l 1) (c 1), .slice (p 2) (l 2) (c 2), .slice (p 3) (l 3) (c 3), .slice (p 4) (l 4) (c 4), .slice (p 5) (l 5) (c 5)] 29)).alloc (.cells #[.int .i64 0, .slice none 0 0] 39)).heap.size ((w.alloc (.cells #[.slice (p 0) (l 0) (c 0), .slice (p 1) (l 1) (c 1), .slice (p 2) (l 2) (c 2), .slice (p 3) (l 3) (c 3), .slice (p 4) (l 4) (c 4), .slice (p 5) (l 5) (c 5)] 29)).alloc (.cells #[.int .i64 0, .slice none 0 0] 39)) w8 → (w8.cell? ⟨w.heap.size, 0, none⟩ = some (.slice (p 0) (l 0) (c 0)) ∧ w8.cell? ⟨w.heap.size, 1, none⟩ = some (.slice (p 1) (l 1) (c 1)) ∧ w8.cell? ⟨w.heap.size, 2, none⟩ = some (.slice (p 2) (l 2) (c 2)) ∧ w8.cell? ⟨w.heap.size, 3, none⟩ = some (.slice (p 3) (l 3) (c 3)) ∧ w8.cell? ⟨w.heap.size, 4, none⟩ = some (.slice (p 4) (l 4) (c 4)) ∧ w8.cell? ⟨w.heap.size, 5, none⟩ = some (.slice (p 5) (l 5) (c 5))) ∧ (w8.cell? ⟨w.heap.size + 1, 0, none⟩ = some (.int .i64 0) ∧ w8.cell? ⟨w.heap.size + 1, 1, none⟩ = some (.slice none 0 0) ∧ w8.frozen? ⟨w.heap.size + 1, 0, none⟩ = false ∧ w8.frozen? ⟨w.heap.size + 1, 1, none⟩ = false) ∧ NetIs w8 p l s g o e x f ∧ BoolRow w8 da dl ds ∧ RtRow w8 ra rl rs ∧ Below w.heap.size w w8 ∧ w.heap.size + 2 ≤ w8.heap.size) := fun w8 hb => by
    have hb0 := (show Below w.heap.size w ((w.alloc (.cells #[.slice (p 0) (l 0) (c 0), .slice (p 1) (l 1) (c 1), .slice (p 2) (l 2) (c 2), .slice (p 3) (l 3) (c 3), .slice (p 4) (l 4) (c 4), .slice (p 5) (l 5) (c 5)] 29)).alloc (.cells #[.int .i64 0, .slice none 0 0] 39)) from (by repeat (first | exact Below.refl _ _ | assumption | refine Below.drew ?_ | refine Below.alloc ?_ (by first | exact Nat.le_refl _ | omega | (simp; done) | (simp; omega)) _ | refine Below.setCell ?_ (by first | exact Nat.le_refl _ | omega | (simp; done) | (simp; omega)) _)))
    have hz := hb.size
    refine ⟨⟨keep hb (by simp [go_sem]), keep hb (by simp [go_sem]), keep hb (by simp [go_sem]), keep hb (by simp [go_sem]), keep hb (by simp [go_sem]), keep hb (by simp [go_sem])⟩, ⟨keep hb (by simp [go_sem]), keep hb (by simp [go_sem]), ?_, ?_⟩, (HN.out.below hb0).below hb, (HD.out.below hb0).below hb, (HT.out.below hb0).below hb, hb0.trans (hb.mono (by simp; omega)), by simpa using hz⟩
    · rw [(bcell hb).2 _ _ (by simp)]; simp [go_sem]
    · rw [(bcell hb).2 _ _ (by simp)]; simp [go_sem]
  unfold netV
  have HERR : Hid (∀ (k : Int) (w' : World), k ≠ 0 → C = k → Below w.heap.size w w' → ∃ v, Ending.returned (.tuple #[.agg #[.int .i64 0, .slice none 0 0], .int .i64 k]) = .returned (.tuple #[.agg #[.int .i64 (fwO C rs f (l 5) port rl fr), v], .int .i64 C]) ∧ OwnInts w.heap.size w' v (fwP C rs f (l 5) port rl fr) ∧ Below w.heap.size w w') := fun k w' hk hCk hb => by
    subst hCk
    rw [(no_out hk).1, (no_out hk).2]
    exact ⟨_, rfl, OwnInts.nil _ _, hb⟩
  by_cases h1 : 4096 < dl ∨ 4096 < rl
  · have e2 : C = 2 := by rw [← HC.out, if_pos h1]
    have E2 := hid e2
    clear e2 HC
    go_enter Try.func9, Try.ntmps9
    go_wp2
    all_goals
      refine bodyPost_ret (v := .tuple #[.agg #[.int .i64 0, .slice none 0 0], .int .i64 2]) (by simp [results, Try.results9, go_sem]) rfl (HERR.out 2 _ (by decide) E2.out (by repeat (first | exact Below.refl _ _ | assumption | refine Below.drew ?_ | refine Below.alloc ?_ (by first | exact Nat.le_refl _ | omega | (simp; done) | (simp; omega)) _ | refine Below.setCell ?_ (by first | exact Nat.le_refl _ | omega | (simp; done) | (simp; omega)) _)))
  rw [if_neg h1] at HC
  have d1 : (dl : Int) ≤ 4096 := by omega
  have d2 : (rl : Int) ≤ 4096 := by omega
  clear h1
  go_enter Try.func9, Try.ntmps9
  go_wp2_with fail
  all_goals (try (exfalso; omega))
  all_goals
    refine (netOK_impl p l c s g o e x f _ (HN.out.below (by repeat (first | exact Below.refl _ _ | assumption | refine Below.drew ?_ | refine Below.alloc ?_ (by first | exact Nat.le_refl _ | omega | (simp; done) | (simp; omega)) _ | refine Below.setCell ?_ (by first | exact Nat.le_refl _ | omega | (simp; done) | (simp; omega)) _))) HK0.out HK1.out).mono ?_
    rintro e' w1 ⟨rfl, hb1⟩
    rw [HOK.out]
    have H1 := hid hb1
    obtain ⟨⟨q0, q1, q2, q3, q4, q5⟩, ⟨y0, y1, y2, y3⟩, hn, hd, hr, hB, hz⟩ := C1.out w1 hb1
    have N1 := hid hn
    have R1 := hid hr
    have B1 := hid hB
    clear hb1 hn hd hr hB
    cases ok with
    | false =>
      have E2 := hid (show C = 1 by rw [← HC.out, if_pos (.inl rfl)])
      clear HC
      go_wp2
      refine bodyPost_ret (v := .tuple #[.agg #[.int .i64 0, .slice none 0 0], .int .i64 1]) (by simp [results, Try.results9, go_sem, y0, y1]) rfl (HERR.out 1 _ (by decide) E2.out ((B1.out.setCell (by simp) _).setCell (by simp) _))
    | true =>
    have LI := hid (links_in HOK.out)
    go_wp2_with fail
    refine (routes_impl p l c g ra rl rc rs _ M0.out N1.out.links R1.out LI.out).mono ?_
    rintro e' w2 ⟨rfl, hb2⟩
    have H2 := hid (H1.out.trans (hb2.mono H1.out.size))
    clear hb2 q0 q1 q2 q3 q4 q5 y0 y1 y2 y3 hz N1 R1 B1
    obtain ⟨⟨q0, q1, q2, q3, q4, q5⟩, ⟨y0, y1, y2, y3⟩, hn, hd, hr, hB, hz⟩ := C1.out w2 H2.out
    have N1 := hid hn
    have D1 := hid hd
    have R1 := hid hr
    have B1 := hid hB
    clear hn hd hr hB
    obtain ⟨rB, hrB⟩ : ∃ b, routesB g (l 1) (l 0) rl rs = b := ⟨_, rfl⟩
    have HRB := hid hrB
    rw [hrB] at HC ⊢
    clear hrB
    cases rB with
    | false =>
      have E2 := hid (show C = 1 by rw [← HC.out, if_pos (.inr rfl)])
      clear HC
      go_wp2
      refine bodyPost_ret (v := .tuple #[.agg #[.int .i64 0, .slice none 0 0], .int .i64 1]) (by simp [results, Try.results9, go_sem, y0, y1]) rfl (HERR.out 1 _ (by decide) E2.out ((B1.out.setCell (by simp) _).setCell (by simp) _))
    | true =>
    rw [if_neg (by simp)] at HC
    by_cases h3 : dl = l 1
    case neg =>
      have d3 : ((dl : Int) != (l 1 : Int)) = true := by simp; omega
      have E2 := hid (show C = 5 by rw [← HC.out, if_pos (.inl h3)])
      clear HC h3
      go_wp2
      refine bodyPost_ret (v := .tuple #[.agg #[.int .i64 0, .slice none 0 0], .int .i64 5]) (by simp [results, Try.results9, go_sem, y0, y1]) rfl (HERR.out 5 _ (by decide) E2.out ((B1.out.setCell (by simp) _).setCell (by simp) _))
    have d3 : ((dl : Int) != (l 1 : Int)) = false := by simp [h3]
    obtain ⟨b4, e4⟩ : ∃ b, inB fr 0 ((l 0 : Int) - 1) = b := ⟨_, rfl⟩
    obtain ⟨b5, e5⟩ : ∃ b, inB port 0 15 = b := ⟨_, rfl⟩
    have HC4 := hid e4
    rw [e4, e5] at HC
    have H3 := hid h3
    clear h3
    cases b4 with
    | false =>
      have E2 := hid (show C = 5 by rw [← HC.out, if_pos (.inr (.inl rfl))])
      clear HC
      go_wp2_with (go_at_call 21; refine (router_impl _ _ _ M0.out).mono ?_; rintro e' w' ⟨rfl, hw'⟩; have hw' := hw'.symm; subst hw')
      refine bodyPost_ret (v := .tuple #[.agg #[.int .i64 0, .slice none 0 0], .int .i64 5]) (by simp [results, Try.results9, go_sem, y0, y1]) rfl (HERR.out 5 _ (by decide) E2.out ((B1.out.setCell (by simp) _).setCell (by simp) _))
    | true =>
    cases b5 with
    | false =>
      have E2 := hid (show C = 5 by rw [← HC.out, if_pos (.inr (.inr rfl))])
      clear HC
      go_wp2_with (first | (go_at_call 21; refine (router_impl _ _ _ M0.out).mono ?_; rintro e' w' ⟨rfl, hw'⟩; have hw' := hw'.symm; subst hw') | (go_at_call 22; refine (port_impl _ _).mono ?_; rintro e' w' ⟨rfl, hw'⟩; have hw' := hw'.symm; subst hw'))
      refine bodyPost_ret (v := .tuple #[.agg #[.int .i64 0, .slice none 0 0], .int .i64 5]) (by simp [results, Try.results9, go_sem, y0, y1]) rfl (HERR.out 5 _ (by decide) E2.out ((B1.out.setCell (by simp) _).setCell (by simp) _))
    | true =>
    rw [if_neg (by have := H3.out; simp [this])] at HC
    go_wp2_with (first | (go_at_call 21; refine (router_impl _ _ _ M0.out).mono ?_; rintro e' w' ⟨rfl, hw'⟩; have hw' := hw'.symm; subst hw') | (go_at_call 22; refine (port_impl _ _).mono ?_; rintro e' w' ⟨rfl, hw'⟩; have hw' := hw'.symm; subst hw'))
    refine (down_impl p l c g da ra dl dc rl rc ds rs _ N1.out.links D1.out R1.out H3.out).mono ?_
    rintro e' w3 ⟨rfl, hb3⟩
    have H3w := hid (H2.out.trans (hb3.mono H2.out.size))
    clear hb3 q0 q1 q2 q3 q4 q5 y0 y1 y2 y3 hz N1 R1 B1 D1
    obtain ⟨⟨q0, q1, q2, q3, q4, q5⟩, ⟨y0, y1, y2, y3⟩, hn, hd, hr, hB, hz⟩ := C1.out w3 H3w.out
    have N1 := hid hn
    have R1 := hid hr
    have B1 := hid hB
    clear hn hd hr hB
    obtain ⟨dn, hdn⟩ : ∃ b, anyDown g (l 1) rl ds rs = b := ⟨_, rfl⟩
    rw [hdn] at HC ⊢
    clear hdn
    cases dn with
    | true =>
      have E2 := hid (show C = 8 by rw [← HC.out, if_pos rfl])
      clear HC
      go_wp2
      refine bodyPost_ret (v := .tuple #[.agg #[.int .i64 0, .slice none 0 0], .int .i64 8]) (by simp [results, Try.results9, go_sem, y0, y1]) rfl (HERR.out 8 _ (by decide) E2.out ((B1.out.setCell (by simp) _).setCell (by simp) _))
    | false =>
    have E2 : C = 0 := by rw [← HC.out, if_neg (by simp)]
    subst E2
    obtain ⟨hrl, hvi⟩ := routes_viable HRB.out
    have h4 := (propSem.netB_in HOK.out).2
    obtain ⟨fn, rfl⟩ : ∃ n : Nat, fr = (n : Int) := ⟨fr.toNat, by have := HC4.out; unfold inB at this; rw [decide_eq_true_eq] at this; omega⟩
    have hfn : fn < rl := by have := HC4.out; unfold inB at this; rw [decide_eq_true_eq] at this; omega
    have HV := hid (show Viable rs rl by rw [hrl]; exact hvi)
    have HF := hid hfn
    have H4 := hid (show rl ≤ 4 by omega)
    clear hrl hvi h4 hfn HC e4
    go_wp2_with fail
    refine (walk_impl p l c f ra rl rc rs fn port _ N1.out.filters R1.out HV.out HF.out H4.out).mono ?_
    rintro e' w4 ⟨v, rfl, ho, hb4⟩
    have H4w := hid (H3w.out.trans (hb4.mono H3w.out.size))
    have HB4 := hid hb4.size
    have O4 := hid (ho.mono (show w.heap.size + 2 ≤ w3.heap.size from hz))
    obtain ⟨av, cv, rfl, -⟩ := ho.form
    clear ho hb4 q0 q1 q2 q3 q4 q5 y0 y1 y2 y3 hz N1 R1 B1
    obtain ⟨-, ⟨y0, y1, y2, y3⟩, -, -, -, hB, hz⟩ := C1.out w4 H4w.out
    have B1 := hid hB
    clear hB
    have HY := hid (yes_out rs f (l 5) port rl (fn : Int))
    go_wp2
    refine bodyPost_ret (v := .tuple #[.agg #[.int .i64 (wayO rs f (l 5) port rl fn), .slice av ((fn : Int) :: wayR rs f (l 5) port rl fn).length cv], .int .i64 0]) (by simp [results, Try.results9, go_sem, y0, y1]) rfl ⟨_, by rw [HY.out.1], ?_, ?_⟩
    · rw [HY.out.2]
      exact (own_off (own_off O4.out (fun j hj => by have := (own_lt O4.out hj).1; omega)) (fun j hj => by have := (own_lt O4.out hj).1; omega)).mono (by omega)
    · exact (B1.out.setCell (by simp) _).setCell (by simp) _
end Go.Proofs.Ytjdeoiohbbnmeaa.forwardImpl
