/- For every list of routes BestRoute answers as its specification, and the list is as it was; conditions: none. -/
import Derived.Test.YtfkehmaomnnnnaaBestFace
import Derived.Test.YtfkehmaomnnnnaaRouteArgs
namespace Go.Proofs.Ytfkehmaomnnnnaa.fnExactBestRoute
open Go.ChangeShapes Go.WideShapes Go.ChangeAt Go.RowKit Go.Deep Go.Joins base routeRow bestRoute bestFace routeArgs args
set_option linter.unusedVariables false

set_option maxHeartbeats 3200000 in
set_option maxRecDepth 8000 in
theorem walk (a : Option Addr) (len cap : Nat) (g : Rs) (w : World) (h : RtRow w a len g) :
    Calls Try.prog 3 #[.slice a len cap] w fun e' w' => e' = .returned (.bool true) ∧ Below w.heap.size w w' := by
  have HR := hid h
  have hmost := h.most
  have HM := hid h.most
  unfold maxLen at hmost
  clear h
  go_enter Try.func3, Try.ntmps3
  go_wp2_with fail
  refine (szRouteS a len cap 1048576 _ HM.out (by omega) (by omega)).mono ?_
  rintro e w1 ⟨rfl, hw⟩
  have hw := hw.symm
  subst hw
  by_cases hneg : (1048576 : Int) < len
  · rw [if_pos hneg]
    go_wp2
    go_ret
    exact ⟨rfl, (by repeat (first | exact Below.refl _ _ | assumption | refine Below.drew ?_ | refine Below.alloc ?_ (by first | exact Nat.le_refl _ | omega | (simp; done) | (simp; omega)) _ | refine Below.setCell ?_ (by first | exact Nat.le_refl _ | omega | (simp; done) | (simp; omega)) _))⟩
  rw [if_neg hneg]
  have hl : len ≤ 1048576 := by omega
  go_wp2_with fail
  refine (toRouteS a len cap g _ HR.out hl).mono ?_
  rintro e w2 ⟨N2, rfl, hN2, hb2, hL2⟩
  have H2 := hid hb2
  have L2 := hid hL2
  clear hb2 hL2
  go_wp2_with fail
  refine (best_spec _ len len g _ (L2.out.is HM.out)).mono ?_
  rintro e w3 ⟨rfl, hb3⟩
  have H3 := hid (H2.out.trans (hb3.mono H2.out.size))
  clear hb3
  unfold rtV
  go_wp2_with fail
  have H3a := hid (H3.out.alloc H3.out.size (.cells #[.int .i64 (bestOf len g).via, .int .i64 (bestOf len g).pref, .int .i64 (bestOf len g).len, .bool (bestOf len g).mark] 25))
  have C3 : Hid (∀ w8 : World, Below (w3.heap.size + 1) (w3.alloc (.cells #[.int .i64 (bestOf len g).via, .int .i64 (bestOf len g).pref, .int .i64 (bestOf len g).len, .bool (bestOf len g).mark] 25)) w8 → w8.cell? ⟨w3.heap.size, 0, none⟩ = some (.int .i64 (bestOf len g).via) ∧ w8.cell? ⟨w3.heap.size, 1, none⟩ = some (.int .i64 (bestOf len g).pref) ∧ w8.cell? ⟨w3.heap.size, 2, none⟩ = some (.int .i64 (bestOf len g).len) ∧ w8.cell? ⟨w3.heap.size, 3, none⟩ = some (.bool (bestOf len g).mark)) := hid (fun w8 hb => by
    refine ⟨?_, ?_, ?_, ?_⟩ <;> (rw [hb.cell (by simp)]; simp [go_sem]))
  refine (toRouteS a len cap g _ (HR.out.below H3a.out) hl).mono ?_
  rintro e w4 ⟨N4, rfl, hN4, hb4, hL4⟩
  rw [World.size_alloc] at hb4
  have K4 := hid hb4
  have H4 := hid (H3a.out.trans (hb4.mono (by have := H3.out.size; omega)))
  have L4 := hid hL4
  clear hb4 hL4
  go_wp2_with fail
  refine (best_impl _ len len g _ (L4.out.is HM.out)).mono ?_
  rintro e w5 ⟨rfl, hb5⟩
  have hz4 := K4.out.size
  rw [World.size_alloc] at hz4
  have K5 := hid (K4.out.trans (hb5.mono hz4))
  have H5 := hid (H4.out.trans (hb5.mono H4.out.size))
  have L5 := hid (L4.out.below hb5)
  have hz5 := hb5.size
  obtain ⟨y0, y1, y2, y3⟩ := C3.out w5 K5.out
  clear hb5
  have H5a := hid (H5.out.alloc H5.out.size (.cells #[.int .i64 (bestOf len g).via, .int .i64 (bestOf len g).pref, .int .i64 (bestOf len g).len, .bool (bestOf len g).mark] 25))
  unfold rtV
  have hq : (bestCode len != bestCode len) = false := by simp
  have Hcc : Hid (bestCode len = bestCode len) := hid rfl
  generalize bestCode len = bc at *
  generalize (bestOf len g).via = x0 at *
  generalize (bestOf len g).pref = x1 at *
  generalize (bestOf len g).len = x2 at *
  generalize (bestOf len g).mark = x3 at *
  have hlt35 : w3.heap.size < w5.heap.size := by omega
  have L5a := hid (L5.out.below (show Below w5.heap.size w5 (w5.alloc (.cells #[.int .i64 x0, .int .i64 x1, .int .i64 x2, .bool x3] 25)) from (by repeat (first | exact Below.refl _ _ | assumption | refine Below.drew ?_ | refine Below.alloc ?_ (by first | exact Nat.le_refl _ | omega | (simp; done) | (simp; omega)) _ | refine Below.setCell ?_ (by first | exact Nat.le_refl _ | omega | (simp; done) | (simp; omega)) _))))
  go_wp2_with fail
  refine (eqRoute x0 x1 x2 x3 _).mono ?_
  rintro e w6 ⟨rfl, hb6⟩
  have hz6 := hb6.size
  rw [World.size_alloc] at hz6
  have H6 := hid (H5a.out.trans (hb6.mono (by have := H5.out.size; rw [World.size_alloc]; omega)))
  have L6 := hid (L5a.out.below hb6)
  clear hb6 y0 y1 y2 y3
  have R6 := hid (HR.out.below H6.out)
  go_wp2_with fail
  refine (toRouteS a len cap g _ R6.out hl).mono ?_
  rintro e w7 ⟨N7, rfl, hN7, hb7, hL7⟩
  have H7 := hid (H6.out.trans (hb7.mono H6.out.size))
  have L7 := hid (L6.out.below hb7)
  have L7' := hid hL7
  clear hb7 hL7
  go_wp2_with fail
  refine (eqRouteS (some ⟨N4, 0, none⟩) (some ⟨N7, 0, none⟩) len len len g _ (L7.out.is HM.out) (L7'.out.is HM.out)).mono ?_
  rintro e w8 ⟨rfl, hb8⟩
  have H8 := hid (H7.out.trans (hb8.mono H7.out.size))
  clear hb8
  go_wp2
  go_ret
  exact ⟨rfl, H8.out⟩

theorem own : ownKnob Try.prog.godebug = none := by kernel_rfl
theorem laidOut : laidOutB Try.prog = true := by kernel_rfl

set_option maxRecDepth 100000 in
theorem lifted (os : Os) (started : os.Started) (H : Type) (enc : TypeId × Value → H) :
    ReturnsInHanded {} Try.checked os 3 .any (Rows.fnExactBestRouteSpec.pre6 enc Try.prog Try.f3 Rows.fnExactBestRouteRow.domain false) (Rows.fnExactBestRouteSpec.post enc Try.prog Try.f3 false true false false) := by
  refine returnsInHanded_of_change (C := Try.checked) own started (by kernel_rfl) Try.func3
    (ChangeSpec.witness6 (enc := enc) (C := Try.checked) false ⟨#[], #[.slice none 0 0], []⟩ 8 (by kernel_rfl) (by kernel_rfl) (by kernel_rfl) (by kernel_rfl)) ?_
  intro W base args ds gs before hval0 hW hcnd _
  have hval : ∀ (j : Nat) t v, Try.f3.params[j]? = some t → args[j]? = some v → Value.okWide Try.prog W .any base t v := hval0
  have hW' := hW
  obtain ⟨p, q, hA0, hV, rfl, hfz, hnd⟩ := hW
  have hA : DataW.TrodAll enc Try.prog W 0 (fun _ => true) true Try.f3.params.toList args.toList ds p := hA0
  rw [Try.params3] at hA hval
  obtain ⟨v0, vs0, d0, ds0, p0, q0, hargs, rfl, rfl, h0, r0⟩ := trodAll_cons hA
  obtain ⟨rfl, rfl, rfl⟩ := trodAll_nil r0
  obtain rfl : args = #[v0] := by cases args; simp_all
  obtain ⟨rfl, rfl⟩ := trodVars_none hV
  have k0 := h0
  have lt0 : ∀ x ∈ p0, x.block < W.heap.size := by obtain ⟨m, hm⟩ := k0; exact DataW.trod_lt m _ _ _ hm
  obtain ⟨a, len, cap, rfl⟩ := okWide_slice Try.underlying22 (hval 0 22 v0 rfl rfl)
  obtain ⟨g, hrow⟩ : ∃ g, RtRow W a len g := by
    obtain ⟨fuel, hf⟩ := h0
    obtain ⟨a', l', c', g, e, hb⟩ := routes_of_trod (by simpa [Value.cells] using hf)
    cases e
    exact ⟨g, hb⟩
  clear hA0 hval0
  refine (walk a len cap g W hrow).mono fun e W' ⟨he, bel⟩ => ?_
  subst he
  exact ⟨_, rfl, _, _, _, [], _, [], hW', trodAll_mk1 (shut_bool Try.underlying4 _), (trodAll_cons_mk (Below.trod laidOut (by kernel_rfl) (of_decide_eq_true (by kernel_rfl)) k0 bel lt0) trodAll_mk0), rfl, bel.frame _, fun h => by cases h⟩

theorem over : Rows.fnExactBestRouteRow.holds Try.pinned (OpenSpec.ofChange Rows.fnExactBestRouteSpec) :=
  OpenClaim.holds_of_wide 3 Try.f3 rfl rfl rfl rfl rfl rfl rfl ⟨rfl, rfl, rfl, rfl, rfl⟩ rfl rfl rfl rfl rfl (by kernel_rfl) Try.func3 (by kernel_rfl)
    (of_decide_eq_true (by kernel_rfl)) (by unfold Func.isWrapper; first | (rw [if_pos (by decide +kernel)]; kernel_rfl) | (rw [if_neg (by decide +kernel)]; exact ⟨rfl, rfl⟩))
    (fun os started H enc _ => lifted os started H enc)
end Go.Proofs.Ytfkehmaomnnnnaa.fnExactBestRoute
namespace Go.Proofs.Ytfkehmaomnnnnaa
theorem fnExactBestRoute_holds : Rows.FnExactBestRouteSaid := fnExactBestRoute.over
end Go.Proofs.Ytfkehmaomnnnnaa
