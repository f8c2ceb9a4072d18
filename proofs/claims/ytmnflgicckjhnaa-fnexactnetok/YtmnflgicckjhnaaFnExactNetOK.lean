/- For every network NetOK answers as its specification, and the network is as it was; conditions: none. -/
import Derived.Test.YtmnflgicckjhnaaNetOKImpl
import Derived.Test.YtmnflgicckjhnaaNetOKSpec
import Derived.Test.YtmnflgicckjhnaaNetWhole
import Derived.Test.YtmnflgicckjhnaaNetArgs
namespace Go.Proofs.Ytmnflgicckjhnaa.fnExactNetOK
open Go.ChangeShapes Go.WideShapes Go.ChangeAt Go.RowKit Go.Deep Go.Joins base copy names netSem netCopy netWhole netOKImpl netOKSpec netArgs args
set_option linter.unusedVariables false

set_option maxHeartbeats 3200000 in
theorem walk (p : Nat → Option Addr) (l c : Nat → Nat) (s : Ss) (g : R) (o e : List Int) (x f : R) (w : World) (h : NetIs w p l s g o e x f) :
    Calls Try.prog 3 #[netV p l c] w fun e' w' => e' = .returned (.bool true) ∧ Below w.heap.size w w' := by
  have HN := hid h
  have HM : Hid (∀ i, i < 6 → l i ≤ maxLen) := fun i hi => by
    match i, hi with
    | 0, _ => exact h.routers.most
    | 1, _ => exact h.links.most
    | 2, _ => exact h.origins.most
    | 3, _ => exact h.externals.most
    | 4, _ => exact h.imports.most
    | 5, _ => exact h.filters.most
    | i + 6, hi => exact absurd hi (by omega)
  have HS := hid h.routers.size
  have HO := hid h.origins.length
  have HE := hid h.externals.length
  clear h
  have C1 : ∀ w8 : World, Below ((w.alloc (.cells #[.slice (p 0) (l 0) (c 0), .slice (p 1) (l 1) (c 1), .slice (p 2) (l 2) (c 2), .slice (p 3) (l 3) (c 3), .slice (p 4) (l 4) (c 4), .slice (p 5) (l 5) (c 5)] 28))).heap.size (w.alloc (.cells #[.slice (p 0) (l 0) (c 0), .slice (p 1) (l 1) (c 1), .slice (p 2) (l 2) (c 2), .slice (p 3) (l 3) (c 3), .slice (p 4) (l 4) (c 4), .slice (p 5) (l 5) (c 5)] 28)) w8 → (w8.cell? ⟨w.heap.size, 0, none⟩ = some (.slice (p 0) (l 0) (c 0)) ∧ w8.cell? ⟨w.heap.size, 1, none⟩ = some (.slice (p 1) (l 1) (c 1)) ∧ w8.cell? ⟨w.heap.size, 2, none⟩ = some (.slice (p 2) (l 2) (c 2)) ∧ w8.cell? ⟨w.heap.size, 3, none⟩ = some (.slice (p 3) (l 3) (c 3)) ∧ w8.cell? ⟨w.heap.size, 4, none⟩ = some (.slice (p 4) (l 4) (c 4)) ∧ w8.cell? ⟨w.heap.size, 5, none⟩ = some (.slice (p 5) (l 5) (c 5))) ∧ NetIs w8 p l s g o e x f ∧ Below w.heap.size w w8 ∧ w.heap.size < w8.heap.size :=
    fun w8 hb => ⟨⟨keep hb (by simp [go_sem]), keep hb (by simp [go_sem]), keep hb (by simp [go_sem]), keep hb (by simp [go_sem]), keep hb (by simp [go_sem]), keep hb (by simp [go_sem])⟩, (HN.out.below (by repeat (first | exact Below.refl _ _ | assumption | refine Below.drew ?_ | refine Below.alloc ?_ (by first | exact Nat.le_refl _ | omega | (simp; done) | (simp; omega)) _ | refine Below.setCell ?_ (by first | exact Nat.le_refl _ | omega | (simp; done) | (simp; omega)) _))).below hb, (show Below w.heap.size w _ from (by repeat (first | exact Below.refl _ _ | assumption | refine Below.drew ?_ | refine Below.alloc ?_ (by first | exact Nat.le_refl _ | omega | (simp; done) | (simp; omega)) _ | refine Below.setCell ?_ (by first | exact Nat.le_refl _ | omega | (simp; done) | (simp; omega)) _))).trans (hb.mono (by simp)), Nat.lt_of_lt_of_le (by simp) hb.size⟩
  have HC1 := hid C1
  clear C1
  unfold netV
  go_enter Try.func3, Try.ntmps3
  go_wp2_with fail
  refine (szNet p l c s g o e x f 1048576 _ (HN.out.below (by repeat (first | exact Below.refl _ _ | assumption | refine Below.drew ?_ | refine Below.alloc ?_ (by first | exact Nat.le_refl _ | omega | (simp; done) | (simp; omega)) _ | refine Below.setCell ?_ (by first | exact Nat.le_refl _ | omega | (simp; done) | (simp; omega)) _))) (by omega) (by omega)).mono ?_
  rintro e' w1 ⟨r, rfl, hb1, hr1, hr2, hr3⟩
  have H3 := hid hr3
  have H1 := hid hb1
  obtain ⟨⟨q0, q1, q2, q3, q4, q5⟩, hn, hB, hz⟩ := HC1.out w1 hb1
  have N1 := hid hn
  have B1 := hid hB
  clear hb1 hr3 hn hB
  by_cases hneg : r < 0
  · go_wp2
    go_ret
    exact ⟨rfl, B1.out⟩
  have HL := hid (H3.out (by omega))
  go_wp2_with fail
  refine (toNet p l c s g o e x f _ N1.out HL.out).mono ?_
  rintro e' w2 ⟨N2, rfl, hb2, hc2⟩
  have H2 := hid (H1.out.trans (hb2.mono H1.out.size))
  have C2 := hid (hc2.net HM.out HS.out HO.out HE.out)
  obtain ⟨⟨q0, q1, q2, q3, q4, q5⟩, hn, hB, hz⟩ := HC1.out w2 H2.out
  have N2' := hid hn
  clear hb2 hc2 hn hB
  unfold netV
  go_wp2_with fail
  refine (netOK_spec (fun i => some ⟨N2 i, 0, none⟩) l l s g o e x f _ C2.out (Nat.le_refl _) (Nat.le_refl _)).mono ?_
  rintro e' w3 ⟨rfl, hb3⟩
  have H3' := hid (H2.out.trans (hb3.mono H2.out.size))
  obtain ⟨⟨q0, q1, q2, q3, q4, q5⟩, hn, hB, hz⟩ := HC1.out w3 H3'.out
  have N3 := hid hn
  clear hb3 hn hB
  go_wp2_with fail
  refine (toNet p l c s g o e x f _ N3.out HL.out).mono ?_
  rintro e' w4 ⟨N4, rfl, hb4, hc4⟩
  have H4 := hid (H3'.out.trans (hb4.mono H3'.out.size))
  have C4 := hid (hc4.net HM.out HS.out HO.out HE.out)
  obtain ⟨⟨q0, q1, q2, q3, q4, q5⟩, hn, hB, hz⟩ := HC1.out w4 H4.out
  have N4' := hid hn
  clear hb4 hc4 hn hB
  unfold netV
  go_wp2_with fail
  refine (netOK_impl (fun i => some ⟨N4 i, 0, none⟩) l l s g o e x f _ (C4.out.below (by repeat (first | exact Below.refl _ _ | assumption | refine Below.drew ?_ | refine Below.alloc ?_ (by first | exact Nat.le_refl _ | omega | (simp; done) | (simp; omega)) _ | refine Below.setCell ?_ (by first | exact Nat.le_refl _ | omega | (simp; done) | (simp; omega)) _))) (Nat.le_refl _) (Nat.le_refl _)).mono ?_
  rintro e' w5 ⟨rfl, hb5⟩
  have hb45 : Below w4.heap.size w4 w5 := (show Below w4.heap.size w4 _ from (by repeat (first | exact Below.refl _ _ | assumption | refine Below.drew ?_ | refine Below.alloc ?_ (by first | exact Nat.le_refl _ | omega | (simp; done) | (simp; omega)) _ | refine Below.setCell ?_ (by first | exact Nat.le_refl _ | omega | (simp; done) | (simp; omega)) _))).trans (hb5.mono (by simp))
  have H5 := hid (H4.out.trans (hb45.mono H4.out.size))
  have C5 := hid (C4.out.below hb45)
  have X5 : Hid (∀ w8 : World, Below w5.heap.size w5 w8 → (w8.cell? ⟨w4.heap.size, 0, none⟩ = some (.slice (some ⟨N4 0, 0, none⟩) (l 0) (l 0)) ∧ w8.cell? ⟨w4.heap.size, 1, none⟩ = some (.slice (some ⟨N4 1, 0, none⟩) (l 1) (l 1)) ∧ w8.cell? ⟨w4.heap.size, 2, none⟩ = some (.slice (some ⟨N4 2, 0, none⟩) (l 2) (l 2)) ∧ w8.cell? ⟨w4.heap.size, 3, none⟩ = some (.slice (some ⟨N4 3, 0, none⟩) (l 3) (l 3)) ∧ w8.cell? ⟨w4.heap.size, 4, none⟩ = some (.slice (some ⟨N4 4, 0, none⟩) (l 4) (l 4)) ∧ w8.cell? ⟨w4.heap.size, 5, none⟩ = some (.slice (some ⟨N4 5, 0, none⟩) (l 5) (l 5)))) :=
    fun w8 hb => ⟨keep hb (keep hb5 (by simp [go_sem])), keep hb (keep hb5 (by simp [go_sem])), keep hb (keep hb5 (by simp [go_sem])), keep hb (keep hb5 (by simp [go_sem])), keep hb (keep hb5 (by simp [go_sem])), keep hb (keep hb5 (by simp [go_sem]))⟩
  have Z5 := hid (show w4.heap.size < w5.heap.size by have := hb5.size; simp at this; omega)
  obtain ⟨⟨q0, q1, q2, q3, q4, q5⟩, hn, hB, hz⟩ := HC1.out w5 H5.out
  have N5 := hid hn
  have B5 := hid hB
  clear hb5 hb45 hn hB
  obtain ⟨x0, x1, x2, x3, x4, x5⟩ := X5.out w5 (Below.refl _ _)
  have z4 := Z5.out
  have hq : (netB l s g o e x f != netB l s g o e x f) = false := by simp
  generalize netB l s g o e x f = ok at *
  go_wp2_with fail
  go_region_with (first
    | (go_at_call 7; refine (toNet p l c s g o e x f _ (N5.out.below (Below.refl _ w5).drew) HL.out).mono ?_; rintro e' w6 ⟨N6, rfl, hb6, hc6⟩; have hb6' : Below w5.heap.size w5 w6 := ((Below.refl _ w5).drew).trans hb6; obtain ⟨x0, x1, x2, x3, x4, x5⟩ := X5.out w6 hb6'; clear hb6)
    | (go_at_call 9; refine (eqNet (fun i => some ⟨N4 i, 0, none⟩) (fun i => some ⟨N6 i, 0, none⟩) l l l s g o e x f _ (C5.out.below hb6') (hc6.net HM.out HS.out HO.out HE.out)).mono ?_; rintro e' w7 ⟨rfl, hb7⟩))
  all_goals
    go_wp2
    go_ret
    exact ⟨rfl, (B5.out.trans (hb6'.mono B5.out.size)).trans (hb7.mono (by have := hb6'.size; have := B5.out.size; omega))⟩

theorem own : ownKnob Try.prog.godebug = none := by kernel_rfl
theorem laidOut : laidOutB Try.prog = true := by kernel_rfl

set_option maxRecDepth 100000 in
theorem lifted (os : Os) (started : os.Started) (H : Type) (enc : TypeId × Value → H) :
    ReturnsInHanded {} Try.checked os 3 .any (Rows.fnExactNetOKSpec.pre6 enc Try.prog Try.f3 Rows.fnExactNetOKRow.domain false) (Rows.fnExactNetOKSpec.post enc Try.prog Try.f3 false true false false) := by
  refine returnsInHanded_of_change (C := Try.checked) own started (by kernel_rfl) Try.func3
    (ChangeSpec.witness6 (enc := enc) (C := Try.checked) false ⟨#[], #[.agg #[.slice none 0 0, .slice none 0 0, .slice none 0 0, .slice none 0 0, .slice none 0 0, .slice none 0 0]], []⟩ 8 (by kernel_rfl) (by kernel_rfl) (by kernel_rfl) (by kernel_rfl)) ?_
  intro W base args ds gs before hval0 hW hcnd _
  have hval : ∀ (j : Nat) t v, Try.f3.params[j]? = some t → args[j]? = some v → Value.okWide Try.prog W .any base t v := hval0
  have hW' := hW
  obtain ⟨p, q, hA0, hV, rfl, hfz, hnd⟩ := hW
  have hA : DataW.TrodAll enc Try.prog W 0 (fun _ => true) true Try.f3.params.toList args.toList ds p := hA0
  rw [Try.params3] at hA hval
  obtain ⟨v0, vs0, d0, ds0, p0, q0, hargs, rfl, rfl, h0, r0⟩ := trodAll_cons hA
  obtain ⟨rfl, rfl, rfl⟩ := trodAll_nil r0
  obtain rfl : args = #[v0] := by cases args; simp_all
  obtain ⟨rfl, rfl⟩ := trodVars_none hV
  have k0 := h0
  have lt0 : ∀ x ∈ p0, x.block < W.heap.size := by obtain ⟨m, hm⟩ := k0; exact DataW.trod_lt m _ _ _ hm
  obtain ⟨p, l, c, s, g, o, e, x, f, rfl, hnet⟩ := net_of_trod (hval 0 28 v0 rfl rfl) h0
  clear hA0 hval0
  refine (walk p l c s g o e x f W hnet).mono fun e W' ⟨he, bel⟩ => ?_
  subst he
  exact ⟨_, rfl, _, _, _, [], _, [], hW', trodAll_mk1 (shut_bool Try.underlying4 _), (trodAll_cons_mk (Below.trod laidOut (by kernel_rfl) (of_decide_eq_true (by kernel_rfl)) k0 bel lt0) trodAll_mk0), rfl, bel.frame _, fun h => by cases h⟩

theorem over : Rows.fnExactNetOKRow.holds Try.pinned (OpenSpec.ofChange Rows.fnExactNetOKSpec) :=
  OpenClaim.holds_of_wide 3 Try.f3 rfl rfl rfl rfl rfl rfl rfl ⟨rfl, rfl, rfl, rfl, rfl⟩ rfl rfl rfl rfl rfl (by kernel_rfl) Try.func3 (by kernel_rfl)
    (of_decide_eq_true (by kernel_rfl)) (by unfold Func.isWrapper; first | (rw [if_pos (by decide +kernel)]; kernel_rfl) | (rw [if_neg (by decide +kernel)]; exact ⟨rfl, rfl⟩))
    (fun os started H enc _ => lifted os started H enc)
end Go.Proofs.Ytmnflgicckjhnaa.fnExactNetOK
namespace Go.Proofs.Ytmnflgicckjhnaa
theorem fnExactNetOK_holds : Rows.FnExactNetOKSaid := fnExactNetOK.over
end Go.Proofs.Ytmnflgicckjhnaa
