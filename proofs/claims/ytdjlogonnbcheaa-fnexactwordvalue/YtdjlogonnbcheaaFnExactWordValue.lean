/- For every word, number of bits and values WordValue answers as its specification, and all are as they were; conditions: none. -/
import Derived.Test.YtdjlogonnbcheaaCopy
import Derived.Test.YtdjlogonnbcheaaWordCopy
import Derived.Test.YtdjlogonnbcheaaWordEq
import Derived.Test.YtdjlogonnbcheaaWordValue
import Derived.Test.YtdjlogonnbcheaaWordArgs
namespace Go.Proofs.Ytdjlogonnbcheaa.fnExactWordValue
open Go.ChangeShapes Go.WideShapes Go.ChangeAt Go.RowKit Go.Deep Go.Joins base copy trees wordTrees wordCopy wordEq wordIs wordSpec wordVal wordValue wordArgs args
set_option linter.unusedVariables false

set_option maxHeartbeats 3200000 in
theorem walk (d : Nat) (t : T) (a av : Option Addr) (l c lv cv : Nat) (vs : List Int) (bits : Int) (w : World) (hr : Rd (fun _ => True) maxLen w d t a l) (hv : IntRow w av lv vs) :
    Calls Try.prog 4 #[.agg #[.int .i64 (kd t), .int .i64 (nn t), .slice a l c], .int .i64 bits, .slice av lv cv] w fun e w' => e = .returned (.bool true) ∧ Below w.heap.size w w' := by
  have hmv := hv.most
  unfold maxLen at hmv
  have HR := hid hr
  have HV := hid hv
  clear hr hv
  by_cases hbig : (1048576 : Int) < (lv : Int)
  · go_enter Try.func4, Try.ntmps4
    go_wp2
    go_ret
    exact ⟨rfl, (by repeat (first | exact Below.refl _ _ | assumption | refine Below.drew ?_ | refine Below.alloc ?_ (by first | exact Nat.le_refl _ | omega | (simp; done) | (simp; omega)) _ | refine Below.setCell ?_ (by first | exact Nat.le_refl _ | omega | (simp; done) | (simp; omega)) _))⟩
  have hlv : lv ≤ 1048576 := by omega
  obtain ⟨r1, e1⟩ : ∃ r1, wvV d t bits vs = r1 := ⟨_, rfl⟩
  obtain ⟨r2, e2⟩ : ∃ r2, wvC d t bits vs = r2 := ⟨_, rfl⟩
  have E1 := hid e1
  have E2 := hid e2
  clear e1 e2
  go_enter Try.func4, Try.ntmps4
  go_wp2_with fail
  refine (szE_of d (szS d) _ _ t a l c 1048576 _ ?_ (by omega) (by omega)).mono ?_
  · exact HR.out.below (by repeat (first | exact Below.refl _ _ | assumption | refine Below.drew ?_ | refine Below.alloc ?_ (by first | exact Nat.le_refl _ | omega | (simp; done) | (simp; omega)) _ | refine Below.setCell ?_ (by first | exact Nat.le_refl _ | omega | (simp; done) | (simp; omega)) _))
  rintro e w1 ⟨r, rfl, hb1, hr1, hr2, hr3⟩
  have H3 := hid hr3
  have hB1 := hid ((show Below w.heap.size w _ from (by repeat (first | exact Below.refl _ _ | assumption | refine Below.drew ?_ | refine Below.alloc ?_ (by first | exact Nat.le_refl _ | omega | (simp; done) | (simp; omega)) _ | refine Below.setCell ?_ (by first | exact Nat.le_refl _ | omega | (simp; done) | (simp; omega)) _))).trans (hb1.mono (by simp)))
  have b0 : w1.cell? ⟨w.heap.size, 0, none⟩ = some (.int .i64 (kd t)) := keep hb1 (by simp [go_sem])
  have b1 : w1.cell? ⟨w.heap.size, 1, none⟩ = some (.int .i64 (nn t)) := keep hb1 (by simp [go_sem])
  have b2 : w1.cell? ⟨w.heap.size, 2, none⟩ = some (.slice a l c) := keep hb1 (by simp [go_sem])
  have z1 : w.heap.size < w1.heap.size := by have := hb1.size; simp at this; omega
  clear hb1 hr3
  by_cases hneg : r < 0
  · go_wp2
    go_ret
    exact ⟨rfl, hB1.out⟩
  have hsz := hid (H3.out (by omega))
  go_wp2_with fail
  refine (toE_of d (toS d) _ _ t a l c _ (HR.out.below hB1.out) hsz.out).mono ?_
  rintro e w2 ⟨N2, rfl, hN2, hb2, hc2⟩
  have HC2 := hid (hc2.imp (q' := fun _ => True) fun _ _ => trivial)
  replace b0 := keep hb2 b0
  replace b1 := keep hb2 b1
  replace b2 := keep hb2 b2
  have hB2 := hid (hB1.out.trans (hb2.mono hB1.out.size))
  have z2 : w.heap.size < w2.heap.size := by have := hb2.size; omega
  clear hb2 hc2 z1 hB1 H3
  go_wp2_with fail
  refine (toIntN av lv cv vs _ (HV.out.below hB2.out) hlv).mono ?_
  rintro e w3 ⟨NV3, rfl, hn3, hb3, hc3, hv3⟩
  have HV3 := hid hv3
  have HC3 := hid (HC2.out.below hb3)
  replace b0 := keep hb3 b0
  replace b1 := keep hb3 b1
  replace b2 := keep hb3 b2
  have hB3 := hid (hB2.out.trans (hb3.mono hB2.out.size))
  have z3 : w.heap.size < w3.heap.size := by have := hb3.size; omega
  clear hb3 hc3 hv3 hn3 z2 hB2 HC2
  go_wp2_with fail
  refine (wordValue_spec d t _ l l bits _ lv lv vs _ HC3.out HV3.out).mono ?_
  rintro e w4 ⟨rfl, hb4⟩
  rw [E1.out, E2.out]
  replace b0 := keep hb4 b0
  replace b1 := keep hb4 b1
  replace b2 := keep hb4 b2
  have hB4 := hid (hB3.out.trans (hb4.mono hB3.out.size))
  have z4 : w.heap.size < w4.heap.size := by have := hb4.size; omega
  clear hb4 z3 hB3 HC3 HV3
  go_wp2_with fail
  refine (toE_of d (toS d) _ _ t a l c _ (HR.out.below hB4.out) hsz.out).mono ?_
  rintro e w5 ⟨N5, rfl, hN5, hb5, hc5⟩
  have HC5 := hid (hc5.imp (q' := fun _ => True) fun _ _ => trivial)
  replace b0 := keep hb5 b0
  replace b1 := keep hb5 b1
  replace b2 := keep hb5 b2
  have hB5 := hid (hB4.out.trans (hb5.mono hB4.out.size))
  have z5 : w.heap.size < w5.heap.size := by have := hb5.size; omega
  clear hb5 hc5 z4 hB4
  go_wp2_with fail
  refine (toIntN av lv cv vs _ ?_ hlv).mono ?_
  · exact HV.out.below (hB5.out.trans (show Below w.heap.size w5 _ from (by repeat (first | exact Below.refl _ _ | assumption | refine Below.drew ?_ | refine Below.alloc ?_ (by first | exact Nat.le_refl _ | omega | (simp; done) | (simp; omega)) _ | refine Below.setCell ?_ (by first | exact Nat.le_refl _ | omega | (simp; done) | (simp; omega)) _))))
  rintro e w6 ⟨NV6, rfl, hn6, hb6, hc6, hv6⟩
  have hb56 := hid ((show Below w5.heap.size w5 _ from (by repeat (first | exact Below.refl _ _ | assumption | refine Below.drew ?_ | refine Below.alloc ?_ (by first | exact Nat.le_refl _ | omega | (simp; done) | (simp; omega)) _ | refine Below.setCell ?_ (by first | exact Nat.le_refl _ | omega | (simp; done) | (simp; omega)) _))).trans (hb6.mono (by simp)))
  have HV6 := hid hv6
  have HC6 := hid (HC5.out.below hb56.out)
  replace b0 := keep hb56.out b0
  replace b1 := keep hb56.out b1
  replace b2 := keep hb56.out b2
  have x0 : w6.cell? ⟨w5.heap.size, 0, none⟩ = some (.int .i64 (kd t)) := keep hb6 (by simp [go_sem])
  have x1 : w6.cell? ⟨w5.heap.size, 1, none⟩ = some (.int .i64 (nn t)) := keep hb6 (by simp [go_sem])
  have x2 : w6.cell? ⟨w5.heap.size, 2, none⟩ = some (.slice (some ⟨N5, 0, none⟩) l l) := keep hb6 (by simp [go_sem])
  have hB6 := hid (hB5.out.trans (hb56.out.mono hB5.out.size))
  have z6 : w5.heap.size < w6.heap.size := by have := hb6.size; simp at this; omega
  clear hb6 hc6 hv6 hn6 z5 hB5 HC5 hb56
  go_wp2_with fail
  refine (wordValue_impl d t _ l l bits _ lv lv vs _ HC6.out HV6.out).mono ?_
  rintro e w7 ⟨rfl, hb7⟩
  rw [E1.out, E2.out]
  have HV7 := hid (HV6.out.below hb7)
  have HC7 := hid (HC6.out.below hb7)
  replace b0 := keep hb7 b0
  replace b1 := keep hb7 b1
  replace b2 := keep hb7 b2
  replace x0 := keep hb7 x0
  replace x1 := keep hb7 x1
  replace x2 := keep hb7 x2
  have hB7 := hid (hB6.out.trans (hb7.mono hB6.out.size))
  have z7 : w5.heap.size < w7.heap.size := by have := hb7.size; omega
  clear hb7 hB6 HC6 HV6 z6
  have hq1 : (r1 != r1) = false := by simp
  have hq2 : (r2 != r2) = false := by simp
  go_wp2_with fail
  have K6 : ∀ w6 : World, Below w7.heap.size w7 w6 → w6.cell? ⟨w5.heap.size, 0, none⟩ = some (.int .i64 (kd t)) ∧ w6.cell? ⟨w5.heap.size, 1, none⟩ = some (.int .i64 (nn t)) ∧ w6.cell? ⟨w5.heap.size, 2, none⟩ = some (.slice (some ⟨N5, 0, none⟩) l l) := fun w6 h => ⟨keep h x0, keep h x1, keep h x2⟩
  have HK6 := hid K6
  clear K6
  go_region_with (first
    | (go_at_call 7; refine (toE_of d (toS d) _ _ t a l c _ (HR.out.below hB7.out.drew) hsz.out).mono ?_; rintro e w8 ⟨N8, rfl, hN8, hb8, hc8⟩; have hb8' : Below w7.heap.size w7 w8 := ((Below.refl _ w7).drew).trans hb8; obtain ⟨y0, y1, y2⟩ := HK6.out w8 hb8'; clear hb8)
    | (go_at_call 9; refine (eqE_of d (eqS d) _ _ t _ _ l l l _ ((HC7.out.below hb8').wide (by unfold maxLen; omega)) ((hc8.imp (q' := fun _ => True) fun _ _ => trivial).wide (by unfold maxLen; omega))).mono ?_; rintro e w9 ⟨rfl, hb9⟩))
  all_goals
    have H79 := hid (hb8'.trans (hb9.mono hb8'.size))
    have hB9 := hid (hB7.out.trans (H79.out.mono hB7.out.size))
    clear hb8' hb9 hc8 y0 y1 y2
    go_wp2_with fail
    refine (toIntN av lv cv vs _ (HV.out.below hB9.out) hlv).mono ?_
    rintro e w10 ⟨NV10, rfl, hn10, hb10, hc10, hv10⟩
    have HV10 := hid hv10
    have HV7' := hid (HV7.out.below (H79.out.trans (hb10.mono H79.out.size)))
    have hB10 := hid (hB9.out.trans (hb10.mono hB9.out.size))
    clear hb10 hc10 hv10 hn10
    go_wp2_with fail
    refine (eqIntS _ _ lv lv lv lv vs vs _ HV7'.out HV10.out).mono ?_
    rintro e w11 ⟨rfl, n, rfl⟩
    have hd2 : decide (vs = vs) = true := decide_eq_true rfl
    go_wp2
    go_ret
    exact ⟨rfl, hB10.out.trans ((below_drewN _ n).mono hB10.out.size)⟩

theorem own : ownKnob Try.prog.godebug = none := by kernel_rfl
theorem laidOut : laidOutB Try.prog = true := by kernel_rfl

set_option maxRecDepth 100000 in
theorem lifted (os : Os) (started : os.Started) (H : Type) (enc : TypeId × Value → H) :
    ReturnsInHanded {} Try.checked os 4 .any (Rows.fnExactWordValueSpec.pre6 enc Try.prog Try.f4 Rows.fnExactWordValueRow.domain false) (Rows.fnExactWordValueSpec.post enc Try.prog Try.f4 false true false false) := by
  refine returnsInHanded_of_change (C := Try.checked) own started (by kernel_rfl) Try.func4
    (ChangeSpec.witness6 (enc := enc) (C := Try.checked) false ⟨#[], #[.agg #[.int .i64 0, .int .i64 0, .slice none 0 0], .int .i64 0, .slice none 0 0], []⟩ 8 (by kernel_rfl) (by kernel_rfl) (by kernel_rfl) (by kernel_rfl)) ?_
  intro W base args ds gs before hval0 hW hcnd _
  have hval : ∀ (j : Nat) t v, Try.f4.params[j]? = some t → args[j]? = some v → Value.okWide Try.prog W .any base t v := hval0
  have hW' := hW
  obtain ⟨p, q, hA0, hV, rfl, hfz, hnd⟩ := hW
  have hA : DataW.TrodAll enc Try.prog W 0 (fun _ => true) true Try.f4.params.toList args.toList ds p := hA0
  rw [Try.params4] at hA hval
  obtain ⟨v0, vs0, d0, ds0, p0, q0, hargs, rfl, rfl, h0, r0⟩ := trodAll_cons hA
  obtain ⟨v1, vs1, d1, ds1, p1, q1, rfl, rfl, rfl, h1, r1⟩ := trodAll_cons r0
  obtain ⟨v2, vs2, d2, ds2, p2, q2, rfl, rfl, rfl, h2, r2⟩ := trodAll_cons r1
  obtain ⟨rfl, rfl, rfl⟩ := trodAll_nil r2
  obtain rfl : args = #[v0, v1, v2] := by cases args; simp_all
  obtain ⟨rfl, rfl⟩ := trodVars_none hV
  have k0 := h0
  have lt0 : ∀ x ∈ p0, x.block < W.heap.size := by obtain ⟨m, hm⟩ := k0; exact DataW.trod_lt m _ _ _ hm
  have k1 := h1
  have lt1 : ∀ x ∈ p1, x.block < W.heap.size := by obtain ⟨m, hm⟩ := k1; exact DataW.trod_lt m _ _ _ hm
  have k2 := h2
  have lt2 : ∀ x ∈ p2, x.block < W.heap.size := by obtain ⟨m, hm⟩ := k2; exact DataW.trod_lt m _ _ _ hm
  obtain ⟨bits, rfl⟩ := okWide_int Try.underlying3 (hval 1 3 v1 rfl rfl)
  obtain ⟨av, lv, cv, rfl⟩ := okWide_slice Try.underlying33 (hval 2 33 v2 rfl rfl)
  obtain ⟨vs, hvs⟩ : ∃ vs, IntRow W av lv vs := by
    obtain ⟨fuel, hf⟩ := h2
    obtain ⟨a', l', c', vs, e, hb⟩ := row_of_trod Try.underlying33 Try.underlying3 (by kernel_rfl) (by simpa [Value.cells] using hf)
    cases e
    exact ⟨vs, hb.1⟩
  obtain ⟨c0, c1, c2, y0, y1, y2, m, rfl, hd0, hp0, hy0, hy1, hy2⟩ := open_agg3 Try.underlying24 (by kernel_rfl) cells_word (hval 0 24 v0 rfl rfl) h0
  obtain ⟨kk, rfl, _⟩ := int_of_trod Try.underlying3 hy0
  obtain ⟨nk, rfl, _⟩ := int_of_trod Try.underlying3 hy1
  obtain ⟨a, len, cap, rfl, f, hrow⟩ := words_of_trod m _ _ hy2
  clear hA0 hval0
  refine (walk m (mkT kk nk len f) a av len cap lv cv vs bits W (hrow kk nk) hvs).mono fun e W' ⟨he, bel⟩ => ?_
  subst he
  exact ⟨_, rfl, _, _, _, [], _, [], hW', trodAll_mk1 (shut_bool Try.underlying4 _), (trodAll_cons_mk (Below.trod laidOut (by kernel_rfl) (of_decide_eq_true (by kernel_rfl)) k0 bel lt0) (trodAll_cons_mk (Below.trod laidOut (by kernel_rfl) (of_decide_eq_true (by kernel_rfl)) k1 bel lt1) (trodAll_cons_mk (Below.trod laidOut (by kernel_rfl) (of_decide_eq_true (by kernel_rfl)) k2 bel lt2) trodAll_mk0))), rfl, bel.frame _, fun h => by cases h⟩

theorem over : Rows.fnExactWordValueRow.holds Try.pinned (OpenSpec.ofChange Rows.fnExactWordValueSpec) :=
  OpenClaim.holds_of_wide 4 Try.f4 rfl rfl rfl rfl rfl rfl rfl ⟨rfl, rfl, rfl, rfl, rfl⟩ rfl rfl rfl rfl rfl (by kernel_rfl) Try.func4 (by kernel_rfl)
    (of_decide_eq_true (by kernel_rfl)) (by unfold Func.isWrapper; first | (rw [if_pos (by decide +kernel)]; kernel_rfl) | (rw [if_neg (by decide +kernel)]; exact ⟨rfl, rfl⟩))
    (fun os started H enc _ => lifted os started H enc)
end Go.Proofs.Ytdjlogonnbcheaa.fnExactWordValue
namespace Go.Proofs.Ytdjlogonnbcheaa
theorem fnExactWordValue_holds : Rows.FnExactWordValueSaid := fnExactWordValue.over
end Go.Proofs.Ytdjlogonnbcheaa
