/- For every word and number of bits WordOK answers as its specification, and the word is as it was; conditions: none. -/
import Derived.Test.YtdjlogonnbcheaaWordCopy
import Derived.Test.YtdjlogonnbcheaaWordEq
import Derived.Test.YtdjlogonnbcheaaWordSpec
import Derived.Test.YtdjlogonnbcheaaWordArgs
namespace Go.Proofs.Ytdjlogonnbcheaa.fnExactWordOK
open Go.ChangeShapes Go.WideShapes Go.ChangeAt Go.RowKit Go.Deep Go.Joins base trees wordTrees wordCopy wordEq wordIs wordSpec wordArgs args
set_option linter.unusedVariables false

set_option maxHeartbeats 1600000 in
theorem walk (d : Nat) (t : T) (a : Option Addr) (l c : Nat) (w : World) (bits : Int) (hr : Rd (fun _ => True) maxLen w d t a l) :
    Calls Try.prog 3 #[.agg #[.int .i64 (kd t), .int .i64 (nn t), .slice a l c], .int .i64 bits] w fun e w' => e = .returned (.bool true) ∧ Below w.heap.size w w' := by
  have HR := hid hr
  clear hr
  go_enter Try.func3, Try.ntmps3
  go_wp2_with fail
  refine (szE_of d (szS d) _ _ t a l c 1048576 _ ?_ (by omega) (by omega)).mono ?_
  · exact HR.out.below (by repeat (first | exact Below.refl _ _ | assumption | refine Below.drew ?_ | refine Below.alloc ?_ (by first | exact Nat.le_refl _ | omega | (simp; done) | (simp; omega)) _ | refine Below.setCell ?_ (by first | exact Nat.le_refl _ | omega | (simp; done) | (simp; omega)) _))
  rintro e w1 ⟨r, rfl, hb1, hr1, hr2, hr3⟩
  have H3 := hid hr3
  have hB1 := hid ((show Below w.heap.size w _ from (by repeat (first | exact Below.refl _ _ | assumption | refine Below.drew ?_ | refine Below.alloc ?_ (by first | exact Nat.le_refl _ | omega | (simp; done) | (simp; omega)) _ | refine Below.setCell ?_ (by first | exact Nat.le_refl _ | omega | (simp; done) | (simp; omega)) _))).trans (hb1.mono (by simp)))
  have b0 : w1.cell? ⟨w.heap.size, 0, none⟩ = some (.int .i64 (kd t)) := keep hb1 (by simp [go_sem])
  have b1 : w1.cell? ⟨w.heap.size, 1, none⟩ = some (.int .i64 (nn t)) := keep hb1 (by simp [go_sem])
  have b2 : w1.cell? ⟨w.heap.size, 2, none⟩ = some (.slice a l c) := keep hb1 (by simp [go_sem])
  have z1 : w.heap.size < w1.heap.size := by have := hb1.size; simp at this; omega
  clear hb1 hr3
  by_cases hneg : r < 0
  · go_wp2
    go_ret
    exact ⟨rfl, hB1.out⟩
  have hsz := hid (H3.out (by omega))
  go_wp2_with fail
  refine (toE_of d (toS d) _ _ t a l c _ (HR.out.below hB1.out) hsz.out).mono ?_
  rintro e w2 ⟨N2, rfl, hN2, hb2, hc2⟩
  have HC2 := hid (hc2.imp (q' := fun _ => True) fun _ _ => trivial)
  have b0 : w2.cell? ⟨w.heap.size, 0, none⟩ = some (.int .i64 (kd t)) := keep hb2 b0
  have b1 : w2.cell? ⟨w.heap.size, 1, none⟩ = some (.int .i64 (nn t)) := keep hb2 b1
  have b2 : w2.cell? ⟨w.heap.size, 2, none⟩ = some (.slice a l c) := keep hb2 b2
  have hB2 := hid (hB1.out.trans (hb2.mono hB1.out.size))
  have z2 : w.heap.size < w2.heap.size := by have := hb2.size; omega
  clear hb2 hc2
  go_wp2_with fail
  refine (wordOK_spec d t _ l l bits _ HC2.out).mono ?_
  rintro e w3 ⟨rfl, hb3⟩
  have b0 : w3.cell? ⟨w.heap.size, 0, none⟩ = some (.int .i64 (kd t)) := keep hb3 b0
  have b1 : w3.cell? ⟨w.heap.size, 1, none⟩ = some (.int .i64 (nn t)) := keep hb3 b1
  have b2 : w3.cell? ⟨w.heap.size, 2, none⟩ = some (.slice a l c) := keep hb3 b2
  have hB3 := hid (hB2.out.trans (hb3.mono hB2.out.size))
  have z3 : w.heap.size < w3.heap.size := by have := hb3.size; omega
  clear hb3
  go_wp2_with fail
  refine (toE_of d (toS d) _ _ t a l c _ (HR.out.below hB3.out) hsz.out).mono ?_
  rintro e w4 ⟨N4, rfl, hN4, hb4, hc4⟩
  have HC4 := hid (hc4.imp (q' := fun _ => True) fun _ _ => trivial)
  have b0 : w4.cell? ⟨w.heap.size, 0, none⟩ = some (.int .i64 (kd t)) := keep hb4 b0
  have b1 : w4.cell? ⟨w.heap.size, 1, none⟩ = some (.int .i64 (nn t)) := keep hb4 b1
  have b2 : w4.cell? ⟨w.heap.size, 2, none⟩ = some (.slice a l c) := keep hb4 b2
  have hB4 := hid (hB3.out.trans (hb4.mono hB3.out.size))
  have z4 : w.heap.size < w4.heap.size := by have := hb4.size; omega
  clear hb4 hc4
  go_wp2_with fail
  refine (wordOK_impl d t _ l l bits _ ?_).mono ?_
  · exact HC4.out.below (by repeat (first | exact Below.refl _ _ | assumption | refine Below.drew ?_ | refine Below.alloc ?_ (by first | exact Nat.le_refl _ | omega | (simp; done) | (simp; omega)) _ | refine Below.setCell ?_ (by first | exact Nat.le_refl _ | omega | (simp; done) | (simp; omega)) _))
  rintro e w5 ⟨rfl, hb5⟩
  have b0 : w5.cell? ⟨w.heap.size, 0, none⟩ = some (.int .i64 (kd t)) := keep hb5 (by simpa [go_sem] using keep (by repeat (first | exact Below.refl _ _ | assumption | refine Below.drew ?_ | refine Below.alloc ?_ (by first | exact Nat.le_refl _ | omega | (simp; done) | (simp; omega)) _ | refine Below.setCell ?_ (by first | exact Nat.le_refl _ | omega | (simp; done) | (simp; omega)) _)) b0)
  have b1 : w5.cell? ⟨w.heap.size, 1, none⟩ = some (.int .i64 (nn t)) := keep hb5 (by simpa [go_sem] using keep (by repeat (first | exact Below.refl _ _ | assumption | refine Below.drew ?_ | refine Below.alloc ?_ (by first | exact Nat.le_refl _ | omega | (simp; done) | (simp; omega)) _ | refine Below.setCell ?_ (by first | exact Nat.le_refl _ | omega | (simp; done) | (simp; omega)) _)) b1)
  have b2 : w5.cell? ⟨w.heap.size, 2, none⟩ = some (.slice a l c) := keep hb5 (by simpa [go_sem] using keep (by repeat (first | exact Below.refl _ _ | assumption | refine Below.drew ?_ | refine Below.alloc ?_ (by first | exact Nat.le_refl _ | omega | (simp; done) | (simp; omega)) _ | refine Below.setCell ?_ (by first | exact Nat.le_refl _ | omega | (simp; done) | (simp; omega)) _)) b2)
  have x0 : w5.cell? ⟨w4.heap.size, 0, none⟩ = some (.int .i64 (kd t)) := keep hb5 (by simp [go_sem])
  have x1 : w5.cell? ⟨w4.heap.size, 1, none⟩ = some (.int .i64 (nn t)) := keep hb5 (by simp [go_sem])
  have x2 : w5.cell? ⟨w4.heap.size, 2, none⟩ = some (.slice (some ⟨N4, 0, none⟩) l l) := keep hb5 (by simp [go_sem])
  have hB45 := hid ((show Below w4.heap.size w4 _ from (by repeat (first | exact Below.refl _ _ | assumption | refine Below.drew ?_ | refine Below.alloc ?_ (by first | exact Nat.le_refl _ | omega | (simp; done) | (simp; omega)) _ | refine Below.setCell ?_ (by first | exact Nat.le_refl _ | omega | (simp; done) | (simp; omega)) _))).trans (hb5.mono (by simp)))
  have hB5 := hid (hB4.out.trans (hB45.out.mono hB4.out.size))
  have z5 : w4.heap.size < w5.heap.size := by have := hb5.size; simp at this; omega
  clear hb5
  have hq : (wordB d t bits != wordB d t bits) = false := by simp
  generalize wordB d t bits = ok at *
  go_wp2_with fail
  have K6 : ∀ w6 : World, Below w5.heap.size w5 w6 → w6.cell? ⟨w4.heap.size, 0, none⟩ = some (.int .i64 (kd t)) ∧ w6.cell? ⟨w4.heap.size, 1, none⟩ = some (.int .i64 (nn t)) ∧ w6.cell? ⟨w4.heap.size, 2, none⟩ = some (.slice (some ⟨N4, 0, none⟩) l l) := fun w6 h => ⟨keep h x0, keep h x1, keep h x2⟩
  have HK6 := hid K6
  clear K6
  go_region_with (first
    | (go_at_call 7; refine (toE_of d (toS d) _ _ t a l c _ (HR.out.below hB5.out.drew) hsz.out).mono ?_; rintro e w6 ⟨N6, rfl, hN6, hb6, hc6⟩; have hb6' : Below w5.heap.size w5 w6 := ((Below.refl _ w5).drew).trans hb6; obtain ⟨y0, y1, y2⟩ := HK6.out w6 hb6'; clear hb6)
    | (go_at_call 9; refine (eqE_of d (eqS d) _ _ t _ _ l l l _ ((HC4.out.below (hB45.out.trans (hb6'.mono (by omega)))).wide (by unfold maxLen; omega)) ((hc6.imp (q' := fun _ => True) fun _ _ => trivial).wide (by unfold maxLen; omega))).mono ?_; rintro e w7 ⟨rfl, hb7⟩))
  all_goals
    go_wp2
    go_ret
    exact ⟨rfl, (hB5.out.trans (hb6'.mono (by omega))).trans (hb7.mono (by have := hb6'.size; omega))⟩

theorem own : ownKnob Try.prog.godebug = none := by kernel_rfl
theorem laidOut : laidOutB Try.prog = true := by kernel_rfl

set_option maxRecDepth 100000 in
theorem lifted (os : Os) (started : os.Started) (H : Type) (enc : TypeId × Value → H) :
    ReturnsInHanded {} Try.checked os 3 .any (Rows.fnExactWordOKSpec.pre6 enc Try.prog Try.f3 Rows.fnExactWordOKRow.domain false) (Rows.fnExactWordOKSpec.post enc Try.prog Try.f3 false true false false) := by
  refine returnsInHanded_of_change (C := Try.checked) own started (by kernel_rfl) Try.func3
    (ChangeSpec.witness6 (enc := enc) (C := Try.checked) false ⟨#[], #[.agg #[.int .i64 0, .int .i64 0, .slice none 0 0], .int .i64 0], []⟩ 8 (by kernel_rfl) (by kernel_rfl) (by kernel_rfl) (by kernel_rfl)) ?_
  intro W base args ds gs before hval0 hW hcnd _
  have hval : ∀ (j : Nat) t v, Try.f3.params[j]? = some t → args[j]? = some v → Value.okWide Try.prog W .any base t v := hval0
  have hW' := hW
  obtain ⟨p, q, hA0, hV, rfl, hfz, hnd⟩ := hW
  have hA : DataW.TrodAll enc Try.prog W 0 (fun _ => true) true Try.f3.params.toList args.toList ds p := hA0
  rw [Try.params3] at hA hval
  obtain ⟨v0, vs0, d0, ds0, p0, q0, hargs, rfl, rfl, h0, r0⟩ := trodAll_cons hA
  obtain ⟨v1, vs1, d1, ds1, p1, q1, rfl, rfl, rfl, h1, r1⟩ := trodAll_cons r0
  obtain ⟨rfl, rfl, rfl⟩ := trodAll_nil r1
  obtain rfl : args = #[v0, v1] := by cases args; simp_all
  obtain ⟨rfl, rfl⟩ := trodVars_none hV
  have k0 := h0
  have lt0 : ∀ x ∈ p0, x.block < W.heap.size := by obtain ⟨m, hm⟩ := k0; exact DataW.trod_lt m _ _ _ hm
  have k1 := h1
  have lt1 : ∀ x ∈ p1, x.block < W.heap.size := by obtain ⟨m, hm⟩ := k1; exact DataW.trod_lt m _ _ _ hm
  obtain ⟨bits, rfl⟩ := okWide_int Try.underlying3 (hval 1 3 v1 rfl rfl)
  obtain ⟨c0, c1, c2, y0, y1, y2, m, rfl, hd0, hp0, hy0, hy1, hy2⟩ := open_agg3 Try.underlying24 (by kernel_rfl) cells_word (hval 0 24 v0 rfl rfl) h0
  obtain ⟨kk, rfl, _⟩ := int_of_trod Try.underlying3 hy0
  obtain ⟨nk, rfl, _⟩ := int_of_trod Try.underlying3 hy1
  obtain ⟨a, len, cap, rfl, f, hrow⟩ := words_of_trod m _ _ hy2
  clear hA0 hval0
  refine (walk m (mkT kk nk len f) a len cap W bits (hrow kk nk)).mono fun e W' ⟨he, bel⟩ => ?_
  subst he
  exact ⟨_, rfl, _, _, _, [], _, [], hW', trodAll_mk1 (shut_bool Try.underlying4 _), (trodAll_cons_mk (Below.trod laidOut (by kernel_rfl) (of_decide_eq_true (by kernel_rfl)) k0 bel lt0) (trodAll_cons_mk (Below.trod laidOut (by kernel_rfl) (of_decide_eq_true (by kernel_rfl)) k1 bel lt1) trodAll_mk0)), rfl, bel.frame _, fun h => by cases h⟩

theorem over : Rows.fnExactWordOKRow.holds Try.pinned (OpenSpec.ofChange Rows.fnExactWordOKSpec) :=
  OpenClaim.holds_of_wide 3 Try.f3 rfl rfl rfl rfl rfl rfl rfl ⟨rfl, rfl, rfl, rfl, rfl⟩ rfl rfl rfl rfl rfl (by kernel_rfl) Try.func3 (by kernel_rfl)
    (of_decide_eq_true (by kernel_rfl)) (by unfold Func.isWrapper; first | (rw [if_pos (by decide +kernel)]; kernel_rfl) | (rw [if_neg (by decide +kernel)]; exact ⟨rfl, rfl⟩))
    (fun os started H enc _ => lifted os started H enc)
end Go.Proofs.Ytdjlogonnbcheaa.fnExactWordOK
namespace Go.Proofs.Ytdjlogonnbcheaa
theorem fnExactWordOK_holds : Rows.FnExactWordOKSaid := fnExactWordOK.over
end Go.Proofs.Ytdjlogonnbcheaa
