/- For every two clauses and every number Resolve answers as its specification (the literals and the code); the arguments are as they were, and the answer owns its memory; conditions: none. -/
import Derived.Test.YtfjhckjnhnpglaaResolveSpec
import Derived.Test.YtfjhckjnhnpglaaMark
import Derived.Test.YtfjhckjnhnpglaaArgs
namespace Go.Proofs.Ytfjhckjnhnpglaa.fnExactResolve
open Go.ChangeShapes Go.WideShapes Go.ChangeAt Go.RowKit Go.Deep Go.Joins base copy cnf eval own order sorted concat inOrder resolved resolveSpec mark args
set_option linter.unusedVariables false

theorem res_length (za zb : List Int) (v : Int) : (resList za zb v).length ≤ 1048576 := by
  unfold resList
  split
  · rename_i h
    have : (restOf za zb v).length ≤ 8192 := by
      unfold restOf
      rw [List.length_append]
      have h1 := List.length_filter_le (fun z => z != v) za
      have h2 := List.length_filter_le (fun z => z != -v) zb
      unfold resCode at h
      split at h
      · omega
      · omega
    have := ord_length (restOf za zb v)
    omega
  · simp
set_option maxHeartbeats 3200000 in
theorem walk (a b : Option Addr) (la ca lb cb : Nat) (za zb : List Int) (v : Int) (w : World) (hra : IntRow w a la za) (hrb : IntRow w b lb zb) :
    Calls Try.prog 6 #[.slice a la ca, .slice b lb cb, .int .i64 v] w fun e w' => e = .returned (.bool true) ∧ Below w.heap.size w w' := by
  have hma := hra.most
  have hmb := hrb.most
  unfold maxLen at hma hmb
  have HA := hid hra
  have HB := hid hrb
  clear hra hrb
  by_cases h1 : 1048576 < la
  · go_enter Try.func6, Try.ntmps6
    go_wp2
    go_ret
    exact ⟨rfl, Below.refl _ _⟩
  by_cases h2 : 1048576 < lb
  · go_enter Try.func6, Try.ntmps6
    go_wp2
    go_ret
    exact ⟨rfl, Below.refl _ _⟩
  have hla : la ≤ 1048576 := by omega
  have hlb : lb ≤ 1048576 := by omega
  have HLn := hid (res_length za zb v)
  obtain ⟨L, hL⟩ : ∃ L, resList za zb v = L := ⟨_, rfl⟩
  obtain ⟨C, hC⟩ : ∃ C, resCode za zb v = C := ⟨_, rfl⟩
  have EL := hid hL
  have EC := hid hC
  rw [hL] at HLn
  have hln : L.length ≤ 1048576 := HLn.out
  have hdL : decide (L = L) = true := decide_eq_true rfl
  have hdA : decide (za = za) = true := decide_eq_true rfl
  have hdB : decide (zb = zb) = true := decide_eq_true rfl
  clear hL hC
  go_enter Try.func6, Try.ntmps6
  go_wp2_with fail
  refine (toIntN a la ca za _ HA.out hla).mono ?_
  rintro e w1 ⟨N1, rfl, hn1, hb1, hc1, hr1⟩
  have B1 := hid hb1
  have R1 := hid hr1
  clear hb1 hc1 hr1
  go_wp2_with fail
  refine (toIntN b lb cb zb _ (HB.out.below B1.out) hlb).mono ?_
  rintro e w2 ⟨N2, rfl, hn2, hb2, hc2, hr2⟩
  have B2 := hid (B1.out.trans (hb2.mono B1.out.size))
  have R1' := hid (R1.out.below hb2)
  have R2 := hid hr2
  clear hb2 hc2 hr2
  go_wp2_with fail
  refine (resolve_spec _ _ la la lb lb za zb v _ R1'.out R2.out).mono ?_
  rintro e w3 ⟨x, rfl, ho3, hb3⟩
  rw [EC.out]
  rw [EL.out] at ho3
  have B3 := hid (B2.out.trans (hb3.mono B2.out.size))
  have OX := hid ho3
  obtain ⟨ax, cx, rfl, _⟩ := ho3.form
  clear ho3 hb3 R1 R1' R2
  go_wp2_with fail
  refine (toIntN a la ca za _ (HA.out.below B3.out) hla).mono ?_
  rintro e w4 ⟨N4, rfl, hn4, hb4, hc4, hr4⟩
  have B4 := hid (B3.out.trans (hb4.mono B3.out.size))
  have OX4 := hid (OX.out.below hb4)
  have LX := hid (fun g (hg : (Value.slice ax L.length cx).ownBlock = some g) => (own_lt OX.out hg).2)
  have O4 := hid (own_of_row (B := w3.heap.size) hc4 HA.out.length hn4 (by unfold maxLen; omega))
  have R4 := hid hr4
  clear hb4 hc4 hr4 OX
  go_wp2_with fail
  refine (toIntN b lb cb zb _ (HB.out.below B4.out) hlb).mono ?_
  rintro e w5 ⟨N5, rfl, hn5, hb5, hc5, hr5⟩
  have B5 := hid (B4.out.trans (hb5.mono B4.out.size))
  have OX5 := hid (OX4.out.below hb5)
  have L4 := hid (own_lt (g := N4) O4.out rfl).2
  have O45 := hid (O4.out.below hb5)
  have O5 := hid (own_of_row (B := w4.heap.size) hc5 HB.out.length hn5 (by unfold maxLen; omega))
  have R45 := hid (R4.out.below hb5)
  have R5 := hid hr5
  have L5 := hid (own_lt (g := N5) O5.out rfl).2
  clear R4
  clear hb5 hc5 hr5 OX4 O4
  go_wp2_with fail
  refine (resolve_impl _ _ la la lb lb za zb v _ R45.out R5.out).mono ?_
  rintro e w6 ⟨y, rfl, ho6, hb6⟩
  rw [EC.out]
  rw [EL.out] at ho6
  have B6 := hid (B5.out.trans (hb6.mono B5.out.size))
  have OX6 := hid (OX5.out.below hb6)
  have O46 := hid (O45.out.below hb6)
  have O56 := hid (O5.out.below hb6)
  have OY := hid ho6
  have Z56 := hid hb6.size
  obtain ⟨ay, cy, rfl, ry6⟩ := ho6.form
  have rx6 := row_of_own OX6.out
  have GY := hid (fun g (hg : (Value.slice ay L.length cy).ownBlock = some g) => (own_lt OY.out hg).1)
  have RY6 := hid ry6
  have RX6 := hid rx6
  clear ho6 hb6 ry6 rx6 OX5 O45 O5 R45 R5
  have hqC : (C != C) = false := by simp
  go_wp2_with fail
  refine (eqIntS _ _ _ _ _ _ L L _ RY6.out RX6.out).mono ?_
  rintro e w7 ⟨rfl, n7, rfl⟩
  have b67 : Hid (Below w6.heap.size w6 (w6.drewN n7)) := below_drewN _ _
  generalize w6.drewN n7 = w7 at *
  have B7 := hid (B6.out.trans (b67.out.mono B6.out.size))
  have OX7 := hid (OX6.out.below b67.out)
  have O47 := hid (O46.out.below b67.out)
  have O57 := hid (O56.out.below b67.out)
  have OY7 := hid (OY.out.below b67.out)
  clear OX6 O46 O56 OY RY6 RX6 b67
  go_wp2_with fail
  refine (toIntN a la ca za _ (HA.out.below B7.out) hla).mono ?_
  rintro e w8 ⟨N8, rfl, hn8, hb8, hc8, hr8⟩
  have B8 := hid (B7.out.trans (hb8.mono B7.out.size))
  have OX8 := hid (OX7.out.below hb8)
  have O48 := hid (O47.out.below hb8)
  have O58 := hid (O57.out.below hb8)
  have OY8 := hid (OY7.out.below hb8)
  have R8 := hid hr8
  have R48 := hid (row_of_own O48.out)
  clear hb8 hc8 hr8 OX7 O47 O57 OY7
  go_wp2_with fail
  refine (eqIntS _ _ _ _ _ _ za za _ R48.out R8.out).mono ?_
  rintro e w9 ⟨rfl, n9, rfl⟩
  have b89 : Hid (Below w8.heap.size w8 (w8.drewN n9)) := below_drewN _ _
  generalize w8.drewN n9 = w9 at *
  have B9 := hid (B8.out.trans (b89.out.mono B8.out.size))
  have OX9 := hid (OX8.out.below b89.out)
  have O49 := hid (O48.out.below b89.out)
  have O59 := hid (O58.out.below b89.out)
  have OY9 := hid (OY8.out.below b89.out)
  clear OX8 O48 O58 OY8 R48 R8 b89
  go_wp2_with fail
  refine (toIntN b lb cb zb _ (HB.out.below B9.out) hlb).mono ?_
  rintro e w10 ⟨N10, rfl, hn10, hb10, hc10, hr10⟩
  have B10 := hid (B9.out.trans (hb10.mono B9.out.size))
  have OX10 := hid (OX9.out.below hb10)
  have O410 := hid (O49.out.below hb10)
  have O510 := hid (O59.out.below hb10)
  have OY10 := hid (OY9.out.below hb10)
  have R10 := hid hr10
  have R510 := hid (row_of_own O510.out)
  clear hb10 hc10 hr10 OX9 O49 O59 OY9
  go_wp2_with fail
  refine (eqIntS _ _ _ _ _ _ zb zb _ R510.out R10.out).mono ?_
  rintro e w11 ⟨rfl, n11, rfl⟩
  have b1011 : Hid (Below w10.heap.size w10 (w10.drewN n11)) := below_drewN _ _
  generalize w10.drewN n11 = w11 at *
  have B11 := hid (B10.out.trans (b1011.out.mono B10.out.size))
  have OX11 := hid (OX10.out.below b1011.out)
  have O411 := hid (O410.out.below b1011.out)
  have O511 := hid (O510.out.below b1011.out)
  have OY11 := hid (OY10.out.below b1011.out)
  clear OX10 O410 O510 OY10 R510 R10 b1011
  have s3 := B3.out.size
  have s45 : w3.heap.size ≤ w4.heap.size := by have := L4.out; omega
  have l4 := L4.out
  have l5 := L5.out
  have z56 := Z56.out
  go_wp2_with fail
  refine (mark_ints w3.heap.size N4 la la za 1 _ O411.out (by omega) (by omega) hla).mono ?_
  rintro e w12 ⟨rfl, om12, hg12⟩
  have B12 : Hid (Below w.heap.size w w12) := B11.out.grown hg12 B11.out.size (fun k hk => by cases hk; omega)
  have OX12 := hid (own_grown OX11.out hg12 (fun g hg e => by cases e; have := LX.out _ hg; omega))
  have O512 := hid (own_grown O511.out hg12 (fun g hg e => by have h1 : some N5 = some g := hg; injection h1 with h1; injection e with e; omega))
  have OY12 := hid (own_grown OY11.out hg12 (fun g hg e => by cases e; have := GY.out _ hg; omega))
  clear hg12 om12 OX11 O411 O511 OY11
  go_wp2_with fail
  refine (mark_ints w4.heap.size N5 lb lb zb (1 + la) _ O512.out (by omega) (by omega) hlb).mono ?_
  rintro e w13 ⟨rfl, om13, hg13⟩
  have B13 : Hid (Below w.heap.size w w13) := B12.out.grown hg13 B12.out.size (fun k hk => by cases hk; omega)
  have OX13 := hid (own_grown OX12.out hg13 (fun g hg e => by cases e; have := LX.out _ hg; omega))
  have OY13 := hid (own_grown OY12.out hg13 (fun g hg e => by cases e; have := GY.out _ hg; omega))
  clear hg13 om13 OX12 O512 OY12
  have RX13 := hid (row_of_own OX13.out)
  have RY13 := hid (row_of_own OY13.out)
  go_wp2_with fail
  refine (eqIntS _ _ _ _ _ _ L L _ RY13.out RX13.out).mono ?_
  rintro e w14 ⟨rfl, n14, rfl⟩
  have b1314 : Hid (Below w13.heap.size w13 (w13.drewN n14)) := below_drewN _ _
  generalize w13.drewN n14 = w14 at *
  have B14 := hid (B13.out.trans (b1314.out.mono B13.out.size))
  have OX14 := hid (OX13.out.below b1314.out)
  have OY14 := hid (OY13.out.below b1314.out)
  clear OX13 OY13 RX13 RY13 b1314
  go_wp2_with fail
  refine (mark_any w5.heap.size (.slice ay L.length cy) L 1 _ OY14.out (by omega) (by omega) hln).mono ?_
  rintro e w15 ⟨rfl, om15, hg15⟩
  have B15 : Hid (Below w.heap.size w w15) := B14.out.grown hg15 B14.out.size (fun k hk => by have := GY.out _ hk; have := B5.out.size; omega)
  have OX15 := hid (own_grown OX14.out hg15 (fun g hg e => by have := LX.out _ hg; have := GY.out _ e.symm; omega))
  have OM15 := hid om15
  have RM15 := hid (row_of_own om15)
  clear hg15 om15 OX14 OY14
  have hq1 : ((1 : Int) + (L.length : Int) != 1 + (L.length : Int)) = false := by simp
  go_wp2_with fail
  refine (held_ints _ L.length cy 1 _ RM15.out (by omega) (by omega) hln).mono ?_
  rintro e w16 ⟨rfl, rfl⟩
  go_wp2_with fail
  refine (toIntN a la ca za _ (HA.out.below B15.out) hla).mono ?_
  rintro e w17 ⟨N17, rfl, hn17, hb17, hc17, hr17⟩
  have B17 := hid (B15.out.trans (hb17.mono B15.out.size))
  have OX17 := hid (OX15.out.below hb17)
  have RM17 := hid (RM15.out.below hb17)
  have R17 := hid hr17
  clear hb17 hc17 hr17 OX15 RM15
  go_wp2_with fail
  refine (toIntN b lb cb zb _ (HB.out.below B17.out) hlb).mono ?_
  rintro e w18 ⟨N18, rfl, hn18, hb18, hc18, hr18⟩
  have B18 := hid (B17.out.trans (hb18.mono B17.out.size))
  have OX18 := hid (OX17.out.below hb18)
  have RM18 := hid (RM17.out.below hb18)
  have R178 := hid (R17.out.below hb18)
  have R18 := hid hr18
  clear hb18 hc18 hr18 OX17 RM17 R17
  go_wp2_with fail
  refine (resolve_impl _ _ la la lb lb za zb v _ R178.out R18.out).mono ?_
  rintro e w19 ⟨z, rfl, ho19, hb19⟩
  rw [EC.out]
  rw [EL.out] at ho19
  have B19 := hid (B18.out.trans (hb19.mono B18.out.size))
  have RX19 := hid (row_of_own (OX18.out.below hb19))
  have RM19 := hid (RM18.out.below hb19)
  obtain ⟨az, cz, rfl, rz19⟩ := ho19.form
  have RZ19 := hid rz19
  clear ho19 hb19 rz19 OX18 RM18 R178 R18
  go_wp2_with fail
  refine (eqIntS _ _ _ _ _ _ L L _ RZ19.out RX19.out).mono ?_
  rintro e w20 ⟨rfl, n20, rfl⟩
  have b1920 : Hid (Below w19.heap.size w19 (w19.drewN n20)) := below_drewN _ _
  generalize w19.drewN n20 = w20 at *
  have B20 := hid (B19.out.trans (b1920.out.mono B19.out.size))
  have RM20 := hid (RM19.out.below b1920.out)
  clear RZ19 RX19 RM19 b1920
  go_wp2_with fail
  refine (held_ints _ L.length cy 1 _ RM20.out (by omega) (by omega) hln).mono ?_
  rintro e w21 ⟨rfl, rfl⟩
  go_wp2
  go_ret
  exact ⟨rfl, B20.out⟩

theorem own : ownKnob Try.prog.godebug = none := by kernel_rfl
theorem laidOut : laidOutB Try.prog = true := by kernel_rfl

set_option maxRecDepth 100000 in
theorem lifted (os : Os) (started : os.Started) (H : Type) (enc : TypeId × Value → H) :
    ReturnsInHanded {} Try.checked os 6 .any (Rows.fnExactResolveSpec.pre6 enc Try.prog Try.f6 Rows.fnExactResolveRow.domain false) (Rows.fnExactResolveSpec.post enc Try.prog Try.f6 false true false false) := by
  refine returnsInHanded_of_change (C := Try.checked) own started (by kernel_rfl) Try.func6
    (ChangeSpec.witness6 (enc := enc) (C := Try.checked) false ⟨#[], #[.slice none 0 0, .slice none 0 0, .int .i64 0], []⟩ 8 (by kernel_rfl) (by kernel_rfl) (by kernel_rfl) (by kernel_rfl)) ?_
  intro W base args ds gs before hval0 hW hcnd _
  have hval : ∀ (j : Nat) t v, Try.f6.params[j]? = some t → args[j]? = some v → Value.okWide Try.prog W .any base t v := hval0
  have hW' := hW
  obtain ⟨p, q, hA0, hV, rfl, hfz, hnd⟩ := hW
  have hA : DataW.TrodAll enc Try.prog W 0 (fun _ => true) true Try.f6.params.toList args.toList ds p := hA0
  rw [Try.params6] at hA hval
  obtain ⟨v0, vs0, d0, ds0, p0, q0, hargs, rfl, rfl, h0, r0⟩ := trodAll_cons hA
  obtain ⟨v1, vs1, d1, ds1, p1, q1, rfl, rfl, rfl, h1, r1⟩ := trodAll_cons r0
  obtain ⟨v2, vs2, d2, ds2, p2, q2, rfl, rfl, rfl, h2, r2⟩ := trodAll_cons r1
  obtain ⟨rfl, rfl, rfl⟩ := trodAll_nil r2
  obtain rfl : args = #[v0, v1, v2] := by cases args; simp_all
  obtain ⟨rfl, rfl⟩ := trodVars_none hV
  have k0 := h0
  have lt0 : ∀ x ∈ p0, x.block < W.heap.size := by obtain ⟨m, hm⟩ := k0; exact DataW.trod_lt m _ _ _ hm
  have k1 := h1
  have lt1 : ∀ x ∈ p1, x.block < W.heap.size := by obtain ⟨m, hm⟩ := k1; exact DataW.trod_lt m _ _ _ hm
  have k2 := h2
  have lt2 : ∀ x ∈ p2, x.block < W.heap.size := by obtain ⟨m, hm⟩ := k2; exact DataW.trod_lt m _ _ _ hm
  obtain ⟨a, la, ca, rfl⟩ := okWide_slice Try.underlying37 (hval 0 37 v0 rfl rfl)
  obtain ⟨za, hza⟩ : ∃ zs, IntRow W a la zs := by
    obtain ⟨fuel, hf⟩ := h0
    obtain ⟨a', l', c', zs, e, hb⟩ := row_of_trod Try.underlying37 Try.underlying3 (by kernel_rfl) (by simpa [Value.cells] using hf)
    cases e
    exact ⟨zs, hb.1⟩
  obtain ⟨b, lb, cb, rfl⟩ := okWide_slice Try.underlying37 (hval 1 37 v1 rfl rfl)
  obtain ⟨zb, hzb⟩ : ∃ zs, IntRow W b lb zs := by
    obtain ⟨fuel, hf⟩ := h1
    obtain ⟨a', l', c', zs, e, hb⟩ := row_of_trod Try.underlying37 Try.underlying3 (by kernel_rfl) (by simpa [Value.cells] using hf)
    cases e
    exact ⟨zs, hb.1⟩
  obtain ⟨v, rfl⟩ := okWide_int Try.underlying3 (hval 2 3 v2 rfl rfl)
  clear hA0 hval0
  refine (walk a b la ca lb cb za zb v W hza hzb).mono fun e W' ⟨he, bel⟩ => ?_
  subst he
  exact ⟨_, rfl, _, _, _, [], _, [], hW', trodAll_mk1 (shut_bool Try.underlying4 _), (trodAll_cons_mk (Below.trod laidOut (by kernel_rfl) (of_decide_eq_true (by kernel_rfl)) k0 bel lt0) (trodAll_cons_mk (Below.trod laidOut (by kernel_rfl) (of_decide_eq_true (by kernel_rfl)) k1 bel lt1) (trodAll_cons_mk (Below.trod laidOut (by kernel_rfl) (of_decide_eq_true (by kernel_rfl)) k2 bel lt2) trodAll_mk0))), rfl, bel.frame _, fun h => by cases h⟩

theorem over : Rows.fnExactResolveRow.holds Try.pinned (OpenSpec.ofChange Rows.fnExactResolveSpec) :=
  OpenClaim.holds_of_wide 6 Try.f6 rfl rfl rfl rfl rfl rfl rfl ⟨rfl, rfl, rfl, rfl, rfl⟩ rfl rfl rfl rfl rfl (by kernel_rfl) Try.func6 (by kernel_rfl)
    (of_decide_eq_true (by kernel_rfl)) (by unfold Func.isWrapper; first | (rw [if_pos (by decide +kernel)]; kernel_rfl) | (rw [if_neg (by decide +kernel)]; exact ⟨rfl, rfl⟩))
    (fun os started H enc _ => lifted os started H enc)
end Go.Proofs.Ytfjhckjnhnpglaa.fnExactResolve
namespace Go.Proofs.Ytfjhckjnhnpglaa
theorem fnExactResolve_holds : Rows.FnExactResolveSaid := fnExactResolve.over
end Go.Proofs.Ytfjhckjnhnpglaa
