/- For every code the formula drawn out of it, put in order, is what the specification says, has the values that it had, and put in order again is itself; conditions: none. -/
import Derived.Test.YtiiigdcfnnjkcaaNormalMath
import Derived.Test.YtiiigdcfnnjkcaaOwnBools
import Derived.Test.YtiiigdcfnnjkcaaByteArgs
namespace Go.Proofs.Ytiiigdcfnnjkcaa.fnNormal
open Go.ChangeShapes Go.WideShapes Go.ChangeAt Go.RowKit Go.Deep Go.Joins base copy cnf eval own order sorted mark source clauseOf draws clauseOrder sortClauses compactClauses rises normal markRows copiedRows normOf cnfOf normalMath sets ownBools args byteArgs
set_option linter.unusedVariables false

theorem rows_is {B n c : Nat} {w : World} {a : Option Addr} {ps : List (Value × List Int)} {L : List (List Int)} (h : OwnRows B w (.slice a n c) ps) (e : ps.map (·.2) = L) : IntRows w a n L := by
  rw [← e]
  exact rows_of_own h
theorem caps_rows {B n c : Nat} {w : World} {a : Option Addr} {ps : List (Value × List Int)} (h : OwnRows B w (.slice a n c) ps) : NilCap w a n := fun i hi b off a' l' c' e hc ha => by
  rcases h.outer.2 with ⟨e0, _⟩ | ⟨g, cap, cur, e0, _⟩
  · have e1 : n = 0 := by injection e0
    omega
  · have e1 : a = some ⟨g, 0, none⟩ := by injection e0
    subst e1
    have e2 : (⟨g, 0, none⟩ : Addr) = ⟨b, off, none⟩ := by injection e
    have e3 : g = b := by injection e2
    have e4 : 0 = off := by injection e2
    subst e3
    subst e4
    obtain ⟨_, q, _, hq, _, ho⟩ := rows_cell h hi
    rw [Nat.zero_add, hq] at hc
    injection hc with hc
    rcases ho.2 with ⟨e5, _⟩ | ⟨g', c2, cur', e5, _⟩
    · rw [hc] at e5
      injection e5
    · rw [hc] at e5
      have e6 : a' = some ⟨g', 0, none⟩ := by injection e5
      rw [ha] at e6
      cases e6
theorem rows_len {B n c : Nat} {w : World} {a : Option Addr} {ps : List (Value × List Int)} (h : OwnRows B w (.slice a n c) ps) : ps.length = n := by
  obtain ⟨p, c', e⟩ := own_form h
  injection e with _ e _
  exact e.symm
theorem same_len {ps qs : List (Value × List Int)} {L : List (List Int)} (h : ps.map (·.2) = L) (h' : qs.map (·.2) = L) : ps.length = qs.length := by
  have h1 := congrArg List.length h
  have h2 := congrArg List.length h'
  rw [List.length_map] at h1 h2
  omega
theorem bytes_keep {w w1 : World} {a : Option Addr} {len : Nat} (h : Bytes w a len) (hb : Below w.heap.size w w1) : Bytes w1 a len := fun i hi => by
  obtain ⟨bb, off, e, x, hx, hc⟩ := h i hi
  exact ⟨bb, off, e, x, hx, keep hb hc⟩

set_option maxHeartbeats 6400000 in
set_option maxRecDepth 8000 in
theorem walk (a : Option Addr) (len cap : Nat) (w : World) (hby : Bytes w a len) (hmost : len ≤ maxLen) :
    Calls Try.prog 3 #[.slice a len cap] w fun e w' => e = .returned (.bool true) ∧ Below w.heap.size w w' := by
  unfold maxLen at hmost
  have HBy := hid hby
  clear hby
  by_cases h1 : 1048576 < len
  · go_enter Try.func3, Try.ntmps3
    go_wp2
    go_ret
    exact ⟨rfl, Below.refl _ _⟩
  have hla : len ≤ 1048576 := by omega
  have hla' : (len : Int) ≤ 1048576 := by omega
  go_enter Try.func3, Try.ntmps3
  go_wp2_with fail
  refine (cnfOf_spec a len cap _ HBy.out hla).mono ?_
  rintro e w1 ⟨vars, p, n, c, ps, rfl, hv1, hv6, ho1, hcnf, hb1⟩
  obtain ⟨v, hv⟩ := Int.eq_ofNat_of_zero_le (show 0 ≤ vars by omega)
  subst hv
  obtain ⟨Z, hZ⟩ : ∃ Z, ps.map (·.2) = Z := ⟨_, rfl⟩
  rw [hZ] at hcnf
  have HZ := hid hZ
  have HCnf := hid hcnf
  have HO1 := hid ho1
  have HCap := hid (caps_rows ho1)
  have hB1 := hid hb1
  clear ho1 hcnf hb1 hZ
  obtain ⟨M, hM⟩ : ∃ M, M = 2 ^ v := ⟨_, rfl⟩
  have hM64 : M ≤ 64 := by
    rw [hM]
    exact Nat.pow_le_pow_right (n := 2) (by omega) (show v ≤ 6 by omega)
  have hW : wrap64 ((2 : Int) ^ v) = (M : Int) := by
    have hc : ((2 : Int) ^ v) = ((2 ^ v : Nat) : Int) := by simp
    rw [hc, ← hM]
    unfold wrap64
    omega
  clear hM
  go_wp2_with fail
  refine (norm_impl v p n c Z _ ?_ ?_).mono ?_
  · exact (rows_is HO1.out HZ.out).below (by repeat (first | exact Below.refl _ _ | assumption | refine Below.drew ?_ | refine Below.alloc ?_ (by first | exact Nat.le_refl _ | omega | (simp; done) | (simp; omega)) _ | refine Below.setCell ?_ (by first | exact Nat.le_refl _ | omega | (simp; done) | (simp; omega)) _))
  · exact caps_below HCap.out (rows_is HO1.out HZ.out) (by repeat (first | exact Below.refl _ _ | assumption | refine Below.drew ?_ | refine Below.alloc ?_ (by first | exact Nat.le_refl _ | omega | (simp; done) | (simp; omega)) _ | refine Below.setCell ?_ (by first | exact Nat.le_refl _ | omega | (simp; done) | (simp; omega)) _))
  rintro e w2 ⟨R, C, p1, n1, c1, ps1, rfl, ho2, hnorm2, hlone2, hb2⟩
  obtain ⟨L, hL⟩ : ∃ L, ps1.map (·.2) = L := ⟨_, rfl⟩
  rw [hL] at hnorm2
  have HNo := hid hnorm2
  rcases hnorm2 with ⟨h, _⟩ | ⟨_, hR, hC, hpw, hmem⟩
  · rw [HCnf.out] at h
    cases h
  subst hR
  subst hC
  have HL := hid hL
  have HPw := hid hpw
  have HMe := hid hmem
  have HO2 := hid ho2
  have HCap2 := hid (caps_rows ho2)
  have HAg := hid (norm_again HCnf.out hpw hmem)
  have HCnfL := hid (norm_ok HCnf.out hpw hmem)
  have hb12 : Below w1.heap.size w1 w2 := (show Below w1.heap.size w1 _ from (by repeat (first | exact Below.refl _ _ | assumption | refine Below.drew ?_ | refine Below.alloc ?_ (by first | exact Nat.le_refl _ | omega | (simp; done) | (simp; omega)) _ | refine Below.setCell ?_ (by first | exact Nat.le_refl _ | omega | (simp; done) | (simp; omega)) _))).trans (hb2.mono (by simp))
  have f0 : w2.cell? ⟨w1.heap.size, 0, none⟩ = some (.int .i64 v) := keep hb2 (by simp [go_sem])
  have f1 : w2.cell? ⟨w1.heap.size, 1, none⟩ = some (.slice p n c) := keep hb2 (by simp [go_sem])
  have z2 : w1.heap.size < w2.heap.size := by have := hb2.size; simp at this; omega
  have HO12 := hid (OwnRows.below HO1.out hb12)
  have hB2 := hid (hB1.out.trans (hb12.mono hB1.out.size))
  clear ho2 hlone2 hb2 hb12 hL hpw hmem
  go_wp2_with fail
  refine (norm_spec v p n c Z _ ?_).mono ?_
  · exact (rows_is HO12.out HZ.out).below (by repeat (first | exact Below.refl _ _ | assumption | refine Below.drew ?_ | refine Below.alloc ?_ (by first | exact Nat.le_refl _ | omega | (simp; done) | (simp; omega)) _ | refine Below.setCell ?_ (by first | exact Nat.le_refl _ | omega | (simp; done) | (simp; omega)) _))
  rintro e w3 ⟨R', C', p3, n3, c3, ps3, rfl, ho3, hnorm3, hb3⟩
  obtain ⟨hR, hC, hL3⟩ := HNo.out.uniq hnorm3
  subst hR
  subst hC
  have HO3 := hid ho3
  have HL3 := hid hL3
  have hb23 : Below w2.heap.size w2 w3 := (show Below w2.heap.size w2 _ from (by repeat (first | exact Below.refl _ _ | assumption | refine Below.drew ?_ | refine Below.alloc ?_ (by first | exact Nat.le_refl _ | omega | (simp; done) | (simp; omega)) _ | refine Below.setCell ?_ (by first | exact Nat.le_refl _ | omega | (simp; done) | (simp; omega)) _))).trans (hb3.mono (by simp))
  have g0 : w3.cell? ⟨w2.heap.size, 0, none⟩ = some (.int .i64 v) := keep hb3 (by simp [go_sem])
  have g1 : w3.cell? ⟨w2.heap.size, 1, none⟩ = some (.slice p1 n1 c1) := keep hb3 (by simp [go_sem])
  replace f0 := keep hb23 f0
  replace f1 := keep hb23 f1
  have z3 : w2.heap.size < w3.heap.size := by have := hb3.size; simp at this; omega
  have z13 : w1.heap.size < w3.heap.size := by omega
  have HO13 := hid (OwnRows.below HO12.out hb23)
  have HO23 := hid (OwnRows.below HO2.out hb23)
  have HCap23 := hid (caps_below HCap2.out (rows_is HO2.out HL.out) hb23)
  have hB3 := hid (hB2.out.trans (hb23.mono hB2.out.size))
  clear ho3 hnorm3 hb3 hb23 hL3 HO12 HO1
  go_wp2_with fail
  refine (norm_impl v p1 n1 c1 L _ ?_ ?_).mono ?_
  · exact (rows_is HO23.out HL.out).below (by repeat (first | exact Below.refl _ _ | assumption | refine Below.drew ?_ | refine Below.alloc ?_ (by first | exact Nat.le_refl _ | omega | (simp; done) | (simp; omega)) _ | refine Below.setCell ?_ (by first | exact Nat.le_refl _ | omega | (simp; done) | (simp; omega)) _))
  · exact caps_below HCap23.out (rows_is HO23.out HL.out) (by repeat (first | exact Below.refl _ _ | assumption | refine Below.drew ?_ | refine Below.alloc ?_ (by first | exact Nat.le_refl _ | omega | (simp; done) | (simp; omega)) _ | refine Below.setCell ?_ (by first | exact Nat.le_refl _ | omega | (simp; done) | (simp; omega)) _))
  rintro e w4 ⟨R4, C4, p4, n4, c4, ps4, rfl, ho4, hnorm4, hlone4, hb4⟩
  obtain ⟨hR, hC, hL4⟩ := HAg.out.uniq hnorm4
  subst hR
  subst hC
  have HO4 := hid ho4
  have HL4 := hid hL4
  have hb34 : Below w3.heap.size w3 w4 := (show Below w3.heap.size w3 _ from (by repeat (first | exact Below.refl _ _ | assumption | refine Below.drew ?_ | refine Below.alloc ?_ (by first | exact Nat.le_refl _ | omega | (simp; done) | (simp; omega)) _ | refine Below.setCell ?_ (by first | exact Nat.le_refl _ | omega | (simp; done) | (simp; omega)) _))).trans (hb4.mono (by simp))
  have y0 : w4.cell? ⟨w3.heap.size, 0, none⟩ = some (.int .i64 v) := keep hb4 (by simp [go_sem])
  have y1 : w4.cell? ⟨w3.heap.size, 1, none⟩ = some (.slice p3 n3 c3) := keep hb4 (by simp [go_sem])
  replace f0 := keep hb34 f0
  replace f1 := keep hb34 f1
  replace g0 := keep hb34 g0
  replace g1 := keep hb34 g1
  have z4 : w3.heap.size < w4.heap.size := by have := hb4.size; simp at this; omega
  have z14 : w1.heap.size < w4.heap.size := by omega
  have z24 : w2.heap.size < w4.heap.size := by omega
  have HO14 := hid (OwnRows.below HO13.out hb34)
  have HO24 := hid (OwnRows.below HO23.out hb34)
  have HO34 := hid (OwnRows.below HO3.out hb34)
  have hB4 := hid (hB3.out.trans (hb34.mono hB3.out.size))
  have hn13 : n1 = n3 := by
    have e1 := rows_len HO24.out
    have e3 := rows_len HO34.out
    have e2 := same_len HL.out HL3.out
    omega
  have hn14 : n1 = n4 := by
    have e1 := rows_len HO24.out
    have e3 := rows_len HO4.out
    have e2 := same_len HL.out HL4.out
    omega
  subst hn13
  subst hn14
  clear ho4 hnorm4 hlone4 hb4 hb34 hL4 HO13 HO23 HO3
  go_wp2_with fail
  refine (same_cnf v p1 p3 n1 c1 c3 L _ ?_ ?_).mono ?_
  · exact (rows_is HO24.out HL.out).below (by repeat (first | exact Below.refl _ _ | assumption | refine Below.drew ?_ | refine Below.alloc ?_ (by first | exact Nat.le_refl _ | omega | (simp; done) | (simp; omega)) _ | refine Below.setCell ?_ (by first | exact Nat.le_refl _ | omega | (simp; done) | (simp; omega)) _))
  · exact (rows_is HO34.out HL3.out).below (by repeat (first | exact Below.refl _ _ | assumption | refine Below.drew ?_ | refine Below.alloc ?_ (by first | exact Nat.le_refl _ | omega | (simp; done) | (simp; omega)) _ | refine Below.setCell ?_ (by first | exact Nat.le_refl _ | omega | (simp; done) | (simp; omega)) _))
  rintro e w5 ⟨rfl, hb5⟩
  have hb45 : Below w4.heap.size w4 w5 := (show Below w4.heap.size w4 _ from (by repeat (first | exact Below.refl _ _ | assumption | refine Below.drew ?_ | refine Below.alloc ?_ (by first | exact Nat.le_refl _ | omega | (simp; done) | (simp; omega)) _ | refine Below.setCell ?_ (by first | exact Nat.le_refl _ | omega | (simp; done) | (simp; omega)) _))).trans (hb5.mono (by simp))
  have x0 : w5.cell? ⟨w4.heap.size, 0, none⟩ = some (.int .i64 v) := keep hb5 (by simp [go_sem])
  have x1 : w5.cell? ⟨w4.heap.size, 1, none⟩ = some (.slice p4 n1 c4) := keep hb5 (by simp [go_sem])
  replace f0 := keep hb45 f0
  replace f1 := keep hb45 f1
  replace g0 := keep hb45 g0
  replace g1 := keep hb45 g1
  have HO15 := hid (OwnRows.below HO14.out hb45)
  have HO25 := hid (OwnRows.below HO24.out hb45)
  have HO45 := hid (OwnRows.below HO4.out hb45)
  have hB5 := hid (hB4.out.trans (hb45.mono hB4.out.size))
  clear hb5 hb45 HO14 HO24 HO34 HO4 y0 y1
  go_wp2_with fail
  refine (same_cnf v p4 p1 n1 c4 c1 L _ (rows_is HO45.out HL4.out) (rows_is HO25.out HL.out)).mono ?_
  rintro e w6 ⟨rfl, hb6⟩
  replace f0 := keep hb6 f0
  replace f1 := keep hb6 f1
  replace g0 := keep hb6 g0
  replace g1 := keep hb6 g1
  have HO16 := hid (OwnRows.below HO15.out hb6)
  have HO26 := hid (OwnRows.below HO25.out hb6)
  have hB6 := hid (hB5.out.trans (hb6.mono hB5.out.size))
  clear hb6 HO15 HO25 HO45 x0 x1
  go_wp2
  go_loopw [10] (fun i wr => ∃ m : Nat, m ≤ M ∧ i = .int .i64 m ∧ Below w6.heap.size w6 wr) (fun i _ => M - (intOf i).toNat)
  case atStart => exact ⟨0, Nat.zero_le _, rfl, Below.refl _ _⟩
  case round =>
    obtain ⟨m, hm, rfl, hbel⟩ := hrel
    have HW := hid hbel
    have k0 := keep hbel f0
    have k1 := keep hbel f1
    have l0 := keep hbel g0
    have l1 := keep hbel g1
    have HOf := hid (OwnRows.below HO16.out hbel)
    have HOg := hid (OwnRows.below HO26.out hbel)
    clear hbel
    by_cases hlt : m < M
    · have HVL : Hid ((valsOf m v).length = v) := by show _ = _; simp [valsOf]
      have E1 := hid (code_ok (vars := v) (zss := Z) (vs := valsOf m v) (by rw [HVL.out]; omega) HCnf.out (by rw [HVL.out]))
      have E2 := hid (code_ok (vars := v) (zss := L) (vs := valsOf m v) (by rw [HVL.out]; omega) HCnfL.out (by rw [HVL.out]))
      have HEq := hid (norm_true (valsOf m v) HCnf.out HMe.out)
      go_wp2_with fail
      refine (values_laws m v _ (by omega) (by omega)).mono ?_
      rintro e u1 ⟨bv, rfl, ob1, hb1⟩
      obtain ⟨av, cv, rfl, rv⟩ := ob1.form
      rw [HVL.out] at rv ⊢
      have RV := hid rv
      have k0 := keep hb1 k0
      have k1 := keep hb1 k1
      have l0 := keep hb1 l0
      have l1 := keep hb1 l1
      have HOf1 := hid (OwnRows.below HOf.out hb1)
      have HOg1 := hid (OwnRows.below HOg.out hb1)
      have H1 := hid hb1
      clear ob1 rv hb1
      go_wp2_with fail
      refine (evalCnf_impl v p av n c v cv Z (valsOf m v) _ (rows_is HOf1.out HZ.out) RV.out).mono ?_
      rintro e u2 ⟨rfl, hb2⟩
      rw [E1.out.1, E1.out.2]
      have RV2 := hid (RV.out.below hb2)
      have l0 := keep hb2 l0
      have l1 := keep hb2 l1
      have HOg2 := hid (OwnRows.below HOg1.out hb2)
      have H2 := hid (H1.out.trans (hb2.mono H1.out.size))
      clear hb2
      go_wp2_with fail
      refine (evalCnf_impl v p1 av n1 c1 v cv L (valsOf m v) _ (rows_is HOg2.out HL.out) RV2.out).mono ?_
      rintro e u3 ⟨rfl, hb3⟩
      rw [E2.out.1, E2.out.2, HEq.out]
      have H3 := hid (H2.out.trans (hb3.mono H2.out.size))
      have HF := hid (HW.out.trans (H3.out.mono HW.out.size))
      clear hb3
      cases cnfT (valsOf m v) Z
      · go_wp2
        go_roundw
        case rel => exact ⟨m + 1, by omega, by go_num, HF.out⟩
        case measure => simp [intOf]; omega
      · go_wp2
        go_roundw
        case rel => exact ⟨m + 1, by omega, by go_num, HF.out⟩
        case measure => simp [intOf]; omega
    · have e : m = M := by omega
      subst e
      go_wp2
      go_ret
      exact ⟨rfl, hB6.out.trans (HW.out.mono hB6.out.size)⟩

theorem own : ownKnob Try.prog.godebug = none := by kernel_rfl
theorem laidOut : laidOutB Try.prog = true := by kernel_rfl

set_option maxRecDepth 100000 in
theorem lifted (os : Os) (started : os.Started) (H : Type) (enc : TypeId × Value → H) :
    ReturnsInHanded {} Try.checked os 3 .any (Rows.fnNormalSpec.pre6 enc Try.prog Try.f3 Rows.fnNormalRow.domain false) (Rows.fnNormalSpec.post enc Try.prog Try.f3 false true false false) := by
  refine returnsInHanded_of_change (C := Try.checked) own started (by kernel_rfl) Try.func3
    (ChangeSpec.witness6 (enc := enc) (C := Try.checked) false ⟨#[], #[.slice none 0 0], []⟩ 8 (by kernel_rfl) (by kernel_rfl) (by kernel_rfl) (by kernel_rfl)) ?_
  intro W base args ds gs before hval0 hW hcnd _
  have hval : ∀ (j : Nat) t v, Try.f3.params[j]? = some t → args[j]? = some v → Value.okWide Try.prog W .any base t v := hval0
  have hW' := hW
  obtain ⟨p, q, hA0, hV, rfl, hfz, hnd⟩ := hW
  have hA : DataW.TrodAll enc Try.prog W 0 (fun _ => true) true Try.f3.params.toList args.toList ds p := hA0
  rw [Try.params3] at hA hval
  obtain ⟨v0, vs0, d0, ds0, p0, q0, hargs, rfl, rfl, h0, r0⟩ := trodAll_cons hA
  obtain ⟨rfl, rfl, rfl⟩ := trodAll_nil r0
  obtain rfl : args = #[v0] := by cases args; simp_all
  obtain ⟨rfl, rfl⟩ := trodVars_none hV
  have k0 := h0
  have lt0 : ∀ x ∈ p0, x.block < W.heap.size := by obtain ⟨m, hm⟩ := k0; exact DataW.trod_lt m _ _ _ hm
  obtain ⟨a, la, ca, rfl⟩ := okWide_slice Try.underlying22 (hval 0 22 v0 rfl rfl)
  have hba : source.Bytes W a la ∧ la ≤ maxLen := by
    obtain ⟨fuel, hf⟩ := h0
    obtain ⟨a', l', c', e, hb⟩ := bytes_of_trod Try.underlying22 Try.underlying5 (by kernel_rfl) (by simpa [Value.cells] using hf)
    cases e
    exact hb
  clear hA0 hval0
  refine (walk a la ca W hba.1 hba.2).mono fun e W' ⟨he, bel⟩ => ?_
  subst he
  exact ⟨_, rfl, _, _, _, [], _, [], hW', trodAll_mk1 (shut_bool Try.underlying4 _), (trodAll_cons_mk (Below.trod laidOut (by kernel_rfl) (of_decide_eq_true (by kernel_rfl)) k0 bel lt0) trodAll_mk0), rfl, bel.frame _, fun h => by cases h⟩

theorem over : Rows.fnNormalRow.holds Try.pinned (OpenSpec.ofChange Rows.fnNormalSpec) :=
  OpenClaim.holds_of_wide 3 Try.f3 rfl rfl rfl rfl rfl rfl rfl ⟨rfl, rfl, rfl, rfl, rfl⟩ rfl rfl rfl rfl rfl (by kernel_rfl) Try.func3 (by kernel_rfl)
    (of_decide_eq_true (by kernel_rfl)) (by unfold Func.isWrapper; first | (rw [if_pos (by decide +kernel)]; kernel_rfl) | (rw [if_neg (by decide +kernel)]; exact ⟨rfl, rfl⟩))
    (fun os started H enc _ => lifted os started H enc)
end Go.Proofs.Ytiiigdcfnnjkcaa.fnNormal
namespace Go.Proofs.Ytiiigdcfnnjkcaa
theorem fnNormal_holds : Rows.FnNormalSaid := fnNormal.over
end Go.Proofs.Ytiiigdcfnnjkcaa
