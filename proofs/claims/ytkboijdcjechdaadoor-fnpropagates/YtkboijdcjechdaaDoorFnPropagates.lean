/- For all codes: what Propagate tells of the formula and the clause drawn out of them is what the specification tells, and is true in each model in which the literals are; the library's table is as its initialiser lays it, tied to the program's text; conditions: none. -/
import Derived.Test.YtkboijdcjechdaaDoorSolSpec
import Derived.Test.YtkboijdcjechdaaDoorPropsMath
import Derived.Test.YtkboijdcjechdaaDoorAllLaw
import Derived.Test.YtkboijdcjechdaaDoorClauseOfI
import Derived.Test.YtkboijdcjechdaaDoorOwnBools
import Derived.Test.YtkboijdcjechdaaDoorByteArgsI
import Derived.Test.YtkboijdcjechdaaDoorCards
import Derived.Test.YtkboijdcjechdaaDoorTie
import Derived.OpenVars
import Derived.SevenTiedAt
import Derived.Deep.DeepHandedRow
import Derived.Lib.LaidTab
import Derived.LaidSub
namespace Go.Proofs.YtkboijdcjechdaaDoor.fnPropagates
open Go.ChangeShapes Go.WideShapes Go.ChangeAt Go.RowKit Go.Deep Go.Joins base copy cnf eval sets ownBools args byteArgs rowsOwn source cnfDraw clauseOfI allLaw solOps solFace solSpec propsMath
set_option linter.unusedVariables false
set_option linter.unusedSimpArgs false

theorem rows_is {B n c : Nat} {w : World} {a : Option Addr} {ps : List (Value × List Int)} {L : List (List Int)} (h : OwnRows B w (.slice a n c) ps) (e : ps.map (·.2) = L) : IntRows w a n L := by
  rw [← e]
  exact rows_of_own h
theorem bytes_keep {w w1 : World} {a : Option Addr} {len : Nat} (h : Bytes w a len) (hb : Below w.heap.size w w1) : Bytes w1 a len := fun i hi => by
  obtain ⟨bb, off, e, x, hx, hc⟩ := h i hi
  exact ⟨bb, off, e, x, hx, keep hb hc⟩
set_option maxHeartbeats 6400000 in
set_option maxRecDepth 8000 in
theorem walk (a0 a1 : Option Addr) (len0 len1 cap0 cap1 : Nat) (w : World) (hby0 : Bytes w a0 len0) (hby1 : Bytes w a1 len1) (hm0 : len0 ≤ maxLen) (hm1 : len1 ≤ maxLen) (ht : Tab w) :
    Calls Tryd.prog 3 #[.slice a0 len0 cap0, .slice a1 len1 cap1] w fun e w' => e = .returned (.bool true) ∧ Below w.heap.size w w' := by
  unfold maxLen at hm0 hm1
  have HBy0 := hid hby0
  have HBy1 := hid hby1
  have HT := hid ht
  clear hby0 hby1 ht
  by_cases h0 : 1048576 < len0
  · go_enter Tryd.func3, Tryd.ntmps3
    go_wp2
    go_ret
    exact ⟨rfl, (by repeat (first | exact Below.refl _ _ | assumption | refine Below.drew ?_ | refine Below.alloc ?_ (by first | exact Nat.le_refl _ | omega | (simp; done) | (simp; omega)) _ | refine Below.setCell ?_ (by first | exact Nat.le_refl _ | omega | (simp; done) | (simp; omega)) _))⟩
  by_cases h1 : 1048576 < len1
  · go_enter Tryd.func3, Tryd.ntmps3
    go_wp2
    go_ret
    exact ⟨rfl, (by repeat (first | exact Below.refl _ _ | assumption | refine Below.drew ?_ | refine Below.alloc ?_ (by first | exact Nat.le_refl _ | omega | (simp; done) | (simp; omega)) _ | refine Below.setCell ?_ (by first | exact Nat.le_refl _ | omega | (simp; done) | (simp; omega)) _))⟩
  have hl0 : len0 ≤ 1048576 := by omega
  have hl1 : len1 ≤ 1048576 := by omega
  have hl0' : (len0 : Int) ≤ 1048576 := by omega
  have hl1' : (len1 : Int) ≤ 1048576 := by omega
  go_enter Tryd.func3, Tryd.ntmps3
  go_wp2_with fail
  refine (cnfOf_spec a0 len0 cap0 _ HBy0.out hl0).mono ?_
  rintro e w1 ⟨vars, p, n, c, ps, rfl, hv1, hv6, ho1, hcnf, hln, hb1⟩
  obtain ⟨v, hv⟩ := Int.eq_ofNat_of_zero_le (show 0 ≤ vars by omega)
  subst hv
  obtain ⟨Z, hZ⟩ : ∃ Z, ps.map (·.2) = Z := ⟨_, rfl⟩
  rw [hZ] at hcnf
  have HZ := hid hZ
  have HCnf := hid hcnf
  have HO1 := hid ho1
  have hB1 := hid hb1
  clear ho1 hcnf hb1 hZ hln
  obtain ⟨M, hM⟩ : ∃ M, M = 2 ^ v := ⟨_, rfl⟩
  have hM64 : M ≤ 64 := by
    rw [hM]
    exact Nat.pow_le_pow_right (n := 2) (by omega) (show v ≤ 6 by omega)
  have hW : wrap64 ((2 : Int) ^ v) = (M : Int) := by
    have hc : ((2 : Int) ^ v) = ((2 ^ v : Nat) : Int) := by simp
    rw [hc, ← hM]
    unfold wrap64
    omega
  clear hM
  go_wp2_with fail
  refine (clauseOf_spec a1 len1 cap1 v _ (bytes_keep HBy1.out (hB1.out.trans ((show Below w1.heap.size w1 _ from (by repeat (first | exact Below.refl _ _ | assumption | refine Below.drew ?_ | refine Below.alloc ?_ (by first | exact Nat.le_refl _ | omega | (simp; done) | (simp; omega)) _ | refine Below.setCell ?_ (by first | exact Nat.le_refl _ | omega | (simp; done) | (simp; omega)) _))).mono hB1.out.size))) hl1 (by omega) (by omega)).mono ?_
  rintro e w2 ⟨x, zs, rfl, ho2, hz2, hlit, hb2⟩
  obtain ⟨b, bc, rfl, hrb⟩ := ho2.form
  have f0 : w2.cell? ⟨w1.heap.size, 0, none⟩ = some (.int .i64 v) := keep hb2 (by simp [go_sem])
  have f1 : w2.cell? ⟨w1.heap.size, 1, none⟩ = some (.slice p n c) := keep hb2 (by simp [go_sem])
  have hb12 : Below w1.heap.size w1 w2 := (show Below w1.heap.size w1 _ from (by repeat (first | exact Below.refl _ _ | assumption | refine Below.drew ?_ | refine Below.alloc ?_ (by first | exact Nat.le_refl _ | omega | (simp; done) | (simp; omega)) _ | refine Below.setCell ?_ (by first | exact Nat.le_refl _ | omega | (simp; done) | (simp; omega)) _))).trans (hb2.mono (by simp))
  have z2 : w1.heap.size < w2.heap.size := by have := hb2.size; simp at this; omega
  have HO2 := hid (OwnRows.below HO1.out hb12)
  have HRb := hid hrb
  have hB2 := hid (hB1.out.trans (hb12.mono hB1.out.size))
  have HLz := hid hz2
  have HLi := hid hlit
  have HPr := hid (pr_says (n := v) (by omega) HCnf.out (zs := zs) (by omega) hlit)
  obtain ⟨R, hR⟩ : ∃ R, prA v Z zs = R := ⟨_, rfl⟩
  have HI := hid (fun (W : World) (hr : IntRows W p n Z) (hb : IntRow W b zs.length zs) (ht : Tab W) => propagate_face v p n c Z b zs.length bc zs W hr hb ht)
  have HS := hid (fun (W : World) (hr : IntRows W p n Z) (hb : IntRow W b zs.length zs) => propagate_specf v p n c Z b zs.length bc zs W hr hb)
  rw [hR] at HPr HI HS
  obtain ⟨L, bad, code⟩ := R
  dsimp only at HPr HI HS
  have HT2 := hid (tab_below HT.out (hB2.out.mono (Nat.le_refl _)))
  clear ho2 hz2 hlit hb2 hb12 hrb hR HO1
  obtain ⟨zl, hzl⟩ : ∃ zl, zs.length = zl := ⟨_, rfl⟩
  rw [hzl] at HRb HI HS ⊢
  have HZl : Hid (zl ≤ 3 ∧ zs.length = zl) := hid ⟨by have := HLz.out; omega, hzl⟩
  clear hzl
  go_wp2_with fail
  refine (HI.out _ ((rows_is HO2.out HZ.out).below (by repeat (first | exact Below.refl _ _ | assumption | refine Below.drew ?_ | refine Below.alloc ?_ (by first | exact Nat.le_refl _ | omega | (simp; done) | (simp; omega)) _ | refine Below.setCell ?_ (by first | exact Nat.le_refl _ | omega | (simp; done) | (simp; omega)) _))) (HRb.out.below (by repeat (first | exact Below.refl _ _ | assumption | refine Below.drew ?_ | refine Below.alloc ?_ (by first | exact Nat.le_refl _ | omega | (simp; done) | (simp; omega)) _ | refine Below.setCell ?_ (by first | exact Nat.le_refl _ | omega | (simp; done) | (simp; omega)) _))) (tab_below HT2.out (by repeat (first | exact Below.refl _ _ | assumption | refine Below.drew ?_ | refine Below.alloc ?_ (by first | exact Nat.le_refl _ | omega | (simp; done) | (simp; omega)) _ | refine Below.setCell ?_ (by first | exact Nat.le_refl _ | omega | (simp; done) | (simp; omega)) _)))).mono ?_
  rintro e w3 ⟨v3, rfl, ho3, hb3⟩
  obtain ⟨g3, c3, rfl, hr3⟩ := ho3.form
  have hb23 : Below w2.heap.size w2 w3 := (show Below w2.heap.size w2 _ from (by repeat (first | exact Below.refl _ _ | assumption | refine Below.drew ?_ | refine Below.alloc ?_ (by first | exact Nat.le_refl _ | omega | (simp; done) | (simp; omega)) _ | refine Below.setCell ?_ (by first | exact Nat.le_refl _ | omega | (simp; done) | (simp; omega)) _))).trans (hb3.mono (by simp))
  replace f0 := keep hb23 f0
  replace f1 := keep hb23 f1
  have z3 : w2.heap.size ≤ w3.heap.size := hb23.size
  have HO3 := hid (OwnRows.below HO2.out hb23)
  have HRb3 := hid (HRb.out.below hb23)
  have HG3 := hid hr3
  have hB3 := hid (hB2.out.trans (hb23.mono hB2.out.size))
  clear ho3 hb3 hb23 hr3 HO2 HRb HT2
  go_wp2_with fail
  refine (HS.out _ ((rows_is HO3.out HZ.out).below (by repeat (first | exact Below.refl _ _ | assumption | refine Below.drew ?_ | refine Below.alloc ?_ (by first | exact Nat.le_refl _ | omega | (simp; done) | (simp; omega)) _ | refine Below.setCell ?_ (by first | exact Nat.le_refl _ | omega | (simp; done) | (simp; omega)) _))) (HRb3.out.below (by repeat (first | exact Below.refl _ _ | assumption | refine Below.drew ?_ | refine Below.alloc ?_ (by first | exact Nat.le_refl _ | omega | (simp; done) | (simp; omega)) _ | refine Below.setCell ?_ (by first | exact Nat.le_refl _ | omega | (simp; done) | (simp; omega)) _)))).mono ?_
  rintro e w4 ⟨v4, rfl, ho4, hb4⟩
  obtain ⟨g4, c4, rfl, hr4⟩ := ho4.form
  have hb34 : Below w3.heap.size w3 w4 := (show Below w3.heap.size w3 _ from (by repeat (first | exact Below.refl _ _ | assumption | refine Below.drew ?_ | refine Below.alloc ?_ (by first | exact Nat.le_refl _ | omega | (simp; done) | (simp; omega)) _ | refine Below.setCell ?_ (by first | exact Nat.le_refl _ | omega | (simp; done) | (simp; omega)) _))).trans (hb4.mono (by simp))
  replace f0 := keep hb34 f0
  replace f1 := keep hb34 f1
  have z4 : w3.heap.size ≤ w4.heap.size := hb34.size
  have HO4 := hid (OwnRows.below HO3.out hb34)
  have HRb4 := hid (HRb3.out.below hb34)
  have HG4 := hid (HG3.out.below hb34)
  have HH4 := hid hr4
  have hB4 := hid (hB3.out.trans (hb34.mono hB3.out.size))
  clear ho4 hb4 hb34 hr4 HO3 HRb3 HG3 HI HS
  have hq1 : (code != code) = false := by simp
  have hq2 : (bad != bad) = false := by simp
  have hdL : decide (L = L) = true := decide_eq_true rfl
  obtain ⟨ll, hll⟩ : ∃ ll, L.length = ll := ⟨_, rfl⟩
  rw [hll] at HG4 HH4 ⊢
  have HLL := hid hll
  clear hll
  go_wp2_with fail
  refine (same_ints g3 g4 ll ll c3 c4 L L _ HG4.out HH4.out).mono ?_
  rintro e w5 ⟨rfl, q5, rfl⟩
  have hb45 : Below w4.heap.size w4 (w4.drewN q5) := below_drewN _ _
  generalize w4.drewN q5 = w5 at *
  replace f0 := keep hb45 f0
  replace f1 := keep hb45 f1
  have z5 : w4.heap.size ≤ w5.heap.size := hb45.size
  have HO5 := hid (OwnRows.below HO4.out hb45)
  have HRb5 := hid (HRb4.out.below hb45)
  have HG5 := hid (HG4.out.below hb45)
  have hB5 := hid (hB4.out.trans (hb45.mono hB4.out.size))
  clear hb45 HO4 HRb4 HG4 HH4
  have hPc := HPr.out.1
  by_cases hc0 : code = 0
  · subst hc0
    have HPm := hid (HPr.out.2 rfl)
    clear hPc hq1 HPr
    go_wp2
    go_loopw [13] (fun i wr => ∃ m : Nat, m ≤ M ∧ i = .int .i64 m ∧ Below w5.heap.size w5 wr) (fun i _ => M - (intOf i).toNat)
    case atStart => exact ⟨0, Nat.zero_le _, rfl, Below.refl _ _⟩
    case round =>
      obtain ⟨m, hm, rfl, hbel⟩ := hrel
      have HW := hid hbel
      have k0 := keep hbel f0
      have k1 := keep hbel f1
      have HOf := hid (OwnRows.below HO5.out hbel)
      have HRf := hid (HRb5.out.below hbel)
      have HGf := hid (HG5.out.below hbel)
      clear hbel
      by_cases hlt : m < M
      · have HVL : Hid ((valsOf m v).length = v) := by show _ = _; simp [valsOf]
        have E1 := hid (code_ok (vars := v) (zss := Z) (vs := valsOf m v) (by rw [HVL.out]; omega) HCnf.out (by rw [HVL.out]))
        have HPq := hid (HPm.out (valsOf m v))
        go_wp2_with fail
        refine (values_laws m v _ (by omega) (by omega)).mono ?_
        rintro e u1 ⟨bv, rfl, ob1, hb1⟩
        obtain ⟨av, cv, rfl, rv⟩ := ob1.form
        rw [HVL.out] at rv ⊢
        have RV := hid rv
        have k0 := keep hb1 k0
        have k1 := keep hb1 k1
        have HOf1 := hid (OwnRows.below HOf.out hb1)
        have HRf1 := hid (HRf.out.below hb1)
        have HGf1 := hid (HGf.out.below hb1)
        have H1 := hid hb1
        clear ob1 rv hb1
        go_wp2_with fail
        refine (evalCnf_spec v p av n c v cv Z (valsOf m v) _ ((rows_is HOf1.out HZ.out).below (by repeat (first | exact Below.refl _ _ | assumption | refine Below.drew ?_ | refine Below.alloc ?_ (by first | exact Nat.le_refl _ | omega | (simp; done) | (simp; omega)) _ | refine Below.setCell ?_ (by first | exact Nat.le_refl _ | omega | (simp; done) | (simp; omega)) _))) (RV.out.below (by repeat (first | exact Below.refl _ _ | assumption | refine Below.drew ?_ | refine Below.alloc ?_ (by first | exact Nat.le_refl _ | omega | (simp; done) | (simp; omega)) _ | refine Below.setCell ?_ (by first | exact Nat.le_refl _ | omega | (simp; done) | (simp; omega)) _)))).mono ?_
        rintro e u2 ⟨rfl, hb2⟩
        rw [E1.out.1, E1.out.2]
        have hb12 : Below u1.heap.size u1 u2 := (show Below u1.heap.size u1 _ from (by repeat (first | exact Below.refl _ _ | assumption | refine Below.drew ?_ | refine Below.alloc ?_ (by first | exact Nat.le_refl _ | omega | (simp; done) | (simp; omega)) _ | refine Below.setCell ?_ (by first | exact Nat.le_refl _ | omega | (simp; done) | (simp; omega)) _))).trans (hb2.mono (by simp))
        have RV2 := hid (RV.out.below hb12)
        have HRf2 := hid (HRf1.out.below hb12)
        have HGf2 := hid (HGf1.out.below hb12)
        have H2 := hid (H1.out.trans (hb12.mono H1.out.size))
        have H2w := hid (HW.out.trans (H2.out.mono HW.out.size))
        clear hb2 hb12 k0 k1
        cases hct : cnfT (valsOf m v) Z with
        | false =>
          go_wp2
          go_roundw
          case rel => exact ⟨m + 1, by omega, by go_num, H2w.out⟩
          case measure => simp [intOf]; omega
        | true =>
          go_wp2_with fail
          refine (all_laws b av zl bc v cv zs (valsOf m v) _ HRf2.out RV2.out (fun i hi => HLi.out _ (by
            have hi' : i < zs.length := by rw [HZl.out.2]; exact hi
            rw [List.getElem?_eq_getElem hi']; exact List.getElem_mem hi')) (by omega)).mono ?_
          rintro e u3 ⟨rfl, q3, rfl⟩
          have H3 := hid (H2w.out.trans ((below_drewN u2 q3).mono H2w.out.size))
          have RV3 := hid (RV2.out.below (below_drewN u2 q3))
          have HGf3 := hid (HGf2.out.below (below_drewN u2 q3))
          generalize u2.drewN q3 = u3 at *
          cases hal : zs.all (litT (valsOf m v)) with
          | false =>
            go_wp2
            go_roundw
            case rel => exact ⟨m + 1, by omega, by go_num, H3.out⟩
            case measure => simp [intOf]; omega
          | true =>
            obtain ⟨hb9, hlo⟩ := HPq.out hct hal
            have HLo := hid hlo
            have hbn : ¬ (0 ≤ bad) := by omega
            have HAll : Hid (L.all (litT (valsOf m v)) = true) := hid (List.all_eq_true.2 fun z hz => (HLo.out z hz).2)
            clear hlo hct hal hb9
            go_wp2_with fail
            refine (all_laws g3 av ll c3 v cv L (valsOf m v) _ HGf3.out RV3.out (fun i hi => (HLo.out _ (by
              have hi' : i < L.length := by rw [HLL.out]; exact hi
              rw [List.getElem?_eq_getElem hi']; exact List.getElem_mem hi')).1) (by omega)).mono ?_
            rintro e u4 ⟨rfl, q4, rfl⟩
            have H4 := hid (H3.out.trans ((below_drewN u3 q4).mono H3.out.size))
            generalize u3.drewN q4 = u4 at *
            rw [HAll.out]
            go_wp2
            go_roundw
            case rel => exact ⟨m + 1, by omega, by go_num, H4.out⟩
            case measure => simp [intOf]; omega
      · have e : m = M := by omega
        subst e
        go_wp2
        go_ret
        exact ⟨rfl, hB5.out.trans (HW.out.mono hB5.out.size)⟩
  · have hc8 : code = 8 := by omega
    subst hc8
    clear hPc
    go_wp2
    go_ret
    exact ⟨rfl, hB5.out⟩
theorem own : ownKnob Tryd.prog.godebug = none := by kernel_rfl
theorem laidOut : laidOutB Tryd.prog = true := by kernel_rfl

/- The library's tables as their initialisers lay them. -/
def b64Ints : List Int := [0, 1, 56, 2, 57, 49, 28, 3, 61, 58, 42, 50, 38, 29, 17, 4, 62, 47, 59, 36, 45, 43, 51, 22, 53, 39, 33, 30, 24, 18, 12, 5, 63, 55, 48, 27, 60, 41, 37, 16, 46, 35, 44, 21, 52, 32, 23, 11, 54, 26, 40, 15, 34, 20, 31, 10, 25, 14, 19, 9, 13, 8, 7, 6]
def laidAs (l : List Value) : Obj → Obj
  | .cells _ t frozen => .cells l.toArray t frozen
  | o => o
def b64Tab : List Value := b64Ints.map (Value.int .u8)
def gB64 : Nat := 0
theorem same_tab : ∀ j, j < Lib.deBruijn64tab.length → (b64Ints.map fun z => Value.int .u8 z).toArray[j]? = some (.int .u8 (Lib.deBruijn64tab.getD j 0)) := by
  intro j hj
  have hl : Lib.deBruijn64tab.length = 64 := by decide +kernel
  rw [hl] at hj
  have h : ∀ j : Fin 64, b64Ints[j.1]? = some ((Lib.deBruijn64tab.getD j.1 0 : Nat) : Int) := by decide +kernel
  have := h ⟨j, hj⟩
  simp only [List.getElem?_toArray, List.getElem?_map]
  rw [this]
  rfl
theorem table {W : World} (h : laidMetH Tryd.prog Rows.fnPropagatesRow.laid W) : Tab W := by
  have h1 := h.filter (fun x => x.1 == "math/bits.deBruijn64tab")
  have h2 : laidMet Tryd.prog [("math/bits.deBruijn64tab", Lib.tabData .u8 b64Ints)] W := h1
  have h3 := Lib.tabIs_of_head (g := 0) (t := 92) (e := 5) (n := 64) (by kernel_rfl) (by kernel_rfl) Tryd.underlying92 Tryd.underlying5 (by kernel_rfl) (by kernel_rfl) h2
  unfold Lib.TabIs World.var? at h3
  rw [show Tryd.prog.globalNamed "math/bits.deBruijn64tab" = some 0 by kernel_rfl] at h3
  simp only [Option.bind_some] at h3
  split at h3
  · rename_i cs t fr hh
    injection h3 with h3
    intro j hj
    have h4 := same_tab j hj
    rw [← h3] at h4
    simp only [World.cell?, hh, h4]
    first | done | exact h4 | rfl | simp
  · cases h3

theorem laid_met (os : Os) : laidMet Tryd.prog Rows.fnPropagatesRow.laid (({ World.holding Tryd.prog os ⟨#[], #[], []⟩ with heap := ((World.holding Tryd.prog os ⟨#[], #[], []⟩).heap.modify gB64 (laidAs b64Tab)) } : World).forCall (fun _ _ => 0) ⟨#[], #[.slice none 0 0, .slice none 0 0], []⟩).memory :=
  laidMet_of_run' 8 (by kernel_rfl) (by kernel_rfl)
theorem reads (os : Os) {H : Type} (enc : TypeId × Value → H) : ∃ places, DataW.whole enc Tryd.prog (({ World.holding Tryd.prog os ⟨#[], #[], []⟩ with heap := ((World.holding Tryd.prog os ⟨#[], #[], []⟩).heap.modify gB64 (laidAs b64Tab)) } : World).forCall (fun _ _ => 0) ⟨#[], #[.slice none 0 0, .slice none 0 0], []⟩).memory Tryd.f3.params.toList Rows.fnPropagatesSpec.vars false #[Value.slice none 0 0, .slice none 0 0].toList 8 = some ([.nil, .nil], [], places) :=
  ⟨[], by kernel_rfl⟩

set_option maxRecDepth 100000 in
theorem contract (H : Type) (enc : TypeId × Value → H) (W : World) (base : Nat) (args : Array Value) (ds gs : List (DataW H)) (before : List MemPlace)
    (hval : ∀ (j : Nat) t v, Tryd.f3.params[j]? = some t → args[j]? = some v → Value.okWide Tryd.prog W .any base t v)
    (hW : DataW.Whole enc Tryd.prog Tryd.f3.params.toList Rows.fnPropagatesSpec.vars false W args.toList ds gs before) (hL : laidMetH Tryd.prog Rows.fnPropagatesRow.laid W) :
    Calls Tryd.prog 3 args W fun e W' => ∃ v, e = .returned v ∧ Rows.fnPropagatesSpec.post enc Tryd.prog Tryd.f3 false true false false W args v W' := by
  have hW' := hW
  obtain ⟨p, q, hA0, hV, rfl, hfz, hnd⟩ := hW
  have hA : DataW.TrodAll enc Tryd.prog W 0 (fun _ => true) true Tryd.f3.params.toList args.toList ds p := hA0
  rw [Tryd.params3] at hA hval
  obtain ⟨v0, vs0, d0, ds0, p0, q0, hargs, rfl, rfl, h0, r0⟩ := trodAll_cons hA
  obtain ⟨v1, vs1, d1, ds1, p1, q1, rfl, rfl, rfl, h1, r1⟩ := trodAll_cons r0
  obtain ⟨rfl, rfl, rfl⟩ := trodAll_nil r1
  obtain rfl : args = #[v0, v1] := by cases args; simp_all
  obtain ⟨rfl, rfl⟩ := trodVars_none hV
  have k0 := h0
  have lt0 : ∀ x ∈ p0, x.block < W.heap.size := by obtain ⟨m, hm⟩ := k0; exact DataW.trod_lt m _ _ _ hm
  obtain ⟨a0, la0, ca0, rfl⟩ := okWide_slice Tryd.underlying22 (hval 0 22 v0 rfl rfl)
  have hba0 : source.Bytes W a0 la0 ∧ la0 ≤ maxLen := by
    obtain ⟨fuel, hf⟩ := h0
    obtain ⟨a', l', c', e, hb⟩ := bytes_of_trod Tryd.underlying22 Tryd.underlying5 (by kernel_rfl) (by simpa [Value.cells] using hf)
    cases e
    exact hb
  have k1 := h1
  have lt1 : ∀ x ∈ p1, x.block < W.heap.size := by obtain ⟨m, hm⟩ := k1; exact DataW.trod_lt m _ _ _ hm
  obtain ⟨a1, la1, ca1, rfl⟩ := okWide_slice Tryd.underlying22 (hval 1 22 v1 rfl rfl)
  have hba1 : source.Bytes W a1 la1 ∧ la1 ≤ maxLen := by
    obtain ⟨fuel, hf⟩ := h1
    obtain ⟨a', l', c', e, hb⟩ := bytes_of_trod Tryd.underlying22 Tryd.underlying5 (by kernel_rfl) (by simpa [Value.cells] using hf)
    cases e
    exact hb
  clear hA0
  refine (walk a0 a1 la0 la1 ca0 ca1 W hba0.1 hba1.1 hba0.2 hba1.2 (table hL)).mono fun e W' ⟨he, bel⟩ => ?_
  subst he
  exact ⟨_, rfl, _, _, _, [], _, [], hW', trodAll_mk1 (shut_bool Tryd.underlying4 _), (trodAll_cons_mk (Below.trod laidOut (by kernel_rfl) (of_decide_eq_true (by kernel_rfl)) k0 bel lt0) (trodAll_cons_mk (Below.trod laidOut (by kernel_rfl) (of_decide_eq_true (by kernel_rfl)) k1 bel lt1) trodAll_mk0)), rfl, bel.frame _, fun h => by cases h⟩

set_option maxRecDepth 100000 in
theorem lifted (os : Os) (started : os.Started) (H : Type) (enc : TypeId × Value → H) (F : Stop.Interp) :
    ReturnsInHanded {} Tryd.checked os 3 .any ((OpenSpec.ofChange Rows.fnPropagatesSpec).preRow enc Tryd.prog Tryd.f3 Rows.fnPropagatesRow.domain false Rows.fnPropagatesRow.laid) (((OpenSpec.ofChange Rows.fnPropagatesSpec).at F).post enc Tryd.prog Tryd.f3 false true false false) := by
  obtain ⟨places, hx⟩ := reads os enc
  refine returnsInHanded_of_row (C := Tryd.checked) (s := OpenSpec.ofChange Rows.fnPropagatesSpec) own started (by kernel_rfl) Tryd.func3
    (witness_row_at (enc := enc) (C := Tryd.checked) false ({ World.holding Tryd.prog os ⟨#[], #[], []⟩ with heap := ((World.holding Tryd.prog os ⟨#[], #[], []⟩).heap.modify gB64 (laidAs b64Tab)) } : World) #[.slice none 0 0, .slice none 0 0] rfl (by kernel_rfl) (by kernel_rfl) (by kernel_rfl)
      (OpenSpec.preRow_of_cond 8 hx (by kernel_rfl) (fun k hk => by cases hk) (by kernel_rfl) (laid_met os))) ?_
  intro W base args ds gs before hval hW _ _ _ hL hsh _
  exact contract H enc W base args ds gs before hval hW hL

theorem said : Rows.FnPropagatesSaid :=
  OpenClaim.holds_of_cond 3 Tryd.f3 rfl rfl rfl rfl rfl rfl rfl ⟨rfl, rfl, rfl, rfl, rfl⟩ rfl rfl rfl rfl rfl (by kernel_rfl) Tryd.func3 (by kernel_rfl)
    (of_decide_eq_true (by kernel_rfl)) (by unfold Func.isWrapper; first | (rw [if_pos (by decide +kernel)]; kernel_rfl) | (rw [if_neg (by decide +kernel)]; exact ⟨rfl, rfl⟩))
    (fun os started H enc _ F => by rw [OpenClaim.pre_eq_preRow]; exact lifted os started H enc F)

theorem plain (f : FuncId) (fn : Func) (hf : Tryd.pinned.checked.prog.funcNamed "loop.example/g00159/laws.FnPropagates" = some f) (hfn : Tryd.pinned.checked.prog.funcs[f]? = some fn) :
    false = Tryd.pinned.checked.prog.looks [] ∧ ∀ (j : Nat) t, fn.params[j]? = some t → Tryd.pinned.checked.prog.wantsStandIn t = false := by
  obtain rfl : f = 3 := Option.some.inj ((show Tryd.prog.funcNamed "loop.example/g00159/laws.FnPropagates" = some 3 by kernel_rfl).symm.trans hf) |>.symm
  obtain rfl : fn = Tryd.f3 := (Option.some.inj (Tryd.func3.symm.trans hfn)).symm
  refine ⟨by kernel_rfl, fun j t ht => ?_⟩
  rw [Tryd.params3] at ht
  obtain rfl : t = 22 := by
    have := Array.mem_of_getElem? ht
    simpa using this
  exact (show Tryd.prog.wantsStandIn 22 = false by kernel_rfl)
end Go.Proofs.YtkboijdcjechdaaDoor.fnPropagates
namespace Go.Proofs.YtkboijdcjechdaaDoor
theorem fnPropagates_holds : Rows.FnPropagatesCardSaid :=
  Claim7.holds_tied_plain_at .later [] _ _ _ _ fnPropagates.said (fun _ h => by cases h) (by kernel_rfl) (fun _ h => by cases h) fnPropagates_row_tie rfl ⟨rfl, rfl⟩ (by kernel_rfl) rfl fnPropagates.plain (by kernel_rfl)
end Go.Proofs.YtkboijdcjechdaaDoor
