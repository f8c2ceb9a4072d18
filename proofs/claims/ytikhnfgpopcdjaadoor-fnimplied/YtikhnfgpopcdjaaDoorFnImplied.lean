/- For all codes: Implied tells of the formula and the clause drawn out of them that it is implied just when it is true in all models; the library's table is as its initialiser lays it, tied to the program's text; conditions: none. -/
import Derived.Test.YtikhnfgpopcdjaaDoorPart46
import Derived.Test.YtikhnfgpopcdjaaDoorPart47
import Derived.Test.YtikhnfgpopcdjaaDoorCards
import Derived.Test.YtikhnfgpopcdjaaDoorTie
import Derived.OpenVars
import Derived.SevenTiedAt
import Derived.Deep.DeepHandedRow
import Derived.Lib.LaidTab
import Derived.LaidSub
namespace Go.Proofs.YtikhnfgpopcdjaaDoor.fnImplied
open Go.ChangeShapes Go.WideShapes Go.ChangeAt Go.RowKit Go.Deep Go.Joins base copy cnf eval sets ownBools args byteArgs rowsOwn source cnfDraw clauseOfI solSets solOps solMath solMem solClose impMath impImpl solStart
set_option linter.unusedVariables false
set_option linter.unusedSimpArgs false

theorem rows_is {B n c : Nat} {w : World} {a : Option Addr} {ps : List (Value × List Int)} {L : List (List Int)} (h : OwnRows B w (.slice a n c) ps) (e : ps.map (·.2) = L) : IntRows w a n L := by
  rw [← e]
  exact rows_of_own h
theorem bytes_keep {w w1 : World} {a : Option Addr} {len : Nat} (h : Bytes w a len) (hb : Below w.heap.size w w1) : Bytes w1 a len := fun i hi => by
  obtain ⟨bb, off, e, x, hx, hc⟩ := h i hi
  exact ⟨bb, off, e, x, hx, keep hb hc⟩
theorem vals_cons (n k : Nat) : valsOf n (k + 1) = n.testBit 0 :: valsOf (n / 2) k := by
  unfold valsOf
  rw [List.range_succ_eq_map, List.map_cons, List.map_map]
  congr 1
  refine List.map_congr_left fun i _ => ?_
  show n.testBit (i + 1) = _
  rw [Nat.testBit_succ]
theorem vals_onto : ∀ vs : List Bool, ∃ i, i < 2 ^ vs.length ∧ valsOf i vs.length = vs
  | [] => ⟨0, by decide, rfl⟩
  | b :: vs => by
    obtain ⟨i, h1, h2⟩ := vals_onto vs
    refine ⟨2 * i + (if b then 1 else 0), ?_, ?_⟩
    · rw [List.length_cons, Nat.pow_succ]
      split <;> omega
    · rw [List.length_cons, vals_cons]
      have e1 : (2 * i + (if b = true then 1 else 0)) / 2 = i := by split <;> omega
      have e2 : (2 * i + (if b = true then 1 else 0)).testBit 0 = b := by
        rw [Nat.testBit_zero]
        cases b with
        | false => simp
        | true => rw [if_pos rfl, show (2 * i + 1) % 2 = 1 by omega]; rfl
      rw [e1, e2, h2]
/-- What the loop has seen so far. -/
def wantB (Z : List (List Int)) (zs : List Int) (v m : Nat) : Bool := (List.range m).all fun i => !cnfT (valsOf i v) Z || clauseT (valsOf i v) zs
theorem want_next (Z : List (List Int)) (zs : List Int) (v m : Nat) : wantB Z zs v (m + 1) = (wantB Z zs v m && (!cnfT (valsOf m v) Z || clauseT (valsOf m v) zs)) := by
  unfold wantB
  rw [List.range_succ, List.all_append]
  simp
theorem want_all {Z : List (List Int)} {zs : List Int} {v : Nat} (hv : v ≤ 40) (hz : cnfB v Z = true) (hzs : ∀ z ∈ zs, litB v z = true) : wantB Z zs v (2 ^ v) = true ↔ impM v Z zs := by
  rw [impM_vals hv hz hzs]
  unfold wantB
  rw [List.all_eq_true]
  constructor
  · intro h vs hl hm
    obtain ⟨i, h1, h2⟩ := vals_onto vs
    rw [hl] at h1 h2
    have h3 := h i (List.mem_range.2 h1)
    rw [h2, hm] at h3
    simpa using h3
  · intro h i hi
    cases hc : cnfT (valsOf i v) Z with
    | false => rfl
    | true => rw [h (valsOf i v) (by simp [valsOf]) hc]; rfl
theorem clause_ok {v : Int} {zs : List Int} (h : zs.length ≤ 3) (hl : ∀ z ∈ zs, litB v z = true) : clauseB v zs = true := by
  unfold clauseB
  rw [Bool.and_eq_true, List.all_eq_true]
  exact ⟨decide_eq_true (by omega), hl⟩
theorem one_ok {v : Nat} {zs : List Int} (hv : v ≤ 40) (hc : clauseB (v : Int) zs = true) : cnfB (v : Int) [zs] = true := by
  unfold cnfB
  rw [Bool.and_eq_true, List.all_eq_true]
  exact ⟨decide_eq_true ⟨by omega, by omega, by simp⟩, fun c hc9 => by rw [List.mem_singleton] at hc9; rw [hc9]; exact hc⟩
theorem one_row {w : World} {N : Nat} {b : Option Addr} {zl bc : Nat} {zs : List Int} (hc : w.cell? ⟨N, 0, none⟩ = some (.slice b zl bc)) (hr : IntRow w b zl zs) : IntRows w (some ⟨N, 0, none⟩) 1 [zs] := ⟨rfl, by unfold maxLen; omega, fun i hi => by
  obtain rfl : i = 0 := by omega
  exact ⟨N, 0, rfl, b, zl, bc, hc, hr⟩⟩
set_option maxHeartbeats 6400000 in
set_option maxRecDepth 8000 in
theorem walk (a0 a1 : Option Addr) (len0 len1 cap0 cap1 : Nat) (w : World) (hby0 : Bytes w a0 len0) (hby1 : Bytes w a1 len1) (hm0 : len0 ≤ maxLen) (hm1 : len1 ≤ maxLen) (ht : Tab w) :
    Calls Tryd.prog 3 #[.slice a0 len0 cap0, .slice a1 len1 cap1] w fun e w' => e = .returned (.bool true) ∧ Below w.heap.size w w' := by
  unfold maxLen at hm0 hm1
  have HBy0 := hid hby0
  have HBy1 := hid hby1
  have HT := hid ht
  clear hby0 hby1 ht
  by_cases h0 : 1048576 < len0
  · go_enter Tryd.func3, Tryd.ntmps3
    go_wp2
    go_ret
    exact ⟨rfl, (by repeat (first | exact Below.refl _ _ | assumption | refine Below.drew ?_ | refine Below.alloc ?_ (by first | exact Nat.le_refl _ | omega | (simp; done) | (simp; omega)) _ | refine Below.setCell ?_ (by first | exact Nat.le_refl _ | omega | (simp; done) | (simp; omega)) _))⟩
  by_cases h1 : 1048576 < len1
  · go_enter Tryd.func3, Tryd.ntmps3
    go_wp2
    go_ret
    exact ⟨rfl, (by repeat (first | exact Below.refl _ _ | assumption | refine Below.drew ?_ | refine Below.alloc ?_ (by first | exact Nat.le_refl _ | omega | (simp; done) | (simp; omega)) _ | refine Below.setCell ?_ (by first | exact Nat.le_refl _ | omega | (simp; done) | (simp; omega)) _))⟩
  have hl0 : len0 ≤ 1048576 := by omega
  have hl1 : len1 ≤ 1048576 := by omega
  have hl0' : (len0 : Int) ≤ 1048576 := by omega
  have hl1' : (len1 : Int) ≤ 1048576 := by omega
  go_enter Tryd.func3, Tryd.ntmps3
  go_wp2_with fail
  refine (cnfOf_spec a0 len0 cap0 _ HBy0.out hl0).mono ?_
  rintro e w1 ⟨vars, p, n, c, ps, rfl, hv1, hv6, ho1, hcnf, hln, hb1⟩
  obtain ⟨v, hv⟩ := Int.eq_ofNat_of_zero_le (show 0 ≤ vars by omega)
  subst hv
  obtain ⟨Z, hZ⟩ : ∃ Z, ps.map (·.2) = Z := ⟨_, rfl⟩
  rw [hZ] at hcnf
  have HZ := hid hZ
  have HCnf := hid hcnf
  have HO1 := hid ho1
  have hB1 := hid hb1
  clear ho1 hcnf hb1 hZ hln
  obtain ⟨M, hM⟩ : ∃ M, M = 2 ^ v := ⟨_, rfl⟩
  have hM64 : M ≤ 64 := by
    rw [hM]
    exact Nat.pow_le_pow_right (n := 2) (by omega) (show v ≤ 6 by omega)
  have hW : wrap64 ((2 : Int) ^ v) = (M : Int) := by
    have hc : ((2 : Int) ^ v) = ((2 ^ v : Nat) : Int) := by simp
    rw [hc, ← hM]
    unfold wrap64
    omega
  replace hM := hM.symm
  go_wp2_with fail
  refine (clauseOf_spec a1 len1 cap1 v _ (bytes_keep HBy1.out (hB1.out.trans ((show Below w1.heap.size w1 _ from (by repeat (first | exact Below.refl _ _ | assumption | refine Below.drew ?_ | refine Below.alloc ?_ (by first | exact Nat.le_refl _ | omega | (simp; done) | (simp; omega)) _ | refine Below.setCell ?_ (by first | exact Nat.le_refl _ | omega | (simp; done) | (simp; omega)) _))).mono hB1.out.size))) hl1 (by omega) (by omega)).mono ?_
  rintro e w2 ⟨x, zs, rfl, ho2, hz2, hlit, hb2⟩
  obtain ⟨b, bc, rfl, hrb⟩ := ho2.form
  have f0 : w2.cell? ⟨w1.heap.size, 0, none⟩ = some (.int .i64 v) := keep hb2 (by simp [go_sem])
  have f1 : w2.cell? ⟨w1.heap.size, 1, none⟩ = some (.slice p n c) := keep hb2 (by simp [go_sem])
  have hb12 : Below w1.heap.size w1 w2 := (show Below w1.heap.size w1 _ from (by repeat (first | exact Below.refl _ _ | assumption | refine Below.drew ?_ | refine Below.alloc ?_ (by first | exact Nat.le_refl _ | omega | (simp; done) | (simp; omega)) _ | refine Below.setCell ?_ (by first | exact Nat.le_refl _ | omega | (simp; done) | (simp; omega)) _))).trans (hb2.mono (by simp))
  have z2 : w1.heap.size < w2.heap.size := by have := hb2.size; simp at this; omega
  have HO2 := hid (OwnRows.below HO1.out hb12)
  have HRb := hid hrb
  have hB2 := hid (hB1.out.trans (hb12.mono hB1.out.size))
  have HLz := hid hz2
  have HLi := hid hlit
  have HT2 := hid (tab_below HT.out (hB2.out.mono (Nat.le_refl _)))
  have hck := clause_ok hz2 hlit
  have HC0 : Hid (impCode v Z zs = 0) := hid (by unfold impCode; rw [if_neg (by omega), if_neg (by rw [HCnf.out, hck]; decide)])
  have HOne := hid (one_ok (v := v) (by omega) hck)
  have HAll := hid (want_all (v := v) (by omega) HCnf.out hlit)
  rw [hM] at HAll
  have hcc := HCnf.out
  have hv40 : v ≤ 40 := by omega
  have HSv : Hid ((∀ l, mem (setL zs) l = true → mem (setL zs) (-l) = false) → Solves v Z (turnL (setL zs))) := hid (fun hcs M mb F V W hs hv0 => by
    have hl : rupSpec.LitsIn (v + 1) Z := rupFaceS.cnf_in (by simpa using hcc)
    have hzl : ∀ z ∈ zs, z ≠ 0 ∧ z.natAbs < v + 1 := rupFaceS.clause_in (by simpa using hck)
    have hw := wf_lits hv40 hzl
    refine start_solve v (by omega) Z _ hl (solSets.wf_turn hw) (fun l h9 => ?_) ?_ M mb F V W hs hv0
    · have hr := (solSets.wf_turn hw).range h9
      rw [mem_turn hr.1] at h9
      rw [mem_turn (by omega)]
      exact hcs _ h9
    · have := (rupFaceS.cnf_vars hcc).2.2
      omega)
  have HI := hid (fun (W : World) (hr : IntRows W p n Z) (hb : IntRow W b zs.length zs) (ht : Tab W) => implied_impl v p n c Z b zs.length bc zs W hr hb ht HC0.out HSv.out)
  clear ho2 hz2 hb2 hb12 hrb HO1 hcc hck HSv hM
  obtain ⟨zl, hzl⟩ : ∃ zl, zs.length = zl := ⟨_, rfl⟩
  rw [hzl] at HRb HI ⊢
  have HZl : Hid (zl ≤ 3 ∧ zs.length = zl) := hid ⟨by have := HLz.out; omega, hzl⟩
  have hzl3 : zl ≤ 3 := HZl.out.1
  clear hzl hlit
  go_wp2_with fail
  refine (HI.out _ ((rows_is HO2.out HZ.out).below (by repeat (first | exact Below.refl _ _ | assumption | refine Below.drew ?_ | refine Below.alloc ?_ (by first | exact Nat.le_refl _ | omega | (simp; done) | (simp; omega)) _ | refine Below.setCell ?_ (by first | exact Nat.le_refl _ | omega | (simp; done) | (simp; omega)) _))) (HRb.out.below (by repeat (first | exact Below.refl _ _ | assumption | refine Below.drew ?_ | refine Below.alloc ?_ (by first | exact Nat.le_refl _ | omega | (simp; done) | (simp; omega)) _ | refine Below.setCell ?_ (by first | exact Nat.le_refl _ | omega | (simp; done) | (simp; omega)) _))) (tab_below HT2.out (by repeat (first | exact Below.refl _ _ | assumption | refine Below.drew ?_ | refine Below.alloc ?_ (by first | exact Nat.le_refl _ | omega | (simp; done) | (simp; omega)) _ | refine Below.setCell ?_ (by first | exact Nat.le_refl _ | omega | (simp; done) | (simp; omega)) _)))).mono ?_
  rintro e w3 ⟨t, rfl, ht3, hb3⟩
  have hb23 : Below w2.heap.size w2 w3 := (show Below w2.heap.size w2 _ from (by repeat (first | exact Below.refl _ _ | assumption | refine Below.drew ?_ | refine Below.alloc ?_ (by first | exact Nat.le_refl _ | omega | (simp; done) | (simp; omega)) _ | refine Below.setCell ?_ (by first | exact Nat.le_refl _ | omega | (simp; done) | (simp; omega)) _))).trans (hb3.mono (by simp))
  replace f0 := keep hb23 f0
  replace f1 := keep hb23 f1
  have z3 : w2.heap.size ≤ w3.heap.size := hb23.size
  have HO3 := hid (OwnRows.below HO2.out hb23)
  have HRb3 := hid (HRb.out.below hb23)
  have hB3 := hid (hB2.out.trans (hb23.mono hB2.out.size))
  have HTw : Hid (t = wantB Z zs v M) := hid (by rw [Bool.eq_iff_iff, ht3]; exact HAll.out.symm)
  clear hb3 hb23 HO2 HRb HT2 HI ht3 HAll
  go_wp2
  go_loopw [9, 10] (fun q i wr => ∃ m : Nat, m ≤ M ∧ q = .bool (wantB Z zs v m) ∧ i = .int .i64 m ∧ Below w3.heap.size w3 wr) (fun _ i _ => M - (intOf i).toNat)
  case atStart => exact ⟨0, Nat.zero_le _, rfl, rfl, (by repeat (first | exact Below.refl _ _ | assumption | refine Below.drew ?_ | refine Below.alloc ?_ (by first | exact Nat.le_refl _ | omega | (simp; done) | (simp; omega)) _ | refine Below.setCell ?_ (by first | exact Nat.le_refl _ | omega | (simp; done) | (simp; omega)) _))⟩
  case round =>
    obtain ⟨m, hm, rfl, rfl, hbel⟩ := hrel
    have HW := hid hbel
    have k0 := keep hbel f0
    have k1 := keep hbel f1
    have HOf := hid (OwnRows.below HO3.out hbel)
    have HRf := hid (HRb3.out.below hbel)
    have HNx := hid (want_next Z zs v m)
    clear hbel
    by_cases hlt : m < M
    · have HVL : Hid ((valsOf m v).length = v) := by show _ = _; simp [valsOf]
      have E1 := hid (code_ok (vars := v) (zss := Z) (vs := valsOf m v) (by rw [HVL.out]; omega) HCnf.out (by rw [HVL.out]))
      have E2 := hid (code_ok (vars := v) (zss := [zs]) (vs := valsOf m v) (by rw [HVL.out]; omega) HOne.out (by rw [HVL.out]))
      obtain ⟨wb, hwb⟩ : ∃ q, wantB Z zs v m = q := ⟨_, rfl⟩
      rw [hwb] at HNx ⊢
      clear hwb
      go_wp2_with fail
      refine (values_laws m v _ (by omega) (by omega)).mono ?_
      rintro e u1 ⟨bv, rfl, ob1, hb1⟩
      obtain ⟨av, cv, rfl, rv⟩ := ob1.form
      rw [HVL.out] at rv ⊢
      have RV := hid rv
      have k0 := keep hb1 k0
      have k1 := keep hb1 k1
      have HOf1 := hid (OwnRows.below HOf.out hb1)
      have HRf1 := hid (HRf.out.below hb1)
      have H1 := hid hb1
      clear ob1 rv hb1
      go_wp2_with fail
      refine (evalCnf_spec v p av n c v cv Z (valsOf m v) _ ((rows_is HOf1.out HZ.out).below (by repeat (first | exact Below.refl _ _ | assumption | refine Below.drew ?_ | refine Below.alloc ?_ (by first | exact Nat.le_refl _ | omega | (simp; done) | (simp; omega)) _ | refine Below.setCell ?_ (by first | exact Nat.le_refl _ | omega | (simp; done) | (simp; omega)) _))) (RV.out.below (by repeat (first | exact Below.refl _ _ | assumption | refine Below.drew ?_ | refine Below.alloc ?_ (by first | exact Nat.le_refl _ | omega | (simp; done) | (simp; omega)) _ | refine Below.setCell ?_ (by first | exact Nat.le_refl _ | omega | (simp; done) | (simp; omega)) _)))).mono ?_
      rintro e u2 ⟨rfl, hb2⟩
      rw [E1.out.1, E1.out.2]
      have hb12 : Below u1.heap.size u1 u2 := (show Below u1.heap.size u1 _ from (by repeat (first | exact Below.refl _ _ | assumption | refine Below.drew ?_ | refine Below.alloc ?_ (by first | exact Nat.le_refl _ | omega | (simp; done) | (simp; omega)) _ | refine Below.setCell ?_ (by first | exact Nat.le_refl _ | omega | (simp; done) | (simp; omega)) _))).trans (hb2.mono (by simp))
      have RV2 := hid (RV.out.below hb12)
      have HRf2 := hid (HRf1.out.below hb12)
      have H2 := hid (H1.out.trans (hb12.mono H1.out.size))
      have H2w := hid (HW.out.trans (H2.out.mono HW.out.size))
      have k0 := keep hb12 k0
      clear hb2 hb12 k1
      obtain ⟨ca, hca⟩ : ∃ q, cnfT (valsOf m v) Z = q := ⟨_, rfl⟩
      rw [hca] at HNx ⊢
      clear hca
      go_wp2_with fail
      refine (evalCnf_spec v (some ⟨u2.heap.size, 0, none⟩) av 1 1 v cv [zs] (valsOf m v) _ (one_row (bc := bc) (by simp [go_sem]) (HRf2.out.below (by repeat (first | exact Below.refl _ _ | assumption | refine Below.drew ?_ | refine Below.alloc ?_ (by first | exact Nat.le_refl _ | omega | (simp; done) | (simp; omega)) _ | refine Below.setCell ?_ (by first | exact Nat.le_refl _ | omega | (simp; done) | (simp; omega)) _)))) (RV2.out.below (by repeat (first | exact Below.refl _ _ | assumption | refine Below.drew ?_ | refine Below.alloc ?_ (by first | exact Nat.le_refl _ | omega | (simp; done) | (simp; omega)) _ | refine Below.setCell ?_ (by first | exact Nat.le_refl _ | omega | (simp; done) | (simp; omega)) _)))).mono ?_
      rintro e u3 ⟨rfl, hb3⟩
      rw [E2.out.1, E2.out.2]
      have hb23 : Below u2.heap.size u2 u3 := (show Below u2.heap.size u2 _ from (by repeat (first | exact Below.refl _ _ | assumption | refine Below.drew ?_ | refine Below.alloc ?_ (by first | exact Nat.le_refl _ | omega | (simp; done) | (simp; omega)) _ | refine Below.setCell ?_ (by first | exact Nat.le_refl _ | omega | (simp; done) | (simp; omega)) _))).trans (hb3.mono (by simp))
      have H3w := hid (H2w.out.trans (hb23.mono H2w.out.size))
      clear hb3 hb23
      have hcl : cnfT (valsOf m v) [zs] = clauseT (valsOf m v) zs := by simp [cnfT]
      rw [hcl]
      clear hcl
      obtain ⟨cb, hcb⟩ : ∃ q, clauseT (valsOf m v) zs = q := ⟨_, rfl⟩
      rw [hcb] at HNx ⊢
      clear hcb
      cases wb <;> cases ca <;> cases cb
      all_goals
        go_wp2
        go_roundw
        case rel => exact ⟨m + 1, by omega, by rw [HNx.out]; rfl, by go_num, H3w.out⟩
        case measure => simp [intOf]; omega
    · have e : m = M := by omega
      subst e
      have hq := HTw.out
      have hq2 : (t == wantB Z zs v m) = true := by rw [hq]; simp
      go_wp2
      go_ret
      exact ⟨rfl, hB3.out.trans (HW.out.mono hB3.out.size)⟩
theorem own : ownKnob Tryd.prog.godebug = none := by kernel_rfl
theorem laidOut : laidOutB Tryd.prog = true := by kernel_rfl

/- The library's tables as their initialisers lay them. -/
def b64Ints : List Int := [0, 1, 56, 2, 57, 49, 28, 3, 61, 58, 42, 50, 38, 29, 17, 4, 62, 47, 59, 36, 45, 43, 51, 22, 53, 39, 33, 30, 24, 18, 12, 5, 63, 55, 48, 27, 60, 41, 37, 16, 46, 35, 44, 21, 52, 32, 23, 11, 54, 26, 40, 15, 34, 20, 31, 10, 25, 14, 19, 9, 13, 8, 7, 6]
def laidAs (l : List Value) : Obj → Obj
  | .cells _ t frozen => .cells l.toArray t frozen
  | o => o
def b64Tab : List Value := b64Ints.map (Value.int .u8)
def gB64 : Nat := 0
theorem same_tab : ∀ j, j < Lib.deBruijn64tab.length → (b64Ints.map fun z => Value.int .u8 z).toArray[j]? = some (.int .u8 (Lib.deBruijn64tab.getD j 0)) := by
  intro j hj
  have hl : Lib.deBruijn64tab.length = 64 := by decide +kernel
  rw [hl] at hj
  have h : ∀ j : Fin 64, b64Ints[j.1]? = some ((Lib.deBruijn64tab.getD j.1 0 : Nat) : Int) := by decide +kernel
  have := h ⟨j, hj⟩
  simp only [List.getElem?_toArray, List.getElem?_map]
  rw [this]
  rfl
theorem table {W : World} (h : laidMetH Tryd.prog Rows.fnImpliedRow.laid W) : Tab W := by
  have h1 := h.filter (fun x => x.1 == "math/bits.deBruijn64tab")
  have h2 : laidMet Tryd.prog [("math/bits.deBruijn64tab", Lib.tabData .u8 b64Ints)] W := h1
  have h3 := Lib.tabIs_of_head (g := 0) (t := 86) (e := 5) (n := 64) (by kernel_rfl) (by kernel_rfl) Tryd.underlying86 Tryd.underlying5 (by kernel_rfl) (by kernel_rfl) h2
  unfold Lib.TabIs World.var? at h3
  rw [show Tryd.prog.globalNamed "math/bits.deBruijn64tab" = some 0 by kernel_rfl] at h3
  simp only [Option.bind_some] at h3
  split at h3
  · rename_i cs t fr hh
    injection h3 with h3
    intro j hj
    have h4 := same_tab j hj
    rw [← h3] at h4
    simp only [World.cell?, hh, h4]
    first | done | exact h4 | rfl | simp
  · cases h3

theorem laid_met (os : Os) : laidMet Tryd.prog Rows.fnImpliedRow.laid (({ World.holding Tryd.prog os ⟨#[], #[], []⟩ with heap := ((World.holding Tryd.prog os ⟨#[], #[], []⟩).heap.modify gB64 (laidAs b64Tab)) } : World).forCall (fun _ _ => 0) ⟨#[], #[.slice none 0 0, .slice none 0 0], []⟩).memory :=
  laidMet_of_run' 8 (by kernel_rfl) (by kernel_rfl)
theorem reads (os : Os) {H : Type} (enc : TypeId × Value → H) : ∃ places, DataW.whole enc Tryd.prog (({ World.holding Tryd.prog os ⟨#[], #[], []⟩ with heap := ((World.holding Tryd.prog os ⟨#[], #[], []⟩).heap.modify gB64 (laidAs b64Tab)) } : World).forCall (fun _ _ => 0) ⟨#[], #[.slice none 0 0, .slice none 0 0], []⟩).memory Tryd.f3.params.toList Rows.fnImpliedSpec.vars false #[Value.slice none 0 0, .slice none 0 0].toList 8 = some ([.nil, .nil], [], places) :=
  ⟨[], by kernel_rfl⟩

set_option maxRecDepth 100000 in
theorem contract (H : Type) (enc : TypeId × Value → H) (W : World) (base : Nat) (args : Array Value) (ds gs : List (DataW H)) (before : List MemPlace)
    (hval : ∀ (j : Nat) t v, Tryd.f3.params[j]? = some t → args[j]? = some v → Value.okWide Tryd.prog W .any base t v)
    (hW : DataW.Whole enc Tryd.prog Tryd.f3.params.toList Rows.fnImpliedSpec.vars false W args.toList ds gs before) (hL : laidMetH Tryd.prog Rows.fnImpliedRow.laid W) :
    Calls Tryd.prog 3 args W fun e W' => ∃ v, e = .returned v ∧ Rows.fnImpliedSpec.post enc Tryd.prog Tryd.f3 false true false false W args v W' := by
  have hW' := hW
  obtain ⟨p, q, hA0, hV, rfl, hfz, hnd⟩ := hW
  have hA : DataW.TrodAll enc Tryd.prog W 0 (fun _ => true) true Tryd.f3.params.toList args.toList ds p := hA0
  rw [Tryd.params3] at hA hval
  obtain ⟨v0, vs0, d0, ds0, p0, q0, hargs, rfl, rfl, h0, r0⟩ := trodAll_cons hA
  obtain ⟨v1, vs1, d1, ds1, p1, q1, rfl, rfl, rfl, h1, r1⟩ := trodAll_cons r0
  obtain ⟨rfl, rfl, rfl⟩ := trodAll_nil r1
  obtain rfl : args = #[v0, v1] := by cases args; simp_all
  obtain ⟨rfl, rfl⟩ := trodVars_none hV
  have k0 := h0
  have lt0 : ∀ x ∈ p0, x.block < W.heap.size := by obtain ⟨m, hm⟩ := k0; exact DataW.trod_lt m _ _ _ hm
  obtain ⟨a0, la0, ca0, rfl⟩ := okWide_slice Tryd.underlying22 (hval 0 22 v0 rfl rfl)
  have hba0 : source.Bytes W a0 la0 ∧ la0 ≤ maxLen := by
    obtain ⟨fuel, hf⟩ := h0
    obtain ⟨a', l', c', e, hb⟩ := bytes_of_trod Tryd.underlying22 Tryd.underlying5 (by kernel_rfl) (by simpa [Value.cells] using hf)
    cases e
    exact hb
  have k1 := h1
  have lt1 : ∀ x ∈ p1, x.block < W.heap.size := by obtain ⟨m, hm⟩ := k1; exact DataW.trod_lt m _ _ _ hm
  obtain ⟨a1, la1, ca1, rfl⟩ := okWide_slice Tryd.underlying22 (hval 1 22 v1 rfl rfl)
  have hba1 : source.Bytes W a1 la1 ∧ la1 ≤ maxLen := by
    obtain ⟨fuel, hf⟩ := h1
    obtain ⟨a', l', c', e, hb⟩ := bytes_of_trod Tryd.underlying22 Tryd.underlying5 (by kernel_rfl) (by simpa [Value.cells] using hf)
    cases e
    exact hb
  clear hA0
  refine (walk a0 a1 la0 la1 ca0 ca1 W hba0.1 hba1.1 hba0.2 hba1.2 (table hL)).mono fun e W' ⟨he, bel⟩ => ?_
  subst he
  exact ⟨_, rfl, _, _, _, [], _, [], hW', trodAll_mk1 (shut_bool Tryd.underlying4 _), (trodAll_cons_mk (Below.trod laidOut (by kernel_rfl) (of_decide_eq_true (by kernel_rfl)) k0 bel lt0) (trodAll_cons_mk (Below.trod laidOut (by kernel_rfl) (of_decide_eq_true (by kernel_rfl)) k1 bel lt1) trodAll_mk0)), rfl, bel.frame _, fun h => by cases h⟩

set_option maxRecDepth 100000 in
theorem lifted (os : Os) (started : os.Started) (H : Type) (enc : TypeId × Value → H) (F : Stop.Interp) :
    ReturnsInHanded {} Tryd.checked os 3 .any ((OpenSpec.ofChange Rows.fnImpliedSpec).preRow enc Tryd.prog Tryd.f3 Rows.fnImpliedRow.domain false Rows.fnImpliedRow.laid) (((OpenSpec.ofChange Rows.fnImpliedSpec).at F).post enc Tryd.prog Tryd.f3 false true false false) := by
  obtain ⟨places, hx⟩ := reads os enc
  refine returnsInHanded_of_row (C := Tryd.checked) (s := OpenSpec.ofChange Rows.fnImpliedSpec) own started (by kernel_rfl) Tryd.func3
    (witness_row_at (enc := enc) (C := Tryd.checked) false ({ World.holding Tryd.prog os ⟨#[], #[], []⟩ with heap := ((World.holding Tryd.prog os ⟨#[], #[], []⟩).heap.modify gB64 (laidAs b64Tab)) } : World) #[.slice none 0 0, .slice none 0 0] rfl (by kernel_rfl) (by kernel_rfl) (by kernel_rfl)
      (OpenSpec.preRow_of_cond 8 hx (by kernel_rfl) (fun k hk => by cases hk) (by kernel_rfl) (laid_met os))) ?_
  intro W base args ds gs before hval hW _ _ _ hL hsh _
  exact contract H enc W base args ds gs before hval hW hL

theorem said : Rows.FnImpliedSaid :=
  OpenClaim.holds_of_cond 3 Tryd.f3 rfl rfl rfl rfl rfl rfl rfl ⟨rfl, rfl, rfl, rfl, rfl⟩ rfl rfl rfl rfl rfl (by kernel_rfl) Tryd.func3 (by kernel_rfl)
    (of_decide_eq_true (by kernel_rfl)) (by unfold Func.isWrapper; first | (rw [if_pos (by decide +kernel)]; kernel_rfl) | (rw [if_neg (by decide +kernel)]; exact ⟨rfl, rfl⟩))
    (fun os started H enc _ F => by rw [OpenClaim.pre_eq_preRow]; exact lifted os started H enc F)

theorem plain (f : FuncId) (fn : Func) (hf : Tryd.pinned.checked.prog.funcNamed "loop.example/g00159/laws.FnImplied" = some f) (hfn : Tryd.pinned.checked.prog.funcs[f]? = some fn) :
    false = Tryd.pinned.checked.prog.looks [] ∧ ∀ (j : Nat) t, fn.params[j]? = some t → Tryd.pinned.checked.prog.wantsStandIn t = false := by
  obtain rfl : f = 3 := Option.some.inj ((show Tryd.prog.funcNamed "loop.example/g00159/laws.FnImplied" = some 3 by kernel_rfl).symm.trans hf) |>.symm
  obtain rfl : fn = Tryd.f3 := (Option.some.inj (Tryd.func3.symm.trans hfn)).symm
  refine ⟨by kernel_rfl, fun j t ht => ?_⟩
  rw [Tryd.params3] at ht
  obtain rfl : t = 22 := by
    have := Array.mem_of_getElem? ht
    simpa using this
  exact (show Tryd.prog.wantsStandIn 22 = false by kernel_rfl)
end Go.Proofs.YtikhnfgpopcdjaaDoor.fnImplied
namespace Go.Proofs.YtikhnfgpopcdjaaDoor
theorem fnImplied_holds : Rows.FnImpliedCardSaid :=
  Claim7.holds_tied_plain_at .later [] _ _ _ _ fnImplied.said (fun _ h => by cases h) (by kernel_rfl) (fun _ h => by cases h) fnImplied_row_tie rfl ⟨rfl, rfl⟩ (by kernel_rfl) rfl fnImplied.plain (by kernel_rfl)
end Go.Proofs.YtikhnfgpopcdjaaDoor
