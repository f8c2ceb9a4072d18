/- For every circuit and literal Tseitin answers as its specification; it writes into no argument and keeps nothing of one, and its answer owns its memory; conditions: none. -/
import Derived.Test.YtijeicccmjgpiaaTsImpl
import Derived.Test.YtijeicccmjgpiaaTsSpec
import Derived.Test.YtijeicccmjgpiaaMarkAig
import Derived.Test.YtijeicccmjgpiaaAigArgs
namespace Go.Proofs.Ytijeicccmjgpiaa.fnExactTseitin
open Go.ChangeShapes Go.WideShapes Go.ChangeAt Go.RowKit Go.Deep Go.Joins base copy gates trees aigImpl rowsOwn cnf tseitin tsImpl tsSpec aigArgs args
set_option linter.unusedVariables false

theorem clauses_sum (n : Int) (g : Gs) (k : Nat) : ((clausesTo n g k).map List.length).sum = 7 * k := by
  induction k with
  | zero => rfl
  | succ k ih => simp [clausesTo, gateC, ih]; omega
theorem ts_bounds (n : Int) (len : Nat) (g : Gs) (l : Int) : (tsList n len g l).length ≤ 2000 ∧ ((tsList n len g l).map List.length).sum ≤ 5000 := by
  unfold tsList
  split
  · rename_i h
    have hb : len ≤ 400 := by
      cases hb : aigB n len g with
      | false => rw [(ts_bad hb).1] at h; cases h
      | true => exact (of_decide_eq_true (Bool.and_eq_true_iff.1 hb).1).2.2
    have h1 := clauses_len n g len
    have h2 := clauses_sum n g len
    have h3 : (lastC l).length ≤ 1 ∧ ((lastC l).map List.length).sum ≤ 1 := by
      unfold lastC
      split
      · simp
      · split <;> simp
    unfold tsC
    rw [List.length_append, List.map_append, List.sum_append, h1, h2]
    omega
  · simp
theorem rows_oth {B N : Nat} {w w' : World} {v : Value} {ps : List (Value × List Int)} (h : OwnRows B w v ps) (ho : Oth N w w') (hN : N < B) : OwnRows B w' v ps := by
  have hg : w.grownBy w' (some N) := markAig.grown_oth ho
  have key : ∀ g, B ≤ g → some g ≠ some N := fun g hg e => by injection e with e; omega
  exact ⟨outer_grown h hg (fun g e => key g (World.ownsRow.lt h.outer g e).1), fun p hp => own_grown (h.inner p hp) hg (fun g e => key g (World.ownsRow.lt (h.inner p hp) g e).1)⟩
theorem lens_eq {ps : List (Value × List Int)} {R : List (List Int)} (h : ps.map (·.2) = R) : ps.map (fun p => p.2.length) = R.map List.length := by
  rw [← h, List.map_map]; rfl

set_option maxHeartbeats 12800000 in
theorem walk (n : Int) (a : Option Addr) (l c : Nat) (g : Gs) (lit : Int) (w : World) (hr : GateRow w a l g) (hw : ∀ i, i < l → I64 (g i).1 ∧ I64 (g i).2) (hl : I64 lit) :
    Calls Try.prog 5 #[.agg #[.int .i64 n, .slice a l c], .int .i64 lit] w fun e w' => e = .returned (.bool true) ∧ Below w.heap.size w w' := by
  have HML := hid hr.most
  have HR := hid hr
  have HW := hid hw
  have HL := hid hl
  clear hr hw hl
  obtain ⟨hrl, hrs⟩ := ts_bounds n l g lit
  obtain ⟨V, eV⟩ : ∃ V, tsVars n l g lit = V := ⟨_, rfl⟩
  obtain ⟨C, eC⟩ : ∃ C, tsCode n l g lit = C := ⟨_, rfl⟩
  obtain ⟨R, eR⟩ : ∃ R, tsList n l g lit = R := ⟨_, rfl⟩
  rw [eR] at hrl hrs
  have EV := hid eV
  have EC := hid eC
  have ER := hid eR
  have HRL := hid hrl
  have HRS := hid hrs
  clear eV eC eR hrl hrs
  go_enter Try.func5, Try.ntmps5
  go_wp2_with fail
  refine (szAig n a l c 1048576 _ HML.out (by omega) (by omega)).mono ?_
  rintro e w1 ⟨r, rfl, hb1, hr1, hr2, hr3⟩
  have H3 := hid hr3
  have hB1 := hid ((show Below w.heap.size w _ from (by repeat (first | exact Below.refl _ _ | assumption | refine Below.drew ?_ | refine Below.alloc ?_ (by first | exact Nat.le_refl _ | omega | (simp; done) | (simp; omega)) _ | refine Below.setCell ?_ (by first | exact Nat.le_refl _ | omega | (simp; done) | (simp; omega)) _))).trans (hb1.mono (by simp)))
  have b0 : w1.cell? ⟨w.heap.size, 0, none⟩ = some (.int .i64 n) := keep hb1 (by simp [go_sem])
  have b1 : w1.cell? ⟨w.heap.size, 1, none⟩ = some (.slice a l c) := keep hb1 (by simp [go_sem])
  clear hb1 hr3
  by_cases hneg : r < 0
  · go_wp2
    go_ret
    exact ⟨rfl, hB1.out⟩
  have hsl : l ≤ 1048576 := by have := H3.out (by omega); omega
  clear H3
  go_wp2_with fail
  refine (toAig n a l c g _ (HR.out.below hB1.out) hsl).mono ?_
  rintro e w2 ⟨N2, rfl, hN2, hb2, hc2⟩
  have HC2 := hid (hc2.gates HML.out)
  replace b0 := keep hb2 b0
  replace b1 := keep hb2 b1
  have hB2 := hid (hB1.out.trans (hb2.mono hB1.out.size))
  clear hb2 hc2 hN2 hB1
  go_wp2_with fail
  refine (tseitin_spec n _ l l g lit _ HC2.out HW.out HL.out).mono ?_
  rintro e w3 ⟨sa, sL, sc, ps3, he3, hown3, hlone3, hmap3, hb3⟩
  subst he3
  rw [EV.out, EC.out]
  rw [ER.out] at hmap3
  have hs3 : IntRows w3 sa sL R := hmap3 ▸ rows_of_own hown3
  replace b0 := keep hb3 b0
  replace b1 := keep hb3 b1
  have hB3 := hid (hB2.out.trans (hb3.mono hB2.out.size))
  have hS3 := World.block_lt_of_cell? _ _ b0
  clear hb3 hown3 hlone3 hmap3 HC2 hB2
  go_wp2_with fail
  have hb34 : Below w3.heap.size w3 (w3.alloc (.cells #[.int .i64 V, .slice sa sL sc] 47)) := (by repeat (first | exact Below.refl _ _ | assumption | refine Below.drew ?_ | refine Below.alloc ?_ (by first | exact Nat.le_refl _ | omega | (simp; done) | (simp; omega)) _ | refine Below.setCell ?_ (by first | exact Nat.le_refl _ | omega | (simp; done) | (simp; omega)) _))
  have k0 : (w3.alloc (.cells #[.int .i64 V, .slice sa sL sc] 47)).cell? ⟨w3.heap.size, 0, none⟩ = some (.int .i64 V) := by simp [go_sem]
  have k1 : (w3.alloc (.cells #[.int .i64 V, .slice sa sL sc] 47)).cell? ⟨w3.heap.size, 1, none⟩ = some (.slice sa sL sc) := by simp [go_sem]
  generalize hw4 : (w3.alloc (.cells #[.int .i64 V, .slice sa sL sc] 47)) = w4 at *
  clear hw4
  replace b0 := keep hb34 b0
  replace b1 := keep hb34 b1
  have hB4 := hid (hB3.out.trans (hb34.mono hB3.out.size))
  have HS := hid (hs3.below hb34)
  have HR4 := hid (HR.out.below hB4.out)
  have HB0 := hid b0
  have HB1 := hid b1
  have HK0 := hid k0
  have HK1 := hid k1
  clear hb34 hs3 hB3 HR
  refine (toAig n a l c g _ HR4.out hsl).mono ?_
  rintro e w5 ⟨N5, rfl, hN5, hb5, hc5⟩
  have HC5 := hid hc5
  have HN5 := hid hN5
  replace b0 := keep hb5 b0
  replace b1 := keep hb5 b1
  replace k0 := keep hb5 k0
  replace k1 := keep hb5 k1
  have HX5 := hid hb5
  have hN5' : N5 < w5.heap.size := by obtain ⟨f, hf, _⟩ := hc5.row; exact hf.lt
  have HN5' := hid hN5'
  have hS5 := World.block_lt_of_cell? _ _ b0
  clear hb5 hc5 hN5 hN5'
  go_wp2_with fail
  have hb56 : Below w5.heap.size w5 (w5.alloc (.cells #[.int .i64 n, .slice (some ⟨N5, 0, none⟩) l l] 29)) := (by repeat (first | exact Below.refl _ _ | assumption | refine Below.drew ?_ | refine Below.alloc ?_ (by first | exact Nat.le_refl _ | omega | (simp; done) | (simp; omega)) _ | refine Below.setCell ?_ (by first | exact Nat.le_refl _ | omega | (simp; done) | (simp; omega)) _))
  have x0 : (w5.alloc (.cells #[.int .i64 n, .slice (some ⟨N5, 0, none⟩) l l] 29)).cell? ⟨w5.heap.size, 0, none⟩ = some (.int .i64 n) := by simp [go_sem]
  have x1 : (w5.alloc (.cells #[.int .i64 n, .slice (some ⟨N5, 0, none⟩) l l] 29)).cell? ⟨w5.heap.size, 1, none⟩ = some (.slice (some ⟨N5, 0, none⟩) l l) := by simp [go_sem]
  generalize hw6 : (w5.alloc (.cells #[.int .i64 n, .slice (some ⟨N5, 0, none⟩) l l] 29)) = w6 at *
  clear hw6
  replace b0 := keep hb56 b0
  replace b1 := keep hb56 b1
  replace k0 := keep hb56 k0
  replace k1 := keep hb56 k1
  have HX6 := hid (HX5.out.trans (hb56.mono HX5.out.size))
  have HC6 := hid (HC5.out.below hb56)
  have HZ6 := hid hb56.size
  have HZ46 := hid HX6.out.size
  clear hb56 HX5 HC5
  refine (tseitin_impl n _ l l g lit _ (HC6.out.gates HML.out) HW.out HL.out).mono ?_
  rintro e w7 ⟨ga, gL, gc, ps7, he7, hown7, hlone7, hmap7, hb7⟩
  subst he7
  rw [EV.out, EC.out]
  rw [ER.out] at hmap7
  have HLO := hid hlone7
  have HMP := hid hmap7
  replace b0 := keep hb7 b0
  replace b1 := keep hb7 b1
  replace k0 := keep hb7 k0
  replace k1 := keep hb7 k1
  replace x0 := keep hb7 x0
  replace x1 := keep hb7 x1
  have HX7 := hid (HX6.out.trans (hb7.mono HX6.out.size))
  have HC7 := hid (HC6.out.below hb7)
  have HZ7 := hid hb7.size
  have HLT := hid (rows_lt hown7)
  have hS7 := World.block_lt_of_cell? _ _ b0
  have hK7 := World.block_lt_of_cell? _ _ k0
  clear hb7 hlone7 hmap7 HX6 HC6
  have hd1 : decide (V = V ∧ R = R) = true := decide_eq_true ⟨rfl, rfl⟩
  have hd2 : (C != C) = false := by simp
  go_wp2_with fail
  have hb78 : Below w7.heap.size w7 (w7.alloc (.cells #[.int .i64 V, .slice ga gL gc] 47)) := (by repeat (first | exact Below.refl _ _ | assumption | refine Below.drew ?_ | refine Below.alloc ?_ (by first | exact Nat.le_refl _ | omega | (simp; done) | (simp; omega)) _ | refine Below.setCell ?_ (by first | exact Nat.le_refl _ | omega | (simp; done) | (simp; omega)) _))
  have j0 : (w7.alloc (.cells #[.int .i64 V, .slice ga gL gc] 47)).cell? ⟨w7.heap.size, 0, none⟩ = some (.int .i64 V) := by simp [go_sem]
  have j1 : (w7.alloc (.cells #[.int .i64 V, .slice ga gL gc] 47)).cell? ⟨w7.heap.size, 1, none⟩ = some (.slice ga gL gc) := by simp [go_sem]
  generalize hw8 : (w7.alloc (.cells #[.int .i64 V, .slice ga gL gc] 47)) = w8 at *
  clear hw8
  replace b0 := keep hb78 b0
  replace b1 := keep hb78 b1
  replace k0 := keep hb78 k0
  replace k1 := keep hb78 k1
  replace x0 := keep hb78 x0
  replace x1 := keep hb78 x1
  have HX8 := hid (HX7.out.trans (hb78.mono HX7.out.size))
  have HC8 := hid (HC7.out.below hb78)
  have HO8 := hid (hown7.below hb78)
  have HZ8 := hid (Nat.le_trans HZ7.out hb78.size)
  have HJ8 := hid hb78.size
  clear hb78 hown7 HX7 HC7
  refine (eqCnf V V _ _ _ _ _ _ R R _ (HMP.out ▸ rows_of_own HO8.out) (HS.out.below HX8.out)).mono ?_
  rintro e w9 ⟨rfl, hb9⟩
  replace b0 := keep hb9 b0
  replace b1 := keep hb9 b1
  replace k0 := keep hb9 k0
  replace k1 := keep hb9 k1
  replace x0 := keep hb9 x0
  replace x1 := keep hb9 x1
  replace j0 := keep hb9 j0
  replace j1 := keep hb9 j1
  have HX9 := hid (HX8.out.trans (hb9.mono HX8.out.size))
  have HC9 := hid (HC8.out.below hb9)
  have HO9 := hid (HO8.out.below hb9)
  have HZ9 := hid (Nat.le_trans HZ8.out hb9.size)
  clear hb9 HX8 HC8 HO8
  go_wp2_with fail
  have K11 : ∀ w11 : World, Below w9.heap.size w9 w11 → w11.cell? ⟨w5.heap.size, 0, none⟩ = some (.int .i64 n) ∧ w11.cell? ⟨w5.heap.size, 1, none⟩ = some (.slice (some ⟨N5, 0, none⟩) l l) := fun w11 h => ⟨keep h x0, keep h x1⟩
  have HK11 := hid K11
  clear K11
  go_region_with (first
    | (go_at_call 8; refine (toAig n a l c g _ (HR4.out.below HX9.out.drew) hsl).mono ?_; rintro e w10 ⟨N10, rfl, hN10, hb10, hc10⟩; have hb10' : Below w9.heap.size w9 w10 := ((Below.refl _ w9).drew).trans hb10; obtain ⟨y0, y1⟩ := HK11.out w10 hb10'; clear hb10)
    | (go_at_call 10; refine (eqAig n _ _ l l l g _ ((HC9.out.below hb10').gates HML.out) (hc10.gates HML.out)).mono ?_; rintro e w11 ⟨rfl, hb11⟩))
  all_goals
    have hbb := hb10'.trans (hb11.mono hb10'.size)
    replace x0 := keep hbb x0
    replace x1 := keep hbb x1
    replace k0 := keep hbb k0
    replace k1 := keep hbb k1
    replace j0 := keep hbb j0
    replace j1 := keep hbb j1
    have HX11 := hid (HX9.out.trans (hbb.mono HX9.out.size))
    have HC11 := hid (HC9.out.below hbb)
    have HO11 := hid (HO9.out.below hbb)
    have HZ11 := hid (Nat.le_trans HZ9.out hbb.size)
    clear hbb hb10' hb11 hc10 hN10 y0 y1 HX9 HC9 HO9 HK11 b0 b1
    go_wp2_with fail
    refine (markAig.mark_aig n N5 l 1 _ (by obtain ⟨f, hf, _⟩ := HC11.out.row; exact ⟨f, hf⟩) (by omega) (by omega) hsl).mono ?_
    rintro e w12 ⟨rfl, ho12⟩
    have HO12 := hid (rows_oth HO11.out ho12 (by have := HN5'.out; have := HZ6.out; omega))
    have HX12 := hid (HX11.out.trans (ho12.below HX11.out.size HN5.out))
    replace j0 := ho12.cell (by have := HN5'.out; have := HZ6.out; have := HZ7.out; omega) j0
    replace j1 := ho12.cell (by have := HN5'.out; have := HZ6.out; have := HZ7.out; omega) j1
    replace k0 := keep HX12.out HK0.out
    replace k1 := keep HX12.out HK1.out
    have HZ12 := hid (Nat.le_trans HZ11.out ho12.size)
    clear ho12 HO11 HX11 HC11 x0 x1
    have hd5 : decide ((1 + 2 * (l : Int)) < 0) = false := decide_eq_false (by omega)
    go_wp2_with fail
    refine (eqCnf V V _ _ _ _ _ _ R R _ (HMP.out ▸ rows_of_own HO12.out) (HS.out.below HX12.out)).mono ?_
    rintro e w13 ⟨rfl, hb13⟩
    replace k0 := keep hb13 k0
    replace k1 := keep hb13 k1
    replace j0 := keep hb13 j0
    replace j1 := keep hb13 j1
    have HX13 := hid (HX12.out.trans (hb13.mono HX12.out.size))
    have HO13 := hid (HO12.out.below hb13)
    have HZ13 := hid (Nat.le_trans HZ12.out hb13.size)
    clear hb13 HX12 HO12
    have HPL : Hid (ps7.length ≤ 2000) := by show _ ≤ _; rw [← List.length_map (f := fun q : Value × List Int => q.2), HMP.out]; exact HRL.out
    go_wp2_with fail
    refine (markCnf_own w6.heap.size V _ _ _ ps7 1 _ HO13.out HLO.out HZ13.out (by omega) (by rw [lens_eq HMP.out]; have := HRS.out; omega) (by have := HPL.out; omega)).mono ?_
    rintro e w14 ⟨rfl, qs, hown14, hmarks, hb14, honly⟩
    rw [lens_eq HMP.out] at hmarks ⊢
    have hSum : (R.map List.length).sum ≤ 5000 := HRS.out
    obtain ⟨S, hS⟩ : ∃ S, (R.map List.length).sum = S := ⟨_, rfl⟩
    rw [hS] at hSum ⊢
    have HSum := hid hS
    have HM14 := hid (hmarks ▸ rows_of_own hown14)
    have HX14 := hid (HX13.out.trans (hb14.mono HZ46.out))
    have hne : ∀ u ∈ ps7.map Prod.fst, u.ownBlock ≠ some w7.heap.size := fun u hu e => by
      obtain ⟨p, hp, rfl⟩ := List.mem_map.1 hu
      have := HLT.out p hp _ e
      omega
    replace j0 := cell_only j0 honly hne
    replace j1 := cell_only j1 honly hne
    replace k0 := keep HX14.out HK0.out
    replace k1 := keep HX14.out HK1.out
    clear hown14 hmarks hb14 honly hne HX13 HO13 hS
    go_wp2_with fail
    refine (heldCnf_rows V _ _ _ (R.map List.length) 1 _ HM14.out (by omega) (by have := HRS.out; omega)).mono ?_
    rintro e w15 ⟨rfl, hb15⟩
    rw [HSum.out]
    replace j0 := keep hb15 j0
    replace j1 := keep hb15 j1
    have HX15 := hid (HX14.out.trans (hb15.mono HX14.out.size))
    have HM15 := hid (HM14.out.below hb15)
    have HB15 := hid hb15
    clear hb15 HX14 HM14 k0 k1
    have hd6 : decide ((1 + (S : Int)) < 0) = false := decide_eq_false (by omega)
    have hd7 : ((1 + (S : Int)) != (1 + (S : Int))) = false := by simp
    have b0 := keep HX15.out HB0.out
    have b1 := keep HX15.out HB1.out
    go_wp2_with fail
    refine (toAig n a l c g _ (HR4.out.below HX15.out) hsl).mono ?_
    rintro e w16 ⟨N16, rfl, hN16, hb16, hc16⟩
    have HC16 := hid hc16
    have HX16 := hid (HX15.out.trans (hb16.mono HX15.out.size))
    have HM16 := hid (HM15.out.below hb16)
    replace j0 := keep hb16 j0
    replace j1 := keep hb16 j1
    clear hb16 hc16 hN16 b0 b1 HX15 HM15 HB15
    go_wp2_with fail
    refine (tseitin_impl n _ l l g lit _ (HC16.out.gates HML.out) HW.out HL.out).mono ?_
    rintro e w17 ⟨ha, hLn, hcp, ps17, he17, hown17, hlone17, hmap17, hb17⟩
    subst he17
    rw [EV.out, EC.out]
    rw [ER.out] at hmap17
    have HI17 : Hid (IntRows w17 ha hLn R) := hmap17 ▸ rows_of_own hown17
    have HX17 := hid (HX16.out.trans (hb17.mono HX16.out.size))
    have HM17 := hid (HM16.out.below hb17)
    replace j0 := keep hb17 j0
    replace j1 := keep hb17 j1
    have k0 := keep HX17.out HK0.out
    have k1 := keep HX17.out HK1.out
    have hk17 := World.block_lt_of_cell? _ _ k0
    have hj17 := World.block_lt_of_cell? _ _ j0
    clear hb17 hown17 hlone17 hmap17 HX16 HM16 HC16
    go_wp2_with fail
    refine (eqCnf V V _ _ _ _ _ _ R R _ (HI17.out.below (by repeat (first | exact Below.refl _ _ | assumption | refine Below.drew ?_ | refine Below.alloc ?_ (by first | exact Nat.le_refl _ | omega | (simp; done) | (simp; omega)) _ | refine Below.setCell ?_ (by first | exact Nat.le_refl _ | omega | (simp; done) | (simp; omega)) _))) ((HS.out.below HX17.out).below (by repeat (first | exact Below.refl _ _ | assumption | refine Below.drew ?_ | refine Below.alloc ?_ (by first | exact Nat.le_refl _ | omega | (simp; done) | (simp; omega)) _ | refine Below.setCell ?_ (by first | exact Nat.le_refl _ | omega | (simp; done) | (simp; omega)) _)))).mono ?_
    rintro e w18 ⟨rfl, hb18⟩
    have hb178 : Below w17.heap.size w17 w18 := (show Below w17.heap.size w17 _ from (by repeat (first | exact Below.refl _ _ | assumption | refine Below.drew ?_ | refine Below.alloc ?_ (by first | exact Nat.le_refl _ | omega | (simp; done) | (simp; omega)) _ | refine Below.setCell ?_ (by first | exact Nat.le_refl _ | omega | (simp; done) | (simp; omega)) _))).trans (hb18.mono (by simp))
    replace j0 := keep hb178 j0
    replace j1 := keep hb178 j1
    have HX18 := hid (HX17.out.trans (hb178.mono HX17.out.size))
    have HM18 := hid (HM17.out.below hb178)
    clear hb18 hb178 HX17 HM17 k0 k1 HI17
    go_wp2_with fail
    refine (heldCnf_rows V _ _ _ (R.map List.length) 1 _ HM18.out (by omega) (by have := HRS.out; omega)).mono ?_
    rintro e w19 ⟨rfl, hb19⟩
    rw [HSum.out]
    have HX19 := hid (HX18.out.trans (hb19.mono HX18.out.size))
    clear hb19
    go_wp2
    go_ret
    exact ⟨rfl, hB4.out.trans (HX19.out.mono hB4.out.size)⟩

theorem own : ownKnob Try.prog.godebug = none := by kernel_rfl

set_option maxRecDepth 100000 in
theorem lifted (os : Os) (started : os.Started) (H : Type) (enc : TypeId × Value → H) :
    ReturnsInHanded {} Try.checked os 5 .any (Rows.fnExactTseitinSpec.pre6 enc Try.prog Try.f5 Rows.fnExactTseitinRow.domain false) (Rows.fnExactTseitinSpec.post enc Try.prog Try.f5 false true false false) := by
  refine returnsInHanded_of_change (C := Try.checked) own started (by kernel_rfl) Try.func5
    (ChangeSpec.witness6 (enc := enc) (C := Try.checked) false ⟨#[], #[.agg #[.int .i64 0, .slice none 0 0], .int .i64 0], []⟩ 8 (by kernel_rfl) (by kernel_rfl) (by kernel_rfl) (by kernel_rfl)) ?_
  intro W base args ds gs before hval0 hW hcnd _
  have hval : ∀ (j : Nat) t v, Try.f5.params[j]? = some t → args[j]? = some v → Value.okWide Try.prog W .any base t v := hval0
  have hW' := hW
  obtain ⟨p, q, hA0, hV, rfl, hfz, hnd⟩ := hW
  have hA : DataW.TrodAll enc Try.prog W 0 (fun _ => true) true Try.f5.params.toList args.toList ds p := hA0
  rw [Try.params5] at hA hval
  obtain ⟨v0, vs0, d0, ds0, p0, q0, hargs, rfl, rfl, h0, r0⟩ := trodAll_cons hA
  obtain ⟨v1, vs1, d1, ds1, p1, q1, rfl, rfl, rfl, h1, r1⟩ := trodAll_cons r0
  obtain ⟨rfl, rfl, rfl⟩ := trodAll_nil r1
  obtain rfl : args = #[v0, v1] := by cases args; simp_all
  obtain ⟨rfl, rfl⟩ := trodVars_none hV
  have k0 := h0
  have lt0 : ∀ x ∈ p0, x.block < W.heap.size := by obtain ⟨m, hm⟩ := k0; exact DataW.trod_lt m _ _ _ hm
  have k1 := h1
  have lt1 : ∀ x ∈ p1, x.block < W.heap.size := by obtain ⟨m, hm⟩ := k1; exact DataW.trod_lt m _ _ _ hm
  obtain ⟨lit, rfl⟩ := okWide_int Try.underlying3 (hval 1 3 v1 rfl rfl)
  have hlit : I64 lit := by
    obtain ⟨fuel, hf⟩ := h1
    obtain ⟨z, e, hz⟩ := int_of_trod (v := .int .i64 lit) Try.underlying3 (by simpa [Value.cells] using hf)
    cases e
    exact in64_of hz
  obtain ⟨c0, c1, y0, y1, m, rfl, hd0, hp0, hy0, hy1⟩ := open_agg2 Try.underlying24 (by kernel_rfl) cells_aig (hval 0 24 v0 rfl rfl) h0
  obtain ⟨n, rfl, _⟩ := int_of_trod Try.underlying3 hy0
  obtain ⟨a, len, cap, g, rfl, hrow, hwf⟩ := gates_of_trod hy1
  clear hA0 hval0
  refine (walk n a len cap g lit W hrow hwf hlit).mono fun e W' ⟨he, bel⟩ => ?_
  subst he
  exact ⟨_, rfl, _, _, _, [], _, [], hW', trodAll_mk1 (shut_bool Try.underlying4 _), (trodAll_cons_mk (Below.trod laidOut (by kernel_rfl) (of_decide_eq_true (by kernel_rfl)) k0 bel lt0) (trodAll_cons_mk (Below.trod laidOut (by kernel_rfl) (of_decide_eq_true (by kernel_rfl)) k1 bel lt1) trodAll_mk0)), rfl, bel.frame _, fun h => by cases h⟩

theorem over : Rows.fnExactTseitinRow.holds Try.pinned (OpenSpec.ofChange Rows.fnExactTseitinSpec) :=
  OpenClaim.holds_of_wide 5 Try.f5 rfl rfl rfl rfl rfl rfl rfl ⟨rfl, rfl, rfl, rfl, rfl⟩ rfl rfl rfl rfl rfl (by kernel_rfl) Try.func5 (by kernel_rfl)
    (of_decide_eq_true (by kernel_rfl)) (by unfold Func.isWrapper; first | (rw [if_pos (by decide +kernel)]; kernel_rfl) | (rw [if_neg (by decide +kernel)]; exact ⟨rfl, rfl⟩))
    (fun os started H enc _ => lifted os started H enc)
end Go.Proofs.Ytijeicccmjgpiaa.fnExactTseitin
namespace Go.Proofs.Ytijeicccmjgpiaa
theorem fnExactTseitin_holds : Rows.FnExactTseitinSaid := fnExactTseitin.over
end Go.Proofs.Ytijeicccmjgpiaa
