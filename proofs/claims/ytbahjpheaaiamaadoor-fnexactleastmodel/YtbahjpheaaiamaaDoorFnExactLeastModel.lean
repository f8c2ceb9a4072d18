/- For every formula LeastModel answers as its specification (the least model's values, or that there is none, and the code); the argument is as it was, the answer owns its memory; the library's table is as its initialiser lays it, tied to the program's text; conditions: none. -/
import Derived.Test.YtbahjpheaaiamaaDoorPart49
import Derived.Test.YtbahjpheaaiamaaDoorPart50
import Derived.Test.YtbahjpheaaiamaaDoorCards
import Derived.Test.YtbahjpheaaiamaaDoorTie
import Derived.OpenVars
import Derived.SevenTiedAt
import Derived.Deep.DeepHandedRow
import Derived.Lib.LaidTab
import Derived.LaidSub
namespace Go.Proofs.YtbahjpheaaiamaaDoor.fnExactLeastModel
open Go.ChangeShapes Go.WideShapes Go.ChangeAt Go.RowKit Go.Deep Go.Joins base copy cnf args rowsOwn copyOwn solOps lmFace
open nodes (OwnBools)
open markBools (held_bools mark_own)
set_option linter.unusedVariables false
set_option linter.unusedSimpArgs false

set_option maxHeartbeats 6400000 in
set_option maxRecDepth 8000 in
theorem walk (vars : Int) (a : Option Addr) (len cap : Nat) (zss : List (List Int)) (w : World) (hr : IntRows w a len zss) (ht : Tab w) :
    Calls Tryd.prog 3 #[.agg #[.int .i64 vars, .slice a len cap]] w fun e w' => e = .returned (.bool true) ∧ Below w.heap.size w w' := by
  have HR := hid hr
  have HT := hid ht
  clear hr ht
  have HI := hid (fun a cap w hr ht => lm_impl vars a len cap zss w hr ht)
  go_enter Tryd.func3, Tryd.ntmps3
  go_wp2_with fail
  refine (szCnf_sum vars a len cap zss 1048576 _ ?_ (by omega) (by omega)).mono ?_
  · exact HR.out.below (by repeat (first | exact Below.refl _ _ | assumption | refine Below.drew ?_ | refine Below.alloc ?_ (by first | exact Nat.le_refl _ | omega | (simp; done) | (simp; omega)) _ | refine Below.setCell ?_ (by first | exact Nat.le_refl _ | omega | (simp; done) | (simp; omega)) _))
  rintro e w1 ⟨r, rfl, hb1, hr1, hr2, hr3⟩
  have H3 := hid hr3
  have hB1 := hid ((show Below w.heap.size w _ from (by repeat (first | exact Below.refl _ _ | assumption | refine Below.drew ?_ | refine Below.alloc ?_ (by first | exact Nat.le_refl _ | omega | (simp; done) | (simp; omega)) _ | refine Below.setCell ?_ (by first | exact Nat.le_refl _ | omega | (simp; done) | (simp; omega)) _))).trans (hb1.mono (by simp)))
  have b0 : w1.cell? ⟨w.heap.size, 0, none⟩ = some (.int .i64 vars) := keep hb1 (by simp [go_sem])
  have b1 : w1.cell? ⟨w.heap.size, 1, none⟩ = some (.slice a len cap) := keep hb1 (by simp [go_sem])
  have z1 : w.heap.size < w1.heap.size := by have := hb1.size; simp at this; omega
  clear hb1 hr3
  by_cases hneg : r < 0
  · go_wp2
    go_ret
    exact ⟨rfl, hB1.out⟩
  have hsz := hid (H3.out (by omega))
  clear H3
  have HLn := hid HR.out.length
  have HLen : Hid (len ≤ 1048576) := by have := hsz.out; show _ ≤ _; omega
  have HEach : Hid (∀ i, i < len → (zss[i]?.getD []).length ≤ 1048576) := fun i hi => by
    have h1 := at_le (ls := zss.map List.length) (i := i) (by rw [List.length_map, HLn.out]; exact hi)
    rw [List.getElem?_map] at h1
    have h2 : (zss[i]?.getD []).length = (Option.map List.length zss[i]?).getD 0 := by cases zss[i]? <;> rfl
    have := hsz.out
    omega
  have HSmall : Hid ((len : Int) ≤ 1048576 ∧ ∀ i, i < len → ((zss[i]?.getD []).length : Int) ≤ 1048576) := ⟨by have := HLen.out; omega, fun i hi => by have := HEach.out i hi; omega⟩
  have HSum : Hid (1 + ((zss.map List.length).sum : Nat) ≤ (1048576 : Int)) := by
    have h1 := hsz.out
    show _ ≤ _
    by_cases h0 : len = 0
    · have : zss = [] := List.length_eq_zero_iff.1 (by rw [HLn.out]; exact h0)
      subst this
      simp
    · omega
  have HS := hid (fun (W : World) (N : Nat) (hq : Copied W N zss) => lm_spec 0 vars (some ⟨N, 0, none⟩) len len (copiedPs N zss) zss (copiedPs_snd N zss) W (by
    have ho := (copied_own (B := 0) hq (Nat.zero_le _) (by rw [HLn.out]; have := HLen.out; unfold maxLen; omega) (fun i hi => by have := HEach.out i (by rw [← HLn.out]; exact hi); unfold maxLen; omega)).1
    rw [HLn.out] at ho
    exact ho))
  go_wp2_with fail
  refine (toCnf vars a len cap zss _ (HR.out.below hB1.out) HLen.out HEach.out).mono ?_
  rintro e w2 ⟨N2, rfl, hN2, hb2, hc2⟩
  have HC2 := hid hc2
  replace b0 := keep hb2 b0
  replace b1 := keep hb2 b1
  have hB2 := hid (hB1.out.trans (hb2.mono hB1.out.size))
  have z2 : w.heap.size < w2.heap.size := by have := hb2.size; omega
  clear hb2 hc2 z1 hB1
  go_wp2_with fail
  refine (HS.out _ _ HC2.out).mono ?_
  rintro e w4 ⟨x, L, C, rfl, hla, ho4, hb4⟩
  have hB4 := hid (hB2.out.trans (hb4.mono hB2.out.size))
  have OX := hid ho4
  have HLa := hid hla
  have hln : L.length ≤ 1048576 := Nat.le_trans (lm_length hla) (by decide)
  have hln40 : L.length ≤ 40 := lm_length hla
  have hdL : decide (L = L) = true := decide_eq_true rfl
  have hqC : (C != C) = false := by simp
  obtain ⟨ax, cx, rfl, _⟩ := ho4.form rfl
  replace b0 := keep hb4 b0
  replace b1 := keep hb4 b1
  have z4 : w.heap.size < w4.heap.size := by have := hb4.size; omega
  have HF0 := hid b0
  have HF1 := hid b1
  clear ho4 hb4 hB2 HC2 z2 hla
  go_wp2_with fail
  refine (toCnf vars a len cap zss _ (HR.out.below hB4.out) HLen.out HEach.out).mono ?_
  rintro e w5 ⟨N5, rfl, hN5, hb5, hc5⟩
  replace b0 := keep hb5 b0
  replace b1 := keep hb5 b1
  have HC5 := hid hc5
  have HN5 := hid hN5
  have z45 : w4.heap.size < w5.heap.size := by
    obtain ⟨c, hh, _⟩ := hc5.outer
    have := (Array.getElem?_eq_some_iff.1 hh).1
    omega
  have hB5 := hid (hB4.out.trans (hb5.mono hB4.out.size))
  have K5 := hid hb5
  have z5 : w.heap.size < w5.heap.size := by omega
  have HCl := hid (copied_lt hc5)
  clear hb5 hc5 hN5
  have HI5 : Hid (∀ W : World, Below w5.heap.size w5 W → IntRows W (some ⟨N5, 0, none⟩) len zss ∧ Tab W) := hid (fun W hW => ⟨(HC5.out.below hW).rowsLen HLn.out HSmall.out, tab_below HT.out (hB5.out.trans (hW.mono hB5.out.size))⟩)
  go_wp2_with fail
  refine (HI.out _ _ _ (HI5.out _ (by repeat (first | exact Below.refl _ _ | assumption | refine Below.drew ?_ | refine Below.alloc ?_ (by first | exact Nat.le_refl _ | omega | (simp; done) | (simp; omega)) _ | refine Below.setCell ?_ (by first | exact Nat.le_refl _ | omega | (simp; done) | (simp; omega)) _))).1 (HI5.out _ (by repeat (first | exact Below.refl _ _ | assumption | refine Below.drew ?_ | refine Below.alloc ?_ (by first | exact Nat.le_refl _ | omega | (simp; done) | (simp; omega)) _ | refine Below.setCell ?_ (by first | exact Nat.le_refl _ | omega | (simp; done) | (simp; omega)) _))).2).mono ?_
  rintro e w7 ⟨y, L7, C7, rfl, hla7, ho7, hb7⟩
  obtain ⟨rfl, rfl⟩ := HLa.out.uniq hla7
  have hb57 : Below w5.heap.size w5 w7 := (show Below w5.heap.size w5 _ from (by repeat (first | exact Below.refl _ _ | assumption | refine Below.drew ?_ | refine Below.alloc ?_ (by first | exact Nat.le_refl _ | omega | (simp; done) | (simp; omega)) _ | refine Below.setCell ?_ (by first | exact Nat.le_refl _ | omega | (simp; done) | (simp; omega)) _))).trans (hb7.mono (by simp))
  have x0 : w7.cell? ⟨w5.heap.size, 0, none⟩ = some (.int .i64 vars) := keep hb7 (by simp [go_sem])
  have x1 : w7.cell? ⟨w5.heap.size, 1, none⟩ = some (.slice (some ⟨N5, 0, none⟩) len len) := keep hb7 (by simp [go_sem])
  have K7 := hid (K5.out.trans (hb57.mono K5.out.size))
  have HC7 := hid (HC5.out.below hb57)
  have OY := hid (show OwnBools (w5.heap.size + 1) w7 y L by have h9 := ho7; rw [World.size_alloc] at h9; exact h9)
  obtain ⟨ay, cy, rfl, ry7⟩ := ho7.form rfl
  have GY := hid (fun g (hg : (Value.slice ay L.length cy).ownBlock = some g) => (World.ownsRow.lt OY.out g hg).1)
  have RY7 := hid ry7
  have RX7 := hid (markBools.row_of_own (OX.out.below K7.out))
  replace b0 := keep hb57 b0
  replace b1 := keep hb57 b1
  have z57 : w5.heap.size < w7.heap.size := by have := hb7.size; simp at this; omega
  clear ho7 hb7 ry7 HC5 K5 hb57 hla7 HI5
  go_wp2_with fail
  refine (eqBoolS _ _ _ _ _ _ L L _ RY7.out RX7.out).mono ?_
  rintro e w8 ⟨rfl, n8, rfl⟩
  have b78 : Hid (Below w7.heap.size w7 (w7.drewN n8)) := base.below_drewN _ _
  generalize w7.drewN n8 = w8 at *
  have K8 := hid (K7.out.trans (b78.out.mono K7.out.size))
  have HC8 := hid (HC7.out.below b78.out)
  have OY8 := hid (OY.out.below b78.out)
  have hB8 := hid (hB4.out.trans (K8.out.mono hB4.out.size))
  replace b0 := keep b78.out b0
  replace b1 := keep b78.out b1
  replace x0 := keep b78.out x0
  replace x1 := keep b78.out x1
  have z78 : w7.heap.size ≤ w8.heap.size := b78.out.size
  clear b78 HC7 OY RY7 RX7 K7
  go_wp2_with fail
  have HK8 : Hid (∀ w8' : World, Below w8.heap.size w8 w8' → w8'.cell? ⟨w5.heap.size, 0, none⟩ = some (.int .i64 vars) ∧ w8'.cell? ⟨w5.heap.size, 1, none⟩ = some (.slice (some ⟨N5, 0, none⟩) len len) ∧ w8'.cell? ⟨w.heap.size, 0, none⟩ = some (.int .i64 vars) ∧ w8'.cell? ⟨w.heap.size, 1, none⟩ = some (.slice a len cap) ∧ Below w8.heap.size w8 w8') := fun w8' h => ⟨keep h x0, keep h x1, keep h b0, keep h b1, h⟩
  go_region_held3 (fun w8' => w8'.cell? ⟨w5.heap.size, 0, none⟩ = some (.int .i64 vars) ∧ w8'.cell? ⟨w5.heap.size, 1, none⟩ = some (.slice (some ⟨N5, 0, none⟩) len len) ∧ w8'.cell? ⟨w.heap.size, 0, none⟩ = some (.int .i64 vars) ∧ w8'.cell? ⟨w.heap.size, 1, none⟩ = some (.slice a len cap) ∧ Below w8.heap.size w8 w8')
    (refine HK8.out _ (by first | assumption | exact (Below.refl _ w8).drew | exact hb9' | exact hb810))
    (first
      | (go_at_call 7; refine (toCnf vars a len cap zss _ (HR.out.below hB8.out.drew) HLen.out HEach.out).mono ?_; rintro e w9 ⟨N9, rfl, hN9, hb9, hc9⟩; have hb9' : Below w8.heap.size w8 w9 := ((Below.refl _ w8).drew).trans hb9; clear hb9)
      | (go_at_call 10; refine (eqCnf vars vars _ _ len len len len zss zss _ ((HC8.out.rowsLen HLn.out HSmall.out).below hb9') (hc9.rowsLen HLn.out HSmall.out)).mono ?_; rintro e w10 ⟨rfl, hb10⟩; have hb810 : Below w8.heap.size w8 w10 := hb9'.trans (hb10.mono hb9'.size); clear hb10))
  all_goals
    have hd : decide (vars = vars ∧ zss = zss) = true := decide_eq_true ⟨rfl, rfl⟩
    have b0 := keep hb810 b0
    have b1 := keep hb810 b1
    have x0 := keep hb810 x0
    have x1 := keep hb810 x1
    have K10 := hid (K8.out.trans (hb810.mono K8.out.size))
    have HC10 := hid (HC8.out.below hb810)
    have OY10 := hid (OY8.out.below hb810)
    have hB10 := hid (hB4.out.trans (K10.out.mono hB4.out.size))
    have z810 : w8.heap.size ≤ w10.heap.size := hb810.size
    clear hb9' hb810 hc9 hN9
    have HX10 := hid (copied_own (B := w4.heap.size) HC10.out HN5.out (by rw [HLn.out]; have := HLen.out; unfold maxLen; omega) (fun i hi => by have := HEach.out i (by rw [← HLn.out]; exact hi); unfold maxLen; omega))
    go_wp2_with fail
    have s1 := HSum.out
    have HLc := hid (lens_copied N5 zss)
    refine (markCnf_own w4.heap.size vars (some ⟨N5, 0, none⟩) len len (copiedPs N5 zss) 1 _ (by have h := HX10.out.1; rw [HLn.out] at h; exact h) HX10.out.2 (by omega) (by omega) (by rw [HLc.out]; exact s1) (by rw [copied_length, HLn.out]; exact HLen.out)).mono ?_
    rintro e w13 ⟨rfl, qs13, ho13, hm13, hb13, hon13⟩
    rw [HLc.out]
    obtain ⟨SX, hSX⟩ : ∃ SX : Nat, (zss.map List.length).sum = SX := ⟨_, rfl⟩
    rw [hSX]
    have HCl8 : Hid (∀ u ∈ (copiedPs N5 zss).map Prod.fst, ∀ g, u.ownBlock = some g → g < w5.heap.size) := HCl.out
    have K13 := hid (K10.out.trans hb13)
    have b0 := keepB hb13 (show w.heap.size < w4.heap.size by omega) b0
    have b1 := keepB hb13 (show w.heap.size < w4.heap.size by omega) b1
    have OY13 : Hid (OwnBools (w5.heap.size + 1) w13 (.slice ay L.length cy) L) := hid (own_only OY10.out hon13 (fun u hu g hg => by have := HCl8.out u hu g hg; omega))
    have z1013 : w10.heap.size ≤ w13.heap.size := hon13.1
    clear ho13 hm13 hb13 hon13 x0 x1
    have hSm : SX ≤ 1048575 := by rw [hSX] at s1; omega
    have hk0 : ¬ (1 + (SX : Int) < 0) := by omega
    clear hSX s1 HX10
    go_wp2_with fail
    refine (eqBoolS _ _ _ _ _ _ L L _ (markBools.row_of_own OY13.out) (markBools.row_of_own (OX.out.below K13.out))).mono ?_
    rintro e w15 ⟨rfl, n15, rfl⟩
    have b1415 : Hid (Below w13.heap.size w13 (w13.drewN n15)) := base.below_drewN _ _
    generalize w13.drewN n15 = w15 at *
    have K15 := hid (K13.out.trans (b1415.out.mono K13.out.size))
    have OY15 := hid (OY13.out.below b1415.out)
    have b0 := keep b1415.out b0
    have b1 := keep b1415.out b1
    have z1315 : w13.heap.size ≤ w15.heap.size := b1415.out.size
    clear b1415
    go_wp2_with fail
    refine (mark_own (w5.heap.size + 1) L.length ay cy L 1 _ OY15.out (by omega) (by omega) hln (by omega)).mono ?_
    rintro e w16 ⟨rfl, hb16, om16⟩
    have K16 : Hid (Below w4.heap.size w4 w16) := hid (K15.out.trans (hb16.mono (by omega)))
    have RM16 := hid om16
    have b0 := keep K16.out HF0.out
    have b1 := keep K16.out HF1.out
    clear hb16 om16
    have hq1 : ((1 : Int) + (L.length : Int) != 1 + (L.length : Int)) = false := by simp
    go_wp2_with fail
    refine (held_bools _ L.length cy 1 _ RM16.out (by omega) (by omega) hln).mono ?_
    rintro e w17 ⟨rfl, hw17⟩
    have hw17 := hw17.symm
    subst hw17
    have hB16 := hid (hB4.out.trans (K16.out.mono hB4.out.size))
    go_wp2_with fail
    refine (toCnf vars a len cap zss _ (HR.out.below hB16.out) HLen.out HEach.out).mono ?_
    rintro e w18 ⟨N18, rfl, hN18, hb18, hc18⟩
    have K18 := hid (K16.out.trans (hb18.mono K16.out.size))
    have hB18 := hid (hB4.out.trans (K18.out.mono hB4.out.size))
    have HC18 := hid hc18
    have RM18 := hid (RM16.out.below hb18)
    clear hN18 hb18 hc18 b0 b1
    go_wp2_with fail
    refine (HI.out _ _ _ (HC18.out.rowsLen HLn.out HSmall.out) (tab_below HT.out hB18.out)).mono ?_
    rintro e w20 ⟨z, L20, C20, rfl, hla20, ho20, hb20⟩
    obtain ⟨rfl, rfl⟩ := HLa.out.uniq hla20
    have K20 := hid (K18.out.trans (hb20.mono K18.out.size))
    have RM20 := hid (RM18.out.below hb20)
    obtain ⟨az, cz, rfl, rz20⟩ := ho20.form rfl
    have RZ20 := hid rz20
    clear ho20 hb20 rz20 hla20
    go_wp2_with fail
    refine (eqBoolS _ _ _ _ _ _ L L _ RZ20.out (markBools.row_of_own (OX.out.below K20.out))).mono ?_
    rintro e w21 ⟨rfl, n21, rfl⟩
    have b2021 : Hid (Below w20.heap.size w20 (w20.drewN n21)) := base.below_drewN _ _
    generalize w20.drewN n21 = w21 at *
    have K21 := hid (K20.out.trans (b2021.out.mono K20.out.size))
    have RM21 := hid (RM20.out.below b2021.out)
    clear b2021
    go_wp2_with fail
    refine (held_bools _ L.length cy 1 _ RM21.out (by omega) (by omega) hln).mono ?_
    rintro e w22 ⟨rfl, hw22⟩
    have hw22 := hw22.symm
    subst hw22
    have hB21 := hid (hB4.out.trans (K21.out.mono hB4.out.size))
    go_wp2
    go_ret
    exact ⟨rfl, hB21.out⟩
theorem own : ownKnob Tryd.prog.godebug = none := by kernel_rfl
theorem laidOut : laidOutB Tryd.prog = true := by kernel_rfl
theorem cells_cnf : Tryd.prog.cellsOf 24 = 2 := by kernel_rfl

/- The library's table as its initialiser lays it. -/
def b64Ints : List Int := [0, 1, 56, 2, 57, 49, 28, 3, 61, 58, 42, 50, 38, 29, 17, 4, 62, 47, 59, 36, 45, 43, 51, 22, 53, 39, 33, 30, 24, 18, 12, 5, 63, 55, 48, 27, 60, 41, 37, 16, 46, 35, 44, 21, 52, 32, 23, 11, 54, 26, 40, 15, 34, 20, 31, 10, 25, 14, 19, 9, 13, 8, 7, 6]
def b64Tab : List Value := b64Ints.map (Value.int .u8)
def laidAs (l : List Value) : Obj → Obj
  | .cells _ t frozen => .cells l.toArray t frozen
  | o => o
def gB64 : Nat := 0
theorem same_tab : ∀ j, j < Lib.deBruijn64tab.length → (b64Ints.map fun z => Value.int .u8 z).toArray[j]? = some (.int .u8 (Lib.deBruijn64tab.getD j 0)) := by
  intro j hj
  have hl : Lib.deBruijn64tab.length = 64 := by decide +kernel
  rw [hl] at hj
  have h : ∀ j : Fin 64, b64Ints[j.1]? = some ((Lib.deBruijn64tab.getD j.1 0 : Nat) : Int) := by decide +kernel
  have := h ⟨j, hj⟩
  simp only [List.getElem?_toArray, List.getElem?_map]
  rw [this]
  rfl
theorem table {W : World} (h : laidMetH Tryd.prog Rows.fnExactLeastModelRow.laid W) : Tab W := by
  have h1 := h.filter (fun x => x.1 == "math/bits.deBruijn64tab")
  have h2 : laidMet Tryd.prog [("math/bits.deBruijn64tab", Lib.tabData .u8 b64Ints)] W := h1
  have h3 := Lib.tabIs_of_head (g := 0) (t := 97) (e := 5) (n := 64) (by kernel_rfl) (by kernel_rfl) Tryd.underlying97 Tryd.underlying5 (by kernel_rfl) (by kernel_rfl) h2
  unfold Lib.TabIs World.var? at h3
  rw [show Tryd.prog.globalNamed "math/bits.deBruijn64tab" = some 0 by kernel_rfl] at h3
  simp only [Option.bind_some] at h3
  split at h3
  · rename_i cs t fr hh
    injection h3 with h3
    intro j hj
    have h4 := same_tab j hj
    rw [← h3] at h4
    simp only [World.cell?, hh, h4]
    first | done | exact h4 | rfl | simp
  · cases h3

theorem laid_met (os : Os) : laidMet Tryd.prog Rows.fnExactLeastModelRow.laid (({ World.holding Tryd.prog os ⟨#[], #[], []⟩ with heap := (World.holding Tryd.prog os ⟨#[], #[], []⟩).heap.modify gB64 (laidAs b64Tab) } : World).forCall (fun _ _ => 0) ⟨#[], #[.agg #[.int .i64 0, .slice none 0 0]], []⟩).memory :=
  laidMet_of_run' 8 (by kernel_rfl) (by kernel_rfl)
theorem reads (os : Os) {H : Type} (enc : TypeId × Value → H) : ∃ places, DataW.whole enc Tryd.prog (({ World.holding Tryd.prog os ⟨#[], #[], []⟩ with heap := (World.holding Tryd.prog os ⟨#[], #[], []⟩).heap.modify gB64 (laidAs b64Tab) } : World).forCall (fun _ _ => 0) ⟨#[], #[.agg #[.int .i64 0, .slice none 0 0]], []⟩).memory Tryd.f3.params.toList Rows.fnExactLeastModelSpec.vars false #[Value.agg #[.int .i64 0, .slice none 0 0]].toList 8 = some ([.agg [.lit (.int .i64 0), .nil]], [], places) :=
  ⟨[], by kernel_rfl⟩

set_option maxRecDepth 100000 in
theorem contract (H : Type) (enc : TypeId × Value → H) (W : World) (base : Nat) (args : Array Value) (ds gs : List (DataW H)) (before : List MemPlace)
    (hval : ∀ (j : Nat) t v, Tryd.f3.params[j]? = some t → args[j]? = some v → Value.okWide Tryd.prog W .any base t v)
    (hW : DataW.Whole enc Tryd.prog Tryd.f3.params.toList Rows.fnExactLeastModelSpec.vars false W args.toList ds gs before) (hL : laidMetH Tryd.prog Rows.fnExactLeastModelRow.laid W) :
    Calls Tryd.prog 3 args W fun e W' => ∃ v, e = .returned v ∧ Rows.fnExactLeastModelSpec.post enc Tryd.prog Tryd.f3 false true false false W args v W' := by
  have hW' := hW
  obtain ⟨p, q, hA0, hV, rfl, hfz, hnd⟩ := hW
  have hA : DataW.TrodAll enc Tryd.prog W 0 (fun _ => true) true Tryd.f3.params.toList args.toList ds p := hA0
  rw [Tryd.params3] at hA hval
  obtain ⟨v0, vs0, d0, ds0, p0, q0, hargs, rfl, rfl, h0, r0⟩ := trodAll_cons hA
  obtain ⟨rfl, rfl, rfl⟩ := trodAll_nil r0
  obtain rfl : args = #[v0] := by cases args; simp_all
  obtain ⟨rfl, rfl⟩ := trodVars_none hV
  have k0 := h0
  have lt0 : ∀ x ∈ p0, x.block < W.heap.size := by obtain ⟨m, hm⟩ := k0; exact DataW.trod_lt m _ _ _ hm
  obtain ⟨c0, c1, y0, y1, m, rfl, hd0, hp0, hy0, hy1⟩ := open_agg2 Tryd.underlying24 (by kernel_rfl) cells_cnf (hval 0 24 v0 rfl rfl) h0
  obtain ⟨vars, rfl, wv⟩ := int_of_trod Tryd.underlying3 hy0
  obtain ⟨a, len, cap, zss, rfl, hrow, hwz⟩ := rows_of_trod Tryd.underlying22 Tryd.underlying36 Tryd.underlying3 (by kernel_rfl) (by kernel_rfl) hy1
  clear hA0
  refine (walk vars a len cap zss W hrow (table hL)).mono fun e W' ⟨he, bel⟩ => ?_
  subst he
  exact ⟨_, rfl, _, _, _, [], _, [], hW', trodAll_mk1 (shut_bool Tryd.underlying4 _), (trodAll_cons_mk (Below.trod laidOut (by kernel_rfl) (of_decide_eq_true (by kernel_rfl)) k0 bel lt0) trodAll_mk0), rfl, bel.frame _, fun h => by cases h⟩

set_option maxRecDepth 100000 in
theorem lifted (os : Os) (started : os.Started) (H : Type) (enc : TypeId × Value → H) (F : Stop.Interp) :
    ReturnsInHanded {} Tryd.checked os 3 .any ((OpenSpec.ofChange Rows.fnExactLeastModelSpec).preRow enc Tryd.prog Tryd.f3 Rows.fnExactLeastModelRow.domain false Rows.fnExactLeastModelRow.laid) (((OpenSpec.ofChange Rows.fnExactLeastModelSpec).at F).post enc Tryd.prog Tryd.f3 false true false false) := by
  obtain ⟨places, hx⟩ := reads os enc
  refine returnsInHanded_of_row (C := Tryd.checked) (s := OpenSpec.ofChange Rows.fnExactLeastModelSpec) own started (by kernel_rfl) Tryd.func3
    (witness_row_at (enc := enc) (C := Tryd.checked) false ({ World.holding Tryd.prog os ⟨#[], #[], []⟩ with heap := (World.holding Tryd.prog os ⟨#[], #[], []⟩).heap.modify gB64 (laidAs b64Tab) } : World) #[.agg #[.int .i64 0, .slice none 0 0]] rfl (by kernel_rfl) (by kernel_rfl) (by kernel_rfl)
      (OpenSpec.preRow_of_cond 8 hx (by kernel_rfl) (fun k hk => by cases hk) (by kernel_rfl) (laid_met os))) ?_
  intro W base args ds gs before hval hW _ _ _ hL _ _
  exact contract H enc W base args ds gs before hval hW hL

theorem said : Rows.FnExactLeastModelSaid :=
  OpenClaim.holds_of_cond 3 Tryd.f3 rfl rfl rfl rfl rfl rfl rfl ⟨rfl, rfl, rfl, rfl, rfl⟩ rfl rfl rfl rfl rfl (by kernel_rfl) Tryd.func3 (by kernel_rfl)
    (of_decide_eq_true (by kernel_rfl)) (by unfold Func.isWrapper; first | (rw [if_pos (by decide +kernel)]; kernel_rfl) | (rw [if_neg (by decide +kernel)]; exact ⟨rfl, rfl⟩))
    (fun os started H enc _ F => by rw [OpenClaim.pre_eq_preRow]; exact lifted os started H enc F)

theorem plain (f : FuncId) (fn : Func) (hf : Tryd.pinned.checked.prog.funcNamed "loop.example/g00159/laws.FnExactLeastModel" = some f) (hfn : Tryd.pinned.checked.prog.funcs[f]? = some fn) :
    false = Tryd.pinned.checked.prog.looks [] ∧ ∀ (j : Nat) t, fn.params[j]? = some t → Tryd.pinned.checked.prog.wantsStandIn t = false := by
  obtain rfl : f = 3 := Option.some.inj ((show Tryd.prog.funcNamed "loop.example/g00159/laws.FnExactLeastModel" = some 3 by kernel_rfl).symm.trans hf) |>.symm
  obtain rfl : fn = Tryd.f3 := (Option.some.inj (Tryd.func3.symm.trans hfn)).symm
  refine ⟨by kernel_rfl, fun j t ht => ?_⟩
  rw [Tryd.params3] at ht
  obtain rfl : t = 24 := by simpa using Array.mem_of_getElem? ht
  exact (show Tryd.prog.wantsStandIn 24 = false by kernel_rfl)
end Go.Proofs.YtbahjpheaaiamaaDoor.fnExactLeastModel
namespace Go.Proofs.YtbahjpheaaiamaaDoor
theorem fnExactLeastModel_holds : Rows.FnExactLeastModelCardSaid :=
  Claim7.holds_tied_plain_at .later [] _ _ _ _ fnExactLeastModel.said (fun _ h => by cases h) (by kernel_rfl) (fun _ h => by cases h) fnExactLeastModel_row_tie rfl ⟨rfl, rfl⟩ (by kernel_rfl) rfl fnExactLeastModel.plain (by kernel_rfl)
end Go.Proofs.YtbahjpheaaiamaaDoor
