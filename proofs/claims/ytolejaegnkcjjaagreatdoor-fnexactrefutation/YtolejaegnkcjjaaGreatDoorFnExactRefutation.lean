/- For every formula Refutation answers as its specification (the steps and the code); the argument is as it was, and the answer owns its memory, behind another call too; the library's table and handle are as their initialisers lay them, tied to the program's text; conditions: none. -/
import Derived.Test.YtolejaegnkcjjaaGreatDoorPart49
import Derived.Test.YtolejaegnkcjjaaGreatDoorPart50
import Derived.Test.YtolejaegnkcjjaaGreatDoorCards
import Derived.Test.YtolejaegnkcjjaaGreatDoorTie
import Derived.OpenVars
import Derived.SevenTiedAt
import Derived.Deep.DeepHandedRow
import Derived.Lib.LaidTab
import Derived.LaidSub
namespace Go.Proofs.YtolejaegnkcjjaaGreatDoor.fnExactRefutation
open Go.ChangeShapes Go.WideShapes Go.ChangeAt Go.RowKit Go.Deep Go.Joins base copy cnf args rowsOwn copyOwn solOps faultW refAnsI refFaceI refSpecF
open stepsEq (St StepRow row_of_steps eqStepS)
open stepsMark (stepMarks mark_steps_any held_steps)
open readSpecP (Pt pcs OwnSteps strip)
set_option linter.unusedVariables false
set_option linter.unusedSimpArgs false

theorem sum_small : ∀ (l : List Nat), (∀ x ∈ l, x ≤ 13) → l.sum ≤ 13 * l.length
  | [], _ => by simp
  | a :: l, h => by
    have := sum_small l (fun x hx => h x (by simp [hx]))
    have := h a (by simp)
    simp
    omega
theorem lens_small {ps : List Pt} {ss : List St} (h : ps.map strip = ss) (hs : ss.length ≤ 200 ∧ ∀ x ∈ ss, x.2.length ≤ 12) : (ps.map fun p => p.2.2.length + 1).sum ≤ 2600 ∧ ps.length ≤ 200 ∧ ∀ x ∈ (ps.map fun p => p.2.2.length + 1), 1 ≤ x := by
  have hl : ps.length ≤ 200 := by rw [← List.length_map (f := strip), h]; exact hs.1
  refine ⟨?_, hl, fun x hx => ?_⟩
  · have := sum_small (ps.map fun p => p.2.2.length + 1) (fun x hx => by
      obtain ⟨p, hp, rfl⟩ := List.mem_map.1 hx
      have := hs.2 (strip p) (by rw [← h]; exact List.mem_map.2 ⟨p, hp, rfl⟩)
      simp only [strip] at this
      omega)
    rw [List.length_map] at this
    omega
  · obtain ⟨p, hp, rfl⟩ := List.mem_map.1 hx
    omega
theorem row_known {B n c : Nat} {w : World} {a : Option Addr} {ps : List Pt} {ss : List St} (h : OwnSteps B w (.slice a n c) ps) (hs : ps.map strip = ss) : StepRow w a n ss := by
  obtain ⟨a', c', e, hr⟩ := row_of_steps h hs
  injection e with e1 e2 e3
  subst e1
  subst e2
  exact hr
theorem own_left {B n s : Nat} {w w1 : World} {v : Value} {t : TypeId} {xs : List Value} {vs : List Value} (h : w.ownsRow B t s v n xs) (ho : OnlyIn w w1 vs) (hne : ∀ u ∈ vs, ∀ g, u.ownBlock = some g → g < B) : w1.ownsRow B t s v n xs := by
  obtain ⟨h1, h2⟩ := h
  refine ⟨h1, ?_⟩
  rcases h2 with h2 | ⟨g, cap, cur, e, hg, hh, hn⟩
  · exact .inl h2
  · refine .inr ⟨g, cap, cur, e, hg, ?_, hn⟩
    rw [ho.2 g (Array.getElem?_eq_some_iff.1 hh).1 (fun u hu e9 => by have := hne u hu g e9; omega)]
    exact hh
theorem steps_left {B : Nat} {w w1 : World} {v : Value} {ps : List Pt} {vs : List Value} (h : OwnSteps B w v ps) (ho : OnlyIn w w1 vs) (hne : ∀ u ∈ vs, ∀ g, u.ownBlock = some g → g < B) : OwnSteps B w1 v ps :=
  ⟨own_left h.outer ho hne, fun p hp => own_left (h.inner p hp) ho hne⟩

set_option maxHeartbeats 6400000 in
set_option maxRecDepth 8000 in
theorem walk (vars : Int) (a : Option Addr) (len cap : Nat) (zss : List (List Int)) (w : World) (hr : IntRows w a len zss) (ht : Tab w) (he : ErrW w) :
    Calls Tryz.prog 4 #[.agg #[.int .i64 vars, .slice a len cap]] w fun e w' => e = .returned (.bool true) ∧ Below w.heap.size w w' := by
  have HR := hid hr
  have HT := hid ht
  have HE := hid he
  clear hr ht he
  go_enter Tryz.func4, Tryz.ntmps4
  go_wp2_with fail
  refine (szCnf_sum vars a len cap zss 1048576 _ ?_ (by omega) (by omega)).mono ?_
  · exact HR.out.below (by repeat (first | exact Below.refl _ _ | assumption | refine Below.drew ?_ | refine Below.alloc ?_ (by first | exact Nat.le_refl _ | omega | (simp; done) | (simp; omega)) _ | refine Below.setCell ?_ (by first | exact Nat.le_refl _ | omega | (simp; done) | (simp; omega)) _))
  rintro e w1 ⟨r, rfl, hb1, hr1, hr2, hr3⟩
  have H3 := hid hr3
  have hB1 := hid ((show Below w.heap.size w _ from (by repeat (first | exact Below.refl _ _ | assumption | refine Below.drew ?_ | refine Below.alloc ?_ (by first | exact Nat.le_refl _ | omega | (simp; done) | (simp; omega)) _ | refine Below.setCell ?_ (by first | exact Nat.le_refl _ | omega | (simp; done) | (simp; omega)) _))).trans (hb1.mono (by simp)))
  have b0 : w1.cell? ⟨w.heap.size, 0, none⟩ = some (.int .i64 vars) := keep hb1 (by simp [go_sem])
  have b1 : w1.cell? ⟨w.heap.size, 1, none⟩ = some (.slice a len cap) := keep hb1 (by simp [go_sem])
  have z1 : w.heap.size < w1.heap.size := by have := hb1.size; simp at this; omega
  clear hb1 hr3
  by_cases hneg : r < 0
  · go_wp2
    go_ret
    exact ⟨rfl, hB1.out⟩
  have hsz := hid (H3.out (by omega))
  clear H3
  have HLn := hid HR.out.length
  have HLen : Hid (len ≤ 1048576) := by have := hsz.out; show _ ≤ _; omega
  have HEach : Hid (∀ i, i < len → (zss[i]?.getD []).length ≤ 1048576) := fun i hi => by
    have h1 := at_le (ls := zss.map List.length) (i := i) (by rw [List.length_map, HLn.out]; exact hi)
    rw [List.getElem?_map] at h1
    have h2 : (zss[i]?.getD []).length = (Option.map List.length zss[i]?).getD 0 := by cases zss[i]? <;> rfl
    have := hsz.out
    omega
  have HSmall : Hid ((len : Int) ≤ 1048576 ∧ ∀ i, i < len → ((zss[i]?.getD []).length : Int) ≤ 1048576) := ⟨by have := HLen.out; omega, fun i hi => by have := HEach.out i hi; omega⟩
  have HSum : Hid (1 + ((zss.map List.length).sum : Nat) ≤ (1048576 : Int)) := by
    have h1 := hsz.out
    show _ ≤ _
    by_cases h0 : len = 0
    · have : zss = [] := List.length_eq_zero_iff.1 (by rw [HLn.out]; exact h0)
      subst this
      simp
    · omega
  have HOwn := hid (fun (B N : Nat) (w9 : World) (hc : Copied w9 N zss) (hB : B ≤ N) => copied_own (B := B) hc hB (by rw [HLn.out]; have := HLen.out; unfold maxLen; omega) (fun i hi => by have := HEach.out i (by rw [← HLn.out]; exact hi); unfold maxLen; omega))
  go_wp2_with fail
  refine (toCnf vars a len cap zss _ (HR.out.below hB1.out) HLen.out HEach.out).mono ?_
  rintro e w2 ⟨N2, rfl, hN2, hb2, hc2⟩
  have HO2 := hid (by have h := (HOwn.out w1.heap.size N2 w2 hc2 hN2).1; rw [HLn.out] at h; exact h)
  replace b0 := keep hb2 b0
  replace b1 := keep hb2 b1
  have hB2 := hid (hB1.out.trans (hb2.mono hB1.out.size))
  have z2 : w.heap.size < w2.heap.size := by have := hb2.size; omega
  clear hb2 hc2 hN2 z1 hB1
  go_wp2_with fail
  refine (ref_spec _ vars _ _ _ zss _ _ HO2.out (copiedPs_snd N2 zss)).mono ?_
  rintro e w4 ⟨v4, ps4, k, sts, rfl, ho4, hs4, hsl, hsx, hgo, hb4⟩
  have HI := hid (fun a cap w hr ht he => ref_impl vars a len cap zss w hr ht he k sts hgo)
  have HL := hid (And.intro hsl hsx)
  generalize ansC vars zss k = C at *
  generalize ansS vars zss k sts = ss at *
  clear hsl hsx hgo
  obtain ⟨a4, c4, rfl, hr4⟩ := row_of_steps ho4 hs4
  have hqC : (C != C) = false := by simp
  have hB4 := hid (hB2.out.trans (hb4.mono hB2.out.size))
  have R4 := hid hr4
  replace b0 := keep hb4 b0
  replace b1 := keep hb4 b1
  have z4 : w.heap.size < w4.heap.size := by have := hb4.size; omega
  have HF0 := hid b0
  have HF1 := hid b1
  clear ho4 hs4 hb4 hr4 hB2 HO2 z2 ps4
  go_wp2_with fail
  refine (toCnf vars a len cap zss _ (HR.out.below hB4.out) HLen.out HEach.out).mono ?_
  rintro e w5 ⟨N5, rfl, hN5, hb5, hc5⟩
  replace b0 := keep hb5 b0
  replace b1 := keep hb5 b1
  have HC5 := hid hc5
  have HN5 := hid hN5
  have z45 : w4.heap.size < w5.heap.size := by
    obtain ⟨c, hh, _⟩ := hc5.outer
    have := (Array.getElem?_eq_some_iff.1 hh).1
    omega
  have K5 := hid hb5
  have z5 : w.heap.size < w5.heap.size := by omega
  have HCl := hid (copied_lt hc5)
  clear hb5 hc5 hN5
  go_wp2_with fail
  have hb56 : Below w5.heap.size w5 (w5.alloc (.cells #[.int .i64 vars, .slice (some ⟨N5, 0, none⟩) len len] 30)) := (by repeat (first | exact Below.refl _ _ | assumption | refine Below.drew ?_ | refine Below.alloc ?_ (by first | exact Nat.le_refl _ | omega | (simp; done) | (simp; omega)) _ | refine Below.setCell ?_ (by first | exact Nat.le_refl _ | omega | (simp; done) | (simp; omega)) _))
  have x0 : (w5.alloc (.cells #[.int .i64 vars, .slice (some ⟨N5, 0, none⟩) len len] 30)).cell? ⟨w5.heap.size, 0, none⟩ = some (.int .i64 vars) := by simp [go_sem]
  have x1 : (w5.alloc (.cells #[.int .i64 vars, .slice (some ⟨N5, 0, none⟩) len len] 30)).cell? ⟨w5.heap.size, 1, none⟩ = some (.slice (some ⟨N5, 0, none⟩) len len) := by simp [go_sem]
  have z56 : w5.heap.size < (w5.alloc (.cells #[.int .i64 vars, .slice (some ⟨N5, 0, none⟩) len len] 30)).heap.size := by simp
  generalize hw6 : (w5.alloc (.cells #[.int .i64 vars, .slice (some ⟨N5, 0, none⟩) len len] 30)) = w6 at *
  clear hw6
  replace b0 := keep hb56 b0
  replace b1 := keep hb56 b1
  have K6 := hid (K5.out.trans (hb56.mono K5.out.size))
  have HC6 := hid (HC5.out.below hb56)
  have HB4 := hB4
  clear hb56 HC5 K5
  refine (HI.out _ len _ (HC6.out.rowsLen HLn.out HSmall.out) (tab_below HT.out (hB4.out.trans (K6.out.mono hB4.out.size))) (HE.out.below (hB4.out.trans (K6.out.mono hB4.out.size)))).mono ?_
  rintro e w7 ⟨v7, ps7, rfl, ho7, hl7, hs7, hb7⟩
  obtain ⟨a7, c7, rfl, hr7⟩ := row_of_steps ho7 hs7
  obtain ⟨hS, hn7, hpos⟩ := lens_small hs7 HL.out
  have K7 := hid (K6.out.trans (hb7.mono K6.out.size))
  have HC7 := hid (HC6.out.below hb7)
  have O7 := hid ho7
  have HS7 := hid hs7
  have L7 := hid hl7
  have R7 := hid hr7
  have HP := hid hpos
  replace b0 := keep hb7 b0
  replace b1 := keep hb7 b1
  replace x0 := keep hb7 x0
  replace x1 := keep hb7 x1
  have z67 : w6.heap.size ≤ w7.heap.size := hb7.size
  clear ho7 hl7 hs7 hb7 hr7 hpos HC6 K6
  generalize hnn : ss.length = n at *
  have HNN := hid hnn
  clear hnn
  go_wp2_with fail
  refine (eqStepS _ _ n _ _ ss _ R7.out (R4.out.below K7.out)).mono ?_
  rintro e w8 ⟨rfl, hb8⟩
  have K8 := hid (K7.out.trans (hb8.mono K7.out.size))
  have HC8 := hid (HC7.out.below hb8)
  have O8 := hid (O7.out.below hb8)
  have hB8 := hid (hB4.out.trans (K8.out.mono hB4.out.size))
  replace b0 := keep hb8 b0
  replace b1 := keep hb8 b1
  replace x0 := keep hb8 x0
  replace x1 := keep hb8 x1
  have z78 : w7.heap.size ≤ w8.heap.size := hb8.size
  clear hb8 HC7 O7 R7 K7
  go_wp2_with fail
  have HK8 : Hid (∀ w8' : World, Below w8.heap.size w8 w8' → w8'.cell? ⟨w5.heap.size, 0, none⟩ = some (.int .i64 vars) ∧ w8'.cell? ⟨w5.heap.size, 1, none⟩ = some (.slice (some ⟨N5, 0, none⟩) len len) ∧ w8'.cell? ⟨w.heap.size, 0, none⟩ = some (.int .i64 vars) ∧ w8'.cell? ⟨w.heap.size, 1, none⟩ = some (.slice a len cap) ∧ Below w8.heap.size w8 w8') := fun w8' h => ⟨keep h x0, keep h x1, keep h b0, keep h b1, h⟩
  go_region_held3 (fun w8' => w8'.cell? ⟨w5.heap.size, 0, none⟩ = some (.int .i64 vars) ∧ w8'.cell? ⟨w5.heap.size, 1, none⟩ = some (.slice (some ⟨N5, 0, none⟩) len len) ∧ w8'.cell? ⟨w.heap.size, 0, none⟩ = some (.int .i64 vars) ∧ w8'.cell? ⟨w.heap.size, 1, none⟩ = some (.slice a len cap) ∧ Below w8.heap.size w8 w8')
    (refine HK8.out _ (by first | assumption | exact (Below.refl _ w8).drew | exact hb9' | exact hb810))
    (first
      | (go_at_call 8; refine (toCnf vars a len cap zss _ (HR.out.below hB8.out.drew) HLen.out HEach.out).mono ?_; rintro e w9 ⟨N9, rfl, hN9, hb9, hc9⟩; have hb9' : Below w8.heap.size w8 w9 := ((Below.refl _ w8).drew).trans hb9; clear hb9)
      | (go_at_call 11; refine (eqCnf vars vars _ _ len len len len zss zss _ ((HC8.out.rowsLen HLn.out HSmall.out).below hb9') (hc9.rowsLen HLn.out HSmall.out)).mono ?_; rintro e w10 ⟨rfl, hb10⟩; have hb810 : Below w8.heap.size w8 w10 := hb9'.trans (hb10.mono hb9'.size); clear hb10))
  all_goals
    have hd : decide (vars = vars ∧ zss = zss) = true := decide_eq_true ⟨rfl, rfl⟩
    have b0 := keep hb810 b0
    have b1 := keep hb810 b1
    have x0 := keep hb810 x0
    have x1 := keep hb810 x1
    have K10 := hid (K8.out.trans (hb810.mono K8.out.size))
    have HC10 := hid (HC8.out.below hb810)
    have O10 := hid (O8.out.below hb810)
    have hB10 := hid (hB4.out.trans (K10.out.mono hB4.out.size))
    have z810 : w8.heap.size ≤ w10.heap.size := hb810.size
    clear hb9' hb810 hc9 hN9
    have HX12 := hid (HOwn.out w4.heap.size N5 w10 HC10.out HN5.out)
    go_wp2_with fail
    have s1 := HSum.out
    have HLc := hid (lens_copied N5 zss)
    refine (markCnf_own w4.heap.size vars (some ⟨N5, 0, none⟩) len len (copiedPs N5 zss) 1 _ (by have h := HX12.out.1; rw [HLn.out] at h; exact h) HX12.out.2 (by omega) (by omega) (by rw [HLc.out]; exact s1) (by rw [copied_length, HLn.out]; exact HLen.out)).mono ?_
    rintro e w13 ⟨rfl, qs13, ho13, hm13, hb13, hon13⟩
    rw [HLc.out]
    obtain ⟨SX, hSX⟩ : ∃ SX : Nat, (zss.map List.length).sum = SX := ⟨_, rfl⟩
    rw [hSX]
    have K13 := hid (K10.out.trans hb13)
    have b0 := keepB hb13 (show w.heap.size < w4.heap.size by omega) b0
    have b1 := keepB hb13 (show w.heap.size < w4.heap.size by omega) b1
    have O13 := hid (steps_left O10.out hon13 (fun u hu g hg => by have := HCl.out u hu g hg; omega))
    have R13 := hid (row_known O13.out HS7.out)
    have z1013 : w10.heap.size ≤ w13.heap.size := hon13.1
    clear ho13 hm13 hb13 hon13 x0 x1
    have hSm : SX ≤ 1048575 := by rw [hSX] at s1; omega
    have hk0 : ¬ (1 + (SX : Int) < 0) := by omega
    clear hSX s1 HX12
    go_wp2_with fail
    refine (eqStepS _ _ n _ _ ss _ R13.out (R4.out.below K13.out)).mono ?_
    rintro e w14 ⟨rfl, hb14⟩
    have K14 := hid (K13.out.trans (hb14.mono K13.out.size))
    have O14 := hid (O13.out.below hb14)
    have b0 := keep hb14 b0
    have b1 := keep hb14 b1
    have z1314 : w13.heap.size ≤ w14.heap.size := hb14.size
    clear hb14 R13
    go_wp2_with fail
    refine (mark_steps_any w6.heap.size _ ps7 1 _ O14.out L7.out (by omega) (by omega) (by omega)).mono ?_
    rintro e w15 ⟨rfl, qs, hoq, hqm, hb15⟩
    have R15 := hid (row_known hoq hqm)
    have hb15' : Below w4.heap.size w14 w15 := hb15.mono (by omega)
    have K15 := hid (K14.out.trans hb15')
    have b0 := keepB hb15' (show w.heap.size < w4.heap.size by omega) b0
    have b1 := keepB hb15' (show w.heap.size < w4.heap.size by omega) b1
    clear hoq hqm hb15 hb15' O14 O13
    generalize hls : (ps7.map fun p => p.2.2.length + 1) = ls at *
    have hsz2 : (1 : Int) + (ls.sum : Nat) ≤ 1048576 := by omega
    have HSZ := hid hsz2
    obtain ⟨S, hSe⟩ : ∃ S, ls.sum = S := ⟨_, rfl⟩
    have HH := hid (fun a len cap w hr => held_steps a len cap ls 1 w hr HP.out (by omega) HSZ.out)
    rw [hSe] at HH hS hsz2 ⊢
    clear HSZ hls hSe
    have hng : ¬ ((1 : Int) + (S : Int) < 0) := by omega
    have hqS : ((1 : Int) + (S : Int) != (1 : Int) + (S : Int)) = false := by simp
    go_wp2_with fail
    refine (HH.out _ _ _ _ R15.out).mono ?_
    rintro e w16 ⟨rfl, hb16⟩
    have K16 := hid (K15.out.trans (hb16.mono K15.out.size))
    have R16 := hid (R15.out.below hb16)
    have hB16 := hid (hB4.out.trans (K16.out.mono hB4.out.size))
    have b0 := keep hb16 b0
    have b1 := keep hb16 b1
    clear hb16 R15
    go_wp2_with fail
    refine (toCnf vars a len cap zss _ (HR.out.below hB16.out) HLen.out HEach.out).mono ?_
    rintro e w18 ⟨N18, rfl, hN18, hb18, hc18⟩
    have K18 := hid (K16.out.trans (hb18.mono K16.out.size))
    have hB18 := hid (hB4.out.trans (K18.out.mono hB4.out.size))
    have HC18 := hid hc18
    have R18 := hid (R16.out.below hb18)
    clear hN18 hb18 hc18 b0 b1 R16
    go_wp2_with fail
    refine (HI.out _ len _ (HC18.out.rowsLen HLn.out HSmall.out) (tab_below HT.out hB18.out) (HE.out.below hB18.out)).mono ?_
    rintro e w20 ⟨v20, ps20, rfl, ho20, -, hs20, hb20⟩
    have HV := hid (row_of_steps ho20 hs20)
    rw [HNN.out] at HV
    obtain ⟨a20, c20, rfl, hr20⟩ := HV.out
    have K20 := hid (K18.out.trans (hb20.mono K18.out.size))
    have RZ20 := hid hr20
    have R20 := hid (R18.out.below hb20)
    clear ho20 hb20 hs20 hr20 HV
    go_wp2_with fail
    refine (eqStepS _ _ n _ _ ss _ RZ20.out (R4.out.below K20.out)).mono ?_
    rintro e w21 ⟨rfl, hb21⟩
    have K21 := hid (K20.out.trans (hb21.mono K20.out.size))
    have R21 := hid (R20.out.below hb21)
    clear hb21 R20
    go_wp2_with fail
    refine (HH.out _ _ _ _ R21.out).mono ?_
    rintro e w22 ⟨rfl, hb22⟩
    have K22 := hid (K21.out.trans (hb22.mono K21.out.size))
    have hB22 := hid (hB4.out.trans (K22.out.mono hB4.out.size))
    clear hb22
    go_wp2
    go_ret
    exact ⟨rfl, hB22.out⟩
theorem own : ownKnob Tryz.prog.godebug = none := by kernel_rfl
theorem laidOut : laidOutB Tryz.prog = true := by kernel_rfl
theorem cells_cnf : Tryz.prog.cellsOf 24 = 2 := by kernel_rfl

/- The library's table and handle as their initialisers lay them. -/
def b64Ints : List Int := [0, 1, 56, 2, 57, 49, 28, 3, 61, 58, 42, 50, 38, 29, 17, 4, 62, 47, 59, 36, 45, 43, 51, 22, 53, 39, 33, 30, 24, 18, 12, 5, 63, 55, 48, 27, 60, 41, 37, 16, 46, 35, 44, 21, 52, 32, 23, 11, 54, 26, 40, 15, 34, 20, 31, 10, 25, 14, 19, 9, 13, 8, 7, 6]
def b64Tab : List Value := b64Ints.map (Value.int .u8)
def laidAs (l : List Value) : Obj → Obj
  | .cells _ t frozen => .cells l.toArray t frozen
  | o => o
def gB64 : Nat := 1
theorem same_tab : ∀ j, j < Lib.deBruijn64tab.length → (b64Ints.map fun z => Value.int .u8 z).toArray[j]? = some (.int .u8 (Lib.deBruijn64tab.getD j 0)) := by
  intro j hj
  have hl : Lib.deBruijn64tab.length = 64 := by decide +kernel
  rw [hl] at hj
  have h : ∀ j : Fin 64, b64Ints[j.1]? = some ((Lib.deBruijn64tab.getD j.1 0 : Nat) : Int) := by decide +kernel
  have := h ⟨j, hj⟩
  simp only [List.getElem?_toArray, List.getElem?_map]
  rw [this]
  rfl
theorem table {W : World} (h : laidMetH Tryz.prog Rows.fnExactRefutationRow.laid W) : Tab W := by
  have h1 := h.filter (fun x => x.1 == "math/bits.deBruijn64tab")
  have h2 : laidMet Tryz.prog [("math/bits.deBruijn64tab", Lib.tabData .u8 b64Ints)] W := h1
  have h3 := Lib.tabIs_of_head (g := 1) (t := 162) (e := 5) (n := 64) (by kernel_rfl) (by kernel_rfl) Tryz.underlying162 Tryz.underlying5 (by kernel_rfl) (by kernel_rfl) h2
  unfold Lib.TabIs World.var? at h3
  rw [show Tryz.prog.globalNamed "math/bits.deBruijn64tab" = some 1 by kernel_rfl] at h3
  simp only [Option.bind_some] at h3
  split at h3
  · rename_i cs t fr hh
    injection h3 with h3
    intro j hj
    have h4 := same_tab j hj
    rw [← h3] at h4
    simp only [World.cell?, hh, h4]
    first | done | exact h4 | rfl | simp
  · cases h3

def gErr : Nat := 0
def errTab : List Value := [.iface 149 (.agg #[.pointer (some ⟨2, 106, none⟩)])]
theorem et : Tryz.prog.globalNamed "errors.errorType" = some 0 := by kernel_rfl
theorem rt : (Tryz.prog.cutTypes.find? (·.1 == "internal/reflectlite.rtype")).map (·.2) = some 149 := by kernel_rfl
theorem oneRow : ((List.range Tryz.prog.types.size).filter fun t => Tryz.prog.rowNamed t [101, 114, 114, 111, 114]) = [106] := by kernel_rfl
theorem errs {W : World} (h : laidMetH Tryz.prog Rows.fnExactRefutationRow.laid W) : ErrW W := by
  have h1 := h.filter (fun x => x.1 == "errors.errorType")
  have h2 : laidMet Tryz.prog [] W ∧ handlesMet Tryz.prog [("errors.errorType", Rows.laid_errors_errorType)] W := h1
  obtain ⟨name, u, ty, e1, e2, e3, e4, e5⟩ := h2.2 _ (List.mem_singleton.2 rfl)
  have en : name = [101, 114, 114, 111, 114] := (Option.some.inj e1).symm
  subst en
  obtain rfl := Option.some.inj (rt.symm.trans e2)
  have hm : ty ∈ (List.range Tryz.prog.types.size).filter fun t => Tryz.prog.rowNamed t [101, 114, 114, 111, 114] := List.mem_filter.2 ⟨List.mem_range.2 e3, e4⟩
  rw [oneRow] at hm
  obtain rfl := List.mem_singleton.1 hm
  have hh : typeHandle Tryz.prog 106 = .pointer (some ⟨2, 106, none⟩) := by kernel_rfl
  rw [hh] at e5
  show W.cell? _ = _
  simpa using World.var?_cell et e5 0

theorem laid_met (os : Os) : laidMetH Tryz.prog Rows.fnExactRefutationRow.laid (({ World.holding Tryz.prog os ⟨#[], #[], []⟩ with heap := ((World.holding Tryz.prog os ⟨#[], #[], []⟩).heap.modify gB64 (laidAs b64Tab)).modify gErr (laidAs errTab) } : World).forCall (fun _ _ => 0) ⟨#[], #[.agg #[.int .i64 0, .slice none 0 0]], []⟩).memory :=
  laidMetH_of_parts (laidMet_of_run' 8 (by kernel_rfl) (by kernel_rfl)) (by kernel_rfl)
theorem reads (os : Os) {H : Type} (enc : TypeId × Value → H) : ∃ places, DataW.whole enc Tryz.prog (({ World.holding Tryz.prog os ⟨#[], #[], []⟩ with heap := ((World.holding Tryz.prog os ⟨#[], #[], []⟩).heap.modify gB64 (laidAs b64Tab)).modify gErr (laidAs errTab) } : World).forCall (fun _ _ => 0) ⟨#[], #[.agg #[.int .i64 0, .slice none 0 0]], []⟩).memory Tryz.f4.params.toList Rows.fnExactRefutationSpec.vars false #[Value.agg #[.int .i64 0, .slice none 0 0]].toList 8 = some ([.agg [.lit (.int .i64 0), .nil]], [], places) :=
  ⟨[], by kernel_rfl⟩

set_option maxRecDepth 100000 in
theorem contract (H : Type) (enc : TypeId × Value → H) (W : World) (base : Nat) (args : Array Value) (ds gs : List (DataW H)) (before : List MemPlace)
    (hval : ∀ (j : Nat) t v, Tryz.f4.params[j]? = some t → args[j]? = some v → Value.okWide Tryz.prog W .any base t v)
    (hW : DataW.Whole enc Tryz.prog Tryz.f4.params.toList Rows.fnExactRefutationSpec.vars false W args.toList ds gs before) (hL : laidMetH Tryz.prog Rows.fnExactRefutationRow.laid W) :
    Calls Tryz.prog 4 args W fun e W' => ∃ v, e = .returned v ∧ Rows.fnExactRefutationSpec.post enc Tryz.prog Tryz.f4 false true false false W args v W' := by
  have hW' := hW
  obtain ⟨p, q, hA0, hV, rfl, hfz, hnd⟩ := hW
  have hA : DataW.TrodAll enc Tryz.prog W 0 (fun _ => true) true Tryz.f4.params.toList args.toList ds p := hA0
  rw [Tryz.params4] at hA hval
  obtain ⟨v0, vs0, d0, ds0, p0, q0, hargs, rfl, rfl, h0, r0⟩ := trodAll_cons hA
  obtain ⟨rfl, rfl, rfl⟩ := trodAll_nil r0
  obtain rfl : args = #[v0] := by cases args; simp_all
  obtain ⟨rfl, rfl⟩ := trodVars_none hV
  have k0 := h0
  have lt0 : ∀ x ∈ p0, x.block < W.heap.size := by obtain ⟨m, hm⟩ := k0; exact DataW.trod_lt m _ _ _ hm
  obtain ⟨c0, c1, y0, y1, m, rfl, hd0, hp0, hy0, hy1⟩ := open_agg2 Tryz.underlying24 (by kernel_rfl) cells_cnf (hval 0 24 v0 rfl rfl) h0
  obtain ⟨vars, rfl, wv⟩ := int_of_trod Tryz.underlying3 hy0
  obtain ⟨a, len, cap, zss, rfl, hrow, hwz⟩ := rows_of_trod Tryz.underlying22 Tryz.underlying44 Tryz.underlying3 (by kernel_rfl) (by kernel_rfl) hy1
  clear hA0
  refine (walk vars a len cap zss W hrow (table hL) (errs hL)).mono fun e W' ⟨he, bel⟩ => ?_
  subst he
  exact ⟨_, rfl, _, _, _, [], _, [], hW', trodAll_mk1 (shut_bool Tryz.underlying4 _), (trodAll_cons_mk (Below.trod laidOut (by kernel_rfl) (of_decide_eq_true (by kernel_rfl)) k0 bel lt0) trodAll_mk0), rfl, bel.frame _, fun h => by cases h⟩

set_option maxRecDepth 100000 in
theorem lifted (os : Os) (started : os.Started) (H : Type) (enc : TypeId × Value → H) (F : Stop.Interp) :
    ReturnsInHanded {} Tryz.checked os 4 .any ((OpenSpec.ofChange Rows.fnExactRefutationSpec).preRow enc Tryz.prog Tryz.f4 Rows.fnExactRefutationRow.domain false Rows.fnExactRefutationRow.laid) (((OpenSpec.ofChange Rows.fnExactRefutationSpec).at F).post enc Tryz.prog Tryz.f4 false true false false) := by
  obtain ⟨places, hx⟩ := reads os enc
  refine returnsInHanded_of_row (C := Tryz.checked) (s := OpenSpec.ofChange Rows.fnExactRefutationSpec) own started (by kernel_rfl) Tryz.func4
    (witness_row_at (enc := enc) (C := Tryz.checked) false ({ World.holding Tryz.prog os ⟨#[], #[], []⟩ with heap := ((World.holding Tryz.prog os ⟨#[], #[], []⟩).heap.modify gB64 (laidAs b64Tab)).modify gErr (laidAs errTab) } : World) #[.agg #[.int .i64 0, .slice none 0 0]] rfl (by kernel_rfl) (by kernel_rfl) (by kernel_rfl)
      (OpenSpec.preRow_of_cond 8 hx (by kernel_rfl) (fun k hk => by cases hk) (by kernel_rfl) (laid_met os))) ?_
  intro W base args ds gs before hval hW _ _ _ hL _ _
  exact contract H enc W base args ds gs before hval hW hL

theorem said : Rows.FnExactRefutationSaid :=
  OpenClaim.holds_of_cond 4 Tryz.f4 rfl rfl rfl rfl rfl rfl rfl ⟨rfl, rfl, rfl, rfl, rfl⟩ rfl rfl rfl rfl rfl (by kernel_rfl) Tryz.func4 (by kernel_rfl)
    (of_decide_eq_true (by kernel_rfl)) (by unfold Func.isWrapper; first | (rw [if_pos (by decide +kernel)]; kernel_rfl) | (rw [if_neg (by decide +kernel)]; exact ⟨rfl, rfl⟩))
    (fun os started H enc _ F => by rw [OpenClaim.pre_eq_preRow]; exact lifted os started H enc F)

theorem plain (f : FuncId) (fn : Func) (hf : Tryz.pinned.checked.prog.funcNamed "loop.example/g00159/laws.FnExactRefutation" = some f) (hfn : Tryz.pinned.checked.prog.funcs[f]? = some fn) :
    true = Tryz.pinned.checked.prog.looks [] ∧ ∀ (j : Nat) t, fn.params[j]? = some t → Tryz.pinned.checked.prog.wantsStandIn t = false := by
  obtain rfl : f = 4 := Option.some.inj ((show Tryz.prog.funcNamed "loop.example/g00159/laws.FnExactRefutation" = some 4 by kernel_rfl).symm.trans hf) |>.symm
  obtain rfl : fn = Tryz.f4 := (Option.some.inj (Tryz.func4.symm.trans hfn)).symm
  refine ⟨by kernel_rfl, fun j t ht => ?_⟩
  rw [Tryz.params4] at ht
  obtain rfl : t = 24 := by simpa using Array.mem_of_getElem? ht
  exact (show Tryz.prog.wantsStandIn 24 = false by kernel_rfl)
end Go.Proofs.YtolejaegnkcjjaaGreatDoor.fnExactRefutation
namespace Go.Proofs.YtolejaegnkcjjaaGreatDoor
theorem fnExactRefutation_holds : Rows.FnExactRefutationCardSaid :=
  Claim7.holds_tied_plain_at .later [] _ _ _ _ fnExactRefutation.said (fun _ h => by cases h) (by kernel_rfl) (fun _ h => by cases h) fnExactRefutation_row_tie rfl ⟨rfl, rfl⟩ (by kernel_rfl) rfl fnExactRefutation.plain (by kernel_rfl)
end Go.Proofs.YtolejaegnkcjjaaGreatDoor
