/- For every formula NormalCnf answers as its specification (the formula and the code); the formula is as it was, and the answer owns its memory; conditions: none. -/
import Derived.Test.YtiiigdcfnnjkcaaNormOf
import Derived.Test.YtiiigdcfnnjkcaaArgs
namespace Go.Proofs.Ytiiigdcfnnjkcaa.fnExactNormalCnf
open Go.ChangeShapes Go.WideShapes Go.ChangeAt Go.RowKit Go.Deep Go.Joins base copy cnf own mark clauseOrder sortClauses rises normal markRows copiedRows markCnf normOf args
set_option linter.unusedVariables false

theorem keepB {B : Nat} {w w1 : World} (hb : Below B w w1) {b o : Nat} {v : Value} (hlt : b < B) (h : w.cell? ⟨b, o, none⟩ = some v) : w1.cell? ⟨b, o, none⟩ = some v := by
  rw [hb.cell (p := ⟨b, o, none⟩) hlt]; exact h
theorem copied_lt {N : Nat} {w : World} {zss : List (List Int)} (h : Copied w N zss) : ∀ u ∈ (copiedPs N zss).map Prod.fst, ∀ g, u.ownBlock = some g → g < w.heap.size := fun u hu g hg => by
  obtain ⟨p, hp, rfl⟩ := List.mem_map.1 hu
  unfold copiedPs at hp
  obtain ⟨i, hir, rfl⟩ := List.mem_map.1 hp
  have hil : i < zss.length := List.mem_range.1 hir
  obtain ⟨c, hh, _⟩ := h.inner i hil
  have e : some (N + 1 + i) = some g := hg
  injection e with e
  rw [← e]
  exact (Array.getElem?_eq_some_iff.1 hh).1
theorem rows_lt {B : Nat} {w : World} {v : Value} {ps : List (Value × List Int)} (h : OwnRows B w v ps) : ∀ u ∈ ps.map Prod.fst, ∀ g, u.ownBlock = some g → g < w.heap.size := fun u hu g hg => by
  obtain ⟨p, hp, rfl⟩ := List.mem_map.1 hu
  exact (World.ownsRow.lt (h.inner p hp) g hg).2
theorem lens_copied (N : Nat) (zss : List (List Int)) : (copiedPs N zss).map (fun p => p.2.length) = zss.map List.length := by
  have h := copiedPs_snd N zss
  have : (copiedPs N zss).map (fun p => p.2.length) = ((copiedPs N zss).map (·.2)).map List.length := by rw [List.map_map]; rfl
  rw [this, h]
theorem copied_length (N : Nat) (zss : List (List Int)) : (copiedPs N zss).length = zss.length := by simp [copiedPs]
theorem lens_rows (ps : List (Value × List Int)) : ps.map (fun p => p.2.length) = (ps.map (·.2)).map List.length := by rw [List.map_map]; rfl

theorem rows_is {B n c : Nat} {w : World} {a : Option Addr} {ps : List (Value × List Int)} {L : List (List Int)} (h : OwnRows B w (.slice a n c) ps) (e : ps.map (·.2) = L) : IntRows w a n L := by
  rw [← e]
  exact rows_of_own h

set_option maxHeartbeats 6400000 in
set_option maxRecDepth 8000 in
theorem walk (vars : Int) (a : Option Addr) (len cap : Nat) (zss : List (List Int)) (w : World) (hr : IntRows w a len zss) :
    Calls Try.prog 5 #[.agg #[.int .i64 vars, .slice a len cap]] w fun e w' => e = .returned (.bool true) ∧ Below w.heap.size w w' := by
  have HR := hid hr
  clear hr
  go_enter Try.func5, Try.ntmps5
  go_wp2_with fail
  refine (szCnf_sum vars a len cap zss 1048576 _ ?_ (by omega) (by omega)).mono ?_
  · exact HR.out.below (by repeat (first | exact Below.refl _ _ | assumption | refine Below.drew ?_ | refine Below.alloc ?_ (by first | exact Nat.le_refl _ | omega | (simp; done) | (simp; omega)) _ | refine Below.setCell ?_ (by first | exact Nat.le_refl _ | omega | (simp; done) | (simp; omega)) _))
  rintro e w1 ⟨r, rfl, hb1, hr1, hr2, hr3⟩
  have H3 := hid hr3
  have hB1 := hid ((show Below w.heap.size w _ from (by repeat (first | exact Below.refl _ _ | assumption | refine Below.drew ?_ | refine Below.alloc ?_ (by first | exact Nat.le_refl _ | omega | (simp; done) | (simp; omega)) _ | refine Below.setCell ?_ (by first | exact Nat.le_refl _ | omega | (simp; done) | (simp; omega)) _))).trans (hb1.mono (by simp)))
  have b0 : w1.cell? ⟨w.heap.size, 0, none⟩ = some (.int .i64 vars) := keep hb1 (by simp [go_sem])
  have b1 : w1.cell? ⟨w.heap.size, 1, none⟩ = some (.slice a len cap) := keep hb1 (by simp [go_sem])
  have z1 : w.heap.size < w1.heap.size := by have := hb1.size; simp at this; omega
  clear hb1 hr3
  by_cases hneg : r < 0
  · go_wp2
    go_ret
    exact ⟨rfl, hB1.out⟩
  have hsz := hid (H3.out (by omega))
  clear H3
  have HLn := hid HR.out.length
  have HLen : Hid (len ≤ 1048576) := by have := hsz.out; show _ ≤ _; omega
  have HEach : Hid (∀ i, i < len → (zss[i]?.getD []).length ≤ 1048576) := fun i hi => by
    have h1 := at_le (ls := zss.map List.length) (i := i) (by rw [List.length_map, HLn.out]; exact hi)
    rw [List.getElem?_map] at h1
    have h2 : (zss[i]?.getD []).length = (Option.map List.length zss[i]?).getD 0 := by cases zss[i]? <;> rfl
    have := hsz.out
    omega
  have HSmall : Hid ((len : Int) ≤ 1048576 ∧ ∀ i, i < len → ((zss[i]?.getD []).length : Int) ≤ 1048576) := ⟨by have := HLen.out; omega, fun i hi => by have := HEach.out i hi; omega⟩
  have HSum : Hid (1 + ((zss.map List.length).sum : Nat) ≤ (1048576 : Int)) := by
    have h1 := hsz.out
    show _ ≤ _
    by_cases h0 : len = 0
    · have : zss = [] := List.length_eq_zero_iff.1 (by rw [HLn.out]; exact h0)
      subst this
      simp
    · omega
  go_wp2_with fail
  refine (toCnf vars a len cap zss _ (HR.out.below hB1.out) HLen.out HEach.out).mono ?_
  rintro e w2 ⟨N2, rfl, hN2, hb2, hc2⟩
  have HC2 := hid (hc2.rowsLen HLn.out HSmall.out)
  replace b0 := keep hb2 b0
  replace b1 := keep hb2 b1
  have hB2 := hid (hB1.out.trans (hb2.mono hB1.out.size))
  have z2 : w.heap.size < w2.heap.size := by have := hb2.size; omega
  clear hb2 hc2 z1 hB1
  go_wp2_with fail
  refine (norm_spec vars _ len len zss _ HC2.out).mono ?_
  rintro e w3 ⟨R, C, p0, n0, c0, ps0, rfl, ho0, hnorm, hb3⟩
  have HNo := hid hnorm
  have HO0 := hid ho0
  replace b0 := keep hb3 b0
  replace b1 := keep hb3 b1
  have hB3 := hid (hB2.out.trans (hb3.mono hB2.out.size))
  have z3 : w.heap.size < w3.heap.size := by have := hb3.size; omega
  clear hb3 ho0 hnorm z2 hB2 HC2
  go_wp2_with fail
  refine (toCnf vars a len cap zss _ ?_ HLen.out HEach.out).mono ?_
  · exact HR.out.below (hB3.out.trans (show Below w.heap.size w3 _ from (by repeat (first | exact Below.refl _ _ | assumption | refine Below.drew ?_ | refine Below.alloc ?_ (by first | exact Nat.le_refl _ | omega | (simp; done) | (simp; omega)) _ | refine Below.setCell ?_ (by first | exact Nat.le_refl _ | omega | (simp; done) | (simp; omega)) _))))
  rintro e w4 ⟨N4, rfl, hN4, hb4, hc4⟩
  have hb34 : Below w3.heap.size w3 w4 := (show Below w3.heap.size w3 _ from (by repeat (first | exact Below.refl _ _ | assumption | refine Below.drew ?_ | refine Below.alloc ?_ (by first | exact Nat.le_refl _ | omega | (simp; done) | (simp; omega)) _ | refine Below.setCell ?_ (by first | exact Nat.le_refl _ | omega | (simp; done) | (simp; omega)) _))).trans (hb4.mono (by simp))
  have y0 : w4.cell? ⟨w3.heap.size, 0, none⟩ = some (.int .i64 R) := keep hb4 (by simp [go_sem])
  have y1 : w4.cell? ⟨w3.heap.size, 1, none⟩ = some (.slice p0 n0 c0) := keep hb4 (by simp [go_sem])
  replace b0 := keep hb34 b0
  replace b1 := keep hb34 b1
  have HC4 := hid hc4
  have hN4' : w3.heap.size + 1 ≤ N4 := by simpa using hN4
  have HN4 := hid hN4'
  have z4 : w3.heap.size < w4.heap.size := by have := hb4.size; simp at this; omega
  have z04 : w.heap.size < w4.heap.size := by omega
  have HB34 := hid hb34
  have hB4 := hid (hB3.out.trans (hb34.mono hB3.out.size))
  clear hb4 hc4 hb34 hN4 hN4'
  go_wp2_with fail
  refine (norm_impl vars _ len len zss _ ?_ ?_).mono ?_
  · exact (HC4.out.rowsLen HLn.out HSmall.out).below (by repeat (first | exact Below.refl _ _ | assumption | refine Below.drew ?_ | refine Below.alloc ?_ (by first | exact Nat.le_refl _ | omega | (simp; done) | (simp; omega)) _ | refine Below.setCell ?_ (by first | exact Nat.le_refl _ | omega | (simp; done) | (simp; omega)) _))
  · refine caps_below (zss := zss) (w := w4) ?_ (HC4.out.rowsLen HLn.out HSmall.out) (by repeat (first | exact Below.refl _ _ | assumption | refine Below.drew ?_ | refine Below.alloc ?_ (by first | exact Nat.le_refl _ | omega | (simp; done) | (simp; omega)) _ | refine Below.setCell ?_ (by first | exact Nat.le_refl _ | omega | (simp; done) | (simp; omega)) _))
    have h := copied_caps HC4.out
    rw [HLn.out] at h
    exact h
  rintro e w5 ⟨R', C', p1, n1, c1, ps1, rfl, ho1, hnorm1, hlone1, hb5⟩
  obtain ⟨hRR, hCC, hLL⟩ := HNo.out.uniq hnorm1
  subst hRR
  subst hCC
  have HLL := hid hLL
  obtain ⟨L, hL⟩ : ∃ L, ps0.map (·.2) = L := ⟨_, rfl⟩
  rw [hL] at hLL
  have HL0 := hid hL
  have HL1 := hid hLL
  have HSz := hid hnorm1.sizes
  rw [hLL] at HSz
  have HO1 : Hid (OwnRows (w4.heap.size + 1) w5 (.slice p1 n1 c1) ps1) := rows_mono ho1 (by simp)
  have HLo1 := hid hlone1
  have hb45 : Below w4.heap.size w4 w5 := (show Below w4.heap.size w4 _ from (by repeat (first | exact Below.refl _ _ | assumption | refine Below.drew ?_ | refine Below.alloc ?_ (by first | exact Nat.le_refl _ | omega | (simp; done) | (simp; omega)) _ | refine Below.setCell ?_ (by first | exact Nat.le_refl _ | omega | (simp; done) | (simp; omega)) _))).trans (hb5.mono (by simp))
  have x0 : w5.cell? ⟨w4.heap.size, 0, none⟩ = some (.int .i64 vars) := keep hb5 (by simp [go_sem])
  have x1 : w5.cell? ⟨w4.heap.size, 1, none⟩ = some (.slice (some ⟨N4, 0, none⟩) len len) := keep hb5 (by simp [go_sem])
  replace b0 := keep hb45 b0
  replace b1 := keep hb45 b1
  replace y0 := keep hb45 y0
  replace y1 := keep hb45 y1
  have z5 : w4.heap.size < w5.heap.size := by have := hb5.size; simp at this; omega
  have z05 : w.heap.size < w5.heap.size := by omega
  have z35 : w3.heap.size < w5.heap.size := by omega
  have HB35 := hid (HB34.out.trans (hb45.mono HB34.out.size))
  have hB5 := hid (hB4.out.trans (hb45.mono hB4.out.size))
  have HC5 := hid (HC4.out.below hb45)
  have HCl := hid (copied_lt HC4.out)
  have HRl := hid (rows_lt HO1.out)
  clear hb5 hb45 ho1 hnorm1 hlone1 hLL hL HLL HC4 HB34 hB4 hB3
  have hdL : decide (R' = R' ∧ L = L) = true := decide_eq_true ⟨rfl, rfl⟩
  have hqC : (C' != C') = false := by simp
  go_wp2_with fail
  refine (eqCnf R' R' p1 p0 n1 n0 c1 c0 L L _ ?_ ?_).mono ?_
  · exact (rows_is HO1.out HL1.out).below (by repeat (first | exact Below.refl _ _ | assumption | refine Below.drew ?_ | refine Below.alloc ?_ (by first | exact Nat.le_refl _ | omega | (simp; done) | (simp; omega)) _ | refine Below.setCell ?_ (by first | exact Nat.le_refl _ | omega | (simp; done) | (simp; omega)) _))
  · exact (rows_is (OwnRows.below HO0.out HB35.out) HL0.out).below (by repeat (first | exact Below.refl _ _ | assumption | refine Below.drew ?_ | refine Below.alloc ?_ (by first | exact Nat.le_refl _ | omega | (simp; done) | (simp; omega)) _ | refine Below.setCell ?_ (by first | exact Nat.le_refl _ | omega | (simp; done) | (simp; omega)) _))
  rintro e w6 ⟨rfl, hb6⟩
  have hb56 : Below w5.heap.size w5 w6 := (show Below w5.heap.size w5 _ from (by repeat (first | exact Below.refl _ _ | assumption | refine Below.drew ?_ | refine Below.alloc ?_ (by first | exact Nat.le_refl _ | omega | (simp; done) | (simp; omega)) _ | refine Below.setCell ?_ (by first | exact Nat.le_refl _ | omega | (simp; done) | (simp; omega)) _))).trans (hb6.mono (by simp))
  have g0 : w6.cell? ⟨w5.heap.size, 0, none⟩ = some (.int .i64 R') := keep hb6 (by simp [go_sem])
  have g1 : w6.cell? ⟨w5.heap.size, 1, none⟩ = some (.slice p1 n1 c1) := keep hb6 (by simp [go_sem])
  replace b0 := keep hb56 b0
  replace b1 := keep hb56 b1
  replace y0 := keep hb56 y0
  replace y1 := keep hb56 y1
  replace x0 := keep hb56 x0
  replace x1 := keep hb56 x1
  have z6 : w5.heap.size < w6.heap.size := by have := hb6.size; simp at this; omega
  have HB36 := hid (HB35.out.trans (hb56.mono HB35.out.size))
  have hB6 := hid (hB5.out.trans (hb56.mono hB5.out.size))
  have HC6 := hid (HC5.out.below hb56)
  have HO16 := hid (OwnRows.below HO1.out hb56)
  clear hb6 hb56 HC5 HO1 HB35 hB5
  go_wp2_with fail
  have HK6 : Hid (∀ w8 : World, Below w6.heap.size w6 w8 → w8.cell? ⟨w4.heap.size, 0, none⟩ = some (.int .i64 vars) ∧ w8.cell? ⟨w4.heap.size, 1, none⟩ = some (.slice (some ⟨N4, 0, none⟩) len len) ∧ w8.cell? ⟨w.heap.size, 0, none⟩ = some (.int .i64 vars) ∧ w8.cell? ⟨w.heap.size, 1, none⟩ = some (.slice a len cap) ∧ Below w6.heap.size w6 w8) := fun w8 h => ⟨keep h x0, keep h x1, keep h b0, keep h b1, h⟩
  go_region_held3 (fun w8 => w8.cell? ⟨w4.heap.size, 0, none⟩ = some (.int .i64 vars) ∧ w8.cell? ⟨w4.heap.size, 1, none⟩ = some (.slice (some ⟨N4, 0, none⟩) len len) ∧ w8.cell? ⟨w.heap.size, 0, none⟩ = some (.int .i64 vars) ∧ w8.cell? ⟨w.heap.size, 1, none⟩ = some (.slice a len cap) ∧ Below w6.heap.size w6 w8)
    (refine HK6.out _ (by first | assumption | exact (Below.refl _ w6).drew | exact hb7' | exact hb68))
    (first
      | (go_at_call 20; refine (toCnf vars a len cap zss _ (HR.out.below hB6.out.drew) HLen.out HEach.out).mono ?_; rintro e w7 ⟨N7, rfl, hN7, hb7, hc7⟩; have hb7' : Below w6.heap.size w6 w7 := ((Below.refl _ w6).drew).trans hb7; clear hb7)
      | (go_at_call 21; refine (eqCnf vars vars _ _ len len len len zss zss _ ((HC6.out.rowsLen HLn.out HSmall.out).below hb7') (hc7.rowsLen HLn.out HSmall.out)).mono ?_; rintro e w8 ⟨rfl, hb8⟩; have hb68 : Below w6.heap.size w6 w8 := hb7'.trans (hb8.mono hb7'.size); clear hb8))
  all_goals
    have hd : decide (vars = vars ∧ zss = zss) = true := decide_eq_true ⟨rfl, rfl⟩
    have b0 := keep hb68 b0
    have b1 := keep hb68 b1
    have y0 := keep hb68 y0
    have y1 := keep hb68 y1
    have x0 := keep hb68 x0
    have x1 := keep hb68 x1
    have g0 := keep hb68 g0
    have g1 := keep hb68 g1
    have HB38 := hid (HB36.out.trans (hb68.mono HB36.out.size))
    have hB8 := hid (hB6.out.trans (hb68.mono hB6.out.size))
    have HX8 := hid (copied_own (B := w3.heap.size + 1) (HC6.out.below hb68) HN4.out (by rw [HLn.out]; have := HLen.out; unfold maxLen; omega) (fun i hi => by have := HEach.out i (by rw [← HLn.out]; exact hi); unfold maxLen; omega))
    have HO18 := hid (OwnRows.below HO16.out hb68)
    have z8 : w6.heap.size ≤ w8.heap.size := hb68.size
    clear hb7' hb68 hc7 hN7
    go_wp2_with fail
    have s1 := HSum.out
    have HLc := hid (lens_copied N4 zss)
    refine (markCnf_own (w3.heap.size + 1) vars (some ⟨N4, 0, none⟩) len len (copiedPs N4 zss) 1 _ (by have h := HX8.out.1; rw [HLn.out] at h; exact h) HX8.out.2 (by omega) (by omega) (by rw [HLc.out]; exact s1) (by rw [copied_length, HLn.out]; exact HLen.out)).mono ?_
    rintro e w9 ⟨rfl, qs9, ho9, hm9, hb9, hon9⟩
    rw [HLc.out]
    obtain ⟨SX, hSX⟩ : ∃ SX : Nat, (zss.map List.length).sum = SX := ⟨_, rfl⟩
    rw [hSX]
    have HCl8 : Hid (∀ u ∈ (copiedPs N4 zss).map Prod.fst, ∀ g, u.ownBlock = some g → g < w4.heap.size) := HCl.out
    have HB39 := hid (HB38.out.trans (hb9.mono (by omega)))
    have hB9 := hid (hB8.out.trans (hb9.mono (by omega)))
    have b0 := keepB hb9 (show w.heap.size < w3.heap.size + 1 by omega) b0
    have b1 := keepB hb9 (show w.heap.size < w3.heap.size + 1 by omega) b1
    have y0 := keepB hb9 (show w3.heap.size < w3.heap.size + 1 by omega) y0
    have y1 := keepB hb9 (show w3.heap.size < w3.heap.size + 1 by omega) y1
    have g0 := cell_only g0 hon9 (fun u hu e => by have := HCl8.out u hu _ e; omega)
    have g1 := cell_only g1 hon9 (fun u hu e => by have := HCl8.out u hu _ e; omega)
    have HO19 := hid (rows_only HO18.out hon9 (fun u hu g hg => by have := HCl8.out u hu g hg; omega))
    have z9 : w8.heap.size ≤ w9.heap.size := hon9.1
    clear ho9 hm9 hb9 hon9 x0 x1
    have hk0 : ¬ (1 + (SX : Int) < 0) := by omega
    have hSm : SX ≤ 1048575 := by rw [hSX] at s1; omega
    clear hSX s1 HX8
    go_wp2_with fail
    refine (eqCnf R' R' p1 p0 n1 n0 c1 c0 L L _ (rows_is HO19.out HL1.out) (rows_is (OwnRows.below HO0.out HB39.out) HL0.out)).mono ?_
    rintro e w10 ⟨rfl, hb10⟩
    have b0 := keep hb10 b0
    have b1 := keep hb10 b1
    have y0 := keep hb10 y0
    have y1 := keep hb10 y1
    have g0 := keep hb10 g0
    have g1 := keep hb10 g1
    have HB310 := hid (HB39.out.trans (hb10.mono HB39.out.size))
    have hB10 := hid (hB9.out.trans (hb10.mono hB9.out.size))
    have HO110 := hid (OwnRows.below HO19.out hb10)
    have z10 : w9.heap.size ≤ w10.heap.size := hb10.size
    clear hb10
    go_wp2_with fail
    have HLr : Hid (ps1.map (fun p => p.2.length) = L.map List.length) := by
      show _ = _
      rw [lens_rows, HL1.out]
    have hLs := HSz.out
    have HPl : Hid (ps1.length ≤ 300) := by
      show _ ≤ _
      have : ps1.length = L.length := by rw [← HL1.out, List.length_map]
      omega
    refine (markCnf_own (w4.heap.size + 1) R' p1 n1 c1 ps1 1 _ HO110.out HLo1.out (by omega) (by omega) (by rw [HLr.out]; omega) (by have := HPl.out; omega)).mono ?_
    rintro e w11 ⟨rfl, qs11, ho11, hm11, hb11, hon11⟩
    rw [HLr.out] at hm11 ⊢
    have HO111 := hid ho11
    have HM11 := hid hm11
    have HB311 := hid (HB310.out.trans (hb11.mono (by omega)))
    have hB11 := hid (hB10.out.trans (hb11.mono (by omega)))
    have b0 := keepB hb11 (show w.heap.size < w4.heap.size + 1 by omega) b0
    have b1 := keepB hb11 (show w.heap.size < w4.heap.size + 1 by omega) b1
    have y0 := keepB hb11 (show w3.heap.size < w4.heap.size + 1 by omega) y0
    have y1 := keepB hb11 (show w3.heap.size < w4.heap.size + 1 by omega) y1
    have g0 := cell_only g0 hon11 (fun u hu e => by have := HRl.out u hu _ e; omega)
    have g1 := cell_only g1 hon11 (fun u hu e => by have := HRl.out u hu _ e; omega)
    have z11 : w10.heap.size ≤ w11.heap.size := hon11.1
    clear ho11 hm11 hb11 hon11
    have HS36 : Hid ((1 : Int) + ((L.map List.length).sum : Nat) ≤ 1048576) := by show _ ≤ _; omega
    obtain ⟨SG, hSG⟩ : ∃ SG : Nat, (L.map List.length).sum = SG := ⟨_, rfl⟩
    have HSG := hid hSG
    rw [hSG]
    have hsg : SG ≤ 3600 := by omega
    clear hSG hLs
    have hq1 : ((1 : Int) + (SG : Int) != 1 + (SG : Int)) = false := by simp
    have hq2 : ¬ (1 + (SG : Int) < 0) := by omega
    go_wp2_with fail
    refine (heldCnf_rows R' p1 n1 c1 (L.map List.length) 1 _ (rows_is HO111.out HM11.out) (by omega) HS36.out).mono ?_
    rintro e w12 ⟨rfl, hb12⟩
    rw [HSG.out]
    have b0 := keep hb12 b0
    have b1 := keep hb12 b1
    have y0 := keep hb12 y0
    have y1 := keep hb12 y1
    have g0 := keep hb12 g0
    have g1 := keep hb12 g1
    have HB312 := hid (HB311.out.trans (hb12.mono HB311.out.size))
    have hB12 := hid (hB11.out.trans (hb12.mono hB11.out.size))
    have HO112 := hid (OwnRows.below HO111.out hb12)
    have z12 : w11.heap.size ≤ w12.heap.size := hb12.size
    clear hb12
    go_wp2_with fail
    refine (toCnf vars a len cap zss _ (HR.out.below hB12.out) HLen.out HEach.out).mono ?_
    rintro e w13 ⟨N13, rfl, hN13, hb13, hc13⟩
    have y0 := keep hb13 y0
    have y1 := keep hb13 y1
    have g0 := keep hb13 g0
    have g1 := keep hb13 g1
    have HB313 := hid (HB312.out.trans (hb13.mono HB312.out.size))
    have hB13 := hid (hB12.out.trans (hb13.mono hB12.out.size))
    have HO113 := hid (OwnRows.below HO112.out hb13)
    have z13 : w12.heap.size ≤ w13.heap.size := hb13.size
    have HC13 := hid hc13
    clear hb13 hc13 hN13 b0 b1
    go_wp2_with fail
    refine (norm_impl vars _ len len zss _ (HC13.out.rowsLen HLn.out HSmall.out) (by have h := copied_caps HC13.out; rw [HLn.out] at h; exact h)).mono ?_
    rintro e w14 ⟨R2, C2, p2, n2, c2, ps2, rfl, ho2, hnorm2, hlone2, hb14⟩
    obtain ⟨hR2, hC2, hL2⟩ := HNo.out.uniq hnorm2
    rw [HL0.out] at hL2
    subst hR2
    subst hC2
    have y0 := keep hb14 y0
    have y1 := keep hb14 y1
    have g0 := keep hb14 g0
    have g1 := keep hb14 g1
    have HB314 := hid (HB313.out.trans (hb14.mono HB313.out.size))
    have hB14 := hid (hB13.out.trans (hb14.mono hB13.out.size))
    have HO114 := hid (OwnRows.below HO113.out hb14)
    have HO2 := hid ho2
    have HL2 := hid hL2
    have z14 : w13.heap.size ≤ w14.heap.size := hb14.size
    have z314 : w3.heap.size < w14.heap.size := by omega
    have z514 : w5.heap.size < w14.heap.size := by omega
    clear hb14 ho2 hnorm2 hlone2 hL2
    go_wp2_with fail
    refine (eqCnf R2 R2 p2 p0 n2 n0 c2 c0 L L _ ?_ ?_).mono ?_
    · exact (rows_is HO2.out HL2.out).below (by repeat (first | exact Below.refl _ _ | assumption | refine Below.drew ?_ | refine Below.alloc ?_ (by first | exact Nat.le_refl _ | omega | (simp; done) | (simp; omega)) _ | refine Below.setCell ?_ (by first | exact Nat.le_refl _ | omega | (simp; done) | (simp; omega)) _))
    · exact (rows_is (OwnRows.below HO0.out HB314.out) HL0.out).below (by repeat (first | exact Below.refl _ _ | assumption | refine Below.drew ?_ | refine Below.alloc ?_ (by first | exact Nat.le_refl _ | omega | (simp; done) | (simp; omega)) _ | refine Below.setCell ?_ (by first | exact Nat.le_refl _ | omega | (simp; done) | (simp; omega)) _))
    rintro e w15 ⟨rfl, hb15⟩
    have hb145 : Below w14.heap.size w14 w15 := (show Below w14.heap.size w14 _ from (by repeat (first | exact Below.refl _ _ | assumption | refine Below.drew ?_ | refine Below.alloc ?_ (by first | exact Nat.le_refl _ | omega | (simp; done) | (simp; omega)) _ | refine Below.setCell ?_ (by first | exact Nat.le_refl _ | omega | (simp; done) | (simp; omega)) _))).trans (hb15.mono (by simp))
    have g0 := keep hb145 g0
    have g1 := keep hb145 g1
    have hB15 := hid (hB14.out.trans (hb145.mono hB14.out.size))
    have HO115 := hid (OwnRows.below HO114.out hb145)
    clear hb15 hb145
    go_wp2_with fail
    refine (heldCnf_rows R2 p1 n1 c1 (L.map List.length) 1 _ (rows_is HO115.out HM11.out) (by omega) HS36.out).mono ?_
    rintro e w16 ⟨rfl, hb16⟩
    rw [HSG.out]
    have hB16 := hid (hB15.out.trans (hb16.mono hB15.out.size))
    clear hb16
    go_wp2
    go_ret
    exact ⟨rfl, hB16.out⟩

theorem own : ownKnob Try.prog.godebug = none := by kernel_rfl
theorem laidOut : laidOutB Try.prog = true := by kernel_rfl
theorem cells_cnf : Try.prog.cellsOf 43 = 2 := by kernel_rfl

set_option maxRecDepth 100000 in
theorem lifted (os : Os) (started : os.Started) (H : Type) (enc : TypeId × Value → H) :
    ReturnsInHanded {} Try.checked os 5 .any (Rows.fnExactNormalCnfSpec.pre6 enc Try.prog Try.f5 Rows.fnExactNormalCnfRow.domain false) (Rows.fnExactNormalCnfSpec.post enc Try.prog Try.f5 false true false false) := by
  refine returnsInHanded_of_change (C := Try.checked) own started (by kernel_rfl) Try.func5
    (ChangeSpec.witness6 (enc := enc) (C := Try.checked) false ⟨#[], #[.agg #[.int .i64 0, .slice none 0 0]], []⟩ 8 (by kernel_rfl) (by kernel_rfl) (by kernel_rfl) (by kernel_rfl)) ?_
  intro W base args ds gs before hval0 hW hcnd _
  have hval : ∀ (j : Nat) t v, Try.f5.params[j]? = some t → args[j]? = some v → Value.okWide Try.prog W .any base t v := hval0
  have hW' := hW
  obtain ⟨p, q, hA0, hV, rfl, hfz, hnd⟩ := hW
  have hA : DataW.TrodAll enc Try.prog W 0 (fun _ => true) true Try.f5.params.toList args.toList ds p := hA0
  rw [Try.params5] at hA hval
  obtain ⟨v0, vs0, d0, ds0, p0, q0, hargs, rfl, rfl, h0, r0⟩ := trodAll_cons hA
  obtain ⟨rfl, rfl, rfl⟩ := trodAll_nil r0
  obtain rfl : args = #[v0] := by cases args; simp_all
  obtain ⟨rfl, rfl⟩ := trodVars_none hV
  have k0 := h0
  have lt0 : ∀ x ∈ p0, x.block < W.heap.size := by obtain ⟨m, hm⟩ := k0; exact DataW.trod_lt m _ _ _ hm
  obtain ⟨c0, c1, y0, y1, m, rfl, hd0, hp0, hy0, hy1⟩ := open_agg2 Try.underlying43 (by kernel_rfl) cells_cnf (hval 0 43 v0 rfl rfl) h0
  obtain ⟨vars, rfl, wv⟩ := int_of_trod Try.underlying3 hy0
  obtain ⟨a, len, cap, zss, rfl, hrow, hwz⟩ := rows_of_trod Try.underlying23 Try.underlying37 Try.underlying3 (by kernel_rfl) (by kernel_rfl) hy1
  clear hA0 hval0
  refine (walk vars a len cap zss W hrow).mono fun e W' ⟨he, bel⟩ => ?_
  subst he
  exact ⟨_, rfl, _, _, _, [], _, [], hW', trodAll_mk1 (shut_bool Try.underlying4 _), (trodAll_cons_mk (Below.trod laidOut (by kernel_rfl) (of_decide_eq_true (by kernel_rfl)) k0 bel lt0) trodAll_mk0), rfl, bel.frame _, fun h => by cases h⟩

theorem over : Rows.fnExactNormalCnfRow.holds Try.pinned (OpenSpec.ofChange Rows.fnExactNormalCnfSpec) :=
  OpenClaim.holds_of_wide 5 Try.f5 rfl rfl rfl rfl rfl rfl rfl ⟨rfl, rfl, rfl, rfl, rfl⟩ rfl rfl rfl rfl rfl (by kernel_rfl) Try.func5 (by kernel_rfl)
    (of_decide_eq_true (by kernel_rfl)) (by unfold Func.isWrapper; first | (rw [if_pos (by decide +kernel)]; kernel_rfl) | (rw [if_neg (by decide +kernel)]; exact ⟨rfl, rfl⟩))
    (fun os started H enc _ => lifted os started H enc)
end Go.Proofs.Ytiiigdcfnnjkcaa.fnExactNormalCnf
namespace Go.Proofs.Ytiiigdcfnnjkcaa
theorem fnExactNormalCnf_holds : Rows.FnExactNormalCnfSaid := fnExactNormalCnf.over
end Go.Proofs.Ytiiigdcfnnjkcaa
