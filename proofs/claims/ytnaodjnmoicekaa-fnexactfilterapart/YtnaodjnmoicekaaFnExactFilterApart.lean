/- For every two networks and four numbers FilterApart answers as its specification (the port and the code), and the arguments are as they were; conditions: none. -/
import Derived.Test.YtnaodjnmoicekaaApartSpec
import Derived.Test.YtnaodjnmoicekaaApartImpl
import Derived.Test.YtnaodjnmoicekaaNetWhole
import Derived.Test.YtnaodjnmoicekaaNetArgs
namespace Go.Proofs.Ytnaodjnmoicekaa.fnExactFilterApart
open Go.ChangeShapes Go.WideShapes Go.ChangeAt Go.RowKit Go.Deep Go.Joins base copy names netSem netCopy netWhole netArgs args filtSem apartSem apartSpec apartImpl
set_option linter.unusedVariables false

set_option maxHeartbeats 6400000 in
set_option maxRecDepth 8000 in
theorem walk (p : Nat → Option Addr) (l c : Nat → Nat) (s : Ss) (g : R) (o e : List Int) (x f : R) (pp : Nat → Option Addr) (ll cc : Nat → Nat) (ss : Ss) (gg : R) (oo ee : List Int) (xx ff : R) (a b a2 b2 : Int) (w : World) (h : NetIs w p l s g o e x f) (h' : NetIs w pp ll ss gg oo ee xx ff) :
    Calls Try.prog 4 #[netV p l c, .int .i64 a, .int .i64 b, netV pp ll cc, .int .i64 a2, .int .i64 b2] w fun e' w' => e' = .returned (.bool true) ∧ Below w.heap.size w w' := by
  have HN := hid h
  have HM := hid h'
  have HM1 : Hid (∀ i, i < 6 → l i ≤ maxLen) := fun i hi => by
    match i, hi with
    | 0, _ => exact h.routers.most
    | 1, _ => exact h.links.most
    | 2, _ => exact h.origins.most
    | 3, _ => exact h.externals.most
    | 4, _ => exact h.imports.most
    | 5, _ => exact h.filters.most
    | i + 6, hi => exact absurd hi (by omega)
  have HS1 := hid h.routers.size
  have HO1 := hid h.origins.length
  have HE1 := hid h.externals.length
  have HM2 : Hid (∀ i, i < 6 → ll i ≤ maxLen) := fun i hi => by
    match i, hi with
    | 0, _ => exact h'.routers.most
    | 1, _ => exact h'.links.most
    | 2, _ => exact h'.origins.most
    | 3, _ => exact h'.externals.most
    | 4, _ => exact h'.imports.most
    | 5, _ => exact h'.filters.most
    | i + 6, hi => exact absurd hi (by omega)
  have HS2 := hid h'.routers.size
  have HO2 := hid h'.origins.length
  have HE2 := hid h'.externals.length
  clear h h'
  have HC1 : Hid (∀ w8 : World, Below ((w.alloc (.cells #[.slice (p 0) (l 0) (c 0), .slice (p 1) (l 1) (c 1), .slice (p 2) (l 2) (c 2), .slice (p 3) (l 3) (c 3), .slice (p 4) (l 4) (c 4), .slice (p 5) (l 5) (c 5)] 28)).alloc (.cells #[.slice (pp 0) (ll 0) (cc 0), .slice (pp 1) (ll 1) (cc 1), .slice (pp 2) (ll 2) (cc 2), .slice (pp 3) (ll 3) (cc 3), .slice (pp 4) (ll 4) (cc 4), .slice (pp 5) (ll 5) (cc 5)] 28)).heap.size ((w.alloc (.cells #[.slice (p 0) (l 0) (c 0), .slice (p 1) (l 1) (c 1), .slice (p 2) (l 2) (c 2), .slice (p 3) (l 3) (c 3), .slice (p 4) (l 4) (c 4), .slice (p 5) (l 5) (c 5)] 28)).alloc (.cells #[.slice (pp 0) (ll 0) (cc 0), .slice (pp 1) (ll 1) (cc 1), .slice (pp 2) (ll 2) (cc 2), .slice (pp 3) (ll 3) (cc 3), .slice (pp 4) (ll 4) (cc 4), .slice (pp 5) (ll 5) (cc 5)] 28)) w8 → (w8.cell? ⟨w.heap.size, 0, none⟩ = some (.slice (p 0) (l 0) (c 0)) ∧ w8.cell? ⟨w.heap.size, 1, none⟩ = some (.slice (p 1) (l 1) (c 1)) ∧ w8.cell? ⟨w.heap.size, 2, none⟩ = some (.slice (p 2) (l 2) (c 2)) ∧ w8.cell? ⟨w.heap.size, 3, none⟩ = some (.slice (p 3) (l 3) (c 3)) ∧ w8.cell? ⟨w.heap.size, 4, none⟩ = some (.slice (p 4) (l 4) (c 4)) ∧ w8.cell? ⟨w.heap.size, 5, none⟩ = some (.slice (p 5) (l 5) (c 5))) ∧ (w8.cell? ⟨w.heap.size + 1, 0, none⟩ = some (.slice (pp 0) (ll 0) (cc 0)) ∧ w8.cell? ⟨w.heap.size + 1, 1, none⟩ = some (.slice (pp 1) (ll 1) (cc 1)) ∧ w8.cell? ⟨w.heap.size + 1, 2, none⟩ = some (.slice (pp 2) (ll 2) (cc 2)) ∧ w8.cell? ⟨w.heap.size + 1, 3, none⟩ = some (.slice (pp 3) (ll 3) (cc 3)) ∧ w8.cell? ⟨w.heap.size + 1, 4, none⟩ = some (.slice (pp 4) (ll 4) (cc 4)) ∧ w8.cell? ⟨w.heap.size + 1, 5, none⟩ = some (.slice (pp 5) (ll 5) (cc 5))) ∧ NetIs w8 p l s g o e x f ∧ NetIs w8 pp ll ss gg oo ee xx ff ∧ Below w.heap.size w w8 ∧ w.heap.size + 1 < w8.heap.size) :=
    fun w8 hb => ⟨⟨keep hb (by simp [go_sem]), keep hb (by simp [go_sem]), keep hb (by simp [go_sem]), keep hb (by simp [go_sem]), keep hb (by simp [go_sem]), keep hb (by simp [go_sem])⟩, ⟨keep hb (by simp [go_sem]), keep hb (by simp [go_sem]), keep hb (by simp [go_sem]), keep hb (by simp [go_sem]), keep hb (by simp [go_sem]), keep hb (by simp [go_sem])⟩, (HN.out.below (by repeat (first | exact Below.refl _ _ | assumption | refine Below.drew ?_ | refine Below.alloc ?_ (by first | exact Nat.le_refl _ | omega | (simp; done) | (simp; omega)) _ | refine Below.setCell ?_ (by first | exact Nat.le_refl _ | omega | (simp; done) | (simp; omega)) _))).below hb, (HM.out.below (by repeat (first | exact Below.refl _ _ | assumption | refine Below.drew ?_ | refine Below.alloc ?_ (by first | exact Nat.le_refl _ | omega | (simp; done) | (simp; omega)) _ | refine Below.setCell ?_ (by first | exact Nat.le_refl _ | omega | (simp; done) | (simp; omega)) _))).below hb, (show Below w.heap.size w _ from (by repeat (first | exact Below.refl _ _ | assumption | refine Below.drew ?_ | refine Below.alloc ?_ (by first | exact Nat.le_refl _ | omega | (simp; done) | (simp; omega)) _ | refine Below.setCell ?_ (by first | exact Nat.le_refl _ | omega | (simp; done) | (simp; omega)) _))).trans (hb.mono (by simp; omega)), Nat.lt_of_lt_of_le (by simp) hb.size⟩
  obtain ⟨C, hC⟩ : ∃ q, apC (netB l s g o e x f) (netB ll ss gg oo ee xx ff) (apI (l 0) (ll 0) a b a2 b2) (apA f (l 5) a b ff (ll 5) a2 b2) = q := ⟨_, rfl⟩
  have EC := hid hC
  obtain ⟨P, hP⟩ : ∃ q, apP (apC (netB l s g o e x f) (netB ll ss gg oo ee xx ff) (apI (l 0) (ll 0) a b a2 b2) (apA f (l 5) a b ff (ll 5) a2 b2)) (apA f (l 5) a b ff (ll 5) a2 b2) = q := ⟨_, rfl⟩
  rw [hC] at hP
  have EP := hid hP
  have hqC : (C != C) = false := by simp
  have hqP : (P != P) = false := by simp
  clear hC hP
  unfold netV
  go_enter Try.func4, Try.ntmps4
  go_wp2_with fail
  refine (szNet p l c s g o e x f 1048576 _ (HN.out.below (by repeat (first | exact Below.refl _ _ | assumption | refine Below.drew ?_ | refine Below.alloc ?_ (by first | exact Nat.le_refl _ | omega | (simp; done) | (simp; omega)) _ | refine Below.setCell ?_ (by first | exact Nat.le_refl _ | omega | (simp; done) | (simp; omega)) _))) (by omega) (by omega)).mono ?_
  rintro e' w1 ⟨r, rfl, hb, hr1, hr2, hr3⟩
  have H3 := hid hr3
  have H1 : Hid (Below ((w.alloc (.cells #[.slice (p 0) (l 0) (c 0), .slice (p 1) (l 1) (c 1), .slice (p 2) (l 2) (c 2), .slice (p 3) (l 3) (c 3), .slice (p 4) (l 4) (c 4), .slice (p 5) (l 5) (c 5)] 28)).alloc (.cells #[.slice (pp 0) (ll 0) (cc 0), .slice (pp 1) (ll 1) (cc 1), .slice (pp 2) (ll 2) (cc 2), .slice (pp 3) (ll 3) (cc 3), .slice (pp 4) (ll 4) (cc 4), .slice (pp 5) (ll 5) (cc 5)] 28)).heap.size ((w.alloc (.cells #[.slice (p 0) (l 0) (c 0), .slice (p 1) (l 1) (c 1), .slice (p 2) (l 2) (c 2), .slice (p 3) (l 3) (c 3), .slice (p 4) (l 4) (c 4), .slice (p 5) (l 5) (c 5)] 28)).alloc (.cells #[.slice (pp 0) (ll 0) (cc 0), .slice (pp 1) (ll 1) (cc 1), .slice (pp 2) (ll 2) (cc 2), .slice (pp 3) (ll 3) (cc 3), .slice (pp 4) (ll 4) (cc 4), .slice (pp 5) (ll 5) (cc 5)] 28)) w1) := hb
  obtain ⟨⟨q0, q1, q2, q3, q4, q5⟩, ⟨r0, r1, r2, r3, r4, r5⟩, hn, hm, hB, hz⟩ := HC1.out w1 H1.out
  have NW := hid hn
  have MW := hid hm
  have BW := hid hB
  clear hr3 hb hn hm hB
  by_cases hneg : r < 0
  · go_wp2
    go_ret
    exact ⟨rfl, BW.out⟩
  have HL1 := hid (H3.out (by omega))
  go_wp2_with fail
  refine (szNet pp ll cc ss gg oo ee xx ff r _ MW.out (by omega) (by omega)).mono ?_
  rintro e' w2 ⟨r2', rfl, hb, hs1, hs2, hs3⟩
  have H4 := hid hs3
  have H2 := hid (H1.out.trans (hb.mono H1.out.size))
  clear q0 q1 q2 q3 q4 q5 r0 r1 r2 r3 r4 r5 hz NW MW BW
  obtain ⟨⟨q0, q1, q2, q3, q4, q5⟩, ⟨r0, r1, r2, r3, r4, r5⟩, hn, hm, hB, hz⟩ := HC1.out w2 H2.out
  have NW := hid hn
  have MW := hid hm
  have BW := hid hB
  clear hs3 hb hn hm hB
  by_cases hneg2 : r2' < 0
  · go_wp2
    go_ret
    exact ⟨rfl, BW.out⟩
  have HL2 := hid (H4.out (by omega))
  clear BW
  have K1 : Hid (∀ w8 : World, Below w2.heap.size w2 w8 → ((w8.cell? ⟨w.heap.size, 0, none⟩ = some (.slice (p 0) (l 0) (c 0)) ∧ w8.cell? ⟨w.heap.size, 1, none⟩ = some (.slice (p 1) (l 1) (c 1)) ∧ w8.cell? ⟨w.heap.size, 2, none⟩ = some (.slice (p 2) (l 2) (c 2)) ∧ w8.cell? ⟨w.heap.size, 3, none⟩ = some (.slice (p 3) (l 3) (c 3)) ∧ w8.cell? ⟨w.heap.size, 4, none⟩ = some (.slice (p 4) (l 4) (c 4)) ∧ w8.cell? ⟨w.heap.size, 5, none⟩ = some (.slice (p 5) (l 5) (c 5))) ∧ (w8.cell? ⟨w.heap.size + 1, 0, none⟩ = some (.slice (pp 0) (ll 0) (cc 0)) ∧ w8.cell? ⟨w.heap.size + 1, 1, none⟩ = some (.slice (pp 1) (ll 1) (cc 1)) ∧ w8.cell? ⟨w.heap.size + 1, 2, none⟩ = some (.slice (pp 2) (ll 2) (cc 2)) ∧ w8.cell? ⟨w.heap.size + 1, 3, none⟩ = some (.slice (pp 3) (ll 3) (cc 3)) ∧ w8.cell? ⟨w.heap.size + 1, 4, none⟩ = some (.slice (pp 4) (ll 4) (cc 4)) ∧ w8.cell? ⟨w.heap.size + 1, 5, none⟩ = some (.slice (pp 5) (ll 5) (cc 5)))) ∧ Below w2.heap.size w2 w8) := fun w8 h => by
    obtain ⟨⟨q0, q1, q2, q3, q4, q5⟩, ⟨r0, r1, r2, r3, r4, r5⟩, hn, hm, hB, hz⟩ := HC1.out w8 (H2.out.trans (h.mono H2.out.size))
    exact ⟨⟨⟨q0, q1, q2, q3, q4, q5⟩, r0, r1, r2, r3, r4, r5⟩, h⟩
  have K2 : Hid (∀ w8 : World, Below w2.heap.size w2 w8 → w8.cell? ⟨w.heap.size, 0, none⟩ = some (.slice (p 0) (l 0) (c 0)) ∧ w8.cell? ⟨w.heap.size, 1, none⟩ = some (.slice (p 1) (l 1) (c 1)) ∧ w8.cell? ⟨w.heap.size, 2, none⟩ = some (.slice (p 2) (l 2) (c 2)) ∧ w8.cell? ⟨w.heap.size, 3, none⟩ = some (.slice (p 3) (l 3) (c 3)) ∧ w8.cell? ⟨w.heap.size, 4, none⟩ = some (.slice (p 4) (l 4) (c 4)) ∧ w8.cell? ⟨w.heap.size, 5, none⟩ = some (.slice (p 5) (l 5) (c 5)) ∧ w8.cell? ⟨w.heap.size + 1, 0, none⟩ = some (.slice (pp 0) (ll 0) (cc 0)) ∧ w8.cell? ⟨w.heap.size + 1, 1, none⟩ = some (.slice (pp 1) (ll 1) (cc 1)) ∧ w8.cell? ⟨w.heap.size + 1, 2, none⟩ = some (.slice (pp 2) (ll 2) (cc 2)) ∧ w8.cell? ⟨w.heap.size + 1, 3, none⟩ = some (.slice (pp 3) (ll 3) (cc 3)) ∧ w8.cell? ⟨w.heap.size + 1, 4, none⟩ = some (.slice (pp 4) (ll 4) (cc 4)) ∧ w8.cell? ⟨w.heap.size + 1, 5, none⟩ = some (.slice (pp 5) (ll 5) (cc 5)) ∧ Below w2.heap.size w2 w8) := fun w8 h => by
    obtain ⟨⟨⟨q0, q1, q2, q3, q4, q5⟩, r0, r1, r2, r3, r4, r5⟩, hx⟩ := K1.out w8 h
    exact ⟨q0, q1, q2, q3, q4, q5, r0, r1, r2, r3, r4, r5, hx⟩
  go_wp2_with fail
  go_region_held3 (fun w8 => w8.cell? ⟨w.heap.size, 0, none⟩ = some (.slice (p 0) (l 0) (c 0)) ∧ w8.cell? ⟨w.heap.size, 1, none⟩ = some (.slice (p 1) (l 1) (c 1)) ∧ w8.cell? ⟨w.heap.size, 2, none⟩ = some (.slice (p 2) (l 2) (c 2)) ∧ w8.cell? ⟨w.heap.size, 3, none⟩ = some (.slice (p 3) (l 3) (c 3)) ∧ w8.cell? ⟨w.heap.size, 4, none⟩ = some (.slice (p 4) (l 4) (c 4)) ∧ w8.cell? ⟨w.heap.size, 5, none⟩ = some (.slice (p 5) (l 5) (c 5)) ∧ w8.cell? ⟨w.heap.size + 1, 0, none⟩ = some (.slice (pp 0) (ll 0) (cc 0)) ∧ w8.cell? ⟨w.heap.size + 1, 1, none⟩ = some (.slice (pp 1) (ll 1) (cc 1)) ∧ w8.cell? ⟨w.heap.size + 1, 2, none⟩ = some (.slice (pp 2) (ll 2) (cc 2)) ∧ w8.cell? ⟨w.heap.size + 1, 3, none⟩ = some (.slice (pp 3) (ll 3) (cc 3)) ∧ w8.cell? ⟨w.heap.size + 1, 4, none⟩ = some (.slice (pp 4) (ll 4) (cc 4)) ∧ w8.cell? ⟨w.heap.size + 1, 5, none⟩ = some (.slice (pp 5) (ll 5) (cc 5)) ∧ Below w2.heap.size w2 w8)
    (refine K2.out _ (by first | assumption | exact (Below.refl _ w2).drew | exact hb23 | exact hb24 | exact hb25))
    (first
      | (go_at_call 14; refine (apart_spec (fun i => some ⟨Na i, 0, none⟩) l l s g o e x f (fun i => some ⟨Ma i, 0, none⟩) ll ll ss gg oo ee xx ff a b a2 b2 _ C3.out C4.out (Nat.le_refl _) (Nat.le_refl _) (Nat.le_refl _) (Nat.le_refl _)).mono ?_; rintro e' w5 ⟨rfl, hb5⟩; have hb25 : Below w2.heap.size w2 w5 := hb24.trans (hb5.mono hb24.size); clear hb5)
      | (go_at_call 7; refine (toNet pp ll cc ss gg oo ee xx ff _ (MW.out.below hb23) HL2.out).mono ?_; rintro e' w4 ⟨Ma, rfl, hb4, hc4⟩; have hb24 : Below w2.heap.size w2 w4 := hb23.trans (hb4.mono hb23.size); have C3 := hid (C3.out.below hb4); have C4 := hid (hc4.net HM2.out HS2.out HO2.out HE2.out); clear hb4 hc4; unfold netV)
      | (go_at_call 7; refine (toNet p l c s g o e x f _ (NW.out.below (Below.refl _ w2).drew) HL1.out).mono ?_; rintro e' w3 ⟨Na, rfl, hb3, hc3⟩; have hb23 : Below w2.heap.size w2 w3 := ((Below.refl _ w2).drew).trans hb3; have C3 := hid (hc3.net HM1.out HS1.out HO1.out HE1.out); clear hb3 hc3; unfold netV))
  rw [EC.out, EP.out]
  have H5 := hid (H2.out.trans (hb25.mono H2.out.size))
  clear hb23 hb24 hb25 C3 C4 K1 K2
  clear q0 q1 q2 q3 q4 q5 r0 r1 r2 r3 r4 r5 hz NW MW
  obtain ⟨⟨q0, q1, q2, q3, q4, q5⟩, ⟨r0, r1, r2, r3, r4, r5⟩, hn, hm, hB, hz⟩ := HC1.out w5 H5.out
  have NW := hid hn
  have MW := hid hm
  clear hn hm hB
  go_wp2_with fail
  refine (toNet p l c s g o e x f _ NW.out HL1.out).mono ?_
  rintro e' w6 ⟨Nb, rfl, hb6, hc6⟩
  have H6 := hid (H5.out.trans (hb6.mono H5.out.size))
  have C6 := hid (hc6.net HM1.out HS1.out HO1.out HE1.out)
  clear hb6 hc6
  clear q0 q1 q2 q3 q4 q5 r0 r1 r2 r3 r4 r5 hz NW MW
  obtain ⟨⟨q0, q1, q2, q3, q4, q5⟩, ⟨r0, r1, r2, r3, r4, r5⟩, hn, hm, hB, hz⟩ := HC1.out w6 H6.out
  have NW := hid hn
  have MW := hid hm
  clear hn hm hB
  unfold netV
  go_wp2_with fail
  have HA6 : Hid (Below w6.heap.size w6 (w6.alloc (.cells #[.slice (some ⟨Nb 0, 0, none⟩) (l 0) (l 0), .slice (some ⟨Nb 1, 0, none⟩) (l 1) (l 1), .slice (some ⟨Nb 2, 0, none⟩) (l 2) (l 2), .slice (some ⟨Nb 3, 0, none⟩) (l 3) (l 3), .slice (some ⟨Nb 4, 0, none⟩) (l 4) (l 4), .slice (some ⟨Nb 5, 0, none⟩) (l 5) (l 5)] 39))) := (by repeat (first | exact Below.refl _ _ | assumption | refine Below.drew ?_ | refine Below.alloc ?_ (by first | exact Nat.le_refl _ | omega | (simp; done) | (simp; omega)) _ | refine Below.setCell ?_ (by first | exact Nat.le_refl _ | omega | (simp; done) | (simp; omega)) _))
  refine (toNet pp ll cc ss gg oo ee xx ff _ (MW.out.below HA6.out) HL2.out).mono ?_
  rintro e' w7 ⟨Mb, rfl, hb7, hc7⟩
  have b67 := HA6.out.trans (hb7.mono (by simp))
  have H7 := hid (H6.out.trans (b67.mono H6.out.size))
  have C7 := hid (C6.out.below b67)
  have D7 := hid (hc7.net HM2.out HS2.out HO2.out HE2.out)
  have X7 : Hid (w7.cell? ⟨w6.heap.size, 0, none⟩ = some (.slice (some ⟨Nb 0, 0, none⟩) (l 0) (l 0)) ∧ w7.cell? ⟨w6.heap.size, 1, none⟩ = some (.slice (some ⟨Nb 1, 0, none⟩) (l 1) (l 1)) ∧ w7.cell? ⟨w6.heap.size, 2, none⟩ = some (.slice (some ⟨Nb 2, 0, none⟩) (l 2) (l 2)) ∧ w7.cell? ⟨w6.heap.size, 3, none⟩ = some (.slice (some ⟨Nb 3, 0, none⟩) (l 3) (l 3)) ∧ w7.cell? ⟨w6.heap.size, 4, none⟩ = some (.slice (some ⟨Nb 4, 0, none⟩) (l 4) (l 4)) ∧ w7.cell? ⟨w6.heap.size, 5, none⟩ = some (.slice (some ⟨Nb 5, 0, none⟩) (l 5) (l 5))) := ⟨keep hb7 (by simp [go_sem]), keep hb7 (by simp [go_sem]), keep hb7 (by simp [go_sem]), keep hb7 (by simp [go_sem]), keep hb7 (by simp [go_sem]), keep hb7 (by simp [go_sem])⟩
  have Z7 : Hid (w6.heap.size < w7.heap.size) := Nat.lt_of_lt_of_le (by simp) hb7.size
  clear hb7 hc7 b67 C6 HA6
  clear q0 q1 q2 q3 q4 q5 r0 r1 r2 r3 r4 r5 hz NW MW
  obtain ⟨⟨q0, q1, q2, q3, q4, q5⟩, ⟨r0, r1, r2, r3, r4, r5⟩, hn, hm, hB, hz⟩ := HC1.out w7 H7.out
  have NW := hid hn
  have MW := hid hm
  clear hn hm hB
  unfold netV
  have Z6 := Z7.out
  obtain ⟨x0, x1, x2, x3, x4, x5⟩ := X7.out
  go_wp2_with fail
  have HA7 : Hid (Below w7.heap.size w7 (w7.alloc (.cells #[.slice (some ⟨Mb 0, 0, none⟩) (ll 0) (ll 0), .slice (some ⟨Mb 1, 0, none⟩) (ll 1) (ll 1), .slice (some ⟨Mb 2, 0, none⟩) (ll 2) (ll 2), .slice (some ⟨Mb 3, 0, none⟩) (ll 3) (ll 3), .slice (some ⟨Mb 4, 0, none⟩) (ll 4) (ll 4), .slice (some ⟨Mb 5, 0, none⟩) (ll 5) (ll 5)] 39))) := (by repeat (first | exact Below.refl _ _ | assumption | refine Below.drew ?_ | refine Below.alloc ?_ (by first | exact Nat.le_refl _ | omega | (simp; done) | (simp; omega)) _ | refine Below.setCell ?_ (by first | exact Nat.le_refl _ | omega | (simp; done) | (simp; omega)) _))
  refine (apart_impl (fun i => some ⟨Nb i, 0, none⟩) l l s g o e x f (fun i => some ⟨Mb i, 0, none⟩) ll ll ss gg oo ee xx ff a b a2 b2 _ (C7.out.below HA7.out) (D7.out.below HA7.out) (Nat.le_refl _) (Nat.le_refl _) (Nat.le_refl _) (Nat.le_refl _)).mono ?_
  rintro e' w8 ⟨rfl, hb8⟩
  rw [EC.out, EP.out]
  have b78 := HA7.out.trans (hb8.mono (by simp))
  have H8 := hid (H7.out.trans (b78.mono H7.out.size))
  have C8 := hid (C7.out.below b78)
  have D8 := hid (D7.out.below b78)
  have X8 : Hid (∀ w9 : World, Below w8.heap.size w8 w9 → (w9.cell? ⟨w6.heap.size, 0, none⟩ = some (.slice (some ⟨Nb 0, 0, none⟩) (l 0) (l 0)) ∧ w9.cell? ⟨w6.heap.size, 1, none⟩ = some (.slice (some ⟨Nb 1, 0, none⟩) (l 1) (l 1)) ∧ w9.cell? ⟨w6.heap.size, 2, none⟩ = some (.slice (some ⟨Nb 2, 0, none⟩) (l 2) (l 2)) ∧ w9.cell? ⟨w6.heap.size, 3, none⟩ = some (.slice (some ⟨Nb 3, 0, none⟩) (l 3) (l 3)) ∧ w9.cell? ⟨w6.heap.size, 4, none⟩ = some (.slice (some ⟨Nb 4, 0, none⟩) (l 4) (l 4)) ∧ w9.cell? ⟨w6.heap.size, 5, none⟩ = some (.slice (some ⟨Nb 5, 0, none⟩) (l 5) (l 5)))) := fun w9 hb => by
    obtain ⟨x0, x1, x2, x3, x4, x5⟩ := X7.out
    exact ⟨keep hb (keep b78 x0), keep hb (keep b78 x1), keep hb (keep b78 x2), keep hb (keep b78 x3), keep hb (keep b78 x4), keep hb (keep b78 x5)⟩
  have Y8 : Hid (∀ w9 : World, Below w8.heap.size w8 w9 → (w9.cell? ⟨w7.heap.size, 0, none⟩ = some (.slice (some ⟨Mb 0, 0, none⟩) (ll 0) (ll 0)) ∧ w9.cell? ⟨w7.heap.size, 1, none⟩ = some (.slice (some ⟨Mb 1, 0, none⟩) (ll 1) (ll 1)) ∧ w9.cell? ⟨w7.heap.size, 2, none⟩ = some (.slice (some ⟨Mb 2, 0, none⟩) (ll 2) (ll 2)) ∧ w9.cell? ⟨w7.heap.size, 3, none⟩ = some (.slice (some ⟨Mb 3, 0, none⟩) (ll 3) (ll 3)) ∧ w9.cell? ⟨w7.heap.size, 4, none⟩ = some (.slice (some ⟨Mb 4, 0, none⟩) (ll 4) (ll 4)) ∧ w9.cell? ⟨w7.heap.size, 5, none⟩ = some (.slice (some ⟨Mb 5, 0, none⟩) (ll 5) (ll 5)))) := fun w9 hb => ⟨keep hb (keep hb8 (by simp [go_sem])), keep hb (keep hb8 (by simp [go_sem])), keep hb (keep hb8 (by simp [go_sem])), keep hb (keep hb8 (by simp [go_sem])), keep hb (keep hb8 (by simp [go_sem])), keep hb (keep hb8 (by simp [go_sem]))⟩
  have Z8 : Hid (w6.heap.size < w8.heap.size ∧ w7.heap.size < w8.heap.size) := ⟨Nat.lt_of_lt_of_le Z6 b78.size, Nat.lt_of_lt_of_le (by simp) hb8.size⟩
  clear hb8 b78 C7 D7 X7 x0 x1 x2 x3 x4 x5 HA7 Z6
  clear q0 q1 q2 q3 q4 q5 r0 r1 r2 r3 r4 r5 hz NW MW
  obtain ⟨⟨q0, q1, q2, q3, q4, q5⟩, ⟨r0, r1, r2, r3, r4, r5⟩, hn, hm, hB, hz⟩ := HC1.out w8 H8.out
  have NW := hid hn
  have MW := hid hm
  clear hn hm hB
  obtain ⟨x0, x1, x2, x3, x4, x5⟩ := X8.out w8 (Below.refl _ _)
  obtain ⟨z6, z7⟩ := Z8.out
  go_wp2_with fail
  go_region_with (first
    | (go_at_call 7; refine (toNet p l c s g o e x f _ (NW.out.below (Below.refl _ w8).drew) HL1.out).mono ?_; rintro e' w9 ⟨Nc, rfl, hb9, hc9⟩; have hb9' : Below w8.heap.size w8 w9 := ((Below.refl _ w8).drew).trans hb9; obtain ⟨x0, x1, x2, x3, x4, x5⟩ := X8.out w9 hb9'; clear hb9)
    | (go_at_call 10; refine (eqNet (fun i => some ⟨Nb i, 0, none⟩) (fun i => some ⟨Nc i, 0, none⟩) l l l s g o e x f _ (C8.out.below hb9') (hc9.net HM1.out HS1.out HO1.out HE1.out)).mono ?_; rintro e' w10 ⟨rfl, hb10⟩))
  all_goals
    have b8 : Below w8.heap.size w8 w10 := hb9'.trans (hb10.mono hb9'.size)
    have H10 := hid (H8.out.trans (b8.mono H8.out.size))
    have B8 := hid b8
    have z6' := Nat.lt_of_lt_of_le z6 b8.size
    have z7' := Nat.lt_of_lt_of_le z7 b8.size
    clear hb9' hb10 hc9 x0 x1 x2 x3 x4 x5 z6 z7
    clear q0 q1 q2 q3 q4 q5 r0 r1 r2 r3 r4 r5 hz NW MW
    obtain ⟨⟨q0, q1, q2, q3, q4, q5⟩, ⟨r0, r1, r2, r3, r4, r5⟩, hn, hm, hB, hz⟩ := HC1.out w10 H10.out
    have NW := hid hn
    have MW := hid hm
    clear hn hm hB
    obtain ⟨y0, y1, y2, y3, y4, y5⟩ := Y8.out w10 b8
    clear b8
    go_wp2_with fail
    go_region_with (first
      | (go_at_call 7; refine (toNet pp ll cc ss gg oo ee xx ff _ (MW.out.below (Below.refl _ w10).drew) HL2.out).mono ?_; rintro e' w11 ⟨Mc, rfl, hb11, hc11⟩; have hb11' : Below w10.heap.size w10 w11 := ((Below.refl _ w10).drew).trans hb11; obtain ⟨y0, y1, y2, y3, y4, y5⟩ := Y8.out w11 (B8.out.trans (hb11'.mono B8.out.size)); clear hb11)
      | (go_at_call 10; refine (eqNet (fun i => some ⟨Mb i, 0, none⟩) (fun i => some ⟨Mc i, 0, none⟩) ll ll ll ss gg oo ee xx ff _ (D8.out.below (B8.out.trans (hb11'.mono B8.out.size))) (hc11.net HM2.out HS2.out HO2.out HE2.out)).mono ?_; rintro e' w12 ⟨rfl, hb12⟩))
    all_goals
      have H12 := hid (H10.out.trans ((hb11'.trans (hb12.mono hb11'.size)).mono H10.out.size))
      clear hb11' hb12 hc11
      go_wp2
      go_ret
      exact ⟨rfl, (HC1.out _ H12.out).2.2.2.2.1⟩

theorem own : ownKnob Try.prog.godebug = none := by kernel_rfl
theorem laidOut : laidOutB Try.prog = true := by kernel_rfl

set_option maxRecDepth 100000 in
theorem lifted (os : Os) (started : os.Started) (H : Type) (enc : TypeId × Value → H) :
    ReturnsInHanded {} Try.checked os 4 .any (Rows.fnExactFilterApartSpec.pre6 enc Try.prog Try.f4 Rows.fnExactFilterApartRow.domain false) (Rows.fnExactFilterApartSpec.post enc Try.prog Try.f4 false true false false) := by
  refine returnsInHanded_of_change (C := Try.checked) own started (by kernel_rfl) Try.func4
    (ChangeSpec.witness6 (enc := enc) (C := Try.checked) false ⟨#[], #[.agg #[.slice none 0 0, .slice none 0 0, .slice none 0 0, .slice none 0 0, .slice none 0 0, .slice none 0 0], .int .i64 0, .int .i64 0, .agg #[.slice none 0 0, .slice none 0 0, .slice none 0 0, .slice none 0 0, .slice none 0 0, .slice none 0 0], .int .i64 0, .int .i64 0], []⟩ 8 (by kernel_rfl) (by kernel_rfl) (by kernel_rfl) (by kernel_rfl)) ?_
  intro W base args ds gs before hval0 hW hcnd _
  have hval : ∀ (j : Nat) t v, Try.f4.params[j]? = some t → args[j]? = some v → Value.okWide Try.prog W .any base t v := hval0
  have hW' := hW
  obtain ⟨p, q, hA0, hV, rfl, hfz, hnd⟩ := hW
  have hA : DataW.TrodAll enc Try.prog W 0 (fun _ => true) true Try.f4.params.toList args.toList ds p := hA0
  rw [Try.params4] at hA hval
  obtain ⟨v0, vs0, d0, ds0, p0, q0, hargs, rfl, rfl, h0, r0⟩ := trodAll_cons hA
  obtain ⟨v1, vs1, d1, ds1, p1, q1, rfl, rfl, rfl, h1, r1⟩ := trodAll_cons r0
  obtain ⟨v2, vs2, d2, ds2, p2, q2, rfl, rfl, rfl, h2, r2⟩ := trodAll_cons r1
  obtain ⟨v3, vs3, d3, ds3, p3, q3, rfl, rfl, rfl, h3, r3⟩ := trodAll_cons r2
  obtain ⟨v4, vs4, d4, ds4, p4, q4, rfl, rfl, rfl, h4, r4⟩ := trodAll_cons r3
  obtain ⟨v5, vs5, d5, ds5, p5, q5, rfl, rfl, rfl, h5, r5⟩ := trodAll_cons r4
  obtain ⟨rfl, rfl, rfl⟩ := trodAll_nil r5
  obtain rfl : args = #[v0, v1, v2, v3, v4, v5] := by cases args; simp_all
  obtain ⟨rfl, rfl⟩ := trodVars_none hV
  have k0 := h0
  have lt0 : ∀ x ∈ p0, x.block < W.heap.size := by obtain ⟨m, hm⟩ := k0; exact DataW.trod_lt m _ _ _ hm
  have k1 := h1
  have lt1 : ∀ x ∈ p1, x.block < W.heap.size := by obtain ⟨m, hm⟩ := k1; exact DataW.trod_lt m _ _ _ hm
  have k2 := h2
  have lt2 : ∀ x ∈ p2, x.block < W.heap.size := by obtain ⟨m, hm⟩ := k2; exact DataW.trod_lt m _ _ _ hm
  have k3 := h3
  have lt3 : ∀ x ∈ p3, x.block < W.heap.size := by obtain ⟨m, hm⟩ := k3; exact DataW.trod_lt m _ _ _ hm
  have k4 := h4
  have lt4 : ∀ x ∈ p4, x.block < W.heap.size := by obtain ⟨m, hm⟩ := k4; exact DataW.trod_lt m _ _ _ hm
  have k5 := h5
  have lt5 : ∀ x ∈ p5, x.block < W.heap.size := by obtain ⟨m, hm⟩ := k5; exact DataW.trod_lt m _ _ _ hm
  obtain ⟨p, l, c, s, g, o, e, x, f, rfl, hnet⟩ := net_of_trod (hval 0 28 v0 rfl rfl) h0
  obtain ⟨a1, rfl⟩ := okWide_int Try.underlying3 (hval 1 3 v1 rfl rfl)
  obtain ⟨b1, rfl⟩ := okWide_int Try.underlying3 (hval 2 3 v2 rfl rfl)
  obtain ⟨pp, ll, cc, ss, gg, oo, ee, xx, ff, rfl, hnet'⟩ := net_of_trod (hval 3 28 v3 rfl rfl) h3
  obtain ⟨a2, rfl⟩ := okWide_int Try.underlying3 (hval 4 3 v4 rfl rfl)
  obtain ⟨b2, rfl⟩ := okWide_int Try.underlying3 (hval 5 3 v5 rfl rfl)
  clear hA0 hval0
  refine (walk p l c s g o e x f pp ll cc ss gg oo ee xx ff a1 b1 a2 b2 W hnet hnet').mono fun e W' ⟨he, bel⟩ => ?_
  subst he
  exact ⟨_, rfl, _, _, _, [], _, [], hW', trodAll_mk1 (shut_bool Try.underlying4 _), (trodAll_cons_mk (Below.trod laidOut (by kernel_rfl) (of_decide_eq_true (by kernel_rfl)) k0 bel lt0) (trodAll_cons_mk (Below.trod laidOut (by kernel_rfl) (of_decide_eq_true (by kernel_rfl)) k1 bel lt1) (trodAll_cons_mk (Below.trod laidOut (by kernel_rfl) (of_decide_eq_true (by kernel_rfl)) k2 bel lt2) (trodAll_cons_mk (Below.trod laidOut (by kernel_rfl) (of_decide_eq_true (by kernel_rfl)) k3 bel lt3) (trodAll_cons_mk (Below.trod laidOut (by kernel_rfl) (of_decide_eq_true (by kernel_rfl)) k4 bel lt4) (trodAll_cons_mk (Below.trod laidOut (by kernel_rfl) (of_decide_eq_true (by kernel_rfl)) k5 bel lt5) trodAll_mk0)))))), rfl, bel.frame _, fun h => by cases h⟩

theorem over : Rows.fnExactFilterApartRow.holds Try.pinned (OpenSpec.ofChange Rows.fnExactFilterApartSpec) :=
  OpenClaim.holds_of_wide 4 Try.f4 rfl rfl rfl rfl rfl rfl rfl ⟨rfl, rfl, rfl, rfl, rfl⟩ rfl rfl rfl rfl rfl (by kernel_rfl) Try.func4 (by kernel_rfl)
    (of_decide_eq_true (by kernel_rfl)) (by unfold Func.isWrapper; first | (rw [if_pos (by decide +kernel)]; kernel_rfl) | (rw [if_neg (by decide +kernel)]; exact ⟨rfl, rfl⟩))
    (fun os started H enc _ => lifted os started H enc)
end Go.Proofs.Ytnaodjnmoicekaa.fnExactFilterApart
namespace Go.Proofs.Ytnaodjnmoicekaa
theorem fnExactFilterApart_holds : Rows.FnExactFilterApartSaid := fnExactFilterApart.over
end Go.Proofs.Ytnaodjnmoicekaa
