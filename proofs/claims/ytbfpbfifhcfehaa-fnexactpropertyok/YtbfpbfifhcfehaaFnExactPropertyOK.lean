/- For every network and property PropertyOK answers as its specification, and the network is as it was; conditions: none. -/
import Derived.Test.YtbfpbfifhcfehaaPropImpl
import Derived.Test.YtbfpbfifhcfehaaPropSpec
import Derived.Test.YtbfpbfifhcfehaaNetWhole
import Derived.Test.YtbfpbfifhcfehaaNetArgs
namespace Go.Proofs.Ytbfpbfifhcfehaa.fnExactPropertyOK
open Go.ChangeShapes Go.WideShapes Go.ChangeAt Go.RowKit Go.Deep Go.Joins base copy names netSem netCopy netWhole netOKImpl netOKSpec netArgs args propSem propImpl propSpec
set_option linter.unusedVariables false

theorem cells_prop : Try.prog.cellsOf 30 = 4 := by kernel_rfl
theorem array4 {α : Type} {cs : Array α} (h : cs.size = 4) : ∃ c0 c1 c2 c3, cs = #[c0, c1, c2, c3] := by
  obtain ⟨l⟩ := cs
  match l, h with
  | [c0, c1, c2, c3], _ => exact ⟨c0, c1, c2, c3, rfl⟩
set_option maxRecDepth 100000 in
theorem prop_of_trod {H : Type} {enc : TypeId × Value → H} {w : World} {base b0 : Nat} {held : Bool} {r : Reach} {v : Value} {d : DataW H} {pl : List MemPlace} (hv : Value.okWide Try.prog w r b0 30 v) (h : DataW.Trod enc Try.prog w base (fun _ => true) held 30 v d pl) :
    ∃ k fr po wy, v = .agg #[.int .i64 k, .int .i64 fr, .int .i64 po, .int .i64 wy] := by
  obtain ⟨cs, rfl, hsz⟩ := okWide_struct Try.underlying30 hv
  obtain ⟨c0, c1, c2, c3, rfl⟩ := array4 (hsz.trans cells_prop)
  obtain ⟨fuel, hf⟩ := h
  obtain ⟨xs, n, _, _, _, hlen, hfld⟩ := DataW.trod_struct Try.underlying30 hf
  match xs, hlen with
  | [y0, y1, y2, y3], _ =>
    have g0 := hfld 0 _ rfl
    have g1 := hfld 1 _ rfl
    have g2 := hfld 2 _ rfl
    have g3 := hfld 3 _ rfl
    simp [Value.cells, cells_int] at g0 g1 g2 g3
    obtain ⟨k, rfl, _⟩ := int_of_trod Try.underlying3 g0
    obtain ⟨fr, rfl, _⟩ := int_of_trod Try.underlying3 g1
    obtain ⟨po, rfl, _⟩ := int_of_trod Try.underlying3 g2
    obtain ⟨wy, rfl, _⟩ := int_of_trod Try.underlying3 g3
    exact ⟨k, fr, po, wy, rfl⟩

set_option maxHeartbeats 400000 in
theorem toProp (k fr po wy : Int) (w : World) :
    Calls Try.prog 8 #[.agg #[.int .i64 k, .int .i64 fr, .int .i64 po, .int .i64 wy]] w fun e w' => e = .returned (.agg #[.int .i64 k, .int .i64 fr, .int .i64 po, .int .i64 wy]) ∧ Below w.heap.size w w' := by
  go_enter Try.func8, Try.ntmps8
  go_wp2
  refine bodyPost_ret (v := .agg #[.int .i64 k, .int .i64 fr, .int .i64 po, .int .i64 wy]) (by simp [results, Try.results8, go_sem]) rfl ⟨rfl, (by repeat (first | exact Below.refl _ _ | assumption | refine Below.drew ?_ | refine Below.alloc ?_ (by first | exact Nat.le_refl _ | omega | (simp; done) | (simp; omega)) _ | refine Below.setCell ?_ (by first | exact Nat.le_refl _ | omega | (simp; done) | (simp; omega)) _))⟩

set_option maxHeartbeats 3200000 in
theorem walk (p : Nat → Option Addr) (l c : Nat → Nat) (s : Ss) (g : R) (o e : List Int) (x f : R) (k fr po wy : Int) (w : World) (h : NetIs w p l s g o e x f) :
    Calls Try.prog 3 #[netV p l c, .agg #[.int .i64 k, .int .i64 fr, .int .i64 po, .int .i64 wy]] w fun e' w' => e' = .returned (.bool true) ∧ Below w.heap.size w w' := by
  have HN := hid h
  have HM : Hid (∀ i, i < 6 → l i ≤ maxLen) := fun i hi => by
    match i, hi with
    | 0, _ => exact h.routers.most
    | 1, _ => exact h.links.most
    | 2, _ => exact h.origins.most
    | 3, _ => exact h.externals.most
    | 4, _ => exact h.imports.most
    | 5, _ => exact h.filters.most
    | i + 6, hi => exact absurd hi (by omega)
  have HS := hid h.routers.size
  have HO := hid h.origins.length
  have HE := hid h.externals.length
  clear h
  have C1 : ∀ w8 : World, Below (((w.alloc (.cells #[.slice (p 0) (l 0) (c 0), .slice (p 1) (l 1) (c 1), .slice (p 2) (l 2) (c 2), .slice (p 3) (l 3) (c 3), .slice (p 4) (l 4) (c 4), .slice (p 5) (l 5) (c 5)] 28)).alloc (.cells #[.int .i64 k, .int .i64 fr, .int .i64 po, .int .i64 wy] 30))).heap.size ((w.alloc (.cells #[.slice (p 0) (l 0) (c 0), .slice (p 1) (l 1) (c 1), .slice (p 2) (l 2) (c 2), .slice (p 3) (l 3) (c 3), .slice (p 4) (l 4) (c 4), .slice (p 5) (l 5) (c 5)] 28)).alloc (.cells #[.int .i64 k, .int .i64 fr, .int .i64 po, .int .i64 wy] 30)) w8 → (w8.cell? ⟨w.heap.size, 0, none⟩ = some (.slice (p 0) (l 0) (c 0)) ∧ w8.cell? ⟨w.heap.size, 1, none⟩ = some (.slice (p 1) (l 1) (c 1)) ∧ w8.cell? ⟨w.heap.size, 2, none⟩ = some (.slice (p 2) (l 2) (c 2)) ∧ w8.cell? ⟨w.heap.size, 3, none⟩ = some (.slice (p 3) (l 3) (c 3)) ∧ w8.cell? ⟨w.heap.size, 4, none⟩ = some (.slice (p 4) (l 4) (c 4)) ∧ w8.cell? ⟨w.heap.size, 5, none⟩ = some (.slice (p 5) (l 5) (c 5))) ∧ (w8.cell? ⟨w.heap.size + 1, 0, none⟩ = some (.int .i64 k) ∧ w8.cell? ⟨w.heap.size + 1, 1, none⟩ = some (.int .i64 fr) ∧ w8.cell? ⟨w.heap.size + 1, 2, none⟩ = some (.int .i64 po) ∧ w8.cell? ⟨w.heap.size + 1, 3, none⟩ = some (.int .i64 wy)) ∧ NetIs w8 p l s g o e x f ∧ Below w.heap.size w w8 ∧ w.heap.size + 1 < w8.heap.size :=
    fun w8 hb => ⟨⟨keep hb (by simp [go_sem]), keep hb (by simp [go_sem]), keep hb (by simp [go_sem]), keep hb (by simp [go_sem]), keep hb (by simp [go_sem]), keep hb (by simp [go_sem])⟩, ⟨keep hb (by simp [go_sem]), keep hb (by simp [go_sem]), keep hb (by simp [go_sem]), keep hb (by simp [go_sem])⟩, (HN.out.below (by repeat (first | exact Below.refl _ _ | assumption | refine Below.drew ?_ | refine Below.alloc ?_ (by first | exact Nat.le_refl _ | omega | (simp; done) | (simp; omega)) _ | refine Below.setCell ?_ (by first | exact Nat.le_refl _ | omega | (simp; done) | (simp; omega)) _))).below hb, (show Below w.heap.size w _ from (by repeat (first | exact Below.refl _ _ | assumption | refine Below.drew ?_ | refine Below.alloc ?_ (by first | exact Nat.le_refl _ | omega | (simp; done) | (simp; omega)) _ | refine Below.setCell ?_ (by first | exact Nat.le_refl _ | omega | (simp; done) | (simp; omega)) _))).trans (hb.mono (by simp; omega)), Nat.lt_of_lt_of_le (by simp) hb.size⟩
  have HC1 := hid C1
  clear C1
  unfold netV
  go_enter Try.func3, Try.ntmps3
  go_wp2_with fail
  refine (szNet p l c s g o e x f 1048576 _ (HN.out.below (by repeat (first | exact Below.refl _ _ | assumption | refine Below.drew ?_ | refine Below.alloc ?_ (by first | exact Nat.le_refl _ | omega | (simp; done) | (simp; omega)) _ | refine Below.setCell ?_ (by first | exact Nat.le_refl _ | omega | (simp; done) | (simp; omega)) _))) (by omega) (by omega)).mono ?_
  rintro e' w1 ⟨r, rfl, hb1, hr1, hr2, hr3⟩
  have H3 := hid hr3
  have H1 := hid hb1
  obtain ⟨⟨q0, q1, q2, q3, q4, q5⟩, ⟨y0, y1, y2, y3⟩, hn, hB, hz⟩ := HC1.out w1 hb1
  have N1 := hid hn
  have B1 := hid hB
  clear hb1 hr3 hn hB
  by_cases hneg : r < 0
  · go_wp2
    go_ret
    exact ⟨rfl, B1.out⟩
  have HL := hid (H3.out (by omega))
  have K1 : Hid (∀ w8 : World, Below w1.heap.size w1 w8 → w8.cell? ⟨w.heap.size, 0, none⟩ = some (.slice (p 0) (l 0) (c 0)) ∧ w8.cell? ⟨w.heap.size, 1, none⟩ = some (.slice (p 1) (l 1) (c 1)) ∧ w8.cell? ⟨w.heap.size, 2, none⟩ = some (.slice (p 2) (l 2) (c 2)) ∧ w8.cell? ⟨w.heap.size, 3, none⟩ = some (.slice (p 3) (l 3) (c 3)) ∧ w8.cell? ⟨w.heap.size, 4, none⟩ = some (.slice (p 4) (l 4) (c 4)) ∧ w8.cell? ⟨w.heap.size, 5, none⟩ = some (.slice (p 5) (l 5) (c 5)) ∧ w8.cell? ⟨w.heap.size + 1, 0, none⟩ = some (.int .i64 k) ∧ w8.cell? ⟨w.heap.size + 1, 1, none⟩ = some (.int .i64 fr) ∧ w8.cell? ⟨w.heap.size + 1, 2, none⟩ = some (.int .i64 po) ∧ w8.cell? ⟨w.heap.size + 1, 3, none⟩ = some (.int .i64 wy) ∧ Below w1.heap.size w1 w8) := fun w8 h => by
    obtain ⟨⟨q0, q1, q2, q3, q4, q5⟩, ⟨y0, y1, y2, y3⟩, hn, hB, hz⟩ := HC1.out w8 (H1.out.trans (h.mono H1.out.size))
    exact ⟨q0, q1, q2, q3, q4, q5, y0, y1, y2, y3, h⟩
  go_wp2_with fail
  go_region_held3 (fun w8 => w8.cell? ⟨w.heap.size, 0, none⟩ = some (.slice (p 0) (l 0) (c 0)) ∧ w8.cell? ⟨w.heap.size, 1, none⟩ = some (.slice (p 1) (l 1) (c 1)) ∧ w8.cell? ⟨w.heap.size, 2, none⟩ = some (.slice (p 2) (l 2) (c 2)) ∧ w8.cell? ⟨w.heap.size, 3, none⟩ = some (.slice (p 3) (l 3) (c 3)) ∧ w8.cell? ⟨w.heap.size, 4, none⟩ = some (.slice (p 4) (l 4) (c 4)) ∧ w8.cell? ⟨w.heap.size, 5, none⟩ = some (.slice (p 5) (l 5) (c 5)) ∧ w8.cell? ⟨w.heap.size + 1, 0, none⟩ = some (.int .i64 k) ∧ w8.cell? ⟨w.heap.size + 1, 1, none⟩ = some (.int .i64 fr) ∧ w8.cell? ⟨w.heap.size + 1, 2, none⟩ = some (.int .i64 po) ∧ w8.cell? ⟨w.heap.size + 1, 3, none⟩ = some (.int .i64 wy) ∧ Below w1.heap.size w1 w8)
    (refine K1.out _ (by first | assumption | exact (Below.refl _ w1).drew | exact hb12 | exact hb1p | exact hb13))
    (first
      | (go_at_call 7; refine (toNet p l c s g o e x f _ (N1.out.below (Below.refl _ w1).drew) HL.out).mono ?_; rintro e' w2 ⟨N2, rfl, hb2, hc2⟩; have hb12 : Below w1.heap.size w1 w2 := ((Below.refl _ w1).drew).trans hb2; have C2 := hid (hc2.net HM.out HS.out HO.out HE.out); clear hb2 hc2; unfold netV)
      | (go_at_call 8; refine (toProp k fr po wy _).mono ?_; rintro e' w2p ⟨rfl, hb2p⟩; have hb1p : Below w1.heap.size w1 w2p := hb12.trans (hb2p.mono hb12.size); have C2 := hid (C2.out.below hb2p); clear hb2p)
      | (go_at_call 6; refine (prop_spec (fun i => some ⟨N2 i, 0, none⟩) l l s g o e x f k fr po wy _ C2.out (Nat.le_refl _) (Nat.le_refl _)).mono ?_; rintro e' w3 ⟨rfl, hb3⟩; have hb13 : Below w1.heap.size w1 w3 := hb1p.trans (hb3.mono hb1p.size); clear hb3))
  have H3' := hid (H1.out.trans (hb13.mono H1.out.size))
  clear hb12 hb1p hb13 C2 q0 q1 q2 q3 q4 q5 y0 y1 y2 y3 hz
  obtain ⟨⟨q0, q1, q2, q3, q4, q5⟩, ⟨y0, y1, y2, y3⟩, hn, hB, hz⟩ := HC1.out w3 H3'.out
  have N3 := hid hn
  clear hn hB
  go_wp2_with fail
  refine (toNet p l c s g o e x f _ N3.out HL.out).mono ?_
  rintro e' w4 ⟨N4, rfl, hb4, hc4⟩
  have H4 := hid (H3'.out.trans (hb4.mono H3'.out.size))
  have C4 := hid (hc4.net HM.out HS.out HO.out HE.out)
  obtain ⟨⟨q0, q1, q2, q3, q4, q5⟩, ⟨y0, y1, y2, y3⟩, hn, hB, hz⟩ := HC1.out w4 H4.out
  have N4' := hid hn
  clear hb4 hc4 hn hB
  unfold netV
  go_wp2_with fail
  have HA4 : Hid (Below w4.heap.size w4 (w4.alloc (.cells #[.slice (some ⟨N4 0, 0, none⟩) (l 0) (l 0), .slice (some ⟨N4 1, 0, none⟩) (l 1) (l 1), .slice (some ⟨N4 2, 0, none⟩) (l 2) (l 2), .slice (some ⟨N4 3, 0, none⟩) (l 3) (l 3), .slice (some ⟨N4 4, 0, none⟩) (l 4) (l 4), .slice (some ⟨N4 5, 0, none⟩) (l 5) (l 5)] 37))) := (by repeat (first | exact Below.refl _ _ | assumption | refine Below.drew ?_ | refine Below.alloc ?_ (by first | exact Nat.le_refl _ | omega | (simp; done) | (simp; omega)) _ | refine Below.setCell ?_ (by first | exact Nat.le_refl _ | omega | (simp; done) | (simp; omega)) _))
  have K4 : Hid (∀ w8 : World, Below (w4.alloc (.cells #[.slice (some ⟨N4 0, 0, none⟩) (l 0) (l 0), .slice (some ⟨N4 1, 0, none⟩) (l 1) (l 1), .slice (some ⟨N4 2, 0, none⟩) (l 2) (l 2), .slice (some ⟨N4 3, 0, none⟩) (l 3) (l 3), .slice (some ⟨N4 4, 0, none⟩) (l 4) (l 4), .slice (some ⟨N4 5, 0, none⟩) (l 5) (l 5)] 37)).heap.size (w4.alloc (.cells #[.slice (some ⟨N4 0, 0, none⟩) (l 0) (l 0), .slice (some ⟨N4 1, 0, none⟩) (l 1) (l 1), .slice (some ⟨N4 2, 0, none⟩) (l 2) (l 2), .slice (some ⟨N4 3, 0, none⟩) (l 3) (l 3), .slice (some ⟨N4 4, 0, none⟩) (l 4) (l 4), .slice (some ⟨N4 5, 0, none⟩) (l 5) (l 5)] 37)) w8 → (w8.cell? ⟨w.heap.size + 1, 0, none⟩ = some (.int .i64 k) ∧ w8.cell? ⟨w.heap.size + 1, 1, none⟩ = some (.int .i64 fr) ∧ w8.cell? ⟨w.heap.size + 1, 2, none⟩ = some (.int .i64 po) ∧ w8.cell? ⟨w.heap.size + 1, 3, none⟩ = some (.int .i64 wy) ∧ w8.cell? ⟨w4.heap.size, 0, none⟩ = some (.slice (some ⟨N4 0, 0, none⟩) (l 0) (l 0)) ∧ w8.cell? ⟨w4.heap.size, 1, none⟩ = some (.slice (some ⟨N4 1, 0, none⟩) (l 1) (l 1)) ∧ w8.cell? ⟨w4.heap.size, 2, none⟩ = some (.slice (some ⟨N4 2, 0, none⟩) (l 2) (l 2)) ∧ w8.cell? ⟨w4.heap.size, 3, none⟩ = some (.slice (some ⟨N4 3, 0, none⟩) (l 3) (l 3)) ∧ w8.cell? ⟨w4.heap.size, 4, none⟩ = some (.slice (some ⟨N4 4, 0, none⟩) (l 4) (l 4)) ∧ w8.cell? ⟨w4.heap.size, 5, none⟩ = some (.slice (some ⟨N4 5, 0, none⟩) (l 5) (l 5)) ∧ Below w4.heap.size w4 w8)) := fun w8 h => by
    have h4 := HA4.out.trans (h.mono (by simp))
    obtain ⟨⟨q0, q1, q2, q3, q4, q5⟩, ⟨y0, y1, y2, y3⟩, hn, hB, hz⟩ := HC1.out w8 (H4.out.trans (h4.mono H4.out.size))
    exact ⟨y0, y1, y2, y3, keep h (by simp [go_sem]), keep h (by simp [go_sem]), keep h (by simp [go_sem]), keep h (by simp [go_sem]), keep h (by simp [go_sem]), keep h (by simp [go_sem]), h4⟩
  obtain ⟨W4, hW4⟩ : ∃ W4, w4.alloc (.cells #[.slice (some ⟨N4 0, 0, none⟩) (l 0) (l 0), .slice (some ⟨N4 1, 0, none⟩) (l 1) (l 1), .slice (some ⟨N4 2, 0, none⟩) (l 2) (l 2), .slice (some ⟨N4 3, 0, none⟩) (l 3) (l 3), .slice (some ⟨N4 4, 0, none⟩) (l 4) (l 4), .slice (some ⟨N4 5, 0, none⟩) (l 5) (l 5)] 37) = W4 := ⟨_, rfl⟩
  have z44 : w4.heap.size < W4.heap.size := by rw [← hW4]; simp
  rw [hW4] at K4 ⊢
  have HW4 := hid hW4
  clear hW4
  go_region_held3 (fun w8 => w8.cell? ⟨w.heap.size + 1, 0, none⟩ = some (.int .i64 k) ∧ w8.cell? ⟨w.heap.size + 1, 1, none⟩ = some (.int .i64 fr) ∧ w8.cell? ⟨w.heap.size + 1, 2, none⟩ = some (.int .i64 po) ∧ w8.cell? ⟨w.heap.size + 1, 3, none⟩ = some (.int .i64 wy) ∧ w8.cell? ⟨w4.heap.size, 0, none⟩ = some (.slice (some ⟨N4 0, 0, none⟩) (l 0) (l 0)) ∧ w8.cell? ⟨w4.heap.size, 1, none⟩ = some (.slice (some ⟨N4 1, 0, none⟩) (l 1) (l 1)) ∧ w8.cell? ⟨w4.heap.size, 2, none⟩ = some (.slice (some ⟨N4 2, 0, none⟩) (l 2) (l 2)) ∧ w8.cell? ⟨w4.heap.size, 3, none⟩ = some (.slice (some ⟨N4 3, 0, none⟩) (l 3) (l 3)) ∧ w8.cell? ⟨w4.heap.size, 4, none⟩ = some (.slice (some ⟨N4 4, 0, none⟩) (l 4) (l 4)) ∧ w8.cell? ⟨w4.heap.size, 5, none⟩ = some (.slice (some ⟨N4 5, 0, none⟩) (l 5) (l 5)) ∧ Below w4.heap.size w4 w8)
    (refine K4.out _ (by first | assumption | exact (Below.refl _ W4).drew | exact hb4p | exact hb45))
    (first
      | (go_at_call 8; refine (toProp k fr po wy _).mono ?_; rintro e' w4p ⟨rfl, hb4q⟩; have hb4p : Below W4.heap.size W4 w4p := ((Below.refl _ W4).drew).trans hb4q; have hb4r := (K4.out w4p hb4p).2.2.2.2.2.2.2.2.2.2; clear hb4q)
      | (go_at_call 9; refine (prop_impl (fun i => some ⟨N4 i, 0, none⟩) l l s g o e x f k fr po wy _ (C4.out.below hb4r) (Nat.le_refl _) (Nat.le_refl _)).mono ?_; rintro e' w5 ⟨rfl, hb5⟩; have hb45 : Below W4.heap.size W4 w5 := hb4p.trans (hb5.mono hb4p.size); clear hb5))
  have B45 := hid hb45
  have b45 := (K4.out w5 hb45).2.2.2.2.2.2.2.2.2.2
  have H5 := hid (H4.out.trans (b45.mono H4.out.size))
  have C5 := hid (C4.out.below b45)
  have X5 : Hid (∀ w8 : World, Below w5.heap.size w5 w8 → (w8.cell? ⟨w4.heap.size, 0, none⟩ = some (.slice (some ⟨N4 0, 0, none⟩) (l 0) (l 0)) ∧ w8.cell? ⟨w4.heap.size, 1, none⟩ = some (.slice (some ⟨N4 1, 0, none⟩) (l 1) (l 1)) ∧ w8.cell? ⟨w4.heap.size, 2, none⟩ = some (.slice (some ⟨N4 2, 0, none⟩) (l 2) (l 2)) ∧ w8.cell? ⟨w4.heap.size, 3, none⟩ = some (.slice (some ⟨N4 3, 0, none⟩) (l 3) (l 3)) ∧ w8.cell? ⟨w4.heap.size, 4, none⟩ = some (.slice (some ⟨N4 4, 0, none⟩) (l 4) (l 4)) ∧ w8.cell? ⟨w4.heap.size, 5, none⟩ = some (.slice (some ⟨N4 5, 0, none⟩) (l 5) (l 5)))) := fun w8 hb => by
    obtain ⟨-, -, -, -, x0, x1, x2, x3, x4, x5, -⟩ := K4.out w5 B45.out
    exact ⟨keep hb x0, keep hb x1, keep hb x2, keep hb x3, keep hb x4, keep hb x5⟩
  have Z5 := hid (Nat.lt_of_lt_of_le z44 hb45.size)
  clear hb4p hb4r hb45 b45 q0 q1 q2 q3 q4 q5 y0 y1 y2 y3 hz
  obtain ⟨⟨q0, q1, q2, q3, q4, q5⟩, ⟨y0, y1, y2, y3⟩, hn, hB, hz⟩ := HC1.out w5 H5.out
  have N5 := hid hn
  have B5 := hid hB
  clear hn hB
  obtain ⟨x0, x1, x2, x3, x4, x5⟩ := X5.out w5 (Below.refl _ _)
  have z4 := Z5.out
  have hq : (propB (netB l s g o e x f) (l 0) k fr po wy != propB (netB l s g o e x f) (l 0) k fr po wy) = false := by simp
  generalize propB (netB l s g o e x f) (l 0) k fr po wy = ok at *
  go_wp2_with fail
  go_region_with (first
    | (go_at_call 7; refine (toNet p l c s g o e x f _ (N5.out.below (Below.refl _ w5).drew) HL.out).mono ?_; rintro e' w6 ⟨N6, rfl, hb6, hc6⟩; have hb6' : Below w5.heap.size w5 w6 := ((Below.refl _ w5).drew).trans hb6; obtain ⟨x0, x1, x2, x3, x4, x5⟩ := X5.out w6 hb6'; clear hb6)
    | (go_at_call 10; refine (eqNet (fun i => some ⟨N4 i, 0, none⟩) (fun i => some ⟨N6 i, 0, none⟩) l l l s g o e x f _ (C5.out.below hb6') (hc6.net HM.out HS.out HO.out HE.out)).mono ?_; rintro e' w7 ⟨rfl, hb7⟩))
  all_goals
    go_wp2
    go_ret
    exact ⟨rfl, (B5.out.trans (hb6'.mono B5.out.size)).trans (hb7.mono (by have := hb6'.size; have := B5.out.size; omega))⟩

theorem own : ownKnob Try.prog.godebug = none := by kernel_rfl
theorem laidOut : laidOutB Try.prog = true := by kernel_rfl

set_option maxRecDepth 100000 in
theorem lifted (os : Os) (started : os.Started) (H : Type) (enc : TypeId × Value → H) :
    ReturnsInHanded {} Try.checked os 3 .any (Rows.fnExactPropertyOKSpec.pre6 enc Try.prog Try.f3 Rows.fnExactPropertyOKRow.domain false) (Rows.fnExactPropertyOKSpec.post enc Try.prog Try.f3 false true false false) := by
  refine returnsInHanded_of_change (C := Try.checked) own started (by kernel_rfl) Try.func3
    (ChangeSpec.witness6 (enc := enc) (C := Try.checked) false ⟨#[], #[.agg #[.slice none 0 0, .slice none 0 0, .slice none 0 0, .slice none 0 0, .slice none 0 0, .slice none 0 0], .agg #[.int .i64 0, .int .i64 0, .int .i64 0, .int .i64 0]], []⟩ 8 (by kernel_rfl) (by kernel_rfl) (by kernel_rfl) (by kernel_rfl)) ?_
  intro W base args ds gs before hval0 hW hcnd _
  have hval : ∀ (j : Nat) t v, Try.f3.params[j]? = some t → args[j]? = some v → Value.okWide Try.prog W .any base t v := hval0
  have hW' := hW
  obtain ⟨p, q, hA0, hV, rfl, hfz, hnd⟩ := hW
  have hA : DataW.TrodAll enc Try.prog W 0 (fun _ => true) true Try.f3.params.toList args.toList ds p := hA0
  rw [Try.params3] at hA hval
  obtain ⟨v0, vs0, d0, ds0, p0, q0, hargs, rfl, rfl, h0, r0⟩ := trodAll_cons hA
  obtain ⟨v1, vs1, d1, ds1, p1, q1, rfl, rfl, rfl, h1, r1⟩ := trodAll_cons r0
  obtain ⟨rfl, rfl, rfl⟩ := trodAll_nil r1
  obtain rfl : args = #[v0, v1] := by cases args; simp_all
  obtain ⟨rfl, rfl⟩ := trodVars_none hV
  have k0 := h0
  have k1 := h1
  have lt1 : ∀ x ∈ p1, x.block < W.heap.size := by obtain ⟨m, hm⟩ := k1; exact DataW.trod_lt m _ _ _ hm
  have lt0 : ∀ x ∈ p0, x.block < W.heap.size := by obtain ⟨m, hm⟩ := k0; exact DataW.trod_lt m _ _ _ hm
  obtain ⟨p, l, c, s, g, o, e, x, f, rfl, hnet⟩ := net_of_trod (hval 0 28 v0 rfl rfl) h0
  obtain ⟨k, fr, po, wy, rfl⟩ := prop_of_trod (hval 1 30 v1 rfl rfl) h1
  clear hA0 hval0
  refine (walk p l c s g o e x f k fr po wy W hnet).mono fun e W' ⟨he, bel⟩ => ?_
  subst he
  exact ⟨_, rfl, _, _, _, [], _, [], hW', trodAll_mk1 (shut_bool Try.underlying4 _), (trodAll_cons_mk (Below.trod laidOut (by kernel_rfl) (of_decide_eq_true (by kernel_rfl)) k0 bel lt0) (trodAll_cons_mk (Below.trod laidOut (by kernel_rfl) (of_decide_eq_true (by kernel_rfl)) k1 bel lt1) trodAll_mk0)), rfl, bel.frame _, fun h => by cases h⟩

theorem over : Rows.fnExactPropertyOKRow.holds Try.pinned (OpenSpec.ofChange Rows.fnExactPropertyOKSpec) :=
  OpenClaim.holds_of_wide 3 Try.f3 rfl rfl rfl rfl rfl rfl rfl ⟨rfl, rfl, rfl, rfl, rfl⟩ rfl rfl rfl rfl rfl (by kernel_rfl) Try.func3 (by kernel_rfl)
    (of_decide_eq_true (by kernel_rfl)) (by unfold Func.isWrapper; first | (rw [if_pos (by decide +kernel)]; kernel_rfl) | (rw [if_neg (by decide +kernel)]; exact ⟨rfl, rfl⟩))
    (fun os started H enc _ => lifted os started H enc)
end Go.Proofs.Ytbfpbfifhcfehaa.fnExactPropertyOK
namespace Go.Proofs.Ytbfpbfifhcfehaa
theorem fnExactPropertyOK_holds : Rows.FnExactPropertyOKSaid := fnExactPropertyOK.over
end Go.Proofs.Ytbfpbfifhcfehaa
