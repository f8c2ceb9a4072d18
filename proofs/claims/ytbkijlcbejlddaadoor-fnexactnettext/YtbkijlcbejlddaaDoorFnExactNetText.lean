/- For every network NetText answers as its specification (the text and the code); the network is as it was; the library's tables are as their initialisers lay them, tied to the program's text; conditions: none. -/
import Derived.Test.YtbkijlcbejlddaaDoorNetTextImpl
import Derived.Test.YtbkijlcbejlddaaDoorNetTextSpec
import Derived.Test.YtbkijlcbejlddaaDoorNetOKSpec
import Derived.Test.YtbkijlcbejlddaaDoorNetWhole
import Derived.Test.YtbkijlcbejlddaaDoorNetArgs
import Derived.Test.YtbkijlcbejlddaaDoorCards
import Derived.Test.YtbkijlcbejlddaaDoorTie
import Derived.OpenVars
import Derived.SevenTiedAt
import Derived.Deep.DeepHandedRow
import Derived.Lib.LaidTab
import Derived.LaidSub
namespace Go.Proofs.YtbkijlcbejlddaaDoor.fnExactNetText
open Go.ChangeShapes Go.WideShapes Go.ChangeAt Go.RowKit Go.Deep Go.Joins base copy names netSem netCopy netWhole netOKImpl netOKSpec netArgs args netLines netBytes netTextImpl netTextSpec
set_option linter.unusedVariables false

def netT (l : Nat → Nat) (s : Ss) (g : R) (o e : List Int) (x f : R) : List UInt8 := if netB l s g o e x f then netL l s g o e x f else []
def netC (l : Nat → Nat) (s : Ss) (g : R) (o e : List Int) (x f : R) : Int := if netB l s g o e x f then 0 else 1
theorem text_impl (p : Nat → Option Addr) (l c : Nat → Nat) (s : Ss) (g : R) (o e : List Int) (x f : R) (w : World) (h : NetIs w p l s g o e x f) (hc0 : l 0 ≤ c 0) (hc1 : l 1 ≤ c 1) (ht : TabW w) :
    Calls Tryd.prog 7 #[netV p l c] w fun e' w' => e' = .returned (.tuple #[.string ⟨(netT l s g o e x f).toArray⟩, .int .i64 (netC l s g o e x f)]) ∧ Below w.heap.size w w' := by
  unfold netT netC
  cases hB : netB l s g o e x f
  · exact text_impl_bad p l c s g o e x f w h hc0 hc1 hB
  · exact text_impl_good p l c s g o e x f w h hc0 hc1 hB ht
set_option maxHeartbeats 800000 in
theorem text_spec (p : Nat → Option Addr) (l c : Nat → Nat) (s : Ss) (g : R) (o e : List Int) (x f : R) (w : World) (h : NetIs w p l s g o e x f) (hc0 : l 0 ≤ c 0) (hc1 : l 1 ≤ c 1) :
    Calls Tryd.prog 5 #[netV p l c] w fun e' w' => e' = .returned (.tuple #[.string ⟨(netT l s g o e x f).toArray⟩, .int .i64 (netC l s g o e x f)]) ∧ Below w.heap.size w w' := by
  have HN := hid h
  have K0 := hid hc0
  have K1 := hid hc1
  clear h hc0 hc1
  unfold netT netC
  cases hB : netB l s g o e x f
  · simp only [Bool.false_eq_true, if_false]
    unfold netV
    go_enter Tryd.func5, Tryd.ntmps5
    go_wp2_with fail
    refine (netOK_spec p l c s g o e x f _ (HN.out.below (by repeat (first | exact Below.refl _ _ | assumption | refine Below.drew ?_ | refine Below.alloc ?_ (by first | exact Nat.le_refl _ | omega | (simp; done) | (simp; omega)) _ | refine Below.setCell ?_ (by first | exact Nat.le_refl _ | omega | (simp; done) | (simp; omega)) _))) K0.out K1.out).mono ?_
    rintro e' w1 ⟨rfl, hb1⟩
    have B1 := hid ((show Below w.heap.size w _ from (by repeat (first | exact Below.refl _ _ | assumption | refine Below.drew ?_ | refine Below.alloc ?_ (by first | exact Nat.le_refl _ | omega | (simp; done) | (simp; omega)) _ | refine Below.setCell ?_ (by first | exact Nat.le_refl _ | omega | (simp; done) | (simp; omega)) _))).trans (hb1.mono (by simp)))
    clear hb1
    rw [hB]
    go_wp2
    go_ret2
    exact ⟨rfl, B1.out⟩
  · simp only [if_true]
    have HL := hid (fun w8 h8 => lines_spec p l c s g o e x f w8 h8 hB)
    generalize netL l s g o e x f = tb at *
    unfold netV at HL
    unfold netV
    go_enter Tryd.func5, Tryd.ntmps5
    go_wp2_with fail
    refine (netOK_spec p l c s g o e x f _ (HN.out.below (by repeat (first | exact Below.refl _ _ | assumption | refine Below.drew ?_ | refine Below.alloc ?_ (by first | exact Nat.le_refl _ | omega | (simp; done) | (simp; omega)) _ | refine Below.setCell ?_ (by first | exact Nat.le_refl _ | omega | (simp; done) | (simp; omega)) _))) K0.out K1.out).mono ?_
    rintro e' w1 ⟨rfl, hb1⟩
    have B1 := hid ((show Below w.heap.size w _ from (by repeat (first | exact Below.refl _ _ | assumption | refine Below.drew ?_ | refine Below.alloc ?_ (by first | exact Nat.le_refl _ | omega | (simp; done) | (simp; omega)) _ | refine Below.setCell ?_ (by first | exact Nat.le_refl _ | omega | (simp; done) | (simp; omega)) _))).trans (hb1.mono (by simp)))
    have c0 : w1.cell? ⟨w.heap.size, 0, none⟩ = some (.slice (p 0) (l 0) (c 0)) := keep hb1 (by simp [go_sem])
    have c1 : w1.cell? ⟨w.heap.size, 1, none⟩ = some (.slice (p 1) (l 1) (c 1)) := keep hb1 (by simp [go_sem])
    have c2 : w1.cell? ⟨w.heap.size, 2, none⟩ = some (.slice (p 2) (l 2) (c 2)) := keep hb1 (by simp [go_sem])
    have c3 : w1.cell? ⟨w.heap.size, 3, none⟩ = some (.slice (p 3) (l 3) (c 3)) := keep hb1 (by simp [go_sem])
    have c4 : w1.cell? ⟨w.heap.size, 4, none⟩ = some (.slice (p 4) (l 4) (c 4)) := keep hb1 (by simp [go_sem])
    have c5 : w1.cell? ⟨w.heap.size, 5, none⟩ = some (.slice (p 5) (l 5) (c 5)) := keep hb1 (by simp [go_sem])
    clear hb1
    rw [hB]
    go_wp2_with fail
    refine (HL.out _ (HN.out.below B1.out)).mono ?_
    rintro e' w2 ⟨rfl, hb2⟩
    have B2 := hid (B1.out.trans (hb2.mono B1.out.size))
    clear hb2
    go_wp2
    go_ret2
    exact ⟨rfl, B2.out⟩

set_option maxHeartbeats 3200000 in
theorem walk (p : Nat → Option Addr) (l c : Nat → Nat) (s : Ss) (g : R) (o e : List Int) (x f : R) (w : World) (h : NetIs w p l s g o e x f) (ht : TabW w) :
    Calls Tryd.prog 3 #[netV p l c] w fun e' w' => e' = .returned (.bool true) ∧ Below w.heap.size w w' := by
  have HN := hid h
  have HT := hid ht
  have HTI := hid (fun p c w h hc0 hc1 ht => text_impl p l c s g o e x f w h hc0 hc1 ht)
  have HTS := hid (fun p c w h hc0 hc1 => text_spec p l c s g o e x f w h hc0 hc1)
  obtain ⟨tt, htt⟩ : ∃ t : ByteArray, ⟨(netT l s g o e x f).toArray⟩ = t := ⟨_, rfl⟩
  rw [htt] at HTI HTS
  obtain ⟨tc, htc⟩ : ∃ t : Int, netC l s g o e x f = t := ⟨_, rfl⟩
  rw [htc] at HTI HTS
  have hqC : (tc != tc) = false := by simp
  have hqS : (tt.toList != tt.toList) = false := by simp
  have hqT : (tt.toList == tt.toList) = true := by simp
  clear htt htc ht
  have HM : Hid (∀ i, i < 6 → l i ≤ maxLen) := fun i hi => by
    match i, hi with
    | 0, _ => exact h.routers.most
    | 1, _ => exact h.links.most
    | 2, _ => exact h.origins.most
    | 3, _ => exact h.externals.most
    | 4, _ => exact h.imports.most
    | 5, _ => exact h.filters.most
    | i + 6, hi => exact absurd hi (by omega)
  have HS := hid h.routers.size
  have HO := hid h.origins.length
  have HE := hid h.externals.length
  clear h
  have C1 : ∀ w8 : World, Below ((w.alloc (.cells #[.slice (p 0) (l 0) (c 0), .slice (p 1) (l 1) (c 1), .slice (p 2) (l 2) (c 2), .slice (p 3) (l 3) (c 3), .slice (p 4) (l 4) (c 4), .slice (p 5) (l 5) (c 5)] 28))).heap.size (w.alloc (.cells #[.slice (p 0) (l 0) (c 0), .slice (p 1) (l 1) (c 1), .slice (p 2) (l 2) (c 2), .slice (p 3) (l 3) (c 3), .slice (p 4) (l 4) (c 4), .slice (p 5) (l 5) (c 5)] 28)) w8 → (w8.cell? ⟨w.heap.size, 0, none⟩ = some (.slice (p 0) (l 0) (c 0)) ∧ w8.cell? ⟨w.heap.size, 1, none⟩ = some (.slice (p 1) (l 1) (c 1)) ∧ w8.cell? ⟨w.heap.size, 2, none⟩ = some (.slice (p 2) (l 2) (c 2)) ∧ w8.cell? ⟨w.heap.size, 3, none⟩ = some (.slice (p 3) (l 3) (c 3)) ∧ w8.cell? ⟨w.heap.size, 4, none⟩ = some (.slice (p 4) (l 4) (c 4)) ∧ w8.cell? ⟨w.heap.size, 5, none⟩ = some (.slice (p 5) (l 5) (c 5))) ∧ NetIs w8 p l s g o e x f ∧ Below w.heap.size w w8 ∧ w.heap.size < w8.heap.size :=
    fun w8 hb => ⟨⟨keep hb (by simp [go_sem]), keep hb (by simp [go_sem]), keep hb (by simp [go_sem]), keep hb (by simp [go_sem]), keep hb (by simp [go_sem]), keep hb (by simp [go_sem])⟩, (HN.out.below (by repeat (first | exact Below.refl _ _ | assumption | refine Below.drew ?_ | refine Below.alloc ?_ (by first | exact Nat.le_refl _ | omega | (simp; done) | (simp; omega)) _ | refine Below.setCell ?_ (by first | exact Nat.le_refl _ | omega | (simp; done) | (simp; omega)) _))).below hb, (show Below w.heap.size w _ from (by repeat (first | exact Below.refl _ _ | assumption | refine Below.drew ?_ | refine Below.alloc ?_ (by first | exact Nat.le_refl _ | omega | (simp; done) | (simp; omega)) _ | refine Below.setCell ?_ (by first | exact Nat.le_refl _ | omega | (simp; done) | (simp; omega)) _))).trans (hb.mono (by simp)), Nat.lt_of_lt_of_le (by simp) hb.size⟩
  have HC1 := hid C1
  clear C1
  unfold netV
  go_enter Tryd.func3, Tryd.ntmps3
  go_wp2_with fail
  refine (szNet p l c s g o e x f 1048576 _ (HN.out.below (by repeat (first | exact Below.refl _ _ | assumption | refine Below.drew ?_ | refine Below.alloc ?_ (by first | exact Nat.le_refl _ | omega | (simp; done) | (simp; omega)) _ | refine Below.setCell ?_ (by first | exact Nat.le_refl _ | omega | (simp; done) | (simp; omega)) _))) (by omega) (by omega)).mono ?_
  rintro e' w1 ⟨r, rfl, hb1, hr1, hr2, hr3⟩
  have H3 := hid hr3
  have H1 := hid hb1
  obtain ⟨⟨q0, q1, q2, q3, q4, q5⟩, hn, hB, hz⟩ := HC1.out w1 hb1
  have N1 := hid hn
  have B1 := hid hB
  clear hb1 hr3 hn hB
  by_cases hneg : r < 0
  · go_wp2
    go_ret
    exact ⟨rfl, B1.out⟩
  have HL := hid (H3.out (by omega))
  go_wp2_with fail
  refine (toNet p l c s g o e x f _ N1.out HL.out).mono ?_
  rintro e' w2 ⟨N2, rfl, hb2, hc2⟩
  have H2 := hid (H1.out.trans (hb2.mono H1.out.size))
  have C2 := hid (hc2.net HM.out HS.out HO.out HE.out)
  obtain ⟨⟨q0, q1, q2, q3, q4, q5⟩, hn, hB, hz⟩ := HC1.out w2 H2.out
  have N2' := hid hn
  clear hb2 hc2 hn hB
  unfold netV
  go_wp2_with fail
  refine (HTS.out (fun i => some ⟨N2 i, 0, none⟩) l _ C2.out (Nat.le_refl _) (Nat.le_refl _)).mono ?_
  rintro e' w3 ⟨rfl, hb3⟩
  have H3' := hid (H2.out.trans (hb3.mono H2.out.size))
  obtain ⟨⟨q0, q1, q2, q3, q4, q5⟩, hn, hB, hz⟩ := HC1.out w3 H3'.out
  have N3 := hid hn
  clear hb3 hn hB
  go_wp2_with fail
  refine (toNet p l c s g o e x f _ N3.out HL.out).mono ?_
  rintro e' w4 ⟨N4, rfl, hb4, hc4⟩
  have H4 := hid (H3'.out.trans (hb4.mono H3'.out.size))
  have C4 := hid (hc4.net HM.out HS.out HO.out HE.out)
  obtain ⟨⟨q0, q1, q2, q3, q4, q5⟩, hn, hB, hz⟩ := HC1.out w4 H4.out
  have N4' := hid hn
  clear hb4 hc4 hn hB
  unfold netV
  go_wp2_with fail
  have B4w := hid (HC1.out w4 H4.out).2.2.1
  refine (HTI.out (fun i => some ⟨N4 i, 0, none⟩) l _ (C4.out.below (by repeat (first | exact Below.refl _ _ | assumption | refine Below.drew ?_ | refine Below.alloc ?_ (by first | exact Nat.le_refl _ | omega | (simp; done) | (simp; omega)) _ | refine Below.setCell ?_ (by first | exact Nat.le_refl _ | omega | (simp; done) | (simp; omega)) _))) (Nat.le_refl _) (Nat.le_refl _) (HT.out.below (B4w.out.trans ((show Below w4.heap.size w4 _ from (by repeat (first | exact Below.refl _ _ | assumption | refine Below.drew ?_ | refine Below.alloc ?_ (by first | exact Nat.le_refl _ | omega | (simp; done) | (simp; omega)) _ | refine Below.setCell ?_ (by first | exact Nat.le_refl _ | omega | (simp; done) | (simp; omega)) _))).mono B4w.out.size)))).mono ?_
  rintro e' w5 ⟨rfl, hb5⟩
  have hb45 : Below w4.heap.size w4 w5 := (show Below w4.heap.size w4 _ from (by repeat (first | exact Below.refl _ _ | assumption | refine Below.drew ?_ | refine Below.alloc ?_ (by first | exact Nat.le_refl _ | omega | (simp; done) | (simp; omega)) _ | refine Below.setCell ?_ (by first | exact Nat.le_refl _ | omega | (simp; done) | (simp; omega)) _))).trans (hb5.mono (by simp))
  have H5 := hid (H4.out.trans (hb45.mono H4.out.size))
  have C5 := hid (C4.out.below hb45)
  have X5 : Hid (∀ w8 : World, Below w5.heap.size w5 w8 → (w8.cell? ⟨w4.heap.size, 0, none⟩ = some (.slice (some ⟨N4 0, 0, none⟩) (l 0) (l 0)) ∧ w8.cell? ⟨w4.heap.size, 1, none⟩ = some (.slice (some ⟨N4 1, 0, none⟩) (l 1) (l 1)) ∧ w8.cell? ⟨w4.heap.size, 2, none⟩ = some (.slice (some ⟨N4 2, 0, none⟩) (l 2) (l 2)) ∧ w8.cell? ⟨w4.heap.size, 3, none⟩ = some (.slice (some ⟨N4 3, 0, none⟩) (l 3) (l 3)) ∧ w8.cell? ⟨w4.heap.size, 4, none⟩ = some (.slice (some ⟨N4 4, 0, none⟩) (l 4) (l 4)) ∧ w8.cell? ⟨w4.heap.size, 5, none⟩ = some (.slice (some ⟨N4 5, 0, none⟩) (l 5) (l 5)))) :=
    fun w8 hb => ⟨keep hb (keep hb5 (by simp [go_sem])), keep hb (keep hb5 (by simp [go_sem])), keep hb (keep hb5 (by simp [go_sem])), keep hb (keep hb5 (by simp [go_sem])), keep hb (keep hb5 (by simp [go_sem])), keep hb (keep hb5 (by simp [go_sem]))⟩
  have Z5 := hid (show w4.heap.size < w5.heap.size by have := hb5.size; simp at this; omega)
  obtain ⟨⟨q0, q1, q2, q3, q4, q5⟩, hn, hB, hz⟩ := HC1.out w5 H5.out
  have N5 := hid hn
  have B5 := hid hB
  clear hb5 hb45 hn hB
  obtain ⟨x0, x1, x2, x3, x4, x5⟩ := X5.out w5 (Below.refl _ _)
  have z4 := Z5.out
  go_wp2_with fail
  go_region_with (first
    | (go_at_call 6; refine (toNet p l c s g o e x f _ (N5.out.below (Below.refl _ w5).drew) HL.out).mono ?_; rintro e' w6 ⟨N6, rfl, hb6, hc6⟩; have hb6' : Below w5.heap.size w5 w6 := ((Below.refl _ w5).drew).trans hb6; obtain ⟨x0, x1, x2, x3, x4, x5⟩ := X5.out w6 hb6'; clear hb6)
    | (go_at_call 8; refine (eqNet (fun i => some ⟨N4 i, 0, none⟩) (fun i => some ⟨N6 i, 0, none⟩) l l l s g o e x f _ (C5.out.below hb6') (hc6.net HM.out HS.out HO.out HE.out)).mono ?_; rintro e' w7 ⟨rfl, hb7⟩))
  all_goals
    go_wp2
    go_ret
    exact ⟨rfl, (B5.out.trans (hb6'.mono B5.out.size)).trans (hb7.mono (by have := hb6'.size; have := B5.out.size; omega))⟩

theorem own : ownKnob Tryd.prog.godebug = none := by kernel_rfl
theorem laidOut : laidOutB Tryd.prog = true := by kernel_rfl

/- The library's tables as their initialisers lay them. -/
def b32Tab : List Value := ([0, 1, 28, 2, 29, 14, 24, 3, 30, 22, 20, 15, 25, 17, 4, 8, 31, 27, 13, 23, 21, 19, 16, 7, 26, 12, 18, 6, 11, 5, 10, 9] : List Int).map (Value.int .u8)
def b64Tab : List Value := ([0, 1, 56, 2, 57, 49, 28, 3, 61, 58, 42, 50, 38, 29, 17, 4, 62, 47, 59, 36, 45, 43, 51, 22, 53, 39, 33, 30, 24, 18, 12, 5, 63, 55, 48, 27, 60, 41, 37, 16, 46, 35, 44, 21, 52, 32, 23, 11, 54, 26, 40, 15, 34, 20, 31, 10, 25, 14, 19, 9, 13, 8, 7, 6] : List Int).map (Value.int .u8)
def powTab : List Value := Lib.pow10Tab.map (Value.int .u64)
def laidAs (l : List Value) : Obj → Obj
  | .cells _ t frozen => .cells l.toArray t frozen
  | o => o
def gPow : Nat := 0
def gB32 : Nat := 2
def gB64 : Nat := 3
theorem table {W : World} (h : laidMetH Tryd.prog Rows.fnExactNetTextRow.laid W) : TabW W := by
  have h1 := h.filter (fun x => x.1 == "internal/strconv.uint64pow10")
  have h2 : laidMet Tryd.prog [("internal/strconv.uint64pow10", Lib.tabData .u64 Lib.pow10Tab)] W := h1
  exact Lib.tabIs_of_head (g := 0) (t := 119) (e := 112) (n := 20) (by kernel_rfl) (by kernel_rfl) Tryd.underlying119 Tryd.underlying112 (by kernel_rfl) (by kernel_rfl) h2

theorem laid_met (os : Os) : laidMet Tryd.prog Rows.fnExactNetTextRow.laid (({ World.holding Tryd.prog os ⟨#[], #[], []⟩ with heap := (((World.holding Tryd.prog os ⟨#[], #[], []⟩).heap.modify gPow (laidAs powTab)).modify gB32 (laidAs b32Tab)).modify gB64 (laidAs b64Tab) } : World).forCall (fun _ _ => 0) ⟨#[], #[.agg #[.slice none 0 0, .slice none 0 0, .slice none 0 0, .slice none 0 0, .slice none 0 0, .slice none 0 0]], []⟩).memory :=
  laidMet_of_run' 8 (by kernel_rfl) (by kernel_rfl)
theorem reads (os : Os) {H : Type} (enc : TypeId × Value → H) : ∃ places, DataW.whole enc Tryd.prog (({ World.holding Tryd.prog os ⟨#[], #[], []⟩ with heap := (((World.holding Tryd.prog os ⟨#[], #[], []⟩).heap.modify gPow (laidAs powTab)).modify gB32 (laidAs b32Tab)).modify gB64 (laidAs b64Tab) } : World).forCall (fun _ _ => 0) ⟨#[], #[.agg #[.slice none 0 0, .slice none 0 0, .slice none 0 0, .slice none 0 0, .slice none 0 0, .slice none 0 0]], []⟩).memory Tryd.f3.params.toList Rows.fnExactNetTextSpec.vars false #[Value.agg #[.slice none 0 0, .slice none 0 0, .slice none 0 0, .slice none 0 0, .slice none 0 0, .slice none 0 0]].toList 8 = some ([.agg [.nil, .nil, .nil, .nil, .nil, .nil]], [], places) :=
  ⟨[], by kernel_rfl⟩

set_option maxRecDepth 100000 in
theorem contract (H : Type) (enc : TypeId × Value → H) (W : World) (base : Nat) (args : Array Value) (ds gs : List (DataW H)) (before : List MemPlace)
    (hval : ∀ (j : Nat) t v, Tryd.f3.params[j]? = some t → args[j]? = some v → Value.okWide Tryd.prog W .any base t v)
    (hW : DataW.Whole enc Tryd.prog Tryd.f3.params.toList Rows.fnExactNetTextSpec.vars false W args.toList ds gs before) (hL : laidMetH Tryd.prog Rows.fnExactNetTextRow.laid W) :
    Calls Tryd.prog 3 args W fun e W' => ∃ v, e = .returned v ∧ Rows.fnExactNetTextSpec.post enc Tryd.prog Tryd.f3 false true false false W args v W' := by
  have hW' := hW
  obtain ⟨p, q, hA0, hV, rfl, hfz, hnd⟩ := hW
  have hA : DataW.TrodAll enc Tryd.prog W 0 (fun _ => true) true Tryd.f3.params.toList args.toList ds p := hA0
  rw [Tryd.params3] at hA hval
  obtain ⟨v0, vs0, d0, ds0, p0, q0, hargs, rfl, rfl, h0, r0⟩ := trodAll_cons hA
  obtain ⟨rfl, rfl, rfl⟩ := trodAll_nil r0
  obtain rfl : args = #[v0] := by cases args; simp_all
  obtain ⟨rfl, rfl⟩ := trodVars_none hV
  have k0 := h0
  have lt0 : ∀ x ∈ p0, x.block < W.heap.size := by obtain ⟨m, hm⟩ := k0; exact DataW.trod_lt m _ _ _ hm
  obtain ⟨p, l, c, s, g, o, e, x, f, rfl, hnet⟩ := net_of_trod (hval 0 28 v0 rfl rfl) h0
  clear hA0
  refine (walk p l c s g o e x f W hnet (table hL)).mono fun e W' ⟨he, bel⟩ => ?_
  subst he
  exact ⟨_, rfl, _, _, _, [], _, [], hW', trodAll_mk1 (shut_bool Tryd.underlying4 _), (trodAll_cons_mk (Below.trod laidOut (by kernel_rfl) (of_decide_eq_true (by kernel_rfl)) k0 bel lt0) trodAll_mk0), rfl, bel.frame _, fun h => by cases h⟩

set_option maxRecDepth 100000 in
theorem lifted (os : Os) (started : os.Started) (H : Type) (enc : TypeId × Value → H) (F : Stop.Interp) :
    ReturnsInHanded {} Tryd.checked os 3 .any ((OpenSpec.ofChange Rows.fnExactNetTextSpec).preRow enc Tryd.prog Tryd.f3 Rows.fnExactNetTextRow.domain false Rows.fnExactNetTextRow.laid) (((OpenSpec.ofChange Rows.fnExactNetTextSpec).at F).post enc Tryd.prog Tryd.f3 false true false false) := by
  obtain ⟨places, hx⟩ := reads os enc
  refine returnsInHanded_of_row (C := Tryd.checked) (s := OpenSpec.ofChange Rows.fnExactNetTextSpec) own started (by kernel_rfl) Tryd.func3
    (witness_row_at (enc := enc) (C := Tryd.checked) false ({ World.holding Tryd.prog os ⟨#[], #[], []⟩ with heap := (((World.holding Tryd.prog os ⟨#[], #[], []⟩).heap.modify gPow (laidAs powTab)).modify gB32 (laidAs b32Tab)).modify gB64 (laidAs b64Tab) } : World) #[.agg #[.slice none 0 0, .slice none 0 0, .slice none 0 0, .slice none 0 0, .slice none 0 0, .slice none 0 0]] rfl (by kernel_rfl) (by kernel_rfl) (by kernel_rfl)
      (OpenSpec.preRow_of_cond 8 hx (by kernel_rfl) (fun k hk => by cases hk) (by kernel_rfl) (laid_met os))) ?_
  intro W base args ds gs before hval hW _ _ _ hL _ _
  exact contract H enc W base args ds gs before hval hW hL

theorem said : Rows.FnExactNetTextSaid :=
  OpenClaim.holds_of_cond 3 Tryd.f3 rfl rfl rfl rfl rfl rfl rfl ⟨rfl, rfl, rfl, rfl, rfl⟩ rfl rfl rfl rfl rfl (by kernel_rfl) Tryd.func3 (by kernel_rfl)
    (of_decide_eq_true (by kernel_rfl)) (by unfold Func.isWrapper; first | (rw [if_pos (by decide +kernel)]; kernel_rfl) | (rw [if_neg (by decide +kernel)]; exact ⟨rfl, rfl⟩))
    (fun os started H enc _ F => by rw [OpenClaim.pre_eq_preRow]; exact lifted os started H enc F)

theorem plain (f : FuncId) (fn : Func) (hf : Tryd.pinned.checked.prog.funcNamed "loop.example/g00159/laws.FnExactNetText" = some f) (hfn : Tryd.pinned.checked.prog.funcs[f]? = some fn) :
    false = Tryd.pinned.checked.prog.looks [] ∧ ∀ (j : Nat) t, fn.params[j]? = some t → Tryd.pinned.checked.prog.wantsStandIn t = false := by
  obtain rfl : f = 3 := Option.some.inj ((show Tryd.prog.funcNamed "loop.example/g00159/laws.FnExactNetText" = some 3 by kernel_rfl).symm.trans hf) |>.symm
  obtain rfl : fn = Tryd.f3 := (Option.some.inj (Tryd.func3.symm.trans hfn)).symm
  refine ⟨by kernel_rfl, fun j t ht => ?_⟩
  rw [Tryd.params3] at ht
  obtain rfl : t = 28 := by simpa using Array.mem_of_getElem? ht
  exact (show Tryd.prog.wantsStandIn 28 = false by kernel_rfl)
end Go.Proofs.YtbkijlcbejlddaaDoor.fnExactNetText
namespace Go.Proofs.YtbkijlcbejlddaaDoor
theorem fnExactNetText_holds : Rows.FnExactNetTextCardSaid :=
  Claim7.holds_tied_plain_at .later [] _ _ _ _ fnExactNetText.said (fun _ h => by cases h) (by kernel_rfl) (fun _ h => by cases h) fnExactNetText_row_tie rfl ⟨rfl, rfl⟩ (by kernel_rfl) rfl fnExactNetText.plain (by kernel_rfl)
end Go.Proofs.YtbkijlcbejlddaaDoor
