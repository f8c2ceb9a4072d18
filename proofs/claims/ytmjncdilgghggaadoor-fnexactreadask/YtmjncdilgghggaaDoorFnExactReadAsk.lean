/- For every network and line ReadAsk answers as its specification (the property, the number of links and the code); the network is as it was; the library's tables are as their initialisers lay them, tied to the program's text; conditions: none. -/
import Derived.Test.YtmjncdilgghggaaDoorAskFaceS
import Derived.Test.YtmjncdilgghggaaDoorNetWhole
import Derived.Test.YtmjncdilgghggaaDoorNetArgs
import Derived.Test.YtmjncdilgghggaaDoorCards
import Derived.Test.YtmjncdilgghggaaDoorTie
import Derived.OpenVars
import Derived.SevenTiedAt
import Derived.Deep.DeepHandedRow
import Derived.Lib.LaidTab
import Derived.LaidSub
import Derived.Shelf.Vars
import GoSem.PinnedTables
namespace Go.Proofs.YtmjncdilgghggaaDoor.fnExactReadAsk
open Go.ChangeMaps (open_string shut_string)
open Go.ChangeShapes Go.WideShapes Go.ChangeAt Go.RowKit Go.Deep Go.Joins base copy names netSem netCopy netWhole netOKImpl netOKSpec netArgs args askWords askSem askFace askFaceS
set_option linter.unusedVariables false

set_option maxHeartbeats 800000 in
theorem eq_prop (k0 k1 k2 k3 : Int) (w : World) :
    Calls Tryd.prog 8 #[.agg #[.int .i64 k0, .int .i64 k1, .int .i64 k2, .int .i64 k3], .agg #[.int .i64 k0, .int .i64 k1, .int .i64 k2, .int .i64 k3]] w fun e w' => e = .returned (.bool true) ∧ Below w.heap.size w w' := by
  have q0 : (k0 != k0) = false := by simp
  have q1 : (k1 != k1) = false := by simp
  have q2 : (k2 != k2) = false := by simp
  have q3 : (k3 != k3) = false := by simp
  go_enter Tryd.func8, Tryd.ntmps8
  go_wp2
  go_ret
  exact ⟨rfl, (by repeat (first | exact Below.refl _ _ | assumption | refine Below.drew ?_ | refine Below.alloc ?_ (by first | exact Nat.le_refl _ | omega | (simp; done) | (simp; omega)) _ | refine Below.setCell ?_ (by first | exact Nat.le_refl _ | omega | (simp; done) | (simp; omega)) _))⟩

set_option maxHeartbeats 6400000 in
set_option maxRecDepth 8000 in
theorem walk (p : Nat → Option Addr) (l c : Nat → Nat) (s : Ss) (g : R) (o e : List Int) (x f : R) (t : ByteArray) (m : Int) (w : World) (h : NetIs w p l s g o e x f) (hts : t.size ≤ maxLen) (hm : w.cell? ⟨0, 0, none⟩ = some (.int .i64 m)) :
    Calls Tryd.prog 3 #[netV p l c, .string t] w fun e' w' => e' = .returned (.bool true) ∧ Below w.heap.size w w' := by
  have HN := hid h
  have HMx := hid hm
  unfold maxLen at hts
  clear hm
  have HM : Hid (∀ i, i < 6 → l i ≤ maxLen) := fun i hi => by
    match i, hi with
    | 0, _ => exact h.routers.most
    | 1, _ => exact h.links.most
    | 2, _ => exact h.origins.most
    | 3, _ => exact h.externals.most
    | 4, _ => exact h.imports.most
    | 5, _ => exact h.filters.most
    | i + 6, hi => exact absurd hi (by omega)
  have HS := hid h.routers.size
  have HO := hid h.origins.length
  have HE := hid h.externals.length
  clear h
  have C1 : ∀ w8 : World, Below ((w.alloc (.cells #[.slice (p 0) (l 0) (c 0), .slice (p 1) (l 1) (c 1), .slice (p 2) (l 2) (c 2), .slice (p 3) (l 3) (c 3), .slice (p 4) (l 4) (c 4), .slice (p 5) (l 5) (c 5)] 28))).heap.size (w.alloc (.cells #[.slice (p 0) (l 0) (c 0), .slice (p 1) (l 1) (c 1), .slice (p 2) (l 2) (c 2), .slice (p 3) (l 3) (c 3), .slice (p 4) (l 4) (c 4), .slice (p 5) (l 5) (c 5)] 28)) w8 → (w8.cell? ⟨w.heap.size, 0, none⟩ = some (.slice (p 0) (l 0) (c 0)) ∧ w8.cell? ⟨w.heap.size, 1, none⟩ = some (.slice (p 1) (l 1) (c 1)) ∧ w8.cell? ⟨w.heap.size, 2, none⟩ = some (.slice (p 2) (l 2) (c 2)) ∧ w8.cell? ⟨w.heap.size, 3, none⟩ = some (.slice (p 3) (l 3) (c 3)) ∧ w8.cell? ⟨w.heap.size, 4, none⟩ = some (.slice (p 4) (l 4) (c 4)) ∧ w8.cell? ⟨w.heap.size, 5, none⟩ = some (.slice (p 5) (l 5) (c 5))) ∧ NetIs w8 p l s g o e x f ∧ Below w.heap.size w w8 ∧ w.heap.size < w8.heap.size :=
    fun w8 hb => ⟨⟨keep hb (by simp [go_sem]), keep hb (by simp [go_sem]), keep hb (by simp [go_sem]), keep hb (by simp [go_sem]), keep hb (by simp [go_sem]), keep hb (by simp [go_sem])⟩, (HN.out.below (by repeat (first | exact Below.refl _ _ | assumption | refine Below.drew ?_ | refine Below.alloc ?_ (by first | exact Nat.le_refl _ | omega | (simp; done) | (simp; omega)) _ | refine Below.setCell ?_ (by first | exact Nat.le_refl _ | omega | (simp; done) | (simp; omega)) _))).below hb, (show Below w.heap.size w _ from (by repeat (first | exact Below.refl _ _ | assumption | refine Below.drew ?_ | refine Below.alloc ?_ (by first | exact Nat.le_refl _ | omega | (simp; done) | (simp; omega)) _ | refine Below.setCell ?_ (by first | exact Nat.le_refl _ | omega | (simp; done) | (simp; omega)) _))).trans (hb.mono (by simp)), Nat.lt_of_lt_of_le (by simp) hb.size⟩
  have HC1 := hid C1
  clear C1
  unfold netV
  by_cases hbig : 1048576 < t.size
  · have d0 : decide ((1048576 : Int) < (t.size : Int)) = true := decide_eq_true (by omega)
    go_enter Tryd.func3, Tryd.ntmps3
    go_wp2
    go_ret
    exact ⟨rfl, (by repeat (first | exact Below.refl _ _ | assumption | refine Below.drew ?_ | refine Below.alloc ?_ (by first | exact Nat.le_refl _ | omega | (simp; done) | (simp; omega)) _ | refine Below.setCell ?_ (by first | exact Nat.le_refl _ | omega | (simp; done) | (simp; omega)) _))⟩
  have d0 : decide ((1048576 : Int) < (t.size : Int)) = false := decide_eq_false (by omega)
  have HTI := hid (fun p c w h hc0 hc1 hm => readAsk_impl p l c s g o e x f t m w h hc0 hc1 (by omega) hm)
  have HTS := hid (fun p c w h hc0 hc1 => readAsk_spec p l c s g o e x f t w h hc0 hc1 (by omega))
  obtain ⟨AN, hAN⟩ : ∃ q, rdA t.size (netB l s g o e x f) (fun x => nameAt s (l 0) (piece x)) (wordsL t.data.toList) = q := ⟨_, rfl⟩
  rw [hAN] at HTI HTS
  clear hAN
  obtain ⟨k0, k1, k2, k3, k4, k5⟩ := AN
  simp only [askV] at HTI HTS
  have hq4 : (k4 != k4) = false := by simp
  have hq5 : (k5 != k5) = false := by simp
  go_enter Tryd.func3, Tryd.ntmps3
  go_wp2_with fail
  refine (szNet p l c s g o e x f 1048576 _ (HN.out.below (by repeat (first | exact Below.refl _ _ | assumption | refine Below.drew ?_ | refine Below.alloc ?_ (by first | exact Nat.le_refl _ | omega | (simp; done) | (simp; omega)) _ | refine Below.setCell ?_ (by first | exact Nat.le_refl _ | omega | (simp; done) | (simp; omega)) _))) (by omega) (by omega)).mono ?_
  rintro e' w1 ⟨r, rfl, hb1, hr1, hr2, hr3⟩
  have H3 := hid hr3
  have H1 := hid hb1
  obtain ⟨⟨q0, q1, q2, q3, q4, q5⟩, hn, hB, hz⟩ := HC1.out w1 hb1
  have N1 := hid hn
  have B1 := hid hB
  clear hb1 hr3 hn hB
  by_cases hneg : r < 0
  · go_wp2
    go_ret
    exact ⟨rfl, B1.out⟩
  have HL := hid (H3.out (by omega))
  go_wp2_with fail
  refine (toNet p l c s g o e x f _ N1.out HL.out).mono ?_
  rintro e' w2 ⟨N2, rfl, hb2, hc2⟩
  have H2 := hid (H1.out.trans (hb2.mono H1.out.size))
  have C2 := hid (hc2.net HM.out HS.out HO.out HE.out)
  obtain ⟨⟨q0, q1, q2, q3, q4, q5⟩, hn, hB, hz⟩ := HC1.out w2 H2.out
  have N2' := hid hn
  clear hb2 hc2 hn hB
  unfold netV
  go_wp2_with fail
  refine (HTS.out (fun i => some ⟨N2 i, 0, none⟩) l _ C2.out (Nat.le_refl _) (Nat.le_refl _)).mono ?_
  rintro e' w3 ⟨rfl, hb3⟩
  have H3' := hid (H2.out.trans (hb3.mono H2.out.size))
  obtain ⟨⟨q0, q1, q2, q3, q4, q5⟩, hn, hB, hz⟩ := HC1.out w3 H3'.out
  have N3 := hid hn
  clear hb3 hn hB
  go_wp2_with fail
  have hbA : Below w3.heap.size w3 (w3.alloc (.cells #[.int .i64 k0, .int .i64 k1, .int .i64 k2, .int .i64 k3] 31)) := (by repeat (first | exact Below.refl _ _ | assumption | refine Below.drew ?_ | refine Below.alloc ?_ (by first | exact Nat.le_refl _ | omega | (simp; done) | (simp; omega)) _ | refine Below.setCell ?_ (by first | exact Nat.le_refl _ | omega | (simp; done) | (simp; omega)) _))
  have Y3 : Hid (∀ w8 : World, Below (w3.alloc (.cells #[.int .i64 k0, .int .i64 k1, .int .i64 k2, .int .i64 k3] 31)).heap.size (w3.alloc (.cells #[.int .i64 k0, .int .i64 k1, .int .i64 k2, .int .i64 k3] 31)) w8 → w8.cell? ⟨w3.heap.size, 0, none⟩ = some (.int .i64 k0) ∧ w8.cell? ⟨w3.heap.size, 1, none⟩ = some (.int .i64 k1) ∧ w8.cell? ⟨w3.heap.size, 2, none⟩ = some (.int .i64 k2) ∧ w8.cell? ⟨w3.heap.size, 3, none⟩ = some (.int .i64 k3)) := fun w8 hb => ⟨keep hb (by simp [go_sem]), keep hb (by simp [go_sem]), keep hb (by simp [go_sem]), keep hb (by simp [go_sem])⟩
  have H3a := hid (H3'.out.trans (hbA.mono H3'.out.size))
  have N3a := hid (N3.out.below hbA)
  have Z3 : w3.heap.size < (w3.alloc (.cells #[.int .i64 k0, .int .i64 k1, .int .i64 k2, .int .i64 k3] 31)).heap.size := by simp
  clear hbA N3 q0 q1 q2 q3 q4 q5 hz
  generalize w3.alloc (.cells #[.int .i64 k0, .int .i64 k1, .int .i64 k2, .int .i64 k3] 31) = w3a at *
  refine (toNet p l c s g o e x f _ N3a.out HL.out).mono ?_
  rintro e' w4 ⟨N4, rfl, hb4, hc4⟩
  have H4 := hid (H3a.out.trans (hb4.mono H3a.out.size))
  have Y4 := hid (fun w8 (hb : Below w4.heap.size w4 w8) => Y3.out w8 (hb4.trans (hb.mono hb4.size)))
  have C4 := hid (hc4.net HM.out HS.out HO.out HE.out)
  obtain ⟨⟨q0, q1, q2, q3, q4, q5⟩, hn, hB, hz⟩ := HC1.out w4 H4.out
  have N4' := hid hn
  have hz3 : w3.heap.size < w4.heap.size := Nat.lt_of_lt_of_le Z3 hb4.size
  clear hb4 hc4 hn hB Z3
  unfold netV
  go_wp2_with fail
  have B4w := hid (HC1.out w4 H4.out).2.2.1
  have b4a : Below w.heap.size w (w4.alloc (.cells #[.slice (some ⟨N4 0, 0, none⟩) (l 0) (l 0), .slice (some ⟨N4 1, 0, none⟩) (l 1) (l 1), .slice (some ⟨N4 2, 0, none⟩) (l 2) (l 2), .slice (some ⟨N4 3, 0, none⟩) (l 3) (l 3), .slice (some ⟨N4 4, 0, none⟩) (l 4) (l 4), .slice (some ⟨N4 5, 0, none⟩) (l 5) (l 5)] 38)) := B4w.out.trans ((show Below w4.heap.size w4 _ from (by repeat (first | exact Below.refl _ _ | assumption | refine Below.drew ?_ | refine Below.alloc ?_ (by first | exact Nat.le_refl _ | omega | (simp; done) | (simp; omega)) _ | refine Below.setCell ?_ (by first | exact Nat.le_refl _ | omega | (simp; done) | (simp; omega)) _))).mono B4w.out.size)
  refine (HTI.out (fun i => some ⟨N4 i, 0, none⟩) l _ (C4.out.below (by repeat (first | exact Below.refl _ _ | assumption | refine Below.drew ?_ | refine Below.alloc ?_ (by first | exact Nat.le_refl _ | omega | (simp; done) | (simp; omega)) _ | refine Below.setCell ?_ (by first | exact Nat.le_refl _ | omega | (simp; done) | (simp; omega)) _))) (Nat.le_refl _) (Nat.le_refl _) (keep b4a HMx.out)).mono ?_
  rintro e' w5 ⟨rfl, hb5⟩
  have hb45 : Below w4.heap.size w4 w5 := (show Below w4.heap.size w4 _ from (by repeat (first | exact Below.refl _ _ | assumption | refine Below.drew ?_ | refine Below.alloc ?_ (by first | exact Nat.le_refl _ | omega | (simp; done) | (simp; omega)) _ | refine Below.setCell ?_ (by first | exact Nat.le_refl _ | omega | (simp; done) | (simp; omega)) _))).trans (hb5.mono (by simp))
  have H5 := hid (H4.out.trans (hb45.mono H4.out.size))
  have C5 := hid (C4.out.below hb45)
  have X5 : Hid (∀ w8 : World, Below w5.heap.size w5 w8 → (w8.cell? ⟨w4.heap.size, 0, none⟩ = some (.slice (some ⟨N4 0, 0, none⟩) (l 0) (l 0)) ∧ w8.cell? ⟨w4.heap.size, 1, none⟩ = some (.slice (some ⟨N4 1, 0, none⟩) (l 1) (l 1)) ∧ w8.cell? ⟨w4.heap.size, 2, none⟩ = some (.slice (some ⟨N4 2, 0, none⟩) (l 2) (l 2)) ∧ w8.cell? ⟨w4.heap.size, 3, none⟩ = some (.slice (some ⟨N4 3, 0, none⟩) (l 3) (l 3)) ∧ w8.cell? ⟨w4.heap.size, 4, none⟩ = some (.slice (some ⟨N4 4, 0, none⟩) (l 4) (l 4)) ∧ w8.cell? ⟨w4.heap.size, 5, none⟩ = some (.slice (some ⟨N4 5, 0, none⟩) (l 5) (l 5)))) :=
    fun w8 hb => ⟨keep hb (keep hb5 (by simp [go_sem])), keep hb (keep hb5 (by simp [go_sem])), keep hb (keep hb5 (by simp [go_sem])), keep hb (keep hb5 (by simp [go_sem])), keep hb (keep hb5 (by simp [go_sem])), keep hb (keep hb5 (by simp [go_sem]))⟩
  have Z5 := hid (show w4.heap.size < w5.heap.size by have := hb5.size; simp at this; omega)
  have Y5 := hid (fun w8 (hb : Below w5.heap.size w5 w8) => Y4.out w8 (hb45.trans (hb.mono hb45.size)))
  clear q0 q1 q2 q3 q4 q5 hz
  obtain ⟨⟨q0, q1, q2, q3, q4, q5⟩, hn, hB, hz⟩ := HC1.out w5 H5.out
  have N5 := hid hn
  have B5 := hid hB
  clear hb5 hb45 hn hB b4a Y4 Y3
  obtain ⟨y0, y1, y2, y3⟩ := Y5.out w5 (Below.refl _ _)
  have z4 := Z5.out
  have hz35 : w3.heap.size < w5.heap.size := by omega
  go_wp2_with fail
  refine (eq_prop k0 k1 k2 k3 _).mono ?_
  rintro e' w5b ⟨rfl, hbb⟩
  have hb55 : Below w5.heap.size w5 w5b := (show Below w5.heap.size w5 _ from (by repeat (first | exact Below.refl _ _ | assumption | refine Below.drew ?_ | refine Below.alloc ?_ (by first | exact Nat.le_refl _ | omega | (simp; done) | (simp; omega)) _ | refine Below.setCell ?_ (by first | exact Nat.le_refl _ | omega | (simp; done) | (simp; omega)) _))).trans (hbb.mono (by simp))
  have H5b := hid (H5.out.trans (hb55.mono H5.out.size))
  have C5b := hid (C5.out.below hb55)
  have X5b := hid (fun w8 (hb : Below w5b.heap.size w5b w8) => X5.out w8 (hb55.trans (hb.mono hb55.size)))
  have Z5b := hid (Nat.lt_of_lt_of_le Z5.out hb55.size)
  clear q0 q1 q2 q3 q4 q5 hz y0 y1 y2 y3 z4 hz35 hz3 hbb hb55
  obtain ⟨⟨q0, q1, q2, q3, q4, q5⟩, hn, hB, hz⟩ := HC1.out w5b H5b.out
  have N5b := hid hn
  have B5b := hid hB
  clear hn hB X5 N5 B5 Y5 C5
  obtain ⟨x0, x1, x2, x3, x4, x5⟩ := X5b.out w5b (Below.refl _ _)
  have z4 := Z5b.out
  go_wp2_with fail
  go_region_with (first
    | (go_at_call 6; refine (toNet p l c s g o e x f _ (N5b.out.below (Below.refl _ w5b).drew) HL.out).mono ?_; rintro e' w6 ⟨N6, rfl, hb6, hc6⟩; have hb6' : Below w5b.heap.size w5b w6 := ((Below.refl _ w5b).drew).trans hb6; obtain ⟨x0, x1, x2, x3, x4, x5⟩ := X5b.out w6 hb6'; clear hb6)
    | (go_at_call 9; refine (eqNet (fun i => some ⟨N4 i, 0, none⟩) (fun i => some ⟨N6 i, 0, none⟩) l l l s g o e x f _ (C5b.out.below hb6') (hc6.net HM.out HS.out HO.out HE.out)).mono ?_; rintro e' w7 ⟨rfl, hb7⟩))
  all_goals
    go_wp2
    go_ret
    exact ⟨rfl, (B5b.out.trans (hb6'.mono B5b.out.size)).trans (hb7.mono (by have := hb6'.size; have := B5b.out.size; omega))⟩

theorem own : ownKnob Tryd.prog.godebug = none := by kernel_rfl
theorem laidOut : laidOutB Tryd.prog = true := by kernel_rfl

/- The library's tables as their initialisers lay them. -/
def accTab : List Value := ([128, 191, 160, 191, 128, 159, 144, 191, 128, 143, 0, 0, 0, 0, 0, 0, 0, 0, 0, 0, 0, 0, 0, 0, 0, 0, 0, 0, 0, 0, 0, 0] : List Int).map (Value.int .u8)
def firstTab : List Value := Pinned.utf8FirstZ.map fun n : Nat => Value.int .u8 (n : Int)
def laidAs (l : List Value) : Obj → Obj
  | .cells _ t frozen => .cells l.toArray t frozen
  | o => o
def gAcc : Nat := 2
def gFirst : Nat := 1
theorem max_len {W : World} (h : W.ShapedOpen Tryd.prog) : ∃ m, W.cell? ⟨0, 0, none⟩ = some (.int .i64 m) :=
  cell_of_shapedOpen_int (t := 3) (zero := #[.int .i64 0]) h (of_decide_eq_true (by kernel_rfl)) (by kernel_rfl) rfl (by kernel_rfl) (by kernel_rfl) Tryd.underlying3

theorem laid_met (os : Os) : laidMet Tryd.prog Rows.fnExactReadAskRow.laid (({ World.holding Tryd.prog os ⟨#[], #[], []⟩ with heap := ((World.holding Tryd.prog os ⟨#[], #[], []⟩).heap.modify gAcc (laidAs accTab)).modify gFirst (laidAs firstTab) } : World).forCall (fun _ _ => 0) ⟨#[], #[.agg #[.slice none 0 0, .slice none 0 0, .slice none 0 0, .slice none 0 0, .slice none 0 0, .slice none 0 0], .string ⟨#[]⟩], []⟩).memory :=
  laidMet_of_run' 8 (by kernel_rfl) (by kernel_rfl)
theorem reads (os : Os) {H : Type} (enc : TypeId × Value → H) : ∃ places, DataW.whole enc Tryd.prog (({ World.holding Tryd.prog os ⟨#[], #[], []⟩ with heap := ((World.holding Tryd.prog os ⟨#[], #[], []⟩).heap.modify gAcc (laidAs accTab)).modify gFirst (laidAs firstTab) } : World).forCall (fun _ _ => 0) ⟨#[], #[.agg #[.slice none 0 0, .slice none 0 0, .slice none 0 0, .slice none 0 0, .slice none 0 0, .slice none 0 0], .string ⟨#[]⟩], []⟩).memory Tryd.f3.params.toList Rows.fnExactReadAskSpec.vars false #[Value.agg #[.slice none 0 0, .slice none 0 0, .slice none 0 0, .slice none 0 0, .slice none 0 0, .slice none 0 0], .string ⟨#[]⟩].toList 8 = some ([.agg [.nil, .nil, .nil, .nil, .nil, .nil], .lit (.string [])], [], places) :=
  ⟨[], by kernel_rfl⟩

set_option maxRecDepth 100000 in
theorem contract (H : Type) (enc : TypeId × Value → H) (W : World) (base : Nat) (args : Array Value) (ds gs : List (DataW H)) (before : List MemPlace)
    (hval : ∀ (j : Nat) t v, Tryd.f3.params[j]? = some t → args[j]? = some v → Value.okWide Tryd.prog W .any base t v)
    (hW : DataW.Whole enc Tryd.prog Tryd.f3.params.toList Rows.fnExactReadAskSpec.vars false W args.toList ds gs before) (hL : laidMetH Tryd.prog Rows.fnExactReadAskRow.laid W) (hsh : W.ShapedOpen Tryd.prog) :
    Calls Tryd.prog 3 args W fun e W' => ∃ v, e = .returned v ∧ Rows.fnExactReadAskSpec.post enc Tryd.prog Tryd.f3 false true false false W args v W' := by
  have hW' := hW
  obtain ⟨p, q, hA0, hV, rfl, hfz, hnd⟩ := hW
  have hA : DataW.TrodAll enc Tryd.prog W 0 (fun _ => true) true Tryd.f3.params.toList args.toList ds p := hA0
  rw [Tryd.params3] at hA hval
  obtain ⟨v0, vs0, d0, ds0, p0, q0, hargs, rfl, rfl, h0, r0⟩ := trodAll_cons hA
  obtain ⟨v1, vs1, d1, ds1, p1, q1, rfl, rfl, rfl, h1, r1⟩ := trodAll_cons r0
  obtain ⟨rfl, rfl, rfl⟩ := trodAll_nil r1
  obtain rfl : args = #[v0, v1] := by cases args; simp_all
  obtain ⟨rfl, rfl⟩ := trodVars_none hV
  have k0 := h0
  have lt0 : ∀ x ∈ p0, x.block < W.heap.size := by obtain ⟨m, hm⟩ := k0; exact DataW.trod_lt m _ _ _ hm
  have k1 := h1
  have lt1 : ∀ x ∈ p1, x.block < W.heap.size := by obtain ⟨m, hm⟩ := k1; exact DataW.trod_lt m _ _ _ hm
  obtain ⟨p, l, c, s, g, o, e, x, f, rfl, hnet⟩ := net_of_trod (hval 0 28 v0 rfl rfl) h0
  obtain ⟨t, rfl, rfl, rfl, wt⟩ := open_string Tryd.underlying9 (hval 1 9 v1 rfl rfl) h1
  obtain ⟨m, hm⟩ := max_len hsh
  clear hA0
  refine (walk p l c s g o e x f t m W hnet wt hm).mono fun e W' ⟨he, bel⟩ => ?_
  subst he
  exact ⟨_, rfl, _, _, _, [], _, [], hW', trodAll_mk1 (shut_bool Tryd.underlying4 _), (trodAll_cons_mk (Below.trod laidOut (by kernel_rfl) (of_decide_eq_true (by kernel_rfl)) k0 bel lt0) (trodAll_cons_mk (Below.trod laidOut (by kernel_rfl) (of_decide_eq_true (by kernel_rfl)) k1 bel lt1) trodAll_mk0)), rfl, bel.frame _, fun h => by cases h⟩

set_option maxRecDepth 100000 in
theorem lifted (os : Os) (started : os.Started) (H : Type) (enc : TypeId × Value → H) (F : Stop.Interp) :
    ReturnsInHanded {} Tryd.checked os 3 .any ((OpenSpec.ofChange Rows.fnExactReadAskSpec).preRow enc Tryd.prog Tryd.f3 Rows.fnExactReadAskRow.domain false Rows.fnExactReadAskRow.laid) (((OpenSpec.ofChange Rows.fnExactReadAskSpec).at F).post enc Tryd.prog Tryd.f3 false true false false) := by
  obtain ⟨places, hx⟩ := reads os enc
  refine returnsInHanded_of_row (C := Tryd.checked) (s := OpenSpec.ofChange Rows.fnExactReadAskSpec) own started (by kernel_rfl) Tryd.func3
    (witness_row_at (enc := enc) (C := Tryd.checked) false ({ World.holding Tryd.prog os ⟨#[], #[], []⟩ with heap := ((World.holding Tryd.prog os ⟨#[], #[], []⟩).heap.modify gAcc (laidAs accTab)).modify gFirst (laidAs firstTab) } : World) #[.agg #[.slice none 0 0, .slice none 0 0, .slice none 0 0, .slice none 0 0, .slice none 0 0, .slice none 0 0], .string ⟨#[]⟩] rfl (by kernel_rfl) (by kernel_rfl) (by kernel_rfl)
      (OpenSpec.preRow_of_cond 8 hx (by kernel_rfl) (fun k hk => by cases hk) (by kernel_rfl) (laid_met os))) ?_
  intro W base args ds gs before hval hW _ _ _ hL hsh _
  exact contract H enc W base args ds gs before hval hW hL hsh

theorem said : Rows.FnExactReadAskSaid :=
  OpenClaim.holds_of_cond 3 Tryd.f3 rfl rfl rfl rfl rfl rfl rfl ⟨rfl, rfl, rfl, rfl, rfl⟩ rfl rfl rfl rfl rfl (by kernel_rfl) Tryd.func3 (by kernel_rfl)
    (of_decide_eq_true (by kernel_rfl)) (by unfold Func.isWrapper; first | (rw [if_pos (by decide +kernel)]; kernel_rfl) | (rw [if_neg (by decide +kernel)]; exact ⟨rfl, rfl⟩))
    (fun os started H enc _ F => by rw [OpenClaim.pre_eq_preRow]; exact lifted os started H enc F)

theorem plain (f : FuncId) (fn : Func) (hf : Tryd.pinned.checked.prog.funcNamed "loop.example/g00159/laws.FnExactReadAsk" = some f) (hfn : Tryd.pinned.checked.prog.funcs[f]? = some fn) :
    false = Tryd.pinned.checked.prog.looks [] ∧ ∀ (j : Nat) t, fn.params[j]? = some t → Tryd.pinned.checked.prog.wantsStandIn t = false := by
  obtain rfl : f = 3 := Option.some.inj ((show Tryd.prog.funcNamed "loop.example/g00159/laws.FnExactReadAsk" = some 3 by kernel_rfl).symm.trans hf) |>.symm
  obtain rfl : fn = Tryd.f3 := (Option.some.inj (Tryd.func3.symm.trans hfn)).symm
  refine ⟨by kernel_rfl, fun j t ht => ?_⟩
  rw [Tryd.params3] at ht
  have ht' : t = 28 ∨ t = 9 := by simpa using Array.mem_of_getElem? ht
  rcases ht' with rfl | rfl
  · exact (show Tryd.prog.wantsStandIn 28 = false by kernel_rfl)
  · exact (show Tryd.prog.wantsStandIn 9 = false by kernel_rfl)
end Go.Proofs.YtmjncdilgghggaaDoor.fnExactReadAsk
namespace Go.Proofs.YtmjncdilgghggaaDoor
theorem fnExactReadAsk_holds : Rows.FnExactReadAskCardSaid :=
  Claim7.holds_tied_plain_at .later [] _ _ _ _ fnExactReadAsk.said (fun _ h => by cases h) (by kernel_rfl) (fun _ h => by cases h) fnExactReadAsk_row_tie rfl ⟨rfl, rfl⟩ (by kernel_rfl) rfl fnExactReadAsk.plain (by kernel_rfl)
end Go.Proofs.YtmjncdilgghggaaDoor
