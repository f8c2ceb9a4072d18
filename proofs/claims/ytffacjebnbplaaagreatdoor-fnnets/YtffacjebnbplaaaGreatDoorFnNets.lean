/- For all codes: the text of the network drawn out of them, behind a remark, is read as a network of the same text; the library's tables are as their initialisers lay them. -/
import Derived.Test.YtffacjebnbplaaaGreatDoorReadNetI
import Derived.Test.YtffacjebnbplaaaGreatDoorNetTextImpl
import Derived.Test.YtffacjebnbplaaaGreatDoorNetTextSpec
import Derived.Test.YtffacjebnbplaaaGreatDoorNetOKImpl
import Derived.Test.YtffacjebnbplaaaGreatDoorNetOKSpec
import Derived.Test.YtffacjebnbplaaaGreatDoorPart43
import Derived.Test.YtffacjebnbplaaaGreatDoorCards
import Derived.Test.YtffacjebnbplaaaGreatDoorTie
import Derived.OpenVars
import Derived.SevenTiedAt
import Derived.Deep.DeepHandedRow
import Derived.Lib.LaidTab
import Derived.LaidSub
import Derived.Shelf.Vars
namespace Go.Proofs.YtffacjebnbplaaaGreatDoor.fnNets
open Go.ChangeShapes Go.WideShapes Go.ChangeAt Go.RowKit Go.Deep Go.Joins base args byteArgs netSem netLines netBytes netImpl netOKImpl netOKSpec netTextImpl netTextSpec netMath netOf source askWords readMath readLine readNetI
set_option linter.unusedVariables false
set_option linter.unusedSimpArgs false

set_option maxHeartbeats 1600000 in
theorem text_spec (p : Nat → Option Addr) (l c : Nat → Nat) (s : Ss) (g : netSem.R) (o e : List Int) (x f : netSem.R) (w : World) (h : NetIs w p l s g o e x f) (hc0 : l 0 ≤ c 0) (hc1 : l 1 ≤ c 1) (hB : netB l s g o e x f = true) :
    Calls Tryz.prog 6 #[netV p l c] w fun e' w' => e' = .returned (.tuple #[.string ⟨(netL l s g o e x f).toArray⟩, .int .i64 0]) ∧ Below w.heap.size w w' := by
  have HN := hid h
  have K0 := hid hc0
  have K1 := hid hc1
  clear h hc0 hc1
  have HL := hid (fun w8 h8 => lines_spec p l c s g o e x f w8 h8 hB)
  generalize netL l s g o e x f = tb at *
  unfold netV at HL
  unfold netV
  go_enter Tryz.func6, Tryz.ntmps6
  go_wp2_with fail
  refine (netOK_spec p l c s g o e x f _ (HN.out.below (by repeat (first | exact Below.refl _ _ | assumption | refine Below.drew ?_ | refine Below.alloc ?_ (by first | exact Nat.le_refl _ | omega | (simp; done) | (simp; omega)) _ | refine Below.setCell ?_ (by first | exact Nat.le_refl _ | omega | (simp; done) | (simp; omega)) _))) K0.out K1.out).mono ?_
  rintro e' w1 ⟨rfl, hb1⟩
  have B1 := hid ((show Below w.heap.size w _ from (by repeat (first | exact Below.refl _ _ | assumption | refine Below.drew ?_ | refine Below.alloc ?_ (by first | exact Nat.le_refl _ | omega | (simp; done) | (simp; omega)) _ | refine Below.setCell ?_ (by first | exact Nat.le_refl _ | omega | (simp; done) | (simp; omega)) _))).trans (hb1.mono (by simp)))
  have c0 : w1.cell? ⟨w.heap.size, 0, none⟩ = some (.slice (p 0) (l 0) (c 0)) := keep hb1 (by simp [go_sem])
  have c1 : w1.cell? ⟨w.heap.size, 1, none⟩ = some (.slice (p 1) (l 1) (c 1)) := keep hb1 (by simp [go_sem])
  have c2 : w1.cell? ⟨w.heap.size, 2, none⟩ = some (.slice (p 2) (l 2) (c 2)) := keep hb1 (by simp [go_sem])
  have c3 : w1.cell? ⟨w.heap.size, 3, none⟩ = some (.slice (p 3) (l 3) (c 3)) := keep hb1 (by simp [go_sem])
  have c4 : w1.cell? ⟨w.heap.size, 4, none⟩ = some (.slice (p 4) (l 4) (c 4)) := keep hb1 (by simp [go_sem])
  have c5 : w1.cell? ⟨w.heap.size, 5, none⟩ = some (.slice (p 5) (l 5) (c 5)) := keep hb1 (by simp [go_sem])
  clear hb1
  rw [hB]
  go_wp2_with fail
  refine (HL.out _ (HN.out.below B1.out)).mono ?_
  rintro e' w2 ⟨rfl, hb2⟩
  have B2 := hid (B1.out.trans (hb2.mono B1.out.size))
  clear hb2
  go_wp2
  go_ret2
  exact ⟨rfl, B2.out⟩
theorem ba_of2 {a : ByteArray} {L : List UInt8} (h : a.data.toList = L) : a = piece L := by rw [← h]; rfl
def remB : ByteArray := ⟨#[35, 32, 97, 32, 114, 101, 109, 97, 114, 107, 10]⟩
theorem remark_text (L : List UInt8) : remB ++ (⟨L.toArray⟩ : ByteArray) = piece (remT ++ 10 :: L) := by
  refine ba_of2 ?_
  rw [ba_add]
  rfl
theorem ba_size (L : List UInt8) : (⟨L.toArray⟩ : ByteArray).size = L.length := by simp [ByteArray.size]
set_option maxHeartbeats 6400000 in
set_option maxRecDepth 8000 in
theorem walk (a0 : Option Addr) (len0 cap0 : Nat) (w : World) (hby0 : Bytes w a0 len0) (hm0 : len0 ≤ maxLen) (ht : TabW w) (m : Int) (hm : w.cell? ⟨0, 0, none⟩ = some (.int .i64 m)) :
    Calls Tryz.prog 3 #[.slice a0 len0 cap0] w fun e w' => e = .returned (.bool true) ∧ Below w.heap.size w w' := by
  unfold maxLen at hm0
  have HBy0 := hid hby0
  have HT := hid ht
  have HM := hid hm
  clear hby0 ht hm
  by_cases h0 : 1048576 < len0
  · go_enter Tryz.func3, Tryz.ntmps3
    go_wp2
    go_ret
    exact ⟨rfl, (by repeat (first | exact Below.refl _ _ | assumption | refine Below.drew ?_ | refine Below.alloc ?_ (by first | exact Nat.le_refl _ | omega | (simp; done) | (simp; omega)) _ | refine Below.setCell ?_ (by first | exact Nat.le_refl _ | omega | (simp; done) | (simp; omega)) _))⟩
  have hl0 : len0 ≤ 1048576 := by omega
  have hl0' : (len0 : Int) ≤ 1048576 := by omega
  go_enter Tryz.func3, Tryz.ntmps3
  go_wp2_with fail
  refine (netOf_spec a0 len0 cap0 _ HBy0.out hl0).mono ?_
  rintro e9 w1 ⟨p, l, c, g, o, e, x, f, rfl, hN, hB, ⟨hc0, hc1⟩, hb1⟩
  have HB1 := hid hb1
  have HN := hid hN
  have hF := facts hB
  have hG := good hB
  have hts := text_short hF hG
  have hlo := hN.origins.length
  have hle := hN.externals.length
  have hr1 : 1 ≤ l 0 := by
    have h9 := hB
    simp only [netB, routersB, Bool.and_eq_true] at h9
    have := in_of h9.1.1.1.1.1.1.1
    omega
  have HTx : Hid (∀ w8, Below w1.heap.size w1 w8 → Calls Tryz.prog 5 #[netV p l c] w8 fun e' w' => e' = .returned (.tuple #[.string ⟨(netL l sN g o e x f).toArray⟩, .int .i64 0]) ∧ Below w8.heap.size w8 w') := hid (fun w8 hb => text_impl_good p l c sN g o e x f w8 (hN.below hb) hc0 hc1 hB (HT.out.below (hb1.trans (hb.mono hb1.size))))
  have HSp : Hid (∀ w8, Below w1.heap.size w1 w8 → Calls Tryz.prog 6 #[netV p l c] w8 fun e' w' => e' = .returned (.tuple #[.string ⟨(netL l sN g o e x f).toArray⟩, .int .i64 0]) ∧ Below w8.heap.size w8 w') := hid (fun w8 hb => text_spec p l c sN g o e x f w8 (hN.below hb) hc0 hc1 hB)
  have HOk : Hid (∀ w8, Below w1.heap.size w1 w8 → Calls Tryz.prog 8 #[netV p l c] w8 fun e' w' => e' = .returned (.bool true) ∧ Below w8.heap.size w8 w') := hid (fun w8 hb => by
    have h9 := netOK_impl p l c sN g o e x f w8 (hN.below hb) hc0 hc1
    rw [hB] at h9
    exact h9)
  have HRd : Hid (∀ w8, Below w1.heap.size w1 w8 → Calls Tryz.prog 7 #[.string (remB ++ (⟨(netL l sN g o e x f).toArray⟩ : ByteArray))] w8 fun e' w' => ∃ p2 c2, e' = .returned (.tuple #[netV p2 l c2, .int .i64 0, .int .i64 0]) ∧ (∀ w9, Below w'.heap.size w' w9 → Calls Tryz.prog 5 #[netV p2 l c2] w9 fun e' w' => e' = .returned (.tuple #[.string ⟨(netL l sN g o e x f).toArray⟩, .int .i64 0]) ∧ Below w9.heap.size w9 w') ∧ Below w8.heap.size w8 w') := hid (fun w8 hb => by
    rw [remark_text]
    have hbw := hb1.trans (hb.mono hb1.size)
    refine (read_net hF hG hr1 hlo hle m w8 (keep hbw HM.out)).mono ?_
    rintro e' w' ⟨p2, c2, rfl, hN2, ⟨q0, q1⟩, hb2⟩
    exact ⟨p2, c2, rfl, fun w9 hb9 => text_impl_good p2 l c2 sN g o e x f w9 (hN2.below hb9) q0 q1 hB (HT.out.below ((hbw.trans (hb2.mono hbw.size)).trans (hb9.mono (Nat.le_trans hbw.size hb2.size)))), hb2⟩)
  have hsz : ¬ (9223372036854775807 < remB.size + (⟨(netL l sN g o e x f).toArray⟩ : ByteArray).size) := by
    have q1 := ba_size (netL l sN g o e x f)
    have q2 : remB.size = 11 := rfl
    rw [q1, q2]
    omega
  obtain ⟨TX, hTX⟩ : ∃ t, (⟨(netL l sN g o e x f).toArray⟩ : ByteArray) = t := ⟨_, rfl⟩
  rw [hTX] at HTx HSp HRd hsz
  have qx : (TX.toList == TX.toList) = true := by simp
  clear hTX hF hG hB hts hlo hle hr1 hN hb1
  unfold netV at HTx HSp HOk
  unfold netV
  have HB2 : Hid (Below w1.heap.size w1 (w1.alloc (.cells #[.slice (p 0) (l 0) (c 0), .slice (p 1) (l 1) (c 1), .slice (p 2) (l 2) (c 2), .slice (p 3) (l 3) (c 3), .slice (p 4) (l 4) (c 4), .slice (p 5) (l 5) (c 5)] 29))) := (by repeat (first | exact Below.refl _ _ | assumption | refine Below.drew ?_ | refine Below.alloc ?_ (by first | exact Nat.le_refl _ | omega | (simp; done) | (simp; omega)) _ | refine Below.setCell ?_ (by first | exact Nat.le_refl _ | omega | (simp; done) | (simp; omega)) _))
  have HZ2 : Hid ((w1.alloc (.cells #[.slice (p 0) (l 0) (c 0), .slice (p 1) (l 1) (c 1), .slice (p 2) (l 2) (c 2), .slice (p 3) (l 3) (c 3), .slice (p 4) (l 4) (c 4), .slice (p 5) (l 5) (c 5)] 29)).heap[w1.heap.size]? = some (.cells #[.slice (p 0) (l 0) (c 0), .slice (p 1) (l 1) (c 1), .slice (p 2) (l 2) (c 2), .slice (p 3) (l 3) (c 3), .slice (p 4) (l 4) (c 4), .slice (p 5) (l 5) (c 5)] 29 (0, 0))) := heap_alloc_new w1 _
  go_wp2_with fail
  generalize w1.alloc (.cells #[.slice (p 0) (l 0) (c 0), .slice (p 1) (l 1) (c 1), .slice (p 2) (l 2) (c 2), .slice (p 3) (l 3) (c 3), .slice (p 4) (l 4) (c 4), .slice (p 5) (l 5) (c 5)] 29) = w2 at *
  refine (HTx.out w2 HB2.out).mono ?_
  rintro e9 w3 ⟨rfl, hb3⟩
  have HB3 : Hid (Below w1.heap.size w1 w3) := HB2.out.trans (hb3.mono HB2.out.size)
  have HZ3 := hid ((hb3.block _ (Array.getElem?_eq_some_iff.1 HZ2.out).1).trans HZ2.out)
  clear hb3 HZ2 HB2
  have r0 := readDeed.cell_in HZ3.out 0
  have r1 := readDeed.cell_in HZ3.out 1
  have r2 := readDeed.cell_in HZ3.out 2
  have r3 := readDeed.cell_in HZ3.out 3
  have r4 := readDeed.cell_in HZ3.out 4
  have r5 := readDeed.cell_in HZ3.out 5
  simp only [List.getElem?_toArray, List.getElem?_cons_zero, List.getElem?_cons_succ] at r0 r1 r2 r3 r4 r5
  go_wp2_with fail
  refine (HSp.out w3 HB3.out).mono ?_
  rintro e9 w4 ⟨rfl, hb4⟩
  have HB4 : Hid (Below w1.heap.size w1 w4) := HB3.out.trans (hb4.mono HB3.out.size)
  have HZ4 := hid ((hb4.block _ (Array.getElem?_eq_some_iff.1 HZ3.out).1).trans HZ3.out)
  clear hb4 HZ3 HB3 r0 r1 r2 r3 r4 r5
  go_wp2_with fail
  refine (HRd.out w4 HB4.out).mono ?_
  rintro e9 w5 ⟨p2, c2, rfl, hNt, hb5⟩
  have HNt := hid hNt
  have HB5 : Hid (Below w1.heap.size w1 w5) := HB4.out.trans (hb5.mono HB4.out.size)
  have HZ5 := hid ((hb5.block _ (Array.getElem?_eq_some_iff.1 HZ4.out).1).trans HZ4.out)
  clear hb5 HZ4 HB4 hNt HRd
  unfold netV at HNt
  unfold netV
  have HBa : Hid (Below w5.heap.size w5 (w5.alloc (.cells #[.slice (p2 0) (l 0) (c2 0), .slice (p2 1) (l 1) (c2 1), .slice (p2 2) (l 2) (c2 2), .slice (p2 3) (l 3) (c2 3), .slice (p2 4) (l 4) (c2 4), .slice (p2 5) (l 5) (c2 5)] 29))) := (by repeat (first | exact Below.refl _ _ | assumption | refine Below.drew ?_ | refine Below.alloc ?_ (by first | exact Nat.le_refl _ | omega | (simp; done) | (simp; omega)) _ | refine Below.setCell ?_ (by first | exact Nat.le_refl _ | omega | (simp; done) | (simp; omega)) _))
  go_wp2_with fail
  generalize w5.alloc (.cells #[.slice (p2 0) (l 0) (c2 0), .slice (p2 1) (l 1) (c2 1), .slice (p2 2) (l 2) (c2 2), .slice (p2 3) (l 3) (c2 3), .slice (p2 4) (l 4) (c2 4), .slice (p2 5) (l 5) (c2 5)] 29) = w6 at *
  refine (HNt.out w6 HBa.out).mono ?_
  rintro e9 w7 ⟨rfl, hb7⟩
  have HB6 : Hid (Below w1.heap.size w1 w6) := HB5.out.trans (HBa.out.mono HB5.out.size)
  have HB7 : Hid (Below w1.heap.size w1 w7) := HB6.out.trans (hb7.mono HB6.out.size)
  have hZ6 := (HBa.out.block _ (Array.getElem?_eq_some_iff.1 HZ5.out).1).trans HZ5.out
  have HZ7 := hid ((hb7.block _ (Array.getElem?_eq_some_iff.1 hZ6).1).trans hZ6)
  clear hb7 HZ5 HB5 hZ6 HB6 HBa HNt
  have r0 := readDeed.cell_in HZ7.out 0
  have r1 := readDeed.cell_in HZ7.out 1
  have r2 := readDeed.cell_in HZ7.out 2
  have r3 := readDeed.cell_in HZ7.out 3
  have r4 := readDeed.cell_in HZ7.out 4
  have r5 := readDeed.cell_in HZ7.out 5
  simp only [List.getElem?_toArray, List.getElem?_cons_zero, List.getElem?_cons_succ] at r0 r1 r2 r3 r4 r5
  go_wp2_with fail
  refine (HOk.out w7 HB7.out).mono ?_
  rintro e9 w8 ⟨rfl, hb8⟩
  have HB8 : Hid (Below w1.heap.size w1 w8) := HB7.out.trans (hb8.mono HB7.out.size)
  clear hb8 r0 r1 r2 r3 r4 r5
  go_wp2
  go_ret
  exact ⟨rfl, HB1.out.trans (HB8.out.mono HB1.out.size)⟩
theorem own : ownKnob Tryz.prog.godebug = none := by kernel_rfl
theorem laidOut : laidOutB Tryz.prog = true := by kernel_rfl

/- The library's tables as their initialisers lay them. -/
def b64Ints : List Int := [0, 1, 56, 2, 57, 49, 28, 3, 61, 58, 42, 50, 38, 29, 17, 4, 62, 47, 59, 36, 45, 43, 51, 22, 53, 39, 33, 30, 24, 18, 12, 5, 63, 55, 48, 27, 60, 41, 37, 16, 46, 35, 44, 21, 52, 32, 23, 11, 54, 26, 40, 15, 34, 20, 31, 10, 25, 14, 19, 9, 13, 8, 7, 6]
def laidAs (l : List Value) : Obj → Obj
  | .cells _ t frozen => .cells l.toArray t frozen
  | o => o
def b32Tab : List Value := ([0, 1, 28, 2, 29, 14, 24, 3, 30, 22, 20, 15, 25, 17, 4, 8, 31, 27, 13, 23, 21, 19, 16, 7, 26, 12, 18, 6, 11, 5, 10, 9] : List Int).map (Value.int .u8)
def gB32 : Nat := 4
def b64Tab : List Value := b64Ints.map (Value.int .u8)
def gB64 : Nat := 5
def powTab : List Value := Lib.pow10Tab.map (Value.int .u64)
def gPow : Nat := 1
def accTab : List Value := ([128, 191, 160, 191, 128, 159, 144, 191, 128, 143, 0, 0, 0, 0, 0, 0, 0, 0, 0, 0, 0, 0, 0, 0, 0, 0, 0, 0, 0, 0, 0, 0] : List Int).map (Value.int .u8)
def gAcc : Nat := 3
def firstTab : List Value := Pinned.utf8FirstZ.map fun n : Nat => Value.int .u8 (n : Int)
def gFirst : Nat := 2
theorem max_len {W : World} (h : W.ShapedOpen Tryz.prog) : ∃ m, W.cell? ⟨0, 0, none⟩ = some (.int .i64 m) :=
  cell_of_shapedOpen_int (t := 3) (zero := #[.int .i64 0]) h (of_decide_eq_true (by kernel_rfl)) (by kernel_rfl) rfl (by kernel_rfl) (by kernel_rfl) Tryz.underlying3
theorem powtab {W : World} (h : laidMetH Tryz.prog Rows.fnNetsRow.laid W) : TabW W := by
  have h1 := h.filter (fun x => x.1 == "internal/strconv.uint64pow10")
  have h2 : laidMet Tryz.prog [("internal/strconv.uint64pow10", Lib.tabData .u64 Lib.pow10Tab)] W := h1
  exact Lib.tabIs_of_head (g := 1) (t := 140) (e := 131) (n := 20) (by kernel_rfl) (by kernel_rfl) Tryz.underlying140 Tryz.underlying131 (by kernel_rfl) (by kernel_rfl) h2
theorem laid_met (os : Os) : laidMet Tryz.prog Rows.fnNetsRow.laid (({ World.holding Tryz.prog os ⟨#[], #[], []⟩ with heap := ((((((World.holding Tryz.prog os ⟨#[], #[], []⟩).heap.modify gB32 (laidAs b32Tab)).modify gB64 (laidAs b64Tab)).modify gPow (laidAs powTab)).modify gAcc (laidAs accTab)).modify gFirst (laidAs firstTab)) } : World).forCall (fun _ _ => 0) ⟨#[], #[.slice none 0 0], []⟩).memory :=
  laidMet_of_run' 8 (by kernel_rfl) (by kernel_rfl)
theorem reads (os : Os) {H : Type} (enc : TypeId × Value → H) : ∃ places, DataW.whole enc Tryz.prog (({ World.holding Tryz.prog os ⟨#[], #[], []⟩ with heap := ((((((World.holding Tryz.prog os ⟨#[], #[], []⟩).heap.modify gB32 (laidAs b32Tab)).modify gB64 (laidAs b64Tab)).modify gPow (laidAs powTab)).modify gAcc (laidAs accTab)).modify gFirst (laidAs firstTab)) } : World).forCall (fun _ _ => 0) ⟨#[], #[.slice none 0 0], []⟩).memory Tryz.f3.params.toList Rows.fnNetsSpec.vars false #[Value.slice none 0 0].toList 8 = some ([.nil], [], places) :=
  ⟨[], by kernel_rfl⟩

set_option maxRecDepth 100000 in
theorem contract (H : Type) (enc : TypeId × Value → H) (W : World) (base : Nat) (args : Array Value) (ds gs : List (DataW H)) (before : List MemPlace)
    (hval : ∀ (j : Nat) t v, Tryz.f3.params[j]? = some t → args[j]? = some v → Value.okWide Tryz.prog W .any base t v)
    (hW : DataW.Whole enc Tryz.prog Tryz.f3.params.toList Rows.fnNetsSpec.vars false W args.toList ds gs before) (hL : laidMetH Tryz.prog Rows.fnNetsRow.laid W) (hsh : W.ShapedOpen Tryz.prog) :
    Calls Tryz.prog 3 args W fun e W' => ∃ v, e = .returned v ∧ Rows.fnNetsSpec.post enc Tryz.prog Tryz.f3 false true false false W args v W' := by
  have hW' := hW
  obtain ⟨p, q, hA0, hV, rfl, hfz, hnd⟩ := hW
  have hA : DataW.TrodAll enc Tryz.prog W 0 (fun _ => true) true Tryz.f3.params.toList args.toList ds p := hA0
  rw [Tryz.params3] at hA hval
  obtain ⟨v0, vs0, d0, ds0, p0, q0, hargs, rfl, rfl, h0, r0⟩ := trodAll_cons hA
  obtain ⟨rfl, rfl, rfl⟩ := trodAll_nil r0
  obtain rfl : args = #[v0] := by cases args; simp_all
  obtain ⟨rfl, rfl⟩ := trodVars_none hV
  have k0 := h0
  have lt0 : ∀ x ∈ p0, x.block < W.heap.size := by obtain ⟨m, hm⟩ := k0; exact DataW.trod_lt m _ _ _ hm
  obtain ⟨a0, la0, ca0, rfl⟩ := okWide_slice Tryz.underlying22 (hval 0 22 v0 rfl rfl)
  have hba0 : source.Bytes W a0 la0 ∧ la0 ≤ maxLen := by
    obtain ⟨fuel, hf⟩ := h0
    obtain ⟨a', l', c', e, hb⟩ := bytes_of_trod Tryz.underlying22 Tryz.underlying5 (by kernel_rfl) (by simpa [Value.cells] using hf)
    cases e
    exact hb
  obtain ⟨m, hm⟩ := max_len hsh
  clear hA0
  refine (walk a0 la0 ca0 W hba0.1 hba0.2 (powtab hL) m hm).mono fun e W' ⟨he, bel⟩ => ?_
  subst he
  exact ⟨_, rfl, _, _, _, [], _, [], hW', trodAll_mk1 (shut_bool Tryz.underlying4 _), (trodAll_cons_mk (Below.trod laidOut (by kernel_rfl) (of_decide_eq_true (by kernel_rfl)) k0 bel lt0) trodAll_mk0), rfl, bel.frame _, fun h => by cases h⟩

set_option maxRecDepth 100000 in
theorem lifted (os : Os) (started : os.Started) (H : Type) (enc : TypeId × Value → H) (F : Stop.Interp) :
    ReturnsInHanded {} Tryz.checked os 3 .any ((OpenSpec.ofChange Rows.fnNetsSpec).preRow enc Tryz.prog Tryz.f3 Rows.fnNetsRow.domain false Rows.fnNetsRow.laid) (((OpenSpec.ofChange Rows.fnNetsSpec).at F).post enc Tryz.prog Tryz.f3 false true false false) := by
  obtain ⟨places, hx⟩ := reads os enc
  refine returnsInHanded_of_row (C := Tryz.checked) (s := OpenSpec.ofChange Rows.fnNetsSpec) own started (by kernel_rfl) Tryz.func3
    (witness_row_at (enc := enc) (C := Tryz.checked) false ({ World.holding Tryz.prog os ⟨#[], #[], []⟩ with heap := ((((((World.holding Tryz.prog os ⟨#[], #[], []⟩).heap.modify gB32 (laidAs b32Tab)).modify gB64 (laidAs b64Tab)).modify gPow (laidAs powTab)).modify gAcc (laidAs accTab)).modify gFirst (laidAs firstTab)) } : World) #[.slice none 0 0] rfl (by kernel_rfl) (by kernel_rfl) (by kernel_rfl)
      (OpenSpec.preRow_of_cond 8 hx (by kernel_rfl) (fun k hk => by cases hk) (by kernel_rfl) (laid_met os))) ?_
  intro W base args ds gs before hval hW _ _ _ hL hsh _
  exact contract H enc W base args ds gs before hval hW hL hsh

theorem said : Rows.FnNetsSaid :=
  OpenClaim.holds_of_cond 3 Tryz.f3 rfl rfl rfl rfl rfl rfl rfl ⟨rfl, rfl, rfl, rfl, rfl⟩ rfl rfl rfl rfl rfl (by kernel_rfl) Tryz.func3 (by kernel_rfl)
    (of_decide_eq_true (by kernel_rfl)) (by unfold Func.isWrapper; first | (rw [if_pos (by decide +kernel)]; kernel_rfl) | (rw [if_neg (by decide +kernel)]; exact ⟨rfl, rfl⟩))
    (fun os started H enc _ F => by rw [OpenClaim.pre_eq_preRow]; exact lifted os started H enc F)

theorem plain (f : FuncId) (fn : Func) (hf : Tryz.pinned.checked.prog.funcNamed "loop.example/g00159/laws.FnNets" = some f) (hfn : Tryz.pinned.checked.prog.funcs[f]? = some fn) :
    false = Tryz.pinned.checked.prog.looks [] ∧ ∀ (j : Nat) t, fn.params[j]? = some t → Tryz.pinned.checked.prog.wantsStandIn t = false := by
  obtain rfl : f = 3 := Option.some.inj ((show Tryz.prog.funcNamed "loop.example/g00159/laws.FnNets" = some 3 by kernel_rfl).symm.trans hf) |>.symm
  obtain rfl : fn = Tryz.f3 := (Option.some.inj (Tryz.func3.symm.trans hfn)).symm
  refine ⟨by kernel_rfl, fun j t ht => ?_⟩
  rw [Tryz.params3] at ht
  obtain rfl : t = 22 := by
    have := Array.mem_of_getElem? ht
    simpa using this
  exact (show Tryz.prog.wantsStandIn 22 = false by kernel_rfl)
end Go.Proofs.YtffacjebnbplaaaGreatDoor.fnNets
namespace Go.Proofs.YtffacjebnbplaaaGreatDoor
theorem fnNets_holds : Rows.FnNetsCardSaid :=
  Claim7.holds_tied_plain_at .later [] _ _ _ _ fnNets.said (fun _ h => by cases h) (by kernel_rfl) (fun _ h => by cases h) fnNets_row_tie rfl ⟨rfl, rfl⟩ (by kernel_rfl) rfl fnNets.plain (by kernel_rfl)
end Go.Proofs.YtffacjebnbplaaaGreatDoor
