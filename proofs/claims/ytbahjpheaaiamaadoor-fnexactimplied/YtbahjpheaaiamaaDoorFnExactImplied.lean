/- For every formula and every clause Implied answers as its specification (yes or no, and the code); the arguments are as they were; the library's table is as its initialiser lays it, tied to the program's text; conditions: none. -/
import Derived.Test.YtbahjpheaaiamaaDoorPart48
import Derived.Test.YtbahjpheaaiamaaDoorCards
import Derived.Test.YtbahjpheaaiamaaDoorTie
import Derived.OpenVars
import Derived.SevenTiedAt
import Derived.Deep.DeepHandedRow
import Derived.Lib.LaidTab
import Derived.LaidSub
namespace Go.Proofs.YtbahjpheaaiamaaDoor.fnExactImplied
open Go.ChangeShapes Go.WideShapes Go.ChangeAt Go.RowKit Go.Deep Go.Joins base copy cnf args rowsOwn copyOwn solOps impFace
set_option linter.unusedVariables false
set_option linter.unusedSimpArgs false

set_option maxHeartbeats 6400000 in
set_option maxRecDepth 8000 in
theorem walk (vars : Int) (a : Option Addr) (len cap : Nat) (zss : List (List Int)) (b : Option Addr) (bl bc : Nat) (zs : List Int) (w : World) (hr : IntRows w a len zss) (hb : IntRow w b bl zs) (ht : Tab w) :
    Calls Tryd.prog 4 #[.agg #[.int .i64 vars, .slice a len cap], .slice b bl bc] w fun e w' => e = .returned (.bool true) ∧ Below w.heap.size w w' := by
  have hma := hb.most
  unfold maxLen at hma
  have HR := hid hr
  have HB := hid hb
  have HT := hid ht
  clear hr hb ht
  by_cases h1 : 1048576 < bl
  · go_enter Tryd.func4, Tryd.ntmps4
    go_wp2
    go_ret
    exact ⟨rfl, (by repeat (first | exact Below.refl _ _ | assumption | refine Below.drew ?_ | refine Below.alloc ?_ (by first | exact Nat.le_refl _ | omega | (simp; done) | (simp; omega)) _ | refine Below.setCell ?_ (by first | exact Nat.le_refl _ | omega | (simp; done) | (simp; omega)) _))⟩
  have hbl : bl ≤ 1048576 := by omega
  have HI := hid (fun a cap b bc w hr hb ht => imp_impl' vars a len cap zss b bl bc zs w hr hb ht)
  have hdB : decide (zs = zs) = true := decide_eq_true rfl
  clear h1
  go_enter Tryd.func4, Tryd.ntmps4
  go_wp2_with fail
  refine (szCnf_sum vars a len cap zss 1048576 _ ?_ (by omega) (by omega)).mono ?_
  · exact HR.out.below (by repeat (first | exact Below.refl _ _ | assumption | refine Below.drew ?_ | refine Below.alloc ?_ (by first | exact Nat.le_refl _ | omega | (simp; done) | (simp; omega)) _ | refine Below.setCell ?_ (by first | exact Nat.le_refl _ | omega | (simp; done) | (simp; omega)) _))
  rintro e w1 ⟨r, rfl, hb1, hr1, hr2, hr3⟩
  have H3 := hid hr3
  have hB1 := hid ((show Below w.heap.size w _ from (by repeat (first | exact Below.refl _ _ | assumption | refine Below.drew ?_ | refine Below.alloc ?_ (by first | exact Nat.le_refl _ | omega | (simp; done) | (simp; omega)) _ | refine Below.setCell ?_ (by first | exact Nat.le_refl _ | omega | (simp; done) | (simp; omega)) _))).trans (hb1.mono (by simp)))
  have b0 : w1.cell? ⟨w.heap.size, 0, none⟩ = some (.int .i64 vars) := keep hb1 (by simp [go_sem])
  have b1 : w1.cell? ⟨w.heap.size, 1, none⟩ = some (.slice a len cap) := keep hb1 (by simp [go_sem])
  have z1 : w.heap.size < w1.heap.size := by have := hb1.size; simp at this; omega
  clear hb1 hr3
  by_cases hneg : r < 0
  · go_wp2
    go_ret
    exact ⟨rfl, hB1.out⟩
  have hsz := hid (H3.out (by omega))
  clear H3
  have HLn := hid HR.out.length
  have HLen : Hid (len ≤ 1048576) := by have := hsz.out; show _ ≤ _; omega
  have HEach : Hid (∀ i, i < len → (zss[i]?.getD []).length ≤ 1048576) := fun i hi => by
    have h1 := at_le (ls := zss.map List.length) (i := i) (by rw [List.length_map, HLn.out]; exact hi)
    rw [List.getElem?_map] at h1
    have h2 : (zss[i]?.getD []).length = (Option.map List.length zss[i]?).getD 0 := by cases zss[i]? <;> rfl
    have := hsz.out
    omega
  have HSmall : Hid ((len : Int) ≤ 1048576 ∧ ∀ i, i < len → ((zss[i]?.getD []).length : Int) ≤ 1048576) := ⟨by have := HLen.out; omega, fun i hi => by have := HEach.out i hi; omega⟩
  have HSum : Hid (1 + ((zss.map List.length).sum : Nat) ≤ (1048576 : Int)) := by
    have h1 := hsz.out
    show _ ≤ _
    by_cases h0 : len = 0
    · have : zss = [] := List.length_eq_zero_iff.1 (by rw [HLn.out]; exact h0)
      subst this
      simp
    · omega
  have HS : Hid (∀ (W : World) (N : Nat) (b : Option Addr) (bc : Nat), Copied W N zss → IntRow W b bl zs → Calls Tryd.prog 14 #[.agg #[.int .i64 vars, .slice (some ⟨N, 0, none⟩) len len], .slice b bl bc] W fun e w' => ∃ (t : Bool) (c : Int), e = .returned (.tuple #[.bool t, .int .i64 c]) ∧ ImpAns vars zss zs t c ∧ Below W.heap.size W w') := hid (fun W N b bc hq hb9 => by
    have ho := (copied_own (B := 0) hq (Nat.zero_le _) (by rw [HLn.out]; have := HLen.out; unfold maxLen; omega) (fun i hi => by have := HEach.out i (by rw [← HLn.out]; exact hi); unfold maxLen; omega)).1
    rw [HLn.out] at ho
    exact imp_spec' 0 vars (some ⟨N, 0, none⟩) len len (copiedPs N zss) zss (copiedPs_snd N zss) b bl bc zs W ho hb9)
  go_wp2_with fail
  refine (toCnf vars a len cap zss _ (HR.out.below hB1.out) HLen.out HEach.out).mono ?_
  rintro e w2 ⟨N2, rfl, hN2, hb2, hc2⟩
  have HC2 := hid hc2
  replace b0 := keep hb2 b0
  replace b1 := keep hb2 b1
  have hB2 := hid (hB1.out.trans (hb2.mono hB1.out.size))
  have z2 : w.heap.size < w2.heap.size := by have := hb2.size; omega
  clear hb2 hc2 z1 hB1
  go_wp2_with fail
  refine (toIntN b bl bc zs _ (HB.out.below hB2.out) hbl).mono ?_
  rintro e w3 ⟨N3, rfl, hn3, hb3, hc3, hr3⟩
  have hB3 := hid (hB2.out.trans (hb3.mono hB2.out.size))
  have HC3 := hid (HC2.out.below hb3)
  have R3 := hid hr3
  replace b0 := keep hb3 b0
  replace b1 := keep hb3 b1
  have z3 : w.heap.size < w3.heap.size := by have := hb3.size; omega
  clear hb3 hc3 hr3 HC2 hB2 z2
  go_wp2_with fail
  refine (HS.out _ _ _ _ HC3.out R3.out).mono ?_
  rintro e w4 ⟨t, c, rfl, ha4, hb4⟩
  have hB4 := hid (hB3.out.trans (hb4.mono hB3.out.size))
  have HA4 := hid ha4
  replace b0 := keep hb4 b0
  replace b1 := keep hb4 b1
  have z4 : w.heap.size < w4.heap.size := by have := hb4.size; omega
  have HF0 := hid b0
  have HF1 := hid b1
  clear ha4 hb4 hB3 HC3 R3 z3
  go_wp2_with fail
  refine (toCnf vars a len cap zss _ (HR.out.below hB4.out) HLen.out HEach.out).mono ?_
  rintro e w5 ⟨N5, rfl, hN5, hb5, hc5⟩
  replace b0 := keep hb5 b0
  replace b1 := keep hb5 b1
  have HC5 := hid hc5
  have HN5 := hid hN5
  have z45 : w4.heap.size < w5.heap.size := by
    obtain ⟨c, hh, _⟩ := hc5.outer
    have := (Array.getElem?_eq_some_iff.1 hh).1
    omega
  have hB5 := hid (hB4.out.trans (hb5.mono hB4.out.size))
  have K5 := hid hb5
  have z5 : w.heap.size < w5.heap.size := by omega
  have HCl := hid (copied_lt hc5)
  clear hb5 hc5 hN5
  go_wp2_with fail
  refine (toIntN b bl bc zs _ ?_ hbl).mono ?_
  · exact HB.out.below (hB5.out.trans (show Below w.heap.size w5 _ from (by repeat (first | exact Below.refl _ _ | assumption | refine Below.drew ?_ | refine Below.alloc ?_ (by first | exact Nat.le_refl _ | omega | (simp; done) | (simp; omega)) _ | refine Below.setCell ?_ (by first | exact Nat.le_refl _ | omega | (simp; done) | (simp; omega)) _))))
  rintro e w6 ⟨N6, rfl, hn6, hb6, hc6, hr6⟩
  have hb56 : Below w5.heap.size w5 w6 := (show Below w5.heap.size w5 _ from (by repeat (first | exact Below.refl _ _ | assumption | refine Below.drew ?_ | refine Below.alloc ?_ (by first | exact Nat.le_refl _ | omega | (simp; done) | (simp; omega)) _ | refine Below.setCell ?_ (by first | exact Nat.le_refl _ | omega | (simp; done) | (simp; omega)) _))).trans (hb6.mono (by simp))
  have x0 : w6.cell? ⟨w5.heap.size, 0, none⟩ = some (.int .i64 vars) := keep hb6 (by simp [go_sem])
  have x1 : w6.cell? ⟨w5.heap.size, 1, none⟩ = some (.slice (some ⟨N5, 0, none⟩) len len) := keep hb6 (by simp [go_sem])
  have hn6' : w5.heap.size + 1 ≤ N6 := by simpa using hn6
  have z56 : w5.heap.size < w6.heap.size := by have := hb6.size; simp at this; omega
  have K6 := hid (K5.out.trans (hb56.mono K5.out.size))
  have HC6 := hid (HC5.out.below hb56)
  have O6 := hid (own_of_row (B := w5.heap.size + 1) hc6 HB.out.length hn6' (by unfold maxLen; omega))
  have L6 := hid (own_lt (g := N6) O6.out rfl).2
  have HN6 := hid hn6'
  have R6 := hid hr6
  have HB4 := hB4
  replace b0 := keep hb56 b0
  replace b1 := keep hb56 b1
  clear hn6 hb6 hc6 hr6 hb56 hn6' HC5 hB5
  go_wp2_with fail
  refine (HI.out _ _ _ _ _ (HC6.out.rowsLen HLn.out HSmall.out) R6.out (tab_below HT.out (hB4.out.trans (K6.out.mono hB4.out.size)))).mono ?_
  rintro e w8 ⟨t', c', rfl, ha8, hb8⟩
  obtain ⟨rfl, rfl⟩ := HA4.out.uniq ha8
  have hqt : (t != t) = false := by simp
  have hqc : (c != c) = false := by simp
  have K8 := hid (K6.out.trans (hb8.mono K6.out.size))
  have HC8 := hid (HC6.out.below hb8)
  have O8 := hid (O6.out.below hb8)
  have hB8 := hid (hB4.out.trans (K8.out.mono hB4.out.size))
  replace b0 := keep hb8 b0
  replace b1 := keep hb8 b1
  replace x0 := keep hb8 x0
  replace x1 := keep hb8 x1
  have z78 : w6.heap.size ≤ w8.heap.size := hb8.size
  clear hb8 ha8 HC6 O6 R6 K5 K6
  go_wp2_with fail
  have HK8 : Hid (∀ w8' : World, Below w8.heap.size w8 w8' → w8'.cell? ⟨w5.heap.size, 0, none⟩ = some (.int .i64 vars) ∧ w8'.cell? ⟨w5.heap.size, 1, none⟩ = some (.slice (some ⟨N5, 0, none⟩) len len) ∧ w8'.cell? ⟨w.heap.size, 0, none⟩ = some (.int .i64 vars) ∧ w8'.cell? ⟨w.heap.size, 1, none⟩ = some (.slice a len cap) ∧ Below w8.heap.size w8 w8') := fun w8' h => ⟨keep h x0, keep h x1, keep h b0, keep h b1, h⟩
  go_region_held3 (fun w8' => w8'.cell? ⟨w5.heap.size, 0, none⟩ = some (.int .i64 vars) ∧ w8'.cell? ⟨w5.heap.size, 1, none⟩ = some (.slice (some ⟨N5, 0, none⟩) len len) ∧ w8'.cell? ⟨w.heap.size, 0, none⟩ = some (.int .i64 vars) ∧ w8'.cell? ⟨w.heap.size, 1, none⟩ = some (.slice a len cap) ∧ Below w8.heap.size w8 w8')
    (refine HK8.out _ (by first | assumption | exact (Below.refl _ w8).drew | exact hb9' | exact hb810))
    (first
      | (go_at_call 7; refine (toCnf vars a len cap zss _ (HR.out.below hB8.out.drew) HLen.out HEach.out).mono ?_; rintro e w9 ⟨N9, rfl, hN9, hb9, hc9⟩; have hb9' : Below w8.heap.size w8 w9 := ((Below.refl _ w8).drew).trans hb9; clear hb9)
      | (go_at_call 10; refine (eqCnf vars vars _ _ len len len len zss zss _ ((HC8.out.rowsLen HLn.out HSmall.out).below hb9') (hc9.rowsLen HLn.out HSmall.out)).mono ?_; rintro e w10 ⟨rfl, hb10⟩; have hb810 : Below w8.heap.size w8 w10 := hb9'.trans (hb10.mono hb9'.size); clear hb10))
  all_goals
    have hd : decide (vars = vars ∧ zss = zss) = true := decide_eq_true ⟨rfl, rfl⟩
    have b0 := keep hb810 b0
    have b1 := keep hb810 b1
    have x0 := keep hb810 x0
    have x1 := keep hb810 x1
    have K10 := hid (K8.out.trans (hb810.mono K8.out.size))
    have HC10 := hid (HC8.out.below hb810)
    have O10 := hid (O8.out.below hb810)
    have hB10 := hid (hB4.out.trans (K10.out.mono hB4.out.size))
    have z810 : w8.heap.size ≤ w10.heap.size := hb810.size
    clear hb9' hb810 hc9 hN9
    go_wp2_with fail
    refine (toIntN b bl bc zs _ (HB.out.below hB10.out) hbl).mono ?_
    rintro e w11 ⟨N11, rfl, hn11, hb11, hc11, hr11⟩
    have b0 := keep hb11 b0
    have b1 := keep hb11 b1
    have x0 := keep hb11 x0
    have x1 := keep hb11 x1
    have K11 := hid (K10.out.trans (hb11.mono K10.out.size))
    have HC11 := hid (HC10.out.below hb11)
    have O11 := hid (O10.out.below hb11)
    have R11 := hid hr11
    have z1011 : w10.heap.size ≤ w11.heap.size := hb11.size
    clear hn11 hb11 hc11 hr11
    go_wp2_with fail
    refine (eqIntS _ _ _ _ _ _ zs zs _ (row_of_own O11.out) R11.out).mono ?_
    rintro e w12 ⟨rfl, n12, rfl⟩
    have b1112 : Hid (Below w11.heap.size w11 (w11.drewN n12)) := base.below_drewN _ _
    generalize w11.drewN n12 = w12 at *
    have b0 := keep b1112.out b0
    have b1 := keep b1112.out b1
    have x0 := keep b1112.out x0
    have x1 := keep b1112.out x1
    have K12 := hid (K11.out.trans (b1112.out.mono K11.out.size))
    have HC12 := hid (HC11.out.below b1112.out)
    have O12 := hid (O11.out.below b1112.out)
    have z1112 : w11.heap.size ≤ w12.heap.size := b1112.out.size
    clear b1112 R11
    have hB12 := hid (hB4.out.trans (K12.out.mono hB4.out.size))
    go_wp2
    go_ret
    exact ⟨rfl, hB12.out⟩
theorem own : ownKnob Tryd.prog.godebug = none := by kernel_rfl
theorem laidOut : laidOutB Tryd.prog = true := by kernel_rfl
theorem cells_cnf : Tryd.prog.cellsOf 24 = 2 := by kernel_rfl

/- The library's table as its initialiser lays it. -/
def b64Ints : List Int := [0, 1, 56, 2, 57, 49, 28, 3, 61, 58, 42, 50, 38, 29, 17, 4, 62, 47, 59, 36, 45, 43, 51, 22, 53, 39, 33, 30, 24, 18, 12, 5, 63, 55, 48, 27, 60, 41, 37, 16, 46, 35, 44, 21, 52, 32, 23, 11, 54, 26, 40, 15, 34, 20, 31, 10, 25, 14, 19, 9, 13, 8, 7, 6]
def b64Tab : List Value := b64Ints.map (Value.int .u8)
def laidAs (l : List Value) : Obj → Obj
  | .cells _ t frozen => .cells l.toArray t frozen
  | o => o
def gB64 : Nat := 0
theorem same_tab : ∀ j, j < Lib.deBruijn64tab.length → (b64Ints.map fun z => Value.int .u8 z).toArray[j]? = some (.int .u8 (Lib.deBruijn64tab.getD j 0)) := by
  intro j hj
  have hl : Lib.deBruijn64tab.length = 64 := by decide +kernel
  rw [hl] at hj
  have h : ∀ j : Fin 64, b64Ints[j.1]? = some ((Lib.deBruijn64tab.getD j.1 0 : Nat) : Int) := by decide +kernel
  have := h ⟨j, hj⟩
  simp only [List.getElem?_toArray, List.getElem?_map]
  rw [this]
  rfl
theorem table {W : World} (h : laidMetH Tryd.prog Rows.fnExactImpliedRow.laid W) : Tab W := by
  have h1 := h.filter (fun x => x.1 == "math/bits.deBruijn64tab")
  have h2 : laidMet Tryd.prog [("math/bits.deBruijn64tab", Lib.tabData .u8 b64Ints)] W := h1
  have h3 := Lib.tabIs_of_head (g := 0) (t := 97) (e := 5) (n := 64) (by kernel_rfl) (by kernel_rfl) Tryd.underlying97 Tryd.underlying5 (by kernel_rfl) (by kernel_rfl) h2
  unfold Lib.TabIs World.var? at h3
  rw [show Tryd.prog.globalNamed "math/bits.deBruijn64tab" = some 0 by kernel_rfl] at h3
  simp only [Option.bind_some] at h3
  split at h3
  · rename_i cs t fr hh
    injection h3 with h3
    intro j hj
    have h4 := same_tab j hj
    rw [← h3] at h4
    simp only [World.cell?, hh, h4]
    first | done | exact h4 | rfl | simp
  · cases h3

theorem laid_met (os : Os) : laidMet Tryd.prog Rows.fnExactImpliedRow.laid (({ World.holding Tryd.prog os ⟨#[], #[], []⟩ with heap := (World.holding Tryd.prog os ⟨#[], #[], []⟩).heap.modify gB64 (laidAs b64Tab) } : World).forCall (fun _ _ => 0) ⟨#[], #[.agg #[.int .i64 0, .slice none 0 0], .slice none 0 0], []⟩).memory :=
  laidMet_of_run' 8 (by kernel_rfl) (by kernel_rfl)
theorem reads (os : Os) {H : Type} (enc : TypeId × Value → H) : ∃ places, DataW.whole enc Tryd.prog (({ World.holding Tryd.prog os ⟨#[], #[], []⟩ with heap := (World.holding Tryd.prog os ⟨#[], #[], []⟩).heap.modify gB64 (laidAs b64Tab) } : World).forCall (fun _ _ => 0) ⟨#[], #[.agg #[.int .i64 0, .slice none 0 0], .slice none 0 0], []⟩).memory Tryd.f4.params.toList Rows.fnExactImpliedSpec.vars false #[Value.agg #[.int .i64 0, .slice none 0 0], .slice none 0 0].toList 8 = some ([.agg [.lit (.int .i64 0), .nil], .nil], [], places) :=
  ⟨[], by kernel_rfl⟩

set_option maxRecDepth 100000 in
theorem contract (H : Type) (enc : TypeId × Value → H) (W : World) (base : Nat) (args : Array Value) (ds gs : List (DataW H)) (before : List MemPlace)
    (hval : ∀ (j : Nat) t v, Tryd.f4.params[j]? = some t → args[j]? = some v → Value.okWide Tryd.prog W .any base t v)
    (hW : DataW.Whole enc Tryd.prog Tryd.f4.params.toList Rows.fnExactImpliedSpec.vars false W args.toList ds gs before) (hL : laidMetH Tryd.prog Rows.fnExactImpliedRow.laid W) :
    Calls Tryd.prog 4 args W fun e W' => ∃ v, e = .returned v ∧ Rows.fnExactImpliedSpec.post enc Tryd.prog Tryd.f4 false true false false W args v W' := by
  have hW' := hW
  obtain ⟨p, q, hA0, hV, rfl, hfz, hnd⟩ := hW
  have hA : DataW.TrodAll enc Tryd.prog W 0 (fun _ => true) true Tryd.f4.params.toList args.toList ds p := hA0
  rw [Tryd.params4] at hA hval
  obtain ⟨v0, vs0, d0, ds0, p0, q0, hargs, rfl, rfl, h0, r0⟩ := trodAll_cons hA
  obtain ⟨v1, vs1, d1, ds1, p1, q1, rfl, rfl, rfl, h1, r1⟩ := trodAll_cons r0
  obtain ⟨rfl, rfl, rfl⟩ := trodAll_nil r1
  obtain rfl : args = #[v0, v1] := by cases args; simp_all
  obtain ⟨rfl, rfl⟩ := trodVars_none hV
  have k0 := h0
  have lt0 : ∀ x ∈ p0, x.block < W.heap.size := by obtain ⟨m, hm⟩ := k0; exact DataW.trod_lt m _ _ _ hm
  have k1 := h1
  have lt1 : ∀ x ∈ p1, x.block < W.heap.size := by obtain ⟨m, hm⟩ := k1; exact DataW.trod_lt m _ _ _ hm
  obtain ⟨b, lb, cb, rfl⟩ := okWide_slice Tryd.underlying36 (hval 1 36 v1 rfl rfl)
  obtain ⟨zb, hzb⟩ : ∃ zs, IntRow W b lb zs := by
    obtain ⟨fuel, hf⟩ := h1
    obtain ⟨a', l', c', zs, e, hb⟩ := row_of_trod Tryd.underlying36 Tryd.underlying3 (by kernel_rfl) (by simpa [Value.cells] using hf)
    cases e
    exact ⟨zs, hb.1⟩
  obtain ⟨c0, c1, y0, y1, m, rfl, hd0, hp0, hy0, hy1⟩ := open_agg2 Tryd.underlying24 (by kernel_rfl) cells_cnf (hval 0 24 v0 rfl rfl) h0
  obtain ⟨vars, rfl, wv⟩ := int_of_trod Tryd.underlying3 hy0
  obtain ⟨a, len, cap, zss, rfl, hrow, hwz⟩ := rows_of_trod Tryd.underlying22 Tryd.underlying36 Tryd.underlying3 (by kernel_rfl) (by kernel_rfl) hy1
  clear hA0
  refine (walk vars a len cap zss b lb cb zb W hrow hzb (table hL)).mono fun e W' ⟨he, bel⟩ => ?_
  subst he
  exact ⟨_, rfl, _, _, _, [], _, [], hW', trodAll_mk1 (shut_bool Tryd.underlying4 _), (trodAll_cons_mk (Below.trod laidOut (by kernel_rfl) (of_decide_eq_true (by kernel_rfl)) k0 bel lt0) (trodAll_cons_mk (Below.trod laidOut (by kernel_rfl) (of_decide_eq_true (by kernel_rfl)) k1 bel lt1) trodAll_mk0)), rfl, bel.frame _, fun h => by cases h⟩

set_option maxRecDepth 100000 in
theorem lifted (os : Os) (started : os.Started) (H : Type) (enc : TypeId × Value → H) (F : Stop.Interp) :
    ReturnsInHanded {} Tryd.checked os 4 .any ((OpenSpec.ofChange Rows.fnExactImpliedSpec).preRow enc Tryd.prog Tryd.f4 Rows.fnExactImpliedRow.domain false Rows.fnExactImpliedRow.laid) (((OpenSpec.ofChange Rows.fnExactImpliedSpec).at F).post enc Tryd.prog Tryd.f4 false true false false) := by
  obtain ⟨places, hx⟩ := reads os enc
  refine returnsInHanded_of_row (C := Tryd.checked) (s := OpenSpec.ofChange Rows.fnExactImpliedSpec) own started (by kernel_rfl) Tryd.func4
    (witness_row_at (enc := enc) (C := Tryd.checked) false ({ World.holding Tryd.prog os ⟨#[], #[], []⟩ with heap := (World.holding Tryd.prog os ⟨#[], #[], []⟩).heap.modify gB64 (laidAs b64Tab) } : World) #[.agg #[.int .i64 0, .slice none 0 0], .slice none 0 0] rfl (by kernel_rfl) (by kernel_rfl) (by kernel_rfl)
      (OpenSpec.preRow_of_cond 8 hx (by kernel_rfl) (fun k hk => by cases hk) (by kernel_rfl) (laid_met os))) ?_
  intro W base args ds gs before hval hW _ _ _ hL _ _
  exact contract H enc W base args ds gs before hval hW hL

theorem said : Rows.FnExactImpliedSaid :=
  OpenClaim.holds_of_cond 4 Tryd.f4 rfl rfl rfl rfl rfl rfl rfl ⟨rfl, rfl, rfl, rfl, rfl⟩ rfl rfl rfl rfl rfl (by kernel_rfl) Tryd.func4 (by kernel_rfl)
    (of_decide_eq_true (by kernel_rfl)) (by unfold Func.isWrapper; first | (rw [if_pos (by decide +kernel)]; kernel_rfl) | (rw [if_neg (by decide +kernel)]; exact ⟨rfl, rfl⟩))
    (fun os started H enc _ F => by rw [OpenClaim.pre_eq_preRow]; exact lifted os started H enc F)

theorem plain (f : FuncId) (fn : Func) (hf : Tryd.pinned.checked.prog.funcNamed "loop.example/g00159/laws.FnExactImplied" = some f) (hfn : Tryd.pinned.checked.prog.funcs[f]? = some fn) :
    false = Tryd.pinned.checked.prog.looks [] ∧ ∀ (j : Nat) t, fn.params[j]? = some t → Tryd.pinned.checked.prog.wantsStandIn t = false := by
  obtain rfl : f = 4 := Option.some.inj ((show Tryd.prog.funcNamed "loop.example/g00159/laws.FnExactImplied" = some 4 by kernel_rfl).symm.trans hf) |>.symm
  obtain rfl : fn = Tryd.f4 := (Option.some.inj (Tryd.func4.symm.trans hfn)).symm
  refine ⟨by kernel_rfl, fun j t ht => ?_⟩
  rw [Tryd.params4] at ht
  have hm : t = 24 ∨ t = 36 := by simpa using Array.mem_of_getElem? ht
  rcases hm with rfl | rfl
  · exact (show Tryd.prog.wantsStandIn 24 = false by kernel_rfl)
  · exact (show Tryd.prog.wantsStandIn 36 = false by kernel_rfl)
end Go.Proofs.YtbahjpheaaiamaaDoor.fnExactImplied
namespace Go.Proofs.YtbahjpheaaiamaaDoor
theorem fnExactImplied_holds : Rows.FnExactImpliedCardSaid :=
  Claim7.holds_tied_plain_at .later [] _ _ _ _ fnExactImplied.said (fun _ h => by cases h) (by kernel_rfl) (fun _ h => by cases h) fnExactImplied_row_tie rfl ⟨rfl, rfl⟩ (by kernel_rfl) rfl fnExactImplied.plain (by kernel_rfl)
end Go.Proofs.YtbahjpheaaiamaaDoor
