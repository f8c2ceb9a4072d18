/- For every formula DimacsText answers as its specification (the text and the code); the formula is as it was; the library's tables are as their initialisers lay them, tied to the program's text; conditions: none. -/
import Derived.Test.YtdldehkpcfhhhaaDoorTextSpec
import Derived.Test.YtdldehkpcfhhhaaDoorArgs
import Derived.Test.YtdldehkpcfhhhaaDoorCards
import Derived.Test.YtdldehkpcfhhhaaDoorTie
import Derived.OpenVars
import Derived.SevenTiedAt
import Derived.Deep.DeepHandedRow
import Derived.Lib.LaidTab
import Derived.LaidSub
namespace Go.Proofs.YtdldehkpcfhhhaaDoor.fnExactDimacsText
open Go.ChangeShapes Go.WideShapes Go.ChangeAt Go.RowKit Go.Deep Go.Joins base copy cnf args digits lines textImpl textSpec
set_option linter.unusedVariables false

def dimBytes (vars : Int) (zss : List (List Int)) : List UInt8 := if cnfB vars zss then textBytes vars zss else []
def dimCode (vars : Int) (zss : List (List Int)) : Int := if cnfB vars zss then 0 else 1
theorem dim_impl (vars : Int) (a : Option Addr) (len cap : Nat) (zss : List (List Int)) (w : World) (hr : IntRows w a len zss) (ht : TabW w) :
    Calls Tryd.prog 13 #[.agg #[.int .i64 vars, .slice a len cap]] w fun e w' => e = .returned (.tuple #[.string ⟨(dimBytes vars zss).toArray⟩, .int .i64 (dimCode vars zss)]) ∧ Below w.heap.size w w' := by
  unfold dimBytes dimCode
  cases hB : cnfB vars zss
  · exact text_impl_bad vars a len cap zss w hr hB
  · exact text_impl_good vars a len cap zss w hr hB ht
set_option maxHeartbeats 800000 in
theorem dim_spec (vars : Int) (a : Option Addr) (len cap : Nat) (zss : List (List Int)) (w : World) (hr : IntRows w a len zss) :
    Calls Tryd.prog 11 #[.agg #[.int .i64 vars, .slice a len cap]] w fun e w' => e = .returned (.tuple #[.string ⟨(dimBytes vars zss).toArray⟩, .int .i64 (dimCode vars zss)]) ∧ Below w.heap.size w w' := by
  have HR := hid hr
  clear hr
  unfold dimBytes dimCode
  cases hB : cnfB vars zss
  · simp only [Bool.false_eq_true, if_false]
    go_enter Tryd.func11, Tryd.ntmps11
    go_wp2_with fail
    refine (cnfOK_spec vars a len cap zss _ (HR.out.below (by repeat (first | exact Below.refl _ _ | assumption | refine Below.drew ?_ | refine Below.alloc ?_ (by first | exact Nat.le_refl _ | omega | (simp; done) | (simp; omega)) _ | refine Below.setCell ?_ (by first | exact Nat.le_refl _ | omega | (simp; done) | (simp; omega)) _)))).mono ?_
    rintro e w1 ⟨rfl, hb1⟩
    have HB := hid ((show Below w.heap.size w _ from (by repeat (first | exact Below.refl _ _ | assumption | refine Below.drew ?_ | refine Below.alloc ?_ (by first | exact Nat.le_refl _ | omega | (simp; done) | (simp; omega)) _ | refine Below.setCell ?_ (by first | exact Nat.le_refl _ | omega | (simp; done) | (simp; omega)) _))).trans (hb1.mono (by simp)))
    clear hb1
    rw [hB]
    go_wp2
    go_ret2
    exact ⟨rfl, HB.out⟩
  · simp only [if_true]
    have HT := hid (fun w hr => text_spec vars a len cap zss w hr hB)
    generalize textBytes vars zss = tb at *
    go_enter Tryd.func11, Tryd.ntmps11
    go_wp2_with fail
    refine (cnfOK_spec vars a len cap zss _ (HR.out.below (by repeat (first | exact Below.refl _ _ | assumption | refine Below.drew ?_ | refine Below.alloc ?_ (by first | exact Nat.le_refl _ | omega | (simp; done) | (simp; omega)) _ | refine Below.setCell ?_ (by first | exact Nat.le_refl _ | omega | (simp; done) | (simp; omega)) _)))).mono ?_
    rintro e w1 ⟨rfl, hb1⟩
    have HB := hid ((show Below w.heap.size w _ from (by repeat (first | exact Below.refl _ _ | assumption | refine Below.drew ?_ | refine Below.alloc ?_ (by first | exact Nat.le_refl _ | omega | (simp; done) | (simp; omega)) _ | refine Below.setCell ?_ (by first | exact Nat.le_refl _ | omega | (simp; done) | (simp; omega)) _))).trans (hb1.mono (by simp)))
    have b0 : w1.cell? ⟨w.heap.size, 0, none⟩ = some (.int .i64 vars) := keep hb1 (by simp [go_sem])
    have b1 : w1.cell? ⟨w.heap.size, 1, none⟩ = some (.slice a len cap) := keep hb1 (by simp [go_sem])
    clear hb1
    rw [hB]
    go_wp2_with fail
    refine (HT.out _ (HR.out.below HB.out)).mono ?_
    rintro e w2 ⟨rfl, hb2⟩
    have HB2 := hid (HB.out.trans (hb2.mono HB.out.size))
    clear hb2
    go_wp2
    go_ret2
    exact ⟨rfl, HB2.out⟩

set_option maxHeartbeats 3200000 in
set_option maxRecDepth 8000 in
theorem walk (vars : Int) (a : Option Addr) (len cap : Nat) (zss : List (List Int)) (w : World) (hr : IntRows w a len zss) (ht : TabW w) :
    Calls Tryd.prog 4 #[.agg #[.int .i64 vars, .slice a len cap]] w fun e w' => e = .returned (.bool true) ∧ Below w.heap.size w w' := by
  have HR := hid hr
  have HT := hid ht
  clear hr ht
  have HI := hid (fun a len cap w hr ht => dim_impl vars a len cap zss w hr ht)
  have HS := hid (fun a len cap w hr => dim_spec vars a len cap zss w hr)
  obtain ⟨s, hs⟩ : ∃ s : ByteArray, ⟨(dimBytes vars zss).toArray⟩ = s := ⟨_, rfl⟩
  rw [hs] at HI HS
  generalize dimCode vars zss = C at *
  clear hs
  have hqC : (C != C) = false := by simp
  have hqS : (s.toList != s.toList) = false := by simp
  have hqT : (s.toList == s.toList) = true := by simp
  go_enter Tryd.func4, Tryd.ntmps4
  go_wp2_with fail
  refine (szCnf vars a len cap zss 1048576 _ ?_ (by omega) (by omega)).mono ?_
  · exact HR.out.below (by repeat (first | exact Below.refl _ _ | assumption | refine Below.drew ?_ | refine Below.alloc ?_ (by first | exact Nat.le_refl _ | omega | (simp; done) | (simp; omega)) _ | refine Below.setCell ?_ (by first | exact Nat.le_refl _ | omega | (simp; done) | (simp; omega)) _))
  rintro e w1 ⟨r, rfl, hb1, hr1, hr2, hr3⟩
  have H3 := hid hr3
  have hB1 := hid ((show Below w.heap.size w _ from (by repeat (first | exact Below.refl _ _ | assumption | refine Below.drew ?_ | refine Below.alloc ?_ (by first | exact Nat.le_refl _ | omega | (simp; done) | (simp; omega)) _ | refine Below.setCell ?_ (by first | exact Nat.le_refl _ | omega | (simp; done) | (simp; omega)) _))).trans (hb1.mono (by simp)))
  have b0 : w1.cell? ⟨w.heap.size, 0, none⟩ = some (.int .i64 vars) := keep hb1 (by simp [go_sem])
  have b1 : w1.cell? ⟨w.heap.size, 1, none⟩ = some (.slice a len cap) := keep hb1 (by simp [go_sem])
  have z1 : w.heap.size < w1.heap.size := by have := hb1.size; simp at this; omega
  clear hb1 hr3
  by_cases hneg : r < 0
  · go_wp2
    go_ret
    exact ⟨rfl, hB1.out⟩
  have hsz := hid (H3.out (by omega))
  go_wp2_with fail
  refine (toCnf vars a len cap zss _ (HR.out.below hB1.out) (by have := hsz.out.1; omega) (fun i hi => by have := hsz.out.2 i hi; omega)).mono ?_
  rintro e w2 ⟨N2, rfl, hN2, hb2, hc2⟩
  have HC2 := hid (hc2.rowsLen HR.out.length hsz.out)
  replace b0 := keep hb2 b0
  replace b1 := keep hb2 b1
  have hB2 := hid (hB1.out.trans (hb2.mono hB1.out.size))
  have z2 : w.heap.size < w2.heap.size := by have := hb2.size; omega
  clear hb2 hc2 z1
  go_wp2_with fail
  refine (HS.out _ len len _ HC2.out).mono ?_
  rintro e w3 ⟨rfl, hb3⟩
  replace b0 := keep hb3 b0
  replace b1 := keep hb3 b1
  have hB3 := hid (hB2.out.trans (hb3.mono hB2.out.size))
  have z3 : w.heap.size < w3.heap.size := by have := hb3.size; omega
  clear hb3 z2
  go_wp2_with fail
  refine (toCnf vars a len cap zss _ (HR.out.below hB3.out) (by have := hsz.out.1; omega) (fun i hi => by have := hsz.out.2 i hi; omega)).mono ?_
  rintro e w4 ⟨N4, rfl, hN4, hb4, hc4⟩
  have HC4 := hid (hc4.rowsLen HR.out.length hsz.out)
  replace b0 := keep hb4 b0
  replace b1 := keep hb4 b1
  have hB4 := hid (hB3.out.trans (hb4.mono hB3.out.size))
  have z4 : w.heap.size < w4.heap.size := by have := hb4.size; omega
  clear hb4 hc4 z3
  go_wp2_with fail
  refine (HI.out _ len len _ ?_ ?_).mono ?_
  · exact HC4.out.below (by repeat (first | exact Below.refl _ _ | assumption | refine Below.drew ?_ | refine Below.alloc ?_ (by first | exact Nat.le_refl _ | omega | (simp; done) | (simp; omega)) _ | refine Below.setCell ?_ (by first | exact Nat.le_refl _ | omega | (simp; done) | (simp; omega)) _))
  · exact HT.out.below (hB4.out.trans (show Below w.heap.size w4 _ from (by repeat (first | exact Below.refl _ _ | assumption | refine Below.drew ?_ | refine Below.alloc ?_ (by first | exact Nat.le_refl _ | omega | (simp; done) | (simp; omega)) _ | refine Below.setCell ?_ (by first | exact Nat.le_refl _ | omega | (simp; done) | (simp; omega)) _))))
  rintro e w5 ⟨rfl, hb5⟩
  have x0 : w5.cell? ⟨w4.heap.size, 0, none⟩ = some (.int .i64 vars) := keep hb5 (by simp [go_sem])
  have x1 : w5.cell? ⟨w4.heap.size, 1, none⟩ = some (.slice (some ⟨N4, 0, none⟩) len len) := keep hb5 (by simp [go_sem])
  have hB45 := hid ((show Below w4.heap.size w4 _ from (by repeat (first | exact Below.refl _ _ | assumption | refine Below.drew ?_ | refine Below.alloc ?_ (by first | exact Nat.le_refl _ | omega | (simp; done) | (simp; omega)) _ | refine Below.setCell ?_ (by first | exact Nat.le_refl _ | omega | (simp; done) | (simp; omega)) _))).trans (hb5.mono (by simp)))
  replace b0 := keep hB45.out b0
  replace b1 := keep hB45.out b1
  have hB5 := hid (hB4.out.trans (hB45.out.mono hB4.out.size))
  have HC5 := hid (HC4.out.below hB45.out)
  clear hb5
  go_wp2_with fail
  have HK6 : Hid (∀ w8 : World, Below w5.heap.size w5 w8 → w8.cell? ⟨w4.heap.size, 0, none⟩ = some (.int .i64 vars) ∧ w8.cell? ⟨w4.heap.size, 1, none⟩ = some (.slice (some ⟨N4, 0, none⟩) len len) ∧ w8.cell? ⟨w.heap.size, 0, none⟩ = some (.int .i64 vars) ∧ w8.cell? ⟨w.heap.size, 1, none⟩ = some (.slice a len cap) ∧ Below w5.heap.size w5 w8) := fun w8 h => ⟨keep h x0, keep h x1, keep h b0, keep h b1, h⟩
  go_region_held3 (fun w8 => w8.cell? ⟨w4.heap.size, 0, none⟩ = some (.int .i64 vars) ∧ w8.cell? ⟨w4.heap.size, 1, none⟩ = some (.slice (some ⟨N4, 0, none⟩) len len) ∧ w8.cell? ⟨w.heap.size, 0, none⟩ = some (.int .i64 vars) ∧ w8.cell? ⟨w.heap.size, 1, none⟩ = some (.slice a len cap) ∧ Below w5.heap.size w5 w8)
    (refine HK6.out _ (by first | assumption | exact (Below.refl _ w5).drew | exact hb6' | exact hb57))
    (first
      | (go_at_call 12; refine (toCnf vars a len cap zss _ (HR.out.below hB5.out.drew) (by have := hsz.out.1; omega) (fun i hi => by have := hsz.out.2 i hi; omega)).mono ?_; rintro e w6 ⟨N6, rfl, hN6, hb6, hc6⟩; have hb6' : Below w5.heap.size w5 w6 := ((Below.refl _ w5).drew).trans hb6; clear hb6)
      | (go_at_call 14; refine (eqCnf vars vars _ _ len len len len zss zss _ (HC5.out.below hb6') (hc6.rowsLen HR.out.length hsz.out)).mono ?_; rintro e w7 ⟨rfl, hb7⟩; have hb57 : Below w5.heap.size w5 w7 := hb6'.trans (hb7.mono hb6'.size); clear hb7))
  all_goals
    have hd : decide (vars = vars ∧ zss = zss) = true := decide_eq_true ⟨rfl, rfl⟩
    go_wp2
    go_ret
    exact ⟨rfl, hB5.out.trans (hb57.mono hB5.out.size)⟩

theorem own : ownKnob Tryd.prog.godebug = none := by kernel_rfl
theorem laidOut : laidOutB Tryd.prog = true := by kernel_rfl
theorem cells_cnf : Tryd.prog.cellsOf 32 = 2 := by kernel_rfl

/- The library's tables as their initialisers lay them. -/
def b32Tab : List Value := ([0, 1, 28, 2, 29, 14, 24, 3, 30, 22, 20, 15, 25, 17, 4, 8, 31, 27, 13, 23, 21, 19, 16, 7, 26, 12, 18, 6, 11, 5, 10, 9] : List Int).map (Value.int .u8)
def b64Tab : List Value := ([0, 1, 56, 2, 57, 49, 28, 3, 61, 58, 42, 50, 38, 29, 17, 4, 62, 47, 59, 36, 45, 43, 51, 22, 53, 39, 33, 30, 24, 18, 12, 5, 63, 55, 48, 27, 60, 41, 37, 16, 46, 35, 44, 21, 52, 32, 23, 11, 54, 26, 40, 15, 34, 20, 31, 10, 25, 14, 19, 9, 13, 8, 7, 6] : List Int).map (Value.int .u8)
def powTab : List Value := Lib.pow10Tab.map (Value.int .u64)
def laidAs (l : List Value) : Obj → Obj
  | .cells _ t frozen => .cells l.toArray t frozen
  | o => o
def gPow : Nat := 1
def gB32 : Nat := 2
def gB64 : Nat := 3
theorem table {W : World} (h : laidMetH Tryd.prog Rows.fnExactDimacsTextRow.laid W) : TabW W := by
  have h1 := h.filter (fun x => x.1 == "internal/strconv.uint64pow10")
  have h2 : laidMet Tryd.prog [("internal/strconv.uint64pow10", Lib.tabData .u64 Lib.pow10Tab)] W := h1
  exact Lib.tabIs_of_head (g := 1) (t := 117) (e := 96) (n := 20) (by kernel_rfl) (by kernel_rfl) Tryd.underlying117 Tryd.underlying96 (by kernel_rfl) (by kernel_rfl) h2

theorem laid_met (os : Os) : laidMet Tryd.prog Rows.fnExactDimacsTextRow.laid (({ World.holding Tryd.prog os ⟨#[], #[], []⟩ with heap := (((World.holding Tryd.prog os ⟨#[], #[], []⟩).heap.modify gPow (laidAs powTab)).modify gB32 (laidAs b32Tab)).modify gB64 (laidAs b64Tab) } : World).forCall (fun _ _ => 0) ⟨#[], #[.agg #[.int .i64 0, .slice none 0 0]], []⟩).memory :=
  laidMet_of_run' 8 (by kernel_rfl) (by kernel_rfl)
theorem reads (os : Os) {H : Type} (enc : TypeId × Value → H) : ∃ places, DataW.whole enc Tryd.prog (({ World.holding Tryd.prog os ⟨#[], #[], []⟩ with heap := (((World.holding Tryd.prog os ⟨#[], #[], []⟩).heap.modify gPow (laidAs powTab)).modify gB32 (laidAs b32Tab)).modify gB64 (laidAs b64Tab) } : World).forCall (fun _ _ => 0) ⟨#[], #[.agg #[.int .i64 0, .slice none 0 0]], []⟩).memory Tryd.f4.params.toList Rows.fnExactDimacsTextSpec.vars false #[Value.agg #[.int .i64 0, .slice none 0 0]].toList 8 = some ([.agg [.lit (.int .i64 0), .nil]], [], places) :=
  ⟨[], by kernel_rfl⟩

set_option maxRecDepth 100000 in
theorem contract (H : Type) (enc : TypeId × Value → H) (W : World) (base : Nat) (args : Array Value) (ds gs : List (DataW H)) (before : List MemPlace)
    (hval : ∀ (j : Nat) t v, Tryd.f4.params[j]? = some t → args[j]? = some v → Value.okWide Tryd.prog W .any base t v)
    (hW : DataW.Whole enc Tryd.prog Tryd.f4.params.toList Rows.fnExactDimacsTextSpec.vars false W args.toList ds gs before) (hL : laidMetH Tryd.prog Rows.fnExactDimacsTextRow.laid W) :
    Calls Tryd.prog 4 args W fun e W' => ∃ v, e = .returned v ∧ Rows.fnExactDimacsTextSpec.post enc Tryd.prog Tryd.f4 false true false false W args v W' := by
  have hW' := hW
  obtain ⟨p, q, hA0, hV, rfl, hfz, hnd⟩ := hW
  have hA : DataW.TrodAll enc Tryd.prog W 0 (fun _ => true) true Tryd.f4.params.toList args.toList ds p := hA0
  rw [Tryd.params4] at hA hval
  obtain ⟨v0, vs0, d0, ds0, p0, q0, hargs, rfl, rfl, h0, r0⟩ := trodAll_cons hA
  obtain ⟨rfl, rfl, rfl⟩ := trodAll_nil r0
  obtain rfl : args = #[v0] := by cases args; simp_all
  obtain ⟨rfl, rfl⟩ := trodVars_none hV
  have k0 := h0
  have lt0 : ∀ x ∈ p0, x.block < W.heap.size := by obtain ⟨m, hm⟩ := k0; exact DataW.trod_lt m _ _ _ hm
  obtain ⟨c0, c1, y0, y1, m, rfl, hd0, hp0, hy0, hy1⟩ := open_agg2 Tryd.underlying32 (by kernel_rfl) cells_cnf (hval 0 32 v0 rfl rfl) h0
  obtain ⟨vars, rfl, wv⟩ := int_of_trod Tryd.underlying3 hy0
  obtain ⟨a, len, cap, zss, rfl, hrow, hwz⟩ := rows_of_trod Tryd.underlying30 Tryd.underlying40 Tryd.underlying3 (by kernel_rfl) (by kernel_rfl) hy1
  clear hA0
  refine (walk vars a len cap zss W hrow (table hL)).mono fun e W' ⟨he, bel⟩ => ?_
  subst he
  exact ⟨_, rfl, _, _, _, [], _, [], hW', trodAll_mk1 (shut_bool Tryd.underlying4 _), (trodAll_cons_mk (Below.trod laidOut (by kernel_rfl) (of_decide_eq_true (by kernel_rfl)) k0 bel lt0) trodAll_mk0), rfl, bel.frame _, fun h => by cases h⟩

set_option maxRecDepth 100000 in
theorem lifted (os : Os) (started : os.Started) (H : Type) (enc : TypeId × Value → H) (F : Stop.Interp) :
    ReturnsInHanded {} Tryd.checked os 4 .any ((OpenSpec.ofChange Rows.fnExactDimacsTextSpec).preRow enc Tryd.prog Tryd.f4 Rows.fnExactDimacsTextRow.domain false Rows.fnExactDimacsTextRow.laid) (((OpenSpec.ofChange Rows.fnExactDimacsTextSpec).at F).post enc Tryd.prog Tryd.f4 false true false false) := by
  obtain ⟨places, hx⟩ := reads os enc
  refine returnsInHanded_of_row (C := Tryd.checked) (s := OpenSpec.ofChange Rows.fnExactDimacsTextSpec) own started (by kernel_rfl) Tryd.func4
    (witness_row_at (enc := enc) (C := Tryd.checked) false ({ World.holding Tryd.prog os ⟨#[], #[], []⟩ with heap := (((World.holding Tryd.prog os ⟨#[], #[], []⟩).heap.modify gPow (laidAs powTab)).modify gB32 (laidAs b32Tab)).modify gB64 (laidAs b64Tab) } : World) #[.agg #[.int .i64 0, .slice none 0 0]] rfl (by kernel_rfl) (by kernel_rfl) (by kernel_rfl)
      (OpenSpec.preRow_of_cond 8 hx (by kernel_rfl) (fun k hk => by cases hk) (by kernel_rfl) (laid_met os))) ?_
  intro W base args ds gs before hval hW _ _ _ hL _ _
  exact contract H enc W base args ds gs before hval hW hL

theorem said : Rows.FnExactDimacsTextSaid :=
  OpenClaim.holds_of_cond 4 Tryd.f4 rfl rfl rfl rfl rfl rfl rfl ⟨rfl, rfl, rfl, rfl, rfl⟩ rfl rfl rfl rfl rfl (by kernel_rfl) Tryd.func4 (by kernel_rfl)
    (of_decide_eq_true (by kernel_rfl)) (by unfold Func.isWrapper; first | (rw [if_pos (by decide +kernel)]; kernel_rfl) | (rw [if_neg (by decide +kernel)]; exact ⟨rfl, rfl⟩))
    (fun os started H enc _ F => by rw [OpenClaim.pre_eq_preRow]; exact lifted os started H enc F)

theorem plain (f : FuncId) (fn : Func) (hf : Tryd.pinned.checked.prog.funcNamed "loop.example/g00159/laws.FnExactDimacsText" = some f) (hfn : Tryd.pinned.checked.prog.funcs[f]? = some fn) :
    true = Tryd.pinned.checked.prog.looks [] ∧ ∀ (j : Nat) t, fn.params[j]? = some t → Tryd.pinned.checked.prog.wantsStandIn t = false := by
  obtain rfl : f = 4 := Option.some.inj ((show Tryd.prog.funcNamed "loop.example/g00159/laws.FnExactDimacsText" = some 4 by kernel_rfl).symm.trans hf) |>.symm
  obtain rfl : fn = Tryd.f4 := (Option.some.inj (Tryd.func4.symm.trans hfn)).symm
  refine ⟨by kernel_rfl, fun j t ht => ?_⟩
  rw [Tryd.params4] at ht
  obtain rfl : t = 32 := by simpa using Array.mem_of_getElem? ht
  exact (show Tryd.prog.wantsStandIn 32 = false by kernel_rfl)
end Go.Proofs.YtdldehkpcfhhhaaDoor.fnExactDimacsText
namespace Go.Proofs.YtdldehkpcfhhhaaDoor
theorem fnExactDimacsText_holds : Rows.FnExactDimacsTextCardSaid :=
  Claim7.holds_tied_plain_at .later [] _ _ _ _ fnExactDimacsText.said (fun _ h => by cases h) (by kernel_rfl) (fun _ h => by cases h) fnExactDimacsText_row_tie rfl ⟨rfl, rfl⟩ (by kernel_rfl) rfl fnExactDimacsText.plain (by kernel_rfl)
end Go.Proofs.YtdldehkpcfhhhaaDoor
