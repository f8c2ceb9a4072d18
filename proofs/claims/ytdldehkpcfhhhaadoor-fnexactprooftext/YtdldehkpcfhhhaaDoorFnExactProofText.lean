/- For every list of steps ProofText answers as its specification (the text and the code); the steps are as they were; the library's tables and the type of errors are as their initialisers lay them, tied to the program's text; conditions: none. -/
import Derived.Test.YtdldehkpcfhhhaaDoorProofImpl
import Derived.Test.YtdldehkpcfhhhaaDoorProofSpec
import Derived.Test.YtdldehkpcfhhhaaDoorArgs
import Derived.Test.YtdldehkpcfhhhaaDoorCards
import Derived.Test.YtdldehkpcfhhhaaDoorTie
import Derived.OpenVars
import Derived.SevenTiedAt
import Derived.Deep.DeepHandedRow
import Derived.Deep.SlicePairs
import Derived.Lib.LaidTab
import Derived.LaidSub
import Derived.LaidHandle
namespace Go.Proofs.YtdldehkpcfhhhaaDoor.fnExactProofText
open Go.ChangeShapes Go.WideShapes Go.ChangeAt Go.RowKit Go.Deep Go.Joins base copy cnf args digits lines textImpl steps fault stepsImpl proofImpl proofSpec
set_option linter.unusedVariables false

set_option maxHeartbeats 3200000 in
set_option maxRecDepth 8000 in
theorem walk (a : Option Addr) (len cap : Nat) (ss : List St) (w : World) (hr : StepRow w a len ss) (ht : TabW w) (he : ErrW w) :
    Calls Tryd.prog 3 #[.slice a len cap] w fun e w' => e = .returned (.bool true) ∧ Below w.heap.size w w' := by
  have HR := hid hr
  have HT := hid ht
  have HE := hid he
  clear hr ht he
  have HI := hid (fun a len cap w hr ht he => pt_impl a len cap ss w hr ht he)
  have HS := hid (fun a len cap w hr => pt_spec a len cap ss w hr)
  obtain ⟨s, hs⟩ : ∃ s : ByteArray, ⟨(ptBytes ss).toArray⟩ = s := ⟨_, rfl⟩
  rw [hs] at HI HS
  generalize ptCode ss = C at *
  clear hs
  have hqC : (C != C) = false := by simp
  have hqS : (s.toList != s.toList) = false := by simp
  have hqT : (s.toList == s.toList) = true := by simp
  go_enter Tryd.func3, Tryd.ntmps3
  go_wp2_with fail
  refine (szStepS a len cap ss 1048576 _ HR.out (by omega) (by omega)).mono ?_
  rintro e w1 ⟨r, rfl, hb1, hr1, hr2, hr3⟩
  have H3 := hid hr3
  have hB1 := hid hb1
  clear hb1 hr3
  by_cases hneg : r < 0
  · go_wp2
    go_ret
    exact ⟨rfl, hB1.out⟩
  have hsz := hid (H3.out (by omega))
  go_wp2_with fail
  refine (toStepS a len cap ss _ (HR.out.below hB1.out) (by have := hsz.out.1; omega) (fun i hi => by have := hsz.out.2 i hi; omega)).mono ?_
  rintro e w2 ⟨N2, rfl, hN2, hb2, hc2⟩
  have HC2 := hid hc2
  have hB2 := hid (hB1.out.trans (hb2.mono hB1.out.size))
  clear hb2 hc2
  go_wp2_with fail
  refine (HS.out _ len len _ HC2.out).mono ?_
  rintro e w3 ⟨rfl, hb3⟩
  have hB3 := hid (hB2.out.trans (hb3.mono hB2.out.size))
  clear hb3
  go_wp2_with fail
  refine (toStepS a len cap ss _ (HR.out.below hB3.out) (by have := hsz.out.1; omega) (fun i hi => by have := hsz.out.2 i hi; omega)).mono ?_
  rintro e w4 ⟨N4, rfl, hN4, hb4, hc4⟩
  have HC4 := hid hc4
  have hB4 := hid (hB3.out.trans (hb4.mono hB3.out.size))
  clear hb4 hc4
  go_wp2_with fail
  refine (HI.out _ len len _ HC4.out (HT.out.below hB4.out) (HE.out.below hB4.out)).mono ?_
  rintro e w5 ⟨rfl, hb5⟩
  have hB5 := hid (hB4.out.trans (hb5.mono hB4.out.size))
  have HC5 := hid (HC4.out.below hb5)
  clear hb5
  go_wp2_with fail
  refine (toStepS a len cap ss _ (HR.out.below hB5.out) (by have := hsz.out.1; omega) (fun i hi => by have := hsz.out.2 i hi; omega)).mono ?_
  rintro e w6 ⟨N6, rfl, hN6, hb6, hc6⟩
  have HC6 := hid hc6
  have HC56 := hid (HC5.out.below hb6)
  have hB6 := hid (hB5.out.trans (hb6.mono hB5.out.size))
  clear hb6 hc6
  go_wp2_with fail
  refine (eqStepS _ _ len len len ss _ HC56.out HC6.out).mono ?_
  rintro e w7 ⟨rfl, hb7⟩
  have hB7 := hid (hB6.out.trans (hb7.mono hB6.out.size))
  clear hb7
  go_wp2
  go_ret
  exact ⟨rfl, hB7.out⟩

theorem steps_of_trod {H : Type} {enc : TypeId × Value → H} {w : World} {base : Nat} {held : Bool} {fuel : Nat} {v : Value} {x : DataW H × List MemPlace}
    (h : DataW.trod enc Tryd.prog w base (fun _ => true) held fuel 22 [v] = some x) : ∃ a len cap ss, v = .slice a len cap ∧ StepRow w a len ss := by
  rcases open_slice_pairs Tryd.underlying22 Tryd.underlying42 (by kernel_rfl) (by rfl) (by rfl) (by kernel_rfl) (by kernel_rfl) h with ⟨hcs, _⟩ | ⟨a, len, cap, m, n, V0, V1, D0, D1, P0, P1, hcs, hb, hl, hm, hmm, rfl, hx⟩
  · exact ⟨none, 0, 0, [], by simpa using hcs, ⟨rfl, Nat.zero_le _, fun i hi => absurd hi (Nat.not_lt_zero _)⟩⟩
  · simp only [if_true] at hmm
    subst hmm
    have each : ∀ i, i < m → ∃ q : St, V0 i = .bool q.1 ∧ ∃ a' l' c', V1 i = .slice a' l' c' ∧ IntRow w a' l' q.2 := fun i hi => by
      obtain ⟨_, _, h0, h1⟩ := hx i hi
      obtain ⟨b, e0, _⟩ := DataW.trod_bool Tryd.underlying4 h0
      obtain ⟨a', l', c', zs, e1, hr, _⟩ := row_of_trod Tryd.underlying40 Tryd.underlying3 (by kernel_rfl) h1
      exact ⟨(b, zs), by simpa using e0, a', l', c', e1, hr⟩
    obtain ⟨f, hf⟩ := choose_lt each
    refine ⟨some a, len, m, (List.range len).map f, by simpa using hcs, ⟨by simp, Nat.le_trans hl hm, fun i hi => ?_⟩⟩
    obtain ⟨e0, a', l', c', e1, hr⟩ := hf i (by omega)
    have hz : w.cell? (a.add 0) = some (V0 0) := by simpa using (hx 0 (by omega)).1
    obtain ⟨q1, q2⟩ := at_none hz (hx i (by omega)).1
    obtain ⟨_, q3⟩ := at_none hz (hx i (by omega)).2.1
    refine ⟨a.block, a.off, by rw [← q1], ?_, a', l', c', ?_, ?_⟩
    · rw [q2, e0]; simp [hi]
    · rw [← e1]; simpa [Nat.add_assoc] using q3
    · simpa [hi] using hr

theorem own : ownKnob Tryd.prog.godebug = none := by kernel_rfl
theorem laidOut : laidOutB Tryd.prog = true := by kernel_rfl
theorem cells_step : Tryd.prog.cellsOf 42 = 2 := by kernel_rfl

/- The library's tables as their initialisers lay them. -/
def b32Tab : List Value := ([0, 1, 28, 2, 29, 14, 24, 3, 30, 22, 20, 15, 25, 17, 4, 8, 31, 27, 13, 23, 21, 19, 16, 7, 26, 12, 18, 6, 11, 5, 10, 9] : List Int).map (Value.int .u8)
def b64Tab : List Value := ([0, 1, 56, 2, 57, 49, 28, 3, 61, 58, 42, 50, 38, 29, 17, 4, 62, 47, 59, 36, 45, 43, 51, 22, 53, 39, 33, 30, 24, 18, 12, 5, 63, 55, 48, 27, 60, 41, 37, 16, 46, 35, 44, 21, 52, 32, 23, 11, 54, 26, 40, 15, 34, 20, 31, 10, 25, 14, 19, 9, 13, 8, 7, 6] : List Int).map (Value.int .u8)
def powTab : List Value := Lib.pow10Tab.map (Value.int .u64)
def laidAs (l : List Value) : Obj → Obj
  | .cells _ t frozen => .cells l.toArray t frozen
  | o => o
def gPow : Nat := 1
def gB32 : Nat := 2
def gB64 : Nat := 3
def gErr : Nat := 0
def errTab : List Value := [.iface 102 (.agg #[.pointer (some ⟨4, 63, none⟩)])]
theorem et : Tryd.prog.globalNamed "errors.errorType" = some 0 := by kernel_rfl
theorem rt : (Tryd.prog.cutTypes.find? (·.1 == "internal/reflectlite.rtype")).map (·.2) = some 102 := by kernel_rfl
theorem oneRow : ((List.range Tryd.prog.types.size).filter fun t => Tryd.prog.rowNamed t [101, 114, 114, 111, 114]) = [63] := by kernel_rfl
theorem errs {W : World} (h : laidMetH Tryd.prog Rows.fnExactProofTextRow.laid W) : ErrW W := by
  have h1 := h.filter (fun x => x.1 == "errors.errorType")
  have h2 : laidMet Tryd.prog [] W ∧ handlesMet Tryd.prog [("errors.errorType", Rows.laid_errors_errorType)] W := h1
  obtain ⟨name, u, ty, e1, e2, e3, e4, e5⟩ := h2.2 _ (List.mem_singleton.2 rfl)
  have en : name = [101, 114, 114, 111, 114] := (Option.some.inj e1).symm
  subst en
  obtain rfl := Option.some.inj (rt.symm.trans e2)
  have hm : ty ∈ (List.range Tryd.prog.types.size).filter fun t => Tryd.prog.rowNamed t [101, 114, 114, 111, 114] := List.mem_filter.2 ⟨List.mem_range.2 e3, e4⟩
  rw [oneRow] at hm
  obtain rfl := List.mem_singleton.1 hm
  have hh : typeHandle Tryd.prog 63 = .pointer (some ⟨4, 63, none⟩) := by kernel_rfl
  rw [hh] at e5
  show W.cell? _ = _
  simpa using World.var?_cell et e5 0
theorem table {W : World} (h : laidMetH Tryd.prog Rows.fnExactProofTextRow.laid W) : TabW W := by
  have h1 := h.filter (fun x => x.1 == "internal/strconv.uint64pow10")
  have h2 : laidMet Tryd.prog [("internal/strconv.uint64pow10", Lib.tabData .u64 Lib.pow10Tab)] W := h1
  exact Lib.tabIs_of_head (g := 1) (t := 117) (e := 96) (n := 20) (by kernel_rfl) (by kernel_rfl) Tryd.underlying117 Tryd.underlying96 (by kernel_rfl) (by kernel_rfl) h2

theorem laid_met (os : Os) : laidMetH Tryd.prog Rows.fnExactProofTextRow.laid (({ World.holding Tryd.prog os ⟨#[], #[], []⟩ with heap := ((((World.holding Tryd.prog os ⟨#[], #[], []⟩).heap.modify gPow (laidAs powTab)).modify gB32 (laidAs b32Tab)).modify gB64 (laidAs b64Tab)).modify gErr (laidAs errTab) } : World).forCall (fun _ _ => 0) ⟨#[], #[.slice none 0 0], []⟩).memory :=
  laidMetH_of_parts (laidMet_of_run' 8 (by kernel_rfl) (by kernel_rfl)) (by kernel_rfl)
theorem reads (os : Os) {H : Type} (enc : TypeId × Value → H) : ∃ places, DataW.whole enc Tryd.prog (({ World.holding Tryd.prog os ⟨#[], #[], []⟩ with heap := ((((World.holding Tryd.prog os ⟨#[], #[], []⟩).heap.modify gPow (laidAs powTab)).modify gB32 (laidAs b32Tab)).modify gB64 (laidAs b64Tab)).modify gErr (laidAs errTab) } : World).forCall (fun _ _ => 0) ⟨#[], #[.slice none 0 0], []⟩).memory Tryd.f3.params.toList Rows.fnExactProofTextSpec.vars false #[Value.slice none 0 0].toList 8 = some ([.nil], [], places) :=
  ⟨[], by kernel_rfl⟩

set_option maxRecDepth 100000 in
theorem contract (H : Type) (enc : TypeId × Value → H) (W : World) (base : Nat) (args : Array Value) (ds gs : List (DataW H)) (before : List MemPlace)
    (hval : ∀ (j : Nat) t v, Tryd.f3.params[j]? = some t → args[j]? = some v → Value.okWide Tryd.prog W .any base t v)
    (hW : DataW.Whole enc Tryd.prog Tryd.f3.params.toList Rows.fnExactProofTextSpec.vars false W args.toList ds gs before) (hL : laidMetH Tryd.prog Rows.fnExactProofTextRow.laid W) :
    Calls Tryd.prog 3 args W fun e W' => ∃ v, e = .returned v ∧ Rows.fnExactProofTextSpec.post enc Tryd.prog Tryd.f3 false true false false W args v W' := by
  have hW' := hW
  obtain ⟨p, q, hA0, hV, rfl, hfz, hnd⟩ := hW
  have hA : DataW.TrodAll enc Tryd.prog W 0 (fun _ => true) true Tryd.f3.params.toList args.toList ds p := hA0
  rw [Tryd.params3] at hA hval
  obtain ⟨v0, vs0, d0, ds0, p0, q0, hargs, rfl, rfl, h0, r0⟩ := trodAll_cons hA
  obtain ⟨rfl, rfl, rfl⟩ := trodAll_nil r0
  obtain rfl : args = #[v0] := by cases args; simp_all
  obtain ⟨rfl, rfl⟩ := trodVars_none hV
  have k0 := h0
  have lt0 : ∀ x ∈ p0, x.block < W.heap.size := by obtain ⟨m, hm⟩ := k0; exact DataW.trod_lt m _ _ _ hm
  obtain ⟨a, len, cap, rfl⟩ := okWide_slice Tryd.underlying22 (hval 0 22 v0 rfl rfl)
  obtain ⟨ss, hrow⟩ : ∃ ss, StepRow W a len ss := by
    obtain ⟨fuel, hf⟩ := h0
    obtain ⟨a', l', c', ss, e, hb⟩ := steps_of_trod (v := .slice a len cap) (by simpa [Value.cells] using hf)
    cases e
    exact ⟨ss, hb⟩
  clear hA0
  refine (walk a len cap ss W hrow (table hL) (errs hL)).mono fun e W' ⟨he, bel⟩ => ?_
  subst he
  exact ⟨_, rfl, _, _, _, [], _, [], hW', trodAll_mk1 (shut_bool Tryd.underlying4 _), (trodAll_cons_mk (Below.trod laidOut (by kernel_rfl) (of_decide_eq_true (by kernel_rfl)) k0 bel lt0) trodAll_mk0), rfl, bel.frame _, fun h => by cases h⟩

set_option maxRecDepth 100000 in
theorem lifted (os : Os) (started : os.Started) (H : Type) (enc : TypeId × Value → H) (F : Stop.Interp) :
    ReturnsInHanded {} Tryd.checked os 3 .any ((OpenSpec.ofChange Rows.fnExactProofTextSpec).preRow enc Tryd.prog Tryd.f3 Rows.fnExactProofTextRow.domain false Rows.fnExactProofTextRow.laid) (((OpenSpec.ofChange Rows.fnExactProofTextSpec).at F).post enc Tryd.prog Tryd.f3 false true false false) := by
  obtain ⟨places, hx⟩ := reads os enc
  refine returnsInHanded_of_row (C := Tryd.checked) (s := OpenSpec.ofChange Rows.fnExactProofTextSpec) own started (by kernel_rfl) Tryd.func3
    (witness_row_at (enc := enc) (C := Tryd.checked) false ({ World.holding Tryd.prog os ⟨#[], #[], []⟩ with heap := ((((World.holding Tryd.prog os ⟨#[], #[], []⟩).heap.modify gPow (laidAs powTab)).modify gB32 (laidAs b32Tab)).modify gB64 (laidAs b64Tab)).modify gErr (laidAs errTab) } : World) #[.slice none 0 0] rfl (by kernel_rfl) (by kernel_rfl) (by kernel_rfl)
      (OpenSpec.preRow_of_cond 8 hx (by kernel_rfl) (fun k hk => by cases hk) (by kernel_rfl) (laid_met os))) ?_
  intro W base args ds gs before hval hW _ _ _ hL _ _
  exact contract H enc W base args ds gs before hval hW hL

theorem said : Rows.FnExactProofTextSaid :=
  OpenClaim.holds_of_cond 3 Tryd.f3 rfl rfl rfl rfl rfl rfl rfl ⟨rfl, rfl, rfl, rfl, rfl⟩ rfl rfl rfl rfl rfl (by kernel_rfl) Tryd.func3 (by kernel_rfl)
    (of_decide_eq_true (by kernel_rfl)) (by unfold Func.isWrapper; first | (rw [if_pos (by decide +kernel)]; kernel_rfl) | (rw [if_neg (by decide +kernel)]; exact ⟨rfl, rfl⟩))
    (fun os started H enc _ F => by rw [OpenClaim.pre_eq_preRow]; exact lifted os started H enc F)

theorem plain (f : FuncId) (fn : Func) (hf : Tryd.pinned.checked.prog.funcNamed "loop.example/g00159/laws.FnExactProofText" = some f) (hfn : Tryd.pinned.checked.prog.funcs[f]? = some fn) :
    true = Tryd.pinned.checked.prog.looks [] ∧ ∀ (j : Nat) t, fn.params[j]? = some t → Tryd.pinned.checked.prog.wantsStandIn t = false := by
  obtain rfl : f = 3 := Option.some.inj ((show Tryd.prog.funcNamed "loop.example/g00159/laws.FnExactProofText" = some 3 by kernel_rfl).symm.trans hf) |>.symm
  obtain rfl : fn = Tryd.f3 := (Option.some.inj (Tryd.func3.symm.trans hfn)).symm
  refine ⟨by kernel_rfl, fun j t ht => ?_⟩
  rw [Tryd.params3] at ht
  obtain rfl : t = 22 := by simpa using Array.mem_of_getElem? ht
  exact (show Tryd.prog.wantsStandIn 22 = false by kernel_rfl)
end Go.Proofs.YtdldehkpcfhhhaaDoor.fnExactProofText
namespace Go.Proofs.YtdldehkpcfhhhaaDoor
theorem fnExactProofText_holds : Rows.FnExactProofTextCardSaid :=
  Claim7.holds_tied_plain_at .later [] _ _ _ _ fnExactProofText.said (fun _ h => by cases h) (by kernel_rfl) (fun _ h => by cases h) fnExactProofText_row_tie rfl ⟨rfl, rfl⟩ (by kernel_rfl) rfl fnExactProofText.plain (by kernel_rfl)
end Go.Proofs.YtdldehkpcfhhhaaDoor
