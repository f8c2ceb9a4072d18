/- For every text ReadProof answers as its specification (the steps, the code and the place); its answer owns its memory, behind another call too; the library's tables and the type of errors are as their initialisers lay them, tied to the program's text; conditions: none. -/
import Derived.Test.YtohbcaofjkhhiaaDoorReadFace
import Derived.Test.YtohbcaofjkhhiaaDoorStepsMark
import Derived.Test.YtohbcaofjkhhiaaDoorCards
import Derived.Test.YtohbcaofjkhhiaaDoorTie
import Derived.OpenVars
import Derived.OpenShut
import Derived.ShutString
import Derived.ChangeOld
import Derived.ProofKit
import Derived.SevenTiedAt
import Derived.Deep.DeepHandedRow
import Derived.Lib.LaidTab
import Derived.LaidSub
import Derived.LaidHandle
import Derived.Shelf.Vars
import GoSem.PinnedTables
namespace Go.Proofs.YtohbcaofjkhhiaaDoor.fnExactReadProof
open Go.ChangeMaps (open_string shut_string)
open Go.ChangeShapes Go.WideShapes Go.ChangeAt Go.RowKit Go.Deep base copy stepsEq stepsMark faultS readFace
open readSpecP (Pt pcs OwnSteps Lone strip codeR placeR stepsR readR read_spec)
open readSem (readS sp)
open stepRead (stepOf)
set_option linter.unusedVariables false

theorem step_len (fin : Int) : ∀ (W : List stepRead.Wd) (ended : Bool) (acc zs : List Int), acc.length ≤ 12 → stepOf fin W ended acc = .ok zs → zs.length ≤ 12
  | [], ended, acc, zs, h, e => by
    unfold stepOf at e
    split at e
    · cases e; exact h
    · cases e
  | x :: r, ended, acc, zs, h, e => by
    unfold stepOf at e
    split at e
    · cases e
    · split at e
      · exact step_len fin r true acc zs h e
      · split at e
        · cases e
        · split at e
          · cases e
          · exact step_len fin r ended _ zs (by simp; omega) e
theorem read_lens : ∀ (l : List (List stepRead.Wd × Int)) (acc ss : List St), (acc.length ≤ 200 ∧ ∀ x ∈ acc, x.2.length ≤ 12) → readS l acc = .ok ss → ss.length ≤ 200 ∧ ∀ x ∈ ss, x.2.length ≤ 12
  | [], acc, ss, h, e => by
    unfold readS at e
    cases e
    exact h
  | (W, f) :: r, acc, ss, h, e => by
    unfold readS at e
    split at e
    · cases e
    · rename_i zs hz
      split at e
      · cases e
      · refine read_lens r _ ss ⟨by simp; omega, fun x hx => ?_⟩ e
        rcases List.mem_append.1 hx with hx | hx
        · exact h.2 x hx
        · rw [List.mem_singleton.1 hx]
          exact step_len f _ _ _ zs (by simp) hz
theorem steps_small (s : ByteArray) : (stepsR (readR s)).length ≤ 200 ∧ ∀ x ∈ stepsR (readR s), x.2.length ≤ 12 := by
  unfold readR
  split
  · exact ⟨by simp [stepsR], fun x hx => by simp [stepsR] at hx⟩
  · cases hR : readS (sp (cuts.cutL s.data.toList) 0) [] with
    | error x => exact ⟨by simp [stepsR], fun x hx => by simp [stepsR] at hx⟩
    | ok ss => exact read_lens _ [] ss ⟨by simp, fun x hx => by simp at hx⟩ hR
theorem sum_small : ∀ (l : List Nat), (∀ x ∈ l, x ≤ 13) → l.sum ≤ 13 * l.length
  | [], _ => by simp
  | a :: l, h => by
    have := sum_small l (fun x hx => h x (by simp [hx]))
    have := h a (by simp)
    simp
    omega
theorem lens_small {ps : List Pt} {ss : List St} (h : ps.map strip = ss) (hs : ss.length ≤ 200 ∧ ∀ x ∈ ss, x.2.length ≤ 12) : (ps.map fun p => p.2.2.length + 1).sum ≤ 2600 ∧ ps.length ≤ 200 ∧ ∀ x ∈ (ps.map fun p => p.2.2.length + 1), 1 ≤ x := by
  have hl : ps.length ≤ 200 := by rw [← List.length_map (f := strip), h]; exact hs.1
  refine ⟨?_, hl, fun x hx => ?_⟩
  · have := sum_small (ps.map fun p => p.2.2.length + 1) (fun x hx => by
      obtain ⟨p, hp, rfl⟩ := List.mem_map.1 hx
      have := hs.2 (strip p) (by rw [← h]; exact List.mem_map.2 ⟨p, hp, rfl⟩)
      simp only [strip] at this
      omega)
    rw [List.length_map] at this
    omega
  · obtain ⟨p, hp, rfl⟩ := List.mem_map.1 hx
    omega
theorem row_known {B n c : Nat} {w : World} {a : Option Addr} {ps : List Pt} {ss : List St} (h : OwnSteps B w (.slice a n c) ps) (hs : ps.map strip = ss) : StepRow w a n ss := by
  obtain ⟨a', c', e, hr⟩ := row_of_steps h hs
  injection e with e1 e2 e3
  subst e1
  subst e2
  exact hr

set_option maxHeartbeats 3200000 in
set_option maxRecDepth 8000 in
theorem walk (t : ByteArray) (m : Int) (w : World) (hts : t.size ≤ maxLen) (hm : w.cell? ⟨1, 0, none⟩ = some (.int .i64 m)) (he : ErrW w) :
    Calls Tryd.prog 3 #[.string t] w fun e w' => e = .returned (.bool true) ∧ Below w.heap.size w w' := by
  have HM := hid hm
  have HE := hid he
  unfold maxLen at hts
  clear hm he
  by_cases hbig : 1048576 < t.size
  · have d0 : decide ((1048576 : Int) < (t.size : Int)) = true := decide_eq_true (by omega)
    go_enter Tryd.func3, Tryd.ntmps3
    go_wp2
    go_ret
    exact ⟨rfl, (by repeat (first | exact Below.refl _ _ | assumption | refine Below.drew ?_ | refine Below.alloc ?_ (by first | exact Nat.le_refl _ | omega | (simp; done) | (simp; omega)) _ | refine Below.setCell ?_ (by first | exact Nat.le_refl _ | omega | (simp; done) | (simp; omega)) _))⟩
  have d0 : decide ((1048576 : Int) < (t.size : Int)) = false := decide_eq_false (by omega)
  have HI := hid (fun w hm he => rp_impl t m w (by omega) hm he)
  have HS := hid (fun w => read_spec t w (by omega))
  have HL := hid (steps_small t)
  generalize codeR (readR t) = C at *
  generalize placeR (readR t) = P at *
  generalize stepsR (readR t) = ss at *
  have hqC : (C != C) = false := by simp
  have hqP : (P != P) = false := by simp
  go_enter Tryd.func3, Tryd.ntmps3
  go_wp2_with fail
  refine (HS.out _).mono ?_
  rintro e w1 ⟨v1, ps1, rfl, ho1, -, hs1, hb1⟩
  obtain ⟨a1, c1, rfl, hr1⟩ := row_of_steps ho1 hs1
  have R1 := hid hr1
  have B1 := hid hb1
  clear ho1 hs1 hb1 hr1 ps1
  go_wp2_with fail
  refine (HI.out _ (keep B1.out HM.out) (HE.out.below B1.out)).mono ?_
  rintro e w2 ⟨v2, ps2, rfl, ho2, hl2, hs2, hb2⟩
  obtain ⟨a2, c2, rfl, hr2⟩ := row_of_steps ho2 hs2
  obtain ⟨hS, hn2, hpos⟩ := lens_small hs2 HL.out
  have O2 := hid ho2
  have L2 := hid hl2
  have R2 := hid hr2
  have B2 := hid hb2
  have HP := hid hpos
  clear ho2 hl2 hs2 hb2 hr2 hpos
  generalize ss.length = n at *
  go_wp2_with fail
  refine (eqStepS _ _ n _ _ ss _ R2.out (R1.out.below B2.out)).mono ?_
  rintro e w3 ⟨rfl, hb3⟩
  have B3 := hid (B2.out.trans (hb3.mono B2.out.size))
  have O3 := hid (O2.out.below hb3)
  clear hb3
  go_wp2_with fail
  refine (mark_steps_any w1.heap.size _ ps2 1 _ O3.out L2.out (by omega) (by omega) (by omega)).mono ?_
  rintro e w4 ⟨rfl, qs, hoq, hqm, hb4⟩
  have R4 := hid (row_known hoq hqm)
  have B4 := hid (B3.out.trans hb4)
  clear hoq hqm hb4 O2 O3 L2 R2
  generalize hls : (ps2.map fun p => p.2.2.length + 1) = ls at *
  have hsz : (1 : Int) + (ls.sum : Nat) ≤ 1048576 := by omega
  have HSZ := hid hsz
  obtain ⟨S, hSe⟩ : ∃ S, ls.sum = S := ⟨_, rfl⟩
  have HH := hid (fun a len cap w hr => held_steps a len cap ls 1 w hr HP.out (by omega) HSZ.out)
  rw [hSe] at HH hS hsz ⊢
  clear HSZ hls hSe
  have hng : ¬ ((1 : Int) + (S : Int) < 0) := by omega
  have hqS : ((1 : Int) + (S : Int) != (1 : Int) + (S : Int)) = false := by simp
  go_wp2_with fail
  refine (HH.out _ _ _ _ R4.out).mono ?_
  rintro e w5 ⟨rfl, hb5⟩
  have B5 := hid (B4.out.trans (hb5.mono B4.out.size))
  have R5 := hid (R4.out.below hb5)
  clear hb5 R4
  go_wp2_with fail
  refine (HI.out _ (keep (B1.out.trans (B5.out.mono B1.out.size)) HM.out) (HE.out.below (B1.out.trans (B5.out.mono B1.out.size)))).mono ?_
  rintro e w6 ⟨v6, ps6, rfl, ho6, -, hs6, hb6⟩
  obtain ⟨a6, c6, rfl, hr6⟩ := row_of_steps ho6 hs6
  have hn6 : ss.length = n := R1.out.length
  rw [hn6] at hr6 ⊢
  have R6 := hid hr6
  have B6 := hid (B5.out.trans (hb6.mono B5.out.size))
  have R56 := hid (R5.out.below hb6)
  clear ho6 hs6 hb6 hr6 R5 hn6
  go_wp2_with fail
  refine (eqStepS _ _ n _ _ ss _ R6.out (R1.out.below B6.out)).mono ?_
  rintro e w7 ⟨rfl, hb7⟩
  have B7 := hid (B6.out.trans (hb7.mono B6.out.size))
  have R7 := hid (R56.out.below hb7)
  clear hb7 R56
  go_wp2_with fail
  refine (HH.out _ _ _ _ R7.out).mono ?_
  rintro e w8 ⟨rfl, hb8⟩
  have B8 := hid (B7.out.trans (hb8.mono B7.out.size))
  clear hb8
  go_wp2
  go_ret
  exact ⟨rfl, B1.out.trans (B8.out.mono B1.out.size)⟩

theorem own : ownKnob Tryd.prog.godebug = none := by kernel_rfl
theorem laidOut : laidOutB Tryd.prog = true := by kernel_rfl

/- The library's tables as their initialisers lay them. -/
def accTab : List Value := ([128, 191, 160, 191, 128, 159, 144, 191, 128, 143, 0, 0, 0, 0, 0, 0, 0, 0, 0, 0, 0, 0, 0, 0, 0, 0, 0, 0, 0, 0, 0, 0] : List Int).map (Value.int .u8)
def firstTab : List Value := Pinned.utf8FirstZ.map fun n : Nat => Value.int .u8 (n : Int)
def laidAs (l : List Value) : Obj → Obj
  | .cells _ t frozen => .cells l.toArray t frozen
  | o => o
def gAcc : Nat := 3
def gFirst : Nat := 2
theorem max_len {W : World} (h : W.ShapedOpen Tryd.prog) : ∃ m, W.cell? ⟨1, 0, none⟩ = some (.int .i64 m) :=
  cell_of_shapedOpen_int (t := 3) (zero := #[.int .i64 0]) h (of_decide_eq_true (by kernel_rfl)) (by kernel_rfl) rfl (by kernel_rfl) (by kernel_rfl) Tryd.underlying3

def gErr : Nat := 0
def errTab : List Value := [.iface 87 (.agg #[.pointer (some ⟨4, 61, none⟩)])]
theorem et : Tryd.prog.globalNamed "errors.errorType" = some 0 := by kernel_rfl
theorem rt : (Tryd.prog.cutTypes.find? (·.1 == "internal/reflectlite.rtype")).map (·.2) = some 87 := by kernel_rfl
theorem oneRow : ((List.range Tryd.prog.types.size).filter fun t => Tryd.prog.rowNamed t [101, 114, 114, 111, 114]) = [61] := by kernel_rfl
theorem errs {W : World} (h : laidMetH Tryd.prog Rows.fnExactReadProofRow.laid W) : ErrW W := by
  have h1 := h.filter (fun x => x.1 == "errors.errorType")
  have h2 : laidMet Tryd.prog [] W ∧ handlesMet Tryd.prog [("errors.errorType", Rows.laid_errors_errorType)] W := h1
  obtain ⟨name, u, ty, e1, e2, e3, e4, e5⟩ := h2.2 _ (List.mem_singleton.2 rfl)
  have en : name = [101, 114, 114, 111, 114] := (Option.some.inj e1).symm
  subst en
  obtain rfl := Option.some.inj (rt.symm.trans e2)
  have hm : ty ∈ (List.range Tryd.prog.types.size).filter fun t => Tryd.prog.rowNamed t [101, 114, 114, 111, 114] := List.mem_filter.2 ⟨List.mem_range.2 e3, e4⟩
  rw [oneRow] at hm
  obtain rfl := List.mem_singleton.1 hm
  have hh : typeHandle Tryd.prog 61 = .pointer (some ⟨4, 61, none⟩) := by kernel_rfl
  rw [hh] at e5
  show W.cell? _ = _
  simpa using World.var?_cell et e5 0

theorem laid_met (os : Os) : laidMetH Tryd.prog Rows.fnExactReadProofRow.laid (({ World.holding Tryd.prog os ⟨#[], #[], []⟩ with heap := (((World.holding Tryd.prog os ⟨#[], #[], []⟩).heap.modify gAcc (laidAs accTab)).modify gErr (laidAs errTab)).modify gFirst (laidAs firstTab) } : World).forCall (fun _ _ => 0) ⟨#[], #[.string ⟨#[]⟩], []⟩).memory :=
  laidMetH_of_parts (laidMet_of_run' 8 (by kernel_rfl) (by kernel_rfl)) (by kernel_rfl)
theorem reads (os : Os) {H : Type} (enc : TypeId × Value → H) : ∃ places, DataW.whole enc Tryd.prog (({ World.holding Tryd.prog os ⟨#[], #[], []⟩ with heap := (((World.holding Tryd.prog os ⟨#[], #[], []⟩).heap.modify gAcc (laidAs accTab)).modify gErr (laidAs errTab)).modify gFirst (laidAs firstTab) } : World).forCall (fun _ _ => 0) ⟨#[], #[.string ⟨#[]⟩], []⟩).memory Tryd.f3.params.toList Rows.fnExactReadProofSpec.vars false #[Value.string ⟨#[]⟩].toList 8 = some ([.lit (.string [])], [], places) :=
  ⟨[], by kernel_rfl⟩

set_option maxRecDepth 100000 in
theorem contract (H : Type) (enc : TypeId × Value → H) (W : World) (base : Nat) (args : Array Value) (ds gs : List (DataW H)) (before : List MemPlace)
    (hval : ∀ (j : Nat) t v, Tryd.f3.params[j]? = some t → args[j]? = some v → Value.okWide Tryd.prog W .any base t v)
    (hW : DataW.Whole enc Tryd.prog Tryd.f3.params.toList Rows.fnExactReadProofSpec.vars false W args.toList ds gs before) (hL : laidMetH Tryd.prog Rows.fnExactReadProofRow.laid W) (hsh : W.ShapedOpen Tryd.prog) :
    Calls Tryd.prog 3 args W fun e W' => ∃ v, e = .returned v ∧ Rows.fnExactReadProofSpec.post enc Tryd.prog Tryd.f3 false true false false W args v W' := by
  have hW' := hW
  obtain ⟨p, q, hA0, hV, rfl, hfz, hnd⟩ := hW
  have hA : DataW.TrodAll enc Tryd.prog W 0 (fun _ => true) true Tryd.f3.params.toList args.toList ds p := hA0
  rw [Tryd.params3] at hA hval
  obtain ⟨v0, vs0, d0, ds0, p0, q0, hargs, rfl, rfl, h0, r0⟩ := trodAll_cons hA
  obtain ⟨rfl, rfl, rfl⟩ := trodAll_nil r0
  obtain rfl : args = #[v0] := by cases args; simp_all
  obtain ⟨rfl, rfl⟩ := trodVars_none hV
  have k0 := h0
  have lt0 : ∀ x ∈ p0, x.block < W.heap.size := by obtain ⟨m, hm⟩ := k0; exact DataW.trod_lt m _ _ _ hm
  obtain ⟨t, rfl, rfl, rfl, wt⟩ := open_string Tryd.underlying9 (hval 0 9 v0 rfl rfl) h0
  obtain ⟨m, hm⟩ := max_len hsh
  clear hA0
  refine (walk t m W wt hm (errs hL)).mono fun e W' ⟨he, bel⟩ => ?_
  subst he
  exact ⟨_, rfl, _, _, _, [], _, [], hW', trodAll_mk1 (shut_bool Tryd.underlying4 _), (trodAll_cons_mk (Below.trod laidOut (by kernel_rfl) (of_decide_eq_true (by kernel_rfl)) k0 bel lt0) trodAll_mk0), rfl, bel.frame _, fun h => by cases h⟩

set_option maxRecDepth 100000 in
theorem lifted (os : Os) (started : os.Started) (H : Type) (enc : TypeId × Value → H) (F : Stop.Interp) :
    ReturnsInHanded {} Tryd.checked os 3 .any ((OpenSpec.ofChange Rows.fnExactReadProofSpec).preRow enc Tryd.prog Tryd.f3 Rows.fnExactReadProofRow.domain false Rows.fnExactReadProofRow.laid) (((OpenSpec.ofChange Rows.fnExactReadProofSpec).at F).post enc Tryd.prog Tryd.f3 false true false false) := by
  obtain ⟨places, hx⟩ := reads os enc
  refine returnsInHanded_of_row (C := Tryd.checked) (s := OpenSpec.ofChange Rows.fnExactReadProofSpec) own started (by kernel_rfl) Tryd.func3
    (witness_row_at (enc := enc) (C := Tryd.checked) false ({ World.holding Tryd.prog os ⟨#[], #[], []⟩ with heap := (((World.holding Tryd.prog os ⟨#[], #[], []⟩).heap.modify gAcc (laidAs accTab)).modify gErr (laidAs errTab)).modify gFirst (laidAs firstTab) } : World) #[.string ⟨#[]⟩] rfl (by kernel_rfl) (by kernel_rfl) (by kernel_rfl)
      (OpenSpec.preRow_of_cond 8 hx (by kernel_rfl) (fun k hk => by cases hk) (by kernel_rfl) (laid_met os))) ?_
  intro W base args ds gs before hval hW _ _ _ hL hsh _
  exact contract H enc W base args ds gs before hval hW hL hsh

theorem said : Rows.FnExactReadProofSaid :=
  OpenClaim.holds_of_cond 3 Tryd.f3 rfl rfl rfl rfl rfl rfl rfl ⟨rfl, rfl, rfl, rfl, rfl⟩ rfl rfl rfl rfl rfl (by kernel_rfl) Tryd.func3 (by kernel_rfl)
    (of_decide_eq_true (by kernel_rfl)) (by unfold Func.isWrapper; first | (rw [if_pos (by decide +kernel)]; kernel_rfl) | (rw [if_neg (by decide +kernel)]; exact ⟨rfl, rfl⟩))
    (fun os started H enc _ F => by rw [OpenClaim.pre_eq_preRow]; exact lifted os started H enc F)

theorem plain (f : FuncId) (fn : Func) (hf : Tryd.pinned.checked.prog.funcNamed "loop.example/g00159/laws.FnExactReadProof" = some f) (hfn : Tryd.pinned.checked.prog.funcs[f]? = some fn) :
    true = Tryd.pinned.checked.prog.looks [] ∧ ∀ (j : Nat) t, fn.params[j]? = some t → Tryd.pinned.checked.prog.wantsStandIn t = false := by
  obtain rfl : f = 3 := Option.some.inj ((show Tryd.prog.funcNamed "loop.example/g00159/laws.FnExactReadProof" = some 3 by kernel_rfl).symm.trans hf) |>.symm
  obtain rfl : fn = Tryd.f3 := (Option.some.inj (Tryd.func3.symm.trans hfn)).symm
  refine ⟨by kernel_rfl, fun j t ht => ?_⟩
  rw [Tryd.params3] at ht
  obtain rfl : t = 9 := by simpa using Array.mem_of_getElem? ht
  exact (show Tryd.prog.wantsStandIn 9 = false by kernel_rfl)
end Go.Proofs.YtohbcaofjkhhiaaDoor.fnExactReadProof
namespace Go.Proofs.YtohbcaofjkhhiaaDoor
theorem fnExactReadProof_holds : Rows.FnExactReadProofCardSaid :=
  Claim7.holds_tied_plain_at .later [] _ _ _ _ fnExactReadProof.said (fun _ h => by cases h) (by kernel_rfl) (fun _ h => by cases h) fnExactReadProof_row_tie rfl ⟨rfl, rfl⟩ (by kernel_rfl) rfl fnExactReadProof.plain (by kernel_rfl)
end Go.Proofs.YtohbcaofjkhhiaaDoor
