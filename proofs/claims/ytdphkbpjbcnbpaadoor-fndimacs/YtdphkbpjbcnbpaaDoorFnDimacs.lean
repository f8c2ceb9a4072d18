/- For every code the text of the formula drawn out of it is what the specification says, and read again behind a remark it is the formula; the library's tables are as their initialisers lay them, tied to the program's text; conditions: none. -/
import Derived.Test.YtdphkbpjbcnbpaaDoorTextSpec
import Derived.Test.YtdphkbpjbcnbpaaDoorDimFace
import Derived.Test.YtdphkbpjbcnbpaaDoorByteArgsI
import Derived.Test.YtdphkbpjbcnbpaaDoorCards
import Derived.Test.YtdphkbpjbcnbpaaDoorTie
import Derived.OpenVars
import Derived.SevenTiedAt
import Derived.Deep.DeepHandedRow
import Derived.Lib.LaidTab
import Derived.LaidSub
import Derived.Shelf.Vars
namespace Go.Proofs.YtdphkbpjbcnbpaaDoor.fnDimacs
open Go.ChangeShapes Go.WideShapes Go.ChangeAt Go.RowKit Go.Deep Go.Joins base copy cnf args byteArgs digits lines textImpl textSpec rowsOwn source cnfDraw
set_option linter.unusedVariables false

set_option maxHeartbeats 800000 in
theorem dim_spec (vars : Int) (a : Option Addr) (len cap : Nat) (zss : List (List Int)) (w : World) (hr : IntRows w a len zss) (hB : cnfB vars zss = true) :
    Calls Tryd.prog 6 #[.agg #[.int .i64 vars, .slice a len cap]] w fun e w' => e = .returned (.tuple #[.string ⟨(textBytes vars zss).toArray⟩, .int .i64 0]) ∧ Below w.heap.size w w' := by
  have HR := hid hr
  clear hr
  have HT := hid (fun w hr => text_spec vars a len cap zss w hr hB)
  generalize textBytes vars zss = tb at *
  go_enter Tryd.func6, Tryd.ntmps6
  go_wp2_with fail
  refine (cnfOK_spec vars a len cap zss _ (HR.out.below (by repeat (first | exact Below.refl _ _ | assumption | refine Below.drew ?_ | refine Below.alloc ?_ (by first | exact Nat.le_refl _ | omega | (simp; done) | (simp; omega)) _ | refine Below.setCell ?_ (by first | exact Nat.le_refl _ | omega | (simp; done) | (simp; omega)) _)))).mono ?_
  rintro e w1 ⟨rfl, hb1⟩
  have HB := hid ((show Below w.heap.size w _ from (by repeat (first | exact Below.refl _ _ | assumption | refine Below.drew ?_ | refine Below.alloc ?_ (by first | exact Nat.le_refl _ | omega | (simp; done) | (simp; omega)) _ | refine Below.setCell ?_ (by first | exact Nat.le_refl _ | omega | (simp; done) | (simp; omega)) _))).trans (hb1.mono (by simp)))
  have b0 : w1.cell? ⟨w.heap.size, 0, none⟩ = some (.int .i64 vars) := keep hb1 (by simp [go_sem])
  have b1 : w1.cell? ⟨w.heap.size, 1, none⟩ = some (.slice a len cap) := keep hb1 (by simp [go_sem])
  clear hb1
  rw [hB]
  go_wp2_with fail
  refine (HT.out _ (HR.out.below HB.out)).mono ?_
  rintro e w2 ⟨rfl, hb2⟩
  have HB2 := hid (HB.out.trans (hb2.mono HB.out.size))
  clear hb2
  go_wp2
  go_ret2
  exact ⟨rfl, HB2.out⟩
theorem rows_is {B n c : Nat} {w : World} {a : Option Addr} {ps : List (Value × List Int)} {L : List (List Int)} (h : OwnRows B w (.slice a n c) ps) (e : ps.map (·.2) = L) : IntRows w a n L := by
  rw [← e]
  exact rows_of_own h
theorem rows_len {B n c : Nat} {w : World} {a : Option Addr} {ps : List (Value × List Int)} {L : List (List Int)} (h : OwnRows B w (.slice a n c) ps) (e : ps.map (·.2) = L) : n = L.length := (rows_is h e).length.symm
theorem txt_sum (tb : List UInt8) : (((⟨#[99, 32, 97, 32, 114, 101, 109, 97, 114, 107, 10]⟩ : ByteArray) ++ ⟨tb.toArray⟩) ++ (⟨#[10]⟩ : ByteArray)).data.toList = readDim.remark ++ 10 :: (tb ++ [10]) := by
  simp [readDim.remark]
theorem cnf_clauses {v : Int} {Z : List (List Int)} (h : cnfB v Z = true) : ∀ zs ∈ Z, zs.length ≤ 12 ∧ ∀ z ∈ zs, stepRead.litB v z = true := fun zs hz => by
  unfold cnfB at h
  rw [Bool.and_eq_true] at h
  have h2 := List.all_eq_true.1 h.2 zs hz
  unfold clauseB at h2
  rw [Bool.and_eq_true] at h2
  exact ⟨of_decide_eq_true h2.1, fun z hz' => List.all_eq_true.1 h2.2 z hz'⟩
theorem text_small {v : Int} {Z : List (List Int)} (h0 : 0 ≤ v) (h1 : v ≤ 40) (hl : Z.length ≤ 16) (h : cnfB v Z = true) : (⟨(textBytes v Z).toArray⟩ : ByteArray).size ≤ 65536 := by
  have := readDim.txt_len h0 h1 (by omega) (fun zs hz => ⟨(cnf_clauses h zs hz).1, fun z hz' => by
    have := (of_decide_eq_true ((cnf_clauses h zs hz).2 z hz') : z ≠ 0 ∧ -v ≤ z ∧ z ≤ v)
    exact decide_eq_true ⟨this.1, by omega, by omega⟩⟩)
  unfold readDim.txt at this
  simp only [List.length_append, List.length_cons] at this
  simp [ByteArray.size]
  omega

set_option maxHeartbeats 6400000 in
set_option maxRecDepth 8000 in
theorem walk (a : Option Addr) (len cap : Nat) (m : Int) (w : World) (hby : Bytes w a len) (hmost : len ≤ maxLen) (ht : TabW w) (hm : w.cell? ⟨1, 0, none⟩ = some (.int .i64 m)) :
    Calls Tryd.prog 3 #[.slice a len cap] w fun e w' => e = .returned (.bool true) ∧ Below w.heap.size w w' := by
  unfold maxLen at hmost
  have HBy := hid hby
  have HTb := hid ht
  have HM := hid hm
  clear hby ht hm
  by_cases h1 : 1048576 < len
  · go_enter Tryd.func3, Tryd.ntmps3
    go_wp2
    go_ret
    exact ⟨rfl, Below.refl _ _⟩
  have hla : len ≤ 1048576 := by omega
  have hla' : (len : Int) ≤ 1048576 := by omega
  go_enter Tryd.func3, Tryd.ntmps3
  go_wp2_with fail
  refine (cnfOf_spec a len cap _ HBy.out hla).mono ?_
  rintro e w1 ⟨v, p, n, c, ps, rfl, hv1, hv6, ho1, hcnf, hp16, hb1⟩
  obtain ⟨Z, hZ⟩ : ∃ Z, ps.map (·.2) = Z := ⟨_, rfl⟩
  rw [hZ] at hcnf
  have hZ16 : Z.length ≤ 16 := by rw [← hZ, List.length_map]; exact hp16
  have HnZ := hid (rows_len ho1 hZ)
  have HO1 := hid (rows_is ho1 hZ)
  have HB1 := hid hb1
  have HI := hid (fun w hr ht => text_impl_good v p n c Z w hr hcnf ht)
  have HS := hid (fun w hr => dim_spec v p n c Z w hr hcnf)
  have HRd := hid (fun s w hs hm => dimFace.dim_read s v m Z w hs (by omega) (by omega) (by omega) (cnf_clauses hcnf) hm)
  have HTx := hid (txt_sum (textBytes v Z))
  have HTz := hid (text_small (by omega) (by omega) hZ16 hcnf)
  have HTe : Hid (readDim.txt v Z = readDim.remark ++ 10 :: (textBytes v Z ++ [10])) := hid rfl
  have HCnf := hid hcnf
  clear ho1 hcnf hb1 hZ hp16
  generalize textBytes v Z = tb at *
  obtain ⟨t, htb⟩ : ∃ t : ByteArray, (⟨tb.toArray⟩ : ByteArray) = t := ⟨_, rfl⟩
  rw [htb] at HI HS HTx HTz
  have htz := HTz.out
  clear htb
  go_wp2_with fail
  refine (HI.out _ ?_ ?_).mono ?_
  · exact HO1.out.below (by repeat (first | exact Below.refl _ _ | assumption | refine Below.drew ?_ | refine Below.alloc ?_ (by first | exact Nat.le_refl _ | omega | (simp; done) | (simp; omega)) _ | refine Below.setCell ?_ (by first | exact Nat.le_refl _ | omega | (simp; done) | (simp; omega)) _))
  · exact HTb.out.below (HB1.out.trans ((show Below w1.heap.size w1 _ from (by repeat (first | exact Below.refl _ _ | assumption | refine Below.drew ?_ | refine Below.alloc ?_ (by first | exact Nat.le_refl _ | omega | (simp; done) | (simp; omega)) _ | refine Below.setCell ?_ (by first | exact Nat.le_refl _ | omega | (simp; done) | (simp; omega)) _))).mono HB1.out.size))
  rintro e w2 ⟨rfl, hb2⟩
  have hb12 : Below w1.heap.size w1 w2 := (show Below w1.heap.size w1 _ from (by repeat (first | exact Below.refl _ _ | assumption | refine Below.drew ?_ | refine Below.alloc ?_ (by first | exact Nat.le_refl _ | omega | (simp; done) | (simp; omega)) _ | refine Below.setCell ?_ (by first | exact Nat.le_refl _ | omega | (simp; done) | (simp; omega)) _))).trans (hb2.mono (by simp))
  have f0 : w2.cell? ⟨w1.heap.size, 0, none⟩ = some (.int .i64 v) := keep hb2 (by simp [go_sem])
  have f1 : w2.cell? ⟨w1.heap.size, 1, none⟩ = some (.slice p n c) := keep hb2 (by simp [go_sem])
  have z2 : w1.heap.size < w2.heap.size := by have := hb2.size; simp at this; omega
  have HO2 := hid (HO1.out.below hb12)
  have HB2 := hid (HB1.out.trans (hb12.mono HB1.out.size))
  clear hb2 hb12 HI
  go_wp2_with fail
  refine (HS.out _ HO2.out).mono ?_
  rintro e w3 ⟨rfl, hb3⟩
  replace f0 := keep hb3 f0
  replace f1 := keep hb3 f1
  have z3 : w1.heap.size < w3.heap.size := by have := hb3.size; omega
  have HO3 := hid (HO2.out.below hb3)
  have HB3 := hid (HB2.out.trans (hb3.mono HB2.out.size))
  have HM3 := hid (keep HB3.out HM.out)
  clear hb3 HS
  go_wp2_with fail
  refine (HRd.out _ _ (HTx.out.trans HTe.out.symm) HM3.out).mono ?_
  rintro e w4 ⟨p4, n4, c4, ps4, rfl, ho4, hp4, hb4⟩
  replace f0 := keep hb4 f0
  replace f1 := keep hb4 f1
  have z4 : w1.heap.size < w4.heap.size := by have := hb4.size; omega
  have HO4 := hid (rows_is ho4 hp4)
  have hn4 : n4 = n := (rows_len ho4 hp4).trans HnZ.out.symm
  subst hn4
  have HO34 := hid (HO3.out.below hb4)
  have HB4 := hid (HB3.out.trans (hb4.mono HB3.out.size))
  have qs : (t.toList == t.toList) = true := by simp
  clear ho4 hp4 hb4 HRd HnZ
  go_wp2_with fail
  refine (same_cnf v p4 p n4 c4 c Z _ ?_ ?_).mono ?_
  · exact HO4.out.below (by repeat (first | exact Below.refl _ _ | assumption | refine Below.drew ?_ | refine Below.alloc ?_ (by first | exact Nat.le_refl _ | omega | (simp; done) | (simp; omega)) _ | refine Below.setCell ?_ (by first | exact Nat.le_refl _ | omega | (simp; done) | (simp; omega)) _))
  · exact HO34.out.below (by repeat (first | exact Below.refl _ _ | assumption | refine Below.drew ?_ | refine Below.alloc ?_ (by first | exact Nat.le_refl _ | omega | (simp; done) | (simp; omega)) _ | refine Below.setCell ?_ (by first | exact Nat.le_refl _ | omega | (simp; done) | (simp; omega)) _))
  rintro e w5 ⟨rfl, hb5⟩
  have g0 : w5.cell? ⟨w4.heap.size, 0, none⟩ = some (.int .i64 v) := keep hb5 (by simp [go_sem])
  have g1 : w5.cell? ⟨w4.heap.size, 1, none⟩ = some (.slice p4 n4 c4) := keep hb5 (by simp [go_sem])
  have hb45 : Below w4.heap.size w4 w5 := (show Below w4.heap.size w4 _ from (by repeat (first | exact Below.refl _ _ | assumption | refine Below.drew ?_ | refine Below.alloc ?_ (by first | exact Nat.le_refl _ | omega | (simp; done) | (simp; omega)) _ | refine Below.setCell ?_ (by first | exact Nat.le_refl _ | omega | (simp; done) | (simp; omega)) _))).trans (hb5.mono (by simp))
  have HO5 := hid (HO4.out.below hb45)
  have HB5 := hid (HB4.out.trans (hb45.mono HB4.out.size))
  clear hb5 hb45
  go_wp2_with fail
  refine (cnfOK_impl v p4 n4 c4 Z _ HO5.out).mono ?_
  rintro e w6 ⟨rfl, hb6⟩
  have HB6 := hid (HB5.out.trans (hb6.mono HB5.out.size))
  rw [HCnf.out]
  clear hb6
  go_wp2
  go_ret
  exact ⟨rfl, HB6.out⟩

theorem own : ownKnob Tryd.prog.godebug = none := by kernel_rfl
theorem laidOut : laidOutB Tryd.prog = true := by kernel_rfl

/- The library's tables as their initialisers lay them. -/
def b32Tab : List Value := ([0, 1, 28, 2, 29, 14, 24, 3, 30, 22, 20, 15, 25, 17, 4, 8, 31, 27, 13, 23, 21, 19, 16, 7, 26, 12, 18, 6, 11, 5, 10, 9] : List Int).map (Value.int .u8)
def b64Tab : List Value := ([0, 1, 56, 2, 57, 49, 28, 3, 61, 58, 42, 50, 38, 29, 17, 4, 62, 47, 59, 36, 45, 43, 51, 22, 53, 39, 33, 30, 24, 18, 12, 5, 63, 55, 48, 27, 60, 41, 37, 16, 46, 35, 44, 21, 52, 32, 23, 11, 54, 26, 40, 15, 34, 20, 31, 10, 25, 14, 19, 9, 13, 8, 7, 6] : List Int).map (Value.int .u8)
def powTab : List Value := Lib.pow10Tab.map (Value.int .u64)
def accTab : List Value := ([128, 191, 160, 191, 128, 159, 144, 191, 128, 143, 0, 0, 0, 0, 0, 0, 0, 0, 0, 0, 0, 0, 0, 0, 0, 0, 0, 0, 0, 0, 0, 0] : List Int).map (Value.int .u8)
def firstTab : List Value := Pinned.utf8FirstZ.map fun n : Nat => Value.int .u8 (n : Int)
def laidAs (l : List Value) : Obj → Obj
  | .cells _ t frozen => .cells l.toArray t frozen
  | o => o
def gPow : Nat := 0
def gB32 : Nat := 2
def gB64 : Nat := 3
def gAcc : Nat := 5
def gFirst : Nat := 4
theorem table {W : World} (h : laidMetH Tryd.prog Rows.fnDimacsRow.laid W) : TabW W := by
  have h1 := h.filter (fun x => x.1 == "internal/strconv.uint64pow10")
  have h2 : laidMet Tryd.prog [("internal/strconv.uint64pow10", Lib.tabData .u64 Lib.pow10Tab)] W := h1
  exact Lib.tabIs_of_head (g := 0) (t := 92) (e := 84) (n := 20) (by kernel_rfl) (by kernel_rfl) Tryd.underlying92 Tryd.underlying84 (by kernel_rfl) (by kernel_rfl) h2

theorem max_len {W : World} (h : W.ShapedOpen Tryd.prog) : ∃ m, W.cell? ⟨1, 0, none⟩ = some (.int .i64 m) :=
  cell_of_shapedOpen_int (t := 3) (zero := #[.int .i64 0]) h (of_decide_eq_true (by kernel_rfl)) (by kernel_rfl) rfl (by kernel_rfl) (by kernel_rfl) Tryd.underlying3

theorem laid_met (os : Os) : laidMet Tryd.prog Rows.fnDimacsRow.laid (({ World.holding Tryd.prog os ⟨#[], #[], []⟩ with heap := (((((World.holding Tryd.prog os ⟨#[], #[], []⟩).heap.modify gPow (laidAs powTab)).modify gB32 (laidAs b32Tab)).modify gB64 (laidAs b64Tab)).modify gAcc (laidAs accTab)).modify gFirst (laidAs firstTab) } : World).forCall (fun _ _ => 0) ⟨#[], #[.slice none 0 0], []⟩).memory :=
  laidMet_of_run' 8 (by kernel_rfl) (by kernel_rfl)
theorem reads (os : Os) {H : Type} (enc : TypeId × Value → H) : ∃ places, DataW.whole enc Tryd.prog (({ World.holding Tryd.prog os ⟨#[], #[], []⟩ with heap := (((((World.holding Tryd.prog os ⟨#[], #[], []⟩).heap.modify gPow (laidAs powTab)).modify gB32 (laidAs b32Tab)).modify gB64 (laidAs b64Tab)).modify gAcc (laidAs accTab)).modify gFirst (laidAs firstTab) } : World).forCall (fun _ _ => 0) ⟨#[], #[.slice none 0 0], []⟩).memory Tryd.f3.params.toList Rows.fnDimacsSpec.vars false #[Value.slice none 0 0].toList 8 = some ([.nil], [], places) :=
  ⟨[], by kernel_rfl⟩

set_option maxRecDepth 100000 in
theorem contract (H : Type) (enc : TypeId × Value → H) (W : World) (base : Nat) (args : Array Value) (ds gs : List (DataW H)) (before : List MemPlace)
    (hval : ∀ (j : Nat) t v, Tryd.f3.params[j]? = some t → args[j]? = some v → Value.okWide Tryd.prog W .any base t v)
    (hW : DataW.Whole enc Tryd.prog Tryd.f3.params.toList Rows.fnDimacsSpec.vars false W args.toList ds gs before) (hL : laidMetH Tryd.prog Rows.fnDimacsRow.laid W) (hsh : W.ShapedOpen Tryd.prog) :
    Calls Tryd.prog 3 args W fun e W' => ∃ v, e = .returned v ∧ Rows.fnDimacsSpec.post enc Tryd.prog Tryd.f3 false true false false W args v W' := by
  have hW' := hW
  obtain ⟨p, q, hA0, hV, rfl, hfz, hnd⟩ := hW
  have hA : DataW.TrodAll enc Tryd.prog W 0 (fun _ => true) true Tryd.f3.params.toList args.toList ds p := hA0
  rw [Tryd.params3] at hA hval
  obtain ⟨v0, vs0, d0, ds0, p0, q0, hargs, rfl, rfl, h0, r0⟩ := trodAll_cons hA
  obtain ⟨rfl, rfl, rfl⟩ := trodAll_nil r0
  obtain rfl : args = #[v0] := by cases args; simp_all
  obtain ⟨rfl, rfl⟩ := trodVars_none hV
  have k0 := h0
  have lt0 : ∀ x ∈ p0, x.block < W.heap.size := by obtain ⟨m, hm⟩ := k0; exact DataW.trod_lt m _ _ _ hm
  obtain ⟨a, la, ca, rfl⟩ := okWide_slice Tryd.underlying22 (hval 0 22 v0 rfl rfl)
  have hba : source.Bytes W a la ∧ la ≤ maxLen := by
    obtain ⟨fuel, hf⟩ := h0
    obtain ⟨a', l', c', e, hb⟩ := bytes_of_trod Tryd.underlying22 Tryd.underlying5 (by kernel_rfl) (by simpa [Value.cells] using hf)
    cases e
    exact hb
  obtain ⟨m, hm⟩ := max_len hsh
  clear hA0
  refine (walk a la ca m W hba.1 hba.2 (table hL) hm).mono fun e W' ⟨he, bel⟩ => ?_
  subst he
  exact ⟨_, rfl, _, _, _, [], _, [], hW', trodAll_mk1 (shut_bool Tryd.underlying4 _), (trodAll_cons_mk (Below.trod laidOut (by kernel_rfl) (of_decide_eq_true (by kernel_rfl)) k0 bel lt0) trodAll_mk0), rfl, bel.frame _, fun h => by cases h⟩

set_option maxRecDepth 100000 in
theorem lifted (os : Os) (started : os.Started) (H : Type) (enc : TypeId × Value → H) (F : Stop.Interp) :
    ReturnsInHanded {} Tryd.checked os 3 .any ((OpenSpec.ofChange Rows.fnDimacsSpec).preRow enc Tryd.prog Tryd.f3 Rows.fnDimacsRow.domain false Rows.fnDimacsRow.laid) (((OpenSpec.ofChange Rows.fnDimacsSpec).at F).post enc Tryd.prog Tryd.f3 false true false false) := by
  obtain ⟨places, hx⟩ := reads os enc
  refine returnsInHanded_of_row (C := Tryd.checked) (s := OpenSpec.ofChange Rows.fnDimacsSpec) own started (by kernel_rfl) Tryd.func3
    (witness_row_at (enc := enc) (C := Tryd.checked) false ({ World.holding Tryd.prog os ⟨#[], #[], []⟩ with heap := (((((World.holding Tryd.prog os ⟨#[], #[], []⟩).heap.modify gPow (laidAs powTab)).modify gB32 (laidAs b32Tab)).modify gB64 (laidAs b64Tab)).modify gAcc (laidAs accTab)).modify gFirst (laidAs firstTab) } : World) #[.slice none 0 0] rfl (by kernel_rfl) (by kernel_rfl) (by kernel_rfl)
      (OpenSpec.preRow_of_cond 8 hx (by kernel_rfl) (fun k hk => by cases hk) (by kernel_rfl) (laid_met os))) ?_
  intro W base args ds gs before hval hW _ _ _ hL hsh _
  exact contract H enc W base args ds gs before hval hW hL hsh

theorem said : Rows.FnDimacsSaid :=
  OpenClaim.holds_of_cond 3 Tryd.f3 rfl rfl rfl rfl rfl rfl rfl ⟨rfl, rfl, rfl, rfl, rfl⟩ rfl rfl rfl rfl rfl (by kernel_rfl) Tryd.func3 (by kernel_rfl)
    (of_decide_eq_true (by kernel_rfl)) (by unfold Func.isWrapper; first | (rw [if_pos (by decide +kernel)]; kernel_rfl) | (rw [if_neg (by decide +kernel)]; exact ⟨rfl, rfl⟩))
    (fun os started H enc _ F => by rw [OpenClaim.pre_eq_preRow]; exact lifted os started H enc F)

theorem plain (f : FuncId) (fn : Func) (hf : Tryd.pinned.checked.prog.funcNamed "loop.example/g00159/laws.FnDimacs" = some f) (hfn : Tryd.pinned.checked.prog.funcs[f]? = some fn) :
    false = Tryd.pinned.checked.prog.looks [] ∧ ∀ (j : Nat) t, fn.params[j]? = some t → Tryd.pinned.checked.prog.wantsStandIn t = false := by
  obtain rfl : f = 3 := Option.some.inj ((show Tryd.prog.funcNamed "loop.example/g00159/laws.FnDimacs" = some 3 by kernel_rfl).symm.trans hf) |>.symm
  obtain rfl : fn = Tryd.f3 := (Option.some.inj (Tryd.func3.symm.trans hfn)).symm
  refine ⟨by kernel_rfl, fun j t ht => ?_⟩
  rw [Tryd.params3] at ht
  obtain rfl : t = 22 := by simpa using Array.mem_of_getElem? ht
  exact (show Tryd.prog.wantsStandIn 22 = false by kernel_rfl)
end Go.Proofs.YtdphkbpjbcnbpaaDoor.fnDimacs
namespace Go.Proofs.YtdphkbpjbcnbpaaDoor
theorem fnDimacs_holds : Rows.FnDimacsCardSaid :=
  Claim7.holds_tied_plain_at .later [] _ _ _ _ fnDimacs.said (fun _ h => by cases h) (by kernel_rfl) (fun _ h => by cases h) fnDimacs_row_tie rfl ⟨rfl, rfl⟩ (by kernel_rfl) rfl fnDimacs.plain (by kernel_rfl)
end Go.Proofs.YtdphkbpjbcnbpaaDoor
