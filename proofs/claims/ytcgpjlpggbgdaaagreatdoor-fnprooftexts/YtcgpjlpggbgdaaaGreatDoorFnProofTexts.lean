/- For every two codes the text of the steps drawn out of them is what the specification says, and read again it is the steps; more than two hundred have none; the library's tables and its handle of the error type are as their initialisers lay them, tied to the program's text; conditions: none. -/
import Derived.Test.YtcgpjlpggbgdaaaGreatDoorProofImpl
import Derived.Test.YtcgpjlpggbgdaaaGreatDoorProofSpec
import Derived.Test.YtcgpjlpggbgdaaaGreatDoorReadFace
import Derived.Test.YtcgpjlpggbgdaaaGreatDoorReadBack
import Derived.Test.YtcgpjlpggbgdaaaGreatDoorStepsEq
import Derived.Test.YtcgpjlpggbgdaaaGreatDoorStepsOf
import Derived.Test.YtcgpjlpggbgdaaaGreatDoorByteArgsI
import Derived.Test.YtcgpjlpggbgdaaaGreatDoorCards
import Derived.Test.YtcgpjlpggbgdaaaGreatDoorTie
import Derived.BigQuiet
import Derived.OpenVars
import Derived.SevenTiedAt
import Derived.Deep.DeepHandedRow
import Derived.Lib.LaidTab
import Derived.LaidSub
import Derived.Shelf.Vars
namespace Go.Proofs.YtcgpjlpggbgdaaaGreatDoor.fnProofTexts
open Go.ChangeShapes Go.WideShapes Go.ChangeAt Go.RowKit Go.Deep Go.Joins base copy args byteArgs
open lines (TabW)
open faultS (ErrW)
open readSpecP (Pt pcs OwnSteps strip)
set_option linter.unusedVariables false

abbrev St := Bool × List Int
theorem row_steps {B : Nat} {w : World} {v : Value} {ps : List Pt} {ss : List St} (h : OwnSteps B w v ps) (hs : ps.map strip = ss) : ∃ a c, v = .slice a ss.length c ∧ steps.StepRow w a ss.length ss := by
  obtain ⟨a, c, e, hr⟩ := stepsEq.row_of_steps h hs
  exact ⟨a, c, e, ⟨hr.length, hr.most, hr.cell⟩⟩
theorem right_all {v : Nat} {ps : List Pt} (hv : v ≤ 40) (h : refFace.Right (v : Int) ps) : ∀ s ∈ ps.map strip, readBack.RightS s := fun s hs => by
  obtain ⟨p, hp, rfl⟩ := List.mem_map.1 hs
  obtain ⟨h1, h2⟩ := h p hp
  refine ⟨h1, fun z hz => ?_⟩
  have := (of_decide_eq_true (h2 z hz) : z ≠ 0 ∧ -(v : Int) ≤ z ∧ z ≤ v)
  exact decide_eq_true ⟨this.1, by omega, by omega⟩
theorem steps_ok {ss : List St} (h : ∀ s ∈ ss, readBack.RightS s) (hl : ss.length ≤ 200) : stepsImpl.stepsB 40 ss = true := by
  unfold stepsImpl.stepsB
  rw [decide_eq_true hl, Bool.true_and, List.all_eq_true]
  intro s hs
  unfold cnf.clauseB
  rw [decide_eq_true (h s hs).1, Bool.true_and, List.all_eq_true]
  exact fun z hz => (h s hs).2 z hz
theorem step_bytes {s : St} (h : readBack.RightS s) : stepsImpl.stepBytes s = readBack.sb s ++ [10] := by
  have e : s.2.flatMap lines.litBytes = s.2.flatMap (fun z => readBack.lb z ++ [32]) := by
    have gen : ∀ zs : List Int, (∀ z ∈ zs, stepRead.litB 40 z = true) → zs.flatMap lines.litBytes = zs.flatMap (fun z => readBack.lb z ++ [32]) := by
      intro zs
      induction zs with
      | nil => intro _; rfl
      | cons z zs ih =>
        intro hz
        rw [List.flatMap_cons, List.flatMap_cons, ih (fun y hy => hz y (by simp [hy]))]
        unfold lines.litBytes
        rw [readBack.lb_eq (hz z (by simp))]
    exact gen s.2 h.2
  unfold stepsImpl.stepBytes lines.lineBytes readBack.sb
  rw [e]
  simp
theorem proof_bytes : ∀ ss : List St, (∀ s ∈ ss, readBack.RightS s) → stepsImpl.proofBytes ss = readBack.flat ss
  | [], _ => rfl
  | s :: ss, h => by
    have ih := proof_bytes ss (fun x hx => h x (by simp [hx]))
    unfold stepsImpl.proofBytes readBack.flat at *
    rw [List.flatMap_cons, List.flatMap_cons, ih, step_bytes (h s (by simp))]
theorem pt_good {ss : List St} (h : ∀ s ∈ ss, readBack.RightS s) (hl : ss.length ≤ 200) : stepsImpl.ptCode ss = 0 ∧ (⟨(stepsImpl.ptBytes ss).toArray⟩ : ByteArray) = cuts.piece (readBack.flat ss) := by
  unfold stepsImpl.ptCode stepsImpl.ptBytes
  have hk : ¬ 4096 < ss.length := by omega
  rw [if_neg hk, if_neg hk, steps_ok h hl, if_pos rfl, if_pos rfl, proof_bytes ss h]
  exact ⟨rfl, rfl⟩
theorem pt_many {ss : List St} (h : 200 < ss.length) (h2 : ss.length ≤ 4096) : stepsImpl.ptCode ss = 1 := by
  unfold stepsImpl.ptCode stepsImpl.stepsB
  rw [if_neg (by omega), decide_eq_false (by omega), Bool.false_and, if_neg (by simp)]
set_option maxHeartbeats 1600000 in
set_option maxRecDepth 8000 in
theorem same_steps (a a' : Option Addr) (len cap cap' : Nat) (ss : List St) (w : World) (hr : steps.StepRow w a len ss) (hr' : steps.StepRow w a' len ss) :
    Calls Tryz.prog 9 #[.slice a len cap, .slice a' len cap'] w fun e w' => e = .returned (.bool true) ∧ Below w.heap.size w w' := by
  have hmost := hr.most
  unfold maxLen at hmost
  have HR := hid hr
  have HR' := hid hr'
  clear hr hr'
  have hbl : ((len : Int) != (len : Int)) = false := by simp
  go_enter Tryz.func9, Tryz.ntmps9
  go_wp2
  go_loopw [5] (fun i wr => ∃ k q : Nat, k ≤ len ∧ i = .int .i64 k ∧ wr = w.drewN q) (fun i _ => len - (intOf i).toNat)
  case atStart => exact ⟨0, 0, Nat.zero_le _, rfl, rfl⟩
  case round =>
    obtain ⟨k, q, hk, rfl, hw⟩ := hrel
    have HB : Hid (Below w.heap.size w wr) := hid (by rw [hw]; exact sorted.bdn (Below.refl _ _) q)
    have HW := hid hw
    clear hw
    by_cases hlt : k < len
    · obtain ⟨b, off, rfl, hc0, x, l, c, hc1, hx0⟩ := HR.out.cell k hlt
      obtain ⟨b', off', rfl, hc0', x', l', c', hc1', hx0'⟩ := HR'.out.cell k hlt
      replace hc0 := keep HB.out hc0
      replace hc1 := keep HB.out hc1
      replace hc0' := keep HB.out hc0'
      replace hc1' := keep HB.out hc1'
      have HX := hid (hx0.below HB.out)
      have HX' := hid (hx0'.below HB.out)
      clear hx0 hx0'
      generalize ss[k]?.getD (false, []) = y at *
      obtain ⟨d, zs⟩ := y
      simp only at hc0 hc0' HX HX'
      have HC : Hid (∀ q, Calls Tryz.prog 23 #[.slice x l c, .slice x' l' c'] (wr.drewN q) fun e w' => e = .returned (.bool true) ∧ ∃ n, w' = (wr.drewN q).drewN n) := hid (fun q => (cnfDraw.same_ints x x' l l' c c' zs zs _ (HX.out.drewN q) (HX'.out.drewN q)).mono (fun e w' ⟨he, hw⟩ => ⟨by rw [he, decide_eq_true rfl], hw⟩))
      have i1 : (0 : Int) ≤ (k : Int) := by omega
      have i2 : (k : Int) < (len : Int) := by omega
      have hdd : (d != d) = false := by simp
      go_wp2
      go_quiet ((go_at_call 23; exact Calls.quiet_of (HC.out _)))
      go_wp2
      go_roundw
      case rel => exact ⟨k + 1, q + nq, by omega, by go_num, by rw [HW.out, World.drewN_drewN]⟩
      case measure => simp [intOf]; omega
    · have e : k = len := by omega
      subst e
      go_wp2
      go_ret
      exact ⟨rfl, HB.out⟩

set_option maxHeartbeats 6400000 in
set_option maxRecDepth 8000 in
theorem walk (a a' : Option Addr) (len len' cap cap' : Nat) (m : Int) (w : World) (hby : source.Bytes w a len) (hby' : source.Bytes w a' len') (hmost : len ≤ maxLen) (hmost' : len' ≤ maxLen) (ht : TabW w) (he : ErrW w) (hm : w.cell? ⟨1, 0, none⟩ = some (.int .i64 m)) :
    Calls Tryz.prog 3 #[.slice a len cap, .slice a' len' cap'] w fun e w' => e = .returned (.bool true) ∧ Below w.heap.size w w' := by
  unfold maxLen at hmost hmost'
  have HBy := hid hby
  have HBy' := hid hby'
  have HTb := hid ht
  have HEr := hid he
  have HM := hid hm
  clear hby hby' ht he hm
  by_cases h1 : 1048576 < len ∨ 1048576 < len'
  · have h1' : ¬ (1048576 < (len : Int)) → 1048576 < (len' : Int) := by omega
    by_cases h2 : 1048576 < (len : Int)
    · go_enter Tryz.func3, Tryz.ntmps3
      go_wp2
      go_ret
      exact ⟨rfl, Below.refl _ _⟩
    · have h3 := h1' h2
      clear h1' h1
      go_enter Tryz.func3, Tryz.ntmps3
      go_wp2
      go_ret
      exact ⟨rfl, Below.refl _ _⟩
  have hla : len ≤ 1048576 := by omega
  have hla' : (len : Int) ≤ 1048576 := by omega
  have hlb : len' ≤ 1048576 := by omega
  have hlb' : (len' : Int) ≤ 1048576 := by omega
  clear h1
  go_enter Tryz.func3, Tryz.ntmps3
  go_wp2_with fail
  refine (cnfDraw.cnfOf_spec a len cap _ HBy.out hla).mono ?_
  rintro e w1 ⟨v, p, n, c, psZ, rfl, hv1, hv6, ho1, hcnf, hp16, hb1⟩
  obtain ⟨nv, rfl⟩ := Int.eq_ofNat_of_zero_le (show 0 ≤ v by omega)
  have hn16 : n ≤ 16 := by
    have := (rowsOwn.rows_of_own ho1).length
    rw [List.length_map] at this
    omega
  have HSt := hid (stepsOf.stepsOf_spec a' len' cap' w.heap.size nv n c p psZ w1 (fun i hi => by obtain ⟨bb, off, e, x, hx, hc⟩ := HBy'.out i hi; exact ⟨bb, off, e, x, hx, keep hb1 hc⟩) hlb ho1 hcnf (by omega) hb1.size hn16)
  have HB1 := hid hb1
  have hnv : nv ≤ 40 := by omega
  clear ho1 hcnf hb1 hp16
  go_wp2_with fail
  refine HSt.out.mono ?_
  rintro e w2 ⟨g2, c2, ps, rfl, ho2, hri, hfe, hb2⟩
  have HB2 := hid (HB1.out.trans (hb2.mono HB1.out.size))
  obtain ⟨ss, hss⟩ : ∃ ss, ps.map strip = ss := ⟨_, rfl⟩
  have hR : ∀ s ∈ ss, readBack.RightS s := by rw [← hss]; exact right_all hnv hri
  obtain ⟨a2, c2', e2, hrow⟩ := row_steps ho2 hss
  have hpl : ps.length = ss.length := by rw [← hss, List.length_map]
  have hlen : ss.length ≤ 202 := by omega
  obtain ⟨L, hL⟩ : ∃ L, ss.length = L := ⟨_, rfl⟩
  rw [hpl] at e2 ⊢
  rw [hL] at e2 hrow hlen ⊢
  injection e2 with e2a e2b e2c
  subst e2c
  rw [← e2a] at hrow
  have HRow := hid hrow
  have HRt := hid hR
  have HLen := hid hL
  clear hrow hR hL hpl hss ho2 hri hb2 e2a e2b hfe HSt
  have HPI := hid (fun w hr ht he => proofImpl.pt_impl (some ⟨g2, 0, none⟩) L c2 ss w hr ht he)
  have HPS := hid (fun w hr => proofSpec.pt_spec (some ⟨g2, 0, none⟩) L c2 ss w hr)
  by_cases hbig : 200 < L
  · have hcode : stepsImpl.ptCode ss = 1 := pt_many (by rw [HLen.out]; exact hbig) (by rw [HLen.out]; omega)
    have hbi : (200 : Int) < (L : Int) := by omega
    have htb : stepsImpl.ptBytes ss = [] := by
      unfold stepsImpl.ptBytes stepsImpl.stepsB
      rw [if_neg (by rw [HLen.out]; omega), decide_eq_false (by rw [HLen.out]; omega), Bool.false_and, if_neg (by simp)]
    rw [hcode, htb] at HPI HPS
    have HRP := hid (fun w hm he => readFace.rp_impl (⟨([] : List UInt8).toArray⟩ : ByteArray) m w (by decide) hm he)
    generalize readSpecP.readR (⟨([] : List UInt8).toArray⟩ : ByteArray) = R at *
    obtain ⟨s0, hs0⟩ : ∃ s0 : ByteArray, (⟨([] : List UInt8).toArray⟩ : ByteArray) = s0 := ⟨_, rfl⟩
    rw [hs0] at HPI HPS HRP
    clear hs0 hcode htb
    go_wp2_with fail
    refine (HPI.out _ HRow.out (HTb.out.below HB2.out) (HEr.out.below HB2.out)).mono ?_
    rintro e w3 ⟨rfl, hb3⟩
    have HB3 := hid (HB2.out.trans (hb3.mono HB2.out.size))
    have HRow3 := hid (HRow.out.below hb3)
    clear hb3
    go_wp2_with fail
    refine (HPS.out _ HRow3.out).mono ?_
    rintro e w4 ⟨rfl, hb4⟩
    have HB4 := hid (HB3.out.trans (hb4.mono HB3.out.size))
    clear hb4
    go_wp2_with fail
    refine (HRP.out _ (keep HB4.out HM.out) (HEr.out.below HB4.out)).mono ?_
    rintro e w5 ⟨v5, ps5, rfl, -, -, -, hb5⟩
    have HB5 := hid (HB4.out.trans (hb5.mono HB4.out.size))
    clear hb5
    go_wp2
    go_ret
    exact ⟨rfl, HB5.out⟩
  · have hbi : ¬ (200 : Int) < (L : Int) := by omega
    obtain ⟨hcode, htx⟩ := pt_good HRt.out (by rw [HLen.out]; omega)
    rw [hcode, htx] at HPI HPS
    have hrb := readBack.read_back ss HRt.out (by rw [HLen.out]; omega)
    have hsz : (cuts.piece (readBack.flat ss)).size ≤ 1048576 := by
      have h1 := readBack.flat_len ss HRt.out
      have h2 : (cuts.piece (readBack.flat ss)).size = (readBack.flat ss).length := by simp [cuts.piece, ByteArray.size]
      have h3 := HLen.out
      omega
    have HRP := hid (fun w hm he => readFace.rp_impl (cuts.piece (readBack.flat ss)) m w hsz hm he)
    rw [hrb] at HRP
    generalize cuts.piece (readBack.flat ss) = t at *
    have qs : (t.toList == t.toList) = true := by simp
    clear hcode htx hrb hsz
    go_wp2_with fail
    refine (HPI.out _ HRow.out (HTb.out.below HB2.out) (HEr.out.below HB2.out)).mono ?_
    rintro e w3 ⟨rfl, hb3⟩
    have HB3 := hid (HB2.out.trans (hb3.mono HB2.out.size))
    have HRow3 := hid (HRow.out.below hb3)
    clear hb3
    go_wp2_with fail
    refine (HPS.out _ HRow3.out).mono ?_
    rintro e w4 ⟨rfl, hb4⟩
    have HB4 := hid (HB3.out.trans (hb4.mono HB3.out.size))
    have HRow4 := hid (HRow3.out.below hb4)
    clear hb4
    go_wp2_with fail
    refine (HRP.out _ (keep HB4.out HM.out) (HEr.out.below HB4.out)).mono ?_
    rintro e w5 ⟨v5, ps5, rfl, ho5, -, hs5, hb5⟩
    have hs5' : ps5.map strip = ss := hs5
    obtain ⟨a5, c5, e5, hrow5⟩ := row_steps ho5 hs5'
    rw [HLen.out] at e5 hrow5
    subst e5
    have HRow5 := hid hrow5
    have HRow45 := hid (HRow4.out.below hb5)
    have HB5 := hid (HB4.out.trans (hb5.mono HB4.out.size))
    have hcr : readSpecP.codeR (Except.ok ss : Except (Int × Int) (List St)) = 0 := rfl
    clear hb5 ho5 hs5 hs5' hrow5
    rw [hcr]
    clear hcr
    go_wp2_with fail
    refine (same_steps a5 (some ⟨g2, 0, none⟩) L c5 c2 ss _ HRow5.out HRow45.out).mono ?_
    rintro e w6 ⟨rfl, hb6⟩
    have HB6 := hid (HB5.out.trans (hb6.mono HB5.out.size))
    clear hb6
    go_wp2
    go_ret
    exact ⟨rfl, HB6.out⟩

theorem own : ownKnob Tryz.prog.godebug = none := by kernel_rfl
theorem laidOut : laidOutB Tryz.prog = true := by kernel_rfl

/- The library's tables as their initialisers lay them. -/
def b32Tab : List Value := ([0, 1, 28, 2, 29, 14, 24, 3, 30, 22, 20, 15, 25, 17, 4, 8, 31, 27, 13, 23, 21, 19, 16, 7, 26, 12, 18, 6, 11, 5, 10, 9] : List Int).map (Value.int .u8)
def b64Tab : List Value := ([0, 1, 56, 2, 57, 49, 28, 3, 61, 58, 42, 50, 38, 29, 17, 4, 62, 47, 59, 36, 45, 43, 51, 22, 53, 39, 33, 30, 24, 18, 12, 5, 63, 55, 48, 27, 60, 41, 37, 16, 46, 35, 44, 21, 52, 32, 23, 11, 54, 26, 40, 15, 34, 20, 31, 10, 25, 14, 19, 9, 13, 8, 7, 6] : List Int).map (Value.int .u8)
def powTab : List Value := Lib.pow10Tab.map (Value.int .u64)
def accTab : List Value := ([128, 191, 160, 191, 128, 159, 144, 191, 128, 143, 0, 0, 0, 0, 0, 0, 0, 0, 0, 0, 0, 0, 0, 0, 0, 0, 0, 0, 0, 0, 0, 0] : List Int).map (Value.int .u8)
def firstTab : List Value := Pinned.utf8FirstZ.map fun n : Nat => Value.int .u8 (n : Int)
def laidAs (l : List Value) : Obj → Obj
  | .cells _ t frozen => .cells l.toArray t frozen
  | o => o
def gPow : Nat := 2
def gB32 : Nat := 5
def gB64 : Nat := 6
def gAcc : Nat := 4
def gFirst : Nat := 3
theorem max_len {W : World} (h : W.ShapedOpen Tryz.prog) : ∃ m, W.cell? ⟨1, 0, none⟩ = some (.int .i64 m) :=
  cell_of_shapedOpen_int (t := 3) (zero := #[.int .i64 0]) h (of_decide_eq_true (by kernel_rfl)) (by kernel_rfl) rfl (by kernel_rfl) (by kernel_rfl) Tryz.underlying3

def gErr : Nat := 0
def errTab : List Value := [.iface 122 (.agg #[.pointer (some ⟨7, 68, none⟩)])]
theorem et : Tryz.prog.globalNamed "errors.errorType" = some 0 := by kernel_rfl
theorem rt : (Tryz.prog.cutTypes.find? (·.1 == "internal/reflectlite.rtype")).map (·.2) = some 122 := by kernel_rfl
theorem oneRow : ((List.range Tryz.prog.types.size).filter fun t => Tryz.prog.rowNamed t [101, 114, 114, 111, 114]) = [68] := by kernel_rfl
theorem errs {W : World} (h : laidMetH Tryz.prog Rows.fnProofTextsRow.laid W) : ErrW W := by
  have h1 := h.filter (fun x => x.1 == "errors.errorType")
  have h2 : laidMet Tryz.prog [] W ∧ handlesMet Tryz.prog [("errors.errorType", Rows.laid_errors_errorType)] W := h1
  obtain ⟨name, u, ty, e1, e2, e3, e4, e5⟩ := h2.2 _ (List.mem_singleton.2 rfl)
  have en : name = [101, 114, 114, 111, 114] := (Option.some.inj e1).symm
  subst en
  obtain rfl := Option.some.inj (rt.symm.trans e2)
  have hm : ty ∈ (List.range Tryz.prog.types.size).filter fun t => Tryz.prog.rowNamed t [101, 114, 114, 111, 114] := List.mem_filter.2 ⟨List.mem_range.2 e3, e4⟩
  rw [oneRow] at hm
  obtain rfl := List.mem_singleton.1 hm
  have hh : typeHandle Tryz.prog 68 = .pointer (some ⟨7, 68, none⟩) := by kernel_rfl
  rw [hh] at e5
  show W.cell? _ = _
  simpa using World.var?_cell et e5 0

theorem table {W : World} (h : laidMetH Tryz.prog Rows.fnProofTextsRow.laid W) : TabW W := by
  have h1 := h.filter (fun x => x.1 == "internal/strconv.uint64pow10")
  have h2 : laidMet Tryz.prog [("internal/strconv.uint64pow10", Lib.tabData .u64 Lib.pow10Tab)] W := h1
  exact Lib.tabIs_of_head (g := 2) (t := 149) (e := 139) (n := 20) (by kernel_rfl) (by kernel_rfl) Tryz.underlying149 Tryz.underlying139 (by kernel_rfl) (by kernel_rfl) h2

theorem laid_met (os : Os) : laidMetH Tryz.prog Rows.fnProofTextsRow.laid (({ World.holding Tryz.prog os ⟨#[], #[], []⟩ with heap := ((((((World.holding Tryz.prog os ⟨#[], #[], []⟩).heap.modify gPow (laidAs powTab)).modify gB32 (laidAs b32Tab)).modify gB64 (laidAs b64Tab)).modify gAcc (laidAs accTab)).modify gErr (laidAs errTab)).modify gFirst (laidAs firstTab) } : World).forCall (fun _ _ => 0) ⟨#[], #[.slice none 0 0, .slice none 0 0], []⟩).memory :=
  laidMetH_of_parts (laidMet_of_run' 8 (by kernel_rfl) (by kernel_rfl)) (by kernel_rfl)
theorem reads (os : Os) {H : Type} (enc : TypeId × Value → H) : ∃ places, DataW.whole enc Tryz.prog (({ World.holding Tryz.prog os ⟨#[], #[], []⟩ with heap := ((((((World.holding Tryz.prog os ⟨#[], #[], []⟩).heap.modify gPow (laidAs powTab)).modify gB32 (laidAs b32Tab)).modify gB64 (laidAs b64Tab)).modify gAcc (laidAs accTab)).modify gErr (laidAs errTab)).modify gFirst (laidAs firstTab) } : World).forCall (fun _ _ => 0) ⟨#[], #[.slice none 0 0, .slice none 0 0], []⟩).memory Tryz.f3.params.toList Rows.fnProofTextsSpec.vars false #[Value.slice none 0 0, Value.slice none 0 0].toList 8 = some ([.nil, .nil], [], places) :=
  ⟨[], by kernel_rfl⟩

set_option maxRecDepth 100000 in
theorem contract (H : Type) (enc : TypeId × Value → H) (W : World) (base : Nat) (args : Array Value) (ds gs : List (DataW H)) (before : List MemPlace)
    (hval : ∀ (j : Nat) t v, Tryz.f3.params[j]? = some t → args[j]? = some v → Value.okWide Tryz.prog W .any base t v)
    (hW : DataW.Whole enc Tryz.prog Tryz.f3.params.toList Rows.fnProofTextsSpec.vars false W args.toList ds gs before) (hL : laidMetH Tryz.prog Rows.fnProofTextsRow.laid W) (hsh : W.ShapedOpen Tryz.prog) :
    Calls Tryz.prog 3 args W fun e W' => ∃ v, e = .returned v ∧ Rows.fnProofTextsSpec.post enc Tryz.prog Tryz.f3 false true false false W args v W' := by
  have hW' := hW
  obtain ⟨p, q, hA0, hV, rfl, hfz, hnd⟩ := hW
  have hA : DataW.TrodAll enc Tryz.prog W 0 (fun _ => true) true Tryz.f3.params.toList args.toList ds p := hA0
  rw [Tryz.params3] at hA hval
  obtain ⟨v0, vs0, d0, ds0, p0, q0, hargs, rfl, rfl, h0, r0⟩ := trodAll_cons hA
  obtain ⟨v1, vs1, d1, ds1, p1, q1, rfl, rfl, rfl, h1, r1⟩ := trodAll_cons r0
  obtain ⟨rfl, rfl, rfl⟩ := trodAll_nil r1
  obtain rfl : args = #[v0, v1] := by cases args; simp_all
  obtain ⟨rfl, rfl⟩ := trodVars_none hV
  have k0 := h0
  have lt0 : ∀ x ∈ p0, x.block < W.heap.size := by obtain ⟨m, hm⟩ := k0; exact DataW.trod_lt m _ _ _ hm
  have k1 := h1
  have lt1 : ∀ x ∈ p1, x.block < W.heap.size := by obtain ⟨m, hm⟩ := k1; exact DataW.trod_lt m _ _ _ hm
  obtain ⟨a0, la0, ca0, rfl⟩ := okWide_slice Tryz.underlying22 (hval 0 22 v0 rfl rfl)
  have hba0 : source.Bytes W a0 la0 ∧ la0 ≤ maxLen := by
    obtain ⟨fuel, hf⟩ := h0
    obtain ⟨a', l', c', e, hb⟩ := bytes_of_trod Tryz.underlying22 Tryz.underlying5 (by kernel_rfl) (by simpa [Value.cells] using hf)
    cases e
    exact hb
  obtain ⟨a1, la1, ca1, rfl⟩ := okWide_slice Tryz.underlying22 (hval 1 22 v1 rfl rfl)
  have hba1 : source.Bytes W a1 la1 ∧ la1 ≤ maxLen := by
    obtain ⟨fuel, hf⟩ := h1
    obtain ⟨a', l', c', e, hb⟩ := bytes_of_trod Tryz.underlying22 Tryz.underlying5 (by kernel_rfl) (by simpa [Value.cells] using hf)
    cases e
    exact hb
  obtain ⟨m, hm⟩ := max_len hsh
  clear hA0
  refine (walk a0 a1 la0 la1 ca0 ca1 m W hba0.1 hba1.1 hba0.2 hba1.2 (table hL) (errs hL) hm).mono fun e W' ⟨he, bel⟩ => ?_
  subst he
  exact ⟨_, rfl, _, _, _, [], _, [], hW', trodAll_mk1 (shut_bool Tryz.underlying4 _), (trodAll_cons_mk (Below.trod laidOut (by kernel_rfl) (of_decide_eq_true (by kernel_rfl)) k0 bel lt0) (trodAll_cons_mk (Below.trod laidOut (by kernel_rfl) (of_decide_eq_true (by kernel_rfl)) k1 bel lt1) trodAll_mk0)), rfl, bel.frame _, fun h => by cases h⟩

set_option maxRecDepth 100000 in
theorem lifted (os : Os) (started : os.Started) (H : Type) (enc : TypeId × Value → H) (F : Stop.Interp) :
    ReturnsInHanded {} Tryz.checked os 3 .any ((OpenSpec.ofChange Rows.fnProofTextsSpec).preRow enc Tryz.prog Tryz.f3 Rows.fnProofTextsRow.domain false Rows.fnProofTextsRow.laid) (((OpenSpec.ofChange Rows.fnProofTextsSpec).at F).post enc Tryz.prog Tryz.f3 false true false false) := by
  obtain ⟨places, hx⟩ := reads os enc
  refine returnsInHanded_of_row (C := Tryz.checked) (s := OpenSpec.ofChange Rows.fnProofTextsSpec) own started (by kernel_rfl) Tryz.func3
    (witness_row_at (enc := enc) (C := Tryz.checked) false ({ World.holding Tryz.prog os ⟨#[], #[], []⟩ with heap := ((((((World.holding Tryz.prog os ⟨#[], #[], []⟩).heap.modify gPow (laidAs powTab)).modify gB32 (laidAs b32Tab)).modify gB64 (laidAs b64Tab)).modify gAcc (laidAs accTab)).modify gErr (laidAs errTab)).modify gFirst (laidAs firstTab) } : World) #[.slice none 0 0, .slice none 0 0] rfl (by kernel_rfl) (by kernel_rfl) (by kernel_rfl)
      (OpenSpec.preRow_of_cond 8 hx (by kernel_rfl) (fun k hk => by cases hk) (by kernel_rfl) (laid_met os))) ?_
  intro W base args ds gs before hval hW _ _ _ hL hsh _
  exact contract H enc W base args ds gs before hval hW hL hsh

theorem said : Rows.FnProofTextsSaid :=
  OpenClaim.holds_of_cond 3 Tryz.f3 rfl rfl rfl rfl rfl rfl rfl ⟨rfl, rfl, rfl, rfl, rfl⟩ rfl rfl rfl rfl rfl (by kernel_rfl) Tryz.func3 (by kernel_rfl)
    (of_decide_eq_true (by kernel_rfl)) (by unfold Func.isWrapper; first | (rw [if_pos (by decide +kernel)]; kernel_rfl) | (rw [if_neg (by decide +kernel)]; exact ⟨rfl, rfl⟩))
    (fun os started H enc _ F => by rw [OpenClaim.pre_eq_preRow]; exact lifted os started H enc F)

theorem plain (f : FuncId) (fn : Func) (hf : Tryz.pinned.checked.prog.funcNamed "loop.example/g00159/laws.FnProofTexts" = some f) (hfn : Tryz.pinned.checked.prog.funcs[f]? = some fn) :
    true = Tryz.pinned.checked.prog.looks [] ∧ ∀ (j : Nat) t, fn.params[j]? = some t → Tryz.pinned.checked.prog.wantsStandIn t = false := by
  obtain rfl : f = 3 := Option.some.inj ((show Tryz.prog.funcNamed "loop.example/g00159/laws.FnProofTexts" = some 3 by kernel_rfl).symm.trans hf) |>.symm
  obtain rfl : fn = Tryz.f3 := (Option.some.inj (Tryz.func3.symm.trans hfn)).symm
  refine ⟨by kernel_rfl, fun j t ht => ?_⟩
  rw [Tryz.params3] at ht
  obtain rfl : t = 22 := by
    have := Array.mem_of_getElem? ht
    simpa using this
  exact (show Tryz.prog.wantsStandIn 22 = false by kernel_rfl)
end Go.Proofs.YtcgpjlpggbgdaaaGreatDoor.fnProofTexts
namespace Go.Proofs.YtcgpjlpggbgdaaaGreatDoor
theorem fnProofTexts_holds : Rows.FnProofTextsCardSaid :=
  Claim7.holds_tied_plain_at .later [] _ _ _ _ fnProofTexts.said (fun _ h => by cases h) (by kernel_rfl) (fun _ h => by cases h) fnProofTexts_row_tie rfl ⟨rfl, rfl⟩ (by kernel_rfl) rfl fnProofTexts.plain (by kernel_rfl)
end Go.Proofs.YtcgpjlpggbgdaaaGreatDoor
