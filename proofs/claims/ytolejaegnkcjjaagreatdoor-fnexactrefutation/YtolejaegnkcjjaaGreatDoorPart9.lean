/- RefFace; RefBad; Eval; Sets: one text, so that the claim has fewer files. -/
import Derived.Test.YtolejaegnkcjjaaGreatDoorRefImpl
import Derived.Test.YtolejaegnkcjjaaGreatDoorPart5
import Derived.Laws.BitsAllLaws
import Derived.Laws.Bits64b
import Derived.Laws.Shifts
/- A refutation of a right formula, of the specification: its steps are right, at most two hundred, in memory of their own; conditions: a right formula. -/
namespace Go.Proofs.YtolejaegnkcjjaaGreatDoor.refFace
open Go.RowKit Go.Deep base copy runS rowsOwn runL refSem refImpl
open readSpecP (Pt pcs OwnSteps strip)
set_option linter.unusedVariables false

theorem cnf_lits {v : Int} {psZ : List (Value × List Int)} (h : cnf.cnfB v (psZ.map (·.2)) = true) : 0 ≤ v ∧ v ≤ 40 ∧ ∀ p ∈ psZ, ∀ z ∈ p.2, cnf.litB v z = true := by
  unfold cnf.cnfB at h
  rw [Bool.and_eq_true] at h
  obtain ⟨h1, h2, -⟩ := of_decide_eq_true h.1
  refine ⟨h1, h2, fun p hp z hz => ?_⟩
  have h3 := List.all_eq_true.1 h.2 p.2 (List.mem_map_of_mem hp)
  unfold cnf.clauseB at h3
  rw [Bool.and_eq_true] at h3
  exact List.all_eq_true.1 h3.2 z hz
theorem open_all : ∀ n, openN (allV []) n = n
  | 0 => rfl
  | n + 1 => by
    unfold openN
    rw [open_all n]
    rfl
theorem rf_new {B nv zn zc : Nat} {zp : Option Addr} {psZ : List (Value × List Int)} {w : World} (h : OwnRows B w (.slice zp zn zc) psZ) (o : Obj) :
    Rf B w.heap.size w.heap.size nv (.slice zp zn zc) psZ ((w.alloc (.cells #[.int .i64 nv, .slice zp zn zc, .slice none 0 0, .bool false] 63)).alloc o) (.slice none 0 0) false [] := by
  have hb : Below w.heap.size w ((w.alloc (.cells #[.int .i64 nv, .slice zp zn zc, .slice none 0 0, .bool false] 63)).alloc o) := (by repeat (first | exact Below.refl _ _ | assumption | refine Below.drew ?_ | refine Below.alloc ?_ (by first | exact Nat.le_refl _ | omega | (simp; done) | (simp; omega)) _ | refine Below.setCell ?_ (by first | exact Nat.le_refl _ | omega | (simp; done) | (simp; omega)) _))
  refine ⟨⟨#[.int .i64 nv, .slice zp zn zc, .slice none 0 0, .bool false], ?_, rfl, fun i hi => ?_⟩, h.below hb, ⟨World.ownsRow_nil _ _ _ _, fun p hp => (by cases hp)⟩, fun p hp => (by cases hp), Nat.zero_le _⟩
  · rw [Below.heap_alloc _ _ _ (by simp)]
    exact heap_alloc_new w _
  · rcases (show i = 0 ∨ i = 1 ∨ i = 2 ∨ i = 3 by omega) with rfl | rfl | rfl | rfl <;> rfl
/-- What is drawn: steps of a formula's variables. -/
def Right (v : Int) (ps : List Pt) : Prop := ∀ p ∈ ps, p.2.2.length ≤ 12 ∧ ∀ z ∈ p.2.2, cnf.litB v z = true
set_option maxRecDepth 8000 in
set_option maxHeartbeats 1600000 in
theorem goes_code {Z : List (List Int)} {nv : Nat} {zs : List Int} {p p' : List (List Int)} {c : Nat} (h : Goes Z nv zs p c p') : c = 0 ∨ c = 1 ∨ c = 2 := by
  induction h with
  | shut => exact .inl rfl
  | shutM => exact .inr (.inr rfl)
  | model => exact .inr (.inl rfl)
  | left _ _ _ _ ih => exact ih
  | right _ _ _ _ _ _ ih => exact ih
  | both => exact .inl rfl
  | bothM => exact .inr (.inr rfl)
/-- The code of a refutation. -/
def codeK (k : Nat) : Int := if k = 0 then 0 else if k = 1 then 6 else 7
set_option maxHeartbeats 1600000 in
theorem refutation_spec (B nv zn zc : Nat) (zp : Option Addr) (psZ : List (Value × List Int)) (w : World) (hr : OwnRows B w (.slice zp zn zc) psZ) (hcnf : cnf.cnfB (nv : Int) (psZ.map (·.2)) = true) :
    Calls Tryz.prog 13 #[.agg #[.int .i64 nv, .slice zp zn zc]] w fun e w' => ∃ g c code ps, e = .returned (.tuple #[.slice (some ⟨g, 0, none⟩) (List.length ps) c, .int .i64 code]) ∧ OwnSteps w.heap.size w' (.slice (some ⟨g, 0, none⟩) (List.length ps) c) ps ∧ Right nv ps ∧ ps.length ≤ 200 ∧ Below w.heap.size w w' ∧ (∀ p ∈ ps, p.1 = false) ∧ ∃ k sts, Goes (psZ.map (·.2)) nv [] [] k sts ∧ code = codeK k ∧ cls ps = if k = 0 then sts else [] := by
  have HR := hid hr
  have HCnf := hid hcnf
  clear hr hcnf
  go_enter Tryz.func13, Tryz.ntmps13
  go_wp2_with fail
  refine (cnf.cnfOK_spec nv zp zn zc (psZ.map (·.2)) _ ?_).mono ?_
  · exact (rows_of_own HR.out).below (by repeat (first | exact Below.refl _ _ | assumption | refine Below.drew ?_ | refine Below.alloc ?_ (by first | exact Nat.le_refl _ | omega | (simp; done) | (simp; omega)) _ | refine Below.setCell ?_ (by first | exact Nat.le_refl _ | omega | (simp; done) | (simp; omega)) _))
  rintro e w1 ⟨rfl, hb1⟩
  rw [HCnf.out]
  have HB1 : Hid (Below w.heap.size w w1) := hid ((show Below w.heap.size w _ from (by repeat (first | exact Below.refl _ _ | assumption | refine Below.drew ?_ | refine Below.alloc ?_ (by first | exact Nat.le_refl _ | omega | (simp; done) | (simp; omega)) _ | refine Below.setCell ?_ (by first | exact Nat.le_refl _ | omega | (simp; done) | (simp; omega)) _))).trans (hb1.mono (by simp)))
  have q0 : w1.cell? ⟨w.heap.size, 0, none⟩ = some (.int .i64 nv) := keep hb1 (by simp [go_sem])
  have q1 : w1.cell? ⟨w.heap.size, 1, none⟩ = some (.slice zp zn zc) := keep hb1 (by simp [go_sem])
  have z1 : w.heap.size < w1.heap.size := by have := hb1.size; simp at this; omega
  have HR1 := hid (HR.out.below HB1.out)
  clear hb1
  obtain ⟨hv0, hv40, hlits⟩ := cnf_lits HCnf.out
  have HF := hid (fun (w9 : World) (h9 : w9 = (w1.alloc (.cells #[.int .i64 nv, .slice zp zn zc, .slice none 0 0, .bool false] 63)).alloc (.cells #[] 3)) => from_spec B w1.heap.size w1.heap.size nv zn zc zp psZ (by omega) hlits (nv + 2) [] (w1.heap.size + 1) 0 0 w9 (.slice none 0 0) [] (by rw [open_all]; omega) (by rw [open_all]; simp) (by rw [h9]; exact rf_new HR1.out _) (by rw [h9]; exact cnfDraw.own_new (B := 0) (w1.alloc (.cells #[.int .i64 nv, .slice zp zn zc, .slice none 0 0, .bool false] 63)) (by simp) (Nat.zero_le _)) (fun z hz => by cases hz) (by rw [h9]; simp; omega))
  clear hlits
  go_wp2_with fail
  refine (HF.out _ rfl).mono ?_
  rintro e w2 ⟨ok, k, sv, mn, ps, rfl, hok, hmn, hgo, hne, hd⟩
  have hbn : Below w1.heap.size w1 ((w1.alloc (.cells #[.int .i64 nv, .slice zp zn zc, .slice none 0 0, .bool false] 63)).alloc (.cells #[] 3)) := (by repeat (first | exact Below.refl _ _ | assumption | refine Below.drew ?_ | refine Below.alloc ?_ (by first | exact Nat.le_refl _ | omega | (simp; done) | (simp; omega)) _ | refine Below.setCell ?_ (by first | exact Nat.le_refl _ | omega | (simp; done) | (simp; omega)) _))
  have HB2 : Hid (Below w.heap.size w w2) := hid (HB1.out.trans ⟨hd.fr.os.trans hbn.os, hd.fr.tape.trans hbn.tape, hd.fr.output.trans hbn.output, Nat.le_trans hbn.size hd.fr.size, fun q hq => by
    rw [hd.fr.blk q (by have := hbn.size; omega) (by omega) (fun h => absurd h (by omega))]
    exact hbn.block q (by omega)⟩)
  obtain ⟨sa, sc, hsv⟩ := steps_form hd.rf.steps
  subst hsv
  have m2 : w2.cell? ⟨w1.heap.size, 2, none⟩ = some (.slice sa ps.length sc) := hd.rf.row.cell (i := 2) (by omega)
  have m3 : w2.cell? ⟨w1.heap.size, 3, none⟩ = some (.bool mn) := hd.rf.row.cell (i := 3) (by omega)
  have hM2 := hd.rf.row.lt
  have HSt := hid (OwnSteps.mono hd.rf.steps (Nat.le_of_lt z1))
  have HRi : Hid (Right nv ps) := hid (fun p hp => (hd.rf.right p hp).2)
  have HFe := hid hd.rf.few
  have HDel : Hid (∀ p ∈ ps, p.1 = false) := hid (fun p hp => (hd.rf.right p hp).1)
  have HGo := hid hgo
  have hk3 := goes_code hgo
  clear hgo
  clear hd hbn
  cases ok with
  | false =>
    clear hne
    rcases hk3 with rfl | rfl | rfl
    · exact absurd (hok.2 rfl) (by decide)
    all_goals
      obtain rfl := hmn
      clear hok
      go_wp2
      go_ret2
      exact ⟨_, _, _, [], rfl, ⟨readSpecP.none_own w2 _ _ rfl HB2.out.size, fun p hp => by cases hp⟩, fun p hp => (by cases hp), Nat.zero_le _, HB2.out.alloc HB2.out.size _, fun p hp => (by cases hp), _, _, HGo.out, rfl, rfl⟩
  | true =>
    obtain ⟨g, rfl⟩ : ∃ g, sa = some ⟨g, 0, none⟩ := by
      rcases HSt.out.outer.2 with ⟨e, h0⟩ | ⟨g, cap, cur, e, _⟩
      · exact absurd (List.length_eq_zero_iff.1 h0) (hne rfl)
      · injection e with e _ _
        exact ⟨g, e⟩
    obtain rfl : k = 0 := hok.1 rfl
    clear hne hok hmn hk3
    go_wp2
    go_ret2
    exact ⟨_, _, _, ps, rfl, HSt.out, HRi.out, HFe.out, HB2.out, HDel.out, _, _, HGo.out, rfl, rfl⟩
end Go.Proofs.YtolejaegnkcjjaaGreatDoor.refFace

/- A refutation of a wrong formula, of the specification: an empty row of its own; conditions: none. -/
namespace Go.Proofs.YtolejaegnkcjjaaGreatDoor.refBad
open Go.RowKit Go.Deep base copy rowsOwn
open readSpecP (Pt pcs OwnSteps strip)
set_option linter.unusedVariables false

theorem refutation_bad (vars : Int) (a : Option Addr) (len cap : Nat) (zss : List (List Int)) (w : World) (hr : IntRows w a len zss) (hc : cnf.cnfB vars zss = false) :
    Calls Tryz.prog 13 #[.agg #[.int .i64 vars, .slice a len cap]] w fun e w' => ∃ v, e = .returned (.tuple #[v, .int .i64 1]) ∧ OwnSteps w.heap.size w' v [] ∧ Below w.heap.size w w' := by
  have HR := hid hr
  have HCnf := hid hc
  clear hr hc
  go_enter Tryz.func13, Tryz.ntmps13
  go_wp2_with fail
  refine (cnf.cnfOK_spec vars a len cap zss _ ?_).mono ?_
  · exact HR.out.below (by repeat (first | exact Below.refl _ _ | assumption | refine Below.drew ?_ | refine Below.alloc ?_ (by first | exact Nat.le_refl _ | omega | (simp; done) | (simp; omega)) _ | refine Below.setCell ?_ (by first | exact Nat.le_refl _ | omega | (simp; done) | (simp; omega)) _))
  rintro e w1 ⟨rfl, hb1⟩
  rw [HCnf.out]
  have HB1 : Hid (Below w.heap.size w w1) := hid ((show Below w.heap.size w _ from (by repeat (first | exact Below.refl _ _ | assumption | refine Below.drew ?_ | refine Below.alloc ?_ (by first | exact Nat.le_refl _ | omega | (simp; done) | (simp; omega)) _ | refine Below.setCell ?_ (by first | exact Nat.le_refl _ | omega | (simp; done) | (simp; omega)) _))).trans (hb1.mono (by simp)))
  clear hb1
  go_wp2
  go_ret2
  exact ⟨_, rfl, ⟨readSpecP.none_own w1 _ _ rfl HB1.out.size, fun p hp => by cases hp⟩, HB1.out.alloc HB1.out.size _⟩
end Go.Proofs.YtolejaegnkcjjaaGreatDoor.refBad

/- The contracts of what tells whether values make a formula true, of the program and of the specification; conditions: lengths that fit. -/
namespace Go.Proofs.YtolejaegnkcjjaaGreatDoor.eval
open Go.RowKit Go.Deep base copy cnf

set_option maxHeartbeats 400000 in
theorem abs_spec (n : Int) (w : World) (h0 : -4611686018427387904 ≤ n) (h1 : n ≤ 4611686018427387904) :
    Calls Tryz.prog 68 #[.int .i64 n] w fun e w' => e = .returned (.int .i64 (n.natAbs : Int)) ∧ w' = w := by
  go_enter Tryz.func68, Tryz.ntmps68
  go_wp2
  all_goals
    go_ret
    exact ⟨ret_int (by omega), rfl⟩

theorem cnf_vars {vars : Int} {zss : List (List Int)} (h : cnfB vars zss = true) : 0 ≤ vars ∧ vars ≤ 40 ∧ zss.length ≤ 300 := by
  simp only [cnfB, Bool.and_eq_true, decide_eq_true_eq] at h
  exact h.1

end Go.Proofs.YtolejaegnkcjjaaGreatDoor.eval

/- Sets of literals as two words of bits: what they are in numbers, and the contracts of the functions that make, join and compare them; conditions: literals of at most 40 variables. -/
namespace Go.Proofs.YtolejaegnkcjjaaGreatDoor.sets
open Go.RowKit Go.Deep base copy cnf eval

/-- the bit of a literal among the plain ones, and among the opposites -/
def pBit (l : Int) : Nat := if l < 0 then 0 else 2 ^ l.natAbs
def oBit (l : Int) : Nat := if l < 0 then 2 ^ l.natAbs else 0
def pSet (zs : List Int) : Nat := zs.foldl (fun a l => a ||| pBit l) 0
def oSet (zs : List Int) : Nat := zs.foldl (fun a l => a ||| oBit l) 0
def meetB (a b c d : Nat) : Bool := decide (¬ (a &&& c = 0 ∧ b &&& d = 0))
theorem pBit_lt {l : Int} {n : Nat} (h : l.natAbs < n) : pBit l < 2 ^ n := by
  unfold pBit; split
  · exact Nat.two_pow_pos _
  · exact Nat.pow_lt_pow_right (by decide) h
theorem oBit_lt {l : Int} {n : Nat} (h : l.natAbs < n) : oBit l < 2 ^ n := by
  unfold oBit; split
  · exact Nat.pow_lt_pow_right (by decide) h
  · exact Nat.two_pow_pos _
theorem take_succ_foldl {α β : Type} {f : β → α → β} {b : β} {zs : List α} {d : α} {k : Nat} (h : k < zs.length) : (zs.take (k + 1)).foldl f b = f ((zs.take k).foldl f b) (zs[k]?.getD d) := by
  rw [List.take_succ_eq_append_getElem h, List.foldl_append, List.getElem?_eq_getElem h]; rfl
theorem pSet_succ {zs : List Int} {k : Nat} (h : k < zs.length) : pSet (zs.take (k + 1)) = pSet (zs.take k) ||| pBit (zs[k]?.getD 0) := take_succ_foldl h
theorem oSet_succ {zs : List Int} {k : Nat} (h : k < zs.length) : oSet (zs.take (k + 1)) = oSet (zs.take k) ||| oBit (zs[k]?.getD 0) := take_succ_foldl h
theorem foldl_or_lt {f : Int → Nat} {n : Nat} : ∀ (zs : List Int) (a : Nat), a < 2 ^ n → (∀ z ∈ zs, f z < 2 ^ n) → zs.foldl (fun a l => a ||| f l) a < 2 ^ n
  | [], _, h, _ => h
  | z :: zs, a, h, hz => foldl_or_lt zs (a ||| f z) (Nat.or_lt_two_pow h (hz z (List.mem_cons_self ..))) (fun y hy => hz y (List.mem_cons_of_mem _ hy))
theorem pSet_lt {zs : List Int} {n : Nat} (h : ∀ z ∈ zs, z.natAbs < n) : pSet zs < 2 ^ n := foldl_or_lt zs 0 (Nat.two_pow_pos _) (fun z hz => pBit_lt (h z hz))
theorem oSet_lt {zs : List Int} {n : Nat} (h : ∀ z ∈ zs, z.natAbs < n) : oSet zs < 2 ^ n := foldl_or_lt zs 0 (Nat.two_pow_pos _) (fun z hz => oBit_lt (h z hz))
theorem testBit_compl {n i : Nat} (hn : n < 2 ^ 64) (hi : i < 64) : (18446744073709551615 - n).testBit i = !n.testBit i := by
  have : 18446744073709551615 - n = 2 ^ 64 - (n + 1) := by omega
  rw [this, Nat.testBit_two_pow_sub_succ hn]
  simp [hi]
theorem wrap_pow {n : Nat} (h : n < 64) : IntKind.u64.wrap (2 ^ n) = ((2 ^ n : Nat) : Int) := by
  have hp : (2 ^ n : Nat) < 18446744073709551616 := Nat.lt_of_lt_of_le (Nat.pow_lt_pow_right (by decide) h) (by decide)
  have hc : ((2 : Int) ^ n) = ((2 ^ n : Nat) : Int) := by simp
  rw [IntKind.wrap_u64, hc]
  generalize 2 ^ n = x at *
  omega

set_option maxHeartbeats 400000 in
theorem only_impl (l : Int) (w : World) (h0 : -40 ≤ l) (h1 : l ≤ 40) :
    Calls Tryz.prog 73 #[.int .i64 l] w fun e w' => e = .returned (.agg #[.int .u64 (pBit l), .int .u64 (oBit l)]) ∧ Below w.heap.size w w' := by
  by_cases hn : l < 0
  · obtain ⟨n, hl⟩ : ∃ n : Nat, l = -(n : Int) := ⟨l.natAbs, by omega⟩
    have e1 : pBit l = 0 := by simp [pBit, hn]
    have e2 : oBit l = 2 ^ n := by simp [oBit, hn]; congr 1; omega
    rw [e1, e2]
    clear e1 e2
    subst hl
    have H2 := hid (wrap_pow (n := n) (by omega))
    go_enter Tryz.func73, Tryz.ntmps73
    go_wp2
    refine bodyPost_ret (v := .agg #[.int .u64 0, .int .u64 (IntKind.u64.wrap (2 ^ n))]) (by simp [results, Tryz.results73, go_sem]) rfl ⟨by rw [H2.out]; rfl, (by repeat (first | exact Below.refl _ _ | assumption | refine Below.drew ?_ | refine Below.alloc ?_ (by first | exact Nat.le_refl _ | omega | (simp; done) | (simp; omega)) _ | refine Below.setCell ?_ (by first | exact Nat.le_refl _ | omega | (simp; done) | (simp; omega)) _))⟩
  · obtain ⟨n, hl⟩ : ∃ n : Nat, l = (n : Int) := ⟨l.natAbs, by omega⟩
    have e1 : oBit l = 0 := by simp [oBit, hn]
    have e2 : pBit l = 2 ^ n := by simp [pBit, hn]; congr 1; omega
    rw [e1, e2]
    clear e1 e2
    subst hl
    have H2 := hid (wrap_pow (n := n) (by omega))
    go_enter Tryz.func73, Tryz.ntmps73
    go_wp2
    refine bodyPost_ret (v := .agg #[.int .u64 (IntKind.u64.wrap (2 ^ n)), .int .u64 0]) (by simp [results, Tryz.results73, go_sem]) rfl ⟨by rw [H2.out]; rfl, (by repeat (first | exact Below.refl _ _ | assumption | refine Below.drew ?_ | refine Below.alloc ?_ (by first | exact Nat.le_refl _ | omega | (simp; done) | (simp; omega)) _ | refine Below.setCell ?_ (by first | exact Nat.le_refl _ | omega | (simp; done) | (simp; omega)) _))⟩

set_option maxHeartbeats 400000 in
theorem with_impl (a b c d : Nat) (w : World) (ha : a < 18446744073709551616) (hb : b < 18446744073709551616) (hc : c < 18446744073709551616) (hd : d < 18446744073709551616) :
    Calls Tryz.prog 72 #[.agg #[.int .u64 a, .int .u64 b], .agg #[.int .u64 c, .int .u64 d]] w fun e w' => e = .returned (.agg #[.int .u64 ((a ||| c : Nat) : Int), .int .u64 ((b ||| d : Nat) : Int)]) ∧ Below w.heap.size w w' := by
  have H1 := hid (bits_or_u64_nat a c ha hc)
  have H2 := hid (bits_or_u64_nat b d hb hd)
  go_enter Tryz.func72, Tryz.ntmps72
  go_wp2
  refine bodyPost_ret (v := .agg #[.int .u64 (bits .or .u64 a c), .int .u64 (bits .or .u64 b d)]) (by simp [results, Tryz.results72, go_sem]) rfl ⟨by rw [H1.out, H2.out], (by repeat (first | exact Below.refl _ _ | assumption | refine Below.drew ?_ | refine Below.alloc ?_ (by first | exact Nat.le_refl _ | omega | (simp; done) | (simp; omega)) _ | refine Below.setCell ?_ (by first | exact Nat.le_refl _ | omega | (simp; done) | (simp; omega)) _))⟩

set_option maxHeartbeats 400000 in
theorem common_impl (a b c d : Nat) (w : World) (ha : a < 18446744073709551616) (hb : b < 18446744073709551616) (hc : c < 18446744073709551616) (hd : d < 18446744073709551616) :
    Calls Tryz.prog 96 #[.agg #[.int .u64 a, .int .u64 b], .agg #[.int .u64 c, .int .u64 d]] w fun e w' => e = .returned (.agg #[.int .u64 ((a &&& c : Nat) : Int), .int .u64 ((b &&& d : Nat) : Int)]) ∧ Below w.heap.size w w' := by
  have H1 := hid (bits_and_u64_nat a c ha hc)
  have H2 := hid (bits_and_u64_nat b d hb hd)
  go_enter Tryz.func96, Tryz.ntmps96
  go_wp2
  refine bodyPost_ret (v := .agg #[.int .u64 (bits .and .u64 a c), .int .u64 (bits .and .u64 b d)]) (by simp [results, Tryz.results96, go_sem]) rfl ⟨by rw [H1.out, H2.out], (by repeat (first | exact Below.refl _ _ | assumption | refine Below.drew ?_ | refine Below.alloc ?_ (by first | exact Nat.le_refl _ | omega | (simp; done) | (simp; omega)) _ | refine Below.setCell ?_ (by first | exact Nat.le_refl _ | omega | (simp; done) | (simp; omega)) _))⟩

set_option maxHeartbeats 400000 in
theorem meets_impl (a b c d : Nat) (w : World) (ha : a < 18446744073709551616) (hb : b < 18446744073709551616) (hc : c < 18446744073709551616) (hd : d < 18446744073709551616) :
    Calls Tryz.prog 80 #[.agg #[.int .u64 a, .int .u64 b], .agg #[.int .u64 c, .int .u64 d]] w fun e w' => e = .returned (.bool (meetB a b c d)) ∧ Below w.heap.size w w' := by
  go_enter Tryz.func80, Tryz.ntmps80
  go_wp2_with fail
  refine (common_impl a b c d _ ha hb hc hd).mono ?_
  rintro e w1 ⟨rfl, hb1⟩
  have HB := hid ((show Below w.heap.size w _ from (by repeat (first | exact Below.refl _ _ | assumption | refine Below.drew ?_ | refine Below.alloc ?_ (by first | exact Nat.le_refl _ | omega | (simp; done) | (simp; omega)) _ | refine Below.setCell ?_ (by first | exact Nat.le_refl _ | omega | (simp; done) | (simp; omega)) _))).trans (hb1.mono (by simp; omega)))
  clear hb1
  have HM : Hid (meetB a b c d = !(decide ((a &&& c : Nat) = 0) && decide ((b &&& d : Nat) = 0))) := by
    show _ = _
    unfold meetB
    by_cases h1 : a &&& c = 0 <;> by_cases h2 : b &&& d = 0 <;> simp [h1, h2]
  generalize a &&& c = x at *
  generalize b &&& d = y at *
  go_wp2
  all_goals
    go_ret
    exact ⟨ret_bool (by rw [HM.out]; simp [*]), HB.out⟩

/-- A variable that holds a set. -/
def SetAt (w : World) (b P O : Nat) : Prop := w.rowIs b 78 2 (fun i => if i = 0 then .int .u64 P else .int .u64 O)
theorem SetAt.lt {w : World} {b P O : Nat} (h : SetAt w b P O) : b < w.heap.size := World.rowIs.lt h
theorem SetAt.facts {w : World} {b P O : Nat} (h : SetAt w b P O) : w.cell? ⟨b, 0, none⟩ = some (.int .u64 P) ∧ w.cell? ⟨b, 1, none⟩ = some (.int .u64 O) ∧ w.frozen? ⟨b, 0, none⟩ = false ∧ w.frozen? ⟨b, 1, none⟩ = false :=
  ⟨by simpa using World.rowIs.cell h (i := 0) (by omega), by simpa using World.rowIs.cell h (i := 1) (by omega), World.rowIs.frozen h 0, World.rowIs.frozen h 1⟩
theorem SetAt.below {w w1 : World} {b P O : Nat} (h : SetAt w b P O) (hb : Below w.heap.size w w1) : SetAt w1 b P O := World.rowIs.of_block h (hb.block _ h.lt)
theorem SetAt.alloc {w : World} {b P O : Nat} (h : SetAt w b P O) (o : Obj) : SetAt (w.alloc o) b P O := h.below ((Below.refl _ _).alloc (Nat.le_refl _) _)
theorem SetAt.put {w : World} {b P O : Nat} (h : SetAt w b P O) (P' O' : Nat) : SetAt ((w.setCell ⟨b, 0, none⟩ (.int .u64 P')).setCell ⟨b, 1, none⟩ (.int .u64 O')) b P' O' :=
  (World.rowIs.set (World.rowIs.set h 0 _) 1 _).congr (fun i hi => by
    rcases (show i = 0 ∨ i = 1 by omega) with rfl | rfl <;> simp)
theorem SetAt.other {w : World} {b P O : Nat} (h : SetAt w b P O) {a : Addr} (ha : b ≠ a.block) (v : Value) : SetAt (w.setCell a v) b P O := World.rowIs.setOther h (by omega) v
theorem SetAt.new (w : World) (P O : Nat) : SetAt (w.alloc (.cells #[.int .u64 P, .int .u64 O] 78)) w.heap.size P O :=
  World.rowIs_alloc w #[.int .u64 P, .int .u64 O] _ _ (fun i hi => by
    have h2 : i < 2 := hi
    rcases (show i = 0 ∨ i = 1 by omega) with rfl | rfl <;> rfl)

set_option maxHeartbeats 1600000 in
theorem setOf_impl (a : Option Addr) (len cap : Nat) (zs : List Int) (w : World) (hr : IntRow w a len zs) (hz : ∀ z ∈ zs, z.natAbs < 41) :
    Calls Tryz.prog 52 #[.slice a len cap] w fun e w' => e = .returned (.agg #[.int .u64 (pSet zs), .int .u64 (oSet zs)]) ∧ Below w.heap.size w w' := by
  have hmost := hr.most
  unfold maxLen at hmost
  have HR := hid hr
  have HL := hid hr.length
  have HZ := hid hz
  clear hr hz
  go_enter Tryz.func52, Tryz.ntmps52
  go_wp2
  go_loopw [8] (fun i wr => ∃ k : Nat, k ≤ len ∧ i = .int .i64 k ∧ Below w.heap.size w wr ∧ SetAt wr w.heap.size 0 0 ∧ SetAt wr (w.heap.size + 1) (pSet (zs.take k)) (oSet (zs.take k))) (fun i _ => len - (intOf i).toNat)
  case atStart => exact ⟨0, Nat.zero_le _, rfl, (by repeat (first | exact Below.refl _ _ | assumption | refine Below.drew ?_ | refine Below.alloc ?_ (by first | exact Nat.le_refl _ | omega | (simp; done) | (simp; omega)) _ | refine Below.setCell ?_ (by first | exact Nat.le_refl _ | omega | (simp; done) | (simp; omega)) _)), (SetAt.new w 0 0).alloc _, by have := SetAt.new (w.alloc (.cells #[.int .u64 0, .int .u64 0] 78)) 0 0; simpa [pSet, oSet] using this⟩
  case round =>
    obtain ⟨k, hk, rfl, hbel, s0, s1⟩ := hrel
    have hz0 := s0.lt
    have hz1 := s1.lt
    have HK := hid (fun (w2 : World) (h2 : Below wr.heap.size wr w2) => (s1.below h2).facts)
    obtain ⟨c0, c1, f0, f1⟩ := s1.facts
    have HB := hid hbel
    have S0 := hid s0
    have S1 := hid s1
    clear s1 s0
    by_cases hlt : k < len
    · obtain ⟨b, off, rfl, hc0⟩ := HR.out.cell k hlt
      have hc := keep hbel hc0
      have hmem : zs[k]?.getD 0 ∈ zs := by rw [List.getElem?_eq_getElem (by rw [HL.out]; exact hlt)]; exact List.getElem_mem _
      have hrange := HZ.out _ hmem
      have HP := hid (pSet_succ (zs := zs) (k := k) (by rw [HL.out]; exact hlt))
      have HO := hid (oSet_succ (zs := zs) (k := k) (by rw [HL.out]; exact hlt))
      have b1 : pSet (zs.take k) < 2 ^ 41 := pSet_lt fun z hz => HZ.out z (List.mem_of_mem_take hz)
      have b2 : oSet (zs.take k) < 2 ^ 41 := oSet_lt fun z hz => HZ.out z (List.mem_of_mem_take hz)
      have b3 : pBit (zs[k]?.getD 0) < 2 ^ 41 := pBit_lt hrange
      have b4 : oBit (zs[k]?.getD 0) < 2 ^ 41 := oBit_lt hrange
      clear hc0 hmem hbel
      generalize zs[k]?.getD 0 = z at *
      generalize pSet (zs.take k) = P at *
      generalize oSet (zs.take k) = O at *
      go_wp2
      go_region_with (first
        | (go_at_call 73; refine (only_impl _ _ (by omega) (by omega)).mono ?_; rintro e w2 ⟨rfl, hb2⟩; have hb2' : Below wr.heap.size wr w2 := ((Below.refl _ wr).drew).trans hb2; obtain ⟨y0, y1, y2, y3⟩ := HK.out w2 hb2'; clear hb2)
        | (go_at_call 72; refine (with_impl _ _ _ _ _ (by omega) (by omega) (by omega) (by omega)).mono ?_; rintro e w3 ⟨rfl, hb3⟩; have hb3' : Below wr.heap.size wr w3 := hb2'.trans (hb3.mono hb2'.size); clear y0 y1 y2 y3; obtain ⟨y0, y1, y2, y3⟩ := HK.out w3 hb3'; clear hb3))
      all_goals
        have H3 := hid hb3'
        have HB3 := hid (HB.out.trans (hb3'.mono (by omega)))
        clear hb3' hb2'
        go_wp2
        go_roundw
        case rel => exact ⟨k + 1, by omega, by go_num, (HB3.out.setCell (by dsimp only; omega) _).setCell (by dsimp only; omega) _, ((S0.out.below H3.out).other (by dsimp only; omega) _).other (by dsimp only; omega) _, by rw [HP.out, HO.out]; exact (S1.out.below H3.out).put _ _⟩
        case measure => simp [intOf]; omega
    · have e : k = len := by omega
      subst e
      have ht : zs.take k = zs := List.take_of_length_le (by rw [HL.out]; omega)
      rw [ht] at c0 c1
      obtain ⟨g0, g1, e0, e1⟩ := S0.out.facts
      clear ht hbel HK
      go_wp2
      refine bodyPost_ret (v := .agg #[.int .u64 (pSet zs), .int .u64 (oSet zs)]) ?_ rfl ⟨rfl, (HB.out.setCell (by dsimp only; omega) _).setCell (by dsimp only; omega) _⟩
      obtain ⟨h0, h1, _⟩ := (S0.out.put (pSet zs) (oSet zs)).facts
      simp [results, Tryz.results52, go_sem, h0, h1]
end Go.Proofs.YtolejaegnkcjjaaGreatDoor.sets
