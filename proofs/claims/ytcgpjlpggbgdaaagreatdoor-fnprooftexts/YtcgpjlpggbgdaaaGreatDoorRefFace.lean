/- A refutation of a right formula, of the specification: its steps are right, at most two hundred, in memory of their own; conditions: a right formula. -/
import Derived.Test.YtcgpjlpggbgdaaaGreatDoorRefImpl
namespace Go.Proofs.YtcgpjlpggbgdaaaGreatDoor.refFace
open Go.RowKit Go.Deep base copy runS rowsOwn runL refSem refImpl
open readSpecP (Pt pcs OwnSteps strip)
set_option linter.unusedVariables false

theorem cnf_lits {v : Int} {psZ : List (Value × List Int)} (h : cnf.cnfB v (psZ.map (·.2)) = true) : 0 ≤ v ∧ v ≤ 40 ∧ ∀ p ∈ psZ, ∀ z ∈ p.2, stepRead.litB v z = true := by
  unfold cnf.cnfB at h
  rw [Bool.and_eq_true] at h
  obtain ⟨h1, h2, -⟩ := of_decide_eq_true h.1
  refine ⟨h1, h2, fun p hp z hz => ?_⟩
  have h3 := List.all_eq_true.1 h.2 p.2 (List.mem_map_of_mem hp)
  unfold cnf.clauseB at h3
  rw [Bool.and_eq_true] at h3
  exact List.all_eq_true.1 h3.2 z hz
theorem open_all : ∀ n, openN (allV []) n = n
  | 0 => rfl
  | n + 1 => by
    unfold openN
    rw [open_all n]
    rfl
theorem rf_new {B nv zn zc : Nat} {zp : Option Addr} {psZ : List (Value × List Int)} {w : World} (h : OwnRows B w (.slice zp zn zc) psZ) (o : Obj) :
    Rf B w.heap.size w.heap.size nv (.slice zp zn zc) psZ ((w.alloc (.cells #[.int .i64 nv, .slice zp zn zc, .slice none 0 0, .bool false] 83)).alloc o) (.slice none 0 0) false [] := by
  have hb : Below w.heap.size w ((w.alloc (.cells #[.int .i64 nv, .slice zp zn zc, .slice none 0 0, .bool false] 83)).alloc o) := (by repeat (first | exact Below.refl _ _ | assumption | refine Below.drew ?_ | refine Below.alloc ?_ (by first | exact Nat.le_refl _ | omega | (simp; done) | (simp; omega)) _ | refine Below.setCell ?_ (by first | exact Nat.le_refl _ | omega | (simp; done) | (simp; omega)) _))
  refine ⟨⟨#[.int .i64 nv, .slice zp zn zc, .slice none 0 0, .bool false], ?_, rfl, fun i hi => ?_⟩, h.below hb, ⟨World.ownsRow_nil _ _ _ _, fun p hp => (by cases hp)⟩, fun p hp => (by cases hp), Nat.zero_le _⟩
  · rw [Below.heap_alloc _ _ _ (by simp)]
    exact heap_alloc_new w _
  · rcases (show i = 0 ∨ i = 1 ∨ i = 2 ∨ i = 3 by omega) with rfl | rfl | rfl | rfl <;> rfl
/-- What is drawn: steps of a formula's variables. -/
def Right (v : Int) (ps : List Pt) : Prop := ∀ p ∈ ps, p.2.2.length ≤ 12 ∧ ∀ z ∈ p.2.2, stepRead.litB v z = true
set_option maxRecDepth 8000 in
set_option maxHeartbeats 1600000 in
theorem refutation_spec (B nv zn zc : Nat) (zp : Option Addr) (psZ : List (Value × List Int)) (w : World) (hr : OwnRows B w (.slice zp zn zc) psZ) (hcnf : cnf.cnfB (nv : Int) (psZ.map (·.2)) = true) :
    Calls Tryz.prog 24 #[.agg #[.int .i64 nv, .slice zp zn zc]] w fun e w' => ∃ g c code ps, e = .returned (.tuple #[.slice (some ⟨g, 0, none⟩) (List.length ps) c, .int .i64 code]) ∧ OwnSteps w.heap.size w' (.slice (some ⟨g, 0, none⟩) (List.length ps) c) ps ∧ Right nv ps ∧ ps.length ≤ 200 ∧ Below w.heap.size w w' := by
  have HR := hid hr
  have HCnf := hid hcnf
  clear hr hcnf
  go_enter Tryz.func24, Tryz.ntmps24
  go_wp2_with fail
  refine (cnf.cnfOK_spec nv zp zn zc (psZ.map (·.2)) _ ?_).mono ?_
  · exact (rows_of_own HR.out).below (by repeat (first | exact Below.refl _ _ | assumption | refine Below.drew ?_ | refine Below.alloc ?_ (by first | exact Nat.le_refl _ | omega | (simp; done) | (simp; omega)) _ | refine Below.setCell ?_ (by first | exact Nat.le_refl _ | omega | (simp; done) | (simp; omega)) _))
  rintro e w1 ⟨rfl, hb1⟩
  rw [HCnf.out]
  have HB1 : Hid (Below w.heap.size w w1) := hid ((show Below w.heap.size w _ from (by repeat (first | exact Below.refl _ _ | assumption | refine Below.drew ?_ | refine Below.alloc ?_ (by first | exact Nat.le_refl _ | omega | (simp; done) | (simp; omega)) _ | refine Below.setCell ?_ (by first | exact Nat.le_refl _ | omega | (simp; done) | (simp; omega)) _))).trans (hb1.mono (by simp)))
  have q0 : w1.cell? ⟨w.heap.size, 0, none⟩ = some (.int .i64 nv) := keep hb1 (by simp [go_sem])
  have q1 : w1.cell? ⟨w.heap.size, 1, none⟩ = some (.slice zp zn zc) := keep hb1 (by simp [go_sem])
  have z1 : w.heap.size < w1.heap.size := by have := hb1.size; simp at this; omega
  have HR1 := hid (HR.out.below HB1.out)
  clear hb1
  obtain ⟨hv0, hv40, hlits⟩ := cnf_lits HCnf.out
  have HF := hid (fun (w9 : World) (h9 : w9 = (w1.alloc (.cells #[.int .i64 nv, .slice zp zn zc, .slice none 0 0, .bool false] 83)).alloc (.cells #[] 3)) => from_spec B w1.heap.size w1.heap.size nv zn zc zp psZ (by omega) hlits (nv + 2) [] (w1.heap.size + 1) 0 0 w9 (.slice none 0 0) false [] (by rw [open_all]; omega) (by rw [open_all]; simp) (by rw [h9]; exact rf_new HR1.out _) (by rw [h9]; exact cnfDraw.own_new (B := 0) (w1.alloc (.cells #[.int .i64 nv, .slice zp zn zc, .slice none 0 0, .bool false] 83)) (by simp) (Nat.zero_le _)) (fun z hz => by cases hz) (by rw [h9]; simp; omega))
  clear hlits
  go_wp2_with fail
  refine (HF.out _ rfl).mono ?_
  rintro e w2 ⟨ok, sv, mn, ps, rfl, hne, hd⟩
  have hbn : Below w1.heap.size w1 ((w1.alloc (.cells #[.int .i64 nv, .slice zp zn zc, .slice none 0 0, .bool false] 83)).alloc (.cells #[] 3)) := (by repeat (first | exact Below.refl _ _ | assumption | refine Below.drew ?_ | refine Below.alloc ?_ (by first | exact Nat.le_refl _ | omega | (simp; done) | (simp; omega)) _ | refine Below.setCell ?_ (by first | exact Nat.le_refl _ | omega | (simp; done) | (simp; omega)) _))
  have HB2 : Hid (Below w.heap.size w w2) := hid (HB1.out.trans ⟨hd.fr.os.trans hbn.os, hd.fr.tape.trans hbn.tape, hd.fr.output.trans hbn.output, Nat.le_trans hbn.size hd.fr.size, fun q hq => by
    rw [hd.fr.blk q (by have := hbn.size; omega) (by omega) (fun h => absurd h (by omega))]
    exact hbn.block q (by omega)⟩)
  obtain ⟨sa, sc, hsv⟩ := steps_form hd.rf.steps
  subst hsv
  have m2 : w2.cell? ⟨w1.heap.size, 2, none⟩ = some (.slice sa ps.length sc) := hd.rf.row.cell (i := 2) (by omega)
  have m3 : w2.cell? ⟨w1.heap.size, 3, none⟩ = some (.bool mn) := hd.rf.row.cell (i := 3) (by omega)
  have hM2 := hd.rf.row.lt
  have HSt := hid (OwnSteps.mono hd.rf.steps (Nat.le_of_lt z1))
  have HRi : Hid (Right nv ps) := hid (fun p hp => (hd.rf.right p hp).2)
  have HFe := hid hd.rf.few
  clear hd hbn
  cases ok with
  | false =>
    clear hne
    cases mn
    all_goals
      go_wp2
      go_ret2
      exact ⟨_, _, _, [], rfl, ⟨words.own_none w2 _ _ rfl HB2.out.size, fun p hp => by cases hp⟩, fun p hp => (by cases hp), Nat.zero_le _, HB2.out.alloc HB2.out.size _⟩
  | true =>
    obtain ⟨g, rfl⟩ : ∃ g, sa = some ⟨g, 0, none⟩ := by
      rcases HSt.out.outer.2 with ⟨e, h0⟩ | ⟨g, cap, cur, e, _⟩
      · exact absurd (List.length_eq_zero_iff.1 h0) (hne rfl)
      · injection e with e _ _
        exact ⟨g, e⟩
    clear hne
    go_wp2
    go_ret2
    exact ⟨_, _, _, ps, rfl, HSt.out, HRi.out, HFe.out, HB2.out⟩
end Go.Proofs.YtcgpjlpggbgdaaaGreatDoor.refFace
