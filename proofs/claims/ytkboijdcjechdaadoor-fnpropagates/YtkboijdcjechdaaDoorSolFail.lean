/- A solver of the program: it notes that a clause is false (fail); its cells are written; conditions: none. -/
import Derived.Test.YtkboijdcjechdaaDoorSolMem
namespace Go.Proofs.YtkboijdcjechdaaDoor.solFail
open Go.RowKit Go.Deep Go.Maps Go base sets setsOf solSets solOps solMath solHold solMem
set_option linter.unusedVariables false
set_option linter.unusedSimpArgs false

section
variable {z : Int} {M mb : Nat} {F : Nat → Value} {V : Int → Value} {s : Sv} {w : World}
/-- The solver's own cells alone are written. -/
theorem Sol.cellsM (h : Sol z M mb F V s w) (hz : z ≤ 40) {F' : Nat → Value} {s' : Sv} {w' : World} (cells : w'.rowIs M 60 56 F') (f0 : F' 0 = .int .i64 s'.n) (f4 : F' 4 = .map (some mb)) (f5 : F' 5 = .int .u64 s'.H.1) (f6 : F' 6 = .int .u64 s'.H.2) (f10 : F' 10 = .int .i64 s'.F)
    (same : ∀ a, valA F' V a = valA F V a ∧ (∀ v w, RowA s a v w → RowA s' a v w)) (blocks : ∀ j, j ≠ M → w'.heap[j]? = w.heap[j]?) (os : w'.os = w.os) (tape : w'.tape = w.tape) (output : w'.output = w.output) (size : w.heap.size ≤ w'.heap.size) :
    Sol z M mb F' V s' w' ∧ Chg M mb (blk z F V) (blk z F' V) w w' := by
  have h0 : (1001 : Int) ≠ z := by omega
  obtain ⟨D, hD, hV⟩ := h.map
  refine h.step 1001 h0 cells f0 f4 f5 f6 f10 ⟨D, by
    obtain ⟨es, clock, h1, h2⟩ := hD
    exact ⟨es, clock, by rw [blocks mb (fun e => h.ne e.symm)]; exact h1, h2⟩, hV⟩ (fun a _ _ => same a) (fun j _ h1 _ _ => blocks j h1) ?_ (.inl (by rw [(same 1001).1])) os tape output size
  rw [(same 1001).1]
  refine row_kept ((same 1001).2 _ _ (h.rows 1001 h0)) fun g hg => blocks g ?_
  have hb : blk z F V 1001 = some g := by rw [blk_ne h0]; exact hg
  exact (h.off _ g hb).1
theorem setCell_os (w : World) (a : Addr) (v : Value) : (w.setCell a v).os = w.os ∧ (w.setCell a v).tape = w.tape ∧ (w.setCell a v).output = w.output ∧ (w.setCell a v).heap.size = w.heap.size := by
  refine ⟨?_, ?_, ?_, ?_⟩ <;> simp [World.setCell]
theorem Sol.setFail (h : Sol z M mb F V s w) (hz : z ≤ 40) (f : Int) :
    Sol z M mb (fun j => if j = 10 then .int .i64 f else F j) V { s with F := f } (w.setCell ⟨M, 10, none⟩ (.int .i64 f)) ∧ Chg M mb (blk z F V) (blk z (fun j => if j = 10 then .int .i64 f else F j) V) w (w.setCell ⟨M, 10, none⟩ (.int .i64 f)) := by
  obtain ⟨e1, e2, e3, e4⟩ := setCell_os w ⟨M, 10, none⟩ (.int .i64 f)
  exact Sol.cellsM h hz (World.rowIs.set h.cells 10 _) h.f0 h.f4 h.f5 h.f6 rfl (fun a => ⟨rfl, fun v w hr => hr⟩) (fun j hj => Below.heap_setCell _ _ _ _ (by simpa using hj)) e1 e2 e3 (by omega)
theorem Sol.setHeld (h : Sol z M mb F V s w) (hz : z ≤ 40) (H : LS) :
    Sol z M mb (fun j => if j = 6 then .int .u64 H.2 else if j = 5 then .int .u64 H.1 else F j) V { s with H := H } ((w.setCell ⟨M, 5, none⟩ (.int .u64 H.1)).setCell ⟨M, 6, none⟩ (.int .u64 H.2)) ∧ Chg M mb (blk z F V) (blk z (fun j => if j = 6 then .int .u64 H.2 else if j = 5 then .int .u64 H.1 else F j) V) w ((w.setCell ⟨M, 5, none⟩ (.int .u64 H.1)).setCell ⟨M, 6, none⟩ (.int .u64 H.2)) := by
  obtain ⟨e1, e2, e3, e4⟩ := setCell_os w ⟨M, 5, none⟩ (.int .u64 H.1)
  obtain ⟨g1, g2, g3, g4⟩ := setCell_os (w.setCell ⟨M, 5, none⟩ (.int .u64 H.1)) ⟨M, 6, none⟩ (.int .u64 H.2)
  exact Sol.cellsM h hz (World.rowIs.set (World.rowIs.set h.cells 5 _) 6 _) h.f0 h.f4 rfl rfl h.f10 (fun a => ⟨rfl, fun v w hr => hr⟩) (fun j hj => (Below.heap_setCell _ _ _ _ (by simpa using hj)).trans (Below.heap_setCell _ _ _ _ (by simpa using hj))) (g1.trans e1) (g2.trans e2) (g3.trans e3) (by omega)
end
set_option maxHeartbeats 800000 in
theorem fail_impl (z : Int) (M mb : Nat) (F : Nat → Value) (V : Int → Value) (s : Sv) (w : World) (h : Sol z M mb F V s w) (hz : z ≤ 40) (i : Nat) (hi : i ≤ 1000000) (hf : -1 ≤ s.F ∧ s.F ≤ 1000000) :
    Calls Tryd.prog 45 #[.pointer (some ⟨M, 0, none⟩), .int .i64 i] w fun e w' => e = .returned (.tuple #[]) ∧ ∃ F', Sol z M mb F' V { s with F := failF s.F i } w' ∧ Chg M mb (blk z F V) (blk z F' V) w w' := by
  have c := h.cell (i := 10) (by omega)
  rw [h.f10] at c
  have fr := h.frozen 10
  have HS := hid h
  obtain ⟨f, hf9⟩ : ∃ f, s.F = f := ⟨_, rfl⟩
  rw [hf9] at c hf
  have HF := hid hf9
  clear h hf9
  have e0 : (if s.F = -1 ∨ (i : Int) < s.F then (i : Int) else s.F) = failF s.F i := rfl
  by_cases h1 : f = -1
  · have HR : Hid (failF s.F i = i) := hid (by unfold failF; rw [HF.out, if_pos (.inl h1)])
    have d1 : (f == -1) = true := by simp [h1]
    clear h1
    go_enter Tryd.func45, Tryd.ntmps45
    go_wp2
    go_end0
    obtain ⟨h2, h3⟩ := Sol.setFail HS.out hz i
    exact ⟨rfl, _, by rw [HR.out]; exact h2, h3⟩
  · have d1 : (f == -1) = false := by simp [h1]
    by_cases h2 : (i : Int) < f
    · have HR : Hid (failF s.F i = i) := hid (by unfold failF; rw [HF.out, if_pos (.inr h2)])
      clear h1
      go_enter Tryd.func45, Tryd.ntmps45
      go_wp2
      go_end0
      obtain ⟨h2, h3⟩ := Sol.setFail HS.out hz i
      exact ⟨rfl, _, by rw [HR.out]; exact h2, h3⟩
    · have HR : Hid (failF s.F i = s.F) := hid (by unfold failF; rw [HF.out, if_neg (by omega)])
      clear h1
      go_enter Tryd.func45, Tryd.ntmps45
      go_wp2
      go_end0
      exact ⟨rfl, F, by rw [HR.out]; exact HS.out.below (by repeat (first | exact Below.refl _ _ | assumption | refine netSem.bdn ?_ _ | refine Below.drew ?_ | refine Below.alloc ?_ (by first | exact Nat.le_refl _ | omega | (simp; done) | (simp; omega)) _)), Chg.below (by repeat (first | exact Below.refl _ _ | assumption | refine netSem.bdn ?_ _ | refine Below.drew ?_ | refine Below.alloc ?_ (by first | exact Nat.le_refl _ | omega | (simp; done) | (simp; omega)) _))⟩
end Go.Proofs.YtkboijdcjechdaaDoor.solFail
