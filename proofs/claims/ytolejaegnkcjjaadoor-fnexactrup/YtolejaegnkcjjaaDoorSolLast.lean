/- A solver of the program: the literal of a clause that became false last, where nothing has become true yet (lastFalse); conditions: an empty trail. -/
import Derived.Test.YtolejaegnkcjjaaDoorSolMem
import Derived.Test.YtolejaegnkcjjaaDoorPart34
import Derived.RangeFuncNested
import Derived.RangeFuncBound
import Derived.RangeFuncCalls
import Derived.RangeFuncLeaves
import Derived.Shelf.RegionOpen
import Derived.WalkKit
import Derived.OwnWalkIn
import Derived.TacticsInMore
import Derived.LoopNIn
import Derived.LoopIn
namespace Go.Proofs.YtolejaegnkcjjaaDoor.solLast
open Go.RowKit Go.Deep Go.Shelf Go base sets solSets solMem rangeAt marks
set_option linter.unusedVariables false
set_option linter.unusedSimpArgs false
attribute [local go_sem] Oper.semAt_some

set_option maxRecDepth 100000 in
set_option maxHeartbeats 2000000 in
theorem back1_nil (ta : Option Addr) (tc l Bs : Nat) (W : World) (hc : W.cell? ⟨Bs, 0, none⟩ = some (.slice ta 0 tc)) :
    CallsIn Fence.wide 9 Tryd.prog 79 #[.func (.yield l) #[] #[], .pointer (some ⟨Bs, 0, none⟩)] W fun e W' => (∃ v, e = .returned v) ∧ W' = W := by
  refine callsIn_of_wp Tryd.func79 rfl trivial ?_ rfl
  simp only [Tryd.ntmps79, List.size_toArray, List.length_cons, List.length_nil, Nat.reduceAdd, Nat.reduceSub, Array.replicate_succ, Array.replicate_zero, List.push_toArray, List.append_toArray, List.nil_append, List.cons_append]
  gi_wp2
  gi_loopw [3] (fun i wr => i = .int .i64 (-1) ∧ wr = W) (fun _ _ => 0)
  case atStart => exact ⟨rfl, rfl⟩
  case round =>
    obtain ⟨rfl, rfl⟩ := hrel
    gi_wp2
    go_end0
    exact ⟨⟨_, rfl⟩, rfl⟩
theorem back_impl (v : Value) (w : World) (hv : ∃ a n c, v = .slice a n c) : Calls Tryd.prog 70 #[v] w fun e w' => e = .returned (.func (.func 79) #[] #[.pointer (some ⟨w.heap.size, 0, none⟩)]) ∧ w' = w.alloc (.cells #[v] 69) := by
  obtain ⟨a, n, c, rfl⟩ := hv
  go_enter Tryd.func70, Tryd.ntmps70
  go_wp2
  go_ret
  exact ⟨rfl, rfl⟩
theorem back_seq (ta : Option Addr) (tc Bs : Nat) : SeqAll (α := Empty) Tryd.prog 79 #[.pointer (some ⟨Bs, 0, none⟩)] (fun x => x.elim) (fun _ _ _ => False) (fun _ _ => True) (fun _ A B => A = B) (fun xs => xs = []) (fun W => W.cell? ⟨Bs, 0, none⟩ = some (.slice ta 0 tc)) :=
  fun l J W hs hJ hY h0 => (back1_nil ta tc l Bs W hs).mono fun e W' ⟨h1, h2⟩ => ⟨h1, [], rfl, by rw [h2]; exact h0⟩
set_option maxRecDepth 100000 in
set_option maxHeartbeats 2000000 in
theorem last_nil (ta : Option Addr) (tc M c1 c2 : Nat) (w : World) (hc : w.cell? ⟨M, 7, none⟩ = some (.slice ta 0 tc)) :
    Calls Tryd.prog 58 #[.pointer (some ⟨M, 0, none⟩), .agg #[.int .u64 c1, .int .u64 c2]] w fun e w' => e = .returned (.int .i64 0) ∧ Below w.heap.size w w' := by
  have HB := hid (fun W : World => back_impl (.slice ta 0 tc) W ⟨_, _, _, rfl⟩)
  have hM := World.block_lt_of_cell? _ _ hc
  simp only at hM
  refine (callsIn_wide (n := 9)).1 ?_
  refine callsIn_of_wp_marks Tryd.func58 rfl trivial ?_ rfl
  simp only [Tryd.ntmps58, List.size_toArray, List.length_cons, List.length_nil, Nat.reduceAdd, Nat.reduceSub, Array.replicate_succ, Array.replicate_zero, List.push_toArray, List.append_toArray, List.nil_append, List.cons_append]
  gi_wp2
  refine ⟨trivial, (callsIn_wide.2 (HB.out _)).mono ?_⟩
  rintro e W2 ⟨rfl, rfl⟩
  gi_wp2
  obtain ⟨W3, hW3⟩ : ∃ W3, ((w.alloc (.cells #[.int .u64 c1, .int .u64 c2] 52)).alloc (.cells #[.int .i64 0] 3)).alloc (.cells #[.slice ta 0 tc] 69) = W3 := ⟨_, rfl⟩
  have hz3 : W3.heap.size = w.heap.size + 1 + 1 + 1 := by rw [← hW3]; simp
  have hB3 : Below w.heap.size w W3 := by rw [← hW3]; exact (by repeat (first | exact Below.refl _ _ | assumption | refine Below.drew ?_ | refine Below.alloc ?_ (by first | exact Nat.le_refl _ | omega | (simp; done) | (simp; omega)) _ | refine Below.setCell ?_ (by first | exact Nat.le_refl _ | omega | (simp; done) | (simp; omega)) _))
  have h43 : W3.heap[w.heap.size + 1]? = some (.cells #[.int .i64 0] 3 (0, 0)) := by
    rw [← hW3]
    have e1 := Go.heap_alloc_old ((w.alloc (.cells #[.int .u64 c1, .int .u64 c2] 52)).alloc (.cells #[.int .i64 0] 3)) (.cells #[.slice ta 0 tc] 69) (r := w.heap.size + 1) (by simp)
    rw [e1]
    have e2 := Go.heap_alloc_new (w.alloc (.cells #[.int .u64 c1, .int .u64 c2] 52)) (.cells #[.int .i64 0] 3)
    rwa [World.size_alloc] at e2
  have hc3 : W3.cell? ⟨w.heap.size + 1 + 1, 0, none⟩ = some (.slice ta 0 tc) := by rw [← hW3]; simp [go_sem]
  rw [hW3]
  have HW3 := hid hW3
  clear hW3
  refine range_all (α := Empty) rfl (enters_of Tryd.func79 (by kernel_rfl) rfl) (back_seq ta tc (w.heap.size + 1 + 1)) (fun r => ?start) (fun _ _ => trivial) (fun _ _ _ _ _ => trivial) (fun A A' hr k ob h1 h2 h3 h4 => ?hR) (fun x => x.elim)
    (fun pre W => Below w.heap.size w W ∧ W.heap[w.heap.size + 1]? = some (.cells #[.int .i64 0] 3 (0, 0))) ?hI (fun pre x => x.elim) ?hIR ⟨hB3, h43⟩ (fun x => x.elim) (fun l x => x.elim) (fun l pre x => x.elim) ?don
  case start =>
    have hb : Below W3.heap.size W3 ((W3.alloc (.deferred (some []))).alloc (.loop r)) := (by repeat (first | exact Below.refl _ _ | assumption | refine Below.drew ?_ | refine Below.alloc ?_ (by first | exact Nat.le_refl _ | omega | (simp; done) | (simp; omega)) _ | refine Below.setCell ?_ (by first | exact Nat.le_refl _ | omega | (simp; done) | (simp; omega)) _))
    exact keep hb hc3
  case hR => rw [← hr]; exact h3
  case hI =>
    intro pre A A' row h hg hr
    refine ⟨⟨hg.os.trans h.1.os, hg.tape.trans h.1.tape, hg.output.trans h.1.output, Nat.le_trans h.1.size hg.size, fun j hj => (hg.block j (Nat.lt_of_lt_of_le hj h.1.size) (fun e => ?_)).trans (h.1.block j hj)⟩, (hg.block _ (Array.getElem?_eq_some_iff.1 h.2).1 (fun e => ?_)).trans h.2⟩
    · have := (hr j e.symm).1
      omega
    · have := (hr _ e.symm).1
      omega
  case hIR =>
    intro pre A A' hr h
    rw [← hr]; exact h
  case don =>
    rintro D ys W' hD hys ⟨hb, h4⟩ hK
    have k4 : W'.cell? ⟨w.heap.size + 1, 0, none⟩ = some (.int .i64 0) := by simp [World.cell?, h4]
    have f4 : W'.frozen? ⟨w.heap.size + 1, 0, none⟩ = false := by simp [World.frozen?, h4]
    gi_wp2
    have hbs : Below w.heap.size w (W'.setCell ⟨w.heap.size + 1, 0, none⟩ (.int .i64 0)) := hb.setCell (by dsimp only; omega) _
    have hDs : (W'.setCell ⟨w.heap.size + 1, 0, none⟩ (.int .i64 0)).heap[D]? = some (.deferred (some [])) := (Below.heap_setCell _ _ _ _ (by dsimp only; omega)).trans hK
    have hcs : (W'.setCell ⟨w.heap.size + 1, 0, none⟩ (.int .i64 0)).cell? ⟨w.heap.size + 1, 0, none⟩ = some (.int .i64 0) := World.cell?_setCell_same _ _ _ k4
    generalize W'.setCell ⟨w.heap.size + 1, 0, none⟩ (.int .i64 0) = W4 at *
    refine leaves_marks (B := W3.heap.size) [D] W4 ⟨by simp, fun D' hD' => by simp only [List.mem_singleton] at hD'; subst hD'; exact ⟨hD, hDs⟩⟩ (fun W'' hc => ?_)
    have hc5 : W''.cell? ⟨w.heap.size + 1, 0, none⟩ = some (.int .i64 0) := (World.cell?_of_block (a := ⟨w.heap.size + 1, 0, none⟩) (hc.blk _ (World.block_lt_of_cell? _ _ hcs) (fun hm => by simp only [List.mem_singleton] at hm; omega))).trans hcs
    refine ⟨.int .i64 0, by simp [results, Tryd.results58, go_sem, hc5], rfl, ⟨hc.os.trans hbs.os, hc.tape.trans hbs.tape, hc.output.trans hbs.output, Nat.le_trans hbs.size hc.size, fun j hj => (hc.blk j (Nat.lt_of_lt_of_le hj hbs.size) (fun hm => by simp only [List.mem_singleton] at hm; omega)).trans (hbs.block j hj)⟩⟩
end Go.Proofs.YtolejaegnkcjjaaDoor.solLast
