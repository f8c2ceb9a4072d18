/- The laws' own marks in a whole network; conditions: lengths that fit. -/
import Derived.Test.YtjppbmpgnlojpaaGreatNetMark
namespace Go.Proofs.YtjppbmpgnlojpaaGreat.netMark
open Go.RowKit Go.Deep base copy netSem netCopy netWhole intsOwn
set_option linter.unusedVariables false

set_option maxHeartbeats 1600000 in
theorem mark_net (B : Nat) (N l : Nat → Nat) (s : Ss) (g : R) (o e : List Int) (x f : R) (w : World) (h : Copied B w N l s g o e x f) (hl : ∀ i, i < 6 → l i ≤ 1048576) :
    Calls Tryz.prog 14 #[netV (fun i => some ⟨N i, 0, none⟩) l l, .int .i64 1] w fun e' w' => ∃ r : Int, e' = .returned (.int .i64 r) ∧ 1 ≤ r ∧ r ≤ 20000000 ∧ Ch (Ns N) w w' := by
  have l0 := hl 0 (by decide)
  have l1 := hl 1 (by decide)
  have l2 := hl 2 (by decide)
  have l3 := hl 3 (by decide)
  have l4 := hl 4 (by decide)
  have l5 := hl 5 (by decide)
  obtain ⟨u0, u1, u2, u3, u4⟩ := h.up
  have u5 := h.lt
  have U := hid (And.intro u0 (And.intro u1 (And.intro u2 (And.intro u3 (And.intro u4 u5)))))
  clear u0 u1 u2 u3 u4 u5
  have HN := hid h
  clear h hl
  have BW : Hid (Below w.heap.size w (w.alloc (.cells #[.slice (some ⟨N 0, 0, none⟩) (l 0) (l 0), .slice (some ⟨N 1, 0, none⟩) (l 1) (l 1), .slice (some ⟨N 2, 0, none⟩) (l 2) (l 2), .slice (some ⟨N 3, 0, none⟩) (l 3) (l 3), .slice (some ⟨N 4, 0, none⟩) (l 4) (l 4), .slice (some ⟨N 5, 0, none⟩) (l 5) (l 5)] 38))) := (by repeat (first | exact Below.refl _ _ | assumption | refine Below.drew ?_ | refine Below.alloc ?_ (by first | exact Nat.le_refl _ | omega | (simp; done) | (simp; omega)) _ | refine Below.setCell ?_ (by first | exact Nat.le_refl _ | omega | (simp; done) | (simp; omega)) _))
  have CW : Hid (Ch (Ns N) w (w.alloc (.cells #[.slice (some ⟨N 0, 0, none⟩) (l 0) (l 0), .slice (some ⟨N 1, 0, none⟩) (l 1) (l 1), .slice (some ⟨N 2, 0, none⟩) (l 2) (l 2), .slice (some ⟨N 3, 0, none⟩) (l 3) (l 3), .slice (some ⟨N 4, 0, none⟩) (l 4) (l 4), .slice (some ⟨N 5, 0, none⟩) (l 5) (l 5)] 38))) := Ch.of_below BW.out
  have hnw : ¬ Ns N w.heap.size := by rintro ⟨i, hi, e⟩; have := U.out; match i, hi with
    | 0, _ => omega
    | 1, _ => omega
    | 2, _ => omega
    | 3, _ => omega
    | 4, _ => omega
    | 5, _ => omega
    | i + 6, hi => omega
  have HNW := hid hnw
  clear hnw
  have X0 : Hid (∃ f, (w.alloc (.cells #[.slice (some ⟨N 0, 0, none⟩) (l 0) (l 0), .slice (some ⟨N 1, 0, none⟩) (l 1) (l 1), .slice (some ⟨N 2, 0, none⟩) (l 2) (l 2), .slice (some ⟨N 3, 0, none⟩) (l 3) (l 3), .slice (some ⟨N 4, 0, none⟩) (l 4) (l 4), .slice (some ⟨N 5, 0, none⟩) (l 5) (l 5)] 38)).rowIs (N 0) 9 (l 0) f) := by
    obtain ⟨f, hf, -⟩ := (HN.out.routers.below BW.out).row
    exact ⟨f, hf⟩
  have X1 : Hid (∃ f, (w.alloc (.cells #[.slice (some ⟨N 0, 0, none⟩) (l 0) (l 0), .slice (some ⟨N 1, 0, none⟩) (l 1) (l 1), .slice (some ⟨N 2, 0, none⟩) (l 2) (l 2), .slice (some ⟨N 3, 0, none⟩) (l 3) (l 3), .slice (some ⟨N 4, 0, none⟩) (l 4) (l 4), .slice (some ⟨N 5, 0, none⟩) (l 5) (l 5)] 38)).rowIs (N 1) 86 (l 1 * 3) f) := by
    obtain ⟨f, hf, -⟩ := (HN.out.links.below BW.out).row
    exact ⟨f, hf⟩
  have X2 : Hid (∃ f, (w.alloc (.cells #[.slice (some ⟨N 0, 0, none⟩) (l 0) (l 0), .slice (some ⟨N 1, 0, none⟩) (l 1) (l 1), .slice (some ⟨N 2, 0, none⟩) (l 2) (l 2), .slice (some ⟨N 3, 0, none⟩) (l 3) (l 3), .slice (some ⟨N 4, 0, none⟩) (l 4) (l 4), .slice (some ⟨N 5, 0, none⟩) (l 5) (l 5)] 38)).rowIs (N 2) 3 (l 2 * 1) f) := by
    show ∃ f, _
    rw [Nat.mul_one]
    exact ⟨_, HN.out.origins.of_block (BW.out.block _ HN.out.origins.lt)⟩
  have X3 : Hid (∃ f, (w.alloc (.cells #[.slice (some ⟨N 0, 0, none⟩) (l 0) (l 0), .slice (some ⟨N 1, 0, none⟩) (l 1) (l 1), .slice (some ⟨N 2, 0, none⟩) (l 2) (l 2), .slice (some ⟨N 3, 0, none⟩) (l 3) (l 3), .slice (some ⟨N 4, 0, none⟩) (l 4) (l 4), .slice (some ⟨N 5, 0, none⟩) (l 5) (l 5)] 38)).rowIs (N 3) 3 (l 3 * 1) f) := by
    show ∃ f, _
    rw [Nat.mul_one]
    exact ⟨_, HN.out.externals.of_block (BW.out.block _ HN.out.externals.lt)⟩
  have X4 : Hid (∃ f, (w.alloc (.cells #[.slice (some ⟨N 0, 0, none⟩) (l 0) (l 0), .slice (some ⟨N 1, 0, none⟩) (l 1) (l 1), .slice (some ⟨N 2, 0, none⟩) (l 2) (l 2), .slice (some ⟨N 3, 0, none⟩) (l 3) (l 3), .slice (some ⟨N 4, 0, none⟩) (l 4) (l 4), .slice (some ⟨N 5, 0, none⟩) (l 5) (l 5)] 38)).rowIs (N 4) 90 (l 4 * 5) f) := by
    obtain ⟨f, hf, -⟩ := (HN.out.imports.below BW.out).row
    exact ⟨f, hf⟩
  have X5 : Hid (∃ f, (w.alloc (.cells #[.slice (some ⟨N 0, 0, none⟩) (l 0) (l 0), .slice (some ⟨N 1, 0, none⟩) (l 1) (l 1), .slice (some ⟨N 2, 0, none⟩) (l 2) (l 2), .slice (some ⟨N 3, 0, none⟩) (l 3) (l 3), .slice (some ⟨N 4, 0, none⟩) (l 4) (l 4), .slice (some ⟨N 5, 0, none⟩) (l 5) (l 5)] 38)).rowIs (N 5) 94 (l 5 * 4) f) := by
    obtain ⟨f, hf, -⟩ := (HN.out.filters.below BW.out).row
    exact ⟨f, hf⟩
  rw [show netV (fun i => some ⟨N i, 0, none⟩) l l = .agg #[.slice (some ⟨N 0, 0, none⟩) (l 0) (l 0), .slice (some ⟨N 1, 0, none⟩) (l 1) (l 1), .slice (some ⟨N 2, 0, none⟩) (l 2) (l 2), .slice (some ⟨N 3, 0, none⟩) (l 3) (l 3), .slice (some ⟨N 4, 0, none⟩) (l 4) (l 4), .slice (some ⟨N 5, 0, none⟩) (l 5) (l 5)] from rfl]
  go_enter Tryz.func14, Tryz.ntmps14
  go_wp2_with fail
  refine (mark_str (N 0) (l 0) ((1 : Int)) _ X0.out (by omega) (by omega) l0).mono ?_
  rintro e' w1 ⟨rfl, hg⟩
  have CW := hid (CW.out.trans (Ch.of_grown (Q := Ns N) hg ⟨0, by decide, rfl⟩))
  have X1 : Hid (∃ f, w1.rowIs (N 1) 86 (l 1 * 3) f) := by
    obtain ⟨f, hf⟩ := X1.out
    exact ⟨f, hf.of_block (hg.block _ hf.lt (by have := U.out; intro e; injection e with e; omega))⟩
  have X2 : Hid (∃ f, w1.rowIs (N 2) 3 (l 2 * 1) f) := by
    obtain ⟨f, hf⟩ := X2.out
    exact ⟨f, hf.of_block (hg.block _ hf.lt (by have := U.out; intro e; injection e with e; omega))⟩
  have X3 : Hid (∃ f, w1.rowIs (N 3) 3 (l 3 * 1) f) := by
    obtain ⟨f, hf⟩ := X3.out
    exact ⟨f, hf.of_block (hg.block _ hf.lt (by have := U.out; intro e; injection e with e; omega))⟩
  have X4 : Hid (∃ f, w1.rowIs (N 4) 90 (l 4 * 5) f) := by
    obtain ⟨f, hf⟩ := X4.out
    exact ⟨f, hf.of_block (hg.block _ hf.lt (by have := U.out; intro e; injection e with e; omega))⟩
  have X5 : Hid (∃ f, w1.rowIs (N 5) 94 (l 5 * 4) f) := by
    obtain ⟨f, hf⟩ := X5.out
    exact ⟨f, hf.of_block (hg.block _ hf.lt (by have := U.out; intro e; injection e with e; omega))⟩
  have CB : Hid (Ch (Ns N) (w.alloc (.cells #[.slice (some ⟨N 0, 0, none⟩) (l 0) (l 0), .slice (some ⟨N 1, 0, none⟩) (l 1) (l 1), .slice (some ⟨N 2, 0, none⟩) (l 2) (l 2), .slice (some ⟨N 3, 0, none⟩) (l 3) (l 3), .slice (some ⟨N 4, 0, none⟩) (l 4) (l 4), .slice (some ⟨N 5, 0, none⟩) (l 5) (l 5)] 38)) w1) := Ch.of_grown (Q := Ns N) hg ⟨0, by decide, rfl⟩
  have fb : w1.cell? ⟨w.heap.size, 1, none⟩ = some (.slice (some ⟨N 1, 0, none⟩) (l 1) (l 1)) := CB.out.cell (by simp [go_sem]) HNW.out
  clear hg
  go_wp2_with fail
  refine (mark_link (N 1) (l 1) ((1 : Int) + (l 0 : Int)) _ X1.out (by omega) (by omega) l1).mono ?_
  rintro e' w2 ⟨rfl, hg⟩
  have CW := hid (CW.out.trans (Ch.of_grown (Q := Ns N) hg ⟨1, by decide, rfl⟩))
  have X2 : Hid (∃ f, w2.rowIs (N 2) 3 (l 2 * 1) f) := by
    obtain ⟨f, hf⟩ := X2.out
    exact ⟨f, hf.of_block (hg.block _ hf.lt (by have := U.out; intro e; injection e with e; omega))⟩
  have X3 : Hid (∃ f, w2.rowIs (N 3) 3 (l 3 * 1) f) := by
    obtain ⟨f, hf⟩ := X3.out
    exact ⟨f, hf.of_block (hg.block _ hf.lt (by have := U.out; intro e; injection e with e; omega))⟩
  have X4 : Hid (∃ f, w2.rowIs (N 4) 90 (l 4 * 5) f) := by
    obtain ⟨f, hf⟩ := X4.out
    exact ⟨f, hf.of_block (hg.block _ hf.lt (by have := U.out; intro e; injection e with e; omega))⟩
  have X5 : Hid (∃ f, w2.rowIs (N 5) 94 (l 5 * 4) f) := by
    obtain ⟨f, hf⟩ := X5.out
    exact ⟨f, hf.of_block (hg.block _ hf.lt (by have := U.out; intro e; injection e with e; omega))⟩
  have CB := hid (CB.out.trans (Ch.of_grown (Q := Ns N) hg ⟨1, by decide, rfl⟩))
  clear fb
  have fb : w2.cell? ⟨w.heap.size, 2, none⟩ = some (.slice (some ⟨N 2, 0, none⟩) (l 2) (l 2)) := CB.out.cell (by simp [go_sem]) HNW.out
  clear hg
  go_wp2_with fail
  refine (mark_int (N 2) (l 2) ((1 : Int) + (l 0 : Int) + 3 * (l 1 : Int)) _ X2.out (by omega) (by omega) l2).mono ?_
  rintro e' w3 ⟨rfl, hg⟩
  have CW := hid (CW.out.trans (Ch.of_grown (Q := Ns N) hg ⟨2, by decide, rfl⟩))
  have X3 : Hid (∃ f, w3.rowIs (N 3) 3 (l 3 * 1) f) := by
    obtain ⟨f, hf⟩ := X3.out
    exact ⟨f, hf.of_block (hg.block _ hf.lt (by have := U.out; intro e; injection e with e; omega))⟩
  have X4 : Hid (∃ f, w3.rowIs (N 4) 90 (l 4 * 5) f) := by
    obtain ⟨f, hf⟩ := X4.out
    exact ⟨f, hf.of_block (hg.block _ hf.lt (by have := U.out; intro e; injection e with e; omega))⟩
  have X5 : Hid (∃ f, w3.rowIs (N 5) 94 (l 5 * 4) f) := by
    obtain ⟨f, hf⟩ := X5.out
    exact ⟨f, hf.of_block (hg.block _ hf.lt (by have := U.out; intro e; injection e with e; omega))⟩
  have CB := hid (CB.out.trans (Ch.of_grown (Q := Ns N) hg ⟨2, by decide, rfl⟩))
  clear fb
  have fb : w3.cell? ⟨w.heap.size, 3, none⟩ = some (.slice (some ⟨N 3, 0, none⟩) (l 3) (l 3)) := CB.out.cell (by simp [go_sem]) HNW.out
  clear hg
  go_wp2_with fail
  refine (mark_int (N 3) (l 3) ((1 : Int) + (l 0 : Int) + 3 * (l 1 : Int) + (l 2 : Int)) _ X3.out (by omega) (by omega) l3).mono ?_
  rintro e' w4 ⟨rfl, hg⟩
  have CW := hid (CW.out.trans (Ch.of_grown (Q := Ns N) hg ⟨3, by decide, rfl⟩))
  have X4 : Hid (∃ f, w4.rowIs (N 4) 90 (l 4 * 5) f) := by
    obtain ⟨f, hf⟩ := X4.out
    exact ⟨f, hf.of_block (hg.block _ hf.lt (by have := U.out; intro e; injection e with e; omega))⟩
  have X5 : Hid (∃ f, w4.rowIs (N 5) 94 (l 5 * 4) f) := by
    obtain ⟨f, hf⟩ := X5.out
    exact ⟨f, hf.of_block (hg.block _ hf.lt (by have := U.out; intro e; injection e with e; omega))⟩
  have CB := hid (CB.out.trans (Ch.of_grown (Q := Ns N) hg ⟨3, by decide, rfl⟩))
  clear fb
  have fb : w4.cell? ⟨w.heap.size, 4, none⟩ = some (.slice (some ⟨N 4, 0, none⟩) (l 4) (l 4)) := CB.out.cell (by simp [go_sem]) HNW.out
  clear hg
  go_wp2_with fail
  refine (mark_import (N 4) (l 4) ((1 : Int) + (l 0 : Int) + 3 * (l 1 : Int) + (l 2 : Int) + (l 3 : Int)) _ X4.out (by omega) (by omega) l4).mono ?_
  rintro e' w5 ⟨rfl, hg⟩
  have CW := hid (CW.out.trans (Ch.of_grown (Q := Ns N) hg ⟨4, by decide, rfl⟩))
  have X5 : Hid (∃ f, w5.rowIs (N 5) 94 (l 5 * 4) f) := by
    obtain ⟨f, hf⟩ := X5.out
    exact ⟨f, hf.of_block (hg.block _ hf.lt (by have := U.out; intro e; injection e with e; omega))⟩
  have CB := hid (CB.out.trans (Ch.of_grown (Q := Ns N) hg ⟨4, by decide, rfl⟩))
  clear fb
  have fb : w5.cell? ⟨w.heap.size, 5, none⟩ = some (.slice (some ⟨N 5, 0, none⟩) (l 5) (l 5)) := CB.out.cell (by simp [go_sem]) HNW.out
  clear hg
  go_wp2_with fail
  refine (mark_filter (N 5) (l 5) ((1 : Int) + (l 0 : Int) + 3 * (l 1 : Int) + (l 2 : Int) + (l 3 : Int) + 5 * (l 4 : Int)) _ X5.out (by omega) (by omega) l5).mono ?_
  rintro e' w6 ⟨rfl, hg⟩
  have CW := hid (CW.out.trans (Ch.of_grown (Q := Ns N) hg ⟨5, by decide, rfl⟩))
  have CB := hid (CB.out.trans (Ch.of_grown (Q := Ns N) hg ⟨5, by decide, rfl⟩))
  clear hg
  go_wp2
  go_ret
  exact ⟨_, rfl, by omega, by omega, CW.out⟩
end Go.Proofs.YtjppbmpgnlojpaaGreat.netMark
