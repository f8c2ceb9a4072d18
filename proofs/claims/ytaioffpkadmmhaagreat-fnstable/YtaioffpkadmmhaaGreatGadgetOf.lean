import Derived.Test.YtaioffpkadmmhaaGreatGadget
namespace Go.Proofs.YtaioffpkadmmhaaGreat.gadgetOf
open Go.RowKit Go.Deep Go base names netSem intsOwn source netMath gadget
set_option linter.unusedVariables false
theorem fro_of {w w' : World} {b x : Nat} (h : w'.heap[b]? = w.heap[b]?) : w'.frozen? ⟨b, x, none⟩ = w.frozen? ⟨b, x, none⟩ := by simp [World.frozen?, h]
theorem cel_of {w w' : World} {b x : Nat} {v : Value} (h : w'.heap[b]? = w.heap[b]?) (hc : w.cell? ⟨b, x, none⟩ = some v) : w'.cell? ⟨b, x, none⟩ = some v := (World.cell?_of_block (a := ⟨b, x, none⟩) h).trans hc
theorem gad (k : Nat) (hk : k < 2) (w : World) : Calls Tryz.prog 20 #[.int .i64 (k : Int)] w fun e' w' => ∃ (p : Nat → Option Addr) (l c : Nat → Nat) (g : R) (o e : List Int) (x f : R), e' = .returned (netV p l c) ∧ (∀ w3 : World, (∀ q, w.heap.size < q → q < w'.heap.size → w3.heap[q]? = w'.heap[q]?) → NetIs w3 p l sN g o e x f) ∧ netB l sN g o e x f = true ∧ (l 0 ≤ c 0 ∧ l 1 ≤ c 1) ∧ Below w.heap.size w w' := by
 rcases (show k = 0 ∨ k = 1 by omega) with rfl | rfl
 · exact gad0 w
 · exact gad1 w
set_option maxHeartbeats 1600000 in
set_option maxRecDepth 8000 in
theorem gadgetOf_spec (k : Nat) (hk : k < 2) (w : World) :
  Calls Tryz.prog 6 #[.int .i64 (k : Int)] w fun e' w' => ∃ (p : Nat → Option Addr) (l c : Nat → Nat) (g : R) (o e : List Int) (x f : R), e' = .returned (netV p l c) ∧ (∀ w3 : World, (∀ q, w.heap.size < q → q < w'.heap.size → w3.heap[q]? = w'.heap[q]?) → NetIs w3 p l sN g o e x f) ∧ netB l sN g o e x f = true ∧ (l 0 ≤ c 0 ∧ l 1 ≤ c 1) ∧ Below w.heap.size w w' := by
 have HGd := hid (fun W => gad k hk W)
 obtain ⟨wR, hwR⟩ : ∃ wR, w.alloc (.cells #[.slice none 0 0, .slice none 0 0, .slice none 0 0, .slice none 0 0, .slice none 0 0, .slice none 0 0] 29) = wR := ⟨_, rfl⟩
 have HA : Hid (Below w.heap.size w wR ∧ wR.heap.size = w.heap.size + 1 ∧ wR.rowIs w.heap.size 29 6 (fun _ => .slice none 0 0)) := hid (by
  rw [← hwR]
  exact ⟨(by repeat (first | exact Below.refl _ _ | assumption | refine Below.drew ?_ | refine Below.alloc ?_ (by first | exact Nat.le_refl _ | omega | (simp; done) | (simp; omega)) _ | refine Below.setCell ?_ (by first | exact Nat.le_refl _ | omega | (simp; done) | (simp; omega)) _)), by simp, World.rowIs_alloc w #[.slice none 0 0, .slice none 0 0, .slice none 0 0, .slice none 0 0, .slice none 0 0, .slice none 0 0] _ _ (fun i hi => by
   have h6 : i < 6 := hi
   rcases (show i = 0 ∨ i = 1 ∨ i = 2 ∨ i = 3 ∨ i = 4 ∨ i = 5 by omega) with rfl | rfl | rfl | rfl | rfl | rfl <;> rfl)⟩)
 have HWR := hid hwR
 clear hwR
 go_enter Tryz.func6, Tryz.ntmps6
 go_wp2_with fail
 rw [HWR.out]
 clear HWR
 refine (HGd.out _).mono ?_
 rintro e' w2 ⟨p, l, c, g, o, e, x, f, rfl, hn, hnb, hc, hg⟩
 have hzR := HA.out.2.1
 have hrow := HA.out.2.2.of_block (hg.block w.heap.size (by omega))
 have d0 := hrow.cell (i := 0) (by omega)
 have d1 := hrow.cell (i := 1) (by omega)
 have d2 := hrow.cell (i := 2) (by omega)
 have d3 := hrow.cell (i := 3) (by omega)
 have d4 := hrow.cell (i := 4) (by omega)
 have d5 := hrow.cell (i := 5) (by omega)
 have z0 := hrow.frozen 0
 have z1 := hrow.frozen 1
 have z2 := hrow.frozen 2
 have z3 := hrow.frozen 3
 have z4 := hrow.frozen 4
 have z5 := hrow.frozen 5
 have HB2 := hid (HA.out.1.trans (hg.mono HA.out.1.size))
 have HN := hid hn
 have HNb := hid hnb
 have HC := hid hc
 clear hn hnb hc hg hrow
 unfold netV
 go_wp2
 refine bodyPost_ret (v := netV p l c) (by simp [results, Tryz.results6, go_sem, d0, d1, d2, d3, d4, d5, netV]) rfl ?_
 have hk1 : ∀ (W : World) (o : Nat) (v : Value) (q : Nat), q ≠ w.heap.size → (W.setCell ⟨w.heap.size, o, none⟩ v).heap[q]? = W.heap[q]? := fun W o v q hq => Below.heap_setCell _ _ _ _ (by dsimp only; exact hq)
 refine ⟨p, l, c, g, o, e, x, f, rfl, fun w3 h3 => HN.out _ (fun q h1 h2 => (h3 q (by omega) (by simp [World.setCell]; exact h2)).trans ?_), HNb.out, HC.out, ?_⟩
 · have hq : q ≠ w.heap.size := by omega
   rw [hk1 _ _ _ q hq, hk1 _ _ _ q hq, hk1 _ _ _ q hq, hk1 _ _ _ q hq, hk1 _ _ _ q hq, hk1 _ _ _ q hq]
 · exact ((((((HB2.out.setCell (Nat.le_refl _) _).setCell (Nat.le_refl _) _).setCell (Nat.le_refl _) _).setCell (Nat.le_refl _) _).setCell (Nat.le_refl _) _).setCell (Nat.le_refl _) _)
end Go.Proofs.YtaioffpkadmmhaaGreat.gadgetOf
