/- A drawn network with filters: it is right; of the specification; conditions: none. -/
import Derived.Test.YtofdhoefphoaaaaFiltOf
namespace Go.Proofs.Ytofdhoefphoaaaa.filtNet
open Go.RowKit Go.Deep Go base names netSem intsOwn source filtOf
set_option linter.unusedVariables false

def pF (R : Nat) (va : Option Addr) : Nat → Option Addr := fun i => if i = 0 then some ⟨R + 1, 0, none⟩ else if i = 1 then some ⟨R + 1 + 1, 0, none⟩ else if i = 5 then va else none
def lF (k : Nat) : Nat → Nat := fun i => if i = 0 then 2 else if i = 1 then 1 else if i = 5 then k else 0
def sF : Ss := fun i => if i = 0 then ⟨#[97]⟩ else ⟨#[98]⟩
def gF : R := fun _ j => if j = 0 then 0 else 1
def xF : R := fun _ _ => 0
def fF (f : Nat → Int × Int) : R := fun i j => if j = 0 then 0 else if j = 1 then 1 else if j = 2 then (f i).1 else (f i).2
theorem fCells_at (f : Nat → Int × Int) {k i j : Nat} (hi : i < k) (hj : j < 4) : (fCells f k)[i * 4 + j]? = some (.int .i64 (fF f i j)) := by
  induction k with
  | zero => omega
  | succ k ih =>
    simp only [fCells]
    by_cases e : i = k
    · subst e
      rw [List.getElem?_append_right (by rw [fCells_len]; omega), fCells_len, show i * 4 + j - i * 4 = j by omega]
      match j, hj with
      | 0, _ => simp [fF]
      | 1, _ => simp [fF]
      | 2, _ => simp [fF]
      | 3, _ => simp [fF]
      | j + 4, hj => omega
    · rw [List.getElem?_append_left (by rw [fCells_len]; omega)]
      exact ih (by omega)
theorem filt_row {w : World} {B k vc : Nat} {va : Option Addr} {f : Nat → Int × Int} (h : w.ownsRow B 50 4 (.slice va k vc) k (fCells f k)) : Row 4 w va k (fF f) := by
  obtain ⟨h1, h2⟩ := h
  rcases h2 with ⟨h2, h0⟩ | ⟨g, cap, cur, e, hb, hh, hc, hm, hs, ht⟩
  · subst h0
    exact ⟨Nat.zero_le _, fun i hi => absurd hi (Nat.not_lt_zero _)⟩
  · have e1 : va = some ⟨g, 0, none⟩ := by injection e
    refine ⟨Nat.le_trans hc hm, fun i hi => ⟨g, 0, e1, fun j hj => ?_⟩⟩
    have h7 := fCells_at f hi hj
    rw [← ht, List.getElem?_take_of_lt (by omega)] at h7
    rw [Nat.zero_add]
    simp only [World.cell?, hh]
    simpa using h7
theorem net_is {w : World} {R k vc : Nat} {va : Option Addr} {f : Nat → Int × Int} (hk : k ≤ 3) (ho : w.ownsRow (R + 1 + 1 + 1 + 1) 50 4 (.slice va k vc) k (fCells f k)) (h1 : w.cell? ⟨R + 1, 0, none⟩ = some (.string ⟨#[97]⟩) ∧ w.cell? ⟨R + 1, 1, none⟩ = some (.string ⟨#[98]⟩))
    (h2 : w.cell? ⟨R + 1 + 1, 0, none⟩ = some (.int .i64 0) ∧ w.cell? ⟨R + 1 + 1, 1, none⟩ = some (.int .i64 1) ∧ w.cell? ⟨R + 1 + 1, 2, none⟩ = some (.int .i64 1)) : NetIs w (pF R va) (lF k) sF gF [] [] xF (fF f) := by
  refine ⟨⟨by show 2 ≤ maxLen; unfold maxLen; omega, fun i hi => ?_, fun i hi => ?_⟩, ⟨by show 1 ≤ maxLen; unfold maxLen; omega, fun i hi => ?_⟩, ⟨rfl, Nat.zero_le _, fun i hi => absurd hi (Nat.not_lt_zero _)⟩, ⟨rfl, Nat.zero_le _, fun i hi => absurd hi (Nat.not_lt_zero _)⟩, ⟨Nat.zero_le _, fun i hi => absurd hi (Nat.not_lt_zero _)⟩, filt_row ho⟩
  · unfold sF
    split <;> (show 1 ≤ maxLen; unfold maxLen; omega)
  · have hi2 : i < 2 := hi
    obtain rfl | rfl : i = 0 ∨ i = 1 := by omega
    · exact ⟨R + 1, 0, rfl, h1.1⟩
    · exact ⟨R + 1, 0, rfl, h1.2⟩
  · have hi2 : i < 1 := hi
    obtain rfl : i = 0 := by omega
    refine ⟨R + 1 + 1, 0, rfl, fun j hj => ?_⟩
    match j, hj with
    | 0, _ => exact h2.1
    | 1, _ => exact h2.2.1
    | 2, _ => exact h2.2.2
    | j + 3, hj => omega
theorem routers_right : routersB sF 2 = true := by decide +kernel
theorem links_right : linksB gF 1 2 = true := by decide +kernel
theorem link_01 : linkAt gF 1 0 1 = 0 := by decide +kernel
theorem net_right {k : Nat} {f : Nat → Int × Int} (hk : k ≤ 3) (hf : FitF f k) : netB (lF k) sF gF [] [] xF (fF f) = true := by
  have h5 : filtersB gF 1 (fF f) k = true := by
    unfold filtersB
    rw [Bool.and_eq_true]
    refine ⟨decide_eq_true (by omega), allN_iff.2 fun i hi => ?_⟩
    obtain ⟨a1, a2, a3⟩ := hf i hi
    have e0 : fF f i 0 = 0 := rfl
    have e1 : fF f i 1 = 1 := rfl
    have e2 : fF f i 2 = (f i).1 := rfl
    have e3 : fF f i 3 = (f i).2 := rfl
    unfold filterB portsB inB
    rw [e0, e1, e2, e3, link_01]
    simp
    omega
  have e : netB (lF k) sF gF [] [] xF (fF f) = (routersB sF 2 && linksB gF 1 2 && risingB [] 0 2 && risingB [] 0 2 && decide (0 ≤ 2) && importsB gF 1 xF 0 && filtersB gF 1 (fF f) k) := rfl
  rw [e, routers_right, links_right, h5]
  rfl

set_option maxHeartbeats 800000 in
theorem filteredOf_spec (a : Option Addr) (len cap : Nat) (w : World) (hb : Bytes w a len) (hl : len ≤ 1048576) :
    Calls Try.prog 4 #[.slice a len cap] w fun e' w' => ∃ (R k : Nat) (va : Option Addr) (vc : Nat) (f : Nat → Int × Int), e' = .returned (netV (pF R va) (lF k) (fun i => if i = 5 then vc else lF k i)) ∧ k ≤ 3 ∧ FitF f k ∧ NetIs w' (pF R va) (lF k) sF gF [] [] xF (fF f) ∧ Below w.heap.size w w' := by
  have HB := hid hb
  clear hb
  go_enter Try.func4, Try.ntmps4
  go_wp2_with fail
  have HA : Hid (Below w.heap.size w (w.alloc (.cells #[.slice none 0 0, .slice none 0 0, .slice none 0 0, .slice none 0 0, .slice none 0 0, .slice none 0 0] 29))) := (by repeat (first | exact Below.refl _ _ | assumption | refine Below.drew ?_ | refine Below.alloc ?_ (by first | exact Nat.le_refl _ | omega | (simp; done) | (simp; omega)) _ | refine Below.setCell ?_ (by first | exact Nat.le_refl _ | omega | (simp; done) | (simp; omega)) _))
  refine (source_spec a len cap _ (fun i hi => by
    obtain ⟨bb, off, e, x, hx, hc⟩ := HB.out i hi
    exact ⟨bb, off, e, x, hx, keep HA.out hc⟩) hl).mono ?_
  rintro e' w1 ⟨b, rfl, hbe, hb1, hs, hbel⟩
  have hbb : w.heap.size < b := by rw [hbe]; simp
  have HS := hid hs
  have hd : ∀ i, i < 6 → w1.cell? ⟨w.heap.size, i, none⟩ = some (.slice none 0 0) := fun i hi => keep hbel (by
    match i, hi with
    | 0, _ => simp [go_sem]
    | 1, _ => simp [go_sem]
    | 2, _ => simp [go_sem]
    | 3, _ => simp [go_sem]
    | 4, _ => simp [go_sem]
    | 5, _ => simp [go_sem]
    | i + 6, hi => exact absurd hi (by omega))
  have hfz : ∀ x, w1.frozen? ⟨w.heap.size, x, none⟩ = false := fun x => (hbel.frozen (p := ⟨w.heap.size, x, none⟩) (by simp)).trans (by simp [go_sem])
  have HD := hid hd
  have HFz := hid hfz
  have HB1 := hid (HA.out.trans (hbel.mono (by simp)))
  have hw1 : w.heap.size < w1.heap.size := by omega
  clear hs hbel hbe hd hfz
  go_wp2_with fail
  refine (filtered_src b a len cap _ HS.out).mono ?_
  rintro e' w2 ⟨k, va, vc, f, rfl, hk, hf, ho, h1, h2, hg⟩
  have hbl : w2.heap[w.heap.size]? = w1.heap[w.heap.size]? := hg.block _ hw1 (fun e => by injection e with e; omega)
  have d0 := cel_of hbl (HD.out 0 (by omega))
  have d1 := cel_of hbl (HD.out 1 (by omega))
  have d2 := cel_of hbl (HD.out 2 (by omega))
  have d3 := cel_of hbl (HD.out 3 (by omega))
  have d4 := cel_of hbl (HD.out 4 (by omega))
  have d5 := cel_of hbl (HD.out 5 (by omega))
  have z0 := (fro_of hbl).trans (HFz.out 0)
  have z1 := (fro_of hbl).trans (HFz.out 1)
  have z2 := (fro_of hbl).trans (HFz.out 2)
  have z3 := (fro_of hbl).trans (HFz.out 3)
  have z4 := (fro_of hbl).trans (HFz.out 4)
  have z5 := (fro_of hbl).trans (HFz.out 5)
  have HB2 : Hid (Below w.heap.size w w2) := ⟨hg.os.trans HB1.out.os, hg.tape.trans HB1.out.tape, hg.output.trans HB1.out.output, Nat.le_trans HB1.out.size hg.size, fun j hj => (hg.block j (by omega) (fun e => by injection e with e; omega)).trans (HB1.out.block j hj)⟩
  have HF := hid hf
  have HO := hid ho
  have H1 := hid h1
  have H2 := hid h2
  clear hf ho h1 h2 hg hbl
  go_wp2
  refine bodyPost_ret (v := .agg #[.slice (some ⟨w1.heap.size + 1, 0, none⟩) 2 2, .slice (some ⟨w1.heap.size + 1 + 1, 0, none⟩) 1 1, .slice none 0 0, .slice none 0 0, .slice none 0 0, .slice va k vc]) (by simp [results, Try.results4, go_sem, d0, d1, d2, d3, d4, d5]) rfl ?_
  have hk1 : ∀ (W : World) (o : Nat) (v : Value) (q : Nat), q ≠ w.heap.size → (W.setCell ⟨w.heap.size, o, none⟩ v).heap[q]? = W.heap[q]? := fun W o v q hq => Below.heap_setCell _ _ _ _ (by dsimp only; exact hq)
  have hk6 : ∀ q, q ≠ w.heap.size → ((((((w2.setCell ⟨w.heap.size, 0, none⟩ (.slice (some ⟨w1.heap.size + 1, 0, none⟩) 2 2)).setCell ⟨w.heap.size, 1, none⟩ (.slice (some ⟨w1.heap.size + 1 + 1, 0, none⟩) 1 1)).setCell ⟨w.heap.size, 2, none⟩ (.slice none 0 0)).setCell ⟨w.heap.size, 3, none⟩ (.slice none 0 0)).setCell ⟨w.heap.size, 4, none⟩ (.slice none 0 0)).setCell ⟨w.heap.size, 5, none⟩ (.slice va k vc)).heap[q]? = w2.heap[q]? := fun q hq => by
    rw [hk1 _ _ _ q hq, hk1 _ _ _ q hq, hk1 _ _ _ q hq, hk1 _ _ _ q hq, hk1 _ _ _ q hq, hk1 _ _ _ q hq]
  refine ⟨w1.heap.size, k, va, vc, f, rfl, hk, HF.out, net_is (vc := vc) hk (own_blocks HO.out (fun g hg hlt => hk6 g (by have := (World.ownsRow.lt HO.out g hg).1; omega))) ⟨cel_of (hk6 _ (by omega)) H1.out.1, cel_of (hk6 _ (by omega)) H1.out.2⟩ ⟨cel_of (hk6 _ (by omega)) H2.out.1, cel_of (hk6 _ (by omega)) H2.out.2.1, cel_of (hk6 _ (by omega)) H2.out.2.2⟩, ?_⟩
  exact ((((((HB2.out.setCell (Nat.le_refl _) _).setCell (Nat.le_refl _) _).setCell (Nat.le_refl _) _).setCell (Nat.le_refl _) _).setCell (Nat.le_refl _) _).setCell (Nat.le_refl _) _)
end Go.Proofs.Ytofdhoefphoaaaa.filtNet
