/- A drawn network with filters, of the specification; conditions: none. -/
import Derived.Test.YtofdhoefphoaaaaSourceI
import Derived.Test.YtofdhoefphoaaaaNetSem
import Derived.Test.YtofdhoefphoaaaaHeldStore
import Derived.Test.YtofdhoefphoaaaaStepAppend
import Derived.OwnWalk
namespace Go.Proofs.Ytofdhoefphoaaaa.filtOf
open Go.RowKit Go.Deep Go.Sort Go base names netSem intsOwn source heldStore stepAppend
set_option linter.unusedVariables false

/-- The cells of filters from router 0 to router 1. -/
def fCells (f : Nat → Int × Int) : Nat → List Value
  | 0 => []
  | k + 1 => fCells f k ++ [.int .i64 0, .int .i64 1, .int .i64 (f k).1, .int .i64 (f k).2]
def FitF (f : Nat → Int × Int) (k : Nat) : Prop := ∀ j, j < k → 0 ≤ (f j).1 ∧ (f j).1 ≤ (f j).2 ∧ (f j).2 < 16
/-- What lies in the drawn network's variables. -/
def NB (w : World) (R : Nat) (v : Value) : Prop := (w.cell? ⟨R + 1, 0, none⟩ = some (.string ⟨#[97]⟩) ∧ w.cell? ⟨R + 1, 1, none⟩ = some (.string ⟨#[98]⟩)) ∧ (w.cell? ⟨R + 1 + 1, 0, none⟩ = some (.int .i64 0) ∧ w.cell? ⟨R + 1 + 1, 1, none⟩ = some (.int .i64 1) ∧ w.cell? ⟨R + 1 + 1, 2, none⟩ = some (.int .i64 1)) ∧
  (w.cell? ⟨R + 1 + 1 + 1, 0, none⟩ = some (.slice (some ⟨R + 1, 0, none⟩) 2 2) ∧ w.cell? ⟨R + 1 + 1 + 1, 1, none⟩ = some (.slice (some ⟨R + 1 + 1, 0, none⟩) 1 1) ∧ w.cell? ⟨R + 1 + 1 + 1, 2, none⟩ = some (.slice none 0 0) ∧ w.cell? ⟨R + 1 + 1 + 1, 3, none⟩ = some (.slice none 0 0) ∧ w.cell? ⟨R + 1 + 1 + 1, 4, none⟩ = some (.slice none 0 0) ∧ w.cell? ⟨R + 1 + 1 + 1, 5, none⟩ = some v) ∧
  (∀ i, i < 6 → w.cell? ⟨R, i, none⟩ = some (.slice none 0 0)) ∧ (∀ x, w.frozen? ⟨R, x, none⟩ = false ∧ w.frozen? ⟨R + 1 + 1 + 1, x, none⟩ = false)
theorem info_filter : (Try.prog.info? 50).map (fun i => (i.zero, i.size, i.bytes)) = some (some (.agg #[.int .i64 0, .int .i64 0, .int .i64 0, .int .i64 0]), 4, 32) := by kernel_rfl
theorem info_is {P : Program} {t : TypeId} {z : Value} {s b : Nat} (h : (P.info? t).map (fun i => (i.zero, i.size, i.bytes)) = some (some z, s, b)) : ∃ i, P.info? t = some i ∧ i.zero = some z ∧ i.size = s ∧ i.bytes = b := by
  obtain ⟨i, hi, h2⟩ := Option.map_eq_some_iff.1 h
  simp only [Prod.mk.injEq] at h2
  exact ⟨i, hi, h2.1, h2.2.1, h2.2.2⟩
theorem cell_new (w : World) (cs : Array Value) (t : TypeId) {i : Nat} {v : Value} (h : cs[i]? = some v) : (w.alloc (.cells cs t)).cell? ⟨w.heap.size, i, none⟩ = some v := by simp [go_sem, h]
theorem fro_of {w w' : World} {b x : Nat} (h : w'.heap[b]? = w.heap[b]?) : w'.frozen? ⟨b, x, none⟩ = w.frozen? ⟨b, x, none⟩ := by simp [World.frozen?, h]
theorem cel_of {w w' : World} {b x : Nat} {v : Value} (h : w'.heap[b]? = w.heap[b]?) (hc : w.cell? ⟨b, x, none⟩ = some v) : w'.cell? ⟨b, x, none⟩ = some v := (World.cell?_of_block (a := ⟨b, x, none⟩) h).trans hc
theorem NB.of_blocks {w w' : World} {R : Nat} {v : Value} (h : NB w R v) (hk : ∀ q, R ≤ q → q ≤ R + 3 → w'.heap[q]? = w.heap[q]?) : NB w' R v := by
  have k0 := hk R (by omega) (by omega)
  have k1 := hk (R + 1) (by omega) (by omega)
  have k2 := hk (R + 1 + 1) (by omega) (by omega)
  have k3 := hk (R + 1 + 1 + 1) (by omega) (by omega)
  obtain ⟨⟨a0, a1⟩, ⟨b0, b1, b2⟩, ⟨c0, c1, c2, c3, c4, c5⟩, d, f⟩ := h
  exact ⟨⟨cel_of k1 a0, cel_of k1 a1⟩, ⟨cel_of k2 b0, cel_of k2 b1, cel_of k2 b2⟩, ⟨cel_of k3 c0, cel_of k3 c1, cel_of k3 c2, cel_of k3 c3, cel_of k3 c4, cel_of k3 c5⟩, fun i hi => cel_of k0 (d i hi), fun x => ⟨(fro_of k0).trans (f x).1, (fro_of k3).trans (f x).2⟩⟩
theorem NB.set5 {w : World} {R : Nat} {v v' : Value} (h : NB w R v) : NB (w.setCell ⟨R + 1 + 1 + 1, 5, none⟩ v') R v' := by
  have hk : ∀ q, q ≠ R + 1 + 1 + 1 → (w.setCell ⟨R + 1 + 1 + 1, 5, none⟩ v').heap[q]? = w.heap[q]? := fun q hq => Below.heap_setCell _ _ _ _ (by dsimp only; exact hq)
  have k0 := hk R (by omega)
  have k1 := hk (R + 1) (by omega)
  have k2 := hk (R + 1 + 1) (by omega)
  obtain ⟨⟨a0, a1⟩, ⟨b0, b1, b2⟩, ⟨c0, c1, c2, c3, c4, c5⟩, d, f⟩ := h
  exact ⟨⟨cel_of k1 a0, cel_of k1 a1⟩, ⟨cel_of k2 b0, cel_of k2 b1, cel_of k2 b2⟩, ⟨by simp [go_sem, c0], by simp [go_sem, c1], by simp [go_sem, c2], by simp [go_sem, c3], by simp [go_sem, c4], by simp [go_sem, c5]⟩, fun i hi => cel_of k0 (d i hi), fun x => ⟨(fro_of k0).trans (f x).1, (World.frozen?_setCell _ _ _ _).trans (f x).2⟩⟩
theorem own_blocks {B m n : Nat} {t : TypeId} {w w' : World} {v : Value} {xs : List Value} (h : w.ownsRow B t m v n xs) (hb : ∀ g, v.ownBlock = some g → g < w.heap.size → w'.heap[g]? = w.heap[g]?) : w'.ownsRow B t m v n xs := by
  obtain ⟨h1, h2⟩ := h
  refine ⟨h1, ?_⟩
  rcases h2 with h2 | ⟨g, cap, cur, rfl, hgB, hh, hn⟩
  · exact .inl h2
  · exact .inr ⟨g, cap, cur, rfl, hgB, (hb g rfl (Array.getElem?_eq_some_iff.1 hh).1).trans hh, hn⟩
theorem own_shape {B m n : Nat} {t : TypeId} {w : World} {v : Value} {xs : List Value} (h : w.ownsRow B t m v n xs) : ∃ a c, v = .slice a n c := by
  obtain ⟨h1, h2⟩ := h
  rcases h2 with ⟨rfl, rfl⟩ | ⟨g, cap, cur, rfl, _⟩
  · exact ⟨none, 0, rfl⟩
  · exact ⟨_, _, rfl⟩
theorem four_at {w : World} {g : Nat} {x y z u : Value} (h0 : w.cell? ⟨g, 0, none⟩ = some x) (h1 : w.cell? ⟨g, 1, none⟩ = some y) (h2 : w.cell? ⟨g, 2, none⟩ = some z) (h3 : w.cell? ⟨g, 3, none⟩ = some u) : ∀ (j : Nat) (v : Value), [x, y, z, u][j]? = some v → w.cell? ((⟨g, 0, none⟩ : Addr).add j) = some v := by
  intro j v hj
  match j, hj with
  | 0, hj => simp at hj; subst hj; simpa [Addr.add] using h0
  | 1, hj => simp at hj; subst hj; simpa [Addr.add] using h1
  | 2, hj => simp at hj; subst hj; simpa [Addr.add] using h2
  | 3, hj => simp at hj; subst hj; simpa [Addr.add] using h3
  | j + 4, hj => simp at hj
theorem src_of {w w1 : World} {b len cap k R : Nat} {a : Option Addr} (h : Src w b a len cap k) (hk : ∀ j, j < R → w1.heap[j]? = w.heap[j]?) (hb : b < R) : Src w1 b a len cap k := by
  obtain ⟨h1, ⟨n, s, p1, p2, p3, p4, hr⟩, h3⟩ := h
  exact ⟨h1, ⟨n, s, p1, p2, p3, p4, hr.of_block (hk _ hb)⟩, fun i hi => by
    obtain ⟨bb, off, e, hlt, x, hx, hc⟩ := h3 i hi
    exact ⟨bb, off, e, hlt, x, hx, cel_of (hk bb (by omega)) hc⟩⟩
theorem gt {w w1 w2 : World} {row : Option Nat} (h : w.grownBy w1 row) (h' : w1.grownBy w2 row) : w.grownBy w2 row :=
  ⟨h'.os.trans h.os, h'.tape.trans h.tape, h'.output.trans h.output, Nat.le_trans h.size h'.size, fun j hj hne => (h'.block j (Nat.lt_of_lt_of_le hj h.size) hne).trans (h.block j hj hne)⟩
theorem gb {w W : World} {row : Option Nat} (h : Below w.heap.size w W) : w.grownBy W row := ⟨h.os, h.tape, h.output, h.size, fun j hj _ => h.block j hj⟩
theorem g_new {w W : World} {row : Option Nat} (h : w.grownBy W row) {R o : Nat} (hx : w.heap.size ≤ R) (v : Value) : w.grownBy (W.setCell ⟨R, o, none⟩ v) row :=
  ⟨by rw [setCell_eq]; exact h.os, by rw [setCell_eq]; exact h.tape, by rw [setCell_eq]; exact h.output, Nat.le_trans h.size (by simp [World.setCell]), fun j hj hne => (Below.heap_setCell _ _ _ _ (by dsimp only; omega)).trans (h.block j hj hne)⟩
theorem fCells_len (f : Nat → Int × Int) (k : Nat) : (fCells f k).length = k * 4 := by
  induction k with
  | zero => rfl
  | succ k ih => simp only [fCells, List.length_append, ih, List.length_cons, List.length_nil]; omega
theorem fCells_congr {f f' : Nat → Int × Int} {k : Nat} (h : ∀ j, j < k → f j = f' j) : fCells f k = fCells f' k := by
  induction k with
  | zero => rfl
  | succ k ih => simp only [fCells]; rw [ih (fun j hj => h j (by omega)), h k (by omega)]

set_option maxHeartbeats 6400000 in
set_option maxRecDepth 8000 in
theorem filtered_src (b : Nat) (a : Option Addr) (len cap : Nat) (w : World) (h : Src w b a len cap 0) :
    Calls Try.prog 12 #[.pointer (some ⟨b, 0, none⟩)] w fun e' w' => ∃ (k : Nat) (va : Option Addr) (vc : Nat) (f : Nat → Int × Int), e' = .returned (.agg #[.slice (some ⟨w.heap.size + 1, 0, none⟩) 2 2, .slice (some ⟨w.heap.size + 1 + 1, 0, none⟩) 1 1, .slice none 0 0, .slice none 0 0, .slice none 0 0, .slice va k vc]) ∧ k ≤ 3 ∧ FitF f k ∧ w'.ownsRow (w.heap.size + 1 + 1 + 1 + 1) 50 4 (.slice va k vc) k (fCells f k) ∧
      (w'.cell? ⟨w.heap.size + 1, 0, none⟩ = some (.string ⟨#[97]⟩) ∧ w'.cell? ⟨w.heap.size + 1, 1, none⟩ = some (.string ⟨#[98]⟩)) ∧ (w'.cell? ⟨w.heap.size + 1 + 1, 0, none⟩ = some (.int .i64 0) ∧ w'.cell? ⟨w.heap.size + 1 + 1, 1, none⟩ = some (.int .i64 1) ∧ w'.cell? ⟨w.heap.size + 1 + 1, 2, none⟩ = some (.int .i64 1)) ∧ w.grownBy w' (some b) := by
  obtain ⟨i0, hi0, hz0, hz1, hz2⟩ := info_is info_filter
  have HI := hid hi0
  have HZ0 := hid hz0
  have HZ1 := hid hz1
  have HZ2 := hid hz2
  clear hi0 hz0 hz1 hz2
  have HS := hid h
  have hbw : b < w.heap.size := by obtain ⟨n, s, -, -, -, -, hr⟩ := h.cells; exact hr.lt
  clear h
  obtain ⟨W0, hW0⟩ : ∃ W0, ((((w.alloc (.cells #[.slice none 0 0, .slice none 0 0, .slice none 0 0, .slice none 0 0, .slice none 0 0, .slice none 0 0] 29)).alloc (.cells #[.string ⟨#[97]⟩, .string ⟨#[98]⟩] 9)).alloc (.cells #[.int .i64 0, .int .i64 1, .int .i64 1] 64)).alloc (.cells #[.slice (some ⟨w.heap.size + 1, 0, none⟩) 2 2, .slice (some ⟨w.heap.size + 1 + 1, 0, none⟩) 1 1, .slice none 0 0, .slice none 0 0, .slice none 0 0, .slice none 0 0] 29)) = W0 := ⟨_, rfl⟩
  have HB0 : Hid (Below w.heap.size w W0 ∧ W0.heap.size = w.heap.size + 1 + 1 + 1 + 1 ∧ NB W0 w.heap.size (.slice none 0 0)) := by
    refine ⟨by rw [← hW0]; exact (by repeat (first | exact Below.refl _ _ | assumption | refine Below.drew ?_ | refine Below.alloc ?_ (by first | exact Nat.le_refl _ | omega | (simp; done) | (simp; omega)) _ | refine Below.setCell ?_ (by first | exact Nat.le_refl _ | omega | (simp; done) | (simp; omega)) _)), by rw [← hW0]; simp, ?_⟩
    rw [← hW0]
    refine ⟨⟨by simp [go_sem], by simp [go_sem]⟩, ⟨by simp [go_sem], by simp [go_sem], by simp [go_sem]⟩, ⟨by simp [go_sem], by simp [go_sem], by simp [go_sem], by simp [go_sem], by simp [go_sem], by simp [go_sem]⟩, fun i hi => ?_, fun x => ⟨by simp [go_sem], by simp [go_sem]⟩⟩
    match i, hi with
    | 0, _ => simp [go_sem]
    | 1, _ => simp [go_sem]
    | 2, _ => simp [go_sem]
    | 3, _ => simp [go_sem]
    | 4, _ => simp [go_sem]
    | 5, _ => simp [go_sem]
    | i + 6, hi => exact absurd hi (by omega)
  have HW0 := hid hW0
  clear hW0
  go_enter Try.func12, Try.ntmps12
  go_wp2_with fail
  rw [HW0.out]
  clear HW0
  refine (next_src b a len cap 0 4 _ (HS.out.below HB0.out.1) (by omega) (by omega) (by omega)).mono ?_
  rintro e' w1 ⟨r, rfl, hr0, hr4, hs1, hg1⟩
  have HS1 := hid hs1
  have HG1 := hid (gt (gb HB0.out.1) hg1)
  have hz1 : w.heap.size + 1 + 1 + 1 + 1 ≤ w1.heap.size := by have := hg1.size; have := HB0.out.2.1; omega
  have HN1 := hid (HB0.out.2.2.of_blocks (fun q h1 h2 => hg1.block q (by have := HB0.out.2.1; omega) (fun e => by injection e with e; omega)))
  clear hs1 hg1 HB0
  go_wp2_with fail
  go_loopw [4] (fun i wr => ∃ (n k : Nat) (va : Option Addr) (vc : Nat) (f : Nat → Int × Int), n + k ≤ 3 ∧ i = .int .i64 n ∧ FitF f k ∧ wr.ownsRow (w.heap.size + 1 + 1 + 1 + 1) 50 4 (.slice va k vc) k (fCells f k) ∧ Src wr b a len cap (1 + 2 * k) ∧ w.grownBy wr (some b) ∧ NB wr w.heap.size (.slice va k vc) ∧ w.heap.size + 1 + 1 + 1 + 1 ≤ wr.heap.size) (fun i _ => (intOf i).toNat)
  case atStart => exact ⟨r.toNat, 0, none, 0, fun _ => (0, 0), by omega, by congr 1; omega, fun j hj => absurd hj (Nat.not_lt_zero _), World.ownsRow_nil _ _ _ _, HS1.out, HG1.out, HN1.out, hz1⟩
  case round =>
    clear HN1 HG1 HS1 hz1
    obtain ⟨n, k, va, vc, f, hnk, rfl, hft, hown, hsr, hgr, hnb, hzr⟩ := hrel
    have HFt := hid hft
    have HOw := hid hown
    have HSr := hid hsr
    have HGr := hid hgr
    have HNb := hid hnb
    clear hft hown hsr hgr hnb
    by_cases hlt : 0 < n
    · have dn : decide ((0 : Int) < (n : Int)) = true := decide_eq_true (by omega)
      have dn' : decide (0 < n) = true := decide_eq_true hlt
      go_wp2_with fail
      refine (next_src b a len cap (1 + 2 * k) 16 _ HSr.out (by omega) (by omega) (by omega)).mono ?_
      rintro e' w2 ⟨lo, rfl, hl0, hl1, hs2, hg2⟩
      have HS2 := hid hs2
      have HG2 := hid (gt HGr.out hg2)
      have HN2 := hid (HNb.out.of_blocks (fun q h1 h2 => hg2.block q (by omega) (fun e => by injection e with e; omega)))
      have HO2 := hid (own_blocks HOw.out (fun g hg hlt => hg2.block g hlt (fun e => by injection e with e; have := (World.ownsRow.lt HOw.out g hg).1; omega)))
      have hz2 : w.heap.size + 1 + 1 + 1 + 1 ≤ w2.heap.size := Nat.le_trans hzr hg2.size
      have HWr : Hid (IntKind.i64.wrap (16 - lo) = 16 - lo) := by show _ = _; rw [IntKind.wrap_i64]; omega
      clear hs2 hg2
      have HK1 : Hid (∀ w8 : World, w8.heap[w.heap.size + 1 + 1 + 1]? = w2.heap[w.heap.size + 1 + 1 + 1]? → w8.cell? ⟨w.heap.size + 1 + 1 + 1, 5, none⟩ = some (.slice va k vc)) := fun w8 hb => (World.cell?_of_block (a := ⟨w.heap.size + 1 + 1 + 1, 5, none⟩) hb).trans HN2.out.2.2.1.2.2.2.2.2
      go_wp2_with fail
      refine region_goes 13 14 (fun w' => w'.cell? ⟨w.heap.size + 1 + 1 + 1, 5, none⟩ = some (.slice va k vc)) (by kernel_rfl) (by rfl) ⟨by kernel_rfl, by kernel_rfl, by kernel_rfl, by decide⟩ (HK1.out _ rfl) (fun hE inv hHeld => ?_)
      refine Goes.take (i := 0) (v := ?vul0) (some 18) hE rfl rfl inv (by kernel_rfl) (by kernel_rfl) (by decide) (fun _ _ _ h => h) (Or.inl ⟨by rfl, ?yul0⟩) (by assumption) (fun inv => ?rul0)
      case yul0 => (intro w' hSw; (try dsimp only at hSw); go_simp; (try with_reducible rfl))
      simp only [Act.put, List.setIfInBounds_toArray, List.set_cons_zero, List.set_cons_succ]
      refine Goes.take (i := 1) (v := ?vul1) (some 19) hE rfl rfl inv (by kernel_rfl) (by kernel_rfl) (by decide) (fun _ _ _ h => h) (Or.inl ⟨by rfl, ?yul1⟩) (by assumption) (fun inv => ?rul1)
      case yul1 => (intro w' hSw; (try dsimp only at hSw); go_simp; (try with_reducible rfl))
      simp only [Act.put, List.setIfInBounds_toArray, List.set_cons_zero, List.set_cons_succ]
      refine Goes.take (i := 2) (v := ?vul2) (some 20) hE rfl rfl inv (by kernel_rfl) (by kernel_rfl) (by decide) (fun _ _ _ h => h) (Or.inl ⟨by rfl, ?yul2⟩) (by assumption) (fun inv => ?rul2)
      case yul2 => (intro w' hSw; (try dsimp only at hSw); go_simp; (try with_reducible rfl))
      simp only [Act.put, List.setIfInBounds_toArray, List.set_cons_zero, List.set_cons_succ]
      refine Goes.take (i := 3) (v := ?vul3) (some 21) hE rfl rfl inv (by kernel_rfl) (by kernel_rfl) (by decide) (fun _ _ _ h => h) (Or.inl ⟨by rfl, ?yul3⟩) (by assumption) (fun inv => ?rul3)
      case yul3 => (intro w' hSw; (try dsimp only at hSw); go_simp; (try with_reducible rfl))
      simp only [Act.put, List.setIfInBounds_toArray, List.set_cons_zero, List.set_cons_succ]
      refine Goes.take (i := 4) (v := ?vul4) (some 22) hE rfl rfl inv (by kernel_rfl) (by kernel_rfl) (by decide) (fun _ _ _ h => h) (Or.inl ⟨by rfl, ?yul4⟩) (by assumption) (fun inv => ?rul4)
      case yul4 => (intro w' hSw; (try dsimp only at hSw); go_simp; (try with_reducible rfl))
      simp only [Act.put, List.setIfInBounds_toArray, List.set_cons_zero, List.set_cons_succ]
      refine Goes.take (i := 5) (v := ?vul5) (some 23) hE rfl rfl inv (by kernel_rfl) (by kernel_rfl) (by decide) (fun _ _ _ h => h) (Or.inl ⟨by rfl, ?yul5⟩) (by assumption) (fun inv => ?rul5)
      case yul5 => (intro w' hSw; (try dsimp only at hSw); go_simp; (try with_reducible rfl))
      simp only [Act.put, List.setIfInBounds_toArray, List.set_cons_zero, List.set_cons_succ]
      refine Goes.take (i := 6) (v := ?vul6) (some 24) hE rfl rfl inv (by kernel_rfl) (by kernel_rfl) (by decide) (fun _ _ _ h => h) (Or.inl ⟨by rfl, ?yul6⟩) (by assumption) (fun inv => ?rul6)
      case yul6 => (intro w' hSw; (try dsimp only at hSw); go_simp; (try with_reducible rfl))
      simp only [Act.put, List.setIfInBounds_toArray, List.set_cons_zero, List.set_cons_succ]
      refine Goes.one (i := 7) inv (by kernel_rfl) (by decide) rfl (fun inv K' hK => ?_)
      go_simp
      (try rw [HWr.out])
      refine (next_src b a len cap (1 + 2 * k + 1) (16 - lo) _ (HS2.out.below (below_drewN _ 1)) (by omega) (by omega) (by omega)).mono ?_
      rintro e w3 ⟨r3, rfl, hr0, hr1, hs3, hg3⟩
      have HS3 := hid hs3
      have hgw3 : w2.grownBy w3 (some b) := gt (gb (below_drewN w2 1)) hg3
      have HG3 := hid hgw3
      have HN3 := hid (HN2.out.of_blocks (fun q h1 h2 => hgw3.block q (by omega) (fun e => by injection e with e; omega)))
      have HO3 := hid (own_blocks HO2.out (fun g hg hlt => hgw3.block g hlt (fun e => by injection e with e; have := (World.ownsRow.lt HO2.out g hg).1; omega)))
      have hz3 : w.heap.size + 1 + 1 + 1 + 1 ≤ w3.heap.size := Nat.le_trans hz2 hgw3.size
      clear hs3 hg3 hgw3
      (try go_wp2_with fail)
      refine hK.out _ _ HN3.out.2.2.1.2.2.2.2.2 (fun hHeld => ?_)
      clear hK K'
      (try simp only [Act.put, List.setIfInBounds_toArray, List.set_cons_zero, List.set_cons_succ])
      refine Goes.take (i := 8) (v := ?vul8) (some 26) hE rfl rfl inv (by kernel_rfl) (by kernel_rfl) (by decide) (fun _ _ _ h => h) (Or.inl ⟨by rfl, ?yul8⟩) (by assumption) (fun inv => ?rul8)
      case yul8 => (intro w' hSw; (try dsimp only at hSw); go_simp; (try with_reducible rfl))
      simp only [Act.put, List.setIfInBounds_toArray, List.set_cons_zero, List.set_cons_succ]
      refine Goes.take (i := 9) (v := ?vul9) (some 27) hE rfl rfl inv (by kernel_rfl) (by kernel_rfl) (by decide) (fun _ _ _ h => h) (Or.inl ⟨by rfl, ?yul9⟩) (by assumption) (fun inv => ?rul9)
      case yul9 => (intro w' hSw; (try dsimp only at hSw); go_simp; (try with_reducible rfl))
      simp only [Act.put, List.setIfInBounds_toArray, List.set_cons_zero, List.set_cons_succ]
      have HWa : Hid (IntKind.i64.wrap (lo + r3) = lo + r3) := by show _ = _; rw [IntKind.wrap_i64]; omega
      (try rw [HWa.out])
      obtain ⟨hv, hhv⟩ : ∃ hv : Int, lo + r3 = hv := ⟨_, rfl⟩
      have hhb : lo ≤ hv ∧ hv < 16 := by omega
      (try rw [hhv])
      clear hhv
      have HA4 : Hid (Below w3.heap.size w3 (w3.alloc (.cells #[.int .i64 0, .int .i64 1, .int .i64 lo, .int .i64 hv] 50))) := (by repeat (first | exact Below.refl _ _ | assumption | refine Below.drew ?_ | refine Below.alloc ?_ (by first | exact Nat.le_refl _ | omega | (simp; done) | (simp; omega)) _ | refine Below.setCell ?_ (by first | exact Nat.le_refl _ | omega | (simp; done) | (simp; omega)) _))
      have HX := hid (own_blocks HO3.out (fun g hg hlt => HA4.out.block g hlt))
      have HVL := hid (World.ownsRow.lt HO3.out)
      refine Goes.one (i := 10) inv (by kernel_rfl) (by decide) rfl (fun inv K' hK => ?_)
      go_simp
      refine hK.out _ _ (keep HA4.out HN3.out.2.2.1.2.2.2.2.2) (fun hHeld => ?_)
      clear hK K'
      (try simp only [Act.put, List.setIfInBounds_toArray, List.set_cons_zero, List.set_cons_succ])
      refine Goes.one (i := 11) inv (by kernel_rfl) (by decide) rfl (fun inv K' hK => ?_)
      refine step_append_at _ (by rfl) _ _ 27 (by rfl) (some 29) (by rfl) (w.heap.size + 1 + 1 + 1 + 1) 50 i0 _ 4 32 Try.underlying27 HI.out HZ0.out HZ1.out HZ2.out rfl (by decide) _ _ _ (by rfl) HX.out ⟨w3.heap.size, 0, none⟩ 1 1 [.int .i64 0, .int .i64 1, .int .i64 lo, .int .i64 hv] (by rfl) rfl (four_at (cell_new _ _ _ rfl) (cell_new _ _ _ rfl) (cell_new _ _ _ rfl) (cell_new _ _ _ rfl)) (fun u hu => by simp at hu; rcases hu with rfl | rfl | rfl | rfl <;> rfl) (by unfold maxLen; omega) (by omega) (by simp; omega) ?_
      intro v5 w5 hown5 hg5 hat5
      have s5 := hg5.size
      rw [World.size_alloc] at s5
      have hfar : ∀ q, q < w.heap.size + 1 + 1 + 1 + 1 → w5.heap[q]? = w3.heap[q]? := fun q h1 => (hg5.block q (by simp; omega) (fun e => by have := (HVL.out q e.symm).1; omega)).trans (HA4.out.block q (by omega))
      have HFar := hid hfar
      have HN5 := hid (HN3.out.of_blocks (fun q h1 h2 => hfar q (by omega)))
      have HS5 := hid (src_of HS3.out (fun q hq => hfar q (by omega)) hbw)
      obtain ⟨va5, vc5, hv5⟩ := own_shape hown5
      subst hv5
      have HO5 := hid hown5
      have HG5 : Hid (w.grownBy w5 (some b)) := ⟨hg5.os.trans (HA4.out.os.trans (HG3.out.os.trans HG2.out.os)), hg5.tape.trans (HA4.out.tape.trans (HG3.out.tape.trans HG2.out.tape)), hg5.output.trans (HA4.out.output.trans (HG3.out.output.trans HG2.out.output)), by omega, fun q hq hne => (hfar q (by omega)).trans ((HG3.out.block q (by omega) hne).trans (HG2.out.block q hq hne))⟩
      clear hown5 hg5 hat5 hfar
      refine hK.out _ _ (World.cell?_of_block (a := ⟨w.heap.size + 1 + 1 + 1, 5, none⟩) (HFar.out (w.heap.size + 1 + 1 + 1) (by omega)) |>.trans HN3.out.2.2.1.2.2.2.2.2) (fun hHeld => ?_)
      clear hK K'
      (try simp only [Act.put, List.setIfInBounds_toArray, List.set_cons_zero, List.set_cons_succ])
      refine Goes.take (i := 12) (v := ?vul12) (some 30) hE rfl rfl inv (by kernel_rfl) (by kernel_rfl) (by decide) (fun _ _ _ h => h) (Or.inl ⟨by rfl, ?yul12⟩) (by assumption) (fun inv => ?rul12)
      case yul12 => (intro w' hSw; (try dsimp only at hSw); go_simp; (try with_reducible rfl))
      simp only [Act.put, List.setIfInBounds_toArray, List.set_cons_zero, List.set_cons_succ]
      refine Goes.last (by kernel_rfl) (by kernel_rfl) rfl (fun K' hK => ?_)
      have q5 := HN5.out.2.2.1.2.2.2.2.2
      have z5 := (HN5.out.2.2.2.2 5).2
      go_simp
      refine hK.out _ _ ?_
      clear hK K' hHeld q5 z5
      (try simp only [Exit.then])
      have HN6 := hid (HN5.out.set5 (v' := .slice va5 (k + 1) vc5))
      have hk6 : ∀ q, q ≠ w.heap.size + 1 + 1 + 1 → (w5.setCell ⟨w.heap.size + 1 + 1 + 1, 5, none⟩ (.slice va5 (k + 1) vc5)).heap[q]? = w5.heap[q]? := fun q hq => Below.heap_setCell _ _ _ _ (by dsimp only; exact hq)
      have HS6 := hid (src_of HS5.out (fun q hq => hk6 q (by omega)) hbw)
      have HG6 := hid (g_new (o := 5) HG5.out (show w.heap.size ≤ w.heap.size + 1 + 1 + 1 by omega) (.slice va5 (k + 1) vc5))
      have HO6 := hid (own_blocks HO5.out (fun g hg hlt => hk6 g (by have := (World.ownsRow.lt HO5.out g hg).1; omega)))
      clear hk6
      go_wp2
      go_roundw
      case rel =>
        refine ⟨n - 1, k + 1, va5, vc5, fun j => if j = k then (lo, hv) else f j, by omega, by congr 1; omega, fun j hj => ?_, ?_, HS6.out.mono (by omega), HG6.out, HN6.out, by simp [World.setCell]; omega⟩
        · by_cases e : j = k
          · subst e; simp only [if_true]; omega
          · simp only [if_neg e]; exact HFt.out j (by omega)
        · have e1 : fCells (fun j => if j = k then (lo, hv) else f j) (k + 1) = fCells f k ++ [.int .i64 0, .int .i64 1, .int .i64 lo, .int .i64 hv] := by
            simp only [fCells, if_true]
            rw [fCells_congr (f' := f) (fun j hj => by rw [if_neg (by omega)])]
          rw [e1]
          exact HO6.out
      case measure => simp [intOf]; omega
    · have e0 : n = 0 := by omega
      subst e0
      obtain ⟨⟨a0, a1⟩, ⟨b0, b1, b2⟩, ⟨c0, c1, c2, c3, c4, c5⟩, d, fz⟩ := HNb.out
      have d0 := d 0 (by omega)
      have d1 := d 1 (by omega)
      have d2 := d 2 (by omega)
      have d3 := d 3 (by omega)
      have d4 := d 4 (by omega)
      have d5 := d 5 (by omega)
      have z0 := (fz 0).1
      have z1 := (fz 1).1
      have z2 := (fz 2).1
      have z3 := (fz 3).1
      have z4 := (fz 4).1
      have z5 := (fz 5).1
      clear d fz
      have HA := hid (And.intro a0 a1)
      have HB := hid (And.intro b0 (And.intro b1 b2))
      clear a0 a1 b0 b1 b2
      go_wp2
      refine bodyPost_ret (v := .agg #[.slice (some ⟨w.heap.size + 1, 0, none⟩) 2 2, .slice (some ⟨w.heap.size + 1 + 1, 0, none⟩) 1 1, .slice none 0 0, .slice none 0 0, .slice none 0 0, .slice va k vc]) (by simp [results, Try.results12, go_sem, d0, d1, d2, d3, d4, d5]) rfl ?_
      have hk : ∀ (W : World) (o : Nat) (v : Value) (q : Nat), q ≠ w.heap.size → (W.setCell ⟨w.heap.size, o, none⟩ v).heap[q]? = W.heap[q]? := fun W o v q hq => Below.heap_setCell _ _ _ _ (by dsimp only; exact hq)
      have hk6 : ∀ q, q ≠ w.heap.size → ((((((wr.setCell ⟨w.heap.size, 0, none⟩ (.slice (some ⟨w.heap.size + 1, 0, none⟩) 2 2)).setCell ⟨w.heap.size, 1, none⟩ (.slice (some ⟨w.heap.size + 1 + 1, 0, none⟩) 1 1)).setCell ⟨w.heap.size, 2, none⟩ (.slice none 0 0)).setCell ⟨w.heap.size, 3, none⟩ (.slice none 0 0)).setCell ⟨w.heap.size, 4, none⟩ (.slice none 0 0)).setCell ⟨w.heap.size, 5, none⟩ (.slice va k vc)).heap[q]? = wr.heap[q]? := fun q hq => by
        rw [hk _ _ _ q hq, hk _ _ _ q hq, hk _ _ _ q hq, hk _ _ _ q hq, hk _ _ _ q hq, hk _ _ _ q hq]
      exact ⟨k, va, vc, f, rfl, by omega, HFt.out, own_blocks HOw.out (fun g hg hlt => hk6 g (by have := (World.ownsRow.lt HOw.out g hg).1; omega)), ⟨cel_of (hk6 _ (by omega)) HA.out.1, cel_of (hk6 _ (by omega)) HA.out.2⟩, ⟨cel_of (hk6 _ (by omega)) HB.out.1, cel_of (hk6 _ (by omega)) HB.out.2.1, cel_of (hk6 _ (by omega)) HB.out.2.2⟩, g_new (g_new (g_new (g_new (g_new (g_new HGr.out (Nat.le_refl _) _) (Nat.le_refl _) _) (Nat.le_refl _) _) (Nat.le_refl _) _) (Nat.le_refl _) _) (Nat.le_refl _) _⟩
end Go.Proofs.Ytofdhoefphoaaaa.filtOf
