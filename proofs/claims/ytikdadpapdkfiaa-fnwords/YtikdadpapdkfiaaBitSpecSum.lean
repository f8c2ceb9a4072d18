/- The specification's row of bits of the sum of two words; conditions: none. -/
import Derived.Test.YtikdadpapdkfiaaBitSpecAnd
import Derived.Test.YtikdadpapdkfiaaBitRight
import Derived.Test.YtikdadpapdkfiaaRowsSpec
namespace Go.Proofs.Ytikdadpapdkfiaa.bitSpecSum
open Go.RowKit Go.Deep Go base trees built heldStore drawn ownTree ownEx copySpec rowsSpec wordTrees wordSpec lessImpl faceImpl bitRows bitPart bitSteps bitPair bitSum bitSumRow bitWord bitSpec bitSpecVar bitSpecAnd bitRight
set_option linter.unusedVariables false

/-- Neither the variable C nor the row that grows. -/
abbrev safe (C : Nat) (v : Value) (b : Nat) : Prop := b ≠ C ∧ v.ownBlock ≠ some b
/-- A row that grows, of trees that lie in neither. -/
def GrowS (w : World) (B C : Nat) (v : Value) (k D : Nat) (t : T) : Prop := ∃ f : Nat → Option Addr × Nat × Nat, w.ownsRow B 39 3 v k (cellsOf f t k) ∧ ∀ i, i < k → Rd (safe C v) 1048576 w D (kid t i) (f i).1 (f i).2.1
variable {w w' w1 w2 : World} {B C k D M l : Nat} {v v' : Value} {t : T} {a : Option Addr}
theorem safe_kept (h : Rd (safe C v) M w D t a l) (hb : ∀ b, b < w.heap.size → b ≠ C → w'.heap[b]? = w.heap[b]?) : Rd (safe C v) M w' D t a l :=
  h.kept fun b o x hq hx => ⟨(World.cell?_of_block (a := ⟨b, o, none⟩) (hb b (World.block_lt_of_cell? _ _ hx) hq.1)).trans hx, hq⟩
theorem safe_next (h : Rd (safe C v) M w1 D t a l) (hg : w1.grownBy w2 v.ownBlock) (hat : v'.ownBlock = v.ownBlock ∨ v'.ownBlock = some w1.heap.size) : Rd (safe C v') M w2 D t a l :=
  h.kept fun b o x hq hx => by
    have hlt := World.block_lt_of_cell? _ _ hx
    refine ⟨(World.cell?_of_block (a := ⟨b, o, none⟩) (hg.block b hlt (Ne.symm hq.2))).trans hx, hq.1, ?_⟩
    rcases hat with e | e
    · rw [e]; exact hq.2
    · rw [e]; intro e'; injection e' with e'; simp only at hlt; omega
theorem safe_nz {N : Nat} (h : Rd (Nz (safe C v) N w) M w D t a l) (hC : C < N) (hv : ∀ g, v.ownBlock = some g → g < N) : Rd (safe C v) M w D t a l :=
  h.imp fun b hq => by
    rcases hq with hq | hq
    · exact hq.1
    · exact ⟨by omega, fun e => by have := hv b e; omega⟩
theorem GrowS.kept (h : GrowS w B C v k D t) (hb : ∀ b, b < w.heap.size → b ≠ C → w'.heap[b]? = w.heap[b]?) (hv : v.ownBlock ≠ some C) : GrowS w' B C v k D t := by
  obtain ⟨f, ho, hc⟩ := h
  exact ⟨f, owns_kept ho fun g e => hb g (World.ownsRow.lt ho g e).2 (fun e' => hv (by rw [← e']; exact e)), fun i hi => safe_kept (hc i hi) hb⟩
theorem GrowS.owns (h : GrowS w B C v k D t) : ∃ xs, w.ownsRow B 39 3 v k xs := by
  obtain ⟨f, ho, _⟩ := h
  exact ⟨_, ho⟩
theorem GrowS.form (h : GrowS w B C v k D t) : (∃ a c, v = .slice a k c) ∧ ∀ g, v.ownBlock = some g → B ≤ g ∧ g < w.heap.size := by
  obtain ⟨f, ho, _⟩ := h
  refine ⟨?_, World.ownsRow.lt ho⟩
  rcases ho.2 with ⟨e1, e2⟩ | ⟨g, cap, cur, e, _⟩
  · subst e2; exact ⟨_, _, e1⟩
  · exact ⟨_, _, e⟩
theorem GrowS.next {a' : Option Addr} {l' c' : Nat} {xs : List Value} (h : GrowS w1 B C v k D t) (ho : Rd (safe C v) 1048576 w1 D (kid t k) a' l') (hx : w1.ownsRow B 39 3 v k xs)
    (hv : w2.ownsRow B 39 3 v' (k + 1) (xs ++ [.int .i64 (kd (kid t k)), .int .i64 (nn (kid t k)), .slice a' l' c'])) (hg : w1.grownBy w2 v.ownBlock) (hat : v'.ownBlock = v.ownBlock ∨ v'.ownBlock = some w1.heap.size) : GrowS w2 B C v' (k + 1) D t := by
  obtain ⟨f, ho0, hc⟩ := h
  have exs : xs = cellsOf f t k := by
    rcases hx.2 with ⟨e1, e2⟩ | ⟨g, cap, cur, e, _, hh, _, _, _, h4⟩
    · subst e2
      have h0 := hx.1
      have h1 := ho0.1
      rw [Nat.zero_mul] at h0 h1
      rw [List.eq_nil_of_length_eq_zero h0, List.eq_nil_of_length_eq_zero h1]
    · rcases ho0.2 with ⟨e1, _⟩ | ⟨g', cap', cur', e', _, hh', _, _, _, h4'⟩
      · rw [e] at e1; cases e1
      · rw [e] at e'
        cases e'
        rw [hh] at hh'
        cases hh'
        rw [← h4, ← h4']
  subst exs
  refine ⟨fun i => if i = k then (a', l', c') else f i, ?_, fun i hik => ?_⟩
  · have e1 : cellsOf (fun i => if i = k then (a', l', c') else f i) t (k + 1) = cellsOf f t k ++ [.int .i64 (kd (kid t k)), .int .i64 (nn (kid t k)), .slice a' l' c'] := by
      simp only [cellsOf, if_true]
      rw [cellsOf_congr t (f' := f) (fun i hi => if_neg (by omega))]
    rw [e1]; exact hv
  · by_cases e : i = k
    · subst e; simp only [if_true]; exact safe_next ho hg hat
    · simp only [if_neg e]; exact safe_next (hc i (by omega)) hg hat
theorem GrowS.done (h : GrowS w B C v l D t) (hl : ln t = l) (hm : l ≤ 1048576) : ∃ a c, v = .slice a l c ∧ l ≤ c ∧ Rd (fun _ => True) 1048576 w (D + 1) t a l := by
  obtain ⟨f, ho, hc⟩ := h
  rcases ho.2 with ⟨e1, e2⟩ | ⟨g, cap, cur, e, hb, hh, h1, h2, h3, h4⟩
  · subst e2
    exact ⟨_, _, e1, Nat.zero_le _, rd_leaf _ _ _ hl _⟩
  · subst e
    refine ⟨_, _, rfl, h1, hl, hm, fun i hi => ?_⟩
    obtain ⟨c0, c1, c2⟩ := cellsOf_at f t hi
    refine ⟨g, 0, rfl, trivial, ?_, ?_, (f i).1, (f i).2.1, (f i).2.2, ?_, (hc i hi).imp fun b hb => trivial⟩
    · simpa using (World.ownsRow.cellAt ho (i * 3) (by omega)).trans c0
    · simpa using (World.ownsRow.cellAt ho (i * 3 + 1) (by omega)).trans c1
    · simpa using (World.ownsRow.cellAt ho (i * 3 + 2) (by omega)).trans c2
/-- A tree lies in no block that has no cells. -/
theorem safe_start {g c : Nat} (h : Rd (fun b => b ≠ C) M w D t a l) (he : w.heap[g]? = some (.cells #[] 39 (0, 0))) : Rd (safe C (.slice (some ⟨g, 0, none⟩) 0 c)) M w D t a l :=
  h.kept fun b o x hq hx => ⟨hx, hq, fun e => by
    injection e with e
    dsimp only at e
    subst e
    simp [World.cell?, he] at hx⟩
theorem set3_block (w : World) {R b : Nat} (hb : b ≠ R) (v0 v1 v2 : Value) : (((w.setCell ⟨R, 0, none⟩ v0).setCell ⟨R, 1, none⟩ v1).setCell ⟨R, 2, none⟩ v2).heap[b]? = w.heap[b]? :=
  (Below.heap_setCell _ _ _ _ hb).trans ((Below.heap_setCell _ _ _ _ hb).trans (Below.heap_setCell _ _ _ _ hb))

set_option maxHeartbeats 12800000 in
set_option maxRecDepth 8000 in
theorem bits_sum (b : Nat) (hb1 : 1 ≤ b) (hb2 : b ≤ 6) (D0 : Nat) (RA RB t : T) (bb off c : Nat) (x0 x1 : Option Addr) (m0 s0 m1 s1 : Nat) (w : World) (g0 : w.cell? ⟨bb, off, none⟩ = some (.int .i64 (kd (kid t 0)))) (g1 : w.cell? ⟨bb, off + 1, none⟩ = some (.int .i64 (nn (kid t 0)))) (g2 : w.cell? ⟨bb, off + 2, none⟩ = some (.slice x0 m0 s0)) (j0 : w.cell? ⟨bb, off + 3, none⟩ = some (.int .i64 (kd (kid t 1)))) (j1 : w.cell? ⟨bb, off + 4, none⟩ = some (.int .i64 (nn (kid t 1)))) (j2 : w.cell? ⟨bb, off + 5, none⟩ = some (.slice x1 m1 s1))
    (E0 : ∀ w' : World, Below w.heap.size w w' → Calls Try.prog 27 #[.agg #[.int .i64 (kd (kid t 0)), .int .i64 (nn (kid t 0)), .slice x0 m0 s0], .int .i64 (b : Int)] w' fun e w'' => ∃ v, e = .returned v ∧ RowV w'' (D0 + 1) RA b v ∧ Below w'.heap.size w' w'')
    (E1 : ∀ w' : World, Below w.heap.size w w' → Calls Try.prog 27 #[.agg #[.int .i64 (kd (kid t 1)), .int .i64 (nn (kid t 1)), .slice x1 m1 s1], .int .i64 (b : Int)] w' fun e w'' => ∃ v, e = .returned v ∧ RowV w'' (D0 + 1) RB b v ∧ Below w'.heap.size w' w'') (kA : ∀ i, kd (kid RA i) ≠ 0) (rA' : ∀ i, i < b → AllR (kid RA i)) (rB' : ∀ i, i < b → AllR (kid RB i)) :
    Calls Try.prog 27 #[.agg #[.int .i64 3, .int .i64 0, .slice (some ⟨bb, off, none⟩) 2 c], .int .i64 (b : Int)] w fun e w' => ∃ v, e = .returned v ∧ RowV w' (D0 + 26) (sumT RA RB b) b v ∧ Below w.heap.size w w' := by
  obtain ⟨i0, hi0, hz0, hz1, hz2⟩ := info_parts info_ex
  have HI := hid hi0
  have HZ0 := hid hz0
  have HZ1 := hid hz1
  have HZ2 := hid hz2
  clear hi0 hz0 hz1 hz2
  have HE0 := hid E0
  have HE1 := hid E1
  have HKA := hid kA
  have HRtA := hid rA'
  have HRtB := hid rB'
  clear E0 E1 kA rA' rB'
  have HW : Hid (Below w.heap.size w ((w.alloc (.cells #[.int .i64 3, .int .i64 0, .slice (some ⟨bb, off, none⟩) 2 c] 25)).alloc (.cells #[] 39))) := (by repeat (first | exact Below.refl _ _ | assumption | refine Below.drew ?_ | refine Below.alloc ?_ (by first | exact Nat.le_refl _ | omega | (simp; done) | (simp; omega)) _ | refine Below.setCell ?_ (by first | exact Nat.le_refl _ | omega | (simp; done) | (simp; omega)) _))
  replace g0 : ((w.alloc (.cells #[.int .i64 3, .int .i64 0, .slice (some ⟨bb, off, none⟩) 2 c] 25)).alloc (.cells #[] 39)).cell? ⟨bb, off, none⟩ = some (.int .i64 (kd (kid t 0))) := keep HW.out g0
  replace g1 : ((w.alloc (.cells #[.int .i64 3, .int .i64 0, .slice (some ⟨bb, off, none⟩) 2 c] 25)).alloc (.cells #[] 39)).cell? ⟨bb, off + 1, none⟩ = some (.int .i64 (nn (kid t 0))) := keep HW.out g1
  replace g2 : ((w.alloc (.cells #[.int .i64 3, .int .i64 0, .slice (some ⟨bb, off, none⟩) 2 c] 25)).alloc (.cells #[] 39)).cell? ⟨bb, off + 2, none⟩ = some (.slice x0 m0 s0) := keep HW.out g2
  replace j0 : ((w.alloc (.cells #[.int .i64 3, .int .i64 0, .slice (some ⟨bb, off, none⟩) 2 c] 25)).alloc (.cells #[] 39)).cell? ⟨bb, off + 3, none⟩ = some (.int .i64 (kd (kid t 1))) := keep HW.out j0
  replace j1 : ((w.alloc (.cells #[.int .i64 3, .int .i64 0, .slice (some ⟨bb, off, none⟩) 2 c] 25)).alloc (.cells #[] 39)).cell? ⟨bb, off + 4, none⟩ = some (.int .i64 (nn (kid t 1))) := keep HW.out j1
  replace j2 : ((w.alloc (.cells #[.int .i64 3, .int .i64 0, .slice (some ⟨bb, off, none⟩) 2 c] 25)).alloc (.cells #[] 39)).cell? ⟨bb, off + 5, none⟩ = some (.slice x1 m1 s1) := keep HW.out j2
  go_enter Try.func27, Try.ntmps27
  go_wp2_with fail
  refine (HE0.out _ HW.out).mono ?_
  rintro e w1 ⟨v1, rfl, ⟨aA, cA, rfl, rA⟩, hb1'⟩
  have HB1 := hid hb1'
  have f0 : w1.cell? ⟨w.heap.size, 0, none⟩ = some (.int .i64 3) := keep hb1' (by simp [go_sem])
  have f2 : w1.cell? ⟨w.heap.size, 2, none⟩ = some (.slice (some ⟨bb, off, none⟩) 2 c) := keep hb1' (by simp [go_sem])
  have he : w1.heap[w.heap.size + 1]? = some (.cells #[] 39 (0, 0)) := (hb1'.block _ (by simp)).trans (by have h := heap_alloc_new (w.alloc (.cells #[.int .i64 3, .int .i64 0, .slice (some ⟨bb, off, none⟩) 2 c] 25)) (.cells #[] 39); simpa using h)
  have HRA := hid rA
  have HEm := hid he
  have HL1 : Hid (w.heap.size + 1 < w1.heap.size) := Nat.lt_of_lt_of_le (by simp) hb1'.size
  have HBw1 : Hid (Below w.heap.size w w1) := HW.out.trans (hb1'.mono HW.out.size)
  replace j0 := keep hb1' j0
  replace j1 := keep hb1' j1
  replace j2 := keep hb1' j2
  clear hb1' rA he g0 g1 g2
  go_wp2_with fail
  refine (HE1.out _ HBw1.out).mono ?_
  rintro e w2 ⟨v2, rfl, ⟨aB, cB, rfl, rB⟩, hb2'⟩
  have HRB := hid rB
  have HB2 := hid hb2'
  clear hb2' rB j0 j1 j2 f2
  go_wp2_with fail
  refine (const_spec 0 _).mono ?_
  rintro e w3 ⟨rfl, hb3⟩
  have HB3 : Hid (Below w1.heap.size w1 (w3.alloc (.cells #[.int .i64 2, .int .i64 0, .slice none 0 0] 39))) := HB2.out.trans ((hb3.trans (show Below _ w3 (w3.alloc (.cells #[.int .i64 2, .int .i64 0, .slice none 0 0] 39)) from Below.mono (show Below w3.heap.size w3 _ from (by repeat (first | exact Below.refl _ _ | assumption | refine Below.drew ?_ | refine Below.alloc ?_ (by first | exact Nat.le_refl _ | omega | (simp; done) | (simp; omega)) _ | refine Below.setCell ?_ (by first | exact Nat.le_refl _ | omega | (simp; done) | (simp; omega)) _))) hb3.size)).mono HB2.out.size)
  have HB3' : Hid (Below w2.heap.size w2 (w3.alloc (.cells #[.int .i64 2, .int .i64 0, .slice none 0 0] 39))) := hb3.trans (Below.mono (show Below w3.heap.size w3 _ from (by repeat (first | exact Below.refl _ _ | assumption | refine Below.drew ?_ | refine Below.alloc ?_ (by first | exact Nat.le_refl _ | omega | (simp; done) | (simp; omega)) _ | refine Below.setCell ?_ (by first | exact Nat.le_refl _ | omega | (simp; done) | (simp; omega)) _))) hb3.size)
  have hs23 := hb3.size
  clear hb3
  go_wp2_with fail
  refine (const_spec 0 _).mono ?_
  rintro e w5 ⟨rfl, hb5⟩
  have hb5A : Below (w3.alloc (.cells #[.int .i64 2, .int .i64 0, .slice none 0 0] 39)).heap.size (w3.alloc (.cells #[.int .i64 2, .int .i64 0, .slice none 0 0] 39)) (w5.alloc (.cells #[.int .i64 2, .int .i64 0, .slice none 0 0] 39)) := hb5.trans (Below.mono (show Below w5.heap.size w5 (w5.alloc (.cells #[.int .i64 2, .int .i64 0, .slice none 0 0] 39)) from (by repeat (first | exact Below.refl _ _ | assumption | refine Below.drew ?_ | refine Below.alloc ?_ (by first | exact Nat.le_refl _ | omega | (simp; done) | (simp; omega)) _ | refine Below.setCell ?_ (by first | exact Nat.le_refl _ | omega | (simp; done) | (simp; omega)) _))) hb5.size)
  have HB5 : Hid (Below w1.heap.size w1 (w5.alloc (.cells #[.int .i64 2, .int .i64 0, .slice none 0 0] 39))) := HB3.out.trans (hb5A.mono HB3.out.size)
  have HB5' : Hid (Below w2.heap.size w2 (w5.alloc (.cells #[.int .i64 2, .int .i64 0, .slice none 0 0] 39))) := HB3'.out.trans (hb5A.mono HB3'.out.size)
  have n0 : (w5.alloc (.cells #[.int .i64 2, .int .i64 0, .slice none 0 0] 39)).cell? ⟨w3.heap.size, 0, none⟩ = some (.int .i64 2) := keep hb5A (cell_new _ _ _ rfl)
  have n1 : (w5.alloc (.cells #[.int .i64 2, .int .i64 0, .slice none 0 0] 39)).cell? ⟨w3.heap.size, 1, none⟩ = some (.int .i64 0) := keep hb5A (cell_new _ _ _ rfl)
  have n2 : (w5.alloc (.cells #[.int .i64 2, .int .i64 0, .slice none 0 0] 39)).cell? ⟨w3.heap.size, 2, none⟩ = some (.slice none 0 0) := keep hb5A (cell_new _ _ _ rfl)
  have HZf : Hid (∀ y, (w5.alloc (.cells #[.int .i64 2, .int .i64 0, .slice none 0 0] 39)).frozen? ⟨w3.heap.size, y, none⟩ = false) := fun y => (hb5A.frozen (p := ⟨w3.heap.size, y, none⟩) (by simp)).trans (by simp [go_sem])
  have hs13 : w.heap.size + 1 < w3.heap.size := Nat.lt_of_lt_of_le HL1.out (Nat.le_trans HB2.out.size hs23)
  replace f0 : (w5.alloc (.cells #[.int .i64 2, .int .i64 0, .slice none 0 0] 39)).cell? ⟨w.heap.size, 0, none⟩ = some (.int .i64 3) := keep HB5.out f0
  have HEm5 := hid ((HB5.out.block _ HL1.out).trans HEm.out)
  have HA5 := hid (((rd_old (HRA.out.below HB2.out)).below HB5'.out).imp (q' := fun x => x ≠ w3.heap.size) fun x hx => by have := hx.2; omega)
  have HBB5 := hid (((rd_old HRB.out).below HB5'.out).imp (q' := fun x => x ≠ w3.heap.size) fun x hx => by have := hx.2; omega)
  have HB6 := hid (HBw1.out.trans (HB5.out.mono HBw1.out.size))
  have hs35 : w3.heap.size < (w5.alloc (.cells #[.int .i64 2, .int .i64 0, .slice none 0 0] 39)).heap.size := World.block_lt_of_cell? _ _ n0
  clear hb5 hb5A HB5 HB5' HB3 HB3' HRA HRB HEm HB2 HB1 HE0 HE1 HW HBw1
  go_wp2
  generalize (w5.alloc (.cells #[.int .i64 2, .int .i64 0, .slice none 0 0] 39)) = w7 at *
  generalize w3.heap.size = NC at *
  have K0 := hid n0
  have K1 := hid n1
  have K2 := hid n2
  clear n0 n1 n2
  go_loopw [12, 5] (fun i v wr => ∃ (k : Nat) (aK : Option Addr) (lK cK : Nat), k ≤ b ∧ i = .int .i64 k ∧ Below w.heap.size w wr ∧ wr.cell? ⟨w.heap.size, 0, none⟩ = some (.int .i64 3) ∧ GrowS wr (w.heap.size + 1) NC v k (D0 + 25) (sumT RA RB b) ∧ Rd (safe NC v) 1048576 wr (D0 + 1) RA aA b ∧ Rd (safe NC v) 1048576 wr (D0 + 1) RB aB b ∧ Rd (safe NC v) 1048576 wr (D0 + 3 * k) (carryT RA RB k) aK lK ∧ (wr.cell? ⟨NC, 0, none⟩ = some (.int .i64 (kd (carryT RA RB k))) ∧ wr.cell? ⟨NC, 1, none⟩ = some (.int .i64 (nn (carryT RA RB k))) ∧ wr.cell? ⟨NC, 2, none⟩ = some (.slice aK lK cK)) ∧ (∀ y, wr.frozen? ⟨NC, y, none⟩ = false) ∧ v.ownBlock ≠ some NC) (fun i _ _ => b - (intOf i).toNat)
  case atStart => exact ⟨0, none, 0, 0, Nat.zero_le _, rfl, HB6.out, f0, ⟨fun _ => (none, 0, 0), ⟨rfl, .inr ⟨w.heap.size + 1, 0, #[], rfl, Nat.le_refl _, HEm5.out, Nat.le_refl _, Nat.zero_le _, rfl, rfl⟩⟩, fun i hi => by omega⟩, safe_start (c := 0) HA5.out HEm5.out, safe_start (c := 0) HBB5.out HEm5.out, rd_leaf _ _ _ rfl _, ⟨K0.out, K1.out, K2.out⟩, HZf.out, fun e => by injection e with e; dsimp only at e; omega⟩
  case round =>
    clear HA5 HBB5 HB6 f0 HEm5 HZf K0 K1 K2 hs35
    obtain ⟨k, aK, lK, cK, hk, rfl, hb, f0, hgr, hA, hB, hKr, ⟨l0, l1, l2⟩, hfr, hnb⟩ := hrel
    have HB := hid hb
    have HG := hid hgr
    have HA := hid hA
    have HBB := hid hB
    have HKr := hid hKr
    have HNB := hid hnb
    have HFr := hid hfr
    clear hb hgr hA hB hKr hnb hfr
    by_cases hlt : k < b
    · obtain ⟨⟨av, cv, hv⟩, hown⟩ := HG.out.form
      subst hv
      have HOwn := hid hown
      obtain ⟨-, bA, offA, rfl, hqA, x0', x1', ax, lx, cx, x2', hx⟩ := HA.out.cell hlt
      obtain ⟨-, bB, offB, rfl, hqB, y0', y1', ay, ly, cy, y2', hy⟩ := HBB.out.cell hlt
      have hsN : w.heap.size < wr.heap.size := World.block_lt_of_cell? _ _ f0
      have hsL : NC < wr.heap.size := World.block_lt_of_cell? _ _ l0
      have HXn := hid (rd_old hx)
      have HYn := hid (rd_old hy)
      have HKn := hid (rd_old HKr.out)
      have HQA := hid hqA
      have HQB := hid hqB
      have hlA : bA < wr.heap.size := World.block_lt_of_cell? _ _ x0'
      have hlB : bB < wr.heap.size := World.block_lt_of_cell? _ _ y0'
      have HC : Hid (∀ w8 : World, (∀ x o u, safe NC (.slice av k cv) x → wr.cell? ⟨x, o, none⟩ = some u → w8.cell? ⟨x, o, none⟩ = some u) → (w8.cell? ⟨bA, offA + k * 3, none⟩ = some (.int .i64 (kd (kid RA k))) ∧ w8.cell? ⟨bA, offA + k * 3 + 1, none⟩ = some (.int .i64 (nn (kid RA k))) ∧ w8.cell? ⟨bA, offA + k * 3 + 2, none⟩ = some (.slice ax lx cx)) ∧ (w8.cell? ⟨bB, offB + k * 3, none⟩ = some (.int .i64 (kd (kid RB k))) ∧ w8.cell? ⟨bB, offB + k * 3 + 1, none⟩ = some (.int .i64 (nn (kid RB k))) ∧ w8.cell? ⟨bB, offB + k * 3 + 2, none⟩ = some (.slice ay ly cy)) ∧ w8.cell? ⟨w.heap.size, 0, none⟩ = some (.int .i64 3)) :=
        fun w8 hk => ⟨⟨hk _ _ _ hqA x0', hk _ _ _ hqA x1', hk _ _ _ hqA x2'⟩, ⟨hk _ _ _ hqB y0', hk _ _ _ hqB y1', hk _ _ _ hqB y2'⟩, hk _ _ _ ⟨by omega, fun e => by have := (HOwn.out _ e).1; omega⟩ f0⟩
      have HKC : Hid (∀ w8 : World, (∀ o u, wr.cell? ⟨NC, o, none⟩ = some u → w8.cell? ⟨NC, o, none⟩ = some u) → w8.cell? ⟨NC, 0, none⟩ = some (.int .i64 (kd (carryT RA RB k))) ∧ w8.cell? ⟨NC, 1, none⟩ = some (.int .i64 (nn (carryT RA RB k))) ∧ w8.cell? ⟨NC, 2, none⟩ = some (.slice aK lK cK)) := fun w8 hk => ⟨hk _ _ l0, hk _ _ l1, hk _ _ l2⟩
      clear hx hy x0' x1' x2' y0' y1' y2' l1 l2 hown hqA hqB
      go_wp2
      clear f0 l0
      refine region_below (fun ua => ⟨#[.agg #[.int .i64 3, .int .i64 0, .slice (some ⟨bb, off, none⟩) 2 c], .int .i64 (b : Int), .pointer (some ⟨w.heap.size, 0, none⟩), undef, .slice none 0 0, .slice av k cv, undef, undef, .slice (some ⟨bA, offA, none⟩) b cA, .slice (some ⟨bB, offB, none⟩) b cB, .pointer (some ⟨NC, 0, none⟩), .pointer (some ⟨w5.heap.size, 0, none⟩), .int .i64 (k : Int), ua 13, .slice (some ⟨w.heap.size + 1, 0, none⟩) 0 0, .pointer (some ⟨w.heap.size, 0, none⟩), .int .i64 3, .bool false, .bool false, undef, undef, undef, undef, undef, undef, undef, undef, undef, undef, undef, undef, undef, undef, undef, undef, .bool false, .bool false, undef, undef, undef, undef, undef, undef, undef, undef, undef, undef, undef, undef, undef, undef, undef, undef, .pointer (some ⟨w.heap.size, 2, none⟩), .slice (some ⟨bb, off, none⟩) 2 c, .pointer (some ⟨bb, off, none⟩), .agg #[.int .i64 (kd (kid t 0)), .int .i64 (nn (kid t 0)), .slice x0 m0 s0], .int .i64 (b : Int), .slice (some ⟨bA, offA, none⟩) b cA, .pointer (some ⟨w.heap.size, 2, none⟩), .slice (some ⟨bb, off, none⟩) 2 c, .pointer (some ⟨bb, off + 3, none⟩), .agg #[.int .i64 (kd (kid t 1)), .int .i64 (nn (kid t 1)), .slice x1 m1 s1], .int .i64 (b : Int), .slice (some ⟨bB, offB, none⟩) b cB, .agg #[.int .i64 2, .int .i64 0, .slice none 0 0], .agg #[.int .i64 2, .int .i64 0, .slice none 0 0], .pointer (some ⟨w.heap.size, 0, none⟩), .int .i64 3, .bool false, undef, undef, undef, .int .i64 (k : Int), .int .i64 (b : Int), .bool true, u76, u77, .pointer (some ⟨w.heap.size, 0, none⟩), .int .i64 3, ua 80, ua 81, ua 82, ua 83, ua 84, ua 85, ua 86, ua 87, ua 88, ua 89, u90, u91, u92, u93, u94, u95, u96, u97, u98, u99, u100, u101, u102, u103, u104, u105, u106, u107, u108, u109, u110, u111, u112, u113, u114, u115, u116, .bool false, .bool false, u119, u120, u121, u122, u123, u124, u125, u126, u127, u128, u129, u130, u131, .bool false, .bool false, u134, u135, u136, u137, u138, u139, u140, u141, u142, u143, u144, u145, u146, u147, u148, undef], []⟩) (fun i => [80, 81, 82, 83, 84, 85, 86, 87, 88, 89, 13].getD i 0) (fun i v wa => match i with | 0 => v = .slice (some ⟨bA, offA, none⟩) b cA | 1 => v = .int .i64 (k : Int) | 2 => v = .pointer (some ⟨bA, offA + k * 3, none⟩) | 3 => TV (safe NC (.slice av k cv)) wr.heap.size wa (D0) (kid RA k) v | 4 => v = .slice (some ⟨bB, offB, none⟩) b cB | 5 => v = .int .i64 (k : Int) | 6 => v = .pointer (some ⟨bB, offB + k * 3, none⟩) | 7 => TV (safe NC (.slice av k cv)) wr.heap.size wa (D0) (kid RB k) v | 8 => RV (safe NC (.slice av k cv)) wr.heap.size wa (D0 + 1) (ndT 6 2 (two (kid RA k) (kid RB k))) 2 v | 9 => TV (safe NC (.slice av k cv)) wr.heap.size wa (D0 + 1) (ndT 6 2 (two (kid RA k) (kid RB k))) v | 10 => PV wr.heap.size wa v | _ => True) wr 11 (fun k => match k with | 80 => u80 | 81 => u81 | 82 => u82 | 83 => u83 | 84 => u84 | 85 => u85 | 86 => u86 | 87 => u87 | 88 => u88 | 89 => u89 | 13 => u13 | _ => undef) (by rfl) (by kernel_rfl) (by rfl) ⟨by kernel_rfl, by kernel_rfl, by kernel_rfl, by decide⟩ (by kernel_rfl) (Below.refl _ _) ?hput ?hinj ?stable ?step ?last
      case hput =>
        intro i hi ua v
        match i, hi with
        | 0, _ => rfl
        | 1, _ => rfl
        | 2, _ => rfl
        | 3, _ => rfl
        | 4, _ => rfl
        | 5, _ => rfl
        | 6, _ => rfl
        | 7, _ => rfl
        | 8, _ => rfl
        | 9, _ => rfl
        | 10, _ => rfl
        | i + 11, hi => exact absurd hi (by omega)
      case hinj =>
        intro i j hi hj h
        exact slots_inj [80, 81, 82, 83, 84, 85, 86, 87, 88, 89, 13] (by decide) hi hj h
      case stable =>
        intro i v wa w9 hb h
        match i, h with
        | 0, h => exact h
        | 1, h => exact h
        | 2, h => exact h
        | 3, h => exact h.below hb
        | 4, h => exact h
        | 5, h => exact h
        | 6, h => exact h
        | 7, h => exact h.below hb
        | 8, h => exact h.below hb
        | 9, h => exact h.below hb
        | 10, h => exact h.below hb
        | _ + 11, h => trivial
      case step =>
        intro i hi ua wa Sa hdep
        match i, hi with
        | 0, _ =>
          clear hdep
          refine ⟨_, rfl, fun K' hK => ?_⟩
          go_simp
          exact hK.out _ _ (Below.refl _ _) rfl
        | 1, _ =>
          clear hdep
          refine ⟨_, rfl, fun K' hK => ?_⟩
          go_simp
          exact hK.out _ _ (Below.refl _ _) rfl
        | 2, _ =>
          have h0 : (ua 80) = .slice (some ⟨bA, offA, none⟩) b cA := hdep 0 (by kernel_rfl)
          have h1 : (ua 81) = .int .i64 (k : Int) := hdep 1 (by kernel_rfl)
          clear hdep
          refine ⟨_, rfl, fun K' hK => ?_⟩
          simp only [h0, h1] at hK ⊢
          go_simp
          exact hK.out _ _ (Below.refl _ _) rfl
        | 3, _ =>
          have h2 : (ua 82) = .pointer (some ⟨bA, offA + k * 3, none⟩) := hdep 2 (by kernel_rfl)
          clear hdep
          refine ⟨_, rfl, fun K' hK => ?_⟩
          obtain ⟨⟨x0, x1, x2⟩, ⟨y0, y1, y2⟩, -⟩ := HC.out wa (fun _ _ _ _ h => keep Sa h)
          simp only [h2] at hK ⊢
          go_simp
          exact hK.out _ _ (Below.refl _ _) ⟨ax, lx, cx, rfl, nz_below (nz_base HXn.out (Below.refl _ _)) Sa⟩
        | 4, _ =>
          clear hdep
          refine ⟨_, rfl, fun K' hK => ?_⟩
          go_simp
          exact hK.out _ _ (Below.refl _ _) rfl
        | 5, _ =>
          clear hdep
          refine ⟨_, rfl, fun K' hK => ?_⟩
          go_simp
          exact hK.out _ _ (Below.refl _ _) rfl
        | 6, _ =>
          have h4 : (ua 84) = .slice (some ⟨bB, offB, none⟩) b cB := hdep 4 (by kernel_rfl)
          have h5 : (ua 85) = .int .i64 (k : Int) := hdep 5 (by kernel_rfl)
          clear hdep
          refine ⟨_, rfl, fun K' hK => ?_⟩
          simp only [h4, h5] at hK ⊢
          go_simp
          exact hK.out _ _ (Below.refl _ _) rfl
        | 7, _ =>
          have h6 : (ua 86) = .pointer (some ⟨bB, offB + k * 3, none⟩) := hdep 6 (by kernel_rfl)
          clear hdep
          refine ⟨_, rfl, fun K' hK => ?_⟩
          obtain ⟨⟨x0, x1, x2⟩, ⟨y0, y1, y2⟩, -⟩ := HC.out wa (fun _ _ _ _ h => keep Sa h)
          simp only [h6] at hK ⊢
          go_simp
          exact hK.out _ _ (Below.refl _ _) ⟨ay, ly, cy, rfl, nz_below (nz_base HYn.out (Below.refl _ _)) Sa⟩
        | 8, _ =>
          have h3 : TV (safe NC (.slice av k cv)) wr.heap.size wa (D0) (kid RA k) (ua 83) := hdep 3 (by kernel_rfl)
          have h7 : TV (safe NC (.slice av k cv)) wr.heap.size wa (D0) (kid RB k) (ua 87) := hdep 7 (by kernel_rfl)
          clear hdep
          refine ⟨_, rfl, fun K' hK => ?_⟩
          obtain ⟨a3, l3, c3, e3, r3⟩ := h3
          obtain ⟨a7, l7, c7, e7, r7⟩ := h7
          simp only [e3, e7] at hK ⊢
          go_simp
          exact hK.out _ _ (by repeat (first | exact Below.refl _ _ | assumption | refine Below.drew ?_ | refine Below.alloc ?_ (by first | exact Nat.le_refl _ | omega | (simp; done) | (simp; omega)) _ | refine Below.setCell ?_ (by first | exact Nat.le_refl _ | omega | (simp; done) | (simp; omega)) _)) ⟨wa.heap.size, rfl, row2 6 Sa.size (HKA.out k) (r3.more (by omega)) (r7.more (by omega))⟩
        | 9, _ =>
          have h8 : RV (safe NC (.slice av k cv)) wr.heap.size wa (D0 + 1) (ndT 6 2 (two (kid RA k) (kid RB k))) 2 (ua 88) := hdep 8 (by kernel_rfl)
          clear hdep
          refine ⟨_, rfl, fun K' hK => ?_⟩
          obtain ⟨N8, e8, r8⟩ := h8
          simp only [e8] at hK ⊢
          go_simp
          refine (new_spec 6 _ _ _ _).mono ?_
          rintro e w9 ⟨rfl, hb9⟩
          exact hK.out _ _ hb9 ⟨_, _, _, rfl, nz_below r8 hb9⟩
        | 10, _ =>
          clear hdep
          refine ⟨_, rfl, fun K' hK => ?_⟩
          go_simp
          refine hK.out _ _ (by repeat (first | exact Below.refl _ _ | assumption | refine Below.drew ?_ | refine Below.alloc ?_ (by first | exact Nat.le_refl _ | omega | (simp; done) | (simp; omega)) _ | refine Below.setCell ?_ (by first | exact Nat.le_refl _ | omega | (simp; done) | (simp; omega)) _)) ⟨wa.heap.size, rfl, ?_, ⟨?_, ?_, ?_⟩, ?_, ?_, ?_⟩
          · exact Sa.size
          all_goals simp [go_sem]
        | i + 11, hi => exact absurd hi (by omega)
      case last =>
        intro ua wa Sa hall
        have h9 : TV (safe NC (.slice av k cv)) wr.heap.size wa (D0 + 1) (ndT 6 2 (two (kid RA k) (kid RB k))) (ua 89) := hall 9 (by decide)
        have h10 : PV wr.heap.size wa (ua 13) := hall 10 (by decide)
        clear hall
        refine ⟨_, rfl, fun K' hK => ?_⟩
        obtain ⟨a5, l5, c5, e5, r5⟩ := h9
        obtain ⟨N, e6, hN, ⟨n0, n1, n2⟩, m0', m1', m2'⟩ := h10
        simp only [e5, e6] at hK ⊢
        go_simp
        refine hK.out _ _ ?_
        clear hK K'
        (try simp only [Exit.then])
        have hNa : N < wa.heap.size := World.block_lt_of_cell? _ _ n0
        have HSm : Hid (∀ x, x < wr.heap.size → (((wa.setCell ⟨N, 0, none⟩ (.int .i64 (kd (ndT 6 2 (two (kid RA k) (kid RB k)))))).setCell ⟨N, 1, none⟩ (.int .i64 (nn (ndT 6 2 (two (kid RA k) (kid RB k)))))).setCell ⟨N, 2, none⟩ (.slice a5 l5 c5)).heap[x]? = wr.heap[x]?) := fun x hx => (set3_block wa (R := N) (b := x) (by omega) (.int .i64 (kd (ndT 6 2 (two (kid RA k) (kid RB k))))) (.int .i64 (nn (ndT 6 2 (two (kid RA k) (kid RB k))))) (.slice a5 l5 c5)).trans (Sa.block x hx)
        have HKp : Hid (∀ x o u, wr.cell? ⟨x, o, none⟩ = some u → (((wa.setCell ⟨N, 0, none⟩ (.int .i64 (kd (ndT 6 2 (two (kid RA k) (kid RB k)))))).setCell ⟨N, 1, none⟩ (.int .i64 (nn (ndT 6 2 (two (kid RA k) (kid RB k)))))).setCell ⟨N, 2, none⟩ (.slice a5 l5 c5)).cell? ⟨x, o, none⟩ = some u) := fun x o u hu => (World.cell?_of_block (a := ⟨x, o, none⟩) (HSm.out x (World.block_lt_of_cell? _ _ hu))).trans hu
        obtain ⟨h0, h1, h2⟩ := set3_cells n0 n1 n2 (.int .i64 (kd (ndT 6 2 (two (kid RA k) (kid RB k))))) (.int .i64 (nn (ndT 6 2 (two (kid RA k) (kid RB k))))) (.slice a5 l5 c5)
        have HCb := hid (HC.out (((wa.setCell ⟨N, 0, none⟩ (.int .i64 (kd (ndT 6 2 (two (kid RA k) (kid RB k)))))).setCell ⟨N, 1, none⟩ (.int .i64 (nn (ndT 6 2 (two (kid RA k) (kid RB k)))))).setCell ⟨N, 2, none⟩ (.slice a5 l5 c5)) (fun x o u _ hu => HKp.out x o u hu))
        obtain ⟨q0, q1, q2⟩ := HKC.out (((wa.setCell ⟨N, 0, none⟩ (.int .i64 (kd (ndT 6 2 (two (kid RA k) (kid RB k)))))).setCell ⟨N, 1, none⟩ (.int .i64 (nn (ndT 6 2 (two (kid RA k) (kid RB k)))))).setCell ⟨N, 2, none⟩ (.slice a5 l5 c5)) (fun o u hu => HKp.out NC o u hu)
        have HGb := hid (HG.out.kept (fun x hx _ => HSm.out x hx) HNB.out)
        have HAb := hid (safe_kept HA.out (fun x hx _ => HSm.out x hx))
        have HBBb := hid (safe_kept HBB.out (fun x hx _ => HSm.out x hx))
        have HKrb := hid (safe_kept HKr.out (fun x hx _ => HSm.out x hx))
        have HDf : Hid (Rd (safe NC (.slice av k cv)) 1048576 (((wa.setCell ⟨N, 0, none⟩ (.int .i64 (kd (ndT 6 2 (two (kid RA k) (kid RB k)))))).setCell ⟨N, 1, none⟩ (.int .i64 (nn (ndT 6 2 (two (kid RA k) (kid RB k)))))).setCell ⟨N, 2, none⟩ (.slice a5 l5 c5)) (D0 + 1) (ndT 6 2 (two (kid RA k) (kid RB k))) a5 l5) := (rd_set3 (nz_not r5 hN n0) (R := N) (by simp) (.int .i64 (kd (ndT 6 2 (two (kid RA k) (kid RB k))))) (.int .i64 (nn (ndT 6 2 (two (kid RA k) (kid RB k))))) (.slice a5 l5 c5)).imp fun x hx => by
          rcases hx.1 with h | h
          · exact h
          · exact ⟨by omega, fun e => by have := (HOwn.out x e).2; omega⟩
        have HBb : Hid (Below w.heap.size w (((wa.setCell ⟨N, 0, none⟩ (.int .i64 (kd (ndT 6 2 (two (kid RA k) (kid RB k)))))).setCell ⟨N, 1, none⟩ (.int .i64 (nn (ndT 6 2 (two (kid RA k) (kid RB k)))))).setCell ⟨N, 2, none⟩ (.slice a5 l5 c5))) := below_set3 (HB.out.trans (Sa.mono HB.out.size)) (R := N) (by omega) (.int .i64 (kd (ndT 6 2 (two (kid RA k) (kid RB k))))) (.int .i64 (nn (ndT 6 2 (two (kid RA k) (kid RB k))))) (.slice a5 l5 c5)
        have HFb : Hid (∀ y, (((wa.setCell ⟨N, 0, none⟩ (.int .i64 (kd (ndT 6 2 (two (kid RA k) (kid RB k)))))).setCell ⟨N, 1, none⟩ (.int .i64 (nn (ndT 6 2 (two (kid RA k) (kid RB k)))))).setCell ⟨N, 2, none⟩ (.slice a5 l5 c5)).frozen? ⟨NC, y, none⟩ = false) := fun y => (World.frozen?_of_block (a := ⟨NC, y, none⟩) (HSm.out NC hsL)).trans (HFr.out y)
        have HXb : Hid (Rd (safe NC (.slice av k cv)) 1048576 (((wa.setCell ⟨N, 0, none⟩ (.int .i64 (kd (ndT 6 2 (two (kid RA k) (kid RB k)))))).setCell ⟨N, 1, none⟩ (.int .i64 (nn (ndT 6 2 (two (kid RA k) (kid RB k)))))).setCell ⟨N, 2, none⟩ (.slice a5 l5 c5)) D0 (kid RA k) ax lx) := safe_kept (HXn.out.imp fun x hx => hx.1) (fun x hx _ => HSm.out x hx)
        have HYb : Hid (Rd (safe NC (.slice av k cv)) 1048576 (((wa.setCell ⟨N, 0, none⟩ (.int .i64 (kd (ndT 6 2 (two (kid RA k) (kid RB k)))))).setCell ⟨N, 1, none⟩ (.int .i64 (nn (ndT 6 2 (two (kid RA k) (kid RB k)))))).setCell ⟨N, 2, none⟩ (.slice a5 l5 c5)) D0 (kid RB k) ay ly) := safe_kept (HYn.out.imp fun x hx => hx.1) (fun x hx _ => HSm.out x hx)
        have HZb : Hid (wr.heap.size ≤ N ∧ N < (((wa.setCell ⟨N, 0, none⟩ (.int .i64 (kd (ndT 6 2 (two (kid RA k) (kid RB k)))))).setCell ⟨N, 1, none⟩ (.int .i64 (nn (ndT 6 2 (two (kid RA k) (kid RB k)))))).setCell ⟨N, 2, none⟩ (.slice a5 l5 c5)).heap.size) := ⟨hN, by simpa [World.setCell] using hNa⟩
        generalize (((wa.setCell ⟨N, 0, none⟩ (.int .i64 (kd (ndT 6 2 (two (kid RA k) (kid RB k)))))).setCell ⟨N, 1, none⟩ (.int .i64 (nn (ndT 6 2 (two (kid RA k) (kid RB k)))))).setCell ⟨N, 2, none⟩ (.slice a5 l5 c5)) = wb at *
        clear n0 n1 n2 m0' m1' m2' r5 Sa HSm HKp HG HA HBB HKr HB HFr HXn HYn HKn HC HKC hNa
        generalize ua 80 = s80 at *
        generalize ua 81 = s81 at *
        generalize ua 82 = s82 at *
        generalize ua 83 = s83 at *
        generalize ua 84 = s84 at *
        generalize ua 85 = s85 at *
        generalize ua 86 = s86 at *
        generalize ua 87 = s87 at *
        generalize ua 88 = s88 at *
        go_wp2_with fail
        refine (new_spec 6 _ _ _ _).mono ?_
        rintro e wc ⟨rfl, hbc⟩
        have HAR : Hid (Below wb.heap.size wb (wb.alloc (.cells #[.int .i64 (kd (ndT 6 2 (two (kid RA k) (kid RB k)))), .int .i64 (nn (ndT 6 2 (two (kid RA k) (kid RB k)))), .slice a5 l5 c5, .int .i64 (kd (carryT RA RB k)), .int .i64 (nn (carryT RA RB k)), .slice aK lK cK] 39))) := (by repeat (first | exact Below.refl _ _ | assumption | refine Below.drew ?_ | refine Below.alloc ?_ (by first | exact Nat.le_refl _ | omega | (simp; done) | (simp; omega)) _ | refine Below.setCell ?_ (by first | exact Nat.le_refl _ | omega | (simp; done) | (simp; omega)) _))
        have HBc : Hid (Below wb.heap.size wb wc) := HAR.out.trans (hbc.mono HAR.out.size)
        have HRw := hid (nz_below (row2 (q := (safe NC (.slice av k cv))) (B := wb.heap.size) (w := wb) (D := D0 + 24) (x := ndT 6 2 (two (kid RA k) (kid RB k))) (y := carryT RA RB k) (ax := a5) (lx := l5) (cx := c5) (ay := aK) (ly := lK) (cy := cK) 6 (Nat.le_refl _) (nd_kind (by decide)) ((nz_base (rd_old HDf.out) (Below.refl _ _)).more (by omega)) ((nz_base (rd_old HKrb.out) (Below.refl _ _)).more (by omega))) hbc)
        have hsc : wb.heap.size < wc.heap.size := Nat.lt_of_lt_of_le (by simp) hbc.size
        have HA1 : Hid (Below wc.heap.size wc (wc.alloc (.cells #[.int .i64 6, .int .i64 0, .slice (some ⟨wb.heap.size, 0, none⟩) 2 2] 39))) := (by repeat (first | exact Below.refl _ _ | assumption | refine Below.drew ?_ | refine Below.alloc ?_ (by first | exact Nat.le_refl _ | omega | (simp; done) | (simp; omega)) _ | refine Below.setCell ?_ (by first | exact Nat.le_refl _ | omega | (simp; done) | (simp; omega)) _))
        have HBcA := hid (HBc.out.trans (HA1.out.mono HBc.out.size))
        have HG1 := hid (HGb.out.kept (fun x hx _ => HBcA.out.block x hx) HNB.out)
        obtain ⟨xs, hxs⟩ := HG1.out.owns
        have HX1 := hid hxs
        have hsb : wr.heap.size < wb.heap.size := by have := HZb.out; omega
        clear hxs hbc
        go_wp2_with (at_builtin; (refine wpList_append_own_at _ rfl _ _ 32 rfl (w.heap.size + 1) 39 i0 _ 3 40 Try.underlying32 HI.out HZ0.out HZ1.out HZ2.out rfl (by decide) _ _ _ rfl HX1.out ⟨wc.heap.size, 0, none⟩ 1 1 [.int .i64 6, .int .i64 0, .slice (some ⟨wb.heap.size, 0, none⟩) 2 2] rfl rfl (three_at (by simp [go_sem]) (by simp [go_sem]) (by simp [go_sem])) (fun u hu => by simp at hu; rcases hu with rfl | rfl | rfl <;> rfl) (by unfold maxLen; omega) (by omega) (by simp; omega) ?_); intro v2 wd hown2 hg2 hnil2 hat2)
        have hOb : ∀ g, (Value.slice av k cv).ownBlock = some g → g < wb.heap.size := fun g e => by have := (HOwn.out g e).2; omega
        have HRs : Hid (Rd (safe NC (.slice av k cv)) 1048576 (wc.alloc (.cells #[.int .i64 6, .int .i64 0, .slice (some ⟨wb.heap.size, 0, none⟩) 2 2] 39)) (D0 + 25) (kid (sumT RA RB b) k) (some ⟨wb.heap.size, 0, none⟩) 2) := safe_kept (safe_nz HRw.out (by omega) hOb) (fun x hx _ => HA1.out.block x hx)
        have HGd : Hid (GrowS wd (w.heap.size + 1) NC v2 (k + 1) (D0 + 25) (sumT RA RB b)) := HG1.out.next (a' := some ⟨wb.heap.size, 0, none⟩) (l' := 2) (c' := 2) HRs.out HX1.out hown2 hg2 hat2
        have HAd := hid (safe_next (safe_kept HAb.out (fun x hx _ => HBcA.out.block x hx)) hg2 hat2)
        have HBBd := hid (safe_next (safe_kept HBBb.out (fun x hx _ => HBcA.out.block x hx)) hg2 hat2)
        have HKrd := hid (safe_next (safe_kept HKrb.out (fun x hx _ => HBcA.out.block x hx)) hg2 hat2)
        have HDfd := hid (safe_next (safe_kept HDf.out (fun x hx _ => HBcA.out.block x hx)) hg2 hat2)
        have HXd := hid (safe_next (safe_kept HXb.out (fun x hx _ => HBcA.out.block x hx)) hg2 hat2)
        have HYd := hid (safe_next (safe_kept HYb.out (fun x hx _ => HBcA.out.block x hx)) hg2 hat2)
        have HBd : Hid (Below w.heap.size w wd) := (HBb.out.trans (HBcA.out.mono HBb.out.size)).grown hg2 (by have := HBb.out.size; simp; omega) (fun j hj => by have := (HOwn.out j hj).1; omega)
        have HBl : Hid (∀ x, x < wb.heap.size → some x ≠ (Value.slice av k cv).ownBlock → wd.heap[x]? = wb.heap[x]?) := fun x hx hm => (hg2.block x (by simp; omega) hm).trans (HBcA.out.block x hx)
        have HCl : Hid (∀ x o u, some x ≠ (Value.slice av k cv).ownBlock → wb.cell? ⟨x, o, none⟩ = some u → wd.cell? ⟨x, o, none⟩ = some u) := fun x o u hm hu => (World.cell?_of_block (a := ⟨x, o, none⟩) (HBl.out x (World.block_lt_of_cell? _ _ hu) hm)).trans hu
        have hmN : some NC ≠ (Value.slice av k cv).ownBlock := fun e => HNB.out e.symm
        have hmH : some N ≠ (Value.slice av k cv).ownBlock := fun e => by have := (HOwn.out _ e.symm).2; have := HZb.out; omega
        have hmA := Ne.symm HQA.out.2
        have hmB := Ne.symm HQB.out.2
        have hmW : some w.heap.size ≠ (Value.slice av k cv).ownBlock := fun e => by have := (HOwn.out _ e.symm).1; omega
        obtain ⟨⟨p0, p1, p2⟩, ⟨r0, r1, r2⟩, fw⟩ := HCb.out
        have HD : Hid (∀ w8 : World, Below wd.heap.size wd w8 → (w8.cell? ⟨bA, offA + k * 3, none⟩ = some (.int .i64 (kd (kid RA k))) ∧ w8.cell? ⟨bA, offA + k * 3 + 1, none⟩ = some (.int .i64 (nn (kid RA k))) ∧ w8.cell? ⟨bA, offA + k * 3 + 2, none⟩ = some (.slice ax lx cx)) ∧ (w8.cell? ⟨bB, offB + k * 3, none⟩ = some (.int .i64 (kd (kid RB k))) ∧ w8.cell? ⟨bB, offB + k * 3 + 1, none⟩ = some (.int .i64 (nn (kid RB k))) ∧ w8.cell? ⟨bB, offB + k * 3 + 2, none⟩ = some (.slice ay ly cy)) ∧ (w8.cell? ⟨NC, 0, none⟩ = some (.int .i64 (kd (carryT RA RB k))) ∧ w8.cell? ⟨NC, 1, none⟩ = some (.int .i64 (nn (carryT RA RB k))) ∧ w8.cell? ⟨NC, 2, none⟩ = some (.slice aK lK cK)) ∧ (w8.cell? ⟨N, 0, none⟩ = some (.int .i64 (kd (ndT 6 2 (two (kid RA k) (kid RB k))))) ∧ w8.cell? ⟨N, 1, none⟩ = some (.int .i64 (nn (ndT 6 2 (two (kid RA k) (kid RB k))))) ∧ w8.cell? ⟨N, 2, none⟩ = some (.slice a5 l5 c5)) ∧ w8.cell? ⟨w.heap.size, 0, none⟩ = some (.int .i64 3)) :=
          fun w8 h => ⟨⟨keep h (HCl.out _ _ _ hmA p0), keep h (HCl.out _ _ _ hmA p1), keep h (HCl.out _ _ _ hmA p2)⟩, ⟨keep h (HCl.out _ _ _ hmB r0), keep h (HCl.out _ _ _ hmB r1), keep h (HCl.out _ _ _ hmB r2)⟩, ⟨keep h (HCl.out _ _ _ hmN q0), keep h (HCl.out _ _ _ hmN q1), keep h (HCl.out _ _ _ hmN q2)⟩, ⟨keep h (HCl.out _ _ _ hmH h0), keep h (HCl.out _ _ _ hmH h1), keep h (HCl.out _ _ _ hmH h2)⟩, keep h (HCl.out _ _ _ hmW fw)⟩
        have HNB2 : Hid (v2.ownBlock ≠ some NC) := by
          show _ ≠ _
          rcases hat2 with e | e
          · rw [e]; exact HNB.out
          · rw [e]; intro e'; injection e' with e'; simp at e'; omega
        have HFd : Hid (∀ y, wd.frozen? ⟨NC, y, none⟩ = false) := fun y => (World.frozen?_of_block (a := ⟨NC, y, none⟩) (HBl.out NC (by omega) hmN)).trans (HFb.out y)
        have hsd : NC < wd.heap.size := by have h1 := hg2.size; simp at h1; omega
        have HOw2 : Hid (∀ g, v2.ownBlock = some g → g < wd.heap.size) := fun g e => (HGd.out.form.2 g e).2
        clear hown2 hg2 hnil2 hat2 p0 p1 p2 r0 r1 r2 fw q0 q1 q2 h0 h1 h2 HRs HRw HG1 HX1 HGb HAb HBBb HKrb HDf HXb HYb HBb HFb HCb HBl HCl HBcA HBc HAR HA1 hmA hmB hmN hmH hmW HQA HQB
        go_wp2
        refine region_below (fun u => ⟨#[.agg #[.int .i64 3, .int .i64 0, .slice (some ⟨bb, off, none⟩) 2 c], .int .i64 (b : Int), .pointer (some ⟨w.heap.size, 0, none⟩), undef, .slice none 0 0, v2, undef, undef, .slice (some ⟨bA, offA, none⟩) b cA, .slice (some ⟨bB, offB, none⟩) b cB, .pointer (some ⟨NC, 0, none⟩), .pointer (some ⟨w5.heap.size, 0, none⟩), .int .i64 (k : Int), .pointer (some ⟨N, 0, none⟩), .slice (some ⟨w.heap.size + 1, 0, none⟩) 0 0, .pointer (some ⟨w.heap.size, 0, none⟩), .int .i64 3, .bool false, .bool false, undef, undef, undef, undef, undef, undef, undef, undef, undef, undef, undef, undef, undef, undef, undef, undef, .bool false, .bool false, undef, undef, undef, undef, undef, undef, undef, undef, undef, undef, undef, undef, undef, undef, undef, undef, .pointer (some ⟨w.heap.size, 2, none⟩), .slice (some ⟨bb, off, none⟩) 2 c, .pointer (some ⟨bb, off, none⟩), .agg #[.int .i64 (kd (kid t 0)), .int .i64 (nn (kid t 0)), .slice x0 m0 s0], .int .i64 (b : Int), .slice (some ⟨bA, offA, none⟩) b cA, .pointer (some ⟨w.heap.size, 2, none⟩), .slice (some ⟨bb, off, none⟩) 2 c, .pointer (some ⟨bb, off + 3, none⟩), .agg #[.int .i64 (kd (kid t 1)), .int .i64 (nn (kid t 1)), .slice x1 m1 s1], .int .i64 (b : Int), .slice (some ⟨bB, offB, none⟩) b cB, .agg #[.int .i64 2, .int .i64 0, .slice none 0 0], .agg #[.int .i64 2, .int .i64 0, .slice none 0 0], .pointer (some ⟨w.heap.size, 0, none⟩), .int .i64 3, .bool false, undef, undef, undef, .int .i64 (k : Int), .int .i64 (b : Int), .bool true, u76, u77, .pointer (some ⟨w.heap.size, 0, none⟩), .int .i64 3, s80, s81, s82, s83, s84, s85, s86, s87, s88, .agg #[.int .i64 (kd (ndT 6 2 (two (kid RA k) (kid RB k)))), .int .i64 (nn (ndT 6 2 (two (kid RA k) (kid RB k)))), .slice a5 l5 c5], .slice av k cv, .agg #[.int .i64 (kd (ndT 6 2 (two (kid RA k) (kid RB k)))), .int .i64 (nn (ndT 6 2 (two (kid RA k) (kid RB k)))), .slice a5 l5 c5], .agg #[.int .i64 (kd (carryT RA RB k)), .int .i64 (nn (carryT RA RB k)), .slice aK lK cK], .slice (some ⟨wb.heap.size, 0, none⟩) 2 2, .agg #[.int .i64 6, .int .i64 0, .slice (some ⟨wb.heap.size, 0, none⟩) 2 2], .slice (some ⟨wc.heap.size, 0, none⟩) 1 1, v2, u 97, u 98, u 99, u 100, u 101, u 102, u 103, u 104, u 105, u 106, u 107, u 108, u 109, u 110, u 111, u 112, u 113, u 114, u 115, u 116, .bool false, .bool false, u119, u120, u121, u122, u123, u124, u125, u126, u127, u128, u129, u130, u131, .bool false, .bool false, u134, u135, u136, u137, u138, u139, u140, u141, u142, u143, u144, u145, u146, u147, u148, undef], []⟩) (fun i => [97, 98, 99, 100, 101, 102, 103, 104, 105, 106, 107, 108, 109, 110, 111, 112, 113, 114, 115, 116].getD i 0) (fun i v w8 => match i with | 0 => v = .slice (some ⟨bA, offA, none⟩) b cA | 1 => v = .int .i64 (k : Int) | 2 => v = .pointer (some ⟨bA, offA + k * 3, none⟩) | 3 => XV (fun _ => True) w8 (D0) (kid RA k) v | 4 => TV (safe NC v2) wd.heap.size w8 (D0) (kid RA k) v | 5 => v = .slice (some ⟨bB, offB, none⟩) b cB | 6 => v = .int .i64 (k : Int) | 7 => v = .pointer (some ⟨bB, offB + k * 3, none⟩) | 8 => XV (fun _ => True) w8 (D0) (kid RB k) v | 9 => TV (safe NC v2) wd.heap.size w8 (D0) (kid RB k) v | 10 => RV (safe NC v2) wd.heap.size w8 (D0 + 1) (ndT 4 2 (two (kid RA k) (kid RB k))) 2 v | 11 => TV (safe NC v2) wd.heap.size w8 (D0 + 1) (ndT 4 2 (two (kid RA k) (kid RB k))) v | 12 => XV (fun _ => True) w8 (D0 + 3 * k) (carryT RA RB k) v | 13 => TV (safe NC v2) wd.heap.size w8 (D0 + 3 * k) (carryT RA RB k) v | 14 => XV (fun _ => True) w8 (D0 + 1) (ndT 6 2 (two (kid RA k) (kid RB k))) v | 15 => TV (safe NC v2) wd.heap.size w8 (D0 + 1) (ndT 6 2 (two (kid RA k) (kid RB k))) v | 16 => RV (safe NC v2) wd.heap.size w8 (D0 + 3 * k + 1 + 1) (ndT 4 2 (two (carryT RA RB k) (ndT 6 2 (two (kid RA k) (kid RB k))))) 2 v | 17 => TV (safe NC v2) wd.heap.size w8 (D0 + 3 * k + 1 + 1) (ndT 4 2 (two (carryT RA RB k) (ndT 6 2 (two (kid RA k) (kid RB k))))) v | 18 => RV (safe NC v2) wd.heap.size w8 (D0 + 3 * k + 1 + 1 + 1) (ndT 5 2 (two (ndT 4 2 (two (kid RA k) (kid RB k))) (ndT 4 2 (two (carryT RA RB k) (ndT 6 2 (two (kid RA k) (kid RB k))))))) 2 v | 19 => TV (safe NC v2) wd.heap.size w8 (D0 + 3 * k + 1 + 1 + 1) (ndT 5 2 (two (ndT 4 2 (two (kid RA k) (kid RB k))) (ndT 4 2 (two (carryT RA RB k) (ndT 6 2 (two (kid RA k) (kid RB k))))))) v | _ => True) wd 20 (fun k => match k with | 97 => u97 | 98 => u98 | 99 => u99 | 100 => u100 | 101 => u101 | 102 => u102 | 103 => u103 | 104 => u104 | 105 => u105 | 106 => u106 | 107 => u107 | 108 => u108 | 109 => u109 | 110 => u110 | 111 => u111 | 112 => u112 | 113 => u113 | 114 => u114 | 115 => u115 | 116 => u116 | _ => undef) (by rfl) (by kernel_rfl) (by rfl) ⟨by kernel_rfl, by kernel_rfl, by kernel_rfl, by decide⟩ (by kernel_rfl) (Below.refl _ _) ?hput ?hinj ?stable ?step ?last
        case hput =>
          intro i hi u v
          match i, hi with
          | 0, _ => rfl
          | 1, _ => rfl
          | 2, _ => rfl
          | 3, _ => rfl
          | 4, _ => rfl
          | 5, _ => rfl
          | 6, _ => rfl
          | 7, _ => rfl
          | 8, _ => rfl
          | 9, _ => rfl
          | 10, _ => rfl
          | 11, _ => rfl
          | 12, _ => rfl
          | 13, _ => rfl
          | 14, _ => rfl
          | 15, _ => rfl
          | 16, _ => rfl
          | 17, _ => rfl
          | 18, _ => rfl
          | 19, _ => rfl
          | i + 20, hi => exact absurd hi (by omega)
        case hinj =>
          intro i j hi hj h
          exact slots_inj [97, 98, 99, 100, 101, 102, 103, 104, 105, 106, 107, 108, 109, 110, 111, 112, 113, 114, 115, 116] (by decide) hi hj h
        case stable =>
          intro i v w8 w9 hb h
          match i, h with
          | 0, h => exact h
          | 1, h => exact h
          | 2, h => exact h
          | 3, h => exact h.below hb
          | 4, h => exact h.below hb
          | 5, h => exact h
          | 6, h => exact h
          | 7, h => exact h
          | 8, h => exact h.below hb
          | 9, h => exact h.below hb
          | 10, h => exact h.below hb
          | 11, h => exact h.below hb
          | 12, h => exact h.below hb
          | 13, h => exact h.below hb
          | 14, h => exact h.below hb
          | 15, h => exact h.below hb
          | 16, h => exact h.below hb
          | 17, h => exact h.below hb
          | 18, h => exact h.below hb
          | 19, h => exact h.below hb
          | _ + 20, h => trivial
        case step =>
          intro i hi u w8 S8 hdep
          match i, hi with
          | 0, _ =>
            clear hdep
            refine ⟨_, rfl, fun K' hK => ?_⟩
            go_simp
            exact hK.out _ _ (Below.refl _ _) rfl
          | 1, _ =>
            clear hdep
            refine ⟨_, rfl, fun K' hK => ?_⟩
            go_simp
            exact hK.out _ _ (Below.refl _ _) rfl
          | 2, _ =>
            have h0 : (u 97) = .slice (some ⟨bA, offA, none⟩) b cA := hdep 0 (by kernel_rfl)
            have h1 : (u 98) = .int .i64 (k : Int) := hdep 1 (by kernel_rfl)
            clear hdep
            refine ⟨_, rfl, fun K' hK => ?_⟩
            simp only [h0, h1] at hK ⊢
            go_simp
            exact hK.out _ _ (Below.refl _ _) rfl
          | 3, _ =>
            have h2 : (u 99) = .pointer (some ⟨bA, offA + k * 3, none⟩) := hdep 2 (by kernel_rfl)
            clear hdep
            refine ⟨_, rfl, fun K' hK => ?_⟩
            obtain ⟨⟨x0, x1, x2⟩, ⟨y0, y1, y2⟩, ⟨k0, k1, k2⟩, ⟨n0, n1, n2⟩, fw⟩ := HD.out w8 S8
            simp only [h2] at hK ⊢
            go_simp
            exact hK.out _ _ (Below.refl _ _) ⟨ax, lx, cx, (HXd.out.imp fun _ _ => trivial).below S8, rfl⟩
          | 4, _ =>
            have h3 : XV (fun _ => True) w8 (D0) (kid RA k) (u 100) := hdep 3 (by kernel_rfl)
            clear hdep
            refine ⟨_, rfl, fun K' hK => ?_⟩
            obtain ⟨a3, l3, c3, r3, e3⟩ := h3
            simp only [e3] at hK ⊢
            go_simp
            refine (copE (D0) (kid RA k) a3 l3 c3 _ r3).mono ?_
            rintro e w9 ⟨a', c', rfl, hb9, ho9⟩
            exact hK.out _ _ hb9 ⟨a', l3, c', rfl, (ow_nz ho9 (HRtA.out k hlt D0)).imp fun x hx => .inr ⟨Nat.le_trans S8.size hx.1.1, hx.2⟩⟩
          | 5, _ =>
            clear hdep
            refine ⟨_, rfl, fun K' hK => ?_⟩
            go_simp
            exact hK.out _ _ (Below.refl _ _) rfl
          | 6, _ =>
            clear hdep
            refine ⟨_, rfl, fun K' hK => ?_⟩
            go_simp
            exact hK.out _ _ (Below.refl _ _) rfl
          | 7, _ =>
            have h5 : (u 102) = .slice (some ⟨bB, offB, none⟩) b cB := hdep 5 (by kernel_rfl)
            have h6 : (u 103) = .int .i64 (k : Int) := hdep 6 (by kernel_rfl)
            clear hdep
            refine ⟨_, rfl, fun K' hK => ?_⟩
            simp only [h5, h6] at hK ⊢
            go_simp
            exact hK.out _ _ (Below.refl _ _) rfl
          | 8, _ =>
            have h7 : (u 104) = .pointer (some ⟨bB, offB + k * 3, none⟩) := hdep 7 (by kernel_rfl)
            clear hdep
            refine ⟨_, rfl, fun K' hK => ?_⟩
            obtain ⟨⟨x0, x1, x2⟩, ⟨y0, y1, y2⟩, ⟨k0, k1, k2⟩, ⟨n0, n1, n2⟩, fw⟩ := HD.out w8 S8
            simp only [h7] at hK ⊢
            go_simp
            exact hK.out _ _ (Below.refl _ _) ⟨ay, ly, cy, (HYd.out.imp fun _ _ => trivial).below S8, rfl⟩
          | 9, _ =>
            have h8 : XV (fun _ => True) w8 (D0) (kid RB k) (u 105) := hdep 8 (by kernel_rfl)
            clear hdep
            refine ⟨_, rfl, fun K' hK => ?_⟩
            obtain ⟨a8, l8, c8, r8, e8⟩ := h8
            simp only [e8] at hK ⊢
            go_simp
            refine (copE (D0) (kid RB k) a8 l8 c8 _ r8).mono ?_
            rintro e w9 ⟨a', c', rfl, hb9, ho9⟩
            exact hK.out _ _ hb9 ⟨a', l8, c', rfl, (ow_nz ho9 (HRtB.out k hlt D0)).imp fun x hx => .inr ⟨Nat.le_trans S8.size hx.1.1, hx.2⟩⟩
          | 10, _ =>
            have h4 : TV (safe NC v2) wd.heap.size w8 (D0) (kid RA k) (u 101) := hdep 4 (by kernel_rfl)
            have h9 : TV (safe NC v2) wd.heap.size w8 (D0) (kid RB k) (u 106) := hdep 9 (by kernel_rfl)
            clear hdep
            refine ⟨_, rfl, fun K' hK => ?_⟩
            obtain ⟨a4, l4, c4, e4, r4⟩ := h4
            obtain ⟨a9, l9, c9, e9, r9⟩ := h9
            simp only [e4, e9] at hK ⊢
            go_simp
            exact hK.out _ _ (by repeat (first | exact Below.refl _ _ | assumption | refine Below.drew ?_ | refine Below.alloc ?_ (by first | exact Nat.le_refl _ | omega | (simp; done) | (simp; omega)) _ | refine Below.setCell ?_ (by first | exact Nat.le_refl _ | omega | (simp; done) | (simp; omega)) _)) ⟨w8.heap.size, rfl, row2 4 S8.size (HKA.out k) (r4.more (by omega)) (r9.more (by omega))⟩
          | 11, _ =>
            have h10 : RV (safe NC v2) wd.heap.size w8 (D0 + 1) (ndT 4 2 (two (kid RA k) (kid RB k))) 2 (u 107) := hdep 10 (by kernel_rfl)
            clear hdep
            refine ⟨_, rfl, fun K' hK => ?_⟩
            obtain ⟨N10, e10, r10⟩ := h10
            simp only [e10] at hK ⊢
            go_simp
            refine (new_spec 4 _ _ _ _).mono ?_
            rintro e w9 ⟨rfl, hb9⟩
            exact hK.out _ _ hb9 ⟨_, _, _, rfl, nz_below r10 hb9⟩
          | 12, _ =>
            clear hdep
            refine ⟨_, rfl, fun K' hK => ?_⟩
            obtain ⟨⟨x0, x1, x2⟩, ⟨y0, y1, y2⟩, ⟨k0, k1, k2⟩, ⟨n0, n1, n2⟩, fw⟩ := HD.out w8 S8
            go_simp
            exact hK.out _ _ (Below.refl _ _) ⟨aK, lK, cK, (HKrd.out.imp fun _ _ => trivial).below S8, rfl⟩
          | 13, _ =>
            have h12 : XV (fun _ => True) w8 (D0 + 3 * k) (carryT RA RB k) (u 109) := hdep 12 (by kernel_rfl)
            clear hdep
            refine ⟨_, rfl, fun K' hK => ?_⟩
            obtain ⟨a12, l12, c12, r12, e12⟩ := h12
            simp only [e12] at hK ⊢
            go_simp
            refine (copE (D0 + 3 * k) (carryT RA RB k) a12 l12 c12 _ r12).mono ?_
            rintro e w9 ⟨a', c', rfl, hb9, ho9⟩
            exact hK.out _ _ hb9 ⟨a', l12, c', rfl, (ow_nz ho9 (carry_allR HRtA.out HRtB.out k (by omega) (D0 + 3 * k))).imp fun x hx => .inr ⟨Nat.le_trans S8.size hx.1.1, hx.2⟩⟩
          | 14, _ =>
            clear hdep
            refine ⟨_, rfl, fun K' hK => ?_⟩
            obtain ⟨⟨x0, x1, x2⟩, ⟨y0, y1, y2⟩, ⟨k0, k1, k2⟩, ⟨n0, n1, n2⟩, fw⟩ := HD.out w8 S8
            go_simp
            exact hK.out _ _ (Below.refl _ _) ⟨a5, l5, c5, (HDfd.out.imp fun _ _ => trivial).below S8, rfl⟩
          | 15, _ =>
            have h14 : XV (fun _ => True) w8 (D0 + 1) (ndT 6 2 (two (kid RA k) (kid RB k))) (u 111) := hdep 14 (by kernel_rfl)
            clear hdep
            refine ⟨_, rfl, fun K' hK => ?_⟩
            obtain ⟨a14, l14, c14, r14, e14⟩ := h14
            simp only [e14] at hK ⊢
            go_simp
            refine (copE (D0 + 1) (ndT 6 2 (two (kid RA k) (kid RB k))) a14 l14 c14 _ r14).mono ?_
            rintro e w9 ⟨a', c', rfl, hb9, ho9⟩
            exact hK.out _ _ hb9 ⟨a', l14, c', rfl, (ow_nz ho9 (AllR.two (by decide) (HRtA.out k hlt) (HRtB.out k hlt) (D0 + 1))).imp fun x hx => .inr ⟨Nat.le_trans S8.size hx.1.1, hx.2⟩⟩
          | 16, _ =>
            have h13 : TV (safe NC v2) wd.heap.size w8 (D0 + 3 * k) (carryT RA RB k) (u 110) := hdep 13 (by kernel_rfl)
            have h15 : TV (safe NC v2) wd.heap.size w8 (D0 + 1) (ndT 6 2 (two (kid RA k) (kid RB k))) (u 112) := hdep 15 (by kernel_rfl)
            clear hdep
            refine ⟨_, rfl, fun K' hK => ?_⟩
            obtain ⟨a13, l13, c13, e13, r13⟩ := h13
            obtain ⟨a15, l15, c15, e15, r15⟩ := h15
            simp only [e13, e15] at hK ⊢
            go_simp
            exact hK.out _ _ (by repeat (first | exact Below.refl _ _ | assumption | refine Below.drew ?_ | refine Below.alloc ?_ (by first | exact Nat.le_refl _ | omega | (simp; done) | (simp; omega)) _ | refine Below.setCell ?_ (by first | exact Nat.le_refl _ | omega | (simp; done) | (simp; omega)) _)) ⟨w8.heap.size, rfl, row2 4 S8.size (carry_kind RA RB k) (r13.more (by omega)) (r15.more (by omega))⟩
          | 17, _ =>
            have h16 : RV (safe NC v2) wd.heap.size w8 (D0 + 3 * k + 1 + 1) (ndT 4 2 (two (carryT RA RB k) (ndT 6 2 (two (kid RA k) (kid RB k))))) 2 (u 113) := hdep 16 (by kernel_rfl)
            clear hdep
            refine ⟨_, rfl, fun K' hK => ?_⟩
            obtain ⟨N16, e16, r16⟩ := h16
            simp only [e16] at hK ⊢
            go_simp
            refine (new_spec 4 _ _ _ _).mono ?_
            rintro e w9 ⟨rfl, hb9⟩
            exact hK.out _ _ hb9 ⟨_, _, _, rfl, nz_below r16 hb9⟩
          | 18, _ =>
            have h11 : TV (safe NC v2) wd.heap.size w8 (D0 + 1) (ndT 4 2 (two (kid RA k) (kid RB k))) (u 108) := hdep 11 (by kernel_rfl)
            have h17 : TV (safe NC v2) wd.heap.size w8 (D0 + 3 * k + 1 + 1) (ndT 4 2 (two (carryT RA RB k) (ndT 6 2 (two (kid RA k) (kid RB k))))) (u 114) := hdep 17 (by kernel_rfl)
            clear hdep
            refine ⟨_, rfl, fun K' hK => ?_⟩
            obtain ⟨a11, l11, c11, e11, r11⟩ := h11
            obtain ⟨a17, l17, c17, e17, r17⟩ := h17
            simp only [e11, e17] at hK ⊢
            go_simp
            exact hK.out _ _ (by repeat (first | exact Below.refl _ _ | assumption | refine Below.drew ?_ | refine Below.alloc ?_ (by first | exact Nat.le_refl _ | omega | (simp; done) | (simp; omega)) _ | refine Below.setCell ?_ (by first | exact Nat.le_refl _ | omega | (simp; done) | (simp; omega)) _)) ⟨w8.heap.size, rfl, row2 5 S8.size (nd_kind (by decide)) (r11.more (by omega)) (r17.more (by omega))⟩
          | 19, _ =>
            have h18 : RV (safe NC v2) wd.heap.size w8 (D0 + 3 * k + 1 + 1 + 1) (ndT 5 2 (two (ndT 4 2 (two (kid RA k) (kid RB k))) (ndT 4 2 (two (carryT RA RB k) (ndT 6 2 (two (kid RA k) (kid RB k))))))) 2 (u 115) := hdep 18 (by kernel_rfl)
            clear hdep
            refine ⟨_, rfl, fun K' hK => ?_⟩
            obtain ⟨N18, e18, r18⟩ := h18
            simp only [e18] at hK ⊢
            go_simp
            refine (new_spec 5 _ _ _ _).mono ?_
            rintro e w9 ⟨rfl, hb9⟩
            exact hK.out _ _ hb9 ⟨_, _, _, rfl, nz_below r18 hb9⟩
          | i + 20, hi => exact absurd hi (by omega)
        case last =>
          intro u w8 S8 hall
          have h19 : TV (safe NC v2) wd.heap.size w8 (D0 + 3 * k + 1 + 1 + 1) (ndT 5 2 (two (ndT 4 2 (two (kid RA k) (kid RB k))) (ndT 4 2 (two (carryT RA RB k) (ndT 6 2 (two (kid RA k) (kid RB k))))))) (u 116) := hall 19 (by decide)
          clear hall
          refine ⟨_, rfl, fun K' hK => ?_⟩
          obtain ⟨-, -, ⟨k0, k1, k2⟩, -, fw⟩ := HD.out w8 S8
          obtain ⟨a8, l8, c8, e8, r8⟩ := h19
          have gf : ∀ y, w8.frozen? ⟨NC, y, none⟩ = false := fun y => (S8.frozen (p := ⟨NC, y, none⟩) hsd).trans (HFd.out y)
          have g0 := gf 0
          have g1 := gf 1
          have g2 := gf 2
          simp only [e8] at hK ⊢
          go_simp
          refine hK.out _ _ ?_
          clear hK K'
          (try simp only [Exit.inBlock, Exit.then])
          have HS8 : Hid (∀ x, x < wd.heap.size → x ≠ NC → (((w8.setCell ⟨NC, 0, none⟩ (.int .i64 (kd (ndT 5 2 (two (ndT 4 2 (two (kid RA k) (kid RB k))) (ndT 4 2 (two (carryT RA RB k) (ndT 6 2 (two (kid RA k) (kid RB k)))))))))).setCell ⟨NC, 1, none⟩ (.int .i64 (nn (ndT 5 2 (two (ndT 4 2 (two (kid RA k) (kid RB k))) (ndT 4 2 (two (carryT RA RB k) (ndT 6 2 (two (kid RA k) (kid RB k)))))))))).setCell ⟨NC, 2, none⟩ (.slice a8 l8 c8)).heap[x]? = wd.heap[x]?) := fun x hx hn => (set3_block w8 (R := NC) (b := x) hn (.int .i64 (kd (ndT 5 2 (two (ndT 4 2 (two (kid RA k) (kid RB k))) (ndT 4 2 (two (carryT RA RB k) (ndT 6 2 (two (kid RA k) (kid RB k))))))))) (.int .i64 (nn (ndT 5 2 (two (ndT 4 2 (two (kid RA k) (kid RB k))) (ndT 4 2 (two (carryT RA RB k) (ndT 6 2 (two (kid RA k) (kid RB k))))))))) (.slice a8 l8 c8)).trans (S8.block x hx)
          have HRn : Hid (Rd (safe NC v2) 1048576 (((w8.setCell ⟨NC, 0, none⟩ (.int .i64 (kd (ndT 5 2 (two (ndT 4 2 (two (kid RA k) (kid RB k))) (ndT 4 2 (two (carryT RA RB k) (ndT 6 2 (two (kid RA k) (kid RB k)))))))))).setCell ⟨NC, 1, none⟩ (.int .i64 (nn (ndT 5 2 (two (ndT 4 2 (two (kid RA k) (kid RB k))) (ndT 4 2 (two (carryT RA RB k) (ndT 6 2 (two (kid RA k) (kid RB k)))))))))).setCell ⟨NC, 2, none⟩ (.slice a8 l8 c8)) (D0 + 3 * (k + 1)) (carryT RA RB (k + 1)) a8 l8) := rd_set3 ((safe_nz r8 hsd HOw2.out).more (by omega)) (R := NC) (by simp) (.int .i64 (kd (ndT 5 2 (two (ndT 4 2 (two (kid RA k) (kid RB k))) (ndT 4 2 (two (carryT RA RB k) (ndT 6 2 (two (kid RA k) (kid RB k))))))))) (.int .i64 (nn (ndT 5 2 (two (ndT 4 2 (two (kid RA k) (kid RB k))) (ndT 4 2 (two (carryT RA RB k) (ndT 6 2 (two (kid RA k) (kid RB k))))))))) (.slice a8 l8 c8)
          have HGn := hid (HGd.out.kept HS8.out HNB2.out)
          have HAn := hid (safe_kept HAd.out HS8.out)
          have HBBn := hid (safe_kept HBBd.out HS8.out)
          have HBn : Hid (Below w.heap.size w (((w8.setCell ⟨NC, 0, none⟩ (.int .i64 (kd (ndT 5 2 (two (ndT 4 2 (two (kid RA k) (kid RB k))) (ndT 4 2 (two (carryT RA RB k) (ndT 6 2 (two (kid RA k) (kid RB k)))))))))).setCell ⟨NC, 1, none⟩ (.int .i64 (nn (ndT 5 2 (two (ndT 4 2 (two (kid RA k) (kid RB k))) (ndT 4 2 (two (carryT RA RB k) (ndT 6 2 (two (kid RA k) (kid RB k)))))))))).setCell ⟨NC, 2, none⟩ (.slice a8 l8 c8))) := below_set3 (HBd.out.trans (S8.mono HBd.out.size)) (R := NC) (by omega) (.int .i64 (kd (ndT 5 2 (two (ndT 4 2 (two (kid RA k) (kid RB k))) (ndT 4 2 (two (carryT RA RB k) (ndT 6 2 (two (kid RA k) (kid RB k))))))))) (.int .i64 (nn (ndT 5 2 (two (ndT 4 2 (two (kid RA k) (kid RB k))) (ndT 4 2 (two (carryT RA RB k) (ndT 6 2 (two (kid RA k) (kid RB k))))))))) (.slice a8 l8 c8)
          have HCn := hid (set3_cells k0 k1 k2 (.int .i64 (kd (ndT 5 2 (two (ndT 4 2 (two (kid RA k) (kid RB k))) (ndT 4 2 (two (carryT RA RB k) (ndT 6 2 (two (kid RA k) (kid RB k))))))))) (.int .i64 (nn (ndT 5 2 (two (ndT 4 2 (two (kid RA k) (kid RB k))) (ndT 4 2 (two (carryT RA RB k) (ndT 6 2 (two (kid RA k) (kid RB k))))))))) (.slice a8 l8 c8))
          have HFn : Hid (∀ y, (((w8.setCell ⟨NC, 0, none⟩ (.int .i64 (kd (ndT 5 2 (two (ndT 4 2 (two (kid RA k) (kid RB k))) (ndT 4 2 (two (carryT RA RB k) (ndT 6 2 (two (kid RA k) (kid RB k)))))))))).setCell ⟨NC, 1, none⟩ (.int .i64 (nn (ndT 5 2 (two (ndT 4 2 (two (kid RA k) (kid RB k))) (ndT 4 2 (two (carryT RA RB k) (ndT 6 2 (two (kid RA k) (kid RB k)))))))))).setCell ⟨NC, 2, none⟩ (.slice a8 l8 c8)).frozen? ⟨NC, y, none⟩ = false) := fun y => (set3_froz w8 NC _ (.int .i64 (kd (ndT 5 2 (two (ndT 4 2 (two (kid RA k) (kid RB k))) (ndT 4 2 (two (carryT RA RB k) (ndT 6 2 (two (kid RA k) (kid RB k))))))))) (.int .i64 (nn (ndT 5 2 (two (ndT 4 2 (two (kid RA k) (kid RB k))) (ndT 4 2 (two (carryT RA RB k) (ndT 6 2 (two (kid RA k) (kid RB k))))))))) (.slice a8 l8 c8)).trans (gf y)
          have HFw : Hid ((((w8.setCell ⟨NC, 0, none⟩ (.int .i64 (kd (ndT 5 2 (two (ndT 4 2 (two (kid RA k) (kid RB k))) (ndT 4 2 (two (carryT RA RB k) (ndT 6 2 (two (kid RA k) (kid RB k)))))))))).setCell ⟨NC, 1, none⟩ (.int .i64 (nn (ndT 5 2 (two (ndT 4 2 (two (kid RA k) (kid RB k))) (ndT 4 2 (two (carryT RA RB k) (ndT 6 2 (two (kid RA k) (kid RB k)))))))))).setCell ⟨NC, 2, none⟩ (.slice a8 l8 c8)).cell? ⟨w.heap.size, 0, none⟩ = some (.int .i64 3)) := (set3_far w8 (R := NC) (by omega) _ (.int .i64 (kd (ndT 5 2 (two (ndT 4 2 (two (kid RA k) (kid RB k))) (ndT 4 2 (two (carryT RA RB k) (ndT 6 2 (two (kid RA k) (kid RB k))))))))) (.int .i64 (nn (ndT 5 2 (two (ndT 4 2 (two (kid RA k) (kid RB k))) (ndT 4 2 (two (carryT RA RB k) (ndT 6 2 (two (kid RA k) (kid RB k))))))))) (.slice a8 l8 c8)).trans fw
          clear k0 k1 k2 fw gf g0 g1 g2 r8 e8
          go_wp2
          exact ⟨⟨k + 1, a8, l8, c8, by omega, by go_num, HBn.out, HFw.out, HGn.out, HAn.out, HBBn.out, HRn.out, HCn.out, HFn.out, HNB2.out⟩, by simp [intOf]; omega⟩
    · have e : k = b := by omega
      subst e
      obtain ⟨a2, c2, e2, hc2, ho2⟩ := HG.out.done rfl (by omega)
      subst e2
      have HO2 := hid ho2
      clear ho2
      go_wp2
      go_ret
      exact ⟨_, rfl, ⟨a2, c2, rfl, HO2.out⟩, HB.out⟩
end Go.Proofs.Ytikdadpapdkfiaa.bitSpecSum
