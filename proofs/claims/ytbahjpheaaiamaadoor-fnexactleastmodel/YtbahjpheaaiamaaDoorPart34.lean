/- CmpInt; SortSets: one text, so that the claim has fewer files. -/
import Derived.Test.YtbahjpheaaiamaaDoorPart6
import Derived.Test.YtbahjpheaaiamaaDoorPart13
import Derived.BigRegion
import Derived.BigQuiet
/- cmp.Compare of two ints; how many members a set has is a number; conditions: none. -/
namespace Go.Proofs.YtbahjpheaaiamaaDoor.cmpInt
open Go.RowKit Go.Deep Go base sets solSets solOps heldStore drawn drawnLin drawnSrc drawnMk
set_option linter.unusedVariables false
theorem nan_int (x : Int) (w : World) : Calls Tryd.prog 80 #[.int .i64 x] w fun e w' => e = .returned (.bool false) ∧ w' = w := by
  go_enter Tryd.func80, Tryd.ntmps80
  go_wp2
  go_ret
  exact ⟨by simp, rfl⟩
theorem cmp_num (x y : Int) (w : World) :
    Calls Tryd.prog 78 #[.int .i64 x, .int .i64 y] w fun e w' => (∃ r : Int, e = .returned (.int .i64 r)) ∧ w' = w := by
  rcases Int.lt_trichotomy x y with h | h | h
  · have h2 : ¬ y < x := by omega
    go_enter Tryd.func78, Tryd.ntmps78
    go_wp2_with (first | (go_at_call 80; refine (nan_int _ _).mono ?_; rintro e w1 ⟨rfl, rfl⟩))
    go_ret
    exact ⟨⟨_, rfl⟩, rfl⟩
  · subst h
    have h2 : ¬ x < x := by omega
    go_enter Tryd.func78, Tryd.ntmps78
    go_wp2_with (first | (go_at_call 80; refine (nan_int _ _).mono ?_; rintro e w1 ⟨rfl, rfl⟩))
    go_ret
    exact ⟨⟨_, rfl⟩, rfl⟩
  · have h2 : ¬ x < y := by omega
    go_enter Tryd.func78, Tryd.ntmps78
    go_wp2_with (first | (go_at_call 80; refine (nan_int _ _).mono ?_; rintro e w1 ⟨rfl, rfl⟩))
    go_ret
    exact ⟨⟨_, rfl⟩, rfl⟩
theorem ones_num (x : Nat) (w : World) : Calls Tryd.prog 83 #[.int .u64 x] w fun e w' => (∃ r : Int, e = .returned (.int .i64 r)) ∧ w' = w := by
  go_enter Tryd.func83, Tryd.ntmps83
  go_wp2
  go_ret
  exact ⟨⟨_, rfl⟩, rfl⟩
theorem count_num (a b : Nat) (w : World) : Calls Tryd.prog 79 #[.agg #[.int .u64 a, .int .u64 b]] w fun e w' => (∃ r : Int, e = .returned (.int .i64 r)) ∧ Below w.heap.size w w' := by
  have HO := hid ones_num
  go_enter Tryd.func79, Tryd.ntmps79
  go_wp2_with fail
  go_region_with (go_at_call 83; refine (HO.out _ _).mono ?_; rintro e1 w1 ⟨⟨r, rfl⟩, rfl⟩)
  all_goals
    go_wp2
    go_ret
    exact ⟨⟨_, rfl⟩, (by repeat (first | exact Below.refl _ _ | assumption | refine netSem.bdn ?_ _ | refine Below.drew ?_ | refine Below.alloc ?_ (by first | exact Nat.le_refl _ | omega | (simp; done) | (simp; omega)) _))⟩
set_option maxRecDepth 8000 in
set_option maxHeartbeats 3200000 in
theorem less_num (a b c d : Nat) (w : World) : Calls Tryd.prog 77 #[.agg #[.int .u64 a, .int .u64 b], .agg #[.int .u64 c, .int .u64 d]] w fun e w' => (∃ r : Int, e = .returned (.int .i64 r)) ∧ Below w.heap.size w w' := by
  have HO := hid count_num
  have HC := hid cmp_num
  go_enter Tryd.func77, Tryd.ntmps77
  go_wp2_with fail
  have hb0 : Below w.heap.size w ((w.alloc (.cells #[.int .u64 a, .int .u64 b] 51)).alloc (.cells #[.int .u64 c, .int .u64 d] 51)) := (by repeat (first | exact Below.refl _ _ | assumption | refine Below.drew ?_ | refine Below.alloc ?_ (by first | exact Nat.le_refl _ | omega | (simp; done) | (simp; omega)) _ | refine Below.setCell ?_ (by first | exact Nat.le_refl _ | omega | (simp; done) | (simp; omega)) _))
  have k0 : ((w.alloc (.cells #[.int .u64 a, .int .u64 b] 51)).alloc (.cells #[.int .u64 c, .int .u64 d] 51)).cell? ⟨w.heap.size, 0, none⟩ = some (.int .u64 a) := by simp [go_sem]
  have k1 : ((w.alloc (.cells #[.int .u64 a, .int .u64 b] 51)).alloc (.cells #[.int .u64 c, .int .u64 d] 51)).cell? ⟨w.heap.size, 1, none⟩ = some (.int .u64 b) := by simp [go_sem]
  have k2 : ((w.alloc (.cells #[.int .u64 a, .int .u64 b] 51)).alloc (.cells #[.int .u64 c, .int .u64 d] 51)).cell? ⟨w.heap.size + 1, 0, none⟩ = some (.int .u64 c) := by simp [go_sem]
  have k3 : ((w.alloc (.cells #[.int .u64 a, .int .u64 b] 51)).alloc (.cells #[.int .u64 c, .int .u64 d] 51)).cell? ⟨w.heap.size + 1, 1, none⟩ = some (.int .u64 d) := by simp [go_sem]
  generalize ((w.alloc (.cells #[.int .u64 a, .int .u64 b] 51)).alloc (.cells #[.int .u64 c, .int .u64 d] 51)) = w1 at *
  have HB0 := hid hb0
  have HF : Hid (∀ W : World, Below w1.heap.size w1 W → W.cell? ⟨w.heap.size, 0, none⟩ = some (.int .u64 a) ∧ W.cell? ⟨w.heap.size, 1, none⟩ = some (.int .u64 b) ∧ W.cell? ⟨w.heap.size + 1, 0, none⟩ = some (.int .u64 c) ∧ W.cell? ⟨w.heap.size + 1, 1, none⟩ = some (.int .u64 d)) := by
    have K0 := hid k0
    have K1 := hid k1
    have K2 := hid k2
    have K3 := hid k3
    exact hid (fun W hb => ⟨keep hb K0.out, keep hb K1.out, keep hb K2.out, keep hb K3.out⟩)
  clear hb0 k0 k1 k2 k3
  refine region_calm (fun uu => ⟨#[.agg #[.int .u64 a, .int .u64 b], .agg #[.int .u64 c, .int .u64 d], .pointer (some ⟨w.heap.size, 0, none⟩), .pointer (some ⟨w.heap.size + 1, 0, none⟩), uu 4, uu 5, uu 6, uu 7, uu 8, uu 9], []⟩) (fun i => [5, 6, 7, 8, 9, 4].getD i 0) (fun i v w8 => match i with | 0 => v = .agg #[.int .u64 a, .int .u64 b] | 1 => ∃ r : Int, v = .int .i64 r | 2 => v = .agg #[.int .u64 c, .int .u64 d] | 3 => ∃ r : Int, v = .int .i64 r | 4 => ∃ r : Int, v = .int .i64 r | 5 => ∃ r : Int, v = .int .i64 r | _ => True) w1 6 (fun k => match k with | 5 => undef | 6 => undef | 7 => undef | 8 => undef | 9 => undef | 4 => .int .i64 0 | _ => undef) (by rfl) (by kernel_rfl) (by rfl) (by kernel_rfl) (Below.refl _ _) ?hput ?hinj ?stable ?step ?fin
  case hput =>
    intro i hi uu v
    match i, hi with
    | 0, _ => rfl
    | 1, _ => rfl
    | 2, _ => rfl
    | 3, _ => rfl
    | 4, _ => rfl
    | 5, _ => rfl
    | i + 6, hi => exact absurd hi (by omega)
  case hinj =>
    intro i j hi hj h
    exact slots_inj [5, 6, 7, 8, 9, 4] (by decide) hi hj h
  case stable =>
    intro i v w8 w9 hb h
    match i, hb, h with
    | 0, hb, h => exact h
    | 1, hb, h => exact h
    | 2, hb, h => exact h
    | 3, hb, h => exact h
    | 4, hb, h => exact h
    | 5, hb, h => exact h
    | _ + 6, hb, h => trivial
  case step =>
    intro i hi uu w8 S8 hdep
    match i, hi, hdep with
    | 0, _, hdep =>
      clear hdep
      refine ⟨_, rfl, fun K' hK => ?_⟩
      obtain ⟨y0, y1, y2, y3⟩ := HF.out w8 S8
      go_simp
      exact hK.out _ _ (Below.refl _ _) rfl
    | 1, _, hdep =>
      have h0 : (uu 5) = .agg #[.int .u64 a, .int .u64 b] := hdep 0 (by kernel_rfl)
      clear hdep
      refine ⟨_, rfl, fun K' hK => ?_⟩
      simp only [h0] at hK ⊢
      go_simp
      refine (HO.out _ _ _).mono ?_
      rintro e w9 ⟨⟨r, rfl⟩, hb9⟩
      exact hK.out _ _ hb9 ⟨r, rfl⟩
    | 2, _, hdep =>
      clear hdep
      refine ⟨_, rfl, fun K' hK => ?_⟩
      obtain ⟨y0, y1, y2, y3⟩ := HF.out w8 S8
      go_simp
      exact hK.out _ _ (Below.refl _ _) rfl
    | 3, _, hdep =>
      have h2 : (uu 7) = .agg #[.int .u64 c, .int .u64 d] := hdep 2 (by kernel_rfl)
      clear hdep
      refine ⟨_, rfl, fun K' hK => ?_⟩
      simp only [h2] at hK ⊢
      go_simp
      refine (HO.out _ _ _).mono ?_
      rintro e w9 ⟨⟨r, rfl⟩, hb9⟩
      exact hK.out _ _ hb9 ⟨r, rfl⟩
    | 4, _, hdep =>
      have h1 : ∃ r : Int, (uu 6) = .int .i64 r := hdep 1 (by kernel_rfl)
      have h3 : ∃ r : Int, (uu 8) = .int .i64 r := hdep 3 (by kernel_rfl)
      clear hdep
      refine ⟨_, rfl, fun K' hK => ?_⟩
      obtain ⟨r1, h1⟩ := h1
      obtain ⟨r3, h3⟩ := h3
      simp only [h1, h3] at hK ⊢
      go_simp
      refine (HC.out _ _ _).mono ?_
      rintro e w9 ⟨⟨r, rfl⟩, rfl⟩
      exact hK.out _ _ (Below.refl _ _) ⟨r, rfl⟩
    | 5, _, hdep =>
      have h4 : ∃ r : Int, (uu 9) = .int .i64 r := hdep 4 (by kernel_rfl)
      clear hdep
      refine ⟨_, rfl, fun K' hK => ?_⟩
      obtain ⟨r4, h4⟩ := h4
      simp only [h4] at hK ⊢
      go_simp
      exact hK.out _ _ (Below.refl _ _) ⟨r4, rfl⟩
    | i + 6, hi, _ => exact absurd hi (by omega)
  case fin =>
    intro uu wf S8 hall
    have h5 : ∃ r : Int, (uu 4) = .int .i64 r := hall 5 (by decide)
    clear hall
    obtain ⟨r, h5⟩ := h5
    have H5 := hid h5
    have HB := hid S8
    clear h5 S8
    go_wp2
    go_ret
    exact ⟨⟨r, by show Ending.returned (uu 4) = _; rw [H5.out]⟩, HB0.out.trans (HB.out.mono HB0.out.size)⟩
end Go.Proofs.YtbahjpheaaiamaaDoor.cmpInt

/- slices.SortStableFunc of the program, over sets of literals: it ends, and the row still holds sets that it held; conditions: the row's own block. -/
namespace Go.Proofs.YtbahjpheaaiamaaDoor.sortSets
open Go.RowKit Go.Deep Go base sets solSets solOps cmpInt drawnMk heldStore drawn drawnLin drawnSrc
set_option linter.unusedVariables false
set_option linter.unusedSimpArgs false

/-- A row of sets of a kind within a block; the block's other cells, and all other blocks, are as they were. -/
structure Stt (Z : LS → Prop) (b N off len : Nat) (f0 : Nat → Value) (w0 w : World) : Prop where
  row : ∃ f, w.rowIs b 51 N f ∧ (∀ i, i < len → ∃ c : LS, Z c ∧ f (off + i * 2) = .int .u64 c.1 ∧ f (off + i * 2 + 1) = .int .u64 c.2) ∧ ∀ j, (j < off ∨ off + len * 2 ≤ j) → f j = f0 j
  chg : Chg (fun j => j = b) w0 w
  fit : off + len * 2 ≤ N
variable {Z : LS → Prop} {b N off len : Nat} {f0 : Nat → Value} {w0 w : World}
theorem Stt.at (h : Stt Z b N off len f0 w0 w) {i : Nat} (hi : i < len) : ∃ c : LS, Z c ∧ w.cell? ⟨b, off + i * 2, none⟩ = some (.int .u64 c.1) ∧ w.cell? ⟨b, off + i * 2 + 1, none⟩ = some (.int .u64 c.2) := by
  obtain ⟨f, h1, h2, h3⟩ := h.row
  obtain ⟨c, hc, e1, e2⟩ := h2 i hi
  have := h.fit
  exact ⟨c, hc, by rw [h1.cell (by omega), e1], by rw [h1.cell (by omega), e2]⟩
theorem Stt.frozen (h : Stt Z b N off len f0 w0 w) (j : Nat) : w.frozen? ⟨b, j, none⟩ = false := by
  obtain ⟨f, h1, _⟩ := h.row
  exact h1.frozen j
theorem Stt.lt (h : Stt Z b N off len f0 w0 w) : b < w.heap.size := by
  obtain ⟨f, h1, _⟩ := h.row
  exact h1.lt
theorem Stt.below (h : Stt Z b N off len f0 w0 w) {w1 : World} (hb : Below w.heap.size w w1) : Stt Z b N off len f0 w0 w1 := by
  obtain ⟨f, h1, h2, h3⟩ := h.row
  exact ⟨⟨f, h1.of_block (hb.block b h1.lt), h2, h3⟩, h.chg.trans (Chg.of_below hb), h.fit⟩
theorem Stt.drew (h : Stt Z b N off len f0 w0 w) : Stt Z b N off len f0 w0 w.drew := h.below (Below.refl _ _).drew
theorem Stt.put (h : Stt Z b N off len f0 w0 w) {i : Nat} (hi : i < len) {c : LS} (hc : Z c) : Stt Z b N off len f0 w0 ((w.setCell ⟨b, off + i * 2, none⟩ (.int .u64 c.1)).setCell ⟨b, off + i * 2 + 1, none⟩ (.int .u64 c.2)) := by
  obtain ⟨f, h1, h2, h3⟩ := h.row
  refine ⟨⟨_, (h1.set _ _).set _ _, fun j hj => ?_, fun j hj => ?_⟩, (h.chg.set (.inl rfl) _).set (.inl rfl) _, h.fit⟩
  · by_cases e : j = i
    · subst e
      refine ⟨c, hc, ?_, ?_⟩
      · rw [if_neg (by omega), if_pos rfl]
      · rw [if_pos rfl]
    · obtain ⟨c', hc', e1, e2⟩ := h2 j hj
      refine ⟨c', hc', ?_, ?_⟩
      · rw [if_neg (by omega), if_neg (by omega), e1]
      · rw [if_neg (by omega), if_neg (by omega), e2]
  · rw [if_neg (by omega), if_neg (by omega)]
    exact h3 j hj
/-- What a call leaves. -/
def Left (Z : LS → Prop) (b N off len : Nat) (f0 : Nat → Value) (w0 : World) (e : Ending) (w' : World) : Prop := e = .returned (.tuple #[]) ∧ Stt Z b N off len f0 w0 w'
set_option maxHeartbeats 6400000 in
set_option maxRecDepth 8000 in
theorem swap_impl (cap x y k : Nat) (cmp : Value) (hs : Stt Z b N off len f0 w0 w) (hm : len ≤ 9000000000000) (hx : x + k ≤ len) (hy : y + k ≤ len) (hxy : x ≠ y) :
    Calls Tryd.prog 88 #[.slice (some ⟨b, off, none⟩) len cap, .int .i64 x, .int .i64 y, .int .i64 k, cmp] w (Left Z b N off len f0 w0) := by
  have HS := hid hs
  clear hs
  go_enter Tryd.func88, Tryd.ntmps88
  go_wp2_with fail
  go_loopw [10] (fun i wr => ∃ q : Nat, q ≤ k ∧ i = .int .i64 q ∧ Stt Z b N off len f0 w0 wr) (fun i _ => k - (intOf i).toNat)
  case atStart => exact ⟨0, Nat.zero_le _, rfl, HS.out⟩
  case round =>
    obtain ⟨q, hq, rfl, hsr⟩ := hrel
    have HR := hid hsr
    clear hsr
    by_cases hlt : q < k
    · obtain ⟨c, hc, c0, c1⟩ := HR.out.at (i := x + q) (by omega)
      obtain ⟨d, hd, d0, d1⟩ := HR.out.at (i := y + q) (by omega)
      have z0 := HR.out.frozen (off + (x + q) * 2)
      have z1 := HR.out.frozen (off + (x + q) * 2 + 1)
      have z2 := HR.out.frozen (off + (y + q) * 2)
      have z3 := HR.out.frozen (off + (y + q) * 2 + 1)
      have i0 : (x : Int) + q < len := by omega
      have i1 : (y : Int) + q < len := by omega
      have n0 : ¬ off + (y + q) * 2 = off + (x + q) * 2 := by omega
      have n1 : ¬ off + (y + q) * 2 = off + (x + q) * 2 + 1 := by omega
      have n2 : ¬ off + (y + q) * 2 + 1 = off + (x + q) * 2 := by omega
      have n3 : ¬ off + (y + q) * 2 + 1 = off + (x + q) * 2 + 1 := by omega
      have n4 : ¬ off + (x + q) * 2 = off + (y + q) * 2 := by omega
      have n5 : ¬ off + (x + q) * 2 = off + (y + q) * 2 + 1 := by omega
      have n6 : ¬ off + (x + q) * 2 + 1 = off + (y + q) * 2 := by omega
      have n7 : ¬ off + (x + q) * 2 + 1 = off + (y + q) * 2 + 1 := by omega
      go_wp2_with fail
      go_region
      have HN := hid (((HR.out.put (i := x + q) (by omega) hd).put (i := y + q) (by omega) hc).drew)
      generalize (((((wr.setCell ⟨b, off + (x + q) * 2, none⟩ (.int .u64 d.1)).setCell ⟨b, off + (x + q) * 2 + 1, none⟩ (.int .u64 d.2)).setCell ⟨b, off + (y + q) * 2, none⟩ (.int .u64 c.1)).setCell ⟨b, off + (y + q) * 2 + 1, none⟩ (.int .u64 c.2)).drew) = wn at *
      clear c0 c1 d0 d1 z0 z1 z2 z3
      go_wp2
      go_round
      case rel => exact ⟨q + 1, by omega, by go_num, HN.out⟩
      case measure => simp [intOf]; omega
    · have e : q = k := by omega
      subst e
      go_wp2
      go_end0
      exact ⟨rfl, HR.out⟩
set_option maxHeartbeats 6400000 in
set_option maxRecDepth 8000 in
theorem ins_impl (cap x y : Nat) (hs : Stt Z b N off len f0 w0 w) (hm : len ≤ 9000000000000) (hx : x ≤ y) (hy : y ≤ len) :
    Calls Tryd.prog 85 #[.slice (some ⟨b, off, none⟩) len cap, .int .i64 x, .int .i64 y, .func (.func 77) #[] #[]] w (Left Z b N off len f0 w0) := by
  have HS := hid hs
  clear hs
  have HL := hid less_num
  go_enter Tryd.func85, Tryd.ntmps85
  go_wp2_with fail
  go_loopw [8] (fun i wr => ∃ q : Nat, x + 1 ≤ q ∧ i = .int .i64 q ∧ Stt Z b N off len f0 w0 wr) (fun i _ => y - (intOf i).toNat)
  case atStart => exact ⟨x + 1, Nat.le_refl _, by go_num, HS.out⟩
  case round =>
    obtain ⟨q, hq, rfl, hsr⟩ := hrel
    have HR := hid hsr
    clear hsr
    by_cases hlt : q < y
    · go_wp2_with fail
      go_loopw [9] (fun i wr => ∃ p : Nat, x ≤ p ∧ p ≤ q ∧ i = .int .i64 p ∧ Stt Z b N off len f0 w0 wr) (fun i _ => (intOf i).toNat)
      case atStart => exact ⟨q, by omega, Nat.le_refl _, rfl, HR.out⟩
      case round =>
        obtain ⟨p, hp, hpq, rfl, hsi⟩ := hrel
        have HI := hid hsi
        clear hsi
        by_cases hpx : x < p
        · have i0 : (p : Int) < len := by omega
          obtain ⟨p1, hp1⟩ : ∃ p1 : Nat, (p : Int) - 1 = p1 := ⟨p - 1, by omega⟩
          have i1 : (p1 : Int) < len := by omega
          go_wp2_with fail
          refine region_calm (fun uu => ⟨#[.slice (some ⟨b, off, none⟩) len cap, .int .i64 ↑x, .int .i64 ↑y, .func (.func 77) #[] #[], undef, undef, undef, undef, .int .i64 ↑q, .int .i64 ↑p, .int .i64 ↑x, .int .i64 (↑x + 1), .int .i64 ↑q, .int .i64 ↑y, .bool true, u15, u16, .int .i64 ↑q, uu 18, uu 19, uu 20, uu 21, uu 22, uu 23, uu 24, uu 25, uu 26, uu 27, uu 28, uu 29, uu 30, uu 31, uu 32, uu 33, uu 34, u35, u36, u37, u38, u39, u40, u41, u42, u43, u44, u45, u46, u47, u48, u49, u50, u51, u52], []⟩) (fun i => [18, 19, 20, 21, 22, 23, 24, 25, 26, 27, 28, 29, 30, 31, 32, 33, 34].getD i 0) (fun i v w8 => match i with | 0 => v = .int .i64 p | 1 => v = .int .i64 x | 2 => v = .bool true | 3 => v = .bool true | 4 => v = .func (.func 77) #[] #[] | 5 => v = .slice (some ⟨b, off, none⟩) len cap | 6 => v = .int .i64 p | 7 => v = .pointer (some ⟨b, off + p * 2, none⟩) | 8 => ∃ c9 : LS, Z c9 ∧ v = .agg #[.int .u64 c9.1, .int .u64 c9.2] | 9 => v = .slice (some ⟨b, off, none⟩) len cap | 10 => v = .int .i64 p | 11 => v = .int .i64 p1 | 12 => v = .pointer (some ⟨b, off + p1 * 2, none⟩) | 13 => ∃ c9 : LS, Z c9 ∧ v = .agg #[.int .u64 c9.1, .int .u64 c9.2] | 14 => ∃ r : Int, v = .int .i64 r | 15 => ∃ tb : Bool, v = .bool tb | 16 => ∃ tb : Bool, v = .bool tb | _ => True) wr 17 (fun k => match k with | 18 => u18 | 19 => u19 | 20 => u20 | 21 => u21 | 22 => u22 | 23 => u23 | 24 => u24 | 25 => u25 | 26 => u26 | 27 => u27 | 28 => u28 | 29 => u29 | 30 => u30 | 31 => u31 | 32 => u32 | 33 => u33 | 34 => u34 | _ => undef) (by rfl) (by kernel_rfl) (by rfl) (by kernel_rfl) (Below.refl _ _) ?hput ?hinj ?stable ?step ?fin
          case hput =>
            intro i hi uu v
            match i, hi with
            | 0, _ => rfl
            | 1, _ => rfl
            | 2, _ => rfl
            | 3, _ => rfl
            | 4, _ => rfl
            | 5, _ => rfl
            | 6, _ => rfl
            | 7, _ => rfl
            | 8, _ => rfl
            | 9, _ => rfl
            | 10, _ => rfl
            | 11, _ => rfl
            | 12, _ => rfl
            | 13, _ => rfl
            | 14, _ => rfl
            | 15, _ => rfl
            | 16, _ => rfl
            | i + 17, hi => exact absurd hi (by omega)
          case hinj =>
            intro i j hi hj h
            exact slots_inj [18, 19, 20, 21, 22, 23, 24, 25, 26, 27, 28, 29, 30, 31, 32, 33, 34] (by decide) hi hj h
          case stable =>
            intro i v w8 w9 hb h
            match i, hb, h with
            | 0, hb, h => exact h
            | 1, hb, h => exact h
            | 2, hb, h => exact h
            | 3, hb, h => exact h
            | 4, hb, h => exact h
            | 5, hb, h => exact h
            | 6, hb, h => exact h
            | 7, hb, h => exact h
            | 8, hb, h => exact h
            | 9, hb, h => exact h
            | 10, hb, h => exact h
            | 11, hb, h => exact h
            | 12, hb, h => exact h
            | 13, hb, h => exact h
            | 14, hb, h => exact h
            | 15, hb, h => exact h
            | 16, hb, h => exact h
            | _ + 17, hb, h => trivial
          case step =>
            intro i hi uu w8 S8 hdep
            match i, hi, hdep with
            | 0, _, hdep =>
              clear hdep
              refine ⟨_, rfl, fun K' hK => ?_⟩
              go_simp
              exact hK.out _ _ (Below.refl _ _) rfl
            | 1, _, hdep =>
              clear hdep
              refine ⟨_, rfl, fun K' hK => ?_⟩
              go_simp
              exact hK.out _ _ (Below.refl _ _) rfl
            | 2, _, hdep =>
              have h0 : (uu 18) = .int .i64 p := hdep 0 (by kernel_rfl)
              have h1 : (uu 19) = .int .i64 x := hdep 1 (by kernel_rfl)
              clear hdep
              refine ⟨_, rfl, fun K' hK => ?_⟩
              have d9 : decide ((x : Int) < (p : Int)) = true := decide_eq_true (by omega)
              have d8 : (x : Int) < (p : Int) := by omega
              simp only [h0, h1] at hK ⊢
              go_simp
              exact hK.out _ _ (Below.refl _ _) rfl
            | 3, _, hdep =>
              have h2 : (uu 20) = .bool true := hdep 2 (by kernel_rfl)
              clear hdep
              refine ⟨_, rfl, fun K' hK => ?_⟩
              simp only [h2] at hK ⊢
              go_simp
              exact hK.out _ _ (Below.refl _ _) rfl
            | 4, _, hdep =>
              have h3 : (uu 21) = .bool true := hdep 3 (by kernel_rfl)
              clear hdep
              refine ⟨_, rfl, fun K' hK => ?_⟩
              simp only [h3] at hK ⊢
              go_simp
              exact hK.out _ _ (Below.refl _ _) rfl
            | 5, _, hdep =>
              have h3 : (uu 21) = .bool true := hdep 3 (by kernel_rfl)
              clear hdep
              refine ⟨_, rfl, fun K' hK => ?_⟩
              simp only [h3] at hK ⊢
              go_simp
              exact hK.out _ _ (Below.refl _ _) rfl
            | 6, _, hdep =>
              have h3 : (uu 21) = .bool true := hdep 3 (by kernel_rfl)
              clear hdep
              refine ⟨_, rfl, fun K' hK => ?_⟩
              simp only [h3] at hK ⊢
              go_simp
              exact hK.out _ _ (Below.refl _ _) rfl
            | 7, _, hdep =>
              have h5 : (uu 23) = .slice (some ⟨b, off, none⟩) len cap := hdep 5 (by kernel_rfl)
              have h6 : (uu 24) = .int .i64 p := hdep 6 (by kernel_rfl)
              have h3 : (uu 21) = .bool true := hdep 3 (by kernel_rfl)
              clear hdep
              refine ⟨_, rfl, fun K' hK => ?_⟩
              have i8 := i0
              simp only [h5, h6, h3] at hK ⊢
              go_simp
              exact hK.out _ _ (Below.refl _ _) rfl
            | 8, _, hdep =>
              have h7 : (uu 25) = .pointer (some ⟨b, off + p * 2, none⟩) := hdep 7 (by kernel_rfl)
              have h3 : (uu 21) = .bool true := hdep 3 (by kernel_rfl)
              clear hdep
              refine ⟨_, rfl, fun K' hK => ?_⟩
              obtain ⟨c9, hc9, y0, y1⟩ := (HI.out.below S8).at (i := p) (by omega)
              simp only [h7, h3] at hK ⊢
              go_simp
              exact hK.out _ _ (Below.refl _ _) ⟨c9, hc9, rfl⟩
            | 9, _, hdep =>
              have h3 : (uu 21) = .bool true := hdep 3 (by kernel_rfl)
              clear hdep
              refine ⟨_, rfl, fun K' hK => ?_⟩
              simp only [h3] at hK ⊢
              go_simp
              exact hK.out _ _ (Below.refl _ _) rfl
            | 10, _, hdep =>
              have h3 : (uu 21) = .bool true := hdep 3 (by kernel_rfl)
              clear hdep
              refine ⟨_, rfl, fun K' hK => ?_⟩
              simp only [h3] at hK ⊢
              go_simp
              exact hK.out _ _ (Below.refl _ _) rfl
            | 11, _, hdep =>
              have h10 : (uu 28) = .int .i64 p := hdep 10 (by kernel_rfl)
              have h3 : (uu 21) = .bool true := hdep 3 (by kernel_rfl)
              clear hdep
              refine ⟨_, rfl, fun K' hK => ?_⟩
              have e8 := hp1
              have e7 : IntKind.i64.wrap (p1 : Int) = p1 := by rw [IntKind.wrap_i64]; omega
              simp only [h10, h3] at hK ⊢
              go_simp
              exact hK.out _ _ (Below.refl _ _) rfl
            | 12, _, hdep =>
              have h9 : (uu 27) = .slice (some ⟨b, off, none⟩) len cap := hdep 9 (by kernel_rfl)
              have h11 : (uu 29) = .int .i64 p1 := hdep 11 (by kernel_rfl)
              have h3 : (uu 21) = .bool true := hdep 3 (by kernel_rfl)
              clear hdep
              refine ⟨_, rfl, fun K' hK => ?_⟩
              have i8 := i1
              simp only [h9, h11, h3] at hK ⊢
              go_simp
              exact hK.out _ _ (Below.refl _ _) rfl
            | 13, _, hdep =>
              have h12 : (uu 30) = .pointer (some ⟨b, off + p1 * 2, none⟩) := hdep 12 (by kernel_rfl)
              have h3 : (uu 21) = .bool true := hdep 3 (by kernel_rfl)
              clear hdep
              refine ⟨_, rfl, fun K' hK => ?_⟩
              obtain ⟨c9, hc9, y0, y1⟩ := (HI.out.below S8).at (i := p1) (by omega)
              simp only [h12, h3] at hK ⊢
              go_simp
              exact hK.out _ _ (Below.refl _ _) ⟨c9, hc9, rfl⟩
            | 14, _, hdep =>
              have h4 : (uu 22) = .func (.func 77) #[] #[] := hdep 4 (by kernel_rfl)
              have h8 : ∃ c9 : LS, Z c9 ∧ (uu 26) = .agg #[.int .u64 c9.1, .int .u64 c9.2] := hdep 8 (by kernel_rfl)
              have h13 : ∃ c9 : LS, Z c9 ∧ (uu 31) = .agg #[.int .u64 c9.1, .int .u64 c9.2] := hdep 13 (by kernel_rfl)
              have h3 : (uu 21) = .bool true := hdep 3 (by kernel_rfl)
              clear hdep
              refine ⟨_, rfl, fun K' hK => ?_⟩
              obtain ⟨c9, hc9, h8⟩ := h8
              obtain ⟨d9, hd9, h13⟩ := h13
              simp only [h4, h8, h13, h3] at hK ⊢
              go_simp
              refine (HL.out _ _ _ _ _).mono ?_
              rintro e w9 ⟨⟨r, rfl⟩, hb9⟩
              exact hK.out _ _ hb9 ⟨r, rfl⟩
            | 15, _, hdep =>
              have h14 : ∃ r : Int, (uu 32) = .int .i64 r := hdep 14 (by kernel_rfl)
              have h3 : (uu 21) = .bool true := hdep 3 (by kernel_rfl)
              clear hdep
              refine ⟨_, rfl, fun K' hK => ?_⟩
              obtain ⟨r9, h14⟩ := h14
              simp only [h14, h3] at hK ⊢
              go_simp
              exact hK.out _ _ (Below.refl _ _) ⟨_, rfl⟩
            | 16, _, hdep =>
              have h15 : ∃ tb : Bool, (uu 33) = .bool tb := hdep 15 (by kernel_rfl)
              have h3 : (uu 21) = .bool true := hdep 3 (by kernel_rfl)
              clear hdep
              refine ⟨_, rfl, fun K' hK => ?_⟩
              obtain ⟨tb9, h15⟩ := h15
              simp only [h15, h3] at hK ⊢
              go_simp
              exact hK.out _ _ (Below.refl _ _) ⟨_, rfl⟩
            | i + 17, hi, _ => exact absurd hi (by omega)
          case fin =>
            intro uu wf S8 hall
            have h16 : ∃ tb : Bool, (uu 34) = .bool tb := hall 16 (by decide)
            clear hall
            obtain ⟨tb, h16⟩ := h16
            have HW := hid (HI.out.below S8)
            clear S8
            rw [h16]
            clear h16
            cases tb with
            | false =>
              go_wp2
              go_round
              case rel => exact ⟨q + 1, by omega, by go_num, HW.out⟩
              case measure => simp [intOf]; omega
            | true =>
              obtain ⟨c, hc, c0, c1⟩ := HW.out.at (i := p) (by omega)
              obtain ⟨d, hd, d0, d1⟩ := HW.out.at (i := p1) (by omega)
              have z0 := HW.out.frozen (off + (p) * 2)
              have z1 := HW.out.frozen (off + (p) * 2 + 1)
              have z2 := HW.out.frozen (off + (p1) * 2)
              have z3 := HW.out.frozen (off + (p1) * 2 + 1)
              have n0 : ¬ off + (p1) * 2 = off + (p) * 2 := by omega
              have n1 : ¬ off + (p1) * 2 = off + (p) * 2 + 1 := by omega
              have n2 : ¬ off + (p1) * 2 + 1 = off + (p) * 2 := by omega
              have n3 : ¬ off + (p1) * 2 + 1 = off + (p) * 2 + 1 := by omega
              have n4 : ¬ off + (p) * 2 = off + (p1) * 2 := by omega
              have n5 : ¬ off + (p) * 2 = off + (p1) * 2 + 1 := by omega
              have n6 : ¬ off + (p) * 2 + 1 = off + (p1) * 2 := by omega
              have n7 : ¬ off + (p) * 2 + 1 = off + (p1) * 2 + 1 := by omega
              go_wp2_with fail
              go_region
              have HN := hid (((HW.out.put (i := p) (by omega) hd).put (i := p1) (by omega) hc).drew)
              generalize (((((wf.setCell ⟨b, off + (p) * 2, none⟩ (.int .u64 d.1)).setCell ⟨b, off + (p) * 2 + 1, none⟩ (.int .u64 d.2)).setCell ⟨b, off + (p1) * 2, none⟩ (.int .u64 c.1)).setCell ⟨b, off + (p1) * 2 + 1, none⟩ (.int .u64 c.2)).drew) = wn at *
              clear c0 c1 d0 d1 z0 z1 z2 z3
              go_wp2
              go_round
              case rel => exact ⟨p1, by omega, by omega, by first | rfl | go_num, HN.out⟩
              case measure => simp [intOf]; omega
        · have d1 : decide ((x : Int) < (p : Int)) = false := decide_eq_false (by omega)
          have d2 : ¬ (x : Int) < (p : Int) := by omega
          go_wp2_with fail
          go_region
          go_wp2
          go_round
          case rel => exact ⟨q + 1, by omega, by go_num, HI.out.drew⟩
          case measure => simp [intOf]; omega
    · have e : ¬ (q : Int) < (y : Int) := by omega
      go_wp2
      go_end0
      exact ⟨rfl, HR.out⟩
end Go.Proofs.YtbahjpheaaiamaaDoor.sortSets
