/- SolHang; SolX; DrawnFree; DrawnEnd: one text, so that the claim has fewer files. -/
import Derived.Test.YtbahjpheaaiamaaDoorPart23
import Derived.Test.YtbahjpheaaiamaaDoorPart24
import Derived.BigRegion
import Derived.Test.YtbahjpheaaiamaaDoorPart8
import Derived.Test.YtbahjpheaaiamaaDoorRangeTwo
import Derived.Test.YtbahjpheaaiamaaDoorPart13
/- A solver of the program: whether a literal of a clause became false by the choice of a level (hangsOn); conditions: a level that has been chosen. -/
namespace Go.Proofs.YtbahjpheaaiamaaDoor.solHang
open Go.RowKit Go.Deep Go.Maps Go base sets setsOf solSets solOps solMath solHold solMem solFail solBackI solTrail cdLes solPush
set_option linter.unusedVariables false
set_option linter.unusedSimpArgs false

theorem choice_at {M mb : Nat} {F : Nat → Value} {V : Int → Value} {s : Sv} {w : World} (h : Sol 0 M mb F V s w) {ka : Option Addr} {kl kc : Nat} (hF : F 8 = .slice ka kl kc) {i : Nat} (hi : i < s.K.length) :
    ∃ g, ka = some ⟨g, 0, none⟩ ∧ w.cell? ⟨g, i, none⟩ = some (.int .i64 (s.K[i]?.getD 0 : Nat)) ∧ kl = s.K.length ∧ kl ≤ kc ∧ kc ≤ maxLen := by
  have hr : w.ownsRow 0 3 1 (F 8) s.K.length (intsN s.K) := h.rows 1004 (by omega)
  rw [hF] at hr
  obtain ⟨h1, h2⟩ := hr
  rcases h2 with ⟨e, e2⟩ | ⟨g, c, cur, e, hg, hh, hn, hm, hsz, ht⟩
  · omega
  · injection e with e3 e4 e5
    refine ⟨g, e3, ?_, e4, by omega, by rw [e5]; exact hm⟩
    have e6 : (cur.toList.take (s.K.length * 1))[i]? = some (.int .i64 (s.K[i]?.getD 0 : Nat)) := by
      rw [ht]
      unfold intsN
      rw [List.getElem?_map, List.getElem?_eq_getElem hi]
      simp
    rw [List.getElem?_take, if_pos (by omega), Array.getElem?_toList] at e6
    simp [World.cell?, hh, e6]
theorem own_formH {B n : Nat} {w : World} {v : Value} {t : TypeId} {s : Nat} {xs : List Value} (h : w.ownsRow B t s v n xs) : ∃ a c, v = .slice a n c := by
  rcases h.2 with ⟨e, e2⟩ | ⟨g, c, cur, e, _⟩
  · exact ⟨none, 0, by rw [e, e2]⟩
  · exact ⟨_, c, e⟩
theorem trail_form {M mb : Nat} {F : Nat → Value} {V : Int → Value} {s : Sv} {w : World} (h : Sol 0 M mb F V s w) : ∃ ta tc, F 7 = .slice ta s.T.length tc ∧ s.T.length ≤ tc ∧ tc ≤ maxLen := by
  have hr : w.ownsRow 0 87 2 (F 7) s.T.length (flatP s.T) := h.rows 1003 (by omega)
  obtain ⟨ta, tc, e⟩ := own_formH hr
  rw [e] at hr
  obtain ⟨h1, h2⟩ := row_fits hr
  exact ⟨ta, tc, e, h1, h2⟩
theorem choice_form {M mb : Nat} {F : Nat → Value} {V : Int → Value} {s : Sv} {w : World} (h : Sol 0 M mb F V s w) : ∃ ka kc, F 8 = .slice ka s.K.length kc ∧ s.K.length ≤ kc ∧ kc ≤ maxLen := by
  have hr : w.ownsRow 0 3 1 (F 8) s.K.length (intsN s.K) := h.rows 1004 (by omega)
  obtain ⟨ta, tc, e⟩ := own_formH hr
  rw [e] at hr
  obtain ⟨h1, h2⟩ := row_fits hr
  exact ⟨ta, tc, e, h1, h2⟩
set_option maxHeartbeats 3200000 in
theorem hangs_impl (M mb : Nat) (F : Nat → Value) (V : Int → Value) (s : Sv) (w : World) (h : Sol 0 M mb F V s w) (lv : Nat) (h1 : 1 ≤ lv) (hl : lv < s.K.length) (hinc : s.K[lv - 1]?.getD 0 < s.K[lv]?.getD 0) (hlt : s.K[lv]?.getD 0 < s.T.length) (hT : ∀ p ∈ s.T, p.1 ≠ 0 ∧ -40 ≤ p.1 ∧ p.1 ≤ 40) (C1 C2 : Nat) (hc : Wf (C1, C2)) (hTl : s.T.length ≤ 100000) (hKl : s.K.length ≤ 100000) :
    Calls Tryd.prog 61 #[.pointer (some ⟨M, 0, none⟩), .agg #[.int .u64 C1, .int .u64 C2], .int .i64 lv] w fun e w' => ∃ t : Bool, e = .returned (.bool t) ∧ (t = true ↔ ∃ i, s.K[lv - 1]?.getD 0 ≤ i ∧ i < s.K[lv]?.getD 0 ∧ mem (C1, C2) (-(tl s i)) = true) ∧ Below w.heap.size w w' := by
  obtain ⟨ta, tc, h7, ht1, ht2⟩ := trail_form h
  obtain ⟨ka, kc, h8, hk1, hk2⟩ := choice_form h
  obtain ⟨g8, rfl, q0, _⟩ := choice_at h h8 (i := lv - 1) (by omega)
  obtain ⟨g8', e8, q1, _⟩ := choice_at h h8 (i := lv) hl
  injection e8 with e8
  injection e8 with e8
  subst e8
  obtain ⟨g7, rfl, _, _, hg7⟩ := trail_at h h7 (i := s.K[lv]?.getD 0) hlt
  have k7 := h.cell (i := 7) (by omega)
  have k8 := h.cell (i := 8) (by omega)
  rw [h7] at k7
  rw [h8] at k8
  have HTr : Hid (∀ i, i < s.T.length → ∃ r : Int, w.cell? ⟨g7, i * 2, none⟩ = some (.int .i64 (tl s i)) ∧ w.cell? ⟨g7, i * 2 + 1, none⟩ = some (.int .i64 r)) := hid (fun i hi => by
    obtain ⟨g, e, c0, c1, _⟩ := trail_at h h7 hi
    injection e with e
    injection e with e
    subst e
    exact ⟨_, c0, c1⟩)
  have HT := hid hT
  have HC := hid hc
  have HTl2 : Hid (∀ i, i < s.T.length → tl s i ≠ 0 ∧ -40 ≤ tl s i ∧ tl s i ≤ 40) := hid (fun i hi => by
    unfold tl
    rw [List.getElem?_eq_getElem hi]
    exact HT.out _ (List.getElem_mem hi))
  have hM := h.lt.1
  obtain ⟨a, ha⟩ : ∃ a, s.K[lv - 1]?.getD 0 = a := ⟨_, rfl⟩
  obtain ⟨b, hb⟩ : ∃ b, s.K[lv]?.getD 0 = b := ⟨_, rfl⟩
  rw [ha, hb] at hinc ⊢
  rw [hb] at hlt
  rw [ha] at q0
  rw [hb] at q1
  obtain ⟨tn, htn⟩ : ∃ tn, s.T.length = tn := ⟨_, rfl⟩
  obtain ⟨kn, hkn⟩ : ∃ kn, s.K.length = kn := ⟨_, rfl⟩
  rw [htn] at hlt k7 HTr ht1 hTl HTl2
  rw [hkn] at hl k8 hk1 hKl
  generalize tl s = L at *
  clear h hT hc h7 h8 ha hb htn hkn HT
  obtain ⟨m, rfl⟩ : ∃ m, b = a + m := ⟨b - a, by omega⟩
  obtain ⟨l1, rfl⟩ : ∃ l1, lv = l1 + 1 := ⟨lv - 1, by omega⟩
  rw [Nat.add_sub_cancel] at q0
  unfold maxLen at ht2 hk2
  go_enter Tryd.func61, Tryd.ntmps61
  go_wp2
  obtain ⟨w1, hw1⟩ : ∃ w1, w.alloc (.cells #[.int .u64 C1, .int .u64 C2] 51) = w1 := ⟨_, rfl⟩
  have x0 : w1.cell? ⟨w.heap.size, 0, none⟩ = some (.int .u64 C1) := by rw [← hw1]; simp [go_sem]
  have x1 : w1.cell? ⟨w.heap.size, 1, none⟩ = some (.int .u64 C2) := by rw [← hw1]; simp [go_sem]
  have hb1 : Below w.heap.size w w1 := by rw [← hw1]; exact (by repeat (first | exact Below.refl _ _ | assumption | refine Below.drew ?_ | refine Below.alloc ?_ (by first | exact Nat.le_refl _ | omega | (simp; done) | (simp; omega)) _ | refine Below.setCell ?_ (by first | exact Nat.le_refl _ | omega | (simp; done) | (simp; omega)) _))
  rw [hw1]
  clear hw1
  have HB1 := hid hb1
  have HX0 := hid x0
  have HX1 := hid x1
  replace k7 := keep hb1 k7
  replace k8 := keep hb1 k8
  replace q0 := keep hb1 q0
  replace q1 := keep hb1 q1
  clear hb1 x0 x1
  have i1 : (l1 : Int) < kn := by omega
  have i2 : (l1 : Int) + 1 < kn := by omega
  have i3 : (l1 : Int) + 1 - 1 = l1 := by omega
  have i4 : (a : Int) ≤ (a + m : Nat) := by omega
  have i5 : ((a + m : Nat) : Int) ≤ tn := by omega
  have i6 : ((a + m : Nat) : Int) ≤ tc := by omega
  go_region
  have HBd := hid (show Below w1.heap.size w1 w1.drew from (Below.refl _ w1).drew)
  clear k7 k8 q0 q1
  generalize w1.drew = w2 at *
  go_wp2
  rw [show a + m - a = m by omega]
  go_loopw [30] (fun i wr => ∃ k : Nat, k ≤ m ∧ i = .int .i64 k ∧ (∀ j, j < k → mem (C1, C2) (-(L (a + j))) = false) ∧ Below w1.heap.size w1 wr) (fun i _ => m - (intOf i).toNat)
  case atStart => exact ⟨0, Nat.zero_le _, rfl, fun j hj => absurd hj (Nat.not_lt_zero _), HBd.out⟩
  case round =>
    obtain ⟨k, hk, rfl, hno, hbr⟩ := hrel
    have HNo := hid hno
    have HBr := hid hbr
    have x0 := keep hbr HX0.out
    have x1 := keep hbr HX1.out
    have hbx : w.heap.size < wr.heap.size := World.block_lt_of_cell? _ _ x0
    clear hno hbr
    by_cases hkm : k < m
    · obtain ⟨r, c0, c1⟩ := HTr.out (a + k) (by omega)
      obtain ⟨l0, l1', l2⟩ := HTl2.out (a + k) (by omega)
      replace c0 := keep (HB1.out.trans (HBr.out.mono HB1.out.size)) c0
      replace c1 := keep (HB1.out.trans (HBr.out.mono HB1.out.size)) c1
      rw [Nat.add_mul] at c0 c1
      have HNx : Hid (mem (C1, C2) (-(L (a + k))) = false → ∀ j, j < k + 1 → mem (C1, C2) (-(L (a + j))) = false) := hid (fun h j hj => by
        by_cases e : j = k
        · rw [e]; exact h
        · exact HNo.out j (by omega))
      have HYes : Hid (mem (C1, C2) (-(L (a + k))) = true → ∃ i, a ≤ i ∧ i < a + m ∧ mem (C1, C2) (-(L i)) = true) := hid (fun h => ⟨a + k, by omega, by omega, h⟩)
      generalize L (a + k) = z at *
      have hkd : (k : Int) < m := by omega
      go_wp2_with fail
      refine (has_impl (C1, C2) (-z) _ HC.out (by omega) (by omega) (by omega)).mono ?_
      rintro e w3 ⟨rfl, hb3⟩
      have HB3 := hid (HBr.out.trans (((show Below wr.heap.size wr _ from (by repeat (first | exact Below.refl _ _ | assumption | refine Below.drew ?_ | refine Below.alloc ?_ (by first | exact Nat.le_refl _ | omega | (simp; done) | (simp; omega)) _ | refine Below.setCell ?_ (by first | exact Nat.le_refl _ | omega | (simp; done) | (simp; omega)) _))).trans (hb3.mono (by simp))).mono HBr.out.size))
      clear hb3
      cases hm9 : mem (C1, C2) (-z) with
      | true =>
        go_wp2
        go_ret
        exact ⟨true, rfl, ⟨fun _ => HYes.out hm9, fun _ => rfl⟩, HB1.out.trans (HB3.out.mono HB1.out.size)⟩
      | false =>
        go_wp2
        go_roundw
        case rel => exact ⟨k + 1, by omega, by go_num, HNx.out hm9, HB3.out⟩
        case measure => simp [intOf]; omega
    · have e : k = m := by omega
      subst e
      go_wp2
      go_ret
      exact ⟨false, rfl, ⟨fun h => (by cases h), fun ⟨i, h1, h2, h3⟩ => (by
        have := HNo.out (i - a) (by omega)
        rw [show a + (i - a) = i by omega, h3] at this
        cases this)⟩, HB1.out.trans (HBr.out.mono HB1.out.size)⟩
end Go.Proofs.YtbahjpheaaiamaaDoor.solHang

/- A solver of the program: weights of variables, what a failure adds to them; the cells that propagation doesn't touch; conditions: none. -/
namespace Go.Proofs.YtbahjpheaaiamaaDoor.solX
open Go.RowKit Go.Deep Go.Maps Go base sets setsOf solSets solOps solMath solHold solMem solFail rangeTwo
set_option linter.unusedVariables false
set_option linter.unusedSimpArgs false

def updX (X : Nat → Value) (j : Nat) (v : Value) : Nat → Value := fun i => if i = j then v else X i
section
variable {z : Int} {M mb : Nat} {F : Nat → Value} {V : Int → Value} {s : Sv} {w : World}
theorem valA_X {j : Nat} (hj : 11 ≤ j) (v : Value) (a : Int) : valA (updX F j v) V a = valA F V a := by
  unfold valA updX
  rw [if_neg (show (2 : Nat) ≠ j by omega), if_neg (show (3 : Nat) ≠ j by omega), if_neg (show (7 : Nat) ≠ j by omega), if_neg (show (8 : Nat) ≠ j by omega), if_neg (show (9 : Nat) ≠ j by omega)]
theorem blk_X {j : Nat} (hj : 11 ≤ j) (v : Value) : blk z (updX F j v) V = blk z F V := by
  funext a
  unfold blk
  rw [valA_X hj]
theorem Sol.setX (h : Sol z M mb F V s w) (hz : z ≤ 40) {j : Nat} (hj : 11 ≤ j) (v : Value) :
    Sol z M mb (updX F j v) V { s with X := updX s.X j v } (w.setCell ⟨M, j, none⟩ v) ∧ Chg M mb (blk z F V) (blk z (updX F j v) V) w (w.setCell ⟨M, j, none⟩ v) := by
  obtain ⟨e1, e2, e3, e4⟩ := setCell_os w ⟨M, j, none⟩ v
  have hn : ∀ i, i < 11 → updX F j v i = F i := fun i hi => by unfold updX; rw [if_neg (by omega)]
  exact Sol.cellsM h hz (World.rowIs.set h.cells j _) (by rw [hn 0 (by omega)]; exact h.f0) (by rw [hn 4 (by omega)]; exact h.f4) (by rw [hn 5 (by omega)]; exact h.f5) (by rw [hn 6 (by omega)]; exact h.f6) (by rw [hn 10 (by omega)]; exact h.f10)
    (fun i hi => by show updX F j v i = updX s.X j v i; unfold updX; split; rfl; exact h.fx i hi) (fun a => ⟨valA_X hj v a, fun v w hr => hr⟩) (fun i hi => Below.heap_setCell _ _ _ _ (by simpa using hi)) e1 e2 e3 (by omega)
end
theorem df_set (w : World) (M j : Nat) (v : Value) : Df (fun q => q = M) w (w.setCell ⟨M, j, none⟩ v) := ⟨(setCell_os w ⟨M, j, none⟩ v).1, (setCell_os w ⟨M, j, none⟩ v).2.1, (setCell_os w ⟨M, j, none⟩ v).2.2.1, Nat.le_of_eq (setCell_os w ⟨M, j, none⟩ v).2.2.2.symm, fun q _ hx => Below.heap_setCell _ _ _ _ (by simpa using hx)⟩
/-- Weights are never negative, at most b; a failure adds g. -/
structure Wg (X : Nat → Value) (g b : Int) : Prop where
  wt : ∀ v, v ≤ 40 → ∃ x : Int, X (11 + v) = .int .i64 x ∧ 0 ≤ x ∧ x ≤ b
  gain : X 52 = .int .i64 g
def SameX (X X' : Nat → Value) : Prop := ∀ j, (j < 11 ∨ 51 < j) → X' j = X j
/-- Weights on the way: those of the variables ahead of k have grown. -/
structure WgAt (X : Nat → Value) (g b : Int) (k : Nat) : Prop where
  wt : ∀ v, v ≤ 40 → ∃ x : Int, X (11 + v) = .int .i64 x ∧ 0 ≤ x ∧ x ≤ if v < k then b + g else b
  gain : X 52 = .int .i64 g
theorem WgAt.next {X : Nat → Value} {g b : Int} {k : Nat} (h : WgAt X g b k) (hg : 0 ≤ g) : WgAt X g b (k + 1) := ⟨fun v hv => by
  obtain ⟨x, e, h1, h2⟩ := h.wt v hv
  refine ⟨x, e, h1, ?_⟩
  split at h2 <;> split <;> omega, h.gain⟩
theorem WgAt.put {X : Nat → Value} {g b x : Int} {k : Nat} (h : WgAt X g b k) (hk : k ≤ 40) (hg : 0 ≤ g) (hx : X (11 + k) = .int .i64 x) : WgAt (updX X (11 + k) (.int .i64 (x + g))) g b (k + 1) := ⟨fun v hv => by
  unfold updX
  by_cases e : v = k
  · subst e
    obtain ⟨y, e1, h1, h2⟩ := h.wt v hv
    rw [hx] at e1
    have e2 : x = y := by injection e1
    subst e2
    refine ⟨x + g, by rw [if_pos rfl], by omega, ?_⟩
    rw [if_neg (Nat.lt_irrefl _)] at h2
    rw [if_pos (by omega)]
    omega
  · obtain ⟨y, e1, h1, h2⟩ := h.wt v hv
    refine ⟨y, by rw [if_neg (by omega)]; exact e1, h1, ?_⟩
    split at h2 <;> split <;> omega, by unfold updX; rw [if_neg (by omega)]; exact h.gain⟩
theorem same_put {X X' : Nat → Value} (h : SameX X X') {k : Nat} (hk : k ≤ 40) (v : Value) : SameX X (updX X' (11 + k) v) := fun j hj => by
  unfold updX
  rw [if_neg (by omega)]
  exact h j hj
set_option maxHeartbeats 3200000 in
theorem weigh_impl (M mb : Nat) (F : Nat → Value) (V : Int → Value) (s : Sv) (w : World) (h : Sol 0 M mb F V s w) (n : Nat) (hn : s.n = n) (hn40 : n ≤ 40) (C1 C2 : Nat) (hc : Wf (C1, C2)) (g b : Int) (hg : 0 ≤ g ∧ g ≤ 2305843009213693952) (hb : 0 ≤ b ∧ b ≤ 2305843009213693952) (hw : Wg s.X g b) :
    Calls Tryd.prog 69 #[.pointer (some ⟨M, 0, none⟩), .agg #[.int .u64 C1, .int .u64 C2]] w fun e w' => e = .returned (.tuple #[]) ∧ ∃ F' X', Sol 0 M mb F' V { s with X := X' } w' ∧ Wg X' g (b + g) ∧ SameX s.X X' ∧ Chg M mb (blk 0 F V) (blk 0 F' V) w w' ∧ (∀ j, j < 11 → F' j = F j) ∧ Df (fun q => q = M) w w' := by
  have HS := hid h
  have HW := hid hw
  have HC := hid hc
  have HN := hid hn
  clear h hw hc hn
  have hM := HS.out.lt.1
  have hMb := HS.out.lt.2
  have HBl := hid (fun a (e : blk 0 F V a = some w.heap.size) => Nat.lt_irrefl _ (HS.out.blt e))
  go_enter Tryd.func69, Tryd.ntmps69
  go_wp2
  obtain ⟨w1, hw1⟩ : ∃ w1, w.alloc (.cells #[.int .u64 C1, .int .u64 C2] 51) = w1 := ⟨_, rfl⟩
  have x0 : w1.cell? ⟨w.heap.size, 0, none⟩ = some (.int .u64 C1) := by rw [← hw1]; simp [go_sem]
  have x1 : w1.cell? ⟨w.heap.size, 1, none⟩ = some (.int .u64 C2) := by rw [← hw1]; simp [go_sem]
  have hb1 : Below w.heap.size w w1 := by rw [← hw1]; exact (by repeat (first | exact Below.refl _ _ | assumption | refine Below.drew ?_ | refine Below.alloc ?_ (by first | exact Nat.le_refl _ | omega | (simp; done) | (simp; omega)) _ | refine Below.setCell ?_ (by first | exact Nat.le_refl _ | omega | (simp; done) | (simp; omega)) _))
  rw [hw1]
  clear hw1
  have HB1 := hid hb1
  have HX0 := hid x0
  have HX1 := hid x1
  clear hb1 x0 x1
  go_loopw [4] (fun i wr => ∃ (v : Nat) (F' X' : Nat → Value), 1 ≤ v ∧ v ≤ n + 1 ∧ i = .int .i64 v ∧ Sol 0 M mb F' V { s with X := X' } wr ∧ WgAt X' g b v ∧ SameX s.X X' ∧ Chg M mb (blk 0 F V) (blk 0 F' V) w1 wr ∧ (∀ j, j < 11 → F' j = F j) ∧ blk 0 F' V = blk 0 F V ∧ Df (fun q => q = M) w1 wr) (fun i _ => n + 1 - (intOf i).toNat)
  case atStart =>
    refine ⟨1, F, s.X, Nat.le_refl _, by omega, rfl, HS.out.below HB1.out, ⟨fun v hv => ?_, HW.out.gain⟩, fun _ _ => rfl, Chg.below (Below.refl _ _), fun _ _ => rfl, rfl, Df.refl _ _⟩
    obtain ⟨x, e, h1, h2⟩ := HW.out.wt v hv
    exact ⟨x, e, h1, by split <;> omega⟩
  case round =>
    obtain ⟨v, F', X', hv1, hv2, rfl, hs, hwg, hsame, hch, hF, hbl, hdf⟩ := hrel
    have HDf := hid hdf
    have HSr := hid hs
    have HWg := hid hwg
    have HSa := hid hsame
    have HCh := hid hch
    have HF := hid hF
    have HBk := hid hbl
    have c0 := hs.cell (i := 0) (by omega)
    rw [hs.f0] at c0
    replace c0 : wr.cell? ⟨M, 0, none⟩ = some (.int .i64 (n : Int)) := by rw [← HN.out]; exact c0
    have x0 := hch.cell (b := w.heap.size) (by omega) (by omega) (fun a e => HBl.out a e) HX0.out
    have x1 := hch.cell (b := w.heap.size) (by omega) (by omega) (fun a e => HBl.out a e) HX1.out
    clear hs hwg hsame hch hF hbl hdf
    by_cases hlt : v ≤ n
    · have hv40 : v ≤ 40 := by omega
      obtain ⟨x, ex, hx0, hx1⟩ := HWg.out.wt v hv40
      have HPut := hid (HWg.out.put hv40 hg.1 ex)
      have hxb : x ≤ 4611686018427387904 := by split at hx1 <;> omega
      go_wp2_with fail
      refine (has_impl (C1, C2) v _ HC.out (by omega) (by omega) (by omega)).mono ?_
      rintro e w2 ⟨rfl, hb2⟩
      have HS2 := hid (HSr.out.below hb2)
      have HC2 := hid (HCh.out.trans (Chg.below hb2))
      have HD2 := hid (HDf.out.trans ((Df.of_below hb2).mono (fun _ _ h => h.elim)))
      have e1 := keep hb2 x0
      have e2 := keep hb2 x1
      have e0 := keep hb2 c0
      clear hb2
      cases hm : mem (C1, C2) (v : Int) with
      | true =>
        have k1 := HS2.out.cell (i := 11 + v) (by omega)
        have k2 := HS2.out.cell (i := 52) (by omega)
        rw [HS2.out.fx (11 + v) (.inr (by omega))] at k1
        rw [HS2.out.fx 52 (.inr (by omega))] at k2
        replace k1 : w2.cell? ⟨M, 11 + v, none⟩ = some (.int .i64 x) := by rw [k1]; exact congrArg some ex
        replace k2 : w2.cell? ⟨M, 52, none⟩ = some (.int .i64 g) := by rw [k2]; exact congrArg some HWg.out.gain
        have kz := HS2.out.frozen (11 + v)
        go_wp2_with fail
        go_region
        obtain ⟨h3, h4⟩ := Sol.setX HS2.out (by omega) (show 11 ≤ 11 + v by omega) (.int .i64 (x + g))
        have HS3 := hid (h3.below ((Below.refl _ _).drew))
        have HC3 := hid ((HC2.out.trans h4).trans (Chg.below ((Below.refl _ _).drew)))
        have HD3 := hid (HD2.out.trans ((df_set w2 M (11 + v) (.int .i64 (x + g))).trans ((Df.of_below ((Below.refl _ _).drew)).mono (fun _ _ h => h.elim))))
        clear h3 h4 k1 k2 kz
        generalize (w2.setCell ⟨M, 11 + v, none⟩ (.int .i64 (x + g))).drew = w9 at *
        go_wp2
        go_roundw
        case rel => exact ⟨v + 1, _, _, by omega, by omega, by go_num, HS3.out, HPut.out, same_put HSa.out hv40 _, HC3.out, fun j hj => (show updX F' (11 + v) _ j = F j by unfold updX; rw [if_neg (by omega)]; exact HF.out j hj), (blk_X (by omega) _).trans HBk.out, HD3.out⟩
        case measure => simp [intOf]; omega
      | false =>
        go_wp2_with fail
        refine (has_impl (C1, C2) (-(v : Int)) _ HC.out (by omega) (by omega) (by omega)).mono ?_
        rintro e w4 ⟨rfl, hb4⟩
        have HS4 := hid (HS2.out.below hb4)
        have HC4 := hid (HC2.out.trans (Chg.below hb4))
        have HD4 := hid (HD2.out.trans ((Df.of_below hb4).mono (fun _ _ h => h.elim)))
        replace e0 := keep hb4 e0
        clear hb4
        cases hm2 : mem (C1, C2) (-(v : Int)) with
        | true =>
          have k1 := HS4.out.cell (i := 11 + v) (by omega)
          have k2 := HS4.out.cell (i := 52) (by omega)
          rw [HS4.out.fx (11 + v) (.inr (by omega))] at k1
          rw [HS4.out.fx 52 (.inr (by omega))] at k2
          replace k1 : w4.cell? ⟨M, 11 + v, none⟩ = some (.int .i64 x) := by rw [k1]; exact congrArg some ex
          replace k2 : w4.cell? ⟨M, 52, none⟩ = some (.int .i64 g) := by rw [k2]; exact congrArg some HWg.out.gain
          have kz := HS4.out.frozen (11 + v)
          go_wp2_with fail
          go_region
          obtain ⟨h3, h4⟩ := Sol.setX HS4.out (by omega) (show 11 ≤ 11 + v by omega) (.int .i64 (x + g))
          have HS3 := hid (h3.below ((Below.refl _ _).drew))
          have HC3 := hid ((HC4.out.trans h4).trans (Chg.below ((Below.refl _ _).drew)))
          have HD3 := hid (HD4.out.trans ((df_set w4 M (11 + v) (.int .i64 (x + g))).trans ((Df.of_below ((Below.refl _ _).drew)).mono (fun _ _ h => h.elim))))
          clear h3 h4 k1 k2 kz
          generalize (w4.setCell ⟨M, 11 + v, none⟩ (.int .i64 (x + g))).drew = w9 at *
          go_wp2
          go_roundw
          case rel => exact ⟨v + 1, _, _, by omega, by omega, by go_num, HS3.out, HPut.out, same_put HSa.out hv40 _, HC3.out, fun j hj => (show updX F' (11 + v) _ j = F j by unfold updX; rw [if_neg (by omega)]; exact HF.out j hj), (blk_X (by omega) _).trans HBk.out, HD3.out⟩
          case measure => simp [intOf]; omega
        | false =>
          go_wp2
          go_roundw
          case rel => exact ⟨v + 1, _, _, by omega, by omega, by go_num, HS4.out, HWg.out.next hg.1, HSa.out, HC4.out, HF.out, HBk.out, HD4.out⟩
          case measure => simp [intOf]; omega
    · have e : v = n + 1 := by omega
      subst e
      have hlt' : ¬ ((n : Int) + 1 ≤ n) := by omega
      go_wp2
      go_end0
      refine ⟨rfl, F', X', HSr.out, ⟨fun v hv => ?_, HWg.out.gain⟩, HSa.out, (Chg.below HB1.out).trans HCh.out, HF.out, ((Df.of_below HB1.out).mono (fun _ _ h => h.elim)).trans HDf.out⟩
      obtain ⟨x, e, h1, h2⟩ := HWg.out.wt v hv
      exact ⟨x, e, h1, by split at h2 <;> omega⟩
end Go.Proofs.YtbahjpheaaiamaaDoor.solX

/- A region that draws its order, by an invariant over what has been done; conditions: none. -/
namespace Go.Proofs.YtbahjpheaaiamaaDoor.drawnFree
open Go Go.RowKit base heldStore drawn drawnLin drawnSrc drawnMk
set_option linter.unusedVariables false
variable {P : Program} {ops : Array Oper} {Q : Exit → Act → World → Prop}

theorem region_free {id : Nat} {a : Act} {w : World} (A : (Nat → Value) → Act) (s : Nat → Option Nat) (Inv : (Nat → Bool) → (Nat → Value) → World → Prop) (n : Nat) (u0 : Nat → Value) (ha : a = A u0)
    (hm : P.follows .mixedOrders = true) (hz : ops.size = n) (hup : upC ops = true) (hS : Inv (fun _ => false) u0 w.drew)
    (hput : ∀ i, i < n → ∀ u v, (A u).put (s i) v = A (updO u (s i) v))
    (step : ∀ i, i < n → ∀ L u w, L i = false → (∀ j, Region.waitsFor .any ops i j = true → L j = true) → Inv L u w → ∃ o, ops[i]? = some o ∧ ∀ K' : Act → World → Prop, Shut (∀ v w', Inv (come L i) (updO u (s i) v) w' → K' ((A u).put (s i) v) w') → if Region.wanted o (yielded ops (A u).tmps) = true then Oper.wp P o (A u) w K' Q else K' ((A u).put o.dst undef) w)
    (fin : ∀ L u w, (∀ j, j < n → L j = true) → Inv L u w → Q .normal (A u) w) :
    (Code.region id ops true).wp P Q a w := by
  subst ha
  refine wp_region_any hm ?_
  rw [hz]
  refine any_free (Inv := Inv) hz hup hput ?_ ?_ _ _ _ _ ?_ (by simp) ?_
  · exact step
  · exact fin
  · simp [falses_replicate]
  · have : (fun j => (Array.replicate n false).getD j false) = fun _ => false := by funext j; exact getD_replicate_false _ _
    rw [this]
    exact hS
end Go.Proofs.YtbahjpheaaiamaaDoor.drawnFree

/- A region that draws its order: each value is used once, operations may write the blocks of the values that they use, and the last one, behind them all, has no value; conditions: none. -/
namespace Go.Proofs.YtbahjpheaaiamaaDoor.drawnEnd
open Go Go.RowKit base heldStore drawn drawnLin drawnSrc drawnMk drawnFree
set_option linter.unusedVariables false
variable {P : Program} {ops : Array Oper} {Q : Exit → Act → World → Prop}

/-- Each of the first n operations is used by one later one (con); what is told of its value (φ) hangs on old memory and on some blocks (fp), and an operation may change the blocks of the values that it uses, and make new ones. The n-th operation, the last, may write whatever. -/
theorem region_end {id : Nat} {a : Act} {w : World} (A : (Nat → Value) → Act) (s : Nat → Nat) (φ : Nat → Value → World → Prop) (fp : Nat → Value → World → Nat → Prop) (W : World) (n : Nat) (con : List Nat) (u0 : Nat → Value) (ha : a = A u0)
    (hm : P.follows .mixedOrders = true) (hz : ops.size = n + 1) (hup : upC ops = true) (hch : chainB ops con n = true) (hW : Below W.heap.size W w)
    (hput : ∀ i, i < n → ∀ u v, (A u).put (some (s i)) v = A (upd u (s i) v)) (hputN : ∀ u v, (A u).put none v = A u) (hinj : ∀ i j, i < n → j < n → s i = s j → i = j)
    (stable : ∀ i v w w', Below W.heap.size w w' → (∀ k, fp i v w k → k < w.heap.size ∧ w'.heap[k]? = w.heap[k]?) → φ i v w → φ i v w' ∧ ∀ k, fp i v w' k → fp i v w k)
    (step : ∀ i, i < n → ∀ u w, Below W.heap.size W w → (∀ j, con.getD j 0 = i → j < i → φ j (u (s j)) w ∧ ∀ k, fp j (u (s j)) w k → W.heap.size ≤ k ∧ k < w.heap.size) → ∃ o, ops[i]? = some o ∧ ∀ K' : Act → World → Prop, Shut (∀ v w', Chg (fun k => ∃ j, con.getD j 0 = i ∧ j < i ∧ fp j (u (s j)) w k) w w' → φ i v w' → (∀ k, fp i v w' k → k < w'.heap.size ∧ ((∃ j, con.getD j 0 = i ∧ j < i ∧ fp j (u (s j)) w k) ∨ w.heap.size ≤ k)) → K' ((A u).put (some (s i)) v) w') → if Region.wanted o (yielded ops (A u).tmps) = true then Oper.wp P o (A u) w K' Q else K' ((A u).put o.dst undef) w)
    (last : ∀ u w, Below W.heap.size W w → (∀ j, con.getD j 0 = n → j < n → φ j (u (s j)) w ∧ ∀ k, fp j (u (s j)) w k → W.heap.size ≤ k ∧ k < w.heap.size) → ∃ o, ops[n]? = some o ∧ ∀ K' : Act → World → Prop, Shut (∀ v w', Q .normal (A u) w' → K' ((A u).put none v) w') → if Region.wanted o (yielded ops (A u).tmps) = true then Oper.wp P o (A u) w K' Q else K' ((A u).put o.dst undef) w) :
    (Code.region id ops true).wp P Q a w := by
  have hcon : ∀ j, j < n → j < con.getD j 0 ∧ con.getD j 0 ≤ n ∧ Region.waitsFor .any ops (con.getD j 0) j = true := fun j hj => by
    have h3 := List.all_eq_true.1 hch j (List.mem_range.2 hj)
    simp only [Bool.and_eq_true, decide_eq_true_eq] at h3
    exact ⟨h3.1.1, h3.1.2, h3.2⟩
  refine region_free A (fun i => if i < n then some (s i) else none) (fun L u w => (∀ j k, L j = true → Region.waitsFor .any ops j k = true → L k = true) ∧ (L n = true → Q .normal (A u) w) ∧ (L n = false → Below W.heap.size W w ∧ (∀ j, j < n → L j = true → L (con.getD j 0) = false → φ j (u (s j)) w ∧ ∀ k, fp j (u (s j)) w k → W.heap.size ≤ k ∧ k < w.heap.size) ∧ ∀ j j', j < n → j' < n → j ≠ j' → L j = true → L (con.getD j 0) = false → L j' = true → L (con.getD j' 0) = false → ∀ k, fp j (u (s j)) w k → ¬ fp j' (u (s j')) w k)) (n + 1) u0 ha hm hz hup ⟨fun j k h => (by cases h), fun h => (by cases h), fun _ => ⟨hW.drew, fun j _ h => (by cases h), fun j j' _ _ _ h => (by cases h)⟩⟩ ?_ ?_ ?_
  · intro i hi u v
    by_cases h : i < n
    · simp only [if_pos h]; exact hput i h u v
    · simp only [if_neg h]; exact hputN u v
  · intro i hi L u w8 hLi hwait hI
    obtain ⟨hcl, hdone, hopen⟩ := hI
    have hcl' : ∀ j k, come L i j = true → Region.waitsFor .any ops j k = true → come L i k = true := by
      intro j k hj hw
      by_cases e : j = i
      · subst e; exact come_old (hwait k hw)
      · rw [come_ne e] at hj
        exact come_old (hcl j k hj hw)
    have hLn : L n = false := by
      by_cases hin : i < n
      · cases hb : L n with
        | false => rfl
        | true => rw [chain_all hch hcl hb (n - i) i (Nat.le_refl _) hin] at hLi; cases hLi
      · have e : i = n := by omega
        rw [← e]; exact hLi
    obtain ⟨hS8, hφ, hdis⟩ := hopen hLn
    have used : ∀ j, con.getD j 0 = i → j < i → L j = true := fun j hj hji => hwait j (by
      have := (hcon j (by omega)).2.2
      rw [hj] at this
      exact this)
    by_cases hin : i < n
    · simp only [if_pos hin]
      obtain ⟨o, ho, h⟩ := step i hin u w8 hS8 (fun j hj hji => hφ j (by omega) (used j hj hji) (by rw [hj]; exact hLi))
      refine ⟨o, ho, fun K' hK => h K' fun v w' hc hv hf => hK.out v w' ⟨hcl', fun h1 => ?_, fun _ => ?_⟩⟩
      · rw [come_ne (by omega), hLn] at h1; cases h1
      · rw [show updO u (some (s i)) v = upd u (s i) v from rfl]
        have hXW : ∀ k, (∃ j, con.getD j 0 = i ∧ j < i ∧ fp j (u (s j)) w8 k) → W.heap.size ≤ k := fun k hk => by
          obtain ⟨j, hj, hji, hk⟩ := hk
          exact ((hφ j (by omega) (used j hj hji) (by rw [hj]; exact hLi)).2 k hk).1
        have hb : Below W.heap.size w8 w' := ⟨hc.os, hc.tape, hc.output, hc.size, fun k hk => hc.block k (Nat.lt_of_lt_of_le hk hS8.size) (fun hx => by have := hXW k hx; omega)⟩
        -- an older operation that is still to be used
        have alive : ∀ j, j < n → j ≠ i → come L i j = true → come L i (con.getD j 0) = false → L j = true ∧ L (con.getD j 0) = false ∧ con.getD j 0 ≠ i := fun j hj e h1 h2 => by
          rw [come_ne e] at h1
          have h3 : con.getD j 0 ≠ i := fun e' => by rw [e', come_same] at h2; cases h2
          rw [come_ne h3] at h2
          exact ⟨h1, h2, h3⟩
        have apart : ∀ j, j < n → L j = true → L (con.getD j 0) = false → con.getD j 0 ≠ i → ∀ k, fp j (u (s j)) w8 k → ¬ ∃ j', con.getD j' 0 = i ∧ j' < i ∧ fp j' (u (s j')) w8 k := fun j hj h1 h2 h3 k hk hx => by
          obtain ⟨j', hj', hji, hk'⟩ := hx
          exact hdis j j' hj (by omega) (fun e => h3 (by rw [e]; exact hj')) h1 h2 (used j' hj' hji) (by rw [hj']; exact hLi) k hk hk'
        have sub : ∀ j, j < n → L j = true → L (con.getD j 0) = false → con.getD j 0 ≠ i → ∀ k, fp j (u (s j)) w' k → fp j (u (s j)) w8 k := fun j hj h1 h2 h3 => by
          obtain ⟨hp, hk⟩ := hφ j hj h1 h2
          exact (stable j _ _ _ hb (fun k hk' => ⟨(hk k hk').2, hc.block k (hk k hk').2 (apart j hj h1 h2 h3 k hk')⟩) hp).2
        refine ⟨hS8.trans hb, fun j hj h1 h2 => ?_, fun j j' hj hj' hne h1 h2 h1' h2' k hk => ?_⟩
        · by_cases e : j = i
          · subst e
            rw [upd_same]
            refine ⟨hv, fun k hk => ⟨?_, (hf k hk).1⟩⟩
            rcases (hf k hk).2 with hx | hx
            · exact hXW k hx
            · exact Nat.le_trans hS8.size hx
          · obtain ⟨h1, h2, h3⟩ := alive j hj e h1 h2
            rw [upd_ne _ _ (fun e' => e (hinj j i (by omega) hin e'))]
            obtain ⟨hp, hk⟩ := hφ j hj h1 h2
            obtain ⟨hp', hsub⟩ := stable j _ _ _ hb (fun k hk' => ⟨(hk k hk').2, hc.block k (hk k hk').2 (apart j hj h1 h2 h3 k hk')⟩) hp
            exact ⟨hp', fun k hk' => ⟨(hk k (hsub k hk')).1, Nat.lt_of_lt_of_le (hk k (hsub k hk')).2 hc.size⟩⟩
        · by_cases e : j = i
          · subst e
            have e' : j' ≠ j := fun e => hne e.symm
            obtain ⟨h1', h2', h3'⟩ := alive j' hj' e' h1' h2'
            rw [upd_same] at hk
            rw [upd_ne _ _ (fun e'' => e' (hinj j' j (by omega) hin e''))]
            intro hk'
            have hk' := sub j' hj' h1' h2' h3' k hk'
            rcases (hf k hk).2 with hx | hx
            · exact apart j' hj' h1' h2' h3' k hk' hx
            · have := ((hφ j' hj' h1' h2').2 k hk').2
              omega
          · obtain ⟨g1, g2, g3⟩ := alive j hj e h1 h2
            rw [upd_ne _ _ (fun e'' => e (hinj j i (by omega) hin e''))] at hk
            have hk := sub j hj g1 g2 g3 k hk
            by_cases e' : j' = i
            · subst e'
              rw [upd_same]
              intro hk'
              rcases (hf k hk').2 with hx | hx
              · exact apart j hj g1 g2 g3 k hk hx
              · have := ((hφ j hj g1 g2).2 k hk).2
                omega
            · obtain ⟨h1', h2', h3'⟩ := alive j' hj' e' h1' h2'
              rw [upd_ne _ _ (fun e'' => e' (hinj j' i (by omega) hin e''))]
              exact fun hk' => hdis j j' hj hj' hne g1 g2 h1' h2' k hk (sub j' hj' h1' h2' h3' k hk')
    · have e : i = n := by omega
      subst e
      simp only [if_neg hin]
      obtain ⟨o, ho, h⟩ := last u w8 hS8 (fun j hj hji => hφ j hji (used j hj hji) (by rw [hj]; exact hLi))
      refine ⟨o, ho, fun K' hK => h K' fun v w' hq => hK.out v w' ⟨hcl', fun _ => hq, fun h1 => ?_⟩⟩
      rw [come_same] at h1; cases h1
  · intro L u w8 hall hI
    exact hI.2.1 (hall n (by omega))
end Go.Proofs.YtbahjpheaaiamaaDoor.drawnEnd
