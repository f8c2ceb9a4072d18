/- SolX; RangeNo: one text, so that the claim has fewer files. -/
import Derived.Test.YtbahjpheaaiamaaDoorPart8
import Derived.Test.YtbahjpheaaiamaaDoorRangeTwo
import Derived.BigRegion
/- A solver of the program: weights of variables, what a failure adds to them; the cells that propagation doesn't touch; conditions: none. -/
namespace Go.Proofs.YtbahjpheaaiamaaDoor.solX
open Go.RowKit Go.Deep Go.Maps Go base sets setsOf solSets solOps solMath solHold solMem solFail rangeTwo
set_option linter.unusedVariables false
set_option linter.unusedSimpArgs false

def updX (X : Nat → Value) (j : Nat) (v : Value) : Nat → Value := fun i => if i = j then v else X i
section
variable {z : Int} {M mb : Nat} {F : Nat → Value} {V : Int → Value} {s : Sv} {w : World}
theorem valA_X {j : Nat} (hj : 11 ≤ j) (v : Value) (a : Int) : valA (updX F j v) V a = valA F V a := by
  unfold valA updX
  rw [if_neg (show (2 : Nat) ≠ j by omega), if_neg (show (3 : Nat) ≠ j by omega), if_neg (show (7 : Nat) ≠ j by omega), if_neg (show (8 : Nat) ≠ j by omega), if_neg (show (9 : Nat) ≠ j by omega)]
theorem blk_X {j : Nat} (hj : 11 ≤ j) (v : Value) : blk z (updX F j v) V = blk z F V := by
  funext a
  unfold blk
  rw [valA_X hj]
theorem Sol.setX (h : Sol z M mb F V s w) (hz : z ≤ 40) {j : Nat} (hj : 11 ≤ j) (v : Value) :
    Sol z M mb (updX F j v) V { s with X := updX s.X j v } (w.setCell ⟨M, j, none⟩ v) ∧ Chg M mb (blk z F V) (blk z (updX F j v) V) w (w.setCell ⟨M, j, none⟩ v) := by
  obtain ⟨e1, e2, e3, e4⟩ := setCell_os w ⟨M, j, none⟩ v
  have hn : ∀ i, i < 11 → updX F j v i = F i := fun i hi => by unfold updX; rw [if_neg (by omega)]
  exact Sol.cellsM h hz (World.rowIs.set h.cells j _) (by rw [hn 0 (by omega)]; exact h.f0) (by rw [hn 4 (by omega)]; exact h.f4) (by rw [hn 5 (by omega)]; exact h.f5) (by rw [hn 6 (by omega)]; exact h.f6) (by rw [hn 10 (by omega)]; exact h.f10)
    (fun i hi => by show updX F j v i = updX s.X j v i; unfold updX; split; rfl; exact h.fx i hi) (fun a => ⟨valA_X hj v a, fun v w hr => hr⟩) (fun i hi => Below.heap_setCell _ _ _ _ (by simpa using hi)) e1 e2 e3 (by omega)
end
theorem df_set (w : World) (M j : Nat) (v : Value) : Df (fun q => q = M) w (w.setCell ⟨M, j, none⟩ v) := ⟨(setCell_os w ⟨M, j, none⟩ v).1, (setCell_os w ⟨M, j, none⟩ v).2.1, (setCell_os w ⟨M, j, none⟩ v).2.2.1, Nat.le_of_eq (setCell_os w ⟨M, j, none⟩ v).2.2.2.symm, fun q _ hx => Below.heap_setCell _ _ _ _ (by simpa using hx)⟩
/-- Weights are never negative, at most b; a failure adds g. -/
structure Wg (X : Nat → Value) (g b : Int) : Prop where
  wt : ∀ v, v ≤ 40 → ∃ x : Int, X (11 + v) = .int .i64 x ∧ 0 ≤ x ∧ x ≤ b
  gain : X 52 = .int .i64 g
def SameX (X X' : Nat → Value) : Prop := ∀ j, (j < 11 ∨ 51 < j) → X' j = X j
/-- Weights on the way: those of the variables ahead of k have grown. -/
structure WgAt (X : Nat → Value) (g b : Int) (k : Nat) : Prop where
  wt : ∀ v, v ≤ 40 → ∃ x : Int, X (11 + v) = .int .i64 x ∧ 0 ≤ x ∧ x ≤ if v < k then b + g else b
  gain : X 52 = .int .i64 g
theorem WgAt.next {X : Nat → Value} {g b : Int} {k : Nat} (h : WgAt X g b k) (hg : 0 ≤ g) : WgAt X g b (k + 1) := ⟨fun v hv => by
  obtain ⟨x, e, h1, h2⟩ := h.wt v hv
  refine ⟨x, e, h1, ?_⟩
  split at h2 <;> split <;> omega, h.gain⟩
theorem WgAt.put {X : Nat → Value} {g b x : Int} {k : Nat} (h : WgAt X g b k) (hk : k ≤ 40) (hg : 0 ≤ g) (hx : X (11 + k) = .int .i64 x) : WgAt (updX X (11 + k) (.int .i64 (x + g))) g b (k + 1) := ⟨fun v hv => by
  unfold updX
  by_cases e : v = k
  · subst e
    obtain ⟨y, e1, h1, h2⟩ := h.wt v hv
    rw [hx] at e1
    have e2 : x = y := by injection e1
    subst e2
    refine ⟨x + g, by rw [if_pos rfl], by omega, ?_⟩
    rw [if_neg (Nat.lt_irrefl _)] at h2
    rw [if_pos (by omega)]
    omega
  · obtain ⟨y, e1, h1, h2⟩ := h.wt v hv
    refine ⟨y, by rw [if_neg (by omega)]; exact e1, h1, ?_⟩
    split at h2 <;> split <;> omega, by unfold updX; rw [if_neg (by omega)]; exact h.gain⟩
theorem same_put {X X' : Nat → Value} (h : SameX X X') {k : Nat} (hk : k ≤ 40) (v : Value) : SameX X (updX X' (11 + k) v) := fun j hj => by
  unfold updX
  rw [if_neg (by omega)]
  exact h j hj
set_option maxHeartbeats 3200000 in
theorem weigh_impl (M mb : Nat) (F : Nat → Value) (V : Int → Value) (s : Sv) (w : World) (h : Sol 0 M mb F V s w) (n : Nat) (hn : s.n = n) (hn40 : n ≤ 40) (C1 C2 : Nat) (hc : Wf (C1, C2)) (g b : Int) (hg : 0 ≤ g ∧ g ≤ 2305843009213693952) (hb : 0 ≤ b ∧ b ≤ 2305843009213693952) (hw : Wg s.X g b) :
    Calls Tryd.prog 69 #[.pointer (some ⟨M, 0, none⟩), .agg #[.int .u64 C1, .int .u64 C2]] w fun e w' => e = .returned (.tuple #[]) ∧ ∃ F' X', Sol 0 M mb F' V { s with X := X' } w' ∧ Wg X' g (b + g) ∧ SameX s.X X' ∧ Chg M mb (blk 0 F V) (blk 0 F' V) w w' ∧ (∀ j, j < 11 → F' j = F j) ∧ Df (fun q => q = M) w w' := by
  have HS := hid h
  have HW := hid hw
  have HC := hid hc
  have HN := hid hn
  clear h hw hc hn
  have hM := HS.out.lt.1
  have hMb := HS.out.lt.2
  have HBl := hid (fun a (e : blk 0 F V a = some w.heap.size) => Nat.lt_irrefl _ (HS.out.blt e))
  go_enter Tryd.func69, Tryd.ntmps69
  go_wp2
  obtain ⟨w1, hw1⟩ : ∃ w1, w.alloc (.cells #[.int .u64 C1, .int .u64 C2] 51) = w1 := ⟨_, rfl⟩
  have x0 : w1.cell? ⟨w.heap.size, 0, none⟩ = some (.int .u64 C1) := by rw [← hw1]; simp [go_sem]
  have x1 : w1.cell? ⟨w.heap.size, 1, none⟩ = some (.int .u64 C2) := by rw [← hw1]; simp [go_sem]
  have hb1 : Below w.heap.size w w1 := by rw [← hw1]; exact (by repeat (first | exact Below.refl _ _ | assumption | refine Below.drew ?_ | refine Below.alloc ?_ (by first | exact Nat.le_refl _ | omega | (simp; done) | (simp; omega)) _ | refine Below.setCell ?_ (by first | exact Nat.le_refl _ | omega | (simp; done) | (simp; omega)) _))
  rw [hw1]
  clear hw1
  have HB1 := hid hb1
  have HX0 := hid x0
  have HX1 := hid x1
  clear hb1 x0 x1
  go_loopw [4] (fun i wr => ∃ (v : Nat) (F' X' : Nat → Value), 1 ≤ v ∧ v ≤ n + 1 ∧ i = .int .i64 v ∧ Sol 0 M mb F' V { s with X := X' } wr ∧ WgAt X' g b v ∧ SameX s.X X' ∧ Chg M mb (blk 0 F V) (blk 0 F' V) w1 wr ∧ (∀ j, j < 11 → F' j = F j) ∧ blk 0 F' V = blk 0 F V ∧ Df (fun q => q = M) w1 wr) (fun i _ => n + 1 - (intOf i).toNat)
  case atStart =>
    refine ⟨1, F, s.X, Nat.le_refl _, by omega, rfl, HS.out.below HB1.out, ⟨fun v hv => ?_, HW.out.gain⟩, fun _ _ => rfl, Chg.below (Below.refl _ _), fun _ _ => rfl, rfl, Df.refl _ _⟩
    obtain ⟨x, e, h1, h2⟩ := HW.out.wt v hv
    exact ⟨x, e, h1, by split <;> omega⟩
  case round =>
    obtain ⟨v, F', X', hv1, hv2, rfl, hs, hwg, hsame, hch, hF, hbl, hdf⟩ := hrel
    have HDf := hid hdf
    have HSr := hid hs
    have HWg := hid hwg
    have HSa := hid hsame
    have HCh := hid hch
    have HF := hid hF
    have HBk := hid hbl
    have c0 := hs.cell (i := 0) (by omega)
    rw [hs.f0] at c0
    replace c0 : wr.cell? ⟨M, 0, none⟩ = some (.int .i64 (n : Int)) := by rw [← HN.out]; exact c0
    have x0 := hch.cell (b := w.heap.size) (by omega) (by omega) (fun a e => HBl.out a e) HX0.out
    have x1 := hch.cell (b := w.heap.size) (by omega) (by omega) (fun a e => HBl.out a e) HX1.out
    clear hs hwg hsame hch hF hbl hdf
    by_cases hlt : v ≤ n
    · have hv40 : v ≤ 40 := by omega
      obtain ⟨x, ex, hx0, hx1⟩ := HWg.out.wt v hv40
      have HPut := hid (HWg.out.put hv40 hg.1 ex)
      have hxb : x ≤ 4611686018427387904 := by split at hx1 <;> omega
      go_wp2_with fail
      refine (has_impl (C1, C2) v _ HC.out (by omega) (by omega) (by omega)).mono ?_
      rintro e w2 ⟨rfl, hb2⟩
      have HS2 := hid (HSr.out.below hb2)
      have HC2 := hid (HCh.out.trans (Chg.below hb2))
      have HD2 := hid (HDf.out.trans ((Df.of_below hb2).mono (fun _ _ h => h.elim)))
      have e1 := keep hb2 x0
      have e2 := keep hb2 x1
      have e0 := keep hb2 c0
      clear hb2
      cases hm : mem (C1, C2) (v : Int) with
      | true =>
        have k1 := HS2.out.cell (i := 11 + v) (by omega)
        have k2 := HS2.out.cell (i := 52) (by omega)
        rw [HS2.out.fx (11 + v) (.inr (by omega))] at k1
        rw [HS2.out.fx 52 (.inr (by omega))] at k2
        replace k1 : w2.cell? ⟨M, 11 + v, none⟩ = some (.int .i64 x) := by rw [k1]; exact congrArg some ex
        replace k2 : w2.cell? ⟨M, 52, none⟩ = some (.int .i64 g) := by rw [k2]; exact congrArg some HWg.out.gain
        have kz := HS2.out.frozen (11 + v)
        go_wp2_with fail
        go_region
        obtain ⟨h3, h4⟩ := Sol.setX HS2.out (by omega) (show 11 ≤ 11 + v by omega) (.int .i64 (x + g))
        have HS3 := hid (h3.below ((Below.refl _ _).drew))
        have HC3 := hid ((HC2.out.trans h4).trans (Chg.below ((Below.refl _ _).drew)))
        have HD3 := hid (HD2.out.trans ((df_set w2 M (11 + v) (.int .i64 (x + g))).trans ((Df.of_below ((Below.refl _ _).drew)).mono (fun _ _ h => h.elim))))
        clear h3 h4 k1 k2 kz
        generalize (w2.setCell ⟨M, 11 + v, none⟩ (.int .i64 (x + g))).drew = w9 at *
        go_wp2
        go_roundw
        case rel => exact ⟨v + 1, _, _, by omega, by omega, by go_num, HS3.out, HPut.out, same_put HSa.out hv40 _, HC3.out, fun j hj => (show updX F' (11 + v) _ j = F j by unfold updX; rw [if_neg (by omega)]; exact HF.out j hj), (blk_X (by omega) _).trans HBk.out, HD3.out⟩
        case measure => simp [intOf]; omega
      | false =>
        go_wp2_with fail
        refine (has_impl (C1, C2) (-(v : Int)) _ HC.out (by omega) (by omega) (by omega)).mono ?_
        rintro e w4 ⟨rfl, hb4⟩
        have HS4 := hid (HS2.out.below hb4)
        have HC4 := hid (HC2.out.trans (Chg.below hb4))
        have HD4 := hid (HD2.out.trans ((Df.of_below hb4).mono (fun _ _ h => h.elim)))
        replace e0 := keep hb4 e0
        clear hb4
        cases hm2 : mem (C1, C2) (-(v : Int)) with
        | true =>
          have k1 := HS4.out.cell (i := 11 + v) (by omega)
          have k2 := HS4.out.cell (i := 52) (by omega)
          rw [HS4.out.fx (11 + v) (.inr (by omega))] at k1
          rw [HS4.out.fx 52 (.inr (by omega))] at k2
          replace k1 : w4.cell? ⟨M, 11 + v, none⟩ = some (.int .i64 x) := by rw [k1]; exact congrArg some ex
          replace k2 : w4.cell? ⟨M, 52, none⟩ = some (.int .i64 g) := by rw [k2]; exact congrArg some HWg.out.gain
          have kz := HS4.out.frozen (11 + v)
          go_wp2_with fail
          go_region
          obtain ⟨h3, h4⟩ := Sol.setX HS4.out (by omega) (show 11 ≤ 11 + v by omega) (.int .i64 (x + g))
          have HS3 := hid (h3.below ((Below.refl _ _).drew))
          have HC3 := hid ((HC4.out.trans h4).trans (Chg.below ((Below.refl _ _).drew)))
          have HD3 := hid (HD4.out.trans ((df_set w4 M (11 + v) (.int .i64 (x + g))).trans ((Df.of_below ((Below.refl _ _).drew)).mono (fun _ _ h => h.elim))))
          clear h3 h4 k1 k2 kz
          generalize (w4.setCell ⟨M, 11 + v, none⟩ (.int .i64 (x + g))).drew = w9 at *
          go_wp2
          go_roundw
          case rel => exact ⟨v + 1, _, _, by omega, by omega, by go_num, HS3.out, HPut.out, same_put HSa.out hv40 _, HC3.out, fun j hj => (show updX F' (11 + v) _ j = F j by unfold updX; rw [if_neg (by omega)]; exact HF.out j hj), (blk_X (by omega) _).trans HBk.out, HD3.out⟩
          case measure => simp [intOf]; omega
        | false =>
          go_wp2
          go_roundw
          case rel => exact ⟨v + 1, _, _, by omega, by omega, by go_num, HS4.out, HWg.out.next hg.1, HSa.out, HC4.out, HF.out, HBk.out, HD4.out⟩
          case measure => simp [intOf]; omega
    · have e : v = n + 1 := by omega
      subst e
      have hlt' : ¬ ((n : Int) + 1 ≤ n) := by omega
      go_wp2
      go_end0
      refine ⟨rfl, F', X', HSr.out, ⟨fun v hv => ?_, HWg.out.gain⟩, HSa.out, (Chg.below HB1.out).trans HCh.out, HF.out, ((Df.of_below HB1.out).mono (fun _ _ h => h.elim)).trans HDf.out⟩
      obtain ⟨x, e, h1, h2⟩ := HWg.out.wt v hv
      exact ⟨x, e, h1, by split at h2 <;> omega⟩
end Go.Proofs.YtbahjpheaaiamaaDoor.solX

/- A range over a function that may be left early, over an iterator that writes nothing; of no program; conditions: what the body leaves as it was. -/
namespace Go.Proofs.YtbahjpheaaiamaaDoor.rangeNo
open Go.RowKit Go.Shelf Go rangeAt rangeTwo
set_option linter.unusedVariables false

/-- What an iterator does that writes nothing: it hands out items (At), asks that a round keeps Kp, and stops where yield says so. -/
def SeqNo {α : Type} (P : Program) (g : Nat) (lb : Array Value) (encs : α → Array Value) (At : List α → α → Prop) (Kp : World → World → Prop) (S : List α → Prop) (Start : World → Prop) : Prop :=
  ∀ (l : Nat) (J : List α → World → Prop) (Jx : World → Prop) (W : World), Start W →
    (∀ pre x W1, J pre W1 → At pre x → YieldAt Fence.wide 9 P l (encs x) W1 fun e W' => (e = .returned (.bool true) ∧ J (pre ++ [x]) W' ∧ Kp W1 W') ∨ (e = .returned (.bool false) ∧ Jx W')) →
    J [] W →
    CallsIn Fence.wide 9 P g (#[.func (.yield l) #[] #[]] ++ lb) W fun e W' => (∃ v, e = .returned v) ∧ ((∃ xs, S xs ∧ J xs W') ∨ Jx W')

section law
variable {α : Type} {P : Program} {ps : Array Tmp} {assign body : Code} {gf : Nat} {lb : Array Value} {encs : α → Array Value} {At : List α → α → Prop} {Kp : World → World → Prop} {S : List α → Prop} {Start : World → Prop}

end law
end Go.Proofs.YtbahjpheaaiamaaDoor.rangeNo
