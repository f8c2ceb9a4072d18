/- SolHang; RangeAt: one text, so that the claim has fewer files. -/
import Derived.Test.YtbahjpheaaiamaaDoorPart18
import Derived.Test.YtbahjpheaaiamaaDoorPart19
import Derived.BigRegion
import Derived.RangeFuncNested
import Derived.RangeFuncBound
import Derived.RangeFuncCalls
import Derived.RangeFuncLeaves
import Derived.Shelf.Abstract
/- A solver of the program: whether a literal of a clause became false by the choice of a level (hangsOn); conditions: a level that has been chosen. -/
namespace Go.Proofs.YtbahjpheaaiamaaDoor.solHang
open Go.RowKit Go.Deep Go.Maps Go base sets setsOf solSets solOps solMath solHold solMem solFail solBackI solTrail cdLes solPush
set_option linter.unusedVariables false
set_option linter.unusedSimpArgs false

theorem choice_at {M mb : Nat} {F : Nat → Value} {V : Int → Value} {s : Sv} {w : World} (h : Sol 0 M mb F V s w) {ka : Option Addr} {kl kc : Nat} (hF : F 8 = .slice ka kl kc) {i : Nat} (hi : i < s.K.length) :
    ∃ g, ka = some ⟨g, 0, none⟩ ∧ w.cell? ⟨g, i, none⟩ = some (.int .i64 (s.K[i]?.getD 0 : Nat)) ∧ kl = s.K.length ∧ kl ≤ kc ∧ kc ≤ maxLen := by
  have hr : w.ownsRow 0 3 1 (F 8) s.K.length (intsN s.K) := h.rows 1004 (by omega)
  rw [hF] at hr
  obtain ⟨h1, h2⟩ := hr
  rcases h2 with ⟨e, e2⟩ | ⟨g, c, cur, e, hg, hh, hn, hm, hsz, ht⟩
  · omega
  · injection e with e3 e4 e5
    refine ⟨g, e3, ?_, e4, by omega, by rw [e5]; exact hm⟩
    have e6 : (cur.toList.take (s.K.length * 1))[i]? = some (.int .i64 (s.K[i]?.getD 0 : Nat)) := by
      rw [ht]
      unfold intsN
      rw [List.getElem?_map, List.getElem?_eq_getElem hi]
      simp
    rw [List.getElem?_take, if_pos (by omega), Array.getElem?_toList] at e6
    simp [World.cell?, hh, e6]
theorem own_formH {B n : Nat} {w : World} {v : Value} {t : TypeId} {s : Nat} {xs : List Value} (h : w.ownsRow B t s v n xs) : ∃ a c, v = .slice a n c := by
  rcases h.2 with ⟨e, e2⟩ | ⟨g, c, cur, e, _⟩
  · exact ⟨none, 0, by rw [e, e2]⟩
  · exact ⟨_, c, e⟩
theorem trail_form {M mb : Nat} {F : Nat → Value} {V : Int → Value} {s : Sv} {w : World} (h : Sol 0 M mb F V s w) : ∃ ta tc, F 7 = .slice ta s.T.length tc ∧ s.T.length ≤ tc ∧ tc ≤ maxLen := by
  have hr : w.ownsRow 0 87 2 (F 7) s.T.length (flatP s.T) := h.rows 1003 (by omega)
  obtain ⟨ta, tc, e⟩ := own_formH hr
  rw [e] at hr
  obtain ⟨h1, h2⟩ := row_fits hr
  exact ⟨ta, tc, e, h1, h2⟩
theorem choice_form {M mb : Nat} {F : Nat → Value} {V : Int → Value} {s : Sv} {w : World} (h : Sol 0 M mb F V s w) : ∃ ka kc, F 8 = .slice ka s.K.length kc ∧ s.K.length ≤ kc ∧ kc ≤ maxLen := by
  have hr : w.ownsRow 0 3 1 (F 8) s.K.length (intsN s.K) := h.rows 1004 (by omega)
  obtain ⟨ta, tc, e⟩ := own_formH hr
  rw [e] at hr
  obtain ⟨h1, h2⟩ := row_fits hr
  exact ⟨ta, tc, e, h1, h2⟩
set_option maxHeartbeats 3200000 in
theorem hangs_impl (M mb : Nat) (F : Nat → Value) (V : Int → Value) (s : Sv) (w : World) (h : Sol 0 M mb F V s w) (lv : Nat) (h1 : 1 ≤ lv) (hl : lv < s.K.length) (hinc : s.K[lv - 1]?.getD 0 < s.K[lv]?.getD 0) (hlt : s.K[lv]?.getD 0 < s.T.length) (hT : ∀ p ∈ s.T, p.1 ≠ 0 ∧ -40 ≤ p.1 ∧ p.1 ≤ 40) (C1 C2 : Nat) (hc : Wf (C1, C2)) (hTl : s.T.length ≤ 100000) (hKl : s.K.length ≤ 100000) :
    Calls Tryd.prog 61 #[.pointer (some ⟨M, 0, none⟩), .agg #[.int .u64 C1, .int .u64 C2], .int .i64 lv] w fun e w' => ∃ t : Bool, e = .returned (.bool t) ∧ (t = true ↔ ∃ i, s.K[lv - 1]?.getD 0 ≤ i ∧ i < s.K[lv]?.getD 0 ∧ mem (C1, C2) (-(tl s i)) = true) ∧ Below w.heap.size w w' := by
  obtain ⟨ta, tc, h7, ht1, ht2⟩ := trail_form h
  obtain ⟨ka, kc, h8, hk1, hk2⟩ := choice_form h
  obtain ⟨g8, rfl, q0, _⟩ := choice_at h h8 (i := lv - 1) (by omega)
  obtain ⟨g8', e8, q1, _⟩ := choice_at h h8 (i := lv) hl
  injection e8 with e8
  injection e8 with e8
  subst e8
  obtain ⟨g7, rfl, _, _, hg7⟩ := trail_at h h7 (i := s.K[lv]?.getD 0) hlt
  have k7 := h.cell (i := 7) (by omega)
  have k8 := h.cell (i := 8) (by omega)
  rw [h7] at k7
  rw [h8] at k8
  have HTr : Hid (∀ i, i < s.T.length → ∃ r : Int, w.cell? ⟨g7, i * 2, none⟩ = some (.int .i64 (tl s i)) ∧ w.cell? ⟨g7, i * 2 + 1, none⟩ = some (.int .i64 r)) := hid (fun i hi => by
    obtain ⟨g, e, c0, c1, _⟩ := trail_at h h7 hi
    injection e with e
    injection e with e
    subst e
    exact ⟨_, c0, c1⟩)
  have HT := hid hT
  have HC := hid hc
  have HTl2 : Hid (∀ i, i < s.T.length → tl s i ≠ 0 ∧ -40 ≤ tl s i ∧ tl s i ≤ 40) := hid (fun i hi => by
    unfold tl
    rw [List.getElem?_eq_getElem hi]
    exact HT.out _ (List.getElem_mem hi))
  have hM := h.lt.1
  obtain ⟨a, ha⟩ : ∃ a, s.K[lv - 1]?.getD 0 = a := ⟨_, rfl⟩
  obtain ⟨b, hb⟩ : ∃ b, s.K[lv]?.getD 0 = b := ⟨_, rfl⟩
  rw [ha, hb] at hinc ⊢
  rw [hb] at hlt
  rw [ha] at q0
  rw [hb] at q1
  obtain ⟨tn, htn⟩ : ∃ tn, s.T.length = tn := ⟨_, rfl⟩
  obtain ⟨kn, hkn⟩ : ∃ kn, s.K.length = kn := ⟨_, rfl⟩
  rw [htn] at hlt k7 HTr ht1 hTl HTl2
  rw [hkn] at hl k8 hk1 hKl
  generalize tl s = L at *
  clear h hT hc h7 h8 ha hb htn hkn HT
  obtain ⟨m, rfl⟩ : ∃ m, b = a + m := ⟨b - a, by omega⟩
  obtain ⟨l1, rfl⟩ : ∃ l1, lv = l1 + 1 := ⟨lv - 1, by omega⟩
  rw [Nat.add_sub_cancel] at q0
  unfold maxLen at ht2 hk2
  go_enter Tryd.func61, Tryd.ntmps61
  go_wp2
  obtain ⟨w1, hw1⟩ : ∃ w1, w.alloc (.cells #[.int .u64 C1, .int .u64 C2] 51) = w1 := ⟨_, rfl⟩
  have x0 : w1.cell? ⟨w.heap.size, 0, none⟩ = some (.int .u64 C1) := by rw [← hw1]; simp [go_sem]
  have x1 : w1.cell? ⟨w.heap.size, 1, none⟩ = some (.int .u64 C2) := by rw [← hw1]; simp [go_sem]
  have hb1 : Below w.heap.size w w1 := by rw [← hw1]; exact (by repeat (first | exact Below.refl _ _ | assumption | refine Below.drew ?_ | refine Below.alloc ?_ (by first | exact Nat.le_refl _ | omega | (simp; done) | (simp; omega)) _ | refine Below.setCell ?_ (by first | exact Nat.le_refl _ | omega | (simp; done) | (simp; omega)) _))
  rw [hw1]
  clear hw1
  have HB1 := hid hb1
  have HX0 := hid x0
  have HX1 := hid x1
  replace k7 := keep hb1 k7
  replace k8 := keep hb1 k8
  replace q0 := keep hb1 q0
  replace q1 := keep hb1 q1
  clear hb1 x0 x1
  have i1 : (l1 : Int) < kn := by omega
  have i2 : (l1 : Int) + 1 < kn := by omega
  have i3 : (l1 : Int) + 1 - 1 = l1 := by omega
  have i4 : (a : Int) ≤ (a + m : Nat) := by omega
  have i5 : ((a + m : Nat) : Int) ≤ tn := by omega
  have i6 : ((a + m : Nat) : Int) ≤ tc := by omega
  go_region
  have HBd := hid (show Below w1.heap.size w1 w1.drew from (Below.refl _ w1).drew)
  clear k7 k8 q0 q1
  generalize w1.drew = w2 at *
  go_wp2
  rw [show a + m - a = m by omega]
  go_loopw [30] (fun i wr => ∃ k : Nat, k ≤ m ∧ i = .int .i64 k ∧ (∀ j, j < k → mem (C1, C2) (-(L (a + j))) = false) ∧ Below w1.heap.size w1 wr) (fun i _ => m - (intOf i).toNat)
  case atStart => exact ⟨0, Nat.zero_le _, rfl, fun j hj => absurd hj (Nat.not_lt_zero _), HBd.out⟩
  case round =>
    obtain ⟨k, hk, rfl, hno, hbr⟩ := hrel
    have HNo := hid hno
    have HBr := hid hbr
    have x0 := keep hbr HX0.out
    have x1 := keep hbr HX1.out
    have hbx : w.heap.size < wr.heap.size := World.block_lt_of_cell? _ _ x0
    clear hno hbr
    by_cases hkm : k < m
    · obtain ⟨r, c0, c1⟩ := HTr.out (a + k) (by omega)
      obtain ⟨l0, l1', l2⟩ := HTl2.out (a + k) (by omega)
      replace c0 := keep (HB1.out.trans (HBr.out.mono HB1.out.size)) c0
      replace c1 := keep (HB1.out.trans (HBr.out.mono HB1.out.size)) c1
      rw [Nat.add_mul] at c0 c1
      have HNx : Hid (mem (C1, C2) (-(L (a + k))) = false → ∀ j, j < k + 1 → mem (C1, C2) (-(L (a + j))) = false) := hid (fun h j hj => by
        by_cases e : j = k
        · rw [e]; exact h
        · exact HNo.out j (by omega))
      have HYes : Hid (mem (C1, C2) (-(L (a + k))) = true → ∃ i, a ≤ i ∧ i < a + m ∧ mem (C1, C2) (-(L i)) = true) := hid (fun h => ⟨a + k, by omega, by omega, h⟩)
      generalize L (a + k) = z at *
      have hkd : (k : Int) < m := by omega
      go_wp2_with fail
      refine (has_impl (C1, C2) (-z) _ HC.out (by omega) (by omega) (by omega)).mono ?_
      rintro e w3 ⟨rfl, hb3⟩
      have HB3 := hid (HBr.out.trans (((show Below wr.heap.size wr _ from (by repeat (first | exact Below.refl _ _ | assumption | refine Below.drew ?_ | refine Below.alloc ?_ (by first | exact Nat.le_refl _ | omega | (simp; done) | (simp; omega)) _ | refine Below.setCell ?_ (by first | exact Nat.le_refl _ | omega | (simp; done) | (simp; omega)) _))).trans (hb3.mono (by simp))).mono HBr.out.size))
      clear hb3
      cases hm9 : mem (C1, C2) (-z) with
      | true =>
        go_wp2
        go_ret
        exact ⟨true, rfl, ⟨fun _ => HYes.out hm9, fun _ => rfl⟩, HB1.out.trans (HB3.out.mono HB1.out.size)⟩
      | false =>
        go_wp2
        go_roundw
        case rel => exact ⟨k + 1, by omega, by go_num, HNx.out hm9, HB3.out⟩
        case measure => simp [intOf]; omega
    · have e : k = m := by omega
      subst e
      go_wp2
      go_ret
      exact ⟨false, rfl, ⟨fun h => (by cases h), fun ⟨i, h1, h2, h3⟩ => (by
        have := HNo.out (i - a) (by omega)
        rw [show a + (i - a) = i by omega, h3] at this
        cases this)⟩, HB1.out.trans (HBr.out.mono HB1.out.size)⟩
end Go.Proofs.YtbahjpheaaiamaaDoor.solHang

/- A range over a function whose items lie in memory, over an iterator that writes memory of its own between two rounds; of no program; conditions: what the body and the iterator each leave as it was. -/
namespace Go.Proofs.YtbahjpheaaiamaaDoor.rangeAt
open Go.RowKit Go.Shelf Go
set_option linter.unusedVariables false

theorem round_any {m m' l : Nat} {P : Program} {f : FuncId} {tmps : Array Value} {assign body : Code} {w : World} {R : Ending → World → Prop} (h : RoundIn Fence.wide m P l f tmps assign body w R) : RoundIn Fence.wide m' P l f tmps assign body w R :=
  ⟨h.1, fun c cs _ => h.2 c cs (room_wide _)⟩
theorem yield_any {m m' l : Nat} {P : Program} {args : Array Value} {W : World} {R : Ending → World → Prop} (h : YieldAt Fence.wide m P l args W R) : YieldAt Fence.wide m' P l args W R := by
  obtain ⟨fn, tmps, assign, body, hy, hr⟩ := h
  exact ⟨fn, tmps, assign, body, hy, round_any hr⟩
theorem calls_any {m m' : Nat} {P : Program} {f : FuncId} {args : Array Value} {w : World} {R : Ending → World → Prop} (h : CallsIn Fence.wide m P f args w R) : CallsIn Fence.wide m' P f args w R := callsIn_wide.2 (callsIn_wide.1 h)

end Go.Proofs.YtbahjpheaaiamaaDoor.rangeAt
