/- FilterApart, of the program; conditions: none. -/
import Derived.Test.YtofdhoefphoaaaaApartSem
import Derived.Test.YtofdhoefphoaaaaFiltImplN
import Derived.Test.YtofdhoefphoaaaaNetOKImpl
import Derived.Deep.RegionHeld3
namespace Go.Proofs.Ytofdhoefphoaaaa.apartImpl
open Go.RowKit Go.Deep Go base names netSem filtSem apartSem netImpl netOKImpl filtImpl
set_option linter.unusedVariables false

set_option maxHeartbeats 800000 in
theorem routers_impl (p : Nat → Option Addr) (l c : Nat → Nat) (a b : Int) (w : World) (hm : l 0 ≤ maxLen) :
    Calls Try.prog 14 #[netV p l c, .int .i64 a, .int .i64 b] w fun e' w' => e' = .returned (.bool (inB a 0 (l 0 - 1) && inB b 0 (l 0 - 1))) ∧ Below w.heap.size w w' := by
  have HM := hid hm
  unfold maxLen at hm
  obtain ⟨b1, e1⟩ : ∃ q, inB a 0 (l 0 - 1) = q := ⟨_, rfl⟩
  obtain ⟨b2, e2⟩ : ∃ q, inB b 0 (l 0 - 1) = q := ⟨_, rfl⟩
  rw [e1, e2]
  unfold netV
  cases b1 <;> cases b2
  all_goals
    go_enter Try.func14, Try.ntmps14
    go_wp2_with (go_at_call 33; refine (router_impl _ _ _ HM.out).mono ?_; rintro e w' ⟨rfl, rfl⟩)
    go_ret
    exact ⟨rfl, (by repeat (first | exact Below.refl _ _ | assumption | refine Below.drew ?_ | refine Below.alloc ?_ (by first | exact Nat.le_refl _ | omega | (simp; done) | (simp; omega)) _ | refine Below.setCell ?_ (by first | exact Nat.le_refl _ | omega | (simp; done) | (simp; omega)) _))⟩

set_option maxHeartbeats 3200000 in
set_option maxRecDepth 8000 in
theorem apart_impl (p : Nat → Option Addr) (l c : Nat → Nat) (s : Ss) (g : R) (o e : List Int) (x f : R) (pp : Nat → Option Addr) (ll cc : Nat → Nat) (ss : Ss) (gg : R) (oo ee : List Int) (xx ff : R) (a b a2 b2 : Int) (w : World) (h : NetIs w p l s g o e x f) (h' : NetIs w pp ll ss gg oo ee xx ff) (hc0 : l 0 ≤ c 0) (hc1 : l 1 ≤ c 1) (hd0 : ll 0 ≤ cc 0) (hd1 : ll 1 ≤ cc 1) :
    Calls Try.prog 7 #[netV p l c, .int .i64 a, .int .i64 b, netV pp ll cc, .int .i64 a2, .int .i64 b2] w fun e' w' => e' = .returned (.tuple #[.int .i64 (apP (apC (netB l s g o e x f) (netB ll ss gg oo ee xx ff) (apI (l 0) (ll 0) a b a2 b2) (apA f (l 5) a b ff (ll 5) a2 b2)) (apA f (l 5) a b ff (ll 5) a2 b2)), .int .i64 (apC (netB l s g o e x f) (netB ll ss gg oo ee xx ff) (apI (l 0) (ll 0) a b a2 b2) (apA f (l 5) a b ff (ll 5) a2 b2))]) ∧ Below w.heap.size w w' := by
  have HN := hid h
  have HM := hid h'
  have M0 := hid h.routers.most
  have M1 := hid h'.routers.most
  have m0 := h.routers.most
  have m1 := h'.routers.most
  unfold maxLen at m0 m1
  have K0 := hid hc0
  have K1 := hid hc1
  have K2 := hid hd0
  have K3 := hid hd1
  clear h h' hc0 hc1 hd0 hd1
  have HC : Hid (∀ w8 : World, Below ((w.alloc (.cells #[.slice (p 0) (l 0) (c 0), .slice (p 1) (l 1) (c 1), .slice (p 2) (l 2) (c 2), .slice (p 3) (l 3) (c 3), .slice (p 4) (l 4) (c 4), .slice (p 5) (l 5) (c 5)] 29)).alloc (.cells #[.slice (pp 0) (ll 0) (cc 0), .slice (pp 1) (ll 1) (cc 1), .slice (pp 2) (ll 2) (cc 2), .slice (pp 3) (ll 3) (cc 3), .slice (pp 4) (ll 4) (cc 4), .slice (pp 5) (ll 5) (cc 5)] 29)).heap.size ((w.alloc (.cells #[.slice (p 0) (l 0) (c 0), .slice (p 1) (l 1) (c 1), .slice (p 2) (l 2) (c 2), .slice (p 3) (l 3) (c 3), .slice (p 4) (l 4) (c 4), .slice (p 5) (l 5) (c 5)] 29)).alloc (.cells #[.slice (pp 0) (ll 0) (cc 0), .slice (pp 1) (ll 1) (cc 1), .slice (pp 2) (ll 2) (cc 2), .slice (pp 3) (ll 3) (cc 3), .slice (pp 4) (ll 4) (cc 4), .slice (pp 5) (ll 5) (cc 5)] 29)) w8 → (w8.cell? ⟨w.heap.size, 0, none⟩ = some (.slice (p 0) (l 0) (c 0)) ∧ w8.cell? ⟨w.heap.size, 1, none⟩ = some (.slice (p 1) (l 1) (c 1)) ∧ w8.cell? ⟨w.heap.size, 2, none⟩ = some (.slice (p 2) (l 2) (c 2)) ∧ w8.cell? ⟨w.heap.size, 3, none⟩ = some (.slice (p 3) (l 3) (c 3)) ∧ w8.cell? ⟨w.heap.size, 4, none⟩ = some (.slice (p 4) (l 4) (c 4)) ∧ w8.cell? ⟨w.heap.size, 5, none⟩ = some (.slice (p 5) (l 5) (c 5))) ∧ (w8.cell? ⟨w.heap.size + 1, 0, none⟩ = some (.slice (pp 0) (ll 0) (cc 0)) ∧ w8.cell? ⟨w.heap.size + 1, 1, none⟩ = some (.slice (pp 1) (ll 1) (cc 1)) ∧ w8.cell? ⟨w.heap.size + 1, 2, none⟩ = some (.slice (pp 2) (ll 2) (cc 2)) ∧ w8.cell? ⟨w.heap.size + 1, 3, none⟩ = some (.slice (pp 3) (ll 3) (cc 3)) ∧ w8.cell? ⟨w.heap.size + 1, 4, none⟩ = some (.slice (pp 4) (ll 4) (cc 4)) ∧ w8.cell? ⟨w.heap.size + 1, 5, none⟩ = some (.slice (pp 5) (ll 5) (cc 5))) ∧ NetIs w8 p l s g o e x f ∧ NetIs w8 pp ll ss gg oo ee xx ff ∧ Below w.heap.size w w8 ∧ w.heap.size + 1 < w8.heap.size) :=
    fun w8 hb => ⟨⟨keep hb (by simp [go_sem]), keep hb (by simp [go_sem]), keep hb (by simp [go_sem]), keep hb (by simp [go_sem]), keep hb (by simp [go_sem]), keep hb (by simp [go_sem])⟩, ⟨keep hb (by simp [go_sem]), keep hb (by simp [go_sem]), keep hb (by simp [go_sem]), keep hb (by simp [go_sem]), keep hb (by simp [go_sem]), keep hb (by simp [go_sem])⟩, (HN.out.below (by repeat (first | exact Below.refl _ _ | assumption | refine Below.drew ?_ | refine Below.alloc ?_ (by first | exact Nat.le_refl _ | omega | (simp; done) | (simp; omega)) _ | refine Below.setCell ?_ (by first | exact Nat.le_refl _ | omega | (simp; done) | (simp; omega)) _))).below hb, (HM.out.below (by repeat (first | exact Below.refl _ _ | assumption | refine Below.drew ?_ | refine Below.alloc ?_ (by first | exact Nat.le_refl _ | omega | (simp; done) | (simp; omega)) _ | refine Below.setCell ?_ (by first | exact Nat.le_refl _ | omega | (simp; done) | (simp; omega)) _))).below hb, (show Below w.heap.size w _ from (by repeat (first | exact Below.refl _ _ | assumption | refine Below.drew ?_ | refine Below.alloc ?_ (by first | exact Nat.le_refl _ | omega | (simp; done) | (simp; omega)) _ | refine Below.setCell ?_ (by first | exact Nat.le_refl _ | omega | (simp; done) | (simp; omega)) _))).trans (hb.mono (by simp; omega)), Nat.lt_of_lt_of_le (by simp) hb.size⟩
  have HB0 : Hid (Below ((w.alloc (.cells #[.slice (p 0) (l 0) (c 0), .slice (p 1) (l 1) (c 1), .slice (p 2) (l 2) (c 2), .slice (p 3) (l 3) (c 3), .slice (p 4) (l 4) (c 4), .slice (p 5) (l 5) (c 5)] 29)).alloc (.cells #[.slice (pp 0) (ll 0) (cc 0), .slice (pp 1) (ll 1) (cc 1), .slice (pp 2) (ll 2) (cc 2), .slice (pp 3) (ll 3) (cc 3), .slice (pp 4) (ll 4) (cc 4), .slice (pp 5) (ll 5) (cc 5)] 29)).heap.size ((w.alloc (.cells #[.slice (p 0) (l 0) (c 0), .slice (p 1) (l 1) (c 1), .slice (p 2) (l 2) (c 2), .slice (p 3) (l 3) (c 3), .slice (p 4) (l 4) (c 4), .slice (p 5) (l 5) (c 5)] 29)).alloc (.cells #[.slice (pp 0) (ll 0) (cc 0), .slice (pp 1) (ll 1) (cc 1), .slice (pp 2) (ll 2) (cc 2), .slice (pp 3) (ll 3) (cc 3), .slice (pp 4) (ll 4) (cc 4), .slice (pp 5) (ll 5) (cc 5)] 29)) ((w.alloc (.cells #[.slice (p 0) (l 0) (c 0), .slice (p 1) (l 1) (c 1), .slice (p 2) (l 2) (c 2), .slice (p 3) (l 3) (c 3), .slice (p 4) (l 4) (c 4), .slice (p 5) (l 5) (c 5)] 29)).alloc (.cells #[.slice (pp 0) (ll 0) (cc 0), .slice (pp 1) (ll 1) (cc 1), .slice (pp 2) (ll 2) (cc 2), .slice (pp 3) (ll 3) (cc 3), .slice (pp 4) (ll 4) (cc 4), .slice (pp 5) (ll 5) (cc 5)] 29))) := Below.refl _ _
  obtain ⟨k1, hk1⟩ : ∃ q, netB l s g o e x f = q := ⟨_, rfl⟩
  obtain ⟨k2, hk2⟩ : ∃ q, netB ll ss gg oo ee xx ff = q := ⟨_, rfl⟩
  obtain ⟨AP, hAP⟩ : ∃ q, apA f (l 5) a b ff (ll 5) a2 b2 = q := ⟨_, rfl⟩
  have EA := hid hAP
  rw [hk1, hk2, hAP]
  clear hAP
  unfold netV
  go_enter Try.func7, Try.ntmps7
  go_wp2_with fail
  refine (netOK_impl p l c s g o e x f _ (HN.out.below (by repeat (first | exact Below.refl _ _ | assumption | refine Below.drew ?_ | refine Below.alloc ?_ (by first | exact Nat.le_refl _ | omega | (simp; done) | (simp; omega)) _ | refine Below.setCell ?_ (by first | exact Nat.le_refl _ | omega | (simp; done) | (simp; omega)) _))) K0.out K1.out).mono ?_
  rintro e' w1 ⟨rfl, hb1⟩
  have HB1 := hid (HB0.out.trans (hb1.mono (by simp)))
  obtain ⟨⟨q0, q1, q2, q3, q4, q5⟩, ⟨r0, r1, r2, r3, r4, r5⟩, hn, hm, hB, hz⟩ := HC.out w1 HB1.out
  have NW := hid hn
  have MW := hid hm
  have BW := hid hB
  clear hb1 hn hm hB
  rw [hk1]
  cases k1 with
  | false =>
    go_wp2
    go_ret2
    exact ⟨two_ints (by simp [apP, apC]) (by simp [apC]), BW.out⟩
  | true =>
  go_wp2_with fail
  refine (netOK_impl pp ll cc ss gg oo ee xx ff _ MW.out K2.out K3.out).mono ?_
  rintro e' w2 ⟨rfl, hb2⟩
  have HB2 := hid (HB1.out.trans (hb2.mono HB1.out.size))
  clear q0 q1 q2 q3 q4 q5 r0 r1 r2 r3 r4 r5 hz NW MW BW
  obtain ⟨⟨q0, q1, q2, q3, q4, q5⟩, ⟨r0, r1, r2, r3, r4, r5⟩, hn, hm, hB, hz⟩ := HC.out w2 HB2.out
  have NW := hid hn
  have MW := hid hm
  have BW := hid hB
  clear hb2 hn hm hB HB1
  rw [hk2]
  cases k2 with
  | false =>
    go_wp2
    go_ret2
    exact ⟨two_ints (by simp [apP, apC]) (by simp [apC]), BW.out⟩
  | true =>
  obtain ⟨i1, e1⟩ : ∃ q, inB a 0 (l 0 - 1) = q := ⟨_, rfl⟩
  obtain ⟨i2, e2⟩ : ∃ q, inB b 0 (l 0 - 1) = q := ⟨_, rfl⟩
  obtain ⟨i3, e3⟩ : ∃ q, inB a2 0 (ll 0 - 1) = q := ⟨_, rfl⟩
  obtain ⟨i4, e4⟩ : ∃ q, inB b2 0 (ll 0 - 1) = q := ⟨_, rfl⟩
  have EI : Hid (apI (l 0) (ll 0) a b a2 b2 = (i1 && i2 && i3 && i4)) := by
    show _ = _
    unfold apI
    rw [e1, e2, e3, e4]
  clear hk1 hk2
  go_wp2_with fail
  refine (routers_impl p l c a b _ M0.out).mono ?_
  rintro e' w3 ⟨rfl, hb3⟩
  have HB3 := hid (HB2.out.trans (hb3.mono HB2.out.size))
  clear q0 q1 q2 q3 q4 q5 r0 r1 r2 r3 r4 r5 hz NW MW BW
  obtain ⟨⟨q0, q1, q2, q3, q4, q5⟩, ⟨r0, r1, r2, r3, r4, r5⟩, hn, hm, hB, hz⟩ := HC.out w3 HB3.out
  have NW := hid hn
  have MW := hid hm
  have BW := hid hB
  clear hb3 hn hm hB HB2
  rw [e1, e2]
  obtain ⟨j1, f1⟩ : ∃ q, (i1 && i2) = q := ⟨_, rfl⟩
  rw [f1]
  cases j1 with
  | false =>
    have EI' : Hid (apI (l 0) (ll 0) a b a2 b2 = false) := by
      show _ = _
      rw [EI.out, f1]; rfl
    clear f1
    go_wp2
    go_ret2
    exact ⟨two_ints (by simp [apP, apC, EI'.out]) (by simp [apC, EI'.out]), BW.out⟩
  | true =>
  have F1 := hid f1
  clear f1
  go_wp2_with fail
  refine (routers_impl pp ll cc a2 b2 _ M1.out).mono ?_
  rintro e' w4 ⟨rfl, hb4⟩
  have HB4 := hid (HB3.out.trans (hb4.mono HB3.out.size))
  clear q0 q1 q2 q3 q4 q5 r0 r1 r2 r3 r4 r5 hz NW MW BW
  obtain ⟨⟨q0, q1, q2, q3, q4, q5⟩, ⟨r0, r1, r2, r3, r4, r5⟩, hn, hm, hB, hz⟩ := HC.out w4 HB4.out
  have NW := hid hn
  have MW := hid hm
  have BW := hid hB
  clear hb4 hn hm hB HB3
  rw [e3, e4]
  obtain ⟨j2, f2⟩ : ∃ q, (i3 && i4) = q := ⟨_, rfl⟩
  have F2 := hid f2
  rw [f2]
  have EJ : Hid (apI (l 0) (ll 0) a b a2 b2 = j2) := by
    show _ = _
    rw [EI.out, F1.out, Bool.true_and, F2.out]
  clear f2
  cases j2 with
  | false =>
    go_wp2
    go_ret2
    exact ⟨two_ints (by simp [apP, apC, EJ.out]) (by simp [apC, EJ.out]), BW.out⟩
  | true =>
  have EI' := EJ
  clear EJ F1 F2 EI
  go_wp2_with fail
  have HBL := HB4
  generalize hW : w4 = wL at *
  clear hW
  clear q0 q1 q2 q3 q4 q5 r0 r1 r2 r3 r4 r5 hz NW MW BW e1 e2 e3 e4
  go_loopw [37] (fun i wr => ∃ k : Nat, k ≤ 16 ∧ i = .int .i64 k ∧ (∀ j, j < k → apB f (l 5) a b ff (ll 5) a2 b2 j = false) ∧ Below ((w.alloc (.cells #[.slice (p 0) (l 0) (c 0), .slice (p 1) (l 1) (c 1), .slice (p 2) (l 2) (c 2), .slice (p 3) (l 3) (c 3), .slice (p 4) (l 4) (c 4), .slice (p 5) (l 5) (c 5)] 29)).alloc (.cells #[.slice (pp 0) (ll 0) (cc 0), .slice (pp 1) (ll 1) (cc 1), .slice (pp 2) (ll 2) (cc 2), .slice (pp 3) (ll 3) (cc 3), .slice (pp 4) (ll 4) (cc 4), .slice (pp 5) (ll 5) (cc 5)] 29)).heap.size ((w.alloc (.cells #[.slice (p 0) (l 0) (c 0), .slice (p 1) (l 1) (c 1), .slice (p 2) (l 2) (c 2), .slice (p 3) (l 3) (c 3), .slice (p 4) (l 4) (c 4), .slice (p 5) (l 5) (c 5)] 29)).alloc (.cells #[.slice (pp 0) (ll 0) (cc 0), .slice (pp 1) (ll 1) (cc 1), .slice (pp 2) (ll 2) (cc 2), .slice (pp 3) (ll 3) (cc 3), .slice (pp 4) (ll 4) (cc 4), .slice (pp 5) (ll 5) (cc 5)] 29)) wr) (fun i _ => 16 - (intOf i).toNat)
  case atStart => exact ⟨0, Nat.zero_le _, rfl, fun j hj => absurd hj (Nat.not_lt_zero _), HBL.out⟩
  case round =>
    obtain ⟨k, hk, rfl, ha, hbel⟩ := hrel
    have HA := hid ha
    have HB := hid hbel
    obtain ⟨⟨q0, q1, q2, q3, q4, q5⟩, ⟨r0, r1, r2, r3, r4, r5⟩, hn, hm, hB, hz⟩ := HC.out wr hbel
    have NW := hid hn
    have MW := hid hm
    have BW := hid hB
    clear ha hbel hn hm hB
    by_cases hlt : k < 16
    · have dk : decide ((k : Int) < 16) = true := decide_eq_true (by omega)
      have K9 : Hid (∀ w8 : World, Below wr.heap.size wr w8 → w8.cell? ⟨w.heap.size, 0, none⟩ = some (.slice (p 0) (l 0) (c 0)) ∧ w8.cell? ⟨w.heap.size, 1, none⟩ = some (.slice (p 1) (l 1) (c 1)) ∧ w8.cell? ⟨w.heap.size, 2, none⟩ = some (.slice (p 2) (l 2) (c 2)) ∧ w8.cell? ⟨w.heap.size, 3, none⟩ = some (.slice (p 3) (l 3) (c 3)) ∧ w8.cell? ⟨w.heap.size, 4, none⟩ = some (.slice (p 4) (l 4) (c 4)) ∧ w8.cell? ⟨w.heap.size, 5, none⟩ = some (.slice (p 5) (l 5) (c 5)) ∧ w8.cell? ⟨w.heap.size + 1, 0, none⟩ = some (.slice (pp 0) (ll 0) (cc 0)) ∧ w8.cell? ⟨w.heap.size + 1, 1, none⟩ = some (.slice (pp 1) (ll 1) (cc 1)) ∧ w8.cell? ⟨w.heap.size + 1, 2, none⟩ = some (.slice (pp 2) (ll 2) (cc 2)) ∧ w8.cell? ⟨w.heap.size + 1, 3, none⟩ = some (.slice (pp 3) (ll 3) (cc 3)) ∧ w8.cell? ⟨w.heap.size + 1, 4, none⟩ = some (.slice (pp 4) (ll 4) (cc 4)) ∧ w8.cell? ⟨w.heap.size + 1, 5, none⟩ = some (.slice (pp 5) (ll 5) (cc 5)) ∧ Below wr.heap.size wr w8) := fun w8 h => by
        obtain ⟨⟨q0, q1, q2, q3, q4, q5⟩, ⟨r0, r1, r2, r3, r4, r5⟩, -, -, -, -⟩ := HC.out w8 (HB.out.trans (h.mono HB.out.size))
        exact ⟨q0, q1, q2, q3, q4, q5, r0, r1, r2, r3, r4, r5, h⟩
      go_wp2_with fail
      go_region_held3 (fun w8 => w8.cell? ⟨w.heap.size, 0, none⟩ = some (.slice (p 0) (l 0) (c 0)) ∧ w8.cell? ⟨w.heap.size, 1, none⟩ = some (.slice (p 1) (l 1) (c 1)) ∧ w8.cell? ⟨w.heap.size, 2, none⟩ = some (.slice (p 2) (l 2) (c 2)) ∧ w8.cell? ⟨w.heap.size, 3, none⟩ = some (.slice (p 3) (l 3) (c 3)) ∧ w8.cell? ⟨w.heap.size, 4, none⟩ = some (.slice (p 4) (l 4) (c 4)) ∧ w8.cell? ⟨w.heap.size, 5, none⟩ = some (.slice (p 5) (l 5) (c 5)) ∧ w8.cell? ⟨w.heap.size + 1, 0, none⟩ = some (.slice (pp 0) (ll 0) (cc 0)) ∧ w8.cell? ⟨w.heap.size + 1, 1, none⟩ = some (.slice (pp 1) (ll 1) (cc 1)) ∧ w8.cell? ⟨w.heap.size + 1, 2, none⟩ = some (.slice (pp 2) (ll 2) (cc 2)) ∧ w8.cell? ⟨w.heap.size + 1, 3, none⟩ = some (.slice (pp 3) (ll 3) (cc 3)) ∧ w8.cell? ⟨w.heap.size + 1, 4, none⟩ = some (.slice (pp 4) (ll 4) (cc 4)) ∧ w8.cell? ⟨w.heap.size + 1, 5, none⟩ = some (.slice (pp 5) (ll 5) (cc 5)) ∧ Below wr.heap.size wr w8)
        (refine K9.out _ (by first | assumption | exact (Below.refl _ wr).drew | exact hb5' | exact hb6'))
        (first
          | (go_at_call 23; refine (filt_impl pp ll cc ff a2 b2 k _ (MW.out.filters.below hb5')).mono ?_; rintro e' w6 ⟨rfl, hb6⟩; have hb6' : Below wr.heap.size wr w6 := hb5'.trans (hb6.mono hb5'.size); clear hb6)
          | (go_at_call 23; refine (filt_impl p l c f a b k _ (NW.out.filters.below (Below.refl _ wr).drew)).mono ?_; rintro e' w5 ⟨rfl, hb5⟩; have hb5' : Below wr.heap.size wr w5 := ((Below.refl _ wr).drew).trans hb5; clear hb5))
      have HB6 := hid (HB.out.trans (hb6'.mono HB.out.size))
      clear q0 q1 q2 q3 q4 q5 r0 r1 r2 r3 r4 r5 hz NW MW BW hb5' hb6' K9
      obtain ⟨⟨q0, q1, q2, q3, q4, q5⟩, ⟨r0, r1, r2, r3, r4, r5⟩, -, -, hB, hz⟩ := HC.out w6 HB6.out
      have BW := hid hB
      clear hB
      have HQ : Hid (apB f (l 5) a b ff (ll 5) a2 b2 k = (filt f (l 5) a b k != filt ff (ll 5) a2 b2 k)) := rfl
      generalize filt f (l 5) a b k = t1 at *
      generalize filt ff (ll 5) a2 b2 k = t2 at *
      have HE : Hid ((t1 != t2) = true → AP = k) := fun h9 => by
        rw [← EA.out]
        exact firstAt_hit hlt (HQ.out.trans h9) HA.out
      have HG : Hid (∀ wz : World, (t1 != t2) = false → Below w6.heap.size w6 wz → ∃ k' : Nat, k' ≤ 16 ∧ Value.int .i64 ((k : Int) + 1) = .int .i64 k' ∧ (∀ j, j < k' → apB f (l 5) a b ff (ll 5) a2 b2 j = false) ∧ Below ((w.alloc (.cells #[.slice (p 0) (l 0) (c 0), .slice (p 1) (l 1) (c 1), .slice (p 2) (l 2) (c 2), .slice (p 3) (l 3) (c 3), .slice (p 4) (l 4) (c 4), .slice (p 5) (l 5) (c 5)] 29)).alloc (.cells #[.slice (pp 0) (ll 0) (cc 0), .slice (pp 1) (ll 1) (cc 1), .slice (pp 2) (ll 2) (cc 2), .slice (pp 3) (ll 3) (cc 3), .slice (pp 4) (ll 4) (cc 4), .slice (pp 5) (ll 5) (cc 5)] 29)).heap.size ((w.alloc (.cells #[.slice (p 0) (l 0) (c 0), .slice (p 1) (l 1) (c 1), .slice (p 2) (l 2) (c 2), .slice (p 3) (l 3) (c 3), .slice (p 4) (l 4) (c 4), .slice (p 5) (l 5) (c 5)] 29)).alloc (.cells #[.slice (pp 0) (ll 0) (cc 0), .slice (pp 1) (ll 1) (cc 1), .slice (pp 2) (ll 2) (cc 2), .slice (pp 3) (ll 3) (cc 3), .slice (pp 4) (ll 4) (cc 4), .slice (pp 5) (ll 5) (cc 5)] 29)) wz) :=
        fun wz h0 hz => ⟨k + 1, by omega, by go_num, fun j hj => by
          by_cases e : j = k
          · subst e; exact HQ.out.trans h0
          · exact HA.out j (by omega), HB6.out.trans (hz.mono HB6.out.size)⟩
      cases t1 <;> cases t2
      · go_wp2
        go_roundw
        case rel => exact HG.out _ rfl (by repeat (first | exact Below.refl _ _ | assumption | refine Below.drew ?_ | refine Below.alloc ?_ (by first | exact Nat.le_refl _ | omega | (simp; done) | (simp; omega)) _ | refine Below.setCell ?_ (by first | exact Nat.le_refl _ | omega | (simp; done) | (simp; omega)) _))
        case measure => simp [intOf]; omega
      · go_wp2
        go_ret2
        exact ⟨two_ints (by simp [apP, apC, EI'.out, HE.out rfl]) (by simp [apC, EI'.out, HE.out rfl]), BW.out⟩
      · go_wp2
        go_ret2
        exact ⟨two_ints (by simp [apP, apC, EI'.out, HE.out rfl]) (by simp [apC, EI'.out, HE.out rfl]), BW.out⟩
      · go_wp2
        go_roundw
        case rel => exact HG.out _ rfl (by repeat (first | exact Below.refl _ _ | assumption | refine Below.drew ?_ | refine Below.alloc ?_ (by first | exact Nat.le_refl _ | omega | (simp; done) | (simp; omega)) _ | refine Below.setCell ?_ (by first | exact Nat.le_refl _ | omega | (simp; done) | (simp; omega)) _))
        case measure => simp [intOf]; omega
    · have dk : decide ((k : Int) < 16) = false := decide_eq_false (by omega)
      have EM : Hid (AP = -1) := by
        show _ = _
        rw [← EA.out]
        exact firstAt_none (fun i hi => HA.out i (by omega))
      go_wp2
      go_ret2
      exact ⟨two_ints (by simp [apP, apC, EI'.out, EM.out]) (by simp [apC, EI'.out, EM.out]), BW.out⟩
end Go.Proofs.Ytofdhoefphoaaaa.apartImpl
