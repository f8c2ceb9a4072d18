/- Questions, the faces of the program and of the specification; conditions: lengths that fit. -/
import Derived.Test.YtmjncdilgghggaaDoorAskImpl
import Derived.Test.YtmjncdilgghggaaDoorNetOKImpl
namespace Go.Proofs.YtmjncdilgghggaaDoor.askFace
open Go.RowKit Go.Deep Go base names netSem netImpl netOKImpl numbers askWords askSem askTake askPart askImpl
set_option linter.unusedVariables false

/-- What is answered to a line. -/
def rdA (size : Nat) (ok : Bool) (nm : Wd → Int) (W : List Wd) : askSem.Ask := if 65536 < size then bad 2 else if ok = true then askA nm W else bad 1

set_option maxHeartbeats 3200000 in
set_option maxRecDepth 8000 in
theorem readAsk_impl (p : Nat → Option Addr) (l c : Nat → Nat) (s : Ss) (g : R) (o e : List Int) (x f : R) (t : ByteArray) (m : Int) (w : World) (h : NetIs w p l s g o e x f) (hc0 : l 0 ≤ c 0) (hc1 : l 1 ≤ c 1) (ht : t.size ≤ 1048576) (hm : w.cell? ⟨0, 0, none⟩ = some (.int .i64 m)) :
    Calls Tryd.prog 7 #[netV p l c, .string t] w fun e' w' => e' = .returned (askV (rdA t.size (netB l s g o e x f) (fun x => nameAt s (l 0) (piece x)) (wordsL t.data.toList))) ∧ Below w.heap.size w w' := by
  have HN := hid h
  have HM := hid hm
  clear h hm
  unfold rdA
  by_cases hbig : 65536 < t.size
  · rw [if_pos hbig]
    have d0 : decide ((65536 : Int) < (t.size : Int)) = true := decide_eq_true (by omega)
    unfold netV
    go_enter Tryd.func7, Tryd.ntmps7
    go_wp2
    refine bodyPost_ret (v := askV (bad 2)) (by rw [results_cell_two rfl]; go_simp; rfl) rfl ?_
    exact ⟨rfl, (by repeat (first | exact Below.refl _ _ | assumption | refine Below.drew ?_ | refine Below.alloc ?_ (by first | exact Nat.le_refl _ | omega | (simp; done) | (simp; omega)) _ | refine Below.setCell ?_ (by first | exact Nat.le_refl _ | omega | (simp; done) | (simp; omega)) _))⟩
  · rw [if_neg hbig]
    have d0 : decide ((65536 : Int) < (t.size : Int)) = false := decide_eq_false (by omega)
    obtain ⟨OK, hOK⟩ : ∃ q, netB l s g o e x f = q := ⟨_, rfl⟩
    have HOK := hid hOK
    rw [hOK]
    clear hOK
    have HNO : Hid (∀ w', Below w.heap.size w w' → Calls Tryd.prog 23 #[netV p l c] w' fun e' w'' => e' = .returned (.bool OK) ∧ Below w'.heap.size w' w'') := fun w' hb => by
      rw [← HOK.out]
      exact netOK_impl p l c s g o e x f w' (HN.out.below hb) hc0 hc1
    obtain ⟨AN, hAN⟩ : ∃ q, (if OK = true then askA (fun x => nameAt s (l 0) (piece x)) (wordsL t.data.toList) else bad 1) = q := ⟨_, rfl⟩
    have HAN := hid hAN.symm
    rw [hAN]
    clear hAN
    have HW : Hid (∀ w8 : World, Below ((w.alloc (.cells #[.slice (p 0) (l 0) (c 0), .slice (p 1) (l 1) (c 1), .slice (p 2) (l 2) (c 2), .slice (p 3) (l 3) (c 3), .slice (p 4) (l 4) (c 4), .slice (p 5) (l 5) (c 5)] 38)).alloc (.cells #[.int .i64 0, .int .i64 0, .int .i64 0, .int .i64 0] 31)).heap.size ((w.alloc (.cells #[.slice (p 0) (l 0) (c 0), .slice (p 1) (l 1) (c 1), .slice (p 2) (l 2) (c 2), .slice (p 3) (l 3) (c 3), .slice (p 4) (l 4) (c 4), .slice (p 5) (l 5) (c 5)] 38)).alloc (.cells #[.int .i64 0, .int .i64 0, .int .i64 0, .int .i64 0] 31)) w8 → w8.cell? ⟨w.heap.size, 0, none⟩ = some (.slice (p 0) (l 0) (c 0)) ∧ w8.heap[w.heap.size + 1]? = some (.cells #[.int .i64 0, .int .i64 0, .int .i64 0, .int .i64 0] 31 (0, 0)) ∧ Below w.heap.size w w8 ∧ w.heap.size + 1 < w8.heap.size) := fun w8 hb => by
      have hb0 : Below w.heap.size w ((w.alloc (.cells #[.slice (p 0) (l 0) (c 0), .slice (p 1) (l 1) (c 1), .slice (p 2) (l 2) (c 2), .slice (p 3) (l 3) (c 3), .slice (p 4) (l 4) (c 4), .slice (p 5) (l 5) (c 5)] 38)).alloc (.cells #[.int .i64 0, .int .i64 0, .int .i64 0, .int .i64 0] 31)) := (by repeat (first | exact Below.refl _ _ | assumption | refine Below.drew ?_ | refine Below.alloc ?_ (by first | exact Nat.le_refl _ | omega | (simp; done) | (simp; omega)) _ | refine Below.setCell ?_ (by first | exact Nat.le_refl _ | omega | (simp; done) | (simp; omega)) _))
      have h9 := heap_alloc_new (w.alloc (.cells #[.slice (p 0) (l 0) (c 0), .slice (p 1) (l 1) (c 1), .slice (p 2) (l 2) (c 2), .slice (p 3) (l 3) (c 3), .slice (p 4) (l 4) (c 4), .slice (p 5) (l 5) (c 5)] 38)) (.cells #[.int .i64 0, .int .i64 0, .int .i64 0, .int .i64 0] 31 (0, 0))
      rw [World.size_alloc] at h9
      exact ⟨keep hb (by simp [go_sem]), (hb.block _ (by simp)).trans h9, hb0.trans (hb.mono hb0.size), Nat.lt_of_lt_of_le (by simp) hb.size⟩
    unfold netV at HNO ⊢
    go_enter Tryd.func7, Tryd.ntmps7
    go_wp2_with fail
    refine (HNO.out _ (by repeat (first | exact Below.refl _ _ | assumption | refine Below.drew ?_ | refine Below.alloc ?_ (by first | exact Nat.le_refl _ | omega | (simp; done) | (simp; omega)) _ | refine Below.setCell ?_ (by first | exact Nat.le_refl _ | omega | (simp; done) | (simp; omega)) _))).mono ?_
    rintro e' w1 ⟨rfl, hb1⟩
    obtain ⟨f0, fR, fB, fz⟩ := HW.out w1 hb1
    have HB1 := hid hb1
    have FB := hid fB
    have r0 := cell_in fR 0
    have r1 := cell_in fR 1
    have r2 := cell_in fR 2
    have r3 := cell_in fR 3
    simp only [List.getElem?_toArray, List.getElem?_cons_zero, List.getElem?_cons_succ] at r0 r1 r2 r3
    have z0 := frozen_in fR 0
    have z1 := frozen_in fR 1
    have z2 := frozen_in fR 2
    have z3 := frozen_in fR 3
    clear hb1 fB
    cases OK with
    | false =>
      have eA : AN = bad 1 := HAN.out
      subst eA
      clear HAN
      go_wp2
      refine bodyPost_ret (v := askV (bad 1)) (by rw [results_cell_two rfl]; go_simp; rfl) rfl ?_
      exact ⟨rfl, by have hbb := FB.out; exact (by repeat (first | exact Below.refl _ _ | assumption | refine Below.drew ?_ | refine Below.alloc ?_ (by first | exact Nat.le_refl _ | omega | (simp; done) | (simp; omega)) _ | refine Below.setCell ?_ (by first | exact Nat.le_refl _ | omega | (simp; done) | (simp; omega)) _))⟩
    | true =>
      have HAN2 : Hid (AN = askA (fun x => nameAt s (l 0) (piece x)) (wordsL t.data.toList)) := HAN.out
      clear HAN
      have HSz : Hid (∀ y ∈ wordsL t.data.toList, y.length ≤ 1048576) := fun y hy => Nat.le_trans (words_small hy) (by simpa using ht)
      have HM1 := hid (keep FB.out HM.out)
      clear r0 r1 r2 r3 z0 z1 z2 z3 fR
      go_wp2_with fail
      go_region_with (go_at_call 24; refine (words_impl t m w1.drew (by omega) HM1.out).mono ?_; rintro e' w2 ⟨v2, rfl, ho2, hb2⟩; obtain ⟨a2, c2, rfl, ht2⟩ := TRow.of_own ho2 (Nat.le_refl _) HSz.out (fun y hy => words_some hy); have HB2 : Hid (Below w1.heap.size w1 w2) := hid ((Below.refl _ w1).drew.trans hb2); have HT2 := hid ht2; have f0' := keep HB2.out f0; clear ho2 hb2 ht2)
      all_goals
        have hz2 := HB2.out.size
        have hA : Hid (As w2.heap.size (w2.alloc (.cells #[.slice (p 0) (l 0) (c 0), .slice a2 (wordsL t.data.toList).length c2, .int .i64 0] 58)) (.slice (p 0) (l 0) (c 0)) a2 c2 (wordsL t.data.toList) 0) := hid ⟨heap_alloc_new _ _, HT2.out.under (by repeat (first | exact Below.refl _ _ | assumption | refine Below.drew ?_ | refine Below.alloc ?_ (by first | exact Nat.le_refl _ | omega | (simp; done) | (simp; omega)) _ | refine Below.setCell ?_ (by first | exact Nat.le_refl _ | omega | (simp; done) | (simp; omega)) _))⟩
        have HB3 : Hid (Below w1.heap.size w1 (w2.alloc (.cells #[.slice (p 0) (l 0) (c 0), .slice a2 (wordsL t.data.toList).length c2, .int .i64 0] 58))) := hid (HB2.out.trans ((show Below w2.heap.size w2 _ from (by repeat (first | exact Below.refl _ _ | assumption | refine Below.drew ?_ | refine Below.alloc ?_ (by first | exact Nat.le_refl _ | omega | (simp; done) | (simp; omega)) _ | refine Below.setCell ?_ (by first | exact Nat.le_refl _ | omega | (simp; done) | (simp; omega)) _))).mono hz2))
        generalize (w2.alloc (.cells #[.slice (p 0) (l 0) (c 0), .slice a2 (wordsL t.data.toList).length c2, .int .i64 0] 58)) = w3 at *
        have HN3 : Hid (∀ w', Below w2.heap.size w3 w' → StrRow w' (p 0) (l 0) s) := fun w' hb => by
          have h1 := FB.out.trans (HB3.out.mono (by have := fz; omega))
          exact HN.out.routers.below (h1.trans (hb.mono (by have := FB.out.size; omega)))
        go_wp2_with fail
        refine (question_impl w2.heap.size (p 0) (l 0) (c 0) s a2 c2 (wordsL t.data.toList) w3 HN3.out hA.out).mono ?_
        rintro e' w4 ⟨rfl, hb4⟩
        rw [← HAN2.out]
        have HB4 := hid (HB3.out.trans (hb4.mono hz2))
        have hb40 : Below ((w.alloc (.cells #[.slice (p 0) (l 0) (c 0), .slice (p 1) (l 1) (c 1), .slice (p 2) (l 2) (c 2), .slice (p 3) (l 3) (c 3), .slice (p 4) (l 4) (c 4), .slice (p 5) (l 5) (c 5)] 38)).alloc (.cells #[.int .i64 0, .int .i64 0, .int .i64 0, .int .i64 0] 31)).heap.size ((w.alloc (.cells #[.slice (p 0) (l 0) (c 0), .slice (p 1) (l 1) (c 1), .slice (p 2) (l 2) (c 2), .slice (p 3) (l 3) (c 3), .slice (p 4) (l 4) (c 4), .slice (p 5) (l 5) (c 5)] 38)).alloc (.cells #[.int .i64 0, .int .i64 0, .int .i64 0, .int .i64 0] 31)) w4 := HB1.out.trans (HB4.out.mono HB1.out.size)
        obtain ⟨f0, fR, fB, fz4⟩ := HW.out w4 hb40
        have FB4 := hid fB
        have r0 := cell_in fR 0
        have r1 := cell_in fR 1
        have r2 := cell_in fR 2
        have r3 := cell_in fR 3
        simp only [List.getElem?_toArray, List.getElem?_cons_zero, List.getElem?_cons_succ] at r0 r1 r2 r3
        have z0 := frozen_in fR 0
        have z1 := frozen_in fR 1
        have z2 := frozen_in fR 2
        have z3 := frozen_in fR 3
        have FR := hid fR
        clear hb4 hb40 fB fR HAN2 hA HN3 HB4 HB3 HB2 HT2 HB1 HW
        obtain ⟨k0, k1, k2, k3, k4, k5⟩ := AN
        simp only [askV]
        go_wp2
        have hR4 := set4 (x0 := .int .i64 k0) (x1 := .int .i64 k1) (x2 := .int .i64 k2) (x3 := .int .i64 k3) FR.out
        have HB5 : Below w.heap.size w ((((w4.setCell ⟨w.heap.size + 1, 0, none⟩ (.int .i64 k0)).setCell ⟨w.heap.size + 1, 1, none⟩ (.int .i64 k1)).setCell ⟨w.heap.size + 1, 2, none⟩ (.int .i64 k2)).setCell ⟨w.heap.size + 1, 3, none⟩ (.int .i64 k3)) := by have hbb := FB4.out; exact (by repeat (first | exact Below.refl _ _ | assumption | refine Below.drew ?_ | refine Below.alloc ?_ (by first | exact Nat.le_refl _ | omega | (simp; done) | (simp; omega)) _ | refine Below.setCell ?_ (by first | exact Nat.le_refl _ | omega | (simp; done) | (simp; omega)) _))
        clear r0 r1 r2 r3 z0 z1 z2 z3 FR
        generalize (((w4.setCell ⟨w.heap.size + 1, 0, none⟩ (.int .i64 k0)).setCell ⟨w.heap.size + 1, 1, none⟩ (.int .i64 k1)).setCell ⟨w.heap.size + 1, 2, none⟩ (.int .i64 k2)).setCell ⟨w.heap.size + 1, 3, none⟩ (.int .i64 k3) = w20 at *
        have r0 := cell_in hR4 0
        have r1 := cell_in hR4 1
        have r2 := cell_in hR4 2
        have r3 := cell_in hR4 3
        simp only [List.getElem?_toArray, List.getElem?_cons_zero, List.getElem?_cons_succ] at r0 r1 r2 r3
        refine bodyPost_ret (v := askV ⟨k0, k1, k2, k3, k4, k5⟩) (by rw [results_cell_two rfl]; go_simp; rfl) rfl ?_
        exact ⟨rfl, HB5⟩
end Go.Proofs.YtmjncdilgghggaaDoor.askFace
