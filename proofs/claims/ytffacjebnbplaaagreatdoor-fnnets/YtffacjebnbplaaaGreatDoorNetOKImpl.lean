/- Whether a network is right, of the program: its face; conditions: none. -/
import Derived.Test.YtffacjebnbplaaaGreatDoorNetFace
namespace Go.Proofs.YtffacjebnbplaaaGreatDoor.netOKImpl
open Go.RowKit Go.Deep Go base names netSem netImpl netParts netFace
set_option linter.unusedVariables false

theorem netB_no {l : Nat → Nat} {s : Ss} {g x f : R} {o e : List Int} (h : routersB s (l 0) = false ∨ linksB g (l 1) (l 0) = false ∨ risingB o (l 2) (l 0) = false ∨ risingB e (l 3) (l 0) = false ∨ ¬ l 3 ≤ 2 ∨ importsB g (l 1) x (l 4) = false ∨ filtersB g (l 1) f (l 5) = false) : netB l s g o e x f = false := by
  unfold netB
  rcases h with h | h | h | h | h | h | h
  all_goals simp [h]

set_option maxHeartbeats 1600000 in
theorem netOK_impl (p : Nat → Option Addr) (l c : Nat → Nat) (s : Ss) (g : R) (o e : List Int) (x f : R) (w : World) (h : NetIs w p l s g o e x f) (hc0 : l 0 ≤ c 0) (hc1 : l 1 ≤ c 1) :
    Calls Tryz.prog 8 #[netV p l c] w fun e' w' => e' = .returned (.bool (netB l s g o e x f)) ∧ Below w.heap.size w w' := by
  have HN := hid h
  have m0 := h.routers.most
  have m3 := h.externals.most
  have M0 := hid m0
  have HK0 := hid hc0
  have HK1 := hid hc1
  unfold maxLen at m0 m3
  obtain ⟨D, hD⟩ : ∃ D, netB l s g o e x f = D := ⟨_, rfl⟩
  rw [hD]
  have HNO := hid (fun hh => hD.symm.trans (netB_no (l := l) (s := s) (g := g) (o := o) (e := e) (x := x) (f := f) hh))
  have HD : Hid (D = (routersB s (l 0) && linksB g (l 1) (l 0) && risingB o (l 2) (l 0) && risingB e (l 3) (l 0) && decide (l 3 ≤ 2) && importsB g (l 1) x (l 4) && filtersB g (l 1) f (l 5))) := hD.symm
  clear hD h hc0 hc1
  unfold netV
  have C1 : ∀ w8 : World, Below (w.alloc (.cells #[.slice (p 0) (l 0) (c 0), .slice (p 1) (l 1) (c 1), .slice (p 2) (l 2) (c 2), .slice (p 3) (l 3) (c 3), .slice (p 4) (l 4) (c 4), .slice (p 5) (l 5) (c 5)] 29)).heap.size (w.alloc (.cells #[.slice (p 0) (l 0) (c 0), .slice (p 1) (l 1) (c 1), .slice (p 2) (l 2) (c 2), .slice (p 3) (l 3) (c 3), .slice (p 4) (l 4) (c 4), .slice (p 5) (l 5) (c 5)] 29)) w8 →
      w8.cell? ⟨w.heap.size, 1, none⟩ = some (.slice (p 1) (l 1) (c 1)) ∧ w8.cell? ⟨w.heap.size, 2, none⟩ = some (.slice (p 2) (l 2) (c 2)) ∧ w8.cell? ⟨w.heap.size, 3, none⟩ = some (.slice (p 3) (l 3) (c 3)) ∧ w8.cell? ⟨w.heap.size, 4, none⟩ = some (.slice (p 4) (l 4) (c 4)) ∧ w8.cell? ⟨w.heap.size, 5, none⟩ = some (.slice (p 5) (l 5) (c 5)) ∧ NetIs w8 p l s g o e x f ∧ Below w.heap.size w w8 :=
    fun w8 hb => ⟨keep hb (by simp [go_sem]), keep hb (by simp [go_sem]), keep hb (by simp [go_sem]), keep hb (by simp [go_sem]), keep hb (by simp [go_sem]), (HN.out.below (by repeat (first | exact Below.refl _ _ | assumption | refine Below.drew ?_ | refine Below.alloc ?_ (by first | exact Nat.le_refl _ | omega | (simp; done) | (simp; omega)) _ | refine Below.setCell ?_ (by first | exact Nat.le_refl _ | omega | (simp; done) | (simp; omega)) _))).below hb, (show Below w.heap.size w _ from (by repeat (first | exact Below.refl _ _ | assumption | refine Below.drew ?_ | refine Below.alloc ?_ (by first | exact Nat.le_refl _ | omega | (simp; done) | (simp; omega)) _ | refine Below.setCell ?_ (by first | exact Nat.le_refl _ | omega | (simp; done) | (simp; omega)) _))).trans (hb.mono (by simp))⟩
  have HC1 := hid C1
  clear C1
  go_enter Tryz.func8, Tryz.ntmps8
  go_wp2_with fail
  refine (routers_impl (p 0) (l 0) (c 0) s _ (HN.out.routers.below (by repeat (first | exact Below.refl _ _ | assumption | refine Below.drew ?_ | refine Below.alloc ?_ (by first | exact Nat.le_refl _ | omega | (simp; done) | (simp; omega)) _ | refine Below.setCell ?_ (by first | exact Nat.le_refl _ | omega | (simp; done) | (simp; omega)) _))) HK0.out).mono ?_
  rintro e' w1 ⟨rfl, n, hw⟩
  have hb1 := below_drewN (w.alloc (.cells #[.slice (p 0) (l 0) (c 0), .slice (p 1) (l 1) (c 1), .slice (p 2) (l 2) (c 2), .slice (p 3) (l 3) (c 3), .slice (p 4) (l 4) (c 4), .slice (p 5) (l 5) (c 5)] 29)) n
  rw [← hw] at hb1
  clear hw
  obtain ⟨q1, q2, q3, q4, q5, hn, hB⟩ := HC1.out w1 hb1
  have H1 := hid hb1
  have N1 := hid hn
  have B1 := hid hB
  clear hb1 hn hB
  obtain ⟨b1, e1⟩ : ∃ b, routersB s (l 0) = b := ⟨_, rfl⟩
  rw [e1] at HD ⊢
  cases b1 with
  | false =>
    clear q1 q2 q3 q4 q5
    go_wp2
    go_ret
    exact ⟨ret_bool (HNO.out (.inl e1)).symm, B1.out⟩
  | true =>
  go_wp2_with fail
  refine (links_impl (p 1) (l 1) (c 1) g (l 0) _ N1.out.links HK1.out M0.out).mono ?_
  rintro e' w2 ⟨rfl, hb2⟩
  obtain ⟨q1, q2, q3, q4, q5, hn, hB⟩ := HC1.out w2 (H1.out.trans (hb2.mono H1.out.size))
  have H2 := hid (H1.out.trans (hb2.mono H1.out.size))
  have N2 := hid hn
  have B2 := hid hB
  clear hb2 hn hB
  obtain ⟨b2, e2⟩ : ∃ b, linksB g (l 1) (l 0) = b := ⟨_, rfl⟩
  rw [e2] at HD ⊢
  cases b2 with
  | false =>
    go_wp2
    go_ret
    exact ⟨ret_bool (HNO.out (.inr (.inl e2))).symm, B2.out⟩
  | true =>
  go_wp2_with fail
  refine (rising_impl (p 2) (l 2) (c 2) o (l 0) _ N2.out.origins M0.out).mono ?_
  rintro e' w3 ⟨rfl, n3, hw⟩
  have hb3 := below_drewN w2 n3
  rw [← hw] at hb3
  clear hw
  obtain ⟨q1, q2, q3, q4, q5, hn, hB⟩ := HC1.out w3 (H2.out.trans (hb3.mono H2.out.size))
  have H3 := hid (H2.out.trans (hb3.mono H2.out.size))
  have N3 := hid hn
  have B3 := hid hB
  clear hb3 hn hB
  obtain ⟨b3, e3⟩ : ∃ b, risingB o (l 2) (l 0) = b := ⟨_, rfl⟩
  rw [e3] at HD ⊢
  cases b3 with
  | false =>
    go_wp2
    go_ret
    exact ⟨ret_bool (HNO.out (.inr (.inr (.inl e3)))).symm, B3.out⟩
  | true =>
  go_wp2_with fail
  refine (rising_impl (p 3) (l 3) (c 3) e (l 0) _ N3.out.externals M0.out).mono ?_
  rintro e' w4 ⟨rfl, n4, hw⟩
  have hb4 := below_drewN w3 n4
  rw [← hw] at hb4
  clear hw
  obtain ⟨q1, q2, q3, q4, q5, hn, hB⟩ := HC1.out w4 (H3.out.trans (hb4.mono H3.out.size))
  have H4 := hid (H3.out.trans (hb4.mono H3.out.size))
  have N4 := hid hn
  have B4 := hid hB
  clear hb4 hn hB
  obtain ⟨b4, e4⟩ : ∃ b, risingB e (l 3) (l 0) = b := ⟨_, rfl⟩
  rw [e4] at HD ⊢
  cases b4 with
  | false =>
    go_wp2
    go_ret
    exact ⟨ret_bool (HNO.out (.inr (.inr (.inr (.inl e4))))).symm, B4.out⟩
  | true =>
  by_cases h3 : l 3 ≤ 2
  · have d3 : decide ((l 3 : Int) ≤ 2) = true := decide_eq_true (by omega)
    have E5 := hid (decide_eq_true h3)
    clear h3
    go_wp2_with fail
    refine (imports_impl (p 4) (l 4) (c 4) x (p 1) (l 1) (c 1) g _ N4.out.imports N4.out.links).mono ?_
    rintro e' w5 ⟨rfl, hb5⟩
    obtain ⟨q1, q2, q3, q4, q5, hn, hB⟩ := HC1.out w5 (H4.out.trans (hb5.mono H4.out.size))
    have H5 := hid (H4.out.trans (hb5.mono H4.out.size))
    have N5 := hid hn
    have B5 := hid hB
    clear hb5 hn hB
    obtain ⟨b5, e5⟩ : ∃ b, importsB g (l 1) x (l 4) = b := ⟨_, rfl⟩
    rw [e5] at HD ⊢
    cases b5 with
    | false =>
      go_wp2
      go_ret
      exact ⟨ret_bool (HNO.out (.inr (.inr (.inr (.inr (.inr (.inl e5))))))).symm, B5.out⟩
    | true =>
    go_wp2_with fail
    refine (filters_impl (p 5) (l 5) (c 5) f (p 1) (l 1) (c 1) g _ N5.out.filters N5.out.links).mono ?_
    rintro e' w6 ⟨rfl, hb6⟩
    obtain ⟨-, -, -, -, -, -, hB⟩ := HC1.out w6 (H5.out.trans (hb6.mono H5.out.size))
    have B6 := hid hB
    clear hb6 hB q1 q2 q3 q4 q5
    go_wp2
    go_ret
    exact ⟨ret_bool (by rw [HD.out, E5.out]; rfl), B6.out⟩
  · have d3 : decide ((l 3 : Int) ≤ 2) = false := decide_eq_false (by omega)
    have E5 := hid h3
    clear h3
    go_wp2
    go_ret
    exact ⟨ret_bool (HNO.out (.inr (.inr (.inr (.inr (.inl E5.out)))))).symm, B4.out⟩
end Go.Proofs.YtffacjebnbplaaaGreatDoor.netOKImpl
