/- FilterEx, of the specification; conditions: none. -/
import Derived.Test.YtofdhoefphoaaaaFexSpec
import Derived.Test.YtofdhoefphoaaaaTreeSpec
namespace Go.Proofs.Ytofdhoefphoaaaa.fexFace
open Go.RowKit Go.Deep Go base names trees built heldStore drawn ownTree ownExE rowsImpl netSem netSpec netOKSpec fexSem fexImpl fexSpec
set_option linter.unusedVariables false

set_option maxHeartbeats 6400000 in
set_option maxRecDepth 8000 in
theorem fex_spec (p : Nat → Option Addr) (l c : Nat → Nat) (s : Ss) (g : R) (o e : List Int) (x f : R) (a b : Int) (w : World) (h : NetIs w p l s g o e x f) (hc0 : l 0 ≤ c 0) (hc1 : l 1 ≤ c 1) :
    Calls Try.prog 6 #[netV p l c, .int .i64 a, .int .i64 b] w fun e' w' => ∃ a' l' c', e' = .returned (.tuple #[.agg #[.int .i64 (kd (fxA (netB l s g o e x f) (inB a 0 (l 0 - 1) && inB b 0 (l 0 - 1)) (19 + l 5) (fexT f a b (l 5)))), .int .i64 (nn (fxA (netB l s g o e x f) (inB a 0 (l 0 - 1) && inB b 0 (l 0 - 1)) (19 + l 5) (fexT f a b (l 5)))), .slice a' l' c'], .int .i64 (fxC (netB l s g o e x f) (inB a 0 (l 0 - 1) && inB b 0 (l 0 - 1)) (19 + l 5) (fexT f a b (l 5)))]) ∧ Below w.heap.size w w' ∧ Rd (fun _ => True) 1048576 w' (19 + l 5) (fxA (netB l s g o e x f) (inB a 0 (l 0 - 1) && inB b 0 (l 0 - 1)) (19 + l 5) (fexT f a b (l 5))) a' l' := by
  have HN := hid h
  have HM := hid h.routers.most
  have HP : Hid (netB l s g o e x f = true → ∀ i, i < l 5 → (0 ≤ f i 2 ∧ f i 2 < 64) ∧ 0 ≤ f i 3 ∧ f i 3 < 64) := fun hk => filt_in hk
  have m0 := h.routers.most
  unfold maxLen at m0
  have K0 := hid hc0
  have K1 := hid hc1
  clear h hc0 hc1
  have HC : Hid (∀ w8 : World, Below ((w.alloc (.cells #[.slice (p 0) (l 0) (c 0), .slice (p 1) (l 1) (c 1), .slice (p 2) (l 2) (c 2), .slice (p 3) (l 3) (c 3), .slice (p 4) (l 4) (c 4), .slice (p 5) (l 5) (c 5)] 29)).alloc (.cells #[.int .i64 0, .int .i64 0, .slice none 0 0] 33)).heap.size ((w.alloc (.cells #[.slice (p 0) (l 0) (c 0), .slice (p 1) (l 1) (c 1), .slice (p 2) (l 2) (c 2), .slice (p 3) (l 3) (c 3), .slice (p 4) (l 4) (c 4), .slice (p 5) (l 5) (c 5)] 29)).alloc (.cells #[.int .i64 0, .int .i64 0, .slice none 0 0] 33)) w8 → (w8.cell? ⟨w.heap.size, 0, none⟩ = some (.slice (p 0) (l 0) (c 0)) ∧ w8.cell? ⟨w.heap.size, 1, none⟩ = some (.slice (p 1) (l 1) (c 1)) ∧ w8.cell? ⟨w.heap.size, 2, none⟩ = some (.slice (p 2) (l 2) (c 2)) ∧ w8.cell? ⟨w.heap.size, 3, none⟩ = some (.slice (p 3) (l 3) (c 3)) ∧ w8.cell? ⟨w.heap.size, 4, none⟩ = some (.slice (p 4) (l 4) (c 4)) ∧ w8.cell? ⟨w.heap.size, 5, none⟩ = some (.slice (p 5) (l 5) (c 5))) ∧ (w8.cell? ⟨w.heap.size + 1, 0, none⟩ = some (.int .i64 0) ∧ w8.cell? ⟨w.heap.size + 1, 1, none⟩ = some (.int .i64 0) ∧ w8.cell? ⟨w.heap.size + 1, 2, none⟩ = some (.slice none 0 0)) ∧ (∀ x, w8.frozen? ⟨w.heap.size + 1, x, none⟩ = false) ∧ NetIs w8 p l s g o e x f ∧ Below w.heap.size w w8 ∧ w.heap.size + 1 < w8.heap.size) :=
    fun w8 hb => ⟨⟨keep hb (by simp [go_sem]), keep hb (by simp [go_sem]), keep hb (by simp [go_sem]), keep hb (by simp [go_sem]), keep hb (by simp [go_sem]), keep hb (by simp [go_sem])⟩, ⟨keep hb (by simp [go_sem]), keep hb (by simp [go_sem]), keep hb (by simp [go_sem])⟩, fun x => (hb.frozen (p := ⟨w.heap.size + 1, x, none⟩) (by simp)).trans (by simp [go_sem]), (HN.out.below (by repeat (first | exact Below.refl _ _ | assumption | refine Below.drew ?_ | refine Below.alloc ?_ (by first | exact Nat.le_refl _ | omega | (simp; done) | (simp; omega)) _ | refine Below.setCell ?_ (by first | exact Nat.le_refl _ | omega | (simp; done) | (simp; omega)) _))).below hb, (show Below w.heap.size w _ from (by repeat (first | exact Below.refl _ _ | assumption | refine Below.drew ?_ | refine Below.alloc ?_ (by first | exact Nat.le_refl _ | omega | (simp; done) | (simp; omega)) _ | refine Below.setCell ?_ (by first | exact Nat.le_refl _ | omega | (simp; done) | (simp; omega)) _))).trans (hb.mono (by simp; omega)), Nat.lt_of_lt_of_le (by simp) hb.size⟩
  obtain ⟨k1, hk1⟩ : ∃ q, netB l s g o e x f = q := ⟨_, rfl⟩
  obtain ⟨i1, e1⟩ : ∃ q, inB a 0 (l 0 - 1) = q := ⟨_, rfl⟩
  obtain ⟨i2, e2⟩ : ∃ q, inB b 0 (l 0 - 1) = q := ⟨_, rfl⟩
  rw [hk1] at HP
  rw [hk1, e1, e2]
  unfold netV
  go_enter Try.func6, Try.ntmps6
  go_wp2_with fail
  refine (netOK_spec p l c s g o e x f _ (HN.out.below (by repeat (first | exact Below.refl _ _ | assumption | refine Below.drew ?_ | refine Below.alloc ?_ (by first | exact Nat.le_refl _ | omega | (simp; done) | (simp; omega)) _ | refine Below.setCell ?_ (by first | exact Nat.le_refl _ | omega | (simp; done) | (simp; omega)) _))) K0.out K1.out).mono ?_
  rintro e' w1 ⟨rfl, hb1⟩
  have HB1 : Hid (Below ((w.alloc (.cells #[.slice (p 0) (l 0) (c 0), .slice (p 1) (l 1) (c 1), .slice (p 2) (l 2) (c 2), .slice (p 3) (l 3) (c 3), .slice (p 4) (l 4) (c 4), .slice (p 5) (l 5) (c 5)] 29)).alloc (.cells #[.int .i64 0, .int .i64 0, .slice none 0 0] 33)).heap.size ((w.alloc (.cells #[.slice (p 0) (l 0) (c 0), .slice (p 1) (l 1) (c 1), .slice (p 2) (l 2) (c 2), .slice (p 3) (l 3) (c 3), .slice (p 4) (l 4) (c 4), .slice (p 5) (l 5) (c 5)] 29)).alloc (.cells #[.int .i64 0, .int .i64 0, .slice none 0 0] 33)) w1) := hb1
  obtain ⟨⟨q0, q1, q2, q3, q4, q5⟩, ⟨z0, z1, z2⟩, hfr, hn, hB, hz⟩ := HC.out w1 HB1.out
  have NW := hid hn
  have BW := hid hB
  have y0 := hfr 0
  have y1 := hfr 1
  have y2 := hfr 2
  clear hn hB hfr
  clear hb1
  rw [hk1]
  clear hk1
  cases k1 with
  | false =>
    go_wp2
    refine bodyPost_ret (v := .tuple #[.agg #[.int .i64 0, .int .i64 0, .slice none 0 0], .int .i64 1]) (by simp [results, Try.results6, go_sem, z0, z1, z2]) rfl ⟨none, 0, 0, by simp [fxC, fxA, zT, mkT, kd, nn], below_set3 BW.out (R := w.heap.size + 1) (Nat.le_succ _) _ _ _, Ow.rd (Ow.none _ _ rfl _ (fun _ => True))⟩
  | true =>
  have hz0 : w.heap.size < w1.heap.size := by omega
  cases i1 with
  | false =>
    go_wp2_with (go_at_call 20; refine (in_spec _ _ _ _).mono ?_; rintro e w' ⟨rfl, hw'⟩; have hw' := hw'.symm; subst hw')
    refine bodyPost_ret (v := .tuple #[.agg #[.int .i64 0, .int .i64 0, .slice none 0 0], .int .i64 5]) (by simp [results, Try.results6, go_sem, z0, z1, z2]) rfl ⟨none, 0, 0, by simp [fxC, fxA, zT, mkT, kd, nn], below_set3 BW.out (R := w.heap.size + 1) (Nat.le_succ _) _ _ _, Ow.rd (Ow.none _ _ rfl _ (fun _ => True))⟩
  | true =>
  cases i2 with
  | false =>
    go_wp2_with (go_at_call 20; refine (in_spec _ _ _ _).mono ?_; rintro e w' ⟨rfl, hw'⟩; have hw' := hw'.symm; subst hw')
    refine bodyPost_ret (v := .tuple #[.agg #[.int .i64 0, .int .i64 0, .slice none 0 0], .int .i64 5]) (by simp [results, Try.results6, go_sem, z0, z1, z2]) rfl ⟨none, 0, 0, by simp [fxC, fxA, zT, mkT, kd, nn], below_set3 BW.out (R := w.heap.size + 1) (Nat.le_succ _) _ _ _, Ow.rd (Ow.none _ _ rfl _ (fun _ => True))⟩
  | true =>
  go_wp2_with (go_at_call 20; refine (in_spec _ _ _ _).mono ?_; rintro e w' ⟨rfl, hw'⟩; have hw' := hw'.symm; subst hw')
  refine (filter_spec p l c f a b _ NW.out.filters (HP.out (by first | rfl | trivial))).mono ?_
  rintro e' w2 ⟨v, rfl, ⟨ax, lx, cx, hr, rfl⟩, hb2⟩
  have HB2 := hid (HB1.out.trans (hb2.mono HB1.out.size))
  have HR : Hid (Rd (fun q => w.heap.size + 1 < q) 1048576 w2 (19 + l 5) (fexT f a b (l 5)) ax lx) := hr.imp fun q hq => by omega
  clear hb2 hr hz0
  clear q0 q1 q2 q3 q4 q5 z0 z1 z2 y0 y1 y2 hz NW BW
  obtain ⟨⟨q0, q1, q2, q3, q4, q5⟩, ⟨z0, z1, z2⟩, hfr, hn, hB, hz⟩ := HC.out w2 HB2.out
  have NW := hid hn
  have BW := hid hB
  have y0 := hfr 0
  have y1 := hfr 1
  have y2 := hfr 2
  clear hn hB hfr
  obtain ⟨tt, htt⟩ : ∃ t, fexT f a b (l 5) = t := ⟨_, rfl⟩
  rw [htt] at HR ⊢
  obtain ⟨ok, hok⟩ : ∃ b, okB (19 + l 5) tt 1 0 = b := ⟨_, rfl⟩
  have HOK := hid hok
  have HTT := hid htt
  clear htt hok
  go_wp2_with fail
  refine (treeSpec.exOK_spec (19 + l 5) tt ax lx cx _ ((HR.out.below (by repeat (first | exact Below.refl _ _ | assumption | refine Below.drew ?_ | refine Below.alloc ?_ (by first | exact Nat.le_refl _ | omega | (simp; done) | (simp; omega)) _ | refine Below.setCell ?_ (by first | exact Nat.le_refl _ | omega | (simp; done) | (simp; omega)) _))).imp fun _ _ => trivial)).mono ?_
  rintro e' w3 ⟨rfl, hb3⟩
  rw [HOK.out]
  have x0 : w3.cell? ⟨w2.heap.size, 0, none⟩ = some (.int .i64 (kd tt)) := keep hb3 (by simp [go_sem])
  have x1 : w3.cell? ⟨w2.heap.size, 1, none⟩ = some (.int .i64 (nn tt)) := keep hb3 (by simp [go_sem])
  have x2 : w3.cell? ⟨w2.heap.size, 2, none⟩ = some (.slice ax lx cx) := keep hb3 (by simp [go_sem])
  have b23 : Below w2.heap.size w2 w3 := (show Below w2.heap.size w2 _ from (by repeat (first | exact Below.refl _ _ | assumption | refine Below.drew ?_ | refine Below.alloc ?_ (by first | exact Nat.le_refl _ | omega | (simp; done) | (simp; omega)) _ | refine Below.setCell ?_ (by first | exact Nat.le_refl _ | omega | (simp; done) | (simp; omega)) _))).trans (hb3.mono (by simp))
  have HB3 := hid (HB2.out.trans (b23.mono HB2.out.size))
  have HR3 := hid (HR.out.below b23)
  clear hb3 b23
  clear q0 q1 q2 q3 q4 q5 z0 z1 z2 y0 y1 y2 hz NW BW
  obtain ⟨⟨q0, q1, q2, q3, q4, q5⟩, ⟨z0, z1, z2⟩, hfr, hn, hB, hz⟩ := HC.out w3 HB3.out
  have NW := hid hn
  have BW := hid hB
  have y0 := hfr 0
  have y1 := hfr 1
  have y2 := hfr 2
  clear hn hB hfr
  cases ok with
  | false =>
    go_wp2
    refine bodyPost_ret (v := .tuple #[.agg #[.int .i64 0, .int .i64 0, .slice none 0 0], .int .i64 11]) (by simp [results, Try.results6, go_sem, z0, z1, z2]) rfl ⟨none, 0, 0, by rw [HTT.out]; simp [fxC, fxA, HOK.out, ansC, ansT, zT, mkT, kd, nn], below_set3 BW.out (R := w.heap.size + 1) (Nat.le_succ _) _ _ _, by rw [HTT.out]; simp only [fxA, HOK.out, ansT, Bool.and_self, if_true]; exact Ow.rd (Ow.none _ _ rfl _ (fun _ => True))⟩
  | true =>
    go_wp2
    refine bodyPost_ret (v := .tuple #[.agg #[.int .i64 (kd tt), .int .i64 (nn tt), .slice ax lx cx], .int .i64 0]) (by simp [results, Try.results6, go_sem, z0, z1, z2]) rfl ⟨ax, lx, cx, by rw [HTT.out]; simp [fxC, fxA, HOK.out, ansC, ansT], below_set3 BW.out (R := w.heap.size + 1) (Nat.le_succ _) _ _ _, ?_⟩
    rw [HTT.out]
    simp only [fxA, HOK.out, ansT, if_true, Bool.and_self]
    exact (rd_set3 HR3.out (R := w.heap.size + 1) (Nat.lt_irrefl _) _ _ _).imp fun _ _ => trivial
end Go.Proofs.Ytofdhoefphoaaaa.fexFace
