/- FilterEx, of the program; conditions: none. -/
import Derived.Test.YtofdhoefphoaaaaFexWithin
import Derived.Test.YtofdhoefphoaaaaApartImpl
import Derived.Test.YtofdhoefphoaaaaRowsImpl
namespace Go.Proofs.Ytofdhoefphoaaaa.fexImpl
open Go.RowKit Go.Deep Go base names trees built heldStore drawn ownTree ownExE rowsImpl netSem netImpl netOKImpl apartImpl fexSem fexWithin
set_option linter.unusedVariables false

/-- A row of expressions that was just built, above a place. -/
def RQ (B : Nat) (w : World) (D : Nat) (t : T) (l : Nat) (v : Value) : Prop := ∃ N, v = .slice (some ⟨N, 0, none⟩) l l ∧ Rd (fun b => B < b) 1048576 w D t (some ⟨N, 0, none⟩) l
theorem RQ.below {B : Nat} {w w' : World} {D l : Nat} {t : T} {v : Value} (h : RQ B w D t l v) (hb : Below w.heap.size w w') : RQ B w' D t l v := by
  obtain ⟨N, e, r⟩ := h
  exact ⟨N, e, r.below hb⟩
/-- The code of FilterEx, and its expression. -/
def fxC (ok inn : Bool) (D : Nat) (t : T) : Int := if ok then (if inn then ansC (okB D t 1 0) else 5) else 1
def fxA (ok inn : Bool) (D : Nat) (t : T) : T := if ok then (if inn then ansT (okB D t 1 0) t else zT) else zT
theorem filt_in {l : Nat → Nat} {s : Ss} {g x f : R} {o e : List Int} (h : netB l s g o e x f = true) (i : Nat) (hi : i < l 5) : (0 ≤ f i 2 ∧ f i 2 < 64) ∧ 0 ≤ f i 3 ∧ f i 3 < 64 := by
  unfold netB filtersB at h
  simp only [Bool.and_eq_true, decide_eq_true_eq] at h
  have h2 := allN_iff.1 h.2.2 i hi
  unfold filterB portsB inB at h2
  simp only [Bool.and_eq_true, decide_eq_true_eq] at h2
  omega

theorem row2q {B : Nat} {w : World} {D : Nat} {x y : T} {ax ay : Option Addr} {lx ly cx cy : Nat} (k : Int) (hB : B < w.heap.size) (hx : Rd (fun b => B < b) 1048576 w D x ax lx) (hy : Rd (fun b => B < b) 1048576 w D y ay ly) :
    Rd (fun b => B < b) 1048576 (w.alloc (.cells #[.int .i64 (kd x), .int .i64 (nn x), .slice ax lx cx, .int .i64 (kd y), .int .i64 (nn y), .slice ay ly cy] 33)) (D + 1) (ndT k 2 (two x y)) (some ⟨w.heap.size, 0, none⟩) 2 := by
  refine ⟨rfl, by omega, fun i hi => ?_⟩
  obtain rfl | rfl : i = 0 ∨ i = 1 := by omega
  · exact ⟨w.heap.size, 0, rfl, hB, cell_new _ _ _ rfl, cell_new _ _ _ rfl, ax, lx, cx, cell_new _ _ _ rfl, hx.below (by repeat (first | exact Below.refl _ _ | assumption | refine Below.drew ?_ | refine Below.alloc ?_ (by first | exact Nat.le_refl _ | omega | (simp; done) | (simp; omega)) _ | refine Below.setCell ?_ (by first | exact Nat.le_refl _ | omega | (simp; done) | (simp; omega)) _))⟩
  · exact ⟨w.heap.size, 0, rfl, hB, cell_new _ _ _ rfl, cell_new _ _ _ rfl, ay, ly, cy, cell_new _ _ _ rfl, hy.below (by repeat (first | exact Below.refl _ _ | assumption | refine Below.drew ?_ | refine Below.alloc ?_ (by first | exact Nat.le_refl _ | omega | (simp; done) | (simp; omega)) _ | refine Below.setCell ?_ (by first | exact Nat.le_refl _ | omega | (simp; done) | (simp; omega)) _))⟩

set_option maxHeartbeats 6400000 in
set_option maxRecDepth 8000 in
theorem fex_impl (p : Nat → Option Addr) (l c : Nat → Nat) (s : Ss) (g : R) (o e : List Int) (x f : R) (a b : Int) (w : World) (h : NetIs w p l s g o e x f) (hc0 : l 0 ≤ c 0) (hc1 : l 1 ≤ c 1) :
    Calls Try.prog 5 #[netV p l c, .int .i64 a, .int .i64 b] w fun e' w' => ∃ a' l' c', e' = .returned (.tuple #[.agg #[.int .i64 (kd (fxA (netB l s g o e x f) (inB a 0 (l 0 - 1) && inB b 0 (l 0 - 1)) (19 + l 5) (fexT f a b (l 5)))), .int .i64 (nn (fxA (netB l s g o e x f) (inB a 0 (l 0 - 1) && inB b 0 (l 0 - 1)) (19 + l 5) (fexT f a b (l 5)))), .slice a' l' c'], .int .i64 (fxC (netB l s g o e x f) (inB a 0 (l 0 - 1) && inB b 0 (l 0 - 1)) (19 + l 5) (fexT f a b (l 5)))]) ∧ Below w.heap.size w w' ∧ Ow w' (19 + l 5) (fxA (netB l s g o e x f) (inB a 0 (l 0 - 1) && inB b 0 (l 0 - 1)) (19 + l 5) (fexT f a b (l 5))) a' l' (fun q => w.heap.size ≤ q ∧ q < w'.heap.size) := by
  have HN := hid h
  have HM := hid h.routers.most
  have HP : Hid (netB l s g o e x f = true → ∀ i, i < l 5 → (0 ≤ f i 2 ∧ f i 2 < 64) ∧ 0 ≤ f i 3 ∧ f i 3 < 64) := fun hk => filt_in hk
  have m5 := h.filters.most
  unfold maxLen at m5
  have K0 := hid hc0
  have K1 := hid hc1
  clear h hc0 hc1
  have HC : Hid (∀ w8 : World, Below ((w.alloc (.cells #[.slice (p 0) (l 0) (c 0), .slice (p 1) (l 1) (c 1), .slice (p 2) (l 2) (c 2), .slice (p 3) (l 3) (c 3), .slice (p 4) (l 4) (c 4), .slice (p 5) (l 5) (c 5)] 29)).alloc (.cells #[.int .i64 0, .int .i64 0, .slice none 0 0] 33)).heap.size ((w.alloc (.cells #[.slice (p 0) (l 0) (c 0), .slice (p 1) (l 1) (c 1), .slice (p 2) (l 2) (c 2), .slice (p 3) (l 3) (c 3), .slice (p 4) (l 4) (c 4), .slice (p 5) (l 5) (c 5)] 29)).alloc (.cells #[.int .i64 0, .int .i64 0, .slice none 0 0] 33)) w8 → (w8.cell? ⟨w.heap.size, 0, none⟩ = some (.slice (p 0) (l 0) (c 0)) ∧ w8.cell? ⟨w.heap.size, 1, none⟩ = some (.slice (p 1) (l 1) (c 1)) ∧ w8.cell? ⟨w.heap.size, 2, none⟩ = some (.slice (p 2) (l 2) (c 2)) ∧ w8.cell? ⟨w.heap.size, 3, none⟩ = some (.slice (p 3) (l 3) (c 3)) ∧ w8.cell? ⟨w.heap.size, 4, none⟩ = some (.slice (p 4) (l 4) (c 4)) ∧ w8.cell? ⟨w.heap.size, 5, none⟩ = some (.slice (p 5) (l 5) (c 5))) ∧ (w8.cell? ⟨w.heap.size + 1, 0, none⟩ = some (.int .i64 0) ∧ w8.cell? ⟨w.heap.size + 1, 1, none⟩ = some (.int .i64 0) ∧ w8.cell? ⟨w.heap.size + 1, 2, none⟩ = some (.slice none 0 0)) ∧ (∀ x, w8.frozen? ⟨w.heap.size + 1, x, none⟩ = false) ∧ NetIs w8 p l s g o e x f ∧ Below w.heap.size w w8 ∧ w.heap.size + 1 < w8.heap.size) :=
    fun w8 hb => ⟨⟨keep hb (by simp [go_sem]), keep hb (by simp [go_sem]), keep hb (by simp [go_sem]), keep hb (by simp [go_sem]), keep hb (by simp [go_sem]), keep hb (by simp [go_sem])⟩, ⟨keep hb (by simp [go_sem]), keep hb (by simp [go_sem]), keep hb (by simp [go_sem])⟩, fun x => (hb.frozen (p := ⟨w.heap.size + 1, x, none⟩) (by simp)).trans (by simp [go_sem]), (HN.out.below (by repeat (first | exact Below.refl _ _ | assumption | refine Below.drew ?_ | refine Below.alloc ?_ (by first | exact Nat.le_refl _ | omega | (simp; done) | (simp; omega)) _ | refine Below.setCell ?_ (by first | exact Nat.le_refl _ | omega | (simp; done) | (simp; omega)) _))).below hb, (show Below w.heap.size w _ from (by repeat (first | exact Below.refl _ _ | assumption | refine Below.drew ?_ | refine Below.alloc ?_ (by first | exact Nat.le_refl _ | omega | (simp; done) | (simp; omega)) _ | refine Below.setCell ?_ (by first | exact Nat.le_refl _ | omega | (simp; done) | (simp; omega)) _))).trans (hb.mono (by simp; omega)), Nat.lt_of_lt_of_le (by simp) hb.size⟩
  obtain ⟨k1, hk1⟩ : ∃ q, netB l s g o e x f = q := ⟨_, rfl⟩
  obtain ⟨k2, hk2⟩ : ∃ q, (inB a 0 (l 0 - 1) && inB b 0 (l 0 - 1)) = q := ⟨_, rfl⟩
  rw [hk1] at HP
  rw [hk1, hk2]
  unfold netV
  go_enter Try.func5, Try.ntmps5
  go_wp2_with fail
  refine (netOK_impl p l c s g o e x f _ (HN.out.below (by repeat (first | exact Below.refl _ _ | assumption | refine Below.drew ?_ | refine Below.alloc ?_ (by first | exact Nat.le_refl _ | omega | (simp; done) | (simp; omega)) _ | refine Below.setCell ?_ (by first | exact Nat.le_refl _ | omega | (simp; done) | (simp; omega)) _))) K0.out K1.out).mono ?_
  rintro e' w1 ⟨rfl, hb1⟩
  have HB1 : Hid (Below ((w.alloc (.cells #[.slice (p 0) (l 0) (c 0), .slice (p 1) (l 1) (c 1), .slice (p 2) (l 2) (c 2), .slice (p 3) (l 3) (c 3), .slice (p 4) (l 4) (c 4), .slice (p 5) (l 5) (c 5)] 29)).alloc (.cells #[.int .i64 0, .int .i64 0, .slice none 0 0] 33)).heap.size ((w.alloc (.cells #[.slice (p 0) (l 0) (c 0), .slice (p 1) (l 1) (c 1), .slice (p 2) (l 2) (c 2), .slice (p 3) (l 3) (c 3), .slice (p 4) (l 4) (c 4), .slice (p 5) (l 5) (c 5)] 29)).alloc (.cells #[.int .i64 0, .int .i64 0, .slice none 0 0] 33)) w1) := hb1
  obtain ⟨⟨q0, q1, q2, q3, q4, q5⟩, ⟨z0, z1, z2⟩, hfr, hn, hB, hz⟩ := HC.out w1 HB1.out
  have NW := hid hn
  have BW := hid hB
  have y0 := hfr 0
  have y1 := hfr 1
  have y2 := hfr 2
  clear hn hB hfr
  clear hb1
  rw [hk1]
  cases k1 with
  | false =>
    go_wp2
    refine bodyPost_ret (v := .tuple #[.agg #[.int .i64 0, .int .i64 0, .slice none 0 0], .int .i64 1]) (by simp [results, Try.results5, go_sem, z0, z1, z2]) rfl ⟨none, 0, 0, by simp [fxC, fxA, zT, mkT, kd, nn], below_set3 BW.out (R := w.heap.size + 1) (Nat.le_succ _) _ _ _, Ow.none _ _ rfl _ _⟩
  | true =>
  go_wp2_with fail
  refine (routers_impl p l c a b _ HM.out).mono ?_
  rintro e' w2 ⟨rfl, hb2⟩
  have HB2 := hid (HB1.out.trans (hb2.mono HB1.out.size))
  clear hb2
  clear q0 q1 q2 q3 q4 q5 z0 z1 z2 y0 y1 y2 hz NW BW
  obtain ⟨⟨q0, q1, q2, q3, q4, q5⟩, ⟨z0, z1, z2⟩, hfr, hn, hB, hz⟩ := HC.out w2 HB2.out
  have NW := hid hn
  have BW := hid hB
  have y0 := hfr 0
  have y1 := hfr 1
  have y2 := hfr 2
  clear hn hB hfr
  rw [hk2]
  cases k2 with
  | false =>
    go_wp2
    refine bodyPost_ret (v := .tuple #[.agg #[.int .i64 0, .int .i64 0, .slice none 0 0], .int .i64 5]) (by simp [results, Try.results5, go_sem, z0, z1, z2]) rfl ⟨none, 0, 0, by simp [fxC, fxA, zT, mkT, kd, nn], below_set3 BW.out (R := w.heap.size + 1) (Nat.le_succ _) _ _ _, Ow.none _ _ rfl _ _⟩
  | true =>
  go_wp2_with fail
  refine (const_impl 0 _).mono ?_
  rintro e' w3 ⟨rfl, hb3⟩
  have HB3 := hid (HB2.out.trans (hb3.mono HB2.out.size))
  clear hb3
  clear q0 q1 q2 q3 q4 q5 z0 z1 z2 y0 y1 y2 hz NW BW
  obtain ⟨⟨q0, q1, q2, q3, q4, q5⟩, ⟨z0, z1, z2⟩, hfr, hn, hB, hz⟩ := HC.out w3 HB3.out
  have NW := hid hn
  have BW := hid hB
  have y0 := hfr 0
  have y1 := hfr 1
  have y2 := hfr 2
  clear hn hB hfr
  have hz0 : w.heap.size < w3.heap.size := by omega
  go_wp2
  clear q0 q1 q2 q3 q4 q5 z0 z1 z2 y0 y1 y2 hz NW BW hz0
  go_loopw [27] (fun i wr => ∃ (k : Nat) (ak : Option Addr) (lk ck : Nat), k ≤ l 5 ∧ i = .int .i64 k ∧ Below ((w.alloc (.cells #[.slice (p 0) (l 0) (c 0), .slice (p 1) (l 1) (c 1), .slice (p 2) (l 2) (c 2), .slice (p 3) (l 3) (c 3), .slice (p 4) (l 4) (c 4), .slice (p 5) (l 5) (c 5)] 29)).alloc (.cells #[.int .i64 0, .int .i64 0, .slice none 0 0] 33)).heap.size ((w.alloc (.cells #[.slice (p 0) (l 0) (c 0), .slice (p 1) (l 1) (c 1), .slice (p 2) (l 2) (c 2), .slice (p 3) (l 3) (c 3), .slice (p 4) (l 4) (c 4), .slice (p 5) (l 5) (c 5)] 29)).alloc (.cells #[.int .i64 0, .int .i64 0, .slice none 0 0] 33)) wr ∧ Rd (fun q => w3.heap.size < q) 1048576 wr (19 + k) (fexT f a b k) ak lk ∧
    (wr.cell? ⟨w3.heap.size, 0, none⟩ = some (.int .i64 (kd (fexT f a b k))) ∧ wr.cell? ⟨w3.heap.size, 1, none⟩ = some (.int .i64 (nn (fexT f a b k))) ∧ wr.cell? ⟨w3.heap.size, 2, none⟩ = some (.slice ak lk ck)) ∧ (∀ x, wr.frozen? ⟨w3.heap.size, x, none⟩ = false)) (fun i _ => l 5 - (intOf i).toNat)
  case atStart => exact ⟨0, none, 0, 0, Nat.zero_le _, rfl, HB3.out.trans ((show Below w3.heap.size w3 _ from (by repeat (first | exact Below.refl _ _ | assumption | refine Below.drew ?_ | refine Below.alloc ?_ (by first | exact Nat.le_refl _ | omega | (simp; done) | (simp; omega)) _ | refine Below.setCell ?_ (by first | exact Nat.le_refl _ | omega | (simp; done) | (simp; omega)) _))).mono HB3.out.size), rd_const _ _ _ _, ⟨by simp [go_sem, fexT, cT, mkT, kd], by simp [go_sem, fexT, cT, mkT, nn], by simp [go_sem]⟩, fun x => by simp [go_sem]⟩
  case round =>
    obtain ⟨k, ak, lk, ck, hk, rfl, hbel, hrk, ⟨c0, c1, c2⟩, hfe⟩ := hrel
    have HB := hid hbel
    have HR := hid hrk
    have HF := hid hfe
    have hE2 := World.block_lt_of_cell? _ _ c0
    dsimp only at hE2
    obtain ⟨⟨q0, q1, q2, q3, q4, q5⟩, ⟨z0, z1, z2⟩, hfr, hn, hB, hz⟩ := HC.out wr hbel
    have NW := hid hn
    have BW := hid hB
    have y0 := hfr 0
    have y1 := hfr 1
    have y2 := hfr 2
    clear hn hB hfr
    have hz0 : w.heap.size < wr.heap.size := by omega
    clear hbel hrk
    by_cases hlt : k < l 5
    · obtain ⟨⟨p1, p2⟩, p3, p4⟩ := HP.out (by first | rfl | trivial) k hlt
      obtain ⟨b0, off, e5, v0, v1, v2, v3⟩ := NW.out.filters.at4 hlt
      rw [e5] at q5 ⊢
      have hb0 := World.block_lt_of_cell? _ _ v0
      dsimp only at hb0
      have HX : Hid (fexT f a b (k + 1) = if f k 0 = a ∧ f k 1 = b then ndT 5 2 (two (fexT f a b k) (withinT (f k 2) (f k 3))) else fexT f a b k) := rfl
      generalize f k 0 = x0 at *
      generalize f k 1 = x1 at *
      generalize f k 2 = x2 at *
      generalize f k 3 = x3 at *
      have hkd := fexT_kind f a b k
      have HKD := hid hkd
      clear hkd
      obtain ⟨tk, htk⟩ : ∃ t, fexT f a b k = t := ⟨_, rfl⟩
      obtain ⟨tn, htn⟩ : ∃ t, fexT f a b (k + 1) = t := ⟨_, rfl⟩
      have HTN := hid htn
      rw [htk, htn] at HX
      rw [htk] at c0 c1 HR HKD
      clear htk htn
      have HEnd : Hid (∀ (wz : World) (az : Option Addr) (lz cz : Nat), Hid (Rd (fun q => w3.heap.size < q) 1048576 wz (19 + (k + 1)) tn az lz) → Below ((w.alloc (.cells #[.slice (p 0) (l 0) (c 0), .slice (p 1) (l 1) (c 1), .slice (p 2) (l 2) (c 2), .slice (p 3) (l 3) (c 3), .slice (p 4) (l 4) (c 4), .slice (p 5) (l 5) (c 5)] 29)).alloc (.cells #[.int .i64 0, .int .i64 0, .slice none 0 0] 33)).heap.size ((w.alloc (.cells #[.slice (p 0) (l 0) (c 0), .slice (p 1) (l 1) (c 1), .slice (p 2) (l 2) (c 2), .slice (p 3) (l 3) (c 3), .slice (p 4) (l 4) (c 4), .slice (p 5) (l 5) (c 5)] 29)).alloc (.cells #[.int .i64 0, .int .i64 0, .slice none 0 0] 33)) wz → (wz.cell? ⟨w3.heap.size, 0, none⟩ = some (.int .i64 (kd tn)) ∧ wz.cell? ⟨w3.heap.size, 1, none⟩ = some (.int .i64 (nn tn)) ∧ wz.cell? ⟨w3.heap.size, 2, none⟩ = some (.slice az lz cz)) → (∀ x, wz.frozen? ⟨w3.heap.size, x, none⟩ = false) →
          ∃ (k' : Nat) (ak : Option Addr) (lk ck : Nat), k' ≤ l 5 ∧ Value.int .i64 ((k : Int) + 1) = .int .i64 k' ∧ Below ((w.alloc (.cells #[.slice (p 0) (l 0) (c 0), .slice (p 1) (l 1) (c 1), .slice (p 2) (l 2) (c 2), .slice (p 3) (l 3) (c 3), .slice (p 4) (l 4) (c 4), .slice (p 5) (l 5) (c 5)] 29)).alloc (.cells #[.int .i64 0, .int .i64 0, .slice none 0 0] 33)).heap.size ((w.alloc (.cells #[.slice (p 0) (l 0) (c 0), .slice (p 1) (l 1) (c 1), .slice (p 2) (l 2) (c 2), .slice (p 3) (l 3) (c 3), .slice (p 4) (l 4) (c 4), .slice (p 5) (l 5) (c 5)] 29)).alloc (.cells #[.int .i64 0, .int .i64 0, .slice none 0 0] 33)) wz ∧ Rd (fun q => w3.heap.size < q) 1048576 wz (19 + k') (fexT f a b k') ak lk ∧
            (wz.cell? ⟨w3.heap.size, 0, none⟩ = some (.int .i64 (kd (fexT f a b k'))) ∧ wz.cell? ⟨w3.heap.size, 1, none⟩ = some (.int .i64 (nn (fexT f a b k'))) ∧ wz.cell? ⟨w3.heap.size, 2, none⟩ = some (.slice ak lk ck)) ∧ (∀ x, wz.frozen? ⟨w3.heap.size, x, none⟩ = false)) :=
        fun wz az lz cz hr hb hc hf => ⟨k + 1, az, lz, cz, by omega, by go_num, hb, by rw [HTN.out]; exact hr.out, by rw [HTN.out]; exact hc, hf⟩
      have HS3 := hid HB3.out.size
      rw [e5] at HEnd HB HS3
      by_cases h1 : x0 = a
      · subst h1
        by_cases h2 : x1 = b
        · subst h2
          have HX1 : Hid (tn = ndT 5 2 (two tk (withinT x2 x3))) := HX.out.trans (if_pos ⟨rfl, rfl⟩)
          clear HX
          go_wp2
          have b8 : Below wr.heap.size wr (wr.alloc (.cells #[.int .i64 x0, .int .i64 x1, .int .i64 x2, .int .i64 x3] 50)) := (by repeat (first | exact Below.refl _ _ | assumption | refine Below.drew ?_ | refine Below.alloc ?_ (by first | exact Nat.le_refl _ | omega | (simp; done) | (simp; omega)) _ | refine Below.setCell ?_ (by first | exact Nat.le_refl _ | omega | (simp; done) | (simp; omega)) _))
          have HR8 := hid (HR.out.below b8)
          have hc8 : ((wr.alloc (.cells #[.int .i64 x0, .int .i64 x1, .int .i64 x2, .int .i64 x3] 50)).cell? ⟨w3.heap.size, 0, none⟩ = some (.int .i64 (kd tk)) ∧ (wr.alloc (.cells #[.int .i64 x0, .int .i64 x1, .int .i64 x2, .int .i64 x3] 50)).cell? ⟨w3.heap.size, 1, none⟩ = some (.int .i64 (nn tk)) ∧ (wr.alloc (.cells #[.int .i64 x0, .int .i64 x1, .int .i64 x2, .int .i64 x3] 50)).cell? ⟨w3.heap.size, 2, none⟩ = some (.slice ak lk ck)) ∧ ((wr.alloc (.cells #[.int .i64 x0, .int .i64 x1, .int .i64 x2, .int .i64 x3] 50)).cell? ⟨wr.heap.size, 2, none⟩ = some (.int .i64 x2) ∧ (wr.alloc (.cells #[.int .i64 x0, .int .i64 x1, .int .i64 x2, .int .i64 x3] 50)).cell? ⟨wr.heap.size, 3, none⟩ = some (.int .i64 x3)) := ⟨⟨keep b8 c0, keep b8 c1, keep b8 c2⟩, by simp [go_sem], by simp [go_sem]⟩
          have HB8 : Hid (Below wr.heap.size wr (wr.alloc (.cells #[.int .i64 x0, .int .i64 x1, .int .i64 x2, .int .i64 x3] 50))) := b8
          generalize (wr.alloc (.cells #[.int .i64 x0, .int .i64 x1, .int .i64 x2, .int .i64 x3] 50)) = W8 at *
          have HK : Hid (∀ w8 : World, Below W8.heap.size W8 w8 → (w8.cell? ⟨w3.heap.size, 0, none⟩ = some (.int .i64 (kd tk)) ∧ w8.cell? ⟨w3.heap.size, 1, none⟩ = some (.int .i64 (nn tk)) ∧ w8.cell? ⟨w3.heap.size, 2, none⟩ = some (.slice ak lk ck)) ∧ (w8.cell? ⟨wr.heap.size, 2, none⟩ = some (.int .i64 x2) ∧ w8.cell? ⟨wr.heap.size, 3, none⟩ = some (.int .i64 x3)) ∧ (∀ x, w8.frozen? ⟨w3.heap.size, x, none⟩ = false) ∧ Below wr.heap.size wr w8 ∧ w3.heap.size < w8.heap.size) :=
            fun w8 h => ⟨⟨keep h hc8.1.1, keep h hc8.1.2.1, keep h hc8.1.2.2⟩, ⟨keep h hc8.2.1, keep h hc8.2.2⟩, fun x => ((HB8.out.trans (h.mono HB8.out.size)).frozen (p := ⟨w3.heap.size, x, none⟩) hE2).trans (HF.out x), HB8.out.trans (h.mono HB8.out.size), Nat.lt_of_lt_of_le hE2 (HB8.out.trans (h.mono HB8.out.size)).size⟩
          clear hc8 b8
          refine region_below (fun uu => ⟨#[.agg #[.slice (p 0) (l 0) (c 0), .slice (p 1) (l 1) (c 1), .slice (p 2) (l 2) (c 2), .slice (p 3) (l 3) (c 3), .slice (p 4) (l 4) (c 4), .slice (some ⟨b0, off, none⟩) (l 5) (c 5)], .int .i64 x0, .int .i64 x1, .pointer (some ⟨w.heap.size, 0, none⟩), undef, undef, .pointer (some ⟨w.heap.size + 1, 0, none⟩), .int .i64 0, .pointer (some ⟨w3.heap.size, 0, none⟩), undef, .pointer (some ⟨wr.heap.size, 0, none⟩), .bool false, .agg #[.slice (p 0) (l 0) (c 0), .slice (p 1) (l 1) (c 1), .slice (p 2) (l 2) (c 2), .slice (p 3) (l 3) (c 3), .slice (p 4) (l 4) (c 4), .slice (some ⟨b0, off, none⟩) (l 5) (c 5)], .bool true, .bool false, undef, .bool false, .agg #[.slice (p 0) (l 0) (c 0), .slice (p 1) (l 1) (c 1), .slice (p 2) (l 2) (c 2), .slice (p 3) (l 3) (c 3), .slice (p 4) (l 4) (c 4), .slice (some ⟨b0, off, none⟩) (l 5) (c 5)], .int .i64 x0, .int .i64 x1, .bool true, .bool false, undef, .agg #[.int .i64 2, .int .i64 0, .slice none 0 0], .pointer (some ⟨w.heap.size, 5, none⟩), .slice (some ⟨b0, off, none⟩) (l 5) (c 5), .int .i64 (l 5 : Int), .int .i64 (k : Int), .bool true, .pointer (some ⟨b0, off + k * 4, none⟩), .agg #[.int .i64 x0, .int .i64 x1, .int .i64 x2, .int .i64 x3], .pointer (some ⟨wr.heap.size, 0, none⟩), .int .i64 x0, .int .i64 x0, .bool true, .bool true, .pointer (some ⟨wr.heap.size, 1, none⟩), .int .i64 x1, .int .i64 x1, .bool true, .bool true, uu 41, uu 42, uu 43, uu 44, uu 45, uu 46, uu 47, uu 48, u49, undef, undef, undef, undef], []⟩) (fun i => [41, 42, 43, 44, 45, 46, 47, 48].getD i 0) (fun i v w8 => match i with | 0 => XV (fun q => w3.heap.size < q) w8 (19 + k) (tk) v | 1 => v = .pointer (some ⟨wr.heap.size, 2, none⟩) | 2 => v = .int .i64 x2 | 3 => v = .pointer (some ⟨wr.heap.size, 3, none⟩) | 4 => v = .int .i64 x3 | 5 => XV (fun q => w3.heap.size < q) w8 (18) (withinT x2 x3) v | 6 => RQ w3.heap.size w8 (19 + k + 1) (ndT 5 2 (two tk (withinT x2 x3))) 2 v | 7 => XV (fun q => w3.heap.size < q) w8 (19 + k + 1) (ndT 5 2 (two tk (withinT x2 x3))) v | _ => True) W8 8 (fun k => match k with | 41 => u41 | 42 => u42 | 43 => u43 | 44 => u44 | 45 => u45 | 46 => u46 | 47 => u47 | 48 => u48 | _ => undef) (by rfl) (by kernel_rfl) (by rfl) ⟨by kernel_rfl, by kernel_rfl, by kernel_rfl, by decide⟩ (by kernel_rfl) (Below.refl _ _) ?hput ?hinj ?stable ?step ?last
          case hput =>
            intro i hi uu v
            match i, hi with
            | 0, _ => rfl
            | 1, _ => rfl
            | 2, _ => rfl
            | 3, _ => rfl
            | 4, _ => rfl
            | 5, _ => rfl
            | 6, _ => rfl
            | 7, _ => rfl
            | i + 8, hi => exact absurd hi (by omega)
          case hinj =>
            intro i j hi hj h
            exact slots_inj [41, 42, 43, 44, 45, 46, 47, 48] (by decide) hi hj h
          case stable =>
            intro i v w8 w9 hb h
            match i, h with
            | 0, h => exact h.below hb
            | 1, h => exact h
            | 2, h => exact h
            | 3, h => exact h
            | 4, h => exact h
            | 5, h => exact h.below hb
            | 6, h => exact h.below hb
            | 7, h => exact h.below hb
            | _ + 8, h => trivial
          case step =>
            intro i hi uu w8 S8 hdep
            match i, hi with
            | 0, _ =>
              clear hdep
              refine ⟨_, rfl, fun K' hK => ?_⟩
              obtain ⟨⟨c0, c1, c2⟩, ⟨d2, d3⟩, -, -, -⟩ := HK.out w8 S8
              go_simp
              exact hK.out _ _ (Below.refl _ _) ⟨ak, lk, ck, HR8.out.below S8, rfl⟩
            | 1, _ =>
              clear hdep
              refine ⟨_, rfl, fun K' hK => ?_⟩
              go_simp
              exact hK.out _ _ (Below.refl _ _) rfl
            | 2, _ =>
              have h1 : (uu 42) = .pointer (some ⟨wr.heap.size, 2, none⟩) := hdep 1 (by kernel_rfl)
              clear hdep
              refine ⟨_, rfl, fun K' hK => ?_⟩
              obtain ⟨⟨c0, c1, c2⟩, ⟨d2, d3⟩, -, -, -⟩ := HK.out w8 S8
              simp only [h1] at hK ⊢
              go_simp
              exact hK.out _ _ (Below.refl _ _) rfl
            | 3, _ =>
              clear hdep
              refine ⟨_, rfl, fun K' hK => ?_⟩
              go_simp
              exact hK.out _ _ (Below.refl _ _) rfl
            | 4, _ =>
              have h3 : (uu 44) = .pointer (some ⟨wr.heap.size, 3, none⟩) := hdep 3 (by kernel_rfl)
              clear hdep
              refine ⟨_, rfl, fun K' hK => ?_⟩
              obtain ⟨⟨c0, c1, c2⟩, ⟨d2, d3⟩, -, -, -⟩ := HK.out w8 S8
              simp only [h3] at hK ⊢
              go_simp
              exact hK.out _ _ (Below.refl _ _) rfl
            | 5, _ =>
              have h2 : (uu 43) = .int .i64 x2 := hdep 2 (by kernel_rfl)
              have h4 : (uu 45) = .int .i64 x3 := hdep 4 (by kernel_rfl)
              clear hdep
              refine ⟨_, rfl, fun K' hK => ?_⟩
              obtain ⟨-, -, -, -, hz8⟩ := HK.out w8 S8
              simp only [h2, h4] at hK ⊢
              go_simp
              refine (within_impl x2 x3 _ p1 p2 p3 p4).mono ?_
              rintro e w9 ⟨v, rfl, ⟨a9, l9, c9, r9, e9⟩, hb9⟩
              subst e9
              exact hK.out _ _ hb9 ⟨a9, l9, c9, r9.imp fun b hb => by omega, rfl⟩
            | 6, _ =>
              have h0 : XV (fun q => w3.heap.size < q) w8 (19 + k) (tk) (uu 41) := hdep 0 (by kernel_rfl)
              have h5 : XV (fun q => w3.heap.size < q) w8 (18) (withinT x2 x3) (uu 46) := hdep 5 (by kernel_rfl)
              clear hdep
              refine ⟨_, rfl, fun K' hK => ?_⟩
              obtain ⟨-, -, -, -, hz8⟩ := HK.out w8 S8
              obtain ⟨a0, l0, c0, r0, e0⟩ := h0
              obtain ⟨a5, l5, c5, r5, e5⟩ := h5
              simp only [e0, e5] at hK ⊢
              go_simp
              exact hK.out _ _ (by repeat (first | exact Below.refl _ _ | assumption | refine Below.drew ?_ | refine Below.alloc ?_ (by first | exact Nat.le_refl _ | omega | (simp; done) | (simp; omega)) _ | refine Below.setCell ?_ (by first | exact Nat.le_refl _ | omega | (simp; done) | (simp; omega)) _)) ⟨w8.heap.size, rfl, row2q 5 hz8 r0 (r5.more (by omega))⟩
            | 7, _ =>
              have h6 : RQ w3.heap.size w8 (19 + k + 1) (ndT 5 2 (two tk (withinT x2 x3))) 2 (uu 47) := hdep 6 (by kernel_rfl)
              clear hdep
              refine ⟨_, rfl, fun K' hK => ?_⟩
              obtain ⟨N6, e6, r6⟩ := h6
              simp only [e6] at hK ⊢
              go_simp
              refine (new_impl 5 _ _ _ _).mono ?_
              rintro e w9 ⟨rfl, hb9⟩
              exact hK.out _ _ hb9 ⟨_, _, _, r6.below hb9, rfl⟩
            | i + 8, hi => exact absurd hi (by omega)
          case last =>
            intro uu w8 S8 hall
            have h7 : XV (fun q => w3.heap.size < q) w8 (19 + k + 1) (ndT 5 2 (two tk (withinT x2 x3))) (uu 48) := hall 7 (by decide)
            clear hall
            refine ⟨_, rfl, fun K' hK => ?_⟩
            obtain ⟨⟨c0, c1, c2⟩, -, hfr, hbb, hzz⟩ := HK.out w8 S8
            have g0 := hfr 0
            have g1 := hfr 1
            have g2 := hfr 2
            obtain ⟨a8, l8, c8, r8, e8⟩ := h7
            simp only [e8] at hK ⊢
            go_simp
            refine hK.out _ _ ?_
            clear hK K'
            (try simp only [Exit.then])
            have HR9 := hid (rd_set3 r8 (R := w3.heap.size) (Nat.lt_irrefl _) (.int .i64 (kd (ndT 5 2 (two tk (withinT x2 x3))))) (.int .i64 (nn (ndT 5 2 (two tk (withinT x2 x3))))) (.slice a8 l8 c8))
            go_wp2
            go_roundw
            case rel =>
              refine HEnd.out _ a8 l8 c8 (by rw [HX1.out]; exact HR9) (below_set3 (HB.out.trans (hbb.mono HB.out.size)) (R := w3.heap.size) HS3.out _ _ _) (by rw [HX1.out]; exact set3_cells c0 c1 c2 _ _ _) (fun x => (set3_froz _ _ _ _ _ _).trans (hfr x))
            case measure => simp [intOf]; omega
        · have HX1 : Hid (tn = tk) := HX.out.trans (if_neg fun h => h2 h.2)
          have e2 : (x1 == b) = false := by simp [h2]
          clear HX h2
          go_wp2
          go_roundw
          case rel => exact HEnd.out _ _ _ _ (by rw [HX1.out]; exact hid ((HR.out.below (by repeat (first | exact Below.refl _ _ | assumption | refine Below.drew ?_ | refine Below.alloc ?_ (by first | exact Nat.le_refl _ | omega | (simp; done) | (simp; omega)) _ | refine Below.setCell ?_ (by first | exact Nat.le_refl _ | omega | (simp; done) | (simp; omega)) _))).more (by omega))) (HB.out.trans ((show Below wr.heap.size wr _ from (by repeat (first | exact Below.refl _ _ | assumption | refine Below.drew ?_ | refine Below.alloc ?_ (by first | exact Nat.le_refl _ | omega | (simp; done) | (simp; omega)) _ | refine Below.setCell ?_ (by first | exact Nat.le_refl _ | omega | (simp; done) | (simp; omega)) _))).mono HB.out.size)) (by rw [HX1.out]; exact ⟨keep (by repeat (first | exact Below.refl _ _ | assumption | refine Below.drew ?_ | refine Below.alloc ?_ (by first | exact Nat.le_refl _ | omega | (simp; done) | (simp; omega)) _ | refine Below.setCell ?_ (by first | exact Nat.le_refl _ | omega | (simp; done) | (simp; omega)) _)) c0, keep (by repeat (first | exact Below.refl _ _ | assumption | refine Below.drew ?_ | refine Below.alloc ?_ (by first | exact Nat.le_refl _ | omega | (simp; done) | (simp; omega)) _ | refine Below.setCell ?_ (by first | exact Nat.le_refl _ | omega | (simp; done) | (simp; omega)) _)) c1, keep (by repeat (first | exact Below.refl _ _ | assumption | refine Below.drew ?_ | refine Below.alloc ?_ (by first | exact Nat.le_refl _ | omega | (simp; done) | (simp; omega)) _ | refine Below.setCell ?_ (by first | exact Nat.le_refl _ | omega | (simp; done) | (simp; omega)) _)) c2⟩) (fun x => (Below.frozen (show Below wr.heap.size wr _ from (by repeat (first | exact Below.refl _ _ | assumption | refine Below.drew ?_ | refine Below.alloc ?_ (by first | exact Nat.le_refl _ | omega | (simp; done) | (simp; omega)) _ | refine Below.setCell ?_ (by first | exact Nat.le_refl _ | omega | (simp; done) | (simp; omega)) _))) (p := ⟨w3.heap.size, x, none⟩) hE2).trans (HF.out x))
          case measure => simp [intOf]; omega
      · have HX1 : Hid (tn = tk) := HX.out.trans (if_neg fun h => h1 h.1)
        have e1 : (x0 == a) = false := by simp [h1]
        clear HX h1
        go_wp2
        go_roundw
        case rel => exact HEnd.out _ _ _ _ (by rw [HX1.out]; exact hid ((HR.out.below (by repeat (first | exact Below.refl _ _ | assumption | refine Below.drew ?_ | refine Below.alloc ?_ (by first | exact Nat.le_refl _ | omega | (simp; done) | (simp; omega)) _ | refine Below.setCell ?_ (by first | exact Nat.le_refl _ | omega | (simp; done) | (simp; omega)) _))).more (by omega))) (HB.out.trans ((show Below wr.heap.size wr _ from (by repeat (first | exact Below.refl _ _ | assumption | refine Below.drew ?_ | refine Below.alloc ?_ (by first | exact Nat.le_refl _ | omega | (simp; done) | (simp; omega)) _ | refine Below.setCell ?_ (by first | exact Nat.le_refl _ | omega | (simp; done) | (simp; omega)) _))).mono HB.out.size)) (by rw [HX1.out]; exact ⟨keep (by repeat (first | exact Below.refl _ _ | assumption | refine Below.drew ?_ | refine Below.alloc ?_ (by first | exact Nat.le_refl _ | omega | (simp; done) | (simp; omega)) _ | refine Below.setCell ?_ (by first | exact Nat.le_refl _ | omega | (simp; done) | (simp; omega)) _)) c0, keep (by repeat (first | exact Below.refl _ _ | assumption | refine Below.drew ?_ | refine Below.alloc ?_ (by first | exact Nat.le_refl _ | omega | (simp; done) | (simp; omega)) _ | refine Below.setCell ?_ (by first | exact Nat.le_refl _ | omega | (simp; done) | (simp; omega)) _)) c1, keep (by repeat (first | exact Below.refl _ _ | assumption | refine Below.drew ?_ | refine Below.alloc ?_ (by first | exact Nat.le_refl _ | omega | (simp; done) | (simp; omega)) _ | refine Below.setCell ?_ (by first | exact Nat.le_refl _ | omega | (simp; done) | (simp; omega)) _)) c2⟩) (fun x => (Below.frozen (show Below wr.heap.size wr _ from (by repeat (first | exact Below.refl _ _ | assumption | refine Below.drew ?_ | refine Below.alloc ?_ (by first | exact Nat.le_refl _ | omega | (simp; done) | (simp; omega)) _ | refine Below.setCell ?_ (by first | exact Nat.le_refl _ | omega | (simp; done) | (simp; omega)) _))) (p := ⟨w3.heap.size, x, none⟩) hE2).trans (HF.out x))
        case measure => simp [intOf]; omega
    · have e : k = l 5 := by omega
      subst e
      go_wp2_with fail
      refine (answered_impl (19 + l 5) _ _ _ _ _ (HR.out.imp fun _ _ => trivial)).mono ?_
      rintro e' w5 ⟨a', l', c', rfl, hb5, ho⟩
      have HB5 := hid (HB.out.trans (hb5.mono HB.out.size))
      have HO := hid ho
      have HZR : Hid (w.heap.size + 1 < wr.heap.size) := hz
      clear q0 q1 q2 q3 q4 q5 z0 z1 z2 y0 y1 y2 hz NW BW
      obtain ⟨⟨q0, q1, q2, q3, q4, q5⟩, ⟨z0, z1, z2⟩, hfr, hn, hB, hz⟩ := HC.out w5 HB5.out
      have NW := hid hn
      have BW := hid hB
      have y0 := hfr 0
      have y1 := hfr 1
      have y2 := hfr 2
      clear hn hB hfr
      clear hb5 ho c0 c1 c2
      have hR : ∀ q, (wr.heap.size ≤ q ∧ q < w5.heap.size) → q ≠ w.heap.size + 1 := fun q hq e => by have := HZR.out; omega
      have HRe := hid hR
      clear hR
      go_wp2
      refine bodyPost_ret (v := .tuple #[.agg #[.int .i64 (kd (ansT (okB (19 + l 5) (fexT f a b (l 5)) 1 0) (fexT f a b (l 5)))), .int .i64 (nn (ansT (okB (19 + l 5) (fexT f a b (l 5)) 1 0) (fexT f a b (l 5)))), .slice a' l' c'], .int .i64 (ansC (okB (19 + l 5) (fexT f a b (l 5)) 1 0))]) (by simp [results, Try.results5, go_sem, z0, z1, z2]) rfl ⟨a', l', c', by simp [fxC, fxA], below_set3 BW.out (R := w.heap.size + 1) (Nat.le_succ _) _ _ _, ?_⟩
      simp only [fxA, if_true]
      exact ((HO.out.kept fun q hq _ => set3_heap w5 (HRe.out q hq) _ _ _).sub fun q hq => ⟨by have := hq.1; have := HZR.out; omega, by have := hq.2; simp [World.setCell]; omega⟩)
end Go.Proofs.Ytofdhoefphoaaaa.fexImpl
