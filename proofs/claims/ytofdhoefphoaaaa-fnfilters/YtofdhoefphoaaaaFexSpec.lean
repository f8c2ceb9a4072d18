/- The expression of a router's filters, of the specification; conditions: ports that may be. -/
import Derived.Test.YtofdhoefphoaaaaFexNum
import Derived.Test.YtofdhoefphoaaaaFexImpl
import Derived.Test.YtofdhoefphoaaaaNetOKSpec
namespace Go.Proofs.Ytofdhoefphoaaaa.fexSpec
open Go.RowKit Go.Deep Go base names trees built heldStore drawn ownTree ownEx rowsImpl lessImpl lessSpec bitRows netSem netSpec netOKSpec fexSem fexNum fexImpl
set_option linter.unusedVariables false

theorem row1q {B : Nat} {w : World} {D : Nat} {x : T} {ax : Option Addr} {lx cx : Nat} (k : Int) (hB : B < w.heap.size) (hx : Rd (fun b => B < b) 1048576 w D x ax lx) :
    Rd (fun b => B < b) 1048576 (w.alloc (.cells #[.int .i64 (kd x), .int .i64 (nn x), .slice ax lx cx] 33)) (D + 1) (ndT k 1 (one x)) (some ⟨w.heap.size, 0, none⟩) 1 := by
  refine ⟨rfl, by omega, fun i hi => ?_⟩
  obtain rfl : i = 0 := by omega
  exact ⟨w.heap.size, 0, rfl, hB, cell_new _ _ _ rfl, cell_new _ _ _ rfl, ax, lx, cx, cell_new _ _ _ rfl, hx.below (by repeat (first | exact Below.refl _ _ | assumption | refine Below.drew ?_ | refine Below.alloc ?_ (by first | exact Nat.le_refl _ | omega | (simp; done) | (simp; omega)) _ | refine Below.setCell ?_ (by first | exact Nat.le_refl _ | omega | (simp; done) | (simp; omega)) _))⟩
set_option maxHeartbeats 6400000 in
set_option maxRecDepth 8000 in
theorem filter_spec (p : Nat → Option Addr) (l c : Nat → Nat) (f : R) (a b : Int) (w : World) (h : Row 4 w (p 5) (l 5) f) (hin : ∀ i, i < l 5 → (0 ≤ f i 2 ∧ f i 2 < 64) ∧ 0 ≤ f i 3 ∧ f i 3 < 64) :
    Calls Try.prog 21 #[netV p l c, .int .i64 a, .int .i64 b] w fun e' w' => ∃ v, e' = .returned v ∧ XV (fun q => w.heap.size ≤ q) w' (19 + l 5) (fexT f a b (l 5)) v ∧ Below w.heap.size w w' := by
  obtain ⟨i0, hi0, hz0, hz1, hz2⟩ := info_parts info_ex
  have HI := hid hi0
  have HZ0 := hid hz0
  have HZ1 := hid hz1
  have HZ2 := hid hz2
  clear hi0 hz0 hz1 hz2
  have m5 := h.most
  unfold maxLen at m5
  have HR5 := hid h
  have HIn := hid hin
  clear h hin
  have HC : Hid (∀ w8 : World, Below ((w.alloc (.cells #[.slice (p 0) (l 0) (c 0), .slice (p 1) (l 1) (c 1), .slice (p 2) (l 2) (c 2), .slice (p 3) (l 3) (c 3), .slice (p 4) (l 4) (c 4), .slice (p 5) (l 5) (c 5)] 29)).alloc (.cells #[.int .i64 0, .int .i64 0, .slice none 0 0] 33)).heap.size ((w.alloc (.cells #[.slice (p 0) (l 0) (c 0), .slice (p 1) (l 1) (c 1), .slice (p 2) (l 2) (c 2), .slice (p 3) (l 3) (c 3), .slice (p 4) (l 4) (c 4), .slice (p 5) (l 5) (c 5)] 29)).alloc (.cells #[.int .i64 0, .int .i64 0, .slice none 0 0] 33)) w8 → w8.cell? ⟨w.heap.size, 5, none⟩ = some (.slice (p 5) (l 5) (c 5)) ∧ (w8.cell? ⟨w.heap.size + 1, 0, none⟩ = some (.int .i64 0) ∧ w8.cell? ⟨w.heap.size + 1, 1, none⟩ = some (.int .i64 0) ∧ w8.cell? ⟨w.heap.size + 1, 2, none⟩ = some (.slice none 0 0)) ∧ (∀ x, w8.frozen? ⟨w.heap.size + 1, x, none⟩ = false) ∧ Row 4 w8 (p 5) (l 5) f ∧ Below w.heap.size w w8 ∧ w.heap.size + 1 < w8.heap.size) :=
    fun w8 hb => ⟨keep hb (by simp [go_sem]), ⟨keep hb (by simp [go_sem]), keep hb (by simp [go_sem]), keep hb (by simp [go_sem])⟩, fun x => (hb.frozen (p := ⟨w.heap.size + 1, x, none⟩) (by simp)).trans (by simp [go_sem]), (HR5.out.below (by repeat (first | exact Below.refl _ _ | assumption | refine Below.drew ?_ | refine Below.alloc ?_ (by first | exact Nat.le_refl _ | omega | (simp; done) | (simp; omega)) _ | refine Below.setCell ?_ (by first | exact Nat.le_refl _ | omega | (simp; done) | (simp; omega)) _))).below hb, (show Below w.heap.size w _ from (by repeat (first | exact Below.refl _ _ | assumption | refine Below.drew ?_ | refine Below.alloc ?_ (by first | exact Nat.le_refl _ | omega | (simp; done) | (simp; omega)) _ | refine Below.setCell ?_ (by first | exact Nat.le_refl _ | omega | (simp; done) | (simp; omega)) _))).trans (hb.mono (by simp; omega)), Nat.lt_of_lt_of_le (by simp) hb.size⟩
  have HG0 := hid (GrowR.made ((w.alloc (.cells #[.slice (p 0) (l 0) (c 0), .slice (p 1) (l 1) (c 1), .slice (p 2) (l 2) (c 2), .slice (p 3) (l 3) (c 3), .slice (p 4) (l 4) (c 4), .slice (p 5) (l 5) (c 5)] 29)).alloc (.cells #[.int .i64 0, .int .i64 0, .slice none 0 0] 33)) (B := w.heap.size + 1 + 1) (fun _ => False) 0 portT (by simp))
  have hz : ((w.alloc (.cells #[.slice (p 0) (l 0) (c 0), .slice (p 1) (l 1) (c 1), .slice (p 2) (l 2) (c 2), .slice (p 3) (l 3) (c 3), .slice (p 4) (l 4) (c 4), .slice (p 5) (l 5) (c 5)] 29)).alloc (.cells #[.int .i64 0, .int .i64 0, .slice none 0 0] 33)).heap.size = w.heap.size + 1 + 1 := by simp
  have HSB := hid hz
  rw [hz] at HG0
  clear hz
  have HB0 : Hid (Below ((w.alloc (.cells #[.slice (p 0) (l 0) (c 0), .slice (p 1) (l 1) (c 1), .slice (p 2) (l 2) (c 2), .slice (p 3) (l 3) (c 3), .slice (p 4) (l 4) (c 4), .slice (p 5) (l 5) (c 5)] 29)).alloc (.cells #[.int .i64 0, .int .i64 0, .slice none 0 0] 33)).heap.size ((w.alloc (.cells #[.slice (p 0) (l 0) (c 0), .slice (p 1) (l 1) (c 1), .slice (p 2) (l 2) (c 2), .slice (p 3) (l 3) (c 3), .slice (p 4) (l 4) (c 4), .slice (p 5) (l 5) (c 5)] 29)).alloc (.cells #[.int .i64 0, .int .i64 0, .slice none 0 0] 33)) (((w.alloc (.cells #[.slice (p 0) (l 0) (c 0), .slice (p 1) (l 1) (c 1), .slice (p 2) (l 2) (c 2), .slice (p 3) (l 3) (c 3), .slice (p 4) (l 4) (c 4), .slice (p 5) (l 5) (c 5)] 29)).alloc (.cells #[.int .i64 0, .int .i64 0, .slice none 0 0] 33)).alloc (.cells #[] 33))) := (by repeat (first | exact Below.refl _ _ | assumption | refine Below.drew ?_ | refine Below.alloc ?_ (by first | exact Nat.le_refl _ | omega | (simp; done) | (simp; omega)) _ | refine Below.setCell ?_ (by first | exact Nat.le_refl _ | omega | (simp; done) | (simp; omega)) _))
  unfold netV
  go_enter Try.func21, Try.ntmps21
  go_wp2
  go_loopw [8, 7] (fun i v wr => ∃ k : Nat, k ≤ 4 ∧ i = .int .i64 k ∧ Below ((w.alloc (.cells #[.slice (p 0) (l 0) (c 0), .slice (p 1) (l 1) (c 1), .slice (p 2) (l 2) (c 2), .slice (p 3) (l 3) (c 3), .slice (p 4) (l 4) (c 4), .slice (p 5) (l 5) (c 5)] 29)).alloc (.cells #[.int .i64 0, .int .i64 0, .slice none 0 0] 33)).heap.size ((w.alloc (.cells #[.slice (p 0) (l 0) (c 0), .slice (p 1) (l 1) (c 1), .slice (p 2) (l 2) (c 2), .slice (p 3) (l 3) (c 3), .slice (p 4) (l 4) (c 4), .slice (p 5) (l 5) (c 5)] 29)).alloc (.cells #[.int .i64 0, .int .i64 0, .slice none 0 0] 33)) wr ∧ GrowR wr (w.heap.size + 1 + 1) (fun _ => False) v k 0 portT) (fun i _ _ => 4 - (intOf i).toNat)
  case atStart => exact ⟨0, Nat.zero_le _, rfl, HB0.out, HG0.out⟩
  case round =>
    clear HG0
    obtain ⟨k, hk, rfl, hb, hgr⟩ := hrel
    have HB := hid hb
    have HG := hid hgr
    have hsz : w.heap.size + 1 + 1 ≤ wr.heap.size := by have := hb.size; have := HSB.out; omega
    clear hb hgr
    by_cases hlt : k < 4
    · have dk : decide ((k : Int) < 4) = true := decide_eq_true (by omega)
      have HA1 : Hid (Below wr.heap.size wr (wr.alloc (.cells #[.int .i64 1, .int .i64 (k : Int), .slice none 0 0] 33))) := (by repeat (first | exact Below.refl _ _ | assumption | refine Below.drew ?_ | refine Below.alloc ?_ (by first | exact Nat.le_refl _ | omega | (simp; done) | (simp; omega)) _ | refine Below.setCell ?_ (by first | exact Nat.le_refl _ | omega | (simp; done) | (simp; omega)) _))
      obtain ⟨xs, hxs⟩ := (HG.out.below HA1.out).owns
      have HX1 := hid hxs
      clear hxs
      go_wp2_with (at_builtin; (refine wpList_append_own_at _ rfl _ _ 31 rfl (w.heap.size + 1 + 1) 33 i0 _ 3 40 Try.underlying31 HI.out HZ0.out HZ1.out HZ2.out rfl (by decide) _ _ _ rfl HX1.out ⟨wr.heap.size, 0, none⟩ 1 1 [.int .i64 1, .int .i64 (k : Int), .slice none 0 0] rfl rfl (three_at (by simp [go_sem]) (by simp [go_sem]) (by simp [go_sem])) (fun u hu => by simp at hu; rcases hu with rfl | rfl | rfl <;> rfl) (by unfold maxLen; omega) (by omega) (by simp; omega) ?_); intro v2 w2 hown2 hg2 hnil2 hat2)
      have HG2 := hid ((HG.out.below HA1.out).next (a' := none) (l' := 0) (c' := 0) (by simp; omega) (rd_leaf _ _ _ rfl _) HX1.out (by
        have e1 : nn (kid portT k) = (k : Int) := by show ((0 * 4 + k : Nat) : Int) = _; omega
        rw [e1]; exact hown2) hg2 hat2)
      have HB2 : Hid (Below ((w.alloc (.cells #[.slice (p 0) (l 0) (c 0), .slice (p 1) (l 1) (c 1), .slice (p 2) (l 2) (c 2), .slice (p 3) (l 3) (c 3), .slice (p 4) (l 4) (c 4), .slice (p 5) (l 5) (c 5)] 29)).alloc (.cells #[.int .i64 0, .int .i64 0, .slice none 0 0] 33)).heap.size ((w.alloc (.cells #[.slice (p 0) (l 0) (c 0), .slice (p 1) (l 1) (c 1), .slice (p 2) (l 2) (c 2), .slice (p 3) (l 3) (c 3), .slice (p 4) (l 4) (c 4), .slice (p 5) (l 5) (c 5)] 29)).alloc (.cells #[.int .i64 0, .int .i64 0, .slice none 0 0] 33)) w2) := (HB.out.trans (HA1.out.mono HB.out.size)).grown hg2 (by simp [HSB.out]; omega) (fun j hj => by have := (World.ownsRow.lt HX1.out j hj).1; have := HSB.out; omega)
      clear hown2 hg2 hnil2 hat2
      go_wp2
      exact ⟨⟨k + 1, by omega, by go_num, HB2.out, HG2.out⟩, by simp [intOf]; omega⟩
    · have e4 : k = 4 := by omega
      obtain ⟨a2, cp, e2, hc2, ho2⟩ := HG.out.done (show ln portT = k by rw [e4]; rfl) (by omega)
      subst e2
      have HO2 : Hid (Rd (fun q => w.heap.size + 1 < q) 1048576 wr 1 portT a2 4) := by
        have := ho2.imp (q' := fun q => w.heap.size + 1 < q) fun b hb => by rcases hb with hb | hb; exact absurd hb.1 id; omega
        rw [e4] at this
        exact this
      subst e4
      clear ho2
      generalize hq : wr = w1 at *
      clear hq
      go_wp2_with fail
      refine (const_spec 0 _).mono ?_
      rintro e' w3 ⟨rfl, hb3⟩
      have HB3 := hid (HB.out.trans (hb3.mono HB.out.size))
      have HO3 : Hid (Rd (fun q => q < w3.heap.size) 1048576 w3 1 portT a2 4) := (rd_old (HO2.out.below hb3)).imp fun q hq => hq.2
      obtain ⟨q5, -, -, -, -, hz0⟩ := HC.out w3 HB3.out
      have hz0' : w.heap.size < w3.heap.size := by omega
      clear hb3 HO2
      go_wp2
      go_loopw [10] (fun i wr => ∃ (k : Nat) (ak : Option Addr) (lk ck : Nat), k ≤ l 5 ∧ i = .int .i64 k ∧ Below ((w.alloc (.cells #[.slice (p 0) (l 0) (c 0), .slice (p 1) (l 1) (c 1), .slice (p 2) (l 2) (c 2), .slice (p 3) (l 3) (c 3), .slice (p 4) (l 4) (c 4), .slice (p 5) (l 5) (c 5)] 29)).alloc (.cells #[.int .i64 0, .int .i64 0, .slice none 0 0] 33)).heap.size ((w.alloc (.cells #[.slice (p 0) (l 0) (c 0), .slice (p 1) (l 1) (c 1), .slice (p 2) (l 2) (c 2), .slice (p 3) (l 3) (c 3), .slice (p 4) (l 4) (c 4), .slice (p 5) (l 5) (c 5)] 29)).alloc (.cells #[.int .i64 0, .int .i64 0, .slice none 0 0] 33)) wr ∧ Rd (fun q => w3.heap.size < q) 1048576 wr (19 + k) (fexT f a b k) ak lk ∧ Rd (fun q => q < w3.heap.size) 1048576 wr 1 portT a2 4 ∧
        (wr.cell? ⟨w3.heap.size, 0, none⟩ = some (.int .i64 (kd (fexT f a b k))) ∧ wr.cell? ⟨w3.heap.size, 1, none⟩ = some (.int .i64 (nn (fexT f a b k))) ∧ wr.cell? ⟨w3.heap.size, 2, none⟩ = some (.slice ak lk ck)) ∧ (∀ x, wr.frozen? ⟨w3.heap.size, x, none⟩ = false)) (fun i _ => l 5 - (intOf i).toNat)
      case atStart => exact ⟨0, none, 0, 0, Nat.zero_le _, rfl, HB3.out.trans ((show Below w3.heap.size w3 _ from (by repeat (first | exact Below.refl _ _ | assumption | refine Below.drew ?_ | refine Below.alloc ?_ (by first | exact Nat.le_refl _ | omega | (simp; done) | (simp; omega)) _ | refine Below.setCell ?_ (by first | exact Nat.le_refl _ | omega | (simp; done) | (simp; omega)) _))).mono HB3.out.size), rd_const _ _ _ _, HO3.out.below (by repeat (first | exact Below.refl _ _ | assumption | refine Below.drew ?_ | refine Below.alloc ?_ (by first | exact Nat.le_refl _ | omega | (simp; done) | (simp; omega)) _ | refine Below.setCell ?_ (by first | exact Nat.le_refl _ | omega | (simp; done) | (simp; omega)) _)), ⟨by simp [go_sem, fexT, cT, mkT, kd], by simp [go_sem, fexT, cT, mkT, nn], by simp [go_sem]⟩, fun x => by simp [go_sem]⟩
      case round =>
        clear hz0 hz0' q5
        obtain ⟨k, ak, lk, ck, hk, rfl, hbel, hrk, hpo, ⟨c0, c1, c2⟩, hfe⟩ := hrel
        have HB := hid hbel
        have HR := hid hrk
        have HO := hid hpo
        have HF := hid hfe
        have hE2 := World.block_lt_of_cell? _ _ c0
        dsimp only at hE2
        obtain ⟨q5, ⟨z0, z1, z2⟩, hfr, hrow, hB, hz⟩ := HC.out wr hbel
        have NW := hid hrow
        have BW := hid hB
        have y0 := hfr 0
        have y1 := hfr 1
        have y2 := hfr 2
        have hz0 : w.heap.size < wr.heap.size := by omega
        clear hbel hrk hpo hfr hrow hB
        by_cases hlt : k < l 5
        · obtain ⟨⟨p1, p2⟩, p3, p4⟩ := HIn.out k hlt
          obtain ⟨b0, off, e5, v0, v1, v2, v3⟩ := NW.out.at4 hlt
          rw [e5] at q5 ⊢
          have hb0 := World.block_lt_of_cell? _ _ v0
          dsimp only at hb0
          have HX : Hid (fexT f a b (k + 1) = if f k 0 = a ∧ f k 1 = b then ndT 5 2 (two (fexT f a b k) (withinT (f k 2) (f k 3))) else fexT f a b k) := rfl
          generalize f k 0 = x0 at *
          generalize f k 1 = x1 at *
          generalize f k 2 = x2 at *
          generalize f k 3 = x3 at *
          have hkd := fexT_kind f a b k
          have HKD := hid hkd
          clear hkd
          obtain ⟨tk, htk⟩ : ∃ t, fexT f a b k = t := ⟨_, rfl⟩
          obtain ⟨tn, htn⟩ : ∃ t, fexT f a b (k + 1) = t := ⟨_, rfl⟩
          have HTN := hid htn
          rw [htk, htn] at HX
          rw [htk] at c0 c1 HR HKD
          clear htk htn
          have HS3 := hid HB3.out.size
          have HEnd : Hid (∀ (wz : World) (az : Option Addr) (lz cz : Nat), Hid (Rd (fun q => w3.heap.size < q) 1048576 wz (19 + (k + 1)) tn az lz) → Below ((w.alloc (.cells #[.slice (p 0) (l 0) (c 0), .slice (p 1) (l 1) (c 1), .slice (p 2) (l 2) (c 2), .slice (p 3) (l 3) (c 3), .slice (p 4) (l 4) (c 4), .slice (p 5) (l 5) (c 5)] 29)).alloc (.cells #[.int .i64 0, .int .i64 0, .slice none 0 0] 33)).heap.size ((w.alloc (.cells #[.slice (p 0) (l 0) (c 0), .slice (p 1) (l 1) (c 1), .slice (p 2) (l 2) (c 2), .slice (p 3) (l 3) (c 3), .slice (p 4) (l 4) (c 4), .slice (p 5) (l 5) (c 5)] 29)).alloc (.cells #[.int .i64 0, .int .i64 0, .slice none 0 0] 33)) wz → Rd (fun q => q < w3.heap.size) 1048576 wz 1 portT a2 4 → (wz.cell? ⟨w3.heap.size, 0, none⟩ = some (.int .i64 (kd tn)) ∧ wz.cell? ⟨w3.heap.size, 1, none⟩ = some (.int .i64 (nn tn)) ∧ wz.cell? ⟨w3.heap.size, 2, none⟩ = some (.slice az lz cz)) → (∀ x, wz.frozen? ⟨w3.heap.size, x, none⟩ = false) →
              ∃ (k' : Nat) (ak : Option Addr) (lk ck : Nat), k' ≤ l 5 ∧ Value.int .i64 ((k : Int) + 1) = .int .i64 k' ∧ Below ((w.alloc (.cells #[.slice (p 0) (l 0) (c 0), .slice (p 1) (l 1) (c 1), .slice (p 2) (l 2) (c 2), .slice (p 3) (l 3) (c 3), .slice (p 4) (l 4) (c 4), .slice (p 5) (l 5) (c 5)] 29)).alloc (.cells #[.int .i64 0, .int .i64 0, .slice none 0 0] 33)).heap.size ((w.alloc (.cells #[.slice (p 0) (l 0) (c 0), .slice (p 1) (l 1) (c 1), .slice (p 2) (l 2) (c 2), .slice (p 3) (l 3) (c 3), .slice (p 4) (l 4) (c 4), .slice (p 5) (l 5) (c 5)] 29)).alloc (.cells #[.int .i64 0, .int .i64 0, .slice none 0 0] 33)) wz ∧ Rd (fun q => w3.heap.size < q) 1048576 wz (19 + k') (fexT f a b k') ak lk ∧ Rd (fun q => q < w3.heap.size) 1048576 wz 1 portT a2 4 ∧
                (wz.cell? ⟨w3.heap.size, 0, none⟩ = some (.int .i64 (kd (fexT f a b k'))) ∧ wz.cell? ⟨w3.heap.size, 1, none⟩ = some (.int .i64 (nn (fexT f a b k'))) ∧ wz.cell? ⟨w3.heap.size, 2, none⟩ = some (.slice ak lk ck)) ∧ (∀ x, wz.frozen? ⟨w3.heap.size, x, none⟩ = false)) :=
            fun wz az lz cz hr hb ho hc hf => ⟨k + 1, az, lz, cz, by omega, by go_num, hb, by rw [HTN.out]; exact hr.out, ho, by rw [HTN.out]; exact hc, hf⟩
          rw [e5] at HEnd HB HS3
          by_cases h1 : x0 = a
          · subst h1
            by_cases h2 : x1 = b
            · subst h2
              have HX1 : Hid (tn = ndT 5 2 (two tk (withinT x2 x3))) := HX.out.trans (if_pos ⟨rfl, rfl⟩)
              clear HX
              go_wp2_with fail
              refine (number_spec x2 p1 p2 _).mono ?_
              rintro e' w4 ⟨a4, c4, rfl, hr4, hb4⟩
              have b4 : Below wr.heap.size wr w4 := (show Below wr.heap.size wr _ from (by repeat (first | exact Below.refl _ _ | assumption | refine Below.drew ?_ | refine Below.alloc ?_ (by first | exact Nat.le_refl _ | omega | (simp; done) | (simp; omega)) _ | refine Below.setCell ?_ (by first | exact Nat.le_refl _ | omega | (simp; done) | (simp; omega)) _))).trans (hb4.mono (by simp))
              have f2 : w4.cell? ⟨wr.heap.size, 2, none⟩ = some (.int .i64 x2) := keep hb4 (by simp [go_sem])
              have f3 : w4.cell? ⟨wr.heap.size, 3, none⟩ = some (.int .i64 x3) := keep hb4 (by simp [go_sem])
              have HB4 := hid b4
              have HF3 := hid f3
              have HC4 := hid hr4
              clear hb4 hr4 b4 f2 f3
              go_wp2_with fail
              refine (less_right 0 portT (constT x2 4) _ _ 4 _ _ _ ((HO.out.below HB4.out).imp fun _ _ => trivial) (HC4.out.imp fun _ _ => trivial) port_kind (const_kind x2) port_01 (bit_01 x2 p1 p2)).mono ?_
              rintro e' w5 ⟨a5, l5, c5, rfl, hr5, hb5⟩
              have HB5 := hid (HB4.out.trans (hb5.mono HB4.out.size))
              have HF5 := hid (keep hb5 HF3.out)
              obtain ⟨t1, hT1⟩ : ∃ t, lessT portT (constT x2 4) (cT 0) 4 = t := ⟨_, rfl⟩
              have K1 : kd t1 ≠ 0 := by rw [← hT1]; exact lessT_kind (by decide) 4
              have HK1 := hid K1
              have HT1 := hid hT1
              rw [hT1] at hr5 ⊢
              have HX5 : Hid (Rd (fun q => w3.heap.size < q) 1048576 w5 16 t1 a5 l5) := hr5.imp fun q hq => by have := HB4.out.size; omega
              clear hb5 hr5 hT1 K1 HC4
              go_wp2_with fail
              refine (new_spec 3 _ _ _ _).mono ?_
              rintro e' w6 ⟨rfl, hb6⟩
              have b56 : Below w5.heap.size w5 w6 := (show Below w5.heap.size w5 _ from (by repeat (first | exact Below.refl _ _ | assumption | refine Below.drew ?_ | refine Below.alloc ?_ (by first | exact Nat.le_refl _ | omega | (simp; done) | (simp; omega)) _ | refine Below.setCell ?_ (by first | exact Nat.le_refl _ | omega | (simp; done) | (simp; omega)) _))).trans (hb6.mono (by simp))
              have HB6 := hid (HB5.out.trans (b56.mono HB5.out.size))
              have f3 : w6.cell? ⟨wr.heap.size, 3, none⟩ = some (.int .i64 x3) := keep b56 HF5.out
              have hz6 : wr.heap.size < w6.heap.size := World.block_lt_of_cell? _ _ f3
              have HX6 : Hid (Rd (fun q => w3.heap.size < q) 1048576 w6 17 (ndT 3 1 (one t1)) (some ⟨w5.heap.size, 0, none⟩) 1) := (row1q 3 (by have := HB5.out.size; omega) HX5.out).below hb6
              clear hb6 b56 HX5
              go_wp2_with fail
              refine (number_spec x3 p3 p4 _).mono ?_
              rintro e' w7 ⟨a7, c7, rfl, hr7, hb7⟩
              have b67 : Below w6.heap.size w6 w7 := (show Below w6.heap.size w6 _ from (by repeat (first | exact Below.refl _ _ | assumption | refine Below.drew ?_ | refine Below.alloc ?_ (by first | exact Nat.le_refl _ | omega | (simp; done) | (simp; omega)) _ | refine Below.setCell ?_ (by first | exact Nat.le_refl _ | omega | (simp; done) | (simp; omega)) _))).trans (hb7.mono (by simp))
              have HL7 : Hid (w7.cell? ⟨w6.heap.size, 0, none⟩ = some (.int .i64 3) ∧ w7.cell? ⟨w6.heap.size, 1, none⟩ = some (.int .i64 0) ∧ w7.cell? ⟨w6.heap.size, 2, none⟩ = some (.slice (some ⟨w5.heap.size, 0, none⟩) 1 1)) := ⟨keep hb7 (by simp [go_sem]), keep hb7 (by simp [go_sem]), keep hb7 (by simp [go_sem])⟩
              have HB7 := hid (HB6.out.trans (b67.mono HB6.out.size))
              have HX7 := hid (HX6.out.below b67)
              have HC7 := hid hr7
              clear hb7 hr7 b67 f3 hz6 HX6
              go_wp2_with fail
              refine (less_right 0 (constT x3 4) portT _ _ 4 _ _ _ (HC7.out.imp fun _ _ => trivial) ((HO.out.below HB7.out).imp fun _ _ => trivial) (const_kind x3) port_kind (bit_01 x3 p3 p4) port_01).mono ?_
              rintro e' wk ⟨a8, l8, c8, rfl, hr8, hb8⟩
              have HB8 := hid (HB7.out.trans (hb8.mono HB7.out.size))
              have HX8 := hid (HX7.out.below hb8)
              have HL8 : Hid (wk.cell? ⟨w6.heap.size, 0, none⟩ = some (.int .i64 3) ∧ wk.cell? ⟨w6.heap.size, 1, none⟩ = some (.int .i64 0) ∧ wk.cell? ⟨w6.heap.size, 2, none⟩ = some (.slice (some ⟨w5.heap.size, 0, none⟩) 1 1)) := ⟨keep hb8 HL7.out.1, keep hb8 HL7.out.2.1, keep hb8 HL7.out.2.2⟩
              obtain ⟨t2, hT2⟩ : ∃ t, lessT (constT x3 4) portT (cT 0) 4 = t := ⟨_, rfl⟩
              have K2 : kd t2 ≠ 0 := by rw [← hT2]; exact lessT_kind (by decide) 4
              have HK2 := hid K2
              have HT2 := hid hT2
              rw [hT2] at hr8 ⊢
              have HY8 : Hid (Rd (fun q => w3.heap.size < q) 1048576 wk 16 t2 a8 l8) := hr8.imp fun q hq => by have := HB7.out.size; omega
              clear hb8 hr8 hT2 K2 HC7 HX7 HL7
              go_wp2_with fail
              refine (new_spec 3 _ _ _ _).mono ?_
              rintro e' w9 ⟨rfl, hb9⟩
              have b89 : Below wk.heap.size wk w9 := (show Below wk.heap.size wk _ from (by repeat (first | exact Below.refl _ _ | assumption | refine Below.drew ?_ | refine Below.alloc ?_ (by first | exact Nat.le_refl _ | omega | (simp; done) | (simp; omega)) _ | refine Below.setCell ?_ (by first | exact Nat.le_refl _ | omega | (simp; done) | (simp; omega)) _))).trans (hb9.mono (by simp))
              have HB9 := hid (HB8.out.trans (b89.mono HB8.out.size))
              have HX9 := hid (HX8.out.below b89)
              have HL9 : Hid (w9.cell? ⟨w6.heap.size, 0, none⟩ = some (.int .i64 3) ∧ w9.cell? ⟨w6.heap.size, 1, none⟩ = some (.int .i64 0) ∧ w9.cell? ⟨w6.heap.size, 2, none⟩ = some (.slice (some ⟨w5.heap.size, 0, none⟩) 1 1)) := ⟨keep b89 HL8.out.1, keep b89 HL8.out.2.1, keep b89 HL8.out.2.2⟩
              have HY9 : Hid (Rd (fun q => w3.heap.size < q) 1048576 w9 17 (ndT 3 1 (one t2)) (some ⟨wk.heap.size, 0, none⟩) 1) := (row1q 3 (by have := HB8.out.size; omega) HY8.out).below hb9
              have HE9 : Hid (w9.cell? ⟨w3.heap.size, 0, none⟩ = some (.int .i64 (kd tk)) ∧ w9.cell? ⟨w3.heap.size, 1, none⟩ = some (.int .i64 (nn tk)) ∧ w9.cell? ⟨w3.heap.size, 2, none⟩ = some (.slice ak lk ck)) := ⟨keep HB9.out c0, keep HB9.out c1, keep HB9.out c2⟩
              clear hb9 b89 HX8 HY8 HL8
              go_wp2_with fail
              have HTW : Hid (tn = ndT 5 2 (two tk (ndT 4 2 (two (ndT 3 1 (one t1)) (ndT 3 1 (one t2)))))) := by
                show _ = _
                rw [HX1.out]
                unfold withinT
                rw [HT1.out, HT2.out]
              have b9 : Below w9.heap.size w9 (w9.alloc (.cells #[.int .i64 3, .int .i64 0, .slice (some ⟨wk.heap.size, 0, none⟩) 1 1] 33)) := (by repeat (first | exact Below.refl _ _ | assumption | refine Below.drew ?_ | refine Below.alloc ?_ (by first | exact Nat.le_refl _ | omega | (simp; done) | (simp; omega)) _ | refine Below.setCell ?_ (by first | exact Nat.le_refl _ | omega | (simp; done) | (simp; omega)) _))
              have hc9 : ((w9.alloc (.cells #[.int .i64 3, .int .i64 0, .slice (some ⟨wk.heap.size, 0, none⟩) 1 1] 33)).cell? ⟨w3.heap.size, 0, none⟩ = some (.int .i64 (kd tk)) ∧ (w9.alloc (.cells #[.int .i64 3, .int .i64 0, .slice (some ⟨wk.heap.size, 0, none⟩) 1 1] 33)).cell? ⟨w3.heap.size, 1, none⟩ = some (.int .i64 (nn tk)) ∧ (w9.alloc (.cells #[.int .i64 3, .int .i64 0, .slice (some ⟨wk.heap.size, 0, none⟩) 1 1] 33)).cell? ⟨w3.heap.size, 2, none⟩ = some (.slice ak lk ck)) ∧ ((w9.alloc (.cells #[.int .i64 3, .int .i64 0, .slice (some ⟨wk.heap.size, 0, none⟩) 1 1] 33)).cell? ⟨w6.heap.size, 0, none⟩ = some (.int .i64 3) ∧ (w9.alloc (.cells #[.int .i64 3, .int .i64 0, .slice (some ⟨wk.heap.size, 0, none⟩) 1 1] 33)).cell? ⟨w6.heap.size, 1, none⟩ = some (.int .i64 0) ∧ (w9.alloc (.cells #[.int .i64 3, .int .i64 0, .slice (some ⟨wk.heap.size, 0, none⟩) 1 1] 33)).cell? ⟨w6.heap.size, 2, none⟩ = some (.slice (some ⟨w5.heap.size, 0, none⟩) 1 1)) ∧ ((w9.alloc (.cells #[.int .i64 3, .int .i64 0, .slice (some ⟨wk.heap.size, 0, none⟩) 1 1] 33)).cell? ⟨w9.heap.size, 0, none⟩ = some (.int .i64 3) ∧ (w9.alloc (.cells #[.int .i64 3, .int .i64 0, .slice (some ⟨wk.heap.size, 0, none⟩) 1 1] 33)).cell? ⟨w9.heap.size, 1, none⟩ = some (.int .i64 0) ∧ (w9.alloc (.cells #[.int .i64 3, .int .i64 0, .slice (some ⟨wk.heap.size, 0, none⟩) 1 1] 33)).cell? ⟨w9.heap.size, 2, none⟩ = some (.slice (some ⟨wk.heap.size, 0, none⟩) 1 1)) := ⟨⟨keep b9 HE9.out.1, keep b9 HE9.out.2.1, keep b9 HE9.out.2.2⟩, ⟨keep b9 HL9.out.1, keep b9 HL9.out.2.1, keep b9 HL9.out.2.2⟩, by simp [go_sem], by simp [go_sem], by simp [go_sem]⟩
              have HXA := hid (HX9.out.below b9)
              have HYA := hid (HY9.out.below b9)
              have HBA := hid (HB9.out.trans (b9.mono HB9.out.size))
              generalize (w9.alloc (.cells #[.int .i64 3, .int .i64 0, .slice (some ⟨wk.heap.size, 0, none⟩) 1 1] 33)) = WA at *
              have HRA := hid (HR.out.below HBA.out)
              have HK : Hid (∀ w8 : World, Below WA.heap.size WA w8 → (w8.cell? ⟨w3.heap.size, 0, none⟩ = some (.int .i64 (kd tk)) ∧ w8.cell? ⟨w3.heap.size, 1, none⟩ = some (.int .i64 (nn tk)) ∧ w8.cell? ⟨w3.heap.size, 2, none⟩ = some (.slice ak lk ck)) ∧ (w8.cell? ⟨w6.heap.size, 0, none⟩ = some (.int .i64 3) ∧ w8.cell? ⟨w6.heap.size, 1, none⟩ = some (.int .i64 0) ∧ w8.cell? ⟨w6.heap.size, 2, none⟩ = some (.slice (some ⟨w5.heap.size, 0, none⟩) 1 1)) ∧ (w8.cell? ⟨w9.heap.size, 0, none⟩ = some (.int .i64 3) ∧ w8.cell? ⟨w9.heap.size, 1, none⟩ = some (.int .i64 0) ∧ w8.cell? ⟨w9.heap.size, 2, none⟩ = some (.slice (some ⟨wk.heap.size, 0, none⟩) 1 1)) ∧ (∀ x, w8.frozen? ⟨w3.heap.size, x, none⟩ = false) ∧ Below wr.heap.size wr w8 ∧ w3.heap.size < w8.heap.size) :=
                fun w8 h => ⟨⟨keep h hc9.1.1, keep h hc9.1.2.1, keep h hc9.1.2.2⟩, ⟨keep h hc9.2.1.1, keep h hc9.2.1.2.1, keep h hc9.2.1.2.2⟩, ⟨keep h hc9.2.2.1, keep h hc9.2.2.2.1, keep h hc9.2.2.2.2⟩, fun x => ((HBA.out.trans (h.mono HBA.out.size)).frozen (p := ⟨w3.heap.size, x, none⟩) hE2).trans (HF.out x), HBA.out.trans (h.mono HBA.out.size), Nat.lt_of_lt_of_le hE2 (HBA.out.trans (h.mono HBA.out.size)).size⟩
              clear hc9 b9 HE9 HL9 HX9 HY9
              refine region_below (fun uu => ⟨#[.agg #[.slice (p 0) (l 0) (c 0), .slice (p 1) (l 1) (c 1), .slice (p 2) (l 2) (c 2), .slice (p 3) (l 3) (c 3), .slice (p 4) (l 4) (c 4), .slice (some ⟨b0, off, none⟩) (l 5) (c 5)], .int .i64 x0, .int .i64 x1, .pointer (some ⟨w.heap.size, 0, none⟩), undef, undef, .pointer (some ⟨w.heap.size + 1, 0, none⟩), .slice a2 4 cp, .int .i64 4, .pointer (some ⟨w3.heap.size, 0, none⟩), .int .i64 (k : Int), .pointer (some ⟨wr.heap.size, 0, none⟩), .pointer (some ⟨w6.heap.size, 0, none⟩), .pointer (some ⟨w9.heap.size, 0, none⟩), .slice (some ⟨w.heap.size + 1 + 1, 0, none⟩) 0 0, .int .i64 4, .bool false, u17, u18, u19, u20, u21, u22, u23, .agg #[.int .i64 2, .int .i64 0, .slice none 0 0], .int .i64 (k : Int), .pointer (some ⟨w.heap.size, 5, none⟩), .slice (some ⟨b0, off, none⟩) (l 5) (c 5), .int .i64 (l 5 : Int), .bool true, u30, u31, .pointer (some ⟨w.heap.size, 5, none⟩), .slice (some ⟨b0, off, none⟩) (l 5) (c 5), .int .i64 (k : Int), .pointer (some ⟨b0, off + k * 4, none⟩), .agg #[.int .i64 x0, .int .i64 x1, .int .i64 x2, .int .i64 x3], .pointer (some ⟨wr.heap.size, 0, none⟩), .int .i64 x0, .int .i64 x0, .bool true, .bool true, .pointer (some ⟨wr.heap.size, 1, none⟩), .int .i64 x1, .int .i64 x1, .bool true, .bool true, .slice a2 4 cp, .pointer (some ⟨wr.heap.size, 2, none⟩), .int .i64 x2, .slice a4 4 c4, .agg #[.int .i64 (kd t1), .int .i64 (nn t1), .slice a5 l5 c5], .slice (some ⟨w5.heap.size, 0, none⟩) 1 1, .agg #[.int .i64 3, .int .i64 0, .slice (some ⟨w5.heap.size, 0, none⟩) 1 1], .pointer (some ⟨wr.heap.size, 3, none⟩), .int .i64 x3, .slice a7 4 c7, .slice a2 4 cp, .agg #[.int .i64 (kd t2), .int .i64 (nn t2), .slice a8 l8 c8], .slice (some ⟨wk.heap.size, 0, none⟩) 1 1, .agg #[.int .i64 3, .int .i64 0, .slice (some ⟨wk.heap.size, 0, none⟩) 1 1], uu 61, uu 62, uu 63, uu 64, uu 65, uu 66, uu 67, undef], []⟩) (fun i => [61, 62, 63, 64, 65, 66, 67].getD i 0) (fun i v w8 => match i with | 0 => XV (fun q => w3.heap.size < q) w8 (19 + k) (tk) v | 1 => XV (fun q => w3.heap.size < q) w8 (17) (ndT 3 1 (one t1)) v | 2 => XV (fun q => w3.heap.size < q) w8 (17) (ndT 3 1 (one t2)) v | 3 => RQ w3.heap.size w8 (17 + 1) (ndT 4 2 (two (ndT 3 1 (one t1)) (ndT 3 1 (one t2)))) 2 v | 4 => XV (fun q => w3.heap.size < q) w8 (17 + 1) (ndT 4 2 (two (ndT 3 1 (one t1)) (ndT 3 1 (one t2)))) v | 5 => RQ w3.heap.size w8 (19 + k + 1) (ndT 5 2 (two tk (ndT 4 2 (two (ndT 3 1 (one t1)) (ndT 3 1 (one t2)))))) 2 v | 6 => XV (fun q => w3.heap.size < q) w8 (19 + k + 1) (ndT 5 2 (two tk (ndT 4 2 (two (ndT 3 1 (one t1)) (ndT 3 1 (one t2)))))) v | _ => True) WA 7 (fun k => match k with | 61 => u61 | 62 => u62 | 63 => u63 | 64 => u64 | 65 => u65 | 66 => u66 | 67 => u67 | _ => undef) (by rfl) (by kernel_rfl) (by rfl) ⟨by kernel_rfl, by kernel_rfl, by kernel_rfl, by decide⟩ (by kernel_rfl) (Below.refl _ _) ?hput ?hinj ?stable ?step ?last
              case hput =>
                intro i hi uu v
                match i, hi with
                | 0, _ => rfl
                | 1, _ => rfl
                | 2, _ => rfl
                | 3, _ => rfl
                | 4, _ => rfl
                | 5, _ => rfl
                | 6, _ => rfl
                | i + 7, hi => exact absurd hi (by omega)
              case hinj =>
                intro i j hi hj h
                exact slots_inj [61, 62, 63, 64, 65, 66, 67] (by decide) hi hj h
              case stable =>
                intro i v w8 w9 hb h
                match i, h with
                | 0, h => exact h.below hb
                | 1, h => exact h.below hb
                | 2, h => exact h.below hb
                | 3, h => exact h.below hb
                | 4, h => exact h.below hb
                | 5, h => exact h.below hb
                | 6, h => exact h.below hb
                | _ + 7, h => trivial
              case step =>
                intro i hi uu w8 S8 hdep
                match i, hi with
                | 0, _ =>
                  clear hdep
                  refine ⟨_, rfl, fun K' hK => ?_⟩
                  obtain ⟨⟨c0, c1, c2⟩, ⟨d0, d1, d2⟩, ⟨g0, g1, g2⟩, -, -, -⟩ := HK.out w8 S8
                  go_simp
                  exact hK.out _ _ (Below.refl _ _) ⟨ak, lk, ck, HRA.out.below S8, rfl⟩
                | 1, _ =>
                  clear hdep
                  refine ⟨_, rfl, fun K' hK => ?_⟩
                  obtain ⟨⟨c0, c1, c2⟩, ⟨d0, d1, d2⟩, ⟨g0, g1, g2⟩, -, -, -⟩ := HK.out w8 S8
                  go_simp
                  exact hK.out _ _ (Below.refl _ _) ⟨(some ⟨w5.heap.size, 0, none⟩), 1, 1, HXA.out.below S8, rfl⟩
                | 2, _ =>
                  clear hdep
                  refine ⟨_, rfl, fun K' hK => ?_⟩
                  obtain ⟨⟨c0, c1, c2⟩, ⟨d0, d1, d2⟩, ⟨g0, g1, g2⟩, -, -, -⟩ := HK.out w8 S8
                  go_simp
                  exact hK.out _ _ (Below.refl _ _) ⟨(some ⟨wk.heap.size, 0, none⟩), 1, 1, HYA.out.below S8, rfl⟩
                | 3, _ =>
                  have h1 : XV (fun q => w3.heap.size < q) w8 (17) (ndT 3 1 (one t1)) (uu 62) := hdep 1 (by kernel_rfl)
                  have h2 : XV (fun q => w3.heap.size < q) w8 (17) (ndT 3 1 (one t2)) (uu 63) := hdep 2 (by kernel_rfl)
                  clear hdep
                  refine ⟨_, rfl, fun K' hK => ?_⟩
                  obtain ⟨-, -, -, -, -, hz8⟩ := HK.out w8 S8
                  obtain ⟨ai, li, ci, ri, ei⟩ := h1
                  obtain ⟨aj, lj, cj, rj, ej⟩ := h2
                  simp only [ei, ej] at hK ⊢
                  go_simp
                  exact hK.out _ _ (by repeat (first | exact Below.refl _ _ | assumption | refine Below.drew ?_ | refine Below.alloc ?_ (by first | exact Nat.le_refl _ | omega | (simp; done) | (simp; omega)) _ | refine Below.setCell ?_ (by first | exact Nat.le_refl _ | omega | (simp; done) | (simp; omega)) _)) ⟨w8.heap.size, rfl, row2q 4 hz8 (ri.more (by omega)) (rj.more (by omega))⟩
                | 4, _ =>
                  have h3 : RQ w3.heap.size w8 (17 + 1) (ndT 4 2 (two (ndT 3 1 (one t1)) (ndT 3 1 (one t2)))) 2 (uu 64) := hdep 3 (by kernel_rfl)
                  clear hdep
                  refine ⟨_, rfl, fun K' hK => ?_⟩
                  obtain ⟨N6, e6, r6⟩ := h3
                  simp only [e6] at hK ⊢
                  go_simp
                  refine (new_spec 4 _ _ _ _).mono ?_
                  rintro e w9 ⟨rfl, hb9⟩
                  exact hK.out _ _ hb9 ⟨_, _, _, r6.below hb9, rfl⟩
                | 5, _ =>
                  have h0 : XV (fun q => w3.heap.size < q) w8 (19 + k) (tk) (uu 61) := hdep 0 (by kernel_rfl)
                  have h4 : XV (fun q => w3.heap.size < q) w8 (17 + 1) (ndT 4 2 (two (ndT 3 1 (one t1)) (ndT 3 1 (one t2)))) (uu 65) := hdep 4 (by kernel_rfl)
                  clear hdep
                  refine ⟨_, rfl, fun K' hK => ?_⟩
                  obtain ⟨-, -, -, -, -, hz8⟩ := HK.out w8 S8
                  obtain ⟨ai, li, ci, ri, ei⟩ := h0
                  obtain ⟨aj, lj, cj, rj, ej⟩ := h4
                  simp only [ei, ej] at hK ⊢
                  go_simp
                  exact hK.out _ _ (by repeat (first | exact Below.refl _ _ | assumption | refine Below.drew ?_ | refine Below.alloc ?_ (by first | exact Nat.le_refl _ | omega | (simp; done) | (simp; omega)) _ | refine Below.setCell ?_ (by first | exact Nat.le_refl _ | omega | (simp; done) | (simp; omega)) _)) ⟨w8.heap.size, rfl, row2q 5 hz8 (ri.more (by omega)) (rj.more (by omega))⟩
                | 6, _ =>
                  have h5 : RQ w3.heap.size w8 (19 + k + 1) (ndT 5 2 (two tk (ndT 4 2 (two (ndT 3 1 (one t1)) (ndT 3 1 (one t2)))))) 2 (uu 66) := hdep 5 (by kernel_rfl)
                  clear hdep
                  refine ⟨_, rfl, fun K' hK => ?_⟩
                  obtain ⟨N6, e6, r6⟩ := h5
                  simp only [e6] at hK ⊢
                  go_simp
                  refine (new_spec 5 _ _ _ _).mono ?_
                  rintro e w9 ⟨rfl, hb9⟩
                  exact hK.out _ _ hb9 ⟨_, _, _, r6.below hb9, rfl⟩
                | i + 7, hi => exact absurd hi (by omega)
              case last =>
                intro uu w8 S8 hall
                have h6 : XV (fun q => w3.heap.size < q) w8 (19 + k + 1) (ndT 5 2 (two tk (ndT 4 2 (two (ndT 3 1 (one t1)) (ndT 3 1 (one t2)))))) (uu 67) := hall 6 (by decide)
                clear hall
                refine ⟨_, rfl, fun K' hK => ?_⟩
                obtain ⟨⟨c0, c1, c2⟩, -, -, hfr, hbb, hzz⟩ := HK.out w8 S8
                have g0 := hfr 0
                have g1 := hfr 1
                have g2 := hfr 2
                obtain ⟨a9, l9, c9, r9, e9⟩ := h6
                simp only [e9] at hK ⊢
                go_simp
                refine hK.out _ _ ?_
                clear hK K'
                (try simp only [Exit.then])
                have HR9 := hid (rd_set3 r9 (R := w3.heap.size) (Nat.lt_irrefl _) (.int .i64 (kd (ndT 5 2 (two tk (ndT 4 2 (two (ndT 3 1 (one t1)) (ndT 3 1 (one t2)))))))) (.int .i64 (nn (ndT 5 2 (two tk (ndT 4 2 (two (ndT 3 1 (one t1)) (ndT 3 1 (one t2)))))))) (.slice a9 l9 c9))
                have HO9 := hid (rd_set3 (HO.out.below hbb) (R := w3.heap.size) (Nat.lt_irrefl _) (.int .i64 (kd (ndT 5 2 (two tk (ndT 4 2 (two (ndT 3 1 (one t1)) (ndT 3 1 (one t2)))))))) (.int .i64 (nn (ndT 5 2 (two tk (ndT 4 2 (two (ndT 3 1 (one t1)) (ndT 3 1 (one t2)))))))) (.slice a9 l9 c9))
                go_wp2
                go_roundw
                case rel =>
                  refine HEnd.out _ a9 l9 c9 (by rw [HTW.out]; exact HR9) (below_set3 (HB.out.trans (hbb.mono HB.out.size)) (R := w3.heap.size) HS3.out _ _ _) HO9.out (by rw [HTW.out]; exact set3_cells c0 c1 c2 _ _ _) (fun x => (set3_froz _ _ _ _ _ _).trans (hfr x))
                case measure => simp [intOf]; omega
            · have HX1 : Hid (tn = tk) := HX.out.trans (if_neg fun h => h2 h.2)
              have e2 : (x1 == b) = false := by simp [h2]
              clear HX h2
              go_wp2
              go_roundw
              case rel => exact HEnd.out _ _ _ _ (by rw [HX1.out]; exact hid ((HR.out.below (by repeat (first | exact Below.refl _ _ | assumption | refine Below.drew ?_ | refine Below.alloc ?_ (by first | exact Nat.le_refl _ | omega | (simp; done) | (simp; omega)) _ | refine Below.setCell ?_ (by first | exact Nat.le_refl _ | omega | (simp; done) | (simp; omega)) _))).more (by omega))) (HB.out.trans ((show Below wr.heap.size wr _ from (by repeat (first | exact Below.refl _ _ | assumption | refine Below.drew ?_ | refine Below.alloc ?_ (by first | exact Nat.le_refl _ | omega | (simp; done) | (simp; omega)) _ | refine Below.setCell ?_ (by first | exact Nat.le_refl _ | omega | (simp; done) | (simp; omega)) _))).mono HB.out.size)) (HO.out.below (by repeat (first | exact Below.refl _ _ | assumption | refine Below.drew ?_ | refine Below.alloc ?_ (by first | exact Nat.le_refl _ | omega | (simp; done) | (simp; omega)) _ | refine Below.setCell ?_ (by first | exact Nat.le_refl _ | omega | (simp; done) | (simp; omega)) _))) (by rw [HX1.out]; exact ⟨keep (by repeat (first | exact Below.refl _ _ | assumption | refine Below.drew ?_ | refine Below.alloc ?_ (by first | exact Nat.le_refl _ | omega | (simp; done) | (simp; omega)) _ | refine Below.setCell ?_ (by first | exact Nat.le_refl _ | omega | (simp; done) | (simp; omega)) _)) c0, keep (by repeat (first | exact Below.refl _ _ | assumption | refine Below.drew ?_ | refine Below.alloc ?_ (by first | exact Nat.le_refl _ | omega | (simp; done) | (simp; omega)) _ | refine Below.setCell ?_ (by first | exact Nat.le_refl _ | omega | (simp; done) | (simp; omega)) _)) c1, keep (by repeat (first | exact Below.refl _ _ | assumption | refine Below.drew ?_ | refine Below.alloc ?_ (by first | exact Nat.le_refl _ | omega | (simp; done) | (simp; omega)) _ | refine Below.setCell ?_ (by first | exact Nat.le_refl _ | omega | (simp; done) | (simp; omega)) _)) c2⟩) (fun x => (Below.frozen (show Below wr.heap.size wr _ from (by repeat (first | exact Below.refl _ _ | assumption | refine Below.drew ?_ | refine Below.alloc ?_ (by first | exact Nat.le_refl _ | omega | (simp; done) | (simp; omega)) _ | refine Below.setCell ?_ (by first | exact Nat.le_refl _ | omega | (simp; done) | (simp; omega)) _))) (p := ⟨w3.heap.size, x, none⟩) hE2).trans (HF.out x))
              case measure => simp [intOf]; omega
          · have HX1 : Hid (tn = tk) := HX.out.trans (if_neg fun h => h1 h.1)
            have e1 : (x0 == a) = false := by simp [h1]
            clear HX h1
            go_wp2
            go_roundw
            case rel => exact HEnd.out _ _ _ _ (by rw [HX1.out]; exact hid ((HR.out.below (by repeat (first | exact Below.refl _ _ | assumption | refine Below.drew ?_ | refine Below.alloc ?_ (by first | exact Nat.le_refl _ | omega | (simp; done) | (simp; omega)) _ | refine Below.setCell ?_ (by first | exact Nat.le_refl _ | omega | (simp; done) | (simp; omega)) _))).more (by omega))) (HB.out.trans ((show Below wr.heap.size wr _ from (by repeat (first | exact Below.refl _ _ | assumption | refine Below.drew ?_ | refine Below.alloc ?_ (by first | exact Nat.le_refl _ | omega | (simp; done) | (simp; omega)) _ | refine Below.setCell ?_ (by first | exact Nat.le_refl _ | omega | (simp; done) | (simp; omega)) _))).mono HB.out.size)) (HO.out.below (by repeat (first | exact Below.refl _ _ | assumption | refine Below.drew ?_ | refine Below.alloc ?_ (by first | exact Nat.le_refl _ | omega | (simp; done) | (simp; omega)) _ | refine Below.setCell ?_ (by first | exact Nat.le_refl _ | omega | (simp; done) | (simp; omega)) _))) (by rw [HX1.out]; exact ⟨keep (by repeat (first | exact Below.refl _ _ | assumption | refine Below.drew ?_ | refine Below.alloc ?_ (by first | exact Nat.le_refl _ | omega | (simp; done) | (simp; omega)) _ | refine Below.setCell ?_ (by first | exact Nat.le_refl _ | omega | (simp; done) | (simp; omega)) _)) c0, keep (by repeat (first | exact Below.refl _ _ | assumption | refine Below.drew ?_ | refine Below.alloc ?_ (by first | exact Nat.le_refl _ | omega | (simp; done) | (simp; omega)) _ | refine Below.setCell ?_ (by first | exact Nat.le_refl _ | omega | (simp; done) | (simp; omega)) _)) c1, keep (by repeat (first | exact Below.refl _ _ | assumption | refine Below.drew ?_ | refine Below.alloc ?_ (by first | exact Nat.le_refl _ | omega | (simp; done) | (simp; omega)) _ | refine Below.setCell ?_ (by first | exact Nat.le_refl _ | omega | (simp; done) | (simp; omega)) _)) c2⟩) (fun x => (Below.frozen (show Below wr.heap.size wr _ from (by repeat (first | exact Below.refl _ _ | assumption | refine Below.drew ?_ | refine Below.alloc ?_ (by first | exact Nat.le_refl _ | omega | (simp; done) | (simp; omega)) _ | refine Below.setCell ?_ (by first | exact Nat.le_refl _ | omega | (simp; done) | (simp; omega)) _))) (p := ⟨w3.heap.size, x, none⟩) hE2).trans (HF.out x))
            case measure => simp [intOf]; omega
        · have e : k = l 5 := by omega
          subst e
          go_wp2
          refine bodyPost_ret (v := .agg #[.int .i64 (kd (fexT f a b (l 5))), .int .i64 (nn (fexT f a b (l 5))), .slice ak lk ck]) (by simp [results, Try.results21, go_sem, z0, z1, z2]) rfl ⟨_, rfl, ⟨ak, lk, ck, ?_, rfl⟩, below_set3 BW.out (R := w.heap.size + 1) (Nat.le_succ _) _ _ _⟩
          exact (rd_set3 HR.out (R := w.heap.size + 1) (by have := (HC.out w3 HB3.out).2.2.2.2.2; omega) _ _ _).imp fun q hq => by have := (HC.out w3 HB3.out).2.2.2.2.2; omega
end Go.Proofs.Ytofdhoefphoaaaa.fexSpec
