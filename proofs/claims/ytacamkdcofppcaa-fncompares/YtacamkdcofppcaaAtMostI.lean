/- At most k of a row of expressions, put together by the program; conditions: none. -/
import Derived.Test.YtacamkdcofppcaaRowsImpl
namespace Go.Proofs.Ytacamkdcofppcaa.atMost
open Go.RowKit Go.Deep Go base trees built heldStore drawn ownTree ownEx ownExE rowsImpl
set_option linter.unusedVariables false

/-- A row without its first one. -/
def tailT (X : T) : T := mkT (kd X) (nn X) (ln X - 1) fun i => kid X (i + 1)
def amT : Nat → T → Int → T
  | 0, _, k => if k < 0 then cT 0 else cT 1
  | l + 1, X, k => if k < 0 then cT 0 else ndT 7 3 (three (kid X 0) (amT l (tailT X) (k - 1)) (amT l (tailT X) k))
theorem amT_neg (l : Nat) (X : T) {k : Int} (h : k < 0) : amT l X k = cT 0 := by cases l <;> simp [amT, h]
theorem amT_none (X : T) {k : Int} (h : ¬ k < 0) : amT 0 X k = cT 1 := by simp [amT, h]
theorem amT_some {l : Nat} (hl : 0 < l) (X : T) {k : Int} (h : ¬ k < 0) : amT l X k = ndT 7 3 (three (kid X 0) (amT (l - 1) (tailT X) (k - 1)) (amT (l - 1) (tailT X) k)) := by
  cases l with
  | zero => omega
  | succ l => simp [amT, h]
theorem tail_rd {q : Nat → Prop} {M D l b off : Nat} {w : World} {X : T} (h : Rd q M w (D + 1) X (some ⟨b, off, none⟩) l) (hl : 1 < l) : Rd q M w (D + 1) (tailT X) (some ⟨b, off + 3, none⟩) (l - 1) := by
  refine ⟨by show ln X - 1 = l - 1; rw [h.1], by have := h.2.1; omega, fun i hi => ?_⟩
  obtain ⟨b', off', e, hq, c0, c1, a', l', c', c2, hr⟩ := h.2.2 (i + 1) (by omega)
  cases e
  refine ⟨b, off + 3, rfl, hq, ?_, ?_, a', l', c', ?_, hr⟩
  · rw [show off + 3 + i * 3 = off + (i + 1) * 3 by omega]; exact c0
  · rw [show off + 3 + i * 3 + 1 = off + (i + 1) * 3 + 1 by omega]; exact c1
  · rw [show off + 3 + i * 3 + 2 = off + (i + 1) * 3 + 2 by omega]; exact c2
theorem tail_none {q : Nat → Prop} {M D : Nat} {w : World} {X : T} {a a' : Option Addr} (h : Rd q M w (D + 1) X a 1) : Rd q M w (D + 1) (tailT X) a' 0 :=
  ⟨by show ln X - 1 = 0; rw [h.1], Nat.zero_le _, fun i hi => absurd hi (Nat.not_lt_zero _)⟩
theorem nz_up {q q' : Nat → Prop} {B B' : Nat} {w : World} {M D : Nat} {t : T} {a : Option Addr} {l : Nat} (h : Rd (Nz q B w) M w D t a l) (h1 : ∀ b, q b → q' b ∧ b < B') (h2 : B' ≤ B) : Rd (Nz q' B' w) M w D t a l :=
  h.imp fun b hb => by
    rcases hb with hb | hb
    · exact .inl (h1 b hb.1)
    · exact .inr ⟨by omega, hb.2⟩

def Most_impl (d l : Nat) : Prop := ∀ (Q : Nat → Prop) (X : T) (a : Option Addr) (c : Nat) (k : Int) (w : World), Rd Q 1048576 w (d + 1) X a l → l ≤ c → -2 ≤ k → k ≤ 100 → (∀ i, i < l → kd (kid X i) ≠ 0) →
    Calls Try.prog 18 #[.int .i64 k, .slice a l c] w fun e w' => ∃ v, e = .returned v ∧ TV Q w.heap.size w' (d + l) (amT l X k) v ∧ Below w.heap.size w w'
set_option maxHeartbeats 3200000 in
set_option maxRecDepth 8000 in
theorem most_impl (d l : Nat) : Most_impl d l := by
  induction l using Nat.strongRecOn with
  | _ l ih =>
  intro Q X a c k w hr hlc hk0 hk1 hkd
  have hmost := hr.most
  have HR := hid (rd_old hr)
  have HKd := hid hkd
  have HI := hid ih
  clear hr ih hkd
  by_cases hneg : k < 0
  · rw [amT_neg l X hneg]
    go_enter Try.func18, Try.ntmps18
    go_wp2_with fail
    refine (const_impl 0 _).mono ?_
    rintro e w1 ⟨rfl, hb1⟩
    have z0 : w1.cell? ⟨w.heap.size, 0, none⟩ = some (.int .i64 0) := keep hb1 (by simp [go_sem])
    have z1 : w1.cell? ⟨w.heap.size, 1, none⟩ = some (.int .i64 0) := keep hb1 (by simp [go_sem])
    have z2 : w1.cell? ⟨w.heap.size, 2, none⟩ = some (.slice none 0 0) := keep hb1 (by simp [go_sem])
    have y0 : w1.frozen? ⟨w.heap.size, 0, none⟩ = false := (hb1.frozen (p := ⟨w.heap.size, 0, none⟩) (by simp)).trans (by simp [go_sem])
    have y1 : w1.frozen? ⟨w.heap.size, 1, none⟩ = false := (hb1.frozen (p := ⟨w.heap.size, 1, none⟩) (by simp)).trans (by simp [go_sem])
    have y2 : w1.frozen? ⟨w.heap.size, 2, none⟩ = false := (hb1.frozen (p := ⟨w.heap.size, 2, none⟩) (by simp)).trans (by simp [go_sem])
    have HB1 := hid (below_set3 ((show Below w.heap.size w _ from (by repeat (first | exact Below.refl _ _ | assumption | refine Below.drew ?_ | refine Below.alloc ?_ (by first | exact Nat.le_refl _ | omega | (simp; done) | (simp; omega)) _ | refine Below.setCell ?_ (by first | exact Nat.le_refl _ | omega | (simp; done) | (simp; omega)) _))).trans (hb1.mono (by simp))) (R := w.heap.size) (Nat.le_refl _) (.int .i64 2) (.int .i64 0) (.slice none 0 0))
    clear hb1
    go_wp2
    refine bodyPost_ret (v := .agg #[.int .i64 2, .int .i64 0, .slice none 0 0]) (by simp [results, Try.results18, go_sem, z0, z1, z2]) rfl ⟨_, rfl, ⟨none, 0, 0, rfl, rd_const _ _ _ _⟩, HB1.out⟩
  by_cases hl0 : l = 0
  · subst hl0
    rw [amT_none X hneg]
    go_enter Try.func18, Try.ntmps18
    go_wp2_with fail
    refine (const_impl 1 _).mono ?_
    rintro e w1 ⟨rfl, hb1⟩
    have z0 : w1.cell? ⟨w.heap.size, 0, none⟩ = some (.int .i64 0) := keep hb1 (by simp [go_sem])
    have z1 : w1.cell? ⟨w.heap.size, 1, none⟩ = some (.int .i64 0) := keep hb1 (by simp [go_sem])
    have z2 : w1.cell? ⟨w.heap.size, 2, none⟩ = some (.slice none 0 0) := keep hb1 (by simp [go_sem])
    have y0 : w1.frozen? ⟨w.heap.size, 0, none⟩ = false := (hb1.frozen (p := ⟨w.heap.size, 0, none⟩) (by simp)).trans (by simp [go_sem])
    have y1 : w1.frozen? ⟨w.heap.size, 1, none⟩ = false := (hb1.frozen (p := ⟨w.heap.size, 1, none⟩) (by simp)).trans (by simp [go_sem])
    have y2 : w1.frozen? ⟨w.heap.size, 2, none⟩ = false := (hb1.frozen (p := ⟨w.heap.size, 2, none⟩) (by simp)).trans (by simp [go_sem])
    have HB1 := hid (below_set3 ((show Below w.heap.size w _ from (by repeat (first | exact Below.refl _ _ | assumption | refine Below.drew ?_ | refine Below.alloc ?_ (by first | exact Nat.le_refl _ | omega | (simp; done) | (simp; omega)) _ | refine Below.setCell ?_ (by first | exact Nat.le_refl _ | omega | (simp; done) | (simp; omega)) _))).trans (hb1.mono (by simp))) (R := w.heap.size) (Nat.le_refl _) (.int .i64 2) (.int .i64 1) (.slice none 0 0))
    clear hb1
    go_wp2
    refine bodyPost_ret (v := .agg #[.int .i64 2, .int .i64 1, .slice none 0 0]) (by simp [results, Try.results18, go_sem, z0, z1, z2]) rfl ⟨_, rfl, ⟨none, 0, 0, rfl, rd_const _ _ _ _⟩, HB1.out⟩
  have hl : 0 < l := by omega
  rw [amT_some hl X hneg]
  obtain ⟨_, b, off, rfl, hbq, x0, x1, ax, lx, cx, x2, hx⟩ := HR.out.cell hl
  simp only [Nat.zero_mul, Nat.add_zero] at x0 x1 x2
  have hbl := hbq.2
  have HX := hid hx
  have hk' := HKd.out 0 hl
  have q0 : ((l : Int) == 0) = false := by simp; omega
  obtain ⟨aT, haT, HTl⟩ : ∃ aT, (aT = if c = 1 then some (⟨b, off, none⟩ : Addr) else some ⟨b, off + 3, none⟩) ∧ Hid (Rd (fun x => Q x ∧ x < w.heap.size) 1048576 w (d + 1) (tailT X) aT (l - 1)) := by
    refine ⟨_, rfl, ?_⟩
    by_cases h1 : l = 1
    · subst h1; exact tail_none HR.out
    · rw [if_neg (by omega)]; exact tail_rd HR.out (by omega)
  have HKt : Hid (∀ i, i < l - 1 → kd (kid (tailT X) i) ≠ 0) := fun i hi => HKd.out (i + 1) (by omega)
  clear hx
  by_cases hc1 : c = 1
  · obtain rfl : aT = some ⟨b, off, none⟩ := by rw [haT, if_pos hc1]
    clear haT
    subst hc1
    obtain rfl : l = 1 := by omega
    go_enter Try.func18, Try.ntmps18
    go_wp2_with fail
    have HW : Hid (Below w.heap.size w (w.alloc (.cells #[.int .i64 0, .int .i64 0, .slice none 0 0] 27))) := (by repeat (first | exact Below.refl _ _ | assumption | refine Below.drew ?_ | refine Below.alloc ?_ (by first | exact Nat.le_refl _ | omega | (simp; done) | (simp; omega)) _ | refine Below.setCell ?_ (by first | exact Nat.le_refl _ | omega | (simp; done) | (simp; omega)) _))
    have hf : ((w.alloc (.cells #[.int .i64 0, .int .i64 0, .slice none 0 0] 27)).cell? ⟨w.heap.size, 0, none⟩ = some (.int .i64 0) ∧ (w.alloc (.cells #[.int .i64 0, .int .i64 0, .slice none 0 0] 27)).cell? ⟨w.heap.size, 1, none⟩ = some (.int .i64 0) ∧ (w.alloc (.cells #[.int .i64 0, .int .i64 0, .slice none 0 0] 27)).cell? ⟨w.heap.size, 2, none⟩ = some (.slice none 0 0)) ∧ ∀ x, (w.alloc (.cells #[.int .i64 0, .int .i64 0, .slice none 0 0] 27)).frozen? ⟨w.heap.size, x, none⟩ = false := ⟨⟨by simp [go_sem], by simp [go_sem], by simp [go_sem]⟩, fun x => by simp [go_sem]⟩
    have HZ : Hid ((w.alloc (.cells #[.int .i64 0, .int .i64 0, .slice none 0 0] 27)).heap.size = w.heap.size + 1) := by show _ = _; simp
    generalize (w.alloc (.cells #[.int .i64 0, .int .i64 0, .slice none 0 0] 27)) = W8 at *
    have HK : Hid (∀ w8 : World, Below W8.heap.size W8 w8 → (w8.cell? ⟨b, off, none⟩ = some (.int .i64 (kd (kid X 0))) ∧ w8.cell? ⟨b, off + 1, none⟩ = some (.int .i64 (nn (kid X 0))) ∧ w8.cell? ⟨b, off + 2, none⟩ = some (.slice ax lx cx)) ∧
        (w8.cell? ⟨w.heap.size, 0, none⟩ = some (.int .i64 0) ∧ w8.cell? ⟨w.heap.size, 1, none⟩ = some (.int .i64 0) ∧ w8.cell? ⟨w.heap.size, 2, none⟩ = some (.slice none 0 0)) ∧ ∀ x, w8.frozen? ⟨w.heap.size, x, none⟩ = false) :=
      fun w8 h => ⟨⟨keep h (keep HW.out x0), keep h (keep HW.out x1), keep h (keep HW.out x2)⟩, ⟨keep h hf.1.1, keep h hf.1.2.1, keep h hf.1.2.2⟩, fun x => (h.frozen (p := ⟨w.heap.size, x, none⟩) (by rw [HZ.out]; dsimp only; omega)).trans (hf.2 x)⟩
    clear hf x0 x1 x2
    refine region_below (fun u => ⟨#[.int .i64 k, .slice (some ⟨b, off, none⟩) 1 1, undef, undef, .pointer (some ⟨w.heap.size, 0, none⟩), .bool false, .int .i64 k, .bool false, undef, .bool false, .slice (some ⟨b, off, none⟩) 1 1, .int .i64 (1 : Int), .bool false, undef, u 14, u 15, u 16, u 17, u 18, u 19, u 20, u 21, u 22, u 23, u 24, u 25, u 26, u 27], []⟩) (fun i => [14, 15, 16, 17, 18, 19, 20, 21, 22, 23, 24, 25, 26, 27].getD i 0) (fun i v w8 => match i with | 0 => v = .slice (some ⟨b, off, none⟩) 1 1 | 1 => v = .pointer (some ⟨b, off, none⟩) | 2 => TV Q w.heap.size w8 (d) (kid X 0) v | 3 => v = .int .i64 k | 4 => v = .int .i64 (k - 1) | 5 => v = .slice (some ⟨b, off, none⟩) 1 1 | 6 => v = .slice (some ⟨b, off, none⟩) 0 0 | 7 => TV Q w.heap.size w8 (d + 0) (amT 0 (tailT X) (k - 1)) v | 8 => v = .int .i64 k | 9 => v = .slice (some ⟨b, off, none⟩) 1 1 | 10 => v = .slice (some ⟨b, off, none⟩) 0 0 | 11 => TV Q w.heap.size w8 (d + 0) (amT 0 (tailT X) k) v | 12 => RV Q w.heap.size w8 (d + 0 + 1) (ndT 7 3 (three (kid X 0) (amT 0 (tailT X) (k - 1)) (amT 0 (tailT X) k))) 3 v | 13 => TV Q w.heap.size w8 (d + 0 + 1) (ndT 7 3 (three (kid X 0) (amT 0 (tailT X) (k - 1)) (amT 0 (tailT X) k))) v | _ => True) W8 14 (fun k => match k with | 14 => undef | 15 => undef | 16 => undef | 17 => undef | 18 => undef | 19 => undef | 20 => undef | 21 => undef | 22 => undef | 23 => undef | 24 => undef | 25 => undef | 26 => undef | 27 => undef | _ => undef) (by rfl) (by kernel_rfl) (by rfl) ⟨by kernel_rfl, by kernel_rfl, by kernel_rfl, by decide⟩ (by kernel_rfl) (Below.refl _ _) ?hput ?hinj ?stable ?step ?last
    case hput =>
      intro i hi u v
      match i, hi with
      | 0, _ => rfl
      | 1, _ => rfl
      | 2, _ => rfl
      | 3, _ => rfl
      | 4, _ => rfl
      | 5, _ => rfl
      | 6, _ => rfl
      | 7, _ => rfl
      | 8, _ => rfl
      | 9, _ => rfl
      | 10, _ => rfl
      | 11, _ => rfl
      | 12, _ => rfl
      | 13, _ => rfl
      | i + 14, hi => exact absurd hi (by omega)
    case hinj =>
      intro i j hi hj h
      exact slots_inj [14, 15, 16, 17, 18, 19, 20, 21, 22, 23, 24, 25, 26, 27] (by decide) hi hj h
    case stable =>
      intro i v w8 w9 hb h
      match i, h with
      | 0, h => exact h
      | 1, h => exact h
      | 2, h => exact h.below hb
      | 3, h => exact h
      | 4, h => exact h
      | 5, h => exact h
      | 6, h => exact h
      | 7, h => exact h.below hb
      | 8, h => exact h
      | 9, h => exact h
      | 10, h => exact h
      | 11, h => exact h.below hb
      | 12, h => exact h.below hb
      | 13, h => exact h.below hb
      | _ + 14, h => trivial
    case step =>
      intro i hi u w8 S8 hdep
      match i, hi with
      | 0, _ =>
        clear hdep
        refine ⟨_, rfl, fun K' hK => ?_⟩
        go_simp
        exact hK.out _ _ (Below.refl _ _) rfl
      | 1, _ =>
        have h0 : (u 14) = .slice (some ⟨b, off, none⟩) 1 1 := hdep 0 (by kernel_rfl)
        clear hdep
        refine ⟨_, rfl, fun K' hK => ?_⟩
        simp only [h0] at hK ⊢
        go_simp
        exact hK.out _ _ (Below.refl _ _) rfl
      | 2, _ =>
        have h1 : (u 15) = .pointer (some ⟨b, off, none⟩) := hdep 1 (by kernel_rfl)
        clear hdep
        refine ⟨_, rfl, fun K' hK => ?_⟩
        obtain ⟨⟨x0, x1, x2⟩, -, -⟩ := HK.out w8 S8
        simp only [h1] at hK ⊢
        go_simp
        exact hK.out _ _ (Below.refl _ _) ⟨ax, lx, cx, rfl, nz_below (nz_base HX.out HW.out) S8⟩
      | 3, _ =>
        clear hdep
        refine ⟨_, rfl, fun K' hK => ?_⟩
        go_simp
        exact hK.out _ _ (Below.refl _ _) rfl
      | 4, _ =>
        have h3 : (u 17) = .int .i64 k := hdep 3 (by kernel_rfl)
        clear hdep
        refine ⟨_, rfl, fun K' hK => ?_⟩
        have hw : IntKind.i64.wrap (k - 1) = k - 1 := by rw [IntKind.wrap_i64]; omega
        simp only [h3] at hK ⊢
        go_simp
        exact hK.out _ _ (Below.refl _ _) rfl
      | 5, _ =>
        clear hdep
        refine ⟨_, rfl, fun K' hK => ?_⟩
        go_simp
        exact hK.out _ _ (Below.refl _ _) rfl
      | 6, _ =>
        have h5 : (u 19) = .slice (some ⟨b, off, none⟩) 1 1 := hdep 5 (by kernel_rfl)
        clear hdep
        refine ⟨_, rfl, fun K' hK => ?_⟩
        simp only [h5] at hK ⊢
        go_simp
        exact hK.out _ _ (Below.refl _ _) rfl
      | 7, _ =>
        have h4 : (u 18) = .int .i64 (k - 1) := hdep 4 (by kernel_rfl)
        have h6 : (u 20) = .slice (some ⟨b, off, none⟩) 0 0 := hdep 6 (by kernel_rfl)
        clear hdep
        refine ⟨_, rfl, fun K' hK => ?_⟩
        simp only [h4, h6] at hK ⊢
        go_simp
        refine (HI.out 0 (by omega) (fun x => Q x ∧ x < w.heap.size) (tailT X) _ 0 (k - 1) _ ((HTl.out.below HW.out).below S8) (by omega) (by omega) (by omega) HKt.out).mono ?_
        rintro e w9 ⟨v, rfl, ⟨a9, l9, c9, rfl, r9⟩, hb9⟩
        exact hK.out _ _ hb9 ⟨a9, l9, c9, rfl, nz_up r9 (fun b hb => hb) (Nat.le_trans HW.out.size S8.size)⟩
      | 8, _ =>
        clear hdep
        refine ⟨_, rfl, fun K' hK => ?_⟩
        go_simp
        exact hK.out _ _ (Below.refl _ _) rfl
      | 9, _ =>
        clear hdep
        refine ⟨_, rfl, fun K' hK => ?_⟩
        go_simp
        exact hK.out _ _ (Below.refl _ _) rfl
      | 10, _ =>
        have h9 : (u 23) = .slice (some ⟨b, off, none⟩) 1 1 := hdep 9 (by kernel_rfl)
        clear hdep
        refine ⟨_, rfl, fun K' hK => ?_⟩
        simp only [h9] at hK ⊢
        go_simp
        exact hK.out _ _ (Below.refl _ _) rfl
      | 11, _ =>
        have h8 : (u 22) = .int .i64 k := hdep 8 (by kernel_rfl)
        have h10 : (u 24) = .slice (some ⟨b, off, none⟩) 0 0 := hdep 10 (by kernel_rfl)
        clear hdep
        refine ⟨_, rfl, fun K' hK => ?_⟩
        simp only [h8, h10] at hK ⊢
        go_simp
        refine (HI.out 0 (by omega) (fun x => Q x ∧ x < w.heap.size) (tailT X) _ 0 k _ ((HTl.out.below HW.out).below S8) (by omega) (by omega) (by omega) HKt.out).mono ?_
        rintro e w9 ⟨v, rfl, ⟨a9, l9, c9, rfl, r9⟩, hb9⟩
        exact hK.out _ _ hb9 ⟨a9, l9, c9, rfl, nz_up r9 (fun b hb => hb) (Nat.le_trans HW.out.size S8.size)⟩
      | 12, _ =>
        have h2 : TV Q w.heap.size w8 (d) (kid X 0) (u 16) := hdep 2 (by kernel_rfl)
        have h7 : TV Q w.heap.size w8 (d + 0) (amT 0 (tailT X) (k - 1)) (u 21) := hdep 7 (by kernel_rfl)
        have h11 : TV Q w.heap.size w8 (d + 0) (amT 0 (tailT X) k) (u 25) := hdep 11 (by kernel_rfl)
        clear hdep
        refine ⟨_, rfl, fun K' hK => ?_⟩
        obtain ⟨a2, l2, c2, e2, r2⟩ := h2
        obtain ⟨a7, l7, c7, e7, r7⟩ := h7
        obtain ⟨a11, l11, c11, e11, r11⟩ := h11
        simp only [e2, e7, e11] at hK ⊢
        go_simp
        exact hK.out _ _ (by repeat (first | exact Below.refl _ _ | assumption | refine Below.drew ?_ | refine Below.alloc ?_ (by first | exact Nat.le_refl _ | omega | (simp; done) | (simp; omega)) _ | refine Below.setCell ?_ (by first | exact Nat.le_refl _ | omega | (simp; done) | (simp; omega)) _)) ⟨w8.heap.size, rfl, row3 7 (Nat.le_trans HW.out.size S8.size) hk' (r2.more (by omega)) (r7.more (by omega)) (r11.more (by omega))⟩
      | 13, _ =>
        have h12 : RV Q w.heap.size w8 (d + 0 + 1) (ndT 7 3 (three (kid X 0) (amT 0 (tailT X) (k - 1)) (amT 0 (tailT X) k))) 3 (u 26) := hdep 12 (by kernel_rfl)
        clear hdep
        refine ⟨_, rfl, fun K' hK => ?_⟩
        obtain ⟨N12, e12, r12⟩ := h12
        simp only [e12] at hK ⊢
        go_simp
        refine (new_impl 7 _ _ _ _).mono ?_
        rintro e w9 ⟨rfl, hb9⟩
        exact hK.out _ _ hb9 ⟨_, _, _, rfl, nz_below r12 hb9⟩
      | i + 14, hi => exact absurd hi (by omega)
    case last =>
      intro u w8 S8 hall
      have h13 : TV Q w.heap.size w8 (d + 0 + 1) (ndT 7 3 (three (kid X 0) (amT 0 (tailT X) (k - 1)) (amT 0 (tailT X) k))) (u 27) := hall 13 (by decide)
      clear hall
      refine ⟨_, rfl, fun K' hK => ?_⟩
      obtain ⟨-, ⟨z0, z1, z2⟩, hfr⟩ := HK.out w8 S8
      obtain ⟨a8, l8, c8, e8, r8⟩ := h13
      have g0 := hfr 0
      have g1 := hfr 1
      have g2 := hfr 2
      simp only [e8] at hK ⊢
      go_simp
      refine hK.out _ _ ?_
      clear hK K'
      (try simp only [Exit.then])
      have HR8 := hid (nz_set3 r8 (Nat.le_refl _) z0 (.int .i64 (kd (ndT 7 3 (three (kid X 0) (amT 0 (tailT X) (k - 1)) (amT 0 (tailT X) k))))) (.int .i64 (nn (ndT 7 3 (three (kid X 0) (amT 0 (tailT X) (k - 1)) (amT 0 (tailT X) k))))) (.slice a8 l8 c8))
      have HB := hid (below_set3 (HW.out.trans (S8.mono HW.out.size)) (R := w.heap.size) (Nat.le_refl _) (.int .i64 (kd (ndT 7 3 (three (kid X 0) (amT 0 (tailT X) (k - 1)) (amT 0 (tailT X) k))))) (.int .i64 (nn (ndT 7 3 (three (kid X 0) (amT 0 (tailT X) (k - 1)) (amT 0 (tailT X) k))))) (.slice a8 l8 c8))
      go_wp2
      refine bodyPost_ret (v := .agg #[.int .i64 (kd (ndT 7 3 (three (kid X 0) (amT 0 (tailT X) (k - 1)) (amT 0 (tailT X) k)))), .int .i64 (nn (ndT 7 3 (three (kid X 0) (amT 0 (tailT X) (k - 1)) (amT 0 (tailT X) k)))), .slice a8 l8 c8]) (by simp [results, Try.results18, go_sem, z0, z1, z2]) rfl ⟨_, rfl, ⟨a8, l8, c8, rfl, HR8.out.more (by omega)⟩, HB.out⟩
  · obtain rfl : aT = some ⟨b, off + 3, none⟩ := by rw [haT, if_neg hc1]
    clear haT
    have hc2 : 1 < c := by omega
    have hl1 : (1 : Int) ≤ (l : Int) := by omega
    go_enter Try.func18, Try.ntmps18
    go_wp2_with fail
    have HW : Hid (Below w.heap.size w (w.alloc (.cells #[.int .i64 0, .int .i64 0, .slice none 0 0] 27))) := (by repeat (first | exact Below.refl _ _ | assumption | refine Below.drew ?_ | refine Below.alloc ?_ (by first | exact Nat.le_refl _ | omega | (simp; done) | (simp; omega)) _ | refine Below.setCell ?_ (by first | exact Nat.le_refl _ | omega | (simp; done) | (simp; omega)) _))
    have hf : ((w.alloc (.cells #[.int .i64 0, .int .i64 0, .slice none 0 0] 27)).cell? ⟨w.heap.size, 0, none⟩ = some (.int .i64 0) ∧ (w.alloc (.cells #[.int .i64 0, .int .i64 0, .slice none 0 0] 27)).cell? ⟨w.heap.size, 1, none⟩ = some (.int .i64 0) ∧ (w.alloc (.cells #[.int .i64 0, .int .i64 0, .slice none 0 0] 27)).cell? ⟨w.heap.size, 2, none⟩ = some (.slice none 0 0)) ∧ ∀ x, (w.alloc (.cells #[.int .i64 0, .int .i64 0, .slice none 0 0] 27)).frozen? ⟨w.heap.size, x, none⟩ = false := ⟨⟨by simp [go_sem], by simp [go_sem], by simp [go_sem]⟩, fun x => by simp [go_sem]⟩
    have HZ : Hid ((w.alloc (.cells #[.int .i64 0, .int .i64 0, .slice none 0 0] 27)).heap.size = w.heap.size + 1) := by show _ = _; simp
    generalize (w.alloc (.cells #[.int .i64 0, .int .i64 0, .slice none 0 0] 27)) = W8 at *
    have HK : Hid (∀ w8 : World, Below W8.heap.size W8 w8 → (w8.cell? ⟨b, off, none⟩ = some (.int .i64 (kd (kid X 0))) ∧ w8.cell? ⟨b, off + 1, none⟩ = some (.int .i64 (nn (kid X 0))) ∧ w8.cell? ⟨b, off + 2, none⟩ = some (.slice ax lx cx)) ∧
        (w8.cell? ⟨w.heap.size, 0, none⟩ = some (.int .i64 0) ∧ w8.cell? ⟨w.heap.size, 1, none⟩ = some (.int .i64 0) ∧ w8.cell? ⟨w.heap.size, 2, none⟩ = some (.slice none 0 0)) ∧ ∀ x, w8.frozen? ⟨w.heap.size, x, none⟩ = false) :=
      fun w8 h => ⟨⟨keep h (keep HW.out x0), keep h (keep HW.out x1), keep h (keep HW.out x2)⟩, ⟨keep h hf.1.1, keep h hf.1.2.1, keep h hf.1.2.2⟩, fun x => (h.frozen (p := ⟨w.heap.size, x, none⟩) (by rw [HZ.out]; dsimp only; omega)).trans (hf.2 x)⟩
    clear hf x0 x1 x2
    refine region_below (fun u => ⟨#[.int .i64 k, .slice (some ⟨b, off, none⟩) l c, undef, undef, .pointer (some ⟨w.heap.size, 0, none⟩), .bool false, .int .i64 k, .bool false, undef, .bool false, .slice (some ⟨b, off, none⟩) l c, .int .i64 (l : Int), .bool false, undef, u 14, u 15, u 16, u 17, u 18, u 19, u 20, u 21, u 22, u 23, u 24, u 25, u 26, u 27], []⟩) (fun i => [14, 15, 16, 17, 18, 19, 20, 21, 22, 23, 24, 25, 26, 27].getD i 0) (fun i v w8 => match i with | 0 => v = .slice (some ⟨b, off, none⟩) l c | 1 => v = .pointer (some ⟨b, off, none⟩) | 2 => TV Q w.heap.size w8 (d) (kid X 0) v | 3 => v = .int .i64 k | 4 => v = .int .i64 (k - 1) | 5 => v = .slice (some ⟨b, off, none⟩) l c | 6 => v = .slice (some ⟨b, off + 3, none⟩) (l - 1) (c - 1) | 7 => TV Q w.heap.size w8 (d + (l - 1)) (amT (l - 1) (tailT X) (k - 1)) v | 8 => v = .int .i64 k | 9 => v = .slice (some ⟨b, off, none⟩) l c | 10 => v = .slice (some ⟨b, off + 3, none⟩) (l - 1) (c - 1) | 11 => TV Q w.heap.size w8 (d + (l - 1)) (amT (l - 1) (tailT X) k) v | 12 => RV Q w.heap.size w8 (d + (l - 1) + 1) (ndT 7 3 (three (kid X 0) (amT (l - 1) (tailT X) (k - 1)) (amT (l - 1) (tailT X) k))) 3 v | 13 => TV Q w.heap.size w8 (d + (l - 1) + 1) (ndT 7 3 (three (kid X 0) (amT (l - 1) (tailT X) (k - 1)) (amT (l - 1) (tailT X) k))) v | _ => True) W8 14 (fun k => match k with | 14 => undef | 15 => undef | 16 => undef | 17 => undef | 18 => undef | 19 => undef | 20 => undef | 21 => undef | 22 => undef | 23 => undef | 24 => undef | 25 => undef | 26 => undef | 27 => undef | _ => undef) (by rfl) (by kernel_rfl) (by rfl) ⟨by kernel_rfl, by kernel_rfl, by kernel_rfl, by decide⟩ (by kernel_rfl) (Below.refl _ _) ?hput ?hinj ?stable ?step ?last
    case hput =>
      intro i hi u v
      match i, hi with
      | 0, _ => rfl
      | 1, _ => rfl
      | 2, _ => rfl
      | 3, _ => rfl
      | 4, _ => rfl
      | 5, _ => rfl
      | 6, _ => rfl
      | 7, _ => rfl
      | 8, _ => rfl
      | 9, _ => rfl
      | 10, _ => rfl
      | 11, _ => rfl
      | 12, _ => rfl
      | 13, _ => rfl
      | i + 14, hi => exact absurd hi (by omega)
    case hinj =>
      intro i j hi hj h
      exact slots_inj [14, 15, 16, 17, 18, 19, 20, 21, 22, 23, 24, 25, 26, 27] (by decide) hi hj h
    case stable =>
      intro i v w8 w9 hb h
      match i, h with
      | 0, h => exact h
      | 1, h => exact h
      | 2, h => exact h.below hb
      | 3, h => exact h
      | 4, h => exact h
      | 5, h => exact h
      | 6, h => exact h
      | 7, h => exact h.below hb
      | 8, h => exact h
      | 9, h => exact h
      | 10, h => exact h
      | 11, h => exact h.below hb
      | 12, h => exact h.below hb
      | 13, h => exact h.below hb
      | _ + 14, h => trivial
    case step =>
      intro i hi u w8 S8 hdep
      match i, hi with
      | 0, _ =>
        clear hdep
        refine ⟨_, rfl, fun K' hK => ?_⟩
        go_simp
        exact hK.out _ _ (Below.refl _ _) rfl
      | 1, _ =>
        have h0 : (u 14) = .slice (some ⟨b, off, none⟩) l c := hdep 0 (by kernel_rfl)
        clear hdep
        refine ⟨_, rfl, fun K' hK => ?_⟩
        simp only [h0] at hK ⊢
        go_simp
        exact hK.out _ _ (Below.refl _ _) rfl
      | 2, _ =>
        have h1 : (u 15) = .pointer (some ⟨b, off, none⟩) := hdep 1 (by kernel_rfl)
        clear hdep
        refine ⟨_, rfl, fun K' hK => ?_⟩
        obtain ⟨⟨x0, x1, x2⟩, -, -⟩ := HK.out w8 S8
        simp only [h1] at hK ⊢
        go_simp
        exact hK.out _ _ (Below.refl _ _) ⟨ax, lx, cx, rfl, nz_below (nz_base HX.out HW.out) S8⟩
      | 3, _ =>
        clear hdep
        refine ⟨_, rfl, fun K' hK => ?_⟩
        go_simp
        exact hK.out _ _ (Below.refl _ _) rfl
      | 4, _ =>
        have h3 : (u 17) = .int .i64 k := hdep 3 (by kernel_rfl)
        clear hdep
        refine ⟨_, rfl, fun K' hK => ?_⟩
        have hw : IntKind.i64.wrap (k - 1) = k - 1 := by rw [IntKind.wrap_i64]; omega
        simp only [h3] at hK ⊢
        go_simp
        exact hK.out _ _ (Below.refl _ _) rfl
      | 5, _ =>
        clear hdep
        refine ⟨_, rfl, fun K' hK => ?_⟩
        go_simp
        exact hK.out _ _ (Below.refl _ _) rfl
      | 6, _ =>
        have h5 : (u 19) = .slice (some ⟨b, off, none⟩) l c := hdep 5 (by kernel_rfl)
        clear hdep
        refine ⟨_, rfl, fun K' hK => ?_⟩
        simp only [h5] at hK ⊢
        go_simp
        exact hK.out _ _ (Below.refl _ _) rfl
      | 7, _ =>
        have h4 : (u 18) = .int .i64 (k - 1) := hdep 4 (by kernel_rfl)
        have h6 : (u 20) = .slice (some ⟨b, off + 3, none⟩) (l - 1) (c - 1) := hdep 6 (by kernel_rfl)
        clear hdep
        refine ⟨_, rfl, fun K' hK => ?_⟩
        simp only [h4, h6] at hK ⊢
        go_simp
        refine (HI.out (l - 1) (by omega) (fun x => Q x ∧ x < w.heap.size) (tailT X) _ (c - 1) (k - 1) _ ((HTl.out.below HW.out).below S8) (by omega) (by omega) (by omega) HKt.out).mono ?_
        rintro e w9 ⟨v, rfl, ⟨a9, l9, c9, rfl, r9⟩, hb9⟩
        exact hK.out _ _ hb9 ⟨a9, l9, c9, rfl, nz_up r9 (fun b hb => hb) (Nat.le_trans HW.out.size S8.size)⟩
      | 8, _ =>
        clear hdep
        refine ⟨_, rfl, fun K' hK => ?_⟩
        go_simp
        exact hK.out _ _ (Below.refl _ _) rfl
      | 9, _ =>
        clear hdep
        refine ⟨_, rfl, fun K' hK => ?_⟩
        go_simp
        exact hK.out _ _ (Below.refl _ _) rfl
      | 10, _ =>
        have h9 : (u 23) = .slice (some ⟨b, off, none⟩) l c := hdep 9 (by kernel_rfl)
        clear hdep
        refine ⟨_, rfl, fun K' hK => ?_⟩
        simp only [h9] at hK ⊢
        go_simp
        exact hK.out _ _ (Below.refl _ _) rfl
      | 11, _ =>
        have h8 : (u 22) = .int .i64 k := hdep 8 (by kernel_rfl)
        have h10 : (u 24) = .slice (some ⟨b, off + 3, none⟩) (l - 1) (c - 1) := hdep 10 (by kernel_rfl)
        clear hdep
        refine ⟨_, rfl, fun K' hK => ?_⟩
        simp only [h8, h10] at hK ⊢
        go_simp
        refine (HI.out (l - 1) (by omega) (fun x => Q x ∧ x < w.heap.size) (tailT X) _ (c - 1) k _ ((HTl.out.below HW.out).below S8) (by omega) (by omega) (by omega) HKt.out).mono ?_
        rintro e w9 ⟨v, rfl, ⟨a9, l9, c9, rfl, r9⟩, hb9⟩
        exact hK.out _ _ hb9 ⟨a9, l9, c9, rfl, nz_up r9 (fun b hb => hb) (Nat.le_trans HW.out.size S8.size)⟩
      | 12, _ =>
        have h2 : TV Q w.heap.size w8 (d) (kid X 0) (u 16) := hdep 2 (by kernel_rfl)
        have h7 : TV Q w.heap.size w8 (d + (l - 1)) (amT (l - 1) (tailT X) (k - 1)) (u 21) := hdep 7 (by kernel_rfl)
        have h11 : TV Q w.heap.size w8 (d + (l - 1)) (amT (l - 1) (tailT X) k) (u 25) := hdep 11 (by kernel_rfl)
        clear hdep
        refine ⟨_, rfl, fun K' hK => ?_⟩
        obtain ⟨a2, l2, c2, e2, r2⟩ := h2
        obtain ⟨a7, l7, c7, e7, r7⟩ := h7
        obtain ⟨a11, l11, c11, e11, r11⟩ := h11
        simp only [e2, e7, e11] at hK ⊢
        go_simp
        exact hK.out _ _ (by repeat (first | exact Below.refl _ _ | assumption | refine Below.drew ?_ | refine Below.alloc ?_ (by first | exact Nat.le_refl _ | omega | (simp; done) | (simp; omega)) _ | refine Below.setCell ?_ (by first | exact Nat.le_refl _ | omega | (simp; done) | (simp; omega)) _)) ⟨w8.heap.size, rfl, row3 7 (Nat.le_trans HW.out.size S8.size) hk' (r2.more (by omega)) (r7.more (by omega)) (r11.more (by omega))⟩
      | 13, _ =>
        have h12 : RV Q w.heap.size w8 (d + (l - 1) + 1) (ndT 7 3 (three (kid X 0) (amT (l - 1) (tailT X) (k - 1)) (amT (l - 1) (tailT X) k))) 3 (u 26) := hdep 12 (by kernel_rfl)
        clear hdep
        refine ⟨_, rfl, fun K' hK => ?_⟩
        obtain ⟨N12, e12, r12⟩ := h12
        simp only [e12] at hK ⊢
        go_simp
        refine (new_impl 7 _ _ _ _).mono ?_
        rintro e w9 ⟨rfl, hb9⟩
        exact hK.out _ _ hb9 ⟨_, _, _, rfl, nz_below r12 hb9⟩
      | i + 14, hi => exact absurd hi (by omega)
    case last =>
      intro u w8 S8 hall
      have h13 : TV Q w.heap.size w8 (d + (l - 1) + 1) (ndT 7 3 (three (kid X 0) (amT (l - 1) (tailT X) (k - 1)) (amT (l - 1) (tailT X) k))) (u 27) := hall 13 (by decide)
      clear hall
      refine ⟨_, rfl, fun K' hK => ?_⟩
      obtain ⟨-, ⟨z0, z1, z2⟩, hfr⟩ := HK.out w8 S8
      obtain ⟨a8, l8, c8, e8, r8⟩ := h13
      have g0 := hfr 0
      have g1 := hfr 1
      have g2 := hfr 2
      simp only [e8] at hK ⊢
      go_simp
      refine hK.out _ _ ?_
      clear hK K'
      (try simp only [Exit.then])
      have HR8 := hid (nz_set3 r8 (Nat.le_refl _) z0 (.int .i64 (kd (ndT 7 3 (three (kid X 0) (amT (l - 1) (tailT X) (k - 1)) (amT (l - 1) (tailT X) k))))) (.int .i64 (nn (ndT 7 3 (three (kid X 0) (amT (l - 1) (tailT X) (k - 1)) (amT (l - 1) (tailT X) k))))) (.slice a8 l8 c8))
      have HB := hid (below_set3 (HW.out.trans (S8.mono HW.out.size)) (R := w.heap.size) (Nat.le_refl _) (.int .i64 (kd (ndT 7 3 (three (kid X 0) (amT (l - 1) (tailT X) (k - 1)) (amT (l - 1) (tailT X) k))))) (.int .i64 (nn (ndT 7 3 (three (kid X 0) (amT (l - 1) (tailT X) (k - 1)) (amT (l - 1) (tailT X) k))))) (.slice a8 l8 c8))
      go_wp2
      refine bodyPost_ret (v := .agg #[.int .i64 (kd (ndT 7 3 (three (kid X 0) (amT (l - 1) (tailT X) (k - 1)) (amT (l - 1) (tailT X) k)))), .int .i64 (nn (ndT 7 3 (three (kid X 0) (amT (l - 1) (tailT X) (k - 1)) (amT (l - 1) (tailT X) k)))), .slice a8 l8 c8]) (by simp [results, Try.results18, go_sem, z0, z1, z2]) rfl ⟨_, rfl, ⟨a8, l8, c8, rfl, HR8.out.more (by omega)⟩, HB.out⟩
end Go.Proofs.Ytacamkdcofppcaa.atMost
