/- BestRoute, of the program and of its specification: the first of the best; conditions: none. -/
import Derived.Test.YtjppbmpgnlojpaaGreatBestRoute
namespace Go.Proofs.YtjppbmpgnlojpaaGreat.bestFace
open Go.RowKit Go.Deep base routeRow compare bestRoute
set_option linter.unusedVariables false

theorem code_long {len : Nat} (h : 4096 < len) (g : Rs) : bestCode len = 2 ∧ bestOf len g = zeroRt := by
  have : bestCode len = 2 := by unfold bestCode; rw [if_pos h]
  exact ⟨this, by unfold bestOf; rw [this, if_neg (by decide)]⟩
theorem code_none (g : Rs) : bestCode 0 = 6 ∧ bestOf 0 g = zeroRt := ⟨rfl, rfl⟩
theorem code_ok {len : Nat} (h : ¬ 4096 < len) (h0 : 0 < len) (g : Rs) : bestCode len = 0 ∧ bestOf len g = bestTo g (len - 1) := by
  have : bestCode len = 0 := by unfold bestCode; rw [if_neg h, if_neg (by omega)]
  exact ⟨this, by unfold bestOf; rw [if_pos this]⟩

set_option maxHeartbeats 1600000 in
set_option maxRecDepth 8000 in
theorem min_impl (a : Option Addr) (len cap : Nat) (g : Rs) (w : World) (hr : RtRow w a len g) (h0 : 0 < len) :
    Calls Tryz.prog 63 #[.slice a len cap, .func (.func 64) #[] #[]] w fun e w' => e = .returned (rtV (bestTo g (len - 1))) ∧ Below w.heap.size w w' := by
  have HR := hid hr
  have hmost := hr.most
  unfold maxLen at hmost
  clear hr
  unfold rtV
  have i1 : ¬ (len : Int) < 1 := by omega
  obtain ⟨b, off, rfl, c0, c1, c2, c3⟩ := HR.out.at0 (by omega)
  have hbs := World.block_lt_of_cell? _ _ c0
  simp only at hbs
  go_enter Tryz.func63, Tryz.ntmps63
  go_wp2

  go_loopw [6] (fun i wr => ∃ k : Nat, 1 ≤ k ∧ k ≤ len ∧ i = .int .i64 k ∧ Below w.heap.size w wr ∧ wr.rowIs (w.heap.size + 1) 58 4 (rc (bestTo g (k - 1))) ∧ wr.rowIs w.heap.size 58 4 (rc zeroRt)) (fun i _ => len - (intOf i).toNat)
  case atStart =>
    refine ⟨1, by omega, by omega, rfl, (by repeat (first | exact Below.refl _ _ | assumption | refine Below.drew ?_ | refine Below.alloc ?_ (by first | exact Nat.le_refl _ | omega | (simp; done) | (simp; omega)) _ | refine Below.setCell ?_ (by first | exact Nat.le_refl _ | omega | (simp; done) | (simp; omega)) _)), ?_, ?_⟩
    · have := World.rowIs_alloc (w.alloc (.cells #[.int .i64 0, .int .i64 0, .int .i64 0, .bool false] 58)) #[.int .i64 (g 0).via, .int .i64 (g 0).pref, .int .i64 (g 0).len, .bool (g 0).mark] 58 (rc (g 0)) (fun i hi => by
        match i, hi with
        | 0, _ => rfl
        | 1, _ => rfl
        | 2, _ => rfl
        | 3, _ => rfl
        | i + 4, hi => exact absurd hi (by simp))
      rw [World.size_alloc] at this
      exact this
    · refine World.rowIs.of_block (World.rowIs_alloc w #[.int .i64 0, .int .i64 0, .int .i64 0, .bool false] 58 (rc zeroRt) (fun i hi => by
        match i, hi with
        | 0, _ => rfl
        | 1, _ => rfl
        | 2, _ => rfl
        | 3, _ => rfl
        | i + 4, hi => exact absurd hi (by simp))) ?_
      exact Below.block (B := w.heap.size + 1) ((Below.refl _ _).alloc (by first | exact Nat.le_refl _ | (rw [World.size_alloc]; exact Nat.le_refl _)) _) _ (by omega)
  case round =>
    obtain ⟨k, hk1, hk, rfl, hbel, hro, rb⟩ := hrel
    have HB := hid hbel
    have HO := hid hro
    have HRB := hid rb
    have hsz := hbel.size
    have hlo := World.rowIs.lt hro
    have hd0 : wr.cell? ⟨w.heap.size + 1, 0, none⟩ = some (.int .i64 (bestTo g (k - 1)).via) := World.rowIs.cell hro (i := 0) (by omega)
    have hd1 : wr.cell? ⟨w.heap.size + 1, 1, none⟩ = some (.int .i64 (bestTo g (k - 1)).pref) := World.rowIs.cell hro (i := 1) (by omega)
    have hd2 : wr.cell? ⟨w.heap.size + 1, 2, none⟩ = some (.int .i64 (bestTo g (k - 1)).len) := World.rowIs.cell hro (i := 2) (by omega)
    have hd3 : wr.cell? ⟨w.heap.size + 1, 3, none⟩ = some (.bool (bestTo g (k - 1)).mark) := World.rowIs.cell hro (i := 3) (by omega)
    by_cases hlt : k < len
    · obtain ⟨b', off', hae, hc0, hc1, hc2, hc3⟩ := HR.out.at4 hlt
      injection hae with hae
      injection hae with e1 e2
      subst e1
      subst e2
      replace hc0 := keep hbel hc0
      replace hc1 := keep hbel hc1
      replace hc2 := keep hbel hc2
      replace hc3 := keep hbel hc3
      have HG : Hid (g k = ⟨(g k).via, (g k).pref, (g k).len, (g k).mark⟩) := hid rfl
      have HY : Hid (bestTo g (k - 1) = ⟨(bestTo g (k - 1)).via, (bestTo g (k - 1)).pref, (bestTo g (k - 1)).len, (bestTo g (k - 1)).mark⟩) := hid rfl
      clear hbel hro rb
      generalize (g k).via = x0 at *
      generalize (g k).pref = x1 at *
      generalize (g k).len = x2 at *
      generalize (g k).mark = x3 at *
      generalize (bestTo g (k - 1)).via = y0 at *
      generalize (bestTo g (k - 1)).pref = y1 at *
      generalize (bestTo g (k - 1)).len = y2 at *
      generalize (bestTo g (k - 1)).mark = y3 at *
      have HBY : Hid (better ⟨x0, x1, x2, x3⟩ ⟨y0, y1, y2, y3⟩ = true → bestTo g k = ⟨x0, x1, x2, x3⟩) := hid (fun h => by
        obtain ⟨k', rfl⟩ : ∃ k', k = k' + 1 := ⟨k - 1, by omega⟩
        rw [← HG.out]
        exact best_yes (by rw [HG.out]; rw [Nat.add_sub_cancel] at HY; rw [HY.out]; exact h))
      have HBN : Hid (better ⟨x0, x1, x2, x3⟩ ⟨y0, y1, y2, y3⟩ = false → bestTo g k = ⟨y0, y1, y2, y3⟩) := hid (fun h => by
        obtain ⟨k', rfl⟩ : ∃ k', k = k' + 1 := ⟨k - 1, by omega⟩
        rw [Nat.add_sub_cancel] at HY
        rw [← HY.out]
        exact best_no (by rw [HG.out, HY.out]; exact h))
      have HK : Hid (∀ w8 : World, Below wr.heap.size wr w8 → w8.cell? ⟨b, off + k * 4, none⟩ = some (.int .i64 x0) ∧ w8.cell? ⟨b, off + k * 4 + 1, none⟩ = some (.int .i64 x1) ∧ w8.cell? ⟨b, off + k * 4 + 2, none⟩ = some (.int .i64 x2) ∧ w8.cell? ⟨b, off + k * 4 + 3, none⟩ = some (.bool x3) ∧ w8.cell? ⟨w.heap.size + 1, 0, none⟩ = some (.int .i64 y0) ∧ w8.cell? ⟨w.heap.size + 1, 1, none⟩ = some (.int .i64 y1) ∧ w8.cell? ⟨w.heap.size + 1, 2, none⟩ = some (.int .i64 y2) ∧ w8.cell? ⟨w.heap.size + 1, 3, none⟩ = some (.bool y3) ∧ Below wr.heap.size wr w8) :=
        fun w8 h => ⟨keep h hc0, keep h hc1, keep h hc2, keep h hc3, keep h hd0, keep h hd1, keep h hd2, keep h hd3, h⟩
      clear hc0 hc1 hc2 hc3 hd0 hd1 hd2 hd3
      go_wp2_with fail
      go_region_held3 (fun w8 => w8.cell? ⟨b, off + k * 4, none⟩ = some (.int .i64 x0) ∧ w8.cell? ⟨b, off + k * 4 + 1, none⟩ = some (.int .i64 x1) ∧ w8.cell? ⟨b, off + k * 4 + 2, none⟩ = some (.int .i64 x2) ∧ w8.cell? ⟨b, off + k * 4 + 3, none⟩ = some (.bool x3) ∧ w8.cell? ⟨w.heap.size + 1, 0, none⟩ = some (.int .i64 y0) ∧ w8.cell? ⟨w.heap.size + 1, 1, none⟩ = some (.int .i64 y1) ∧ w8.cell? ⟨w.heap.size + 1, 2, none⟩ = some (.int .i64 y2) ∧ w8.cell? ⟨w.heap.size + 1, 3, none⟩ = some (.bool y3) ∧ Below wr.heap.size wr w8)
        (refine HK.out _ (by first | assumption | exact (Below.refl _ wr).drew | exact hb57))
        ((go_at_call 64; refine (first_impl x0 x1 x2 y0 y1 y2 x3 y3 _).mono ?_; rintro e w7 ⟨rfl, hb7⟩; have hb57 : Below wr.heap.size wr w7 := ((Below.refl _ wr).drew).trans hb7; clear hb7))
      all_goals
        have HB5 := hid hb57
        obtain ⟨hc0, hc1, hc2, hc3, hd0, hd1, hd2, hd3, -⟩ := HK.out w7 hb57
        have hr7 := HO.out.of_block (hb57.block _ hlo)
        have HR7 := hid hr7
        have HRB7 := hid (HRB.out.of_block (HB5.out.block _ (World.rowIs.lt HRB.out)))
        have z0 := hr7.frozen 0
        have z1 := hr7.frozen 1
        have z2 := hr7.frozen 2
        have z3 := hr7.frozen 3
        have hbw := HB.out.trans (hb57.mono HB.out.size)
        have HBW := hid hbw
        clear hb57 hr7 hbw
        cases hb : better ⟨x0, x1, x2, x3⟩ ⟨y0, y1, y2, y3⟩ with
        | true =>
          have HT := hid hb
          have hdc : decide (first ⟨x0, x1, x2, x3⟩ ⟨y0, y1, y2, y3⟩ < 0) = true := by rw [first_neg]; exact HT.out
          have hdc2 : first ⟨x0, x1, x2, x3⟩ ⟨y0, y1, y2, y3⟩ < 0 := by simpa using hdc
          generalize first ⟨x0, x1, x2, x3⟩ ⟨y0, y1, y2, y3⟩ = fr at *
          clear hdc hb
          go_wp2
          go_roundw
          case rel => exact ⟨k + 1, by omega, by omega, by go_num, ((((HBW.out.setCell (by first | exact Nat.le_refl _ | omega | (simp; done)) _).setCell (by first | exact Nat.le_refl _ | omega | (simp; done)) _).setCell (by first | exact Nat.le_refl _ | omega | (simp; done)) _).setCell (by first | exact Nat.le_refl _ | omega | (simp; done)) _), by
              rw [Nat.add_sub_cancel, HBY.out HT.out]
              refine World.rowIs.congr ((((HR7.out.set 0 _).set 1 _).set 2 _).set 3 _) fun i hi => ?_
              match i, hi with
              | 0, _ => rfl
              | 1, _ => rfl
              | 2, _ => rfl
              | 3, _ => rfl
              | i + 4, hi => exact absurd hi (by omega), by
              refine World.rowIs.of_block HRB7.out ?_
              rw [Below.heap_setCell _ _ _ _ (by dsimp only; omega), Below.heap_setCell _ _ _ _ (by dsimp only; omega), Below.heap_setCell _ _ _ _ (by dsimp only; omega), Below.heap_setCell _ _ _ _ (by dsimp only; omega)]⟩
          case measure => simp [intOf]; omega
        | false =>
          have HT := hid hb
          have hdc : decide (first ⟨x0, x1, x2, x3⟩ ⟨y0, y1, y2, y3⟩ < 0) = false := by rw [first_neg]; exact HT.out
          have hdc2 : 0 ≤ first ⟨x0, x1, x2, x3⟩ ⟨y0, y1, y2, y3⟩ := by simpa using hdc
          generalize first ⟨x0, x1, x2, x3⟩ ⟨y0, y1, y2, y3⟩ = fr at *
          clear hdc hb
          go_wp2
          go_roundw
          case rel => exact ⟨k + 1, by omega, by omega, by go_num, HBW.out, by rw [Nat.add_sub_cancel, HBN.out HT.out]; rw [HY.out] at HR7; exact HR7.out, HRB7.out⟩
          case measure => simp [intOf]; omega
    · have e : k = len := by omega
      subst e
      have q0 : wr.cell? ⟨w.heap.size, 0, none⟩ = some (.int .i64 0) := World.rowIs.cell HRB.out (i := 0) (by omega)
      have q1 : wr.cell? ⟨w.heap.size, 1, none⟩ = some (.int .i64 0) := World.rowIs.cell HRB.out (i := 1) (by omega)
      have q2 : wr.cell? ⟨w.heap.size, 2, none⟩ = some (.int .i64 0) := World.rowIs.cell HRB.out (i := 2) (by omega)
      have q3 : wr.cell? ⟨w.heap.size, 3, none⟩ = some (.bool false) := World.rowIs.cell HRB.out (i := 3) (by omega)
      have z0 := HRB.out.frozen 0
      have z1 := HRB.out.frozen 1
      have z2 := HRB.out.frozen 2
      have z3 := HRB.out.frozen 3
      clear hbel hro rb c0 c1 c2 c3
      go_wp2
      refine bodyPost_ret (v := .agg #[.int .i64 (bestTo g (k - 1)).via, .int .i64 (bestTo g (k - 1)).pref, .int .i64 (bestTo g (k - 1)).len, .bool (bestTo g (k - 1)).mark]) (by first | (rw [results_cell rfl]; go_simp; done) | (simp [results, Tryz.results63]; go_simp; done) | (simp [results, Tryz.results63, go_sem, q0, q1, q2, q3]; done)) rfl ?_
      exact ⟨rfl, (((HB.out.setCell (Nat.le_refl _) _).setCell (Nat.le_refl _) _).setCell (Nat.le_refl _) _).setCell (Nat.le_refl _) _⟩
end Go.Proofs.YtjppbmpgnlojpaaGreat.bestFace
