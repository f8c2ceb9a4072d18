/- EqualEx of the specification: for all rows of expressions that lie in memory; conditions: none. -/
import Derived.Test.YtkccckknjhdnhaaRowsSpec
import Derived.Test.YtkccckknjhdnhaaFaceImpl
namespace Go.Proofs.Ytkccckknjhdnhaa.equalSpec
open Go.RowKit Go.Deep Go base trees built heldStore drawn ownTree ownEx ownExE treeSpec rowsImpl copySpec rowsSpec equalImpl lessImpl faceImpl
set_option linter.unusedVariables false

theorem nz_q {q : Nat → Prop} {B : Nat} {w : World} {M D : Nat} {t : T} {a : Option Addr} {l : Nat} (h : Rd (Nz q B w) M w D t a l) {q' : Nat → Prop} (h1 : ∀ b, q b → q' b) (h2 : ∀ b, B ≤ b → q' b) : Rd q' M w D t a l :=
  h.imp fun b hb => by
    rcases hb with hb | hb
    · exact h1 b hb.1
    · exact h2 b hb.1
theorem rowsC_zero {d : Nat} {A B : T} {la lb : Nat} (h : rowsC d A B la lb = 0) : la = lb ∧ la ≤ 6 ∧ allOk d A la = true ∧ allOk d B la = true := by
  unfold rowsC at h
  split at h
  · omega
  · split at h
    · omega
    · split at h
      · omega
      · rename_i h1 h2 h3
        obtain rfl : la = lb := by omega
        refine ⟨rfl, by omega, ?_, ?_⟩
        · cases h' : allOk d A la with
          | true => rfl
          | false => exact absurd (.inl h') h3
        · cases h' : allOk d B la with
          | true => rfl
          | false => exact absurd (.inr h') h3

set_option maxHeartbeats 3200000 in
set_option maxRecDepth 8000 in
theorem equal_spec (d : Nat) (A B : T) (aA aB : Option Addr) (la lb cA cB : Nat) (w : World) (hA : Rd (fun _ => True) 1048576 w (d + 1) A aA la) (hB : Rd (fun _ => True) 1048576 w (d + 1) B aB lb) :
    Calls Try.prog 7 #[.slice aA la cA, .slice aB lb cB] w fun e w' => ∃ a l c, e = .returned (.tuple #[.agg #[.int .i64 (kd (equalAns d A B la lb)), .int .i64 (nn (equalAns d A B la lb)), .slice a l c], .int .i64 (equalC d A B la lb)]) ∧ Below w.heap.size w w' ∧
      Rd (fun _ => True) 1048576 w' (d + 3 * la) (equalAns d A B la lb) a l := by
  have hmost := hA.most
  have HA := hid hA.old
  have HB := hid hB.old
  have HA0 := hid hA
  have HB0 := hid hB
  clear hA hB
  by_cases hc : rowsC d A B la lb ≠ 0
  · have e1 : equalC d A B la lb = rowsC d A B la lb := if_pos hc
    have e2 : equalAns d A B la lb = zT := if_pos hc
    rw [e1, e2]
    obtain ⟨rc, hrc⟩ : ∃ rc, rowsC d A B la lb = rc := ⟨_, rfl⟩
    rw [hrc] at hc ⊢
    have HRC := hid hrc
    have dc : (rc != 0) = true := by simp [hc]
    clear hrc
    go_enter Try.func7, Try.ntmps7
    go_wp2_with fail
    refine (pair_spec d A B aA aB la lb cA cB _ (HA0.out.below (by repeat (first | exact Below.refl _ _ | assumption | refine Below.drew ?_ | refine Below.alloc ?_ (by first | exact Nat.le_refl _ | omega | (simp; done) | (simp; omega)) _ | refine Below.setCell ?_ (by first | exact Nat.le_refl _ | omega | (simp; done) | (simp; omega)) _))) (HB0.out.below (by repeat (first | exact Below.refl _ _ | assumption | refine Below.drew ?_ | refine Below.alloc ?_ (by first | exact Nat.le_refl _ | omega | (simp; done) | (simp; omega)) _ | refine Below.setCell ?_ (by first | exact Nat.le_refl _ | omega | (simp; done) | (simp; omega)) _)))).mono ?_
    rintro e w1 ⟨rfl, hb1⟩
    have z0 : w1.cell? ⟨w.heap.size, 0, none⟩ = some (.int .i64 0) := keep hb1 (by simp [go_sem])
    have z1 : w1.cell? ⟨w.heap.size, 1, none⟩ = some (.int .i64 0) := keep hb1 (by simp [go_sem])
    have z2 : w1.cell? ⟨w.heap.size, 2, none⟩ = some (.slice none 0 0) := keep hb1 (by simp [go_sem])
    have y0 : w1.frozen? ⟨w.heap.size, 0, none⟩ = false := (hb1.frozen (p := ⟨w.heap.size, 0, none⟩) (by simp)).trans (by simp [go_sem])
    have y1 : w1.frozen? ⟨w.heap.size, 1, none⟩ = false := (hb1.frozen (p := ⟨w.heap.size, 1, none⟩) (by simp)).trans (by simp [go_sem])
    have y2 : w1.frozen? ⟨w.heap.size, 2, none⟩ = false := (hb1.frozen (p := ⟨w.heap.size, 2, none⟩) (by simp)).trans (by simp [go_sem])
    have HB1 := hid ((show Below w.heap.size w _ from (by repeat (first | exact Below.refl _ _ | assumption | refine Below.drew ?_ | refine Below.alloc ?_ (by first | exact Nat.le_refl _ | omega | (simp; done) | (simp; omega)) _ | refine Below.setCell ?_ (by first | exact Nat.le_refl _ | omega | (simp; done) | (simp; omega)) _))).trans (hb1.mono (by simp)))
    clear hb1 hc e1 e2
    rw [HRC.out]
    have HB3 := hid (below_set3 HB1.out (R := w.heap.size) (Nat.le_refl _) (.int .i64 0) (.int .i64 0) (.slice none 0 0))
    go_wp2
    refine bodyPost_ret (v := .tuple #[.agg #[.int .i64 0, .int .i64 0, .slice none 0 0], .int .i64 rc]) (by simp [results, Try.results7, go_sem, z0, z1, z2]) rfl ⟨none, 0, 0, rfl, HB3.out, (Ow.none _ _ rfl _ (fun _ => True)).rd⟩
  · have hc' : rowsC d A B la lb = 0 := by simpa using hc
    obtain ⟨rfl, hl6, okA, okB'⟩ := rowsC_zero hc'
    have HKA := hid (allOk_kind HA0.out okA)
    have HRtA := hid (allOk_right okA)
    have HRtB := hid (allOk_right okB')
    have e1 : equalC d A B la la = ansC (okB (d + 3 * la) (eqT A B (cT 1) la) 1 0) := if_neg hc
    have e2 : equalAns d A B la la = ansT (okB (d + 3 * la) (eqT A B (cT 1) la) 1 0) (eqT A B (cT 1) la) := if_neg hc
    rw [e1, e2]
    clear hc e1 e2 okA okB'
    obtain ⟨t3, hT3⟩ : ∃ t3, ansT (okB (d + 3 * la) (eqT A B (cT 1) la) 1 0) (eqT A B (cT 1) la) = t3 := ⟨_, rfl⟩
    obtain ⟨k3, hK3⟩ : ∃ k3, ansC (okB (d + 3 * la) (eqT A B (cT 1) la) 1 0) = k3 := ⟨_, rfl⟩
    rw [hT3, hK3]
    have HT3 := hid hT3
    have HK3 := hid hK3
    clear hT3 hK3
    generalize la = l at *
    go_enter Try.func7, Try.ntmps7
    go_wp2_with fail
    refine (pair_spec d A B aA aB l l cA cB _ (HA0.out.below (by repeat (first | exact Below.refl _ _ | assumption | refine Below.drew ?_ | refine Below.alloc ?_ (by first | exact Nat.le_refl _ | omega | (simp; done) | (simp; omega)) _ | refine Below.setCell ?_ (by first | exact Nat.le_refl _ | omega | (simp; done) | (simp; omega)) _))) (HB0.out.below (by repeat (first | exact Below.refl _ _ | assumption | refine Below.drew ?_ | refine Below.alloc ?_ (by first | exact Nat.le_refl _ | omega | (simp; done) | (simp; omega)) _ | refine Below.setCell ?_ (by first | exact Nat.le_refl _ | omega | (simp; done) | (simp; omega)) _)))).mono ?_
    rintro e w1 ⟨rfl, hb1⟩
    have z0 : w1.cell? ⟨w.heap.size, 0, none⟩ = some (.int .i64 0) := keep hb1 (by simp [go_sem])
    have z1 : w1.cell? ⟨w.heap.size, 1, none⟩ = some (.int .i64 0) := keep hb1 (by simp [go_sem])
    have z2 : w1.cell? ⟨w.heap.size, 2, none⟩ = some (.slice none 0 0) := keep hb1 (by simp [go_sem])
    have y0 : ∀ x, w1.frozen? ⟨w.heap.size, x, none⟩ = false := fun x => (hb1.frozen (p := ⟨w.heap.size, x, none⟩) (by simp)).trans (by simp [go_sem])
    have HB1 := hid ((show Below w.heap.size w _ from (by repeat (first | exact Below.refl _ _ | assumption | refine Below.drew ?_ | refine Below.alloc ?_ (by first | exact Nat.le_refl _ | omega | (simp; done) | (simp; omega)) _ | refine Below.setCell ?_ (by first | exact Nat.le_refl _ | omega | (simp; done) | (simp; omega)) _))).trans (hb1.mono (by simp)))
    have hs1 : w.heap.size < w1.heap.size := World.block_lt_of_cell? _ _ z0
    clear hb1
    rw [hc']
    clear hc'
    go_wp2_with fail
    refine (const_spec 1 _).mono ?_
    rintro e w2 ⟨rfl, hb2⟩
    have Z0 := hid (keep hb2 z0)
    have Z1 := hid (keep hb2 z1)
    have Z2 := hid (keep hb2 z2)
    have Y0 : Hid (∀ x, w2.frozen? ⟨w.heap.size, x, none⟩ = false) := fun x => (hb2.frozen (p := ⟨w.heap.size, x, none⟩) hs1).trans (y0 x)
    have HB2 := hid (HB1.out.trans (hb2.mono HB1.out.size))
    have hs2 : w.heap.size < w2.heap.size := World.block_lt_of_cell? _ _ Z0.out
    obtain ⟨O, hO⟩ : ∃ O, w2.heap.size = O := ⟨_, rfl⟩
    have HO := hid hO
    clear hb2 z0 z1 z2 y0 hO
    go_wp2
    rw [HO.out]
    go_loopw [8] (fun i wr => ∃ (k : Nat) (a : Option Addr) (lk ck : Nat), k ≤ l ∧ i = .int .i64 k ∧ Below w.heap.size w wr ∧ Rd (fun b => b ≠ w.heap.size ∧ b ≠ O) 1048576 wr (d + 3 * k) (eqT A B (cT 1) k) a lk ∧
    (wr.cell? ⟨O, 0, none⟩ = some (.int .i64 (kd (eqT A B (cT 1) k))) ∧ wr.cell? ⟨O, 1, none⟩ = some (.int .i64 (nn (eqT A B (cT 1) k))) ∧ wr.cell? ⟨O, 2, none⟩ = some (.slice a lk ck)) ∧
    (wr.cell? ⟨w.heap.size, 0, none⟩ = some (.int .i64 0) ∧ wr.cell? ⟨w.heap.size, 1, none⟩ = some (.int .i64 0) ∧ wr.cell? ⟨w.heap.size, 2, none⟩ = some (.slice none 0 0)) ∧
    (∀ x, wr.frozen? ⟨O, x, none⟩ = false ∧ wr.frozen? ⟨w.heap.size, x, none⟩ = false)) (fun i _ => l - (intOf i).toNat)
    case atStart =>
      have HA2 : Below w2.heap.size w2 (w2.alloc (.cells #[.int .i64 2, .int .i64 1, .slice none 0 0] 26)) := (by repeat (first | exact Below.refl _ _ | assumption | refine Below.drew ?_ | refine Below.alloc ?_ (by first | exact Nat.le_refl _ | omega | (simp; done) | (simp; omega)) _ | refine Below.setCell ?_ (by first | exact Nat.le_refl _ | omega | (simp; done) | (simp; omega)) _))
      have hO := HO.out
      subst hO
      exact ⟨0, none, 0, 0, Nat.zero_le _, rfl, HB2.out.trans (HA2.mono HB2.out.size), rd_const _ _ _ _, ⟨cell_new _ _ _ rfl, cell_new _ _ _ rfl, cell_new _ _ _ rfl⟩, ⟨keep HA2 Z0.out, keep HA2 Z1.out, keep HA2 Z2.out⟩, fun x => ⟨by simp [go_sem], (HA2.frozen (p := ⟨w.heap.size, x, none⟩) hs2).trans (Y0.out x)⟩⟩
    case round =>
      obtain ⟨k, ak, lk, ck, hk, rfl, hb, hrk, ⟨c0, c1, c2⟩, ⟨z0, z1, z2⟩, hfr⟩ := hrel
      have HBe := hid hb
      have HRk := hid hrk
      have HFr := hid hfr
      have hsz : w.heap.size < wr.heap.size := World.block_lt_of_cell? _ _ z0
      have hsO : O < wr.heap.size := World.block_lt_of_cell? _ _ c0
      clear hb hrk hfr
      by_cases hlt : k < l
      · obtain ⟨hd0, bA, offA, rfl, hbA, x0, x1, ax, lx, cx, x2, hx⟩ := HA.out.cell hlt
        obtain ⟨-, bB, offB, rfl, hbB, y0, y1, ay, ly, cy, y2, hy⟩ := HB.out.cell hlt
        have HX := hid ((hx.imp (q' := fun _ => True) fun b hb => trivial).below HBe.out)
        have HY := hid ((hy.imp (q' := fun _ => True) fun b hb => trivial).below HBe.out)
        have HK : Hid (∀ w8 : World, Below wr.heap.size wr w8 → (w8.cell? ⟨O, 0, none⟩ = some (.int .i64 (kd (eqT A B (cT 1) k))) ∧ w8.cell? ⟨O, 1, none⟩ = some (.int .i64 (nn (eqT A B (cT 1) k))) ∧ w8.cell? ⟨O, 2, none⟩ = some (.slice ak lk ck)) ∧
            (w8.cell? ⟨bA, offA + k * 3, none⟩ = some (.int .i64 (kd (kid A k))) ∧ w8.cell? ⟨bA, offA + k * 3 + 1, none⟩ = some (.int .i64 (nn (kid A k))) ∧ w8.cell? ⟨bA, offA + k * 3 + 2, none⟩ = some (.slice ax lx cx)) ∧
            (w8.cell? ⟨bB, offB + k * 3, none⟩ = some (.int .i64 (kd (kid B k))) ∧ w8.cell? ⟨bB, offB + k * 3 + 1, none⟩ = some (.int .i64 (nn (kid B k))) ∧ w8.cell? ⟨bB, offB + k * 3 + 2, none⟩ = some (.slice ay ly cy)) ∧
            (w8.cell? ⟨w.heap.size, 0, none⟩ = some (.int .i64 0) ∧ w8.cell? ⟨w.heap.size, 1, none⟩ = some (.int .i64 0) ∧ w8.cell? ⟨w.heap.size, 2, none⟩ = some (.slice none 0 0)) ∧
            ∀ x, w8.frozen? ⟨O, x, none⟩ = false ∧ w8.frozen? ⟨w.heap.size, x, none⟩ = false) :=
          fun w8 h => ⟨⟨keep h c0, keep h c1, keep h c2⟩, ⟨keep h (keep HBe.out x0), keep h (keep HBe.out x1), keep h (keep HBe.out x2)⟩, ⟨keep h (keep HBe.out y0), keep h (keep HBe.out y1), keep h (keep HBe.out y2)⟩, ⟨keep h z0, keep h z1, keep h z2⟩,
            fun x => ⟨(h.frozen (p := ⟨O, x, none⟩) hsO).trans (HFr.out x).1, (h.frozen (p := ⟨w.heap.size, x, none⟩) hsz).trans (HFr.out x).2⟩⟩

        clear x0 x1 x2 y0 y1 y2 c0 c1 c2 z0 z1 z2 hx hy
        go_wp2
        refine region_below (fun u => ⟨#[.slice (some ⟨bA, offA, none⟩) l cA, .slice (some ⟨bB, offB, none⟩) l cB, undef, undef, .pointer (some ⟨w.heap.size, 0, none⟩), .int .i64 0, .int .i64 0, .pointer (some ⟨O, 0, none⟩), .int .i64 (k : Int), .slice (some ⟨bA, offA, none⟩) l cA, .slice (some ⟨bB, offB, none⟩) l cB, .int .i64 0, .int .i64 0, .bool false, undef, undef, .agg #[.int .i64 2, .int .i64 1, .slice none 0 0], .int .i64 (k : Int), .slice (some ⟨bA, offA, none⟩) l cA, .int .i64 (l : Int), .bool true, u21, u22, u 23, u 24, u 25, u 26, u 27, u 28, u 29, u 30, u 31, u 32, u 33, u 34, u 35, u 36, u 37, u 38, u 39, undef, undef, undef, undef, undef], []⟩) (fun i => [23, 24, 25, 26, 27, 28, 29, 30, 31, 32, 33, 34, 35, 36, 37, 38, 39].getD i 0) (fun i v w8 => match i with | 0 => TV (fun b => b ≠ w.heap.size ∧ b ≠ O) wr.heap.size w8 (d + 3 * k) (eqT A B (cT 1) k) v | 1 => v = .slice (some ⟨bA, offA, none⟩) l cA | 2 => v = .int .i64 (k : Int) | 3 => v = .pointer (some ⟨bA, offA + k * 3, none⟩) | 4 => XV (fun _ => True) w8 (d) (kid A k) v | 5 => TV (fun b => b ≠ w.heap.size ∧ b ≠ O) wr.heap.size w8 (d) (kid A k) v | 6 => v = .slice (some ⟨bB, offB, none⟩) l cB | 7 => v = .int .i64 (k : Int) | 8 => v = .pointer (some ⟨bB, offB + k * 3, none⟩) | 9 => XV (fun _ => True) w8 (d) (kid B k) v | 10 => TV (fun b => b ≠ w.heap.size ∧ b ≠ O) wr.heap.size w8 (d) (kid B k) v | 11 => RV (fun b => b ≠ w.heap.size ∧ b ≠ O) wr.heap.size w8 (d + 1) (ndT 6 2 (two (kid A k) (kid B k))) 2 v | 12 => TV (fun b => b ≠ w.heap.size ∧ b ≠ O) wr.heap.size w8 (d + 1) (ndT 6 2 (two (kid A k) (kid B k))) v | 13 => RV (fun b => b ≠ w.heap.size ∧ b ≠ O) wr.heap.size w8 (d + 1 + 1) (ndT 3 1 (one (ndT 6 2 (two (kid A k) (kid B k))))) 1 v | 14 => TV (fun b => b ≠ w.heap.size ∧ b ≠ O) wr.heap.size w8 (d + 1 + 1) (ndT 3 1 (one (ndT 6 2 (two (kid A k) (kid B k))))) v | 15 => RV (fun b => b ≠ w.heap.size ∧ b ≠ O) wr.heap.size w8 (d + 3 * k + 1 + 1 + 1) (ndT 4 2 (two (eqT A B (cT 1) k) (ndT 3 1 (one (ndT 6 2 (two (kid A k) (kid B k))))))) 2 v | 16 => TV (fun b => b ≠ w.heap.size ∧ b ≠ O) wr.heap.size w8 (d + 3 * k + 1 + 1 + 1) (ndT 4 2 (two (eqT A B (cT 1) k) (ndT 3 1 (one (ndT 6 2 (two (kid A k) (kid B k))))))) v | _ => True) wr 17 (fun k => match k with | 23 => u23 | 24 => u24 | 25 => u25 | 26 => u26 | 27 => u27 | 28 => u28 | 29 => u29 | 30 => u30 | 31 => u31 | 32 => u32 | 33 => u33 | 34 => u34 | 35 => u35 | 36 => u36 | 37 => u37 | 38 => u38 | 39 => u39 | _ => undef) (by rfl) (by kernel_rfl) (by rfl) ⟨by kernel_rfl, by kernel_rfl, by kernel_rfl, by decide⟩ (by kernel_rfl) (Below.refl _ _) ?hput ?hinj ?stable ?step ?last
        case hput =>
          intro i hi u v
          match i, hi with
          | 0, _ => rfl
          | 1, _ => rfl
          | 2, _ => rfl
          | 3, _ => rfl
          | 4, _ => rfl
          | 5, _ => rfl
          | 6, _ => rfl
          | 7, _ => rfl
          | 8, _ => rfl
          | 9, _ => rfl
          | 10, _ => rfl
          | 11, _ => rfl
          | 12, _ => rfl
          | 13, _ => rfl
          | 14, _ => rfl
          | 15, _ => rfl
          | 16, _ => rfl
          | i + 17, hi => exact absurd hi (by omega)
        case hinj =>
          intro i j hi hj h
          exact slots_inj [23, 24, 25, 26, 27, 28, 29, 30, 31, 32, 33, 34, 35, 36, 37, 38, 39] (by decide) hi hj h
        case stable =>
          intro i v w8 w9 hb h
          match i, h with
          | 0, h => exact h.below hb
          | 1, h => exact h
          | 2, h => exact h
          | 3, h => exact h
          | 4, h => exact h.below hb
          | 5, h => exact h.below hb
          | 6, h => exact h
          | 7, h => exact h
          | 8, h => exact h
          | 9, h => exact h.below hb
          | 10, h => exact h.below hb
          | 11, h => exact h.below hb
          | 12, h => exact h.below hb
          | 13, h => exact h.below hb
          | 14, h => exact h.below hb
          | 15, h => exact h.below hb
          | 16, h => exact h.below hb
          | _ + 17, h => trivial
        case step =>
          intro i hi u w8 S8 hdep
          match i, hi with
          | 0, _ =>
            clear hdep
            refine ⟨_, rfl, fun K' hK => ?_⟩
            obtain ⟨⟨c0, c1, c2⟩, ⟨x0, x1, x2⟩, ⟨y0, y1, y2⟩, -, -⟩ := HK.out w8 S8
            go_simp
            exact hK.out _ _ (Below.refl _ _) ⟨ak, lk, ck, rfl, nz_below (nz_base (rd_old HRk.out) (Below.refl _ _)) S8⟩
          | 1, _ =>
            clear hdep
            refine ⟨_, rfl, fun K' hK => ?_⟩
            go_simp
            exact hK.out _ _ (Below.refl _ _) rfl
          | 2, _ =>
            clear hdep
            refine ⟨_, rfl, fun K' hK => ?_⟩
            go_simp
            exact hK.out _ _ (Below.refl _ _) rfl
          | 3, _ =>
            have h1 : (u 24) = .slice (some ⟨bA, offA, none⟩) l cA := hdep 1 (by kernel_rfl)
            have h2 : (u 25) = .int .i64 (k : Int) := hdep 2 (by kernel_rfl)
            clear hdep
            refine ⟨_, rfl, fun K' hK => ?_⟩
            simp only [h1, h2] at hK ⊢
            go_simp
            exact hK.out _ _ (Below.refl _ _) rfl
          | 4, _ =>
            have h3 : (u 26) = .pointer (some ⟨bA, offA + k * 3, none⟩) := hdep 3 (by kernel_rfl)
            clear hdep
            refine ⟨_, rfl, fun K' hK => ?_⟩
            obtain ⟨⟨c0, c1, c2⟩, ⟨x0, x1, x2⟩, ⟨y0, y1, y2⟩, -, -⟩ := HK.out w8 S8
            simp only [h3] at hK ⊢
            go_simp
            exact hK.out _ _ (Below.refl _ _) ⟨ax, lx, cx, HX.out.below S8, rfl⟩
          | 5, _ =>
            have h4 : XV (fun _ => True) w8 (d) (kid A k) (u 27) := hdep 4 (by kernel_rfl)
            clear hdep
            refine ⟨_, rfl, fun K' hK => ?_⟩
            obtain ⟨a4, l4, c4, r4, e4⟩ := h4
            simp only [e4] at hK ⊢
            go_simp
            refine (copE d (kid A k) a4 l4 c4 _ r4).mono ?_
            rintro e w9 ⟨a', c', rfl, hb9, ho9⟩
            exact hK.out _ _ hb9 ⟨a', l4, c', rfl, (ow_nz ho9 (HRtA.out k hlt)).imp fun b hb => .inr ⟨Nat.le_trans S8.size hb.1.1, hb.2⟩⟩
          | 6, _ =>
            clear hdep
            refine ⟨_, rfl, fun K' hK => ?_⟩
            go_simp
            exact hK.out _ _ (Below.refl _ _) rfl
          | 7, _ =>
            clear hdep
            refine ⟨_, rfl, fun K' hK => ?_⟩
            go_simp
            exact hK.out _ _ (Below.refl _ _) rfl
          | 8, _ =>
            have h6 : (u 29) = .slice (some ⟨bB, offB, none⟩) l cB := hdep 6 (by kernel_rfl)
            have h7 : (u 30) = .int .i64 (k : Int) := hdep 7 (by kernel_rfl)
            clear hdep
            refine ⟨_, rfl, fun K' hK => ?_⟩
            simp only [h6, h7] at hK ⊢
            go_simp
            exact hK.out _ _ (Below.refl _ _) rfl
          | 9, _ =>
            have h8 : (u 31) = .pointer (some ⟨bB, offB + k * 3, none⟩) := hdep 8 (by kernel_rfl)
            clear hdep
            refine ⟨_, rfl, fun K' hK => ?_⟩
            obtain ⟨⟨c0, c1, c2⟩, ⟨x0, x1, x2⟩, ⟨y0, y1, y2⟩, -, -⟩ := HK.out w8 S8
            simp only [h8] at hK ⊢
            go_simp
            exact hK.out _ _ (Below.refl _ _) ⟨ay, ly, cy, HY.out.below S8, rfl⟩
          | 10, _ =>
            have h9 : XV (fun _ => True) w8 (d) (kid B k) (u 32) := hdep 9 (by kernel_rfl)
            clear hdep
            refine ⟨_, rfl, fun K' hK => ?_⟩
            obtain ⟨a9, l9, c9, r9, e9⟩ := h9
            simp only [e9] at hK ⊢
            go_simp
            refine (copE d (kid B k) a9 l9 c9 _ r9).mono ?_
            rintro e w9 ⟨a', c', rfl, hb9, ho9⟩
            exact hK.out _ _ hb9 ⟨a', l9, c', rfl, (ow_nz ho9 (HRtB.out k hlt)).imp fun b hb => .inr ⟨Nat.le_trans S8.size hb.1.1, hb.2⟩⟩
          | 11, _ =>
            have h5 : TV (fun b => b ≠ w.heap.size ∧ b ≠ O) wr.heap.size w8 (d) (kid A k) (u 28) := hdep 5 (by kernel_rfl)
            have h10 : TV (fun b => b ≠ w.heap.size ∧ b ≠ O) wr.heap.size w8 (d) (kid B k) (u 33) := hdep 10 (by kernel_rfl)
            clear hdep
            refine ⟨_, rfl, fun K' hK => ?_⟩
            obtain ⟨a5, l5, c5, e5, r5⟩ := h5
            obtain ⟨a10, l10, c10, e10, r10⟩ := h10
            simp only [e5, e10] at hK ⊢
            go_simp
            exact hK.out _ _ (by repeat (first | exact Below.refl _ _ | assumption | refine Below.drew ?_ | refine Below.alloc ?_ (by first | exact Nat.le_refl _ | omega | (simp; done) | (simp; omega)) _ | refine Below.setCell ?_ (by first | exact Nat.le_refl _ | omega | (simp; done) | (simp; omega)) _)) ⟨w8.heap.size, rfl, row2 6 S8.size (HKA.out k hlt) (r5.more (by omega)) (r10.more (by omega))⟩
          | 12, _ =>
            have h11 : RV (fun b => b ≠ w.heap.size ∧ b ≠ O) wr.heap.size w8 (d + 1) (ndT 6 2 (two (kid A k) (kid B k))) 2 (u 34) := hdep 11 (by kernel_rfl)
            clear hdep
            refine ⟨_, rfl, fun K' hK => ?_⟩
            obtain ⟨N11, e11, r11⟩ := h11
            simp only [e11] at hK ⊢
            go_simp
            refine (new_spec 6 _ _ _ _).mono ?_
            rintro e w9 ⟨rfl, hb9⟩
            exact hK.out _ _ hb9 ⟨_, _, _, rfl, nz_below r11 hb9⟩
          | 13, _ =>
            have h12 : TV (fun b => b ≠ w.heap.size ∧ b ≠ O) wr.heap.size w8 (d + 1) (ndT 6 2 (two (kid A k) (kid B k))) (u 35) := hdep 12 (by kernel_rfl)
            clear hdep
            refine ⟨_, rfl, fun K' hK => ?_⟩
            obtain ⟨a12, l12, c12, e12, r12⟩ := h12
            simp only [e12] at hK ⊢
            go_simp
            exact hK.out _ _ (by repeat (first | exact Below.refl _ _ | assumption | refine Below.drew ?_ | refine Below.alloc ?_ (by first | exact Nat.le_refl _ | omega | (simp; done) | (simp; omega)) _ | refine Below.setCell ?_ (by first | exact Nat.le_refl _ | omega | (simp; done) | (simp; omega)) _)) ⟨w8.heap.size, rfl, row1 3 S8.size (nd_kind (by decide)) (r12.more (by omega))⟩
          | 14, _ =>
            have h13 : RV (fun b => b ≠ w.heap.size ∧ b ≠ O) wr.heap.size w8 (d + 1 + 1) (ndT 3 1 (one (ndT 6 2 (two (kid A k) (kid B k))))) 1 (u 36) := hdep 13 (by kernel_rfl)
            clear hdep
            refine ⟨_, rfl, fun K' hK => ?_⟩
            obtain ⟨N13, e13, r13⟩ := h13
            simp only [e13] at hK ⊢
            go_simp
            refine (new_spec 3 _ _ _ _).mono ?_
            rintro e w9 ⟨rfl, hb9⟩
            exact hK.out _ _ hb9 ⟨_, _, _, rfl, nz_below r13 hb9⟩
          | 15, _ =>
            have h0 : TV (fun b => b ≠ w.heap.size ∧ b ≠ O) wr.heap.size w8 (d + 3 * k) (eqT A B (cT 1) k) (u 23) := hdep 0 (by kernel_rfl)
            have h14 : TV (fun b => b ≠ w.heap.size ∧ b ≠ O) wr.heap.size w8 (d + 1 + 1) (ndT 3 1 (one (ndT 6 2 (two (kid A k) (kid B k))))) (u 37) := hdep 14 (by kernel_rfl)
            clear hdep
            refine ⟨_, rfl, fun K' hK => ?_⟩
            obtain ⟨a0, l0, c0, e0, r0⟩ := h0
            obtain ⟨a14, l14, c14, e14, r14⟩ := h14
            simp only [e0, e14] at hK ⊢
            go_simp
            exact hK.out _ _ (by repeat (first | exact Below.refl _ _ | assumption | refine Below.drew ?_ | refine Below.alloc ?_ (by first | exact Nat.le_refl _ | omega | (simp; done) | (simp; omega)) _ | refine Below.setCell ?_ (by first | exact Nat.le_refl _ | omega | (simp; done) | (simp; omega)) _)) ⟨w8.heap.size, rfl, row2 4 S8.size (eqT_kind (by decide) k) (r0.more (by omega)) (r14.more (by omega))⟩
          | 16, _ =>
            have h15 : RV (fun b => b ≠ w.heap.size ∧ b ≠ O) wr.heap.size w8 (d + 3 * k + 1 + 1 + 1) (ndT 4 2 (two (eqT A B (cT 1) k) (ndT 3 1 (one (ndT 6 2 (two (kid A k) (kid B k))))))) 2 (u 38) := hdep 15 (by kernel_rfl)
            clear hdep
            refine ⟨_, rfl, fun K' hK => ?_⟩
            obtain ⟨N15, e15, r15⟩ := h15
            simp only [e15] at hK ⊢
            go_simp
            refine (new_spec 4 _ _ _ _).mono ?_
            rintro e w9 ⟨rfl, hb9⟩
            exact hK.out _ _ hb9 ⟨_, _, _, rfl, nz_below r15 hb9⟩
          | i + 17, hi => exact absurd hi (by omega)
        case last =>
          intro u w8 S8 hall
          have h16 : TV (fun b => b ≠ w.heap.size ∧ b ≠ O) wr.heap.size w8 (d + 3 * k + 1 + 1 + 1) (ndT 4 2 (two (eqT A B (cT 1) k) (ndT 3 1 (one (ndT 6 2 (two (kid A k) (kid B k))))))) (u 39) := hall 16 (by decide)
          clear hall
          refine ⟨_, rfl, fun K' hK => ?_⟩
          obtain ⟨⟨c0, c1, c2⟩, -, -, ⟨z0, z1, z2⟩, hfr⟩ := HK.out w8 S8
          obtain ⟨a8, l8, c8, e8, r8⟩ := h16
          have g0 := (hfr 0).1
          have g1 := (hfr 1).1
          have g2 := (hfr 2).1
          simp only [e8] at hK ⊢
          go_simp
          refine hK.out _ _ ?_
          clear hK K'
          (try simp only [Exit.then])
          have HR := hid (rd_set3 (nz_q r8 (q' := (fun b => b ≠ w.heap.size ∧ b ≠ O)) (fun b hb => hb) (fun b hb => by omega)) (R := O) (by simp) (.int .i64 (kd (ndT 4 2 (two (eqT A B (cT 1) k) (ndT 3 1 (one (ndT 6 2 (two (kid A k) (kid B k))))))))) (.int .i64 (nn (ndT 4 2 (two (eqT A B (cT 1) k) (ndT 3 1 (one (ndT 6 2 (two (kid A k) (kid B k))))))))) (.slice a8 l8 c8))
          have HB3 := hid (below_set3 (HBe.out.trans (S8.mono HBe.out.size)) (R := O) (by have := HO.out; omega) (.int .i64 (kd (ndT 4 2 (two (eqT A B (cT 1) k) (ndT 3 1 (one (ndT 6 2 (two (kid A k) (kid B k))))))))) (.int .i64 (nn (ndT 4 2 (two (eqT A B (cT 1) k) (ndT 3 1 (one (ndT 6 2 (two (kid A k) (kid B k))))))))) (.slice a8 l8 c8))
          go_wp2
          go_roundw
          case rel =>
            exact ⟨k + 1, a8, l8, c8, by omega, by go_num, HB3.out, HR.out, set3_cells c0 c1 c2 _ _ _, ⟨(set3_far _ (by have := HO.out; omega) _ _ _ _).trans z0, (set3_far _ (by have := HO.out; omega) _ _ _ _).trans z1, (set3_far _ (by have := HO.out; omega) _ _ _ _).trans z2⟩, fun x => ⟨(set3_froz _ _ _ _ _ _).trans (hfr x).1, (set3_froz _ _ _ _ _ _).trans (hfr x).2⟩⟩
          case measure => simp [intOf]; omega
      · have e : k = l := by omega
        subst e
        have HR2 := hid (HRk.out.imp (q' := fun _ => True) fun _ _ => trivial)
        go_wp2_with fail
        refine (exOK_spec (d + 3 * k) (eqT A B (cT 1) k) ak lk ck _ HR2.out).mono ?_
        rintro e w3 ⟨rfl, hb3⟩
        have c0' := keep hb3 c0
        have c1' := keep hb3 c1
        have c2' := keep hb3 c2
        have z0' := keep hb3 z0
        have z1' := keep hb3 z1
        have z2' := keep hb3 z2
        have y0 := (hb3.frozen (p := ⟨w.heap.size, 0, none⟩) hsz).trans (HFr.out 0).2
        have y1 := (hb3.frozen (p := ⟨w.heap.size, 1, none⟩) hsz).trans (HFr.out 1).2
        have y2 := (hb3.frozen (p := ⟨w.heap.size, 2, none⟩) hsz).trans (HFr.out 2).2
        have HR3 := hid (HRk.out.below hb3)
        have HB3 := hid (HBe.out.trans (hb3.mono HBe.out.size))
        clear hb3 c0 c1 c2 z0 z1 z2
        have HT3' := HT3
        have HK3' := HK3
        cases hok : okB (d + 3 * k) (eqT A B (cT 1) k) 1 0 with
        | false =>
          rw [hok] at HT3' HK3'
          have et : t3 = zT := HT3'.out.symm
          have ek : k3 = 11 := HK3'.out.symm
          have HEt := hid et
          have HEk := hid ek
          clear et ek
          have HB4 := hid (below_set3 HB3.out (R := w.heap.size) (Nat.le_refl _) (.int .i64 0) (.int .i64 0) (.slice none 0 0))
          go_wp2
          refine bodyPost_ret (v := .tuple #[.agg #[.int .i64 0, .int .i64 0, .slice none 0 0], .int .i64 11]) (by simp [results, Try.results7, go_sem, z0', z1', z2']) rfl ⟨none, 0, 0, by rw [HEt.out, HEk.out]; rfl, HB4.out, by rw [HEt.out]; exact (Ow.none _ _ rfl _ (fun _ => True)).rd⟩
        | true =>
          rw [hok] at HT3' HK3'
          have et : t3 = eqT A B (cT 1) k := HT3'.out.symm
          have ek : k3 = 0 := HK3'.out.symm
          have HEt := hid et
          have HEk := hid ek
          clear et ek
          have HR4 := hid (rd_set3 HR3.out (R := w.heap.size) (by simp) (.int .i64 (kd (eqT A B (cT 1) k))) (.int .i64 (nn (eqT A B (cT 1) k))) (.slice ak lk ck))
          have HB4 := hid (below_set3 HB3.out (R := w.heap.size) (Nat.le_refl _) (.int .i64 (kd (eqT A B (cT 1) k))) (.int .i64 (nn (eqT A B (cT 1) k))) (.slice ak lk ck))
          go_wp2
          refine bodyPost_ret (v := .tuple #[.agg #[.int .i64 (kd (eqT A B (cT 1) k)), .int .i64 (nn (eqT A B (cT 1) k)), .slice ak lk ck], .int .i64 0]) (by simp [results, Try.results7, go_sem, z0', z1', z2']) rfl ⟨ak, lk, ck, by rw [HEt.out, HEk.out], HB4.out, by rw [HEt.out]; exact HR4.out.imp fun _ _ => trivial⟩
end Go.Proofs.Ytkccckknjhdnhaa.equalSpec
