/- l05Less of the specification: for all rows of right expressions that lie in memory; conditions: none. -/
import Derived.Test.YtofdhoefphoaaaaEqualSpec
namespace Go.Proofs.Ytofdhoefphoaaaa.lessSpec
open Go.RowKit Go.Deep Go base trees built heldStore drawn ownTree ownEx ownExE treeSpec rowsImpl copySpec rowsSpec equalImpl lessImpl faceImpl equalSpec
set_option linter.unusedVariables false

set_option maxHeartbeats 6400000 in
set_option maxRecDepth 8000 in
theorem less_right (d : Nat) (A B : T) (aA aB : Option Addr) (l cA cB : Nat) (w : World) (hA : Rd (fun _ => True) 1048576 w (d + 1) A aA l) (hB : Rd (fun _ => True) 1048576 w (d + 1) B aB l) (kA : ∀ i, i < l → kd (kid A i) ≠ 0) (kB : ∀ i, i < l → kd (kid B i) ≠ 0) (rA : ∀ i, i < l → right d (kid A i) = true) (rB : ∀ i, i < l → right d (kid B i) = true) :
    Calls Try.prog 46 #[.slice aA l cA, .slice aB l cB] w fun e w' => ∃ a lr c, e = .returned (.agg #[.int .i64 (kd (lessT A B (cT 0) l)), .int .i64 (nn (lessT A B (cT 0) l)), .slice a lr c]) ∧ Rd (fun b => w.heap.size < b) 1048576 w' (d + 4 * l) (lessT A B (cT 0) l) a lr ∧ Below w.heap.size w w' := by
  have hmost := hA.most
  have HA := hid hA.old
  have HB := hid hB.old
  have HKA := hid kA
  have HKB := hid kB
  have HRtA := hid rA
  have HRtB := hid rB
  clear hA hB kA kB rA rB
  go_enter Try.func46, Try.ntmps46
  go_wp2_with fail
  refine (const_spec 0 _).mono ?_
  rintro e w2 ⟨rfl, hb2⟩
  have Z0 : Hid (w2.cell? ⟨w.heap.size, 0, none⟩ = some (.int .i64 0)) := keep hb2 (by simp [go_sem])
  have Z1 : Hid (w2.cell? ⟨w.heap.size, 1, none⟩ = some (.int .i64 0)) := keep hb2 (by simp [go_sem])
  have Z2 : Hid (w2.cell? ⟨w.heap.size, 2, none⟩ = some (.slice none 0 0)) := keep hb2 (by simp [go_sem])
  have Y0 : Hid (∀ x, w2.frozen? ⟨w.heap.size, x, none⟩ = false) := fun x => (hb2.frozen (p := ⟨w.heap.size, x, none⟩) (by simp)).trans (by simp [go_sem])
  have HB2 := hid ((show Below w.heap.size w _ from (by repeat (first | exact Below.refl _ _ | assumption | refine Below.drew ?_ | refine Below.alloc ?_ (by first | exact Nat.le_refl _ | omega | (simp; done) | (simp; omega)) _ | refine Below.setCell ?_ (by first | exact Nat.le_refl _ | omega | (simp; done) | (simp; omega)) _))).trans (hb2.mono (by simp)))
  have hs2 : w.heap.size < w2.heap.size := World.block_lt_of_cell? _ _ Z0.out
  obtain ⟨O, hO⟩ : ∃ O, w2.heap.size = O := ⟨_, rfl⟩
  have HO := hid hO
  clear hb2 hO
  go_wp2
  rw [HO.out]
  go_loopw [6] (fun i wr => ∃ (k : Nat) (a : Option Addr) (lk ck : Nat), k ≤ l ∧ i = .int .i64 k ∧ Below w.heap.size w wr ∧ Rd (fun b => w.heap.size < b ∧ b ≠ O) 1048576 wr (d + 4 * k) (lessT A B (cT 0) k) a lk ∧
    (wr.cell? ⟨O, 0, none⟩ = some (.int .i64 (kd (lessT A B (cT 0) k))) ∧ wr.cell? ⟨O, 1, none⟩ = some (.int .i64 (nn (lessT A B (cT 0) k))) ∧ wr.cell? ⟨O, 2, none⟩ = some (.slice a lk ck)) ∧
    (wr.cell? ⟨w.heap.size, 0, none⟩ = some (.int .i64 0) ∧ wr.cell? ⟨w.heap.size, 1, none⟩ = some (.int .i64 0) ∧ wr.cell? ⟨w.heap.size, 2, none⟩ = some (.slice none 0 0)) ∧
    (∀ x, wr.frozen? ⟨O, x, none⟩ = false ∧ wr.frozen? ⟨w.heap.size, x, none⟩ = false)) (fun i _ => l - (intOf i).toNat)
  case atStart =>
    have HA2 : Below w2.heap.size w2 (w2.alloc (.cells #[.int .i64 2, .int .i64 0, .slice none 0 0] 33)) := (by repeat (first | exact Below.refl _ _ | assumption | refine Below.drew ?_ | refine Below.alloc ?_ (by first | exact Nat.le_refl _ | omega | (simp; done) | (simp; omega)) _ | refine Below.setCell ?_ (by first | exact Nat.le_refl _ | omega | (simp; done) | (simp; omega)) _))
    have hO := HO.out
    subst hO
    exact ⟨0, none, 0, 0, Nat.zero_le _, rfl, HB2.out.trans (HA2.mono HB2.out.size), rd_const _ _ _ _, ⟨cell_new _ _ _ rfl, cell_new _ _ _ rfl, cell_new _ _ _ rfl⟩, ⟨keep HA2 Z0.out, keep HA2 Z1.out, keep HA2 Z2.out⟩, fun x => ⟨by simp [go_sem], (HA2.frozen (p := ⟨w.heap.size, x, none⟩) hs2).trans (Y0.out x)⟩⟩
  case round =>
    obtain ⟨k, ak, lk, ck, hk, rfl, hb, hrk, ⟨c0, c1, c2⟩, ⟨z0, z1, z2⟩, hfr⟩ := hrel
    have HBe := hid hb
    have HRk := hid hrk
    have HFr := hid hfr
    have hsz : w.heap.size < wr.heap.size := World.block_lt_of_cell? _ _ z0
    have hsO : O < wr.heap.size := World.block_lt_of_cell? _ _ c0
    clear hb hrk hfr
    by_cases hlt : k < l
    · obtain ⟨hd0, bA, offA, rfl, hbA, x0, x1, ax, lx, cx, x2, hx⟩ := HA.out.cell hlt
      obtain ⟨-, bB, offB, rfl, hbB, y0, y1, ay, ly, cy, y2, hy⟩ := HB.out.cell hlt
      have HX := hid ((hx.imp (q' := fun _ => True) fun b hb => trivial).below HBe.out)
      have HY := hid ((hy.imp (q' := fun _ => True) fun b hb => trivial).below HBe.out)
      have HK : Hid (∀ w8 : World, Below wr.heap.size wr w8 → (w8.cell? ⟨O, 0, none⟩ = some (.int .i64 (kd (lessT A B (cT 0) k))) ∧ w8.cell? ⟨O, 1, none⟩ = some (.int .i64 (nn (lessT A B (cT 0) k))) ∧ w8.cell? ⟨O, 2, none⟩ = some (.slice ak lk ck)) ∧
          (w8.cell? ⟨bA, offA + k * 3, none⟩ = some (.int .i64 (kd (kid A k))) ∧ w8.cell? ⟨bA, offA + k * 3 + 1, none⟩ = some (.int .i64 (nn (kid A k))) ∧ w8.cell? ⟨bA, offA + k * 3 + 2, none⟩ = some (.slice ax lx cx)) ∧
          (w8.cell? ⟨bB, offB + k * 3, none⟩ = some (.int .i64 (kd (kid B k))) ∧ w8.cell? ⟨bB, offB + k * 3 + 1, none⟩ = some (.int .i64 (nn (kid B k))) ∧ w8.cell? ⟨bB, offB + k * 3 + 2, none⟩ = some (.slice ay ly cy)) ∧
          (w8.cell? ⟨w.heap.size, 0, none⟩ = some (.int .i64 0) ∧ w8.cell? ⟨w.heap.size, 1, none⟩ = some (.int .i64 0) ∧ w8.cell? ⟨w.heap.size, 2, none⟩ = some (.slice none 0 0)) ∧
          ∀ x, w8.frozen? ⟨O, x, none⟩ = false ∧ w8.frozen? ⟨w.heap.size, x, none⟩ = false) :=
        fun w8 h => ⟨⟨keep h c0, keep h c1, keep h c2⟩, ⟨keep h (keep HBe.out x0), keep h (keep HBe.out x1), keep h (keep HBe.out x2)⟩, ⟨keep h (keep HBe.out y0), keep h (keep HBe.out y1), keep h (keep HBe.out y2)⟩, ⟨keep h z0, keep h z1, keep h z2⟩,
          fun x => ⟨(h.frozen (p := ⟨O, x, none⟩) hsO).trans (HFr.out x).1, (h.frozen (p := ⟨w.heap.size, x, none⟩) hsz).trans (HFr.out x).2⟩⟩
      clear x0 x1 x2 y0 y1 y2 c0 c1 c2 z0 z1 z2 hx hy
      go_wp2
      refine region_below (fun ua => ⟨#[.slice (some ⟨bA, offA, none⟩) l cA, .slice (some ⟨bB, offB, none⟩) l cB, undef, undef, .pointer (some ⟨w.heap.size, 0, none⟩), .pointer (some ⟨O, 0, none⟩), .int .i64 (k : Int), ua 7, .agg #[.int .i64 2, .int .i64 0, .slice none 0 0], .int .i64 (k : Int), .slice (some ⟨bA, offA, none⟩) l cA, .int .i64 (l : Int), .bool true, u13, u14, ua 15, ua 16, ua 17, ua 18, ua 19, ua 20, ua 21, ua 22, ua 23, ua 24, ua 25, ua 26, ua 27, ua 28, u29, u30, u31, u32, u33, u34, u35, u36, u37, u38, u39, u40, u41, u42, u43, u44, u45, u46, u47, u48, undef], []⟩) (fun i => [15, 16, 17, 18, 19, 20, 21, 22, 23, 24, 25, 26, 27, 28, 7].getD i 0) (fun i v wa => match i with | 0 => v = .slice (some ⟨bA, offA, none⟩) l cA | 1 => v = .int .i64 (k : Int) | 2 => v = .pointer (some ⟨bA, offA + k * 3, none⟩) | 3 => XV (fun _ => True) wa (d) (kid A k) v | 4 => TV (fun b => w.heap.size < b ∧ b ≠ O) wr.heap.size wa (d) (kid A k) v | 5 => v = .slice (some ⟨bB, offB, none⟩) l cB | 6 => v = .int .i64 (k : Int) | 7 => v = .pointer (some ⟨bB, offB + k * 3, none⟩) | 8 => XV (fun _ => True) wa (d) (kid B k) v | 9 => TV (fun b => w.heap.size < b ∧ b ≠ O) wr.heap.size wa (d) (kid B k) v | 10 => RV (fun b => w.heap.size < b ∧ b ≠ O) wr.heap.size wa (d + 1) (ndT 6 2 (two (kid A k) (kid B k))) 2 v | 11 => TV (fun b => w.heap.size < b ∧ b ≠ O) wr.heap.size wa (d + 1) (ndT 6 2 (two (kid A k) (kid B k))) v | 12 => RV (fun b => w.heap.size < b ∧ b ≠ O) wr.heap.size wa (d + 1 + 1) (ndT 3 1 (one (ndT 6 2 (two (kid A k) (kid B k))))) 1 v | 13 => TV (fun b => w.heap.size < b ∧ b ≠ O) wr.heap.size wa (d + 1 + 1) (ndT 3 1 (one (ndT 6 2 (two (kid A k) (kid B k))))) v | 14 => PV wr.heap.size wa v | _ => True) wr 15 (fun k => match k with | 15 => u15 | 16 => u16 | 17 => u17 | 18 => u18 | 19 => u19 | 20 => u20 | 21 => u21 | 22 => u22 | 23 => u23 | 24 => u24 | 25 => u25 | 26 => u26 | 27 => u27 | 28 => u28 | 7 => u7 | _ => undef) (by rfl) (by kernel_rfl) (by rfl) ⟨by kernel_rfl, by kernel_rfl, by kernel_rfl, by decide⟩ (by kernel_rfl) (Below.refl _ _) ?hput ?hinj ?stable ?step ?last
      case hput =>
        intro i hi ua v
        match i, hi with
        | 0, _ => rfl
        | 1, _ => rfl
        | 2, _ => rfl
        | 3, _ => rfl
        | 4, _ => rfl
        | 5, _ => rfl
        | 6, _ => rfl
        | 7, _ => rfl
        | 8, _ => rfl
        | 9, _ => rfl
        | 10, _ => rfl
        | 11, _ => rfl
        | 12, _ => rfl
        | 13, _ => rfl
        | 14, _ => rfl
        | i + 15, hi => exact absurd hi (by omega)
      case hinj =>
        intro i j hi hj h
        exact slots_inj [15, 16, 17, 18, 19, 20, 21, 22, 23, 24, 25, 26, 27, 28, 7] (by decide) hi hj h
      case stable =>
        intro i v wa w9 hb h
        match i, h with
        | 0, h => exact h
        | 1, h => exact h
        | 2, h => exact h
        | 3, h => exact h.below hb
        | 4, h => exact h.below hb
        | 5, h => exact h
        | 6, h => exact h
        | 7, h => exact h
        | 8, h => exact h.below hb
        | 9, h => exact h.below hb
        | 10, h => exact h.below hb
        | 11, h => exact h.below hb
        | 12, h => exact h.below hb
        | 13, h => exact h.below hb
        | 14, h => exact h.below hb
        | _ + 15, h => trivial
      case step =>
        intro i hi ua wa Sa hdep
        match i, hi with
        | 0, _ =>
          clear hdep
          refine ⟨_, rfl, fun K' hK => ?_⟩
          go_simp
          exact hK.out _ _ (Below.refl _ _) rfl
        | 1, _ =>
          clear hdep
          refine ⟨_, rfl, fun K' hK => ?_⟩
          go_simp
          exact hK.out _ _ (Below.refl _ _) rfl
        | 2, _ =>
          have h0 : (ua 15) = .slice (some ⟨bA, offA, none⟩) l cA := hdep 0 (by kernel_rfl)
          have h1 : (ua 16) = .int .i64 (k : Int) := hdep 1 (by kernel_rfl)
          clear hdep
          refine ⟨_, rfl, fun K' hK => ?_⟩
          simp only [h0, h1] at hK ⊢
          go_simp
          exact hK.out _ _ (Below.refl _ _) rfl
        | 3, _ =>
          have h2 : (ua 17) = .pointer (some ⟨bA, offA + k * 3, none⟩) := hdep 2 (by kernel_rfl)
          clear hdep
          refine ⟨_, rfl, fun K' hK => ?_⟩
          obtain ⟨⟨c0, c1, c2⟩, ⟨x0, x1, x2⟩, ⟨y0, y1, y2⟩, -, -⟩ := HK.out wa Sa
          simp only [h2] at hK ⊢
          go_simp
          exact hK.out _ _ (Below.refl _ _) ⟨ax, lx, cx, HX.out.below Sa, rfl⟩
        | 4, _ =>
          have h3 : XV (fun _ => True) wa (d) (kid A k) (ua 18) := hdep 3 (by kernel_rfl)
          clear hdep
          refine ⟨_, rfl, fun K' hK => ?_⟩
          obtain ⟨a3, l3, c3, r3, e3⟩ := h3
          simp only [e3] at hK ⊢
          go_simp
          refine (copE d (kid A k) a3 l3 c3 _ r3).mono ?_
          rintro e w9 ⟨a', c', rfl, hb9, ho9⟩
          exact hK.out _ _ hb9 ⟨a', l3, c', rfl, (ow_nz ho9 (HRtA.out k hlt)).imp fun b hb => .inr ⟨Nat.le_trans Sa.size hb.1.1, hb.2⟩⟩
        | 5, _ =>
          clear hdep
          refine ⟨_, rfl, fun K' hK => ?_⟩
          go_simp
          exact hK.out _ _ (Below.refl _ _) rfl
        | 6, _ =>
          clear hdep
          refine ⟨_, rfl, fun K' hK => ?_⟩
          go_simp
          exact hK.out _ _ (Below.refl _ _) rfl
        | 7, _ =>
          have h5 : (ua 20) = .slice (some ⟨bB, offB, none⟩) l cB := hdep 5 (by kernel_rfl)
          have h6 : (ua 21) = .int .i64 (k : Int) := hdep 6 (by kernel_rfl)
          clear hdep
          refine ⟨_, rfl, fun K' hK => ?_⟩
          simp only [h5, h6] at hK ⊢
          go_simp
          exact hK.out _ _ (Below.refl _ _) rfl
        | 8, _ =>
          have h7 : (ua 22) = .pointer (some ⟨bB, offB + k * 3, none⟩) := hdep 7 (by kernel_rfl)
          clear hdep
          refine ⟨_, rfl, fun K' hK => ?_⟩
          obtain ⟨⟨c0, c1, c2⟩, ⟨x0, x1, x2⟩, ⟨y0, y1, y2⟩, -, -⟩ := HK.out wa Sa
          simp only [h7] at hK ⊢
          go_simp
          exact hK.out _ _ (Below.refl _ _) ⟨ay, ly, cy, HY.out.below Sa, rfl⟩
        | 9, _ =>
          have h8 : XV (fun _ => True) wa (d) (kid B k) (ua 23) := hdep 8 (by kernel_rfl)
          clear hdep
          refine ⟨_, rfl, fun K' hK => ?_⟩
          obtain ⟨a8, l8, c8, r8, e8⟩ := h8
          simp only [e8] at hK ⊢
          go_simp
          refine (copE d (kid B k) a8 l8 c8 _ r8).mono ?_
          rintro e w9 ⟨a', c', rfl, hb9, ho9⟩
          exact hK.out _ _ hb9 ⟨a', l8, c', rfl, (ow_nz ho9 (HRtB.out k hlt)).imp fun b hb => .inr ⟨Nat.le_trans Sa.size hb.1.1, hb.2⟩⟩
        | 10, _ =>
          have h4 : TV (fun b => w.heap.size < b ∧ b ≠ O) wr.heap.size wa (d) (kid A k) (ua 19) := hdep 4 (by kernel_rfl)
          have h9 : TV (fun b => w.heap.size < b ∧ b ≠ O) wr.heap.size wa (d) (kid B k) (ua 24) := hdep 9 (by kernel_rfl)
          clear hdep
          refine ⟨_, rfl, fun K' hK => ?_⟩
          obtain ⟨a4, l4, c4, e4, r4⟩ := h4
          obtain ⟨a9, l9, c9, e9, r9⟩ := h9
          simp only [e4, e9] at hK ⊢
          go_simp
          exact hK.out _ _ (by repeat (first | exact Below.refl _ _ | assumption | refine Below.drew ?_ | refine Below.alloc ?_ (by first | exact Nat.le_refl _ | omega | (simp; done) | (simp; omega)) _ | refine Below.setCell ?_ (by first | exact Nat.le_refl _ | omega | (simp; done) | (simp; omega)) _)) ⟨wa.heap.size, rfl, row2 6 Sa.size (HKA.out k hlt) (r4.more (by omega)) (r9.more (by omega))⟩
        | 11, _ =>
          have h10 : RV (fun b => w.heap.size < b ∧ b ≠ O) wr.heap.size wa (d + 1) (ndT 6 2 (two (kid A k) (kid B k))) 2 (ua 25) := hdep 10 (by kernel_rfl)
          clear hdep
          refine ⟨_, rfl, fun K' hK => ?_⟩
          obtain ⟨N10, e10, r10⟩ := h10
          simp only [e10] at hK ⊢
          go_simp
          refine (new_spec 6 _ _ _ _).mono ?_
          rintro e w9 ⟨rfl, hb9⟩
          exact hK.out _ _ hb9 ⟨_, _, _, rfl, nz_below r10 hb9⟩
        | 12, _ =>
          have h11 : TV (fun b => w.heap.size < b ∧ b ≠ O) wr.heap.size wa (d + 1) (ndT 6 2 (two (kid A k) (kid B k))) (ua 26) := hdep 11 (by kernel_rfl)
          clear hdep
          refine ⟨_, rfl, fun K' hK => ?_⟩
          obtain ⟨a11, l11, c11, e11, r11⟩ := h11
          simp only [e11] at hK ⊢
          go_simp
          exact hK.out _ _ (by repeat (first | exact Below.refl _ _ | assumption | refine Below.drew ?_ | refine Below.alloc ?_ (by first | exact Nat.le_refl _ | omega | (simp; done) | (simp; omega)) _ | refine Below.setCell ?_ (by first | exact Nat.le_refl _ | omega | (simp; done) | (simp; omega)) _)) ⟨wa.heap.size, rfl, row1 3 Sa.size (nd_kind (by decide)) (r11.more (by omega))⟩
        | 13, _ =>
          have h12 : RV (fun b => w.heap.size < b ∧ b ≠ O) wr.heap.size wa (d + 1 + 1) (ndT 3 1 (one (ndT 6 2 (two (kid A k) (kid B k))))) 1 (ua 27) := hdep 12 (by kernel_rfl)
          clear hdep
          refine ⟨_, rfl, fun K' hK => ?_⟩
          obtain ⟨N12, e12, r12⟩ := h12
          simp only [e12] at hK ⊢
          go_simp
          refine (new_spec 3 _ _ _ _).mono ?_
          rintro e w9 ⟨rfl, hb9⟩
          exact hK.out _ _ hb9 ⟨_, _, _, rfl, nz_below r12 hb9⟩
        | 14, _ =>
          clear hdep
          refine ⟨_, rfl, fun K' hK => ?_⟩
          go_simp
          refine hK.out _ _ (by repeat (first | exact Below.refl _ _ | assumption | refine Below.drew ?_ | refine Below.alloc ?_ (by first | exact Nat.le_refl _ | omega | (simp; done) | (simp; omega)) _ | refine Below.setCell ?_ (by first | exact Nat.le_refl _ | omega | (simp; done) | (simp; omega)) _)) ⟨wa.heap.size, rfl, ?_, ⟨?_, ?_, ?_⟩, ?_, ?_, ?_⟩
          · exact Sa.size
          all_goals simp [go_sem]
        | i + 15, hi => exact absurd hi (by omega)
      case last =>
        intro ua wa Sa hall
        have h13 : TV (fun b => w.heap.size < b ∧ b ≠ O) wr.heap.size wa (d + 1 + 1) (ndT 3 1 (one (ndT 6 2 (two (kid A k) (kid B k))))) (ua 28) := hall 13 (by decide)
        have h14 : PV wr.heap.size wa (ua 7) := hall 14 (by decide)
        clear hall
        refine ⟨_, rfl, fun K' hK => ?_⟩
        obtain ⟨⟨c0, c1, c2⟩, ⟨x0, x1, x2⟩, ⟨y0, y1, y2⟩, ⟨z0, z1, z2⟩, hfr⟩ := HK.out wa Sa
        obtain ⟨a5, l5, c5, e5, r5⟩ := h13
        obtain ⟨N, e6, hN, ⟨n0, n1, n2⟩, m0, m1, m2⟩ := h14
        simp only [e5, e6] at hK ⊢
        go_simp
        refine hK.out _ _ ?_
        clear hK K'
        (try simp only [Exit.then])
        have k3 := set3_cells n0 n1 n2 (.int .i64 (kd (ndT 3 1 (one (ndT 6 2 (two (kid A k) (kid B k))))))) (.int .i64 (nn (ndT 3 1 (one (ndT 6 2 (two (kid A k) (kid B k))))))) (.slice a5 l5 c5)
        have NN : Hid (N ≠ w.heap.size ∧ N ≠ O ∧ bA ≠ N ∧ bB ≠ N) := ⟨by omega, by omega, by omega, by omega⟩
        have qc0 := (set3_far wa (R := N) (by have := NN.out; omega) _ (.int .i64 (kd (ndT 3 1 (one (ndT 6 2 (two (kid A k) (kid B k))))))) (.int .i64 (nn (ndT 3 1 (one (ndT 6 2 (two (kid A k) (kid B k))))))) (.slice a5 l5 c5)).trans c0
        have qc1 := (set3_far wa (R := N) (by have := NN.out; omega) _ (.int .i64 (kd (ndT 3 1 (one (ndT 6 2 (two (kid A k) (kid B k))))))) (.int .i64 (nn (ndT 3 1 (one (ndT 6 2 (two (kid A k) (kid B k))))))) (.slice a5 l5 c5)).trans c1
        have qc2 := (set3_far wa (R := N) (by have := NN.out; omega) _ (.int .i64 (kd (ndT 3 1 (one (ndT 6 2 (two (kid A k) (kid B k))))))) (.int .i64 (nn (ndT 3 1 (one (ndT 6 2 (two (kid A k) (kid B k))))))) (.slice a5 l5 c5)).trans c2
        have qx0 := (set3_far wa (R := N) (by have := NN.out; omega) _ (.int .i64 (kd (ndT 3 1 (one (ndT 6 2 (two (kid A k) (kid B k))))))) (.int .i64 (nn (ndT 3 1 (one (ndT 6 2 (two (kid A k) (kid B k))))))) (.slice a5 l5 c5)).trans x0
        have qx1 := (set3_far wa (R := N) (by have := NN.out; omega) _ (.int .i64 (kd (ndT 3 1 (one (ndT 6 2 (two (kid A k) (kid B k))))))) (.int .i64 (nn (ndT 3 1 (one (ndT 6 2 (two (kid A k) (kid B k))))))) (.slice a5 l5 c5)).trans x1
        have qx2 := (set3_far wa (R := N) (by have := NN.out; omega) _ (.int .i64 (kd (ndT 3 1 (one (ndT 6 2 (two (kid A k) (kid B k))))))) (.int .i64 (nn (ndT 3 1 (one (ndT 6 2 (two (kid A k) (kid B k))))))) (.slice a5 l5 c5)).trans x2
        have qy0 := (set3_far wa (R := N) (by have := NN.out; omega) _ (.int .i64 (kd (ndT 3 1 (one (ndT 6 2 (two (kid A k) (kid B k))))))) (.int .i64 (nn (ndT 3 1 (one (ndT 6 2 (two (kid A k) (kid B k))))))) (.slice a5 l5 c5)).trans y0
        have qy1 := (set3_far wa (R := N) (by have := NN.out; omega) _ (.int .i64 (kd (ndT 3 1 (one (ndT 6 2 (two (kid A k) (kid B k))))))) (.int .i64 (nn (ndT 3 1 (one (ndT 6 2 (two (kid A k) (kid B k))))))) (.slice a5 l5 c5)).trans y1
        have qy2 := (set3_far wa (R := N) (by have := NN.out; omega) _ (.int .i64 (kd (ndT 3 1 (one (ndT 6 2 (two (kid A k) (kid B k))))))) (.int .i64 (nn (ndT 3 1 (one (ndT 6 2 (two (kid A k) (kid B k))))))) (.slice a5 l5 c5)).trans y2
        have qz0 := (set3_far wa (R := N) (by have := NN.out; omega) _ (.int .i64 (kd (ndT 3 1 (one (ndT 6 2 (two (kid A k) (kid B k))))))) (.int .i64 (nn (ndT 3 1 (one (ndT 6 2 (two (kid A k) (kid B k))))))) (.slice a5 l5 c5)).trans z0
        have qz1 := (set3_far wa (R := N) (by have := NN.out; omega) _ (.int .i64 (kd (ndT 3 1 (one (ndT 6 2 (two (kid A k) (kid B k))))))) (.int .i64 (nn (ndT 3 1 (one (ndT 6 2 (two (kid A k) (kid B k))))))) (.slice a5 l5 c5)).trans z1
        have qz2 := (set3_far wa (R := N) (by have := NN.out; omega) _ (.int .i64 (kd (ndT 3 1 (one (ndT 6 2 (two (kid A k) (kid B k))))))) (.int .i64 (nn (ndT 3 1 (one (ndT 6 2 (two (kid A k) (kid B k))))))) (.slice a5 l5 c5)).trans z2
        have qf : ∀ x, (((wa.setCell ⟨N, 0, none⟩ (.int .i64 (kd (ndT 3 1 (one (ndT 6 2 (two (kid A k) (kid B k)))))))).setCell ⟨N, 1, none⟩ (.int .i64 (nn (ndT 3 1 (one (ndT 6 2 (two (kid A k) (kid B k)))))))).setCell ⟨N, 2, none⟩ (.slice a5 l5 c5)).frozen? ⟨O, x, none⟩ = false ∧ (((wa.setCell ⟨N, 0, none⟩ (.int .i64 (kd (ndT 3 1 (one (ndT 6 2 (two (kid A k) (kid B k)))))))).setCell ⟨N, 1, none⟩ (.int .i64 (nn (ndT 3 1 (one (ndT 6 2 (two (kid A k) (kid B k)))))))).setCell ⟨N, 2, none⟩ (.slice a5 l5 c5)).frozen? ⟨w.heap.size, x, none⟩ = false := fun x => ⟨(set3_froz wa N _ (.int .i64 (kd (ndT 3 1 (one (ndT 6 2 (two (kid A k) (kid B k))))))) (.int .i64 (nn (ndT 3 1 (one (ndT 6 2 (two (kid A k) (kid B k))))))) (.slice a5 l5 c5)).trans (hfr x).1, (set3_froz wa N _ (.int .i64 (kd (ndT 3 1 (one (ndT 6 2 (two (kid A k) (kid B k))))))) (.int .i64 (nn (ndT 3 1 (one (ndT 6 2 (two (kid A k) (kid B k))))))) (.slice a5 l5 c5)).trans (hfr x).2⟩
        have HSame : Hid (Rd (fun b => w.heap.size < b ∧ b ≠ O) 1048576 (((wa.setCell ⟨N, 0, none⟩ (.int .i64 (kd (ndT 3 1 (one (ndT 6 2 (two (kid A k) (kid B k)))))))).setCell ⟨N, 1, none⟩ (.int .i64 (nn (ndT 3 1 (one (ndT 6 2 (two (kid A k) (kid B k)))))))).setCell ⟨N, 2, none⟩ (.slice a5 l5 c5)) (d + 1 + 1) (ndT 3 1 (one (ndT 6 2 (two (kid A k) (kid B k))))) a5 l5) := (rd_set3 (nz_not r5 hN n0) (R := N) (by simp) (.int .i64 (kd (ndT 3 1 (one (ndT 6 2 (two (kid A k) (kid B k))))))) (.int .i64 (nn (ndT 3 1 (one (ndT 6 2 (two (kid A k) (kid B k))))))) (.slice a5 l5 c5)).imp fun b hb => (by
          rcases hb.1 with h | h
          · exact h
          · exact ⟨by omega, by omega⟩)
        have HCur : Hid (Rd (fun b => w.heap.size < b ∧ b ≠ O) 1048576 (((wa.setCell ⟨N, 0, none⟩ (.int .i64 (kd (ndT 3 1 (one (ndT 6 2 (two (kid A k) (kid B k)))))))).setCell ⟨N, 1, none⟩ (.int .i64 (nn (ndT 3 1 (one (ndT 6 2 (two (kid A k) (kid B k)))))))).setCell ⟨N, 2, none⟩ (.slice a5 l5 c5)) (d + 4 * k) (lessT A B (cT 0) k) ak lk) := (rd_set3 ((rd_old HRk.out).below Sa) (R := N) (by simp; omega) (.int .i64 (kd (ndT 3 1 (one (ndT 6 2 (two (kid A k) (kid B k))))))) (.int .i64 (nn (ndT 3 1 (one (ndT 6 2 (two (kid A k) (kid B k))))))) (.slice a5 l5 c5)).imp fun b hb => hb.1
        have HBb := hid (below_set3 (HBe.out.trans (Sa.mono HBe.out.size)) (R := N) (by omega) (.int .i64 (kd (ndT 3 1 (one (ndT 6 2 (two (kid A k) (kid B k))))))) (.int .i64 (nn (ndT 3 1 (one (ndT 6 2 (two (kid A k) (kid B k))))))) (.slice a5 l5 c5))
        have HXb : Hid (Rd (fun _ => True) 1048576 (((wa.setCell ⟨N, 0, none⟩ (.int .i64 (kd (ndT 3 1 (one (ndT 6 2 (two (kid A k) (kid B k)))))))).setCell ⟨N, 1, none⟩ (.int .i64 (nn (ndT 3 1 (one (ndT 6 2 (two (kid A k) (kid B k)))))))).setCell ⟨N, 2, none⟩ (.slice a5 l5 c5)) d (kid A k) ax lx) := (rd_set3 ((rd_old HX.out).below Sa) (R := N) (by simp; omega) (.int .i64 (kd (ndT 3 1 (one (ndT 6 2 (two (kid A k) (kid B k))))))) (.int .i64 (nn (ndT 3 1 (one (ndT 6 2 (two (kid A k) (kid B k))))))) (.slice a5 l5 c5)).imp fun _ _ => trivial
        have HYb : Hid (Rd (fun _ => True) 1048576 (((wa.setCell ⟨N, 0, none⟩ (.int .i64 (kd (ndT 3 1 (one (ndT 6 2 (two (kid A k) (kid B k)))))))).setCell ⟨N, 1, none⟩ (.int .i64 (nn (ndT 3 1 (one (ndT 6 2 (two (kid A k) (kid B k)))))))).setCell ⟨N, 2, none⟩ (.slice a5 l5 c5)) d (kid B k) ay ly) := (rd_set3 ((rd_old HY.out).below Sa) (R := N) (by simp; omega) (.int .i64 (kd (ndT 3 1 (one (ndT 6 2 (two (kid A k) (kid B k))))))) (.int .i64 (nn (ndT 3 1 (one (ndT 6 2 (two (kid A k) (kid B k))))))) (.slice a5 l5 c5)).imp fun _ _ => trivial
        have HSb : Hid ((((wa.setCell ⟨N, 0, none⟩ (.int .i64 (kd (ndT 3 1 (one (ndT 6 2 (two (kid A k) (kid B k)))))))).setCell ⟨N, 1, none⟩ (.int .i64 (nn (ndT 3 1 (one (ndT 6 2 (two (kid A k) (kid B k)))))))).setCell ⟨N, 2, none⟩ (.slice a5 l5 c5)).heap.size = wa.heap.size) := by show _ = _; simp [World.setCell]
        generalize (((wa.setCell ⟨N, 0, none⟩ (.int .i64 (kd (ndT 3 1 (one (ndT 6 2 (two (kid A k) (kid B k)))))))).setCell ⟨N, 1, none⟩ (.int .i64 (nn (ndT 3 1 (one (ndT 6 2 (two (kid A k) (kid B k)))))))).setCell ⟨N, 2, none⟩ (.slice a5 l5 c5)) = wb at *
        have sab := Sa.size
        clear c0 c1 c2 x0 x1 x2 y0 y1 y2 z0 z1 z2 n0 n1 n2 m0 m1 m2 hfr r5 Sa
        have hs9 : O < wb.heap.size ∧ w.heap.size < wb.heap.size := ⟨World.block_lt_of_cell? _ _ qc0, World.block_lt_of_cell? _ _ qz0⟩
        have HK9 : Hid (∀ w8 : World, Below wb.heap.size wb w8 → (w8.cell? ⟨O, 0, none⟩ = some (.int .i64 (kd (lessT A B (cT 0) k))) ∧ w8.cell? ⟨O, 1, none⟩ = some (.int .i64 (nn (lessT A B (cT 0) k))) ∧ w8.cell? ⟨O, 2, none⟩ = some (.slice ak lk ck)) ∧
            (w8.cell? ⟨bA, offA + k * 3, none⟩ = some (.int .i64 (kd (kid A k))) ∧ w8.cell? ⟨bA, offA + k * 3 + 1, none⟩ = some (.int .i64 (nn (kid A k))) ∧ w8.cell? ⟨bA, offA + k * 3 + 2, none⟩ = some (.slice ax lx cx)) ∧
            (w8.cell? ⟨bB, offB + k * 3, none⟩ = some (.int .i64 (kd (kid B k))) ∧ w8.cell? ⟨bB, offB + k * 3 + 1, none⟩ = some (.int .i64 (nn (kid B k))) ∧ w8.cell? ⟨bB, offB + k * 3 + 2, none⟩ = some (.slice ay ly cy)) ∧
            (w8.cell? ⟨N, 0, none⟩ = some (.int .i64 (kd (ndT 3 1 (one (ndT 6 2 (two (kid A k) (kid B k))))))) ∧ w8.cell? ⟨N, 1, none⟩ = some (.int .i64 (nn (ndT 3 1 (one (ndT 6 2 (two (kid A k) (kid B k))))))) ∧ w8.cell? ⟨N, 2, none⟩ = some (.slice a5 l5 c5)) ∧
            (w8.cell? ⟨w.heap.size, 0, none⟩ = some (.int .i64 0) ∧ w8.cell? ⟨w.heap.size, 1, none⟩ = some (.int .i64 0) ∧ w8.cell? ⟨w.heap.size, 2, none⟩ = some (.slice none 0 0)) ∧
            ∀ x, w8.frozen? ⟨O, x, none⟩ = false ∧ w8.frozen? ⟨w.heap.size, x, none⟩ = false) :=
          fun w8 h => ⟨⟨keep h qc0, keep h qc1, keep h qc2⟩, ⟨keep h qx0, keep h qx1, keep h qx2⟩, ⟨keep h qy0, keep h qy1, keep h qy2⟩, ⟨keep h k3.1, keep h k3.2.1, keep h k3.2.2⟩, ⟨keep h qz0, keep h qz1, keep h qz2⟩,
            fun x => ⟨(h.frozen (p := ⟨O, x, none⟩) hs9.1).trans (qf x).1, (h.frozen (p := ⟨w.heap.size, x, none⟩) hs9.2).trans (qf x).2⟩⟩
        clear qc0 qc1 qc2 qx0 qx1 qx2 qy0 qy1 qy2 qz0 qz1 qz2 qf k3
        generalize ua 15 = s15 at *
        generalize ua 16 = s16 at *
        generalize ua 17 = s17 at *
        generalize ua 18 = s18 at *
        generalize ua 19 = s19 at *
        generalize ua 20 = s20 at *
        generalize ua 21 = s21 at *
        generalize ua 22 = s22 at *
        generalize ua 23 = s23 at *
        generalize ua 24 = s24 at *
        generalize ua 25 = s25 at *
        generalize ua 26 = s26 at *
        generalize ua 27 = s27 at *
        go_wp2_with fail
        refine region_below (fun u => ⟨#[.slice (some ⟨bA, offA, none⟩) l cA, .slice (some ⟨bB, offB, none⟩) l cB, undef, undef, .pointer (some ⟨w.heap.size, 0, none⟩), .pointer (some ⟨O, 0, none⟩), .int .i64 (k : Int), .pointer (some ⟨N, 0, none⟩), .agg #[.int .i64 2, .int .i64 0, .slice none 0 0], .int .i64 (k : Int), .slice (some ⟨bA, offA, none⟩) l cA, .int .i64 (l : Int), .bool true, u13, u14, s15, s16, s17, s18, s19, s20, s21, s22, s23, s24, s25, s26, s27, .agg #[.int .i64 (kd (ndT 3 1 (one (ndT 6 2 (two (kid A k) (kid B k)))))), .int .i64 (nn (ndT 3 1 (one (ndT 6 2 (two (kid A k) (kid B k)))))), .slice a5 l5 c5], u 29, u 30, u 31, u 32, u 33, u 34, u 35, u 36, u 37, u 38, u 39, u 40, u 41, u 42, u 43, u 44, u 45, u 46, u 47, u 48, undef], []⟩) (fun i => [29, 30, 31, 32, 33, 34, 35, 36, 37, 38, 39, 40, 41, 42, 43, 44, 45, 46, 47, 48].getD i 0) (fun i v w8 => match i with | 0 => v = .slice (some ⟨bA, offA, none⟩) l cA | 1 => v = .int .i64 (k : Int) | 2 => v = .pointer (some ⟨bA, offA + k * 3, none⟩) | 3 => XV (fun _ => True) w8 (d) (kid A k) v | 4 => TV (fun b => w.heap.size < b ∧ b ≠ O) wb.heap.size w8 (d) (kid A k) v | 5 => RV (fun b => w.heap.size < b ∧ b ≠ O) wb.heap.size w8 (d + 1) (ndT 3 1 (one (kid A k))) 1 v | 6 => TV (fun b => w.heap.size < b ∧ b ≠ O) wb.heap.size w8 (d + 1) (ndT 3 1 (one (kid A k))) v | 7 => v = .slice (some ⟨bB, offB, none⟩) l cB | 8 => v = .int .i64 (k : Int) | 9 => v = .pointer (some ⟨bB, offB + k * 3, none⟩) | 10 => XV (fun _ => True) w8 (d) (kid B k) v | 11 => TV (fun b => w.heap.size < b ∧ b ≠ O) wb.heap.size w8 (d) (kid B k) v | 12 => RV (fun b => w.heap.size < b ∧ b ≠ O) wb.heap.size w8 (d + 1 + 1) (ndT 4 2 (two (ndT 3 1 (one (kid A k))) (kid B k))) 2 v | 13 => TV (fun b => w.heap.size < b ∧ b ≠ O) wb.heap.size w8 (d + 1 + 1) (ndT 4 2 (two (ndT 3 1 (one (kid A k))) (kid B k))) v | 14 => TV (fun b => w.heap.size < b ∧ b ≠ O) wb.heap.size w8 (d + 1 + 1) (ndT 3 1 (one (ndT 6 2 (two (kid A k) (kid B k))))) v | 15 => TV (fun b => w.heap.size < b ∧ b ≠ O) wb.heap.size w8 (d + 4 * k) (lessT A B (cT 0) k) v | 16 => RV (fun b => w.heap.size < b ∧ b ≠ O) wb.heap.size w8 (d + 4 * k + 1 + 1 + 1) (ndT 4 2 (two (ndT 3 1 (one (ndT 6 2 (two (kid A k) (kid B k))))) (lessT A B (cT 0) k))) 2 v | 17 => TV (fun b => w.heap.size < b ∧ b ≠ O) wb.heap.size w8 (d + 4 * k + 1 + 1 + 1) (ndT 4 2 (two (ndT 3 1 (one (ndT 6 2 (two (kid A k) (kid B k))))) (lessT A B (cT 0) k))) v | 18 => RV (fun b => w.heap.size < b ∧ b ≠ O) wb.heap.size w8 (d + 4 * k + 1 + 1 + 1 + 1) (ndT 5 2 (two (ndT 4 2 (two (ndT 3 1 (one (kid A k))) (kid B k))) (ndT 4 2 (two (ndT 3 1 (one (ndT 6 2 (two (kid A k) (kid B k))))) (lessT A B (cT 0) k))))) 2 v | 19 => TV (fun b => w.heap.size < b ∧ b ≠ O) wb.heap.size w8 (d + 4 * k + 1 + 1 + 1 + 1) (ndT 5 2 (two (ndT 4 2 (two (ndT 3 1 (one (kid A k))) (kid B k))) (ndT 4 2 (two (ndT 3 1 (one (ndT 6 2 (two (kid A k) (kid B k))))) (lessT A B (cT 0) k))))) v | _ => True) wb 20 (fun k => match k with | 29 => u29 | 30 => u30 | 31 => u31 | 32 => u32 | 33 => u33 | 34 => u34 | 35 => u35 | 36 => u36 | 37 => u37 | 38 => u38 | 39 => u39 | 40 => u40 | 41 => u41 | 42 => u42 | 43 => u43 | 44 => u44 | 45 => u45 | 46 => u46 | 47 => u47 | 48 => u48 | _ => undef) (by rfl) (by kernel_rfl) (by rfl) ⟨by kernel_rfl, by kernel_rfl, by kernel_rfl, by decide⟩ (by kernel_rfl) (Below.refl _ _) ?hput ?hinj ?stable ?step ?last
        case hput =>
          intro i hi u v
          match i, hi with
          | 0, _ => rfl
          | 1, _ => rfl
          | 2, _ => rfl
          | 3, _ => rfl
          | 4, _ => rfl
          | 5, _ => rfl
          | 6, _ => rfl
          | 7, _ => rfl
          | 8, _ => rfl
          | 9, _ => rfl
          | 10, _ => rfl
          | 11, _ => rfl
          | 12, _ => rfl
          | 13, _ => rfl
          | 14, _ => rfl
          | 15, _ => rfl
          | 16, _ => rfl
          | 17, _ => rfl
          | 18, _ => rfl
          | 19, _ => rfl
          | i + 20, hi => exact absurd hi (by omega)
        case hinj =>
          intro i j hi hj h
          exact slots_inj [29, 30, 31, 32, 33, 34, 35, 36, 37, 38, 39, 40, 41, 42, 43, 44, 45, 46, 47, 48] (by decide) hi hj h
        case stable =>
          intro i v w8 w9 hb h
          match i, h with
          | 0, h => exact h
          | 1, h => exact h
          | 2, h => exact h
          | 3, h => exact h.below hb
          | 4, h => exact h.below hb
          | 5, h => exact h.below hb
          | 6, h => exact h.below hb
          | 7, h => exact h
          | 8, h => exact h
          | 9, h => exact h
          | 10, h => exact h.below hb
          | 11, h => exact h.below hb
          | 12, h => exact h.below hb
          | 13, h => exact h.below hb
          | 14, h => exact h.below hb
          | 15, h => exact h.below hb
          | 16, h => exact h.below hb
          | 17, h => exact h.below hb
          | 18, h => exact h.below hb
          | 19, h => exact h.below hb
          | _ + 20, h => trivial
        case step =>
          intro i hi u w8 S8 hdep
          match i, hi with
          | 0, _ =>
            clear hdep
            refine ⟨_, rfl, fun K' hK => ?_⟩
            go_simp
            exact hK.out _ _ (Below.refl _ _) rfl
          | 1, _ =>
            clear hdep
            refine ⟨_, rfl, fun K' hK => ?_⟩
            go_simp
            exact hK.out _ _ (Below.refl _ _) rfl
          | 2, _ =>
            have h0 : (u 29) = .slice (some ⟨bA, offA, none⟩) l cA := hdep 0 (by kernel_rfl)
            have h1 : (u 30) = .int .i64 (k : Int) := hdep 1 (by kernel_rfl)
            clear hdep
            refine ⟨_, rfl, fun K' hK => ?_⟩
            simp only [h0, h1] at hK ⊢
            go_simp
            exact hK.out _ _ (Below.refl _ _) rfl
          | 3, _ =>
            have h2 : (u 31) = .pointer (some ⟨bA, offA + k * 3, none⟩) := hdep 2 (by kernel_rfl)
            clear hdep
            refine ⟨_, rfl, fun K' hK => ?_⟩
            obtain ⟨⟨c0, c1, c2⟩, ⟨x0, x1, x2⟩, ⟨y0, y1, y2⟩, ⟨n0, n1, n2⟩, -, -⟩ := HK9.out w8 S8
            simp only [h2] at hK ⊢
            go_simp
            exact hK.out _ _ (Below.refl _ _) ⟨ax, lx, cx, HXb.out.below S8, rfl⟩
          | 4, _ =>
            have h3 : XV (fun _ => True) w8 (d) (kid A k) (u 32) := hdep 3 (by kernel_rfl)
            clear hdep
            refine ⟨_, rfl, fun K' hK => ?_⟩
            obtain ⟨a3, l3, c3, r3, e3⟩ := h3
            simp only [e3] at hK ⊢
            go_simp
            refine (copE d (kid A k) a3 l3 c3 _ r3).mono ?_
            rintro e w9 ⟨a', c', rfl, hb9, ho9⟩
            exact hK.out _ _ hb9 ⟨a', l3, c', rfl, (ow_nz ho9 (HRtA.out k hlt)).imp fun b hb => .inr ⟨Nat.le_trans S8.size hb.1.1, hb.2⟩⟩
          | 5, _ =>
            have h4 : TV (fun b => w.heap.size < b ∧ b ≠ O) wb.heap.size w8 (d) (kid A k) (u 33) := hdep 4 (by kernel_rfl)
            clear hdep
            refine ⟨_, rfl, fun K' hK => ?_⟩
            obtain ⟨a4, l4, c4, e4, r4⟩ := h4
            simp only [e4] at hK ⊢
            go_simp
            exact hK.out _ _ (by repeat (first | exact Below.refl _ _ | assumption | refine Below.drew ?_ | refine Below.alloc ?_ (by first | exact Nat.le_refl _ | omega | (simp; done) | (simp; omega)) _ | refine Below.setCell ?_ (by first | exact Nat.le_refl _ | omega | (simp; done) | (simp; omega)) _)) ⟨w8.heap.size, rfl, row1 3 S8.size (HKA.out k hlt) (r4.more (by omega))⟩
          | 6, _ =>
            have h5 : RV (fun b => w.heap.size < b ∧ b ≠ O) wb.heap.size w8 (d + 1) (ndT 3 1 (one (kid A k))) 1 (u 34) := hdep 5 (by kernel_rfl)
            clear hdep
            refine ⟨_, rfl, fun K' hK => ?_⟩
            obtain ⟨N5, e5, r5⟩ := h5
            simp only [e5] at hK ⊢
            go_simp
            refine (new_spec 3 _ _ _ _).mono ?_
            rintro e w9 ⟨rfl, hb9⟩
            exact hK.out _ _ hb9 ⟨_, _, _, rfl, nz_below r5 hb9⟩
          | 7, _ =>
            clear hdep
            refine ⟨_, rfl, fun K' hK => ?_⟩
            go_simp
            exact hK.out _ _ (Below.refl _ _) rfl
          | 8, _ =>
            clear hdep
            refine ⟨_, rfl, fun K' hK => ?_⟩
            go_simp
            exact hK.out _ _ (Below.refl _ _) rfl
          | 9, _ =>
            have h7 : (u 36) = .slice (some ⟨bB, offB, none⟩) l cB := hdep 7 (by kernel_rfl)
            have h8 : (u 37) = .int .i64 (k : Int) := hdep 8 (by kernel_rfl)
            clear hdep
            refine ⟨_, rfl, fun K' hK => ?_⟩
            simp only [h7, h8] at hK ⊢
            go_simp
            exact hK.out _ _ (Below.refl _ _) rfl
          | 10, _ =>
            have h9 : (u 38) = .pointer (some ⟨bB, offB + k * 3, none⟩) := hdep 9 (by kernel_rfl)
            clear hdep
            refine ⟨_, rfl, fun K' hK => ?_⟩
            obtain ⟨⟨c0, c1, c2⟩, ⟨x0, x1, x2⟩, ⟨y0, y1, y2⟩, ⟨n0, n1, n2⟩, -, -⟩ := HK9.out w8 S8
            simp only [h9] at hK ⊢
            go_simp
            exact hK.out _ _ (Below.refl _ _) ⟨ay, ly, cy, HYb.out.below S8, rfl⟩
          | 11, _ =>
            have h10 : XV (fun _ => True) w8 (d) (kid B k) (u 39) := hdep 10 (by kernel_rfl)
            clear hdep
            refine ⟨_, rfl, fun K' hK => ?_⟩
            obtain ⟨a10, l10, c10, r10, e10⟩ := h10
            simp only [e10] at hK ⊢
            go_simp
            refine (copE d (kid B k) a10 l10 c10 _ r10).mono ?_
            rintro e w9 ⟨a', c', rfl, hb9, ho9⟩
            exact hK.out _ _ hb9 ⟨a', l10, c', rfl, (ow_nz ho9 (HRtB.out k hlt)).imp fun b hb => .inr ⟨Nat.le_trans S8.size hb.1.1, hb.2⟩⟩
          | 12, _ =>
            have h6 : TV (fun b => w.heap.size < b ∧ b ≠ O) wb.heap.size w8 (d + 1) (ndT 3 1 (one (kid A k))) (u 35) := hdep 6 (by kernel_rfl)
            have h11 : TV (fun b => w.heap.size < b ∧ b ≠ O) wb.heap.size w8 (d) (kid B k) (u 40) := hdep 11 (by kernel_rfl)
            clear hdep
            refine ⟨_, rfl, fun K' hK => ?_⟩
            obtain ⟨a6, l6, c6, e6, r6⟩ := h6
            obtain ⟨a11, l11, c11, e11, r11⟩ := h11
            simp only [e6, e11] at hK ⊢
            go_simp
            exact hK.out _ _ (by repeat (first | exact Below.refl _ _ | assumption | refine Below.drew ?_ | refine Below.alloc ?_ (by first | exact Nat.le_refl _ | omega | (simp; done) | (simp; omega)) _ | refine Below.setCell ?_ (by first | exact Nat.le_refl _ | omega | (simp; done) | (simp; omega)) _)) ⟨w8.heap.size, rfl, row2 4 S8.size (nd_kind (by decide)) (r6.more (by omega)) (r11.more (by omega))⟩
          | 13, _ =>
            have h12 : RV (fun b => w.heap.size < b ∧ b ≠ O) wb.heap.size w8 (d + 1 + 1) (ndT 4 2 (two (ndT 3 1 (one (kid A k))) (kid B k))) 2 (u 41) := hdep 12 (by kernel_rfl)
            clear hdep
            refine ⟨_, rfl, fun K' hK => ?_⟩
            obtain ⟨N12, e12, r12⟩ := h12
            simp only [e12] at hK ⊢
            go_simp
            refine (new_spec 4 _ _ _ _).mono ?_
            rintro e w9 ⟨rfl, hb9⟩
            exact hK.out _ _ hb9 ⟨_, _, _, rfl, nz_below r12 hb9⟩
          | 14, _ =>
            clear hdep
            refine ⟨_, rfl, fun K' hK => ?_⟩
            obtain ⟨⟨c0, c1, c2⟩, ⟨x0, x1, x2⟩, ⟨y0, y1, y2⟩, ⟨n0, n1, n2⟩, -, -⟩ := HK9.out w8 S8
            go_simp
            exact hK.out _ _ (Below.refl _ _) ⟨a5, l5, c5, rfl, nz_below (nz_base (rd_old HSame.out) (Below.refl _ _)) S8⟩
          | 15, _ =>
            clear hdep
            refine ⟨_, rfl, fun K' hK => ?_⟩
            obtain ⟨⟨c0, c1, c2⟩, ⟨x0, x1, x2⟩, ⟨y0, y1, y2⟩, ⟨n0, n1, n2⟩, -, -⟩ := HK9.out w8 S8
            go_simp
            exact hK.out _ _ (Below.refl _ _) ⟨ak, lk, ck, rfl, nz_below (nz_base (rd_old HCur.out) (Below.refl _ _)) S8⟩
          | 16, _ =>
            have h14 : TV (fun b => w.heap.size < b ∧ b ≠ O) wb.heap.size w8 (d + 1 + 1) (ndT 3 1 (one (ndT 6 2 (two (kid A k) (kid B k))))) (u 43) := hdep 14 (by kernel_rfl)
            have h15 : TV (fun b => w.heap.size < b ∧ b ≠ O) wb.heap.size w8 (d + 4 * k) (lessT A B (cT 0) k) (u 44) := hdep 15 (by kernel_rfl)
            clear hdep
            refine ⟨_, rfl, fun K' hK => ?_⟩
            obtain ⟨a14, l14, c14, e14, r14⟩ := h14
            obtain ⟨a15, l15, c15, e15, r15⟩ := h15
            simp only [e14, e15] at hK ⊢
            go_simp
            exact hK.out _ _ (by repeat (first | exact Below.refl _ _ | assumption | refine Below.drew ?_ | refine Below.alloc ?_ (by first | exact Nat.le_refl _ | omega | (simp; done) | (simp; omega)) _ | refine Below.setCell ?_ (by first | exact Nat.le_refl _ | omega | (simp; done) | (simp; omega)) _)) ⟨w8.heap.size, rfl, row2 4 S8.size (nd_kind (by decide)) (r14.more (by omega)) (r15.more (by omega))⟩
          | 17, _ =>
            have h16 : RV (fun b => w.heap.size < b ∧ b ≠ O) wb.heap.size w8 (d + 4 * k + 1 + 1 + 1) (ndT 4 2 (two (ndT 3 1 (one (ndT 6 2 (two (kid A k) (kid B k))))) (lessT A B (cT 0) k))) 2 (u 45) := hdep 16 (by kernel_rfl)
            clear hdep
            refine ⟨_, rfl, fun K' hK => ?_⟩
            obtain ⟨N16, e16, r16⟩ := h16
            simp only [e16] at hK ⊢
            go_simp
            refine (new_spec 4 _ _ _ _).mono ?_
            rintro e w9 ⟨rfl, hb9⟩
            exact hK.out _ _ hb9 ⟨_, _, _, rfl, nz_below r16 hb9⟩
          | 18, _ =>
            have h13 : TV (fun b => w.heap.size < b ∧ b ≠ O) wb.heap.size w8 (d + 1 + 1) (ndT 4 2 (two (ndT 3 1 (one (kid A k))) (kid B k))) (u 42) := hdep 13 (by kernel_rfl)
            have h17 : TV (fun b => w.heap.size < b ∧ b ≠ O) wb.heap.size w8 (d + 4 * k + 1 + 1 + 1) (ndT 4 2 (two (ndT 3 1 (one (ndT 6 2 (two (kid A k) (kid B k))))) (lessT A B (cT 0) k))) (u 46) := hdep 17 (by kernel_rfl)
            clear hdep
            refine ⟨_, rfl, fun K' hK => ?_⟩
            obtain ⟨a13, l13, c13, e13, r13⟩ := h13
            obtain ⟨a17, l17, c17, e17, r17⟩ := h17
            simp only [e13, e17] at hK ⊢
            go_simp
            exact hK.out _ _ (by repeat (first | exact Below.refl _ _ | assumption | refine Below.drew ?_ | refine Below.alloc ?_ (by first | exact Nat.le_refl _ | omega | (simp; done) | (simp; omega)) _ | refine Below.setCell ?_ (by first | exact Nat.le_refl _ | omega | (simp; done) | (simp; omega)) _)) ⟨w8.heap.size, rfl, row2 5 S8.size (nd_kind (by decide)) (r13.more (by omega)) (r17.more (by omega))⟩
          | 19, _ =>
            have h18 : RV (fun b => w.heap.size < b ∧ b ≠ O) wb.heap.size w8 (d + 4 * k + 1 + 1 + 1 + 1) (ndT 5 2 (two (ndT 4 2 (two (ndT 3 1 (one (kid A k))) (kid B k))) (ndT 4 2 (two (ndT 3 1 (one (ndT 6 2 (two (kid A k) (kid B k))))) (lessT A B (cT 0) k))))) 2 (u 47) := hdep 18 (by kernel_rfl)
            clear hdep
            refine ⟨_, rfl, fun K' hK => ?_⟩
            obtain ⟨N18, e18, r18⟩ := h18
            simp only [e18] at hK ⊢
            go_simp
            refine (new_spec 5 _ _ _ _).mono ?_
            rintro e w9 ⟨rfl, hb9⟩
            exact hK.out _ _ hb9 ⟨_, _, _, rfl, nz_below r18 hb9⟩
          | i + 20, hi => exact absurd hi (by omega)
        case last =>
          intro u w8 S8 hall
          have h19 : TV (fun b => w.heap.size < b ∧ b ≠ O) wb.heap.size w8 (d + 4 * k + 1 + 1 + 1 + 1) (ndT 5 2 (two (ndT 4 2 (two (ndT 3 1 (one (kid A k))) (kid B k))) (ndT 4 2 (two (ndT 3 1 (one (ndT 6 2 (two (kid A k) (kid B k))))) (lessT A B (cT 0) k))))) (u 48) := hall 19 (by decide)
          clear hall
          refine ⟨_, rfl, fun K' hK => ?_⟩
          obtain ⟨⟨c0, c1, c2⟩, -, -, -, ⟨z0, z1, z2⟩, hfr⟩ := HK9.out w8 S8
          obtain ⟨a8, l8, c8, e8, r8⟩ := h19
          have g0 := (hfr 0).1
          have g1 := (hfr 1).1
          have g2 := (hfr 2).1
          simp only [e8] at hK ⊢
          go_simp
          refine hK.out _ _ ?_
          clear hK K'
          (try simp only [Exit.then])
          have HR := hid (rd_set3 (nz_q r8 (q' := (fun b => w.heap.size < b ∧ b ≠ O)) (fun b hb => hb) (fun b hb => by omega)) (R := O) (by simp) (.int .i64 (kd (ndT 5 2 (two (ndT 4 2 (two (ndT 3 1 (one (kid A k))) (kid B k))) (ndT 4 2 (two (ndT 3 1 (one (ndT 6 2 (two (kid A k) (kid B k))))) (lessT A B (cT 0) k))))))) (.int .i64 (nn (ndT 5 2 (two (ndT 4 2 (two (ndT 3 1 (one (kid A k))) (kid B k))) (ndT 4 2 (two (ndT 3 1 (one (ndT 6 2 (two (kid A k) (kid B k))))) (lessT A B (cT 0) k))))))) (.slice a8 l8 c8))
          have HB3 := hid (below_set3 (HBb.out.trans (S8.mono HBb.out.size)) (R := O) (by have := HO.out; omega) (.int .i64 (kd (ndT 5 2 (two (ndT 4 2 (two (ndT 3 1 (one (kid A k))) (kid B k))) (ndT 4 2 (two (ndT 3 1 (one (ndT 6 2 (two (kid A k) (kid B k))))) (lessT A B (cT 0) k))))))) (.int .i64 (nn (ndT 5 2 (two (ndT 4 2 (two (ndT 3 1 (one (kid A k))) (kid B k))) (ndT 4 2 (two (ndT 3 1 (one (ndT 6 2 (two (kid A k) (kid B k))))) (lessT A B (cT 0) k))))))) (.slice a8 l8 c8))
          go_wp2
          go_roundw
          case rel =>
            exact ⟨k + 1, a8, l8, c8, by omega, by go_num, HB3.out, HR.out, set3_cells c0 c1 c2 _ _ _, ⟨(set3_far _ (by have := HO.out; omega) _ _ _ _).trans z0, (set3_far _ (by have := HO.out; omega) _ _ _ _).trans z1, (set3_far _ (by have := HO.out; omega) _ _ _ _).trans z2⟩, fun x => ⟨(set3_froz _ _ _ _ _ _).trans (hfr x).1, (set3_froz _ _ _ _ _ _).trans (hfr x).2⟩⟩
          case measure => simp [intOf]; omega
        
    · have e : k = l := by omega
      subst e
      have g0 := (HFr.out 0).2
      have g1 := (HFr.out 1).2
      have g2 := (HFr.out 2).2
      have HR := hid (rd_set3 HRk.out (R := w.heap.size) (by simp) (.int .i64 (kd (lessT A B (cT 0) k))) (.int .i64 (nn (lessT A B (cT 0) k))) (.slice ak lk ck))
      have HB3 := hid (below_set3 HBe.out (R := w.heap.size) (Nat.le_refl _) (.int .i64 (kd (lessT A B (cT 0) k))) (.int .i64 (nn (lessT A B (cT 0) k))) (.slice ak lk ck))
      go_wp2
      refine bodyPost_ret (v := .agg #[.int .i64 (kd (lessT A B (cT 0) k)), .int .i64 (nn (lessT A B (cT 0) k)), .slice ak lk ck]) (by simp [results, Try.results46, go_sem, z0, z1, z2]) rfl ⟨ak, lk, ck, rfl, HR.out.imp fun _ h => h.1, HB3.out⟩
theorem less_rows (d : Nat) (A B : T) (aA aB : Option Addr) (l cA cB : Nat) (w : World) (hA : Rd (fun _ => True) 1048576 w (d + 1) A aA l) (hB : Rd (fun _ => True) 1048576 w (d + 1) B aB l) (okA : allOk d A l = true) (okB' : allOk d B l = true) :
    Calls Try.prog 46 #[.slice aA l cA, .slice aB l cB] w fun e w' => ∃ a lr c, e = .returned (.agg #[.int .i64 (kd (lessT A B (cT 0) l)), .int .i64 (nn (lessT A B (cT 0) l)), .slice a lr c]) ∧ Rd (fun b => w.heap.size < b) 1048576 w' (d + 4 * l) (lessT A B (cT 0) l) a lr ∧ Below w.heap.size w w' :=
  less_right d A B aA aB l cA cB w hA hB (allOk_kind hA okA) (allOk_kind hB okB') (allOk_right okA) (allOk_right okB')
end Go.Proofs.Ytofdhoefphoaaaa.lessSpec
