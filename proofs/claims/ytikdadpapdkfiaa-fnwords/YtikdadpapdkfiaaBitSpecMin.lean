/- The specification's row of bits of the lesser of two words; conditions: none. -/
import Derived.Test.YtikdadpapdkfiaaBitSpecAnd
import Derived.Test.YtikdadpapdkfiaaBitRight
import Derived.Test.YtikdadpapdkfiaaLessSpec
namespace Go.Proofs.Ytikdadpapdkfiaa.bitSpecMin
open Go.RowKit Go.Deep Go base trees built heldStore drawn ownTree ownEx copySpec rowsSpec wordTrees wordSpec lessImpl faceImpl lessSpec bitRows bitPart bitSteps bitPair bitSum bitSumRow bitWord bitSpec bitSpecVar bitSpecAnd bitRight
set_option linter.unusedVariables false

set_option maxHeartbeats 6400000 in
set_option maxRecDepth 8000 in
theorem bits_min (b : Nat) (hb1 : 1 ≤ b) (hb2 : b ≤ 6) (D0 : Nat) (RA RB t : T) (bb off c : Nat) (x0 x1 : Option Addr) (m0 s0 m1 s1 : Nat) (w : World) (g0 : w.cell? ⟨bb, off, none⟩ = some (.int .i64 (kd (kid t 0)))) (g1 : w.cell? ⟨bb, off + 1, none⟩ = some (.int .i64 (nn (kid t 0)))) (g2 : w.cell? ⟨bb, off + 2, none⟩ = some (.slice x0 m0 s0)) (j0 : w.cell? ⟨bb, off + 3, none⟩ = some (.int .i64 (kd (kid t 1)))) (j1 : w.cell? ⟨bb, off + 4, none⟩ = some (.int .i64 (nn (kid t 1)))) (j2 : w.cell? ⟨bb, off + 5, none⟩ = some (.slice x1 m1 s1))
    (E0 : ∀ w' : World, Below w.heap.size w w' → Calls Try.prog 27 #[.agg #[.int .i64 (kd (kid t 0)), .int .i64 (nn (kid t 0)), .slice x0 m0 s0], .int .i64 (b : Int)] w' fun e w'' => ∃ v, e = .returned v ∧ RowV w'' (D0 + 1) RA b v ∧ Below w'.heap.size w' w'')
    (E1 : ∀ w' : World, Below w.heap.size w w' → Calls Try.prog 27 #[.agg #[.int .i64 (kd (kid t 1)), .int .i64 (nn (kid t 1)), .slice x1 m1 s1], .int .i64 (b : Int)] w' fun e w'' => ∃ v, e = .returned v ∧ RowV w'' (D0 + 1) RB b v ∧ Below w'.heap.size w' w'') (kA : ∀ i, kd (kid RA i) ≠ 0) (kB : ∀ i, kd (kid RB i) ≠ 0) (rA' : ∀ i, i < b → AllR (kid RA i)) (rB' : ∀ i, i < b → AllR (kid RB i)) :
    Calls Try.prog 27 #[.agg #[.int .i64 5, .int .i64 0, .slice (some ⟨bb, off, none⟩) 2 c], .int .i64 (b : Int)] w fun e w' => ∃ v, e = .returned v ∧ RowV w' (D0 + 26) (iteT RA RB b) b v ∧ Below w.heap.size w w' := by
  obtain ⟨i0, hi0, hz0, hz1, hz2⟩ := info_parts info_ex
  have HI := hid hi0
  have HZ0 := hid hz0
  have HZ1 := hid hz1
  have HZ2 := hid hz2
  clear hi0 hz0 hz1 hz2
  have HE0 := hid E0
  have HE1 := hid E1
  have HKA := hid kA
  have HKB := hid kB
  have HRA' := hid rA'
  have HRB' := hid rB'
  clear E0 E1 kA kB rA' rB'
  have HW : Hid (Below w.heap.size w ((w.alloc (.cells #[.int .i64 5, .int .i64 0, .slice (some ⟨bb, off, none⟩) 2 c] 25)).alloc (.cells #[] 39))) := (by repeat (first | exact Below.refl _ _ | assumption | refine Below.drew ?_ | refine Below.alloc ?_ (by first | exact Nat.le_refl _ | omega | (simp; done) | (simp; omega)) _ | refine Below.setCell ?_ (by first | exact Nat.le_refl _ | omega | (simp; done) | (simp; omega)) _))
  replace g0 : ((w.alloc (.cells #[.int .i64 5, .int .i64 0, .slice (some ⟨bb, off, none⟩) 2 c] 25)).alloc (.cells #[] 39)).cell? ⟨bb, off, none⟩ = some (.int .i64 (kd (kid t 0))) := keep HW.out g0
  replace g1 : ((w.alloc (.cells #[.int .i64 5, .int .i64 0, .slice (some ⟨bb, off, none⟩) 2 c] 25)).alloc (.cells #[] 39)).cell? ⟨bb, off + 1, none⟩ = some (.int .i64 (nn (kid t 0))) := keep HW.out g1
  replace g2 : ((w.alloc (.cells #[.int .i64 5, .int .i64 0, .slice (some ⟨bb, off, none⟩) 2 c] 25)).alloc (.cells #[] 39)).cell? ⟨bb, off + 2, none⟩ = some (.slice x0 m0 s0) := keep HW.out g2
  replace j0 : ((w.alloc (.cells #[.int .i64 5, .int .i64 0, .slice (some ⟨bb, off, none⟩) 2 c] 25)).alloc (.cells #[] 39)).cell? ⟨bb, off + 3, none⟩ = some (.int .i64 (kd (kid t 1))) := keep HW.out j0
  replace j1 : ((w.alloc (.cells #[.int .i64 5, .int .i64 0, .slice (some ⟨bb, off, none⟩) 2 c] 25)).alloc (.cells #[] 39)).cell? ⟨bb, off + 4, none⟩ = some (.int .i64 (nn (kid t 1))) := keep HW.out j1
  replace j2 : ((w.alloc (.cells #[.int .i64 5, .int .i64 0, .slice (some ⟨bb, off, none⟩) 2 c] 25)).alloc (.cells #[] 39)).cell? ⟨bb, off + 5, none⟩ = some (.slice x1 m1 s1) := keep HW.out j2
  go_enter Try.func27, Try.ntmps27
  go_wp2_with fail
  refine (HE0.out _ HW.out).mono ?_
  rintro e w1 ⟨v1, rfl, ⟨aA, cA, rfl, rA⟩, hb1'⟩
  have HB1 := hid hb1'
  have f0 : w1.cell? ⟨w.heap.size, 0, none⟩ = some (.int .i64 5) := keep hb1' (by simp [go_sem])
  have f2 : w1.cell? ⟨w.heap.size, 2, none⟩ = some (.slice (some ⟨bb, off, none⟩) 2 c) := keep hb1' (by simp [go_sem])
  have he : w1.heap[w.heap.size + 1]? = some (.cells #[] 39 (0, 0)) := (hb1'.block _ (by simp)).trans (by have h := heap_alloc_new (w.alloc (.cells #[.int .i64 5, .int .i64 0, .slice (some ⟨bb, off, none⟩) 2 c] 25)) (.cells #[] 39); simpa using h)
  have HRA := hid rA
  have HEm := hid he
  have HL1 : Hid (w.heap.size + 1 < w1.heap.size) := Nat.lt_of_lt_of_le (by simp) hb1'.size
  have HBw1 : Hid (Below w.heap.size w w1) := HW.out.trans (hb1'.mono HW.out.size)
  replace j0 := keep hb1' j0
  replace j1 := keep hb1' j1
  replace j2 := keep hb1' j2
  clear hb1' rA he g0 g1 g2
  go_wp2_with fail
  refine (HE1.out _ HBw1.out).mono ?_
  rintro e w2 ⟨v2, rfl, ⟨aB, cB, rfl, rB⟩, hb2'⟩
  have HRB := hid rB
  have HB2 := hid hb2'
  clear hb2' rB j0 j1 j2 f2
  go_wp2_with fail
  refine (const_spec 0 _).mono ?_
  rintro e w3 ⟨rfl, hb3⟩
  have HB3 : Hid (Below w1.heap.size w1 (w3.alloc (.cells #[.int .i64 2, .int .i64 0, .slice none 0 0] 39))) := HB2.out.trans ((hb3.trans (show Below _ w3 (w3.alloc (.cells #[.int .i64 2, .int .i64 0, .slice none 0 0] 39)) from Below.mono (show Below w3.heap.size w3 _ from (by repeat (first | exact Below.refl _ _ | assumption | refine Below.drew ?_ | refine Below.alloc ?_ (by first | exact Nat.le_refl _ | omega | (simp; done) | (simp; omega)) _ | refine Below.setCell ?_ (by first | exact Nat.le_refl _ | omega | (simp; done) | (simp; omega)) _))) hb3.size)).mono HB2.out.size)
  have HB3' : Hid (Below w2.heap.size w2 (w3.alloc (.cells #[.int .i64 2, .int .i64 0, .slice none 0 0] 39))) := hb3.trans (Below.mono (show Below w3.heap.size w3 _ from (by repeat (first | exact Below.refl _ _ | assumption | refine Below.drew ?_ | refine Below.alloc ?_ (by first | exact Nat.le_refl _ | omega | (simp; done) | (simp; omega)) _ | refine Below.setCell ?_ (by first | exact Nat.le_refl _ | omega | (simp; done) | (simp; omega)) _))) hb3.size)
  clear hb3
  go_wp2_with fail
  refine (const_spec 0 _).mono ?_
  rintro e w5 ⟨rfl, hb5⟩
  have HB5 : Hid (Below w1.heap.size w1 (w5.alloc (.cells #[.int .i64 2, .int .i64 0, .slice none 0 0] 39))) := HB3.out.trans ((hb5.trans (Below.mono (show Below w5.heap.size w5 (w5.alloc (.cells #[.int .i64 2, .int .i64 0, .slice none 0 0] 39)) from (by repeat (first | exact Below.refl _ _ | assumption | refine Below.drew ?_ | refine Below.alloc ?_ (by first | exact Nat.le_refl _ | omega | (simp; done) | (simp; omega)) _ | refine Below.setCell ?_ (by first | exact Nat.le_refl _ | omega | (simp; done) | (simp; omega)) _))) hb5.size)).mono HB3.out.size)
  have HB5' : Hid (Below w2.heap.size w2 (w5.alloc (.cells #[.int .i64 2, .int .i64 0, .slice none 0 0] 39))) := HB3'.out.trans ((hb5.trans (Below.mono (show Below w5.heap.size w5 (w5.alloc (.cells #[.int .i64 2, .int .i64 0, .slice none 0 0] 39)) from (by repeat (first | exact Below.refl _ _ | assumption | refine Below.drew ?_ | refine Below.alloc ?_ (by first | exact Nat.le_refl _ | omega | (simp; done) | (simp; omega)) _ | refine Below.setCell ?_ (by first | exact Nat.le_refl _ | omega | (simp; done) | (simp; omega)) _))) hb5.size)).mono HB3'.out.size)
  have hs25 : w2.heap.size ≤ w5.heap.size := Nat.le_trans HB3'.out.size hb5.size
  have hs15 : w.heap.size + 1 < w5.heap.size := Nat.lt_of_lt_of_le HL1.out (Nat.le_trans HB2.out.size hs25)
  replace f0 : (w5.alloc (.cells #[.int .i64 2, .int .i64 0, .slice none 0 0] 39)).cell? ⟨w.heap.size, 0, none⟩ = some (.int .i64 5) := keep HB5.out f0
  have HB6 := hid (HBw1.out.trans (HB5.out.mono HBw1.out.size))
  have HA5 := hid ((rd_old (HRA.out.below HB2.out)).below HB5'.out)
  have HBB5 := hid ((rd_old HRB.out).below HB5'.out)
  have HEm5 := hid ((HB5.out.block _ HL1.out).trans HEm.out)
  clear hb5
  go_wp2_with fail
  refine (less_right D0 RA RB aA aB b cA cB _ (HA5.out.imp fun _ _ => trivial) (HBB5.out.imp fun _ _ => trivial) (fun i _ => HKA.out i) (fun i _ => HKB.out i) (fun i hi => HRA'.out i hi D0) (fun i hi => HRB'.out i hi D0)).mono ?_
  rintro e w6 ⟨aL, lL, cL, rfl, hrL, hb6⟩
  have n0 : w6.cell? ⟨w5.heap.size, 0, none⟩ = some (.int .i64 2) := keep hb6 (cell_new _ _ _ rfl)
  have n1 : w6.cell? ⟨w5.heap.size, 1, none⟩ = some (.int .i64 0) := keep hb6 (cell_new _ _ _ rfl)
  have n2 : w6.cell? ⟨w5.heap.size, 2, none⟩ = some (.slice none 0 0) := keep hb6 (cell_new _ _ _ rfl)
  have f6 := keep hb6 f0
  have z0 : w6.frozen? ⟨w5.heap.size, 0, none⟩ = false := (hb6.frozen (p := ⟨w5.heap.size, 0, none⟩) (by simp)).trans (by simp [go_sem])
  have z1 : w6.frozen? ⟨w5.heap.size, 1, none⟩ = false := (hb6.frozen (p := ⟨w5.heap.size, 1, none⟩) (by simp)).trans (by simp [go_sem])
  have z2 : w6.frozen? ⟨w5.heap.size, 2, none⟩ = false := (hb6.frozen (p := ⟨w5.heap.size, 2, none⟩) (by simp)).trans (by simp [go_sem])
  have hs6 : w5.heap.size < w6.heap.size := World.block_lt_of_cell? _ _ n0
  have HRL : Hid (AllR (lessT RA RB (cT 0) b)) := less_allR HRA'.out HRB'.out b (Nat.le_refl _)
  have HKL : Hid (kd (lessT RA RB (cT 0) b) ≠ 0) := lessT_kind (by decide) b
  have HIT : Hid (∀ i, kid (iteT RA RB b) i = ndT 7 3 (three (lessT RA RB (cT 0) b) (kid RA i) (kid RB i))) := fun i => rfl
  generalize lessT RA RB (cT 0) b = LT at *
  obtain ⟨k0, k1, k2⟩ := set3_cells n0 n1 n2 (.int .i64 (kd LT)) (.int .i64 (nn LT)) (.slice aL lL cL)
  have HB7 : Hid (Below w.heap.size w (((w6.setCell ⟨w5.heap.size, 0, none⟩ (.int .i64 (kd LT))).setCell ⟨w5.heap.size, 1, none⟩ (.int .i64 (nn LT))).setCell ⟨w5.heap.size, 2, none⟩ (.slice aL lL cL))) := below_set3 (HB6.out.trans (hb6.mono HB6.out.size)) (R := w5.heap.size) (by omega) (.int .i64 (kd LT)) (.int .i64 (nn LT)) (.slice aL lL cL)
  have f7 : (((w6.setCell ⟨w5.heap.size, 0, none⟩ (.int .i64 (kd LT))).setCell ⟨w5.heap.size, 1, none⟩ (.int .i64 (nn LT))).setCell ⟨w5.heap.size, 2, none⟩ (.slice aL lL cL)).cell? ⟨w.heap.size, 0, none⟩ = some (.int .i64 5) := (set3_far w6 (R := w5.heap.size) (by omega) _ (.int .i64 (kd LT)) (.int .i64 (nn LT)) (.slice aL lL cL)).trans f6
  have HEm7 : Hid ((((w6.setCell ⟨w5.heap.size, 0, none⟩ (.int .i64 (kd LT))).setCell ⟨w5.heap.size, 1, none⟩ (.int .i64 (nn LT))).setCell ⟨w5.heap.size, 2, none⟩ (.slice aL lL cL)).heap[w.heap.size + 1]? = some (.cells #[] 39 (0, 0))) := ((Below.heap_setCell _ _ _ _ (by dsimp only; omega)).trans ((Below.heap_setCell _ _ _ _ (by dsimp only; omega)).trans (Below.heap_setCell _ _ _ _ (by dsimp only; omega)))).trans ((hb6.block _ (by simp; omega)).trans HEm5.out)
  have HA7 := hid ((rd_set3 (HA5.out.below hb6) (R := w5.heap.size) (by simp; omega) (.int .i64 (kd LT)) (.int .i64 (nn LT)) (.slice aL lL cL)).imp (q' := fun _ => True) fun _ _ => trivial)
  have HBB7 := hid ((rd_set3 (HBB5.out.below hb6) (R := w5.heap.size) (by simp; omega) (.int .i64 (kd LT)) (.int .i64 (nn LT)) (.slice aL lL cL)).imp (q' := fun _ => True) fun _ _ => trivial)
  have HLT7 := hid ((rd_set3 hrL (R := w5.heap.size) (by simp) (.int .i64 (kd LT)) (.int .i64 (nn LT)) (.slice aL lL cL)).imp (q' := fun _ => True) fun _ _ => trivial)
  have HS7 : Hid ((((w6.setCell ⟨w5.heap.size, 0, none⟩ (.int .i64 (kd LT))).setCell ⟨w5.heap.size, 1, none⟩ (.int .i64 (nn LT))).setCell ⟨w5.heap.size, 2, none⟩ (.slice aL lL cL)).heap.size = w6.heap.size) := by show _ = _; simp [World.setCell]
  clear hb6 hrL HB5 HB5' HA5 HBB5 HEm5 HB6 HB3 HB3' HRA HRB HEm HB2 HB1 HE0 HE1 HW HBw1
  go_wp2
  generalize (((w6.setCell ⟨w5.heap.size, 0, none⟩ (.int .i64 (kd LT))).setCell ⟨w5.heap.size, 1, none⟩ (.int .i64 (nn LT))).setCell ⟨w5.heap.size, 2, none⟩ (.slice aL lL cL)) = w7 at *
  clear n0 n1 n2 z0 z1 z2 f0 f6
  generalize w5.heap.size = NL at *
  have HN7 : Hid (w.heap.size + 1 < NL ∧ NL < w7.heap.size) := ⟨hs15, by have := HS7.out; omega⟩
  have K0 := hid k0
  have K1 := hid k1
  have K2 := hid k2
  clear k0 k1 k2
  go_loopw [12, 5] (fun i v wr => ∃ k : Nat, k ≤ b ∧ i = .int .i64 k ∧ Below w.heap.size w wr ∧ wr.cell? ⟨w.heap.size, 0, none⟩ = some (.int .i64 5) ∧ GrowR wr (w.heap.size + 1) (fun _ => True) v k (D0 + 25) (iteT RA RB b) ∧ Rd (inQ (fun _ => True) (w.heap.size + 1) wr v) 1048576 wr (D0 + 1) RA aA b ∧ Rd (inQ (fun _ => True) (w.heap.size + 1) wr v) 1048576 wr (D0 + 1) RB aB b ∧ Rd (inQ (fun _ => True) (w.heap.size + 1) wr v) 1048576 wr (D0 + 24) LT aL lL ∧ (wr.cell? ⟨NL, 0, none⟩ = some (.int .i64 (kd LT)) ∧ wr.cell? ⟨NL, 1, none⟩ = some (.int .i64 (nn LT)) ∧ wr.cell? ⟨NL, 2, none⟩ = some (.slice aL lL cL)) ∧ v.ownBlock ≠ some NL) (fun i _ _ => b - (intOf i).toNat)
  case atStart => exact ⟨0, Nat.zero_le _, rfl, HB7.out, f7, ⟨fun _ => (none, 0, 0), ⟨rfl, .inr ⟨w.heap.size + 1, 0, #[], rfl, Nat.le_refl _, HEm7.out, Nat.le_refl _, Nat.zero_le _, rfl, rfl⟩⟩, fun i hi => by omega⟩, inq_start (B := w.heap.size + 1) (c := 0) HA7.out HEm7.out, inq_start (B := w.heap.size + 1) (c := 0) HBB7.out HEm7.out, inq_start (B := w.heap.size + 1) (c := 0) (HLT7.out.more (by omega)) HEm7.out, ⟨K0.out, K1.out, K2.out⟩, fun e => by injection e with e; dsimp only at e; omega⟩
  case round =>
    clear HA7 HBB7 HB7 f7 HEm7 HLT7 K0 K1 K2 HS7
    obtain ⟨k, hk, rfl, hb, f0, hgr, hA, hB, hLr, ⟨l0, l1, l2⟩, hnb⟩ := hrel
    have HB := hid hb
    have HG := hid hgr
    have HA := hid hA
    have HBB := hid hB
    have HLr := hid hLr
    have HNB := hid hnb
    clear hb hgr hA hB hLr hnb
    by_cases hlt : k < b
    · obtain ⟨⟨av, cv, hv⟩, hown⟩ := HG.out.form
      subst hv
      have HOwn := hid hown
      obtain ⟨-, bA, offA, rfl, hqA, x0', x1', ax, lx, cx, x2', hx⟩ := HA.out.cell hlt
      obtain ⟨-, bB, offB, rfl, hqB, y0', y1', ay, ly, cy, y2', hy⟩ := HBB.out.cell hlt
      have X0 := hid x0'
      have X1 := hid x1'
      have X2 := hid x2'
      have Y0 := hid y0'
      have Y1 := hid y1'
      have Y2 := hid y2'
      have L0 := hid l0
      have L1 := hid l1
      have L2 := hid l2
      have F0 := hid f0
      have hsN : w.heap.size < wr.heap.size := World.block_lt_of_cell? _ _ f0
      have hsL : NL < wr.heap.size := World.block_lt_of_cell? _ _ l0
      have hmA : some bA ≠ (Value.slice av k cv).ownBlock := by
        rcases hqA with hq | hq
        · intro e; have := (HOwn.out bA e.symm).1; omega
        · exact Ne.symm hq.2.2
      have hmB : some bB ≠ (Value.slice av k cv).ownBlock := by
        rcases hqB with hq | hq
        · intro e; have := (HOwn.out bB e.symm).1; omega
        · exact Ne.symm hq.2.2
      have HXn := hid (rd_old hx)
      have HYn := hid (rd_old hy)
      have HLn := hid (HLr.out.imp (q' := fun _ => True) fun _ _ => trivial)
      clear hx hy x0' x1' x2' y0' y1' y2' l0 l1 l2 hown hqA hqB
      go_wp2
      clear f0
      refine region_goes 15 16 (fun w' => w'.cell? ⟨bA, offA + k * 3, none⟩ = some (.int .i64 (kd (kid RA k))) ∧ w'.cell? ⟨bA, offA + k * 3 + 1, none⟩ = some (.int .i64 (nn (kid RA k))) ∧ w'.cell? ⟨bA, offA + k * 3 + 2, none⟩ = some (.slice ax lx cx) ∧ w'.cell? ⟨bB, offB + k * 3, none⟩ = some (.int .i64 (kd (kid RB k))) ∧ w'.cell? ⟨bB, offB + k * 3 + 1, none⟩ = some (.int .i64 (nn (kid RB k))) ∧ w'.cell? ⟨bB, offB + k * 3 + 2, none⟩ = some (.slice ay ly cy) ∧ w'.cell? ⟨NL, 0, none⟩ = some (.int .i64 (kd LT)) ∧ w'.cell? ⟨NL, 1, none⟩ = some (.int .i64 (nn LT)) ∧ w'.cell? ⟨NL, 2, none⟩ = some (.slice aL lL cL)) (by kernel_rfl) (by rfl) ⟨by kernel_rfl, by kernel_rfl, by kernel_rfl, by decide⟩ ⟨X0.out, X1.out, X2.out, Y0.out, Y1.out, Y2.out, L0.out, L1.out, L2.out⟩ (fun hE inv hHeld => ?_)
      refine Goes.take (i := 0) (v := ?vu0) (some 134) hE rfl rfl inv (by kernel_rfl) (by kernel_rfl) (by decide) (fun _ _ _ h => h) (Or.inl ⟨by rfl, ?yu0⟩) (by assumption) (fun inv => ?ru0)
      case yu0 => (intro w' hSw; (try dsimp only at hSw); obtain ⟨s0, s1, s2, s3, s4, s5, s6, s7, s8⟩ := hSw; go_simp; (try with_reducible rfl))
      simp only [Act.put, List.setIfInBounds_toArray, List.set_cons_zero, List.set_cons_succ]
      refine Goes.take (i := 1) (v := ?vu1) (some 135) hE rfl rfl inv (by kernel_rfl) (by kernel_rfl) (by decide) (fun _ _ _ h => h) (Or.inl ⟨by rfl, ?yu1⟩) (by assumption) (fun inv => ?ru1)
      case yu1 => (intro w' hSw; (try dsimp only at hSw); obtain ⟨s0, s1, s2, s3, s4, s5, s6, s7, s8⟩ := hSw; go_simp; (try with_reducible rfl))
      simp only [Act.put, List.setIfInBounds_toArray, List.set_cons_zero, List.set_cons_succ]
      refine Goes.take (i := 3) (v := ?vu2) (some 137) hE rfl rfl inv (by kernel_rfl) (by kernel_rfl) (by decide) (fun _ _ _ h => h) (Or.inl ⟨by rfl, ?yu2⟩) (by assumption) (fun inv => ?ru2)
      case yu2 => (intro w' hSw; (try dsimp only at hSw); obtain ⟨s0, s1, s2, s3, s4, s5, s6, s7, s8⟩ := hSw; go_simp; (try with_reducible rfl))
      simp only [Act.put, List.setIfInBounds_toArray, List.set_cons_zero, List.set_cons_succ]
      refine Goes.take (i := 4) (v := ?vu3) (some 138) hE rfl rfl inv (by kernel_rfl) (by kernel_rfl) (by decide) (fun _ _ _ h => h) (Or.inl ⟨by rfl, ?yu3⟩) (by assumption) (fun inv => ?ru3)
      case yu3 => (intro w' hSw; (try dsimp only at hSw); obtain ⟨s0, s1, s2, s3, s4, s5, s6, s7, s8⟩ := hSw; go_simp; (try with_reducible rfl))
      simp only [Act.put, List.setIfInBounds_toArray, List.set_cons_zero, List.set_cons_succ]
      refine Goes.take (i := 5) (v := ?vu4) (some 139) hE rfl rfl inv (by kernel_rfl) (by kernel_rfl) (by decide) (fun _ _ _ h => h) (Or.inl ⟨by rfl, ?yu4⟩) (by assumption) (fun inv => ?ru4)
      case yu4 => (intro w' hSw; (try dsimp only at hSw); obtain ⟨s0, s1, s2, s3, s4, s5, s6, s7, s8⟩ := hSw; go_simp; (try with_reducible rfl))
      simp only [Act.put, List.setIfInBounds_toArray, List.set_cons_zero, List.set_cons_succ]
      refine Goes.take (i := 6) (v := ?vu5) (some 140) hE rfl rfl inv (by kernel_rfl) (by kernel_rfl) (by decide) (fun _ _ _ h => h) (Or.inl ⟨by rfl, ?yu5⟩) (by assumption) (fun inv => ?ru5)
      case yu5 => (intro w' hSw; (try dsimp only at hSw); obtain ⟨s0, s1, s2, s3, s4, s5, s6, s7, s8⟩ := hSw; go_simp; (try with_reducible rfl))
      simp only [Act.put, List.setIfInBounds_toArray, List.set_cons_zero, List.set_cons_succ]
      refine Goes.take (i := 7) (v := ?vu6) (some 141) hE rfl rfl inv (by kernel_rfl) (by kernel_rfl) (by decide) (fun _ _ _ h => h) (Or.inl ⟨by rfl, ?yu6⟩) (by assumption) (fun inv => ?ru6)
      case yu6 => (intro w' hSw; (try dsimp only at hSw); obtain ⟨s0, s1, s2, s3, s4, s5, s6, s7, s8⟩ := hSw; go_simp; (try with_reducible rfl))
      simp only [Act.put, List.setIfInBounds_toArray, List.set_cons_zero, List.set_cons_succ]
      refine Goes.take (i := 8) (v := ?vu7) (some 142) hE rfl rfl inv (by kernel_rfl) (by kernel_rfl) (by decide) (fun _ _ _ h => h) (Or.inl ⟨by rfl, ?yu7⟩) (by assumption) (fun inv => ?ru7)
      case yu7 => (intro w' hSw; (try dsimp only at hSw); obtain ⟨s0, s1, s2, s3, s4, s5, s6, s7, s8⟩ := hSw; go_simp; (try with_reducible rfl))
      simp only [Act.put, List.setIfInBounds_toArray, List.set_cons_zero, List.set_cons_succ]
      refine Goes.take (i := 9) (v := ?vu8) (some 143) hE rfl rfl inv (by kernel_rfl) (by kernel_rfl) (by decide) (fun _ _ _ h => h) (Or.inl ⟨by rfl, ?yu8⟩) (by assumption) (fun inv => ?ru8)
      case yu8 => (intro w' hSw; (try dsimp only at hSw); obtain ⟨s0, s1, s2, s3, s4, s5, s6, s7, s8⟩ := hSw; go_simp; (try with_reducible rfl))
      simp only [Act.put, List.setIfInBounds_toArray, List.set_cons_zero, List.set_cons_succ]
      refine Goes.take (i := 10) (v := ?vu9) (some 144) hE rfl rfl inv (by kernel_rfl) (by kernel_rfl) (by decide) (fun _ _ _ h => h) (Or.inl ⟨by rfl, ?yu9⟩) (by assumption) (fun inv => ?ru9)
      case yu9 => (intro w' hSw; (try dsimp only at hSw); obtain ⟨s0, s1, s2, s3, s4, s5, s6, s7, s8⟩ := hSw; go_simp; (try with_reducible rfl))
      simp only [Act.put, List.setIfInBounds_toArray, List.set_cons_zero, List.set_cons_succ]
      refine Goes.one (i := 2) inv (by kernel_rfl) (by decide) rfl (fun inv K' hK => ?_)
      go_simp
      refine (copE (D0 + 24) LT aL lL cL _ (HLn.out.below (below_drewN wr 1))).mono ?_
      rintro e w9 ⟨aC, cC, rfl, hb9, hoC⟩
      have HB9 : Hid (Below wr.heap.size wr w9) := (below_drewN wr 1).trans hb9
      have HC9 := hid ((ow_nz hoC (HRL.out (D0 + 24))).imp (q' := Nz (inQ (fun _ => True) (w.heap.size + 1) wr (.slice av k cv)) wr.heap.size w9) fun x hx => .inr ⟨hx.1.1, hx.2⟩)
      clear hb9 hoC
      (try go_wp2_with fail)
      refine hK.out _ _ ⟨keep HB9.out X0.out, keep HB9.out X1.out, keep HB9.out X2.out, keep HB9.out Y0.out, keep HB9.out Y1.out, keep HB9.out Y2.out, keep HB9.out L0.out, keep HB9.out L1.out, keep HB9.out L2.out⟩ (fun hHeld => ?_)
      clear hK K'
      (try simp only [Act.put, List.setIfInBounds_toArray, List.set_cons_zero, List.set_cons_succ])
      have HAR : Hid (Below w9.heap.size w9 (w9.alloc (.cells #[.int .i64 (kd LT), .int .i64 (nn LT), .slice aC lL cC, .int .i64 (kd (kid RA k)), .int .i64 (nn (kid RA k)), .slice ax lx cx, .int .i64 (kd (kid RB k)), .int .i64 (nn (kid RB k)), .slice ay ly cy] 39))) := (by repeat (first | exact Below.refl _ _ | assumption | refine Below.drew ?_ | refine Below.alloc ?_ (by first | exact Nat.le_refl _ | omega | (simp; done) | (simp; omega)) _ | refine Below.setCell ?_ (by first | exact Nat.le_refl _ | omega | (simp; done) | (simp; omega)) _))
      have HB9A := hid (HB9.out.trans (HAR.out.mono HB9.out.size))
      have HR9 := hid (row3 (q := inQ (fun _ => True) (w.heap.size + 1) wr (.slice av k cv)) (B := wr.heap.size) (w := w9) (D := D0 + 24) (cx := cC) (cy := cx) (cz := cy) 7 HB9.out.size HKL.out HC9.out ((nz_base HXn.out HB9.out).more (by omega)) ((nz_base HYn.out HB9.out).more (by omega)))
      refine Goes.one (i := 11) inv (by kernel_rfl) (by decide) rfl (fun inv K' hK => ?_)
      go_simp
      refine hK.out _ _ ⟨keep HB9A.out X0.out, keep HB9A.out X1.out, keep HB9A.out X2.out, keep HB9A.out Y0.out, keep HB9A.out Y1.out, keep HB9A.out Y2.out, keep HB9A.out L0.out, keep HB9A.out L1.out, keep HB9A.out L2.out⟩ (fun hHeld => ?_)
      clear hK K'
      refine Goes.one (i := 12) inv (by kernel_rfl) (by decide) rfl (fun inv K' hK => ?_)
      go_simp
      refine (new_spec 7 _ _ _ _).mono ?_
      rintro e w10 ⟨rfl, hb10⟩
      have HB10 : Hid (Below wr.heap.size wr w10) := HB9A.out.trans (hb10.mono HB9A.out.size)
      have HR10 := hid (nz_below HR9.out hb10)
      have hs910 : w9.heap.size < w10.heap.size := Nat.lt_of_lt_of_le (by simp) hb10.size
      clear hb10
      (try go_wp2_with fail)
      refine hK.out _ _ ⟨keep HB10.out X0.out, keep HB10.out X1.out, keep HB10.out X2.out, keep HB10.out Y0.out, keep HB10.out Y1.out, keep HB10.out Y2.out, keep HB10.out L0.out, keep HB10.out L1.out, keep HB10.out L2.out⟩ (fun hHeld => ?_)
      clear hK K'
      have HA1 : Hid (Below w10.heap.size w10 (w10.alloc (.cells #[.int .i64 7, .int .i64 0, .slice (some ⟨w9.heap.size, 0, none⟩) 3 3] 39))) := (by repeat (first | exact Below.refl _ _ | assumption | refine Below.drew ?_ | refine Below.alloc ?_ (by first | exact Nat.le_refl _ | omega | (simp; done) | (simp; omega)) _ | refine Below.setCell ?_ (by first | exact Nat.le_refl _ | omega | (simp; done) | (simp; omega)) _))
      have HB1A := hid (HB10.out.trans (HA1.out.mono HB10.out.size))
      refine Goes.one (i := 13) inv (by kernel_rfl) (by decide) rfl (fun inv K' hK => ?_)
      go_simp
      refine hK.out _ _ ⟨keep HB1A.out X0.out, keep HB1A.out X1.out, keep HB1A.out X2.out, keep HB1A.out Y0.out, keep HB1A.out Y1.out, keep HB1A.out Y2.out, keep HB1A.out L0.out, keep HB1A.out L1.out, keep HB1A.out L2.out⟩ (fun hHeld => ?_)
      clear hK K'
      have HG1 := hid (HG.out.below HB1A.out)
      obtain ⟨xs, hxs⟩ := HG1.out.owns
      have HX1 := hid hxs
      have hs1 := HB10.out.size
      have hs9 := HB9.out.size
      clear hxs
      refine Goes.one (i := 14) inv (by kernel_rfl) (by decide) rfl (fun inv K' hK => ?_)
      refine step_append_at _ (by rfl) _ _ 32 (by rfl) (some 148) (by rfl) (w.heap.size + 1) 39 i0 _ 3 40 Try.underlying32 HI.out HZ0.out HZ1.out HZ2.out rfl (by decide) (.slice av k cv) k xs (by rfl) HX1.out ⟨w10.heap.size, 0, none⟩ 1 1 [.int .i64 7, .int .i64 0, .slice (some ⟨w9.heap.size, 0, none⟩) 3 3] (by rfl) rfl (three_at (cell_new _ _ _ rfl) (cell_new _ _ _ rfl) (cell_new _ _ _ rfl)) (fun u hu => by simp at hu; rcases hu with rfl | rfl | rfl <;> rfl) (by unfold maxLen; omega) (by omega) (by simp; omega) ?_
      intro v2 w2' hown2 hg2 hat2
      have HR11 : Hid (Rd (inQ (fun _ => True) (w.heap.size + 1) (w10.alloc (.cells #[.int .i64 7, .int .i64 0, .slice (some ⟨w9.heap.size, 0, none⟩) 3 3] 39)) (.slice av k cv)) 1048576 (w10.alloc (.cells #[.int .i64 7, .int .i64 0, .slice (some ⟨w9.heap.size, 0, none⟩) 3 3] 39)) (D0 + 25) (kid (iteT RA RB b) k) (some ⟨w9.heap.size, 0, none⟩) 3) := by
        show Rd _ _ _ _ _ _ _
        rw [HIT.out k]
        exact HR10.out.kept fun x o y hq hy => ⟨keep HA1.out hy, by
          have hlt1 : x < w10.heap.size := World.block_lt_of_cell? _ _ hy
          rcases hq with hq | hq
          · rcases hq.1 with hq | hq
            · exact .inl hq
            · exact .inr ⟨hq.1, by simp; omega, hq.2.2⟩
          · exact .inr ⟨by omega, by simp; omega, fun e => by have := (HOwn.out x e).2; omega⟩⟩
      have HKV : Hid (kd (kid (iteT RA RB b) k) = 7 ∧ nn (kid (iteT RA RB b) k) = 0) := by show _ ∧ _; rw [HIT.out k]; exact ⟨rfl, rfl⟩
      have HG2 : Hid (GrowR w2' (w.heap.size + 1) (fun _ => True) v2 (k + 1) (D0 + 25) (iteT RA RB b)) := HG1.out.next (a' := some ⟨w9.heap.size, 0, none⟩) (l' := 3) (c' := 3) (by simp; omega) HR11.out HX1.out (by rw [HKV.out.1, HKV.out.2]; exact hown2) hg2 hat2
      have HA2 := hid (inq_next (inq_below HA.out HB1A.out) hg2 hat2 (fun g e => (HOwn.out g e).1))
      have HBB2 := hid (inq_next (inq_below HBB.out HB1A.out) hg2 hat2 (fun g e => (HOwn.out g e).1))
      have HLr2 := hid (inq_next (inq_below HLr.out HB1A.out) hg2 hat2 (fun g e => (HOwn.out g e).1))
      have HB2 : Hid (Below w.heap.size w w2') := (HB.out.trans (HB1A.out.mono HB.out.size)).grown hg2 (by simp; omega) (fun j hj => by have := (HOwn.out j hj).1; omega)
      have HF2 : Hid (∀ x o u, some x ≠ (Value.slice av k cv).ownBlock → wr.cell? ⟨x, o, none⟩ = some u → w2'.cell? ⟨x, o, none⟩ = some u) := fun x o u hm hu => World.grownBy.cell hg2 (keep HB1A.out hu) hm
      have hmN : some w.heap.size ≠ (Value.slice av k cv).ownBlock := fun e => by have := (HOwn.out _ e.symm).1; omega
      have hmL : some NL ≠ (Value.slice av k cv).ownBlock := fun e => HNB.out e.symm
      have HNB2 : Hid (v2.ownBlock ≠ some NL) := by
        show _ ≠ _
        rcases hat2 with e | e
        · rw [e]; exact HNB.out
        · rw [e]; intro e'; injection e' with e'; simp at e'; omega
      have f2 := HF2.out _ _ _ hmN F0.out
      clear hown2 hg2 hat2
      refine hK.out _ _ ⟨HF2.out _ _ _ hmA X0.out, HF2.out _ _ _ hmA X1.out, HF2.out _ _ _ hmA X2.out, HF2.out _ _ _ hmB Y0.out, HF2.out _ _ _ hmB Y1.out, HF2.out _ _ _ hmB Y2.out, HF2.out _ _ _ hmL L0.out, HF2.out _ _ _ hmL L1.out, HF2.out _ _ _ hmL L2.out⟩ (fun hHeld => ?_)
      clear hK K'
      simp only [Act.put, List.setIfInBounds_toArray, List.set_cons_zero, List.set_cons_succ]
      refine Goes.last (by kernel_rfl) (by kernel_rfl) rfl (fun K' hK => ?_)
      go_simp
      refine hK.out _ _ ?_
      clear hK K'
      (try simp only [Exit.inBlock, Exit.then])
      go_wp2
      exact ⟨⟨k + 1, by omega, by go_num, HB2.out, f2, HG2.out, HA2.out, HBB2.out, HLr2.out, ⟨HF2.out _ _ _ hmL L0.out, HF2.out _ _ _ hmL L1.out, HF2.out _ _ _ hmL L2.out⟩, HNB2.out⟩, by simp [intOf]; omega⟩
    · have e : k = b := by omega
      subst e
      obtain ⟨a2, c2, e2, hc2, ho2⟩ := HG.out.done rfl (by omega)
      subst e2
      have HO2 := hid ho2
      clear ho2
      go_wp2
      go_ret
      exact ⟨_, rfl, ⟨a2, c2, rfl, HO2.out.imp fun _ _ => trivial⟩, HB.out⟩
end Go.Proofs.Ytikdadpapdkfiaa.bitSpecMin
