/- The specification's row of bits of a constant and of a variable; conditions: none. -/
import Derived.Test.YtikdadpapdkfiaaBitWord
namespace Go.Proofs.Ytikdadpapdkfiaa.bitSpec
open Go.RowKit Go.Deep Go base trees built heldStore drawn ownTree ownEx wordTrees wordSpec lessImpl faceImpl bitRows bitPart bitSteps bitPair bitSum bitSumRow bitWord
set_option linter.unusedVariables false

theorem GrowR.made (w : World) {B : Nat} (Q : Nat → Prop) (D : Nat) (t : T) (hB : B ≤ w.heap.size) : GrowR (w.alloc (.cells #[] 39)) B Q (.slice (some ⟨w.heap.size, 0, none⟩) 0 0) 0 D t :=
  ⟨fun _ => (none, 0, 0), World.ownsRow_made w #[] 0 hB (Nat.zero_le _) rfl, fun i hi => by omega⟩
set_option maxHeartbeats 1600000 in
theorem bits_const (n : Int) (b : Nat) (a : Option Addr) (l c : Nat) (hb2 : b ≤ 6) (hn0 : 0 ≤ n) (hn1 : n < 64) (w : World) : Calls Try.prog 27 #[.agg #[.int .i64 1, .int .i64 n, .slice a l c], .int .i64 (b : Int)] w fun e w' => ∃ v, e = .returned v ∧ RowV w' 1 (constT n b) b v ∧ Below w.heap.size w w' := by
  obtain ⟨i0, hi0, hz0, hz1, hz2⟩ := info_parts info_ex
  have HI := hid hi0
  have HZ0 := hid hz0
  have HZ1 := hid hz1
  have HZ2 := hid hz2
  clear hi0 hz0 hz1 hz2
  have HG0 := hid (GrowR.made (w.alloc (.cells #[.int .i64 1, .int .i64 n, .slice a l c] 25)) (B := w.heap.size + 1) (fun _ => False) 0 (constT n b) (by simp))
  have hz : (w.alloc (.cells #[.int .i64 1, .int .i64 n, .slice a l c] 25)).heap.size = w.heap.size + 1 := by simp
  rw [hz] at HG0
  clear hz
  go_enter Try.func27, Try.ntmps27
  go_wp2
  go_loopw [6, 5] (fun i v wr => ∃ k : Nat, k ≤ b ∧ i = .int .i64 k ∧ Below w.heap.size w wr ∧ wr.cell? ⟨w.heap.size, 1, none⟩ = some (.int .i64 n) ∧ GrowR wr (w.heap.size + 1) (fun _ => False) v k 0 (constT n b)) (fun i _ _ => b - (intOf i).toNat)
  case atStart => exact ⟨0, Nat.zero_le _, rfl, (by repeat (first | exact Below.refl _ _ | assumption | refine Below.drew ?_ | refine Below.alloc ?_ (by first | exact Nat.le_refl _ | omega | (simp; done) | (simp; omega)) _ | refine Below.setCell ?_ (by first | exact Nat.le_refl _ | omega | (simp; done) | (simp; omega)) _)), by simp [go_sem], HG0.out⟩
  case round =>
    clear HG0
    obtain ⟨k, hk, rfl, hb, f1, hgr⟩ := hrel
    have HB := hid hb
    have HG := hid hgr
    have hsN : w.heap.size < wr.heap.size := World.block_lt_of_cell? _ _ f1
    clear hb hgr
    by_cases hlt : k < b
    · have hk6 : k ≤ 5 := by omega
      go_wp2_with fail
      refine (const_spec _ _).mono ?_
      rintro e w1 ⟨rfl, hb1⟩
      have HG1 := hid (HG.out.below hb1)
      have HB1 := hid (HB.out.trans (hb1.mono HB.out.size))
      replace f1 := keep hb1 f1
      have hs1 := hb1.size
      obtain ⟨m, hm⟩ : ∃ m, bits .and .i64 (n / 2 ^ k) 1 = m := ⟨_, rfl⟩
      rw [hm]
      have HM : Hid (cbit n k = m) := hm
      clear hb1 hm
      have HA1 : Hid (Below w1.heap.size w1 (w1.alloc (.cells #[.int .i64 2, .int .i64 m, .slice none 0 0] 39))) := (by repeat (first | exact Below.refl _ _ | assumption | refine Below.drew ?_ | refine Below.alloc ?_ (by first | exact Nat.le_refl _ | omega | (simp; done) | (simp; omega)) _ | refine Below.setCell ?_ (by first | exact Nat.le_refl _ | omega | (simp; done) | (simp; omega)) _))
      obtain ⟨xs, hxs⟩ := (HG1.out.below HA1.out).owns
      have HX1 := hid hxs
      have hsz := HB1.out.size
      clear hxs
      go_wp2_with (at_builtin; (refine wpList_append_own_at _ rfl _ _ 32 rfl (w.heap.size + 1) 39 i0 _ 3 40 Try.underlying32 HI.out HZ0.out HZ1.out HZ2.out rfl (by decide) _ _ _ rfl HX1.out ⟨w1.heap.size, 0, none⟩ 1 1 [.int .i64 2, .int .i64 m, .slice none 0 0] rfl rfl (three_at (by simp [go_sem]) (by simp [go_sem]) (by simp [go_sem])) (fun u hu => by simp at hu; rcases hu with rfl | rfl | rfl <;> rfl) (by unfold maxLen; omega) (by omega) (by simp; omega) ?_); intro v2 w2 hown2 hg2 hnil2 hat2)
      have HG2 := hid ((HG1.out.below HA1.out).next (a' := none) (l' := 0) (c' := 0) (by simp; omega) (rd_leaf _ _ _ rfl _) HX1.out (by
        have e1 : nn (kid (constT n b) k) = m := HM.out
        rw [e1]; exact hown2) hg2 hat2)
      have HB2 : Hid (Below w.heap.size w w2) := (HB1.out.trans (HA1.out.mono HB1.out.size)).grown hg2 (by simp; omega) (fun j hj => by have := (World.ownsRow.lt HX1.out j hj).1; omega)
      have f2 : w2.cell? ⟨w.heap.size, 1, none⟩ = some (.int .i64 n) := (World.grownBy.cell hg2 (keep HA1.out f1) (fun e => by have := (World.ownsRow.lt HX1.out _ e.symm).1; dsimp only at this; omega))
      clear hown2 hg2 hnil2 hat2 f1
      go_wp2
      exact ⟨⟨k + 1, by omega, by go_num, HB2.out, f2, HG2.out⟩, by simp [intOf]; omega⟩
    · have e : k = b := by omega
      subst e
      obtain ⟨a2, c2, e2, hc2, ho2⟩ := HG.out.done rfl (by omega)
      subst e2
      have HO2 := hid ho2
      clear ho2
      go_wp2
      go_ret
      exact ⟨_, rfl, ⟨a2, c2, rfl, HO2.out.imp fun _ _ => trivial⟩, HB.out⟩
end Go.Proofs.Ytikdadpapdkfiaa.bitSpec
