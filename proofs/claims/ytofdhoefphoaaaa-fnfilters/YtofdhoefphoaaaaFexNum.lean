/- The bits of a number as a row of expressions, of the specification; conditions: a number below 64. -/
import Derived.Test.YtofdhoefphoaaaaFexSem
import Derived.Test.YtofdhoefphoaaaaLessSpec
namespace Go.Proofs.Ytofdhoefphoaaaa.fexNum
open Go.RowKit Go.Deep Go base trees built heldStore drawn ownTree ownEx lessImpl bitRows netSem fexSem
set_option linter.unusedVariables false

theorem GrowR.made (w : World) {B : Nat} (Q : Nat → Prop) (D : Nat) (t : T) (hB : B ≤ w.heap.size) : GrowR (w.alloc (.cells #[] 33)) B Q (.slice (some ⟨w.heap.size, 0, none⟩) 0 0) 0 D t :=
  ⟨fun _ => (none, 0, 0), World.ownsRow_made w #[] 0 hB (Nat.zero_le _) rfl, fun i hi => by omega⟩
set_option maxHeartbeats 1600000 in
set_option maxRecDepth 8000 in
theorem number_spec (n : Int) (hn0 : 0 ≤ n) (hn1 : n < 64) (w : World) : Calls Try.prog 47 #[.int .i64 n] w fun e w' => ∃ a c, e = .returned (.slice a 4 c) ∧ Rd (fun b => w.heap.size ≤ b) 1048576 w' 1 (constT n 4) a 4 ∧ Below w.heap.size w w' := by
  obtain ⟨i0, hi0, hz0, hz1, hz2⟩ := info_parts info_ex
  have HI := hid hi0
  have HZ0 := hid hz0
  have HZ1 := hid hz1
  have HZ2 := hid hz2
  clear hi0 hz0 hz1 hz2
  have HG0 := hid (GrowR.made w (B := w.heap.size) (fun _ => False) 0 (constT n 4) (Nat.le_refl _))
  go_enter Try.func47, Try.ntmps47
  go_wp2
  go_loopw [4, 3] (fun i v wr => ∃ k : Nat, k ≤ 4 ∧ i = .int .i64 k ∧ Below w.heap.size w wr ∧ GrowR wr w.heap.size (fun _ => False) v k 0 (constT n 4)) (fun i _ _ => 4 - (intOf i).toNat)
  case atStart => exact ⟨0, Nat.zero_le _, rfl, (by repeat (first | exact Below.refl _ _ | assumption | refine Below.drew ?_ | refine Below.alloc ?_ (by first | exact Nat.le_refl _ | omega | (simp; done) | (simp; omega)) _ | refine Below.setCell ?_ (by first | exact Nat.le_refl _ | omega | (simp; done) | (simp; omega)) _)), HG0.out⟩
  case round =>
    clear HG0
    obtain ⟨k, hk, rfl, hb, hgr⟩ := hrel
    have HB := hid hb
    have HG := hid hgr
    clear hb hgr
    by_cases hlt : k < 4
    · have hk6 : k ≤ 5 := by omega
      have dk : decide ((k : Int) < 4) = true := decide_eq_true (by omega)
      go_wp2_with fail
      refine (const_spec _ _).mono ?_
      rintro e w1 ⟨rfl, hb1⟩
      have HG1 := hid (HG.out.below hb1)
      have HB1 := hid (HB.out.trans (hb1.mono HB.out.size))
      have hs1 := hb1.size
      obtain ⟨m, hm⟩ : ∃ m, bits .and .i64 (n / 2 ^ k) 1 = m := ⟨_, rfl⟩
      rw [hm]
      have HM : Hid (cbit n k = m) := hm
      clear hb1 hm
      have HA1 : Hid (Below w1.heap.size w1 (w1.alloc (.cells #[.int .i64 2, .int .i64 m, .slice none 0 0] 33))) := (by repeat (first | exact Below.refl _ _ | assumption | refine Below.drew ?_ | refine Below.alloc ?_ (by first | exact Nat.le_refl _ | omega | (simp; done) | (simp; omega)) _ | refine Below.setCell ?_ (by first | exact Nat.le_refl _ | omega | (simp; done) | (simp; omega)) _))
      obtain ⟨xs, hxs⟩ := (HG1.out.below HA1.out).owns
      have HX1 := hid hxs
      have hsz := HB1.out.size
      clear hxs
      go_wp2_with (at_builtin; (refine wpList_append_own_at _ rfl _ _ 31 rfl w.heap.size 33 i0 _ 3 40 Try.underlying31 HI.out HZ0.out HZ1.out HZ2.out rfl (by decide) _ _ _ rfl HX1.out ⟨w1.heap.size, 0, none⟩ 1 1 [.int .i64 2, .int .i64 m, .slice none 0 0] rfl rfl (three_at (by simp [go_sem]) (by simp [go_sem]) (by simp [go_sem])) (fun u hu => by simp at hu; rcases hu with rfl | rfl | rfl <;> rfl) (by unfold maxLen; omega) (by omega) (by simp; omega) ?_); intro v2 w2 hown2 hg2 hnil2 hat2)
      have HG2 := hid ((HG1.out.below HA1.out).next (a' := none) (l' := 0) (c' := 0) (by simp; omega) (rd_leaf _ _ _ rfl _) HX1.out (by
        have e1 : nn (kid (constT n 4) k) = m := HM.out
        rw [e1]; exact hown2) hg2 hat2)
      have HB2 : Hid (Below w.heap.size w w2) := (HB1.out.trans (HA1.out.mono HB1.out.size)).grown hg2 (by simp; omega) (fun j hj => by have := (World.ownsRow.lt HX1.out j hj).1; omega)
      clear hown2 hg2 hnil2 hat2
      go_wp2
      exact ⟨⟨k + 1, by omega, by go_num, HB2.out, HG2.out⟩, by simp [intOf]; omega⟩
    · have e4 : k = 4 := by omega
      obtain ⟨a2, c2, e2, hc2, ho2⟩ := HG.out.done (show ln (constT n 4) = k by rw [e4]; rfl) (by omega)
      subst e2
      have HO2 : Hid (Rd (fun b => w.heap.size ≤ b) 1048576 wr 1 (constT n 4) a2 4) := by
        have := ho2.imp (q' := fun b => w.heap.size ≤ b) fun b hb => by rcases hb with hb | hb; exact absurd hb.1 id; exact hb
        rw [e4] at this
        exact this
      subst e4
      clear ho2
      go_wp2
      go_ret
      exact ⟨a2, c2, rfl, HO2.out, HB.out⟩
theorem bit_01 (n : Int) (h0 : 0 ≤ n) (h1 : n < 64) (k : Nat) (hk : k < 4) : right 0 (kid (constT n 4) k) = true := by
  have h : ∀ (m : Fin 64) (j : Fin 4), right 0 (cT (cbit (m.val : Int) j.val)) = true := by decide +kernel
  have := h ⟨n.toNat, by omega⟩ ⟨k, hk⟩
  simp only [] at this
  rw [show ((n.toNat : Nat) : Int) = n by omega] at this
  exact this
theorem port_01 (k : Nat) (hk : k < 4) : right 0 (kid portT k) = true := by
  have h : ∀ (j : Fin 4), right 0 (vT ((0 * 4 + j.val : Nat) : Int)) = true := by decide +kernel
  exact h ⟨k, hk⟩
end Go.Proofs.Ytofdhoefphoaaaa.fexNum
