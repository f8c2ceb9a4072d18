/- ownEx of the program: a copy of an expression each of whose rows lies in a block of its own; conditions: none. -/
import Derived.Test.YtofdhoefphoaaaaOwnTree
import Derived.Test.YtofdhoefphoaaaaBuilt
import Derived.OwnWalk
namespace Go.Proofs.Ytofdhoefphoaaaa.ownEx
open Go.RowKit Go.Deep Go base trees built heldStore drawn ownTree
set_option linter.unusedVariables false

theorem info_ex : (Try.prog.info? 33).map (fun i => (i.zero, i.size, i.bytes)) = some (some (.agg #[.int .i64 0, .int .i64 0, .slice none 0 0]), 3, 40) := by kernel_rfl
theorem three_at {w : World} {g : Nat} {x y z : Value} (h0 : w.cell? ⟨g, 0, none⟩ = some x) (h1 : w.cell? ⟨g, 1, none⟩ = some y) (h2 : w.cell? ⟨g, 2, none⟩ = some z) : ∀ (j : Nat) (u : Value), [x, y, z][j]? = some u → w.cell? ((⟨g, 0, none⟩ : Addr).add j) = some u := by
  intro j u h
  match j, h with
  | 0, h => cases h; simpa [Addr.add] using h0
  | 1, h => cases h; simpa [Addr.add] using h1
  | 2, h => cases h; simpa [Addr.add] using h2
  | _ + 3, h => simp at h
def OwnE (d : Nat) : Prop := ∀ (t : T) (a : Option Addr) (l c : Nat) (w : World), Rd (fun _ => True) 1048576 w d t a l →
    Calls Try.prog 39 #[.agg #[.int .i64 (kd t), .int .i64 (nn t), .slice a l c]] w fun e w' => ∃ a' c', e = .returned (.agg #[.int .i64 (kd t), .int .i64 (nn t), .slice a' l c']) ∧ Below w.heap.size w w' ∧ Ow w' d t a' l (fun b => w.heap.size ≤ b ∧ b < w'.heap.size)
def EachS (d : Nat) : Prop := ∀ (t : T) (a : Option Addr) (l c : Nat) (w : World), Rd (fun _ => True) 1048576 w d t a l →
    Calls Try.prog 66 #[.slice a l c, .func (.func 39) #[] #[]] w fun e w' => ∃ a' c', e = .returned (.slice a' l c') ∧ Below w.heap.size w w' ∧ Ow w' d t a' l (fun b => w.heap.size ≤ b ∧ b < w'.heap.size)

set_option maxHeartbeats 1600000 in
theorem each_of (d : Nat) (h : 0 < d → OwnE (d - 1)) : EachS d := by
  intro t a l c w hr
  have hmost := hr.most
  have HR := hid hr
  have HL := hid hr.len
  have HZ := hid hr.zero
  have HH := hid h
  clear hr h
  obtain ⟨i0, hi0, hz0, hz1, hz2⟩ := info_parts info_ex
  have HI := hid hi0
  have HZ0 := hid hz0
  have HZ1 := hid hz1
  have HZ2 := hid hz2
  clear hi0 hz0 hz1 hz2
  go_enter Try.func66, Try.ntmps66
  go_wp2
  go_loopw [10, 5] (fun i v wr => ∃ k : Nat, k ≤ l ∧ i = .int .i64 k ∧ Below w.heap.size w wr ∧ Grow wr w.heap.size v k d t) (fun i _ _ => l - (intOf i).toNat)
  case atStart => exact ⟨0, Nat.zero_le _, rfl, Below.refl _ _, Grow.nil _ _ _ _⟩
  case round =>
    obtain ⟨k, hk, rfl, hb, hgr⟩ := hrel
    have HB := hid hb
    have HG := hid hgr
    clear hb hgr
    by_cases hlt : k < l
    · obtain ⟨hd0, b, off, rfl, -, hc0, hc1, a', l', c', hc2, hrow⟩ := HR.out.cell hlt
      replace hc0 := keep HB.out hc0
      replace hc1 := keep HB.out hc1
      replace hc2 := keep HB.out hc2
      have HX := hid (hrow.below HB.out)
      clear hrow
      go_wp2_with fail
      refine (HH.out hd0 (kid t k) a' l' c' _ (HX.out.below (by repeat (first | exact Below.refl _ _ | assumption | refine Below.drew ?_ | refine Below.alloc ?_ (by first | exact Nat.le_refl _ | omega | (simp; done) | (simp; omega)) _ | refine Below.setCell ?_ (by first | exact Nat.le_refl _ | omega | (simp; done) | (simp; omega)) _)))).mono ?_
      rintro e w1 ⟨a1, c1, rfl, hb1, ho1⟩
      have HB1 := hid ((show Below wr.heap.size wr _ from (by repeat (first | exact Below.refl _ _ | assumption | refine Below.drew ?_ | refine Below.alloc ?_ (by first | exact Nat.le_refl _ | omega | (simp; done) | (simp; omega)) _ | refine Below.setCell ?_ (by first | exact Nat.le_refl _ | omega | (simp; done) | (simp; omega)) _))).trans (hb1.mono (by simp)))
      have HW1 := hid hb1
      have HO1 := hid ho1
      have HGW := hid (HG.out.below (show Below wr.heap.size wr (wr.alloc (.cells #[.int .i64 (kd (kid t k)), .int .i64 (nn (kid t k)), .slice a' l' c'] 33)) from (by repeat (first | exact Below.refl _ _ | assumption | refine Below.drew ?_ | refine Below.alloc ?_ (by first | exact Nat.le_refl _ | omega | (simp; done) | (simp; omega)) _ | refine Below.setCell ?_ (by first | exact Nat.le_refl _ | omega | (simp; done) | (simp; omega)) _))))
      have HA1 : Hid (Below w1.heap.size w1 (w1.alloc (.cells #[.int .i64 (kd (kid t k)), .int .i64 (nn (kid t k)), .slice a1 l' c1] 33))) := (by repeat (first | exact Below.refl _ _ | assumption | refine Below.drew ?_ | refine Below.alloc ?_ (by first | exact Nat.le_refl _ | omega | (simp; done) | (simp; omega)) _ | refine Below.setCell ?_ (by first | exact Nat.le_refl _ | omega | (simp; done) | (simp; omega)) _))
      obtain ⟨xs, hxs⟩ := ((HGW.out.below hb1).below HA1.out).owns
      have HX1 := hid hxs
      have hsz : w.heap.size ≤ w1.heap.size := Nat.le_trans HB.out.size HB1.out.size
      clear hb1 ho1 hxs
      go_wp2_with (at_builtin; (refine wpList_append_own_at _ rfl _ _ 31 rfl w.heap.size 33 i0 _ 3 40 Try.underlying31 HI.out HZ0.out HZ1.out HZ2.out rfl (by decide) _ _ _ rfl HX1.out ⟨w1.heap.size, 0, none⟩ 1 1 [.int .i64 (kd (kid t k)), .int .i64 (nn (kid t k)), .slice a1 l' c1] rfl rfl (three_at (by simp [go_sem]) (by simp [go_sem]) (by simp [go_sem])) (fun u hu => by simp at hu; rcases hu with rfl | rfl | rfl <;> rfl) (by unfold maxLen; omega) (by omega) (by simp; omega) ?_); intro v2 w2 hown2 hg2 hnil2 hat2)
      have HG2 := hid (HGW.out.next (W := wr.alloc _) (w1 := w1.alloc _) (by simp; exact Nat.le_succ_of_le HB.out.size) (HW1.out.trans (HA1.out.mono HW1.out.size)) ((HO1.out.below HA1.out).sub fun b hb => ⟨hb.1, by simp; omega⟩) HX1.out hown2 hg2 hat2)
      have HB2 : Hid (Below w.heap.size w w2) := (HB.out.trans ((HB1.out.trans (HA1.out.mono HB1.out.size)).mono HB.out.size)).grown hg2 (by simp; omega) (fun j hj => (World.ownsRow.lt HX1.out j hj).1)
      clear hown2 hg2 hnil2 hat2
      go_wp2
      exact ⟨⟨k + 1, by omega, by go_num, HB2.out, HG2.out⟩, by simp [intOf]; omega⟩
    · have e : k = l := by omega
      subst e
      obtain ⟨a2, c2, e2, ho2⟩ := HG.out.done HL.out HZ.out hmost
      subst e2
      have HO2 := hid ho2
      clear ho2
      go_wp2
      go_ret
      exact ⟨a2, c2, rfl, HB.out, HO2.out⟩
end Go.Proofs.Ytofdhoefphoaaaa.ownEx
