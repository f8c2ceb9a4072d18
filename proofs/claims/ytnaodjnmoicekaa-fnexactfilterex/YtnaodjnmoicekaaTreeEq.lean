/- Trees of expressions compared, where both are one; conditions: none. -/
import Derived.Test.YtnaodjnmoicekaaTreeCopy
namespace Go.Proofs.Ytnaodjnmoicekaa.treeEq
open Go.RowKit Go.Deep base trees
set_option linter.unusedVariables false

def EqS (d : Nat) : Prop := ∀ (t : T) (a a' : Option Addr) (l c c' : Nat) (w : World), Rd (fun _ => True) maxLen w d t a l → Rd (fun _ => True) maxLen w d t a' l →
    Calls Try.prog 36 #[.slice a l c, .slice a' l c'] w fun e w' => e = .returned (.bool true) ∧ Below w.heap.size w w'
def EqE (d : Nat) : Prop := ∀ (k n : Int) (t : T) (a a' : Option Addr) (l c c' : Nat) (w : World), Rd (fun _ => True) maxLen w d t a l → Rd (fun _ => True) maxLen w d t a' l →
    Calls Try.prog 9 #[.agg #[.int .i64 k, .int .i64 n, .slice a l c], .agg #[.int .i64 k, .int .i64 n, .slice a' l c']] w fun e w' => e = .returned (.bool true) ∧ Below w.heap.size w w'

set_option maxHeartbeats 400000 in
theorem eqE_of (d : Nat) (h : EqS d) : EqE d := by
  intro k n t a a' l c c' w hr hr'
  have HS := hid h
  have HR := hid hr
  have HR' := hid hr'
  clear h hr hr'
  have hk : (k != k) = false := by simp
  have hn : (n != n) = false := by simp
  go_enter Try.func9, Try.ntmps9
  go_wp2_with fail
  refine (HS.out t a a' l c c' _ (HR.out.below (by repeat (first | exact Below.refl _ _ | assumption | refine Below.drew ?_ | refine Below.alloc ?_ (by first | exact Nat.le_refl _ | omega | (simp; done) | (simp; omega)) _ | refine Below.setCell ?_ (by first | exact Nat.le_refl _ | omega | (simp; done) | (simp; omega)) _))) (HR'.out.below (by repeat (first | exact Below.refl _ _ | assumption | refine Below.drew ?_ | refine Below.alloc ?_ (by first | exact Nat.le_refl _ | omega | (simp; done) | (simp; omega)) _ | refine Below.setCell ?_ (by first | exact Nat.le_refl _ | omega | (simp; done) | (simp; omega)) _)))).mono ?_
  rintro e w1 ⟨rfl, hb1⟩
  have HB := hid ((show Below w.heap.size w _ from (by repeat (first | exact Below.refl _ _ | assumption | refine Below.drew ?_ | refine Below.alloc ?_ (by first | exact Nat.le_refl _ | omega | (simp; done) | (simp; omega)) _ | refine Below.setCell ?_ (by first | exact Nat.le_refl _ | omega | (simp; done) | (simp; omega)) _))).trans (hb1.mono (by simp; omega)))
  clear hb1
  go_wp2
  go_ret
  exact ⟨rfl, HB.out⟩

set_option maxHeartbeats 1600000 in
set_option maxRecDepth 8000 in
theorem eqS (d : Nat) : EqS d := by
  induction d using Nat.strongRecOn with
  | _ d ih =>
  intro t a a' l c c' w hr hr'
  have hmost := hr.most
  unfold maxLen at hmost
  have HR := hid hr
  have HR' := hid hr'
  have HI := hid ih
  clear hr hr' ih
  have hb : ((l : Int) != (l : Int)) = false := by simp
  go_enter Try.func36, Try.ntmps36
  go_wp2
  go_loopw [5] (fun i wr => ∃ k : Nat, k ≤ l ∧ i = .int .i64 k ∧ Below w.heap.size w wr) (fun i _ => l - (intOf i).toNat)
  case atStart => exact ⟨0, Nat.zero_le _, rfl, Below.refl _ _⟩
  case round =>
    obtain ⟨k, hk, rfl, hbel⟩ := hrel
    have HB := hid hbel
    by_cases hlt : k < l
    · obtain ⟨hd0, b, off, rfl, -, hd, he, x, m, s, hc, hx⟩ := HR.out.cell hlt
      obtain ⟨-, b', off', rfl, -, hd', he', x', m', s', hc', hx'⟩ := HR'.out.cell hlt
      obtain rfl : m = m' := hx.len.symm.trans hx'.len
      replace hd := keep hbel hd
      replace he := keep hbel he
      replace hc := keep hbel hc
      replace hd' := keep hbel hd'
      replace he' := keep hbel he'
      replace hc' := keep hbel hc'
      have HX := hid (hx.below hbel)
      have HX' := hid (hx'.below hbel)
      have HE := hid (eqE_of _ (HI.out (d - 1) (by omega)))
      clear hx hx' hbel
      generalize kd (kid t k) = kk at *
      generalize nn (kid t k) = nk at *
      go_wp2_with fail
      have HK : Hid (∀ w8 : World, Below wr.heap.size wr w8 → w8.cell? ⟨b, off + k * 3, none⟩ = some (.int .i64 kk) ∧ w8.cell? ⟨b, off + k * 3 + 1, none⟩ = some (.int .i64 nk) ∧ w8.cell? ⟨b, off + k * 3 + 2, none⟩ = some (.slice x m s) ∧ w8.cell? ⟨b', off' + k * 3, none⟩ = some (.int .i64 kk) ∧ w8.cell? ⟨b', off' + k * 3 + 1, none⟩ = some (.int .i64 nk) ∧ w8.cell? ⟨b', off' + k * 3 + 2, none⟩ = some (.slice x' m s') ∧ Below wr.heap.size wr w8) :=
        fun w8 h => ⟨keep h hd, keep h he, keep h hc, keep h hd', keep h he', keep h hc', h⟩
      clear hd he hc hd' he' hc'
      go_region_held3 (fun w8 => w8.cell? ⟨b, off + k * 3, none⟩ = some (.int .i64 kk) ∧ w8.cell? ⟨b, off + k * 3 + 1, none⟩ = some (.int .i64 nk) ∧ w8.cell? ⟨b, off + k * 3 + 2, none⟩ = some (.slice x m s) ∧ w8.cell? ⟨b', off' + k * 3, none⟩ = some (.int .i64 kk) ∧ w8.cell? ⟨b', off' + k * 3 + 1, none⟩ = some (.int .i64 nk) ∧ w8.cell? ⟨b', off' + k * 3 + 2, none⟩ = some (.slice x' m s') ∧ Below wr.heap.size wr w8)
        (refine HK.out _ (by first | assumption | exact (Below.refl _ wr).drew | exact hb57))
        ((go_at_call 9; refine (HE.out kk nk (kid t k) _ _ _ _ _ _ (HX.out.below (Below.refl _ wr).drew) (HX'.out.below (Below.refl _ wr).drew)).mono ?_; rintro e w7 ⟨rfl, hb7⟩; have hb57 : Below wr.heap.size wr w7 := ((Below.refl _ wr).drew).trans hb7; clear hb7))
      all_goals
        have HB5 := hid hb57
        clear hb57
        go_wp2
        go_roundw
        case rel => exact ⟨k + 1, by omega, by go_num, HB.out.trans (HB5.out.mono HB.out.size)⟩
        case measure => simp [intOf]; omega
    · have e : k = l := by omega
      subst e
      clear hbel
      go_wp2
      go_ret
      exact ⟨rfl, HB.out⟩
end Go.Proofs.Ytnaodjnmoicekaa.treeEq
