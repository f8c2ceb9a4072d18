/- AtMostEx of the program: for all rows of expressions that lie in memory and all numbers; conditions: none. -/
import Derived.Test.YtacamkdcofppcaaAtMostI
import Derived.Test.YtacamkdcofppcaaFaceImpl
namespace Go.Proofs.Ytacamkdcofppcaa.atFace
open Go.RowKit Go.Deep Go base trees built heldStore drawn ownTree ownEx ownExE rowsImpl treeImpl atMost
set_option linter.unusedVariables false

/-- The code ahead of the expression, the code, and the expression. -/
def amP (d : Nat) (X : T) (l : Nat) (k : Int) : Int := if 4096 < l then 2 else if 6 < l ∨ k < -1 ∨ 6 < k then 5 else if allOk d X l = false then 1 else 0
def amC (d : Nat) (X : T) (l : Nat) (k : Int) : Int := if amP d X l k ≠ 0 then amP d X l k else ansC (okB (d + l) (amT l X k) 1 0)
def amAns (d : Nat) (X : T) (l : Nat) (k : Int) : T := if amP d X l k ≠ 0 then zT else ansT (okB (d + l) (amT l X k) 1 0) (amT l X k)
theorem allOk_right {d l : Nat} {t : T} (h : allOk d t l = true) : ∀ i, i < l → right d (kid t i) = true := fun i hi => (okB_iff.1 (allTo_true h hi)).2.2

set_option maxHeartbeats 1600000 in
theorem am_impl (d : Nat) (X : T) (a : Option Addr) (l c : Nat) (k : Int) (w : World) (hr : Rd (fun _ => True) 1048576 w (d + 1) X a l) (hlc : l ≤ c) :
    Calls Try.prog 9 #[.int .i64 k, .slice a l c] w fun e w' => ∃ a' l' c', e = .returned (.tuple #[.agg #[.int .i64 (kd (amAns d X l k)), .int .i64 (nn (amAns d X l k)), .slice a' l' c'], .int .i64 (amC d X l k)]) ∧ Below w.heap.size w w' ∧ Ow w' (d + l) (amAns d X l k) a' l' (fun b => w.heap.size ≤ b ∧ b < w'.heap.size) := by
  have hmost := hr.most
  have HR := hid hr
  clear hr
  by_cases h1 : 4096 < l
  ·
    have hp : amP d X l k = 2 := by unfold amP; rw [if_pos h1]
    have e1 : amC d X l k = 2 := by unfold amC; rw [hp]; rfl
    have e2 : amAns d X l k = zT := by unfold amAns; rw [hp]; rfl
    clear hp
    rw [e1, e2]
    clear e1 e2
    go_enter Try.func9, Try.ntmps9
    go_wp2
    first
      | exact bodyPost_ret (v := .tuple #[.agg #[.int .i64 0, .int .i64 0, .slice none 0 0], .int .i64 2]) (by simp [results, Try.results9, go_sem]) rfl ⟨none, 0, 0, rfl, (by repeat (first | exact Below.refl _ _ | assumption | refine Below.drew ?_ | refine Below.alloc ?_ (by first | exact Nat.le_refl _ | omega | (simp; done) | (simp; omega)) _ | refine Below.setCell ?_ (by first | exact Nat.le_refl _ | omega | (simp; done) | (simp; omega)) _)), Ow.none _ _ rfl _ _⟩
      | exact bodyPost_ret (v := .tuple #[.agg #[.int .i64 0, .int .i64 0, .slice none 0 0], .int .i64 2]) (by simp [results, Try.results9, go_sem]) rfl ⟨none, 0, ⟨0, rfl⟩, (by repeat (first | exact Below.refl _ _ | assumption | refine Below.drew ?_ | refine Below.alloc ?_ (by first | exact Nat.le_refl _ | omega | (simp; done) | (simp; omega)) _ | refine Below.setCell ?_ (by first | exact Nat.le_refl _ | omega | (simp; done) | (simp; omega)) _)), Ow.none _ _ rfl _ _⟩
  by_cases h2 : 6 < l
  ·
    have hp : amP d X l k = 5 := by unfold amP; rw [if_neg h1, if_pos (.inl h2)]
    have e1 : amC d X l k = 5 := by unfold amC; rw [hp]; rfl
    have e2 : amAns d X l k = zT := by unfold amAns; rw [hp]; rfl
    clear hp
    rw [e1, e2]
    clear e1 e2
    go_enter Try.func9, Try.ntmps9
    go_wp2
    first
      | exact bodyPost_ret (v := .tuple #[.agg #[.int .i64 0, .int .i64 0, .slice none 0 0], .int .i64 5]) (by simp [results, Try.results9, go_sem]) rfl ⟨none, 0, 0, rfl, (by repeat (first | exact Below.refl _ _ | assumption | refine Below.drew ?_ | refine Below.alloc ?_ (by first | exact Nat.le_refl _ | omega | (simp; done) | (simp; omega)) _ | refine Below.setCell ?_ (by first | exact Nat.le_refl _ | omega | (simp; done) | (simp; omega)) _)), Ow.none _ _ rfl _ _⟩
      | exact bodyPost_ret (v := .tuple #[.agg #[.int .i64 0, .int .i64 0, .slice none 0 0], .int .i64 5]) (by simp [results, Try.results9, go_sem]) rfl ⟨none, 0, ⟨0, rfl⟩, (by repeat (first | exact Below.refl _ _ | assumption | refine Below.drew ?_ | refine Below.alloc ?_ (by first | exact Nat.le_refl _ | omega | (simp; done) | (simp; omega)) _ | refine Below.setCell ?_ (by first | exact Nat.le_refl _ | omega | (simp; done) | (simp; omega)) _)), Ow.none _ _ rfl _ _⟩
  by_cases h3 : k < -1
  ·
    have hp : amP d X l k = 5 := by unfold amP; rw [if_neg h1, if_pos (.inr (.inl h3))]
    have e1 : amC d X l k = 5 := by unfold amC; rw [hp]; rfl
    have e2 : amAns d X l k = zT := by unfold amAns; rw [hp]; rfl
    clear hp
    have d3 : decide (k < -1) = true := decide_eq_true h3
    rw [e1, e2]
    clear e1 e2
    go_enter Try.func9, Try.ntmps9
    go_wp2
    first
      | exact bodyPost_ret (v := .tuple #[.agg #[.int .i64 0, .int .i64 0, .slice none 0 0], .int .i64 5]) (by simp [results, Try.results9, go_sem]) rfl ⟨none, 0, 0, rfl, (by repeat (first | exact Below.refl _ _ | assumption | refine Below.drew ?_ | refine Below.alloc ?_ (by first | exact Nat.le_refl _ | omega | (simp; done) | (simp; omega)) _ | refine Below.setCell ?_ (by first | exact Nat.le_refl _ | omega | (simp; done) | (simp; omega)) _)), Ow.none _ _ rfl _ _⟩
      | exact bodyPost_ret (v := .tuple #[.agg #[.int .i64 0, .int .i64 0, .slice none 0 0], .int .i64 5]) (by simp [results, Try.results9, go_sem]) rfl ⟨none, 0, ⟨0, rfl⟩, (by repeat (first | exact Below.refl _ _ | assumption | refine Below.drew ?_ | refine Below.alloc ?_ (by first | exact Nat.le_refl _ | omega | (simp; done) | (simp; omega)) _ | refine Below.setCell ?_ (by first | exact Nat.le_refl _ | omega | (simp; done) | (simp; omega)) _)), Ow.none _ _ rfl _ _⟩
  by_cases h4 : 6 < k
  ·
    have hp : amP d X l k = 5 := by unfold amP; rw [if_neg h1, if_pos (.inr (.inr h4))]
    have e1 : amC d X l k = 5 := by unfold amC; rw [hp]; rfl
    have e2 : amAns d X l k = zT := by unfold amAns; rw [hp]; rfl
    clear hp
    have d3 : decide (k < -1) = false := decide_eq_false h3
    have d4 : decide (6 < k) = true := decide_eq_true h4
    rw [e1, e2]
    clear e1 e2
    go_enter Try.func9, Try.ntmps9
    go_wp2
    first
      | exact bodyPost_ret (v := .tuple #[.agg #[.int .i64 0, .int .i64 0, .slice none 0 0], .int .i64 5]) (by simp [results, Try.results9, go_sem]) rfl ⟨none, 0, 0, rfl, (by repeat (first | exact Below.refl _ _ | assumption | refine Below.drew ?_ | refine Below.alloc ?_ (by first | exact Nat.le_refl _ | omega | (simp; done) | (simp; omega)) _ | refine Below.setCell ?_ (by first | exact Nat.le_refl _ | omega | (simp; done) | (simp; omega)) _)), Ow.none _ _ rfl _ _⟩
      | exact bodyPost_ret (v := .tuple #[.agg #[.int .i64 0, .int .i64 0, .slice none 0 0], .int .i64 5]) (by simp [results, Try.results9, go_sem]) rfl ⟨none, 0, ⟨0, rfl⟩, (by repeat (first | exact Below.refl _ _ | assumption | refine Below.drew ?_ | refine Below.alloc ?_ (by first | exact Nat.le_refl _ | omega | (simp; done) | (simp; omega)) _ | refine Below.setCell ?_ (by first | exact Nat.le_refl _ | omega | (simp; done) | (simp; omega)) _)), Ow.none _ _ rfl _ _⟩
  cases oA : allOk d X l with
  | false =>
    have hp : amP d X l k = 1 := by unfold amP; rw [if_neg h1, if_neg (by omega), if_pos oA]
    have e1 : amC d X l k = 1 := by unfold amC; rw [hp]; rfl
    have e2 : amAns d X l k = zT := by unfold amAns; rw [hp]; rfl
    clear hp
    have d3 : decide (k < -1) = false := decide_eq_false h3
    have d4 : decide (6 < k) = false := decide_eq_false h4
    rw [e1, e2]
    clear e1 e2
    go_enter Try.func9, Try.ntmps9
    go_wp2_with fail
    refine (all_impl d X a l c _ (HR.out.below (by repeat (first | exact Below.refl _ _ | assumption | refine Below.drew ?_ | refine Below.alloc ?_ (by first | exact Nat.le_refl _ | omega | (simp; done) | (simp; omega)) _ | refine Below.setCell ?_ (by first | exact Nat.le_refl _ | omega | (simp; done) | (simp; omega)) _)))).mono ?_
    rintro e w1 ⟨rfl, hb1⟩
    have z0 : w1.cell? ⟨w.heap.size, 0, none⟩ = some (.int .i64 0) := keep hb1 (by simp [go_sem])
    have z1 : w1.cell? ⟨w.heap.size, 1, none⟩ = some (.int .i64 0) := keep hb1 (by simp [go_sem])
    have z2 : w1.cell? ⟨w.heap.size, 2, none⟩ = some (.slice none 0 0) := keep hb1 (by simp [go_sem])
    have y0 : ∀ x, w1.frozen? ⟨w.heap.size, x, none⟩ = false := fun x => (hb1.frozen (p := ⟨w.heap.size, x, none⟩) (by simp)).trans (by simp [go_sem])
    have HB1 := hid ((show Below w.heap.size w _ from (by repeat (first | exact Below.refl _ _ | assumption | refine Below.drew ?_ | refine Below.alloc ?_ (by first | exact Nat.le_refl _ | omega | (simp; done) | (simp; omega)) _ | refine Below.setCell ?_ (by first | exact Nat.le_refl _ | omega | (simp; done) | (simp; omega)) _))).trans (hb1.mono (by simp)))
    have hs1 : w.heap.size < w1.heap.size := World.block_lt_of_cell? _ _ z0
    clear hb1
    have g0 := y0 0
    have g1 := y0 1
    have g2 := y0 2
    rw [oA]
    have HB3 := hid (below_set3 HB1.out (R := w.heap.size) (Nat.le_refl _) (.int .i64 0) (.int .i64 0) (.slice none 0 0))
    go_wp2
    refine bodyPost_ret (v := .tuple #[.agg #[.int .i64 0, .int .i64 0, .slice none 0 0], .int .i64 1]) (by simp [results, Try.results9, go_sem, z0, z1, z2]) rfl ⟨none, 0, 0, rfl, HB3.out, Ow.none _ _ rfl _ _⟩
  | true =>
    have hp : amP d X l k = 0 := by unfold amP; rw [if_neg h1, if_neg (by omega), if_neg (by rw [oA]; decide)]
    have e1 : amC d X l k = ansC (okB (d + l) (amT l X k) 1 0) := by unfold amC; rw [hp]; rfl
    have e2 : amAns d X l k = ansT (okB (d + l) (amT l X k) 1 0) (amT l X k) := by unfold amAns; rw [hp]; rfl
    clear hp
    rw [e1, e2]
    clear e1 e2
    have HKd := hid (allOk_kind HR.out oA)
    have HRt := hid (allOk_right oA)
    obtain ⟨tt, hTT⟩ : ∃ tt, amT l X k = tt := ⟨_, rfl⟩
    rw [hTT]
    obtain ⟨t3, hT3⟩ : ∃ t3, ansT (okB (d + l) tt 1 0) tt = t3 := ⟨_, rfl⟩
    obtain ⟨k3, hK3⟩ : ∃ k3, ansC (okB (d + l) tt 1 0) = k3 := ⟨_, rfl⟩
    rw [hT3, hK3]
    have HTT := hid hTT
    have HT3 := hid hT3
    have HK3 := hid hK3
    clear hTT hT3 hK3
    have d3 : decide (k < -1) = false := decide_eq_false h3
    have d4 : decide (6 < k) = false := decide_eq_false h4
    go_enter Try.func9, Try.ntmps9
    go_wp2_with fail
    refine (all_impl d X a l c _ (HR.out.below (by repeat (first | exact Below.refl _ _ | assumption | refine Below.drew ?_ | refine Below.alloc ?_ (by first | exact Nat.le_refl _ | omega | (simp; done) | (simp; omega)) _ | refine Below.setCell ?_ (by first | exact Nat.le_refl _ | omega | (simp; done) | (simp; omega)) _)))).mono ?_
    rintro e w1 ⟨rfl, hb1⟩
    have z0 : w1.cell? ⟨w.heap.size, 0, none⟩ = some (.int .i64 0) := keep hb1 (by simp [go_sem])
    have z1 : w1.cell? ⟨w.heap.size, 1, none⟩ = some (.int .i64 0) := keep hb1 (by simp [go_sem])
    have z2 : w1.cell? ⟨w.heap.size, 2, none⟩ = some (.slice none 0 0) := keep hb1 (by simp [go_sem])
    have y0 : ∀ x, w1.frozen? ⟨w.heap.size, x, none⟩ = false := fun x => (hb1.frozen (p := ⟨w.heap.size, x, none⟩) (by simp)).trans (by simp [go_sem])
    have HB1 := hid ((show Below w.heap.size w _ from (by repeat (first | exact Below.refl _ _ | assumption | refine Below.drew ?_ | refine Below.alloc ?_ (by first | exact Nat.le_refl _ | omega | (simp; done) | (simp; omega)) _ | refine Below.setCell ?_ (by first | exact Nat.le_refl _ | omega | (simp; done) | (simp; omega)) _))).trans (hb1.mono (by simp)))
    have hs1 : w.heap.size < w1.heap.size := World.block_lt_of_cell? _ _ z0
    clear hb1
    rw [oA]
    go_wp2_with fail
    refine (most_impl d l (fun b => b < w.heap.size) X a c k _ (HR.out.old.below HB1.out) hlc (by omega) (by omega) HKd.out).mono ?_
    rintro e w2 ⟨v, rfl, ⟨a2, l2, c2, rfl, hr2⟩, hb2⟩
    rw [HTT.out] at hr2 ⊢
    replace z0 := keep hb2 z0
    replace z1 := keep hb2 z1
    replace z2 := keep hb2 z2
    have y2 : ∀ x, w2.frozen? ⟨w.heap.size, x, none⟩ = false := fun x => (hb2.frozen (p := ⟨w.heap.size, x, none⟩) hs1).trans (y0 x)
    have HB2 := hid (HB1.out.trans (hb2.mono HB1.out.size))
    have hs2 : w.heap.size < w2.heap.size := World.block_lt_of_cell? _ _ z0
    have HR2 := hid hr2
    clear hb2 y0 hr2
    go_wp2_with fail
    refine (answered_impl (d + l) tt a2 l2 c2 _ (HR2.out.imp fun _ _ => trivial)).mono ?_
    rintro e w3 ⟨a3, l3, c3, rfl, hb3, ho3⟩
    replace z0 := keep hb3 z0
    replace z1 := keep hb3 z1
    replace z2 := keep hb3 z2
    have g0 := (hb3.frozen (p := ⟨w.heap.size, 0, none⟩) hs2).trans (y2 0)
    have g1 := (hb3.frozen (p := ⟨w.heap.size, 1, none⟩) hs2).trans (y2 1)
    have g2 := (hb3.frozen (p := ⟨w.heap.size, 2, none⟩) hs2).trans (y2 2)
    rw [HT3.out] at ho3
    rw [HT3.out, HK3.out]
    have HO := hid (ho3.kept fun b hb _ => set3_heap w3 (R := w.heap.size) (b := b) (by omega) (.int .i64 (kd t3)) (.int .i64 (nn t3)) (.slice a3 l3 c3))
    have HB3 := hid (below_set3 (HB2.out.trans (hb3.mono HB2.out.size)) (R := w.heap.size) (Nat.le_refl _) (.int .i64 (kd t3)) (.int .i64 (nn t3)) (.slice a3 l3 c3))
    have hs2' := HB2.out.size
    clear hb3 ho3
    go_wp2
    refine bodyPost_ret (v := .tuple #[.agg #[.int .i64 (kd t3), .int .i64 (nn t3), .slice a3 l3 c3], .int .i64 k3]) (by simp [results, Try.results9, go_sem, z0, z1, z2]) rfl ⟨a3, l3, c3, rfl, HB3.out, HO.out.sub fun b hb => ⟨by omega, by simpa [World.setCell] using hb.2⟩⟩
end Go.Proofs.Ytacamkdcofppcaa.atFace
