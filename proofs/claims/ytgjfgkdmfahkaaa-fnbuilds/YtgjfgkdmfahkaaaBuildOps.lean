/- Gates that are built, of the program's builder: not, or, xor, ite; conditions: literals of nodes that are there. -/
import Derived.Test.YtgjfgkdmfahkaaaBuildAndI
import Derived.Test.YtgjfgkdmfahkaaaDrawn
namespace Go.Proofs.Ytgjfgkdmfahkaaa.buildOps
open Go.RowKit Go.Deep Go.Sort Go.Maps Go.WideMaps Go base trees buildSem buildMap buildAnd buildOpp heldStore buildAndI drawn
set_option linter.unusedVariables false

theorem pair_at (w : World) (x y : Value) (t : TypeId) : ((w.drewN 1).alloc (.cells #[x, y] t)).cell? ⟨w.heap.size, 0, none⟩ = some x ∧ ((w.drewN 1).alloc (.cells #[x, y] t)).cell? ⟨w.heap.size, 0 + 1, none⟩ = some y := by
  have e : w.heap.size = (w.drewN 1).heap.size := rfl
  rw [e]
  generalize w.drewN 1 = w'
  exact ⟨by simp [go_sem], by simp [go_sem]⟩
theorem new_apart {w : World} {v v1 : Value} {g : Nat} (h : New w v v1) (hv : some g ≠ v.ownBlock) (hg : g < w.heap.size) : some g ≠ v1.ownBlock := by
  rcases h with h | ⟨g', hg', h⟩
  · rw [h]; exact hv
  · rw [h]; intro e; injection e with e; omega

set_option maxHeartbeats 800000 in
theorem not_impl (M : Nat) (a : Int) (kg ko kl kc : Nat) (w : World) (hkl : 1 ≤ kl) (hk0 : w.cell? ⟨kg, ko, none⟩ = some (.int .i64 a)) (h0 : 0 ≤ a) (h1 : a ≤ 9000000) :
    Calls Try.prog 35 #[.pointer (some ⟨M, 0, none⟩), .slice (some ⟨kg, ko, none⟩) kl kc] w fun e w' => e = .returned (.int .i64 (notL a)) ∧ Below w.heap.size w w' := by
  have i1 : (0 : Int) < (kl : Int) := by omega
  go_enter Try.func35, Try.ntmps35
  go_wp2_with fail
  refine (opposite_impl a _ (by omega) (by omega)).mono ?_
  rintro e w' ⟨rfl, hw'⟩
  have hw' := hw'.symm
  subst hw'
  go_wp2
  go_ret
  exact ⟨rfl, (by repeat (first | exact Below.refl _ _ | assumption | refine Below.drew ?_ | refine Below.alloc ?_ (by first | exact Nat.le_refl _ | omega | (simp; done) | (simp; omega)) _ | refine Below.setCell ?_ (by first | exact Nat.le_refl _ | omega | (simp; done) | (simp; omega)) _))⟩

set_option maxHeartbeats 3200000 in
set_option maxRecDepth 8000 in
theorem or_impl (M mb B : Nat) (n : Int) (gs : Gl) (v : Value) (F : Nat → Value) (a b : Int) (kg ko kc : Nat) (w : World) (hm : Bd M mb B n gs v F w) (hn0 : 0 ≤ n) (hn : n ≤ 12) (hl : gs.length + 1 ≤ 1000000) (ha : In n gs a) (hb : In n gs b) (hk0 : w.cell? ⟨kg, ko, none⟩ = some (.int .i64 a)) (hk1 : w.cell? ⟨kg, ko + 1, none⟩ = some (.int .i64 b)) (hgM : kg ≠ M) (hgm : kg ≠ mb) (hap1 : some kg ≠ v.ownBlock) :
    Calls Try.prog 37 #[.pointer (some ⟨M, 0, none⟩), .slice (some ⟨kg, ko, none⟩) 2 kc] w fun e w' => ∃ v', e = .returned (.int .i64 (orL n gs a b).1) ∧ Bd M mb B n (orL n gs a b).2 v' F w' ∧ ChgB M mb v w w' ∧ New w v v' := by
  have HM1 := hid hm
  have I0 := hid ha
  have I1 := hid hb
  skip
  have HCh1 : Hid (ChgB M mb v w w) := hid (ChgB.of_below (Below.refl _ _))
  have HNw1 := hid (New.refl w v)
  have hgk1 : kg < w.heap.size := World.block_lt_of_cell? _ _ hk0
  have HKC1 : Hid (∀ w8 : World, Below w.heap.size w w8 → w8.cell? ⟨kg, ko, none⟩ = some (.int .i64 a) ∧ w8.cell? ⟨kg, ko + 1, none⟩ = some (.int .i64 b) ∧ True) := hid (fun w8 h8 => ⟨keep h8 hk0, keep h8 hk1, trivial⟩)
  obtain ⟨v1, hv1⟩ : ∃ v1, v = v1 := ⟨_, rfl⟩
  rw [hv1] at HM1 hap1
  have HV : Hid (v = v1) := hid hv1
  rw [HV.out] at HCh1 HNw1
  have HR := hid (and_in n gs (notL a) (notL b) hn0 (not_in I0.out) (not_in I1.out))
  have hr1 := HR.out.1.1
  have hr2 := HR.out.1.2
  have hr3 := HR.out.2.2
  subst v
  clear hm ha hb HV
  go_enter Try.func37, Try.ntmps37
  go_wp2_with fail
  refine region_goes 12 13 (fun w' => w'.cell? ⟨kg, ko, none⟩ = some (.int .i64 a) ∧ w'.cell? ⟨kg, ko + 1, none⟩ = some (.int .i64 b) ∧ True) (by kernel_rfl) (by rfl) ⟨by kernel_rfl, by kernel_rfl, by kernel_rfl, by decide⟩ (HKC1.out _ (below_drewN _ 1)) (fun hE inv hHeld => ?_)
  refine Goes.take (i := 0) (v := ?vuo0) (some 5) hE rfl rfl inv (by kernel_rfl) (by kernel_rfl) (by decide) (fun _ _ _ h => h) (Or.inl ⟨by rfl, ?yuo0⟩) (by assumption) (fun inv => ?ruo0)
  case yuo0 => (intro w' hSw; (try dsimp only at hSw); obtain ⟨s0, s1, s2⟩ := hSw; go_simp; (try with_reducible rfl))
  simp only [Act.put, List.setIfInBounds_toArray, List.set_cons_zero, List.set_cons_succ]
  refine Goes.take (i := 1) (v := ?vuo1) (some 6) hE rfl rfl inv (by kernel_rfl) (by kernel_rfl) (by decide) (fun _ _ _ h => h) (Or.inl ⟨by rfl, ?yuo1⟩) (by assumption) (fun inv => ?ruo1)
  case yuo1 => (intro w' hSw; (try dsimp only at hSw); obtain ⟨s0, s1, s2⟩ := hSw; go_simp; (try with_reducible rfl))
  simp only [Act.put, List.setIfInBounds_toArray, List.set_cons_zero, List.set_cons_succ]
  refine Goes.take (i := 2) (v := ?vuo2) (some 7) hE rfl rfl inv (by kernel_rfl) (by kernel_rfl) (by decide) (fun _ _ _ h => h) (Or.inl ⟨by rfl, ?yuo2⟩) (by assumption) (fun inv => ?ruo2)
  case yuo2 => (intro w' hSw; (try dsimp only at hSw); obtain ⟨s0, s1, s2⟩ := hSw; go_simp; (try with_reducible rfl))
  simp only [Act.put, List.setIfInBounds_toArray, List.set_cons_zero, List.set_cons_succ]
  refine Goes.take (i := 3) (v := ?vuo3) (some 8) hE rfl rfl inv (by kernel_rfl) (by kernel_rfl) (by decide) (fun _ _ _ h => h) (Or.inl ⟨by rfl, ?yuo3⟩) (by assumption) (fun inv => ?ruo3)
  case yuo3 => (intro w' hSw; (try dsimp only at hSw); obtain ⟨s0, s1, s2⟩ := hSw; go_simp; (try with_reducible rfl))
  simp only [Act.put, List.setIfInBounds_toArray, List.set_cons_zero, List.set_cons_succ]
  refine Goes.take (i := 5) (v := ?vuo5) (some 10) hE rfl rfl inv (by kernel_rfl) (by kernel_rfl) (by decide) (fun _ _ _ h => h) (Or.inl ⟨by rfl, ?yuo5⟩) (by assumption) (fun inv => ?ruo5)
  case yuo5 => (intro w' hSw; (try dsimp only at hSw); obtain ⟨s0, s1, s2⟩ := hSw; go_simp; (try with_reducible rfl))
  simp only [Act.put, List.setIfInBounds_toArray, List.set_cons_zero, List.set_cons_succ]
  refine Goes.take (i := 6) (v := ?vuo6) (some 11) hE rfl rfl inv (by kernel_rfl) (by kernel_rfl) (by decide) (fun _ _ _ h => h) (Or.inl ⟨by rfl, ?yuo6⟩) (by assumption) (fun inv => ?ruo6)
  case yuo6 => (intro w' hSw; (try dsimp only at hSw); obtain ⟨s0, s1, s2⟩ := hSw; go_simp; (try with_reducible rfl))
  simp only [Act.put, List.setIfInBounds_toArray, List.set_cons_zero, List.set_cons_succ]
  refine Goes.take (i := 7) (v := ?vuo7) (some 12) hE rfl rfl inv (by kernel_rfl) (by kernel_rfl) (by decide) (fun _ _ _ h => h) (Or.inl ⟨by rfl, ?yuo7⟩) (by assumption) (fun inv => ?ruo7)
  case yuo7 => (intro w' hSw; (try dsimp only at hSw); obtain ⟨s0, s1, s2⟩ := hSw; go_simp; (try with_reducible rfl))
  simp only [Act.put, List.setIfInBounds_toArray, List.set_cons_zero, List.set_cons_succ]
  refine Goes.one (i := 4) inv (by kernel_rfl) (by decide) rfl (fun inv K' hK => ?_)
  go_simp
  refine (opposite_impl a _ (I0.out).1 (by have := (I0.out).2; omega)).mono ?_
  rintro e w' ⟨rfl, hw'⟩
  have hw' := hw'.symm
  subst hw'
  (try go_wp2_with fail)
  refine hK.out _ _ (HKC1.out _ (below_drewN _ 1)) (fun hHeld => ?_)
  clear hK K'
  (try simp only [Act.put, List.setIfInBounds_toArray, List.set_cons_zero, List.set_cons_succ])
  refine Goes.one (i := 8) inv (by kernel_rfl) (by decide) rfl (fun inv K' hK => ?_)
  go_simp
  refine (opposite_impl b _ (I1.out).1 (by have := (I1.out).2; omega)).mono ?_
  rintro e w' ⟨rfl, hw'⟩
  have hw' := hw'.symm
  subst hw'
  (try go_wp2_with fail)
  refine hK.out _ _ (HKC1.out _ (below_drewN _ 1)) (fun hHeld => ?_)
  clear hK K'
  (try simp only [Act.put, List.setIfInBounds_toArray, List.set_cons_zero, List.set_cons_succ])
  refine Goes.one (i := 9) inv (by kernel_rfl) (by decide) rfl (fun inv K' hK => ?_)
  go_simp
  refine hK.out _ _ (HKC1.out _ ((below_drewN _ 1).alloc (by simp) _)) (fun hHeld => ?_)
  clear hK K'
  (try simp only [Act.put, List.setIfInBounds_toArray, List.set_cons_zero, List.set_cons_succ])
  refine Goes.one (i := 10) inv (by kernel_rfl) (by decide) rfl (fun inv K' hK => ?_)
  go_simp
  refine (and_impl M mb B n _ v1 F (notL a) (notL b) w.heap.size 0 2 2 _ (HM1.out.below ((below_drewN _ 1).alloc (by simp) _)) hn0 hn (by omega) (not_in I0.out) (not_in I1.out) (by omega) (pair_at _ _ _ _).1 (pair_at _ _ _ _).2).mono ?_
  rintro e w2 ⟨v2, rfl, hmk, hch, hnw⟩
  have hch' : ChgB M mb v1 w w2 := (ChgB.of_below ((below_drewN _ 1).alloc (by simp) _)).trans (New.refl _ _) hch
  have hnw' : New w v1 v2 := (New.refl w v1).trans hnw (by simp)
  have HM2 := hid hmk
  have HCh2 := hid (HCh1.out.trans HNw1.out hch')
  have HNw2 := hid (HNw1.out.trans hnw' HCh1.out.size)
  have hap2 : some kg ≠ v2.ownBlock := new_apart hnw' hap1 hgk1
  have hgk2 : kg < w2.heap.size := Nat.lt_of_lt_of_le hgk1 hch'.size
  have HKC2 : Hid (∀ w8 : World, Below w2.heap.size w2 w8 → w8.cell? ⟨kg, ko, none⟩ = some (.int .i64 a) ∧ w8.cell? ⟨kg, ko + 1, none⟩ = some (.int .i64 b) ∧ True) := hid (fun w8 hb => by
    obtain ⟨y0, y1, y2⟩ := HKC1.out _ (Below.refl _ _)
    exact ⟨keep hb (hch'.cell hgM hgm hap1 y0), keep hb (hch'.cell hgM hgm hap1 y1), trivial⟩)
  clear hmk hch hnw hch' hnw'
  (try go_wp2_with fail)
  refine hK.out _ _ (HKC2.out _ (Below.refl _ _)) (fun hHeld => ?_)
  clear hK K'
  (try simp only [Act.put, List.setIfInBounds_toArray, List.set_cons_zero, List.set_cons_succ])
  refine Goes.one (i := 11) inv (by kernel_rfl) (by decide) rfl (fun inv K' hK => ?_)
  go_simp
  refine (opposite_impl _ _ hr1 (by omega)).mono ?_
  rintro e w' ⟨rfl, hw'⟩
  have hw' := hw'.symm
  subst hw'
  (try go_wp2_with fail)
  refine hK.out _ _ (HKC2.out _ (Below.refl _ _)) (fun hHeld => ?_)
  clear hK K'
  (try simp only [Act.put, List.setIfInBounds_toArray, List.set_cons_zero, List.set_cons_succ])
  refine Goes.last (by kernel_rfl) (by kernel_rfl) rfl (fun K' hK => ?_)
  go_simp
  refine hK.out _ _ ?_
  clear hK K' hHeld
  (try simp only [Exit.then])
  go_wp2
  go_ret
  exact ⟨v2, rfl, HM2.out, HCh2.out, HNw2.out⟩
end Go.Proofs.Ytgjfgkdmfahkaaa.buildOps
