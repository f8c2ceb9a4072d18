/- Gates that are built, of the program's builder: xor; conditions: literals of nodes that are there. -/
import Derived.Test.YtgjfgkdmfahkaaaBuildOps
namespace Go.Proofs.Ytgjfgkdmfahkaaa.buildOpsX
open Go.RowKit Go.Deep Go.Sort Go.Maps Go.WideMaps Go base trees buildSem buildMap buildAnd buildOpp heldStore buildAndI drawn buildOps
set_option linter.unusedVariables false

set_option maxHeartbeats 3200000 in
set_option maxRecDepth 8000 in
theorem xor_impl (M mb B : Nat) (n : Int) (gs : Gl) (v : Value) (F : Nat → Value) (a b : Int) (kg ko kc : Nat) (w : World) (hm : Bd M mb B n gs v F w) (hn0 : 0 ≤ n) (hn : n ≤ 12) (hl : gs.length + 3 ≤ 1000000) (ha : In n gs a) (hb : In n gs b) (hk0 : w.cell? ⟨kg, ko, none⟩ = some (.int .i64 a)) (hk1 : w.cell? ⟨kg, ko + 1, none⟩ = some (.int .i64 b)) (hgM : kg ≠ M) (hgm : kg ≠ mb) (hap1 : some kg ≠ v.ownBlock) :
    Calls Try.prog 38 #[.pointer (some ⟨M, 0, none⟩), .slice (some ⟨kg, ko, none⟩) 2 kc] w fun e w' => ∃ v', e = .returned (.int .i64 (xorL n gs a b).1) ∧ Bd M mb B n (xorL n gs a b).2 v' F w' ∧ ChgB M mb v w w' ∧ New w v v' := by
  have HM1 := hid hm
  have I0 := hid ha
  have I1 := hid hb
  skip
  have HCh1 : Hid (ChgB M mb v w w) := hid (ChgB.of_below (Below.refl _ _))
  have HNw1 := hid (New.refl w v)
  have hgk1 : kg < w.heap.size := World.block_lt_of_cell? _ _ hk0
  have HKC1 : Hid (∀ w8 : World, Below w.heap.size w w8 → w8.cell? ⟨kg, ko, none⟩ = some (.int .i64 a) ∧ w8.cell? ⟨kg, ko + 1, none⟩ = some (.int .i64 b) ∧ True) := hid (fun w8 h8 => ⟨keep h8 hk0, keep h8 hk1, trivial⟩)
  obtain ⟨v1, hv1⟩ : ∃ v1, v = v1 := ⟨_, rfl⟩
  rw [hv1] at HM1 hap1
  have HV : Hid (v = v1) := hid hv1
  rw [HV.out] at HCh1 HNw1
  obtain ⟨r2, g2, h2e⟩ : ∃ r g, andL n gs a (notL b) = (r, g) := ⟨_, _, rfl⟩
  obtain ⟨r3, g3, h3e⟩ : ∃ r g, andL n g2 (notL a) b = (r, g) := ⟨_, _, rfl⟩
  have HE2 := hid h2e
  have HE3 := hid h3e
  have J2 := hid (and_in n gs a (notL b) hn0 I0.out (not_in I1.out))
  rw [h2e] at J2
  have J3 := hid (and_in n g2 (notL a) b hn0 ((not_in I0.out).more J2.out.2.1) (I1.out.more J2.out.2.1))
  rw [h3e] at J3
  have HRes : Hid (xorL n gs a b = orL n g3 r2 r3) := hid (by simp only [xorL, HE2.out, HE3.out])
  rw [HRes.out]
  have l2 := J2.out.2.2
  have l2' := J2.out.2.1
  have l3 := J3.out.2.2
  have l3' := J3.out.2.1
  simp only at l2 l2' l3 l3'
  clear h2e h3e
  subst v
  clear hm ha hb HV
  go_enter Try.func38, Try.ntmps38
  go_wp2_with fail
  refine region_goes 10 11 (fun w' => w'.cell? ⟨kg, ko, none⟩ = some (.int .i64 a) ∧ w'.cell? ⟨kg, ko + 1, none⟩ = some (.int .i64 b) ∧ True) (by kernel_rfl) (by rfl) ⟨by kernel_rfl, by kernel_rfl, by kernel_rfl, by decide⟩ (HKC1.out _ (below_drewN _ 1)) (fun hE inv hHeld => ?_)
  refine Goes.take (i := 0) (v := ?vuxa0) (some 7) hE rfl rfl inv (by kernel_rfl) (by kernel_rfl) (by decide) (fun _ _ _ h => h) (Or.inl ⟨by rfl, ?yuxa0⟩) (by assumption) (fun inv => ?ruxa0)
  case yuxa0 => (intro w' hSw; (try dsimp only at hSw); obtain ⟨s0, s1, s2⟩ := hSw; go_simp; (try with_reducible rfl))
  simp only [Act.put, List.setIfInBounds_toArray, List.set_cons_zero, List.set_cons_succ]
  refine Goes.take (i := 1) (v := ?vuxa1) (some 8) hE rfl rfl inv (by kernel_rfl) (by kernel_rfl) (by decide) (fun _ _ _ h => h) (Or.inl ⟨by rfl, ?yuxa1⟩) (by assumption) (fun inv => ?ruxa1)
  case yuxa1 => (intro w' hSw; (try dsimp only at hSw); obtain ⟨s0, s1, s2⟩ := hSw; go_simp; (try with_reducible rfl))
  simp only [Act.put, List.setIfInBounds_toArray, List.set_cons_zero, List.set_cons_succ]
  refine Goes.take (i := 2) (v := ?vuxa2) (some 9) hE rfl rfl inv (by kernel_rfl) (by kernel_rfl) (by decide) (fun _ _ _ h => h) (Or.inl ⟨by rfl, ?yuxa2⟩) (by assumption) (fun inv => ?ruxa2)
  case yuxa2 => (intro w' hSw; (try dsimp only at hSw); obtain ⟨s0, s1, s2⟩ := hSw; go_simp; (try with_reducible rfl))
  simp only [Act.put, List.setIfInBounds_toArray, List.set_cons_zero, List.set_cons_succ]
  refine Goes.take (i := 3) (v := ?vuxa3) (some 10) hE rfl rfl inv (by kernel_rfl) (by kernel_rfl) (by decide) (fun _ _ _ h => h) (Or.inl ⟨by rfl, ?yuxa3⟩) (by assumption) (fun inv => ?ruxa3)
  case yuxa3 => (intro w' hSw; (try dsimp only at hSw); obtain ⟨s0, s1, s2⟩ := hSw; go_simp; (try with_reducible rfl))
  simp only [Act.put, List.setIfInBounds_toArray, List.set_cons_zero, List.set_cons_succ]
  refine Goes.take (i := 4) (v := ?vuxa4) (some 11) hE rfl rfl inv (by kernel_rfl) (by kernel_rfl) (by decide) (fun _ _ _ h => h) (Or.inl ⟨by rfl, ?yuxa4⟩) (by assumption) (fun inv => ?ruxa4)
  case yuxa4 => (intro w' hSw; (try dsimp only at hSw); obtain ⟨s0, s1, s2⟩ := hSw; go_simp; (try with_reducible rfl))
  simp only [Act.put, List.setIfInBounds_toArray, List.set_cons_zero, List.set_cons_succ]
  refine Goes.take (i := 5) (v := ?vuxa5) (some 12) hE rfl rfl inv (by kernel_rfl) (by kernel_rfl) (by decide) (fun _ _ _ h => h) (Or.inl ⟨by rfl, ?yuxa5⟩) (by assumption) (fun inv => ?ruxa5)
  case yuxa5 => (intro w' hSw; (try dsimp only at hSw); obtain ⟨s0, s1, s2⟩ := hSw; go_simp; (try with_reducible rfl))
  simp only [Act.put, List.setIfInBounds_toArray, List.set_cons_zero, List.set_cons_succ]
  refine Goes.take (i := 6) (v := ?vuxa6) (some 13) hE rfl rfl inv (by kernel_rfl) (by kernel_rfl) (by decide) (fun _ _ _ h => h) (Or.inl ⟨by rfl, ?yuxa6⟩) (by assumption) (fun inv => ?ruxa6)
  case yuxa6 => (intro w' hSw; (try dsimp only at hSw); obtain ⟨s0, s1, s2⟩ := hSw; go_simp; (try with_reducible rfl))
  simp only [Act.put, List.setIfInBounds_toArray, List.set_cons_zero, List.set_cons_succ]
  refine Goes.one (i := 7) inv (by kernel_rfl) (by decide) rfl (fun inv K' hK => ?_)
  go_simp
  refine (opposite_impl b _ (I1.out).1 (by have := (I1.out).2; omega)).mono ?_
  rintro e w' ⟨rfl, hw'⟩
  have hw' := hw'.symm
  subst hw'
  (try go_wp2_with fail)
  refine hK.out _ _ (HKC1.out _ (below_drewN _ 1)) (fun hHeld => ?_)
  clear hK K'
  (try simp only [Act.put, List.setIfInBounds_toArray, List.set_cons_zero, List.set_cons_succ])
  refine Goes.one (i := 8) inv (by kernel_rfl) (by decide) rfl (fun inv K' hK => ?_)
  go_simp
  refine hK.out _ _ (HKC1.out _ ((below_drewN _ 1).alloc (by simp) _)) (fun hHeld => ?_)
  clear hK K'
  (try simp only [Act.put, List.setIfInBounds_toArray, List.set_cons_zero, List.set_cons_succ])
  refine Goes.one (i := 9) inv (by kernel_rfl) (by decide) rfl (fun inv K' hK => ?_)
  go_simp
  refine (and_impl M mb B n _ v1 F a (notL b) w.heap.size 0 2 2 _ (HM1.out.below ((below_drewN _ 1).alloc (by simp) _)) hn0 hn (by omega) I0.out (not_in I1.out) (by omega) (pair_at _ _ _ _).1 (pair_at _ _ _ _).2).mono ?_
  rintro e w2 ⟨v2, rfl, hmk, hch, hnw⟩
  rw [HE2.out] at hmk ⊢
  have hch' : ChgB M mb v1 w w2 := (ChgB.of_below ((below_drewN _ 1).alloc (by simp) _)).trans (New.refl _ _) hch
  have hnw' : New w v1 v2 := (New.refl w v1).trans hnw (by simp)
  have HM2 := hid hmk
  have HCh2 := hid (HCh1.out.trans HNw1.out hch')
  have HNw2 := hid (HNw1.out.trans hnw' HCh1.out.size)
  have hap2 : some kg ≠ v2.ownBlock := new_apart hnw' hap1 hgk1
  have hgk2 : kg < w2.heap.size := Nat.lt_of_lt_of_le hgk1 hch'.size
  have HKC2 : Hid (∀ w8 : World, Below w2.heap.size w2 w8 → w8.cell? ⟨kg, ko, none⟩ = some (.int .i64 a) ∧ w8.cell? ⟨kg, ko + 1, none⟩ = some (.int .i64 b) ∧ True) := hid (fun w8 hb => by
    obtain ⟨y0, y1, y2⟩ := HKC1.out _ (Below.refl _ _)
    exact ⟨keep hb (hch'.cell hgM hgm hap1 y0), keep hb (hch'.cell hgM hgm hap1 y1), trivial⟩)
  clear hmk hch hnw hch' hnw'
  (try go_wp2_with fail)
  refine hK.out _ _ (HKC2.out _ (Below.refl _ _)) (fun hHeld => ?_)
  clear hK K'
  (try simp only [Act.put, List.setIfInBounds_toArray, List.set_cons_zero, List.set_cons_succ])
  refine Goes.last (by kernel_rfl) (by kernel_rfl) rfl (fun K' hK => ?_)
  go_simp
  refine hK.out _ _ ?_
  clear hK K' hHeld
  (try simp only [Exit.then])
  go_wp2_with fail
  refine region_goes 10 11 (fun w' => w'.cell? ⟨kg, ko, none⟩ = some (.int .i64 a) ∧ w'.cell? ⟨kg, ko + 1, none⟩ = some (.int .i64 b) ∧ True) (by kernel_rfl) (by rfl) ⟨by kernel_rfl, by kernel_rfl, by kernel_rfl, by decide⟩ (HKC2.out _ (below_drewN _ 1)) (fun hE inv hHeld => ?_)
  refine Goes.take (i := 0) (v := ?vuxb0) (some 17) hE rfl rfl inv (by kernel_rfl) (by kernel_rfl) (by decide) (fun _ _ _ h => h) (Or.inl ⟨by rfl, ?yuxb0⟩) (by assumption) (fun inv => ?ruxb0)
  case yuxb0 => (intro w' hSw; (try dsimp only at hSw); obtain ⟨s0, s1, s2⟩ := hSw; go_simp; (try with_reducible rfl))
  simp only [Act.put, List.setIfInBounds_toArray, List.set_cons_zero, List.set_cons_succ]
  refine Goes.take (i := 1) (v := ?vuxb1) (some 18) hE rfl rfl inv (by kernel_rfl) (by kernel_rfl) (by decide) (fun _ _ _ h => h) (Or.inl ⟨by rfl, ?yuxb1⟩) (by assumption) (fun inv => ?ruxb1)
  case yuxb1 => (intro w' hSw; (try dsimp only at hSw); obtain ⟨s0, s1, s2⟩ := hSw; go_simp; (try with_reducible rfl))
  simp only [Act.put, List.setIfInBounds_toArray, List.set_cons_zero, List.set_cons_succ]
  refine Goes.take (i := 2) (v := ?vuxb2) (some 19) hE rfl rfl inv (by kernel_rfl) (by kernel_rfl) (by decide) (fun _ _ _ h => h) (Or.inl ⟨by rfl, ?yuxb2⟩) (by assumption) (fun inv => ?ruxb2)
  case yuxb2 => (intro w' hSw; (try dsimp only at hSw); obtain ⟨s0, s1, s2⟩ := hSw; go_simp; (try with_reducible rfl))
  simp only [Act.put, List.setIfInBounds_toArray, List.set_cons_zero, List.set_cons_succ]
  refine Goes.take (i := 3) (v := ?vuxb3) (some 20) hE rfl rfl inv (by kernel_rfl) (by kernel_rfl) (by decide) (fun _ _ _ h => h) (Or.inl ⟨by rfl, ?yuxb3⟩) (by assumption) (fun inv => ?ruxb3)
  case yuxb3 => (intro w' hSw; (try dsimp only at hSw); obtain ⟨s0, s1, s2⟩ := hSw; go_simp; (try with_reducible rfl))
  simp only [Act.put, List.setIfInBounds_toArray, List.set_cons_zero, List.set_cons_succ]
  refine Goes.take (i := 5) (v := ?vuxb5) (some 22) hE rfl rfl inv (by kernel_rfl) (by kernel_rfl) (by decide) (fun _ _ _ h => h) (Or.inl ⟨by rfl, ?yuxb5⟩) (by assumption) (fun inv => ?ruxb5)
  case yuxb5 => (intro w' hSw; (try dsimp only at hSw); obtain ⟨s0, s1, s2⟩ := hSw; go_simp; (try with_reducible rfl))
  simp only [Act.put, List.setIfInBounds_toArray, List.set_cons_zero, List.set_cons_succ]
  refine Goes.take (i := 6) (v := ?vuxb6) (some 23) hE rfl rfl inv (by kernel_rfl) (by kernel_rfl) (by decide) (fun _ _ _ h => h) (Or.inl ⟨by rfl, ?yuxb6⟩) (by assumption) (fun inv => ?ruxb6)
  case yuxb6 => (intro w' hSw; (try dsimp only at hSw); obtain ⟨s0, s1, s2⟩ := hSw; go_simp; (try with_reducible rfl))
  simp only [Act.put, List.setIfInBounds_toArray, List.set_cons_zero, List.set_cons_succ]
  refine Goes.take (i := 7) (v := ?vuxb7) (some 24) hE rfl rfl inv (by kernel_rfl) (by kernel_rfl) (by decide) (fun _ _ _ h => h) (Or.inl ⟨by rfl, ?yuxb7⟩) (by assumption) (fun inv => ?ruxb7)
  case yuxb7 => (intro w' hSw; (try dsimp only at hSw); obtain ⟨s0, s1, s2⟩ := hSw; go_simp; (try with_reducible rfl))
  simp only [Act.put, List.setIfInBounds_toArray, List.set_cons_zero, List.set_cons_succ]
  refine Goes.one (i := 4) inv (by kernel_rfl) (by decide) rfl (fun inv K' hK => ?_)
  go_simp
  refine (opposite_impl a _ (I0.out).1 (by have := (I0.out).2; omega)).mono ?_
  rintro e w' ⟨rfl, hw'⟩
  have hw' := hw'.symm
  subst hw'
  (try go_wp2_with fail)
  refine hK.out _ _ (HKC2.out _ (below_drewN _ 1)) (fun hHeld => ?_)
  clear hK K'
  (try simp only [Act.put, List.setIfInBounds_toArray, List.set_cons_zero, List.set_cons_succ])
  refine Goes.one (i := 8) inv (by kernel_rfl) (by decide) rfl (fun inv K' hK => ?_)
  go_simp
  refine hK.out _ _ (HKC2.out _ ((below_drewN _ 1).alloc (by simp) _)) (fun hHeld => ?_)
  clear hK K'
  (try simp only [Act.put, List.setIfInBounds_toArray, List.set_cons_zero, List.set_cons_succ])
  refine Goes.one (i := 9) inv (by kernel_rfl) (by decide) rfl (fun inv K' hK => ?_)
  go_simp
  refine (and_impl M mb B n _ v2 F (notL a) b w2.heap.size 0 2 2 _ (HM2.out.below ((below_drewN _ 1).alloc (by simp) _)) hn0 hn (by omega) ((not_in I0.out).more J2.out.2.1) (I1.out.more J2.out.2.1) (by omega) (pair_at _ _ _ _).1 (pair_at _ _ _ _).2).mono ?_
  rintro e w3 ⟨v3, rfl, hmk, hch, hnw⟩
  rw [HE3.out] at hmk ⊢
  have hch' : ChgB M mb v2 w2 w3 := (ChgB.of_below ((below_drewN _ 1).alloc (by simp) _)).trans (New.refl _ _) hch
  have hnw' : New w2 v2 v3 := (New.refl w2 v2).trans hnw (by simp)
  have HM3 := hid hmk
  have HCh3 := hid (HCh2.out.trans HNw2.out hch')
  have HNw3 := hid (HNw2.out.trans hnw' HCh2.out.size)
  have hap3 : some kg ≠ v3.ownBlock := new_apart hnw' hap2 hgk2
  have hgk3 : kg < w3.heap.size := Nat.lt_of_lt_of_le hgk2 hch'.size
  have HKC3 : Hid (∀ w8 : World, Below w3.heap.size w3 w8 → w8.cell? ⟨kg, ko, none⟩ = some (.int .i64 a) ∧ w8.cell? ⟨kg, ko + 1, none⟩ = some (.int .i64 b) ∧ True) := hid (fun w8 hb => by
    obtain ⟨y0, y1, y2⟩ := HKC2.out _ (Below.refl _ _)
    exact ⟨keep hb (hch'.cell hgM hgm hap2 y0), keep hb (hch'.cell hgM hgm hap2 y1), trivial⟩)
  clear hmk hch hnw hch' hnw'
  (try go_wp2_with fail)
  refine hK.out _ _ (HKC3.out _ (Below.refl _ _)) (fun hHeld => ?_)
  clear hK K'
  (try simp only [Act.put, List.setIfInBounds_toArray, List.set_cons_zero, List.set_cons_succ])
  refine Goes.last (by kernel_rfl) (by kernel_rfl) rfl (fun K' hK => ?_)
  go_simp
  refine hK.out _ _ ?_
  clear hK K' hHeld
  (try simp only [Exit.then])
  have hbA : Below w3.heap.size w3 (w3.alloc (.cells #[.int .i64 r2, .int .i64 r3] 3)) := (by repeat (first | exact Below.refl _ _ | assumption | refine Below.drew ?_ | refine Below.alloc ?_ (by first | exact Nat.le_refl _ | omega | (simp; done) | (simp; omega)) _ | refine Below.setCell ?_ (by first | exact Nat.le_refl _ | omega | (simp; done) | (simp; omega)) _))
  have HBA := hid hbA
  have hM3 : w3.heap.size ≠ M := by have := HM3.out.lt; have := HM3.out.le; omega
  have hm3 : w3.heap.size ≠ mb := by have := HM3.out.mlt; have := HM3.out.le; omega
  have hv3 : some w3.heap.size ≠ v3.ownBlock := fun e => by have := (World.ownsRow.lt HM3.out.own _ e.symm).2; omega
  clear hbA
  go_wp2_with fail
  refine (or_impl M mb B n g3 v3 F r2 r3 w3.heap.size 0 2 _ (HM3.out.below HBA.out) hn0 hn (by omega) (J2.out.1.more (by first | omega | (simp only; omega))) J3.out.1 (by simp [go_sem]) (by simp [go_sem]) hM3 hm3 hv3).mono ?_
  rintro e w4 ⟨v4, rfl, hmk, hch, hnw⟩
  have HM4 := hid hmk
  have hch' : ChgB M mb v3 w3 w4 := (ChgB.of_below HBA.out).trans (New.refl _ _) hch
  have hnw' : New w3 v3 v4 := (New.refl w3 v3).trans hnw (by simp)
  have HCh4 := hid (HCh3.out.trans HNw3.out hch')
  have HNw4 := hid (HNw3.out.trans hnw' HCh3.out.size)
  clear hmk hch hnw hch' hnw'
  go_wp2
  go_ret
  exact ⟨v4, rfl, HM4.out, HCh4.out, HNw4.out⟩
end Go.Proofs.Ytgjfgkdmfahkaaa.buildOpsX
