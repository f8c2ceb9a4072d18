/- Gates that are built, of the program's builder: ite; conditions: literals of nodes that are there. -/
import Derived.Test.YtgjfgkdmfahkaaaBuildOps
namespace Go.Proofs.Ytgjfgkdmfahkaaa.buildOpsT
open Go.RowKit Go.Deep Go.Sort Go.Maps Go.WideMaps Go base trees buildSem buildMap buildAnd buildOpp heldStore buildAndI drawn buildOps
set_option linter.unusedVariables false

set_option maxHeartbeats 3200000 in
set_option maxRecDepth 8000 in
theorem ite_impl (M mb B : Nat) (n : Int) (gs : Gl) (v : Value) (F : Nat → Value) (a b c : Int) (kg ko kc : Nat) (w : World) (hm : Bd M mb B n gs v F w) (hn0 : 0 ≤ n) (hn : n ≤ 12) (hl : gs.length + 3 ≤ 1000000) (ha : In n gs a) (hb : In n gs b) (hc : In n gs c) (hk0 : w.cell? ⟨kg, ko, none⟩ = some (.int .i64 a)) (hk1 : w.cell? ⟨kg, ko + 1, none⟩ = some (.int .i64 b)) (hk2 : w.cell? ⟨kg, ko + 2, none⟩ = some (.int .i64 c)) (hgM : kg ≠ M) (hgm : kg ≠ mb) (hap1 : some kg ≠ v.ownBlock) :
    Calls Try.prog 39 #[.pointer (some ⟨M, 0, none⟩), .slice (some ⟨kg, ko, none⟩) 3 kc] w fun e w' => ∃ v', e = .returned (.int .i64 (iteL n gs a b c).1) ∧ Bd M mb B n (iteL n gs a b c).2 v' F w' ∧ ChgB M mb v w w' ∧ New w v v' := by
  have HM1 := hid hm
  have I0 := hid ha
  have I1 := hid hb
  have I2 := hid hc
  have HCh1 : Hid (ChgB M mb v w w) := hid (ChgB.of_below (Below.refl _ _))
  have HNw1 := hid (New.refl w v)
  have hgk1 : kg < w.heap.size := World.block_lt_of_cell? _ _ hk0
  have HKC1 : Hid (∀ w8 : World, Below w.heap.size w w8 → w8.cell? ⟨kg, ko, none⟩ = some (.int .i64 a) ∧ w8.cell? ⟨kg, ko + 1, none⟩ = some (.int .i64 b) ∧ w8.cell? ⟨kg, ko + 2, none⟩ = some (.int .i64 c)) := hid (fun w8 h8 => ⟨keep h8 hk0, keep h8 hk1, keep h8 hk2⟩)
  obtain ⟨v1, hv1⟩ : ∃ v1, v = v1 := ⟨_, rfl⟩
  rw [hv1] at HM1 hap1
  have HV : Hid (v = v1) := hid hv1
  rw [HV.out] at HCh1 HNw1
  obtain ⟨r2, g2, h2e⟩ : ∃ r g, andL n gs a b = (r, g) := ⟨_, _, rfl⟩
  obtain ⟨r3, g3, h3e⟩ : ∃ r g, andL n g2 (notL a) c = (r, g) := ⟨_, _, rfl⟩
  have HE2 := hid h2e
  have HE3 := hid h3e
  have J2 := hid (and_in n gs a b hn0 I0.out I1.out)
  rw [h2e] at J2
  have J3 := hid (and_in n g2 (notL a) c hn0 ((not_in I0.out).more J2.out.2.1) (I2.out.more J2.out.2.1))
  rw [h3e] at J3
  have HRes : Hid (iteL n gs a b c = orL n g3 r2 r3) := hid (by simp only [iteL, HE2.out, HE3.out])
  rw [HRes.out]
  have l2 := J2.out.2.2
  have l2' := J2.out.2.1
  have l3 := J3.out.2.2
  have l3' := J3.out.2.1
  simp only at l2 l2' l3 l3'
  clear h2e h3e
  subst v
  clear hm ha hb hc HV
  go_enter Try.func39, Try.ntmps39
  go_wp2_with fail
  refine region_goes 9 10 (fun w' => w'.cell? ⟨kg, ko, none⟩ = some (.int .i64 a) ∧ w'.cell? ⟨kg, ko + 1, none⟩ = some (.int .i64 b) ∧ w'.cell? ⟨kg, ko + 2, none⟩ = some (.int .i64 c)) (by kernel_rfl) (by rfl) ⟨by kernel_rfl, by kernel_rfl, by kernel_rfl, by decide⟩ (HKC1.out _ (below_drewN _ 1)) (fun hE inv hHeld => ?_)
  refine Goes.take (i := 0) (v := ?vuta0) (some 7) hE rfl rfl inv (by kernel_rfl) (by kernel_rfl) (by decide) (fun _ _ _ h => h) (Or.inl ⟨by rfl, ?yuta0⟩) (by assumption) (fun inv => ?ruta0)
  case yuta0 => (intro w' hSw; (try dsimp only at hSw); obtain ⟨s0, s1, s2⟩ := hSw; go_simp; (try with_reducible rfl))
  simp only [Act.put, List.setIfInBounds_toArray, List.set_cons_zero, List.set_cons_succ]
  refine Goes.take (i := 1) (v := ?vuta1) (some 8) hE rfl rfl inv (by kernel_rfl) (by kernel_rfl) (by decide) (fun _ _ _ h => h) (Or.inl ⟨by rfl, ?yuta1⟩) (by assumption) (fun inv => ?ruta1)
  case yuta1 => (intro w' hSw; (try dsimp only at hSw); obtain ⟨s0, s1, s2⟩ := hSw; go_simp; (try with_reducible rfl))
  simp only [Act.put, List.setIfInBounds_toArray, List.set_cons_zero, List.set_cons_succ]
  refine Goes.take (i := 2) (v := ?vuta2) (some 9) hE rfl rfl inv (by kernel_rfl) (by kernel_rfl) (by decide) (fun _ _ _ h => h) (Or.inl ⟨by rfl, ?yuta2⟩) (by assumption) (fun inv => ?ruta2)
  case yuta2 => (intro w' hSw; (try dsimp only at hSw); obtain ⟨s0, s1, s2⟩ := hSw; go_simp; (try with_reducible rfl))
  simp only [Act.put, List.setIfInBounds_toArray, List.set_cons_zero, List.set_cons_succ]
  refine Goes.take (i := 3) (v := ?vuta3) (some 10) hE rfl rfl inv (by kernel_rfl) (by kernel_rfl) (by decide) (fun _ _ _ h => h) (Or.inl ⟨by rfl, ?yuta3⟩) (by assumption) (fun inv => ?ruta3)
  case yuta3 => (intro w' hSw; (try dsimp only at hSw); obtain ⟨s0, s1, s2⟩ := hSw; go_simp; (try with_reducible rfl))
  simp only [Act.put, List.setIfInBounds_toArray, List.set_cons_zero, List.set_cons_succ]
  refine Goes.take (i := 4) (v := ?vuta4) (some 11) hE rfl rfl inv (by kernel_rfl) (by kernel_rfl) (by decide) (fun _ _ _ h => h) (Or.inl ⟨by rfl, ?yuta4⟩) (by assumption) (fun inv => ?ruta4)
  case yuta4 => (intro w' hSw; (try dsimp only at hSw); obtain ⟨s0, s1, s2⟩ := hSw; go_simp; (try with_reducible rfl))
  simp only [Act.put, List.setIfInBounds_toArray, List.set_cons_zero, List.set_cons_succ]
  refine Goes.take (i := 5) (v := ?vuta5) (some 12) hE rfl rfl inv (by kernel_rfl) (by kernel_rfl) (by decide) (fun _ _ _ h => h) (Or.inl ⟨by rfl, ?yuta5⟩) (by assumption) (fun inv => ?ruta5)
  case yuta5 => (intro w' hSw; (try dsimp only at hSw); obtain ⟨s0, s1, s2⟩ := hSw; go_simp; (try with_reducible rfl))
  simp only [Act.put, List.setIfInBounds_toArray, List.set_cons_zero, List.set_cons_succ]
  refine Goes.take (i := 6) (v := ?vuta6) (some 13) hE rfl rfl inv (by kernel_rfl) (by kernel_rfl) (by decide) (fun _ _ _ h => h) (Or.inl ⟨by rfl, ?yuta6⟩) (by assumption) (fun inv => ?ruta6)
  case yuta6 => (intro w' hSw; (try dsimp only at hSw); obtain ⟨s0, s1, s2⟩ := hSw; go_simp; (try with_reducible rfl))
  simp only [Act.put, List.setIfInBounds_toArray, List.set_cons_zero, List.set_cons_succ]
  refine Goes.one (i := 7) inv (by kernel_rfl) (by decide) rfl (fun inv K' hK => ?_)
  go_simp
  refine hK.out _ _ (HKC1.out _ ((below_drewN _ 1).alloc (by simp) _)) (fun hHeld => ?_)
  clear hK K'
  (try simp only [Act.put, List.setIfInBounds_toArray, List.set_cons_zero, List.set_cons_succ])
  refine Goes.one (i := 8) inv (by kernel_rfl) (by decide) rfl (fun inv K' hK => ?_)
  go_simp
  refine (and_impl M mb B n _ v1 F a b w.heap.size 0 2 2 _ (HM1.out.below ((below_drewN _ 1).alloc (by simp) _)) hn0 hn (by omega) I0.out I1.out (by omega) (pair_at _ _ _ _).1 (pair_at _ _ _ _).2).mono ?_
  rintro e w2 ⟨v2, rfl, hmk, hch, hnw⟩
  rw [HE2.out] at hmk ⊢
  have hch' : ChgB M mb v1 w w2 := (ChgB.of_below ((below_drewN _ 1).alloc (by simp) _)).trans (New.refl _ _) hch
  have hnw' : New w v1 v2 := (New.refl w v1).trans hnw (by simp)
  have HM2 := hid hmk
  have HCh2 := hid (HCh1.out.trans HNw1.out hch')
  have HNw2 := hid (HNw1.out.trans hnw' HCh1.out.size)
  have hap2 : some kg ≠ v2.ownBlock := new_apart hnw' hap1 hgk1
  have hgk2 : kg < w2.heap.size := Nat.lt_of_lt_of_le hgk1 hch'.size
  have HKC2 : Hid (∀ w8 : World, Below w2.heap.size w2 w8 → w8.cell? ⟨kg, ko, none⟩ = some (.int .i64 a) ∧ w8.cell? ⟨kg, ko + 1, none⟩ = some (.int .i64 b) ∧ w8.cell? ⟨kg, ko + 2, none⟩ = some (.int .i64 c)) := hid (fun w8 hb => by
    obtain ⟨y0, y1, y2⟩ := HKC1.out _ (Below.refl _ _)
    exact ⟨keep hb (hch'.cell hgM hgm hap1 y0), keep hb (hch'.cell hgM hgm hap1 y1), keep hb (hch'.cell hgM hgm hap1 y2)⟩)
  clear hmk hch hnw hch' hnw'
  (try go_wp2_with fail)
  refine hK.out _ _ (HKC2.out _ (Below.refl _ _)) (fun hHeld => ?_)
  clear hK K'
  (try simp only [Act.put, List.setIfInBounds_toArray, List.set_cons_zero, List.set_cons_succ])
  refine Goes.last (by kernel_rfl) (by kernel_rfl) rfl (fun K' hK => ?_)
  go_simp
  refine hK.out _ _ ?_
  clear hK K' hHeld
  (try simp only [Exit.then])
  go_wp2_with fail
  refine region_goes 10 11 (fun w' => w'.cell? ⟨kg, ko, none⟩ = some (.int .i64 a) ∧ w'.cell? ⟨kg, ko + 1, none⟩ = some (.int .i64 b) ∧ w'.cell? ⟨kg, ko + 2, none⟩ = some (.int .i64 c)) (by kernel_rfl) (by rfl) ⟨by kernel_rfl, by kernel_rfl, by kernel_rfl, by decide⟩ (HKC2.out _ (below_drewN _ 1)) (fun hE inv hHeld => ?_)
  refine Goes.take (i := 0) (v := ?vutb0) (some 16) hE rfl rfl inv (by kernel_rfl) (by kernel_rfl) (by decide) (fun _ _ _ h => h) (Or.inl ⟨by rfl, ?yutb0⟩) (by assumption) (fun inv => ?rutb0)
  case yutb0 => (intro w' hSw; (try dsimp only at hSw); obtain ⟨s0, s1, s2⟩ := hSw; go_simp; (try with_reducible rfl))
  simp only [Act.put, List.setIfInBounds_toArray, List.set_cons_zero, List.set_cons_succ]
  refine Goes.take (i := 1) (v := ?vutb1) (some 17) hE rfl rfl inv (by kernel_rfl) (by kernel_rfl) (by decide) (fun _ _ _ h => h) (Or.inl ⟨by rfl, ?yutb1⟩) (by assumption) (fun inv => ?rutb1)
  case yutb1 => (intro w' hSw; (try dsimp only at hSw); obtain ⟨s0, s1, s2⟩ := hSw; go_simp; (try with_reducible rfl))
  simp only [Act.put, List.setIfInBounds_toArray, List.set_cons_zero, List.set_cons_succ]
  refine Goes.take (i := 2) (v := ?vutb2) (some 18) hE rfl rfl inv (by kernel_rfl) (by kernel_rfl) (by decide) (fun _ _ _ h => h) (Or.inl ⟨by rfl, ?yutb2⟩) (by assumption) (fun inv => ?rutb2)
  case yutb2 => (intro w' hSw; (try dsimp only at hSw); obtain ⟨s0, s1, s2⟩ := hSw; go_simp; (try with_reducible rfl))
  simp only [Act.put, List.setIfInBounds_toArray, List.set_cons_zero, List.set_cons_succ]
  refine Goes.take (i := 3) (v := ?vutb3) (some 19) hE rfl rfl inv (by kernel_rfl) (by kernel_rfl) (by decide) (fun _ _ _ h => h) (Or.inl ⟨by rfl, ?yutb3⟩) (by assumption) (fun inv => ?rutb3)
  case yutb3 => (intro w' hSw; (try dsimp only at hSw); obtain ⟨s0, s1, s2⟩ := hSw; go_simp; (try with_reducible rfl))
  simp only [Act.put, List.setIfInBounds_toArray, List.set_cons_zero, List.set_cons_succ]
  refine Goes.take (i := 5) (v := ?vutb5) (some 21) hE rfl rfl inv (by kernel_rfl) (by kernel_rfl) (by decide) (fun _ _ _ h => h) (Or.inl ⟨by rfl, ?yutb5⟩) (by assumption) (fun inv => ?rutb5)
  case yutb5 => (intro w' hSw; (try dsimp only at hSw); obtain ⟨s0, s1, s2⟩ := hSw; go_simp; (try with_reducible rfl))
  simp only [Act.put, List.setIfInBounds_toArray, List.set_cons_zero, List.set_cons_succ]
  refine Goes.take (i := 6) (v := ?vutb6) (some 22) hE rfl rfl inv (by kernel_rfl) (by kernel_rfl) (by decide) (fun _ _ _ h => h) (Or.inl ⟨by rfl, ?yutb6⟩) (by assumption) (fun inv => ?rutb6)
  case yutb6 => (intro w' hSw; (try dsimp only at hSw); obtain ⟨s0, s1, s2⟩ := hSw; go_simp; (try with_reducible rfl))
  simp only [Act.put, List.setIfInBounds_toArray, List.set_cons_zero, List.set_cons_succ]
  refine Goes.take (i := 7) (v := ?vutb7) (some 23) hE rfl rfl inv (by kernel_rfl) (by kernel_rfl) (by decide) (fun _ _ _ h => h) (Or.inl ⟨by rfl, ?yutb7⟩) (by assumption) (fun inv => ?rutb7)
  case yutb7 => (intro w' hSw; (try dsimp only at hSw); obtain ⟨s0, s1, s2⟩ := hSw; go_simp; (try with_reducible rfl))
  simp only [Act.put, List.setIfInBounds_toArray, List.set_cons_zero, List.set_cons_succ]
  refine Goes.one (i := 4) inv (by kernel_rfl) (by decide) rfl (fun inv K' hK => ?_)
  go_simp
  refine (opposite_impl a _ (I0.out).1 (by have := (I0.out).2; omega)).mono ?_
  rintro e w' ⟨rfl, hw'⟩
  have hw' := hw'.symm
  subst hw'
  (try go_wp2_with fail)
  refine hK.out _ _ (HKC2.out _ (below_drewN _ 1)) (fun hHeld => ?_)
  clear hK K'
  (try simp only [Act.put, List.setIfInBounds_toArray, List.set_cons_zero, List.set_cons_succ])
  refine Goes.one (i := 8) inv (by kernel_rfl) (by decide) rfl (fun inv K' hK => ?_)
  go_simp
  refine hK.out _ _ (HKC2.out _ ((below_drewN _ 1).alloc (by simp) _)) (fun hHeld => ?_)
  clear hK K'
  (try simp only [Act.put, List.setIfInBounds_toArray, List.set_cons_zero, List.set_cons_succ])
  refine Goes.one (i := 9) inv (by kernel_rfl) (by decide) rfl (fun inv K' hK => ?_)
  go_simp
  refine (and_impl M mb B n _ v2 F (notL a) c w2.heap.size 0 2 2 _ (HM2.out.below ((below_drewN _ 1).alloc (by simp) _)) hn0 hn (by omega) ((not_in I0.out).more J2.out.2.1) (I2.out.more J2.out.2.1) (by omega) (pair_at _ _ _ _).1 (pair_at _ _ _ _).2).mono ?_
  rintro e w3 ⟨v3, rfl, hmk, hch, hnw⟩
  rw [HE3.out] at hmk ⊢
  have hch' : ChgB M mb v2 w2 w3 := (ChgB.of_below ((below_drewN _ 1).alloc (by simp) _)).trans (New.refl _ _) hch
  have hnw' : New w2 v2 v3 := (New.refl w2 v2).trans hnw (by simp)
  have HM3 := hid hmk
  have HCh3 := hid (HCh2.out.trans HNw2.out hch')
  have HNw3 := hid (HNw2.out.trans hnw' HCh2.out.size)
  have hap3 : some kg ≠ v3.ownBlock := new_apart hnw' hap2 hgk2
  have hgk3 : kg < w3.heap.size := Nat.lt_of_lt_of_le hgk2 hch'.size
  have HKC3 : Hid (∀ w8 : World, Below w3.heap.size w3 w8 → w8.cell? ⟨kg, ko, none⟩ = some (.int .i64 a) ∧ w8.cell? ⟨kg, ko + 1, none⟩ = some (.int .i64 b) ∧ w8.cell? ⟨kg, ko + 2, none⟩ = some (.int .i64 c)) := hid (fun w8 hb => by
    obtain ⟨y0, y1, y2⟩ := HKC2.out _ (Below.refl _ _)
    exact ⟨keep hb (hch'.cell hgM hgm hap2 y0), keep hb (hch'.cell hgM hgm hap2 y1), keep hb (hch'.cell hgM hgm hap2 y2)⟩)
  clear hmk hch hnw hch' hnw'
  (try go_wp2_with fail)
  refine hK.out _ _ (HKC3.out _ (Below.refl _ _)) (fun hHeld => ?_)
  clear hK K'
  (try simp only [Act.put, List.setIfInBounds_toArray, List.set_cons_zero, List.set_cons_succ])
  refine Goes.last (by kernel_rfl) (by kernel_rfl) rfl (fun K' hK => ?_)
  go_simp
  refine hK.out _ _ ?_
  clear hK K' hHeld
  (try simp only [Exit.then])
  have hbA : Below w3.heap.size w3 (w3.alloc (.cells #[.int .i64 r2, .int .i64 r3] 3)) := (by repeat (first | exact Below.refl _ _ | assumption | refine Below.drew ?_ | refine Below.alloc ?_ (by first | exact Nat.le_refl _ | omega | (simp; done) | (simp; omega)) _ | refine Below.setCell ?_ (by first | exact Nat.le_refl _ | omega | (simp; done) | (simp; omega)) _))
  have HBA := hid hbA
  have hM3 : w3.heap.size ≠ M := by have := HM3.out.lt; have := HM3.out.le; omega
  have hm3 : w3.heap.size ≠ mb := by have := HM3.out.mlt; have := HM3.out.le; omega
  have hv3 : some w3.heap.size ≠ v3.ownBlock := fun e => by have := (World.ownsRow.lt HM3.out.own _ e.symm).2; omega
  clear hbA
  go_wp2_with fail
  refine (or_impl M mb B n g3 v3 F r2 r3 w3.heap.size 0 2 _ (HM3.out.below HBA.out) hn0 hn (by omega) (J2.out.1.more (by first | omega | (simp only; omega))) J3.out.1 (by simp [go_sem]) (by simp [go_sem]) hM3 hm3 hv3).mono ?_
  rintro e w4 ⟨v4, rfl, hmk, hch, hnw⟩
  have HM4 := hid hmk
  have hch' : ChgB M mb v3 w3 w4 := (ChgB.of_below HBA.out).trans (New.refl _ _) hch
  have hnw' : New w3 v3 v4 := (New.refl w3 v3).trans hnw (by simp)
  have HCh4 := hid (HCh3.out.trans HNw3.out hch')
  have HNw4 := hid (HNw3.out.trans hnw' HCh3.out.size)
  clear hmk hch hnw hch' hnw'
  go_wp2
  go_ret
  exact ⟨v4, rfl, HM4.out, HCh4.out, HNw4.out⟩
end Go.Proofs.Ytgjfgkdmfahkaaa.buildOpsT
