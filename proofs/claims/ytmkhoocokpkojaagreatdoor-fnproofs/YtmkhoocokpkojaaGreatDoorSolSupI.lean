import Derived.Test.YtmkhoocokpkojaaGreatDoorSolBackI
import Derived.Test.YtmkhoocokpkojaaGreatDoorSolPropI
import Derived.Test.YtmkhoocokpkojaaGreatDoorPart29
import Derived.Test.YtmkhoocokpkojaaGreatDoorPart18
import Derived.Test.YtmkhoocokpkojaaGreatDoorPart10
namespace Go.Proofs.YtmkhoocokpkojaaGreatDoor.solSupI
open Go.RowKit Go.Deep Go.Maps Go base sets setsOf solSets solOps solMath solHold solMem solFail solDue solExpect solPush solLoop solMove solHoldI solProp solPropI solClose solTrail solBackI solAddI heldStore drawn drawnLin drawnApp stepAppend
set_option linter.unusedVariables false
set_option linter.unusedSimpArgs false
theorem set_other {w w1 : World} {b P O : Nat} (h : SetAt w b P O) (hb : w1.heap[b]? = w.heap[b]?) : SetAt w1 b P O := World.rowIs.of_block h hb
set_option maxHeartbeats 6400000 in
set_option maxRecDepth 8000 in
theorem suppose_impl (G : LS) (M mb : Nat) (F : Nat → Value) (V : Int → Value) (s : Sv) (w : World) (h : Sol 0 M mb F V s w) (hv0 : V 0 = nilV) (hf : Full s) (hF : s.F = -1) (hD : s.D = []) (hs : Stk G s) (S1 S2 : Nat) (wS : Wf (S1, S2)) (cS : Cons (S1, S2)) (hlen : s.C.length ≤ 8000000000000) (hK : s.K.length ≤ 100000) :
  Calls Tryz.prog 68 #[.pointer (some ⟨M, 0, none⟩), .agg #[.int .u64 S1, .int .u64 S2]] w fun e w' => e = .returned (.bool (supS s (S1, S2)).2) ∧ ∃ F' V', Sol 0 M mb F' V' (supS s (S1, S2)).1 w' ∧ V' 0 = nilV ∧ Chg M mb (blk 0 F V) (blk 0 F' V') w w' ∧ F' 2 = F 2 := by
 have HS := hid h
 have HV0 := hid hv0
 have HFu := hid hf
 have HStk := hid hs
 have HTl : Hid (s.T.length ≤ 41) := hid (fresh_most hs.tr.fresh)
 have HKr : Hid (w.ownsRow 0 3 1 (F 8) s.K.length (intsN s.K)) := hid (h.rows 1004 (by omega))
 have HTr : Hid (w.ownsRow 0 136 2 (F 7) s.T.length (flatP s.T)) := hid (h.rows 1003 (by omega))
 obtain ⟨ka, kc, hka⟩ := own_form HKr.out
 obtain ⟨ta, tc, hta⟩ := own_form HTr.out
 have k8 := h.cell (i := 8) (by omega)
 have k7 := h.cell (i := 7) (by omega)
 rw [hka] at k8 HKr
 rw [hta] at k7 HTr
 have HKa := hid hka
 have HTa := hid hta
 obtain ⟨kl, hkl⟩ : ∃ q, s.K.length = q := ⟨_, rfl⟩
 obtain ⟨tl, htl⟩ : ∃ q, s.T.length = q := ⟨_, rfl⟩
 have HKl := hid hkl
 have HTle := hid htl
 rw [hkl] at k8 HKr hK HKa
 rw [htl] at k7 HTr HTl HTa
 have htl41 := HTl.out
 obtain ⟨w1, hw1⟩ : ∃ w1, w.alloc (.cells #[.int .u64 S1, .int .u64 S2] 68) = w1 := ⟨_, rfl⟩
 have hb1 : Below w.heap.size w w1 := by rw [← hw1]; exact (by repeat (first | exact Below.refl _ _ | assumption | refine Below.drew ?_ | refine Below.alloc ?_ (by first | exact Nat.le_refl _ | omega | (simp; done) | (simp; omega)) _ | refine Below.setCell ?_ (by first | exact Nat.le_refl _ | omega | (simp; done) | (simp; omega)) _))
 have hMl := h.lt.1
 have HS1 := hid (h.below hb1)
 have HB1 := hid hb1
 have HCb0 : Hid (w1.cell? ⟨w.heap.size, 0, none⟩ = some (.int .u64 S1) ∧ w1.cell? ⟨w.heap.size, 1, none⟩ = some (.int .u64 S2)) := hid (by rw [← hw1]; exact ⟨by simp [go_sem], by simp [go_sem]⟩)
 have HSw := hid h
 have HW1 := hid hw1
 have HFx := hid hF
 have HDx := hid hD
 clear hF hD hw1 hka hta h hkl htl hv0 hf hs k7 k8 hb1 HKr HTr HS
 go_enter Tryz.func68, Tryz.ntmps68
 go_wp2_with fail
 rw [HW1.out]
 obtain ⟨i0, hi0, hzz⟩ := Option.map_eq_some_iff.1 solPush.info_i
 simp only [Prod.mk.injEq] at hzz
 obtain ⟨hz0, hz1, hz2⟩ := hzz
 have HI := hid hi0
 have HZ0 := hid hz0
 have HZ1 := hid hz1
 have HZ2 := hid hz2
 clear hi0 hz0 hz1 hz2
 have HMc : Hid (∀ w8 : World, World.grownBy w1 w8 (Value.ownBlock (.slice ka kl kc)) → w8.cell? ⟨M, 7, none⟩ = some (.slice ta tl tc) ∧ w8.cell? ⟨M, 8, none⟩ = some (.slice ka kl kc) ∧ w8.frozen? ⟨M, 8, none⟩ = false ∧ M < w8.heap.size) := hid (fun w8 hg => by
  have hne : some M ≠ Value.ownBlock (.slice ka kl kc) := fun e => (HS1.out.off 1004 M (by rw [blk_ne (by omega)]; show (F 8).ownBlock = _; rw [HKa.out]; exact e.symm)).1 rfl
  have hM := HS1.out.lt.1
  have hb := hg.block M hM hne
  have c7 := HS1.out.cell (i := 7) (by omega)
  have c8 := HS1.out.cell (i := 8) (by omega)
  rw [HTa.out] at c7
  rw [HKa.out] at c8
  exact ⟨(World.cell?_of_block (a := ⟨M, 7, none⟩) hb).trans c7, (World.cell?_of_block (a := ⟨M, 8, none⟩) hb).trans c8, (World.frozen?_of_block (a := ⟨M, 8, none⟩) hb).trans (HS1.out.frozen 8), Nat.lt_of_lt_of_le hM hg.size⟩)
 have HKr : Hid (World.ownsRow w1 0 3 1 (.slice ka kl kc) kl (intsN s.K)) := hid (by have := HS1.out.rows 1004 (by omega); have this : World.ownsRow w1 0 3 1 (F 8) s.K.length (intsN s.K) := this; rw [HKa.out, HKl.out] at this; exact this)
 have HOw : Hid (∀ w8 : World, Below (World.heap w1).size w1 w8 → w8.ownsRow 0 3 1 (.slice ka kl kc) kl (intsN s.K)) := hid (fun w8 hb => own_kept HKr.out fun g hg => hb.block g (World.ownsRow.lt HKr.out g hg).2)
 have HRl : Hid (∀ j, Value.ownBlock (.slice ka kl kc) = some j → j < (World.heap w1).size) := hid (fun j hj => (World.ownsRow.lt HKr.out j hj).2)
 have HSt : Hid (∀ (w8 : World) (va : Option Addr) (vc : Nat), World.grownBy w1 w8 (Value.ownBlock (.slice ka kl kc)) → w8.ownsRow 0 3 1 (.slice va (kl + 1) vc) (kl + 1) (intsN s.K ++ [.int .i64 (tl : Int)]) → (Value.ownBlock (.slice va (kl + 1) vc) = Value.ownBlock (.slice ka kl kc) ∨ Value.ownBlock (.slice va (kl + 1) vc) = none ∨ ∃ g, (World.heap w1).size ≤ g ∧ Value.ownBlock (.slice va (kl + 1) vc) = some g) → ∃ Fb, Sol 0 M mb Fb V (pushS s) (w8.setCell ⟨M, 8, none⟩ (.slice va (kl + 1) vc)) ∧ Chg M mb (blk 0 F V) (blk 0 Fb V) w1 (w8.setCell ⟨M, 8, none⟩ (.slice va (kl + 1) vc)) ∧ Fb 2 = F 2) := hid (fun w8 va vc hg ho hl => by
  have := Sol.store HS1.out (by omega) (a0 := 1004) (c := 8) (by simp) (v' := .slice va (kl + 1) vc) (s' := pushS s) (w1 := w8) (by show World.grownBy w1 w8 (F 8).ownBlock; rw [HKa.out]; exact hg) (by show w8.ownsRow 0 3 1 _ (s.K ++ [s.T.length]).length (intsN (s.K ++ [s.T.length])); rw [List.length_append, HKl.out, HTle.out]; unfold intsN; rw [List.map_append]; exact ho) (by show _ = (F 8).ownBlock ∨ _; rw [HKa.out]; exact hl) (fun a ha v w hr => by unfold RowA pushS at *; simpa [ha] using hr) rfl rfl rfl
  exact ⟨_, this.1, this.2, rfl⟩)
 refine region_app (fun ua => ⟨#[.pointer (some ⟨M, 0, none⟩), .agg #[.int .u64 S1, .int .u64 S2], undef, .pointer (some ⟨w.heap.size, 0, none⟩), .bool false, undef, ua 6, ua 7, ua 8, ua 9, ua 10, ua 11, ua 12, ua 13, ua 14, ua 15, ua 16, ua 17, ua 18, ua 19, undef, undef, undef, undef, undef, undef, undef, undef, undef, undef, undef, undef, undef, undef, undef, undef, undef, undef, undef, undef, undef, undef, undef, undef, undef, undef, undef, undef, undef, undef, undef, undef, undef, undef], []⟩) (fun i => [6, 7, 8, 9, 10, 11, 12, 13, 14, 15, 16, 17, 18, 19].getD i 0) (fun i v w8 => match i with | 0 => v = .pointer (some ⟨M, 0, none⟩) | 1 => v = .pointer (some ⟨M, 0, none⟩) | 2 => v = .pointer (some ⟨M, 0, none⟩) | 3 => v = .pointer (some ⟨M, 8, none⟩) | 4 => v = .slice ka kl kc | 5 => v = .pointer (some ⟨M, 0, none⟩) | 6 => v = .pointer (some ⟨M, 0, none⟩) | 7 => v = .pointer (some ⟨M, 7, none⟩) | 8 => v = .slice ta tl tc | 9 => v = .int .i64 (tl : Int) | 10 => ∃ gb, v = .slice (some ⟨gb, 0, none⟩) 1 1 ∧ (World.heap w1).size ≤ gb ∧ World.cell? w8 ⟨gb, 0, none⟩ = some (.int .i64 (tl : Int)) | 11 => World.ownsRow w8 0 3 1 v (kl + 1) (intsN s.K ++ [.int .i64 (tl : Int)]) ∧ (Value.ownBlock v = Value.ownBlock (.slice ka kl kc) ∨ Value.ownBlock v = none ∨ ∃ g, (World.heap w1).size ≤ g ∧ Value.ownBlock v = some g) | 12 => v = .pointer (some ⟨M, 0, none⟩) | 13 => v = .pointer (some ⟨M, 8, none⟩) | _ => True) w1 (Value.ownBlock (.slice ka kl kc)) 11 14 (fun k => match k with | 6 => undef | 7 => undef | 8 => undef | 9 => undef | 10 => undef | 11 => undef | 12 => undef | 13 => undef | 14 => undef | 15 => undef | 16 => undef | 17 => undef | 18 => undef | 19 => undef | _ => undef) (by rfl) (by kernel_rfl) (by rfl) ⟨by kernel_rfl, by kernel_rfl, by kernel_rfl, by decide⟩ (by kernel_rfl) (Below.refl _ _) ?hput ?hinj ?stB ?stA ?step ?last
 case hput =>
  intro i hi ua v
  match i, hi with
  | 0, _ => rfl
  | 1, _ => rfl
  | 2, _ => rfl
  | 3, _ => rfl
  | 4, _ => rfl
  | 5, _ => rfl
  | 6, _ => rfl
  | 7, _ => rfl
  | 8, _ => rfl
  | 9, _ => rfl
  | 10, _ => rfl
  | 11, _ => rfl
  | 12, _ => rfl
  | 13, _ => rfl
  | i + 14, hi => exact absurd hi (by omega)
 case hinj =>
  intro i j hi hj h
  exact slots_inj [6, 7, 8, 9, 10, 11, 12, 13, 14, 15, 16, 17, 18, 19] (by decide) hi hj h
 case stB =>
  intro i v w8 w9 hb h
  match i, h with
  | 0, h => exact h
  | 1, h => exact h
  | 2, h => exact h
  | 3, h => exact h
  | 4, h => exact h
  | 5, h => exact h
  | 6, h => exact h
  | 7, h => exact h
  | 8, h => exact h
  | 9, h => exact h
  | 10, h =>
   obtain ⟨gb, e1, e2, e3⟩ := h
   exact ⟨gb, e1, e2, keep hb e3⟩
  | 11, h => exact ⟨own_kept h.1 fun g hg => hb.block g (World.ownsRow.lt h.1 g hg).2, h.2⟩
  | 12, h => exact h
  | 13, h => exact h
  | _ + 14, h => trivial
 case stA =>
  intro i v w8 w9 hne hb hg h
  match i, hne, h with
  | 0, _, h => exact h
  | 1, _, h => exact h
  | 2, _, h => exact h
  | 3, _, h => exact h
  | 4, _, h => exact h
  | 5, _, h => exact h
  | 6, _, h => exact h
  | 7, _, h => exact h
  | 8, _, h => exact h
  | 9, _, h => exact h
  | 10, _, h =>
   obtain ⟨gb, e1, e2, e3⟩ := h
   exact ⟨gb, e1, e2, (World.cell?_of_block (a := ⟨gb, 0, none⟩) (hg.block gb (World.block_lt_of_cell? _ _ e3) (fun e => by have := HRl.out gb e.symm; omega))).trans e3⟩
  | 11, hne, h => exact absurd rfl hne
  | 12, _, h => exact h
  | 13, _, h => exact h
  | _ + 14, _, h => trivial
 case step =>
  intro i hi ua w8 S8 hq hdep
  match i, hi, hq, hdep with
  | 0, _, hq, hdep =>
   clear hdep
   refine ⟨_, rfl, fun K' hK => ?_⟩
   go_simp
   exact hK.out _ _ (drawnApp.grown_refl _ _) (fun _ => Below.refl _ _) rfl
  | 1, _, hq, hdep =>
   clear hdep
   refine ⟨_, rfl, fun K' hK => ?_⟩
   go_simp
   exact hK.out _ _ (drawnApp.grown_refl _ _) (fun _ => Below.refl _ _) rfl
  | 2, _, hq, hdep =>
   have h1 : (ua 7) = .pointer (some ⟨M, 0, none⟩) := hdep 1 (by kernel_rfl)
   clear hdep
   refine ⟨_, rfl, fun K' hK => ?_⟩
   simp only [h1] at hK ⊢
   go_simp
   exact hK.out _ _ (drawnApp.grown_refl _ _) (fun _ => Below.refl _ _) rfl
  | 3, _, hq, hdep =>
   have h2 : (ua 8) = .pointer (some ⟨M, 0, none⟩) := hdep 2 (by kernel_rfl)
   clear hdep
   refine ⟨_, rfl, fun K' hK => ?_⟩
   simp only [h2] at hK ⊢
   go_simp
   exact hK.out _ _ (drawnApp.grown_refl _ _) (fun _ => Below.refl _ _) rfl
  | 4, _, hq, hdep =>
   have h3 : (ua 9) = .pointer (some ⟨M, 8, none⟩) := hdep 3 (by kernel_rfl)
   clear hdep
   refine ⟨_, rfl, fun K' hK => ?_⟩
   obtain ⟨-, qc, -, -⟩ := HMc.out w8 S8
   simp only [h3] at hK ⊢
   go_simp
   exact hK.out _ _ (drawnApp.grown_refl _ _) (fun _ => Below.refl _ _) rfl
  | 5, _, hq, hdep =>
   clear hdep
   refine ⟨_, rfl, fun K' hK => ?_⟩
   go_simp
   exact hK.out _ _ (drawnApp.grown_refl _ _) (fun _ => Below.refl _ _) rfl
  | 6, _, hq, hdep =>
   have h5 : (ua 11) = .pointer (some ⟨M, 0, none⟩) := hdep 5 (by kernel_rfl)
   clear hdep
   refine ⟨_, rfl, fun K' hK => ?_⟩
   simp only [h5] at hK ⊢
   go_simp
   exact hK.out _ _ (drawnApp.grown_refl _ _) (fun _ => Below.refl _ _) rfl
  | 7, _, hq, hdep =>
   have h6 : (ua 12) = .pointer (some ⟨M, 0, none⟩) := hdep 6 (by kernel_rfl)
   clear hdep
   refine ⟨_, rfl, fun K' hK => ?_⟩
   simp only [h6] at hK ⊢
   go_simp
   exact hK.out _ _ (drawnApp.grown_refl _ _) (fun _ => Below.refl _ _) rfl
  | 8, _, hq, hdep =>
   have h7 : (ua 13) = .pointer (some ⟨M, 7, none⟩) := hdep 7 (by kernel_rfl)
   clear hdep
   refine ⟨_, rfl, fun K' hK => ?_⟩
   obtain ⟨qc, -, -, -⟩ := HMc.out w8 S8
   simp only [h7] at hK ⊢
   go_simp
   exact hK.out _ _ (drawnApp.grown_refl _ _) (fun _ => Below.refl _ _) rfl
  | 9, _, hq, hdep =>
   have h8 : (ua 14) = .slice ta tl tc := hdep 8 (by kernel_rfl)
   clear hdep
   refine ⟨_, rfl, fun K' hK => ?_⟩
   simp only [h8] at hK ⊢
   go_simp
   exact hK.out _ _ (drawnApp.grown_refl _ _) (fun _ => Below.refl _ _) rfl
  | 10, _, hq, hdep =>
   have h9 : (ua 15) = .int .i64 (tl : Int) := hdep 9 (by kernel_rfl)
   clear hdep
   refine ⟨_, rfl, fun K' hK => ?_⟩
   simp only [h9] at hK ⊢
   go_simp
   exact hK.out _ _ (drawnApp.grown_below (by repeat (first | exact Below.refl _ _ | assumption | refine Below.drew ?_ | refine Below.alloc ?_ (by first | exact Nat.le_refl _ | omega | (simp; done) | (simp; omega)) _ | refine Below.setCell ?_ (by first | exact Nat.le_refl _ | omega | (simp; done) | (simp; omega)) _))) (fun _ => (by repeat (first | exact Below.refl _ _ | assumption | refine Below.drew ?_ | refine Below.alloc ?_ (by first | exact Nat.le_refl _ | omega | (simp; done) | (simp; omega)) _ | refine Below.setCell ?_ (by first | exact Nat.le_refl _ | omega | (simp; done) | (simp; omega)) _))) ⟨w8.heap.size, rfl, S8.size, by simp [go_sem]⟩
  | 11, _, hq, hdep =>
   have h4 : (ua 10) = .slice ka kl kc := hdep 4 (by kernel_rfl)
   have h10 : ∃ gb, (ua 16) = .slice (some ⟨gb, 0, none⟩) 1 1 ∧ (World.heap w1).size ≤ gb ∧ World.cell? w8 ⟨gb, 0, none⟩ = some (.int .i64 (tl : Int)) := hdep 10 (by kernel_rfl)
   clear hdep
   refine ⟨_, rfl, fun K' hK => ?_⟩
   obtain ⟨gb, e10, hgb, hc10⟩ := h10
   refine step_append_at w8 rfl _ _ 52 rfl (some 17) rfl 0 3 i0 (.int .i64 0) 1 8 Tryz.underlying52 HI.out HZ0.out HZ1.out HZ2.out rfl (by decide) _ _ _ h4 (HOw.out w8 (hq rfl)) ⟨gb, 0, none⟩ 1 1 [.int .i64 (tl : Int)] e10 rfl (fun t y ht => by rw [Addr.add_lit]; cases t with | zero => (injection ht with ht; rw [← ht]; exact hc10) | succ t => (cases ht)) (fun y hy => by simp at hy; subst hy; rfl) (by unfold maxLen; omega) (by omega) (Nat.zero_le _) ?_
   intro v' w' hown hg hat
   refine hK.out v' w' hg (fun h => absurd rfl h) ⟨hown, ?_⟩
   rcases hat with hat | hat
   · exact .inl hat
   · exact .inr (.inr ⟨_, S8.size, hat⟩)
  | 12, _, hq, hdep =>
   have h0 : (ua 6) = .pointer (some ⟨M, 0, none⟩) := hdep 0 (by kernel_rfl)
   clear hdep
   refine ⟨_, rfl, fun K' hK => ?_⟩
   simp only [h0] at hK ⊢
   go_simp
   exact hK.out _ _ (drawnApp.grown_refl _ _) (fun _ => Below.refl _ _) rfl
  | 13, _, hq, hdep =>
   have h12 : (ua 18) = .pointer (some ⟨M, 0, none⟩) := hdep 12 (by kernel_rfl)
   clear hdep
   refine ⟨_, rfl, fun K' hK => ?_⟩
   simp only [h12] at hK ⊢
   go_simp
   exact hK.out _ _ (drawnApp.grown_refl _ _) (fun _ => Below.refl _ _) rfl
  | i + 14, hi, _, _ => exact absurd hi (by omega)
 case last =>
  intro ua w8 S8 hall
  have h11 : World.ownsRow w8 0 3 1 (ua 17) (kl + 1) (intsN s.K ++ [.int .i64 (tl : Int)]) ∧ (Value.ownBlock (ua 17) = Value.ownBlock (.slice ka kl kc) ∨ Value.ownBlock (ua 17) = none ∨ ∃ g, (World.heap w1).size ≤ g ∧ Value.ownBlock (ua 17) = some g) := hall 11 (by decide)
  have h13 : (ua 19) = .pointer (some ⟨M, 8, none⟩) := hall 13 (by decide)
  clear hall
  refine ⟨_, rfl, fun K' hK => ?_⟩
  obtain ⟨vn, hvn⟩ : ∃ vn, ua 17 = vn := ⟨_, rfl⟩
  rw [hvn] at h11
  obtain ⟨va, vc, e11⟩ := own_form h11.1
  subst e11
  obtain ⟨-, qc, qf, -⟩ := HMc.out w8 S8
  obtain ⟨Fb, qs1, qs2, qsf⟩ := HSt.out w8 va vc S8 h11.1 h11.2
  have HFb2 := hid qsf
  clear qsf
  have HSb := hid qs1
  have HCb := hid qs2
  clear qs1 qs2
  simp only [h13, hvn] at hK ⊢
  go_simp
  refine hK.out _ _ ?_
  clear h11 h13 hvn qc qf S8
  generalize w8.setCell ⟨M, 8, none⟩ (.slice va (kl + 1) vc) = wa at *
  have HCa : Hid (wa.cell? ⟨w.heap.size, 0, none⟩ = some (.int .u64 S1) ∧ wa.cell? ⟨w.heap.size, 1, none⟩ = some (.int .u64 S2)) := hid ⟨box_far HSw.out HCb.out HCb0.out.1, box_far HSw.out HCb.out HCb0.out.2⟩
  have m5 : wa.cell? ⟨M, 5, none⟩ = some (.int .u64 s.H.1) := by have q := HSb.out.cell (i := 5) (by omega); rw [HSb.out.f5] at q; exact q
  have m6 : wa.cell? ⟨M, 6, none⟩ = some (.int .u64 s.H.2) := by have q := HSb.out.cell (i := 6) (by omega); rw [HSb.out.f6] at q; exact q
  obtain ⟨H1, hH1⟩ : ∃ q, s.H.1 = q := ⟨_, rfl⟩
  obtain ⟨H2, hH2⟩ : ∃ q, s.H.2 = q := ⟨_, rfl⟩
  rw [hH1] at m5
  rw [hH2] at m6
  have hwH := HFu.out.ok.wfH.lt
  rw [hH1, hH2] at hwH
  have HHH : Hid (s.H = (H1, H2)) := hid (by rw [← hH1, ← hH2])
  have hwS := wS.lt
  dsimp only at hwS
  obtain ⟨bm, hbm⟩ : ∃ q, meetL (S1, S2) (turnL s.H) = q := ⟨_, rfl⟩
  have HTu := hid (fun w : World => turned_impl H1 H2 w)
  have HMe : Hid (∀ w : World, Calls Tryz.prog 71 #[.agg #[.int .u64 S1, .int .u64 S2], .agg #[.int .u64 H2, .int .u64 H1]] w fun e w' => e = .returned (.bool bm) ∧ Below w.heap.size w w') := hid (fun w => by
   have := meets_impl S1 S2 H2 H1 w hwS.1 hwS.2 hwH.2 hwH.1
   have e : meetB S1 S2 H2 H1 = bm := by rw [← hbm, HHH.out]; rfl
   rw [e] at this
   exact this)
  have HBm := hid hbm
  have HK1 : Hid (∀ w9 : World, Below wa.heap.size wa w9 → w9.cell? ⟨w.heap.size, 0, none⟩ = some (.int .u64 S1) ∧ w9.cell? ⟨w.heap.size, 1, none⟩ = some (.int .u64 S2) ∧ w9.cell? ⟨M, 5, none⟩ = some (.int .u64 H1) ∧ w9.cell? ⟨M, 6, none⟩ = some (.int .u64 H2)) := hid (fun w9 hb => ⟨keep hb HCa.out.1, keep hb HCa.out.2, keep hb m5, keep hb m6⟩)
  obtain ⟨n0, n1, n5, n6⟩ := HK1.out wa (Below.refl _ _)
  clear hH1 hH2 hbm m5 m6
  go_upto_region 2 with fail
  go_cut [26] from 20 to 26 (fun s26 wc => s26 = .bool bm ∧ Below wa.heap.size wa wc)
  case first =>
   go_region_with (first
    | (go_at_call 69; refine (HTu.out _).mono ?_; rintro e5 w5 ⟨rfl, hb5⟩; have HB5 := hid ((show Below wa.heap.size wa _ from (by repeat (first | exact Below.refl _ _ | assumption | refine Below.drew ?_ | refine Below.alloc ?_ (by first | exact Nat.le_refl _ | omega | (simp; done) | (simp; omega)) _ | refine Below.setCell ?_ (by first | exact Nat.le_refl _ | omega | (simp; done) | (simp; omega)) _))).trans (hb5.mono (by simp))); obtain ⟨p0, p1, p5, p6⟩ := HK1.out w5 HB5.out; clear hb5)
    | (go_at_call 71; refine (HMe.out _).mono ?_; rintro e6 w6 ⟨rfl, hb6⟩; have HB6 := hid (HB5.out.trans (hb6.mono HB5.out.size)); clear hb6))
   all_goals
    go_wp2_with fail
    go_meet
    exact ⟨rfl, HB6.out⟩
  case rest =>
   generalize wc = wq at *
   obtain ⟨rfl, hbc⟩ := hcut
   obtain ⟨c0, c1, c5, c6⟩ := HK1.out wq hbc
   have HBc := hid hbc
   clear hbc n0 n1 n5 n6
   cases hbv : bm with
   | true =>
    have HRes : Hid (supS s (S1, S2) = (pushS s, true)) := hid (by unfold supS; rw [HBm.out, hbv, if_pos rfl])
    clear hbv
    go_wp2_with fail
    go_ret
    refine ⟨by rw [HRes.out]; rfl, Fb, V, by rw [HRes.out]; exact HSb.out.below HBc.out, HV0.out, ?_⟩
    exact ⟨(Chg.below HB1.out).trans (HCb.out.trans (Chg.below HBc.out)), HFb2.out⟩
   | false =>
    obtain ⟨Q1, hQ1⟩ : ∃ q, (woL (S1, S2) s.H).1 = q := ⟨_, rfl⟩
    obtain ⟨Q2, hQ2⟩ : ∃ q, (woL (S1, S2) s.H).2 = q := ⟨_, rfl⟩
    have HQ : Hid (woL (S1, S2) s.H = (Q1, Q2)) := hid (by rw [← hQ1, ← hQ2])
    have HWo : Hid (∀ w : World, Calls Tryz.prog 72 #[.agg #[.int .u64 S1, .int .u64 S2], .agg #[.int .u64 H1, .int .u64 H2]] w fun e w' => e = .returned (.agg #[.int .u64 Q1, .int .u64 Q2]) ∧ Below w.heap.size w w') := hid (fun w => by
     have := without_impl S1 S2 H1 H2 w hwS.1 hwS.2 hwH.1 hwH.2
     have e1 : Q1 = S1 &&& (18446744073709551615 - H1) := by rw [← hQ1, HHH.out]; rfl
     have e2 : Q2 = S2 &&& (18446744073709551615 - H2) := by rw [← hQ2, HHH.out]; rfl
     rw [e1, e2]
     exact this)
    have HRes : Hid (supS s (S1, S2) = (propF (meas (supF 42 (pushS s) (Q1, Q2)) + 1) (supF 42 (pushS s) (Q1, Q2)), decide ((propF (meas (supF 42 (pushS s) (Q1, Q2)) + 1) (supF 42 (pushS s) (Q1, Q2))).F ≠ -1))) := hid (by unfold supS; rw [HBm.out, hbv, if_neg Bool.false_ne_true, HQ.out])
    have HOk : Hid (SupOk (pushS s) (S1, S2) (Q1, Q2)) := hid (by rw [← HQ.out]; exact sup_start HFu.out wS cS (by rw [HBm.out, hbv]; decide))
    have HFp : Hid (Full (pushS s)) := hid (push_full HFu.out)
    have HSp : Hid (Stk G (pushS s)) := hid (push_stk HFu.out HFx.out HDx.out HStk.out)
    clear hQ1 hQ2 hbv
    have HBd : Hid (wa.heap.size ≤ wq.heap.size) := hid HBc.out.size
    have HK4 : Hid (∀ w9 : World, Below wq.heap.size wq w9 → w9.cell? ⟨w.heap.size, 0, none⟩ = some (.int .u64 S1) ∧ w9.cell? ⟨w.heap.size, 1, none⟩ = some (.int .u64 S2) ∧ w9.cell? ⟨M, 5, none⟩ = some (.int .u64 H1) ∧ w9.cell? ⟨M, 6, none⟩ = some (.int .u64 H2)) := hid (fun w9 hb => ⟨keep hb c0, keep hb c1, keep hb c5, keep hb c6⟩)
    go_upto_region 4 with fail
    go_cut [5] from 5 to 32 (fun s5 wd => ∃ R : Nat, s5 = .pointer (some ⟨R, 0, none⟩) ∧ wq.heap.size ≤ R ∧ SetAt wd R Q1 Q2 ∧ Below wq.heap.size wq wd)
    case first =>
     refine region_below (fun ub => ⟨#[.pointer (some ⟨M, 0, none⟩), .agg #[.int .u64 S1, .int .u64 S2], undef, .pointer (some ⟨w.heap.size, 0, none⟩), .bool false, ub 5, ua 6, ua 7, ua 8, ua 9, ua 10, ua 11, ua 12, ua 13, ua 14, ua 15, ua 16, .slice va (kl + 1) vc, ua 18, .pointer (some ⟨M, 8, none⟩), u20, u21, u22, u23, u24, u25, .bool false, ub 27, ub 28, ub 29, ub 30, ub 31, ub 32, undef, undef, undef, undef, undef, undef, undef, undef, undef, undef, undef, undef, undef, undef, undef, undef, undef, undef, undef, undef, undef], []⟩) (fun i => [27, 28, 29, 30, 31, 32, 5].getD i 0) (fun i v w8 => match i with | 0 => v = .agg #[.int .u64 S1, .int .u64 S2] | 1 => v = .pointer (some ⟨M, 0, none⟩) | 2 => v = .pointer (some ⟨M, 0, none⟩) | 3 => v = .pointer (some ⟨M, 5, none⟩) | 4 => v = .agg #[.int .u64 H1, .int .u64 H2] | 5 => v = .agg #[.int .u64 Q1, .int .u64 Q2] | 6 => ∃ R : Nat, v = .pointer (some ⟨R, 0, none⟩) ∧ wq.heap.size ≤ R ∧ SetAt w8 R 0 0 | _ => True) wq 7 (fun k => match k with | 27 => undef | 28 => undef | 29 => undef | 30 => undef | 31 => undef | 32 => undef | 5 => undef | _ => undef) (by rfl) (by kernel_rfl) (by rfl) ⟨by kernel_rfl, by kernel_rfl, by kernel_rfl, by decide⟩ (by kernel_rfl) (Below.refl _ _) ?hput ?hinj ?stable ?step ?last
     case hput =>
      intro i hi ub v
      match i, hi with
      | 0, _ => rfl
      | 1, _ => rfl
      | 2, _ => rfl
      | 3, _ => rfl
      | 4, _ => rfl
      | 5, _ => rfl
      | 6, _ => rfl
      | i + 7, hi => exact absurd hi (by omega)
     case hinj =>
      intro i j hi hj h
      exact slots_inj [27, 28, 29, 30, 31, 32, 5] (by decide) hi hj h
     case stable =>
      intro i v w8 w9 hb h
      match i, h with
      | 0, h => exact h
      | 1, h => exact h
      | 2, h => exact h
      | 3, h => exact h
      | 4, h => exact h
      | 5, h => exact h
      | 6, h => obtain ⟨R, e1, e2, e3⟩ := h; exact ⟨R, e1, e2, e3.below hb⟩
      | _ + 7, h => trivial
     case step =>
      intro i hi ub w8 S8 hdep
      match i, hi with
      | 0, _ =>
       clear hdep
       refine ⟨_, rfl, fun K' hK => ?_⟩
       obtain ⟨y0, y1, y5, y6⟩ := HK4.out w8 S8
       go_simp
       exact hK.out _ _ (Below.refl _ _) rfl
      | 1, _ =>
       clear hdep
       refine ⟨_, rfl, fun K' hK => ?_⟩
       go_simp
       exact hK.out _ _ (Below.refl _ _) rfl
      | 2, _ =>
       have h1 : (ub 28) = .pointer (some ⟨M, 0, none⟩) := hdep 1 (by kernel_rfl)
       clear hdep
       refine ⟨_, rfl, fun K' hK => ?_⟩
       simp only [h1] at hK ⊢
       go_simp
       exact hK.out _ _ (Below.refl _ _) rfl
      | 3, _ =>
       have h2 : (ub 29) = .pointer (some ⟨M, 0, none⟩) := hdep 2 (by kernel_rfl)
       clear hdep
       refine ⟨_, rfl, fun K' hK => ?_⟩
       simp only [h2] at hK ⊢
       go_simp
       exact hK.out _ _ (Below.refl _ _) rfl
      | 4, _ =>
       have h3 : (ub 30) = .pointer (some ⟨M, 5, none⟩) := hdep 3 (by kernel_rfl)
       clear hdep
       refine ⟨_, rfl, fun K' hK => ?_⟩
       obtain ⟨y0, y1, y5, y6⟩ := HK4.out w8 S8
       simp only [h3] at hK ⊢
       go_simp
       exact hK.out _ _ (Below.refl _ _) rfl
      | 5, _ =>
       have h0 : (ub 27) = .agg #[.int .u64 S1, .int .u64 S2] := hdep 0 (by kernel_rfl)
       have h4 : (ub 31) = .agg #[.int .u64 H1, .int .u64 H2] := hdep 4 (by kernel_rfl)
       clear hdep
       refine ⟨_, rfl, fun K' hK => ?_⟩
       simp only [h0, h4] at hK ⊢
       go_simp
       refine (HWo.out _).mono ?_
       rintro e w9 ⟨rfl, hb9⟩
       exact hK.out _ _ hb9 rfl
      | 6, _ =>
       clear hdep
       refine ⟨_, rfl, fun K' hK => ?_⟩
       go_simp
       exact hK.out _ _ (by repeat (first | exact Below.refl _ _ | assumption | refine Below.drew ?_ | refine Below.alloc ?_ (by first | exact Nat.le_refl _ | omega | (simp; done) | (simp; omega)) _ | refine Below.setCell ?_ (by first | exact Nat.le_refl _ | omega | (simp; done) | (simp; omega)) _)) ⟨w8.heap.size, rfl, S8.size, SetAt.new w8 0 0⟩
      | i + 7, hi => exact absurd hi (by omega)
     case last =>
      intro ub w8 S8 hall
      have h5 : (ub 32) = .agg #[.int .u64 Q1, .int .u64 Q2] := hall 5 (by decide)
      have h6 : ∃ R : Nat, (ub 5) = .pointer (some ⟨R, 0, none⟩) ∧ wq.heap.size ≤ R ∧ SetAt w8 R 0 0 := hall 6 (by decide)
      clear hall
      refine ⟨_, rfl, fun K' hK => ?_⟩
      obtain ⟨R, e6, hR, hset⟩ := h6
      obtain ⟨g0, g1, z0, z1⟩ := hset.facts
      simp only [h5, e6] at hK ⊢
      go_simp
      refine hK.out _ _ ?_
      have q1 := hset.put Q1 Q2
      have q2 : Below wq.heap.size wq ((w8.setCell ⟨R, 0, none⟩ (.int .u64 Q1)).setCell ⟨R, 1, none⟩ (.int .u64 Q2)) := (S8.setCell hR _).setCell hR _
      go_wp2_with fail
      go_meet
      exact ⟨R, rfl, hR, q1, q2⟩
    case rest =>
     obtain ⟨R, rfl, hR, hset, hbd⟩ := hcut
     obtain ⟨E, hE⟩ : ∃ E, supF 42 (pushS s) (Q1, Q2) = E := ⟨_, rfl⟩
     rw [hE] at HRes
     have HE : Hid (∀ k, free (pushS s).H < k → supF k (pushS s) (Q1, Q2) = E) := hid (fun k hk => by rw [← hE]; exact sup_same _ _ _ _ HFp.out HOk.out hk (by have := free_most (pushS s).H; omega))
     have HSc : Hid (Sol 0 M mb Fb V (pushS s) wc) := hid ((HSb.out.below HBc.out).below hbd)
     have HCc : Hid (Chg M mb (blk 0 Fb V) (blk 0 Fb V) wa wc) := hid ((Chg.below HBc.out).trans (Chg.below hbd))
     have HRf : Hid (R ≠ M ∧ R ≠ mb ∧ ∀ a, blk 0 Fb V a ≠ some R) := hid (by
      have h1 := HSb.out.lt
      have h2 := HBd.out
      exact ⟨by omega, by omega, fun a e => by have := HSb.out.blt e; omega⟩)
     have HSet := hid hset
     clear hE hR hset hbd c0 c1 c5 c6 HK4 HK1
     go_wp2_with fail
     go_loopg [5] (free (pushS s).H) (fun g bx wr => ∃ (Fj : Nat → Value) (Vj : Int → Value) (sj : Sv) (r : LS) (R : Nat), bx = .pointer (some ⟨R, 0, none⟩) ∧ Sol 0 M mb Fj Vj sj wr ∧ Vj 0 = nilV ∧ Chg M mb (blk 0 Fb V) (blk 0 Fj Vj) wa wr ∧ (R ≠ M ∧ R ≠ mb ∧ ∀ a, blk 0 Fj Vj a ≠ some R) ∧ SetAt wr R r.1 r.2 ∧ Full sj ∧ Stk G sj ∧ SupOk sj (S1, S2) r ∧ free sj.H ≤ g ∧ (∀ k, free sj.H < k → supF k sj r = E) ∧ sj.C.length ≤ 8000000000000 ∧ Fj 2 = F 2)
     case atStart => exact ⟨Fb, V, pushS s, (Q1, Q2), R, rfl, HSc.out, HV0.out, HCc.out, HRf.out, HSet.out, HFp.out, HSp.out, HOk.out, Nat.le_refl _, HE.out, hlen, HFb2.out⟩
     case round =>
      obtain ⟨Fj, Vj, sj, r, Rj, rfl, hS, hv, hC, hrf, hset, hfu, hst, hok, hfr, hE, hl, hf2⟩ := hrel
      have HF2j := hid hf2
      clear hf2
      obtain ⟨r1, r2⟩ := r
      obtain ⟨e0, e1, y0, y1⟩ := hset.facts
      dsimp only at e0 e1
      have HSj := hid hS
      have HVj := hid hv
      have HCj := hid hC
      have HRj := hid hrf
      have HSe := hid hset
      have HFj := hid hfu
      have HSt2 := hid hst
      have HOj := hid hok
      have HEj := hid hE
      have HTj : Hid (sj.T.length ≤ 41) := hid (fresh_most hst.tr.fresh)
      have hwr := hok.wr
      clear hS hv hC hrf hset hfu hst hok hE
      by_cases h0 : (r1, r2) = ((0, 0) : LS)
      · injection h0 with ha hb
        subst ha
        subst hb
        have HEe : Hid (sj = E) := hid (by rw [← HEj.out (free sj.H + 1) (Nat.lt_succ_self _), supF_end rfl])
        go_wp2_with fail
        refine (propagate_impl M mb Fj Vj sj _ (HSj.out.below (by repeat (first | exact Below.refl _ _ | assumption | refine netSem.bdn ?_ _ | refine Below.drew ?_ | refine Below.alloc ?_ (by first | exact Nat.le_refl _ | omega | (simp; done) | (simp; omega)) _))) HVj.out HFj.out hl (by have := free_most sj.H; have := HTj.out; omega)).mono ?_
        rintro e w5 ⟨rfl, F', V', q1, qv, q2, qf⟩
        have HFf := hid (qf.trans HF2j.out)
        clear qf
        have k10 := q1.cell (i := 10) (by omega)
        rw [q1.f10] at k10
        obtain ⟨f, hf9⟩ : ∃ f, (propF (meas sj + 1) sj).F = f := ⟨_, rfl⟩
        rw [hf9] at k10
        have HQ1 := hid q1
        have HQv := hid qv
        have HQ2 := hid ((Chg.below HB1.out).trans (HCb.out.trans (HCj.out.trans ((Chg.below (show Below wr.heap.size wr _ from (by repeat (first | exact Below.refl _ _ | assumption | refine netSem.bdn ?_ _ | refine Below.drew ?_ | refine Below.alloc ?_ (by first | exact Nat.le_refl _ | omega | (simp; done) | (simp; omega)) _)))).trans q2))))
        have HF9 := hid hf9
        clear q1 qv q2 hf9
        have HAns : Hid ((supS s (S1, S2)).1 = propF (meas sj + 1) sj ∧ (supS s (S1, S2)).2 = decide (f ≠ -1)) := hid (by rw [HRes.out, ← HEe.out]; exact ⟨rfl, by rw [HF9.out]⟩)
        go_wp2_with fail
        go_ret
        refine ⟨?_, F', V', by rw [HAns.out.1]; exact HQ1.out.below (by repeat (first | exact Below.refl _ _ | assumption | refine netSem.bdn ?_ _ | refine Below.drew ?_ | refine Below.alloc ?_ (by first | exact Nat.le_refl _ | omega | (simp; done) | (simp; omega)) _)), HQv.out, HQ2.out.trans (Chg.below (by repeat (first | exact Below.refl _ _ | assumption | refine netSem.bdn ?_ _ | refine Below.drew ?_ | refine Below.alloc ?_ (by first | exact Nat.le_refl _ | omega | (simp; done) | (simp; omega)) _))), HFf.out⟩
        rw [HAns.out.2]
        exact ret_bool (by by_cases hq : f = -1 <;> simp [hq])
      · have hne : (r1 = 0 ∧ r2 ≠ 0) ∨ r1 ≠ 0 := by
         by_cases ha : r1 = 0
         · exact .inl ⟨ha, fun hb => h0 (by rw [ha, hb])⟩
         · exact .inr ha
        obtain ⟨⟨l0, lo, no⟩, hmS⟩ := sup_head HFj.out HOj.out h0
        have HNx := hid (sup_next HFj.out HOj.out h0)
        have HNf := hid (sup_free HFj.out HOj.out h0)
        have HNu := hid (sup_full HFj.out HOj.out h0)
        have HNs := hid (stk_hold (r := -1) HFj.out.ok HSt2.out (fun i hi => .inl (HFj.out.st i hi)) l0 lo no)
        have HNe : Hid (∀ k, free (holdS sj (firstL (r1, r2)) (-1)).H < k → supF k (holdS sj (firstL (r1, r2)) (-1)) (woL (r1, r2) (holdS sj (firstL (r1, r2)) (-1)).H) = E) := hid (fun k hk => by
         rw [← HEj.out (k + 1 + free sj.H) (by omega), show k + 1 + free sj.H = (k + free sj.H) + 1 by omega, supF_step h0]
         exact sup_same _ _ _ _ HNu.out HNx.out hk (by omega))
        have hhs := hold_same sj (firstL (r1, r2)) (-1)
        have HNc : Hid ((holdS sj (firstL (r1, r2)) (-1)).C.length ≤ 8000000000000) := hid (by rw [hhs.1]; exact hl)
        have HFi : Hid (∀ w : World, Tab w → Calls Tryz.prog 73 #[.agg #[.int .u64 r1, .int .u64 r2]] w fun e w' => e = .returned (.int .i64 (firstL (r1, r2))) ∧ Below w.heap.size w w') := hid (fun w ht => first_impl (r1, r2) w hwr ht)
        have HHo := hid (fun (w : World) (h : Sol 0 M mb Fj Vj sj w) => hold_impl M mb Fj Vj sj w h HVj.out (firstL (r1, r2)) (-1) HFj.out.ok (fun i hi => .inl (HFj.out.st i hi)) l0 lo no (by omega) hl (by have := HTj.out; omega))
        obtain ⟨l, hl9⟩ : ∃ l, firstL (r1, r2) = l := ⟨_, rfl⟩
        rw [hl9] at HNx HNf HNu HNs HNe HNc HFi HHo
        have hwn := HNx.out.wr
        have hwH := HNu.out.ok.wfH
        obtain ⟨sn, hsn⟩ : ∃ sn, holdS sj l (-1) = sn := ⟨_, rfl⟩
        rw [hsn] at HNx HNf HNu HNs HNe HNc HHo hwn hwH
        obtain ⟨G1, hG1⟩ : ∃ q, sn.H.1 = q := ⟨_, rfl⟩
        obtain ⟨G2, hG2⟩ : ∃ q, sn.H.2 = q := ⟨_, rfl⟩
        have HG : Hid (sn.H = (G1, G2)) := hid (by rw [← hG1, ← hG2])
        obtain ⟨Z1, hZ1⟩ : ∃ q, (woL (r1, r2) sn.H).1 = q := ⟨_, rfl⟩
        obtain ⟨Z2, hZ2⟩ : ∃ q, (woL (r1, r2) sn.H).2 = q := ⟨_, rfl⟩
        have HZ : Hid (woL (r1, r2) sn.H = (Z1, Z2)) := hid (by rw [← hZ1, ← hZ2])
        have hg := hwH.lt
        have hr := hwr.lt
        rw [hG1, hG2] at hg
        dsimp only at hr
        have HWz : Hid (∀ w : World, Calls Tryz.prog 72 #[.agg #[.int .u64 r1, .int .u64 r2], .agg #[.int .u64 G1, .int .u64 G2]] w fun e w' => e = .returned (.agg #[.int .u64 Z1, .int .u64 Z2]) ∧ Below w.heap.size w w') := hid (fun w => by
         have := without_impl r1 r2 G1 G2 w hr.1 hr.2 hg.1 hg.2
         have e1 : Z1 = r1 &&& (18446744073709551615 - G1) := by rw [← hZ1, HG.out]; rfl
         have e2 : Z2 = r2 &&& (18446744073709551615 - G2) := by rw [← hZ2, HG.out]; rfl
         rw [e1, e2]
         exact this)
        clear hwr h0 l0 lo no hmS hhs hl9 hwn hwH hsn hG1 hG2 hZ1 hZ2 hg hr
        rcases hne with ⟨rfl, hne⟩ | hne
        · have d3 : ¬ ((r2 : Int) = 0) := by omega
          clear hne
          go_wp2_with fail
          refine (HFi.out _ HSj.out.tab).mono ?_
          rintro e w5 ⟨rfl, hb5⟩
          have HB5 := hid hb5
          clear hb5
          go_wp2_with fail
          refine (HHo.out _ (HSj.out.below HB5.out)).mono ?_
          rintro e w6 ⟨rfl, F', V', q1, qv, q2, qf⟩
          have HFf := hid (qf.trans HF2j.out)
          clear qf
          have hR5 : Rj < w5.heap.size := Nat.lt_of_lt_of_le HSe.out.lt HB5.out.size
          have HSe6 := hid (set_other (HSe.out.below HB5.out) (q2.block Rj hR5 HRj.out.1 HRj.out.2.1 HRj.out.2.2))
          have HQ1 := hid q1
          have HQv := hid qv
          have HQ2 := hid (HCj.out.trans ((Chg.below HB5.out).trans q2))
          have m5 : w6.cell? ⟨M, 5, none⟩ = some (.int .u64 sn.H.1) := by have q := q1.cell (i := 5) (by omega); rw [q1.f5] at q; exact q
          have m6 : w6.cell? ⟨M, 6, none⟩ = some (.int .u64 sn.H.2) := by have q := q1.cell (i := 6) (by omega); rw [q1.f6] at q; exact q
          rw [HG.out] at m5 m6
          have hM6 := q1.lt.1
          obtain ⟨g0, g1, zz0, zz1⟩ := HSe6.out.facts
          clear q1 qv q2 hR5 e0 e1 y0 y1
          go_wp2_with fail
          go_region_with (go_at_call 72; refine (HWz.out _).mono ?_; rintro e7 w7 ⟨rfl, hb7⟩; have HB7 := hid ((show Below w6.heap.size w6 _ from (by repeat (first | exact Below.refl _ _ | assumption | refine Below.drew ?_ | refine Below.alloc ?_ (by first | exact Nat.le_refl _ | omega | (simp; done) | (simp; omega)) _ | refine Below.setCell ?_ (by first | exact Nat.le_refl _ | omega | (simp; done) | (simp; omega)) _))).trans (hb7.mono (by simp))); have HS7 : Hid (SetAt w7 w6.heap.size 0 r2) := hid (SetAt.below (SetAt.below (SetAt.new w6 0 r2) (by repeat (first | exact Below.refl _ _ | assumption | refine Below.drew ?_ | refine Below.alloc ?_ (by first | exact Nat.le_refl _ | omega | (simp; done) | (simp; omega)) _ | refine Below.setCell ?_ (by first | exact Nat.le_refl _ | omega | (simp; done) | (simp; omega)) _))) hb7); obtain ⟨j0, j1, jz0, jz1⟩ := HS7.out.facts; clear hb7)
          all_goals
           have HBf : Hid (Below w6.heap.size w6 ((w7.setCell ⟨w6.heap.size, 0, none⟩ (.int .u64 Z1)).setCell ⟨w6.heap.size, 1, none⟩ (.int .u64 Z2))) := hid ((HB7.out.setCell (Nat.le_refl _) _).setCell (Nat.le_refl _) _)
           have HSf := hid (HS7.out.put Z1 Z2)
           go_wp2_with fail
           go_roundg (free sn.H)
           case measure => have := HNf.out; omega
           case rel =>
            refine ⟨F', V', sn, (Z1, Z2), w6.heap.size, rfl, HQ1.out.below HBf.out, HQv.out, HQ2.out.trans (Chg.below HBf.out), ⟨?_, ?_, ?_⟩, HSf.out, HNu.out, HNs.out, ?_, Nat.le_refl _, ?_, HNc.out, HFf.out⟩
            · have := HQ1.out.lt; omega
            · have := HQ1.out.lt; omega
            · intro a e
              have := HQ1.out.blt e
              omega
            · have := HNx.out; rw [HZ.out] at this; exact this
            · have := HNe.out; rw [HZ.out] at this; exact this
        · have d3 : ¬ ((r1 : Int) = 0) := by omega
          clear hne
          go_wp2_with fail
          refine (HFi.out _ HSj.out.tab).mono ?_
          rintro e w5 ⟨rfl, hb5⟩
          have HB5 := hid hb5
          clear hb5
          go_wp2_with fail
          refine (HHo.out _ (HSj.out.below HB5.out)).mono ?_
          rintro e w6 ⟨rfl, F', V', q1, qv, q2, qf⟩
          have HFf := hid (qf.trans HF2j.out)
          clear qf
          have hR5 : Rj < w5.heap.size := Nat.lt_of_lt_of_le HSe.out.lt HB5.out.size
          have HSe6 := hid (set_other (HSe.out.below HB5.out) (q2.block Rj hR5 HRj.out.1 HRj.out.2.1 HRj.out.2.2))
          have HQ1 := hid q1
          have HQv := hid qv
          have HQ2 := hid (HCj.out.trans ((Chg.below HB5.out).trans q2))
          have m5 : w6.cell? ⟨M, 5, none⟩ = some (.int .u64 sn.H.1) := by have q := q1.cell (i := 5) (by omega); rw [q1.f5] at q; exact q
          have m6 : w6.cell? ⟨M, 6, none⟩ = some (.int .u64 sn.H.2) := by have q := q1.cell (i := 6) (by omega); rw [q1.f6] at q; exact q
          rw [HG.out] at m5 m6
          have hM6 := q1.lt.1
          obtain ⟨g0, g1, zz0, zz1⟩ := HSe6.out.facts
          clear q1 qv q2 hR5 e0 e1 y0 y1
          go_wp2_with fail
          go_region_with (go_at_call 72; refine (HWz.out _).mono ?_; rintro e7 w7 ⟨rfl, hb7⟩; have HB7 := hid ((show Below w6.heap.size w6 _ from (by repeat (first | exact Below.refl _ _ | assumption | refine Below.drew ?_ | refine Below.alloc ?_ (by first | exact Nat.le_refl _ | omega | (simp; done) | (simp; omega)) _ | refine Below.setCell ?_ (by first | exact Nat.le_refl _ | omega | (simp; done) | (simp; omega)) _))).trans (hb7.mono (by simp))); have HS7 : Hid (SetAt w7 w6.heap.size r1 r2) := hid (SetAt.below (SetAt.below (SetAt.new w6 r1 r2) (by repeat (first | exact Below.refl _ _ | assumption | refine Below.drew ?_ | refine Below.alloc ?_ (by first | exact Nat.le_refl _ | omega | (simp; done) | (simp; omega)) _ | refine Below.setCell ?_ (by first | exact Nat.le_refl _ | omega | (simp; done) | (simp; omega)) _))) hb7); obtain ⟨j0, j1, jz0, jz1⟩ := HS7.out.facts; clear hb7)
          all_goals
           have HBf : Hid (Below w6.heap.size w6 ((w7.setCell ⟨w6.heap.size, 0, none⟩ (.int .u64 Z1)).setCell ⟨w6.heap.size, 1, none⟩ (.int .u64 Z2))) := hid ((HB7.out.setCell (Nat.le_refl _) _).setCell (Nat.le_refl _) _)
           have HSf := hid (HS7.out.put Z1 Z2)
           go_wp2_with fail
           go_roundg (free sn.H)
           case measure => have := HNf.out; omega
           case rel =>
            refine ⟨F', V', sn, (Z1, Z2), w6.heap.size, rfl, HQ1.out.below HBf.out, HQv.out, HQ2.out.trans (Chg.below HBf.out), ⟨?_, ?_, ?_⟩, HSf.out, HNu.out, HNs.out, ?_, Nat.le_refl _, ?_, HNc.out, HFf.out⟩
            · have := HQ1.out.lt; omega
            · have := HQ1.out.lt; omega
            · intro a e
              have := HQ1.out.blt e
              omega
            · have := HNx.out; rw [HZ.out] at this; exact this
            · have := HNe.out; rw [HZ.out] at this; exact this
end Go.Proofs.YtmkhoocokpkojaaGreatDoor.solSupI
