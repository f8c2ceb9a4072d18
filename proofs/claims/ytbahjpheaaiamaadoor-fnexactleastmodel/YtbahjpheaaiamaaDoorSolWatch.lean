/- A solver of the program: a clause watches two literals (watch); conditions: literals of its variables, lengths that fit. -/
import Derived.Test.YtbahjpheaaiamaaDoorPart11
namespace Go.Proofs.YtbahjpheaaiamaaDoor.solWatch
open Go.RowKit Go.Deep Go.Maps Go base sets setsOf solSets solOps solMath solHold solMem solFail solDue solExpect solPush heldStore drawn drawnLin drawnApp stepAppend
set_option linter.unusedVariables false
set_option linter.unusedSimpArgs false

/-- What watch leaves. -/
def watS (s : Sv) (nb : Nat) (x y : Int) : Sv := if y = 0 then { s with W := s.W.set nb (x, y), L := solMath.upd s.L x (s.L x ++ [nb]) } else { s with W := s.W.set nb (x, y), L := solMath.upd (solMath.upd s.L x (s.L x ++ [nb])) y ((solMath.upd s.L x (s.L x ++ [nb])) y ++ [nb]) }
set_option maxHeartbeats 3200000 in
set_option maxRecDepth 8000 in
theorem watch_impl (z : Int) (M mb : Nat) (F : Nat → Value) (V : Int → Value) (s : Sv) (w : World) (h : Sol z M mb F V s w) (hz : z ≤ 40) (nb : Nat) (x y : Int) (hi : nb < s.W.length) (hl : s.W.length ≤ 8400000000000) (hx : x ≠ 0 ∧ -40 ≤ x ∧ x ≤ 40 ∧ x ≠ z) (hy : -40 ≤ y ∧ y ≤ 40 ∧ (y ≠ 0 → y ≠ z)) (hL : ∀ q, q ≠ 0 → (s.L q).length ≤ 8200000000000) :
    Calls Tryd.prog 59 #[.pointer (some ⟨M, 0, none⟩), .int .i64 nb, .int .i64 x, .int .i64 y] w fun e w' => e = .returned (.tuple #[]) ∧ ∃ V', Sol z M mb F V' (watS s nb x y) w' ∧ Chg M mb (blk z F V) (blk z F V') w w' ∧ V' 0 = V 0 := by
  obtain ⟨g, cap, hF3, hm3, c0, c1, hfz⟩ := Sol.watch h hz hi
  have c3 := h.cell (i := 3) (by omega)
  rw [hF3] at c3
  have f0 := hfz (nb * 2)
  have f1 := hfz (nb * 2 + 1)
  unfold maxLen at hm3
  obtain ⟨q1, q2⟩ := Sol.setWatch h hz hi hF3 (x, y)
  have HS1' := hid q1
  have HC1 := hid q2
  have hil : (nb : Int) < (s.W.length : Int) := by omega
  obtain ⟨i0, hi9, hzz⟩ := Option.map_eq_some_iff.1 solPush.info_i
  simp only [Prod.mk.injEq] at hzz
  obtain ⟨hz0, hz1, hz2⟩ := hzz
  have HI := hid hi9
  have HZ0 := hid hz0
  have HZ1 := hid hz1
  have HZ2 := hid hz2
  obtain ⟨hk2, hk0, hk1, hkz⟩ := hx
  have HY := hid hy
  have HLl := hid hL
  have HX0 := hid hk2
  have hLk : (s.L x).length ≤ 8400000000000 := by have := hL x hk2; omega
  clear hz0 hz1 hz2 hi9 q1 q2 h hfz hF3 hL hi
  obtain ⟨WL, hWL⟩ : ∃ WL, s.W.length = WL := ⟨_, rfl⟩
  rw [hWL] at c3 hm3 hl hil
  clear hWL
  go_enter Tryd.func59, Tryd.ntmps59
  go_wp2
  clear c0 c1 c3 f0 f1
  obtain ⟨w1, hw1⟩ : ∃ w1, (w.setCell ⟨g, nb * 2, none⟩ (.int .i64 x)).setCell ⟨g, nb * 2 + 1, none⟩ (.int .i64 y) = w1 := ⟨_, rfl⟩
  have HS1 : Hid (Sol z M mb F V { s with W := s.W.set nb (x, y) } w1) := hid (by rw [← hw1]; exact HS1'.out)
  have HCa : Hid (Chg M mb (blk z F V) (blk z F V) w w1) := hid (by rw [← hw1]; exact HC1.out)
  rw [hw1]
  clear hw1 HS1' HC1
  obtain ⟨s1, hs1⟩ : ∃ s1 : Sv, { s with W := s.W.set nb (x, y) } = s1 := ⟨_, rfl⟩
  rw [hs1] at HS1
  have hLk' : (s1.L x).length ≤ 8400000000000 := by rw [← hs1]; exact hLk
  have HL1 : Hid (s1.L = s.L) := hid (by rw [← hs1])
  have HE1 := hid hs1
  clear hs1 hLk
  have HMc : Hid (∀ w8 : World, World.grownBy w1 w8 (V x).ownBlock → w8.cell? ⟨M, 4, none⟩ = some (.map (some mb))) := hid (fun w8 hg => by
    have q := HS1.out.cell (i := 4) (by omega)
    rw [HS1.out.f4] at q
    rw [World.cell?_of_block (a := ⟨M, 4, none⟩) (hg.block M HS1.out.lt.1 (Sol.offV HS1.out hk1 hkz).1)]
    exact q)
  have HLk : Hid (∀ w8 : World, World.grownBy w1 w8 (V x).ownBlock → (Instr.lookup 63 (.map (some mb)) (.int .i64 x) false).run Tryd.prog w8 = .ok (V x) w8) := hid (fun w8 hg => Sol.lookAt HS1.out hk0 hk1 hg (Sol.offV HS1.out hk1 hkz).2)
  have HOw : Hid (∀ w8 : World, Below w1.heap.size w1 w8 → w8.ownsRow 0 3 1 (V x) (s1.L x).length (intsN (s1.L x))) := hid (fun w8 hb => own_kept (Sol.rowOf HS1.out hk0 hk1 hk2 hkz) fun g hg => hb.block g (World.ownsRow.lt (Sol.rowOf HS1.out hk0 hk1 hk2 hkz) g hg).2)
  have HRl : Hid (∀ j, (V x).ownBlock = some j → j < w1.heap.size) := hid (fun j hj => (World.ownsRow.lt (Sol.rowOf HS1.out hk0 hk1 hk2 hkz) j hj).2)
  refine region_app (fun uu => ⟨#[.pointer (some ⟨M, 0, none⟩), .int .i64 (nb : Int), .int .i64 x, .int .i64 y, undef, undef, undef, undef, .pointer (some ⟨M, 0, none⟩), .pointer (some ⟨M, 0, none⟩), .pointer (some ⟨M, 3, none⟩), .slice (some ⟨g, 0, none⟩) WL cap, .int .i64 (nb : Int), .int .i64 x, .int .i64 y, .agg #[.int .i64 x, .int .i64 y], .pointer (some ⟨g, nb * 2, none⟩), uu 17, uu 18, uu 19, uu 20, uu 21, uu 22, uu 23, uu 24, uu 25, uu 26, uu 27, uu 28, uu 29, uu 30, undef, undef, undef, undef, undef, undef, undef, undef, undef, undef, undef, undef, undef, undef, undef, undef], []⟩) (fun i => [17, 18, 19, 20, 21, 22, 23, 24, 25, 26, 27, 28, 29, 30].getD i 0) (fun i v w8 => match i with | 0 => v = .pointer (some ⟨M, 0, none⟩) | 1 => v = .pointer (some ⟨M, 0, none⟩) | 2 => v = .pointer (some ⟨M, 4, none⟩) | 3 => v = .map (some mb) | 4 => v = .int .i64 x | 5 => v = .pointer (some ⟨M, 0, none⟩) | 6 => v = .pointer (some ⟨M, 0, none⟩) | 7 => v = .pointer (some ⟨M, 4, none⟩) | 8 => v = .map (some mb) | 9 => v = .int .i64 x | 10 => v = V x | 11 => v = .int .i64 (nb : Int) | 12 => ∃ gb, v = .slice (some ⟨gb, 0, none⟩) 1 1 ∧ w1.heap.size ≤ gb ∧ World.cell? w8 ⟨gb, 0, none⟩ = some (.int .i64 (nb : Int)) | 13 => World.ownsRow w8 0 3 1 v ((s1.L x).length + 1) (intsN (s1.L x) ++ [.int .i64 (nb : Int)]) ∧ (Value.ownBlock v = (V x).ownBlock ∨ Value.ownBlock v = none ∨ ∃ g, w1.heap.size ≤ g ∧ Value.ownBlock v = some g) | _ => True) w1 (V x).ownBlock 13 14 (fun k => match k with | 17 => undef | 18 => undef | 19 => undef | 20 => undef | 21 => undef | 22 => undef | 23 => undef | 24 => undef | 25 => undef | 26 => undef | 27 => undef | 28 => undef | 29 => undef | 30 => undef | _ => undef) (by rfl) (by kernel_rfl) (by rfl) ⟨by kernel_rfl, by kernel_rfl, by kernel_rfl, by decide⟩ (by kernel_rfl) (Below.refl _ _) ?hput ?hinj ?stB ?stA ?step ?last
  case hput =>
    intro i hi uu v
    match i, hi with
    | 0, _ => rfl
    | 1, _ => rfl
    | 2, _ => rfl
    | 3, _ => rfl
    | 4, _ => rfl
    | 5, _ => rfl
    | 6, _ => rfl
    | 7, _ => rfl
    | 8, _ => rfl
    | 9, _ => rfl
    | 10, _ => rfl
    | 11, _ => rfl
    | 12, _ => rfl
    | 13, _ => rfl
    | i + 14, hi => exact absurd hi (by omega)
  case hinj =>
    intro i j hi hj h
    exact slots_inj [17, 18, 19, 20, 21, 22, 23, 24, 25, 26, 27, 28, 29, 30] (by decide) hi hj h
  case stB =>
    intro i v w8 w9 hb h
    match i, h with
    | 0, h => exact h
    | 1, h => exact h
    | 2, h => exact h
    | 3, h => exact h
    | 4, h => exact h
    | 5, h => exact h
    | 6, h => exact h
    | 7, h => exact h
    | 8, h => exact h
    | 9, h => exact h
    | 10, h => exact h
    | 11, h => exact h
    | 12, h =>
      obtain ⟨gb, e1, e2, e3⟩ := h
      exact ⟨gb, e1, e2, keep hb e3⟩
    | 13, h => exact ⟨own_kept h.1 fun g hg => hb.block g (World.ownsRow.lt h.1 g hg).2, h.2⟩
    | _ + 14, h => trivial
  case stA =>
    intro i v w8 w9 hne hb hg h
    match i, hne, h with
    | 0, _, h => exact h
    | 1, _, h => exact h
    | 2, _, h => exact h
    | 3, _, h => exact h
    | 4, _, h => exact h
    | 5, _, h => exact h
    | 6, _, h => exact h
    | 7, _, h => exact h
    | 8, _, h => exact h
    | 9, _, h => exact h
    | 10, _, h => exact h
    | 11, _, h => exact h
    | 12, _, h =>
      obtain ⟨gb, e1, e2, e3⟩ := h
      exact ⟨gb, e1, e2, (World.cell?_of_block (a := ⟨gb, 0, none⟩) (hg.block gb (World.block_lt_of_cell? _ _ e3) (fun e => by have := HRl.out gb e.symm; omega))).trans e3⟩
    | 13, hne, h => exact absurd rfl hne
    | _ + 14, _, h => trivial
  case step =>
    intro i hi uu w8 S8 hq hdep
    match i, hi, hq, hdep with
    | 0, _, hq, hdep =>
      clear hdep
      refine ⟨_, rfl, fun K' hK => ?_⟩
      go_simp
      exact hK.out _ _ (grown_refl _ _) (fun _ => Below.refl _ _) rfl
    | 1, _, hq, hdep =>
      have h0 : (uu 17) = .pointer (some ⟨M, 0, none⟩) := hdep 0 (by kernel_rfl)
      clear hdep
      refine ⟨_, rfl, fun K' hK => ?_⟩
      simp only [h0] at hK ⊢
      go_simp
      exact hK.out _ _ (grown_refl _ _) (fun _ => Below.refl _ _) rfl
    | 2, _, hq, hdep =>
      have h1 : (uu 18) = .pointer (some ⟨M, 0, none⟩) := hdep 1 (by kernel_rfl)
      clear hdep
      refine ⟨_, rfl, fun K' hK => ?_⟩
      simp only [h1] at hK ⊢
      go_simp
      exact hK.out _ _ (grown_refl _ _) (fun _ => Below.refl _ _) rfl
    | 3, _, hq, hdep =>
      have h2 : (uu 19) = .pointer (some ⟨M, 4, none⟩) := hdep 2 (by kernel_rfl)
      clear hdep
      refine ⟨_, rfl, fun K' hK => ?_⟩
      have qc := HMc.out w8 S8
      simp only [h2] at hK ⊢
      go_simp
      exact hK.out _ _ (grown_refl _ _) (fun _ => Below.refl _ _) rfl
    | 4, _, hq, hdep =>
      clear hdep
      refine ⟨_, rfl, fun K' hK => ?_⟩
      go_simp
      exact hK.out _ _ (grown_refl _ _) (fun _ => Below.refl _ _) rfl
    | 5, _, hq, hdep =>
      clear hdep
      refine ⟨_, rfl, fun K' hK => ?_⟩
      go_simp
      exact hK.out _ _ (grown_refl _ _) (fun _ => Below.refl _ _) rfl
    | 6, _, hq, hdep =>
      have h5 : (uu 22) = .pointer (some ⟨M, 0, none⟩) := hdep 5 (by kernel_rfl)
      clear hdep
      refine ⟨_, rfl, fun K' hK => ?_⟩
      simp only [h5] at hK ⊢
      go_simp
      exact hK.out _ _ (grown_refl _ _) (fun _ => Below.refl _ _) rfl
    | 7, _, hq, hdep =>
      have h6 : (uu 23) = .pointer (some ⟨M, 0, none⟩) := hdep 6 (by kernel_rfl)
      clear hdep
      refine ⟨_, rfl, fun K' hK => ?_⟩
      simp only [h6] at hK ⊢
      go_simp
      exact hK.out _ _ (grown_refl _ _) (fun _ => Below.refl _ _) rfl
    | 8, _, hq, hdep =>
      have h7 : (uu 24) = .pointer (some ⟨M, 4, none⟩) := hdep 7 (by kernel_rfl)
      clear hdep
      refine ⟨_, rfl, fun K' hK => ?_⟩
      have qc := HMc.out w8 S8
      simp only [h7] at hK ⊢
      go_simp
      exact hK.out _ _ (grown_refl _ _) (fun _ => Below.refl _ _) rfl
    | 9, _, hq, hdep =>
      clear hdep
      refine ⟨_, rfl, fun K' hK => ?_⟩
      go_simp
      exact hK.out _ _ (grown_refl _ _) (fun _ => Below.refl _ _) rfl
    | 10, _, hq, hdep =>
      have h8 : (uu 25) = .map (some mb) := hdep 8 (by kernel_rfl)
      have h9 : (uu 26) = .int .i64 x := hdep 9 (by kernel_rfl)
      clear hdep
      refine ⟨_, rfl, fun K' hK => ?_⟩
      refine step_look w8 rfl _ _ 63 rfl (some 27) rfl _ _ _ h8 h9 (HLk.out w8 S8) ?_
      exact hK.out _ _ (grown_refl _ _) (fun _ => Below.refl _ _) rfl
    | 11, _, hq, hdep =>
      clear hdep
      refine ⟨_, rfl, fun K' hK => ?_⟩
      go_simp
      exact hK.out _ _ (grown_refl _ _) (fun _ => Below.refl _ _) rfl
    | 12, _, hq, hdep =>
      have h11 : (uu 28) = .int .i64 (nb : Int) := hdep 11 (by kernel_rfl)
      clear hdep
      refine ⟨_, rfl, fun K' hK => ?_⟩
      simp only [h11] at hK ⊢
      go_simp
      exact hK.out _ _ (grown_below (by repeat (first | exact Below.refl _ _ | assumption | refine Below.drew ?_ | refine Below.alloc ?_ (by first | exact Nat.le_refl _ | omega | (simp; done) | (simp; omega)) _ | refine Below.setCell ?_ (by first | exact Nat.le_refl _ | omega | (simp; done) | (simp; omega)) _))) (fun _ => (by repeat (first | exact Below.refl _ _ | assumption | refine Below.drew ?_ | refine Below.alloc ?_ (by first | exact Nat.le_refl _ | omega | (simp; done) | (simp; omega)) _ | refine Below.setCell ?_ (by first | exact Nat.le_refl _ | omega | (simp; done) | (simp; omega)) _))) ⟨w8.heap.size, rfl, S8.size, by simp [go_sem]⟩
    | 13, _, hq, hdep =>
      have h10 : (uu 27) = V x := hdep 10 (by kernel_rfl)
      have h12 : ∃ gb, (uu 29) = .slice (some ⟨gb, 0, none⟩) 1 1 ∧ w1.heap.size ≤ gb ∧ World.cell? w8 ⟨gb, 0, none⟩ = some (.int .i64 (nb : Int)) := hdep 12 (by kernel_rfl)
      clear hdep
      refine ⟨_, rfl, fun K' hK => ?_⟩
      obtain ⟨gb, e12, hgb, hc12⟩ := h12
      refine step_append_at w8 rfl _ _ 36 rfl (some 30) rfl 0 3 i0 (.int .i64 0) 1 8 Tryd.underlying36 HI.out HZ0.out HZ1.out HZ2.out rfl (by decide) _ _ _ h10 (HOw.out w8 (hq rfl)) ⟨gb, 0, none⟩ 1 1 [.int .i64 (nb : Int)] e12 rfl (fun t y ht => by rw [Addr.add_lit]; cases t with | zero => (injection ht with ht; rw [← ht]; exact hc12) | succ t => (cases ht)) (fun y hy => by simp at hy; subst hy; rfl) (by unfold maxLen; omega) (by omega) (Nat.zero_le _) ?_
      intro v' w' hown hg hat
      refine hK.out v' w' hg (fun h => absurd rfl h) ⟨hown, ?_⟩
      rcases hat with hat | hat
      · exact .inl hat
      · exact .inr (.inr ⟨_, S8.size, hat⟩)
    | i + 14, hi, _, _ => exact absurd hi (by omega)
  case last =>
    intro uu w8 S8 hall
    have h3 : (uu 20) = .map (some mb) := hall 3 (by decide)
    have h4 : (uu 21) = .int .i64 x := hall 4 (by decide)
    have h13 : World.ownsRow w8 0 3 1 (uu 30) ((s1.L x).length + 1) (intsN (s1.L x) ++ [.int .i64 (nb : Int)]) ∧ (Value.ownBlock (uu 30) = (V x).ownBlock ∨ Value.ownBlock (uu 30) = none ∨ ∃ g, w1.heap.size ≤ g ∧ Value.ownBlock (uu 30) = some g) := hall 13 (by decide)
    clear hall
    refine ⟨_, rfl, fun K' hK => ?_⟩
    obtain ⟨vn, hvn⟩ : ∃ vn, uu 30 = vn := ⟨_, rfl⟩
    rw [hvn] at h13
    obtain ⟨w2, hr, q1, q2⟩ := Sol.mapPut HS1.out hk0 hk1 hk2 (v' := vn) (s1.L x ++ [nb]) hkz S8 (by rw [List.length_append]; unfold intsN; rw [List.map_append]; exact h13.1) h13.2
    refine step_put w8 w2 rfl _ _ _ 63 rfl none rfl _ _ _ h3 h4 hvn hr ?_
    refine hK.out _ _ ?_
    have HS2 := hid q1
    have HC2 := hid q2
    clear q1 q2 hr h13 h3 h4 S8 HMc HLk HOw HRl
    by_cases hy0 : y = 0
    · have d0 : (y != 0) = false := by simp [hy0]
      have HY0 := hid hy0
      clear hy0
      go_wp2
      go_end0
      refine ⟨rfl, _, ?_, HCa.out.trans HC2.out, by unfold updV; rw [if_neg (fun e => HX0.out e.symm)]⟩
      have := HS2.out
      rw [← HE1.out] at this
      unfold watS
      rw [if_pos HY0.out]
      exact this
    · have d0 : (y != 0) = true := by simp [hy0]
      have HY0 := hid hy0
      clear hy0
      go_wp2
      have hkz2 : y ≠ z := HY.out.2.2 HY0.out
      obtain ⟨hk0', hk1', -⟩ := HY.out
      have hk2' := HY0.out
      have HSw := HS2
      clear hk0 hk1 hk2 hkz hLk' HS1
      obtain ⟨V1, hV1⟩ : ∃ V1, updV V x vn = V1 := ⟨_, rfl⟩
      obtain ⟨s2, hs2⟩ : ∃ s2 : Sv, { s1 with L := solMath.upd s1.L x (s1.L x ++ [nb]) } = s2 := ⟨_, rfl⟩
      rw [hV1, hs2] at HS2
      rw [hV1] at HC2
      have HVe := hid hV1
      have HE2 := hid hs2
      have hLk : (s2.L y).length ≤ 8400000000000 := by
        rw [← hs2]
        show (solMath.upd s1.L x (s1.L x ++ [nb]) y).length ≤ _
        unfold solMath.upd
        rw [HL1.out]
        have h8 := HLl.out x HX0.out
        have h9 := HLl.out y HY0.out
        split
        · simp; omega
        · omega
      clear hs2 hV1 HSw
      have hk0 := hk0'
      have hk1 := hk1'
      have hk2 := hk2'
      have hkz := hkz2
      have HS1 := HS2
      clear HS2 hk0' hk1' hk2' hkz2
      have HCb := HC2
      clear HC2
      have HMc : Hid (∀ w8 : World, World.grownBy w2 w8 (V1 y).ownBlock → w8.cell? ⟨M, 4, none⟩ = some (.map (some mb))) := hid (fun w8 hg => by
        have q := HS1.out.cell (i := 4) (by omega)
        rw [HS1.out.f4] at q
        rw [World.cell?_of_block (a := ⟨M, 4, none⟩) (hg.block M HS1.out.lt.1 (Sol.offV HS1.out hk1 hkz).1)]
        exact q)
      have HLk : Hid (∀ w8 : World, World.grownBy w2 w8 (V1 y).ownBlock → (Instr.lookup 63 (.map (some mb)) (.int .i64 y) false).run Tryd.prog w8 = .ok (V1 y) w8) := hid (fun w8 hg => Sol.lookAt HS1.out hk0 hk1 hg (Sol.offV HS1.out hk1 hkz).2)
      have HOw : Hid (∀ w8 : World, Below w2.heap.size w2 w8 → w8.ownsRow 0 3 1 (V1 y) (s2.L y).length (intsN (s2.L y))) := hid (fun w8 hb => own_kept (Sol.rowOf HS1.out hk0 hk1 hk2 hkz) fun g hg => hb.block g (World.ownsRow.lt (Sol.rowOf HS1.out hk0 hk1 hk2 hkz) g hg).2)
      have HRl : Hid (∀ j, (V1 y).ownBlock = some j → j < w2.heap.size) := hid (fun j hj => (World.ownsRow.lt (Sol.rowOf HS1.out hk0 hk1 hk2 hkz) j hj).2)
      refine region_app (fun ut => ⟨#[.pointer (some ⟨M, 0, none⟩), .int .i64 (nb : Int), .int .i64 x, .int .i64 y, undef, undef, undef, undef, .pointer (some ⟨M, 0, none⟩), .pointer (some ⟨M, 0, none⟩), .pointer (some ⟨M, 3, none⟩), .slice (some ⟨g, 0, none⟩) WL cap, .int .i64 (nb : Int), .int .i64 x, .int .i64 y, .agg #[.int .i64 x, .int .i64 y], .pointer (some ⟨g, nb * 2, none⟩), uu 17, uu 18, uu 19, uu 20, uu 21, uu 22, uu 23, uu 24, uu 25, uu 26, uu 27, uu 28, uu 29, vn, .int .i64 y, .bool true, ut 33, ut 34, ut 35, ut 36, ut 37, ut 38, ut 39, ut 40, ut 41, ut 42, ut 43, ut 44, ut 45, ut 46], []⟩) (fun i => [33, 34, 35, 36, 37, 38, 39, 40, 41, 42, 43, 44, 45, 46].getD i 0) (fun i v w8 => match i with | 0 => v = .pointer (some ⟨M, 0, none⟩) | 1 => v = .pointer (some ⟨M, 0, none⟩) | 2 => v = .pointer (some ⟨M, 4, none⟩) | 3 => v = .map (some mb) | 4 => v = .int .i64 y | 5 => v = .pointer (some ⟨M, 0, none⟩) | 6 => v = .pointer (some ⟨M, 0, none⟩) | 7 => v = .pointer (some ⟨M, 4, none⟩) | 8 => v = .map (some mb) | 9 => v = .int .i64 y | 10 => v = V1 y | 11 => v = .int .i64 (nb : Int) | 12 => ∃ gb, v = .slice (some ⟨gb, 0, none⟩) 1 1 ∧ w2.heap.size ≤ gb ∧ World.cell? w8 ⟨gb, 0, none⟩ = some (.int .i64 (nb : Int)) | 13 => World.ownsRow w8 0 3 1 v ((s2.L y).length + 1) (intsN (s2.L y) ++ [.int .i64 (nb : Int)]) ∧ (Value.ownBlock v = (V1 y).ownBlock ∨ Value.ownBlock v = none ∨ ∃ g, w2.heap.size ≤ g ∧ Value.ownBlock v = some g) | _ => True) w2 (V1 y).ownBlock 13 14 (fun k => match k with | 33 => undef | 34 => undef | 35 => undef | 36 => undef | 37 => undef | 38 => undef | 39 => undef | 40 => undef | 41 => undef | 42 => undef | 43 => undef | 44 => undef | 45 => undef | 46 => undef | _ => undef) (by rfl) (by kernel_rfl) (by rfl) ⟨by kernel_rfl, by kernel_rfl, by kernel_rfl, by decide⟩ (by kernel_rfl) (Below.refl _ _) ?hput ?hinj ?stB ?stA ?step ?last
      case hput =>
        intro i hi ut v
        match i, hi with
        | 0, _ => rfl
        | 1, _ => rfl
        | 2, _ => rfl
        | 3, _ => rfl
        | 4, _ => rfl
        | 5, _ => rfl
        | 6, _ => rfl
        | 7, _ => rfl
        | 8, _ => rfl
        | 9, _ => rfl
        | 10, _ => rfl
        | 11, _ => rfl
        | 12, _ => rfl
        | 13, _ => rfl
        | i + 14, hi => exact absurd hi (by omega)
      case hinj =>
        intro i j hi hj h
        exact slots_inj [33, 34, 35, 36, 37, 38, 39, 40, 41, 42, 43, 44, 45, 46] (by decide) hi hj h
      case stB =>
        intro i v w8 w9 hb h
        match i, h with
        | 0, h => exact h
        | 1, h => exact h
        | 2, h => exact h
        | 3, h => exact h
        | 4, h => exact h
        | 5, h => exact h
        | 6, h => exact h
        | 7, h => exact h
        | 8, h => exact h
        | 9, h => exact h
        | 10, h => exact h
        | 11, h => exact h
        | 12, h =>
          obtain ⟨gb, e1, e2, e3⟩ := h
          exact ⟨gb, e1, e2, keep hb e3⟩
        | 13, h => exact ⟨own_kept h.1 fun g hg => hb.block g (World.ownsRow.lt h.1 g hg).2, h.2⟩
        | _ + 14, h => trivial
      case stA =>
        intro i v w8 w9 hne hb hg h
        match i, hne, h with
        | 0, _, h => exact h
        | 1, _, h => exact h
        | 2, _, h => exact h
        | 3, _, h => exact h
        | 4, _, h => exact h
        | 5, _, h => exact h
        | 6, _, h => exact h
        | 7, _, h => exact h
        | 8, _, h => exact h
        | 9, _, h => exact h
        | 10, _, h => exact h
        | 11, _, h => exact h
        | 12, _, h =>
          obtain ⟨gb, e1, e2, e3⟩ := h
          exact ⟨gb, e1, e2, (World.cell?_of_block (a := ⟨gb, 0, none⟩) (hg.block gb (World.block_lt_of_cell? _ _ e3) (fun e => by have := HRl.out gb e.symm; omega))).trans e3⟩
        | 13, hne, h => exact absurd rfl hne
        | _ + 14, _, h => trivial
      case step =>
        intro i hi ut w8 S8 hq hdep
        match i, hi, hq, hdep with
        | 0, _, hq, hdep =>
          clear hdep
          refine ⟨_, rfl, fun K' hK => ?_⟩
          go_simp
          exact hK.out _ _ (grown_refl _ _) (fun _ => Below.refl _ _) rfl
        | 1, _, hq, hdep =>
          have h0 : (ut 33) = .pointer (some ⟨M, 0, none⟩) := hdep 0 (by kernel_rfl)
          clear hdep
          refine ⟨_, rfl, fun K' hK => ?_⟩
          simp only [h0] at hK ⊢
          go_simp
          exact hK.out _ _ (grown_refl _ _) (fun _ => Below.refl _ _) rfl
        | 2, _, hq, hdep =>
          have h1 : (ut 34) = .pointer (some ⟨M, 0, none⟩) := hdep 1 (by kernel_rfl)
          clear hdep
          refine ⟨_, rfl, fun K' hK => ?_⟩
          simp only [h1] at hK ⊢
          go_simp
          exact hK.out _ _ (grown_refl _ _) (fun _ => Below.refl _ _) rfl
        | 3, _, hq, hdep =>
          have h2 : (ut 35) = .pointer (some ⟨M, 4, none⟩) := hdep 2 (by kernel_rfl)
          clear hdep
          refine ⟨_, rfl, fun K' hK => ?_⟩
          have qc := HMc.out w8 S8
          simp only [h2] at hK ⊢
          go_simp
          exact hK.out _ _ (grown_refl _ _) (fun _ => Below.refl _ _) rfl
        | 4, _, hq, hdep =>
          clear hdep
          refine ⟨_, rfl, fun K' hK => ?_⟩
          go_simp
          exact hK.out _ _ (grown_refl _ _) (fun _ => Below.refl _ _) rfl
        | 5, _, hq, hdep =>
          clear hdep
          refine ⟨_, rfl, fun K' hK => ?_⟩
          go_simp
          exact hK.out _ _ (grown_refl _ _) (fun _ => Below.refl _ _) rfl
        | 6, _, hq, hdep =>
          have h5 : (ut 38) = .pointer (some ⟨M, 0, none⟩) := hdep 5 (by kernel_rfl)
          clear hdep
          refine ⟨_, rfl, fun K' hK => ?_⟩
          simp only [h5] at hK ⊢
          go_simp
          exact hK.out _ _ (grown_refl _ _) (fun _ => Below.refl _ _) rfl
        | 7, _, hq, hdep =>
          have h6 : (ut 39) = .pointer (some ⟨M, 0, none⟩) := hdep 6 (by kernel_rfl)
          clear hdep
          refine ⟨_, rfl, fun K' hK => ?_⟩
          simp only [h6] at hK ⊢
          go_simp
          exact hK.out _ _ (grown_refl _ _) (fun _ => Below.refl _ _) rfl
        | 8, _, hq, hdep =>
          have h7 : (ut 40) = .pointer (some ⟨M, 4, none⟩) := hdep 7 (by kernel_rfl)
          clear hdep
          refine ⟨_, rfl, fun K' hK => ?_⟩
          have qc := HMc.out w8 S8
          simp only [h7] at hK ⊢
          go_simp
          exact hK.out _ _ (grown_refl _ _) (fun _ => Below.refl _ _) rfl
        | 9, _, hq, hdep =>
          clear hdep
          refine ⟨_, rfl, fun K' hK => ?_⟩
          go_simp
          exact hK.out _ _ (grown_refl _ _) (fun _ => Below.refl _ _) rfl
        | 10, _, hq, hdep =>
          have h8 : (ut 41) = .map (some mb) := hdep 8 (by kernel_rfl)
          have h9 : (ut 42) = .int .i64 y := hdep 9 (by kernel_rfl)
          clear hdep
          refine ⟨_, rfl, fun K' hK => ?_⟩
          refine step_look w8 rfl _ _ 63 rfl (some 43) rfl _ _ _ h8 h9 (HLk.out w8 S8) ?_
          exact hK.out _ _ (grown_refl _ _) (fun _ => Below.refl _ _) rfl
        | 11, _, hq, hdep =>
          clear hdep
          refine ⟨_, rfl, fun K' hK => ?_⟩
          go_simp
          exact hK.out _ _ (grown_refl _ _) (fun _ => Below.refl _ _) rfl
        | 12, _, hq, hdep =>
          have h11 : (ut 44) = .int .i64 (nb : Int) := hdep 11 (by kernel_rfl)
          clear hdep
          refine ⟨_, rfl, fun K' hK => ?_⟩
          simp only [h11] at hK ⊢
          go_simp
          exact hK.out _ _ (grown_below (by repeat (first | exact Below.refl _ _ | assumption | refine Below.drew ?_ | refine Below.alloc ?_ (by first | exact Nat.le_refl _ | omega | (simp; done) | (simp; omega)) _ | refine Below.setCell ?_ (by first | exact Nat.le_refl _ | omega | (simp; done) | (simp; omega)) _))) (fun _ => (by repeat (first | exact Below.refl _ _ | assumption | refine Below.drew ?_ | refine Below.alloc ?_ (by first | exact Nat.le_refl _ | omega | (simp; done) | (simp; omega)) _ | refine Below.setCell ?_ (by first | exact Nat.le_refl _ | omega | (simp; done) | (simp; omega)) _))) ⟨w8.heap.size, rfl, S8.size, by simp [go_sem]⟩
        | 13, _, hq, hdep =>
          have h10 : (ut 43) = V1 y := hdep 10 (by kernel_rfl)
          have h12 : ∃ gb, (ut 45) = .slice (some ⟨gb, 0, none⟩) 1 1 ∧ w2.heap.size ≤ gb ∧ World.cell? w8 ⟨gb, 0, none⟩ = some (.int .i64 (nb : Int)) := hdep 12 (by kernel_rfl)
          clear hdep
          refine ⟨_, rfl, fun K' hK => ?_⟩
          obtain ⟨gb, e12, hgb, hc12⟩ := h12
          refine step_append_at w8 rfl _ _ 36 rfl (some 46) rfl 0 3 i0 (.int .i64 0) 1 8 Tryd.underlying36 HI.out HZ0.out HZ1.out HZ2.out rfl (by decide) _ _ _ h10 (HOw.out w8 (hq rfl)) ⟨gb, 0, none⟩ 1 1 [.int .i64 (nb : Int)] e12 rfl (fun t y ht => by rw [Addr.add_lit]; cases t with | zero => (injection ht with ht; rw [← ht]; exact hc12) | succ t => (cases ht)) (fun y hy => by simp at hy; subst hy; rfl) (by unfold maxLen; omega) (by omega) (Nat.zero_le _) ?_
          intro v' w' hown hg hat
          refine hK.out v' w' hg (fun h => absurd rfl h) ⟨hown, ?_⟩
          rcases hat with hat | hat
          · exact .inl hat
          · exact .inr (.inr ⟨_, S8.size, hat⟩)
        | i + 14, hi, _, _ => exact absurd hi (by omega)
      case last =>
        intro ut w8 S8 hall
        have h3 : (ut 36) = .map (some mb) := hall 3 (by decide)
        have h4 : (ut 37) = .int .i64 y := hall 4 (by decide)
        have h13 : World.ownsRow w8 0 3 1 (ut 46) ((s2.L y).length + 1) (intsN (s2.L y) ++ [.int .i64 (nb : Int)]) ∧ (Value.ownBlock (ut 46) = (V1 y).ownBlock ∨ Value.ownBlock (ut 46) = none ∨ ∃ g, w2.heap.size ≤ g ∧ Value.ownBlock (ut 46) = some g) := hall 13 (by decide)
        clear hall
        refine ⟨_, rfl, fun K' hK => ?_⟩
        obtain ⟨vm, hvm⟩ : ∃ vm, ut 46 = vm := ⟨_, rfl⟩
        rw [hvm] at h13
        obtain ⟨w3, hr, q1, q2⟩ := Sol.mapPut HS1.out hk0 hk1 hk2 (v' := vm) (s2.L y ++ [nb]) hkz S8 (by rw [List.length_append]; unfold intsN; rw [List.map_append]; exact h13.1) h13.2
        refine step_put w8 w3 rfl _ _ _ 63 rfl none rfl _ _ _ h3 h4 hvm hr ?_
        refine hK.out _ _ ?_
        have HS2 := hid q1
        have HC2 := hid q2
        clear q1 q2 hr h13 h3 h4 S8 HMc HLk HOw HRl
        go_wp2
        go_end0
        refine ⟨rfl, _, ?_, (HCa.out.trans HCb.out).trans HC2.out, by unfold updV; rw [if_neg (fun e => HY0.out e.symm), ← HVe.out]; unfold updV; rw [if_neg (fun e => HX0.out e.symm)]⟩
        have := HS2.out
        rw [← HE2.out, ← HE1.out] at this
        unfold watS
        rw [if_neg HY0.out]
        exact this
end Go.Proofs.YtbahjpheaaiamaaDoor.solWatch
