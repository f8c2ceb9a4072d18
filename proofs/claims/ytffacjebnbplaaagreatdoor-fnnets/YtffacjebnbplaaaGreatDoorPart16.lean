/- ReadAdd; Copy: one text, so that the claim has fewer files. -/
import Derived.Test.YtffacjebnbplaaaGreatDoorReadSmall
import Derived.Test.YtffacjebnbplaaaGreatDoorDrawnApp
import Derived.Test.YtffacjebnbplaaaGreatDoorPart1
/- A network's names as they are read: roster.add and readRouter of the program; conditions: a name that is right and not there yet. -/
namespace Go.Proofs.YtffacjebnbplaaaGreatDoor.readAdd
open Go.RowKit Go.Deep Go base heldStore drawn netSem netLines netBytes netImpl askWords askSem readMath readNew readMem readSmall
set_option linter.unusedVariables false
theorem info_s : (Tryz.prog.info? 9).map (fun i => (i.zero, i.size, i.bytes)) = some (some (.string ⟨#[]⟩), 1, 16) := by kernel_rfl
set_option maxHeartbeats 3200000 in
set_option maxRecDepth 8000 in
theorem add_impl {M mb B n : Nat} {s : Ss} {g x f : R} {o e : List Int} {k : Nat → Nat} {v : Nat → Value} {w : World} (h : NRd M mb B s g o e x f k v w) (hk : k 0 = n) (hn : n < 4) (hs : ∀ i, i ≤ n → names.nameB (s i) = true) (hnew : nameAt s n (s n) < 0) :
    Calls Tryz.prog 64 #[.pointer (some ⟨M, 0, none⟩), .string (s n)] w fun e' w' => ∃ v', e' = .returned (.int .i64 0) ∧ NRd M mb B s g o e x f (fset k 0 (n + 1)) v' w' ∧ Stay M B w w' := by
  have hsz : ∀ i, i ≤ n → (s i).size ≤ 40 := fun i hi => by
    have h1 := hs i hi
    simp only [names.nameB, Bool.and_eq_true, decide_eq_true_eq] at h1
    exact h1.1.2
  obtain ⟨va, vc, hv, hcap⟩ := h.form (j := 0) (by omega)
  rw [hk] at hv hcap
  obtain ⟨hc0, hrow⟩ := h.names hv hk (fun i hi => by have := hsz i (by omega); unfold maxLen; omega)
  have HN := hid (names.name_impl (s n) w (by have := hsz n (Nat.le_refl _); unfold maxLen; omega))
  rw [hs n (Nat.le_refl _)] at HN
  have HC := hid (contains_str va n vc s (s n) w hrow)
  rw [decide_eq_false (by omega : ¬ (0 ≤ nameAt s n (s n)))] at HC
  have HCl : Hid (∀ w8, Calls Tryz.prog 82 #[.string (s n)] w8 fun e w' => e = .returned (.string (s n)) ∧ Below w8.heap.size w8 w') := hid (fun w8 => clone_impl (s n) w8 (by have := hsz n (Nat.le_refl _); omega))
  have HOw : Hid (∀ w8 : World, Below w.heap.size w w8 → w8.ownsRow B 9 1 (.slice va n vc) n (strs s n)) := hid (fun w8 hb => h.own (j := 0) (by omega) hv hk hb)
  have HRl : Hid (∀ j, Value.ownBlock (.slice va n vc) = some j → j < (World.heap w).size) := hid (fun j hj => (World.ownsRow.lt (h.own (j := 0) (by omega) hv hk (Below.refl _ _)) j hj).2)
  have HMc : Hid (∀ w8 : World, World.grownBy w w8 (Value.ownBlock (.slice va n vc)) → w8.cell? ⟨M, 0, none⟩ = some (.slice va n vc)) := hid (fun w8 hg => by
    have hne : some M ≠ Value.ownBlock (.slice va n vc) := fun e => by
      have h1 := (World.ownsRow.lt (h.own (j := 0) (by omega) hv hk (Below.refl _ _)) M e.symm).1
      have h2 := h.lt
      omega
    exact (World.cell?_of_block (a := ⟨M, 0, none⟩) (hg.block M (World.block_lt_of_cell? _ _ hc0) hne)).trans hc0)
  have HSt := hid (h.store (j := 0) (by omega) hv hk (Below.refl _ _) (es := [.string (s n)]) (strs_succ s n))
  have HBW := hid h.le
  obtain ⟨i0, hi0, hzz⟩ := Option.map_eq_some_iff.1 info_s
  simp only [Prod.mk.injEq] at hzz
  obtain ⟨hz0, hz1, hz2⟩ := hzz
  have HI := hid hi0
  have HZ0 := hid hz0
  have HZ1 := hid hz1
  have HZ2 := hid hz2
  have hn4 : ((n : Int) == 4) = false := beq_eq_false_iff_ne.2 (by omega)
  clear hi0 hz0 hz1 hz2 h hs hnew hrow hsz hv hk hcap
  go_enter Tryz.func64, Tryz.ntmps64
  go_wp2_with fail
  refine HN.out.mono ?_
  rintro e1 w1 ⟨rfl, rfl⟩
  go_wp2_with fail
  refine HC.out.mono ?_
  rintro e1 w1 ⟨rfl, rfl⟩
  go_wp2_with fail
  refine drawnApp.region_app (fun ua => ⟨#[.pointer (some ⟨M, 0, none⟩), .string (s n), undef, undef, .int .i64 0, .bool false, .string (s n), .bool true, .bool false, .bool false, .pointer (some ⟨M, 0, none⟩), .pointer (some ⟨M, 0, none⟩), .pointer (some ⟨M, 0, none⟩), .slice va n vc, .string (s n), .bool false, .bool false, .pointer (some ⟨M, 0, none⟩), .pointer (some ⟨M, 0, none⟩), .pointer (some ⟨M, 0, none⟩), .slice va n vc, .int .i64 (n : Int), .bool false, ua 23, ua 24, ua 25, ua 26, ua 27, ua 28, ua 29, ua 30, ua 31, ua 32, ua 33], []⟩) (fun i => [23, 24, 25, 26, 27, 28, 29, 30, 31, 32, 33].getD i 0) (fun iq vq w8 => match iq with | 0 => vq = .pointer (some ⟨M, 0, none⟩) | 1 => vq = .pointer (some ⟨M, 0, none⟩) | 2 => vq = .pointer (some ⟨M, 0, none⟩) | 3 => vq = .pointer (some ⟨M, 0, none⟩) | 4 => vq = .slice va n vc | 5 => vq = .string (s n) | 6 => vq = .string (s n) | 7 => ∃ gb, vq = .slice (some ⟨gb, 0, none⟩) 1 1 ∧ (World.heap w1).size ≤ gb ∧ World.cell? w8 ⟨gb, 0, none⟩ = some (.string (s n)) | 8 => World.ownsRow w8 B 9 1 vq (n + 1) (strs s n ++ [.string (s n)]) ∧ (Value.ownBlock vq = Value.ownBlock (.slice va n vc) ∨ ∃ b, (World.heap w1).size ≤ b ∧ Value.ownBlock vq = some b) | 9 => vq = .pointer (some ⟨M, 0, none⟩) | 10 => vq = .pointer (some ⟨M, 0, none⟩) | _ => True) w1 (Value.ownBlock (.slice va n vc)) 8 11 (fun k => match k with | 23 => undef | 24 => undef | 25 => undef | 26 => undef | 27 => undef | 28 => undef | 29 => undef | 30 => undef | 31 => undef | 32 => undef | 33 => undef | _ => undef) (by rfl) (by kernel_rfl) (by rfl) ⟨by kernel_rfl, by kernel_rfl, by kernel_rfl, by decide⟩ (by kernel_rfl) (Below.refl _ _) ?hput ?hinj ?stB ?stA ?step ?last
  case hput =>
    intro i hi ua v
    match i, hi with
    | 0, _ => rfl
    | 1, _ => rfl
    | 2, _ => rfl
    | 3, _ => rfl
    | 4, _ => rfl
    | 5, _ => rfl
    | 6, _ => rfl
    | 7, _ => rfl
    | 8, _ => rfl
    | 9, _ => rfl
    | 10, _ => rfl
    | i + 11, hi => exact absurd hi (by omega)
  case hinj =>
    intro i j hi hj h
    exact slots_inj [23, 24, 25, 26, 27, 28, 29, 30, 31, 32, 33] (by decide) hi hj h
  case stB =>
    intro iq vq w8 w9 hb h
    match iq, h with
    | 0, h => exact h
    | 1, h => exact h
    | 2, h => exact h
    | 3, h => exact h
    | 4, h => exact h
    | 5, h => exact h
    | 6, h => exact h
    | 7, h => obtain ⟨gb, e1, e2, e3⟩ := h; exact ⟨gb, e1, e2, keep hb e3⟩
    | 8, h => exact ⟨readMem.own_kept h.1 fun b hg => hb.block b (World.ownsRow.lt h.1 b hg).2, h.2⟩
    | 9, h => exact h
    | 10, h => exact h
    | _ + 11, h => trivial
  case stA =>
    intro iq vq w8 w9 hne hb hg h
    match iq, hne, h with
    | 0, _, h => exact h
    | 1, _, h => exact h
    | 2, _, h => exact h
    | 3, _, h => exact h
    | 4, _, h => exact h
    | 5, _, h => exact h
    | 6, _, h => exact h
    | 7, _, h => obtain ⟨gb, e1, e2, e3⟩ := h; exact ⟨gb, e1, e2, (World.cell?_of_block (a := ⟨gb, 0, none⟩) (hg.block gb (World.block_lt_of_cell? _ _ e3) (fun e => by have := HRl.out gb e.symm; omega))).trans e3⟩
    | 8, hne, h => exact absurd rfl hne
    | 9, _, h => exact h
    | 10, _, h => exact h
    | _ + 11, _, h => trivial
  case step =>
    intro iq hi ua w8 S8 hq hdep
    match iq, hi, hq, hdep with
    | 0, _, hq, hdep =>
      clear hdep
      refine ⟨_, rfl, fun K' hK => ?_⟩
      go_simp
      exact hK.out _ _ (drawnApp.grown_refl _ _) (fun _ => Below.refl _ _) rfl
    | 1, _, hq, hdep =>
      clear hdep
      refine ⟨_, rfl, fun K' hK => ?_⟩
      go_simp
      exact hK.out _ _ (drawnApp.grown_refl _ _) (fun _ => Below.refl _ _) rfl
    | 2, _, hq, hdep =>
      have h1 : (ua 24) = .pointer (some ⟨M, 0, none⟩) := hdep 1 (by kernel_rfl)
      clear hdep
      refine ⟨_, rfl, fun K' hK => ?_⟩
      simp only [h1] at hK ⊢
      go_simp
      exact hK.out _ _ (drawnApp.grown_refl _ _) (fun _ => Below.refl _ _) rfl
    | 3, _, hq, hdep =>
      have h2 : (ua 25) = .pointer (some ⟨M, 0, none⟩) := hdep 2 (by kernel_rfl)
      clear hdep
      refine ⟨_, rfl, fun K' hK => ?_⟩
      simp only [h2] at hK ⊢
      go_simp
      exact hK.out _ _ (drawnApp.grown_refl _ _) (fun _ => Below.refl _ _) rfl
    | 4, _, hq, hdep =>
      have h3 : (ua 26) = .pointer (some ⟨M, 0, none⟩) := hdep 3 (by kernel_rfl)
      clear hdep
      refine ⟨_, rfl, fun K' hK => ?_⟩
      have qc := HMc.out w8 S8
      simp only [h3] at hK ⊢
      go_simp
      exact hK.out _ _ (drawnApp.grown_refl _ _) (fun _ => Below.refl _ _) rfl
    | 5, _, hq, hdep =>
      clear hdep
      refine ⟨_, rfl, fun K' hK => ?_⟩
      go_simp
      exact hK.out _ _ (drawnApp.grown_refl _ _) (fun _ => Below.refl _ _) rfl
    | 6, _, hq, hdep =>
      have h5 : (ua 28) = .string (s n) := hdep 5 (by kernel_rfl)
      clear hdep
      refine ⟨_, rfl, fun K' hK => ?_⟩
      simp only [h5] at hK ⊢
      go_simp
      refine (HCl.out _).mono ?_
      rintro e1 w9 ⟨rfl, hb9⟩
      exact hK.out _ _ (drawnApp.grown_below hb9) (fun _ => hb9) rfl
    | 7, _, hq, hdep =>
      have h6 : (ua 29) = .string (s n) := hdep 6 (by kernel_rfl)
      clear hdep
      refine ⟨_, rfl, fun K' hK => ?_⟩
      simp only [h6] at hK ⊢
      go_simp
      exact hK.out _ _ (drawnApp.grown_below (by repeat (first | exact Below.refl _ _ | assumption | refine Below.drew ?_ | refine Below.alloc ?_ (by first | exact Nat.le_refl _ | omega | (simp; done) | (simp; omega)) _ | refine Below.setCell ?_ (by first | exact Nat.le_refl _ | omega | (simp; done) | (simp; omega)) _))) (fun _ => (by repeat (first | exact Below.refl _ _ | assumption | refine Below.drew ?_ | refine Below.alloc ?_ (by first | exact Nat.le_refl _ | omega | (simp; done) | (simp; omega)) _ | refine Below.setCell ?_ (by first | exact Nat.le_refl _ | omega | (simp; done) | (simp; omega)) _))) ⟨w8.heap.size, rfl, S8.size, by simp [go_sem]⟩
    | 8, _, hq, hdep =>
      have h4 : (ua 27) = .slice va n vc := hdep 4 (by kernel_rfl)
      have h7 : ∃ gb, (ua 30) = .slice (some ⟨gb, 0, none⟩) 1 1 ∧ (World.heap w1).size ≤ gb ∧ World.cell? w8 ⟨gb, 0, none⟩ = some (.string (s n)) := hdep 7 (by kernel_rfl)
      clear hdep
      refine ⟨_, rfl, fun K' hK => ?_⟩
      obtain ⟨gb, e7, hgb, hc7⟩ := h7
      refine stepAppend.step_append_at w8 rfl _ _ 23 rfl (some 31) rfl B 9 i0 _ 1 16 Tryz.underlying23 HI.out HZ0.out HZ1.out HZ2.out rfl (by decide) _ _ _ h4 (HOw.out w8 (hq rfl)) ⟨gb, 0, none⟩ 1 1 [.string (s n)] e7 rfl (fun t y ht => by rw [Addr.add_lit]; cases t with | zero => (injection ht with ht; rw [← ht]; exact hc7) | succ t => (cases ht)) (fun y hy => by simp at hy; subst hy; rfl) (by unfold maxLen; omega) (by omega) (Nat.le_trans HBW.out S8.size) ?_
      intro v' w' hown hg hat
      refine hK.out v' w' hg (fun h => absurd rfl h) ⟨hown, ?_⟩
      rcases hat with hat | hat
      · exact .inl hat
      · exact .inr ⟨_, S8.size, hat⟩
    | 9, _, hq, hdep =>
      have h0 : (ua 23) = .pointer (some ⟨M, 0, none⟩) := hdep 0 (by kernel_rfl)
      clear hdep
      refine ⟨_, rfl, fun K' hK => ?_⟩
      simp only [h0] at hK ⊢
      go_simp
      exact hK.out _ _ (drawnApp.grown_refl _ _) (fun _ => Below.refl _ _) rfl
    | 10, _, hq, hdep =>
      have h9 : (ua 32) = .pointer (some ⟨M, 0, none⟩) := hdep 9 (by kernel_rfl)
      clear hdep
      refine ⟨_, rfl, fun K' hK => ?_⟩
      simp only [h9] at hK ⊢
      go_simp
      exact hK.out _ _ (drawnApp.grown_refl _ _) (fun _ => Below.refl _ _) rfl
    | i + 11, hi, _, _ => exact absurd hi (by omega)
  case last =>
    intro ua w8 S8 hall
    have h8 : World.ownsRow w8 B 9 1 (ua 31) (n + 1) (strs s n ++ [.string (s n)]) ∧ (Value.ownBlock (ua 31) = Value.ownBlock (.slice va n vc) ∨ ∃ b, (World.heap w1).size ≤ b ∧ Value.ownBlock (ua 31) = some b) := hall 8 (by decide)
    have h10 : (ua 33) = .pointer (some ⟨M, 0, none⟩) := hall 10 (by decide)
    clear hall
    refine ⟨_, rfl, fun K' hK => ?_⟩
    obtain ⟨vn, hvn⟩ : ∃ vn, ua 31 = vn := ⟨_, rfl⟩
    rw [hvn] at h8
    obtain ⟨va2, vc2, e8⟩ := own_form h8.1
    subst e8
    obtain ⟨⟨qc, qf⟩, qn, qs⟩ := HSt.out w8 va2 vc2 S8 h8.1 h8.2
    change w8.cell? ⟨M, 0, none⟩ = _ at qc
    change w8.frozen? ⟨M, 0, none⟩ = _ at qf
    have HQn := hid qn
    have HQs := hid qs
    clear qn qs
    simp only [h10, hvn] at hK ⊢
    go_simp
    refine hK.out _ _ ?_
    clear h8 h10 hvn qc qf S8
    go_wp2
    go_ret
    exact ⟨_, rfl, HQn.out, HQs.out⟩
/-- Words in memory from place off on, with what the first says. -/
theorem word_cell {A : Nat} {w : World} {a : Option Addr} {c : Nat} {R : List Wd} (h : TRow A w a c R) {i : Nat} {t : Wd} (hi : R[i]? = some t) : ∃ b off, a = some ⟨b, off, none⟩ ∧ b < A ∧ w.cell? ⟨b, off + i, none⟩ = some (.string (piece t)) := h.cell i t hi
set_option maxHeartbeats 3200000 in
set_option maxRecDepth 8000 in
theorem router_impl {M mb B n : Nat} {s : Ss} {g x f : R} {o e : List Int} {k : Nat → Nat} {v : Nat → Value} {w : World} (a : Option Addr) (c : Nat) (h : NRd M mb B s g o e x f k v w) (hR : TRow w.heap.size w a c (rW s n)) (hk : k 0 = n) (hn : n < 4) (hs : ∀ i, i ≤ n → names.nameB (s i) = true) (hnew : nameAt s n (s n) < 0) :
    Calls Tryz.prog 37 #[.pointer (some ⟨M, 0, none⟩), .slice a 2 c] w fun e' w' => ∃ v', e' = .returned (.int .i64 0) ∧ NRd M mb B s g o e x f (fset k 0 (n + 1)) v' w' ∧ Stay M B w w' := by
  have hcap : 2 ≤ c := hR.cap
  have hmost := hR.most
  unfold maxLen at hmost
  obtain ⟨b, off, rfl, hb, hc1⟩ := word_cell hR (i := 1) (t := nm s n) rfl
  have e1 : piece (nm s n) = s n := rfl
  rw [e1] at hc1
  have HF : Hid (∀ (fb : Nat) (w8 : World), Below w.heap.size w w8 → (∀ i y, ([kRouter, []] : List Wd)[i]? = some y → w8.cell? ⟨fb, i, none⟩ = some (.string (piece y))) → Calls Tryz.prog 63 #[.slice (some ⟨b, off, none⟩) 2 c, .slice (some ⟨fb, 0, none⟩) 2 2] w8 fun e w' => e = .returned (.bool true) ∧ w' = w8) := hid (fun fb w8 hb8 hc8 => by
    have h1 := form_impl w.heap.size (some ⟨b, off, none⟩) c (rW s n) [kRouter, []] fb w8 (hR.under hb8) hc8 (by simp)
    have h2 : formB (rW s n) [kRouter, []] = true := by simp [formB, rW, allN, formAt, List.range_succ, kRouter]
    rw [h2] at h1
    exact h1)
  have HA : Hid (∀ w8 : World, Below w.heap.size w w8 → Calls Tryz.prog 64 #[.pointer (some ⟨M, 0, none⟩), .string (s n)] w8 fun e' w' => ∃ v', e' = .returned (.int .i64 0) ∧ NRd M mb B s g o e x f (fset k 0 (n + 1)) v' w' ∧ Stay M B w8 w') := hid (fun w8 hb8 => add_impl (h.below hb8) hk hn hs hnew)
  have HBW := hid h.le
  clear h hR hk hn hs hnew e1
  go_enter Tryz.func37, Tryz.ntmps37
  go_wp2_with fail
  refine (HF.out _ _ (by repeat (first | exact Below.refl _ _ | assumption | refine Below.drew ?_ | refine Below.alloc ?_ (by first | exact Nat.le_refl _ | omega | (simp; done) | (simp; omega)) _ | refine Below.setCell ?_ (by first | exact Nat.le_refl _ | omega | (simp; done) | (simp; omega)) _)) ?cells).mono ?_
  case cells =>
    intro i y hy
    match i, hy with
    | 0, hy => (injection hy with hy; subst hy; simp [go_sem]; rfl)
    | 1, hy => (injection hy with hy; subst hy; simp [go_sem]; rfl)
    | i + 2, hy => (simp at hy)
  rintro e1 w1 ⟨rfl, hw1⟩
  have HB1 : Hid (Below w.heap.size w w1) := by rw [hw1]; exact (by repeat (first | exact Below.refl _ _ | assumption | refine Below.drew ?_ | refine Below.alloc ?_ (by first | exact Nat.le_refl _ | omega | (simp; done) | (simp; omega)) _ | refine Below.setCell ?_ (by first | exact Nat.le_refl _ | omega | (simp; done) | (simp; omega)) _))
  have hc1 := keep HB1.out hc1
  have hb0 : Below w.heap.size w w1.drew := HB1.out.trans ((Below.refl _ w1).drew.mono HB1.out.size)
  have HA1 := hid (HA.out w1.drew hb0)
  clear hw1 HF hb0 HA
  go_wp2
  go_region_with (go_at_call 64; refine HA1.out.mono ?_; rintro e2 w2 ⟨v', rfl, hn2, hs2⟩; have HN2 := hid hn2; have HS2 := hid hs2; clear hn2 hs2)
  all_goals
    go_wp2
    go_ret
    exact ⟨v', rfl, HN2.out, (Stay.of_below (HB1.out.trans ((Below.refl _ w1).drew.mono HB1.out.size)) HBW.out).trans HS2.out⟩
end Go.Proofs.YtffacjebnbplaaaGreatDoor.readAdd

/- The contracts of the laws' own helpers over lists of integers: what they count, copy and compare; conditions: lengths that fit. -/
namespace Go.Proofs.YtffacjebnbplaaaGreatDoor.copy
open Go.RowKit Go.Deep base

theorem Tryz.info_int : (Tryz.prog.info? 3).map (fun i => (i.zero, i.size, i.bytes)) = some (some (.int .i64 0), 1, 8) := by kernel_rfl

/-- A list of lists in blocks of its own: the outer one in block N, the inner ones behind it, one block each. -/
structure Copied (w : World) (N : Nat) (zss : List (List Int)) : Prop where
  outer : w.rowIs N 25 zss.length (fun i => .slice (some ⟨N + 1 + i, 0, none⟩) (zss[i]?.getD []).length (zss[i]?.getD []).length)
  inner : ∀ i, i < zss.length → w.rowIs (N + 1 + i) 3 (zss[i]?.getD []).length (fun j => .int .i64 ((zss[i]?.getD [])[j]?.getD 0))
theorem IntRow.of_rowIs {w : World} {b : Nat} {zs : List Int} {t : TypeId} (h : w.rowIs b t zs.length (fun j => .int .i64 (zs[j]?.getD 0))) (hm : zs.length ≤ maxLen) : IntRow w (some ⟨b, 0, none⟩) zs.length zs :=
  ⟨rfl, hm, fun i hi => ⟨b, 0, rfl, by simpa using h.cell hi⟩⟩
theorem Copied.rows {w : World} {N : Nat} {zss : List (List Int)} (h : Copied w N zss) (hm : zss.length ≤ maxLen) (hi : ∀ i, i < zss.length → (zss[i]?.getD []).length ≤ maxLen) : IntRows w (some ⟨N, 0, none⟩) zss.length zss :=
  ⟨rfl, hm, fun i hlt => ⟨N, 0, rfl, _, _, _, by simpa using h.outer.cell hlt, IntRow.of_rowIs (h.inner i hlt) (hi i hlt)⟩⟩
theorem Copied.set {w : World} {N : Nat} {zss : List (List Int)} (h : Copied w N zss) {a : Addr} (ha : a.block < N) (v : Value) : Copied (w.setCell a v) N zss :=
  ⟨h.outer.setOther (by omega) v, fun i hi => (h.inner i hi).setOther (by omega) v⟩
theorem Copied.below {w w1 : World} {N : Nat} {zss : List (List Int)} (h : Copied w N zss) (hb : Below w.heap.size w w1) : Copied w1 N zss :=
  ⟨h.outer.of_block (hb.block _ h.outer.lt), fun i hi => (h.inner i hi).of_block (hb.block _ (h.inner i hi).lt)⟩

theorem BoolRow.of_rowIs {w : World} {b len : Nat} {zs : List Bool} {t : TypeId} (hl : zs.length = len) (hm : len ≤ maxLen) (h : w.rowIs b t len (fun j => .bool (zs[j]?.getD false))) : BoolRow w (some ⟨b, 0, none⟩) len zs :=
  ⟨hl, hm, fun i hi => ⟨b, 0, rfl, by simpa using h.cell hi⟩⟩
end Go.Proofs.YtffacjebnbplaaaGreatDoor.copy
