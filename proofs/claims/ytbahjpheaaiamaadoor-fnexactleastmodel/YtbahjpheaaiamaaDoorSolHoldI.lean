/- A solver of the program: a literal is made true, and all clauses that watch its opposite are gone to (hold); conditions: a literal of its variables that has no value yet, lengths that fit. -/
import Derived.Test.YtbahjpheaaiamaaDoorPart11
import Derived.Test.YtbahjpheaaiamaaDoorSolMove
import Derived.Lib.JoinLaws
namespace Go.Proofs.YtbahjpheaaiamaaDoor.solHoldI
open Go.RowKit Go.Deep Go.Maps Go base sets setsOf solSets solOps solMath solHold solMem solFail solDue solExpect solPush solLoop solMove heldStore drawn drawnLin drawnApp
set_option linter.unusedVariables false
set_option linter.unusedSimpArgs false
set_option pp.deepTerms true
set_option pp.maxSteps 10000000

theorem info_fact : (Tryd.prog.info? 87).map (fun i => (i.zero, i.size, i.bytes)) = some (some (.agg #[.int .i64 0, .int .i64 0]), 2, 16) := by kernel_rfl
theorem own_form {w : World} {B n k : Nat} {t : TypeId} {v : Value} {xs : List Value} (h : w.ownsRow B t k v n xs) : ∃ a c, v = .slice a n c := by
  rcases h.2 with ⟨rfl, h0⟩ | ⟨g, cap, cur, rfl, _⟩
  · exact ⟨none, 0, by rw [h0]⟩
  · exact ⟨_, _, rfl⟩
theorem own_same (na : Option Addr) (a b c : Nat) : Value.ownBlock (.slice na a c) = Value.ownBlock (.slice na b c) := by cases na <;> rfl
theorem chg_from {M mb : Nat} {β0 β β' : Int → Option Nat} {w w' : World} (h : Chg M mb β β' w w') (hs : ∀ a j, β a = some j → β0 a = some j) : Chg M mb β0 β' w w' :=
  ⟨h.os, h.tape, h.output, h.size, fun j hj h1 h2 h3 => h.block j hj h1 h2 fun a e => h3 a (hs a j e), fun a j hb => (h.news a j hb).imp (hs a j) id⟩
theorem kept_some {w w1 : World} {g o : Nat} (h : Below w.heap.size w w1) (hc : (w.cell? ⟨g, o, none⟩).isSome = true) : (w1.cell? ⟨g, 0 + o + 0, none⟩).isSome = true := by
  obtain ⟨y, hy⟩ := Option.isSome_iff_exists.1 hc
  rw [Nat.zero_add, Nat.add_zero, keep h hy]; rfl
theorem kept_froz {w w1 : World} {g o : Nat} (h : Below w.heap.size w w1) (hc : (w.cell? ⟨g, o, none⟩).isSome = true) (hf : w.frozen? ⟨g, o, none⟩ = false) : w1.frozen? ⟨g, 0 + o + 0, none⟩ = false := by
  obtain ⟨y, hy⟩ := Option.isSome_iff_exists.1 hc
  rw [Nat.zero_add, Nat.add_zero, World.frozen?_of_block (a := ⟨g, o, none⟩) (h.block g (World.block_lt_of_cell? _ _ hy))]; exact hf
/-- A cell of a block is written that is none of the solver's. -/
theorem sol_far {z : Int} {M mb : Nat} {F : Nat → Value} {V : Int → Value} {s : Sv} {w : World} (h : Sol z M mb F V s w) {g o : Nat} {v : Value} (h1 : g ≠ M) (h2 : g ≠ mb) (h3 : g ≠ 0) (h4 : ∀ a, blk z F V a ≠ some g) : Sol z M mb F V s (w.setCell ⟨g, o, none⟩ v) := by
  have hb : ∀ j, j ≠ g → (w.setCell ⟨g, o, none⟩ v).heap[j]? = w.heap[j]? := fun j hj => Below.heap_setCell _ _ _ _ (by simpa using hj)
  obtain ⟨D, hD, hV⟩ := h.map
  refine ⟨World.rowIs.of_block h.cells (hb M (fun e => h1 e.symm)), h.f0, h.f4, h.f5, h.f6, h.f10, h.fx, ⟨D, ?_, hV⟩, fun a ha => row_kept (h.rows a ha) fun g' hg' => hb g' (fun e => h4 a (by rw [blk_ne ha, ← e]; exact hg')), h.apart, h.off, h.ne, fun j hj => ?_, h.tabo⟩
  · obtain ⟨es, clock, q1, q2⟩ := hD
    exact ⟨es, clock, by rw [hb mb (fun e => h2 e.symm)]; exact q1, q2⟩
  · rw [World.cell?_of_block (a := ⟨0, j, none⟩) (hb _ (fun e => h3 e.symm))]
    exact h.tab j hj
theorem chg_cell {M mb : Nat} {β : Int → Option Nat} {w : World} {g o : Nat} {v : Value} {a : Int} (hg : β a = some g) : Chg M mb β β w (w.setCell ⟨g, o, none⟩ v) := by
  obtain ⟨e1, e2, e3, e4⟩ := setCell_os w ⟨g, o, none⟩ v
  exact ⟨e1, e2, e3, by omega, fun j hj _ _ h3 => Below.heap_setCell _ _ _ _ (by simpa using fun e => h3 a (by rw [e]; exact hg)), fun a j h => .inl h⟩
theorem stay_range {s : Sv} (h : Okay s) (i : Nat) (x : Int) : -40 ≤ stay s i x ∧ stay s i x ≤ 40 := by
  have k : ∀ y, (y ≠ 0 → mem (s.cl i) y = true) → -40 ≤ y ∧ y ≤ 40 := fun y hy => by
    by_cases e : y = 0
    · omega
    · exact ((h.wfC i).range (hy e)).2
  unfold stay
  split
  · exact k _ (fun e => (h.w2 i e).1)
  · exact k _ (h.w1 i)
theorem move_mid {H0 : LS} {l : Int} {kept R : List Nat} {i : Nat} (M mb : Nat) (F : Nat → Value) (V : Int → Value) (s : Sv) (w : World) (h : Sol (-l) M mb F V s w) (hm : Mid s H0 l kept (i :: R)) (hlen : s.C.length ≤ 8000000000000) :
    Calls Tryd.prog 64 #[.pointer (some ⟨M, 0, none⟩), .int .i64 i, .int .i64 (-l)] w fun e w' => e = .returned (.bool (mv s i (-l)).2) ∧ ∃ F' V', Sol (-l) M mb F' V' (mv s i (-l)).1 w' ∧ Chg M mb (blk (-l) F V) (blk (-l) F' V') w w' ∧ F' 2 = F 2 := by
  obtain ⟨_, _, _, _, hlt⟩ := hm.head
  have lo := hm.lo
  have hso := stay_range hm.ok i (-l)
  have hD : s.D.length ≤ s.C.length := hm.ok.dmost
  refine move_impl (-l) M mb F V s w h (by omega) i (-l) ⟨by omega, by omega⟩ hlt hm.ok.len (by omega) (hm.wfc i) hm.wfH hso (fun e1 e2 => (hm.stays (by rw [e2]; decide) e1).2.2.2) (fun e1 e2 e3 => ?_) ?_ (by omega) hm.ok.dsort (fun q q0 qz => ?_)
  · obtain ⟨_, t2, _, t4⟩ := hm.to (by rw [e1]; decide) e2 e3
    exact ⟨t2, t4⟩
  · rcases hm.ok.fin with e | ⟨f, hf, e, _⟩
    · have e : s.F = -1 := e
      omega
    · have e : s.F = f := e
      have hf : f < s.C.length := hf
      omega
  · have := hm.ok.most (x := q) q0
    dsimp only at this
    unfold solMath.upd at this
    rw [if_neg qz] at this
    omega
set_option maxHeartbeats 6400000 in
set_option maxRecDepth 8000 in
theorem hold_impl (M mb : Nat) (F : Nat → Value) (V : Int → Value) (s : Sv) (w : World) (h : Sol 0 M mb F V s w) (hv0 : V 0 = nilV) (l r : Int) (ok : Okay s) (hst : ∀ i, i < s.C.length → StH s s.H i ∨ mem (s.cl i) l = true) (l0 : l ≠ 0) (lo : -40 ≤ l ∧ l ≤ 40) (no : mem s.H l = false ∧ mem s.H (-l) = false) (hr : -1 ≤ r ∧ r ≤ 8400000000000) (hlen : s.C.length ≤ 8000000000000) (hT : s.T.length ≤ 8400000000000) :
    Calls Tryd.prog 44 #[.pointer (some ⟨M, 0, none⟩), .int .i64 l, .int .i64 r] w fun e w' => e = .returned (.tuple #[]) ∧ ∃ F' V', Sol 0 M mb F' V' (holdS s l r) w' ∧ V' 0 = nilV ∧ Chg M mb (blk 0 F V) (blk 0 F' V') w w' ∧ F' 2 = F 2 := by
  have k5 := h.cell (i := 5) (by omega)
  have k6 := h.cell (i := 6) (by omega)
  rw [h.f5] at k5
  rw [h.f6] at k6
  have HS := hid h
  have HMid := hid (mid_start (r := r) ok hst l0 lo no)
  obtain ⟨q3, q4⟩ := ok.wfH.lt
  have hwo := wf_only l0 lo.1 lo.2
  obtain ⟨q5, q6⟩ := hwo.lt
  obtain ⟨H1, hH1⟩ : ∃ q, s.H.1 = q := ⟨_, rfl⟩
  obtain ⟨H2, hH2⟩ : ∃ q, s.H.2 = q := ⟨_, rfl⟩
  obtain ⟨A1, hA1⟩ : ∃ q, (withL s.H (onlyL l)).1 = q := ⟨_, rfl⟩
  obtain ⟨A2, hA2⟩ : ∃ q, (withL s.H (onlyL l)).2 = q := ⟨_, rfl⟩
  have HAe : Hid (withL s.H (onlyL l) = (A1, A2)) := hid (ls_eq hA1 hA2)
  rw [hH1] at k5 q3
  rw [hH2] at k6 q4
  have HOn : Hid (∀ w : World, Calls Tryd.prog 46 #[.int .i64 l] w fun e w' => e = .returned (.agg #[.int .u64 (pBit l), .int .u64 (oBit l)]) ∧ Below w.heap.size w w') := hid (fun w => only_impl l w lo.1 lo.2)
  have HWi : Hid (∀ w : World, Calls Tryd.prog 47 #[.agg #[.int .u64 H1, .int .u64 H2], .agg #[.int .u64 (pBit l), .int .u64 (oBit l)]] w fun e w' => e = .returned (.agg #[.int .u64 A1, .int .u64 A2]) ∧ Below w.heap.size w w') := hid (fun w => by
    have := with_impl H1 H2 (pBit l) (oBit l) w q3 q4 q5 q6
    have e1 : A1 = H1 ||| pBit l := by rw [← hA1, ← hH1]; rfl
    have e2 : A2 = H2 ||| oBit l := by rw [← hA2, ← hH2]; rfl
    rw [e1, e2]
    exact this)
  have HK5 : Hid (∀ w8 : World, Below w.heap.size w w8 → w8.cell? ⟨M, 5, none⟩ = some (.int .u64 H1) ∧ w8.cell? ⟨M, 6, none⟩ = some (.int .u64 H2) ∧ w8.frozen? ⟨M, 5, none⟩ = false ∧ w8.frozen? ⟨M, 6, none⟩ = false) := hid (fun w8 hb => ⟨keep hb k5, keep hb k6, (h.below hb).frozen 5, (h.below hb).frozen 6⟩)
  have HV0 := hid hv0
  have HOk := hid ok
  clear h hv0 ok hst no hwo q3 q4 q5 q6 hH1 hH2 hA1 hA2 k5 k6
  go_enter Tryd.func44, Tryd.ntmps44
  go_wp2
  refine region_below (fun ua => ⟨#[.pointer (some ⟨M, 0, none⟩), .int .i64 l, .int .i64 r, undef, undef, undef, undef, undef, undef, undef, ua 10, ua 11, ua 12, ua 13, ua 14, ua 15, ua 16, ua 17, ua 18, ua 19, undef, undef, undef, undef, undef, undef, undef, undef, undef, undef, undef, undef, undef, undef, undef, undef, undef, undef, undef, undef, undef, undef, undef, undef, undef, undef, undef, undef, undef, undef, undef, undef, undef, undef, undef, undef, undef, undef, undef, undef, undef, undef, undef, undef, undef], []⟩) (fun i => [10, 11, 12, 13, 14, 15, 16, 17, 18, 19].getD i 0) (fun i v w8 => match i with | 0 => v = .pointer (some ⟨M, 0, none⟩) | 1 => v = .pointer (some ⟨M, 0, none⟩) | 2 => v = .pointer (some ⟨M, 0, none⟩) | 3 => v = .pointer (some ⟨M, 5, none⟩) | 4 => v = .agg #[.int .u64 H1, .int .u64 H2] | 5 => v = .int .i64 l | 6 => v = .agg #[.int .u64 (pBit l), .int .u64 (oBit l)] | 7 => v = .agg #[.int .u64 A1, .int .u64 A2] | 8 => v = .pointer (some ⟨M, 0, none⟩) | 9 => v = .pointer (some ⟨M, 5, none⟩) | _ => True) w 10 (fun k => match k with | 10 => undef | 11 => undef | 12 => undef | 13 => undef | 14 => undef | 15 => undef | 16 => undef | 17 => undef | 18 => undef | 19 => undef | _ => undef) (by rfl) (by kernel_rfl) (by rfl) ⟨by kernel_rfl, by kernel_rfl, by kernel_rfl, by decide⟩ (by kernel_rfl) (Below.refl _ _) ?hput ?hinj ?stable ?step ?last
  case hput =>
    intro i hi ua v
    match i, hi with
    | 0, _ => rfl
    | 1, _ => rfl
    | 2, _ => rfl
    | 3, _ => rfl
    | 4, _ => rfl
    | 5, _ => rfl
    | 6, _ => rfl
    | 7, _ => rfl
    | 8, _ => rfl
    | 9, _ => rfl
    | i + 10, hi => exact absurd hi (by omega)
  case hinj =>
    intro i j hi hj h
    exact slots_inj [10, 11, 12, 13, 14, 15, 16, 17, 18, 19] (by decide) hi hj h
  case stable =>
    intro i v w8 w9 hb h
    match i, h with
    | 0, h => exact h
    | 1, h => exact h
    | 2, h => exact h
    | 3, h => exact h
    | 4, h => exact h
    | 5, h => exact h
    | 6, h => exact h
    | 7, h => exact h
    | 8, h => exact h
    | 9, h => exact h
    | _ + 10, h => trivial
  case step =>
    intro i hi ua w8 S8 hdep
    match i, hi with
    | 0, _ =>
      clear hdep
      refine ⟨_, rfl, fun K' hK => ?_⟩
      go_simp
      exact hK.out _ _ (Below.refl _ _) rfl
    | 1, _ =>
      clear hdep
      refine ⟨_, rfl, fun K' hK => ?_⟩
      go_simp
      exact hK.out _ _ (Below.refl _ _) rfl
    | 2, _ =>
      have h1 : (ua 11) = .pointer (some ⟨M, 0, none⟩) := hdep 1 (by kernel_rfl)
      clear hdep
      refine ⟨_, rfl, fun K' hK => ?_⟩
      simp only [h1] at hK ⊢
      go_simp
      exact hK.out _ _ (Below.refl _ _) rfl
    | 3, _ =>
      have h2 : (ua 12) = .pointer (some ⟨M, 0, none⟩) := hdep 2 (by kernel_rfl)
      clear hdep
      refine ⟨_, rfl, fun K' hK => ?_⟩
      simp only [h2] at hK ⊢
      go_simp
      exact hK.out _ _ (Below.refl _ _) rfl
    | 4, _ =>
      have h3 : (ua 13) = .pointer (some ⟨M, 5, none⟩) := hdep 3 (by kernel_rfl)
      clear hdep
      refine ⟨_, rfl, fun K' hK => ?_⟩
      obtain ⟨y5, y6, -, -⟩ := HK5.out w8 S8
      simp only [h3] at hK ⊢
      go_simp
      exact hK.out _ _ (Below.refl _ _) rfl
    | 5, _ =>
      clear hdep
      refine ⟨_, rfl, fun K' hK => ?_⟩
      go_simp
      exact hK.out _ _ (Below.refl _ _) rfl
    | 6, _ =>
      have h5 : (ua 15) = .int .i64 l := hdep 5 (by kernel_rfl)
      clear hdep
      refine ⟨_, rfl, fun K' hK => ?_⟩
      simp only [h5] at hK ⊢
      go_simp
      refine (HOn.out _).mono ?_
      rintro e w9 ⟨rfl, hb9⟩
      exact hK.out _ _ hb9 rfl
    | 7, _ =>
      have h4 : (ua 14) = .agg #[.int .u64 H1, .int .u64 H2] := hdep 4 (by kernel_rfl)
      have h6 : (ua 16) = .agg #[.int .u64 (pBit l), .int .u64 (oBit l)] := hdep 6 (by kernel_rfl)
      clear hdep
      refine ⟨_, rfl, fun K' hK => ?_⟩
      simp only [h4, h6] at hK ⊢
      go_simp
      refine (HWi.out _).mono ?_
      rintro e w9 ⟨rfl, hb9⟩
      exact hK.out _ _ hb9 rfl
    | 8, _ =>
      have h0 : (ua 10) = .pointer (some ⟨M, 0, none⟩) := hdep 0 (by kernel_rfl)
      clear hdep
      refine ⟨_, rfl, fun K' hK => ?_⟩
      simp only [h0] at hK ⊢
      go_simp
      exact hK.out _ _ (Below.refl _ _) rfl
    | 9, _ =>
      have h8 : (ua 18) = .pointer (some ⟨M, 0, none⟩) := hdep 8 (by kernel_rfl)
      clear hdep
      refine ⟨_, rfl, fun K' hK => ?_⟩
      simp only [h8] at hK ⊢
      go_simp
      exact hK.out _ _ (Below.refl _ _) rfl
    | i + 10, hi => exact absurd hi (by omega)
  case last =>
    intro ua w8 S8 hall
    have h7 : (ua 17) = .agg #[.int .u64 A1, .int .u64 A2] := hall 7 (by decide)
    have h9 : (ua 19) = .pointer (some ⟨M, 5, none⟩) := hall 9 (by decide)
    clear hall
    refine ⟨_, rfl, fun K' hK => ?_⟩
    obtain ⟨y5, y6, z5, z6⟩ := HK5.out w8 S8
    simp only [h7, h9] at hK ⊢
    go_simp
    refine hK.out _ _ ?_
    obtain ⟨q1, q2⟩ := Sol.setHeld (HS.out.below S8) (by omega) (A1, A2)
    have HSA := hid q1
    have HCA := hid ((Chg.below S8).trans q2)
    clear q1 q2 S8 h7 h9 y5 y6 z5 z6
    generalize (w8.setCell ⟨M, 5, none⟩ (.int .u64 A1)).setCell ⟨M, 6, none⟩ (.int .u64 A2) = wa at *
    obtain ⟨Fa, hFa⟩ : ∃ Fa, (fun j => if j = 6 then Value.int .u64 ((A1, A2) : LS).2 else if j = 5 then Value.int .u64 ((A1, A2) : LS).1 else F j) = Fa := ⟨_, rfl⟩
    rw [hFa] at HSA HCA
    have HFa2 : Hid (Fa 2 = F 2) := hid (by rw [← hFa]; rfl)
    clear hFa
    have HTr : Hid (wa.ownsRow 0 87 2 (Fa 7) s.T.length (flatP s.T)) := hid (HSA.out.rows 1003 (by omega))
    obtain ⟨ta, tc, hta⟩ := own_form HTr.out
    have c7 := HSA.out.cell (i := 7) (by omega)
    rw [hta] at c7 HTr
    have HF7 := hid hta
    clear hta
    have hMa := HSA.out.lt.1
    have HM7 : Hid (∀ w3 : World, wa.grownBy w3 (Value.ownBlock (.slice ta s.T.length tc)) → w3.frozen? ⟨M, 7, none⟩ = false ∧ w3.cell? ⟨M, 7, none⟩ = some (.slice ta s.T.length tc) ∧ w3.cell? ⟨M, 4, none⟩ = some (.map (some mb)) ∧ M < w3.heap.size) := hid (fun w3 hg => by
      have hne : some M ≠ Value.ownBlock (.slice ta s.T.length tc) := fun e => (HSA.out.off 1003 M (by rw [blk_ne (by omega)]; show (Fa 7).ownBlock = _; rw [HF7.out]; exact e.symm)).1 rfl
      have hb := hg.block M hMa hne
      have h4 := HSA.out.cell (i := 4) (by omega)
      rw [HSA.out.f4] at h4
      exact ⟨(World.frozen?_of_block (a := ⟨M, 7, none⟩) hb).trans (HSA.out.frozen 7), (World.cell?_of_block (a := ⟨M, 7, none⟩) hb).trans c7, (World.cell?_of_block (a := ⟨M, 4, none⟩) hb).trans h4, Nat.lt_of_lt_of_le hMa hg.size⟩)
    obtain ⟨i1, hi1, hzz⟩ := Option.map_eq_some_iff.1 info_fact
    simp only [Prod.mk.injEq] at hzz
    obtain ⟨hz0, hz1, hz2⟩ := hzz
    have HI1 := hid hi1
    have HY0 := hid hz0
    have HY1 := hid hz1
    have HY2 := hid hz2
    clear hz0 hz1 hz2 hi1
    have HSB : Hid (∀ (w3 : World) (va : Option Addr) (vc : Nat), wa.grownBy w3 (Value.ownBlock (.slice ta s.T.length tc)) → w3.ownsRow 0 87 2 (.slice va (s.T.length + 1) vc) (s.T.length + 1) (flatP s.T ++ [.int .i64 l, .int .i64 r]) → (Value.ownBlock (.slice va (s.T.length + 1) vc) = Value.ownBlock (.slice ta s.T.length tc) ∨ ∃ g, wa.heap.size ≤ g ∧ Value.ownBlock (.slice va (s.T.length + 1) vc) = some g) → ∃ Fb, Sol 0 M mb Fb V (held1 s l r) (w3.setCell ⟨M, 7, none⟩ (.slice va (s.T.length + 1) vc)) ∧ Chg M mb (blk 0 Fa V) (blk 0 Fb V) wa (w3.setCell ⟨M, 7, none⟩ (.slice va (s.T.length + 1) vc)) ∧ Fb 2 = Fa 2) := hid (fun w3 va vc hg ho hl => by
      have := Sol.store HSA.out (by omega) (a0 := 1003) (c := 7) (by simp) (v' := .slice va (s.T.length + 1) vc) (s' := held1 s l r) (w1 := w3) (by show wa.grownBy w3 (Fa 7).ownBlock; rw [HF7.out]; exact hg) (by show w3.ownsRow 0 87 2 _ (s.T ++ [(l, r)]).length (flatP (s.T ++ [(l, r)])); rw [flatP_add, List.length_append]; exact ho) (by show _ = (Fa 7).ownBlock ∨ _; rw [HF7.out]; rcases hl with hl | hl; exact .inl hl; exact .inr (.inr hl)) (fun a ha v w hr => by unfold RowA held1 at *; simpa [ha] using hr) rfl (by show withL s.H (onlyL l) = _; exact HAe.out) rfl
      exact ⟨_, this.1, this.2, rfl⟩)
    go_wp2_with (first
      | (at_builtin; (refine wpList_append_own_at _ rfl _ _ 66 rfl 0 87 i1 _ 2 16 Tryd.underlying66 HI1.out HY0.out HY1.out HY2.out rfl (by decide) _ _ _ rfl (World.ownsRow.alloc HTr.out _) ⟨wa.heap.size, 0, none⟩ 1 1 [.int .i64 l, .int .i64 r] rfl rfl (cell_two_new _ _ _ _) (fun x hx => by simp at hx; rcases hx with rfl | rfl <;> rfl) (by unfold maxLen; omega) (by omega) (Nat.zero_le _) ?_); intro v' w3 hown' hgrow3 hnil3 hat3; obtain ⟨va, vc, e3⟩ := own_form hown'; subst e3; have hg3 : wa.grownBy w3 (Value.ownBlock (.slice ta s.T.length tc)) := (grown_below ((Below.refl _ wa).alloc (Nat.le_refl _) _)).trans hgrow3; obtain ⟨z7, k7, k4, zM⟩ := HM7.out w3 hg3; obtain ⟨Fb, q1, q2, qf⟩ := HSB.out w3 va vc hg3 hown' (by rcases hat3 with hat3 | hat3; exact .inl hat3; exact .inr ⟨_, by simp, hat3⟩); have HSb := hid q1; have HCb := hid q2; have HFb2 := hid qf; clear qf; have hlk := Sol.lookAt q1 (x := -l) (by omega) (by omega) (grown_refl _ none) (by simp); obtain ⟨na, nc, hna, hkp⟩ := kp_start (Sol.rowOf q1 (x := -l) (by omega) (by omega) (by omega) (by omega)); obtain ⟨n, hn⟩ : ∃ n, ((held1 s l r).L (-l)).length = n := ⟨_, rfl⟩; rw [hn] at hna hkp; rw [hna] at hlk; have HNa := hid hna; have HNn : Hid ((s.L (-l)).length = n) := hid hn; clear hn; have HKp := hid hkp; clear q1 q2 hown' hgrow3 hnil3 hat3 hna hkp hg3))
    clear c7 z7 k7 k4 zM hlk
    generalize w3.setCell ⟨M, 7, none⟩ (.slice va (s.T.length + 1) vc) = wb at *
    have HSl : Hid (Sol (-l) M mb Fb V (held1 s l r) wb) := hid (Sol.part HSb.out HV0.out (-l))
    have HBx : Hid ((V (-l)).ownBlock = Value.ownBlock (.slice na n nc)) := hid (by rw [HNa.out])
    have HKp' : Hid (Kp wb na n nc (s.L (-l)) [] 0) := HKp
    have HCx : Hid (∀ wr Fj Vj, Chg M mb (beta (-l) (Value.ownBlock (.slice na n nc)) Fb V) (beta (-l) (Value.ownBlock (.slice na n nc)) Fj Vj) wb wr → Chg M mb (blk 0 F V) (beta (-l) (Value.ownBlock (.slice na n nc)) Fj Vj) w wr) := hid (fun wr Fj Vj hc => (HCA.out.trans HCb.out).trans (chg_from hc (fun a j hb => by
      unfold beta at hb
      by_cases e : a = -l
      · rw [if_pos e] at hb
        rw [e, blk_ne (by omega), valV (by omega), HBx.out]
        exact hb
      · rw [if_neg e] at hb
        by_cases e0 : a = 0
        · subst e0; exact absurd hb (nil_zero HSb.out HV0.out)
        · exact blk_lift hb e0)))
    have HGx : Hid (∀ wr Fj Vj g, na = some ⟨g, 0, none⟩ → Chg M mb (beta (-l) (Value.ownBlock (.slice na n nc)) Fb V) (beta (-l) (Value.ownBlock (.slice na n nc)) Fj Vj) wb wr → g ≠ M ∧ g ≠ mb ∧ g ≠ 0 ∧ ∀ a, blk (-l) Fj Vj a ≠ some g) := hid (fun wr Fj Vj g hg hc => by
      have hb : blk 0 Fb V (-l) = some g := by rw [blk_ne (by omega), valV (by omega), HBx.out, hg]; rfl
      refine ⟨(HSb.out.off _ g hb).1, (HSb.out.off _ g hb).2, fun e => HSb.out.tabo.2.2 (-l) (by rw [← e]; exact hb), fun a ha => ?_⟩
      have hal := (blk_val ha).1
      rcases hc.news a g (by unfold beta; rw [if_neg hal]; exact ha) with h1 | h1
      · unfold beta at h1
        rw [if_neg hal] at h1
        by_cases e0 : a = 0
        · subst e0; exact absurd h1 (nil_zero HSb.out HV0.out)
        · exact HSb.out.apart a (-l) g hal (blk_lift h1 e0) hb
      · have := HSb.out.blt hb
        omega)
    obtain ⟨P, hP⟩ : ∃ P : Nat → Sv × List Nat, (fun j => mvs (-l) ((s.L (-l)).take j) (held1 s l r) []) = P := ⟨_, rfl⟩
    have hPj : ∀ j, mvs (-l) ((s.L (-l)).take j) (held1 s l r) [] = P j := fun j => by rw [← hP]
    have HP0 : Hid (P 0 = (held1 s l r, [])) := hid (by rw [← hP]; rfl)
    have HPm : Hid (∀ j, j ≤ n → Mid (P j).1 s.H l (P j).2 ((s.L (-l)).drop j)) := hid (fun j _ => by rw [← hPj]; exact mvs_pre _ _ _ _ (by rw [List.take_append_drop]; exact HMid.out))
    have HPs : Hid (∀ j, j < n → ∀ nb, (s.L (-l))[j]?.getD 0 = nb → P (j + 1) = ((mv (P j).1 nb (-l)).1, if (mv (P j).1 nb (-l)).2 = true then (P j).2 else (P j).2 ++ [nb]) ∧ (s.L (-l)).drop j = nb :: (s.L (-l)).drop (j + 1)) := hid (fun j hj nb hnb => by
      have hjl : j < (s.L (-l)).length := by rw [HNn.out]; exact hj
      have e1 : (s.L (-l))[j]? = some nb := by rw [List.getElem?_eq_getElem hjl] at hnb ⊢; simp at hnb; rw [hnb]
      refine ⟨?_, ?_⟩
      · rw [← hPj, ← hPj, List.take_add_one, e1, mvs_append]
        rfl
      · rw [List.drop_eq_getElem_cons hjl]
        rw [List.getElem?_eq_getElem hjl] at e1
        injection e1 with e1
        rw [e1])
    have HPC : Hid (∀ j, (P j).1.C = s.C) := hid (fun j => by rw [← hPj]; exact (mvs_same _ _ _ _).1)
    have HPn : Hid (holdS s l r = { (P n).1 with L := solMath.upd (P n).1.L (-l) (P n).2 }) := hid (by
      rw [← hPj, List.take_of_length_le (by rw [HNn.out]; exact Nat.le_refl _)]
      rfl)
    clear hP hPj HKp HMid HSA HTr HM7 HSB HK5
    have hn9 : n ≤ 8000000000000 := by have := HOk.out.most (x := -l) (by omega); rw [HNn.out] at this; omega
    go_loopw [43, 7] (fun i kv wr => ∃ (j : Nat) (Fj : Nat → Value) (Vj : Int → Value), j ≤ n ∧ i = .int .i64 j ∧ kv = .slice na (P j).2.length nc ∧ Sol (-l) M mb Fj Vj (P j).1 wr ∧ Chg M mb (beta (-l) (Value.ownBlock (.slice na n nc)) Fb V) (beta (-l) (Value.ownBlock (.slice na n nc)) Fj Vj) wb wr ∧ Kp wr na n nc (s.L (-l)) (P j).2 j ∧ Fj 2 = F 2) (fun i _ _ => n - (intOf i).toNat)
    case atStart => exact ⟨0, Fb, V, Nat.zero_le _, rfl, by rw [HP0.out]; rfl, by rw [HP0.out]; exact HSl.out, Chg.below (Below.refl _ _), by rw [HP0.out]; exact HKp'.out, HFb2.out.trans HFa2.out⟩
    case round =>
      obtain ⟨j, Fj, Vj, hj, rfl, rfl, hS, hC, hK, hf2⟩ := hrel
      have HF2j := hid hf2
      clear hf2
      have HSj := hid hS
      have HCj := hid hC
      have HKj := hid hK
      obtain ⟨kl, hkl9⟩ : ∃ kl, (P j).2.length = kl := ⟨_, rfl⟩
      rw [hkl9]
      have HKl := hid hkl9
      clear hS hC hK
      by_cases hlt : j < n
      · obtain ⟨g, rfl, hcell, hkl, hnc, hncm, hsome, hfroz, hgl⟩ := kp_cell HKj.out hlt
        rw [hkl9] at hkl
        clear hkl9
        obtain ⟨nb, hnb⟩ : ∃ nb, (s.L (-l))[j]?.getD 0 = nb := ⟨_, rfl⟩
        rw [hnb] at hcell
        obtain ⟨e1, e2⟩ := HPs.out j hlt nb hnb
        have HE1 := hid e1
        have hmid := HPm.out j hj
        rw [e2] at hmid
        have HMv := hid (move_mid M mb Fj Vj (P j).1 wr HSj.out hmid (by rw [HPC.out]; exact hlen))
        have hnbl : nb ≤ 8400000000000 := by have := hmid.head.2.2.2.2; rw [HPC.out] at this; omega
        obtain ⟨bv, hbv⟩ : ∃ bv, (mv (P j).1 nb (-l)).2 = bv := ⟨_, rfl⟩
        rw [hbv] at HMv
        have HBv := hid hbv
        obtain ⟨x1, x2, x3, x4⟩ := HGx.out wr Fj Vj g rfl HCj.out
        have HX4 := hid x4
        have hsk := hsome kl (by omega)
        have hfk := hfroz kl
        have HSo := hid hsome
        have HFr := hid hfroz
        clear e1 e2 hmid hbv hnb x4 hsome hfroz
        have hjn : (j : Int) < (n : Int) := by omega
        go_wp2_with fail
        refine HMv.out.mono ?_
        rintro e w5 ⟨rfl, F', V', q1, q2, qf⟩
        have HQf := hid (qf.trans HF2j.out)
        clear qf
        have hg5 : w5.heap[g]? = wr.heap[g]? := q2.block g hgl x1 x2 HX4.out
        have HK5 := hid (kp_keep (w1 := w5) HKj.out (fun g' e => by injection e with e; injection e with e; subst e; exact hg5))
        have HQ1 := hid q1
        have HC5 := hid (HCj.out.trans (chg_beta (bx := Value.ownBlock (.slice (some ⟨g, 0, none⟩) n nc)) q2))
        have hz5 := q2.size
        have HS5 : Hid ((w5.cell? ⟨g, kl, none⟩).isSome = true ∧ w5.frozen? ⟨g, kl, none⟩ = false) := hid ⟨by rw [World.cell?_of_block (a := ⟨g, kl, none⟩) hg5]; exact hsk, by rw [World.frozen?_of_block (a := ⟨g, kl, none⟩) hg5]; exact hfk⟩
        clear q1 q2 hcell hsk hfk hg5
        cases bv with
        | true =>
          have HP1 : Hid (P (j + 1) = ((mv (P j).1 nb (-l)).1, (P j).2)) := hid (by rw [HE1.out, HBv.out, if_pos rfl])
          go_wp2
          go_roundw
          case rel =>
            refine ⟨j + 1, F', V', by omega, by go_num, by rw [HP1.out, HKl.out], by rw [HP1.out]; exact HQ1.out, HC5.out, by rw [HP1.out]; exact kp_skip HK5.out, HQf.out⟩
          case measure => simp [intOf]; omega
        | false =>
          have HP1 : Hid (P (j + 1) = ((mv (P j).1 nb (-l)).1, (P j).2 ++ [nb])) := hid (by rw [HE1.out, HBv.out, if_neg Bool.false_ne_true])
          have hBa : Below w5.heap.size w5 (w5.alloc (.cells #[.int .i64 (nb : Int)] 3)) := (by repeat (first | exact Below.refl _ _ | assumption | refine Below.drew ?_ | refine Below.alloc ?_ (by first | exact Nat.le_refl _ | omega | (simp; done) | (simp; omega)) _ | refine Below.setCell ?_ (by first | exact Nat.le_refl _ | omega | (simp; done) | (simp; omega)) _))
          have HBa := hid hBa
          go_wp2_with (at_builtin; go_loud (refine Go.wpList_append_room1 _ rfl _ _ 36 36 rfl 3 _ _ Tryd.underlying36 solPush.info_i g 0 kl nc rfl _ rfl 1 [.int .i64 (nb : Int)] (Src.ofSlice _ Tryd.underlying36 ⟨w5.heap.size, 0, none⟩ 1 1 [.int .i64 (nb : Int)] (by first | rfl | simp) (cell_one_new _ _ _) (fun u hu => by simp at hu; subst hu; rfl)) (by omega) (fun q hq => by obtain rfl : q = 0 := (by simpa using hq); exact kept_some HBa.out HS5.out.1) (fun q hq => by obtain rfl : q = 0 := (by simpa using hq); exact kept_froz HBa.out HS5.out.1 HS5.out.2) ?_))
          go_roundw
          case rel =>
            refine ⟨j + 1, F', V', by omega, by go_num, by rw [HP1.out, List.length_append, HKl.out]; rfl, ?_, ?_, ?_, HQf.out⟩
            · rw [HP1.out]
              exact sol_far (HQ1.out.below HBa.out) x1 x2 x3 (HGx.out w5 F' V' g rfl HC5.out).2.2.2
            · exact (HC5.out.trans (Chg.below HBa.out)).trans (chg_cell (a := -l) (by unfold beta; rw [if_pos rfl]; rfl))
            · rw [HP1.out]
              have := kp_put (i := nb) (kp_keep (w1 := w5.alloc (.cells #[.int .i64 (nb : Int)] 3)) HK5.out (fun g' e => by injection e with e; injection e with e; subst e; exact HBa.out.block g (by omega))) hlt
              rw [HKl.out] at this
              simp only [Nat.zero_add]
              exact this
          case measure => simp [intOf]; omega
      · have e : j = n := by omega
        subst e
        clear hkl9
        obtain ⟨w9, hr9, q1, q2⟩ := Sol.back HSj.out (x := -l) (by omega) (by omega) (by omega) (v' := .slice na kl nc) (P j).2 (by have := kp_own HKj.out (Nat.le_refl _); rw [HKl.out] at this ⊢; exact this) (fun g hg => HGx.out wr Fj Vj g (by
          rcases HKj.out with ⟨e, _⟩ | ⟨g', cur, e, _⟩
          · rw [e] at hg; cases hg
          · rw [e] at hg ⊢; injection hg with hg; simp only at hg; rw [hg]) HCj.out) (by have := HSj.out.rows 0 (by omega); rw [valV (by omega)] at this; unfold RowA at this; simpa using this)
        have HQ1 := hid q1
        rw [own_same na kl j nc] at q2
        have HQ2 := hid q2
        have k4 := HSj.out.cell (i := 4) (by omega)
        rw [HSj.out.f4] at k4
        clear q1 q2
        go_wp2_with (at_mapUpdate; refine wpList_put _ w9 rfl _ _ _ 63 rfl _ _ _ rfl rfl rfl hr9 ?_)
        go_end0
        refine ⟨rfl, Fj, _, ?_, ?_, (HCx.out wr Fj Vj HCj.out).trans HQ2.out, HF2j.out⟩
        · rw [HPn.out]; exact HQ1.out
        · have := HSj.out.rows 0 (by omega)
          rw [valV (by omega)] at this
          unfold RowA at this
          unfold updV
          rw [if_neg (by omega)]
          simpa using this
end Go.Proofs.YtbahjpheaaiamaaDoor.solHoldI
