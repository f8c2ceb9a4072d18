/- SatMath; LeastImpl: one text, so that the claim has fewer files. -/
import Derived.Test.YtpfecijahiikhaaGreatDoorPart43
import Derived.Test.YtpfecijahiikhaaGreatDoorPart34
import Derived.Test.YtpfecijahiikhaaGreatDoorLeastSem
/- What the rules of a proof keep: a clause that propagation tells is true in all models, one that resolves away takes no last model; what checks has none, and a refutation checks; conditions: literals of the formula. -/
namespace Go.Proofs.YtpfecijahiikhaaGreatDoor.satMath
open sets solSets solMath solHold solProp solNew solClose solTrail chkNew chkMath ratMath chkSem runS leastSem
open rupSpec (LitsIn)
set_option linter.unusedVariables false
set_option linter.unusedSimpArgs false

def litsM (M : Nat → Int) (k : Nat) : List Int := (List.range k).map fun i => if M (i + 1) = 1 then ((i + 1 : Nat) : Int) else -((i + 1 : Nat) : Int)
/-- The literals that values make true. -/
def setM (M : Nat → Int) (k : Nat) : LS := setL (litsM M k)
theorem litsM_in {M : Nat → Int} {k : Nat} : ∀ z ∈ litsM M k, z ≠ 0 ∧ z.natAbs ≤ k := fun z hz => by
  unfold litsM at hz
  obtain ⟨i, hi, rfl⟩ := List.mem_map.1 hz
  have := List.mem_range.1 hi
  split <;> omega
theorem wf_setM {M : Nat → Int} {k : Nat} (hk : k ≤ 40) : Wf (setM M k) := wf_set fun z hz => by
  have := litsM_in z hz
  exact ⟨this.1, by omega⟩
theorem val_pos (M : Nat → Int) {l : Int} (h : 0 < l) : runS.valOf M l = M l.natAbs := by unfold runS.valOf; rw [if_neg (by omega)]
theorem val_neg (M : Nat → Int) {l : Int} (h : l < 0) : runS.valOf M l = -M l.natAbs := by unfold runS.valOf; rw [if_pos h]
theorem val_turn (M : Nat → Int) {l : Int} (h : l ≠ 0) : runS.valOf M (-l) = -runS.valOf M l := by
  unfold runS.valOf
  rw [Int.natAbs_neg]
  by_cases h1 : l < 0
  · rw [if_pos h1, if_neg (by omega)]; omega
  · rw [if_neg h1, if_pos (by omega)]
theorem mem_setM {M : Nat → Int} {k : Nat} (hT : Tot M (k + 1)) (l : Int) : mem (setM M k) l = true ↔ (l ≠ 0 ∧ l.natAbs ≤ k ∧ runS.valOf M l = 1) := by
  unfold setM
  rw [mem_set (fun z hz => (litsM_in z hz).1), List.contains_iff_mem]
  constructor
  · intro h
    obtain ⟨h1, h2⟩ := litsM_in l h
    refine ⟨h1, h2, ?_⟩
    unfold litsM at h
    obtain ⟨i, hi, e⟩ := List.mem_map.1 h
    have hik := List.mem_range.1 hi
    by_cases hM : M (i + 1) = 1
    · rw [if_pos hM] at e
      rw [val_pos M (by omega), show l.natAbs = i + 1 by omega, hM]
    · rw [if_neg hM] at e
      have := (hT (i + 1) (by omega) (by omega)).resolve_left hM
      rw [val_neg M (by omega), show l.natAbs = i + 1 by omega, this]; rfl
  · rintro ⟨h1, h2, h3⟩
    unfold litsM
    refine List.mem_map.2 ⟨l.natAbs - 1, List.mem_range.2 (by omega), ?_⟩
    rw [show l.natAbs - 1 + 1 = l.natAbs by omega]
    by_cases h0 : 0 < l
    · rw [val_pos M h0] at h3
      rw [if_pos h3]; omega
    · rw [val_neg M (by omega)] at h3
      rw [if_neg (by omega)]; omega
theorem tot_val {M : Nat → Int} {k : Nat} (hT : Tot M (k + 1)) {l : Int} (h : l ≠ 0) (hl : l.natAbs ≤ k) : runS.valOf M l = 1 ∨ runS.valOf M l = -1 := by
  have := hT l.natAbs (by omega) (by omega)
  unfold runS.valOf
  split <;> omega
theorem cons_setM {M : Nat → Int} {k : Nat} (hT : Tot M (k + 1)) : Cons (setM M k) := fun l hl => by
  obtain ⟨h1, h2, h3⟩ := (mem_setM hT l).1 hl
  cases h : mem (setM M k) (-l) with
  | false => rfl
  | true =>
    obtain ⟨_, _, h4⟩ := (mem_setM hT (-l)).1 h
    rw [val_turn M h1, h3] at h4
    cases h4
theorem lit41 {k : Nat} {Z : List (List Int)} (hk : k ≤ 40) (hl : LitsIn (k + 1) Z) {c : List Int} (hc : c ∈ Z) : ∀ z ∈ c, z ≠ 0 ∧ z.natAbs < 41 := fun z hz => by
  have := hl c hc z hz
  exact ⟨this.1, by omega⟩
theorem mod_closed {M : Nat → Int} {k : Nat} {Z : List (List Int)} (hk : k ≤ 40) (hl : LitsIn (k + 1) Z) (hm : Mod Z (k + 1) M) : Closed (Z.map setL) (setM M k) :=
  ⟨wf_setM hk, cons_setM hm.1, fun c hc => by
    obtain ⟨ys, hy, rfl⟩ := List.mem_map.1 hc
    obtain ⟨z, hz, hv⟩ := hm.2 ys hy
    have h1 := hl ys hy z hz
    exact .inl ((meet_iff (wf_set (lit41 hk hl hy))).2 ⟨z, by rw [mem_set (fun z hz => (hl ys hy z hz).1), List.contains_iff_mem]; exact hz, (mem_setM hm.1 z).2 ⟨h1.1, by omega, hv⟩⟩)⟩
/-- What propagation tells is true where all variables have values. -/
theorem rup_meet {cs : List LS} {c H : LS} (hw : Wf c) (h : rupP cs c) (hcl : Closed cs H) (ht : ∀ l, mem c l = true → mem H l = true ∨ mem H (-l) = true) : ∃ l, mem c l = true ∧ mem H l = true := by
  refine Classical.byContradiction fun hno => ?_
  have hall : ∀ l, mem c l = true → mem H (-l) = true := fun l hl => (ht l hl).resolve_left (fun e => hno ⟨l, hl, e⟩)
  rcases h with h | h
  · obtain ⟨l, h1, h2⟩ := (meet_iff hw).1 h
    have hr := (hw.range h1).1
    rw [mem_turn hr] at h2
    have h3 := hall _ h2
    rw [Int.neg_neg] at h3
    have h4 := hcl.cons _ h3
    rw [hall l h1] at h4
    cases h4
  · refine h ⟨H, hcl, fun l hl => ?_⟩
    have hr := ((wf_turn hw).range hl).1
    rw [mem_turn hr] at hl
    have := hall _ hl
    rwa [Int.neg_neg] at this
theorem tot_mem {M : Nat → Int} {k : Nat} (hT : Tot M (k + 1)) {l : Int} (h : l ≠ 0) (hl : l.natAbs ≤ k) : mem (setM M k) l = true ∨ mem (setM M k) (-l) = true := by
  rcases tot_val hT h hl with e | e
  · exact .inl ((mem_setM hT l).2 ⟨h, hl, e⟩)
  · exact .inr ((mem_setM hT (-l)).2 ⟨by omega, by omega, by rw [val_turn M h, e]; rfl⟩)
theorem rup_model {M : Nat → Int} {k : Nat} {Z : List (List Int)} {zs : List Int} (hk : k ≤ 40) (hl : LitsIn (k + 1) Z) (hz : ∀ z ∈ zs, z ≠ 0 ∧ z.natAbs < k + 1) (h : rupP (Z.map setL) (setL zs)) (hm : Mod Z (k + 1) M) : ∃ z ∈ zs, runS.valOf M z = 1 := by
  have hw : Wf (setL zs) := wf_set fun z h9 => by have := hz z h9; exact ⟨this.1, by omega⟩
  have hms : ∀ l, mem (setL zs) l = true → l ∈ zs := fun l h9 => by rwa [mem_set (fun z hz9 => (hz z hz9).1), List.contains_iff_mem] at h9
  obtain ⟨l, h1, h2⟩ := rup_meet hw h (mod_closed hk hl hm) (fun l h9 => by
    have := hz l (hms l h9)
    exact tot_mem hm.1 this.1 (by omega))
  exact ⟨l, hms l h1, ((mem_setM hm.1 l).1 h2).2.2⟩
theorem set_turn (M : Nat → Int) {l z : Int} (hl : l ≠ 0) (hz : z ≠ 0) : runS.valOf (setV M l) z = if z = l then 1 else if z = -l then -1 else runS.valOf M z := by
  by_cases h1 : z.natAbs = l.natAbs
  · have h2 : setV M l z.natAbs = if 0 < l then 1 else -1 := by unfold setV; rw [if_pos h1]
    unfold runS.valOf
    rw [h2]
    rcases Int.lt_or_gt_of_ne hl with h3 | h3 <;> rcases Int.lt_or_gt_of_ne hz with h4 | h4
    · rw [if_pos h4, if_neg (by omega), if_pos (by omega)]; rfl
    · rw [if_neg (by omega), if_neg (by omega), if_neg (by omega), if_pos (by omega)]
    · rw [if_pos h4, if_pos h3, if_neg (by omega), if_pos (by omega)]
    · rw [if_neg (by omega), if_pos h3, if_pos (by omega)]
  · have h2 : setV M l z.natAbs = M z.natAbs := by unfold setV; rw [if_neg h1]
    rw [if_neg (by omega), if_neg (by omega)]
    unfold runS.valOf
    rw [h2]
theorem rat_model {M : Nat → Int} {k : Nat} {Z : List (List Int)} {zs : List Int} (hk : k ≤ 40) (hl : LitsIn (k + 1) Z) (hz : ∀ z ∈ zs, z ≠ 0 ∧ z.natAbs < k + 1) (h : ratP (Z.map setL) zs) (hm : Mod Z (k + 1) M) : ∃ M', Mod (Z ++ [zs]) (k + 1) M' := by
  by_cases hs : ∃ z ∈ zs, runS.valOf M z = 1
  · exact ⟨M, hm.1, fun c hc => by
      rcases List.mem_append.1 hc with hc | hc
      · exact hm.2 c hc
      · rw [List.mem_singleton.1 hc]; exact hs⟩
  obtain ⟨l, r, rfl, hat⟩ := h
  have hl0 := hz l (by simp)
  have hT : Tot (setV M l) (k + 1) := fun i h1 h2 => by
    unfold setV
    by_cases e : i = l.natAbs
    · rw [if_pos e]; split <;> simp
    · rw [if_neg e]; exact hm.1 i h1 h2
  refine ⟨setV M l, hT, fun c hc => ?_⟩
  rcases List.mem_append.1 hc with hc | hc
  · by_cases hq : ∃ z ∈ c, runS.valOf M z = 1 ∧ z ≠ -l
    · obtain ⟨z, h1, h2, h3⟩ := hq
      refine ⟨z, h1, ?_⟩
      rw [set_turn M hl0.1 (hl c hc z h1).1]
      by_cases e : z = l
      · rw [if_pos e]
      · rw [if_neg e, if_neg h3]; exact h2
    · obtain ⟨z, h1, h2⟩ := hm.2 c hc
      obtain rfl : z = -l := Classical.byContradiction fun e => hq ⟨z, h1, h2, e⟩
      have hcw : Wf (setL c) := wf_set (lit41 hk hl hc)
      have hzw : Wf (setL (l :: r)) := wf_set fun z h9 => by have := hz z h9; exact ⟨this.1, by omega⟩
      have hmc : ∀ x, mem (setL c) x = true → x ∈ c := fun x h9 => by rwa [mem_set (fun z hz9 => (hl c hc z hz9).1), List.contains_iff_mem] at h9
      have hmz : ∀ x, mem (setL (l :: r)) x = true → x ∈ l :: r := fun x h9 => by rwa [mem_set (fun z hz9 => (hz z hz9).1), List.contains_iff_mem] at h9
      have hrup := hat (setL c) (List.mem_map.2 ⟨c, hc, rfl⟩) (by rw [mem_set (fun z hz9 => (hl c hc z hz9).1), List.contains_iff_mem]; exact h1)
      have hin : ∀ x, mem (resL (setL (l :: r)) (setL c) l) x = true → x ∈ l :: r ∨ (x ∈ c ∧ x ≠ -l) := fun x hx => by
        unfold resL at hx
        rw [mem_with, mem_wo hcw (wf_only (by omega) (by omega) (by omega)), mem_only (by omega), Bool.or_eq_true] at hx
        rcases hx with hx | hx
        · exact .inl (hmz x hx)
        · rw [Bool.and_eq_true] at hx
          refine .inr ⟨hmc x hx.1, fun e => ?_⟩
          have := hx.2
          rw [e] at this
          simp at this
      obtain ⟨x, h3, h4⟩ := rup_meet (wf_res hzw hcw l) hrup (mod_closed hk hl hm) (fun x hx => by
        rcases hin x hx with h9 | h9
        · have := hz x h9; exact tot_mem hm.1 this.1 (by omega)
        · have := hl c hc x h9.1; exact tot_mem hm.1 this.1 (by omega))
      have hv := ((mem_setM hm.1 x).1 h4).2.2
      rcases hin x h3 with h9 | h9
      · exact absurd ⟨x, h9, hv⟩ hs
      · exact absurd ⟨x, h9.1, hv, h9.2⟩ hq
  · rw [List.mem_singleton.1 hc]
    exact ⟨l, by simp, by rw [set_turn M hl0.1 hl0.1, if_pos rfl]⟩
end Go.Proofs.YtpfecijahiikhaaGreatDoor.satMath

/- The least model that goes with chosen values, of the specification (l02Least); conditions: literals of the variables, lengths that fit. -/
namespace Go.Proofs.YtpfecijahiikhaaGreatDoor.leastImpl
open Go.RowKit Go.Deep base copy rowsOwn runL leastSem
open runS (ValRow setV openN open_set open_le)
set_option linter.unusedVariables false

def valsL (V : Nat → Int) (n : Nat) : List Int := (List.range n).map V
theorem vals_len (V : Nat → Int) (n : Nat) : (valsL V n).length = n := by simp [valsL]
theorem vals_at (V : Nat → Int) {n i : Nat} (h : i < n) : (valsL V n)[i]?.getD 0 = V i := by simp [valsL, h]
theorem vals_news {w : World} {b n : Nat} {V : Nat → Int} (h : ValRow w b n V) : ∀ i u, ((valsL V n).map (Value.int .i64))[i]? = some u → w.cell? ((⟨b, 0, none⟩ : Addr).add i) = some u := fun i u hu => by
  have hi : i < n := by
    have := (List.getElem?_eq_some_iff.1 hu).1
    simpa [valsL] using this
  have e : (⟨b, 0, none⟩ : Addr).add i = ⟨b, 0 + i, none⟩ := by unfold Addr.add; split <;> simp_all
  rw [e, Nat.zero_add, (h.cell i hi).1]
  rw [← hu]
  simp [valsL, hi]
theorem vals_own {B g n c : Nat} {w : World} {V : Nat → Int} (h : OwnInts B w (.slice (some ⟨g, 0, none⟩) n c) (valsL V n)) (hr : Rng V n) : ValRow w g n V :=
  ⟨fun i hi => by
    obtain ⟨h1, h2⟩ := (own_holds h).2 i hi
    rw [Nat.zero_add, vals_at V hi] at h1
    rw [Nat.zero_add] at h2
    exact ⟨h1, h2⟩, hr⟩
theorem one_ints (zs : List Int) : ∀ u ∈ zs.map (Value.int .i64), u.oneCell' = true := fun u hu => by
  obtain ⟨z, _, rfl⟩ := List.mem_map.1 hu
  rfl
/-- How it ends: with the least model in a row of its own, or none is. -/
def LEnds (Z : List (List Int)) (n : Nat) (V : Nat → Int) (w : World) (e : Ending) (w' : World) : Prop :=
  (∃ g c M, e = .returned (.tuple #[.slice (some ⟨g, 0, none⟩) n c, .bool true]) ∧ ValRow w' g n M ∧ Least Z n V M ∧ Below w.heap.size w w') ∨ (e = .returned (.tuple #[.slice none 0 0, .bool false]) ∧ None_ Z n V ∧ Below w.heap.size w w')
set_option maxRecDepth 100000 in
set_option maxHeartbeats 6400000 in
theorem least_spec (B n : Nat) (a : Option Addr) (len cap : Nat) (psZ : List (Value × List Int)) (hn1 : 1 ≤ n) (hn : n ≤ 41) (hl : Lits (psZ.map (·.2)) n) :
    ∀ (m b c : Nat) (V : Nat → Int) (w : World), openN V n < m → OwnRows B w (.slice a len cap) psZ → ValRow w b n V →
      Calls Tryz.prog 30 #[.slice a len cap, .slice (some ⟨b, 0, none⟩) n c] w fun e w' => LEnds (psZ.map (·.2)) n V w e w' := by
  obtain ⟨i0, hi, hzz⟩ := Option.map_eq_some_iff.1 Tryz.info_int
  simp only [Prod.mk.injEq] at hzz
  obtain ⟨hz0, hz1, hz2⟩ := hzz
  have HI := hid hi
  have HZ0 := hid hz0
  have HZ1 := hid hz1
  have HZ2 := hid hz2
  clear hi hz0 hz1 hz2
  have HLi := hid hl
  obtain ⟨Z, hZ⟩ : ∃ Z, psZ.map (·.2) = Z := ⟨_, rfl⟩
  rw [hZ] at HLi ⊢
  have HZe := hid hZ
  clear hl hZ
  intro m
  induction m with
  | zero => intro b c V w h; exact absurd h (Nat.not_lt_zero _)
  | succ m ih =>
    intro b c V w hop hrows hv
    have HIh := hid ih
    have HOp := hid hop
    have HRows := hid hrows
    have HNews := hid (fun o => vals_news (vals_keep hv ((show Below w.heap.size w (w.alloc o) from (by repeat (first | exact Below.refl _ _ | assumption | refine Below.drew ?_ | refine Below.alloc ?_ (by first | exact Nat.le_refl _ | omega | (simp; done) | (simp; omega)) _ | refine Below.setCell ?_ (by first | exact Nat.le_refl _ | omega | (simp; done) | (simp; omega)) _))).block b (World.block_lt_of_cell? _ _ (hv.cell 0 (by omega)).1))))
    have HRng := hid hv.range
    clear ih hop hrows hv
    go_enter Tryz.func30, Tryz.ntmps30
    go_wp2_with (at_builtin; (refine wpList_append_own _ rfl _ _ 27 rfl w.heap.size 3 i0 (.int .i64 0) 1 8 Tryz.underlying27 HI.out HZ0.out HZ1.out HZ2.out rfl (by decide) _ _ _ rfl (cnfDraw.own_new w rfl (Nat.le_refl _)) ⟨b, 0, none⟩ n c ((valsL V n).map (.int .i64)) rfl (by rw [List.length_map, vals_len, Nat.mul_one]) (HNews.out _) (one_ints _) (by unfold maxLen; omega) (by omega) (by simp) ?_); intro v1 w1 hown1 hg1 hnil1)
    have hba : Below w.heap.size w (w.alloc (.cells #[] 3)) := (by repeat (first | exact Below.refl _ _ | assumption | refine Below.drew ?_ | refine Below.alloc ?_ (by first | exact Nat.le_refl _ | omega | (simp; done) | (simp; omega)) _ | refine Below.setCell ?_ (by first | exact Nat.le_refl _ | omega | (simp; done) | (simp; omega)) _))
    have HB1 : Hid (Below w.heap.size w w1) := hid (hba.grown hg1 hba.size (fun j e => by have e' : some w.heap.size = some j := e; injection e' with e'; omega))
    have HO1 : Hid (OwnInts w.heap.size w1 v1 (valsL V n)) := hid (by
      unfold OwnInts
      rw [vals_len]
      simpa using hown1)
    obtain ⟨vb, vc, hv1, hvb, hvl⟩ : ∃ g c, v1 = .slice (some ⟨g, 0, none⟩) n c ∧ w.heap.size ≤ g ∧ g < w1.heap.size := by
      rcases HO1.out.2 with ⟨e, h0⟩ | ⟨g, cp, cur, e, h1, h2, _⟩
      · rw [vals_len] at h0; omega
      · rw [vals_len] at e
        exact ⟨g, cp, e, h1, (Array.getElem?_eq_some_iff.1 h2).1⟩
    subst hv1
    have hvr1 := vals_own HO1.out HRng.out
    have HRun := hid (run_spec a len cap vb n vc Z V w1 (fun w' hg => by
      rw [← HZe.out]
      exact rows_of_own (HRows.out.below (HB1.out.grown hg HB1.out.size (fun j e => by injection e with e; omega)))) hvr1 hvl (fun zs' hz' z hz => (HLi.out zs' hz' z hz).2) hn)
    have HSn : Hid (∀ M', Mod Z n M' → Ext V M' n → (runF (n + 1) Z V []).2.1 = -1 ∧ Ext (runF (n + 1) Z V []).2.2 M' n) := hid (fun M' h1 h2 => run_sound HLi.out _ _ _ M' h1 h2)
    have HSa : Hid (∀ i, V i ≠ 0 → (runF (n + 1) Z V []).2.2 i = V i) := hid (fun i h => run_same _ _ _ i h)
    have HRg : Hid (Rng (runF (n + 1) Z V []).2.2 n) := hid (run_rng _ _ _ HRng.out)
    have HOn : Hid ((runF (n + 1) Z V []).2.1 < 0 → ∀ c ∈ Z, (runS.clS (runF (n + 1) Z V []).2.2 c 0 0).1 = true ∨ (runS.clS (runF (n + 1) Z V []).2.2 c 0 0).2.1 ≠ 0) := hid (run_open HLi.out _ _ _ (by have := open_most V n; omega))
    have HOl : Hid (openN (runF (n + 1) Z V []).2.2 n ≤ openN V n) := hid (open_le n (fun i _ h => by rw [run_same _ _ _ i h]; exact h))
    generalize runF (n + 1) Z V [] = R at *
    obtain ⟨Ro, Ra, V'⟩ := R
    simp only at HRun HSn HSa HRg HOn HOl
    clear hown1 hg1 hnil1 hba hvr1 HNews HO1
    go_wp2_with fail
    refine HRun.out.mono ?_
    rintro e w2 ⟨ov, rfl, -, hv2, hg2⟩
    have HB2 : Hid (Below w.heap.size w w2) := hid (HB1.out.grown hg2 HB1.out.size (fun j e => by injection e with e; omega))
    have HV2 := hid hv2
    have hvl2 : vb < w2.heap.size := Nat.lt_of_lt_of_le hvl hg2.size
    clear hv2 hg2 HRun
    by_cases hat : 0 ≤ Ra
    · go_wp2
      go_ret2
      exact .inr ⟨rfl, (fun M' h1 h2 => by have := (HSn.out M' h1 h2).1; omega), HB2.out⟩
    · have hat' : ¬ (0 : Int) ≤ Ra := hat
      have HOn2 := hid (HOn.out (by omega))
      go_wp2
      go_loop [9] (fun i => ∃ q : Nat, 1 ≤ q ∧ q ≤ n ∧ i = .int .i64 q ∧ ∀ j, 1 ≤ j → j < q → V' j ≠ 0) (fun i => n - (intOf i).toNat)
      case atStart => exact ⟨1, Nat.le_refl _, hn1, rfl, (fun j h1 h2 => by omega)⟩
      case round =>
        obtain ⟨q, hq1, hq2, rfl, hbf⟩ := hrel
        have HBf := hid hbf
        clear hbf
        by_cases hlt : q < n
        · obtain ⟨hc, hf⟩ := HV2.out.cell q hlt
          have hqi : (q : Int) < (n : Int) := by omega
          by_cases hv0 : V' q = 0
          · rw [hv0] at hc
            have HV0 := hid hv0
            have HLow : Hid (ValRow (w2.setCell ⟨vb, q, none⟩ (.int .i64 (-1))) vb n (setV V' (-(q : Int)))) := hid (by
              have h9 := HV2.out.set (z := -(q : Int))
              rw [if_neg (by omega)] at h9
              have e9 : (-(q : Int)).natAbs = q := by omega
              rw [e9] at h9
              exact h9)
            have HB3 : Hid (Below w.heap.size w (w2.setCell ⟨vb, q, none⟩ (.int .i64 (-1)))) := hid (HB2.out.setCell (by show w.heap.size ≤ vb; exact hvb) _)
            have hvl3 : vb < (w2.setCell ⟨vb, q, none⟩ (.int .i64 (-1))).heap.size := by simpa [World.setCell] using hvl2
            have HI1 := hid (HIh.out vb vc (setV V' (-(q : Int))) _ (by
              have h8 := open_set (V := V') (z := -(q : Int)) n (by omega) (by rw [show (-(q : Int)).natAbs = q by omega]; exact HV0.out)
              have := HOp.out
              have := HOl.out
              omega) (HRows.out.below HB3.out) HLow.out)
            clear hv0
            go_wp2_with fail
            obtain ⟨w3, hw3⟩ : ∃ w3, w2.setCell ⟨vb, q, none⟩ (.int .i64 (-1)) = w3 := ⟨_, rfl⟩
            rw [hw3] at HLow HB3 hvl3 HI1 ⊢
            clear hw3
            refine HI1.out.mono ?_
            rintro e w4 (⟨g4, c4, M4, rfl, hv4, hl4, hb4⟩ | ⟨rfl, hno, hb4⟩)
            · have HV4 := hid hv4
              have HL4 := hid (least_low (fun M' h1 h2 => (HSn.out M' h1 h2).2) HSa.out hq1 hlt HBf.out HV0.out hl4)
              have HB4 := hid (HB3.out.trans (hb4.mono HB3.out.size))
              clear hv4 hl4 hb4
              go_wp2
              go_ret2
              exact .inl ⟨g4, c4, M4, rfl, HV4.out, HL4.out, HB4.out⟩
            · have HNo := hid hno
              have HB4 := hid (HB3.out.trans (hb4.mono HB3.out.size))
              have HV4 := hid (vals_keep HLow.out (hb4.block vb hvl3))
              have hvl4 : vb < w4.heap.size := Nat.lt_of_lt_of_le hvl3 hb4.size
              obtain ⟨hc4, hf4⟩ := HV4.out.cell q hlt
              have HHi : Hid (ValRow (w4.setCell ⟨vb, q, none⟩ (.int .i64 1)) vb n (setV V' (q : Int))) := hid (by
                have h9 := HV4.out.set (z := (q : Int))
                rw [if_pos (by omega), Int.natAbs_natCast, set_two] at h9
                exact h9)
              have HB5 : Hid (Below w.heap.size w (w4.setCell ⟨vb, q, none⟩ (.int .i64 1))) := hid (HB4.out.setCell (by show w.heap.size ≤ vb; exact hvb) _)
              have HI2 := hid (HIh.out vb vc (setV V' (q : Int)) _ (by
                have h8 := open_set (V := V') (z := (q : Int)) n (by omega) (by rw [Int.natAbs_natCast]; exact HV0.out)
                have := HOp.out
                have := HOl.out
                omega) (HRows.out.below HB5.out) HHi.out)
              clear hno hb4 HI1
              go_wp2_with fail
              refine HI2.out.mono ?_
              rintro e w6 (⟨g6, c6, M6, rfl, hv6, hl6, hb6⟩ | ⟨rfl, hno6, hb6⟩)
              · have HV6 := hid hv6
                have HL6 := hid (least_high (fun M' h1 h2 => (HSn.out M' h1 h2).2) HSa.out hq1 hlt HV0.out HNo.out hl6)
                have HB6 := hid (HB5.out.trans (hb6.mono HB5.out.size))
                clear hv6 hl6 hb6
                go_wp2
                go_ret2
                exact .inl ⟨g6, c6, M6, rfl, HV6.out, HL6.out, HB6.out⟩
              · have HN6 := hid (none_both (fun M' h1 h2 => (HSn.out M' h1 h2).2) hq1 hlt HNo.out hno6)
                have HB6 := hid (HB5.out.trans (hb6.mono HB5.out.size))
                clear hno6 hb6
                go_wp2
                go_ret2
                exact .inr ⟨rfl, HN6.out, HB6.out⟩
          · have hvq : (V' q == 0) = false := beq_eq_false_iff_ne.2 hv0
            have hvq' : (V' q != 0) = true := by simp [hv0]
            go_wp2
            go_round
            case rel => exact ⟨q + 1, by omega, by omega, by go_num, fun j h1 h2 => by
              rcases Nat.lt_or_ge j q with h3 | h3
              · exact HBf.out j h1 h3
              · have : j = q := by omega
                subst this
                exact hv0⟩
            case measure => simp [intOf]; omega
        · have e : q = n := by omega
          have HW := hid (least_whole (fun M' h1 h2 => (HSn.out M' h1 h2).2) HSa.out (fun i a b => HBf.out i a (by omega)) (whole_model HLi.out HRg.out (fun i a b => HBf.out i a (by omega)) HOn2.out))
          have hqi : ¬ (q : Int) < (n : Int) := by omega
          clear e
          go_wp2
          go_ret2
          exact .inl ⟨vb, vc, V', rfl, HV2.out, HW.out, HB2.out⟩
end Go.Proofs.YtpfecijahiikhaaGreatDoor.leastImpl
