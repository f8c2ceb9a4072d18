/- The specification tells whether a clause is RUP (l03Rup); conditions: literals of the variables, lengths that fit. -/
import Derived.Test.YtolejaegnkcjjaaGreatDoorSolRun
import Derived.Test.YtolejaegnkcjjaaGreatDoorPart29
import Derived.Test.YtolejaegnkcjjaaGreatDoorPart30
namespace Go.Proofs.YtolejaegnkcjjaaGreatDoor.rupSpec
open Go.RowKit Go.Deep Go base copy cnf sets setsOf solSets solMath solHold solProp solNew solClose solTrail chkNew chkMath rowsOwn runS runL solRun
set_option linter.unusedVariables false
set_option linter.unusedSimpArgs false

def LitsIn (n : Nat) (zss : List (List Int)) : Prop := ∀ zs ∈ zss, ∀ z ∈ zs, z ≠ 0 ∧ z.natAbs < n
theorem agree0 : Agree (fun _ => 0) (0, 0) := fun z _ _ _ => by rw [mem_zero, mem_zero]; unfold runS.valOf; split <;> rfl
theorem run_two {n : Nat} {zss : List (List Int)} {V : Nat → Int} {H : LS} (hn : n ≤ 41) (hl : LitsIn n zss) (ha : Agree V H) (hH : Wf H) (hc : Cons H) :
    ((runF (n + 1) zss V []).2.1 = -1 ↔ ∃ K, Closed (zss.map setL) K ∧ Sub H K) ∧ -1 ≤ (runF (n + 1) zss V []).2.1 := by
  have hz : ∀ zs ∈ zss, Lit40 zs := fun zs h z hz => by have := hl zs h z hz; omega
  obtain ⟨f1, f2, f3, f4, f5, f6⟩ := new_full (n := 0) (H := H) (cs := zss.map setL) hH hc (fun c hcm => by
    obtain ⟨ys, h1, rfl⟩ := List.mem_map.1 hcm
    exact wf_set (hz ys h1))
  have := run_prop (n := n) (Z := zss) hz (fun zs h z hz => (hl zs h z hz).2) _ (newS 0 H (zss.map setL)) V (n + 1) (Nat.le_refl _) f1 f2 (by rw [f4]; exact ha) (by have := open_most V n; omega)
  rw [f5] at this
  have h2 : (runF (n + 1) zss V []).2.1 = (propF (meas (newS 0 H (zss.map setL)) + 1) (newS 0 H (zss.map setL))).F := this.2
  have hp := prop_iff f1
  rw [f2, f4] at hp
  rw [h2]
  refine ⟨hp, ?_⟩
  obtain ⟨d1, _⟩ := propF_done (meas (newS 0 H (zss.map setL)) + 1) _ f1 (Nat.lt_succ_self _)
  rcases d1.ok.fin with e | ⟨f, _, e, _⟩
  · omega
  · omega
/-- A literal is true already: as the test asks. -/
theorem true_test {V : Nat → Int} {H : LS} {z : Int} (ha : Agree V H) (hc : Cons H) (hr : -1 ≤ V z.natAbs ∧ V z.natAbs ≤ 1) (hz : z ≠ 0) (h0 : -40 ≤ z) (h1 : z ≤ 40) : mem H z = true ↔ (V z.natAbs ≠ 0 ∧ ((V z.natAbs == 1) == decide (0 < z)) = true) := by
  have hv := ha z hz h0 h1
  unfold runS.valOf at hv
  cases hm : mem H z with
  | true =>
    rw [hm, if_pos rfl] at hv
    refine ⟨fun _ => ?_, fun _ => rfl⟩
    by_cases hp : 0 < z
    · rw [if_neg (by omega)] at hv
      rw [hv]
      exact ⟨by omega, by simp [hp]⟩
    · rw [if_pos (by omega)] at hv
      have : V z.natAbs = -1 := by omega
      rw [this]
      refine ⟨by omega, ?_⟩
      simp; omega
  | false =>
    rw [hm, if_neg Bool.false_ne_true] at hv
    refine ⟨fun h => (by cases h), ?_⟩
    rintro ⟨h2, h3⟩
    cases hm2 : mem H (-z) with
    | true =>
      rw [hm2, if_pos rfl] at hv
      by_cases hp : 0 < z
      · rw [if_neg (by omega)] at hv
        rw [hv] at h3
        simp [hp] at h3
      · rw [if_pos (by omega)] at hv
        have : V z.natAbs = 1 := by omega
        rw [this] at h3
        simp at h3
        omega
    | false =>
      rw [hm2, if_neg Bool.false_ne_true] at hv
      exfalso
      split at hv <;> omega
theorem set_take {zs : List Int} {k : Nat} (h : k < zs.length) : setL (zs.take (k + 1)) = withL (setL (zs.take k)) (onlyL (zs[k]?.getD 0)) := by
  unfold setL withL onlyL
  rw [pSet_succ h, oSet_succ h]
theorem turn_with (a b : LS) : turnL (withL a b) = withL (turnL a) (turnL b) := rfl
theorem turn_only {z : Int} (h : z ≠ 0) : turnL (onlyL z) = onlyL (-z) := by
  unfold turnL onlyL pBit oBit
  by_cases hz : z < 0
  · rw [if_pos hz, if_pos hz, if_neg (by omega), if_neg (by omega), Int.natAbs_neg]
  · rw [if_neg hz, if_neg hz, if_pos (by omega), if_pos (by omega), Int.natAbs_neg]
set_option maxHeartbeats 6400000 in
set_option maxRecDepth 8000 in
theorem rup_spec (n : Nat) (a : Option Addr) (len cap : Nat) (zss : List (List Int)) (b : Option Addr) (bl bc : Nat) (zs : List Int) (w : World) (hr : IntRows w a len zss) (hb : IntRow w b bl zs) (hn : 1 ≤ n ∧ n ≤ 41) (hl : LitsIn n zss) (hz : ∀ z ∈ zs, z ≠ 0 ∧ z.natAbs < n) :
    Calls Tryz.prog 46 #[.slice a len cap, .int .i64 ((n : Int) - 1), .slice b bl bc] w fun e w' => ∃ t : Bool, e = .returned (.bool t) ∧ (t = true ↔ rupP (zss.map setL) (setL zs)) ∧ Below w.heap.size w w' := by
  have hmost := hb.most
  unfold maxLen at hmost
  have HLb := hid hb.length
  have HRo := hid hr
  have HBr := hid hb
  have HZ := hid hz
  have HLi := hid hl
  have hmk := run_make_row' (P := Tryz.prog) 44 3 (.int .i64 0) 8 Tryz.underlying44 Tryz.info_int rfl .i64 .i64 n (by omega) (by omega)
  have hwr : IntKind.i64.wrap ((n : Int) - 1 + 1) = (n : Int) := by rw [IntKind.wrap_i64]; omega
  obtain ⟨hn0, hn41⟩ := hn
  clear hr hb hz hl
  go_enter Tryz.func46, Tryz.ntmps46
  go_wp2
  clear hmk hwr
  go_loopw [8] (fun i wr => ∃ (k : Nat) (V : Nat → Int) (H : LS), k ≤ bl ∧ i = .int .i64 k ∧ ValRow wr w.heap.size n V ∧ Below w.heap.size w wr ∧ w.heap.size < wr.heap.size ∧ Wf H ∧ Cons H ∧ Agree V H ∧ H = turnL (setL (zs.take k))) (fun i _ => bl - (intOf i).toNat)
  case atStart =>
    refine ⟨0, fun _ => 0, (0, 0), Nat.zero_le _, rfl, ?_, (Below.refl _ _).alloc (Nat.le_refl _) _, by simp, wf_zero, cons_zero, agree0, rfl⟩
    have hrow := World.rowIs_made w (.int .i64 0) n 3
    exact ⟨fun i hi => ⟨hrow.cell hi, hrow.frozen i⟩, fun i _ => by omega⟩
  case round =>
    obtain ⟨k, V, H, hk, rfl, hvr, hbr, hsz, hwf, hcs, hag, hHe⟩ := hrel
    have HVR := hid hvr
    have HBR := hid hbr
    have HWf := hid hwf
    have HCs := hid hcs
    have HAg := hid hag
    have HHe := hid hHe
    clear hvr hbr hwf hcs hag hHe
    by_cases hlt : k < bl
    · obtain ⟨g, off, rfl, hc⟩ := (HBr.out.below HBR.out).cell k hlt
      have hkl : k < zs.length := by rw [HLb.out]; exact hlt
      have hzz := HZ.out (zs[k]?.getD 0) (by rw [List.getElem?_eq_getElem hkl]; exact List.getElem_mem hkl)
      have HTk := hid (set_take hkl)
      have HIn : Hid (zs[k]?.getD 0 ∈ zs) := hid (by rw [List.getElem?_eq_getElem hkl]; exact List.getElem_mem hkl)
      clear hkl
      generalize zs[k]?.getD 0 = z at *
      obtain ⟨z0, hzn⟩ := hzz
      have zlo : -40 ≤ z := by omega
      have zhi : z ≤ 40 := by omega
      obtain ⟨hvc, hvf⟩ := HVR.out.cell z.natAbs hzn
      obtain ⟨r0, r1⟩ := HVR.out.range z.natAbs hzn
      have htt := true_test HAg.out HCs.out ⟨r0, r1⟩ z0 zlo zhi
      obtain ⟨W9, hW9⟩ : ∃ W9, wr.setCell ⟨w.heap.size, (-z).natAbs, none⟩ (.int .i64 (if 0 < -z then 1 else -1)) = W9 := ⟨_, rfl⟩
      have HSt := hid (set_spec w.heap.size n n V (-z) wr HVR.out (by rw [Int.natAbs_neg]; exact hzn) (by omega) hn41)
      rw [hW9] at HSt
      have HW9 := hid hW9
      clear hW9
      have HZn := hid hzn
      obtain ⟨vz, hvz⟩ : ∃ v, V z.natAbs = v := ⟨_, rfl⟩
      obtain ⟨j, hj⟩ : ∃ j, z.natAbs = j := ⟨_, rfl⟩
      rw [hvz] at hvc r0 r1 htt
      have HA : Hid (∀ w, Calls Tryz.prog 68 #[.int .i64 z] w fun e w' => e = .returned (.int .i64 (j : Int)) ∧ w' = w) := fun w => by
        have := abs_spec z w (by omega) (by omega)
        rw [hj] at this
        exact this
      rw [hj] at hvc hvf hzn
      have hjn : (j : Int) < (n : Int) := by omega
      clear hvz hj
      by_cases hm : mem H z = true
      · obtain ⟨p1, p2⟩ := htt.1 hm
        have HT : Hid (rupP (zss.map setL) (setL zs)) := hid (.inl (by
          have h1 := hm
          rw [HHe.out, mem_turn z0, mem_set (fun y hy => (HZ.out y (List.mem_of_mem_take hy)).1), List.contains_iff_mem] at h1
          have h2 := List.mem_of_mem_take h1
          refine (meet_iff (wf_set fun y hy => (by have := HZ.out y hy; omega))).2 ⟨z, ?_, ?_⟩
          · rw [mem_set (fun y hy => (HZ.out y hy).1), List.contains_iff_mem]; exact HIn.out
          · rw [mem_turn z0, mem_set (fun y hy => (HZ.out y hy).1), List.contains_iff_mem]; exact h2))
        have hq : (vz = 1 ∧ 0 < z) ∨ (vz = -1 ∧ z < 0) := by
          have : vz = 1 ∨ vz = -1 := by omega
          rcases this with rfl | rfl
          · left; simp at p2; omega
          · right; simp at p2; omega
        clear htt p1 p2 hm
        have hdz : z < 0 → (!decide (0 < z)) = true := fun h => by simp; omega
        rcases hq with ⟨rfl, hq⟩ | ⟨rfl, hq⟩
        rotate_left
        have hdz := hdz hq
        all_goals
          go_wp2_with (go_at_call 68; refine (HA.out _).mono ?_; rintro e w' ⟨rfl, rfl⟩)
          go_ret
          exact ⟨true, rfl, ⟨fun _ => HT.out, fun _ => rfl⟩, HBR.out⟩
      · have hq : vz = 0 ∨ (vz = 1 ∧ z < 0) ∨ (vz = -1 ∧ 0 < z) := by
          have : vz = 0 ∨ vz = 1 ∨ vz = -1 := by omega
          rcases this with rfl | rfl | rfl
          · exact .inl rfl
          · by_cases hp : 0 < z
            · exact absurd (htt.2 ⟨by omega, by simp [hp]⟩) hm
            · exact .inr (.inl ⟨rfl, by omega⟩)
          · by_cases hp : 0 < z
            · exact .inr (.inr ⟨rfl, hp⟩)
            · exact absurd (htt.2 ⟨by omega, by simp; omega⟩) hm
        have hmf : mem H z = false := by simpa using hm
        have HN : Hid (∃ (k' : Nat) (V' : Nat → Int) (H' : LS), k' ≤ bl ∧ (.int .i64 ((k : Int) + 1) : Value) = .int .i64 k' ∧ ValRow W9 w.heap.size n V' ∧ Below w.heap.size w W9 ∧ w.heap.size < W9.heap.size ∧ Wf H' ∧ Cons H' ∧ Agree V' H' ∧ H' = turnL (setL (zs.take k'))) := hid (by
          rw [← HW9.out]
          refine ⟨k + 1, setV V (-z), withL H (onlyL (-z)), by omega, rfl, HVR.out.set, HBR.out.setCell (Nat.le_refl _) _, by simpa using hsz, wf_with HWf.out (wf_only (by omega) (by omega) (by omega)), ?_, agree_set HAg.out (by omega) (by omega) (by omega) (by rw [Int.neg_neg]; exact hmf), ?_⟩
          · intro l hl
            rw [mem_held (by omega)] at hl ⊢
            by_cases e : -z = l
            · subst e
              rw [Int.neg_neg, hmf]
              simp; omega
            · have hl : mem H l = true := by simpa [e] using hl
              rw [HCs.out l hl]
              simp
              intro e3
              have : z = l := by omega
              rw [← this, hmf] at hl
              cases hl
          · rw [HTk.out, turn_with, ← HHe.out, turn_only z0])
        clear htt hm hmf
        rcases hq with rfl | ⟨rfl, hq⟩ | ⟨rfl, hq⟩
        all_goals
          go_wp2_with first
            | (go_at_call 68; refine (HA.out _).mono ?_; rintro e w' ⟨rfl, rfl⟩)
            | (go_at_call 59; refine HSt.out.mono ?_; rintro e w' ⟨rfl, rfl⟩)
          go_round
          case rel => first | exact HN.out | (have := HN.out; go_num)
          case measure => simp [intOf]; omega
    · have e : k = bl := by omega
      subst e
      have hTk : zs.take k = zs := List.take_of_length_le (by rw [HLb.out]; exact Nat.le_refl _)
      rw [hTk] at HHe
      obtain ⟨t1, t2⟩ := run_two hn41 HLi.out HAg.out HWf.out HCs.out
      have HRun := hid (run_spec a len cap w.heap.size n n zss V wr (fun w' hg => HRo.out.below (HBR.out.grown hg (Nat.le_of_lt hsz) (fun q e => by injection e with e; omega))) HVR.out hsz (fun ys hy z hz => (HLi.out ys hy z hz).2) hn41)
      obtain ⟨at_, hat⟩ : ∃ x, (runF (n + 1) zss V []).2.1 = x := ⟨_, rfl⟩
      rw [hat] at t1 t2 HRun
      have HIff : Hid (0 ≤ at_ ↔ rupP (zss.map setL) (setL zs)) := hid (by
        rw [HHe.out] at t1
        constructor
        · intro h
          exact .inr fun ⟨K, h1, h2⟩ => by have := t1.2 ⟨K, h1, h2⟩; omega
        · rintro (h | h)
          · exfalso
            have hw : Wf (setL zs) := wf_set fun y hy => (by have := HZ.out y hy; omega)
            obtain ⟨l, h1, h2⟩ := (meet_iff hw).1 h
            have h3 := HCs.out l (by rw [HHe.out]; exact h2)
            rw [HHe.out, mem_turn (by have := (hw.range h1).1; omega), Int.neg_neg, h1] at h3
            cases h3
          · have : at_ ≠ -1 := fun e => h (t1.1 e)
            omega)
      clear t1 t2 hat hTk
      go_wp2_with (go_at_call 60; refine HRun.out.mono ?_; rintro e w2 ⟨v2, rfl, hown, -, hgr⟩; have HGr := hid hgr; clear hown hgr)
      go_ret
      exact ⟨decide (0 ≤ at_), rfl, by rw [decide_eq_true_eq]; exact HIff.out, HBR.out.grown HGr.out (Nat.le_of_lt hsz) (fun q e => by injection e with e; omega)⟩
end Go.Proofs.YtolejaegnkcjjaaGreatDoor.rupSpec
