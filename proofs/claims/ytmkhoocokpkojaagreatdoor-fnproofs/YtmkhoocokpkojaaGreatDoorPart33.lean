import Derived.Test.YtmkhoocokpkojaaGreatDoorPart32
import Derived.Test.YtmkhoocokpkojaaGreatDoorPart31
import Derived.Test.YtmkhoocokpkojaaGreatDoorPart6
import Derived.Test.YtmkhoocokpkojaaGreatDoorCnfDraw
namespace Go.Proofs.YtmkhoocokpkojaaGreatDoor.rupSpec
open Go.RowKit Go.Deep Go base copy cnf sets setsOf solSets solMath solHold solProp solNew solClose solTrail chkNew chkMath rowsOwn runS runL solRun
set_option linter.unusedVariables false
set_option linter.unusedSimpArgs false
def LitsIn (n : Nat) (zss : List (List Int)) : Prop := ∀ zs ∈ zss, ∀ z ∈ zs, z ≠ 0 ∧ z.natAbs < n
theorem agree0 : Agree (fun _ => 0) (0, 0) := fun z _ _ _ => by rw [mem_zero, mem_zero]; unfold runS.valOf; split <;> rfl
theorem run_two {n : Nat} {zss : List (List Int)} {V : Nat → Int} {H : LS} (hn : n ≤ 41) (hl : LitsIn n zss) (ha : Agree V H) (hH : Wf H) (hc : Cons H) :
  ((runF (n + 1) zss V []).2.1 = -1 ↔ ∃ K, Closed (zss.map setL) K ∧ Sub H K) ∧ -1 ≤ (runF (n + 1) zss V []).2.1 := by
 have hz : ∀ zs ∈ zss, Lit40 zs := fun zs h z hz => by have := hl zs h z hz; omega
 obtain ⟨f1, f2, f3, f4, f5, f6⟩ := new_full (n := 0) (H := H) (cs := zss.map setL) hH hc (fun c hcm => by
  obtain ⟨ys, h1, rfl⟩ := List.mem_map.1 hcm
  exact wf_set (hz ys h1))
 have := run_prop (n := n) (Z := zss) hz (fun zs h z hz => (hl zs h z hz).2) _ (newS 0 H (zss.map setL)) V (n + 1) (Nat.le_refl _) f1 f2 (by rw [f4]; exact ha) (by have := open_most V n; omega)
 rw [f5] at this
 have h2 : (runF (n + 1) zss V []).2.1 = (propF (meas (newS 0 H (zss.map setL)) + 1) (newS 0 H (zss.map setL))).F := this.2
 have hp := prop_iff f1
 rw [f2, f4] at hp
 rw [h2]
 refine ⟨hp, ?_⟩
 obtain ⟨d1, _⟩ := propF_done (meas (newS 0 H (zss.map setL)) + 1) _ f1 (Nat.lt_succ_self _)
 rcases d1.ok.fin with e | ⟨f, _, e, _⟩
 · omega
 · omega
theorem true_test {V : Nat → Int} {H : LS} {z : Int} (ha : Agree V H) (hc : Cons H) (hr : -1 ≤ V z.natAbs ∧ V z.natAbs ≤ 1) (hz : z ≠ 0) (h0 : -40 ≤ z) (h1 : z ≤ 40) : mem H z = true ↔ (V z.natAbs ≠ 0 ∧ ((V z.natAbs == 1) == decide (0 < z)) = true) := by
 have hv := ha z hz h0 h1
 unfold runS.valOf at hv
 cases hm : mem H z with
 | true =>
  rw [hm, if_pos rfl] at hv
  refine ⟨fun _ => ?_, fun _ => rfl⟩
  by_cases hp : 0 < z
  · rw [if_neg (by omega)] at hv
    rw [hv]
    exact ⟨by omega, by simp [hp]⟩
  · rw [if_pos (by omega)] at hv
    have : V z.natAbs = -1 := by omega
    rw [this]
    refine ⟨by omega, ?_⟩
    simp; omega
 | false =>
  rw [hm, if_neg Bool.false_ne_true] at hv
  refine ⟨fun h => (by cases h), ?_⟩
  rintro ⟨h2, h3⟩
  cases hm2 : mem H (-z) with
  | true =>
   rw [hm2, if_pos rfl] at hv
   by_cases hp : 0 < z
   · rw [if_neg (by omega)] at hv
     rw [hv] at h3
     simp [hp] at h3
   · rw [if_pos (by omega)] at hv
     have : V z.natAbs = 1 := by omega
     rw [this] at h3
     simp at h3
     omega
  | false =>
   rw [hm2, if_neg Bool.false_ne_true] at hv
   exfalso
   split at hv <;> omega
theorem set_take {zs : List Int} {k : Nat} (h : k < zs.length) : setL (zs.take (k + 1)) = withL (setL (zs.take k)) (onlyL (zs[k]?.getD 0)) := by
 unfold setL withL onlyL
 rw [pSet_succ h, oSet_succ h]
theorem turn_with (a b : LS) : turnL (withL a b) = withL (turnL a) (turnL b) := rfl
theorem turn_only {z : Int} (h : z ≠ 0) : turnL (onlyL z) = onlyL (-z) := by
 unfold turnL onlyL pBit oBit
 by_cases hz : z < 0
 · rw [if_pos hz, if_pos hz, if_neg (by omega), if_neg (by omega), Int.natAbs_neg]
 · rw [if_neg hz, if_neg hz, if_pos (by omega), if_pos (by omega), Int.natAbs_neg]
set_option maxHeartbeats 6400000 in
set_option maxRecDepth 8000 in
theorem rup_spec (n : Nat) (a : Option Addr) (len cap : Nat) (zss : List (List Int)) (b : Option Addr) (bl bc : Nat) (zs : List Int) (w : World) (hr : IntRows w a len zss) (hb : IntRow w b bl zs) (hn : 1 ≤ n ∧ n ≤ 41) (hl : LitsIn n zss) (hz : ∀ z ∈ zs, z ≠ 0 ∧ z.natAbs < n) :
  Calls Tryz.prog 51 #[.slice a len cap, .int .i64 ((n : Int) - 1), .slice b bl bc] w fun e w' => ∃ t : Bool, e = .returned (.bool t) ∧ (t = true ↔ rupP (zss.map setL) (setL zs)) ∧ Below w.heap.size w w' := by
 have hmost := hb.most
 unfold maxLen at hmost
 have HLb := hid hb.length
 have HRo := hid hr
 have HBr := hid hb
 have HZ := hid hz
 have HLi := hid hl
 have hmk := run_make_row' (P := Tryz.prog) 52 3 (.int .i64 0) 8 Tryz.underlying52 Tryz.info_int rfl .i64 .i64 n (by omega) (by omega)
 have hwr : IntKind.i64.wrap ((n : Int) - 1 + 1) = (n : Int) := by rw [IntKind.wrap_i64]; omega
 obtain ⟨hn0, hn41⟩ := hn
 clear hr hb hz hl
 go_enter Tryz.func51, Tryz.ntmps51
 go_wp2
 clear hmk hwr
 go_loopw [8] (fun i wr => ∃ (k : Nat) (V : Nat → Int) (H : LS), k ≤ bl ∧ i = .int .i64 k ∧ ValRow wr w.heap.size n V ∧ Below w.heap.size w wr ∧ w.heap.size < wr.heap.size ∧ Wf H ∧ Cons H ∧ Agree V H ∧ H = turnL (setL (zs.take k))) (fun i _ => bl - (intOf i).toNat)
 case atStart =>
  refine ⟨0, fun _ => 0, (0, 0), Nat.zero_le _, rfl, ?_, (Below.refl _ _).alloc (Nat.le_refl _) _, by simp, wf_zero, cons_zero, agree0, rfl⟩
  have hrow := World.rowIs_made w (.int .i64 0) n 3
  exact ⟨fun i hi => ⟨hrow.cell hi, hrow.frozen i⟩, fun i _ => by omega⟩
 case round =>
  obtain ⟨k, V, H, hk, rfl, hvr, hbr, hsz, hwf, hcs, hag, hHe⟩ := hrel
  have HVR := hid hvr
  have HBR := hid hbr
  have HWf := hid hwf
  have HCs := hid hcs
  have HAg := hid hag
  have HHe := hid hHe
  clear hvr hbr hwf hcs hag hHe
  by_cases hlt : k < bl
  · obtain ⟨g, off, rfl, hc⟩ := (HBr.out.below HBR.out).cell k hlt
    have hkl : k < zs.length := by rw [HLb.out]; exact hlt
    have hzz := HZ.out (zs[k]?.getD 0) (by rw [List.getElem?_eq_getElem hkl]; exact List.getElem_mem hkl)
    have HTk := hid (set_take hkl)
    have HIn : Hid (zs[k]?.getD 0 ∈ zs) := hid (by rw [List.getElem?_eq_getElem hkl]; exact List.getElem_mem hkl)
    clear hkl
    generalize zs[k]?.getD 0 = z at *
    obtain ⟨z0, hzn⟩ := hzz
    have zlo : -40 ≤ z := by omega
    have zhi : z ≤ 40 := by omega
    obtain ⟨hvc, hvf⟩ := HVR.out.cell z.natAbs hzn
    obtain ⟨r0, r1⟩ := HVR.out.range z.natAbs hzn
    have htt := true_test HAg.out HCs.out ⟨r0, r1⟩ z0 zlo zhi
    obtain ⟨W9, hW9⟩ : ∃ W9, wr.setCell ⟨w.heap.size, (-z).natAbs, none⟩ (.int .i64 (if 0 < -z then 1 else -1)) = W9 := ⟨_, rfl⟩
    have HSt := hid (set_spec w.heap.size n n V (-z) wr HVR.out (by rw [Int.natAbs_neg]; exact hzn) (by omega) hn41)
    rw [hW9] at HSt
    have HW9 := hid hW9
    clear hW9
    have HZn := hid hzn
    obtain ⟨vz, hvz⟩ : ∃ v, V z.natAbs = v := ⟨_, rfl⟩
    obtain ⟨j, hj⟩ : ∃ j, z.natAbs = j := ⟨_, rfl⟩
    rw [hvz] at hvc r0 r1 htt
    have HA : Hid (∀ w, Calls Tryz.prog 81 #[.int .i64 z] w fun e w' => e = .returned (.int .i64 (j : Int)) ∧ w' = w) := fun w => by
     have := abs_spec z w (by omega) (by omega)
     rw [hj] at this
     exact this
    rw [hj] at hvc hvf hzn
    have hjn : (j : Int) < (n : Int) := by omega
    clear hvz hj
    by_cases hm : mem H z = true
    · obtain ⟨p1, p2⟩ := htt.1 hm
      have HT : Hid (rupP (zss.map setL) (setL zs)) := hid (.inl (by
       have h1 := hm
       rw [HHe.out, mem_turn z0, mem_set (fun y hy => (HZ.out y (List.mem_of_mem_take hy)).1), List.contains_iff_mem] at h1
       have h2 := List.mem_of_mem_take h1
       refine (meet_iff (wf_set fun y hy => (by have := HZ.out y hy; omega))).2 ⟨z, ?_, ?_⟩
       · rw [mem_set (fun y hy => (HZ.out y hy).1), List.contains_iff_mem]; exact HIn.out
       · rw [mem_turn z0, mem_set (fun y hy => (HZ.out y hy).1), List.contains_iff_mem]; exact h2))
      have hq : (vz = 1 ∧ 0 < z) ∨ (vz = -1 ∧ z < 0) := by
       have : vz = 1 ∨ vz = -1 := by omega
       rcases this with rfl | rfl
       · left; simp at p2; omega
       · right; simp at p2; omega
      clear htt p1 p2 hm
      have hdz : z < 0 → (!decide (0 < z)) = true := fun h => by simp; omega
      rcases hq with ⟨rfl, hq⟩ | ⟨rfl, hq⟩
      rotate_left
      have hdz := hdz hq
      all_goals
       go_wp2_with (go_at_call 81; refine (HA.out _).mono ?_; rintro e w' ⟨rfl, rfl⟩)
       go_ret
       exact ⟨true, rfl, ⟨fun _ => HT.out, fun _ => rfl⟩, HBR.out⟩
    · have hq : vz = 0 ∨ (vz = 1 ∧ z < 0) ∨ (vz = -1 ∧ 0 < z) := by
       have : vz = 0 ∨ vz = 1 ∨ vz = -1 := by omega
       rcases this with rfl | rfl | rfl
       · exact .inl rfl
       · by_cases hp : 0 < z
         · exact absurd (htt.2 ⟨by omega, by simp [hp]⟩) hm
         · exact .inr (.inl ⟨rfl, by omega⟩)
       · by_cases hp : 0 < z
         · exact .inr (.inr ⟨rfl, hp⟩)
         · exact absurd (htt.2 ⟨by omega, by simp; omega⟩) hm
      have hmf : mem H z = false := by simpa using hm
      have HN : Hid (∃ (k' : Nat) (V' : Nat → Int) (H' : LS), k' ≤ bl ∧ (.int .i64 ((k : Int) + 1) : Value) = .int .i64 k' ∧ ValRow W9 w.heap.size n V' ∧ Below w.heap.size w W9 ∧ w.heap.size < W9.heap.size ∧ Wf H' ∧ Cons H' ∧ Agree V' H' ∧ H' = turnL (setL (zs.take k'))) := hid (by
       rw [← HW9.out]
       refine ⟨k + 1, setV V (-z), withL H (onlyL (-z)), by omega, rfl, HVR.out.set, HBR.out.setCell (Nat.le_refl _) _, by simpa using hsz, wf_with HWf.out (wf_only (by omega) (by omega) (by omega)), ?_, agree_set HAg.out (by omega) (by omega) (by omega) (by rw [Int.neg_neg]; exact hmf), ?_⟩
       · intro l hl
         rw [mem_held (by omega)] at hl ⊢
         by_cases e : -z = l
         · subst e
           rw [Int.neg_neg, hmf]
           simp; omega
         · have hl : mem H l = true := by simpa [e] using hl
           rw [HCs.out l hl]
           simp
           intro e3
           have : z = l := by omega
           rw [← this, hmf] at hl
           cases hl
       · rw [HTk.out, turn_with, ← HHe.out, turn_only z0])
      clear htt hm hmf
      rcases hq with rfl | ⟨rfl, hq⟩ | ⟨rfl, hq⟩
      all_goals
       go_wp2_with first
        | (go_at_call 81; refine (HA.out _).mono ?_; rintro e w' ⟨rfl, rfl⟩)
        | (go_at_call 59; refine HSt.out.mono ?_; rintro e w' ⟨rfl, rfl⟩)
       go_round
       case rel => first | exact HN.out | (have := HN.out; go_num)
       case measure => simp [intOf]; omega
  · have e : k = bl := by omega
    subst e
    have hTk : zs.take k = zs := List.take_of_length_le (by rw [HLb.out]; exact Nat.le_refl _)
    rw [hTk] at HHe
    obtain ⟨t1, t2⟩ := run_two hn41 HLi.out HAg.out HWf.out HCs.out
    have HRun := hid (run_spec a len cap w.heap.size n n zss V wr (fun w' hg => HRo.out.below (HBR.out.grown hg (Nat.le_of_lt hsz) (fun q e => by injection e with e; omega))) HVR.out hsz (fun ys hy z hz => (HLi.out ys hy z hz).2) hn41)
    obtain ⟨at_, hat⟩ : ∃ x, (runF (n + 1) zss V []).2.1 = x := ⟨_, rfl⟩
    rw [hat] at t1 t2 HRun
    have HIff : Hid (0 ≤ at_ ↔ rupP (zss.map setL) (setL zs)) := hid (by
     rw [HHe.out] at t1
     constructor
     · intro h
       exact .inr fun ⟨K, h1, h2⟩ => by have := t1.2 ⟨K, h1, h2⟩; omega
     · rintro (h | h)
       · exfalso
         have hw : Wf (setL zs) := wf_set fun y hy => (by have := HZ.out y hy; omega)
         obtain ⟨l, h1, h2⟩ := (meet_iff hw).1 h
         have h3 := HCs.out l (by rw [HHe.out]; exact h2)
         rw [HHe.out, mem_turn (by have := (hw.range h1).1; omega), Int.neg_neg, h1] at h3
         cases h3
       · have : at_ ≠ -1 := fun e => h (t1.1 e)
         omega)
    clear t1 t2 hat hTk
    go_wp2_with (go_at_call 53; refine HRun.out.mono ?_; rintro e w2 ⟨v2, rfl, hown, -, hgr⟩; have HGr := hid hgr; clear hown hgr)
    go_ret
    exact ⟨decide (0 ≤ at_), rfl, by rw [decide_eq_true_eq]; exact HIff.out, HBR.out.grown HGr.out (Nat.le_of_lt hsz) (fun q e => by injection e with e; omega)⟩
end Go.Proofs.YtmkhoocokpkojaaGreatDoor.rupSpec
namespace Go.Proofs.YtmkhoocokpkojaaGreatDoor.ratSpec
open Go.RowKit Go.Deep Go base copy cnf sets setsOf solSets solMath solClose chkMath ratMath rowsOwn rupSpec
set_option linter.unusedVariables false
set_option linter.unusedSimpArgs false
theorem has_spec (a : Option Addr) (len cap : Nat) (zs : List Int) (l : Int) (w : World) (hr : IntRow w a len zs) :
  Calls Tryz.prog 82 #[.slice a len cap, .int .i64 l] w fun e w' => e = .returned (.bool (decide (l ∈ zs))) ∧ w' = w := by
 obtain ⟨hlen, hmost, hcell⟩ := hr
 unfold maxLen at hmost
 have HL := hid hlen
 have HC := hid hcell
 clear hlen hcell
 go_enter Tryz.func82, Tryz.ntmps82
 go_wp2
 go_loop [5] (fun i => ∃ k : Nat, k ≤ len ∧ i = .int .i64 k ∧ (zs.take k).any (fun z => decide (z = l)) = false) (fun i => len - (intOf i).toNat)
 case atStart => exact ⟨0, Nat.zero_le _, rfl, rfl⟩
 case round =>
  obtain ⟨k, hk, rfl, ha⟩ := hrel
  have HA := hid ha
  clear ha
  by_cases hlt : k < len
  · obtain ⟨b, off, rfl, hc⟩ := HC.out k hlt
    have HT : Hid (zs[k]?.getD 0 = l → l ∈ zs) := hid (fun e => by
     rw [← e, List.getElem?_eq_getElem (by rw [HL.out]; exact hlt)]
     exact List.getElem_mem _)
    have HF : Hid (zs[k]?.getD 0 ≠ l → (zs.take (k + 1)).any (fun z => decide (z = l)) = false) := hid (fun e => by
     rw [any_take_succ (d := 0) (by rw [HL.out]; exact hlt), HA.out]
     simpa using e)
    generalize zs[k]?.getD 0 = z at *
    by_cases he : z = l
    · have hq : (z == l) = true := by simp [he]
      have HE := hid he
      clear he
      go_wp2
      go_ret
      exact ⟨ret_bool (decide_eq_true (HT.out HE.out)).symm, rfl⟩
    · have hq : (z == l) = false := by simp [he]
      have HE := hid he
      clear he
      go_wp2
      go_round
      case rel => exact ⟨k + 1, by omega, by go_num, HF.out HE.out⟩
      case measure => simp [intOf]; omega
  · have e : k = len := by omega
    subst e
    have HN : Hid (¬ l ∈ zs) := hid (fun hc => by
     have h := HA.out
     rw [List.take_of_length_le (by rw [HL.out]; exact Nat.le_refl _)] at h
     have : zs.any (fun z => decide (z = l)) = true := List.any_eq_true.2 ⟨l, hc, by simp⟩
     rw [h] at this
     cases this)
    go_wp2
    go_ret
    exact ⟨ret_bool (decide_eq_false HN.out).symm, rfl⟩
theorem ratAt_list {cs : List LS} {n : Nat} {zs ys : List Int} {l : Int} (hn : n ≤ 41) (h1 : ∀ z ∈ zs, z ≠ 0 ∧ z.natAbs < n) (h2 : ∀ z ∈ ys, z ≠ 0 ∧ z.natAbs < n) (hl : l ∈ zs) :
  ratAt cs (setL zs) l (setL ys) ↔ (-l ∈ ys → rupP cs (setL (zs ++ ys.filter (fun y => y != -l)))) := by
 have hl2 := h1 l hl
 unfold ratAt
 rw [mem_set (fun z hz => (h2 z hz).1), List.contains_iff_mem, both_set (fun z hz => (by have := h1 z hz; omega)) (fun z hz => (by have := h2 z hz; omega)) hl2.1 (by omega)]
theorem filter_take {ys : List Int} {k : Nat} {q : Int → Bool} (h : k < ys.length) : (ys.take (k + 1)).filter q = (ys.take k).filter q ++ (if q (ys[k]?.getD 0) = true then [ys[k]?.getD 0] else []) := by
 rw [List.take_add_one, List.getElem?_eq_getElem h, List.filter_append]
 simp only [Option.toList_some, Option.getD_some]
 congr 1
 by_cases e : q ys[k] = true
 · rw [if_pos e, List.filter_cons_of_pos e]; rfl
 · rw [if_neg e, List.filter_cons_of_neg e]; rfl
theorem one_ints (zs : List Int) : ∀ x ∈ zs.map (Value.int .i64), x.oneCell' = true := fun x hx => by
 obtain ⟨y, _, rfl⟩ := List.mem_map.1 hx
 rfl
set_option maxHeartbeats 6400000 in
set_option maxRecDepth 8000 in
theorem rat_spec (n : Nat) (a : Option Addr) (len cap : Nat) (zss : List (List Int)) (b : Option Addr) (bl bc : Nat) (zs : List Int) (w : World) (hr : IntRows w a len zss) (hb : IntRow w b bl zs) (hn : 1 ≤ n ∧ n ≤ 41) (hl : LitsIn n zss) (hz : ∀ z ∈ zs, z ≠ 0 ∧ z.natAbs < n) (hzl : bl ≤ 4096) (hyl : ∀ ys ∈ zss, ys.length ≤ 4096) :
  Calls Tryz.prog 52 #[.slice a len cap, .int .i64 ((n : Int) - 1), .slice b bl bc] w fun e w' => ∃ t : Bool, e = .returned (.bool t) ∧ (t = true ↔ ratP (zss.map setL) zs) ∧ Below w.heap.size w w' := by
 have hmost := hb.most
 have hmost2 := hr.most
 unfold maxLen at hmost hmost2
 have hlb := hb.length
 have HLb := hid hb.length
 have HLr := hid hr.length
 have HRo := hid hr
 have HBr := hid hb
 by_cases h0 : bl = 0
 · have HN : Hid (¬ ratP (zss.map setL) zs) := hid (by
    rintro ⟨l, r, e, _⟩
    rw [e] at hlb
    simp at hlb
    omega)
   have d0 : ((bl : Int) == 0) = true := by simp [h0]
   clear hr hb hlb
   go_enter Tryz.func52, Tryz.ntmps52
   go_wp2
   go_ret
   exact ⟨false, rfl, ⟨fun e => (by cases e), fun e => absurd e HN.out⟩, (by repeat (first | exact Below.refl _ _ | assumption | refine Below.drew ?_ | refine Below.alloc ?_ (by first | exact Nat.le_refl _ | omega | (simp; done) | (simp; omega)) _ | refine Below.setCell ?_ (by first | exact Nat.le_refl _ | omega | (simp; done) | (simp; omega)) _))⟩
 · have d0 : ((bl : Int) == 0) = false := by simp; omega
   obtain ⟨g, off, rfl, hc0⟩ := hb.cell 0 (by omega)
   rw [Nat.add_zero] at hc0
   obtain ⟨l, r, hzl9⟩ : ∃ l r, zs = l :: r := by
    cases zs with
    | nil => simp at hlb; omega
    | cons l r => exact ⟨l, r, rfl⟩
   replace hc0 : w.cell? ⟨g, off, none⟩ = some (.int .i64 l) := by rw [hzl9] at hc0; exact hc0
   have hlm : l ∈ zs := by rw [hzl9]; simp
   have HIff : Hid (ratP (zss.map setL) zs ↔ ∀ ys ∈ zss, (-l ∈ ys → rupP (zss.map setL) (setL (zs ++ ys.filter (fun y => y != -l))))) := hid (by
    unfold ratP
    constructor
    · rintro ⟨l', r', e, h⟩ ys hys
      rw [hzl9] at e
      injection e with e1 e2
      subst e1
      exact (ratAt_list hn.2 hz (hl ys hys) hlm).1 (h _ (List.mem_map.2 ⟨ys, hys, rfl⟩))
    · intro h
      refine ⟨l, r, hzl9, fun d hd => ?_⟩
      obtain ⟨ys, hys, rfl⟩ := List.mem_map.1 hd
      exact (ratAt_list hn.2 hz (hl ys hys) hlm).2 (h ys hys))
   have hl0 := hz l hlm
   have HHas := hid (fun (W : World) (ya : Option Addr) (yl yc : Nat) (ys : List Int) (h : IntRow W ya yl ys) => has_spec ya yl yc ys (-l) W h)
   have HRu := hid (fun (W : World) (hbw : Below w.heap.size w W) (va : Option Addr) (vc : Nat) (ys : List Int) (hv : IntRow W va ys.length ys) (hy : ∀ z ∈ ys, z ≠ 0 ∧ z.natAbs < n) => rup_spec n a len cap zss va ys.length vc ys W (hr.below hbw) hv hn hl hy)
   have HLi := hid hl
   have HZ := hid hz
   have HYl := hid hyl
   have HSrc : Hid (∀ W, Below w.heap.size w W → ∀ j u, (zs.map (Value.int .i64))[j]? = some u → W.cell? (Addr.add ⟨g, off, none⟩ j) = some u) := hid (fun W hW j u hj => by
    rw [List.getElem?_map] at hj
    cases hq : zs[j]? with
    | none => rw [hq] at hj; cases hj
    | some y =>
     rw [hq] at hj
     injection hj with hj
     have hjl : j < zs.length := (List.getElem?_eq_some_iff.1 hq).1
     obtain ⟨b', o', e, hc⟩ := hb.cell j (by omega)
     injection e with e
     injection e with e1 e2
     subst e1
     subst e2
     rw [Addr.add_lit, ← hj]
     have := keep hW hc
     rw [hq] at this
     exact this)
   obtain ⟨i0, hi, hzz⟩ := Option.map_eq_some_iff.1 Tryz.info_int
   simp only [Prod.mk.injEq] at hzz
   obtain ⟨hz0, hz1, hz2⟩ := hzz
   have HI := hid hi
   have HZ0 := hid hz0
   have HZ1 := hid hz1
   have HZ2 := hid hz2
   obtain ⟨hn0, hn41⟩ := hn
   clear hr hb hl hz hyl hlb hzl9 hlm hi hz0 hz1 hz2
   have hmn : -9223372036854775807 ≤ l := by omega
   go_enter Tryz.func52, Tryz.ntmps52
   go_wp2
   go_loopw [8] (fun i wr => ∃ k : Nat, k ≤ len ∧ i = .int .i64 k ∧ (∀ ys ∈ zss.take k, (-l ∈ ys → rupP (zss.map setL) (setL (zs ++ ys.filter (fun y => y != -l))))) ∧ Below w.heap.size w wr) (fun i _ => len - (intOf i).toNat)
   case atStart => exact ⟨0, Nat.zero_le _, rfl, fun ys hy => (by simp at hy), Below.refl _ _⟩
   case round =>
    obtain ⟨k, hk, rfl, hall, hbr⟩ := hrel
    have HAll := hid hall
    have HBR := hid hbr
    clear hall hbr
    by_cases hlt : k < len
    · obtain ⟨bb, off2, rfl, ya, yl, yc, hyc, hyr⟩ := (HRo.out.below HBR.out).cell k hlt
      have hkz : k < zss.length := by rw [HLr.out]; exact hlt
      obtain ⟨ys, hys⟩ : ∃ ys, zss[k]?.getD [] = ys := ⟨_, rfl⟩
      rw [hys] at hyr
      have HIn : Hid (ys ∈ zss) := hid (by rw [← hys, List.getElem?_eq_getElem hkz]; exact List.getElem_mem hkz)
      have HTk : Hid (∀ q, q ∈ zss.take (k + 1) → q ∈ zss.take k ∨ q = ys) := hid (fun q hq => by
       rw [List.take_add_one, List.getElem?_eq_getElem hkz, List.mem_append] at hq
       rcases hq with hq | hq
       · exact .inl hq
       · right
         rw [List.getElem?_eq_getElem hkz] at hys
         simp at hq hys
         rw [hq, hys])
      have HYr := hid hyr
      have HYc := hid hyc
      have hyl2 : yl ≤ 4096 := by rw [← hyr.length]; exact HYl.out ys HIn.out
      have hkl : (k : Int) < (len : Int) := by omega
      clear hkz hys hyr
      by_cases hm : -l ∈ ys
      · have hmd : decide (-l ∈ ys) = true := decide_eq_true hm
        have HM := hid hm
        clear hm
        have HA := hid (HHas.out wr ya yl yc ys HYr.out)
        rw [hmd] at HA
        clear hmd
        go_wp2_with (first
         | (go_at_call 82; refine HA.out.mono ?_; rintro e w' ⟨rfl, rfl⟩)
         | (at_builtin; (refine wpList_append_own _ rfl _ _ 52 rfl w'.heap.size 3 i0 (.int .i64 0) 1 8 Tryz.underlying52 HI.out HZ0.out HZ1.out HZ2.out rfl (by decide) _ _ _ rfl (cnfDraw.own_new w' rfl (Nat.le_refl _)) ⟨g, off, none⟩ bl bc (zs.map (.int .i64)) rfl (by rw [List.length_map, HLb.out, Nat.mul_one]) (HSrc.out _ (HBR.out.alloc HBR.out.size _)) (one_ints _) (by unfold maxLen; omega) (by omega) (by simp) ?_); intro v1 w1 hown1 hg1 hnil1; have hba : Below w'.heap.size w' (w'.alloc (.cells #[] 3)) := (by repeat (first | exact Below.refl _ _ | assumption | refine Below.drew ?_ | refine Below.alloc ?_ (by first | exact Nat.le_refl _ | omega | (simp; done) | (simp; omega)) _ | refine Below.setCell ?_ (by first | exact Nat.le_refl _ | omega | (simp; done) | (simp; omega)) _)); have HB1 : Hid (Below w'.heap.size w' w1) := hid (hba.grown hg1 hba.size (fun j e => by have e' : some w'.heap.size = some j := e; injection e' with e'; omega)); have HO1 : Hid (OwnInts w'.heap.size w1 v1 zs) := hid (by unfold OwnInts; rw [HLb.out]; simpa using hown1); clear hown1 hg1 hnil1 hba))
        clear hc0 hyc
        obtain ⟨wo, hwo⟩ : ∃ wo, wo = w' := ⟨_, rfl⟩
        have HTw := hid hwo
        rw [← hwo] at HBR HYr HYc HO1 HB1 HA
        clear hwo
        go_loopw [10, 9] (fun i v wr => ∃ j : Nat, j ≤ yl ∧ i = .int .i64 j ∧ OwnInts wo.heap.size wr v (zs ++ (ys.take j).filter (fun y => y != -l)) ∧ Below wo.heap.size wo wr) (fun i _ _ => yl - (intOf i).toNat)
        case atStart => exact ⟨0, Nat.zero_le _, rfl, by simpa using HO1.out, HB1.out⟩
        case round =>
         obtain ⟨j, hj, rfl, ho, hb2⟩ := hrel
         have HO2 := hid ho
         have HB2 := hid hb2
         clear ho hb2
         have hyc := keep HB2.out HYc.out
         by_cases hjl : j < yl
         · obtain ⟨yb, yo, rfl, hyj⟩ := (HYr.out.below HB2.out).cell j hjl
           have hjy : j < ys.length := by rw [HYr.out.length]; exact hjl
           have HFt := hid (filter_take (q := fun y => y != -l) hjy)
           have hlen2 : (zs ++ (ys.take j).filter (fun y => y != -l)).length ≤ 8192 := by
            rw [List.length_append, HLb.out]
            have := List.length_filter_le (fun y => y != -l) (ys.take j)
            rw [List.length_take] at this
            omega
           generalize ys[j]?.getD 0 = y at *
           generalize hX : zs ++ (ys.take j).filter (fun y => y != -l) = X at *
           have HX := hid hX
           clear hX hjy
           by_cases hy : y = -l
           · have hyq : (y != -l) = false := by simp [hy]
             have HF2 : Hid (zs ++ (ys.take (j + 1)).filter (fun y => y != -l) = X) := hid (by rw [HFt.out, if_neg (by simp [hy]), List.append_nil]; exact HX.out)
             clear hy
             go_wp2
             go_roundw
             case rel => exact ⟨j + 1, by omega, by go_num, by rw [HF2.out]; exact HO2.out, HB2.out⟩
             case measure => simp [intOf]; omega
           · have hyq : (y != -l) = true := by simp [hy]
             have HF2 : Hid (zs ++ (ys.take (j + 1)).filter (fun y => y != -l) = X ++ [y]) := hid (by rw [HFt.out, if_pos (by simp [hy]), ← List.append_assoc, HX.out])
             clear hy
             have HB0 := hid HB2.out.size
             go_wp2_with (at_builtin; (refine wpList_append_own _ rfl _ _ 52 rfl wo.heap.size 3 i0 (.int .i64 0) 1 8 Tryz.underlying52 HI.out HZ0.out HZ1.out HZ2.out rfl (by decide) _ _ _ rfl (World.ownsRow.alloc HO2.out _) ⟨wr.heap.size, 0, none⟩ 1 1 [_] rfl rfl (cell_one_new _ _ _) (fun x hx => by simp at hx; subst hx; rfl) (by unfold maxLen; omega) (by omega) (by have := HB0.out; simp; omega) ?_); intro v' w3 hown' hgrow3 hnil3; have HO3 : Hid (OwnInts wo.heap.size w3 v' (X ++ [y])) := hid (by unfold OwnInts; rw [List.length_append, List.map_append]; exact hown'); have HB3 : Hid (Below wo.heap.size wo w3) := hid (rowsOwn.grown_below (OwnInts.below HO2.out (by repeat (first | exact Below.refl _ _ | assumption | refine Below.drew ?_ | refine Below.alloc ?_ (by first | exact Nat.le_refl _ | omega | (simp; done) | (simp; omega)) _ | refine Below.setCell ?_ (by first | exact Nat.le_refl _ | omega | (simp; done) | (simp; omega)) _))) (HB2.out.alloc HB0.out _) (by have := HB0.out; simp; omega) hgrow3); clear hown' hgrow3 hnil3)
             go_roundw
             case rel => exact ⟨j + 1, by omega, by go_num, by rw [HF2.out]; exact HO3.out, HB3.out⟩
             case measure => simp [intOf]; omega
         · have ej : j = yl := by omega
           subst ej
           have HFa : Hid (ys.take j = ys) := hid (List.take_of_length_le (by rw [HYr.out.length]; exact Nat.le_refl _))
           rw [HFa.out] at HO2
           obtain ⟨va, vc, rfl, hvr⟩ := HO2.out.form
           have HBt := hid (HBR.out.trans (HB2.out.mono HBR.out.size))
           have HRz := hid (HRu.out wr HBt.out va vc _ hvr (fun z hz => by
            rcases List.mem_append.1 hz with hz | hz
            · exact HZ.out z hz
            · exact HLi.out ys HIn.out z (List.mem_filter.1 hz).1))
           clear hvr
           obtain ⟨X, hX⟩ : ∃ X, zs ++ ys.filter (fun y => y != -l) = X := ⟨_, rfl⟩
           rw [hX] at HRz HO2
           have HX := hid hX
           rw [hX]
           clear hX
           obtain ⟨xl, hxl⟩ : ∃ xl, X.length = xl := ⟨_, rfl⟩
           rw [hxl] at HRz
           rw [hxl]
           clear hxl
           go_wp2_with fail
           refine HRz.out.mono ?_
           rintro e w5 ⟨t, rfl, ht, hb5⟩
           have HT := hid ht
           have HB5 := hid (HBt.out.trans (hb5.mono HBt.out.size))
           clear ht hb5
           cases t with
           | true =>
            go_wp2
            go_round
            case rel =>
             refine ⟨k + 1, by omega, by go_num, fun q hq => ?_, HB5.out⟩
             rcases HTk.out q hq with h | h
             · exact HAll.out q h
             · rw [h]
               intro _
               rw [HX.out]
               have h9 := HT.out
               simp at h9
               exact h9
            case measure => simp [intOf]; omega
           | false =>
            have HNr : Hid (¬ ratP (zss.map setL) zs) := hid (fun h => by
             have h2 := HIff.out.1 h ys HIn.out HM.out
             rw [HX.out] at h2
             have h9 := HT.out
             simp at h9
             exact h9 h2)
            go_wp2
            go_ret
            exact ⟨false, rfl, ⟨fun e => (by cases e), fun e => absurd e HNr.out⟩, HB5.out⟩
      · have HNm := hid hm
        have HA := hid (HHas.out wr ya yl yc ys HYr.out)
        rw [show decide (-l ∈ ys) = false from decide_eq_false hm] at HA
        clear hm
        go_wp2_with (go_at_call 82; refine HA.out.mono ?_; rintro e w' ⟨rfl, rfl⟩)
        go_round
        case rel =>
         refine ⟨k + 1, by omega, by go_num, fun q hq => ?_, HBR.out⟩
         rcases HTk.out q hq with h | h
         · exact HAll.out q h
         · rw [h]; exact fun h2 => absurd h2 HNm.out
        case measure => simp [intOf]; omega
    · have e : k = len := by omega
      subst e
      have HT : Hid (ratP (zss.map setL) zs) := hid (HIff.out.2 (by have h := HAll.out; rw [List.take_of_length_le (by rw [HLr.out]; exact Nat.le_refl _)] at h; exact h))
      go_wp2
      go_ret
      exact ⟨true, rfl, ⟨fun _ => HT.out, fun _ => rfl⟩, HBR.out⟩
end Go.Proofs.YtmkhoocokpkojaaGreatDoor.ratSpec
