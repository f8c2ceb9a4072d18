/- Propagate of the specification; conditions: lengths that fit. -/
import Derived.Test.YtkboijdcjechdaaDoorSolFace
import Derived.Test.YtkboijdcjechdaaDoorSolRun
namespace Go.Proofs.YtkboijdcjechdaaDoor.solSpec
open Go.RowKit Go.Deep Go base copy cnf sets solSets solMath solHold solProp solNew rowsOwn runS runL solRun solFace
set_option linter.unusedVariables false
set_option linter.unusedSimpArgs false

theorem agree0 : Agree (fun _ => 0) (0, 0) := fun z _ _ _ => by rw [mem_zero, mem_zero]; unfold runS.valOf; split <;> rfl
/-- What the specification comes to is what the program's solver does. -/
theorem same_run {vars : Int} {n : Nat} {zss : List (List Int)} {V : Nat → Int} {H : LS} (hk : cnfB vars zss = true) (hn : vars + 1 = (n : Int)) (ha : Agree V H) (hH : Wf H) (hc : ∀ l, mem H l = true → mem H (-l) = false) :
    (runF (n + 1) zss V []).1 = (endS vars zss H).T.map Prod.fst ∧ (runF (n + 1) zss V []).2.1 = (endS vars zss H).F := by
  have hl := cnf_lits hk
  obtain ⟨f1, f2, f3, f4, f5, f6⟩ := new_full (n := vars) (H := H) (cs := zss.map setL) hH hc (fun c hcm => by
    obtain ⟨ys, h1, rfl⟩ := List.mem_map.1 hcm
    exact wf_set (hl ys h1))
  have := run_prop (n := n) (Z := zss) hl (fun zs hz z hzz => by
    have hk' := hk
    unfold cnfB at hk'
    rw [Bool.and_eq_true, List.all_eq_true] at hk'
    have h2 := hk'.2 zs hz
    unfold clauseB at h2
    rw [Bool.and_eq_true, List.all_eq_true] at h2
    have h3 := h2.2 z hzz
    unfold litB at h3
    have := of_decide_eq_true h3
    omega) _ (newS vars H (zss.map setL)) V (n + 1) (Nat.le_refl _) f1 f2 (by rw [f4]; exact ha) (by have := open_most V n; omega)
  rw [f5] at this
  exact this
theorem opp_test {V : Nat → Int} {H : LS} {z : Int} (ha : Agree V H) (hc : ∀ l, mem H l = true → mem H (-l) = false) (hz : z ≠ 0) (h0 : -40 ≤ z) (h1 : z ≤ 40) : mem H (-z) = true ↔ (V z.natAbs ≠ 0 ∧ ((V z.natAbs == 1) != decide (0 < z)) = true) := by
  have hv := ha z hz h0 h1
  unfold runS.valOf at hv
  cases hm : mem H z with
  | true =>
    rw [hm, if_pos rfl] at hv
    have := hc z hm
    rw [this]
    constructor
    · intro h; cases h
    · rintro ⟨h2, h3⟩
      by_cases hp : 0 < z
      · rw [if_neg (by omega)] at hv
        rw [hv] at h3
        simp [hp] at h3
      · rw [if_pos (by omega)] at hv
        have : V z.natAbs = -1 := by omega
        rw [this] at h3
        simp at h3
        omega
  | false =>
    rw [hm, if_neg Bool.false_ne_true] at hv
    cases hm2 : mem H (-z) with
    | true =>
      rw [hm2, if_pos rfl] at hv
      refine ⟨fun _ => ?_, fun _ => rfl⟩
      by_cases hp : 0 < z
      · rw [if_neg (by omega)] at hv
        rw [hv]
        exact ⟨by omega, by simp [hp]⟩
      · rw [if_pos (by omega)] at hv
        have : V z.natAbs = 1 := by omega
        rw [this]
        refine ⟨by omega, ?_⟩
        simp
        omega
    | false =>
      rw [hm2, if_neg Bool.false_ne_true] at hv
      refine ⟨fun h => (by cases h), fun h => absurd ?_ h.1⟩
      split at hv <;> omega
set_option maxHeartbeats 6400000 in
set_option maxRecDepth 8000 in
theorem propagate_specf (vars : Int) (a : Option Addr) (len cap : Nat) (zss : List (List Int)) (b : Option Addr) (bl bc : Nat) (zs : List Int) (w : World) (hr : IntRows w a len zss) (hb : IntRow w b bl zs) :
    Calls Tryd.prog 7 #[.agg #[.int .i64 vars, .slice a len cap], .slice b bl bc] w fun e w' => ∃ v, e = .returned (.tuple #[v, .int .i64 (prA vars zss zs).2.1, .int .i64 (prA vars zss zs).2.2]) ∧ OwnInts w.heap.size w' v (prA vars zss zs).1 ∧ Below w.heap.size w w' := by
  obtain ⟨R, hR⟩ : ∃ R, prA vars zss zs = R := ⟨_, rfl⟩
  rw [hR]
  have HR := hid hR
  have hmost := hb.most
  unfold maxLen at hmost
  have HLb := hid hb.length
  have HRo := hid hr
  have HBr := hid hb
  have HCo := hid (fun (W : World) (hbw : Below w.heap.size w W) => cnfOK_spec vars a len cap zss W (hr.below hbw))
  have hlb := hb.length
  clear hR hr hb
  by_cases h1 : 4096 < bl
  · have HE : Hid (R = ([], 0, 2)) := hid (by rw [← HR.out]; unfold prA; rw [if_pos (by omega)])
    have d1 : (4096 : Int) < (bl : Int) := by omega
    clear hlb
    go_enter Tryd.func7, Tryd.ntmps7
    go_wp2
    refine bodyPost_ret (runS.results_three rfl _ _ _) rfl ?_
    rw [HE.out]
    exact ⟨_, rfl, (cnfDraw.own_new _ (by simp) (by simp)), (by repeat (first | exact Below.refl _ _ | assumption | refine Below.drew ?_ | refine Below.alloc ?_ (by first | exact Nat.le_refl _ | omega | (simp; done) | (simp; omega)) _ | refine Below.setCell ?_ (by first | exact Nat.le_refl _ | omega | (simp; done) | (simp; omega)) _))⟩
  · have d1 : ¬ (4096 : Int) < (bl : Int) := by omega
    cases hck : cnfB vars zss with
    | false =>
      have HE : Hid (R = ([], 0, 1)) := hid (by rw [← HR.out]; unfold prA; rw [if_neg (by omega), if_pos hck])
      rw [hck] at HCo
      clear hlb hck
      go_enter Tryd.func7, Tryd.ntmps7
      go_wp2_with fail
      refine (HCo.out _ (by repeat (first | exact Below.refl _ _ | assumption | refine Below.drew ?_ | refine Below.alloc ?_ (by first | exact Nat.le_refl _ | omega | (simp; done) | (simp; omega)) _ | refine Below.setCell ?_ (by first | exact Nat.le_refl _ | omega | (simp; done) | (simp; omega)) _))).mono ?_
      rintro e w1 ⟨rfl, hb1⟩
      have H1 := hid ((show Below w.heap.size w _ from (by repeat (first | exact Below.refl _ _ | assumption | refine Below.drew ?_ | refine Below.alloc ?_ (by first | exact Nat.le_refl _ | omega | (simp; done) | (simp; omega)) _ | refine Below.setCell ?_ (by first | exact Nat.le_refl _ | omega | (simp; done) | (simp; omega)) _))).trans (Below.mono hb1 (by simp)))
      clear hb1
      go_wp2
      refine bodyPost_ret (runS.results_three rfl _ _ _) rfl ?_
      rw [HE.out]
      exact ⟨_, rfl, (cnfDraw.own_new _ rfl H1.out.size), H1.out.alloc H1.out.size _⟩
    | true =>
      rw [hck] at HCo
      have HCk := hid hck
      obtain ⟨hv0, hv1, hv2⟩ := cnf_bounds hck
      obtain ⟨n, hn⟩ : ∃ n : Nat, vars + 1 = (n : Int) := ⟨(vars + 1).toNat, by omega⟩
      have HNn := hid hn
      obtain ⟨G, hG⟩ : ∃ G, givS vars zs (0, 0) = G := ⟨_, rfl⟩
      have HG := hid hG
      have HRe : Hid (R = if G.1 ≠ 0 then ([], 0, G.1) else ((endS vars zss G.2).T.map Prod.fst, (endS vars zss G.2).F, 0)) := hid (by rw [← HR.out, ← hG]; unfold prA; rw [if_neg (by omega), if_neg (by rw [hck]; decide)])
      have hmk := run_make_row' (P := Tryd.prog) 27 3 (.int .i64 0) 8 Tryd.underlying27 Tryd.info_int rfl .i64 .i64 n (by omega) (by omega)
      have hwr : IntKind.i64.wrap (vars + 1) = (n : Int) := by rw [IntKind.wrap_i64]; omega
      have hn41 : n ≤ 41 := by omega
      clear hlb hck hG hn
      go_enter Tryd.func7, Tryd.ntmps7
      go_wp2_with fail
      refine (HCo.out _ (by repeat (first | exact Below.refl _ _ | assumption | refine Below.drew ?_ | refine Below.alloc ?_ (by first | exact Nat.le_refl _ | omega | (simp; done) | (simp; omega)) _ | refine Below.setCell ?_ (by first | exact Nat.le_refl _ | omega | (simp; done) | (simp; omega)) _))).mono ?_
      rintro e w1 ⟨rfl, hb1⟩
      have f0 := keep hb1 (show (w.alloc (.cells #[.int .i64 vars, .slice a len cap] 25)).cell? ⟨w.heap.size, 0, none⟩ = some (.int .i64 vars) by simp [go_sem])
      have f1 := keep hb1 (show (w.alloc (.cells #[.int .i64 vars, .slice a len cap] 25)).cell? ⟨w.heap.size, 1, none⟩ = some (.slice a len cap) by simp [go_sem])
      have H1 := hid ((show Below w.heap.size w _ from (by repeat (first | exact Below.refl _ _ | assumption | refine Below.drew ?_ | refine Below.alloc ?_ (by first | exact Nat.le_refl _ | omega | (simp; done) | (simp; omega)) _ | refine Below.setCell ?_ (by first | exact Nat.le_refl _ | omega | (simp; done) | (simp; omega)) _))).trans (Below.mono hb1 (by simp)))
      have hz1 : w.heap.size < w1.heap.size := by have := hb1.size; simp at this; omega
      have HF0 := hid f0
      have HF1 := hid f1
      clear hb1 HCo
      go_wp2
      clear hmk hwr f0 f1
      go_loopw [8] (fun i wr => ∃ (k : Nat) (V : Nat → Int) (H : LS), k ≤ bl ∧ i = .int .i64 k ∧ ValRow wr w1.heap.size n V ∧ Below w1.heap.size w1 wr ∧ w1.heap.size < wr.heap.size ∧ Wf H ∧ (∀ l, mem H l = true → mem H (-l) = false) ∧ Agree V H ∧ givS vars (zs.drop k) H = G) (fun i _ => bl - (intOf i).toNat)
      case atStart =>
        refine ⟨0, fun _ => 0, (0, 0), Nat.zero_le _, rfl, ?_, (Below.refl _ _).alloc (Nat.le_refl _) _, by simp, wf_zero, fun l hl => by (rw [mem_zero] at hl; cases hl), agree0, by rw [List.drop_zero]; exact HG.out⟩
        have hrow := World.rowIs_made w1 (.int .i64 0) n 3
        exact ⟨fun i hi => ⟨hrow.cell hi, hrow.frozen i⟩, fun i _ => by omega⟩
      case round =>
        obtain ⟨k, V, H, hk, rfl, hvr, hbr, hsz, hwf, hcs, hag, hgv⟩ := hrel
        have f0 := keep hbr HF0.out
        have f1 := keep hbr HF1.out
        have HVR := hid hvr
        have HBR := hid hbr
        have HWf := hid hwf
        have HCs := hid hcs
        have HAg := hid hag
        have HGv := hid hgv
        have HWb := hid (H1.out.trans (hbr.mono (Nat.le_of_lt hz1)))
        clear hvr hbr hwf hcs hag hgv
        by_cases hlt : k < bl
        · obtain ⟨g, off, rfl, hc⟩ := (HBr.out.below HWb.out).cell k hlt
          have hd := drop_int (l := zs) (k := k) (by rw [HLb.out]; exact hlt)
          rw [hd] at HGv
          clear hd
          generalize zs[k]?.getD 0 = z at *
          by_cases hL : litB vars z = true
          · obtain ⟨hz, hi⟩ := lit_in hL
            obtain ⟨z0, zlo, zhi⟩ := lit_of hv1 hL
            have hzn : z.natAbs < n := by
              have := HNn.out
              unfold litB at hL
              have := of_decide_eq_true hL
              omega
            have hopp := opp_test HAg.out HCs.out z0 zlo zhi
            obtain ⟨hvc, hvf⟩ := HVR.out.cell z.natAbs hzn
            obtain ⟨r0, r1⟩ := HVR.out.range z.natAbs hzn
            obtain ⟨W9, hW9⟩ : ∃ W9, wr.setCell ⟨w1.heap.size, z.natAbs, none⟩ (.int .i64 (if 0 < z then 1 else -1)) = W9 := ⟨_, rfl⟩
            have HSt := hid (set_spec w1.heap.size n n V z wr HVR.out hzn z0 hn41)
            rw [hW9] at HSt
            have HW9 := hid hW9
            clear hW9
            have HZn := hid hzn
            have HL := hid hL
            obtain ⟨vz, hvz⟩ : ∃ v, V z.natAbs = v := ⟨_, rfl⟩
            obtain ⟨j, hj⟩ : ∃ j, z.natAbs = j := ⟨_, rfl⟩
            rw [hvz] at hvc r0 r1 hopp
            have HA : Hid (∀ w, Calls Tryd.prog 25 #[.int .i64 z] w fun e w' => e = .returned (.int .i64 (j : Int)) ∧ w' = w) := fun w => by
              have := abs_spec z w (by omega) (by omega)
              rw [hj] at this
              exact this
            rw [hj] at hvc hvf hzn
            have hjn : (j : Int) < (n : Int) := by omega
            clear hvz hj hL
            by_cases hm : mem H (-z) = true
            · obtain ⟨p1, p2⟩ := hopp.1 hm
              have HE : Hid (R = ([], 0, 8)) := hid (by
                have hg8 : G = (8, H) := by
                  have h9 := HGv.out
                  unfold givS at h9
                  rw [if_neg (by rw [HL.out]; decide), if_pos hm] at h9
                  exact h9.symm
                rw [HRe.out, hg8]
                rfl)
              have hq : (vz = 1 ∧ z < 0) ∨ (vz = -1 ∧ 0 < z) := by
                have : vz = 1 ∨ vz = -1 := by omega
                rcases this with rfl | rfl
                · left; simp at p2; omega
                · right; simp at p2; omega
              clear hopp p1 p2 hm
              have hdz : z < 0 → (!decide (0 < z)) = true := fun h => by simp; omega
              rcases hq with ⟨rfl, hq⟩ | ⟨rfl, hq⟩
              have hdz := hdz hq
              all_goals
                go_wp2_with first
                  | (go_at_call 24; refine (in_spec _ _ _ _).mono ?_; rintro e w' ⟨rfl, rfl⟩)
                  | (go_at_call 25; refine (HA.out _).mono ?_; rintro e w' ⟨rfl, rfl⟩)
                refine bodyPost_ret (runS.results_three rfl _ _ _) rfl ?_
                rw [HE.out]
                exact ⟨_, rfl, (cnfDraw.own_new _ rfl (by omega)), HWb.out.alloc (by omega) _⟩
            · have hq : vz = 0 ∨ (vz = 1 ∧ 0 < z) ∨ (vz = -1 ∧ z < 0) := by
                have : vz = 0 ∨ vz = 1 ∨ vz = -1 := by omega
                rcases this with rfl | rfl | rfl
                · exact .inl rfl
                · by_cases hp : 0 < z
                  · exact .inr (.inl ⟨rfl, hp⟩)
                  · exact absurd (hopp.2 ⟨by omega, by simp [hp]⟩) hm
                · by_cases hp : 0 < z
                  · exact absurd (hopp.2 ⟨by omega, by simp [hp]⟩) hm
                  · exact .inr (.inr ⟨rfl, by omega⟩)
              have HG2 : Hid (givS vars (zs.drop (k + 1)) (withL H (onlyL z)) = G) := hid (by
                rw [← HGv.out]
                conv => rhs; unfold givS
                rw [if_neg (by rw [HL.out]; decide), if_neg hm])
              have HM := hid hm
              have HZ3 := hid (show z ≠ 0 ∧ -40 ≤ z ∧ z ≤ 40 from ⟨z0, zlo, zhi⟩)
              have HN : Hid (∃ (k' : Nat) (V' : Nat → Int) (H' : LS), k' ≤ bl ∧ (.int .i64 ((k : Int) + 1) : Value) = .int .i64 k' ∧ ValRow W9 w1.heap.size n V' ∧ Below w1.heap.size w1 W9 ∧ w1.heap.size < W9.heap.size ∧ Wf H' ∧ (∀ l, mem H' l = true → mem H' (-l) = false) ∧ Agree V' H' ∧ givS vars (zs.drop k') H' = G) := hid (by
                rw [← HW9.out]
                refine ⟨k + 1, setV V z, withL H (onlyL z), by omega, rfl, HVR.out.set, HBR.out.setCell (Nat.le_refl _) _, by simpa using hsz, wf_with HWf.out (wf_only z0 zlo zhi), fun l hl => ?_, agree_set HAg.out z0 zlo zhi (by simpa using hm), HG2.out⟩
                rw [mem_held z0] at hl ⊢
                by_cases e : z = l
                · subst e
                  simp
                  exact ⟨by simpa using hm, by omega⟩
                · simp [e] at hl
                  rw [HCs.out l hl]
                  simp
                  intro e3
                  exact hm (by rw [e3, Int.neg_neg]; exact hl))
              clear hopp hm
              rcases hq with rfl | ⟨rfl, hq⟩ | ⟨rfl, hq⟩
              all_goals
                go_wp2_with first
                  | (go_at_call 24; refine (in_spec _ _ _ _).mono ?_; rintro e w' ⟨rfl, rfl⟩)
                  | (go_at_call 25; refine (HA.out _).mono ?_; rintro e w' ⟨rfl, rfl⟩)
                  | (go_at_call 26; refine HSt.out.mono ?_; rintro e w' ⟨rfl, rfl⟩)
                go_round
                case rel => first | exact HN.out | (have := HN.out; go_num)
                case measure => simp [intOf]; omega
          · have hL' : litB vars z = false := by simpa using hL
            have HE : Hid (R = ([], 0, 5)) := hid (by
              have hg8 : G = (5, H) := by
                have h9 := HGv.out
                unfold givS at h9
                rw [if_pos hL'] at h9
                exact h9.symm
              rw [HRe.out, hg8]
              rfl)
            clear hL
            by_cases hz : (z == 0) = true
            · go_wp2_with (go_at_call 24; refine (in_spec _ _ _ _).mono ?_; rintro e w' ⟨rfl, rfl⟩)
              refine bodyPost_ret (runS.results_three rfl _ _ _) rfl ?_
              rw [HE.out]
              exact ⟨_, rfl, (cnfDraw.own_new _ rfl (by omega)), HWb.out.alloc (by omega) _⟩
            · have hz' : (z == 0) = false := by simpa using hz
              clear hz
              have hi := lit_out hL' hz'
              go_wp2_with (go_at_call 24; refine (in_spec _ _ _ _).mono ?_; rintro e w' ⟨rfl, rfl⟩)
              refine bodyPost_ret (runS.results_three rfl _ _ _) rfl ?_
              rw [HE.out]
              exact ⟨_, rfl, (cnfDraw.own_new _ rfl (by omega)), HWb.out.alloc (by omega) _⟩
        · have e : k = bl := by omega
          subst e
          have hG0 : G = (0, H) := by
            rw [← HGv.out, List.drop_of_length_le (by rw [HLb.out]; exact Nat.le_refl _)]
            rfl
          obtain ⟨s1, s2⟩ := same_run HCk.out HNn.out HAg.out HWf.out HCs.out
          have HE : Hid (R = ((runF (n + 1) zss V []).1, (runF (n + 1) zss V []).2.1, 0)) := hid (by rw [HRe.out, hG0, s1, s2]; rfl)
          have HRun := hid (run_spec a len cap w1.heap.size n n zss V wr (fun w' hg => HRo.out.below (HWb.out.grown hg (by omega) (fun q e => by injection e with e; omega))) HVR.out hsz (fun ys hy z hz => by
            have hk' := HCk.out
            unfold cnfB at hk'
            rw [Bool.and_eq_true, List.all_eq_true] at hk'
            have h2 := hk'.2 ys hy
            unfold clauseB at h2
            rw [Bool.and_eq_true, List.all_eq_true] at h2
            have h3 := h2.2 z hz
            unfold litB at h3
            have := of_decide_eq_true h3
            have := HNn.out
            omega) hn41)
          clear s1 s2 hG0
          go_wp2_with (go_at_call 27; refine HRun.out.mono ?_; rintro e w2 ⟨v2, rfl, hown, -, hgr⟩; have HOw := hid hown; have HGr := hid hgr; clear hown hgr)
          refine bodyPost_ret (runS.results_three rfl _ _ _) rfl ?_
          rw [HE.out]
          exact ⟨_, rfl, own_mono HOw.out (by omega), HWb.out.grown HGr.out (by omega) (fun q e => by injection e with e; omega)⟩
end Go.Proofs.YtkboijdcjechdaaDoor.solSpec
