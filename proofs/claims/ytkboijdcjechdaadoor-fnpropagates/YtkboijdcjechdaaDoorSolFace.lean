/- Propagate of the program; conditions: lengths that fit, the table of math/bits as its initialiser lays it. -/
import Derived.Test.YtkboijdcjechdaaDoorSolNew
import Derived.Test.YtkboijdcjechdaaDoorSolPropI
import Derived.Test.YtkboijdcjechdaaDoorRunS
import Derived.Test.YtkboijdcjechdaaDoorRowsOwn
import Derived.BigRegion
namespace Go.Proofs.YtkboijdcjechdaaDoor.solFace
open Go.RowKit Go.Deep Go.Maps Go base copy cnf sets setsOf solSets solOps solMath solHold solProp solAdd solMem solHoldI solNew solPropI rowsOwn
set_option linter.unusedVariables false
set_option linter.unusedSimpArgs false

/-- Literals that are given: a code, and what is true by them. -/
def givS (n : Int) : List Int → LS → Int × LS
  | [], H => (0, H)
  | z :: r, H => if litB n z = false then (5, H) else if mem H (-z) = true then (8, H) else givS n r (withL H (onlyL z))
def endS (n : Int) (zss : List (List Int)) (H : LS) : Sv := propF (meas (newS n H (zss.map setL)) + 1) (newS n H (zss.map setL))
def prA (n : Int) (zss : List (List Int)) (zs : List Int) : List Int × Int × Int :=
  if 4096 < zs.length then ([], 0, 2) else if cnfB n zss = false then ([], 0, 1) else if (givS n zs (0, 0)).1 ≠ 0 then ([], 0, (givS n zs (0, 0)).1) else ((endS n zss (givS n zs (0, 0)).2).T.map Prod.fst, (endS n zss (givS n zs (0, 0)).2).F, 0)
theorem lit_of {n z : Int} (h1 : n ≤ 40) (h : litB n z = true) : z ≠ 0 ∧ -40 ≤ z ∧ z ≤ 40 := by
  unfold litB at h
  have := of_decide_eq_true h
  omega
theorem giv_fine {n : Int} (h1 : n ≤ 40) : ∀ (zs : List Int) (H : LS), Wf H → (∀ l, mem H l = true → mem H (-l) = false) → (givS n zs H).1 = 0 → Wf (givS n zs H).2 ∧ (∀ l, mem (givS n zs H).2 l = true → mem (givS n zs H).2 (-l) = false)
  | [], H, hH, hc, _ => ⟨hH, hc⟩
  | z :: r, H, hH, hc, h => by
    unfold givS at h ⊢
    by_cases e1 : litB n z = false
    · rw [if_pos e1] at h; cases h
    · rw [if_neg e1] at h ⊢
      by_cases e2 : mem H (-z) = true
      · rw [if_pos e2] at h; cases h
      · rw [if_neg e2] at h ⊢
        obtain ⟨z0, z1, z2⟩ := lit_of h1 (by simpa using e1)
        refine giv_fine h1 r _ (wf_with hH (wf_only z0 z1 z2)) (fun l hl => ?_) h
        rw [mem_held z0] at hl ⊢
        by_cases e : z = l
        · subst e
          simp
          exact ⟨by simpa using e2, by omega⟩
        · simp [e] at hl
          rw [hc l hl]
          simp
          intro e3
          exact e2 (by rw [e3, Int.neg_neg]; exact hl)
theorem cnf_lits {n : Int} {zss : List (List Int)} (h : cnfB n zss = true) : ∀ zs ∈ zss, ∀ z ∈ zs, z ≠ 0 ∧ z.natAbs < 41 := fun zs hz z hzz => by
  unfold cnfB at h
  rw [Bool.and_eq_true, decide_eq_true_eq, List.all_eq_true] at h
  have h2 := h.2 zs hz
  unfold clauseB at h2
  rw [Bool.and_eq_true, List.all_eq_true] at h2
  have h3 := h2.2 z hzz
  unfold litB at h3
  have := of_decide_eq_true h3
  omega
theorem cnf_bounds {n : Int} {zss : List (List Int)} (h : cnfB n zss = true) : 0 ≤ n ∧ n ≤ 40 ∧ zss.length ≤ 300 := by
  unfold cnfB at h
  rw [Bool.and_eq_true, decide_eq_true_eq] at h
  exact h.1
theorem trail_len : ∀ (k : Nat) (s : Sv), Full s → (propF k s).T.length + free (propF k s).H ≤ s.T.length + free s.H
  | 0, s, _ => Nat.le_refl _
  | k + 1, s, h => by
    by_cases hF : s.F = -1
    · cases hD : s.D with
      | nil => rw [propF_end (.inr hD)]; exact Nat.le_refl _
      | cons i D =>
        rw [propF_step hF hD]
        refine Nat.le_trans (trail_len k _ (pop_full h hF hD)) ?_
        by_cases hm : meetL (s.cl i) s.H = true
        · unfold popS; rw [if_pos hm]; exact Nat.le_refl _
        · obtain ⟨x, e, h1, h2, h3, h4, h5, h6⟩ := unit_of h hF hD hm
          unfold popS
          rw [if_neg hm, e]
          obtain ⟨_, _, t1, t2, _⟩ := hold_same { s with D := D } x i
          rw [t1, t2]
          have := free_hold h2 h3 ⟨h5, h6⟩
          simp only [List.length_append, List.length_singleton]
          show s.T.length + 1 + free (withL s.H (onlyL x)) ≤ s.T.length + free s.H
          omega
    · rw [propF_end (.inl hF)]; exact Nat.le_refl _
theorem fst_get {T : List (Int × Int)} {i : Nat} (h : i < T.length) : (T.map Prod.fst).take (i + 1) = (T.map Prod.fst).take i ++ [(T[i]?.getD (0, 0)).1] := by
  rw [List.take_add_one, List.getElem?_map, List.getElem?_eq_getElem h]
  rfl
theorem drop_lit {l : List Int} {k : Nat} (h : k < l.length) : l.drop k = (l[k]?.getD 0) :: l.drop (k + 1) := by
  rw [List.drop_eq_getElem_cons h, List.getElem?_eq_getElem h]; rfl
set_option maxHeartbeats 6400000 in
set_option maxRecDepth 8000 in
theorem propagate_face (vars : Int) (a : Option Addr) (len cap : Nat) (zss : List (List Int)) (b : Option Addr) (bl bc : Nat) (zs : List Int) (w : World) (hr : IntRows w a len zss) (hb : IntRow w b bl zs) (ht : Tab w) :
    Calls Tryd.prog 6 #[.agg #[.int .i64 vars, .slice a len cap], .slice b bl bc] w fun e w' => ∃ v, e = .returned (.tuple #[v, .int .i64 (prA vars zss zs).2.1, .int .i64 (prA vars zss zs).2.2]) ∧ OwnInts w.heap.size w' v (prA vars zss zs).1 ∧ Below w.heap.size w w' := by
  obtain ⟨R, hR⟩ : ∃ R, prA vars zss zs = R := ⟨_, rfl⟩
  rw [hR]
  have HR := hid hR
  have hmost := hb.most
  unfold maxLen at hmost
  have HLb := hid hb.length
  have HRo := hid hr
  have HBr := hid hb
  have HT := hid ht
  have HCo := hid (fun (W : World) (hbw : Below w.heap.size w W) => cnfOK_impl vars a len cap zss W (hr.below hbw))
  have hlb := hb.length
  clear hR hr hb ht
  by_cases h1 : 4096 < bl
  · have HE : Hid (R = ([], 0, 2)) := hid (by rw [← HR.out]; unfold prA; rw [if_pos (by omega)])
    have d1 : (4096 : Int) < (bl : Int) := by omega
    clear hlb
    go_enter Tryd.func6, Tryd.ntmps6
    go_wp2
    refine bodyPost_ret (runS.results_three rfl _ _ _) rfl ?_
    rw [HE.out]
    exact ⟨_, rfl, OwnInts.nil _ _, (by repeat (first | exact Below.refl _ _ | assumption | refine netSem.bdn ?_ _ | refine Below.drew ?_ | refine Below.alloc ?_ (by first | exact Nat.le_refl _ | omega | (simp; done) | (simp; omega)) _))⟩
  · have d1 : ¬ (4096 : Int) < (bl : Int) := by omega
    cases hck : cnfB vars zss with
    | false =>
      have HE : Hid (R = ([], 0, 1)) := hid (by rw [← HR.out]; unfold prA; rw [if_neg (by omega), if_pos hck])
      rw [hck] at HCo
      clear hlb hck
      go_enter Tryd.func6, Tryd.ntmps6
      go_wp2_with fail
      refine (HCo.out _ (by repeat (first | exact Below.refl _ _ | assumption | refine Below.drew ?_ | refine Below.alloc ?_ (by first | exact Nat.le_refl _ | omega | (simp; done) | (simp; omega)) _ | refine Below.setCell ?_ (by first | exact Nat.le_refl _ | omega | (simp; done) | (simp; omega)) _))).mono ?_
      rintro e w1 ⟨rfl, hb1⟩
      have H1 := hid ((show Below w.heap.size w _ from (by repeat (first | exact Below.refl _ _ | assumption | refine Below.drew ?_ | refine Below.alloc ?_ (by first | exact Nat.le_refl _ | omega | (simp; done) | (simp; omega)) _ | refine Below.setCell ?_ (by first | exact Nat.le_refl _ | omega | (simp; done) | (simp; omega)) _))).trans (Below.mono hb1 (by simp)))
      clear hb1
      go_wp2
      refine bodyPost_ret (runS.results_three rfl _ _ _) rfl ?_
      rw [HE.out]
      exact ⟨_, rfl, OwnInts.nil _ _, H1.out⟩
    | true =>
      rw [hck] at HCo
      have HCk := hid hck
      obtain ⟨hv0, hv1, hv2⟩ := cnf_bounds hck
      obtain ⟨G, hG⟩ : ∃ G, givS vars zs (0, 0) = G := ⟨_, rfl⟩
      have HG := hid hG
      have HRe : Hid (R = if G.1 ≠ 0 then ([], 0, G.1) else ((endS vars zss G.2).T.map Prod.fst, (endS vars zss G.2).F, 0)) := hid (by rw [← HR.out, ← hG]; unfold prA; rw [if_neg (by omega), if_neg (by rw [hck]; decide)])
      clear hlb hck hG
      go_enter Tryd.func6, Tryd.ntmps6
      go_wp2_with fail
      refine (HCo.out _ (by repeat (first | exact Below.refl _ _ | assumption | refine Below.drew ?_ | refine Below.alloc ?_ (by first | exact Nat.le_refl _ | omega | (simp; done) | (simp; omega)) _ | refine Below.setCell ?_ (by first | exact Nat.le_refl _ | omega | (simp; done) | (simp; omega)) _))).mono ?_
      rintro e w1 ⟨rfl, hb1⟩
      have f0 := keep hb1 (show (w.alloc (.cells #[.int .i64 vars, .slice a len cap] 25)).cell? ⟨w.heap.size, 0, none⟩ = some (.int .i64 vars) by simp [go_sem])
      have f1 := keep hb1 (show (w.alloc (.cells #[.int .i64 vars, .slice a len cap] 25)).cell? ⟨w.heap.size, 1, none⟩ = some (.slice a len cap) by simp [go_sem])
      have H1 := hid ((show Below w.heap.size w _ from (by repeat (first | exact Below.refl _ _ | assumption | refine Below.drew ?_ | refine Below.alloc ?_ (by first | exact Nat.le_refl _ | omega | (simp; done) | (simp; omega)) _ | refine Below.setCell ?_ (by first | exact Nat.le_refl _ | omega | (simp; done) | (simp; omega)) _))).trans (Below.mono hb1 (by simp)))
      have hz1 : w.heap.size < w1.heap.size := by have := hb1.size; simp at this; omega
      have HF0 := hid f0
      have HF1 := hid f1
      clear hb1 HCo
      go_wp2
      have HSn := hid (SetAt.new w1 0 0)
      have HBn : Hid (Below w.heap.size w (w1.alloc (.cells #[.int .u64 0, .int .u64 0] 47))) := hid (H1.out.alloc H1.out.size _)
      have HFn : Hid ((w1.alloc (.cells #[.int .u64 0, .int .u64 0] 47)).cell? ⟨w.heap.size, 0, none⟩ = some (.int .i64 vars) ∧ (w1.alloc (.cells #[.int .u64 0, .int .u64 0] 47)).cell? ⟨w.heap.size, 1, none⟩ = some (.slice a len cap)) := hid ⟨keep (by repeat (first | exact Below.refl _ _ | assumption | refine Below.drew ?_ | refine Below.alloc ?_ (by first | exact Nat.le_refl _ | omega | (simp; done) | (simp; omega)) _ | refine Below.setCell ?_ (by first | exact Nat.le_refl _ | omega | (simp; done) | (simp; omega)) _)) HF0.out, keep (by repeat (first | exact Below.refl _ _ | assumption | refine Below.drew ?_ | refine Below.alloc ?_ (by first | exact Nat.le_refl _ | omega | (simp; done) | (simp; omega)) _ | refine Below.setCell ?_ (by first | exact Nat.le_refl _ | omega | (simp; done) | (simp; omega)) _)) HF1.out⟩
      obtain ⟨B, hB⟩ : ∃ B, w1.heap.size = B := ⟨_, rfl⟩
      rw [hB] at HSn
      have HBs : Hid (w.heap.size < B) := hid (by omega)
      rw [hB]
      clear f0 f1 hz1 hB
      generalize w1.alloc (.cells #[.int .u64 0, .int .u64 0] 47) = w2 at *
      go_loopw [22] (fun i wr => ∃ (k P O : Nat), k ≤ bl ∧ i = .int .i64 k ∧ Below w.heap.size w wr ∧ SetAt wr B P O ∧ (wr.cell? ⟨w.heap.size, 0, none⟩ = some (.int .i64 vars) ∧ wr.cell? ⟨w.heap.size, 1, none⟩ = some (.slice a len cap)) ∧ Wf (P, O) ∧ givS vars (zs.drop k) (P, O) = G) (fun i _ => bl - (intOf i).toNat)
      case atStart => exact ⟨0, 0, 0, Nat.zero_le _, rfl, HBn.out, HSn.out, HFn.out, wf_zero, by rw [List.drop_zero]; exact HG.out⟩
      case round =>
        obtain ⟨k, P, O, hk, rfl, hbel, hset, ⟨f0, f1⟩, hwf, hgi⟩ := hrel
        have HBk := hid hbel
        have HSk := hid hset
        have HWk := hid hwf
        have hBlt := hset.lt
        have hBs := HBs.out
        by_cases hlt : k < bl
        · obtain ⟨g, off, rfl, hc0⟩ := HBr.out.cell k hlt
          have hc := keep hbel hc0
          have hgl := World.block_lt_of_cell? _ _ hc
          simp only at hgl
          have hgw := World.block_lt_of_cell? _ _ hc0
          simp only at hgw
          rw [drop_lit (by rw [HLb.out]; exact hlt)] at hgi
          obtain ⟨z, hz⟩ : ∃ z, zs[k]?.getD 0 = z := ⟨_, rfl⟩
          rw [hz] at hc hgi
          have HGi := hid hgi
          have HLi := hid (lit_impl z vars wr (by omega) (by omega))
          obtain ⟨c0, c1, -, -⟩ := hset.facts
          have hkl : (k : Int) < (bl : Int) := by omega
          clear hc0 hgi hz hwf hset hbel
          cases hlz : litB vars z with
          | false =>
            have HE : Hid (G = (5, (P, O))) := hid (by rw [← HGi.out]; unfold givS; rw [if_pos hlz])
            rw [hlz] at HLi
            clear hlz
            go_wp2_with (go_at_call 17; refine HLi.out.mono ?_; rintro e w' ⟨rfl, rfl⟩)
            refine bodyPost_ret (runS.results_three rfl _ _ _) rfl ?_
            rw [HRe.out, HE.out]
            exact ⟨_, rfl, OwnInts.nil _ _, HBk.out⟩
          | true =>
            obtain ⟨z0, z1, z2⟩ := lit_of hv1 hlz
            rw [hlz] at HLi
            have HHa := hid (fun W : World => has_impl (P, O) (-z) W HWk.out (by omega) (by omega) (by omega))
            cases hmz : mem (P, O) (-z) with
            | true =>
              have HE : Hid (G = (8, (P, O))) := hid (by rw [← HGi.out]; unfold givS; rw [if_neg (by rw [hlz]; decide), if_pos hmz])
              rw [hmz] at HHa
              clear hlz hmz
              go_wp2_with (go_at_call 17; refine HLi.out.mono ?_; rintro e w' ⟨rfl, rfl⟩)
              refine (HHa.out _).mono ?_
              rintro e w3 ⟨rfl, hb3⟩
              have H3 := hid (HBk.out.trans (hb3.mono HBk.out.size))
              clear hb3
              go_wp2
              refine bodyPost_ret (runS.results_three rfl _ _ _) rfl ?_
              rw [HRe.out, HE.out]
              exact ⟨_, rfl, OwnInts.nil _ _, H3.out⟩
            | false =>
              have HN : Hid (givS vars (zs.drop (k + 1)) (P ||| pBit z, O ||| oBit z) = G) := hid (by rw [← HGi.out]; conv => rhs; unfold givS
                                                                                                      rw [if_neg (by rw [hlz]; decide), if_neg (by rw [hmz]; decide)]; rfl)
              have HWn : Hid (Wf (P ||| pBit z, O ||| oBit z)) := hid (wf_with HWk.out (wf_only z0 z1 z2))
              rw [hmz] at HHa
              obtain ⟨q1, q2⟩ := HWk.out.lt
              obtain ⟨q3, q4⟩ := (wf_only z0 z1 z2).lt
              simp only [onlyL] at q3 q4
              simp only at q1 q2
              clear hlz hmz
              have HKk := hid (fun (W : World) (hb : Below wr.heap.size wr W) => (⟨(HSk.out.below hb).facts, keep hb f0, keep hb f1, Nat.lt_of_lt_of_le hBlt hb.size⟩ : (_ ∧ _ ∧ _ ∧ _) ∧ W.cell? ⟨w.heap.size, 0, none⟩ = some (.int .i64 vars) ∧ W.cell? ⟨w.heap.size, 1, none⟩ = some (.slice a len cap) ∧ B < W.heap.size))
              go_wp2_with (go_at_call 17; refine HLi.out.mono ?_; rintro e w' ⟨rfl, rfl⟩)
              refine (HHa.out _).mono ?_
              rintro e w3 ⟨rfl, hb3⟩
              have H3 := hid hb3
              obtain ⟨⟨y0, y1, y2, y3⟩, y4, y5, y6⟩ := HKk.out w3 hb3
              have HKk3 := hid (fun (W : World) (hb : Below w3.heap.size w3 W) => HKk.out W (H3.out.trans (hb.mono H3.out.size)))
              clear hb3 c0 c1 f0 f1 hc
              go_wp2
              go_region_with (first
                | (go_at_call 20; refine (only_impl z _ (by omega) (by omega)).mono ?_; rintro e w4 ⟨rfl, hb4⟩; have hb4' : Below w3.heap.size w3 w4 := ((Below.refl _ w3).drew).trans hb4; clear y0 y1 y2 y3 y4 y5 y6; obtain ⟨⟨y0, y1, y2, y3⟩, y4, y5, y6⟩ := HKk3.out w4 hb4'; clear hb4)
                | (go_at_call 19; refine (with_impl _ _ _ _ _ q1 q2 q3 q4).mono ?_; rintro e w5 ⟨rfl, hb5⟩; have hb5' : Below w3.heap.size w3 w5 := hb4'.trans (hb5.mono hb4'.size); clear y0 y1 y2 y3 y4 y5 y6; obtain ⟨⟨y0, y1, y2, y3⟩, y4, y5, y6⟩ := HKk3.out w5 hb5'; clear hb5))
              all_goals
                have H5 := hid (H3.out.trans (hb5'.mono H3.out.size))
                have HB5 := hid (HBk.out.trans (H5.out.mono HBk.out.size))
                have HY := hid (And.intro y4 y5)
                clear hb5' hb4'
                go_wp2
                go_roundw
                case rel =>
                  refine ⟨k + 1, P ||| pBit z, O ||| oBit z, by omega, by go_num, (HB5.out.setCell (by dsimp only; omega) _).setCell (by dsimp only; omega) _, (HSk.out.below H5.out).put _ _, ⟨?_, ?_⟩, HWn.out, HN.out⟩
                  · rw [World.cell?_setCell_other _ _ _ _ (by intro h; injection h with h _ _; omega), World.cell?_setCell_other _ _ _ _ (by intro h; injection h with h _ _; omega)]; exact HY.out.1
                  · rw [World.cell?_setCell_other _ _ _ _ (by intro h; injection h with h _ _; omega), World.cell?_setCell_other _ _ _ _ (by intro h; injection h with h _ _; omega)]; exact HY.out.2
                case measure => simp [intOf]; omega
        · have e : k = bl := by omega
          subst e
          have hgE : G = (0, (P, O)) := by
            rw [← hgi, List.drop_of_length_le (by rw [HLb.out]; exact Nat.le_refl _)]
            rfl
          have hg0 : (givS vars zs (0, 0)).1 = 0 := by rw [HG.out, hgE]
          obtain ⟨hw9, hc9⟩ := giv_fine hv1 zs (0, 0) wf_zero (fun l hl => by rw [mem_zero] at hl; cases hl) hg0
          rw [HG.out, hgE] at hw9 hc9
          obtain ⟨c0, c1, -, -⟩ := hset.facts
          have hlz := HRo.out.length
          have hfull := (new_full (n := vars) (H := (P, O)) (cs := zss.map setL) hw9 hc9 (fun c hc => by
            obtain ⟨ys, h1, rfl⟩ := List.mem_map.1 hc
            exact wf_set (cnf_lits HCk.out ys h1)))
          have HRf : Hid (R = ((endS vars zss (P, O)).T.map Prod.fst, (endS vars zss (P, O)).F, 0)) := hid (by rw [HRe.out, hgE]; rfl)
          have HNw := hid (fun (W : World) (hbw : Below w.heap.size w W) => new_impl vars a len cap zss (P, O) W (HRo.out.below hbw) (by omega) (cnf_lits HCk.out) hw9 hc9 (tab_below HT.out hbw))
          have HFu := hid hfull
          clear hgi hwf hset hbel hgE hg0 hw9 hc9 hlz hfull
          go_wp2_with fail
          refine (HNw.out wr HBk.out).mono ?_
          rintro e w3 ⟨M, mb, F, V, rfl, q1, qv, q2, qm, qb, qg⟩
          obtain ⟨u1, u2, u3, u4, u5, u6⟩ := HFu.out
          have HPr := hid (propagate_impl M mb F V _ w3 q1 qv u1 (by rw [u2, List.length_map]; omega) (by rw [u5]; have := free_most (newS vars (P, O) (zss.map setL)).H; simp; omega))
          have HB3 := hid (HBk.out.trans (q2.mono HBk.out.size))
          have HTl : Hid ((endS vars zss (P, O)).T.length ≤ 41) := hid (by
            have h8 := trail_len (meas (newS vars (P, O) (zss.map setL)) + 1) _ u1
            rw [u5] at h8
            have h9 := free_most (newS vars (P, O) (zss.map setL)).H
            simp at h8
            show (propF _ _).T.length ≤ 41
            omega)
          have HQb := hid (show w.heap.size ≤ w3.heap.size ∧ w.heap.size ≤ M ∧ w.heap.size ≤ mb ∧ ∀ a g, blk 0 F V a = some g → w.heap.size ≤ g from ⟨HB3.out.size, Nat.le_trans HBk.out.size qm, Nat.le_trans HBk.out.size qb, fun a g hg => Nat.le_trans HBk.out.size (qg a g hg)⟩)
          clear q1 qv q2 qm qb qg u1 u2 u3 u4 u5 u6 c0 c1 f0 f1
          go_wp2_with fail
          refine HPr.out.mono ?_
          rintro e w4 ⟨rfl, F', V', p1, pv, p2⟩
          have HB4 := hid (HB3.out.trans (p2.toBelow HQb.out.1 HQb.out.2.1 HQb.out.2.2.1 HQb.out.2.2.2))
          have HP1 : Hid (Sol 0 M mb F' V' (endS vars zss (P, O)) w4) := hid p1
          clear p1 pv p2 HPr HNw
          obtain ⟨E, hE⟩ : ∃ E, endS vars zss (P, O) = E := ⟨_, rfl⟩
          rw [hE] at HP1 HTl HRf
          clear hE
          have HRo7 : Hid (w4.ownsRow 0 62 2 (F' 7) E.T.length (flatP E.T)) := hid (HP1.out.rows 1003 (by omega))
          obtain ⟨ta, tc, hta⟩ := own_form HRo7.out
          have k7 := HP1.out.cell (i := 7) (by omega)
          have k10 := HP1.out.cell (i := 10) (by omega)
          rw [HP1.out.f10] at k10
          rw [hta] at k7 HRo7
          obtain ⟨TL, hTL⟩ : ∃ TL, E.T.length = TL := ⟨_, rfl⟩
          have HTL := hid hTL
          rw [hTL] at k7 HRo7 HTl
          have hM4 := HP1.out.lt.1
          have HK10 := hid k10
          obtain ⟨i0, hi9, hzz⟩ := Option.map_eq_some_iff.1 Tryd.info_int
          simp only [Prod.mk.injEq] at hzz
          obtain ⟨hz0, hz1, hz2⟩ := hzz
          have HI := hid hi9
          have HZ0 := hid hz0
          have HZ1 := hid hz1
          have HZ2 := hid hz2
          clear hz0 hz1 hz2 hi9 hta hTL
          have hTl9 := HTl.out
          go_wp2
          go_loopw [50, 11] (fun i v wr => ∃ k : Nat, k ≤ TL ∧ i = .int .i64 k ∧ OwnInts w4.heap.size wr v ((E.T.map Prod.fst).take k) ∧ Below w4.heap.size w4 wr) (fun i _ _ => TL - (intOf i).toNat)
          case atStart => exact ⟨0, Nat.zero_le _, rfl, OwnInts.nil _ _, Below.refl _ _⟩
          case round =>
            obtain ⟨k, hk, rfl, hown, hbel⟩ := hrel
            have HO := hid hown
            have HBe := hid hbel
            have HBs9 := hid hbel.size
            by_cases hlt : k < TL
            · obtain ⟨g, cp, e7, -, r1, r2, -⟩ := solPush.row_cells HRo7.out hlt
              injection e7 with e7 e8 e9
              subst e7
              obtain ⟨g1, g2⟩ := flatP_get E.T k (by rw [HTL.out]; exact hlt)
              have x1 := keep hbel (r1 _ g1)
              have x2 := keep hbel (r2 _ g2)
              have HTk := hid (fst_get (T := E.T) (i := k) (by rw [HTL.out]; exact hlt))
              have HLn : Hid (((E.T.map Prod.fst).take k).length ≤ k) := hid (List.length_take_le _ _)
              obtain ⟨lx, hlx⟩ : ∃ lx, (E.T[k]?.getD (0, 0)).1 = lx := ⟨_, rfl⟩
              obtain ⟨rx, hrx⟩ : ∃ rx, (E.T[k]?.getD (0, 0)).2 = rx := ⟨_, rfl⟩
              rw [hlx] at x1 HTk
              rw [hrx] at x2
              have hgl := World.block_lt_of_cell? _ _ x1
              simp only at hgl
              have hkl : (k : Int) < (TL : Int) := by omega
              have HO1 := hid (HO.out.below (show Below wr.heap.size wr (wr.alloc (.cells #[.int .i64 lx, .int .i64 rx] 62)) from (by repeat (first | exact Below.refl _ _ | assumption | refine Below.drew ?_ | refine Below.alloc ?_ (by first | exact Nat.le_refl _ | omega | (simp; done) | (simp; omega)) _ | refine Below.setCell ?_ (by first | exact Nat.le_refl _ | omega | (simp; done) | (simp; omega)) _))))
              clear hown hbel r1 r2 g1 g2 hlx hrx e8 e9
              go_wp2_with (at_builtin; (refine wpList_append_own _ rfl _ _ 27 rfl w4.heap.size 3 i0 _ 1 8 Tryd.underlying27 HI.out HZ0.out HZ1.out HZ2.out rfl (by decide) _ _ _ rfl (World.ownsRow.alloc HO1.out _) ⟨wr.heap.size + 1, 0, none⟩ 1 1 [.int .i64 lx] rfl rfl (by have := cell_one_new (wr.alloc (.cells #[.int .i64 lx, .int .i64 rx] 62)) (.int .i64 lx) 3; rw [World.size_alloc] at this; exact this) (fun x hx => by simp at hx; subst hx; rfl) (by have := HLn.out; unfold maxLen; omega) (by have := HLn.out; omega) (by have := HBs9.out; simp; omega) ?_); intro v' w5 hown' hgrow5 hnil5)
              have HO5 : Hid (OwnInts w4.heap.size w5 v' ((E.T.map Prod.fst).take (k + 1))) := hid (by
                rw [HTk.out]
                unfold OwnInts
                rw [List.length_append, List.map_append]
                exact hown')
              have HB5 : Hid (Below w4.heap.size w4 w5) := hid (rowsOwn.grown_below (OwnInts.below HO1.out (by repeat (first | exact Below.refl _ _ | assumption | refine Below.drew ?_ | refine Below.alloc ?_ (by first | exact Nat.le_refl _ | omega | (simp; done) | (simp; omega)) _ | refine Below.setCell ?_ (by first | exact Nat.le_refl _ | omega | (simp; done) | (simp; omega)) _))) ((HBe.out.alloc HBs9.out _).alloc (by have := HBs9.out; simp; omega) _) (by have := HBs9.out; simp; omega) hgrow5)
              clear hown' hgrow5 hnil5
              go_wp2
              go_roundw
              case rel => exact ⟨k + 1, by omega, by go_num, HO5.out, HB5.out⟩
              case measure => simp [intOf]; omega
            · have e : k = TL := by omega
              subst e
              have HTk : Hid ((E.T.map Prod.fst).take k = E.T.map Prod.fst) := hid (List.take_of_length_le (by rw [List.length_map, HTL.out]; exact Nat.le_refl _))
              have k10' := keep hbel HK10.out
              clear hown hbel
              go_wp2
              go_quiet (fail)
              go_wp2
              refine bodyPost_ret (runS.results_three rfl _ _ _) rfl ?_
              rw [HRf.out]
              refine ⟨_, rfl, ?_, ?_⟩
              · have := (HO.out.below (below_drewN wr nq)).mono HB4.out.size
                rw [HTk.out] at this
                exact this
              · exact HB4.out.trans ((HBe.out.trans ((below_drewN wr nq).mono HBe.out.size)).mono HB4.out.size)
end Go.Proofs.YtkboijdcjechdaaDoor.solFace
