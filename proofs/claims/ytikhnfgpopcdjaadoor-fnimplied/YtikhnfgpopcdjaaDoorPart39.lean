/- SolRefresh; CdSmall; SolSmall; RunS: one text, so that the claim has fewer files. -/
import Derived.Test.YtikhnfgpopcdjaaDoorPart30
import Derived.Test.YtikhnfgpopcdjaaDoorPart28
import Derived.Test.YtikhnfgpopcdjaaDoorPart34
import Derived.Test.YtikhnfgpopcdjaaDoorSolSolve
import Derived.Test.YtikhnfgpopcdjaaDoorPart1
/- A solver of the program: it begins anew when it has gone on for long (refresh); what thin does is given. -/
namespace Go.Proofs.YtikhnfgpopcdjaaDoor.solRefresh
open Go.RowKit Go.Deep Go.Maps Go base sets setsOf solSets solOps solMath solHold solMem solFail solX solTrail solPush cdX solHang
set_option linter.unusedVariables false
set_option linter.unusedSimpArgs false

/-- What refresh makes of a solver's state ahead of thin: a lesson is counted, or all choices are taken back. -/
def RfS (s s1 : Sv) (L P : Int) : Prop :=
  (s1 = { s with X := s1.X } ∧ wrap64 (L + 1) ≠ P ∧ s1.X 55 = .int .i64 (wrap64 (L + 1)) ∧ s1.X 54 = .int .i64 P ∧ ∀ j, j < 54 → s1.X j = s.X j) ∨
  (s1 = { backS s 0 with X := s1.X } ∧ wrap64 (L + 1) = P ∧ s1.X 55 = .int .i64 0 ∧ s1.X 54 = .int .i64 (wrap64 (P + P.tdiv 10)) ∧ ∀ j, j < 54 → s1.X j = s.X j)
set_option maxHeartbeats 3200000 in
theorem refresh_impl (M mb : Nat) (F : Nat → Value) (V : Int → Value) (s : Sv) (w : World) (h : Sol 0 M mb F V s w) (L P R O : Int) (h55 : s.X 55 = .int .i64 L) (h54 : s.X 54 = .int .i64 P) (h53 : s.X 53 = .int .i64 R) (h1 : s.X 1 = .int .i64 O) (hO : 0 ≤ O ∧ O ≤ s.C.length) (hP : -9223372036854775808 ≤ P ∧ P < 9223372036854775808)
    (wf : Wf s.H) (hk : 0 < s.K.length → s.K[0]?.getD 0 ≤ s.T.length) (hT : ∀ p ∈ s.T, p.1 ≠ 0 ∧ -40 ≤ p.1 ∧ p.1 ≤ 40) (hTl : s.T.length ≤ 100000) (hKl : s.K.length ≤ 100000) (Q : World → Prop)
    (HTh : ∀ (F1 : Nat → Value) (s1 : Sv) (w1 : World), Sol 0 M mb F1 V s1 w1 → Chg M mb (blk 0 F V) (blk 0 F1 V) w w1 → RfS s s1 L P → R < (s.C.length : Int) - O →
      Calls Tryd.prog 58 #[.pointer (some ⟨M, 0, none⟩)] w1 fun e w2 => e = .returned (.tuple #[]) ∧ Q w2)
    (HNo : ∀ (F1 : Nat → Value) (s1 : Sv) (w1 : World), Sol 0 M mb F1 V s1 w1 → Chg M mb (blk 0 F V) (blk 0 F1 V) w w1 → RfS s s1 L P → ¬ R < (s.C.length : Int) - O → Q w1) :
    Calls Tryd.prog 50 #[.pointer (some ⟨M, 0, none⟩)] w fun e w2 => e = .returned (.tuple #[]) ∧ Q w2 := by
  have HS := hid h
  have HT := hid HTh
  have HN := hid HNo
  have hM := h.lt.1
  have k55 := h.cell (i := 55) (by omega)
  have z55 := h.frozen 55
  rw [h.fx 55 (.inr (by omega)), h55] at k55
  have H55 := hid h55
  have H54 := hid h54
  have H53 := hid h53
  have H1 := hid h1
  have HWf := hid wf
  have HK := hid hk
  have HTT := hid hT
  clear h h55 h54 h53 h1 HTh HNo wf hk hT
  go_enter Tryd.func50, Tryd.ntmps50
  go_wp2
  obtain ⟨L1, hL1⟩ : ∃ x, wrap64 (L + 1) = x := ⟨_, rfl⟩
  rw [hL1]
  obtain ⟨h3, h4⟩ := Sol.setX HS.out (by omega) (show 11 ≤ 55 by omega) (.int .i64 L1)
  have HS1 := hid h3
  have HC1 := hid h4
  have HL1 := hid hL1
  have HX1 : Hid (updX s.X 55 (.int .i64 L1) 55 = .int .i64 L1 ∧ (∀ j, j < 55 → updX s.X 55 (.int .i64 L1) j = s.X j)) := hid ⟨by unfold updX; rw [if_pos rfl], fun j hj => by unfold updX; rw [if_neg (by omega)]⟩
  clear h3 h4 k55 z55 hL1
  generalize w.setCell ⟨M, 55, none⟩ (.int .i64 L1) = w1 at *
  generalize updX s.X 55 (.int .i64 L1) = X1 at *
  generalize updX F 55 (.int .i64 L1) = F1 at *
  have k55 := HS1.out.cell (i := 55) (by omega)
  have k54 := HS1.out.cell (i := 54) (by omega)
  rw [HS1.out.fx 55 (.inr (by omega)), show (({ s with X := X1 } : Sv)).X 55 = .int .i64 L1 from HX1.out.1] at k55
  rw [HS1.out.fx 54 (.inr (by omega)), show (({ s with X := X1 } : Sv)).X 54 = .int .i64 P from (HX1.out.2 54 (by omega)).trans H54.out] at k54
  go_region
  have z55 := HS1.out.frozen 55
  have z54 := HS1.out.frozen 54
  have hwd : Below w1.heap.size w1 w1.drew := (Below.refl _ _).drew
  have HS2 := hid (HS1.out.below hwd)
  have HC2 := hid (HC1.out.trans (Chg.below hwd))
  clear HS1 HC1 hwd k55 k54 z55 z54
  generalize w1.drew = w2 at *
  have k55 := HS2.out.cell (i := 55) (by omega)
  have k54 := HS2.out.cell (i := 54) (by omega)
  have z55 := HS2.out.frozen 55
  have z54 := HS2.out.frozen 54
  rw [HS2.out.fx 55 (.inr (by omega)), show (({ s with X := X1 } : Sv)).X 55 = .int .i64 L1 from HX1.out.1] at k55
  rw [HS2.out.fx 54 (.inr (by omega)), show (({ s with X := X1 } : Sv)).X 54 = .int .i64 P from (HX1.out.2 54 (by omega)).trans H54.out] at k54
  by_cases hLP : L1 = P
  · have HLP := hid hLP
    go_wp2
    obtain ⟨h3, h4⟩ := Sol.setX HS2.out (by omega) (show 11 ≤ 55 by omega) (.int .i64 0)
    have HS3 := hid h3
    have HC3 := hid (HC2.out.trans h4)
    have HX3 : Hid (updX X1 55 (.int .i64 0) 55 = .int .i64 0 ∧ (∀ j, j < 55 → updX X1 55 (.int .i64 0) j = s.X j)) := hid ⟨by unfold updX; rw [if_pos rfl], fun j hj => by unfold updX; rw [if_neg (by omega)]; exact HX1.out.2 j hj⟩
    clear h3 h4 k55 z55 k54 z54 HS2 HC2
    generalize w2.setCell ⟨M, 55, none⟩ (.int .i64 0) = w3 at *
    generalize updX (({ s with X := X1 } : Sv)).X 55 (.int .i64 0) = X3 at *
    generalize updX F1 55 (.int .i64 0) = F3 at *
    have k54 := HS3.out.cell (i := 54) (by omega)
    have z54 := HS3.out.frozen 54
    rw [HS3.out.fx 54 (.inr (by omega))] at k54
    replace k54 : w3.cell? ⟨M, 54, none⟩ = some (.int .i64 P) := by rw [k54]; exact congrArg some ((HX3.out.2 54 (by omega)).trans H54.out)
    go_region
    obtain ⟨P1, hP1⟩ : ∃ x, wrap64 (P + P.tdiv 10) = x := ⟨_, rfl⟩
    rw [hP1]
    have HP1 := hid hP1
    obtain ⟨h3, h4⟩ := Sol.setX HS3.out (by omega) (show 11 ≤ 54 by omega) (.int .i64 P1)
    have hwd : Below (w3.setCell ⟨M, 54, none⟩ (.int .i64 P1)).heap.size (w3.setCell ⟨M, 54, none⟩ (.int .i64 P1)) (w3.setCell ⟨M, 54, none⟩ (.int .i64 P1)).drew := (Below.refl _ _).drew
    have HS4 := hid (h3.below hwd)
    have HC4 := hid ((HC3.out.trans h4).trans (Chg.below hwd))
    have HX4 : Hid (updX X3 54 (.int .i64 P1) 55 = .int .i64 0 ∧ updX X3 54 (.int .i64 P1) 54 = .int .i64 P1 ∧ (∀ j, j < 54 → updX X3 54 (.int .i64 P1) j = s.X j)) := hid ⟨by unfold updX; rw [if_neg (by omega)]; exact HX3.out.1, by unfold updX; rw [if_pos rfl], fun j hj => by unfold updX; rw [if_neg (by omega)]; exact HX3.out.2 j (by omega)⟩
    clear h3 h4 hwd k54 z54 HS3 HC3 hP1
    generalize (w3.setCell ⟨M, 54, none⟩ (.int .i64 P1)).drew = w4 at *
    generalize updX X3 54 (.int .i64 P1) = X4 at *
    generalize updX F3 54 (.int .i64 P1) = F4 at *
    go_wp2_with fail
    refine (solBackI.back_impl M mb F4 V { s with X := X4 } w4 HS4.out HWf.out 0 (Nat.zero_le _) HK.out HTT.out hTl hKl).mono ?_
    rintro e w5 ⟨rfl, F5, hs5, hch5, hf5⟩
    obtain ⟨sx, hsx⟩ : ∃ sx : Sv, backS ({ s with X := X4 } : Sv) 0 = sx := ⟨_, rfl⟩
    have hxx : sx = { backS s 0 with X := sx.X } ∧ sx.X = X4 := by rw [← hsx]; unfold backS; dsimp only; split <;> exact ⟨rfl, rfl⟩
    have HRf : Hid (RfS s sx L P) := hid (.inr ⟨hxx.1, by rw [HL1.out]; exact HLP.out, by rw [hxx.2]; exact HX4.out.1, by rw [hxx.2, HP1.out]; exact HX4.out.2.1, fun j hj => by rw [hxx.2]; exact HX4.out.2.2 j hj⟩)
    have HCl : Hid (sx.C.length = s.C.length) := hid (by rw [hxx.1]; unfold backS; split <;> rfl)
    have HXx : Hid (∀ j, j < 54 → sx.X j = s.X j) := hid (fun j hj => by rw [hxx.2]; exact HX4.out.2.2 j hj)
    rw [hsx] at hs5
    have HSt := hid hs5
    have HCt := hid (HC4.out.trans hch5)
    clear hsx hs5 hch5 hf5 hxx HS4 HC4
    go_wp2
    have hr2 : w5.ownsRow 0 45 2 (F5 2) sx.C.length (flatC sx.C) := HSt.out.rows 1001 (by omega)
    obtain ⟨ca, cc, hc2⟩ := own_formH hr2
    rw [hc2] at hr2
    obtain ⟨f1, f2⟩ := solBackI.row_fits hr2
    have k2 := HSt.out.cell (i := 2) (by omega)
    have k1 := HSt.out.cell (i := 1) (by omega)
    have k53 := HSt.out.cell (i := 53) (by omega)
    rw [hc2, HCl.out] at k2
    rw [HSt.out.fx 1 (.inl rfl), (HXx.out 1 (by omega)).trans H1.out] at k1
    rw [HSt.out.fx 53 (.inr (by omega)), (HXx.out 53 (by omega)).trans H53.out] at k53
    obtain ⟨cl, hcl⟩ : ∃ cl, s.C.length = cl := ⟨_, rfl⟩
    rw [HCl.out, hcl] at f1
    unfold maxLen at f2
    have hcm : cl ≤ 9223372036854775807 := by omega
    rw [hcl] at k2 hO HT HN
    clear hc2 hr2
    go_region
    have hwd : Below w5.heap.size w5 w5.drew := (Below.refl _ _).drew
    have HS9 := hid (HSt.out.below hwd)
    have HC9 := hid (HCt.out.trans (Chg.below hwd))
    clear hwd k2 k1 k53
    generalize w5.drew = w9 at *
    by_cases hr : R < (cl : Int) - O
    · have HQ := hid (HT.out F5 sx w9 HS9.out HC9.out HRf.out (by omega))
      go_wp2_with fail
      refine HQ.out.mono ?_
      rintro e w5 ⟨rfl, hq⟩
      have HQ5 := hid hq
      clear hq
      go_wp2
      exact ⟨rfl, .tuple #[], by simp [results, Tryd.results50, go_sem], rfl, HQ5.out⟩
    · have HQ := hid (HN.out F5 sx w9 HS9.out HC9.out HRf.out (by omega))
      go_wp2
      exact ⟨rfl, .tuple #[], by simp [results, Tryd.results50, go_sem], rfl, HQ.out⟩
  · have HRf : Hid (RfS s { s with X := X1 } L P) := hid (.inl ⟨rfl, by rw [HL1.out]; exact hLP, by rw [HL1.out]; exact HX1.out.1, (HX1.out.2 54 (by omega)).trans H54.out, fun j hj => HX1.out.2 j (by omega)⟩)
    go_wp2
    clear k55 k54 z55 z54
    obtain ⟨sx, hsx⟩ : ∃ sx : Sv, ({ s with X := X1 } : Sv) = sx := ⟨_, rfl⟩
    have HCl : Hid (sx.C.length = s.C.length) := hid (by rw [← hsx])
    have HXx : Hid (∀ j, j < 54 → sx.X j = s.X j) := hid (fun j hj => by rw [← hsx]; exact HX1.out.2 j (by omega))
    rw [hsx] at HS2 HRf
    have HSt := HS2
    have HCt := HC2
    clear hsx HS2 HC2
    have hr2 : w2.ownsRow 0 45 2 (F1 2) sx.C.length (flatC sx.C) := HSt.out.rows 1001 (by omega)
    obtain ⟨ca, cc, hc2⟩ := own_formH hr2
    rw [hc2] at hr2
    obtain ⟨f1, f2⟩ := solBackI.row_fits hr2
    have k2 := HSt.out.cell (i := 2) (by omega)
    have k1 := HSt.out.cell (i := 1) (by omega)
    have k53 := HSt.out.cell (i := 53) (by omega)
    rw [hc2, HCl.out] at k2
    rw [HSt.out.fx 1 (.inl rfl), (HXx.out 1 (by omega)).trans H1.out] at k1
    rw [HSt.out.fx 53 (.inr (by omega)), (HXx.out 53 (by omega)).trans H53.out] at k53
    obtain ⟨cl, hcl⟩ : ∃ cl, s.C.length = cl := ⟨_, rfl⟩
    rw [HCl.out, hcl] at f1
    unfold maxLen at f2
    have hcm : cl ≤ 9223372036854775807 := by omega
    rw [hcl] at k2 hO HT HN
    clear hc2 hr2
    go_region
    have hwd : Below w2.heap.size w2 w2.drew := (Below.refl _ _).drew
    have HS9 := hid (HSt.out.below hwd)
    have HC9 := hid (HCt.out.trans (Chg.below hwd))
    clear hwd k2 k1 k53
    generalize w2.drew = w9 at *
    by_cases hr : R < (cl : Int) - O
    · have HQ := hid (HT.out F1 sx w9 HS9.out HC9.out HRf.out (by omega))
      go_wp2_with fail
      refine HQ.out.mono ?_
      rintro e w5 ⟨rfl, hq⟩
      have HQ5 := hid hq
      clear hq
      go_wp2
      exact ⟨rfl, .tuple #[], by simp [results, Tryd.results50, go_sem], rfl, HQ5.out⟩
    · have HQ := hid (HN.out F1 sx w9 HS9.out HC9.out HRf.out (by omega))
      go_wp2
      exact ⟨rfl, .tuple #[], by simp [results, Tryd.results50, go_sem], rfl, HQ.out⟩
end Go.Proofs.YtikhnfgpopcdjaaDoor.solRefresh

/- The credit of a search over few variables: it never begins anew, for fewer lessons come than patience and room allow; of no program. -/
namespace Go.Proofs.YtikhnfgpopcdjaaDoor.cdSmall
open Go.RowKit Go.Deep Go.Shelf Go base sets setsOf solSets solOps solMath solHold solProp solTrail cdVal cdState cdLes cdLearn cdSolve cdX solSolve
set_option linter.unusedVariables false

/-- Lessons are no more than the number of what propagation makes of the state. -/
structure Small (s : Sv) (r : Nat) : Prop where
  r0 : r = 0
  room : s.X 53 = .int .i64 1000
  pat : s.X 54 = .int .i64 100
  les : ∃ L : Nat, s.X 55 = .int .i64 L ∧ L ≤ 63 ∧ L ≤ num (propF (meas s + 1) s)
  own : ∃ O : Nat, s.X 1 = .int .i64 O ∧ O ≤ s.C.length ∧ s.C.length ≤ O + 63 ∧ s.C.length ≤ O + num (propF (meas s + 1) s) ∧ O ≤ 8388608
theorem prop_again {s : Sv} (h : Full s) : propF (meas (propF (meas s + 1) s) + 1) (propF (meas s + 1) s) = propF (meas s + 1) s := by
  rcases (propF_done (meas s + 1) s h (Nat.lt_succ_self _)).2.1 with e | e
  · exact propF_end (.inl e)
  · exact propF_end (.inr e)
theorem small_keeps : Keeps Small := by
  refine ⟨fun s r hf h => ?_, fun p s' r hf hF hD h hX hC hn hf' => ?_⟩
  · obtain ⟨_, _, hx⟩ := prop_more (meas s + 1) s hf
    have hc := (propF_done (meas s + 1) s hf (Nat.lt_succ_self _)).2.2.1
    obtain ⟨L, l1, l2, l3⟩ := h.les
    obtain ⟨O, o1, o2, o3, o4, o5⟩ := h.own
    refine ⟨h.r0, by rw [hx]; exact h.room, by rw [hx]; exact h.pat, ⟨L, by rw [hx]; exact l1, l2, by rw [prop_again hf]; exact l3⟩, ⟨O, by rw [hx]; exact o1, by rw [hc]; exact o2, by rw [hc]; exact o3, by rw [prop_again hf, hc]; exact o4, o5⟩⟩
  · have hp : propF (meas p + 1) p = p := propF_end (.inr hD)
    obtain ⟨_, m2, _⟩ := prop_more (meas s' + 1) s' hf'
    obtain ⟨L, l1, l2, l3⟩ := h.les
    obtain ⟨O, o1, o2, o3, o4, o5⟩ := h.own
    rw [hp] at l3 o4
    exact ⟨h.r0, (hX 53 (.inr (by omega))).trans h.room, (hX 54 (.inr (by omega))).trans h.pat, ⟨L, (hX 55 (.inr (by omega))).trans l1, l2, by omega⟩, ⟨O, (hX 1 (.inl rfl)).trans o1, by omega, by omega, by omega, o5⟩⟩
theorem small_most (s : Sv) (r : Nat) (h : Small s r) : s.C.length ≤ 8000000000000 := by
  obtain ⟨O, o1, o2, o3, o4, o5⟩ := h.own
  omega
/-- A lesson keeps it, as what comes of it rises. -/
theorem small_next {p s1 : Sv} {r : Nat} (h : Small p r) (hp : propF (meas p + 1) p = p) (h53 : s1.X 53 = p.X 53) (h54 : s1.X 54 = p.X 54) (h1 : s1.X 1 = p.X 1) (h55 : ∀ L : Nat, p.X 55 = .int .i64 L → s1.X 55 = .int .i64 ((L + 1 : Nat) : Int)) (hC : s1.C.length = p.C.length + 1) (hn : num p < num (propF (meas s1 + 1) s1)) (hq : num (propF (meas s1 + 1) s1) < 64) : Small s1 0 := by
  obtain ⟨L, l1, l2, l3⟩ := h.les
  obtain ⟨O, o1, o2, o3, o4, o5⟩ := h.own
  rw [hp] at l3 o4
  exact ⟨rfl, h53.trans h.room, h54.trans h.pat, ⟨L + 1, h55 L l1, by omega, by omega⟩, ⟨O, h1.trans o1, by omega, by omega, by omega, o5⟩⟩
end Go.Proofs.YtikhnfgpopcdjaaDoor.cdSmall

/- A small search of the program: learn keeps its credit, for refresh neither begins anew nor thins; solve of the program, for up to six variables. -/
namespace Go.Proofs.YtikhnfgpopcdjaaDoor.solSmall
open Go.RowKit Go.Deep Go.Shelf Go base sets setsOf solSets solOps solMath solHold solMem solFail solX solProp solClose solTrail solAddM cdVal cdState cdLes cdLearn cdSolve cdX solHang solPush solNext hasAny solSolve solRefresh solLearn cdSmall
set_option linter.unusedVariables false
set_option linter.unusedSimpArgs false

theorem cd_lits {n : Nat} {Z : List LS} {G B : LS} {s : Sv} (h : Cd n Z G B s) : ∀ p ∈ s.T, p.1 ≠ 0 ∧ -40 ≤ p.1 ∧ p.1 ≤ 40 := fun p hp => by
  obtain ⟨i, hi, rfl⟩ := List.getElem_of_mem hp
  have := (tl_fresh h.stk.tr hi (Nat.zero_le _)).2.2
  unfold tl at this
  rw [List.getElem?_eq_getElem hi] at this
  exact this
theorem cd_tlen {n : Nat} {Z : List LS} {G B : LS} {s : Sv} (h : Cd n Z G B s) : s.T.length ≤ n := trail_most h.q h.stk.tr
theorem cd_klen {n : Nat} {Z : List LS} {G B : LS} {s : Sv} (h : Cd n Z G B s) : s.K.length ≤ n := by
  have h2 : ∀ i, i < s.K.length → i ≤ s.K[i]?.getD 0 := fun i => by
    induction i with
    | zero => intro _; exact Nat.zero_le _
    | succ i ih =>
      intro hi
      have h3 := ih (by omega)
      have h4 := List.pairwise_iff_getElem.1 h.q.inc i (i + 1) (by omega) hi (by omega)
      rw [List.getElem?_eq_getElem hi]
      rw [List.getElem?_eq_getElem (by omega)] at h3
      simp only [Option.getD_some] at h3 ⊢
      omega
  rcases Nat.eq_zero_or_pos s.K.length with e | e
  · omega
  · have h3 := h2 (s.K.length - 1) (by omega)
    have h4 := h.lt _ (List.getElem_mem (show s.K.length - 1 < s.K.length by omega))
    have h5 := cd_tlen h
    rw [List.getElem?_eq_getElem (by omega), Option.getD_some] at h3
    omega
theorem wg_far {X X' : Nat → Value} {g b : Int} (h : Wg X g b) (e : ∀ j, j < 54 → X' j = X j) : Wg X' g b :=
  ⟨fun v hv => by rw [e _ (by omega)]; exact h.wt v hv, by rw [e _ (by omega)]; exact h.gain⟩
theorem ask_X {G : LS} {s : Sv} {X : Nat → Value} {l : Int} (h : cdSolve.Ask G s l) : cdSolve.Ask G { s with X := X } l := h
theorem wrap_small {L : Nat} (h : L ≤ 1000) : wrap64 ((L : Int) + 1) = ((L + 1 : Nat) : Int) := by unfold wrap64; omega
theorem nat_of {L L' : Nat} (h : (.int .i64 (L : Int) : Value) = .int .i64 (L' : Int)) : L = L' := by
  injection h with _ h
  exact Int.ofNat.inj h
/-- What comes of a small search's state by a lesson and refresh. -/
theorem small_refresh {n : Nat} {Z : List LS} {G B : LS} {p s1 s2 : Sv} {r : Nat} {L : Nat} (hn6 : n ≤ 6) (h : Small p r) (hF : p.F ≠ -1) (l1 : p.X 55 = .int .i64 L) (l2 : L ≤ 63) (hcd : Cd n Z G B s1) (hnum : num p < num (propF (meas s1 + 1) s1)) (hC : s1.C.length = p.C.length + 1) (hX : ∀ j, (j < 11 ∨ 52 < j) → s1.X j = p.X j) (hR : RfS s1 s2 L 100) :
    s2 = { s1 with X := s2.X } ∧ (∀ j, j < 54 → s2.X j = s1.X j) ∧ Cd n Z G B s2 ∧ num p < num (propF (meas s2 + 1) s2) ∧ Small s2 r := by
  rcases hR with ⟨e1, e2, e3, e4, e5⟩ | ⟨e1, e2, _⟩
  · have hcd2 : Cd n Z G B s2 := by rw [e1]; exact cd_X hcd
    have hcp := cd_prop (meas s2 + 1) s2 hcd2
    have hq := num_lt hcp.q hcp.stk.tr
    have hnum2 : num p < num (propF (meas s2 + 1) s2) := by rw [e1, num_X]; exact hnum
    have h64 : num (propF (meas s2 + 1) s2) < 64 := Nat.lt_of_lt_of_le hq (by
      have := Nat.pow_le_pow_right (show 0 < 2 by omega) hn6
      simpa using this)
    have hC2 : s2.C.length = p.C.length + 1 := by rw [e1]; exact hC
    have h3 := small_next (s1 := s2) h (propF_end (.inl hF)) ((e5 53 (by omega)).trans (hX 53 (.inr (by omega)))) (e4.trans h.pat.symm) ((e5 1 (by omega)).trans (hX 1 (.inl (by omega)))) (fun L' hL' => by
      have e := nat_of (l1.symm.trans hL')
      rw [← e, e3, wrap_small (by omega)]) hC2 hnum2 h64
    refine ⟨e1, e5, hcd2, hnum2, ?_⟩
    rw [h.r0]
    exact h3
  · rw [wrap_small (by omega)] at e2
    exact absurd e2 (by omega)
set_option maxHeartbeats 1600000 in
theorem learn_small (n : Nat) (hn6 : n ≤ 6) (Z : List LS) (G B : LS) (M mb : Nat) (F1 : Nat → Value) (V1 : Int → Value) (p : Sv) (w1 : World) (g1 : Int) (r1 : Nat) (h : Srch n Z G B M mb Small F1 V1 p g1 r1 w1) (hF : p.F ≠ -1) (hK : p.K ≠ []) :
      Calls Tryd.prog 33 #[.pointer (some ⟨M, 0, none⟩)] w1 fun e w2 => e = .returned (.tuple #[]) ∧ ∃ (F2 : Nat → Value) (V2 : Int → Value) (s2 : Sv) (g2 : Int) (r2 : Nat), Srch n Z G B M mb Small F2 V2 s2 g2 r2 w2 ∧ Chg M mb (blk 0 F1 V1) (blk 0 F2 V2) w1 w2 ∧ (∀ l, cdSolve.Ask G p l → cdSolve.Ask G s2 l) ∧ (r2 < r1 ∨ (r2 = r1 ∧ num p < num (propF (meas s2 + 1) s2))) := by
  obtain ⟨L, l1, l2, _⟩ := h.cr.les
  obtain ⟨O, o1, o2, o3, _, _⟩ := h.cr.own
  refine learn_impl n Z G B M mb F1 V1 p w1 h.sol h.nil h.cd hF hK g1 h.gg h.wg (small_most p r1 h.cr) _ (fun F2 V2 s1 w2 g2 hs hv hch hcd hF1 hnum hC hg hw hX hA => ?_)
  refine refresh_impl M mb F2 V2 s1 w2 hs L 100 1000 O ((hX 55 (.inr (by decide))).trans l1) ((hX 54 (.inr (by decide))).trans h.cr.pat) ((hX 53 (.inr (by decide))).trans h.cr.room) ((hX 1 (.inl (by decide))).trans o1) ⟨Int.natCast_nonneg _, Int.ofNat_le.2 (by rw [hC]; exact Nat.le_succ_of_le o2)⟩ (by decide) hcd.full.ok.wfH (fun hk => by rw [List.getElem?_eq_getElem hk]; exact hcd.stk.le _ (List.getElem_mem hk)) (cd_lits hcd) (Nat.le_trans (cd_tlen hcd) (Nat.le_trans hn6 (by decide))) (Nat.le_trans (cd_klen hcd) (Nat.le_trans hn6 (by decide))) _ (fun F3 s2 w3 hs2 hch2 hR hlt => ?_) (fun F3 s2 w3 hs2 hch2 hR hlt => ?_)
  · exact absurd hlt (by rw [hC]; clear hR; omega)
  · obtain ⟨e1, e5, hcd2, hnum2, hsm⟩ := small_refresh hn6 h.cr hF l1 l2 hcd hnum hC hX hR
    exact ⟨F3, V2, s2, g2, r1, ⟨hs2, hv, hcd2, wg_far hw e5, hg, hsm⟩, hch.trans hch2, fun l ha => (by rw [e1]; exact ask_X (hA l ha)), .inr ⟨rfl, hnum2⟩⟩
theorem solve_small (n : Nat) (hn6 : n ≤ 6) (Z : List LS) (G B : LS) (M mb : Nat) (F : Nat → Value) (V : Int → Value) (s : Sv) (g : Int) (w : World) (h : Srch n Z G B M mb Small F V s g 0 w) (l : Int) (hl : l.natAbs ≤ n) (hK : s.K = []) :
    Calls Tryd.prog 19 #[.pointer (some ⟨M, 0, none⟩), .int .i64 l] w fun e w' => ∃ (b : Bool) (F' : Nat → Value) (V' : Int → Value) (p : Sv) (g' : Int) (r' : Nat), e = .returned (.bool b) ∧ Srch n Z G B M mb Small F' V' p g' r' w' ∧ Chg M mb (blk 0 F V) (blk 0 F' V') w w' ∧ (b = true → Mdl n Z p.H ∧ (l = 0 ∨ mem p.H l = true)) ∧ (b = false → ¬ ∃ H, Mdl n Z H ∧ Sub B H ∧ (l = 0 ∨ mem H l = true)) :=
  solve_impl n Z G B M mb Small small_keeps small_most F V s g 0 w h l hl (fun e => absurd hK e) (fun F1 V1 p w1 g1 r1 h1 h2 h3 => learn_small n hn6 Z G B M mb F1 V1 p w1 g1 r1 h1 h2 h3)
end Go.Proofs.YtikhnfgpopcdjaaDoor.solSmall

/- A clause under values of which some are chosen, of the specification (l02Clause, l02Set); conditions: lengths that fit. -/
namespace Go.Proofs.YtikhnfgpopcdjaaDoor.runS
open Go.RowKit Go.Deep base copy
set_option linter.unusedVariables false

/-- Values by the variable: 1, -1, or 0 where none is chosen; a row in block b. -/
structure ValRow (w : World) (b n : Nat) (V : Nat → Int) : Prop where
  cell : ∀ i, i < n → w.cell? ⟨b, i, none⟩ = some (.int .i64 (V i)) ∧ w.frozen? ⟨b, i, none⟩ = false
  range : ∀ i, i < n → -1 ≤ V i ∧ V i ≤ 1
def valOf (V : Nat → Int) (z : Int) : Int := if z < 0 then - V z.natAbs else V z.natAbs
/-- Whether a clause is true; else how many of its literals are open, and the last of them. -/
def clS (V : Nat → Int) : List Int → Int → Int → Bool × Int × Int
  | [], o, u => (false, o, u)
  | z :: r, o, u => if valOf V z = 1 then (true, 0, 0) else if valOf V z = 0 ∧ u ≠ z then clS V r (o + 1) z else clS V r o u
set_option maxHeartbeats 400000 in
theorem abs_spec (n : Int) (w : World) (h0 : -4611686018427387904 ≤ n) (h1 : n ≤ 4611686018427387904) :
    Calls Tryd.prog 52 #[.int .i64 n] w fun e w' => e = .returned (.int .i64 (n.natAbs : Int)) ∧ w' = w := by
  go_enter Tryd.func52, Tryd.ntmps52
  go_wp2
  all_goals
    go_ret
    exact ⟨ret_int (by omega), rfl⟩
def setV (V : Nat → Int) (z : Int) : Nat → Int := fun i => if i = z.natAbs then (if 0 < z then 1 else -1) else V i
theorem ValRow.set {w : World} {b n : Nat} {V : Nat → Int} (h : ValRow w b n V) {z : Int} : ValRow (w.setCell ⟨b, z.natAbs, none⟩ (.int .i64 (if 0 < z then 1 else -1))) b n (setV V z) := by
  refine ⟨fun i hi => ?_, fun i hi => ?_⟩
  · obtain ⟨h1, h2⟩ := h.cell i hi
    unfold setV
    by_cases e : i = z.natAbs
    · subst e
      rw [if_pos rfl]
      exact ⟨World.cell?_setCell_same _ _ _ h1, by simpa using h2⟩
    · rw [if_neg e]
      exact ⟨(World.cell?_setCell_other _ _ _ _ (by intro h; injection h with _ h _; omega)).trans h1, by simpa using h2⟩
  · have := h.range i hi
    unfold setV
    split
    · split <;> omega
    · exact this
/- What an open clause tells: its last open literal is one of its own, and no value is chosen for it. -/
theorem cl_open (V : Nat → Int) : ∀ (zs : List Int) (o u o' u' : Int), clS V zs o u = (false, o', u') → o ≤ o' ∧ ((o' = o ∧ u' = u) ∨ (u' ∈ zs ∧ valOf V u' = 0))
  | [], o, u, o', u', h => by
    unfold clS at h
    simp only [Prod.mk.injEq] at h
    omega
  | z :: r, o, u, o', u', h => by
    unfold clS at h
    split at h
    · simp at h
    · split at h
      · rename_i hv
        obtain ⟨h1, h2⟩ := cl_open V r (o + 1) z o' u' h
        refine ⟨by omega, .inr ?_⟩
        rcases h2 with ⟨_, rfl⟩ | ⟨h3, h4⟩
        · exact ⟨by simp, hv.1⟩
        · exact ⟨by simp [h3], h4⟩
      · obtain ⟨h1, h2⟩ := cl_open V r o u o' u' h
        refine ⟨h1, ?_⟩
        rcases h2 with h2 | ⟨h3, h4⟩
        · exact .inl h2
        · exact .inr ⟨by simp [h3], h4⟩
theorem val_zero {V : Nat → Int} {z : Int} (h : valOf V z = 0) : V z.natAbs = 0 := by
  unfold valOf at h
  split at h <;> omega
/- How many of the first n are not chosen: it falls where one is. -/
end Go.Proofs.YtikhnfgpopcdjaaDoor.runS
