/- SolRefresh; CdSmall; SolSmall; RunS: one text, so that the claim has fewer files. -/
import Derived.Test.YtbahjpheaaiamaaDoorPart25
import Derived.Test.YtbahjpheaaiamaaDoorPart23
import Derived.Test.YtbahjpheaaiamaaDoorPart29
import Derived.Test.YtbahjpheaaiamaaDoorSolSolve
import Derived.Test.YtbahjpheaaiamaaDoorPart1
/- A solver of the program: it begins anew when it has gone on for long (refresh); what thin does is given. -/
namespace Go.Proofs.YtbahjpheaaiamaaDoor.solRefresh
open Go.RowKit Go.Deep Go.Maps Go base sets setsOf solSets solOps solMath solHold solMem solFail solX solTrail solPush cdX solHang
set_option linter.unusedVariables false
set_option linter.unusedSimpArgs false

/-- What refresh makes of a solver's state ahead of thin: a lesson is counted, or all choices are taken back. -/
def RfS (s s1 : Sv) (L P : Int) : Prop :=
  (s1 = { s with X := s1.X } ∧ wrap64 (L + 1) ≠ P ∧ s1.X 55 = .int .i64 (wrap64 (L + 1)) ∧ s1.X 54 = .int .i64 P ∧ ∀ j, j < 54 → s1.X j = s.X j) ∨
  (s1 = { backS s 0 with X := s1.X } ∧ wrap64 (L + 1) = P ∧ s1.X 55 = .int .i64 0 ∧ s1.X 54 = .int .i64 (wrap64 (P + P.tdiv 10)) ∧ ∀ j, j < 54 → s1.X j = s.X j)
set_option maxHeartbeats 3200000 in
theorem refresh_impl (M mb : Nat) (F : Nat → Value) (V : Int → Value) (s : Sv) (w : World) (h : Sol 0 M mb F V s w) (L P R O : Int) (h55 : s.X 55 = .int .i64 L) (h54 : s.X 54 = .int .i64 P) (h53 : s.X 53 = .int .i64 R) (h1 : s.X 1 = .int .i64 O) (hO : 0 ≤ O ∧ O ≤ s.C.length) (hP : -9223372036854775808 ≤ P ∧ P < 9223372036854775808)
    (wf : Wf s.H) (hk : 0 < s.K.length → s.K[0]?.getD 0 ≤ s.T.length) (hT : ∀ p ∈ s.T, p.1 ≠ 0 ∧ -40 ≤ p.1 ∧ p.1 ≤ 40) (hTl : s.T.length ≤ 100000) (hKl : s.K.length ≤ 100000) (Q : World → Prop)
    (HTh : ∀ (F1 : Nat → Value) (s1 : Sv) (w1 : World), Sol 0 M mb F1 V s1 w1 → Chg M mb (blk 0 F V) (blk 0 F1 V) w w1 → RfS s s1 L P → R < (s.C.length : Int) - O →
      Calls Tryd.prog 70 #[.pointer (some ⟨M, 0, none⟩)] w1 fun e w2 => e = .returned (.tuple #[]) ∧ Q w2)
    (HNo : ∀ (F1 : Nat → Value) (s1 : Sv) (w1 : World), Sol 0 M mb F1 V s1 w1 → Chg M mb (blk 0 F V) (blk 0 F1 V) w w1 → RfS s s1 L P → ¬ R < (s.C.length : Int) - O → Q w1) :
    Calls Tryd.prog 63 #[.pointer (some ⟨M, 0, none⟩)] w fun e w2 => e = .returned (.tuple #[]) ∧ Q w2 := by
  have HS := hid h
  have HT := hid HTh
  have HN := hid HNo
  have hM := h.lt.1
  have k55 := h.cell (i := 55) (by omega)
  have z55 := h.frozen 55
  rw [h.fx 55 (.inr (by omega)), h55] at k55
  have H55 := hid h55
  have H54 := hid h54
  have H53 := hid h53
  have H1 := hid h1
  have HWf := hid wf
  have HK := hid hk
  have HTT := hid hT
  clear h h55 h54 h53 h1 HTh HNo wf hk hT
  go_enter Tryd.func63, Tryd.ntmps63
  go_wp2
  obtain ⟨L1, hL1⟩ : ∃ x, wrap64 (L + 1) = x := ⟨_, rfl⟩
  rw [hL1]
  obtain ⟨h3, h4⟩ := Sol.setX HS.out (by omega) (show 11 ≤ 55 by omega) (.int .i64 L1)
  have HS1 := hid h3
  have HC1 := hid h4
  have HL1 := hid hL1
  have HX1 : Hid (updX s.X 55 (.int .i64 L1) 55 = .int .i64 L1 ∧ (∀ j, j < 55 → updX s.X 55 (.int .i64 L1) j = s.X j)) := hid ⟨by unfold updX; rw [if_pos rfl], fun j hj => by unfold updX; rw [if_neg (by omega)]⟩
  clear h3 h4 k55 z55 hL1
  generalize w.setCell ⟨M, 55, none⟩ (.int .i64 L1) = w1 at *
  generalize updX s.X 55 (.int .i64 L1) = X1 at *
  generalize updX F 55 (.int .i64 L1) = F1 at *
  have k55 := HS1.out.cell (i := 55) (by omega)
  have k54 := HS1.out.cell (i := 54) (by omega)
  rw [HS1.out.fx 55 (.inr (by omega)), show (({ s with X := X1 } : Sv)).X 55 = .int .i64 L1 from HX1.out.1] at k55
  rw [HS1.out.fx 54 (.inr (by omega)), show (({ s with X := X1 } : Sv)).X 54 = .int .i64 P from (HX1.out.2 54 (by omega)).trans H54.out] at k54
  go_region
  have z55 := HS1.out.frozen 55
  have z54 := HS1.out.frozen 54
  have hwd : Below w1.heap.size w1 w1.drew := (Below.refl _ _).drew
  have HS2 := hid (HS1.out.below hwd)
  have HC2 := hid (HC1.out.trans (Chg.below hwd))
  clear HS1 HC1 hwd k55 k54 z55 z54
  generalize w1.drew = w2 at *
  have k55 := HS2.out.cell (i := 55) (by omega)
  have k54 := HS2.out.cell (i := 54) (by omega)
  have z55 := HS2.out.frozen 55
  have z54 := HS2.out.frozen 54
  rw [HS2.out.fx 55 (.inr (by omega)), show (({ s with X := X1 } : Sv)).X 55 = .int .i64 L1 from HX1.out.1] at k55
  rw [HS2.out.fx 54 (.inr (by omega)), show (({ s with X := X1 } : Sv)).X 54 = .int .i64 P from (HX1.out.2 54 (by omega)).trans H54.out] at k54
  by_cases hLP : L1 = P
  · have HLP := hid hLP
    go_wp2
    obtain ⟨h3, h4⟩ := Sol.setX HS2.out (by omega) (show 11 ≤ 55 by omega) (.int .i64 0)
    have HS3 := hid h3
    have HC3 := hid (HC2.out.trans h4)
    have HX3 : Hid (updX X1 55 (.int .i64 0) 55 = .int .i64 0 ∧ (∀ j, j < 55 → updX X1 55 (.int .i64 0) j = s.X j)) := hid ⟨by unfold updX; rw [if_pos rfl], fun j hj => by unfold updX; rw [if_neg (by omega)]; exact HX1.out.2 j hj⟩
    clear h3 h4 k55 z55 k54 z54 HS2 HC2
    generalize w2.setCell ⟨M, 55, none⟩ (.int .i64 0) = w3 at *
    generalize updX (({ s with X := X1 } : Sv)).X 55 (.int .i64 0) = X3 at *
    generalize updX F1 55 (.int .i64 0) = F3 at *
    have k54 := HS3.out.cell (i := 54) (by omega)
    have z54 := HS3.out.frozen 54
    rw [HS3.out.fx 54 (.inr (by omega))] at k54
    replace k54 : w3.cell? ⟨M, 54, none⟩ = some (.int .i64 P) := by rw [k54]; exact congrArg some ((HX3.out.2 54 (by omega)).trans H54.out)
    go_region
    obtain ⟨P1, hP1⟩ : ∃ x, wrap64 (P + P.tdiv 10) = x := ⟨_, rfl⟩
    rw [hP1]
    have HP1 := hid hP1
    obtain ⟨h3, h4⟩ := Sol.setX HS3.out (by omega) (show 11 ≤ 54 by omega) (.int .i64 P1)
    have hwd : Below (w3.setCell ⟨M, 54, none⟩ (.int .i64 P1)).heap.size (w3.setCell ⟨M, 54, none⟩ (.int .i64 P1)) (w3.setCell ⟨M, 54, none⟩ (.int .i64 P1)).drew := (Below.refl _ _).drew
    have HS4 := hid (h3.below hwd)
    have HC4 := hid ((HC3.out.trans h4).trans (Chg.below hwd))
    have HX4 : Hid (updX X3 54 (.int .i64 P1) 55 = .int .i64 0 ∧ updX X3 54 (.int .i64 P1) 54 = .int .i64 P1 ∧ (∀ j, j < 54 → updX X3 54 (.int .i64 P1) j = s.X j)) := hid ⟨by unfold updX; rw [if_neg (by omega)]; exact HX3.out.1, by unfold updX; rw [if_pos rfl], fun j hj => by unfold updX; rw [if_neg (by omega)]; exact HX3.out.2 j (by omega)⟩
    clear h3 h4 hwd k54 z54 HS3 HC3 hP1
    generalize (w3.setCell ⟨M, 54, none⟩ (.int .i64 P1)).drew = w4 at *
    generalize updX X3 54 (.int .i64 P1) = X4 at *
    generalize updX F3 54 (.int .i64 P1) = F4 at *
    go_wp2_with fail
    refine (solBackI.back_impl M mb F4 V { s with X := X4 } w4 HS4.out HWf.out 0 (Nat.zero_le _) HK.out HTT.out hTl hKl).mono ?_
    rintro e w5 ⟨rfl, F5, hs5, hch5, hf5⟩
    obtain ⟨sx, hsx⟩ : ∃ sx : Sv, backS ({ s with X := X4 } : Sv) 0 = sx := ⟨_, rfl⟩
    have hxx : sx = { backS s 0 with X := sx.X } ∧ sx.X = X4 := by rw [← hsx]; unfold backS; dsimp only; split <;> exact ⟨rfl, rfl⟩
    have HRf : Hid (RfS s sx L P) := hid (.inr ⟨hxx.1, by rw [HL1.out]; exact HLP.out, by rw [hxx.2]; exact HX4.out.1, by rw [hxx.2, HP1.out]; exact HX4.out.2.1, fun j hj => by rw [hxx.2]; exact HX4.out.2.2 j hj⟩)
    have HCl : Hid (sx.C.length = s.C.length) := hid (by rw [hxx.1]; unfold backS; split <;> rfl)
    have HXx : Hid (∀ j, j < 54 → sx.X j = s.X j) := hid (fun j hj => by rw [hxx.2]; exact HX4.out.2.2 j hj)
    rw [hsx] at hs5
    have HSt := hid hs5
    have HCt := hid (HC4.out.trans hch5)
    clear hsx hs5 hch5 hf5 hxx HS4 HC4
    go_wp2
    have hr2 : w5.ownsRow 0 51 2 (F5 2) sx.C.length (flatC sx.C) := HSt.out.rows 1001 (by omega)
    obtain ⟨ca, cc, hc2⟩ := own_formH hr2
    rw [hc2] at hr2
    obtain ⟨f1, f2⟩ := solBackI.row_fits hr2
    have k2 := HSt.out.cell (i := 2) (by omega)
    have k1 := HSt.out.cell (i := 1) (by omega)
    have k53 := HSt.out.cell (i := 53) (by omega)
    rw [hc2, HCl.out] at k2
    rw [HSt.out.fx 1 (.inl rfl), (HXx.out 1 (by omega)).trans H1.out] at k1
    rw [HSt.out.fx 53 (.inr (by omega)), (HXx.out 53 (by omega)).trans H53.out] at k53
    obtain ⟨cl, hcl⟩ : ∃ cl, s.C.length = cl := ⟨_, rfl⟩
    rw [HCl.out, hcl] at f1
    unfold maxLen at f2
    have hcm : cl ≤ 9223372036854775807 := by omega
    rw [hcl] at k2 hO HT HN
    clear hc2 hr2
    go_region
    have hwd : Below w5.heap.size w5 w5.drew := (Below.refl _ _).drew
    have HS9 := hid (HSt.out.below hwd)
    have HC9 := hid (HCt.out.trans (Chg.below hwd))
    clear hwd k2 k1 k53
    generalize w5.drew = w9 at *
    by_cases hr : R < (cl : Int) - O
    · have HQ := hid (HT.out F5 sx w9 HS9.out HC9.out HRf.out (by omega))
      go_wp2_with fail
      refine HQ.out.mono ?_
      rintro e w5 ⟨rfl, hq⟩
      have HQ5 := hid hq
      clear hq
      go_wp2
      exact ⟨rfl, .tuple #[], by simp [results, Tryd.results63, go_sem], rfl, HQ5.out⟩
    · have HQ := hid (HN.out F5 sx w9 HS9.out HC9.out HRf.out (by omega))
      go_wp2
      exact ⟨rfl, .tuple #[], by simp [results, Tryd.results63, go_sem], rfl, HQ.out⟩
  · have HRf : Hid (RfS s { s with X := X1 } L P) := hid (.inl ⟨rfl, by rw [HL1.out]; exact hLP, by rw [HL1.out]; exact HX1.out.1, (HX1.out.2 54 (by omega)).trans H54.out, fun j hj => HX1.out.2 j (by omega)⟩)
    go_wp2
    clear k55 k54 z55 z54
    obtain ⟨sx, hsx⟩ : ∃ sx : Sv, ({ s with X := X1 } : Sv) = sx := ⟨_, rfl⟩
    have HCl : Hid (sx.C.length = s.C.length) := hid (by rw [← hsx])
    have HXx : Hid (∀ j, j < 54 → sx.X j = s.X j) := hid (fun j hj => by rw [← hsx]; exact HX1.out.2 j (by omega))
    rw [hsx] at HS2 HRf
    have HSt := HS2
    have HCt := HC2
    clear hsx HS2 HC2
    have hr2 : w2.ownsRow 0 51 2 (F1 2) sx.C.length (flatC sx.C) := HSt.out.rows 1001 (by omega)
    obtain ⟨ca, cc, hc2⟩ := own_formH hr2
    rw [hc2] at hr2
    obtain ⟨f1, f2⟩ := solBackI.row_fits hr2
    have k2 := HSt.out.cell (i := 2) (by omega)
    have k1 := HSt.out.cell (i := 1) (by omega)
    have k53 := HSt.out.cell (i := 53) (by omega)
    rw [hc2, HCl.out] at k2
    rw [HSt.out.fx 1 (.inl rfl), (HXx.out 1 (by omega)).trans H1.out] at k1
    rw [HSt.out.fx 53 (.inr (by omega)), (HXx.out 53 (by omega)).trans H53.out] at k53
    obtain ⟨cl, hcl⟩ : ∃ cl, s.C.length = cl := ⟨_, rfl⟩
    rw [HCl.out, hcl] at f1
    unfold maxLen at f2
    have hcm : cl ≤ 9223372036854775807 := by omega
    rw [hcl] at k2 hO HT HN
    clear hc2 hr2
    go_region
    have hwd : Below w2.heap.size w2 w2.drew := (Below.refl _ _).drew
    have HS9 := hid (HSt.out.below hwd)
    have HC9 := hid (HCt.out.trans (Chg.below hwd))
    clear hwd k2 k1 k53
    generalize w2.drew = w9 at *
    by_cases hr : R < (cl : Int) - O
    · have HQ := hid (HT.out F1 sx w9 HS9.out HC9.out HRf.out (by omega))
      go_wp2_with fail
      refine HQ.out.mono ?_
      rintro e w5 ⟨rfl, hq⟩
      have HQ5 := hid hq
      clear hq
      go_wp2
      exact ⟨rfl, .tuple #[], by simp [results, Tryd.results63, go_sem], rfl, HQ5.out⟩
    · have HQ := hid (HN.out F1 sx w9 HS9.out HC9.out HRf.out (by omega))
      go_wp2
      exact ⟨rfl, .tuple #[], by simp [results, Tryd.results63, go_sem], rfl, HQ.out⟩
end Go.Proofs.YtbahjpheaaiamaaDoor.solRefresh

/- The credit of a search over few variables: it never begins anew, for fewer lessons come than patience and room allow; of no program. -/
namespace Go.Proofs.YtbahjpheaaiamaaDoor.cdSmall
open Go.RowKit Go.Deep Go.Shelf Go base sets setsOf solSets solOps solMath solHold solProp solTrail cdVal cdState cdLes cdLearn cdSolve cdX solSolve
set_option linter.unusedVariables false

theorem prop_again {s : Sv} (h : Full s) : propF (meas (propF (meas s + 1) s) + 1) (propF (meas s + 1) s) = propF (meas s + 1) s := by
  rcases (propF_done (meas s + 1) s h (Nat.lt_succ_self _)).2.1 with e | e
  · exact propF_end (.inl e)
  · exact propF_end (.inr e)
end Go.Proofs.YtbahjpheaaiamaaDoor.cdSmall

/- A small search of the program: learn keeps its credit, for refresh neither begins anew nor thins; solve of the program, for up to six variables. -/
namespace Go.Proofs.YtbahjpheaaiamaaDoor.solSmall
open Go.RowKit Go.Deep Go.Shelf Go base sets setsOf solSets solOps solMath solHold solMem solFail solX solProp solClose solTrail solAddM cdVal cdState cdLes cdLearn cdSolve cdX solHang solPush solNext hasAny solSolve solRefresh solLearn cdSmall
set_option linter.unusedVariables false
set_option linter.unusedSimpArgs false

theorem cd_lits {n : Nat} {Z : List LS} {G B : LS} {s : Sv} (h : Cd n Z G B s) : ∀ p ∈ s.T, p.1 ≠ 0 ∧ -40 ≤ p.1 ∧ p.1 ≤ 40 := fun p hp => by
  obtain ⟨i, hi, rfl⟩ := List.getElem_of_mem hp
  have := (tl_fresh h.stk.tr hi (Nat.zero_le _)).2.2
  unfold tl at this
  rw [List.getElem?_eq_getElem hi] at this
  exact this
theorem cd_tlen {n : Nat} {Z : List LS} {G B : LS} {s : Sv} (h : Cd n Z G B s) : s.T.length ≤ n := trail_most h.q h.stk.tr
theorem cd_klen {n : Nat} {Z : List LS} {G B : LS} {s : Sv} (h : Cd n Z G B s) : s.K.length ≤ n := by
  have h2 : ∀ i, i < s.K.length → i ≤ s.K[i]?.getD 0 := fun i => by
    induction i with
    | zero => intro _; exact Nat.zero_le _
    | succ i ih =>
      intro hi
      have h3 := ih (by omega)
      have h4 := List.pairwise_iff_getElem.1 h.q.inc i (i + 1) (by omega) hi (by omega)
      rw [List.getElem?_eq_getElem hi]
      rw [List.getElem?_eq_getElem (by omega)] at h3
      simp only [Option.getD_some] at h3 ⊢
      omega
  rcases Nat.eq_zero_or_pos s.K.length with e | e
  · omega
  · have h3 := h2 (s.K.length - 1) (by omega)
    have h4 := h.lt _ (List.getElem_mem (show s.K.length - 1 < s.K.length by omega))
    have h5 := cd_tlen h
    rw [List.getElem?_eq_getElem (by omega), Option.getD_some] at h3
    omega
theorem ask_X {G : LS} {s : Sv} {X : Nat → Value} {l : Int} (h : cdSolve.Ask G s l) : cdSolve.Ask G { s with X := X } l := h
end Go.Proofs.YtbahjpheaaiamaaDoor.solSmall

/- A clause under values of which some are chosen, of the specification (l02Clause, l02Set); conditions: lengths that fit. -/
namespace Go.Proofs.YtbahjpheaaiamaaDoor.runS
open Go.RowKit Go.Deep base copy
set_option linter.unusedVariables false

theorem results_three {fn : Func} {p u v : Tmp} (h : fn.results = #[.tmp p, .tmp u, .tmp v]) (tmps : Array Value) (P : Program) (w : World) :
    (results fn tmps).run P w = .ok (.tuple #[tmps.getD p undef, tmps.getD u undef, tmps.getD v undef]) w := by
  simp only [results, h]
  simp
/-- Values by the variable: 1, -1, or 0 where none is chosen; a row in block b. -/
structure ValRow (w : World) (b n : Nat) (V : Nat → Int) : Prop where
  cell : ∀ i, i < n → w.cell? ⟨b, i, none⟩ = some (.int .i64 (V i)) ∧ w.frozen? ⟨b, i, none⟩ = false
  range : ∀ i, i < n → -1 ≤ V i ∧ V i ≤ 1
def valOf (V : Nat → Int) (z : Int) : Int := if z < 0 then - V z.natAbs else V z.natAbs
/-- Whether a clause is true; else how many of its literals are open, and the last of them. -/
def clS (V : Nat → Int) : List Int → Int → Int → Bool × Int × Int
  | [], o, u => (false, o, u)
  | z :: r, o, u => if valOf V z = 1 then (true, 0, 0) else if valOf V z = 0 ∧ u ≠ z then clS V r (o + 1) z else clS V r o u
set_option maxHeartbeats 400000 in
theorem abs_spec (n : Int) (w : World) (h0 : -4611686018427387904 ≤ n) (h1 : n ≤ 4611686018427387904) :
    Calls Tryd.prog 51 #[.int .i64 n] w fun e w' => e = .returned (.int .i64 (n.natAbs : Int)) ∧ w' = w := by
  go_enter Tryd.func51, Tryd.ntmps51
  go_wp2
  all_goals
    go_ret
    exact ⟨ret_int (by omega), rfl⟩
theorem drop_int {l : List Int} {k : Nat} (h : k < l.length) : l.drop k = (l[k]?.getD 0) :: l.drop (k + 1) := by
  rw [List.drop_eq_getElem_cons h, List.getElem?_eq_getElem h]; rfl
set_option maxHeartbeats 1600000 in
set_option maxRecDepth 8000 in
theorem clause_spec (a : Option Addr) (len cap b n c : Nat) (zs : List Int) (V : Nat → Int) (w : World) (hr : IntRow w a len zs) (hv : ValRow w b n V) (hz : ∀ i, i < len → (zs[i]?.getD 0).natAbs < n) (hn : n ≤ 41) :
    Calls Tryd.prog 54 #[.slice a len cap, .slice (some ⟨b, 0, none⟩) n c] w fun e w' => e = .returned (.tuple #[.bool (clS V zs 0 0).1, .int .i64 (clS V zs 0 0).2.1, .int .i64 (clS V zs 0 0).2.2]) ∧ w' = w := by
  have hmost := hr.most
  unfold maxLen at hmost
  have HR := hid hr
  have HV := hid hv
  have HZ := hid hz
  obtain ⟨R, hR⟩ : ∃ R, clS V zs 0 0 = R := ⟨_, rfl⟩
  have H0 := hid hR
  rw [hR]
  clear hr hv hz hR
  go_enter Tryd.func54, Tryd.ntmps54
  go_wp2
  go_loop [9, 7, 8] (fun i o u => ∃ (k : Nat) (x y : Int), k ≤ len ∧ i = .int .i64 k ∧ o = .int .i64 x ∧ u = .int .i64 y ∧ 0 ≤ x ∧ x ≤ k ∧ clS V (zs.drop k) x y = R) (fun i _ _ => len - (intOf i).toNat)
  case atStart => exact ⟨0, 0, 0, Nat.zero_le _, rfl, rfl, rfl, by omega, by omega, by simpa using H0.out⟩
  case round =>
    obtain ⟨k, x, y, hk, rfl, rfl, rfl, hx0, hx1, hcl⟩ := hrel
    have HC := hid hcl
    clear hcl
    by_cases hlt : k < len
    · obtain ⟨g, off, rfl, hc⟩ := HR.out.cell k hlt
      have hd := drop_int (l := zs) (k := k) (by rw [HR.out.length]; exact hlt)
      have hzk := HZ.out k hlt
      rw [hd] at HC
      generalize zs[k]?.getD 0 = z at *
      obtain ⟨hvc, hvf⟩ := HV.out.cell z.natAbs hzk
      obtain ⟨r0, r1⟩ := HV.out.range z.natAbs hzk
      obtain ⟨vz, hvz⟩ : ∃ v, V z.natAbs = v := ⟨_, rfl⟩
      obtain ⟨j, hj⟩ : ∃ j, z.natAbs = j := ⟨_, rfl⟩
      have hval : valOf V z = if z < 0 then -vz else vz := by unfold valOf; rw [hvz]
      rw [hvz] at hvc r0 r1
      have HA : Hid (∀ w, Calls Tryd.prog 51 #[.int .i64 z] w fun e w' => e = .returned (.int .i64 (j : Int)) ∧ w' = w) := fun w => by
        have := abs_spec z w (by omega) (by omega)
        rw [hj] at this
        exact this
      rw [hj] at hzk hvc hvf
      have HVal := hid hval
      clear hd hval hvz
      have hjn : (j : Int) < (n : Int) := by omega
      have hq1 : z < 0 ∨ ¬ z < 0 := Decidable.em _
      have hq2 : vz = 1 ∨ vz = -1 ∨ vz = 0 := by omega
      have hcase : z = y ∨ (z ≠ y ∧ (y != z) = true) := by
        by_cases e : z = y
        · exact .inl e
        · exact .inr ⟨e, by simpa using fun h => e h.symm⟩
      rcases hcase with rfl | ⟨hyz, hyb⟩
      all_goals
        rcases hq1 with hq1 | hq1
        all_goals
          have HQ := hid hq1
          rcases hq2 with rfl | rfl | rfl
          all_goals
            have HW : Hid (clS V (z :: zs.drop (k + 1)) x _ = R) := HC.out
            first
            | (go_wp2_with (go_at_call 51; refine (HA.out _).mono ?_; rintro e w' ⟨rfl, rfl⟩)
               first
               | (refine bodyPost_ret (results_three rfl _ _ _) rfl ?_
                  have h9 := HW.out
                  have h8 := HVal.out
                  first | rw [if_pos HQ.out] at h8 | rw [if_neg (by have := HQ.out; omega)] at h8
                  unfold clS at h9
                  rw [h8] at h9
                  simp at h9
                  subst h9
                  exact ⟨rfl, rfl⟩)
               | (go_round
                  case rel =>
                    have h9 := HW.out
                    have h8 := HVal.out
                    first | rw [if_pos HQ.out] at h8 | rw [if_neg (by have := HQ.out; omega)] at h8
                    unfold clS at h9
                    rw [h8] at h9
                    first
                    | rw [if_neg (by omega), if_neg (by omega)] at h9
                    | rw [if_neg (by omega), if_pos (by constructor <;> omega)] at h9
                    first
                    | exact ⟨k + 1, x, _, by omega, by go_num, rfl, rfl, by omega, by omega, h9⟩
                    | exact ⟨k + 1, x + 1, z, by omega, by go_num, by go_num, rfl, by omega, by omega, h9⟩
                    | exact ⟨k + 1, x, z, by omega, by go_num, rfl, rfl, by omega, by omega, h9⟩
                  case measure => simp [intOf]; omega))
    · have e : k = len := by omega
      subst e
      have h9 := HC.out
      rw [List.drop_of_length_le (by rw [HR.out.length]; omega)] at h9
      unfold clS at h9
      subst h9
      clear HC
      go_wp2
      refine bodyPost_ret (results_three rfl _ _ _) rfl ?_
      exact ⟨rfl, rfl⟩
def setV (V : Nat → Int) (z : Int) : Nat → Int := fun i => if i = z.natAbs then (if 0 < z then 1 else -1) else V i
theorem ValRow.set {w : World} {b n : Nat} {V : Nat → Int} (h : ValRow w b n V) {z : Int} : ValRow (w.setCell ⟨b, z.natAbs, none⟩ (.int .i64 (if 0 < z then 1 else -1))) b n (setV V z) := by
  refine ⟨fun i hi => ?_, fun i hi => ?_⟩
  · obtain ⟨h1, h2⟩ := h.cell i hi
    unfold setV
    by_cases e : i = z.natAbs
    · subst e
      rw [if_pos rfl]
      exact ⟨World.cell?_setCell_same _ _ _ h1, by simpa using h2⟩
    · rw [if_neg e]
      exact ⟨(World.cell?_setCell_other _ _ _ _ (by intro h; injection h with _ h _; omega)).trans h1, by simpa using h2⟩
  · have := h.range i hi
    unfold setV
    split
    · split <;> omega
    · exact this
set_option maxHeartbeats 400000 in
theorem set_spec (b n c : Nat) (V : Nat → Int) (z : Int) (w : World) (hv : ValRow w b n V) (hz : z.natAbs < n) (h0 : z ≠ 0) (hn : n ≤ 41) :
    Calls Tryd.prog 52 #[.slice (some ⟨b, 0, none⟩) n c, .int .i64 z] w fun e w' => e = .returned (.tuple #[]) ∧ w' = w.setCell ⟨b, z.natAbs, none⟩ (.int .i64 (if 0 < z then 1 else -1)) := by
  obtain ⟨hc, hf⟩ := hv.cell z.natAbs hz
  clear hv
  by_cases hp : 0 < z
  · obtain ⟨j, rfl⟩ : ∃ j : Nat, z = j := ⟨z.natAbs, by omega⟩
    rw [if_pos hp]
    rw [Int.natAbs_natCast] at hc hf hz ⊢
    go_enter Tryd.func52, Tryd.ntmps52
    go_wp2
    go_end0
    exact ⟨rfl, rfl⟩
  · obtain ⟨j, rfl⟩ : ∃ j : Nat, z = -(j : Int) := ⟨z.natAbs, by omega⟩
    rw [if_neg hp]
    rw [Int.natAbs_neg, Int.natAbs_natCast] at hc hf hz ⊢
    go_enter Tryd.func52, Tryd.ntmps52
    go_wp2
    go_end0
    exact ⟨rfl, rfl⟩
/- What an open clause tells: its last open literal is one of its own, and no value is chosen for it. -/
theorem cl_open (V : Nat → Int) : ∀ (zs : List Int) (o u o' u' : Int), clS V zs o u = (false, o', u') → o ≤ o' ∧ ((o' = o ∧ u' = u) ∨ (u' ∈ zs ∧ valOf V u' = 0))
  | [], o, u, o', u', h => by
    unfold clS at h
    simp only [Prod.mk.injEq] at h
    omega
  | z :: r, o, u, o', u', h => by
    unfold clS at h
    split at h
    · simp at h
    · split at h
      · rename_i hv
        obtain ⟨h1, h2⟩ := cl_open V r (o + 1) z o' u' h
        refine ⟨by omega, .inr ?_⟩
        rcases h2 with ⟨_, rfl⟩ | ⟨h3, h4⟩
        · exact ⟨by simp, hv.1⟩
        · exact ⟨by simp [h3], h4⟩
      · obtain ⟨h1, h2⟩ := cl_open V r o u o' u' h
        refine ⟨h1, ?_⟩
        rcases h2 with h2 | ⟨h3, h4⟩
        · exact .inl h2
        · exact .inr ⟨by simp [h3], h4⟩
theorem val_zero {V : Nat → Int} {z : Int} (h : valOf V z = 0) : V z.natAbs = 0 := by
  unfold valOf at h
  split at h <;> omega
theorem cl_unit {V : Nat → Int} {zs : List Int} {u : Int} (h : clS V zs 0 0 = (false, 1, u)) : u ∈ zs ∧ V u.natAbs = 0 := by
  obtain ⟨_, h2⟩ := cl_open V zs 0 0 1 u h
  rcases h2 with ⟨h3, _⟩ | ⟨h3, h4⟩
  · omega
  · exact ⟨h3, val_zero h4⟩
/- How many of the first n are not chosen: it falls where one is. -/
def openN (V : Nat → Int) : Nat → Nat
  | 0 => 0
  | n + 1 => openN V n + if V n = 0 then 1 else 0
theorem open_le {V V' : Nat → Int} : ∀ n, (∀ i, i < n → V i ≠ 0 → V' i ≠ 0) → openN V' n ≤ openN V n
  | 0, _ => Nat.le_refl _
  | n + 1, h => by
    have ih := open_le n (fun i hi => h i (by omega))
    have := h n (by omega)
    unfold openN
    split <;> split <;> first | omega | (rename_i h1 h2; exact absurd h1 (this h2))
theorem open_set {V : Nat → Int} {z : Int} : ∀ n, z.natAbs < n → V z.natAbs = 0 → openN (setV V z) n < openN V n
  | 0, h, _ => absurd h (Nat.not_lt_zero _)
  | n + 1, h, h0 => by
    have hs : ∀ i, i ≠ z.natAbs → setV V z i = V i := fun i hi => by unfold setV; rw [if_neg hi]
    have hz : setV V z z.natAbs ≠ 0 := by unfold setV; rw [if_pos rfl]; split <;> omega
    unfold openN
    by_cases e : n = z.natAbs
    · have hle := open_le (V := V) (V' := setV V z) n (fun i hi hv => by rw [hs i (by omega)]; exact hv)
      rw [e] at hle ⊢
      rw [if_neg hz, if_pos h0]
      omega
    · have ih := open_set (V := V) (z := z) n (by omega) h0
      rw [hs n e]
      omega
end Go.Proofs.YtbahjpheaaiamaaDoor.runS
