/- SolGrow; CdLearn: one text, so that the claim has fewer files. -/
import Derived.Test.YtbahjpheaaiamaaDoorPart25
import Derived.Test.YtbahjpheaaiamaaDoorPart24
import Derived.Test.YtbahjpheaaiamaaDoorPart20
/- A solver of the program: late failures weigh more (grow); conditions: weights that fit. -/
namespace Go.Proofs.YtbahjpheaaiamaaDoor.solGrow
open Go.RowKit Go.Deep Go.Maps Go base sets setsOf solSets solOps solMath solHold solMem solFail solX
set_option linter.unusedVariables false
set_option linter.unusedSimpArgs false

set_option maxHeartbeats 3200000 in
theorem grow_impl (M mb : Nat) (F : Nat → Value) (V : Int → Value) (s : Sv) (w : World) (h : Sol 0 M mb F V s w) (g : Int) (hg : 1024 ≤ g ∧ g ≤ 1099511627776) (hw : Wg s.X g (1041 * g)) :
    Calls Tryd.prog 62 #[.pointer (some ⟨M, 0, none⟩)] w fun e w' => e = .returned (.tuple #[]) ∧ ∃ F' X' g', Sol 0 M mb F' V { s with X := X' } w' ∧ Wg X' g' (1000 * g') ∧ (1024 ≤ g' ∧ g' ≤ 1099511627776) ∧ (∀ j, (j < 11 ∨ 52 < j) → X' j = s.X j) ∧ Chg M mb (blk 0 F V) (blk 0 F' V) w w' ∧ (∀ j, j < 11 → F' j = F j) := by
  have HS := hid h
  have HW := hid hw
  have k2 := h.cell (i := 52) (by omega)
  rw [h.fx 52 (.inr (by omega))] at k2
  replace k2 : w.cell? ⟨M, 52, none⟩ = some (.int .i64 g) := by rw [k2]; exact congrArg some hw.gain
  have kz := h.frozen 52
  have hM := h.lt.1
  clear h hw
  have hd : 64 ≤ g / 16 ∧ g / 16 ≤ 68719476736 := by omega
  go_enter Tryd.func62, Tryd.ntmps62
  go_wp2
  go_region
  obtain ⟨gn, hgn⟩ : ∃ gn, g + g / 16 = gn := ⟨_, rfl⟩
  rw [hgn]
  obtain ⟨h3, h4⟩ := Sol.setX HS.out (by omega) (show 11 ≤ 52 by omega) (.int .i64 gn)
  have HS1 := hid (h3.below ((Below.refl _ _).drew))
  have HC1 := hid (h4.trans (Chg.below ((Below.refl _ _).drew)))
  clear h3 h4 k2 kz
  generalize (w.setCell ⟨M, 52, none⟩ (.int .i64 gn)).drew = w1 at *
  have k2 := HS1.out.cell (i := 52) (by omega)
  have kz := HS1.out.frozen 52
  rw [HS1.out.fx 52 (.inr (by omega))] at k2
  replace k2 : w1.cell? ⟨M, 52, none⟩ = some (.int .i64 gn) := k2
  by_cases hbig : gn ≤ 1099511627776
  · have hb' : decide (1099511627776 < gn) = false := decide_eq_false (by omega)
    go_wp2
    go_end0
    refine ⟨rfl, _, _, gn, HS1.out, ⟨fun v hv => ?_, rfl⟩, by omega, fun j hj => by unfold updX; rw [if_neg (by omega)], HC1.out, fun j hj => by unfold updX; rw [if_neg (by omega)]⟩
    obtain ⟨x, e, h1, h2⟩ := HW.out.wt v hv
    exact ⟨x, by unfold updX; rw [if_neg (by omega)]; exact e, h1, by omega⟩
  · have hb' : decide (1099511627776 < gn) = true := decide_eq_true (by omega)
    go_wp2
    obtain ⟨g', hg'⟩ : ∃ g', gn / 1073741824 = g' := ⟨_, rfl⟩
    rw [hg']
    have hgb : 1024 ≤ g' ∧ g' ≤ 1099511627776 := by omega
    have hsh : ∀ x : Int, 0 ≤ x → x ≤ 1041 * g → 0 ≤ x / 1073741824 ∧ x / 1073741824 ≤ 1000 * g' := fun x h0 h1 => by omega
    have HSh := hid hsh
    obtain ⟨h3, h4⟩ := Sol.setX HS1.out (by omega) (show 11 ≤ 52 by omega) (.int .i64 g')
    have HS2 := hid h3
    have HC2 := hid (HC1.out.trans h4)
    have HX2 : Hid (∀ v, v ≤ 40 → ∃ x : Int, updX (updX s.X 52 (.int .i64 gn)) 52 (.int .i64 g') (11 + v) = .int .i64 x ∧ 0 ≤ x ∧ x ≤ 1041 * g) := hid (fun v hv => by
      obtain ⟨x, e, h1, h2⟩ := HW.out.wt v hv
      exact ⟨x, by unfold updX; rw [if_neg (by omega), if_neg (by omega)]; exact e, h1, h2⟩)
    have HO2 : Hid (∀ j, (j < 11 ∨ 52 < j) → updX (updX s.X 52 (.int .i64 gn)) 52 (.int .i64 g') j = s.X j) := hid (fun j hj => by unfold updX; rw [if_neg (by omega), if_neg (by omega)])
    have HF2 : Hid (∀ j, j < 11 → updX (updX F 52 (.int .i64 gn)) 52 (.int .i64 g') j = F j) := hid (fun j hj => by unfold updX; rw [if_neg (by omega), if_neg (by omega)])
    clear h3 h4 k2 kz hsh HS1 HC1
    generalize w1.setCell ⟨M, 52, none⟩ (.int .i64 g') = w2 at *
    have HG2 : Hid (updX (updX s.X 52 (.int .i64 gn)) 52 (.int .i64 g') 52 = .int .i64 g') := hid (by unfold updX; rw [if_pos rfl])
    generalize updX (updX s.X 52 (.int .i64 gn)) 52 (.int .i64 g') = X2 at *
    generalize updX (updX F 52 (.int .i64 gn)) 52 (.int .i64 g') = F2 at *
    go_loopw [27] (fun i wr => ∃ (k : Nat) (F' X' : Nat → Value), k ≤ 41 ∧ i = .int .i64 k ∧ Sol 0 M mb F' V { s with X := X' } wr ∧ (∀ v, v ≤ 40 → ∃ x : Int, X' (11 + v) = .int .i64 x ∧ 0 ≤ x ∧ (v < k → x ≤ 1000 * g') ∧ (¬ v < k → x ≤ 1041 * g)) ∧ X' 52 = .int .i64 g' ∧ (∀ j, (j < 11 ∨ 52 < j) → X' j = s.X j) ∧ Chg M mb (blk 0 F V) (blk 0 F' V) w wr ∧ (∀ j, j < 11 → F' j = F j)) (fun i _ => 41 - (intOf i).toNat)
    case atStart =>
      exact ⟨0, F2, X2, Nat.zero_le _, rfl, HS2.out, fun v hv => by obtain ⟨x, e, h1, h2⟩ := HX2.out v hv; exact ⟨x, e, h1, fun h => absurd h (Nat.not_lt_zero _), fun _ => h2⟩, HG2.out, HO2.out, HC2.out, HF2.out⟩
    case round =>
      obtain ⟨k, F', X', hk, rfl, hs, hwt, h52, ho, hch, hF⟩ := hrel
      have HSr := hid hs
      have HWt := hid hwt
      have H52 := hid h52
      have HOr := hid ho
      have HCh := hid hch
      have HFr := hid hF
      clear hs hwt h52 ho hch hF
      by_cases hlt : k < 41
      · obtain ⟨x, ex, hx0, hx1, hx2⟩ := HWt.out k (by omega)
        have hx3 := hx2 (Nat.lt_irrefl _)
        obtain ⟨y0, y1⟩ := HSh.out x hx0 hx3
        have k1 := HSr.out.cell (i := 11 + k) (by omega)
        rw [HSr.out.fx (11 + k) (.inr (by omega))] at k1
        replace k1 : wr.cell? ⟨M, 11 + k, none⟩ = some (.int .i64 x) := by rw [k1]; exact congrArg some ex
        have kz := HSr.out.frozen (11 + k)
        have hkd : (k : Int) < 41 := by omega
        clear hx1 hx2
        go_wp2_with fail
        go_region
        obtain ⟨h3, h4⟩ := Sol.setX HSr.out (by omega) (show 11 ≤ 11 + k by omega) (.int .i64 (x / 1073741824))
        have HS3 := hid (h3.below ((Below.refl _ _).drew))
        have HC3 := hid ((HCh.out.trans h4).trans (Chg.below ((Below.refl _ _).drew)))
        clear h3 h4 k1 kz
        generalize (wr.setCell ⟨M, 11 + k, none⟩ (.int .i64 (x / 1073741824))).drew = w9 at *
        go_wp2
        go_roundw
        case rel =>
          refine ⟨k + 1, _, _, by omega, by go_num, HS3.out, fun v hv => ?_, by unfold updX; rw [if_neg (by omega)]; exact H52.out, fun j hj => by unfold updX; rw [if_neg (by omega)]; exact HOr.out j hj, HC3.out, fun j hj => by unfold updX; rw [if_neg (by omega)]; exact HFr.out j hj⟩
          unfold updX
          by_cases e : v = k
          · subst e
            exact ⟨_, if_pos rfl, y0, fun _ => y1, fun h => absurd (Nat.lt_succ_self _) h⟩
          · obtain ⟨z, e1, e2, e3, e4⟩ := HWt.out v hv
            exact ⟨z, by rw [if_neg (by omega)]; exact e1, e2, fun h => e3 (by omega), fun h => e4 (by omega)⟩
        case measure => simp [intOf]; omega
      · have e : k = 41 := by omega
        subst e
        go_wp2
        go_end0
        refine ⟨rfl, F', X', HSr.out, g', ⟨fun v hv => ?_, H52.out⟩, hgb, HOr.out, HCh.out, HFr.out⟩
        obtain ⟨z, e1, e2, e3, e4⟩ := HWt.out v hv
        exact ⟨z, e1, e2, e3 (by omega)⟩
end Go.Proofs.YtbahjpheaaiamaaDoor.solGrow

/- What a search learns: choices are taken back as far as the lesson allows, and it is put behind the clauses; the number of the trail rises by it; conditions: none. -/
namespace Go.Proofs.YtbahjpheaaiamaaDoor.cdLearn
open sets solSets solMath solHold solAdd solProp solClose solTrail solLastT solAddM cdVal cdState cdLes
set_option linter.unusedVariables false
set_option linter.unusedSimpArgs false

theorem mem_take_of {K : List Nat} {lv i : Nat} (h : K.Pairwise (· < ·)) (hl : lv < K.length) (hi : i ∈ K) (hlt : i < K[lv]?.getD 0) : i ∈ K.take lv := by
  rw [← List.take_append_drop lv K] at hi h
  rcases List.mem_append.1 hi with hi | hi
  · exact hi
  · exfalso
    rw [List.pairwise_append] at h
    rw [List.getElem?_eq_getElem hl] at hlt
    have hlt : i < K[lv] := hlt
    rw [List.drop_eq_getElem_cons hl] at hi h
    rcases List.mem_cons.1 hi with e | e
    · omega
    · have := (List.pairwise_cons.1 h.2.1).1 i e
      omega
theorem take_lt {K : List Nat} {lv i : Nat} (h : K.Pairwise (· < ·)) (hl : lv < K.length) (hi : i ∈ K.take lv) : i < K[lv]?.getD 0 := by
  rw [← List.take_append_drop lv K] at h
  rw [List.pairwise_append] at h
  rw [List.getElem?_eq_getElem hl]
  exact h.2.2 i hi _ (by rw [List.drop_eq_getElem_cons hl]; exact List.mem_cons_self)
theorem at_take {G : LS} {s : Sv} {k i : Nat} {H : LS} {K D : List Nat} {F : Int} (h : i ≤ k) : atK G { s with H := H, T := s.T.take k, K := K, D := D, F := F } i = atK G s i := by
  unfold atK
  dsimp only
  rw [List.take_take, Nat.min_eq_left h]
theorem back_eq {G : LS} {s : Sv} {lv : Nat} (h : Trl G s) (hl : lv < s.K.length) : backS s lv = { s with H := atK G s (s.K[lv]?.getD 0), T := s.T.take (s.K[lv]?.getD 0), K := s.K.take lv, D := [], F := -1 } := by
  unfold backS
  rw [if_neg (by omega), back_H h]
theorem cd_back {n : Nat} {Z : List LS} {G B : LS} {s : Sv} {lv : Nat} (h : Cd n Z G B s) (hl : lv < s.K.length) : Cd n Z G B (backS s lv) := by
  obtain ⟨b1, b2, b3, b4, b5, b6, b7, b8, b9⟩ := back_stk h.full.ok h.stk hl h.q.consG
  rw [back_eq h.stk.tr hl] at b1 b2 ⊢
  obtain ⟨k, hk⟩ : ∃ k, s.K[lv]?.getD 0 = k := ⟨_, rfl⟩
  have hkm : k ∈ s.K := by rw [← hk, List.getElem?_eq_getElem hl]; exact List.getElem_mem hl
  have hkT := h.lt k hkm
  have htk : ∀ i ∈ s.K.take lv, i < k := fun i hi => by rw [← hk]; exact take_lt h.q.inc hl hi
  rw [hk] at b1 b2 ⊢
  have hTl : (s.T.take k).length = k := by rw [List.length_take]; omega
  refine ⟨b1, b2, ⟨h.q.consG, h.q.nv, h.q.n40, h.q.inC, fun p hp => h.q.inT p (List.mem_of_mem_take hp), h.q.imp, h.q.own, h.q.inc.sublist (List.take_sublist _ _), fun i hi hex => ?_, fun H hH hB => ?_⟩, fun i hi => ?_⟩
  · have hi' : i < k := by rw [← hTl]; exact hi
    have hg : (s.T.take k)[i]?.getD (0, 0) = s.T[i]?.getD (0, 0) := by rw [List.getElem?_take, if_pos hi']
    obtain ⟨j, hj, hji⟩ := hex
    rcases h.q.why i (by omega) ⟨j, List.mem_of_mem_take hj, hji⟩ with h1 | ⟨r, h1, h2, h3, h4⟩
    · exact .inl (mem_take_of h.q.inc hl h1 (by rw [hk]; exact hi'))
    · refine .inr ⟨r, ?_, h2, ?_, fun y hy => ?_⟩
      · show ((s.T.take k)[i]?.getD (0, 0)).2 = r
        rw [hg]; exact h1
      · show mem (s.cl r) ((s.T.take k)[i]?.getD (0, 0)).1 = true
        rw [hg]; exact h3
      · rw [at_take (Nat.le_of_lt hi')]
        show y = ((s.T.take k)[i]?.getD (0, 0)).1 ∨ _
        rw [hg]; exact h4 y hy
  · have hlow := h.q.low H hH hB
    have e : lev0 { s with H := atK G s k, T := s.T.take k, K := s.K.take lv, D := [], F := -1 } = lev0 s := by
      unfold lev0
      dsimp only
      cases hK : s.K with
      | nil => rw [hK] at hl; exact absurd hl (Nat.not_lt_zero _)
      | cons a b =>
        cases lv with
        | zero =>
          rw [hK] at hk
          show (s.T.take k).length = a
          rw [hTl, ← hk]; rfl
        | succ m => rfl
    rw [e, at_take]
    · exact hlow
    · unfold lev0
      cases hK : s.K with
      | nil => rw [hK] at hl; exact absurd hl (Nat.not_lt_zero _)
      | cons a b =>
        show a ≤ k
        rw [hK] at hkm
        have hinc := h.q.inc
        rw [hK] at hinc
        rcases List.mem_cons.1 hkm with e2 | e2
        · omega
        · exact Nat.le_of_lt ((List.pairwise_cons.1 hinc).1 k e2)
  · show i < (s.T.take k).length
    rw [hTl]; exact htk i hi
/-- The last literal of a clause in a trail, by its place. -/
theorem last_place {T : TR} {c : LS} (h : ∃ i, i < T.length ∧ mem c (-(T[i]?.getD (0, 0)).1) = true) : ∃ i, i < T.length ∧ lastF T c = -(T[i]?.getD (0, 0)).1 ∧ mem c (-(T[i]?.getD (0, 0)).1) = true ∧ ∀ j, i < j → j < T.length → mem c (-(T[j]?.getD (0, 0)).1) = false := by
  obtain ⟨i0, hi0, hm0⟩ := h
  have gen : ∀ d k, k + d = T.length → (∀ j, k ≤ j → j < T.length → mem c (-(T[j]?.getD (0, 0)).1) = false) ∨ ∃ i, k ≤ i ∧ i < T.length ∧ mem c (-(T[i]?.getD (0, 0)).1) = true ∧ ∀ j, i < j → j < T.length → mem c (-(T[j]?.getD (0, 0)).1) = false := by
    intro d
    induction d with
    | zero => intro k hk; exact .inl fun j h1 h2 => by omega
    | succ d ih =>
      intro k hk
      rcases ih (k + 1) (by omega) with h | ⟨i, h1, h2⟩
      · cases hm : mem c (-(T[k]?.getD (0, 0)).1) with
        | false =>
          left
          intro j h1 h2
          by_cases e : j = k
          · rw [e]; exact hm
          · exact h j (by omega) h2
        | true => exact .inr ⟨k, Nat.le_refl _, by omega, hm, fun j h1 h2 => h j (by omega) h2⟩
      · exact .inr ⟨i, by omega, h2⟩
  rcases gen T.length 0 (by omega) with h | ⟨i, _, h2, h3, h4⟩
  · rw [h i0 (Nat.zero_le _) hi0] at hm0; cases hm0
  · refine ⟨i, h2, ?_, h3, h4⟩
    have := last_hit (T := T) (c := c) (k := T.length - 1 - i) (by omega) (fun j hj => h4 _ (by omega) (by omega)) (by rw [show T.length - 1 - (T.length - 1 - i) = i by omega]; exact h3)
    rw [show T.length - 1 - (T.length - 1 - i) = i by omega] at this
    exact this
/-- How far choices are taken back: the lesson's other literals are false there, one of them by the last choice that stays. -/
structure Lvl (G : LS) (s : Sv) (c : LS) (u : Int) (lv : Nat) : Prop where
  lt : lv < s.K.length
  low : ∀ y, mem c y = true → y ≠ u → mem (atK G s (s.K[lv]?.getD 0)) (-y) = true
  hang : lv = 0 ∨ ∃ i, s.K[lv - 1]?.getD 0 ≤ i ∧ i < s.K[lv]?.getD 0 ∧ mem c (-(tl s i)) = true
theorem learn_spec {n : Nat} {Z : List LS} {G B : LS} {s : Sv} {st k lv : Nat} {c : LS} (h : Cd n Z G B s) (hst : LastK s st) (hl : Les n Z G s st k c) (hv : Lvl G s c (-(tl s k)) lv) :
    Cd n Z G B (addT (backS s lv) c) ∧ (addT (backS s lv) c).F = -1 ∧ num s < num (propF (meas (addT (backS s lv) c) + 1) (addT (backS s lv) c)) := by
  have hb := cd_back h hv.lt
  obtain ⟨b1, b2, bF, bD, bC, bn, bH, bT, bK⟩ := back_stk h.full.ok h.stk hv.lt h.q.consG
  obtain ⟨s1, hs1⟩ : ∃ s1, backS s lv = s1 := ⟨_, rfl⟩
  rw [hs1] at hb b1 b2 bF bD bC bn bH bT bK ⊢
  obtain ⟨kk, hkk⟩ : ∃ kk, s.K[lv]?.getD 0 = kk := ⟨_, rfl⟩
  have hkm : kk ∈ s.K := by rw [← hkk, List.getElem?_eq_getElem hv.lt]; exact List.getElem_mem hv.lt
  have hkT := h.lt kk hkm
  have hkst := hst.2 kk hkm
  have hlow := hv.low
  have hhang := hv.hang
  rw [hkk] at bH bT hlow hhang
  have ht := h.stk.tr
  obtain ⟨u, hu⟩ : ∃ u, -(tl s k) = u := ⟨_, rfl⟩
  obtain ⟨f1, f2, f3, f4, f5⟩ := tl_fresh ht hl.lt (show kk ≤ k by have := hl.ge; omega)
  have hu0 : u ≠ 0 := by omega
  have hum := hl.u
  rw [hu] at hum hlow
  have f1' : mem s1.H (-u) = false := by rw [bH, ← hu, Int.neg_neg]; exact f1
  have f2' : mem s1.H u = false := by rw [bH, ← hu]; exact f2
  have hwf1 : Wf s1.H := b1.ok.wfH
  have hwo : Wf (onlyL u) := wf_only hu0 (by omega) (by omega)
  have hT1 : s1.T.length = kk := by rw [bT, List.length_take]; omega
  have htl : ∀ i, i < kk → tl s1 i = tl s i := fun i hi => by unfold tl; rw [bT, List.getElem?_take, if_pos hi]
  have hat : ∀ i, i ≤ kk → atK G s1 i = atK G s i := fun i hi => by unfold atK; rw [bT, List.take_take, Nat.min_eq_left hi]
  have hrest : restL c s1.H = onlyL u := ls_ext (wf_rest hl.wf _) hwo fun y => by
    rw [mem_rest hl.wf hwf1, mem_only hu0]
    by_cases e : u = y
    · subst e; rw [hum, f1']; simp
    · rw [decide_eq_false e]
      cases hy : mem c y with
      | false => rfl
      | true => rw [bH, hlow y hy (fun e2 => e e2.symm)]; rfl
  have hne : onlyL u ≠ (0, 0) := fun e => by
    have : mem (onlyL u) u = true := by rw [mem_only hu0]; simp
    rw [e, mem_zero] at this; cases this
  have hfirst : ∀ {x : LS}, Wf x → x ≠ (0, 0) → (∀ y, mem x y = true → y = u) → firstL x = u := fun hx hn hy => hy _ (first_spec hx hn).1
  have hone : oneL s1 c = u := by
    unfold oneL
    rw [hrest]
    exact hfirst hwo hne (fun y hy => by rw [mem_only hu0] at hy; exact (of_decide_eq_true hy).symm)
  have hoth : othL s1 c = 0 := by
    unfold othL
    rw [hone, hrest]
    refine (first_zero (wf_wo hwo _)).2 ((zero_iff (wf_wo hwo _)).2 fun y => ?_)
    rw [mem_wo hwo hwo]
    cases mem (onlyL u) y <;> rfl
  obtain ⟨y0, hy0⟩ : ∃ y0, lastF s1.T c = y0 := ⟨_, rfl⟩
  have hadd : addT s1 c = watS { base1 s1 c with D := insS s1.C.length s1.D } s1.C.length u y0 := by
    unfold addT
    rw [hone, if_neg hu0, if_pos hoth, hy0]
  obtain ⟨g1, g2, g3, g4, g5, g6⟩ := addT_same s1 c
  obtain ⟨_, _, _, _, _, _, w7, w8⟩ := wat_same { base1 s1 c with D := insS s1.C.length s1.D } s1.C.length u y0
  have hF2 : (addT s1 c).F = -1 := by rw [hadd, w7]; exact bF
  have hD2 : (addT s1 c).D = [s1.C.length] := by
    rw [hadd, w8]
    show insS s1.C.length s1.D = _
    rw [bD, ins_last (by simp)]; rfl
  have htin : TinH s1 := fun p hp => by
    obtain ⟨i, hi, e⟩ := List.getElem_of_mem hp
    have hall := Trl.all b2.tr
    rw [← hall, mem_at b2.tr (Nat.le_refl _)]
    exact .inr ⟨i, hi, by unfold tl; rw [List.getElem?_eq_getElem hi, Option.getD_some, e]⟩
  have hfull := add_fullT b1 hl.wf htin
  have hlen1 : s1.W.length = s1.C.length := b1.ok.len
  have hcl : ∀ j, (addT s1 c).cl j = if j = s1.C.length then c else s1.cl j := fun j => by
    unfold Sv.cl
    rw [g1]
    by_cases hj : j < s1.C.length
    · rw [List.getElem?_append_left hj, if_neg (by omega)]
    · rw [List.getElem?_append_right (by omega)]
      by_cases e : j = s1.C.length
      · rw [if_pos e, e]; simp
      · rw [if_neg e, List.getElem?_eq_none (by simp; omega), List.getElem?_eq_none (by omega)]
  have hwt : ∀ j, (addT s1 c).wt j = if j = s1.C.length then (u, y0) else s1.wt j := fun j => by
    have e : (addT s1 c).W = (s1.W ++ [(0, 0)]).set s1.C.length (u, y0) := by
      rw [hadd]; unfold watS; split <;> rfl
    unfold Sv.wt
    rw [e, ← hlen1]
    exact wt_add (s := s1) (u, y0) j
  have hat2 : ∀ i, atK G (addT s1 c) i = atK G s1 i := fun i => by unfold atK; rw [g4]
  have hclo : ∀ j, j < s1.C.length → (addT s1 c).cl j = s1.cl j := fun j hj => by rw [hcl, if_neg (by omega)]
  have hstk : Stk G (addT s1 c) := by
    refine ⟨⟨b2.tr.wf, by rw [g3, g4]; exact b2.tr.h, by rw [g4]; exact b2.tr.fresh⟩, by rw [g5]; exact b2.mono, fun q hq => by rw [g5] at hq; rw [g4]; exact b2.le q hq, fun q hq => ?_⟩
    rw [g5] at hq
    intro i hi
    rw [g1, List.length_append] at hi
    have hi : i < s1.C.length + 1 := hi
    rw [hat2, hcl, hwt]
    by_cases e : i = s1.C.length
    · rw [if_pos e, if_pos e]
      -- the new clause: two of its literals have no value at that choice
      have hqk : q ∈ s.K.take lv := by rw [← bK]; exact hq
      have hqlt : q < kk := by rw [← hkk]; exact take_lt h.q.inc hv.lt hqk
      have hlv : lv ≠ 0 := fun e0 => by rw [e0] at hqk; simp at hqk
      obtain ⟨i1, i1a, i1b, i1c⟩ := hhang.resolve_left hlv
      have hq1 : q ≤ s.K[lv - 1]?.getD 0 := by
        have hl1 : lv - 1 < s.K.length := by have := hv.lt; omega
        by_cases e1 : q ∈ s.K.take (lv - 1)
        · exact Nat.le_of_lt (take_lt h.q.inc hl1 e1)
        · have hqk' := hqk
          rw [show lv = lv - 1 + 1 by omega, List.take_succ_eq_append_getElem hl1, List.mem_append, List.mem_singleton] at hqk'
          rw [List.getElem?_eq_getElem hl1]
          exact Nat.le_of_eq (hqk'.resolve_left e1)
      obtain ⟨i2, j1, j2, j3, j4⟩ := last_place (T := s1.T) (c := c) ⟨i1, by rw [hT1]; exact i1b, by have := htl i1 i1b; unfold tl at this i1c; rw [this]; exact i1c⟩
      rw [hT1] at j1
      have j5 : i1 ≤ i2 := Classical.byContradiction fun hn => by
        have := j4 i1 (by omega) (by rw [hT1]; exact i1b)
        have e9 := htl i1 i1b
        unfold tl at e9 i1c
        rw [e9, i1c] at this; cases this
      have hy : y0 = -(tl s i2) := by rw [← hy0, j2, ← htl i2 j1]; rfl
      have hym : mem c y0 = true := by rw [← hy0, j2]; exact j3
      obtain ⟨p1, p2, p3, _, _⟩ := tl_fresh ht (show i2 < s.T.length by omega) (show q ≤ i2 by omega)
      have r1 := (tl_fresh ht hl.lt (show q ≤ k by have := hl.ge; omega)).1
      right
      rw [hat q (Nat.le_of_lt hqlt), mem_rest hl.wf (ht.wfK q), mem_rest hl.wf (ht.wfK q), hum, hym]
      refine ⟨?_, ?_, fun e9 => ?_⟩
      · rw [← hu, Int.neg_neg, r1]; rfl
      · show (true && !mem (atK G s q) (-y0)) = true
        rw [hy, Int.neg_neg, p1]; rfl
      · have e9 : u = y0 := e9
        have hk2 := tl_inj ht hl.lt (show i2 < s.T.length by omega) (by omega)
        have := hl.ge
        omega
    · rw [if_neg e, if_neg e]
      exact b2.good q hq i (by omega)
  have hq : CdQ n Z G B (addT s1 c) := by
    refine ⟨hb.q.consG, by rw [g2]; exact hb.q.nv, hb.q.n40, fun i hi => ?_, fun p hp => by rw [g4] at hp; exact hb.q.inT p hp, fun i hi => ?_, ?_, by rw [g5]; exact hb.q.inc, fun i hi hex => ?_, fun H hH hB => ?_⟩
    · rw [g1, List.length_append] at hi
      have hi : i < s1.C.length + 1 := hi
      rw [hcl]
      split
      · exact hl.inN
      · exact hb.q.inC i (by omega)
    · rw [g1, List.length_append] at hi
      have hi : i < s1.C.length + 1 := hi
      rw [hcl]
      split
      · exact hl.imp
      · exact hb.q.imp i (by omega)
    · rw [g1, List.take_append_of_le_length hb.q.len]; exact hb.q.own
    · rw [g4] at hi ⊢
      rw [g5] at hex ⊢
      rcases hb.q.why i hi hex with h1 | ⟨r, h1, h2, h3, h4⟩
      · exact .inl h1
      · exact .inr ⟨r, h1, by rw [g1, List.length_append]; exact Nat.lt_of_lt_of_le h2 (Nat.le_add_right _ _), by rw [hclo r h2]; exact h3, fun y hy => by rw [hclo r h2] at hy; rw [hat2]; exact h4 y hy⟩
    · have e : lev0 (addT s1 c) = lev0 s1 := by unfold lev0; rw [g5, g4]
      rw [e, hat2]
      exact hb.q.low H hH hB
  have hcd : Cd n Z G B (addT s1 c) := ⟨hfull, hstk, hq, fun q hq => by rw [g5] at hq; rw [g4]; exact hb.lt q hq⟩
  refine ⟨hcd, hF2, ?_⟩
  rw [propF_step hF2 hD2]
  obtain ⟨m1, m2, m3⟩ := prop_more (meas (addT s1 c)) _ (pop_full hfull hF2 hD2)
  refine Nat.lt_of_lt_of_le ?_ m2
  have hnm : ¬ meetL ((addT s1 c).cl s1.C.length) (addT s1 c).H = true := by
    rw [hcl, if_pos rfl, g3]
    intro hm
    obtain ⟨l, a1, a2⟩ := (meet_iff hl.wf).1 hm
    by_cases e : l = u
    · rw [e, f2'] at a2; cases a2
    · have := hlow l a1 e
      rw [← bH] at this
      have a3 := b1.ok.cons l a2
      rw [this] at a3; cases a3
  unfold popS
  rw [if_neg hnm]
  obtain ⟨e1, e2, e3, e4, e5⟩ := hold_same { addT s1 c with D := [] } (firstL (restL ((addT s1 c).cl s1.C.length) (addT s1 c).H)) (s1.C.length : Nat)
  unfold num
  rw [e2, e4, e5, List.length_append]
  show dig s.n.toNat s.K s.T.length < dig (addT s1 c).n.toNat (addT s1 c).K ((addT s1 c).T.length + 1)
  rw [g2, g4, g5, hT1, bn, bK]
  have hnn : s.n.toNat = n := by rw [h.q.nv]; rfl
  rw [hnn]
  refine dig_rise hkm hkT (trail_most h.q ht) (fun p hp => ⟨fun hpk => mem_take_of h.q.inc hv.lt hpk (by rw [hkk]; exact hp), fun hpk => List.mem_of_mem_take hpk⟩) (fun hk9 => ?_)
  have := take_lt h.q.inc hv.lt hk9
  omega
end Go.Proofs.YtbahjpheaaiamaaDoor.cdLearn
