/- SolGrow; SolAdd; SolAddM: one text, so that the claim has fewer files. -/
import Derived.Test.YtbahjpheaaiamaaDoorPart22
import Derived.Test.YtbahjpheaaiamaaDoorPart6
import Derived.Test.YtbahjpheaaiamaaDoorSolTrail
import Derived.Test.YtbahjpheaaiamaaDoorPart23
/- A solver of the program: late failures weigh more (grow); conditions: weights that fit. -/
namespace Go.Proofs.YtbahjpheaaiamaaDoor.solGrow
open Go.RowKit Go.Deep Go.Maps Go base sets setsOf solSets solOps solMath solHold solMem solFail solX
set_option linter.unusedVariables false
set_option linter.unusedSimpArgs false

set_option maxHeartbeats 3200000 in
theorem grow_impl (M mb : Nat) (F : Nat → Value) (V : Int → Value) (s : Sv) (w : World) (h : Sol 0 M mb F V s w) (g : Int) (hg : 1024 ≤ g ∧ g ≤ 1099511627776) (hw : Wg s.X g (1041 * g)) :
    Calls Tryd.prog 62 #[.pointer (some ⟨M, 0, none⟩)] w fun e w' => e = .returned (.tuple #[]) ∧ ∃ F' X' g', Sol 0 M mb F' V { s with X := X' } w' ∧ Wg X' g' (1000 * g') ∧ (1024 ≤ g' ∧ g' ≤ 1099511627776) ∧ (∀ j, (j < 11 ∨ 52 < j) → X' j = s.X j) ∧ Chg M mb (blk 0 F V) (blk 0 F' V) w w' ∧ (∀ j, j < 11 → F' j = F j) := by
  have HS := hid h
  have HW := hid hw
  have k2 := h.cell (i := 52) (by omega)
  rw [h.fx 52 (.inr (by omega))] at k2
  replace k2 : w.cell? ⟨M, 52, none⟩ = some (.int .i64 g) := by rw [k2]; exact congrArg some hw.gain
  have kz := h.frozen 52
  have hM := h.lt.1
  clear h hw
  have hd : 64 ≤ g / 16 ∧ g / 16 ≤ 68719476736 := by omega
  go_enter Tryd.func62, Tryd.ntmps62
  go_wp2
  go_region
  obtain ⟨gn, hgn⟩ : ∃ gn, g + g / 16 = gn := ⟨_, rfl⟩
  rw [hgn]
  obtain ⟨h3, h4⟩ := Sol.setX HS.out (by omega) (show 11 ≤ 52 by omega) (.int .i64 gn)
  have HS1 := hid (h3.below ((Below.refl _ _).drew))
  have HC1 := hid (h4.trans (Chg.below ((Below.refl _ _).drew)))
  clear h3 h4 k2 kz
  generalize (w.setCell ⟨M, 52, none⟩ (.int .i64 gn)).drew = w1 at *
  have k2 := HS1.out.cell (i := 52) (by omega)
  have kz := HS1.out.frozen 52
  rw [HS1.out.fx 52 (.inr (by omega))] at k2
  replace k2 : w1.cell? ⟨M, 52, none⟩ = some (.int .i64 gn) := k2
  by_cases hbig : gn ≤ 1099511627776
  · have hb' : decide (1099511627776 < gn) = false := decide_eq_false (by omega)
    go_wp2
    go_end0
    refine ⟨rfl, _, _, gn, HS1.out, ⟨fun v hv => ?_, rfl⟩, by omega, fun j hj => by unfold updX; rw [if_neg (by omega)], HC1.out, fun j hj => by unfold updX; rw [if_neg (by omega)]⟩
    obtain ⟨x, e, h1, h2⟩ := HW.out.wt v hv
    exact ⟨x, by unfold updX; rw [if_neg (by omega)]; exact e, h1, by omega⟩
  · have hb' : decide (1099511627776 < gn) = true := decide_eq_true (by omega)
    go_wp2
    obtain ⟨g', hg'⟩ : ∃ g', gn / 1073741824 = g' := ⟨_, rfl⟩
    rw [hg']
    have hgb : 1024 ≤ g' ∧ g' ≤ 1099511627776 := by omega
    have hsh : ∀ x : Int, 0 ≤ x → x ≤ 1041 * g → 0 ≤ x / 1073741824 ∧ x / 1073741824 ≤ 1000 * g' := fun x h0 h1 => by omega
    have HSh := hid hsh
    obtain ⟨h3, h4⟩ := Sol.setX HS1.out (by omega) (show 11 ≤ 52 by omega) (.int .i64 g')
    have HS2 := hid h3
    have HC2 := hid (HC1.out.trans h4)
    have HX2 : Hid (∀ v, v ≤ 40 → ∃ x : Int, updX (updX s.X 52 (.int .i64 gn)) 52 (.int .i64 g') (11 + v) = .int .i64 x ∧ 0 ≤ x ∧ x ≤ 1041 * g) := hid (fun v hv => by
      obtain ⟨x, e, h1, h2⟩ := HW.out.wt v hv
      exact ⟨x, by unfold updX; rw [if_neg (by omega), if_neg (by omega)]; exact e, h1, h2⟩)
    have HO2 : Hid (∀ j, (j < 11 ∨ 52 < j) → updX (updX s.X 52 (.int .i64 gn)) 52 (.int .i64 g') j = s.X j) := hid (fun j hj => by unfold updX; rw [if_neg (by omega), if_neg (by omega)])
    have HF2 : Hid (∀ j, j < 11 → updX (updX F 52 (.int .i64 gn)) 52 (.int .i64 g') j = F j) := hid (fun j hj => by unfold updX; rw [if_neg (by omega), if_neg (by omega)])
    clear h3 h4 k2 kz hsh HS1 HC1
    generalize w1.setCell ⟨M, 52, none⟩ (.int .i64 g') = w2 at *
    have HG2 : Hid (updX (updX s.X 52 (.int .i64 gn)) 52 (.int .i64 g') 52 = .int .i64 g') := hid (by unfold updX; rw [if_pos rfl])
    generalize updX (updX s.X 52 (.int .i64 gn)) 52 (.int .i64 g') = X2 at *
    generalize updX (updX F 52 (.int .i64 gn)) 52 (.int .i64 g') = F2 at *
    go_loopw [27] (fun i wr => ∃ (k : Nat) (F' X' : Nat → Value), k ≤ 41 ∧ i = .int .i64 k ∧ Sol 0 M mb F' V { s with X := X' } wr ∧ (∀ v, v ≤ 40 → ∃ x : Int, X' (11 + v) = .int .i64 x ∧ 0 ≤ x ∧ (v < k → x ≤ 1000 * g') ∧ (¬ v < k → x ≤ 1041 * g)) ∧ X' 52 = .int .i64 g' ∧ (∀ j, (j < 11 ∨ 52 < j) → X' j = s.X j) ∧ Chg M mb (blk 0 F V) (blk 0 F' V) w wr ∧ (∀ j, j < 11 → F' j = F j)) (fun i _ => 41 - (intOf i).toNat)
    case atStart =>
      exact ⟨0, F2, X2, Nat.zero_le _, rfl, HS2.out, fun v hv => by obtain ⟨x, e, h1, h2⟩ := HX2.out v hv; exact ⟨x, e, h1, fun h => absurd h (Nat.not_lt_zero _), fun _ => h2⟩, HG2.out, HO2.out, HC2.out, HF2.out⟩
    case round =>
      obtain ⟨k, F', X', hk, rfl, hs, hwt, h52, ho, hch, hF⟩ := hrel
      have HSr := hid hs
      have HWt := hid hwt
      have H52 := hid h52
      have HOr := hid ho
      have HCh := hid hch
      have HFr := hid hF
      clear hs hwt h52 ho hch hF
      by_cases hlt : k < 41
      · obtain ⟨x, ex, hx0, hx1, hx2⟩ := HWt.out k (by omega)
        have hx3 := hx2 (Nat.lt_irrefl _)
        obtain ⟨y0, y1⟩ := HSh.out x hx0 hx3
        have k1 := HSr.out.cell (i := 11 + k) (by omega)
        rw [HSr.out.fx (11 + k) (.inr (by omega))] at k1
        replace k1 : wr.cell? ⟨M, 11 + k, none⟩ = some (.int .i64 x) := by rw [k1]; exact congrArg some ex
        have kz := HSr.out.frozen (11 + k)
        have hkd : (k : Int) < 41 := by omega
        clear hx1 hx2
        go_wp2_with fail
        go_region
        obtain ⟨h3, h4⟩ := Sol.setX HSr.out (by omega) (show 11 ≤ 11 + k by omega) (.int .i64 (x / 1073741824))
        have HS3 := hid (h3.below ((Below.refl _ _).drew))
        have HC3 := hid ((HCh.out.trans h4).trans (Chg.below ((Below.refl _ _).drew)))
        clear h3 h4 k1 kz
        generalize (wr.setCell ⟨M, 11 + k, none⟩ (.int .i64 (x / 1073741824))).drew = w9 at *
        go_wp2
        go_roundw
        case rel =>
          refine ⟨k + 1, _, _, by omega, by go_num, HS3.out, fun v hv => ?_, by unfold updX; rw [if_neg (by omega)]; exact H52.out, fun j hj => by unfold updX; rw [if_neg (by omega)]; exact HOr.out j hj, HC3.out, fun j hj => by unfold updX; rw [if_neg (by omega)]; exact HFr.out j hj⟩
          unfold updX
          by_cases e : v = k
          · subst e
            exact ⟨_, if_pos rfl, y0, fun _ => y1, fun h => absurd (Nat.lt_succ_self _) h⟩
          · obtain ⟨z, e1, e2, e3, e4⟩ := HWt.out v hv
            exact ⟨z, by rw [if_neg (by omega)]; exact e1, e2, fun h => e3 (by omega), fun h => e4 (by omega)⟩
        case measure => simp [intOf]; omega
      · have e : k = 41 := by omega
        subst e
        go_wp2
        go_end0
        refine ⟨rfl, F', X', HSr.out, g', ⟨fun v hv => ?_, H52.out⟩, hgb, HOr.out, HCh.out, HFr.out⟩
        obtain ⟨z, e1, e2, e3, e4⟩ := HWt.out v hv
        exact ⟨z, e1, e2, e3 (by omega)⟩
end Go.Proofs.YtbahjpheaaiamaaDoor.solGrow

/- A solver's state: a clause is put behind the others, while nothing has become true yet; what is kept by that; conditions: none. -/
namespace Go.Proofs.YtbahjpheaaiamaaDoor.solAdd
open sets solSets solMath solHold
set_option linter.unusedVariables false
set_option linter.unusedSimpArgs false

def base1 (s : Sv) (c : LS) : Sv := { s with C := s.C ++ [c], W := s.W ++ [(0, 0)] }
def oneL (s : Sv) (c : LS) : Int := firstL (restL c s.H)
def othL (s : Sv) (c : LS) : Int := firstL (woL (restL c s.H) (onlyL (oneL s c)))
/-- What watch leaves. -/
def watS (s : Sv) (i : Nat) (x y : Int) : Sv := if y = 0 then { s with W := s.W.set i (x, y), L := upd s.L x (s.L x ++ [i]) } else { s with W := s.W.set i (x, y), L := upd (upd s.L x (s.L x ++ [i])) y ((upd s.L x (s.L x ++ [i])) y ++ [i]) }
def addS (s : Sv) (c : LS) : Sv :=
  if oneL s c = 0 then { base1 s c with F := failF s.F s.C.length }
  else if othL s c = 0 then watS { base1 s c with D := insS s.C.length s.D } s.C.length (oneL s c) 0
  else watS (base1 s c) s.C.length (oneL s c) (othL s c)
theorem cl_add {s : Sv} {c : LS} {D : List Nat} {W : List (Int × Int)} {L : Int → List Nat} {F : Int} (j : Nat) : Sv.cl { s with C := s.C ++ [c], W := W, L := L, D := D, F := F } j = if j = s.C.length then c else s.cl j := by
  unfold Sv.cl
  dsimp only
  by_cases h : j < s.C.length
  · rw [List.getElem?_append_left h, if_neg (by omega)]
  · rw [List.getElem?_append_right (by omega)]
    by_cases e : j = s.C.length
    · rw [if_pos e, e]; simp
    · rw [if_neg e, List.getElem?_eq_none (by simp; omega), List.getElem?_eq_none (by omega)]
theorem wt_add {s : Sv} (p : Int × Int) (j : Nat) : ((s.W ++ [(0, 0)]).set s.W.length p)[j]?.getD (0, 0) = if j = s.W.length then p else s.wt j := by
  unfold Sv.wt
  rw [List.getElem?_set]
  by_cases e : s.W.length = j
  · rw [if_pos e, if_pos e.symm, if_pos (by simp)]; rfl
  · rw [if_neg e, if_neg (fun h => e h.symm)]
    by_cases h : j < s.W.length
    · rw [List.getElem?_append_left h]
    · rw [List.getElem?_append_right (by omega), List.getElem?_eq_none (by simp; omega), List.getElem?_eq_none (by omega)]
theorem wt_new {s : Sv} (j : Nat) : (s.W ++ [(0, 0)])[j]?.getD (0, 0) = s.wt j := by
  unfold Sv.wt
  by_cases h : j < s.W.length
  · rw [List.getElem?_append_left h]
  · rw [List.getElem?_append_right (by omega), List.getElem?_eq_none (i := j) (l := s.W) (by omega)]
    by_cases e : j = s.W.length
    · subst e; simp
    · rw [List.getElem?_eq_none (by simp; omega)]
theorem wt_last {s : Sv} (h : Okay s) : s.wt s.C.length = (0, 0) := by
  unfold Sv.wt
  rw [List.getElem?_eq_none (by rw [h.len]; exact Nat.le_refl _)]; rfl
theorem ins_last {D : List Nat} {n : Nat} (h : ∀ x ∈ D, x < n) : insS n D = D ++ [n] := by
  unfold insS
  have : D.countP (· < n) = D.length := by rw [List.countP_eq_length]; intro a ha; simpa using h a ha
  rw [this, List.take_length, List.drop_length]
/-- The common part: a clause with two watched literals (x, y), y 0 where there is one alone. -/
theorem add_okay {s : Sv} (h : Full s) {c : LS} (hc : Wf c) {x y : Int} (hx : x ≠ 0) (hmx : mem c x = true) (hy : y ≠ 0 → mem c y = true ∧ x ≠ y) {D : List Nat} (hD1 : D.Pairwise (· < ·)) (hD2 : ∀ j ∈ D, j < s.C.length + 1) (hD3 : ∀ j ∈ D, j = s.C.length ∨ j ∈ s.D) (hD4 : s.C.length ∈ D → Few c s.H) (hD5 : ∀ j ∈ s.D, j ∈ D)
    (L : Int → List Nat) (hL : ∀ q j, q ≠ 0 → (j ∈ L q ↔ (j ∈ s.L q ∨ j = s.C.length ∧ (x = q ∨ y = q)))) (hLn : ∀ q, q ≠ 0 → (L q).Nodup)
    (hst : (restL c s.H = onlyL x ∧ s.C.length ∈ D) ∨ (mem (restL c s.H) x = true ∧ mem (restL c s.H) y = true ∧ x ≠ y)) :
    Full { s with C := s.C ++ [c], W := (s.W ++ [(0, 0)]).set s.C.length (x, y), L := L, D := D, F := s.F } := by
  have hlen := h.ok.len
  have hcl : ∀ j, Sv.cl { s with C := s.C ++ [c], W := (s.W ++ [(0, 0)]).set s.C.length (x, y), L := L, D := D, F := s.F } j = if j = s.C.length then c else s.cl j := fun j => cl_add j
  have hwt : ∀ j, Sv.wt { s with C := s.C ++ [c], W := (s.W ++ [(0, 0)]).set s.C.length (x, y), L := L, D := D, F := s.F } j = if j = s.C.length then (x, y) else s.wt j := fun j => by
    show ((s.W ++ [(0, 0)]).set s.C.length (x, y))[j]?.getD (0, 0) = _
    rw [← hlen, wt_add]
  refine ⟨⟨h.ok.wfH, h.ok.cons, fun j => ?_, ?_, fun j => ?_, fun j => ?_, hLn, fun q j hq => ?_, hD1, fun j hj => ?_, fun j hj => ?_, ?_⟩, fun j hj => ?_⟩
  · rw [hcl]; split
    · exact hc
    · exact h.ok.wfC j
  · show ((s.W ++ [(0, 0)]).set s.C.length (x, y)).length = (s.C ++ [c]).length
    simp [hlen]
  · rw [hcl, hwt]
    by_cases e : j = s.C.length
    · rw [if_pos e, if_pos e]; exact fun _ => hmx
    · rw [if_neg e, if_neg e]; exact h.ok.w1 j
  · rw [hcl, hwt]
    by_cases e : j = s.C.length
    · rw [if_pos e, if_pos e]; exact hy
    · rw [if_neg e, if_neg e]; exact h.ok.w2 j
  · rw [hwt]
    show j ∈ L q ↔ _
    rw [hL q j hq, h.ok.lists q j hq]
    by_cases e : j = s.C.length
    · rw [if_pos e, e, wt_last h.ok]
      constructor
      · rintro ((e | e) | ⟨_, e⟩)
        · exact absurd e.symm hq
        · exact absurd e.symm hq
        · exact e
      · exact fun e => .inr ⟨rfl, e⟩
    · rw [if_neg e]
      constructor
      · rintro (e' | ⟨e', _⟩)
        · exact e'
        · exact absurd e' e
      · exact fun e' => .inl e'
  · show j < (s.C ++ [c]).length
    simp; exact hD2 j hj
  · rw [hcl]
    by_cases e : j = s.C.length
    · rw [if_pos e]; exact hD4 (by rw [← e]; exact hj)
    · rw [if_neg e]
      rcases hD3 j hj with e' | e'
      · exact absurd e' e
      · exact h.ok.dfew j e'
  · rcases h.ok.fin with e | ⟨f, hf, e, hr⟩
    · exact .inl e
    · refine .inr ⟨f, by show f < (s.C ++ [c]).length; simp; omega, e, ?_⟩
      rw [hcl, if_neg (by omega)]; exact hr
  · have hj : j < (s.C ++ [c]).length := hj
    simp at hj
    unfold StH
    rw [hcl, hwt]
    by_cases e : j = s.C.length
    · rw [if_pos e, if_pos e]
      rcases hst with ⟨h1, h2⟩ | h1
      · exact .inr (.inr (.inl ⟨x, h1, hx, .inl rfl, by rw [e]; exact h2⟩))
      · exact .inr (.inr (.inr h1))
    · rw [if_neg e, if_neg e]
      rcases h.st j (by omega) with q | q | ⟨z, q1, q2, q3, q4⟩ | q
      · exact .inl q
      · exact .inr (.inl q)
      · exact .inr (.inr (.inl ⟨z, q1, q2, q3, hD5 j q4⟩))
      · exact .inr (.inr (.inr q))
theorem not_in {s : Sv} (h : Okay s) {q : Int} (hq : q ≠ 0) : s.C.length ∉ s.L q := fun hi => Nat.lt_irrefl _ (h.lt hq hi)
theorem add_full {s : Sv} {c : LS} (h : Full s) (hc : Wf c) : Full (addS s c) := by
  have hwr := wf_rest hc s.H
  unfold addS
  by_cases h0 : oneL s c = 0
  · rw [if_pos h0]
    have hr : restL c s.H = (0, 0) := (first_zero hwr).1 h0
    have hlen := h.ok.len
    have hcl : ∀ j, Sv.cl { base1 s c with F := failF s.F s.C.length } j = if j = s.C.length then c else s.cl j := fun j => cl_add j
    have hwt : ∀ j, Sv.wt { base1 s c with F := failF s.F s.C.length } j = s.wt j := fun j => wt_new j
    refine ⟨⟨h.ok.wfH, h.ok.cons, fun j => ?_, ?_, fun j => ?_, fun j => ?_, h.ok.nodup, fun q j hq => ?_, h.ok.dsort, fun j hj => ?_, fun j hj => ?_, ?_⟩, fun j hj => ?_⟩
    · rw [hcl]; split
      · exact hc
      · exact h.ok.wfC j
    · show (s.W ++ [(0, 0)]).length = (s.C ++ [c]).length
      simp [hlen]
    · rw [hcl, hwt]
      by_cases e : j = s.C.length
      · rw [e, wt_last h.ok]; exact fun hx => absurd rfl hx
      · rw [if_neg e]; exact h.ok.w1 j
    · rw [hcl, hwt]
      by_cases e : j = s.C.length
      · rw [e, wt_last h.ok]; exact fun hx => absurd rfl hx
      · rw [if_neg e]; exact h.ok.w2 j
    · rw [hwt]; exact h.ok.lists q j hq
    · have := h.ok.dlt j hj
      show j < (s.C ++ [c]).length
      simp; omega
    · rw [hcl, if_neg (by have := h.ok.dlt j hj; omega)]; exact h.ok.dfew j hj
    · show failF s.F s.C.length = -1 ∨ _
      by_cases e : s.F = -1 ∨ ((s.C.length : Nat) : Int) < s.F
      · refine .inr ⟨s.C.length, by show s.C.length < (s.C ++ [c]).length; simp, by show failF s.F s.C.length = _; unfold failF; rw [if_pos e], ?_⟩
        rw [hcl, if_pos rfl]; exact hr
      · have e2 : failF s.F s.C.length = s.F := by unfold failF; rw [if_neg e]
        rcases h.ok.fin with e | ⟨f, hf, e, hr⟩
        · exact .inl (e2.trans e)
        · refine .inr ⟨f, by show f < (s.C ++ [c]).length; simp; omega, by show failF s.F s.C.length = _; rw [e2]; exact e, ?_⟩
          rw [hcl, if_neg (by omega)]; exact hr
    · have hj : j < (s.C ++ [c]).length := hj
      simp at hj
      by_cases e : j = s.C.length
      · refine .inr (.inl ?_)
        rw [hcl, if_pos e]
        exact ⟨hr, by rw [e]; exact fail_ne _ _⟩
      · have hq := h.st j (by omega)
        unfold StH at hq ⊢
        rw [hcl, hwt, if_neg e]
        rcases hq with q | ⟨q1, q2⟩ | q | q
        · exact .inl q
        · exact .inr (.inl ⟨q1, fail_keep q2⟩)
        · exact .inr (.inr (.inl q))
        · exact .inr (.inr (.inr q))
  · rw [if_neg h0]
    have hne : restL c s.H ≠ (0, 0) := fun e => h0 ((first_zero hwr).2 e)
    obtain ⟨f1, f2, _⟩ := first_spec hwr hne
    have f1 : mem (restL c s.H) (oneL s c) = true := f1
    have f2 : oneL s c ≠ 0 := f2
    obtain ⟨_, lo, hi⟩ := hwr.range f1
    have hwo := wf_only f2 lo hi
    have hm1 : mem c (oneL s c) = true := by rw [mem_rest hc h.ok.wfH, Bool.and_eq_true] at f1; exact f1.1
    by_cases h1 : othL s c = 0
    · rw [if_pos h1]
      have hr : restL c s.H = onlyL (oneL s c) := ls_ext hwr hwo fun y => by
        have := (zero_iff (wf_wo hwr _)).1 ((first_zero (wf_wo hwr _)).1 h1) y
        rw [mem_wo hwr hwo, mem_only f2] at this
        rw [mem_only f2]
        by_cases hy : oneL s c = y
        · rw [← hy, f1]; simp
        · simp [hy] at this
          simp [hy, this]
      unfold watS
      rw [if_pos rfl]
      refine add_okay h hc f2 hm1 (fun e => absurd rfl e) (ins_sorted h.ok.dsort (fun hd => Nat.lt_irrefl _ (h.ok.dlt _ hd))) (fun j hj => ?_) (fun j hj => mem_ins.1 hj) (fun _ => .inr ⟨oneL s c, fun y hy => ?_⟩) (fun j hj => mem_ins.2 (.inr hj)) _ (fun q j hq => ?_) (fun q hq => ?_) (.inl ⟨hr, mem_ins.2 (.inl rfl)⟩)
      · rcases mem_ins.1 hj with e | e
        · omega
        · have := h.ok.dlt j e; omega
      · rw [hr, mem_only f2, decide_eq_true_eq] at hy; exact hy.symm
      · show j ∈ upd s.L (oneL s c) (s.L (oneL s c) ++ [s.C.length]) q ↔ _
        unfold upd
        by_cases e : q = oneL s c
        · rw [if_pos e, e]; simp
        · rw [if_neg e]
          constructor
          · exact .inl
          · rintro (e' | ⟨_, e' | e'⟩)
            · exact e'
            · exact absurd e'.symm e
            · exact absurd e'.symm hq
      · show (upd s.L (oneL s c) (s.L (oneL s c) ++ [s.C.length]) q).Nodup
        unfold upd
        by_cases e : q = oneL s c
        · rw [if_pos e, List.nodup_append]
          exact ⟨h.ok.nodup _ f2, by simp, fun a ha b hb => by simp at hb; subst hb; rintro rfl; exact not_in h.ok f2 ha⟩
        · rw [if_neg e]; exact h.ok.nodup q hq
    · rw [if_neg h1]
      obtain ⟨g1, g2, _⟩ := first_spec (wf_wo hwr (onlyL (oneL s c))) (fun e => h1 ((first_zero (wf_wo hwr _)).2 e))
      have g1 : mem (woL (restL c s.H) (onlyL (oneL s c))) (othL s c) = true := g1
      rw [mem_wo hwr hwo, mem_only f2, Bool.and_eq_true] at g1
      have hne2 : oneL s c ≠ othL s c := by have := g1.2; simpa using this
      have hm2 : mem c (othL s c) = true := by have := g1.1; rw [mem_rest hc h.ok.wfH, Bool.and_eq_true] at this; exact this.1
      have hup : upd s.L (oneL s c) (s.L (oneL s c) ++ [s.C.length]) (othL s c) = s.L (othL s c) := by unfold upd; rw [if_neg (fun e => hne2 e.symm)]
      unfold watS
      rw [if_neg h1]
      refine add_okay h hc f2 hm1 (fun _ => ⟨hm2, hne2⟩) h.ok.dsort (fun j hj => by have := h.ok.dlt j hj; omega) (fun j hj => .inr hj) (fun hd => absurd (h.ok.dlt _ hd) (Nat.lt_irrefl _)) (fun j hj => hj) _ (fun q j hq => ?_) (fun q hq => ?_) (.inr ⟨f1, g1.1, hne2⟩)
      · show j ∈ upd (upd s.L (oneL s c) (s.L (oneL s c) ++ [s.C.length])) (othL s c) (upd s.L (oneL s c) (s.L (oneL s c) ++ [s.C.length]) (othL s c) ++ [s.C.length]) q ↔ _
        rw [hup]
        unfold upd
        by_cases e2 : q = othL s c
        · rw [if_pos e2, e2]
          simp [hne2]
        · rw [if_neg e2]
          by_cases e : q = oneL s c
          · rw [if_pos e, e]; simp
          · rw [if_neg e]
            constructor
            · exact .inl
            · rintro (e' | ⟨_, e' | e'⟩)
              · exact e'
              · exact absurd e'.symm e
              · exact absurd e'.symm e2
      · show (upd (upd s.L (oneL s c) (s.L (oneL s c) ++ [s.C.length])) (othL s c) (upd s.L (oneL s c) (s.L (oneL s c) ++ [s.C.length]) (othL s c) ++ [s.C.length]) q).Nodup
        rw [hup]
        unfold upd
        by_cases e2 : q = othL s c
        · rw [if_pos e2, List.nodup_append]
          exact ⟨h.ok.nodup _ h1, by simp, fun a ha b hb => by simp at hb; subst hb; rintro rfl; exact not_in h.ok h1 ha⟩
        · rw [if_neg e2]
          by_cases e : q = oneL s c
          · rw [if_pos e, List.nodup_append]
            exact ⟨h.ok.nodup _ f2, by simp, fun a ha b hb => by simp at hb; subst hb; rintro rfl; exact not_in h.ok f2 ha⟩
          · rw [if_neg e]; exact h.ok.nodup q hq
end Go.Proofs.YtbahjpheaaiamaaDoor.solAdd

/- A solver's state: a clause is put behind the others, whatever has become true; what is kept by that; conditions: none. -/
namespace Go.Proofs.YtbahjpheaaiamaaDoor.solAddM
open sets solSets solMath solHold solAdd solProp solClose solTrail solLastT
set_option linter.unusedVariables false
set_option linter.unusedSimpArgs false

def addT (s : Sv) (c : LS) : Sv :=
  if oneL s c = 0 then { base1 s c with F := failF s.F s.C.length }
  else if othL s c = 0 then watS { base1 s c with D := insS s.C.length s.D } s.C.length (oneL s c) (lastF s.T c)
  else watS (base1 s c) s.C.length (oneL s c) (othL s c)
theorem addT_eq {s : Sv} {c : LS} (h : oneL s c = 0 ∨ othL s c ≠ 0 ∨ lastF s.T c = 0) : addT s c = addS s c := by
  unfold addT addS
  by_cases h0 : oneL s c = 0
  · rw [if_pos h0, if_pos h0]
  · rw [if_neg h0, if_neg h0]
    by_cases h1 : othL s c = 0
    · rw [if_pos h1, if_pos h1, (h.resolve_left h0).resolve_left (fun e => e h1)]
    · rw [if_neg h1, if_neg h1]
theorem addT_nil {s : Sv} {c : LS} (h : s.T = []) : addT s c = addS s c := addT_eq (.inr (.inr (by rw [h]; rfl)))
theorem wat_same (s : Sv) (i : Nat) (x y : Int) : (watS s i x y).C = s.C ∧ (watS s i x y).n = s.n ∧ (watS s i x y).H = s.H ∧ (watS s i x y).T = s.T ∧ (watS s i x y).K = s.K ∧ (watS s i x y).X = s.X ∧ (watS s i x y).F = s.F ∧ (watS s i x y).D = s.D := by
  unfold watS
  split <;> exact ⟨rfl, rfl, rfl, rfl, rfl, rfl, rfl, rfl⟩
theorem addT_same (s : Sv) (c : LS) : (addT s c).C = s.C ++ [c] ∧ (addT s c).n = s.n ∧ (addT s c).H = s.H ∧ (addT s c).T = s.T ∧ (addT s c).K = s.K ∧ (addT s c).X = s.X := by
  unfold addT
  split
  · exact ⟨rfl, rfl, rfl, rfl, rfl, rfl⟩
  · split
    · obtain ⟨h1, h2, h3, h4, h5, h6, _⟩ := wat_same { base1 s c with D := insS s.C.length s.D } s.C.length (oneL s c) (lastF s.T c)
      exact ⟨h1, h2, h3, h4, h5, h6⟩
    · obtain ⟨h1, h2, h3, h4, h5, h6, _⟩ := wat_same (base1 s c) s.C.length (oneL s c) (othL s c)
      exact ⟨h1, h2, h3, h4, h5, h6⟩
/-- The one literal that is not false, and another one that became false last. -/
theorem unit_rest {s : Sv} {c : LS} (h : Okay s) (hc : Wf c) (h0 : oneL s c ≠ 0) (h1 : othL s c = 0) : restL c s.H = onlyL (oneL s c) ∧ mem c (oneL s c) = true ∧ mem (restL c s.H) (oneL s c) = true := by
  have hwr := wf_rest hc s.H
  have hne : restL c s.H ≠ (0, 0) := fun e => h0 ((first_zero hwr).2 e)
  obtain ⟨f1, f2, _⟩ := first_spec hwr hne
  have f1 : mem (restL c s.H) (oneL s c) = true := f1
  have f2 : oneL s c ≠ 0 := f2
  obtain ⟨_, lo, hi⟩ := hwr.range f1
  have hwo := wf_only f2 lo hi
  have hm1 : mem c (oneL s c) = true := by rw [mem_rest hc h.wfH, Bool.and_eq_true] at f1; exact f1.1
  exact ⟨ls_ext hwr hwo fun y => by
    have := (zero_iff (wf_wo hwr _)).1 ((first_zero (wf_wo hwr _)).1 h1) y
    rw [mem_wo hwr hwo, mem_only f2] at this
    rw [mem_only f2]
    by_cases hy : oneL s c = y
    · rw [← hy, f1]; simp
    · simp [hy] at this
      simp [hy, this], hm1, f1⟩
theorem last_fits {s : Sv} {c : LS} (h : Okay s) (hc : Wf c) (ht : TinH s) (h0 : oneL s c ≠ 0) (h1 : othL s c = 0) (hy : lastF s.T c ≠ 0) : mem c (lastF s.T c) = true ∧ oneL s c ≠ lastF s.T c := by
  rcases last_cases s.T c with ⟨e, _⟩ | ⟨p, hp, e, hm⟩
  · exact absurd e hy
  · rw [e]
    refine ⟨hm, fun e2 => ?_⟩
    have hr := (unit_rest h hc h0 h1).2.2
    rw [e2, mem_rest hc h.wfH, Int.neg_neg, ht p hp] at hr
    simp at hr
theorem add_fullT {s : Sv} {c : LS} (h : Full s) (hc : Wf c) (ht : TinH s) : Full (addT s c) := by
  by_cases h0 : oneL s c = 0
  · rw [addT_eq (.inl h0)]; exact add_full h hc
  by_cases h1 : othL s c = 0
  case neg => rw [addT_eq (.inr (.inl h1))]; exact add_full h hc
  by_cases hy : lastF s.T c = 0
  · rw [addT_eq (.inr (.inr hy))]; exact add_full h hc
  obtain ⟨hr, hm1, f1⟩ := unit_rest h.ok hc h0 h1
  obtain ⟨hm2, hne2⟩ := last_fits h.ok hc ht h0 h1 hy
  unfold addT
  rw [if_neg h0, if_pos h1]
  have hup : upd s.L (oneL s c) (s.L (oneL s c) ++ [s.C.length]) (lastF s.T c) = s.L (lastF s.T c) := by unfold upd; rw [if_neg (fun e => hne2 e.symm)]
  unfold watS
  rw [if_neg hy]
  refine add_okay h hc h0 hm1 (fun _ => ⟨hm2, hne2⟩) (ins_sorted h.ok.dsort (fun hd => Nat.lt_irrefl _ (h.ok.dlt _ hd))) (fun j hj => ?_) (fun j hj => mem_ins.1 hj) (fun _ => .inr ⟨oneL s c, fun y hy => ?_⟩) (fun j hj => mem_ins.2 (.inr hj)) _ (fun q j hq => ?_) (fun q hq => ?_) (.inl ⟨hr, mem_ins.2 (.inl rfl)⟩)
  · rcases mem_ins.1 hj with e | e
    · omega
    · have := h.ok.dlt j e; omega
  · rw [hr, mem_only h0, decide_eq_true_eq] at hy; exact hy.symm
  · show j ∈ upd (upd s.L (oneL s c) (s.L (oneL s c) ++ [s.C.length])) (lastF s.T c) (upd s.L (oneL s c) (s.L (oneL s c) ++ [s.C.length]) (lastF s.T c) ++ [s.C.length]) q ↔ _
    rw [hup]
    unfold upd
    by_cases e2 : q = lastF s.T c
    · rw [if_pos e2, e2]
      simp [hne2]
    · rw [if_neg e2]
      by_cases e : q = oneL s c
      · rw [if_pos e, e]; simp
      · rw [if_neg e]
        constructor
        · exact .inl
        · rintro (e' | ⟨_, e' | e'⟩)
          · exact e'
          · exact absurd e'.symm e
          · exact absurd e'.symm e2
  · show (upd (upd s.L (oneL s c) (s.L (oneL s c) ++ [s.C.length])) (lastF s.T c) (upd s.L (oneL s c) (s.L (oneL s c) ++ [s.C.length]) (lastF s.T c) ++ [s.C.length]) q).Nodup
    rw [hup]
    unfold upd
    by_cases e2 : q = lastF s.T c
    · rw [if_pos e2, List.nodup_append]
      exact ⟨h.ok.nodup _ hy, by simp, fun a ha b hb => by simp at hb; subst hb; rintro rfl; exact not_in h.ok hy ha⟩
    · rw [if_neg e2]
      by_cases e : q = oneL s c
      · rw [if_pos e, List.nodup_append]
        exact ⟨h.ok.nodup _ h0, by simp, fun a ha b hb => by simp at hb; subst hb; rintro rfl; exact not_in h.ok h0 ha⟩
      · rw [if_neg e]; exact h.ok.nodup q hq
end Go.Proofs.YtbahjpheaaiamaaDoor.solAddM
