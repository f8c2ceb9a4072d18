/- SolHold; ShelfS; SolOps: one text, so that the claim has fewer files. -/
import Derived.Test.YtbahjpheaaiamaaDoorSolMath
import Derived.Shelf.Lays2
import Derived.Shelf.Lays7
import Derived.Test.YtbahjpheaaiamaaDoorProg
import Derived.Test.YtbahjpheaaiamaaDoorSolSets
import Derived.Shelf.Spec.TrailingZeros
/- A solver's state: a literal is made true, what is due is taken; what is kept by that; conditions: none. -/
namespace Go.Proofs.YtbahjpheaaiamaaDoor.solHold
open sets solSets solMath
set_option linter.unusedVariables false
set_option linter.unusedSimpArgs false

structure Full (s : Sv) : Prop where
  ok : Okay s
  st : ∀ i, i < s.C.length → StH s s.H i
/-- All watched literals are fit for values that were there once. -/
def Good (s : Sv) (H : LS) : Prop := ∀ i, i < s.C.length → meetL (s.cl i) H = true ∨ (mem (restL (s.cl i) H) (s.wt i).1 = true ∧ mem (restL (s.cl i) H) (s.wt i).2 = true ∧ (s.wt i).1 ≠ (s.wt i).2)
theorem upd_same (L : Int → List Nat) (x : Int) : upd L x (L x) = L := by
  funext y; unfold upd; split
  · rename_i e; rw [e]
  · rfl
theorem mv_same (s : Sv) (i : Nat) (x : Int) : (mv s i x).1.C = s.C ∧ (mv s i x).1.n = s.n ∧ (mv s i x).1.H = s.H ∧ (mv s i x).1.T = s.T ∧ (mv s i x).1.K = s.K := by
  unfold mv
  split
  · exact ⟨rfl, rfl, rfl, rfl, rfl⟩
  · split
    · exact ⟨rfl, rfl, rfl, rfl, rfl⟩
    · split <;> exact ⟨rfl, rfl, rfl, rfl, rfl⟩
theorem mvs_same (x : Int) : ∀ (R : List Nat) (s : Sv) (kept : List Nat), (mvs x R s kept).1.C = s.C ∧ (mvs x R s kept).1.n = s.n ∧ (mvs x R s kept).1.H = s.H ∧ (mvs x R s kept).1.T = s.T ∧ (mvs x R s kept).1.K = s.K
  | [], s, kept => ⟨rfl, rfl, rfl, rfl, rfl⟩
  | i :: R, s, kept => by
    obtain ⟨h1, h2, h3, h4, h5⟩ := mvs_same x R (mv s i x).1 (if (mv s i x).2 = true then kept else kept ++ [i])
    obtain ⟨g1, g2, g3, g4, g5⟩ := mv_same s i x
    exact ⟨h1.trans g1, h2.trans g2, h3.trans g3, h4.trans g4, h5.trans g5⟩
theorem mvs_mid {H0 : LS} {l : Int} : ∀ (R : List Nat) (s : Sv) (kept : List Nat), Mid s H0 l kept R → Mid (mvs (-l) R s kept).1 H0 l (mvs (-l) R s kept).2 []
  | [], s, kept, h => h
  | i :: R, s, kept, h => mvs_mid R _ _ (mv_mid h)
theorem mid_start {s : Sv} {l r : Int} (h : Okay s) (hst : ∀ i, i < s.C.length → StH s s.H i ∨ mem (s.cl i) l = true) (l0 : l ≠ 0) (lo : -40 ≤ l ∧ l ≤ 40) (no : mem s.H l = false ∧ mem s.H (-l) = false) :
    Mid (held1 s l r) s.H l [] (s.L (-l)) := by
  have hw : Wf (withL s.H (onlyL l)) := wf_with h.wfH (wf_only l0 lo.1 lo.2)
  have hsub : ∀ y, mem s.H y = true → mem (withL s.H (onlyL l)) y = true := fun y hy => by rw [mem_held l0, hy]; rfl
  have hwt : ∀ i, (held1 s l r).wt i = s.wt i := fun _ => rfl
  have hcl : ∀ i, (held1 s l r).cl i = s.cl i := fun _ => rfl
  have hnl : -l ≠ 0 := by omega
  refine ⟨?_, rfl, h.wfH, l0, lo, no, fun i hi => ?_, fun i hi hd => h.dfew i hd, fun i hi hn => ?_⟩
  · refine ⟨hw, fun y hy => ?_, h.wfC, h.len, h.w1, h.w2, fun x hx => ?_, fun x i hx => ?_, h.dsort, h.dlt, fun i hi => few_mono (h.wfC i) h.wfH hw hsub (h.dfew i hi), ?_⟩
    · have hy : mem (withL s.H (onlyL l)) y = true := hy
      show mem (withL s.H (onlyL l)) (-y) = false
      rw [mem_held l0] at hy ⊢
      by_cases e : l = y
      · subst e; rw [no.2]; simp; omega
      · simp only [e, decide_false, Bool.or_false] at hy
        rw [h.cons y hy]
        simp
        intro e2
        have : y = -l := by omega
        rw [this, no.2] at hy
        cases hy
    · show (upd s.L (-l) ([] ++ s.L (-l)) x).Nodup
      rw [List.nil_append, upd_same]; exact h.nodup x hx
    · show i ∈ upd s.L (-l) ([] ++ s.L (-l)) x ↔ _
      rw [List.nil_append, upd_same]; exact h.lists x i hx
    · rcases h.fin with e | ⟨f, hf, e, hr⟩
      · exact .inl e
      · exact .inr ⟨f, hf, e, none_mono (h.wfC f) h.wfH hw hsub hr⟩
  · rcases hst i (h.lt hnl hi) with ho | ho
    · exact .inl ho
    · exact .inr ho
  · have hi : i < s.C.length := hi
    have hc := h.wfC i
    show StH (held1 s l r) (withL s.H (onlyL l)) i
    have hnw : ¬ ((s.wt i).1 = -l ∨ (s.wt i).2 = -l) := fun e => hn ((h.lists (-l) i hnl).2 e)
    have key : ∀ y, mem (restL (s.cl i) s.H) y = true → y ≠ -l → mem (restL (s.cl i) (withL s.H (onlyL l))) y = true := fun y hy hne => by
      rw [mem_rest hc h.wfH, Bool.and_eq_true] at hy
      rw [mem_rest hc hw, mem_held l0, hy.1]
      have : mem s.H (-y) = false := by have := hy.2; simpa using this
      rw [this]
      simp
      omega
    rcases hst i hi with ho | ho
    · rcases ho with ho | ⟨h1, h2⟩ | ⟨x, h1, h2, h3, h4⟩ | ⟨h1, h2, h3⟩
      · exact .inl (meet_mono hc hsub ho)
      · exact .inr (.inl ⟨none_mono hc h.wfH hw hsub h1, h2⟩)
      · have hxl : x ≠ -l := fun e => hnw (by rcases h3 with h3 | h3 <;> simp [← h3, e])
        have hm : mem (restL (s.cl i) s.H) x = true := by rw [h1, mem_only h2]; simp
        have hr := (wf_rest hc s.H).range hm
        refine .inr (.inr (.inl ⟨x, ls_ext (wf_rest hc _) (wf_only h2 hr.2.1 hr.2.2) fun y => ?_, h2, h3, h4⟩))
        rw [mem_only h2, Bool.eq_iff_iff, decide_eq_true_eq]
        constructor
        · intro hy
          have := rest_mono hc h.wfH hw hsub hy
          rw [h1, mem_only h2, decide_eq_true_eq] at this
          exact this
        · intro e; subst e; exact key _ hm hxl
      · exact .inr (.inr (.inr ⟨key _ h1 (fun e => hnw (.inl e)), key _ h2 (fun e => hnw (.inr e)), h3⟩))
    · exact .inl ((meet_iff hc).2 ⟨l, ho, by rw [mem_held l0]; simp⟩)
theorem hold_same (s : Sv) (l r : Int) : (holdS s l r).C = s.C ∧ (holdS s l r).n = s.n ∧ (holdS s l r).H = withL s.H (onlyL l) ∧ (holdS s l r).T = s.T ++ [(l, r)] ∧ (holdS s l r).K = s.K :=
  mvs_same (-l) (s.L (-l)) (held1 s l r) []
theorem hold_full {s : Sv} {l r : Int} (h : Okay s) (hst : ∀ i, i < s.C.length → StH s s.H i ∨ mem (s.cl i) l = true) (l0 : l ≠ 0) (lo : -40 ≤ l ∧ l ≤ 40) (no : mem s.H l = false ∧ mem s.H (-l) = false) : Full (holdS s l r) := by
  have hm := mvs_mid _ _ _ (mid_start (r := r) h hst l0 lo no)
  refine ⟨by have := hm.ok; rw [List.append_nil] at this; exact this, fun i hi => ?_⟩
  have := hm.new i hi (by simp)
  exact this
theorem mv_good {s : Sv} {H0 H1 : LS} {l : Int} {kept R : List Nat} {i : Nat} (h : Mid s H0 l kept (i :: R)) (h1 : Wf H1) (hs : ∀ y, mem H1 y = true → mem s.H y = true) (hg : Good s H1) : Good (mv s i (-l)).1 H1 := by
  obtain ⟨_, _, _, _, hlt⟩ := h.head
  have hc := h.wfc i
  by_cases hm : meetL (s.cl i) s.H = true
  · unfold mv; rw [if_pos hm]; exact hg
  · by_cases hr : restL (s.cl i) s.H = (0, 0)
    · unfold mv; rw [if_neg hm, if_pos hr]; exact hg
    · by_cases ho : restL (s.cl i) s.H = onlyL (stay s i (-l))
      · unfold mv; rw [if_neg hm, if_neg hr, if_pos ho]; exact hg
      · obtain ⟨s1, s2, s3, s4⟩ := h.stays hm hr
        obtain ⟨t1, t2, t3, t4⟩ := h.to hm hr ho
        have hlw : i < s.W.length := by have := h.ok.len; dsimp only at this; omega
        unfold mv
        rw [if_neg hm, if_neg hr, if_neg ho]
        intro j hj
        have hwj : Sv.wt { s with W := s.W.set i (stay s i (-l), toL s i (-l)), L := upd s.L (toL s i (-l)) (s.L (toL s i (-l)) ++ [i]) } j = if j = i then (stay s i (-l), toL s i (-l)) else s.wt j := wt_set hlw
        dsimp only at hj ⊢
        rw [hwj]
        by_cases e : j = i
        · subst e
          rw [if_pos rfl]
          rcases hg j hj with hq | ⟨g1, g2, g3⟩
          · exact absurd (meet_mono hc hs hq) hm
          · refine .inr ⟨?_, rest_mono hc h1 h.wfH hs t1, fun e => t3 e.symm⟩
            rcases s3 with e | e
            · dsimp only; rw [e]; exact g1
            · dsimp only; rw [e]; exact g2
        · rw [if_neg e]; exact hg j hj
theorem mvs_good {H0 H1 : LS} {l : Int} (h1 : Wf H1) : ∀ (R : List Nat) (s : Sv) (kept : List Nat), Mid s H0 l kept R → (∀ y, mem H1 y = true → mem s.H y = true) → Good s H1 → Good (mvs (-l) R s kept).1 H1
  | [], s, kept, _, _, hg => hg
  | i :: R, s, kept, h, hs, hg => mvs_good h1 R _ _ (mv_mid h) (by rw [(mv_same s i (-l)).2.2.1]; exact hs) (mv_good h h1 hs hg)
theorem hold_good {s : Sv} {l r : Int} {H1 : LS} (h : Okay s) (hst : ∀ i, i < s.C.length → StH s s.H i ∨ mem (s.cl i) l = true) (l0 : l ≠ 0) (lo : -40 ≤ l ∧ l ≤ 40) (no : mem s.H l = false ∧ mem s.H (-l) = false)
    (h1 : Wf H1) (hs : ∀ y, mem H1 y = true → mem s.H y = true) (hg : Good s H1) : Good (holdS s l r) H1 := by
  have := mvs_good (l := l) h1 _ _ _ (mid_start (r := r) h hst l0 lo no) (fun y hy => by show mem (withL s.H (onlyL l)) y = true; rw [mem_held l0, hs y hy]; rfl) hg
  exact this
/-- The first clause that is due is taken. -/
def popS (s : Sv) (i : Nat) (D : List Nat) : Sv := if meetL (s.cl i) s.H = true then { s with D := D } else holdS { s with D := D } (firstL (restL (s.cl i) s.H)) i
theorem unit_of {s : Sv} {i : Nat} {D : List Nat} (h : Full s) (hF : s.F = -1) (hD : s.D = i :: D) (hm : ¬ meetL (s.cl i) s.H = true) :
    ∃ x, firstL (restL (s.cl i) s.H) = x ∧ restL (s.cl i) s.H = onlyL x ∧ x ≠ 0 ∧ (-40 ≤ x ∧ x ≤ 40) ∧ mem (s.cl i) x = true ∧ mem s.H x = false ∧ mem s.H (-x) = false := by
  have hi : i ∈ s.D := by rw [hD]; simp
  have hc := h.ok.wfC i
  rcases h.st i (h.ok.dlt i hi) with hq | ⟨_, hq, _⟩ | ⟨x, h1, h2, h3, h4⟩ | ⟨h1, h2, h3⟩
  · exact absurd hq hm
  · exact absurd hF hq
  · have hx : mem (restL (s.cl i) s.H) x = true := by rw [h1, mem_only h2]; simp
    have hr := (wf_rest hc s.H).range hx
    have hmx := hx
    rw [mem_rest hc h.ok.wfH, Bool.and_eq_true] at hmx
    have hf := first_spec (a := onlyL x) (wf_only h2 hr.2.1 hr.2.2) (fun e => by rw [h1, e, mem_zero] at hx; cases hx)
    have e := hf.1
    rw [mem_only h2, decide_eq_true_eq] at e
    exact ⟨x, by rw [h1]; exact e.symm, h1, h2, hr.2, hmx.1, meet_false hc (by simpa using hm) hmx.1, by simpa using hmx.2⟩
  · rcases h.ok.dfew i hi with hq | ⟨x, hx⟩
    · exact absurd hq hm
    · exact absurd ((hx _ h1).trans (hx _ h2).symm) h3
theorem okay_pop {s : Sv} {i : Nat} {D : List Nat} (h : Okay s) (hD : s.D = i :: D) : Okay { s with D := D } :=
  ⟨h.wfH, h.cons, h.wfC, h.len, h.w1, h.w2, h.nodup, h.lists, by have := h.dsort; rw [hD, List.pairwise_cons] at this; exact this.2, fun j hj => h.dlt j (by rw [hD]; simp [show j ∈ D from hj]), fun j hj => h.dfew j (by rw [hD]; simp [show j ∈ D from hj]), h.fin⟩
theorem pop_st {s : Sv} {i : Nat} {D : List Nat} (h : Full s) (hD : s.D = i :: D) {j : Nat} (hj : j < s.C.length) (hne : j ≠ i) : StH { s with D := D } s.H j :=
  st_keep (s := s) rfl rfl (fun hd => by rw [hD] at hd; rcases List.mem_cons.1 hd with e | e; exact absurd e hne; exact e) id (h.st j hj)
theorem pop_full {s : Sv} {i : Nat} {D : List Nat} (h : Full s) (hF : s.F = -1) (hD : s.D = i :: D) : Full (popS s i D) := by
  unfold popS
  by_cases hm : meetL (s.cl i) s.H = true
  · rw [if_pos hm]
    refine ⟨okay_pop h.ok hD, fun j hj => ?_⟩
    by_cases e : j = i
    · subst e; exact .inl hm
    · exact pop_st h hD hj e
  · rw [if_neg hm]
    obtain ⟨x, e, h1, h2, h3, h4, h5, h6⟩ := unit_of h hF hD hm
    rw [e]
    refine hold_full (okay_pop h.ok hD) (fun j hj => ?_) h2 h3 ⟨h5, h6⟩
    by_cases e : j = i
    · subst e; exact .inr h4
    · exact .inl (pop_st h hD hj e)
end Go.Proofs.YtbahjpheaaiamaaDoor.solHold

/-
  DERIVED: THE SHELF's CONTRACTS AT THIS DUMP, IN PLAIN WORDS (tools/lay-plain.mjs out of 'YtbahjpheaaiamaaDoorShelfLayS.lean', which tools/lay-shelf.mjs wrote): THE SAME DECLARATIONS UNDER THE SAME NAMES: 'import', 'namespace', 'open', 'def', 'theorem' AND NOTHING ELSE: no command of the shelf's: FOR A HAND-IN. Each laying: the table of numbers ('.._ren') and one theorem, a field a fact of the dump's own or the kernel's comparison; each contract: ONE APPLICATION.
-/
namespace Go.Proofs
open Go.Shelf
def Tryd.lays2_21_ren : Go.Shelf.Ren := ⟨fun | 21 => 67 | 27 => 73 | 28 => 74 | 35 => 81 | 39 => 84 | n => n, fun | 22 => 36 | 3 => 3 | 4 => 4 | 0 => 0 | n => n, fun | n => n⟩
theorem Tryd.lays2_21 : Go.Proofs.Lays2.n21 Tryd.prog Tryd.lays2_21_ren := {
  mixed := by kernel_rfl
  f21 := Tryd.func67.trans (congrArg some (by kernel_rfl))
  f27 := Tryd.func73.trans (congrArg some (by kernel_rfl))
  f28 := Tryd.func74.trans (congrArg some (by kernel_rfl))
  f35 := Tryd.func81.trans (congrArg some (by kernel_rfl))
  f39 := Tryd.func84.trans (congrArg some (by kernel_rfl))
  t0 := Tryd.underlying0
  a0 := Tryd.isAgg0
  z0 := Tryd.sizeOf0
  v0 := Tryd.zeroValue0
  t3 := Tryd.underlying3
  a3 := Tryd.isAgg3
  z3 := Tryd.sizeOf3
  v3 := Tryd.zeroValue3
  t4 := Tryd.underlying4
  a4 := Tryd.isAgg4
  z4 := Tryd.sizeOf4
  v4 := Tryd.zeroValue4
  t22 := Tryd.underlying36
  a22 := Tryd.isAgg36
  z22 := Tryd.sizeOf36
  v22 := Tryd.zeroValue36
  i3 := by kernel_rfl }
def Tryd.lays2_25_ren : Go.Shelf.Ren := ⟨fun | 25 => 66 | 31 => 71 | 32 => 72 | 37 => 80 | n => n, fun | 22 => 36 | 3 => 3 | 4 => 4 | 40 => 96 | 0 => 0 | n => n, fun | n => n⟩
theorem Tryd.lays2_25 : Go.Proofs.Lays2.n25 Tryd.prog Tryd.lays2_25_ren := {
  mixed := by kernel_rfl
  f25 := Tryd.func66.trans (congrArg some (by kernel_rfl))
  f31 := Tryd.func71.trans (congrArg some (by kernel_rfl))
  f32 := Tryd.func72.trans (congrArg some (by kernel_rfl))
  f37 := Tryd.func80.trans (congrArg some (by kernel_rfl))
  t0 := Tryd.underlying0
  a0 := Tryd.isAgg0
  z0 := Tryd.sizeOf0
  v0 := Tryd.zeroValue0
  t3 := Tryd.underlying3
  a3 := Tryd.isAgg3
  z3 := Tryd.sizeOf3
  v3 := Tryd.zeroValue3
  t4 := Tryd.underlying4
  a4 := Tryd.isAgg4
  z4 := Tryd.sizeOf4
  v4 := Tryd.zeroValue4
  t22 := Tryd.underlying36
  a22 := Tryd.isAgg36
  z22 := Tryd.sizeOf36
  v22 := Tryd.zeroValue36
  t40 := Tryd.underlying96
  a40 := Tryd.isAgg96
  z40 := Tryd.sizeOf96
  v40 := Tryd.zeroValue96 }
def Tryd.lays7_29_ren : Go.Shelf.Ren := ⟨fun | 29 => 65 | n => n, fun | 22 => 49 | 3 => 3 | 4 => 4 | 25 => 96 | 54 => 97 | 0 => 0 | 5 => 5 | n => n, fun | 1 => 0 | n => n⟩
theorem Tryd.lays7_29 : Go.Proofs.Lays7.n29 Tryd.prog Tryd.lays7_29_ren := {
  mixed := by kernel_rfl
  f29 := Tryd.func65.trans (congrArg some (by kernel_rfl))
  t0 := Tryd.underlying0
  a0 := Tryd.isAgg0
  z0 := Tryd.sizeOf0
  v0 := Tryd.zeroValue0
  i0 := by kernel_rfl
  t3 := Tryd.underlying3
  a3 := Tryd.isAgg3
  z3 := Tryd.sizeOf3
  v3 := Tryd.zeroValue3
  i3 := by kernel_rfl
  t4 := Tryd.underlying4
  a4 := Tryd.isAgg4
  z4 := Tryd.sizeOf4
  v4 := Tryd.zeroValue4
  i4 := by kernel_rfl
  t5 := Tryd.underlying5
  a5 := Tryd.isAgg5
  z5 := Tryd.sizeOf5
  v5 := Tryd.zeroValue5
  i5 := by kernel_rfl
  t22 := Tryd.underlying49
  a22 := Tryd.isAgg49
  z22 := Tryd.sizeOf49
  v22 := Tryd.zeroValue49
  i22 := by kernel_rfl
  t25 := Tryd.underlying96
  a25 := Tryd.isAgg96
  z25 := Tryd.sizeOf96
  v25 := Tryd.zeroValue96
  i25 := by kernel_rfl
  t54 := Tryd.underlying97
  a54 := Tryd.isAgg97
  z54 := Tryd.sizeOf97
  g1 := by kernel_rfl }
end Go.Proofs

/- The operations on sets of literals, of the program: without, turned, has, first; conditions: literals of at most 40 variables, the table of math/bits as its initialiser lays it. -/
namespace Go.Proofs.YtbahjpheaaiamaaDoor.solOps
open Go.RowKit Go.Deep base copy sets solSets
set_option linter.unusedVariables false
set_option linter.unusedSimpArgs false

abbrev Tab (w : World) : Prop := TabAt 0 Lib.deBruijn64tab w
theorem tab_below {w w' : World} (h : Tab w) (hb : Below w.heap.size w w') : Tab w' := fun j hj => keep hb (h j hj)
def setV (a : LS) : Value := .agg #[.int .u64 a.1, .int .u64 a.2]
set_option maxHeartbeats 400000 in
theorem without_impl (a b c d : Nat) (w : World) (ha : a < 18446744073709551616) (hb : b < 18446744073709551616) (hc : c < 18446744073709551616) (hd : d < 18446744073709551616) :
    Calls Tryd.prog 55 #[.agg #[.int .u64 a, .int .u64 b], .agg #[.int .u64 c, .int .u64 d]] w fun e w' => e = .returned (.agg #[.int .u64 ((a &&& (18446744073709551615 - c) : Nat) : Int), .int .u64 ((b &&& (18446744073709551615 - d) : Nat) : Int)]) ∧ Below w.heap.size w w' := by
  have H1 := hid (u64_andNot_nat a c ha hc)
  have H2 := hid (u64_andNot_nat b d hb hd)
  go_enter Tryd.func55, Tryd.ntmps55
  go_wp2
  refine bodyPost_ret (v := .agg #[.int .u64 (bits .andNot .u64 a c), .int .u64 (bits .andNot .u64 b d)]) (by simp [results, Tryd.results55, go_sem]) rfl ⟨by rw [H1.out, H2.out], (by repeat (first | exact Below.refl _ _ | assumption | refine Below.drew ?_ | refine Below.alloc ?_ (by first | exact Nat.le_refl _ | omega | (simp; done) | (simp; omega)) _ | refine Below.setCell ?_ (by first | exact Nat.le_refl _ | omega | (simp; done) | (simp; omega)) _))⟩
set_option maxHeartbeats 400000 in
theorem turned_impl (a b : Nat) (w : World) :
    Calls Tryd.prog 34 #[.agg #[.int .u64 a, .int .u64 b]] w fun e w' => e = .returned (.agg #[.int .u64 b, .int .u64 a]) ∧ Below w.heap.size w w' := by
  go_enter Tryd.func34, Tryd.ntmps34
  go_wp2
  refine bodyPost_ret (v := .agg #[.int .u64 b, .int .u64 a]) (by simp [results, Tryd.results34, go_sem]) rfl ⟨rfl, (by repeat (first | exact Below.refl _ _ | assumption | refine Below.drew ?_ | refine Below.alloc ?_ (by first | exact Nat.le_refl _ | omega | (simp; done) | (simp; omega)) _ | refine Below.setCell ?_ (by first | exact Nat.le_refl _ | omega | (simp; done) | (simp; omega)) _))⟩
set_option maxHeartbeats 800000 in
theorem has_impl (a : LS) (l : Int) (w : World) (ha : Wf a) (h : l ≠ 0) (h0 : -40 ≤ l) (h1 : l ≤ 40) :
    Calls Tryd.prog 26 #[.agg #[.int .u64 a.1, .int .u64 a.2], .int .i64 l] w fun e w' => e = .returned (.bool (mem a l)) ∧ Below w.heap.size w w' := by
  have hw := wf_only h h0 h1
  obtain ⟨q1, q2⟩ := ha.lt
  obtain ⟨q3, q4⟩ := hw.lt
  rw [← has_only ha h]
  obtain ⟨p, hp⟩ : ∃ p, a.1 = p := ⟨_, rfl⟩
  obtain ⟨o, ho⟩ : ∃ o, a.2 = o := ⟨_, rfl⟩
  have HO : Hid (∀ w : World, Calls Tryd.prog 46 #[.int .i64 l] w fun e w' => e = .returned (.agg #[.int .u64 (pBit l), .int .u64 (oBit l)]) ∧ Below w.heap.size w w') := hid (fun w => only_impl l w h0 h1)
  have HM : Hid (∀ w : World, Calls Tryd.prog 49 #[.agg #[.int .u64 p, .int .u64 o], .agg #[.int .u64 (pBit l), .int .u64 (oBit l)]] w fun e w' => e = .returned (.bool (meetL a (onlyL l))) ∧ Below w.heap.size w w') := hid (fun w => by
    have := meets_impl a.1 a.2 (pBit l) (oBit l) w q1 q2 q3 q4
    rw [hp, ho] at this
    unfold meetL onlyL
    rw [hp, ho]
    exact this)
  rw [hp, ho]
  generalize meetL a (onlyL l) = b at *
  generalize pBit l = x at *
  generalize oBit l = y at *
  clear hw ha q1 q2 q3 q4 hp ho h h0 h1
  have HK : Hid (∀ w2 : World, Below (w.alloc (.cells #[.int .u64 p, .int .u64 o] 51)).heap.size (w.alloc (.cells #[.int .u64 p, .int .u64 o] 51)) w2 → (w2.cell? ⟨w.heap.size, 0, none⟩ = some (.int .u64 p) ∧ w2.cell? ⟨w.heap.size, 1, none⟩ = some (.int .u64 o)) ∧ Below w.heap.size w w2) := hid (fun w2 hb => ⟨⟨keep hb (by simp [go_sem]), keep hb (by simp [go_sem])⟩, (show Below w.heap.size w _ from (by repeat (first | exact Below.refl _ _ | assumption | refine Below.drew ?_ | refine Below.alloc ?_ (by first | exact Nat.le_refl _ | omega | (simp; done) | (simp; omega)) _ | refine Below.setCell ?_ (by first | exact Nat.le_refl _ | omega | (simp; done) | (simp; omega)) _))).trans (hb.mono (by simp))⟩)
  go_enter Tryd.func26, Tryd.ntmps26
  go_wp2
  go_region_with (first
      | (go_at_call 46; refine (HO.out _).mono ?_; rintro e w1 ⟨rfl, hb1⟩; have hb1' := ((Below.refl _ (w.alloc (.cells #[.int .u64 p, .int .u64 o] 51))).drew).trans hb1; obtain ⟨⟨y0, y1⟩, hB⟩ := HK.out w1 hb1'; clear hb1)
      | (go_at_call 49; refine (HM.out _).mono ?_; rintro e w2 ⟨rfl, hb2⟩; have hB2 : Below w.heap.size w w2 := hB.trans (hb2.mono hB.size); clear hb2))
  all_goals
    go_wp2
    go_ret
    exact ⟨rfl, hB2⟩
theorem tz_impl (x : Nat) (w : World) (hx : x < 18446744073709551616) (h : Tab w) :
    Calls Tryd.prog 65 #[.int .u64 x] w fun e w' => e = .returned (.int .i64 (Lib.ctz 64 x)) ∧ w' = w :=
  Any7.bits_TrailingZeros64 Tryd.lays7_29 x hx w (fun _ => h)
theorem first_none (w : World) : Calls Tryd.prog 48 #[.agg #[.int .u64 0, .int .u64 0]] w fun e w' => e = .returned (.int .i64 0) ∧ Below w.heap.size w w' := by
  go_enter Tryd.func48, Tryd.ntmps48
  go_wp2
  go_ret
  exact ⟨rfl, (by repeat (first | exact Below.refl _ _ | assumption | refine Below.drew ?_ | refine Below.alloc ?_ (by first | exact Nat.le_refl _ | omega | (simp; done) | (simp; omega)) _ | refine Below.setCell ?_ (by first | exact Nat.le_refl _ | omega | (simp; done) | (simp; omega)) _))⟩
set_option maxHeartbeats 800000 in
theorem first_some (p o k : Nat) (bt : Bool) (w : World) (hne : p ≠ 0 ∨ o ≠ 0)
    (HH : Hid (∀ w : World, Calls Tryd.prog 26 #[.agg #[.int .u64 p, .int .u64 o], .int .i64 k] w fun e w' => e = .returned (.bool bt) ∧ Below w.heap.size w w'))
    (HT : Hid (∀ w : World, Tab w → Calls Tryd.prog 65 #[.int .u64 (bits .or .u64 p o)] w fun e w' => e = .returned (.int .i64 k) ∧ w' = w)) (hk : k ≤ 40) (ht : Tab w) :
    Calls Tryd.prog 48 #[.agg #[.int .u64 p, .int .u64 o]] w fun e w' => e = .returned (.int .i64 (if bt = true then (k : Int) else -(k : Int))) ∧ Below w.heap.size w w' := by
  have HW : Hid (Below w.heap.size w (w.alloc (.cells #[.int .u64 p, .int .u64 o] 51)) ∧ Tab (w.alloc (.cells #[.int .u64 p, .int .u64 o] 51))) := hid ⟨(by repeat (first | exact Below.refl _ _ | assumption | refine Below.drew ?_ | refine Below.alloc ?_ (by first | exact Nat.le_refl _ | omega | (simp; done) | (simp; omega)) _ | refine Below.setCell ?_ (by first | exact Nat.le_refl _ | omega | (simp; done) | (simp; omega)) _)), tab_below ht (by repeat (first | exact Below.refl _ _ | assumption | refine Below.drew ?_ | refine Below.alloc ?_ (by first | exact Nat.le_refl _ | omega | (simp; done) | (simp; omega)) _ | refine Below.setCell ?_ (by first | exact Nat.le_refl _ | omega | (simp; done) | (simp; omega)) _))⟩
  clear ht
  have hc : (p = 0 ∧ o ≠ 0) ∨ p ≠ 0 := by omega
  clear hne
  rcases hc with ⟨hp, ho⟩ | hp
  · have d3 : ¬ ((o : Int) = 0) := by omega
    subst hp
    clear ho
    cases bt
    all_goals
      go_enter Tryd.func48, Tryd.ntmps48
      go_wp2_with (go_at_call 65; refine (HT.out _ HW.out.2).mono ?_; rintro e w' ⟨rfl, rfl⟩)
      refine (HH.out _).mono ?_
      rintro e w1 ⟨rfl, hb1⟩
      have HB1 := hid (HW.out.1.trans (hb1.mono HW.out.1.size))
      clear hb1
      go_wp2
      go_ret
      exact ⟨by first | rfl | simp, HB1.out⟩
  · have d3 : ¬ ((p : Int) = 0) := by omega
    clear hp
    cases bt
    all_goals
      go_enter Tryd.func48, Tryd.ntmps48
      go_wp2_with (go_at_call 65; refine (HT.out _ HW.out.2).mono ?_; rintro e w' ⟨rfl, rfl⟩)
      refine (HH.out _).mono ?_
      rintro e w1 ⟨rfl, hb1⟩
      have HB1 := hid (HW.out.1.trans (hb1.mono HW.out.1.size))
      clear hb1
      go_wp2
      go_ret
      exact ⟨by first | rfl | simp, HB1.out⟩
theorem first_impl (a : LS) (w : World) (ha : Wf a) (ht : Tab w) :
    Calls Tryd.prog 48 #[.agg #[.int .u64 a.1, .int .u64 a.2]] w fun e w' => e = .returned (.int .i64 (firstL a)) ∧ Below w.heap.size w w' := by
  by_cases h0 : a = (0, 0)
  · subst h0
    exact first_none w
  have hf := first_spec ha h0
  obtain ⟨q1, q2⟩ := ha.lt
  obtain ⟨k, hk⟩ : ∃ k, Lib.ctz 64 (a.1 ||| a.2) = k := ⟨_, rfl⟩
  have e1 : firstL a = if a.1.testBit k = true then (k : Int) else -(k : Int) := by unfold firstL; rw [if_neg h0, hk]
  have hk40 : k ≤ 40 := by rw [← hk]; exact hf.2.2
  have hk0 : k ≠ 0 := fun e => hf.2.1 (by rw [e1, e]; simp)
  have hm : mem a (k : Int) = a.1.testBit k := by unfold mem; rw [if_neg (by omega)]; simp
  have hne : a.1 ≠ 0 ∨ a.2 ≠ 0 := by
    refine Classical.byContradiction fun hx => h0 (Prod.ext ?_ ?_)
    · exact Classical.byContradiction fun h => hx (.inl h)
    · exact Classical.byContradiction fun h => hx (.inr h)
  rw [e1]
  refine first_some a.1 a.2 k (a.1.testBit k) w hne (hid fun w => ?_) (hid fun w h => ?_) hk40 ht
  · have := has_impl a k w ha (by omega) (by omega) (by omega)
    rw [hm] at this
    exact this
  · rw [bits_or_u64_nat a.1 a.2 q1 q2, ← hk]
    exact tz_impl _ w (by have := Nat.or_lt_two_pow ha.p ha.o; omega) h
end Go.Proofs.YtbahjpheaaiamaaDoor.solOps
