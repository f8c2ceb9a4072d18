/- ImpMath; SolStart; CdThin; SolWipe: one text, so that the claim has fewer files. -/
import Derived.Test.YtbahjpheaaiamaaDoorPart40
import Derived.Test.YtbahjpheaaiamaaDoorPart19
import Derived.Test.YtbahjpheaaiamaaDoorPart41
import Derived.Test.YtbahjpheaaiamaaDoorPart35
import Derived.Test.YtbahjpheaaiamaaDoorPart36
import Derived.Test.YtbahjpheaaiamaaDoorPart26
import Derived.Test.YtbahjpheaaiamaaDoorSolSolve
import Derived.Test.YtbahjpheaaiamaaDoorPart34
/- A clause is implied just when each set of whole values that makes all clauses true meets it: told by sets, by values, and by lists of Booleans; conditions: a right formula, a right clause. -/
namespace Go.Proofs.YtbahjpheaaiamaaDoor.impMath
open base copy cnf eval sets setsOf solSets solMath solHold solProp solNew solFace solClose chkNew runS leastSem cdVal cdState satMath propsMath
open rupSpec (LitsIn)
open rupFaceS (cnf_in clause_in)
set_option linter.unusedVariables false
set_option linter.unusedSimpArgs false

theorem wf_lits {n : Nat} {zs : List Int} (hn : n ≤ 40) (h : ∀ z ∈ zs, z ≠ 0 ∧ z.natAbs < n + 1) : Wf (setL zs) := wf_set fun z hz => by
  have := h z hz
  exact ⟨this.1, by omega⟩
theorem mem_lits {n : Nat} {zs : List Int} (h : ∀ z ∈ zs, z ≠ 0 ∧ z.natAbs < n + 1) (l : Int) : mem (setL zs) l = true ↔ l ∈ zs := by
  rw [mem_set (fun z hz => (h z hz).1), List.contains_iff_mem]
theorem meet_lits {n : Nat} {zs : List Int} {H : LS} (hn : n ≤ 40) (h : ∀ z ∈ zs, z ≠ 0 ∧ z.natAbs < n + 1) : meetL (setL zs) H = true ↔ ∃ z ∈ zs, mem H z = true := by
  rw [meet_iff (wf_lits hn h)]
  exact ⟨fun ⟨l, h1, h2⟩ => ⟨l, (mem_lits h l).1 h1, h2⟩, fun ⟨l, h1, h2⟩ => ⟨l, (mem_lits h l).2 h1, h2⟩⟩
/-- What values a set gives. -/
def valM (H : LS) (i : Nat) : Int := if mem H (i : Int) = true then 1 else -1
theorem val_set {n : Nat} {Z : List LS} {H : LS} (h : Mdl n Z H) {z : Int} (h0 : z ≠ 0) (hz : z.natAbs < n + 1) : runS.valOf (valM H) z = 1 ↔ mem H z = true := by
  unfold runS.valOf valM
  by_cases hp : z < 0
  · rw [if_pos hp, show ((z.natAbs : Nat) : Int) = -z by omega]
    by_cases hm : mem H (-z) = true
    · rw [if_pos hm]
      have := h.cons _ hm
      rw [Int.neg_neg] at this
      rw [this]; simp
    · rw [if_neg hm]
      have := h.all z.natAbs (by omega) (by omega)
      rw [show ((z.natAbs : Nat) : Int) = -z by omega, Int.neg_neg] at this
      rw [this.resolve_left hm]; simp
  · rw [if_neg hp, show ((z.natAbs : Nat) : Int) = z by omega]
    by_cases hm : mem H z = true
    · rw [if_pos hm, hm]; simp
    · rw [if_neg hm]
      simp at hm
      rw [hm]; simp
theorem mod_of {n : Nat} (hn : n ≤ 40) {Z : List (List Int)} (hl : LitsIn (n + 1) Z) {H : LS} (h : Mdl n (Z.map setL) H) : Mod Z (n + 1) (valM H) := by
  refine ⟨fun i h1 h2 => ?_, fun c hc => ?_⟩
  · unfold valM
    split
    · exact .inl rfl
    · exact .inr rfl
  · obtain ⟨z, h1, h2⟩ := (meet_lits hn (hl c hc)).1 (h.cl _ (List.mem_map.2 ⟨c, hc, rfl⟩))
    have := hl c hc z h1
    exact ⟨z, h1, (val_set h this.1 this.2).2 h2⟩
theorem mdl_of {n : Nat} (hn : n ≤ 40) {Z : List (List Int)} (hl : LitsIn (n + 1) Z) {M : Nat → Int} (h : Mod Z (n + 1) M) : Mdl n (Z.map setL) (setM M n) := by
  refine ⟨wf_setM hn, cons_setM h.1, fun v h1 h2 => tot_mem h.1 (by omega) (by omega), fun c hc => ?_⟩
  obtain ⟨ys, hy, rfl⟩ := List.mem_map.1 hc
  obtain ⟨z, hz, hv⟩ := h.2 ys hy
  have h1 := hl ys hy z hz
  exact (meet_lits hn (hl ys hy)).2 ⟨z, hz, (mem_setM h.1 z).2 ⟨h1.1, by omega, hv⟩⟩
/-- Values of a model, as a list of Booleans. -/
def valsH (n : Nat) (H : LS) : List Bool := (List.range n).map fun (i : Nat) => mem H ((i : Int) + 1)
end Go.Proofs.YtbahjpheaaiamaaDoor.impMath

/- A solver that has just been made of a formula's clauses is at the start of a search: nothing is chosen, what is true was given; conditions: clauses of the variables. -/
namespace Go.Proofs.YtbahjpheaaiamaaDoor.solStart
open Go.RowKit Go.Deep base sets setsOf solSets solOps solMath solHold solMem solAdd solNew solX solProp solClose solTrail solAddM cdVal cdState cdLes cdLearn cdSolve cdX solSolve solSmall cdSmall impMath
open rupSpec (LitsIn)
set_option linter.unusedVariables false
set_option linter.unusedSimpArgs false

theorem add_X (s : Sv) (c : LS) : (addS s c).X = s.X := by
  unfold addS
  split
  · rfl
  · split
    · unfold solAdd.watS; rw [if_pos rfl]; rfl
    · unfold solAdd.watS; split <;> rfl
theorem fold_X : ∀ (cs : List LS) (s : Sv), (cs.foldl addS s).X = s.X
  | [], s => rfl
  | c :: cs, s => by rw [List.foldl_cons, fold_X cs, add_X]
theorem new_X (n : Int) (H : LS) (cs : List LS) : (newS n H cs).X = X0 cs.length := fold_X cs _
theorem x0_wt (own : Nat) : ∀ v, v ≤ 40 → X0 own (11 + v) = .int .i64 0 := fun v hv => by
  match v, hv with
  | 0, _ => rfl
  | 1, _ => rfl
  | 2, _ => rfl
  | 3, _ => rfl
  | 4, _ => rfl
  | 5, _ => rfl
  | 6, _ => rfl
  | 7, _ => rfl
  | 8, _ => rfl
  | 9, _ => rfl
  | 10, _ => rfl
  | 11, _ => rfl
  | 12, _ => rfl
  | 13, _ => rfl
  | 14, _ => rfl
  | 15, _ => rfl
  | 16, _ => rfl
  | 17, _ => rfl
  | 18, _ => rfl
  | 19, _ => rfl
  | 20, _ => rfl
  | 21, _ => rfl
  | 22, _ => rfl
  | 23, _ => rfl
  | 24, _ => rfl
  | 25, _ => rfl
  | 26, _ => rfl
  | 27, _ => rfl
  | 28, _ => rfl
  | 29, _ => rfl
  | 30, _ => rfl
  | 31, _ => rfl
  | 32, _ => rfl
  | 33, _ => rfl
  | 34, _ => rfl
  | 35, _ => rfl
  | 36, _ => rfl
  | 37, _ => rfl
  | 38, _ => rfl
  | 39, _ => rfl
  | 40, _ => rfl
  | v + 41, h => exact absurd h (by omega)
theorem x0_wg (own : Nat) : Wg (X0 own) 1024 (1000 * 1024) := ⟨fun v hv => ⟨0, x0_wt own v hv, by omega, by omega⟩, rfl⟩
theorem cd_start {n : Nat} {Z : List LS} {H : LS} {s : Sv} (hn : n ≤ 40) (hf : Full s) (hC : s.C = Z) (hv : s.n = n) (hH : s.H = H) (hT : s.T = []) (hK : s.K = []) (hw : Wf H) (hc : Cons H) (hZ : ∀ c ∈ Z, InN n c) : Cd n Z H H s := by
  refine ⟨hf, ⟨⟨hw, by rw [hT, hH]; rfl, by rw [hT]; trivial⟩, by rw [hK]; exact List.Pairwise.nil, fun k hk => (by rw [hK] at hk; cases hk), fun k hk => (by rw [hK] at hk; cases hk)⟩, ⟨hc, hv, hn, fun i hi => hZ _ (by rw [← hC]; exact cl_mem hi), fun p hp => (by rw [hT] at hp; cases hp), fun i hi H' hH' => hH'.cl _ (by rw [← hC]; exact cl_mem hi), by rw [hC]; exact List.take_length, by rw [hK]; exact List.Pairwise.nil, fun i hi => (by rw [hT] at hi; exact absurd hi (Nat.not_lt_zero _)), fun H' hH' hs => ?_, ?_⟩, fun k hk => (by rw [hK] at hk; cases hk)⟩ <;> unfold atK lev0 <;> rw [hK, hT]
  · exact hs
  · exact Sub.refl _
theorem in_n {n : Nat} {Z : List (List Int)} (hl : LitsIn (n + 1) Z) : ∀ c ∈ Z.map setL, InN n c := fun c hc l hm => by
  obtain ⟨zs, h1, rfl⟩ := List.mem_map.1 hc
  have h2 := (mem_lits (hl zs h1) l).1 hm
  have := hl zs h1 l h2
  omega
theorem wf_all {n : Nat} {Z : List (List Int)} (hn : n ≤ 40) (hl : LitsIn (n + 1) Z) : ∀ c ∈ Z.map setL, Wf c := fun c hc => by
  obtain ⟨zs, h1, rfl⟩ := List.mem_map.1 hc
  exact wf_lits hn (hl zs h1)
theorem start_srch {n : Nat} {Z : List (List Int)} {H : LS} (hn : n ≤ 40) (hl : LitsIn (n + 1) Z) (hw : Wf H) (hc : Cons H) {M mb : Nat} {Crd : Sv → Nat → Prop} {F : Nat → Value} {V : Int → Value} {w : World} (hs : Sol 0 M mb F V (newS n H (Z.map setL)) w) (hv : V 0 = nilV) (r : Nat) (hcr : Crd (newS n H (Z.map setL)) r) : Srch n (Z.map setL) H H M mb Crd F V (newS n H (Z.map setL)) 1024 r w ∧ (newS n H (Z.map setL)).K = [] := by
  obtain ⟨f1, f2, f3, f4, f5, f6⟩ := new_full (n := n) (H := H) hw hc (wf_all hn hl)
  exact ⟨⟨hs, hv, cd_start hn f1 f2 f3 f4 f5 f6 hw hc (in_n hl), by rw [new_X]; exact x0_wg _, by omega, hcr⟩, f6⟩
end Go.Proofs.YtbahjpheaaiamaaDoor.solStart

/- The lessons thinned: a state's clauses are laid anew, some lessons left out; nothing is chosen then; conditions: none. -/
namespace Go.Proofs.YtbahjpheaaiamaaDoor.cdThin
open base sets solSets solMath solHold solAdd solProp solClose solTrail solLastT solAddM cdVal cdState cdLes cdLearn cdX solStart
set_option linter.unusedVariables false
set_option linter.unusedSimpArgs false

/-- Without clauses; what is true stays. -/
def wipeS (s : Sv) : Sv := { s with C := [], W := [], L := fun _ => [], D := [] }
theorem wipe_full {s : Sv} (h : Okay s) (hF : s.F = -1) : Full (wipeS s) := by
  have hw : ∀ i, (wipeS s).wt i = (0, 0) := fun i => rfl
  have hcl : ∀ i, (wipeS s).cl i = (0, 0) := fun i => rfl
  exact ⟨⟨h.wfH, h.cons, fun i => by rw [hcl]; exact wf_zero, rfl, fun i hi => absurd rfl hi, fun i hi => absurd rfl hi, fun x _ => List.nodup_nil, fun x i hx => (by rw [hw]; exact ⟨fun h => (by cases h), fun h => (by rcases h with h | h <;> exact absurd h.symm hx)⟩), List.Pairwise.nil, fun i hi => (by cases hi), fun i hi => (by cases hi), .inl hF⟩, fun i hi => absurd hi (Nat.not_lt_zero _)⟩
theorem fold_fullT : ∀ (cs : List LS) (s : Sv), Full s → TinH s → (∀ c ∈ cs, Wf c) → Full (cs.foldl addT s) ∧ (cs.foldl addT s).C = s.C ++ cs ∧ (cs.foldl addT s).n = s.n ∧ (cs.foldl addT s).H = s.H ∧ (cs.foldl addT s).T = s.T ∧ (cs.foldl addT s).K = s.K ∧ (cs.foldl addT s).X = s.X
  | [], s, h, _, _ => ⟨h, by simp, rfl, rfl, rfl, rfl, rfl⟩
  | c :: cs, s, h, ht, hw => by
    obtain ⟨e1, e2, e3, e4, e5, e6⟩ := addT_same s c
    obtain ⟨f1, f2, f3, f4, f5, f6, f7⟩ := fold_fullT cs (addT s c) (add_fullT h (hw c (by simp)) ht) (fun p hp => by rw [e4] at hp; rw [e3]; exact ht p hp) (fun d hd => hw d (by simp [hd]))
    exact ⟨f1, by rw [List.foldl_cons, f2, e1]; simp, f3.trans e2, f4.trans e3, f5.trans e4, f6.trans e5, f7.trans e6⟩
theorem tin_cd {n : Nat} {Z : List LS} {G B : LS} {s : Sv} (h : Cd n Z G B s) : TinH s := fun p hp => by
  rw [h.stk.tr.h, mem_ht _ _ h.stk.tr.fresh, Bool.or_eq_true]
  exact .inr (has_iff.2 (by
    obtain ⟨i, hi, rfl⟩ := List.getElem_of_mem hp
    exact ⟨i, hi, by rw [List.getElem?_eq_getElem hi]; rfl⟩))
theorem wf_of {n : Nat} {Z : List LS} {G B : LS} {s : Sv} (h : Cd n Z G B s) {c : LS} (hc : c ∈ s.C) : Wf c := by
  obtain ⟨i, hi, e⟩ := List.mem_iff_getElem.1 hc
  have e2 : s.cl i = c := by unfold Sv.cl; rw [List.getElem?_eq_getElem hi]; exact e
  rw [← e2]
  exact h.full.ok.wfC i
theorem at_of {C : List LS} {s : Sv} (hC : s.C = C) {i : Nat} (hi : i < s.C.length) : s.cl i ∈ C := by rw [← hC]; exact cl_mem hi
theorem cd_thin {n : Nat} {Z : List LS} {G B : LS} {s : Sv} {kept : List LS} (h : Cd n Z G B s) (hK : s.K = []) (hF : s.F = -1) (k1 : kept.take Z.length = Z) (k2 : ∀ c ∈ kept, c ∈ s.C) :
    Cd n Z G B (kept.foldl addT (wipeS s)) ∧ (kept.foldl addT (wipeS s)).C = kept ∧ (kept.foldl addT (wipeS s)).X = s.X ∧ (kept.foldl addT (wipeS s)).K = [] := by
  obtain ⟨f1, f2, f3, f4, f5, f6, f7⟩ := fold_fullT kept (wipeS s) (wipe_full h.full.ok hF) (tin_cd (s := s) h) (fun c hc => wf_of h (k2 c hc))
  have f2 : (kept.foldl addT (wipeS s)).C = kept := by rw [f2]; rfl
  have f3 : (kept.foldl addT (wipeS s)).n = s.n := f3
  have f4 : (kept.foldl addT (wipeS s)).H = s.H := f4
  have f5 : (kept.foldl addT (wipeS s)).T = s.T := f5
  have f6 : (kept.foldl addT (wipeS s)).K = [] := f6.trans hK
  have f7 : (kept.foldl addT (wipeS s)).X = s.X := f7
  obtain ⟨s2, hs2⟩ : ∃ s2, kept.foldl addT (wipeS s) = s2 := ⟨_, rfl⟩
  rw [hs2] at f1 f2 f3 f4 f5 f6 f7 ⊢
  have hold : ∀ i, i < s2.C.length → ∃ j, j < s.C.length ∧ s.cl j = s2.cl i := fun i hi => by
    obtain ⟨j, hj, e⟩ := List.mem_iff_getElem.1 (k2 _ (at_of f2 hi))
    exact ⟨j, hj, by unfold Sv.cl; rw [List.getElem?_eq_getElem hj]; exact e⟩
  refine ⟨⟨f1, ⟨⟨h.stk.tr.wf, by rw [f4, f5]; exact h.stk.tr.h, by rw [f5]; exact h.stk.tr.fresh⟩, by rw [f6]; exact List.Pairwise.nil, fun k hk => (by rw [f6] at hk; cases hk), fun k hk => (by rw [f6] at hk; cases hk)⟩, ⟨h.q.consG, f3.trans h.q.nv, h.q.n40, fun i hi => ?_, fun p hp => ?_, fun i hi => ?_, by rw [f2]; exact k1, by rw [f6]; exact List.Pairwise.nil, fun i hi ⟨k, hk, _⟩ => (by rw [f6] at hk; cases hk), fun H hH hB => ?_, ?_⟩, fun k hk => (by rw [f6] at hk; cases hk)⟩, f2, f7, f6⟩
  · obtain ⟨j, hj, e⟩ := hold i hi
    rw [← e]; exact h.q.inC j hj
  · rw [f5] at hp; exact h.q.inT p hp
  · obtain ⟨j, hj, e⟩ := hold i hi
    rw [← e]; exact h.q.imp j hj
  · have h1 := h.q.low H hH hB
    have e : atK G s2 (lev0 s2) = atK G s (lev0 s) := by
      unfold lev0 atK
      rw [f6, f5, hK]
    rw [e]; exact h1
  · have e : atK G s2 (lev0 s2) = atK G s (lev0 s) := by
      unfold lev0 atK
      rw [f6, f5, hK]
    rw [e]; exact h.q.bas
end Go.Proofs.YtbahjpheaaiamaaDoor.cdThin

/- A solver's clauses are taken out of its memory: a new map, no rows but those of the trail and the choices; a sorted row's sets; conditions: none. -/
namespace Go.Proofs.YtbahjpheaaiamaaDoor.solWipe
open Go.RowKit Go.Deep Go.Maps Go.WideMaps Go base sets setsOf solSets solOps solMath solHold solMem solSolve cdThin chkNew sortSets
set_option linter.unusedVariables false
set_option linter.unusedSimpArgs false

/-- The cells of a solver that was wiped. -/
def wipeF (F : Nat → Value) (mb' : Nat) (j : Nat) : Value := if j = 2 ∨ j = 3 ∨ j = 9 then nilV else if j = 4 then .map (some mb') else F j
theorem wipe_val (F : Nat → Value) (V : Int → Value) (mb' : Nat) (a : Int) : valA (wipeF F mb') (fun _ => nilV) a = if a = 1003 then valA F V 1003 else if a = 1004 then valA F V 1004 else nilV := by
  unfold valA
  by_cases h1 : a = 1001
  · subst h1; rfl
  by_cases h2 : a = 1002
  · subst h2; rfl
  by_cases h3 : a = 1003
  · subst h3; rfl
  by_cases h4 : a = 1004
  · subst h4; rfl
  by_cases h5 : a = 1005
  · subst h5; rfl
  rw [if_neg h1, if_neg h2, if_neg h3, if_neg h4, if_neg h5, if_neg h3, if_neg h4]
theorem wipe_blk (F : Nat → Value) (V : Int → Value) (mb' : Nat) {a : Int} {g : Nat} (h : blk 0 (wipeF F mb') (fun _ => nilV) a = some g) : (a = 1003 ∨ a = 1004) ∧ blk 0 F V a = some g := by
  unfold blk at h ⊢
  by_cases h0 : a = 0
  · rw [if_pos h0] at h; cases h
  rw [if_neg h0, wipe_val F V] at h
  rw [if_neg h0]
  by_cases h3 : a = 1003
  · rw [if_pos h3] at h; subst h3; exact ⟨.inl rfl, h⟩
  rw [if_neg h3] at h
  by_cases h4 : a = 1004
  · rw [if_pos h4] at h; subst h4; exact ⟨.inr rfl, h⟩
  rw [if_neg h4] at h
  cases h
theorem sol_wipe {M mb mb' : Nat} {F : Nat → Value} {V : Int → Value} {s : Sv} {w w' : World} (h : Sol 0 M mb F V s w) (hm : w.heap.size ≤ mb') (hc : w'.rowIs M 69 56 (wipeF F mb')) (ho : w'.ownsMap Tryd.prog 3 hE mb' 81 (.map []))
    (hb : ∀ j, j < w.heap.size → j ≠ M → blk 0 F V 1001 ≠ some j → w'.heap[j]? = w.heap[j]?) (os : w'.os = w.os) (tape : w'.tape = w.tape) (out : w'.output = w.output) (size : w.heap.size ≤ w'.heap.size) :
    Sol 0 M mb' (wipeF F mb') (fun _ => nilV) (wipeS s) w' ∧ ChgM M mb mb' (blk 0 F V) (blk 0 (wipeF F mb') (fun _ => nilV)) w w' := by
  have hlt := h.lt
  have keepR : ∀ a, (a = 1003 ∨ a = 1004) → ∀ g, (valA F V a).ownBlock = some g → w'.heap[g]? = w.heap[g]? := fun a ha g hg => by
    have h0 : a ≠ 0 := by rcases ha with rfl | rfl <;> decide
    have hbg : blk 0 F V a = some g := by rw [blk_ne h0]; exact hg
    exact hb g (h.blt hbg) (h.off a g hbg).1 (fun e => h.apart a 1001 g (by rcases ha with rfl | rfl <;> decide) hbg e)
  refine ⟨⟨hc, h.f0, rfl, h.f5, h.f6, h.f10, fun j hj => ?_, ⟨_, ho, mapV_new⟩, fun a ha => ?_, fun a b g hab h1 h2 => ?_, fun a g hg => ?_, by omega, fun j hj => ?_, ⟨h.tabo.1, ?_, fun a e => ?_⟩⟩, ⟨os, tape, out, size, fun j hj h1 h2 h3 => hb j hj h1 (h3 1001), fun a j ha => .inl (wipe_blk F V mb' ha).2, .inr hm⟩⟩
  · have : ¬ (j = 2 ∨ j = 3 ∨ j = 9) ∧ ¬ j = 4 := by omega
    unfold wipeF
    rw [if_neg this.1, if_neg this.2]
    exact h.fx j hj
  · rw [wipe_val F V]
    by_cases h3 : a = 1003
    · subst h3
      rw [if_pos rfl]
      exact row_kept (h.rows 1003 (by decide)) (keepR 1003 (.inl rfl))
    by_cases h4 : a = 1004
    · subst h4
      rw [if_neg h3, if_pos rfl]
      exact row_kept (h.rows 1004 (by decide)) (keepR 1004 (.inr rfl))
    rw [if_neg h3, if_neg h4]
    unfold RowA
    split
    · exact World.ownsRow_nil _ _ _ _
    · split
      · exact World.ownsRow_nil _ _ _ _
      · split
        · exact .inl ⟨rfl, rfl⟩
        · split
          · exact World.ownsRow_nil _ _ _ _
          · rfl
  · exact h.apart a b g hab (wipe_blk F V mb' h1).2 (wipe_blk F V mb' h2).2
  · have h9 := (wipe_blk F V mb' hg).2
    have := h.blt h9
    exact ⟨(h.off a g h9).1, by omega⟩
  · have hcj := h.tab j hj
    have hl := World.block_lt_of_cell? _ _ hcj
    exact (World.cell?_of_block (a := ⟨0, j, none⟩) (hb _ hl h.tabo.1 (h.tabo.2.2 1001))).trans hcj
  · have hcj := h.tab 0 (by decide)
    have hl := World.block_lt_of_cell? _ _ hcj
    simp only at hl
    omega
  · exact h.tabo.2.2 a (wipe_blk F V mb' e).2
/-- The clauses' row as one whose tail may be sorted. -/
theorem sol_row {M mb : Nat} {F : Nat → Value} {V : Int → Value} {s : Sv} {w : World} (h : Sol 0 M mb F V s w) (hC : 0 < s.C.length) : ∃ g cap N, F 2 = .slice (some ⟨g, 0, none⟩) s.C.length cap ∧ blk 0 F V 1001 = some g ∧ s.C.length ≤ cap ∧ cap ≤ maxLen ∧ s.C.length * 2 ≤ N ∧ ∃ f, w.rowIs g 51 N f ∧ ∀ i, i < s.C.length → f (i * 2) = .int .u64 (s.C[i]?.getD (0, 0)).1 ∧ f (i * 2 + 1) = .int .u64 (s.C[i]?.getD (0, 0)).2 := by
  have hr : w.ownsRow 0 51 2 (F 2) s.C.length (flatC s.C) := h.rows 1001 (by decide)
  obtain ⟨h1, h2⟩ := hr
  rcases h2 with ⟨e, e2⟩ | ⟨g, cap, cur, e, hg, hh, hn, hm, hs, ht⟩
  · omega
  · have hcell : ∀ j, j < s.C.length * 2 → cur[j]? = (flatC s.C)[j]? := fun j hj => by
      rw [← ht, List.getElem?_take, if_pos hj, Array.getElem?_toList]
    refine ⟨g, cap, cap * 2, e, by rw [blk_ne (by decide)]; show (F 2).ownBlock = some g; rw [e]; rfl, hn, hm, by omega, fun j => cur[j]?.getD undef, ⟨cur, hh, hs, fun i hi => ?_⟩, fun i hi => ?_⟩
    · show cur[i]? = some (cur[i]?.getD undef)
      rw [Array.getElem?_eq_getElem (by omega)]; rfl
    · obtain ⟨g1, g2⟩ := flatC_get s.C i hi
      dsimp only
      rw [hcell _ (by omega), hcell _ (by omega), g1, g2]
      exact ⟨rfl, rfl⟩
/-- What the row holds once its tail was sorted: the first ones as they were, then some of the others. -/
theorem kept_of {C : List LS} {g N o : Nat} {f : Nat → Value} {w0 w : World} (ho : o ≤ C.length) (h : Stt (fun c => c ∈ C) g N (o * 2) (C.length - o) f w0 w) (hf : ∀ i, i < C.length → f (i * 2) = .int .u64 (C[i]?.getD (0, 0)).1 ∧ f (i * 2 + 1) = .int .u64 (C[i]?.getD (0, 0)).2) :
    ∀ k, k ≤ C.length → ∃ kept : List LS, kept.length = k ∧ (∀ i, i < k → w.cell? ⟨g, i * 2, none⟩ = some (.int .u64 (kept[i]?.getD (0, 0)).1) ∧ w.cell? ⟨g, i * 2 + 1, none⟩ = some (.int .u64 (kept[i]?.getD (0, 0)).2)) ∧ (∀ i, i < k → i < o → kept[i]? = C[i]?) ∧ ∀ c ∈ kept, c ∈ C := by
  obtain ⟨f1, h1, h2, h3⟩ := h.row
  have hfit := h.fit
  have hN : ∀ i, i < C.length → i * 2 < N ∧ i * 2 + 1 < N := fun i hi => by omega
  clear hfit
  intro k
  induction k with
  | zero => intro _; exact ⟨[], rfl, fun i hi => absurd hi (Nat.not_lt_zero _), fun i hi => absurd hi (Nat.not_lt_zero _), fun c hc => by cases hc⟩
  | succ k ih =>
    intro hk
    obtain ⟨kept, e1, e2, e3, e4⟩ := ih (by omega)
    have hkC : k < C.length := by omega
    obtain ⟨c, c1, c2, c3, c4⟩ : ∃ c : LS, c ∈ C ∧ f1 (k * 2) = .int .u64 c.1 ∧ f1 (k * 2 + 1) = .int .u64 c.2 ∧ (k < o → C[k]? = some c) := by
      by_cases hko : k < o
      · refine ⟨C[k], List.getElem_mem hkC, ?_, ?_, fun _ => List.getElem?_eq_getElem hkC⟩
        · rw [h3 _ (.inl (by omega)), (hf k hkC).1, List.getElem?_eq_getElem hkC]; rfl
        · rw [h3 _ (.inl (by omega)), (hf k hkC).2, List.getElem?_eq_getElem hkC]; rfl
      · obtain ⟨c, d1, d2, d3⟩ := h2 (k - o) (by omega)
        rw [show o * 2 + (k - o) * 2 = k * 2 by omega] at d2 d3
        exact ⟨c, d1, d2, d3, fun h => absurd h hko⟩
    refine ⟨kept ++ [c], by rw [List.length_append, e1]; rfl, fun i hi => ?_, fun i hi hio => ?_, fun d hd => ?_⟩
    · by_cases e : i = k
      · subst e
        rw [List.getElem?_append_right (by omega), e1, Nat.sub_self]
        exact ⟨by rw [h1.cell (hN i hkC).1, c2]; rfl, by rw [h1.cell (hN i hkC).2, c3]; rfl⟩
      · rw [List.getElem?_append_left (by omega)]
        exact e2 i (by omega)
    · by_cases e : i = k
      · subst e
        rw [List.getElem?_append_right (by omega), e1, Nat.sub_self, c4 hio]; rfl
      · rw [List.getElem?_append_left (by omega)]
        exact e3 i (by omega) hio
    · rcases List.mem_append.1 hd with hd | hd
      · exact e4 d hd
      · rw [List.mem_singleton] at hd; rw [hd]; exact c1
end Go.Proofs.YtbahjpheaaiamaaDoor.solWipe
