/- SatMath; ImpMath; SolStart: one text, so that the claim has fewer files. -/
import Derived.Test.YtikhnfgpopcdjaaDoorPart44
import Derived.Test.YtikhnfgpopcdjaaDoorPart42
import Derived.Test.YtikhnfgpopcdjaaDoorPart29
import Derived.Test.YtikhnfgpopcdjaaDoorPart27
import Derived.Test.YtikhnfgpopcdjaaDoorPart39
/- What the rules of a proof keep: a clause that propagation tells is true in all models, one that resolves away takes no last model; what checks has none, and a refutation checks; conditions: literals of the formula. -/
namespace Go.Proofs.YtikhnfgpopcdjaaDoor.satMath
open sets solSets solMath solHold solProp solNew solClose solTrail chkNew chkMath ratMath chkSem runS leastSem
open rupSpec (LitsIn)
set_option linter.unusedVariables false
set_option linter.unusedSimpArgs false

end Go.Proofs.YtikhnfgpopcdjaaDoor.satMath

/- A clause is implied just when each set of whole values that makes all clauses true meets it: told by sets, by values, and by lists of Booleans; conditions: a right formula, a right clause. -/
namespace Go.Proofs.YtikhnfgpopcdjaaDoor.impMath
open base copy cnf eval sets setsOf solSets solMath solHold solProp solNew solFace solClose chkNew runS leastSem cdVal cdState satMath propsMath
open rupSpec (LitsIn)
open rupFaceS (cnf_in clause_in)
set_option linter.unusedVariables false
set_option linter.unusedSimpArgs false

/-- Implied, told by sets of literals. -/
def impM (n : Nat) (Z : List (List Int)) (zs : List Int) : Prop := ∀ H, Mdl n (Z.map setL) H → meetL (setL zs) H = true
theorem wf_lits {n : Nat} {zs : List Int} (hn : n ≤ 40) (h : ∀ z ∈ zs, z ≠ 0 ∧ z.natAbs < n + 1) : Wf (setL zs) := wf_set fun z hz => by
  have := h z hz
  exact ⟨this.1, by omega⟩
theorem mem_lits {n : Nat} {zs : List Int} (h : ∀ z ∈ zs, z ≠ 0 ∧ z.natAbs < n + 1) (l : Int) : mem (setL zs) l = true ↔ l ∈ zs := by
  rw [mem_set (fun z hz => (h z hz).1), List.contains_iff_mem]
theorem meet_lits {n : Nat} {zs : List Int} {H : LS} (hn : n ≤ 40) (h : ∀ z ∈ zs, z ≠ 0 ∧ z.natAbs < n + 1) : meetL (setL zs) H = true ↔ ∃ z ∈ zs, mem H z = true := by
  rw [meet_iff (wf_lits hn h)]
  exact ⟨fun ⟨l, h1, h2⟩ => ⟨l, (mem_lits h l).1 h1, h2⟩, fun ⟨l, h1, h2⟩ => ⟨l, (mem_lits h l).2 h1, h2⟩⟩
/-- A list of Booleans as a set is a model just when it makes each clause true. -/
theorem asg_mdl {n : Nat} (hn : n ≤ 40) {Z : List (List Int)} (hz : cnfB n Z = true) {vs : List Bool} : Mdl n (Z.map setL) (asg vs n) ↔ cnfT vs Z = true := by
  have hl : LitsIn (n + 1) Z := cnf_in (by simpa using hz)
  have hlb : ∀ c ∈ Z, ∀ z ∈ c, litB n z = true := fun c hc z h1 => by
    obtain ⟨i, hi, e⟩ := List.mem_iff_getElem.1 hc
    have hcl := cnf_clause hz i hi
    rw [List.getElem?_eq_getElem hi] at hcl
    have hcl : clauseB n c = true := by rw [← e]; exact hcl
    unfold clauseB at hcl
    rw [Bool.and_eq_true, List.all_eq_true] at hcl
    exact hcl.2 z h1
  constructor
  · intro h
    unfold cnfT
    rw [List.all_eq_true]
    intro c hc
    unfold clauseT
    rw [List.any_eq_true]
    obtain ⟨z, h1, h2⟩ := (meet_lits hn (hl c hc)).1 (h.cl _ (List.mem_map.2 ⟨c, hc, rfl⟩))
    exact ⟨z, h1, by rw [← asg_lit hn (hlb c hc z h1)]; exact h2⟩
  · intro h
    refine ⟨asg_wf hn, asg_cons hn, fun v h1 h2 => ?_, fun c hc => ?_⟩
    · cases hb : vs[v - 1]?.getD false with
      | true => exact .inl ((mem_asg hn _).2 ⟨by omega, by omega, by rw [show ((v : Int)).natAbs - 1 = v - 1 by omega, hb]; simp; omega⟩)
      | false => exact .inr ((mem_asg hn _).2 ⟨by omega, by omega, by rw [show (-(v : Int)).natAbs - 1 = v - 1 by omega, hb]; simp⟩)
    · obtain ⟨ys, hy, rfl⟩ := List.mem_map.1 hc
      unfold cnfT at h
      rw [List.all_eq_true] at h
      have h2 := h ys hy
      unfold clauseT at h2
      rw [List.any_eq_true] at h2
      obtain ⟨z, h3, h4⟩ := h2
      exact (meet_lits hn (hl ys hy)).2 ⟨z, h3, by rw [asg_lit hn (hlb ys hy z h3)]; exact h4⟩
/-- Values of a model, as a list of Booleans. -/
def valsH (n : Nat) (H : LS) : List Bool := (List.range n).map fun (i : Nat) => mem H ((i : Int) + 1)
theorem vals_lit {n : Nat} {Z : List LS} {H : LS} (h : Mdl n Z H) {z : Int} (h0 : z ≠ 0) (hz : z.natAbs ≤ n) : litT (valsH n H) z = mem H z := by
  unfold litT valsH
  rw [List.getElem?_map, List.getElem?_range (by omega)]
  dsimp only [Option.map_some, Option.getD_some]
  rw [show ((z.natAbs - 1 : Nat) : Int) + 1 = (z.natAbs : Int) by omega]
  by_cases hp : 0 < z
  · rw [show ((z.natAbs : Nat) : Int) = z by omega]
    simp [hp]
  · rw [show ((z.natAbs : Nat) : Int) = -z by omega]
    cases hm : mem H (-z) with
    | true =>
      have := h.cons _ hm
      rw [Int.neg_neg] at this
      rw [this]; simp; omega
    | false =>
      have := h.all z.natAbs (by omega) hz
      rw [show ((z.natAbs : Nat) : Int) = -z by omega, Int.neg_neg, hm] at this
      rw [this.resolve_left (by simp)]; simp; omega
theorem impM_vals {n : Nat} (hn : n ≤ 40) {Z : List (List Int)} (hz : cnfB n Z = true) {zs : List Int} (hzs : ∀ z ∈ zs, litB n z = true) : impM n Z zs ↔ ∀ vs : List Bool, vs.length = n → cnfT vs Z = true → clauseT vs zs = true := by
  have hzl : ∀ z ∈ zs, z ≠ 0 ∧ z.natAbs < n + 1 := fun z h => by
    obtain ⟨h0, h1, h2⟩ := litB_range (hzs z h)
    exact ⟨h0, by omega⟩
  have hl : LitsIn (n + 1) Z := cnf_in (by simpa using hz)
  constructor
  · intro h vs hv hm
    obtain ⟨z, h1, h2⟩ := (meet_lits hn hzl).1 (h _ ((asg_mdl hn hz).2 hm))
    unfold clauseT
    rw [List.any_eq_true]
    exact ⟨z, h1, by rw [← asg_lit hn (hzs z h1)]; exact h2⟩
  · intro h H hH
    have hc : cnfT (valsH n H) Z = true := by
      unfold cnfT
      rw [List.all_eq_true]
      intro c hc
      unfold clauseT
      rw [List.any_eq_true]
      obtain ⟨z, h1, h2⟩ := (meet_lits hn (hl c hc)).1 (hH.cl _ (List.mem_map.2 ⟨c, hc, rfl⟩))
      have := hl c hc z h1
      exact ⟨z, h1, by rw [vals_lit hH this.1 (by omega)]; exact h2⟩
    have h3 := h _ (by unfold valsH; rw [List.length_map, List.length_range]) hc
    unfold clauseT at h3
    rw [List.any_eq_true] at h3
    obtain ⟨z, h1, h2⟩ := h3
    have := hzl z h1
    exact (meet_lits hn hzl).2 ⟨z, h1, by rw [← vals_lit hH this.1 (by omega)]; exact h2⟩
/-- What a search for a model that makes the clause false says of it. -/
theorem imp_no {n : Nat} (hn : n ≤ 40) {Z : List (List Int)} {zs : List Int} (hz : ∀ z ∈ zs, z ≠ 0 ∧ z.natAbs < n + 1) (h : ¬ ∃ H, Mdl n (Z.map setL) H ∧ Sub (turnL (setL zs)) H) : impM n Z zs := fun H hH => Classical.byContradiction fun hno => h ⟨H, hH, fun l hl => by
  have hr := (wf_turn (wf_lits hn hz)).range hl
  rw [mem_turn hr.1] at hl
  have h1 := (mem_lits hz _).1 hl
  have h2 := hz _ h1
  have h3 : mem H (-l) = false := by
    cases h4 : mem H (-l) with
    | false => rfl
    | true => exact absurd ((meet_lits hn hz).2 ⟨_, h1, h4⟩) hno
  have h5 := hH.all l.natAbs (by omega) (by omega)
  rcases (show (l.natAbs : Int) = l ∨ (l.natAbs : Int) = -l by omega) with e | e
  · rw [e, h3] at h5; exact h5.resolve_right (by simp)
  · rw [e, h3, Int.neg_neg] at h5; exact h5.resolve_left (by simp)⟩
theorem imp_yes {n : Nat} (hn : n ≤ 40) {Z : List (List Int)} {zs : List Int} (hz : ∀ z ∈ zs, z ≠ 0 ∧ z.natAbs < n + 1) {H : LS} (hH : Mdl n (Z.map setL) H) (hs : Sub (turnL (setL zs)) H) : ¬ impM n Z zs := fun h => by
  obtain ⟨z, h1, h2⟩ := (meet_lits hn hz).1 (h H hH)
  have h3 := hs (-z) (by rw [mem_turn (by have := (hz z h1).1; omega), Int.neg_neg]; exact (mem_lits hz z).2 h1)
  have h4 := hH.cons z h2
  rw [h3] at h4; cases h4
/-- A clause with a literal and its opposite is implied by all. -/
theorem imp_all {n : Nat} (hn : n ≤ 40) {Z : List (List Int)} {zs : List Int} (hz : ∀ z ∈ zs, z ≠ 0 ∧ z.natAbs < n + 1) {l : Int} (h1 : mem (setL zs) l = true) (h2 : mem (setL zs) (-l) = true) : impM n Z zs := fun H hH => by
  have k1 := (mem_lits hz l).1 h1
  have k2 := (mem_lits hz _).1 h2
  have := hz l k1
  have h5 := hH.all l.natAbs (by omega) (by omega)
  refine (meet_lits hn hz).2 ?_
  rcases (show (l.natAbs : Int) = l ∨ (l.natAbs : Int) = -l by omega) with e | e
  · rw [e] at h5
    exact h5.elim (fun h => ⟨l, k1, h⟩) (fun h => ⟨-l, k2, h⟩)
  · rw [e, Int.neg_neg] at h5
    exact h5.elim (fun h => ⟨-l, k2, h⟩) (fun h => ⟨l, k1, h⟩)
end Go.Proofs.YtikhnfgpopcdjaaDoor.impMath

/- A solver that has just been made of a formula's clauses is at the start of a search: nothing is chosen, what is true was given; conditions: clauses of the variables. -/
namespace Go.Proofs.YtikhnfgpopcdjaaDoor.solStart
open Go.RowKit Go.Deep base sets setsOf solSets solOps solMath solHold solMem solAdd solNew solX solProp solClose solTrail solAddM cdVal cdState cdLes cdLearn cdSolve cdX solSolve solSmall cdSmall impMath
open rupSpec (LitsIn)
set_option linter.unusedVariables false
set_option linter.unusedSimpArgs false

theorem add_X (s : Sv) (c : LS) : (addS s c).X = s.X := by
  unfold addS
  split
  · rfl
  · split
    · unfold solAdd.watS; rw [if_pos rfl]; rfl
    · unfold solAdd.watS; split <;> rfl
theorem fold_X : ∀ (cs : List LS) (s : Sv), (cs.foldl addS s).X = s.X
  | [], s => rfl
  | c :: cs, s => by rw [List.foldl_cons, fold_X cs, add_X]
theorem new_X (n : Int) (H : LS) (cs : List LS) : (newS n H cs).X = X0 cs.length := fold_X cs _
theorem x0_wt (own : Nat) : ∀ v, v ≤ 40 → X0 own (11 + v) = .int .i64 0 := fun v hv => by
  match v, hv with
  | 0, _ => rfl
  | 1, _ => rfl
  | 2, _ => rfl
  | 3, _ => rfl
  | 4, _ => rfl
  | 5, _ => rfl
  | 6, _ => rfl
  | 7, _ => rfl
  | 8, _ => rfl
  | 9, _ => rfl
  | 10, _ => rfl
  | 11, _ => rfl
  | 12, _ => rfl
  | 13, _ => rfl
  | 14, _ => rfl
  | 15, _ => rfl
  | 16, _ => rfl
  | 17, _ => rfl
  | 18, _ => rfl
  | 19, _ => rfl
  | 20, _ => rfl
  | 21, _ => rfl
  | 22, _ => rfl
  | 23, _ => rfl
  | 24, _ => rfl
  | 25, _ => rfl
  | 26, _ => rfl
  | 27, _ => rfl
  | 28, _ => rfl
  | 29, _ => rfl
  | 30, _ => rfl
  | 31, _ => rfl
  | 32, _ => rfl
  | 33, _ => rfl
  | 34, _ => rfl
  | 35, _ => rfl
  | 36, _ => rfl
  | 37, _ => rfl
  | 38, _ => rfl
  | 39, _ => rfl
  | 40, _ => rfl
  | v + 41, h => exact absurd h (by omega)
theorem x0_wg (own : Nat) : Wg (X0 own) 1024 (1000 * 1024) := ⟨fun v hv => ⟨0, x0_wt own v hv, by omega, by omega⟩, rfl⟩
theorem cd_start {n : Nat} {Z : List LS} {H : LS} {s : Sv} (hn : n ≤ 40) (hf : Full s) (hC : s.C = Z) (hv : s.n = n) (hH : s.H = H) (hT : s.T = []) (hK : s.K = []) (hw : Wf H) (hc : Cons H) (hZ : ∀ c ∈ Z, InN n c) : Cd n Z H H s := by
  refine ⟨hf, ⟨⟨hw, by rw [hT, hH]; rfl, by rw [hT]; trivial⟩, by rw [hK]; exact List.Pairwise.nil, fun k hk => (by rw [hK] at hk; cases hk), fun k hk => (by rw [hK] at hk; cases hk)⟩, ⟨hc, hv, hn, fun i hi => hZ _ (by rw [← hC]; exact cl_mem hi), fun p hp => (by rw [hT] at hp; cases hp), fun i hi H' hH' => hH'.cl _ (by rw [← hC]; exact cl_mem hi), by rw [hC]; exact List.take_length, by rw [hK]; exact List.Pairwise.nil, fun i hi => (by rw [hT] at hi; exact absurd hi (Nat.not_lt_zero _)), fun H' hH' hs => ?_⟩, fun k hk => (by rw [hK] at hk; cases hk)⟩
  unfold atK lev0
  rw [hK, hT]
  exact hs
theorem in_n {n : Nat} {Z : List (List Int)} (hl : LitsIn (n + 1) Z) : ∀ c ∈ Z.map setL, InN n c := fun c hc l hm => by
  obtain ⟨zs, h1, rfl⟩ := List.mem_map.1 hc
  have h2 := (mem_lits (hl zs h1) l).1 hm
  have := hl zs h1 l h2
  omega
theorem wf_all {n : Nat} {Z : List (List Int)} (hn : n ≤ 40) (hl : LitsIn (n + 1) Z) : ∀ c ∈ Z.map setL, Wf c := fun c hc => by
  obtain ⟨zs, h1, rfl⟩ := List.mem_map.1 hc
  exact wf_lits hn (hl zs h1)
theorem start_srch {n : Nat} {Z : List (List Int)} {H : LS} (hn : n ≤ 40) (hl : LitsIn (n + 1) Z) (hw : Wf H) (hc : Cons H) {M mb : Nat} {Crd : Sv → Nat → Prop} {F : Nat → Value} {V : Int → Value} {w : World} (hs : Sol 0 M mb F V (newS n H (Z.map setL)) w) (hv : V 0 = nilV) (r : Nat) (hcr : Crd (newS n H (Z.map setL)) r) : Srch n (Z.map setL) H H M mb Crd F V (newS n H (Z.map setL)) 1024 r w ∧ (newS n H (Z.map setL)).K = [] := by
  obtain ⟨f1, f2, f3, f4, f5, f6⟩ := new_full (n := n) (H := H) hw hc (wf_all hn hl)
  exact ⟨⟨hs, hv, cd_start hn f1 f2 f3 f4 f5 f6 hw hc (in_n hl), by rw [new_X]; exact x0_wg _, by omega, hcr⟩, f6⟩
theorem start_small {n : Nat} {Z : List (List Int)} {H : LS} (hn : n ≤ 40) (hl : LitsIn (n + 1) Z) (hw : Wf H) (hc : Cons H) (hZ : Z.length ≤ 8388608) : Small (newS n H (Z.map setL)) 0 := by
  obtain ⟨f1, f2, f3, f4, f5, f6⟩ := new_full (n := n) (H := H) hw hc (wf_all hn hl)
  refine ⟨rfl, by rw [new_X]; rfl, by rw [new_X]; rfl, ⟨0, by rw [new_X]; rfl, by omega, by omega⟩, ⟨(Z.map setL).length, by rw [new_X]; rfl, by rw [f2]; exact Nat.le_refl _, by rw [f2]; omega, by rw [f2]; omega, by rw [List.length_map]; exact hZ⟩⟩
/-- What solve says of a solver that has just been made. -/
def SaysOf (n : Nat) (Z : List (List Int)) (H : LS) (b : Bool) : Prop := (b = true → ∃ H', Mdl n (Z.map setL) H' ∧ Sub H H') ∧ (b = false → ¬ ∃ H', Mdl n (Z.map setL) H' ∧ Sub H H')
theorem start_solve (n : Nat) (hn : n ≤ 6) (Z : List (List Int)) (H : LS) (hl : LitsIn (n + 1) Z) (hw : Wf H) (hc : Cons H) (hZ : Z.length ≤ 8388608) (M mb : Nat) (F : Nat → Value) (V : Int → Value) (w : World) (hs : Sol 0 M mb F V (newS n H (Z.map setL)) w) (hv : V 0 = nilV) :
    Calls Tryd.prog 19 #[.pointer (some ⟨M, 0, none⟩), .int .i64 0] w fun e w' => ∃ (b : Bool) (F' : Nat → Value) (V' : Int → Value), e = .returned (.bool b) ∧ Chg M mb (blk 0 F V) (blk 0 F' V') w w' ∧ SaysOf n Z H b := by
  obtain ⟨h1, h2⟩ := start_srch (by omega) hl hw hc hs hv 0 (start_small (by omega) hl hw hc hZ)
  refine (solve_small n hn (Z.map setL) H H M mb F V _ 1024 w h1 0 (by omega) h2).mono ?_
  rintro e w' ⟨b, F', V', p, g', r', rfl, hs', hch, ht, hf⟩
  refine ⟨b, F', V', rfl, hch, fun e => ⟨p.H, (ht e).1, ?_⟩, fun e => fun ⟨H', k1, k2⟩ => hf e ⟨H', k1, k2, .inl rfl⟩⟩
  rw [hs'.cd.stk.tr.h]
  exact sub_ht _ _ hs'.cd.stk.tr.fresh
end Go.Proofs.YtikhnfgpopcdjaaDoor.solStart
