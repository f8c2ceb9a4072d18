/- The least model, variable by variable: what is settled holds in the model at hand, and no model that goes with it is less; of no program. -/
import Derived.Test.YtbahjpheaaiamaaDoorPart45
import Derived.Test.YtbahjpheaaiamaaDoorLeastSem
namespace Go.Proofs.YtbahjpheaaiamaaDoor.cdLeast
open base sets setsOf solSets solMath solHold solAdd solProp solClose solTrail solLastT solAddM cdVal cdState cdLes cdLearn cdSolve cdX runS leastSem satMath impMath solBig
open rupSpec (LitsIn)
set_option linter.unusedVariables false
set_option linter.unusedSimpArgs false

/-- The literals of a model of the variables below v, settled; no model that goes with them is less there. -/
structure LeastAt (n : Nat) (Z : List LS) (B H : LS) (v : Nat) : Prop where
  mdl : Mdl n Z H
  wfB : Wf B
  set : ∀ l, mem B l = true ↔ l.natAbs < v ∧ mem H l = true
  opt : ∀ H', Mdl n Z H' → ∀ i : Nat, 1 ≤ i → i < v → (∀ j : Nat, 1 ≤ j → j < i → mem H (j : Int) = mem H' (j : Int)) → mem H (i : Int) = true → mem H' (i : Int) = true
theorem mem_lit {n : Nat} {Z : List LS} {H : LS} (h : Mdl n Z H) {l : Int} (h0 : l ≠ 0) (hl : l.natAbs ≤ n) : mem H l = if 0 < l then mem H (l.natAbs : Int) else !mem H (l.natAbs : Int) := by
  by_cases hp : 0 < l
  · rw [if_pos hp, show ((l.natAbs : Nat) : Int) = l by omega]
  · rw [if_neg hp, show ((l.natAbs : Nat) : Int) = -l by omega]
    cases hm : mem H l with
    | true => rw [h.cons l hm]; rfl
    | false =>
      have := h.all l.natAbs (by omega) hl
      rw [show ((l.natAbs : Nat) : Int) = -l by omega, Int.neg_neg, hm] at this
      rw [this.resolve_right (by simp)]; rfl
theorem least_one {n : Nat} {Z : List LS} {H : LS} (h : Mdl n Z H) : LeastAt n Z (0, 0) H 1 := ⟨h, wf_zero, fun l => (by
  rw [mem_zero]
  constructor
  · intro h; cases h
  · rintro ⟨h1, h2⟩
    have : l = 0 := by omega
    rw [this, h.wf.zero] at h2
    cases h2), fun H' hH' i h1 h2 => (by omega)⟩
/-- Models that go with what is settled agree there. -/
theorem agree_of {n : Nat} {Z : List LS} {B H H' : LS} {v : Nat} (h : LeastAt n Z B H v) (hv : v ≤ n + 1) (hH' : Mdl n Z H') (hs : Sub B H') : ∀ l : Int, l ≠ 0 → l.natAbs < v → mem H l = mem H' l := fun l h0 hl => by
  cases hm : mem H l with
  | true => exact (hs l ((h.set l).2 ⟨hl, hm⟩)).symm
  | false =>
    have h1 : mem H (-l) = true := by
      have := h.mdl.all l.natAbs (by omega) (by omega)
      rcases (show (l.natAbs : Int) = l ∨ (l.natAbs : Int) = -l by omega) with e | e
      · rw [e, hm] at this; exact this.resolve_left (by simp)
      · rw [e, Int.neg_neg, hm] at this; exact this.resolve_right (by simp)
    have h2 := hs (-l) ((h.set (-l)).2 ⟨by omega, h1⟩)
    have h3 := hH'.cons _ h2
    rw [Int.neg_neg] at h3
    exact h3.symm
/-- What is settled of the next variable. -/
def fixV (H : LS) (v : Nat) : Int := if mem H (v : Int) = true then (v : Int) else -(v : Int)
theorem settle_in {n : Nat} {Z : List LS} {H : LS} (h : Mdl n Z H) {v : Nat} (h1 : 1 ≤ v) (h2 : v ≤ n) : mem H (fixV H v) = true := by
  unfold fixV
  split
  · assumption
  · rename_i e
    exact (h.all v h1 h2).resolve_left e
theorem settle_ne {H : LS} {v : Nat} (h1 : 1 ≤ v) : fixV H v ≠ 0 ∧ (fixV H v).natAbs = v := by
  unfold fixV
  split <;> omega
theorem wf_add {B : LS} (h : Wf B) {x : Int} (h0 : x ≠ 0) (hl : x.natAbs ≤ 40) : Wf (withL B (onlyL x)) := wf_with h (wf_only h0 (by omega) (by omega))
/-- The step: the model at hand is the least of those that go with what is settled, of the next variable too. -/
theorem least_step {n : Nat} {Z : List LS} {B H : LS} {v : Nat} (h : LeastAt n Z B H v) (h1 : 1 ≤ v) (h2 : v ≤ n) (hn : n ≤ 40) (ho : mem H (v : Int) = true → ¬ ∃ H', Mdl n Z H' ∧ Sub B H' ∧ mem H' (-(v : Int)) = true) : LeastAt n Z (withL B (onlyL (fixV H v))) H (v + 1) := by
  obtain ⟨s1, s2⟩ := settle_ne (H := H) h1
  have s3 := settle_in h.mdl h1 h2
  refine ⟨h.mdl, wf_add h.wfB s1 (by omega), fun l => ?_, fun H' hH' i i1 i2 ha hm => ?_⟩
  · rw [mem_held s1, Bool.or_eq_true, decide_eq_true_eq, h.set]
    constructor
    · rintro (⟨a, b⟩ | rfl)
      · exact ⟨by omega, b⟩
      · exact ⟨by omega, s3⟩
    · rintro ⟨a, b⟩
      by_cases e : l.natAbs = v
      · right
        rcases (show l = v ∨ l = -(v : Int) by omega) with e2 | e2
        · subst e2
          unfold fixV; rw [if_pos b]
        · subst e2
          have := h.mdl.cons _ b
          rw [Int.neg_neg] at this
          unfold fixV; rw [if_neg (by rw [this]; simp)]
      · exact .inl ⟨by omega, b⟩
  · by_cases e : i = v
    · subst e
      refine Classical.byContradiction fun hno => ho hm ⟨H', hH', fun l hl => ?_, ?_⟩
      · obtain ⟨a, b⟩ := (h.set l).1 hl
        have h0 : l ≠ 0 := (h.wfB.range hl).1
        rw [mem_lit hH' h0 (by omega), ← ha l.natAbs (by omega) a, ← mem_lit h.mdl h0 (by omega)]
        exact b
      · exact (hH'.all i i1 h2).resolve_left hno
    · exact h.opt H' hH' i i1 (by omega) ha hm
/-- A model that goes with what is settled takes the place of the one at hand. -/
theorem least_swap {n : Nat} {Z : List LS} {B H H' : LS} {v : Nat} (h : LeastAt n Z B H v) (h1 : 1 ≤ v) (h2 : v ≤ n) (hH' : Mdl n Z H') (hs : Sub B H') : LeastAt n Z B H' v := by
  have ha := agree_of h (by omega) hH' hs
  refine ⟨hH', h.wfB, fun l => ?_, fun H2 hH2 i i1 i2 hj hm => ?_⟩
  · rw [h.set]
    constructor
    · rintro ⟨a, b⟩
      have h0 : l ≠ 0 := (h.mdl.wf.range b).1
      exact ⟨a, by rw [← ha l h0 a]; exact b⟩
    · rintro ⟨a, b⟩
      have h0 : l ≠ 0 := (hH'.wf.range b).1
      exact ⟨a, by rw [ha l h0 a]; exact b⟩
  · exact h.opt H2 hH2 i i1 i2 (fun j j1 j2 => by rw [ha (j : Int) (by omega) (by omega)]; exact hj j j1 j2) (by rw [ha (i : Int) (by omega) (by omega)]; exact hm)
/-- All variables settled: the least model. -/
theorem least_end {n : Nat} (hn : n ≤ 40) {Z : List (List Int)} (hl : LitsIn (n + 1) Z) {B H : LS} (h : LeastAt n (Z.map setL) B H (n + 1)) : Least Z (n + 1) (fun _ => 0) (valM H) := by
  refine ⟨mod_of hn hl h.mdl, fun i _ _ e => absurd rfl e, fun M' hM' _ i i1 i2 ha => ?_⟩
  have hm := mdl_of hn hl hM'
  have hv : ∀ j : Nat, 1 ≤ j → j < n + 1 → (mem (setM M' n) (j : Int) = true ↔ M' j = 1) := fun j j1 j2 => by
    rw [mem_setM hM'.1, val_pos M' (by omega)]
    exact ⟨fun h => by have := h.2.2; simpa using this, fun h => ⟨by omega, by omega, by simpa using h⟩⟩
  have hval : ∀ j : Nat, valM H j = 1 ∨ valM H j = -1 := fun j => by
    unfold valM
    split
    · exact .inl rfl
    · exact .inr rfl
  have hval2 : ∀ j : Nat, valM H j = 1 ↔ mem H (j : Int) = true := fun j => by
    unfold valM
    split
    · rename_i e; exact ⟨fun _ => e, fun _ => rfl⟩
    · rename_i e; exact ⟨fun h => (by cases h), fun h => absurd h e⟩
  have h9 := h.opt _ hm i i1 i2 (fun j j1 j2 => by
    rw [Bool.eq_iff_iff, ← hval2 j, hv j j1 (by omega), ha j j1 j2])
  have ht := hM'.1 i i1 i2
  rcases hval i with e | e
  · have := (hv i i1 i2).1 (h9 ((hval2 i).1 e))
    rw [e, this]; exact Int.le_refl _
  · rw [e]; omega
/-- A literal held without a choice joins what is settled. -/
theorem cd_settle {n : Nat} {Z : List LS} {G B : LS} {s : Sv} {x : Int} (h : Cd n Z G B s) (hK : s.K = []) (x0 : x ≠ 0) (xn : x.natAbs ≤ n) (no : mem s.H x = false ∧ mem s.H (-x) = false) : Cd n Z G (withL B (onlyL x)) (holdS s x (-1)) ∧ (holdS s x (-1)).K = [] := by
  have h40 := h.q.n40
  obtain ⟨e1, e2, e3, e4, e5⟩ := hold_same s x (-1)
  have ecl : ∀ i, (holdS s x (-1)).cl i = s.cl i := fun i => by unfold Sv.cl; rw [e1]
  have hst : ∀ i, i < s.C.length → StH s s.H i ∨ mem (s.cl i) x = true := fun i hi => .inl (h.full.st i hi)
  have hK2 : (holdS s x (-1)).K = [] := e5.trans hK
  have e8 : lev0 s = s.T.length := by unfold lev0; rw [hK]; rfl
  have e6 : lev0 (holdS s x (-1)) = s.T.length + 1 := by unfold lev0; rw [e5, hK, e4]; simp
  have e7 : atK G (holdS s x (-1)) (s.T.length + 1) = withL s.H (onlyL x) := by
    unfold atK
    rw [e4, List.take_of_length_le (by simp), ht_append, ← h.stk.tr.h]
    rfl
  have hsub : ∀ H, Sub (withL B (onlyL x)) H → Sub B H ∧ mem H x = true := fun H hH => ⟨fun l hl => hH l (by rw [mem_held x0, hl]; rfl), hH x (by rw [mem_held x0]; simp)⟩
  refine ⟨⟨hold_full h.full.ok hst x0 (by omega) no, stk_hold h.full.ok h.stk hst x0 (by omega) no, ⟨h.q.consG, by rw [e2]; exact h.q.nv, h.q.n40, fun i hi => by rw [ecl]; exact h.q.inC i (by rw [← e1]; exact hi), fun p hp => ?_, fun i hi => by rw [ecl]; exact h.q.imp i (by rw [← e1]; exact hi), by rw [e1]; exact h.q.own, by rw [e5]; exact h.q.inc, fun i hi ⟨k, hk, _⟩ => (by rw [hK2] at hk; cases hk), fun H hH hB => ?_, ?_⟩, fun k hk => (by rw [hK2] at hk; cases hk)⟩, hK2⟩
  · rw [e4] at hp
    rcases List.mem_append.1 hp with hp | hp
    · exact h.q.inT p hp
    · rw [List.mem_singleton.1 hp]; exact xn
  · obtain ⟨h1, h2⟩ := hsub H hB
    rw [e6, e7]
    intro y hy
    rw [mem_held x0, Bool.or_eq_true, decide_eq_true_eq] at hy
    rcases hy with hy | hy
    · have h9 := h.q.low H hH h1
      rw [e8, Trl.all h.stk.tr] at h9
      exact h9 y hy
    · rw [← hy]; exact h2
  · rw [e6, e7]
    intro y hy
    rw [mem_held x0, Bool.or_eq_true] at hy ⊢
    rcases hy with hy | hy
    · have h9 := h.q.bas
      rw [e8, Trl.all h.stk.tr] at h9
      exact .inl (h9 y hy)
    · exact .inr hy
/-- One that was true already. -/
theorem cd_known {n : Nat} {Z : List LS} {G B : LS} {s : Sv} {x : Int} (h : Cd n Z G B s) (hK : s.K = []) (x0 : x ≠ 0) (hx : mem s.H x = true) : Cd n Z G (withL B (onlyL x)) s := by
  have e8 : lev0 s = s.T.length := by unfold lev0; rw [hK]; rfl
  refine ⟨h.full, h.stk, ⟨h.q.consG, h.q.nv, h.q.n40, h.q.inC, h.q.inT, h.q.imp, h.q.own, h.q.inc, h.q.why, fun H hH hB => h.q.low H hH (fun l hl => hB l (by rw [mem_held x0, hl]; rfl)), ?_⟩, h.lt⟩
  rw [e8, Trl.all h.stk.tr]
  intro y hy
  rw [mem_held x0, Bool.or_eq_true, decide_eq_true_eq] at hy
  rcases hy with hy | hy
  · have h9 := h.q.bas
    rw [e8, Trl.all h.stk.tr] at h9
    exact h9 y hy
  · rw [← hy]; exact hx
/-- What is settled is true in all that is held. -/
theorem bas_held {n : Nat} {Z : List LS} {G B : LS} {s : Sv} (h : Cd n Z G B s) : Sub B s.H := fun l hl => Trl.subK h.stk.tr _ l (h.q.bas l hl)
/-- With a model that goes with what is settled, nothing is false once all choices are taken back. -/
theorem back_fine {n : Nat} {Z : List LS} {G B : LS} {s : Sv} (h : Cd n Z G B s) {H : LS} (hH : Mdl n Z H) (hs : Sub B H) : Cd n Z G B (backS s 0) ∧ (backS s 0).K = [] ∧ (backS s 0).F = -1 ∧ (backS s 0).C = s.C ∧ (backS s 0).X = s.X ∧ Sub (backS s 0).H H := by
  by_cases hK : s.K = []
  · rw [back_nil hK]
    have hF : s.F = -1 := Classical.byContradiction fun hF => no_model h hF hK ⟨H, hH, hs⟩
    exact ⟨h, hK, hF, rfl, rfl, low_all h hK hH hs⟩
  · have hp := List.length_pos_iff.2 hK
    have hc := cd_back h hp
    have hk2 : (backS s 0).K = [] := by rw [back_eq h.stk.tr hp]; rfl
    refine ⟨hc, hk2, ?_, ?_, back_X s 0, low_all hc hk2 hH hs⟩ <;> rw [back_eq h.stk.tr hp]
end Go.Proofs.YtbahjpheaaiamaaDoor.cdLeast
