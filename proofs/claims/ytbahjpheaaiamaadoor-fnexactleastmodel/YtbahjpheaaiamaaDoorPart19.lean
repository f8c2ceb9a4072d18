/- CdState; CdLes: one text, so that the claim has fewer files. -/
import Derived.Test.YtbahjpheaaiamaaDoorSolTrail
import Derived.Test.YtbahjpheaaiamaaDoorPart18
/- A search's state: what its clauses say, why each literal behind the first choice is true, what is true without a choice; kept by what propagation and choices do; conditions: none. -/
namespace Go.Proofs.YtbahjpheaaiamaaDoor.cdState
open sets solSets solMath solHold solProp solClose solTrail cdVal
set_option linter.unusedVariables false
set_option linter.unusedSimpArgs false

def InN (n : Nat) (c : LS) : Prop := ∀ l, mem c l = true → l.natAbs ≤ n
/-- Values of all variables that make each clause true. -/
structure Mdl (n : Nat) (Z : List LS) (H : LS) : Prop where
  wf : Wf H
  cons : Cons H
  all : ∀ v : Nat, 1 ≤ v → v ≤ n → mem H (v : Int) = true ∨ mem H (-(v : Int)) = true
  cl : ∀ c ∈ Z, meetL c H = true
def Imp (n : Nat) (Z : List LS) (c : LS) : Prop := ∀ H, Mdl n Z H → meetL c H = true
/-- How much had become true ahead of the first choice. -/
def lev0 (s : Sv) : Nat := s.K.headD s.T.length
structure CdQ (n : Nat) (Z : List LS) (G B : LS) (s : Sv) : Prop where
  consG : Cons G
  nv : s.n = n
  n40 : n ≤ 40
  inC : ∀ i, i < s.C.length → InN n (s.cl i)
  inT : ∀ p ∈ s.T, p.1.natAbs ≤ n
  imp : ∀ i, i < s.C.length → Imp n Z (s.cl i)
  own : s.C.take Z.length = Z
  inc : s.K.Pairwise (· < ·)
  why : ∀ i, i < s.T.length → (∃ k ∈ s.K, k ≤ i) → i ∈ s.K ∨ ∃ r : Nat, (s.T[i]?.getD (0, 0)).2 = r ∧ r < s.C.length ∧ mem (s.cl r) (s.T[i]?.getD (0, 0)).1 = true ∧ ∀ y, mem (s.cl r) y = true → y = (s.T[i]?.getD (0, 0)).1 ∨ mem (atK G s i) (-y) = true
  low : ∀ H, Mdl n Z H → Sub B H → Sub (atK G s (lev0 s)) H
  bas : Sub B (atK G s (lev0 s))
structure Cd (n : Nat) (Z : List LS) (G B : LS) (s : Sv) : Prop where
  full : Full s
  stk : Stk G s
  q : CdQ n Z G B s
  lt : ∀ k ∈ s.K, k < s.T.length
theorem Trl.all {G : LS} {s : Sv} (h : Trl G s) : atK G s s.T.length = s.H := by unfold atK; rw [List.take_length]; exact h.h.symm
theorem CdQ.len {n : Nat} {Z : List LS} {G B : LS} {s : Sv} (h : CdQ n Z G B s) : Z.length ≤ s.C.length := by
  have := congrArg List.length h.own
  rw [List.length_take] at this
  omega
theorem CdQ.cl {n : Nat} {Z : List LS} {G B : LS} {s : Sv} (h : CdQ n Z G B s) {c : LS} (hc : c ∈ Z) : c ∈ s.C := by
  rw [← h.own] at hc
  exact List.mem_of_mem_take hc
theorem fresh_count {n : Nat} : ∀ (T : TR) (H : LS), Fresh H T → (∀ p ∈ T, p.1.natAbs ≤ n) → T.length + ((List.range (n + 1)).filter (fun (v : Nat) => !mem (HT H T) (v : Int) && !mem (HT H T) (-(v : Int)))).length ≤ ((List.range (n + 1)).filter (fun (v : Nat) => !mem H (v : Int) && !mem H (-(v : Int)))).length
  | [], H, _, _ => by simp [HT]
  | p :: r, H, h, hn => by
    have ih := fresh_count r _ h.2 (fun q hq => hn q (by simp [hq]))
    have hp := hn p (by simp)
    obtain ⟨l0, lo, no1, no2⟩ := h.1
    have h2 : ((List.range (n + 1)).filter (fun (v : Nat) => !mem (withL H (onlyL p.1)) (v : Int) && !mem (withL H (onlyL p.1)) (-(v : Int)))).length < ((List.range (n + 1)).filter (fun (v : Nat) => !mem H (v : Int) && !mem H (-(v : Int)))).length := by
      refine solProp.filter_lt (a := p.1.natAbs) (List.mem_range.2 (by omega)) ?_ ?_ ?_
      · rcases (show (p.1.natAbs : Int) = p.1 ∨ (p.1.natAbs : Int) = -p.1 by omega) with e | e
        · rw [e, no1, no2]; rfl
        · rw [e, Int.neg_neg, no1, no2]; rfl
      · rcases (show (p.1.natAbs : Int) = p.1 ∨ (p.1.natAbs : Int) = -p.1 by omega) with e | e
        · rw [e, mem_held l0]; simp
        · rw [e, Int.neg_neg, mem_held l0, mem_held l0]; simp
      · intro x hx
        rw [mem_held l0, mem_held l0] at hx
        simp at hx ⊢
        exact ⟨hx.1.1, hx.2.1⟩
    show r.length + 1 + _ ≤ _
    show r.length + 1 + ((List.range (n + 1)).filter (fun (v : Nat) => !mem (HT (withL H (onlyL p.1)) r) (v : Int) && !mem (HT (withL H (onlyL p.1)) r) (-(v : Int)))).length ≤ _
    omega
/-- The trail has no more literals than there are variables. -/
theorem trail_most {n : Nat} {Z : List LS} {G B : LS} {s : Sv} (h : CdQ n Z G B s) (ht : Trl G s) : s.T.length ≤ n := by
  have h1 := fresh_count s.T G ht.fresh h.inT
  rw [← ht.h] at h1
  have h2 : ((List.range (n + 1)).filter (fun (v : Nat) => !mem G (v : Int) && !mem G (-(v : Int)))).length ≤ n + 1 := Nat.le_trans (List.length_filter_le _ _) (by simp)
  have h3 : 0 < ((List.range (n + 1)).filter (fun (v : Nat) => !mem s.H (v : Int) && !mem s.H (-(v : Int)))).length := by
    refine List.length_pos_of_mem (a := 0) (List.mem_filter.2 ⟨List.mem_range.2 (by omega), ?_⟩)
    have hw : Wf s.H := by rw [ht.h]; exact wf_ht _ _ ht.wf ht.fresh
    show (!mem s.H (0 : Int) && !mem s.H (-(0 : Int))) = true
    rw [Int.neg_zero, hw.zero]; rfl
  omega
/-- The trail as a number. -/
def num (s : Sv) : Nat := dig s.n.toNat s.K s.T.length
theorem num_lt {n : Nat} {Z : List LS} {G B : LS} {s : Sv} (h : CdQ n Z G B s) (ht : Trl G s) : num s < 2 ^ n := by
  unfold num
  rw [show s.n.toNat = n by rw [h.nv]; rfl]
  exact dig_lt (trail_most h ht)
theorem CdQ.setD {n : Nat} {Z : List LS} {G B : LS} {s : Sv} {D : List Nat} (h : CdQ n Z G B s) : CdQ n Z G B { s with D := D } :=
  ⟨h.consG, h.nv, h.n40, h.inC, h.inT, h.imp, h.own, h.inc, h.why, h.low, h.bas⟩
theorem at_snoc {G : LS} {s : Sv} {l r : Int} {k : Nat} (hk : k ≤ s.T.length) : atK G (holdS s l r) k = atK G s k := by
  unfold atK
  rw [(hold_same s l r).2.2.2.1, List.take_append_of_le_length hk]
theorem lev_hold {s : Sv} {l r : Int} (h : s.K ≠ []) : lev0 (holdS s l r) = lev0 s := by
  unfold lev0
  rw [(hold_same s l r).2.2.2.2]
  cases hK : s.K with
  | nil => exact absurd hK h
  | cons a b => rfl
theorem lev_le {G : LS} {s : Sv} (h : Stk G s) : lev0 s ≤ s.T.length := by
  unfold lev0
  cases hK : s.K with
  | nil => exact Nat.le_refl _
  | cons a b => exact h.le a (by rw [hK]; simp)
theorem get_snoc {T : TR} {p : Int × Int} {i : Nat} (h : i < T.length) : (T ++ [p])[i]?.getD (0, 0) = T[i]?.getD (0, 0) := by rw [List.getElem?_append_left h]
theorem cq_hold {n : Nat} {Z : List LS} {G B : LS} {s : Sv} {x r : Int} (h : CdQ n Z G B s) (hs : Stk G s) (x0 : x ≠ 0) (xn : x.natAbs ≤ n)
    (hw : s.K ≠ [] → s.T.length ∈ s.K ∨ ∃ q : Nat, r = q ∧ q < s.C.length ∧ mem (s.cl q) x = true ∧ ∀ y, mem (s.cl q) y = true → y = x ∨ mem s.H (-y) = true)
    (hl : s.K = [] → ∀ H, Mdl n Z H → Sub B H → mem H x = true) : CdQ n Z G B (holdS s x r) := by
  obtain ⟨e1, e2, e3, e4, e5⟩ := hold_same s x r
  have ecl : ∀ i, (holdS s x r).cl i = s.cl i := fun i => by unfold Sv.cl; rw [e1]
  refine ⟨h.consG, by rw [e2]; exact h.nv, h.n40, fun i hi => by rw [ecl]; exact h.inC i (by rw [← e1]; exact hi), fun p hp => ?_, fun i hi => by rw [ecl]; exact h.imp i (by rw [← e1]; exact hi), by rw [e1]; exact h.own, by rw [e5]; exact h.inc, fun i hi hk => ?_, fun H hH hB => ?_, ?_⟩
  · rw [e4] at hp
    rcases List.mem_append.1 hp with hp | hp
    · exact h.inT p hp
    · rw [List.mem_singleton.1 hp]; exact xn
  · rw [e4] at hi ⊢
    rw [e5] at hk ⊢
    rw [List.length_append] at hi
    have hi' : i < s.T.length + 1 := hi
    by_cases e : i < s.T.length
    · rw [get_snoc e]
      rcases h.why i e hk with h1 | ⟨q, h1, h2, h3, h4⟩
      · exact .inl h1
      · exact .inr ⟨q, h1, by rw [e1]; exact h2, by rw [ecl]; exact h3, fun y hy => by rw [at_snoc (Nat.le_of_lt e)]; rw [ecl] at hy; exact h4 y hy⟩
    · have ei : i = s.T.length := by omega
      subst ei
      have hg : (s.T ++ [(x, r)])[s.T.length]?.getD (0, 0) = (x, r) := by simp
      rw [hg]
      obtain ⟨k, hk1, hk2⟩ := hk
      rcases hw (List.ne_nil_of_mem hk1) with h1 | ⟨q, h1, h2, h3, h4⟩
      · exact .inl h1
      · exact .inr ⟨q, h1, by rw [e1]; exact h2, by rw [ecl]; exact h3, fun y hy => by rw [at_snoc (Nat.le_refl _), Trl.all hs.tr]; rw [ecl] at hy; exact h4 y hy⟩
  · by_cases hK : s.K = []
    · have e6 : lev0 (holdS s x r) = s.T.length + 1 := by unfold lev0; rw [e5, hK, e4]; simp
      have e7 : atK G (holdS s x r) (s.T.length + 1) = withL s.H (onlyL x) := by
        unfold atK
        rw [e4, List.take_of_length_le (by simp), ht_append, ← hs.tr.h]
        rfl
      rw [e6, e7]
      intro y hy
      rw [mem_held x0, Bool.or_eq_true, decide_eq_true_eq] at hy
      rcases hy with hy | hy
      · refine h.low H hH hB y ?_
        have e8 : lev0 s = s.T.length := by unfold lev0; rw [hK]; rfl
        rw [e8, Trl.all hs.tr]; exact hy
      · rw [← hy]; exact hl hK H hH hB
    · rw [lev_hold hK, at_snoc (lev_le hs)]
      exact h.low H hH hB
  · by_cases hK : s.K = []
    · have e6 : lev0 (holdS s x r) = s.T.length + 1 := by unfold lev0; rw [e5, hK, e4]; simp
      have e7 : atK G (holdS s x r) (s.T.length + 1) = withL s.H (onlyL x) := by
        unfold atK
        rw [e4, List.take_of_length_le (by simp), ht_append, ← hs.tr.h]
        rfl
      rw [e6, e7]
      intro y hy
      rw [mem_held x0, Bool.or_eq_true]
      have e8 : lev0 s = s.T.length := by unfold lev0; rw [hK]; rfl
      have h9 := h.bas y hy
      rw [e8, Trl.all hs.tr] at h9
      exact .inl h9
    · rw [lev_hold hK, at_snoc (lev_le hs)]
      exact h.bas
theorem others_false {c H : LS} {x : Int} (hc : Wf c) (hH : Wf H) (hx : restL c H = onlyL x) (x0 : x ≠ 0) : ∀ y, mem c y = true → y = x ∨ mem H (-y) = true := fun y hy => by
  by_cases e : y = x
  · exact .inl e
  · right
    have h1 : mem (restL c H) y = false := by rw [hx, mem_only x0]; simp; exact fun h => e h.symm
    rw [mem_rest hc hH, hy] at h1
    simpa using h1
theorem cd_pop {n : Nat} {Z : List LS} {G B : LS} {s : Sv} {i : Nat} {D : List Nat} (h : Cd n Z G B s) (hF : s.F = -1) (hD : s.D = i :: D) : Cd n Z G B (popS s i D) := by
  have hf := pop_full h.full hF hD
  have hs := stk_pop h.full hF hD h.stk
  have hi : i < s.C.length := h.full.ok.dlt i (by rw [hD]; simp)
  unfold popS at hf hs ⊢
  by_cases hm : meetL (s.cl i) s.H = true
  · rw [if_pos hm] at hf hs ⊢
    exact ⟨hf, hs, h.q.setD, h.lt⟩
  · rw [if_neg hm] at hf hs ⊢
    obtain ⟨x, e, h1, h2, h3, h4, h5, h6⟩ := unit_of h.full hF hD hm
    rw [e] at hf hs ⊢
    have hof := others_false (h.full.ok.wfC i) h.full.ok.wfH h1 h2
    refine ⟨hf, hs, cq_hold h.q.setD (stk_D h.stk) h2 (h.q.inC i hi x h4) (fun _ => .inr ⟨i, rfl, hi, h4, hof⟩) (fun hK H hH hB => ?_), fun k hk => ?_⟩
    · have hK' : s.K = [] := hK
      have e8 : lev0 s = s.T.length := by unfold lev0; rw [hK']; rfl
      have hsub : Sub s.H H := by have := h.q.low H hH hB; rw [e8, Trl.all h.stk.tr] at this; exact this
      obtain ⟨y, y1, y2⟩ := (meet_iff (h.full.ok.wfC i)).1 (h.q.imp i hi H hH)
      rcases hof y y1 with e9 | e9
      · rw [← e9]; exact y2
      · have := hH.cons y y2
        rw [hsub _ e9] at this
        cases this
    · rw [(hold_same _ _ _).2.2.2.2] at hk
      rw [(hold_same _ _ _).2.2.2.1, List.length_append]
      have h9 : k < s.T.length := h.lt k hk
      show k < s.T.length + 1
      omega
theorem cd_prop {n : Nat} {Z : List LS} {G B : LS} : ∀ (k : Nat) (s : Sv), Cd n Z G B s → Cd n Z G B (propF k s)
  | 0, s, h => h
  | k + 1, s, h => by
    by_cases hF : s.F = -1
    · cases hD : s.D with
      | nil => rw [propF_end (.inr hD)]; exact h
      | cons i D => rw [propF_step hF hD]; exact cd_prop k _ (cd_pop h hF hD)
    · rw [propF_end (.inl hF)]; exact h
theorem mv_X (s : Sv) (i : Nat) (x : Int) : (mv s i x).1.X = s.X := by
  unfold mv
  split
  · rfl
  · split
    · rfl
    · split <;> rfl
theorem mvs_X (x : Int) : ∀ (R : List Nat) (s : Sv) (kept : List Nat), (mvs x R s kept).1.X = s.X
  | [], _, _ => rfl
  | i :: r, s, kept => (mvs_X x r _ _).trans (mv_X s i x)
theorem hold_X (s : Sv) (l r : Int) : (holdS s l r).X = s.X := mvs_X _ _ _ _
/-- Propagation makes the trail longer, never less, and its number never falls. -/
theorem prop_more : ∀ (k : Nat) (s : Sv), Full s → s.T.length ≤ (propF k s).T.length ∧ num s ≤ num (propF k s) ∧ (propF k s).X = s.X
  | 0, s, _ => ⟨Nat.le_refl _, Nat.le_refl _, rfl⟩
  | k + 1, s, h => by
    by_cases hF : s.F = -1
    · cases hD : s.D with
      | nil => rw [propF_end (.inr hD)]; exact ⟨Nat.le_refl _, Nat.le_refl _, rfl⟩
      | cons i D =>
        rw [propF_step hF hD]
        obtain ⟨h1, h2, h3⟩ := prop_more k _ (pop_full h hF hD)
        have hp : s.T.length ≤ (popS s i D).T.length ∧ num s ≤ num (popS s i D) := by
          unfold popS
          split
          · exact ⟨Nat.le_refl _, Nat.le_refl _⟩
          · obtain ⟨e1, e2, e3, e4, e5⟩ := hold_same { s with D := D } (firstL (restL (s.cl i) s.H)) i
            unfold num
            rw [e2, e4, e5, List.length_append]
            exact ⟨Nat.le_add_right _ _, dig_mono _ 1⟩
        refine ⟨Nat.le_trans hp.1 h1, Nat.le_trans hp.2 h2, h3.trans ?_⟩
        unfold popS
        split
        · rfl
        · exact hold_X _ _ _
    · rw [propF_end (.inl hF)]; exact ⟨Nat.le_refl _, Nat.le_refl _, rfl⟩
end Go.Proofs.YtbahjpheaaiamaaDoor.cdState

/- What a false clause teaches: one of whose literals became false behind the last choice, all others ahead of it; conditions: none. -/
namespace Go.Proofs.YtbahjpheaaiamaaDoor.cdLes
open sets solSets solMath solHold solProp solClose solTrail cdVal cdState
set_option linter.unusedVariables false
set_option linter.unusedSimpArgs false

def tl (s : Sv) (i : Nat) : Int := (s.T[i]?.getD (0, 0)).1
def comL (a b : LS) : LS := (a.1 &&& b.1, a.2 &&& b.2)
theorem mem_com (a b : LS) (l : Int) : mem (comL a b) l = (mem a l && mem b l) := by
  unfold mem comL
  split <;> simp [Nat.testBit_and]
theorem wf_com {a : LS} (ha : Wf a) (b : LS) : Wf (comL a b) :=
  ⟨Nat.lt_of_le_of_lt Nat.and_le_left ha.p, Nat.lt_of_le_of_lt Nat.and_le_left ha.o, by show (a.1 &&& b.1).testBit 0 = false; rw [Nat.testBit_and, ha.p0]; rfl, by show (a.2 &&& b.2).testBit 0 = false; rw [Nat.testBit_and, ha.o0]; rfl⟩
theorem has_iff {T : TR} {l : Int} : hasT T l = true ↔ ∃ i, i < T.length ∧ (T[i]?.getD (0, 0)).1 = l := by
  unfold hasT
  rw [List.any_eq_true]
  constructor
  · rintro ⟨p, hp, e⟩
    obtain ⟨i, hi, rfl⟩ := List.getElem_of_mem hp
    exact ⟨i, hi, by rw [List.getElem?_eq_getElem hi]; exact of_decide_eq_true e⟩
  · rintro ⟨i, hi, e⟩
    rw [List.getElem?_eq_getElem hi] at e
    exact ⟨_, List.getElem_mem hi, decide_eq_true e⟩
theorem mem_at {G : LS} {s : Sv} (h : Trl G s) {k : Nat} (hk : k ≤ s.T.length) {y : Int} : mem (atK G s k) y = true ↔ mem G y = true ∨ ∃ i, i < k ∧ tl s i = y := by
  unfold atK
  rw [mem_ht _ _ (h.split k).2.1, Bool.or_eq_true, has_iff]
  refine or_congr Iff.rfl ⟨?_, ?_⟩
  · rintro ⟨i, hi, e⟩
    rw [List.length_take] at hi
    rw [List.getElem?_take, if_pos (by omega)] at e
    exact ⟨i, by omega, e⟩
  · rintro ⟨i, hi, e⟩
    refine ⟨i, by rw [List.length_take]; omega, ?_⟩
    rw [List.getElem?_take, if_pos hi]
    exact e
theorem at_mono {G : LS} {s : Sv} (h : Trl G s) {i k : Nat} (hk : k ≤ s.T.length) (hi : i ≤ k) : Sub (atK G s i) (atK G s k) := fun y hy => by
  rw [mem_at h (by omega)] at hy
  rw [mem_at h hk]
  rcases hy with hy | ⟨j, hj, e⟩
  · exact .inl hy
  · exact .inr ⟨j, by omega, e⟩
theorem tl_fresh {G : LS} {s : Sv} (h : Trl G s) {i k : Nat} (hi : i < s.T.length) (hk : k ≤ i) : mem (atK G s k) (tl s i) = false ∧ mem (atK G s k) (-(tl s i)) = false ∧ tl s i ≠ 0 ∧ -40 ≤ tl s i ∧ tl s i ≤ 40 := by
  have h3 := (h.split i).2.2
  rw [List.drop_eq_getElem_cons hi] at h3
  obtain ⟨h4, h5, h6, h7⟩ := h3.1
  have e : tl s i = (s.T[i]).1 := by unfold tl; rw [List.getElem?_eq_getElem hi]; rfl
  rw [← e] at h4 h5 h6 h7
  have hm := at_mono h (Nat.le_of_lt hi) hk
  refine ⟨?_, ?_, h4, h5.1, h5.2⟩
  · cases h8 : mem (atK G s k) (tl s i) with
    | false => rfl
    | true => rw [hm _ h8] at h6; cases h6
  · cases h8 : mem (atK G s k) (-(tl s i)) with
    | false => rfl
    | true => rw [hm _ h8] at h7; cases h7
/-- What is true at a time stands in the trail ahead of it. -/
theorem tl_place {G : LS} {s : Sv} (h : Trl G s) {i k : Nat} (hi : i < s.T.length) (hk : k ≤ s.T.length) (hm : mem (atK G s k) (tl s i) = true) : i < k := Classical.byContradiction fun hn => by
  have := (tl_fresh h hi (show k ≤ i by omega)).1
  rw [hm] at this
  cases this
theorem tl_inj {G : LS} {s : Sv} (h : Trl G s) {i j : Nat} (hi : i < s.T.length) (hj : j < s.T.length) (e : tl s i = tl s j) : i = j := by
  have h1 : i < j + 1 := tl_place h hi hj ((mem_at h hj).2 (.inr ⟨j, Nat.lt_succ_self _, e.symm⟩))
  have h2 : j < i + 1 := tl_place h hj hi ((mem_at h hi).2 (.inr ⟨i, Nat.lt_succ_self _, e⟩))
  omega
/-- The clause on its way: false at the first k of the trail, with a literal that became false behind the last choice. -/
structure LesI (n : Nat) (Z : List LS) (G : LS) (s : Sv) (st k : Nat) (c : LS) : Prop where
  wf : Wf c
  inN : InN n c
  imp : Imp n Z c
  le : k ≤ s.T.length
  fal : ∀ y, mem c y = true → mem (atK G s k) (-y) = true
  rcn : ∃ i, st ≤ i ∧ i < k ∧ mem c (-(tl s i)) = true
/-- The lesson: the literal of place k became false behind the last choice, the others ahead of it. -/
structure Les (n : Nat) (Z : List LS) (G : LS) (s : Sv) (st k : Nat) (c : LS) : Prop where
  wf : Wf c
  inN : InN n c
  imp : Imp n Z c
  lt : k < s.T.length
  ge : st ≤ k
  u : mem c (-(tl s k)) = true
  rest : ∀ y, mem c y = true → y ≠ -(tl s k) → mem (atK G s st) (-y) = true
def Recent (s : Sv) (st : Nat) (rc : LS) : Prop := Wf rc ∧ ∀ y, mem rc y = true ↔ ∃ i, st ≤ i ∧ i < s.T.length ∧ y = -(tl s i)
def LastK (s : Sv) (st : Nat) : Prop := st ∈ s.K ∧ ∀ k ∈ s.K, k ≤ st
theorem les_start {n : Nat} {Z : List LS} {G B : LS} {s : Sv} {st : Nat} (h : Cd n Z G B s) (hF : s.F ≠ -1) (hst : LastK s st) : ∃ f : Nat, s.F = f ∧ f < s.C.length ∧ LesI n Z G s st s.T.length (s.cl f) := by
  rcases h.full.ok.fin with e | ⟨f, hf, e, hr⟩
  · exact absurd e hF
  have hwc := h.full.ok.wfC f
  have fal : ∀ y, mem (s.cl f) y = true → mem s.H (-y) = true := fun y hy => by
    have := (zero_iff (wf_rest hwc _)).1 hr y
    rw [mem_rest hwc h.full.ok.wfH, hy] at this
    simpa using this
  have hall := Trl.all h.stk.tr
  refine ⟨f, e, hf, hwc, h.q.inC f hf, h.q.imp f hf, Nat.le_refl _, fun y hy => by rw [hall]; exact fal y hy, ?_⟩
  have hle := h.stk.le st hst.1
  rcases h.stk.good st hst.1 f hf with hm | ⟨h1, _, _⟩
  · obtain ⟨l, a1, a2⟩ := (meet_iff hwc).1 hm
    have a3 := at_mono h.stk.tr (Nat.le_refl _) hle l a2
    rw [hall] at a3
    have a4 := h.full.ok.cons l a3
    rw [fal l a1] at a4
    cases a4
  · rw [mem_rest hwc (h.stk.tr.wfK st), Bool.and_eq_true] at h1
    have h2 := fal _ h1.1
    rw [← hall, mem_at h.stk.tr (Nat.le_refl _)] at h2
    have h3 : mem (atK G s st) (-(s.wt f).1) = false := by simpa using h1.2
    rcases h2 with h2 | ⟨i, hi, e2⟩
    · rw [(mem_at h.stk.tr hle).2 (.inl h2)] at h3; cases h3
    · refine ⟨i, Classical.byContradiction fun hn => ?_, hi, by rw [e2, Int.neg_neg]; exact h1.1⟩
      rw [(mem_at h.stk.tr hle).2 (.inr ⟨i, by omega, e2⟩)] at h3; cases h3
theorem les_skip {n : Nat} {Z : List LS} {G : LS} {s : Sv} {st k : Nat} {c : LS} (ht : Trl G s) (h : LesI n Z G s st (k + 1) c) (hm : mem c (-(tl s k)) = false) : LesI n Z G s st k c := by
  have hle := h.le
  refine ⟨h.wf, h.inN, h.imp, by omega, fun y hy => ?_, ?_⟩
  · have := h.fal y hy
    rw [mem_at ht h.le] at this
    rw [mem_at ht (by omega)]
    rcases this with h1 | ⟨i, hi, e⟩
    · exact .inl h1
    · refine .inr ⟨i, Classical.byContradiction fun hn => ?_, e⟩
      have : i = k := by omega
      subst this
      rw [e, Int.neg_neg, hy] at hm; cases hm
  · obtain ⟨i, h1, h2, h3⟩ := h.rcn
    refine ⟨i, h1, Classical.byContradiction fun hn => ?_, h3⟩
    have : i = k := by omega
    subst this
    rw [h3] at hm; cases hm
theorem les_done {n : Nat} {Z : List LS} {G : LS} {s : Sv} {st k : Nat} {c rc : LS} (ht : Trl G s) (hr : Recent s st rc) (hst : st ≤ s.T.length) (h : LesI n Z G s st (k + 1) c) (hm : mem c (-(tl s k)) = true) (hc : comL c rc = onlyL (-(tl s k))) : Les n Z G s st k c := by
  have hle := h.le
  have h0 := (tl_fresh ht (show k < s.T.length by omega) (Nat.zero_le _)).2.2.1
  have hin : ∀ y, mem c y = true → mem rc y = true → y = -(tl s k) := fun y h1 h2 => by
    have : mem (comL c rc) y = true := by rw [mem_com, h1, h2]; rfl
    rw [hc, mem_only (by omega)] at this
    exact (of_decide_eq_true this).symm
  refine ⟨h.wf, h.inN, h.imp, by omega, ?_, hm, fun y hy hne => ?_⟩
  · have h1 : mem (comL c rc) (-(tl s k)) = true := by rw [hc, mem_only (by omega)]; simp
    rw [mem_com, Bool.and_eq_true] at h1
    obtain ⟨i, a1, a2, a3⟩ := (hr.2 _).1 h1.2
    have := tl_inj ht (show k < s.T.length by omega) a2 (by omega)
    omega
  · have h1 := h.fal y hy
    rw [mem_at ht h.le] at h1
    rw [mem_at ht hst]
    rcases h1 with h1 | ⟨i, hi, e⟩
    · exact .inl h1
    · refine .inr ⟨i, Classical.byContradiction fun hn => hne (hin y hy ((hr.2 y).2 ⟨i, by omega, by omega, by omega⟩)), e⟩
theorem les_step {n : Nat} {Z : List LS} {G B : LS} {s : Sv} {st k : Nat} {c rc : LS} (hcd : Cd n Z G B s) (hr : Recent s st rc) (hst : LastK s st) (h : LesI n Z G s st (k + 1) c) (hm : mem c (-(tl s k)) = true) (hc : comL c rc ≠ onlyL (-(tl s k))) :
    ∃ r : Nat, (s.T[k]?.getD (0, 0)).2 = r ∧ r < s.C.length ∧ LesI n Z G s st k (withL (woL c (onlyL (-(tl s k)))) (woL (s.cl r) (onlyL (tl s k)))) := by
  have ht := hcd.stk.tr
  have hle := h.le
  have hkl : k < s.T.length := by omega
  obtain ⟨_, _, h0, hlo, hhi⟩ := tl_fresh ht hkl (Nat.zero_le _)
  have hwo1 : Wf (onlyL (-(tl s k))) := wf_only (by omega) (by omega) (by omega)
  have hwo2 : Wf (onlyL (tl s k)) := wf_only h0 hlo hhi
  -- literals of the clause that became false behind the last choice stand ahead of k + 1
  have place : ∀ i, i < s.T.length → mem c (-(tl s i)) = true → i < k + 1 := fun i hi hci => by
    have := h.fal _ hci
    rw [Int.neg_neg] at this
    exact tl_place ht hi h.le this
  obtain ⟨i0, a1, a2, a3⟩ := h.rcn
  have hkst : st ≤ k := by omega
  have hrm : mem rc (-(tl s k)) = true := (hr.2 _).2 ⟨k, hkst, hkl, rfl⟩
  have more : ∃ i, st ≤ i ∧ i < k ∧ mem c (-(tl s i)) = true := Classical.byContradiction fun hn => hc (ls_ext (wf_com h.wf _) hwo1 fun y => by
    rw [mem_com, mem_only (by omega)]
    by_cases e : -(tl s k) = y
    · rw [← e, hm, hrm]; simp
    · rw [decide_eq_false e]
      cases h1 : mem c y with
      | false => rfl
      | true =>
        cases h2 : mem rc y with
        | false => rfl
        | true =>
          obtain ⟨i, b1, b2, b3⟩ := (hr.2 y).1 h2
          subst b3
          have b4 := place i b2 h1
          refine absurd ⟨i, b1, ?_, h1⟩ hn
          refine Classical.byContradiction fun hq => e ?_
          rw [show i = k by omega])
  obtain ⟨i1, m1, m2, m3⟩ := more
  have hwhy := hcd.q.why k hkl ⟨st, hst.1, hkst⟩
  have hnK : k ∉ s.K := fun hk => by have := hst.2 k hk; omega
  obtain ⟨r, e1, e2, e3, e4⟩ := hwhy.resolve_left hnK
  have hwr := hcd.full.ok.wfC r
  refine ⟨r, e1, e2, wf_with (wf_wo h.wf _) (wf_wo hwr _), fun l hl => ?_, fun H hH => ?_, by omega, fun y hy => ?_, i1, m1, m2, ?_⟩
  · rw [mem_with, mem_wo h.wf hwo1, mem_wo hwr hwo2, Bool.or_eq_true, Bool.and_eq_true, Bool.and_eq_true] at hl
    rcases hl with hl | hl
    · exact h.inN l hl.1
    · exact hcd.q.inC r e2 l hl.1
  · rw [meet_iff (wf_with (wf_wo h.wf _) (wf_wo hwr _))]
    by_cases hp : mem H (tl s k) = true
    · obtain ⟨l, b1, b2⟩ := (meet_iff h.wf).1 (h.imp H hH)
      refine ⟨l, ?_, b2⟩
      rw [mem_with, mem_wo h.wf hwo1, b1, mem_only (by omega)]
      have : -(tl s k) ≠ l := fun e => by
        have := hH.cons _ hp
        rw [e, b2] at this; cases this
      rw [decide_eq_false this]; rfl
    · obtain ⟨l, b1, b2⟩ := (meet_iff hwr).1 (hcd.q.imp r e2 H hH)
      refine ⟨l, ?_, b2⟩
      rw [mem_with, mem_wo hwr hwo2, b1, mem_only h0]
      have : tl s k ≠ l := fun e => hp (by rw [e]; exact b2)
      rw [decide_eq_false this]; simp
  · rw [mem_with, mem_wo h.wf hwo1, mem_wo hwr hwo2, Bool.or_eq_true, Bool.and_eq_true, Bool.and_eq_true, mem_only (by omega), mem_only h0] at hy
    rcases hy with ⟨b1, b2⟩ | ⟨b1, b2⟩
    · have b3 := h.fal y b1
      rw [mem_at ht h.le] at b3
      rw [mem_at ht (by omega)]
      rcases b3 with b3 | ⟨i, hi, e⟩
      · exact .inl b3
      · refine .inr ⟨i, Classical.byContradiction fun hn => ?_, e⟩
        have : i = k := by omega
        subst this
        have : -(tl s i) = y := by omega
        rw [decide_eq_true this] at b2
        cases b2
    · rcases e4 y b1 with b3 | b3
      · have : tl s k = y := b3.symm
        rw [decide_eq_true this] at b2
        cases b2
      · exact b3
  · rw [mem_with, mem_wo h.wf hwo1, m3, mem_only (by omega)]
    have : -(tl s k) ≠ -(tl s i1) := fun e => by
      have := tl_inj ht hkl (show i1 < s.T.length by omega) (by omega)
      omega
    rw [decide_eq_false this]; rfl
end Go.Proofs.YtbahjpheaaiamaaDoor.cdLes
