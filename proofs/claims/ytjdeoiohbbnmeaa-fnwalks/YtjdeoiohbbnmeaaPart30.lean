/- SsSem; SettleSem: one text, so that the claim has fewer files. -/
import Derived.Test.YtjdeoiohbbnmeaaRofSem
import Derived.Test.YtjdeoiohbbnmeaaPart29
import Derived.Test.YtjdeoiohbbnmeaaPart25
/- All choices of all routers, and the stable ones among them, as plain functions; of no program; conditions: none. -/
namespace Go.Proofs.Ytjdeoiohbbnmeaa.ssSem
open Go base netSem routeRow nbSem candSem sceneSem sceneCand sceneList rtsRow noRts bestAll stabImpl stabFace stabLaw rofSem prodSem
set_option linter.unusedVariables false

/-- What a router has of its own, and from outside. -/
def ownV (o : List Int) (i : Int) : List Int := if 0 ≤ hasAt o i then [-2] else []
def extV (e env : List Int) (i : Int) : List Int := if 0 ≤ hasAt e i ∧ 0 < zAt env (hasAt e i).toNat then [-1] else []
/-- What it may choose, by the specification; by the program. -/
def optL (g : R) (nl : Nat) (o e env : List Int) (ds : List Bool) (n : Nat) (i : Int) : List Int :=
  ownV o i ++ extV e env i ++ (if (ownV o i ++ extV e env i).length = 0 then [-3] else []) ++ nbL g nl ds i n
def rowP (g : R) (nl : Nat) (o e env : List Int) (ds : List Bool) (i : Int) (k : Nat) : List Int :=
  ((List.range k).map fun j : Nat => (j : Int) - 3).filter fun v => openB g nl o e env ds i v
theorem rowP_succ (g : R) (nl : Nat) (o e env : List Int) (ds : List Bool) (i : Int) (k : Nat) : rowP g nl o e env ds i (k + 1) = rowP g nl o e env ds i k ++ (if openB g nl o e env ds i ((k : Int) - 3) then [(k : Int) - 3] else []) := by
  unfold rowP
  rw [List.range_succ, List.map_append, List.filter_append]
  congr 1
  simp only [List.map_cons, List.map_nil]
  cases h : openB g nl o e env ds i ((k : Int) - 3) <;> simp [h]
theorem rowP_len (g : R) (nl : Nat) (o e env : List Int) (ds : List Bool) (i : Int) (k : Nat) : (rowP g nl o e env ds i k).length ≤ k := by
  unfold rowP
  refine Nat.le_trans (List.length_filter_le _ _) ?_
  simp
theorem rowP_form (g : R) (nl : Nat) (o e env : List Int) (ds : List Bool) (i : Int) (he : ∀ i, 0 ≤ zAt env i) : ∀ k, rowP g nl o e env ds i (k + 3) = -3 :: (ownV o i ++ extV e env i ++ nbL g nl ds i k)
  | 0 => by
    rw [rowP_succ, rowP_succ, rowP_succ]
    have h0 : rowP g nl o e env ds i 0 = [] := rfl
    have h3 : openB g nl o e env ds i (((0 : Nat) : Int) - 3) = true := rfl
    have h2 : openB g nl o e env ds i (((0 + 1 : Nat) : Int) - 3) = decide (0 ≤ hasAt o i) := rfl
    have h1 : openB g nl o e env ds i (((0 + 1 + 1 : Nat) : Int) - 3) = (annA e env i != 0) := rfl
    rw [h0, h3, h2, h1]
    have hn : nbL g nl ds i 0 = [] := by simp [nbL]
    rw [hn]
    unfold ownV extV annA
    by_cases a : 0 ≤ hasAt o i
    · by_cases b : 0 ≤ hasAt e i
      · have := he (hasAt e i).toNat
        by_cases c : zAt env (hasAt e i).toNat = 0
        · simp [a, b, c]
        · have c' : 0 < zAt env (hasAt e i).toNat := by omega
          simp [a, b, c, c']
      · simp [a, b]
    · by_cases b : 0 ≤ hasAt e i
      · have := he (hasAt e i).toNat
        by_cases c : zAt env (hasAt e i).toNat = 0
        · simp [a, b, c]
        · have c' : 0 < zAt env (hasAt e i).toNat := by omega
          simp [a, b, c, c']
      · simp [a, b]
  | k + 1 => by
    rw [show k + 1 + 3 = (k + 3) + 1 from rfl, rowP_succ, rowP_form g nl o e env ds i he k, nbL_succ]
    have h : openB g nl o e env ds i (((k + 3 : Nat) : Int) - 3) = nbB g nl ds i k := by
      have e1 : ((k + 3 : Nat) : Int) - 3 = (k : Int) := by omega
      rw [e1]
      unfold openB
      rw [if_neg (by omega), if_neg (by omega), if_neg (by omega), Int.toNat_natCast]
    rw [h, show ((k + 3 : Nat) : Int) - 3 = (k : Int) by omega]
    cases nbB g nl ds i k <;> simp
/-- A choice that the specification lets in. -/
def letsB (o e env : List Int) (i : Int) (v : Int) : Bool := decide (v ≠ -3) || decide ((ownV o i ++ extV e env i).length = 0)
theorem opt_row (g : R) (nl : Nat) (o e env : List Int) (ds : List Bool) (n : Nat) (i : Int) (he : ∀ i, 0 ≤ zAt env i) : optL g nl o e env ds n i = (rowP g nl o e env ds i (n + 3)).filter (letsB o e env i) := by
  rw [rowP_form g nl o e env ds i he n, List.filter_cons, List.filter_append, List.filter_append]
  have h2 : (ownV o i).filter (letsB o e env i) = ownV o i := List.filter_eq_self.2 fun v hv => by
    unfold ownV at hv
    split at hv
    · simp only [List.mem_singleton] at hv; subst hv; rfl
    · cases hv
  have h1 : (extV e env i).filter (letsB o e env i) = extV e env i := List.filter_eq_self.2 fun v hv => by
    unfold extV at hv
    split at hv
    · simp only [List.mem_singleton] at hv; subst hv; rfl
    · cases hv
  have h0 : (nbL g nl ds i n).filter (letsB o e env i) = nbL g nl ds i n := List.filter_eq_self.2 fun v hv => by
    unfold nbL at hv
    obtain ⟨j, _, rfl⟩ := List.mem_map.1 hv
    unfold letsB
    rw [decide_eq_true (by omega)]
    rfl
  rw [h2, h1, h0]
  unfold optL
  by_cases hz : (ownV o i ++ extV e env i).length = 0
  · have h3 : letsB o e env i (-3) = true := by unfold letsB; rw [decide_eq_true hz]; rfl
    rw [if_pos hz, h3, if_pos rfl, List.length_eq_zero_iff.1 hz]
    rfl
  · have h3 : letsB o e env i (-3) = false := by unfold letsB; rw [decide_eq_false hz]; rfl
    rw [if_neg hz, h3, if_neg (by decide), List.append_nil]

/-- What becomes of chosen Vias: they can be had, and are stable. -/
def goodB (g : R) (nl : Nat) (o e : List Int) (x : R) (nx : Nat) (env : List Int) (ds : List Bool) (n : Nat) (c : List Int) : Bool := okV g nl o e x nx env ds c n && stabB g nl o e x nx env ds (valR g nl o e x nx env ds c n) n
def stateOf (g : R) (nl : Nat) (o e : List Int) (x : R) (nx : Nat) (env : List Int) (ds : List Bool) (n : Nat) (c : List Int) : List Rt := (List.range n).map (valR g nl o e x nx env ds c n)
def statesL (g : R) (nl : Nat) (o e : List Int) (x : R) (nx : Nat) (env : List Int) (ds : List Bool) (n : Nat) (l : List (List Int)) : List (List Rt) := (l.filter (goodB g nl o e x nx env ds n)).map (stateOf g nl o e x nx env ds n)
theorem statesL_snoc (g : R) (nl : Nat) (o e : List Int) (x : R) (nx : Nat) (env : List Int) (ds : List Bool) (n : Nat) (l : List (List Int)) (c : List Int) : statesL g nl o e x nx env ds n (l ++ [c]) = statesL g nl o e x nx env ds n l ++ (if goodB g nl o e x nx env ds n c then [stateOf g nl o e x nx env ds n c] else []) := by
  unfold statesL
  rw [List.filter_append, List.map_append]
  congr 1
  cases h : goodB g nl o e x nx env ds n c <;> simp [h]
variable {g : R} {nl nx : Nat} {o e : List Int} {x : R} {env : List Int} {ds : List Bool} {n : Nat}
theorem bst_none {zs : List Rt} (h : bst zs = noRt) (hv : ∀ r ∈ zs, r.via ≠ -3) : zs = [] := by
  cases zs with
  | nil => rfl
  | cons a zs =>
    exfalso
    have hpos : 0 < (a :: zs).length := by simp
    rw [bst_some hpos] at h
    have key : ∀ k, k < (a :: zs).length → ∃ i, i ≤ k ∧ bestTo (rF (a :: zs)) k = rF (a :: zs) i := by
      intro k
      induction k with
      | zero => intro _; exact ⟨0, Nat.le_refl _, rfl⟩
      | succ k ih =>
        intro hk
        simp only [bestTo]
        split
        · exact ⟨k + 1, Nat.le_refl _, rfl⟩
        · obtain ⟨i, hi, e⟩ := ih (by omega)
          exact ⟨i, by omega, e⟩
    obtain ⟨i, hi, e⟩ := key _ (show (a :: zs).length - 1 < (a :: zs).length by omega)
    rw [e] at h
    have hm : rF (a :: zs) i ∈ (a :: zs) := by
      have hil : i < (a :: zs).length := by omega
      unfold rF
      rw [List.getElem?_eq_getElem hil]
      exact List.getElem_mem hil
    exact hv _ hm (by rw [h]; rfl)
/-- Stable routes let in just what the specification does. -/
theorem good_lets {c : List Int} (hn : 1 ≤ n) (hl : c.length = n) (h : goodB g nl o e x nx env ds n c = true) : allQ (fun i v => letsB o e env (i : Int) v) c = true := by
  unfold goodB at h
  simp only [Bool.and_eq_true] at h
  obtain ⟨h1, h2⟩ := h
  unfold allQ
  simp only [List.all_eq_true, List.mem_range]
  intro i hi
  rw [hl] at hi
  unfold letsB
  by_cases hv : zAt c i = -3
  · have hs : valR g nl o e x nx env ds c n i = noRt := by
      have hsome := allN_iff.1 h1 i hi
      unfold valR
      cases hq : val g nl o e x nx env ds c n (i : Int) with
      | none => rfl
      | some r =>
        obtain ⟨n', rfl⟩ : ∃ n', n = n' + 1 := ⟨n - 1, by omega⟩
        simp only [val, Int.toNat_natCast, hv] at hq
        have h0 : openB g nl o e env ds (i : Int) (-3) = true := rfl
        rw [h0] at hq
        simp at hq
        rw [← hq]
        rfl
    unfold stabB sameTo at h2
    have h3 := eqR_iff.1 (allN_iff.1 h2 i hi)
    simp only at h3
    rw [hs] at h3
    have h4 := bst_none h3 (fun r hr => cand_via r hr)
    unfold candL at h4
    simp only [List.append_eq_nil_iff] at h4
    have h5 : ownV o (i : Int) = [] := by
      have := h4.1.1
      unfold ownC at this
      unfold ownV
      split at this
      · cases this
      · next hh => rw [if_neg hh]
    have h6 : extV e env (i : Int) = [] := by
      have := h4.1.2
      unfold extC at this
      unfold extV
      split at this
      · cases this
      · next hh => rw [if_neg hh]
    rw [h5, h6]
    simp
  · rw [decide_eq_true hv]
    rfl
theorem states_same (he : ∀ i, 0 ≤ zAt env i) (hn : 1 ≤ n) : statesL g nl o e x nx env ds n (prod (fun i : Nat => optL g nl o e env ds n (i : Int)) n) = statesL g nl o e x nx env ds n (prod (fun i : Nat => rowP g nl o e env ds (i : Int) (n + 3)) n) := by
  have h1 : prod (fun i : Nat => optL g nl o e env ds n (i : Int)) n = (prod (fun i : Nat => rowP g nl o e env ds (i : Int) (n + 3)) n).filter (allQ fun i v => letsB o e env (i : Int) v) := by
    rw [← prod_filter]
    congr 1
    funext i
    exact opt_row g nl o e env ds n (i : Int) he
  rw [h1]
  unfold statesL
  congr 1
  rw [List.filter_filter]
  apply List.filter_congr
  intro c hc
  have hl := prod_len hc
  cases hg : goodB g nl o e x nx env ds n c with
  | false => rfl
  | true => rw [good_lets hn hl hg]; rfl
end Go.Proofs.Ytjdeoiohbbnmeaa.ssSem

/- Routers that choose anew, all at once, from nothing on, as plain functions; of no program; conditions: a right network. -/
namespace Go.Proofs.Ytjdeoiohbbnmeaa.settleSem
open Go.RowKit Go.Deep Go base names netSem routeRow nbSem candSem sceneBy sceneFace rtsRow noRts bestAll stabImpl stabFace
set_option linter.unusedVariables false

/-- What all choose at once. -/
def stepS (g : R) (nl : Nat) (o e : List Int) (x : R) (nx : Nat) (env : List Int) (ds : List Bool) (n : Nat) (rs : Rs) : Rs := fun r : Nat => bst (candL g nl o e x nx env ds rs n (r : Int))
/-- What they have behind so many rounds. -/
def st (g : R) (nl : Nat) (o e : List Int) (x : R) (nx : Nat) (env : List Int) (ds : List Bool) (n : Nat) : Nat → Rs
  | 0 => noRs
  | t + 1 => stepS g nl o e x nx env ds n (st g nl o e x nx env ds n t)
theorem best_in (g : Rs) : ∀ k, ∃ i, i ≤ k ∧ bestTo g k = g i
  | 0 => ⟨0, Nat.le_refl _, rfl⟩
  | k + 1 => by
    simp only [bestTo]
    split
    · exact ⟨k + 1, Nat.le_refl _, rfl⟩
    · obtain ⟨i, hi, e⟩ := best_in g k
      exact ⟨i, by omega, e⟩
theorem rF_in {zs : List Rt} {i : Nat} (h : i < zs.length) : rF zs i ∈ zs := by
  unfold rF
  rw [List.getElem?_eq_getElem h]
  exact List.getElem_mem h
theorem bst_in (zs : List Rt) : bst zs = noRt ∨ bst zs ∈ zs := by
  unfold bst
  by_cases h : zs.length = 0
  · rw [if_pos h]; exact .inl rfl
  · rw [if_neg h]
    obtain ⟨i, hi, e⟩ := best_in (rF zs) (zs.length - 1)
    rw [e]
    exact .inr (rF_in (by omega))
variable {g : R} {nl nx : Nat} {o e : List Int} {x : R} {env : List Int} {ds : List Bool} {n : Nat} {rs : Rs} {router : Int} {B : Int}
theorem linkAt_lt {a b : Int} (h : 0 ≤ linkAt g nl a b) : linkAt g nl a b < nl := by
  unfold linkAt firstAt at h ⊢
  cases hf : (List.range nl).find? (hit g a b) with
  | none => rw [hf] at h; exact absurd h (by decide)
  | some i =>
    have := List.mem_range.1 (List.mem_of_find?_eq_some hf)
    show (i : Int) < nl
    omega
theorem cand_bounds (hc : ∀ i, i < nl → 0 ≤ g i 2 ∧ g i 2 ≤ 100) (hl : ∀ i, i < n → 0 ≤ (rs i).len ∧ (rs i).len ≤ B) (hB : 2 ≤ B) : ∀ r ∈ candL g nl o e x nx env ds rs n router, (-3 ≤ r.via ∧ r.via < n ∨ r.via = -1 ∨ r.via = -2) ∧ 0 ≤ r.len ∧ r.len ≤ B + 100 := by
  intro r hr
  simp only [candL, List.mem_append, List.mem_flatMap] at hr
  rcases hr with (hr | hr) | ⟨j, hj, hr⟩
  · unfold ownC at hr
    split at hr
    · simp only [List.mem_singleton] at hr; subst hr; exact ⟨.inr (.inr rfl), by show (0 : Int) ≤ 0; omega, by show (0 : Int) ≤ _; omega⟩
    · cases hr
  · unfold extC at hr
    split at hr
    · simp only [List.mem_singleton] at hr; subst hr; exact ⟨.inr (.inl rfl), by show (0 : Int) ≤ 2; omega, by show (2 : Int) ≤ _; omega⟩
    · cases hr
  · unfold nbL at hj
    simp only [List.mem_map, List.mem_filter, List.mem_range] at hj
    obtain ⟨k, ⟨hk, hb⟩, rfl⟩ := hj
    unfold nbB at hb
    simp only [Bool.and_eq_true, decide_eq_true_eq] at hb
    have hlk : (linkAt g nl router (k : Int)).toNat < nl := by
      have h1 := linkAt_lt hb.1
      omega
    unfold candOf at hr
    split at hr
    · cases hr
    · split at hr
      · cases hr
      · cases hi : impR g nl x nx router (k : Int) (rs (k : Int).toNat) with
        | none => rw [hi] at hr; cases hr
        | some q =>
          rw [hi] at hr
          simp only [List.mem_singleton] at hr
          subst hr
          obtain ⟨h1, h2⟩ := impK_via (show impK x router (k : Int) (startI (k : Int) (g (linkAt g nl router (k : Int)).toNat 2) (rs (k : Int).toNat)) nx = some r from hi)
          have e1 : (k : Int).toNat = k := by omega
          rw [e1] at h1 h2
          have h3 := hl k hk
          have h4 := hc _ hlk
          refine ⟨.inl ?_, ?_, ?_⟩
          · rw [h1]; show -3 ≤ (k : Int) ∧ (k : Int) < n; omega
          · rw [h2]; show 0 ≤ (rs k).len + g (linkAt g nl router (k : Int)).toNat 2; omega
          · rw [h2]; show (rs k).len + g (linkAt g nl router (k : Int)).toNat 2 ≤ B + 100; omega
theorem st_bounds (hc : ∀ i, i < nl → 0 ≤ g i 2 ∧ g i 2 ≤ 100) (hn : 1 ≤ n) : ∀ t i, (-3 ≤ (st g nl o e x nx env ds n t i).via ∧ (st g nl o e x nx env ds n t i).via < n) ∧ 0 ≤ (st g nl o e x nx env ds n t i).len ∧ (st g nl o e x nx env ds n t i).len ≤ 2 + 100 * (t : Int)
  | 0, i => by
    show (-3 ≤ (-3 : Int) ∧ (-3 : Int) < n) ∧ (0 : Int) ≤ 0 ∧ (0 : Int) ≤ _
    omega
  | t + 1, i => by
    have ih := st_bounds hc hn t
    show (-3 ≤ (bst (candL g nl o e x nx env ds (st g nl o e x nx env ds n t) n (i : Int))).via ∧ _) ∧ _
    rcases bst_in (candL g nl o e x nx env ds (st g nl o e x nx env ds n t) n (i : Int)) with h | h
    · have e1 : st g nl o e x nx env ds n (t + 1) i = noRt := h
      rw [e1]
      rw [h]
      show (-3 ≤ (-3 : Int) ∧ (-3 : Int) < n) ∧ (0 : Int) ≤ 0 ∧ (0 : Int) ≤ _
      omega
    · have h2 := cand_bounds hc (fun i _ => (ih i).2) (by omega) _ h
      have e1 : st g nl o e x nx env ds n (t + 1) i = bst (candL g nl o e x nx env ds (st g nl o e x nx env ds n t) n (i : Int)) := rfl
      rw [e1]
      omega
theorem good_any {l : Nat → Nat} {s : Ss} {g x f : R} {o e : List Int} {rs : Rs} (h : netB l s g o e x f = true) (hv : ∀ i, i < l 0 → -3 ≤ (rs i).via ∧ (rs i).via < l 0) (hl : ∀ i, i < l 0 → 0 ≤ (rs i).len ∧ (rs i).len ≤ 20000) : sceneBy.Good (l 0) l g x rs := by
  obtain ⟨h4, h12, hk, hi⟩ := net_links h
  have hgi := fun j hj => (link_facts (hk j hj) h4).1
  exact ⟨h4, fun i hi => (link_facts (hk i hi) h4).2.1, fun i hi => (link_facts (hk i hi) h4).2.2, fun i h => (import_facts (hi i h) hgi).2, hv, hl⟩
theorem st_good {l : Nat → Nat} {s : Ss} {g x f : R} {o e o' e' : List Int} (h : netB l s g o e x f = true) (t : Nat) (ht : t ≤ 101) : sceneBy.Good (l 0) l g x (st g (l 1) o' e' x (l 4) env ds (l 0) t) := by
  obtain ⟨h4, h12, hk, hi⟩ := net_links h
  have hc := fun i hi => (link_facts (hk i hi) h4).2.2
  have hn := one_router h
  exact good_any h (fun i _ => (st_bounds hc hn t i).1) (fun i _ => by have := (st_bounds (o := o') (e := e') (x := x) (nx := l 4) (env := env) (ds := ds) hc hn t i).2; omega)
/-- The first round behind which all would choose the same again; -1: none up to the last. -/
def setAt (g : R) (nl : Nat) (o e : List Int) (x : R) (nx : Nat) (env : List Int) (ds : List Bool) (n rounds : Nat) : Int := firstAt (fun t => stabB g nl o e x nx env ds (st g nl o e x nx env ds n t) n) (rounds + 1)
end Go.Proofs.Ytjdeoiohbbnmeaa.settleSem
