/- ProdSem; SsSem: one text, so that the claim has fewer files. -/
import Derived.Test.YtmipoghemfopaaaGreatNetAll
import Derived.Test.YtmipoghemfopaaaGreatRofSem
import Derived.Test.YtmipoghemfopaaaGreatStabAll
/- All lists of one value of each row; of no program; conditions: none. -/
namespace Go.Proofs.YtmipoghemfopaaaGreat.prodSem
open Go base netSem
set_option linter.unusedVariables false

/-- All lists of one value of each of the first rows, the first counting most. -/
def prod (A : Nat → List Int) : Nat → List (List Int)
  | 0 => [[]]
  | k + 1 => (prod A k).flatMap fun c => (A k).map fun v => c ++ [v]
theorem prod_len {A : Nat → List Int} : ∀ {k : Nat} {c : List Int}, c ∈ prod A k → c.length = k
  | 0, c, h => by simp [prod] at h; rw [h]; rfl
  | k + 1, c, h => by
    simp only [prod, List.mem_flatMap, List.mem_map] at h
    obtain ⟨c', hc', v, _, rfl⟩ := h
    simp [prod_len hc']
theorem prod_in {A : Nat → List Int} : ∀ {k : Nat} {c : List Int}, c ∈ prod A k → ∀ i, i < k → zAt c i ∈ A i
  | 0, c, h, i, hi => absurd hi (Nat.not_lt_zero _)
  | k + 1, c, h, i, hi => by
    simp only [prod, List.mem_flatMap, List.mem_map] at h
    obtain ⟨c', hc', v, hv, rfl⟩ := h
    have hl := prod_len hc'
    unfold zAt
    by_cases e : i = k
    · subst e
      rw [List.getElem?_append_right (by omega), hl, Nat.sub_self]
      exact hv
    · rw [List.getElem?_append_left (by omega)]
      exact prod_in hc' i (by omega)
theorem prod_size {A : Nat → List Int} {M : Nat} : ∀ k, (∀ i, i < k → (A i).length ≤ M) → (prod A k).length ≤ M ^ k
  | 0, _ => by simp [prod]
  | k + 1, h => by
    have ih := prod_size k (fun i hi => h i (by omega))
    have hk := h k (by omega)
    simp only [prod]
    have key : ∀ l : List (List Int), (l.flatMap fun c => (A k).map fun v => c ++ [v]).length = l.length * (A k).length := by
      intro l
      induction l with
      | nil => simp
      | cons c l ihl => rw [List.flatMap_cons, List.length_append, ihl, List.length_map, List.length_cons, Nat.add_mul, Nat.one_mul, Nat.add_comm]
    rw [key, Nat.pow_succ]
    exact Nat.mul_le_mul ih hk
def allQ (q : Nat → Int → Bool) (c : List Int) : Bool := (List.range c.length).all fun i => q i (zAt c i)
theorem allQ_snoc (q : Nat → Int → Bool) (c : List Int) (v : Int) : allQ q (c ++ [v]) = (allQ q c && q c.length v) := by
  unfold allQ
  rw [List.length_append, List.length_singleton, List.range_succ, List.all_append]
  have h1 : (List.range c.length).all (fun i => q i (zAt (c ++ [v]) i)) = (List.range c.length).all fun i => q i (zAt c i) := by
    apply Bool.eq_iff_iff.2
    simp only [List.all_eq_true, List.mem_range]
    constructor
    · intro h i hi
      have := h i hi
      unfold zAt at this ⊢
      rwa [List.getElem?_append_left hi] at this
    · intro h i hi
      have := h i hi
      unfold zAt at this ⊢
      rwa [List.getElem?_append_left hi]
  rw [h1]
  congr 1
  simp [zAt]
theorem prod_filter (A : Nat → List Int) (q : Nat → Int → Bool) : ∀ k, prod (fun i => (A i).filter (q i)) k = (prod A k).filter (allQ q)
  | 0 => rfl
  | k + 1 => by
    show (prod (fun i => (A i).filter (q i)) k).flatMap _ = _
    rw [prod_filter A q k]
    have hl : ∀ c ∈ (prod A k), c.length = k := fun c hc => prod_len hc
    have h1 : (((prod A k).filter (allQ q)).flatMap fun c => ((A k).filter (q k)).map fun v => c ++ [v]) = ((prod A k).flatMap fun c => (A k).map fun v => c ++ [v]).filter (fun c => allQ q c) := by
      revert hl
      generalize prod A k = l
      intro hl
      induction l with
      | nil => rfl
      | cons c l ih =>
        have ih := ih (fun c' hc' => hl c' (List.mem_cons_of_mem _ hc'))
        have hc : c.length = k := hl c List.mem_cons_self
        rw [List.flatMap_cons, List.filter_append, List.filter_cons, List.filter_map]
        cases hq : allQ q c with
        | true =>
          rw [if_pos rfl, List.flatMap_cons, ih]
          congr 2
          congr 1
          funext v
          simp only [Function.comp, allQ_snoc, hq, hc, Bool.true_and]
        | false =>
          rw [if_neg (by decide), ih]
          have : (A k).filter ((fun c => allQ q c) ∘ fun v => c ++ [v]) = [] := List.filter_eq_nil_iff.2 fun v _ => by simp [Function.comp, allQ_snoc, hq]
          rw [this]
          rfl
    exact h1

end Go.Proofs.YtmipoghemfopaaaGreat.prodSem

/- All choices of all routers, and the stable ones among them, as plain functions; of no program; conditions: none. -/
namespace Go.Proofs.YtmipoghemfopaaaGreat.ssSem
open Go base netSem routeRow nbSem candSem sceneSem sceneCand sceneList rtsRow noRts bestAll stabImpl stabFace stabLaw rofSem prodSem
set_option linter.unusedVariables false

/-- What a router has of its own, and from outside. -/
def ownV (o : List Int) (i : Int) : List Int := if 0 ≤ hasAt o i then [-2] else []
def extV (e env : List Int) (i : Int) : List Int := if 0 ≤ hasAt e i ∧ 0 < zAt env (hasAt e i).toNat then [-1] else []
/-- What it may choose, by the specification; by the program. -/
def optL (g : R) (nl : Nat) (o e env : List Int) (ds : List Bool) (n : Nat) (i : Int) : List Int :=
  ownV o i ++ extV e env i ++ (if (ownV o i ++ extV e env i).length = 0 then [-3] else []) ++ nbL g nl ds i n
def rowP (g : R) (nl : Nat) (o e env : List Int) (ds : List Bool) (i : Int) (k : Nat) : List Int :=
  ((List.range k).map fun j : Nat => (j : Int) - 3).filter fun v => openB g nl o e env ds i v
theorem rowP_succ (g : R) (nl : Nat) (o e env : List Int) (ds : List Bool) (i : Int) (k : Nat) : rowP g nl o e env ds i (k + 1) = rowP g nl o e env ds i k ++ (if openB g nl o e env ds i ((k : Int) - 3) then [(k : Int) - 3] else []) := by
  unfold rowP
  rw [List.range_succ, List.map_append, List.filter_append]
  congr 1
  simp only [List.map_cons, List.map_nil]
  cases h : openB g nl o e env ds i ((k : Int) - 3) <;> simp [h]
theorem rowP_len (g : R) (nl : Nat) (o e env : List Int) (ds : List Bool) (i : Int) (k : Nat) : (rowP g nl o e env ds i k).length ≤ k := by
  unfold rowP
  refine Nat.le_trans (List.length_filter_le _ _) ?_
  simp
theorem rowP_form (g : R) (nl : Nat) (o e env : List Int) (ds : List Bool) (i : Int) (he : ∀ i, 0 ≤ zAt env i) : ∀ k, rowP g nl o e env ds i (k + 3) = -3 :: (ownV o i ++ extV e env i ++ nbL g nl ds i k)
  | 0 => by
    rw [rowP_succ, rowP_succ, rowP_succ]
    have h0 : rowP g nl o e env ds i 0 = [] := rfl
    have h3 : openB g nl o e env ds i (((0 : Nat) : Int) - 3) = true := rfl
    have h2 : openB g nl o e env ds i (((0 + 1 : Nat) : Int) - 3) = decide (0 ≤ hasAt o i) := rfl
    have h1 : openB g nl o e env ds i (((0 + 1 + 1 : Nat) : Int) - 3) = (annA e env i != 0) := rfl
    rw [h0, h3, h2, h1]
    have hn : nbL g nl ds i 0 = [] := by simp [nbL]
    rw [hn]
    unfold ownV extV annA
    by_cases a : 0 ≤ hasAt o i
    · by_cases b : 0 ≤ hasAt e i
      · have := he (hasAt e i).toNat
        by_cases c : zAt env (hasAt e i).toNat = 0
        · simp [a, b, c]
        · have c' : 0 < zAt env (hasAt e i).toNat := by omega
          simp [a, b, c, c']
      · simp [a, b]
    · by_cases b : 0 ≤ hasAt e i
      · have := he (hasAt e i).toNat
        by_cases c : zAt env (hasAt e i).toNat = 0
        · simp [a, b, c]
        · have c' : 0 < zAt env (hasAt e i).toNat := by omega
          simp [a, b, c, c']
      · simp [a, b]
  | k + 1 => by
    rw [show k + 1 + 3 = (k + 3) + 1 from rfl, rowP_succ, rowP_form g nl o e env ds i he k, nbL_succ]
    have h : openB g nl o e env ds i (((k + 3 : Nat) : Int) - 3) = nbB g nl ds i k := by
      have e1 : ((k + 3 : Nat) : Int) - 3 = (k : Int) := by omega
      rw [e1]
      unfold openB
      rw [if_neg (by omega), if_neg (by omega), if_neg (by omega), Int.toNat_natCast]
    rw [h, show ((k + 3 : Nat) : Int) - 3 = (k : Int) by omega]
    cases nbB g nl ds i k <;> simp
/-- A choice that the specification lets in. -/
def letsB (o e env : List Int) (i : Int) (v : Int) : Bool := decide (v ≠ -3) || decide ((ownV o i ++ extV e env i).length = 0)
theorem opt_row (g : R) (nl : Nat) (o e env : List Int) (ds : List Bool) (n : Nat) (i : Int) (he : ∀ i, 0 ≤ zAt env i) : optL g nl o e env ds n i = (rowP g nl o e env ds i (n + 3)).filter (letsB o e env i) := by
  rw [rowP_form g nl o e env ds i he n, List.filter_cons, List.filter_append, List.filter_append]
  have h2 : (ownV o i).filter (letsB o e env i) = ownV o i := List.filter_eq_self.2 fun v hv => by
    unfold ownV at hv
    split at hv
    · simp only [List.mem_singleton] at hv; subst hv; rfl
    · cases hv
  have h1 : (extV e env i).filter (letsB o e env i) = extV e env i := List.filter_eq_self.2 fun v hv => by
    unfold extV at hv
    split at hv
    · simp only [List.mem_singleton] at hv; subst hv; rfl
    · cases hv
  have h0 : (nbL g nl ds i n).filter (letsB o e env i) = nbL g nl ds i n := List.filter_eq_self.2 fun v hv => by
    unfold nbL at hv
    obtain ⟨j, _, rfl⟩ := List.mem_map.1 hv
    unfold letsB
    rw [decide_eq_true (by omega)]
    rfl
  rw [h2, h1, h0]
  unfold optL
  by_cases hz : (ownV o i ++ extV e env i).length = 0
  · have h3 : letsB o e env i (-3) = true := by unfold letsB; rw [decide_eq_true hz]; rfl
    rw [if_pos hz, h3, if_pos rfl, List.length_eq_zero_iff.1 hz]
    rfl
  · have h3 : letsB o e env i (-3) = false := by unfold letsB; rw [decide_eq_false hz]; rfl
    rw [if_neg hz, h3, if_neg (by decide), List.append_nil]

/-- What becomes of chosen Vias: they can be had, and are stable. -/
def goodB (g : R) (nl : Nat) (o e : List Int) (x : R) (nx : Nat) (env : List Int) (ds : List Bool) (n : Nat) (c : List Int) : Bool := okV g nl o e x nx env ds c n && stabB g nl o e x nx env ds (valR g nl o e x nx env ds c n) n
def stateOf (g : R) (nl : Nat) (o e : List Int) (x : R) (nx : Nat) (env : List Int) (ds : List Bool) (n : Nat) (c : List Int) : List Rt := (List.range n).map (valR g nl o e x nx env ds c n)
def statesL (g : R) (nl : Nat) (o e : List Int) (x : R) (nx : Nat) (env : List Int) (ds : List Bool) (n : Nat) (l : List (List Int)) : List (List Rt) := (l.filter (goodB g nl o e x nx env ds n)).map (stateOf g nl o e x nx env ds n)
theorem statesL_snoc (g : R) (nl : Nat) (o e : List Int) (x : R) (nx : Nat) (env : List Int) (ds : List Bool) (n : Nat) (l : List (List Int)) (c : List Int) : statesL g nl o e x nx env ds n (l ++ [c]) = statesL g nl o e x nx env ds n l ++ (if goodB g nl o e x nx env ds n c then [stateOf g nl o e x nx env ds n c] else []) := by
  unfold statesL
  rw [List.filter_append, List.map_append]
  congr 1
  cases h : goodB g nl o e x nx env ds n c <;> simp [h]
variable {g : R} {nl nx : Nat} {o e : List Int} {x : R} {env : List Int} {ds : List Bool} {n : Nat}
theorem bst_none {zs : List Rt} (h : bst zs = noRt) (hv : ∀ r ∈ zs, r.via ≠ -3) : zs = [] := by
  cases zs with
  | nil => rfl
  | cons a zs =>
    exfalso
    have hpos : 0 < (a :: zs).length := by simp
    rw [bst_some hpos] at h
    have key : ∀ k, k < (a :: zs).length → ∃ i, i ≤ k ∧ bestTo (rF (a :: zs)) k = rF (a :: zs) i := by
      intro k
      induction k with
      | zero => intro _; exact ⟨0, Nat.le_refl _, rfl⟩
      | succ k ih =>
        intro hk
        simp only [bestTo]
        split
        · exact ⟨k + 1, Nat.le_refl _, rfl⟩
        · obtain ⟨i, hi, e⟩ := ih (by omega)
          exact ⟨i, by omega, e⟩
    obtain ⟨i, hi, e⟩ := key _ (show (a :: zs).length - 1 < (a :: zs).length by omega)
    rw [e] at h
    have hm : rF (a :: zs) i ∈ (a :: zs) := by
      have hil : i < (a :: zs).length := by omega
      unfold rF
      rw [List.getElem?_eq_getElem hil]
      exact List.getElem_mem hil
    exact hv _ hm (by rw [h]; rfl)
/-- Stable routes let in just what the specification does. -/
theorem good_lets {c : List Int} (hn : 1 ≤ n) (hl : c.length = n) (h : goodB g nl o e x nx env ds n c = true) : allQ (fun i v => letsB o e env (i : Int) v) c = true := by
  unfold goodB at h
  simp only [Bool.and_eq_true] at h
  obtain ⟨h1, h2⟩ := h
  unfold allQ
  simp only [List.all_eq_true, List.mem_range]
  intro i hi
  rw [hl] at hi
  unfold letsB
  by_cases hv : zAt c i = -3
  · have hs : valR g nl o e x nx env ds c n i = noRt := by
      have hsome := allN_iff.1 h1 i hi
      unfold valR
      cases hq : val g nl o e x nx env ds c n (i : Int) with
      | none => rfl
      | some r =>
        obtain ⟨n', rfl⟩ : ∃ n', n = n' + 1 := ⟨n - 1, by omega⟩
        simp only [val, Int.toNat_natCast, hv] at hq
        have h0 : openB g nl o e env ds (i : Int) (-3) = true := rfl
        rw [h0] at hq
        simp at hq
        rw [← hq]
        rfl
    unfold stabB sameTo at h2
    have h3 := eqR_iff.1 (allN_iff.1 h2 i hi)
    simp only at h3
    rw [hs] at h3
    have h4 := bst_none h3 (fun r hr => cand_via r hr)
    unfold candL at h4
    simp only [List.append_eq_nil_iff] at h4
    have h5 : ownV o (i : Int) = [] := by
      have := h4.1.1
      unfold ownC at this
      unfold ownV
      split at this
      · cases this
      · next hh => rw [if_neg hh]
    have h6 : extV e env (i : Int) = [] := by
      have := h4.1.2
      unfold extC at this
      unfold extV
      split at this
      · cases this
      · next hh => rw [if_neg hh]
    rw [h5, h6]
    simp
  · rw [decide_eq_true hv]
    rfl
theorem states_same (he : ∀ i, 0 ≤ zAt env i) (hn : 1 ≤ n) : statesL g nl o e x nx env ds n (prod (fun i : Nat => optL g nl o e env ds n (i : Int)) n) = statesL g nl o e x nx env ds n (prod (fun i : Nat => rowP g nl o e env ds (i : Int) (n + 3)) n) := by
  have h1 : prod (fun i : Nat => optL g nl o e env ds n (i : Int)) n = (prod (fun i : Nat => rowP g nl o e env ds (i : Int) (n + 3)) n).filter (allQ fun i v => letsB o e env (i : Int) v) := by
    rw [← prod_filter]
    congr 1
    funext i
    exact opt_row g nl o e env ds n (i : Int) he
  rw [h1]
  unfold statesL
  congr 1
  rw [List.filter_filter]
  apply List.filter_congr
  intro c hc
  have hl := prod_len hc
  cases hg : goodB g nl o e x nx env ds n c with
  | false => rfl
  | true => rw [good_lets hn hl hg]; rfl
end Go.Proofs.YtmipoghemfopaaaGreat.ssSem
