/- StabIn; FwSem; ValR: one text, so that the claim has fewer files. -/
import Derived.Test.YtjdeoiohbbnmeaaPart30
import Derived.Test.YtjdeoiohbbnmeaaPart14
import Derived.Test.YtjdeoiohbbnmeaaRofSem
/- Routes that are stable are among the stable states; of no program; conditions: every link costs something. -/
namespace Go.Proofs.Ytjdeoiohbbnmeaa.stabIn
open Go base netSem routeRow nbSem candSem sceneSem sceneCand sceneList candHole rtsRow stabImpl stabFace stabLaw prodSem rofSem ssSem settleSem
set_option linter.unusedVariables false

variable {g : R} {nl nx : Nat} {o e : List Int} {x : R} {env : List Int} {ds : List Bool} {n : Nat} {rs rs' : Rs}
theorem mem_lst {i : Int} {r : Rt} : ∀ {k : Nat}, r ∈ lst g nl o e x nx env ds rs n i k → byVia g nl o e x nx env ds rs n i r.via = some r
  | 0, h => by simp [lst] at h
  | k + 1, h => by
    rw [lst_succ] at h
    rcases List.mem_append.1 h with h | h
    · exact mem_lst h
    · have h1 := Option.mem_toList.1 h
      rw [by_via h1]
      exact h1
/-- What a candidate is. -/
theorem cand_cases {i : Int} {r : Rt} (h : r ∈ candL g nl o e x nx env ds rs n i) : (r.via = -2 ∧ 0 ≤ hasAt o i) ∨ (r.via = -1 ∧ 0 ≤ hasAt e i ∧ 0 < zAt env (hasAt e i).toNat) ∨ ∃ j : Nat, r.via = j ∧ j < n ∧ (j : Int) ∈ nbL g nl ds i n ∧ thru rs i (n + 1) j = false ∧ r.len = (rs j).len + g (linkAt g nl i j).toNat 2 ∧ 0 ≤ linkAt g nl i j := by
  simp only [candL, List.mem_append, List.mem_flatMap] at h
  rcases h with (h | h) | ⟨j, hj, h⟩
  · unfold ownC at h
    split at h
    · next h0 => rw [List.mem_singleton] at h; subst h; exact .inl ⟨rfl, h0⟩
    · cases h
  · unfold extC at h
    split at h
    · next h0 => rw [List.mem_singleton] at h; subst h; exact .inr (.inl ⟨rfl, h0⟩)
    · cases h
  · have hm := hj
    unfold nbL at hj
    simp only [List.mem_map, List.mem_filter, List.mem_range] at hj
    obtain ⟨k, ⟨hk, hb⟩, rfl⟩ := hj
    unfold nbB at hb
    simp only [Bool.and_eq_true, decide_eq_true_eq] at hb
    unfold candOf at h
    split at h
    · cases h
    · split at h
      · cases h
      · next ht =>
        cases hi : impR g nl x nx i (k : Int) (rs (k : Int).toNat) with
        | none => rw [hi] at h; cases h
        | some q =>
          rw [hi] at h
          simp only [List.mem_singleton] at h
          subst h
          obtain ⟨h1, h2⟩ := impK_via (show impK x i (k : Int) (startI (k : Int) (g (linkAt g nl i (k : Int)).toNat 2) (rs (k : Int).toNat)) nx = some r from hi)
          have e1 : (k : Int).toNat = k := by omega
          rw [e1] at h1 h2
          exact .inr (.inr ⟨k, h1, hk, hm, by simpa using ht, h2, hb.1⟩)
theorem stab_at (h : stabB g nl o e x nx env ds rs n = true) {i : Nat} (hi : i < n) : rs i = bst (candL g nl o e x nx env ds rs n (i : Int)) := by
  unfold stabB sameTo at h
  exact (eqR_iff.1 (allN_iff.1 h i hi)).symm
theorem stab_or (h : stabB g nl o e x nx env ds rs n = true) {i : Nat} (hi : i < n) : (rs i = noRt ∧ candL g nl o e x nx env ds rs n (i : Int) = []) ∨ rs i ∈ candL g nl o e x nx env ds rs n (i : Int) := by
  have h1 := stab_at h hi
  rcases bst_in (candL g nl o e x nx env ds rs n (i : Int)) with h2 | h2
  · exact .inl ⟨h1.trans h2, bst_none h2 (fun r hr => cand_via r hr)⟩
  · rw [← h1] at h2; exact .inr h2
theorem stab_via (hn1 : 1 ≤ n) (h : stabB g nl o e x nx env ds rs n = true) {i : Nat} (hi : i < n) : -3 ≤ (rs i).via ∧ (rs i).via < n := by
  rcases stab_or h hi with ⟨h1, _⟩ | h1
  · rw [h1]; show (-3 : Int) ≤ -3 ∧ (-3 : Int) < n; omega
  · rcases cand_cases h1 with ⟨h2, _⟩ | ⟨h2, _⟩ | ⟨j, h2, hj, _⟩ <;> rw [h2] <;> omega
/-- The Vias of routes. -/
def viaL (rs : Rs) (n : Nat) : List Int := (List.range n).map fun i => (rs i).via
theorem via_at (rs : Rs) {n i : Nat} (hi : i < n) : zAt (viaL rs n) i = (rs i).via := by
  unfold zAt viaL
  rw [List.getElem?_map, List.getElem?_range hi]
  rfl
theorem via_out (rs : Rs) {n i : Nat} (hi : ¬ i < n) : zAt (viaL rs n) i = 0 := by
  unfold zAt viaL
  rw [List.getElem?_eq_none (by simp; omega)]
  rfl
theorem cnt_some (hn1 : 1 ≤ n) (hc : ∀ i, i < nl → 1 ≤ g i 2) (h : stabB g nl o e x nx env ds rs n = true) (hl : ∀ i, i < n → 0 ≤ (rs i).len) : ∀ (L i : Nat), i < n → (rs i).len.toNat ≤ L → ∃ m, cnt (viaL rs n) m (i : Int) = true := by
  intro L
  induction L with
  | zero =>
    intro i hi hL
    have hz : zAt (viaL rs n) (i : Int).toNat = (rs i).via := by rw [Int.toNat_natCast]; exact via_at rs hi
    by_cases hv : (rs i).via < 0
    · exact ⟨1, cnt_succ (by omega) (by rw [hz]; exact decide_eq_true hv)⟩
    · exfalso
      rcases stab_or h hi with ⟨h1, _⟩ | h1
      · rw [h1] at hv; exact hv (by decide)
      · rcases cand_cases h1 with ⟨h2, _⟩ | ⟨h2, _⟩ | ⟨j, h2, hj, _, _, h5, h6⟩
        · omega
        · omega
        · have := hc _ (link_lt h6)
          have := hl j hj
          omega
  | succ L ih =>
    intro i hi hL
    have hz : zAt (viaL rs n) (i : Int).toNat = (rs i).via := by rw [Int.toNat_natCast]; exact via_at rs hi
    by_cases hv : (rs i).via < 0
    · exact ⟨1, cnt_succ (by omega) (by rw [hz]; exact decide_eq_true hv)⟩
    · rcases stab_or h hi with ⟨h1, _⟩ | h1
      · rw [h1] at hv; exact absurd (by decide) hv
      · rcases cand_cases h1 with ⟨h2, _⟩ | ⟨h2, _⟩ | ⟨j, h2, hj, _, _, h5, h6⟩
        · omega
        · omega
        · have h7 := hc _ (link_lt h6)
          have h8 := hl j hj
          obtain ⟨m, hm⟩ := ih j hj (by omega)
          exact ⟨m + 1, cnt_succ (by omega) (by rw [hz, h2]; exact hm)⟩
theorem val_some (hn1 : 1 ≤ n) (hn4 : n ≤ 4) (he : ∀ i, 0 ≤ zAt env i) (h : stabB g nl o e x nx env ds rs n = true) : ∀ (m f i : Nat), i < n → cnt (viaL rs n) m (i : Int) = true → m ≤ f → val g nl o e x nx env ds (viaL rs n) f (i : Int) = some (rs i) := by
  have hvn : ∀ i, i < n → (rs i).via < n := fun i hi => (stab_via hn1 h hi).2
  intro m
  induction m with
  | zero =>
    intro f i hi hm _
    simp only [cnt, decide_eq_true_eq] at hm
    omega
  | succ m ih =>
    intro f i hi hm hf
    obtain ⟨f', rfl⟩ : ∃ f', f = f' + 1 := ⟨f - 1, by omega⟩
    have hz : zAt (viaL rs n) (i : Int).toNat = (rs i).via := by rw [Int.toNat_natCast]; exact via_at rs hi
    simp only [cnt, Bool.and_eq_true] at hm
    have hm2 := hm.2
    rw [hz] at hm2
    have h3 := (stab_via hn1 h hi).1
    rw [← by_val (rs := rs) (n := n) (f := f') (i := (i : Int)) (fun h0 => ?_) (by rw [hz]; exact h3), hz]
    · rcases stab_or h hi with ⟨h1, _⟩ | h1
      · rw [h1]
        show byVia g nl o e x nx env ds rs n (i : Int) (-3) = some noRt
        unfold byVia openB
        simp
      · refine mem_lst (k := n + 2) ?_
        rw [lst_cand g nl o e x nx env ds rs n (i : Int) hn4 hvn he]
        exact h1
    · rw [hz] at h0 ⊢
      rcases stab_or h hi with ⟨h1, _⟩ | h1
      · rw [h1] at h0; exact absurd h0 (by decide)
      · rcases cand_cases h1 with ⟨h2, _⟩ | ⟨h2, _⟩ | ⟨j, h2, hj, _, h4, _, _⟩
        · omega
        · omega
        · rw [h2] at hm2 ⊢
          rw [Int.toNat_natCast]
          refine ⟨ih f' j hj hm2 (by omega), ?_⟩
          rw [← thru_more rs (i : Int) n (j : Int) hn4 hvn (by omega) (by omega)]
          exact h4
theorem thru_congr (ha : ∀ j, j < n → rs j = rs' j) (hv : ∀ j, j < n → (rs j).via < n) (r : Int) : ∀ (f : Nat) (k : Int), k < n → thru rs r f k = thru rs' r f k
  | 0, _, _ => rfl
  | f + 1, k, hk => by
    simp only [thru]
    by_cases h0 : k < 0
    · simp [h0]
    · have h1 : k.toNat < n := by omega
      rw [← ha _ h1, thru_congr ha hv r f _ (hv _ h1)]
theorem cand_congr (ha : ∀ j, j < n → rs j = rs' j) (hv : ∀ j, j < n → (rs j).via < n) (i : Int) : candL g nl o e x nx env ds rs n i = candL g nl o e x nx env ds rs' n i := by
  unfold candL
  congr 1
  have key : ∀ L : List Int, (∀ j ∈ L, 0 ≤ j ∧ j < n) → L.flatMap (candOf g nl x nx rs n i) = L.flatMap (candOf g nl x nx rs' n i) := by
    intro L
    induction L with
    | nil => intro _; rfl
    | cons j L ih =>
      intro hL
      obtain ⟨h1, h2⟩ := hL j List.mem_cons_self
      rw [List.flatMap_cons, List.flatMap_cons, ih (fun j hj => hL j (List.mem_cons_of_mem _ hj))]
      congr 1
      unfold candOf
      rw [ha j.toNat (by omega), thru_congr ha hv i (n + 1) j h2]
  refine key _ fun j hj => ?_
  unfold nbL at hj
  simp only [List.mem_map, List.mem_filter, List.mem_range] at hj
  obtain ⟨k, ⟨hk, _⟩, rfl⟩ := hj
  omega
theorem stab_congr (ha : ∀ j, j < n → rs j = rs' j) (hv : ∀ j, j < n → (rs j).via < n) (h : stabB g nl o e x nx env ds rs n = true) : stabB g nl o e x nx env ds rs' n = true := by
  unfold stabB sameTo at h ⊢
  refine allN_of fun i hi => ?_
  have h1 := eqR_iff.1 (allN_iff.1 h i hi)
  refine eqR_iff.2 ?_
  simp only at h1 ⊢
  rw [← cand_congr ha hv, h1, ha i hi]
theorem prod_of {A : Nat → List Int} {F : Nat → Int} : ∀ k, (∀ i, i < k → F i ∈ A i) → (List.range k).map F ∈ prod A k
  | 0, _ => by simp [prod]
  | k + 1, h => by
    simp only [prod, List.mem_flatMap, List.mem_map]
    exact ⟨_, prod_of k (fun i hi => h i (by omega)), F k, h k (by omega), by rw [List.range_succ, List.map_append]; rfl⟩
theorem via_opt (h : stabB g nl o e x nx env ds rs n = true) {i : Nat} (hi : i < n) : (rs i).via ∈ optL g nl o e env ds n (i : Int) := by
  unfold optL
  rcases stab_or h hi with ⟨h1, h2⟩ | h1
  · unfold candL at h2
    simp only [List.append_eq_nil_iff] at h2
    have h5 : ownV o (i : Int) = [] := by
      have := h2.1.1
      unfold ownC at this
      unfold ownV
      split at this
      · cases this
      · next hh => rw [if_neg hh]
    have h6 : extV e env (i : Int) = [] := by
      have := h2.1.2
      unfold extC at this
      unfold extV
      split at this
      · cases this
      · next hh => rw [if_neg hh]
    rw [h5, h6, h1]
    simp [noRt]
  · simp only [List.mem_append]
    rcases cand_cases h1 with ⟨h2, h3⟩ | ⟨h2, h3, h4⟩ | ⟨j, h2, _, h3, _⟩
    · refine .inl (.inl (.inl ?_))
      unfold ownV
      rw [if_pos h3, h2]
      simp
    · refine .inl (.inl (.inr ?_))
      unfold extV
      rw [if_pos ⟨h3, h4⟩, h2]
      simp
    · rw [h2]; exact .inr h3
/-- Stable routes are among the stable states. -/
theorem stab_in (hn1 : 1 ≤ n) (hn4 : n ≤ 4) (he : ∀ i, 0 ≤ zAt env i) (hc : ∀ i, i < nl → 1 ≤ g i 2) (hl : ∀ i, i < n → 0 ≤ (rs i).len) (h : stabB g nl o e x nx env ds rs n = true) :
    (List.range n).map rs ∈ statesL g nl o e x nx env ds n (prod (fun i : Nat => optL g nl o e env ds n (i : Int)) n) := by
  have hvl : ∀ i, zAt (viaL rs n) i < n := fun i => by
    by_cases hi : i < n
    · rw [via_at rs hi]; exact (stab_via hn1 h hi).2
    · rw [via_out rs hi]; omega
  have hval : ∀ i, i < n → val g nl o e x nx env ds (viaL rs n) n (i : Int) = some (rs i) := fun i hi => by
    obtain ⟨m, hm⟩ := cnt_some hn1 hc h hl _ i hi (Nat.le_refl _)
    exact val_some hn1 hn4 he h m n i hi hm (cnt_most hn4 hvl (by omega) hm)
  have hR : ∀ i, i < n → rs i = valR g nl o e x nx env ds (viaL rs n) n i := fun i hi => by unfold valR; rw [hval i hi]; rfl
  unfold statesL
  refine List.mem_map.2 ⟨viaL rs n, List.mem_filter.2 ⟨prod_of n (fun i hi => via_opt h hi), ?_⟩, ?_⟩
  · unfold goodB
    rw [Bool.and_eq_true]
    exact ⟨allN_of fun i hi => by rw [hval i hi]; rfl, stab_congr hR (fun j hj => (stab_via hn1 h hj).2) h⟩
  · unfold stateOf
    refine List.map_congr_left fun i hi => ?_
    exact (hR i (List.mem_range.1 hi)).symm
end Go.Proofs.Ytjdeoiohbbnmeaa.stabIn

/- What Forward answers, as plain functions; of no program; conditions: none. -/
namespace Go.Proofs.Ytjdeoiohbbnmeaa.fwSem
open Go.RowKit Go.Deep base names netSem routeRow walkSem routesB
set_option linter.unusedVariables false

def fC (l : Nat → Nat) (s : Ss) (g : R) (o e : List Int) (x f : R) (dl rl : Nat) (ds : List Bool) (rs : Rs) (fr port : Int) : Int := fwC (netB l s g o e x f) (routesB g (l 1) (l 0) rl rs) dl rl (l 1) (l 0) fr port (anyDown g (l 1) rl ds rs)
def fwO (C : Int) (rs : Rs) (f : R) (m : Nat) (port : Int) (rl : Nat) (fr : Int) : Int := if C = 0 then wayO rs f m port rl fr else 0
def fwP (C : Int) (rs : Rs) (f : R) (m : Nat) (port : Int) (rl : Nat) (fr : Int) : List Int := if C = 0 then fr :: wayR rs f m port rl fr else []
theorem fwP_len (C : Int) (rs : Rs) (f : R) (m : Nat) (port : Int) (rl : Nat) (fr : Int) : (fwP C rs f m port rl fr).length ≤ rl + 1 := by
  unfold fwP
  split
  · rw [List.length_cons]; have := way_len rs f m port rl fr; omega
  · simp
theorem fC_small {l : Nat → Nat} {s : Ss} {g : R} {o e : List Int} {x f : R} {dl rl : Nat} {ds : List Bool} {rs : Rs} {fr port : Int} (h : fC l s g o e x f dl rl ds rs fr port = 0) : rl ≤ 4096 := by
  unfold fC fwC at h
  split at h
  · cases h
  · omega
theorem fwP_small (l : Nat → Nat) (s : Ss) (g : R) (o e : List Int) (x f : R) (dl rl : Nat) (ds : List Bool) (rs : Rs) (fr port : Int) (m : Nat) : (fwP (fC l s g o e x f dl rl ds rs fr port) rs f m port rl fr).length ≤ 4097 := by
  by_cases h : fC l s g o e x f dl rl ds rs fr port = 0
  · have := fwP_len (fC l s g o e x f dl rl ds rs fr port) rs f m port rl fr
    have := fC_small h
    omega
  · unfold fwP; rw [if_neg h]; simp
theorem no_out {C : Int} {rs : Rs} {f : R} {m : Nat} {port : Int} {rl : Nat} {fr : Int} (h : C ≠ 0) : fwO C rs f m port rl fr = 0 ∧ fwP C rs f m port rl fr = [] := by
  unfold fwO fwP; rw [if_neg h, if_neg h]; exact ⟨rfl, rfl⟩
theorem yes_out (rs : Rs) (f : R) (m : Nat) (port : Int) (rl : Nat) (fr : Int) : fwO 0 rs f m port rl fr = wayO rs f m port rl fr ∧ fwP 0 rs f m port rl fr = fr :: wayR rs f m port rl fr := by
  unfold fwO fwP; rw [if_pos rfl, if_pos rfl]; exact ⟨rfl, rfl⟩
end Go.Proofs.Ytjdeoiohbbnmeaa.fwSem

/- Bounds of the routes of chosen numbers; of no program; conditions: none. -/
namespace Go.Proofs.Ytjdeoiohbbnmeaa.valRB
open Go base netSem routeRow nbSem candSem rofSem
set_option linter.unusedVariables false

variable {g : R} {o e : List Int} {x : R} {env : List Int} {ds : List Bool}
theorem valR_bounds {nl nx n : Nat} {vs : List Int} (hn1 : 1 ≤ n) (hn : n ≤ 4) (hv : ∀ i, -3 ≤ zAt vs i ∧ zAt vs i < n) (hc : ∀ i, i < nl → 0 ≤ g i 2 ∧ g i 2 ≤ 100) (hok : okV g nl o e x nx env ds vs n = true) {i : Nat} (hi : i < n) :
    (-3 ≤ (valR g nl o e x nx env ds vs n i).via ∧ (valR g nl o e x nx env ds vs n i).via < n) ∧ 0 ≤ (valR g nl o e x nx env ds vs n i).len ∧ (valR g nl o e x nx env ds vs n i).len ≤ 20000 := by
  have hs := allN_iff.1 hok i hi
  unfold valR
  cases hq : val g nl o e x nx env ds vs n (i : Int) with
  | none => rw [hq] at hs; cases hs
  | some r =>
    have h1 := val_via hq
    have h2 := val_len (fun i => (hv i).1) hc hq
    have h3 := hv i
    rw [Int.toNat_natCast] at h1
    show (-3 ≤ r.via ∧ r.via < n) ∧ 0 ≤ r.len ∧ r.len ≤ 20000
    rw [h1]
    exact ⟨h3, by omega, by omega⟩
end Go.Proofs.Ytjdeoiohbbnmeaa.valRB
