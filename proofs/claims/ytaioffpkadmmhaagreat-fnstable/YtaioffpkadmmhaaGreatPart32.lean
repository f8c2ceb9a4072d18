import Derived.Test.YtaioffpkadmmhaaGreatPart29
import Derived.Test.YtaioffpkadmmhaaGreatPart31
import Derived.Test.YtaioffpkadmmhaaGreatPart28
import Derived.Test.YtaioffpkadmmhaaGreatPart15
namespace Go.Proofs.YtaioffpkadmmhaaGreat.ssSem
open Go base netSem routeRow nbSem candSem sceneSem sceneCand sceneList rtsRow noRts bestAll stabImpl stabFace stabLaw rofSem prodSem
set_option linter.unusedVariables false
def ownV (o : List Int) (i : Int) : List Int := if 0 ≤ hasAt o i then [-2] else []
def extV (e env : List Int) (i : Int) : List Int := if 0 ≤ hasAt e i ∧ 0 < zAt env (hasAt e i).toNat then [-1] else []
def optL (g : R) (nl : Nat) (o e env : List Int) (ds : List Bool) (n : Nat) (i : Int) : List Int :=
 ownV o i ++ extV e env i ++ (if (ownV o i ++ extV e env i).length = 0 then [-3] else []) ++ nbL g nl ds i n
def rowP (g : R) (nl : Nat) (o e env : List Int) (ds : List Bool) (i : Int) (k : Nat) : List Int :=
 ((List.range k).map fun j : Nat => (j : Int) - 3).filter fun v => openB g nl o e env ds i v
theorem rowP_succ (g : R) (nl : Nat) (o e env : List Int) (ds : List Bool) (i : Int) (k : Nat) : rowP g nl o e env ds i (k + 1) = rowP g nl o e env ds i k ++ (if openB g nl o e env ds i ((k : Int) - 3) then [(k : Int) - 3] else []) := by
 unfold rowP
 rw [List.range_succ, List.map_append, List.filter_append]
 congr 1
 simp only [List.map_cons, List.map_nil]
 cases h : openB g nl o e env ds i ((k : Int) - 3) <;> simp [h]
theorem rowP_len (g : R) (nl : Nat) (o e env : List Int) (ds : List Bool) (i : Int) (k : Nat) : (rowP g nl o e env ds i k).length ≤ k := by
 unfold rowP
 refine Nat.le_trans (List.length_filter_le _ _) ?_
 simp
theorem rowP_form (g : R) (nl : Nat) (o e env : List Int) (ds : List Bool) (i : Int) (he : ∀ i, 0 ≤ zAt env i) : ∀ k, rowP g nl o e env ds i (k + 3) = -3 :: (ownV o i ++ extV e env i ++ nbL g nl ds i k)
 | 0 => by
  rw [rowP_succ, rowP_succ, rowP_succ]
  have h0 : rowP g nl o e env ds i 0 = [] := rfl
  have h3 : openB g nl o e env ds i (((0 : Nat) : Int) - 3) = true := rfl
  have h2 : openB g nl o e env ds i (((0 + 1 : Nat) : Int) - 3) = decide (0 ≤ hasAt o i) := rfl
  have h1 : openB g nl o e env ds i (((0 + 1 + 1 : Nat) : Int) - 3) = (annA e env i != 0) := rfl
  rw [h0, h3, h2, h1]
  have hn : nbL g nl ds i 0 = [] := by simp [nbL]
  rw [hn]
  unfold ownV extV annA
  by_cases a : 0 ≤ hasAt o i
  · by_cases b : 0 ≤ hasAt e i
    · have := he (hasAt e i).toNat
      by_cases c : zAt env (hasAt e i).toNat = 0
      · simp [a, b, c]
      · have c' : 0 < zAt env (hasAt e i).toNat := by omega
        simp [a, b, c, c']
    · simp [a, b]
  · by_cases b : 0 ≤ hasAt e i
    · have := he (hasAt e i).toNat
      by_cases c : zAt env (hasAt e i).toNat = 0
      · simp [a, b, c]
      · have c' : 0 < zAt env (hasAt e i).toNat := by omega
        simp [a, b, c, c']
    · simp [a, b]
 | k + 1 => by
  rw [show k + 1 + 3 = (k + 3) + 1 from rfl, rowP_succ, rowP_form g nl o e env ds i he k, nbL_succ]
  have h : openB g nl o e env ds i (((k + 3 : Nat) : Int) - 3) = nbB g nl ds i k := by
   have e1 : ((k + 3 : Nat) : Int) - 3 = (k : Int) := by omega
   rw [e1]
   unfold openB
   rw [if_neg (by omega), if_neg (by omega), if_neg (by omega), Int.toNat_natCast]
  rw [h, show ((k + 3 : Nat) : Int) - 3 = (k : Int) by omega]
  cases nbB g nl ds i k <;> simp
def letsB (o e env : List Int) (i : Int) (v : Int) : Bool := decide (v ≠ -3) || decide ((ownV o i ++ extV e env i).length = 0)
theorem opt_row (g : R) (nl : Nat) (o e env : List Int) (ds : List Bool) (n : Nat) (i : Int) (he : ∀ i, 0 ≤ zAt env i) : optL g nl o e env ds n i = (rowP g nl o e env ds i (n + 3)).filter (letsB o e env i) := by
 rw [rowP_form g nl o e env ds i he n, List.filter_cons, List.filter_append, List.filter_append]
 have h2 : (ownV o i).filter (letsB o e env i) = ownV o i := List.filter_eq_self.2 fun v hv => by
  unfold ownV at hv
  split at hv
  · simp only [List.mem_singleton] at hv; subst hv; rfl
  · cases hv
 have h1 : (extV e env i).filter (letsB o e env i) = extV e env i := List.filter_eq_self.2 fun v hv => by
  unfold extV at hv
  split at hv
  · simp only [List.mem_singleton] at hv; subst hv; rfl
  · cases hv
 have h0 : (nbL g nl ds i n).filter (letsB o e env i) = nbL g nl ds i n := List.filter_eq_self.2 fun v hv => by
  unfold nbL at hv
  obtain ⟨j, _, rfl⟩ := List.mem_map.1 hv
  unfold letsB
  rw [decide_eq_true (by omega)]
  rfl
 rw [h2, h1, h0]
 unfold optL
 by_cases hz : (ownV o i ++ extV e env i).length = 0
 · have h3 : letsB o e env i (-3) = true := by unfold letsB; rw [decide_eq_true hz]; rfl
   rw [if_pos hz, h3, if_pos rfl, List.length_eq_zero_iff.1 hz]
   rfl
 · have h3 : letsB o e env i (-3) = false := by unfold letsB; rw [decide_eq_false hz]; rfl
   rw [if_neg hz, h3, if_neg (by decide), List.append_nil]
def goodB (g : R) (nl : Nat) (o e : List Int) (x : R) (nx : Nat) (env : List Int) (ds : List Bool) (n : Nat) (c : List Int) : Bool := okV g nl o e x nx env ds c n && stabB g nl o e x nx env ds (valR g nl o e x nx env ds c n) n
def stateOf (g : R) (nl : Nat) (o e : List Int) (x : R) (nx : Nat) (env : List Int) (ds : List Bool) (n : Nat) (c : List Int) : List Rt := (List.range n).map (valR g nl o e x nx env ds c n)
def statesL (g : R) (nl : Nat) (o e : List Int) (x : R) (nx : Nat) (env : List Int) (ds : List Bool) (n : Nat) (l : List (List Int)) : List (List Rt) := (l.filter (goodB g nl o e x nx env ds n)).map (stateOf g nl o e x nx env ds n)
theorem statesL_snoc (g : R) (nl : Nat) (o e : List Int) (x : R) (nx : Nat) (env : List Int) (ds : List Bool) (n : Nat) (l : List (List Int)) (c : List Int) : statesL g nl o e x nx env ds n (l ++ [c]) = statesL g nl o e x nx env ds n l ++ (if goodB g nl o e x nx env ds n c then [stateOf g nl o e x nx env ds n c] else []) := by
 unfold statesL
 rw [List.filter_append, List.map_append]
 congr 1
 cases h : goodB g nl o e x nx env ds n c <;> simp [h]
variable {g : R} {nl nx : Nat} {o e : List Int} {x : R} {env : List Int} {ds : List Bool} {n : Nat}
theorem bst_none {zs : List Rt} (h : bst zs = noRt) (hv : ∀ r ∈ zs, r.via ≠ -3) : zs = [] := by
 cases zs with
 | nil => rfl
 | cons a zs =>
  exfalso
  have hpos : 0 < (a :: zs).length := by simp
  rw [bst_some hpos] at h
  have key : ∀ k, k < (a :: zs).length → ∃ i, i ≤ k ∧ bestTo (rF (a :: zs)) k = rF (a :: zs) i := by
   intro k
   induction k with
   | zero => intro _; exact ⟨0, Nat.le_refl _, rfl⟩
   | succ k ih =>
    intro hk
    simp only [bestTo]
    split
    · exact ⟨k + 1, Nat.le_refl _, rfl⟩
    · obtain ⟨i, hi, e⟩ := ih (by omega)
      exact ⟨i, by omega, e⟩
  obtain ⟨i, hi, e⟩ := key _ (show (a :: zs).length - 1 < (a :: zs).length by omega)
  rw [e] at h
  have hm : rF (a :: zs) i ∈ (a :: zs) := by
   have hil : i < (a :: zs).length := by omega
   unfold rF
   rw [List.getElem?_eq_getElem hil]
   exact List.getElem_mem hil
  exact hv _ hm (by rw [h]; rfl)
theorem good_lets {c : List Int} (hn : 1 ≤ n) (hl : c.length = n) (h : goodB g nl o e x nx env ds n c = true) : allQ (fun i v => letsB o e env (i : Int) v) c = true := by
 unfold goodB at h
 simp only [Bool.and_eq_true] at h
 obtain ⟨h1, h2⟩ := h
 unfold allQ
 simp only [List.all_eq_true, List.mem_range]
 intro i hi
 rw [hl] at hi
 unfold letsB
 by_cases hv : zAt c i = -3
 · have hs : valR g nl o e x nx env ds c n i = noRt := by
    have hsome := allN_iff.1 h1 i hi
    unfold valR
    cases hq : val g nl o e x nx env ds c n (i : Int) with
    | none => rfl
    | some r =>
     obtain ⟨n', rfl⟩ : ∃ n', n = n' + 1 := ⟨n - 1, by omega⟩
     simp only [val, Int.toNat_natCast, hv] at hq
     have h0 : openB g nl o e env ds (i : Int) (-3) = true := rfl
     rw [h0] at hq
     simp at hq
     rw [← hq]
     rfl
   unfold stabB sameTo at h2
   have h3 := eqR_iff.1 (allN_iff.1 h2 i hi)
   simp only at h3
   rw [hs] at h3
   have h4 := bst_none h3 (fun r hr => cand_via r hr)
   unfold candL at h4
   simp only [List.append_eq_nil_iff] at h4
   have h5 : ownV o (i : Int) = [] := by
    have := h4.1.1
    unfold ownC at this
    unfold ownV
    split at this
    · cases this
    · next hh => rw [if_neg hh]
   have h6 : extV e env (i : Int) = [] := by
    have := h4.1.2
    unfold extC at this
    unfold extV
    split at this
    · cases this
    · next hh => rw [if_neg hh]
   rw [h5, h6]
   simp
 · rw [decide_eq_true hv]
   rfl
theorem states_same (he : ∀ i, 0 ≤ zAt env i) (hn : 1 ≤ n) : statesL g nl o e x nx env ds n (prod (fun i : Nat => optL g nl o e env ds n (i : Int)) n) = statesL g nl o e x nx env ds n (prod (fun i : Nat => rowP g nl o e env ds (i : Int) (n + 3)) n) := by
 have h1 : prod (fun i : Nat => optL g nl o e env ds n (i : Int)) n = (prod (fun i : Nat => rowP g nl o e env ds (i : Int) (n + 3)) n).filter (allQ fun i v => letsB o e env (i : Int) v) := by
  rw [← prod_filter]
  congr 1
  funext i
  exact opt_row g nl o e env ds n (i : Int) he
 rw [h1]
 unfold statesL
 congr 1
 rw [List.filter_filter]
 apply List.filter_congr
 intro c hc
 have hl := prod_len hc
 cases hg : goodB g nl o e x nx env ds n c with
 | false => rfl
 | true => rw [good_lets hn hl hg]; rfl
end Go.Proofs.YtaioffpkadmmhaaGreat.ssSem
namespace Go.Proofs.YtaioffpkadmmhaaGreat.settleSem
open Go.RowKit Go.Deep Go base names netSem routeRow nbSem candSem sceneBy sceneFace rtsRow noRts bestAll stabImpl stabFace
set_option linter.unusedVariables false
def stepS (g : R) (nl : Nat) (o e : List Int) (x : R) (nx : Nat) (env : List Int) (ds : List Bool) (n : Nat) (rs : Rs) : Rs := fun r : Nat => bst (candL g nl o e x nx env ds rs n (r : Int))
def st (g : R) (nl : Nat) (o e : List Int) (x : R) (nx : Nat) (env : List Int) (ds : List Bool) (n : Nat) : Nat → Rs
 | 0 => noRs
 | t + 1 => stepS g nl o e x nx env ds n (st g nl o e x nx env ds n t)
theorem best_in (g : Rs) : ∀ k, ∃ i, i ≤ k ∧ bestTo g k = g i
 | 0 => ⟨0, Nat.le_refl _, rfl⟩
 | k + 1 => by
  simp only [bestTo]
  split
  · exact ⟨k + 1, Nat.le_refl _, rfl⟩
  · obtain ⟨i, hi, e⟩ := best_in g k
    exact ⟨i, by omega, e⟩
theorem rF_in {zs : List Rt} {i : Nat} (h : i < zs.length) : rF zs i ∈ zs := by
 unfold rF
 rw [List.getElem?_eq_getElem h]
 exact List.getElem_mem h
theorem bst_in (zs : List Rt) : bst zs = noRt ∨ bst zs ∈ zs := by
 unfold bst
 by_cases h : zs.length = 0
 · rw [if_pos h]; exact .inl rfl
 · rw [if_neg h]
   obtain ⟨i, hi, e⟩ := best_in (rF zs) (zs.length - 1)
   rw [e]
   exact .inr (rF_in (by omega))
variable {g : R} {nl nx : Nat} {o e : List Int} {x : R} {env : List Int} {ds : List Bool} {n : Nat} {rs : Rs} {router : Int} {B : Int}
end Go.Proofs.YtaioffpkadmmhaaGreat.settleSem
namespace Go.Proofs.YtaioffpkadmmhaaGreat.stabIn
open Go base netSem routeRow nbSem candSem sceneSem sceneCand sceneList candHole rtsRow stabImpl stabFace stabLaw prodSem rofSem ssSem settleSem
set_option linter.unusedVariables false
variable {g : R} {nl nx : Nat} {o e : List Int} {x : R} {env : List Int} {ds : List Bool} {n : Nat} {rs rs' : Rs}
theorem mem_lst {i : Int} {r : Rt} : ∀ {k : Nat}, r ∈ lst g nl o e x nx env ds rs n i k → byVia g nl o e x nx env ds rs n i r.via = some r
 | 0, h => by simp [lst] at h
 | k + 1, h => by
  rw [lst_succ] at h
  rcases List.mem_append.1 h with h | h
  · exact mem_lst h
  · have h1 := Option.mem_toList.1 h
    rw [by_via h1]
    exact h1
theorem cand_cases {i : Int} {r : Rt} (h : r ∈ candL g nl o e x nx env ds rs n i) : (r.via = -2 ∧ 0 ≤ hasAt o i) ∨ (r.via = -1 ∧ 0 ≤ hasAt e i ∧ 0 < zAt env (hasAt e i).toNat) ∨ ∃ j : Nat, r.via = j ∧ j < n ∧ (j : Int) ∈ nbL g nl ds i n ∧ thru rs i (n + 1) j = false ∧ r.len = (rs j).len + g (linkAt g nl i j).toNat 2 ∧ 0 ≤ linkAt g nl i j := by
 simp only [candL, List.mem_append, List.mem_flatMap] at h
 rcases h with (h | h) | ⟨j, hj, h⟩
 · unfold ownC at h
   split at h
   · next h0 => rw [List.mem_singleton] at h; subst h; exact .inl ⟨rfl, h0⟩
   · cases h
 · unfold extC at h
   split at h
   · next h0 => rw [List.mem_singleton] at h; subst h; exact .inr (.inl ⟨rfl, h0⟩)
   · cases h
 · have hm := hj
   unfold nbL at hj
   simp only [List.mem_map, List.mem_filter, List.mem_range] at hj
   obtain ⟨k, ⟨hk, hb⟩, rfl⟩ := hj
   unfold nbB at hb
   simp only [Bool.and_eq_true, decide_eq_true_eq] at hb
   unfold candOf at h
   split at h
   · cases h
   · split at h
     · cases h
     · next ht =>
       cases hi : impR g nl x nx i (k : Int) (rs (k : Int).toNat) with
       | none => rw [hi] at h; cases h
       | some q =>
        rw [hi] at h
        simp only [List.mem_singleton] at h
        subst h
        obtain ⟨h1, h2⟩ := impK_via (show impK x i (k : Int) (startI (k : Int) (g (linkAt g nl i (k : Int)).toNat 2) (rs (k : Int).toNat)) nx = some r from hi)
        have e1 : (k : Int).toNat = k := by omega
        rw [e1] at h1 h2
        exact .inr (.inr ⟨k, h1, hk, hm, by simpa using ht, h2, hb.1⟩)
theorem stab_at (h : stabB g nl o e x nx env ds rs n = true) {i : Nat} (hi : i < n) : rs i = bst (candL g nl o e x nx env ds rs n (i : Int)) := by
 unfold stabB sameTo at h
 exact (eqR_iff.1 (allN_iff.1 h i hi)).symm
theorem stab_or (h : stabB g nl o e x nx env ds rs n = true) {i : Nat} (hi : i < n) : (rs i = noRt ∧ candL g nl o e x nx env ds rs n (i : Int) = []) ∨ rs i ∈ candL g nl o e x nx env ds rs n (i : Int) := by
 have h1 := stab_at h hi
 rcases bst_in (candL g nl o e x nx env ds rs n (i : Int)) with h2 | h2
 · exact .inl ⟨h1.trans h2, bst_none h2 (fun r hr => cand_via r hr)⟩
 · rw [← h1] at h2; exact .inr h2
theorem stab_via (hn1 : 1 ≤ n) (h : stabB g nl o e x nx env ds rs n = true) {i : Nat} (hi : i < n) : -3 ≤ (rs i).via ∧ (rs i).via < n := by
 rcases stab_or h hi with ⟨h1, _⟩ | h1
 · rw [h1]; show (-3 : Int) ≤ -3 ∧ (-3 : Int) < n; omega
 · rcases cand_cases h1 with ⟨h2, _⟩ | ⟨h2, _⟩ | ⟨j, h2, hj, _⟩ <;> rw [h2] <;> omega
def viaL (rs : Rs) (n : Nat) : List Int := (List.range n).map fun i => (rs i).via
theorem via_at (rs : Rs) {n i : Nat} (hi : i < n) : zAt (viaL rs n) i = (rs i).via := by
 unfold zAt viaL
 rw [List.getElem?_map, List.getElem?_range hi]
 rfl
theorem via_out (rs : Rs) {n i : Nat} (hi : ¬ i < n) : zAt (viaL rs n) i = 0 := by
 unfold zAt viaL
 rw [List.getElem?_eq_none (by simp; omega)]
 rfl
theorem cnt_some (hn1 : 1 ≤ n) (hc : ∀ i, i < nl → 1 ≤ g i 2) (h : stabB g nl o e x nx env ds rs n = true) (hl : ∀ i, i < n → 0 ≤ (rs i).len) : ∀ (L i : Nat), i < n → (rs i).len.toNat ≤ L → ∃ m, cnt (viaL rs n) m (i : Int) = true := by
 intro L
 induction L with
 | zero =>
  intro i hi hL
  have hz : zAt (viaL rs n) (i : Int).toNat = (rs i).via := by rw [Int.toNat_natCast]; exact via_at rs hi
  by_cases hv : (rs i).via < 0
  · exact ⟨1, cnt_succ (by omega) (by rw [hz]; exact decide_eq_true hv)⟩
  · exfalso
    rcases stab_or h hi with ⟨h1, _⟩ | h1
    · rw [h1] at hv; exact hv (by decide)
    · rcases cand_cases h1 with ⟨h2, _⟩ | ⟨h2, _⟩ | ⟨j, h2, hj, _, _, h5, h6⟩
      · omega
      · omega
      · have := hc _ (link_lt h6)
        have := hl j hj
        omega
 | succ L ih =>
  intro i hi hL
  have hz : zAt (viaL rs n) (i : Int).toNat = (rs i).via := by rw [Int.toNat_natCast]; exact via_at rs hi
  by_cases hv : (rs i).via < 0
  · exact ⟨1, cnt_succ (by omega) (by rw [hz]; exact decide_eq_true hv)⟩
  · rcases stab_or h hi with ⟨h1, _⟩ | h1
    · rw [h1] at hv; exact absurd (by decide) hv
    · rcases cand_cases h1 with ⟨h2, _⟩ | ⟨h2, _⟩ | ⟨j, h2, hj, _, _, h5, h6⟩
      · omega
      · omega
      · have h7 := hc _ (link_lt h6)
        have h8 := hl j hj
        obtain ⟨m, hm⟩ := ih j hj (by omega)
        exact ⟨m + 1, cnt_succ (by omega) (by rw [hz, h2]; exact hm)⟩
theorem val_some (hn1 : 1 ≤ n) (hn4 : n ≤ 4) (he : ∀ i, 0 ≤ zAt env i) (h : stabB g nl o e x nx env ds rs n = true) : ∀ (m f i : Nat), i < n → cnt (viaL rs n) m (i : Int) = true → m ≤ f → val g nl o e x nx env ds (viaL rs n) f (i : Int) = some (rs i) := by
 have hvn : ∀ i, i < n → (rs i).via < n := fun i hi => (stab_via hn1 h hi).2
 intro m
 induction m with
 | zero =>
  intro f i hi hm _
  simp only [cnt, decide_eq_true_eq] at hm
  omega
 | succ m ih =>
  intro f i hi hm hf
  obtain ⟨f', rfl⟩ : ∃ f', f = f' + 1 := ⟨f - 1, by omega⟩
  have hz : zAt (viaL rs n) (i : Int).toNat = (rs i).via := by rw [Int.toNat_natCast]; exact via_at rs hi
  simp only [cnt, Bool.and_eq_true] at hm
  have hm2 := hm.2
  rw [hz] at hm2
  have h3 := (stab_via hn1 h hi).1
  rw [← by_val (rs := rs) (n := n) (f := f') (i := (i : Int)) (fun h0 => ?_) (by rw [hz]; exact h3), hz]
  · rcases stab_or h hi with ⟨h1, _⟩ | h1
    · rw [h1]
      show byVia g nl o e x nx env ds rs n (i : Int) (-3) = some noRt
      unfold byVia openB
      simp
    · refine mem_lst (k := n + 2) ?_
      rw [lst_cand g nl o e x nx env ds rs n (i : Int) hn4 hvn he]
      exact h1
  · rw [hz] at h0 ⊢
    rcases stab_or h hi with ⟨h1, _⟩ | h1
    · rw [h1] at h0; exact absurd h0 (by decide)
    · rcases cand_cases h1 with ⟨h2, _⟩ | ⟨h2, _⟩ | ⟨j, h2, hj, _, h4, _, _⟩
      · omega
      · omega
      · rw [h2] at hm2 ⊢
        rw [Int.toNat_natCast]
        refine ⟨ih f' j hj hm2 (by omega), ?_⟩
        rw [← thru_more rs (i : Int) n (j : Int) hn4 hvn (by omega) (by omega)]
        exact h4
theorem thru_congr (ha : ∀ j, j < n → rs j = rs' j) (hv : ∀ j, j < n → (rs j).via < n) (r : Int) : ∀ (f : Nat) (k : Int), k < n → thru rs r f k = thru rs' r f k
 | 0, _, _ => rfl
 | f + 1, k, hk => by
  simp only [thru]
  by_cases h0 : k < 0
  · simp [h0]
  · have h1 : k.toNat < n := by omega
    rw [← ha _ h1, thru_congr ha hv r f _ (hv _ h1)]
theorem cand_congr (ha : ∀ j, j < n → rs j = rs' j) (hv : ∀ j, j < n → (rs j).via < n) (i : Int) : candL g nl o e x nx env ds rs n i = candL g nl o e x nx env ds rs' n i := by
 unfold candL
 congr 1
 have key : ∀ L : List Int, (∀ j ∈ L, 0 ≤ j ∧ j < n) → L.flatMap (candOf g nl x nx rs n i) = L.flatMap (candOf g nl x nx rs' n i) := by
  intro L
  induction L with
  | nil => intro _; rfl
  | cons j L ih =>
   intro hL
   obtain ⟨h1, h2⟩ := hL j List.mem_cons_self
   rw [List.flatMap_cons, List.flatMap_cons, ih (fun j hj => hL j (List.mem_cons_of_mem _ hj))]
   congr 1
   unfold candOf
   rw [ha j.toNat (by omega), thru_congr ha hv i (n + 1) j h2]
 refine key _ fun j hj => ?_
 unfold nbL at hj
 simp only [List.mem_map, List.mem_filter, List.mem_range] at hj
 obtain ⟨k, ⟨hk, _⟩, rfl⟩ := hj
 omega
theorem stab_congr (ha : ∀ j, j < n → rs j = rs' j) (hv : ∀ j, j < n → (rs j).via < n) (h : stabB g nl o e x nx env ds rs n = true) : stabB g nl o e x nx env ds rs' n = true := by
 unfold stabB sameTo at h ⊢
 refine allN_of fun i hi => ?_
 have h1 := eqR_iff.1 (allN_iff.1 h i hi)
 refine eqR_iff.2 ?_
 simp only at h1 ⊢
 rw [← cand_congr ha hv, h1, ha i hi]
end Go.Proofs.YtaioffpkadmmhaaGreat.stabIn
namespace Go.Proofs.YtaioffpkadmmhaaGreat.fwSem
open Go.RowKit Go.Deep base names netSem routeRow walkSem routesB
set_option linter.unusedVariables false
end Go.Proofs.YtaioffpkadmmhaaGreat.fwSem
