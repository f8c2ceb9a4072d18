/- What a router could have as the Vias rise is what the specification lists; of no program; conditions: Vias below the number of routers. -/
import Derived.Test.YtahimnbagfcdfaaGreatSceneCand
import Derived.Test.YtahimnbagfcdfaaGreatCandHole
namespace Go.Proofs.YtahimnbagfcdfaaGreat.sceneList
open Go base netSem routeRow nbSem candSem sceneSem sceneCand candHole
set_option linter.unusedVariables false

theorem by_own (g : R) (nl : Nat) (o e : List Int) (x : R) (nx : Nat) (env : List Int) (ds : List Bool) (rs : Rs) (n : Nat) (router : Int) : (byVia g nl o e x nx env ds rs n router (-2)).toList = ownC o router := by
  unfold byVia openB ownC
  by_cases h : 0 ≤ hasAt o router <;> simp [h]
theorem by_ext (g : R) (nl : Nat) (o e : List Int) (x : R) (nx : Nat) (env : List Int) (ds : List Bool) (rs : Rs) (n : Nat) (router : Int) (he : ∀ i, 0 ≤ zAt env i) : (byVia g nl o e x nx env ds rs n router (-1)).toList = extC e env router := by
  unfold byVia openB extC annA
  by_cases h : 0 ≤ hasAt e router
  · have h0 := he (hasAt e router).toNat
    by_cases h2 : zAt env (hasAt e router).toNat = 0
    · simp [h, h2]
    · have h3 : 0 < zAt env (hasAt e router).toNat := by omega
      simp [h, h2, h3]
      by_cases h4 : zAt env (hasAt e router).toNat = 2 <;> simp [h4]
  · simp [h]
theorem by_nb (g : R) (nl : Nat) (o e : List Int) (x : R) (nx : Nat) (env : List Int) (ds : List Bool) (rs : Rs) (n : Nat) (router : Int) (k : Nat) (hk : k < n) (hn : n ≤ 4) (hv : ∀ i, i < n → (rs i).via < n) : (byVia g nl o e x nx env ds rs n router (k : Int)).toList = if nbB g nl ds router k then candOf g nl x nx rs n router k else [] := by
  unfold byVia openB candOf
  have e3 : ¬ ((k : Int) = -3) := by omega
  have e2 : ¬ ((k : Int) = -2) := by omega
  have e1 : ¬ ((k : Int) = -1) := by omega
  rw [if_neg e3, if_neg e2, if_neg e1, if_neg e3, if_neg e2, if_neg e1, thru_more rs router n k hn hv (by omega) (by omega), Int.toNat_natCast]
  cases nbB g nl ds router k with
  | false => simp
  | true =>
    by_cases h1 : (rs k).via = -3
    · simp [h1]
    · by_cases h2 : thru rs router n k = true
      · simp [h2]
      · simp [h1, h2]
        cases impR g nl x nx router k (rs k) <;> rfl
theorem lst_two (g : R) (nl : Nat) (o e : List Int) (x : R) (nx : Nat) (env : List Int) (ds : List Bool) (rs : Rs) (n : Nat) (router : Int) (hn : n ≤ 4) (hv : ∀ i, i < n → (rs i).via < n) (he : ∀ i, 0 ≤ zAt env i) : ∀ k, k ≤ n → lst g nl o e x nx env ds rs n router (k + 2) = ownC o router ++ extC e env router ++ (nbL g nl ds router k).flatMap (candOf g nl x nx rs n router)
  | 0, _ => by
    rw [lst_succ, lst_succ]
    have h0 : lst g nl o e x nx env ds rs n router 0 = [] := by simp [lst]
    rw [h0, show (((0 : Nat) : Int) - 2) = -2 from rfl, show (((0 + 1 : Nat) : Int) - 2) = -1 from rfl, by_own, by_ext _ _ _ _ _ _ _ _ _ _ _ he]
    simp [nbL]
  | k + 1, hk => by
    have ih := lst_two g nl o e x nx env ds rs n router hn hv he k (by omega)
    rw [show k + 1 + 2 = (k + 2) + 1 from rfl, lst_succ, ih, show (((k + 2 : Nat) : Int) - 2) = (k : Int) by omega, by_nb _ _ _ _ _ _ _ _ _ _ _ _ (by omega) hn hv, nbL_succ, List.flatMap_append, ← List.append_assoc]
    congr 1
    cases nbB g nl ds router k <;> simp
theorem lst_cand (g : R) (nl : Nat) (o e : List Int) (x : R) (nx : Nat) (env : List Int) (ds : List Bool) (rs : Rs) (n : Nat) (router : Int) (hn : n ≤ 4) (hv : ∀ i, i < n → (rs i).via < n) (he : ∀ i, 0 ≤ zAt env i) : lst g nl o e x nx env ds rs n router (n + 2) = candL g nl o e x nx env ds rs n router :=
  lst_two g nl o e x nx env ds rs n router hn hv he n (Nat.le_refl _)
end Go.Proofs.YtahimnbagfcdfaaGreat.sceneList
