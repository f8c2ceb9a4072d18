/- SceneCand; CandHole; SceneList: one text, so that the claim has fewer files. -/
import Derived.Test.YtjdeoiohbbnmeaaPart16
import Derived.Test.YtjdeoiohbbnmeaaCandSpec
import Derived.Test.YtjdeoiohbbnmeaaPart11
/- Of the program: what a router could have, as the Vias rise; conditions: a right scene and right routes. -/
namespace Go.Proofs.Ytjdeoiohbbnmeaa.sceneCand
open Go.RowKit Go.Deep Go base netSem routeRow nbSem candSem candImp hopSem intsOwn hopMake hopBetween sceneSem sceneBy candSpec
set_option linter.unusedVariables false

/-- What it could have of the first Vias. -/
def lst (g : R) (nl : Nat) (o e : List Int) (x : R) (nx : Nat) (env : List Int) (ds : List Bool) (rs : Rs) (n : Nat) (router : Int) (k : Nat) : List Rt := (List.range k).flatMap fun i : Nat => (byVia g nl o e x nx env ds rs n router ((i : Int) - 2)).toList
theorem lst_succ (g : R) (nl : Nat) (o e : List Int) (x : R) (nx : Nat) (env : List Int) (ds : List Bool) (rs : Rs) (n : Nat) (router : Int) (k : Nat) : lst g nl o e x nx env ds rs n router (k + 1) = lst g nl o e x nx env ds rs n router k ++ (byVia g nl o e x nx env ds rs n router ((k : Int) - 2)).toList := by
  unfold lst
  rw [List.range_succ, List.flatMap_append]
  simp
theorem lst_len (g : R) (nl : Nat) (o e : List Int) (x : R) (nx : Nat) (env : List Int) (ds : List Bool) (rs : Rs) (n : Nat) (router : Int) : ∀ k, (lst g nl o e x nx env ds rs n router k).length ≤ k
  | 0 => by simp [lst]
  | k + 1 => by
    have ih := lst_len g nl o e x nx env ds rs n router k
    rw [lst_succ, List.length_append]
    cases byVia g nl o e x nx env ds rs n router ((k : Int) - 2) <;> simp <;> omega

end Go.Proofs.Ytjdeoiohbbnmeaa.sceneCand

/- A way by Vias among at most four routers comes to its end in so many steps, or never; of no program; conditions: none. -/
namespace Go.Proofs.Ytjdeoiohbbnmeaa.candHole
open Go base netSem routeRow candSem
set_option linter.unusedVariables false

theorem hole (q : Nat → Int) (n : Nat) (hn : n ≤ 4) (hq : ∀ j, j ≤ n → 0 ≤ q j ∧ q j < n) (hc : ∀ a b, q a = q b → q (a + 1) = q (b + 1)) (he : q (n + 1) < 0) : False := by
  have hs : ∀ t a b, q a = q b → q (a + t) = q (b + t) := by
    intro t
    induction t with
    | zero => intro a b h; exact h
    | succ t ih => intro a b h; exact hc _ _ (ih a b h)
  have hne : ∀ a b, a < b → b ≤ n → q a ≠ q b := fun a b hab hb e => by
    have h := hs (n + 1 - b) a b e
    rw [show b + (n + 1 - b) = n + 1 from by omega] at h
    have := hq (a + (n + 1 - b)) (by omega)
    omega
  obtain rfl | rfl | rfl | rfl | rfl : n = 0 ∨ n = 1 ∨ n = 2 ∨ n = 3 ∨ n = 4 := by omega
  · have := hq 0 (by omega); omega
  · have h0 := hq 0 (by omega)
    have h1 := hq 1 (by omega)
    have := hne 0 1 (by omega) (by omega)
    omega
  · have h0 := hq 0 (by omega)
    have h1 := hq 1 (by omega)
    have h2 := hq 2 (by omega)
    have := hne 0 1 (by omega) (by omega)
    have := hne 0 2 (by omega) (by omega)
    have := hne 1 2 (by omega) (by omega)
    omega
  · have h0 := hq 0 (by omega)
    have h1 := hq 1 (by omega)
    have h2 := hq 2 (by omega)
    have h3 := hq 3 (by omega)
    have := hne 0 1 (by omega) (by omega)
    have := hne 0 2 (by omega) (by omega)
    have := hne 0 3 (by omega) (by omega)
    have := hne 1 2 (by omega) (by omega)
    have := hne 1 3 (by omega) (by omega)
    have := hne 2 3 (by omega) (by omega)
    omega
  · have h0 := hq 0 (by omega)
    have h1 := hq 1 (by omega)
    have h2 := hq 2 (by omega)
    have h3 := hq 3 (by omega)
    have h4 := hq 4 (by omega)
    have n01 := hne 0 1 (by omega) (by omega)
    have n02 := hne 0 2 (by omega) (by omega)
    have n03 := hne 0 3 (by omega) (by omega)
    have n04 := hne 0 4 (by omega) (by omega)
    have n12 := hne 1 2 (by omega) (by omega)
    have n13 := hne 1 3 (by omega) (by omega)
    have n14 := hne 1 4 (by omega) (by omega)
    have n23 := hne 2 3 (by omega) (by omega)
    have n24 := hne 2 4 (by omega) (by omega)
    have n34 := hne 3 4 (by omega) (by omega)
    clear hne hs hc hq
    generalize q 0 = a at *
    generalize q 1 = b at *
    generalize q 2 = c at *
    generalize q 3 = d at *
    generalize q 4 = e at *
    obtain rfl | rfl | rfl | rfl : a = 0 ∨ a = 1 ∨ a = 2 ∨ a = 3 := by omega
    all_goals (obtain rfl | rfl | rfl | rfl : b = 0 ∨ b = 1 ∨ b = 2 ∨ b = 3 := by omega) <;> omega
/-- The way from k on. -/
def wayQ (rs : Rs) (k : Int) : Nat → Int
  | 0 => k
  | i + 1 => (rs (wayQ rs k i).toNat).via
theorem wayQ_shift (rs : Rs) (k : Int) (i : Nat) : wayQ rs (rs k.toNat).via i = wayQ rs k (i + 1) := by
  induction i with
  | zero => rfl
  | succ i ih => simp only [wayQ] at ih ⊢; rw [ih]
theorem thru_way (rs : Rs) (r : Int) (f : Nat) (k : Int) (hk : 0 ≤ k) : thru rs r f k = false ↔ ∃ i, i < f ∧ (∀ j, j ≤ i → wayQ rs k j ≠ r ∧ 0 ≤ wayQ rs k j) ∧ wayQ rs k (i + 1) < 0 := by
  induction f generalizing k with
  | zero => simp [thru]
  | succ f ih =>
    simp only [thru]
    by_cases h1 : k = r
    · rw [if_pos h1]
      constructor
      · intro h; cases h
      · rintro ⟨i, _, hj, _⟩; exact absurd h1 (hj 0 (Nat.zero_le _)).1
    rw [if_neg h1, if_neg (by omega)]
    by_cases h2 : (rs k.toNat).via < 0
    · rw [if_pos h2]
      constructor
      · intro _
        refine ⟨0, by omega, fun j hj => ?_, h2⟩
        obtain rfl : j = 0 := by omega
        exact ⟨h1, hk⟩
      · intro _; rfl
    rw [if_neg h2, ih _ (by omega)]
    constructor
    · rintro ⟨i, hi, hj, he⟩
      refine ⟨i + 1, by omega, fun j hj' => ?_, by rw [← wayQ_shift]; exact he⟩
      cases j with
      | zero => exact ⟨h1, hk⟩
      | succ j => rw [← wayQ_shift]; exact hj j (by omega)
    · rintro ⟨i, hi, hj, he⟩
      cases i with
      | zero => exact absurd he h2
      | succ i =>
        refine ⟨i, by omega, fun j hj' => ?_, by rw [wayQ_shift]; exact he⟩
        rw [wayQ_shift]; exact hj (j + 1) (by omega)
theorem thru_more (rs : Rs) (r : Int) (n : Nat) (k : Int) (hn : n ≤ 4) (hv : ∀ i, i < n → (rs i).via < n) (hk : 0 ≤ k) (hk2 : k < n) : thru rs r (n + 1) k = thru rs r n k := by
  have h : thru rs r (n + 1) k = false ↔ thru rs r n k = false := by
    rw [thru_way _ _ _ _ hk, thru_way _ _ _ _ hk]
    constructor
    · rintro ⟨i, hi, hj, he⟩
      by_cases e : i = n
      · subst e
        have hb : ∀ j, j ≤ i → 0 ≤ wayQ rs k j ∧ wayQ rs k j < i := by
          intro j
          induction j with
          | zero => intro _; exact ⟨hk, hk2⟩
          | succ j ih =>
            intro hj'
            refine ⟨(hj _ hj').2, ?_⟩
            have h1 := ih (by omega)
            exact hv _ (by omega)
        exact (hole (wayQ rs k) i hn hb (fun a b e => by simp only [wayQ]; rw [e]) he).elim
      · exact ⟨i, by omega, hj, he⟩
    · rintro ⟨i, hi, hj, he⟩
      exact ⟨i, by omega, hj, he⟩
  cases e1 : thru rs r (n + 1) k <;> cases e2 : thru rs r n k <;> simp_all
end Go.Proofs.Ytjdeoiohbbnmeaa.candHole

/- What a router could have as the Vias rise is what the specification lists; of no program; conditions: Vias below the number of routers. -/
namespace Go.Proofs.Ytjdeoiohbbnmeaa.sceneList
open Go base netSem routeRow nbSem candSem sceneSem sceneCand candHole
set_option linter.unusedVariables false

theorem by_own (g : R) (nl : Nat) (o e : List Int) (x : R) (nx : Nat) (env : List Int) (ds : List Bool) (rs : Rs) (n : Nat) (router : Int) : (byVia g nl o e x nx env ds rs n router (-2)).toList = ownC o router := by
  unfold byVia openB ownC
  by_cases h : 0 ≤ hasAt o router <;> simp [h]
theorem by_ext (g : R) (nl : Nat) (o e : List Int) (x : R) (nx : Nat) (env : List Int) (ds : List Bool) (rs : Rs) (n : Nat) (router : Int) (he : ∀ i, 0 ≤ zAt env i) : (byVia g nl o e x nx env ds rs n router (-1)).toList = extC e env router := by
  unfold byVia openB extC annA
  by_cases h : 0 ≤ hasAt e router
  · have h0 := he (hasAt e router).toNat
    by_cases h2 : zAt env (hasAt e router).toNat = 0
    · simp [h, h2]
    · have h3 : 0 < zAt env (hasAt e router).toNat := by omega
      simp [h, h2, h3]
      by_cases h4 : zAt env (hasAt e router).toNat = 2 <;> simp [h4]
  · simp [h]
theorem by_nb (g : R) (nl : Nat) (o e : List Int) (x : R) (nx : Nat) (env : List Int) (ds : List Bool) (rs : Rs) (n : Nat) (router : Int) (k : Nat) (hk : k < n) (hn : n ≤ 4) (hv : ∀ i, i < n → (rs i).via < n) : (byVia g nl o e x nx env ds rs n router (k : Int)).toList = if nbB g nl ds router k then candOf g nl x nx rs n router k else [] := by
  unfold byVia openB candOf
  have e3 : ¬ ((k : Int) = -3) := by omega
  have e2 : ¬ ((k : Int) = -2) := by omega
  have e1 : ¬ ((k : Int) = -1) := by omega
  rw [if_neg e3, if_neg e2, if_neg e1, if_neg e3, if_neg e2, if_neg e1, thru_more rs router n k hn hv (by omega) (by omega), Int.toNat_natCast]
  cases nbB g nl ds router k with
  | false => simp
  | true =>
    by_cases h1 : (rs k).via = -3
    · simp [h1]
    · by_cases h2 : thru rs router n k = true
      · simp [h2]
      · simp [h1, h2]
        cases impR g nl x nx router k (rs k) <;> rfl
theorem lst_two (g : R) (nl : Nat) (o e : List Int) (x : R) (nx : Nat) (env : List Int) (ds : List Bool) (rs : Rs) (n : Nat) (router : Int) (hn : n ≤ 4) (hv : ∀ i, i < n → (rs i).via < n) (he : ∀ i, 0 ≤ zAt env i) : ∀ k, k ≤ n → lst g nl o e x nx env ds rs n router (k + 2) = ownC o router ++ extC e env router ++ (nbL g nl ds router k).flatMap (candOf g nl x nx rs n router)
  | 0, _ => by
    rw [lst_succ, lst_succ]
    have h0 : lst g nl o e x nx env ds rs n router 0 = [] := by simp [lst]
    rw [h0, show (((0 : Nat) : Int) - 2) = -2 from rfl, show (((0 + 1 : Nat) : Int) - 2) = -1 from rfl, by_own, by_ext _ _ _ _ _ _ _ _ _ _ _ he]
    simp [nbL]
  | k + 1, hk => by
    have ih := lst_two g nl o e x nx env ds rs n router hn hv he k (by omega)
    rw [show k + 1 + 2 = (k + 2) + 1 from rfl, lst_succ, ih, show (((k + 2 : Nat) : Int) - 2) = (k : Int) by omega, by_nb _ _ _ _ _ _ _ _ _ _ _ _ (by omega) hn hv, nbL_succ, List.flatMap_append, ← List.append_assoc]
    congr 1
    cases nbB g nl ds router k <;> simp
theorem lst_cand (g : R) (nl : Nat) (o e : List Int) (x : R) (nx : Nat) (env : List Int) (ds : List Bool) (rs : Rs) (n : Nat) (router : Int) (hn : n ≤ 4) (hv : ∀ i, i < n → (rs i).via < n) (he : ∀ i, 0 ≤ zAt env i) : lst g nl o e x nx env ds rs n router (n + 2) = candL g nl o e x nx env ds rs n router :=
  lst_two g nl o e x nx env ds rs n router hn hv he n (Nat.le_refl _)
end Go.Proofs.Ytjdeoiohbbnmeaa.sceneList
