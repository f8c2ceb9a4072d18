/- What a router could have, as plain functions; of no program; conditions: none. -/
import Derived.Test.YtmipoghemfopaaaGreatNbSem
import Derived.Test.YtmipoghemfopaaaGreatRouteRow
namespace Go.Proofs.YtmipoghemfopaaaGreat.candSem
open Go.RowKit Go.Deep base netSem nbSem intsOwn routeRow
set_option linter.unusedVariables false

def hasAt (z : List Int) (v : Int) : Int := firstAt (fun i => decide (zAt z i = v)) z.length
/-- A way by Vias comes to a router, or goes round. -/
def thru (rs : Rs) (router : Int) : Nat → Int → Bool
  | 0, _ => true
  | f + 1, k => if k = router then true else if k < 0 then false else if (rs k.toNat).via < 0 then false else thru rs router f (rs k.toNat).via
def skipB (x : R) (router fr : Int) (i : Nat) (mark : Bool) : Bool := decide (x i 0 ≠ router) || decide (x i 1 ≠ fr) || (decide (x i 2 = 1) && !mark) || (decide (x i 2 = 2) && mark)
def stepI (x : R) (router fr : Int) (i : Nat) (r : Rt) : Option Rt :=
  if skipB x router fr i r.mark = true then some r
  else if x i 3 = 1 then none else if x i 3 = 2 then some { r with pref := x i 4 } else some { r with mark := decide (x i 3 = 3) }
def impK (x : R) (router fr : Int) (r0 : Rt) : Nat → Option Rt
  | 0 => some r0
  | k + 1 => (impK x router fr r0 k).bind (stepI x router fr k)
def noRt : Rt := ⟨-3, 0, 0, false⟩
theorem impK_none {x : R} {router fr : Int} {r0 : Rt} {k m : Nat} (h : impK x router fr r0 k = none) (hkm : k ≤ m) : impK x router fr r0 m = none := by
  induction m with
  | zero => rwa [Nat.le_zero.1 hkm] at h
  | succ m ih =>
    by_cases e : k = m + 1
    · rwa [← e]
    · simp only [impK]
      rw [ih (by omega)]
      rfl
theorem impK_via {x : R} {router fr : Int} {r0 r : Rt} {k : Nat} (h : impK x router fr r0 k = some r) : r.via = r0.via ∧ r.len = r0.len := by
  induction k generalizing r with
  | zero => simp only [impK, Option.some.injEq] at h; subst h; exact ⟨rfl, rfl⟩
  | succ k ih =>
    simp only [impK] at h
    cases e : impK x router fr r0 k with
    | none => rw [e] at h; cases h
    | some q =>
      rw [e] at h
      obtain ⟨h1, h2⟩ := ih e
      simp only [Option.bind_some, stepI] at h
      split at h
      · injection h with h; subst h; exact ⟨h1, h2⟩
      · split at h
        · cases h
        · split at h
          · injection h with h; subst h; exact ⟨h1, h2⟩
          · injection h with h; subst h; exact ⟨h1, h2⟩
def startI (fr cost : Int) (r : Rt) : Rt := ⟨fr, 100, r.len + cost, r.mark⟩
/-- What a router makes of a neighbour's route. -/
def impR (g : R) (nl : Nat) (x : R) (nx : Nat) (router fr : Int) (r : Rt) : Option Rt := impK x router fr (startI fr (g (linkAt g nl router fr).toNat 2) r) nx
/-- What a router could have by a neighbour. -/
def candOf (g : R) (nl : Nat) (x : R) (nx : Nat) (rs : Rs) (n : Nat) (router j : Int) : List Rt :=
  if (rs j.toNat).via = -3 then [] else if thru rs router (n + 1) j = true then [] else match impR g nl x nx router j (rs j.toNat) with
    | some r => [r]
    | none => []
def ownC (o : List Int) (router : Int) : List Rt := if 0 ≤ hasAt o router then [⟨-2, 200, 0, false⟩] else []
def extC (e env : List Int) (router : Int) : List Rt := if 0 ≤ hasAt e router ∧ 0 < zAt env (hasAt e router).toNat then [⟨-1, 100, 2, decide (zAt env (hasAt e router).toNat = 2)⟩] else []
def candL (g : R) (nl : Nat) (o e : List Int) (x : R) (nx : Nat) (env : List Int) (ds : List Bool) (rs : Rs) (n : Nat) (router : Int) : List Rt :=
  ownC o router ++ extC e env router ++ (nbL g nl ds router n).flatMap (candOf g nl x nx rs n router)
theorem ownC_len (o : List Int) (router : Int) : (ownC o router).length ≤ 1 := by unfold ownC; split <;> simp
theorem extC_len (e env : List Int) (router : Int) : (extC e env router).length ≤ 1 := by unfold extC; split <;> simp
theorem candOf_len (g : R) (nl : Nat) (x : R) (nx : Nat) (rs : Rs) (n : Nat) (router j : Int) : (candOf g nl x nx rs n router j).length ≤ 1 := by
  unfold candOf
  split
  · simp
  · split
    · simp
    · split <;> simp
theorem flat_len {f : Int → List Rt} (h : ∀ j, (f j).length ≤ 1) (z : List Int) : (z.flatMap f).length ≤ z.length := by
  induction z with
  | nil => simp
  | cons a z ih => simp only [List.flatMap_cons, List.length_append, List.length_cons]; have := h a; omega

/-- An owned slice of routes. -/
def rcs (r : Rt) : List Value := [.int .i64 r.via, .int .i64 r.pref, .int .i64 r.len, .bool r.mark]
def OwnRts (B : Nat) (w : World) (v : Value) (zs : List Rt) : Prop := w.ownsRow B 56 4 v zs.length (zs.flatMap rcs)
theorem OwnRts.mono {B B' : Nat} {w : World} {v : Value} {zs : List Rt} (h : OwnRts B w v zs) (hB : B' ≤ B) : OwnRts B' w v zs := by
  obtain ⟨h1, h2⟩ := h
  refine ⟨h1, ?_⟩
  rcases h2 with h | ⟨g, cap, cur, e, hb, hr⟩
  · exact .inl h
  · exact .inr ⟨g, cap, cur, e, Nat.le_trans hB hb, hr⟩
theorem rts_empty (B N : Nat) (w : World) (hB : B ≤ w.heap.size) (hN : w.heap.size = N) : OwnRts B (w.alloc (.cells #[] 56)) (.slice (some ⟨N, 0, none⟩) 0 0) [] := by
  subst hN
  exact ⟨rfl, .inr ⟨w.heap.size, 0, #[], rfl, hB, heap_alloc_new w _, Nat.le_refl _, Nat.zero_le _, rfl, rfl⟩⟩
end Go.Proofs.YtmipoghemfopaaaGreat.candSem
