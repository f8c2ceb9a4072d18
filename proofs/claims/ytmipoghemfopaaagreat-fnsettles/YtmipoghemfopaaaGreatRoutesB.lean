/- When routes are right, as plain functions; of no program; conditions: none. -/
import Derived.Test.YtmipoghemfopaaaGreatWalkSem
namespace Go.Proofs.YtmipoghemfopaaaGreat.routesB
open Go.RowKit Go.Deep base names netSem routeRow walkSem
set_option linter.unusedVariables false

def noneB (r : Rt) : Bool := decide (r.via = -3) && decide (r.pref = 0) && decide (r.len = 0) && !r.mark
def routeB (g : R) (nl n : Nat) (i : Nat) (r : Rt) : Bool := inB r.via (-3) ((n : Int) - 1) && inB r.pref 0 1000 && inB r.len 0 10000 && !(decide (0 ≤ r.via) && decide (linkAt g nl (i : Int) r.via < 0)) && !(decide (r.via = -3) && !noneB r)
def routesB (g : R) (nl n rl : Nat) (rs : Rs) : Bool := decide (rl = n) && allN (fun i => routeB g nl n i (rs i)) rl
/-- As the program tells it. -/
def routeI (g : R) (nl : Nat) (i : Nat) (r : Rt) : Bool := if r.via = -3 then noneB r else (inB r.via (-2) (-1) || decide (0 ≤ linkAt g nl (i : Int) r.via)) && inB r.pref 0 1000 && inB r.len 0 10000
/-- Links are between routers. -/
def LinksIn (g : R) (nl n : Nat) : Prop := ∀ j, j < nl → 0 ≤ g j 0 ∧ g j 0 < n ∧ 0 ≤ g j 1 ∧ g j 1 < n
theorem links_in {l : Nat → Nat} {s : Ss} {g x f : R} {o e : List Int} (h : netB l s g o e x f = true) : LinksIn g (l 1) (l 0) := by
  unfold netB linksB at h
  simp only [Bool.and_eq_true, decide_eq_true_eq] at h
  obtain ⟨⟨⟨⟨⟨⟨_, _, h1⟩, _⟩, _⟩, _⟩, _⟩, _⟩ := h
  intro j hj
  have := allN_iff.1 h1 j hj
  unfold linkB inB at this
  simp only [Bool.and_eq_true, decide_eq_true_eq] at this
  omega
theorem link_in {g : R} {nl n : Nat} {a b : Int} (h : LinksIn g nl n) (hl : 0 ≤ linkAt g nl a b) : 0 ≤ b ∧ b < n := by
  obtain ⟨j, hj, hh⟩ := firstAt_spec.1 hl
  have := h j hj
  unfold hit at hh
  rw [decide_eq_true_eq] at hh
  omega
theorem route_eq {g : R} {nl n : Nat} (h : LinksIn g nl n) (i : Nat) (r : Rt) : routeB g nl n i r = routeI g nl i r := by
  unfold routeB routeI
  have hl := fun hh => link_in (a := (i : Int)) (b := r.via) h hh
  generalize linkAt g nl (i : Int) r.via = L at *
  by_cases h3 : r.via = -3
  · rw [if_pos h3, Bool.eq_iff_iff]
    simp only [noneB, inB, h3]
    simp
    intro h4 h5 h6
    omega
  · rw [if_neg h3, Bool.eq_iff_iff]
    simp [inB, h3]
    constructor
    · rintro ⟨⟨⟨h4, h5⟩, h6⟩, h7⟩
      refine ⟨⟨?_, h5⟩, h6⟩
      omega
    · rintro ⟨⟨h4, h5⟩, h6⟩
      refine ⟨⟨⟨?_, h5⟩, h6⟩, ?_⟩
      · rcases h4 with h4 | h4
        · omega
        · have := hl h4; omega
      · omega
theorem routes_viable {g : R} {nl n rl : Nat} {rs : Rs} (h : routesB g nl n rl rs = true) : rl = n ∧ Viable rs n := by
  unfold routesB at h
  simp only [Bool.and_eq_true, decide_eq_true_eq] at h
  obtain ⟨rfl, h⟩ := h
  refine ⟨rfl, fun i hi => ?_⟩
  have := allN_iff.1 h i hi
  unfold routeB inB at this
  simp only [Bool.and_eq_true, decide_eq_true_eq] at this
  omega
def downB (g : R) (nl : Nat) (ds : List Bool) (i : Nat) (r : Rt) : Bool := decide (0 ≤ linkAt g nl (i : Int) r.via) && ds[(linkAt g nl (i : Int) r.via).toNat]?.getD false
def anyDown (g : R) (nl rl : Nat) (ds : List Bool) (rs : Rs) : Bool := !allN (fun i => !downB g nl ds i (rs i)) rl
theorem down_eq {g : R} {nl n rl i : Nat} {rs : Rs} (h : routesB g nl n rl rs = true) (hin : LinksIn g nl n) (hi : i < rl) : decide (0 ≤ (rs i).via) = decide (0 ≤ linkAt g nl (i : Int) (rs i).via) := by
  unfold routesB at h
  simp only [Bool.and_eq_true, decide_eq_true_eq] at h
  have h1 := allN_iff.1 h.2 i hi
  have h2 := fun hh => link_in (a := (i : Int)) (b := (rs i).via) hin hh
  unfold routeB at h1
  generalize linkAt g nl (i : Int) (rs i).via = L at *
  simp at h1
  rw [Bool.eq_iff_iff, decide_eq_true_eq, decide_eq_true_eq]
  exact ⟨fun h3 => by omega, fun h3 => (h2 h3).1⟩
/-- The code of Forward. -/
def fwC (ok rB : Bool) (dl rl nl n : Nat) (fr port : Int) (dn : Bool) : Int := if 4096 < dl ∨ 4096 < rl then 2 else if ok = false ∨ rB = false then 1 else if dl ≠ nl ∨ inB fr 0 ((n : Int) - 1) = false ∨ inB port 0 15 = false then 5 else if dn = true then 8 else 0
end Go.Proofs.YtmipoghemfopaaaGreat.routesB
