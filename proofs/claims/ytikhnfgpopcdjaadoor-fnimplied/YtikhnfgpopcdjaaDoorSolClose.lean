/- What propagation comes to: no clause is false at its end just where what is true goes with values of which no clause asks for more; conditions: none. -/
import Derived.Test.YtikhnfgpopcdjaaDoorPart19
namespace Go.Proofs.YtikhnfgpopcdjaaDoor.solClose
open sets solSets solMath solHold solProp
set_option linter.unusedVariables false
set_option linter.unusedSimpArgs false

def Cons (H : LS) : Prop := ∀ l, mem H l = true → mem H (-l) = false
def Sub (A B : LS) : Prop := ∀ l, mem A l = true → mem B l = true
/-- Values of which each clause is true, or has two literals that are not false. -/
structure Closed (C : List LS) (H : LS) : Prop where
  wf : Wf H
  cons : Cons H
  cl : ∀ c ∈ C, meetL c H = true ∨ ∃ x y, x ≠ y ∧ mem (restL c H) x = true ∧ mem (restL c H) y = true
theorem Sub.refl (A : LS) : Sub A A := fun _ h => h
theorem Sub.trans {A B C : LS} (h : Sub A B) (k : Sub B C) : Sub A C := fun l hl => k l (h l hl)
theorem Closed.less {C C' : List LS} {H : LS} (h : Closed C H) (hs : ∀ c ∈ C', c ∈ C) : Closed C' H := ⟨h.wf, h.cons, fun c hc => h.cl c (hs c hc)⟩
theorem cl_mem {s : Sv} {i : Nat} (hi : i < s.C.length) : s.cl i ∈ s.C := by
  unfold Sv.cl
  rw [List.getElem?_eq_getElem hi]
  exact List.getElem_mem hi
/-- Where nothing is due and nothing is false, what is true is closed. -/
theorem rest_closed {s : Sv} (h : Full s) (hF : s.F = -1) (hD : s.D = []) : Closed s.C s.H := by
  refine ⟨h.ok.wfH, h.ok.cons, fun c hc => ?_⟩
  obtain ⟨i, hi, e⟩ := List.mem_iff_getElem.1 hc
  have e2 : s.cl i = c := by unfold Sv.cl; rw [List.getElem?_eq_getElem hi]; exact e
  have := h.st i hi
  unfold StH at this
  rw [e2] at this
  rcases this with q | ⟨_, q, _⟩ | ⟨_, _, _, _, q⟩ | ⟨q1, q2, q3⟩
  · exact .inl q
  · exact absurd hF q
  · rw [hD] at q; cases q
  · exact .inr ⟨_, _, q3, q1, q2⟩
/-- The trail's literals are true. -/
def TinH (s : Sv) : Prop := ∀ p ∈ s.T, mem s.H p.1 = true
/-- Whole values as a set of literals. -/
def asgL (vs : List Bool) (n : Nat) : List Int := (List.range n).map fun (i : Nat) => if vs[i]?.getD false = true then ((i : Int) + 1) else -((i : Int) + 1)
def asg (vs : List Bool) (n : Nat) : LS := setL (asgL vs n)
theorem asg_lits {vs : List Bool} {n : Nat} (hn : n ≤ 40) : ∀ z ∈ asgL vs n, z ≠ 0 ∧ z.natAbs < 41 := fun z hz => by
  unfold asgL at hz
  obtain ⟨i, hi, rfl⟩ := List.mem_map.1 hz
  rw [List.mem_range] at hi
  split <;> omega
theorem mem_asg {vs : List Bool} {n : Nat} (hn : n ≤ 40) (l : Int) : mem (asg vs n) l = true ↔ l ≠ 0 ∧ l.natAbs ≤ n ∧ (vs[l.natAbs - 1]?.getD false = decide (0 < l)) := by
  unfold asg
  rw [mem_set (fun z hz => (asg_lits hn z hz).1), List.contains_iff_mem]
  unfold asgL
  rw [List.mem_map]
  constructor
  · rintro ⟨i, hi, e⟩
    rw [List.mem_range] at hi
    by_cases hb : vs[i]?.getD false = true
    · rw [if_pos hb] at e
      subst e
      refine ⟨by omega, by omega, ?_⟩
      rw [show ((i : Int) + 1).natAbs - 1 = i by omega, hb]
      symm; simp; try omega
    · rw [if_neg hb] at e
      subst e
      refine ⟨by omega, by omega, ?_⟩
      rw [show (-((i : Int) + 1)).natAbs - 1 = i by omega]
      have : vs[i]?.getD false = false := by simpa using hb
      rw [this]
      symm; simp; try omega
  · rintro ⟨h0, h1, h2⟩
    refine ⟨l.natAbs - 1, List.mem_range.2 (by omega), ?_⟩
    rw [h2]
    by_cases hp : 0 < l
    · simp only [hp, decide_true, if_true]; omega
    · simp only [hp, decide_false]
      simp; omega
theorem asg_cons {vs : List Bool} {n : Nat} (hn : n ≤ 40) : Cons (asg vs n) := fun l hl => by
  rw [mem_asg hn] at hl
  cases hx : mem (asg vs n) (-l)
  · rfl
  · rw [mem_asg hn] at hx
    have h1 := hl.2.2
    have h2 := hx.2.2
    rw [Int.natAbs_neg, h1] at h2
    have h0 := hl.1
    rw [decide_eq_decide] at h2
    omega
theorem asg_wf {vs : List Bool} {n : Nat} (hn : n ≤ 40) : Wf (asg vs n) := wf_set (asg_lits hn)
end Go.Proofs.YtikhnfgpopcdjaaDoor.solClose
