/- What is built of two drawn expressions, the first one twice: it has room, its gates are right, and its literals tell what the expressions tell; of no program; conditions: right expressions of depth 4, their variables below 4. -/
import Derived.Test.YtaileckcflnbdaaBuildEval
import Derived.Test.YtaileckcflnbdaaEvalAigJ
namespace Go.Proofs.Ytaileckcflnbdaa.buildFacts
open Go.RowKit Go.Deep Go base trees treeEval gates aigImpl nodes evalAig buildSem buildTree buildList buildEval
set_option linter.unusedVariables false

/-- Right, and its variables below 4. -/
def Nice (t : T) : Prop := right 4 t = true ∧ mostV 4 t < 4 ∧ OkT 4 4 t
def nodesN : Nat → Nat
  | 0 => 1
  | d + 1 => 1 + 3 * nodesN d
theorem kids3 {d : Nat} {t : T} (h0 : d = 0 → ln t = 0) (h : right d t = true) : ln t ≤ 3 := by
  rcases shape_cases (right_shape h0 h) with h | h | h | h | h | h | h <;> omega
theorem sum_most {f : Nat → Nat} {m : Nat} : ∀ n, (∀ i, i < n → f i ≤ m) → sumTo f n ≤ n * m
  | 0, _ => by simp [sumTo]
  | n + 1, h => by
    have h1 := sum_most (f := f) (m := m) n (fun i hi => h i (by omega))
    have h2 := h n (by omega)
    rw [sumTo, Nat.succ_mul]
    omega
theorem size_ok {n : Int} : ∀ (d : Nat) (t : T), OkT n d t → size d t ≤ nodesN d ∧ depth d t ≤ d + 1
  | 0, t, _ => ⟨Nat.le_refl _, Nat.le_refl _⟩
  | d + 1, t, h => by
    have hh := h.here
    have hl : ln t ≤ 3 := by unfold Here at hh; omega
    have hk := fun i (hi : i < ln t) => size_ok d (kid t i) (h.2 i hi)
    have h1 := sum_most (f := fun i => size d (kid t i)) (m := nodesN d) (ln t) (fun i hi => (hk i hi).1)
    have h2 := maxTo_of (f := fun i => depth d (kid t i)) (n := ln t) (m := d + 1) (fun i hi => (hk i hi).2)
    have h3 := Nat.mul_le_mul_right (nodesN d) hl
    simp only [size, depth, nodesN]
    omega
theorem nice_ok {t : T} (h : Nice t) : okB 4 t 1 0 = true := by
  obtain ⟨h1, h2, h3⟩ := h
  obtain ⟨s1, s2⟩ := size_ok 4 t h3
  have e : nodesN 4 = 121 := rfl
  unfold okB
  rw [h1, Bool.and_true]
  exact decide_eq_true ⟨by omega, by omega⟩
def three (x y z : T) : Nat → T := fun i => if i = 0 then x else if i = 1 then y else z
/-- The list of the three. -/
def T3 (e g : T) : T := mkT 0 0 3 (three e g e)
def gs1 (e : T) : Gl := (makeT 4 4 e []).2
def gs2 (e g : T) : Gl := (makeT 4 4 g (gs1 e)).2
def ze (e : T) : Int := (makeT 4 4 e []).1
def zg (e g : T) : Int := (makeT 4 4 g (gs1 e)).1
theorem good_nil (n : Int) : buildEval.Good n [] := fun i hi => by simp at hi
theorem row3 {e g : T} (he : Nice e) (hg : Nice g) : rowB 4 5 (T3 e g) 3 = ([ze e, zg e g, ze e], gs2 e g) := by
  obtain ⟨s1, x1⟩ := make_stays 4 4 e (fun h => by omega) he.2.2
  obtain ⟨s2, x2⟩ := make_stays 4 4 g (fun h => by omega) hg.2.2
  have k0 : kid (T3 e g) 0 = e := rfl
  have k1 : kid (T3 e g) 1 = g := rfl
  have k2 : kid (T3 e g) 2 = e := rfl
  have h3 : makeT 4 4 e (gs2 e g) = (ze e, gs2 e g) := s1 [] (gs2 e g) (x2 _)
  show makeRow (makeT 4 4) (T3 e g) 3 [] = _
  simp only [makeRow, k0, k1, k2]
  show ([] ++ [ze e] ++ [zg e g] ++ [(makeT 4 4 e (gs2 e g)).1], (makeT 4 4 e (gs2 e g)).2) = _
  rw [h3]
  rfl
theorem len2 {e g : T} (he : Nice e) (hg : Nice g) : (gs2 e g).length ≤ 240 := by
  have h1 := (make_full (n := 4) (by omega) 4 e [] he.2.2).2.2
  have h2 := (make_full (n := 4) (by omega) 4 g (gs1 e) hg.2.2).2.2
  have hf : fullN 4 = 40 := rfl
  rw [hf] at h1 h2
  simp only [List.length_nil] at h1
  show (makeT 4 4 g (gs1 e)).2.length ≤ 240
  have h3 : (gs1 e).length ≤ 120 := by show (makeT 4 4 e []).2.length ≤ 120; omega
  omega
theorem code3 {e g : T} (he : Nice e) (hg : Nice g) : bC 4 5 (T3 e g) 3 = 0 := by
  have ho := nice_ok he
  have hog := nice_ok hg
  have fa : ∀ i, i < 3 → faultAt 4 5 (T3 e g) i = 0 := fun i hi => by
    unfold faultAt
    obtain rfl | rfl | rfl : i = 0 ∨ i = 1 ∨ i = 2 := by omega
    · show (if okB 4 e 1 0 = false then (1 : Int) else if (4 : Int) ≤ mostV 4 e then 5 else 0) = 0
      rw [ho, if_neg (by simp), if_neg (by have := he.2.1; omega)]
    · show (if okB 4 g 1 0 = false then (1 : Int) else if (4 : Int) ≤ mostV 4 g then 5 else 0) = 0
      rw [hog, if_neg (by simp), if_neg (by have := hg.2.1; omega)]
    · show (if okB 4 e 1 0 = false then (1 : Int) else if (4 : Int) ≤ mostV 4 e then 5 else 0) = 0
      rw [ho, if_neg (by simp), if_neg (by have := he.2.1; omega)]
  have fl : faultL 4 5 (T3 e g) 3 = 0 := by
    have f1 : faultL 4 5 (T3 e g) 1 = 0 := (fault_next (n := 4) (d := 5) (t := T3 e g) (k := 0) rfl).trans (fa 0 (by omega))
    have f2 : faultL 4 5 (T3 e g) 2 = 0 := (fault_next f1).trans (fa 1 (by omega))
    exact (fault_next f2).trans (fa 2 (by omega))
  have hl := len2 he hg
  exact bC_ok (by omega) ⟨by omega, by omega⟩ fl (by rw [row3 he hg]; simp only; omega)
theorem ans3 {e g : T} (he : Nice e) (hg : Nice g) : bG 4 5 (T3 e g) 3 = gs2 e g ∧ bL 4 5 (T3 e g) 3 = [ze e, zg e g, ze e] ∧ bN 4 5 (T3 e g) 3 = 4 := by
  have hc := code3 he hg
  refine ⟨?_, ?_, ?_⟩
  · unfold bG; rw [if_pos hc, row3 he hg]
  · unfold bL; rw [if_pos hc, row3 he hg]
  · unfold bN; rw [if_pos hc]
theorem good2 {e g : T} (he : Nice e) (hg : Nice g) : buildEval.Good 4 (gs2 e g) := by
  have h1 := make_did (vs := [false, false, false, false]) (n := 4) rfl 4 e [] he.2.2 (good_nil 4)
  exact (make_did (vs := [false, false, false, false]) (n := 4) rfl 4 g (gs1 e) hg.2.2 h1.good).good
theorem aig3 {e g : T} (he : Nice e) (hg : Nice g) : aigB 4 (gs2 e g).length (gf (gs2 e g)) = true := by
  have hl := len2 he hg
  rw [aigB_all ⟨by omega, by omega, by omega⟩]
  have hgd := good2 he hg
  have : ∀ n, n ≤ (gs2 e g).length → allTo (goodB 4 (gf (gs2 e g))) n = true := by
    intro n
    induction n with
    | zero => intro _; rfl
    | succ n ih => intro hn; simp only [allTo]; rw [ih (by omega), hgd n (by omega)]; rfl
  exact this _ (Nat.le_refl _)
theorem gate64 {e g : T} (he : Nice e) (hg : Nice g) : ∀ i, i < (gs2 e g).length → I64 (gf (gs2 e g) i).1 ∧ I64 (gf (gs2 e g) i).2 := fun i hi => by
  have hl := len2 he hg
  have h1 := gate_in (good_at (good2 he hg) hi) (by omega)
  exact ⟨⟨by omega, by omega⟩, ⟨by omega, by omega⟩⟩
theorem in3 {e g : T} (he : Nice e) (hg : Nice g) : In 4 (gs2 e g) (ze e) ∧ In 4 (gs2 e g) (zg e g) := by
  have h1 := (make_fine (n := 4) (by omega) 4 e [] he.2.2).1
  have h2 := make_fine (n := 4) (by omega) 4 g (gs1 e) hg.2.2
  exact ⟨h1.more h2.2.1, h2.1⟩
theorem vals3 {e g : T} (he : Nice e) (hg : Nice g) {vs : List Bool} (hv : vs.length = 4) : evCode 4 (gs2 e g).length (gf (gs2 e g)) [ze e, zg e g, ze e] vs.length = 0 ∧ evList 4 (gs2 e g).length (gf (gs2 e g)) [ze e, zg e g, ze e] vs = [evalT vs 4 e, evalT vs 4 g, evalT vs 4 e] := by
  have hn : (vs.length : Int) = 4 := by omega
  have d1 := make_did hn 4 e [] he.2.2 (good_nil 4)
  have d2 := make_did hn 4 g (gs1 e) hg.2.2 d1.good
  obtain ⟨i1, i2⟩ := in3 he hg
  have q1 : inL 4 (gs2 e g).length (ze e) = true := decide_eq_true ⟨i1.1, i1.2⟩
  have q2 : inL 4 (gs2 e g).length (zg e g) = true := decide_eq_true ⟨i2.1, i2.2⟩
  have hc : evCode 4 (gs2 e g).length (gf (gs2 e g)) [ze e, zg e g, ze e] vs.length = 0 := by
    unfold evCode
    rw [if_neg (by simp; omega), aig3 he hg, if_neg (by simp), if_neg (by simp [hv, q1, q2])]
  refine ⟨hc, ?_⟩
  unfold evList
  rw [if_pos hc]
  have v1 : litV (nodesOf vs (gf (gs2 e g)) (gs2 e g).length) (ze e) = evalT vs 4 e := by
    have h := d1.val
    have hx := v_ext hn d2.ext d1.inn
    exact hx.trans h
  have v2 : litV (nodesOf vs (gf (gs2 e g)) (gs2 e g).length) (zg e g) = evalT vs 4 g := d2.val
  simp only [List.map_cons, List.map_nil, v1, v2]
end Go.Proofs.Ytaileckcflnbdaa.buildFacts
