/- The circuit of one drawn expression, and that its formula is right where its variables are few; of no program; conditions: a right expression of four variables. -/
import Derived.Test.YtaileckcflnbdaaTsMath
namespace Go.Proofs.Ytaileckcflnbdaa.tsFacts
open Go.RowKit Go.Deep Go base trees treeEval gates aigImpl nodes evalAig buildSem buildTree buildList buildEval buildFacts tseitin tsMath
set_option linter.unusedVariables false

def T1 (e : T) : T := mkT 0 0 1 (fun _ => e)
theorem row1 (e : T) : rowB 4 5 (T1 e) 1 = ([ze e], gs1 e) := by
  have k0 : kid (T1 e) 0 = e := rfl
  show makeRow (makeT 4 4) (T1 e) 1 [] = _
  simp only [makeRow, k0]
  rfl
theorem len1 {e : T} (he : Nice e) : (gs1 e).length ≤ 120 := by
  have h1 := (make_full (n := 4) (by omega) 4 e [] he.2.2).2.2
  have hf : fullN 4 = 40 := rfl
  rw [hf] at h1
  simp only [List.length_nil] at h1
  show (makeT 4 4 e []).2.length ≤ 120
  omega
theorem code1 {e : T} (he : Nice e) : bC 4 5 (T1 e) 1 = 0 := by
  have ho := nice_ok he
  have fa : faultAt 4 5 (T1 e) 0 = 0 := by
    unfold faultAt
    show (if okB 4 e 1 0 = false then (1 : Int) else if (4 : Int) ≤ mostV 4 e then 5 else 0) = 0
    rw [ho, if_neg (by simp), if_neg (by have := he.2.1; omega)]
  have fl : faultL 4 5 (T1 e) 1 = 0 := (fault_next (n := 4) (d := 5) (t := T1 e) (k := 0) rfl).trans fa
  have hl := len1 he
  exact bC_ok (by omega) ⟨by omega, by omega⟩ fl (by rw [row1]; simp only; omega)
theorem ans1 {e : T} (he : Nice e) : bG 4 5 (T1 e) 1 = gs1 e ∧ bL 4 5 (T1 e) 1 = [ze e] ∧ bN 4 5 (T1 e) 1 = 4 := by
  have hc := code1 he
  refine ⟨?_, ?_, ?_⟩
  · unfold bG; rw [if_pos hc, row1]
  · unfold bL; rw [if_pos hc, row1]
  · unfold bN; rw [if_pos hc]
theorem good1 {e : T} (he : Nice e) : buildEval.Good 4 (gs1 e) := (make_did (vs := [false, false, false, false]) (n := 4) rfl 4 e [] he.2.2 (good_nil 4)).good
theorem val1 {e : T} (he : Nice e) {vs : List Bool} (hv : vs.length = 4) : V vs (gs1 e) (ze e) = evalT vs 4 e := (make_did (vs := vs) (n := 4) (by rw [hv]; rfl) 4 e [] he.2.2 (good_nil 4)).val
theorem in1 {e : T} (he : Nice e) : In 4 (gs1 e) (ze e) := (make_fine (n := 4) (by omega) 4 e [] he.2.2).1
theorem aig1 {e : T} (he : Nice e) : aigB 4 (gs1 e).length (gf (gs1 e)) = true := by
  have hl := len1 he
  rw [aigB_all ⟨by omega, by omega, by omega⟩]
  have hgd := good1 he
  have : ∀ n, n ≤ (gs1 e).length → allTo (goodB 4 (gf (gs1 e))) n = true := by
    intro n
    induction n with
    | zero => intro _; rfl
    | succ n ih => intro hn; simp only [allTo]; rw [ih (by omega), hgd n (by omega)]; rfl
  exact this _ (Nat.le_refl _)
theorem gate1 {e : T} (he : Nice e) : ∀ i, i < (gs1 e).length → I64 (gf (gs1 e) i).1 ∧ I64 (gf (gs1 e) i).2 := fun i hi => by
  have hl := len1 he
  have h1 := gate_in (good_at (good1 he) hi) (by omega)
  exact ⟨⟨by omega, by omega⟩, ⟨by omega, by omega⟩⟩
theorem lit1 {e : T} (he : Nice e) : I64 (ze e) := by
  have h := in1 he
  have hl := len1 he
  obtain ⟨h1, h2⟩ := h
  exact ⟨by omega, by omega⟩
theorem flit_ok {z : Int} {m : Nat} (h2 : 2 ≤ z) (h3 : z / 2 ≤ m) : cnf.litB (m : Int) (flit z) = true ∧ cnf.litB (m : Int) (-(flit z)) = true := by
  unfold flit cnf.litB
  split
  · exact ⟨decide_eq_true ⟨by omega, by omega, by omega⟩, decide_eq_true ⟨by omega, by omega, by omega⟩⟩
  · exact ⟨decide_eq_true ⟨by omega, by omega, by omega⟩, decide_eq_true ⟨by omega, by omega, by omega⟩⟩
theorem clauses_ok {gs : Gl} (hg : buildEval.Good 4 gs) : ∀ c ∈ clausesTo 4 (gf gs) gs.length, cnf.clauseB ((4 + gs.length : Nat) : Int) c = true := fun c hc => by
  obtain ⟨i, hi, hc⟩ := of_gate _ c hc
  obtain ⟨q1, q2, q3, q4⟩ := of_decide_eq_true (buildEval.good_at (n := 4) hg hi)
  obtain ⟨a1, a2⟩ := flit_ok (m := 4 + gs.length) q1 (by omega)
  obtain ⟨b1, b2⟩ := flit_ok (m := 4 + gs.length) (z := (gf gs i).2) (by omega) (by omega)
  have x1 : cnf.litB ((4 + gs.length : Nat) : Int) (4 + 1 + (i : Int)) = true := decide_eq_true ⟨by omega, by omega, by omega⟩
  have x2 : cnf.litB ((4 + gs.length : Nat) : Int) (-(4 + 1 + (i : Int))) = true := decide_eq_true ⟨by omega, by omega, by omega⟩
  unfold gateC at hc
  simp only [List.mem_cons, List.not_mem_nil, or_false] at hc
  unfold cnf.clauseB
  rcases hc with rfl | rfl | rfl
  · simp only [List.length_cons, List.length_nil, List.all_cons, List.all_nil, Bool.and_true, x2, a1]
    rfl
  · simp only [List.length_cons, List.length_nil, List.all_cons, List.all_nil, Bool.and_true, x2, b1]
    rfl
  · simp only [List.length_cons, List.length_nil, List.all_cons, List.all_nil, Bool.and_true, x1, a2, b2]
    rfl
/-- Where the variables are few the formula is right. -/
theorem cnf_few {gs : Gl} {l : Int} (hg : buildEval.Good 4 gs) (hl : In 4 gs l) (hf : 4 + gs.length ≤ 40) : cnf.cnfB (4 + (gs.length : Int)) (tsC 4 gs.length (gf gs) l) = true := by
  have e : (4 : Int) + (gs.length : Int) = ((4 + gs.length : Nat) : Int) := by omega
  rw [e]
  unfold cnf.cnfB
  have hlen : (tsC 4 gs.length (gf gs) l).length ≤ 300 := by
    unfold tsC lastC
    rw [List.length_append, clauses_len]
    split
    · simp; omega
    · split
      · simp; omega
      · simp; omega
  rw [decide_eq_true ⟨by omega, by omega, hlen⟩, Bool.true_and, List.all_eq_true]
  intro c hc
  unfold tsC at hc
  rcases List.mem_append.1 hc with hc | hc
  · exact clauses_ok hg c hc
  · unfold lastC at hc
    obtain ⟨p1, p2⟩ := hl
    by_cases h0 : l = 0
    · rw [if_pos h0, List.mem_singleton] at hc
      subst hc
      rfl
    · rw [if_neg h0] at hc
      by_cases h1 : l = 1
      · rw [if_pos h1] at hc; cases hc
      · rw [if_neg h1, List.mem_singleton] at hc
        subst hc
        have h9 := (flit_ok (m := 4 + gs.length) (z := l) (by omega) (by omega)).1
        unfold cnf.clauseB
        simp only [List.length_cons, List.length_nil, List.all_cons, List.all_nil, Bool.and_true, h9]
        rfl
theorem in_l {gs : Gl} {l : Int} (hl : In 4 gs l) : inL 4 gs.length l = true := decide_eq_true ⟨hl.1, hl.2⟩
/-- What Tseitin answers of it: right, or too many variables. -/
theorem ts_one_ex {e : T} (he : Nice e) : (tsCode 4 (gs1 e).length (gf (gs1 e)) (ze e) = 0 ∧ tsVars 4 (gs1 e).length (gf (gs1 e)) (ze e) = 4 + ((gs1 e).length : Int) ∧ tsList 4 (gs1 e).length (gf (gs1 e)) (ze e) = tsC 4 (gs1 e).length (gf (gs1 e)) (ze e) ∧ cnf.cnfB (4 + ((gs1 e).length : Int)) (tsC 4 (gs1 e).length (gf (gs1 e)) (ze e)) = true) ∨ (tsCode 4 (gs1 e).length (gf (gs1 e)) (ze e) = 11 ∧ 40 < 4 + (gs1 e).length) := by
  cases hc : cnf.cnfB (4 + ((gs1 e).length : Int)) (tsC 4 (gs1 e).length (gf (gs1 e)) (ze e))
  · right
    refine ⟨(ts_size (aig1 he) (in_l (in1 he)) hc).1, ?_⟩
    rcases Nat.lt_or_ge 40 (4 + (gs1 e).length) with h | h
    · exact h
    · rw [cnf_few (good1 he) (in1 he) h] at hc; cases hc
  · left
    obtain ⟨a, b, c⟩ := ts_ok (aig1 he) (in_l (in1 he)) hc
    exact ⟨a, b, c, rfl⟩
end Go.Proofs.Ytaileckcflnbdaa.tsFacts
