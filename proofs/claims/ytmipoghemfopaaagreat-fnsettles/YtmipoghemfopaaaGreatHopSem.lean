/- The hops between routers, as plain functions and as they lie in memory; of no program; conditions: none. -/
import Derived.Test.YtmipoghemfopaaaGreatCandSem
import Derived.Maps.AppendAt
namespace Go.Proofs.YtmipoghemfopaaaGreat.hopSem
open Go.RowKit Go.Deep Go base netSem routeRow nbSem candSem
set_option linter.unusedVariables false

/-- Where the hop between two routers lies in a routing. -/
def hopO (p q : Nat) : Nat := 9 + p * 12 + q * 3
/-- The last of the first k links between two routers, and its cost. -/
def lkT (g : R) (p q : Int) : Nat → Int
  | 0 => -1
  | k + 1 => if hit g p q k = true then (k : Int) else lkT g p q k
def ckT (g : R) (p q : Int) : Nat → Int
  | 0 => 0
  | k + 1 => if hit g p q k = true then g k 2 else ckT g p q k
/-- Those of the first k imports that are of a pair. -/
def ofPair (x : R) (p q : Int) (i : Nat) : Bool := decide (x i 0 = p) && decide (x i 1 = q)
def jsT (x : R) (p q : Int) (k : Nat) : List Nat := (List.range k).filter (ofPair x p q)
theorem js_succ (x : R) (p q : Int) (k : Nat) : jsT x p q (k + 1) = jsT x p q k ++ (if ofPair x p q k = true then [k] else []) := by
  unfold jsT
  rw [List.range_succ, List.filter_append]
  by_cases h : ofPair x p q k = true
  · simp [h]
  · simp [h]
theorem js_len (x : R) (p q : Int) (k : Nat) : (jsT x p q k).length ≤ k := by
  unfold jsT
  exact Nat.le_trans (List.length_filter_le _ _) (by simp)
theorem js_mem {x : R} {p q : Int} {k i : Nat} (h : i ∈ jsT x p q k) : x i 0 = p ∧ x i 1 = q := by
  unfold jsT at h
  have := (List.mem_filter.1 h).2
  unfold ofPair at this
  simpa using this
/-- The imports at some places. -/
def rowAt (x : R) (js : List Nat) : R := fun i => x (js[i]?.getD 0)
theorem step_pair {x : R} {p q : Int} {i : Nat} {r : Rt} (h : ofPair x p q i = false) : stepI x p q i r = some r := by
  unfold stepI
  rw [if_pos]
  unfold skipB
  unfold ofPair at h
  by_cases h0 : x i 0 = p
  · have h1 : ¬ x i 1 = q := by simpa [h0] using h
    simp [h1]
  · simp [h0]
theorem step_at {x y : R} {p q : Int} {i j : Nat} {r : Rt} (h : ∀ m, x i m = y j m) : stepI x p q i r = stepI y p q j r := by
  unfold stepI skipB
  rw [h 0, h 1, h 2, h 3, h 4]
theorem impK_congr {x y : R} {p q : Int} {r : Rt} : ∀ n, (∀ i, i < n → ∀ m, x i m = y i m) → impK x p q r n = impK y p q r n
  | 0, _ => rfl
  | n + 1, h => by
    have ih := impK_congr (x := x) (y := y) (p := p) (q := q) (r := r) n (fun i hi => h i (by omega))
    show (impK x p q r n).bind _ = (impK y p q r n).bind _
    rw [ih]
    congr 1
    funext r'
    exact step_at (h n (by omega))
/-- What the imports of a pair make of a route is what all make of it. -/
theorem impK_pair (x : R) (p q : Int) (r : Rt) : ∀ k, impK (rowAt x (jsT x p q k)) p q r (jsT x p q k).length = impK x p q r k
  | 0 => rfl
  | k + 1 => by
    have ih := impK_pair x p q r k
    show _ = (impK x p q r k).bind (stepI x p q k)
    rw [js_succ]
    by_cases h : ofPair x p q k = true
    · rw [if_pos h, List.length_append]
      have hc : impK (rowAt x (jsT x p q k ++ [k])) p q r (jsT x p q k).length = impK (rowAt x (jsT x p q k)) p q r (jsT x p q k).length :=
        impK_congr _ (fun i hi m => by unfold rowAt; rw [List.getElem?_append_left hi])
      show (impK (rowAt x (jsT x p q k ++ [k])) p q r (jsT x p q k).length).bind (stepI (rowAt x (jsT x p q k ++ [k])) p q (jsT x p q k).length) = _
      rw [hc, ih]
      congr 1
      funext r'
      exact step_at (fun m => by unfold rowAt; simp)
    · rw [if_neg h, List.append_nil, ih]
      cases hq : impK x p q r k with
      | none => rfl
      | some r' => exact (step_pair (by simpa using h)).symm
/-- In a network without a pair that is linked twice the last link is the first. -/
theorem lk_first {g : R} {p q : Int} : ∀ n, (∀ i, i < n → linkAt g i (g i 0) (g i 1) < 0) → lkT g p q n = linkAt g n p q ∧ (0 ≤ lkT g p q n → ckT g p q n = g (lkT g p q n).toNat 2)
  | 0, _ => ⟨rfl, fun h => by simp [lkT] at h⟩
  | n + 1, h => by
    obtain ⟨ih1, ih2⟩ := lk_first (g := g) (p := p) (q := q) n (fun i hi => h i (by omega))
    simp only [lkT, ckT]
    by_cases hh : hit g p q n = true
    · rw [if_pos hh, if_pos hh]
      have hn : ∀ i, i < n → hit g p q i = false := fun i hi => by
        cases e : hit g p q i with
        | false => rfl
        | true =>
          exfalso
          have h0 : 0 ≤ linkAt g n (g n 0) (g n 1) := firstAt_spec.2 ⟨i, hi, by
            unfold hit at e hh ⊢
            rw [decide_eq_true_eq] at e hh ⊢
            omega⟩
          have := h n (by omega)
          omega
      exact ⟨(firstAt_hit (by omega) hh hn).symm, fun _ => by simp⟩
    · rw [if_neg hh, if_neg hh]
      refine ⟨?_, ih2⟩
      rw [ih1]
      unfold linkAt
      by_cases h0 : 0 ≤ firstAt (hit g p q) n
      · obtain ⟨i, hi, hp⟩ := firstAt_spec.1 h0
        have hb := firstAt_bounds (hit g p q) n
        obtain ⟨m, hm⟩ : ∃ m : Nat, firstAt (hit g p q) n = (m : Int) := ⟨(firstAt (hit g p q) n).toNat, by omega⟩
        have hmf : hit g p q m = true ∧ ∀ i, i < m → hit g p q i = false := first_is hm
        rw [hm]
        exact (firstAt_hit (by omega) hmf.1 hmf.2).symm
      · have hne : ∀ i, i < n → hit g p q i = false := fun i hi => by
          cases e : hit g p q i with
          | false => rfl
          | true => exact absurd (firstAt_spec.2 ⟨i, hi, e⟩) h0
        rw [firstAt_none hne, firstAt_none]
        intro i hi
        by_cases e : i = n
        · subst e; simpa using hh
        · exact hne i (by omega)
where
  first_is {g : R} {p q : Int} {n m : Nat} (h : firstAt (hit g p q) n = (m : Int)) : hit g p q m = true ∧ ∀ i, i < m → hit g p q i = false := by
    unfold firstAt at h
    cases e : (List.range n).find? (hit g p q) with
    | none => rw [e] at h; simp only [] at h; omega
    | some k =>
      rw [e] at h
      simp only [] at h
      have hk : k = m := by omega
      subst hk
      rw [List.find?_range_eq_some] at e
      exact ⟨e.1, fun i hi => by simpa using e.2.2 i hi⟩

def impCells (x : R) (js : List Nat) : List Value := js.flatMap fun i => [.int .i64 (x i 0), .int .i64 (x i 1), .int .i64 (x i 2), .int .i64 (x i 3), .int .i64 (x i 4)]
/-- A row of imports of the call's own. -/
def OwnImp (B : Nat) (w : World) (v : Value) (x : R) (js : List Nat) : Prop := w.ownsRow B 71 5 v js.length (impCells x js)
theorem imp_at (x : R) : ∀ (js : List Nat) (i j : Nat), i < js.length → j < 5 → (impCells x js)[i * 5 + j]? = some (.int .i64 (x (js[i]?.getD 0) j))
  | [], i, j, hi, _ => absurd hi (Nat.not_lt_zero _)
  | k :: js, 0, j, _, hj => by
    match j, hj with
    | 0, _ => rfl
    | 1, _ => rfl
    | 2, _ => rfl
    | 3, _ => rfl
    | 4, _ => rfl
    | j + 5, hj => exact absurd hj (by omega)
  | k :: js, i + 1, j, hi, hj => by
    have ih := imp_at x js i j (by simpa using hi) hj
    have e : (i + 1) * 5 + j = (i * 5 + j) + 5 := by omega
    rw [e]
    simpa [impCells] using ih
theorem OwnImp.row {B : Nat} {w : World} {a : Option Addr} {n c : Nat} {x : R} {js : List Nat} (h : OwnImp B w (.slice a n c) x js) : n = js.length ∧ Row 5 w a n (rowAt x js) := by
  obtain ⟨h1, h2⟩ := h
  rcases h2 with ⟨e, hn⟩ | ⟨g, cap, cur, e, hb, hh, hn, hm, hs, ht⟩
  · injection e with e1 e2 e3
    subst e1 e2
    exact ⟨hn.symm, ⟨Nat.zero_le _, fun i hi => absurd hi (Nat.not_lt_zero _)⟩⟩
  · injection e with e1 e2 e3
    subst e1 e2
    refine ⟨rfl, ⟨Nat.le_trans hn hm, fun i hi => ⟨g, 0, rfl, fun j hj => ?_⟩⟩⟩
    have h3 : cur[i * 5 + j]? = some (.int .i64 (rowAt x js i j)) := by
      have : (cur.toList.take (js.length * 5))[i * 5 + j]? = (impCells x js)[i * 5 + j]? := by rw [ht]
      rw [List.getElem?_take, if_pos (by omega), imp_at x js i j hi hj] at this
      rw [← Array.getElem?_toList, this]
      rfl
    simp [World.cell?, hh, h3]
/-- The hops of a routing in block b, their rows of imports in blocks of their own from B on. -/
structure HopsAt (b B : Nat) (w : World) (x : R) (L K : Nat → Nat → Int) (I : Nat → Nat → List Nat) (V : Nat → Nat → Value) : Prop where
  link : ∀ p q, p < 4 → q < 4 → w.cell? ⟨b, hopO p q, none⟩ = some (.int .i64 (L p q))
  cost : ∀ p q, p < 4 → q < 4 → w.cell? ⟨b, hopO p q + 1, none⟩ = some (.int .i64 (K p q))
  imps : ∀ p q, p < 4 → q < 4 → w.cell? ⟨b, hopO p q + 2, none⟩ = some (V p q)
  own : ∀ p q, p < 4 → q < 4 → OwnImp B w (V p q) x (I p q)
  apart : ∀ p q p' q', p < 4 → q < 4 → p' < 4 → q' < 4 → ¬ (p = p' ∧ q = q') → ∀ g, (V p q).ownBlock = some g → (V p' q').ownBlock ≠ some g
end Go.Proofs.YtmipoghemfopaaaGreat.hopSem
