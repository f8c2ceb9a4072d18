/- The value of an expression, of the program and of the specification: for every right tree that lies in memory; conditions: its variables have values. -/
import Derived.Test.YtnafjgbikgfppaaTrees
import Derived.BigRegion
import Derived.Deep.RegionHeld3
namespace Go.Proofs.Ytnafjgbikgfppaa.treeEval
open Go.RowKit Go.Deep base trees
set_option linter.unusedVariables false

def maxI (f : Nat → Int) : Nat → Int
  | 0 => -1
  | n + 1 => max (maxI f n) (f n)
theorem maxI_le {f : Nat → Int} {i n : Nat} (h : i < n) : f i ≤ maxI f n := by
  induction n with
  | zero => omega
  | succ n ih =>
    simp only [maxI]
    by_cases e : i = n
    · subst e; omega
    · have := ih (by omega); omega
theorem maxI_of {f : Nat → Int} {n : Nat} {m : Int} (h0 : -1 ≤ m) (h : ∀ i, i < n → f i ≤ m) : maxI f n ≤ m := by
  induction n with
  | zero => exact h0
  | succ n ih =>
    simp only [maxI]
    have h1 := ih fun i hi => h i (by omega)
    have h2 := h n (by omega)
    omega
/-- The greatest variable of a tree, -1 without one. -/
def mostV : Nat → T → Int
  | 0, t => if kd t = 1 then nn t else -1
  | d + 1, t => if kd t = 1 then nn t else maxI (fun i => mostV d (kid t i)) (ln t)
theorem mostV_eq {d : Nat} {t : T} (h0 : d = 0 → ln t = 0) : mostV d t = if kd t = 1 then nn t else maxI (fun i => mostV (d - 1) (kid t i)) (ln t) := by
  cases d with
  | zero => rw [h0 rfl]; rfl
  | succ d => rfl
def evalT (vs : List Bool) : Nat → T → Bool
  | 0, t => if kd t = 1 then vs[(nn t).toNat]?.getD false else decide (nn t = 1)
  | d + 1, t => if kd t = 1 then vs[(nn t).toNat]?.getD false else if kd t = 2 then decide (nn t = 1) else if kd t = 3 then !(evalT vs d (kid t 0)) else if kd t = 4 then evalT vs d (kid t 0) && evalT vs d (kid t 1)
    else if kd t = 5 then evalT vs d (kid t 0) || evalT vs d (kid t 1) else if kd t = 6 then evalT vs d (kid t 0) != evalT vs d (kid t 1) else if evalT vs d (kid t 0) then evalT vs d (kid t 1) else evalT vs d (kid t 2)

variable {q : Nat → Prop} {M d : Nat} {w : World} {t : T} {a : Option Addr} {l : Nat}
theorem right_shape (h0 : d = 0 → ln t = 0) (h : right d t = true) : shapeT t = true := by
  rw [right_eq h0, Bool.and_eq_true] at h; exact h.1
theorem right_kid (h0 : d = 0 → ln t = 0) (h : right d t = true) {i : Nat} (hi : i < ln t) : right (d - 1) (kid t i) = true := by
  rw [right_eq h0, Bool.and_eq_true] at h; exact allTo_true h.2 hi
theorem mostV_kid (h0 : d = 0 → ln t = 0) (hk : kd t ≠ 1) {i : Nat} (hi : i < ln t) : mostV (d - 1) (kid t i) ≤ mostV d t := by
  rw [mostV_eq h0, if_neg hk]; exact maxI_le (f := fun i => mostV (d - 1) (kid t i)) hi
/-- The kinds of a right tree. -/
theorem shape_cases (h : shapeT t = true) : (kd t = 1 ∧ ln t = 0 ∧ 0 ≤ nn t ∧ nn t ≤ 11) ∨ (kd t = 2 ∧ ln t = 0 ∧ 0 ≤ nn t ∧ nn t ≤ 1) ∨ (kd t = 3 ∧ ln t = 1 ∧ nn t = 0) ∨ (kd t = 4 ∧ ln t = 2 ∧ nn t = 0) ∨ (kd t = 5 ∧ ln t = 2 ∧ nn t = 0) ∨ (kd t = 6 ∧ ln t = 2 ∧ nn t = 0) ∨ (kd t = 7 ∧ ln t = 3 ∧ nn t = 0) := by
  obtain ⟨h1, h2, h3⟩ := of_decide_eq_true h
  by_cases e1 : kd t = 1
  · rw [e1] at h1 h3
    simp [kidsOf, mostN] at h1 h3
    exact Or.inl ⟨e1, h1, h2, h3⟩
  by_cases e2 : kd t = 2
  · rw [e2] at h1 h3
    simp [kidsOf, mostN] at h1 h3
    exact Or.inr (Or.inl ⟨e2, h1, h2, h3⟩)
  have hn : nn t = 0 := by simp [mostN, e1, e2] at h3; omega
  by_cases e3 : kd t = 3
  · rw [e3] at h1
    simp [kidsOf] at h1
    exact Or.inr (Or.inr (Or.inl ⟨e3, by omega, hn⟩))
  by_cases e4 : kd t = 4
  · rw [e4] at h1
    simp [kidsOf] at h1
    exact Or.inr (Or.inr (Or.inr (Or.inl ⟨e4, by omega, hn⟩)))
  by_cases e5 : kd t = 5
  · rw [e5] at h1
    simp [kidsOf] at h1
    exact Or.inr (Or.inr (Or.inr (Or.inr (Or.inl ⟨e5, by omega, hn⟩))))
  by_cases e6 : kd t = 6
  · rw [e6] at h1
    simp [kidsOf] at h1
    exact Or.inr (Or.inr (Or.inr (Or.inr (Or.inr (Or.inl ⟨e6, by omega, hn⟩)))))
  by_cases e7 : kd t = 7
  · rw [e7] at h1
    simp [kidsOf] at h1
    exact Or.inr (Or.inr (Or.inr (Or.inr (Or.inr (Or.inr ⟨e7, by omega, hn⟩)))))
  · simp [kidsOf, e1, e2, e3, e4, e5, e6, e7] at h1
theorem eval_pos (vs : List Bool) (hd : 0 < d) : evalT vs d t = if kd t = 1 then vs[(nn t).toNat]?.getD false else if kd t = 2 then decide (nn t = 1) else if kd t = 3 then !(evalT vs (d - 1) (kid t 0)) else if kd t = 4 then evalT vs (d - 1) (kid t 0) && evalT vs (d - 1) (kid t 1)
    else if kd t = 5 then evalT vs (d - 1) (kid t 0) || evalT vs (d - 1) (kid t 1) else if kd t = 6 then evalT vs (d - 1) (kid t 0) != evalT vs (d - 1) (kid t 1) else if evalT vs (d - 1) (kid t 0) then evalT vs (d - 1) (kid t 1) else evalT vs (d - 1) (kid t 2) := by
  cases d with
  | zero => omega
  | succ d => rfl
theorem eval_var (vs : List Bool) (h : kd t = 1) : evalT vs d t = vs[(nn t).toNat]?.getD false := by
  cases d <;> simp [evalT, h]
theorem eval_const (vs : List Bool) (h : kd t = 2) : evalT vs d t = decide (nn t = 1) := by
  cases d <;> simp [evalT, h]

def EvE (F : FuncId) (d : Nat) : Prop := ∀ (t : T) (a : Option Addr) (l c : Nat) (va : Option Addr) (vl vc : Nat) (vs : List Bool) (w : World), Rd (fun _ => True) 1048576 w d t a l → right d t = true → mostV d t < (vl : Int) → BoolRow w va vl vs →
    Calls Try.prog F #[.agg #[.int .i64 (kd t), .int .i64 (nn t), .slice a l c], .slice va vl vc] w fun e w' => e = .returned (.bool (evalT vs d t)) ∧ Below w.heap.size w w'
/-- What a call at one expression answers, from a world on. -/
def At (F : FuncId) (W : World) (k n : Int) (x : Option Addr) (m s : Nat) (v : Value) (r : Bool) : Prop :=
  ∀ (w' : World) (args : Array Value), args = #[.agg #[.int .i64 k, .int .i64 n, .slice x m s], v] → Below W.heap.size W w' → Calls Try.prog F args w' fun e w'' => e = .returned (.bool r) ∧ Below w'.heap.size w' w''
theorem At.later {F : FuncId} {W W' : World} {k n : Int} {x : Option Addr} {m s : Nat} {v : Value} {r : Bool} (h : At F W k n x m s v r) (hb : Below W.heap.size W W') : At F W' k n x m s v r :=
  fun w' args he hw => h w' args he (hb.trans (hw.mono hb.size))
/-- One kid, where it lies and what a call at it answers, from then on. -/
theorem kid_facts {F : FuncId} {va : Option Addr} {vl vc : Nat} {vs : List Bool} (hI : EvE F (d - 1)) (hr : Rd (fun _ => True) 1048576 w d t a l) (hR : right d t = true) (hm : mostV d t < (vl : Int)) (hv : BoolRow w va vl vs) (h1 : kd t ≠ 1) {i : Nat} (hi : i < l) :
    ∃ b off, a = some ⟨b, off, none⟩ ∧ ∃ k n x m s, w.cell? ⟨b, off + i * 3, none⟩ = some (.int .i64 k) ∧ w.cell? ⟨b, off + i * 3 + 1, none⟩ = some (.int .i64 n) ∧ w.cell? ⟨b, off + i * 3 + 2, none⟩ = some (.slice x m s) ∧
      Hid (At F w k n x m s (.slice va vl vc) (evalT vs (d - 1) (kid t i))) := by
  obtain ⟨hd, b, off, e, -, hc0, hc1, x, m, s, hc2, hx⟩ := hr.cell hi
  have hi' : i < ln t := by rw [hr.len]; exact hi
  refine ⟨b, off, e, _, _, x, m, s, hc0, hc1, hc2, fun w' args he hb => ?_⟩
  subst he
  exact hI (kid t i) x m s va vl vc vs w' (hx.below hb) (right_kid hr.zero hR hi') (by have := mostV_kid hr.zero h1 hi'; omega) (hv.below hb)

end Go.Proofs.Ytnafjgbikgfppaa.treeEval
