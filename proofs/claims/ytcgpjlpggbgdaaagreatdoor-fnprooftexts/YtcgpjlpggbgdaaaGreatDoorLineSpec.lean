/- A line of a proof's text, of the specification (l03Line); conditions: lengths that fit. -/
import Derived.Test.YtcgpjlpggbgdaaaGreatDoorReadSem
import Derived.BigRegion
namespace Go.Proofs.YtcgpjlpggbgdaaaGreatDoor.lineSpec
open Go.RowKit Go.Deep base numbers words cuts stepRead readSem
set_option linter.unusedVariables false

theorem results_cell_two {fn : Func} {p u v : Tmp} {ty : TypeId} (h : fn.results = #[.cell p ty, .tmp u, .tmp v]) (tmps : Array Value) (P : Program) (w : World) :
    (results fn tmps).run P w =
      ((asAddr (tmps.getD p undef)).run P w).andThen fun a w₁ => ((loadVar ty a).run P w₁).andThen fun x w₂ => .ok (.tuple #[x, tmps.getD u undef, tmps.getD v undef]) w₂ := by
  simp only [results, h]
  simp [Sem.run_bind, Result.andThen]
theorem own_set {B n X : Nat} {w w1 : World} {v : Value} {t u : TypeId} {s : Nat} {xs : List Value} {cs : Array Value} {fz : Nat × Nat} (h : w.ownsRow B t s v n xs) (hX : w.heap[X]? = some (.cells cs u fz)) (hu : u ≠ t) (hb : ∀ g, g < w.heap.size → g ≠ X → w1.heap[g]? = w.heap[g]?) : w1.ownsRow B t s v n xs := by
  obtain ⟨h1, h2⟩ := h
  refine ⟨h1, ?_⟩
  rcases h2 with h2 | ⟨g, cap, cur, e, hg, hh, hn⟩
  · exact .inl h2
  · refine .inr ⟨g, cap, cur, e, hg, ?_, hn⟩
    rw [hb g (Array.getElem?_eq_some_iff.1 hh).1 (fun e9 => by
      subst e9
      rw [hX] at hh
      simp only [Option.some.injEq, Obj.cells.injEq] at hh
      exact hu hh.2.1)]
    exact hh
def inS (n low high : Int) : Bool := decide (low ≤ n ∧ n ≤ high)
set_option maxHeartbeats 400000 in
theorem in_spec (n low high : Int) (w : World) :
    Calls Tryz.prog 48 #[.int .i64 n, .int .i64 low, .int .i64 high] w fun e w' => e = .returned (.bool (inS n low high)) ∧ w' = w := by
  go_enter Tryz.func48, Tryz.ntmps48
  go_wp2
  all_goals
    go_ret
    refine ⟨ret_bool ?_, rfl⟩
    rw [Bool.eq_iff_iff]; simp [inS, *]; try omega
theorem grow_x {B X n c : Nat} {wr w1 w2 : World} {p : Option Addr} {d : Bool} {v2 : Value} {xs ys : List Value} {t u : TypeId} (hw1 : Below wr.heap.size wr w1) (hown : wr.ownsRow B t 1 (.slice p n c) n ys) (hX : wr.heap[X]? = some (.cells #[.bool d, .slice p n c] u (0, 0))) (hu : u ≠ t)
    (hg2 : w1.grownBy w2 (Value.slice p n c).ownBlock) (hown2 : w2.ownsRow B t 1 v2 (n + 1) xs) :
    ∃ g2 c2, v2 = .slice (some ⟨g2, 0, none⟩) (n + 1) c2 ∧ w2.heap[X]? = some (.cells #[.bool d, .slice p n c] u (0, 0)) ∧ (w2.cell? ⟨X, 1, none⟩ = some (.slice p n c) ∧ w2.frozen? ⟨X, 1, none⟩ = false) := by
  have hXl := (Array.getElem?_eq_some_iff.1 hX).1
  have hne : some X ≠ (Value.slice p n c).ownBlock := fun e9 => by
    rcases hown.2 with ⟨e, _⟩ | ⟨g, cap, cur, e, hg, hh, hn⟩
    · rw [e] at e9; cases e9
    · rw [e] at e9
      injection e9 with e9
      subst e9
      rw [hX] at hh
      simp only [Option.some.injEq, Obj.cells.injEq] at hh
      exact hu hh.2.1
  have hk : w2.heap[X]? = some (.cells #[.bool d, .slice p n c] u (0, 0)) := by
    rw [hg2.block X (Nat.lt_of_lt_of_le hXl hw1.size) hne, hw1.block X hXl]
    exact hX
  obtain ⟨g2, c2, rfl⟩ : ∃ g2 c2, v2 = .slice (some ⟨g2, 0, none⟩) (n + 1) c2 := by
    rcases hown2.2 with ⟨_, h0⟩ | ⟨g, cp, cur, hv, _⟩
    · omega
    · exact ⟨g, cp, hv⟩
  exact ⟨g2, c2, rfl, hk, by rw [Lib.cell_of_heap hk]; rfl, Lib.frozen_of_heap hk 1⟩
/-- What the specification answers of a line. -/
def AnsS (B : Nat) (d : Bool) (R : Except (Int × Int) (List Int)) (e : Ending) (w' : World) : Prop :=
  match R with
  | .error (c, q) => ∃ d' p n cp, e = .returned (.tuple #[.agg #[.bool d', .slice p n cp], .int .i64 c, .int .i64 q])
  | .ok zs => ∃ p cp, e = .returned (.tuple #[.agg #[.bool d, .slice p zs.length cp], .int .i64 0, .int .i64 0]) ∧ w'.ownsRow B 3 1 (.slice p zs.length cp) zs.length (zs.map (Value.int .i64))
end Go.Proofs.YtcgpjlpggbgdaaaGreatDoor.lineSpec
