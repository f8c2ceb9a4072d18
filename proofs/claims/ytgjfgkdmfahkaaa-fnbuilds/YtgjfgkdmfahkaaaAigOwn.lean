/- Marks that the laws set into gates that are owned, and whether they are held; conditions: numbers that fit. -/
import Derived.Test.YtgjfgkdmfahkaaaGates
import Derived.Test.YtgjfgkdmfahkaaaBuildSem
namespace Go.Proofs.Ytgjfgkdmfahkaaa.aigOwn
open Go.RowKit Go.Deep Go base trees gates buildSem
set_option linter.unusedVariables false

/-- The gates of a list, by their numbers. -/
def gf (gs : Gl) : Gs := fun i => gs[i]?.getD (0, 0)
/-- Gates that count on from n. -/
def gm (n : Int) : Gs := fun i => (n + 2 * (i : Int), n + 2 * (i : Int) + 1)
theorem GateRow.kept {W w1 : World} {a : Option Addr} {len : Nat} {g : Gs} (h : GateRow W a len g) (hk : ∀ b o, a = some ⟨b, o, none⟩ → ∀ j u, W.cell? ⟨b, o + j, none⟩ = some u → w1.cell? ⟨b, o + j, none⟩ = some u) : GateRow w1 a len g :=
  ⟨h.most, fun i hi => by
    obtain ⟨b, off, e, h0, h1⟩ := h.cell i hi
    exact ⟨b, off, e, hk b off e _ _ h0, by rw [Nat.add_assoc] at h1 ⊢; exact hk b off e _ _ h1⟩⟩
theorem own_row {B n : Nat} {w : World} {g c : Nat} {gs : Gl} (h : w.ownsRow B 63 2 (.slice (some ⟨g, 0, none⟩) n c) gs.length (flatG gs)) : gs.length = n ∧ B ≤ g ∧ ∃ L f, w.rowIs g 63 L f ∧ n * 2 ≤ L ∧ ∀ i, i < n → f (i * 2) = .int .i64 (gs[i]?.getD (0, 0)).1 ∧ f (i * 2 + 1) = .int .i64 (gs[i]?.getD (0, 0)).2 := by
  rcases h.2 with ⟨e, _⟩ | ⟨g', cap, cur, e, hb, hh, hn, hm, hs, ht⟩
  · cases e
  · injection e with e1 e2 e3
    injection e1 with e1
    injection e1 with e1
    subst e1
    subst e2
    refine ⟨rfl, hb, cur.size, fun i => cur[i]?.getD undef, ⟨cur, hh, rfl, fun i hi => ?_⟩, by rw [hs]; exact Nat.mul_le_mul_right _ hn, fun i hi => ?_⟩
    · simp [Array.getElem?_eq_getElem hi]
    · obtain ⟨f0, f1⟩ := flat_at (gs := gs) hi
      rw [← ht, List.getElem?_take, if_pos (by omega)] at f0 f1
      rw [Array.getElem?_toList] at f0 f1
      exact ⟨by simp only [f0]; rfl, by simp only [f1]; rfl⟩
theorem gates_of_own {B : Nat} {w : World} {a : Option Addr} {n c : Nat} {gs : Gl} (h : w.ownsRow B 63 2 (.slice a n c) gs.length (flatG gs)) (hm : n ≤ maxLen) : GateRow w a n (gf gs) := by
  refine ⟨hm, fun i hi => ?_⟩
  have h0 := h
  rcases h.2 with ⟨e, h1⟩ | ⟨g', cap, cur, e, _⟩
  · injection e with e1 e2 e3
    omega
  · injection e with e1 e2 e3
    subst e1
    obtain ⟨_, _, L, f, hf, hL, hc⟩ := own_row h0
    obtain ⟨c0, c1⟩ := hc i hi
    refine ⟨g', 0, rfl, ?_, ?_⟩
    · have := hf.cell (i := i * 2) (by omega)
      rw [c0] at this
      rw [Nat.zero_add]; exact this
    · have := hf.cell (i := i * 2 + 1) (by omega)
      rw [c1] at this
      rw [Nat.zero_add]; exact this

end Go.Proofs.Ytgjfgkdmfahkaaa.aigOwn
