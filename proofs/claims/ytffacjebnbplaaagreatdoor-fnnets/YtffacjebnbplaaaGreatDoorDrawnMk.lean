/- A region that draws its order, with calls that make new memory and a store into a variable of its own; operations that only reckon may come late; of no program; conditions: none. -/
import Derived.Test.YtffacjebnbplaaaGreatDoorDrawnSrc
namespace Go.Proofs.YtffacjebnbplaaaGreatDoor.drawnMk
open Go Go.RowKit base heldStore drawn drawnLin drawnSrc
set_option linter.unusedVariables false

variable {P : Program} {ops : Array Oper} {Q : Exit → Act → World → Prop}
/-- A region whose operations only make new memory: one proof an operation, in whatever order. -/
theorem region_calm {id : Nat} {a : Act} {w : World} (A : (Nat → Value) → Act) (s : Nat → Nat) (φ : Nat → Value → World → Prop) (W : World) (n : Nat) (u0 : Nat → Value) (ha : a = A u0)
    (hm : P.follows .mixedOrders = true) (hz : ops.size = n) (hup : upC ops = true) (hW : Below W.heap.size W w)
    (hput : ∀ i, i < n → ∀ u v, (A u).put (some (s i)) v = A (upd u (s i) v)) (hinj : ∀ i j, i < n → j < n → s i = s j → i = j)
    (stable : ∀ i v w w', Below w.heap.size w w' → φ i v w → φ i v w')
    (step : ∀ i, i < n → ∀ u w, Below W.heap.size W w → (∀ j, Region.waitsFor .any ops i j = true → φ j (u (s j)) w) → ∃ o, ops[i]? = some o ∧ ∀ K' : Act → World → Prop, Shut (∀ v w', Below w.heap.size w w' → φ i v w' → K' ((A u).put (some (s i)) v) w') → if Region.wanted o (yielded ops (A u).tmps) = true then Oper.wp P o (A u) w K' Q else K' ((A u).put o.dst undef) w)
    (fin : ∀ u w, Below W.heap.size W w → (∀ j, j < n → φ j (u (s j)) w) → Q .normal (A u) w) :
    (Code.region id ops true).wp P Q a w := by
  subst ha
  refine wp_region_any hm ?_
  rw [hz]
  refine any_free (s := fun i => some (s i)) (Inv := fun L u w8 => Below W.heap.size W w8 ∧ ∀ j, j < n → L j = true → φ j (u (s j)) w8) hz hup hput ?_ ?_ _ _ _ _ ?_ (by simp) ?_
  · intro i hi L u w8 hLi hwt hI
    obtain ⟨h1, h4⟩ := hI
    have lt : ∀ j, Region.waitsFor .any ops i j = true → j < i := fun j hj => by
      obtain ⟨oj, hoj, e, he, hb, hon⟩ := Region.waitsFor_spec hj
      have h5 := upC_spec hup hoj e he hb
      rw [hon] at h5
      exact h5
    obtain ⟨o, ho, h⟩ := step i hi u w8 h1 (fun j hj => h4 j (by have := lt j hj; omega) (hwt j hj))
    refine ⟨o, ho, fun K' hK => h K' fun v w' hc hv => hK.out v w' ⟨h1.trans (hc.mono h1.size), fun j hj hl => ?_⟩⟩
    simp only [updO]
    by_cases e : j = i
    · subst e; rw [upd_same]; exact hv
    · rw [come_ne e] at hl
      rw [upd_ne _ _ (fun e' => e (hinj j i hj hi e'))]
      exact stable j _ _ _ hc (h4 j hj hl)
  · intro L u w8 hall hI
    exact fin u w8 hI.1 (fun j hj => hI.2 j hj (hall j hj))
  · simp [falses_replicate]
  · have : (fun j => (Array.replicate n false).getD j false) = fun _ => false := by funext j; exact getD_replicate_false _ _
    rw [this]
    exact ⟨hW.drew, fun j _ h => (by cases h)⟩
end Go.Proofs.YtffacjebnbplaaaGreatDoor.drawnMk
