/- A region that draws its order, with calls that make new memory and a store into a variable of its own; operations that only reckon may come late; of no program; conditions: none. -/
import Derived.Test.YtaileckcflnbdaaDrawnSrc
namespace Go.Proofs.Ytaileckcflnbdaa.drawnMk
open Go Go.RowKit base heldStore drawn drawnLin drawnSrc
set_option linter.unusedVariables false

variable {P : Program} {ops : Array Oper} {Q : Exit → Act → World → Prop}
theorem region_mk {id : Nat} {a : Act} {w : World} (A : (Nat → Value) → Act) (s : Nat → Option Nat) (φ : Nat → Value → World → Prop) (ω : Nat → Value → Prop) (ψ : (Nat → Value) → World → Prop) (W : World) (n st : Nat) (late : Nat → Bool) (u0 : Nat → Value) (ha : a = A u0)
    (hm : P.follows .mixedOrders = true) (hz : ops.size = n) (hup : upC ops = true) (hst : st < n) (hsn : s st = none) (hwaitB : waitB ops st n late = true) (hW : Below W.heap.size W w)
    (hput : ∀ i, i < n → ∀ u v, (A u).put (s i) v = A (updO u (s i) v)) (hinj : ∀ i j, i < n → j < n → i ≠ st → s i = s j → i = j) (hsome : ∀ i, i < n → i ≠ st → s i ≠ none)
    (hω : ∀ i v w, late i = false → φ i v w → ω i v)
    (stable : ∀ i v w w', Below w.heap.size w w' → φ i v w → φ i v w')
    (hψ : ∀ i, i < n → late i = true → ∀ u v w, ψ u w → ψ (updO u (s i) v) w)
    (step : ∀ i, i < n → i ≠ st → late i = false → ∀ u w, Below W.heap.size W w → (∀ j, Region.waitsFor .any ops i j = true → late j = false → φ j (u ((s j).getD 0)) w) → ∃ o, ops[i]? = some o ∧ ∀ K' : Act → World → Prop, Shut (∀ v w', Below w.heap.size w w' → φ i v w' → K' ((A u).put (s i) v) w') → if Region.wanted o (yielded ops (A u).tmps) = true then Oper.wp P o (A u) w K' Q else K' ((A u).put o.dst undef) w)
    (stepL : ∀ i, i < n → i ≠ st → late i = true → ∀ u w, (∀ j, Region.waitsFor .any ops i j = true → j ≠ st → ω j (u ((s j).getD 0))) → ∃ o, ops[i]? = some o ∧ ∀ K' : Act → World → Prop, Shut (∀ v, ω i v → K' ((A u).put (s i) v) w) → if Region.wanted o (yielded ops (A u).tmps) = true then Oper.wp P o (A u) w K' Q else K' ((A u).put o.dst undef) w)
    (store : ∀ u w, Below W.heap.size W w → (∀ j, Region.waitsFor .any ops st j = true → late j = false → φ j (u ((s j).getD 0)) w) → ∃ o, ops[st]? = some o ∧ ∀ K' : Act → World → Prop, Shut (∀ v w', ψ u w' → K' ((A u).put none v) w') → if Region.wanted o (yielded ops (A u).tmps) = true then Oper.wp P o (A u) w K' Q else K' ((A u).put o.dst undef) w)
    (fin : ∀ u w, ψ u w → (∀ j, j < n → j ≠ st → ω j (u ((s j).getD 0))) → Q .normal (A u) w) :
    (Code.region id ops true).wp P Q a w := by
  have hwait := waitB_spec hwaitB
  subst ha
  refine wp_region_any hm ?_
  rw [hz]
  refine any_free (Inv := fun L u w8 => (L st = false → Below W.heap.size W w8 ∧ ∀ j, j < n → j ≠ st → late j = false → L j = true → φ j (u ((s j).getD 0)) w8) ∧ (L st = true → ψ u w8) ∧ (L st = true → ∀ j, Region.waitsFor .any ops st j = true → L j = true) ∧ ∀ j, j < n → j ≠ st → L j = true → ω j (u ((s j).getD 0))) hz hup hput ?_ ?_ _ _ _ _ ?_ (by simp) ?_
  · intro i hi L u w8 hLi hwt hI
    obtain ⟨h1, h2, h3, h4⟩ := hI
    have lt : ∀ j, Region.waitsFor .any ops i j = true → j < i := fun j hj => by
      obtain ⟨oj, hoj, e, he, hb, hon⟩ := Region.waitsFor_spec hj
      have h5 := upC_spec hup hoj e he hb
      rw [hon] at h5
      exact h5
    by_cases ei : i = st
    · subst ei
      obtain ⟨g1, g2⟩ := h1 hLi
      obtain ⟨o, ho, h⟩ := store u w8 g1 (fun j hj hl => g2 j (by have := lt j hj; omega) (by have := lt j hj; omega) hl (hwt j hj))
      refine ⟨o, ho, fun K' hK => h K' fun v w' hψ' => ?_⟩
      have := hK.out v w' ⟨fun hq => (by rw [come_same] at hq; cases hq), fun _ => (by rw [hsn]; exact hψ'), fun _ j hj => come_old (hwt j hj), fun j hj hne hl => (by
        rw [come_ne hne] at hl
        rw [hsn]
        exact h4 j hj hne hl)⟩
      rw [hsn] at this
      exact this
    · obtain ⟨k, hk⟩ : ∃ k, s i = some k := by
        cases hh : s i with
        | none => exact absurd hh (hsome i hi ei)
        | some k => exact ⟨k, rfl⟩
      have ne' : ∀ j, j < n → j ≠ st → j ≠ i → ((s j).getD 0) ≠ k := fun j hj hjs hji e => by
        cases hh : s j with
        | none => exact hsome j hj hjs hh
        | some k' =>
          rw [hh] at e
          have e2 : k' = k := e
          exact hji (hinj j i hj hi hjs (by rw [hh, hk, e2]))
      cases hl : late i with
      | false =>
        have hLs : L st = false := by
          cases hb : L st with
          | false => rfl
          | true => rw [h3 hb i (hwait i hi ei hl)] at hLi; cases hLi
        obtain ⟨g1, g2⟩ := h1 hLs
        obtain ⟨o, ho, h⟩ := step i hi ei hl u w8 g1 (fun j hj hlj => g2 j (by have := lt j hj; omega) (fun e => by rw [e] at hj; rw [hwt st hj] at hLs; cases hLs) hlj (hwt j hj))
        refine ⟨o, ho, fun K' hK => h K' fun v w' hc hv => hK.out v w' ⟨fun _ => ⟨g1.trans (hc.mono g1.size), fun j hj hne hlj hl' => ?_⟩, fun hq => (by rw [come_ne (Ne.symm ei), hLs] at hq; cases hq), fun hq => (by rw [come_ne (Ne.symm ei), hLs] at hq; cases hq), fun j hj hne hl' => ?_⟩⟩
        · by_cases e : j = i
          · subst e; rw [hk]; simp only [updO, Option.getD_some]; rw [upd_same]; exact hv
          · rw [come_ne e] at hl'
            rw [hk]; simp only [updO]; rw [upd_ne _ _ (ne' j hj hne e)]
            exact stable j _ _ _ hc (g2 j hj hne hlj hl')
        · by_cases e : j = i
          · subst e; rw [hk]; simp only [updO, Option.getD_some]; rw [upd_same]; exact hω j v w' hl hv
          · rw [come_ne e] at hl'
            rw [hk]; simp only [updO]; rw [upd_ne _ _ (ne' j hj hne e)]
            exact h4 j hj hne hl'
      | true =>
        obtain ⟨o, ho, h⟩ := stepL i hi ei hl u w8 (fun j hj hne => h4 j (by have := lt j hj; omega) hne (hwt j hj))
        refine ⟨o, ho, fun K' hK => h K' fun v hv => hK.out v w8 ⟨fun hq => ?_, fun hq => ?_, fun hq j hj => ?_, fun j hj hne hl' => ?_⟩⟩
        · rw [come_ne (Ne.symm ei)] at hq
          obtain ⟨g1, g2⟩ := h1 hq
          refine ⟨g1, fun j hj hne hlj hl' => ?_⟩
          have e : j ≠ i := fun e => by rw [e, hl] at hlj; cases hlj
          rw [come_ne e] at hl'
          rw [hk]; simp only [updO]; rw [upd_ne _ _ (ne' j hj hne e)]
          exact g2 j hj hne hlj hl'
        · rw [come_ne (Ne.symm ei)] at hq; exact hψ i hi hl u v w8 (h2 hq)
        · rw [come_ne (Ne.symm ei)] at hq; exact come_old (h3 hq j hj)
        · by_cases e : j = i
          · subst e; rw [hk]; simp only [updO, Option.getD_some]; rw [upd_same]; exact hv
          · rw [come_ne e] at hl'
            rw [hk]; simp only [updO]; rw [upd_ne _ _ (ne' j hj hne e)]
            exact h4 j hj hne hl'
  · intro L u w8 hall hI
    exact fin u w8 (hI.2.1 (hall st hst)) (fun j hj hne => hI.2.2.2 j hj hne (hall j hj))
  · simp [falses_replicate]
  · have : (fun j => (Array.replicate n false).getD j false) = fun _ => false := by funext j; exact getD_replicate_false _ _
    rw [this]
    exact ⟨fun _ => ⟨hW.drew, fun j _ _ _ h => (by cases h)⟩, fun h => (by cases h), fun h => (by cases h), fun j _ _ h => (by cases h)⟩
/-- A region whose operations only make new memory: one proof an operation, in whatever order. -/
theorem region_calm {id : Nat} {a : Act} {w : World} (A : (Nat → Value) → Act) (s : Nat → Nat) (φ : Nat → Value → World → Prop) (W : World) (n : Nat) (u0 : Nat → Value) (ha : a = A u0)
    (hm : P.follows .mixedOrders = true) (hz : ops.size = n) (hup : upC ops = true) (hW : Below W.heap.size W w)
    (hput : ∀ i, i < n → ∀ u v, (A u).put (some (s i)) v = A (upd u (s i) v)) (hinj : ∀ i j, i < n → j < n → s i = s j → i = j)
    (stable : ∀ i v w w', Below w.heap.size w w' → φ i v w → φ i v w')
    (step : ∀ i, i < n → ∀ u w, Below W.heap.size W w → (∀ j, Region.waitsFor .any ops i j = true → φ j (u (s j)) w) → ∃ o, ops[i]? = some o ∧ ∀ K' : Act → World → Prop, Shut (∀ v w', Below w.heap.size w w' → φ i v w' → K' ((A u).put (some (s i)) v) w') → if Region.wanted o (yielded ops (A u).tmps) = true then Oper.wp P o (A u) w K' Q else K' ((A u).put o.dst undef) w)
    (fin : ∀ u w, Below W.heap.size W w → (∀ j, j < n → φ j (u (s j)) w) → Q .normal (A u) w) :
    (Code.region id ops true).wp P Q a w := by
  subst ha
  refine wp_region_any hm ?_
  rw [hz]
  refine any_free (s := fun i => some (s i)) (Inv := fun L u w8 => Below W.heap.size W w8 ∧ ∀ j, j < n → L j = true → φ j (u (s j)) w8) hz hup hput ?_ ?_ _ _ _ _ ?_ (by simp) ?_
  · intro i hi L u w8 hLi hwt hI
    obtain ⟨h1, h4⟩ := hI
    have lt : ∀ j, Region.waitsFor .any ops i j = true → j < i := fun j hj => by
      obtain ⟨oj, hoj, e, he, hb, hon⟩ := Region.waitsFor_spec hj
      have h5 := upC_spec hup hoj e he hb
      rw [hon] at h5
      exact h5
    obtain ⟨o, ho, h⟩ := step i hi u w8 h1 (fun j hj => h4 j (by have := lt j hj; omega) (hwt j hj))
    refine ⟨o, ho, fun K' hK => h K' fun v w' hc hv => hK.out v w' ⟨h1.trans (hc.mono h1.size), fun j hj hl => ?_⟩⟩
    simp only [updO]
    by_cases e : j = i
    · subst e; rw [upd_same]; exact hv
    · rw [come_ne e] at hl
      rw [upd_ne _ _ (fun e' => e (hinj j i hj hi e'))]
      exact stable j _ _ _ hc (h4 j hj hl)
  · intro L u w8 hall hI
    exact fin u w8 hI.1 (fun j hj => hI.2 j hj (hall j hj))
  · simp [falses_replicate]
  · have : (fun j => (Array.replicate n false).getD j false) = fun _ => false := by funext j; exact getD_replicate_false _ _
    rw [this]
    exact ⟨hW.drew, fun j _ h => (by cases h)⟩
end Go.Proofs.Ytaileckcflnbdaa.drawnMk
