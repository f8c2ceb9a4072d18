/- DrawnSrc; DrawnMk: one text, so that the claim has fewer files. -/
import Derived.Test.YtjdcndkgodpnlaaDoorPart10
import Derived.Test.YtjdcndkgodpnlaaDoorPart13
/- A region that draws its order while it asks a source: one proof an operation; one of them may write some other blocks (an append); of no program; conditions: none. -/
namespace Go.Proofs.YtjdcndkgodpnlaaDoor.drawnLin
open Go Go.RowKit Go.Deep Go.Sort base heldStore drawn
theorem Chg.mono {X Y : Nat → Prop} {w w' : World} (h : Chg X w w') (hx : ∀ k, X k → Y k) : Chg Y w w' := ⟨h.os, h.tape, h.output, h.size, fun k hk hn => h.block k hk (fun h' => hn (hx k h'))⟩
theorem Chg.trans {X : Nat → Prop} {w w1 w2 : World} (h : Chg X w w1) (h' : Chg X w1 w2) : Chg X w w2 :=
  ⟨h'.os.trans h.os, h'.tape.trans h.tape, h'.output.trans h.output, Nat.le_trans h.size h'.size, fun k hk hn => (h'.block k (Nat.lt_of_lt_of_le hk h.size) hn).trans (h.block k hk hn)⟩
theorem Chg.cell {X : Nat → Prop} {w w' : World} (h : Chg X w w') {q o : Nat} {v : Value} (hn : ¬ X q) (hc : w.cell? ⟨q, o, none⟩ = some v) : w'.cell? ⟨q, o, none⟩ = some v :=
  (World.cell?_of_block (a := ⟨q, o, none⟩) (h.block q (World.block_lt_of_cell? _ _ hc) hn)).trans hc
theorem Chg.drew {X : Nat → Prop} {w w1 : World} (h : Chg X w w1) : Chg X w w1.drew := h.trans (Chg.of_below (Below.refl _ _).drew)
theorem Chg.drewN {X : Nat → Prop} {w w1 : World} (h : Chg X w w1) (n : Nat) : Chg X w (w1.drewN n) := h.trans (Chg.of_below (below_drewN _ _))
theorem Chg.set {X : Nat → Prop} {w w1 : World} (h : Chg X w w1) {q o : Nat} (hq : X q ∨ w.heap.size ≤ q) (v : Value) : Chg X w (w1.setCell ⟨q, o, none⟩ v) :=
  ⟨by rw [setCell_eq]; exact h.os, by rw [setCell_eq]; exact h.tape, by rw [setCell_eq]; exact h.output, Nat.le_trans h.size (by simp [World.setCell]), fun k hk hn => (Below.heap_setCell _ _ _ _ (by dsimp only; intro e; subst e; rcases hq with hq | hq; exact hn hq; omega)).trans (h.block k hk hn)⟩
end Go.Proofs.YtjdcndkgodpnlaaDoor.drawnLin
namespace Go.Proofs.YtjdcndkgodpnlaaDoor.drawnSrc
open Go Go.RowKit base heldStore drawn drawnLin source
set_option linter.unusedVariables false

variable {P : Program} {ops : Array Oper} {Q : Exit → Act → World → Prop}
/-- How many of the first n have come. -/
def cnt (L : Nat → Bool) : Nat → Nat
  | 0 => 0
  | n + 1 => cnt L n + (if L n = true then 1 else 0)
theorem cnt_le (L : Nat → Bool) : ∀ n, cnt L n ≤ n
  | 0 => Nat.le_refl _
  | n + 1 => by
    have := cnt_le L n
    simp only [cnt]
    split <;> omega
/-- Operations wait for earlier ones alone, where they wait at all. -/
def upC (ops : Array Oper) : Bool := (List.range ops.size).all fun i => ((ops[i]?).map (·.after.all fun e => !Region.binds .any e || decide (e.on < i))).getD true
theorem upC_spec (h : upC ops = true) {i : Nat} {o : Oper} (ho : ops[i]? = some o) : ∀ e ∈ o.after, Region.binds .any e = true → e.on < i := by
  have hlt : i < ops.size := (Array.getElem?_eq_some_iff.1 ho).1
  have h1 := List.all_eq_true.1 h i (List.mem_range.2 hlt)
  rw [ho] at h1
  simp only [Option.map_some, Option.getD_some, Array.all_eq_true_iff_forall_mem] at h1
  intro e he hb
  have h2 := h1 e he
  rw [hb] at h2
  simpa using h2
theorem ready_neC (h : upC ops = true) {listed : Array Bool} (hs : listed.size = ops.size) : ∀ n, listed.getD n true = false → Region.ready .any ops listed ≠ [] := by
  intro n
  induction n using Nat.strongRecOn with
  | _ n ih =>
    intro hn he
    have hlt : n < ops.size := by
      rcases Nat.lt_or_ge n listed.size with h' | h'
      · omega
      · simp [Array.getElem?_eq_none h'] at hn
    by_cases hall : ∀ e ∈ (ops[n]).after, Region.binds .any e = true → listed.getD e.on false = true
    · have : n ∈ Region.ready .any ops listed := mem_ready.2 ⟨hn, ops[n], by simp [hlt], hall⟩
      rw [he] at this
      cases this
    · have hx : ∃ e ∈ (ops[n]).after, Region.binds .any e = true ∧ listed.getD e.on false = false := by
        apply Classical.byContradiction
        intro hno
        refine hall fun e he' hb' => ?_
        cases hb : listed.getD e.on false with
        | true => rfl
        | false => exact absurd ⟨e, he', hb', hb⟩ hno
      obtain ⟨e, he', hbi, hb⟩ := hx
      have hlt' := upC_spec h (i := n) (o := ops[n]) (by simp [hlt]) e he' hbi
      exact ih e.on hlt' (getD_in (by omega) hb) he
def updO (u : Nat → Value) : Option Nat → Value → Nat → Value
  | none, _ => u
  | some k, v => upd u k v
/-- A region in whatever order, with an invariant over what has come. -/
theorem any_free {A : (Nat → Value) → Act} {s : Nat → Option Nat} {Inv : (Nat → Bool) → (Nat → Value) → World → Prop} {n : Nat} (hz : ops.size = n) (hup : upC ops = true)
    (hput : ∀ i, i < n → ∀ u v, (A u).put (s i) v = A (updO u (s i) v))
    (step : ∀ i, i < n → ∀ L u w, L i = false → (∀ j, Region.waitsFor .any ops i j = true → L j = true) → Inv L u w → ∃ o, ops[i]? = some o ∧ ∀ K' : Act → World → Prop, Shut (∀ v w', Inv (come L i) (updO u (s i) v) w' → K' ((A u).put (s i) v) w') → if Region.wanted o (yielded ops (A u).tmps) = true then Oper.wp P o (A u) w K' Q else K' ((A u).put o.dst undef) w)
    (fin : ∀ L u w, (∀ j, j < n → L j = true) → Inv L u w → Q .normal (A u) w) :
    ∀ (fuel : Nat) (listed : Array Bool) (u : Nat → Value) (w : World), falses listed.toList ≤ fuel → listed.size = n → Inv (fun j => listed.getD j false) u w → wpAny P .any ops Q fuel listed (A u) w := by
  have done : ∀ (listed : Array Bool), listed.size = n → Region.ready .any ops listed = [] → ∀ j, j < n → listed.getD j false = true := fun listed hs he j hj => by
    cases hb : listed.getD j false with
    | true => rfl
    | false => exact absurd he (ready_neC hup (by rw [hs, hz]) j (getD_in (by omega) hb))
  intro fuel
  induction fuel with
  | zero =>
    intro listed u w hf hs hI
    have hall : ∀ j, j < n → listed.getD j false = true := fun j hj => by
      cases hb : listed.getD j false with
      | true => rfl
      | false => have := falses_pos _ _ (at_false (getD_in (by omega) hb)); omega
    refine ⟨?_, fin _ u w hall hI⟩
    cases hr : Region.ready .any ops listed with
    | nil => rfl
    | cons k l =>
      have hk : k ∈ Region.ready .any ops listed := by rw [hr]; exact List.mem_cons_self
      obtain ⟨h1, ok, hok, _⟩ := mem_ready.1 hk
      have hklt : k < n := by rw [← hz]; exact (Array.getElem?_eq_some_iff.1 hok).1
      have h2 := hall k hklt
      rw [getD_both h1] at h2
      cases h2
  | succ fuel ih =>
    intro listed u w hf hs hI
    refine ⟨fun h => fin _ u w (done listed hs h) hI, fun i hi => ?_⟩
    obtain ⟨hun, oi, hoi, hall⟩ := mem_ready.1 hi
    have hin : i < n := by rw [← hz]; exact (Array.getElem?_eq_some_iff.1 hoi).1
    obtain ⟨o, ho, h⟩ := step i hin (fun j => listed.getD j false) u w (getD_both hun) (fun j hj => by
      obtain ⟨oj, hoj, e, he, hb, hon⟩ := Region.waitsFor_spec hj
      have e1 : oj = oi := Option.some.inj (hoj.symm.trans hoi)
      subst e1
      have h1 := hall e he hb
      rw [hon] at h1
      exact h1) hI
    refine wpOp_step ho fun K' hK => h K' fun v w' hI' => hK _ _ ?_
    rw [hput i hin]
    refine ih _ _ _ ?_ (by simp [hs]) ?_
    · have := falses_set _ _ (at_false hun)
      simp only [Array.toList_setIfInBounds]
      omega
    · have : (fun j => (listed.setIfInBounds i true).getD j false) = come (fun j => listed.getD j false) i := by
        funext j
        unfold come
        by_cases e : j = i
        · subst e
          rw [if_pos rfl]
          have : j < listed.size := by rw [hs]; omega
          simp [this]
        · rw [if_neg e, getD_set_ne false (Ne.symm e)]
      rw [this]
      exact hI'
end Go.Proofs.YtjdcndkgodpnlaaDoor.drawnSrc

/- A region that draws its order, with calls that make new memory and a store into a variable of its own; operations that only reckon may come late; of no program; conditions: none. -/
namespace Go.Proofs.YtjdcndkgodpnlaaDoor.drawnMk
open Go Go.RowKit base heldStore drawn drawnLin drawnSrc
set_option linter.unusedVariables false

variable {P : Program} {ops : Array Oper} {Q : Exit → Act → World → Prop}
/-- A region whose operations only make new memory: one proof an operation, in whatever order. -/
theorem region_calm {id : Nat} {a : Act} {w : World} (A : (Nat → Value) → Act) (s : Nat → Nat) (φ : Nat → Value → World → Prop) (W : World) (n : Nat) (u0 : Nat → Value) (ha : a = A u0)
    (hm : P.follows .mixedOrders = true) (hz : ops.size = n) (hup : upC ops = true) (hW : Below W.heap.size W w)
    (hput : ∀ i, i < n → ∀ u v, (A u).put (some (s i)) v = A (upd u (s i) v)) (hinj : ∀ i j, i < n → j < n → s i = s j → i = j)
    (stable : ∀ i v w w', Below w.heap.size w w' → φ i v w → φ i v w')
    (step : ∀ i, i < n → ∀ u w, Below W.heap.size W w → (∀ j, Region.waitsFor .any ops i j = true → φ j (u (s j)) w) → ∃ o, ops[i]? = some o ∧ ∀ K' : Act → World → Prop, Shut (∀ v w', Below w.heap.size w w' → φ i v w' → K' ((A u).put (some (s i)) v) w') → if Region.wanted o (yielded ops (A u).tmps) = true then Oper.wp P o (A u) w K' Q else K' ((A u).put o.dst undef) w)
    (fin : ∀ u w, Below W.heap.size W w → (∀ j, j < n → φ j (u (s j)) w) → Q .normal (A u) w) :
    (Code.region id ops true).wp P Q a w := by
  subst ha
  refine wp_region_any hm ?_
  rw [hz]
  refine any_free (s := fun i => some (s i)) (Inv := fun L u w8 => Below W.heap.size W w8 ∧ ∀ j, j < n → L j = true → φ j (u (s j)) w8) hz hup hput ?_ ?_ _ _ _ _ ?_ (by simp) ?_
  · intro i hi L u w8 hLi hwt hI
    obtain ⟨h1, h4⟩ := hI
    have lt : ∀ j, Region.waitsFor .any ops i j = true → j < i := fun j hj => by
      obtain ⟨oj, hoj, e, he, hb, hon⟩ := Region.waitsFor_spec hj
      have h5 := upC_spec hup hoj e he hb
      rw [hon] at h5
      exact h5
    obtain ⟨o, ho, h⟩ := step i hi u w8 h1 (fun j hj => h4 j (by have := lt j hj; omega) (hwt j hj))
    refine ⟨o, ho, fun K' hK => h K' fun v w' hc hv => hK.out v w' ⟨h1.trans (hc.mono h1.size), fun j hj hl => ?_⟩⟩
    simp only [updO]
    by_cases e : j = i
    · subst e; rw [upd_same]; exact hv
    · rw [come_ne e] at hl
      rw [upd_ne _ _ (fun e' => e (hinj j i hj hi e'))]
      exact stable j _ _ _ hc (h4 j hj hl)
  · intro L u w8 hall hI
    exact fin u w8 hI.1 (fun j hj => hI.2 j hj (hall j hj))
  · simp [falses_replicate]
  · have : (fun j => (Array.replicate n false).getD j false) = fun _ => false := by funext j; exact getD_replicate_false _ _
    rw [this]
    exact ⟨hW.drew, fun j _ h => (by cases h)⟩
end Go.Proofs.YtjdcndkgodpnlaaDoor.drawnMk
