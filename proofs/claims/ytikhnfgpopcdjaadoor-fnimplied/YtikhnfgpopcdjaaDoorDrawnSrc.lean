/- A region that draws its order while it asks a source: one proof an operation; one of them may write some other blocks (an append); of no program; conditions: none. -/
import Derived.Test.YtikhnfgpopcdjaaDoorPart11
import Derived.Test.YtikhnfgpopcdjaaDoorPart14
namespace Go.Proofs.YtikhnfgpopcdjaaDoor.drawnLin
open Go Go.RowKit Go.Deep Go.Sort base heldStore drawn
theorem Chg.mono {X Y : Nat → Prop} {w w' : World} (h : Chg X w w') (hx : ∀ k, X k → Y k) : Chg Y w w' := ⟨h.os, h.tape, h.output, h.size, fun k hk hn => h.block k hk (fun h' => hn (hx k h'))⟩
theorem Chg.trans {X : Nat → Prop} {w w1 w2 : World} (h : Chg X w w1) (h' : Chg X w1 w2) : Chg X w w2 :=
  ⟨h'.os.trans h.os, h'.tape.trans h.tape, h'.output.trans h.output, Nat.le_trans h.size h'.size, fun k hk hn => (h'.block k (Nat.lt_of_lt_of_le hk h.size) hn).trans (h.block k hk hn)⟩
theorem Chg.cell {X : Nat → Prop} {w w' : World} (h : Chg X w w') {q o : Nat} {v : Value} (hn : ¬ X q) (hc : w.cell? ⟨q, o, none⟩ = some v) : w'.cell? ⟨q, o, none⟩ = some v :=
  (World.cell?_of_block (a := ⟨q, o, none⟩) (h.block q (World.block_lt_of_cell? _ _ hc) hn)).trans hc
theorem Chg.drew {X : Nat → Prop} {w w1 : World} (h : Chg X w w1) : Chg X w w1.drew := h.trans (Chg.of_below (Below.refl _ _).drew)
theorem Chg.drewN {X : Nat → Prop} {w w1 : World} (h : Chg X w w1) (n : Nat) : Chg X w (w1.drewN n) := h.trans (Chg.of_below (below_drewN _ _))
theorem Chg.set {X : Nat → Prop} {w w1 : World} (h : Chg X w w1) {q o : Nat} (hq : X q ∨ w.heap.size ≤ q) (v : Value) : Chg X w (w1.setCell ⟨q, o, none⟩ v) :=
  ⟨by rw [setCell_eq]; exact h.os, by rw [setCell_eq]; exact h.tape, by rw [setCell_eq]; exact h.output, Nat.le_trans h.size (by simp [World.setCell]), fun k hk hn => (Below.heap_setCell _ _ _ _ (by dsimp only; intro e; subst e; rcases hq with hq | hq; exact hn hq; omega)).trans (h.block k hk hn)⟩
end Go.Proofs.YtikhnfgpopcdjaaDoor.drawnLin
namespace Go.Proofs.YtikhnfgpopcdjaaDoor.drawnSrc
open Go Go.RowKit base heldStore drawn drawnLin source
set_option linter.unusedVariables false

variable {P : Program} {ops : Array Oper} {Q : Exit → Act → World → Prop}
/-- Operations wait for earlier ones alone, where they wait at all. -/
def upC (ops : Array Oper) : Bool := (List.range ops.size).all fun i => ((ops[i]?).map (·.after.all fun e => !Region.binds .any e || decide (e.on < i))).getD true
theorem upC_spec (h : upC ops = true) {i : Nat} {o : Oper} (ho : ops[i]? = some o) : ∀ e ∈ o.after, Region.binds .any e = true → e.on < i := by
  have hlt : i < ops.size := (Array.getElem?_eq_some_iff.1 ho).1
  have h1 := List.all_eq_true.1 h i (List.mem_range.2 hlt)
  rw [ho] at h1
  simp only [Option.map_some, Option.getD_some, Array.all_eq_true_iff_forall_mem] at h1
  intro e he hb
  have h2 := h1 e he
  rw [hb] at h2
  simpa using h2
theorem ready_neC (h : upC ops = true) {listed : Array Bool} (hs : listed.size = ops.size) : ∀ n, listed.getD n true = false → Region.ready .any ops listed ≠ [] := by
  intro n
  induction n using Nat.strongRecOn with
  | _ n ih =>
    intro hn he
    have hlt : n < ops.size := by
      rcases Nat.lt_or_ge n listed.size with h' | h'
      · omega
      · simp [Array.getElem?_eq_none h'] at hn
    by_cases hall : ∀ e ∈ (ops[n]).after, Region.binds .any e = true → listed.getD e.on false = true
    · have : n ∈ Region.ready .any ops listed := mem_ready.2 ⟨hn, ops[n], by simp [hlt], hall⟩
      rw [he] at this
      cases this
    · have hx : ∃ e ∈ (ops[n]).after, Region.binds .any e = true ∧ listed.getD e.on false = false := by
        apply Classical.byContradiction
        intro hno
        refine hall fun e he' hb' => ?_
        cases hb : listed.getD e.on false with
        | true => rfl
        | false => exact absurd ⟨e, he', hb', hb⟩ hno
      obtain ⟨e, he', hbi, hb⟩ := hx
      have hlt' := upC_spec h (i := n) (o := ops[n]) (by simp [hlt]) e he' hbi
      exact ih e.on hlt' (getD_in (by omega) hb) he
def updO (u : Nat → Value) : Option Nat → Value → Nat → Value
  | none, _ => u
  | some k, v => upd u k v
/-- A region in whatever order, with an invariant over what has come. -/
theorem any_free {A : (Nat → Value) → Act} {s : Nat → Option Nat} {Inv : (Nat → Bool) → (Nat → Value) → World → Prop} {n : Nat} (hz : ops.size = n) (hup : upC ops = true)
    (hput : ∀ i, i < n → ∀ u v, (A u).put (s i) v = A (updO u (s i) v))
    (step : ∀ i, i < n → ∀ L u w, L i = false → (∀ j, Region.waitsFor .any ops i j = true → L j = true) → Inv L u w → ∃ o, ops[i]? = some o ∧ ∀ K' : Act → World → Prop, Shut (∀ v w', Inv (come L i) (updO u (s i) v) w' → K' ((A u).put (s i) v) w') → if Region.wanted o (yielded ops (A u).tmps) = true then Oper.wp P o (A u) w K' Q else K' ((A u).put o.dst undef) w)
    (fin : ∀ L u w, (∀ j, j < n → L j = true) → Inv L u w → Q .normal (A u) w) :
    ∀ (fuel : Nat) (listed : Array Bool) (u : Nat → Value) (w : World), falses listed.toList ≤ fuel → listed.size = n → Inv (fun j => listed.getD j false) u w → wpAny P .any ops Q fuel listed (A u) w := by
  have done : ∀ (listed : Array Bool), listed.size = n → Region.ready .any ops listed = [] → ∀ j, j < n → listed.getD j false = true := fun listed hs he j hj => by
    cases hb : listed.getD j false with
    | true => rfl
    | false => exact absurd he (ready_neC hup (by rw [hs, hz]) j (getD_in (by omega) hb))
  intro fuel
  induction fuel with
  | zero =>
    intro listed u w hf hs hI
    have hall : ∀ j, j < n → listed.getD j false = true := fun j hj => by
      cases hb : listed.getD j false with
      | true => rfl
      | false => have := falses_pos _ _ (at_false (getD_in (by omega) hb)); omega
    refine ⟨?_, fin _ u w hall hI⟩
    cases hr : Region.ready .any ops listed with
    | nil => rfl
    | cons k l =>
      have hk : k ∈ Region.ready .any ops listed := by rw [hr]; exact List.mem_cons_self
      obtain ⟨h1, ok, hok, _⟩ := mem_ready.1 hk
      have hklt : k < n := by rw [← hz]; exact (Array.getElem?_eq_some_iff.1 hok).1
      have h2 := hall k hklt
      rw [getD_both h1] at h2
      cases h2
  | succ fuel ih =>
    intro listed u w hf hs hI
    refine ⟨fun h => fin _ u w (done listed hs h) hI, fun i hi => ?_⟩
    obtain ⟨hun, oi, hoi, hall⟩ := mem_ready.1 hi
    have hin : i < n := by rw [← hz]; exact (Array.getElem?_eq_some_iff.1 hoi).1
    obtain ⟨o, ho, h⟩ := step i hin (fun j => listed.getD j false) u w (getD_both hun) (fun j hj => by
      obtain ⟨oj, hoj, e, he, hb, hon⟩ := Region.waitsFor_spec hj
      have e1 : oj = oi := Option.some.inj (hoj.symm.trans hoi)
      subst e1
      have h1 := hall e he hb
      rw [hon] at h1
      exact h1) hI
    refine wpOp_step ho fun K' hK => h K' fun v w' hI' => hK _ _ ?_
    rw [hput i hin]
    refine ih _ _ _ ?_ (by simp [hs]) ?_
    · have := falses_set _ _ (at_false hun)
      simp only [Array.toList_setIfInBounds]
      omega
    · have : (fun j => (listed.setIfInBounds i true).getD j false) = come (fun j => listed.getD j false) i := by
        funext j
        unfold come
        by_cases e : j = i
        · subst e
          rw [if_pos rfl]
          have : j < listed.size := by rw [hs]; omega
          simp [this]
        · rw [if_neg e, getD_set_ne false (Ne.symm e)]
      rw [this]
      exact hI'
end Go.Proofs.YtikhnfgpopcdjaaDoor.drawnSrc
