/- A range over a function that may be left early, over an iterator that writes memory of its own; of no program; conditions: what the body and the iterator each leave as it was. -/
import Derived.Test.YtbahjpheaaiamaaDoorPart20
namespace Go.Proofs.YtbahjpheaaiamaaDoor.rangeTwo
open Go.RowKit Go.Shelf Go rangeAt
set_option linter.unusedVariables false

/-- All is as it was but what X names. -/
structure Df (X : Nat → Prop) (A A' : World) : Prop where
  os : A'.os = A.os
  tape : A'.tape = A.tape
  output : A'.output = A.output
  size : A.heap.size ≤ A'.heap.size
  blk : ∀ q, q < A.heap.size → ¬ X q → A'.heap[q]? = A.heap[q]?
theorem Df.refl (X : Nat → Prop) (A : World) : Df X A A := ⟨rfl, rfl, rfl, Nat.le_refl _, fun _ _ _ => rfl⟩
theorem Df.trans {X : Nat → Prop} {A B C : World} (h : Df X A B) (k : Df X B C) : Df X A C :=
  ⟨k.os.trans h.os, k.tape.trans h.tape, k.output.trans h.output, Nat.le_trans h.size k.size, fun q hq hx => (k.blk q (Nat.lt_of_lt_of_le hq h.size) hx).trans (h.blk q hq hx)⟩
theorem Df.mono {X Y : Nat → Prop} {A B : World} (h : Df X A B) (hxy : ∀ q, q < A.heap.size → X q → Y q) : Df Y A B := ⟨h.os, h.tape, h.output, h.size, fun q hq hy => h.blk q hq (fun hx => hy (hxy q hq hx))⟩
theorem Df.put (W : World) (l : Nat) (o : Obj) : Df (fun q => q = l) W (W.putObj l o) :=
  ⟨rfl, rfl, rfl, by simp [World.putObj], fun q _ hx => World.putObj_heap_other hx⟩
theorem Df.of_grown {A B : World} {r : Nat} (h : A.grownBy B (some r)) : Df (fun q => q = r) A B := ⟨h.os, h.tape, h.output, h.size, fun q hq hx => h.block q hq (fun e => hx (by injection e))⟩
theorem Df.of_below {A B : World} (h : Below A.heap.size A B) : Df (fun _ => False) A B := ⟨h.os, h.tape, h.output, h.size, fun q hq _ => h.block q hq⟩
theorem Df.alloc (W : World) (o : Obj) : Df (fun _ => False) W (W.alloc o) := Df.of_below (Below.alloc (Below.refl _ _) (Nat.le_refl _) o)
theorem Df.keeps {X : Nat → Prop} {A B : World} {q : Nat} {o : Obj} (h : Df X A B) (hq : A.heap[q]? = some o) (hx : ¬ X q) : B.heap[q]? = some o := (h.blk q (Array.getElem?_eq_some_iff.1 hq).1 hx).trans hq
theorem Df.cell {X : Nat → Prop} {A B : World} {q o : Nat} {v : Value} (h : Df X A B) (hc : A.cell? ⟨q, o, none⟩ = some v) (hx : ¬ X q) : B.cell? ⟨q, o, none⟩ = some v :=
  (World.cell?_of_block (a := ⟨q, o, none⟩) (h.blk q (World.block_lt_of_cell? _ _ hc) hx)).trans hc

/-- What an iterator's own lists are: ints and bools, or no cells at all. -/
def Soft (A : World) (q : Nat) : Prop := ∀ (cs : Array Value) (t : TypeId) (fr : Nat × Nat), A.heap[q]? = some (Obj.cells cs t fr) → t = 3 ∨ t = 4
theorem soft_of {A : World} {q : Nat} {o : Obj} (h : A.heap[q]? = some o) (ho : o.isCells = false) : Soft A q := fun cs t fr h9 => by
  rw [h] at h9
  injection h9 with h9
  subst h9
  cases ho
def NoC (A : World) (q : Nat) : Prop := ∀ (cs : Array Value) (t : TypeId) (fr : Nat × Nat), A.heap[q]? ≠ some (Obj.cells cs t fr)
theorem noc_of {A : World} {q : Nat} {o : Obj} (h : A.heap[q]? = some o) (ho : o.isCells = false) : NoC A q := fun cs t fr h9 => by
  rw [h] at h9
  injection h9 with h9
  subst h9
  cases ho
/-- What an iterator does: it hands out items that lie in memory (At), writes what X names and what it laid itself, asks that a round keeps Kp, and stops where yield says so. -/
def SeqTwo {α : Type} (P : Program) (g : Nat) (lb : Array Value) (encs : α → Array Value) (At : List α → α → World → Prop) (Kp : Nat → World → World → Prop) (X : Nat → Prop) (S : List α → Prop) (Start End : World → Prop) : Prop :=
  ∀ (l : Nat) (J : List α → World → Prop) (Jx : World → Prop) (W : World), Start W →
    (∀ s A B, Df (fun q => X q ∨ (W.heap.size ≤ q ∧ Soft A q)) A B → J s A → J s B) → (∀ A B, Df (fun q => False ∨ (W.heap.size ≤ q ∧ NoC A q)) A B → Jx A → Jx B) →
    (∀ pre x W1, J pre W1 → At pre x W1 → YieldAt Fence.wide 9 P l (encs x) W1 fun e W' => (e = .returned (.bool true) ∧ J (pre ++ [x]) W' ∧ Kp W.heap.size W1 W') ∨ (e = .returned (.bool false) ∧ Jx W' ∧ Kp W.heap.size W1 W')) →
    J [] W →
    CallsIn Fence.wide 9 P g (#[.func (.yield l) #[] #[]] ++ lb) W fun e W' => (∃ v, e = .returned v) ∧ ((∃ xs, S xs ∧ J xs W' ∧ End W') ∨ Jx W')

/-- How a body may be left. -/
def goesTo {α : Type} (l : Nat) (Kp : World → World → Prop) (I : List α → World → Prop) (Ix : Code → World → Prop) (xs : List α) (W : World) : Exit → Act → World → Prop
  | .normal, _, W' => W'.heap[l]? = W.heap[l]? ∧ Kp W W' ∧ I xs W'
  | .ret, _, W' => W'.heap[l]? = W.heap[l]? ∧ Kp W W' ∧ Ix .ret W'
  | .exit id, _, W' => W'.heap[l]? = W.heap[l]? ∧ Kp W W' ∧ Ix (.exit id) W'
  | .goto t, _, W' => W'.heap[l]? = W.heap[l]? ∧ Kp W W' ∧ Ix (.goto t) W'
  | _, _, _ => False

section law
variable {α : Type} {P : Program} {ps : Array Tmp} {assign body : Code} {gf : Nat} {lb : Array Value} {encs : α → Array Value} {At : List α → α → World → Prop} {Kp : Nat → World → World → Prop} {X : Nat → Prop} {S : List α → Prop} {Start End : World → Prop}

theorem range_core (hseq : SeqTwo P gf lb encs At Kp X S Start End) (l : Nat) (W1 : World) (rec : LoopState → Option Code → Loop) (fn : FuncId) (tmps : Array Value) (dd : Nat)
    (hrec : ∀ st pe, rec st pe = { state := st, pending := pe, fn, tmps, params := ps, assign, body, defers := dd })
    (hl : W1.heap[l]? = some (.loop (rec .ready none))) (hXl : ¬ X l) (hstart : Start W1)
    (hKt : ∀ {A B C : World}, Kp W1.heap.size A B → Kp W1.heap.size B C → Kp W1.heap.size A C) (hKb : ∀ (W : World) (o o' : Obj), W.heap[l]? = some o → o.isCells = false → Kp W1.heap.size W (W.putObj l o'))
    (hps : ∀ x, (encs x).size = ps.size)
    (I : List α → World → Prop) (Ix : Code → World → Prop) (hI : ∀ s A B, Df (fun q => X q ∨ (W1.heap.size ≤ q ∧ Soft A q)) A B → I s A → I s B) (hIx : ∀ c A B, Df (fun q => False ∨ (W1.heap.size ≤ q ∧ NoC A q)) A B → Ix c A → Ix c B)
    (hI2 : ∀ s A B, (∃ r, A.heap[l]? = some (.loop r)) → Df (fun q => q = l) A B → I s A → I s B) (hIx2 : ∀ c A B, (∃ r, A.heap[l]? = some (.loop r)) → Df (fun q => q = l) A B → Ix c A → Ix c B)
    (hAt : ∀ pre x A B, (∃ r, A.heap[l]? = some (.loop r)) → Df (fun q => q = l) A B → At pre x A → At pre x B) (h0 : I [] W1) (Ax : α → Act → World → Prop) (hAx : ∀ x a A B, Df (fun q => q = l) A B → Ax x a A → Ax x a B)
    (hKd : ∀ A B, Df (fun _ => False) A B → Kp W1.heap.size A B)
    (hassign : ∀ (x : α) (W : World) (K : Act → World → Prop), l < W.heap.size → (∀ a W', Df (fun _ => False) W W' → Ax x a W' → K a W') → assign.wpIn (Fence.wide.inRound l) 9 P (Exit.then K (fun _ _ _ => False)) { tmps := (ps.zip (encs x)).foldl (fun t (p, v) => t.setIfInBounds p v) tmps, defers := [] } W)
    (hbody : ∀ (pre : List α) (x : α) (a : Act) (W : World), I pre W → At pre x W → Ax x a W → W.heap[l]? = some (.loop (rec .busy none)) → body.wpIn (Fence.wide.inRound l) 9 P (goesTo l (Kp W1.heap.size) I Ix (pre ++ [x]) W) a W) :
    CallsIn Fence.wide 9 P gf (#[.func (.yield l) #[] #[]] ++ lb) W1 fun e W' => (∃ v, e = .returned v) ∧
      ((∃ xs, S xs ∧ (I xs W' ∧ W'.heap[l]? = some (.loop (rec .ready none))) ∧ End W') ∨ (∃ c, Ix c W' ∧ W'.heap[l]? = some (.loop (rec .done (some c))))) := by
  have hlt1 : l < W1.heap.size := (Array.getElem?_eq_some_iff.1 hl).1
  refine hseq l (fun pre W => I pre W ∧ W.heap[l]? = some (.loop (rec .ready none))) (fun W => ∃ c, Ix c W ∧ W.heap[l]? = some (.loop (rec .done (some c)))) W1 hstart ?_ ?_ ?_ ⟨h0, hl⟩
  · rintro s A B hd ⟨hi, hk⟩
    exact ⟨hI s A B hd hi, hd.keeps hk (fun h => h.elim hXl fun h => by omega)⟩
  · rintro A B hd ⟨c, hi, hk⟩
    exact ⟨c, hIx c A B hd hi, hd.keeps hk (fun h => h.elim id fun h => by omega)⟩
  · rintro pre x W ⟨hi, hk⟩ hat
    have hlt0 : l < W.heap.size := (Array.getElem?_eq_some_iff.1 hk).1
    have hy := run_yield (P := P) (args := encs x) hk (by rw [hrec]; exact hps x)
    have e1 : (rec .ready none).fn = fn := by rw [hrec]
    have e2 : (rec .ready none).params = ps := by rw [hrec]
    have e3 : (rec .ready none).tmps = tmps := by rw [hrec]
    have e4 : (rec .ready none).assign = assign := by rw [hrec]
    have e5 : (rec .ready none).body = body := by rw [hrec]
    rw [e1, e2, e3, e4, e5] at hy
    refine ⟨fn, _, assign, body, hy, ?_⟩
    refine roundIn_of_wpIn trivial (hassign x W _ hlt0 (fun a1 Wa hda hax => ?_))
    have hka := hda.keeps hk (fun h => h)
    have hlt : l < Wa.heap.size := (Array.getElem?_eq_some_iff.1 hka).1
    obtain ⟨Wb, hWb⟩ : ∃ Wb, Wa.putObj l (.loop { rec .ready none with state := .busy }) = Wb := ⟨_, rfl⟩
    have hdb : Df (fun q => q = l) Wa Wb := by rw [← hWb]; exact Df.put _ _ _
    have hdw : Df (fun q => q = l) W Wb := (hda.mono (fun _ _ h => h.elim)).trans hdb
    have hl2 : Wb.heap[l]? = some (.loop (rec .busy none)) := by
      rw [← hWb, World.putObj_heap_same hlt]
      simp [hrec]
    have hw2 : Kp W1.heap.size W Wb := hKt (hKd _ _ hda) (by rw [← hWb]; exact hKb _ _ _ hka rfl)
    refine ⟨Wb, by rw [← hWb]; exact run_beginRound hka (by rw [hrec]), wpIn_mono (hbody pre x a1 Wb (hI2 _ _ _ ⟨_, hk⟩ hdw hi) (hAt _ _ _ _ ⟨_, hk⟩ hdw hat) (hAx _ _ _ _ hdb hax) hl2) ?_⟩
    have fin : ∀ (jump : Option Code) (W3 : World), W3.heap[l]? = Wb.heap[l]? → (Instr.endRound l jump).run P W3 = .ok (.bool jump.isNone) (W3.putObj l (.loop (rec (if jump.isNone then .ready else .done) jump))) ∧ W3.heap[l]? = some (.loop (rec .busy none)) ∧ (W3.putObj l (.loop (rec (if jump.isNone then .ready else .done) jump))).heap[l]? = some (.loop (rec (if jump.isNone then .ready else .done) jump)) := fun jump W3 h3 => by
      have hl3 := h3.trans hl2
      have h9 := run_endRound (P := P) jump hl3
      refine ⟨?_, hl3, World.putObj_heap_same (Array.getElem?_eq_some_iff.1 hl3).1⟩
      rw [h9]
      simp [hrec]
    rintro e a3 W3 hp
    have leave : ∀ c : Code, W3.heap[l]? = Wb.heap[l]? → Kp W1.heap.size Wb W3 → Ix c W3 → ∃ v w', (Instr.endRound l (some c)).run P W3 = .ok v w' ∧ ((Ending.returned v = .returned (.bool true) ∧ (I (pre ++ [x]) w' ∧ w'.heap[l]? = some (.loop (rec .ready none))) ∧ Kp W1.heap.size W w') ∨ (Ending.returned v = .returned (.bool false) ∧ (∃ c, Ix c w' ∧ w'.heap[l]? = some (.loop (rec .done (some c)))) ∧ Kp W1.heap.size W w')) := fun c hk3 hkp3 hi3 => by
      obtain ⟨hr, hl3, hl4⟩ := fin (some c) W3 hk3
      exact ⟨_, _, hr, .inr ⟨rfl, ⟨c, hIx2 c _ _ ⟨_, hl3⟩ (Df.put _ _ _) hi3, hl4⟩, hKt (hKt hw2 hkp3) (hKb _ _ _ hl3 rfl)⟩⟩
    cases e with
    | normal =>
      obtain ⟨hk3, hkp3, hi3⟩ := hp
      obtain ⟨hr, hl3, hl4⟩ := fin none W3 hk3
      exact ⟨_, _, hr, .inl ⟨rfl, ⟨hI2 _ _ _ ⟨_, hl3⟩ (Df.put _ _ _) hi3, hl4⟩, hKt (hKt hw2 hkp3) (hKb _ _ _ hl3 rfl)⟩⟩
    | ret => exact leave .ret hp.1 hp.2.1 hp.2.2
    | exit id => exact leave (.exit id) hp.1 hp.2.1 hp.2.2
    | goto t => exact leave (.goto t) hp.1 hp.2.1 hp.2.2
    | panic ch => exact hp.elim
    | outgrown => exact hp.elim

/-- An outermost loop. -/
theorem range_out {n : Nat} {gop : Operand} {Q : Exit → Act → World → Prop} {a : Act} {w : World} (hseq : SeqTwo P gf lb encs At Kp X S Start End)
    (hg : a.eval gop = .func (.func gf) #[] lb) (eg : ∀ args w, (callFunc gf args).run P w = .ok (.enter gf args) w)
    (hX : ∀ q, X q → q < w.heap.size) (hstart : ∀ r : Loop, Start ((w.alloc (.deferred (some []))).alloc (.loop r)))
    (hKt : ∀ {A B C : World}, Kp (w.heap.size + 1 + 1) A B → Kp (w.heap.size + 1 + 1) B C → Kp (w.heap.size + 1 + 1) A C) (hKb : ∀ (W : World) (o o' : Obj), W.heap[w.heap.size + 1]? = some o → o.isCells = false → Kp (w.heap.size + 1 + 1) W (W.putObj (w.heap.size + 1) o'))
    (hps : ∀ x, (encs x).size = ps.size)
    (I : List α → World → Prop) (Ix : Code → World → Prop) (hI : ∀ s A B, Df (fun q => X q ∨ (w.heap.size ≤ q ∧ Soft A q)) A B → I s A → I s B) (hIx : ∀ c A B, Df (fun q => False ∨ (w.heap.size ≤ q ∧ NoC A q)) A B → Ix c A → Ix c B)
    (hAt : ∀ pre x A B, (∃ r, A.heap[w.heap.size + 1]? = some (.loop r)) → Df (fun q => q = w.heap.size + 1) A B → At pre x A → At pre x B) (hEnd : ∀ A B, (∃ r, A.heap[w.heap.size + 1]? = some (.loop r)) → Df (fun q => q = w.heap.size + 1) A B → End A → End B) (h0 : I [] w) (Ax : α → Act → World → Prop) (hAx : ∀ x a A B, Df (fun q => q = w.heap.size + 1) A B → Ax x a A → Ax x a B)
    (hKd : ∀ A B, Df (fun _ => False) A B → Kp (w.heap.size + 1 + 1) A B)
    (hassign : ∀ (x : α) (W : World) (K : Act → World → Prop), w.heap.size + 1 < W.heap.size → (∀ a W', Df (fun _ => False) W W' → Ax x a W' → K a W') → assign.wpIn (Fence.wide.inRound (w.heap.size + 1)) 9 P (Exit.then K (fun _ _ _ => False)) { tmps := (ps.zip (encs x)).foldl (fun t (p, v) => t.setIfInBounds p v) a.tmps, defers := [] } W)
    (hbody : ∀ (pre : List α) (x : α) (a : Act) (W : World), I pre W → At pre x W → Ax x a W → W.heap[w.heap.size]? = some (.deferred (some [])) → (∃ r, W.heap[w.heap.size + 1]? = some (.loop r)) → body.wpIn (Fence.wide.inRound (w.heap.size + 1)) 9 P (goesTo (w.heap.size + 1) (fun A B => B.heap[w.heap.size]? = A.heap[w.heap.size]? ∧ Kp (w.heap.size + 1 + 1) A B) I Ix (pre ++ [x]) W) a W)
    (hdone : ∀ (xs : List α) (W : World), S xs → I xs W → End W → W.heap[w.heap.size]? = some (.deferred (some [])) → Q .normal { a with defers := { target := .collected w.heap.size, args := #[] } :: a.defers } W)
    (hstop : ∀ (c : Code) (W : World), Ix c W → W.heap[w.heap.size]? = some (.deferred (some [])) → c.wpIn Fence.wide n P Q { a with defers := { target := .collected w.heap.size, args := #[] } :: a.defers } W) :
    (Code.rangeFunc gop ps assign body).wpIn Fence.wide n P Q a w := by
  refine wpIn_rangeFunc fun fn hfn => ?_
  obtain ⟨rec, hrec⟩ : ∃ rec : LoopState → Option Code → Loop, ∀ st pe, rec st pe = { state := st, pending := pe, fn, tmps := a.tmps, params := ps, assign, body, defers := w.heap.size } := ⟨fun st pe => _, fun _ _ => rfl⟩
  obtain ⟨W1, hW1⟩ : ∃ W1, (w.alloc (.deferred (some []))).alloc (.loop (rec .ready none)) = W1 := ⟨_, rfl⟩
  have hz : W1.heap.size = w.heap.size + 1 + 1 := by rw [← hW1]; simp
  have hL : W1.heap[w.heap.size + 1]? = some (.loop (rec .ready none)) := by
    rw [← hW1]
    have := World.alloc_heap_new (w.alloc (.deferred (some []))) (.loop (rec .ready none))
    rwa [World.size_alloc] at this
  have hD : W1.heap[w.heap.size]? = some (.deferred (some [])) := by
    rw [← hW1]
    exact (Below.heap_alloc _ _ _ (by simp)).trans (World.alloc_heap_new w _)
  have hd1 : Df (fun q => X q ∨ (w.heap.size ≤ q ∧ Soft w q)) w W1 := by
    rw [← hW1]
    exact (((Df.alloc _ _).mono (fun _ _ h => h.elim)).trans ((Df.alloc _ _).mono (fun _ _ h => h.elim)))
  refine ⟨w.heap.size + 1, [{ target := .collected w.heap.size, args := #[] }], W1, { target := .fn (.func gf) lb, args := #[.func (.yield (w.heap.size + 1)) #[] #[]] }, W1, gf, #[.func (.yield (w.heap.size + 1)) #[] #[]] ++ lb, W1, ?_, ?_, fun _ _ => trivial, ?_, fun e => (by cases e), ?_⟩
  · rw [← hW1, hrec]
    exact run_enterLoop_outer _ _ _ _ _
  · simp only [resolve, hg]
    simp [go_sem]
  · simp [invoke, go_sem, eg]
  · have hc := range_core (assign := assign) (body := body) (ps := ps) hseq (w.heap.size + 1) W1 rec fn a.tmps w.heap.size hrec hL (fun h => by have := hX _ h; omega) (by rw [← hW1]; exact hstart _)
      (by rw [hz]; exact hKt) (by rw [hz]; exact hKb) hps (fun s W => I s W ∧ W.heap[w.heap.size]? = some (.deferred (some []))) (fun c W => Ix c W ∧ W.heap[w.heap.size]? = some (.deferred (some [])))
      (fun s A B hd hs => ⟨hI _ _ _ (hd.mono fun q _ h => h.elim .inl fun h => .inr ⟨by rw [hz] at h; omega, h.2⟩) hs.1, hd.keeps hs.2 (fun h => h.elim (fun h => by have := hX _ h; omega) fun h => by rw [hz] at h; omega)⟩)
      (fun c A B hd hs => ⟨hIx _ _ _ (hd.mono fun q _ h => h.elim .inl fun h => .inr ⟨by rw [hz] at h; omega, h.2⟩) hs.1, hd.keeps hs.2 (fun h => h.elim id fun h => by rw [hz] at h; omega)⟩)
      (fun s A B hr hd hs => ⟨hI _ _ _ (hd.mono fun q _ h => by obtain ⟨r, hr⟩ := hr; subst h; exact .inr ⟨by omega, soft_of hr rfl⟩) hs.1, hd.keeps hs.2 (by omega)⟩)
      (fun c A B hr hd hs => ⟨hIx _ _ _ (hd.mono fun q _ h => by obtain ⟨r, hr⟩ := hr; subst h; exact .inr ⟨by omega, noc_of hr rfl⟩) hs.1, hd.keeps hs.2 (by omega)⟩)
      hAt ⟨hI _ _ _ hd1 h0, hD⟩ Ax hAx (by rw [hz]; exact hKd) hassign (fun pre x a1 W hi hat hax hr => ?_)
    · refine calls_any (hc.mono ?_)
      rintro e W2 ⟨⟨v, rfl⟩, h | ⟨c, ⟨hi, hk⟩, hl⟩⟩
      · obtain ⟨xs, hS, ⟨⟨hi, hk⟩, hl⟩, he⟩ := h
        have hd : Df (fun q => q = w.heap.size + 1) W2 (W2.putObj (w.heap.size + 1) (.loop { rec .ready none with state := .exhausted })) := Df.put _ _ _
        refine ⟨none, _, ?_, hdone xs _ hS (hI _ _ _ (hd.mono fun q _ h => by subst h; exact .inr ⟨by omega, soft_of hl rfl⟩) hi) (hEnd _ _ ⟨_, hl⟩ hd he) ((World.putObj_heap_other (by omega)).trans hk)⟩
        have := run_endLoop (P := P) hl (by rw [hrec]; simp)
        rw [this, hrec]
      · have hd : Df (fun q => q = w.heap.size + 1) W2 (W2.putObj (w.heap.size + 1) (.loop { rec .done (some c) with state := .exhausted })) := Df.put _ _ _
        refine ⟨some c, _, ?_, hstop c _ (hIx _ _ _ (hd.mono fun q _ h => by subst h; exact .inr ⟨by omega, noc_of hl rfl⟩) hi) ((World.putObj_heap_other (by omega)).trans hk)⟩
        have := run_endLoop (P := P) hl (by rw [hrec]; simp)
        rw [this, hrec]
    · refine wpIn_mono (hbody pre x a1 W hi.1 hat hax hi.2 ⟨_, hr⟩) ?_
      rintro e a3 W3 hp
      rw [hz]
      cases e with
      | normal => exact ⟨hp.1, hp.2.1.2, hp.2.2, hp.2.1.1.trans hi.2⟩
      | ret => exact ⟨hp.1, hp.2.1.2, hp.2.2, hp.2.1.1.trans hi.2⟩
      | exit id => exact ⟨hp.1, hp.2.1.2, hp.2.2, hp.2.1.1.trans hi.2⟩
      | goto t => exact ⟨hp.1, hp.2.1.2, hp.2.2, hp.2.1.1.trans hi.2⟩
      | panic ch => exact hp.elim
      | outgrown => exact hp.elim

end law
end Go.Proofs.YtbahjpheaaiamaaDoor.rangeTwo
