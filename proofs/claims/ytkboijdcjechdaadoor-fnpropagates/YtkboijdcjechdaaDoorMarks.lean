/- Marks at a function's end, and what a call leaves as it was; of no program; conditions: none. -/
import Derived.RangeFuncNested
import Derived.RangeFuncBound
import Derived.RangeFuncCalls
import Derived.RangeFuncLeaves
import Derived.Test.YtkboijdcjechdaaDoorBase
namespace Go.Proofs.YtkboijdcjechdaaDoor.marks
open Go.RowKit Go.Deep Go base
set_option linter.unusedVariables false

/-- All blocks but those of X are as they were. -/
structure Ch (X : Nat → Prop) (W W' : World) : Prop where
  os : W'.os = W.os
  tape : W'.tape = W.tape
  output : W'.output = W.output
  size : W.heap.size ≤ W'.heap.size
  blk : ∀ q, q < W.heap.size → ¬ X q → W'.heap[q]? = W.heap[q]?
theorem Ch.of_grown {W W' : World} {row : Option Nat} (h : W.grownBy W' row) : Ch (fun q => some q = row) W W' := ⟨h.os, h.tape, h.output, h.size, h.block⟩
theorem Ch.refl (X : Nat → Prop) (W : World) : Ch X W W := ⟨rfl, rfl, rfl, Nat.le_refl _, fun _ _ _ => rfl⟩
theorem Ch.trans {X : Nat → Prop} {A B C : World} (h : Ch X A B) (k : Ch X B C) : Ch X A C := ⟨k.os.trans h.os, k.tape.trans h.tape, k.output.trans h.output, Nat.le_trans h.size k.size, fun q hq hx => (k.blk q (Nat.lt_of_lt_of_le hq h.size) hx).trans (h.blk q hq hx)⟩
theorem Ch.mono {X Y : Nat → Prop} {A B : World} (h : Ch X A B) (hx : ∀ q, X q → Y q) : Ch Y A B := ⟨h.os, h.tape, h.output, h.size, fun q hq hy => h.blk q hq (fun k => hy (hx q k))⟩
theorem Ch.set (W : World) (a : Addr) (v : Value) : Ch (fun q => q = a.block) W (W.setCell a v) := ⟨rfl, rfl, rfl, by simp [World.setCell], fun q _ hx => Below.heap_setCell _ _ _ _ hx⟩
theorem Ch.alloc (X : Nat → Prop) (W : World) (ob : Obj) : Ch X W (W.alloc ob) := ⟨rfl, rfl, rfl, by simp, fun q hq _ => Below.heap_alloc W ob q hq⟩
theorem Ch.below {W W' : World} (X : Nat → Prop) (h : Below W.heap.size W W') : Ch X W W' := ⟨h.os, h.tape, h.output, h.size, fun q hq _ => h.block q hq⟩
theorem Ch.grown {X : Nat → Prop} {b : Nat} {W W' : World} (h : Ch X W W') (hx : ∀ q, q < W.heap.size → X q → q = b) : W.grownBy W' (some b) := ⟨h.os, h.tape, h.output, h.size, fun j hj hne => h.blk j hj (fun k => hne (by rw [hx j hj k]))⟩

variable {W W' : World} {X : Nat → Prop}
/-- Marks that are open. -/
structure Mk (B : Nat) (Ds : List Nat) (W : World) : Prop where
  one : Ds.Nodup
  at_ : ∀ D, D ∈ Ds → B ≤ D ∧ W.heap[D]? = some (.deferred (some []))
theorem Mk.nil (B : Nat) (W : World) : Mk B [] W := ⟨List.nodup_nil, fun D h => by cases h⟩
theorem Mk.lt {B : Nat} {Ds : List Nat} (h : Mk B Ds W) {D : Nat} (hD : D ∈ Ds) : D < W.heap.size := (Array.getElem?_eq_some_iff.1 (h.at_ D hD).2).1
theorem Mk.cons {B D : Nat} {Ds : List Nat} (h : Mk B Ds W) (hD : W.heap[D]? = some (.deferred (some []))) (hB : B ≤ D) (hl : ∀ D' ∈ Ds, D' < D) : Mk B (D :: Ds) W :=
  ⟨List.nodup_cons.2 ⟨fun h1 => Nat.lt_irrefl _ (hl D h1), h.one⟩, fun D' h' => by
    rcases List.mem_cons.1 h' with e | h'
    · subst e; exact ⟨hB, hD⟩
    · exact h.at_ D' h'⟩
theorem Mk.ch {B : Nat} {Ds : List Nat} (h : Mk B Ds W) (hc : Ch X W W') (hx : ∀ D ∈ Ds, ¬ X D) : Mk B Ds W' := ⟨h.one, fun D hD => ⟨(h.at_ D hD).1, (hc.blk D (h.lt hD) (hx D hD)).trans (h.at_ D hD).2⟩⟩
theorem Mk.cells {B : Nat} {Ds : List Nat} (h : Mk B Ds W) (hc : Ch X W W') (hx : ∀ q, X q → ∃ cs t fr, W.heap[q]? = some (.cells cs t fr)) : Mk B Ds W' := h.ch hc fun D hD k => by
  obtain ⟨cs, t, fr, hh⟩ := hx D k
  rw [(h.at_ D hD).2] at hh
  cases hh

/-- What a call's end leaves: the marks are shut, all else is as it was. -/
structure Fin (Ds : List Nat) (W W' : World) : Prop extends Ch (fun q => q ∈ Ds) W W'
def markD (D : Nat) : Deferred := { target := .collected D, args := #[] }
theorem leaves_marks {P : Program} {n : Nat} {fn : Func} {tmps : Array Value} {R : Ending → World → Prop} {B : Nat} : ∀ (Ds : List Nat) (W : World), Mk B Ds W → (∀ W', Ch (fun q => q ∈ Ds) W W' → LeavesInM Fence.wide n P fn tmps R [] .returning W') → LeavesInM Fence.wide n P fn tmps R (Ds.map markD) .returning W
  | [], W, _, h => h W (Ch.refl _ _)
  | D :: Ds, W, hm, h => by
    have hD := (hm.at_ D List.mem_cons_self).2
    have hg := grownBy_putObj' W D (.deferred none)
    refine ⟨by simp, .inl ⟨D, _, rfl, run_takeDeferred hD, leaves_marks Ds _ (Mk.ch ⟨(List.nodup_cons.1 hm.one).2, fun D' h' => hm.at_ D' (List.mem_cons_of_mem _ h')⟩ (Ch.of_grown hg) (fun D' h' e => ?_)) (fun W' hc => h W' ?_)⟩⟩
    · injection e with e
      subst e
      exact (List.nodup_cons.1 hm.one).1 h'
    · refine ((Ch.of_grown hg).mono (fun q e => ?_)).trans (hc.mono (fun q hq => List.mem_cons_of_mem _ hq))
      injection e with e
      subst e
      exact List.mem_cons_self
end Go.Proofs.YtkboijdcjechdaaDoor.marks
