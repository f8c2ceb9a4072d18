/- RangeNo; BackFact; Marks: one text, so that the claim has fewer files. -/
import Derived.Test.YtbahjpheaaiamaaDoorRangeTwo
import Derived.RangeFuncNested
import Derived.RangeFuncBound
import Derived.RangeFuncCalls
import Derived.RangeFuncLeaves
import Derived.Shelf.Abstract
import Derived.Shelf.RegionOpen
import Derived.WalkKit
import Derived.OwnWalkIn
import Derived.TacticsInMore
import Derived.LoopNIn
import Derived.LoopIn
import Derived.Test.YtbahjpheaaiamaaDoorPart1
/- A range over a function that may be left early, over an iterator that writes nothing; of no program; conditions: what the body leaves as it was. -/
namespace Go.Proofs.YtbahjpheaaiamaaDoor.rangeNo
open Go.RowKit Go.Shelf Go rangeAt rangeTwo
set_option linter.unusedVariables false

/-- What an iterator does that writes nothing: it hands out items (At), asks that a round keeps Kp, and stops where yield says so. -/
def SeqNo {α : Type} (P : Program) (g : Nat) (lb : Array Value) (encs : α → Array Value) (At : List α → α → Prop) (Kp : World → World → Prop) (S : List α → Prop) (Start : World → Prop) : Prop :=
  ∀ (l : Nat) (J : List α → World → Prop) (Jx : World → Prop) (W : World), Start W →
    (∀ pre x W1, J pre W1 → At pre x → YieldAt Fence.wide 9 P l (encs x) W1 fun e W' => (e = .returned (.bool true) ∧ J (pre ++ [x]) W' ∧ Kp W1 W') ∨ (e = .returned (.bool false) ∧ Jx W')) →
    J [] W →
    CallsIn Fence.wide 9 P g (#[.func (.yield l) #[] #[]] ++ lb) W fun e W' => (∃ v, e = .returned v) ∧ ((∃ xs, S xs ∧ J xs W') ∨ Jx W')

section law
variable {α : Type} {P : Program} {ps : Array Tmp} {assign body : Code} {gf : Nat} {lb : Array Value} {encs : α → Array Value} {At : List α → α → Prop} {Kp : World → World → Prop} {S : List α → Prop} {Start : World → Prop}

end law
end Go.Proofs.YtbahjpheaaiamaaDoor.rangeNo

/- slices.Backward of rows of two-cell elements (facts): an iterator that hands a row's elements out from the last to the first; conditions: the loop's body leaves the row as it is. -/
namespace Go.Proofs.YtbahjpheaaiamaaDoor.backFact
open Go.RowKit Go.Deep Go.Shelf Go base rangeAt rangeTwo rangeNo
set_option linter.unusedVariables false
attribute [local go_sem] Oper.semAt_some

/-- A row of two-cell elements. -/
structure Row2 (W : World) (a : Option Addr) (len : Nat) (zs : List (Int × Int)) : Prop where
  length : zs.length = len
  most : len ≤ maxLen
  cell : ∀ i, i < len → ∃ b off, a = some ⟨b, off, none⟩ ∧ W.cell? ⟨b, off + i * 2, none⟩ = some (.int .i64 (zs[i]?.getD (0, 0)).1) ∧ W.cell? ⟨b, off + i * 2 + 1, none⟩ = some (.int .i64 (zs[i]?.getD (0, 0)).2)
theorem Row2.below {W W' : World} {a : Option Addr} {len : Nat} {zs : List (Int × Int)} (h : Row2 W a len zs) (hb : Below W.heap.size W W') : Row2 W' a len zs := ⟨h.length, h.most, fun i hi => by
  obtain ⟨b, off, e, h1, h2⟩ := h.cell i hi
  exact ⟨b, off, e, keep hb h1, keep hb h2⟩⟩
theorem Row2.same {W W' : World} {a : Option Addr} {len : Nat} {zs : List (Int × Int)} (h : Row2 W a len zs) (hb : ∀ b off, a = some ⟨b, off, none⟩ → W'.heap[b]? = W.heap[b]?) : Row2 W' a len zs := ⟨h.length, h.most, fun i hi => by
  obtain ⟨b, off, e, h1, h2⟩ := h.cell i hi
  exact ⟨b, off, e, (World.cell?_of_block (a := ⟨b, off + i * 2, none⟩) (hb b off e)).trans h1, (World.cell?_of_block (a := ⟨b, off + i * 2 + 1, none⟩) (hb b off e)).trans h2⟩⟩
/-- What has come when k rounds are over. -/
def upto {α : Type} (f : Nat → α) (k : Nat) : List α := (List.range k).map f
theorem upto_succ {α : Type} (f : Nat → α) (k : Nat) : upto f (k + 1) = upto f k ++ [f k] := by simp [upto, List.range_succ]
theorem upto_length {α : Type} (f : Nat → α) (k : Nat) : (upto f k).length = k := by simp [upto]
/-- What an iterator reads: the box of the slice, and the row. -/
def Held (Bs : Nat) (a : Option Addr) (len cap : Nat) (zs : List (Int × Int)) (W : World) : Prop := W.cell? ⟨Bs, 0, none⟩ = some (.slice a len cap) ∧ Row2 W a len zs

set_option maxRecDepth 100000 in
set_option maxHeartbeats 2000000 in
theorem back_no {α : Type} (encs : α → Array Value) (f : Nat → α) (Bs len cap : Nat) (a : Option Addr) (zs : List (Int × Int)) (he : ∀ k : Nat, k < len → encs (f k) = #[.int .i64 ((len : Int) - 1 - k), .agg #[.int .i64 (zs[len - 1 - k]?.getD (0, 0)).1, .int .i64 (zs[len - 1 - k]?.getD (0, 0)).2]]) :
    SeqNo Tryd.prog 75 #[.pointer (some ⟨Bs, 0, none⟩)] encs (fun pre x => ∃ k, k < len ∧ pre = upto f k ∧ x = f k) (fun A B => Held Bs a len cap zs A → Held Bs a len cap zs B) (fun xs => xs = upto f len) (Held Bs a len cap zs) := by
  intro l J Jx W hG hY h0
  have hmost := hG.2.most
  unfold maxLen at hmost
  have HG := hid hG
  have hBs := hG.1
  have HE := hid he
  clear hG he
  refine callsIn_of_wp Tryd.func75 rfl trivial ?_ rfl
  simp only [Tryd.ntmps75, List.size_toArray, List.length_cons, List.length_nil, Nat.reduceAdd, Nat.reduceSub, Array.replicate_succ, Array.replicate_zero, List.push_toArray, List.append_toArray, List.nil_append, List.cons_append]
  gi_wp2
  clear hBs
  gi_loopw [3] (fun i wr => ∃ k : Nat, k ≤ len ∧ i = .int .i64 ((len : Int) - 1 - k) ∧ J (upto f k) wr ∧ Held Bs a len cap zs wr)
    (fun i _ => ((intOf i) + 1).toNat)
  case atStart => exact ⟨0, Nat.zero_le _, by simp, h0, HG.out⟩
  case round =>
    obtain ⟨k, hk, rfl, hJs, hc, hr⟩ := hrel
    have HR := hid hr
    have HC := hid hc
    clear hr
    by_cases hlt : k < len
    · obtain ⟨fn, tmps, assign, body, hy, hR⟩ := yield_any (m' := 8) (hY _ (f k) wr hJs ⟨k, hlt, rfl, rfl⟩)
      rw [HE.out k hlt] at hy
      obtain ⟨b, off, ha, hcx, hcy⟩ := HR.out.cell (len - 1 - k) (by omega)
      obtain ⟨t, ht⟩ : ∃ t : Nat, (len : Int) - 1 - k = (t : Int) := ⟨len - 1 - k, by omega⟩
      have ht2 : len - 1 - k = t := by omega
      rw [ht2] at hy hcx hcy
      rw [ht] at hy ⊢
      have HT := hid ht
      have htl : (t : Int) < (len : Int) := by omega
      have hg0 : decide ((0 : Int) ≤ (t : Int)) = true := decide_eq_true (by omega)
      clear ht ht2
      subst ha
      gi_wp2
      refine hR.mono ?_
      rintro e W3 (⟨rfl, hJ3, hk3⟩ | ⟨rfl, hJx3⟩)
      · have HG3 := hid (hk3 ⟨HC.out, HR.out⟩)
        gi_wp2
        go_roundw
        case rel => exact ⟨k + 1, by omega, by rw [show (len : Int) - 1 - (k + 1 : Nat) = (t : Int) - 1 by have := HT.out; omega], by rw [upto_succ]; exact hJ3, HG3.out⟩
        case measure => simp [intOf]
      · gi_wp2
        refine bodyPost_ret (results_none rfl _ _ _) rfl ?_
        exact ⟨⟨_, rfl⟩, .inr hJx3⟩
    · obtain rfl : k = len := by omega
      have hg0 : decide ((0 : Int) ≤ (k : Int) - 1 - k) = false := decide_eq_false (by omega)
      rw [show (k : Int) - 1 - k = -1 by omega]
      gi_wp2
      go_end0
      exact ⟨⟨_, rfl⟩, .inl ⟨_, rfl, hJs⟩⟩

theorem back_two {α : Type} (encs : α → Array Value) (f : Nat → α) (Bs len cap : Nat) (a : Option Addr) (zs : List (Int × Int)) (he : ∀ k : Nat, k < len → encs (f k) = #[.int .i64 ((len : Int) - 1 - k), .agg #[.int .i64 (zs[len - 1 - k]?.getD (0, 0)).1, .int .i64 (zs[len - 1 - k]?.getD (0, 0)).2]]) :
    SeqTwo Tryd.prog 75 #[.pointer (some ⟨Bs, 0, none⟩)] encs (fun pre x _ => ∃ k, k < len ∧ pre = upto f k ∧ x = f k) (fun _ A B => Held Bs a len cap zs A → Held Bs a len cap zs B) (fun _ => False) (fun xs => xs = upto f len) (Held Bs a len cap zs) (fun _ => True) :=
  fun l J Jx W hG _ _ hY h0 => (back_no encs f Bs len cap a zs he l J Jx W hG (fun pre x W1 h1 h2 => by
    obtain ⟨f1, t1, a1, b1, h3, h4⟩ := hY pre x W1 h1 h2
    exact ⟨f1, t1, a1, b1, h3, h4.mono fun e W' h5 => h5.elim .inl (fun h6 => .inr ⟨h6.1, h6.2.1⟩)⟩) h0).mono fun e W' h => ⟨h.1, h.2.elim (fun ⟨xs, h1, h2⟩ => .inl ⟨xs, h1, h2, trivial⟩) .inr⟩
theorem back_impl (a : Option Addr) (len cap : Nat) (w : World) :
    Calls Tryd.prog 68 #[.slice a len cap] w fun e w' => e = .returned (.func (.func 75) #[] #[.pointer (some ⟨w.heap.size, 0, none⟩)]) ∧ w' = w.alloc (.cells #[.slice a len cap] 66) := by
  go_enter Tryd.func68, Tryd.ntmps68
  go_wp2
  go_ret
  exact ⟨rfl, rfl⟩
end Go.Proofs.YtbahjpheaaiamaaDoor.backFact

/- Marks at a function's end, and what a call leaves as it was; of no program; conditions: none. -/
namespace Go.Proofs.YtbahjpheaaiamaaDoor.marks
open Go.RowKit Go.Deep Go base
set_option linter.unusedVariables false

/-- All blocks but those of X are as they were. -/
structure Ch (X : Nat → Prop) (W W' : World) : Prop where
  os : W'.os = W.os
  tape : W'.tape = W.tape
  output : W'.output = W.output
  size : W.heap.size ≤ W'.heap.size
  blk : ∀ q, q < W.heap.size → ¬ X q → W'.heap[q]? = W.heap[q]?
theorem Ch.of_grown {W W' : World} {row : Option Nat} (h : W.grownBy W' row) : Ch (fun q => some q = row) W W' := ⟨h.os, h.tape, h.output, h.size, h.block⟩
theorem Ch.refl (X : Nat → Prop) (W : World) : Ch X W W := ⟨rfl, rfl, rfl, Nat.le_refl _, fun _ _ _ => rfl⟩
theorem Ch.trans {X : Nat → Prop} {A B C : World} (h : Ch X A B) (k : Ch X B C) : Ch X A C := ⟨k.os.trans h.os, k.tape.trans h.tape, k.output.trans h.output, Nat.le_trans h.size k.size, fun q hq hx => (k.blk q (Nat.lt_of_lt_of_le hq h.size) hx).trans (h.blk q hq hx)⟩
theorem Ch.mono {X Y : Nat → Prop} {A B : World} (h : Ch X A B) (hx : ∀ q, X q → Y q) : Ch Y A B := ⟨h.os, h.tape, h.output, h.size, fun q hq hy => h.blk q hq (fun k => hy (hx q k))⟩
theorem Ch.set (W : World) (a : Addr) (v : Value) : Ch (fun q => q = a.block) W (W.setCell a v) := ⟨rfl, rfl, rfl, by simp [World.setCell], fun q _ hx => Below.heap_setCell _ _ _ _ hx⟩
theorem Ch.alloc (X : Nat → Prop) (W : World) (ob : Obj) : Ch X W (W.alloc ob) := ⟨rfl, rfl, rfl, by simp, fun q hq _ => Below.heap_alloc W ob q hq⟩
theorem Ch.below {W W' : World} (X : Nat → Prop) (h : Below W.heap.size W W') : Ch X W W' := ⟨h.os, h.tape, h.output, h.size, fun q hq _ => h.block q hq⟩
theorem Ch.grown {X : Nat → Prop} {b : Nat} {W W' : World} (h : Ch X W W') (hx : ∀ q, q < W.heap.size → X q → q = b) : W.grownBy W' (some b) := ⟨h.os, h.tape, h.output, h.size, fun j hj hne => h.blk j hj (fun k => hne (by rw [hx j hj k]))⟩

variable {W W' : World} {X : Nat → Prop}
/-- Marks that are open. -/
structure Mk (B : Nat) (Ds : List Nat) (W : World) : Prop where
  one : Ds.Nodup
  at_ : ∀ D, D ∈ Ds → B ≤ D ∧ W.heap[D]? = some (.deferred (some []))
theorem Mk.nil (B : Nat) (W : World) : Mk B [] W := ⟨List.nodup_nil, fun D h => by cases h⟩
theorem Mk.lt {B : Nat} {Ds : List Nat} (h : Mk B Ds W) {D : Nat} (hD : D ∈ Ds) : D < W.heap.size := (Array.getElem?_eq_some_iff.1 (h.at_ D hD).2).1
theorem Mk.cons {B D : Nat} {Ds : List Nat} (h : Mk B Ds W) (hD : W.heap[D]? = some (.deferred (some []))) (hB : B ≤ D) (hl : ∀ D' ∈ Ds, D' < D) : Mk B (D :: Ds) W :=
  ⟨List.nodup_cons.2 ⟨fun h1 => Nat.lt_irrefl _ (hl D h1), h.one⟩, fun D' h' => by
    rcases List.mem_cons.1 h' with e | h'
    · subst e; exact ⟨hB, hD⟩
    · exact h.at_ D' h'⟩
theorem Mk.ch {B : Nat} {Ds : List Nat} (h : Mk B Ds W) (hc : Ch X W W') (hx : ∀ D ∈ Ds, ¬ X D) : Mk B Ds W' := ⟨h.one, fun D hD => ⟨(h.at_ D hD).1, (hc.blk D (h.lt hD) (hx D hD)).trans (h.at_ D hD).2⟩⟩
theorem Mk.cells {B : Nat} {Ds : List Nat} (h : Mk B Ds W) (hc : Ch X W W') (hx : ∀ q, X q → ∃ cs t fr, W.heap[q]? = some (.cells cs t fr)) : Mk B Ds W' := h.ch hc fun D hD k => by
  obtain ⟨cs, t, fr, hh⟩ := hx D k
  rw [(h.at_ D hD).2] at hh
  cases hh

/-- What a call's end leaves: the marks are shut, all else is as it was. -/
structure Fin (Ds : List Nat) (W W' : World) : Prop extends Ch (fun q => q ∈ Ds) W W'
def markD (D : Nat) : Deferred := { target := .collected D, args := #[] }
theorem leaves_marks {P : Program} {n : Nat} {fn : Func} {tmps : Array Value} {R : Ending → World → Prop} {B : Nat} : ∀ (Ds : List Nat) (W : World), Mk B Ds W → (∀ W', Ch (fun q => q ∈ Ds) W W' → LeavesInM Fence.wide n P fn tmps R [] .returning W') → LeavesInM Fence.wide n P fn tmps R (Ds.map markD) .returning W
  | [], W, _, h => h W (Ch.refl _ _)
  | D :: Ds, W, hm, h => by
    have hD := (hm.at_ D List.mem_cons_self).2
    have hg := grownBy_putObj' W D (.deferred none)
    refine ⟨by simp, .inl ⟨D, _, rfl, run_takeDeferred hD, leaves_marks Ds _ (Mk.ch ⟨(List.nodup_cons.1 hm.one).2, fun D' h' => hm.at_ D' (List.mem_cons_of_mem _ h')⟩ (Ch.of_grown hg) (fun D' h' e => ?_)) (fun W' hc => h W' ?_)⟩⟩
    · injection e with e
      subst e
      exact (List.nodup_cons.1 hm.one).1 h'
    · refine ((Ch.of_grown hg).mono (fun q e => ?_)).trans (hc.mono (fun q hq => List.mem_cons_of_mem _ hq))
      injection e with e
      subst e
      exact List.mem_cons_self
end Go.Proofs.YtbahjpheaaiamaaDoor.marks
