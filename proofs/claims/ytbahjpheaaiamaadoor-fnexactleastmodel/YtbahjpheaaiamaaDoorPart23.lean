/- BackFact; Marks; SolLastT: one text, so that the claim has fewer files. -/
import Derived.RangeFuncNested
import Derived.RangeFuncBound
import Derived.RangeFuncCalls
import Derived.RangeFuncLeaves
import Derived.Shelf.Abstract
import Derived.Shelf.RegionOpen
import Derived.WalkKit
import Derived.OwnWalkIn
import Derived.TacticsInMore
import Derived.LoopNIn
import Derived.LoopIn
import Derived.Test.YtbahjpheaaiamaaDoorPart1
import Derived.Test.YtbahjpheaaiamaaDoorPart22
import Derived.Test.YtbahjpheaaiamaaDoorSolMem
import Derived.Test.YtbahjpheaaiamaaDoorSolTrail
/- slices.Backward of rows of two-cell elements (facts): an iterator that hands a row's elements out from the last to the first; conditions: the loop's body leaves the row as it is. -/
namespace Go.Proofs.YtbahjpheaaiamaaDoor.backFact
open Go.RowKit Go.Deep Go.Shelf Go base rangeAt rangeTwo rangeNo
set_option linter.unusedVariables false
attribute [local go_sem] Oper.semAt_some

/-- A row of two-cell elements. -/
structure Row2 (W : World) (a : Option Addr) (len : Nat) (zs : List (Int × Int)) : Prop where
  length : zs.length = len
  most : len ≤ maxLen
  cell : ∀ i, i < len → ∃ b off, a = some ⟨b, off, none⟩ ∧ W.cell? ⟨b, off + i * 2, none⟩ = some (.int .i64 (zs[i]?.getD (0, 0)).1) ∧ W.cell? ⟨b, off + i * 2 + 1, none⟩ = some (.int .i64 (zs[i]?.getD (0, 0)).2)
theorem Row2.below {W W' : World} {a : Option Addr} {len : Nat} {zs : List (Int × Int)} (h : Row2 W a len zs) (hb : Below W.heap.size W W') : Row2 W' a len zs := ⟨h.length, h.most, fun i hi => by
  obtain ⟨b, off, e, h1, h2⟩ := h.cell i hi
  exact ⟨b, off, e, keep hb h1, keep hb h2⟩⟩
theorem Row2.same {W W' : World} {a : Option Addr} {len : Nat} {zs : List (Int × Int)} (h : Row2 W a len zs) (hb : ∀ b off, a = some ⟨b, off, none⟩ → W'.heap[b]? = W.heap[b]?) : Row2 W' a len zs := ⟨h.length, h.most, fun i hi => by
  obtain ⟨b, off, e, h1, h2⟩ := h.cell i hi
  exact ⟨b, off, e, (World.cell?_of_block (a := ⟨b, off + i * 2, none⟩) (hb b off e)).trans h1, (World.cell?_of_block (a := ⟨b, off + i * 2 + 1, none⟩) (hb b off e)).trans h2⟩⟩
/-- What has come when k rounds are over. -/
def upto {α : Type} (f : Nat → α) (k : Nat) : List α := (List.range k).map f
theorem upto_succ {α : Type} (f : Nat → α) (k : Nat) : upto f (k + 1) = upto f k ++ [f k] := by simp [upto, List.range_succ]
theorem upto_length {α : Type} (f : Nat → α) (k : Nat) : (upto f k).length = k := by simp [upto]
/-- What an iterator reads: the box of the slice, and the row. -/
def Held (Bs : Nat) (a : Option Addr) (len cap : Nat) (zs : List (Int × Int)) (W : World) : Prop := W.cell? ⟨Bs, 0, none⟩ = some (.slice a len cap) ∧ Row2 W a len zs

set_option maxRecDepth 100000 in
set_option maxHeartbeats 2000000 in
theorem back_no {α : Type} (encs : α → Array Value) (f : Nat → α) (Bs len cap : Nat) (a : Option Addr) (zs : List (Int × Int)) (he : ∀ k : Nat, k < len → encs (f k) = #[.int .i64 ((len : Int) - 1 - k), .agg #[.int .i64 (zs[len - 1 - k]?.getD (0, 0)).1, .int .i64 (zs[len - 1 - k]?.getD (0, 0)).2]]) :
    SeqNo Tryd.prog 75 #[.pointer (some ⟨Bs, 0, none⟩)] encs (fun pre x => ∃ k, k < len ∧ pre = upto f k ∧ x = f k) (fun A B => Held Bs a len cap zs A → Held Bs a len cap zs B) (fun xs => xs = upto f len) (Held Bs a len cap zs) := by
  intro l J Jx W hG hY h0
  have hmost := hG.2.most
  unfold maxLen at hmost
  have HG := hid hG
  have hBs := hG.1
  have HE := hid he
  clear hG he
  refine callsIn_of_wp Tryd.func75 rfl trivial ?_ rfl
  simp only [Tryd.ntmps75, List.size_toArray, List.length_cons, List.length_nil, Nat.reduceAdd, Nat.reduceSub, Array.replicate_succ, Array.replicate_zero, List.push_toArray, List.append_toArray, List.nil_append, List.cons_append]
  gi_wp2
  clear hBs
  gi_loopw [3] (fun i wr => ∃ k : Nat, k ≤ len ∧ i = .int .i64 ((len : Int) - 1 - k) ∧ J (upto f k) wr ∧ Held Bs a len cap zs wr)
    (fun i _ => ((intOf i) + 1).toNat)
  case atStart => exact ⟨0, Nat.zero_le _, by simp, h0, HG.out⟩
  case round =>
    obtain ⟨k, hk, rfl, hJs, hc, hr⟩ := hrel
    have HR := hid hr
    have HC := hid hc
    clear hr
    by_cases hlt : k < len
    · obtain ⟨fn, tmps, assign, body, hy, hR⟩ := yield_any (m' := 8) (hY _ (f k) wr hJs ⟨k, hlt, rfl, rfl⟩)
      rw [HE.out k hlt] at hy
      obtain ⟨b, off, ha, hcx, hcy⟩ := HR.out.cell (len - 1 - k) (by omega)
      obtain ⟨t, ht⟩ : ∃ t : Nat, (len : Int) - 1 - k = (t : Int) := ⟨len - 1 - k, by omega⟩
      have ht2 : len - 1 - k = t := by omega
      rw [ht2] at hy hcx hcy
      rw [ht] at hy ⊢
      have HT := hid ht
      have htl : (t : Int) < (len : Int) := by omega
      have hg0 : decide ((0 : Int) ≤ (t : Int)) = true := decide_eq_true (by omega)
      clear ht ht2
      subst ha
      gi_wp2
      refine hR.mono ?_
      rintro e W3 (⟨rfl, hJ3, hk3⟩ | ⟨rfl, hJx3⟩)
      · have HG3 := hid (hk3 ⟨HC.out, HR.out⟩)
        gi_wp2
        go_roundw
        case rel => exact ⟨k + 1, by omega, by rw [show (len : Int) - 1 - (k + 1 : Nat) = (t : Int) - 1 by have := HT.out; omega], by rw [upto_succ]; exact hJ3, HG3.out⟩
        case measure => simp [intOf]
      · gi_wp2
        refine bodyPost_ret (results_none rfl _ _ _) rfl ?_
        exact ⟨⟨_, rfl⟩, .inr hJx3⟩
    · obtain rfl : k = len := by omega
      have hg0 : decide ((0 : Int) ≤ (k : Int) - 1 - k) = false := decide_eq_false (by omega)
      rw [show (k : Int) - 1 - k = -1 by omega]
      gi_wp2
      go_end0
      exact ⟨⟨_, rfl⟩, .inl ⟨_, rfl, hJs⟩⟩

theorem back_two {α : Type} (encs : α → Array Value) (f : Nat → α) (Bs len cap : Nat) (a : Option Addr) (zs : List (Int × Int)) (he : ∀ k : Nat, k < len → encs (f k) = #[.int .i64 ((len : Int) - 1 - k), .agg #[.int .i64 (zs[len - 1 - k]?.getD (0, 0)).1, .int .i64 (zs[len - 1 - k]?.getD (0, 0)).2]]) :
    SeqTwo Tryd.prog 75 #[.pointer (some ⟨Bs, 0, none⟩)] encs (fun pre x _ => ∃ k, k < len ∧ pre = upto f k ∧ x = f k) (fun _ A B => Held Bs a len cap zs A → Held Bs a len cap zs B) (fun _ => False) (fun xs => xs = upto f len) (Held Bs a len cap zs) (fun _ => True) :=
  fun l J Jx W hG _ _ hY h0 => (back_no encs f Bs len cap a zs he l J Jx W hG (fun pre x W1 h1 h2 => by
    obtain ⟨f1, t1, a1, b1, h3, h4⟩ := hY pre x W1 h1 h2
    exact ⟨f1, t1, a1, b1, h3, h4.mono fun e W' h5 => h5.elim .inl (fun h6 => .inr ⟨h6.1, h6.2.1⟩)⟩) h0).mono fun e W' h => ⟨h.1, h.2.elim (fun ⟨xs, h1, h2⟩ => .inl ⟨xs, h1, h2, trivial⟩) .inr⟩
theorem back_impl (a : Option Addr) (len cap : Nat) (w : World) :
    Calls Tryd.prog 68 #[.slice a len cap] w fun e w' => e = .returned (.func (.func 75) #[] #[.pointer (some ⟨w.heap.size, 0, none⟩)]) ∧ w' = w.alloc (.cells #[.slice a len cap] 66) := by
  go_enter Tryd.func68, Tryd.ntmps68
  go_wp2
  go_ret
  exact ⟨rfl, rfl⟩
end Go.Proofs.YtbahjpheaaiamaaDoor.backFact

/- Marks at a function's end, and what a call leaves as it was; of no program; conditions: none. -/
namespace Go.Proofs.YtbahjpheaaiamaaDoor.marks
open Go.RowKit Go.Deep Go base
set_option linter.unusedVariables false

/-- All blocks but those of X are as they were. -/
structure Ch (X : Nat → Prop) (W W' : World) : Prop where
  os : W'.os = W.os
  tape : W'.tape = W.tape
  output : W'.output = W.output
  size : W.heap.size ≤ W'.heap.size
  blk : ∀ q, q < W.heap.size → ¬ X q → W'.heap[q]? = W.heap[q]?
theorem Ch.of_grown {W W' : World} {row : Option Nat} (h : W.grownBy W' row) : Ch (fun q => some q = row) W W' := ⟨h.os, h.tape, h.output, h.size, h.block⟩
theorem Ch.refl (X : Nat → Prop) (W : World) : Ch X W W := ⟨rfl, rfl, rfl, Nat.le_refl _, fun _ _ _ => rfl⟩
theorem Ch.trans {X : Nat → Prop} {A B C : World} (h : Ch X A B) (k : Ch X B C) : Ch X A C := ⟨k.os.trans h.os, k.tape.trans h.tape, k.output.trans h.output, Nat.le_trans h.size k.size, fun q hq hx => (k.blk q (Nat.lt_of_lt_of_le hq h.size) hx).trans (h.blk q hq hx)⟩
theorem Ch.mono {X Y : Nat → Prop} {A B : World} (h : Ch X A B) (hx : ∀ q, X q → Y q) : Ch Y A B := ⟨h.os, h.tape, h.output, h.size, fun q hq hy => h.blk q hq (fun k => hy (hx q k))⟩
theorem Ch.set (W : World) (a : Addr) (v : Value) : Ch (fun q => q = a.block) W (W.setCell a v) := ⟨rfl, rfl, rfl, by simp [World.setCell], fun q _ hx => Below.heap_setCell _ _ _ _ hx⟩
theorem Ch.alloc (X : Nat → Prop) (W : World) (ob : Obj) : Ch X W (W.alloc ob) := ⟨rfl, rfl, rfl, by simp, fun q hq _ => Below.heap_alloc W ob q hq⟩
theorem Ch.below {W W' : World} (X : Nat → Prop) (h : Below W.heap.size W W') : Ch X W W' := ⟨h.os, h.tape, h.output, h.size, fun q hq _ => h.block q hq⟩
theorem Ch.grown {X : Nat → Prop} {b : Nat} {W W' : World} (h : Ch X W W') (hx : ∀ q, q < W.heap.size → X q → q = b) : W.grownBy W' (some b) := ⟨h.os, h.tape, h.output, h.size, fun j hj hne => h.blk j hj (fun k => hne (by rw [hx j hj k]))⟩

variable {W W' : World} {X : Nat → Prop}
/-- Marks that are open. -/
structure Mk (B : Nat) (Ds : List Nat) (W : World) : Prop where
  one : Ds.Nodup
  at_ : ∀ D, D ∈ Ds → B ≤ D ∧ W.heap[D]? = some (.deferred (some []))
theorem Mk.nil (B : Nat) (W : World) : Mk B [] W := ⟨List.nodup_nil, fun D h => by cases h⟩
theorem Mk.lt {B : Nat} {Ds : List Nat} (h : Mk B Ds W) {D : Nat} (hD : D ∈ Ds) : D < W.heap.size := (Array.getElem?_eq_some_iff.1 (h.at_ D hD).2).1
theorem Mk.cons {B D : Nat} {Ds : List Nat} (h : Mk B Ds W) (hD : W.heap[D]? = some (.deferred (some []))) (hB : B ≤ D) (hl : ∀ D' ∈ Ds, D' < D) : Mk B (D :: Ds) W :=
  ⟨List.nodup_cons.2 ⟨fun h1 => Nat.lt_irrefl _ (hl D h1), h.one⟩, fun D' h' => by
    rcases List.mem_cons.1 h' with e | h'
    · subst e; exact ⟨hB, hD⟩
    · exact h.at_ D' h'⟩
theorem Mk.ch {B : Nat} {Ds : List Nat} (h : Mk B Ds W) (hc : Ch X W W') (hx : ∀ D ∈ Ds, ¬ X D) : Mk B Ds W' := ⟨h.one, fun D hD => ⟨(h.at_ D hD).1, (hc.blk D (h.lt hD) (hx D hD)).trans (h.at_ D hD).2⟩⟩
theorem Mk.cells {B : Nat} {Ds : List Nat} (h : Mk B Ds W) (hc : Ch X W W') (hx : ∀ q, X q → ∃ cs t fr, W.heap[q]? = some (.cells cs t fr)) : Mk B Ds W' := h.ch hc fun D hD k => by
  obtain ⟨cs, t, fr, hh⟩ := hx D k
  rw [(h.at_ D hD).2] at hh
  cases hh

/-- What a call's end leaves: the marks are shut, all else is as it was. -/
structure Fin (Ds : List Nat) (W W' : World) : Prop extends Ch (fun q => q ∈ Ds) W W'
def markD (D : Nat) : Deferred := { target := .collected D, args := #[] }
theorem leaves_marks {P : Program} {n : Nat} {fn : Func} {tmps : Array Value} {R : Ending → World → Prop} {B : Nat} : ∀ (Ds : List Nat) (W : World), Mk B Ds W → (∀ W', Ch (fun q => q ∈ Ds) W W' → LeavesInM Fence.wide n P fn tmps R [] .returning W') → LeavesInM Fence.wide n P fn tmps R (Ds.map markD) .returning W
  | [], W, _, h => h W (Ch.refl _ _)
  | D :: Ds, W, hm, h => by
    have hD := (hm.at_ D List.mem_cons_self).2
    have hg := grownBy_putObj' W D (.deferred none)
    refine ⟨by simp, .inl ⟨D, _, rfl, run_takeDeferred hD, leaves_marks Ds _ (Mk.ch ⟨(List.nodup_cons.1 hm.one).2, fun D' h' => hm.at_ D' (List.mem_cons_of_mem _ h')⟩ (Ch.of_grown hg) (fun D' h' e => ?_)) (fun W' hc => h W' ?_)⟩⟩
    · injection e with e
      subst e
      exact (List.nodup_cons.1 hm.one).1 h'
    · refine ((Ch.of_grown hg).mono (fun q e => ?_)).trans (hc.mono (fun q hq => List.mem_cons_of_mem _ hq))
      injection e with e
      subst e
      exact List.mem_cons_self
end Go.Proofs.YtbahjpheaaiamaaDoor.marks

/- A solver of the program: the literal of a clause that became false last (lastFalse); conditions: a trail of literals of at most 40 variables. -/
namespace Go.Proofs.YtbahjpheaaiamaaDoor.solLastT
open Go.RowKit Go.Deep Go.Shelf Go base sets solSets solOps solMath solMem solTrail rangeAt rangeTwo backFact
open marks (Mk markD leaves_marks Ch)
set_option linter.unusedVariables false
set_option linter.unusedSimpArgs false
attribute [local go_sem] Oper.semAt_some

/-- The literal of a clause that became false last, 0 if there is none. -/
def lastF (T : TR) (c : LS) : Int := match T.reverse.find? (fun p => mem c (-p.1)) with
  | some p => -p.1
  | none => 0
theorem last_cases (T : TR) (c : LS) : (lastF T c = 0 ∧ ∀ p ∈ T, mem c (-p.1) = false) ∨ ∃ p ∈ T, lastF T c = -p.1 ∧ mem c (-p.1) = true := by
  unfold lastF
  cases h : T.reverse.find? (fun p => mem c (-p.1)) with
  | none =>
    left
    rw [List.find?_eq_none] at h
    exact ⟨rfl, fun p hp => by have := h p (by simpa using hp); simpa using this⟩
  | some p =>
    right
    exact ⟨p, by have := List.mem_of_find?_eq_some h; simpa using this, rfl, by have := List.find?_some h; simpa using this⟩
theorem find_pre {α : Type} {q : α → Bool} : ∀ (L : List α) (k : Nat), k < L.length → (∀ i, i < k → ∀ x, L[i]? = some x → q x = false) → ∀ x, L[k]? = some x → q x = true → L.find? q = some x
  | [], k, hk, _, _, _, _ => absurd hk (Nat.not_lt_zero _)
  | y :: L, 0, _, _, x, h, hq => by
    have e : y = x := by simpa using h
    subst e
    rw [List.find?_cons_of_pos hq]
  | y :: L, k + 1, hk, hp, x, h, hq => by
    rw [List.find?_cons_of_neg (by have := hp 0 (Nat.succ_pos _) y rfl; simp [this])]
    exact find_pre L k (by simpa using hk) (fun i hi z hz => hp (i + 1) (by omega) z (by simpa using hz)) x (by simpa using h) hq
theorem last_hit {T : TR} {c : LS} {k : Nat} (hk : k < T.length) (hp : ∀ i, i < k → mem c (-(T[T.length - 1 - i]?.getD (0, 0)).1) = false) (h : mem c (-(T[T.length - 1 - k]?.getD (0, 0)).1) = true) : lastF T c = -(T[T.length - 1 - k]?.getD (0, 0)).1 := by
  have hg : ∀ i, i < T.length → T.reverse[i]? = some (T[T.length - 1 - i]?.getD (0, 0)) := fun i hi => by
    rw [List.getElem?_reverse hi, List.getElem?_eq_getElem (by omega)]; rfl
  have := find_pre (q := fun p => mem c (-p.1)) T.reverse k (by simpa using hk) (fun i hi x hx => by
    rw [hg i (by omega)] at hx
    injection hx with hx
    rw [← hx]; exact hp i hi) _ (hg k hk) h
  unfold lastF
  rw [this]
theorem last_none {T : TR} {c : LS} (hp : ∀ i, i < T.length → mem c (-(T[T.length - 1 - i]?.getD (0, 0)).1) = false) : lastF T c = 0 := by
  rcases last_cases T c with h | ⟨p, h1, _, h3⟩
  · exact h.1
  · obtain ⟨i, hi, e⟩ := List.getElem_of_mem h1
    have := hp (T.length - 1 - i) (by omega)
    rw [show T.length - 1 - (T.length - 1 - i) = i by omega, List.getElem?_eq_getElem hi] at this
    simp only [Option.getD_some, e, h3] at this
    cases this
theorem held_put {Bs len cap q : Nat} {a : Option Addr} {zs : List (Int × Int)} {W : World} {o o' : Obj} (hq : W.heap[q]? = some o) (hc : o.isCells = false) (h : Held Bs a len cap zs W) : Held Bs a len cap zs (W.putObj q o') := by
  have hk : ∀ b j x, W.cell? ⟨b, j, none⟩ = some x → (W.putObj q o').cell? ⟨b, j, none⟩ = some x := fun b j x hx => cell_kept hx (grownBy_putObj' W q o') (fun r e => by cases e; exact ⟨o, hq, hc⟩)
  exact ⟨hk _ _ _ h.1, h.2.length, h.2.most, fun i hi => by obtain ⟨b, off, e, h1, h2⟩ := h.2.cell i hi; exact ⟨b, off, e, hk _ _ _ h1, hk _ _ _ h2⟩⟩
theorem held_df {X : Nat → Prop} {Bs len cap : Nat} {a : Option Addr} {zs : List (Int × Int)} {A B : World} (hd : Df X A B) (h0 : ¬ X Bs) (h1 : ∀ b off, 0 < len → a = some ⟨b, off, none⟩ → ¬ X b) (h : Held Bs a len cap zs A) : Held Bs a len cap zs B :=
  ⟨hd.cell h.1 h0, h.2.length, h.2.most, fun i hi => by obtain ⟨b, off, e, h2, h3⟩ := h.2.cell i hi; exact ⟨b, off, e, hd.cell h2 (h1 b off (by omega) e), hd.cell h3 (h1 b off (by omega) e)⟩⟩
set_option maxRecDepth 100000 in
set_option maxHeartbeats 2000000 in
theorem last_impl (ta : Option Addr) (tl tc M c1 c2 : Nat) (T : TR) (w : World) (hc : w.cell? ⟨M, 7, none⟩ = some (.slice ta tl tc)) (hr : Row2 w ta tl T) (wc : Wf (c1, c2)) (hT : ∀ p ∈ T, p.1 ≠ 0 ∧ -40 ≤ p.1 ∧ p.1 ≤ 40) :
    Calls Tryd.prog 58 #[.pointer (some ⟨M, 0, none⟩), .agg #[.int .u64 c1, .int .u64 c2]] w fun e w' => e = .returned (.int .i64 (lastF T (c1, c2))) ∧ Below w.heap.size w w' := by
  have HB := hid (fun W : World => back_impl ta tl tc W)
  have hM := World.block_lt_of_cell? _ _ hc
  simp only at hM
  have HR := hid hr
  have HTr : Hid (∀ i, i < tl → (T[tl - 1 - i]?.getD (0, 0)).1 ≠ 0 ∧ -40 ≤ (T[tl - 1 - i]?.getD (0, 0)).1 ∧ (T[tl - 1 - i]?.getD (0, 0)).1 ≤ 40) := hid (fun i hi => by
    have hl := hr.length
    rw [List.getElem?_eq_getElem (by omega)]
    exact hT _ (List.getElem_mem _))
  have HLen := hid hr.length
  have HWc := hid wc
  have HTa : Hid (∀ b off, 0 < tl → ta = some ⟨b, off, none⟩ → b < w.heap.size) := hid (fun b off h0 e => by
    obtain ⟨b', off', e', h1, _⟩ := hr.cell 0 h0
    rw [e] at e'
    injection e' with e'
    injection e' with e1 e2
    subst e1
    exact World.block_lt_of_cell? _ _ h1)
  clear hr hT wc
  refine (callsIn_wide (n := 9)).1 ?_
  refine callsIn_of_wp_marks Tryd.func58 rfl trivial ?_ rfl
  simp only [Tryd.ntmps58, List.size_toArray, List.length_cons, List.length_nil, Nat.reduceAdd, Nat.reduceSub, Array.replicate_succ, Array.replicate_zero, List.push_toArray, List.append_toArray, List.nil_append, List.cons_append]
  gi_wp2
  refine ⟨trivial, (callsIn_wide.2 (HB.out _)).mono ?_⟩
  rintro e W2 ⟨rfl, rfl⟩
  gi_wp2
  obtain ⟨W1, hW1⟩ : ∃ W1, ((w.alloc (.cells #[.int .u64 c1, .int .u64 c2] 51)).alloc (.cells #[.int .i64 0] 3)).alloc (.cells #[.slice ta tl tc] 66) = W1 := ⟨_, rfl⟩
  have hz1 : W1.heap.size = w.heap.size + 1 + 1 + 1 := by rw [← hW1]; simp
  have hB1 : Below w.heap.size w W1 := by rw [← hW1]; exact (by repeat (first | exact Below.refl _ _ | assumption | refine Below.drew ?_ | refine Below.alloc ?_ (by first | exact Nat.le_refl _ | omega | (simp; done) | (simp; omega)) _ | refine Below.setCell ?_ (by first | exact Nat.le_refl _ | omega | (simp; done) | (simp; omega)) _))
  have hx : ∀ (o1 o2 o3 : Obj), ((w.alloc o1).alloc o2).alloc o3 = W1 → W1.heap[w.heap.size]? = some o1 ∧ W1.heap[w.heap.size + 1]? = some o2 ∧ W1.heap[w.heap.size + 1 + 1]? = some o3 := fun o1 o2 o3 e => by
    rw [← e]
    have a1 := World.alloc_heap_new w o1
    have a2 := World.alloc_heap_new (w.alloc o1) o2
    have a3 := World.alloc_heap_new ((w.alloc o1).alloc o2) o3
    simp only [World.size_alloc] at a2 a3
    refine ⟨?_, ?_, a3⟩
    · rw [Below.heap_alloc _ _ _ (by simp; omega), Below.heap_alloc _ _ _ (by simp)]
      exact a1
    · rw [Below.heap_alloc _ _ _ (by simp)]
      exact a2
  obtain ⟨y1, y2, y3⟩ := hx _ _ _ hW1
  rw [hW1]
  have HHe : Hid (Held (w.heap.size + 1 + 1) ta tl tc T W1) := hid ⟨by simp [World.cell?, y3], HR.out.below hB1⟩
  have HB1 := hid hB1
  have HY1 := hid y1
  have HY2 := hid y2
  clear hW1 hx y1 y2 y3 hB1
  refine range_out (α := Nat) (back_two (fun (k : Nat) => #[.int .i64 ((tl : Int) - 1 - (k : Int)), .agg #[.int .i64 (T[tl - 1 - k]?.getD (0, 0)).1, .int .i64 (T[tl - 1 - k]?.getD (0, 0)).2]]) id (w.heap.size + 1 + 1) tl tc ta T (fun k hk => rfl)) rfl (enters_of Tryd.func75 (by kernel_rfl) rfl) (fun q hq => False.elim hq) (fun r => ?hstart) (fun h k x => k (h x)) (fun W' ob ob' h hc => held_put h hc) (fun _ => rfl)
    (fun pre A => Below W1.heap.size W1 A ∧ ∀ i, i < pre.length → i < tl → mem (c1, c2) (-(T[tl - 1 - i]?.getD (0, 0)).1) = false)
    (fun c A => c = .ret ∧ Df (fun q => q = w.heap.size + 1) W1 A ∧ A.heap[w.heap.size + 1]? = some (.cells #[.int .i64 (lastF T (c1, c2))] 3 (0, 0))) ?hI ?hIx (fun _ _ _ _ _ _ h => h) (fun _ _ _ _ _ => trivial) ⟨Below.refl _ _, fun i hi => absurd hi (Nat.not_lt_zero _)⟩
    (fun (k : Nat) a' A => ∃ ab, a' = ⟨#[.pointer (some ⟨M, 0, none⟩), .agg #[.int .u64 c1, .int .u64 c2], undef, .pointer (some ⟨w.heap.size, 0, none⟩), .pointer (some ⟨w.heap.size + 1, 0, none⟩), undef, .pointer (some ⟨ab, 0, none⟩), .pointer (some ⟨M, 0, none⟩), .pointer (some ⟨M, 0, none⟩), .pointer (some ⟨M, 7, none⟩), .slice ta tl tc, .func (.func 75) #[] #[.pointer (some ⟨w.heap.size + 1 + 1, 0, none⟩)], .int .i64 ((tl : Int) - 1 - k), .agg #[.int .i64 (T[tl - 1 - k]?.getD (0, 0)).1, .int .i64 (T[tl - 1 - k]?.getD (0, 0)).2], undef, undef, undef, undef, undef, undef, undef, undef], []⟩ ∧ A.heap[ab]? = some (.cells #[.int .i64 (T[tl - 1 - k]?.getD (0, 0)).1, .int .i64 (T[tl - 1 - k]?.getD (0, 0)).2] 87 (0, 0)) ∧ W1.heap.size + 1 < ab) ?hAx (fun _ _ h => held_df h (fun e => e) (fun _ _ _ _ e => e)) ?hassign ?hbody ?hdone ?hstop
  case hstart =>
    have hb : Below W1.heap.size W1 ((W1.alloc (.deferred (some []))).alloc (.loop r)) := (by repeat (first | exact Below.refl _ _ | assumption | refine Below.drew ?_ | refine Below.alloc ?_ (by first | exact Nat.le_refl _ | omega | (simp; done) | (simp; omega)) _ | refine Below.setCell ?_ (by first | exact Nat.le_refl _ | omega | (simp; done) | (simp; omega)) _))
    exact ⟨keep hb HHe.out.1, HHe.out.2.below hb⟩
  case hI =>
    rintro pre A A' hd ⟨h1, h2⟩
    exact ⟨⟨hd.os.trans h1.os, hd.tape.trans h1.tape, hd.output.trans h1.output, Nat.le_trans h1.size hd.size, fun j hj => (hd.blk j (Nat.lt_of_lt_of_le hj h1.size) (fun h => h.elim (fun e => e) (fun e => by have := e.1; omega))).trans (h1.block j hj)⟩, h2⟩
  case hIx =>
    rintro c A A' hd ⟨h1, h2, h3⟩
    exact ⟨h1, ⟨hd.os.trans h2.os, hd.tape.trans h2.tape, hd.output.trans h2.output, Nat.le_trans h2.size hd.size, fun j hj hx => (hd.blk j (Nat.lt_of_lt_of_le hj h2.size) (fun h => h.elim (fun e => e) (fun e => by have := e.1; omega))).trans (h2.blk j hj hx)⟩, hd.keeps h3 (fun h => h.elim (fun e => e) (fun e => by have := e.1; omega))⟩
  case hAx =>
    rintro x a A A' hd ⟨ab, h1, h2, h3⟩
    exact ⟨ab, h1, hd.keeps h2 (by omega), h3⟩
  case hassign =>
    intro x W' K hlt hK
    gi_wp2
    exact hK _ _ (Df.alloc _ _) ⟨W'.heap.size, rfl, World.alloc_heap_new W' _, hlt⟩
  case hdone =>
    rintro xs A hS ⟨h1, h2⟩ - hD
    have HN : Hid (lastF T (c1, c2) = 0) := hid (last_none (fun i hi => by have hl := HLen.out; rw [HLen.out]; exact h2 i (by rw [hS]; unfold upto; simp; omega) (by omega)))
    have hy := (h1.block _ (by omega)).trans HY2.out
    have k0 : A.cell? ⟨w.heap.size + 1, 0, none⟩ = some (.int .i64 0) := by simp [World.cell?, hy]
    have f0 : A.frozen? ⟨w.heap.size + 1, 0, none⟩ = false := by simp [World.frozen?, hy]
    have HB9 := hid (HB1.out.trans (h1.mono HB1.out.size))
    have HD := hid hD
    clear h1 h2 hS hD hy
    gi_wp2
    have hbs : Below w.heap.size w (A.setCell ⟨w.heap.size + 1, 0, none⟩ (.int .i64 0)) := HB9.out.setCell (by dsimp only; omega) _
    have hDs : (A.setCell ⟨w.heap.size + 1, 0, none⟩ (.int .i64 0)).heap[W1.heap.size]? = some (.deferred (some [])) := (Below.heap_setCell _ _ _ _ (by dsimp only; omega)).trans HD.out
    have hcs : (A.setCell ⟨w.heap.size + 1, 0, none⟩ (.int .i64 0)).cell? ⟨w.heap.size + 1, 0, none⟩ = some (.int .i64 0) := World.cell?_setCell_same _ _ _ k0
    generalize A.setCell ⟨w.heap.size + 1, 0, none⟩ (.int .i64 0) = W4 at *
    refine leaves_marks (B := 0) [W1.heap.size] W4 ⟨by simp, fun D' hD' => by simp only [List.mem_singleton] at hD'; subst hD'; exact ⟨Nat.zero_le _, hDs⟩⟩ (fun W'' hc => ?_)
    have hc5 : W''.cell? ⟨w.heap.size + 1, 0, none⟩ = some (.int .i64 0) := (World.cell?_of_block (a := ⟨w.heap.size + 1, 0, none⟩) (hc.blk _ (World.block_lt_of_cell? _ _ hcs) (fun hm => by simp only [List.mem_singleton] at hm; omega))).trans hcs
    refine ⟨.int .i64 0, by simp [results, Tryd.results58, go_sem, hc5], by rw [HN.out], ⟨hc.os.trans hbs.os, hc.tape.trans hbs.tape, hc.output.trans hbs.output, Nat.le_trans hbs.size hc.size, fun j hj => (hc.blk j (Nat.lt_of_lt_of_le hj hbs.size) (fun hm => by simp only [List.mem_singleton] at hm; omega)).trans (hbs.block j hj)⟩⟩
  case hstop =>
    rintro c A ⟨rfl, h1, h2⟩ hD
    have HD := hid hD
    have H1 := hid h1
    have k0 : A.cell? ⟨w.heap.size + 1, 0, none⟩ = some (.int .i64 (lastF T (c1, c2))) := by simp [World.cell?, h2]
    obtain ⟨lf, hlf⟩ : ∃ lf, lastF T (c1, c2) = lf := ⟨_, rfl⟩
    rw [hlf] at k0
    have HLf := hid hlf
    clear hlf
    clear hD h1 h2
    gi_wp2
    refine leaves_marks (B := 0) [W1.heap.size] A ⟨by simp, fun D' hD' => by simp only [List.mem_singleton] at hD'; subst hD'; exact ⟨Nat.zero_le _, HD.out⟩⟩ (fun W'' hc => ?_)
    have hc5 : W''.cell? ⟨w.heap.size + 1, 0, none⟩ = some (.int .i64 lf) := (World.cell?_of_block (a := ⟨w.heap.size + 1, 0, none⟩) (hc.blk _ (World.block_lt_of_cell? _ _ k0) (fun hm => by simp only [List.mem_singleton] at hm; omega))).trans k0
    refine ⟨.int .i64 lf, by simp [results, Tryd.results58, go_sem, hc5], by rw [HLf.out], ?_⟩
    have hb := HB1.out
    have h1 := H1.out
    exact ⟨hc.os.trans (h1.os.trans hb.os), hc.tape.trans (h1.tape.trans hb.tape), hc.output.trans (h1.output.trans hb.output), Nat.le_trans hb.size (Nat.le_trans h1.size hc.size), fun j hj => (hc.blk j (by have := hb.size; have := h1.size; omega) (fun hm => by simp only [List.mem_singleton] at hm; omega)).trans ((h1.blk j (by omega) (by omega)).trans (hb.block j hj))⟩
  case hbody =>
    rintro pre k a9 A9 ⟨h1, h2⟩ ⟨k', hk, hpre, hkk⟩ ⟨ab, rfl, hab, habl⟩ hD ⟨r9, hr9⟩
    have hkk : k = k' := hkk
    subst hkk
    have hpl : pre.length = k := by rw [hpre, upto_length]
    obtain ⟨l0, l1, l2⟩ := HTr.out k hk
    have HHit : Hid (mem (c1, c2) (-(T[tl - 1 - k]?.getD (0, 0)).1) = true → lastF T (c1, c2) = -(T[tl - 1 - k]?.getD (0, 0)).1) := hid (fun hm => by
      have := last_hit (T := T) (c := (c1, c2)) (k := k) (by rw [HLen.out]; exact hk) (fun i hi => by rw [HLen.out]; exact h2 i (by omega) (by omega)) (by rw [HLen.out]; exact hm)
      rw [HLen.out] at this
      exact this)
    have HMiss : Hid (mem (c1, c2) (-(T[tl - 1 - k]?.getD (0, 0)).1) = false → ∀ i, i < (pre ++ [k]).length → i < tl → mem (c1, c2) (-(T[tl - 1 - i]?.getD (0, 0)).1) = false) := hid (fun hm i hi hit => by
      by_cases e : i = k
      · subst e; exact hm
      · exact h2 i (by rw [List.length_append] at hi; simp at hi; omega) hit)
    have hyc := (h1.block _ (by omega)).trans HY1.out
    have hyr := (h1.block _ (by omega)).trans HY2.out
    have q0 : A9.cell? ⟨w.heap.size, 0, none⟩ = some (.int .u64 c1) := by simp [World.cell?, hyc]
    have q1 : A9.cell? ⟨w.heap.size, 1, none⟩ = some (.int .u64 c2) := by simp [World.cell?, hyc]
    have p0 : A9.cell? ⟨ab, 0, none⟩ = some (.int .i64 (T[tl - 1 - k]?.getD (0, 0)).1) := by simp [World.cell?, hab]
    have r0 : A9.cell? ⟨w.heap.size + 1, 0, none⟩ = some (.int .i64 0) := by simp [World.cell?, hyr]
    have rz : A9.frozen? ⟨w.heap.size + 1, 0, none⟩ = false := by simp [World.frozen?, hyr]
    have HH := hid (fun W => has_impl (c1, c2) (-(T[tl - 1 - k]?.getD (0, 0)).1) W HWc.out (by omega) (by omega) (by omega))
    have H1 := hid h1
    have HD := hid hD
    have HR9 := hid hr9
    have hHe : Hid (Held (w.heap.size + 1 + 1) ta tl tc T W1) := HHe
    generalize hlit : (T[tl - 1 - k]?.getD (0, 0)).1 = lit at *
    generalize (T[tl - 1 - k]?.getD (0, 0)).2 = rea at *
    clear h1 h2 hpre hpl hyc hyr hab hD hr9 hlit hk
    clear hkk
    gi_wp2
    refine ⟨trivial, (CallsIn.inRound _ (callsIn_wide.2 (HH.out _))).mono ?_⟩
    rintro e2 W2 ⟨rfl, hb2⟩
    have HB2 := hid hb2
    replace p0 := keep hb2 p0
    replace r0 := keep hb2 r0
    have hy2 := ((H1.out.trans (hb2.mono H1.out.size)).block (w.heap.size + 1) (by omega)).trans HY2.out
    have HY3 := hid hy2
    have rz2 : W2.frozen? ⟨w.heap.size + 1, 0, none⟩ = false := by
      have := (H1.out.trans (hb2.mono H1.out.size)).block (w.heap.size + 1) (by omega)
      have hyr := this.trans HY2.out
      simp [World.frozen?, hyr]
    clear hb2 q0 q1 rz hy2
    cases hm : mem (c1, c2) (-lit) with
    | true =>
      have HM := hid (HHit.out hm)
      clear hm
      gi_wp2
      have hs9 := A9.heap.size
      have hb2 := HB2.out
      have h1 := H1.out
      have hD9 := (Array.getElem?_eq_some_iff.1 HD.out).1
      have hL9 := (Array.getElem?_eq_some_iff.1 HR9.out).1
      have hd : Df (fun q => q = w.heap.size + 1) A9 (W2.setCell ⟨w.heap.size + 1, 0, none⟩ (.int .i64 (-lit))) := ⟨hb2.os, hb2.tape, hb2.output, by simpa [World.setCell] using hb2.size, fun q hq hx => (Below.heap_setCell _ _ _ _ hx).trans (hb2.block q hq)⟩
      refine ⟨hd.blk _ hL9 (by omega), ⟨hd.blk _ hD9 (by omega), fun h => held_df hd (by omega) (fun b off h0 e => by have := HTa.out b off h0 e; omega) h⟩, rfl, ?_, ?_⟩
      · exact ⟨hd.os.trans h1.os, hd.tape.trans h1.tape, hd.output.trans h1.output, Nat.le_trans h1.size hd.size, fun q hq hx => (hd.blk q (by have := h1.size; omega) hx).trans (h1.block q hq)⟩
      · rw [HM.out]
        exact heap_setCell_same W2 (w.heap.size + 1) 0 _ _ _ HY3.out
    | false =>
      have HM := hid (HMiss.out hm)
      clear hm
      gi_wp2
      have hb2 := HB2.out
      have hD9 := (Array.getElem?_eq_some_iff.1 HD.out).1
      have hL9 := (Array.getElem?_eq_some_iff.1 HR9.out).1
      exact ⟨hb2.block _ hL9, ⟨hb2.block _ hD9, fun h => ⟨keep hb2 h.1, h.2.below hb2⟩⟩, H1.out.trans (hb2.mono H1.out.size), HM.out⟩
end Go.Proofs.YtbahjpheaaiamaaDoor.solLastT
