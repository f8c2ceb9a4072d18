/- RangeAt; Marks; SolLast: one text, so that the claim has fewer files. -/
import Derived.RangeFuncNested
import Derived.RangeFuncBound
import Derived.RangeFuncCalls
import Derived.RangeFuncLeaves
import Derived.Shelf.Abstract
import Derived.Test.YtolejaegnkcjjaaDoorBase
import Derived.Test.YtolejaegnkcjjaaDoorSolMem
import Derived.Shelf.RegionOpen
import Derived.WalkKit
import Derived.OwnWalkIn
import Derived.TacticsInMore
import Derived.LoopNIn
import Derived.LoopIn
/- A range over a function whose items lie in memory, over an iterator that writes memory of its own between two rounds; of no program; conditions: what the body and the iterator each leave as it was. -/
namespace Go.Proofs.YtolejaegnkcjjaaDoor.rangeAt
open Go.RowKit Go.Shelf Go
set_option linter.unusedVariables false

theorem calls_any {m m' : Nat} {P : Program} {f : FuncId} {args : Array Value} {w : World} {R : Ending → World → Prop} (h : CallsIn Fence.wide m P f args w R) : CallsIn Fence.wide m' P f args w R := callsIn_wide.2 (callsIn_wide.1 h)

/-- What an iterator does at a loop that goes through all: it hands out items that lie in memory (At), turns what R lets it turn, and asks that a round keeps Kp. -/
def SeqAll {α : Type} (P : Program) (g : Nat) (lb : Array Value) (encs : α → Array Value) (At : List α → α → World → Prop) (Kp : World → World → Prop) (R : Nat → World → World → Prop) (S : List α → Prop) (Start : World → Prop) : Prop :=
  ∀ (l : Nat) (J : List α → World → Prop) (W : World), Start W → (∀ s A B, R W.heap.size A B → J s A → J s B) →
    (∀ pre x W1, J pre W1 → At pre x W1 → YieldAt Fence.wide 9 P l (encs x) W1 fun e W' => e = .returned (.bool true) ∧ J (pre ++ [x]) W' ∧ Kp W1 W') →
    J [] W →
    CallsIn Fence.wide 9 P g (#[.func (.yield l) #[] #[]] ++ lb) W fun e W' => (∃ v, e = .returned v) ∧ ∃ xs, S xs ∧ J xs W'

/-- A body that goes on. -/
def goesOn {α : Type} (B : Nat) (Kp : World → World → Prop) (I : List α → World → Prop) (xs : List α) (W : World) : Exit → Act → World → Prop
  | .normal, _, W' => KeepsFrom B W W' ∧ Kp W W' ∧ I xs W'
  | _, _, _ => False

theorem range_all {α : Type} {P : Program} {n : Nat} {gop : Operand} {ps : Array Tmp} {assign body : Code} {Q : Exit → Act → World → Prop} {a : Act} {w : World} {gf : Nat} {lb : Array Value}
    (hg : a.eval gop = .func (.func gf) #[] lb) (eg : ∀ args w, (callFunc gf args).run P w = .ok (.enter gf args) w)
    {encs : α → Array Value} {At : List α → α → World → Prop} {Kp : World → World → Prop} {R : Nat → World → World → Prop} {S : List α → Prop} {Start : World → Prop} (hseq : SeqAll P gf lb encs At Kp R S Start)
    (hstart : ∀ r : Loop, Start ((w.alloc (.deferred (some []))).alloc (.loop r)))
    (hKt : ∀ {A B C : World}, Kp A B → Kp B C → Kp A C) (hKb : ∀ (W : World) (o o' : Obj), W.heap[w.heap.size + 1]? = some o → o.isCells = false → Kp W (W.putObj (w.heap.size + 1) o'))
    (hR : ∀ A B, R (w.heap.size + 1 + 1) A B → ∀ k o, w.heap.size ≤ k → k < w.heap.size + 1 + 1 → A.heap[k]? = some o → o.isCells = false → B.heap[k]? = some o)
    (hps : ∀ x, (encs x).size = ps.size)
    (I : List α → World → Prop) (hI : OwnFrom w.heap.size I) (hAt : ∀ pre x, OwnFrom w.heap.size (fun (_ : Unit) W => At pre x W))
    (hIR : ∀ s A B, R (w.heap.size + 1 + 1) A B → I s A → I s B) (h0 : I [] w) (a₁ : α → Act)
    (hassign : ∀ (l : Nat) (x : α) (W : World) (K : Act → World → Prop), K (a₁ x) W →
      assign.wpIn (Fence.wide.inRound l) 9 P (Exit.then K (fun _ _ _ => False)) { tmps := (ps.zip (encs x)).foldl (fun t (p, v) => t.setIfInBounds p v) a.tmps, defers := [] } W)
    (hbody : ∀ (l : Nat) (pre : List α) (x : α) (W : World), I pre W → At pre x W → body.wpIn (Fence.wide.inRound l) 9 P (goesOn w.heap.size Kp I (pre ++ [x]) W) (a₁ x) W)
    (hdone : ∀ (D : Nat) (xs : List α) (W : World), w.heap.size ≤ D → S xs → I xs W → W.heap[D]? = some (.deferred (some [])) → Q .normal { a with defers := { target := .collected D, args := #[] } :: a.defers } W) :
    (Code.rangeFunc gop ps assign body).wpIn Fence.wide n P Q a w := by
  refine wpIn_rangeFunc fun fn hfn => ?_
  obtain ⟨rec, hrec⟩ : ∃ rec : LoopState → Option Code → Loop, ∀ st pe, rec st pe = { state := st, pending := pe, fn, tmps := a.tmps, params := ps, assign, body, defers := w.heap.size } := ⟨fun st pe => _, fun _ _ => rfl⟩
  obtain ⟨W1, hW1⟩ : ∃ W1, (w.alloc (.deferred (some []))).alloc (.loop (rec .ready none)) = W1 := ⟨_, rfl⟩
  have hz : W1.heap.size = w.heap.size + 1 + 1 := by rw [← hW1]; simp
  have hL : W1.heap[w.heap.size + 1]? = some (.loop (rec .ready none)) := by
    rw [← hW1]
    have := World.alloc_heap_new (w.alloc (.deferred (some []))) (.loop (rec .ready none))
    rwa [World.size_alloc] at this
  have hD : W1.heap[w.heap.size]? = some (.deferred (some [])) := by
    rw [← hW1]
    exact (Below.heap_alloc _ _ _ (by simp)).trans (World.alloc_heap_new w _)
  refine ⟨w.heap.size + 1, [{ target := .collected w.heap.size, args := #[] }], W1, { target := .fn (.func gf) lb, args := #[.func (.yield (w.heap.size + 1)) #[] #[]] }, W1, gf, #[.func (.yield (w.heap.size + 1)) #[] #[]] ++ lb, W1, ?_, ?_, fun _ _ => trivial, ?_, fun e => (by cases e), ?_⟩
  · rw [← hW1, hrec]
    exact run_enterLoop_outer _ _ _ _ _
  · simp only [resolve, hg]
    simp [go_sem]
  · simp [invoke, go_sem, eg]
  · have hsq := hseq (w.heap.size + 1) (fun pre W => I pre W ∧ W.heap[w.heap.size + 1]? = some (.loop (rec .ready none)) ∧ W.heap[w.heap.size]? = some (.deferred (some []))) W1 (by rw [← hW1]; exact hstart _)
      (fun s A B hr hs => by rw [hz] at hr; exact ⟨hIR s A B hr hs.1, hR A B hr _ _ (by omega) (by omega) hs.2.1 rfl, hR A B hr _ _ (by omega) (by omega) hs.2.2 rfl⟩)
      ?_ ⟨by rw [← hW1]; exact hI.alloc _ (hI.alloc _ h0), hL, hD⟩
    · refine calls_any (hsq.mono ?_)
      rintro e W2 ⟨⟨v, rfl⟩, xs, hS, hi, hl, hk⟩
      refine ⟨none, _, ?_, hdone w.heap.size xs _ (Nat.le_refl _) hS (hI.putObj (.loop { rec .ready none with state := .exhausted }) hi (by omega) hl rfl) ((World.putObj_heap_other (by omega)).trans hk)⟩
      have := run_endLoop (P := P) hl (by rw [hrec]; simp)
      rw [this, hrec]
    · rintro pre x W ⟨hi, hl, hk⟩ hat
      have hlt : w.heap.size + 1 < W.heap.size := (Array.getElem?_eq_some_iff.1 hl).1
      have hy := run_yield (P := P) (args := encs x) hl (by rw [hrec]; exact hps x)
      obtain ⟨Wb, hWb⟩ : ∃ Wb, W.putObj (w.heap.size + 1) (.loop { rec .ready none with state := .busy }) = Wb := ⟨_, rfl⟩
      have hl2 : Wb.heap[w.heap.size + 1]? = some (.loop { rec .ready none with state := .busy }) := by rw [← hWb]; exact World.putObj_heap_same hlt
      have hk2 : Wb.heap[w.heap.size]? = some (.deferred (some [])) := by rw [← hWb]; exact (World.putObj_heap_other (by omega)).trans hk
      have hw2 : Kp W Wb := by rw [← hWb]; exact hKb _ _ _ hl rfl
      have hib : I pre Wb := by rw [← hWb]; exact hI.putObj _ hi (by omega) hl rfl
      have hab : At pre x Wb := by rw [← hWb]; exact OwnFrom.putObj (hAt pre x) (s := ()) _ hat (by omega) hl rfl
      refine ⟨_, _, _, _, hy, ?_⟩
      rw [hrec]
      refine roundIn_of_wpIn trivial (hassign _ x W _ ⟨Wb, by rw [← hWb]; exact run_beginRound hl (by rw [hrec]), wpIn_mono (hbody _ pre x Wb hib hab) ?_⟩)
      rintro e a3 W3 hp
      cases e with
      | normal =>
        obtain ⟨hk3, hkp3, hi3⟩ := hp
        have hl3 := hk3.same _ _ (by omega) hl2 rfl
        have h9 := run_endRound (P := P) none hl3
        refine ⟨_, _, h9, rfl, ⟨hI.putObj _ hi3 (by omega) hl3 rfl, ?_, (World.putObj_heap_other (by omega)).trans (hk3.same _ _ (Nat.le_refl _) hk2 rfl)⟩, hKt (hKt hw2 hkp3) (hKb _ _ _ hl3 rfl)⟩
        rw [World.putObj_heap_same (Array.getElem?_eq_some_iff.1 hl3).1]
        simp [hrec]
      | ret => exact hp.elim
      | exit id => exact hp.elim
      | goto t => exact hp.elim
      | panic ch => exact hp.elim
      | outgrown => exact hp.elim
end Go.Proofs.YtolejaegnkcjjaaDoor.rangeAt

/- Marks at a function's end, and what a call leaves as it was; of no program; conditions: none. -/
namespace Go.Proofs.YtolejaegnkcjjaaDoor.marks
open Go.RowKit Go.Deep Go base
set_option linter.unusedVariables false

/-- All blocks but those of X are as they were. -/
structure Ch (X : Nat → Prop) (W W' : World) : Prop where
  os : W'.os = W.os
  tape : W'.tape = W.tape
  output : W'.output = W.output
  size : W.heap.size ≤ W'.heap.size
  blk : ∀ q, q < W.heap.size → ¬ X q → W'.heap[q]? = W.heap[q]?
theorem Ch.of_grown {W W' : World} {row : Option Nat} (h : W.grownBy W' row) : Ch (fun q => some q = row) W W' := ⟨h.os, h.tape, h.output, h.size, h.block⟩
theorem Ch.refl (X : Nat → Prop) (W : World) : Ch X W W := ⟨rfl, rfl, rfl, Nat.le_refl _, fun _ _ _ => rfl⟩
theorem Ch.trans {X : Nat → Prop} {A B C : World} (h : Ch X A B) (k : Ch X B C) : Ch X A C := ⟨k.os.trans h.os, k.tape.trans h.tape, k.output.trans h.output, Nat.le_trans h.size k.size, fun q hq hx => (k.blk q (Nat.lt_of_lt_of_le hq h.size) hx).trans (h.blk q hq hx)⟩
theorem Ch.mono {X Y : Nat → Prop} {A B : World} (h : Ch X A B) (hx : ∀ q, X q → Y q) : Ch Y A B := ⟨h.os, h.tape, h.output, h.size, fun q hq hy => h.blk q hq (fun k => hy (hx q k))⟩
theorem Ch.set (W : World) (a : Addr) (v : Value) : Ch (fun q => q = a.block) W (W.setCell a v) := ⟨rfl, rfl, rfl, by simp [World.setCell], fun q _ hx => Below.heap_setCell _ _ _ _ hx⟩
theorem Ch.alloc (X : Nat → Prop) (W : World) (ob : Obj) : Ch X W (W.alloc ob) := ⟨rfl, rfl, rfl, by simp, fun q hq _ => Below.heap_alloc W ob q hq⟩
theorem Ch.below {W W' : World} (X : Nat → Prop) (h : Below W.heap.size W W') : Ch X W W' := ⟨h.os, h.tape, h.output, h.size, fun q hq _ => h.block q hq⟩
theorem Ch.grown {X : Nat → Prop} {b : Nat} {W W' : World} (h : Ch X W W') (hx : ∀ q, q < W.heap.size → X q → q = b) : W.grownBy W' (some b) := ⟨h.os, h.tape, h.output, h.size, fun j hj hne => h.blk j hj (fun k => hne (by rw [hx j hj k]))⟩

variable {W W' : World} {X : Nat → Prop}
/-- Marks that are open. -/
structure Mk (B : Nat) (Ds : List Nat) (W : World) : Prop where
  one : Ds.Nodup
  at_ : ∀ D, D ∈ Ds → B ≤ D ∧ W.heap[D]? = some (.deferred (some []))
theorem Mk.nil (B : Nat) (W : World) : Mk B [] W := ⟨List.nodup_nil, fun D h => by cases h⟩
theorem Mk.lt {B : Nat} {Ds : List Nat} (h : Mk B Ds W) {D : Nat} (hD : D ∈ Ds) : D < W.heap.size := (Array.getElem?_eq_some_iff.1 (h.at_ D hD).2).1
theorem Mk.cons {B D : Nat} {Ds : List Nat} (h : Mk B Ds W) (hD : W.heap[D]? = some (.deferred (some []))) (hB : B ≤ D) (hl : ∀ D' ∈ Ds, D' < D) : Mk B (D :: Ds) W :=
  ⟨List.nodup_cons.2 ⟨fun h1 => Nat.lt_irrefl _ (hl D h1), h.one⟩, fun D' h' => by
    rcases List.mem_cons.1 h' with e | h'
    · subst e; exact ⟨hB, hD⟩
    · exact h.at_ D' h'⟩
theorem Mk.ch {B : Nat} {Ds : List Nat} (h : Mk B Ds W) (hc : Ch X W W') (hx : ∀ D ∈ Ds, ¬ X D) : Mk B Ds W' := ⟨h.one, fun D hD => ⟨(h.at_ D hD).1, (hc.blk D (h.lt hD) (hx D hD)).trans (h.at_ D hD).2⟩⟩
theorem Mk.cells {B : Nat} {Ds : List Nat} (h : Mk B Ds W) (hc : Ch X W W') (hx : ∀ q, X q → ∃ cs t fr, W.heap[q]? = some (.cells cs t fr)) : Mk B Ds W' := h.ch hc fun D hD k => by
  obtain ⟨cs, t, fr, hh⟩ := hx D k
  rw [(h.at_ D hD).2] at hh
  cases hh

/-- What a call's end leaves: the marks are shut, all else is as it was. -/
structure Fin (Ds : List Nat) (W W' : World) : Prop extends Ch (fun q => q ∈ Ds) W W'
def markD (D : Nat) : Deferred := { target := .collected D, args := #[] }
theorem leaves_marks {P : Program} {n : Nat} {fn : Func} {tmps : Array Value} {R : Ending → World → Prop} {B : Nat} : ∀ (Ds : List Nat) (W : World), Mk B Ds W → (∀ W', Ch (fun q => q ∈ Ds) W W' → LeavesInM Fence.wide n P fn tmps R [] .returning W') → LeavesInM Fence.wide n P fn tmps R (Ds.map markD) .returning W
  | [], W, _, h => h W (Ch.refl _ _)
  | D :: Ds, W, hm, h => by
    have hD := (hm.at_ D List.mem_cons_self).2
    have hg := grownBy_putObj' W D (.deferred none)
    refine ⟨by simp, .inl ⟨D, _, rfl, run_takeDeferred hD, leaves_marks Ds _ (Mk.ch ⟨(List.nodup_cons.1 hm.one).2, fun D' h' => hm.at_ D' (List.mem_cons_of_mem _ h')⟩ (Ch.of_grown hg) (fun D' h' e => ?_)) (fun W' hc => h W' ?_)⟩⟩
    · injection e with e
      subst e
      exact (List.nodup_cons.1 hm.one).1 h'
    · refine ((Ch.of_grown hg).mono (fun q e => ?_)).trans (hc.mono (fun q hq => List.mem_cons_of_mem _ hq))
      injection e with e
      subst e
      exact List.mem_cons_self
end Go.Proofs.YtolejaegnkcjjaaDoor.marks

/- A solver of the program: the literal of a clause that became false last, where nothing has become true yet (lastFalse); conditions: an empty trail. -/
namespace Go.Proofs.YtolejaegnkcjjaaDoor.solLast
open Go.RowKit Go.Deep Go.Shelf Go base sets solSets solMem rangeAt marks
set_option linter.unusedVariables false
set_option linter.unusedSimpArgs false
attribute [local go_sem] Oper.semAt_some

set_option maxRecDepth 100000 in
set_option maxHeartbeats 2000000 in
theorem back1_nil (ta : Option Addr) (tc l Bs : Nat) (W : World) (hc : W.cell? ⟨Bs, 0, none⟩ = some (.slice ta 0 tc)) :
    CallsIn Fence.wide 9 Tryd.prog 79 #[.func (.yield l) #[] #[], .pointer (some ⟨Bs, 0, none⟩)] W fun e W' => (∃ v, e = .returned v) ∧ W' = W := by
  refine callsIn_of_wp Tryd.func79 rfl trivial ?_ rfl
  simp only [Tryd.ntmps79, List.size_toArray, List.length_cons, List.length_nil, Nat.reduceAdd, Nat.reduceSub, Array.replicate_succ, Array.replicate_zero, List.push_toArray, List.append_toArray, List.nil_append, List.cons_append]
  gi_wp2
  gi_loopw [3] (fun i wr => i = .int .i64 (-1) ∧ wr = W) (fun _ _ => 0)
  case atStart => exact ⟨rfl, rfl⟩
  case round =>
    obtain ⟨rfl, rfl⟩ := hrel
    gi_wp2
    go_end0
    exact ⟨⟨_, rfl⟩, rfl⟩
theorem back_impl (v : Value) (w : World) (hv : ∃ a n c, v = .slice a n c) : Calls Tryd.prog 70 #[v] w fun e w' => e = .returned (.func (.func 79) #[] #[.pointer (some ⟨w.heap.size, 0, none⟩)]) ∧ w' = w.alloc (.cells #[v] 69) := by
  obtain ⟨a, n, c, rfl⟩ := hv
  go_enter Tryd.func70, Tryd.ntmps70
  go_wp2
  go_ret
  exact ⟨rfl, rfl⟩
theorem back_seq (ta : Option Addr) (tc Bs : Nat) : SeqAll (α := Empty) Tryd.prog 79 #[.pointer (some ⟨Bs, 0, none⟩)] (fun x => x.elim) (fun _ _ _ => False) (fun _ _ => True) (fun _ A B => A = B) (fun xs => xs = []) (fun W => W.cell? ⟨Bs, 0, none⟩ = some (.slice ta 0 tc)) :=
  fun l J W hs hJ hY h0 => (back1_nil ta tc l Bs W hs).mono fun e W' ⟨h1, h2⟩ => ⟨h1, [], rfl, by rw [h2]; exact h0⟩
set_option maxRecDepth 100000 in
set_option maxHeartbeats 2000000 in
theorem last_nil (ta : Option Addr) (tc M c1 c2 : Nat) (w : World) (hc : w.cell? ⟨M, 7, none⟩ = some (.slice ta 0 tc)) :
    Calls Tryd.prog 58 #[.pointer (some ⟨M, 0, none⟩), .agg #[.int .u64 c1, .int .u64 c2]] w fun e w' => e = .returned (.int .i64 0) ∧ Below w.heap.size w w' := by
  have HB := hid (fun W : World => back_impl (.slice ta 0 tc) W ⟨_, _, _, rfl⟩)
  have hM := World.block_lt_of_cell? _ _ hc
  simp only at hM
  refine (callsIn_wide (n := 9)).1 ?_
  refine callsIn_of_wp_marks Tryd.func58 rfl trivial ?_ rfl
  simp only [Tryd.ntmps58, List.size_toArray, List.length_cons, List.length_nil, Nat.reduceAdd, Nat.reduceSub, Array.replicate_succ, Array.replicate_zero, List.push_toArray, List.append_toArray, List.nil_append, List.cons_append]
  gi_wp2
  refine ⟨trivial, (callsIn_wide.2 (HB.out _)).mono ?_⟩
  rintro e W2 ⟨rfl, rfl⟩
  gi_wp2
  obtain ⟨W3, hW3⟩ : ∃ W3, ((w.alloc (.cells #[.int .u64 c1, .int .u64 c2] 52)).alloc (.cells #[.int .i64 0] 3)).alloc (.cells #[.slice ta 0 tc] 69) = W3 := ⟨_, rfl⟩
  have hz3 : W3.heap.size = w.heap.size + 1 + 1 + 1 := by rw [← hW3]; simp
  have hB3 : Below w.heap.size w W3 := by rw [← hW3]; exact (by repeat (first | exact Below.refl _ _ | assumption | refine Below.drew ?_ | refine Below.alloc ?_ (by first | exact Nat.le_refl _ | omega | (simp; done) | (simp; omega)) _ | refine Below.setCell ?_ (by first | exact Nat.le_refl _ | omega | (simp; done) | (simp; omega)) _))
  have h43 : W3.heap[w.heap.size + 1]? = some (.cells #[.int .i64 0] 3 (0, 0)) := by
    rw [← hW3]
    rw [Below.heap_alloc _ _ _ (by simp)]
    have e2 := World.alloc_heap_new (w.alloc (.cells #[.int .u64 c1, .int .u64 c2] 52)) (.cells #[.int .i64 0] 3)
    rwa [World.size_alloc] at e2
  have hc3 : W3.cell? ⟨w.heap.size + 1 + 1, 0, none⟩ = some (.slice ta 0 tc) := by rw [← hW3]; simp [go_sem]
  rw [hW3]
  have HW3 := hid hW3
  clear hW3
  refine range_all (α := Empty) rfl (enters_of Tryd.func79 (by kernel_rfl) rfl) (back_seq ta tc (w.heap.size + 1 + 1)) (fun r => ?start) (fun _ _ => trivial) (fun _ _ _ _ _ => trivial) (fun A A' hr k ob h1 h2 h3 h4 => ?hR) (fun x => x.elim)
    (fun pre W => Below w.heap.size w W ∧ W.heap[w.heap.size + 1]? = some (.cells #[.int .i64 0] 3 (0, 0))) ?hI (fun pre x => x.elim) ?hIR ⟨hB3, h43⟩ (fun x => x.elim) (fun l x => x.elim) (fun l pre x => x.elim) ?don
  case start =>
    have hb : Below W3.heap.size W3 ((W3.alloc (.deferred (some []))).alloc (.loop r)) := (by repeat (first | exact Below.refl _ _ | assumption | refine Below.drew ?_ | refine Below.alloc ?_ (by first | exact Nat.le_refl _ | omega | (simp; done) | (simp; omega)) _ | refine Below.setCell ?_ (by first | exact Nat.le_refl _ | omega | (simp; done) | (simp; omega)) _))
    exact keep hb hc3
  case hR => rw [← hr]; exact h3
  case hI =>
    intro pre A A' row h hg hr
    refine ⟨⟨hg.os.trans h.1.os, hg.tape.trans h.1.tape, hg.output.trans h.1.output, Nat.le_trans h.1.size hg.size, fun j hj => (hg.block j (Nat.lt_of_lt_of_le hj h.1.size) (fun e => ?_)).trans (h.1.block j hj)⟩, (hg.block _ (Array.getElem?_eq_some_iff.1 h.2).1 (fun e => ?_)).trans h.2⟩
    · have := (hr j e.symm).1
      omega
    · have := (hr _ e.symm).1
      omega
  case hIR =>
    intro pre A A' hr h
    rw [← hr]; exact h
  case don =>
    rintro D ys W' hD hys ⟨hb, h4⟩ hK
    have k4 : W'.cell? ⟨w.heap.size + 1, 0, none⟩ = some (.int .i64 0) := by simp [World.cell?, h4]
    have f4 : W'.frozen? ⟨w.heap.size + 1, 0, none⟩ = false := by simp [World.frozen?, h4]
    gi_wp2
    have hbs : Below w.heap.size w (W'.setCell ⟨w.heap.size + 1, 0, none⟩ (.int .i64 0)) := hb.setCell (by dsimp only; omega) _
    have hDs : (W'.setCell ⟨w.heap.size + 1, 0, none⟩ (.int .i64 0)).heap[D]? = some (.deferred (some [])) := (Below.heap_setCell _ _ _ _ (by dsimp only; omega)).trans hK
    have hcs : (W'.setCell ⟨w.heap.size + 1, 0, none⟩ (.int .i64 0)).cell? ⟨w.heap.size + 1, 0, none⟩ = some (.int .i64 0) := World.cell?_setCell_same _ _ _ k4
    generalize W'.setCell ⟨w.heap.size + 1, 0, none⟩ (.int .i64 0) = W4 at *
    refine leaves_marks (B := W3.heap.size) [D] W4 ⟨by simp, fun D' hD' => by simp only [List.mem_singleton] at hD'; subst hD'; exact ⟨hD, hDs⟩⟩ (fun W'' hc => ?_)
    have hc5 : W''.cell? ⟨w.heap.size + 1, 0, none⟩ = some (.int .i64 0) := (World.cell?_of_block (a := ⟨w.heap.size + 1, 0, none⟩) (hc.blk _ (World.block_lt_of_cell? _ _ hcs) (fun hm => by simp only [List.mem_singleton] at hm; omega))).trans hcs
    refine ⟨.int .i64 0, by simp [results, Tryd.results58, go_sem, hc5], rfl, ⟨hc.os.trans hbs.os, hc.tape.trans hbs.tape, hc.output.trans hbs.output, Nat.le_trans hbs.size hc.size, fun j hj => (hc.blk j (Nat.lt_of_lt_of_le hj hbs.size) (fun hm => by simp only [List.mem_singleton] at hm; omega)).trans (hbs.block j hj)⟩⟩
end Go.Proofs.YtolejaegnkcjjaaDoor.solLast
