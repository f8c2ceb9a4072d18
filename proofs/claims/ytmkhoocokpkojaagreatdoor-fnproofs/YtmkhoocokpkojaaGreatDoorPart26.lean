import Derived.Test.YtmkhoocokpkojaaGreatDoorRangeTwo
import Derived.RangeFuncNested
import Derived.RangeFuncBound
import Derived.RangeFuncCalls
import Derived.RangeFuncLeaves
import Derived.Shelf.Abstract
import Derived.Shelf.RegionOpen
import Derived.WalkKit
import Derived.OwnWalkIn
import Derived.TacticsInMore
import Derived.LoopNIn
import Derived.LoopIn
import Derived.Test.YtmkhoocokpkojaaGreatDoorPart1
namespace Go.Proofs.YtmkhoocokpkojaaGreatDoor.rangeNo
open Go.RowKit Go.Shelf Go rangeAt rangeTwo
set_option linter.unusedVariables false
def SeqNo {α : Type} (P : Program) (g : Nat) (lb : Array Value) (encs : α → Array Value) (At : List α → α → Prop) (Kp : World → World → Prop) (S : List α → Prop) (Start : World → Prop) : Prop :=
 ∀ (l : Nat) (J : List α → World → Prop) (Jx : World → Prop) (W : World), Start W →
  (∀ pre x W1, J pre W1 → At pre x → YieldAt Fence.wide 9 P l (encs x) W1 fun e W' => (e = .returned (.bool true) ∧ J (pre ++ [x]) W' ∧ Kp W1 W') ∨ (e = .returned (.bool false) ∧ Jx W')) →
  J [] W →
  CallsIn Fence.wide 9 P g (#[.func (.yield l) #[] #[]] ++ lb) W fun e W' => (∃ v, e = .returned v) ∧ ((∃ xs, S xs ∧ J xs W') ∨ Jx W')
def goesN {α : Type} (l : Nat) (Kp : World → World → Prop) (I : List α → World → Prop) (Ix : Code → World → Prop) (xs : List α) (W : World) : Exit → Act → World → Prop
 | .normal, _, W' => W'.heap[l]? = W.heap[l]? ∧ Kp W W' ∧ I xs W'
 | .ret, _, W' => W'.heap[l]? = W.heap[l]? ∧ Ix .ret W'
 | .exit id, _, W' => W'.heap[l]? = W.heap[l]? ∧ Ix (.exit id) W'
 | .goto t, _, W' => W'.heap[l]? = W.heap[l]? ∧ Ix (.goto t) W'
 | _, _, _ => False
def goesNo {α : Type} (l D : Nat) (Kp : World → World → Prop) (I : List α → World → Prop) (Ix : Code → World → Prop) (xs : List α) (W : World) : Exit → Act → World → Prop
 | .normal, _, W' => W'.heap[l]? = W.heap[l]? ∧ W'.heap[D]? = W.heap[D]? ∧ Kp W W' ∧ I xs W'
 | .ret, _, W' => W'.heap[l]? = W.heap[l]? ∧ W'.heap[D]? = W.heap[D]? ∧ Ix .ret W'
 | .exit id, _, W' => W'.heap[l]? = W.heap[l]? ∧ W'.heap[D]? = W.heap[D]? ∧ Ix (.exit id) W'
 | .goto t, _, W' => W'.heap[l]? = W.heap[l]? ∧ W'.heap[D]? = W.heap[D]? ∧ Ix (.goto t) W'
 | _, _, _ => False
section law
variable {α : Type} {P : Program} {ps : Array Tmp} {assign body : Code} {gf : Nat} {lb : Array Value} {encs : α → Array Value} {At : List α → α → Prop} {Kp : World → World → Prop} {S : List α → Prop} {Start : World → Prop}
theorem no_core (hseq : SeqNo P gf lb encs At Kp S Start) (l : Nat) (W1 : World) (rec : LoopState → Option Code → Loop) (fn : FuncId) (tmps : Array Value) (dd : Nat)
  (hrec : ∀ st pe, rec st pe = { state := st, pending := pe, fn, tmps := tmps, params := ps, assign, body, defers := dd })
  (hl : W1.heap[l]? = some (.loop (rec .ready none))) (hstart : Start W1)
  (hKt : ∀ {A B C : World}, Kp A B → Kp B C → Kp A C) (hKb : ∀ (W : World) (o o' : Obj), W.heap[l]? = some o → o.isCells = false → Kp W (W.putObj l o'))
  (hps : ∀ x, (encs x).size = ps.size)
  (I : List α → World → Prop) (Ix : Code → World → Prop)
  (hI2 : ∀ s A B, (∃ r, A.heap[l]? = some (.loop r)) → Df (fun q => q = l) A B → I s A → I s B) (hIx2 : ∀ c A B, (∃ r, A.heap[l]? = some (.loop r)) → Df (fun q => q = l) A B → Ix c A → Ix c B)
  (h0 : I [] W1) (Ax : α → Act → World → Prop) (hAx : ∀ x a A B, Df (fun q => q = l) A B → Ax x a A → Ax x a B)
  (hKd : ∀ A B, l < A.heap.size → Df (fun _ => False) A B → Kp A B)
  (hassign : ∀ (x : α) (W : World) (K : Act → World → Prop), l < W.heap.size → (∀ a W', Df (fun _ => False) W W' → Ax x a W' → K a W') → assign.wpIn (Fence.wide.inRound l) 9 P (Exit.then K (fun _ _ _ => False)) { tmps := (ps.zip (encs x)).foldl (fun t (p, v) => t.setIfInBounds p v) tmps, defers := [] } W)
  (hId : ∀ s A B, Df (fun _ => False) A B → I s A → I s B)
  (hbody : ∀ (pre : List α) (x : α) (a : Act) (W : World), I pre W → At pre x → Ax x a W → W.heap[l]? = some (.loop (rec .busy none)) → body.wpIn (Fence.wide.inRound l) 9 P (goesN l Kp I Ix (pre ++ [x]) W) a W) :
  CallsIn Fence.wide 9 P gf (#[.func (.yield l) #[] #[]] ++ lb) W1 fun e W' => (∃ v, e = .returned v) ∧
   ((∃ xs, S xs ∧ (I xs W' ∧ W'.heap[l]? = some (.loop (rec .ready none)))) ∨ (∃ c, Ix c W' ∧ W'.heap[l]? = some (.loop (rec .done (some c))))) := by
 refine hseq l (fun pre W => I pre W ∧ W.heap[l]? = some (.loop (rec .ready none))) (fun W => ∃ c, Ix c W ∧ W.heap[l]? = some (.loop (rec .done (some c)))) W1 hstart ?_ ⟨h0, hl⟩
 rintro pre x W ⟨hi, hk⟩ hat
 have hlt0 : l < W.heap.size := (Array.getElem?_eq_some_iff.1 hk).1
 have hy := run_yield (P := P) (args := encs x) hk (by rw [hrec]; exact hps x)
 have e1 : (rec .ready none).fn = fn := by rw [hrec]
 have e2 : (rec .ready none).params = ps := by rw [hrec]
 have e3 : (rec .ready none).tmps = tmps := by rw [hrec]
 have e4 : (rec .ready none).assign = assign := by rw [hrec]
 have e5 : (rec .ready none).body = body := by rw [hrec]
 rw [e1, e2, e3, e4, e5] at hy
 refine ⟨fn, _, assign, body, hy, ?_⟩
 refine roundIn_of_wpIn trivial (hassign x W _ hlt0 (fun a1 Wa hda hax => ?_))
 have hka := hda.keeps hk (fun h => h)
 have hlt : l < Wa.heap.size := (Array.getElem?_eq_some_iff.1 hka).1
 obtain ⟨Wb, hWb⟩ : ∃ Wb, Wa.putObj l (.loop { rec .ready none with state := .busy }) = Wb := ⟨_, rfl⟩
 have hdb : Df (fun q => q = l) Wa Wb := by rw [← hWb]; exact Df.put _ _ _
 have hdw : Df (fun q => q = l) W Wb := (hda.mono (fun _ _ h => h.elim)).trans hdb
 have hl2 : Wb.heap[l]? = some (.loop (rec .busy none)) := by
  rw [← hWb, World.putObj_heap_same hlt]
  simp [hrec]
 have hw2 : Kp W Wb := hKt (hKd _ _ hlt0 hda) (by rw [← hWb]; exact hKb _ _ _ hka rfl)
 refine ⟨Wb, by rw [← hWb]; exact run_beginRound hka (by rw [hrec]), wpIn_mono (hbody pre x a1 Wb (hI2 _ _ _ ⟨_, hk⟩ hdw hi) hat (hAx _ _ _ _ hdb hax) hl2) ?_⟩
 have fin : ∀ (jump : Option Code) (W3 : World), W3.heap[l]? = Wb.heap[l]? → (Instr.endRound l jump).run P W3 = .ok (.bool jump.isNone) (W3.putObj l (.loop (rec (if jump.isNone then .ready else .done) jump))) ∧ W3.heap[l]? = some (.loop (rec .busy none)) ∧ (W3.putObj l (.loop (rec (if jump.isNone then .ready else .done) jump))).heap[l]? = some (.loop (rec (if jump.isNone then .ready else .done) jump)) := fun jump W3 h3 => by
  have hl3 := h3.trans hl2
  have h9 := run_endRound (P := P) jump hl3
  refine ⟨?_, hl3, World.putObj_heap_same (Array.getElem?_eq_some_iff.1 hl3).1⟩
  rw [h9]
  simp [hrec]
 rintro e a3 W3 hp
 have leave : ∀ c : Code, W3.heap[l]? = Wb.heap[l]? → Ix c W3 → ∃ v w', (Instr.endRound l (some c)).run P W3 = .ok v w' ∧ ((Ending.returned v = .returned (.bool true) ∧ (I (pre ++ [x]) w' ∧ w'.heap[l]? = some (.loop (rec .ready none))) ∧ Kp W w') ∨ (Ending.returned v = .returned (.bool false) ∧ (∃ c, Ix c w' ∧ w'.heap[l]? = some (.loop (rec .done (some c)))))) := fun c hk3 hi3 => by
  obtain ⟨hr, hl3, hl4⟩ := fin (some c) W3 hk3
  exact ⟨_, _, hr, .inr ⟨rfl, ⟨c, hIx2 c _ _ ⟨_, hl3⟩ (Df.put _ _ _) hi3, hl4⟩⟩⟩
 cases e with
 | normal =>
  obtain ⟨hk3, hkp3, hi3⟩ := hp
  obtain ⟨hr, hl3, hl4⟩ := fin none W3 hk3
  exact ⟨_, _, hr, .inl ⟨rfl, ⟨hI2 _ _ _ ⟨_, hl3⟩ (Df.put _ _ _) hi3, hl4⟩, hKt (hKt hw2 hkp3) (hKb _ _ _ hl3 rfl)⟩⟩
 | ret => exact leave .ret hp.1 hp.2
 | exit id => exact leave (.exit id) hp.1 hp.2
 | goto t => exact leave (.goto t) hp.1 hp.2
 | panic ch => exact hp.elim
 | outgrown => exact hp.elim
theorem no_out {n : Nat} {gop : Operand} {Q : Exit → Act → World → Prop} {a : Act} {w : World} (hseq : SeqNo P gf lb encs At Kp S Start)
  (hg : a.eval gop = .func (.func gf) #[] lb) (eg : ∀ args w, (callFunc gf args).run P w = .ok (.enter gf args) w)
  (hstart : ∀ r : Loop, Start ((w.alloc (.deferred (some []))).alloc (.loop r)))
  (hKt : ∀ {A B C : World}, Kp A B → Kp B C → Kp A C) (hKb : ∀ (W : World) (o o' : Obj), W.heap[w.heap.size + 1]? = some o → o.isCells = false → Kp W (W.putObj (w.heap.size + 1) o'))
  (hps : ∀ x, (encs x).size = ps.size)
  (I : List α → World → Prop) (Ix : Code → World → Prop)
  (hI : ∀ s A B, (∃ r, A.heap[w.heap.size + 1]? = some (.loop r)) → Df (fun q => q = w.heap.size + 1) A B → I s A → I s B) (hIx : ∀ c A B, (∃ r, A.heap[w.heap.size + 1]? = some (.loop r)) → Df (fun q => q = w.heap.size + 1) A B → Ix c A → Ix c B)
  (hId : ∀ s A B, Df (fun _ => False) A B → I s A → I s B) (h0 : I [] w) (Ax : α → Act → World → Prop) (hAx : ∀ x a A B, Df (fun q => q = w.heap.size + 1) A B → Ax x a A → Ax x a B)
  (hKd : ∀ A B, Df (fun _ => False) A B → Kp A B)
  (hassign : ∀ (x : α) (W : World) (K : Act → World → Prop), w.heap.size + 1 < W.heap.size → (∀ a W', Df (fun _ => False) W W' → Ax x a W' → K a W') → assign.wpIn (Fence.wide.inRound (w.heap.size + 1)) 9 P (Exit.then K (fun _ _ _ => False)) { tmps := (ps.zip (encs x)).foldl (fun t (p, v) => t.setIfInBounds p v) a.tmps, defers := [] } W)
  (hbody : ∀ (pre : List α) (x : α) (a : Act) (W : World), I pre W → At pre x → Ax x a W → W.heap[w.heap.size]? = some (.deferred (some [])) → (∃ r, W.heap[w.heap.size + 1]? = some (.loop r)) → body.wpIn (Fence.wide.inRound (w.heap.size + 1)) 9 P (goesNo (w.heap.size + 1) w.heap.size Kp I Ix (pre ++ [x]) W) a W)
  (hdone : ∀ (xs : List α) (W : World), S xs → I xs W → W.heap[w.heap.size]? = some (.deferred (some [])) → Q .normal { a with defers := { target := .collected w.heap.size, args := #[] } :: a.defers } W)
  (hstop : ∀ (c : Code) (W : World), Ix c W → W.heap[w.heap.size]? = some (.deferred (some [])) → c.wpIn Fence.wide n P Q { a with defers := { target := .collected w.heap.size, args := #[] } :: a.defers } W) :
  (Code.rangeFunc gop ps assign body).wpIn Fence.wide n P Q a w := by
 refine wpIn_rangeFunc fun fn hfn => ?_
 obtain ⟨rec, hrec⟩ : ∃ rec : LoopState → Option Code → Loop, ∀ st pe, rec st pe = { state := st, pending := pe, fn, tmps := a.tmps, params := ps, assign, body, defers := w.heap.size } := ⟨fun st pe => _, fun _ _ => rfl⟩
 obtain ⟨W1, hW1⟩ : ∃ W1, (w.alloc (.deferred (some []))).alloc (.loop (rec .ready none)) = W1 := ⟨_, rfl⟩
 have hz : W1.heap.size = w.heap.size + 1 + 1 := by rw [← hW1]; simp
 have hL : W1.heap[w.heap.size + 1]? = some (.loop (rec .ready none)) := by
  rw [← hW1]
  have := World.alloc_heap_new (w.alloc (.deferred (some []))) (.loop (rec .ready none))
  rwa [World.size_alloc] at this
 have hD : W1.heap[w.heap.size]? = some (.deferred (some [])) := by
  rw [← hW1]
  exact (Below.heap_alloc _ _ _ (by simp)).trans (World.alloc_heap_new w _)
 have hd1 : Df (fun _ => False) w W1 := by
  rw [← hW1]
  exact (Df.alloc _ _).trans (Df.alloc _ _)
 refine ⟨w.heap.size + 1, [{ target := .collected w.heap.size, args := #[] }], W1, { target := .fn (.func gf) lb, args := #[.func (.yield (w.heap.size + 1)) #[] #[]] }, W1, gf, #[.func (.yield (w.heap.size + 1)) #[] #[]] ++ lb, W1, ?_, ?_, fun _ _ => trivial, ?_, fun e => (by cases e), ?_⟩
 · rw [← hW1, hrec]
   exact run_enterLoop_outer _ _ _ _ _
 · simp only [resolve, hg]
   simp [go_sem]
 · simp [invoke, go_sem, eg]
 · have hc := no_core (assign := assign) (body := body) (ps := ps) (Kp := fun A B => B.heap[w.heap.size]? = A.heap[w.heap.size]? ∧ Kp A B) (Start := Start) (S := S) (At := At) (encs := encs) (fun l J Jx W hS hY h0 => hseq l J Jx W hS (fun pre x W1 h1 h2 => by
     obtain ⟨f1, t1, a1, b1, h3, h4⟩ := hY pre x W1 h1 h2
     exact ⟨f1, t1, a1, b1, h3, h4.mono fun e W' h5 => h5.elim (fun h6 => .inl ⟨h6.1, h6.2.1, h6.2.2.2⟩) (fun h6 => .inr ⟨h6.1, h6.2⟩)⟩) h0) (w.heap.size + 1) W1 rec fn a.tmps w.heap.size hrec hL (by rw [← hW1]; exact hstart _)
    (fun h k => ⟨k.1.trans h.1, hKt h.2 k.2⟩) (fun W o o' h1 h2 => ⟨World.putObj_heap_other (by omega), hKb W o o' h1 h2⟩) hps (fun s W => I s W ∧ W.heap[w.heap.size]? = some (.deferred (some []))) (fun c W => Ix c W ∧ W.heap[w.heap.size]? = some (.deferred (some [])))
    (fun s A B hr hd hs => ⟨hI s A B hr hd hs.1, hd.keeps hs.2 (by omega)⟩)
    (fun c A B hr hd hs => ⟨hIx c A B hr hd hs.1, hd.keeps hs.2 (by omega)⟩)
    ⟨hId _ _ _ hd1 h0, hD⟩ Ax hAx (fun A B hlt hd => ⟨hd.blk _ (by omega) (fun h => h), hKd A B hd⟩) hassign (fun s A B hd hs => ⟨hId s A B hd hs.1, hd.keeps hs.2 (fun h => h)⟩) (fun pre x a1 W hi hat hax hr => ?_)
   · refine calls_any (hc.mono ?_)
     rintro e W2 ⟨⟨v, rfl⟩, h | ⟨c, ⟨hi, hk⟩, hl⟩⟩
     · obtain ⟨xs, hS, ⟨hi, hk⟩, hl⟩ := h
       have hd : Df (fun q => q = w.heap.size + 1) W2 (W2.putObj (w.heap.size + 1) (.loop { rec .ready none with state := .exhausted })) := Df.put _ _ _
       refine ⟨none, _, ?_, hdone xs _ hS (hI _ _ _ ⟨_, hl⟩ hd hi) ((World.putObj_heap_other (by omega)).trans hk)⟩
       have := run_endLoop (P := P) hl (by rw [hrec]; simp)
       rw [this, hrec]
     · have hd : Df (fun q => q = w.heap.size + 1) W2 (W2.putObj (w.heap.size + 1) (.loop { rec .done (some c) with state := .exhausted })) := Df.put _ _ _
       refine ⟨some c, _, ?_, hstop c _ (hIx _ _ _ ⟨_, hl⟩ hd hi) ((World.putObj_heap_other (by omega)).trans hk)⟩
       have := run_endLoop (P := P) hl (by rw [hrec]; simp)
       rw [this, hrec]
   · refine wpIn_mono (hbody pre x a1 W hi.1 hat hax hi.2 ⟨_, hr⟩) ?_
     rintro e a3 W3 hp
     cases e with
     | normal => exact ⟨hp.1, ⟨hp.2.1, hp.2.2.1⟩, hp.2.2.2, hp.2.1.trans hi.2⟩
     | ret => exact ⟨hp.1, hp.2.2, hp.2.1.trans hi.2⟩
     | exit id => exact ⟨hp.1, hp.2.2, hp.2.1.trans hi.2⟩
     | goto t => exact ⟨hp.1, hp.2.2, hp.2.1.trans hi.2⟩
     | panic ch => exact hp.elim
     | outgrown => exact hp.elim
end law
end Go.Proofs.YtmkhoocokpkojaaGreatDoor.rangeNo
namespace Go.Proofs.YtmkhoocokpkojaaGreatDoor.backFact
open Go.RowKit Go.Deep Go.Shelf Go base rangeAt rangeTwo rangeNo
set_option linter.unusedVariables false
attribute [local go_sem] Oper.semAt_some
structure Row2 (W : World) (a : Option Addr) (len : Nat) (zs : List (Int × Int)) : Prop where
 length : zs.length = len
 most : len ≤ maxLen
 cell : ∀ i, i < len → ∃ b off, a = some ⟨b, off, none⟩ ∧ W.cell? ⟨b, off + i * 2, none⟩ = some (.int .i64 (zs[i]?.getD (0, 0)).1) ∧ W.cell? ⟨b, off + i * 2 + 1, none⟩ = some (.int .i64 (zs[i]?.getD (0, 0)).2)
theorem Row2.below {W W' : World} {a : Option Addr} {len : Nat} {zs : List (Int × Int)} (h : Row2 W a len zs) (hb : Below W.heap.size W W') : Row2 W' a len zs := ⟨h.length, h.most, fun i hi => by
 obtain ⟨b, off, e, h1, h2⟩ := h.cell i hi
 exact ⟨b, off, e, keep hb h1, keep hb h2⟩⟩
theorem Row2.same {W W' : World} {a : Option Addr} {len : Nat} {zs : List (Int × Int)} (h : Row2 W a len zs) (hb : ∀ b off, a = some ⟨b, off, none⟩ → W'.heap[b]? = W.heap[b]?) : Row2 W' a len zs := ⟨h.length, h.most, fun i hi => by
 obtain ⟨b, off, e, h1, h2⟩ := h.cell i hi
 exact ⟨b, off, e, (World.cell?_of_block (a := ⟨b, off + i * 2, none⟩) (hb b off e)).trans h1, (World.cell?_of_block (a := ⟨b, off + i * 2 + 1, none⟩) (hb b off e)).trans h2⟩⟩
def upto {α : Type} (f : Nat → α) (k : Nat) : List α := (List.range k).map f
theorem upto_succ {α : Type} (f : Nat → α) (k : Nat) : upto f (k + 1) = upto f k ++ [f k] := by simp [upto, List.range_succ]
theorem upto_length {α : Type} (f : Nat → α) (k : Nat) : (upto f k).length = k := by simp [upto]
def Held (Bs : Nat) (a : Option Addr) (len cap : Nat) (zs : List (Int × Int)) (W : World) : Prop := W.cell? ⟨Bs, 0, none⟩ = some (.slice a len cap) ∧ Row2 W a len zs
set_option maxRecDepth 100000 in
set_option maxHeartbeats 2000000 in
theorem back_no {α : Type} (encs : α → Array Value) (f : Nat → α) (Bs len cap : Nat) (a : Option Addr) (zs : List (Int × Int)) (he : ∀ k : Nat, k < len → encs (f k) = #[.int .i64 ((len : Int) - 1 - k), .agg #[.int .i64 (zs[len - 1 - k]?.getD (0, 0)).1, .int .i64 (zs[len - 1 - k]?.getD (0, 0)).2]]) :
  SeqNo Tryz.prog 104 #[.pointer (some ⟨Bs, 0, none⟩)] encs (fun pre x => ∃ k, k < len ∧ pre = upto f k ∧ x = f k) (fun A B => Held Bs a len cap zs A → Held Bs a len cap zs B) (fun xs => xs = upto f len) (Held Bs a len cap zs) := by
 intro l J Jx W hG hY h0
 have hmost := hG.2.most
 unfold maxLen at hmost
 have HG := hid hG
 have hBs := hG.1
 have HE := hid he
 clear hG he
 refine callsIn_of_wp Tryz.func104 rfl trivial ?_ rfl
 simp only [Tryz.ntmps104, List.size_toArray, List.length_cons, List.length_nil, Nat.reduceAdd, Nat.reduceSub, Array.replicate_succ, Array.replicate_zero, List.push_toArray, List.append_toArray, List.nil_append, List.cons_append]
 gi_wp2
 clear hBs
 gi_loopw [3] (fun i wr => ∃ k : Nat, k ≤ len ∧ i = .int .i64 ((len : Int) - 1 - k) ∧ J (upto f k) wr ∧ Held Bs a len cap zs wr)
  (fun i _ => ((intOf i) + 1).toNat)
 case atStart => exact ⟨0, Nat.zero_le _, by simp, h0, HG.out⟩
 case round =>
  obtain ⟨k, hk, rfl, hJs, hc, hr⟩ := hrel
  have HR := hid hr
  have HC := hid hc
  clear hr
  by_cases hlt : k < len
  · obtain ⟨fn, tmps, assign, body, hy, hR⟩ := yield_any (m' := 8) (hY _ (f k) wr hJs ⟨k, hlt, rfl, rfl⟩)
    rw [HE.out k hlt] at hy
    obtain ⟨b, off, ha, hcx, hcy⟩ := HR.out.cell (len - 1 - k) (by omega)
    obtain ⟨t, ht⟩ : ∃ t : Nat, (len : Int) - 1 - k = (t : Int) := ⟨len - 1 - k, by omega⟩
    have ht2 : len - 1 - k = t := by omega
    rw [ht2] at hy hcx hcy
    rw [ht] at hy ⊢
    have HT := hid ht
    have htl : (t : Int) < (len : Int) := by omega
    have hg0 : decide ((0 : Int) ≤ (t : Int)) = true := decide_eq_true (by omega)
    clear ht ht2
    subst ha
    gi_wp2
    refine hR.mono ?_
    rintro e W3 (⟨rfl, hJ3, hk3⟩ | ⟨rfl, hJx3⟩)
    · have HG3 := hid (hk3 ⟨HC.out, HR.out⟩)
      gi_wp2
      go_roundw
      case rel => exact ⟨k + 1, by omega, by rw [show (len : Int) - 1 - (k + 1 : Nat) = (t : Int) - 1 by have := HT.out; omega], by rw [upto_succ]; exact hJ3, HG3.out⟩
      case measure => simp [intOf]
    · gi_wp2
      refine bodyPost_ret (results_none rfl _ _ _) rfl ?_
      exact ⟨⟨_, rfl⟩, .inr hJx3⟩
  · obtain rfl : k = len := by omega
    have hg0 : decide ((0 : Int) ≤ (k : Int) - 1 - k) = false := decide_eq_false (by omega)
    rw [show (k : Int) - 1 - k = -1 by omega]
    gi_wp2
    go_end0
    exact ⟨⟨_, rfl⟩, .inl ⟨_, rfl, hJs⟩⟩
theorem back_two {α : Type} (encs : α → Array Value) (f : Nat → α) (Bs len cap : Nat) (a : Option Addr) (zs : List (Int × Int)) (he : ∀ k : Nat, k < len → encs (f k) = #[.int .i64 ((len : Int) - 1 - k), .agg #[.int .i64 (zs[len - 1 - k]?.getD (0, 0)).1, .int .i64 (zs[len - 1 - k]?.getD (0, 0)).2]]) :
  SeqTwo Tryz.prog 104 #[.pointer (some ⟨Bs, 0, none⟩)] encs (fun pre x _ => ∃ k, k < len ∧ pre = upto f k ∧ x = f k) (fun _ A B => Held Bs a len cap zs A → Held Bs a len cap zs B) (fun _ => False) (fun xs => xs = upto f len) (Held Bs a len cap zs) (fun _ => True) :=
 fun l J Jx W hG _ _ hY h0 => (back_no encs f Bs len cap a zs he l J Jx W hG (fun pre x W1 h1 h2 => by
  obtain ⟨f1, t1, a1, b1, h3, h4⟩ := hY pre x W1 h1 h2
  exact ⟨f1, t1, a1, b1, h3, h4.mono fun e W' h5 => h5.elim .inl (fun h6 => .inr ⟨h6.1, h6.2.1⟩)⟩) h0).mono fun e W' h => ⟨h.1, h.2.elim (fun ⟨xs, h1, h2⟩ => .inl ⟨xs, h1, h2, trivial⟩) .inr⟩
theorem back_impl (a : Option Addr) (len cap : Nat) (w : World) :
  Calls Tryz.prog 94 #[.slice a len cap] w fun e w' => e = .returned (.func (.func 104) #[] #[.pointer (some ⟨w.heap.size, 0, none⟩)]) ∧ w' = w.alloc (.cells #[.slice a len cap] 69) := by
 go_enter Tryz.func94, Tryz.ntmps94
 go_wp2
 go_ret
 exact ⟨rfl, rfl⟩
end Go.Proofs.YtmkhoocokpkojaaGreatDoor.backFact
namespace Go.Proofs.YtmkhoocokpkojaaGreatDoor.marks
open Go.RowKit Go.Deep Go base
set_option linter.unusedVariables false
structure Ch (X : Nat → Prop) (W W' : World) : Prop where
 os : W'.os = W.os
 tape : W'.tape = W.tape
 output : W'.output = W.output
 size : W.heap.size ≤ W'.heap.size
 blk : ∀ q, q < W.heap.size → ¬ X q → W'.heap[q]? = W.heap[q]?
theorem Ch.of_grown {W W' : World} {row : Option Nat} (h : W.grownBy W' row) : Ch (fun q => some q = row) W W' := ⟨h.os, h.tape, h.output, h.size, h.block⟩
theorem Ch.refl (X : Nat → Prop) (W : World) : Ch X W W := ⟨rfl, rfl, rfl, Nat.le_refl _, fun _ _ _ => rfl⟩
theorem Ch.trans {X : Nat → Prop} {A B C : World} (h : Ch X A B) (k : Ch X B C) : Ch X A C := ⟨k.os.trans h.os, k.tape.trans h.tape, k.output.trans h.output, Nat.le_trans h.size k.size, fun q hq hx => (k.blk q (Nat.lt_of_lt_of_le hq h.size) hx).trans (h.blk q hq hx)⟩
theorem Ch.mono {X Y : Nat → Prop} {A B : World} (h : Ch X A B) (hx : ∀ q, X q → Y q) : Ch Y A B := ⟨h.os, h.tape, h.output, h.size, fun q hq hy => h.blk q hq (fun k => hy (hx q k))⟩
theorem Ch.set (W : World) (a : Addr) (v : Value) : Ch (fun q => q = a.block) W (W.setCell a v) := ⟨rfl, rfl, rfl, by simp [World.setCell], fun q _ hx => Below.heap_setCell _ _ _ _ hx⟩
theorem Ch.alloc (X : Nat → Prop) (W : World) (ob : Obj) : Ch X W (W.alloc ob) := ⟨rfl, rfl, rfl, by simp, fun q hq _ => Below.heap_alloc W ob q hq⟩
theorem Ch.below {W W' : World} (X : Nat → Prop) (h : Below W.heap.size W W') : Ch X W W' := ⟨h.os, h.tape, h.output, h.size, fun q hq _ => h.block q hq⟩
theorem Ch.grown {X : Nat → Prop} {b : Nat} {W W' : World} (h : Ch X W W') (hx : ∀ q, q < W.heap.size → X q → q = b) : W.grownBy W' (some b) := ⟨h.os, h.tape, h.output, h.size, fun j hj hne => h.blk j hj (fun k => hne (by rw [hx j hj k]))⟩
variable {W W' : World} {X : Nat → Prop}
structure Mk (B : Nat) (Ds : List Nat) (W : World) : Prop where
 one : Ds.Nodup
 at_ : ∀ D, D ∈ Ds → B ≤ D ∧ W.heap[D]? = some (.deferred (some []))
theorem Mk.nil (B : Nat) (W : World) : Mk B [] W := ⟨List.nodup_nil, fun D h => by cases h⟩
theorem Mk.lt {B : Nat} {Ds : List Nat} (h : Mk B Ds W) {D : Nat} (hD : D ∈ Ds) : D < W.heap.size := (Array.getElem?_eq_some_iff.1 (h.at_ D hD).2).1
theorem Mk.cons {B D : Nat} {Ds : List Nat} (h : Mk B Ds W) (hD : W.heap[D]? = some (.deferred (some []))) (hB : B ≤ D) (hl : ∀ D' ∈ Ds, D' < D) : Mk B (D :: Ds) W :=
 ⟨List.nodup_cons.2 ⟨fun h1 => Nat.lt_irrefl _ (hl D h1), h.one⟩, fun D' h' => by
  rcases List.mem_cons.1 h' with e | h'
  · subst e; exact ⟨hB, hD⟩
  · exact h.at_ D' h'⟩
theorem Mk.ch {B : Nat} {Ds : List Nat} (h : Mk B Ds W) (hc : Ch X W W') (hx : ∀ D ∈ Ds, ¬ X D) : Mk B Ds W' := ⟨h.one, fun D hD => ⟨(h.at_ D hD).1, (hc.blk D (h.lt hD) (hx D hD)).trans (h.at_ D hD).2⟩⟩
theorem Mk.cells {B : Nat} {Ds : List Nat} (h : Mk B Ds W) (hc : Ch X W W') (hx : ∀ q, X q → ∃ cs t fr, W.heap[q]? = some (.cells cs t fr)) : Mk B Ds W' := h.ch hc fun D hD k => by
 obtain ⟨cs, t, fr, hh⟩ := hx D k
 rw [(h.at_ D hD).2] at hh
 cases hh
structure Fin (Ds : List Nat) (W W' : World) : Prop extends Ch (fun q => q ∈ Ds) W W'
def markD (D : Nat) : Deferred := { target := .collected D, args := #[] }
theorem leaves_marks {P : Program} {n : Nat} {fn : Func} {tmps : Array Value} {R : Ending → World → Prop} {B : Nat} : ∀ (Ds : List Nat) (W : World), Mk B Ds W → (∀ W', Ch (fun q => q ∈ Ds) W W' → LeavesInM Fence.wide n P fn tmps R [] .returning W') → LeavesInM Fence.wide n P fn tmps R (Ds.map markD) .returning W
 | [], W, _, h => h W (Ch.refl _ _)
 | D :: Ds, W, hm, h => by
  have hD := (hm.at_ D List.mem_cons_self).2
  have hg := grownBy_putObj' W D (.deferred none)
  refine ⟨by simp, .inl ⟨D, _, rfl, run_takeDeferred hD, leaves_marks Ds _ (Mk.ch ⟨(List.nodup_cons.1 hm.one).2, fun D' h' => hm.at_ D' (List.mem_cons_of_mem _ h')⟩ (Ch.of_grown hg) (fun D' h' e => ?_)) (fun W' hc => h W' ?_)⟩⟩
  · injection e with e
    subst e
    exact (List.nodup_cons.1 hm.one).1 h'
  · refine ((Ch.of_grown hg).mono (fun q e => ?_)).trans (hc.mono (fun q hq => List.mem_cons_of_mem _ hq))
    injection e with e
    subst e
    exact List.mem_cons_self
end Go.Proofs.YtmkhoocokpkojaaGreatDoor.marks
