/- Trees of expressions as they lie in memory: what a row of them reads as, and what is told of a tree; of no program; conditions: none. -/
import Derived.Test.YtaileckcflnbdaaBase
namespace Go.Proofs.Ytaileckcflnbdaa.trees
open Go.RowKit Go.Deep base
set_option linter.unusedVariables false

/-- A tree: at each path a kind, a number and how many kids. -/
abbrev T := List Nat → Int × Int × Nat
def kd (t : T) : Int := (t []).1
def nn (t : T) : Int := (t []).2.1
def ln (t : T) : Nat := (t []).2.2
def kid (t : T) (i : Nat) : T := fun p => t (i :: p)
/-- A tree of a root over trees. -/
def mkT (k n : Int) (l : Nat) (f : Nat → T) : T := fun p => match p with
  | [] => (k, n, l)
  | i :: p => f i p
theorem kid_mkT (k n : Int) (l : Nat) (f : Nat → T) (i : Nat) : kid (mkT k n l f) i = f i := rfl

def sumTo (f : Nat → Nat) : Nat → Nat
  | 0 => 0
  | n + 1 => sumTo f n + f n
def maxTo (f : Nat → Nat) : Nat → Nat
  | 0 => 0
  | n + 1 => max (maxTo f n) (f n)
def allTo (f : Nat → Bool) : Nat → Bool
  | 0 => true
  | n + 1 => allTo f n && f n
theorem sumTo_le {f : Nat → Nat} {n m : Nat} (h : n ≤ m) : sumTo f n ≤ sumTo f m := by
  induction m with
  | zero => obtain rfl : n = 0 := by omega
            exact Nat.le_refl _
  | succ m ih =>
    by_cases e : n = m + 1
    · subst e; exact Nat.le_refl _
    · have := ih (by omega); simp only [sumTo]; omega
theorem maxTo_le {f : Nat → Nat} {i n : Nat} (h : i < n) : f i ≤ maxTo f n := by
  induction n with
  | zero => omega
  | succ n ih =>
    simp only [maxTo]
    by_cases e : i = n
    · subst e; omega
    · have := ih (by omega); omega
theorem allTo_true {f : Nat → Bool} {n : Nat} (h : allTo f n = true) {i : Nat} (hi : i < n) : f i = true := by
  induction n with
  | zero => omega
  | succ n ih =>
    simp only [allTo, Bool.and_eq_true] at h
    by_cases e : i = n
    · subst e; exact h.2
    · exact ih h.1 (by omega)
theorem allTo_false {f : Nat → Bool} {n i : Nat} (hi : i < n) (h : f i = false) : allTo f n = false := by
  cases h' : allTo f n with
  | false => rfl
  | true => rw [allTo_true h' hi] at h; exact h

/-- A row of trees in memory; q holds of each block that is read; M bounds the rows. -/
def Rd (q : Nat → Prop) (M : Nat) (w : World) : Nat → T → Option Addr → Nat → Prop
  | 0, t, _, l => ln t = l ∧ l = 0
  | d + 1, t, a, l => ln t = l ∧ l ≤ M ∧ ∀ i, i < l → ∃ b off, a = some ⟨b, off, none⟩ ∧ q b ∧ w.cell? ⟨b, off + i * 3, none⟩ = some (.int .i64 (kd (kid t i))) ∧ w.cell? ⟨b, off + i * 3 + 1, none⟩ = some (.int .i64 (nn (kid t i))) ∧
      ∃ a' l' c', w.cell? ⟨b, off + i * 3 + 2, none⟩ = some (.slice a' l' c') ∧ Rd q M w d (kid t i) a' l'

variable {q q' : Nat → Prop} {M d : Nat} {w w' : World} {t : T} {a : Option Addr} {l : Nat}

theorem Rd.len (h : Rd q M w d t a l) : ln t = l := by
  cases d with
  | zero => exact h.1
  | succ d => exact h.1
theorem Rd.zero (h : Rd q M w d t a l) (e : d = 0) : ln t = 0 := by
  subst e; exact h.1.trans h.2
theorem Rd.most (h : Rd q M w d t a l) : l ≤ M := by
  cases d with
  | zero => rw [h.2]; exact Nat.zero_le _
  | succ d => exact h.2.1
theorem Rd.cell (h : Rd q M w d t a l) {i : Nat} (hi : i < l) : 0 < d ∧ ∃ b off, a = some ⟨b, off, none⟩ ∧ q b ∧ w.cell? ⟨b, off + i * 3, none⟩ = some (.int .i64 (kd (kid t i))) ∧ w.cell? ⟨b, off + i * 3 + 1, none⟩ = some (.int .i64 (nn (kid t i))) ∧
      ∃ a' l' c', w.cell? ⟨b, off + i * 3 + 2, none⟩ = some (.slice a' l' c') ∧ Rd q M w (d - 1) (kid t i) a' l' := by
  cases d with
  | zero => have := h.2; omega
  | succ d => exact ⟨Nat.succ_pos _, h.2.2 i hi⟩
theorem Rd.kept (h : Rd q M w d t a l) (hk : ∀ b o v, q b → w.cell? ⟨b, o, none⟩ = some v → w'.cell? ⟨b, o, none⟩ = some v ∧ q' b) : Rd q' M w' d t a l := by
  induction d generalizing t a l with
  | zero => exact h
  | succ d ih =>
    refine ⟨h.1, h.2.1, fun i hi => ?_⟩
    obtain ⟨b, off, e, hq, h0, h1, a', l', c', h2, hr⟩ := h.2.2 i hi
    exact ⟨b, off, e, (hk _ _ _ hq h0).2, (hk _ _ _ hq h0).1, (hk _ _ _ hq h1).1, a', l', c', (hk _ _ _ hq h2).1, ih hr⟩
theorem Rd.below (h : Rd q M w d t a l) (hb : Below w.heap.size w w') : Rd q M w' d t a l := h.kept fun b o v hq hc => ⟨keep hb hc, hq⟩
theorem Rd.old (h : Rd q M w d t a l) : Rd (fun b => b < w.heap.size) M w d t a l := h.kept fun b o v hq hc => ⟨hc, World.block_lt_of_cell? _ _ hc⟩
theorem Rd.imp (h : Rd q M w d t a l) (hq : ∀ b, q b → q' b) : Rd q' M w d t a l := h.kept fun b o v h1 hc => ⟨hc, hq b h1⟩
theorem Rd.set (h : Rd q M w d t a l) {x : Addr} (hx : ¬ q x.block) (v : Value) : Rd q M (w.setCell x v) d t a l :=
  h.kept fun b o u hq hc => ⟨(World.cell?_setCell_other _ _ _ _ (by intro e; rw [e] at hx; exact hx hq)).trans hc, hq⟩
theorem Rd.wide (h : Rd q M w d t a l) {M' : Nat} (hM : M ≤ M') : Rd q M' w d t a l := by
  induction d generalizing t a l with
  | zero => exact h
  | succ d ih =>
    refine ⟨h.1, Nat.le_trans h.2.1 hM, fun i hi => ?_⟩
    obtain ⟨b, off, e, hq, h0, h1, a', l', c', h2, hr⟩ := h.2.2 i hi
    exact ⟨b, off, e, hq, h0, h1, a', l', c', h2, ih hr⟩

theorem Rd.more (h : Rd q M w d t a l) {d' : Nat} (hd : d ≤ d') : Rd q M w d' t a l := by
  induction d generalizing t a l d' with
  | zero =>
    cases d' with
    | zero => exact h
    | succ d' => exact ⟨h.1, by rw [h.2]; exact Nat.zero_le _, fun i hi => by have := h.2; omega⟩
  | succ d ih =>
    cases d' with
    | zero => omega
    | succ d' =>
      refine ⟨h.1, h.2.1, fun i hi => ?_⟩
      obtain ⟨b, off, e, hq, h0, h1, a', l', c', h2, hr⟩ := h.2.2 i hi
      exact ⟨b, off, e, hq, h0, h1, a', l', c', h2, ih hr (by omega)⟩

/-- No row of it is longer than a million. -/
def small : Nat → T → Prop
  | 0, _ => True
  | d + 1, t => ln t ≤ 1048576 ∧ ∀ i, i < ln t → small d (kid t i)
theorem small_of (h0 : d = 0 → ln t = 0) (h1 : ln t ≤ 1048576) (h2 : ∀ i, i < ln t → small (d - 1) (kid t i)) : small d t := by
  cases d with
  | zero => trivial
  | succ d => exact ⟨h1, h2⟩
theorem small_len (h0 : d = 0 → ln t = 0) (h : small d t) : ln t ≤ 1048576 := by
  cases d with
  | zero => rw [h0 rfl]; omega
  | succ d => exact h.1
theorem small_kid (h0 : d = 0 → ln t = 0) (h : small d t) {i : Nat} (hi : i < ln t) : small (d - 1) (kid t i) := by
  cases d with
  | zero => rw [h0 rfl] at hi; omega
  | succ d => exact h.2 i hi

def size : Nat → T → Nat
  | 0, _ => 1
  | d + 1, t => 1 + sumTo (fun i => size d (kid t i)) (ln t)
def depth : Nat → T → Nat
  | 0, _ => 1
  | d + 1, t => 1 + maxTo (fun i => depth d (kid t i)) (ln t)
def kidsOf (k : Int) : Int := if k = 1 ∨ k = 2 then 0 else if k = 3 then 1 else if k = 4 ∨ k = 5 ∨ k = 6 then 2 else if k = 7 then 3 else -1
def mostN (k : Int) : Int := if k = 1 then 11 else if k = 2 then 1 else 0
def shapeT (t : T) : Bool := decide ((ln t : Int) = kidsOf (kd t) ∧ 0 ≤ nn t ∧ nn t ≤ mostN (kd t))
def right : Nat → T → Bool
  | 0, t => shapeT t
  | d + 1, t => shapeT t && allTo (fun i => right d (kid t i)) (ln t)
theorem size_eq (h0 : d = 0 → ln t = 0) : size d t = 1 + sumTo (fun i => size (d - 1) (kid t i)) (ln t) := by
  cases d with
  | zero => rw [h0 rfl]; rfl
  | succ d => rfl
theorem depth_eq (h0 : d = 0 → ln t = 0) : depth d t = 1 + maxTo (fun i => depth (d - 1) (kid t i)) (ln t) := by
  cases d with
  | zero => rw [h0 rfl]; rfl
  | succ d => rfl
theorem right_eq (h0 : d = 0 → ln t = 0) : right d t = (shapeT t && allTo (fun i => right (d - 1) (kid t i)) (ln t)) := by
  cases d with
  | zero => rw [h0 rfl]; simp [right, allTo]
  | succ d => rfl
/-- Right, with so many nodes ahead of it and so deep. -/
def okB (d : Nat) (t : T) (dep n : Nat) : Bool := decide (n + size d t ≤ 400 ∧ dep + depth d t ≤ 41) && right d t

theorem sumTo_succ (f : Nat → Nat) (n : Nat) : sumTo f (n + 1) = sumTo f n + f n := rfl
theorem maxTo_of {f : Nat → Nat} {n m : Nat} (h : ∀ i, i < n → f i ≤ m) : maxTo f n ≤ m := by
  induction n with
  | zero => exact Nat.zero_le _
  | succ n ih =>
    simp only [maxTo]
    have h1 := ih fun i hi => h i (by omega)
    have h2 := h n (by omega)
    omega
theorem allTo_of {f : Nat → Bool} {n : Nat} (h : ∀ i, i < n → f i = true) : allTo f n = true := by
  induction n with
  | zero => rfl
  | succ n ih => simp only [allTo, Bool.and_eq_true]; exact ⟨ih fun i hi => h i (by omega), h n (by omega)⟩
theorem okB_iff {dep n : Nat} : okB d t dep n = true ↔ n + size d t ≤ 400 ∧ dep + depth d t ≤ 41 ∧ right d t = true := by
  simp [okB, and_assoc]
theorem size_pos (h0 : d = 0 → ln t = 0) : 1 ≤ size d t := by rw [size_eq h0]; omega
theorem depth_pos (h0 : d = 0 → ln t = 0) : 1 ≤ depth d t := by rw [depth_eq h0]; omega
theorem okB_shape (h0 : d = 0 → ln t = 0) {dep n : Nat} (h : shapeT t = false) : okB d t dep n = false := by
  cases e : okB d t dep n with
  | false => rfl
  | true =>
    have := (okB_iff.1 e).2.2
    rw [right_eq h0, h] at this
    simp at this
theorem okB_long (h0 : d = 0 → ln t = 0) {dep n : Nat} (h : 400 ≤ n ∨ 41 ≤ dep) : okB d t dep n = false := by
  cases e : okB d t dep n with
  | false => rfl
  | true =>
    have h1 := okB_iff.1 e
    have h2 := size_pos h0
    have h3 := depth_pos h0
    omega
theorem okB_kid (h0 : d = 0 → ln t = 0) {dep n : Nat} (h : okB d t dep n = true) {i : Nat} (hi : i < ln t) : okB (d - 1) (kid t i) (dep + 1) (n + 1 + sumTo (fun i => size (d - 1) (kid t i)) i) = true := by
  obtain ⟨h1, h2, h3⟩ := okB_iff.1 h
  rw [size_eq h0] at h1
  rw [depth_eq h0] at h2
  rw [right_eq h0, Bool.and_eq_true] at h3
  have h4 := sumTo_le (f := fun i => size (d - 1) (kid t i)) (show i + 1 ≤ ln t from hi)
  rw [sumTo_succ] at h4
  have h5 := maxTo_le (f := fun i => depth (d - 1) (kid t i)) hi
  have h6 := allTo_true h3.2 hi
  exact okB_iff.2 ⟨by omega, by omega, h6⟩
theorem okB_of (h0 : d = 0 → ln t = 0) {dep n : Nat} (hs : shapeT t = true) (hn : n + 1 ≤ 400) (hd : dep ≤ 40) (h : ∀ i, i < ln t → okB (d - 1) (kid t i) (dep + 1) (n + 1 + sumTo (fun i => size (d - 1) (kid t i)) i) = true) : okB d t dep n = true := by
  refine okB_iff.2 ⟨?_, ?_, ?_⟩
  · rw [size_eq h0]
    by_cases e : ln t = 0
    · rw [e]; simp only [sumTo]; omega
    · have h1 := (okB_iff.1 (h (ln t - 1) (by omega))).1
      have h2 : sumTo (fun i => size (d - 1) (kid t i)) (ln t) = sumTo (fun i => size (d - 1) (kid t i)) (ln t - 1) + size (d - 1) (kid t (ln t - 1)) := by
        have e1 : ln t = (ln t - 1) + 1 := by omega
        rw [e1, sumTo_succ, Nat.add_sub_cancel]
      omega
  · rw [depth_eq h0]
    have := maxTo_of (f := fun i => depth (d - 1) (kid t i)) (n := ln t) (m := 40 - dep) fun i hi => by
      have := (okB_iff.1 (h i hi)).2.1
      show depth (d - 1) (kid t i) ≤ 40 - dep
      omega
    omega
  · rw [right_eq h0, hs, Bool.true_and]
    exact allTo_of fun i hi => (okB_iff.1 (h i hi)).2.2

/-- Only block B, of what there was, may have changed. -/
structure Oth (B : Nat) (w w' : World) : Prop where
  os : w'.os = w.os
  tape : w'.tape = w.tape
  output : w'.output = w.output
  size : w.heap.size ≤ w'.heap.size
  block : ∀ k, k < w.heap.size → k ≠ B → w'.heap[k]? = w.heap[k]?
theorem Oth.refl (B : Nat) (w : World) : Oth B w w := ⟨rfl, rfl, rfl, Nat.le_refl _, fun _ _ _ => rfl⟩
theorem Oth.trans {B : Nat} {x y z : World} (h : Oth B x y) (k : Oth B y z) : Oth B x z :=
  ⟨k.os.trans h.os, k.tape.trans h.tape, k.output.trans h.output, Nat.le_trans h.size k.size, fun i hi hn => (k.block i (Nat.lt_of_lt_of_le hi h.size) hn).trans (h.block i hi hn)⟩
theorem Oth.of_below (B : Nat) (hb : Below w.heap.size w w') : Oth B w w' := ⟨hb.os, hb.tape, hb.output, hb.size, fun i hi _ => hb.block i hi⟩
theorem Oth.below {B N : Nat} (h : Oth B w w') (hN : N ≤ w.heap.size) (hB : N ≤ B) : Below N w w' := ⟨h.os, h.tape, h.output, h.size, fun i hi => h.block i (by omega) (by omega)⟩
theorem Oth.cell {B : Nat} (h : Oth B w w') {b o : Nat} {v : Value} (hn : b ≠ B) (hc : w.cell? ⟨b, o, none⟩ = some v) : w'.cell? ⟨b, o, none⟩ = some v := by
  rw [World.cell?_of_block (w := w) (a := ⟨b, o, none⟩) (h.block b (World.block_lt_of_cell? _ _ hc) hn)]; exact hc
theorem Oth.set (B : Nat) (w : World) (o : Nat) (v : Value) : Oth B w (w.setCell ⟨B, o, none⟩ v) :=
  ⟨rfl, rfl, rfl, by simp [World.setCell], fun k hk hn => Below.heap_setCell _ _ _ _ hn⟩
theorem set_facts {B : Nat} {w : World} {v0 v : Value} (h : w.cell? ⟨B, 0, none⟩ = some v0) : (w.setCell ⟨B, 0, none⟩ v).cell? ⟨B, 0, none⟩ = some v := World.cell?_setCell_same _ _ _ h
theorem Oth.then {B : Nat} {w x y : World} (h : Oth B w x) (hb : Below x.heap.size x y) : Oth B w y := h.trans (Oth.of_below B hb)
theorem Rd.oth {B : Nat} (h : Rd (fun b => b ≠ B) M w d t a l) (ho : Oth B w w') : Rd (fun b => b ≠ B) M w' d t a l := h.kept fun b o v hq hc => ⟨ho.cell hq hc, hq⟩
end Go.Proofs.Ytaileckcflnbdaa.trees
