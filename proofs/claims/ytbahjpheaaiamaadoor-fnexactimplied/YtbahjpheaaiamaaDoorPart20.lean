/- SolLastT; SolAddM: one text, so that the claim has fewer files. -/
import Derived.Test.YtbahjpheaaiamaaDoorSolMem
import Derived.Test.YtbahjpheaaiamaaDoorPart17
import Derived.Test.YtbahjpheaaiamaaDoorPart19
import Derived.Test.YtbahjpheaaiamaaDoorPart16
/- A solver of the program: the literal of a clause that became false last (lastFalse); conditions: a trail of literals of at most 40 variables. -/
namespace Go.Proofs.YtbahjpheaaiamaaDoor.solLastT
open Go.RowKit Go.Deep Go.Shelf Go base sets solSets solOps solMath solMem solTrail rangeAt rangeTwo backFact
open marks (Mk markD leaves_marks Ch)
set_option linter.unusedVariables false
set_option linter.unusedSimpArgs false
attribute [local go_sem] Oper.semAt_some

/-- The literal of a clause that became false last, 0 if there is none. -/
def lastF (T : TR) (c : LS) : Int := match T.reverse.find? (fun p => mem c (-p.1)) with
  | some p => -p.1
  | none => 0
theorem last_cases (T : TR) (c : LS) : (lastF T c = 0 ∧ ∀ p ∈ T, mem c (-p.1) = false) ∨ ∃ p ∈ T, lastF T c = -p.1 ∧ mem c (-p.1) = true := by
  unfold lastF
  cases h : T.reverse.find? (fun p => mem c (-p.1)) with
  | none =>
    left
    rw [List.find?_eq_none] at h
    exact ⟨rfl, fun p hp => by have := h p (by simpa using hp); simpa using this⟩
  | some p =>
    right
    exact ⟨p, by have := List.mem_of_find?_eq_some h; simpa using this, rfl, by have := List.find?_some h; simpa using this⟩
theorem find_pre {α : Type} {q : α → Bool} : ∀ (L : List α) (k : Nat), k < L.length → (∀ i, i < k → ∀ x, L[i]? = some x → q x = false) → ∀ x, L[k]? = some x → q x = true → L.find? q = some x
  | [], k, hk, _, _, _, _ => absurd hk (Nat.not_lt_zero _)
  | y :: L, 0, _, _, x, h, hq => by
    have e : y = x := by simpa using h
    subst e
    rw [List.find?_cons_of_pos hq]
  | y :: L, k + 1, hk, hp, x, h, hq => by
    rw [List.find?_cons_of_neg (by have := hp 0 (Nat.succ_pos _) y rfl; simp [this])]
    exact find_pre L k (by simpa using hk) (fun i hi z hz => hp (i + 1) (by omega) z (by simpa using hz)) x (by simpa using h) hq
theorem last_hit {T : TR} {c : LS} {k : Nat} (hk : k < T.length) (hp : ∀ i, i < k → mem c (-(T[T.length - 1 - i]?.getD (0, 0)).1) = false) (h : mem c (-(T[T.length - 1 - k]?.getD (0, 0)).1) = true) : lastF T c = -(T[T.length - 1 - k]?.getD (0, 0)).1 := by
  have hg : ∀ i, i < T.length → T.reverse[i]? = some (T[T.length - 1 - i]?.getD (0, 0)) := fun i hi => by
    rw [List.getElem?_reverse hi, List.getElem?_eq_getElem (by omega)]; rfl
  have := find_pre (q := fun p => mem c (-p.1)) T.reverse k (by simpa using hk) (fun i hi x hx => by
    rw [hg i (by omega)] at hx
    injection hx with hx
    rw [← hx]; exact hp i hi) _ (hg k hk) h
  unfold lastF
  rw [this]
theorem last_none {T : TR} {c : LS} (hp : ∀ i, i < T.length → mem c (-(T[T.length - 1 - i]?.getD (0, 0)).1) = false) : lastF T c = 0 := by
  rcases last_cases T c with h | ⟨p, h1, _, h3⟩
  · exact h.1
  · obtain ⟨i, hi, e⟩ := List.getElem_of_mem h1
    have := hp (T.length - 1 - i) (by omega)
    rw [show T.length - 1 - (T.length - 1 - i) = i by omega, List.getElem?_eq_getElem hi] at this
    simp only [Option.getD_some, e, h3] at this
    cases this
theorem held_put {Bs len cap q : Nat} {a : Option Addr} {zs : List (Int × Int)} {W : World} {o o' : Obj} (hq : W.heap[q]? = some o) (hc : o.isCells = false) (h : Held Bs a len cap zs W) : Held Bs a len cap zs (W.putObj q o') := by
  have hk : ∀ b j x, W.cell? ⟨b, j, none⟩ = some x → (W.putObj q o').cell? ⟨b, j, none⟩ = some x := fun b j x hx => cell_kept hx (grownBy_putObj' W q o') (fun r e => by cases e; exact ⟨o, hq, hc⟩)
  exact ⟨hk _ _ _ h.1, h.2.length, h.2.most, fun i hi => by obtain ⟨b, off, e, h1, h2⟩ := h.2.cell i hi; exact ⟨b, off, e, hk _ _ _ h1, hk _ _ _ h2⟩⟩
theorem held_df {X : Nat → Prop} {Bs len cap : Nat} {a : Option Addr} {zs : List (Int × Int)} {A B : World} (hd : Df X A B) (h0 : ¬ X Bs) (h1 : ∀ b off, 0 < len → a = some ⟨b, off, none⟩ → ¬ X b) (h : Held Bs a len cap zs A) : Held Bs a len cap zs B :=
  ⟨hd.cell h.1 h0, h.2.length, h.2.most, fun i hi => by obtain ⟨b, off, e, h2, h3⟩ := h.2.cell i hi; exact ⟨b, off, e, hd.cell h2 (h1 b off (by omega) e), hd.cell h3 (h1 b off (by omega) e)⟩⟩
set_option maxRecDepth 100000 in
set_option maxHeartbeats 2000000 in
theorem last_impl (ta : Option Addr) (tl tc M c1 c2 : Nat) (T : TR) (w : World) (hc : w.cell? ⟨M, 7, none⟩ = some (.slice ta tl tc)) (hr : Row2 w ta tl T) (wc : Wf (c1, c2)) (hT : ∀ p ∈ T, p.1 ≠ 0 ∧ -40 ≤ p.1 ∧ p.1 ≤ 40) :
    Calls Tryd.prog 58 #[.pointer (some ⟨M, 0, none⟩), .agg #[.int .u64 c1, .int .u64 c2]] w fun e w' => e = .returned (.int .i64 (lastF T (c1, c2))) ∧ Below w.heap.size w w' := by
  have HB := hid (fun W : World => back_impl ta tl tc W)
  have hM := World.block_lt_of_cell? _ _ hc
  simp only at hM
  have HR := hid hr
  have HTr : Hid (∀ i, i < tl → (T[tl - 1 - i]?.getD (0, 0)).1 ≠ 0 ∧ -40 ≤ (T[tl - 1 - i]?.getD (0, 0)).1 ∧ (T[tl - 1 - i]?.getD (0, 0)).1 ≤ 40) := hid (fun i hi => by
    have hl := hr.length
    rw [List.getElem?_eq_getElem (by omega)]
    exact hT _ (List.getElem_mem _))
  have HLen := hid hr.length
  have HWc := hid wc
  have HTa : Hid (∀ b off, 0 < tl → ta = some ⟨b, off, none⟩ → b < w.heap.size) := hid (fun b off h0 e => by
    obtain ⟨b', off', e', h1, _⟩ := hr.cell 0 h0
    rw [e] at e'
    injection e' with e'
    injection e' with e1 e2
    subst e1
    exact World.block_lt_of_cell? _ _ h1)
  clear hr hT wc
  refine (callsIn_wide (n := 9)).1 ?_
  refine callsIn_of_wp_marks Tryd.func58 rfl trivial ?_ rfl
  simp only [Tryd.ntmps58, List.size_toArray, List.length_cons, List.length_nil, Nat.reduceAdd, Nat.reduceSub, Array.replicate_succ, Array.replicate_zero, List.push_toArray, List.append_toArray, List.nil_append, List.cons_append]
  gi_wp2
  refine ⟨trivial, (callsIn_wide.2 (HB.out _)).mono ?_⟩
  rintro e W2 ⟨rfl, rfl⟩
  gi_wp2
  obtain ⟨W1, hW1⟩ : ∃ W1, ((w.alloc (.cells #[.int .u64 c1, .int .u64 c2] 51)).alloc (.cells #[.int .i64 0] 3)).alloc (.cells #[.slice ta tl tc] 66) = W1 := ⟨_, rfl⟩
  have hz1 : W1.heap.size = w.heap.size + 1 + 1 + 1 := by rw [← hW1]; simp
  have hB1 : Below w.heap.size w W1 := by rw [← hW1]; exact (by repeat (first | exact Below.refl _ _ | assumption | refine Below.drew ?_ | refine Below.alloc ?_ (by first | exact Nat.le_refl _ | omega | (simp; done) | (simp; omega)) _ | refine Below.setCell ?_ (by first | exact Nat.le_refl _ | omega | (simp; done) | (simp; omega)) _))
  have hx : ∀ (o1 o2 o3 : Obj), ((w.alloc o1).alloc o2).alloc o3 = W1 → W1.heap[w.heap.size]? = some o1 ∧ W1.heap[w.heap.size + 1]? = some o2 ∧ W1.heap[w.heap.size + 1 + 1]? = some o3 := fun o1 o2 o3 e => by
    rw [← e]
    have a1 := World.alloc_heap_new w o1
    have a2 := World.alloc_heap_new (w.alloc o1) o2
    have a3 := World.alloc_heap_new ((w.alloc o1).alloc o2) o3
    simp only [World.size_alloc] at a2 a3
    refine ⟨?_, ?_, a3⟩
    · rw [Below.heap_alloc _ _ _ (by simp; omega), Below.heap_alloc _ _ _ (by simp)]
      exact a1
    · rw [Below.heap_alloc _ _ _ (by simp)]
      exact a2
  obtain ⟨y1, y2, y3⟩ := hx _ _ _ hW1
  rw [hW1]
  have HHe : Hid (Held (w.heap.size + 1 + 1) ta tl tc T W1) := hid ⟨by simp [World.cell?, y3], HR.out.below hB1⟩
  have HB1 := hid hB1
  have HY1 := hid y1
  have HY2 := hid y2
  clear hW1 hx y1 y2 y3 hB1
  refine range_out (α := Nat) (back_two (fun (k : Nat) => #[.int .i64 ((tl : Int) - 1 - (k : Int)), .agg #[.int .i64 (T[tl - 1 - k]?.getD (0, 0)).1, .int .i64 (T[tl - 1 - k]?.getD (0, 0)).2]]) id (w.heap.size + 1 + 1) tl tc ta T (fun k hk => rfl)) rfl (enters_of Tryd.func75 (by kernel_rfl) rfl) (fun q hq => False.elim hq) (fun r => ?hstart) (fun h k x => k (h x)) (fun W' ob ob' h hc => held_put h hc) (fun _ => rfl)
    (fun pre A => Below W1.heap.size W1 A ∧ ∀ i, i < pre.length → i < tl → mem (c1, c2) (-(T[tl - 1 - i]?.getD (0, 0)).1) = false)
    (fun c A => c = .ret ∧ Df (fun q => q = w.heap.size + 1) W1 A ∧ A.heap[w.heap.size + 1]? = some (.cells #[.int .i64 (lastF T (c1, c2))] 3 (0, 0))) ?hI ?hIx (fun _ _ _ _ _ _ h => h) (fun _ _ _ _ _ => trivial) ⟨Below.refl _ _, fun i hi => absurd hi (Nat.not_lt_zero _)⟩
    (fun (k : Nat) a' A => ∃ ab, a' = ⟨#[.pointer (some ⟨M, 0, none⟩), .agg #[.int .u64 c1, .int .u64 c2], undef, .pointer (some ⟨w.heap.size, 0, none⟩), .pointer (some ⟨w.heap.size + 1, 0, none⟩), undef, .pointer (some ⟨ab, 0, none⟩), .pointer (some ⟨M, 0, none⟩), .pointer (some ⟨M, 0, none⟩), .pointer (some ⟨M, 7, none⟩), .slice ta tl tc, .func (.func 75) #[] #[.pointer (some ⟨w.heap.size + 1 + 1, 0, none⟩)], .int .i64 ((tl : Int) - 1 - k), .agg #[.int .i64 (T[tl - 1 - k]?.getD (0, 0)).1, .int .i64 (T[tl - 1 - k]?.getD (0, 0)).2], undef, undef, undef, undef, undef, undef, undef, undef], []⟩ ∧ A.heap[ab]? = some (.cells #[.int .i64 (T[tl - 1 - k]?.getD (0, 0)).1, .int .i64 (T[tl - 1 - k]?.getD (0, 0)).2] 87 (0, 0)) ∧ W1.heap.size + 1 < ab) ?hAx (fun _ _ h => held_df h (fun e => e) (fun _ _ _ _ e => e)) ?hassign ?hbody ?hdone ?hstop
  case hstart =>
    have hb : Below W1.heap.size W1 ((W1.alloc (.deferred (some []))).alloc (.loop r)) := (by repeat (first | exact Below.refl _ _ | assumption | refine Below.drew ?_ | refine Below.alloc ?_ (by first | exact Nat.le_refl _ | omega | (simp; done) | (simp; omega)) _ | refine Below.setCell ?_ (by first | exact Nat.le_refl _ | omega | (simp; done) | (simp; omega)) _))
    exact ⟨keep hb HHe.out.1, HHe.out.2.below hb⟩
  case hI =>
    rintro pre A A' hd ⟨h1, h2⟩
    exact ⟨⟨hd.os.trans h1.os, hd.tape.trans h1.tape, hd.output.trans h1.output, Nat.le_trans h1.size hd.size, fun j hj => (hd.blk j (Nat.lt_of_lt_of_le hj h1.size) (fun h => h.elim (fun e => e) (fun e => by have := e.1; omega))).trans (h1.block j hj)⟩, h2⟩
  case hIx =>
    rintro c A A' hd ⟨h1, h2, h3⟩
    exact ⟨h1, ⟨hd.os.trans h2.os, hd.tape.trans h2.tape, hd.output.trans h2.output, Nat.le_trans h2.size hd.size, fun j hj hx => (hd.blk j (Nat.lt_of_lt_of_le hj h2.size) (fun h => h.elim (fun e => e) (fun e => by have := e.1; omega))).trans (h2.blk j hj hx)⟩, hd.keeps h3 (fun h => h.elim (fun e => e) (fun e => by have := e.1; omega))⟩
  case hAx =>
    rintro x a A A' hd ⟨ab, h1, h2, h3⟩
    exact ⟨ab, h1, hd.keeps h2 (by omega), h3⟩
  case hassign =>
    intro x W' K hlt hK
    gi_wp2
    exact hK _ _ (Df.alloc _ _) ⟨W'.heap.size, rfl, World.alloc_heap_new W' _, hlt⟩
  case hdone =>
    rintro xs A hS ⟨h1, h2⟩ - hD
    have HN : Hid (lastF T (c1, c2) = 0) := hid (last_none (fun i hi => by have hl := HLen.out; rw [HLen.out]; exact h2 i (by rw [hS]; unfold upto; simp; omega) (by omega)))
    have hy := (h1.block _ (by omega)).trans HY2.out
    have k0 : A.cell? ⟨w.heap.size + 1, 0, none⟩ = some (.int .i64 0) := by simp [World.cell?, hy]
    have f0 : A.frozen? ⟨w.heap.size + 1, 0, none⟩ = false := by simp [World.frozen?, hy]
    have HB9 := hid (HB1.out.trans (h1.mono HB1.out.size))
    have HD := hid hD
    clear h1 h2 hS hD hy
    gi_wp2
    have hbs : Below w.heap.size w (A.setCell ⟨w.heap.size + 1, 0, none⟩ (.int .i64 0)) := HB9.out.setCell (by dsimp only; omega) _
    have hDs : (A.setCell ⟨w.heap.size + 1, 0, none⟩ (.int .i64 0)).heap[W1.heap.size]? = some (.deferred (some [])) := (Below.heap_setCell _ _ _ _ (by dsimp only; omega)).trans HD.out
    have hcs : (A.setCell ⟨w.heap.size + 1, 0, none⟩ (.int .i64 0)).cell? ⟨w.heap.size + 1, 0, none⟩ = some (.int .i64 0) := World.cell?_setCell_same _ _ _ k0
    generalize A.setCell ⟨w.heap.size + 1, 0, none⟩ (.int .i64 0) = W4 at *
    refine leaves_marks (B := 0) [W1.heap.size] W4 ⟨by simp, fun D' hD' => by simp only [List.mem_singleton] at hD'; subst hD'; exact ⟨Nat.zero_le _, hDs⟩⟩ (fun W'' hc => ?_)
    have hc5 : W''.cell? ⟨w.heap.size + 1, 0, none⟩ = some (.int .i64 0) := (World.cell?_of_block (a := ⟨w.heap.size + 1, 0, none⟩) (hc.blk _ (World.block_lt_of_cell? _ _ hcs) (fun hm => by simp only [List.mem_singleton] at hm; omega))).trans hcs
    refine ⟨.int .i64 0, by simp [results, Tryd.results58, go_sem, hc5], by rw [HN.out], ⟨hc.os.trans hbs.os, hc.tape.trans hbs.tape, hc.output.trans hbs.output, Nat.le_trans hbs.size hc.size, fun j hj => (hc.blk j (Nat.lt_of_lt_of_le hj hbs.size) (fun hm => by simp only [List.mem_singleton] at hm; omega)).trans (hbs.block j hj)⟩⟩
  case hstop =>
    rintro c A ⟨rfl, h1, h2⟩ hD
    have HD := hid hD
    have H1 := hid h1
    have k0 : A.cell? ⟨w.heap.size + 1, 0, none⟩ = some (.int .i64 (lastF T (c1, c2))) := by simp [World.cell?, h2]
    obtain ⟨lf, hlf⟩ : ∃ lf, lastF T (c1, c2) = lf := ⟨_, rfl⟩
    rw [hlf] at k0
    have HLf := hid hlf
    clear hlf
    clear hD h1 h2
    gi_wp2
    refine leaves_marks (B := 0) [W1.heap.size] A ⟨by simp, fun D' hD' => by simp only [List.mem_singleton] at hD'; subst hD'; exact ⟨Nat.zero_le _, HD.out⟩⟩ (fun W'' hc => ?_)
    have hc5 : W''.cell? ⟨w.heap.size + 1, 0, none⟩ = some (.int .i64 lf) := (World.cell?_of_block (a := ⟨w.heap.size + 1, 0, none⟩) (hc.blk _ (World.block_lt_of_cell? _ _ k0) (fun hm => by simp only [List.mem_singleton] at hm; omega))).trans k0
    refine ⟨.int .i64 lf, by simp [results, Tryd.results58, go_sem, hc5], by rw [HLf.out], ?_⟩
    have hb := HB1.out
    have h1 := H1.out
    exact ⟨hc.os.trans (h1.os.trans hb.os), hc.tape.trans (h1.tape.trans hb.tape), hc.output.trans (h1.output.trans hb.output), Nat.le_trans hb.size (Nat.le_trans h1.size hc.size), fun j hj => (hc.blk j (by have := hb.size; have := h1.size; omega) (fun hm => by simp only [List.mem_singleton] at hm; omega)).trans ((h1.blk j (by omega) (by omega)).trans (hb.block j hj))⟩
  case hbody =>
    rintro pre k a9 A9 ⟨h1, h2⟩ ⟨k', hk, hpre, hkk⟩ ⟨ab, rfl, hab, habl⟩ hD ⟨r9, hr9⟩
    have hkk : k = k' := hkk
    subst hkk
    have hpl : pre.length = k := by rw [hpre, upto_length]
    obtain ⟨l0, l1, l2⟩ := HTr.out k hk
    have HHit : Hid (mem (c1, c2) (-(T[tl - 1 - k]?.getD (0, 0)).1) = true → lastF T (c1, c2) = -(T[tl - 1 - k]?.getD (0, 0)).1) := hid (fun hm => by
      have := last_hit (T := T) (c := (c1, c2)) (k := k) (by rw [HLen.out]; exact hk) (fun i hi => by rw [HLen.out]; exact h2 i (by omega) (by omega)) (by rw [HLen.out]; exact hm)
      rw [HLen.out] at this
      exact this)
    have HMiss : Hid (mem (c1, c2) (-(T[tl - 1 - k]?.getD (0, 0)).1) = false → ∀ i, i < (pre ++ [k]).length → i < tl → mem (c1, c2) (-(T[tl - 1 - i]?.getD (0, 0)).1) = false) := hid (fun hm i hi hit => by
      by_cases e : i = k
      · subst e; exact hm
      · exact h2 i (by rw [List.length_append] at hi; simp at hi; omega) hit)
    have hyc := (h1.block _ (by omega)).trans HY1.out
    have hyr := (h1.block _ (by omega)).trans HY2.out
    have q0 : A9.cell? ⟨w.heap.size, 0, none⟩ = some (.int .u64 c1) := by simp [World.cell?, hyc]
    have q1 : A9.cell? ⟨w.heap.size, 1, none⟩ = some (.int .u64 c2) := by simp [World.cell?, hyc]
    have p0 : A9.cell? ⟨ab, 0, none⟩ = some (.int .i64 (T[tl - 1 - k]?.getD (0, 0)).1) := by simp [World.cell?, hab]
    have r0 : A9.cell? ⟨w.heap.size + 1, 0, none⟩ = some (.int .i64 0) := by simp [World.cell?, hyr]
    have rz : A9.frozen? ⟨w.heap.size + 1, 0, none⟩ = false := by simp [World.frozen?, hyr]
    have HH := hid (fun W => has_impl (c1, c2) (-(T[tl - 1 - k]?.getD (0, 0)).1) W HWc.out (by omega) (by omega) (by omega))
    have H1 := hid h1
    have HD := hid hD
    have HR9 := hid hr9
    have hHe : Hid (Held (w.heap.size + 1 + 1) ta tl tc T W1) := HHe
    generalize hlit : (T[tl - 1 - k]?.getD (0, 0)).1 = lit at *
    generalize (T[tl - 1 - k]?.getD (0, 0)).2 = rea at *
    clear h1 h2 hpre hpl hyc hyr hab hD hr9 hlit hk
    clear hkk
    gi_wp2
    refine ⟨trivial, (CallsIn.inRound _ (callsIn_wide.2 (HH.out _))).mono ?_⟩
    rintro e2 W2 ⟨rfl, hb2⟩
    have HB2 := hid hb2
    replace p0 := keep hb2 p0
    replace r0 := keep hb2 r0
    have hy2 := ((H1.out.trans (hb2.mono H1.out.size)).block (w.heap.size + 1) (by omega)).trans HY2.out
    have HY3 := hid hy2
    have rz2 : W2.frozen? ⟨w.heap.size + 1, 0, none⟩ = false := by
      have := (H1.out.trans (hb2.mono H1.out.size)).block (w.heap.size + 1) (by omega)
      have hyr := this.trans HY2.out
      simp [World.frozen?, hyr]
    clear hb2 q0 q1 rz hy2
    cases hm : mem (c1, c2) (-lit) with
    | true =>
      have HM := hid (HHit.out hm)
      clear hm
      gi_wp2
      have hs9 := A9.heap.size
      have hb2 := HB2.out
      have h1 := H1.out
      have hD9 := (Array.getElem?_eq_some_iff.1 HD.out).1
      have hL9 := (Array.getElem?_eq_some_iff.1 HR9.out).1
      have hd : Df (fun q => q = w.heap.size + 1) A9 (W2.setCell ⟨w.heap.size + 1, 0, none⟩ (.int .i64 (-lit))) := ⟨hb2.os, hb2.tape, hb2.output, by simpa [World.setCell] using hb2.size, fun q hq hx => (Below.heap_setCell _ _ _ _ hx).trans (hb2.block q hq)⟩
      refine ⟨hd.blk _ hL9 (by omega), ⟨hd.blk _ hD9 (by omega), fun h => held_df hd (by omega) (fun b off h0 e => by have := HTa.out b off h0 e; omega) h⟩, rfl, ?_, ?_⟩
      · exact ⟨hd.os.trans h1.os, hd.tape.trans h1.tape, hd.output.trans h1.output, Nat.le_trans h1.size hd.size, fun q hq hx => (hd.blk q (by have := h1.size; omega) hx).trans (h1.block q hq)⟩
      · rw [HM.out]
        exact heap_setCell_same W2 (w.heap.size + 1) 0 _ _ _ HY3.out
    | false =>
      have HM := hid (HMiss.out hm)
      clear hm
      gi_wp2
      have hb2 := HB2.out
      have hD9 := (Array.getElem?_eq_some_iff.1 HD.out).1
      have hL9 := (Array.getElem?_eq_some_iff.1 HR9.out).1
      exact ⟨hb2.block _ hL9, ⟨hb2.block _ hD9, fun h => ⟨keep hb2 h.1, h.2.below hb2⟩⟩, H1.out.trans (hb2.mono H1.out.size), HM.out⟩
end Go.Proofs.YtbahjpheaaiamaaDoor.solLastT

/- A solver's state: a clause is put behind the others, whatever has become true; what is kept by that; conditions: none. -/
namespace Go.Proofs.YtbahjpheaaiamaaDoor.solAddM
open sets solSets solMath solHold solAdd solProp solClose solTrail solLastT
set_option linter.unusedVariables false
set_option linter.unusedSimpArgs false

def addT (s : Sv) (c : LS) : Sv :=
  if oneL s c = 0 then { base1 s c with F := failF s.F s.C.length }
  else if othL s c = 0 then watS { base1 s c with D := insS s.C.length s.D } s.C.length (oneL s c) (lastF s.T c)
  else watS (base1 s c) s.C.length (oneL s c) (othL s c)
theorem addT_eq {s : Sv} {c : LS} (h : oneL s c = 0 ∨ othL s c ≠ 0 ∨ lastF s.T c = 0) : addT s c = addS s c := by
  unfold addT addS
  by_cases h0 : oneL s c = 0
  · rw [if_pos h0, if_pos h0]
  · rw [if_neg h0, if_neg h0]
    by_cases h1 : othL s c = 0
    · rw [if_pos h1, if_pos h1, (h.resolve_left h0).resolve_left (fun e => e h1)]
    · rw [if_neg h1, if_neg h1]
theorem addT_nil {s : Sv} {c : LS} (h : s.T = []) : addT s c = addS s c := addT_eq (.inr (.inr (by rw [h]; rfl)))
theorem wat_same (s : Sv) (i : Nat) (x y : Int) : (watS s i x y).C = s.C ∧ (watS s i x y).n = s.n ∧ (watS s i x y).H = s.H ∧ (watS s i x y).T = s.T ∧ (watS s i x y).K = s.K ∧ (watS s i x y).X = s.X ∧ (watS s i x y).F = s.F ∧ (watS s i x y).D = s.D := by
  unfold watS
  split <;> exact ⟨rfl, rfl, rfl, rfl, rfl, rfl, rfl, rfl⟩
theorem addT_same (s : Sv) (c : LS) : (addT s c).C = s.C ++ [c] ∧ (addT s c).n = s.n ∧ (addT s c).H = s.H ∧ (addT s c).T = s.T ∧ (addT s c).K = s.K ∧ (addT s c).X = s.X := by
  unfold addT
  split
  · exact ⟨rfl, rfl, rfl, rfl, rfl, rfl⟩
  · split
    · obtain ⟨h1, h2, h3, h4, h5, h6, _⟩ := wat_same { base1 s c with D := insS s.C.length s.D } s.C.length (oneL s c) (lastF s.T c)
      exact ⟨h1, h2, h3, h4, h5, h6⟩
    · obtain ⟨h1, h2, h3, h4, h5, h6, _⟩ := wat_same (base1 s c) s.C.length (oneL s c) (othL s c)
      exact ⟨h1, h2, h3, h4, h5, h6⟩
/-- The one literal that is not false, and another one that became false last. -/
theorem unit_rest {s : Sv} {c : LS} (h : Okay s) (hc : Wf c) (h0 : oneL s c ≠ 0) (h1 : othL s c = 0) : restL c s.H = onlyL (oneL s c) ∧ mem c (oneL s c) = true ∧ mem (restL c s.H) (oneL s c) = true := by
  have hwr := wf_rest hc s.H
  have hne : restL c s.H ≠ (0, 0) := fun e => h0 ((first_zero hwr).2 e)
  obtain ⟨f1, f2, _⟩ := first_spec hwr hne
  have f1 : mem (restL c s.H) (oneL s c) = true := f1
  have f2 : oneL s c ≠ 0 := f2
  obtain ⟨_, lo, hi⟩ := hwr.range f1
  have hwo := wf_only f2 lo hi
  have hm1 : mem c (oneL s c) = true := by rw [mem_rest hc h.wfH, Bool.and_eq_true] at f1; exact f1.1
  exact ⟨ls_ext hwr hwo fun y => by
    have := (zero_iff (wf_wo hwr _)).1 ((first_zero (wf_wo hwr _)).1 h1) y
    rw [mem_wo hwr hwo, mem_only f2] at this
    rw [mem_only f2]
    by_cases hy : oneL s c = y
    · rw [← hy, f1]; simp
    · simp [hy] at this
      simp [hy, this], hm1, f1⟩
theorem last_fits {s : Sv} {c : LS} (h : Okay s) (hc : Wf c) (ht : TinH s) (h0 : oneL s c ≠ 0) (h1 : othL s c = 0) (hy : lastF s.T c ≠ 0) : mem c (lastF s.T c) = true ∧ oneL s c ≠ lastF s.T c := by
  rcases last_cases s.T c with ⟨e, _⟩ | ⟨p, hp, e, hm⟩
  · exact absurd e hy
  · rw [e]
    refine ⟨hm, fun e2 => ?_⟩
    have hr := (unit_rest h hc h0 h1).2.2
    rw [e2, mem_rest hc h.wfH, Int.neg_neg, ht p hp] at hr
    simp at hr
theorem add_fullT {s : Sv} {c : LS} (h : Full s) (hc : Wf c) (ht : TinH s) : Full (addT s c) := by
  by_cases h0 : oneL s c = 0
  · rw [addT_eq (.inl h0)]; exact add_full h hc
  by_cases h1 : othL s c = 0
  case neg => rw [addT_eq (.inr (.inl h1))]; exact add_full h hc
  by_cases hy : lastF s.T c = 0
  · rw [addT_eq (.inr (.inr hy))]; exact add_full h hc
  obtain ⟨hr, hm1, f1⟩ := unit_rest h.ok hc h0 h1
  obtain ⟨hm2, hne2⟩ := last_fits h.ok hc ht h0 h1 hy
  unfold addT
  rw [if_neg h0, if_pos h1]
  have hup : upd s.L (oneL s c) (s.L (oneL s c) ++ [s.C.length]) (lastF s.T c) = s.L (lastF s.T c) := by unfold upd; rw [if_neg (fun e => hne2 e.symm)]
  unfold watS
  rw [if_neg hy]
  refine add_okay h hc h0 hm1 (fun _ => ⟨hm2, hne2⟩) (ins_sorted h.ok.dsort (fun hd => Nat.lt_irrefl _ (h.ok.dlt _ hd))) (fun j hj => ?_) (fun j hj => mem_ins.1 hj) (fun _ => .inr ⟨oneL s c, fun y hy => ?_⟩) (fun j hj => mem_ins.2 (.inr hj)) _ (fun q j hq => ?_) (fun q hq => ?_) (.inl ⟨hr, mem_ins.2 (.inl rfl)⟩)
  · rcases mem_ins.1 hj with e | e
    · omega
    · have := h.ok.dlt j e; omega
  · rw [hr, mem_only h0, decide_eq_true_eq] at hy; exact hy.symm
  · show j ∈ upd (upd s.L (oneL s c) (s.L (oneL s c) ++ [s.C.length])) (lastF s.T c) (upd s.L (oneL s c) (s.L (oneL s c) ++ [s.C.length]) (lastF s.T c) ++ [s.C.length]) q ↔ _
    rw [hup]
    unfold upd
    by_cases e2 : q = lastF s.T c
    · rw [if_pos e2, e2]
      simp [hne2]
    · rw [if_neg e2]
      by_cases e : q = oneL s c
      · rw [if_pos e, e]; simp
      · rw [if_neg e]
        constructor
        · exact .inl
        · rintro (e' | ⟨_, e' | e'⟩)
          · exact e'
          · exact absurd e'.symm e
          · exact absurd e'.symm e2
  · show (upd (upd s.L (oneL s c) (s.L (oneL s c) ++ [s.C.length])) (lastF s.T c) (upd s.L (oneL s c) (s.L (oneL s c) ++ [s.C.length]) (lastF s.T c) ++ [s.C.length]) q).Nodup
    rw [hup]
    unfold upd
    by_cases e2 : q = lastF s.T c
    · rw [if_pos e2, List.nodup_append]
      exact ⟨h.ok.nodup _ hy, by simp, fun a ha b hb => by simp at hb; subst hb; rintro rfl; exact not_in h.ok hy ha⟩
    · rw [if_neg e2]
      by_cases e : q = oneL s c
      · rw [if_pos e, List.nodup_append]
        exact ⟨h.ok.nodup _ h0, by simp, fun a ha b hb => by simp at hb; subst hb; rintro rfl; exact not_in h.ok h0 ha⟩
      · rw [if_neg e]; exact h.ok.nodup q hq
end Go.Proofs.YtbahjpheaaiamaaDoor.solAddM
