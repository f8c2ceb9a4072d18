/- A solver of the program: what a false clause teaches (lesson); conditions: a choice has been made, and a clause is false. -/
import Derived.Test.YtbahjpheaaiamaaDoorPart20
import Derived.Test.YtbahjpheaaiamaaDoorPart22
import Derived.Test.YtbahjpheaaiamaaDoorPart23
import Derived.Test.YtbahjpheaaiamaaDoorPart13
import Derived.Test.YtbahjpheaaiamaaDoorPart24
import Derived.BigRegion
import Derived.Deep.CutBlock
namespace Go.Proofs.YtbahjpheaaiamaaDoor.solLesson
open Go.RowKit Go.Deep Go.Shelf Go base sets setsOf solSets solOps solMath solHold solMem solFail solX solClose solTrail cdState cdLes solHang solPush heldStore drawn drawnLin drawnSrc drawnMk drawnEnd drawnIn drawnCalmIn rangeAt rangeTwo backFact solLastT
open marks (Mk markD leaves_marks Ch)
set_option linter.unusedVariables false
set_option linter.unusedSimpArgs false

/-- A solver in memory is kept where only later blocks turn. -/
theorem Sol.low {B M mb : Nat} {F : Nat → Value} {V : Int → Value} {s : Sv} {w w1 : World} (h : Sol 0 M mb F V s w) (hM : M < B) (hmb : mb < B) (hbl : ∀ a g, blk 0 F V a = some g → g < B) (htab : 0 < B) (hk : ∀ j, j < B → w1.heap[j]? = w.heap[j]?) : Sol 0 M mb F V s w1 := by
  obtain ⟨D, hD, hV⟩ := h.map
  refine ⟨World.rowIs.of_block h.cells (hk _ hM), h.f0, h.f4, h.f5, h.f6, h.f10, h.fx, ⟨D, ?_, hV⟩, fun a ha => row_kept (h.rows a ha) fun g hg => hk g (hbl a g (by rw [blk_ne ha]; exact hg)), h.apart, h.off, h.ne, fun j hj => (World.cell?_of_block (hk _ htab)).trans (h.tab j hj), h.tabo⟩
  obtain ⟨es, clock, h1, h2⟩ := hD
  exact ⟨es, clock, by rw [hk mb hmb]; exact h1, h2⟩
theorem turn_neg {z : Int} (h : z ≠ 0) : onlyL z = turnL (onlyL (-z)) := by
  unfold turnL onlyL pBit oBit
  by_cases hz : z < 0
  · rw [if_pos hz, if_pos hz, if_neg (by omega), if_neg (by omega), Int.natAbs_neg]
  · rw [if_neg hz, if_neg hz, if_pos (by omega), if_pos (by omega), Int.natAbs_neg]
theorem ite2 {α : Type} {p q : Prop} [Decidable p] [Decidable q] (h : ¬ (p ∧ q)) (x y : α) : (if p then if q then x else y else y) = y := by
  by_cases hp : p
  · rw [if_pos hp, if_neg (fun hq => h ⟨hp, hq⟩)]
  · rw [if_neg hp]
theorem wg_mono {X : Nat → Value} {g b b' : Int} (h : Wg X g b) (hb : b ≤ b') : Wg X g b' :=
  ⟨fun v hv => by obtain ⟨x, e, h0, h1⟩ := h.wt v hv; exact ⟨x, e, h0, Int.le_trans h1 hb⟩, h.gain⟩
def recF (L : Nat → Int) (st : Nat) : Nat → LS
  | 0 => (0, 0)
  | k + 1 => withL (recF L st k) (onlyL (-(L (st + k))))
theorem rec_spec {L : Nat → Int} {st : Nat} : ∀ k, (∀ i, i < k → L (st + i) ≠ 0 ∧ -40 ≤ L (st + i) ∧ L (st + i) ≤ 40) → Wf (recF L st k) ∧ ∀ y, mem (recF L st k) y = true ↔ ∃ i, i < k ∧ y = -(L (st + i))
  | 0, _ => ⟨wf_zero, fun y => ⟨fun h => (by rw [show recF L st 0 = (0, 0) from rfl, mem_zero] at h; cases h), fun ⟨i, h, _⟩ => absurd h (Nat.not_lt_zero _)⟩⟩
  | k + 1, h => by
    obtain ⟨h1, h2⟩ := rec_spec k (fun i hi => h i (by omega))
    obtain ⟨l0, l1, l2⟩ := h k (Nat.lt_succ_self _)
    have hwo : Wf (onlyL (-(L (st + k)))) := wf_only (by omega) (by omega) (by omega)
    refine ⟨wf_with h1 hwo, fun y => ?_⟩
    show mem (withL (recF L st k) (onlyL (-(L (st + k))))) y = true ↔ _
    rw [mem_with, Bool.or_eq_true, h2, mem_only (by omega), decide_eq_true_eq]
    constructor
    · rintro (⟨i, hi, e⟩ | e)
      · exact ⟨i, by omega, e⟩
      · exact ⟨k, Nat.lt_succ_self _, e.symm⟩
    · rintro ⟨i, hi, e⟩
      by_cases e2 : i = k
      · subst e2; exact .inr e.symm
      · exact .inl ⟨i, by omega, e⟩
theorem recent_of {n : Nat} {s : Sv} {st : Nat} (hT : ∀ i, i < s.T.length → tl s i ≠ 0 ∧ -40 ≤ tl s i ∧ tl s i ≤ 40) (hst : st ≤ s.T.length) : Recent s st (recF (tl s) st (s.T.length - st)) := by
  obtain ⟨h1, h2⟩ := rec_spec (L := tl s) (st := st) (s.T.length - st) (fun i hi => hT _ (by omega))
  refine ⟨h1, fun y => ?_⟩
  rw [h2]
  constructor
  · rintro ⟨i, hi, e⟩
    exact ⟨st + i, by omega, by omega, e⟩
  · rintro ⟨i, h3, h4, e⟩
    exact ⟨i - st, by omega, by rw [show st + (i - st) = i by omega]; exact e⟩
theorem blk_same {F F' : Nat → Value} {V : Int → Value} (h : ∀ j, j < 11 → F' j = F j) : blk 0 F' V = blk 0 F V := by
  funext a
  unfold blk valA
  rw [h 2 (by omega), h 3 (by omega), h 7 (by omega), h 8 (by omega), h 9 (by omega)]
/-- What holds when k literals of the trail have been gone through, from its end. -/
def LI (n : Nat) (Z : List LS) (G : LS) (s : Sv) (st M mb : Nat) (F : Nat → Value) (V : Int → Value) (g : Int) (W9 : World) (N p : Nat) (b : Int) (D1 D2 : Nat) (A : World) : Prop :=
  LesI n Z G s st p (D1, D2) ∧ ∃ (F' X' : Nat → Value), Sol 0 M mb F' V { s with X := X' } A ∧ Wg X' g b ∧ SameX s.X X' ∧ (∀ j, j < 11 → F' j = F j) ∧ A.heap[N]? = some (.cells #[.int .u64 (D1 : Int), .int .u64 (D2 : Int)] 51 (0, 0)) ∧ Df (fun q => q = M ∨ q = N) W9 A
/-- What holds where it has come to its end. -/
def LX (n : Nat) (Z : List LS) (G : LS) (s : Sv) (st M mb : Nat) (F : Nat → Value) (V : Int → Value) (g : Int) (W9 : World) (N : Nat) (A : World) : Prop :=
  ∃ (k D1 D2 : Nat), Les n Z G s st k (D1, D2) ∧ ∃ (F' X' : Nat → Value), Sol 0 M mb F' V { s with X := X' } A ∧ Wg X' g (1041 * g) ∧ SameX s.X X' ∧ (∀ j, j < 11 → F' j = F j) ∧ A.heap[N]? = some (.cells #[.int .u64 (D1 : Int), .int .u64 (D2 : Int)] 51 (0, 0)) ∧ Df (fun q => q = M ∨ q = N) W9 A
structure Low (M mb : Nat) (F : Nat → Value) (V : Int → Value) (N B : Nat) : Prop where
  m : M < B
  b : mb < B
  k : ∀ a g, blk 0 F V a = some g → g < B
  t : 0 < B
  n : N < B
theorem sol_df {M mb : Nat} {F F' : Nat → Value} {V : Int → Value} {s : Sv} {N B : Nat} {A A' : World} {X : Nat → Prop} (hl : Low M mb F V N B) (hF : ∀ j, j < 11 → F' j = F j) (h : Sol 0 M mb F' V s A) (hB : B ≤ A.heap.size) (hd : Df X A A') (hX : ∀ q, X q → B ≤ q) : Sol 0 M mb F' V s A' :=
  Sol.low h hl.m hl.b (fun a g e => hl.k a g (by rw [← blk_same (V := V) hF]; exact e)) hl.t (fun j hj => hd.blk j (by omega) (fun hx => by have := hX j hx; omega))
theorem LI.df {n : Nat} {Z : List LS} {G : LS} {s : Sv} {st M mb : Nat} {F : Nat → Value} {V : Int → Value} {g : Int} {W9 : World} {N p : Nat} {b : Int} {D1 D2 : Nat} {A A' : World} {X : Nat → Prop} (hl : Low M mb F V N W9.heap.size) (h : LI n Z G s st M mb F V g W9 N p b D1 D2 A) (hd : Df X A A') (hX : ∀ q, X q → W9.heap.size ≤ q) : LI n Z G s st M mb F V g W9 N p b D1 D2 A' := by
  obtain ⟨h1, F', X', h2, h3, h4, h5, h6, h7⟩ := h
  refine ⟨h1, F', X', sol_df hl h5 h2 h7.size hd hX, h3, h4, h5, hd.keeps h6 (fun hx => by have := hX N hx; have := hl.n; omega), ⟨hd.os.trans h7.os, hd.tape.trans h7.tape, hd.output.trans h7.output, Nat.le_trans h7.size hd.size, fun q hq hx => (hd.blk q (Nat.lt_of_lt_of_le hq h7.size) (fun hx => by have := hX q hx; omega)).trans (h7.blk q hq hx)⟩⟩
theorem LX.df {n : Nat} {Z : List LS} {G : LS} {s : Sv} {st M mb : Nat} {F : Nat → Value} {V : Int → Value} {g : Int} {W9 : World} {N : Nat} {A A' : World} {X : Nat → Prop} (hl : Low M mb F V N W9.heap.size) (h : LX n Z G s st M mb F V g W9 N A) (hd : Df X A A') (hX : ∀ q, X q → W9.heap.size ≤ q) : LX n Z G s st M mb F V g W9 N A' := by
  obtain ⟨k, D1, D2, h1, F', X', h2, h3, h4, h5, h6, h7⟩ := h
  refine ⟨k, D1, D2, h1, F', X', sol_df hl h5 h2 h7.size hd hX, h3, h4, h5, hd.keeps h6 (fun hx => by have := hX N hx; have := hl.n; omega), ⟨hd.os.trans h7.os, hd.tape.trans h7.tape, hd.output.trans h7.output, Nat.le_trans h7.size hd.size, fun q hq hx => (hd.blk q (Nat.lt_of_lt_of_le hq h7.size) (fun hx => by have := hX q hx; omega)).trans (h7.blk q hq hx)⟩⟩
set_option maxHeartbeats 6400000 in
set_option maxRecDepth 8000 in
theorem lesson_impl (n : Nat) (Z : List LS) (G B : LS) (M mb : Nat) (F : Nat → Value) (V : Int → Value) (s : Sv) (w : World) (h : Sol 0 M mb F V s w) (hcd : Cd n Z G B s) (hF : s.F ≠ -1) (hK : s.K ≠ []) (g : Int) (hg : 1024 ≤ g ∧ g ≤ 1099511627776) (hw : Wg s.X g (1000 * g)) (hlen : s.C.length ≤ 8000000000000) :
    Calls Tryd.prog 60 #[.pointer (some ⟨M, 0, none⟩)] w fun e w' => ∃ (C1 C2 st k : Nat) (F' X' : Nat → Value), e = .returned (.agg #[.int .u64 C1, .int .u64 C2]) ∧ LastK s st ∧ Les n Z G s st k (C1, C2) ∧ Sol 0 M mb F' V { s with X := X' } w' ∧ Wg X' g (1041 * g) ∧ SameX s.X X' ∧ Chg M mb (blk 0 F V) (blk 0 F' V) w w' := by
  obtain ⟨ta, tc, h7, ht1, ht2⟩ := trail_form h
  obtain ⟨ka, kc, h8, hk1, hk2⟩ := choice_form h
  obtain ⟨kl, hkl⟩ : ∃ kl, s.K.length = kl + 1 := ⟨s.K.length - 1, by have := List.length_pos_iff.2 hK; omega⟩
  obtain ⟨st, hst⟩ : ∃ st, s.K[kl]?.getD 0 = st := ⟨_, rfl⟩
  have hLast : LastK s st := by
    refine ⟨by rw [← hst, List.getElem?_eq_getElem (by omega)]; exact List.getElem_mem _, fun k hk => ?_⟩
    obtain ⟨i, hi, rfl⟩ := List.getElem_of_mem hk
    rw [← hst, List.getElem?_eq_getElem (by omega)]
    by_cases e : i = kl
    · subst e; exact Nat.le_refl _
    · exact Nat.le_of_lt (List.pairwise_iff_getElem.1 hcd.q.inc i kl hi (by omega) (by omega))
  have hstT := hcd.lt st hLast.1
  obtain ⟨f, hf, hfC, hles⟩ := les_start hcd hF hLast
  have hTl : ∀ i, i < s.T.length → tl s i ≠ 0 ∧ -40 ≤ tl s i ∧ tl s i ≤ 40 := fun i hi => (tl_fresh hcd.stk.tr hi (Nat.zero_le _)).2.2
  have hTm := trail_most hcd.q hcd.stk.tr
  obtain ⟨g8, rfl, q8, _⟩ := choice_at h h8 (i := kl) (by omega)
  rw [hst] at q8
  obtain ⟨g7, rfl, _, _, hg7⟩ := solBackI.trail_at h h7 hstT
  have k7 := h.cell (i := 7) (by omega)
  have k8 := h.cell (i := 8) (by omega)
  have k10 := h.cell (i := 10) (by omega)
  rw [h7] at k7
  rw [h8] at k8
  rw [h.f10, hf] at k10
  have HTr : Hid (∀ i, i < s.T.length → ∃ r : Int, w.cell? ⟨g7, i * 2, none⟩ = some (.int .i64 (tl s i)) ∧ w.cell? ⟨g7, i * 2 + 1, none⟩ = some (.int .i64 r)) := hid (fun i hi => by
    obtain ⟨g, e, c0, c1, _⟩ := solBackI.trail_at h h7 hi
    injection e with e
    injection e with e
    subst e
    exact ⟨_, c0, c1⟩)
  have HS := hid h
  have HCd := hid hcd
  have HLast := hid hLast
  have HLes := hid hles
  have HRec := hid (recent_of (n := n) hTl (Nat.le_of_lt hstT))
  have HTl := hid hTl
  have HW := hid hw
  have h40 := hcd.q.n40
  obtain ⟨tn, htn⟩ : ∃ tn, s.T.length = tn := ⟨_, rfl⟩
  have HTn := hid htn
  rw [htn] at k7 HTr hstT HTl hTm ht1 HRec
  obtain ⟨kn, hkn⟩ : ∃ kn, s.K.length = kn := ⟨_, rfl⟩
  rw [hkn] at k8 hk1 hkl
  have hM := h.lt.1
  have hk9 : kl ≤ 100000 := by
    have h1 := (List.pairwise_iff_getElem.1 hcd.q.inc)
    have h2 : ∀ i, i < s.K.length → i ≤ s.K[i]?.getD 0 := fun i => by
      induction i with
      | zero => intro _; exact Nat.zero_le _
      | succ i ih =>
        intro hi
        have h3 := ih (by omega)
        have h4 := h1 i (i + 1) (by omega) hi (by omega)
        rw [List.getElem?_eq_getElem hi]
        rw [List.getElem?_eq_getElem (by omega)] at h3
        simp only [Option.getD_some] at h3 ⊢
        omega
    have h3 := h2 kl (by omega)
    rw [hst] at h3
    omega
  clear h hcd hF hK hw hles hTl htn h7 h8 hf hLast hkn
  unfold maxLen at ht2 hk2
  refine (callsIn_wide (n := 9)).1 ?_
  refine callsIn_of_wp_marks Tryd.func60 rfl trivial ?_ rfl
  simp only [Tryd.ntmps60, List.size_toArray, List.length_cons, List.length_nil, Nat.reduceAdd, Nat.reduceSub, Array.replicate_succ, Array.replicate_zero, List.push_toArray, List.append_toArray, List.nil_append, List.cons_append]
  refine wpIn_wide.2 ?_
  go_wp2
  obtain ⟨W1, hW1⟩ : ∃ W1, (((w.alloc (.cells #[.pointer (some ⟨M, 0, none⟩)] 47)).alloc (.cells #[.int .u64 0, .int .u64 0] 51)).alloc (.cells #[.int .u64 0, .int .u64 0] 51)) = W1 := ⟨_, rfl⟩
  have hz1 : W1.heap.size = w.heap.size + 1 + 1 + 1 := by rw [← hW1]; simp
  have hB1 : Below w.heap.size w W1 := by rw [← hW1]; exact (by repeat (first | exact Below.refl _ _ | assumption | refine Below.drew ?_ | refine Below.alloc ?_ (by first | exact Nat.le_refl _ | omega | (simp; done) | (simp; omega)) _ | refine Below.setCell ?_ (by first | exact Nat.le_refl _ | omega | (simp; done) | (simp; omega)) _))
  have hx : ∀ (o1 o2 o3 : Obj), ((w.alloc o1).alloc o2).alloc o3 = W1 → W1.heap[w.heap.size]? = some o1 ∧ W1.heap[w.heap.size + 1]? = some o2 ∧ W1.heap[w.heap.size + 1 + 1]? = some o3 := fun o1 o2 o3 e => by
    rw [← e]
    have a1 := World.alloc_heap_new w o1
    have a2 := World.alloc_heap_new (w.alloc o1) o2
    have a3 := World.alloc_heap_new ((w.alloc o1).alloc o2) o3
    simp only [World.size_alloc] at a2 a3
    refine ⟨?_, ?_, a3⟩
    · rw [Below.heap_alloc _ _ _ (by simp; omega), Below.heap_alloc _ _ _ (by simp)]
      exact a1
    · rw [Below.heap_alloc _ _ _ (by simp)]
      exact a2
  obtain ⟨y1, y2, y3⟩ := hx _ _ _ hW1
  rw [hW1]
  have b1 : W1.cell? ⟨w.heap.size, 0, none⟩ = some (.pointer (some ⟨M, 0, none⟩)) := by simp [World.cell?, y1]
  have K10 := hid k10
  have K8 := hid k8
  have K7 := hid k7
  have q8w := q8
  replace k7 := keep hB1 k7
  replace k8 := keep hB1 k8
  replace q8 := keep hB1 q8
  have HB1 := hid hB1
  have HY1 := hid y1
  have HY2 := hid y2
  have HY3 := hid y3
  clear hW1 hx y1 y2 y3 hB1 k10
  have hg8l := World.block_lt_of_cell? _ _ q8w
  have HC1 : Hid (∀ w8 : World, Df (fun q => q = w.heap.size + 1 + 1) W1 w8 → w8.cell? ⟨w.heap.size, 0, none⟩ = some (.pointer (some ⟨M, 0, none⟩)) ∧ w8.cell? ⟨M, 7, none⟩ = some (.slice (some ⟨g7, 0, none⟩) tn tc) ∧ w8.cell? ⟨M, 8, none⟩ = some (.slice (some ⟨g8, 0, none⟩) kn kc) ∧ w8.cell? ⟨g8, kl, none⟩ = some (.int .i64 (st : Int))) := hid (fun w8 hd => ⟨hd.cell b1 (by omega), hd.cell k7 (by omega), hd.cell k8 (by omega), hd.cell q8 (by dsimp only at hg8l; omega)⟩)
  clear b1 k7 k8 q8
  have i1 : (kn : Int) - 1 = kl := by omega
  have i2 : (kl : Int) < (kn : Int) := by omega
  have i4 : (st : Int) ≤ (tn : Int) := by omega
  have i6 : (st : Int) ≤ tc := by omega
  have HLen := hid hlen
  have HFC := hid hfC
  clear hkl hst hlen hfC
  have i7 : st < tc := by omega
  obtain ⟨m, hm⟩ : ∃ m, tn - st = m := ⟨_, rfl⟩
  obtain ⟨P, hP⟩ : ∃ P : Nat → LS, ∀ k, recF (tl s) st k = P k := ⟨_, fun _ => rfl⟩
  have HP0 : Hid (P 0 = (0, 0)) := hid (by rw [← hP]; rfl)
  have HPw : Hid (∀ k, k ≤ m → Wf (P k)) := hid (fun k hk => by rw [← hP]; exact (rec_spec k (fun i hi => HTl.out _ (by omega))).1)
  have HPs : Hid (∀ k, k < m → P (k + 1) = withL (P k) (onlyL (-(tl s (st + k))))) := hid (fun k hk => by rw [← hP, ← hP]; rfl)
  have HPm : Hid (Recent s st (P m)) := hid (by have := HRec.out; rw [hm, hP] at this; exact this)
  have hmn : st + m = tn := by omega
  clear hP HRec
  refine region_calm (fun ua => ⟨#[.pointer (some ⟨M, 0, none⟩), .pointer (some ⟨w.heap.size, 0, none⟩), .pointer (some ⟨w.heap.size + 1, 0, none⟩), .pointer (some ⟨w.heap.size + 1 + 1, 0, none⟩), undef, undef, undef, undef, undef, undef, undef, ua 11, ua 12, ua 13, ua 14, ua 15, ua 16, ua 17, ua 18, ua 19, ua 20, ua 21, ua 22, ua 23, ua 24, ua 25, ua 26, ua 27, ua 28, ua 29, undef, undef, undef, undef, undef, undef, undef, undef, undef, undef, undef, undef, undef, undef, undef, undef, undef, undef, undef, undef, undef, undef, undef, undef, undef, undef, undef, undef, undef, undef, undef, undef, undef, undef, undef, undef, undef, undef, undef, undef, undef, undef, undef, undef, undef, undef, undef, undef, undef, undef, undef, undef, undef, undef, undef, undef, undef, undef, undef, undef, undef, undef, undef], []⟩) (fun i => [11, 12, 13, 14, 15, 16, 17, 18, 19, 20, 21, 22, 23, 24, 25, 26, 27, 28, 29].getD i 0) (fun i v w8 => match i with | 0 => v = .pointer (some ⟨M, 0, none⟩) | 1 => v = .pointer (some ⟨M, 0, none⟩) | 2 => v = .pointer (some ⟨M, 7, none⟩) | 3 => v = .slice (some ⟨g7, 0, none⟩) tn tc | 4 => v = .pointer (some ⟨M, 0, none⟩) | 5 => v = .pointer (some ⟨M, 0, none⟩) | 6 => v = .pointer (some ⟨M, 8, none⟩) | 7 => v = .slice (some ⟨g8, 0, none⟩) kn kc | 8 => v = .pointer (some ⟨M, 0, none⟩) | 9 => v = .pointer (some ⟨M, 0, none⟩) | 10 => v = .pointer (some ⟨M, 8, none⟩) | 11 => v = .slice (some ⟨g8, 0, none⟩) kn kc | 12 => v = .int .i64 (kn : Int) | 13 => v = .int .i64 (kl : Int) | 14 => v = .pointer (some ⟨g8, kl, none⟩) | 15 => v = .int .i64 (st : Int) | 16 => v = .slice (some ⟨g7, st * 2, none⟩) m (tc - st) | 17 => v = .int .i64 (m : Int) | 18 => v = .int .i64 0 | _ => True) W1 19 (fun k => match k with | 11 => undef | 12 => undef | 13 => undef | 14 => undef | 15 => undef | 16 => undef | 17 => undef | 18 => undef | 19 => undef | 20 => undef | 21 => undef | 22 => undef | 23 => undef | 24 => undef | 25 => undef | 26 => undef | 27 => undef | 28 => undef | 29 => undef | _ => undef) (by rfl) (by kernel_rfl) (by rfl) (by kernel_rfl) (Below.refl _ _) ?hput ?hinj ?stable ?step ?fin
  case hput =>
    intro i hi ua v
    match i, hi with
    | 0, _ => rfl
    | 1, _ => rfl
    | 2, _ => rfl
    | 3, _ => rfl
    | 4, _ => rfl
    | 5, _ => rfl
    | 6, _ => rfl
    | 7, _ => rfl
    | 8, _ => rfl
    | 9, _ => rfl
    | 10, _ => rfl
    | 11, _ => rfl
    | 12, _ => rfl
    | 13, _ => rfl
    | 14, _ => rfl
    | 15, _ => rfl
    | 16, _ => rfl
    | 17, _ => rfl
    | 18, _ => rfl
    | i + 19, hi => exact absurd hi (by omega)
  case hinj =>
    intro i j hi hj h
    exact slots_inj [11, 12, 13, 14, 15, 16, 17, 18, 19, 20, 21, 22, 23, 24, 25, 26, 27, 28, 29] (by decide) hi hj h
  case stable =>
    intro i v w8 w9 hb h
    match i, hb, h with
    | 0, hb, h => exact h
    | 1, hb, h => exact h
    | 2, hb, h => exact h
    | 3, hb, h => exact h
    | 4, hb, h => exact h
    | 5, hb, h => exact h
    | 6, hb, h => exact h
    | 7, hb, h => exact h
    | 8, hb, h => exact h
    | 9, hb, h => exact h
    | 10, hb, h => exact h
    | 11, hb, h => exact h
    | 12, hb, h => exact h
    | 13, hb, h => exact h
    | 14, hb, h => exact h
    | 15, hb, h => exact h
    | 16, hb, h => exact h
    | 17, hb, h => exact h
    | 18, hb, h => exact h
    | _ + 19, hb, h => trivial
  case step =>
    intro i hi ua w8 S8 hdep
    match i, hi, hdep with
    | 0, _, hdep =>
      clear hdep
      refine ⟨_, rfl, fun K' hK => ?_⟩
      have cb := (HC1.out w8 ((Df.of_below S8).mono (fun _ _ h => h.elim))).1
      go_simp
      exact hK.out _ _ (Below.refl _ _) rfl
    | 1, _, hdep =>
      have h0 : (ua 11) = .pointer (some ⟨M, 0, none⟩) := hdep 0 (by kernel_rfl)
      clear hdep
      refine ⟨_, rfl, fun K' hK => ?_⟩
      simp only [h0] at hK ⊢
      go_simp
      exact hK.out _ _ (Below.refl _ _) rfl
    | 2, _, hdep =>
      have h1 : (ua 12) = .pointer (some ⟨M, 0, none⟩) := hdep 1 (by kernel_rfl)
      clear hdep
      refine ⟨_, rfl, fun K' hK => ?_⟩
      simp only [h1] at hK ⊢
      go_simp
      exact hK.out _ _ (Below.refl _ _) rfl
    | 3, _, hdep =>
      have h2 : (ua 13) = .pointer (some ⟨M, 7, none⟩) := hdep 2 (by kernel_rfl)
      clear hdep
      refine ⟨_, rfl, fun K' hK => ?_⟩
      have c7 := (HC1.out w8 ((Df.of_below S8).mono (fun _ _ h => h.elim))).2.1
      simp only [h2] at hK ⊢
      go_simp
      exact hK.out _ _ (Below.refl _ _) rfl
    | 4, _, hdep =>
      clear hdep
      refine ⟨_, rfl, fun K' hK => ?_⟩
      have cb := (HC1.out w8 ((Df.of_below S8).mono (fun _ _ h => h.elim))).1
      go_simp
      exact hK.out _ _ (Below.refl _ _) rfl
    | 5, _, hdep =>
      have h4 : (ua 15) = .pointer (some ⟨M, 0, none⟩) := hdep 4 (by kernel_rfl)
      clear hdep
      refine ⟨_, rfl, fun K' hK => ?_⟩
      simp only [h4] at hK ⊢
      go_simp
      exact hK.out _ _ (Below.refl _ _) rfl
    | 6, _, hdep =>
      have h5 : (ua 16) = .pointer (some ⟨M, 0, none⟩) := hdep 5 (by kernel_rfl)
      clear hdep
      refine ⟨_, rfl, fun K' hK => ?_⟩
      simp only [h5] at hK ⊢
      go_simp
      exact hK.out _ _ (Below.refl _ _) rfl
    | 7, _, hdep =>
      have h6 : (ua 17) = .pointer (some ⟨M, 8, none⟩) := hdep 6 (by kernel_rfl)
      clear hdep
      refine ⟨_, rfl, fun K' hK => ?_⟩
      have c8 := (HC1.out w8 ((Df.of_below S8).mono (fun _ _ h => h.elim))).2.2.1
      simp only [h6] at hK ⊢
      go_simp
      exact hK.out _ _ (Below.refl _ _) rfl
    | 8, _, hdep =>
      clear hdep
      refine ⟨_, rfl, fun K' hK => ?_⟩
      have cb := (HC1.out w8 ((Df.of_below S8).mono (fun _ _ h => h.elim))).1
      go_simp
      exact hK.out _ _ (Below.refl _ _) rfl
    | 9, _, hdep =>
      have h8 : (ua 19) = .pointer (some ⟨M, 0, none⟩) := hdep 8 (by kernel_rfl)
      clear hdep
      refine ⟨_, rfl, fun K' hK => ?_⟩
      simp only [h8] at hK ⊢
      go_simp
      exact hK.out _ _ (Below.refl _ _) rfl
    | 10, _, hdep =>
      have h9 : (ua 20) = .pointer (some ⟨M, 0, none⟩) := hdep 9 (by kernel_rfl)
      clear hdep
      refine ⟨_, rfl, fun K' hK => ?_⟩
      simp only [h9] at hK ⊢
      go_simp
      exact hK.out _ _ (Below.refl _ _) rfl
    | 11, _, hdep =>
      have h10 : (ua 21) = .pointer (some ⟨M, 8, none⟩) := hdep 10 (by kernel_rfl)
      clear hdep
      refine ⟨_, rfl, fun K' hK => ?_⟩
      have c8 := (HC1.out w8 ((Df.of_below S8).mono (fun _ _ h => h.elim))).2.2.1
      simp only [h10] at hK ⊢
      go_simp
      exact hK.out _ _ (Below.refl _ _) rfl
    | 12, _, hdep =>
      have h11 : (ua 22) = .slice (some ⟨g8, 0, none⟩) kn kc := hdep 11 (by kernel_rfl)
      clear hdep
      refine ⟨_, rfl, fun K' hK => ?_⟩
      simp only [h11] at hK ⊢
      go_simp
      exact hK.out _ _ (Below.refl _ _) rfl
    | 13, _, hdep =>
      have h12 : (ua 23) = .int .i64 (kn : Int) := hdep 12 (by kernel_rfl)
      clear hdep
      refine ⟨_, rfl, fun K' hK => ?_⟩
      have e9 : IntKind.i64.wrap (kl : Int) = kl := by rw [IntKind.wrap_i64]; omega
      simp only [h12] at hK ⊢
      go_simp
      exact hK.out _ _ (Below.refl _ _) rfl
    | 14, _, hdep =>
      have h7 : (ua 18) = .slice (some ⟨g8, 0, none⟩) kn kc := hdep 7 (by kernel_rfl)
      have h13 : (ua 24) = .int .i64 (kl : Int) := hdep 13 (by kernel_rfl)
      clear hdep
      refine ⟨_, rfl, fun K' hK => ?_⟩
      simp only [h7, h13] at hK ⊢
      go_simp
      exact hK.out _ _ (Below.refl _ _) rfl
    | 15, _, hdep =>
      have h14 : (ua 25) = .pointer (some ⟨g8, kl, none⟩) := hdep 14 (by kernel_rfl)
      clear hdep
      refine ⟨_, rfl, fun K' hK => ?_⟩
      have cq := (HC1.out w8 ((Df.of_below S8).mono (fun _ _ h => h.elim))).2.2.2
      simp only [h14] at hK ⊢
      go_simp
      exact hK.out _ _ (Below.refl _ _) rfl
    | 16, _, hdep =>
      have h3 : (ua 14) = .slice (some ⟨g7, 0, none⟩) tn tc := hdep 3 (by kernel_rfl)
      have h15 : (ua 26) = .int .i64 (st : Int) := hdep 15 (by kernel_rfl)
      clear hdep
      refine ⟨_, rfl, fun K' hK => ?_⟩
      have ne9 : ¬ tc = st := by omega
      simp only [h3, h15] at hK ⊢
      go_simp
      exact hK.out _ _ (Below.refl _ _) rfl
    | 17, _, hdep =>
      have h16 : (ua 27) = .slice (some ⟨g7, st * 2, none⟩) m (tc - st) := hdep 16 (by kernel_rfl)
      clear hdep
      refine ⟨_, rfl, fun K' hK => ?_⟩
      simp only [h16] at hK ⊢
      go_simp
      exact hK.out _ _ (Below.refl _ _) rfl
    | 18, _, hdep =>
      clear hdep
      refine ⟨_, rfl, fun K' hK => ?_⟩
      go_simp
      exact hK.out _ _ (Below.refl _ _) rfl
    | i + 19, hi, _ => exact absurd hi (by omega)
  case fin =>
    intro ua wa S8 hall
    have h16 : (ua 27) = .slice (some ⟨g7, st * 2, none⟩) m (tc - st) := hall 16 (by decide)
    have h17 : (ua 28) = .int .i64 (m : Int) := hall 17 (by decide)
    have h18 : (ua 29) = .int .i64 0 := hall 18 (by decide)
    clear hall
    have HA : Hid (Df (fun q => q = (w.heap.size + 1 + 1)) W1 wa) := hid ((Df.of_below S8).mono (fun _ _ h => h.elim))
    rw [h16, h17, h18]
    have HS8 := hid S8
    clear S8 h16 h17 h18
    go_wp2
    go_loopw [29] (fun i wr => ∃ k : Nat, k ≤ m ∧ i = .int .i64 k ∧ wr.heap[(w.heap.size + 1 + 1)]? = some (.cells #[.int .u64 (P k).1, .int .u64 (P k).2] 51 (0, 0)) ∧ Df (fun q => q = (w.heap.size + 1 + 1)) W1 wr) (fun i _ => m - (intOf i).toNat)
    case atStart => exact ⟨0, Nat.zero_le _, rfl, by rw [HP0.out]; exact (HS8.out.block _ (by omega)).trans HY3.out, HA.out⟩
    case round =>
      obtain ⟨k, hk, rfl, hy, hd⟩ := hrel
      have HY := hid hy
      have HD := hid hd
      clear hy hd
      by_cases hkm : k < m
      · obtain ⟨r, c0, c1⟩ := HTr.out (st + k) (by omega)
        obtain ⟨l0, l1, l2⟩ := HTl.out (st + k) (by omega)
        replace c0 := HD.out.cell (keep HB1.out c0) (by omega)
        replace c1 := HD.out.cell (keep HB1.out c1) (by omega)
        rw [Nat.add_mul] at c0 c1
        have hp := HPs.out k hkm
        have hwk := (HPw.out k hk).lt
        have hwo := (wf_only (show -(tl s (st + k)) ≠ 0 by omega) (by omega) (by omega)).lt
        generalize tl s (st + k) = z at *
        obtain ⟨P1, hP1⟩ : ∃ q, (P k).1 = q := ⟨_, rfl⟩
        obtain ⟨P2, hP2⟩ : ∃ q, (P k).2 = q := ⟨_, rfl⟩
        have hy := HY.out
        rw [hP1, hP2] at hy hwk
        have HPk : Hid (P (k + 1) = (P1 ||| pBit (-z), P2 ||| oBit (-z))) := hid (by rw [hp, ← hP1, ← hP2]; rfl)
        have HOn := hid (fun w : World => only_impl (-z) w (by omega) (by omega))
        have HWi := hid (fun w : World => with_impl P1 P2 (pBit (-z)) (oBit (-z)) w hwk.1 hwk.2 hwo.1 hwo.2)
        generalize P1 ||| pBit (-z) = A1 at HPk HWi
        generalize P2 ||| oBit (-z) = A2 at HPk HWi
        generalize pBit (-z) = Q2 at HOn HWi
        generalize oBit (-z) = O2 at HOn HWi
        have HK5 : Hid (∀ w8 : World, Below wr.heap.size wr w8 → w8.heap[(w.heap.size + 1 + 1)]? = some (.cells #[.int .u64 P1, .int .u64 P2] 51 (0, 0)) ∧ w8.cell? ⟨(w.heap.size + 1 + 1), 0, none⟩ = some (.int .u64 P1) ∧ w8.cell? ⟨(w.heap.size + 1 + 1), 1, none⟩ = some (.int .u64 P2) ∧ w8.frozen? ⟨(w.heap.size + 1 + 1), 0, none⟩ = false ∧ w8.frozen? ⟨(w.heap.size + 1 + 1), 1, none⟩ = false) := hid (fun w8 hb => by
          have hh := (hb.block (w.heap.size + 1 + 1) (Array.getElem?_eq_some_iff.1 hy).1).trans hy
          exact ⟨hh, by simp [World.cell?, hh], by simp [World.cell?, hh], by simp [World.frozen?, hh], by simp [World.frozen?, hh]⟩)
        have hnl := (Array.getElem?_eq_some_iff.1 hy).1
        have hkd : (k : Int) < m := by omega
        obtain ⟨_, m5, m6, z5, z6⟩ := HK5.out wr (Below.refl _ _)
        clear hp hwk hwo hP1 hP2 hy
        go_wp2_with fail
        have S5 := hid (show Below wr.heap.size wr (wr.alloc (.cells #[.int .i64 z, .int .i64 r] 87)) from (by repeat (first | exact Below.refl _ _ | assumption | refine Below.drew ?_ | refine Below.alloc ?_ (by first | exact Nat.le_refl _ | omega | (simp; done) | (simp; omega)) _ | refine Below.setCell ?_ (by first | exact Nat.le_refl _ | omega | (simp; done) | (simp; omega)) _)))
        refine region_end (fun ue => ⟨#[.pointer (some ⟨M, 0, none⟩), .pointer (some ⟨w.heap.size, 0, none⟩), .pointer (some ⟨w.heap.size + 1, 0, none⟩), .pointer (some ⟨w.heap.size + 1 + 1, 0, none⟩), undef, .pointer (some ⟨wr.heap.size, 0, none⟩), undef, undef, undef, undef, undef, ua 11, ua 12, ua 13, ua 14, ua 15, ua 16, ua 17, ua 18, ua 19, ua 20, ua 21, ua 22, ua 23, ua 24, ua 25, ua 26, .slice (some ⟨g7, st * 2, none⟩) m (tc - st), .int .i64 m, .int .i64 k, .bool true, .pointer (some ⟨g7, st * 2 + k * 2, none⟩), .agg #[.int .i64 z, .int .i64 r], ue 33, ue 34, ue 35, ue 36, ue 37, ue 38, u39, undef, undef, undef, undef, undef, undef, undef, undef, undef, undef, undef, undef, undef, undef, undef, undef, undef, undef, undef, undef, undef, undef, undef, undef, undef, undef, undef, undef, undef, undef, undef, undef, undef, undef, undef, undef, undef, undef, undef, undef, undef, undef, undef, undef, undef, undef, undef, undef, undef, undef, undef, undef, undef], []⟩) (fun i => [33, 34, 35, 36, 37, 38].getD i 0) (fun i x8 w8 => match i with | 0 => x8 = .agg #[.int .u64 P1, .int .u64 P2] | 1 => x8 = .pointer (some ⟨wr.heap.size, 0, none⟩) | 2 => x8 = .int .i64 z | 3 => x8 = .int .i64 (-z) | 4 => x8 = .agg #[.int .u64 Q2, .int .u64 O2] | 5 => x8 = .agg #[.int .u64 A1, .int .u64 A2] | _ => True) (fun _ _ _ _ => False) (wr.alloc (.cells #[.int .i64 z, .int .i64 r] 87)) 6 [5, 2, 3, 4, 5, 6] (fun k => match k with | 33 => u33 | 34 => u34 | 35 => u35 | 36 => u36 | 37 => u37 | 38 => u38 | _ => undef) (by rfl) (by kernel_rfl) (by rfl) (by kernel_rfl) (by kernel_rfl) (Below.refl _ _) ?hput ?hputN ?hinj ?stable ?step ?last
        case hput =>
          intro i hi ue v8
          match i, hi with
          | 0, _ => rfl
          | 1, _ => rfl
          | 2, _ => rfl
          | 3, _ => rfl
          | 4, _ => rfl
          | 5, _ => rfl
          | i + 6, hi => exact absurd hi (by omega)
        case hputN => intro ue v8; rfl
        case hinj =>
          intro i j hi hj h
          exact slots_inj [33, 34, 35, 36, 37, 38] (by decide) hi hj h
        case stable =>
          intro i x8 w8 w9 hb hf h
          match i, hf, h with
          | 0, hf, h => exact ⟨h, fun _ hk => hk⟩
          | 1, hf, h => exact ⟨h, fun _ hk => hk⟩
          | 2, hf, h => exact ⟨h, fun _ hk => hk⟩
          | 3, hf, h => exact ⟨h, fun _ hk => hk⟩
          | 4, hf, h => exact ⟨h, fun _ hk => hk⟩
          | 5, hf, h => exact ⟨h, fun _ hk => hk⟩
          | _ + 6, hf, h => exact ⟨trivial, fun _ hk => hk⟩
        case step =>
          intro i hi ue w8 S8 hdep
          match i, hi with
          | 0, _ =>
            clear hdep
            refine ⟨_, rfl, fun K' hK => ?_⟩
            obtain ⟨_, c5, c6, _⟩ := HK5.out w8 (S5.out.trans (S8.mono S5.out.size))
            go_simp
            exact hK.out _ _ (Chg.refl _ _) rfl (fun b hb => hb.elim)
          | 1, _ =>
            clear hdep
            refine ⟨_, rfl, fun K' hK => ?_⟩
            go_simp
            exact hK.out _ _ (Chg.refl _ _) rfl (fun b hb => hb.elim)
          | 2, _ =>
            have h1 : (ue 34) = .pointer (some ⟨wr.heap.size, 0, none⟩) := (hdep 1 rfl (by decide)).1
            clear hdep
            refine ⟨_, rfl, fun K' hK => ?_⟩
            have ci : w8.cell? ⟨wr.heap.size, 0, none⟩ = some (.int .i64 z) := keep S8 (by simp [go_sem])
            simp only [h1] at hK ⊢
            go_simp
            exact hK.out _ _ (Chg.refl _ _) rfl (fun b hb => hb.elim)
          | 3, _ =>
            have h2 : (ue 35) = .int .i64 z := (hdep 2 rfl (by decide)).1
            clear hdep
            refine ⟨_, rfl, fun K' hK => ?_⟩
            have ez : IntKind.i64.wrap (-z) = -z := by rw [IntKind.wrap_i64]; omega
            simp only [h2] at hK ⊢
            go_simp
            exact hK.out _ _ (Chg.refl _ _) rfl (fun b hb => hb.elim)
          | 4, _ =>
            have h3 : (ue 36) = .int .i64 (-z) := (hdep 3 rfl (by decide)).1
            clear hdep
            refine ⟨_, rfl, fun K' hK => ?_⟩
            simp only [h3] at hK ⊢
            go_simp
            refine (HOn.out _).mono ?_
            rintro e9 w9 ⟨rfl, hb9⟩
            exact hK.out _ _ (Chg.of_below hb9) rfl (fun b hb => hb.elim)
          | 5, _ =>
            have h0 : (ue 33) = .agg #[.int .u64 P1, .int .u64 P2] := (hdep 0 rfl (by decide)).1
            have h4 : (ue 37) = .agg #[.int .u64 Q2, .int .u64 O2] := (hdep 4 rfl (by decide)).1
            clear hdep
            refine ⟨_, rfl, fun K' hK => ?_⟩
            simp only [h0, h4] at hK ⊢
            go_simp
            refine (HWi.out _).mono ?_
            rintro e9 w9 ⟨rfl, hb9⟩
            exact hK.out _ _ (Chg.of_below hb9) rfl (fun b hb => hb.elim)
          | i + 6, hi => exact absurd hi (by omega)
        case last =>
          intro ue w8 S8 hdep
          have h5 : (ue 38) = .agg #[.int .u64 A1, .int .u64 A2] := (hdep 5 rfl (by decide)).1
          clear hdep
          refine ⟨_, rfl, fun K' hK => ?_⟩
          obtain ⟨ph, p5, p6, pz5, pz6⟩ := HK5.out w8 (S5.out.trans (S8.mono S5.out.size))
          simp only [h5] at hK ⊢
          go_simp
          refine hK.out undef _ ?_
          clear hK h5
          have q2 := hid ((HD.out.trans (((Df.of_below (S5.out.trans (S8.mono S5.out.size))).mono (fun _ _ h => h.elim)))).trans ((df_set w8 (w.heap.size + 1 + 1) 0 (.int .u64 (A1 : Int))).trans (df_set _ (w.heap.size + 1 + 1) 1 (.int .u64 (A2 : Int)))))
          have q1 := hid (heap_setCell_same _ (w.heap.size + 1 + 1) 1 _ _ (.int .u64 (A2 : Int)) (heap_setCell_same _ (w.heap.size + 1 + 1) 0 _ _ (.int .u64 (A1 : Int)) ph))
          go_wp2
          go_roundw
          case rel => exact ⟨k + 1, by omega, by go_num, by rw [HPk.out]; exact q1.out, q2.out⟩
          case measure => simp [intOf]; omega
      · have e : m = k := by omega
        subst e
        have hwc : Wf (P m) := HPw.out m (Nat.le_refl _)
        obtain ⟨R1, hR1⟩ : ∃ q, (P m).1 = q := ⟨_, rfl⟩
        obtain ⟨R2, hR2⟩ : ∃ q, (P m).2 = q := ⟨_, rfl⟩
        have hPm : P m = (R1, R2) := by rw [← hR1, ← hR2]
        have HRc : Hid (Recent s st (R1, R2)) := hid (by rw [← hPm]; exact HPm.out)
        have HYr := hid HY.out
        rw [hR1, hR2] at HYr
        obtain ⟨gC, capC, hc2, hcm, cc0, cc1⟩ := solPush.Sol.clause HS.out (by omega) HFC.out
        have k2 := HS.out.cell (i := 2) (by omega)
        rw [hc2] at k2
        have hgc := World.block_lt_of_cell? _ _ cc0
        dsimp only at hgc
        obtain ⟨C1, hC1⟩ : ∃ q, (s.cl f).1 = q := ⟨_, rfl⟩
        obtain ⟨C2, hC2⟩ : ∃ q, (s.cl f).2 = q := ⟨_, rfl⟩
        rw [hC1] at cc0
        rw [hC2] at cc1
        have hCf : s.cl f = (C1, C2) := by rw [← hC1, ← hC2]
        have HLe0 : Hid (LesI n Z G s st tn (C1, C2)) := hid (by have := HLes.out; rw [HTn.out, hCf] at this; exact this)
        obtain ⟨cn, hcn⟩ : ∃ cn, s.C.length = cn := ⟨_, rfl⟩
        rw [hcn] at k2 hcm
        have hfc : f < cn := by rw [← hcn]; exact HFC.out
        have HC2 : Hid (∀ w8 : World, Below wr.heap.size wr w8 → w8.cell? ⟨w.heap.size, 0, none⟩ = some (.pointer (some ⟨M, 0, none⟩)) ∧ w8.cell? ⟨M, 2, none⟩ = some (.slice (some ⟨gC, 0, none⟩) cn capC) ∧ w8.cell? ⟨M, 10, none⟩ = some (.int .i64 (f : Int)) ∧ w8.cell? ⟨gC, f * 2, none⟩ = some (.int .u64 (C1 : Int)) ∧ w8.cell? ⟨gC, f * 2 + 1, none⟩ = some (.int .u64 (C2 : Int))) := hid (fun w8 hb => ⟨keep hb (HC1.out wr HD.out).1, keep hb (HD.out.cell (keep HB1.out k2) (by omega)), keep hb (HD.out.cell (keep HB1.out K10.out) (by omega)), keep hb (HD.out.cell (keep HB1.out cc0) (by omega)), keep hb (HD.out.cell (keep HB1.out cc1) (by omega))⟩)
        clear hwc hR1 hR2 hPm hc2 k2 cc0 cc1 hC1 hC2 hCf hcn HLes HPm
        unfold maxLen at hcm
        go_wp2
        refine region_end (fun ug => ⟨#[.pointer (some ⟨M, 0, none⟩), .pointer (some ⟨w.heap.size, 0, none⟩), .pointer (some ⟨w.heap.size + 1, 0, none⟩), .pointer (some ⟨w.heap.size + 1 + 1, 0, none⟩), undef, u5, ug 6, undef, undef, undef, undef, ua 11, ua 12, ua 13, ua 14, ua 15, ua 16, ua 17, ua 18, ua 19, ua 20, ua 21, ua 22, ua 23, ua 24, ua 25, ua 26, .slice (some ⟨g7, st * 2, none⟩) m (tc - st), .int .i64 m, .int .i64 m, .bool false, u31, u32, u33, u34, u35, u36, u37, u38, u39, ug 40, ug 41, ug 42, ug 43, ug 44, ug 45, ug 46, ug 47, ug 48, ug 49, undef, undef, undef, undef, undef, undef, undef, undef, undef, undef, undef, undef, undef, undef, undef, undef, undef, undef, undef, undef, undef, undef, undef, undef, undef, undef, undef, undef, undef, undef, undef, undef, undef, undef, undef, undef, undef, undef, undef, undef, undef, undef, undef], []⟩) (fun i => [40, 41, 42, 43, 44, 45, 46, 47, 48, 49, 6].getD i 0) (fun i x8 w8 => match i with | 0 => x8 = .pointer (some ⟨M, 0, none⟩) | 1 => x8 = .pointer (some ⟨M, 0, none⟩) | 2 => x8 = .pointer (some ⟨M, 2, none⟩) | 3 => x8 = .slice (some ⟨gC, 0, none⟩) cn capC | 4 => x8 = .pointer (some ⟨M, 0, none⟩) | 5 => x8 = .pointer (some ⟨M, 0, none⟩) | 6 => x8 = .pointer (some ⟨M, 10, none⟩) | 7 => x8 = .int .i64 (f : Int) | 8 => x8 = .pointer (some ⟨gC, f * 2, none⟩) | 9 => x8 = .agg #[.int .u64 C1, .int .u64 C2] | 10 => ∃ N : Nat, x8 = .pointer (some ⟨N, 0, none⟩) ∧ wr.heap.size ≤ N ∧ (World.heap w8)[N]? = some (.cells #[.int .u64 0, .int .u64 0] 51 (0, 0)) | _ => True) (fun i x8 w8 b8 => match i with | 10 => x8 = .pointer (some ⟨b8, 0, none⟩) | _ => False) wr 11 [1, 2, 3, 8, 5, 6, 7, 8, 9, 11, 11] (fun k => match k with | 40 => undef | 41 => undef | 42 => undef | 43 => undef | 44 => undef | 45 => undef | 46 => undef | 47 => undef | 48 => undef | 49 => undef | 6 => undef | _ => undef) (by rfl) (by kernel_rfl) (by rfl) (by kernel_rfl) (by kernel_rfl) (Below.refl _ _) ?hput ?hputN ?hinj ?stable ?step ?last
        case hput =>
          intro i hi ug v8
          match i, hi with
          | 0, _ => rfl
          | 1, _ => rfl
          | 2, _ => rfl
          | 3, _ => rfl
          | 4, _ => rfl
          | 5, _ => rfl
          | 6, _ => rfl
          | 7, _ => rfl
          | 8, _ => rfl
          | 9, _ => rfl
          | 10, _ => rfl
          | i + 11, hi => exact absurd hi (by omega)
        case hputN => intro ug v8; rfl
        case hinj =>
          intro i j hi hj h
          exact slots_inj [40, 41, 42, 43, 44, 45, 46, 47, 48, 49, 6] (by decide) hi hj h
        case stable =>
          intro i x8 w8 w9 hb hf h
          match i, hf, h with
          | 0, hf, h => exact ⟨h, fun _ hk => hk⟩
          | 1, hf, h => exact ⟨h, fun _ hk => hk⟩
          | 2, hf, h => exact ⟨h, fun _ hk => hk⟩
          | 3, hf, h => exact ⟨h, fun _ hk => hk⟩
          | 4, hf, h => exact ⟨h, fun _ hk => hk⟩
          | 5, hf, h => exact ⟨h, fun _ hk => hk⟩
          | 6, hf, h => exact ⟨h, fun _ hk => hk⟩
          | 7, hf, h => exact ⟨h, fun _ hk => hk⟩
          | 8, hf, h => exact ⟨h, fun _ hk => hk⟩
          | 9, hf, h => exact ⟨h, fun _ hk => hk⟩
          | 10, hf, h => 
            obtain ⟨N, e, hN, hh⟩ := h
            exact ⟨⟨N, e, hN, (hf N e).2.trans hh⟩, fun _ hk => hk⟩
          | _ + 11, hf, h => exact ⟨trivial, fun _ hk => hk⟩
        case step =>
          intro i hi ug w8 S8 hdep
          match i, hi with
          | 0, _ =>
            clear hdep
            refine ⟨_, rfl, fun K' hK => ?_⟩
            have cb := (HC2.out w8 S8).1
            go_simp
            exact hK.out _ _ (Chg.refl _ _) rfl (fun b hb => hb.elim)
          | 1, _ =>
            have h0 : (ug 40) = .pointer (some ⟨M, 0, none⟩) := (hdep 0 rfl (by decide)).1
            clear hdep
            refine ⟨_, rfl, fun K' hK => ?_⟩
            simp only [h0] at hK ⊢
            go_simp
            exact hK.out _ _ (Chg.refl _ _) rfl (fun b hb => hb.elim)
          | 2, _ =>
            have h1 : (ug 41) = .pointer (some ⟨M, 0, none⟩) := (hdep 1 rfl (by decide)).1
            clear hdep
            refine ⟨_, rfl, fun K' hK => ?_⟩
            simp only [h1] at hK ⊢
            go_simp
            exact hK.out _ _ (Chg.refl _ _) rfl (fun b hb => hb.elim)
          | 3, _ =>
            have h2 : (ug 42) = .pointer (some ⟨M, 2, none⟩) := (hdep 2 rfl (by decide)).1
            clear hdep
            refine ⟨_, rfl, fun K' hK => ?_⟩
            have cb := (HC2.out w8 S8).2.1
            simp only [h2] at hK ⊢
            go_simp
            exact hK.out _ _ (Chg.refl _ _) rfl (fun b hb => hb.elim)
          | 4, _ =>
            clear hdep
            refine ⟨_, rfl, fun K' hK => ?_⟩
            have cb := (HC2.out w8 S8).1
            go_simp
            exact hK.out _ _ (Chg.refl _ _) rfl (fun b hb => hb.elim)
          | 5, _ =>
            have h4 : (ug 44) = .pointer (some ⟨M, 0, none⟩) := (hdep 4 rfl (by decide)).1
            clear hdep
            refine ⟨_, rfl, fun K' hK => ?_⟩
            simp only [h4] at hK ⊢
            go_simp
            exact hK.out _ _ (Chg.refl _ _) rfl (fun b hb => hb.elim)
          | 6, _ =>
            have h5 : (ug 45) = .pointer (some ⟨M, 0, none⟩) := (hdep 5 rfl (by decide)).1
            clear hdep
            refine ⟨_, rfl, fun K' hK => ?_⟩
            simp only [h5] at hK ⊢
            go_simp
            exact hK.out _ _ (Chg.refl _ _) rfl (fun b hb => hb.elim)
          | 7, _ =>
            have h6 : (ug 46) = .pointer (some ⟨M, 10, none⟩) := (hdep 6 rfl (by decide)).1
            clear hdep
            refine ⟨_, rfl, fun K' hK => ?_⟩
            have cb := (HC2.out w8 S8).2.2.1
            simp only [h6] at hK ⊢
            go_simp
            exact hK.out _ _ (Chg.refl _ _) rfl (fun b hb => hb.elim)
          | 8, _ =>
            have h3 : (ug 43) = .slice (some ⟨gC, 0, none⟩) cn capC := (hdep 3 rfl (by decide)).1
            have h7 : (ug 47) = .int .i64 (f : Int) := (hdep 7 rfl (by decide)).1
            clear hdep
            refine ⟨_, rfl, fun K' hK => ?_⟩
            have fi : (f : Int) < (cn : Int) := by omega
            simp only [h3, h7] at hK ⊢
            go_simp
            exact hK.out _ _ (Chg.refl _ _) rfl (fun b hb => hb.elim)
          | 9, _ =>
            have h8 : (ug 48) = .pointer (some ⟨gC, f * 2, none⟩) := (hdep 8 rfl (by decide)).1
            clear hdep
            refine ⟨_, rfl, fun K' hK => ?_⟩
            obtain ⟨_, _, _, ca, cb⟩ := HC2.out w8 S8
            simp only [h8] at hK ⊢
            go_simp
            exact hK.out _ _ (Chg.refl _ _) rfl (fun b hb => hb.elim)
          | 10, _ =>
            clear hdep
            refine ⟨_, rfl, fun K' hK => ?_⟩
            go_simp
            exact hK.out _ _ (Chg.of_below (by repeat (first | exact Below.refl _ _ | assumption | refine Below.drew ?_ | refine Below.alloc ?_ (by first | exact Nat.le_refl _ | omega | (simp; done) | (simp; omega)) _ | refine Below.setCell ?_ (by first | exact Nat.le_refl _ | omega | (simp; done) | (simp; omega)) _))) ⟨w8.heap.size, rfl, S8.size, World.alloc_heap_new w8 _⟩ (fun b hb => by
              have e9 : b = w8.heap.size := by injection hb with hb; injection hb with hb; injection hb with hb _ _; exact hb.symm
              subst e9
              exact ⟨by simp, .inr (Nat.le_refl _)⟩)
          | i + 11, hi => exact absurd hi (by omega)
        case last =>
          intro ug w8 S8 hdep
          have h9 : (ug 49) = .agg #[.int .u64 C1, .int .u64 C2] := (hdep 9 rfl (by decide)).1
          have h10 : ∃ N : Nat, (ug 6) = .pointer (some ⟨N, 0, none⟩) ∧ wr.heap.size ≤ N ∧ (World.heap w8)[N]? = some (.cells #[.int .u64 0, .int .u64 0] 51 (0, 0)) := (hdep 10 rfl (by decide)).1
          clear hdep
          refine ⟨_, rfl, fun K' hK => ?_⟩
          obtain ⟨N, e10, hN, hh⟩ := h10
          have n0 : w8.cell? ⟨N, 0, none⟩ = some (.int .u64 0) := by simp [World.cell?, hh]
          have n1 : w8.cell? ⟨N, 1, none⟩ = some (.int .u64 0) := by simp [World.cell?, hh]
          have z0 : w8.frozen? ⟨N, 0, none⟩ = false := by simp [World.frozen?, hh]
          have z1 : w8.frozen? ⟨N, 1, none⟩ = false := by simp [World.frozen?, hh]
          simp only [h9, e10] at hK ⊢
          go_simp
          refine hK.out undef _ ?_
          clear hK h9 e10
          have hhn := heap_setCell_same _ N 1 _ _ (.int .u64 (C2 : Int)) (heap_setCell_same _ N 0 _ _ (.int .u64 (C1 : Int)) hh)
          have hbn : Below wr.heap.size wr ((w8.setCell ⟨N, 0, none⟩ (.int .u64 (C1 : Int))).setCell ⟨N, 1, none⟩ (.int .u64 (C2 : Int))) := (S8.setCell hN _).setCell hN _
          generalize (w8.setCell ⟨N, 0, none⟩ (.int .u64 (C1 : Int))).setCell ⟨N, 1, none⟩ (.int .u64 (C2 : Int)) = w7 at *
          have HN6 : Hid (w7.heap[N]? = some (.cells #[.int .u64 (C1 : Int), .int .u64 (C2 : Int)] 51 (0, 0))) := hid hhn
          have HB7 := hid hbn
          have HD7 : Hid (Df (fun q => q = (w.heap.size + 1 + 1)) W1 w7) := hid (HD.out.trans ((Df.of_below hbn).mono (fun _ _ h => h.elim)))
          have hltN : (w.heap.size + 1 + 1) < N := by have := (Array.getElem?_eq_some_iff.1 HYr.out).1; omega
          have HY7 : Hid (w7.heap[(w.heap.size + 1 + 1)]? = some (.cells #[.int .u64 (R1 : Int), .int .u64 (R2 : Int)] 51 (0, 0))) := hid ((hbn.block (w.heap.size + 1 + 1) (Array.getElem?_eq_some_iff.1 HYr.out).1).trans HYr.out)
          have HTab : Hid (0 < w.heap.size) := hid (by
            have := HS.out.tab 0 (by decide +kernel)
            exact World.block_lt_of_cell? _ _ this)
          have HBk : Hid (∀ a g, blk 0 F V a = some g → g < w.heap.size) := hid (fun a g e => HS.out.blt e)
          have HS7 : Hid (Sol 0 M mb F V s w7) := hid (Sol.low HS.out hM HS.out.lt.2 HBk.out HTab.out (fun j hj => (HD7.out.blk j (by have := HB1.out.size; omega) (by omega)).trans (HB1.out.block j hj)))
          have cM := (HC2.out w7 hbn).1
          have cN0 : w7.cell? ⟨N, 0, none⟩ = some (.int .u64 (C1 : Int)) := by simp [World.cell?, hhn]
          have cN1 : w7.cell? ⟨N, 1, none⟩ = some (.int .u64 (C2 : Int)) := by simp [World.cell?, hhn]
          clear n0 n1 z0 z1 hh hhn hbn S8
          go_wp2_with fail
          refine (weigh_impl M mb F V s _ HS7.out n HCd.out.q.nv h40 C1 C2 HLe0.out.wf g (1000 * g) (by omega) (by omega) HW.out).mono ?_
          rintro e w8 ⟨rfl, F8, X8, hs8, hw8, hsx8, hch8, hf8, hdf8⟩
          have HS8 := hid hs8
          have HW8 := hid hw8
          have HX8 := hid hsx8
          have HC8 := hid hch8
          have HF8 := hid hf8
          have HD8 : Hid (Df (fun q => q = (w.heap.size + 1 + 1) ∨ q = M) W1 w8) := hid ((HD7.out.mono (fun _ _ h => .inl h)).trans (hdf8.mono (fun _ _ h => .inr h)))
          have HN8 := hid (hdf8.keeps HN6.out (by omega))
          have HY8 := hid (hdf8.keeps HY7.out (by omega))
          have dM := hdf8.cell cM (by omega)
          have d7 : w8.cell? ⟨M, 7, none⟩ = some (.slice (some ⟨g7, 0, none⟩) tn tc) := by
            rw [hs8.cell (i := 7) (by omega), hf8 7 (by omega), ← HS.out.cell (i := 7) (by omega)]
            exact K7.out
          have hsz8 := hdf8.size
          have hNl := (Array.getElem?_eq_some_iff.1 HN6.out).1
          clear hs8 hw8 hsx8 hch8 hf8 hdf8 cM cN0 cN1
          go_wp2_with fail
          refine (backFact.back_impl (some ⟨g7, 0, none⟩) tn tc _).mono ?_
          rintro e W2 ⟨rfl, rfl⟩
          obtain ⟨W9, hW9⟩ : ∃ W9, w8.alloc (.cells #[.slice (some ⟨g7, 0, none⟩) tn tc] 66) = W9 := ⟨_, rfl⟩
          rw [hW9]
          have hb9 : Below w8.heap.size w8 W9 := by rw [← hW9]; exact (by repeat (first | exact Below.refl _ _ | assumption | refine Below.drew ?_ | refine Below.alloc ?_ (by first | exact Nat.le_refl _ | omega | (simp; done) | (simp; omega)) _ | refine Below.setCell ?_ (by first | exact Nat.le_refl _ | omega | (simp; done) | (simp; omega)) _))
          have hz9 : W9.heap.size = w8.heap.size + 1 := by rw [← hW9]; simp
          have hp9 : W9.heap[w8.heap.size]? = some (.cells #[.slice (some ⟨g7, 0, none⟩) tn tc] 66 (0, 0)) := by rw [← hW9]; exact World.alloc_heap_new _ _
          have hD19 := (HD8.out.trans ((Df.of_below hb9).mono (fun _ _ h => h.elim)))
          have hg7s : g7 ≠ M := fun e => by
            obtain ⟨ta9, tc9, e9, _⟩ := trail_form HS.out
            have h9 := HS.out.off 1003 g7 (by rw [blk_ne (by omega)]; show (F 7).ownBlock = _; have := (HS.out.cell (i := 7) (by omega)); rw [K7.out] at this; injection this with this; rw [← this]; rfl)
            exact h9.1 e
          have HHe : Hid (Held w8.heap.size (some ⟨g7, 0, none⟩) tn tc s.T W9) := hid ⟨by simp [World.cell?, hp9], ⟨HTn.out, by unfold maxLen; omega, fun i hi => by
            obtain ⟨g9, e9, c0, c1, _⟩ := solBackI.trail_at HS.out (s := s) (tc := tc) (n := tn) (ta := some ⟨g7, 0, none⟩) (by have := (HS.out.cell (i := 7) (by omega)); rw [K7.out] at this; injection this with this; exact this.symm) (i := i) (by rw [HTn.out]; exact hi)
            injection e9 with e9
            injection e9 with e9
            subst e9
            exact ⟨g7, 0, rfl, by rw [Nat.zero_add]; exact hD19.cell (keep HB1.out c0) (by omega), by rw [Nat.zero_add]; exact hD19.cell (keep HB1.out c1) (by omega)⟩⟩⟩
          have HS9 := hid (HS8.out.below hb9)
          have HD9 := hid hD19
          have HN9 := hid ((hb9.block N (by omega)).trans HN8.out)
          have HY9 := hid ((hb9.block _ (by have := HD8.out.size; omega)).trans HY8.out)
          have eM := keep hb9 dM
          have HLow : Hid (Low M mb F V N W9.heap.size) := hid ⟨by omega, by have := HS.out.lt.2; omega, fun a g e => by have := HBk.out a g e; omega, by have := HTab.out; omega, by omega⟩
          have HEM := hid eM
          have HZ9 := hid hz9
          clear hb9 hp9 hD19 dM d7 hW9 eM hz9
          go_wp2
          refine (wpIn_wide (n := 9)).1 ?_
          gi_wp2
          refine range_out (n := 9) (α := Nat) (back_two (fun (k : Nat) => #[.int .i64 ((tn : Int) - 1 - (k : Int)), .agg #[.int .i64 (s.T[tn - 1 - k]?.getD (0, 0)).1, .int .i64 (s.T[tn - 1 - k]?.getD (0, 0)).2]]) id w8.heap.size tn tc (some ⟨g7, 0, none⟩) s.T (fun k hk => rfl)) rfl (enters_of Tryd.func75 (by kernel_rfl) rfl) (fun q hq => False.elim hq) (fun r => ?hstart) (fun h k x => k (h x)) (fun W' ob ob' h hc => held_put h hc) (fun _ => rfl)
            (fun pre A => ∃ D1 D2, LI n Z G s st M mb F V g W9 N (tn - pre.length) (1000 * g + ((pre.length : Nat) + 1 : Int) * g) D1 D2 A)
            (fun c A => c = .exit 2 ∧ LX n Z G s st M mb F V g W9 N A) ?hI ?hIx (fun _ _ _ _ _ _ h => h) (fun _ _ _ _ _ => trivial) ?h0
            (fun (k : Nat) a' A => ∃ ab, a' = ⟨#[.pointer (some ⟨M, 0, none⟩), .pointer (some ⟨w.heap.size, 0, none⟩), .pointer (some ⟨w.heap.size + 1, 0, none⟩), .pointer (some ⟨w.heap.size + 1 + 1, 0, none⟩), undef, u5, .pointer (some ⟨N, 0, none⟩), undef, .pointer (some ⟨ab, 0, none⟩), undef, undef, ua 11, ua 12, ua 13, ua 14, ua 15, ua 16, ua 17, ua 18, ua 19, ua 20, ua 21, ua 22, ua 23, ua 24, ua 25, ua 26, .slice (some ⟨g7, st * 2, none⟩) m (tc - st), .int .i64 m, .int .i64 m, .bool false, u31, u32, u33, u34, u35, u36, u37, u38, u39, ug 40, ug 41, ug 42, ug 43, ug 44, ug 45, ug 46, ug 47, ug 48, .agg #[.int .u64 C1, .int .u64 C2], .pointer (some ⟨M, 0, none⟩), .agg #[.int .u64 C1, .int .u64 C2], .tuple #[], .pointer (some ⟨M, 0, none⟩), .pointer (some ⟨M, 0, none⟩), .pointer (some ⟨M, 7, none⟩), .slice (some ⟨g7, 0, none⟩) tn tc, .func (.func 75) #[] #[.pointer (some ⟨w8.heap.size, 0, none⟩)], .int .i64 ((tn : Int) - 1 - (k : Nat)), .agg #[.int .i64 (s.T[tn - 1 - k]?.getD (0, 0)).1, .int .i64 (s.T[tn - 1 - k]?.getD (0, 0)).2], undef, undef, undef, undef, undef, undef, undef, undef, undef, undef, undef, undef, undef, undef, undef, undef, undef, undef, undef, undef, undef, undef, undef, undef, undef, undef, undef, undef, undef, undef, undef, undef, undef], []⟩ ∧ A.heap[ab]? = some (.cells #[.int .i64 (s.T[tn - 1 - k]?.getD (0, 0)).1, .int .i64 (s.T[tn - 1 - k]?.getD (0, 0)).2] 87 (0, 0)) ∧ W9.heap.size + 1 < ab) ?hAx (fun _ _ h => held_df h (fun e => e) (fun _ _ _ _ e => e)) ?hassign ?hbody ?hdone ?hstop
          case hstart =>
            have hb : Below W9.heap.size W9 ((W9.alloc (.deferred (some []))).alloc (.loop r)) := (by repeat (first | exact Below.refl _ _ | assumption | refine Below.drew ?_ | refine Below.alloc ?_ (by first | exact Nat.le_refl _ | omega | (simp; done) | (simp; omega)) _ | refine Below.setCell ?_ (by first | exact Nat.le_refl _ | omega | (simp; done) | (simp; omega)) _))
            exact ⟨keep hb HHe.out.1, HHe.out.2.below hb⟩
          case hI =>
            rintro pre A A' hd ⟨D1, D2, h⟩
            exact ⟨D1, D2, h.df HLow.out hd (fun q hq => hq.elim (fun e => e.elim) (fun e => e.1))⟩
          case hIx =>
            rintro c A A' hd ⟨h1, h2⟩
            exact ⟨h1, h2.df HLow.out hd (fun q hq => hq.elim (fun e => e.elim) (fun e => e.1))⟩
          case h0 => exact ⟨C1, C2, HLe0.out, F8, X8, HS9.out, by have := HW8.out; simpa using this, HX8.out, HF8.out, HN9.out, Df.refl _ _⟩
          case hAx =>
            rintro x a A A' hd ⟨ab, h1, h2, h3⟩
            exact ⟨ab, h1, hd.keeps h2 (by omega), h3⟩
          case hassign =>
            intro x W' K hlt hK
            gi_wp2
            simp only [Oper.semAt]
            go_simp
            gi_wp2
            simp only [Oper.semAt]
            go_simp
            gi_wp2
            exact hK _ _ (Df.alloc _ _) ⟨W'.heap.size, rfl, World.alloc_heap_new W' _, hlt⟩
          case hdone =>
            rintro xs A hS ⟨D1, D2, h⟩ - hD
            exfalso
            obtain ⟨i, _, h2, _⟩ := h.1.rcn
            rw [hS, upto_length] at h2
            omega
          case hstop =>
            rintro c A ⟨rfl, k, D1, D2, h1, F', X', h2, h3, h4, h5, h6, h7⟩ hD
            have HD := hid hD
            have H1 := hid h1
            have H2 := hid h2
            have H3 := hid h3
            have H4 := hid h4
            have H5 := hid h5
            have H7 := hid h7
            have hy2 := h7.keeps (HD9.out.keeps HY2.out (by omega)) (by omega)
            have n0 : A.cell? ⟨N, 0, none⟩ = some (.int .u64 D1) := by simp [World.cell?, h6]
            have n1 : A.cell? ⟨N, 1, none⟩ = some (.int .u64 D2) := by simp [World.cell?, h6]
            have z0 : A.frozen? ⟨w.heap.size + 1, 0, none⟩ = false := by simp [World.frozen?, hy2]
            have z1 : A.frozen? ⟨w.heap.size + 1, 1, none⟩ = false := by simp [World.frozen?, hy2]
            have s0 : A.cell? ⟨w.heap.size + 1, 0, none⟩ = some (.int .u64 0) := by simp [World.cell?, hy2]
            have s1 : A.cell? ⟨w.heap.size + 1, 1, none⟩ = some (.int .u64 0) := by simp [World.cell?, hy2]
            have hds := (df_set A (w.heap.size + 1) 0 (.int .u64 (D1 : Int))).trans (df_set _ (w.heap.size + 1) 1 (.int .u64 (D2 : Int)))
            have hh2 := heap_setCell_same _ (w.heap.size + 1) 1 _ _ (.int .u64 (D2 : Int)) (heap_setCell_same _ (w.heap.size + 1) 0 _ _ (.int .u64 (D1 : Int)) hy2)
            have HDS := hid hds
            have HH2 := hid hh2
            clear hD h1 h2 h3 h4 h5 h6 h7 hy2 hds hh2
            gi_wp2
            go_wp2
            generalize (A.setCell ⟨w.heap.size + 1, 0, none⟩ (.int .u64 (D1 : Int))).setCell ⟨w.heap.size + 1, 1, none⟩ (.int .u64 (D2 : Int)) = A2 at *
            refine leaves_marks (B := 0) [W9.heap.size] A2 ⟨by simp, fun D' hD' => by simp only [List.mem_singleton] at hD'; subst hD'; exact ⟨Nat.zero_le _, HDS.out.keeps HD.out (by have := HZ9.out; omega)⟩⟩ (fun W8 hc => ?_)
            have hz := HZ9.out
            have hA := H7.out.size
            have hA2 := HDS.out.size
            have hw1 := HD9.out.size
            have hyw := (hc.blk (w.heap.size + 1) (by omega) (fun hm => by simp only [List.mem_singleton] at hm; omega)).trans HH2.out
            have y0 : W8.cell? ⟨w.heap.size + 1, 0, none⟩ = some (.int .u64 D1) := by simp [World.cell?, hyw]
            have y1 : W8.cell? ⟨w.heap.size + 1, 1, none⟩ = some (.int .u64 D2) := by simp [World.cell?, hyw]
            have hlow : ∀ j, j < w.heap.size → W8.heap[j]? = A.heap[j]? := fun j hj => (hc.blk j (by omega) (fun hm => by simp only [List.mem_singleton] at hm; omega)).trans (HDS.out.blk j (by omega) (by omega))
            have hold : ∀ j, j < w.heap.size → j ≠ M → W8.heap[j]? = w.heap[j]? := fun j hj hm => (hlow j hj).trans ((H7.out.blk j (by omega) (by omega)).trans ((HD9.out.blk j (by omega) (by omega)).trans (HB1.out.block j hj)))
            refine ⟨.agg #[.int .u64 D1, .int .u64 D2], by simp [results, Tryd.results60, go_sem, y0, y1], D1, D2, st, k, F', X', rfl, HLast.out, H1.out, Sol.low H2.out hM HS.out.lt.2 (fun a g e => HBk.out a g (by rw [← blk_same H5.out]; exact e)) HTab.out hlow, H3.out, H4.out, ⟨?_, ?_, ?_, ?_, fun j hj hm _ _ => hold j hj hm, fun a j e => .inl (by rw [← blk_same H5.out]; exact e)⟩⟩
            · exact hc.os.trans (HDS.out.os.trans (H7.out.os.trans (HD9.out.os.trans HB1.out.os)))
            · exact hc.tape.trans (HDS.out.tape.trans (H7.out.tape.trans (HD9.out.tape.trans HB1.out.tape)))
            · exact hc.output.trans (HDS.out.output.trans (H7.out.output.trans (HD9.out.output.trans HB1.out.output)))
            · have := hc.size
              have := HB1.out.size
              omega
          case hbody =>
            rintro pre k a9 A ⟨D1, D2, hle, F', X', h2, h3, h4, h5, h6, h7⟩ ⟨k', hk, hpre, hkk⟩ ⟨ab, rfl, hab, habl⟩ hD ⟨r9, hr9⟩
            have hkk : k = k' := hkk
            subst hkk
            have hpl : pre.length = k := by rw [hpre, upto_length]
            rw [hpl] at hle h3
            obtain ⟨wq, hwq⟩ : ∃ wq, wq = w8 := ⟨_, rfl⟩
            subst hwq
            obtain ⟨j, hj⟩ : ∃ j, tn - 1 - k = j := ⟨_, rfl⟩
            have hjk : tn - k = j + 1 := by omega
            have hjt : j < tn := by omega
            rw [hjk] at hle
            rw [hj] at hab
            obtain ⟨l0, l1, l2⟩ := HTl.out j hjt
            have hwD := hle.wf
            have hwR := HRc.out.1
            have hwO := wf_only (show -(tl s j) ≠ 0 by omega) (by omega) (by omega)
            have HI : Hid (∀ A' : World, (∃ E1 E2, LI n Z G s st M mb F V g W9 N j (1000 * g + (((k + 1 : Nat) : Int) + 1) * g) E1 E2 A') → ∃ E1 E2, LI n Z G s st M mb F V g W9 N (tn - (pre ++ [k]).length) (1000 * g + (((pre ++ [k]).length : Nat) + 1 : Int) * g) E1 E2 A') := hid (fun A' h => by
              rw [List.length_append, hpl, List.length_singleton, show tn - (k + 1) = j by omega]
              exact h)
            have HWm : Hid (((k : Int) + 1) * g ≤ 41 * g ∧ (((k + 1 : Nat) : Int) + 1) * g = ((k : Int) + 1) * g + g ∧ 0 ≤ ((k : Int) + 1) * g) := hid ⟨Int.mul_le_mul_of_nonneg_right (by omega) (by omega), by push_cast; rw [Int.add_mul ((k : Int) + 1), Int.one_mul], Int.mul_nonneg (by omega) (by omega)⟩
            have HSkip : Hid (mem (D1, D2) (-(tl s j)) = false → LesI n Z G s st j (D1, D2)) := hid (fun hm => les_skip HCd.out.stk.tr hle hm)
            have HDone : Hid (mem (D1, D2) (-(tl s j)) = true → comL (D1, D2) (R1, R2) = onlyL (-(tl s j)) → Les n Z G s st j (D1, D2)) := hid (fun hm hc => les_done HCd.out.stk.tr HRc.out (by rw [HTn.out]; omega) hle hm hc)
            have HStep : Hid (mem (D1, D2) (-(tl s j)) = true → comL (D1, D2) (R1, R2) ≠ onlyL (-(tl s j)) → ∃ r : Nat, (s.T[j]?.getD (0, 0)).2 = r ∧ r < s.C.length ∧ LesI n Z G s st j (withL (woL (D1, D2) (onlyL (-(tl s j)))) (woL (s.cl r) (onlyL (tl s j))))) := hid (fun hm hc => les_step HCd.out HRc.out HLast.out hle hm hc)
            have HFin : Hid (∀ A' : World, Df (fun q => q = M ∨ q = N) A A' → A'.heap[W9.heap.size + 1]? = A.heap[W9.heap.size + 1]? ∧ (A'.heap[W9.heap.size]? = A.heap[W9.heap.size]? ∧ (Held wq.heap.size (some ⟨g7, 0, none⟩) tn tc s.T A → Held wq.heap.size (some ⟨g7, 0, none⟩) tn tc s.T A'))) := hid (fun A' hd => by
              have e1 := HLow.out.n
              have e2 := HZ9.out
              have e4 := (Array.getElem?_eq_some_iff.1 hD).1
              have e5 := (Array.getElem?_eq_some_iff.1 hr9).1
              exact ⟨hd.blk _ e5 (by omega), hd.blk _ e4 (by omega), fun h => held_df hd (by omega) (fun b off h0 e => by injection e with e; injection e with e _ _; subst e; omega) h⟩)
            have HOn := hid (fun W : World => only_impl (-(tl s j)) W (by omega) (by omega))
            have HMe : Hid (∀ W : World, Calls Tryd.prog 49 #[.agg #[.int .u64 D1, .int .u64 D2], .agg #[.int .u64 (pBit (-(tl s j))), .int .u64 (oBit (-(tl s j)))]] W fun e w' => e = .returned (.bool (mem (D1, D2) (-(tl s j)))) ∧ Below W.heap.size W w') := hid (fun W => by
              rw [← has_only hwD (show -(tl s j) ≠ 0 by omega)]
              exact meets_impl D1 D2 (pBit (-(tl s j))) (oBit (-(tl s j))) W hwD.lt.1 hwD.lt.2 hwO.lt.1 hwO.lt.2)
            obtain ⟨lit, hlit⟩ : ∃ z, tl s j = z := ⟨_, rfl⟩
            obtain ⟨rea, hrea⟩ : ∃ z, (s.T[j]?.getD (0, 0)).2 = z := ⟨_, rfl⟩
            have hl9 : (s.T[tn - 1 - k]?.getD (0, 0)).1 = lit := by rw [hj]; exact hlit
            have hr8 : (s.T[tn - 1 - k]?.getD (0, 0)).2 = rea := by rw [hj]; exact hrea
            rw [show (s.T[j]?.getD (0, 0)).1 = lit from hlit, hrea] at hab
            rw [hl9, hr8]
            rw [hlit] at HSkip HDone HStep HOn HMe l0 l1 l2 hwO
            rw [hrea] at HStep
            have hN9 := HLow.out.n
            have hz9 := h7.size
            have hN6 := (Array.getElem?_eq_some_iff.1 h6).1
            have hab1 := (Array.getElem?_eq_some_iff.1 hab).1
            have cM := h7.cell HEM.out (by omega)
            have n0 : A.cell? ⟨N, 0, none⟩ = some (.int .u64 D1) := by simp [World.cell?, h6]
            have n1 : A.cell? ⟨N, 1, none⟩ = some (.int .u64 D2) := by simp [World.cell?, h6]
            have p0 : A.cell? ⟨ab, 0, none⟩ = some (.int .i64 lit) := by simp [World.cell?, hab]
            have p1 : A.cell? ⟨ab, 1, none⟩ = some (.int .i64 rea) := by simp [World.cell?, hab]
            have r0 : A.cell? ⟨(w.heap.size + 1 + 1), 0, none⟩ = some (.int .u64 R1) := by have := h7.keeps HY9.out (by omega); simp [World.cell?, this]
            have r1 : A.cell? ⟨(w.heap.size + 1 + 1), 1, none⟩ = some (.int .u64 R2) := by have := h7.keeps HY9.out (by omega); simp [World.cell?, this]
            have HN := hid h6
            have H2 := hid h2
            have H3 := hid h3
            have H4 := hid h4
            have H5 := hid h5
            have H7 := hid h7
            obtain ⟨O1, hO1⟩ : ∃ x, pBit (-lit) = x := ⟨_, rfl⟩
            obtain ⟨O2, hO2⟩ : ∃ x, oBit (-lit) = x := ⟨_, rfl⟩
            rw [hO1, hO2] at HOn HMe
            have HO : Hid (onlyL (-lit) = (O1, O2)) := hid (by rw [← hO1, ← hO2]; rfl)
            have HHe9 : Hid (Held wq.heap.size (some ⟨g7, 0, none⟩) tn tc s.T W9) := HHe
            have ez : IntKind.i64.wrap (-lit) = -lit := by rw [IntKind.wrap_i64]; omega
            have e64 : lit ≠ -9223372036854775808 := by omega
            clear hle h2 h3 h4 h5 h6 h7 hab hD hr9 hpre hkk hpl hj hjk hlit hrea hl9 hr8 hO1 hO2
            gi_wp2_with (simp only [Oper.semAt]; go_simp)
            refine ⟨trivial, (CallsIn.inRound _ (callsIn_wide.2 (HOn.out _))).mono ?_⟩
            rintro e9 A1 ⟨rfl, hb1⟩
            obtain ⟨A2, hA2⟩ : ∃ A2, A1.alloc (.cells #[.int .u64 (O1 : Int), .int .u64 (O2 : Int)] 51) = A2 := ⟨_, rfl⟩
            have hb2 : Below A.heap.size A A2 := by rw [← hA2]; exact hb1.trans (show Below A.heap.size A1 _ from Below.trans (Below.refl _ _) ((show Below A1.heap.size A1 _ from (by repeat (first | exact Below.refl _ _ | assumption | refine Below.drew ?_ | refine Below.alloc ?_ (by first | exact Nat.le_refl _ | omega | (simp; done) | (simp; omega)) _ | refine Below.setCell ?_ (by first | exact Nat.le_refl _ | omega | (simp; done) | (simp; omega)) _))).mono hb1.size))
            have hN2 : A2.heap[A1.heap.size]? = some (.cells #[.int .u64 (O1 : Int), .int .u64 (O2 : Int)] 51 (0, 0)) := by rw [← hA2]; exact World.alloc_heap_new _ _
            have hz2 : A2.heap.size = A1.heap.size + 1 := by rw [← hA2]; simp
            have hs1 := hb1.size
            have o0 : A2.cell? ⟨A1.heap.size, 0, none⟩ = some (.int .u64 O1) := by simp [World.cell?, hN2]
            have o1 : A2.cell? ⟨A1.heap.size, 1, none⟩ = some (.int .u64 O2) := by simp [World.cell?, hN2]
            have HB1' := hid hb1
            have HA2 := hid hA2
            have m0 := keep hb2 n0
            have m1 := keep hb2 n1
            gi_wp2_with (first | (simp only [HA2.out]; done) | (simp only [Oper.semAt]; go_simp))
            refine ⟨trivial, (CallsIn.inRound _ (callsIn_wide.2 (HMe.out _))).mono ?_⟩
            rintro e9 A3 ⟨rfl, hb3⟩
            have hb : Below A.heap.size A A3 := hb2.trans (hb3.mono hb2.size)
            replace n0 := keep hb n0
            replace n1 := keep hb n1
            replace p0 := keep hb p0
            replace p1 := keep hb p1
            replace r0 := keep hb r0
            replace r1 := keep hb r1
            replace cM := keep hb cM
            replace o0 := keep hb3 o0
            replace o1 := keep hb3 o1
            have HO3 : Hid (A3.heap[A1.heap.size]? = some (.cells #[.int .u64 (O1 : Int), .int .u64 (O2 : Int)] 51 (0, 0))) := hid ((hb3.block _ (by omega)).trans hN2)
            have HA3 : Hid (A.heap.size ≤ A1.heap.size ∧ A1.heap.size < A3.heap.size) := hid ⟨hs1, by have := hb3.size; omega⟩
            have HB3 := hid hb
            clear hb hb2 hb3 hN2 hz2 hs1 HB1' HA2 m0 m1 hb1
            cases hm : mem (D1, D2) (-lit) with
            | false =>
              have HM := hid (HSkip.out hm)
              clear hm
              gi_wp2_with (simp only [Oper.semAt]; go_simp)
              have hd := (Df.of_below HB3.out).mono (Y := fun q => q = M ∨ q = N) (fun _ _ h => h.elim)
              obtain ⟨f1, f2, f3⟩ := HFin.out A3 hd
              refine ⟨f1, ⟨f2, f3⟩, HI.out A3 ⟨D1, D2, HM.out, F', X', H2.out.below HB3.out, wg_mono H3.out (by have := HWm.out.2.1; omega), H4.out, H5.out, (HB3.out.block N hN6).trans HN.out, H7.out.trans hd⟩⟩
            | true =>
              have HM := hid hm
              clear hm
              gi_wp2_with (first | (simp only [Oper.semAt]; go_simp) | (guard_target = Code.wpIn _ _ _ (Code.region 13 _ _) _ _ _; fail))
              have hwd := HMe.out
              have HK3 : Hid (∀ w8 : World, Below A3.heap.size A3 w8 → w8.cell? ⟨N, 0, none⟩ = some (.int .u64 D1) ∧ w8.cell? ⟨N, 1, none⟩ = some (.int .u64 D2) ∧ w8.cell? ⟨(w.heap.size + 1 + 1), 0, none⟩ = some (.int .u64 R1) ∧ w8.cell? ⟨(w.heap.size + 1 + 1), 1, none⟩ = some (.int .u64 R2) ∧ w8.cell? ⟨A1.heap.size, 0, none⟩ = some (.int .u64 O1) ∧ w8.cell? ⟨A1.heap.size, 1, none⟩ = some (.int .u64 O2)) := hid (fun w8 hb => ⟨keep hb n0, keep hb n1, keep hb r0, keep hb r1, keep hb o0, keep hb o1⟩)
              have HCo := hid (fun W : World => common_impl D1 D2 R1 R2 W hwD.lt.1 hwD.lt.2 hwR.lt.1 hwR.lt.2)
              obtain ⟨E1, hE1⟩ : ∃ x, D1 &&& R1 = x := ⟨_, rfl⟩
              obtain ⟨E2, hE2⟩ : ∃ x, D2 &&& R2 = x := ⟨_, rfl⟩
              rw [hE1, hE2] at HCo
              have HE : Hid (comL (D1, D2) (R1, R2) = (E1, E2)) := hid (by rw [← hE1, ← hE2]; rfl)
              clear hwd hE1 hE2
              refine region_calmIn (fun uy => ⟨#[.pointer (some ⟨M, 0, none⟩), .pointer (some ⟨w.heap.size, 0, none⟩), .pointer (some ⟨w.heap.size + 1, 0, none⟩), .pointer (some ⟨w.heap.size + 1 + 1, 0, none⟩), undef, u5, .pointer (some ⟨N, 0, none⟩), undef, .pointer (some ⟨ab, 0, none⟩), .pointer (some ⟨A1.heap.size, 0, none⟩), undef, ua 11, ua 12, ua 13, ua 14, ua 15, ua 16, ua 17, ua 18, ua 19, ua 20, ua 21, ua 22, ua 23, ua 24, ua 25, ua 26, .slice (some ⟨g7, st * 2, none⟩) m (tc - st), .int .i64 m, .int .i64 m, .bool false, u31, u32, u33, u34, u35, u36, u37, u38, u39, ug 40, ug 41, ug 42, ug 43, ug 44, ug 45, ug 46, ug 47, ug 48, .agg #[.int .u64 C1, .int .u64 C2], .pointer (some ⟨M, 0, none⟩), .agg #[.int .u64 C1, .int .u64 C2], .tuple #[], .pointer (some ⟨M, 0, none⟩), .pointer (some ⟨M, 0, none⟩), .pointer (some ⟨M, 7, none⟩), .slice (some ⟨g7, 0, none⟩) tn tc, .func (Fn.func 75) #[] #[.pointer (some ⟨wq.heap.size, 0, none⟩)], .int .i64 (tn - 1 - k), .agg #[.int .i64 lit, .int .i64 rea], .pointer (some ⟨ab, 0, none⟩), .int .i64 lit, .int .i64 (-lit), .agg #[.int .u64 O1, .int .u64 O2], .agg #[.int .u64 D1, .int .u64 D2], .agg #[.int .u64 O1, .int .u64 O2], .bool true, .bool false, uy 68, uy 69, uy 70, uy 71, undef, undef, undef, undef, undef, undef, undef, undef, undef, undef, undef, undef, undef, undef, undef, undef, undef, undef, undef, undef, undef], []⟩) (fun i => [68, 69, 70, 71].getD i 0) (fun i v w8 => match i with | 0 => v = .agg #[.int .u64 D1, .int .u64 D2] | 1 => v = .agg #[.int .u64 R1, .int .u64 R2] | 2 => v = .agg #[.int .u64 E1, .int .u64 E2] | 3 => v = .agg #[.int .u64 O1, .int .u64 O2] | _ => True) A3 4 (fun k => match k with | 68 => undef | 69 => undef | 70 => undef | 71 => undef | _ => undef) (by rfl) (by kernel_rfl) (by rfl) ⟨by kernel_rfl, by kernel_rfl, by kernel_rfl, by decide⟩ (by kernel_rfl) (Below.refl _ _) ?hput ?hinj ?stable ?step ?last
              case hput =>
                intro i hi uy v
                match i, hi with
                | 0, _ => rfl
                | 1, _ => rfl
                | 2, _ => rfl
                | 3, _ => rfl
                | i + 4, hi => exact absurd hi (by omega)
              case hinj =>
                intro i j hi hj h
                exact slots_inj [68, 69, 70, 71] (by decide) hi hj h
              case stable =>
                intro i v w8 w9 hb h
                match i, hb, h with
                | 0, hb, h => exact h
                | 1, hb, h => exact h
                | 2, hb, h => exact h
                | 3, hb, h => exact h
                | _ + 4, hb, h => trivial
              case step =>
                intro i hi uy w8 S8 hdep
                match i, hi, hdep with
                | 0, _, hdep =>
                  clear hdep
                  refine ⟨_, rfl, fun K' hK => ?_⟩
                  obtain ⟨a0, a1, _⟩ := HK3.out w8 S8
                  go_simp
                  exact hK.out _ _ (Below.refl _ _) rfl
                | 1, _, hdep =>
                  clear hdep
                  refine ⟨_, rfl, fun K' hK => ?_⟩
                  obtain ⟨_, _, a0, a1, _⟩ := HK3.out w8 S8
                  go_simp
                  exact hK.out _ _ (Below.refl _ _) rfl
                | 2, _, hdep =>
                  have h0 : (uy 68) = .agg #[.int .u64 D1, .int .u64 D2] := hdep 0 (by kernel_rfl)
                  have h1 : (uy 69) = .agg #[.int .u64 R1, .int .u64 R2] := hdep 1 (by kernel_rfl)
                  clear hdep
                  refine ⟨_, rfl, fun K' hK => ?_⟩
                  simp only [h0, h1] at hK ⊢
                  go_simp
                  refine (HCo.out _).mono ?_
                  rintro e9 w9 ⟨rfl, hb9⟩
                  exact hK.out _ _ hb9 rfl
                | 3, _, hdep =>
                  clear hdep
                  refine ⟨_, rfl, fun K' hK => ?_⟩
                  obtain ⟨_, _, _, _, a0, a1⟩ := HK3.out w8 S8
                  go_simp
                  exact hK.out _ _ (Below.refl _ _) rfl
                | i + 4, hi, _ => exact absurd hi (by omega)
              case last =>
                intro uy w8 S8 hdep
                have h2 : (uy 70) = .agg #[.int .u64 E1, .int .u64 E2] := hdep 2 (by decide)
                have h3 : (uy 71) = .agg #[.int .u64 O1, .int .u64 O2] := hdep 3 (by decide)
                clear hdep
                refine ⟨_, rfl, fun K' hK => ?_⟩
                simp only [h2, h3] at hK ⊢
                go_simp
                have HS8' := hid S8
                by_cases e9 : E1 = O1 ∧ E2 = O2
                · obtain ⟨e1, e2⟩ := e9
                  have HL : Hid (Les n Z G s st j (D1, D2)) := hid (HDone.out HM.out (by rw [HE.out, HO.out, e1, e2]))
                  rw [if_pos (by omega), if_pos (by omega)]
                  go_simp
                  refine hK.out _ _ ?_
                  clear hK h2 h3
                  gi_wp2_with (simp only [Oper.semAt]; go_simp)
                  have hd := ((Df.of_below (HB3.out.trans (HS8'.out.mono HB3.out.size))).mono (Y := fun q => q = M ∨ q = N) (fun _ _ h => h.elim))
                  obtain ⟨f1, f2, f3⟩ := HFin.out w8 hd
                  refine ⟨f1, ⟨f2, f3⟩, rfl, j, D1, D2, HL.out, F', X', H2.out.below (HB3.out.trans (HS8'.out.mono HB3.out.size)), wg_mono H3.out (by have := HWm.out.1; omega), H4.out, H5.out, ((HB3.out.trans (HS8'.out.mono HB3.out.size)).block N hN6).trans HN.out, H7.out.trans hd⟩
                · obtain ⟨r, hr, hrC, hL⟩ := HStep.out HM.out (by rw [HE.out, HO.out]; intro e; injection e with e1 e2; exact e9 ⟨e1, e2⟩)
                  subst hr
                  have HL := hid hL
                  rw [ite2 (by omega)]
                  go_simp
                  refine hK.out _ _ ?_
                  clear hK h2 h3 e9 hL
                  obtain ⟨A4, hA4⟩ : ∃ A4, A4 = w8 := ⟨_, rfl⟩
                  subst hA4
                  have hb4 := HS8'.out
                  have hc := H2.out.cell (i := 2) (by omega)
                  obtain ⟨gR, capR, hc2, hcmx, cc0, cc1⟩ := solPush.Sol.clause H2.out (by omega) (i := r) hrC
                  rw [hc2] at hc
                  obtain ⟨Q1, hQ1⟩ : ∃ q, (s.cl r).1 = q := ⟨_, rfl⟩
                  obtain ⟨Q2, hQ2⟩ : ∃ q, (s.cl r).2 = q := ⟨_, rfl⟩
                  have hQ : s.cl r = (Q1, Q2) := by rw [← hQ1, ← hQ2]
                  have HwQ : Hid (Wf (Q1, Q2)) := hid (by rw [← hQ]; exact HCd.out.full.ok.wfC r)
                  rw [show (Sv.cl { s with X := X' } r).1 = Q1 from hQ1] at cc0
                  rw [show (Sv.cl { s with X := X' } r).2 = Q2 from hQ2] at cc1
                  obtain ⟨cn, hcn⟩ : ∃ cn, s.C.length = cn := ⟨_, rfl⟩
                  rw [show (Sv.C { s with X := X' }).length = cn from hcn] at hc hcmx
                  rw [hcn] at hrC
                  have HB4 : Hid (Below A.heap.size A A4) := hid (HB3.out.trans (hb4.mono HB3.out.size))
                  have HS4 := hid hb4
                  have HO4 : Hid (A4.heap[A1.heap.size]? = some (.cells #[.int .u64 (O1 : Int), .int .u64 (O2 : Int)] 51 (0, 0))) := hid ((hb4.block _ HA3.out.2).trans HO3.out)
                  have HK4 : Hid (∀ w8 : World, Below A4.heap.size A4 w8 → w8.cell? ⟨w.heap.size, 0, none⟩ = some (.pointer (some ⟨M, 0, none⟩)) ∧ w8.cell? ⟨M, 2, none⟩ = some (.slice (some ⟨gR, 0, none⟩) cn capR) ∧ w8.cell? ⟨ab, 1, none⟩ = some (.int .i64 (r : Int)) ∧ w8.cell? ⟨gR, r * 2, none⟩ = some (.int .u64 (Q1 : Int)) ∧ w8.cell? ⟨gR, r * 2 + 1, none⟩ = some (.int .u64 (Q2 : Int))) := hid (fun w8 hb => ⟨keep hb (keep hb4 cM), keep hb (keep HB4.out hc), keep hb (keep hb4 p1), keep hb (keep HB4.out cc0), keep hb (keep HB4.out cc1)⟩)
                  have HZ : Hid (LesI n Z G s st j ((D1 &&& (18446744073709551615 - O1)) ||| (Q1 &&& (18446744073709551615 - O2)), (D2 &&& (18446744073709551615 - O2)) ||| (Q2 &&& (18446744073709551615 - O1)))) := hid (by
                    have := HL.out
                    rw [hQ, turn_neg l0, HO.out] at this
                    exact this)
                  clear hb4 hc hc2 cc0 cc1 hQ1 hQ2 hQ hcn HL cM n0 n1 p0 p1 r0 r1 o0 o1
                  unfold maxLen at hcmx
                  gi_wp2_with (first | (simp only [Oper.semAt]; go_simp) | (guard_target = Code.wpIn _ _ _ (Code.region 14 _ _) _ _ _; fail))
                  refine region_calmIn (fun uz => ⟨#[.pointer (some ⟨M, 0, none⟩), .pointer (some ⟨w.heap.size, 0, none⟩), .pointer (some ⟨w.heap.size + 1, 0, none⟩), .pointer (some ⟨w.heap.size + 1 + 1, 0, none⟩), undef, u5, .pointer (some ⟨N, 0, none⟩), undef, .pointer (some ⟨ab, 0, none⟩), .pointer (some ⟨A1.heap.size, 0, none⟩), uz 10, ua 11, ua 12, ua 13, ua 14, ua 15, ua 16, ua 17, ua 18, ua 19, ua 20, ua 21, ua 22, ua 23, ua 24, ua 25, ua 26, .slice (some ⟨g7, st * 2, none⟩) m (tc - st), .int .i64 m, .int .i64 m, .bool false, u31, u32, u33, u34, u35, u36, u37, u38, u39, ug 40, ug 41, ug 42, ug 43, ug 44, ug 45, ug 46, ug 47, ug 48, .agg #[.int .u64 C1, .int .u64 C2], .pointer (some ⟨M, 0, none⟩), .agg #[.int .u64 C1, .int .u64 C2], .tuple #[], .pointer (some ⟨M, 0, none⟩), .pointer (some ⟨M, 0, none⟩), .pointer (some ⟨M, 7, none⟩), .slice (some ⟨g7, 0, none⟩) tn tc, .func (Fn.func 75) #[] #[.pointer (some ⟨wq.heap.size, 0, none⟩)], .int .i64 (tn - 1 - k), .agg #[.int .i64 lit, .int .i64 r], .pointer (some ⟨ab, 0, none⟩), .int .i64 lit, .int .i64 (-lit), .agg #[.int .u64 O1, .int .u64 O2], .agg #[.int .u64 D1, .int .u64 D2], .agg #[.int .u64 O1, .int .u64 O2], .bool true, .bool false, uy 68, uy 69, .agg #[.int .u64 E1, .int .u64 E2], .agg #[.int .u64 O1, .int .u64 O2], .bool false, uz 73, uz 74, uz 75, uz 76, uz 77, uz 78, uz 79, uz 80, undef, undef, undef, undef, undef, undef, undef, undef, undef, undef, undef, undef], []⟩) (fun i => [73, 74, 75, 76, 77, 78, 79, 80, 10].getD i 0) (fun i v w8 => match i with | 0 => v = .pointer (some ⟨M, 0, none⟩) | 1 => v = .pointer (some ⟨M, 0, none⟩) | 2 => v = .pointer (some ⟨M, 2, none⟩) | 3 => v = .slice (some ⟨gR, 0, none⟩) cn capR | 4 => v = .pointer (some ⟨ab, 1, none⟩) | 5 => v = .int .i64 (r : Int) | 6 => v = .pointer (some ⟨gR, r * 2, none⟩) | 7 => v = .agg #[.int .u64 Q1, .int .u64 Q2] | 8 => ∃ N10 : Nat, v = .pointer (some ⟨N10, 0, none⟩) ∧ A4.heap.size ≤ N10 ∧ (World.heap w8)[N10]? = some (.cells #[.int .u64 0, .int .u64 0] 51 (0, 0)) | _ => True) A4 9 (fun k => match k with | 73 => undef | 74 => undef | 75 => undef | 76 => undef | 77 => undef | 78 => undef | 79 => undef | 80 => undef | 10 => undef | _ => undef) (by rfl) (by kernel_rfl) (by rfl) ⟨by kernel_rfl, by kernel_rfl, by kernel_rfl, by decide⟩ (by kernel_rfl) (Below.refl _ _) ?hput ?hinj ?stable ?step ?last
                  case hput =>
                    intro i hi uz v
                    match i, hi with
                    | 0, _ => rfl
                    | 1, _ => rfl
                    | 2, _ => rfl
                    | 3, _ => rfl
                    | 4, _ => rfl
                    | 5, _ => rfl
                    | 6, _ => rfl
                    | 7, _ => rfl
                    | 8, _ => rfl
                    | i + 9, hi => exact absurd hi (by omega)
                  case hinj =>
                    intro i j hi hj h
                    exact slots_inj [73, 74, 75, 76, 77, 78, 79, 80, 10] (by decide) hi hj h
                  case stable =>
                    intro i v w8 w9 hb h
                    match i, hb, h with
                    | 0, hb, h => exact h
                    | 1, hb, h => exact h
                    | 2, hb, h => exact h
                    | 3, hb, h => exact h
                    | 4, hb, h => exact h
                    | 5, hb, h => exact h
                    | 6, hb, h => exact h
                    | 7, hb, h => exact h
                    | 8, hb, h => 
                      obtain ⟨N10, e, hN, hh⟩ := h
                      exact ⟨N10, e, hN, (hb.block N10 (Array.getElem?_eq_some_iff.1 hh).1).trans hh⟩
                    | _ + 9, hb, h => trivial
                  case step =>
                    intro i hi uz w8 S8 hdep
                    match i, hi, hdep with
                    | 0, _, hdep =>
                      clear hdep
                      refine ⟨_, rfl, fun K' hK => ?_⟩
                      have a0 := (HK4.out w8 S8).1
                      go_simp
                      exact hK.out _ _ (Below.refl _ _) rfl
                    | 1, _, hdep =>
                      have h0 : (uz 73) = .pointer (some ⟨M, 0, none⟩) := hdep 0 (by kernel_rfl)
                      clear hdep
                      refine ⟨_, rfl, fun K' hK => ?_⟩
                      simp only [h0] at hK ⊢
                      go_simp
                      exact hK.out _ _ (Below.refl _ _) rfl
                    | 2, _, hdep =>
                      have h1 : (uz 74) = .pointer (some ⟨M, 0, none⟩) := hdep 1 (by kernel_rfl)
                      clear hdep
                      refine ⟨_, rfl, fun K' hK => ?_⟩
                      simp only [h1] at hK ⊢
                      go_simp
                      exact hK.out _ _ (Below.refl _ _) rfl
                    | 3, _, hdep =>
                      have h2 : (uz 75) = .pointer (some ⟨M, 2, none⟩) := hdep 2 (by kernel_rfl)
                      clear hdep
                      refine ⟨_, rfl, fun K' hK => ?_⟩
                      have a0 := (HK4.out w8 S8).2.1
                      simp only [h2] at hK ⊢
                      go_simp
                      exact hK.out _ _ (Below.refl _ _) rfl
                    | 4, _, hdep =>
                      clear hdep
                      refine ⟨_, rfl, fun K' hK => ?_⟩
                      go_simp
                      exact hK.out _ _ (Below.refl _ _) rfl
                    | 5, _, hdep =>
                      have h4 : (uz 77) = .pointer (some ⟨ab, 1, none⟩) := hdep 4 (by kernel_rfl)
                      clear hdep
                      refine ⟨_, rfl, fun K' hK => ?_⟩
                      have a0 := (HK4.out w8 S8).2.2.1
                      simp only [h4] at hK ⊢
                      go_simp
                      exact hK.out _ _ (Below.refl _ _) rfl
                    | 6, _, hdep =>
                      have h3 : (uz 76) = .slice (some ⟨gR, 0, none⟩) cn capR := hdep 3 (by kernel_rfl)
                      have h5 : (uz 78) = .int .i64 (r : Int) := hdep 5 (by kernel_rfl)
                      clear hdep
                      refine ⟨_, rfl, fun K' hK => ?_⟩
                      have hri : (r : Int) < (cn : Int) := by omega
                      simp only [h3, h5] at hK ⊢
                      go_simp
                      exact hK.out _ _ (Below.refl _ _) rfl
                    | 7, _, hdep =>
                      have h6 : (uz 79) = .pointer (some ⟨gR, r * 2, none⟩) := hdep 6 (by kernel_rfl)
                      clear hdep
                      refine ⟨_, rfl, fun K' hK => ?_⟩
                      obtain ⟨_, _, _, a0, a1⟩ := HK4.out w8 S8
                      simp only [h6] at hK ⊢
                      go_simp
                      exact hK.out _ _ (Below.refl _ _) rfl
                    | 8, _, hdep =>
                      clear hdep
                      refine ⟨_, rfl, fun K' hK => ?_⟩
                      go_simp
                      exact hK.out _ _ (by repeat (first | exact Below.refl _ _ | assumption | refine Below.drew ?_ | refine Below.alloc ?_ (by first | exact Nat.le_refl _ | omega | (simp; done) | (simp; omega)) _ | refine Below.setCell ?_ (by first | exact Nat.le_refl _ | omega | (simp; done) | (simp; omega)) _)) ⟨w8.heap.size, rfl, S8.size, World.alloc_heap_new w8 _⟩
                    | i + 9, hi, _ => exact absurd hi (by omega)
                  case last =>
                    intro uz w8 S8 hdep
                    have h7 : (uz 80) = .agg #[.int .u64 Q1, .int .u64 Q2] := hdep 7 (by decide)
                    have h8 : ∃ N10 : Nat, (uz 10) = .pointer (some ⟨N10, 0, none⟩) ∧ A4.heap.size ≤ N10 ∧ (World.heap w8)[N10]? = some (.cells #[.int .u64 0, .int .u64 0] 51 (0, 0)) := hdep 8 (by decide)
                    clear hdep
                    refine ⟨_, rfl, fun K' hK => ?_⟩
                    obtain ⟨N10, e10, hN, hh⟩ := h8
                    have b0 : w8.cell? ⟨N10, 0, none⟩ = some (.int .u64 0) := by simp [World.cell?, hh]
                    have b1 : w8.cell? ⟨N10, 1, none⟩ = some (.int .u64 0) := by simp [World.cell?, hh]
                    have z0 : w8.frozen? ⟨N10, 0, none⟩ = false := by simp [World.frozen?, hh]
                    have z1 : w8.frozen? ⟨N10, 1, none⟩ = false := by simp [World.frozen?, hh]
                    simp only [h7, e10] at hK ⊢
                    go_simp
                    refine hK.out _ _ ?_
                    clear hK h7 e10
                    have hhn := heap_setCell_same _ N10 1 _ _ (.int .u64 (Q2 : Int)) (heap_setCell_same _ N10 0 _ _ (.int .u64 (Q1 : Int)) hh)
                    have hbn : Below A4.heap.size A4 ((w8.setCell ⟨N10, 0, none⟩ (.int .u64 (Q1 : Int))).setCell ⟨N10, 1, none⟩ (.int .u64 (Q2 : Int))) := (S8.setCell hN _).setCell hN _
                    generalize (w8.setCell ⟨N10, 0, none⟩ (.int .u64 (Q1 : Int))).setCell ⟨N10, 1, none⟩ (.int .u64 (Q2 : Int)) = A5 at *
                    have HN10 : Hid (A5.heap[N10]? = some (.cells #[.int .u64 (Q1 : Int), .int .u64 (Q2 : Int)] 51 (0, 0))) := hid hhn
                    have hb5 : Below A.heap.size A A5 := HB4.out.trans (hbn.mono HB4.out.size)
                    have HB5 := hid hb5
                    have c0 : A5.cell? ⟨N10, 0, none⟩ = some (.int .u64 Q1) := by simp [World.cell?, hhn]
                    have c1 : A5.cell? ⟨N10, 1, none⟩ = some (.int .u64 Q2) := by simp [World.cell?, hhn]
                    have dM := (HK4.out A5 hbn).1
                    have HN5 : Hid (A5.heap[N]? = some (.cells #[.int .u64 (D1 : Int), .int .u64 (D2 : Int)] 51 (0, 0))) := hid ((hb5.block N hN6).trans HN.out)
                    have HO5 : Hid (A5.heap[A1.heap.size]? = some (.cells #[.int .u64 (O1 : Int), .int .u64 (O2 : Int)] 51 (0, 0))) := hid ((hbn.block _ (by have := HS4.out.size; have := HA3.out.2; omega)).trans HO4.out)
                    have hN10 : A.heap.size ≤ N10 := by have := HB4.out.size; omega
                    have hMA : M < A.heap.size := by have := HD9.out.size; have := HB1.out.size; omega
                    clear b0 b1 z0 z1 hh hhn hbn hb5 S8
                    gi_wp2_with (simp only [Oper.semAt]; go_simp)
                    refine ⟨trivial, (CallsIn.inRound _ (callsIn_wide.2 (weigh_impl M mb F' V { s with X := X' } A5 (H2.out.below HB5.out) n HCd.out.q.nv h40 Q1 Q2 HwQ.out g (1000 * g + ((k : Int) + 1) * g) (by omega) (by have := HWm.out; omega) H3.out))).mono ?_⟩
                    rintro e9 A6 ⟨rfl, F6, X6, hs6, hw6, hsx6, hch6, hf6, hdf6⟩
                    have HS6 := hid hs6
                    have HW6 := hid hw6
                    have HX6 := hid hsx6
                    have HF6 := hid hf6
                    have HD6 := hid hdf6
                    have HN6 := hid (hdf6.keeps HN5.out (by omega))
                    have HO6 := hid (hdf6.keeps HO5.out (by have := HA3.out.1; omega))
                    have HQ6 := hid (hdf6.keeps HN10.out (by omega))
                    have hz6 := hdf6.size
                    clear hs6 hw6 hsx6 hch6 hf6 hdf6 c0 c1 dM
                    gi_wp2_with (first | (simp only [Oper.semAt]; go_simp) | (guard_target = Code.wpIn _ _ _ (Code.region 16 _ _) _ _ _; fail))
                    have HK6 : Hid (∀ w8 : World, Below A6.heap.size A6 w8 → w8.cell? ⟨N, 0, none⟩ = some (.int .u64 D1) ∧ w8.cell? ⟨N, 1, none⟩ = some (.int .u64 D2) ∧ w8.cell? ⟨A1.heap.size, 0, none⟩ = some (.int .u64 O1) ∧ w8.cell? ⟨A1.heap.size, 1, none⟩ = some (.int .u64 O2) ∧ w8.cell? ⟨N10, 0, none⟩ = some (.int .u64 Q1) ∧ w8.cell? ⟨N10, 1, none⟩ = some (.int .u64 Q2)) := hid (fun w8 hb => by
                      have y1 := HN6.out
                      have y2 := HO6.out
                      have y3 := HQ6.out
                      exact ⟨keep hb (by simp [World.cell?, y1]), keep hb (by simp [World.cell?, y1]), keep hb (by simp [World.cell?, y2]), keep hb (by simp [World.cell?, y2]), keep hb (by simp [World.cell?, y3]), keep hb (by simp [World.cell?, y3])⟩)
                    have hN66 := (Array.getElem?_eq_some_iff.1 HN6.out).1
                    have HC1' := hid (fun W : World => without_impl D1 D2 O1 O2 W hwD.lt.1 hwD.lt.2 (by have := HO.out; rw [this] at hwO; exact hwO.lt.1) (by have := HO.out; rw [this] at hwO; exact hwO.lt.2))
                    have HC2' := hid (fun W : World => without_impl Q1 Q2 O2 O1 W HwQ.out.lt.1 HwQ.out.lt.2 (by have := HO.out; rw [this] at hwO; exact hwO.lt.2) (by have := HO.out; rw [this] at hwO; exact hwO.lt.1))
                    have HC3 := hid (fun W : World => with_impl (D1 &&& (18446744073709551615 - O1)) (D2 &&& (18446744073709551615 - O2)) (Q1 &&& (18446744073709551615 - O2)) (Q2 &&& (18446744073709551615 - O1)) W (Nat.lt_of_le_of_lt Nat.and_le_left hwD.lt.1) (Nat.lt_of_le_of_lt Nat.and_le_left hwD.lt.2) (Nat.lt_of_le_of_lt Nat.and_le_left HwQ.out.lt.1) (Nat.lt_of_le_of_lt Nat.and_le_left HwQ.out.lt.2))
                    generalize D1 &&& (18446744073709551615 - O1) = U1 at HC1' HC3 HZ
                    generalize D2 &&& (18446744073709551615 - O2) = U2 at HC1' HC3 HZ
                    generalize Q1 &&& (18446744073709551615 - O2) = Y1 at HC2' HC3 HZ
                    generalize Q2 &&& (18446744073709551615 - O1) = Y2 at HC2' HC3 HZ
                    generalize U1 ||| Y1 = Z1 at HC3 HZ
                    generalize U2 ||| Y2 = Z2 at HC3 HZ
                    refine region_calmIn (fun ux => ⟨#[.pointer (some ⟨M, 0, none⟩), .pointer (some ⟨w.heap.size, 0, none⟩), .pointer (some ⟨w.heap.size + 1, 0, none⟩), .pointer (some ⟨w.heap.size + 1 + 1, 0, none⟩), undef, u5, .pointer (some ⟨N, 0, none⟩), undef, .pointer (some ⟨ab, 0, none⟩), .pointer (some ⟨A1.heap.size, 0, none⟩), .pointer (some ⟨N10, 0, none⟩), ua 11, ua 12, ua 13, ua 14, ua 15, ua 16, ua 17, ua 18, ua 19, ua 20, ua 21, ua 22, ua 23, ua 24, ua 25, ua 26, .slice (some ⟨g7, st * 2, none⟩) m (tc - st), .int .i64 m, .int .i64 m, .bool false, u31, u32, u33, u34, u35, u36, u37, u38, u39, ug 40, ug 41, ug 42, ug 43, ug 44, ug 45, ug 46, ug 47, ug 48, .agg #[.int .u64 C1, .int .u64 C2], .pointer (some ⟨M, 0, none⟩), .agg #[.int .u64 C1, .int .u64 C2], .tuple #[], .pointer (some ⟨M, 0, none⟩), .pointer (some ⟨M, 0, none⟩), .pointer (some ⟨M, 7, none⟩), .slice (some ⟨g7, 0, none⟩) tn tc, .func (Fn.func 75) #[] #[.pointer (some ⟨wq.heap.size, 0, none⟩)], .int .i64 (tn - 1 - k), .agg #[.int .i64 lit, .int .i64 r], .pointer (some ⟨ab, 0, none⟩), .int .i64 lit, .int .i64 (-lit), .agg #[.int .u64 O1, .int .u64 O2], .agg #[.int .u64 D1, .int .u64 D2], .agg #[.int .u64 O1, .int .u64 O2], .bool true, .bool false, uy 68, uy 69, .agg #[.int .u64 E1, .int .u64 E2], .agg #[.int .u64 O1, .int .u64 O2], .bool false, uz 73, uz 74, uz 75, uz 76, uz 77, uz 78, uz 79, .agg #[.int .u64 Q1, .int .u64 Q2], .pointer (some ⟨M, 0, none⟩), .agg #[.int .u64 Q1, .int .u64 Q2], .tuple #[], ux 84, ux 85, ux 86, ux 87, ux 88, ux 89, ux 90, ux 91, undef], []⟩) (fun i => [84, 85, 86, 87, 88, 89, 90, 91].getD i 0) (fun i v w8 => match i with | 0 => v = .agg #[.int .u64 D1, .int .u64 D2] | 1 => v = .agg #[.int .u64 O1, .int .u64 O2] | 2 => v = .agg #[.int .u64 U1, .int .u64 U2] | 3 => v = .agg #[.int .u64 Q1, .int .u64 Q2] | 4 => v = .agg #[.int .u64 O1, .int .u64 O2] | 5 => v = .agg #[.int .u64 O2, .int .u64 O1] | 6 => v = .agg #[.int .u64 Y1, .int .u64 Y2] | 7 => v = .agg #[.int .u64 Z1, .int .u64 Z2] | _ => True) A6 8 (fun k => match k with | 84 => undef | 85 => undef | 86 => undef | 87 => undef | 88 => undef | 89 => undef | 90 => undef | 91 => undef | _ => undef) (by rfl) (by kernel_rfl) (by rfl) ⟨by kernel_rfl, by kernel_rfl, by kernel_rfl, by decide⟩ (by kernel_rfl) (Below.refl _ _) ?hput ?hinj ?stable ?step ?last
                    case hput =>
                      intro i hi ux v
                      match i, hi with
                      | 0, _ => rfl
                      | 1, _ => rfl
                      | 2, _ => rfl
                      | 3, _ => rfl
                      | 4, _ => rfl
                      | 5, _ => rfl
                      | 6, _ => rfl
                      | 7, _ => rfl
                      | i + 8, hi => exact absurd hi (by omega)
                    case hinj =>
                      intro i j hi hj h
                      exact slots_inj [84, 85, 86, 87, 88, 89, 90, 91] (by decide) hi hj h
                    case stable =>
                      intro i v w8 w9 hb h
                      match i, hb, h with
                      | 0, hb, h => exact h
                      | 1, hb, h => exact h
                      | 2, hb, h => exact h
                      | 3, hb, h => exact h
                      | 4, hb, h => exact h
                      | 5, hb, h => exact h
                      | 6, hb, h => exact h
                      | 7, hb, h => exact h
                      | _ + 8, hb, h => trivial
                    case step =>
                      intro i hi ux w8 S8 hdep
                      match i, hi, hdep with
                      | 0, _, hdep =>
                        clear hdep
                        refine ⟨_, rfl, fun K' hK => ?_⟩
                        obtain ⟨a0, a1, _⟩ := HK6.out w8 S8
                        go_simp
                        exact hK.out _ _ (Below.refl _ _) rfl
                      | 1, _, hdep =>
                        clear hdep
                        refine ⟨_, rfl, fun K' hK => ?_⟩
                        obtain ⟨_, _, a0, a1, _⟩ := HK6.out w8 S8
                        go_simp
                        exact hK.out _ _ (Below.refl _ _) rfl
                      | 2, _, hdep =>
                        have h0 : (ux 84) = .agg #[.int .u64 D1, .int .u64 D2] := hdep 0 (by kernel_rfl)
                        have h1 : (ux 85) = .agg #[.int .u64 O1, .int .u64 O2] := hdep 1 (by kernel_rfl)
                        clear hdep
                        refine ⟨_, rfl, fun K' hK => ?_⟩
                        simp only [h0, h1] at hK ⊢
                        go_simp
                        refine (HC1'.out _).mono ?_
                        rintro e9 w9 ⟨rfl, hb9⟩
                        exact hK.out _ _ hb9 rfl
                      | 3, _, hdep =>
                        clear hdep
                        refine ⟨_, rfl, fun K' hK => ?_⟩
                        obtain ⟨_, _, _, _, a0, a1⟩ := HK6.out w8 S8
                        go_simp
                        exact hK.out _ _ (Below.refl _ _) rfl
                      | 4, _, hdep =>
                        clear hdep
                        refine ⟨_, rfl, fun K' hK => ?_⟩
                        obtain ⟨_, _, a0, a1, _⟩ := HK6.out w8 S8
                        go_simp
                        exact hK.out _ _ (Below.refl _ _) rfl
                      | 5, _, hdep =>
                        have h4 : (ux 88) = .agg #[.int .u64 O1, .int .u64 O2] := hdep 4 (by kernel_rfl)
                        clear hdep
                        refine ⟨_, rfl, fun K' hK => ?_⟩
                        simp only [h4] at hK ⊢
                        go_simp
                        refine (turned_impl O1 O2 _).mono ?_
                        rintro e9 w9 ⟨rfl, hb9⟩
                        exact hK.out _ _ hb9 rfl
                      | 6, _, hdep =>
                        have h3 : (ux 87) = .agg #[.int .u64 Q1, .int .u64 Q2] := hdep 3 (by kernel_rfl)
                        have h5 : (ux 89) = .agg #[.int .u64 O2, .int .u64 O1] := hdep 5 (by kernel_rfl)
                        clear hdep
                        refine ⟨_, rfl, fun K' hK => ?_⟩
                        simp only [h3, h5] at hK ⊢
                        go_simp
                        refine (HC2'.out _).mono ?_
                        rintro e9 w9 ⟨rfl, hb9⟩
                        exact hK.out _ _ hb9 rfl
                      | 7, _, hdep =>
                        have h2 : (ux 86) = .agg #[.int .u64 U1, .int .u64 U2] := hdep 2 (by kernel_rfl)
                        have h6 : (ux 90) = .agg #[.int .u64 Y1, .int .u64 Y2] := hdep 6 (by kernel_rfl)
                        clear hdep
                        refine ⟨_, rfl, fun K' hK => ?_⟩
                        simp only [h2, h6] at hK ⊢
                        go_simp
                        refine (HC3.out _).mono ?_
                        rintro e9 w9 ⟨rfl, hb9⟩
                        exact hK.out _ _ hb9 rfl
                      | i + 8, hi, _ => exact absurd hi (by omega)
                    case last =>
                      intro ux w8 S8 hdep
                      have h7 : (ux 91) = .agg #[.int .u64 Z1, .int .u64 Z2] := hdep 7 (by decide)
                      clear hdep
                      refine ⟨_, rfl, fun K' hK => ?_⟩
                      have hh8 := (S8.block N (by omega)).trans HN6.out
                      have b0 : w8.cell? ⟨N, 0, none⟩ = some (.int .u64 D1) := by simp [World.cell?, hh8]
                      have b1 : w8.cell? ⟨N, 1, none⟩ = some (.int .u64 D2) := by simp [World.cell?, hh8]
                      have z0 : w8.frozen? ⟨N, 0, none⟩ = false := by simp [World.frozen?, hh8]
                      have z1 : w8.frozen? ⟨N, 1, none⟩ = false := by simp [World.frozen?, hh8]
                      simp only [h7] at hK ⊢
                      go_simp
                      refine hK.out _ _ ?_
                      clear hK h7
                      have HhN := hid (heap_setCell_same _ N 1 _ _ (.int .u64 (Z2 : Int)) (heap_setCell_same _ N 0 _ _ (.int .u64 (Z1 : Int)) hh8))
                      have hds : Df (fun q => q = N) A6 ((w8.setCell ⟨N, 0, none⟩ (.int .u64 (Z1 : Int))).setCell ⟨N, 1, none⟩ (.int .u64 (Z2 : Int))) := ((Df.of_below S8).mono (fun _ _ h => h.elim)).trans ((df_set w8 N 0 (.int .u64 (Z1 : Int))).trans (df_set _ N 1 (.int .u64 (Z2 : Int))))
                      generalize (w8.setCell ⟨N, 0, none⟩ (.int .u64 (Z1 : Int))).setCell ⟨N, 1, none⟩ (.int .u64 (Z2 : Int)) = A8 at *
                      have HDs := hid hds
                      clear b0 b1 z0 z1 hh8 hds S8
                      gi_wp2_with (simp only [Oper.semAt]; go_simp)
                      have hd : Df (fun q => q = M ∨ q = N) A A8 := ((Df.of_below HB5.out).mono (fun _ _ h => h.elim)).trans ((HD6.out.mono (fun _ _ h => .inl h)).trans (HDs.out.mono (fun _ _ h => .inr h)))
                      obtain ⟨f1, f2, f3⟩ := HFin.out A8 hd
                      have hff : ∀ j, j < 11 → F6 j = F j := fun j hj => (HF6.out j hj).trans (H5.out j hj)
                      refine ⟨f1, ⟨f2, f3⟩, HI.out A8 ⟨Z1, Z2, HZ.out, F6, X6, Sol.low HS6.out hM HS.out.lt.2 (fun a g e => HBk.out a g (by rw [← blk_same hff]; exact e)) HTab.out (fun j hj => HDs.out.blk j (by have := HB5.out.size; have := HD9.out.size; have := HB1.out.size; omega) (by omega)), wg_mono HW6.out (by have := HWm.out.2.1; omega), fun j hj => (HX6.out j hj).trans (H4.out j hj), hff, HhN.out, H7.out.trans hd⟩⟩
end Go.Proofs.YtbahjpheaaiamaaDoor.solLesson
