import Derived.Test.YtmkhoocokpkojaaGreatDoorPart36
import Derived.Test.YtmkhoocokpkojaaGreatDoorPart27
import Derived.Test.YtmkhoocokpkojaaGreatDoorPart31
import Derived.Test.YtmkhoocokpkojaaGreatDoorDrawnIn
namespace Go.Proofs.YtmkhoocokpkojaaGreatDoor.withoutI
open Go.RowKit Go.Deep Go.Shelf Go.Maps Go base sets solSets solOps solMath solMem solPush solHoldI solTrail solAddI rangeAt rangeTwo rangeNo backSet chkNew chkSem deleteI
open marks (Mk markD leaves_marks Ch)
set_option linter.unusedVariables false
set_option linter.unusedSimpArgs false
set_option pp.deepTerms true
set_option pp.maxSteps 10000000
attribute [local go_sem] Oper.semAt_some
theorem grown_of_below {W W' : World} (h : Below W.heap.size W W') (row : Option Nat) : W.grownBy W' row := ⟨h.os, h.tape, h.output, h.size, fun j hj _ => h.block j hj⟩
theorem gtrans {A B C : World} {row : Option Nat} (h : A.grownBy B row) (k : B.grownBy C row) : A.grownBy C row := ⟨k.os.trans h.os, k.tape.trans h.tape, k.output.trans h.output, Nat.le_trans h.size k.size, fun j hj hne => (k.block j (Nat.lt_of_lt_of_le hj h.size) hne).trans (h.block j hj hne)⟩
theorem leaves_panic {P : Program} {n : Nat} {fn : Func} {tmps : Array Value} {R : Ending → World → Prop} {chain : List PanicEntry} {D : Nat} {W : World} (hD : W.heap[D]? = some (.deferred (some []))) (h : ∀ W', Ch (fun q => q = D) W W' → R (.panicked chain) W') : LeavesInM Fence.wide n P fn tmps R [markD D] (.panicking chain) W := by
 have hg := grownBy_putObj' W D (.deferred none)
 refine ⟨by simp, .inl ⟨D, _, rfl, run_takeDeferred hD, h _ ((Ch.of_grown hg).mono fun q e => ?_)⟩⟩
 injection e
theorem sol_keep {z : Int} {M mb : Nat} {F : Nat → Value} {V : Int → Value} {s : Sv} {w w1 : World} (h : Sol z M mb F V s w) (hM : w1.heap[M]? = w.heap[M]?) (hm : w1.heap[mb]? = w.heap[mb]?) (hb : ∀ a g, blk z F V a = some g → w1.heap[g]? = w.heap[g]?) (ht : Tab w1) : Sol z M mb F V s w1 := by
 obtain ⟨D, hD, hV⟩ := h.map
 exact ⟨World.rowIs.of_block h.cells hM, h.f0, h.f4, h.f5, h.f6, h.f10, h.fx, ⟨D, by
  obtain ⟨es, clock, h1, h2⟩ := hD
  exact ⟨es, clock, by rw [hm]; exact h1, h2⟩, hV⟩, fun a ha => row_kept (h.rows a ha) fun g hg => hb a g (by rw [blk_ne ha]; exact hg), h.apart, h.off, h.ne, ht, h.tabo⟩
theorem tab_df {X : Nat → Prop} {A B : World} (h : Tab A) (hd : Df X A B) (hx : ¬ X 1) : Tab B := fun j hj => hd.cell (h j hj) hx
theorem set_held {Bs len cap q : Nat} {a : Option Addr} {zs : List (Nat × Nat)} {W : World} {o o' : Obj} (hq : W.heap[q]? = some o) (hc : o.isCells = false) (h : Held Bs a len cap zs W) : Held Bs a len cap zs (W.putObj q o') := by
 have hk : ∀ b j x, W.cell? ⟨b, j, none⟩ = some x → (W.putObj q o').cell? ⟨b, j, none⟩ = some x := fun b j x hx => cell_kept hx (grownBy_putObj' W q o') (fun r e => by cases e; exact ⟨o, hq, hc⟩)
 exact ⟨hk _ _ _ h.1, h.2.length, h.2.most, fun i hi => by obtain ⟨b, off, e, h1, h2⟩ := h.2.cell i hi; exact ⟨b, off, e, hk _ _ _ h1, hk _ _ _ h2⟩⟩
theorem set_df {X : Nat → Prop} {Bs len cap : Nat} {a : Option Addr} {zs : List (Nat × Nat)} {A B : World} (hd : Df X A B) (h0 : ¬ X Bs) (h1 : ∀ b off, 0 < len → a = some ⟨b, off, none⟩ → ¬ X b) (h : Held Bs a len cap zs A) : Held Bs a len cap zs B :=
 ⟨hd.cell h.1 h0, h.2.length, h.2.most, fun i hi => by obtain ⟨b, off, e, h2, h3⟩ := h.2.cell i hi; exact ⟨b, off, e, hd.cell h2 (h1 b off (by omega) e), hd.cell h3 (h1 b off (by omega) e)⟩⟩
theorem find_of {cs : List LS} {c : LS} {n k : Nat} (hn : cs.length = n) (hk : k < n) (hp : ∀ i, i < k → cs[n - 1 - i]?.getD (0, 0) ≠ c) (h : cs[n - 1 - k]?.getD (0, 0) = c) : FindAt cs c (n - 1 - k) :=
 ⟨by omega, h, fun j h1 h2 => by
  have := hp (n - 1 - j) (by omega)
  rw [show n - 1 - (n - 1 - j) = j by omega] at this
  exact this⟩
def faultW (c p : Int) : Value := .iface 44 (.agg #[.int .i64 c, .int .i64 p])
set_option maxRecDepth 100000 in
set_option maxHeartbeats 6400000 in
theorem without_impl (M mb : Nat) (F : Nat → Value) (V : Int → Value) (s : Sv) (w : World) (h : Sol 0 M mb F V s w) (hlen : s.C.length ≤ 600000) (hw : ∀ c ∈ s.C, Wf c) (c1 c2 : Nat) (at_ : Int) :
  Calls Tryz.prog 43 #[.pointer (some ⟨M, 0, none⟩), .agg #[.int .u64 c1, .int .u64 c2], .int .i64 at_] w fun e w' =>
   (NoFind s.C (c1, c2) ∧ e = .panicked [{ v := faultW 6 at_, recovered := false }] ∧ Below w.heap.size w w') ∨
   ∃ (k M2 mb2 : Nat) (F2 : Nat → Value) (V2 : Int → Value), FindAt s.C (c1, c2) k ∧ e = .returned (.pointer (some ⟨M2, 0, none⟩)) ∧ Sol 0 M2 mb2 F2 V2 (chkS s.n (s.C.eraseIdx k)) w' ∧ V2 0 = nilV ∧ w.heap.size ≤ M2 ∧ w.heap.size ≤ mb2 ∧ (∀ a g, blk 0 F2 V2 a = some g → w.heap.size ≤ g) ∧ w.grownBy w' (F 2).ownBlock := by
 have hrow : w.ownsRow 0 68 2 (F 2) s.C.length (flatC s.C) := h.rows 1001 (by omega)
 obtain ⟨ta, cap, hF2⟩ := own_form hrow
 obtain ⟨n, hn⟩ : ∃ n, s.C.length = n := ⟨_, rfl⟩
 have c2k := h.cell (i := 2) (by omega)
 have c0k := h.cell (i := 0) (by omega)
 rw [h.f0] at c0k
 rw [hF2] at c2k hrow
 rw [hn] at c2k hrow hlen
 have hM := h.lt.1
 have hM1 : M < w.heap.size + 1 := by omega
 have hM2 : M < w.heap.size + 1 + 1 := by omega
 have HN := hid hn
 have hrow2 : Row2 w ta n s.C := by
  refine ⟨hn, ?_, fun i hi => ?_⟩
  · rcases hrow.2 with ⟨_, e2⟩ | ⟨g, c, cur, _, _, _, hn', hm, _⟩
    · rw [e2]; exact Nat.zero_le _
    · exact Nat.le_trans hn' hm
  · obtain ⟨g, c, e2, _, q0, q1, _⟩ := row_cells hrow hi
    injection e2 with e1
    obtain ⟨f0, f1⟩ := flatC_get s.C i (by omega)
    exact ⟨g, 0, e1, by rw [Nat.zero_add]; exact q0 _ f0, by rw [Nat.zero_add]; exact q1 _ f1⟩
 have HR2 := hid hrow2
 have HS := hid h
 have HRow := hid hrow
 have HWf := hid hw
 have HF2 : Hid (F 2 = .slice ta n cap) := hid (by rw [hF2, hn])
 have HB := hid (fun W : World => back_impl ta n cap W)
 have hcM : w.cell? ⟨M, 2, none⟩ = some (.slice ta n cap) := c2k
 have HC0 := hid c0k
 have HC2 := hid c2k
 clear h hw hrow hrow2 hF2 hn c0k c2k
 refine (callsIn_wide (n := 9)).1 ?_
 refine callsIn_of_wp_marks Tryz.func43 rfl trivial ?_ rfl
 simp only [Tryz.ntmps43, List.size_toArray, List.length_cons, List.length_nil, Nat.reduceAdd, Nat.reduceSub, Array.replicate_succ, Array.replicate_zero, List.push_toArray, List.append_toArray, List.nil_append, List.cons_append]
 gi_wp2
 refine ⟨trivial, (callsIn_wide.2 (HB.out _)).mono ?_⟩
 rintro e W2 ⟨rfl, rfl⟩
 gi_wp2
 obtain ⟨W1, hW1⟩ : ∃ W1, (((w.alloc (.cells #[.pointer (some ⟨M, 0, none⟩)] 57)).alloc (.cells #[.int .u64 c1, .int .u64 c2] 68)).alloc (.cells #[.pointer none] 57)).alloc (.cells #[.slice ta n cap] 59) = W1 := ⟨_, rfl⟩
 have hz1 : W1.heap.size = w.heap.size + 1 + 1 + 1 + 1 := by rw [← hW1]; simp
 have hB1 : Below w.heap.size w W1 := by rw [← hW1]; exact (by repeat (first | exact Below.refl _ _ | assumption | refine Below.drew ?_ | refine Below.alloc ?_ (by first | exact Nat.le_refl _ | omega | (simp; done) | (simp; omega)) _ | refine Below.setCell ?_ (by first | exact Nat.le_refl _ | omega | (simp; done) | (simp; omega)) _))
 have hx : ∀ (o1 o2 o3 o4 : Obj), (((w.alloc o1).alloc o2).alloc o3).alloc o4 = W1 → W1.heap[w.heap.size]? = some o1 ∧ W1.heap[w.heap.size + 1]? = some o2 ∧ W1.heap[w.heap.size + 1 + 1]? = some o3 ∧ W1.heap[w.heap.size + 1 + 1 + 1]? = some o4 := fun o1 o2 o3 o4 e => by
  rw [← e]
  have a1 := World.alloc_heap_new w o1
  have a2 := World.alloc_heap_new (w.alloc o1) o2
  have a3 := World.alloc_heap_new ((w.alloc o1).alloc o2) o3
  have a4 := World.alloc_heap_new (((w.alloc o1).alloc o2).alloc o3) o4
  simp only [World.size_alloc] at a2 a3 a4
  refine ⟨?_, ?_, ?_, a4⟩
  · rw [Below.heap_alloc _ _ _ (by simp; omega), Below.heap_alloc _ _ _ (by simp; omega), Below.heap_alloc _ _ _ (by simp)]
    exact a1
  · rw [Below.heap_alloc _ _ _ (by simp), Below.heap_alloc _ _ _ (by simp)]
    exact a2
  · rw [Below.heap_alloc _ _ _ (by simp)]
    exact a3
 obtain ⟨y1, y2, y3, y4⟩ := hx _ _ _ _ hW1
 rw [hW1]
 have HHe : Hid (Held (w.heap.size + 1 + 1 + 1) ta n cap s.C W1) := hid ⟨by simp [World.cell?, y4], HR2.out.below hB1⟩
 have HB1 := hid hB1
 have HY1 := hid y1
 have HY2 := hid y2
 have HY3 := hid y3
 have HTa : Hid (∀ b off, 0 < n → ta = some ⟨b, off, none⟩ → b < w.heap.size) := hid (fun b off h0 e => by
  obtain ⟨b', off', e', h1, _⟩ := HR2.out.cell 0 h0
  rw [e] at e'
  injection e' with e'
  injection e' with e1 e2
  subst e1
  exact World.block_lt_of_cell? _ _ h1)
 have HTb : Hid (1 < w.heap.size) := hid (World.block_lt_of_cell? _ _ (HS.out.tab 0 (by decide)))
 clear hW1 hx y1 y2 y3 y4 hB1 hcM
 refine no_out (α := Nat) (back_no (fun (k : Nat) => #[.int .i64 ((n : Int) - 1 - (k : Int)), .agg #[.int .u64 (s.C[n - 1 - k]?.getD (0, 0)).1, .int .u64 (s.C[n - 1 - k]?.getD (0, 0)).2]]) id (w.heap.size + 1 + 1 + 1) n cap ta s.C (fun k hk => rfl)) rfl (enters_of Tryz.func89 (by kernel_rfl) rfl) (fun r => ?hstart) (fun h k x => k (h x)) (fun W' ob ob' h hc => set_held h hc) (fun _ => rfl)
  (fun pre A => Below W1.heap.size W1 A ∧ ∀ i, i < pre.length → i < n → s.C[n - 1 - i]?.getD (0, 0) ≠ (c1, c2))
  (fun c A => c = .ret ∧ ∃ (k M2 mb2 : Nat) (F2 : Nat → Value) (V2 : Int → Value), FindAt s.C (c1, c2) k ∧ A.heap[w.heap.size + 1 + 1]? = some (.cells #[.pointer (some ⟨M2, 0, none⟩)] 57 (0, 0)) ∧ Sol 0 M2 mb2 F2 V2 (chkS s.n (s.C.eraseIdx k)) A ∧ V2 0 = nilV ∧ W1.heap.size + 1 < M2 ∧ W1.heap.size + 1 < mb2 ∧ (∀ a j, blk 0 F2 V2 a = some j → W1.heap.size + 1 < j) ∧ Df (fun q => q = w.heap.size + 1 + 1 ∨ some q = (F 2).ownBlock) W1 A)
  ?hI ?hIx ?hId ⟨Below.refl _ _, fun i hi => absurd hi (Nat.not_lt_zero _)⟩
  (fun (k : Nat) a' A => ∃ ab, a' = ⟨#[.pointer (some ⟨M, 0, none⟩), .agg #[.int .u64 c1, .int .u64 c2], .int .i64 at_, .pointer (some ⟨w.heap.size, 0, none⟩), .pointer (some ⟨w.heap.size + 1, 0, none⟩), undef, .pointer (some ⟨w.heap.size + 1 + 1, 0, none⟩), .int .i64 ((n : Int) - 1 - k), .pointer (some ⟨ab, 0, none⟩), .pointer (some ⟨M, 0, none⟩), .pointer (some ⟨M, 0, none⟩), .pointer (some ⟨M, 2, none⟩), .slice ta n cap, .func (.func 89) #[] #[.pointer (some ⟨w.heap.size + 1 + 1 + 1, 0, none⟩)], .int .i64 ((n : Int) - 1 - k), .agg #[.int .u64 (s.C[n - 1 - k]?.getD (0, 0)).1, .int .u64 (s.C[n - 1 - k]?.getD (0, 0)).2], undef, undef, undef, undef, undef, undef, undef, undef, undef, undef, undef, undef, undef, undef, undef, undef, undef, undef, undef], []⟩ ∧ A.heap[ab]? = some (.cells #[.int .u64 (s.C[n - 1 - k]?.getD (0, 0)).1, .int .u64 (s.C[n - 1 - k]?.getD (0, 0)).2] 68 (0, 0)) ∧ W1.heap.size + 1 < ab) ?hAx (fun _ _ h => set_df h (fun e => e) (fun _ _ _ _ e => e)) ?hassign ?hbody ?hdone ?hstop
 case hstart =>
  have hb : Below W1.heap.size W1 ((W1.alloc (.deferred (some []))).alloc (.loop r)) := (by repeat (first | exact Below.refl _ _ | assumption | refine Below.drew ?_ | refine Below.alloc ?_ (by first | exact Nat.le_refl _ | omega | (simp; done) | (simp; omega)) _ | refine Below.setCell ?_ (by first | exact Nat.le_refl _ | omega | (simp; done) | (simp; omega)) _))
  exact ⟨keep hb HHe.out.1, HHe.out.2.below hb⟩
 case hI =>
  rintro pre A A' - hd ⟨h1, h2⟩
  exact ⟨⟨hd.os.trans h1.os, hd.tape.trans h1.tape, hd.output.trans h1.output, Nat.le_trans h1.size hd.size, fun j hj => (hd.blk j (Nat.lt_of_lt_of_le hj h1.size) (by omega)).trans (h1.block j hj)⟩, h2⟩
 case hId =>
  rintro pre A A' hd ⟨h1, h2⟩
  exact ⟨⟨hd.os.trans h1.os, hd.tape.trans h1.tape, hd.output.trans h1.output, Nat.le_trans h1.size hd.size, fun j hj => (hd.blk j (Nat.lt_of_lt_of_le hj h1.size) (fun h => h)).trans (h1.block j hj)⟩, h2⟩
 case hIx =>
  rintro c A A' - hd ⟨h1, k, M2, mb2, F2, V2, x1, x2, x3, x4, x5, x6, x7, x8⟩
  refine ⟨h1, k, M2, mb2, F2, V2, x1, hd.keeps x2 (by omega), sol_keep x3 (hd.blk _ x3.lt.1 (by omega)) (hd.blk _ x3.lt.2 (by omega)) (fun a j hj => hd.blk _ (x3.blt hj) (by have := x7 a j hj; omega)) (tab_df x3.tab hd (by have := HTb.out; omega)), x4, x5, x6, x7, ?_⟩
  exact ⟨hd.os.trans x8.os, hd.tape.trans x8.tape, hd.output.trans x8.output, Nat.le_trans x8.size hd.size, fun j hj hx => (hd.blk j (Nat.lt_of_lt_of_le hj x8.size) (by omega)).trans (x8.blk j hj hx)⟩
 case hAx =>
  rintro x a A A' hd ⟨ab, h1, h2, h3⟩
  exact ⟨ab, h1, hd.keeps h2 (by omega), h3⟩
 case hassign =>
  intro x W' K hlt hK
  gi_wp2
  exact hK _ _ (Df.alloc _ _) ⟨W'.heap.size, rfl, World.alloc_heap_new W' _, hlt⟩
 case hdone =>
  rintro xs A hS ⟨h1, h2⟩ hD
  have HNo : Hid (NoFind s.C (c1, c2)) := hid (fun j hj => by
   have hl := HN.out
   have := h2 (n - 1 - j) (by rw [hS]; unfold upto; simp; omega) (by omega)
   rw [show n - 1 - (n - 1 - j) = j by omega] at this
   exact this)
  have HB9 := hid (HB1.out.trans (h1.mono HB1.out.size))
  have HD := hid hD
  clear h1 h2 hS hD
  gi_wp2
  refine leaves_panic HD.out (fun W' hc => .inl ⟨HNo.out, rfl, ?_⟩)
  have hb := HB9.out
  exact ⟨hc.os.trans hb.os, hc.tape.trans hb.tape, hc.output.trans hb.output, Nat.le_trans hb.size hc.size, fun j hj => (hc.blk j (Nat.lt_of_lt_of_le hj hb.size) (by omega)).trans (hb.block j hj)⟩
 case hstop =>
  rintro c A ⟨rfl, k, M2, mb2, F2, V2, x1, x2, x3, x4, x5, x6, x7, x8⟩ hD
  have HD := hid hD
  have HX := hid (And.intro x1 (And.intro x3 (And.intro x4 (And.intro x7 x8))))
  have k0 : A.cell? ⟨w.heap.size + 1 + 1, 0, none⟩ = some (.pointer (some ⟨M2, 0, none⟩)) := by simp [World.cell?, x2]
  clear hD x1 x2 x3 x4 x7 x8
  gi_wp2
  refine leaves_marks (B := 0) [W1.heap.size] A ⟨by simp, fun D' hD' => by simp only [List.mem_singleton] at hD'; subst hD'; exact ⟨Nat.zero_le _, HD.out⟩⟩ (fun W'' hc => ?_)
  have hne : ∀ q, q ≠ W1.heap.size → ¬ q ∈ [W1.heap.size] := fun q hq hm => hq (by simpa using hm)
  have hc5 : W''.cell? ⟨w.heap.size + 1 + 1, 0, none⟩ = some (.pointer (some ⟨M2, 0, none⟩)) := (World.cell?_of_block (a := ⟨w.heap.size + 1 + 1, 0, none⟩) (hc.blk _ (World.block_lt_of_cell? _ _ k0) (hne (w.heap.size + 1 + 1) (by omega)))).trans k0
  obtain ⟨x1, x3, x4, x7, x8⟩ := HX.out
  refine ⟨.pointer (some ⟨M2, 0, none⟩), by simp [results, Tryz.results43, go_sem, hc5], .inr ⟨k, M2, mb2, F2, V2, x1, rfl, sol_keep x3 (hc.blk _ x3.lt.1 (hne _ (by omega))) (hc.blk _ x3.lt.2 (hne _ (by omega))) (fun a j hj => hc.blk _ (x3.blt hj) (hne _ (by have := x7 a j hj; omega))) (fun j hj => (World.cell?_of_block (a := ⟨1, j, none⟩) (hc.blk _ (World.block_lt_of_cell? _ _ (x3.tab j hj)) (hne 1 (by have := HTb.out; omega)))).trans (x3.tab j hj)), x4, by omega, by omega, fun a j hj => by have := x7 a j hj; omega, ?_⟩⟩
  have hb := HB1.out
  exact ⟨hc.os.trans (x8.os.trans hb.os), hc.tape.trans (x8.tape.trans hb.tape), hc.output.trans (x8.output.trans hb.output), Nat.le_trans hb.size (Nat.le_trans x8.size hc.size), fun j hj hx => (hc.blk j (by have h1 := hb.size; have h2 := x8.size; omega) (hne j (by omega))).trans ((x8.blk j (by omega) (fun h => h.elim (fun e => by omega) hx)).trans (hb.block j hj))⟩
 case hbody =>
  rintro pre k a9 A9 ⟨h1, h2⟩ ⟨k', hk, hpre, hkk⟩ ⟨ab, rfl, hab, habl⟩ hD ⟨r9, hr9⟩
  have hkk : k = k' := hkk
  subst hkk
  have hpl : pre.length = k := by rw [hpre, upto_length]
  obtain ⟨g, goff, rfl, -, -⟩ := HR2.out.cell 0 (by omega)
  obtain ⟨rfl⟩ : goff = 0 := by
   rcases HRow.out.2 with ⟨e, _⟩ | ⟨g', c', cur, e, _⟩
   · cases e
   · injection e with e; injection e with e; injection e
  have hgw : g < w.heap.size := HTa.out g 0 (by omega) rfl
  have HFind : Hid (s.C[n - 1 - k]?.getD (0, 0) = (c1, c2) → FindAt s.C (c1, c2) (n - 1 - k)) := hid (fun e => find_of HN.out hk (fun i hi => h2 i (by omega) (by omega)) e)
  have HMiss : Hid (s.C[n - 1 - k]?.getD (0, 0) ≠ (c1, c2) → ∀ i, i < (pre ++ [k]).length → i < n → s.C[n - 1 - i]?.getD (0, 0) ≠ (c1, c2)) := hid (fun hm i hi hit => by
   by_cases e : i = k
   · subst e; exact hm
   · exact h2 i (by rw [List.length_append] at hi; simp at hi; omega) hit)
  have hyc := (h1.block _ (by omega)).trans HY2.out
  have q0 : A9.cell? ⟨w.heap.size + 1, 0, none⟩ = some (.int .u64 c1) := by simp [World.cell?, hyc]
  have q1 : A9.cell? ⟨w.heap.size + 1, 1, none⟩ = some (.int .u64 c2) := by simp [World.cell?, hyc]
  have p0 : A9.cell? ⟨ab, 0, none⟩ = some (.int .u64 (s.C[n - 1 - k]?.getD (0, 0)).1) := by simp [World.cell?, hab]
  have p1 : A9.cell? ⟨ab, 1, none⟩ = some (.int .u64 (s.C[n - 1 - k]?.getD (0, 0)).2) := by simp [World.cell?, hab]
  have H1 := hid h1
  have HD := hid hD
  have HR9 := hid hr9
  have HK := hid hk
  generalize hls : s.C[n - 1 - k]?.getD (0, 0) = ls at *
  obtain ⟨l1, l2⟩ := ls
  dsimp only at p0 p1
  clear h1 h2 hpre hpl hyc hab hD hr9 hls hkk
  by_cases he : l1 = c1 ∧ l2 = c2
  · obtain ⟨rfl, rfl⟩ := he
    obtain ⟨q, hq⟩ : ∃ q, n - 1 - k = q := ⟨_, rfl⟩
    have hqn : q < n := by omega
    have hqi : (n : Int) - 1 - (k : Int) = (q : Int) := by omega
    have HF : Hid (FindAt s.C (l1, l2) q) := hid (by have := HFind.out rfl; rw [hq] at this; exact this)
    rw [hqi]
    clear hqi hq hk HFind HMiss
    have hb9 := HB1.out.trans (H1.out.mono HB1.out.size)
    have HG9 : Hid (g ≠ M) := hid (fun e => (HS.out.off 1001 M (by rw [blk_ne (by omega)]; show (F 2).ownBlock = some M; rw [HF2.out, e]; rfl)).1 rfl)
    have HCellS : Hid (∀ w8, A9.grownBy w8 (some g) → w8.cell? ⟨w.heap.size, 0, none⟩ = some (.pointer (some ⟨M, 0, none⟩)) ∧ w8.cell? ⟨M, 0, none⟩ = some (.int .i64 s.n) ∧ w8.cell? ⟨M, 2, none⟩ = some (.slice (some ⟨g, 0, none⟩) n cap)) := hid (fun w8 hg => by
     have hz9 := H1.out.size
     have f0 : w8.heap[w.heap.size]? = some (.cells #[.pointer (some ⟨M, 0, none⟩)] 57 (0, 0)) := (hg.block _ (by omega) (fun e => by injection e with e; omega)).trans ((H1.out.block _ (by omega)).trans HY1.out)
     have fM : w8.heap[M]? = w.heap[M]? := (hg.block M (by omega) (fun e => by injection e with e; exact HG9.out e.symm)).trans (hb9.block M hM)
     exact ⟨by simp [World.cell?, f0], (World.cell?_of_block (a := ⟨M, 0, none⟩) fM).trans HC0.out, (World.cell?_of_block (a := ⟨M, 2, none⟩) fM).trans HC2.out⟩)
    have HRow9 : Hid (A9.ownsRow 0 68 2 (.slice (some ⟨g, 0, none⟩) n cap) n (flatC s.C)) := hid (own_kept HRow.out fun j hj => hb9.block j (World.ownsRow.lt HRow.out j hj).2)
    have HDel : Hid (∀ w8, Below A9.heap.size A9 w8 → Calls Tryz.prog 66 #[.slice (some ⟨g, 0, none⟩) n cap, .int .i64 (q : Int), .int .i64 ((q : Int) + 1)] w8 fun e w' => e = .returned (.slice (some ⟨g, 0, none⟩) (n - 1) cap) ∧ LsRow w' (some ⟨g, 0, none⟩) (n - 1) (s.C.eraseIdx q) ∧ w8.grownBy w' (some g)) := hid (fun w8 hb => delete_impl 0 g n cap q s.C w8 (own_kept HRow9.out fun j hj => hb.block j (World.ownsRow.lt HRow9.out j hj).2) HN.out hqn)
    have HTab9 : Hid (∀ w8, A9.grownBy w8 (some g) → Tab w8) := hid (fun w8 hg j hj => by
     have ht := HS.out.tab j hj
     have h9 := HTb.out
     have hgt : 1 ≠ g := fun e => HS.out.tabo.2.2 1001 (by rw [blk_ne (by omega)]; show (F 2).ownBlock = some _; rw [HF2.out, e]; rfl)
     exact (World.cell?_of_block (a := ⟨1, j, none⟩) ((hg.block 1 (by have := hb9.size; omega) (fun e => by injection e with e; exact hgt e)).trans (hb9.block _ h9))).trans ht)
    have HNew : Hid (∀ w8, A9.grownBy w8 (some g) → LsRow w8 (some ⟨g, 0, none⟩) (n - 1) (s.C.eraseIdx q) → Calls Tryz.prog 30 #[.int .i64 s.n, .slice (some ⟨g, 0, none⟩) (n - 1) cap] w8 fun e w' => ∃ M2 mb2 F2 V2, e = .returned (.pointer (some ⟨M2, 0, none⟩)) ∧ Sol 0 M2 mb2 F2 V2 (chkS s.n (s.C.eraseIdx q)) w' ∧ V2 0 = nilV ∧ Below w8.heap.size w8 w' ∧ w8.heap.size ≤ M2 ∧ w8.heap.size ≤ mb2 ∧ ∀ a j, blk 0 F2 V2 a = some j → w8.heap.size ≤ j) := hid (fun w8 hg hr => chk_impl s.n _ (n - 1) cap (s.C.eraseIdx q) w8 hr (by omega) (fun c hc => HWf.out c (List.mem_of_mem_eraseIdx hc)) (HTab9.out w8 hg))
    have HRb : Hid (∀ w8, A9.grownBy w8 (some g) → w8.heap[w.heap.size + 1 + 1]? = some (.cells #[.pointer none] 57 (0, 0))) := hid (fun w8 hg => (hg.block _ (by have := H1.out.size; omega) (fun e => by injection e with e; omega)).trans ((H1.out.block _ (by omega)).trans HY3.out))
    gi_wp2
    refine drawnIn.region_all (fun u => ⟨#[.pointer (some ⟨M, 0, none⟩), .agg #[.int .u64 l1, .int .u64 l2], .int .i64 at_, .pointer (some ⟨w.heap.size, 0, none⟩), .pointer (some ⟨w.heap.size + 1, 0, none⟩), undef, .pointer (some ⟨w.heap.size + 1 + 1, 0, none⟩), .int .i64 (q : Int), .pointer (some ⟨ab, 0, none⟩), .pointer (some ⟨M, 0, none⟩), .pointer (some ⟨M, 0, none⟩), .pointer (some ⟨M, 2, none⟩), .slice (some ⟨g, 0, none⟩) n cap, .func (.func 89) #[] #[.pointer (some ⟨w.heap.size + 1 + 1 + 1, 0, none⟩)], .int .i64 (q : Int), .agg #[.int .u64 l1, .int .u64 l2], .agg #[.int .u64 l1, .int .u64 l2], .agg #[.int .u64 l1, .int .u64 l2], .bool true, u 19, u 20, u 21, u 22, u 23, u 24, u 25, u 26, u 27, u 28, u 29, u 30, u 31, undef, undef, undef], []⟩) (fun i => [19, 20, 21, 22, 23, 24, 25, 26, 27, 28, 29, 30, 31, 99].getD i 0) (fun L u w8 => drawnIn.Known 12 (fun i => [19, 20, 21, 22, 23, 24, 25, 26, 27, 28, 29, 30, 31, 99].getD i 0) (fun i => [Value.pointer (some ⟨M, 0, none⟩), .pointer (some ⟨M, 0, none⟩), .pointer (some ⟨M, 0, none⟩), .int .i64 s.n, .pointer (some ⟨M, 0, none⟩), .pointer (some ⟨M, 0, none⟩), .pointer (some ⟨M, 2, none⟩), .slice (some ⟨g, 0, none⟩) n cap, .int .i64 (q : Int), .int .i64 (q : Int), .int .i64 ((q : Int) + 1), .slice (some ⟨g, 0, none⟩) (n - 1) cap].getD i undef) L u ∧ A9.grownBy w8 (some g) ∧ (L 11 = false → Below A9.heap.size A9 w8 ∧ L 12 = false) ∧ (L 12 = false → L 13 = false) ∧ (L 11 = true → L 12 = false → LsRow w8 (some ⟨g, 0, none⟩) (n - 1) (s.C.eraseIdx q)) ∧ (L 12 = true → ∃ (M2 mb2 : Nat) (F2 : Nat → Value) (V2 : Int → Value), u 31 = .pointer (some ⟨M2, 0, none⟩) ∧ Sol 0 M2 mb2 F2 V2 (chkS s.n (s.C.eraseIdx q)) w8 ∧ V2 0 = nilV ∧ A9.heap.size ≤ M2 ∧ A9.heap.size ≤ mb2 ∧ (∀ a j, blk 0 F2 V2 a = some j → A9.heap.size ≤ j))) 13 (fun k => undef) rfl (by kernel_rfl) (by kernel_rfl) rfl ⟨by kernel_rfl, by kernel_rfl, by kernel_rfl, by decide⟩ (by kernel_rfl) ?hS ?hput ?step ?last
    case hS => exact ⟨drawnIn.Known.none _ _ _ _, ⟨rfl, rfl, rfl, Nat.le_refl _, fun _ _ _ => rfl⟩, fun _ => ⟨(Below.refl _ _).drew, rfl⟩, fun _ => rfl, fun h => (by cases h), fun h => (by cases h)⟩
    case hput =>
     intro i hi u v
     match i, hi with
     | 0, _ => rfl
     | 1, _ => rfl
     | 2, _ => rfl
     | 3, _ => rfl
     | 4, _ => rfl
     | 5, _ => rfl
     | 6, _ => rfl
     | 7, _ => rfl
     | 8, _ => rfl
     | 9, _ => rfl
     | 10, _ => rfl
     | 11, _ => rfl
     | 12, _ => rfl
     | i + 13, hi => exact absurd hi (by omega)
    case step =>
     intro i hi L u w8 hL hdep hinv
     obtain ⟨hk8, hg8, hn11, hn12, hrow, hsol⟩ := hinv
     have hinj : ∀ a b', a < 12 → b' < 12 → [19, 20, 21, 22, 23, 24, 25, 26, 27, 28, 29, 30, 31, 99].getD a 0 = [19, 20, 21, 22, 23, 24, 25, 26, 27, 28, 29, 30, 31, 99].getD b' 0 → a = b' := fun a b' ha hb' h => drawn.slots_inj [19, 20, 21, 22, 23, 24, 25, 26, 27, 28, 29, 30, 31, 99] (by decide) (by simp; omega) (by simp; omega) h
     have hno : ∀ j, j < 12 → drawnIn.come L j 12 = L 12 := fun j hj => if_neg (by omega)
     have hn3 : ∀ j, j < 12 → drawnIn.come L j 13 = L 13 := fun j hj => if_neg (by omega)
     match i, hi with
     | 0, _ =>
      have c0 := (HCellS.out w8 hg8).1
      refine ⟨_, rfl, fun K' hK => ?_⟩
      go_simp
      have e11 : drawnIn.come L 0 11 = L 11 := if_neg (by decide)
      refine hK.out _ _ ⟨hk8.put hinj (by omega) rfl, hg8, by rw [e11, hno 0 (by omega)]; exact hn11, by rw [hno 0 (by omega), hn3 0 (by omega)]; exact hn12, by rw [e11, hno 0 (by omega)]; exact hrow, by rw [hno 0 (by omega)]; intro h12; obtain ⟨M2, mb2, F2, V2, y1, y2⟩ := hsol h12; exact ⟨M2, mb2, F2, V2, (drawn.upd_ne u _ (by decide)).trans y1, y2⟩⟩
     | 1, _ =>
      have h0 : u 19 = .pointer (some ⟨M, 0, none⟩) := hk8 0 (by omega) (hdep 0 (by kernel_rfl))
      refine ⟨_, rfl, fun K' hK => ?_⟩
      simp only [h0] at hK ⊢
      go_simp
      have e11 : drawnIn.come L 1 11 = L 11 := if_neg (by decide)
      refine hK.out _ _ ⟨hk8.put hinj (by omega) rfl, hg8, by rw [e11, hno 1 (by omega)]; exact hn11, by rw [hno 1 (by omega), hn3 1 (by omega)]; exact hn12, by rw [e11, hno 1 (by omega)]; exact hrow, by rw [hno 1 (by omega)]; intro h12; obtain ⟨M2, mb2, F2, V2, y1, y2⟩ := hsol h12; exact ⟨M2, mb2, F2, V2, (drawn.upd_ne u _ (by decide)).trans y1, y2⟩⟩
     | 2, _ =>
      have h1 : u 20 = .pointer (some ⟨M, 0, none⟩) := hk8 1 (by omega) (hdep 1 (by kernel_rfl))
      refine ⟨_, rfl, fun K' hK => ?_⟩
      simp only [h1] at hK ⊢
      go_simp
      have e11 : drawnIn.come L 2 11 = L 11 := if_neg (by decide)
      refine hK.out _ _ ⟨hk8.put hinj (by omega) rfl, hg8, by rw [e11, hno 2 (by omega)]; exact hn11, by rw [hno 2 (by omega), hn3 2 (by omega)]; exact hn12, by rw [e11, hno 2 (by omega)]; exact hrow, by rw [hno 2 (by omega)]; intro h12; obtain ⟨M2, mb2, F2, V2, y1, y2⟩ := hsol h12; exact ⟨M2, mb2, F2, V2, (drawn.upd_ne u _ (by decide)).trans y1, y2⟩⟩
     | 3, _ =>
      have h2 : u 21 = .pointer (some ⟨M, 0, none⟩) := hk8 2 (by omega) (hdep 2 (by kernel_rfl))
      have c0 := (HCellS.out w8 hg8).2.1
      refine ⟨_, rfl, fun K' hK => ?_⟩
      simp only [h2] at hK ⊢
      go_simp
      have e11 : drawnIn.come L 3 11 = L 11 := if_neg (by decide)
      refine hK.out _ _ ⟨hk8.put hinj (by omega) rfl, hg8, by rw [e11, hno 3 (by omega)]; exact hn11, by rw [hno 3 (by omega), hn3 3 (by omega)]; exact hn12, by rw [e11, hno 3 (by omega)]; exact hrow, by rw [hno 3 (by omega)]; intro h12; obtain ⟨M2, mb2, F2, V2, y1, y2⟩ := hsol h12; exact ⟨M2, mb2, F2, V2, (drawn.upd_ne u _ (by decide)).trans y1, y2⟩⟩
     | 4, _ =>
      have c0 := (HCellS.out w8 hg8).1
      refine ⟨_, rfl, fun K' hK => ?_⟩
      go_simp
      have e11 : drawnIn.come L 4 11 = L 11 := if_neg (by decide)
      refine hK.out _ _ ⟨hk8.put hinj (by omega) rfl, hg8, by rw [e11, hno 4 (by omega)]; exact hn11, by rw [hno 4 (by omega), hn3 4 (by omega)]; exact hn12, by rw [e11, hno 4 (by omega)]; exact hrow, by rw [hno 4 (by omega)]; intro h12; obtain ⟨M2, mb2, F2, V2, y1, y2⟩ := hsol h12; exact ⟨M2, mb2, F2, V2, (drawn.upd_ne u _ (by decide)).trans y1, y2⟩⟩
     | 5, _ =>
      have h4 : u 23 = .pointer (some ⟨M, 0, none⟩) := hk8 4 (by omega) (hdep 4 (by kernel_rfl))
      refine ⟨_, rfl, fun K' hK => ?_⟩
      simp only [h4] at hK ⊢
      go_simp
      have e11 : drawnIn.come L 5 11 = L 11 := if_neg (by decide)
      refine hK.out _ _ ⟨hk8.put hinj (by omega) rfl, hg8, by rw [e11, hno 5 (by omega)]; exact hn11, by rw [hno 5 (by omega), hn3 5 (by omega)]; exact hn12, by rw [e11, hno 5 (by omega)]; exact hrow, by rw [hno 5 (by omega)]; intro h12; obtain ⟨M2, mb2, F2, V2, y1, y2⟩ := hsol h12; exact ⟨M2, mb2, F2, V2, (drawn.upd_ne u _ (by decide)).trans y1, y2⟩⟩
     | 6, _ =>
      have h5 : u 24 = .pointer (some ⟨M, 0, none⟩) := hk8 5 (by omega) (hdep 5 (by kernel_rfl))
      refine ⟨_, rfl, fun K' hK => ?_⟩
      simp only [h5] at hK ⊢
      go_simp
      have e11 : drawnIn.come L 6 11 = L 11 := if_neg (by decide)
      refine hK.out _ _ ⟨hk8.put hinj (by omega) rfl, hg8, by rw [e11, hno 6 (by omega)]; exact hn11, by rw [hno 6 (by omega), hn3 6 (by omega)]; exact hn12, by rw [e11, hno 6 (by omega)]; exact hrow, by rw [hno 6 (by omega)]; intro h12; obtain ⟨M2, mb2, F2, V2, y1, y2⟩ := hsol h12; exact ⟨M2, mb2, F2, V2, (drawn.upd_ne u _ (by decide)).trans y1, y2⟩⟩
     | 7, _ =>
      have h6 : u 25 = .pointer (some ⟨M, 2, none⟩) := hk8 6 (by omega) (hdep 6 (by kernel_rfl))
      have c0 := (HCellS.out w8 hg8).2.2
      refine ⟨_, rfl, fun K' hK => ?_⟩
      simp only [h6] at hK ⊢
      go_simp
      have e11 : drawnIn.come L 7 11 = L 11 := if_neg (by decide)
      refine hK.out _ _ ⟨hk8.put hinj (by omega) rfl, hg8, by rw [e11, hno 7 (by omega)]; exact hn11, by rw [hno 7 (by omega), hn3 7 (by omega)]; exact hn12, by rw [e11, hno 7 (by omega)]; exact hrow, by rw [hno 7 (by omega)]; intro h12; obtain ⟨M2, mb2, F2, V2, y1, y2⟩ := hsol h12; exact ⟨M2, mb2, F2, V2, (drawn.upd_ne u _ (by decide)).trans y1, y2⟩⟩
     | 8, _ =>
      refine ⟨_, rfl, fun K' hK => ?_⟩
      go_simp
      have e11 : drawnIn.come L 8 11 = L 11 := if_neg (by decide)
      refine hK.out _ _ ⟨hk8.put hinj (by omega) rfl, hg8, by rw [e11, hno 8 (by omega)]; exact hn11, by rw [hno 8 (by omega), hn3 8 (by omega)]; exact hn12, by rw [e11, hno 8 (by omega)]; exact hrow, by rw [hno 8 (by omega)]; intro h12; obtain ⟨M2, mb2, F2, V2, y1, y2⟩ := hsol h12; exact ⟨M2, mb2, F2, V2, (drawn.upd_ne u _ (by decide)).trans y1, y2⟩⟩
     | 9, _ =>
      refine ⟨_, rfl, fun K' hK => ?_⟩
      go_simp
      have e11 : drawnIn.come L 9 11 = L 11 := if_neg (by decide)
      refine hK.out _ _ ⟨hk8.put hinj (by omega) rfl, hg8, by rw [e11, hno 9 (by omega)]; exact hn11, by rw [hno 9 (by omega), hn3 9 (by omega)]; exact hn12, by rw [e11, hno 9 (by omega)]; exact hrow, by rw [hno 9 (by omega)]; intro h12; obtain ⟨M2, mb2, F2, V2, y1, y2⟩ := hsol h12; exact ⟨M2, mb2, F2, V2, (drawn.upd_ne u _ (by decide)).trans y1, y2⟩⟩
     | 10, _ =>
      have h9 : u 28 = .int .i64 (q : Int) := hk8 9 (by omega) (hdep 9 (by kernel_rfl))
      have hw9 : IntKind.i64.wrap ((q : Int) + 1) = (q : Int) + 1 := by rw [IntKind.wrap_i64]; omega
      refine ⟨_, rfl, fun K' hK => ?_⟩
      simp only [h9] at hK ⊢
      go_simp
      have e11 : drawnIn.come L 10 11 = L 11 := if_neg (by decide)
      refine hK.out _ _ ⟨hk8.put hinj (by omega) rfl, hg8, by rw [e11, hno 10 (by omega)]; exact hn11, by rw [hno 10 (by omega), hn3 10 (by omega)]; exact hn12, by rw [e11, hno 10 (by omega)]; exact hrow, by rw [hno 10 (by omega)]; intro h12; obtain ⟨M2, mb2, F2, V2, y1, y2⟩ := hsol h12; exact ⟨M2, mb2, F2, V2, (drawn.upd_ne u _ (by decide)).trans y1, y2⟩⟩
     | 11, _ =>
      have h7 : u 26 = .slice (some ⟨g, 0, none⟩) n cap := hk8 7 (by omega) (hdep 7 (by kernel_rfl))
      have h8 : u 27 = .int .i64 (q : Int) := hk8 8 (by omega) (hdep 8 (by kernel_rfl))
      have h10 : u 29 = .int .i64 ((q : Int) + 1) := hk8 10 (by omega) (hdep 10 (by kernel_rfl))
      obtain ⟨hb8, h12⟩ := hn11 hL
      refine ⟨_, rfl, fun K' hK => ?_⟩
      simp only [h7, h8, h10] at hK ⊢
      go_simp
      refine (HDel.out w8 hb8).mono ?_
      rintro e9 w9 ⟨rfl, hr9, hg9⟩
      exact hK.out _ _ ⟨hk8.put hinj (by omega) rfl, gtrans hg8 hg9, fun h => (by rw [drawnIn.come, if_pos rfl] at h; cases h), fun h => (by rw [hn3 11 (by omega)]; exact hn12 h12), fun _ _ => hr9, fun h => (by rw [hno 11 (by omega), h12] at h; cases h)⟩
     | 12, _ =>
      have h3 : u 22 = .int .i64 s.n := hk8 3 (by omega) (hdep 3 (by kernel_rfl))
      have h11 : u 30 = .slice (some ⟨g, 0, none⟩) (n - 1) cap := hk8 11 (by omega) (hdep 11 (by kernel_rfl))
      refine ⟨_, rfl, fun K' hK => ?_⟩
      simp only [h3, h11] at hK ⊢
      go_simp
      refine (HNew.out w8 hg8 (hrow (hdep 11 (by kernel_rfl)) hL)).mono ?_
      rintro e9 w9 ⟨M2, mb2, F2, V2, rfl, z1, z2, z3, z4, z5, z6⟩
      refine hK.out _ _ ⟨hk8.other (by omega) (by decide) _, gtrans hg8 (grown_of_below z3 _), fun h => ?_, fun h => ?_, fun _ h => ?_, fun _ => ⟨M2, mb2, F2, V2, drawn.upd_same _ _ _, z1, z2, Nat.le_trans hg8.size z4, Nat.le_trans hg8.size z5, fun a j hj => Nat.le_trans hg8.size (z6 a j hj)⟩⟩
      · rw [drawnIn.come, if_neg (by decide), hdep 11 (by kernel_rfl)] at h; cases h
      · rw [drawnIn.come, if_pos rfl] at h; cases h
      · rw [drawnIn.come, if_pos rfl] at h; cases h
     | i + 13, hi => exact absurd hi (by omega)
    case last =>
     intro L u w8 hL hinv
     obtain ⟨hk8, hg8, hn11, hn12, hrow, hsol⟩ := hinv
     obtain ⟨M2, mb2, F2, V2, y1, y2, y3, y4, y5, y6⟩ := hsol (hL 12 (by omega))
     refine ⟨_, rfl, fun K' hK' => ?_⟩
     have HY2 := hid y2
     have HY3 := hid y3
     have HY6 := hid y6
     have HG8 := hid hg8
     have hrb := HRb.out w8 hg8
     have rb0 : w8.cell? ⟨w.heap.size + 1 + 1, 0, none⟩ = some (.pointer none) := by simp [World.cell?, hrb]
     have rz0 : w8.frozen? ⟨w.heap.size + 1 + 1, 0, none⟩ = false := by simp [World.frozen?, hrb]
     have HRb8 := hid hrb
     clear hrb
     simp only [y1]
     go_simp
     refine hK'.out _ _ ?_
     clear y1 y2 y3 y6 hk8 hg8 hn11 hn12 hrow hsol hK' hL
     gi_wp2
     have hd : Df (fun q => q = w.heap.size + 1 + 1 ∨ q = g) A9 (w8.setCell ⟨w.heap.size + 1 + 1, 0, none⟩ (.pointer (some ⟨M2, 0, none⟩))) := by
      have hg8 := HG8.out
      exact ⟨hg8.os, hg8.tape, hg8.output, by simpa [World.setCell] using hg8.size, fun j hj hx => (Below.heap_setCell _ _ _ _ (fun e => hx (.inl e))).trans (hg8.block j hj (fun e => hx (.inr (by injection e))))⟩
     have h1 := H1.out
     have hD9 := (Array.getElem?_eq_some_iff.1 HD.out).1
     have hL9 := (Array.getElem?_eq_some_iff.1 HR9.out).1
     have hz9 := h1.size
     have hs : ∀ j, j ≠ w.heap.size + 1 + 1 → (w8.setCell ⟨w.heap.size + 1 + 1, 0, none⟩ (.pointer (some ⟨M2, 0, none⟩))).heap[j]? = w8.heap[j]? := fun j hj => Below.heap_setCell _ _ _ _ hj
     refine ⟨hd.blk _ hL9 (by omega), hd.blk _ hD9 (by omega), rfl, q, M2, mb2, F2, V2, HF.out, heap_setCell_same w8 (w.heap.size + 1 + 1) 0 _ _ _ HRb8.out, sol_keep HY2.out (hs _ (by have := HY3.out; omega)) (hs _ (by omega)) (fun a j hj => hs _ (by have := HY6.out a j hj; omega)) (fun j hj => (World.cell?_of_block (a := ⟨1, j, none⟩) (hs 1 (by have := HTb.out; omega))).trans (HY2.out.tab j hj)), HY3.out, by omega, by omega, fun a j hj => by have := HY6.out a j hj; omega, ?_⟩
     rw [HF2.out]
     exact ⟨hd.os.trans h1.os, hd.tape.trans h1.tape, hd.output.trans h1.output, Nat.le_trans h1.size hd.size, fun j hj hx => (hd.blk j (by omega) (fun h => hx (h.elim .inl fun e => .inr (by rw [e]; rfl)))).trans (h1.block j hj)⟩
  · have HMi := hid (HMiss.out (fun e => he ⟨by injection e, by injection e⟩))
    by_cases h9 : l1 = c1
    · subst h9
      have hne : ¬ (l2 : Int) = (c2 : Int) := fun h => he ⟨rfl, by omega⟩
      clear he hk HFind HMiss
      gi_wp2
      have h1 := H1.out
      exact ⟨rfl, rfl, fun h => h, h1, HMi.out⟩
    · have hne : ¬ (l1 : Int) = (c1 : Int) := fun h => h9 (by omega)
      clear he hk HFind HMiss h9
      gi_wp2
      have h1 := H1.out
      exact ⟨rfl, rfl, fun h => h, h1, HMi.out⟩
end Go.Proofs.YtmkhoocokpkojaaGreatDoor.withoutI
