import Derived.Test.YtaioffpkadmmhaaGreatPart42
import Derived.Test.YtaioffpkadmmhaaGreatRofImpl
import Derived.Test.YtaioffpkadmmhaaGreatPart28
namespace Go.Proofs.YtaioffpkadmmhaaGreat.stateSeq
open Go.RowKit Go.Deep Go.Shelf Go base copy netSem routeRow nbSem candSem candImp hopSem intsOwn hopMake hopBetween sceneSem sceneBy noRts bestAll stabImpl stabFace prodSem rofSem rofRun rofImpl ssSem rangeAt pick picksSeq choImpl
set_option linter.unusedVariables false
attribute [local go_sem] Oper.semAt_some
structure KpR (BB : Nat) (A A' : World) : Prop where
 os : A'.os = A.os
 tape : A'.tape = A.tape
 output : A'.output = A.output
 size : A.heap.size ≤ A'.heap.size
 blk : ∀ q, q < A.heap.size → (BB ≤ q → (∀ cs t fr, A.heap[q]? = some (.cells cs t fr) → t ≠ 36 ∧ t ≠ 40) ∧ (q = BB + 1 + 1 → ∃ cs t fr, A.heap[q]? = some (.cells cs t fr))) → A'.heap[q]? = A.heap[q]?
structure RSt (b B : Nat) (A A' : World) : Prop where
 os : A'.os = A.os
 tape : A'.tape = A.tape
 output : A'.output = A.output
 size : A.heap.size ≤ A'.heap.size
 blk : ∀ q, q < A.heap.size → q ≠ b → (B ≤ q → ∃ cs t fr, A.heap[q]? = some (.cells cs t fr) ∧ t ≠ 3) → A'.heap[q]? = A.heap[q]?
theorem RSt.trans {b B : Nat} {A1 A2 A3 : World} (h : RSt b B A1 A2) (k : RSt b B A2 A3) : RSt b B A1 A3 :=
 ⟨k.os.trans h.os, k.tape.trans h.tape, k.output.trans h.output, Nat.le_trans h.size k.size, fun q hq hb hx => by
  have e := h.blk q hq hb hx
  exact (k.blk q (Nat.lt_of_lt_of_le hq h.size) hb (fun hB => by rw [e]; exact hx hB)).trans e⟩
theorem RSt.grown {b B : Nat} {A A' : World} (h : A.grownBy A' (some b)) : RSt b B A A' := ⟨h.os, h.tape, h.output, h.size, fun q hq hb _ => h.block q hq (fun e => hb (by injection e))⟩
theorem RSt.int {b B : Nat} {A A' : World} (h : RInt B A A') : RSt b B A A' := ⟨h.os, h.tape, h.output, h.size, fun q hq hb hx => h.blk q hq (fun hB cs fr hh => by
 obtain ⟨cs', t, fr', h1, h2⟩ := hx hB
 rw [h1] at hh
 injection hh with hh
 injection hh with _ hh _
 exact h2 hh)⟩
theorem RSt.soft {b B B' : Nat} {A A' : World} {row : Option Nat} (h : A.grownBy A' row) (hB : B ≤ B') (hr : ∀ r, row = some r → B' ≤ r ∧ ∃ ob : Obj, A.heap[r]? = some ob ∧ ob.isCells = false) : RSt b B A A' := ⟨h.os, h.tape, h.output, h.size, fun q hq hb hx => h.block q hq (fun e => by
 obtain ⟨h1, ob, h2, h3⟩ := hr q e.symm
 obtain ⟨cs', t, fr', h4, _⟩ := hx (by omega)
 rw [h4] at h2
 injection h2 with h2
 subst h2
 cases h3)⟩
theorem RSt.below {b B : Nat} {A A' : World} (h : Below A.heap.size A A') : RSt b B A A' := ⟨h.os, h.tape, h.output, h.size, fun q hq _ _ => h.block q hq⟩
theorem kpt_of {BB : Nat} {A A' : World} (h : KpR BB A A') : KpT A A' := fun q cs t fr hq ht => (h.blk q (Array.getElem?_eq_some_iff.1 hq).1 (fun _ => ⟨fun cs' t' fr' h' => by
 rw [hq] at h'
 injection h' with h'
 injection h' with _ h' _
 subst h'
 rcases ht with ht | ht | ht <;> subst ht <;> exact ⟨by decide, by decide⟩, fun _ => ⟨_, _, _, hq⟩⟩)).trans hq
theorem kpt_grown {b : Nat} {A A' : World} (h : A.grownBy A' (some b)) (hb : ∀ cs t fr, A.heap[b]? = some (.cells cs t fr) → t = 109) : KpT A A' := fun q cs t fr hq ht => (h.block q (Array.getElem?_eq_some_iff.1 hq).1 (fun e => by
 injection e with e
 subst e
 have := hb _ _ _ hq
 subst this
 rcases ht with ht | ht | ht <;> exact absurd ht (by decide))).trans hq
variable {sb b B : Nat} {F : Nat → Value} {p : Nat → Option Addr} {l c : Nat → Nat} {g : R} {o e : List Int} {x : R} {ea da : Option Addr} {el ec dl dc : Nat} {env : List Int} {ds : List Bool} {w0 : World}
theorem ready_type {W : World} (h : Ready b B F W (p 1) (p 4) (l 1) (l 4) (c 1) (c 4) g x) : ∀ cs t fr, W.heap[b]? = some (.cells cs t fr) → t = 109 := fun cs t fr hh => by
 rcases h with ⟨⟨cur, h1, _⟩, _⟩ | ⟨V, F', hm⟩
 · rw [h1] at hh; injection hh with hh; injection hh with _ hh _; exact hh.symm
 · obtain ⟨cur, h1, _⟩ := hm.row
   rw [h1] at hh; injection hh with hh; injection hh with _ hh _; exact hh.symm
theorem ready_int {W W' : World} {Bw : Nat} (h : Ready b B F W (p 1) (p 4) (l 1) (l 4) (c 1) (c 4) g x) (hr : RInt Bw W W') : Ready b B F W' (p 1) (p 4) (l 1) (l 4) (c 1) (c 4) g x := by
 have hc : Ch (fun q => Bw ≤ q ∧ ∃ cs fr, W.heap[q]? = some (.cells cs 3 fr)) W W' := ⟨hr.os, hr.tape, hr.output, hr.size, fun q hq hx => hr.blk q hq (fun hB cs fr hh => hx ⟨hB, cs, fr, hh⟩)⟩
 refine ready_ch h hc (fun hx => ?_) (fun q hx cs fr hh => ?_)
 · obtain ⟨_, cs, fr, hh⟩ := hx
   exact absurd (ready_type h _ _ _ hh) (by decide)
 · obtain ⟨_, cs', fr', h'⟩ := hx
   rw [h'] at hh
   injection hh with hh
   injection hh with _ hh _
   exact absurd hh (by decide)
theorem ready_soft {W W' : World} {row : Option Nat} (h : Ready b B F W (p 1) (p 4) (l 1) (l 4) (c 1) (c 4) g x) (hg : W.grownBy W' row) (hr : ∀ r, row = some r → ∃ ob : Obj, W.heap[r]? = some ob ∧ ob.isCells = false) : Ready b B F W' (p 1) (p 4) (l 1) (l 4) (c 1) (c 4) g x := by
 refine ready_ch h (Ch.of_grown hg) (fun e => ?_) (fun q e cs fr hh => ?_)
 · obtain ⟨ob, h1, h2⟩ := hr b e.symm
   rcases h with ⟨⟨cur, h3, _⟩, _⟩ | ⟨V, F', hm⟩
   · rw [h3] at h1; injection h1 with h1; subst h1; cases h2
   · obtain ⟨cur, h3, _⟩ := hm.row
     rw [h3] at h1; injection h1 with h1; subst h1; cases h2
 · obtain ⟨ob, h1, h2⟩ := hr q e.symm
   rw [hh] at h1; injection h1 with h1; subst h1; cases h2
theorem ready_kpr {W W' : World} {BB : Nat} (h : Ready b B F W (p 1) (p 4) (l 1) (l 4) (c 1) (c 4) g x) (hr : KpR BB W W') (hb : b < BB) : Ready b B F W' (p 1) (p 4) (l 1) (l 4) (c 1) (c 4) g x := by
 have hc : Ch (fun q => BB ≤ q ∧ ((∃ cs t fr, W.heap[q]? = some (.cells cs t fr) ∧ (t = 36 ∨ t = 40)) ∨ ∀ cs t fr, W.heap[q]? ≠ some (.cells cs t fr))) W W' := ⟨hr.os, hr.tape, hr.output, hr.size, fun q hq hx => hr.blk q hq (fun hB => ⟨fun cs t fr hh => ⟨fun ht => hx ⟨hB, .inl ⟨cs, t, fr, hh, .inl ht⟩⟩, fun ht => hx ⟨hB, .inl ⟨cs, t, fr, hh, .inr ht⟩⟩⟩, fun _ => Classical.byContradiction fun hno => hx ⟨hB, .inr fun cs t fr hh => hno ⟨cs, t, fr, hh⟩⟩⟩)⟩
 refine ready_ch h hc (fun hx => by omega) (fun q hx cs fr hh => ?_)
 rcases hx.2 with ⟨cs', t', fr', h', ht⟩ | hno
 · rw [h'] at hh
   injection hh with hh
   injection hh with _ hh _
   subst hh
   rcases ht with ht | ht <;> exact absurd ht (by decide)
 · exact hno _ _ _ hh
def AtS (BB n : Nat) (rsOf : List Int → Rs) (pre : List (Nat × List Int)) (y : Nat × List Int) (W : World) : Prop := RtLaid W y.1 n n (rsOf y.2) ∧ BB ≤ y.1 ∧ (∀ z ∈ pre, z.1 ≠ y.1) ∧ pre.length < 3000
structure IA (J : List (Nat × List Int) → World → Prop) (good : List Int → Bool) (w0 : World) (b B : Nat) (F : Nat → Value) (p : Nat → Option Addr) (l c : Nat → Nat) (g x : R) (yb lB : Nat) (pre : List (Nat × List Int)) (W : World) : Prop where
 ex : ∃ ys : List (Nat × List Int), J ys W ∧ ys.map (·.2) = (pre.map (·.2)).filter good ∧ ∀ y ∈ ys, y.1 < W.heap.size
 box : Boxed W yb 69 (.func (.yield lB) #[] #[])
 gr : w0.grownBy W (some b)
 rd : Ready b B F W (p 1) (p 4) (l 1) (l 4) (c 1) (c 4) g x
theorem IA.step {J : List (Nat × List Int) → World → Prop} {good : List Int → Bool} {yb lB Bw : Nat} {pre : List (Nat × List Int)} {A A' : World} (h : IA J good w0 b B F p l c g x yb lB pre A) (hJ : ∀ s A A', RSt b Bw A A' → J s A → J s A') (hyb : yb ≠ b) (hw : w0.heap.size ≤ Bw) (hr : RSt b Bw A A') (hrd : Ready b B F A' (p 1) (p 4) (l 1) (l 4) (c 1) (c 4) g x) : IA J good w0 b B F p l c g x yb lB pre A' := by
 refine ⟨?_, (hr.blk yb h.box.lt hyb (fun _ => ⟨_, _, _, h.box, by decide⟩)).trans h.box, ⟨hr.os.trans h.gr.os, hr.tape.trans h.gr.tape, hr.output.trans h.gr.output, Nat.le_trans h.gr.size hr.size, fun j hj hne => (hr.blk j (Nat.lt_of_lt_of_le hj h.gr.size) (fun e => hne (by rw [e])) (fun hB => absurd hB (by omega))).trans (h.gr.block j hj hne)⟩, hrd⟩
 obtain ⟨ys, h1, h2, h3⟩ := h.ex
 exact ⟨ys, hJ _ _ _ hr h1, h2, fun y hy => Nat.lt_of_lt_of_le (h3 y hy) hr.size⟩
theorem IA.no {J : List (Nat × List Int) → World → Prop} {good : List Int → Bool} {yb lB : Nat} {pre : List (Nat × List Int)} {y : Nat × List Int} {A : World} (h : IA J good w0 b B F p l c g x yb lB pre A) (hy : good y.2 = false) : IA J good w0 b B F p l c g x yb lB (pre ++ [y]) A := by
 obtain ⟨ys, h1, h2, h3⟩ := h.ex
 exact ⟨⟨ys, h1, by rw [h2, List.map_append, List.filter_append]; simp [hy], h3⟩, h.box, h.gr, h.rd⟩
theorem valR_bounds {nl nx n : Nat} {vs : List Int} (hn1 : 1 ≤ n) (hn : n ≤ 4) (hv : ∀ i, -3 ≤ zAt vs i ∧ zAt vs i < n) (hc : ∀ i, i < nl → 0 ≤ g i 2 ∧ g i 2 ≤ 100) (hok : okV g nl o e x nx env ds vs n = true) {i : Nat} (hi : i < n) :
  (-3 ≤ (valR g nl o e x nx env ds vs n i).via ∧ (valR g nl o e x nx env ds vs n i).via < n) ∧ 0 ≤ (valR g nl o e x nx env ds vs n i).len ∧ (valR g nl o e x nx env ds vs n i).len ≤ 20000 := by
 have hs := allN_iff.1 hok i hi
 unfold valR
 cases hq : val g nl o e x nx env ds vs n (i : Int) with
 | none => rw [hq] at hs; cases hs
 | some r =>
  have h1 := val_via hq
  have h2 := val_len (fun i => (hv i).1) hc hq
  have h3 := hv i
  rw [Int.toNat_natCast] at h1
  show (-3 ≤ r.via ∧ r.via < n) ∧ 0 ≤ r.len ∧ r.len ≤ 20000
  rw [h1]
  exact ⟨h3, by omega, by omega⟩
theorem row_in {nl n : Nat} {i v : Int} (h : v ∈ rowP g nl o e env ds i (n + 3)) : -3 ≤ v ∧ v < n := by
 unfold rowP at h
 obtain ⟨j, hj, rfl⟩ := List.mem_map.1 (List.mem_filter.1 h).1
 have := List.mem_range.1 hj
 omega
set_option maxRecDepth 100000 in
set_option maxHeartbeats 6400000 in
theorem states_in (n Sx lB : Nat) (J : List (Nat × List Int) → World → Prop) (W : World) (h0 : Sc sb b B F p l c g o e x ea da el ec dl dc env ds w0) (hf0 : F 0 = .slice (p 0) (l 0) (c 0)) (hf : Fine n l g x) (hn0 : l 0 = n) (hn1 : 1 ≤ n) (hen : ∀ i, 0 ≤ zAt env i)
  (hsx : Boxed w0 Sx 63 (.pointer (some ⟨sb, 0, none⟩))) (hSb : Sx ≠ b) (hgr : w0.grownBy W (some b)) (hrd : Ready b B F W (p 1) (p 4) (l 1) (l 4) (c 1) (c 4) g x)
  (hJ : ∀ s A A', RSt b W.heap.size A A' → J s A → J s A')
  (hY : ∀ pre y W1, J pre W1 → AtS w0.heap.size n (fun v => valR g (l 1) o e x (l 4) env ds v n) pre y W1 → YieldAt Fence.wide 9 Tryz.prog lB #[.slice (some ⟨y.1, 0, none⟩) n n] W1 fun e W' => e = .returned (.bool true) ∧ J (pre ++ [y]) W' ∧ KpR w0.heap.size W1 W')
  (hj0 : J [] W) (hW3 : w0.heap.size + 1 + 1 < W.heap.size) :
  CallsIn Fence.wide 9 Tryz.prog 45 #[.func (.yield lB) #[] #[], .pointer (some ⟨Sx, 0, none⟩)] W fun e' W' => (∃ v, e' = .returned v) ∧ ∃ ys : List (Nat × List Int), ys.map (·.2) = (prod (fun i : Nat => rowP g (l 1) o e env ds (i : Int) (n + 3)) n).filter (goodB g (l 1) o e x (l 4) env ds n) ∧ J ys W' := by
 have HS := hid h0
 have HF := hid hf
 have hn4 := hf.few
 have HSx := hid hsx
 have hbw : b < w0.heap.size := by rcases h0.ready with ⟨h1, _⟩ | ⟨V, F', hm⟩; exact h1.lt; exact hm.row.lt
 have hw0 := hgr.size
 have HJ := hid hJ
 have HY := hid hY
 have HGr := hid hgr
 have qs := (hsx.kept hgr (fun e => by injection e with e; exact hSb e)).cell
 have ls := (hsx.kept hgr (fun e => by injection e with e; exact hSb e)).lt
 have hscA := h0.step hgr hrd
 have hscB : Sc sb b B F p l c g o e x ea da el ec dl dc env ds (W.alloc (.cells #[.func (.yield lB) #[] #[]] 69)) := hscA.below (by repeat (first | exact Below.refl _ _ | assumption | refine Below.drew ?_ | refine Below.alloc ?_ (by first | exact Nat.le_refl _ | omega | (simp; done) | (simp; omega)) _ | refine Below.setCell ?_ (by first | exact Nat.le_refl _ | omega | (simp; done) | (simp; omega)) _))
 have HCh := hid (choices_impl n hscB hf0 hf.uniq hn0 hn1 hn4)
 have HSA := hid hscA
 clear h0 hf hsx hJ hY hscA hscB hgr hrd
 refine callsIn_of_wp_marks Tryz.func45 rfl trivial ?_ rfl
 simp only [Tryz.ntmps45, List.size_toArray, List.length_cons, List.length_nil, Nat.reduceAdd, Nat.reduceSub, Array.replicate_succ, Array.replicate_zero, List.push_toArray, List.append_toArray, List.nil_append, List.cons_append]
 gi_wp2
 refine ⟨trivial, (callsIn_wide.2 HCh.out).mono ?_⟩
 rintro e1 w2 ⟨Bx, RB, V, rfl, hbx, hrd2, hBx, hRB, hs2, hg2⟩
 obtain ⟨yb, hyb⟩ : ∃ yb, W.heap.size = yb := ⟨_, rfl⟩
 have hbA : (W.alloc (.cells #[.func (.yield lB) #[] #[]] 69)).heap.size = yb + 1 := by simp [hyb]
 have hybx : Boxed w2 yb 69 (.func (.yield lB) #[] #[]) := by
  have h9 := Boxed.new W 69 (.func (.yield lB) #[] #[])
  rw [hyb] at h9
  exact h9.kept hg2 (fun e => by injection e with e; omega)
 have hR2 : RSt b W.heap.size W w2 := (RSt.below (by repeat (first | exact Below.refl _ _ | assumption | refine Below.drew ?_ | refine Below.alloc ?_ (by first | exact Nat.le_refl _ | omega | (simp; done) | (simp; omega)) _ | refine Below.setCell ?_ (by first | exact Nat.le_refl _ | omega | (simp; done) | (simp; omega)) _))).trans (RSt.grown hg2)
 have hI0 : IA J (goodB g (l 1) o e x (l 4) env ds n) w0 b B F p l c g x yb lB [] w2 := by
  refine ⟨⟨[], HJ.out _ _ _ hR2 hj0, rfl, fun y hy => by cases hy⟩, hybx, gtrans HGr.out (gtrans (World.grownBy_alloc W _ _) hg2), hs2.ready⟩
 have hz2 : yb < w2.heap.size := hybx.lt
 have HI0 := hid hI0
 have HBx := hid hbx
 have HRd := hid hrd2
 have hB2 : w0.heap.size ≤ w2.heap.size := by omega
 rw [hbA] at HRd
 obtain ⟨L, hL⟩ : ∃ L : Nat → List Int, (fun i : Nat => rowP g (l 1) o e env ds (i : Int) (n + 3)) = L := ⟨_, rfl⟩
 have HLe := hid hL
 rw [hL] at HRd
 have HQ : Hid (∀ (ys : List (Nat × List Int)), ys.map (·.2) = (prod L n).filter (goodB g (l 1) o e x (l 4) env ds n) → ys.map (·.2) = (prod (fun i : Nat => rowP g (l 1) o e env ds (i : Int) (n + 3)) n).filter (goodB g (l 1) o e x (l 4) env ds n)) := hid (fun ys h => by rw [hL]; exact h)
 clear hL hI0 hbx hrd2 hs2 hg2 hR2 hybx HCh qs ls hbA
 rw [hyb] at HJ ⊢
 gi_wp2
 refine range_all (α := Nat × List Int) rfl (enters_of Tryz.func101 (by kernel_rfl) rfl) (picks_seq w2.heap.size (yb + 1) w2.heap.size RB Bx n V L (by omega)) (fun r => ?start) KpT.trans (fun W' ob ob' h hc => ?kb) (fun A A' hr k ob h1 h2 h3 h4 => ?hR) (fun _ => rfl)
  (IA J (goodB g (l 1) o e x (l 4) env ds n) w0 b B F p l c g x yb lB) ?hI (fun pre y => ?hAt) ?hIR HI0.out
  (fun y => ⟨#[.func (.yield lB) #[] #[], .pointer (some ⟨Sx, 0, none⟩), .pointer (some ⟨yb, 0, none⟩), .slice (some ⟨y.1, 0, none⟩) n n, undef, undef, .pointer (some ⟨sb, 0, none⟩), .func (.func 101) #[] #[.pointer (some ⟨Bx, 0, none⟩)], .slice (some ⟨y.1, 0, none⟩) n n, undef, undef, undef, undef, undef, undef, undef, undef, undef, undef, undef, undef, undef, undef, undef, undef, undef, undef], []⟩) ?assign ?body ?done
 case start =>
  have hb : Below w2.heap.size w2 ((w2.alloc (.deferred (some []))).alloc (.loop r)) := (by repeat (first | exact Below.refl _ _ | assumption | refine Below.drew ?_ | refine Below.alloc ?_ (by first | exact Nat.le_refl _ | omega | (simp; done) | (simp; omega)) _ | refine Below.setCell ?_ (by first | exact Nat.le_refl _ | omega | (simp; done) | (simp; omega)) _))
  exact ⟨HRd.out.kept (kp_below hb), (hb.block _ HBx.out.lt).trans HBx.out, hb.size, hb.size⟩
 case kb =>
  intro q cs t fr hq ht
  rw [World.putObj_heap_other (fun e => by subst e; rw [hq] at h; injection h with h; subst h; cases hc)]
  exact hq
 case hR => exact (hr.blk k (Array.getElem?_eq_some_iff.1 h3).1 (fun _ cs fr hh => by rw [h3] at hh; injection hh with hh; subst hh; cases h4)).trans h3
 case hI =>
  intro pre A A' row h hg hr
  exact h.step HJ.out (by omega) (by omega) (RSt.soft hg (Nat.le_of_lt hz2) hr) (ready_soft h.rd hg (fun r e => (hr r e).2))
 case hAt =>
  rintro _ A A' row ⟨⟨h1, h2, h3, h4⟩, h8⟩ hg hr
  refine ⟨⟨h1, h2, h3, h4.of_block (hg.block _ h4.lt (fun e => ?_))⟩, h8⟩
  obtain ⟨_, ob, h5, h6⟩ := hr _ e.symm
  obtain ⟨cs, h7, _⟩ := h4
  rw [h7] at h5
  injection h5 with h5
  subst h5
  cases h6
 case hIR =>
  intro pre A A' hr h
  refine h.step HJ.out (by omega) (by omega) (RSt.int ⟨hr.os, hr.tape, hr.output, hr.size, fun q hq hx => hr.blk q hq (fun hB => hx (by omega))⟩) (ready_int h.rd hr)
 case assign =>
  intro l' y W' K hK
  gi_wp2
  exact hK
 case done =>
  rintro D xs W' hD ⟨LB, rfl⟩ hi hK
  obtain ⟨ys, h1, h2, h3⟩ := hi.ex
  have HJe := hid h1
  have h2' : ys.map (·.2) = (prod L n).filter (goodB g (l 1) o e x (l 4) env ds n) := by
   rw [h2, List.map_map]
   congr 1
   exact List.map_id _
  have HYs := hid (HQ.out ys h2')
  have HKd := hid hK
  clear hi h1 h2 h2' h3 hK
  gi_wp2
  refine leaves_marks (B := yb) [D] W' ⟨by simp, fun D' hD' => by simp only [List.mem_singleton] at hD'; subst hD'; exact ⟨by omega, HKd.out⟩⟩ (fun W'' hc => ⟨_, results_none rfl _ _ _, ⟨_, rfl⟩, ys, HYs.out, HJ.out _ _ _ ⟨hc.os, hc.tape, hc.output, hc.size, fun q hq hb hx => hc.blk q hq (fun hm => ?_)⟩ HJe.out⟩)
  simp only [List.mem_singleton] at hm
  subst hm
  obtain ⟨cs, t, fr, h4, _⟩ := hx (by omega)
  rw [HKd.out] at h4
  cases h4
 case body =>
  rintro l' pre ⟨LB, cv⟩ W' hi ⟨⟨hLB, hlen, hin, hrow⟩, hpl⟩
  dsimp only at hLB hlen hin hrow
  have hps : (prod L n).length ≤ 2401 := Nat.le_trans (prod_size (M := 7) n (fun i hi' => by rw [← HLe.out]; exact Nat.le_trans (rowP_len _ _ _ _ _ _ _ _) (by omega))) (by
   obtain rfl | rfl | rfl | rfl : n = 1 ∨ n = 2 ∨ n = 3 ∨ n = 4 := by omega
   all_goals decide)
  have HPl : Hid (pre.length < 2401) := hid (by omega)
  clear hps hpl
  have hvv : ∀ i, -3 ≤ zAt cv i ∧ zAt cv i < n := fun i => by
   by_cases hi' : i < n
   · have := hin i hi'
     rw [← HLe.out] at this
     exact row_in this
   · unfold zAt
     rw [List.getElem?_eq_none (by omega)]
     simp only [Option.getD_none]
     omega
  have hir : IntRow W' (some ⟨LB, 0, none⟩) n cv := ⟨hlen, by unfold maxLen; omega, fun i hi' => ⟨LB, 0, rfl, by simpa [zAt] using hrow.cell hi'⟩⟩
  have HI := hid hi
  have HVv := hid hvv
  have qs : W'.cell? ⟨Sx, 0, none⟩ = some (.pointer (some ⟨sb, 0, none⟩)) := (HSx.out.kept hi.gr (fun e => by injection e with e; exact hSb e)).cell
  have HRo := hid (routesOf_impl (some ⟨LB, 0, none⟩) n n cv (HS.out.step hi.gr hi.rd) HF.out hir (fun a o e => by injection e with e; injection e with e1 _; omega) hn1 hvv)
  have HGo : Hid (goodB g (l 1) o e x (l 4) env ds n cv = (okV g (l 1) o e x (l 4) env ds cv n && stabB g (l 1) o e x (l 4) env ds (valR g (l 1) o e x (l 4) env ds cv n) n)) := hid rfl
  have hbW : b < W'.heap.size := Nat.lt_of_lt_of_le hbw hi.gr.size
  clear hi hvv hir hin hrow
  gi_wp2
  refine ⟨trivial, (CallsIn.inRound l' (callsIn_wide.2 HRo.out)).mono ?_⟩
  rintro e1 w3 ⟨hres, hs3, hg3⟩
  have HI3 := hid (HI.out.step HJ.out (by omega) (by omega) (RSt.grown hg3) hs3.ready)
  have HKp3 := hid (kpt_grown hg3 (ready_type HI.out.rd))
  have HKf3 := hid (KeepsFrom.of_grownBy (B := w2.heap.size) hg3 (fun j e => by injection e with e; omega))
  have qs3 : w3.cell? ⟨Sx, 0, none⟩ = some (.pointer (some ⟨sb, 0, none⟩)) := (HSx.out.kept HI3.out.gr (fun e => by injection e with e; exact hSb e)).cell
  have qy3 := HI3.out.box.cell
  have HS3 := hid hs3
  have hg3s := hg3.size
  have HRs3 := hid (RSt.grown (B := yb) hg3)
  clear hs3 hg3 qs HRo
  rcases hres with ⟨hok, N, rfl, hN, hl3⟩ | ⟨hok, rfl⟩
  · rw [hok, Bool.true_and] at HGo
    have hgd : sceneBy.Good n l g x (valR g (l 1) o e x (l 4) env ds cv n) := ⟨hn4, HF.out.uniq, HF.out.cost, HF.out.deed, fun i hi => (valR_bounds hn1 hn4 HVv.out HF.out.cost hok hi).1, fun i hi => (valR_bounds hn1 hn4 HVv.out HF.out.cost hok hi).2⟩
    have hst := stable_impl (some ⟨N, 0, none⟩) n n (valR g (l 1) o e x (l 4) env ds cv n) HS3.out hgd (hl3.is (by unfold maxLen; omega)) (fun a o e => by injection e with e; injection e with e1 _; omega) hn1
    have hsb : sameTo (bests g (l 1) o e x (l 4) env ds (valR g (l 1) o e x (l 4) env ds cv n) n) (valR g (l 1) o e x (l 4) env ds cv n) n = goodB g (l 1) o e x (l 4) env ds n cv := by
     rw [HGo.out, bests_cand hn4 (fun i hi => (hgd.via i hi).2) hen]
     rfl
    rw [hsb] at hst
    have HSt := hid hst
    have HL3 := hid hl3
    have hNw : N < w3.heap.size := by obtain ⟨f, hf, -⟩ := hl3.row; exact hf.lt
    clear hst hgd hl3 hsb HGo
    gi_wp2
    refine ⟨trivial, (CallsIn.inRound l' (callsIn_wide.2 HSt.out)).mono ?_⟩
    rintro e2 w4 ⟨rfl, hs4, hg4⟩
    have HI4 := hid (HI3.out.step HJ.out (by omega) (by omega) (RSt.grown hg4) hs4.ready)
    have HKp4 := hid (HKp3.out.trans (kpt_grown hg4 (ready_type HI3.out.rd)))
    have HKf4 := hid (HKf3.out.trans (KeepsFrom.of_grownBy (B := w2.heap.size) hg4 (fun j e => by injection e with e; omega)))
    have HL4 := hid (laid_ch HL3.out (Ch.of_grown hg4) (fun e => by injection e with e; omega))
    have qy4 := HI4.out.box.cell
    have HRs4 := hid (HRs3.out.trans (RSt.grown hg4))
    have hg4s := hg4.size
    clear hs4 hg4 qs3 qy3 HSt HL3 HI3 HKp3 HKf3
    obtain ⟨gd, hgd⟩ : ∃ gd, goodB g (l 1) o e x (l 4) env ds n cv = gd := ⟨_, rfl⟩
    have HGd := hid hgd
    rw [hgd]
    clear hgd
    cases gd with
    | false =>
     gi_wp2
     refine ⟨fun _ h => (by cases h), ?_⟩
     gi_wp2
     exact ⟨HKf4.out, HKp4.out, HI4.out.no HGd.out⟩
    | true =>
     obtain ⟨ys, h1, h2, h3⟩ := HI.out.ex
     have hyl : ys.length < 3000 := by
      have h9 := congrArg List.length h2
      rw [List.length_map] at h9
      have h8 : ((pre.map (·.2)).filter (goodB g (l 1) o e x (l 4) env ds n)).length ≤ pre.length := Nat.le_trans (List.length_filter_le _ _) (by simp)
      have := HPl.out
      omega
     obtain ⟨fn, tmps, assign, body, hy, hround⟩ := yield_any (m' := 8) (HY.out ys (N, cv) w4 (HJ.out _ _ _ HRs4.out h1) ⟨HL4.out, by have := HI.out.gr.size; show w0.heap.size ≤ N; omega, fun z hz => by have := h3 z hz; show z.1 ≠ N; omega, hyl⟩)
     dsimp only at hy
     have HYs := hid h2
     have HYl := hid h3
     clear h1 h2 h3
     gi_wp2
     refine hround.mono ?_
     rintro e5 w5 ⟨rfl, hj5, hk5⟩
     have HKf5 : Hid (KeepsFrom w2.heap.size w4 w5) := hid ⟨hk5.size, fun k ob hkB hk ho => (hk5.blk k (Array.getElem?_eq_some_iff.1 hk).1 (fun _ => ⟨fun cs t fr h => (by rw [hk] at h; injection h with h; subst h; cases ho), fun e => by omega⟩)).trans hk⟩
     have HI5 : Hid (IA J (goodB g (l 1) o e x (l 4) env ds n) w0 b B F p l c g x yb lB (pre ++ [(LB, cv)]) w5) := hid (by
      refine ⟨⟨ys ++ [(N, cv)], hj5, ?_, fun y hy' => ?_⟩, (hk5.blk yb HI4.out.box.lt (fun _ => ⟨fun cs t fr h => by rw [show w4.heap[yb]? = _ from HI4.out.box] at h; injection h with h; injection h with _ h _; subst h; exact ⟨by decide, by decide⟩, fun _ => ⟨_, _, _, HI4.out.box⟩⟩)).trans HI4.out.box, ⟨hk5.os.trans HI4.out.gr.os, hk5.tape.trans HI4.out.gr.tape, hk5.output.trans HI4.out.gr.output, Nat.le_trans HI4.out.gr.size hk5.size, fun j hj hne => (hk5.blk j (Nat.lt_of_lt_of_le hj HI4.out.gr.size) (fun hB => absurd hB (by omega))).trans (HI4.out.gr.block j hj hne)⟩, ready_kpr HI4.out.rd hk5 hbw⟩
      · rw [List.map_append, List.map_append, List.filter_append, HYs.out]
        simp [HGd.out]
      · have h9 := hk5.size
        rcases List.mem_append.1 hy' with h | h
        · have := HYl.out y h
          omega
        · simp only [List.mem_singleton] at h
          subst h
          show N < w5.heap.size
          omega)
     have HKp5 := hid (HKp4.out.trans (kpt_of hk5))
     clear hj5 hk5
     gi_wp2
     exact ⟨HKf4.out.trans HKf5.out, HKp5.out, HI5.out⟩
  · rw [hok, Bool.false_and] at HGo
    gi_wp2
    refine ⟨trivial, ?_⟩
    gi_wp2
    refine ⟨fun _ h => (by cases h), ?_⟩
    gi_wp2
    exact ⟨HKf3.out, HKp3.out, HI3.out.no HGo.out⟩
end Go.Proofs.YtaioffpkadmmhaaGreat.stateSeq
