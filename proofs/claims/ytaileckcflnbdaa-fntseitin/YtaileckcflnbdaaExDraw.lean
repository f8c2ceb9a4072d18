/- An expression that the specification draws: whatever the source tells, it is right, and new; conditions: a source that has not been asked too often. -/
import Derived.Test.YtaileckcflnbdaaSourceI
import Derived.Test.YtaileckcflnbdaaGrowRow
import Derived.Test.YtaileckcflnbdaaHeldStore
import Derived.Test.YtaileckcflnbdaaTreeEval
import Derived.Test.YtaileckcflnbdaaBuildAnd
import Derived.Laws.ResultCell
namespace Go.Proofs.Ytaileckcflnbdaa.exDraw
open Go.RowKit Go.Deep Go.Sort Go base trees treeEval heldStore intsOwn source growRow ownTree
open Go.Proofs.Ytaileckcflnbdaa.buildAnd (step_append_at)
set_option linter.unusedVariables false

/-- How often a source is asked at most. -/
def asks : Nat → Nat
  | 0 => 4
  | d + 1 => 4 + 3 * asks d
def leafT (k n : Int) : T := mkT k n 0 fun _ _ => (0, 0, 0)
/-- What is drawn: a right tree of fuel d, whose variables are below 4. -/
def FineE (d : Nat) (t : T) : Prop := right d t = true ∧ mostV d t < 4
def ExAt (d : Nat) : Prop := ∀ (deep : Nat) (b : Nat) (a : Option Addr) (len cap k : Nat) (w : World), deep ≤ d → Src w b a len cap k → k + asks d ≤ 1048576 →
    Calls Try.prog 13 #[.pointer (some ⟨b, 0, none⟩), .int .i64 (deep : Int)] w fun e w' => ∃ t a' l c, e = .returned (.agg #[.int .i64 (kd t), .int .i64 (nn t), .slice a' l c]) ∧ Rd (fun x => w.heap.size ≤ x) 1048576 w' d t a' l ∧ FineE d t ∧ Src w' b a len cap (k + asks d) ∧ w.grownBy w' (some b)
theorem fine_leaf (d : Nat) {k n : Int} (h : (k = 1 ∧ 0 ≤ n ∧ n < 4) ∨ (k = 2 ∧ 0 ≤ n ∧ n < 2)) : FineE d (leafT k n) := by
  have hz : d = 0 → ln (leafT k n) = 0 := fun _ => rfl
  have hl : ln (leafT k n) = 0 := rfl
  have hk : kd (leafT k n) = k := rfl
  have hn : nn (leafT k n) = n := rfl
  refine ⟨?_, ?_⟩
  · rw [right_eq hz, hl]
    simp only [allTo, Bool.and_true]
    refine decide_eq_true ?_
    rw [hl, hk, hn]
    rcases h with ⟨rfl, h0, h1⟩ | ⟨rfl, h0, h1⟩
    · simp [kidsOf, mostN]; omega
    · simp [kidsOf, mostN]; omega
  · rw [mostV_eq hz, hk, hn, hl]
    rcases h with ⟨rfl, h0, h1⟩ | ⟨rfl, h0, h1⟩
    · rw [if_pos rfl]; exact h1
    · rw [if_neg (by omega)]; simp [maxI]
theorem rd_leaf' (q : Nat → Prop) (w : World) (d : Nat) (k n : Int) : Rd q 1048576 w d (leafT k n) none 0 := rd_leaf q w d rfl none
theorem ask_pos (d : Nat) : 4 ≤ asks d := by cases d <;> simp [asks]
theorem ask_ge : ∀ d, d ≤ asks d
  | 0 => Nat.zero_le _
  | d + 1 => by have := ask_ge d; simp only [asks]; omega
theorem ask_next {d : Nat} (h : 0 < d) : asks d = 4 + 3 * asks (d - 1) := by
  cases d with
  | zero => omega
  | succ d => rfl

theorem src_kept {w w1 : World} {b len cap k : Nat} {a : Option Addr} (h : Src w b a len cap k) (hk : ∀ j, j ≤ b → w1.heap[j]? = w.heap[j]?) : Src w1 b a len cap k := by
  obtain ⟨h1, ⟨n, s, p1, p2, p3, p4, hr⟩, h3⟩ := h
  exact ⟨h1, ⟨n, s, p1, p2, p3, p4, hr.of_block (hk _ (Nat.le_refl _))⟩, fun i hi => by
    obtain ⟨bb, off, e, hne, x, hx, hc⟩ := h3 i hi
    exact ⟨bb, off, e, hne, x, hx, (World.cell?_of_block (a := ⟨bb, off + i, none⟩) (hk bb (by omega))).trans hc⟩⟩
theorem grown_new {w W : World} {row : Option Nat} (h : w.grownBy W row) {R o : Nat} (hx : w.heap.size ≤ R) (v : Value) : w.grownBy (W.setCell ⟨R, o, none⟩ v) row :=
  ⟨by rw [setCell_eq]; exact h.os, by rw [setCell_eq]; exact h.tape, by rw [setCell_eq]; exact h.output, Nat.le_trans h.size (by simp [World.setCell]), fun j hj hne => (Below.heap_setCell _ _ _ _ (by dsimp only; omega)).trans (h.block j hj hne)⟩
theorem grown_below' {w W : World} {row : Option Nat} (h : Below w.heap.size w W) : w.grownBy W row := ⟨h.os, h.tape, h.output, h.size, fun j hj _ => h.block j hj⟩

theorem grown_far {w W W2 : World} {row r2 : Option Nat} (h : w.grownBy W row) (k : W.grownBy W2 r2) (hr : ∀ g, r2 = some g → w.heap.size ≤ g) : w.grownBy W2 row :=
  ⟨k.os.trans h.os, k.tape.trans h.tape, k.output.trans h.output, Nat.le_trans h.size k.size, fun j hj hne => (k.block j (Nat.lt_of_lt_of_le hj h.size) (fun e => by have := hr j e.symm; omega)).trans (h.block j hj hne)⟩
theorem Src.lt {w : World} {b len cap k : Nat} {a : Option Addr} (h : Src w b a len cap k) : b < w.heap.size := by
  obtain ⟨_, ⟨_, _, _, _, _, _, hr⟩, _⟩ := h
  exact hr.lt
theorem cell_three (w : World) (x y z : Value) (t : TypeId) : ∀ (j : Nat) (u : Value), [x, y, z][j]? = some u → (w.alloc (.cells #[x, y, z] t)).cell? ((⟨w.heap.size, 0, none⟩ : Addr).add j) = some u := by
  intro j u h
  match j, h with
  | 0, h => cases h; simp [Addr.add, go_sem]
  | 1, h => cases h; simp [Addr.add, go_sem]
  | 2, h => cases h; simp [Addr.add, go_sem]
  | _ + 3, h => simp at h
theorem info_ex : (Try.prog.info? 25).map (fun i => (i.zero, i.size, i.bytes)) = some (some (.agg #[.int .i64 0, .int .i64 0, .slice none 0 0]), 3, 40) := by kernel_rfl
theorem maxI_lt {f : Nat → Int} {m : Int} (hm : -1 < m) : ∀ n, (∀ i, i < n → f i < m) → maxI f n < m
  | 0, _ => hm
  | n + 1, h => by
    have h1 := maxI_lt (f := f) hm n (fun i hi => h i (by omega))
    have h2 := h n (by omega)
    simp only [maxI]
    omega
theorem all_of {f : Nat → Bool} : ∀ n, (∀ i, i < n → f i = true) → allTo f n = true
  | 0, _ => rfl
  | n + 1, h => by simp only [allTo]; rw [all_of n (fun i hi => h i (by omega)), h n (by omega)]; rfl
theorem fine_op {d nk : Nat} {κ : Int} {x : Nat → T} (hd : 0 < d) (hk : (nk : Int) = kidsOf κ) (h1 : κ ≠ 1) (h2 : κ ≠ 2) (h : ∀ i, i < nk → FineE (d - 1) (x i)) : FineE d (mkT κ 0 nk x) := by
  have hz : d = 0 → ln (mkT κ 0 nk x) = 0 := fun e => by omega
  have hl : ln (mkT κ 0 nk x) = nk := rfl
  have hkd : kd (mkT κ 0 nk x) = κ := rfl
  have hn : nn (mkT κ 0 nk x) = 0 := rfl
  have hki : ∀ i, kid (mkT κ 0 nk x) i = x i := fun i => rfl
  refine ⟨?_, ?_⟩
  · rw [right_eq hz, Bool.and_eq_true]
    refine ⟨decide_eq_true ?_, ?_⟩
    · rw [hl, hkd, hn]
      refine ⟨hk, by omega, ?_⟩
      unfold mostN
      rw [if_neg h1, if_neg h2]
      omega
    · rw [hl]
      exact all_of nk (fun i hi => (h i hi).1)
  · rw [mostV_eq hz, hkd, if_neg h1, hl]
    exact maxI_lt (by omega) nk (fun i hi => (h i hi).2)

set_option maxHeartbeats 6400000 in
set_option maxRecDepth 8000 in
theorem ex_src (d : Nat) : ExAt d := by
  induction d using Nat.strongRecOn with
  | _ d ih =>
  intro deep b a len cap k w hdd hs hk
  have HIH := hid ih
  have hap := ask_pos d
  have hbw : b < w.heap.size := by obtain ⟨_, ⟨_, _, _, _, _, _, hr⟩, _⟩ := hs; exact hr.lt
  have HB0 : Hid (Below w.heap.size w (w.alloc (.cells #[.int .i64 0, .int .i64 0, .slice none 0 0] 25))) := hid (by repeat (first | exact Below.refl _ _ | assumption | refine Below.drew ?_ | refine Below.alloc ?_ (by first | exact Nat.le_refl _ | omega | (simp; done) | (simp; omega)) _ | refine Below.setCell ?_ (by first | exact Nat.le_refl _ | omega | (simp; done) | (simp; omega)) _))
  have HSw0 := hid (hs.below HB0.out)
  have HBw0 := hid (grown_refl (w.alloc (.cells #[.int .i64 0, .int .i64 0, .slice none 0 0] 25)) (some b))
  have HGw0 : Hid (w.grownBy (w.alloc (.cells #[.int .i64 0, .int .i64 0, .slice none 0 0] 25)) (some b)) := hid (grown_below' HB0.out)
  have HBox : Hid (∀ W : World, ((w.alloc (.cells #[.int .i64 0, .int .i64 0, .slice none 0 0] 25))).grownBy W (some b) → (W.cell? ⟨w.heap.size, 0, none⟩ = some (.int .i64 0) ∧ W.cell? ⟨w.heap.size, 1, none⟩ = some (.int .i64 0) ∧ W.cell? ⟨w.heap.size, 2, none⟩ = some (.slice none 0 0) ∧ W.frozen? ⟨w.heap.size, 0, none⟩ = false ∧ W.frozen? ⟨w.heap.size, 1, none⟩ = false ∧ W.frozen? ⟨w.heap.size, 2, none⟩ = false) ∧ w.heap.size < W.heap.size) := hid (fun W hg => by
    have hb := hg.block w.heap.size (by simp) (fun e => by injection e with e; omega)
    have hz := hg.size
    simp at hz
    refine ⟨⟨?_, ?_, ?_, ?_, ?_, ?_⟩, by omega⟩
    · exact (World.cell?_of_block (a := ⟨w.heap.size, 0, none⟩) hb).trans (by simp [go_sem])
    · exact (World.cell?_of_block (a := ⟨w.heap.size, 1, none⟩) hb).trans (by simp [go_sem])
    · exact (World.cell?_of_block (a := ⟨w.heap.size, 2, none⟩) hb).trans (by simp [go_sem])
    · exact (World.frozen?_of_block (a := ⟨w.heap.size, 0, none⟩) hb).trans (by simp [go_sem])
    · exact (World.frozen?_of_block (a := ⟨w.heap.size, 1, none⟩) hb).trans (by simp [go_sem])
    · exact (World.frozen?_of_block (a := ⟨w.heap.size, 2, none⟩) hb).trans (by simp [go_sem]))
  clear hs ih
  -- a leaf, told by a source that has been asked at most four times
  have HLeaf : Hid (∀ (W : World) (k' : Nat) (kk nv : Int), Src W b a len cap k' → k' ≤ k + 4 → w.grownBy W (some b) → ((kk = 1 ∧ 0 ≤ nv ∧ nv < 4) ∨ (kk = 2 ∧ 0 ≤ nv ∧ nv < 2)) → ∃ t a' l c, Ending.returned (.agg #[.int .i64 kk, .int .i64 nv, .slice none 0 0]) = .returned (.agg #[.int .i64 (kd t), .int .i64 (nn t), .slice a' l c]) ∧ Rd (fun x => w.heap.size ≤ x) 1048576 W d t a' l ∧ FineE d t ∧ Src W b a len cap (k + asks d) ∧ w.grownBy W (some b)) := hid (fun W k' kk nv h1 h2 h3 h4 =>
    ⟨leafT kk nv, none, 0, 0, rfl, rd_leaf' _ _ _ _ _, fine_leaf d h4, h1.mono (by omega), h3⟩)
  by_cases h0 : deep = 0
  · subst h0
    have hd0 : decide (((0 : Nat) : Int) ≤ 0) = true := by decide
    go_enter Try.func13, Try.ntmps13
    go_wp2_with fail
    refine (chance_src b a len cap (k) 8 _ HSw0.out (by omega) (by omega) (by omega)).mono ?_
    rintro e wc ⟨tc, rfl, hs2, hg2⟩
    have HSwc := hid hs2
    have HBwc := hid (grown_trans HBw0.out hg2)
    have HGwc := hid (grown_trans HGw0.out hg2)
    clear hs2 hg2
    cases tc with
    | true =>
      go_wp2_with fail
      refine (next_src b a len cap (k + 1) 2 _ HSwc.out (by omega) (by omega) (by omega)).mono ?_
      rintro e wn ⟨r, rfl, hr0, hr1, hs2, hg2⟩
      have HSwn := hid hs2
      have HBwn := hid (grown_trans HBwc.out hg2)
      have HGwn := hid (grown_trans HGwc.out hg2)
      clear hs2 hg2
      obtain ⟨⟨q0, q1, q2, z0, z1, z2⟩, hltwn⟩ := HBox.out _ HBwn.out
      go_wp2
      refine bodyPost_ret (v := .agg #[.int .i64 2, .int .i64 r, .slice none 0 0]) (by first | (rw [results_cell rfl]; go_simp; done) | (simp [results, Try.results13]; go_simp; done)) rfl ?_
      exact HLeaf.out _ (k + 1 + 1) 2 r (src_kept HSwn.out (fun j hj => by rw [Below.heap_setCell _ _ _ _ (by dsimp only; omega), Below.heap_setCell _ _ _ _ (by dsimp only; omega), Below.heap_setCell _ _ _ _ (by dsimp only; omega)])) (by omega) (grown_new (grown_new (grown_new HGwn.out (Nat.le_refl _) _) (Nat.le_refl _) _) (Nat.le_refl _) _) (by omega)
    | false =>
      go_wp2_with fail
      refine (next_src b a len cap (k + 1) 4 _ HSwc.out (by omega) (by omega) (by omega)).mono ?_
      rintro e wn ⟨r, rfl, hr0, hr1, hs2, hg2⟩
      have HSwn := hid hs2
      have HBwn := hid (grown_trans HBwc.out hg2)
      have HGwn := hid (grown_trans HGwc.out hg2)
      clear hs2 hg2
      obtain ⟨⟨q0, q1, q2, z0, z1, z2⟩, hltwn⟩ := HBox.out _ HBwn.out
      go_wp2
      refine bodyPost_ret (v := .agg #[.int .i64 1, .int .i64 r, .slice none 0 0]) (by first | (rw [results_cell rfl]; go_simp; done) | (simp [results, Try.results13]; go_simp; done)) rfl ?_
      exact HLeaf.out _ (k + 1 + 1) 1 r (src_kept HSwn.out (fun j hj => by rw [Below.heap_setCell _ _ _ _ (by dsimp only; omega), Below.heap_setCell _ _ _ _ (by dsimp only; omega), Below.heap_setCell _ _ _ _ (by dsimp only; omega)])) (by omega) (grown_new (grown_new (grown_new HGwn.out (Nat.le_refl _) _) (Nat.le_refl _) _) (Nat.le_refl _) _) (by omega)
  have hd0 : decide ((deep : Int) ≤ 0) = false := decide_eq_false (by omega)
  go_enter Try.func13, Try.ntmps13
  go_wp2_with fail
  refine (chance_src b a len cap k 5 _ HSw0.out (by omega) (by omega) (by omega)).mono ?_
  rintro e w1 ⟨t1, rfl, hs2, hg2⟩
  have HSw1 := hid hs2
  have HBw1 := hid (grown_trans HBw0.out hg2)
  have HGw1 := hid (grown_trans HGw0.out hg2)
  clear hs2 hg2
  cases t1 with
  | true =>
    go_wp2_with fail
    refine (chance_src b a len cap (k + 1) 8 _ HSw1.out (by omega) (by omega) (by omega)).mono ?_
    rintro e wc ⟨tc, rfl, hs2, hg2⟩
    have HSwc := hid hs2
    have HBwc := hid (grown_trans HBw1.out hg2)
    have HGwc := hid (grown_trans HGw1.out hg2)
    clear hs2 hg2
    cases tc with
    | true =>
      go_wp2_with fail
      refine (next_src b a len cap (k + 1 + 1) 2 _ HSwc.out (by omega) (by omega) (by omega)).mono ?_
      rintro e wn ⟨r, rfl, hr0, hr1, hs2, hg2⟩
      have HSwn := hid hs2
      have HBwn := hid (grown_trans HBwc.out hg2)
      have HGwn := hid (grown_trans HGwc.out hg2)
      clear hs2 hg2
      obtain ⟨⟨q0, q1, q2, z0, z1, z2⟩, hltwn⟩ := HBox.out _ HBwn.out
      go_wp2
      refine bodyPost_ret (v := .agg #[.int .i64 2, .int .i64 r, .slice none 0 0]) (by first | (rw [results_cell rfl]; go_simp; done) | (simp [results, Try.results13]; go_simp; done)) rfl ?_
      exact HLeaf.out _ (k + 1 + 1 + 1) 2 r (src_kept HSwn.out (fun j hj => by rw [Below.heap_setCell _ _ _ _ (by dsimp only; omega), Below.heap_setCell _ _ _ _ (by dsimp only; omega), Below.heap_setCell _ _ _ _ (by dsimp only; omega)])) (by omega) (grown_new (grown_new (grown_new HGwn.out (Nat.le_refl _) _) (Nat.le_refl _) _) (Nat.le_refl _) _) (by omega)
    | false =>
      go_wp2_with fail
      refine (next_src b a len cap (k + 1 + 1) 4 _ HSwc.out (by omega) (by omega) (by omega)).mono ?_
      rintro e wn ⟨r, rfl, hr0, hr1, hs2, hg2⟩
      have HSwn := hid hs2
      have HBwn := hid (grown_trans HBwc.out hg2)
      have HGwn := hid (grown_trans HGwc.out hg2)
      clear hs2 hg2
      obtain ⟨⟨q0, q1, q2, z0, z1, z2⟩, hltwn⟩ := HBox.out _ HBwn.out
      go_wp2
      refine bodyPost_ret (v := .agg #[.int .i64 1, .int .i64 r, .slice none 0 0]) (by first | (rw [results_cell rfl]; go_simp; done) | (simp [results, Try.results13]; go_simp; done)) rfl ?_
      exact HLeaf.out _ (k + 1 + 1 + 1) 1 r (src_kept HSwn.out (fun j hj => by rw [Below.heap_setCell _ _ _ _ (by dsimp only; omega), Below.heap_setCell _ _ _ _ (by dsimp only; omega), Below.heap_setCell _ _ _ _ (by dsimp only; omega)])) (by omega) (grown_new (grown_new (grown_new HGwn.out (Nat.le_refl _) _) (Nat.le_refl _) _) (Nat.le_refl _) _) (by omega)
  | false =>
  go_wp2_with fail
  refine (next_src b a len cap (k + 1) 5 _ HSw1.out (by omega) (by omega) (by omega)).mono ?_
  rintro e w2 ⟨r, rfl, hr0, hr1, hs2, hg2⟩
  have HSw2 := hid hs2
  have HBw2 := hid (grown_trans HBw1.out hg2)
  have HGw2 := hid (grown_trans HGw1.out hg2)
  clear hs2 hg2
  obtain ⟨ρ, rfl⟩ : ∃ ρ : Nat, r = (ρ : Int) := ⟨r.toNat, by omega⟩
  obtain ⟨nk, hnk⟩ : ∃ nk : Nat, (nk : Int) = kidsOf (3 + (ρ : Int)) ∧ 1 ≤ nk ∧ nk ≤ 3 := by
    obtain rfl | rfl | rfl | rfl | rfl : ρ = 0 ∨ ρ = 1 ∨ ρ = 2 ∨ ρ = 3 ∨ ρ = 4 := by omega
    · exact ⟨1, rfl, by omega, by omega⟩
    · exact ⟨2, rfl, by omega, by omega⟩
    · exact ⟨2, rfl, by omega, by omega⟩
    · exact ⟨2, rfl, by omega, by omega⟩
    · exact ⟨3, rfl, by omega, by omega⟩
  obtain ⟨hnk0, hnk1, hnk2⟩ := hnk
  have HK := hid hnk0
  have hcell : ((w2.alloc (.cells #[.int .i64 (3 + (ρ : Int)), .int .i64 0, .slice none 0 0] 25)).alloc (.cells #[.int .i64 1, .int .i64 2, .int .i64 2, .int .i64 2, .int .i64 3] 3)).cell? ⟨w2.heap.size + 1, ρ, none⟩ = some (.int .i64 (nk : Int)) := by
    rw [hnk0]
    obtain rfl | rfl | rfl | rfl | rfl : ρ = 0 ∨ ρ = 1 ∨ ρ = 2 ∨ ρ = 3 ∨ ρ = 4 := by omega
    all_goals (simp [go_sem, kidsOf])
  have hri : (ρ : Int) < 5 := by omega
  obtain ⟨E, hE0⟩ : ∃ E, w2.heap.size = E := ⟨_, rfl⟩
  have hEw : w.heap.size + 1 ≤ E := by have := HBw2.out.size; simp at this; omega
  have hdpos : 0 < d := by omega
  obtain ⟨dp, rfl⟩ : ∃ dp, deep = dp + 1 := ⟨deep - 1, by omega⟩
  have HAsk := hid (ask_next hdpos)
  have hask := HAsk.out
  obtain ⟨i0, hi0, hzz⟩ := Option.map_eq_some_iff.1 info_ex
  simp only [Prod.mk.injEq] at hzz
  obtain ⟨hz0, hz1, hz2⟩ := hzz
  have HI := hid hi0
  have HZ0 := hid hz0
  have HZ1 := hid hz1
  have HZ2 := hid hz2
  have HStart : Hid (((w2.alloc (.cells #[.int .i64 (3 + (ρ : Int)), .int .i64 0, .slice none 0 0] 25)).alloc (.cells #[.int .i64 1, .int .i64 2, .int .i64 2, .int .i64 2, .int .i64 3] 3)).rowIs w2.heap.size 25 3 (fun i => if i = 0 then .int .i64 (3 + (ρ : Int)) else if i = 1 then .int .i64 0 else .slice none 0 0) ∧ Below w2.heap.size w2 ((w2.alloc (.cells #[.int .i64 (3 + (ρ : Int)), .int .i64 0, .slice none 0 0] 25)).alloc (.cells #[.int .i64 1, .int .i64 2, .int .i64 2, .int .i64 2, .int .i64 3] 3))) := hid ⟨by
    refine World.rowIs.of_block (World.rowIs_alloc w2 #[.int .i64 (3 + (ρ : Int)), .int .i64 0, .slice none 0 0] 25 _ (fun i hi => ?_)) (Below.block (B := w2.heap.size + 1) ((Below.refl _ _).alloc (by first | exact Nat.le_refl _ | (rw [World.size_alloc]; exact Nat.le_refl _)) _) _ (by omega))
    match i, hi with
    | 0, _ => rfl
    | 1, _ => rfl
    | 2, _ => rfl
    | i + 3, hi => exact absurd hi (by simp), (by repeat (first | exact Below.refl _ _ | assumption | refine Below.drew ?_ | refine Below.alloc ?_ (by first | exact Nat.le_refl _ | omega | (simp; done) | (simp; omega)) _ | refine Below.setCell ?_ (by first | exact Nat.le_refl _ | omega | (simp; done) | (simp; omega)) _))⟩
  rw [hE0] at HStart hcell
  clear hnk0 hi0 hz0 hz1 hz2
  go_wp2_with fail
  (try simp only [Nat.add_sub_cancel_left])
  go_loopw [7] (fun i wr => ∃ (j : Nat) (va : Option Addr) (vc : Nat) (t : T), j ≤ nk ∧ i = .int .i64 j ∧ wr.rowIs E 25 3 (fun i => if i = 0 then .int .i64 (3 + (ρ : Int)) else if i = 1 then .int .i64 0 else .slice va j vc) ∧ GrowR wr (E + 1) (fun _ => False) (.slice va j vc) j (d - 1) t ∧ (∀ i, i < j → FineE (d - 1) (kid t i)) ∧ Src wr b a len cap (k + 2 + j * asks (d - 1)) ∧ w.grownBy wr (some b) ∧ ((w.alloc (.cells #[.int .i64 0, .int .i64 0, .slice none 0 0] 25))).grownBy wr (some b) ∧ E + 1 ≤ wr.heap.size) (fun i _ => nk - (intOf i).toNat)
  case atStart =>
    refine ⟨0, none, 0, leafT 0 0, Nat.zero_le _, rfl, HStart.out.1, GrowR.nil _ _ _ _ _, fun i hi => absurd hi (Nat.not_lt_zero _), (HSw2.out.below (by rw [hE0]; exact HStart.out.2)).mono (by omega), grown_trans HGw2.out (grown_below' (by rw [hE0]; exact HStart.out.2)), grown_trans HBw2.out (grown_below' (by rw [hE0]; exact HStart.out.2)), by simp; omega⟩
  case round =>
    obtain ⟨j, va, vc, t, hj, rfl, hrow, hgr, hft, hsr, hgr0, hbr, hEr0⟩ := hrel
    have HRow := hid hrow
    have HGr := hid hgr
    have HFt := hid hft
    have HSr := hid hsr
    have HGr0 := hid hgr0
    have HBr := hid hbr
    have hEr : E < wr.heap.size := by omega
    have hbE : b < E := by omega
    clear hrow hgr hft hsr hgr0 hbr hcell
    by_cases hlt : j < nk
    · have hmul : (j + 1) * asks (d - 1) ≤ 3 * asks (d - 1) := Nat.mul_le_mul_right _ (by omega)
      rw [Nat.succ_mul] at hmul
      have HWr : Hid (IntKind.i64.wrap ((dp : Nat) : Int) = (dp : Int)) := hid (by have := ask_ge d; rw [IntKind.wrap_i64]; omega)
      have HCall := hid (fun w8 h8 => HIH.out (d - 1) (by omega) dp b a len cap (k + 2 + j * asks (d - 1)) w8 (by omega) h8 (by omega))
      have HK1 : Hid (∀ w8 : World, (∀ q, q = E → w8.heap[q]? = wr.heap[q]?) → w8.cell? ⟨E, 2, none⟩ = some (.slice va j vc)) := hid (fun w8 hb => (World.cell?_of_block (a := ⟨E, 2, none⟩) (hb E rfl)).trans (HRow.out.cell (i := 2) (by omega)))
      go_wp2_with fail
      refine region_goes 9 10 (fun w' => w'.cell? ⟨E, 2, none⟩ = some (.slice va j vc)) (by kernel_rfl) (by rfl) ⟨by kernel_rfl, by kernel_rfl, by kernel_rfl, by decide⟩ (HK1.out _ (fun q _ => rfl)) (fun hE inv hHeld => ?_)
      refine Goes.take (i := 0) (v := ?vul0) (some 37) hE rfl rfl inv (by kernel_rfl) (by kernel_rfl) (by decide) (fun _ _ _ h => h) (Or.inl ⟨by rfl, ?yul0⟩) (by assumption) (fun inv => ?rul0)
      case yul0 => (intro w' hSw; (try dsimp only at hSw); go_simp; (try with_reducible rfl))
      simp only [Act.put, List.setIfInBounds_toArray, List.set_cons_zero, List.set_cons_succ]
      refine Goes.take (i := 1) (v := ?vul1) (some 38) hE rfl rfl inv (by kernel_rfl) (by kernel_rfl) (by decide) (fun _ _ _ h => h) (Or.inl ⟨by rfl, ?yul1⟩) (by assumption) (fun inv => ?rul1)
      case yul1 => (intro w' hSw; (try dsimp only at hSw); go_simp; (try with_reducible rfl))
      simp only [Act.put, List.setIfInBounds_toArray, List.set_cons_zero, List.set_cons_succ]
      refine Goes.take (i := 2) (v := ?vul2) (some 39) hE rfl rfl inv (by kernel_rfl) (by kernel_rfl) (by decide) (fun _ _ _ h => h) (Or.inl ⟨by rfl, ?yul2⟩) (by assumption) (fun inv => ?rul2)
      case yul2 => (intro w' hSw; (try dsimp only at hSw); go_simp; (try with_reducible rfl))
      simp only [Act.put, List.setIfInBounds_toArray, List.set_cons_zero, List.set_cons_succ]
      refine Goes.take (i := 3) (v := ?vul3) (some 40) hE rfl rfl inv (by kernel_rfl) (by kernel_rfl) (by decide) (fun _ _ _ h => h) (Or.inl ⟨by rfl, ?yul3⟩) (by assumption) (fun inv => ?rul3)
      case yul3 => (intro w' hSw; (try dsimp only at hSw); go_simp; (try with_reducible rfl))
      simp only [Act.put, List.setIfInBounds_toArray, List.set_cons_zero, List.set_cons_succ]
      refine Goes.take (i := 4) (v := ?vul4) (some 41) hE rfl rfl inv (by kernel_rfl) (by kernel_rfl) (by decide) (fun _ _ _ h => h) (Or.inl ⟨by rfl, ?yul4⟩) (by assumption) (fun inv => ?rul4)
      case yul4 => (intro w' hSw; (try dsimp only at hSw); go_simp; (try with_reducible rfl))
      simp only [Act.put, List.setIfInBounds_toArray, List.set_cons_zero, List.set_cons_succ]
      refine Goes.one (i := 5) inv (by kernel_rfl) (by decide) rfl (fun inv K' hK => ?_)
      go_simp
      rw [HWr.out]
      refine (HCall.out _ (HSr.out.below (below_drewN _ 1))).mono ?_
      rintro e w4 ⟨t4, a4, l4, c4, rfl, hrd4, hfi4, hs4, hg4⟩
      have HRd4 := hid hrd4
      have HFi4 := hid hfi4
      have HS4 := hid hs4
      have hgw4 : wr.grownBy w4 (some b) := grown_trans (grown_below' (below_drewN _ 1)) hg4
      have HG4 := hid hgw4
      have s4 := hgw4.size
      have HRow4 := hid (HRow.out.of_block (hgw4.block E hEr (fun e => by injection e with e; omega)))
      have HGr4 : Hid (GrowR w4 (E + 1) (fun _ => False) (.slice va j vc) j (d - 1) t) := hid (HGr.out.from (fun q h1 h2 => hgw4.block q h2 (fun e => by injection e with e; omega)) s4)
      clear hrd4 hfi4 hs4 hg4
      (try go_wp2_with fail)
      refine hK.out _ _ (HK1.out _ (fun q hq => hgw4.block q (by omega) (fun e => by injection e with e; omega))) (fun hHeld => ?_)
      clear hK K'
      (try simp only [Act.put, List.setIfInBounds_toArray, List.set_cons_zero, List.set_cons_succ])
      have HA5 : Hid (Below w4.heap.size w4 (w4.alloc (.cells #[.int .i64 (kd t4), .int .i64 (nn t4), .slice a4 l4 c4] 25))) := hid (by repeat (first | exact Below.refl _ _ | assumption | refine Below.drew ?_ | refine Below.alloc ?_ (by first | exact Nat.le_refl _ | omega | (simp; done) | (simp; omega)) _ | refine Below.setCell ?_ (by first | exact Nat.le_refl _ | omega | (simp; done) | (simp; omega)) _))
      have HGr5 := hid (HGr4.out.below HA5.out)
      obtain ⟨xs, hxs⟩ := HGr5.out.owns
      have HX := hid hxs
      have hvl : ∀ g, (Value.slice va j vc).ownBlock = some g → E + 1 ≤ g ∧ g < wr.heap.size := HGr.out.form.2
      have HVL := hid hvl
      clear hxs hvl
      refine Goes.one (i := 6) inv (by kernel_rfl) (by decide) rfl (fun inv K' hK => ?_)
      go_simp
      refine hK.out _ _ (keep HA5.out (HRow4.out.cell (i := 2) (by omega))) (fun hHeld => ?_)
      clear hK K'
      (try simp only [Act.put, List.setIfInBounds_toArray, List.set_cons_zero, List.set_cons_succ])
      refine Goes.one (i := 7) inv (by kernel_rfl) (by decide) rfl (fun inv K' hK => ?_)
      refine step_append_at _ (by rfl) _ _ 23 (by rfl) (some 44) (by rfl) (E + 1) 25 i0 _ 3 40 Try.underlying23 HI.out HZ0.out HZ1.out HZ2.out rfl (by decide) _ _ _ (by rfl) HX.out ⟨w4.heap.size, 0, none⟩ 1 1 [.int .i64 (kd t4), .int .i64 (nn t4), .slice a4 l4 c4] (by rfl) rfl (cell_three _ _ _ _ _) (fun u hu => by simp at hu; rcases hu with rfl | rfl | rfl <;> rfl) (by unfold maxLen; omega) (by omega) (by simp; omega) ?_
      intro v5 w5 hown5 hg5 hat5
      have HGr6 : Hid (GrowR w5 (E + 1) (fun _ => False) v5 (j + 1) (d - 1) (mkT 0 0 nk fun i => if i = j then t4 else kid t i)) := hid (by
        refine GrowR.next (xs := xs) (a' := a4) (l' := l4) (c' := c4) (HGr5.out.congr (t' := mkT 0 0 nk fun i => if i = j then t4 else kid t i) (fun i hi => by show (if i = j then t4 else kid t i) = _; rw [if_neg (by omega)])) (by simp; omega) ?_ HX.out ?_ hg5 hat5
        · show Rd _ 1048576 _ (d - 1) (if j = j then t4 else kid t j) a4 l4
          rw [if_pos rfl]
          refine HRd4.out.kept fun q o u hq hu => ?_
          have hlt := World.block_lt_of_cell? _ _ hu
          refine ⟨keep HA5.out hu, .inr ⟨?_, ?_, fun e => ?_⟩⟩
          · have h5 : (wr.drewN 1).heap.size ≤ q := hq
            have h6 : (wr.drewN 1).heap.size = wr.heap.size := rfl
            omega
          · simp; simp only at hlt; omega
          · have h5 : (wr.drewN 1).heap.size ≤ q := hq
            have h6 : (wr.drewN 1).heap.size = wr.heap.size := rfl
            have := (HVL.out q e).2
            omega
        · show w5.ownsRow (E + 1) 25 3 v5 (j + 1) (xs ++ [.int .i64 (kd (if j = j then t4 else kid t j)), .int .i64 (nn (if j = j then t4 else kid t j)), .slice a4 l4 c4])
          rw [if_pos rfl]
          exact hown5)
      have s5 := hg5.size
      rw [World.size_alloc] at s5
      have hfar : ∀ q, q < E + 1 → q < w4.heap.size → w5.heap[q]? = w4.heap[q]? := fun q h1 h2 => (hg5.block q (by simp; omega) (fun e => by have := (HVL.out q e.symm).1; omega)).trans (HA5.out.block q h2)
      have HFar := hid hfar
      have HRow5 := hid (HRow4.out.of_block (hfar E (by omega) (by omega)))
      have HW5 : Hid (w.grownBy w5 (some b)) := hid (grown_far (grown_trans (grown_trans HGr0.out HG4.out) (grown_below' HA5.out)) hg5 (fun g hg => by have := (HVL.out g hg).1; omega))
      have HWB5 : Hid (((w.alloc (.cells #[.int .i64 0, .int .i64 0, .slice none 0 0] 25))).grownBy w5 (some b)) := hid (grown_far (grown_trans (grown_trans HBr.out HG4.out) (grown_below' HA5.out)) hg5 (fun g hg => by have := (HVL.out g hg).1; simp; omega))
      obtain ⟨⟨va5, vc5, hv5⟩, -⟩ := HGr6.out.form
      subst hv5
      clear hown5 hg5 hat5 hfar
      refine hK.out _ _ (HRow5.out.cell (i := 2) (by omega)) (fun hHeld => ?_)
      clear hK K'
      (try simp only [Act.put, List.setIfInBounds_toArray, List.set_cons_zero, List.set_cons_succ])
      refine Goes.take (i := 8) (v := ?vul8) (some 45) hE rfl rfl inv (by kernel_rfl) (by kernel_rfl) (by decide) (fun _ _ _ h => h) (Or.inl ⟨by rfl, ?yul8⟩) (by assumption) (fun inv => ?rul8)
      case yul8 => (intro w' hSw; (try dsimp only at hSw); go_simp; (try with_reducible rfl))
      simp only [Act.put, List.setIfInBounds_toArray, List.set_cons_zero, List.set_cons_succ]
      refine Goes.last (by kernel_rfl) (by kernel_rfl) rfl (fun K' hK => ?_)
      have c2 := HRow5.out.cell (i := 2) (by omega)
      have z2 := HRow5.out.frozen 2
      go_simp
      refine hK.out _ _ ?_
      clear hK K' hHeld c2 z2
      (try simp only [Exit.then])
      have HS6 : Hid (Src (w5.setCell ⟨E, 2, none⟩ (.slice va5 (j + 1) vc5)) b a len cap (k + 2 + (j + 1) * asks (d - 1))) := hid ((src_kept HS4.out (fun q hq => (Below.heap_setCell _ _ _ _ (by dsimp only; omega)).trans (HFar.out q (by omega) (by omega)))).mono (by rw [Nat.succ_mul]; omega))
      have HRow6 : Hid ((w5.setCell ⟨E, 2, none⟩ (.slice va5 (j + 1) vc5)).rowIs E 25 3 (fun i => if i = 0 then .int .i64 (3 + (ρ : Int)) else if i = 1 then .int .i64 0 else .slice va5 (j + 1) vc5)) := hid (World.rowIs.congr (HRow5.out.set 2 _) fun i hi => by
        match i, hi with
        | 0, _ => rfl
        | 1, _ => rfl
        | 2, _ => rfl
        | i + 3, hi => exact absurd hi (by omega))
      have HGr7 : Hid (GrowR (w5.setCell ⟨E, 2, none⟩ (.slice va5 (j + 1) vc5)) (E + 1) (fun _ => False) (.slice va5 (j + 1) vc5) (j + 1) (d - 1) (mkT 0 0 nk fun i => if i = j then t4 else kid t i)) := hid (HGr6.out.from (fun q h1 h2 => Below.heap_setCell _ _ _ _ (by dsimp only; omega)) (by simp [World.setCell]))
      have HW6 : Hid (w.grownBy (w5.setCell ⟨E, 2, none⟩ (.slice va5 (j + 1) vc5)) (some b)) := hid (grown_new HW5.out (by omega) _)
      have HWB6 : Hid (((w.alloc (.cells #[.int .i64 0, .int .i64 0, .slice none 0 0] 25))).grownBy (w5.setCell ⟨E, 2, none⟩ (.slice va5 (j + 1) vc5)) (some b)) := hid (grown_new HWB5.out (by simp; omega) _)
      have HFn : Hid (∀ i, i < j + 1 → FineE (d - 1) (kid (mkT 0 0 nk fun i => if i = j then t4 else kid t i) i)) := hid (fun i hi => by
        show FineE (d - 1) (if i = j then t4 else kid t i)
        by_cases e : i = j
        · rw [if_pos e]; exact HFi4.out
        · rw [if_neg e]; exact HFt.out i (by omega))
      have hs6 : E + 1 ≤ (w5.setCell ⟨E, 2, none⟩ (.slice va5 (j + 1) vc5)).heap.size := by simp [World.setCell]; omega
      go_wp2
      go_roundw
      case rel => exact ⟨j + 1, va5, vc5, _, by omega, by go_num, HRow6.out, HGr7.out, HFn.out, HS6.out, HW6.out, HWB6.out, hs6⟩
      case measure => simp [intOf]; omega
    · obtain rfl : j = nk := by omega
      have HGd := hid (HGr.out.congr (t' := mkT (3 + (ρ : Int)) 0 j fun i => kid t i) (fun i hi => rfl))
      obtain ⟨aF, cF, hvF, hcF, hrF⟩ := HGd.out.done rfl (by omega)
      injection hvF with hv1 hv2 hv3
      subst hv1
      subst hv3
      have HRF : Hid (Rd (fun x => E + 1 ≤ x) 1048576 wr d (mkT (3 + (ρ : Int)) 0 j fun i => kid t i) va j) := hid (by
        have e : d - 1 + 1 = d := by omega
        rw [e] at hrF
        exact hrF.imp fun q hq => by
          rcases hq with ⟨h0, _⟩ | h1
          · exact h0.elim
          · exact h1)
      have HFF : Hid (FineE d (mkT (3 + (ρ : Int)) 0 j fun i => kid t i)) := hid (fine_op (by omega) HK.out (by omega) (by omega) HFt.out)
      have c0 : wr.cell? ⟨E, 0, none⟩ = some (.int .i64 (3 + (ρ : Int))) := HRow.out.cell (i := 0) (by omega)
      have c1 : wr.cell? ⟨E, 1, none⟩ = some (.int .i64 0) := HRow.out.cell (i := 1) (by omega)
      have c2 : wr.cell? ⟨E, 2, none⟩ = some (.slice va j vc) := HRow.out.cell (i := 2) (by omega)
      obtain ⟨⟨q0, q1, q2, z0, z1, z2⟩, hltR⟩ := HBox.out _ HBr.out
      have hjj : decide ((j : Int) < (j : Int)) = false := decide_eq_false (by omega)
      have hmul : j * asks (d - 1) ≤ 3 * asks (d - 1) := Nat.mul_le_mul_right _ hnk2
      clear hv2 hrF hcF hlt
      go_wp2
      refine bodyPost_ret (v := .agg #[.int .i64 (3 + (ρ : Int)), .int .i64 0, .slice va j vc]) (by first | (rw [results_cell rfl]; go_simp; done) | (simp [results, Try.results13]; go_simp; done)) rfl ?_
      refine ⟨mkT (3 + (ρ : Int)) 0 j fun i => kid t i, va, j, vc, rfl, ?_, HFF.out, ?_, grown_new (grown_new (grown_new HGr0.out (Nat.le_refl _) _) (Nat.le_refl _) _) (Nat.le_refl _) _⟩
      · refine HRF.out.kept fun q o u hq hu => ⟨?_, by omega⟩
        rw [World.cell?_setCell_other _ _ _ _ (by simp <;> omega), World.cell?_setCell_other _ _ _ _ (by simp <;> omega), World.cell?_setCell_other _ _ _ _ (by simp <;> omega)]
        exact hu
      · exact (src_kept HSr.out (fun q hq => by rw [Below.heap_setCell _ _ _ _ (by dsimp only; omega), Below.heap_setCell _ _ _ _ (by dsimp only; omega), Below.heap_setCell _ _ _ _ (by dsimp only; omega)])).mono (by omega)
end Go.Proofs.Ytaileckcflnbdaa.exDraw
