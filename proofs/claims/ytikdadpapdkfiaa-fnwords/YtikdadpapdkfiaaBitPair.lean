/- The program's row of what is put together of two rows, place by place; conditions: none. -/
import Derived.Test.YtikdadpapdkfiaaBitSteps
import Derived.Test.YtikdadpapdkfiaaCopySpec
namespace Go.Proofs.Ytikdadpapdkfiaa.bitPair
open Go.RowKit Go.Deep Go base trees built heldStore drawn ownTree ownEx copySpec wordTrees bitRows bitPart bitSteps
set_option linter.unusedVariables false

/-- All blocks that were there are as they were, but for one (or none). -/
structure OthO (C : Option Nat) (w w' : World) : Prop where
  os : w'.os = w.os
  tape : w'.tape = w.tape
  output : w'.output = w.output
  size : w.heap.size ≤ w'.heap.size
  block : ∀ i, i < w.heap.size → some i ≠ C → w'.heap[i]? = w.heap[i]?
theorem OthO.refl (C : Option Nat) (w : World) : OthO C w w := ⟨rfl, rfl, rfl, Nat.le_refl _, fun _ _ _ => rfl⟩
theorem OthO.trans {C : Option Nat} {x y z : World} (h : OthO C x y) (k : OthO C y z) : OthO C x z :=
  ⟨k.os.trans h.os, k.tape.trans h.tape, k.output.trans h.output, Nat.le_trans h.size k.size, fun i hi hn => (k.block i (Nat.lt_of_lt_of_le hi h.size) hn).trans (h.block i hi hn)⟩
theorem OthO.of_below (C : Option Nat) {w w' : World} (hb : Below w.heap.size w w') : OthO C w w' := ⟨hb.os, hb.tape, hb.output, hb.size, fun i hi _ => hb.block i hi⟩
theorem OthO.to_below {w w' : World} (h : OthO none w w') : Below w.heap.size w w' := ⟨h.os, h.tape, h.output, h.size, fun i hi => h.block i hi (by simp)⟩
theorem OthO.under {C : Option Nat} {N : Nat} {w w' : World} (h : OthO C w w') (hN : N ≤ w.heap.size) (hC : ∀ c, C = some c → N ≤ c) : Below N w w' :=
  ⟨h.os, h.tape, h.output, h.size, fun i hi => h.block i (by omega) fun e => by have := hC i e.symm; omega⟩
theorem OthO.cell {C : Option Nat} {w w' : World} (h : OthO C w w') {b o : Nat} {v : Value} (hn : some b ≠ C) (hc : w.cell? ⟨b, o, none⟩ = some v) : w'.cell? ⟨b, o, none⟩ = some v :=
  (World.cell?_of_block (a := ⟨b, o, none⟩) (h.block b (World.block_lt_of_cell? _ _ hc) hn)).trans hc
theorem OthO.grown {C : Option Nat} {x y z : World} {B : Nat} {row : Option Nat} (h : OthO C x y) (g : y.grownBy z row) (hB : x.heap.size ≤ B) (hr : ∀ j, row = some j → B ≤ j) : OthO C x z :=
  have hb := (Below.refl x.heap.size y).grown g (Nat.le_trans (Nat.le_refl _) h.size) (fun j hj => Nat.le_trans hB (hr j hj))
  ⟨hb.os.trans h.os, hb.tape.trans h.tape, hb.output.trans h.output, Nat.le_trans h.size hb.size, fun i hi hn => (hb.block i hi).trans (h.block i hi hn)⟩
/-- Where the expressions of a row that grows may lie. -/
abbrev inQ (Q : Nat → Prop) (B : Nat) (w : World) (v : Value) (b : Nat) : Prop := (Q b ∧ b < B) ∨ (B ≤ b ∧ b < w.heap.size ∧ v.ownBlock ≠ some b)
theorem GrowR.keptO {w w' : World} {B k D : Nat} {Q : Nat → Prop} {v : Value} {t : T} {C : Option Nat} (h : GrowR w B Q v k D t) (ho : OthO C w w') (hQ : ∀ b, Q b → some b ≠ C) (hC : ∀ c, C = some c → c < B) : GrowR w' B Q v k D t := by
  obtain ⟨f, hr, hc⟩ := h
  refine ⟨f, owns_kept hr fun g e => ho.block g (World.ownsRow.lt hr g e).2 fun e' => ?_, fun i hi => (hc i hi).kept fun b o x hq hx => ?_⟩
  · have h1 := hC g e'.symm
    have h2 := (World.ownsRow.lt hr g e).1
    omega
  · refine ⟨ho.cell ?_ hx, hq.imp id fun ⟨h1, h2, h3⟩ => ⟨h1, Nat.lt_of_lt_of_le h2 ho.size, h3⟩⟩
    rcases hq with hq | hq
    · exact hQ b hq.1
    · intro e
      have := hC b e.symm
      omega
/-- What the function literal does at a place of the rows, and what it keeps between the places. -/
def Step (F : Nat) (caps : List Value) (C : Option Nat) (D E : Nat) (A B R : T) (l : Nat) (J : (Nat → Prop) → Nat → World → Prop) : Prop :=
  ∀ (k : Nat), k < l → ∀ (q : Nat → Prop) (w1 : World) (ap aq : Option Addr) (lp lq cp cq : Nat), (∀ b, q b → some b ≠ C) → J q k w1 → Rd q 1048576 w1 D (kid A k) ap lp → Rd q 1048576 w1 D (kid B k) aq lq →
    Calls Try.prog F (#[.agg #[.int .i64 (kd (kid A k)), .int .i64 (nn (kid A k)), .slice ap lp cp], .agg #[.int .i64 (kd (kid B k)), .int .i64 (nn (kid B k)), .slice aq lq cq]] ++ caps.toArray) w1 fun e' w' => ∃ v, e' = .returned v ∧ XV (fun b => q b ∨ w1.heap.size ≤ b) w' E (kid R k) v ∧ OthO C w1 w' ∧ J (fun b => q b ∨ w1.heap.size ≤ b) (k + 1) w'
def Stable (C : Option Nat) (J : (Nat → Prop) → Nat → World → Prop) : Prop := ∀ (q q' : Nat → Prop) (k : Nat) (w1 w2 : World), J q k w1 → (∀ b, q b → b < w1.heap.size → q' b) → (∀ b, b < w1.heap.size → (q b ∨ some b = C) → w2.heap[b]? = w1.heap[b]?) → J q' k w2

set_option maxHeartbeats 3200000 in
set_option maxRecDepth 8000 in
theorem pair_and (Q : Nat → Prop) (C : Option Nat) (D E : Nat) (A B R : T) (aA aB : Option Addr) (l cA cB : Nat) (w : World) (J : (Nat → Prop) → Nat → World → Prop) (hQ : ∀ b, Q b → some b ≠ C) (hC : ∀ c, C = some c → c < w.heap.size)
    (hA : Rd Q 1048576 w (D + 1) A aA l) (hB : Rd Q 1048576 w (D + 1) B aB l) (hR : ln R = l) (hJ0 : J Q 0 w) (hst : Stable C J) (hstep : Step 40 [] C D E A B R l J) :
    Calls Try.prog 39 #[.slice aA l cA, .slice aB l cB, .func (.func 40) #[] #[]] w fun e' w' => ∃ a c, e' = .returned (.slice a l c) ∧ Rd (fun b => Q b ∨ w.heap.size ≤ b) 1048576 w' (E + 1) R a l ∧ OthO C w w' := by
  have hmost := hA.most
  obtain ⟨i0, hi0, hz0, hz1, hz2⟩ := info_parts info_ex
  have HI := hid hi0
  have HZ0 := hid hz0
  have HZ1 := hid hz1
  have HZ2 := hid hz2
  have HA := hid (rd_old hA)
  have HB := hid (rd_old hB)
  have HQ := hid hQ
  have HC := hid hC
  have HJ0 := hid hJ0
  have HST := hid hst
  have HSP := hid hstep
  have HL := hid hR
  clear hA hB hQ hC hJ0 hst hstep hi0 hz0 hz1 hz2 hR
  go_enter Try.func39, Try.ntmps39
  go_wp2
  go_loopw [11, 7] (fun i v wr => ∃ k : Nat, k ≤ l ∧ i = .int .i64 k ∧ OthO C w wr ∧ GrowR wr w.heap.size Q v k E R ∧ J (inQ Q w.heap.size wr v) k wr) (fun i _ _ => l - (intOf i).toNat)
  case atStart => exact ⟨0, Nat.zero_le _, rfl, OthO.refl _ _, GrowR.nil _ _ _ _ _, HST.out _ _ _ _ _ HJ0.out (fun b h1 h2 => .inl ⟨h1, h2⟩) (fun _ _ _ => rfl)⟩
  case round =>
    obtain ⟨k, hk, rfl, ho, hgr, hj⟩ := hrel
    have HO := hid ho
    have HG := hid hgr
    have HJ := hid hj
    clear ho hgr hj
    by_cases hlt : k < l
    · obtain ⟨hd0, bA, offA, rfl, hbA, x0, x1, ax, lx, cx, x2, hx⟩ := HA.out.cell hlt
      obtain ⟨-, bB, offB, rfl, hbB, y0, y1, ay, ly, cy, y2, hy⟩ := HB.out.cell hlt
      have HNA := hid (HQ.out bA hbA.1)
      have HNB := hid (HQ.out bB hbB.1)
      have X0 := hid (HO.out.cell HNA.out x0)
      have X1 := hid (HO.out.cell HNA.out x1)
      have X2 := hid (HO.out.cell HNA.out x2)
      have Y0 := hid (HO.out.cell HNB.out y0)
      have Y1 := hid (HO.out.cell HNB.out y1)
      have Y2 := hid (HO.out.cell HNB.out y2)
      obtain ⟨⟨av, cv, hv⟩, hown⟩ := HG.out.form
      subst hv
      have HX : Hid (Rd (inQ Q w.heap.size wr (.slice av k cv)) 1048576 wr D (kid A k) ax lx) := hx.kept fun b o u hq hu => ⟨HO.out.cell (HQ.out b hq.1) hu, .inl hq⟩
      have HY : Hid (Rd (inQ Q w.heap.size wr (.slice av k cv)) 1048576 wr D (kid B k) ay ly) := hy.kept fun b o u hq hu => ⟨HO.out.cell (HQ.out b hq.1) hu, .inl hq⟩
      have hlA := hbA.2
      have hlB := hbB.2
      have HOwn := hid hown
      have hsw := HO.out.size
      have HNC : Hid (∀ b, inQ Q w.heap.size wr (.slice av k cv) b → some b ≠ C) := fun b hb => by
        rcases hb with hb | hb
        · exact HQ.out b hb.1
        · intro e
          have := HC.out b e.symm
          omega
      clear hx hy x0 x1 x2 y0 y1 y2 hbA hbB hown
      go_wp2
      refine region_goes 13 14 (fun w' => w'.cell? ⟨bA, offA + k * 3, none⟩ = some (.int .i64 (kd (kid A k))) ∧ w'.cell? ⟨bA, offA + k * 3 + 1, none⟩ = some (.int .i64 (nn (kid A k))) ∧ w'.cell? ⟨bA, offA + k * 3 + 2, none⟩ = some (.slice ax lx cx) ∧ w'.cell? ⟨bB, offB + k * 3, none⟩ = some (.int .i64 (kd (kid B k))) ∧ w'.cell? ⟨bB, offB + k * 3 + 1, none⟩ = some (.int .i64 (nn (kid B k))) ∧ w'.cell? ⟨bB, offB + k * 3 + 2, none⟩ = some (.slice ay ly cy)) (by kernel_rfl) (by rfl) ⟨by kernel_rfl, by kernel_rfl, by kernel_rfl, by decide⟩ ⟨X0.out, X1.out, X2.out, Y0.out, Y1.out, Y2.out⟩ (fun hE inv hHeld => ?_)
      refine Goes.take (i := 0) (v := ?vu0) (some 14) hE rfl rfl inv (by kernel_rfl) (by kernel_rfl) (by decide) (fun _ _ _ h => h) (Or.inl ⟨by rfl, ?yu0⟩) (by assumption) (fun inv => ?ru0)
      case yu0 => (intro w' hSw; (try dsimp only at hSw); obtain ⟨s0, s1, s2, s3, s4, s5⟩ := hSw; go_simp; (try with_reducible rfl))
      simp only [Act.put, List.setIfInBounds_toArray, List.set_cons_zero, List.set_cons_succ]
      refine Goes.take (i := 1) (v := ?vu1) (some 15) hE rfl rfl inv (by kernel_rfl) (by kernel_rfl) (by decide) (fun _ _ _ h => h) (Or.inl ⟨by rfl, ?yu1⟩) (by assumption) (fun inv => ?ru1)
      case yu1 => (intro w' hSw; (try dsimp only at hSw); obtain ⟨s0, s1, s2, s3, s4, s5⟩ := hSw; go_simp; (try with_reducible rfl))
      simp only [Act.put, List.setIfInBounds_toArray, List.set_cons_zero, List.set_cons_succ]
      refine Goes.take (i := 2) (v := ?vu2) (some 16) hE rfl rfl inv (by kernel_rfl) (by kernel_rfl) (by decide) (fun _ _ _ h => h) (Or.inl ⟨by rfl, ?yu2⟩) (by assumption) (fun inv => ?ru2)
      case yu2 => (intro w' hSw; (try dsimp only at hSw); obtain ⟨s0, s1, s2, s3, s4, s5⟩ := hSw; go_simp; (try with_reducible rfl))
      simp only [Act.put, List.setIfInBounds_toArray, List.set_cons_zero, List.set_cons_succ]
      refine Goes.take (i := 3) (v := ?vu3) (some 17) hE rfl rfl inv (by kernel_rfl) (by kernel_rfl) (by decide) (fun _ _ _ h => h) (Or.inl ⟨by rfl, ?yu3⟩) (by assumption) (fun inv => ?ru3)
      case yu3 => (intro w' hSw; (try dsimp only at hSw); obtain ⟨s0, s1, s2, s3, s4, s5⟩ := hSw; go_simp; (try with_reducible rfl))
      simp only [Act.put, List.setIfInBounds_toArray, List.set_cons_zero, List.set_cons_succ]
      refine Goes.take (i := 4) (v := ?vu4) (some 18) hE rfl rfl inv (by kernel_rfl) (by kernel_rfl) (by decide) (fun _ _ _ h => h) (Or.inl ⟨by rfl, ?yu4⟩) (by assumption) (fun inv => ?ru4)
      case yu4 => (intro w' hSw; (try dsimp only at hSw); obtain ⟨s0, s1, s2, s3, s4, s5⟩ := hSw; go_simp; (try with_reducible rfl))
      simp only [Act.put, List.setIfInBounds_toArray, List.set_cons_zero, List.set_cons_succ]
      refine Goes.take (i := 5) (v := ?vu5) (some 19) hE rfl rfl inv (by kernel_rfl) (by kernel_rfl) (by decide) (fun _ _ _ h => h) (Or.inl ⟨by rfl, ?yu5⟩) (by assumption) (fun inv => ?ru5)
      case yu5 => (intro w' hSw; (try dsimp only at hSw); obtain ⟨s0, s1, s2, s3, s4, s5⟩ := hSw; go_simp; (try with_reducible rfl))
      simp only [Act.put, List.setIfInBounds_toArray, List.set_cons_zero, List.set_cons_succ]
      refine Goes.take (i := 6) (v := ?vu6) (some 20) hE rfl rfl inv (by kernel_rfl) (by kernel_rfl) (by decide) (fun _ _ _ h => h) (Or.inl ⟨by rfl, ?yu6⟩) (by assumption) (fun inv => ?ru6)
      case yu6 => (intro w' hSw; (try dsimp only at hSw); obtain ⟨s0, s1, s2, s3, s4, s5⟩ := hSw; go_simp; (try with_reducible rfl))
      simp only [Act.put, List.setIfInBounds_toArray, List.set_cons_zero, List.set_cons_succ]
      refine Goes.take (i := 7) (v := ?vu7) (some 21) hE rfl rfl inv (by kernel_rfl) (by kernel_rfl) (by decide) (fun _ _ _ h => h) (Or.inl ⟨by rfl, ?yu7⟩) (by assumption) (fun inv => ?ru7)
      case yu7 => (intro w' hSw; (try dsimp only at hSw); obtain ⟨s0, s1, s2, s3, s4, s5⟩ := hSw; go_simp; (try with_reducible rfl))
      simp only [Act.put, List.setIfInBounds_toArray, List.set_cons_zero, List.set_cons_succ]
      refine Goes.take (i := 8) (v := ?vu8) (some 22) hE rfl rfl inv (by kernel_rfl) (by kernel_rfl) (by decide) (fun _ _ _ h => h) (Or.inl ⟨by rfl, ?yu8⟩) (by assumption) (fun inv => ?ru8)
      case yu8 => (intro w' hSw; (try dsimp only at hSw); obtain ⟨s0, s1, s2, s3, s4, s5⟩ := hSw; go_simp; (try with_reducible rfl))
      simp only [Act.put, List.setIfInBounds_toArray, List.set_cons_zero, List.set_cons_succ]
      refine Goes.take (i := 9) (v := ?vu9) (some 23) hE rfl rfl inv (by kernel_rfl) (by kernel_rfl) (by decide) (fun _ _ _ h => h) (Or.inl ⟨by rfl, ?yu9⟩) (by assumption) (fun inv => ?ru9)
      case yu9 => (intro w' hSw; (try dsimp only at hSw); obtain ⟨s0, s1, s2, s3, s4, s5⟩ := hSw; go_simp; (try with_reducible rfl))
      simp only [Act.put, List.setIfInBounds_toArray, List.set_cons_zero, List.set_cons_succ]
      refine Goes.one (i := 10) inv (by kernel_rfl) (by decide) rfl (fun inv K' hK => ?_)
      go_simp
      refine (HSP.out k hlt (inQ Q w.heap.size wr (.slice av k cv)) _ ax ay lx ly cx cy HNC.out (HST.out _ _ _ _ _ HJ.out (fun b h1 h2 => h1) (fun b h1 _ => (below_drewN wr 1).block b h1)) (HX.out.below (below_drewN _ 1)) (HY.out.below (below_drewN _ 1))).mono ?_
      rintro e w1 ⟨v1, rfl, ⟨a1, l1, c1, r1, rfl⟩, ho1', hj1'⟩
      have HO1 : Hid (OthO C wr w1) := (OthO.of_below C (below_drewN wr 1)).trans ho1'
      have HJ1 : Hid (J (fun b => inQ Q w.heap.size wr (.slice av k cv) b ∨ wr.heap.size ≤ b) (k + 1) w1) := hj1'
      have HR1 : Hid (Rd (fun b => inQ Q w.heap.size wr (.slice av k cv) b ∨ wr.heap.size ≤ b) 1048576 w1 E (kid R k) a1 l1) := r1
      clear ho1' hj1' r1
      (try go_wp2_with fail)
      refine hK.out _ _ ⟨HO1.out.cell HNA.out X0.out, HO1.out.cell HNA.out X1.out, HO1.out.cell HNA.out X2.out, HO1.out.cell HNB.out Y0.out, HO1.out.cell HNB.out Y1.out, HO1.out.cell HNB.out Y2.out⟩ (fun hHeld => ?_)
      clear hK K'
      have HA1 : Hid (Below w1.heap.size w1 (w1.alloc (.cells #[.int .i64 (kd (kid R k)), .int .i64 (nn (kid R k)), .slice a1 l1 c1] 39))) := (by repeat (first | exact Below.refl _ _ | assumption | refine Below.drew ?_ | refine Below.alloc ?_ (by first | exact Nat.le_refl _ | omega | (simp; done) | (simp; omega)) _ | refine Below.setCell ?_ (by first | exact Nat.le_refl _ | omega | (simp; done) | (simp; omega)) _))
      have HOA := hid (HO1.out.trans (OthO.of_below C HA1.out))
      refine Goes.one (i := 11) inv (by kernel_rfl) (by decide) rfl (fun inv K' hK => ?_)
      go_simp
      refine hK.out _ _ ⟨HOA.out.cell HNA.out X0.out, HOA.out.cell HNA.out X1.out, HOA.out.cell HNA.out X2.out, HOA.out.cell HNB.out Y0.out, HOA.out.cell HNB.out Y1.out, HOA.out.cell HNB.out Y2.out⟩ (fun hHeld => ?_)
      clear hK K'
      have HG1 := hid (GrowR.keptO HG.out HOA.out HQ.out HC.out)
      obtain ⟨xs, hxs⟩ := HG1.out.owns
      have HX1 := hid hxs
      have hs1 := HO1.out.size
      clear hxs
      refine Goes.one (i := 12) inv (by kernel_rfl) (by decide) rfl (fun inv K' hK => ?_)
      refine step_append_at _ (by rfl) _ _ 32 (by rfl) (some 26) (by rfl) w.heap.size 39 i0 _ 3 40 Try.underlying32 HI.out HZ0.out HZ1.out HZ2.out rfl (by decide) (.slice av k cv) k xs (by rfl) HX1.out ⟨w1.heap.size, 0, none⟩ 1 1 [.int .i64 (kd (kid R k)), .int .i64 (nn (kid R k)), .slice a1 l1 c1] (by rfl) rfl (three_at (cell_new _ _ _ rfl) (cell_new _ _ _ rfl) (cell_new _ _ _ rfl)) (fun u hu => by simp at hu; rcases hu with rfl | rfl | rfl <;> rfl) (by unfold maxLen; omega) (by omega) (by simp; omega) ?_
      intro v2 w2 hown2 hg2 hat2
      have HG2 := hid (HG1.out.next (a' := a1) (l' := l1) (c' := c1) (by simp; omega) (HR1.out.kept fun b o x hq hx => ⟨keep HA1.out hx, by
        have hlt1 := World.block_lt_of_cell? _ _ hx
        have hlt2 : b < w1.heap.size := hlt1
        rcases hq with (hq | hq) | hq
        · exact .inl hq
        · exact .inr ⟨hq.1, by simp; omega, hq.2.2⟩
        · exact .inr ⟨by omega, by simp; omega, fun e => by have := (HOwn.out b e).2; omega⟩⟩) HX1.out hown2 hg2 hat2)
      have hs2 := hg2.size
      have HJ2 : Hid (J (inQ Q w.heap.size w2 v2) (k + 1) w2) := HST.out _ _ _ _ _ HJ1.out (fun b hq hb => by
          have hne : v2.ownBlock ≠ some b ∨ (Q b ∧ b < w.heap.size) := by
            rcases hq with (hq | hq) | hq
            · exact .inr hq
            · refine .inl fun e => ?_
              rcases hat2 with e2 | e2
              · rw [e2] at e; exact hq.2.2 e
              · rw [e2] at e; injection e with e; simp at e; omega
            · refine .inl fun e => ?_
              rcases hat2 with e2 | e2
              · rw [e2] at e; have := (HOwn.out b e).2; omega
              · rw [e2] at e; injection e with e; simp at e; omega
          simp at hs2
          rcases hq with (hq | hq) | hq
          · exact .inl hq
          · rcases hne with hne | hne
            · exact .inr ⟨hq.1, by omega, hne⟩
            · exact .inl hne
          · rcases hne with hne | hne
            · exact .inr ⟨by omega, by omega, hne⟩
            · exact .inl hne) (fun b hb hq => (hg2.block b (by simp; omega) (fun e => by
          have h1 := HOwn.out b e.symm
          rcases hq with ((hq | hq) | hq) | hq
          · omega
          · exact hq.2.2 e.symm
          · omega
          · have := HC.out b hq.symm; omega)).trans (HA1.out.block b hb))
      have HO2 : Hid (OthO C w w2) := (HO.out.trans HOA.out).grown hg2 (Nat.le_refl _) (fun j hj => (HOwn.out j hj).1)
      have HF2 : Hid (∀ b o u, some b ≠ C → some b ≠ (Value.slice av k cv).ownBlock → wr.cell? ⟨b, o, none⟩ = some u → w2.cell? ⟨b, o, none⟩ = some u) := fun b o u hn hm hu => by
        have h1 := HOA.out.cell hn hu
        exact (World.cell?_of_block (a := ⟨b, o, none⟩) (hg2.block b (World.block_lt_of_cell? _ _ h1) hm)).trans h1
      have hmA : some bA ≠ (Value.slice av k cv).ownBlock := fun e => by have := (HOwn.out bA e.symm).1; omega
      have hmB : some bB ≠ (Value.slice av k cv).ownBlock := fun e => by have := (HOwn.out bB e.symm).1; omega
      clear hown2 hg2 hat2 hs2
      refine hK.out _ _ ⟨HF2.out _ _ _ HNA.out hmA X0.out, HF2.out _ _ _ HNA.out hmA X1.out, HF2.out _ _ _ HNA.out hmA X2.out, HF2.out _ _ _ HNB.out hmB Y0.out, HF2.out _ _ _ HNB.out hmB Y1.out, HF2.out _ _ _ HNB.out hmB Y2.out⟩ (fun hHeld => ?_)
      clear hK K'
      simp only [Act.put, List.setIfInBounds_toArray, List.set_cons_zero, List.set_cons_succ]
      refine Goes.last (by kernel_rfl) (by kernel_rfl) rfl (fun K' hK => ?_)
      go_simp
      refine hK.out _ _ ?_
      clear hK K'
      (try simp only [Exit.inBlock, Exit.then])
      go_wp2
      exact ⟨⟨k + 1, by omega, by go_num, HO2.out, HG2.out, HJ2.out⟩, by simp [intOf]; omega⟩
    · have e : k = l := by omega
      subst e
      obtain ⟨a2, c2, e2, hc2, ho2⟩ := HG.out.done HL.out (by omega)
      subst e2
      have HO2 := hid ho2
      clear ho2
      go_wp2
      go_ret
      exact ⟨a2, c2, rfl, HO2.out.imp fun b hb => hb.imp And.left id, HO.out⟩

set_option maxHeartbeats 3200000 in
set_option maxRecDepth 8000 in
theorem pair_ite (Q : Nat → Prop) (C : Option Nat) (c0 : Nat) (D E : Nat) (A B R : T) (aA aB : Option Addr) (l cA cB : Nat) (w : World) (J : (Nat → Prop) → Nat → World → Prop) (hQ : ∀ b, Q b → some b ≠ C) (hC : ∀ c, C = some c → c < w.heap.size)
    (hA : Rd Q 1048576 w (D + 1) A aA l) (hB : Rd Q 1048576 w (D + 1) B aB l) (hR : ln R = l) (hJ0 : J Q 0 w) (hst : Stable C J) (hstep : Step 43 [.pointer (some ⟨c0, 0, none⟩)] C D E A B R l J) :
    Calls Try.prog 39 #[.slice aA l cA, .slice aB l cB, .func (.func 43) #[] #[.pointer (some ⟨c0, 0, none⟩)]] w fun e' w' => ∃ a c, e' = .returned (.slice a l c) ∧ Rd (fun b => Q b ∨ w.heap.size ≤ b) 1048576 w' (E + 1) R a l ∧ OthO C w w' := by
  have hmost := hA.most
  obtain ⟨i0, hi0, hz0, hz1, hz2⟩ := info_parts info_ex
  have HI := hid hi0
  have HZ0 := hid hz0
  have HZ1 := hid hz1
  have HZ2 := hid hz2
  have HA := hid (rd_old hA)
  have HB := hid (rd_old hB)
  have HQ := hid hQ
  have HC := hid hC
  have HJ0 := hid hJ0
  have HST := hid hst
  have HSP := hid hstep
  have HL := hid hR
  clear hA hB hQ hC hJ0 hst hstep hi0 hz0 hz1 hz2 hR
  go_enter Try.func39, Try.ntmps39
  go_wp2
  go_loopw [11, 7] (fun i v wr => ∃ k : Nat, k ≤ l ∧ i = .int .i64 k ∧ OthO C w wr ∧ GrowR wr w.heap.size Q v k E R ∧ J (inQ Q w.heap.size wr v) k wr) (fun i _ _ => l - (intOf i).toNat)
  case atStart => exact ⟨0, Nat.zero_le _, rfl, OthO.refl _ _, GrowR.nil _ _ _ _ _, HST.out _ _ _ _ _ HJ0.out (fun b h1 h2 => .inl ⟨h1, h2⟩) (fun _ _ _ => rfl)⟩
  case round =>
    obtain ⟨k, hk, rfl, ho, hgr, hj⟩ := hrel
    have HO := hid ho
    have HG := hid hgr
    have HJ := hid hj
    clear ho hgr hj
    by_cases hlt : k < l
    · obtain ⟨hd0, bA, offA, rfl, hbA, x0, x1, ax, lx, cx, x2, hx⟩ := HA.out.cell hlt
      obtain ⟨-, bB, offB, rfl, hbB, y0, y1, ay, ly, cy, y2, hy⟩ := HB.out.cell hlt
      have HNA := hid (HQ.out bA hbA.1)
      have HNB := hid (HQ.out bB hbB.1)
      have X0 := hid (HO.out.cell HNA.out x0)
      have X1 := hid (HO.out.cell HNA.out x1)
      have X2 := hid (HO.out.cell HNA.out x2)
      have Y0 := hid (HO.out.cell HNB.out y0)
      have Y1 := hid (HO.out.cell HNB.out y1)
      have Y2 := hid (HO.out.cell HNB.out y2)
      obtain ⟨⟨av, cv, hv⟩, hown⟩ := HG.out.form
      subst hv
      have HX : Hid (Rd (inQ Q w.heap.size wr (.slice av k cv)) 1048576 wr D (kid A k) ax lx) := hx.kept fun b o u hq hu => ⟨HO.out.cell (HQ.out b hq.1) hu, .inl hq⟩
      have HY : Hid (Rd (inQ Q w.heap.size wr (.slice av k cv)) 1048576 wr D (kid B k) ay ly) := hy.kept fun b o u hq hu => ⟨HO.out.cell (HQ.out b hq.1) hu, .inl hq⟩
      have hlA := hbA.2
      have hlB := hbB.2
      have HOwn := hid hown
      have hsw := HO.out.size
      have HNC : Hid (∀ b, inQ Q w.heap.size wr (.slice av k cv) b → some b ≠ C) := fun b hb => by
        rcases hb with hb | hb
        · exact HQ.out b hb.1
        · intro e
          have := HC.out b e.symm
          omega
      clear hx hy x0 x1 x2 y0 y1 y2 hbA hbB hown
      go_wp2
      refine region_goes 13 14 (fun w' => w'.cell? ⟨bA, offA + k * 3, none⟩ = some (.int .i64 (kd (kid A k))) ∧ w'.cell? ⟨bA, offA + k * 3 + 1, none⟩ = some (.int .i64 (nn (kid A k))) ∧ w'.cell? ⟨bA, offA + k * 3 + 2, none⟩ = some (.slice ax lx cx) ∧ w'.cell? ⟨bB, offB + k * 3, none⟩ = some (.int .i64 (kd (kid B k))) ∧ w'.cell? ⟨bB, offB + k * 3 + 1, none⟩ = some (.int .i64 (nn (kid B k))) ∧ w'.cell? ⟨bB, offB + k * 3 + 2, none⟩ = some (.slice ay ly cy)) (by kernel_rfl) (by rfl) ⟨by kernel_rfl, by kernel_rfl, by kernel_rfl, by decide⟩ ⟨X0.out, X1.out, X2.out, Y0.out, Y1.out, Y2.out⟩ (fun hE inv hHeld => ?_)
      refine Goes.take (i := 0) (v := ?vu0) (some 14) hE rfl rfl inv (by kernel_rfl) (by kernel_rfl) (by decide) (fun _ _ _ h => h) (Or.inl ⟨by rfl, ?yu0⟩) (by assumption) (fun inv => ?ru0)
      case yu0 => (intro w' hSw; (try dsimp only at hSw); obtain ⟨s0, s1, s2, s3, s4, s5⟩ := hSw; go_simp; (try with_reducible rfl))
      simp only [Act.put, List.setIfInBounds_toArray, List.set_cons_zero, List.set_cons_succ]
      refine Goes.take (i := 1) (v := ?vu1) (some 15) hE rfl rfl inv (by kernel_rfl) (by kernel_rfl) (by decide) (fun _ _ _ h => h) (Or.inl ⟨by rfl, ?yu1⟩) (by assumption) (fun inv => ?ru1)
      case yu1 => (intro w' hSw; (try dsimp only at hSw); obtain ⟨s0, s1, s2, s3, s4, s5⟩ := hSw; go_simp; (try with_reducible rfl))
      simp only [Act.put, List.setIfInBounds_toArray, List.set_cons_zero, List.set_cons_succ]
      refine Goes.take (i := 2) (v := ?vu2) (some 16) hE rfl rfl inv (by kernel_rfl) (by kernel_rfl) (by decide) (fun _ _ _ h => h) (Or.inl ⟨by rfl, ?yu2⟩) (by assumption) (fun inv => ?ru2)
      case yu2 => (intro w' hSw; (try dsimp only at hSw); obtain ⟨s0, s1, s2, s3, s4, s5⟩ := hSw; go_simp; (try with_reducible rfl))
      simp only [Act.put, List.setIfInBounds_toArray, List.set_cons_zero, List.set_cons_succ]
      refine Goes.take (i := 3) (v := ?vu3) (some 17) hE rfl rfl inv (by kernel_rfl) (by kernel_rfl) (by decide) (fun _ _ _ h => h) (Or.inl ⟨by rfl, ?yu3⟩) (by assumption) (fun inv => ?ru3)
      case yu3 => (intro w' hSw; (try dsimp only at hSw); obtain ⟨s0, s1, s2, s3, s4, s5⟩ := hSw; go_simp; (try with_reducible rfl))
      simp only [Act.put, List.setIfInBounds_toArray, List.set_cons_zero, List.set_cons_succ]
      refine Goes.take (i := 4) (v := ?vu4) (some 18) hE rfl rfl inv (by kernel_rfl) (by kernel_rfl) (by decide) (fun _ _ _ h => h) (Or.inl ⟨by rfl, ?yu4⟩) (by assumption) (fun inv => ?ru4)
      case yu4 => (intro w' hSw; (try dsimp only at hSw); obtain ⟨s0, s1, s2, s3, s4, s5⟩ := hSw; go_simp; (try with_reducible rfl))
      simp only [Act.put, List.setIfInBounds_toArray, List.set_cons_zero, List.set_cons_succ]
      refine Goes.take (i := 5) (v := ?vu5) (some 19) hE rfl rfl inv (by kernel_rfl) (by kernel_rfl) (by decide) (fun _ _ _ h => h) (Or.inl ⟨by rfl, ?yu5⟩) (by assumption) (fun inv => ?ru5)
      case yu5 => (intro w' hSw; (try dsimp only at hSw); obtain ⟨s0, s1, s2, s3, s4, s5⟩ := hSw; go_simp; (try with_reducible rfl))
      simp only [Act.put, List.setIfInBounds_toArray, List.set_cons_zero, List.set_cons_succ]
      refine Goes.take (i := 6) (v := ?vu6) (some 20) hE rfl rfl inv (by kernel_rfl) (by kernel_rfl) (by decide) (fun _ _ _ h => h) (Or.inl ⟨by rfl, ?yu6⟩) (by assumption) (fun inv => ?ru6)
      case yu6 => (intro w' hSw; (try dsimp only at hSw); obtain ⟨s0, s1, s2, s3, s4, s5⟩ := hSw; go_simp; (try with_reducible rfl))
      simp only [Act.put, List.setIfInBounds_toArray, List.set_cons_zero, List.set_cons_succ]
      refine Goes.take (i := 7) (v := ?vu7) (some 21) hE rfl rfl inv (by kernel_rfl) (by kernel_rfl) (by decide) (fun _ _ _ h => h) (Or.inl ⟨by rfl, ?yu7⟩) (by assumption) (fun inv => ?ru7)
      case yu7 => (intro w' hSw; (try dsimp only at hSw); obtain ⟨s0, s1, s2, s3, s4, s5⟩ := hSw; go_simp; (try with_reducible rfl))
      simp only [Act.put, List.setIfInBounds_toArray, List.set_cons_zero, List.set_cons_succ]
      refine Goes.take (i := 8) (v := ?vu8) (some 22) hE rfl rfl inv (by kernel_rfl) (by kernel_rfl) (by decide) (fun _ _ _ h => h) (Or.inl ⟨by rfl, ?yu8⟩) (by assumption) (fun inv => ?ru8)
      case yu8 => (intro w' hSw; (try dsimp only at hSw); obtain ⟨s0, s1, s2, s3, s4, s5⟩ := hSw; go_simp; (try with_reducible rfl))
      simp only [Act.put, List.setIfInBounds_toArray, List.set_cons_zero, List.set_cons_succ]
      refine Goes.take (i := 9) (v := ?vu9) (some 23) hE rfl rfl inv (by kernel_rfl) (by kernel_rfl) (by decide) (fun _ _ _ h => h) (Or.inl ⟨by rfl, ?yu9⟩) (by assumption) (fun inv => ?ru9)
      case yu9 => (intro w' hSw; (try dsimp only at hSw); obtain ⟨s0, s1, s2, s3, s4, s5⟩ := hSw; go_simp; (try with_reducible rfl))
      simp only [Act.put, List.setIfInBounds_toArray, List.set_cons_zero, List.set_cons_succ]
      refine Goes.one (i := 10) inv (by kernel_rfl) (by decide) rfl (fun inv K' hK => ?_)
      go_simp
      refine (HSP.out k hlt (inQ Q w.heap.size wr (.slice av k cv)) _ ax ay lx ly cx cy HNC.out (HST.out _ _ _ _ _ HJ.out (fun b h1 h2 => h1) (fun b h1 _ => (below_drewN wr 1).block b h1)) (HX.out.below (below_drewN _ 1)) (HY.out.below (below_drewN _ 1))).mono ?_
      rintro e w1 ⟨v1, rfl, ⟨a1, l1, c1, r1, rfl⟩, ho1', hj1'⟩
      have HO1 : Hid (OthO C wr w1) := (OthO.of_below C (below_drewN wr 1)).trans ho1'
      have HJ1 : Hid (J (fun b => inQ Q w.heap.size wr (.slice av k cv) b ∨ wr.heap.size ≤ b) (k + 1) w1) := hj1'
      have HR1 : Hid (Rd (fun b => inQ Q w.heap.size wr (.slice av k cv) b ∨ wr.heap.size ≤ b) 1048576 w1 E (kid R k) a1 l1) := r1
      clear ho1' hj1' r1
      (try go_wp2_with fail)
      refine hK.out _ _ ⟨HO1.out.cell HNA.out X0.out, HO1.out.cell HNA.out X1.out, HO1.out.cell HNA.out X2.out, HO1.out.cell HNB.out Y0.out, HO1.out.cell HNB.out Y1.out, HO1.out.cell HNB.out Y2.out⟩ (fun hHeld => ?_)
      clear hK K'
      have HA1 : Hid (Below w1.heap.size w1 (w1.alloc (.cells #[.int .i64 (kd (kid R k)), .int .i64 (nn (kid R k)), .slice a1 l1 c1] 39))) := (by repeat (first | exact Below.refl _ _ | assumption | refine Below.drew ?_ | refine Below.alloc ?_ (by first | exact Nat.le_refl _ | omega | (simp; done) | (simp; omega)) _ | refine Below.setCell ?_ (by first | exact Nat.le_refl _ | omega | (simp; done) | (simp; omega)) _))
      have HOA := hid (HO1.out.trans (OthO.of_below C HA1.out))
      refine Goes.one (i := 11) inv (by kernel_rfl) (by decide) rfl (fun inv K' hK => ?_)
      go_simp
      refine hK.out _ _ ⟨HOA.out.cell HNA.out X0.out, HOA.out.cell HNA.out X1.out, HOA.out.cell HNA.out X2.out, HOA.out.cell HNB.out Y0.out, HOA.out.cell HNB.out Y1.out, HOA.out.cell HNB.out Y2.out⟩ (fun hHeld => ?_)
      clear hK K'
      have HG1 := hid (GrowR.keptO HG.out HOA.out HQ.out HC.out)
      obtain ⟨xs, hxs⟩ := HG1.out.owns
      have HX1 := hid hxs
      have hs1 := HO1.out.size
      clear hxs
      refine Goes.one (i := 12) inv (by kernel_rfl) (by decide) rfl (fun inv K' hK => ?_)
      refine step_append_at _ (by rfl) _ _ 32 (by rfl) (some 26) (by rfl) w.heap.size 39 i0 _ 3 40 Try.underlying32 HI.out HZ0.out HZ1.out HZ2.out rfl (by decide) (.slice av k cv) k xs (by rfl) HX1.out ⟨w1.heap.size, 0, none⟩ 1 1 [.int .i64 (kd (kid R k)), .int .i64 (nn (kid R k)), .slice a1 l1 c1] (by rfl) rfl (three_at (cell_new _ _ _ rfl) (cell_new _ _ _ rfl) (cell_new _ _ _ rfl)) (fun u hu => by simp at hu; rcases hu with rfl | rfl | rfl <;> rfl) (by unfold maxLen; omega) (by omega) (by simp; omega) ?_
      intro v2 w2 hown2 hg2 hat2
      have HG2 := hid (HG1.out.next (a' := a1) (l' := l1) (c' := c1) (by simp; omega) (HR1.out.kept fun b o x hq hx => ⟨keep HA1.out hx, by
        have hlt1 := World.block_lt_of_cell? _ _ hx
        have hlt2 : b < w1.heap.size := hlt1
        rcases hq with (hq | hq) | hq
        · exact .inl hq
        · exact .inr ⟨hq.1, by simp; omega, hq.2.2⟩
        · exact .inr ⟨by omega, by simp; omega, fun e => by have := (HOwn.out b e).2; omega⟩⟩) HX1.out hown2 hg2 hat2)
      have hs2 := hg2.size
      have HJ2 : Hid (J (inQ Q w.heap.size w2 v2) (k + 1) w2) := HST.out _ _ _ _ _ HJ1.out (fun b hq hb => by
          have hne : v2.ownBlock ≠ some b ∨ (Q b ∧ b < w.heap.size) := by
            rcases hq with (hq | hq) | hq
            · exact .inr hq
            · refine .inl fun e => ?_
              rcases hat2 with e2 | e2
              · rw [e2] at e; exact hq.2.2 e
              · rw [e2] at e; injection e with e; simp at e; omega
            · refine .inl fun e => ?_
              rcases hat2 with e2 | e2
              · rw [e2] at e; have := (HOwn.out b e).2; omega
              · rw [e2] at e; injection e with e; simp at e; omega
          simp at hs2
          rcases hq with (hq | hq) | hq
          · exact .inl hq
          · rcases hne with hne | hne
            · exact .inr ⟨hq.1, by omega, hne⟩
            · exact .inl hne
          · rcases hne with hne | hne
            · exact .inr ⟨by omega, by omega, hne⟩
            · exact .inl hne) (fun b hb hq => (hg2.block b (by simp; omega) (fun e => by
          have h1 := HOwn.out b e.symm
          rcases hq with ((hq | hq) | hq) | hq
          · omega
          · exact hq.2.2 e.symm
          · omega
          · have := HC.out b hq.symm; omega)).trans (HA1.out.block b hb))
      have HO2 : Hid (OthO C w w2) := (HO.out.trans HOA.out).grown hg2 (Nat.le_refl _) (fun j hj => (HOwn.out j hj).1)
      have HF2 : Hid (∀ b o u, some b ≠ C → some b ≠ (Value.slice av k cv).ownBlock → wr.cell? ⟨b, o, none⟩ = some u → w2.cell? ⟨b, o, none⟩ = some u) := fun b o u hn hm hu => by
        have h1 := HOA.out.cell hn hu
        exact (World.cell?_of_block (a := ⟨b, o, none⟩) (hg2.block b (World.block_lt_of_cell? _ _ h1) hm)).trans h1
      have hmA : some bA ≠ (Value.slice av k cv).ownBlock := fun e => by have := (HOwn.out bA e.symm).1; omega
      have hmB : some bB ≠ (Value.slice av k cv).ownBlock := fun e => by have := (HOwn.out bB e.symm).1; omega
      clear hown2 hg2 hat2 hs2
      refine hK.out _ _ ⟨HF2.out _ _ _ HNA.out hmA X0.out, HF2.out _ _ _ HNA.out hmA X1.out, HF2.out _ _ _ HNA.out hmA X2.out, HF2.out _ _ _ HNB.out hmB Y0.out, HF2.out _ _ _ HNB.out hmB Y1.out, HF2.out _ _ _ HNB.out hmB Y2.out⟩ (fun hHeld => ?_)
      clear hK K'
      simp only [Act.put, List.setIfInBounds_toArray, List.set_cons_zero, List.set_cons_succ]
      refine Goes.last (by kernel_rfl) (by kernel_rfl) rfl (fun K' hK => ?_)
      go_simp
      refine hK.out _ _ ?_
      clear hK K'
      (try simp only [Exit.inBlock, Exit.then])
      go_wp2
      exact ⟨⟨k + 1, by omega, by go_num, HO2.out, HG2.out, HJ2.out⟩, by simp [intOf]; omega⟩
    · have e : k = l := by omega
      subst e
      obtain ⟨a2, c2, e2, hc2, ho2⟩ := HG.out.done HL.out (by omega)
      subst e2
      have HO2 := hid ho2
      clear ho2
      go_wp2
      go_ret
      exact ⟨a2, c2, rfl, HO2.out.imp fun b hb => hb.imp And.left id, HO.out⟩

set_option maxHeartbeats 3200000 in
set_option maxRecDepth 8000 in
theorem pair_sum (Q : Nat → Prop) (C : Option Nat) (c0 : Nat) (D E : Nat) (A B R : T) (aA aB : Option Addr) (l cA cB : Nat) (w : World) (J : (Nat → Prop) → Nat → World → Prop) (hQ : ∀ b, Q b → some b ≠ C) (hC : ∀ c, C = some c → c < w.heap.size)
    (hA : Rd Q 1048576 w (D + 1) A aA l) (hB : Rd Q 1048576 w (D + 1) B aB l) (hR : ln R = l) (hJ0 : J Q 0 w) (hst : Stable C J) (hstep : Step 56 [.pointer (some ⟨c0, 0, none⟩)] C D E A B R l J) :
    Calls Try.prog 39 #[.slice aA l cA, .slice aB l cB, .func (.func 56) #[] #[.pointer (some ⟨c0, 0, none⟩)]] w fun e' w' => ∃ a c, e' = .returned (.slice a l c) ∧ Rd (fun b => Q b ∨ w.heap.size ≤ b) 1048576 w' (E + 1) R a l ∧ OthO C w w' := by
  have hmost := hA.most
  obtain ⟨i0, hi0, hz0, hz1, hz2⟩ := info_parts info_ex
  have HI := hid hi0
  have HZ0 := hid hz0
  have HZ1 := hid hz1
  have HZ2 := hid hz2
  have HA := hid (rd_old hA)
  have HB := hid (rd_old hB)
  have HQ := hid hQ
  have HC := hid hC
  have HJ0 := hid hJ0
  have HST := hid hst
  have HSP := hid hstep
  have HL := hid hR
  clear hA hB hQ hC hJ0 hst hstep hi0 hz0 hz1 hz2 hR
  go_enter Try.func39, Try.ntmps39
  go_wp2
  go_loopw [11, 7] (fun i v wr => ∃ k : Nat, k ≤ l ∧ i = .int .i64 k ∧ OthO C w wr ∧ GrowR wr w.heap.size Q v k E R ∧ J (inQ Q w.heap.size wr v) k wr) (fun i _ _ => l - (intOf i).toNat)
  case atStart => exact ⟨0, Nat.zero_le _, rfl, OthO.refl _ _, GrowR.nil _ _ _ _ _, HST.out _ _ _ _ _ HJ0.out (fun b h1 h2 => .inl ⟨h1, h2⟩) (fun _ _ _ => rfl)⟩
  case round =>
    obtain ⟨k, hk, rfl, ho, hgr, hj⟩ := hrel
    have HO := hid ho
    have HG := hid hgr
    have HJ := hid hj
    clear ho hgr hj
    by_cases hlt : k < l
    · obtain ⟨hd0, bA, offA, rfl, hbA, x0, x1, ax, lx, cx, x2, hx⟩ := HA.out.cell hlt
      obtain ⟨-, bB, offB, rfl, hbB, y0, y1, ay, ly, cy, y2, hy⟩ := HB.out.cell hlt
      have HNA := hid (HQ.out bA hbA.1)
      have HNB := hid (HQ.out bB hbB.1)
      have X0 := hid (HO.out.cell HNA.out x0)
      have X1 := hid (HO.out.cell HNA.out x1)
      have X2 := hid (HO.out.cell HNA.out x2)
      have Y0 := hid (HO.out.cell HNB.out y0)
      have Y1 := hid (HO.out.cell HNB.out y1)
      have Y2 := hid (HO.out.cell HNB.out y2)
      obtain ⟨⟨av, cv, hv⟩, hown⟩ := HG.out.form
      subst hv
      have HX : Hid (Rd (inQ Q w.heap.size wr (.slice av k cv)) 1048576 wr D (kid A k) ax lx) := hx.kept fun b o u hq hu => ⟨HO.out.cell (HQ.out b hq.1) hu, .inl hq⟩
      have HY : Hid (Rd (inQ Q w.heap.size wr (.slice av k cv)) 1048576 wr D (kid B k) ay ly) := hy.kept fun b o u hq hu => ⟨HO.out.cell (HQ.out b hq.1) hu, .inl hq⟩
      have hlA := hbA.2
      have hlB := hbB.2
      have HOwn := hid hown
      have hsw := HO.out.size
      have HNC : Hid (∀ b, inQ Q w.heap.size wr (.slice av k cv) b → some b ≠ C) := fun b hb => by
        rcases hb with hb | hb
        · exact HQ.out b hb.1
        · intro e
          have := HC.out b e.symm
          omega
      clear hx hy x0 x1 x2 y0 y1 y2 hbA hbB hown
      go_wp2
      refine region_goes 13 14 (fun w' => w'.cell? ⟨bA, offA + k * 3, none⟩ = some (.int .i64 (kd (kid A k))) ∧ w'.cell? ⟨bA, offA + k * 3 + 1, none⟩ = some (.int .i64 (nn (kid A k))) ∧ w'.cell? ⟨bA, offA + k * 3 + 2, none⟩ = some (.slice ax lx cx) ∧ w'.cell? ⟨bB, offB + k * 3, none⟩ = some (.int .i64 (kd (kid B k))) ∧ w'.cell? ⟨bB, offB + k * 3 + 1, none⟩ = some (.int .i64 (nn (kid B k))) ∧ w'.cell? ⟨bB, offB + k * 3 + 2, none⟩ = some (.slice ay ly cy)) (by kernel_rfl) (by rfl) ⟨by kernel_rfl, by kernel_rfl, by kernel_rfl, by decide⟩ ⟨X0.out, X1.out, X2.out, Y0.out, Y1.out, Y2.out⟩ (fun hE inv hHeld => ?_)
      refine Goes.take (i := 0) (v := ?vu0) (some 14) hE rfl rfl inv (by kernel_rfl) (by kernel_rfl) (by decide) (fun _ _ _ h => h) (Or.inl ⟨by rfl, ?yu0⟩) (by assumption) (fun inv => ?ru0)
      case yu0 => (intro w' hSw; (try dsimp only at hSw); obtain ⟨s0, s1, s2, s3, s4, s5⟩ := hSw; go_simp; (try with_reducible rfl))
      simp only [Act.put, List.setIfInBounds_toArray, List.set_cons_zero, List.set_cons_succ]
      refine Goes.take (i := 1) (v := ?vu1) (some 15) hE rfl rfl inv (by kernel_rfl) (by kernel_rfl) (by decide) (fun _ _ _ h => h) (Or.inl ⟨by rfl, ?yu1⟩) (by assumption) (fun inv => ?ru1)
      case yu1 => (intro w' hSw; (try dsimp only at hSw); obtain ⟨s0, s1, s2, s3, s4, s5⟩ := hSw; go_simp; (try with_reducible rfl))
      simp only [Act.put, List.setIfInBounds_toArray, List.set_cons_zero, List.set_cons_succ]
      refine Goes.take (i := 2) (v := ?vu2) (some 16) hE rfl rfl inv (by kernel_rfl) (by kernel_rfl) (by decide) (fun _ _ _ h => h) (Or.inl ⟨by rfl, ?yu2⟩) (by assumption) (fun inv => ?ru2)
      case yu2 => (intro w' hSw; (try dsimp only at hSw); obtain ⟨s0, s1, s2, s3, s4, s5⟩ := hSw; go_simp; (try with_reducible rfl))
      simp only [Act.put, List.setIfInBounds_toArray, List.set_cons_zero, List.set_cons_succ]
      refine Goes.take (i := 3) (v := ?vu3) (some 17) hE rfl rfl inv (by kernel_rfl) (by kernel_rfl) (by decide) (fun _ _ _ h => h) (Or.inl ⟨by rfl, ?yu3⟩) (by assumption) (fun inv => ?ru3)
      case yu3 => (intro w' hSw; (try dsimp only at hSw); obtain ⟨s0, s1, s2, s3, s4, s5⟩ := hSw; go_simp; (try with_reducible rfl))
      simp only [Act.put, List.setIfInBounds_toArray, List.set_cons_zero, List.set_cons_succ]
      refine Goes.take (i := 4) (v := ?vu4) (some 18) hE rfl rfl inv (by kernel_rfl) (by kernel_rfl) (by decide) (fun _ _ _ h => h) (Or.inl ⟨by rfl, ?yu4⟩) (by assumption) (fun inv => ?ru4)
      case yu4 => (intro w' hSw; (try dsimp only at hSw); obtain ⟨s0, s1, s2, s3, s4, s5⟩ := hSw; go_simp; (try with_reducible rfl))
      simp only [Act.put, List.setIfInBounds_toArray, List.set_cons_zero, List.set_cons_succ]
      refine Goes.take (i := 5) (v := ?vu5) (some 19) hE rfl rfl inv (by kernel_rfl) (by kernel_rfl) (by decide) (fun _ _ _ h => h) (Or.inl ⟨by rfl, ?yu5⟩) (by assumption) (fun inv => ?ru5)
      case yu5 => (intro w' hSw; (try dsimp only at hSw); obtain ⟨s0, s1, s2, s3, s4, s5⟩ := hSw; go_simp; (try with_reducible rfl))
      simp only [Act.put, List.setIfInBounds_toArray, List.set_cons_zero, List.set_cons_succ]
      refine Goes.take (i := 6) (v := ?vu6) (some 20) hE rfl rfl inv (by kernel_rfl) (by kernel_rfl) (by decide) (fun _ _ _ h => h) (Or.inl ⟨by rfl, ?yu6⟩) (by assumption) (fun inv => ?ru6)
      case yu6 => (intro w' hSw; (try dsimp only at hSw); obtain ⟨s0, s1, s2, s3, s4, s5⟩ := hSw; go_simp; (try with_reducible rfl))
      simp only [Act.put, List.setIfInBounds_toArray, List.set_cons_zero, List.set_cons_succ]
      refine Goes.take (i := 7) (v := ?vu7) (some 21) hE rfl rfl inv (by kernel_rfl) (by kernel_rfl) (by decide) (fun _ _ _ h => h) (Or.inl ⟨by rfl, ?yu7⟩) (by assumption) (fun inv => ?ru7)
      case yu7 => (intro w' hSw; (try dsimp only at hSw); obtain ⟨s0, s1, s2, s3, s4, s5⟩ := hSw; go_simp; (try with_reducible rfl))
      simp only [Act.put, List.setIfInBounds_toArray, List.set_cons_zero, List.set_cons_succ]
      refine Goes.take (i := 8) (v := ?vu8) (some 22) hE rfl rfl inv (by kernel_rfl) (by kernel_rfl) (by decide) (fun _ _ _ h => h) (Or.inl ⟨by rfl, ?yu8⟩) (by assumption) (fun inv => ?ru8)
      case yu8 => (intro w' hSw; (try dsimp only at hSw); obtain ⟨s0, s1, s2, s3, s4, s5⟩ := hSw; go_simp; (try with_reducible rfl))
      simp only [Act.put, List.setIfInBounds_toArray, List.set_cons_zero, List.set_cons_succ]
      refine Goes.take (i := 9) (v := ?vu9) (some 23) hE rfl rfl inv (by kernel_rfl) (by kernel_rfl) (by decide) (fun _ _ _ h => h) (Or.inl ⟨by rfl, ?yu9⟩) (by assumption) (fun inv => ?ru9)
      case yu9 => (intro w' hSw; (try dsimp only at hSw); obtain ⟨s0, s1, s2, s3, s4, s5⟩ := hSw; go_simp; (try with_reducible rfl))
      simp only [Act.put, List.setIfInBounds_toArray, List.set_cons_zero, List.set_cons_succ]
      refine Goes.one (i := 10) inv (by kernel_rfl) (by decide) rfl (fun inv K' hK => ?_)
      go_simp
      refine (HSP.out k hlt (inQ Q w.heap.size wr (.slice av k cv)) _ ax ay lx ly cx cy HNC.out (HST.out _ _ _ _ _ HJ.out (fun b h1 h2 => h1) (fun b h1 _ => (below_drewN wr 1).block b h1)) (HX.out.below (below_drewN _ 1)) (HY.out.below (below_drewN _ 1))).mono ?_
      rintro e w1 ⟨v1, rfl, ⟨a1, l1, c1, r1, rfl⟩, ho1', hj1'⟩
      have HO1 : Hid (OthO C wr w1) := (OthO.of_below C (below_drewN wr 1)).trans ho1'
      have HJ1 : Hid (J (fun b => inQ Q w.heap.size wr (.slice av k cv) b ∨ wr.heap.size ≤ b) (k + 1) w1) := hj1'
      have HR1 : Hid (Rd (fun b => inQ Q w.heap.size wr (.slice av k cv) b ∨ wr.heap.size ≤ b) 1048576 w1 E (kid R k) a1 l1) := r1
      clear ho1' hj1' r1
      (try go_wp2_with fail)
      refine hK.out _ _ ⟨HO1.out.cell HNA.out X0.out, HO1.out.cell HNA.out X1.out, HO1.out.cell HNA.out X2.out, HO1.out.cell HNB.out Y0.out, HO1.out.cell HNB.out Y1.out, HO1.out.cell HNB.out Y2.out⟩ (fun hHeld => ?_)
      clear hK K'
      have HA1 : Hid (Below w1.heap.size w1 (w1.alloc (.cells #[.int .i64 (kd (kid R k)), .int .i64 (nn (kid R k)), .slice a1 l1 c1] 39))) := (by repeat (first | exact Below.refl _ _ | assumption | refine Below.drew ?_ | refine Below.alloc ?_ (by first | exact Nat.le_refl _ | omega | (simp; done) | (simp; omega)) _ | refine Below.setCell ?_ (by first | exact Nat.le_refl _ | omega | (simp; done) | (simp; omega)) _))
      have HOA := hid (HO1.out.trans (OthO.of_below C HA1.out))
      refine Goes.one (i := 11) inv (by kernel_rfl) (by decide) rfl (fun inv K' hK => ?_)
      go_simp
      refine hK.out _ _ ⟨HOA.out.cell HNA.out X0.out, HOA.out.cell HNA.out X1.out, HOA.out.cell HNA.out X2.out, HOA.out.cell HNB.out Y0.out, HOA.out.cell HNB.out Y1.out, HOA.out.cell HNB.out Y2.out⟩ (fun hHeld => ?_)
      clear hK K'
      have HG1 := hid (GrowR.keptO HG.out HOA.out HQ.out HC.out)
      obtain ⟨xs, hxs⟩ := HG1.out.owns
      have HX1 := hid hxs
      have hs1 := HO1.out.size
      clear hxs
      refine Goes.one (i := 12) inv (by kernel_rfl) (by decide) rfl (fun inv K' hK => ?_)
      refine step_append_at _ (by rfl) _ _ 32 (by rfl) (some 26) (by rfl) w.heap.size 39 i0 _ 3 40 Try.underlying32 HI.out HZ0.out HZ1.out HZ2.out rfl (by decide) (.slice av k cv) k xs (by rfl) HX1.out ⟨w1.heap.size, 0, none⟩ 1 1 [.int .i64 (kd (kid R k)), .int .i64 (nn (kid R k)), .slice a1 l1 c1] (by rfl) rfl (three_at (cell_new _ _ _ rfl) (cell_new _ _ _ rfl) (cell_new _ _ _ rfl)) (fun u hu => by simp at hu; rcases hu with rfl | rfl | rfl <;> rfl) (by unfold maxLen; omega) (by omega) (by simp; omega) ?_
      intro v2 w2 hown2 hg2 hat2
      have HG2 := hid (HG1.out.next (a' := a1) (l' := l1) (c' := c1) (by simp; omega) (HR1.out.kept fun b o x hq hx => ⟨keep HA1.out hx, by
        have hlt1 := World.block_lt_of_cell? _ _ hx
        have hlt2 : b < w1.heap.size := hlt1
        rcases hq with (hq | hq) | hq
        · exact .inl hq
        · exact .inr ⟨hq.1, by simp; omega, hq.2.2⟩
        · exact .inr ⟨by omega, by simp; omega, fun e => by have := (HOwn.out b e).2; omega⟩⟩) HX1.out hown2 hg2 hat2)
      have hs2 := hg2.size
      have HJ2 : Hid (J (inQ Q w.heap.size w2 v2) (k + 1) w2) := HST.out _ _ _ _ _ HJ1.out (fun b hq hb => by
          have hne : v2.ownBlock ≠ some b ∨ (Q b ∧ b < w.heap.size) := by
            rcases hq with (hq | hq) | hq
            · exact .inr hq
            · refine .inl fun e => ?_
              rcases hat2 with e2 | e2
              · rw [e2] at e; exact hq.2.2 e
              · rw [e2] at e; injection e with e; simp at e; omega
            · refine .inl fun e => ?_
              rcases hat2 with e2 | e2
              · rw [e2] at e; have := (HOwn.out b e).2; omega
              · rw [e2] at e; injection e with e; simp at e; omega
          simp at hs2
          rcases hq with (hq | hq) | hq
          · exact .inl hq
          · rcases hne with hne | hne
            · exact .inr ⟨hq.1, by omega, hne⟩
            · exact .inl hne
          · rcases hne with hne | hne
            · exact .inr ⟨by omega, by omega, hne⟩
            · exact .inl hne) (fun b hb hq => (hg2.block b (by simp; omega) (fun e => by
          have h1 := HOwn.out b e.symm
          rcases hq with ((hq | hq) | hq) | hq
          · omega
          · exact hq.2.2 e.symm
          · omega
          · have := HC.out b hq.symm; omega)).trans (HA1.out.block b hb))
      have HO2 : Hid (OthO C w w2) := (HO.out.trans HOA.out).grown hg2 (Nat.le_refl _) (fun j hj => (HOwn.out j hj).1)
      have HF2 : Hid (∀ b o u, some b ≠ C → some b ≠ (Value.slice av k cv).ownBlock → wr.cell? ⟨b, o, none⟩ = some u → w2.cell? ⟨b, o, none⟩ = some u) := fun b o u hn hm hu => by
        have h1 := HOA.out.cell hn hu
        exact (World.cell?_of_block (a := ⟨b, o, none⟩) (hg2.block b (World.block_lt_of_cell? _ _ h1) hm)).trans h1
      have hmA : some bA ≠ (Value.slice av k cv).ownBlock := fun e => by have := (HOwn.out bA e.symm).1; omega
      have hmB : some bB ≠ (Value.slice av k cv).ownBlock := fun e => by have := (HOwn.out bB e.symm).1; omega
      clear hown2 hg2 hat2 hs2
      refine hK.out _ _ ⟨HF2.out _ _ _ HNA.out hmA X0.out, HF2.out _ _ _ HNA.out hmA X1.out, HF2.out _ _ _ HNA.out hmA X2.out, HF2.out _ _ _ HNB.out hmB Y0.out, HF2.out _ _ _ HNB.out hmB Y1.out, HF2.out _ _ _ HNB.out hmB Y2.out⟩ (fun hHeld => ?_)
      clear hK K'
      simp only [Act.put, List.setIfInBounds_toArray, List.set_cons_zero, List.set_cons_succ]
      refine Goes.last (by kernel_rfl) (by kernel_rfl) rfl (fun K' hK => ?_)
      go_simp
      refine hK.out _ _ ?_
      clear hK K'
      (try simp only [Exit.inBlock, Exit.then])
      go_wp2
      exact ⟨⟨k + 1, by omega, by go_num, HO2.out, HG2.out, HJ2.out⟩, by simp [intOf]; omega⟩
    · have e : k = l := by omega
      subst e
      obtain ⟨a2, c2, e2, hc2, ho2⟩ := HG.out.done HL.out (by omega)
      subst e2
      have HO2 := hid ho2
      clear ho2
      go_wp2
      go_ret
      exact ⟨a2, c2, rfl, HO2.out.imp fun b hb => hb.imp And.left id, HO.out⟩
end Go.Proofs.Ytikdadpapdkfiaa.bitPair
