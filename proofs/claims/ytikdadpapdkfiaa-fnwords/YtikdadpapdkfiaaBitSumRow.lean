/- The program's sum of two rows of bits; conditions: none. -/
import Derived.Test.YtikdadpapdkfiaaBitSum
namespace Go.Proofs.Ytikdadpapdkfiaa.bitSumRow
open Go.RowKit Go.Deep Go base trees built heldStore drawn ownTree ownEx wordTrees bitRows bitPart bitSteps bitPair bitSum
set_option linter.unusedVariables false

/-- The carry into a place, and the row of sums. -/
def carryT (A B : T) : Nat → T
  | 0 => cT 0
  | i + 1 => carT (carryT A B i) (kid A i) (kid B i)
def sumT (A B : T) (l : Nat) : T := mkT 0 0 l fun i => bitT (carryT A B i) (kid A i) (kid B i)
theorem carry_kind (A B : T) (i : Nat) : kd (carryT A B i) ≠ 0 := by
  cases i with
  | zero => exact (by decide : (2 : Int) ≠ 0)
  | succ i => exact nd_kind (by decide)
/-- The carry lies in the variable C. -/
def SumJ (C D : Nat) (A B : T) (q : Nat → Prop) (k : Nat) (w : World) : Prop := ∃ a l c, w.cell? ⟨C, 0, none⟩ = some (.int .i64 (kd (carryT A B k))) ∧ w.cell? ⟨C, 1, none⟩ = some (.int .i64 (nn (carryT A B k))) ∧ w.cell? ⟨C, 2, none⟩ = some (.slice a l c) ∧ Rd q 1048576 w (D + 3 * k) (carryT A B k) a l ∧ (w.frozen? ⟨C, 0, none⟩ = false ∧ w.frozen? ⟨C, 1, none⟩ = false ∧ w.frozen? ⟨C, 2, none⟩ = false)
theorem sum_stable (C D : Nat) (A B : T) : Stable (some C) (SumJ C D A B) := by
  intro q q' k w1 w2 ⟨a, l, c, h0, h1, h2, hr, g0, g1, g2⟩ hq hb
  have e := hb C (World.block_lt_of_cell? _ _ h0) (.inr rfl)
  refine ⟨a, l, c, (World.cell?_of_block (a := ⟨C, 0, none⟩) e).trans h0, (World.cell?_of_block (a := ⟨C, 1, none⟩) e).trans h1, (World.cell?_of_block (a := ⟨C, 2, none⟩) e).trans h2, hr.kept fun b o x hx hc => ?_, (World.frozen?_of_block (a := ⟨C, 0, none⟩) e).trans g0, (World.frozen?_of_block (a := ⟨C, 1, none⟩) e).trans g1, (World.frozen?_of_block (a := ⟨C, 2, none⟩) e).trans g2⟩
  have hlt := World.block_lt_of_cell? _ _ hc
  exact ⟨(World.cell?_of_block (a := ⟨b, o, none⟩) (hb b hlt (.inl hx))).trans hc, hq b hx hlt⟩
theorem oth_some {C : Nat} {w w' : World} (h : Oth C w w') : OthO (some C) w w' := ⟨h.os, h.tape, h.output, h.size, fun i hi hn => h.block i hi fun e => hn (by rw [e])⟩
theorem sum_steps (C D : Nat) (A B : T) (l : Nat) (kA : ∀ i, i < l → kd (kid A i) ≠ 0) : Step 56 [.pointer (some ⟨C, 0, none⟩)] (some C) D (D + 3 * l) A B (sumT A B l) l (SumJ C D A B) := by
  intro k hk q w1 ap aq lp lq cp cq hq ⟨a, ls, c, h0, h1, h2, hr, g0, g1, g2⟩ hp hq'
  refine (sum_step q C (D + 3 * k) (kid A k) (kid B k) (carryT A B k) ap aq a lp lq ls cp cq c w1 (hp.more (by omega)) (hq'.more (by omega)) hr (fun b hb e => hq b hb (by rw [e])) (kA k hk) (carry_kind A B k) h0 h1 h2 g0 g1 g2).mono ?_
  rintro e w' ⟨v, rfl, ⟨a', l', c', r', e'⟩, ho, a2, l2, c2, k0, k1, k2, r2, f0, f1, f2⟩
  exact ⟨v, rfl, ⟨a', l', c', r'.more (by omega), e'⟩, oth_some ho, a2, l2, c2, k0, k1, k2, r2.more (by omega), f0, f1, f2⟩
set_option maxHeartbeats 800000 in
theorem sum_row (Q : Nat → Prop) (D : Nat) (A B : T) (aA aB : Option Addr) (l cA cB : Nat) (w : World) (hA : Rd Q 1048576 w (D + 1) A aA l) (hB : Rd Q 1048576 w (D + 1) B aB l) (kA : ∀ i, i < l → kd (kid A i) ≠ 0) :
    Calls Try.prog 38 #[.slice aA l cA, .slice aB l cB] w fun e w' => ∃ a c, e = .returned (.slice a l c) ∧ Rd (fun b => Q b ∨ w.heap.size ≤ b) 1048576 w' (D + 3 * l + 1) (sumT A B l) a l ∧ Below w.heap.size w w' := by
  have HA := hid (rd_old hA)
  have HB := hid (rd_old hB)
  have HK := hid kA
  clear hA hB kA
  have hmf : ∀ (fn : Fn) (first cap : Array Value) (w : World), (Instr.makeFunc fn first cap).run Try.prog w = .ok (.func fn first cap) w := fun _ _ _ _ => rfl
  go_enter Try.func38, Try.ntmps38
  go_wp2_with fail
  refine (const_impl 0 _).mono ?_
  rintro e w1 ⟨rfl, hb1⟩
  have HB1 := hid hb1
  have hs1 := hb1.size
  clear hb1
  have HA1 : Hid (Below w1.heap.size w1 (w1.alloc (.cells #[.int .i64 2, .int .i64 0, .slice none 0 0] 39))) := (by repeat (first | exact Below.refl _ _ | assumption | refine Below.drew ?_ | refine Below.alloc ?_ (by first | exact Nat.le_refl _ | omega | (simp; done) | (simp; omega)) _ | refine Below.setCell ?_ (by first | exact Nat.le_refl _ | omega | (simp; done) | (simp; omega)) _))
  have HB2 := hid (HB1.out.trans (HA1.out.mono hs1))
  go_wp2_with fail
  refine (pair_sum (fun b => Q b ∧ b < w.heap.size) (some w1.heap.size) w1.heap.size D (D + 3 * l) A B (sumT A B l) aA aB l cA cB _ (SumJ w1.heap.size D A B) (fun b hb e => by injection e with e; omega) (fun c hc => by injection hc with hc; simp; omega) (HA.out.below HB2.out) (HB.out.below HB2.out) rfl ⟨none, 0, 0, by simp [go_sem]; rfl, by simp [go_sem]; rfl, by simp [go_sem], rd_const _ _ _ _, by simp [go_sem], by simp [go_sem], by simp [go_sem]⟩ (sum_stable _ _ _ _) (sum_steps _ _ _ _ _ HK.out)).mono ?_
  rintro e w2 ⟨a, c, rfl, hr, ho⟩
  have HR : Hid (Rd (fun b => Q b ∨ w.heap.size ≤ b) 1048576 w2 (D + 3 * l + 1) (sumT A B l) a l) := hr.imp fun b hb => hb.imp And.left fun h => by simp at h; omega
  have HB3 : Hid (Below w.heap.size w w2) := HB2.out.trans (ho.under (by simp; omega) fun c hc => by injection hc with hc; omega)
  clear hr ho
  go_wp2
  go_ret
  exact ⟨a, c, rfl, HR.out, HB3.out⟩
end Go.Proofs.Ytikdadpapdkfiaa.bitSumRow
