/- The program's row of bits of a word; conditions: none. -/
import Derived.Test.YtikdadpapdkfiaaBitSumRow
import Derived.Test.YtikdadpapdkfiaaFaceImpl
import Derived.Test.YtikdadpapdkfiaaWordSpec
namespace Go.Proofs.Ytikdadpapdkfiaa.bitWord
open Go.RowKit Go.Deep Go base trees built heldStore drawn ownTree ownEx wordTrees wordSpec lessImpl faceImpl bitRows bitPart bitSteps bitPair bitSum bitSumRow
set_option linter.unusedVariables false

def modOf (b : Nat) : Int := ((2 ^ b : Nat) : Int)
variable {b d : Nat} {t : T}
theorem mod_cases {b : Nat} (h1 : 1 ≤ b) (h2 : b ≤ 6) : (b = 1 ∧ modOf b = 2) ∨ (b = 2 ∧ modOf b = 4) ∨ (b = 3 ∧ modOf b = 8) ∨ (b = 4 ∧ modOf b = 16) ∨ (b = 5 ∧ modOf b = 32) ∨ (b = 6 ∧ modOf b = 64) := by
  rcases bits_cases h1 h2 with rfl | rfl | rfl | rfl | rfl | rfl <;> decide
theorem mod_bounds {b : Nat} (h1 : 1 ≤ b) (h2 : b ≤ 6) : 2 ≤ modOf b ∧ modOf b ≤ 64 := by
  rcases mod_cases h1 h2 with ⟨_, h⟩ | ⟨_, h⟩ | ⟨_, h⟩ | ⟨_, h⟩ | ⟨_, h⟩ | ⟨_, h⟩ <;> omega
theorem shape_cases (h : shapeW b t = true) : (kd t = 1 ∧ ln t = 0 ∧ 0 ≤ nn t ∧ nn t < modOf b) ∨ (kd t = 2 ∧ ln t = 0 ∧ 0 ≤ nn t ∧ nn t < ((12 / b : Nat) : Int)) ∨ ((kd t = 3 ∨ kd t = 4 ∨ kd t = 5) ∧ ln t = 2 ∧ nn t = 0) := by
  have h1 := of_decide_eq_true h
  rcases kids_cases (kd t) with e | e | e | e
  · left
    have e1 : kidsW (kd t) = 0 := by rw [e]; rfl
    have e2 : mostW b (kd t) = modOf b - 1 := by rw [e]; rfl
    rw [e1, e2] at h1
    exact ⟨e, by omega, by omega, by omega⟩
  · right; left
    have e1 : kidsW (kd t) = 0 := by rw [e]; rfl
    have e2 : mostW b (kd t) = ((12 / b : Nat) : Int) - 1 := by rw [e]; rfl
    rw [e1, e2] at h1
    generalize ((12 / b : Nat) : Int) = m at *
    exact ⟨e, by omega, by omega, by omega⟩
  · right; right
    have e1 : kidsW (kd t) = 2 := by unfold kidsW; rw [if_neg (by omega), if_pos e]
    have e2 : mostW b (kd t) = 0 := by unfold mostW; rw [if_neg (by omega), if_neg (by omega)]
    rw [e1, e2] at h1
    exact ⟨e, by omega, by omega⟩
  · rw [e.1] at h1; omega
def andT (A B : T) (l : Nat) : T := mkT 0 0 l fun i => ndT 4 2 (two (kid A i) (kid B i))
def iteT (A B : T) (l : Nat) : T := mkT 0 0 l fun i => ndT 7 3 (three (lessT A B (cT 0) l) (kid A i) (kid B i))
/-- The row of bits of a word. -/
def rowW (b : Nat) : Nat → T → T
  | 0, t => if kd t = 1 then constT (nn t) b else varT (nn t).toNat b
  | d + 1, t => if kd t = 1 then constT (nn t) b else if kd t = 2 then varT (nn t).toNat b else
      if kd t = 3 then sumT (rowW b d (kid t 0)) (rowW b d (kid t 1)) b else
      if kd t = 4 then andT (rowW b d (kid t 0)) (rowW b d (kid t 1)) b else iteT (rowW b d (kid t 0)) (rowW b d (kid t 1)) b
theorem row_const (h : kd t = 1) : rowW b d t = constT (nn t) b := by cases d <;> simp [rowW, h]
theorem row_var (h : kd t = 2) : rowW b d t = varT (nn t).toNat b := by cases d <;> simp [rowW, h]
theorem row_pos (hd : 0 < d) (h : kd t = 3 ∨ kd t = 4 ∨ kd t = 5) : rowW b d t = if kd t = 3 then sumT (rowW b (d - 1) (kid t 0)) (rowW b (d - 1) (kid t 1)) b else
      if kd t = 4 then andT (rowW b (d - 1) (kid t 0)) (rowW b (d - 1) (kid t 1)) b else iteT (rowW b (d - 1) (kid t 0)) (rowW b (d - 1) (kid t 1)) b := by
  cases d with
  | zero => omega
  | succ d =>
    show (if kd t = 1 then _ else if kd t = 2 then _ else _) = _
    rw [if_neg (by omega), if_neg (by omega)]
    rfl
theorem row_kind (b d : Nat) (t : T) (i : Nat) : kd (kid (rowW b d t) i) ≠ 0 := by
  have h1 : ∀ n, kd (kid (constT n b) i) ≠ 0 := fun n => (by decide : (2 : Int) ≠ 0)
  have h2 : ∀ n, kd (kid (varT n b) i) ≠ 0 := fun n => (by decide : (1 : Int) ≠ 0)
  have h3 : ∀ A B, kd (kid (sumT A B b) i) ≠ 0 := fun A B => (by decide : (6 : Int) ≠ 0)
  have h4 : ∀ A B, kd (kid (andT A B b) i) ≠ 0 := fun A B => (by decide : (4 : Int) ≠ 0)
  have h5 : ∀ A B, kd (kid (iteT A B b) i) ≠ 0 := fun A B => (by decide : (7 : Int) ≠ 0)
  cases d with
  | zero =>
    unfold rowW
    split
    · exact h1 _
    · exact h2 _
  | succ d =>
    unfold rowW
    split
    · exact h1 _
    · split
      · exact h2 _
      · split
        · exact h3 _ _
        · split
          · exact h4 _ _
          · exact h5 _ _
/-- A value that is a row of bits. -/
def RowV (w : World) (D : Nat) (t : T) (l : Nat) (v : Value) : Prop := ∃ a c, v = .slice a l c ∧ Rd (fun _ => True) 1048576 w D t a l
theorem RowV.below {w w' : World} {D l : Nat} {t : T} {v : Value} (h : RowV w D t l v) (hb : Below w.heap.size w w') : RowV w' D t l v := by
  obtain ⟨a, c, e, r⟩ := h
  exact ⟨a, c, e, r.below hb⟩
def WR (b d : Nat) : Prop := ∀ (t : T) (a : Option Addr) (l c : Nat) (va : Option Addr) (vc : Nat) (w : World), Rd (fun _ => True) 1048576 w d t a l → rightW b d t = true → Rd (fun _ => True) 1048576 w 1 varsT va 12 → 12 ≤ vc →
    Calls Try.prog 21 #[.agg #[.int .i64 (kd t), .int .i64 (nn t), .slice a l c], .int .i64 (b : Int), .slice va 12 vc] w fun e w' => ∃ v, e = .returned v ∧ RowV w' (30 * d + 1) (rowW b d t) b v ∧ Below w.heap.size w w'
theorem and_steps (D : Nat) (A B : T) (l : Nat) (kA : ∀ i, i < l → kd (kid A i) ≠ 0) : Step 40 [] none D (D + 1) A B (andT A B l) l (fun _ _ _ => True) := by
  intro k hk q w1 ap aq lp lq cp cq hq _ hp hq'
  refine (and_step q D (kid A k) (kid B k) ap aq lp lq cp cq w1 hp hq' (kA k hk)).mono ?_
  rintro e w' ⟨v, rfl, hx, hb⟩
  exact ⟨v, rfl, hx, OthO.of_below _ hb, trivial⟩
theorem and_row (D : Nat) (A B : T) (aA aB : Option Addr) (l cA cB : Nat) (w : World) (hA : Rd (fun _ => True) 1048576 w (D + 1) A aA l) (hB : Rd (fun _ => True) 1048576 w (D + 1) B aB l) (kA : ∀ i, i < l → kd (kid A i) ≠ 0) :
    Calls Try.prog 39 #[.slice aA l cA, .slice aB l cB, .func (.func 40) #[] #[]] w fun e w' => ∃ v, e = .returned v ∧ RowV w' (D + 2) (andT A B l) l v ∧ Below w.heap.size w w' := by
  refine (pair_and (fun _ => True) none D (D + 1) A B (andT A B l) aA aB l cA cB w (fun _ _ _ => True) (fun b _ e => by cases e) (fun c e => by cases e) hA hB rfl trivial (fun _ _ _ _ _ _ _ _ => trivial) (and_steps D A B l kA)).mono ?_
  rintro e w' ⟨a, c, rfl, hr, ho⟩
  exact ⟨_, rfl, ⟨a, c, rfl, hr.imp fun _ _ => trivial⟩, ho.to_below⟩
/-- What the variable less holds. -/
def LessJ (C D : Nat) (s : T) (q : Nat → Prop) (k : Nat) (w : World) : Prop := ∃ a l c, w.cell? ⟨C, 0, none⟩ = some (.int .i64 (kd s)) ∧ w.cell? ⟨C, 1, none⟩ = some (.int .i64 (nn s)) ∧ w.cell? ⟨C, 2, none⟩ = some (.slice a l c) ∧ Rd q 1048576 w D s a l
theorem less_stable (C D : Nat) (s : T) : Stable (some C) (LessJ C D s) := by
  intro q q' k w1 w2 ⟨a, l, c, h0, h1, h2, hr⟩ hq hb
  have e := hb C (World.block_lt_of_cell? _ _ h0) (.inr rfl)
  refine ⟨a, l, c, (World.cell?_of_block (a := ⟨C, 0, none⟩) e).trans h0, (World.cell?_of_block (a := ⟨C, 1, none⟩) e).trans h1, (World.cell?_of_block (a := ⟨C, 2, none⟩) e).trans h2, hr.kept fun b o x hx hc => ?_⟩
  have hlt := World.block_lt_of_cell? _ _ hc
  exact ⟨(World.cell?_of_block (a := ⟨b, o, none⟩) (hb b hlt (.inl hx))).trans hc, hq b hx hlt⟩
theorem ite_steps (C D : Nat) (A B : T) (l : Nat) : Step 43 [.pointer (some ⟨C, 0, none⟩)] (some C) D (D + 4 * l + 1) A B (iteT A B l) l (LessJ C (D + 4 * l) (lessT A B (cT 0) l)) := by
  intro k hk q w1 ap aq lp lq cp cq hq ⟨a, ls, c, h0, h1, h2, hr⟩ hp hq'
  refine (ite_step q (D + 4 * l) (kid A k) (kid B k) (lessT A B (cT 0) l) ap aq a lp lq ls cp cq c w1 (hp.more (by omega)) (hq'.more (by omega)) hr (lessT_kind (by decide) l) C h0 h1 h2).mono ?_
  rintro e w' ⟨v, rfl, hx, hb⟩
  exact ⟨v, rfl, hx, OthO.of_below _ hb, a, ls, c, keep hb h0, keep hb h1, keep hb h2, (hr.below hb).imp fun b hb => .inl hb⟩
theorem ite_row (C D : Nat) (A B : T) (aA aB a : Option Addr) (l cA cB ls c : Nat) (w : World) (hA : Rd (fun b => b ≠ C) 1048576 w (D + 1) A aA l) (hB : Rd (fun b => b ≠ C) 1048576 w (D + 1) B aB l) (hr : Rd (fun b => b ≠ C) 1048576 w (D + 4 * l) (lessT A B (cT 0) l) a ls)
    (h0 : w.cell? ⟨C, 0, none⟩ = some (.int .i64 (kd (lessT A B (cT 0) l)))) (h1 : w.cell? ⟨C, 1, none⟩ = some (.int .i64 (nn (lessT A B (cT 0) l)))) (h2 : w.cell? ⟨C, 2, none⟩ = some (.slice a ls c)) {N : Nat} (hN : N ≤ C) :
    Calls Try.prog 39 #[.slice aA l cA, .slice aB l cB, .func (.func 43) #[] #[.pointer (some ⟨C, 0, none⟩)]] w fun e w' => ∃ v, e = .returned v ∧ RowV w' (D + 4 * l + 2) (iteT A B l) l v ∧ Below N w w' := by
  have hC := World.block_lt_of_cell? _ _ h0
  refine (pair_ite (fun b => b ≠ C) (some C) C D (D + 4 * l + 1) A B (iteT A B l) aA aB l cA cB w (LessJ C (D + 4 * l) (lessT A B (cT 0) l)) (fun b hb e => hb (by injection e)) (fun c e => by injection e with e; subst e; exact hC) hA hB rfl ⟨a, ls, c, h0, h1, h2, hr⟩ (less_stable _ _ _) (ite_steps C D A B l)).mono ?_
  rintro e w' ⟨a, c, rfl, hr, ho⟩
  exact ⟨_, rfl, ⟨a, c, rfl, hr.imp fun _ _ => trivial⟩, ho.under (Nat.le_of_lt (Nat.lt_of_le_of_lt hN hC)) fun c e => by injection e with e; omega⟩
end Go.Proofs.Ytikdadpapdkfiaa.bitWord
