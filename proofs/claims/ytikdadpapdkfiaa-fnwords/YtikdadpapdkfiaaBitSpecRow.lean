/- The specification's row of bits of a word, the whole of it; conditions: none. -/
import Derived.Test.YtikdadpapdkfiaaBitSpecMin
import Derived.Test.YtikdadpapdkfiaaBitSpecSum
import Derived.Test.YtikdadpapdkfiaaBitWordRow
namespace Go.Proofs.Ytikdadpapdkfiaa.bitSpecRow
open Go.RowKit Go.Deep Go base trees built heldStore drawn ownTree ownEx copySpec rowsSpec wordTrees wordSpec lessImpl faceImpl lessSpec bitRows bitPart bitSteps bitPair bitSum bitSumRow bitWord bitWordRow bitSpec bitSpecVar bitSpecAnd bitRight bitSpecMin bitSpecSum
set_option linter.unusedVariables false

theorem bits_row (b : Nat) (hb1 : 1 ≤ b) (hb2 : b ≤ 6) (d : Nat) : ∀ (t : T) (a : Option Addr) (l c : Nat) (w : World), Rd (fun _ => True) 1048576 w d t a l → rightW b d t = true →
    Calls Try.prog 27 #[.agg #[.int .i64 (kd t), .int .i64 (nn t), .slice a l c], .int .i64 (b : Int)] w fun e w' => ∃ v, e = .returned v ∧ RowV w' (30 * d + 1) (rowW b d t) b v ∧ Below w.heap.size w w' := by
  induction d using Nat.strongRecOn with
  | _ d ih =>
  intro t a l c w hr hR
  have hsh := shape_cases (right_shape hr.zero hR)
  rw [hr.len] at hsh
  have up : ∀ {D : Nat} {R : T} {F : FuncId} {args : Array Value}, D ≤ 30 * d + 1 → (Calls Try.prog F args w fun e w' => ∃ v, e = .returned v ∧ RowV w' D R b v ∧ Below w.heap.size w w') → Calls Try.prog F args w fun e w' => ∃ v, e = .returned v ∧ RowV w' (30 * d + 1) R b v ∧ Below w.heap.size w w' := fun hD h =>
    h.mono fun e w' ⟨v, he, ⟨a, c, ev, hv⟩, hb⟩ => ⟨v, he, ⟨a, c, ev, hv.more hD⟩, hb⟩
  rcases hsh with ⟨h1, h2, h3, h4⟩ | ⟨h1, h2, h3, h4⟩ | ⟨h1, h2, h3⟩
  · rw [row_const h1, h1]
    have hmm := (mod_bounds hb1 hb2).2
    exact up (by omega) (bits_const (nn t) b a l c hb2 h3 (by omega) w)
  · rw [row_var h1, h1]
    obtain ⟨n, hn⟩ : ∃ n : Nat, nn t = n := ⟨(nn t).toNat, by omega⟩
    rw [hn] at h3 h4 ⊢
    simp only [Int.toNat_natCast]
    exact up (by omega) (bits_var n b hb1 hb2 a l c (var_fits hb1 hb2 h4) w)
  · have hd : 0 < d := (hr.cell (i := 0) (by omega)).1
    have hln : ln t = 2 := by rw [hr.len]; exact h2
    rw [row_pos hd h1, h3]
    have hr0 := right_kid hr.zero hR (i := 0) (by omega)
    have hr1 := right_kid hr.zero hR (i := 1) (by omega)
    obtain ⟨-, bb, off, rfl, -, g0, g1, x0, m0, s0, g2, hx0⟩ := hr.cell (i := 0) (by omega)
    obtain ⟨-, bb', off', hab, -, j0, j1, x1, m1, s1, j2, hx1⟩ := hr.cell (i := 1) (by omega)
    cases hab
    simp only [Nat.zero_mul, Nat.add_zero] at g0 g1 g2
    simp only [Nat.one_mul, Nat.add_assoc, Nat.reduceAdd] at j0 j1 j2
    subst h2
    have E0 : ∀ w' : World, Below w.heap.size w w' → Calls Try.prog 27 #[.agg #[.int .i64 (kd (kid t 0)), .int .i64 (nn (kid t 0)), .slice x0 m0 s0], .int .i64 (b : Int)] w' fun e w'' => ∃ v, e = .returned v ∧ RowV w'' (30 * (d - 1) + 1) (rowW b (d - 1) (kid t 0)) b v ∧ Below w'.heap.size w' w'' := fun w' hw => ih (d - 1) (by omega) (kid t 0) x0 m0 s0 w' (hx0.below hw) hr0
    have E1 : ∀ w' : World, Below w.heap.size w w' → Calls Try.prog 27 #[.agg #[.int .i64 (kd (kid t 1)), .int .i64 (nn (kid t 1)), .slice x1 m1 s1], .int .i64 (b : Int)] w' fun e w'' => ∃ v, e = .returned v ∧ RowV w'' (30 * (d - 1) + 1) (rowW b (d - 1) (kid t 1)) b v ∧ Below w'.heap.size w' w'' := fun w' hw => ih (d - 1) (by omega) (kid t 1) x1 m1 s1 w' (hx1.below hw) hr1
    have rA := row_allR b hb1 hb2 (d - 1) (kid t 0) x0 m0 w hx0 hr0
    have rB := row_allR b hb1 hb2 (d - 1) (kid t 1) x1 m1 w hx1 hr1
    have kA := row_kind b (d - 1) (kid t 0)
    have kB := row_kind b (d - 1) (kid t 1)
    rcases h1 with h1 | h1 | h1
    · rw [if_pos h1, h1]
      exact up (by omega) (bits_sum b hb1 hb2 (30 * (d - 1)) _ _ t bb off c x0 x1 m0 s0 m1 s1 w g0 g1 g2 j0 j1 j2 E0 E1 kA rA rB)
    · rw [if_neg (by omega), if_pos h1, h1]
      exact up (by omega) (bits_and b hb1 hb2 (30 * (d - 1)) _ _ t bb off c x0 x1 m0 s0 m1 s1 w g0 g1 g2 j0 j1 j2 E0 E1 kA)
    · rw [if_neg (by omega), if_neg (by omega), h1]
      exact up (by omega) (bits_min b hb1 hb2 (30 * (d - 1)) _ _ t bb off c x0 x1 m0 s0 m1 s1 w g0 g1 g2 j0 j1 j2 E0 E1 kA kB rA rB)
end Go.Proofs.Ytikdadpapdkfiaa.bitSpecRow
