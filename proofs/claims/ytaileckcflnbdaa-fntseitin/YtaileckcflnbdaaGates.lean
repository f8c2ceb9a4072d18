/- Circuits: rows of gates in memory, and the laws' own helpers that count, copy and compare them; conditions: lengths that fit. -/
import Derived.Test.YtaileckcflnbdaaBase
import Derived.Laws.ResultCell
import Derived.Deep.RegionHeld3
namespace Go.Proofs.Ytaileckcflnbdaa.gates
open Go.RowKit Go.Deep base
set_option linter.unusedVariables false

abbrev Gs := Nat → Int × Int
/-- A slice of gates. -/
structure GateRow (w : World) (a : Option Addr) (len : Nat) (g : Gs) : Prop where
  most : len ≤ maxLen
  cell : ∀ i, i < len → ∃ b off, a = some ⟨b, off, none⟩ ∧ w.cell? ⟨b, off + i * 2, none⟩ = some (.int .i64 (g i).1) ∧ w.cell? ⟨b, off + i * 2 + 1, none⟩ = some (.int .i64 (g i).2)
theorem GateRow.below {W w1 : World} {a : Option Addr} {len : Nat} {g : Gs} (h : GateRow W a len g) (hb : Below W.heap.size W w1) : GateRow w1 a len g :=
  ⟨h.most, fun i hi => by
    obtain ⟨b, off, e, h0, h1⟩ := h.cell i hi
    exact ⟨b, off, e, keep hb h0, keep hb h1⟩⟩

/-- A row of gates in block N of its own, of which the first k are laid. -/
structure GLaid (w : World) (N len k : Nat) (g : Gs) : Prop where
  row : ∃ f, w.rowIs N 60 (len * 2) f ∧ ∀ i, i < k → f (i * 2) = .int .i64 (g i).1 ∧ f (i * 2 + 1) = .int .i64 (g i).2
theorem GLaid.gates {w : World} {N len : Nat} {g : Gs} (h : GLaid w N len len g) (hm : len ≤ maxLen) : GateRow w (some ⟨N, 0, none⟩) len g := by
  obtain ⟨f, hf, hc⟩ := h.row
  refine ⟨hm, fun i hi => ?_⟩
  obtain ⟨h0, h1⟩ := hc i hi
  refine ⟨N, 0, rfl, ?_, ?_⟩
  · rw [← h0]; simpa using hf.cell (i := i * 2) (by omega)
  · rw [← h1]; simpa using hf.cell (i := i * 2 + 1) (by omega)
theorem GLaid.below {w w1 : World} {N len k : Nat} {g : Gs} (h : GLaid w N len k g) (hb : Below w.heap.size w w1) : GLaid w1 N len k g := by
  obtain ⟨f, hf, hc⟩ := h.row
  exact ⟨f, hf.of_block (hb.block _ hf.lt), hc⟩
theorem GLaid.next {w : World} {N len k : Nat} {g : Gs} (h : GLaid w N len k g) (hk : k < len) :
    GLaid ((w.setCell ⟨N, k * 2, none⟩ (.int .i64 (g k).1)).setCell ⟨N, k * 2 + 1, none⟩ (.int .i64 (g k).2)) N len (k + 1) g := by
  obtain ⟨f, hf, hc⟩ := h.row
  refine ⟨_, (hf.set (k * 2) _).set (k * 2 + 1) _, fun i hi => ?_⟩
  by_cases e : i = k
  · subst e
    exact ⟨by rw [if_neg (by omega), if_pos rfl], by rw [if_pos rfl]⟩
  · obtain ⟨h0, h1⟩ := hc i (by omega)
    exact ⟨by rw [if_neg (by omega), if_neg (by omega)]; exact h0, by rw [if_neg (by omega), if_neg (by omega)]; exact h1⟩
theorem GLaid.set {w : World} {N len k : Nat} {g : Gs} (h : GLaid w N len k g) {x : Addr} (hx : x.block ≠ N) (v : Value) : GLaid (w.setCell x v) N len k g := by
  obtain ⟨f, hf, hc⟩ := h.row
  exact ⟨f, hf.of_block (Below.heap_setCell _ _ _ _ (Ne.symm hx)), hc⟩

theorem info_gate : (Try.prog.info? 60).map (fun i => (i.zero, i.size, i.bytes)) = some (some (.agg #[.int .i64 0, .int .i64 0]), 2, 16) := by kernel_rfl
theorem run_make_gates (n : Nat) (h : n ≤ 1048576) (w : World) :
    (Instr.makeSlice 27 (.int .i64 (n : Int)) (.int .i64 (n : Int))).run Try.prog w = .ok (.slice (some ⟨w.heap.size, 0, none⟩) n n) (w.alloc (.cells (madeCells #[.int .i64 0, .int .i64 0] (n * 2)) 60)) := by
  obtain ⟨i, hi, hzz⟩ := Option.map_eq_some_iff.1 info_gate
  simp only [Prod.mk.injEq] at hzz
  obtain ⟨hz, hs, hb⟩ := hzz
  have hr := run_make (P := Try.prog) w 27 60 i _ Try.underlying27 hi hz .i64 .i64 n n (by omega) (Int.le_refl _) (by rw [hb]; omega) (by omega)
  simp only [Int.toNat_natCast, hs] at hr
  exact hr

end Go.Proofs.Ytaileckcflnbdaa.gates
