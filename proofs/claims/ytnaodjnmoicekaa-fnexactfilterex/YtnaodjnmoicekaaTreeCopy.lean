/- The laws' own helpers over trees of expressions: what they count, copy and compare; conditions: lengths that fit. -/
import Derived.Test.YtnaodjnmoicekaaTrees
import Derived.Laws.ResultCell
import Derived.Deep.RegionHeld3
namespace Go.Proofs.Ytnaodjnmoicekaa.treeCopy
open Go.RowKit Go.Deep base trees
set_option linter.unusedVariables false

/-- A row of trees in block N of its own, of which the first k are laid. -/
structure Laid (w : World) (N len k d : Nat) (t : T) : Prop where
  row : ∃ f, w.rowIs N 32 (len * 3) f ∧ ∀ i, i < k → f (i * 3) = .int .i64 (kd (kid t i)) ∧ f (i * 3 + 1) = .int .i64 (nn (kid t i)) ∧ ∃ M l, f (i * 3 + 2) = .slice (some ⟨M, 0, none⟩) l l ∧ N < M ∧ Rd (fun b => M ≤ b) 1048576 w (d - 1) (kid t i) (some ⟨M, 0, none⟩) l
theorem Laid.rd {w : World} {N len d : Nat} {t : T} (h : Laid w N len len d t) (hl : ln t = len) (hz : d = 0 → ln t = 0) (hm : len ≤ 1048576) : Rd (fun b => N ≤ b) 1048576 w d t (some ⟨N, 0, none⟩) len := by
  obtain ⟨f, hf, hc⟩ := h.row
  cases d with
  | zero => exact ⟨hl, hl ▸ hz rfl⟩
  | succ d =>
    refine ⟨hl, hm, fun i hi => ?_⟩
    obtain ⟨h0, h1, M, l, h2, hM, hr⟩ := hc i hi
    refine ⟨N, 0, rfl, Nat.le_refl _, ?_, ?_, some ⟨M, 0, none⟩, l, l, ?_, hr.imp fun b hb => by omega⟩
    · rw [← h0]; simpa using hf.cell (i := i * 3) (by omega)
    · rw [← h1]; simpa using hf.cell (i := i * 3 + 1) (by omega)
    · rw [← h2]; simpa using hf.cell (i := i * 3 + 2) (by omega)
theorem Laid.below {w w1 : World} {N len k d : Nat} {t : T} (h : Laid w N len k d t) (hb : Below w.heap.size w w1) : Laid w1 N len k d t := by
  obtain ⟨f, hf, hc⟩ := h.row
  refine ⟨f, hf.of_block (hb.block _ hf.lt), fun i hi => ?_⟩
  obtain ⟨h0, h1, M, l, h2, hM, hr⟩ := hc i hi
  exact ⟨h0, h1, M, l, h2, hM, hr.below hb⟩
theorem Laid.next {w : World} {N len k d M l : Nat} {t : T} (h : Laid w N len k d t) (hk : k < len) (hN : N < M) (hr : Rd (fun b => M ≤ b) 1048576 w (d - 1) (kid t k) (some ⟨M, 0, none⟩) l) :
    Laid (((w.setCell ⟨N, k * 3, none⟩ (.int .i64 (kd (kid t k)))).setCell ⟨N, k * 3 + 1, none⟩ (.int .i64 (nn (kid t k)))).setCell ⟨N, k * 3 + 2, none⟩ (.slice (some ⟨M, 0, none⟩) l l)) N len (k + 1) d t := by
  obtain ⟨f, hf, hc⟩ := h.row
  refine ⟨_, ((hf.set (k * 3) _).set (k * 3 + 1) _).set (k * 3 + 2) _, fun i hi => ?_⟩
  by_cases e : i = k
  · subst e
    refine ⟨by rw [if_neg (by omega), if_neg (by omega), if_pos rfl], by rw [if_neg (by omega), if_pos rfl], M, l, by rw [if_pos rfl], hN, ?_⟩
    exact ((hr.set (by simp; omega) _).set (by simp; omega) _).set (by simp; omega) _
  · obtain ⟨h0, h1, M', l', h2, hM, hr'⟩ := hc i (by omega)
    refine ⟨by rw [if_neg (by omega), if_neg (by omega), if_neg (by omega)]; exact h0, by rw [if_neg (by omega), if_neg (by omega), if_neg (by omega)]; exact h1, M', l', by rw [if_neg (by omega), if_neg (by omega), if_neg (by omega)]; exact h2, hM, ?_⟩
    exact ((hr'.set (by simp; omega) _).set (by simp; omega) _).set (by simp; omega) _

theorem info_ex : (Try.prog.info? 32).map (fun i => (i.zero, i.size, i.bytes)) = some (some (.agg #[.int .i64 0, .int .i64 0, .slice none 0 0]), 3, 40) := by kernel_rfl
theorem run_make_exs (n : Nat) (h : n ≤ 1048576) (w : World) :
    (Instr.makeSlice 30 (.int .i64 (n : Int)) (.int .i64 (n : Int))).run Try.prog w = .ok (.slice (some ⟨w.heap.size, 0, none⟩) n n) (w.alloc (.cells (madeCells #[.int .i64 0, .int .i64 0, .slice none 0 0] (n * 3)) 32)) := by
  obtain ⟨i, hi, hzz⟩ := Option.map_eq_some_iff.1 info_ex
  simp only [Prod.mk.injEq] at hzz
  obtain ⟨hz, hs, hb⟩ := hzz
  have hr := run_make (P := Try.prog) w 30 32 i _ Try.underlying30 hi hz .i64 .i64 n n (by omega) (Int.le_refl _) (by rw [hb]; omega) (by omega)
  simp only [Int.toNat_natCast, hs] at hr
  exact hr

end Go.Proofs.Ytnaodjnmoicekaa.treeCopy
