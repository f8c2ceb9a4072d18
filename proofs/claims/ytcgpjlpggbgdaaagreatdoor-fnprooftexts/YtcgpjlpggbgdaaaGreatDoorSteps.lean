/- Rows of steps of a proof: the laws' own helpers that count, copy and compare them; conditions: lengths that fit. -/
import Derived.Test.YtcgpjlpggbgdaaaGreatDoorCnf
import Derived.Laws.ResultCell
import Derived.Deep.RegionHeld3
namespace Go.Proofs.YtcgpjlpggbgdaaaGreatDoor.steps
open Go.RowKit Go.Deep base copy cnf
set_option linter.unusedVariables false

abbrev St := Bool × List Int
/-- A slice of steps. -/
structure StepRow (w : World) (a : Option Addr) (len : Nat) (ss : List St) : Prop where
  length : ss.length = len
  most : len ≤ maxLen
  cell : ∀ i, i < len → ∃ b off, a = some ⟨b, off, none⟩ ∧ w.cell? ⟨b, off + i * 2, none⟩ = some (.bool (ss[i]?.getD (false, [])).1) ∧
    ∃ a' l' c', w.cell? ⟨b, off + i * 2 + 1, none⟩ = some (.slice a' l' c') ∧ IntRow w a' l' (ss[i]?.getD (false, [])).2
theorem StepRow.below {W w1 : World} {a : Option Addr} {len : Nat} {ss : List St} (h : StepRow W a len ss) (hb : Below W.heap.size W w1) : StepRow w1 a len ss :=
  ⟨h.length, h.most, fun i hi => by
    obtain ⟨b, off, e, h1, a', l', c', hc, hr⟩ := h.cell i hi
    exact ⟨b, off, e, keep hb h1, a', l', c', keep hb hc, hr.below hb⟩⟩

theorem intRow_set {w : World} {M : Nat} {l : Nat} {zs : List Int} (h : IntRow w (some ⟨M, 0, none⟩) l zs) {a : Addr} (ha : a.block ≠ M) (v : Value) : IntRow (w.setCell a v) (some ⟨M, 0, none⟩) l zs :=
  ⟨h.length, h.most, fun i hi => by
    obtain ⟨b, off, e, hc⟩ := h.cell i hi
    simp at e
    obtain ⟨rfl, rfl⟩ := e
    exact ⟨_, _, rfl, (World.cell?_setCell_other _ _ _ _ (by intro h; rw [h] at ha; exact ha rfl)).trans hc⟩⟩

/-- A row of steps in block N of its own, of which the first k are laid. -/
structure Laid (w : World) (N len k : Nat) (ss : List St) : Prop where
  row : ∃ f, w.rowIs N 53 (len * 2) f ∧ ∀ i, i < k → f (i * 2) = .bool (ss[i]?.getD (false, [])).1 ∧ ∃ M l, f (i * 2 + 1) = .slice (some ⟨M, 0, none⟩) l l ∧ N < M ∧ IntRow w (some ⟨M, 0, none⟩) l (ss[i]?.getD (false, [])).2
theorem Laid.steps {w : World} {N len : Nat} {ss : List St} (h : Laid w N len len ss) (hl : ss.length = len) (hm : len ≤ maxLen) : StepRow w (some ⟨N, 0, none⟩) len ss := by
  obtain ⟨f, hf, hc⟩ := h.row
  refine ⟨hl, hm, fun i hi => ?_⟩
  obtain ⟨h1, M, l, h2, hM, hr⟩ := hc i hi
  refine ⟨N, 0, rfl, ?_, some ⟨M, 0, none⟩, l, l, ?_, hr⟩
  · rw [← h1]; simpa using hf.cell (i := i * 2) (by omega)
  · rw [← h2]; simpa using hf.cell (i := i * 2 + 1) (by omega)
theorem Laid.below {w w1 : World} {N len k : Nat} {ss : List St} (h : Laid w N len k ss) (hb : Below w.heap.size w w1) : Laid w1 N len k ss := by
  obtain ⟨f, hf, hc⟩ := h.row
  refine ⟨f, hf.of_block (hb.block _ hf.lt), fun i hi => ?_⟩
  obtain ⟨h1, M, l, h2, hM, hr⟩ := hc i hi
  exact ⟨h1, M, l, h2, hM, hr.below hb⟩
theorem Laid.next {w : World} {N len k M l : Nat} {ss : List St} (h : Laid w N len k ss) (hk : k < len) (hN : N < M) (hr : IntRow w (some ⟨M, 0, none⟩) l (ss[k]?.getD (false, [])).2) :
    Laid ((w.setCell ⟨N, k * 2, none⟩ (.bool (ss[k]?.getD (false, [])).1)).setCell ⟨N, k * 2 + 1, none⟩ (.slice (some ⟨M, 0, none⟩) l l)) N len (k + 1) ss := by
  obtain ⟨f, hf, hc⟩ := h.row
  refine ⟨_, (hf.set (k * 2) _).set (k * 2 + 1) _, fun i hi => ?_⟩
  by_cases e : i = k
  · subst e
    refine ⟨by rw [if_neg (by omega), if_pos rfl], M, l, by rw [if_pos rfl], hN, ?_⟩
    exact intRow_set (intRow_set hr (by simp; omega) _) (by simp; omega) _
  · obtain ⟨h1, M', l', h2, hM, hr'⟩ := hc i (by omega)
    refine ⟨by rw [if_neg (by omega), if_neg (by omega)]; exact h1, M', l', by rw [if_neg (by omega), if_neg (by omega)]; exact h2, hM, ?_⟩
    exact intRow_set (intRow_set hr' (by simp; omega) _) (by simp; omega) _

theorem info_step : (Tryz.prog.info? 53).map (fun i => (i.zero, i.size, i.bytes)) = some (some (.agg #[.bool false, .slice none 0 0]), 2, 32) := by kernel_rfl
theorem run_make_steps (n : Nat) (h : n ≤ 1048576) (w : World) :
    (Instr.makeSlice 23 (.int .i64 (n : Int)) (.int .i64 (n : Int))).run Tryz.prog w = .ok (.slice (some ⟨w.heap.size, 0, none⟩) n n) (w.alloc (.cells (madeCells #[.bool false, .slice none 0 0] (n * 2)) 53)) := by
  obtain ⟨i, hi, hzz⟩ := Option.map_eq_some_iff.1 info_step
  simp only [Prod.mk.injEq] at hzz
  obtain ⟨hz, hs, hb⟩ := hzz
  have hr := run_make (P := Tryz.prog) w 23 53 i _ Tryz.underlying23 hi hz .i64 .i64 n n (by omega) (Int.le_refl _) (by rw [hb]; omega) (by omega)
  simp only [Int.toNat_natCast, hs] at hr
  exact hr

theorem take_eq {zs ys : List St} {k : Nat} (hz : k < zs.length) (hy : k < ys.length) (h : zs.take k = ys.take k) (e : (zs[k]?.getD (false, [])).1 = (ys[k]?.getD (false, [])).1 ∧ (zs[k]?.getD (false, [])).2 = (ys[k]?.getD (false, [])).2) : zs.take (k + 1) = ys.take (k + 1) :=
  take_eq_succ (d := (false, [])) hz hy h (Prod.ext e.1 e.2)

end Go.Proofs.YtcgpjlpggbgdaaaGreatDoor.steps
