/- Routes: rows of them in memory, and which is the best, as plain functions; of no program but its types; conditions: none. -/
import Derived.Test.YtmipoghemfopaaaGreatBase
import Derived.Laws.ResultCell
import Derived.Deep.RegionHeld3
namespace Go.Proofs.YtmipoghemfopaaaGreat.routeRow
open Go.RowKit Go.Deep base
set_option linter.unusedVariables false

structure Rt where
  via : Int
  pref : Int
  len : Int
  mark : Bool
def rtV (r : Rt) : Value := .agg #[.int .i64 r.via, .int .i64 r.pref, .int .i64 r.len, .bool r.mark]
def rc (r : Rt) : Nat → Value
  | 0 => .int .i64 r.via
  | 1 => .int .i64 r.pref
  | 2 => .int .i64 r.len
  | _ => .bool r.mark
abbrev Rs := Nat → Rt
/-- A slice of routes. -/
structure RtRow (w : World) (a : Option Addr) (len : Nat) (g : Rs) : Prop where
  most : len ≤ maxLen
  cell : ∀ i, i < len → ∃ b off, a = some ⟨b, off, none⟩ ∧ ∀ j, j < 4 → w.cell? ⟨b, off + i * 4 + j, none⟩ = some (rc (g i) j)
theorem RtRow.kept {W w1 : World} {a : Option Addr} {len : Nat} {g : Rs} (h : RtRow W a len g) (hk : ∀ b o v, W.cell? ⟨b, o, none⟩ = some v → w1.cell? ⟨b, o, none⟩ = some v) : RtRow w1 a len g :=
  ⟨h.most, fun i hi => by
    obtain ⟨b, off, e, h0⟩ := h.cell i hi
    exact ⟨b, off, e, fun j hj => hk _ _ _ (h0 j hj)⟩⟩
theorem RtRow.below {W w1 : World} {a : Option Addr} {len : Nat} {g : Rs} (h : RtRow W a len g) (hb : Below W.heap.size W w1) : RtRow w1 a len g := h.kept fun b o v hv => keep hb hv
theorem RtRow.at4 {w : World} {a : Option Addr} {len i : Nat} {g : Rs} (h : RtRow w a len g) (hi : i < len) : ∃ b off, a = some ⟨b, off, none⟩ ∧ w.cell? ⟨b, off + i * 4, none⟩ = some (.int .i64 (g i).via) ∧ w.cell? ⟨b, off + i * 4 + 1, none⟩ = some (.int .i64 (g i).pref) ∧ w.cell? ⟨b, off + i * 4 + 2, none⟩ = some (.int .i64 (g i).len) ∧ w.cell? ⟨b, off + i * 4 + 3, none⟩ = some (.bool (g i).mark) := by
  obtain ⟨b, off, e, hc⟩ := h.cell i hi
  exact ⟨b, off, e, hc 0 (by omega), hc 1 (by omega), hc 2 (by omega), hc 3 (by omega)⟩
theorem RtRow.at0 {w : World} {a : Option Addr} {len : Nat} {g : Rs} (h : RtRow w a len g) (hi : 0 < len) : ∃ b off, a = some ⟨b, off, none⟩ ∧ w.cell? ⟨b, off, none⟩ = some (.int .i64 (g 0).via) ∧ w.cell? ⟨b, off + 1, none⟩ = some (.int .i64 (g 0).pref) ∧ w.cell? ⟨b, off + 2, none⟩ = some (.int .i64 (g 0).len) ∧ w.cell? ⟨b, off + 3, none⟩ = some (.bool (g 0).mark) := by
  obtain ⟨b, off, e, h0, h1, h2, h3⟩ := h.at4 hi
  exact ⟨b, off, e, by simpa using h0, by simpa using h1, by simpa using h2, by simpa using h3⟩

/-- A route is better than another one. -/
def better (a b : Rt) : Bool := if a.pref = b.pref then (if a.len = b.len then decide (a.via < b.via) else decide (a.len < b.len)) else decide (b.pref < a.pref)
/-- The first of the best of the first k + 1. -/
def bestTo (g : Rs) : Nat → Rt
  | 0 => g 0
  | k + 1 => if better (g (k + 1)) (bestTo g k) = true then g (k + 1) else bestTo g k
theorem best_yes {g : Rs} {k : Nat} (h : better (g (k + 1)) (bestTo g k) = true) : bestTo g (k + 1) = g (k + 1) := by simp only [bestTo]; rw [if_pos h]
theorem best_no {g : Rs} {k : Nat} (h : better (g (k + 1)) (bestTo g k) = false) : bestTo g (k + 1) = bestTo g k := by simp only [bestTo]; rw [if_neg (by rw [h]; exact Bool.false_ne_true)]

/-- A row of routes in block N of its own, of which the first k are laid. -/
structure RtLaid (w : World) (N len k : Nat) (g : Rs) : Prop where
  row : ∃ f, w.rowIs N 56 (len * 4) f ∧ ∀ i, i < k → ∀ j, j < 4 → f (i * 4 + j) = rc (g i) j
theorem RtLaid.is {w : World} {N len : Nat} {g : Rs} (h : RtLaid w N len len g) (hm : len ≤ maxLen) : RtRow w (some ⟨N, 0, none⟩) len g := by
  obtain ⟨f, hf, hc⟩ := h.row
  refine ⟨hm, fun i hi => ⟨N, 0, rfl, fun j hj => ?_⟩⟩
  rw [← hc i hi j hj]
  simpa using hf.cell (i := i * 4 + j) (by omega)
theorem RtLaid.below {w w1 : World} {N len k : Nat} {g : Rs} (h : RtLaid w N len k g) (hb : Below w.heap.size w w1) : RtLaid w1 N len k g := by
  obtain ⟨f, hf, hc⟩ := h.row
  exact ⟨f, hf.of_block (hb.block _ hf.lt), hc⟩
theorem RtLaid.next {w : World} {N len k : Nat} {g : Rs} (h : RtLaid w N len k g) (hk : k < len) : RtLaid ((((w.setCell ⟨N, k * 4, none⟩ (.int .i64 (g k).via)).setCell ⟨N, k * 4 + 1, none⟩ (.int .i64 (g k).pref)).setCell ⟨N, k * 4 + 2, none⟩ (.int .i64 (g k).len)).setCell ⟨N, k * 4 + 3, none⟩ (.bool (g k).mark)) N len (k + 1) g := by
  obtain ⟨f, hf, hc⟩ := h.row
  refine ⟨_, ((((hf.set (k * 4) _).set (k * 4 + 1) _).set (k * 4 + 2) _).set (k * 4 + 3) _), fun i hi j hj => ?_⟩
  by_cases e : i = k
  · subst e
    match j, hj with
    | 0, _ => rw [if_neg (by omega), if_neg (by omega), if_neg (by omega), if_pos (by omega)]; rfl
    | 1, _ => rw [if_neg (by omega), if_neg (by omega), if_pos rfl]; rfl
    | 2, _ => rw [if_neg (by omega), if_pos rfl]; rfl
    | 3, _ => rw [if_pos rfl]; rfl
    | j + 4, hj => exact absurd hj (by omega)
  · rw [if_neg (by omega), if_neg (by omega), if_neg (by omega), if_neg (by omega)]
    exact hc i (by omega) j hj

theorem info_Route : (Tryz.prog.info? 56).map (fun i => (i.zero, i.size, i.bytes)) = some (some (.agg #[.int .i64 0, .int .i64 0, .int .i64 0, .bool false]), 4, 32) := by kernel_rfl
theorem run_make_Route (n : Nat) (h : n ≤ 1048576) (w : World) :
    (Instr.makeSlice 34 (.int .i64 (n : Int)) (.int .i64 (n : Int))).run Tryz.prog w = .ok (.slice (some ⟨w.heap.size, 0, none⟩) n n) (w.alloc (.cells (madeCells #[.int .i64 0, .int .i64 0, .int .i64 0, .bool false] (n * 4)) 56)) := by
  obtain ⟨i, hi, hzz⟩ := Option.map_eq_some_iff.1 info_Route
  simp only [Prod.mk.injEq] at hzz
  obtain ⟨hz, hs, hb⟩ := hzz
  have hr := run_make (P := Tryz.prog) w 34 56 i _ Tryz.underlying34 hi hz .i64 .i64 n n (by omega) (Int.le_refl _) (by rw [hb]; omega) (by omega)
  simp only [Int.toNat_natCast, hs] at hr
  exact hr

end Go.Proofs.YtmipoghemfopaaaGreat.routeRow
