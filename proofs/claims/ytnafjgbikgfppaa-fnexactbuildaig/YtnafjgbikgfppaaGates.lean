/- Circuits: rows of gates in memory, and the laws' own helpers that count, copy and compare them; conditions: lengths that fit. -/
import Derived.Test.YtnafjgbikgfppaaBase
import Derived.Laws.ResultCell
import Derived.Deep.RegionHeld3
namespace Go.Proofs.Ytnafjgbikgfppaa.gates
open Go.RowKit Go.Deep base
set_option linter.unusedVariables false

abbrev Gs := Nat → Int × Int
/-- A slice of gates. -/
structure GateRow (w : World) (a : Option Addr) (len : Nat) (g : Gs) : Prop where
  most : len ≤ maxLen
  cell : ∀ i, i < len → ∃ b off, a = some ⟨b, off, none⟩ ∧ w.cell? ⟨b, off + i * 2, none⟩ = some (.int .i64 (g i).1) ∧ w.cell? ⟨b, off + i * 2 + 1, none⟩ = some (.int .i64 (g i).2)
theorem GateRow.below {W w1 : World} {a : Option Addr} {len : Nat} {g : Gs} (h : GateRow W a len g) (hb : Below W.heap.size W w1) : GateRow w1 a len g :=
  ⟨h.most, fun i hi => by
    obtain ⟨b, off, e, h0, h1⟩ := h.cell i hi
    exact ⟨b, off, e, keep hb h0, keep hb h1⟩⟩

/-- A row of gates in block N of its own, of which the first k are laid. -/
structure GLaid (w : World) (N len k : Nat) (g : Gs) : Prop where
  row : ∃ f, w.rowIs N 69 (len * 2) f ∧ ∀ i, i < k → f (i * 2) = .int .i64 (g i).1 ∧ f (i * 2 + 1) = .int .i64 (g i).2
theorem GLaid.gates {w : World} {N len : Nat} {g : Gs} (h : GLaid w N len len g) (hm : len ≤ maxLen) : GateRow w (some ⟨N, 0, none⟩) len g := by
  obtain ⟨f, hf, hc⟩ := h.row
  refine ⟨hm, fun i hi => ?_⟩
  obtain ⟨h0, h1⟩ := hc i hi
  refine ⟨N, 0, rfl, ?_, ?_⟩
  · rw [← h0]; simpa using hf.cell (i := i * 2) (by omega)
  · rw [← h1]; simpa using hf.cell (i := i * 2 + 1) (by omega)
theorem GLaid.below {w w1 : World} {N len k : Nat} {g : Gs} (h : GLaid w N len k g) (hb : Below w.heap.size w w1) : GLaid w1 N len k g := by
  obtain ⟨f, hf, hc⟩ := h.row
  exact ⟨f, hf.of_block (hb.block _ hf.lt), hc⟩
theorem GLaid.next {w : World} {N len k : Nat} {g : Gs} (h : GLaid w N len k g) (hk : k < len) :
    GLaid ((w.setCell ⟨N, k * 2, none⟩ (.int .i64 (g k).1)).setCell ⟨N, k * 2 + 1, none⟩ (.int .i64 (g k).2)) N len (k + 1) g := by
  obtain ⟨f, hf, hc⟩ := h.row
  refine ⟨_, (hf.set (k * 2) _).set (k * 2 + 1) _, fun i hi => ?_⟩
  by_cases e : i = k
  · subst e
    exact ⟨by rw [if_neg (by omega), if_pos rfl], by rw [if_pos rfl]⟩
  · obtain ⟨h0, h1⟩ := hc i (by omega)
    exact ⟨by rw [if_neg (by omega), if_neg (by omega)]; exact h0, by rw [if_neg (by omega), if_neg (by omega)]; exact h1⟩
theorem GLaid.set {w : World} {N len k : Nat} {g : Gs} (h : GLaid w N len k g) {x : Addr} (hx : x.block ≠ N) (v : Value) : GLaid (w.setCell x v) N len k g := by
  obtain ⟨f, hf, hc⟩ := h.row
  exact ⟨f, hf.of_block (Below.heap_setCell _ _ _ _ (Ne.symm hx)), hc⟩

theorem info_gate : (Try.prog.info? 69).map (fun i => (i.zero, i.size, i.bytes)) = some (some (.agg #[.int .i64 0, .int .i64 0]), 2, 16) := by kernel_rfl
theorem run_make_gates (n : Nat) (h : n ≤ 1048576) (w : World) :
    (Instr.makeSlice 24 (.int .i64 (n : Int)) (.int .i64 (n : Int))).run Try.prog w = .ok (.slice (some ⟨w.heap.size, 0, none⟩) n n) (w.alloc (.cells (madeCells #[.int .i64 0, .int .i64 0] (n * 2)) 69)) := by
  obtain ⟨i, hi, hzz⟩ := Option.map_eq_some_iff.1 info_gate
  simp only [Prod.mk.injEq] at hzz
  obtain ⟨hz, hs, hb⟩ := hzz
  have hr := run_make (P := Try.prog) w 24 69 i _ Try.underlying24 hi hz .i64 .i64 n n (by omega) (Int.le_refl _) (by rw [hb]; omega) (by omega)
  simp only [Int.toNat_natCast, hs] at hr
  exact hr

set_option maxHeartbeats 400000 in
theorem eqGate (x y : Int) (w : World) :
    Calls Try.prog 41 #[.agg #[.int .i64 x, .int .i64 y], .agg #[.int .i64 x, .int .i64 y]] w fun e w' => e = .returned (.bool true) ∧ Below w.heap.size w w' := by
  have hx : (x != x) = false := by simp
  have hy : (y != y) = false := by simp
  go_enter Try.func41, Try.ntmps41
  go_wp2
  go_ret
  exact ⟨rfl, (by repeat (first | exact Below.refl _ _ | assumption | refine Below.drew ?_ | refine Below.alloc ?_ (by first | exact Nat.le_refl _ | omega | (simp; done) | (simp; omega)) _ | refine Below.setCell ?_ (by first | exact Nat.le_refl _ | omega | (simp; done) | (simp; omega)) _))⟩

set_option maxHeartbeats 1600000 in
set_option maxRecDepth 8000 in
theorem eqGateS (a a' : Option Addr) (len cap cap' : Nat) (g : Gs) (w : World) (hr : GateRow w a len g) (hr' : GateRow w a' len g) :
    Calls Try.prog 25 #[.slice a len cap, .slice a' len cap'] w fun e w' => e = .returned (.bool true) ∧ Below w.heap.size w w' := by
  have hmost := hr.most
  unfold maxLen at hmost
  have HR := hid hr
  have HR' := hid hr'
  clear hr hr'
  have hb : ((len : Int) != (len : Int)) = false := by simp
  go_enter Try.func25, Try.ntmps25
  go_wp2
  go_loopw [5] (fun i wr => ∃ k : Nat, k ≤ len ∧ i = .int .i64 k ∧ Below w.heap.size w wr) (fun i _ => len - (intOf i).toNat)
  case atStart => exact ⟨0, Nat.zero_le _, rfl, Below.refl _ _⟩
  case round =>
    obtain ⟨k, hk, rfl, hbel⟩ := hrel
    have HB := hid hbel
    by_cases hlt : k < len
    · obtain ⟨b, off, rfl, hd, he⟩ := HR.out.cell k hlt
      obtain ⟨b', off', rfl, hd', he'⟩ := HR'.out.cell k hlt
      replace hd := keep hbel hd
      replace he := keep hbel he
      replace hd' := keep hbel hd'
      replace he' := keep hbel he'
      clear hbel
      generalize (g k).1 = x at *
      generalize (g k).2 = y at *
      go_wp2_with fail
      have HK : Hid (∀ w8 : World, Below wr.heap.size wr w8 → w8.cell? ⟨b, off + k * 2, none⟩ = some (.int .i64 x) ∧ w8.cell? ⟨b, off + k * 2 + 1, none⟩ = some (.int .i64 y) ∧ w8.cell? ⟨b', off' + k * 2, none⟩ = some (.int .i64 x) ∧ w8.cell? ⟨b', off' + k * 2 + 1, none⟩ = some (.int .i64 y) ∧ Below wr.heap.size wr w8) :=
        fun w8 h => ⟨keep h hd, keep h he, keep h hd', keep h he', h⟩
      clear hd he hd' he'
      go_region_held3 (fun w8 => w8.cell? ⟨b, off + k * 2, none⟩ = some (.int .i64 x) ∧ w8.cell? ⟨b, off + k * 2 + 1, none⟩ = some (.int .i64 y) ∧ w8.cell? ⟨b', off' + k * 2, none⟩ = some (.int .i64 x) ∧ w8.cell? ⟨b', off' + k * 2 + 1, none⟩ = some (.int .i64 y) ∧ Below wr.heap.size wr w8)
        (refine HK.out _ (by first | assumption | exact (Below.refl _ wr).drew | exact hb57))
        ((go_at_call 41; refine (eqGate x y _).mono ?_; rintro e w7 ⟨rfl, hb7⟩; have hb57 : Below wr.heap.size wr w7 := ((Below.refl _ wr).drew).trans hb7; clear hb7))
      all_goals
        have HB5 := hid hb57
        clear hb57
        go_wp2
        go_roundw
        case rel => exact ⟨k + 1, by omega, by go_num, HB.out.trans (HB5.out.mono HB.out.size)⟩
        case measure => simp [intOf]; omega
    · have e : k = len := by omega
      subst e
      clear hbel
      go_wp2
      go_ret
      exact ⟨rfl, HB.out⟩

set_option maxHeartbeats 400000 in
theorem eqAig (n : Int) (a a' : Option Addr) (len cap cap' : Nat) (g : Gs) (w : World) (hr : GateRow w a len g) (hr' : GateRow w a' len g) :
    Calls Try.prog 8 #[.agg #[.int .i64 n, .slice a len cap], .agg #[.int .i64 n, .slice a' len cap']] w fun e w' => e = .returned (.bool true) ∧ Below w.heap.size w w' := by
  have HR := hid hr
  have HR' := hid hr'
  clear hr hr'
  have hk : (n != n) = false := by simp
  go_enter Try.func8, Try.ntmps8
  go_wp2_with fail
  refine (eqGateS a a' len cap cap' g _ (HR.out.below (by repeat (first | exact Below.refl _ _ | assumption | refine Below.drew ?_ | refine Below.alloc ?_ (by first | exact Nat.le_refl _ | omega | (simp; done) | (simp; omega)) _ | refine Below.setCell ?_ (by first | exact Nat.le_refl _ | omega | (simp; done) | (simp; omega)) _))) (HR'.out.below (by repeat (first | exact Below.refl _ _ | assumption | refine Below.drew ?_ | refine Below.alloc ?_ (by first | exact Nat.le_refl _ | omega | (simp; done) | (simp; omega)) _ | refine Below.setCell ?_ (by first | exact Nat.le_refl _ | omega | (simp; done) | (simp; omega)) _)))).mono ?_
  rintro e w1 ⟨rfl, hb1⟩
  have HB := hid ((show Below w.heap.size w _ from (by repeat (first | exact Below.refl _ _ | assumption | refine Below.drew ?_ | refine Below.alloc ?_ (by first | exact Nat.le_refl _ | omega | (simp; done) | (simp; omega)) _ | refine Below.setCell ?_ (by first | exact Nat.le_refl _ | omega | (simp; done) | (simp; omega)) _))).trans (hb1.mono (by simp; omega)))
  clear hb1
  go_wp2
  go_ret
  exact ⟨rfl, HB.out⟩
end Go.Proofs.Ytnafjgbikgfppaa.gates
