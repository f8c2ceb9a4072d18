/- Circuits: rows of gates in memory, and the laws' own helpers that count, copy and compare them; conditions: lengths that fit. -/
import Derived.Test.YtijeicccmjgpiaaBase
import Derived.Laws.ResultCell
import Derived.Deep.RegionHeld3
namespace Go.Proofs.Ytijeicccmjgpiaa.gates
open Go.RowKit Go.Deep base
set_option linter.unusedVariables false

abbrev Gs := Nat → Int × Int
/-- A slice of gates. -/
structure GateRow (w : World) (a : Option Addr) (len : Nat) (g : Gs) : Prop where
  most : len ≤ maxLen
  cell : ∀ i, i < len → ∃ b off, a = some ⟨b, off, none⟩ ∧ w.cell? ⟨b, off + i * 2, none⟩ = some (.int .i64 (g i).1) ∧ w.cell? ⟨b, off + i * 2 + 1, none⟩ = some (.int .i64 (g i).2)
theorem GateRow.below {W w1 : World} {a : Option Addr} {len : Nat} {g : Gs} (h : GateRow W a len g) (hb : Below W.heap.size W w1) : GateRow w1 a len g :=
  ⟨h.most, fun i hi => by
    obtain ⟨b, off, e, h0, h1⟩ := h.cell i hi
    exact ⟨b, off, e, keep hb h0, keep hb h1⟩⟩

set_option maxHeartbeats 400000 in
theorem szGateS (a : Option Addr) (len cap : Nat) (left : Int) (w : World) (hm : len ≤ maxLen) (h0 : 0 ≤ left) (h1 : left ≤ 1048576) :
    Calls Try.prog 26 #[.slice a len cap, .int .i64 left] w fun e w' => e = .returned (.int .i64 (if left < len then -1 else left - len)) ∧ w' = w := by
  unfold maxLen at hm
  by_cases h : left < (len : Int)
  · rw [if_pos h]
    go_enter Try.func26, Try.ntmps26
    go_wp2
    go_ret
    exact ⟨rfl, rfl⟩
  · rw [if_neg h]
    go_enter Try.func26, Try.ntmps26
    go_wp2
    go_ret
    exact ⟨rfl, rfl⟩

set_option maxHeartbeats 400000 in
theorem szAig (n : Int) (a : Option Addr) (len cap : Nat) (left : Int) (w : World) (hm : len ≤ maxLen) (h0 : 0 ≤ left) (h1 : left ≤ 1048576) :
    Calls Try.prog 6 #[.agg #[.int .i64 n, .slice a len cap], .int .i64 left] w fun e w' => ∃ r : Int, e = .returned (.int .i64 r) ∧ Below w.heap.size w w' ∧ -1 ≤ r ∧ r ≤ left ∧ (0 ≤ r → (len : Int) ≤ left) := by
  by_cases h : left < (len : Int)
  · go_enter Try.func6, Try.ntmps6
    go_wp2_with fail
    refine (szGateS a len cap left _ hm h0 h1).mono ?_
    rintro e w1 ⟨rfl, rfl⟩
    rw [if_pos h]
    go_wp2
    go_ret
    exact ⟨_, rfl, (by repeat (first | exact Below.refl _ _ | assumption | refine Below.drew ?_ | refine Below.alloc ?_ (by first | exact Nat.le_refl _ | omega | (simp; done) | (simp; omega)) _ | refine Below.setCell ?_ (by first | exact Nat.le_refl _ | omega | (simp; done) | (simp; omega)) _)), by omega, by omega, by omega⟩
  · go_enter Try.func6, Try.ntmps6
    go_wp2_with fail
    refine (szGateS a len cap left _ hm h0 h1).mono ?_
    rintro e w1 ⟨rfl, rfl⟩
    rw [if_neg (by omega)]
    go_wp2
    go_ret
    exact ⟨_, rfl, (by repeat (first | exact Below.refl _ _ | assumption | refine Below.drew ?_ | refine Below.alloc ?_ (by first | exact Nat.le_refl _ | omega | (simp; done) | (simp; omega)) _ | refine Below.setCell ?_ (by first | exact Nat.le_refl _ | omega | (simp; done) | (simp; omega)) _)), by omega, by omega, by omega⟩

set_option maxHeartbeats 400000 in
theorem toGate (x y : Int) (w : World) :
    Calls Try.prog 45 #[.agg #[.int .i64 x, .int .i64 y]] w fun e w' => e = .returned (.agg #[.int .i64 x, .int .i64 y]) ∧ Below w.heap.size w w' := by
  go_enter Try.func45, Try.ntmps45
  go_wp2
  refine bodyPost_ret (v := .agg #[.int .i64 x, .int .i64 y]) (by simp [results, Try.results45, go_sem]) rfl ⟨rfl, (by repeat (first | exact Below.refl _ _ | assumption | refine Below.drew ?_ | refine Below.alloc ?_ (by first | exact Nat.le_refl _ | omega | (simp; done) | (simp; omega)) _ | refine Below.setCell ?_ (by first | exact Nat.le_refl _ | omega | (simp; done) | (simp; omega)) _))⟩

/-- A row of gates in block N of its own, of which the first k are laid. -/
structure GLaid (w : World) (N len k : Nat) (g : Gs) : Prop where
  row : ∃ f, w.rowIs N 56 (len * 2) f ∧ ∀ i, i < k → f (i * 2) = .int .i64 (g i).1 ∧ f (i * 2 + 1) = .int .i64 (g i).2
theorem GLaid.gates {w : World} {N len : Nat} {g : Gs} (h : GLaid w N len len g) (hm : len ≤ maxLen) : GateRow w (some ⟨N, 0, none⟩) len g := by
  obtain ⟨f, hf, hc⟩ := h.row
  refine ⟨hm, fun i hi => ?_⟩
  obtain ⟨h0, h1⟩ := hc i hi
  refine ⟨N, 0, rfl, ?_, ?_⟩
  · rw [← h0]; simpa using hf.cell (i := i * 2) (by omega)
  · rw [← h1]; simpa using hf.cell (i := i * 2 + 1) (by omega)
theorem GLaid.below {w w1 : World} {N len k : Nat} {g : Gs} (h : GLaid w N len k g) (hb : Below w.heap.size w w1) : GLaid w1 N len k g := by
  obtain ⟨f, hf, hc⟩ := h.row
  exact ⟨f, hf.of_block (hb.block _ hf.lt), hc⟩
theorem GLaid.next {w : World} {N len k : Nat} {g : Gs} (h : GLaid w N len k g) (hk : k < len) :
    GLaid ((w.setCell ⟨N, k * 2, none⟩ (.int .i64 (g k).1)).setCell ⟨N, k * 2 + 1, none⟩ (.int .i64 (g k).2)) N len (k + 1) g := by
  obtain ⟨f, hf, hc⟩ := h.row
  refine ⟨_, (hf.set (k * 2) _).set (k * 2 + 1) _, fun i hi => ?_⟩
  by_cases e : i = k
  · subst e
    exact ⟨by rw [if_neg (by omega), if_pos rfl], by rw [if_pos rfl]⟩
  · obtain ⟨h0, h1⟩ := hc i (by omega)
    exact ⟨by rw [if_neg (by omega), if_neg (by omega)]; exact h0, by rw [if_neg (by omega), if_neg (by omega)]; exact h1⟩
theorem GLaid.set {w : World} {N len k : Nat} {g : Gs} (h : GLaid w N len k g) {x : Addr} (hx : x.block ≠ N) (v : Value) : GLaid (w.setCell x v) N len k g := by
  obtain ⟨f, hf, hc⟩ := h.row
  exact ⟨f, hf.of_block (Below.heap_setCell _ _ _ _ (Ne.symm hx)), hc⟩

theorem info_gate : (Try.prog.info? 56).map (fun i => (i.zero, i.size, i.bytes)) = some (some (.agg #[.int .i64 0, .int .i64 0]), 2, 16) := by kernel_rfl
theorem run_make_gates (n : Nat) (h : n ≤ 1048576) (w : World) :
    (Instr.makeSlice 27 (.int .i64 (n : Int)) (.int .i64 (n : Int))).run Try.prog w = .ok (.slice (some ⟨w.heap.size, 0, none⟩) n n) (w.alloc (.cells (madeCells #[.int .i64 0, .int .i64 0] (n * 2)) 56)) := by
  obtain ⟨i, hi, hzz⟩ := Option.map_eq_some_iff.1 info_gate
  simp only [Prod.mk.injEq] at hzz
  obtain ⟨hz, hs, hb⟩ := hzz
  have hr := run_make (P := Try.prog) w 27 56 i _ Try.underlying27 hi hz .i64 .i64 n n (by omega) (Int.le_refl _) (by rw [hb]; omega) (by omega)
  simp only [Int.toNat_natCast, hs] at hr
  exact hr

set_option maxHeartbeats 800000 in
theorem toGateS (a : Option Addr) (len cap : Nat) (g : Gs) (w : World) (hr : GateRow w a len g) (hb : len ≤ 1048576) :
    Calls Try.prog 28 #[.slice a len cap] w fun e w' => ∃ N, e = .returned (.slice (some ⟨N, 0, none⟩) len len) ∧ w.heap.size ≤ N ∧ Below w.heap.size w w' ∧ GLaid w' N len len g := by
  have HR := hid hr
  clear hr
  have hmk := run_make_gates len hb
  go_enter Try.func28, Try.ntmps28
  go_wp2
  go_loopw [4] (fun i wr => ∃ k : Nat, k ≤ len ∧ i = .int .i64 k ∧ Below w.heap.size w wr ∧ GLaid wr w.heap.size len k g) (fun i _ => len - (intOf i).toNat)
  case atStart => exact ⟨0, Nat.zero_le _, rfl, (Below.refl _ _).alloc (Nat.le_refl _) _, ⟨fun i => (madeCells #[.int .i64 0, .int .i64 0] (len * 2))[i]?.getD undef, by
      have := World.rowIs_alloc w (madeCells #[.int .i64 0, .int .i64 0] (len * 2)) 56 (fun i => (madeCells #[.int .i64 0, .int .i64 0] (len * 2))[i]?.getD undef) (fun i hi => by rw [Array.getElem?_eq_getElem hi]; rfl)
      rwa [size_madeCells] at this, fun i hi => absurd hi (Nat.not_lt_zero _)⟩⟩
  case round =>
    obtain ⟨k, hk, rfl, hbel, hlaid⟩ := hrel
    have HB := hid hbel
    have HD := hid hlaid
    by_cases hlt : k < len
    · obtain ⟨b, off, rfl, hc0, hc1⟩ := HR.out.cell k hlt
      replace hc0 := keep hbel hc0
      replace hc1 := keep hbel hc1
      clear hbel hlaid hmk
      go_wp2_with fail
      refine (toGate _ _ _).mono ?_
      rintro e w2 ⟨rfl, hb2⟩
      have hL2 := HD.out.below hb2
      obtain ⟨f, hf, -⟩ := hL2.row
      have g0 := hf.cell (i := k * 2) (by omega)
      have g1 := hf.cell (i := k * 2 + 1) (by omega)
      have z0 := hf.frozen (k * 2)
      have z1 := hf.frozen (k * 2 + 1)
      have HL2 := hid hL2
      have HB2 := hid (HB.out.trans (hb2.mono HB.out.size))
      clear hb2 hL2 hf
      go_wp2
      go_roundw
      case rel => exact ⟨k + 1, by omega, by go_num, (HB2.out.setCell (Nat.le_refl _) _).setCell (Nat.le_refl _) _, HL2.out.next hlt⟩
      case measure => simp [intOf]; omega
    · have e : k = len := by omega
      subst e
      clear hbel hlaid hmk
      go_wp2
      go_ret
      exact ⟨_, rfl, Nat.le_refl _, HB.out, HD.out⟩

set_option maxHeartbeats 400000 in
theorem toAig (n : Int) (a : Option Addr) (len cap : Nat) (g : Gs) (w : World) (hr : GateRow w a len g) (hb : len ≤ 1048576) :
    Calls Try.prog 8 #[.agg #[.int .i64 n, .slice a len cap]] w fun e w' => ∃ N, e = .returned (.agg #[.int .i64 n, .slice (some ⟨N, 0, none⟩) len len]) ∧ w.heap.size ≤ N ∧ Below w.heap.size w w' ∧ GLaid w' N len len g := by
  have HR := hid hr
  clear hr
  go_enter Try.func8, Try.ntmps8
  go_wp2_with fail
  refine (toGateS a len cap g _ (HR.out.below (by repeat (first | exact Below.refl _ _ | assumption | refine Below.drew ?_ | refine Below.alloc ?_ (by first | exact Nat.le_refl _ | omega | (simp; done) | (simp; omega)) _ | refine Below.setCell ?_ (by first | exact Nat.le_refl _ | omega | (simp; done) | (simp; omega)) _))) hb).mono ?_
  rintro e w1 ⟨N, rfl, hN, hb1, hx⟩
  obtain ⟨hc, hf⟩ := bcell hb1
  have hz : w.heap.size + 2 < w1.heap.size := by
    obtain h := hb1.size
    simp at h
    have hx0 : (w.heap.size + 3) ≤ w1.heap.size := by simpa using h
    omega
  have hN' : w.heap.size + 3 ≤ N := by simpa using hN
  have hw0 : Below w.heap.size w w1 := (show Below _ _ _ from (by repeat (first | exact Below.refl _ _ | assumption | refine Below.drew ?_ | refine Below.alloc ?_ (by first | exact Nat.le_refl _ | omega | (simp; done) | (simp; omega)) _ | refine Below.setCell ?_ (by first | exact Nat.le_refl _ | omega | (simp; done) | (simp; omega)) _))).trans (hb1.mono (by simp; omega))
  have HX := hid hx
  have H0 := hid hw0
  have HN := hid hN'
  clear hb1 hx hw0 hN hN'
  go_wp2
  refine bodyPost_ret (v := .agg #[.int .i64 n, .slice (some ⟨N, 0, none⟩) len len]) (by simp [results, Try.results8, go_sem, hc]) rfl ⟨N, rfl, by have := HN.out; omega, ?_, ?_⟩
  · exact ((H0.out.setCell (by simp; omega) _).setCell (by simp) _).setCell (by simp) _
  · have := HN.out
    exact ((HX.out.set (by simp; omega) _).set (by simp; omega) _).set (by simp; omega) _

set_option maxHeartbeats 400000 in
theorem eqGate (x y : Int) (w : World) :
    Calls Try.prog 46 #[.agg #[.int .i64 x, .int .i64 y], .agg #[.int .i64 x, .int .i64 y]] w fun e w' => e = .returned (.bool true) ∧ Below w.heap.size w w' := by
  have hx : (x != x) = false := by simp
  have hy : (y != y) = false := by simp
  go_enter Try.func46, Try.ntmps46
  go_wp2
  go_ret
  exact ⟨rfl, (by repeat (first | exact Below.refl _ _ | assumption | refine Below.drew ?_ | refine Below.alloc ?_ (by first | exact Nat.le_refl _ | omega | (simp; done) | (simp; omega)) _ | refine Below.setCell ?_ (by first | exact Nat.le_refl _ | omega | (simp; done) | (simp; omega)) _))⟩

set_option maxHeartbeats 1600000 in
set_option maxRecDepth 8000 in
theorem eqGateS (a a' : Option Addr) (len cap cap' : Nat) (g : Gs) (w : World) (hr : GateRow w a len g) (hr' : GateRow w a' len g) :
    Calls Try.prog 30 #[.slice a len cap, .slice a' len cap'] w fun e w' => e = .returned (.bool true) ∧ Below w.heap.size w w' := by
  have hmost := hr.most
  unfold maxLen at hmost
  have HR := hid hr
  have HR' := hid hr'
  clear hr hr'
  have hb : ((len : Int) != (len : Int)) = false := by simp
  go_enter Try.func30, Try.ntmps30
  go_wp2
  go_loopw [5] (fun i wr => ∃ k : Nat, k ≤ len ∧ i = .int .i64 k ∧ Below w.heap.size w wr) (fun i _ => len - (intOf i).toNat)
  case atStart => exact ⟨0, Nat.zero_le _, rfl, Below.refl _ _⟩
  case round =>
    obtain ⟨k, hk, rfl, hbel⟩ := hrel
    have HB := hid hbel
    by_cases hlt : k < len
    · obtain ⟨b, off, rfl, hd, he⟩ := HR.out.cell k hlt
      obtain ⟨b', off', rfl, hd', he'⟩ := HR'.out.cell k hlt
      replace hd := keep hbel hd
      replace he := keep hbel he
      replace hd' := keep hbel hd'
      replace he' := keep hbel he'
      clear hbel
      generalize (g k).1 = x at *
      generalize (g k).2 = y at *
      go_wp2_with fail
      have HK : Hid (∀ w8 : World, Below wr.heap.size wr w8 → w8.cell? ⟨b, off + k * 2, none⟩ = some (.int .i64 x) ∧ w8.cell? ⟨b, off + k * 2 + 1, none⟩ = some (.int .i64 y) ∧ w8.cell? ⟨b', off' + k * 2, none⟩ = some (.int .i64 x) ∧ w8.cell? ⟨b', off' + k * 2 + 1, none⟩ = some (.int .i64 y) ∧ Below wr.heap.size wr w8) :=
        fun w8 h => ⟨keep h hd, keep h he, keep h hd', keep h he', h⟩
      clear hd he hd' he'
      go_region_held3 (fun w8 => w8.cell? ⟨b, off + k * 2, none⟩ = some (.int .i64 x) ∧ w8.cell? ⟨b, off + k * 2 + 1, none⟩ = some (.int .i64 y) ∧ w8.cell? ⟨b', off' + k * 2, none⟩ = some (.int .i64 x) ∧ w8.cell? ⟨b', off' + k * 2 + 1, none⟩ = some (.int .i64 y) ∧ Below wr.heap.size wr w8)
        (refine HK.out _ (by first | assumption | exact (Below.refl _ wr).drew | exact hb57))
        ((go_at_call 46; refine (eqGate x y _).mono ?_; rintro e w7 ⟨rfl, hb7⟩; have hb57 : Below wr.heap.size wr w7 := ((Below.refl _ wr).drew).trans hb7; clear hb7))
      all_goals
        have HB5 := hid hb57
        clear hb57
        go_wp2
        go_roundw
        case rel => exact ⟨k + 1, by omega, by go_num, HB.out.trans (HB5.out.mono HB.out.size)⟩
        case measure => simp [intOf]; omega
    · have e : k = len := by omega
      subst e
      clear hbel
      go_wp2
      go_ret
      exact ⟨rfl, HB.out⟩

set_option maxHeartbeats 400000 in
theorem eqAig (n : Int) (a a' : Option Addr) (len cap cap' : Nat) (g : Gs) (w : World) (hr : GateRow w a len g) (hr' : GateRow w a' len g) :
    Calls Try.prog 10 #[.agg #[.int .i64 n, .slice a len cap], .agg #[.int .i64 n, .slice a' len cap']] w fun e w' => e = .returned (.bool true) ∧ Below w.heap.size w w' := by
  have HR := hid hr
  have HR' := hid hr'
  clear hr hr'
  have hk : (n != n) = false := by simp
  go_enter Try.func10, Try.ntmps10
  go_wp2_with fail
  refine (eqGateS a a' len cap cap' g _ (HR.out.below (by repeat (first | exact Below.refl _ _ | assumption | refine Below.drew ?_ | refine Below.alloc ?_ (by first | exact Nat.le_refl _ | omega | (simp; done) | (simp; omega)) _ | refine Below.setCell ?_ (by first | exact Nat.le_refl _ | omega | (simp; done) | (simp; omega)) _))) (HR'.out.below (by repeat (first | exact Below.refl _ _ | assumption | refine Below.drew ?_ | refine Below.alloc ?_ (by first | exact Nat.le_refl _ | omega | (simp; done) | (simp; omega)) _ | refine Below.setCell ?_ (by first | exact Nat.le_refl _ | omega | (simp; done) | (simp; omega)) _)))).mono ?_
  rintro e w1 ⟨rfl, hb1⟩
  have HB := hid ((show Below w.heap.size w _ from (by repeat (first | exact Below.refl _ _ | assumption | refine Below.drew ?_ | refine Below.alloc ?_ (by first | exact Nat.le_refl _ | omega | (simp; done) | (simp; omega)) _ | refine Below.setCell ?_ (by first | exact Nat.le_refl _ | omega | (simp; done) | (simp; omega)) _))).trans (hb1.mono (by simp; omega)))
  clear hb1
  go_wp2
  go_ret
  exact ⟨rfl, HB.out⟩
end Go.Proofs.Ytijeicccmjgpiaa.gates
