/- Whether a circuit is right, of the program: a map from pairs tells the gates that were there; conditions: none. -/
import Derived.Test.YtaileckcflnbdaaGates
import Derived.Test.YtaileckcflnbdaaTrees
import Derived.BigRegion
import Derived.Maps.OwnOps
import Derived.Maps.Views
import Derived.WideKeyPair
import Derived.DeepKeys4
namespace Go.Proofs.Ytaileckcflnbdaa.aigImpl
open Go.RowKit Go.Deep Go.Maps Go.WideMaps base gates trees
set_option linter.unusedVariables false

def gateB (x y node : Int) : Bool := decide (2 ≤ x ∧ x < y ∧ y < 2 * node ∧ x / 2 ≠ y / 2)
theorem tdiv2 {x : Int} (h : 0 ≤ x) : x.tdiv 2 = x / 2 := Int.tdiv_eq_ediv_of_nonneg h
theorem tdiv2_neg {x : Int} (h : x < 0) : x.tdiv 2 ≤ 0 := by
  have e : x = -(-x) := by omega
  rw [e, Int.neg_tdiv, Int.tdiv_eq_ediv_of_nonneg (by omega)]
  omega

def I64 (x : Int) : Prop := -9223372036854775808 ≤ x ∧ x ≤ 9223372036854775807
theorem wrap_half {x : Int} (h : I64 x) : wrap64 (x.tdiv 2) = x.tdiv 2 := by
  obtain ⟨h0, h1⟩ := h
  have hb : -9223372036854775808 ≤ x.tdiv 2 ∧ x.tdiv 2 ≤ 9223372036854775807 := by
    by_cases hx : 0 ≤ x
    · rw [tdiv2 hx]; omega
    · have e : x = -(-x) := by omega
      rw [e, Int.neg_tdiv, Int.tdiv_eq_ediv_of_nonneg (by omega)]
      omega
  unfold wrap64
  omega

set_option maxHeartbeats 400000 in
theorem isGate_impl (x y node : Int) (w : World) (wx : I64 x) (wy : I64 y) :
    Calls Try.prog 37 #[.agg #[.int .i64 x, .int .i64 y], .int .i64 node] w fun e w' => e = .returned (.bool (gateB x y node)) ∧ Below w.heap.size w w' := by
  have hwx := wrap_half wx
  have hwy := wrap_half wy
  clear wx wy
  by_cases h1 : 2 ≤ x
  · have d1 : decide (2 ≤ x) = true := decide_eq_true h1
    by_cases h2 : x.tdiv 2 < y.tdiv 2
    · have d2 : decide (x.tdiv 2 < y.tdiv 2) = true := decide_eq_true h2
      have hy : 0 ≤ y := by
        by_cases h : 0 ≤ y
        · exact h
        · have := tdiv2_neg (x := y) (by omega)
          rw [tdiv2 (by omega)] at h2
          omega
      have hx2 := tdiv2 (x := x) (by omega)
      have hy2 := tdiv2 hy
      by_cases h3 : y.tdiv 2 < node
      · have d3 : decide (y.tdiv 2 < node) = true := decide_eq_true h3
        have e : gateB x y node = true := decide_eq_true (by rw [hx2, hy2] at h2; rw [hy2] at h3; omega)
        rw [e]
        clear e h1 h2 h3 hx2 hy2
        go_enter Try.func37, Try.ntmps37
        go_wp2
        go_ret
        exact ⟨rfl, (by repeat (first | exact Below.refl _ _ | assumption | refine Below.drew ?_ | refine Below.alloc ?_ (by first | exact Nat.le_refl _ | omega | (simp; done) | (simp; omega)) _ | refine Below.setCell ?_ (by first | exact Nat.le_refl _ | omega | (simp; done) | (simp; omega)) _))⟩
      · have d3 : decide (y.tdiv 2 < node) = false := decide_eq_false h3
        have e : gateB x y node = false := decide_eq_false (by rw [hy2] at h3; omega)
        rw [e]
        clear e h1 h2 h3 hx2 hy2
        go_enter Try.func37, Try.ntmps37
        go_wp2
        go_ret
        exact ⟨rfl, (by repeat (first | exact Below.refl _ _ | assumption | refine Below.drew ?_ | refine Below.alloc ?_ (by first | exact Nat.le_refl _ | omega | (simp; done) | (simp; omega)) _ | refine Below.setCell ?_ (by first | exact Nat.le_refl _ | omega | (simp; done) | (simp; omega)) _))⟩
    · have d2 : decide (x.tdiv 2 < y.tdiv 2) = false := decide_eq_false h2
      have e : gateB x y node = false := by
        refine decide_eq_false (fun h => h2 ?_)
        rw [tdiv2 (by omega), tdiv2 (by omega)]
        omega
      rw [e]
      clear e h1 h2
      go_enter Try.func37, Try.ntmps37
      go_wp2
      go_ret
      exact ⟨rfl, (by repeat (first | exact Below.refl _ _ | assumption | refine Below.drew ?_ | refine Below.alloc ?_ (by first | exact Nat.le_refl _ | omega | (simp; done) | (simp; omega)) _ | refine Below.setCell ?_ (by first | exact Nat.le_refl _ | omega | (simp; done) | (simp; omega)) _))⟩
  · have d1 : decide (2 ≤ x) = false := decide_eq_false h1
    have e : gateB x y node = false := decide_eq_false (by omega)
    rw [e]
    clear e h1
    go_enter Try.func37, Try.ntmps37
    go_wp2
    go_ret
    exact ⟨rfl, (by repeat (first | exact Below.refl _ _ | assumption | refine Below.drew ?_ | refine Below.alloc ?_ (by first | exact Nat.le_refl _ | omega | (simp; done) | (simp; omega)) _ | refine Below.setCell ?_ (by first | exact Nat.le_refl _ | omega | (simp; done) | (simp; omega)) _))⟩

theorem laidOut : laidOutB Try.prog = true := by kernel_rfl
theorem row_pair : (74 : TypeId) < Try.prog.types.size := of_decide_eq_true (by kernel_rfl)
theorem cells_pair : Try.prog.cellsOf 74 = 2 := by kernel_rfl
theorem arr : ArrKey Try.prog 74 3 2 := ⟨Try.underlying74, by kernel_rfl, by kernel_rfl, cells_pair⟩
theorem wide : (match Try.prog.underlying 74 with | some (.array _ _) | some (.struct _) => true | _ => false) = true := by rw [Try.underlying74]
theorem keyed : Keyed Try.prog 74 := Keyed.of_law (deep_law_laid laidOut (m := 2) (by omega) row_pair (by kernel_rfl) wide)
theorem zeroI (w : World) : (zeroValue 3).run Try.prog w = .ok (.int .i64 0) w := by kernel_rfl
theorem in64_wf {x : Int} (h : I64 x) : (Lit.int .i64 x).wf = true := WalkArith.wf_i64 h
def kb (a b : Int) : Lit := .string (keyBytes [.int .i64 a, .int .i64 b])
theorem key_of {a b : Int} (ha : I64 a) (hb : I64 b) : keyOf Try.prog 74 (.agg #[.int .i64 a, .int .i64 b]) = some (kb a b) :=
  keyOf_pair arr Try.underlying3 ⟨Try.prog.types.size.pred, (Nat.succ_pred_eq_of_pos (Nat.lt_of_le_of_lt (Nat.zero_le _) row_pair)).symm⟩ (in64_wf ha) (in64_wf hb)
theorem kb_inj {a b c d : Int} (ha : I64 a) (hb : I64 b) (hc : I64 c) (hd : I64 d) (h : kb a b = kb c d) : a = c ∧ b = d := by
  have h1 := key_of ha hb
  rw [h] at h1
  have := keyed.inj h1 (key_of hc hd)
  simpa using this

/-- The map's datum tells the first k gates. -/
def MapOf (g : Gs) (k : Nat) (D : DataW Unit) : Prop := Maps.IsMap D ∧ ∀ a b, I64 a → I64 b → ∃ c, D.atKey (kb a b) (.lit (.int .i64 0)) = .lit (.int .i64 c) ∧ (c ≠ 0 ↔ ∃ j, j < k ∧ g j = (a, b))
theorem mapOf_zero (g : Gs) : MapOf g 0 (.map []) := by
  refine ⟨Maps.isMap_empty, fun a b _ _ => ⟨0, by rw [WideAt.atKey_none _ (by simp)], ?_⟩⟩
  simp
theorem mapOf_succ {g : Gs} {k : Nat} {D : DataW Unit} (h : MapOf g k D) {x y n : Int} (hx : I64 x) (hy : I64 y) (hg : g k = (x, y)) (hn : n ≠ 0) : MapOf g (k + 1) (D.put (kb x y) (.lit (.int .i64 n))) := by
  refine ⟨h.1.put _ _, fun a b ha hb => ?_⟩
  by_cases e : kb a b = kb x y
  · obtain ⟨rfl, rfl⟩ := kb_inj ha hb hx hy e
    refine ⟨n, Maps.atKey_put_same h.1 (by trivial) _ _, fun _ => ⟨k, by omega, hg⟩, fun _ => hn⟩
  · obtain ⟨c, h1, h2⟩ := h.2 a b ha hb
    refine ⟨c, by rw [Maps.atKey_put_other e]; exact h1, h2.trans ⟨fun ⟨j, hj, hgj⟩ => ⟨j, by omega, hgj⟩, fun ⟨j, hj, hgj⟩ => ⟨j, ?_, hgj⟩⟩⟩
    by_cases ej : j = k
    · subst ej
      rw [hg] at hgj
      simp at hgj
      exact absurd (by rw [hgj.1, hgj.2]) e
    · omega

def goodB (n : Int) (g : Gs) (i : Nat) : Bool := gateB (g i).1 (g i).2 (n + 1 + i) && allTo (fun j => g j != g i) i
def aigB (n : Int) (len : Nat) (g : Gs) : Bool := decide (0 ≤ n ∧ n ≤ 12 ∧ len ≤ 400) && allTo (goodB n g) len
theorem aigB_bad {n : Int} {len : Nat} {g : Gs} (h : ¬ (0 ≤ n ∧ n ≤ 12 ∧ len ≤ 400)) : aigB n len g = false := by
  unfold aigB; rw [decide_eq_false h]; rfl
theorem aigB_all {n : Int} {len : Nat} {g : Gs} (h : 0 ≤ n ∧ n ≤ 12 ∧ len ≤ 400) : aigB n len g = allTo (goodB n g) len := by
  unfold aigB; rw [decide_eq_true h]; rfl
theorem gate_in {x y node : Int} (h : gateB x y node = true) (hn : node ≤ 1000) : 2 ≤ x ∧ x ≤ 2000 ∧ 2 ≤ y ∧ y ≤ 2000 := by
  have := of_decide_eq_true h
  omega

theorem own_below {P : Program} {k : TypeId} {R : Value → Option (DataW Unit × List MemPlace)} {b n : Nat} {D : DataW Unit} {w w' : World} (h : w.ownsMap P k R b n D) (hb : Below w.heap.size w w') : w'.ownsMap P k R b n D := by
  have hlt := h.lt
  obtain ⟨es, clock, h1, h2⟩ := h
  exact ⟨es, clock, by rw [hb.block b hlt]; exact h1, h2⟩
theorem good_no {n : Int} {g : Gs} {k : Nat} {x y : Int} (hg : g k = (x, y)) (h : gateB x y (n + 1 + k) = false) : goodB n g k = false := by
  unfold goodB; rw [hg, h]; rfl
theorem good_twice {n : Int} {g : Gs} {k j : Nat} {x y : Int} (hg : g k = (x, y)) (hj : j < k) (h : g j = (x, y)) : goodB n g k = false := by
  unfold goodB
  rw [allTo_false (f := fun j => g j != g k) hj (by simp [h, hg])]
  simp
theorem good_yes {n : Int} {g : Gs} {k : Nat} {x y : Int} (hg : g k = (x, y)) (h : gateB x y (n + 1 + k) = true) (hn : ¬ ∃ j, j < k ∧ g j = (x, y)) : goodB n g k = true := by
  unfold goodB
  rw [hg, h, Bool.true_and]
  refine allTo_of fun j hj => ?_
  simp only [bne_iff_ne]
  exact fun e => hn ⟨j, hj, e⟩

set_option maxHeartbeats 1600000 in
theorem aigOK_impl (n : Int) (a : Option Addr) (len cap : Nat) (g : Gs) (w : World) (hr : GateRow w a len g) (hw : ∀ i, i < len → I64 (g i).1 ∧ I64 (g i).2) :
    Calls Try.prog 19 #[.agg #[.int .i64 n, .slice a len cap]] w fun e w' => e = .returned (.bool (aigB n len g)) ∧ Below w.heap.size w w' := by
  have hmost := hr.most
  unfold maxLen at hmost
  have HR := hid hr
  have HW := hid hw
  clear hr hw
  by_cases hbad : ¬ (0 ≤ n ∧ n ≤ 12 ∧ len ≤ 400)
  · rw [aigB_bad hbad]
    by_cases h1 : n < 0
    · go_enter Try.func19, Try.ntmps19
      go_wp2
      go_ret
      exact ⟨rfl, (by repeat (first | exact Below.refl _ _ | assumption | refine Below.drew ?_ | refine Below.alloc ?_ (by first | exact Nat.le_refl _ | omega | (simp; done) | (simp; omega)) _ | refine Below.setCell ?_ (by first | exact Nat.le_refl _ | omega | (simp; done) | (simp; omega)) _))⟩
    have d1 : decide (n < 0) = false := decide_eq_false h1
    by_cases h2 : (12 : Int) < n
    · go_enter Try.func19, Try.ntmps19
      go_wp2
      go_ret
      exact ⟨rfl, (by repeat (first | exact Below.refl _ _ | assumption | refine Below.drew ?_ | refine Below.alloc ?_ (by first | exact Nat.le_refl _ | omega | (simp; done) | (simp; omega)) _ | refine Below.setCell ?_ (by first | exact Nat.le_refl _ | omega | (simp; done) | (simp; omega)) _))⟩
    have d2 : decide ((12 : Int) < n) = false := decide_eq_false h2
    have h3 : (400 : Int) < (len : Int) := by omega
    go_enter Try.func19, Try.ntmps19
    go_wp2
    go_ret
    exact ⟨rfl, (by repeat (first | exact Below.refl _ _ | assumption | refine Below.drew ?_ | refine Below.alloc ?_ (by first | exact Nat.le_refl _ | omega | (simp; done) | (simp; omega)) _ | refine Below.setCell ?_ (by first | exact Nat.le_refl _ | omega | (simp; done) | (simp; omega)) _))⟩
  have hgood : 0 ≤ n ∧ n ≤ 12 ∧ len ≤ 400 := by omega
  clear hbad
  have HA := hid (aigB_all (g := g) hgood)
  obtain ⟨h0, h1, h2⟩ := hgood
  have d1 : decide (n < 0) = false := decide_eq_false (by omega)
  have d2 : decide ((12 : Int) < n) = false := decide_eq_false (by omega)
  have d3 : decide ((400 : Int) < (len : Int)) = false := decide_eq_false (by omega)
  have hmm := @run_makeMap Try.prog
  go_enter Try.func19, Try.ntmps19
  go_wp2
  go_loopw [26] (fun i wr => ∃ k : Nat, k ≤ len ∧ i = .int .i64 k ∧ Below w.heap.size w wr ∧ wr.cell? ⟨w.heap.size, 0, none⟩ = some (.int .i64 n) ∧ (∃ D : DataW Unit, wr.ownsMap Try.prog 74 (plainElem Try.prog 3) (w.heap.size + 1) k D ∧ MapOf g k D) ∧ ∀ j, j < k → goodB n g j = true) (fun i _ => len - (intOf i).toNat)
  case atStart =>
    refine ⟨0, Nat.zero_le _, rfl, (by repeat (first | exact Below.refl _ _ | assumption | refine Below.drew ?_ | refine Below.alloc ?_ (by first | exact Nat.le_refl _ | omega | (simp; done) | (simp; omega)) _ | refine Below.setCell ?_ (by first | exact Nat.le_refl _ | omega | (simp; done) | (simp; omega)) _)), by simp [go_sem], ⟨.map [], ?_, mapOf_zero g⟩, fun j hj => absurd hj (Nat.not_lt_zero _)⟩
    have := World.ownsMap_made (H := Unit) (w.alloc (.cells #[.int .i64 n, .slice a len cap] 29)) Try.prog 74 (plainElem Try.prog 3)
    simpa using this
  case round =>
    obtain ⟨k, hk, rfl, hb, hn, ⟨D, hown, hmap⟩, ha⟩ := hrel
    have HB := hid hb
    have HO := hid hown
    have HM := hid hmap
    have HG := hid ha
    clear hb hown hmap ha hmm
    by_cases hlt : k < len
    · obtain ⟨b, off, rfl, hc0, hc1⟩ := HR.out.cell k hlt
      obtain ⟨wx, wy⟩ := HW.out k hlt
      replace hc0 := keep HB.out hc0
      replace hc1 := keep HB.out hc1
      obtain ⟨x, y, hg⟩ : ∃ x y, g k = (x, y) := ⟨_, _, rfl⟩
      rw [hg] at hc0 hc1 wx wy
      have HGK := hid hg
      have hbr := World.block_lt_of_cell? _ _ hc0
      have hnr := World.block_lt_of_cell? _ _ hn
      clear hg
      go_wp2_with fail
      go_region
      have HW2 := hid (show Below wr.heap.size wr (((wr.alloc (.cells #[.int .i64 x, .int .i64 y] 60)).alloc (.cells #[.int .i64 x, .int .i64 y] 74)).drew) from (((Below.refl _ _).alloc (Nat.le_refl _) _).alloc (by simp) _).drew)
      have p0 : (((wr.alloc (.cells #[.int .i64 x, .int .i64 y] 60)).alloc (.cells #[.int .i64 x, .int .i64 y] 74)).drew).cell? ⟨wr.heap.size + 1, 0, none⟩ = some (.int .i64 x) := by simp [go_sem]
      have p1 : (((wr.alloc (.cells #[.int .i64 x, .int .i64 y] 60)).alloc (.cells #[.int .i64 x, .int .i64 y] 74)).drew).cell? ⟨wr.heap.size + 1, 1, none⟩ = some (.int .i64 y) := by simp [go_sem]
      have q0 : (((wr.alloc (.cells #[.int .i64 x, .int .i64 y] 60)).alloc (.cells #[.int .i64 x, .int .i64 y] 74)).drew).cell? ⟨wr.heap.size, 0, none⟩ = some (.int .i64 x) := by simp [go_sem]
      have q1 : (((wr.alloc (.cells #[.int .i64 x, .int .i64 y] 60)).alloc (.cells #[.int .i64 x, .int .i64 y] 74)).drew).cell? ⟨wr.heap.size, 1, none⟩ = some (.int .i64 y) := by simp [go_sem]
      generalize (((wr.alloc (.cells #[.int .i64 x, .int .i64 y] 60)).alloc (.cells #[.int .i64 x, .int .i64 y] 74)).drew) = W2 at *
      go_wp2_with fail
      refine (isGate_impl x y (n + 1 + k) _ wx wy).mono ?_
      rintro e w1 ⟨rfl, hb1⟩
      have HB1 := hid (HW2.out.trans (hb1.mono HW2.out.size))
      have HBB := hid (HB.out.trans (HB1.out.mono HB.out.size))
      replace p0 := keep hb1 p0
      replace p1 := keep hb1 p1
      replace hn := keep HB1.out hn
      clear hb1 q0 q1 hc0 hc1
      cases hgb : gateB x y (n + 1 + k) with
      | false =>
        go_wp2
        go_ret
        exact ⟨ret_bool (by rw [HA.out]; exact (allTo_false hlt (good_no HGK.out hgb)).symm), HBB.out⟩
      | true =>
        have hown1 := own_below HO.out HB1.out
        obtain ⟨c, hrun, hat, _⟩ := hown1.lookup_int keyed Try.underlying73 Try.underlying3 (zeroI _) (key_of wx wy)
        obtain ⟨c', hat', hiff⟩ := HM.out.2 x y wx wy
        obtain rfl : c' = c := by rw [hat'] at hat; simpa using hat
        have HIF := hid hiff
        have HO1 := hid hown1
        clear hat hat' hiff hown1
        by_cases hc : c' = 0
        · subst hc
          have HNO := hid (show ¬ ∃ j, j < k ∧ g j = (x, y) from fun h => (HIF.out.2 h) rfl)
          have HIN := hid (gate_in hgb (by omega))
          have WX := hid wx
          have WY := hid wy
          clear wx wy
          have hwn : (Lit.int .i64 (n + 1 + k)).wf = true := WalkArith.wf_i64 (by omega)
          go_wp2_with (at_mapUpdate; (refine wpList_mapUpdate_own _ rfl _ _ _ 73 rfl 74 3 keyed Try.underlying73 (plainElem Try.prog 3) (w.heap.size + 1) k D rfl HO1.out (by unfold maxLen; omega) _ _ (kb x y) rfl rfl (key_of WX.out WY.out) _ [] (plainElem_int Try.underlying3 hwn) ?_); intro w3 hown3 hgrow3)
          have HBW := hid (HBB.out.grown hgrow3 HBB.out.size (fun j hj => by cases hj; omega))
          have hn3 := hgrow3.cell hn (by simp)
          go_roundw
          case rel => exact ⟨k + 1, by omega, by go_num, HBW.out, hn3, ⟨_, hown3, mapOf_succ HM.out WX.out WY.out HGK.out (by omega)⟩, fun j hj => by
              by_cases e : j = k
              · subst e; exact good_yes HGK.out hgb HNO.out
              · exact HG.out j (by omega)⟩
          case measure => simp [intOf]; omega
        · have hcq : (c' != 0) = true := by simp [hc]
          obtain ⟨j, hj, hgj⟩ := HIF.out.1 hc
          have HGJ := hid hgj
          clear hgj
          go_wp2
          go_ret
          exact ⟨ret_bool (by rw [HA.out]; exact (allTo_false hlt (good_twice HGK.out hj HGJ.out)).symm), HBB.out⟩
    · have e : k = len := by omega
      subst e
      go_wp2
      go_ret
      exact ⟨ret_bool (by rw [HA.out]; exact (allTo_of HG.out).symm), HB.out⟩
end Go.Proofs.Ytaileckcflnbdaa.aigImpl
