/- Base; Copy; Cnf: one text, so that the claim has fewer files. -/
import Derived.Test.YtjdcndkgodpnlaaDoorRows
import Derived.WalkKit
import Derived.Below
import Derived.Deep.OwnRows
import Derived.Deep.QuietTactic
import Derived.BigQuiet
import Derived.Deep.RegionWith
/- What the contracts are stated in: rows of cells that read as lists, and how they are kept where only new memory is written; of no program; conditions: none. -/
namespace Go.Proofs.YtjdcndkgodpnlaaDoor.base
open Go.RowKit Go.Deep

theorem ret_bool {a b : Bool} (h : a = b) : Ending.returned (.bool a) = .returned (.bool b) := by rw [h]
theorem ret_int {k : IntKind} {a b : Int} (h : a = b) : Ending.returned (.int k a) = .returned (.int k b) := by rw [h]

theorem hid {p : Prop} (h : p) : Hid p := h
theorem below_drewN (w : World) (n : Nat) : Below w.heap.size w (w.drewN n) := ⟨rfl, rfl, rfl, Nat.le_refl _, fun _ _ => rfl⟩
theorem keep {W w1 : World} (hb : Below W.heap.size W w1) {b o : Nat} {v : Value} (h : W.cell? ⟨b, o, none⟩ = some v) : w1.cell? ⟨b, o, none⟩ = some v := by
  rw [hb.cell (p := ⟨b, o, none⟩) (World.block_lt_of_cell? _ _ h)]; exact h

/-- A slice reads as a list of integers: its length, and each of its cells. -/
structure IntRow (w : World) (a : Option Addr) (len : Nat) (zs : List Int) : Prop where
  length : zs.length = len
  most : len ≤ maxLen
  cell : ∀ i, i < len → ∃ b off, a = some ⟨b, off, none⟩ ∧ w.cell? ⟨b, off + i, none⟩ = some (.int .i64 (zs[i]?.getD 0))
theorem IntRow.below {W w1 : World} {a : Option Addr} {len : Nat} {zs : List Int} (h : IntRow W a len zs) (hb : Below W.heap.size W w1) : IntRow w1 a len zs :=
  ⟨h.length, h.most, fun i hi => by
    obtain ⟨b, off, e, hc⟩ := h.cell i hi
    exact ⟨b, off, e, keep hb hc⟩⟩
theorem IntRow.drewN {W : World} {a : Option Addr} {len : Nat} {zs : List Int} (h : IntRow W a len zs) (n : Nat) : IntRow (W.drewN n) a len zs := h.below (below_drewN _ _)
/-- A slice of slices of integers. -/
structure IntRows (w : World) (a : Option Addr) (len : Nat) (zss : List (List Int)) : Prop where
  length : zss.length = len
  most : len ≤ maxLen
  cell : ∀ i, i < len → ∃ b off, a = some ⟨b, off, none⟩ ∧ ∃ a' l' c', w.cell? ⟨b, off + i, none⟩ = some (.slice a' l' c') ∧ IntRow w a' l' (zss[i]?.getD [])
theorem IntRows.below {W w1 : World} {a : Option Addr} {len : Nat} {zss : List (List Int)} (h : IntRows W a len zss) (hb : Below W.heap.size W w1) : IntRows w1 a len zss :=
  ⟨h.length, h.most, fun i hi => by
    obtain ⟨b, off, e, a', l', c', hc, hr⟩ := h.cell i hi
    exact ⟨b, off, e, a', l', c', keep hb hc, hr.below hb⟩⟩
/-- A slice of bools. -/
structure BoolRow (w : World) (a : Option Addr) (len : Nat) (zs : List Bool) : Prop where
  length : zs.length = len
  most : len ≤ maxLen
  cell : ∀ i, i < len → ∃ b off, a = some ⟨b, off, none⟩ ∧ w.cell? ⟨b, off + i, none⟩ = some (.bool (zs[i]?.getD false))
theorem BoolRow.below {W w1 : World} {a : Option Addr} {len : Nat} {zs : List Bool} (h : BoolRow W a len zs) (hb : Below W.heap.size W w1) : BoolRow w1 a len zs :=
  ⟨h.length, h.most, fun i hi => by
    obtain ⟨b, off, e, hc⟩ := h.cell i hi
    exact ⟨b, off, e, keep hb hc⟩⟩

theorem all_take_succ {α : Type} {p : α → Bool} {zs : List α} {d : α} {k : Nat} (h : k < zs.length) : (zs.take (k + 1)).all p = ((zs.take k).all p && p (zs[k]?.getD d)) := by
  rw [List.take_succ_eq_append_getElem h, List.all_append, List.getElem?_eq_getElem h]; simp
theorem all_false {α : Type} {p : α → Bool} {zs : List α} {d : α} {k : Nat} (h : k < zs.length) (hp : p (zs[k]?.getD d) = false) : zs.all p = false := by
  rw [List.all_eq_false]
  refine ⟨zs[k], List.getElem_mem h, ?_⟩
  rw [List.getElem?_eq_getElem h] at hp
  simpa using hp
theorem any_take_succ {α : Type} {p : α → Bool} {zs : List α} {d : α} {k : Nat} (h : k < zs.length) : (zs.take (k + 1)).any p = ((zs.take k).any p || p (zs[k]?.getD d)) := by
  rw [List.take_succ_eq_append_getElem h, List.any_append, List.getElem?_eq_getElem h]; simp
end Go.Proofs.YtjdcndkgodpnlaaDoor.base

/- The contracts of the laws' own helpers over lists of integers: what they count, copy and compare; conditions: lengths that fit. -/
namespace Go.Proofs.YtjdcndkgodpnlaaDoor.copy
open Go.RowKit Go.Deep base

theorem Tryd.info_int : (Tryd.prog.info? 3).map (fun i => (i.zero, i.size, i.bytes)) = some (some (.int .i64 0), 1, 8) := by kernel_rfl

/-- A list of lists in blocks of its own: the outer one in block N, the inner ones behind it, one block each. -/
structure Copied (w : World) (N : Nat) (zss : List (List Int)) : Prop where
  outer : w.rowIs N 55 zss.length (fun i => .slice (some ⟨N + 1 + i, 0, none⟩) (zss[i]?.getD []).length (zss[i]?.getD []).length)
  inner : ∀ i, i < zss.length → w.rowIs (N + 1 + i) 3 (zss[i]?.getD []).length (fun j => .int .i64 ((zss[i]?.getD [])[j]?.getD 0))
theorem IntRow.of_rowIs {w : World} {b : Nat} {zs : List Int} {t : TypeId} (h : w.rowIs b t zs.length (fun j => .int .i64 (zs[j]?.getD 0))) (hm : zs.length ≤ maxLen) : IntRow w (some ⟨b, 0, none⟩) zs.length zs :=
  ⟨rfl, hm, fun i hi => ⟨b, 0, rfl, by simpa using h.cell hi⟩⟩
theorem Copied.rows {w : World} {N : Nat} {zss : List (List Int)} (h : Copied w N zss) (hm : zss.length ≤ maxLen) (hi : ∀ i, i < zss.length → (zss[i]?.getD []).length ≤ maxLen) : IntRows w (some ⟨N, 0, none⟩) zss.length zss :=
  ⟨rfl, hm, fun i hlt => ⟨N, 0, rfl, _, _, _, by simpa using h.outer.cell hlt, IntRow.of_rowIs (h.inner i hlt) (hi i hlt)⟩⟩
theorem Copied.set {w : World} {N : Nat} {zss : List (List Int)} (h : Copied w N zss) {a : Addr} (ha : a.block < N) (v : Value) : Copied (w.setCell a v) N zss :=
  ⟨h.outer.setOther (by omega) v, fun i hi => (h.inner i hi).setOther (by omega) v⟩
theorem Copied.below {w w1 : World} {N : Nat} {zss : List (List Int)} (h : Copied w N zss) (hb : Below w.heap.size w w1) : Copied w1 N zss :=
  ⟨h.outer.of_block (hb.block _ h.outer.lt), fun i hi => (h.inner i hi).of_block (hb.block _ (h.inner i hi).lt)⟩

theorem BoolRow.of_rowIs {w : World} {b len : Nat} {zs : List Bool} {t : TypeId} (hl : zs.length = len) (hm : len ≤ maxLen) (h : w.rowIs b t len (fun j => .bool (zs[j]?.getD false))) : BoolRow w (some ⟨b, 0, none⟩) len zs :=
  ⟨hl, hm, fun i hi => ⟨b, 0, rfl, by simpa using h.cell hi⟩⟩
theorem Tryd.info_bool : (Tryd.prog.info? 4).map (fun i => (i.zero, i.size, i.bytes)) = some (some (.bool false), 1, 1) := by kernel_rfl
end Go.Proofs.YtjdcndkgodpnlaaDoor.copy

/- The contracts of the laws' helpers over formulas, and of what tells a literal, a clause and a right formula, of the program and of the specification; conditions: lengths that fit. -/
namespace Go.Proofs.YtjdcndkgodpnlaaDoor.cnf
open Go.RowKit Go.Deep base copy

def litB (vars n : Int) : Bool := decide (n ≠ 0 ∧ -vars ≤ n ∧ n ≤ vars)
def clauseB (vars : Int) (zs : List Int) : Bool := decide (zs.length ≤ 12) && zs.all (litB vars)
def cnfB (vars : Int) (zss : List (List Int)) : Bool := decide (0 ≤ vars ∧ vars ≤ 40 ∧ zss.length ≤ 300) && zss.all (clauseB vars)

set_option maxHeartbeats 400000 in
theorem lit_impl (n vars : Int) (w : World) (h0 : 0 ≤ vars) (h1 : vars ≤ 40) :
    Calls Tryd.prog 41 #[.int .i64 n, .int .i64 vars] w fun e w' => e = .returned (.bool (litB vars n)) ∧ w' = w := by
  go_enter Tryd.func41, Tryd.ntmps41
  go_wp2
  all_goals
    go_ret
    refine ⟨ret_bool ?_, rfl⟩
    rw [Bool.eq_iff_iff]; simp [litB, *]; try omega

set_option maxHeartbeats 400000 in
theorem clause_impl (a : Option Addr) (len cap : Nat) (zs : List Int) (vars : Int) (w : World) (h0 : 0 ≤ vars) (h1 : vars ≤ 40) (hr : IntRow w a len zs) :
    Calls Tryd.prog 23 #[.slice a len cap, .int .i64 vars] w fun e w' => e = .returned (.bool (clauseB vars zs)) ∧ w' = w := by
  obtain ⟨hlen, hmost, hcell⟩ := hr
  unfold maxLen at hmost
  have HL := hid hlen
  have HC := hid hcell
  clear hlen hcell
  by_cases h12 : 12 < len
  · have hf : clauseB vars zs = false := by
      have : decide (zs.length ≤ 12) = false := decide_eq_false (by rw [HL.out]; omega)
      simp [clauseB, this]
    rw [hf]
    clear hf
    go_enter Tryd.func23, Tryd.ntmps23
    go_wp2
    go_ret
    exact ⟨rfl, rfl⟩
  have hN : Hid (clauseB vars zs = zs.all (litB vars)) := by
    show _ = _
    have : decide (zs.length ≤ 12) = true := decide_eq_true (by rw [HL.out]; omega)
    simp [clauseB, this]
  go_enter Tryd.func23, Tryd.ntmps23
  go_wp2
  go_loop [12] (fun i => ∃ k : Nat, k ≤ len ∧ i = .int .i64 k ∧ (zs.take k).all (litB vars) = true) (fun i => len - (intOf i).toNat)
  case atStart => exact ⟨0, Nat.zero_le _, rfl, rfl⟩
  case round =>
    obtain ⟨k, hk, rfl, ha⟩ := hrel
    have HA := hid ha
    clear ha
    by_cases hlt : k < len
    · obtain ⟨b, off, rfl, hc⟩ := HC.out k hlt
      by_cases hL : litB vars (zs[k]?.getD 0) = true
      · go_wp2_with (go_at_call 41; refine (lit_impl _ _ _ h0 h1).mono ?_; rintro e w' ⟨rfl, rfl⟩)
        go_round
        case rel => exact ⟨k + 1, by omega, by go_num, by rw [all_take_succ (d := 0) (by rw [HL.out]; omega), HA.out, hL]; rfl⟩
        case measure => simp [intOf]; omega
      · have hL' : litB vars (zs[k]?.getD 0) = false := by simpa using hL
        clear hL
        go_wp2_with (go_at_call 41; refine (lit_impl _ _ _ h0 h1).mono ?_; rintro e w' ⟨rfl, rfl⟩)
        go_ret
        exact ⟨ret_bool (by rw [hN.out, all_false (d := 0) (by rw [HL.out]; omega) hL']), rfl⟩
    · have e : k = len := by omega
      subst e
      go_wp2
      go_ret
      exact ⟨ret_bool (by rw [hN.out, ← HA.out, List.take_of_length_le (by rw [HL.out]; omega)]), rfl⟩

def inB (n low high : Int) : Bool := decide (low ≤ n ∧ n ≤ high)
set_option maxHeartbeats 400000 in
theorem in_spec (n low high : Int) (w : World) :
    Calls Tryd.prog 36 #[.int .i64 n, .int .i64 low, .int .i64 high] w fun e w' => e = .returned (.bool (inB n low high)) ∧ w' = w := by
  go_enter Tryd.func36, Tryd.ntmps36
  go_wp2
  all_goals
    go_ret
    refine ⟨ret_bool ?_, rfl⟩
    rw [Bool.eq_iff_iff]; simp [inB, *]; try omega

theorem lit_in {n vars : Int} (h : litB vars n = true) : (n == 0) = false ∧ inB n (-vars) vars = true := by
  simp [litB] at h
  exact ⟨by simp [h.1], by simp [inB]; omega⟩
theorem lit_out {n vars : Int} (h : litB vars n = false) (h0 : (n == 0) = false) : inB n (-vars) vars = false := by
  simp at h0
  simp [litB] at h
  simp [inB]
  intro h1
  have := h h0 h1
  omega
set_option maxHeartbeats 400000 in
theorem clause_spec (a : Option Addr) (len cap : Nat) (zs : List Int) (vars : Int) (w : World) (h0 : 0 ≤ vars) (h1 : vars ≤ 40) (hr : IntRow w a len zs) :
    Calls Tryd.prog 37 #[.slice a len cap, .int .i64 vars] w fun e w' => e = .returned (.bool (clauseB vars zs)) ∧ w' = w := by
  obtain ⟨hlen, hmost, hcell⟩ := hr
  unfold maxLen at hmost
  have HL := hid hlen
  have HC := hid hcell
  clear hlen hcell
  by_cases h12 : 12 < len
  · have hf : clauseB vars zs = false := by
      have : decide (zs.length ≤ 12) = false := decide_eq_false (by rw [HL.out]; omega)
      simp [clauseB, this]
    rw [hf]
    clear hf
    go_enter Tryd.func37, Tryd.ntmps37
    go_wp2
    go_ret
    exact ⟨rfl, rfl⟩
  have hN : Hid (clauseB vars zs = zs.all (litB vars)) := by
    show _ = _
    have : decide (zs.length ≤ 12) = true := decide_eq_true (by rw [HL.out]; omega)
    simp [clauseB, this]
  go_enter Tryd.func37, Tryd.ntmps37
  go_wp2
  go_loop [5] (fun i => ∃ k : Nat, k ≤ len ∧ i = .int .i64 k ∧ (zs.take k).all (litB vars) = true) (fun i => len - (intOf i).toNat)
  case atStart => exact ⟨0, Nat.zero_le _, rfl, rfl⟩
  case round =>
    obtain ⟨k, hk, rfl, ha⟩ := hrel
    have HA := hid ha
    clear ha
    by_cases hlt : k < len
    · obtain ⟨b, off, rfl, hc⟩ := HC.out k hlt
      by_cases hL : litB vars (zs[k]?.getD 0) = true
      · obtain ⟨hz, hi⟩ := lit_in hL
        go_wp2_with (go_at_call 36; refine (in_spec _ _ _ _).mono ?_; rintro e w' ⟨rfl, rfl⟩)
        go_round
        case rel => exact ⟨k + 1, by omega, by go_num, by rw [all_take_succ (d := 0) (by rw [HL.out]; omega), HA.out, hL]; rfl⟩
        case measure => simp [intOf]; omega
      · have hL' : litB vars (zs[k]?.getD 0) = false := by simpa using hL
        clear hL
        by_cases hz : (zs[k]?.getD 0 == 0) = true
        · go_wp2_with (go_at_call 36; refine (in_spec _ _ _ _).mono ?_; rintro e w' ⟨rfl, rfl⟩)
          go_ret
          exact ⟨ret_bool (by rw [hN.out, all_false (d := 0) (by rw [HL.out]; omega) hL']), rfl⟩
        · have hz' : (zs[k]?.getD 0 == 0) = false := by simpa using hz
          clear hz
          have hi := lit_out hL' hz'
          go_wp2_with (go_at_call 36; refine (in_spec _ _ _ _).mono ?_; rintro e w' ⟨rfl, rfl⟩)
          go_ret
          exact ⟨ret_bool (by rw [hN.out, all_false (d := 0) (by rw [HL.out]; omega) hL']), rfl⟩
    · have e : k = len := by omega
      subst e
      go_wp2
      go_ret
      exact ⟨ret_bool (by rw [hN.out, ← HA.out, List.take_of_length_le (by rw [HL.out]; omega)]), rfl⟩

theorem cnfB_bad {vars : Int} {zss : List (List Int)} (h : ¬ (0 ≤ vars ∧ vars ≤ 40 ∧ zss.length ≤ 300)) : cnfB vars zss = false := by
  have : decide (0 ≤ vars ∧ vars ≤ 40 ∧ zss.length ≤ 300) = false := decide_eq_false h
  simp [cnfB, this]
theorem cnfB_all {vars : Int} {zss : List (List Int)} (h : 0 ≤ vars ∧ vars ≤ 40 ∧ zss.length ≤ 300) : cnfB vars zss = zss.all (clauseB vars) := by
  have : decide (0 ≤ vars ∧ vars ≤ 40 ∧ zss.length ≤ 300) = true := decide_eq_true h
  simp [cnfB, this]

set_option maxHeartbeats 800000 in
theorem cnfOK_impl (vars : Int) (a : Option Addr) (len cap : Nat) (zss : List (List Int)) (w : World) (hr : IntRows w a len zss) :
    Calls Tryd.prog 11 #[.agg #[.int .i64 vars, .slice a len cap]] w fun e w' => e = .returned (.bool (cnfB vars zss)) ∧ Below w.heap.size w w' := by
  have hmost := hr.most
  unfold maxLen at hmost
  have HR := hid hr
  clear hr
  have HL := hid HR.out.length
  by_cases hbad : ¬ (0 ≤ vars ∧ vars ≤ 40 ∧ len ≤ 300)
  · have hf : cnfB vars zss = false := cnfB_bad (by rw [HL.out]; exact hbad)
    rw [hf]
    clear hf
    by_cases h1 : vars < 0
    · go_enter Tryd.func11, Tryd.ntmps11
      go_wp2
      go_ret
      exact ⟨rfl, (by repeat (first | exact Below.refl _ _ | assumption | refine Below.drew ?_ | refine Below.alloc ?_ (by first | exact Nat.le_refl _ | omega | (simp; done) | (simp; omega)) _ | refine Below.setCell ?_ (by first | exact Nat.le_refl _ | omega | (simp; done) | (simp; omega)) _))⟩
    have d1 : decide (vars < 0) = false := decide_eq_false h1
    by_cases h2 : (40 : Int) < vars
    · go_enter Tryd.func11, Tryd.ntmps11
      go_wp2
      go_ret
      exact ⟨rfl, (by repeat (first | exact Below.refl _ _ | assumption | refine Below.drew ?_ | refine Below.alloc ?_ (by first | exact Nat.le_refl _ | omega | (simp; done) | (simp; omega)) _ | refine Below.setCell ?_ (by first | exact Nat.le_refl _ | omega | (simp; done) | (simp; omega)) _))⟩
    have d2 : decide ((40 : Int) < vars) = false := decide_eq_false h2
    have h3 : (300 : Int) < (len : Int) := by omega
    go_enter Tryd.func11, Tryd.ntmps11
    go_wp2
    go_ret
    exact ⟨rfl, (by repeat (first | exact Below.refl _ _ | assumption | refine Below.drew ?_ | refine Below.alloc ?_ (by first | exact Nat.le_refl _ | omega | (simp; done) | (simp; omega)) _ | refine Below.setCell ?_ (by first | exact Nat.le_refl _ | omega | (simp; done) | (simp; omega)) _))⟩
  have hgood : 0 ≤ vars ∧ vars ≤ 40 ∧ len ≤ 300 := by omega
  clear hbad
  obtain ⟨h0, h1, h2⟩ := hgood
  have d1 : decide (vars < 0) = false := decide_eq_false (by omega)
  have d2 : decide ((40 : Int) < vars) = false := decide_eq_false (by omega)
  have d3 : decide ((300 : Int) < (len : Int)) = false := decide_eq_false (by omega)
  have hN := hid (cnfB_all (vars := vars) (zss := zss) (by rw [HL.out]; exact ⟨h0, h1, h2⟩))
  go_enter Tryd.func11, Tryd.ntmps11
  go_wp2
  go_loop [22] (fun i => ∃ k : Nat, k ≤ len ∧ i = .int .i64 k ∧ (zss.take k).all (clauseB vars) = true) (fun i => len - (intOf i).toNat)
  case atStart => exact ⟨0, Nat.zero_le _, rfl, rfl⟩
  case round =>
    obtain ⟨k, hk, rfl, ha⟩ := hrel
    have HA := hid ha
    clear ha
    by_cases hlt : k < len
    · obtain ⟨b, off, rfl, x, l, c, hc, hx⟩ := HR.out.cell k hlt
      have hbw : b < w.heap.size := World.block_lt_of_cell? _ _ hc
      have HX := hid hx
      clear hx
      by_cases hL : clauseB vars (zss[k]?.getD []) = true
      · go_wp2_with (go_at_call 23; refine (clause_impl _ _ _ _ _ _ h0 h1 (HX.out.below (by repeat (first | exact Below.refl _ _ | assumption | refine Below.drew ?_ | refine Below.alloc ?_ (by first | exact Nat.le_refl _ | omega | (simp; done) | (simp; omega)) _ | refine Below.setCell ?_ (by first | exact Nat.le_refl _ | omega | (simp; done) | (simp; omega)) _)))).mono ?_; rintro e w' ⟨rfl, rfl⟩)
        go_round
        case rel => exact ⟨k + 1, by omega, by go_num, by rw [all_take_succ (d := []) (by rw [HL.out]; omega), HA.out, hL]; rfl⟩
        case measure => simp [intOf]; omega
      · have hL' : clauseB vars (zss[k]?.getD []) = false := by simpa using hL
        clear hL
        go_wp2_with (go_at_call 23; refine (clause_impl _ _ _ _ _ _ h0 h1 (HX.out.below (by repeat (first | exact Below.refl _ _ | assumption | refine Below.drew ?_ | refine Below.alloc ?_ (by first | exact Nat.le_refl _ | omega | (simp; done) | (simp; omega)) _ | refine Below.setCell ?_ (by first | exact Nat.le_refl _ | omega | (simp; done) | (simp; omega)) _)))).mono ?_; rintro e w' ⟨rfl, rfl⟩)
        go_ret
        exact ⟨ret_bool (by rw [hN.out, all_false (d := []) (by rw [HL.out]; omega) hL']), (by repeat (first | exact Below.refl _ _ | assumption | refine Below.drew ?_ | refine Below.alloc ?_ (by first | exact Nat.le_refl _ | omega | (simp; done) | (simp; omega)) _ | refine Below.setCell ?_ (by first | exact Nat.le_refl _ | omega | (simp; done) | (simp; omega)) _))⟩
    · have e : k = len := by omega
      subst e
      go_wp2
      go_ret
      exact ⟨ret_bool (by rw [hN.out, ← HA.out, List.take_of_length_le (by rw [HL.out]; omega)]), (by repeat (first | exact Below.refl _ _ | assumption | refine Below.drew ?_ | refine Below.alloc ?_ (by first | exact Nat.le_refl _ | omega | (simp; done) | (simp; omega)) _ | refine Below.setCell ?_ (by first | exact Nat.le_refl _ | omega | (simp; done) | (simp; omega)) _))⟩

set_option maxHeartbeats 800000 in
theorem cnfOK_spec (vars : Int) (a : Option Addr) (len cap : Nat) (zss : List (List Int)) (w : World) (hr : IntRows w a len zss) :
    Calls Tryd.prog 18 #[.agg #[.int .i64 vars, .slice a len cap]] w fun e w' => e = .returned (.bool (cnfB vars zss)) ∧ Below w.heap.size w w' := by
  have hmost := hr.most
  unfold maxLen at hmost
  have HR := hid hr
  clear hr
  have HL := hid HR.out.length
  by_cases hv : ¬ (0 ≤ vars ∧ vars ≤ 40)
  · have hf : cnfB vars zss = false := cnfB_bad (by omega)
    rw [hf]
    clear hf
    have hi : inB vars 0 40 = false := decide_eq_false hv
    go_enter Tryd.func18, Tryd.ntmps18
    go_wp2_with (go_at_call 36; refine (in_spec _ _ _ _).mono ?_; rintro e w' ⟨rfl, rfl⟩)
    go_ret
    exact ⟨rfl, (by repeat (first | exact Below.refl _ _ | assumption | refine Below.drew ?_ | refine Below.alloc ?_ (by first | exact Nat.le_refl _ | omega | (simp; done) | (simp; omega)) _ | refine Below.setCell ?_ (by first | exact Nat.le_refl _ | omega | (simp; done) | (simp; omega)) _))⟩
  have hv' : 0 ≤ vars ∧ vars ≤ 40 := by omega
  clear hv
  have hi : inB vars 0 40 = true := decide_eq_true hv'
  obtain ⟨h0, h1⟩ := hv'
  by_cases h3 : (300 : Int) < (len : Int)
  · have hf : cnfB vars zss = false := cnfB_bad (by rw [HL.out]; omega)
    rw [hf]
    clear hf
    go_enter Tryd.func18, Tryd.ntmps18
    go_wp2_with (go_at_call 36; refine (in_spec _ _ _ _).mono ?_; rintro e w' ⟨rfl, rfl⟩)
    go_ret
    exact ⟨rfl, (by repeat (first | exact Below.refl _ _ | assumption | refine Below.drew ?_ | refine Below.alloc ?_ (by first | exact Nat.le_refl _ | omega | (simp; done) | (simp; omega)) _ | refine Below.setCell ?_ (by first | exact Nat.le_refl _ | omega | (simp; done) | (simp; omega)) _))⟩
  have d3 : decide ((300 : Int) < (len : Int)) = false := decide_eq_false h3
  have hN := hid (cnfB_all (vars := vars) (zss := zss) (by rw [HL.out]; omega))
  go_enter Tryd.func18, Tryd.ntmps18
  go_wp2_with (go_at_call 36; refine (in_spec _ _ _ _).mono ?_; rintro e w' ⟨rfl, rfl⟩)
  go_loopw [3] (fun i wr => ∃ k : Nat, k ≤ len ∧ i = .int .i64 k ∧ (zss.take k).all (clauseB vars) = true ∧ ∃ n, wr = (w.alloc (.cells #[.int .i64 vars, .slice a len cap] 25)).drewN n) (fun i _ => len - (intOf i).toNat)
  case atStart => exact ⟨0, Nat.zero_le _, rfl, rfl, 0, rfl⟩
  case round =>
    obtain ⟨k, hk, rfl, ha, n, hw⟩ := hrel
    have HA := hid ha
    clear ha
    have hB : Below w.heap.size w wr := by
      rw [hw]
      exact (show Below _ _ _ from (by repeat (first | exact Below.refl _ _ | assumption | refine Below.drew ?_ | refine Below.alloc ?_ (by first | exact Nat.le_refl _ | omega | (simp; done) | (simp; omega)) _ | refine Below.setCell ?_ (by first | exact Nat.le_refl _ | omega | (simp; done) | (simp; omega)) _))).trans ((below_drewN _ n).mono (by simp))
    have f0 : wr.cell? ⟨w.heap.size, 0, none⟩ = some (.int .i64 vars) := by rw [hw]; simp [go_sem]
    have f1 : wr.cell? ⟨w.heap.size, 1, none⟩ = some (.slice a len cap) := by rw [hw]; simp [go_sem]
    have HW := hid hw
    have HB := hid hB
    clear hw hB
    by_cases hlt : k < len
    · obtain ⟨b, off, rfl, x, l, c, hc0, hx0⟩ := HR.out.cell k hlt
      have hc := keep HB.out hc0
      have HX := hid (hx0.below HB.out)
      clear hx0 hc0
      by_cases hL : clauseB vars (zss[k]?.getD []) = true
      · go_wp2
        go_quiet ((go_at_call 37; exact Calls.quiet_of_same (clause_spec _ _ _ _ _ _ h0 h1 (HX.out.drewN _))))
        go_wp2
        go_roundw
        case rel => exact ⟨k + 1, by omega, by go_num, by rw [all_take_succ (d := []) (by rw [HL.out]; omega), HA.out, hL]; rfl, n + nq, by rw [HW.out, World.drewN_drewN]⟩
        case measure => simp [intOf]; omega
      · have hL' : clauseB vars (zss[k]?.getD []) = false := by simpa using hL
        clear hL
        go_wp2
        go_quiet ((go_at_call 37; exact Calls.quiet_of_same (clause_spec _ _ _ _ _ _ h0 h1 (HX.out.drewN _))))
        go_wp2
        go_ret
        exact ⟨ret_bool (by rw [hN.out, all_false (d := []) (by rw [HL.out]; omega) hL']), HB.out.trans ((below_drewN _ nq).mono HB.out.size)⟩
    · have e : k = len := by omega
      subst e
      go_wp2
      go_ret
      exact ⟨ret_bool (by rw [hN.out, ← HA.out, List.take_of_length_le (by rw [HL.out]; omega)]), HB.out⟩
end Go.Proofs.YtjdcndkgodpnlaaDoor.cnf
