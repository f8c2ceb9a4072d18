/- The laws' own marks in a circuit, in literals and in values, and what is held of them; conditions: lengths that fit. -/
import Derived.Test.YtijeicccmjgpiaaEvalAig
import Derived.Test.YtijeicccmjgpiaaCopy
namespace Go.Proofs.Ytijeicccmjgpiaa.markAig
open Go.RowKit Go.Deep base gates trees nodes
set_option linter.unusedVariables false

set_option maxHeartbeats 400000 in
theorem mark_ints (N len : Nat) (n : Int) (w : World) (h : ∃ f, w.rowIs N 3 len f) (hn0 : 0 ≤ n) (hn : n ≤ 9000000) (hl : len ≤ 1048576) :
    Calls Try.prog 18 #[.slice (some ⟨N, 0, none⟩) len len, .int .i64 n] w fun e w' => e = .returned (.int .i64 (n + len)) ∧ Oth N w w' := by
  have HO := hid h
  clear h
  go_enter Try.func18, Try.ntmps18
  go_wp2
  go_loopw [5, 1] (fun i t wr => ∃ k : Nat, k ≤ len ∧ i = .int .i64 k ∧ t = .int .i64 (n + k) ∧ Oth N w wr ∧ ∃ f, wr.rowIs N 3 len f) (fun i _ _ => len - (intOf i).toNat)
  case atStart => exact ⟨0, Nat.zero_le _, rfl, by simp, Oth.refl _ _, HO.out⟩
  case round =>
    obtain ⟨k, hk, rfl, rfl, hot, f, hf⟩ := hrel
    have HT := hid hot
    have HF := hid hf
    clear hot
    by_cases hlt : k < len
    · have g0 := hf.cell (i := k) (by omega)
      have z0 := hf.frozen k
      clear hf
      go_wp2
      go_roundw
      case rel => exact ⟨k + 1, by omega, by go_num, by congr 1; omega, HT.out.trans (Oth.set N _ _ _), _, HF.out.set k _⟩
      case measure => simp [intOf]; omega
    · have e : k = len := by omega
      subst e
      clear hf
      go_wp2
      go_ret
      exact ⟨rfl, HT.out⟩

set_option maxHeartbeats 800000 in
theorem mark_gates (N len : Nat) (n : Int) (w : World) (h : ∃ f, w.rowIs N 56 (len * 2) f) (hn0 : 0 ≤ n) (hn : n ≤ 9000000) (hl : len ≤ 1048576) :
    Calls Try.prog 37 #[.slice (some ⟨N, 0, none⟩) len len, .int .i64 n] w fun e w' => e = .returned (.int .i64 (n + 2 * len)) ∧ Oth N w w' := by
  have HO := hid h
  clear h
  go_enter Try.func37, Try.ntmps37
  go_wp2
  go_loopw [5, 1] (fun i t wr => ∃ k : Nat, k ≤ len ∧ i = .int .i64 k ∧ t = .int .i64 (n + 2 * k) ∧ Oth N w wr ∧ ∃ f, wr.rowIs N 56 (len * 2) f) (fun i _ _ => len - (intOf i).toNat)
  case atStart => exact ⟨0, Nat.zero_le _, rfl, by simp, Oth.refl _ _, HO.out⟩
  case round =>
    obtain ⟨k, hk, rfl, rfl, hot, f, hf⟩ := hrel
    have HT := hid hot
    have HF := hid hf
    clear hot
    by_cases hlt : k < len
    · have g0 := hf.cell (i := k * 2) (by omega)
      have z0 := hf.frozen (k * 2)
      have g1 := hf.cell (i := k * 2 + 1) (by omega)
      have z1 := hf.frozen (k * 2 + 1)
      clear hf
      go_wp2
      go_roundw
      case rel => exact ⟨k + 1, by omega, by go_num, by congr 1; omega, (HT.out.trans (Oth.set N _ _ _)).trans (Oth.set N _ _ _), _, (HF.out.set (k * 2) _).set (k * 2 + 1) _⟩
      case measure => simp [intOf]; omega
    · have e : k = len := by omega
      subst e
      clear hf
      go_wp2
      go_ret
      exact ⟨rfl, HT.out⟩

set_option maxHeartbeats 400000 in
theorem mark_aig (v : Int) (N len : Nat) (n : Int) (w : World) (h : ∃ f, w.rowIs N 56 (len * 2) f) (hn0 : 0 ≤ n) (hn : n ≤ 9000000) (hl : len ≤ 1048576) :
    Calls Try.prog 17 #[.agg #[.int .i64 v, .slice (some ⟨N, 0, none⟩) len len], .int .i64 n] w fun e w' => e = .returned (.int .i64 (n + 2 * len)) ∧ Oth N w w' := by
  have HO := hid h
  clear h
  go_enter Try.func17, Try.ntmps17
  go_wp2_with fail
  refine (mark_gates N len n _ (by obtain ⟨f, hf⟩ := HO.out; exact ⟨f, hf.of_block ((show Below w.heap.size w _ from (by repeat (first | exact Below.refl _ _ | assumption | refine Below.drew ?_ | refine Below.alloc ?_ (by first | exact Nat.le_refl _ | omega | (simp; done) | (simp; omega)) _ | refine Below.setCell ?_ (by first | exact Nat.le_refl _ | omega | (simp; done) | (simp; omega)) _))).block _ hf.lt)⟩) hn0 hn hl).mono ?_
  rintro e w1 ⟨rfl, ho1⟩
  have HT := hid ((Oth.of_below N (show Below w.heap.size w _ from (by repeat (first | exact Below.refl _ _ | assumption | refine Below.drew ?_ | refine Below.alloc ?_ (by first | exact Nat.le_refl _ | omega | (simp; done) | (simp; omega)) _ | refine Below.setCell ?_ (by first | exact Nat.le_refl _ | omega | (simp; done) | (simp; omega)) _)))).trans ho1)
  clear ho1
  go_wp2
  go_ret
  exact ⟨rfl, HT.out⟩

def mk (n : Int) (i : Nat) : Bool := (n + (i : Int)) % 3 == 0
def mks (n : Int) (len : Nat) : List Bool := (List.range len).map (mk n)
theorem mks_get {n : Int} {len i : Nat} (h : i < len) : (mks n len)[i]?.getD false = mk n i := by
  unfold mks
  rw [List.getElem?_map, List.getElem?_range h]; rfl
theorem grown_oth {w w1 : World} {N : Nat} (h : Oth N w w1) : w.grownBy w1 (some N) := ⟨h.os, h.tape, h.output, h.size, fun k hk hne => h.block k hk (fun e => hne (by rw [e]))⟩
theorem oth_grown {w w1 : World} {N : Nat} (h : w.grownBy w1 (some N)) : Oth N w w1 := ⟨h.os, h.tape, h.output, h.size, fun k hk hne => h.block k hk (fun e => hne (by cases e; rfl))⟩

/-- A row that a call owns, by its cells. -/
theorem own_rowIs {B g n c : Nat} {w : World} {zs : List Bool} (h : OwnBools B w (.slice (some ⟨g, 0, none⟩) n c) zs) : zs.length = n ∧ n ≤ c ∧ B ≤ g ∧ c ≤ maxLen ∧ ∃ f, w.rowIs g 4 c f ∧ ∀ i, i < n → f i = .bool (zs[i]?.getD false) := by
  obtain ⟨h1, h2⟩ := h
  rcases h2 with ⟨e, _⟩ | ⟨g', cap, cur, e, hg, hh, hn, hm, hs, ht⟩
  · cases e
  · simp only [Value.slice.injEq, Option.some.injEq, Addr.mk.injEq] at e
    obtain ⟨⟨rfl, _⟩, rfl, rfl⟩ := e
    refine ⟨rfl, hn, hg, hm, fun i => cur[i]?.getD undef, ?_, fun i hi => ?_⟩
    · exact ⟨cur, hh, by rw [hs, Nat.mul_one], fun i hi => by
        have hi' : i < cur.size := by rw [hs]; omega
        simp [Array.getElem?_eq_getElem hi']⟩
    · have h3 : cur[i]? = some (.bool (zs[i]?.getD false)) := by
        have : (cur.toList.take (zs.length * 1))[i]? = (zs.map Value.bool)[i]? := by rw [ht]
        rw [List.getElem?_take, if_pos (by omega)] at this
        rw [← Array.getElem?_toList, this, List.getElem?_map, List.getElem?_eq_getElem hi]
        rfl
      simp [h3]

set_option maxHeartbeats 800000 in
theorem mark_bools (N len cap L : Nat) (n : Int) (w : World) (h : ∃ f, w.rowIs N 4 L f) (hle : len ≤ L) (hn0 : 0 ≤ n) (hn : n ≤ 9000000) (hl : len ≤ 1048576) :
    Calls Try.prog 19 #[.slice (some ⟨N, 0, none⟩) len cap, .int .i64 n] w fun e w' => e = .returned (.int .i64 (n + len)) ∧ Oth N w w' ∧ BoolRow w' (some ⟨N, 0, none⟩) len (mks n len) := by
  have HO := hid h
  clear h
  go_enter Try.func19, Try.ntmps19
  go_wp2
  go_loopw [5, 1] (fun i t wr => ∃ k : Nat, k ≤ len ∧ i = .int .i64 k ∧ t = .int .i64 (n + k) ∧ Oth N w wr ∧ ∃ f, wr.rowIs N 4 L f ∧ ∀ j, j < k → f j = .bool (mk n j)) (fun i _ _ => len - (intOf i).toNat)
  case atStart => exact ⟨0, Nat.zero_le _, rfl, by simp, Oth.refl _ _, by obtain ⟨f, hf⟩ := HO.out; exact ⟨f, hf, fun j hj => absurd hj (Nat.not_lt_zero _)⟩⟩
  case round =>
    obtain ⟨k, hk, rfl, rfl, hot, f, hf, hj⟩ := hrel
    have HT := hid hot
    have HF := hid hf
    have HJ := hid hj
    clear hot hj
    by_cases hlt : k < len
    · have g0 := hf.cell (i := k) (by omega)
      have z0 := hf.frozen k
      have HM : Hid (mk n k = ((n + (k : Int)) % 3 == 0)) := rfl
      clear hf
      go_wp2
      all_goals
        go_roundw
        case rel =>
          refine ⟨k + 1, by omega, by go_num, by congr 1; omega, HT.out.trans (Oth.set N _ _ _), _, HF.out.set k _, fun j hj => ?_⟩
          by_cases e : j = k
          · subst e; rw [if_pos rfl, HM.out]
          · rw [if_neg e]; exact HJ.out j (by omega)
        case measure => simp [intOf]; omega
    · have e : k = len := by omega
      subst e
      clear hf
      go_wp2
      go_ret
      refine ⟨rfl, HT.out, ⟨by simp [mks], by unfold maxLen; omega, fun i hi => ⟨N, 0, rfl, ?_⟩⟩⟩
      rw [mks_get hi, ← HJ.out i hi]
      simpa using HF.out.cell (i := i) (by omega)

set_option maxHeartbeats 400000 in
theorem mark_nil (n : Int) (w : World) : Calls Try.prog 19 #[.slice none 0 0, .int .i64 n] w fun e w' => e = .returned (.int .i64 n) ∧ w' = w := by
  go_enter Try.func19, Try.ntmps19
  go_wp2
  go_loop [5, 1] (fun i t => i = .int .i64 0 ∧ t = .int .i64 n) (fun _ _ => 0)
  case atStart => exact ⟨rfl, rfl⟩
  case round =>
    obtain ⟨rfl, rfl⟩ := hrel
    go_wp2
    go_ret
    exact ⟨rfl, rfl⟩

/-- The answer's row is marked, and nothing else of what was there. -/
theorem mark_own (B L : Nat) (a : Option Addr) (cap : Nat) (zs : List Bool) (n : Int) (w : World) (h : OwnBools B w (.slice a L cap) zs) (hn0 : 0 ≤ n) (hn : n ≤ 9000000) (hl : L ≤ 1048576) (hB : B ≤ w.heap.size) :
    Calls Try.prog 19 #[.slice a L cap, .int .i64 n] w fun e w' => e = .returned (.int .i64 (n + L)) ∧ Below B w w' ∧ BoolRow w' a L (mks n L) := by
  rcases h.2 with ⟨e, h0⟩ | ⟨g, c, cur, e, hg, hr⟩
  · simp only [Value.slice.injEq] at e
    obtain ⟨rfl, rfl, rfl⟩ := e
    refine (mark_nil n w).mono ?_
    rintro e w1 ⟨rfl, rfl⟩
    exact ⟨by simp, Below.refl _ _, ⟨rfl, Nat.zero_le _, fun i hi => absurd hi (Nat.not_lt_zero _)⟩⟩
  · simp only [Value.slice.injEq] at e
    obtain ⟨rfl, rfl, rfl⟩ := e
    obtain ⟨h1, h2, h3, h4, f, hf, _⟩ := own_rowIs h
    refine (mark_bools g _ _ _ n w ⟨f, hf⟩ h2 hn0 hn hl).mono ?_
    rintro e w1 ⟨rfl, ho, hb⟩
    exact ⟨rfl, ho.below hB h3, hb⟩

set_option maxHeartbeats 400000 in
theorem held_bools (a : Option Addr) (len cap : Nat) (n : Int) (w : World) (hr : BoolRow w a len (mks n len)) (hn0 : 0 ≤ n) (hn : n ≤ 9000000) (hl : len ≤ 1048576) :
    Calls Try.prog 20 #[.slice a len cap, .int .i64 n] w fun e w' => e = .returned (.int .i64 (n + len)) ∧ w' = w := by
  have HR := hid hr
  clear hr
  go_enter Try.func20, Try.ntmps20
  go_wp2
  go_loop [5, 1] (fun i t => ∃ k : Nat, k ≤ len ∧ i = .int .i64 k ∧ t = .int .i64 (n + k)) (fun i _ => len - (intOf i).toNat)
  case atStart => exact ⟨0, Nat.zero_le _, rfl, by simp⟩
  case round =>
    obtain ⟨k, hk, rfl, rfl⟩ := hrel
    by_cases hlt : k < len
    · obtain ⟨b, off, rfl, hc⟩ := HR.out.cell k hlt
      rw [mks_get hlt] at hc
      have hm : mk n k = ((n + (k : Int)) % 3 == 0) := rfl
      cases hv : mk n k with
      | true =>
        rw [hv] at hc hm
        have hq : ((n + (k : Int)) % 3 == 0) = true := hm.symm
        clear hm
        go_wp2
        go_round
        case rel => exact ⟨k + 1, by omega, by go_num, by congr 1; omega⟩
        case measure => simp [intOf]; omega
      | false =>
        rw [hv] at hc hm
        have hq : ((n + (k : Int)) % 3 == 0) = false := hm.symm
        clear hm
        go_wp2
        go_round
        case rel => exact ⟨k + 1, by omega, by go_num, by congr 1; omega⟩
        case measure => simp [intOf]; omega
    · have e : k = len := by omega
      subst e
      go_wp2
      go_ret
      exact ⟨rfl, rfl⟩

theorem own_oth {B N : Nat} {w w' : World} {v : Value} {zs : List Bool} (h : OwnBools B w v zs) (ho : Oth N w w') (hN : N < B) : OwnBools B w' v zs := by
  obtain ⟨h1, h2⟩ := h
  refine ⟨h1, ?_⟩
  rcases h2 with h2 | ⟨g, cap, cur, e, hg, hh, h3⟩
  · exact .inl h2
  · exact .inr ⟨g, cap, cur, e, hg, by rw [ho.block g (Array.getElem?_eq_some_iff.1 hh).1 (by omega)]; exact hh, h3⟩
theorem row_of_own {B L c : Nat} {w : World} {a : Option Addr} {zs : List Bool} (h : OwnBools B w (.slice a L c) zs) : BoolRow w a L zs := by
  obtain ⟨a', c', e, hr⟩ := h.form rfl
  simp only [Value.slice.injEq] at e
  obtain ⟨rfl, rfl, rfl⟩ := e
  exact hr
end Go.Proofs.Ytijeicccmjgpiaa.markAig
