/- MarkBools; Args: one text, so that the claim has fewer files. -/
import Derived.Test.YtbahjpheaaiamaaDoorPart48
import Derived.Test.YtbahjpheaaiamaaDoorPart1
import Derived.ProofKit
import Derived.OpenShut
import Derived.ShutString
import Derived.ChangeOld
import Derived.Lib.SmallJoins
import Derived.Deep.Slices
/- The laws' own marks in a row of Booleans, and what is held of it; conditions: lengths that fit. -/
namespace Go.Proofs.YtbahjpheaaiamaaDoor.markBools
open Go.RowKit Go.Deep base nodes
set_option linter.unusedVariables false
variable {w w' : World}

/-- All blocks but B are as they were. -/
structure Oth (B : Nat) (w w' : World) : Prop where
  os : w'.os = w.os
  tape : w'.tape = w.tape
  output : w'.output = w.output
  size : w.heap.size ≤ w'.heap.size
  block : ∀ k, k < w.heap.size → k ≠ B → w'.heap[k]? = w.heap[k]?
theorem Oth.refl (B : Nat) (w : World) : Oth B w w := ⟨rfl, rfl, rfl, Nat.le_refl _, fun _ _ _ => rfl⟩
theorem Oth.trans {B : Nat} {x y z : World} (h : Oth B x y) (k : Oth B y z) : Oth B x z :=
  ⟨k.os.trans h.os, k.tape.trans h.tape, k.output.trans h.output, Nat.le_trans h.size k.size, fun i hi hn => (k.block i (Nat.lt_of_lt_of_le hi h.size) hn).trans (h.block i hi hn)⟩
theorem Oth.of_below (B : Nat) (hb : Below w.heap.size w w') : Oth B w w' := ⟨hb.os, hb.tape, hb.output, hb.size, fun i hi _ => hb.block i hi⟩
theorem Oth.below {B N : Nat} (h : Oth B w w') (hN : N ≤ w.heap.size) (hB : N ≤ B) : Below N w w' := ⟨h.os, h.tape, h.output, h.size, fun i hi => h.block i (by omega) (by omega)⟩
theorem Oth.set (B : Nat) (w : World) (o : Nat) (v : Value) : Oth B w (w.setCell ⟨B, o, none⟩ v) :=
  ⟨rfl, rfl, rfl, by simp [World.setCell], fun k hk hn => Below.heap_setCell _ _ _ _ hn⟩
def mk (n : Int) (i : Nat) : Bool := (n + (i : Int)) % 3 == 0
def mks (n : Int) (len : Nat) : List Bool := (List.range len).map (mk n)
theorem mks_get {n : Int} {len i : Nat} (h : i < len) : (mks n len)[i]?.getD false = mk n i := by
  unfold mks
  rw [List.getElem?_map, List.getElem?_range h]; rfl
/-- A row that a call owns, by its cells. -/
theorem own_rowIs {B g n c : Nat} {w : World} {zs : List Bool} (h : OwnBools B w (.slice (some ⟨g, 0, none⟩) n c) zs) : zs.length = n ∧ n ≤ c ∧ B ≤ g ∧ c ≤ maxLen ∧ ∃ f, w.rowIs g 4 c f ∧ ∀ i, i < n → f i = .bool (zs[i]?.getD false) := by
  obtain ⟨h1, h2⟩ := h
  rcases h2 with ⟨e, _⟩ | ⟨g', cap, cur, e, hg, hh, hn, hm, hs, ht⟩
  · cases e
  · simp only [Value.slice.injEq, Option.some.injEq, Addr.mk.injEq] at e
    obtain ⟨⟨rfl, _⟩, rfl, rfl⟩ := e
    refine ⟨rfl, hn, hg, hm, fun i => cur[i]?.getD undef, ?_, fun i hi => ?_⟩
    · exact ⟨cur, hh, by rw [hs, Nat.mul_one], fun i hi => by
        have hi' : i < cur.size := by rw [hs]; omega
        simp [Array.getElem?_eq_getElem hi']⟩
    · have h3 : cur[i]? = some (.bool (zs[i]?.getD false)) := by
        have : (cur.toList.take (zs.length * 1))[i]? = (zs.map Value.bool)[i]? := by rw [ht]
        rw [List.getElem?_take, if_pos (by omega)] at this
        rw [← Array.getElem?_toList, this, List.getElem?_map, List.getElem?_eq_getElem hi]
        rfl
      simp [h3]

set_option maxHeartbeats 800000 in
theorem mark_bools (N len cap L : Nat) (n : Int) (w : World) (h : ∃ f, w.rowIs N 4 L f) (hle : len ≤ L) (hn0 : 0 ≤ n) (hn : n ≤ 9000000) (hl : len ≤ 1048576) :
    Calls Tryd.prog 12 #[.slice (some ⟨N, 0, none⟩) len cap, .int .i64 n] w fun e w' => e = .returned (.int .i64 (n + len)) ∧ Oth N w w' ∧ BoolRow w' (some ⟨N, 0, none⟩) len (mks n len) := by
  have HO := hid h
  clear h
  go_enter Tryd.func12, Tryd.ntmps12
  go_wp2
  go_loopw [5, 1] (fun i t wr => ∃ k : Nat, k ≤ len ∧ i = .int .i64 k ∧ t = .int .i64 (n + k) ∧ Oth N w wr ∧ ∃ f, wr.rowIs N 4 L f ∧ ∀ j, j < k → f j = .bool (mk n j)) (fun i _ _ => len - (intOf i).toNat)
  case atStart => exact ⟨0, Nat.zero_le _, rfl, by simp, Oth.refl _ _, by obtain ⟨f, hf⟩ := HO.out; exact ⟨f, hf, fun j hj => absurd hj (Nat.not_lt_zero _)⟩⟩
  case round =>
    obtain ⟨k, hk, rfl, rfl, hot, f, hf, hj⟩ := hrel
    have HT := hid hot
    have HF := hid hf
    have HJ := hid hj
    clear hot hj
    by_cases hlt : k < len
    · have g0 := hf.cell (i := k) (by omega)
      have z0 := hf.frozen k
      have HM : Hid (mk n k = ((n + (k : Int)) % 3 == 0)) := rfl
      clear hf
      go_wp2
      all_goals
        go_roundw
        case rel =>
          refine ⟨k + 1, by omega, by go_num, by congr 1; omega, HT.out.trans (Oth.set N _ _ _), _, HF.out.set k _, fun j hj => ?_⟩
          by_cases e : j = k
          · subst e; rw [if_pos rfl, HM.out]
          · rw [if_neg e]; exact HJ.out j (by omega)
        case measure => simp [intOf]; omega
    · have e : k = len := by omega
      subst e
      clear hf
      go_wp2
      go_ret
      refine ⟨rfl, HT.out, ⟨by simp [mks], by unfold maxLen; omega, fun i hi => ⟨N, 0, rfl, ?_⟩⟩⟩
      rw [mks_get hi, ← HJ.out i hi]
      simpa using HF.out.cell (i := i) (by omega)

set_option maxHeartbeats 400000 in
theorem mark_nil (n : Int) (w : World) : Calls Tryd.prog 12 #[.slice none 0 0, .int .i64 n] w fun e w' => e = .returned (.int .i64 n) ∧ w' = w := by
  go_enter Tryd.func12, Tryd.ntmps12
  go_wp2
  go_loop [5, 1] (fun i t => i = .int .i64 0 ∧ t = .int .i64 n) (fun _ _ => 0)
  case atStart => exact ⟨rfl, rfl⟩
  case round =>
    obtain ⟨rfl, rfl⟩ := hrel
    go_wp2
    go_ret
    exact ⟨rfl, rfl⟩

/-- The answer's row is marked, and nothing else of what was there. -/
theorem mark_own (B L : Nat) (a : Option Addr) (cap : Nat) (zs : List Bool) (n : Int) (w : World) (h : OwnBools B w (.slice a L cap) zs) (hn0 : 0 ≤ n) (hn : n ≤ 9000000) (hl : L ≤ 1048576) (hB : B ≤ w.heap.size) :
    Calls Tryd.prog 12 #[.slice a L cap, .int .i64 n] w fun e w' => e = .returned (.int .i64 (n + L)) ∧ Below B w w' ∧ BoolRow w' a L (mks n L) := by
  rcases h.2 with ⟨e, h0⟩ | ⟨g, c, cur, e, hg, hr⟩
  · simp only [Value.slice.injEq] at e
    obtain ⟨rfl, rfl, rfl⟩ := e
    refine (mark_nil n w).mono ?_
    rintro e w1 ⟨rfl, rfl⟩
    exact ⟨by simp, Below.refl _ _, ⟨rfl, Nat.zero_le _, fun i hi => absurd hi (Nat.not_lt_zero _)⟩⟩
  · simp only [Value.slice.injEq] at e
    obtain ⟨rfl, rfl, rfl⟩ := e
    obtain ⟨h1, h2, h3, h4, f, hf, _⟩ := own_rowIs h
    refine (mark_bools g _ _ _ n w ⟨f, hf⟩ h2 hn0 hn hl).mono ?_
    rintro e w1 ⟨rfl, ho, hb⟩
    exact ⟨rfl, ho.below hB h3, hb⟩

set_option maxHeartbeats 400000 in
theorem held_bools (a : Option Addr) (len cap : Nat) (n : Int) (w : World) (hr : BoolRow w a len (mks n len)) (hn0 : 0 ≤ n) (hn : n ≤ 9000000) (hl : len ≤ 1048576) :
    Calls Tryd.prog 13 #[.slice a len cap, .int .i64 n] w fun e w' => e = .returned (.int .i64 (n + len)) ∧ w' = w := by
  have HR := hid hr
  clear hr
  go_enter Tryd.func13, Tryd.ntmps13
  go_wp2
  go_loop [5, 1] (fun i t => ∃ k : Nat, k ≤ len ∧ i = .int .i64 k ∧ t = .int .i64 (n + k)) (fun i _ => len - (intOf i).toNat)
  case atStart => exact ⟨0, Nat.zero_le _, rfl, by simp⟩
  case round =>
    obtain ⟨k, hk, rfl, rfl⟩ := hrel
    by_cases hlt : k < len
    · obtain ⟨b, off, rfl, hc⟩ := HR.out.cell k hlt
      rw [mks_get hlt] at hc
      have hm : mk n k = ((n + (k : Int)) % 3 == 0) := rfl
      cases hv : mk n k with
      | true =>
        rw [hv] at hc hm
        have hq : ((n + (k : Int)) % 3 == 0) = true := hm.symm
        clear hm
        go_wp2
        go_round
        case rel => exact ⟨k + 1, by omega, by go_num, by congr 1; omega⟩
        case measure => simp [intOf]; omega
      | false =>
        rw [hv] at hc hm
        have hq : ((n + (k : Int)) % 3 == 0) = false := hm.symm
        clear hm
        go_wp2
        go_round
        case rel => exact ⟨k + 1, by omega, by go_num, by congr 1; omega⟩
        case measure => simp [intOf]; omega
    · have e : k = len := by omega
      subst e
      go_wp2
      go_ret
      exact ⟨rfl, rfl⟩

theorem row_of_own {B L c : Nat} {w : World} {a : Option Addr} {zs : List Bool} (h : OwnBools B w (.slice a L c) zs) : BoolRow w a L zs := by
  obtain ⟨a', c', e, hr⟩ := h.form rfl
  simp only [Value.slice.injEq] at e
  obtain ⟨rfl, rfl, rfl⟩ := e
  exact hr
end Go.Proofs.YtbahjpheaaiamaaDoor.markBools

/- From the form's readings of arguments to the rows that the contracts speak of; of no program; conditions: none. -/
namespace Go.Proofs.YtbahjpheaaiamaaDoor.args
open Go.ChangeShapes Go.WideShapes Go.ChangeAt Go.RowKit Go.Deep Go.Joins base

variable {H : Type} {enc : TypeId × Value → H} {P : Program} {w : World} {base : Nat} {held : Bool}

theorem getD_take {α : Type} {zs : List α} {d : α} {n i : Nat} (h : i < n) : (zs.take n)[i]?.getD d = zs[i]?.getD d := by
  rw [List.getElem?_take, if_pos h]
theorem at_none {x : Addr} {i : Nat} {v v0 : Value} (h0 : w.cell? (x.add 0) = some v0) (h : w.cell? (x.add i) = some v) : x = ⟨x.block, x.off, none⟩ ∧ w.cell? ⟨x.block, x.off + i, none⟩ = some v := by
  have hs := World.cell?_spot h0
  obtain ⟨b, o, s⟩ := x
  have hs' : s = none := by simpa [Addr.add] using hs
  subst hs'
  refine ⟨rfl, ?_⟩
  by_cases e : i = 0
  · subst e; simpa [Addr.add] using h
  · simpa [Addr.add, e] using h

theorem int_of_trod {e : TypeId} {k : IntKind} {fuel : Nat} {v : Value} {x : DataW H × List MemPlace} (he : P.underlying e = some (.int k)) (h : DataW.trod enc P w base (fun _ => true) held fuel e [v] = some x) :
    ∃ n, v = .int k n ∧ (Lit.int k n).wf = true := by
  obtain ⟨n, e0, _, hw⟩ := DataW.trod_int he h
  exact ⟨n, by simpa using e0, hw⟩

theorem row_of_trod {t e : TypeId} {fuel : Nat} {v : Value} {x : DataW H × List MemPlace} (ht : P.underlying t = some (.slice e)) (he : P.underlying e = some (.int .i64)) (ce : P.cellsOf e = 1)
    (h : DataW.trod enc P w base (fun _ => true) held fuel t [v] = some x) : ∃ a len cap zs, v = .slice a len cap ∧ IntRow w a len zs ∧ ∀ n ∈ zs, (Lit.int .i64 n).wf = true := by
  rcases open_ints ht he ce h with ⟨hcs, _⟩ | ⟨x, l, c, zs, hcs, _, hl, hm, hz, _, hcell, hwz⟩
  · exact ⟨none, 0, 0, [], by simpa using hcs, ⟨rfl, Nat.zero_le _, fun i hi => absurd hi (Nat.not_lt_zero _)⟩, by simp⟩
  · simp only [if_true] at hz
    refine ⟨some x, l, c, zs.take l, by simpa using hcs, ⟨by simp [hz, hl], Nat.le_trans hl hm, fun i hi => ?_⟩, fun n hn => hwz n (List.mem_of_mem_take hn)⟩
    obtain ⟨e1, e2⟩ := at_none (hcell 0 (by omega)) (hcell i (by omega))
    exact ⟨x.block, x.off, by rw [← e1], by rw [e2, getD_take hi, List.getD_eq_getElem?_getD]⟩

theorem rows_of_trod {t e q : TypeId} {fuel : Nat} {v : Value} {x : DataW H × List MemPlace} (ht : P.underlying t = some (.slice e)) (he : P.underlying e = some (.slice q)) (hq : P.underlying q = some (.int .i64)) (ce : P.cellsOf e = 1) (cq : P.cellsOf q = 1)
    (h : DataW.trod enc P w base (fun _ => true) held fuel t [v] = some x) : ∃ a len cap zss, v = .slice a len cap ∧ IntRows w a len zss ∧ ∀ zs ∈ zss, ∀ n ∈ zs, (Lit.int .i64 n).wf = true := by
  rcases open_slice1 ht ce h with ⟨hcs, _⟩ | ⟨a, len, cap, m, n, V, D, Pl, hcs, hb, hl, hm, hmm, rfl, hx⟩
  · exact ⟨none, 0, 0, [], by simpa using hcs, ⟨rfl, Nat.zero_le _, fun i hi => absurd hi (Nat.not_lt_zero _)⟩, by simp⟩
  · simp only [if_true] at hmm
    subst hmm
    have each : ∀ i, i < m → ∃ zs : List Int, ∃ a' l' c', V i = .slice a' l' c' ∧ IntRow w a' l' zs ∧ ∀ n ∈ zs, (Lit.int .i64 n).wf = true := fun i hi => by
      obtain ⟨a', l', c', zs, e0, h1, h2⟩ := row_of_trod he hq cq (hx i hi).2
      exact ⟨zs, a', l', c', e0, h1, h2⟩
    obtain ⟨f, hf⟩ := choose_lt each
    refine ⟨some a, len, m, (List.range len).map f, by simpa using hcs, ⟨by simp, Nat.le_trans hl hm, fun i hi => ?_⟩, ?_⟩
    · obtain ⟨a', l', c', e0, h1, _⟩ := hf i (by omega)
      obtain ⟨e1, e2⟩ := at_none (hx 0 (by omega)).1 (hx i (by omega)).1
      refine ⟨a.block, a.off, by rw [← e1], a', l', c', by rw [e2, e0], ?_⟩
      simpa [hi] using h1
    · intro zs hz
      obtain ⟨i, hi, rfl⟩ := List.mem_map.1 hz
      obtain ⟨_, _, _, _, _, h2⟩ := hf i (by have := List.mem_range.1 hi; omega)
      exact h2
end Go.Proofs.YtbahjpheaaiamaaDoor.args
