/- EvalAig, of the program and of the specification; conditions: the literals fit. -/
import Derived.Test.YtaileckcflnbdaaNodesI
import Derived.Test.YtaileckcflnbdaaAigSpec
namespace Go.Proofs.Ytaileckcflnbdaa.evalAig
open Go.RowKit Go.Deep base gates trees aigImpl aigSpec nodes
set_option linter.unusedVariables false

def inL (n : Int) (len : Nat) (l : Int) : Bool := decide (0 ≤ l ∧ l ≤ 2 * (n + len) + 1)
def evCode (n : Int) (len : Nat) (g : Gs) (ls : List Int) (vl : Nat) : Int :=
  if 4096 < ls.length ∨ 4096 < vl then 2 else if aigB n len g = false then 1 else if (vl : Int) ≠ n ∨ ls.all (inL n len) = false then 5 else 0
def evList (n : Int) (len : Nat) (g : Gs) (ls : List Int) (vs : List Bool) : List Bool := if evCode n len g ls vs.length = 0 then ls.map (litV (nodesOf vs g len)) else []

set_option maxHeartbeats 400000 in
theorem isLit_impl (n : Int) (a : Option Addr) (len cap : Nat) (l : Int) (w : World) (h0 : 0 ≤ n) (h1 : n ≤ 12) (h2 : len ≤ 400) (hl : I64 l) :
    Calls Try.prog 20 #[.agg #[.int .i64 n, .slice a len cap], .int .i64 l] w fun e w' => e = .returned (.bool (inL n len l)) ∧ Below w.heap.size w w' := by
  obtain ⟨w0, w1⟩ := hl
  by_cases h3 : 0 ≤ l
  · have d3 : decide (0 ≤ l) = true := decide_eq_true h3
    by_cases h4 : l / 2 ≤ n + len
    · have d4 : decide (l / 2 ≤ n + (len : Int)) = true := decide_eq_true h4
      rw [show inL n len l = true from decide_eq_true (by omega)]
      go_enter Try.func20, Try.ntmps20
      go_wp2
      go_ret
      exact ⟨rfl, (by repeat (first | exact Below.refl _ _ | assumption | refine Below.drew ?_ | refine Below.alloc ?_ (by first | exact Nat.le_refl _ | omega | (simp; done) | (simp; omega)) _ | refine Below.setCell ?_ (by first | exact Nat.le_refl _ | omega | (simp; done) | (simp; omega)) _))⟩
    · have d4 : decide (l / 2 ≤ n + (len : Int)) = false := decide_eq_false h4
      rw [show inL n len l = false from decide_eq_false (by omega)]
      go_enter Try.func20, Try.ntmps20
      go_wp2
      go_ret
      exact ⟨rfl, (by repeat (first | exact Below.refl _ _ | assumption | refine Below.drew ?_ | refine Below.alloc ?_ (by first | exact Nat.le_refl _ | omega | (simp; done) | (simp; omega)) _ | refine Below.setCell ?_ (by first | exact Nat.le_refl _ | omega | (simp; done) | (simp; omega)) _))⟩
  · have d3 : decide (0 ≤ l) = false := decide_eq_false h3
    rw [show inL n len l = false from decide_eq_false (by omega)]
    go_enter Try.func20, Try.ntmps20
    go_wp2
    go_ret
    exact ⟨rfl, (by repeat (first | exact Below.refl _ _ | assumption | refine Below.drew ?_ | refine Below.alloc ?_ (by first | exact Nat.le_refl _ | omega | (simp; done) | (simp; omega)) _ | refine Below.setCell ?_ (by first | exact Nat.le_refl _ | omega | (simp; done) | (simp; omega)) _))⟩

set_option maxHeartbeats 800000 in
theorem in_lits (n : Int) (a : Option Addr) (len cap : Nat) (la : Option Addr) (ll lc : Nat) (ls : List Int) (w : World) (h0 : 0 ≤ n) (h1 : n ≤ 12) (h2 : len ≤ 400) (hr : IntRow w la ll ls) :
    Calls Try.prog 24 #[.agg #[.int .i64 n, .slice a len cap], .slice la ll lc] w fun e w' => e = .returned (.bool (ls.all (inL n len))) ∧ Below w.heap.size w w' := by
  have hmost := hr.most
  unfold maxLen at hmost
  have HL := hid hr.length
  have HR := hid hr
  clear hr
  go_enter Try.func24, Try.ntmps24
  go_wp2
  go_loopw [5] (fun i wr => ∃ k : Nat, k ≤ ll ∧ i = .int .i64 k ∧ (ls.take k).all (inL n len) = true ∧ Below w.heap.size w wr ∧ wr.cell? ⟨w.heap.size, 0, none⟩ = some (.int .i64 n) ∧ wr.cell? ⟨w.heap.size, 1, none⟩ = some (.slice a len cap)) (fun i _ => ll - (intOf i).toNat)
  case atStart => exact ⟨0, Nat.zero_le _, rfl, rfl, (by repeat (first | exact Below.refl _ _ | assumption | refine Below.drew ?_ | refine Below.alloc ?_ (by first | exact Nat.le_refl _ | omega | (simp; done) | (simp; omega)) _ | refine Below.setCell ?_ (by first | exact Nat.le_refl _ | omega | (simp; done) | (simp; omega)) _)), by simp [go_sem], by simp [go_sem]⟩
  case round =>
    obtain ⟨k, hk, rfl, ha, hb, hn, hs⟩ := hrel
    have HA := hid ha
    have HB := hid hb
    clear ha hb
    by_cases hlt : k < ll
    · obtain ⟨b, off, rfl, hc⟩ := HR.out.cell k hlt
      replace hc := keep HB.out hc
      have HT : Hid (inL n len (ls[k]?.getD 0) = true → (ls.take (k + 1)).all (inL n len) = true) := fun h => by rw [all_take_succ (d := 0) (by rw [HL.out]; exact hlt), HA.out, h]; rfl
      have HF : Hid (inL n len (ls[k]?.getD 0) = false → ls.all (inL n len) = false) := fun h => all_false (d := 0) (by rw [HL.out]; exact hlt) h
      generalize ls[k]?.getD 0 = z at *
      cases hz : inL n len z with
      | false =>
        have hz' : inB z 0 (2 * (n + len) + 1) = false := hz
        go_wp2
        go_quiet ((go_at_call 15; exact Calls.quiet_of_same (in_spec _ _ _ _)))
        go_wp2
        go_ret
        exact ⟨ret_bool (HF.out hz).symm, HB.out.trans ((below_drewN _ _).mono HB.out.size)⟩
      | true =>
        have hz' : inB z 0 (2 * (n + len) + 1) = true := hz
        go_wp2
        go_quiet ((go_at_call 15; exact Calls.quiet_of_same (in_spec _ _ _ _)))
        go_wp2
        go_roundw
        case rel => exact ⟨k + 1, by omega, by go_num, HT.out hz, HB.out.trans ((below_drewN _ _).mono HB.out.size), by simpa using hn, by simpa using hs⟩
        case measure => simp [intOf]; omega
    · have e : k = ll := by omega
      subst e
      go_wp2
      go_ret
      exact ⟨ret_bool (by rw [← HA.out, List.take_of_length_le (by rw [HL.out]; omega)]), HB.out⟩

theorem code_long {n : Int} {len : Nat} {g : Gs} {ls : List Int} {vs : List Bool} (h : 4096 < ls.length ∨ 4096 < vs.length) : evCode n len g ls vs.length = 2 ∧ evList n len g ls vs = [] := by
  have e : evCode n len g ls vs.length = 2 := if_pos h
  exact ⟨e, by unfold evList; rw [e]; rfl⟩
theorem code_bad {n : Int} {len : Nat} {g : Gs} {ls : List Int} {vs : List Bool} (h : ¬ (4096 < ls.length ∨ 4096 < vs.length)) (h1 : aigB n len g = false) : evCode n len g ls vs.length = 1 ∧ evList n len g ls vs = [] := by
  have e : evCode n len g ls vs.length = 1 := by unfold evCode; rw [if_neg h, if_pos h1]
  exact ⟨e, by unfold evList; rw [e]; rfl⟩
theorem code_range {n : Int} {len : Nat} {g : Gs} {ls : List Int} {vs : List Bool} (h : ¬ (4096 < ls.length ∨ 4096 < vs.length)) (h1 : aigB n len g = true) (h2 : (vs.length : Int) ≠ n ∨ ls.all (inL n len) = false) : evCode n len g ls vs.length = 5 ∧ evList n len g ls vs = [] := by
  have e : evCode n len g ls vs.length = 5 := by unfold evCode; rw [if_neg h, if_neg (by rw [h1]; decide), if_pos h2]
  exact ⟨e, by unfold evList; rw [e]; rfl⟩
theorem code_ok {n : Int} {len : Nat} {g : Gs} {ls : List Int} {vs : List Bool} (h : ¬ (4096 < ls.length ∨ 4096 < vs.length)) (h1 : aigB n len g = true) (h2 : (vs.length : Int) = n) (h3 : ls.all (inL n len) = true) : evCode n len g ls vs.length = 0 ∧ evList n len g ls vs = ls.map (litV (nodesOf vs g len)) := by
  have e : evCode n len g ls vs.length = 0 := by unfold evCode; rw [if_neg h, if_neg (by rw [h1]; decide), if_neg (by rw [h3]; simp [h2])]
  exact ⟨e, by unfold evList; rw [e]; rfl⟩
theorem map_take_succ {ns : List Bool} {ls : List Int} {k : Nat} (h : k < ls.length) : (ls.take (k + 1)).map (litV ns) = (ls.take k).map (litV ns) ++ [litV ns (ls[k]?.getD 0)] := by
  rw [List.take_succ_eq_append_getElem h, List.map_append, List.getElem?_eq_getElem h]; rfl
theorem ret_two {v : Value} {a b : Int} (h : a = b) : Ending.returned (.tuple #[v, .int .i64 a]) = .returned (.tuple #[v, .int .i64 b]) := by rw [h]

end Go.Proofs.Ytaileckcflnbdaa.evalAig
