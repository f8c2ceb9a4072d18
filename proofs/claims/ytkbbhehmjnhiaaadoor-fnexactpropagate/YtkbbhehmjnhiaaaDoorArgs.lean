/- From the form's readings of arguments to the rows that the contracts speak of; of no program; conditions: none. -/
import Derived.Test.YtkbbhehmjnhiaaaDoorBase
import Derived.ProofKit
import Derived.OpenShut
import Derived.ShutString
import Derived.ChangeOld
import Derived.Lib.SmallJoins
import Derived.Deep.Slices
namespace Go.Proofs.YtkbbhehmjnhiaaaDoor.args
open Go.ChangeShapes Go.WideShapes Go.ChangeAt Go.RowKit Go.Deep Go.Joins base

variable {H : Type} {enc : TypeId × Value → H} {P : Program} {w : World} {base : Nat} {held : Bool}

theorem getD_take {α : Type} {zs : List α} {d : α} {n i : Nat} (h : i < n) : (zs.take n)[i]?.getD d = zs[i]?.getD d := by
  rw [List.getElem?_take, if_pos h]
theorem at_none {x : Addr} {i : Nat} {v v0 : Value} (h0 : w.cell? (x.add 0) = some v0) (h : w.cell? (x.add i) = some v) : x = ⟨x.block, x.off, none⟩ ∧ w.cell? ⟨x.block, x.off + i, none⟩ = some v := by
  have hs := World.cell?_spot h0
  obtain ⟨b, o, s⟩ := x
  have hs' : s = none := by simpa [Addr.add] using hs
  subst hs'
  refine ⟨rfl, ?_⟩
  by_cases e : i = 0
  · subst e; simpa [Addr.add] using h
  · simpa [Addr.add, e] using h

theorem int_of_trod {e : TypeId} {k : IntKind} {fuel : Nat} {v : Value} {x : DataW H × List MemPlace} (he : P.underlying e = some (.int k)) (h : DataW.trod enc P w base (fun _ => true) held fuel e [v] = some x) :
    ∃ n, v = .int k n ∧ (Lit.int k n).wf = true := by
  obtain ⟨n, e0, _, hw⟩ := DataW.trod_int he h
  exact ⟨n, by simpa using e0, hw⟩

theorem row_of_trod {t e : TypeId} {fuel : Nat} {v : Value} {x : DataW H × List MemPlace} (ht : P.underlying t = some (.slice e)) (he : P.underlying e = some (.int .i64)) (ce : P.cellsOf e = 1)
    (h : DataW.trod enc P w base (fun _ => true) held fuel t [v] = some x) : ∃ a len cap zs, v = .slice a len cap ∧ IntRow w a len zs ∧ ∀ n ∈ zs, (Lit.int .i64 n).wf = true := by
  rcases open_ints ht he ce h with ⟨hcs, _⟩ | ⟨x, l, c, zs, hcs, _, hl, hm, hz, _, hcell, hwz⟩
  · exact ⟨none, 0, 0, [], by simpa using hcs, ⟨rfl, Nat.zero_le _, fun i hi => absurd hi (Nat.not_lt_zero _)⟩, by simp⟩
  · simp only [if_true] at hz
    refine ⟨some x, l, c, zs.take l, by simpa using hcs, ⟨by simp [hz, hl], Nat.le_trans hl hm, fun i hi => ?_⟩, fun n hn => hwz n (List.mem_of_mem_take hn)⟩
    obtain ⟨e1, e2⟩ := at_none (hcell 0 (by omega)) (hcell i (by omega))
    exact ⟨x.block, x.off, by rw [← e1], by rw [e2, getD_take hi, List.getD_eq_getElem?_getD]⟩

theorem rows_of_trod {t e q : TypeId} {fuel : Nat} {v : Value} {x : DataW H × List MemPlace} (ht : P.underlying t = some (.slice e)) (he : P.underlying e = some (.slice q)) (hq : P.underlying q = some (.int .i64)) (ce : P.cellsOf e = 1) (cq : P.cellsOf q = 1)
    (h : DataW.trod enc P w base (fun _ => true) held fuel t [v] = some x) : ∃ a len cap zss, v = .slice a len cap ∧ IntRows w a len zss ∧ ∀ zs ∈ zss, ∀ n ∈ zs, (Lit.int .i64 n).wf = true := by
  rcases open_slice1 ht ce h with ⟨hcs, _⟩ | ⟨a, len, cap, m, n, V, D, Pl, hcs, hb, hl, hm, hmm, rfl, hx⟩
  · exact ⟨none, 0, 0, [], by simpa using hcs, ⟨rfl, Nat.zero_le _, fun i hi => absurd hi (Nat.not_lt_zero _)⟩, by simp⟩
  · simp only [if_true] at hmm
    subst hmm
    have each : ∀ i, i < m → ∃ zs : List Int, ∃ a' l' c', V i = .slice a' l' c' ∧ IntRow w a' l' zs ∧ ∀ n ∈ zs, (Lit.int .i64 n).wf = true := fun i hi => by
      obtain ⟨a', l', c', zs, e0, h1, h2⟩ := row_of_trod he hq cq (hx i hi).2
      exact ⟨zs, a', l', c', e0, h1, h2⟩
    obtain ⟨f, hf⟩ := choose_lt each
    refine ⟨some a, len, m, (List.range len).map f, by simpa using hcs, ⟨by simp, Nat.le_trans hl hm, fun i hi => ?_⟩, ?_⟩
    · obtain ⟨a', l', c', e0, h1, _⟩ := hf i (by omega)
      obtain ⟨e1, e2⟩ := at_none (hx 0 (by omega)).1 (hx i (by omega)).1
      refine ⟨a.block, a.off, by rw [← e1], a', l', c', by rw [e2, e0], ?_⟩
      simpa [hi] using h1
    · intro zs hz
      obtain ⟨i, hi, rfl⟩ := List.mem_map.1 hz
      obtain ⟨_, _, _, _, _, h2⟩ := hf i (by have := List.mem_range.1 hi; omega)
      exact h2
end Go.Proofs.YtkbbhehmjnhiaaaDoor.args
