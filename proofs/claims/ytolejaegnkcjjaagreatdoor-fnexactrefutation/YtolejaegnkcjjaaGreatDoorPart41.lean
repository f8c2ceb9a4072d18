/- RatSpec; ClsRow: one text, so that the claim has fewer files. -/
import Derived.Test.YtolejaegnkcjjaaGreatDoorPart30
import Derived.Test.YtolejaegnkcjjaaGreatDoorPart40
import Derived.Test.YtolejaegnkcjjaaGreatDoorPart5
import Derived.Test.YtolejaegnkcjjaaGreatDoorPart1
import Derived.OwnWalk
import Derived.WalkSpells
import Derived.Maps.AppendAt
import Derived.Laws.AppendOwnNone
import Derived.Deep.Slices
/- The specification tells whether a clause is RAT (l03Rat); conditions: literals of the variables, lengths that fit. -/
namespace Go.Proofs.YtolejaegnkcjjaaGreatDoor.ratSpec
open Go.RowKit Go.Deep Go base copy cnf sets setsOf solSets solMath solClose chkMath ratMath rowsOwn rupSpec
set_option linter.unusedVariables false
set_option linter.unusedSimpArgs false

theorem one_ints (zs : List Int) : ∀ x ∈ zs.map (Value.int .i64), x.oneCell' = true := fun x hx => by
  obtain ⟨y, _, rfl⟩ := List.mem_map.1 hx
  rfl
end Go.Proofs.YtolejaegnkcjjaaGreatDoor.ratSpec

/- Rows of clauses that a call makes for itself, of clauses that were there ahead of it; conditions: none. -/
namespace Go.Proofs.YtolejaegnkcjjaaGreatDoor.clsRow
open Go.RowKit Go.Deep Go base copy
set_option linter.unusedVariables false
set_option linter.unusedSimpArgs false

/-- Slices that lay in memory ahead of the call. -/
structure Inner (w0 : World) (vals : List Value) (zss : List (List Int)) : Prop where
  len : vals.length = zss.length
  each : ∀ i, i < zss.length → ∃ a l c, vals[i]? = some (.slice a l c) ∧ IntRow w0 a l (zss[i]?.getD [])
theorem Inner.nil (w0 : World) : Inner w0 [] [] := ⟨rfl, fun i hi => absurd hi (Nat.not_lt_zero _)⟩
theorem Inner.one {w0 : World} {vals : List Value} {zss : List (List Int)} (h : Inner w0 vals zss) : ∀ u ∈ vals, u.oneCell' = true := fun u hu => by
  obtain ⟨i, hi, rfl⟩ := List.getElem_of_mem hu
  obtain ⟨a, l, c, e, _⟩ := h.each i (by rw [← h.len]; exact hi)
  rw [List.getElem?_eq_getElem hi] at e
  injection e with e
  rw [e]; rfl
theorem Inner.add {w0 : World} {vals : List Value} {zss : List (List Int)} (h : Inner w0 vals zss) {a : Option Addr} {l c : Nat} {zs : List Int} (hr : IntRow w0 a l zs) : Inner w0 (vals ++ [.slice a l c]) (zss ++ [zs]) := by
  refine ⟨by simp [h.len], fun i hi => ?_⟩
  by_cases e : i < zss.length
  · obtain ⟨a', l', c', e1, e2⟩ := h.each i e
    refine ⟨a', l', c', ?_, ?_⟩
    · rw [List.getElem?_append_left (by rw [h.len]; exact e)]; exact e1
    · rw [List.getElem?_append_left e]; exact e2
  · have : i = zss.length := by simp at hi; omega
    subst this
    refine ⟨a, l, c, ?_, ?_⟩
    · rw [List.getElem?_append_right (by rw [h.len]; exact Nat.le_refl _), h.len]; simp
    · rw [List.getElem?_append_right (Nat.le_refl _)]; simpa using hr
theorem own_same {B n : Nat} {w w1 : World} {v : Value} {vals : List Value} (h : w.ownsRow B 44 1 v n vals) (hb : ∀ k, v.ownBlock = some k → w1.heap[k]? = w.heap[k]?) : w1.ownsRow B 44 1 v n vals := by
  obtain ⟨h1, h2⟩ := h
  refine ⟨h1, ?_⟩
  rcases h2 with h2 | ⟨g, cap, cur, rfl, hg, hh, rest⟩
  · exact .inl h2
  · exact .inr ⟨g, cap, cur, rfl, hg, by rw [hb g rfl]; exact hh, rest⟩
theorem own_at {N n c k : Nat} (h : (Value.slice (some ⟨N, 0, none⟩) n c).ownBlock = some k) : k = N := by
  have h' : some N = some k := h
  injection h' with h'
  exact h'.symm
end Go.Proofs.YtolejaegnkcjjaaGreatDoor.clsRow
