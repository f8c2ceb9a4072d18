/- A copied formula's rows are its own and lie apart; a list of clauses of one's own reads as their lists. -/
import Derived.Test.YtiiigdcfnnjkcaaMarkRows
namespace Go.Proofs.Ytiiigdcfnnjkcaa.copiedRows
open Go.RowKit Go.Deep base copy own order sorted concat inOrder mark clauseOrder sortClauses compactClauses rises normal markRows

def copiedPs (N : Nat) (zss : List (List Int)) : List (Value × List Int) := (List.range zss.length).map fun i => (.slice (some ⟨N + 1 + i, 0, none⟩) (zss[i]?.getD []).length (zss[i]?.getD []).length, zss[i]?.getD [])
theorem copiedPs_snd (N : Nat) (zss : List (List Int)) : (copiedPs N zss).map (·.2) = zss := by
  unfold copiedPs
  rw [List.map_map]
  apply List.ext_getElem
  · simp
  · intro i h1 h2
    simp [List.getElem?_eq_getElem h2]
theorem copied_own {B N : Nat} {w : World} {zss : List (List Int)} (h : Copied w N zss) (hB : B ≤ N) (hm : zss.length ≤ maxLen) (hi : ∀ i, i < zss.length → (zss[i]?.getD []).length ≤ maxLen) :
    OwnRows B w (.slice (some ⟨N, 0, none⟩) zss.length zss.length) (copiedPs N zss) ∧ Lone (copiedPs N zss) := by
  have hlen : (copiedPs N zss).length = zss.length := by simp [copiedPs]
  refine ⟨⟨?_, fun p hp => ?_⟩, ?_⟩
  · obtain ⟨c, hh, hs, hc⟩ := h.outer
    refine ⟨by simp, .inr ⟨N, zss.length, c, by rw [hlen], hB, hh, by omega, hm, by omega, ?_⟩⟩
    apply List.ext_getElem?
    intro i
    rw [List.getElem?_take, List.getElem?_map, hlen]
    split
    · rename_i hi2
      have hi' : i < zss.length := by omega
      rw [Array.getElem?_toList, hc i hi']
      unfold copiedPs
      rw [List.getElem?_map, List.getElem?_range hi']
      rfl
    · rename_i hi2
      rw [List.getElem?_eq_none (by omega)]
      rfl
  · unfold copiedPs at hp
    obtain ⟨i, hir, rfl⟩ := List.mem_map.1 hp
    have hil : i < zss.length := List.mem_range.1 hir
    exact own_of_row (h.inner i hil) rfl (by omega) (hi i hil)
  · unfold Lone copiedPs
    rw [List.pairwise_map]
    refine List.pairwise_lt_range.imp fun {a b} hab g h1 h2 => ?_
    have e1 : some (N + 1 + a) = some g := h1
    have e2 : some (N + 1 + b) = some g := h2
    injection e1 with e1
    injection e2 with e2
    omega
theorem rows_of_own {B n c : Nat} {w : World} {a : Option Addr} {ps : List (Value × List Int)} (h : OwnRows B w (.slice a n c) ps) : IntRows w a n (ps.map (·.2)) := by
  rcases h.outer.2 with ⟨e, h0⟩ | ⟨g, cap, cur, e, _, _, hn, hm, _⟩
  · have e1 : n = 0 := by injection e
    subst e1
    exact ⟨by rw [List.length_map]; exact h0, Nat.zero_le _, fun i hi => absurd hi (Nat.not_lt_zero _)⟩
  · have e1 : a = some ⟨g, 0, none⟩ := by injection e
    have e2 : n = ps.length := by injection e
    subst e1
    refine ⟨by rw [List.length_map]; exact e2.symm, by omega, fun i hi => ⟨g, 0, rfl, ?_⟩⟩
    obtain ⟨_, p, hp, hc, _, ho⟩ := rows_cell h hi
    obtain ⟨a', c', e', hr⟩ := ho.form
    refine ⟨a', p.2.length, c', by rw [Nat.zero_add, hc, e'], ?_⟩
    rw [List.getElem?_map, hp]
    exact hr
end Go.Proofs.Ytiiigdcfnnjkcaa.copiedRows
