/- The steps of a proof's text, of the program (readSteps): what is answered or thrown; conditions: lengths that fit. -/
import Derived.Test.YtdphkbpjbcnbpaaDoorSpokenImpl
namespace Go.Proofs.YtdphkbpjbcnbpaaDoor.stepsRead
open Go.RowKit Go.Deep base numbers words cuts stepRead readSem readSpecP spokenImpl
set_option linter.unusedVariables false

theorem drop_sp {L : List (List Wd × Int)} {k : Nat} (h : k < L.length) : L.drop k = L[k] :: L.drop (k + 1) := List.drop_eq_getElem_cons h
theorem ws_cell {B : Nat} {w : World} {v : Value} {ps : List Pw} (h : OwnWs B w v ps) : ∃ a c, v = .slice a ps.length c ∧ ∀ i (hi : i < ps.length), ∃ b, a = some ⟨b, 0, none⟩ ∧ b < w.heap.size ∧ w.cell? ⟨b, i, none⟩ = some (ps[i]).1 := by
  obtain ⟨h1, h2⟩ := h.outer
  rcases h2 with ⟨rfl, h0⟩ | ⟨g, cap, cur, rfl, hb, hh, hc, hm, hz, ht⟩
  · exact ⟨none, 0, by rw [h0], fun i hi => absurd hi (by omega)⟩
  · refine ⟨_, cap, rfl, fun i hi => ⟨g, rfl, (Array.getElem?_eq_some_iff.1 hh).1, ?_⟩⟩
    have h7 : (ps.map Prod.fst)[i]? = some (ps[i]).1 := by
      rw [List.getElem?_map, List.getElem?_eq_getElem hi]; rfl
    rw [← ht, List.getElem?_take_of_lt (by omega)] at h7
    simp only [World.cell?, hh]
    simpa using h7
theorem ws_row {B : Nat} {w : World} {v : Value} {ps : List Pw} (h : OwnWs B w v ps) {p : Pw} (hp : p ∈ ps) : ∃ a c, p.1 = .slice a (wat p).length c ∧ WordRow w a (wat p).length (wat p) ∧ (wat p).length ≤ c ∧ c ≤ maxLen := by
  obtain ⟨a, c, e, hr, h1, h2⟩ := row_words (h.inner p hp)
  have hl : (wat p).length = (words p.2.1).length := by simp [wat, wordsAt]
  rw [hl]
  exact ⟨a, c, e, hr, h1, h2⟩
theorem sp_facts : ∀ (n : Nat) (pl : Nat) (l : List UInt8), l.length ≤ n → ∀ x ∈ sp (cutL l) pl, 0 < x.1.length ∧ 0 ≤ (x.1[0]?.getD ((⟨#[]⟩, 0) : Wd)).2 ∧ (x.1[0]?.getD ((⟨#[]⟩, 0) : Wd)).2 ≤ ((pl + l.length : Nat) : Int) := by
  intro n
  have here : ∀ (L : List UInt8) (pl : Nat), spoke (wordsAt (piece L) pl) = true → 0 < (wordsAt (piece L) pl).length ∧ 0 ≤ ((wordsAt (piece L) pl)[0]?.getD ((⟨#[]⟩, 0) : Wd)).2 ∧ ((wordsAt (piece L) pl)[0]?.getD ((⟨#[]⟩, 0) : Wd)).2 ≤ ((pl + L.length : Nat) : Int) := fun L pl hsp => by
    have hW : 0 < (wordsAt (piece L) pl).length := by
      unfold spoke at hsp; simp only [Bool.and_eq_true, decide_eq_true_eq] at hsp; exact hsp.1
    have h0 : 0 < (words (piece L)).length := by simpa [wordsAt] using hW
    have h1 := words_in (piece L) _ (List.getElem_mem h0)
    have hp : (piece L).size = L.length := by simp [piece, ByteArray.size]
    have e : (wordsAt (piece L) pl)[0]?.getD ((⟨#[]⟩, 0) : Wd) = ((piece L).extract ((words (piece L))[0]).1 ((words (piece L))[0]).2, ((pl : Int) + ((words (piece L))[0]).1)) := by
      unfold wordsAt
      rw [List.getElem?_map, List.getElem?_eq_getElem h0]; rfl
    rw [e]
    refine ⟨hW, ?_, ?_⟩
    · show 0 ≤ (pl : Int) + _; omega
    · show (pl : Int) + _ ≤ _; omega
  induction n with
  | zero =>
    intro pl l hl x hx
    have e0 : l = [] := List.length_eq_zero_iff.1 (by omega)
    subst e0
    simp only [cutL, sp, List.append_nil] at hx
    split at hx
    · rename_i hsp
      simp at hx
      subst hx
      exact here [] pl hsp
    · simp at hx
  | succ n ih =>
    intro pl l hl x hx
    obtain ⟨L, hn, h⟩ := cut_parts l
    rcases h with ⟨rfl, hc⟩ | ⟨rest, rfl, hc⟩
    · rw [hc] at hx
      simp only [sp, List.append_nil] at hx
      split at hx
      · rename_i hsp
        simp at hx
        subst hx
        exact here l pl hsp
      · simp at hx
    · rw [hc] at hx
      simp only [sp] at hx
      have hlen : (L ++ 10 :: rest).length = L.length + rest.length + 1 := by simp; omega
      rcases List.mem_append.1 hx with hx | hx
      · split at hx
        · rename_i hsp
          simp at hx
          subst hx
          have := here L pl hsp
          refine ⟨this.1, this.2.1, ?_⟩
          have h2 := this.2.2
          rw [hlen]
          dsimp only
          omega
        · simp at hx
      · have := ih (pl + L.length + 1) rest (by rw [hlen] at hl; omega) x hx
        refine ⟨this.1, this.2.1, ?_⟩
        have h2 := this.2.2
        rw [hlen]
        omega
end Go.Proofs.YtdphkbpjbcnbpaaDoor.stepsRead
