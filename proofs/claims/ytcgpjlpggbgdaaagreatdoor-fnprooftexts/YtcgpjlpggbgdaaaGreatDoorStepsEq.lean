/- Rows of steps of a proof, compared, out of rows that a call owns; conditions: lengths that fit. -/
import Derived.Test.YtcgpjlpggbgdaaaGreatDoorReadSpecP
import Derived.Test.YtcgpjlpggbgdaaaGreatDoorIntsOwn
import Derived.Laws.ResultCell
import Derived.Deep.RegionHeld3
namespace Go.Proofs.YtcgpjlpggbgdaaaGreatDoor.stepsEq
open Go.RowKit Go.Deep base copy intsOwn
open readSpecP (Pt pcs OwnSteps Lone strip)
set_option linter.unusedVariables false

theorem bdn {B : Nat} {w w1 : World} (h : Below B w w1) (n : Nat) : Below B w (w1.drewN n) := ⟨h.1, h.2, h.3, h.4, h.5⟩
abbrev St := Bool × List Int
/-- A slice of steps. -/
structure StepRow (w : World) (a : Option Addr) (len : Nat) (ss : List St) : Prop where
  length : ss.length = len
  most : len ≤ maxLen
  cell : ∀ i, i < len → ∃ b off, a = some ⟨b, off, none⟩ ∧ w.cell? ⟨b, off + i * 2, none⟩ = some (.bool (ss[i]?.getD (false, [])).1) ∧
    ∃ a' l' c', w.cell? ⟨b, off + i * 2 + 1, none⟩ = some (.slice a' l' c') ∧ IntRow w a' l' (ss[i]?.getD (false, [])).2
theorem StepRow.below {W w1 : World} {a : Option Addr} {len : Nat} {ss : List St} (h : StepRow W a len ss) (hb : Below W.heap.size W w1) : StepRow w1 a len ss :=
  ⟨h.length, h.most, fun i hi => by
    obtain ⟨b, off, e, h1, a', l', c', hc, hr⟩ := h.cell i hi
    exact ⟨b, off, e, keep hb h1, a', l', c', keep hb hc, hr.below hb⟩⟩

theorem flat_get : ∀ (ps : List Pt) (k : Nat) (p : Pt), ps[k]? = some p → (ps.flatMap pcs)[k * 2]? = some (.bool p.1) ∧ (ps.flatMap pcs)[k * 2 + 1]? = some p.2.1
  | [], k, p, h => by simp at h
  | q :: ps, 0, p, h => by
    simp at h
    subst h
    simp [pcs]
  | q :: ps, k + 1, p, h => by
    have ih := flat_get ps k p (by simpa using h)
    rw [show (k + 1) * 2 = k * 2 + 2 by omega, show k * 2 + 2 + 1 = k * 2 + 1 + 2 by omega]
    simpa [pcs] using ih
theorem flat_set : ∀ (ps : List Pt) (k : Nat) (p : Pt) (d : Bool) (ys : List Int), ps[k]? = some p → (ps.set k (d, p.2.1, ys)).flatMap pcs = (ps.flatMap pcs).set (k * 2) (.bool d)
  | [], k, p, d, ys, h => by simp at h
  | q :: ps, 0, p, d, ys, h => by
    simp at h
    subst h
    simp [pcs]
  | q :: ps, k + 1, p, d, ys, h => by
    have ih := flat_set ps k p d ys (by simpa using h)
    rw [show (k + 1) * 2 = k * 2 + 1 + 1 by omega]
    simp [pcs, ih]
theorem steps_len {B n c : Nat} {w : World} {a : Option Addr} {ps : List Pt} (h : OwnSteps B w (.slice a n c) ps) : ps.length = n := by
  rcases h.outer.2 with ⟨e, h0⟩ | ⟨g', c', cur, e, _⟩
  · injection e with _ e _; omega
  · injection e with _ e _; exact e.symm
theorem steps_cell {B g n c j : Nat} {w : World} {ps : List Pt} (h : OwnSteps B w (.slice (some ⟨g, 0, none⟩) n c) ps) (hj : j < n) : ∃ p, ps[j]? = some p ∧ w.cell? ⟨g, j * 2, none⟩ = some (.bool p.1) ∧ w.cell? ⟨g, j * 2 + 1, none⟩ = some p.2.1 ∧ w.frozen? ⟨g, j * 2, none⟩ = false ∧ OwnInts B w p.2.1 p.2.2 := by
  have hl := steps_len h
  have hjc : j < ps.length := by omega
  refine ⟨ps[j], List.getElem?_eq_getElem hjc, ?_⟩
  obtain ⟨f1, f2⟩ := flat_get ps j ps[j] (List.getElem?_eq_getElem hjc)
  rcases h.outer.2 with ⟨e, _⟩ | ⟨g', cap, cur, e, _, hh, _, _, hs, ht⟩
  · cases e
  · have eg : g = g' := by injection e with e; injection e with e; injection e
    subst eg
    have h3 : ∀ i, i < ps.length * 2 → cur[i]? = (ps.flatMap pcs)[i]? := fun i hi => by
      rw [← ht, List.getElem?_take, if_pos hi, Array.getElem?_toList]
    exact ⟨by simp [World.cell?, hh, h3 (j * 2) (by omega), f1], by simp [World.cell?, hh, h3 (j * 2 + 1) (by omega), f2], by simp [World.frozen?, hh], h.inner _ (List.getElem_mem hjc)⟩
/-- Such a row, read by its cells. -/
theorem row_of_steps {B : Nat} {w : World} {v : Value} {ps : List Pt} {ss : List St} (h : OwnSteps B w v ps) (hs : ps.map strip = ss) : ∃ a c, v = .slice a ss.length c ∧ StepRow w a ss.length ss := by
  have hl : ss.length = ps.length := by rw [← hs, List.length_map]
  rcases h.outer.2 with ⟨e, h0⟩ | ⟨g, cap, cur, e, _, hh, hn, hm, _⟩
  · rw [hl, h0]
    exact ⟨none, 0, e, ⟨by omega, by unfold maxLen; omega, fun i hi => absurd hi (Nat.not_lt_zero _)⟩⟩
  · subst e
    rw [hl]
    refine ⟨_, cap, rfl, ⟨hl, Nat.le_trans hn hm, fun i hi => ?_⟩⟩
    obtain ⟨p, hp, c0, c1, _, hi2⟩ := steps_cell h hi
    obtain ⟨a', c', e', hr⟩ := hi2.form
    have hsi : ss[i]?.getD (false, []) = (p.1, p.2.2) := by rw [← hs, List.getElem?_map, hp]; rfl
    refine ⟨g, 0, rfl, ?_, a', p.2.2.length, c', ?_, ?_⟩
    · rw [hsi]; simpa using c0
    · rw [← e']; simpa using c1
    · rw [hsi]; exact hr
end Go.Proofs.YtcgpjlpggbgdaaaGreatDoor.stepsEq
