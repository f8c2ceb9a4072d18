/- SolFace; PropsMath; RatMath; ChkSem; SatMath: one text, so that the claim has fewer files. -/
import Derived.Test.YtbahjpheaaiamaaDoorPart35
import Derived.Test.YtbahjpheaaiamaaDoorSolPropI
import Derived.Test.YtbahjpheaaiamaaDoorPart36
import Derived.Test.YtbahjpheaaiamaaDoorRowsOwn
import Derived.BigRegion
import Derived.Test.YtbahjpheaaiamaaDoorPart16
import Derived.Test.YtbahjpheaaiamaaDoorPart40
import Derived.Test.YtbahjpheaaiamaaDoorPart26
import Derived.Test.YtbahjpheaaiamaaDoorLeastSem
/- Propagate of the program; conditions: lengths that fit, the table of math/bits as its initialiser lays it. -/
namespace Go.Proofs.YtbahjpheaaiamaaDoor.solFace
open Go.RowKit Go.Deep Go.Maps Go base copy cnf sets setsOf solSets solOps solMath solHold solProp solAdd solMem solHoldI solNew solPropI rowsOwn
set_option linter.unusedVariables false
set_option linter.unusedSimpArgs false

end Go.Proofs.YtbahjpheaaiamaaDoor.solFace

/- What propagation tells is true in each model in which the given literals are; conditions: a right formula, literals of its variables. -/
namespace Go.Proofs.YtbahjpheaaiamaaDoor.propsMath
open base copy cnf eval sets setsOf solSets solMath solHold solProp solNew solFace solClose
set_option linter.unusedVariables false
set_option linter.unusedSimpArgs false

end Go.Proofs.YtbahjpheaaiamaaDoor.propsMath

/- What a clause that resolves away is (RAT), by sets of literals; conditions: none. -/
namespace Go.Proofs.YtbahjpheaaiamaaDoor.ratMath
open sets solSets solMath solHold solProp solNew solClose solTrail chkNew chkMath
set_option linter.unusedVariables false
set_option linter.unusedSimpArgs false

/-- What a clause resolves to with another one, on a literal. -/
def resL (c d : LS) (l : Int) : LS := withL c (woL d (onlyL (-l)))
def ratAt (cs : List LS) (c : LS) (l : Int) (d : LS) : Prop := mem d (-l) = true → rupP cs (resL c d l)
def ratP (cs : List LS) (zs : List Int) : Prop := ∃ l r, zs = l :: r ∧ ∀ d ∈ cs, ratAt cs (setL zs) l d
end Go.Proofs.YtbahjpheaaiamaaDoor.ratMath

/- What checking a proof comes to, step by step; a checker's state behind a clause that is put to the others; conditions: none. -/
namespace Go.Proofs.YtbahjpheaaiamaaDoor.chkSem
open sets solSets solMath solHold solProp solNew solAdd solClose solTrail solAddM chkNew chkMath ratMath
set_option linter.unusedVariables false
set_option linter.unusedSimpArgs false

abbrev Sp := Bool × List Int
/-- The last clause of the same literals. -/
def FindAt (cs : List LS) (c : LS) (k : Nat) : Prop := k < cs.length ∧ cs[k]?.getD (0, 0) = c ∧ ∀ j, k < j → j < cs.length → cs[j]?.getD (0, 0) ≠ c
def NoFind (cs : List LS) (c : LS) : Prop := ∀ j, j < cs.length → cs[j]?.getD (0, 0) ≠ c
theorem FindAt.uniq {cs : List LS} {c : LS} {k j : Nat} (h : FindAt cs c k) (g : FindAt cs c j) : k = j := by
  obtain ⟨h1, h2, h3⟩ := h
  obtain ⟨g1, g2, g3⟩ := g
  rcases Nat.lt_trichotomy k j with e | e | e
  · exact absurd g2 (h3 j e g1)
  · exact e
  · exact absurd h2 (g3 k e h1)
theorem NoFind.not {cs : List LS} {c : LS} {k : Nat} (h : NoFind cs c) (g : FindAt cs c k) : False := h k g.1 g.2.1
def okR (zss : List (List Int)) (zs : List Int) : Prop := rupP (zss.map setL) (setL zs) ∨ ratP (zss.map setL) zs
/-- Steps i and on: the place and the code that checking ends with. -/
def ChkR : List (List Int) → List Sp → Nat → Int → Int → Prop
  | _, [], i, p, c => p = i ∧ c = 3
  | zss, (d, zs) :: r, i, p, c =>
    if d = true then (NoFind (zss.map setL) (setL zs) ∧ p = i ∧ c = 6) ∨ ∃ k, FindAt (zss.map setL) (setL zs) k ∧ ChkR (zss.eraseIdx k) r (i + 1) p c
    else (¬ okR zss zs ∧ p = i ∧ c = 8) ∨ (okR zss zs ∧ zs = [] ∧ p = i ∧ c = 0) ∨ (okR zss zs ∧ zs ≠ [] ∧ ChkR (zss ++ [zs]) r (i + 1) p c)
theorem ChkR.uniq : ∀ (r : List Sp) (zss : List (List Int)) (i : Nat) (p c p' c' : Int), ChkR zss r i p c → ChkR zss r i p' c' → p = p' ∧ c = c'
  | [], zss, i, p, c, p', c', h, g => ⟨h.1.trans g.1.symm, h.2.trans g.2.symm⟩
  | (d, zs) :: r, zss, i, p, c, p', c', h, g => by
    unfold ChkR at h g
    by_cases hd : d = true
    · rw [if_pos hd] at h g
      rcases h with ⟨h1, h2, h3⟩ | ⟨k, h1, h2⟩
      · rcases g with ⟨g1, g2, g3⟩ | ⟨j, g1, g2⟩
        · exact ⟨h2.trans g2.symm, h3.trans g3.symm⟩
        · exact (h1.not g1).elim
      · rcases g with ⟨g1, g2, g3⟩ | ⟨j, g1, g2⟩
        · exact (g1.not h1).elim
        · rw [h1.uniq g1] at h2
          exact ChkR.uniq r _ _ _ _ _ _ h2 g2
    · rw [if_neg hd] at h g
      rcases h with ⟨h1, h2, h3⟩ | ⟨h1, h2, h3, h4⟩ | ⟨h1, h2, h3⟩
      · rcases g with ⟨g1, g2, g3⟩ | ⟨g1, g2, g3, g4⟩ | ⟨g1, g2, g3⟩
        · exact ⟨h2.trans g2.symm, h3.trans g3.symm⟩
        · exact absurd g1 h1
        · exact absurd g1 h1
      · rcases g with ⟨g1, g2, g3⟩ | ⟨g1, g2, g3, g4⟩ | ⟨g1, g2, g3⟩
        · exact absurd h1 g1
        · exact ⟨h3.trans g3.symm, h4.trans g4.symm⟩
        · exact absurd h2 g2
      · rcases g with ⟨g1, g2, g3⟩ | ⟨g1, g2, g3, g4⟩ | ⟨g1, g2, g3⟩
        · exact absurd h1 g1
        · exact absurd g2 h2
        · exact ChkR.uniq r _ _ _ _ _ _ h3 g3
theorem ChkR.place : ∀ (r : List Sp) (zss : List (List Int)) (i : Nat) (p c : Int), ChkR zss r i p c → (i : Int) ≤ p ∧ p ≤ i + r.length ∧ (c = 0 ∨ c = 3 ∨ c = 6 ∨ c = 8)
  | [], zss, i, p, c, h => by have h1 : p = i := h.1; have h2 : c = 3 := h.2; simp; omega
  | (d, zs) :: r, zss, i, p, c, h => by
    unfold ChkR at h
    simp only [List.length_cons]
    by_cases hd : d = true
    · rw [if_pos hd] at h
      rcases h with ⟨h1, h2, h3⟩ | ⟨k, h1, h2⟩
      · omega
      · have := ChkR.place r _ _ _ _ h2
        omega
    · rw [if_neg hd] at h
      rcases h with ⟨h1, h2, h3⟩ | ⟨h1, h2, h3, h4⟩ | ⟨h1, h2, h3⟩
      · omega
      · omega
      · have := ChkR.place r _ _ _ _ h3
        omega
end Go.Proofs.YtbahjpheaaiamaaDoor.chkSem

/- What the rules of a proof keep: a clause that propagation tells is true in all models, one that resolves away takes no last model; what checks has none, and a refutation checks; conditions: literals of the formula. -/
namespace Go.Proofs.YtbahjpheaaiamaaDoor.satMath
open sets solSets solMath solHold solProp solNew solClose solTrail chkNew chkMath ratMath chkSem runS leastSem
open rupSpec (LitsIn)
set_option linter.unusedVariables false
set_option linter.unusedSimpArgs false

def litsM (M : Nat → Int) (k : Nat) : List Int := (List.range k).map fun i => if M (i + 1) = 1 then ((i + 1 : Nat) : Int) else -((i + 1 : Nat) : Int)
/-- The literals that values make true. -/
def setM (M : Nat → Int) (k : Nat) : LS := setL (litsM M k)
theorem litsM_in {M : Nat → Int} {k : Nat} : ∀ z ∈ litsM M k, z ≠ 0 ∧ z.natAbs ≤ k := fun z hz => by
  unfold litsM at hz
  obtain ⟨i, hi, rfl⟩ := List.mem_map.1 hz
  have := List.mem_range.1 hi
  split <;> omega
theorem wf_setM {M : Nat → Int} {k : Nat} (hk : k ≤ 40) : Wf (setM M k) := wf_set fun z hz => by
  have := litsM_in z hz
  exact ⟨this.1, by omega⟩
theorem val_pos (M : Nat → Int) {l : Int} (h : 0 < l) : runS.valOf M l = M l.natAbs := by unfold runS.valOf; rw [if_neg (by omega)]
theorem val_neg (M : Nat → Int) {l : Int} (h : l < 0) : runS.valOf M l = -M l.natAbs := by unfold runS.valOf; rw [if_pos h]
theorem val_turn (M : Nat → Int) {l : Int} (h : l ≠ 0) : runS.valOf M (-l) = -runS.valOf M l := by
  unfold runS.valOf
  rw [Int.natAbs_neg]
  by_cases h1 : l < 0
  · rw [if_pos h1, if_neg (by omega)]; omega
  · rw [if_neg h1, if_pos (by omega)]
theorem mem_setM {M : Nat → Int} {k : Nat} (hT : Tot M (k + 1)) (l : Int) : mem (setM M k) l = true ↔ (l ≠ 0 ∧ l.natAbs ≤ k ∧ runS.valOf M l = 1) := by
  unfold setM
  rw [mem_set (fun z hz => (litsM_in z hz).1), List.contains_iff_mem]
  constructor
  · intro h
    obtain ⟨h1, h2⟩ := litsM_in l h
    refine ⟨h1, h2, ?_⟩
    unfold litsM at h
    obtain ⟨i, hi, e⟩ := List.mem_map.1 h
    have hik := List.mem_range.1 hi
    by_cases hM : M (i + 1) = 1
    · rw [if_pos hM] at e
      rw [val_pos M (by omega), show l.natAbs = i + 1 by omega, hM]
    · rw [if_neg hM] at e
      have := (hT (i + 1) (by omega) (by omega)).resolve_left hM
      rw [val_neg M (by omega), show l.natAbs = i + 1 by omega, this]; rfl
  · rintro ⟨h1, h2, h3⟩
    unfold litsM
    refine List.mem_map.2 ⟨l.natAbs - 1, List.mem_range.2 (by omega), ?_⟩
    rw [show l.natAbs - 1 + 1 = l.natAbs by omega]
    by_cases h0 : 0 < l
    · rw [val_pos M h0] at h3
      rw [if_pos h3]; omega
    · rw [val_neg M (by omega)] at h3
      rw [if_neg (by omega)]; omega
theorem tot_val {M : Nat → Int} {k : Nat} (hT : Tot M (k + 1)) {l : Int} (h : l ≠ 0) (hl : l.natAbs ≤ k) : runS.valOf M l = 1 ∨ runS.valOf M l = -1 := by
  have := hT l.natAbs (by omega) (by omega)
  unfold runS.valOf
  split <;> omega
theorem cons_setM {M : Nat → Int} {k : Nat} (hT : Tot M (k + 1)) : Cons (setM M k) := fun l hl => by
  obtain ⟨h1, h2, h3⟩ := (mem_setM hT l).1 hl
  cases h : mem (setM M k) (-l) with
  | false => rfl
  | true =>
    obtain ⟨_, _, h4⟩ := (mem_setM hT (-l)).1 h
    rw [val_turn M h1, h3] at h4
    cases h4
theorem tot_mem {M : Nat → Int} {k : Nat} (hT : Tot M (k + 1)) {l : Int} (h : l ≠ 0) (hl : l.natAbs ≤ k) : mem (setM M k) l = true ∨ mem (setM M k) (-l) = true := by
  rcases tot_val hT h hl with e | e
  · exact .inl ((mem_setM hT l).2 ⟨h, hl, e⟩)
  · exact .inr ((mem_setM hT (-l)).2 ⟨by omega, by omega, by rw [val_turn M h, e]; rfl⟩)
end Go.Proofs.YtbahjpheaaiamaaDoor.satMath
