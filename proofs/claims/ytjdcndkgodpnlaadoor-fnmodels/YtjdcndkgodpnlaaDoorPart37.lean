/- SolSmall; RunS: one text, so that the claim has fewer files. -/
import Derived.Test.YtjdcndkgodpnlaaDoorSolSolve
import Derived.Test.YtjdcndkgodpnlaaDoorPart36
import Derived.Test.YtjdcndkgodpnlaaDoorPart1
/- A small search of the program: learn keeps its credit, for refresh neither begins anew nor thins; solve of the program, for up to six variables. -/
namespace Go.Proofs.YtjdcndkgodpnlaaDoor.solSmall
open Go.RowKit Go.Deep Go.Shelf Go base sets setsOf solSets solOps solMath solHold solMem solFail solX solProp solClose solTrail solAddM cdVal cdState cdLes cdLearn cdSolve cdX solHang solPush solNext hasAny solSolve solRefresh solLearn cdSmall
set_option linter.unusedVariables false
set_option linter.unusedSimpArgs false

theorem cd_lits {n : Nat} {Z : List LS} {G B : LS} {s : Sv} (h : Cd n Z G B s) : ∀ p ∈ s.T, p.1 ≠ 0 ∧ -40 ≤ p.1 ∧ p.1 ≤ 40 := fun p hp => by
  obtain ⟨i, hi, rfl⟩ := List.getElem_of_mem hp
  have := (tl_fresh h.stk.tr hi (Nat.zero_le _)).2.2
  unfold tl at this
  rw [List.getElem?_eq_getElem hi] at this
  exact this
theorem cd_tlen {n : Nat} {Z : List LS} {G B : LS} {s : Sv} (h : Cd n Z G B s) : s.T.length ≤ n := trail_most h.q h.stk.tr
theorem cd_klen {n : Nat} {Z : List LS} {G B : LS} {s : Sv} (h : Cd n Z G B s) : s.K.length ≤ n := by
  have h2 : ∀ i, i < s.K.length → i ≤ s.K[i]?.getD 0 := fun i => by
    induction i with
    | zero => intro _; exact Nat.zero_le _
    | succ i ih =>
      intro hi
      have h3 := ih (by omega)
      have h4 := List.pairwise_iff_getElem.1 h.q.inc i (i + 1) (by omega) hi (by omega)
      rw [List.getElem?_eq_getElem hi]
      rw [List.getElem?_eq_getElem (by omega)] at h3
      simp only [Option.getD_some] at h3 ⊢
      omega
  rcases Nat.eq_zero_or_pos s.K.length with e | e
  · omega
  · have h3 := h2 (s.K.length - 1) (by omega)
    have h4 := h.lt _ (List.getElem_mem (show s.K.length - 1 < s.K.length by omega))
    have h5 := cd_tlen h
    rw [List.getElem?_eq_getElem (by omega), Option.getD_some] at h3
    omega
theorem ask_X {G : LS} {s : Sv} {X : Nat → Value} {l : Int} (h : cdSolve.Ask G s l) : cdSolve.Ask G { s with X := X } l := h
end Go.Proofs.YtjdcndkgodpnlaaDoor.solSmall

/- A clause under values of which some are chosen, of the specification (l02Clause, l02Set); conditions: lengths that fit. -/
namespace Go.Proofs.YtjdcndkgodpnlaaDoor.runS
open Go.RowKit Go.Deep base copy
set_option linter.unusedVariables false

/-- Values by the variable: 1, -1, or 0 where none is chosen; a row in block b. -/
structure ValRow (w : World) (b n : Nat) (V : Nat → Int) : Prop where
  cell : ∀ i, i < n → w.cell? ⟨b, i, none⟩ = some (.int .i64 (V i)) ∧ w.frozen? ⟨b, i, none⟩ = false
  range : ∀ i, i < n → -1 ≤ V i ∧ V i ≤ 1
def valOf (V : Nat → Int) (z : Int) : Int := if z < 0 then - V z.natAbs else V z.natAbs
/-- Whether a clause is true; else how many of its literals are open, and the last of them. -/
def clS (V : Nat → Int) : List Int → Int → Int → Bool × Int × Int
  | [], o, u => (false, o, u)
  | z :: r, o, u => if valOf V z = 1 then (true, 0, 0) else if valOf V z = 0 ∧ u ≠ z then clS V r (o + 1) z else clS V r o u
set_option maxHeartbeats 400000 in
theorem abs_spec (n : Int) (w : World) (h0 : -4611686018427387904 ≤ n) (h1 : n ≤ 4611686018427387904) :
    Calls Tryd.prog 54 #[.int .i64 n] w fun e w' => e = .returned (.int .i64 (n.natAbs : Int)) ∧ w' = w := by
  go_enter Tryd.func54, Tryd.ntmps54
  go_wp2
  all_goals
    go_ret
    exact ⟨ret_int (by omega), rfl⟩
def setV (V : Nat → Int) (z : Int) : Nat → Int := fun i => if i = z.natAbs then (if 0 < z then 1 else -1) else V i
theorem ValRow.set {w : World} {b n : Nat} {V : Nat → Int} (h : ValRow w b n V) {z : Int} : ValRow (w.setCell ⟨b, z.natAbs, none⟩ (.int .i64 (if 0 < z then 1 else -1))) b n (setV V z) := by
  refine ⟨fun i hi => ?_, fun i hi => ?_⟩
  · obtain ⟨h1, h2⟩ := h.cell i hi
    unfold setV
    by_cases e : i = z.natAbs
    · subst e
      rw [if_pos rfl]
      exact ⟨World.cell?_setCell_same _ _ _ h1, by simpa using h2⟩
    · rw [if_neg e]
      exact ⟨(World.cell?_setCell_other _ _ _ _ (by intro h; injection h with _ h _; omega)).trans h1, by simpa using h2⟩
  · have := h.range i hi
    unfold setV
    split
    · split <;> omega
    · exact this
/- What an open clause tells: its last open literal is one of its own, and no value is chosen for it. -/
theorem cl_open (V : Nat → Int) : ∀ (zs : List Int) (o u o' u' : Int), clS V zs o u = (false, o', u') → o ≤ o' ∧ ((o' = o ∧ u' = u) ∨ (u' ∈ zs ∧ valOf V u' = 0))
  | [], o, u, o', u', h => by
    unfold clS at h
    simp only [Prod.mk.injEq] at h
    omega
  | z :: r, o, u, o', u', h => by
    unfold clS at h
    split at h
    · simp at h
    · split at h
      · rename_i hv
        obtain ⟨h1, h2⟩ := cl_open V r (o + 1) z o' u' h
        refine ⟨by omega, .inr ?_⟩
        rcases h2 with ⟨_, rfl⟩ | ⟨h3, h4⟩
        · exact ⟨by simp, hv.1⟩
        · exact ⟨by simp [h3], h4⟩
      · obtain ⟨h1, h2⟩ := cl_open V r o u o' u' h
        refine ⟨h1, ?_⟩
        rcases h2 with h2 | ⟨h3, h4⟩
        · exact .inl h2
        · exact .inr ⟨by simp [h3], h4⟩
theorem val_zero {V : Nat → Int} {z : Int} (h : valOf V z = 0) : V z.natAbs = 0 := by
  unfold valOf at h
  split at h <;> omega
/- How many of the first n are not chosen: it falls where one is. -/
end Go.Proofs.YtjdcndkgodpnlaaDoor.runS
