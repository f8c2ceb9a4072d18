/- SolSmall; RunS: one text, so that the claim has fewer files. -/
import Derived.Test.YtbahjpheaaiamaaDoorSolSolve
import Derived.Test.YtbahjpheaaiamaaDoorPart35
import Derived.Test.YtbahjpheaaiamaaDoorPart1
/- A small search of the program: learn keeps its credit, for refresh neither begins anew nor thins; solve of the program, for up to six variables. -/
namespace Go.Proofs.YtbahjpheaaiamaaDoor.solSmall
open Go.RowKit Go.Deep Go.Shelf Go base sets setsOf solSets solOps solMath solHold solMem solFail solX solProp solClose solTrail solAddM cdVal cdState cdLes cdLearn cdSolve cdX solHang solPush solNext hasAny solSolve solRefresh solLearn cdSmall
set_option linter.unusedVariables false
set_option linter.unusedSimpArgs false

theorem cd_lits {n : Nat} {Z : List LS} {G B : LS} {s : Sv} (h : Cd n Z G B s) : ∀ p ∈ s.T, p.1 ≠ 0 ∧ -40 ≤ p.1 ∧ p.1 ≤ 40 := fun p hp => by
  obtain ⟨i, hi, rfl⟩ := List.getElem_of_mem hp
  have := (tl_fresh h.stk.tr hi (Nat.zero_le _)).2.2
  unfold tl at this
  rw [List.getElem?_eq_getElem hi] at this
  exact this
theorem cd_tlen {n : Nat} {Z : List LS} {G B : LS} {s : Sv} (h : Cd n Z G B s) : s.T.length ≤ n := trail_most h.q h.stk.tr
theorem cd_klen {n : Nat} {Z : List LS} {G B : LS} {s : Sv} (h : Cd n Z G B s) : s.K.length ≤ n := by
  have h2 : ∀ i, i < s.K.length → i ≤ s.K[i]?.getD 0 := fun i => by
    induction i with
    | zero => intro _; exact Nat.zero_le _
    | succ i ih =>
      intro hi
      have h3 := ih (by omega)
      have h4 := List.pairwise_iff_getElem.1 h.q.inc i (i + 1) (by omega) hi (by omega)
      rw [List.getElem?_eq_getElem hi]
      rw [List.getElem?_eq_getElem (by omega)] at h3
      simp only [Option.getD_some] at h3 ⊢
      omega
  rcases Nat.eq_zero_or_pos s.K.length with e | e
  · omega
  · have h3 := h2 (s.K.length - 1) (by omega)
    have h4 := h.lt _ (List.getElem_mem (show s.K.length - 1 < s.K.length by omega))
    have h5 := cd_tlen h
    rw [List.getElem?_eq_getElem (by omega), Option.getD_some] at h3
    omega
theorem ask_X {G : LS} {s : Sv} {X : Nat → Value} {l : Int} (h : cdSolve.Ask G s l) : cdSolve.Ask G { s with X := X } l := h
end Go.Proofs.YtbahjpheaaiamaaDoor.solSmall

/- A clause under values of which some are chosen, of the specification (l02Clause, l02Set); conditions: lengths that fit. -/
namespace Go.Proofs.YtbahjpheaaiamaaDoor.runS
open Go.RowKit Go.Deep base copy
set_option linter.unusedVariables false

theorem results_three {fn : Func} {p u v : Tmp} (h : fn.results = #[.tmp p, .tmp u, .tmp v]) (tmps : Array Value) (P : Program) (w : World) :
    (results fn tmps).run P w = .ok (.tuple #[tmps.getD p undef, tmps.getD u undef, tmps.getD v undef]) w := by
  simp only [results, h]
  simp
/-- Values by the variable: 1, -1, or 0 where none is chosen; a row in block b. -/
structure ValRow (w : World) (b n : Nat) (V : Nat → Int) : Prop where
  cell : ∀ i, i < n → w.cell? ⟨b, i, none⟩ = some (.int .i64 (V i)) ∧ w.frozen? ⟨b, i, none⟩ = false
  range : ∀ i, i < n → -1 ≤ V i ∧ V i ≤ 1
def valOf (V : Nat → Int) (z : Int) : Int := if z < 0 then - V z.natAbs else V z.natAbs
/-- Whether a clause is true; else how many of its literals are open, and the last of them. -/
def clS (V : Nat → Int) : List Int → Int → Int → Bool × Int × Int
  | [], o, u => (false, o, u)
  | z :: r, o, u => if valOf V z = 1 then (true, 0, 0) else if valOf V z = 0 ∧ u ≠ z then clS V r (o + 1) z else clS V r o u
set_option maxHeartbeats 400000 in
theorem abs_spec (n : Int) (w : World) (h0 : -4611686018427387904 ≤ n) (h1 : n ≤ 4611686018427387904) :
    Calls Tryd.prog 51 #[.int .i64 n] w fun e w' => e = .returned (.int .i64 (n.natAbs : Int)) ∧ w' = w := by
  go_enter Tryd.func51, Tryd.ntmps51
  go_wp2
  all_goals
    go_ret
    exact ⟨ret_int (by omega), rfl⟩
theorem drop_int {l : List Int} {k : Nat} (h : k < l.length) : l.drop k = (l[k]?.getD 0) :: l.drop (k + 1) := by
  rw [List.drop_eq_getElem_cons h, List.getElem?_eq_getElem h]; rfl
set_option maxHeartbeats 1600000 in
set_option maxRecDepth 8000 in
theorem clause_spec (a : Option Addr) (len cap b n c : Nat) (zs : List Int) (V : Nat → Int) (w : World) (hr : IntRow w a len zs) (hv : ValRow w b n V) (hz : ∀ i, i < len → (zs[i]?.getD 0).natAbs < n) (hn : n ≤ 41) :
    Calls Tryd.prog 54 #[.slice a len cap, .slice (some ⟨b, 0, none⟩) n c] w fun e w' => e = .returned (.tuple #[.bool (clS V zs 0 0).1, .int .i64 (clS V zs 0 0).2.1, .int .i64 (clS V zs 0 0).2.2]) ∧ w' = w := by
  have hmost := hr.most
  unfold maxLen at hmost
  have HR := hid hr
  have HV := hid hv
  have HZ := hid hz
  obtain ⟨R, hR⟩ : ∃ R, clS V zs 0 0 = R := ⟨_, rfl⟩
  have H0 := hid hR
  rw [hR]
  clear hr hv hz hR
  go_enter Tryd.func54, Tryd.ntmps54
  go_wp2
  go_loop [9, 7, 8] (fun i o u => ∃ (k : Nat) (x y : Int), k ≤ len ∧ i = .int .i64 k ∧ o = .int .i64 x ∧ u = .int .i64 y ∧ 0 ≤ x ∧ x ≤ k ∧ clS V (zs.drop k) x y = R) (fun i _ _ => len - (intOf i).toNat)
  case atStart => exact ⟨0, 0, 0, Nat.zero_le _, rfl, rfl, rfl, by omega, by omega, by simpa using H0.out⟩
  case round =>
    obtain ⟨k, x, y, hk, rfl, rfl, rfl, hx0, hx1, hcl⟩ := hrel
    have HC := hid hcl
    clear hcl
    by_cases hlt : k < len
    · obtain ⟨g, off, rfl, hc⟩ := HR.out.cell k hlt
      have hd := drop_int (l := zs) (k := k) (by rw [HR.out.length]; exact hlt)
      have hzk := HZ.out k hlt
      rw [hd] at HC
      generalize zs[k]?.getD 0 = z at *
      obtain ⟨hvc, hvf⟩ := HV.out.cell z.natAbs hzk
      obtain ⟨r0, r1⟩ := HV.out.range z.natAbs hzk
      obtain ⟨vz, hvz⟩ : ∃ v, V z.natAbs = v := ⟨_, rfl⟩
      obtain ⟨j, hj⟩ : ∃ j, z.natAbs = j := ⟨_, rfl⟩
      have hval : valOf V z = if z < 0 then -vz else vz := by unfold valOf; rw [hvz]
      rw [hvz] at hvc r0 r1
      have HA : Hid (∀ w, Calls Tryd.prog 51 #[.int .i64 z] w fun e w' => e = .returned (.int .i64 (j : Int)) ∧ w' = w) := fun w => by
        have := abs_spec z w (by omega) (by omega)
        rw [hj] at this
        exact this
      rw [hj] at hzk hvc hvf
      have HVal := hid hval
      clear hd hval hvz
      have hjn : (j : Int) < (n : Int) := by omega
      have hq1 : z < 0 ∨ ¬ z < 0 := Decidable.em _
      have hq2 : vz = 1 ∨ vz = -1 ∨ vz = 0 := by omega
      have hcase : z = y ∨ (z ≠ y ∧ (y != z) = true) := by
        by_cases e : z = y
        · exact .inl e
        · exact .inr ⟨e, by simpa using fun h => e h.symm⟩
      rcases hcase with rfl | ⟨hyz, hyb⟩
      all_goals
        rcases hq1 with hq1 | hq1
        all_goals
          have HQ := hid hq1
          rcases hq2 with rfl | rfl | rfl
          all_goals
            have HW : Hid (clS V (z :: zs.drop (k + 1)) x _ = R) := HC.out
            first
            | (go_wp2_with (go_at_call 51; refine (HA.out _).mono ?_; rintro e w' ⟨rfl, rfl⟩)
               first
               | (refine bodyPost_ret (results_three rfl _ _ _) rfl ?_
                  have h9 := HW.out
                  have h8 := HVal.out
                  first | rw [if_pos HQ.out] at h8 | rw [if_neg (by have := HQ.out; omega)] at h8
                  unfold clS at h9
                  rw [h8] at h9
                  simp at h9
                  subst h9
                  exact ⟨rfl, rfl⟩)
               | (go_round
                  case rel =>
                    have h9 := HW.out
                    have h8 := HVal.out
                    first | rw [if_pos HQ.out] at h8 | rw [if_neg (by have := HQ.out; omega)] at h8
                    unfold clS at h9
                    rw [h8] at h9
                    first
                    | rw [if_neg (by omega), if_neg (by omega)] at h9
                    | rw [if_neg (by omega), if_pos (by constructor <;> omega)] at h9
                    first
                    | exact ⟨k + 1, x, _, by omega, by go_num, rfl, rfl, by omega, by omega, h9⟩
                    | exact ⟨k + 1, x + 1, z, by omega, by go_num, by go_num, rfl, by omega, by omega, h9⟩
                    | exact ⟨k + 1, x, z, by omega, by go_num, rfl, rfl, by omega, by omega, h9⟩
                  case measure => simp [intOf]; omega))
    · have e : k = len := by omega
      subst e
      have h9 := HC.out
      rw [List.drop_of_length_le (by rw [HR.out.length]; omega)] at h9
      unfold clS at h9
      subst h9
      clear HC
      go_wp2
      refine bodyPost_ret (results_three rfl _ _ _) rfl ?_
      exact ⟨rfl, rfl⟩
def setV (V : Nat → Int) (z : Int) : Nat → Int := fun i => if i = z.natAbs then (if 0 < z then 1 else -1) else V i
theorem ValRow.set {w : World} {b n : Nat} {V : Nat → Int} (h : ValRow w b n V) {z : Int} : ValRow (w.setCell ⟨b, z.natAbs, none⟩ (.int .i64 (if 0 < z then 1 else -1))) b n (setV V z) := by
  refine ⟨fun i hi => ?_, fun i hi => ?_⟩
  · obtain ⟨h1, h2⟩ := h.cell i hi
    unfold setV
    by_cases e : i = z.natAbs
    · subst e
      rw [if_pos rfl]
      exact ⟨World.cell?_setCell_same _ _ _ h1, by simpa using h2⟩
    · rw [if_neg e]
      exact ⟨(World.cell?_setCell_other _ _ _ _ (by intro h; injection h with _ h _; omega)).trans h1, by simpa using h2⟩
  · have := h.range i hi
    unfold setV
    split
    · split <;> omega
    · exact this
set_option maxHeartbeats 400000 in
theorem set_spec (b n c : Nat) (V : Nat → Int) (z : Int) (w : World) (hv : ValRow w b n V) (hz : z.natAbs < n) (h0 : z ≠ 0) (hn : n ≤ 41) :
    Calls Tryd.prog 52 #[.slice (some ⟨b, 0, none⟩) n c, .int .i64 z] w fun e w' => e = .returned (.tuple #[]) ∧ w' = w.setCell ⟨b, z.natAbs, none⟩ (.int .i64 (if 0 < z then 1 else -1)) := by
  obtain ⟨hc, hf⟩ := hv.cell z.natAbs hz
  clear hv
  by_cases hp : 0 < z
  · obtain ⟨j, rfl⟩ : ∃ j : Nat, z = j := ⟨z.natAbs, by omega⟩
    rw [if_pos hp]
    rw [Int.natAbs_natCast] at hc hf hz ⊢
    go_enter Tryd.func52, Tryd.ntmps52
    go_wp2
    go_end0
    exact ⟨rfl, rfl⟩
  · obtain ⟨j, rfl⟩ : ∃ j : Nat, z = -(j : Int) := ⟨z.natAbs, by omega⟩
    rw [if_neg hp]
    rw [Int.natAbs_neg, Int.natAbs_natCast] at hc hf hz ⊢
    go_enter Tryd.func52, Tryd.ntmps52
    go_wp2
    go_end0
    exact ⟨rfl, rfl⟩
/- What an open clause tells: its last open literal is one of its own, and no value is chosen for it. -/
theorem cl_open (V : Nat → Int) : ∀ (zs : List Int) (o u o' u' : Int), clS V zs o u = (false, o', u') → o ≤ o' ∧ ((o' = o ∧ u' = u) ∨ (u' ∈ zs ∧ valOf V u' = 0))
  | [], o, u, o', u', h => by
    unfold clS at h
    simp only [Prod.mk.injEq] at h
    omega
  | z :: r, o, u, o', u', h => by
    unfold clS at h
    split at h
    · simp at h
    · split at h
      · rename_i hv
        obtain ⟨h1, h2⟩ := cl_open V r (o + 1) z o' u' h
        refine ⟨by omega, .inr ?_⟩
        rcases h2 with ⟨_, rfl⟩ | ⟨h3, h4⟩
        · exact ⟨by simp, hv.1⟩
        · exact ⟨by simp [h3], h4⟩
      · obtain ⟨h1, h2⟩ := cl_open V r o u o' u' h
        refine ⟨h1, ?_⟩
        rcases h2 with h2 | ⟨h3, h4⟩
        · exact .inl h2
        · exact .inr ⟨by simp [h3], h4⟩
theorem val_zero {V : Nat → Int} {z : Int} (h : valOf V z = 0) : V z.natAbs = 0 := by
  unfold valOf at h
  split at h <;> omega
theorem cl_unit {V : Nat → Int} {zs : List Int} {u : Int} (h : clS V zs 0 0 = (false, 1, u)) : u ∈ zs ∧ V u.natAbs = 0 := by
  obtain ⟨_, h2⟩ := cl_open V zs 0 0 1 u h
  rcases h2 with ⟨h3, _⟩ | ⟨h3, h4⟩
  · omega
  · exact ⟨h3, val_zero h4⟩
/- How many of the first n are not chosen: it falls where one is. -/
def openN (V : Nat → Int) : Nat → Nat
  | 0 => 0
  | n + 1 => openN V n + if V n = 0 then 1 else 0
theorem open_le {V V' : Nat → Int} : ∀ n, (∀ i, i < n → V i ≠ 0 → V' i ≠ 0) → openN V' n ≤ openN V n
  | 0, _ => Nat.le_refl _
  | n + 1, h => by
    have ih := open_le n (fun i hi => h i (by omega))
    have := h n (by omega)
    unfold openN
    split <;> split <;> first | omega | (rename_i h1 h2; exact absurd h1 (this h2))
theorem open_set {V : Nat → Int} {z : Int} : ∀ n, z.natAbs < n → V z.natAbs = 0 → openN (setV V z) n < openN V n
  | 0, h, _ => absurd h (Nat.not_lt_zero _)
  | n + 1, h, h0 => by
    have hs : ∀ i, i ≠ z.natAbs → setV V z i = V i := fun i hi => by unfold setV; rw [if_neg hi]
    have hz : setV V z z.natAbs ≠ 0 := by unfold setV; rw [if_pos rfl]; split <;> omega
    unfold openN
    by_cases e : n = z.natAbs
    · have hle := open_le (V := V) (V' := setV V z) n (fun i hi hv => by rw [hs i (by omega)]; exact hv)
      rw [e] at hle ⊢
      rw [if_neg hz, if_pos h0]
      omega
    · have ih := open_set (V := V) (z := z) n (by omega) h0
      rw [hs n e]
      omega
end Go.Proofs.YtbahjpheaaiamaaDoor.runS
