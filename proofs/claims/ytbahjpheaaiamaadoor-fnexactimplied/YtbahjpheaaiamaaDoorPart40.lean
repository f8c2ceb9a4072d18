/- ImpMath; SolStart; ChkRup; DrawnOne: one text, so that the claim has fewer files. -/
import Derived.Test.YtbahjpheaaiamaaDoorPart38
import Derived.Test.YtbahjpheaaiamaaDoorPart24
import Derived.Test.YtbahjpheaaiamaaDoorPart39
import Derived.Test.YtbahjpheaaiamaaDoorPart22
import Derived.Test.YtbahjpheaaiamaaDoorPart34
import Derived.Test.YtbahjpheaaiamaaDoorPart32
import Derived.Test.YtbahjpheaaiamaaDoorPart23
import Derived.Test.YtbahjpheaaiamaaDoorPart25
/- A clause is implied just when each set of whole values that makes all clauses true meets it: told by sets, by values, and by lists of Booleans; conditions: a right formula, a right clause. -/
namespace Go.Proofs.YtbahjpheaaiamaaDoor.impMath
open base copy cnf eval sets setsOf solSets solMath solHold solProp solNew solFace solClose chkNew runS leastSem cdVal cdState satMath propsMath
open rupSpec (LitsIn)
open rupFaceS (cnf_in clause_in)
set_option linter.unusedVariables false
set_option linter.unusedSimpArgs false

/-- Implied, told by sets of literals. -/
def impM (n : Nat) (Z : List (List Int)) (zs : List Int) : Prop := ∀ H, Mdl n (Z.map setL) H → meetL (setL zs) H = true
theorem wf_lits {n : Nat} {zs : List Int} (hn : n ≤ 40) (h : ∀ z ∈ zs, z ≠ 0 ∧ z.natAbs < n + 1) : Wf (setL zs) := wf_set fun z hz => by
  have := h z hz
  exact ⟨this.1, by omega⟩
theorem mem_lits {n : Nat} {zs : List Int} (h : ∀ z ∈ zs, z ≠ 0 ∧ z.natAbs < n + 1) (l : Int) : mem (setL zs) l = true ↔ l ∈ zs := by
  rw [mem_set (fun z hz => (h z hz).1), List.contains_iff_mem]
theorem meet_lits {n : Nat} {zs : List Int} {H : LS} (hn : n ≤ 40) (h : ∀ z ∈ zs, z ≠ 0 ∧ z.natAbs < n + 1) : meetL (setL zs) H = true ↔ ∃ z ∈ zs, mem H z = true := by
  rw [meet_iff (wf_lits hn h)]
  exact ⟨fun ⟨l, h1, h2⟩ => ⟨l, (mem_lits h l).1 h1, h2⟩, fun ⟨l, h1, h2⟩ => ⟨l, (mem_lits h l).2 h1, h2⟩⟩
/-- What values a set gives. -/
def valM (H : LS) (i : Nat) : Int := if mem H (i : Int) = true then 1 else -1
theorem val_set {n : Nat} {Z : List LS} {H : LS} (h : Mdl n Z H) {z : Int} (h0 : z ≠ 0) (hz : z.natAbs < n + 1) : runS.valOf (valM H) z = 1 ↔ mem H z = true := by
  unfold runS.valOf valM
  by_cases hp : z < 0
  · rw [if_pos hp, show ((z.natAbs : Nat) : Int) = -z by omega]
    by_cases hm : mem H (-z) = true
    · rw [if_pos hm]
      have := h.cons _ hm
      rw [Int.neg_neg] at this
      rw [this]; simp
    · rw [if_neg hm]
      have := h.all z.natAbs (by omega) (by omega)
      rw [show ((z.natAbs : Nat) : Int) = -z by omega, Int.neg_neg] at this
      rw [this.resolve_left hm]; simp
  · rw [if_neg hp, show ((z.natAbs : Nat) : Int) = z by omega]
    by_cases hm : mem H z = true
    · rw [if_pos hm, hm]; simp
    · rw [if_neg hm]
      simp at hm
      rw [hm]; simp
theorem mod_of {n : Nat} (hn : n ≤ 40) {Z : List (List Int)} (hl : LitsIn (n + 1) Z) {H : LS} (h : Mdl n (Z.map setL) H) : Mod Z (n + 1) (valM H) := by
  refine ⟨fun i h1 h2 => ?_, fun c hc => ?_⟩
  · unfold valM
    split
    · exact .inl rfl
    · exact .inr rfl
  · obtain ⟨z, h1, h2⟩ := (meet_lits hn (hl c hc)).1 (h.cl _ (List.mem_map.2 ⟨c, hc, rfl⟩))
    have := hl c hc z h1
    exact ⟨z, h1, (val_set h this.1 this.2).2 h2⟩
theorem mdl_of {n : Nat} (hn : n ≤ 40) {Z : List (List Int)} (hl : LitsIn (n + 1) Z) {M : Nat → Int} (h : Mod Z (n + 1) M) : Mdl n (Z.map setL) (setM M n) := by
  refine ⟨wf_setM hn, cons_setM h.1, fun v h1 h2 => tot_mem h.1 (by omega) (by omega), fun c hc => ?_⟩
  obtain ⟨ys, hy, rfl⟩ := List.mem_map.1 hc
  obtain ⟨z, hz, hv⟩ := h.2 ys hy
  have h1 := hl ys hy z hz
  exact (meet_lits hn (hl ys hy)).2 ⟨z, hz, (mem_setM h.1 z).2 ⟨h1.1, by omega, hv⟩⟩
/-- What a search for a model that makes the clause false says of it. -/
theorem imp_no {n : Nat} (hn : n ≤ 40) {Z : List (List Int)} {zs : List Int} (hz : ∀ z ∈ zs, z ≠ 0 ∧ z.natAbs < n + 1) (h : ¬ ∃ H, Mdl n (Z.map setL) H ∧ Sub (turnL (setL zs)) H) : impM n Z zs := fun H hH => Classical.byContradiction fun hno => h ⟨H, hH, fun l hl => by
  have hr := (wf_turn (wf_lits hn hz)).range hl
  rw [mem_turn hr.1] at hl
  have h1 := (mem_lits hz _).1 hl
  have h2 := hz _ h1
  have h3 : mem H (-l) = false := by
    cases h4 : mem H (-l) with
    | false => rfl
    | true => exact absurd ((meet_lits hn hz).2 ⟨_, h1, h4⟩) hno
  have h5 := hH.all l.natAbs (by omega) (by omega)
  rcases (show (l.natAbs : Int) = l ∨ (l.natAbs : Int) = -l by omega) with e | e
  · rw [e, h3] at h5; exact h5.resolve_right (by simp)
  · rw [e, h3, Int.neg_neg] at h5; exact h5.resolve_left (by simp)⟩
theorem imp_yes {n : Nat} (hn : n ≤ 40) {Z : List (List Int)} {zs : List Int} (hz : ∀ z ∈ zs, z ≠ 0 ∧ z.natAbs < n + 1) {H : LS} (hH : Mdl n (Z.map setL) H) (hs : Sub (turnL (setL zs)) H) : ¬ impM n Z zs := fun h => by
  obtain ⟨z, h1, h2⟩ := (meet_lits hn hz).1 (h H hH)
  have h3 := hs (-z) (by rw [mem_turn (by have := (hz z h1).1; omega), Int.neg_neg]; exact (mem_lits hz z).2 h1)
  have h4 := hH.cons z h2
  rw [h3] at h4; cases h4
/-- A clause with a literal and its opposite is implied by all. -/
theorem imp_all {n : Nat} (hn : n ≤ 40) {Z : List (List Int)} {zs : List Int} (hz : ∀ z ∈ zs, z ≠ 0 ∧ z.natAbs < n + 1) {l : Int} (h1 : mem (setL zs) l = true) (h2 : mem (setL zs) (-l) = true) : impM n Z zs := fun H hH => by
  have k1 := (mem_lits hz l).1 h1
  have k2 := (mem_lits hz _).1 h2
  have := hz l k1
  have h5 := hH.all l.natAbs (by omega) (by omega)
  refine (meet_lits hn hz).2 ?_
  rcases (show (l.natAbs : Int) = l ∨ (l.natAbs : Int) = -l by omega) with e | e
  · rw [e] at h5
    exact h5.elim (fun h => ⟨l, k1, h⟩) (fun h => ⟨-l, k2, h⟩)
  · rw [e, Int.neg_neg] at h5
    exact h5.elim (fun h => ⟨-l, k2, h⟩) (fun h => ⟨l, k1, h⟩)
end Go.Proofs.YtbahjpheaaiamaaDoor.impMath

/- A solver that has just been made of a formula's clauses is at the start of a search: nothing is chosen, what is true was given; conditions: clauses of the variables. -/
namespace Go.Proofs.YtbahjpheaaiamaaDoor.solStart
open Go.RowKit Go.Deep base sets setsOf solSets solOps solMath solHold solMem solAdd solNew solX solProp solClose solTrail solAddM cdVal cdState cdLes cdLearn cdSolve cdX solSolve solSmall cdSmall impMath
open rupSpec (LitsIn)
set_option linter.unusedVariables false
set_option linter.unusedSimpArgs false

theorem add_X (s : Sv) (c : LS) : (addS s c).X = s.X := by
  unfold addS
  split
  · rfl
  · split
    · unfold solAdd.watS; rw [if_pos rfl]; rfl
    · unfold solAdd.watS; split <;> rfl
theorem fold_X : ∀ (cs : List LS) (s : Sv), (cs.foldl addS s).X = s.X
  | [], s => rfl
  | c :: cs, s => by rw [List.foldl_cons, fold_X cs, add_X]
theorem new_X (n : Int) (H : LS) (cs : List LS) : (newS n H cs).X = X0 cs.length := fold_X cs _
theorem x0_wt (own : Nat) : ∀ v, v ≤ 40 → X0 own (11 + v) = .int .i64 0 := fun v hv => by
  match v, hv with
  | 0, _ => rfl
  | 1, _ => rfl
  | 2, _ => rfl
  | 3, _ => rfl
  | 4, _ => rfl
  | 5, _ => rfl
  | 6, _ => rfl
  | 7, _ => rfl
  | 8, _ => rfl
  | 9, _ => rfl
  | 10, _ => rfl
  | 11, _ => rfl
  | 12, _ => rfl
  | 13, _ => rfl
  | 14, _ => rfl
  | 15, _ => rfl
  | 16, _ => rfl
  | 17, _ => rfl
  | 18, _ => rfl
  | 19, _ => rfl
  | 20, _ => rfl
  | 21, _ => rfl
  | 22, _ => rfl
  | 23, _ => rfl
  | 24, _ => rfl
  | 25, _ => rfl
  | 26, _ => rfl
  | 27, _ => rfl
  | 28, _ => rfl
  | 29, _ => rfl
  | 30, _ => rfl
  | 31, _ => rfl
  | 32, _ => rfl
  | 33, _ => rfl
  | 34, _ => rfl
  | 35, _ => rfl
  | 36, _ => rfl
  | 37, _ => rfl
  | 38, _ => rfl
  | 39, _ => rfl
  | 40, _ => rfl
  | v + 41, h => exact absurd h (by omega)
theorem x0_wg (own : Nat) : Wg (X0 own) 1024 (1000 * 1024) := ⟨fun v hv => ⟨0, x0_wt own v hv, by omega, by omega⟩, rfl⟩
theorem cd_start {n : Nat} {Z : List LS} {H : LS} {s : Sv} (hn : n ≤ 40) (hf : Full s) (hC : s.C = Z) (hv : s.n = n) (hH : s.H = H) (hT : s.T = []) (hK : s.K = []) (hw : Wf H) (hc : Cons H) (hZ : ∀ c ∈ Z, InN n c) : Cd n Z H H s := by
  refine ⟨hf, ⟨⟨hw, by rw [hT, hH]; rfl, by rw [hT]; trivial⟩, by rw [hK]; exact List.Pairwise.nil, fun k hk => (by rw [hK] at hk; cases hk), fun k hk => (by rw [hK] at hk; cases hk)⟩, ⟨hc, hv, hn, fun i hi => hZ _ (by rw [← hC]; exact cl_mem hi), fun p hp => (by rw [hT] at hp; cases hp), fun i hi H' hH' => hH'.cl _ (by rw [← hC]; exact cl_mem hi), by rw [hC]; exact List.take_length, by rw [hK]; exact List.Pairwise.nil, fun i hi => (by rw [hT] at hi; exact absurd hi (Nat.not_lt_zero _)), fun H' hH' hs => ?_⟩, fun k hk => (by rw [hK] at hk; cases hk)⟩
  unfold atK lev0
  rw [hK, hT]
  exact hs
theorem in_n {n : Nat} {Z : List (List Int)} (hl : LitsIn (n + 1) Z) : ∀ c ∈ Z.map setL, InN n c := fun c hc l hm => by
  obtain ⟨zs, h1, rfl⟩ := List.mem_map.1 hc
  have h2 := (mem_lits (hl zs h1) l).1 hm
  have := hl zs h1 l h2
  omega
theorem wf_all {n : Nat} {Z : List (List Int)} (hn : n ≤ 40) (hl : LitsIn (n + 1) Z) : ∀ c ∈ Z.map setL, Wf c := fun c hc => by
  obtain ⟨zs, h1, rfl⟩ := List.mem_map.1 hc
  exact wf_lits hn (hl zs h1)
theorem start_srch {n : Nat} {Z : List (List Int)} {H : LS} (hn : n ≤ 40) (hl : LitsIn (n + 1) Z) (hw : Wf H) (hc : Cons H) {M mb : Nat} {Crd : Sv → Nat → Prop} {F : Nat → Value} {V : Int → Value} {w : World} (hs : Sol 0 M mb F V (newS n H (Z.map setL)) w) (hv : V 0 = nilV) (r : Nat) (hcr : Crd (newS n H (Z.map setL)) r) : Srch n (Z.map setL) H H M mb Crd F V (newS n H (Z.map setL)) 1024 r w ∧ (newS n H (Z.map setL)).K = [] := by
  obtain ⟨f1, f2, f3, f4, f5, f6⟩ := new_full (n := n) (H := H) hw hc (wf_all hn hl)
  exact ⟨⟨hs, hv, cd_start hn f1 f2 f3 f4 f5 f6 hw hc (in_n hl), by rw [new_X]; exact x0_wg _, by omega, hcr⟩, f6⟩
/-- What solve says of a solver that has just been made. -/
def SaysOf (n : Nat) (Z : List (List Int)) (H : LS) (b : Bool) : Prop := (b = true → ∃ H', Mdl n (Z.map setL) H' ∧ Sub H H') ∧ (b = false → ¬ ∃ H', Mdl n (Z.map setL) H' ∧ Sub H H')
end Go.Proofs.YtbahjpheaaiamaaDoor.solStart

/- A checker of the program tells whether a clause is RUP (isRup); conditions: clauses of at most 40 variables, lengths that fit. -/
namespace Go.Proofs.YtbahjpheaaiamaaDoor.chkRup
open Go.RowKit Go.Deep Go.Maps Go base sets setsOf solSets solOps solMath solHold solMem solAddI solClose solTrail solBackI solSupI chkNew chkMath
set_option linter.unusedVariables false
set_option linter.unusedSimpArgs false

theorem always_impl (a b : Nat) (w : World) (ha : a < 18446744073709551616) (hb : b < 18446744073709551616) :
    Calls Tryd.prog 33 #[.agg #[.int .u64 a, .int .u64 b]] w fun e w' => e = .returned (.bool (meetL (a, b) (turnL (a, b)))) ∧ Below w.heap.size w w' := by
  have HT := hid (fun w : World => turned_impl a b w)
  have HM : Hid (∀ w : World, Calls Tryd.prog 49 #[.agg #[.int .u64 a, .int .u64 b], .agg #[.int .u64 b, .int .u64 a]] w fun e w' => e = .returned (.bool (meetL (a, b) (turnL (a, b)))) ∧ Below w.heap.size w w') := hid (fun w => meets_impl a b b a w ha hb hb ha)
  generalize meetL (a, b) (turnL (a, b)) = m at *
  go_enter Tryd.func33, Tryd.ntmps33
  go_wp2_with fail
  go_region_with (first
    | (go_at_call 34; refine (HT.out _).mono ?_; rintro e1 w1 ⟨rfl, hb1⟩; have HB1 := hid ((show Below w.heap.size w _ from (by repeat (first | exact Below.refl _ _ | assumption | refine netSem.bdn ?_ _ | refine Below.drew ?_ | refine Below.alloc ?_ (by first | exact Nat.le_refl _ | omega | (simp; done) | (simp; omega)) _))).trans (hb1.mono (by simp))); have c0 : w1.cell? ⟨w.heap.size, 0, none⟩ = some (.int .u64 a) := keep hb1 (by simp [go_sem]); have c1 : w1.cell? ⟨w.heap.size, 1, none⟩ = some (.int .u64 b) := keep hb1 (by simp [go_sem]); clear hb1)
    | (go_at_call 49; refine (HM.out _).mono ?_; rintro e2 w2 ⟨rfl, hb2⟩; have HB2 := hid (HB1.out.trans (hb2.mono HB1.out.size)); clear hb2))
  all_goals
    go_wp2
    go_ret
    exact ⟨rfl, HB2.out⟩
end Go.Proofs.YtbahjpheaaiamaaDoor.chkRup

/- A drawn region with one operation that may write what another one of the region made: what the rest tells speaks of no memory; conditions: none. -/
namespace Go.Proofs.YtbahjpheaaiamaaDoor.drawnOne
open Go Go.RowKit heldStore drawn drawnLin drawnSrc drawnFree
set_option linter.unusedVariables false
variable {P : Program} {ops : Array Oper} {Q : Exit → Act → World → Prop}

theorem region_one {id : Nat} {a : Act} {w : World} (A : (Nat → Value) → Act) (s : Nat → Nat) (φ : Nat → Value → World → Prop) (W : World) (n p q : Nat) (u0 : Nat → Value) (ha : a = A u0)
    (hm : P.follows .mixedOrders = true) (hz : ops.size = n) (hup : upC ops = true) (hpq : p ≠ q) (hW : Below W.heap.size W w)
    (hput : ∀ i, i < n → ∀ u v, (A u).put (some (s i)) v = A (upd u (s i) v)) (hinj : ∀ i j, i < n → j < n → s i = s j → i = j)
    (stable : ∀ v w w', Below w.heap.size w w' → φ p v w → φ p v w') (still : ∀ i v w w', i ≠ p → φ i v w → φ i v w')
    (step : ∀ i, i < n → i ≠ q → ∀ u w, Below W.heap.size W w → (∀ j, Region.waitsFor .any ops i j = true → j ≠ p → φ j (u (s j)) w) → ∃ o, ops[i]? = some o ∧ ∀ K' : Act → World → Prop, Shut (∀ v w', Below w.heap.size w w' → φ i v w' → K' ((A u).put (some (s i)) v) w') → if Region.wanted o (yielded ops (A u).tmps) = true then Oper.wp P o (A u) w K' Q else K' ((A u).put o.dst undef) w)
    (one : q < n → ∀ u w, Below W.heap.size W w → (∀ j, Region.waitsFor .any ops q j = true → φ j (u (s j)) w) → ∃ o, ops[q]? = some o ∧ ∀ K' : Act → World → Prop, Shut (∀ v w', Below W.heap.size W w' → φ q v w' → K' ((A u).put (some (s q)) v) w') → if Region.wanted o (yielded ops (A u).tmps) = true then Oper.wp P o (A u) w K' Q else K' ((A u).put o.dst undef) w)
    (fin : ∀ u w, Below W.heap.size W w → (∀ j, j < n → j ≠ p → φ j (u (s j)) w) → Q .normal (A u) w) :
    (Code.region id ops true).wp P Q a w := by
  have lt : ∀ i j, i < n → Region.waitsFor .any ops i j = true → j < n := fun i j hi hj => by
    obtain ⟨oj, hoj, e, he, hb, hon⟩ := Region.waitsFor_spec hj
    have h9 := upC_spec hup hoj e he hb
    rw [hon] at h9
    omega
  refine region_free A (fun i => some (s i)) (fun L u w8 => Below W.heap.size W w8 ∧ ∀ j, j < n → L j = true → (j = p → L q = false) → φ j (u (s j)) w8) n u0 ha hm hz hup ⟨hW.trans ((Below.refl _ _).drew.mono hW.size), fun j _ h => (by cases h)⟩ (fun i hi u v => hput i hi u v) ?_ ?_
  · intro i hi L u w8 hLi hwait ⟨hb, hI⟩
    by_cases e : i = q
    · subst e
      obtain ⟨o, ho, h⟩ := one hi u w8 hb (fun j hj => hI j (lt i j hi hj) (hwait j hj) (fun _ => hLi))
      refine ⟨o, ho, fun K' hK => h K' fun v w' hb' hv => hK.out v w' ⟨hb', fun j hj h1 h2 => ?_⟩⟩
      show φ j (upd u (s i) v (s j)) w'
      by_cases e2 : j = i
      · subst e2
        rw [upd_same]; exact hv
      · rw [come_ne e2] at h1
        have e3 : j ≠ p := fun e3 => by have := h2 e3; rw [come_same] at this; cases this
        rw [upd_ne _ _ (fun e4 => e2 (hinj j i hj hi e4))]
        exact still j _ _ _ e3 (hI j hj h1 (fun e4 => absurd e4 e3))
    · obtain ⟨o, ho, h⟩ := step i hi e u w8 hb (fun j hj hjp => hI j (lt i j hi hj) (hwait j hj) (fun e4 => absurd e4 hjp))
      refine ⟨o, ho, fun K' hK => h K' fun v w' hb' hv => hK.out v w' ⟨hb.trans (hb'.mono hb.size), fun j hj h1 h2 => ?_⟩⟩
      show φ j (upd u (s i) v (s j)) w'
      by_cases e2 : j = i
      · subst e2
        rw [upd_same]; exact hv
      · rw [come_ne e2] at h1
        rw [upd_ne _ _ (fun e4 => e2 (hinj j i hj hi e4))]
        have h3 := hI j hj h1 (fun e4 => by have := h2 e4; rw [come_ne (Ne.symm e)] at this; exact this)
        by_cases e3 : j = p
        · rw [e3] at h3 ⊢; exact stable _ _ _ hb' h3
        · exact still j _ _ _ e3 h3
  · intro L u w8 hL ⟨hb, hI⟩
    exact fin u w8 hb (fun j hj hjp => hI j hj (hL j hj) (fun e => absurd e hjp))
end Go.Proofs.YtbahjpheaaiamaaDoor.drawnOne
