import Derived.Test.YtmkhoocokpkojaaGreatDoorPart49
import Derived.Test.YtmkhoocokpkojaaGreatDoorPart46
import Derived.Test.YtmkhoocokpkojaaGreatDoorPart9
import Derived.Test.YtmkhoocokpkojaaGreatDoorPart36
import Derived.Test.YtmkhoocokpkojaaGreatDoorPart32
import Derived.Test.YtmkhoocokpkojaaGreatDoorPart1
import Derived.OwnWalk
import Derived.WalkSpells
import Derived.Maps.AppendAt
namespace Go.Proofs.YtmkhoocokpkojaaGreatDoor.refChk
open sets solSets solMath solHold solProp solNew solClose solTrail chkNew chkMath ratMath chkSem runS runL leastSem refSem refImpl refMath satMath
open rupSpec (LitsIn)
set_option linter.unusedVariables false
set_option linter.unusedSimpArgs false
def AllOk : List (List Int) → List (List Int) → Prop
 | _, [] => True
 | Z, c :: r => okR Z c ∧ c ≠ [] ∧ AllOk (Z ++ [c]) r
theorem all_app : ∀ (q q' Z : List (List Int)), AllOk Z (q ++ q') ↔ AllOk Z q ∧ AllOk (Z ++ q) q'
 | [], q', Z => by simp [AllOk]
 | c :: r, q', Z => by
  show okR Z c ∧ c ≠ [] ∧ AllOk (Z ++ [c]) (r ++ q') ↔ (okR Z c ∧ c ≠ [] ∧ AllOk (Z ++ [c]) r) ∧ AllOk (Z ++ c :: r) q'
  rw [all_app r q' (Z ++ [c])]
  simp [and_assoc]
theorem chk_all : ∀ (q Z : List (List Int)) (i : Nat), AllOk Z q → okR (Z ++ q) [] → ChkR Z ((q ++ [[]]).map fun z => (false, z)) i ((i + q.length : Nat) : Int) 0
 | [], Z, i, h, h' => by
  rw [List.append_nil] at h'
  exact .inr (.inl ⟨h', rfl, rfl, rfl⟩)
 | c :: r, Z, i, h, h' => by
  obtain ⟨h1, h2, h3⟩ := h
  have ih := chk_all r (Z ++ [c]) (i + 1) h3 (by simpa using h')
  refine .inr (.inr ⟨h1, h2, ?_⟩)
  rw [show i + (c :: r).length = i + 1 + r.length by simp; omega]
  exact ih
theorem negs_in {k : Nat} {zs : List Int} (h : ∀ z ∈ zs, z ≠ 0 ∧ z.natAbs < k) : ∀ z ∈ (zs.map fun z => -z), z ≠ 0 ∧ z.natAbs < k := fun z hz => by
 obtain ⟨y, hy, rfl⟩ := List.mem_map.1 hz
 have := h y hy
 omega
theorem turn_negs {zs : List Int} (h : ∀ z ∈ zs, z ≠ 0 ∧ z.natAbs < 41) : turnL (setL (zs.map fun z => -z)) = setL zs := by
 refine ls_ext (wf_turn (wf_set (negs_in h))) (wf_set h) fun l => ?_
 by_cases hl : l = 0
 · subst hl
   rw [(wf_turn (wf_set (negs_in h))).zero, (wf_set h).zero]
 · rw [mem_turn hl, mem_set (fun z hz => (negs_in h z hz).1), mem_set (fun z hz => (h z hz).1), Bool.eq_iff_iff, List.contains_iff_mem, List.contains_iff_mem, List.mem_map]
   constructor
   · rintro ⟨a, ha, e⟩
     rwa [show l = a by omega]
   · exact fun hm => ⟨l, hm, rfl⟩
theorem cons_set {zs : List Int} (h : ∀ z ∈ zs, z ≠ 0) : Cons (setL zs) ↔ ∀ z ∈ zs, -z ∉ zs := by
 constructor
 · intro hc z hz hn
   have h1 := hc z (by rw [mem_set h, List.contains_iff_mem]; exact hz)
   rw [mem_set h] at h1
   exact absurd (List.contains_iff_mem.2 hn) (by rw [h1]; decide)
 · intro hn l hl
   rw [mem_set h, List.contains_iff_mem] at hl
   rw [mem_set h]
   have := hn l hl
   simpa using this
theorem cons_snoc {zs : List Int} {y : Int} (h : ∀ z ∈ zs, z ≠ 0) (hy : y ≠ 0) (hc : Cons (setL zs)) (hn : ∀ z ∈ zs, z.natAbs ≠ y.natAbs) : Cons (setL (zs ++ [y])) := by
 rw [cons_set (fun z hz => by
  rcases List.mem_append.1 hz with hz | hz
  · exact h z hz
  · rw [List.mem_singleton.1 hz]; exact hy)]
 rw [cons_set h] at hc
 intro z hz hm
 rcases List.mem_append.1 hz with hz | hz
 · rcases List.mem_append.1 hm with hm | hm
   · exact hc z hz hm
   · have := List.mem_singleton.1 hm
     exact hn z hz (by omega)
 · have hz := List.mem_singleton.1 hz
   rcases List.mem_append.1 hm with hm | hm
   · exact hn _ hm (by omega)
   · have := List.mem_singleton.1 hm
     omega
theorem ok_negs {cs : List (List Int)} {zs : List Int} (h : ∀ z ∈ zs, z ≠ 0 ∧ z.natAbs < 41) (hno : ¬ ∃ H, Closed (cs.map setL) H ∧ Sub (setL zs) H) : okR cs (zs.map fun z => -z) := by
 refine .inl (.inr ?_)
 rw [turn_negs h]
 exact hno
theorem open_far {Z : List (List Int)} {nv q : Nat} {zs : List Int} (h : valF Z nv zs q = 0) : ∀ z ∈ zs, z.natAbs ≠ q := by
 have h1 : allV zs q = 0 := Classical.byContradiction fun e => run_keeps (nv + 1 + 1) Z (allV zs) [] q e h
 unfold allV at h1
 exact ((fold_zero zs _ q).1 h1).2
theorem all_rng : ∀ (L : List Int) (V : Nat → Int) (n : Nat), Rng V n → Rng (L.foldl setV V) n
 | [], V, n, h => h
 | x :: L, V, n, h => all_rng L (setV V x) n (rng_set h)
theorem closed_less {Z p : List (List Int)} {H : LS} (h : Closed ((Z ++ p).map setL) H) : Closed (Z.map setL) H := h.less fun c hc => by
 rw [List.map_append]; exact List.mem_append_left _ hc
theorem lits_snoc {nv : Nat} {zs : List Int} {y : Int} (h : ∀ z ∈ zs, z ≠ 0 ∧ z.natAbs < nv + 1) (hy : y ≠ 0 ∧ y.natAbs < nv + 1) : ∀ z ∈ zs ++ [y], z ≠ 0 ∧ z.natAbs < nv + 1 := fun z hz => by
 rcases List.mem_append.1 hz with hz | hz
 · exact h z hz
 · rw [List.mem_singleton.1 hz]; exact hy
theorem must {cs : List LS} {zs : List Int} {y : Int} {H : LS} (h : ∀ z ∈ zs ++ [y], z ≠ 0 ∧ z.natAbs < 41) (hc : setL ((zs ++ [y]).map fun z => -z) ∈ cs) (hcl : Closed cs H) (hs : Sub (setL zs) H) : mem H (-y) = true := by
 have hw : Wf (setL ((zs ++ [y]).map fun z => -z)) := wf_set (negs_in h)
 have hm : ∀ l, mem (setL ((zs ++ [y]).map fun z => -z)) l = true → mem H (-l) = true ∨ l = -y := fun l hl => by
  rw [mem_set (fun z hz => (negs_in h z hz).1), List.contains_iff_mem, List.mem_map] at hl
  obtain ⟨a, ha, rfl⟩ := hl
  rcases List.mem_append.1 ha with ha | ha
  · refine .inl (hs _ ?_)
    rw [Int.neg_neg, mem_set (fun z hz => (h z (by simp [hz])).1), List.contains_iff_mem]
    exact ha
  · exact .inr (by rw [List.mem_singleton.1 ha])
 rcases hcl.cl _ hc with h1 | ⟨a, b, hab, ha, hb⟩
 · obtain ⟨l, h2, h3⟩ := (meet_iff hw).1 h1
   rcases hm l h2 with h4 | h4
   · rw [hcl.cons l h3] at h4; cases h4
   · rwa [h4] at h3
 · rw [mem_rest hw hcl.wf, Bool.and_eq_true] at ha hb
   have ha2 := (hm a ha.1).resolve_left (fun e => by rw [e] at ha; exact absurd ha.2 (by decide))
   have hb2 := (hm b hb.1).resolve_left (fun e => by rw [e] at hb; exact absurd hb.2 (by decide))
   exact absurd (ha2.trans hb2.symm) hab
theorem goes_good {Z : List (List Int)} {nv : Nat} (hn : nv ≤ 40) (hl : LitsIn (nv + 1) Z) {zs : List Int} {p p' : List (List Int)} {c : Nat} (h : Goes Z nv zs p c p') :
  (∀ z ∈ zs, z ≠ 0 ∧ z.natAbs < nv + 1) → Cons (setL zs) → (c = 0 → ∃ q, p' = p ++ q ++ [zs.map fun z => -z] ∧ AllOk (Z ++ p) q ∧ okR (Z ++ p ++ q) (zs.map fun z => -z)) ∧ (c = 1 → ∃ M, Mod Z (nv + 1) M) := by
 induction h with
 | @shut zs p h1 h2 h3 =>
  intro hz hc
  have hz41 : ∀ z ∈ zs, z ≠ 0 ∧ z.natAbs < 41 := fun z h => by have := hz z h; omega
  refine ⟨fun _ => ⟨[], by simp, trivial, ?_⟩, fun e => (by cases e)⟩
  rw [List.append_nil]
  refine ok_negs hz41 fun ⟨H, h4, h5⟩ => ?_
  have := (facts hn hl hz hc).1.2 ⟨H, closed_less h4, h5⟩
  omega
 | shutM h1 h2 => exact fun _ _ => ⟨fun e => (by cases e), fun e => (by cases e)⟩
 | @model zs p h1 h2 =>
  intro hz hc
  refine ⟨fun e => (by cases e), fun _ => ⟨valF Z nv zs, ?_⟩⟩
  have hop : openN (allV zs) (nv + 1) < nv + 1 + 1 := by have := open_most (allV zs) (nv + 1); omega
  exact whole_model hl (run_rng _ _ _ (all_rng zs _ _ (fun i hi => by simp))) (fun i h3 h4 => h2 i h3 (by omega)) (run_open hl _ _ _ hop h1)
 | @left zs p q c p1 h1 h2 h3 h4 ih =>
  intro hz hc
  have hf := open_far h2.2.2.1
  have hq := h2.1
  have hq2 := h2.2.1
  obtain ⟨-, i2⟩ := ih (lits_snoc hz ⟨by omega, by omega⟩) (cons_snoc (fun z h => (hz z h).1) (by omega) hc (fun z h => by have := hf z h; omega))
  exact ⟨fun e => absurd e h4, i2⟩
 | @right zs p q c p1 p2 h1 h2 h3 h4 h5 ih1 ih2 =>
  intro hz hc
  have hf := open_far h2.2.2.1
  have hq := h2.1
  have hq2 := h2.2.1
  obtain ⟨-, i2⟩ := ih2 (lits_snoc hz ⟨by omega, by omega⟩) (cons_snoc (fun z h => (hz z h).1) (by omega) hc (fun z h => by have := hf z h; omega))
  exact ⟨fun e => absurd e h5, i2⟩
 | @both zs p q p1 p2 h1 h2 h3 h4 h5 h6 ih1 ih2 =>
  intro hz hc
  have hz41 : ∀ z ∈ zs, z ≠ 0 ∧ z.natAbs < 41 := fun z h => by have := hz z h; omega
  have hf := open_far h2.2.2.1
  have hq := h2.1
  have hq2 := h2.2.1
  have hzl := lits_snoc hz (y := -(q : Int)) ⟨by omega, by omega⟩
  have hzr := lits_snoc hz (y := (q : Int)) ⟨by omega, by omega⟩
  obtain ⟨i1, -⟩ := ih1 hzl (cons_snoc (fun z h => (hz z h).1) (by omega) hc (fun z h => by have := hf z h; omega))
  obtain ⟨i2, -⟩ := ih2 hzr (cons_snoc (fun z h => (hz z h).1) (by omega) hc (fun z h => by have := hf z h; omega))
  obtain ⟨q1, e1, a1, o1⟩ := i1 rfl
  obtain ⟨q2, e2, a2, o2⟩ := i2 rfl
  refine ⟨fun _ => ⟨q1 ++ [(zs ++ [-(q : Int)]).map fun z => -z] ++ q2 ++ [(zs ++ [(q : Int)]).map fun z => -z], ?_, ?_, ?_⟩, fun e => (by cases e)⟩
  · rw [e2, e1]; simp
  · rw [all_app, all_app, all_app]
    refine ⟨⟨⟨a1, o1, by simp, trivial⟩, ?_⟩, ?_, by simp, trivial⟩
    · rw [e1] at a2; simpa using a2
    · rw [e1] at o2; simpa using o2
  · refine ok_negs hz41 fun ⟨H, h7, h8⟩ => ?_
    have m1 := must (y := -(q : Int)) (fun z h => by have := hzl z h; omega) (List.mem_map.2 ⟨_, by simp, rfl⟩) h7 h8
    have m2 := must (y := (q : Int)) (fun z h => by have := hzr z h; omega) (List.mem_map.2 ⟨_, by simp, rfl⟩) h7 h8
    rw [Int.neg_neg] at m1
    rw [h7.cons _ m1] at m2
    cases m2
 | bothM _ _ _ _ _ _ _ => exact fun _ _ => ⟨fun e => (by cases e), fun e => (by cases e)⟩
theorem goes_checks {Z : List (List Int)} {nv : Nat} (hn : nv ≤ 40) (hl : LitsIn (nv + 1) Z) {p' : List (List Int)} (h : Goes Z nv [] [] 0 p') : ∃ m : Nat, p'.length = m + 1 ∧ ChkR Z (p'.map fun z => (false, z)) 0 (m : Int) 0 := by
 obtain ⟨h1, -⟩ := goes_good hn hl h (fun z hz => by cases hz) (fun l hl9 => by
  have : mem (setL []) l = false := mem_zero l
  rw [this] at hl9
  cases hl9)
 obtain ⟨q, e, a, o⟩ := h1 rfl
 rw [List.nil_append, List.map_nil] at e
 rw [List.append_nil] at a o
 refine ⟨q.length, by rw [e]; simp, ?_⟩
 have := chk_all q Z 0 a o
 rw [Nat.zero_add] at this
 rw [e]
 exact this
theorem goes_model {Z : List (List Int)} {nv : Nat} (hn : nv ≤ 40) (hl : LitsIn (nv + 1) Z) {p' : List (List Int)} (h : Goes Z nv [] [] 1 p') : ∃ M, Mod Z (nv + 1) M :=
 (goes_good hn hl h (fun z hz => by cases hz) (fun l hl9 => by
  have : mem (setL []) l = false := mem_zero l
  rw [this] at hl9
  cases hl9)).2 rfl
end Go.Proofs.YtmkhoocokpkojaaGreatDoor.refChk
namespace Go.Proofs.YtmkhoocokpkojaaGreatDoor.proofsMath
open Go.RowKit Go.Deep base copy cnf sets solSets solMath chkSem leastSem refSem refImpl refFace satMath refChk stepsAre chkFaceS
open runS (setV openN open_set open_le)
open runL (run_keeps)
open rupSpec (LitsIn)
open rupFaceS (cnf_in)
open readSpecP (Pt strip)
set_option linter.unusedVariables false
theorem least_nat {P : Nat → Prop} : ∀ n, P n → ∃ q, P q ∧ ∀ i, i < q → ¬ P i := fun n => by
 induction n using Nat.strongRecOn with
 | _ n ih =>
  intro h
  by_cases hx : ∃ i, i < n ∧ P i
  · obtain ⟨i, hi, hp⟩ := hx
    exact ih i hi hp
  · exact ⟨n, h, fun i hi hp => hx ⟨i, hi, hp⟩⟩
theorem opens_some {V : Nat → Int} {nv : Nat} (h : ¬ ∀ i, 1 ≤ i → i ≤ nv → V i ≠ 0) : ∃ q, Opens V nv q := by
 have h2 : ∃ i, 1 ≤ i ∧ i ≤ nv ∧ V i = 0 := Classical.byContradiction fun hn => h fun i h1 h2 h3 => hn ⟨i, h1, h2, h3⟩
 obtain ⟨i, h2⟩ := h2
 obtain ⟨q, ⟨q1, q2, q3⟩, hq⟩ := least_nat (P := fun i => 1 ≤ i ∧ i ≤ nv ∧ V i = 0) i h2
 exact ⟨q, q1, q2, q3, fun j j1 j2 j3 => hq j j2 ⟨j1, by omega, j3⟩⟩
theorem goes_all {Z : List (List Int)} {nv : Nat} : ∀ (m : Nat) (zs : List Int) (p : List (List Int)), openN (allV zs) (nv + 1) < m → p.length ≤ 200 → ∃ c p', Goes Z nv zs p c p' ∧ p'.length ≤ 200
 | 0, _, _, h, _ => absurd h (Nat.not_lt_zero _)
 | m + 1, zs, p, h, hp => by
  by_cases ha : 0 ≤ atF Z nv zs
  · by_cases hs : zs.length ≤ 12 ∧ p.length < 200
    · exact ⟨0, _, .shut ha hs.1 hs.2, by simp; omega⟩
    · exact ⟨2, p, .shutM ha (by omega), hp⟩
  · by_cases hw : ∀ i, 1 ≤ i → i ≤ nv → valF Z nv zs i ≠ 0
    · exact ⟨1, p, .model (by omega) hw, hp⟩
    · obtain ⟨q, hq⟩ := opens_some hw
      have h0 : allV zs q = 0 := Classical.byContradiction fun h9 => run_keeps (nv + 1 + 1) Z (allV zs) [] q h9 hq.2.2.1
      have hless : ∀ z : Int, z.natAbs = q → openN (allV (zs ++ [z])) (nv + 1) < m := fun z hz => by
       rw [allV_snoc]
       have h1 := open_set (V := allV zs) (z := z) (nv + 1) (by have := hq.2.1; omega) (by rw [hz]; exact h0)
       omega
      obtain ⟨c1, p1, g1, l1⟩ := goes_all m (zs ++ [-(q : Int)]) p (hless _ (by omega)) hp
      by_cases hc1 : c1 = 0
      · subst hc1
        obtain ⟨c2, p2, g2, l2⟩ := goes_all m (zs ++ [(q : Int)]) p1 (hless _ (by omega)) l1
        by_cases hc2 : c2 = 0
        · subst hc2
          by_cases hs : zs.length ≤ 12 ∧ p2.length < 200
          · exact ⟨0, _, .both (by omega) hq g1 g2 hs.1 hs.2, by simp; omega⟩
          · exact ⟨2, p2, .bothM (by omega) hq g1 g2 (by omega), l2⟩
        · exact ⟨c2, p2, .right (by omega) hq g1 g2 hc2, l2⟩
      · exact ⟨c1, p1, .left (by omega) hq g1 hc1, l1⟩
theorem goes_some (Z : List (List Int)) (nv : Nat) : ∃ c p', Goes Z nv [] [] c p' := by
 obtain ⟨c, p', h, _⟩ := goes_all (Z := Z) (nv := nv) (openN (allV []) (nv + 1) + 1) [] [] (Nat.lt_succ_self _) (Nat.zero_le _)
 exact ⟨c, p', h⟩
theorem steps_lits {v : Nat} {ss : List (Bool × List Int)} (h : stepsB (v : Int) ss = true) : ∀ x ∈ ss, ∀ z ∈ x.2, z ≠ 0 ∧ z.natAbs < v + 1 := fun x hx z hz => by
 unfold stepsB at h
 rw [Bool.and_eq_true, List.all_eq_true] at h
 have h2 := h.2 x hx
 unfold clauseB at h2
 rw [Bool.and_eq_true, List.all_eq_true] at h2
 have := (of_decide_eq_true (h2.2 z hz) : z ≠ 0 ∧ -(v : Int) ≤ z ∧ z ≤ v)
 exact ⟨this.1, by omega⟩
theorem lits_in {v : Nat} {Z : List (List Int)} (hz : cnfB (v : Int) Z = true) : LitsIn (v + 1) Z := cnf_in (by simpa using hz)
theorem check_none {v : Nat} {Z : List (List Int)} {ss : List (Bool × List Int)} {p c : Int} (hv : v ≤ 40) (hz : cnfB (v : Int) Z = true) (h : ChkAns (v : Int) Z ss p c) (hc : c = 0) : ¬ ∃ M, Mod Z (v + 1) M := by
 subst hc
 have h1 : ¬ 4096 < ss.length := fun h9 => by have := (h.long h9).2; omega
 have h2 : (cnfB (v : Int) Z && stepsB (v : Int) ss) = true := by
  cases h9 : (cnfB (v : Int) Z && stepsB (v : Int) ss) with
  | true => rfl
  | false => have := (h.bad h1 h9).2; omega
 have h3 := h.ok h1 h2
 rw [Bool.and_eq_true] at h2
 exact chk_none hv ss Z 0 p (lits_in hz) (steps_lits h2.2) h3
theorem right_steps {v : Nat} {ps : List Pt} (h : Right (v : Int) ps) (hl : ps.length ≤ 200) : stepsB (v : Int) (ps.map strip) = true := by
 unfold stepsB
 rw [List.length_map, decide_eq_true hl, Bool.true_and, List.all_eq_true]
 intro s hs
 obtain ⟨p, hp, rfl⟩ := List.mem_map.1 hs
 obtain ⟨h1, h2⟩ := h p hp
 unfold clauseB
 rw [Bool.and_eq_true, List.all_eq_true]
 exact ⟨decide_eq_true h1, h2⟩
theorem ref_checks {v : Nat} {Z : List (List Int)} {sts : List (List Int)} {p c : Int} (hv : v ≤ 40) (hz : cnfB (v : Int) Z = true) (hg : Goes Z v [] [] 0 sts) (hs : stepsB (v : Int) (sts.map fun z => (false, z)) = true) (h : ChkAns (v : Int) Z (sts.map fun z => (false, z)) p c) : c = 0 ∧ p = (sts.length : Int) - 1 := by
 obtain ⟨m, hm, hk⟩ := goes_checks hv (lits_in hz) hg
 have hl : ¬ 4096 < (sts.map fun z => (false, z)).length := by
  unfold stepsB at hs
  rw [Bool.and_eq_true] at hs
  have := (of_decide_eq_true hs.1 : (sts.map fun z => (false, z)).length ≤ 200)
  omega
 have h3 := h.ok hl (by rw [hz, hs]; rfl)
 have h4 := ChkR.uniq _ _ _ _ _ _ _ h3 hk
 omega
theorem ref_model {v : Nat} {Z : List (List Int)} {sts : List (List Int)} (hv : v ≤ 40) (hz : cnfB (v : Int) Z = true) (hg : Goes Z v [] [] 1 sts) : ∃ M, Mod Z (v + 1) M := goes_model hv (lits_in hz) hg
end Go.Proofs.YtmkhoocokpkojaaGreatDoor.proofsMath
namespace Go.Proofs.YtmkhoocokpkojaaGreatDoor.leastImpl
open Go.RowKit Go.Deep base copy rowsOwn runL leastSem
open runS (ValRow setV openN open_set open_le)
set_option linter.unusedVariables false
def valsL (V : Nat → Int) (n : Nat) : List Int := (List.range n).map V
theorem vals_len (V : Nat → Int) (n : Nat) : (valsL V n).length = n := by simp [valsL]
theorem vals_at (V : Nat → Int) {n i : Nat} (h : i < n) : (valsL V n)[i]?.getD 0 = V i := by simp [valsL, h]
theorem vals_news {w : World} {b n : Nat} {V : Nat → Int} (h : ValRow w b n V) : ∀ i u, ((valsL V n).map (Value.int .i64))[i]? = some u → w.cell? ((⟨b, 0, none⟩ : Addr).add i) = some u := fun i u hu => by
 have hi : i < n := by
  have := (List.getElem?_eq_some_iff.1 hu).1
  simpa [valsL] using this
 have e : (⟨b, 0, none⟩ : Addr).add i = ⟨b, 0 + i, none⟩ := by unfold Addr.add; split <;> simp_all
 rw [e, Nat.zero_add, (h.cell i hi).1]
 rw [← hu]
 simp [valsL, hi]
theorem vals_own {B g n c : Nat} {w : World} {V : Nat → Int} (h : OwnInts B w (.slice (some ⟨g, 0, none⟩) n c) (valsL V n)) (hr : Rng V n) : ValRow w g n V :=
 ⟨fun i hi => by
  obtain ⟨h1, h2⟩ := (own_holds h).2 i hi
  rw [Nat.zero_add, vals_at V hi] at h1
  rw [Nat.zero_add] at h2
  exact ⟨h1, h2⟩, hr⟩
theorem one_ints (zs : List Int) : ∀ u ∈ zs.map (Value.int .i64), u.oneCell' = true := fun u hu => by
 obtain ⟨z, _, rfl⟩ := List.mem_map.1 hu
 rfl
def LEnds (Z : List (List Int)) (n : Nat) (V : Nat → Int) (w : World) (e : Ending) (w' : World) : Prop :=
 (∃ g c M, e = .returned (.tuple #[.slice (some ⟨g, 0, none⟩) n c, .bool true]) ∧ ValRow w' g n M ∧ Least Z n V M ∧ Below w.heap.size w w') ∨ (e = .returned (.tuple #[.slice none 0 0, .bool false]) ∧ None_ Z n V ∧ Below w.heap.size w w')
set_option maxRecDepth 100000 in
set_option maxHeartbeats 6400000 in
theorem least_spec (B n : Nat) (a : Option Addr) (len cap : Nat) (psZ : List (Value × List Int)) (hn1 : 1 ≤ n) (hn : n ≤ 41) (hl : Lits (psZ.map (·.2)) n) :
  ∀ (m b c : Nat) (V : Nat → Int) (w : World), openN V n < m → OwnRows B w (.slice a len cap) psZ → ValRow w b n V →
   Calls Tryz.prog 27 #[.slice a len cap, .slice (some ⟨b, 0, none⟩) n c] w fun e w' => LEnds (psZ.map (·.2)) n V w e w' := by
 obtain ⟨i0, hi, hzz⟩ := Option.map_eq_some_iff.1 Tryz.info_int
 simp only [Prod.mk.injEq] at hzz
 obtain ⟨hz0, hz1, hz2⟩ := hzz
 have HI := hid hi
 have HZ0 := hid hz0
 have HZ1 := hid hz1
 have HZ2 := hid hz2
 clear hi hz0 hz1 hz2
 have HLi := hid hl
 obtain ⟨Z, hZ⟩ : ∃ Z, psZ.map (·.2) = Z := ⟨_, rfl⟩
 rw [hZ] at HLi ⊢
 have HZe := hid hZ
 clear hl hZ
 intro m
 induction m with
 | zero => intro b c V w h; exact absurd h (Nat.not_lt_zero _)
 | succ m ih =>
  intro b c V w hop hrows hv
  have HIh := hid ih
  have HOp := hid hop
  have HRows := hid hrows
  have HNews := hid (fun o => vals_news (vals_keep hv ((show Below w.heap.size w (w.alloc o) from (by repeat (first | exact Below.refl _ _ | assumption | refine Below.drew ?_ | refine Below.alloc ?_ (by first | exact Nat.le_refl _ | omega | (simp; done) | (simp; omega)) _ | refine Below.setCell ?_ (by first | exact Nat.le_refl _ | omega | (simp; done) | (simp; omega)) _))).block b (World.block_lt_of_cell? _ _ (hv.cell 0 (by omega)).1))))
  have HRng := hid hv.range
  clear ih hop hrows hv
  go_enter Tryz.func27, Tryz.ntmps27
  go_wp2_with (at_builtin; (refine wpList_append_own _ rfl _ _ 52 rfl w.heap.size 3 i0 (.int .i64 0) 1 8 Tryz.underlying52 HI.out HZ0.out HZ1.out HZ2.out rfl (by decide) _ _ _ rfl (cnfDraw.own_new w rfl (Nat.le_refl _)) ⟨b, 0, none⟩ n c ((valsL V n).map (.int .i64)) rfl (by rw [List.length_map, vals_len, Nat.mul_one]) (HNews.out _) (one_ints _) (by unfold maxLen; omega) (by omega) (by simp) ?_); intro v1 w1 hown1 hg1 hnil1)
  have hba : Below w.heap.size w (w.alloc (.cells #[] 3)) := (by repeat (first | exact Below.refl _ _ | assumption | refine Below.drew ?_ | refine Below.alloc ?_ (by first | exact Nat.le_refl _ | omega | (simp; done) | (simp; omega)) _ | refine Below.setCell ?_ (by first | exact Nat.le_refl _ | omega | (simp; done) | (simp; omega)) _))
  have HB1 : Hid (Below w.heap.size w w1) := hid (hba.grown hg1 hba.size (fun j e => by have e' : some w.heap.size = some j := e; injection e' with e'; omega))
  have HO1 : Hid (OwnInts w.heap.size w1 v1 (valsL V n)) := hid (by
   unfold OwnInts
   rw [vals_len]
   simpa using hown1)
  obtain ⟨vb, vc, hv1, hvb, hvl⟩ : ∃ g c, v1 = .slice (some ⟨g, 0, none⟩) n c ∧ w.heap.size ≤ g ∧ g < w1.heap.size := by
   rcases HO1.out.2 with ⟨e, h0⟩ | ⟨g, cp, cur, e, h1, h2, _⟩
   · rw [vals_len] at h0; omega
   · rw [vals_len] at e
     exact ⟨g, cp, e, h1, (Array.getElem?_eq_some_iff.1 h2).1⟩
  subst hv1
  have hvr1 := vals_own HO1.out HRng.out
  have HRun := hid (run_spec a len cap vb n vc Z V w1 (fun w' hg => by
   rw [← HZe.out]
   exact rows_of_own (HRows.out.below (HB1.out.grown hg HB1.out.size (fun j e => by injection e with e; omega)))) hvr1 hvl (fun zs' hz' z hz => (HLi.out zs' hz' z hz).2) hn)
  have HSn : Hid (∀ M', Mod Z n M' → Ext V M' n → (runF (n + 1) Z V []).2.1 = -1 ∧ Ext (runF (n + 1) Z V []).2.2 M' n) := hid (fun M' h1 h2 => run_sound HLi.out _ _ _ M' h1 h2)
  have HSa : Hid (∀ i, V i ≠ 0 → (runF (n + 1) Z V []).2.2 i = V i) := hid (fun i h => run_same _ _ _ i h)
  have HRg : Hid (Rng (runF (n + 1) Z V []).2.2 n) := hid (run_rng _ _ _ HRng.out)
  have HOn : Hid ((runF (n + 1) Z V []).2.1 < 0 → ∀ c ∈ Z, (runS.clS (runF (n + 1) Z V []).2.2 c 0 0).1 = true ∨ (runS.clS (runF (n + 1) Z V []).2.2 c 0 0).2.1 ≠ 0) := hid (run_open HLi.out _ _ _ (by have := open_most V n; omega))
  have HOl : Hid (openN (runF (n + 1) Z V []).2.2 n ≤ openN V n) := hid (open_le n (fun i _ h => by rw [run_same _ _ _ i h]; exact h))
  generalize runF (n + 1) Z V [] = R at *
  obtain ⟨Ro, Ra, V'⟩ := R
  simp only at HRun HSn HSa HRg HOn HOl
  clear hown1 hg1 hnil1 hba hvr1 HNews HO1
  go_wp2_with fail
  refine HRun.out.mono ?_
  rintro e w2 ⟨ov, rfl, -, hv2, hg2⟩
  have HB2 : Hid (Below w.heap.size w w2) := hid (HB1.out.grown hg2 HB1.out.size (fun j e => by injection e with e; omega))
  have HV2 := hid hv2
  have hvl2 : vb < w2.heap.size := Nat.lt_of_lt_of_le hvl hg2.size
  clear hv2 hg2 HRun
  by_cases hat : 0 ≤ Ra
  · go_wp2
    go_ret2
    exact .inr ⟨rfl, (fun M' h1 h2 => by have := (HSn.out M' h1 h2).1; omega), HB2.out⟩
  · have hat' : ¬ (0 : Int) ≤ Ra := hat
    have HOn2 := hid (HOn.out (by omega))
    go_wp2
    go_loop [9] (fun i => ∃ q : Nat, 1 ≤ q ∧ q ≤ n ∧ i = .int .i64 q ∧ ∀ j, 1 ≤ j → j < q → V' j ≠ 0) (fun i => n - (intOf i).toNat)
    case atStart => exact ⟨1, Nat.le_refl _, hn1, rfl, (fun j h1 h2 => by omega)⟩
    case round =>
     obtain ⟨q, hq1, hq2, rfl, hbf⟩ := hrel
     have HBf := hid hbf
     clear hbf
     by_cases hlt : q < n
     · obtain ⟨hc, hf⟩ := HV2.out.cell q hlt
       have hqi : (q : Int) < (n : Int) := by omega
       by_cases hv0 : V' q = 0
       · rw [hv0] at hc
         have HV0 := hid hv0
         have HLow : Hid (ValRow (w2.setCell ⟨vb, q, none⟩ (.int .i64 (-1))) vb n (setV V' (-(q : Int)))) := hid (by
          have h9 := HV2.out.set (z := -(q : Int))
          rw [if_neg (by omega)] at h9
          have e9 : (-(q : Int)).natAbs = q := by omega
          rw [e9] at h9
          exact h9)
         have HB3 : Hid (Below w.heap.size w (w2.setCell ⟨vb, q, none⟩ (.int .i64 (-1)))) := hid (HB2.out.setCell (by show w.heap.size ≤ vb; exact hvb) _)
         have hvl3 : vb < (w2.setCell ⟨vb, q, none⟩ (.int .i64 (-1))).heap.size := by simpa [World.setCell] using hvl2
         have HI1 := hid (HIh.out vb vc (setV V' (-(q : Int))) _ (by
          have h8 := open_set (V := V') (z := -(q : Int)) n (by omega) (by rw [show (-(q : Int)).natAbs = q by omega]; exact HV0.out)
          have := HOp.out
          have := HOl.out
          omega) (HRows.out.below HB3.out) HLow.out)
         clear hv0
         go_wp2_with fail
         obtain ⟨w3, hw3⟩ : ∃ w3, w2.setCell ⟨vb, q, none⟩ (.int .i64 (-1)) = w3 := ⟨_, rfl⟩
         rw [hw3] at HLow HB3 hvl3 HI1 ⊢
         clear hw3
         refine HI1.out.mono ?_
         rintro e w4 (⟨g4, c4, M4, rfl, hv4, hl4, hb4⟩ | ⟨rfl, hno, hb4⟩)
         · have HV4 := hid hv4
           have HL4 := hid (least_low (fun M' h1 h2 => (HSn.out M' h1 h2).2) HSa.out hq1 hlt HBf.out HV0.out hl4)
           have HB4 := hid (HB3.out.trans (hb4.mono HB3.out.size))
           clear hv4 hl4 hb4
           go_wp2
           go_ret2
           exact .inl ⟨g4, c4, M4, rfl, HV4.out, HL4.out, HB4.out⟩
         · have HNo := hid hno
           have HB4 := hid (HB3.out.trans (hb4.mono HB3.out.size))
           have HV4 := hid (vals_keep HLow.out (hb4.block vb hvl3))
           have hvl4 : vb < w4.heap.size := Nat.lt_of_lt_of_le hvl3 hb4.size
           obtain ⟨hc4, hf4⟩ := HV4.out.cell q hlt
           have HHi : Hid (ValRow (w4.setCell ⟨vb, q, none⟩ (.int .i64 1)) vb n (setV V' (q : Int))) := hid (by
            have h9 := HV4.out.set (z := (q : Int))
            rw [if_pos (by omega), Int.natAbs_natCast, set_two] at h9
            exact h9)
           have HB5 : Hid (Below w.heap.size w (w4.setCell ⟨vb, q, none⟩ (.int .i64 1))) := hid (HB4.out.setCell (by show w.heap.size ≤ vb; exact hvb) _)
           have HI2 := hid (HIh.out vb vc (setV V' (q : Int)) _ (by
            have h8 := open_set (V := V') (z := (q : Int)) n (by omega) (by rw [Int.natAbs_natCast]; exact HV0.out)
            have := HOp.out
            have := HOl.out
            omega) (HRows.out.below HB5.out) HHi.out)
           clear hno hb4 HI1
           go_wp2_with fail
           refine HI2.out.mono ?_
           rintro e w6 (⟨g6, c6, M6, rfl, hv6, hl6, hb6⟩ | ⟨rfl, hno6, hb6⟩)
           · have HV6 := hid hv6
             have HL6 := hid (least_high (fun M' h1 h2 => (HSn.out M' h1 h2).2) HSa.out hq1 hlt HV0.out HNo.out hl6)
             have HB6 := hid (HB5.out.trans (hb6.mono HB5.out.size))
             clear hv6 hl6 hb6
             go_wp2
             go_ret2
             exact .inl ⟨g6, c6, M6, rfl, HV6.out, HL6.out, HB6.out⟩
           · have HN6 := hid (none_both (fun M' h1 h2 => (HSn.out M' h1 h2).2) hq1 hlt HNo.out hno6)
             have HB6 := hid (HB5.out.trans (hb6.mono HB5.out.size))
             clear hno6 hb6
             go_wp2
             go_ret2
             exact .inr ⟨rfl, HN6.out, HB6.out⟩
       · have hvq : (V' q == 0) = false := beq_eq_false_iff_ne.2 hv0
         have hvq' : (V' q != 0) = true := by simp [hv0]
         go_wp2
         go_round
         case rel => exact ⟨q + 1, by omega, by omega, by go_num, fun j h1 h2 => by
          rcases Nat.lt_or_ge j q with h3 | h3
          · exact HBf.out j h1 h3
          · have : j = q := by omega
            subst this
            exact hv0⟩
         case measure => simp [intOf]; omega
     · have e : q = n := by omega
       have HW := hid (least_whole (fun M' h1 h2 => (HSn.out M' h1 h2).2) HSa.out (fun i a b => HBf.out i a (by omega)) (whole_model HLi.out HRg.out (fun i a b => HBf.out i a (by omega)) HOn2.out))
       have hqi : ¬ (q : Int) < (n : Int) := by omega
       clear e
       go_wp2
       go_ret2
       exact .inl ⟨vb, vc, V', rfl, HV2.out, HW.out, HB2.out⟩
end Go.Proofs.YtmkhoocokpkojaaGreatDoor.leastImpl
namespace Go.Proofs.YtmkhoocokpkojaaGreatDoor.nodes
open Go.RowKit Go.Deep base
set_option linter.unusedVariables false
def OwnBools (B : Nat) (w : World) (v : Value) (zs : List Bool) : Prop := w.ownsRow B 4 1 v zs.length (zs.map Value.bool)
theorem OwnBools.form {B L : Nat} {w : World} {v : Value} {zs : List Bool} (h : OwnBools B w v zs) (hL : zs.length = L) : ∃ a cap, v = .slice a L cap ∧ BoolRow w a L zs := by
 subst hL
 obtain ⟨h1, h2⟩ := h
 rcases h2 with ⟨rfl, hn⟩ | ⟨g, cap, cur, rfl, hb, hh, hn, hm, hs, ht⟩
 · exact ⟨none, 0, by rw [hn], ⟨rfl, by rw [hn]; exact Nat.zero_le _, fun i hi => by omega⟩⟩
 · refine ⟨some ⟨g, 0, none⟩, cap, rfl, ⟨rfl, Nat.le_trans hn hm, fun i hi => ⟨g, 0, rfl, ?_⟩⟩⟩
   have h3 : cur[i]? = some (.bool (zs[i]?.getD false)) := by
    have : (cur.toList.take (zs.length * 1))[i]? = (zs.map Value.bool)[i]? := by rw [ht]
    rw [List.getElem?_take, if_pos (by omega)] at this
    rw [← Array.getElem?_toList, this, List.getElem?_map, List.getElem?_eq_getElem hi]
    rfl
   simp [World.cell?, hh, h3]
theorem OwnBools.below {B : Nat} {W w1 : World} {v : Value} {zs : List Bool} (h : OwnBools B W v zs) (hb : Below W.heap.size W w1) : OwnBools B w1 v zs := by
 obtain ⟨h1, h2⟩ := h
 refine ⟨h1, ?_⟩
 rcases h2 with h2 | ⟨g, cap, cur, e, hg, hh, hn, hm, hs, ht⟩
 · exact .inl h2
 · exact .inr ⟨g, cap, cur, e, hg, by rw [hb.block g (Array.getElem?_eq_some_iff.1 hh).1]; exact hh, hn, hm, hs, ht⟩
theorem grown_below {B N : Nat} {w w1 w2 : World} {v : Value} {zs : List Bool} (h : OwnBools B w1 v zs) (hb : Below N w w1) (hN : N ≤ B) (hB : B ≤ w1.heap.size) (hg : w1.grownBy w2 v.ownBlock) : Below N w w2 :=
 hb.grown hg (Nat.le_trans hN hB) (fun k hk => Nat.le_trans hN (World.ownsRow.lt h k hk).1)
theorem OwnBools.mono {B B' : Nat} {w : World} {v : Value} {zs : List Bool} (h : OwnBools B w v zs) (hB : B' ≤ B) : OwnBools B' w v zs := by
 obtain ⟨h1, h2⟩ := h
 refine ⟨h1, ?_⟩
 rcases h2 with h2 | ⟨g, cap, cur, e, hg, h3⟩
 · exact .inl h2
 · exact .inr ⟨g, cap, cur, e, Nat.le_trans hB hg, h3⟩
theorem OwnBools.one (B : Nat) (w : World) (b : Bool) (hB : B ≤ w.heap.size) : OwnBools B (w.alloc (.cells #[.bool b] 4)) (.slice (some ⟨w.heap.size, 0, none⟩) 1 1) [b] :=
 ⟨rfl, .inr ⟨w.heap.size, 1, #[.bool b], rfl, hB, heap_alloc_new w _, Nat.le_refl _, by unfold maxLen; omega, rfl, rfl⟩⟩
theorem OwnBools.nil (B : Nat) (w : World) : OwnBools B w (.slice none 0 0) [] := ⟨rfl, .inl ⟨rfl, rfl⟩⟩
theorem OwnBools.zero (B : Nat) (w : World) (hB : B ≤ w.heap.size) : OwnBools B (w.alloc (.cells #[] 4)) (.slice (some ⟨w.heap.size, 0, none⟩) 0 0) [] :=
 ⟨rfl, .inr ⟨w.heap.size, 0, #[], rfl, hB, heap_alloc_new w _, Nat.le_refl _, Nat.zero_le _, rfl, rfl⟩⟩
theorem OwnBools.add {B : Nat} {w : World} {v : Value} {zs ys : List Bool} {n m : Nat} (h : w.ownsRow B 4 1 v (n + m) (zs.map Value.bool ++ ys.map Value.bool)) (hn : zs.length = n) (hm : ys.length = m) : OwnBools B w v (zs ++ ys) := by
 unfold OwnBools
 rw [List.length_append, List.map_append, hn, hm]
 exact h
theorem row_cells {w : World} {g n : Nat} {zs : List Bool} (h : BoolRow w (some ⟨g, 0, none⟩) n zs) {w1 : World} (hb : Below w.heap.size w w1) : ∀ i u, (zs.map Value.bool)[i]? = some u → w1.cell? ((⟨g, 0, none⟩ : Addr).add i) = some u := fun i u hu => by
 rw [List.getElem?_map] at hu
 by_cases hi : i < n
 · obtain ⟨b, o, e, hc⟩ := h.cell i hi
   cases e
   rw [List.getElem?_eq_getElem (by rw [h.length]; omega)] at hu hc
   simp at hu
   subst hu
   have e2 : ((⟨g, 0, none⟩ : Addr).add i) = ⟨g, 0 + i, none⟩ := by
    by_cases e : i = 0
    · subst e; rfl
    · simp [Addr.add, e]
   rw [e2]
   exact keep hb hc
 · rw [List.getElem?_eq_none (by rw [h.length]; omega)] at hu
   simp at hu
theorem info_bool : (Tryz.prog.info? 4).map (fun i => (i.zero, i.size, i.bytes)) = some (some (.bool false), 1, 1) := by kernel_rfl
end Go.Proofs.YtmkhoocokpkojaaGreatDoor.nodes
