/- SolRun; ShelfS: one text, so that the claim has fewer files. -/
import Derived.Test.YtpfecijahiikhaaGreatDoorPart5
import Derived.Test.YtpfecijahiikhaaGreatDoorLeastSem
import Derived.Shelf.Lays2
import Derived.Shelf.Lays7
import Derived.Test.YtpfecijahiikhaaGreatDoorProg
/- What a solver's state comes to is what the specification's run tells: the literals that follow, as they come, and the first clause that is false; conditions: literals of at most 40 variables. -/
namespace Go.Proofs.YtpfecijahiikhaaGreatDoor.solRun
open sets solSets solMath solHold solProp runS runL leastSem
set_option linter.unusedVariables false
set_option linter.unusedSimpArgs false

def Agree (V : Nat → Int) (H : LS) : Prop := ∀ z : Int, z ≠ 0 → -40 ≤ z → z ≤ 40 → runS.valOf V z = if mem H z = true then 1 else if mem H (-z) = true then -1 else 0
def Lit40 (zs : List Int) : Prop := ∀ z ∈ zs, z ≠ 0 ∧ z.natAbs < 41
theorem cl_zero {V : Nat → Int} : ∀ (c : List Int) (o u : Int), (clS V c o u).1 = false → (∀ z ∈ c, runS.valOf V z ≠ 0) → (clS V c o u).2.1 = o
  | [], o, u, _, _ => rfl
  | z :: c, o, u, h, hz => by
    unfold clS at h ⊢
    by_cases h1 : runS.valOf V z = 1
    · rw [if_pos h1] at h; cases h
    · rw [if_neg h1] at h ⊢
      rw [if_neg (fun e => hz z (by simp) e.1)] at h ⊢
      exact cl_zero c o u h (fun y hy => hz y (by simp [hy]))
theorem cl_same {V : Nat → Int} {x : Int} : ∀ (c : List Int) (o : Int), (clS V c o x).1 = false → (∀ z ∈ c, runS.valOf V z = 0 → z = x) → clS V c o x = (false, o, x)
  | [], o, _, _ => rfl
  | z :: c, o, h, hz => by
    unfold clS at h ⊢
    by_cases h1 : runS.valOf V z = 1
    · rw [if_pos h1] at h; cases h
    · rw [if_neg h1] at h ⊢
      rw [if_neg (fun e => e.2 (hz z (by simp) e.1).symm)] at h ⊢
      exact cl_same c o h (fun y hy => hz y (by simp [hy]))
theorem cl_uni {V : Nat → Int} {x : Int} : ∀ (c : List Int) (o u : Int), (clS V c o u).1 = false → u ≠ x → (∀ z ∈ c, runS.valOf V z = 0 → z = x) → (∃ z ∈ c, runS.valOf V z = 0) → clS V c o u = (false, o + 1, x)
  | [], o, u, _, _, _, h => by obtain ⟨z, hz, _⟩ := h; cases hz
  | z :: c, o, u, h, hu, hz, hex => by
    unfold clS at h ⊢
    by_cases h1 : runS.valOf V z = 1
    · rw [if_pos h1] at h; cases h
    · rw [if_neg h1] at h ⊢
      by_cases h2 : runS.valOf V z = 0
      · have e := hz z (by simp) h2
        subst e
        rw [if_pos ⟨h2, hu⟩] at h ⊢
        exact cl_same c (o + 1) h (fun y hy => hz y (by simp [hy]))
      · rw [if_neg (fun e => h2 e.1)] at h ⊢
        refine cl_uni c o u h hu (fun y hy => hz y (by simp [hy])) ?_
        obtain ⟨y, hy, hv⟩ := hex
        rcases List.mem_cons.1 hy with rfl | hy
        · exact absurd hv h2
        · exact ⟨y, hy, hv⟩
section
variable {V : Nat → Int} {H : LS} {zs : List Int}
theorem lit_rng (hz : Lit40 zs) {z : Int} (h : z ∈ zs) : z ≠ 0 ∧ -40 ≤ z ∧ z ≤ 40 := by have := hz z h; omega
theorem mem_zs (hz : Lit40 zs) (l : Int) : mem (setL zs) l = true ↔ l ∈ zs := by
  rw [mem_set (fun z h => (hz z h).1)]
  simp
theorem val_one (ha : Agree V H) (hz : Lit40 zs) {z : Int} (h : z ∈ zs) : runS.valOf V z = 1 ↔ mem H z = true := by
  obtain ⟨h0, h1, h2⟩ := lit_rng hz h
  rw [ha z h0 h1 h2]
  by_cases e : mem H z = true
  · simp [e]
  · rw [if_neg e]
    split <;> simp [e]
theorem val_open (ha : Agree V H) (hz : Lit40 zs) {z : Int} (h : z ∈ zs) : runS.valOf V z = 0 ↔ mem H z = false ∧ mem H (-z) = false := by
  obtain ⟨h0, h1, h2⟩ := lit_rng hz h
  rw [ha z h0 h1 h2]
  by_cases e : mem H z = true
  · simp [e]
  · rw [if_neg e]
    by_cases e2 : mem H (-z) = true
    · simp [e2]
    · simp [e2, e]
theorem cl_meet (ha : Agree V H) (hz : Lit40 zs) : (clS V zs 0 0).1 = meetL (setL zs) H := by
  cases hc : (clS V zs 0 0).1
  · cases hm : meetL (setL zs) H
    · rfl
    · obtain ⟨l, h1, h2⟩ := (meet_iff (wf_set hz)).1 hm
      have hl := (mem_zs hz l).1 h1
      exact absurd ((val_one ha hz hl).2 h2) (cl_not zs 0 0 hc l hl)
  · obtain ⟨z, hz1, hv⟩ := cl_true zs 0 0 hc
    exact ((meet_iff (wf_set hz)).2 ⟨z, (mem_zs hz z).2 hz1, (val_one ha hz hz1).1 hv⟩).symm
theorem rest_open (ha : Agree V H) (hH : Wf H) (hz : Lit40 zs) (hm : meetL (setL zs) H = false) (l : Int) : mem (restL (setL zs) H) l = true ↔ l ∈ zs ∧ runS.valOf V l = 0 := by
  rw [mem_rest (wf_set hz) hH, Bool.and_eq_true, mem_zs hz]
  constructor
  · rintro ⟨h1, h2⟩
    exact ⟨h1, (val_open ha hz h1).2 ⟨meet_false (wf_set hz) hm ((mem_zs hz l).2 h1), by simpa using h2⟩⟩
  · rintro ⟨h1, h2⟩
    exact ⟨h1, by rw [((val_open ha hz h1).1 h2).2]; rfl⟩
theorem cl_none (ha : Agree V H) (hH : Wf H) (hz : Lit40 zs) (hm : meetL (setL zs) H = false) : (clS V zs 0 0).2.1 = 0 ↔ restL (setL zs) H = (0, 0) := by
  have hf : (clS V zs 0 0).1 = false := by rw [cl_meet ha hz]; exact hm
  constructor
  · intro h
    refine (zero_iff (wf_rest (wf_set hz) _)).2 fun l => ?_
    cases hl : mem (restL (setL zs) H) l
    · rfl
    · obtain ⟨h1, h2⟩ := (rest_open ha hH hz hm l).1 hl
      exact absurd ((cl_count zs 0 0 hf).2 h |>.2 l h1 h2) (hz l h1).1
  · intro h
    refine cl_zero zs 0 0 hf fun z hz1 hv => ?_
    have := (rest_open ha hH hz hm z).2 ⟨hz1, hv⟩
    rw [h, mem_zero] at this
    cases this
theorem cl_unit1 (ha : Agree V H) (hH : Wf H) (hz : Lit40 zs) (hm : meetL (setL zs) H = false) {x : Int} (hx : x ≠ 0) (hr : restL (setL zs) H = onlyL x) : clS V zs 0 0 = (false, 1, x) := by
  have hf : (clS V zs 0 0).1 = false := by rw [cl_meet ha hz]; exact hm
  have hxr : mem (restL (setL zs) H) x = true := by rw [hr, mem_only hx]; simp
  obtain ⟨h1, h2⟩ := (rest_open ha hH hz hm x).1 hxr
  refine cl_uni zs 0 0 hf (fun e => hx e.symm) (fun z hz1 hv => ?_) ⟨x, h1, h2⟩
  have := (rest_open ha hH hz hm z).2 ⟨hz1, hv⟩
  rw [hr, mem_only hx, decide_eq_true_eq] at this
  exact this.symm
theorem cl_unit2 (ha : Agree V H) (hH : Wf H) (hz : Lit40 zs) (hm : meetL (setL zs) H = false) (h1 : (clS V zs 0 0).2.1 = 1) : ∃ x, x ≠ 0 ∧ restL (setL zs) H = onlyL x := by
  have hf : (clS V zs 0 0).1 = false := by rw [cl_meet ha hz]; exact hm
  obtain ⟨m1, m2⟩ := clS_false hf h1
  obtain ⟨r0, r1, r2⟩ := lit_rng hz m1
  refine ⟨_, r0, ls_ext (wf_rest (wf_set hz) _) (wf_only r0 r1 r2) fun l => ?_⟩
  rw [Bool.eq_iff_iff, rest_open ha hH hz hm, mem_only r0, decide_eq_true_eq]
  constructor
  · rintro ⟨a, b⟩
    exact (cl_one zs 0 (fun z h => (hz z h).1) hf h1 rfl l a b).symm
  · rintro rfl
    refine ⟨m1, ?_⟩
    unfold runS.valOf
    rw [m2]
    split <;> rfl
end
/-- Of a clause: it is not true, and all its literals are false. -/
def Nul (H : LS) (zs : List Int) : Prop := meetL (setL zs) H = false ∧ restL (setL zs) H = (0, 0)
def Uni (H : LS) (zs : List Int) (x : Int) : Prop := meetL (setL zs) H = false ∧ x ≠ 0 ∧ restL (setL zs) H = onlyL x
section
variable {V : Nat → Int} {H : LS}
theorem scan_nul (ha : Agree V H) (hH : Wf H) : ∀ (Z : List (List Int)) (i u : Int) (p : Nat), (∀ zs ∈ Z, Lit40 zs) → p < Z.length → Nul H (Z[p]?.getD []) → (∀ q, q < p → ¬ Nul H (Z[q]?.getD [])) → (scanS V Z i u).1 = i + p
  | [], i, u, p, _, hp, _, _ => by simp at hp
  | c :: r, i, u, p, hz, hp, hn, hq => by
    have hzc := hz c (by simp)
    unfold scanS
    rw [cl_meet ha hzc]
    cases p with
    | zero =>
      have hn : Nul H c := hn
      rw [if_neg (by rw [hn.1]; decide), if_pos ((cl_none ha hH hzc hn.1).2 hn.2)]
      simp
    | succ p =>
      have h0 : ¬ Nul H c := hq 0 (by omega)
      have ih : ∀ v, (scanS V r (i + 1) v).1 = i + 1 + p := fun v => scan_nul ha hH r (i + 1) v p (fun zs h => hz zs (by simp [h])) (by simpa using hp) hn (fun q hq1 => hq (q + 1) (by omega))
      by_cases hm : meetL (setL c) H = true
      · rw [if_pos hm, ih]; simp; omega
      · have hm' : meetL (setL c) H = false := by simpa using hm
        rw [if_neg hm, if_neg (fun e => h0 ⟨hm', (cl_none ha hH hzc hm').1 e⟩), ih]; simp; omega
theorem scan_no (ha : Agree V H) (hH : Wf H) : ∀ (Z : List (List Int)) (i u : Int), (∀ zs ∈ Z, Lit40 zs) → (∀ zs ∈ Z, ¬ Nul H zs) → (scanS V Z i u).1 = -1 ∧ (u ≠ 0 → (scanS V Z i u).2 = u) ∧ ((∀ zs ∈ Z, ∀ x, ¬ Uni H zs x) → (scanS V Z i u).2 = u)
  | [], i, u, _, _ => ⟨rfl, fun _ => rfl, fun _ => rfl⟩
  | c :: r, i, u, hz, hn => by
    have hzc := hz c (by simp)
    have ih := fun v => scan_no ha hH r (i + 1) v (fun zs h => hz zs (by simp [h])) (fun zs h => hn zs (by simp [h]))
    unfold scanS
    rw [cl_meet ha hzc]
    by_cases hm : meetL (setL c) H = true
    · rw [if_pos hm]
      exact ⟨(ih u).1, (ih u).2.1, fun h => (ih u).2.2 (fun zs hm => h zs (by simp [hm]))⟩
    · have hm' : meetL (setL c) H = false := by simpa using hm
      rw [if_neg hm, if_neg (fun e => hn c (by simp) ⟨hm', (cl_none ha hH hzc hm').1 e⟩)]
      by_cases h1 : (clS V c 0 0).2.1 = 1 ∧ u = 0
      · rw [if_pos h1]
        refine ⟨(ih _).1, fun hu => absurd h1.2 hu, fun h => ?_⟩
        obtain ⟨x, hx, hr⟩ := cl_unit2 ha hH hzc hm' h1.1
        exact absurd ⟨hm', hx, hr⟩ (h c (by simp) x)
      · rw [if_neg h1]
        exact ⟨(ih u).1, (ih u).2.1, fun h => (ih u).2.2 (fun zs hm => h zs (by simp [hm]))⟩
theorem scan_uni (ha : Agree V H) (hH : Wf H) : ∀ (Z : List (List Int)) (i : Int) (p : Nat) (x : Int), (∀ zs ∈ Z, Lit40 zs) → (∀ zs ∈ Z, ¬ Nul H zs) → p < Z.length → Uni H (Z[p]?.getD []) x → (∀ q, q < p → ∀ y, ¬ Uni H (Z[q]?.getD []) y) → (scanS V Z i 0).2 = x
  | [], i, p, x, _, _, hp, _, _ => by simp at hp
  | c :: r, i, p, x, hz, hn, hp, hu, hq => by
    have hzc := hz c (by simp)
    have hzr : ∀ zs ∈ r, Lit40 zs := fun zs h => hz zs (by simp [h])
    have hnr : ∀ zs ∈ r, ¬ Nul H zs := fun zs h => hn zs (by simp [h])
    unfold scanS
    rw [cl_meet ha hzc]
    cases p with
    | zero =>
      have hu : Uni H c x := hu
      have e := cl_unit1 ha hH hzc hu.1 hu.2.1 hu.2.2
      rw [if_neg (by rw [hu.1]; decide), e]
      simp only [Int.reduceEq, if_false, and_self, if_true]
      exact (scan_no ha hH r (i + 1) x hzr hnr).2.1 hu.2.1
    | succ p =>
      have ih := scan_uni ha hH r (i + 1) p x hzr hnr (by simpa using hp) hu (fun q hq1 => hq (q + 1) (by omega))
      by_cases hm : meetL (setL c) H = true
      · rw [if_pos hm]; exact ih
      · have hm' : meetL (setL c) H = false := by simpa using hm
        rw [if_neg hm, if_neg (fun e => hn c (by simp) ⟨hm', (cl_none ha hH hzc hm').1 e⟩)]
        have h1 : ¬ ((clS V c 0 0).2.1 = 1 ∧ (0 : Int) = 0) := fun h1 => by
          obtain ⟨y, hy, hr⟩ := cl_unit2 ha hH hzc hm' h1.1
          exact hq 0 (by omega) y ⟨hm', hy, hr⟩
        rw [if_neg h1]; exact ih
end
theorem agree_set {V : Nat → Int} {H : LS} {x : Int} (ha : Agree V H) (hx : x ≠ 0) (h0 : -40 ≤ x) (h1 : x ≤ 40) (no : mem H (-x) = false) : Agree (runS.setV V x) (withL H (onlyL x)) := fun z hz z0 z1 => by
  rw [mem_held hx, mem_held hx]
  have hv := ha z hz z0 z1
  unfold runS.valOf runS.setV at *
  by_cases e : x = z
  · subst e
    simp
    split <;> split <;> omega
  · by_cases e2 : x = -z
    · subst e2
      rw [Int.neg_neg] at no
      rw [no]
      simp [e]
      split <;> first | omega | (split <;> omega)
    · have hne : ¬ z.natAbs = x.natAbs := by omega
      rw [if_neg hne, hv]
      simp [e, e2]
theorem agree_hold {V : Nat → Int} {H : LS} {x : Int} (ha : Agree V H) (hx : x ≠ 0) (h0 : -40 ≤ x) (h1 : x ≤ 40) (no : mem H x = false ∧ mem H (-x) = false) : Agree (runS.setV V x) (withL H (onlyL x)) := agree_set ha hx h0 h1 no.2
theorem full_false {s : Sv} (h : Full s) {i : Nat} (hi : i < s.C.length) (hr : restL (s.cl i) s.H = (0, 0)) : meetL (s.cl i) s.H = false := by
  cases hm : meetL (s.cl i) s.H
  · rfl
  · obtain ⟨l, h1, h2⟩ := (meet_iff (h.ok.wfC i)).1 hm
    have : mem (restL (s.cl i) s.H) l = true := by rw [mem_rest (h.ok.wfC i) h.ok.wfH, h1, h.ok.cons l h2]; rfl
    rw [hr, mem_zero] at this
    cases this
theorem cl_of {s : Sv} {Z : List (List Int)} (hC : s.C = Z.map setL) {i : Nat} (hi : i < Z.length) : s.cl i = setL (Z[i]?.getD []) := by
  unfold Sv.cl
  rw [hC, List.getElem?_map, List.getElem?_eq_getElem hi]
  rfl
theorem mem_at {α : Type} {d : α} {Z : List α} {zs : α} (h : zs ∈ Z) : ∃ i, i < Z.length ∧ Z[i]?.getD d = zs := by
  obtain ⟨i, hi, e⟩ := List.mem_iff_getElem.1 h
  exact ⟨i, hi, by rw [List.getElem?_eq_getElem hi]; exact e⟩
theorem run_go {n : Nat} {Z : List (List Int)} (hz : ∀ zs ∈ Z, Lit40 zs) (hzn : ∀ zs ∈ Z, ∀ z ∈ zs, z.natAbs < n) (s : Sv) (V : Nat → Int) (f : Nat) (hf : Full s) (hC : s.C = Z.map setL) (ha : Agree V s.H) (hfu : openN V n < f)
    (ih : ∀ (s' : Sv) (V' : Nat → Int) (f' : Nat), meas s' < meas s → Full s' → s'.C = Z.map setL → Agree V' s'.H → openN V' n < f' → (runF f' Z V' (s'.T.map Prod.fst)).1 = (propF (meas s' + 1) s').T.map Prod.fst ∧ (runF f' Z V' (s'.T.map Prod.fst)).2.1 = (propF (meas s' + 1) s').F) :
    (runF f Z V (s.T.map Prod.fst)).1 = (propF (meas s + 1) s).T.map Prod.fst ∧ (runF f Z V (s.T.map Prod.fst)).2.1 = (propF (meas s + 1) s).F := by
  obtain ⟨k, rfl⟩ : ∃ k, f = k + 1 := ⟨f - 1, by omega⟩
  have hH := hf.ok.wfH
  have hlen : s.C.length = Z.length := by rw [hC]; simp
  have hnz : ∀ i, i < Z.length → s.cl i = setL (Z[i]?.getD []) := fun i hi => cl_of hC hi
  by_cases hF : s.F = -1
  · have hnn : ∀ zs ∈ Z, ¬ Nul s.H zs := fun zs hm hn => by
      obtain ⟨i, hi, e⟩ := mem_at (d := []) hm
      unfold Nul at hn
      rw [← e, ← hnz i hi] at hn
      rcases hf.st i (by omega) with q | ⟨_, q, _⟩ | ⟨y, q1, q2, _⟩ | ⟨q1, _⟩
      · rw [hn.1] at q; cases q
      · exact q hF
      · have : mem (restL (s.cl i) s.H) y = true := by rw [q1, mem_only q2]; simp
        rw [hn.2, mem_zero] at this; cases this
      · rw [hn.2, mem_zero] at q1; cases q1
    have hs1 := (scan_no ha hH Z 0 0 hz hnn).1
    have huD : ∀ i, i < Z.length → ∀ x, Uni s.H (Z[i]?.getD []) x → i ∈ s.D := fun i hi x hu => by
      unfold Uni at hu
      rw [← hnz i hi] at hu
      rcases hf.st i (by omega) with q | ⟨_, q, _⟩ | ⟨y, q1, q2, q3, q4⟩ | ⟨q1, q2, q3⟩
      · rw [hu.1] at q; cases q
      · exact absurd hF q
      · exact q4
      · rw [hu.2.2, mem_only hu.2.1, decide_eq_true_eq] at q1 q2
        exact absurd (q1.symm.trans q2) q3
    cases hD : s.D with
    | nil =>
      have hs2 : (scanS V Z 0 0).2 = 0 := (scan_no ha hH Z 0 0 hz hnn).2.2 (fun zs hm x hu => by
        obtain ⟨i, hi, e⟩ := mem_at (d := []) hm
        rw [← e] at hu
        have := huD i hi x hu
        rw [hD] at this; cases this)
      rw [propF_end (.inr hD), run_none (Prod.ext hs1 hs2), hF]
      exact ⟨rfl, rfl⟩
    | cons i D =>
      have hiD : i ∈ s.D := by rw [hD]; simp
      have hi : i < Z.length := by have := hf.ok.dlt i hiD; omega
      have hless := pop_less hf hF hD
      have hfull := pop_full hf hF hD
      rw [propF_step hF hD, propF_same (meas s) (meas (popS s i D) + 1) _ hfull hless (Nat.lt_succ_self _)]
      by_cases hm : meetL (s.cl i) s.H = true
      · have e : popS s i D = { s with D := D } := by unfold popS; rw [if_pos hm]
        rw [e] at hless hfull ⊢
        exact ih { s with D := D } V (k + 1) hless hfull hC ha hfu
      · obtain ⟨x, ex, h1, h2, h3, h4, h5, h6⟩ := unit_of hf hF hD hm
        have e : popS s i D = holdS { s with D := D } x i := by unfold popS; rw [if_neg hm, ex]
        have hui : Uni s.H (Z[i]?.getD []) x := ⟨by rw [← hnz i hi]; simpa using hm, h2, by rw [← hnz i hi]; exact h1⟩
        have hs2 : (scanS V Z 0 0).2 = x := scan_uni ha hH Z 0 i x hz hnn hi hui (fun q hq y hy => by
          have hqD := huD q (by omega) y hy
          have hsrt := hf.ok.dsort
          rw [hD] at hqD hsrt
          rw [List.pairwise_cons] at hsrt
          rcases List.mem_cons.1 hqD with e | e
          · omega
          · have := hsrt.1 q e; omega)
        rw [run_more (Prod.ext hs1 hs2) h2]
        obtain ⟨t1, t2, t3, t4, t5⟩ := hold_same { s with D := D } x i
        rw [e] at hless hfull ⊢
        have hxz : x ∈ Z[i]?.getD [] := by
          have hm9 : mem (setL (Z[i]?.getD [])) x = true := by rw [← hnz i hi]; exact h4
          exact (mem_zs (hz _ (by rw [List.getElem?_eq_getElem hi]; exact List.getElem_mem hi)) x).1 hm9
        have hxn : x.natAbs < n := hzn _ (by rw [List.getElem?_eq_getElem hi]; exact List.getElem_mem hi) x hxz
        have hvx : V x.natAbs = 0 := by
          have := ha x h2 h3.1 h3.2
          rw [h5, h6] at this
          simp at this
          unfold runS.valOf at this
          split at this <;> omega
        have := ih (holdS { s with D := D } x i) (runS.setV V x) k hless hfull (t1.trans hC) (by rw [t3]; exact agree_hold ha h2 h3.1 h3.2 ⟨h5, h6⟩) (by have := open_set (V := V) (z := x) n hxn hvx; omega)
        rw [t4, List.map_append] at this
        exact this
  · rcases hf.ok.fin with e | ⟨p, hp, e, hr⟩
    · exact absurd e hF
    · have hpl : p < Z.length := by omega
      have hnp : Nul s.H (Z[p]?.getD []) := ⟨by rw [← hnz p hpl]; exact full_false hf hp hr, by rw [← hnz p hpl]; exact hr⟩
      have hs1 : (scanS V Z 0 0).1 = 0 + (p : Int) := scan_nul ha hH Z 0 0 p hz hpl hnp (fun q hq hn => by
        rcases hf.st q (by omega) with h1 | ⟨_, _, h1⟩ | ⟨y, q1, q2, _⟩ | ⟨q1, _⟩
        · rw [hnz q (by omega), hn.1] at h1; cases h1
        · omega
        · have : mem (restL (s.cl q) s.H) y = true := by rw [q1, mem_only q2]; simp
          rw [hnz q (by omega), hn.2, mem_zero] at this; cases this
        · rw [hnz q (by omega), hn.2, mem_zero] at q1; cases q1)
      rw [propF_end (.inl hF), run_last (at_ := (p : Int)) (u := (scanS V Z 0 0).2) (Prod.ext (by rw [hs1]; simp) rfl) (by omega), e]
      exact ⟨rfl, rfl⟩
theorem run_prop {n : Nat} {Z : List (List Int)} (hz : ∀ zs ∈ Z, Lit40 zs) (hzn : ∀ zs ∈ Z, ∀ z ∈ zs, z.natAbs < n) : ∀ (m : Nat) (s : Sv) (V : Nat → Int) (f : Nat), meas s ≤ m → Full s → s.C = Z.map setL → Agree V s.H → openN V n < f →
    (runF f Z V (s.T.map Prod.fst)).1 = (propF (meas s + 1) s).T.map Prod.fst ∧ (runF f Z V (s.T.map Prod.fst)).2.1 = (propF (meas s + 1) s).F := by
  intro m
  induction m with
  | zero => exact fun s V f hm hf hC ha hfu => run_go hz hzn s V f hf hC ha hfu (fun s' V' f' h => (by omega))
  | succ m ih => exact fun s V f hm hf hC ha hfu => run_go hz hzn s V f hf hC ha hfu (fun s' V' f' h => ih s' V' f' (by omega))
end Go.Proofs.YtpfecijahiikhaaGreatDoor.solRun

/-
  DERIVED: THE SHELF's CONTRACTS AT THIS DUMP, IN PLAIN WORDS (tools/lay-plain.mjs out of 'YtpfecijahiikhaaGreatDoorShelfLayS.lean', which tools/lay-shelf.mjs wrote): THE SAME DECLARATIONS UNDER THE SAME NAMES: 'import', 'namespace', 'open', 'def', 'theorem' AND NOTHING ELSE: no command of the shelf's: FOR A HAND-IN. Each laying: the table of numbers ('.._ren') and one theorem, a field a fact of the dump's own or the kernel's comparison; each contract: ONE APPLICATION.
-/
namespace Go.Proofs
open Go.Shelf
def Tryz.lays2_21_ren : Go.Shelf.Ren := ⟨fun | 21 => 72 | 27 => 80 | 28 => 81 | 35 => 84 | 39 => 85 | n => n, fun | 22 => 27 | 3 => 3 | 4 => 4 | 0 => 0 | n => n, fun | n => n⟩
theorem Tryz.lays2_21 : Go.Proofs.Lays2.n21 Tryz.prog Tryz.lays2_21_ren := {
  mixed := by kernel_rfl
  f21 := Tryz.func72.trans (congrArg some (by kernel_rfl))
  f27 := Tryz.func80.trans (congrArg some (by kernel_rfl))
  f28 := Tryz.func81.trans (congrArg some (by kernel_rfl))
  f35 := Tryz.func84.trans (congrArg some (by kernel_rfl))
  f39 := Tryz.func85.trans (congrArg some (by kernel_rfl))
  t0 := Tryz.underlying0
  a0 := Tryz.isAgg0
  z0 := Tryz.sizeOf0
  v0 := Tryz.zeroValue0
  t3 := Tryz.underlying3
  a3 := Tryz.isAgg3
  z3 := Tryz.sizeOf3
  v3 := Tryz.zeroValue3
  t4 := Tryz.underlying4
  a4 := Tryz.isAgg4
  z4 := Tryz.sizeOf4
  v4 := Tryz.zeroValue4
  t22 := Tryz.underlying27
  a22 := Tryz.isAgg27
  z22 := Tryz.sizeOf27
  v22 := Tryz.zeroValue27
  i3 := by kernel_rfl }
def Tryz.lays2_25_ren : Go.Shelf.Ren := ⟨fun | 25 => 71 | 31 => 78 | 32 => 79 | 37 => 83 | n => n, fun | 22 => 27 | 3 => 3 | 4 => 4 | 40 => 131 | 0 => 0 | n => n, fun | n => n⟩
theorem Tryz.lays2_25 : Go.Proofs.Lays2.n25 Tryz.prog Tryz.lays2_25_ren := {
  mixed := by kernel_rfl
  f25 := Tryz.func71.trans (congrArg some (by kernel_rfl))
  f31 := Tryz.func78.trans (congrArg some (by kernel_rfl))
  f32 := Tryz.func79.trans (congrArg some (by kernel_rfl))
  f37 := Tryz.func83.trans (congrArg some (by kernel_rfl))
  t0 := Tryz.underlying0
  a0 := Tryz.isAgg0
  z0 := Tryz.sizeOf0
  v0 := Tryz.zeroValue0
  t3 := Tryz.underlying3
  a3 := Tryz.isAgg3
  z3 := Tryz.sizeOf3
  v3 := Tryz.zeroValue3
  t4 := Tryz.underlying4
  a4 := Tryz.isAgg4
  z4 := Tryz.sizeOf4
  v4 := Tryz.zeroValue4
  t22 := Tryz.underlying27
  a22 := Tryz.isAgg27
  z22 := Tryz.sizeOf27
  v22 := Tryz.zeroValue27
  t40 := Tryz.underlying131
  a40 := Tryz.isAgg131
  z40 := Tryz.sizeOf131
  v40 := Tryz.zeroValue131 }
def Tryz.lays7_29_ren : Go.Shelf.Ren := ⟨fun | 29 => 69 | n => n, fun | 22 => 50 | 3 => 3 | 4 => 4 | 25 => 131 | 54 => 130 | 0 => 0 | 5 => 5 | n => n, fun | 1 => 1 | n => n⟩
theorem Tryz.lays7_29 : Go.Proofs.Lays7.n29 Tryz.prog Tryz.lays7_29_ren := {
  mixed := by kernel_rfl
  f29 := Tryz.func69.trans (congrArg some (by kernel_rfl))
  t0 := Tryz.underlying0
  a0 := Tryz.isAgg0
  z0 := Tryz.sizeOf0
  v0 := Tryz.zeroValue0
  i0 := by kernel_rfl
  t3 := Tryz.underlying3
  a3 := Tryz.isAgg3
  z3 := Tryz.sizeOf3
  v3 := Tryz.zeroValue3
  i3 := by kernel_rfl
  t4 := Tryz.underlying4
  a4 := Tryz.isAgg4
  z4 := Tryz.sizeOf4
  v4 := Tryz.zeroValue4
  i4 := by kernel_rfl
  t5 := Tryz.underlying5
  a5 := Tryz.isAgg5
  z5 := Tryz.sizeOf5
  v5 := Tryz.zeroValue5
  i5 := by kernel_rfl
  t22 := Tryz.underlying50
  a22 := Tryz.isAgg50
  z22 := Tryz.sizeOf50
  v22 := Tryz.zeroValue50
  i22 := by kernel_rfl
  t25 := Tryz.underlying131
  a25 := Tryz.isAgg131
  z25 := Tryz.sizeOf131
  v25 := Tryz.zeroValue131
  i25 := by kernel_rfl
  t54 := Tryz.underlying130
  a54 := Tryz.isAgg130
  z54 := Tryz.sizeOf130
  g1 := by kernel_rfl }
end Go.Proofs
