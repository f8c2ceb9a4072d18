/- What two clauses resolve to, of the program and of the specification; conditions: lengths that fit. -/
import Derived.Test.YtfjhckjnhnpglaaInOrder
namespace Go.Proofs.Ytfjhckjnhnpglaa.resolved
open Go.RowKit Go.Deep base copy cnf eval own order sorted concat inOrder

def restOf (za zb : List Int) (v : Int) : List Int := za.filter (fun z => z != v) ++ zb.filter (fun z => z != -v)
def resCode (za zb : List Int) (v : Int) : Int :=
  if 4096 < za.length ∨ 4096 < zb.length then 2 else
  if clauseB 40 za = false ∨ clauseB 40 zb = false ∨ v < 1 ∨ 40 < v then 1 else
  if ¬ v ∈ za ∨ ¬ -v ∈ zb then 6 else
  if oppB (ord (restOf za zb v)) then 8 else 0
def resList (za zb : List Int) (v : Int) : List Int := if resCode za zb v = 0 then ord (restOf za zb v) else []
theorem res_long {za zb : List Int} {v : Int} (h : 4096 < za.length ∨ 4096 < zb.length) : resCode za zb v = 2 ∧ resList za zb v = [] := by
  have : resCode za zb v = 2 := by unfold resCode; rw [if_pos h]
  exact ⟨this, by unfold resList; rw [this]; rfl⟩
theorem res_bad {za zb : List Int} {v : Int} (h : ¬ (4096 < za.length ∨ 4096 < zb.length)) (h2 : clauseB 40 za = false ∨ clauseB 40 zb = false ∨ v < 1 ∨ 40 < v) : resCode za zb v = 1 ∧ resList za zb v = [] := by
  have : resCode za zb v = 1 := by unfold resCode; rw [if_neg h, if_pos h2]
  exact ⟨this, by unfold resList; rw [this]; rfl⟩
theorem res_none {za zb : List Int} {v : Int} (h : ¬ (4096 < za.length ∨ 4096 < zb.length)) (h2 : ¬ (clauseB 40 za = false ∨ clauseB 40 zb = false ∨ v < 1 ∨ 40 < v)) (h3 : ¬ v ∈ za ∨ ¬ -v ∈ zb) : resCode za zb v = 6 ∧ resList za zb v = [] := by
  have : resCode za zb v = 6 := by unfold resCode; rw [if_neg h, if_neg h2, if_pos h3]
  exact ⟨this, by unfold resList; rw [this]; rfl⟩
theorem res_state {za zb : List Int} {v : Int} (h : ¬ (4096 < za.length ∨ 4096 < zb.length)) (h2 : ¬ (clauseB 40 za = false ∨ clauseB 40 zb = false ∨ v < 1 ∨ 40 < v)) (h3 : ¬ (¬ v ∈ za ∨ ¬ -v ∈ zb)) (h4 : oppB (ord (restOf za zb v)) = true) : resCode za zb v = 8 ∧ resList za zb v = [] := by
  have : resCode za zb v = 8 := by unfold resCode; rw [if_neg h, if_neg h2, if_neg h3, if_pos h4]
  exact ⟨this, by unfold resList; rw [this]; rfl⟩
theorem res_ok {za zb : List Int} {v : Int} (h : ¬ (4096 < za.length ∨ 4096 < zb.length)) (h2 : ¬ (clauseB 40 za = false ∨ clauseB 40 zb = false ∨ v < 1 ∨ 40 < v)) (h3 : ¬ (¬ v ∈ za ∨ ¬ -v ∈ zb)) (h4 : oppB (ord (restOf za zb v)) = false) : resCode za zb v = 0 ∧ resList za zb v = ord (restOf za zb v) := by
  have : resCode za zb v = 0 := by unfold resCode; rw [if_neg h, if_neg h2, if_neg h3, if_neg (by rw [h4]; decide)]
  exact ⟨this, by unfold resList; rw [this]; rfl⟩
theorem clause_range {zs : List Int} (h : clauseB 40 zs = true) : zs.length ≤ 12 ∧ ∀ z ∈ zs, -40 ≤ z ∧ z ≤ 40 := by
  simp only [clauseB, Bool.and_eq_true, List.all_eq_true, decide_eq_true_eq] at h
  exact ⟨h.1, fun z hz => by have := litB_range (h.2 z hz); omega⟩
theorem rest_range {za zb : List Int} {v : Int} (ha : clauseB 40 za = true) (hb : clauseB 40 zb = true) : (restOf za zb v).length ≤ 24 ∧ ∀ z ∈ restOf za zb v, -40 ≤ z ∧ z ≤ 40 := by
  obtain ⟨a1, a2⟩ := clause_range ha
  obtain ⟨b1, b2⟩ := clause_range hb
  unfold restOf
  refine ⟨?_, fun z hz => ?_⟩
  · rw [List.length_append]
    have h1 := List.length_filter_le (fun z => z != v) za
    have h2 := List.length_filter_le (fun z => z != -v) zb
    omega
  · rcases List.mem_append.1 hz with h | h
    · exact a2 z (List.mem_filter.1 h).1
    · exact b2 z (List.mem_filter.1 h).1
theorem own_nilcap {B : Nat} {w : World} {a : Option Addr} {n c : Nat} {zs : List Int} (h : OwnInts B w (.slice a n c) zs) : a = none → c = 0 := fun ha => by
  subst ha
  rcases h.2 with ⟨e, _⟩ | ⟨g, cap, cur, e, _⟩
  · simp only [Value.slice.injEq] at e
    exact e.2.2
  · simp only [Value.slice.injEq] at e
    exact absurd e.1 (by simp)
theorem own_fresh {B : Nat} (w : World) (hB : B ≤ w.heap.size) : OwnInts B (w.alloc (.cells #[] 3)) (.slice (some ⟨w.heap.size, 0, none⟩) 0 0) [] := own_new w rfl hB

set_option maxHeartbeats 1600000 in
theorem resolve_impl (a b : Option Addr) (la ca lb cb : Nat) (za zb : List Int) (v : Int) (w : World) (hra : IntRow w a la za) (hrb : IntRow w b lb zb) :
    Calls Try.prog 15 #[.slice a la ca, .slice b lb cb, .int .i64 v] w fun e w' => ∃ x, e = .returned (.tuple #[x, .int .i64 (resCode za zb v)]) ∧ OwnInts w.heap.size w' x (resList za zb v) ∧ Below w.heap.size w w' := by
  have hma := hra.most
  have hmb := hrb.most
  unfold maxLen at hma hmb
  have HRA := hid hra
  have HRB := hid hrb
  have HLA := hid hra.length
  have HLB := hid hrb.length
  clear hra hrb
  by_cases h1 : 4096 < la ∨ 4096 < lb
  · obtain ⟨e1, e2⟩ := res_long (za := za) (zb := zb) (v := v) (by rw [HLA.out, HLB.out]; exact h1)
    rw [e1, e2]
    clear e1 e2
    by_cases h2 : 4096 < la
    · go_enter Try.func15, Try.ntmps15
      go_wp2
      go_ret2
      exact ⟨_, rfl, OwnInts.nil _ _, Below.refl _ _⟩
    · have h3 : 4096 < lb := by omega
      go_enter Try.func15, Try.ntmps15
      go_wp2
      go_ret2
      exact ⟨_, rfl, OwnInts.nil _ _, Below.refl _ _⟩
  have H1 : Hid (¬ (4096 < za.length ∨ 4096 < zb.length)) := by show ¬ _; rw [HLA.out, HLB.out]; exact h1
  have h1a : la ≤ 4096 := by omega
  have h1b : lb ≤ 4096 := by omega
  clear h1
  cases hA : clauseB 40 za
  · obtain ⟨e1, e2⟩ := res_bad (v := v) H1.out (.inl hA)
    rw [e1, e2]
    clear e1 e2
    go_enter Try.func15, Try.ntmps15
    go_wp2_with fail
    refine (clause_impl a la ca za 40 _ (by decide) (by decide) HRA.out).mono ?_
    rintro e w1 ⟨rfl, rfl⟩
    go_wp2
    go_ret2
    exact ⟨_, rfl, OwnInts.nil _ _, Below.refl _ _⟩
  cases hB : clauseB 40 zb
  · obtain ⟨e1, e2⟩ := res_bad (v := v) H1.out (.inr (.inl hB))
    rw [e1, e2]
    clear e1 e2
    go_enter Try.func15, Try.ntmps15
    go_wp2_with fail
    refine (clause_impl a la ca za 40 _ (by decide) (by decide) HRA.out).mono ?_
    rintro e w1 ⟨rfl, rfl⟩
    go_wp2_with fail
    refine (clause_impl b lb cb zb 40 _ (by decide) (by decide) HRB.out).mono ?_
    rintro e w1 ⟨rfl, rfl⟩
    go_wp2
    go_ret2
    exact ⟨_, rfl, OwnInts.nil _ _, Below.refl _ _⟩
  by_cases hv : v < 1 ∨ 40 < v
  · obtain ⟨e1, e2⟩ := res_bad (v := v) H1.out (.inr (.inr hv))
    rw [e1, e2]
    clear e1 e2
    go_enter Try.func15, Try.ntmps15
    go_wp2_with fail
    refine (clause_impl a la ca za 40 _ (by decide) (by decide) HRA.out).mono ?_
    rintro e w1 ⟨rfl, rfl⟩
    go_wp2_with fail
    refine (clause_impl b lb cb zb 40 _ (by decide) (by decide) HRB.out).mono ?_
    rintro e w1 ⟨rfl, rfl⟩
    by_cases hv1 : v < 1
    · go_wp2
      go_ret2
      exact ⟨_, rfl, OwnInts.nil _ _, Below.refl _ _⟩
    · have hv2 : 40 < v := by omega
      go_wp2
      go_ret2
      exact ⟨_, rfl, OwnInts.nil _ _, Below.refl _ _⟩
  have hv0 : 1 ≤ v := by omega
  have hv40 : v ≤ 40 := by omega
  have H2 : Hid (¬ (clauseB 40 za = false ∨ clauseB 40 zb = false ∨ v < 1 ∨ 40 < v)) := by
    show ¬ _
    rintro (h | h | h)
    · rw [hA] at h; cases h
    · rw [hB] at h; cases h
    · exact hv h
  clear hv
  have HRR := hid (rest_range (v := v) hA hB)
  have HCA := hid (clause_range hA).1
  have HCB := hid (clause_range hB).1
  by_cases hma1 : v ∈ za
  · by_cases hmb1 : -v ∈ zb
    · have H3 : Hid (¬ (¬ v ∈ za ∨ ¬ -v ∈ zb)) := by
        show ¬ _
        rintro (h | h)
        · exact h hma1
        · exact h hmb1
      have hd1 : decide (v ∈ za) = true := decide_eq_true hma1
      have hd2 : decide (-v ∈ zb) = true := decide_eq_true hmb1
      have HOk := hid (fun h4 => res_ok (v := v) H1.out H2.out H3.out h4)
      have HSt := hid (fun h4 => res_state (v := v) H1.out H2.out H3.out h4)
      clear hma1 hmb1
      have HRest : Hid ([za.filter (fun z => z != v), zb.filter (fun z => z != -v)].flatten = restOf za zb v) := by show _ = _; unfold restOf; simp
      obtain ⟨C, hC⟩ : ∃ C, resCode za zb v = C := ⟨_, rfl⟩
      obtain ⟨L, hL⟩ : ∃ L, resList za zb v = L := ⟨_, rfl⟩
      rw [hC, hL] at HOk HSt ⊢
      clear hC hL
      go_enter Try.func15, Try.ntmps15
      go_wp2_with fail
      refine (clause_impl a la ca za 40 _ (by decide) (by decide) HRA.out).mono ?_
      rintro e w1 ⟨rfl, rfl⟩
      go_wp2_with fail
      refine (clause_impl b lb cb zb 40 _ (by decide) (by decide) HRB.out).mono ?_
      rintro e w1 ⟨rfl, rfl⟩
      go_wp2_with fail
      refine (contains_int a la ca za v _ HRA.out).mono ?_
      rintro e w1 ⟨rfl, rfl⟩
      go_wp2_with fail
      refine (contains_int b lb cb zb (-v) _ HRB.out).mono ?_
      rintro e w1 ⟨rfl, rfl⟩
      go_wp2_with fail
      refine (without_impl a la ca za v _ HRA.out (by omega)).mono ?_
      rintro e w1 ⟨x1, rfl, ho1, hb1⟩
      obtain ⟨a1, c1, rfl, _⟩ := ho1.form
      have HO1 := hid ho1
      have HB1 := hid hb1
      clear ho1 hb1
      go_wp2_with fail
      refine (without_impl b lb cb zb (-v) _ (HRB.out.below HB1.out) (by omega)).mono ?_
      rintro e w2 ⟨x2, rfl, ho2, hb2⟩
      obtain ⟨a2, c2, rfl, _⟩ := ho2.form
      have HB2 := hid (HB1.out.trans (hb2.mono HB1.out.size))
      have HO1' := hid ((HO1.out.below hb2).mono (Nat.zero_le _))
      have HO2 := hid (ho2.mono (Nat.zero_le _))
      clear ho2 hb2
      go_wp2_with fail
      refine (concat_int w2.heap.size 2 [za.filter (fun z => z != v), zb.filter (fun z => z != -v)] _ ?_ rfl (by omega) ?_).mono ?_
      · intro i hi
        have hba : ∀ o, Below w2.heap.size w2 (w2.alloc o) := fun o => (Below.refl _ _).alloc (Nat.le_refl _) _
        rcases (show i = 0 ∨ i = 1 by omega) with rfl | rfl
        · exact ⟨_, by simp [go_sem], HO1'.out.below (hba _)⟩
        · exact ⟨_, by simp [go_sem], HO2.out.below (hba _)⟩
      · intro zs hz
        simp at hz
        rcases hz with rfl | rfl
        · exact Nat.le_trans (List.length_filter_le _ _) (by have := HCA.out; omega)
        · exact Nat.le_trans (List.length_filter_le _ _) (by have := HCB.out; omega)
      rintro e w3 ⟨x3, rfl, ho3, hb3⟩
      have HB3 := hid (HB2.out.trans ((show Below w2.heap.size w2 w3 from ((Below.refl _ w2).alloc (Nat.le_refl _) _).trans (hb3.mono (by simp))).mono HB2.out.size))
      rw [HRest.out] at ho3
      obtain ⟨a3, c3, rfl, hr3⟩ := ho3.form
      have HC3 := hid (own_nilcap ho3)
      have HR3 := hid hr3
      clear ho3 hb3 hr3
      generalize restOf za zb v = rest at *
      go_wp2_with fail
      refine (inOrder_impl a3 rest.length c3 rest _ HR3.out HC3.out HRR.out.2 (by have := HRR.out.1; omega)).mono ?_
      rintro e w4 ⟨x4, rfl, ho4, hb4⟩
      have HB4 := hid (HB3.out.trans (hb4.mono HB3.out.size))
      have HO4 := hid (ho4.mono HB3.out.size)
      obtain ⟨a4, c4, rfl, hr4⟩ := ho4.form
      have HR4 := hid hr4
      have HZ4 : Hid (∀ i, i < (ord rest).length → -40 ≤ (ord rest)[i]?.getD 0 ∧ (ord rest)[i]?.getD 0 ≤ 40) := fun i hi => by
        rw [List.getElem?_eq_getElem hi]
        exact HRR.out.2 _ (((ord_rises rest).2 _).1 (List.getElem_mem hi))
      clear ho4 hb4 hr4
      go_wp2_with fail
      refine (opposites_impl a4 (ord rest).length c4 (ord rest) _ HR4.out HZ4.out).mono ?_
      rintro e w5 ⟨rfl, q, rfl⟩
      have HB5 := hid (HB4.out.trans ((below_drewN w4 q).mono HB4.out.size))
      have HO5 := hid (HO4.out.below (below_drewN w4 q))
      cases hq : oppB (ord rest)
      · obtain ⟨e1, e2⟩ := HOk.out hq
        go_wp2
        go_ret2
        exact ⟨.slice a4 (ord rest).length c4, by rw [e1]; rfl, by rw [e2]; exact HO5.out, HB5.out⟩
      · obtain ⟨e1, e2⟩ := HSt.out hq
        go_wp2
        go_ret2
        exact ⟨.slice none 0 0, by rw [e1]; rfl, by rw [e2]; exact OwnInts.nil _ _, HB5.out⟩
    · obtain ⟨e1, e2⟩ := res_none (v := v) H1.out H2.out (.inr hmb1)
      rw [e1, e2]
      have hd1 : decide (v ∈ za) = true := decide_eq_true hma1
      have hd2 : decide (-v ∈ zb) = false := decide_eq_false hmb1
      clear e1 e2 hma1 hmb1
      go_enter Try.func15, Try.ntmps15
      go_wp2_with fail
      refine (clause_impl a la ca za 40 _ (by decide) (by decide) HRA.out).mono ?_
      rintro e w1 ⟨rfl, rfl⟩
      go_wp2_with fail
      refine (clause_impl b lb cb zb 40 _ (by decide) (by decide) HRB.out).mono ?_
      rintro e w1 ⟨rfl, rfl⟩
      go_wp2_with fail
      refine (contains_int a la ca za v _ HRA.out).mono ?_
      rintro e w1 ⟨rfl, rfl⟩
      go_wp2_with fail
      refine (contains_int b lb cb zb (-v) _ HRB.out).mono ?_
      rintro e w1 ⟨rfl, rfl⟩
      go_wp2
      go_ret2
      exact ⟨_, rfl, OwnInts.nil _ _, Below.refl _ _⟩
  · obtain ⟨e1, e2⟩ := res_none (v := v) H1.out H2.out (.inl hma1)
    rw [e1, e2]
    have hd1 : decide (v ∈ za) = false := decide_eq_false hma1
    clear e1 e2 hma1
    go_enter Try.func15, Try.ntmps15
    go_wp2_with fail
    refine (clause_impl a la ca za 40 _ (by decide) (by decide) HRA.out).mono ?_
    rintro e w1 ⟨rfl, rfl⟩
    go_wp2_with fail
    refine (clause_impl b lb cb zb 40 _ (by decide) (by decide) HRB.out).mono ?_
    rintro e w1 ⟨rfl, rfl⟩
    go_wp2_with fail
    refine (contains_int a la ca za v _ HRA.out).mono ?_
    rintro e w1 ⟨rfl, rfl⟩
    go_wp2
    go_ret2
    exact ⟨_, rfl, OwnInts.nil _ _, Below.refl _ _⟩
end Go.Proofs.Ytfjhckjnhnpglaa.resolved
