import Derived.Test.YtaioffpkadmmhaaGreatPart29
import Derived.Test.YtaioffpkadmmhaaGreatPart32
import Derived.Test.YtaioffpkadmmhaaGreatPart15
namespace Go.Proofs.YtaioffpkadmmhaaGreat.valRB
open Go base netSem routeRow nbSem candSem rofSem
set_option linter.unusedVariables false
variable {g : R} {o e : List Int} {x : R} {env : List Int} {ds : List Bool}
theorem valR_bounds {nl nx n : Nat} {vs : List Int} (hn1 : 1 ≤ n) (hn : n ≤ 4) (hv : ∀ i, -3 ≤ zAt vs i ∧ zAt vs i < n) (hc : ∀ i, i < nl → 0 ≤ g i 2 ∧ g i 2 ≤ 100) (hok : okV g nl o e x nx env ds vs n = true) {i : Nat} (hi : i < n) :
  (-3 ≤ (valR g nl o e x nx env ds vs n i).via ∧ (valR g nl o e x nx env ds vs n i).via < n) ∧ 0 ≤ (valR g nl o e x nx env ds vs n i).len ∧ (valR g nl o e x nx env ds vs n i).len ≤ 20000 := by
 have hs := allN_iff.1 hok i hi
 unfold valR
 cases hq : val g nl o e x nx env ds vs n (i : Int) with
 | none => rw [hq] at hs; cases hs
 | some r =>
  have h1 := val_via hq
  have h2 := val_len (fun i => (hv i).1) hc hq
  have h3 := hv i
  rw [Int.toNat_natCast] at h1
  show (-3 ≤ r.via ∧ r.via < n) ∧ 0 ≤ r.len ∧ r.len ≤ 20000
  rw [h1]
  exact ⟨h3, by omega, by omega⟩
end Go.Proofs.YtaioffpkadmmhaaGreat.valRB
namespace Go.Proofs.YtaioffpkadmmhaaGreat.walkMath
open Go base netSem routeRow nbSem candSem sceneSem sceneCand sceneList sceneFace candHole rtsRow stabImpl stabFace stabLaw prodSem rofSem ssSem settleSem stabIn walkSem routesB valRB
set_option linter.unusedVariables false
variable {g : R} {nl nx : Nat} {o e : List Int} {x : R} {env : List Int} {ds : List Bool} {n : Nat} {rs rs' : Rs}
theorem impK_pref {router fr : Int} {r0 : Rt} (h0 : 0 ≤ r0.pref ∧ r0.pref ≤ 1000) : ∀ {k : Nat} {r : Rt}, (∀ i, i < k → x i 3 = 2 → 0 ≤ x i 4 ∧ x i 4 ≤ 1000) → impK x router fr r0 k = some r → 0 ≤ r.pref ∧ r.pref ≤ 1000
 | 0, r, _, h => by simp only [impK, Option.some.injEq] at h; subst h; exact h0
 | k + 1, r, hx, h => by
  simp only [impK] at h
  cases hq : impK x router fr r0 k with
  | none => rw [hq] at h; cases h
  | some q =>
   rw [hq] at h
   have ih := impK_pref h0 (fun i hi => hx i (by omega)) hq
   simp only [Option.bind_some] at h
   unfold stepI at h
   split at h
   · simp only [Option.some.injEq] at h; subst h; exact ih
   · split at h
     · cases h
     · split at h
       · next h2 => simp only [Option.some.injEq] at h; subst h; exact hx k (by omega) h2
       · simp only [Option.some.injEq] at h; subst h; exact ih
theorem import_pref {nlx i : Nat} (h : importB g nlx x i = true) (h2 : x i 3 = 2) : 0 ≤ x i 4 ∧ x i 4 ≤ 1000 := by
 unfold importB deedB inB at h
 simp only [Bool.and_eq_true, decide_eq_true_eq] at h
 have := h.2.2
 rw [if_pos h2] at this
 exact this
theorem cand_pref (hx : ∀ i, i < nx → x i 3 = 2 → 0 ≤ x i 4 ∧ x i 4 ≤ 1000) {i : Int} {r : Rt} (h : r ∈ candL g nl o e x nx env ds rs n i) : 0 ≤ r.pref ∧ r.pref ≤ 1000 := by
 simp only [candL, List.mem_append, List.mem_flatMap] at h
 rcases h with (h | h) | ⟨j, hj, h⟩
 · unfold ownC at h
   split at h
   · rw [List.mem_singleton] at h; subst h; exact ⟨by show (0 : Int) ≤ 200; omega, by show (200 : Int) ≤ 1000; omega⟩
   · cases h
 · unfold extC at h
   split at h
   · rw [List.mem_singleton] at h; subst h; exact ⟨by show (0 : Int) ≤ 100; omega, by show (100 : Int) ≤ 1000; omega⟩
   · cases h
 · unfold candOf at h
   split at h
   · cases h
   · split at h
     · cases h
     · cases hi : impR g nl x nx i j (rs j.toNat) with
       | none => rw [hi] at h; cases h
       | some q =>
        rw [hi] at h
        simp only [List.mem_singleton] at h
        subst h
        exact impK_pref (r0 := startI j (g (linkAt g nl i j).toNat 2) (rs j.toNat)) ⟨by show (0 : Int) ≤ 100; omega, by show (100 : Int) ≤ 1000; omega⟩ hx hi
structure Fine (g : R) (nl : Nat) (ds : List Bool) (n : Nat) (rs : Rs) (vs : List Int) : Prop where
 right : routesB g nl n n rs = true
 up : anyDown g nl n ds rs = false
 via : ∀ i, i < n → zAt vs i = (rs i).via
 ends : ∀ i : Nat, i < n → ∃ m, m ≤ n ∧ cnt vs m (i : Int) = true
theorem state_fine {l : Nat → Nat} {s : Ss} {f : R} (hb : netB l s g o e x f = true) (he : ∀ i, 0 ≤ zAt env i) {zs : List Rt} (h : zs ∈ statesL g (l 1) o e x (l 4) env ds (l 0) (prod (fun i : Nat => optL g (l 1) o e env ds (l 0) (i : Int)) (l 0))) : zs.length = l 0 ∧ ∃ vs, Fine g (l 1) ds (l 0) (rF zs) vs := by
 obtain ⟨h4, h12, hk, hi⟩ := net_links hb
 have hn1 := one_router hb
 have hc := fun i hi => (link_facts (hk i hi) h4).2.2
 have hin := links_in hb
 unfold statesL at h
 obtain ⟨vs, hv, rfl⟩ := List.mem_map.1 h
 obtain ⟨hp, hg⟩ := List.mem_filter.1 hv
 unfold goodB at hg
 rw [Bool.and_eq_true] at hg
 obtain ⟨hok, hst⟩ := hg
 have hlen : (stateOf g (l 1) o e x (l 4) env ds (l 0) vs).length = l 0 := by unfold stateOf; simp
 have hR : ∀ i, i < l 0 → valR g (l 1) o e x (l 4) env ds vs (l 0) i = rF (stateOf g (l 1) o e x (l 4) env ds (l 0) vs) i := fun i hi => by
  unfold rF stateOf
  rw [List.getElem?_map, List.getElem?_range hi]
  rfl
 have hval : ∀ i, i < l 0 → val g (l 1) o e x (l 4) env ds vs (l 0) (i : Int) = some (valR g (l 1) o e x (l 4) env ds vs (l 0) i) := fun i hi => by
  have := allN_iff.1 hok i hi
  unfold valR
  cases hq : val g (l 1) o e x (l 4) env ds vs (l 0) (i : Int) with
  | none => rw [hq] at this; cases this
  | some r => rfl
 have hvia : ∀ i, i < l 0 → (valR g (l 1) o e x (l 4) env ds vs (l 0) i).via = zAt vs i := fun i hi => by
  have := val_via (hval i hi)
  rw [Int.toNat_natCast] at this
  exact this
 have hb3 := fun i hi => stab_via hn1 hst (i := i) hi
 have hv3 : ∀ i, -3 ≤ zAt vs i := fun i => by
  by_cases hi : i < l 0
  · rw [← hvia i hi]; exact (hb3 i hi).1
  · have hl : vs.length = l 0 := prod_len hp
    unfold zAt
    rw [List.getElem?_eq_none (by omega)]
    decide
 have hlen2 : ∀ i, i < l 0 → 0 ≤ (valR g (l 1) o e x (l 4) env ds vs (l 0) i).len ∧ (valR g (l 1) o e x (l 4) env ds vs (l 0) i).len ≤ 402 := fun i hi => by
  have := val_len hv3 hc (hval i hi)
  have h4' : ((l 0 : Nat) : Int) ≤ 4 := by omega
  omega
 have hcand : ∀ i, i < l 0 → (valR g (l 1) o e x (l 4) env ds vs (l 0) i = noRt) ∨ (valR g (l 1) o e x (l 4) env ds vs (l 0) i ∈ candL g (l 1) o e x (l 4) env ds (valR g (l 1) o e x (l 4) env ds vs (l 0)) (l 0) (i : Int)) := fun i hi => by
  rcases stab_or hst hi with h1 | h1
  · exact .inl h1.1
  · exact .inr h1
 have himp := hi
 have hlk : ∀ i, i < l 0 → 0 ≤ (valR g (l 1) o e x (l 4) env ds vs (l 0) i).via → 0 ≤ linkAt g (l 1) (i : Int) (valR g (l 1) o e x (l 4) env ds vs (l 0) i).via ∧ ds[(linkAt g (l 1) (i : Int) (valR g (l 1) o e x (l 4) env ds vs (l 0) i).via).toNat]?.getD false = false := fun i hi h0 => by
  rcases hcand i hi with h1 | h1
  · rw [h1] at h0; exact absurd h0 (by decide)
  · rcases cand_cases h1 with ⟨h2, _⟩ | ⟨h2, _⟩ | ⟨j, h2, hj, hm, _, _, h6⟩
    · omega
    · omega
    · rw [h2]
      refine ⟨h6, ?_⟩
      unfold nbL at hm
      simp only [List.mem_map, List.mem_filter, List.mem_range] at hm
      obtain ⟨k, ⟨_, hkb⟩, ek⟩ := hm
      have ek' : k = j := by omega
      subst ek'
      unfold nbB at hkb
      simp only [Bool.and_eq_true, Bool.not_eq_true'] at hkb
      exact hkb.2
 clear hi
 refine ⟨hlen, vs, ?_, ?_, fun i hi => ?_, fun i hi => ?_⟩
 · unfold routesB
   rw [decide_eq_true rfl, Bool.true_and]
   refine allN_of fun i hi => ?_
   rw [← hR i hi]
   rcases hcand i hi with h1 | h1
   · rw [h1]
     unfold routeB noneB noRt inB
     simp
     omega
   · have h5 := cand_pref (fun j hj => import_pref (himp j hj)) h1
     have h6 := hlen2 i hi
     have h7 := hlk i hi
     have h8 : -2 ≤ (valR g (l 1) o e x (l 4) env ds vs (l 0) i).via ∧ (valR g (l 1) o e x (l 4) env ds vs (l 0) i).via < (l 0 : Int) := by
      rcases cand_cases h1 with ⟨h2, _⟩ | ⟨h2, _⟩ | ⟨j, h2, hj, _⟩ <;> rw [h2] <;> omega
     generalize valR g (l 1) o e x (l 4) env ds vs (l 0) i = r at *
     unfold routeB inB
     simp only [Bool.and_eq_true, decide_eq_true_eq]
     refine ⟨⟨⟨⟨by omega, h5⟩, by omega⟩, ?_⟩, ?_⟩
     · by_cases h9 : 0 ≤ r.via
       · have := (h7 h9).1
         rw [decide_eq_false (show ¬ linkAt g (l 1) (i : Int) r.via < 0 by omega), Bool.and_false]
         rfl
       · rw [decide_eq_false h9, Bool.false_and]
         rfl
     · rw [decide_eq_false (show ¬ r.via = -3 by omega), Bool.false_and]
       rfl
 · unfold anyDown
   rw [allN_of (p := fun i => !downB g (l 1) ds i (rF (stateOf g (l 1) o e x (l 4) env ds (l 0) vs) i)) (fun i hi => ?_)]
   · rfl
   · rw [← hR i hi]
     unfold downB
     by_cases h9 : 0 ≤ linkAt g (l 1) (i : Int) (valR g (l 1) o e x (l 4) env ds vs (l 0) i).via
     · have h10 := (link_in hin h9).1
       rw [(hlk i hi h10).2, Bool.and_false]
       rfl
     · rw [decide_eq_false h9, Bool.false_and]
       rfl
 · rw [← hR i hi, hvia i hi]
 · obtain ⟨m, hm, hcn⟩ := val_cnt (by omega) (hval i hi)
   exact ⟨m, hm, hcn⟩
end Go.Proofs.YtaioffpkadmmhaaGreat.walkMath
namespace Go.Proofs.YtaioffpkadmmhaaGreat.stableMath
open Go base netSem routeRow nbSem candSem sceneSem sceneCand sceneList sceneFace candHole rtsRow stabImpl stabFace stabLaw prodSem rofSem ssSem settleSem stabIn walkSem routesB valRB walkMath
set_option linter.unusedVariables false
variable {g : R} {nl nx : Nat} {o e : List Int} {x : R} {env : List Int} {ds : List Bool} {n : Nat} {rs rs' : Rs}
theorem state_rs {c : List Int} {i : Nat} (hi : i < n) : valR g nl o e x nx env ds c n i = rF (stateOf g nl o e x nx env ds n c) i := by
 unfold rF stateOf
 rw [List.getElem?_map, List.getElem?_range hi]
 rfl
theorem state_stab (hn1 : 1 ≤ n) {ll : List (List Int)} {zs : List Rt} (h : zs ∈ statesL g nl o e x nx env ds n ll) : stabB g nl o e x nx env ds (rF zs) n = true := by
 unfold statesL at h
 obtain ⟨vs, hv, rfl⟩ := List.mem_map.1 h
 obtain ⟨_, hg⟩ := List.mem_filter.1 hv
 unfold goodB at hg
 rw [Bool.and_eq_true] at hg
 exact stab_congr (fun j hj => state_rs hj) (fun j hj => (stab_via hn1 hg.2 hj).2) hg.2
theorem opt_nodup (i : Int) : (optL g nl o e env ds n i).Pairwise (· ≠ ·) := by
 have hnb : (nbL g nl ds i n).Pairwise (· ≠ ·) := by
  unfold nbL
  rw [List.pairwise_map]
  refine List.Pairwise.filter _ ?_
  exact (List.nodup_range (n := n)).imp fun h e => h (by omega)
 have hpos : ∀ y ∈ nbL g nl ds i n, 0 ≤ y := fun y hy => by
  unfold nbL at hy
  obtain ⟨k, _, rfl⟩ := List.mem_map.1 hy
  omega
 unfold optL ownV extV
 split <;> split <;> simp <;> (try exact hnb) <;> (try refine ⟨?_, hnb⟩) <;> (try refine ⟨?_, ?_, hnb⟩)
 all_goals (intro y hy e9; have := hpos _ hy; omega)
theorem prod_nodup {A : Nat → List Int} (h : ∀ i, (A i).Pairwise (· ≠ ·)) : ∀ k, (prod A k).Pairwise (· ≠ ·)
 | 0 => by simp [prod]
 | k + 1 => by
  simp only [prod]
  rw [List.pairwise_flatMap]
  refine ⟨fun c hc => ?_, ?_⟩
  · rw [List.pairwise_map]
    exact (h k).imp fun hne e => hne (by simpa using e)
  · refine List.Pairwise.imp_of_mem ?_ (prod_nodup h k)
    intro c c' hc hc' hne y hy z hz e9
    obtain ⟨v, _, rfl⟩ := List.mem_map.1 hy
    obtain ⟨v', _, rfl⟩ := List.mem_map.1 hz
    exact hne (List.append_inj_left' e9 rfl)
theorem states_nodup : (statesL g nl o e x nx env ds n (prod (fun i : Nat => optL g nl o e env ds n (i : Int)) n)).Pairwise (· ≠ ·) := by
 unfold statesL
 rw [List.pairwise_map]
 refine List.Pairwise.imp_of_mem ?_ (List.Pairwise.filter _ (prod_nodup (fun i => opt_nodup (i : Int)) n))
 intro c c' hc hc' hne e9
 obtain ⟨hp, hg⟩ := List.mem_filter.1 hc
 obtain ⟨hp', hg'⟩ := List.mem_filter.1 hc'
 unfold goodB at hg hg'
 rw [Bool.and_eq_true] at hg hg'
 have hvia : ∀ {d : List Int}, okV g nl o e x nx env ds d n = true → ∀ i, i < n → zAt d i = (rF (stateOf g nl o e x nx env ds n d) i).via := fun {d} hok i hi => by
  rw [← state_rs hi]
  have := allN_iff.1 hok i hi
  unfold valR
  cases hq : val g nl o e x nx env ds d n (i : Int) with
  | none => rw [hq] at this; cases this
  | some r =>
   have h2 := val_via hq
   rw [Int.toNat_natCast] at h2
   exact h2.symm
 refine hne (List.ext_getElem ((prod_len hp).trans (prod_len hp').symm) fun i h1 h2 => ?_)
 have hi : i < n := by rw [← prod_len hp]; exact h1
 have h3 := hvia hg.1 i hi
 have h4 := hvia hg'.1 i hi
 rw [e9, ← h4] at h3
 unfold zAt at h3
 rw [List.getElem?_eq_getElem h1, List.getElem?_eq_getElem h2] at h3
 exact h3
theorem rof_state (hn1 : 1 ≤ n) (hn4 : n ≤ 4) (he : ∀ i, 0 ≤ zAt env i) (hc : ∀ i, i < nl → 1 ≤ g i 2) (hl : ∀ i, i < n → 0 ≤ (rs i).len) (h : stabB g nl o e x nx env ds rs n = true) :
  okV g nl o e x nx env ds (viaL rs n) n = true ∧ ∀ i, i < n → valR g nl o e x nx env ds (viaL rs n) n i = rs i := by
 have hvl : ∀ i, zAt (viaL rs n) i < n := fun i => by
  by_cases hi : i < n
  · rw [via_at rs hi]; exact (stab_via hn1 h hi).2
  · rw [via_out rs hi]; omega
 have hval : ∀ i, i < n → val g nl o e x nx env ds (viaL rs n) n (i : Int) = some (rs i) := fun i hi => by
  obtain ⟨m, hm⟩ := cnt_some hn1 hc h hl _ i hi (Nat.le_refl _)
  exact val_some hn1 hn4 he h m n i hi hm (cnt_most hn4 hvl (by omega) hm)
 exact ⟨allN_of fun i hi => by rw [hval i hi]; rfl, fun i hi => by unfold valR; rw [hval i hi]; rfl⟩
theorem best_state (h : stabB g nl o e x nx env ds rs n = true) {i : Nat} (hi : i < n) : (candL g nl o e x nx env ds rs n (i : Int) = [] → (rs i).via = -3) ∧ (candL g nl o e x nx env ds rs n (i : Int) ≠ [] → bestTo (rF (candL g nl o e x nx env ds rs n (i : Int))) ((candL g nl o e x nx env ds rs n (i : Int)).length - 1) = rs i) := by
 have h1 := stab_at h hi
 refine ⟨fun h2 => ?_, fun h2 => ?_⟩
 · rw [h1, h2]; rfl
 · rw [h1]
   unfold bst
   rw [if_neg (fun h3 => h2 (List.length_eq_zero_iff.1 h3))]
theorem via_nb (h : stabB g nl o e x nx env ds rs n = true) {i : Nat} (hi : i < n) (h0 : 0 ≤ (rs i).via) : (rs i).via ∈ nbL g nl ds (i : Int) n := by
 rcases stab_or h hi with ⟨h1, _⟩ | h1
 · rw [h1] at h0; exact absurd h0 (by decide)
 · rcases cand_cases h1 with ⟨h2, _⟩ | ⟨h2, _⟩ | ⟨j, h2, hj, hm, _⟩
   · omega
   · omega
   · rw [h2]; exact hm
end Go.Proofs.YtaioffpkadmmhaaGreat.stableMath
