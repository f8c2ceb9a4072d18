/- In a stable state of a right network a packet's way goes along the routes and has an end; of no program; conditions: none. -/
import Derived.Test.YtjdeoiohbbnmeaaPart31
import Derived.Test.YtjdeoiohbbnmeaaPart14
namespace Go.Proofs.Ytjdeoiohbbnmeaa.walkMath
open Go base netSem routeRow nbSem candSem sceneSem sceneCand sceneList sceneFace candHole rtsRow stabImpl stabFace stabLaw prodSem rofSem ssSem settleSem stabIn walkSem routesB valRB
set_option linter.unusedVariables false

variable {g : R} {nl nx : Nat} {o e : List Int} {x : R} {env : List Int} {ds : List Bool} {n : Nat} {rs rs' : Rs}
theorem impK_pref {router fr : Int} {r0 : Rt} (h0 : 0 ≤ r0.pref ∧ r0.pref ≤ 1000) : ∀ {k : Nat} {r : Rt}, (∀ i, i < k → x i 3 = 2 → 0 ≤ x i 4 ∧ x i 4 ≤ 1000) → impK x router fr r0 k = some r → 0 ≤ r.pref ∧ r.pref ≤ 1000
  | 0, r, _, h => by simp only [impK, Option.some.injEq] at h; subst h; exact h0
  | k + 1, r, hx, h => by
    simp only [impK] at h
    cases hq : impK x router fr r0 k with
    | none => rw [hq] at h; cases h
    | some q =>
      rw [hq] at h
      have ih := impK_pref h0 (fun i hi => hx i (by omega)) hq
      simp only [Option.bind_some] at h
      unfold stepI at h
      split at h
      · simp only [Option.some.injEq] at h; subst h; exact ih
      · split at h
        · cases h
        · split at h
          · next h2 => simp only [Option.some.injEq] at h; subst h; exact hx k (by omega) h2
          · simp only [Option.some.injEq] at h; subst h; exact ih
theorem import_pref {nlx i : Nat} (h : importB g nlx x i = true) (h2 : x i 3 = 2) : 0 ≤ x i 4 ∧ x i 4 ≤ 1000 := by
  unfold importB deedB inB at h
  simp only [Bool.and_eq_true, decide_eq_true_eq] at h
  have := h.2.2
  rw [if_pos h2] at this
  exact this
theorem cand_pref (hx : ∀ i, i < nx → x i 3 = 2 → 0 ≤ x i 4 ∧ x i 4 ≤ 1000) {i : Int} {r : Rt} (h : r ∈ candL g nl o e x nx env ds rs n i) : 0 ≤ r.pref ∧ r.pref ≤ 1000 := by
  simp only [candL, List.mem_append, List.mem_flatMap] at h
  rcases h with (h | h) | ⟨j, hj, h⟩
  · unfold ownC at h
    split at h
    · rw [List.mem_singleton] at h; subst h; exact ⟨by show (0 : Int) ≤ 200; omega, by show (200 : Int) ≤ 1000; omega⟩
    · cases h
  · unfold extC at h
    split at h
    · rw [List.mem_singleton] at h; subst h; exact ⟨by show (0 : Int) ≤ 100; omega, by show (100 : Int) ≤ 1000; omega⟩
    · cases h
  · unfold candOf at h
    split at h
    · cases h
    · split at h
      · cases h
      · cases hi : impR g nl x nx i j (rs j.toNat) with
        | none => rw [hi] at h; cases h
        | some q =>
          rw [hi] at h
          simp only [List.mem_singleton] at h
          subst h
          exact impK_pref (r0 := startI j (g (linkAt g nl i j).toNat 2) (rs j.toNat)) ⟨by show (0 : Int) ≤ 100; omega, by show (100 : Int) ≤ 1000; omega⟩ hx hi
/-- What is known of a stable state. -/
structure Fine (g : R) (nl : Nat) (ds : List Bool) (n : Nat) (rs : Rs) (vs : List Int) : Prop where
  right : routesB g nl n n rs = true
  up : anyDown g nl n ds rs = false
  via : ∀ i, i < n → zAt vs i = (rs i).via
  ends : ∀ i : Nat, i < n → ∃ m, m ≤ n ∧ cnt vs m (i : Int) = true
theorem state_fine {l : Nat → Nat} {s : Ss} {f : R} (hb : netB l s g o e x f = true) (he : ∀ i, 0 ≤ zAt env i) {zs : List Rt} (h : zs ∈ statesL g (l 1) o e x (l 4) env ds (l 0) (prod (fun i : Nat => optL g (l 1) o e env ds (l 0) (i : Int)) (l 0))) : zs.length = l 0 ∧ ∃ vs, Fine g (l 1) ds (l 0) (rF zs) vs := by
  obtain ⟨h4, h12, hk, hi⟩ := net_links hb
  have hn1 := one_router hb
  have hc := fun i hi => (link_facts (hk i hi) h4).2.2
  have hin := links_in hb
  unfold statesL at h
  obtain ⟨vs, hv, rfl⟩ := List.mem_map.1 h
  obtain ⟨hp, hg⟩ := List.mem_filter.1 hv
  unfold goodB at hg
  rw [Bool.and_eq_true] at hg
  obtain ⟨hok, hst⟩ := hg
  have hlen : (stateOf g (l 1) o e x (l 4) env ds (l 0) vs).length = l 0 := by unfold stateOf; simp
  have hR : ∀ i, i < l 0 → valR g (l 1) o e x (l 4) env ds vs (l 0) i = rF (stateOf g (l 1) o e x (l 4) env ds (l 0) vs) i := fun i hi => by
    unfold rF stateOf
    rw [List.getElem?_map, List.getElem?_range hi]
    rfl
  have hval : ∀ i, i < l 0 → val g (l 1) o e x (l 4) env ds vs (l 0) (i : Int) = some (valR g (l 1) o e x (l 4) env ds vs (l 0) i) := fun i hi => by
    have := allN_iff.1 hok i hi
    unfold valR
    cases hq : val g (l 1) o e x (l 4) env ds vs (l 0) (i : Int) with
    | none => rw [hq] at this; cases this
    | some r => rfl
  have hvia : ∀ i, i < l 0 → (valR g (l 1) o e x (l 4) env ds vs (l 0) i).via = zAt vs i := fun i hi => by
    have := val_via (hval i hi)
    rw [Int.toNat_natCast] at this
    exact this
  have hb3 := fun i hi => stab_via hn1 hst (i := i) hi
  have hv3 : ∀ i, -3 ≤ zAt vs i := fun i => by
    by_cases hi : i < l 0
    · rw [← hvia i hi]; exact (hb3 i hi).1
    · have hl : vs.length = l 0 := prod_len hp
      unfold zAt
      rw [List.getElem?_eq_none (by omega)]
      decide
  have hlen2 : ∀ i, i < l 0 → 0 ≤ (valR g (l 1) o e x (l 4) env ds vs (l 0) i).len ∧ (valR g (l 1) o e x (l 4) env ds vs (l 0) i).len ≤ 402 := fun i hi => by
    have := val_len hv3 hc (hval i hi)
    have h4' : ((l 0 : Nat) : Int) ≤ 4 := by omega
    omega
  have hcand : ∀ i, i < l 0 → (valR g (l 1) o e x (l 4) env ds vs (l 0) i = noRt) ∨ (valR g (l 1) o e x (l 4) env ds vs (l 0) i ∈ candL g (l 1) o e x (l 4) env ds (valR g (l 1) o e x (l 4) env ds vs (l 0)) (l 0) (i : Int)) := fun i hi => by
    rcases stab_or hst hi with h1 | h1
    · exact .inl h1.1
    · exact .inr h1
  have himp := hi
  have hlk : ∀ i, i < l 0 → 0 ≤ (valR g (l 1) o e x (l 4) env ds vs (l 0) i).via → 0 ≤ linkAt g (l 1) (i : Int) (valR g (l 1) o e x (l 4) env ds vs (l 0) i).via ∧ ds[(linkAt g (l 1) (i : Int) (valR g (l 1) o e x (l 4) env ds vs (l 0) i).via).toNat]?.getD false = false := fun i hi h0 => by
    rcases hcand i hi with h1 | h1
    · rw [h1] at h0; exact absurd h0 (by decide)
    · rcases cand_cases h1 with ⟨h2, _⟩ | ⟨h2, _⟩ | ⟨j, h2, hj, hm, _, _, h6⟩
      · omega
      · omega
      · rw [h2]
        refine ⟨h6, ?_⟩
        unfold nbL at hm
        simp only [List.mem_map, List.mem_filter, List.mem_range] at hm
        obtain ⟨k, ⟨_, hkb⟩, ek⟩ := hm
        have ek' : k = j := by omega
        subst ek'
        unfold nbB at hkb
        simp only [Bool.and_eq_true, Bool.not_eq_true'] at hkb
        exact hkb.2
  clear hi
  refine ⟨hlen, vs, ?_, ?_, fun i hi => ?_, fun i hi => ?_⟩
  · unfold routesB
    rw [decide_eq_true rfl, Bool.true_and]
    refine allN_of fun i hi => ?_
    rw [← hR i hi]
    rcases hcand i hi with h1 | h1
    · rw [h1]
      unfold routeB noneB noRt inB
      simp
      omega
    · have h5 := cand_pref (fun j hj => import_pref (himp j hj)) h1
      have h6 := hlen2 i hi
      have h7 := hlk i hi
      have h8 : -2 ≤ (valR g (l 1) o e x (l 4) env ds vs (l 0) i).via ∧ (valR g (l 1) o e x (l 4) env ds vs (l 0) i).via < (l 0 : Int) := by
        rcases cand_cases h1 with ⟨h2, _⟩ | ⟨h2, _⟩ | ⟨j, h2, hj, _⟩ <;> rw [h2] <;> omega
      generalize valR g (l 1) o e x (l 4) env ds vs (l 0) i = r at *
      unfold routeB inB
      simp only [Bool.and_eq_true, decide_eq_true_eq]
      refine ⟨⟨⟨⟨by omega, h5⟩, by omega⟩, ?_⟩, ?_⟩
      · by_cases h9 : 0 ≤ r.via
        · have := (h7 h9).1
          rw [decide_eq_false (show ¬ linkAt g (l 1) (i : Int) r.via < 0 by omega), Bool.and_false]
          rfl
        · rw [decide_eq_false h9, Bool.false_and]
          rfl
      · rw [decide_eq_false (show ¬ r.via = -3 by omega), Bool.false_and]
        rfl
  · unfold anyDown
    rw [allN_of (p := fun i => !downB g (l 1) ds i (rF (stateOf g (l 1) o e x (l 4) env ds (l 0) vs) i)) (fun i hi => ?_)]
    · rfl
    · rw [← hR i hi]
      unfold downB
      by_cases h9 : 0 ≤ linkAt g (l 1) (i : Int) (valR g (l 1) o e x (l 4) env ds vs (l 0) i).via
      · have h10 := (link_in hin h9).1
        rw [(hlk i hi h10).2, Bool.and_false]
        rfl
      · rw [decide_eq_false h9, Bool.false_and]
        rfl
  · rw [← hR i hi, hvia i hi]
  · obtain ⟨m, hm, hcn⟩ := val_cnt (by omega) (hval i hi)
    exact ⟨m, hm, hcn⟩
/-- How a way's last router stands to how it ends. -/
def LastOK (O v : Int) : Prop := (O = 1 ∧ v = -2) ∨ (O = 2 ∧ v = -1) ∨ (O = 3 ∧ v = -3) ∨ (O = 4 ∧ 0 ≤ v)
theorem out_last {f : R} {m : Nat} {a v port : Int} (hv : -3 ≤ v) (h : outAt f m a v port ≠ 0) : LastOK (outAt f m a v port) v := by
  unfold outAt at h ⊢
  unfold LastOK
  split
  · next h1 => exact .inl ⟨rfl, h1⟩
  · split
    · next h1 => exact .inr (.inl ⟨rfl, h1⟩)
    · split
      · next h1 => exact .inr (.inr (.inl ⟨rfl, h1⟩))
      · next h1 h2 h3 =>
        split
        · exact .inr (.inr (.inr ⟨rfl, by omega⟩))
        · next h4 => rw [if_neg h1, if_neg h2, if_neg h3, if_neg h4] at h; exact absurd rfl h
theorem way_facts {f : R} {m : Nat} {port : Int} {vs : List Int} (hv : Viable rs n) (hz : ∀ i, i < n → zAt vs i = (rs i).via) : ∀ (fuel : Nat) (a : Int) (k : Nat), cnt vs k a = true → k ≤ fuel → 0 ≤ a → a < n →
    (∀ y ∈ a :: wayR rs f m port fuel a, 0 ≤ y ∧ y < n) ∧ (∀ (j : Nat) (y z : Int), (a :: wayR rs f m port fuel a)[j]? = some y → (a :: wayR rs f m port fuel a)[j + 1]? = some z → (rs y.toNat).via = z) ∧ ∀ y, (a :: wayR rs f m port fuel a).getLast? = some y → LastOK (wayO rs f m port fuel a) (rs y.toNat).via
  | 0, a, k, hc, hk, h0, hn => by
    have : k = 0 := by omega
    subst this
    simp only [cnt, decide_eq_true_eq] at hc
    omega
  | fuel + 1, a, k, hc, hk, h0, hn => by
    have hi : a.toNat < n := by omega
    have hva := hv a.toNat hi
    by_cases ho : outAt f m a (rs a.toNat).via port = 0
    · obtain ⟨e1, e2⟩ := way_go (rs := rs) (n := fuel) ho
      have hnx := out_next ho hva.1
      obtain ⟨k', rfl, hc'⟩ := cnt_one hc h0
      rw [hz _ hi] at hc'
      obtain ⟨i1, i2, i3⟩ := way_facts (f := f) (m := m) (port := port) hv hz fuel (rs a.toNat).via k' hc' (by omega) hnx hva.2
      rw [e1, e2]
      refine ⟨fun y hy => ?_, fun j y z hy hz' => ?_, fun y hy => ?_⟩
      · rcases List.mem_cons.1 hy with rfl | hy
        · exact ⟨h0, hn⟩
        · exact i1 y hy
      · cases j with
        | zero =>
          simp only [List.getElem?_cons_zero, Option.some.injEq] at hy
          subst hy
          simpa using hz'
        | succ j =>
          simp only [List.getElem?_cons_succ] at hy hz'
          exact i2 j y z hy hz'
      · rw [List.getLast?_cons_cons] at hy
        exact i3 y hy
    · obtain ⟨e1, e2⟩ := way_stop (rs := rs) (n := fuel) ho
      rw [e1, e2]
      refine ⟨fun y hy => ?_, fun j y z hy hz' => ?_, fun y hy => ?_⟩
      · rw [List.mem_singleton] at hy; subst hy; exact ⟨h0, hn⟩
      · simp at hz'
      · simp only [List.getLast?_singleton, Option.some.injEq] at hy
        subst hy
        exact out_last hva.1 ho
end Go.Proofs.Ytjdeoiohbbnmeaa.walkMath
