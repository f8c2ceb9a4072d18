/- SettleSem; SettleImpl; SettleSpec: one text, so that the claim has fewer files. -/
import Derived.Test.YtmipoghemfopaaaGreatStabAll
import Derived.Test.YtmipoghemfopaaaGreatCandFace
/- Routers that choose anew, all at once, from nothing on, as plain functions; of no program; conditions: a right network. -/
namespace Go.Proofs.YtmipoghemfopaaaGreat.settleSem
open Go.RowKit Go.Deep Go base names netSem routeRow nbSem candSem sceneBy sceneFace rtsRow noRts bestAll stabImpl stabFace
set_option linter.unusedVariables false

/-- What all choose at once. -/
def stepS (g : R) (nl : Nat) (o e : List Int) (x : R) (nx : Nat) (env : List Int) (ds : List Bool) (n : Nat) (rs : Rs) : Rs := fun r : Nat => bst (candL g nl o e x nx env ds rs n (r : Int))
/-- What they have behind so many rounds. -/
def st (g : R) (nl : Nat) (o e : List Int) (x : R) (nx : Nat) (env : List Int) (ds : List Bool) (n : Nat) : Nat → Rs
  | 0 => noRs
  | t + 1 => stepS g nl o e x nx env ds n (st g nl o e x nx env ds n t)
theorem best_in (g : Rs) : ∀ k, ∃ i, i ≤ k ∧ bestTo g k = g i
  | 0 => ⟨0, Nat.le_refl _, rfl⟩
  | k + 1 => by
    simp only [bestTo]
    split
    · exact ⟨k + 1, Nat.le_refl _, rfl⟩
    · obtain ⟨i, hi, e⟩ := best_in g k
      exact ⟨i, by omega, e⟩
theorem rF_in {zs : List Rt} {i : Nat} (h : i < zs.length) : rF zs i ∈ zs := by
  unfold rF
  rw [List.getElem?_eq_getElem h]
  exact List.getElem_mem h
theorem bst_in (zs : List Rt) : bst zs = noRt ∨ bst zs ∈ zs := by
  unfold bst
  by_cases h : zs.length = 0
  · rw [if_pos h]; exact .inl rfl
  · rw [if_neg h]
    obtain ⟨i, hi, e⟩ := best_in (rF zs) (zs.length - 1)
    rw [e]
    exact .inr (rF_in (by omega))
variable {g : R} {nl nx : Nat} {o e : List Int} {x : R} {env : List Int} {ds : List Bool} {n : Nat} {rs : Rs} {router : Int} {B : Int}
theorem linkAt_lt {a b : Int} (h : 0 ≤ linkAt g nl a b) : linkAt g nl a b < nl := by
  unfold linkAt firstAt at h ⊢
  cases hf : (List.range nl).find? (hit g a b) with
  | none => rw [hf] at h; exact absurd h (by decide)
  | some i =>
    have := List.mem_range.1 (List.mem_of_find?_eq_some hf)
    show (i : Int) < nl
    omega
theorem cand_bounds (hc : ∀ i, i < nl → 0 ≤ g i 2 ∧ g i 2 ≤ 100) (hl : ∀ i, i < n → 0 ≤ (rs i).len ∧ (rs i).len ≤ B) (hB : 2 ≤ B) : ∀ r ∈ candL g nl o e x nx env ds rs n router, (-3 ≤ r.via ∧ r.via < n ∨ r.via = -1 ∨ r.via = -2) ∧ 0 ≤ r.len ∧ r.len ≤ B + 100 := by
  intro r hr
  simp only [candL, List.mem_append, List.mem_flatMap] at hr
  rcases hr with (hr | hr) | ⟨j, hj, hr⟩
  · unfold ownC at hr
    split at hr
    · simp only [List.mem_singleton] at hr; subst hr; exact ⟨.inr (.inr rfl), by show (0 : Int) ≤ 0; omega, by show (0 : Int) ≤ _; omega⟩
    · cases hr
  · unfold extC at hr
    split at hr
    · simp only [List.mem_singleton] at hr; subst hr; exact ⟨.inr (.inl rfl), by show (0 : Int) ≤ 2; omega, by show (2 : Int) ≤ _; omega⟩
    · cases hr
  · unfold nbL at hj
    simp only [List.mem_map, List.mem_filter, List.mem_range] at hj
    obtain ⟨k, ⟨hk, hb⟩, rfl⟩ := hj
    unfold nbB at hb
    simp only [Bool.and_eq_true, decide_eq_true_eq] at hb
    have hlk : (linkAt g nl router (k : Int)).toNat < nl := by
      have h1 := linkAt_lt hb.1
      omega
    unfold candOf at hr
    split at hr
    · cases hr
    · split at hr
      · cases hr
      · cases hi : impR g nl x nx router (k : Int) (rs (k : Int).toNat) with
        | none => rw [hi] at hr; cases hr
        | some q =>
          rw [hi] at hr
          simp only [List.mem_singleton] at hr
          subst hr
          obtain ⟨h1, h2⟩ := impK_via (show impK x router (k : Int) (startI (k : Int) (g (linkAt g nl router (k : Int)).toNat 2) (rs (k : Int).toNat)) nx = some r from hi)
          have e1 : (k : Int).toNat = k := by omega
          rw [e1] at h1 h2
          have h3 := hl k hk
          have h4 := hc _ hlk
          refine ⟨.inl ?_, ?_, ?_⟩
          · rw [h1]; show -3 ≤ (k : Int) ∧ (k : Int) < n; omega
          · rw [h2]; show 0 ≤ (rs k).len + g (linkAt g nl router (k : Int)).toNat 2; omega
          · rw [h2]; show (rs k).len + g (linkAt g nl router (k : Int)).toNat 2 ≤ B + 100; omega
theorem st_bounds (hc : ∀ i, i < nl → 0 ≤ g i 2 ∧ g i 2 ≤ 100) (hn : 1 ≤ n) : ∀ t i, (-3 ≤ (st g nl o e x nx env ds n t i).via ∧ (st g nl o e x nx env ds n t i).via < n) ∧ 0 ≤ (st g nl o e x nx env ds n t i).len ∧ (st g nl o e x nx env ds n t i).len ≤ 2 + 100 * (t : Int)
  | 0, i => by
    show (-3 ≤ (-3 : Int) ∧ (-3 : Int) < n) ∧ (0 : Int) ≤ 0 ∧ (0 : Int) ≤ _
    omega
  | t + 1, i => by
    have ih := st_bounds hc hn t
    show (-3 ≤ (bst (candL g nl o e x nx env ds (st g nl o e x nx env ds n t) n (i : Int))).via ∧ _) ∧ _
    rcases bst_in (candL g nl o e x nx env ds (st g nl o e x nx env ds n t) n (i : Int)) with h | h
    · have e1 : st g nl o e x nx env ds n (t + 1) i = noRt := h
      rw [e1]
      rw [h]
      show (-3 ≤ (-3 : Int) ∧ (-3 : Int) < n) ∧ (0 : Int) ≤ 0 ∧ (0 : Int) ≤ _
      omega
    · have h2 := cand_bounds hc (fun i _ => (ih i).2) (by omega) _ h
      have e1 : st g nl o e x nx env ds n (t + 1) i = bst (candL g nl o e x nx env ds (st g nl o e x nx env ds n t) n (i : Int)) := rfl
      rw [e1]
      omega
theorem good_any {l : Nat → Nat} {s : Ss} {g x f : R} {o e : List Int} {rs : Rs} (h : netB l s g o e x f = true) (hv : ∀ i, i < l 0 → -3 ≤ (rs i).via ∧ (rs i).via < l 0) (hl : ∀ i, i < l 0 → 0 ≤ (rs i).len ∧ (rs i).len ≤ 20000) : sceneBy.Good (l 0) l g x rs := by
  obtain ⟨h4, h12, hk, hi⟩ := net_links h
  have hgi := fun j hj => (link_facts (hk j hj) h4).1
  exact ⟨h4, fun i hi => (link_facts (hk i hi) h4).2.1, fun i hi => (link_facts (hk i hi) h4).2.2, fun i h => (import_facts (hi i h) hgi).2, hv, hl⟩
theorem st_good {l : Nat → Nat} {s : Ss} {g x f : R} {o e o' e' : List Int} (h : netB l s g o e x f = true) (t : Nat) (ht : t ≤ 101) : sceneBy.Good (l 0) l g x (st g (l 1) o' e' x (l 4) env ds (l 0) t) := by
  obtain ⟨h4, h12, hk, hi⟩ := net_links h
  have hc := fun i hi => (link_facts (hk i hi) h4).2.2
  have hn := one_router h
  exact good_any h (fun i _ => (st_bounds hc hn t i).1) (fun i _ => by have := (st_bounds (o := o') (e := e') (x := x) (nx := l 4) (env := env) (ds := ds) hc hn t i).2; omega)
/-- The first round behind which all would choose the same again; -1: none up to the last. -/
def setAt (g : R) (nl : Nat) (o e : List Int) (x : R) (nx : Nat) (env : List Int) (ds : List Bool) (n rounds : Nat) : Int := firstAt (fun t => stabB g nl o e x nx env ds (st g nl o e x nx env ds n t) n) (rounds + 1)
end Go.Proofs.YtmipoghemfopaaaGreat.settleSem

/- Settle, of the program; conditions: none. -/
namespace Go.Proofs.YtmipoghemfopaaaGreat.settleImpl
open Go.RowKit Go.Deep Go base names netSem routeRow nbSem candSem candImp hopSem intsOwn hopMake hopBetween sceneSem sceneOpen sceneBy candSpec sceneCand sceneList sceneFault sceneNew sceneFace walkSem routesB netImpl noRts rtsRow bestFace bestAll stabImpl stabFace candEnv candFace settleSem
set_option linter.unusedVariables false

/-- The code: what is told ahead; rounds out of their range; none of the states is stable. -/
def setC (D rounds a : Int) : Int := if D = 0 then (if inB rounds 0 100 = true then (if a < 0 then 8 else 0) else 5) else D
theorem flat_len (zs : List Rt) : (zs.flatMap rcs).length = zs.length * 4 := by
  induction zs with
  | nil => rfl
  | cons a zs ih =>
    simp only [List.flatMap_cons, List.length_append, ih, List.length_cons]
    show 4 + _ = _
    omega
theorem own_of_laid {w : World} {N n B : Nat} {g : Rs} (h : RtLaid w N n n g) (hB : B ≤ N) (hm : n ≤ maxLen) : OwnRts B w (.slice (some ⟨N, 0, none⟩) n n) ((List.range n).map g) := by
  obtain ⟨f, ⟨cur, hh, hs, hc⟩, hf⟩ := h.row
  obtain ⟨zs, hz⟩ : ∃ zs, (List.range n).map g = zs := ⟨_, rfl⟩
  have hl : zs.length = n := by rw [← hz]; simp
  have hg : ∀ i, i < n → rF zs i = g i := fun i hi => by
    rw [← hz]
    unfold rF
    rw [List.getElem?_map, List.getElem?_range hi]
    rfl
  rw [hz]
  refine ⟨flat_len zs, .inr ⟨N, n, cur, by rw [hl], hB, hh, by omega, hm, hs, ?_⟩⟩
  apply List.ext_getElem?
  intro i
  by_cases hi : i < n * 4
  · have h7 := flat_at zs (i / 4) (i % 4) (by omega) (by omega)
    rw [show i / 4 * 4 + i % 4 = i by omega, hg _ (by omega)] at h7
    rw [h7, List.getElem?_take_of_lt (by omega)]
    have h8 := hf (i / 4) (by omega) (i % 4) (by omega)
    rw [show i / 4 * 4 + i % 4 = i by omega] at h8
    rw [← h8]
    simpa using hc i hi
  · rw [List.getElem?_eq_none (by rw [List.length_take]; omega), List.getElem?_eq_none (by rw [flat_len]; omega)]
theorem scene_code {ok : Bool} {el dl l3 l1 : Nat} {env : List Int} : (if 4096 < el ∨ 4096 < dl ∨ 4096 < 0 then 2 else arC ok el dl l3 l1 env) = envC ok el dl l3 l1 env := by
  unfold envC arC
  by_cases h1 : 4096 < el ∨ 4096 < dl
  · rw [if_pos (by omega), if_pos h1]
  · rw [if_neg (by omega), if_neg h1]
theorem env_zero {ok : Bool} {el dl l3 l1 : Nat} {env : List Int} (h : envC ok el dl l3 l1 env = 0) : ok = true ∧ el = l3 ∧ dl = l1 ∧ ∀ i, i < el → 0 ≤ zAt env i := by
  obtain ⟨h1, _, h2⟩ := rt_zero (ok := ok) (rb := true) (el := el) (dl := dl) (rl := 0) (l3 := l3) (l1 := l1) (env := env) (by rw [env_code (by omega), h, if_pos rfl, if_pos rfl])
  exact ⟨h1, h2⟩
theorem na_of {N b : Nat} (h : N ≠ b) : ∀ a o, (some ⟨N, 0, none⟩ : Option Addr) = some ⟨a, o, none⟩ → a ≠ b := fun a o e => by
  injection e with e
  injection e with e1 e2
  subst e1
  exact h

set_option maxHeartbeats 3200000 in
set_option maxRecDepth 8000 in
theorem settle_impl (p : Nat → Option Addr) (l c : Nat → Nat) (s : Ss) (g : R) (o e : List Int) (x f : R) (ea da : Option Addr) (el ec dl dc : Nat) (env : List Int) (ds : List Bool) (rounds : Int) (w : World) (h : NetIs w p l s g o e x f) (hc0 : l 0 ≤ c 0) (hc1 : l 1 ≤ c 1) (he : IntRow w ea el env) (hd : BoolRow w da dl ds) :
    Calls Tryz.prog 7 #[netV p l c, .slice ea el ec, .slice da dl dc, .int .i64 rounds] w fun e' w' => ∃ v, e' = .returned (.tuple #[v, .int .i64 (setC (envC (netB l s g o e x f) el dl (l 3) (l 1) env) rounds (setAt g (l 1) o e x (l 4) env ds (l 0) rounds.toNat))]) ∧ OwnRts w.heap.size w' v (if setC (envC (netB l s g o e x f) el dl (l 3) (l 1) env) rounds (setAt g (l 1) o e x (l 4) env ds (l 0) rounds.toNat) = 0 then (List.range (l 0)).map (st g (l 1) o e x (l 4) env ds (l 0) (setAt g (l 1) o e x (l 4) env ds (l 0) rounds.toNat).toNat) else []) ∧ Below w.heap.size w w' := by
  have HF : Hid (∀ (W : World) (hb : Below w.heap.size w W), Calls Tryz.prog 15 #[netV p l c, .slice ea el ec, .slice da dl dc, .int .i64 0] W fun e' w' => e' = .returned (.int .i64 (envC (netB l s g o e x f) el dl (l 3) (l 1) env)) ∧ Below W.heap.size W w') := hid (fun W hb => by
    have h9 := scene_fault p l c s g o e x f ea da el ec dl dc 0 env W (h.below hb) hc0 hc1 (he.below hb) hd.most (Nat.zero_le _)
    rw [scene_code] at h9
    exact h9)
  have HN := hid h
  have HE := hid he
  have HD := hid hd
  have M0 := hid h.routers.most
  clear h he hd hc0 hc1
  obtain ⟨ok, hok⟩ : ∃ b, netB l s g o e x f = b := ⟨_, rfl⟩
  have HOK := hid hok
  rw [hok]
  simp only [hok] at HF
  clear hok
  obtain ⟨D, hD⟩ : ∃ D, envC ok el dl (l 3) (l 1) env = D := ⟨_, rfl⟩
  have HDD := hid hD
  simp only [hD] at HF
  rw [hD]
  obtain ⟨A, hA⟩ : ∃ A, setAt g (l 1) o e x (l 4) env ds (l 0) rounds.toNat = A := ⟨_, rfl⟩
  have HAt := hid hA
  rw [hA]
  obtain ⟨C, hC⟩ : ∃ C, setC D rounds A = C := ⟨_, rfl⟩
  have HC := hid hC
  rw [hC]
  obtain ⟨Z, hZ⟩ : ∃ Z, (if C = 0 then (List.range (l 0)).map (st g (l 1) o e x (l 4) env ds (l 0) A.toNat) else []) = Z := ⟨_, rfl⟩
  have HZl := hid hZ
  rw [hZ]
  unfold setC at HC
  clear hC hD hZ hA
  have C1 : ∀ w8 : World, Below ((w.alloc (.cells #[.slice (p 0) (l 0) (c 0), .slice (p 1) (l 1) (c 1), .slice (p 2) (l 2) (c 2), .slice (p 3) (l 3) (c 3), .slice (p 4) (l 4) (c 4), .slice (p 5) (l 5) (c 5)] 29))).heap.size (w.alloc (.cells #[.slice (p 0) (l 0) (c 0), .slice (p 1) (l 1) (c 1), .slice (p 2) (l 2) (c 2), .slice (p 3) (l 3) (c 3), .slice (p 4) (l 4) (c 4), .slice (p 5) (l 5) (c 5)] 29)) w8 → (w8.cell? ⟨w.heap.size, 0, none⟩ = some (.slice (p 0) (l 0) (c 0)) ∧ w8.cell? ⟨w.heap.size, 1, none⟩ = some (.slice (p 1) (l 1) (c 1)) ∧ w8.cell? ⟨w.heap.size, 2, none⟩ = some (.slice (p 2) (l 2) (c 2)) ∧ w8.cell? ⟨w.heap.size, 3, none⟩ = some (.slice (p 3) (l 3) (c 3)) ∧ w8.cell? ⟨w.heap.size, 4, none⟩ = some (.slice (p 4) (l 4) (c 4)) ∧ w8.cell? ⟨w.heap.size, 5, none⟩ = some (.slice (p 5) (l 5) (c 5))) ∧ Below w.heap.size w w8 :=
    fun w8 hb => ⟨⟨keep hb (by simp [go_sem]), keep hb (by simp [go_sem]), keep hb (by simp [go_sem]), keep hb (by simp [go_sem]), keep hb (by simp [go_sem]), keep hb (by simp [go_sem])⟩, (show Below w.heap.size w _ from (by repeat (first | exact Below.refl _ _ | assumption | refine Below.drew ?_ | refine Below.alloc ?_ (by first | exact Nat.le_refl _ | omega | (simp; done) | (simp; omega)) _ | refine Below.setCell ?_ (by first | exact Nat.le_refl _ | omega | (simp; done) | (simp; omega)) _))).trans (hb.mono (by simp))⟩
  have HC1 := hid C1
  clear C1
  unfold netV at HF ⊢
  go_enter Tryz.func7, Tryz.ntmps7
  go_wp2_with fail
  refine (HF.out _ (by repeat (first | exact Below.refl _ _ | assumption | refine Below.drew ?_ | refine Below.alloc ?_ (by first | exact Nat.le_refl _ | omega | (simp; done) | (simp; omega)) _ | refine Below.setCell ?_ (by first | exact Nat.le_refl _ | omega | (simp; done) | (simp; omega)) _))).mono ?_
  rintro e' w1 ⟨rfl, hb1⟩
  obtain ⟨⟨q0, q1, q2, q3, q4, q5⟩, hB⟩ := HC1.out _ hb1
  have B1 := hid hB
  have hz1 : w.heap.size < w1.heap.size := by have := hb1.size; simp at this; omega
  clear hb1 hB
  by_cases h0 : D = 0
  case neg =>
    rw [if_neg h0] at HC
    have d1 : (D != 0) = true := by simp [h0]
    have e2 := HC.out
    have eZ : Z = [] := by rw [← HZl.out, ← e2, if_neg h0]
    clear h0 HZl
    subst e2
    subst eZ
    go_wp2
    go_ret2
    exact ⟨_, rfl, ⟨rfl, .inl ⟨rfl, rfl⟩⟩, B1.out⟩
  rw [if_pos h0] at HC
  rw [h0] at HDD ⊢
  clear h0
  obtain ⟨I, hI⟩ : ∃ I, inB rounds 0 100 = I := ⟨_, rfl⟩
  have HI := hid hI
  rw [hI] at HC
  clear hI
  go_wp2_with fail
  refine (within_impl _ _ _ _).mono ?_
  rintro e' w2 ⟨rfl, hw⟩
  have hw := hw.symm
  subst hw
  rw [HI.out]
  cases I with
  | false =>
    have e2 : C = 5 := by rw [← HC.out, if_neg (by decide)]
    have eZ : Z = [] := by rw [← HZl.out, e2, if_neg (by decide)]
    clear HZl
    subst e2
    subst eZ
    go_wp2
    go_ret2
    exact ⟨_, rfl, ⟨rfl, .inl ⟨rfl, rfl⟩⟩, B1.out⟩
  | true =>
  rw [if_pos rfl] at HC
  obtain ⟨f1, f3, f4, f5⟩ := env_zero HDD.out
  subst f1
  obtain ⟨n4, n12, nl, ni⟩ := net_links HOK.out
  have hgi := fun j hj => (link_facts (nl j hj) n4).1
  have HNew := hid (new_impl p l c s g o e x f ea da el ec dl dc env ds w1 (HN.out.below B1.out) (HE.out.below B1.out) (HD.out.below B1.out) f3 f4 hgi (fun i h => (import_facts (ni i h) hgi).1) n12)
  have hn1 : 1 ≤ l 0 := one_router HOK.out
  obtain ⟨t, ht⟩ : ∃ t : Nat, rounds = (t : Int) := by
    have h := HI.out
    unfold inB at h
    simp only [decide_eq_true_eq] at h
    exact ⟨rounds.toNat, by omega⟩
  have ht1 : t ≤ 100 := by
    have h := HI.out
    unfold inB at h
    simp only [decide_eq_true_eq] at h
    omega
  subst ht
  have HGood : Hid (∀ k, k ≤ 101 → sceneBy.Good (l 0) l g x (st g (l 1) o e x (l 4) env ds (l 0) k)) := hid (fun k hk => st_good HOK.out k hk)
  have HEnv : Hid (∀ i, 0 ≤ zAt env i) := hid (fun i => by
    by_cases hi : i < el
    · exact f5 i hi
    · have hl := HE.out.length
      unfold zAt
      rw [List.getElem?_eq_none (by omega)]
      exact Int.le_refl _)
  obtain ⟨S, hS⟩ : ∃ S, st g (l 1) o e x (l 4) env ds (l 0) = S := ⟨_, rfl⟩
  have HSt0 : Hid (S 0 = noRs) := hid (by rw [← hS]; rfl)
  have HNext : Hid (∀ k, k ≤ 101 → bests g (l 1) o e x (l 4) env ds (S k) (l 0) = S (k + 1)) := hid (fun k hk => by
    rw [← hS, bests_cand (HGood.out k hk).few (fun i hi => ((HGood.out k hk).via i hi).2) HEnv.out]
    rfl)
  rw [hS] at HGood HZl
  obtain ⟨T, hT⟩ : ∃ T : Nat → Bool, (fun k => stabB g (l 1) o e x (l 4) env ds (S k) (l 0)) = T := ⟨_, rfl⟩
  have HStab : Hid (∀ k, k ≤ 101 → sameTo (bests g (l 1) o e x (l 4) env ds (S k) (l 0)) (S k) (l 0) = T k) := hid (fun k hk => by
    rw [← hT, bests_cand (HGood.out k hk).few (fun i hi => ((HGood.out k hk).via i hi).2) HEnv.out]
    rfl)
  have HA2 : Hid (firstAt T (t + 1) = A) := hid (by
    rw [← HAt.out, ← hT, ← hS]
    rfl)
  clear f3 f4 f5 n12 nl ni hgi HF hS hT HAt
  unfold netV at HNew
  go_wp2_with fail
  refine HNew.out.mono ?_
  rintro e' w3 ⟨sb, b, F, rfl, hb3, hs3, hB3⟩
  have HS3 := hid hs3
  have HB3 := hid hB3
  have hz3 := hB3.size
  have hbw3 : b < w3.heap.size := by rcases hs3.ready with ⟨h1, _⟩ | ⟨V, F', hm⟩; exact h1.lt; exact hm.row.lt
  clear hs3 hB3
  have r0 : w3.cell? ⟨w.heap.size, 0, none⟩ = some (.slice (p 0) (l 0) (c 0)) := keep HB3.out q0
  go_wp2_with fail
  refine (noRoutes_impl (l 0) (by omega) _).mono ?_
  rintro e' w4 ⟨N, rfl, hN, hl4, hb4⟩
  have HL4 := hid hl4
  have HB4 := hid hb4
  have hz4 := hb4.size
  have hN4 : N < w4.heap.size := by obtain ⟨f, hf, -⟩ := hl4.row; exact hf.lt
  clear hl4 hb4
  have HBel : Hid (∀ W : World, w3.grownBy W (some b) → Below w.heap.size w W) := hid (fun W hg => by
    have hA := B1.out.trans (HB3.out.mono B1.out.size)
    have h7 := hA.size
    have h6 := B1.out.size
    exact { os := hg.os.trans hA.os, tape := hg.tape.trans hA.tape, output := hg.output.trans hA.output, size := Nat.le_trans hA.size hg.size, block := fun j hj => (hg.block j (by omega) (fun e => by injection e with e; omega)).trans (hA.block j hj) })
  have HHit : Hid (∀ k, k ≤ t → T k = true → (∀ j, j < k → T j = false) → C = 0 ∧ Z = (List.range (l 0)).map (S k)) := hid (fun k hk h1 h2 => by
    have eA : A = (k : Int) := by rw [← HA2.out]; exact firstAt_hit (by omega) h1 h2
    have eC : C = 0 := by rw [← HC.out, if_neg (by omega)]
    refine ⟨eC, ?_⟩
    rw [← HZl.out, if_pos eC, eA, Int.toNat_natCast])
  have HMiss : Hid ((∀ j, j < t + 1 → T j = false) → C = 8 ∧ Z = []) := hid (fun h => by
    have eA : A = -1 := by rw [← HA2.out]; exact firstAt_none h
    have eC : C = 8 := by rw [← HC.out, if_pos (by omega)]
    refine ⟨eC, ?_⟩
    rw [← HZl.out, eC, if_neg (by decide)])
  clear HC HZl HA2 HDD HI HC1 B1 HB3 HEnv HN HE HD HNew q0 q1 q2 q3 q4 q5 r0
  go_wp2
  go_loopw [32, 12] (fun i v wr => ∃ k N : Nat, k ≤ t ∧ i = .int .i64 k ∧ v = .slice (some ⟨N, 0, none⟩) (l 0) (l 0) ∧ (∀ j, j < k → T j = false) ∧ w3.heap.size ≤ N ∧ N < wr.heap.size ∧ RtLaid wr N (l 0) (l 0) (S k) ∧ Sc sb b w1.heap.size F p l c g o e x ea da el ec dl dc env ds wr ∧ w3.grownBy wr (some b)) (fun i _ _ => t - (intOf i).toNat)
  case atStart => exact ⟨0, N, Nat.zero_le _, rfl, rfl, fun j hj => absurd hj (Nat.not_lt_zero _), hN, hN4, by rw [HSt0.out]; exact HL4.out, HS3.out.below HB4.out, grown_of_below HB4.out _⟩
  case round =>
    clear HL4 HB4 hN hN4 HS3
    obtain ⟨k, N, hk, rfl, rfl, hf, hN, hNw, hl, hs, hg⟩ := hrel
    have HFs := hid hf
    have HRow := hid (hl.is M0.out)
    have HL := hid hl
    have HSr := hid hs
    have HG := hid hg
    have hNb : N ≠ b := by omega
    have hNB : w.heap.size ≤ N := by omega
    clear hf hl hs hg
    obtain ⟨y, hy⟩ : ∃ y, T k = y := ⟨_, rfl⟩
    have HY := hid hy
    have HSt := hid (HStab.out k (by omega))
    rw [hy] at HSt
    clear hy
    by_cases hlt : k < t
    · go_wp2_with fail
      refine (stable_impl (some ⟨N, 0, none⟩) (l 0) (l 0) (S k) HSr.out (HGood.out k (by omega)) HRow.out (na_of hNb) hn1).mono ?_
      rintro e' w5 ⟨rfl, hs5, hg5⟩
      rw [HSt.out]
      have HS5 := hid hs5
      have HG5 := hid (gtrans HG.out hg5)
      have HL5 := hid (laid_block HL.out (hg5.block N hNw (fun e => by injection e with e; exact hNb e)))
      have HR5 := hid (HL5.out.is M0.out)
      have hN5 : N < w5.heap.size := Nat.lt_of_lt_of_le hNw hg5.size
      have hz5 := HG5.out.size
      clear hs5 hg5 HSr HG HL HRow
      cases y with
      | true =>
        obtain ⟨eC, eZ⟩ := HHit.out k hk HY.out HFs.out
        subst eC
        have HZ := hid eZ
        clear eZ HHit HMiss
        go_wp2_with fail
        refine (stable_impl (some ⟨N, 0, none⟩) (l 0) (l 0) (S k) HS5.out (HGood.out k (by omega)) HR5.out (na_of hNb) hn1).mono ?_
        rintro e' w6 ⟨rfl, hs6, hg6⟩
        rw [HSt.out]
        have HB6 := hid (HBel.out _ (gtrans HG5.out hg6))
        have HO6 : Hid (OwnRts w.heap.size w6 (.slice (some ⟨N, 0, none⟩) (l 0) (l 0)) Z) := hid (by
          rw [HZ.out]
          exact own_of_laid (laid_block HL5.out (hg6.block N hN5 (fun e => by injection e with e; exact hNb e))) hNB M0.out)
        clear hs6 hg6
        go_wp2
        go_ret2
        exact ⟨_, rfl, HO6.out, HB6.out⟩
      | false =>
        have HNx := hid (HNext.out k (by omega))
        go_wp2_with fail
        refine (best_all (some ⟨N, 0, none⟩) (l 0) (l 0) (S k) HS5.out (HGood.out k (by omega)) HR5.out (na_of hNb) hn1).mono ?_
        rintro e' w6 ⟨N', rfl, hN', hl6, hs6, hg6⟩
        rw [HNx.out] at hl6
        have HL6 := hid hl6
        have HS6 := hid hs6
        have HG6 := hid (gtrans HG5.out hg6)
        have hN6 : N' < w6.heap.size := by obtain ⟨f, hf, -⟩ := hl6.row; exact hf.lt
        clear hl6 hs6 hg6
        go_wp2
        go_roundw
        case rel =>
          exact ⟨k + 1, N', by omega, by go_num, rfl, fun j hj => by
            by_cases e1 : j = k
            · subst e1; exact HY.out
            · exact HFs.out j (by omega), by omega, hN6, HL6.out, HS6.out, HG6.out⟩
        case measure => simp [intOf]; omega
    · have e1 : k = t := by omega
      subst e1
      go_wp2_with fail
      refine (stable_impl (some ⟨N, 0, none⟩) (l 0) (l 0) (S k) HSr.out (HGood.out k (by omega)) HRow.out (na_of hNb) hn1).mono ?_
      rintro e' w5 ⟨rfl, hs5, hg5⟩
      rw [HSt.out]
      have HB5 := hid (HBel.out _ (gtrans HG.out hg5))
      have HL5 := hid (laid_block HL.out (hg5.block N hNw (fun e => by injection e with e; exact hNb e)))
      clear hs5 hg5
      cases y with
      | true =>
        obtain ⟨eC, eZ⟩ := HHit.out k hk HY.out HFs.out
        subst eC
        have HO5 : Hid (OwnRts w.heap.size w5 (.slice (some ⟨N, 0, none⟩) (l 0) (l 0)) Z) := hid (by
          rw [eZ]
          exact own_of_laid HL5.out hNB M0.out)
        clear eZ HHit HMiss
        go_wp2
        go_ret2
        exact ⟨_, rfl, HO5.out, HB5.out⟩
      | false =>
        obtain ⟨eC, eZ⟩ := HMiss.out (fun j hj => by
          by_cases e1 : j = k
          · subst e1; exact HY.out
          · exact HFs.out j (by omega))
        subst eC
        subst eZ
        clear HHit HMiss
        go_wp2
        go_ret2
        exact ⟨_, rfl, ⟨rfl, .inl ⟨rfl, rfl⟩⟩, HB5.out⟩
end Go.Proofs.YtmipoghemfopaaaGreat.settleImpl

/- Settle, of the specification; conditions: none. -/
namespace Go.Proofs.YtmipoghemfopaaaGreat.settleSpec
open Go.RowKit Go.Deep Go base names netSem netSpec routeRow routesB routesSpec nbSem candSem candEnv candImp intsOwn candSpec candFace sceneFault sceneFace walkSem rtsRow noRts bestRoute bestFace bestAll stabImpl stabFace stabSpec stabLaw settleSem settleImpl
set_option linter.unusedVariables false

theorem rF_map {g : Rs} {n i : Nat} (hi : i < n) : rF ((List.range n).map g) i = g i := by
  unfold rF
  rw [List.getElem?_map, List.getElem?_range hi]
  rfl
theorem row_of {B n : Nat} {w : World} {v : Value} {g : Rs} (h : OwnRts B w v ((List.range n).map g)) : ∃ a c, v = .slice a n c ∧ RtRow w a n g := by
  obtain ⟨a, c, e, hr⟩ := rts_form h
  rw [show ((List.range n).map g).length = n by simp] at e hr
  refine ⟨a, c, e, hr.most, fun i hi => ?_⟩
  obtain ⟨b, off, e2, hc⟩ := hr.cell i hi
  refine ⟨b, off, e2, fun j hj => ?_⟩
  rw [hc j hj, rF_map hi]
theorem same_next (g g' : Rs) (m : Nat) : sameTo g g' (m + 1) = (sameTo g g' m && eqR (g m) (g' m)) := by
  unfold sameTo allN
  rw [List.range_succ, List.all_append]
  simp
theorem at_addr {w : World} {b off n i : Nat} {g : Rs} (h : RtRow w (some ⟨b, off, none⟩) n g) (hi : i < n) : w.cell? ⟨b, off + i * 4, none⟩ = some (.int .i64 (g i).via) ∧ w.cell? ⟨b, off + i * 4 + 1, none⟩ = some (.int .i64 (g i).pref) ∧ w.cell? ⟨b, off + i * 4 + 2, none⟩ = some (.int .i64 (g i).len) ∧ w.cell? ⟨b, off + i * 4 + 3, none⟩ = some (.bool (g i).mark) := by
  obtain ⟨b', off', e, hc⟩ := h.at4 hi
  injection e with e
  injection e with e1 e2
  subst e1
  subst e2
  exact hc
theorem none_map (n : Nat) : List.replicate n noRt = (List.range n).map noRs := List.ext_getElem (by simp) (fun i h1 h2 => by simp [noRs])

set_option maxHeartbeats 3200000 in
set_option maxRecDepth 8000 in
theorem settle_spec (p : Nat → Option Addr) (l c : Nat → Nat) (s : Ss) (g : R) (o e : List Int) (x f : R) (ea da : Option Addr) (el ec dl dc : Nat) (env : List Int) (ds : List Bool) (rounds : Int) (w : World) (h : NetIs w p l s g o e x f) (hc0 : l 0 ≤ c 0) (hc1 : l 1 ≤ c 1) (he : IntRow w ea el env) (hd : BoolRow w da dl ds) :
    Calls Tryz.prog 8 #[netV p l c, .slice ea el ec, .slice da dl dc, .int .i64 rounds] w fun e' w' => ∃ v, e' = .returned (.tuple #[v, .int .i64 (setC (envC (netB l s g o e x f) el dl (l 3) (l 1) env) rounds (setAt g (l 1) o e x (l 4) env ds (l 0) rounds.toNat))]) ∧ OwnRts w.heap.size w' v (if setC (envC (netB l s g o e x f) el dl (l 3) (l 1) env) rounds (setAt g (l 1) o e x (l 4) env ds (l 0) rounds.toNat) = 0 then (List.range (l 0)).map (st g (l 1) o e x (l 4) env ds (l 0) (setAt g (l 1) o e x (l 4) env ds (l 0) rounds.toNat).toNat) else []) ∧ Below w.heap.size w w' := by
  have HV := hid (fun (W : World) (hb : Below w.heap.size w W) => env_spec p l c s g o e x f ea da el ec dl dc env W (h.below hb) hc0 hc1 (he.below hb) hd.most)
  have HN := hid h
  have HE := hid he
  have HD := hid hd
  have M0 := hid h.routers.most
  clear h he hd hc0 hc1
  obtain ⟨ok, hok⟩ : ∃ b, netB l s g o e x f = b := ⟨_, rfl⟩
  have HOK := hid hok
  rw [hok]
  simp only [hok] at HV
  clear hok
  obtain ⟨D, hD⟩ : ∃ D, envC ok el dl (l 3) (l 1) env = D := ⟨_, rfl⟩
  have HDD := hid hD
  simp only [hD] at HV
  rw [hD]
  obtain ⟨A, hA⟩ : ∃ A, setAt g (l 1) o e x (l 4) env ds (l 0) rounds.toNat = A := ⟨_, rfl⟩
  have HAt := hid hA
  rw [hA]
  obtain ⟨C, hC⟩ : ∃ C, setC D rounds A = C := ⟨_, rfl⟩
  have HC := hid hC
  rw [hC]
  obtain ⟨Z, hZ⟩ : ∃ Z, (if C = 0 then (List.range (l 0)).map (st g (l 1) o e x (l 4) env ds (l 0) A.toNat) else []) = Z := ⟨_, rfl⟩
  have HZl := hid hZ
  rw [hZ]
  unfold setC at HC
  clear hC hD hZ hA
  have C1 : ∀ w8 : World, Below ((w.alloc (.cells #[.slice (p 0) (l 0) (c 0), .slice (p 1) (l 1) (c 1), .slice (p 2) (l 2) (c 2), .slice (p 3) (l 3) (c 3), .slice (p 4) (l 4) (c 4), .slice (p 5) (l 5) (c 5)] 29))).heap.size (w.alloc (.cells #[.slice (p 0) (l 0) (c 0), .slice (p 1) (l 1) (c 1), .slice (p 2) (l 2) (c 2), .slice (p 3) (l 3) (c 3), .slice (p 4) (l 4) (c 4), .slice (p 5) (l 5) (c 5)] 29)) w8 → (w8.cell? ⟨w.heap.size, 0, none⟩ = some (.slice (p 0) (l 0) (c 0)) ∧ w8.cell? ⟨w.heap.size, 1, none⟩ = some (.slice (p 1) (l 1) (c 1)) ∧ w8.cell? ⟨w.heap.size, 2, none⟩ = some (.slice (p 2) (l 2) (c 2)) ∧ w8.cell? ⟨w.heap.size, 3, none⟩ = some (.slice (p 3) (l 3) (c 3)) ∧ w8.cell? ⟨w.heap.size, 4, none⟩ = some (.slice (p 4) (l 4) (c 4)) ∧ w8.cell? ⟨w.heap.size, 5, none⟩ = some (.slice (p 5) (l 5) (c 5))) ∧ Below w.heap.size w w8 :=
    fun w8 hb => ⟨⟨keep hb (by simp [go_sem]), keep hb (by simp [go_sem]), keep hb (by simp [go_sem]), keep hb (by simp [go_sem]), keep hb (by simp [go_sem]), keep hb (by simp [go_sem])⟩, (show Below w.heap.size w _ from (by repeat (first | exact Below.refl _ _ | assumption | refine Below.drew ?_ | refine Below.alloc ?_ (by first | exact Nat.le_refl _ | omega | (simp; done) | (simp; omega)) _ | refine Below.setCell ?_ (by first | exact Nat.le_refl _ | omega | (simp; done) | (simp; omega)) _))).trans (hb.mono (by simp))⟩
  have HC1 := hid C1
  clear C1
  unfold netV at HV ⊢
  go_enter Tryz.func8, Tryz.ntmps8
  go_wp2_with fail
  refine (HV.out _ (by repeat (first | exact Below.refl _ _ | assumption | refine Below.drew ?_ | refine Below.alloc ?_ (by first | exact Nat.le_refl _ | omega | (simp; done) | (simp; omega)) _ | refine Below.setCell ?_ (by first | exact Nat.le_refl _ | omega | (simp; done) | (simp; omega)) _))).mono ?_
  rintro e' w1 ⟨rfl, hb1⟩
  have H1 := hid hb1
  obtain ⟨⟨q0, q1, q2, q3, q4, q5⟩, hB⟩ := HC1.out _ hb1
  have B1 := hid hB
  have hz1 : w.heap.size < w1.heap.size := by have := hb1.size; simp at this; omega
  clear hb1 hB
  by_cases h0 : D = 0
  case neg =>
    rw [if_neg h0] at HC
    have g1 : (D != 0) = true := by simp [h0]
    have e2 := HC.out
    have eZ : Z = [] := by rw [← HZl.out, ← e2, if_neg h0]
    clear h0 HZl
    subst e2
    subst eZ
    go_wp2
    go_ret2
    exact ⟨_, rfl, rts_empty _ _ _ B1.out.size rfl, B1.out.alloc B1.out.size _⟩
  rw [if_pos h0] at HC
  rw [h0] at HDD ⊢
  clear h0
  go_wp2_with fail
  refine (in_spec rounds 0 100 _).mono ?_
  rintro e' w3 ⟨rfl, hw⟩
  have hw := hw.symm
  subst hw
  obtain ⟨I, hI⟩ : ∃ I, inB rounds 0 100 = I := ⟨_, rfl⟩
  have HI := hid hI
  rw [hI] at HC ⊢
  clear hI
  cases I with
  | false =>
    have e2 : C = 5 := by rw [← HC.out, if_neg (by decide)]
    have eZ : Z = [] := by rw [← HZl.out, e2]; rfl
    clear HZl HC
    subst e2
    subst eZ
    go_wp2
    go_ret2
    exact ⟨_, rfl, rts_empty _ _ _ B1.out.size rfl, B1.out.alloc B1.out.size _⟩
  | true =>
  rw [if_pos rfl] at HC
  obtain ⟨f1, f3, f4, f5⟩ := env_zero HDD.out
  subst f1
  obtain ⟨n4, n12, nl, ni⟩ := net_links HOK.out
  have hn1 : 1 ≤ l 0 := one_router HOK.out
  obtain ⟨t, ht⟩ : ∃ t : Nat, rounds = (t : Int) := by
    have h := HI.out
    unfold inB at h
    simp only [decide_eq_true_eq] at h
    exact ⟨rounds.toNat, by omega⟩
  have ht1 : t ≤ 100 := by
    have h := HI.out
    unfold inB at h
    simp only [decide_eq_true_eq] at h
    omega
  subst ht
  subst f3
  subst f4
  have HGood : Hid (∀ k, k ≤ 101 → sceneBy.Good (l 0) l g x (st g (l 1) o e x (l 4) env ds (l 0) k)) := hid (fun k hk => st_good HOK.out k hk)
  obtain ⟨S, hS⟩ : ∃ S, st g (l 1) o e x (l 4) env ds (l 0) = S := ⟨_, rfl⟩
  have HSt0 : Hid (S 0 = noRs) := hid (by rw [← hS]; rfl)
  have HNext : Hid (∀ k m : Nat, S (k + 1) m = bst (candL g (l 1) o e x (l 4) env ds (S k) (l 0) (m : Int))) := hid (fun k m => by rw [← hS]; rfl)
  rw [hS] at HGood HZl
  obtain ⟨T, hT⟩ : ∃ T : Nat → Bool, (fun k => stabB g (l 1) o e x (l 4) env ds (S k) (l 0)) = T := ⟨_, rfl⟩
  have HT1 : Hid (∀ k, stabB g (l 1) o e x (l 4) env ds (S k) (l 0) = T k) := hid (fun k => by rw [← hT])
  have HT2 : Hid (∀ k, sameTo (S (k + 1)) (S k) (l 0) = T k) := hid (fun k => by rw [← hT, ← hS]; rfl)
  have HA2 : Hid (firstAt T (t + 1) = A) := hid (by
    rw [← HAt.out, ← hT, ← hS]
    rfl)
  have HHit : Hid (∀ k, k ≤ t → T k = true → (∀ j, j < k → T j = false) → C = 0 ∧ Z = (List.range (l 0)).map (S k)) := hid (fun k hk h1 h2 => by
    have eA : A = (k : Int) := by rw [← HA2.out]; exact firstAt_hit (by omega) h1 h2
    have eC : C = 0 := by rw [← HC.out, if_neg (by omega)]
    refine ⟨eC, ?_⟩
    rw [← HZl.out, if_pos eC, eA, Int.toNat_natCast])
  have HMiss : Hid ((∀ j, j < t + 1 → T j = false) → C = 8 ∧ Z = []) := hid (fun h => by
    have eA : A = -1 := by rw [← HA2.out]; exact firstAt_none h
    have eC : C = 8 := by rw [← HC.out, if_pos (by omega)]
    refine ⟨eC, ?_⟩
    rw [← HZl.out, eC, if_neg (by decide)])
  have HCa : Hid (∀ (W : World) (k m : Nat) (ra : Option Addr) (cr : Nat), k ≤ 101 → Below w.heap.size w W → RtRow W ra (l 0) (S k) → Calls Tryz.prog 25 #[netV p l c, .int .i64 (m : Int), .slice ea (l 3) ec, .slice da (l 1) dc, .slice ra (l 0) cr] W fun e' w' => ∃ v, e' = .returned v ∧ OwnRts W.heap.size w' v (candL g (l 1) o e x (l 4) env ds (S k) (l 0) (m : Int)) ∧ Below W.heap.size W w') :=
    hid (fun W k m ra cr hk hb hr => cand_spec p l c s g o e x f (m : Int) ea da ra ec dc cr env ds (S k) W (HN.out.below hb) (HE.out.below hb) (HD.out.below hb) hr (HGood.out k hk).few (HGood.out k hk).cost (fun i hi => ((HGood.out k hk).via i hi).2) (HGood.out k hk).len)
  have HSta : Hid (∀ (W : World) (k : Nat) (ra : Option Addr) (cr : Nat), k ≤ 101 → Below w.heap.size w W → RtRow W ra (l 0) (S k) → Calls Tryz.prog 26 #[netV p l c, .slice ea (l 3) ec, .slice da (l 1) dc, .slice ra (l 0) cr] W fun e' w' => e' = .returned (.bool (T k)) ∧ Below W.heap.size W w') :=
    hid (fun W k ra cr hk hb hr => by
      rw [← HT1.out k]
      exact stable_spec p l c s g o e x f ea da ra ec dc cr env ds (S k) W (HN.out.below hb) (HE.out.below hb) (HD.out.below hb) hr (HGood.out k hk))
  unfold netV at HCa HSta
  have HK : Hid (∀ W : World, Below w1.heap.size w1 W → W.cell? ⟨w.heap.size, 0, none⟩ = some (.slice (p 0) (l 0) (c 0)) ∧ W.cell? ⟨w.heap.size, 1, none⟩ = some (.slice (p 1) (l 1) (c 1)) ∧ W.cell? ⟨w.heap.size, 2, none⟩ = some (.slice (p 2) (l 2) (c 2)) ∧ W.cell? ⟨w.heap.size, 3, none⟩ = some (.slice (p 3) (l 3) (c 3)) ∧ W.cell? ⟨w.heap.size, 4, none⟩ = some (.slice (p 4) (l 4) (c 4)) ∧ W.cell? ⟨w.heap.size, 5, none⟩ = some (.slice (p 5) (l 5) (c 5))) := hid (fun W hb => ⟨keep hb q0, keep hb q1, keep hb q2, keep hb q3, keep hb q4, keep hb q5⟩)
  clear f5 n12 nl ni HV hS hT HAt HC HZl HA2 HDD HI HC1 HN HE HD HT1 H1 HGood
  obtain ⟨i0, hi, hzz⟩ := Option.map_eq_some_iff.1 info_Route
  simp only [Prod.mk.injEq] at hzz
  obtain ⟨hz0, hz1', hz2⟩ := hzz
  have HIn := hid hi
  have HZ0 := hid hz0
  have HZ1 := hid hz1'
  have HZ2 := hid hz2
  clear hi hz0 hz1' hz2
  have HK0 : Hid (∀ W : World, Below w1.heap.size w1 W → W.cell? ⟨w.heap.size, 0, none⟩ = some (.slice (p 0) (l 0) (c 0))) := hid (fun W hb => keep hb q0)
  go_wp2
  go_loopw [12, 11] (fun i v wr => ∃ k : Nat, k ≤ l 0 ∧ i = .int .i64 k ∧ OwnRts w1.heap.size wr v (List.replicate k noRt) ∧ Below w1.heap.size w1 wr) (fun i _ _ => l 0 - (intOf i).toNat)
  case atStart => exact ⟨0, Nat.zero_le _, rfl, rts_empty _ _ _ (Nat.le_refl _) rfl, (Below.refl _ w1).alloc (Nat.le_refl _) _⟩
  case round =>
    obtain ⟨k, hk, rfl, ho, hbr⟩ := hrel
    have HO := hid ho
    have HBr := hid hbr
    have hsr := hbr.size
    have c0' := HK0.out _ hbr
    have hrl : (List.replicate k noRt).length = k := List.length_replicate
    clear ho hbr q0 q1 q2 q3 q4 q5
    by_cases hlt : k < l 0
    · go_wp2_with fail
      refine (routesSpec.none_spec _).mono ?_
      rintro e' w6 ⟨rfl, hb6⟩
      have HB6 := hid hb6
      have HO6 := hid (rts_below HO.out hb6)
      have hz6 := hb6.size
      clear hb6 HO
      go_wp2_with (at_builtin
                   refine wpList_append_own_at _ rfl _ _ 34 rfl w1.heap.size 56 i0 _ 4 32 Tryz.underlying34 HIn.out HZ0.out HZ1.out HZ2.out rfl (by decide) _ _ _ rfl (World.ownsRow.alloc HO6.out _) ⟨_, 0, none⟩ 1 1 [.int .i64 (-3), .int .i64 0, .int .i64 0, .bool false] rfl rfl (cell_four _ _ _ _ _ _) (fun u hu => by simp at hu; first | (rcases hu with rfl | rfl | rfl | rfl <;> rfl) | (rcases hu with rfl | rfl | rfl <;> rfl)) (by rw [hrl]; unfold maxLen; omega) (by rw [hrl]; omega) (by simp; omega) ?_
                   intro v' w3 hown' hgrow3 hnil3 hat3
                   have HO3 : Hid (OwnRts w1.heap.size w3 v' (List.replicate (k + 1) noRt)) := hid (by rw [List.replicate_succ']; exact rts_add (r := noRt) hown')
                   have HB3 : Hid (Below w1.heap.size w1 w3) := hid (rts_grown (rts_below HO6.out ((Below.refl _ w6).alloc (Nat.le_refl _) _)) ((HBr.out.trans (HB6.out.mono hsr)).alloc (by omega) _) (by simp; omega) hgrow3)
                   clear hown' hgrow3 hnil3 hat3 HO6 HB6)
      go_roundw
      case rel => exact ⟨k + 1, by omega, by go_num, HO3.out, HB3.out⟩
      case measure => simp [intOf]; omega
    · have e1 : k = l 0 := by omega
      subst e1
      have HOn : Hid (OwnRts w1.heap.size wr u11 ((List.range (l 0)).map (S 0))) := hid (by rw [HSt0.out, ← none_map]; exact HO.out)
      clear HO hrl
      go_wp2
      go_loopw [13, 11] (fun i v wq => ∃ k : Nat, k ≤ t ∧ i = .int .i64 k ∧ OwnRts w1.heap.size wq v ((List.range (l 0)).map (S k)) ∧ Below w1.heap.size w1 wq ∧ ∀ j, j < k → T j = false) (fun i _ _ => t - (intOf i).toNat)
      case atStart => exact ⟨0, Nat.zero_le _, rfl, HOn.out, HBr.out, fun j hj => absurd hj (Nat.not_lt_zero _)⟩
      case round =>
        clear HOn HBr c0' hsr
        obtain ⟨k, hk, rfl, ho, hbr, hf⟩ := hrel
        have HFs := hid hf
        have HBr := hid hbr
        have hsr := hbr.size
        have HO := hid ho
        obtain ⟨av, cv, rfl, hrow⟩ := row_of ho
        have HRow := hid hrow
        have HBw := hid (B1.out.trans (hbr.mono B1.out.size))
        obtain ⟨q0, q1, q2, q3, q4, q5⟩ := HK.out _ hbr
        clear ho hbr hf hrow
        by_cases hlt : k < t
        · obtain ⟨b0, off0, era, -⟩ := HRow.out.at4 hn1
          subst era
          have hwq : ∃ W, W = wr := ⟨_, rfl⟩
          obtain ⟨wq, hwq⟩ := hwq
          subst hwq
          go_wp2
          go_loopw [16, 14, 15] (fun i v y w2 => ∃ m : Nat, m ≤ l 0 ∧ i = .int .i64 m ∧ y = .bool (sameTo (S (k + 1)) (S k) m) ∧ OwnRts wq.heap.size w2 v ((List.range m).map (S (k + 1))) ∧ Below wq.heap.size wq w2) (fun i _ _ _ => l 0 - (intOf i).toNat)
          case atStart => exact ⟨0, Nat.zero_le _, rfl, rfl, rts_empty _ _ _ (Nat.le_refl _) rfl, (Below.refl _ _).alloc (Nat.le_refl _) _⟩
          case round =>
            clear q0 q1 q2 q3 q4 q5
            obtain ⟨m, hm, rfl, rfl, ho2, hb2⟩ := hrel
            have HO2 := hid ho2
            have HB2 := hid hb2
            have hz2 := hb2.size
            have HB1w := hid (HBr.out.trans (hb2.mono hsr))
            obtain ⟨q0, q1, q2, q3, q4, q5⟩ := HK.out _ HB1w.out
            have HBw2 := hid (HBw.out.trans (hb2.mono HBw.out.size))
            have HRow2 := hid (HRow.out.below hb2)
            clear ho2 hb2
            by_cases hlt2 : m < l 0
            · have HSm := hid (HNext.out k m).symm
              have HCm := hid (HCa.out wr k m _ cv (by omega) HBw2.out HRow2.out)
              obtain ⟨zs, hzs⟩ : ∃ zs, candL g (l 1) o e x (l 4) env ds (S k) (l 0) (m : Int) = zs := ⟨_, rfl⟩
              have HV : Hid (∀ i, i < zs.length → (rF zs i).via ≠ -3) := fun i hi => by
                have h1 := rF_mem hi
                rw [← hzs] at h1
                rw [← hzs]
                exact cand_via _ h1
              rw [hzs] at HCm HSm
              clear hzs
              have HSame := hid (same_next (S (k + 1)) (S k) m)
              obtain ⟨Y, hY⟩ : ∃ Y, sameTo (S (k + 1)) (S k) m = Y := ⟨_, rfl⟩
              rw [hY] at HSame ⊢
              clear hY
              obtain ⟨r, hr⟩ : ∃ r, S (k + 1) m = r := ⟨_, rfl⟩
              rw [hr] at HSm HSame
              have HBb : Hid (bstK (rF zs) zs.length = r) := HSm.out
              have HR := hid hr
              clear hr
              go_wp2_with fail
              refine HCm.out.mono ?_
              rintro e' w6 ⟨v6, rfl, ho6, hb6⟩
              obtain ⟨ax, cx, rfl, hrow6⟩ := rts_form ho6
              have HRow6 := hid hrow6
              have HB6 := hid hb6
              clear ho6 hrow6 hb6
              go_wp2_with fail
              refine (best_of ax zs.length cx (rF zs) _ HRow6.out HV.out).mono ?_
              rintro e' w7 ⟨rfl, hb7⟩
              rw [HBb.out]
              have HB7 := hid (HB6.out.trans (hb7.mono HB6.out.size))
              have hz7 := HB7.out.size
              have HO7 := hid (rts_below HO2.out HB7.out)
              have hml : ((List.range m).map (S (k + 1))).length = m := by simp
              clear hb7 HB6 HRow6 HCm HV HBb HSm
              obtain ⟨y, hy⟩ : ∃ y, S k m = y := ⟨_, rfl⟩
              have HYk := hid hy
              rw [hy] at HSame
              clear hy
              obtain ⟨r0, r1, r2, r3⟩ := r
              obtain ⟨y0, y1, y2, y3⟩ := y
              unfold rtV
              dsimp only
              go_wp2_with (at_builtin
                           refine wpList_append_own_at _ rfl _ _ 34 rfl wq.heap.size 56 i0 _ 4 32 Tryz.underlying34 HIn.out HZ0.out HZ1.out HZ2.out rfl (by decide) _ _ _ rfl (World.ownsRow.alloc HO7.out _) ⟨_, 0, none⟩ 1 1 [.int .i64 r0, .int .i64 r1, .int .i64 r2, .bool r3] rfl rfl (cell_four _ _ _ _ _ _) (fun u hu => by simp at hu; rcases hu with rfl | rfl | rfl | rfl <;> rfl) (by rw [hml]; unfold maxLen; omega) (by rw [hml]; omega) (by simp; omega) ?_
                           intro v' w3 hown' hgrow3 hnil3 hat3
                           have HO3 : Hid (OwnRts wq.heap.size w3 v' ((List.range (m + 1)).map (S (k + 1)))) := hid (by rw [List.range_succ, List.map_append, List.map_cons, List.map_nil, HR.out]; exact rts_add hown')
                           have HB3 : Hid (Below wq.heap.size wq w3) := hid (rts_grown (rts_below HO7.out ((Below.refl _ w7).alloc (Nat.le_refl _) _)) ((HB2.out.trans (HB7.out.mono hz2)).alloc (by omega) _) (by simp; omega) hgrow3)
                           clear hown' hgrow3 hnil3 hat3 HO7 HB7
                           obtain ⟨a3, c3, rfl, hrow3⟩ := row_of HO3.out
                           obtain ⟨b3, off3, rfl, d0, d1, d2, d3⟩ := hrow3.at4 (i := m) (by omega)
                           obtain ⟨x0, x1, x2, x3⟩ := at_addr (HRow.out.below HB3.out) hlt2
                           rw [HR.out] at d0 d1 d2 d3
                           rw [HYk.out] at x0 x1 x2 x3
                           dsimp only at d0 d1 d2 d3 x0 x1 x2 x3
                           clear hrow3)
              cases Y with
              | false =>
                have HSn : Hid (Value.bool false = .bool (sameTo (S (k + 1)) (S k) (m + 1))) := hid (by rw [HSame.out]; rfl)
                clear HSame
                go_region
                all_goals
                  go_wp2
                  go_roundw
                  case rel => exact ⟨m + 1, by omega, by go_num, HSn.out, HO3.out, HB3.out.drew⟩
                  case measure => simp [intOf]; omega
              | true =>
                have HSn : Hid (∀ b : Bool, eqR ⟨r0, r1, r2, r3⟩ ⟨y0, y1, y2, y3⟩ = b → Value.bool b = .bool (sameTo (S (k + 1)) (S k) (m + 1))) := hid (fun b h => by rw [HSame.out, h]; cases b <;> rfl)
                clear HSame
                unfold eqR at HSn
                dsimp only at HSn
                by_cases e0 : r0 = y0
                case neg =>
                  have HSb := hid (HSn.out false (by simp [e0]))
                  have f0 : (r0 == y0) = false := by simp [e0]
                  go_region
                  all_goals
                    go_wp2
                    go_roundw
                    case rel => exact ⟨m + 1, by omega, by go_num, HSb.out, HO3.out, HB3.out.drew⟩
                    case measure => simp [intOf]; omega
                have e0 := e0.symm
                subst e0
                by_cases e1 : r1 = y1
                case neg =>
                  have HSb := hid (HSn.out false (by simp [e1]))
                  have f1 : (r1 == y1) = false := by simp [e1]
                  go_region
                  all_goals
                    go_wp2
                    go_roundw
                    case rel => exact ⟨m + 1, by omega, by go_num, HSb.out, HO3.out, HB3.out.drew⟩
                    case measure => simp [intOf]; omega
                have e1 := e1.symm
                subst e1
                by_cases e2 : r2 = y2
                case neg =>
                  have HSb := hid (HSn.out false (by simp [e2]))
                  have f2 : (r2 == y2) = false := by simp [e2]
                  go_region
                  all_goals
                    go_wp2
                    go_roundw
                    case rel => exact ⟨m + 1, by omega, by go_num, HSb.out, HO3.out, HB3.out.drew⟩
                    case measure => simp [intOf]; omega
                have e2 := e2.symm
                subst e2
                by_cases e3 : r3 = y3
                case neg =>
                  have HSb := hid (HSn.out false (by simp [e3]))
                  have f3 : (r3 == y3) = false := by simp [e3]
                  go_region
                  all_goals
                    go_wp2
                    go_roundw
                    case rel => exact ⟨m + 1, by omega, by go_num, HSb.out, HO3.out, HB3.out.drew⟩
                    case measure => simp [intOf]; omega
                have e3 := e3.symm
                subst e3
                have HSb := hid (HSn.out true (by simp))
                go_region
                all_goals
                  go_wp2
                  go_roundw
                  case rel => exact ⟨m + 1, by omega, by go_num, HSb.out, HO3.out, HB3.out.drew⟩
                  case measure => simp [intOf]; omega
            · have e1 : m = l 0 := by omega
              subst e1
              have HTk := hid (HT2.out k)
              rw [HTk.out]
              obtain ⟨y, hy⟩ : ∃ y, T k = y := ⟨_, rfl⟩
              have HY := hid hy
              rw [hy]
              clear hy
              cases y with
              | true =>
                obtain ⟨eC, eZ⟩ := HHit.out k hk HY.out HFs.out
                subst eC
                have HZ := hid eZ
                have HO5 := hid ((rts_below HO.out HB2.out).mono (Nat.le_of_lt hz1))
                clear eZ HHit HMiss
                go_wp2
                go_ret2
                exact ⟨_, rfl, by rw [HZ.out]; exact HO5.out, HBw2.out⟩
              | false =>
                go_wp2
                go_roundw
                case rel => exact ⟨k + 1, by omega, by go_num, HO2.out.mono hsr, HB1w.out, fun j hj => by
                  by_cases e1 : j = k
                  · subst e1; exact HY.out
                  · exact HFs.out j (by omega)⟩
                case measure => simp [intOf]; omega
        · have e1 : k = t := by omega
          subst e1
          go_wp2_with fail
          refine (HSta.out _ k av cv (by omega) HBw.out HRow.out).mono ?_
          rintro e' w5 ⟨rfl, hb5⟩
          have HO5 := hid ((rts_below HO.out hb5).mono (Nat.le_of_lt hz1))
          have HB5 := hid (HBw.out.trans (hb5.mono HBw.out.size))
          have hz5 := HB5.out.size
          clear hb5
          obtain ⟨y, hy⟩ : ∃ y, T k = y := ⟨_, rfl⟩
          have HY := hid hy
          rw [hy]
          clear hy
          cases y with
          | true =>
            obtain ⟨eC, eZ⟩ := HHit.out k hk HY.out HFs.out
            subst eC
            have HZ := hid eZ
            clear eZ HHit HMiss
            go_wp2
            go_ret2
            exact ⟨_, rfl, by rw [HZ.out]; exact HO5.out, HB5.out⟩
          | false =>
            obtain ⟨eC, eZ⟩ := HMiss.out (fun j hj => by
              by_cases e1 : j = k
              · subst e1; exact HY.out
              · exact HFs.out j (by omega))
            subst eC
            subst eZ
            clear HHit HMiss
            go_wp2
            go_ret2
            exact ⟨_, rfl, rts_empty _ _ _ hz5 rfl, HB5.out.alloc hz5 _⟩
end Go.Proofs.YtmipoghemfopaaaGreat.settleSpec
