/- Of the program: Candidates; conditions: none. -/
import Derived.Test.YtahimnbagfcdfaaGreatSceneNew
namespace Go.Proofs.YtahimnbagfcdfaaGreat.sceneFace
open Go.RowKit Go.Deep Go base netSem netImpl routeRow routesB nbSem candSem candImp hopSem intsOwn hopMake hopBetween sceneSem sceneFault sceneList sceneNew
set_option linter.unusedVariables false

/-- The code that Candidates tells. -/
def candC (ok rb : Bool) (el dl rl l0 l3 l1 : Nat) (env : List Int) (router : Int) : Int := if rtC ok rb el dl rl l3 l1 env = 0 then (if inB router 0 ((l0 : Int) - 1) = true then 0 else 5) else rtC ok rb el dl rl l3 l1 env

theorem net_links {l : Nat → Nat} {s : Ss} {g x f : R} {o e : List Int} (h : netB l s g o e x f = true) : l 0 ≤ 4 ∧ l 4 ≤ 12 ∧ (∀ i, i < l 1 → linkB g (l 0) i = true) ∧ ∀ i, i < l 4 → importB g (l 1) x i = true := by
  unfold netB routersB linksB importsB at h
  simp only [Bool.and_eq_true, decide_eq_true_eq, allN_iff] at h
  obtain ⟨⟨⟨⟨⟨⟨⟨h1, _⟩, ⟨_, h2⟩⟩, _⟩, _⟩, _⟩, ⟨h3, h4⟩⟩, _⟩ := h
  unfold inB at h1
  simp only [decide_eq_true_eq] at h1
  exact ⟨by omega, h3, h2, h4⟩
theorem link_facts {g : R} {r i : Nat} (h : linkB g r i = true) (hr : r ≤ 4) : (0 ≤ g i 0 ∧ g i 0 < 4 ∧ 0 ≤ g i 1 ∧ g i 1 < 4 ∧ g i 0 ≠ g i 1) ∧ linkAt g i (g i 0) (g i 1) < 0 ∧ 0 ≤ g i 2 ∧ g i 2 ≤ 100 := by
  unfold linkB inB at h
  simp only [Bool.and_eq_true, decide_eq_true_eq] at h
  obtain ⟨⟨⟨⟨⟨h1, h2⟩, h3, h4⟩, h5⟩, h6, h7⟩, h8⟩ := h
  exact ⟨⟨by omega, by omega, by omega, by omega, h5⟩, h8, by omega, by omega⟩
theorem import_facts {g x : R} {nl i : Nat} (h : importB g nl x i = true) (hg : ∀ j, j < nl → 0 ≤ g j 0 ∧ g j 0 < 4 ∧ 0 ≤ g j 1 ∧ g j 1 < 4 ∧ g j 0 ≠ g j 1) : (0 ≤ x i 0 ∧ x i 0 < 4 ∧ 0 ≤ x i 1 ∧ x i 1 < 4) ∧ 1 ≤ x i 3 ∧ x i 3 ≤ 4 := by
  unfold importB deedB inB at h
  simp only [Bool.and_eq_true, decide_eq_true_eq] at h
  obtain ⟨h1, ⟨_, h2, h3⟩, _⟩ := h
  obtain ⟨j, hj, hh⟩ := firstAt_spec.1 h1
  unfold hit at hh
  simp only [decide_eq_true_eq] at hh
  have := hg j hj
  refine ⟨?_, h2, h3⟩
  rcases hh with ⟨e1, e2⟩ | ⟨e1, e2⟩ <;> omega
theorem good_of {l : Nat → Nat} {s : Ss} {g x f : R} {o e : List Int} {rl : Nat} {rs : Rs} (h : netB l s g o e x f = true) (hr : routesB g (l 1) (l 0) rl rs = true) : rl = l 0 ∧ sceneBy.Good (l 0) l g x rs := by
  obtain ⟨h4, h12, hl, hi⟩ := net_links h
  have hgi := fun j hj => (link_facts (hl j hj) h4).1
  unfold routesB at hr
  simp only [Bool.and_eq_true, decide_eq_true_eq, allN_iff] at hr
  obtain ⟨e0, hr⟩ := hr
  subst e0
  have hrt : ∀ i, i < l 0 → (-3 ≤ (rs i).via ∧ (rs i).via < l 0) ∧ 0 ≤ (rs i).len ∧ (rs i).len ≤ 10000 := fun i hi => by
    have h := hr i hi
    unfold routeB inB at h
    simp only [Bool.and_eq_true, decide_eq_true_eq] at h
    obtain ⟨⟨⟨⟨⟨h1, h2⟩, _⟩, h5, h6⟩, _⟩, _⟩ := h
    exact ⟨⟨by omega, by omega⟩, h5, h6⟩
  exact ⟨rfl, ⟨h4, fun i hi => (link_facts (hl i hi) h4).2.1, fun i hi => (link_facts (hl i hi) h4).2.2, fun i h => (import_facts (hi i h) hgi).2, fun i hi => (hrt i hi).1, fun i hi => (hrt i hi).2⟩⟩

theorem rt_zero {ok rb : Bool} {el dl rl l3 l1 : Nat} {env : List Int} (h : rtC ok rb el dl rl l3 l1 env = 0) : ok = true ∧ rb = true ∧ el = l3 ∧ dl = l1 ∧ ∀ i, i < el → 0 ≤ zAt env i := by
  unfold rtC at h
  by_cases h1 : 4096 < el ∨ 4096 < dl ∨ 4096 < rl
  · rw [if_pos h1] at h; cases h
  rw [if_neg h1] at h
  by_cases h2 : arC ok el dl l3 l1 env = 0
  case neg => rw [if_neg h2] at h; exact absurd h h2
  rw [if_pos h2] at h
  unfold arC at h2
  cases rb with
  | false => cases h
  | true =>
  cases ok with
  | false => cases h2
  | true =>
  rw [if_neg (by decide)] at h2
  by_cases h3 : el ≠ l3 ∨ dl ≠ l1
  · rw [if_pos h3] at h2; cases h2
  rw [if_neg h3] at h2
  by_cases h4 : allN (fun i => inB (zAt env i) 0 2) el = true
  · refine ⟨rfl, rfl, by omega, by omega, fun i hi => ?_⟩
    have h5 := allN_iff.1 h4 i hi
    unfold inB at h5
    simp only [decide_eq_true_eq] at h5
    exact h5.1
  · rw [if_neg h4] at h2; cases h2

set_option maxHeartbeats 3200000 in
set_option maxRecDepth 8000 in
theorem candidates_impl (p : Nat → Option Addr) (l c : Nat → Nat) (s : Ss) (g : R) (o e : List Int) (x f : R) (router : Int) (ea da ra : Option Addr) (el ec dl dc rl cr : Nat) (env : List Int) (ds : List Bool) (rs : Rs) (w : World) (h : NetIs w p l s g o e x f) (hc0 : l 0 ≤ c 0) (hc1 : l 1 ≤ c 1) (he : IntRow w ea el env) (hd : BoolRow w da dl ds) (hr : RtRow w ra rl rs) :
    Calls Tryz.prog 12 #[netV p l c, .int .i64 router, .slice ea el ec, .slice da dl dc, .slice ra rl cr] w fun e' w' => ∃ v, e' = .returned (.tuple #[v, .int .i64 (candC (netB l s g o e x f) (routesB g (l 1) (l 0) rl rs) el dl rl (l 0) (l 3) (l 1) env router)]) ∧ OwnRts w.heap.size w' v (if candC (netB l s g o e x f) (routesB g (l 1) (l 0) rl rs) el dl rl (l 0) (l 3) (l 1) env router = 0 then candL g (l 1) o e x (l 4) env ds rs (l 0) router else []) ∧ Below w.heap.size w w' := by
  have HF := hid (fun (W : World) (hb : Below w.heap.size w W) => routes_fault p l c s g o e x f ea da ra el ec dl dc rl cr env rs W (h.below hb) hc0 hc1 (he.below hb) hd.most (hr.below hb) (fun hk => links_in hk))
  have HN := hid h
  have HE := hid he
  have HD := hid hd
  have HR := hid hr
  have M0 := hid h.routers.most
  have m0 := h.routers.most
  unfold maxLen at m0
  clear h he hd hr hc0 hc1
  obtain ⟨ok, hok⟩ : ∃ b, netB l s g o e x f = b := ⟨_, rfl⟩
  obtain ⟨rb, hrb⟩ : ∃ b, routesB g (l 1) (l 0) rl rs = b := ⟨_, rfl⟩
  have HOK := hid hok
  have HRB := hid hrb
  rw [hok, hrb]
  simp only [hok, hrb] at HF
  clear hok hrb
  obtain ⟨D, hD⟩ : ∃ D, rtC ok rb el dl rl (l 3) (l 1) env = D := ⟨_, rfl⟩
  have HDD := hid hD
  simp only [hD] at HF
  obtain ⟨C, hC⟩ : ∃ C, candC ok rb el dl rl (l 0) (l 3) (l 1) env router = C := ⟨_, rfl⟩
  have HC := hid hC
  rw [hC]
  obtain ⟨Z, hZ⟩ : ∃ Z, (if C = 0 then candL g (l 1) o e x (l 4) env ds rs (l 0) router else []) = Z := ⟨_, rfl⟩
  have HZl := hid hZ
  rw [hZ]
  unfold candC at HC
  rw [hD] at HC
  clear hC hD hZ
  have C1 : ∀ w8 : World, Below ((w.alloc (.cells #[.slice (p 0) (l 0) (c 0), .slice (p 1) (l 1) (c 1), .slice (p 2) (l 2) (c 2), .slice (p 3) (l 3) (c 3), .slice (p 4) (l 4) (c 4), .slice (p 5) (l 5) (c 5)] 40))).heap.size (w.alloc (.cells #[.slice (p 0) (l 0) (c 0), .slice (p 1) (l 1) (c 1), .slice (p 2) (l 2) (c 2), .slice (p 3) (l 3) (c 3), .slice (p 4) (l 4) (c 4), .slice (p 5) (l 5) (c 5)] 40)) w8 → (w8.cell? ⟨w.heap.size, 0, none⟩ = some (.slice (p 0) (l 0) (c 0)) ∧ w8.cell? ⟨w.heap.size, 1, none⟩ = some (.slice (p 1) (l 1) (c 1)) ∧ w8.cell? ⟨w.heap.size, 2, none⟩ = some (.slice (p 2) (l 2) (c 2)) ∧ w8.cell? ⟨w.heap.size, 3, none⟩ = some (.slice (p 3) (l 3) (c 3)) ∧ w8.cell? ⟨w.heap.size, 4, none⟩ = some (.slice (p 4) (l 4) (c 4)) ∧ w8.cell? ⟨w.heap.size, 5, none⟩ = some (.slice (p 5) (l 5) (c 5))) ∧ Below w.heap.size w w8 :=
    fun w8 hb => ⟨⟨keep hb (by simp [go_sem]), keep hb (by simp [go_sem]), keep hb (by simp [go_sem]), keep hb (by simp [go_sem]), keep hb (by simp [go_sem]), keep hb (by simp [go_sem])⟩, (show Below w.heap.size w _ from (by repeat (first | exact Below.refl _ _ | assumption | refine Below.drew ?_ | refine Below.alloc ?_ (by first | exact Nat.le_refl _ | omega | (simp; done) | (simp; omega)) _ | refine Below.setCell ?_ (by first | exact Nat.le_refl _ | omega | (simp; done) | (simp; omega)) _))).trans (hb.mono (by simp))⟩
  have HC1 := hid C1
  clear C1
  unfold netV at HF ⊢
  go_enter Tryz.func12, Tryz.ntmps12
  go_wp2_with fail
  refine (HF.out _ (by repeat (first | exact Below.refl _ _ | assumption | refine Below.drew ?_ | refine Below.alloc ?_ (by first | exact Nat.le_refl _ | omega | (simp; done) | (simp; omega)) _ | refine Below.setCell ?_ (by first | exact Nat.le_refl _ | omega | (simp; done) | (simp; omega)) _))).mono ?_
  rintro e' w1 ⟨rfl, hb1⟩
  obtain ⟨⟨q0, q1, q2, q3, q4, q5⟩, hB⟩ := HC1.out _ hb1
  have B1 := hid hB
  clear hb1 hB
  by_cases h0 : D = 0
  case neg =>
    rw [if_neg h0] at HC
    have d1 : (D != 0) = true := by simp [h0]
    have e2 := HC.out
    have eZ : Z = [] := by rw [← HZl.out, ← e2, if_neg h0]
    clear h0 HZl
    subst e2
    subst eZ
    go_wp2
    go_ret2
    exact ⟨_, rfl, ⟨rfl, .inl ⟨rfl, rfl⟩⟩, B1.out⟩
  rw [if_pos h0] at HC
  rw [h0] at HDD ⊢
  clear h0
  obtain ⟨I, hI⟩ : ∃ I, inB router 0 ((l 0 : Int) - 1) = I := ⟨_, rfl⟩
  have HI := hid hI
  rw [hI] at HC
  clear hI
  go_wp2_with fail
  refine (router_impl _ _ _ M0.out).mono ?_
  rintro e' w2 ⟨rfl, hw⟩
  have hw := hw.symm
  subst hw
  rw [HI.out]
  cases I with
  | false =>
    have e2 : C = 5 := by rw [← HC.out, if_neg (by decide)]
    have eZ : Z = [] := by rw [← HZl.out, e2, if_neg (by decide)]
    clear HZl
    subst e2
    subst eZ
    go_wp2
    go_ret2
    exact ⟨_, rfl, ⟨rfl, .inl ⟨rfl, rfl⟩⟩, B1.out⟩
  | true =>
  have e2 : C = 0 := by rw [← HC.out, if_pos rfl]
  have eZ : Z = candL g (l 1) o e x (l 4) env ds rs (l 0) router := by rw [← HZl.out, e2, if_pos rfl]
  have HZ := hid eZ
  clear HZl eZ HC
  subst e2
  obtain ⟨f1, f2, f3, f4, f5⟩ := rt_zero HDD.out
  subst f1 f2
  obtain ⟨hrl, hgd⟩ := good_of HOK.out HRB.out
  obtain ⟨n4, n12, nl, ni⟩ := net_links HOK.out
  have hgi := fun j hj => (link_facts (nl j hj) n4).1
  have HNew := hid (new_impl p l c s g o e x f ea da el ec dl dc env ds w1 (HN.out.below B1.out) (HE.out.below B1.out) (HD.out.below B1.out) f3 f4 hgi (fun i h => (import_facts (ni i h) hgi).1) n12)
  obtain ⟨r, hr⟩ : ∃ r : Nat, router = (r : Int) := by
    have h := HI.out
    unfold inB at h
    simp only [decide_eq_true_eq] at h
    exact ⟨router.toNat, by omega⟩
  have hrn : r < l 0 := by
    have h := HI.out
    unfold inB at h
    simp only [decide_eq_true_eq] at h
    omega
  subst hr
  have HGood := hid hgd
  have HEnv : Hid (∀ i, 0 ≤ zAt env i) := hid (fun i => by
    by_cases hi : i < el
    · exact f5 i hi
    · have hl := HE.out.length
      unfold zAt
      rw [List.getElem?_eq_none (by omega)]
      exact Int.le_refl _)
  have HRl := hid hrl
  clear f3 f4 f5 hgd n4 n12 nl ni hgi hrl HF
  unfold netV at HNew
  go_wp2_with fail
  refine HNew.out.mono ?_
  rintro e' w3 ⟨sb, b, F, rfl, hb3, hs3, hB3⟩
  have HS3 := hid hs3
  have HB3 := hid hB3
  have HR3 : Hid (RtRow w3 ra (l 0) rs) := hid (by rw [← HRl.out]; exact (HR.out.below B1.out).below hB3)
  have HNa : Hid (∀ a o, ra = some ⟨a, o, none⟩ → a ≠ b) := hid (fun a o ea => by
    obtain ⟨q', o', e', hc⟩ := (HR.out.below B1.out).cell 0 (by rw [HRl.out]; omega)
    rw [ea] at e'
    injection e' with e'
    injection e' with e1 e2
    subst e1
    have h8 : a < w1.heap.size := World.block_lt_of_cell? _ _ (hc 0 (by omega))
    omega)
  have HBb := hid hb3
  clear hs3 hB3 hb3
  have hrl : rl = l 0 := HRl.out
  subst hrl
  go_wp2_with fail
  refine (sceneCand.cand_impl sb b w1.heap.size F p l c g o e x ea da el ec dl dc env ds ra (l 0) cr rs r w3 HS3.out HGood.out HR3.out HNa.out hrn).mono ?_
  rintro e' w4 ⟨v, rfl, ho4, hs4, hg4⟩
  have HO4 : Hid (OwnRts w.heap.size w4 v Z) := hid (by
    rw [HZ.out, ← lst_cand _ _ _ _ _ _ _ _ _ _ _ HGood.out.few (fun i hi => (HGood.out.via i hi).2) HEnv.out]
    exact ho4.mono (Nat.le_trans B1.out.size HB3.out.size))
  have HB4 : Hid (Below w.heap.size w w4) := hid (by
    have hA := B1.out.trans (HB3.out.mono B1.out.size)
    have h7 := hA.size
    have h6 := B1.out.size
    have h5 := HBb.out
    exact { os := hg4.os.trans hA.os, tape := hg4.tape.trans hA.tape, output := hg4.output.trans hA.output, size := Nat.le_trans hA.size hg4.size, block := fun j hj => (hg4.block j (by omega) (fun e => by injection e with e; omega)).trans (hA.block j hj) })
  clear ho4 hs4 hg4
  go_wp2
  go_ret2
  exact ⟨_, rfl, HO4.out, HB4.out⟩
end Go.Proofs.YtahimnbagfcdfaaGreat.sceneFace
