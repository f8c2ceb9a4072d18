/- Of the specification: Candidates; conditions: none. -/
import Derived.Test.YtahimnbagfcdfaaGreatSceneAll
import Derived.Test.YtahimnbagfcdfaaGreatRoutesSpec
import Derived.Test.YtahimnbagfcdfaaGreatCandEnv
namespace Go.Proofs.YtahimnbagfcdfaaGreat.candFace
open Go.RowKit Go.Deep Go base netSem netSpec routeRow routesB routesSpec nbSem candSem candEnv candSpec sceneFault sceneFace
set_option linter.unusedVariables false

theorem env_code {ok rb : Bool} {el dl rl l3 l1 : Nat} {env : List Int} (h : ¬ 4096 < rl) : rtC ok rb el dl rl l3 l1 env = if envC ok el dl l3 l1 env = 0 then (if rb = true then 0 else 1) else envC ok el dl l3 l1 env := by
  unfold rtC envC arC
  by_cases h1 : 4096 < el ∨ 4096 < dl
  · rw [if_pos (by omega), if_pos h1]; rfl
  · rw [if_neg (by omega), if_neg h1]

set_option maxHeartbeats 3200000 in
set_option maxRecDepth 8000 in
theorem candidates_spec (p : Nat → Option Addr) (l c : Nat → Nat) (s : Ss) (g : R) (o e : List Int) (x f : R) (router : Int) (ea da ra : Option Addr) (el ec dl dc rl cr : Nat) (env : List Int) (ds : List Bool) (rs : Rs) (w : World) (h : NetIs w p l s g o e x f) (hc0 : l 0 ≤ c 0) (hc1 : l 1 ≤ c 1) (he : IntRow w ea el env) (hd : BoolRow w da dl ds) (hr : RtRow w ra rl rs) :
    Calls Tryz.prog 7 #[netV p l c, .int .i64 router, .slice ea el ec, .slice da dl dc, .slice ra rl cr] w fun e' w' => ∃ v, e' = .returned (.tuple #[v, .int .i64 (candC (netB l s g o e x f) (routesB g (l 1) (l 0) rl rs) el dl rl (l 0) (l 3) (l 1) env router)]) ∧ OwnRts w.heap.size w' v (if candC (netB l s g o e x f) (routesB g (l 1) (l 0) rl rs) el dl rl (l 0) (l 3) (l 1) env router = 0 then candL g (l 1) o e x (l 4) env ds rs (l 0) router else []) ∧ Below w.heap.size w w' := by
  have HV := hid (fun (W : World) (hb : Below w.heap.size w W) => env_spec p l c s g o e x f ea da el ec dl dc env W (h.below hb) hc0 hc1 (he.below hb) hd.most)
  have HRt := hid (fun (W : World) (hb : Below w.heap.size w W) => routes_spec p l c s g ra rl cr rs W h.routers.most (h.links.below hb) (hr.below hb))
  have HN := hid h
  have HE := hid he
  have HD := hid hd
  have HR := hid hr
  have m0 := h.routers.most
  have mr := hr.most
  unfold maxLen at m0 mr
  clear h he hd hr hc0 hc1
  obtain ⟨ok, hok⟩ : ∃ b, netB l s g o e x f = b := ⟨_, rfl⟩
  obtain ⟨rb, hrb⟩ : ∃ b, routesB g (l 1) (l 0) rl rs = b := ⟨_, rfl⟩
  have HOK := hid hok
  have HRB := hid hrb
  rw [hok, hrb]
  simp only [hok] at HV
  simp only [hrb] at HRt
  clear hok hrb
  obtain ⟨C, hC⟩ : ∃ C, candC ok rb el dl rl (l 0) (l 3) (l 1) env router = C := ⟨_, rfl⟩
  have HC := hid hC
  rw [hC]
  obtain ⟨Z, hZ⟩ : ∃ Z, (if C = 0 then candL g (l 1) o e x (l 4) env ds rs (l 0) router else []) = Z := ⟨_, rfl⟩
  have HZl := hid hZ
  rw [hZ]
  unfold candC at HC
  clear hC hZ
  have C1 : ∀ w8 : World, Below ((w.alloc (.cells #[.slice (p 0) (l 0) (c 0), .slice (p 1) (l 1) (c 1), .slice (p 2) (l 2) (c 2), .slice (p 3) (l 3) (c 3), .slice (p 4) (l 4) (c 4), .slice (p 5) (l 5) (c 5)] 40))).heap.size (w.alloc (.cells #[.slice (p 0) (l 0) (c 0), .slice (p 1) (l 1) (c 1), .slice (p 2) (l 2) (c 2), .slice (p 3) (l 3) (c 3), .slice (p 4) (l 4) (c 4), .slice (p 5) (l 5) (c 5)] 40)) w8 → (w8.cell? ⟨w.heap.size, 0, none⟩ = some (.slice (p 0) (l 0) (c 0)) ∧ w8.cell? ⟨w.heap.size, 1, none⟩ = some (.slice (p 1) (l 1) (c 1)) ∧ w8.cell? ⟨w.heap.size, 2, none⟩ = some (.slice (p 2) (l 2) (c 2)) ∧ w8.cell? ⟨w.heap.size, 3, none⟩ = some (.slice (p 3) (l 3) (c 3)) ∧ w8.cell? ⟨w.heap.size, 4, none⟩ = some (.slice (p 4) (l 4) (c 4)) ∧ w8.cell? ⟨w.heap.size, 5, none⟩ = some (.slice (p 5) (l 5) (c 5))) ∧ Below w.heap.size w w8 :=
    fun w8 hb => ⟨⟨keep hb (by simp [go_sem]), keep hb (by simp [go_sem]), keep hb (by simp [go_sem]), keep hb (by simp [go_sem]), keep hb (by simp [go_sem]), keep hb (by simp [go_sem])⟩, (show Below w.heap.size w _ from (by repeat (first | exact Below.refl _ _ | assumption | refine Below.drew ?_ | refine Below.alloc ?_ (by first | exact Nat.le_refl _ | omega | (simp; done) | (simp; omega)) _ | refine Below.setCell ?_ (by first | exact Nat.le_refl _ | omega | (simp; done) | (simp; omega)) _))).trans (hb.mono (by simp))⟩
  have HC1 := hid C1
  clear C1
  unfold netV at HV HRt ⊢
  by_cases h1 : 4096 < rl
  · have d1 : decide ((4096 : Int) < (rl : Int)) = true := decide_eq_true (by omega)
    have e2 : C = 2 := by
      rw [← HC.out]
      have h2 : rtC ok rb el dl rl (l 3) (l 1) env = 2 := by unfold rtC; rw [if_pos (by omega)]
      rw [h2]; rfl
    have eZ : Z = [] := by rw [← HZl.out, e2]; rfl
    clear HZl HC
    subst e2
    subst eZ
    go_enter Tryz.func7, Tryz.ntmps7
    go_wp2
    go_ret2
    exact ⟨_, rfl, rts_empty _ _ _ (by simp) (by simp), (by repeat (first | exact Below.refl _ _ | assumption | refine Below.drew ?_ | refine Below.alloc ?_ (by first | exact Nat.le_refl _ | omega | (simp; done) | (simp; omega)) _ | refine Below.setCell ?_ (by first | exact Nat.le_refl _ | omega | (simp; done) | (simp; omega)) _))⟩
  have d1 : decide ((4096 : Int) < (rl : Int)) = false := decide_eq_false (by omega)
  rw [env_code h1] at HC
  obtain ⟨D, hD⟩ : ∃ D, envC ok el dl (l 3) (l 1) env = D := ⟨_, rfl⟩
  have HDD := hid hD
  simp only [hD] at HV
  rw [hD] at HC
  clear hD
  go_enter Tryz.func7, Tryz.ntmps7
  go_wp2_with fail
  refine (HV.out _ (by repeat (first | exact Below.refl _ _ | assumption | refine Below.drew ?_ | refine Below.alloc ?_ (by first | exact Nat.le_refl _ | omega | (simp; done) | (simp; omega)) _ | refine Below.setCell ?_ (by first | exact Nat.le_refl _ | omega | (simp; done) | (simp; omega)) _))).mono ?_
  rintro e' w1 ⟨rfl, hb1⟩
  have H1 := hid hb1
  obtain ⟨⟨q0, q1, q2, q3, q4, q5⟩, hB⟩ := HC1.out _ hb1
  have B1 := hid hB
  clear hb1 hB
  by_cases h0 : D = 0
  case neg =>
    rw [if_neg h0, if_neg h0] at HC
    have g1 : (D != 0) = true := by simp [h0]
    have e2 := HC.out
    have eZ : Z = [] := by rw [← HZl.out, ← e2, if_neg h0]
    clear h0 HZl
    subst e2
    subst eZ
    go_wp2
    go_ret2
    exact ⟨_, rfl, rts_empty _ _ _ B1.out.size rfl, B1.out.alloc B1.out.size _⟩
  rw [if_pos h0] at HC
  rw [h0] at HDD ⊢
  clear h0
  go_wp2_with fail
  refine (HRt.out _ B1.out).mono ?_
  rintro e' w2 ⟨rfl, hb2⟩
  have H2 := hid (H1.out.trans (hb2.mono H1.out.size))
  clear hb2 q0 q1 q2 q3 q4 q5 B1 H1
  obtain ⟨⟨q0, q1, q2, q3, q4, q5⟩, hB⟩ := HC1.out _ H2.out
  have B1 := hid hB
  clear hB
  cases rb with
  | false =>
    have e2 : C = 1 := by rw [← HC.out]; rfl
    have eZ : Z = [] := by rw [← HZl.out, e2]; rfl
    clear HZl HC
    subst e2
    subst eZ
    go_wp2
    go_ret2
    exact ⟨_, rfl, rts_empty _ _ _ B1.out.size rfl, B1.out.alloc B1.out.size _⟩
  | true =>
  rw [if_pos rfl, if_pos rfl] at HC
  go_wp2_with fail
  refine (in_spec router 0 ((l 0 : Int) - 1) _).mono ?_
  rintro e' w3 ⟨rfl, hw⟩
  have hw := hw.symm
  subst hw
  obtain ⟨I, hI⟩ : ∃ I, inB router 0 ((l 0 : Int) - 1) = I := ⟨_, rfl⟩
  rw [hI] at HC ⊢
  clear hI
  cases I with
  | false =>
    have e2 : C = 5 := by rw [← HC.out]; rfl
    have eZ : Z = [] := by rw [← HZl.out, e2]; rfl
    clear HZl HC
    subst e2
    subst eZ
    go_wp2
    go_ret2
    exact ⟨_, rfl, rts_empty _ _ _ B1.out.size rfl, B1.out.alloc B1.out.size _⟩
  | true =>
  have e2 : C = 0 := by rw [← HC.out]; rfl
  have eZ : Z = candL g (l 1) o e x (l 4) env ds rs (l 0) router := by rw [← HZl.out, e2, if_pos rfl]
  have HZ := hid eZ
  clear HZl eZ HC
  subst e2
  have hz : rtC ok true el dl rl (l 3) (l 1) env = 0 := by rw [env_code h1, HDD.out]; rfl
  obtain ⟨f1, f2, f3, f4, f5⟩ := rt_zero hz
  subst f1
  obtain ⟨hrl, hgd⟩ := good_of HOK.out HRB.out
  have HGood := hid hgd
  clear hz f2 f5 hgd HV HRt HDD
  have HRl := hid (And.intro f3 (And.intro f4 hrl))
  have HCa : Hid (Calls Tryz.prog 32 #[netV p l c, .int .i64 router, .slice ea el ec, .slice da dl dc, .slice ra rl cr] w2 fun e' w' => ∃ v, e' = .returned v ∧ OwnRts w2.heap.size w' v Z ∧ Below w2.heap.size w2 w') := hid (by
    have hE := HE.out.below B1.out
    have hD := HD.out.below B1.out
    have hR := HR.out.below B1.out
    rw [HRl.out.1] at hE ⊢
    rw [HRl.out.2.1] at hD ⊢
    rw [HRl.out.2.2] at hR ⊢
    rw [HZ.out]
    exact cand_spec p l c s g o e x f router ea da ra ec dc cr env ds rs w2 (HN.out.below B1.out) hE hD hR HGood.out.few HGood.out.cost (fun i hi => (HGood.out.via i hi).2) HGood.out.len)
  clear f3 f4 hrl
  unfold netV at HCa
  go_wp2_with fail
  refine HCa.out.mono ?_
  rintro e' w4 ⟨v, rfl, ho4, hb4⟩
  have HO4 := hid (ho4.mono B1.out.size)
  have HB4 := hid (B1.out.trans (hb4.mono B1.out.size))
  clear ho4 hb4
  go_wp2
  go_ret2
  exact ⟨_, rfl, HO4.out, HB4.out⟩
end Go.Proofs.YtahimnbagfcdfaaGreat.candFace
