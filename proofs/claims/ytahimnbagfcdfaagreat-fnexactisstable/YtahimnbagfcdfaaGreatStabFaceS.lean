/- IsStable, of the specification; conditions: none. -/
import Derived.Test.YtahimnbagfcdfaaGreatStabLaw
namespace Go.Proofs.YtahimnbagfcdfaaGreat.stabFaceS
open Go.RowKit Go.Deep Go base names netSem netSpec routeRow routesB routesSpec nbSem candSem candEnv candImp intsOwn candSpec candFace sceneFault sceneFace walkSem rtsRow stabImpl stabFace stabSpec stabLaw
set_option linter.unusedVariables false

set_option maxHeartbeats 3200000 in
set_option maxRecDepth 8000 in
theorem isStable_spec (p : Nat → Option Addr) (l c : Nat → Nat) (s : Ss) (g : R) (o e : List Int) (x f : R) (ea da ra : Option Addr) (el ec dl dc rl cr : Nat) (env : List Int) (ds : List Bool) (rs : Rs) (w : World) (h : NetIs w p l s g o e x f) (hc0 : l 0 ≤ c 0) (hc1 : l 1 ≤ c 1) (he : IntRow w ea el env) (hd : BoolRow w da dl ds) (hr : RtRow w ra rl rs) :
    Calls Tryz.prog 22 #[netV p l c, .slice ea el ec, .slice da dl dc, .slice ra rl cr] w fun e' w' => e' = .returned (.tuple #[.bool (stabA (rtC (netB l s g o e x f) (routesB g (l 1) (l 0) rl rs) el dl rl (l 3) (l 1) env) (stabB g (l 1) o e x (l 4) env ds rs (l 0))), .int .i64 (rtC (netB l s g o e x f) (routesB g (l 1) (l 0) rl rs) el dl rl (l 3) (l 1) env)]) ∧ Below w.heap.size w w' := by
  have HV := hid (fun (W : World) (hb : Below w.heap.size w W) => env_spec p l c s g o e x f ea da el ec dl dc env W (h.below hb) hc0 hc1 (he.below hb) hd.most)
  have HRt := hid (fun (W : World) (hb : Below w.heap.size w W) => routes_spec p l c s g ra rl cr rs W h.routers.most (h.links.below hb) (hr.below hb))
  have HN := hid h
  have HE := hid he
  have HD := hid hd
  have HR := hid hr
  have mr := hr.most
  unfold maxLen at mr
  clear h he hd hr hc0 hc1
  obtain ⟨ok, hok⟩ : ∃ b, netB l s g o e x f = b := ⟨_, rfl⟩
  obtain ⟨rb, hrb⟩ : ∃ b, routesB g (l 1) (l 0) rl rs = b := ⟨_, rfl⟩
  have HOK := hid hok
  have HRB := hid hrb
  rw [hok, hrb]
  simp only [hok] at HV
  simp only [hrb] at HRt
  clear hok hrb
  obtain ⟨C, hC⟩ : ∃ C, rtC ok rb el dl rl (l 3) (l 1) env = C := ⟨_, rfl⟩
  have HC := hid hC
  rw [hC]
  obtain ⟨S, hS⟩ : ∃ S, stabB g (l 1) o e x (l 4) env ds rs (l 0) = S := ⟨_, rfl⟩
  have HST := hid hS
  rw [hS]
  clear hC hS
  have C1 : ∀ w8 : World, Below ((w.alloc (.cells #[.slice (p 0) (l 0) (c 0), .slice (p 1) (l 1) (c 1), .slice (p 2) (l 2) (c 2), .slice (p 3) (l 3) (c 3), .slice (p 4) (l 4) (c 4), .slice (p 5) (l 5) (c 5)] 40))).heap.size (w.alloc (.cells #[.slice (p 0) (l 0) (c 0), .slice (p 1) (l 1) (c 1), .slice (p 2) (l 2) (c 2), .slice (p 3) (l 3) (c 3), .slice (p 4) (l 4) (c 4), .slice (p 5) (l 5) (c 5)] 40)) w8 → (w8.cell? ⟨w.heap.size, 0, none⟩ = some (.slice (p 0) (l 0) (c 0)) ∧ w8.cell? ⟨w.heap.size, 1, none⟩ = some (.slice (p 1) (l 1) (c 1)) ∧ w8.cell? ⟨w.heap.size, 2, none⟩ = some (.slice (p 2) (l 2) (c 2)) ∧ w8.cell? ⟨w.heap.size, 3, none⟩ = some (.slice (p 3) (l 3) (c 3)) ∧ w8.cell? ⟨w.heap.size, 4, none⟩ = some (.slice (p 4) (l 4) (c 4)) ∧ w8.cell? ⟨w.heap.size, 5, none⟩ = some (.slice (p 5) (l 5) (c 5))) ∧ Below w.heap.size w w8 :=
    fun w8 hb => ⟨⟨keep hb (by simp [go_sem]), keep hb (by simp [go_sem]), keep hb (by simp [go_sem]), keep hb (by simp [go_sem]), keep hb (by simp [go_sem]), keep hb (by simp [go_sem])⟩, (show Below w.heap.size w _ from (by repeat (first | exact Below.refl _ _ | assumption | refine Below.drew ?_ | refine Below.alloc ?_ (by first | exact Nat.le_refl _ | omega | (simp; done) | (simp; omega)) _ | refine Below.setCell ?_ (by first | exact Nat.le_refl _ | omega | (simp; done) | (simp; omega)) _))).trans (hb.mono (by simp))⟩
  have HC1 := hid C1
  clear C1
  unfold netV at HV HRt ⊢
  by_cases h1 : 4096 < rl
  · have d1 : decide ((4096 : Int) < (rl : Int)) = true := decide_eq_true (by omega)
    have e2 : C = 2 := by
      rw [← HC.out]
      unfold rtC; rw [if_pos (by omega)]
    clear HC
    subst e2
    go_enter Tryz.func22, Tryz.ntmps22
    go_wp2
    go_ret2
    exact ⟨two_rets rfl rfl, (by repeat (first | exact Below.refl _ _ | assumption | refine Below.drew ?_ | refine Below.alloc ?_ (by first | exact Nat.le_refl _ | omega | (simp; done) | (simp; omega)) _ | refine Below.setCell ?_ (by first | exact Nat.le_refl _ | omega | (simp; done) | (simp; omega)) _))⟩
  have d1 : decide ((4096 : Int) < (rl : Int)) = false := decide_eq_false (by omega)
  rw [env_code h1] at HC
  obtain ⟨D, hD⟩ : ∃ D, envC ok el dl (l 3) (l 1) env = D := ⟨_, rfl⟩
  have HDD := hid hD
  simp only [hD] at HV
  rw [hD] at HC
  clear hD
  go_enter Tryz.func22, Tryz.ntmps22
  go_wp2_with fail
  refine (HV.out _ (by repeat (first | exact Below.refl _ _ | assumption | refine Below.drew ?_ | refine Below.alloc ?_ (by first | exact Nat.le_refl _ | omega | (simp; done) | (simp; omega)) _ | refine Below.setCell ?_ (by first | exact Nat.le_refl _ | omega | (simp; done) | (simp; omega)) _))).mono ?_
  rintro e' w1 ⟨rfl, hb1⟩
  have H1 := hid hb1
  obtain ⟨⟨q0, q1, q2, q3, q4, q5⟩, hB⟩ := HC1.out _ hb1
  have B1 := hid hB
  clear hb1 hB
  by_cases h0 : D = 0
  case neg =>
    rw [if_neg h0] at HC
    have g1 : (D != 0) = true := by simp [h0]
    have e2 := HC.out
    have HA : Hid (stabA D S = false) := if_neg h0
    clear h0
    subst e2
    go_wp2
    go_ret2
    exact ⟨two_rets HA.out.symm rfl, B1.out⟩
  rw [if_pos h0] at HC
  rw [h0] at HDD ⊢
  clear h0
  go_wp2_with fail
  refine (HRt.out _ B1.out).mono ?_
  rintro e' w2 ⟨rfl, hb2⟩
  have H2 := hid (H1.out.trans (hb2.mono H1.out.size))
  clear hb2 q0 q1 q2 q3 q4 q5 B1 H1
  obtain ⟨⟨q0, q1, q2, q3, q4, q5⟩, hB⟩ := HC1.out _ H2.out
  have B1 := hid hB
  clear hB
  cases rb with
  | false =>
    have e2 : C = 1 := by rw [← HC.out]; rfl
    clear HC
    subst e2
    go_wp2
    go_ret2
    exact ⟨two_rets rfl rfl, B1.out⟩
  | true =>
  rw [if_pos rfl] at HC
  have e2 : C = 0 := HC.out.symm
  clear HC
  subst e2
  have hz : rtC ok true el dl rl (l 3) (l 1) env = 0 := by rw [env_code h1, HDD.out]; rfl
  obtain ⟨f1, f2, f3, f4, f5⟩ := rt_zero hz
  subst f1
  obtain ⟨hrl, hgd⟩ := good_of HOK.out HRB.out
  have HGood := hid hgd
  clear hz f2 f5 hgd HV HRt HDD
  have HRl := hid (And.intro f3 (And.intro f4 hrl))
  have HCa : Hid (Calls Tryz.prog 51 #[netV p l c, .slice ea el ec, .slice da dl dc, .slice ra rl cr] w2 fun e' w' => e' = .returned (.bool S) ∧ Below w2.heap.size w2 w') := hid (by
    have hE := HE.out.below B1.out
    have hD := HD.out.below B1.out
    have hR := HR.out.below B1.out
    rw [HRl.out.1] at hE ⊢
    rw [HRl.out.2.1] at hD ⊢
    rw [HRl.out.2.2] at hR ⊢
    rw [← HST.out]
    exact stable_spec p l c s g o e x f ea da ra ec dc cr env ds rs w2 (HN.out.below B1.out) hE hD hR HGood.out)
  clear f3 f4 hrl
  unfold netV at HCa
  go_wp2_with fail
  refine HCa.out.mono ?_
  rintro e' w4 ⟨rfl, hb4⟩
  have HB4 := hid (B1.out.trans (hb4.mono B1.out.size))
  clear hb4
  go_wp2
  go_ret2
  exact ⟨two_rets (if_pos rfl).symm rfl, HB4.out⟩
end Go.Proofs.YtahimnbagfcdfaaGreat.stabFaceS
