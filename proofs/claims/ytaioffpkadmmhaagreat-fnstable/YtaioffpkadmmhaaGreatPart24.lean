import Derived.Test.YtaioffpkadmmhaaGreatPart16
import Derived.Test.YtaioffpkadmmhaaGreatPart23
import Derived.Test.YtaioffpkadmmhaaGreatPart20
namespace Go.Proofs.YtaioffpkadmmhaaGreat.sceneFault
open Go.RowKit Go.Deep Go base copy names netSem netImpl netParts netFace netOKImpl routeRow routesB routesImpl candEnv
set_option linter.unusedVariables false
theorem env_cl (v : Int) (w : World) :
  Calls Tryz.prog 72 #[.int .i64 v] w fun e w' => e = .returned (.bool (inB v 0 2)) ∧ w' = w := by
 go_enter Tryz.func72, Tryz.ntmps72
 go_wp2_with (go_at_call 55; refine (within_impl _ _ _ _).mono ?_; rintro e w' ⟨rfl, rfl⟩)
 go_ret
 exact ⟨rfl, rfl⟩
set_option maxHeartbeats 800000 in
theorem all_env (a : Option Addr) (n c : Nat) (z : List Int) (w : World) (hx : IntRow w a n z) :
  Calls Tryz.prog 66 #[.slice a n c, .func (.func 72) #[] #[]] w fun e w' => e = .returned (.bool (allN (fun i => inB (zAt z i) 0 2) n)) ∧ w' = w := by
 have hmost := hx.most
 unfold maxLen at hmost
 have HX := hid hx
 clear hx
 go_enter Tryz.func66, Tryz.ntmps66
 go_wp2
 go_loop [9] (fun i => ∃ k : Nat, k ≤ n ∧ i = .int .i64 k ∧ ∀ j, j < k → inB (zAt z j) 0 2 = true) (fun i => n - (intOf i).toNat)
 case atStart => exact ⟨0, Nat.zero_le _, rfl, fun j hj => absurd hj (Nat.not_lt_zero _)⟩
 case round =>
  obtain ⟨k, hk, rfl, ha⟩ := hrel
  have HA := hid ha
  clear ha
  by_cases hlt : k < n
  · obtain ⟨b, off, rfl, hc⟩ := HX.out.cell k hlt
    have HQ : Hid (zAt z k = z[k]?.getD 0) := hid rfl
    generalize z[k]?.getD 0 = y at *
    obtain ⟨D, hD⟩ : ∃ D, inB y 0 2 = D := ⟨_, rfl⟩
    have HD := hid hD
    have HE : Hid (inB (zAt z k) 0 2 = D) := hid (by rw [HQ.out]; exact hD)
    clear hD
    go_wp2_with fail
    refine (env_cl y _).mono ?_
    rintro e' w1 ⟨rfl, hw⟩
    have hw := hw.symm
    subst hw
    rw [HD.out]
    cases D with
    | true =>
     go_wp2
     go_round
     case rel =>
      refine ⟨k + 1, by omega, by go_num, fun j hj => ?_⟩
      by_cases e : j = k
      · subst e; exact HE.out
      · exact HA.out j (by omega)
     case measure => simp [intOf]; omega
    | false =>
     go_wp2
     go_ret
     exact ⟨ret_bool (allN_false (p := fun i => inB (zAt z i) 0 2) hlt HE.out).symm, rfl⟩
  · have e : k = n := by omega
    subst e
    go_wp2
    go_ret
    exact ⟨ret_bool (allN_of (p := fun i => inB (zAt z i) 0 2) HA.out).symm, rfl⟩
def arC (ok : Bool) (el dl l3 l1 : Nat) (env : List Int) : Int := if ok = false then 1 else if el ≠ l3 ∨ dl ≠ l1 then 5 else if allN (fun i => inB (zAt env i) 0 2) el = true then 0 else 5
set_option maxHeartbeats 3200000 in
theorem around_impl (p : Nat → Option Addr) (l c : Nat → Nat) (s : Ss) (g : R) (o e : List Int) (x f : R) (ea da : Option Addr) (el ec dl dc : Nat) (env : List Int) (w : World) (h : NetIs w p l s g o e x f) (hc0 : l 0 ≤ c 0) (hc1 : l 1 ≤ c 1) (he : IntRow w ea el env) (hdl : dl ≤ maxLen) :
  Calls Tryz.prog 43 #[netV p l c, .slice ea el ec, .slice da dl dc] w fun e' w' => e' = .returned (.int .i64 (arC (netB l s g o e x f) el dl (l 3) (l 1) env)) ∧ Below w.heap.size w w' := by
 have HN := hid h
 have HE := hid he
 have K0 := hid hc0
 have K1 := hid hc1
 have m1 := h.links.most
 have m3 := h.externals.most
 have me := he.most
 unfold maxLen at m1 m3 me hdl
 clear h he hc0 hc1
 have C1 : ∀ w8 : World, Below ((w.alloc (.cells #[.slice (p 0) (l 0) (c 0), .slice (p 1) (l 1) (c 1), .slice (p 2) (l 2) (c 2), .slice (p 3) (l 3) (c 3), .slice (p 4) (l 4) (c 4), .slice (p 5) (l 5) (c 5)] 29))).heap.size (w.alloc (.cells #[.slice (p 0) (l 0) (c 0), .slice (p 1) (l 1) (c 1), .slice (p 2) (l 2) (c 2), .slice (p 3) (l 3) (c 3), .slice (p 4) (l 4) (c 4), .slice (p 5) (l 5) (c 5)] 29)) w8 → (w8.cell? ⟨w.heap.size, 1, none⟩ = some (.slice (p 1) (l 1) (c 1)) ∧ w8.cell? ⟨w.heap.size, 3, none⟩ = some (.slice (p 3) (l 3) (c 3))) ∧ IntRow w8 ea el env ∧ Below w.heap.size w w8 :=
  fun w8 hb => ⟨⟨keep hb (by simp [go_sem]), keep hb (by simp [go_sem])⟩, (HE.out.below (by repeat (first | exact Below.refl _ _ | assumption | refine Below.drew ?_ | refine Below.alloc ?_ (by first | exact Nat.le_refl _ | omega | (simp; done) | (simp; omega)) _ | refine Below.setCell ?_ (by first | exact Nat.le_refl _ | omega | (simp; done) | (simp; omega)) _))).below hb, (show Below w.heap.size w _ from (by repeat (first | exact Below.refl _ _ | assumption | refine Below.drew ?_ | refine Below.alloc ?_ (by first | exact Nat.le_refl _ | omega | (simp; done) | (simp; omega)) _ | refine Below.setCell ?_ (by first | exact Nat.le_refl _ | omega | (simp; done) | (simp; omega)) _))).trans (hb.mono (by simp))⟩
 have HC1 := hid C1
 clear C1
 obtain ⟨ok, hok⟩ : ∃ b, netB l s g o e x f = b := ⟨_, rfl⟩
 have HOK := hid hok
 rw [hok]
 clear hok
 obtain ⟨C, hC⟩ : ∃ C, arC ok el dl (l 3) (l 1) env = C := ⟨_, rfl⟩
 have HC := hid hC
 rw [hC]
 clear hC
 unfold arC at HC
 have hmf := mkfunc
 unfold netV
 go_enter Tryz.func43, Tryz.ntmps43
 go_wp2_with fail
 refine (netOK_impl p l c s g o e x f _ (HN.out.below (by repeat (first | exact Below.refl _ _ | assumption | refine Below.drew ?_ | refine Below.alloc ?_ (by first | exact Nat.le_refl _ | omega | (simp; done) | (simp; omega)) _ | refine Below.setCell ?_ (by first | exact Nat.le_refl _ | omega | (simp; done) | (simp; omega)) _))) K0.out K1.out).mono ?_
 rintro e' w1 ⟨rfl, hb1⟩
 rw [HOK.out]
 obtain ⟨⟨q1, q3⟩, hE1, hB⟩ := HC1.out _ hb1
 have E1 := hid hE1
 have B1 := hid hB
 clear hb1 hE1 hB
 cases ok with
 | false =>
  have e2 : C = 1 := by rw [← HC.out, if_pos rfl]
  subst e2
  go_wp2
  go_ret
  exact ⟨rfl, B1.out⟩
 | true =>
 rw [if_neg (by decide)] at HC
 by_cases h3 : el = l 3
 · have d3 : ((el : Int) != (l 3 : Int)) = false := by simp [h3]
   by_cases h4 : dl = l 1
   · have d4 : ((dl : Int) != (l 1 : Int)) = false := by simp [h4]
     rw [if_neg (by simp [h3, h4])] at HC
     clear h3 h4
     go_wp2_with fail
     refine (all_env ea el ec env _ E1.out).mono ?_
     rintro e' w2 ⟨rfl, hw⟩
     have hw := hw.symm
     subst hw
     obtain ⟨A, hA⟩ : ∃ A, allN (fun i => inB (zAt env i) 0 2) el = A := ⟨_, rfl⟩
     rw [hA] at HC ⊢
     clear hA
     cases A with
     | true =>
      have e2 : C = 0 := by rw [← HC.out, if_pos rfl]
      subst e2
      go_wp2
      go_ret
      exact ⟨rfl, B1.out⟩
     | false =>
      have e2 : C = 5 := by rw [← HC.out, if_neg (by decide)]
      subst e2
      go_wp2
      go_ret
      exact ⟨rfl, B1.out⟩
   · have d4 : ((dl : Int) != (l 1 : Int)) = true := by simp; omega
     have e2 : C = 5 := by rw [← HC.out, if_pos (.inr h4)]
     subst e2
     clear h4 h3
     go_wp2
     go_ret
     exact ⟨rfl, B1.out⟩
 · have d3 : ((el : Int) != (l 3 : Int)) = true := by simp; omega
   have e2 : C = 5 := by rw [← HC.out, if_pos (.inl h3)]
   subst e2
   clear h3
   go_wp2
   go_ret
   exact ⟨rfl, B1.out⟩
def rtC (ok rb : Bool) (el dl rl l3 l1 : Nat) (env : List Int) : Int := if 4096 < el ∨ 4096 < dl ∨ 4096 < rl then 2 else if arC ok el dl l3 l1 env = 0 then (if rb = true then 0 else 1) else arC ok el dl l3 l1 env
set_option maxHeartbeats 3200000 in
theorem run_max3 (a b c : Int) (W : World) : Sem.run Tryz.prog (Builtin.max_ #[3, 3, 3] 3 #[.int .i64 a, .int .i64 b, .int .i64 c]) W = .ok (.int .i64 (max (max a b) c)) W := by
 have h2 : ∀ (x y : Int) (W : World), Sem.run Tryz.prog (Builtin.max2 (.int .i64 x) (.int .i64 y)) W = .ok (.int .i64 (max x y)) W := by
  intro x y W
  simp [Builtin.max2, go_sem]
  omega
 unfold Builtin.max_
 simp [go_sem, h2]
set_option maxHeartbeats 3200000 in
theorem scene_fault (p : Nat → Option Addr) (l c : Nat → Nat) (s : Ss) (g : R) (o e : List Int) (x f : R) (ea da : Option Addr) (el ec dl dc ol : Nat) (env : List Int) (w : World) (h : NetIs w p l s g o e x f) (hc0 : l 0 ≤ c 0) (hc1 : l 1 ≤ c 1) (he : IntRow w ea el env) (hdl : dl ≤ maxLen) (hol : ol ≤ maxLen) :
  Calls Tryz.prog 23 #[netV p l c, .slice ea el ec, .slice da dl dc, .int .i64 (ol : Int)] w fun e' w' => e' = .returned (.int .i64 (if 4096 < el ∨ 4096 < dl ∨ 4096 < ol then 2 else arC (netB l s g o e x f) el dl (l 3) (l 1) env)) ∧ Below w.heap.size w w' := by
 have HA := hid (fun W hb => around_impl p l c s g o e x f ea da el ec dl dc env W (h.below hb) hc0 hc1 (he.below hb) hdl)
 have me := he.most
 unfold maxLen at me hdl hol
 clear h he hc0 hc1
 obtain ⟨C, hC⟩ : ∃ C, arC (netB l s g o e x f) el dl (l 3) (l 1) env = C := ⟨_, rfl⟩
 rw [hC]
 simp only [hC] at HA
 clear hC
 obtain ⟨M, hM⟩ : ∃ M, max (max (el : Int) (dl : Int)) (ol : Int) = M := ⟨_, rfl⟩
 have hrun : ∀ W : World, Sem.run Tryz.prog (Builtin.max_ #[3, 3, 3] 3 #[.int .i64 (el : Int), .int .i64 (dl : Int), .int .i64 (ol : Int)]) W = .ok (.int .i64 M) W := fun W => by rw [run_max3, hM]
 unfold netV at HA ⊢
 by_cases hl : 4096 < el ∨ 4096 < dl ∨ 4096 < ol
 · rw [if_pos hl]
   have d1 : decide ((4096 : Int) < M) = true := decide_eq_true (by omega)
   clear hM hl
   go_enter Tryz.func23, Tryz.ntmps23
   go_wp2
   go_ret
   exact ⟨rfl, (by repeat (first | exact Below.refl _ _ | assumption | refine Below.drew ?_ | refine Below.alloc ?_ (by first | exact Nat.le_refl _ | omega | (simp; done) | (simp; omega)) _ | refine Below.setCell ?_ (by first | exact Nat.le_refl _ | omega | (simp; done) | (simp; omega)) _))⟩
 · rw [if_neg hl]
   have d1 : decide ((4096 : Int) < M) = false := decide_eq_false (by omega)
   clear hM hl
   go_enter Tryz.func23, Tryz.ntmps23
   go_wp2_with fail
   refine (HA.out _ (by repeat (first | exact Below.refl _ _ | assumption | refine Below.drew ?_ | refine Below.alloc ?_ (by first | exact Nat.le_refl _ | omega | (simp; done) | (simp; omega)) _ | refine Below.setCell ?_ (by first | exact Nat.le_refl _ | omega | (simp; done) | (simp; omega)) _))).mono ?_
   rintro e' w1 ⟨rfl, hb1⟩
   have B1 := hid ((show Below w.heap.size w _ from (by repeat (first | exact Below.refl _ _ | assumption | refine Below.drew ?_ | refine Below.alloc ?_ (by first | exact Nat.le_refl _ | omega | (simp; done) | (simp; omega)) _ | refine Below.setCell ?_ (by first | exact Nat.le_refl _ | omega | (simp; done) | (simp; omega)) _))).trans (hb1.mono (by simp)))
   clear hb1
   go_wp2
   go_ret
   exact ⟨rfl, B1.out⟩
set_option maxHeartbeats 3200000 in
theorem routes_fault (p : Nat → Option Addr) (l c : Nat → Nat) (s : Ss) (g : R) (o e : List Int) (x f : R) (ea da ra : Option Addr) (el ec dl dc rl rc : Nat) (env : List Int) (rs : Rs) (w : World) (h : NetIs w p l s g o e x f) (hc0 : l 0 ≤ c 0) (hc1 : l 1 ≤ c 1) (he : IntRow w ea el env) (hdl : dl ≤ maxLen) (hr : RtRow w ra rl rs) (hin : netB l s g o e x f = true → LinksIn g (l 1) (l 0)) :
  Calls Tryz.prog 29 #[netV p l c, .slice ea el ec, .slice da dl dc, .slice ra rl rc] w fun e' w' => e' = .returned (.int .i64 (rtC (netB l s g o e x f) (routesB g (l 1) (l 0) rl rs) el dl rl (l 3) (l 1) env)) ∧ Below w.heap.size w w' := by
 have HA := hid (fun W hb => scene_fault p l c s g o e x f ea da el ec dl dc rl env W (h.below hb) hc0 hc1 (he.below hb) hdl hr.most)
 have HR := hid (fun (W : World) (hb : Below w.heap.size w W) (hi : LinksIn g (l 1) (l 0)) => routes_impl p l c g ra rl rc rs W h.routers.most (h.links.below hb) (hr.below hb) hi)
 have HIn := hid hin
 have me := he.most
 have mr := hr.most
 unfold maxLen at me hdl mr
 clear h he hc0 hc1 hr hin
 obtain ⟨ok, hok⟩ : ∃ b, netB l s g o e x f = b := ⟨_, rfl⟩
 obtain ⟨rb, hrb⟩ : ∃ b, routesB g (l 1) (l 0) rl rs = b := ⟨_, rfl⟩
 rw [hok] at HIn ⊢
 rw [hrb]
 simp only [hok] at HA
 simp only [hrb] at HR
 clear hok hrb
 have C1 : ∀ w8 : World, Below ((w.alloc (.cells #[.slice (p 0) (l 0) (c 0), .slice (p 1) (l 1) (c 1), .slice (p 2) (l 2) (c 2), .slice (p 3) (l 3) (c 3), .slice (p 4) (l 4) (c 4), .slice (p 5) (l 5) (c 5)] 29))).heap.size (w.alloc (.cells #[.slice (p 0) (l 0) (c 0), .slice (p 1) (l 1) (c 1), .slice (p 2) (l 2) (c 2), .slice (p 3) (l 3) (c 3), .slice (p 4) (l 4) (c 4), .slice (p 5) (l 5) (c 5)] 29)) w8 → (w8.cell? ⟨w.heap.size, 0, none⟩ = some (.slice (p 0) (l 0) (c 0)) ∧ w8.cell? ⟨w.heap.size, 1, none⟩ = some (.slice (p 1) (l 1) (c 1)) ∧ w8.cell? ⟨w.heap.size, 2, none⟩ = some (.slice (p 2) (l 2) (c 2)) ∧ w8.cell? ⟨w.heap.size, 3, none⟩ = some (.slice (p 3) (l 3) (c 3)) ∧ w8.cell? ⟨w.heap.size, 4, none⟩ = some (.slice (p 4) (l 4) (c 4)) ∧ w8.cell? ⟨w.heap.size, 5, none⟩ = some (.slice (p 5) (l 5) (c 5))) ∧ Below w.heap.size w w8 :=
  fun w8 hb => ⟨⟨keep hb (by simp [go_sem]), keep hb (by simp [go_sem]), keep hb (by simp [go_sem]), keep hb (by simp [go_sem]), keep hb (by simp [go_sem]), keep hb (by simp [go_sem])⟩, (show Below w.heap.size w _ from (by repeat (first | exact Below.refl _ _ | assumption | refine Below.drew ?_ | refine Below.alloc ?_ (by first | exact Nat.le_refl _ | omega | (simp; done) | (simp; omega)) _ | refine Below.setCell ?_ (by first | exact Nat.le_refl _ | omega | (simp; done) | (simp; omega)) _))).trans (hb.mono (by simp))⟩
 have HC1 := hid C1
 clear C1
 obtain ⟨C, hC⟩ : ∃ C, (if 4096 < el ∨ 4096 < dl ∨ 4096 < rl then 2 else arC ok el dl (l 3) (l 1) env) = C := ⟨_, rfl⟩
 have HK : Hid (rtC ok rb el dl rl (l 3) (l 1) env = if C = 0 then (if rb = true then 0 else 1) else C) := hid (by
  rw [← hC]
  unfold rtC
  split
  · simp
  · rfl)
 have HOk : Hid (C = 0 → ok = true) := hid (by
  rw [← hC]
  unfold arC
  cases ok
  · split <;> simp
  · simp)
 simp only [hC] at HA
 obtain ⟨D, hD⟩ : ∃ D, rtC ok rb el dl rl (l 3) (l 1) env = D := ⟨_, rfl⟩
 rw [hD] at HK ⊢
 clear hC hD
 unfold netV at HA HR ⊢
 go_enter Tryz.func29, Tryz.ntmps29
 go_wp2_with fail
 refine (HA.out _ (by repeat (first | exact Below.refl _ _ | assumption | refine Below.drew ?_ | refine Below.alloc ?_ (by first | exact Nat.le_refl _ | omega | (simp; done) | (simp; omega)) _ | refine Below.setCell ?_ (by first | exact Nat.le_refl _ | omega | (simp; done) | (simp; omega)) _))).mono ?_
 rintro e' w1 ⟨rfl, hb1⟩
 obtain ⟨⟨q0, q1, q2, q3, q4, q5⟩, hB⟩ := HC1.out _ hb1
 have B1 := hid hB
 clear hb1 hB
 by_cases h0 : C = 0
 · have HOk1 := hid (HOk.out h0)
   clear HOk
   subst h0
   rw [if_pos rfl] at HK
   go_wp2_with fail
   refine (HR.out _ B1.out (HIn.out HOk1.out)).mono ?_
   rintro e' w2 ⟨rfl, hb2⟩
   have B2 := hid (B1.out.trans (hb2.mono B1.out.size))
   clear hb2
   cases rb with
   | true =>
    have e2 : D = 0 := by rw [HK.out, if_pos rfl]
    subst e2
    go_wp2
    go_ret
    exact ⟨rfl, B2.out⟩
   | false =>
    have e2 : D = 1 := by rw [HK.out, if_neg (by decide)]
    subst e2
    go_wp2
    go_ret
    exact ⟨rfl, B2.out⟩
 · rw [if_neg h0] at HK
   have d1 : (C != 0) = true := by simp [h0]
   have e2 := HK.out.symm
   clear h0
   subst e2
   go_wp2
   go_ret
   exact ⟨rfl, B1.out⟩
end Go.Proofs.YtaioffpkadmmhaaGreat.sceneFault
namespace Go.Proofs.YtaioffpkadmmhaaGreat.sceneNew
open Go.RowKit Go.Deep Go base netSem routeRow nbSem candSem candImp hopSem intsOwn hopMake hopBetween sceneSem
set_option linter.unusedVariables false
def newCells (p : Nat → Option Addr) (l c : Nat → Nat) : Array Value := #[.slice (p 0) (l 0) (c 0), .slice (p 1) (l 1) (c 1), .slice (p 2) (l 2) (c 2), .slice (p 3) (l 3) (c 3), .slice (p 4) (l 4) (c 4), .slice (p 5) (l 5) (c 5), .int .u32 0, .int .i32 0, .int .u32 0, .int .i64 0, .int .i64 0, .slice none 0 0, .int .i64 0, .int .i64 0, .slice none 0 0, .int .i64 0, .int .i64 0, .slice none 0 0, .int .i64 0, .int .i64 0, .slice none 0 0, .int .i64 0, .int .i64 0, .slice none 0 0, .int .i64 0, .int .i64 0, .slice none 0 0, .int .i64 0, .int .i64 0, .slice none 0 0, .int .i64 0, .int .i64 0, .slice none 0 0, .int .i64 0, .int .i64 0, .slice none 0 0, .int .i64 0, .int .i64 0, .slice none 0 0, .int .i64 0, .int .i64 0, .slice none 0 0, .int .i64 0, .int .i64 0, .slice none 0 0, .int .i64 0, .int .i64 0, .slice none 0 0, .int .i64 0, .int .i64 0, .slice none 0 0, .int .i64 0, .int .i64 0, .slice none 0 0, .int .i64 0, .int .i64 0, .slice none 0 0]
def newF (p : Nat → Option Addr) (l c : Nat → Nat) : Nat → Value := fun i => (newCells p l c)[i]?.getD (.bool false)
theorem new_row (p : Nat → Option Addr) (l c : Nat → Nat) (w : World) : (w.alloc (.cells (newCells p l c) 109)).rowIs w.heap.size 109 57 (newF p l c) :=
 ⟨newCells p l c, (show (w.heap.push (.cells (newCells p l c) 109))[w.heap.size]? = _ from Array.getElem?_push_size), rfl, fun i hi => by
  unfold newF
  rw [Array.getElem?_eq_getElem (show i < (newCells p l c).size from hi)]
  rfl⟩
theorem new_hf (p : Nat → Option Addr) (l c : Nat → Nat) : Hf (newF p l c) (fun _ _ => 0) (fun _ _ => 0) (fun _ _ => .slice none 0 0) := by
 intro i j hi hj
 match i, hi with
 | 0, _ => match j, hj with
  | 0, _ => exact ⟨rfl, rfl, rfl⟩
  | 1, _ => exact ⟨rfl, rfl, rfl⟩
  | 2, _ => exact ⟨rfl, rfl, rfl⟩
  | 3, _ => exact ⟨rfl, rfl, rfl⟩
 | 1, _ => match j, hj with
  | 0, _ => exact ⟨rfl, rfl, rfl⟩
  | 1, _ => exact ⟨rfl, rfl, rfl⟩
  | 2, _ => exact ⟨rfl, rfl, rfl⟩
  | 3, _ => exact ⟨rfl, rfl, rfl⟩
 | 2, _ => match j, hj with
  | 0, _ => exact ⟨rfl, rfl, rfl⟩
  | 1, _ => exact ⟨rfl, rfl, rfl⟩
  | 2, _ => exact ⟨rfl, rfl, rfl⟩
  | 3, _ => exact ⟨rfl, rfl, rfl⟩
 | 3, _ => match j, hj with
  | 0, _ => exact ⟨rfl, rfl, rfl⟩
  | 1, _ => exact ⟨rfl, rfl, rfl⟩
  | 2, _ => exact ⟨rfl, rfl, rfl⟩
  | 3, _ => exact ⟨rfl, rfl, rfl⟩
theorem row_lt {m n : Nat} {w : World} {a : Option Addr} {g : R} (hm : 0 < m) (h : Row m w a n g) : ∀ q o, 0 < n → a = some ⟨q, o, none⟩ → q < w.heap.size := fun q o hn e => by
 obtain ⟨q', o', e', hc⟩ := h.cell 0 hn
 rw [e] at e'
 injection e' with e'
 injection e' with e1 e2
 subst e1
 exact World.block_lt_of_cell? _ _ (hc 0 hm)
theorem int_lt {n : Nat} {w : World} {a : Option Addr} {z : List Int} (h : IntRow w a n z) : ∀ q o, 0 < n → a = some ⟨q, o, none⟩ → q < w.heap.size := fun q o hn e => by
 obtain ⟨q', o', e', hc⟩ := h.cell 0 hn
 rw [e] at e'
 injection e' with e'
 injection e' with e1 e2
 subst e1
 exact World.block_lt_of_cell? _ _ hc
theorem bool_lt {n : Nat} {w : World} {a : Option Addr} {z : List Bool} (h : BoolRow w a n z) : ∀ q o, 0 < n → a = some ⟨q, o, none⟩ → q < w.heap.size := fun q o hn e => by
 obtain ⟨q', o', e', hc⟩ := h.cell 0 hn
 rw [e] at e'
 injection e' with e'
 injection e' with e1 e2
 subst e1
 exact World.block_lt_of_cell? _ _ hc
set_option maxHeartbeats 3200000 in
set_option maxRecDepth 8000 in
theorem new_impl0 (p : Nat → Option Addr) (l c : Nat → Nat) (s : Ss) (g : R) (o e : List Int) (x f : R) (ea da : Option Addr) (el ec dl dc : Nat) (env : List Int) (ds : List Bool) (w : World) (h : NetIs w p l s g o e x f) (he : IntRow w ea el env) (hd : BoolRow w da dl ds) (hle : el = l 3) (hld : dl = l 1)
  (gi : ∀ i, i < l 1 → 0 ≤ g i 0 ∧ g i 0 < 4 ∧ 0 ≤ g i 1 ∧ g i 1 < 4 ∧ g i 0 ≠ g i 1) (xi : ∀ i, i < l 4 → 0 ≤ x i 0 ∧ x i 0 < 4 ∧ 0 ≤ x i 1 ∧ x i 1 < 4) (few : l 4 ≤ 12) :
  Calls Tryz.prog 25 #[netV p l c, .slice ea el ec, .slice da dl dc] w fun e' w' => ∃ (sb b : Nat) (F : Nat → Value), e' = .returned (.pointer (some ⟨sb, 0, none⟩)) ∧ F 0 = .slice (p 0) (l 0) (c 0) ∧ w.heap.size ≤ b ∧ Sc sb b w.heap.size F p l c g o e x ea da el ec dl dc env ds w' ∧ Below w.heap.size w w' := by
 have HW : Hid (∀ W : World, W = (((w.alloc (.cells #[.slice (p 0) (l 0) (c 0), .slice (p 1) (l 1) (c 1), .slice (p 2) (l 2) (c 2), .slice (p 3) (l 3) (c 3), .slice (p 4) (l 4) (c 4), .slice (p 5) (l 5) (c 5)] 29)).alloc (.cells (newCells p l c) 109)).alloc (.cells #[.pointer (some ⟨w.heap.size + 1, 0, none⟩), .slice ea el ec, .slice da dl dc] 111)) → Sc (w.heap.size + 1 + 1) (w.heap.size + 1) w.heap.size (newF p l c) p l c g o e x ea da el ec dl dc env ds W ∧ Below w.heap.size w W) := hid (fun W hW => by
  have hb : Below w.heap.size w W := by rw [hW]; exact (by repeat (first | exact Below.refl _ _ | assumption | refine Below.drew ?_ | refine Below.alloc ?_ (by first | exact Nat.le_refl _ | omega | (simp; done) | (simp; omega)) _ | refine Below.setCell ?_ (by first | exact Nat.le_refl _ | omega | (simp; done) | (simp; omega)) _))
  have h1 : (w.alloc (.cells #[.slice (p 0) (l 0) (c 0), .slice (p 1) (l 1) (c 1), .slice (p 2) (l 2) (c 2), .slice (p 3) (l 3) (c 3), .slice (p 4) (l 4) (c 4), .slice (p 5) (l 5) (c 5)] 29)).heap.size = w.heap.size + 1 := by simp
  have hrow := new_row p l c (w.alloc (.cells #[.slice (p 0) (l 0) (c 0), .slice (p 1) (l 1) (c 1), .slice (p 2) (l 2) (c 2), .slice (p 3) (l 3) (c 3), .slice (p 4) (l 4) (c 4), .slice (p 5) (l 5) (c 5)] 29))
  rw [h1] at hrow
  have hrow2 : W.rowIs (w.heap.size + 1) 109 57 (newF p l c) := by
   rw [hW]
   exact hrow.of_block ((show Below _ _ _ from ((Below.refl _ _).alloc (Nat.le_refl _) _)).block _ hrow.lt)
  refine ⟨⟨?_, ?_, ?_, .inl ⟨hrow2, new_hf p l c, rfl, rfl⟩, ⟨rfl, rfl, h.links.below hb, h.imports.below hb, gi, xi, few, fun a o h0 e => ?_, fun a o h0 e => ?_⟩, rfl, rfl, h.origins.below hb, h.externals.below hb, he.below hb, hd.below hb, by omega, fun a o h0 e => ?_, fun a o h0 e => ?_, fun a o h0 e => ?_, fun a o h0 e => ?_, hb.size, hle, hld⟩, hb⟩
  · rw [hW]; simp [go_sem]
  · rw [hW]; simp [go_sem]
  · rw [hW]; simp [go_sem]
  · have := row_lt (by decide) h.links a o h0 e; omega
  · have := row_lt (by decide) h.imports a o h0 e; omega
  · have := int_lt h.origins a o h0 e; omega
  · have := int_lt h.externals a o h0 e; omega
  · have := int_lt he a o h0 e; omega
  · have := bool_lt hd a o h0 e; omega)
 clear h he hd hle hld gi xi few
 unfold netV
 go_enter Tryz.func25, Tryz.ntmps25
 go_wp2
 go_ret
 obtain ⟨h1, h2⟩ := HW.out _ rfl
 exact ⟨_, _, _, rfl, rfl, by omega, h1, h2⟩
theorem new_impl (p : Nat → Option Addr) (l c : Nat → Nat) (s : Ss) (g : R) (o e : List Int) (x f : R) (ea da : Option Addr) (el ec dl dc : Nat) (env : List Int) (ds : List Bool) (w : World) (h : NetIs w p l s g o e x f) (he : IntRow w ea el env) (hd : BoolRow w da dl ds) (hle : el = l 3) (hld : dl = l 1)
  (gi : ∀ i, i < l 1 → 0 ≤ g i 0 ∧ g i 0 < 4 ∧ 0 ≤ g i 1 ∧ g i 1 < 4 ∧ g i 0 ≠ g i 1) (xi : ∀ i, i < l 4 → 0 ≤ x i 0 ∧ x i 0 < 4 ∧ 0 ≤ x i 1 ∧ x i 1 < 4) (few : l 4 ≤ 12) :
  Calls Tryz.prog 25 #[netV p l c, .slice ea el ec, .slice da dl dc] w fun e' w' => ∃ (sb b : Nat) (F : Nat → Value), e' = .returned (.pointer (some ⟨sb, 0, none⟩)) ∧ w.heap.size ≤ b ∧ Sc sb b w.heap.size F p l c g o e x ea da el ec dl dc env ds w' ∧ Below w.heap.size w w' :=
 (new_impl0 p l c s g o e x f ea da el ec dl dc env ds w h he hd hle hld gi xi few).mono fun _ _ ⟨sb, b, F, h1, _, h2⟩ => ⟨sb, b, F, h1, h2⟩
end Go.Proofs.YtaioffpkadmmhaaGreat.sceneNew
