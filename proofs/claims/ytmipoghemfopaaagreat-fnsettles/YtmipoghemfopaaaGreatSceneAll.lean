/- SceneList; SceneFault; SceneNew; SceneFace: one text, so that the claim has fewer files. -/
import Derived.Test.YtmipoghemfopaaaGreatSceneCand
import Derived.Test.YtmipoghemfopaaaGreatCandHole
import Derived.Test.YtmipoghemfopaaaGreatRoutesImpl
import Derived.Test.YtmipoghemfopaaaGreatOkAll
import Derived.Test.YtmipoghemfopaaaGreatCandEnv
/- What a router could have as the Vias rise is what the specification lists; of no program; conditions: Vias below the number of routers. -/
namespace Go.Proofs.YtmipoghemfopaaaGreat.sceneList
open Go base netSem routeRow nbSem candSem sceneSem sceneCand candHole
set_option linter.unusedVariables false

theorem by_own (g : R) (nl : Nat) (o e : List Int) (x : R) (nx : Nat) (env : List Int) (ds : List Bool) (rs : Rs) (n : Nat) (router : Int) : (byVia g nl o e x nx env ds rs n router (-2)).toList = ownC o router := by
  unfold byVia openB ownC
  by_cases h : 0 ≤ hasAt o router <;> simp [h]
theorem by_ext (g : R) (nl : Nat) (o e : List Int) (x : R) (nx : Nat) (env : List Int) (ds : List Bool) (rs : Rs) (n : Nat) (router : Int) (he : ∀ i, 0 ≤ zAt env i) : (byVia g nl o e x nx env ds rs n router (-1)).toList = extC e env router := by
  unfold byVia openB extC annA
  by_cases h : 0 ≤ hasAt e router
  · have h0 := he (hasAt e router).toNat
    by_cases h2 : zAt env (hasAt e router).toNat = 0
    · simp [h, h2]
    · have h3 : 0 < zAt env (hasAt e router).toNat := by omega
      simp [h, h2, h3]
      by_cases h4 : zAt env (hasAt e router).toNat = 2 <;> simp [h4]
  · simp [h]
theorem by_nb (g : R) (nl : Nat) (o e : List Int) (x : R) (nx : Nat) (env : List Int) (ds : List Bool) (rs : Rs) (n : Nat) (router : Int) (k : Nat) (hk : k < n) (hn : n ≤ 4) (hv : ∀ i, i < n → (rs i).via < n) : (byVia g nl o e x nx env ds rs n router (k : Int)).toList = if nbB g nl ds router k then candOf g nl x nx rs n router k else [] := by
  unfold byVia openB candOf
  have e3 : ¬ ((k : Int) = -3) := by omega
  have e2 : ¬ ((k : Int) = -2) := by omega
  have e1 : ¬ ((k : Int) = -1) := by omega
  rw [if_neg e3, if_neg e2, if_neg e1, if_neg e3, if_neg e2, if_neg e1, thru_more rs router n k hn hv (by omega) (by omega), Int.toNat_natCast]
  cases nbB g nl ds router k with
  | false => simp
  | true =>
    by_cases h1 : (rs k).via = -3
    · simp [h1]
    · by_cases h2 : thru rs router n k = true
      · simp [h2]
      · simp [h1, h2]
        cases impR g nl x nx router k (rs k) <;> rfl
theorem lst_two (g : R) (nl : Nat) (o e : List Int) (x : R) (nx : Nat) (env : List Int) (ds : List Bool) (rs : Rs) (n : Nat) (router : Int) (hn : n ≤ 4) (hv : ∀ i, i < n → (rs i).via < n) (he : ∀ i, 0 ≤ zAt env i) : ∀ k, k ≤ n → lst g nl o e x nx env ds rs n router (k + 2) = ownC o router ++ extC e env router ++ (nbL g nl ds router k).flatMap (candOf g nl x nx rs n router)
  | 0, _ => by
    rw [lst_succ, lst_succ]
    have h0 : lst g nl o e x nx env ds rs n router 0 = [] := by simp [lst]
    rw [h0, show (((0 : Nat) : Int) - 2) = -2 from rfl, show (((0 + 1 : Nat) : Int) - 2) = -1 from rfl, by_own, by_ext _ _ _ _ _ _ _ _ _ _ _ he]
    simp [nbL]
  | k + 1, hk => by
    have ih := lst_two g nl o e x nx env ds rs n router hn hv he k (by omega)
    rw [show k + 1 + 2 = (k + 2) + 1 from rfl, lst_succ, ih, show (((k + 2 : Nat) : Int) - 2) = (k : Int) by omega, by_nb _ _ _ _ _ _ _ _ _ _ _ _ (by omega) hn hv, nbL_succ, List.flatMap_append, ← List.append_assoc]
    congr 1
    cases nbB g nl ds router k <;> simp
theorem lst_cand (g : R) (nl : Nat) (o e : List Int) (x : R) (nx : Nat) (env : List Int) (ds : List Bool) (rs : Rs) (n : Nat) (router : Int) (hn : n ≤ 4) (hv : ∀ i, i < n → (rs i).via < n) (he : ∀ i, 0 ≤ zAt env i) : lst g nl o e x nx env ds rs n router (n + 2) = candL g nl o e x nx env ds rs n router :=
  lst_two g nl o e x nx env ds rs n router hn hv he n (Nat.le_refl _)
end Go.Proofs.YtmipoghemfopaaaGreat.sceneList

/- Of the program: the codes that are told ahead; conditions: none. -/
namespace Go.Proofs.YtmipoghemfopaaaGreat.sceneFault
open Go.RowKit Go.Deep Go base copy names netSem netImpl netParts netFace netOKImpl routeRow routesB routesImpl candEnv
set_option linter.unusedVariables false

theorem env_cl (v : Int) (w : World) :
    Calls Tryz.prog 50 #[.int .i64 v] w fun e w' => e = .returned (.bool (inB v 0 2)) ∧ w' = w := by
  go_enter Tryz.func50, Tryz.ntmps50
  go_wp2_with (go_at_call 16; refine (within_impl _ _ _ _).mono ?_; rintro e w' ⟨rfl, rfl⟩)
  go_ret
  exact ⟨rfl, rfl⟩

set_option maxHeartbeats 800000 in
theorem all_env (a : Option Addr) (n c : Nat) (z : List Int) (w : World) (hx : IntRow w a n z) :
    Calls Tryz.prog 49 #[.slice a n c, .func (.func 50) #[] #[]] w fun e w' => e = .returned (.bool (allN (fun i => inB (zAt z i) 0 2) n)) ∧ w' = w := by
  have hmost := hx.most
  unfold maxLen at hmost
  have HX := hid hx
  clear hx
  go_enter Tryz.func49, Tryz.ntmps49
  go_wp2
  go_loop [9] (fun i => ∃ k : Nat, k ≤ n ∧ i = .int .i64 k ∧ ∀ j, j < k → inB (zAt z j) 0 2 = true) (fun i => n - (intOf i).toNat)
  case atStart => exact ⟨0, Nat.zero_le _, rfl, fun j hj => absurd hj (Nat.not_lt_zero _)⟩
  case round =>
    obtain ⟨k, hk, rfl, ha⟩ := hrel
    have HA := hid ha
    clear ha
    by_cases hlt : k < n
    · obtain ⟨b, off, rfl, hc⟩ := HX.out.cell k hlt
      have HQ : Hid (zAt z k = z[k]?.getD 0) := hid rfl
      generalize z[k]?.getD 0 = y at *
      obtain ⟨D, hD⟩ : ∃ D, inB y 0 2 = D := ⟨_, rfl⟩
      have HD := hid hD
      have HE : Hid (inB (zAt z k) 0 2 = D) := hid (by rw [HQ.out]; exact hD)
      clear hD
      go_wp2_with fail
      refine (env_cl y _).mono ?_
      rintro e' w1 ⟨rfl, hw⟩
      have hw := hw.symm
      subst hw
      rw [HD.out]
      cases D with
      | true =>
        go_wp2
        go_round
        case rel =>
          refine ⟨k + 1, by omega, by go_num, fun j hj => ?_⟩
          by_cases e : j = k
          · subst e; exact HE.out
          · exact HA.out j (by omega)
        case measure => simp [intOf]; omega
      | false =>
        go_wp2
        go_ret
        exact ⟨ret_bool (allN_false (p := fun i => inB (zAt z i) 0 2) hlt HE.out).symm, rfl⟩
    · have e : k = n := by omega
      subst e
      go_wp2
      go_ret
      exact ⟨ret_bool (allN_of (p := fun i => inB (zAt z i) 0 2) HA.out).symm, rfl⟩

/-- What is told of a network, of what is announced, and of the links that are down. -/
def arC (ok : Bool) (el dl l3 l1 : Nat) (env : List Int) : Int := if ok = false then 1 else if el ≠ l3 ∨ dl ≠ l1 then 5 else if allN (fun i => inB (zAt env i) 0 2) el = true then 0 else 5

set_option maxHeartbeats 3200000 in
theorem around_impl (p : Nat → Option Addr) (l c : Nat → Nat) (s : Ss) (g : R) (o e : List Int) (x f : R) (ea da : Option Addr) (el ec dl dc : Nat) (env : List Int) (w : World) (h : NetIs w p l s g o e x f) (hc0 : l 0 ≤ c 0) (hc1 : l 1 ≤ c 1) (he : IntRow w ea el env) (hdl : dl ≤ maxLen) :
    Calls Tryz.prog 32 #[netV p l c, .slice ea el ec, .slice da dl dc] w fun e' w' => e' = .returned (.int .i64 (arC (netB l s g o e x f) el dl (l 3) (l 1) env)) ∧ Below w.heap.size w w' := by
  have HN := hid h
  have HE := hid he
  have K0 := hid hc0
  have K1 := hid hc1
  have m1 := h.links.most
  have m3 := h.externals.most
  have me := he.most
  unfold maxLen at m1 m3 me hdl
  clear h he hc0 hc1
  have C1 : ∀ w8 : World, Below ((w.alloc (.cells #[.slice (p 0) (l 0) (c 0), .slice (p 1) (l 1) (c 1), .slice (p 2) (l 2) (c 2), .slice (p 3) (l 3) (c 3), .slice (p 4) (l 4) (c 4), .slice (p 5) (l 5) (c 5)] 29))).heap.size (w.alloc (.cells #[.slice (p 0) (l 0) (c 0), .slice (p 1) (l 1) (c 1), .slice (p 2) (l 2) (c 2), .slice (p 3) (l 3) (c 3), .slice (p 4) (l 4) (c 4), .slice (p 5) (l 5) (c 5)] 29)) w8 → (w8.cell? ⟨w.heap.size, 1, none⟩ = some (.slice (p 1) (l 1) (c 1)) ∧ w8.cell? ⟨w.heap.size, 3, none⟩ = some (.slice (p 3) (l 3) (c 3))) ∧ IntRow w8 ea el env ∧ Below w.heap.size w w8 :=
    fun w8 hb => ⟨⟨keep hb (by simp [go_sem]), keep hb (by simp [go_sem])⟩, (HE.out.below (by repeat (first | exact Below.refl _ _ | assumption | refine Below.drew ?_ | refine Below.alloc ?_ (by first | exact Nat.le_refl _ | omega | (simp; done) | (simp; omega)) _ | refine Below.setCell ?_ (by first | exact Nat.le_refl _ | omega | (simp; done) | (simp; omega)) _))).below hb, (show Below w.heap.size w _ from (by repeat (first | exact Below.refl _ _ | assumption | refine Below.drew ?_ | refine Below.alloc ?_ (by first | exact Nat.le_refl _ | omega | (simp; done) | (simp; omega)) _ | refine Below.setCell ?_ (by first | exact Nat.le_refl _ | omega | (simp; done) | (simp; omega)) _))).trans (hb.mono (by simp))⟩
  have HC1 := hid C1
  clear C1
  obtain ⟨ok, hok⟩ : ∃ b, netB l s g o e x f = b := ⟨_, rfl⟩
  have HOK := hid hok
  rw [hok]
  clear hok
  obtain ⟨C, hC⟩ : ∃ C, arC ok el dl (l 3) (l 1) env = C := ⟨_, rfl⟩
  have HC := hid hC
  rw [hC]
  clear hC
  unfold arC at HC
  have hmf := mkfunc
  unfold netV
  go_enter Tryz.func32, Tryz.ntmps32
  go_wp2_with fail
  refine (netOK_impl p l c s g o e x f _ (HN.out.below (by repeat (first | exact Below.refl _ _ | assumption | refine Below.drew ?_ | refine Below.alloc ?_ (by first | exact Nat.le_refl _ | omega | (simp; done) | (simp; omega)) _ | refine Below.setCell ?_ (by first | exact Nat.le_refl _ | omega | (simp; done) | (simp; omega)) _))) K0.out K1.out).mono ?_
  rintro e' w1 ⟨rfl, hb1⟩
  rw [HOK.out]
  obtain ⟨⟨q1, q3⟩, hE1, hB⟩ := HC1.out _ hb1
  have E1 := hid hE1
  have B1 := hid hB
  clear hb1 hE1 hB
  cases ok with
  | false =>
    have e2 : C = 1 := by rw [← HC.out, if_pos rfl]
    subst e2
    go_wp2
    go_ret
    exact ⟨rfl, B1.out⟩
  | true =>
  rw [if_neg (by decide)] at HC
  by_cases h3 : el = l 3
  · have d3 : ((el : Int) != (l 3 : Int)) = false := by simp [h3]
    by_cases h4 : dl = l 1
    · have d4 : ((dl : Int) != (l 1 : Int)) = false := by simp [h4]
      rw [if_neg (by simp [h3, h4])] at HC
      clear h3 h4
      go_wp2_with fail
      refine (all_env ea el ec env _ E1.out).mono ?_
      rintro e' w2 ⟨rfl, hw⟩
      have hw := hw.symm
      subst hw
      obtain ⟨A, hA⟩ : ∃ A, allN (fun i => inB (zAt env i) 0 2) el = A := ⟨_, rfl⟩
      rw [hA] at HC ⊢
      clear hA
      cases A with
      | true =>
        have e2 : C = 0 := by rw [← HC.out, if_pos rfl]
        subst e2
        go_wp2
        go_ret
        exact ⟨rfl, B1.out⟩
      | false =>
        have e2 : C = 5 := by rw [← HC.out, if_neg (by decide)]
        subst e2
        go_wp2
        go_ret
        exact ⟨rfl, B1.out⟩
    · have d4 : ((dl : Int) != (l 1 : Int)) = true := by simp; omega
      have e2 : C = 5 := by rw [← HC.out, if_pos (.inr h4)]
      subst e2
      clear h4 h3
      go_wp2
      go_ret
      exact ⟨rfl, B1.out⟩
  · have d3 : ((el : Int) != (l 3 : Int)) = true := by simp; omega
    have e2 : C = 5 := by rw [← HC.out, if_pos (.inl h3)]
    subst e2
    clear h3
    go_wp2
    go_ret
    exact ⟨rfl, B1.out⟩

/-- The code that calls tell ahead to which routes are handed in. -/
def rtC (ok rb : Bool) (el dl rl l3 l1 : Nat) (env : List Int) : Int := if 4096 < el ∨ 4096 < dl ∨ 4096 < rl then 2 else if arC ok el dl l3 l1 env = 0 then (if rb = true then 0 else 1) else arC ok el dl l3 l1 env

set_option maxHeartbeats 3200000 in
theorem run_max3 (a b c : Int) (W : World) : Sem.run Tryz.prog (Builtin.max_ #[3, 3, 3] 3 #[.int .i64 a, .int .i64 b, .int .i64 c]) W = .ok (.int .i64 (max (max a b) c)) W := by
  have h2 : ∀ (x y : Int) (W : World), Sem.run Tryz.prog (Builtin.max2 (.int .i64 x) (.int .i64 y)) W = .ok (.int .i64 (max x y)) W := by
    intro x y W
    simp [Builtin.max2, go_sem]
    omega
  unfold Builtin.max_
  simp [go_sem, h2]
set_option maxHeartbeats 3200000 in
theorem scene_fault (p : Nat → Option Addr) (l c : Nat → Nat) (s : Ss) (g : R) (o e : List Int) (x f : R) (ea da : Option Addr) (el ec dl dc ol : Nat) (env : List Int) (w : World) (h : NetIs w p l s g o e x f) (hc0 : l 0 ≤ c 0) (hc1 : l 1 ≤ c 1) (he : IntRow w ea el env) (hdl : dl ≤ maxLen) (hol : ol ≤ maxLen) :
    Calls Tryz.prog 15 #[netV p l c, .slice ea el ec, .slice da dl dc, .int .i64 (ol : Int)] w fun e' w' => e' = .returned (.int .i64 (if 4096 < el ∨ 4096 < dl ∨ 4096 < ol then 2 else arC (netB l s g o e x f) el dl (l 3) (l 1) env)) ∧ Below w.heap.size w w' := by
  have HA := hid (fun W hb => around_impl p l c s g o e x f ea da el ec dl dc env W (h.below hb) hc0 hc1 (he.below hb) hdl)
  have me := he.most
  unfold maxLen at me hdl hol
  clear h he hc0 hc1
  obtain ⟨C, hC⟩ : ∃ C, arC (netB l s g o e x f) el dl (l 3) (l 1) env = C := ⟨_, rfl⟩
  rw [hC]
  simp only [hC] at HA
  clear hC
  obtain ⟨M, hM⟩ : ∃ M, max (max (el : Int) (dl : Int)) (ol : Int) = M := ⟨_, rfl⟩
  have hrun : ∀ W : World, Sem.run Tryz.prog (Builtin.max_ #[3, 3, 3] 3 #[.int .i64 (el : Int), .int .i64 (dl : Int), .int .i64 (ol : Int)]) W = .ok (.int .i64 M) W := fun W => by rw [run_max3, hM]
  unfold netV at HA ⊢
  by_cases hl : 4096 < el ∨ 4096 < dl ∨ 4096 < ol
  · rw [if_pos hl]
    have d1 : decide ((4096 : Int) < M) = true := decide_eq_true (by omega)
    clear hM hl
    go_enter Tryz.func15, Tryz.ntmps15
    go_wp2
    go_ret
    exact ⟨rfl, (by repeat (first | exact Below.refl _ _ | assumption | refine Below.drew ?_ | refine Below.alloc ?_ (by first | exact Nat.le_refl _ | omega | (simp; done) | (simp; omega)) _ | refine Below.setCell ?_ (by first | exact Nat.le_refl _ | omega | (simp; done) | (simp; omega)) _))⟩
  · rw [if_neg hl]
    have d1 : decide ((4096 : Int) < M) = false := decide_eq_false (by omega)
    clear hM hl
    go_enter Tryz.func15, Tryz.ntmps15
    go_wp2_with fail
    refine (HA.out _ (by repeat (first | exact Below.refl _ _ | assumption | refine Below.drew ?_ | refine Below.alloc ?_ (by first | exact Nat.le_refl _ | omega | (simp; done) | (simp; omega)) _ | refine Below.setCell ?_ (by first | exact Nat.le_refl _ | omega | (simp; done) | (simp; omega)) _))).mono ?_
    rintro e' w1 ⟨rfl, hb1⟩
    have B1 := hid ((show Below w.heap.size w _ from (by repeat (first | exact Below.refl _ _ | assumption | refine Below.drew ?_ | refine Below.alloc ?_ (by first | exact Nat.le_refl _ | omega | (simp; done) | (simp; omega)) _ | refine Below.setCell ?_ (by first | exact Nat.le_refl _ | omega | (simp; done) | (simp; omega)) _))).trans (hb1.mono (by simp)))
    clear hb1
    go_wp2
    go_ret
    exact ⟨rfl, B1.out⟩

end Go.Proofs.YtmipoghemfopaaaGreat.sceneFault

/- Of the program: a new scene; conditions: a right network, and lists that fit it. -/
namespace Go.Proofs.YtmipoghemfopaaaGreat.sceneNew
open Go.RowKit Go.Deep Go base netSem routeRow nbSem candSem candImp hopSem intsOwn hopMake hopBetween sceneSem
set_option linter.unusedVariables false

/-- The cells of a network whose memo is not made. -/
def newCells (p : Nat → Option Addr) (l c : Nat → Nat) : Array Value := #[.slice (p 0) (l 0) (c 0), .slice (p 1) (l 1) (c 1), .slice (p 2) (l 2) (c 2), .slice (p 3) (l 3) (c 3), .slice (p 4) (l 4) (c 4), .slice (p 5) (l 5) (c 5), .int .u32 0, .int .i32 0, .int .u32 0, .int .i64 0, .int .i64 0, .slice none 0 0, .int .i64 0, .int .i64 0, .slice none 0 0, .int .i64 0, .int .i64 0, .slice none 0 0, .int .i64 0, .int .i64 0, .slice none 0 0, .int .i64 0, .int .i64 0, .slice none 0 0, .int .i64 0, .int .i64 0, .slice none 0 0, .int .i64 0, .int .i64 0, .slice none 0 0, .int .i64 0, .int .i64 0, .slice none 0 0, .int .i64 0, .int .i64 0, .slice none 0 0, .int .i64 0, .int .i64 0, .slice none 0 0, .int .i64 0, .int .i64 0, .slice none 0 0, .int .i64 0, .int .i64 0, .slice none 0 0, .int .i64 0, .int .i64 0, .slice none 0 0, .int .i64 0, .int .i64 0, .slice none 0 0, .int .i64 0, .int .i64 0, .slice none 0 0, .int .i64 0, .int .i64 0, .slice none 0 0]
def newF (p : Nat → Option Addr) (l c : Nat → Nat) : Nat → Value := fun i => (newCells p l c)[i]?.getD (.bool false)
theorem new_row (p : Nat → Option Addr) (l c : Nat → Nat) (w : World) : (w.alloc (.cells (newCells p l c) 93)).rowIs w.heap.size 93 57 (newF p l c) :=
  ⟨newCells p l c, (show (w.heap.push (.cells (newCells p l c) 93))[w.heap.size]? = _ from Array.getElem?_push_size), rfl, fun i hi => by
    unfold newF
    rw [Array.getElem?_eq_getElem (show i < (newCells p l c).size from hi)]
    rfl⟩
theorem new_hf (p : Nat → Option Addr) (l c : Nat → Nat) : Hf (newF p l c) (fun _ _ => 0) (fun _ _ => 0) (fun _ _ => .slice none 0 0) := by
  intro i j hi hj
  match i, hi with
  | 0, _ => match j, hj with
    | 0, _ => exact ⟨rfl, rfl, rfl⟩
    | 1, _ => exact ⟨rfl, rfl, rfl⟩
    | 2, _ => exact ⟨rfl, rfl, rfl⟩
    | 3, _ => exact ⟨rfl, rfl, rfl⟩
  | 1, _ => match j, hj with
    | 0, _ => exact ⟨rfl, rfl, rfl⟩
    | 1, _ => exact ⟨rfl, rfl, rfl⟩
    | 2, _ => exact ⟨rfl, rfl, rfl⟩
    | 3, _ => exact ⟨rfl, rfl, rfl⟩
  | 2, _ => match j, hj with
    | 0, _ => exact ⟨rfl, rfl, rfl⟩
    | 1, _ => exact ⟨rfl, rfl, rfl⟩
    | 2, _ => exact ⟨rfl, rfl, rfl⟩
    | 3, _ => exact ⟨rfl, rfl, rfl⟩
  | 3, _ => match j, hj with
    | 0, _ => exact ⟨rfl, rfl, rfl⟩
    | 1, _ => exact ⟨rfl, rfl, rfl⟩
    | 2, _ => exact ⟨rfl, rfl, rfl⟩
    | 3, _ => exact ⟨rfl, rfl, rfl⟩
theorem row_lt {m n : Nat} {w : World} {a : Option Addr} {g : R} (hm : 0 < m) (h : Row m w a n g) : ∀ q o, 0 < n → a = some ⟨q, o, none⟩ → q < w.heap.size := fun q o hn e => by
  obtain ⟨q', o', e', hc⟩ := h.cell 0 hn
  rw [e] at e'
  injection e' with e'
  injection e' with e1 e2
  subst e1
  exact World.block_lt_of_cell? _ _ (hc 0 hm)
theorem int_lt {n : Nat} {w : World} {a : Option Addr} {z : List Int} (h : IntRow w a n z) : ∀ q o, 0 < n → a = some ⟨q, o, none⟩ → q < w.heap.size := fun q o hn e => by
  obtain ⟨q', o', e', hc⟩ := h.cell 0 hn
  rw [e] at e'
  injection e' with e'
  injection e' with e1 e2
  subst e1
  exact World.block_lt_of_cell? _ _ hc
theorem bool_lt {n : Nat} {w : World} {a : Option Addr} {z : List Bool} (h : BoolRow w a n z) : ∀ q o, 0 < n → a = some ⟨q, o, none⟩ → q < w.heap.size := fun q o hn e => by
  obtain ⟨q', o', e', hc⟩ := h.cell 0 hn
  rw [e] at e'
  injection e' with e'
  injection e' with e1 e2
  subst e1
  exact World.block_lt_of_cell? _ _ hc

set_option maxHeartbeats 3200000 in
set_option maxRecDepth 8000 in
theorem new_impl0 (p : Nat → Option Addr) (l c : Nat → Nat) (s : Ss) (g : R) (o e : List Int) (x f : R) (ea da : Option Addr) (el ec dl dc : Nat) (env : List Int) (ds : List Bool) (w : World) (h : NetIs w p l s g o e x f) (he : IntRow w ea el env) (hd : BoolRow w da dl ds) (hle : el = l 3) (hld : dl = l 1)
    (gi : ∀ i, i < l 1 → 0 ≤ g i 0 ∧ g i 0 < 4 ∧ 0 ≤ g i 1 ∧ g i 1 < 4 ∧ g i 0 ≠ g i 1) (xi : ∀ i, i < l 4 → 0 ≤ x i 0 ∧ x i 0 < 4 ∧ 0 ≤ x i 1 ∧ x i 1 < 4) (few : l 4 ≤ 12) :
    Calls Tryz.prog 17 #[netV p l c, .slice ea el ec, .slice da dl dc] w fun e' w' => ∃ (sb b : Nat) (F : Nat → Value), e' = .returned (.pointer (some ⟨sb, 0, none⟩)) ∧ F 0 = .slice (p 0) (l 0) (c 0) ∧ w.heap.size ≤ b ∧ Sc sb b w.heap.size F p l c g o e x ea da el ec dl dc env ds w' ∧ Below w.heap.size w w' := by
  have HW : Hid (∀ W : World, W = (((w.alloc (.cells #[.slice (p 0) (l 0) (c 0), .slice (p 1) (l 1) (c 1), .slice (p 2) (l 2) (c 2), .slice (p 3) (l 3) (c 3), .slice (p 4) (l 4) (c 4), .slice (p 5) (l 5) (c 5)] 29)).alloc (.cells (newCells p l c) 93)).alloc (.cells #[.pointer (some ⟨w.heap.size + 1, 0, none⟩), .slice ea el ec, .slice da dl dc] 95)) → Sc (w.heap.size + 1 + 1) (w.heap.size + 1) w.heap.size (newF p l c) p l c g o e x ea da el ec dl dc env ds W ∧ Below w.heap.size w W) := hid (fun W hW => by
    have hb : Below w.heap.size w W := by rw [hW]; exact (by repeat (first | exact Below.refl _ _ | assumption | refine Below.drew ?_ | refine Below.alloc ?_ (by first | exact Nat.le_refl _ | omega | (simp; done) | (simp; omega)) _ | refine Below.setCell ?_ (by first | exact Nat.le_refl _ | omega | (simp; done) | (simp; omega)) _))
    have h1 : (w.alloc (.cells #[.slice (p 0) (l 0) (c 0), .slice (p 1) (l 1) (c 1), .slice (p 2) (l 2) (c 2), .slice (p 3) (l 3) (c 3), .slice (p 4) (l 4) (c 4), .slice (p 5) (l 5) (c 5)] 29)).heap.size = w.heap.size + 1 := by simp
    have hrow := new_row p l c (w.alloc (.cells #[.slice (p 0) (l 0) (c 0), .slice (p 1) (l 1) (c 1), .slice (p 2) (l 2) (c 2), .slice (p 3) (l 3) (c 3), .slice (p 4) (l 4) (c 4), .slice (p 5) (l 5) (c 5)] 29))
    rw [h1] at hrow
    have hrow2 : W.rowIs (w.heap.size + 1) 93 57 (newF p l c) := by
      rw [hW]
      exact hrow.of_block ((show Below _ _ _ from ((Below.refl _ _).alloc (Nat.le_refl _) _)).block _ hrow.lt)
    refine ⟨⟨?_, ?_, ?_, .inl ⟨hrow2, new_hf p l c, rfl, rfl⟩, ⟨rfl, rfl, h.links.below hb, h.imports.below hb, gi, xi, few, fun a o h0 e => ?_, fun a o h0 e => ?_⟩, rfl, rfl, h.origins.below hb, h.externals.below hb, he.below hb, hd.below hb, by omega, fun a o h0 e => ?_, fun a o h0 e => ?_, fun a o h0 e => ?_, fun a o h0 e => ?_, hb.size, hle, hld⟩, hb⟩
    · rw [hW]; simp [go_sem]
    · rw [hW]; simp [go_sem]
    · rw [hW]; simp [go_sem]
    · have := row_lt (by decide) h.links a o h0 e; omega
    · have := row_lt (by decide) h.imports a o h0 e; omega
    · have := int_lt h.origins a o h0 e; omega
    · have := int_lt h.externals a o h0 e; omega
    · have := int_lt he a o h0 e; omega
    · have := bool_lt hd a o h0 e; omega)
  clear h he hd hle hld gi xi few
  unfold netV
  go_enter Tryz.func17, Tryz.ntmps17
  go_wp2
  go_ret
  obtain ⟨h1, h2⟩ := HW.out _ rfl
  exact ⟨_, _, _, rfl, rfl, by omega, h1, h2⟩
theorem new_impl (p : Nat → Option Addr) (l c : Nat → Nat) (s : Ss) (g : R) (o e : List Int) (x f : R) (ea da : Option Addr) (el ec dl dc : Nat) (env : List Int) (ds : List Bool) (w : World) (h : NetIs w p l s g o e x f) (he : IntRow w ea el env) (hd : BoolRow w da dl ds) (hle : el = l 3) (hld : dl = l 1)
    (gi : ∀ i, i < l 1 → 0 ≤ g i 0 ∧ g i 0 < 4 ∧ 0 ≤ g i 1 ∧ g i 1 < 4 ∧ g i 0 ≠ g i 1) (xi : ∀ i, i < l 4 → 0 ≤ x i 0 ∧ x i 0 < 4 ∧ 0 ≤ x i 1 ∧ x i 1 < 4) (few : l 4 ≤ 12) :
    Calls Tryz.prog 17 #[netV p l c, .slice ea el ec, .slice da dl dc] w fun e' w' => ∃ (sb b : Nat) (F : Nat → Value), e' = .returned (.pointer (some ⟨sb, 0, none⟩)) ∧ w.heap.size ≤ b ∧ Sc sb b w.heap.size F p l c g o e x ea da el ec dl dc env ds w' ∧ Below w.heap.size w w' :=
  (new_impl0 p l c s g o e x f ea da el ec dl dc env ds w h he hd hle hld gi xi few).mono fun _ _ ⟨sb, b, F, h1, _, h2⟩ => ⟨sb, b, F, h1, h2⟩
end Go.Proofs.YtmipoghemfopaaaGreat.sceneNew

/- Of the program: Candidates; conditions: none. -/
namespace Go.Proofs.YtmipoghemfopaaaGreat.sceneFace
open Go.RowKit Go.Deep Go base netSem netImpl routeRow routesB nbSem candSem candImp hopSem intsOwn hopMake hopBetween sceneSem sceneFault sceneList sceneNew
set_option linter.unusedVariables false

/-- The code that Candidates tells. -/
def candC (ok rb : Bool) (el dl rl l0 l3 l1 : Nat) (env : List Int) (router : Int) : Int := if rtC ok rb el dl rl l3 l1 env = 0 then (if inB router 0 ((l0 : Int) - 1) = true then 0 else 5) else rtC ok rb el dl rl l3 l1 env

theorem net_links {l : Nat → Nat} {s : Ss} {g x f : R} {o e : List Int} (h : netB l s g o e x f = true) : l 0 ≤ 4 ∧ l 4 ≤ 12 ∧ (∀ i, i < l 1 → linkB g (l 0) i = true) ∧ ∀ i, i < l 4 → importB g (l 1) x i = true := by
  unfold netB routersB linksB importsB at h
  simp only [Bool.and_eq_true, decide_eq_true_eq, allN_iff] at h
  obtain ⟨⟨⟨⟨⟨⟨⟨h1, _⟩, ⟨_, h2⟩⟩, _⟩, _⟩, _⟩, ⟨h3, h4⟩⟩, _⟩ := h
  unfold inB at h1
  simp only [decide_eq_true_eq] at h1
  exact ⟨by omega, h3, h2, h4⟩
theorem link_facts {g : R} {r i : Nat} (h : linkB g r i = true) (hr : r ≤ 4) : (0 ≤ g i 0 ∧ g i 0 < 4 ∧ 0 ≤ g i 1 ∧ g i 1 < 4 ∧ g i 0 ≠ g i 1) ∧ linkAt g i (g i 0) (g i 1) < 0 ∧ 0 ≤ g i 2 ∧ g i 2 ≤ 100 := by
  unfold linkB inB at h
  simp only [Bool.and_eq_true, decide_eq_true_eq] at h
  obtain ⟨⟨⟨⟨⟨h1, h2⟩, h3, h4⟩, h5⟩, h6, h7⟩, h8⟩ := h
  exact ⟨⟨by omega, by omega, by omega, by omega, h5⟩, h8, by omega, by omega⟩
theorem import_facts {g x : R} {nl i : Nat} (h : importB g nl x i = true) (hg : ∀ j, j < nl → 0 ≤ g j 0 ∧ g j 0 < 4 ∧ 0 ≤ g j 1 ∧ g j 1 < 4 ∧ g j 0 ≠ g j 1) : (0 ≤ x i 0 ∧ x i 0 < 4 ∧ 0 ≤ x i 1 ∧ x i 1 < 4) ∧ 1 ≤ x i 3 ∧ x i 3 ≤ 4 := by
  unfold importB deedB inB at h
  simp only [Bool.and_eq_true, decide_eq_true_eq] at h
  obtain ⟨h1, ⟨_, h2, h3⟩, _⟩ := h
  obtain ⟨j, hj, hh⟩ := firstAt_spec.1 h1
  unfold hit at hh
  simp only [decide_eq_true_eq] at hh
  have := hg j hj
  refine ⟨?_, h2, h3⟩
  rcases hh with ⟨e1, e2⟩ | ⟨e1, e2⟩ <;> omega
theorem good_of {l : Nat → Nat} {s : Ss} {g x f : R} {o e : List Int} {rl : Nat} {rs : Rs} (h : netB l s g o e x f = true) (hr : routesB g (l 1) (l 0) rl rs = true) : rl = l 0 ∧ sceneBy.Good (l 0) l g x rs := by
  obtain ⟨h4, h12, hl, hi⟩ := net_links h
  have hgi := fun j hj => (link_facts (hl j hj) h4).1
  unfold routesB at hr
  simp only [Bool.and_eq_true, decide_eq_true_eq, allN_iff] at hr
  obtain ⟨e0, hr⟩ := hr
  subst e0
  have hrt : ∀ i, i < l 0 → (-3 ≤ (rs i).via ∧ (rs i).via < l 0) ∧ 0 ≤ (rs i).len ∧ (rs i).len ≤ 10000 := fun i hi => by
    have h := hr i hi
    unfold routeB inB at h
    simp only [Bool.and_eq_true, decide_eq_true_eq] at h
    obtain ⟨⟨⟨⟨⟨h1, h2⟩, _⟩, h5, h6⟩, _⟩, _⟩ := h
    exact ⟨⟨by omega, by omega⟩, h5, h6⟩
  exact ⟨rfl, ⟨h4, fun i hi => (link_facts (hl i hi) h4).2.1, fun i hi => (link_facts (hl i hi) h4).2.2, fun i h => (import_facts (hi i h) hgi).2, fun i hi => (hrt i hi).1, fun i hi => ⟨(hrt i hi).2.1, by have := (hrt i hi).2.2; omega⟩⟩⟩

theorem rt_zero {ok rb : Bool} {el dl rl l3 l1 : Nat} {env : List Int} (h : rtC ok rb el dl rl l3 l1 env = 0) : ok = true ∧ rb = true ∧ el = l3 ∧ dl = l1 ∧ ∀ i, i < el → 0 ≤ zAt env i := by
  unfold rtC at h
  by_cases h1 : 4096 < el ∨ 4096 < dl ∨ 4096 < rl
  · rw [if_pos h1] at h; cases h
  rw [if_neg h1] at h
  by_cases h2 : arC ok el dl l3 l1 env = 0
  case neg => rw [if_neg h2] at h; exact absurd h h2
  rw [if_pos h2] at h
  unfold arC at h2
  cases rb with
  | false => cases h
  | true =>
  cases ok with
  | false => cases h2
  | true =>
  rw [if_neg (by decide)] at h2
  by_cases h3 : el ≠ l3 ∨ dl ≠ l1
  · rw [if_pos h3] at h2; cases h2
  rw [if_neg h3] at h2
  by_cases h4 : allN (fun i => inB (zAt env i) 0 2) el = true
  · refine ⟨rfl, rfl, by omega, by omega, fun i hi => ?_⟩
    have h5 := allN_iff.1 h4 i hi
    unfold inB at h5
    simp only [decide_eq_true_eq] at h5
    exact h5.1
  · rw [if_neg h4] at h2; cases h2

end Go.Proofs.YtmipoghemfopaaaGreat.sceneFace
