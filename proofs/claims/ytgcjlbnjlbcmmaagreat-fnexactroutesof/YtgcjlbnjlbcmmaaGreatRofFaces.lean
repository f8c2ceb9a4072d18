/- RofFace; RofFaceS: one text, so that the claim has fewer files. -/
import Derived.Test.YtgcjlbnjlbcmmaaGreatRofImpl
import Derived.Test.YtgcjlbnjlbcmmaaGreatRofSpec
import Derived.Test.YtgcjlbnjlbcmmaaGreatSceneAll
import Derived.Test.YtgcjlbnjlbcmmaaGreatStabAll
/- RoutesOf, of the program; conditions: none. -/
namespace Go.Proofs.YtgcjlbnjlbcmmaaGreat.rofFace
open Go.RowKit Go.Deep Go base copy names netSem netImpl netParts netFace netOKImpl routeRow routesB routesImpl nbSem candSem candImp hopSem intsOwn hopMake hopBetween sceneSem sceneBy sceneNew sceneFault sceneFace candEnv candFace noRts bestAll stabImpl stabFace rtsRow rofSem rofImpl rofSpec
set_option linter.unusedVariables false

theorem env_zero {ok : Bool} {el dl l3 l1 : Nat} {env : List Int} (h : envC ok el dl l3 l1 env = 0) : ok = true ∧ el = l3 ∧ dl = l1 ∧ ∀ i, i < el → 0 ≤ zAt env i := by
  obtain ⟨h1, _, h2⟩ := rt_zero (ok := ok) (rb := true) (el := el) (dl := dl) (rl := 0) (l3 := l3) (l1 := l1) (env := env) (by rw [env_code (by omega), h, if_pos rfl, if_pos rfl])
  exact ⟨h1, h2⟩
/-- What is told ahead, with another list. -/
def fltC (ok : Bool) (el dl vl l3 l1 : Nat) (env : List Int) : Int := if 4096 < vl then 2 else envC ok el dl l3 l1 env
theorem flt_code {ok : Bool} {el dl vl l3 l1 : Nat} {env : List Int} : (if 4096 < el ∨ 4096 < dl ∨ 4096 < vl then 2 else arC ok el dl l3 l1 env) = fltC ok el dl vl l3 l1 env := by
  unfold fltC envC arC
  by_cases h : 4096 < vl
  · rw [if_pos (by omega), if_pos h]
  · rw [if_neg h]
    by_cases h1 : 4096 < el ∨ 4096 < dl
    · rw [if_pos (by omega), if_pos h1]
    · rw [if_neg (by omega), if_neg h1]
theorem flt_zero {ok : Bool} {el dl vl l3 l1 : Nat} {env : List Int} (h : fltC ok el dl vl l3 l1 env = 0) : (ok = true ∧ el = l3 ∧ dl = l1 ∧ ∀ i, i < el → 0 ≤ zAt env i) ∧ ¬ 4096 < vl := by
  unfold fltC at h
  split at h
  · cases h
  · next h1 => exact ⟨env_zero h, h1⟩
/-- Vias are as many as routers, each within them. -/
def vsB (vs : List Int) (n vl : Nat) : Bool := decide (vl = n) && allN (fun i => inB (zAt vs i) (-3) ((n : Int) - 1)) vl
def rofC (fc : Int) (vb ok : Bool) : Int := if fc ≠ 0 then fc else if vb = false then 5 else if ok = true then 0 else 6
theorem vs_in {vs : List Int} {n vl : Nat} (hl : vs.length = vl) (h : vsB vs n vl = true) (hn : 1 ≤ n) : vl = n ∧ ∀ i, -3 ≤ zAt vs i ∧ zAt vs i < n := by
  unfold vsB at h
  simp only [Bool.and_eq_true, decide_eq_true_eq] at h
  refine ⟨h.1, fun i => ?_⟩
  by_cases hi : i < vl
  · have := allN_iff.1 h.2 i hi
    unfold inB at this
    simp only [decide_eq_true_eq] at this
    omega
  · unfold zAt
    rw [List.getElem?_eq_none (by omega)]
    simp only [Option.getD_none]
    omega

set_option maxHeartbeats 800000 in
theorem vias_cl (v : Int) (q n : Nat) (w : World) (hq : w.cell? ⟨q, 0, none⟩ = some (.int .i64 (n : Int))) (hn : n ≤ maxLen) :
    Calls Tryz.prog 61 #[.int .i64 v, .pointer (some ⟨q, 0, none⟩)] w fun e w' => e = .returned (.bool (inB v (-3) ((n : Int) - 1))) ∧ w' = w := by
  unfold maxLen at hn
  go_enter Tryz.func61, Tryz.ntmps61
  go_wp2_with (go_at_call 62; refine (within_impl _ _ _ _).mono ?_; rintro e w' ⟨rfl, rfl⟩)
  go_ret
  exact ⟨rfl, rfl⟩

set_option maxHeartbeats 800000 in
theorem all_vias (a : Option Addr) (n c q m : Nat) (z : List Int) (w : World) (hx : IntRow w a n z) (hq : w.cell? ⟨q, 0, none⟩ = some (.int .i64 (m : Int))) (hm : m ≤ maxLen) :
    Calls Tryz.prog 60 #[.slice a n c, .func (.func 61) #[] #[.pointer (some ⟨q, 0, none⟩)]] w fun e w' => e = .returned (.bool (allN (fun i => inB (zAt z i) (-3) ((m : Int) - 1)) n)) ∧ w' = w := by
  have hmost := hx.most
  unfold maxLen at hmost
  have HX := hid hx
  have HQc := hid hq
  have HMm := hid hm
  clear hx hq hm
  go_enter Tryz.func60, Tryz.ntmps60
  go_wp2
  go_loop [9] (fun i => ∃ k : Nat, k ≤ n ∧ i = .int .i64 k ∧ ∀ j, j < k → inB (zAt z j) (-3) ((m : Int) - 1) = true) (fun i => n - (intOf i).toNat)
  case atStart => exact ⟨0, Nat.zero_le _, rfl, fun j hj => absurd hj (Nat.not_lt_zero _)⟩
  case round =>
    obtain ⟨k, hk, rfl, ha⟩ := hrel
    have HA := hid ha
    clear ha
    by_cases hlt : k < n
    · obtain ⟨b, off, rfl, hc⟩ := HX.out.cell k hlt
      have HQ : Hid (zAt z k = z[k]?.getD 0) := hid rfl
      generalize z[k]?.getD 0 = y at *
      obtain ⟨D, hD⟩ : ∃ D, inB y (-3) ((m : Int) - 1) = D := ⟨_, rfl⟩
      have HD := hid hD
      have HE : Hid (inB (zAt z k) (-3) ((m : Int) - 1) = D) := hid (by rw [HQ.out]; exact hD)
      clear hD
      go_wp2_with fail
      refine (vias_cl y q m _ HQc.out HMm.out).mono ?_
      rintro e' w1 ⟨rfl, hw⟩
      have hw := hw.symm
      subst hw
      rw [HD.out]
      cases D with
      | true =>
        go_wp2
        go_round
        case rel =>
          refine ⟨k + 1, by omega, by go_num, fun j hj => ?_⟩
          by_cases e : j = k
          · subst e; exact HE.out
          · exact HA.out j (by omega)
        case measure => simp [intOf]; omega
      | false =>
        go_wp2
        go_ret
        exact ⟨ret_bool (allN_false (p := fun i => inB (zAt z i) (-3) ((m : Int) - 1)) hlt HE.out).symm, rfl⟩
    · have e : k = n := by omega
      subst e
      go_wp2
      go_ret
      exact ⟨ret_bool (allN_of (p := fun i => inB (zAt z i) (-3) ((m : Int) - 1)) HA.out).symm, rfl⟩

set_option maxHeartbeats 800000 in
theorem vias_impl (a : Option Addr) (vl vc n : Nat) (vs : List Int) (w : World) (hx : IntRow w a vl vs) (hn : n ≤ maxLen) :
    Calls Tryz.prog 38 #[.slice a vl vc, .int .i64 (n : Int)] w fun e w' => e = .returned (.bool (vsB vs n vl)) ∧ Below w.heap.size w w' := by
  have hmost := hx.most
  have HAll := hid (fun (W : World) (hb : Below w.heap.size w W) (q : Nat) (hq : W.cell? ⟨q, 0, none⟩ = some (.int .i64 (n : Int))) => all_vias a vl vc q n vs W (hx.below hb) hq hn)
  unfold maxLen at hmost hn
  clear hx
  obtain ⟨V, hV⟩ : ∃ V, vsB vs n vl = V := ⟨_, rfl⟩
  have HV := hid hV
  rw [hV]
  clear hV
  unfold vsB at HV
  have hmf := mkfunc
  by_cases e1 : vl = n
  · have d1 : ((vl : Int) == (n : Int)) = true := by simp [e1]
    have eV : allN (fun i => inB (zAt vs i) (-3) ((n : Int) - 1)) vl = V := by rw [← HV.out, decide_eq_true e1, Bool.true_and]
    have HEv := hid eV
    clear eV HV e1
    go_enter Tryz.func38, Tryz.ntmps38
    go_wp2_with fail
    refine (HAll.out _ (by repeat (first | exact Below.refl _ _ | assumption | refine Below.drew ?_ | refine Below.alloc ?_ (by first | exact Nat.le_refl _ | omega | (simp; done) | (simp; omega)) _ | refine Below.setCell ?_ (by first | exact Nat.le_refl _ | omega | (simp; done) | (simp; omega)) _)) _ (by simp [go_sem])).mono ?_
    rintro e' w1 ⟨rfl, hw⟩
    have HW := hid hw
    rw [HEv.out]
    clear hw
    go_wp2
    go_ret
    exact ⟨rfl, by rw [HW.out]; exact (by repeat (first | exact Below.refl _ _ | assumption | refine Below.drew ?_ | refine Below.alloc ?_ (by first | exact Nat.le_refl _ | omega | (simp; done) | (simp; omega)) _ | refine Below.setCell ?_ (by first | exact Nat.le_refl _ | omega | (simp; done) | (simp; omega)) _))⟩
  · have d1 : ((vl : Int) == (n : Int)) = false := by simp; omega
    have eV : V = false := by rw [← HV.out, decide_eq_false e1]; rfl
    subst eV
    clear HV e1
    go_enter Tryz.func38, Tryz.ntmps38
    go_wp2
    go_ret
    exact ⟨rfl, (by repeat (first | exact Below.refl _ _ | assumption | refine Below.drew ?_ | refine Below.alloc ?_ (by first | exact Nat.le_refl _ | omega | (simp; done) | (simp; omega)) _ | refine Below.setCell ?_ (by first | exact Nat.le_refl _ | omega | (simp; done) | (simp; omega)) _))⟩

set_option maxHeartbeats 3200000 in
set_option maxRecDepth 8000 in
theorem rout_impl (p : Nat → Option Addr) (l c : Nat → Nat) (s : Ss) (g : R) (o e : List Int) (x f : R) (ea da va : Option Addr) (el ec dl dc vl vc : Nat) (env : List Int) (ds : List Bool) (vs : List Int) (w : World) (h : NetIs w p l s g o e x f) (hc0 : l 0 ≤ c 0) (hc1 : l 1 ≤ c 1) (he : IntRow w ea el env) (hd : BoolRow w da dl ds) (hv : IntRow w va vl vs) :
    Calls Tryz.prog 10 #[netV p l c, .slice ea el ec, .slice da dl dc, .slice va vl vc] w fun e' w' => ∃ v, e' = .returned (.tuple #[v, .int .i64 (rofC (fltC (netB l s g o e x f) el dl vl (l 3) (l 1) env) (vsB vs (l 0) vl) (okV g (l 1) o e x (l 4) env ds vs (l 0)))]) ∧ OwnRts w.heap.size w' v (if rofC (fltC (netB l s g o e x f) el dl vl (l 3) (l 1) env) (vsB vs (l 0) vl) (okV g (l 1) o e x (l 4) env ds vs (l 0)) = 0 then (List.range (l 0)).map (valR g (l 1) o e x (l 4) env ds vs (l 0)) else []) ∧ Below w.heap.size w w' := by
  have HF : Hid (∀ (W : World) (hb : Below w.heap.size w W), Calls Tryz.prog 37 #[netV p l c, .slice ea el ec, .slice da dl dc, .int .i64 (vl : Int)] W fun e' w' => e' = .returned (.int .i64 (fltC (netB l s g o e x f) el dl vl (l 3) (l 1) env)) ∧ Below W.heap.size W w') := hid (fun W hb => by
    have h9 := scene_fault p l c s g o e x f ea da el ec dl dc vl env W (h.below hb) hc0 hc1 (he.below hb) hd.most hv.most
    rw [flt_code] at h9
    exact h9)
  have HN := hid h
  have HE := hid he
  have HD := hid hd
  have HVr := hid hv
  have M0 := hid h.routers.most
  have mv := hv.most
  have m0 := h.routers.most
  unfold maxLen at mv m0
  clear h he hd hc0 hc1 hv
  obtain ⟨ok, hok⟩ : ∃ b, netB l s g o e x f = b := ⟨_, rfl⟩
  have HOK := hid hok
  rw [hok]
  simp only [hok] at HF
  clear hok
  obtain ⟨D, hD⟩ : ∃ D, fltC ok el dl vl (l 3) (l 1) env = D := ⟨_, rfl⟩
  have HDD := hid hD
  simp only [hD] at HF
  rw [hD]
  obtain ⟨VB, hVB⟩ : ∃ V, vsB vs (l 0) vl = V := ⟨_, rfl⟩
  have HVB := hid hVB
  rw [hVB]
  obtain ⟨OK, hOK⟩ : ∃ V, okV g (l 1) o e x (l 4) env ds vs (l 0) = V := ⟨_, rfl⟩
  have HOKv := hid hOK
  rw [hOK]
  obtain ⟨C, hC⟩ : ∃ C, rofC D VB OK = C := ⟨_, rfl⟩
  have HC := hid hC
  rw [hC]
  obtain ⟨Z, hZ⟩ : ∃ Z, (if C = 0 then (List.range (l 0)).map (valR g (l 1) o e x (l 4) env ds vs (l 0)) else []) = Z := ⟨_, rfl⟩
  have HZl := hid hZ
  rw [hZ]
  unfold rofC at HC
  clear hC hD hZ hOK hVB
  have C1 : ∀ w8 : World, Below ((w.alloc (.cells #[.slice (p 0) (l 0) (c 0), .slice (p 1) (l 1) (c 1), .slice (p 2) (l 2) (c 2), .slice (p 3) (l 3) (c 3), .slice (p 4) (l 4) (c 4), .slice (p 5) (l 5) (c 5)] 38))).heap.size (w.alloc (.cells #[.slice (p 0) (l 0) (c 0), .slice (p 1) (l 1) (c 1), .slice (p 2) (l 2) (c 2), .slice (p 3) (l 3) (c 3), .slice (p 4) (l 4) (c 4), .slice (p 5) (l 5) (c 5)] 38)) w8 → (w8.cell? ⟨w.heap.size, 0, none⟩ = some (.slice (p 0) (l 0) (c 0)) ∧ w8.cell? ⟨w.heap.size, 1, none⟩ = some (.slice (p 1) (l 1) (c 1)) ∧ w8.cell? ⟨w.heap.size, 2, none⟩ = some (.slice (p 2) (l 2) (c 2)) ∧ w8.cell? ⟨w.heap.size, 3, none⟩ = some (.slice (p 3) (l 3) (c 3)) ∧ w8.cell? ⟨w.heap.size, 4, none⟩ = some (.slice (p 4) (l 4) (c 4)) ∧ w8.cell? ⟨w.heap.size, 5, none⟩ = some (.slice (p 5) (l 5) (c 5))) ∧ Below w.heap.size w w8 :=
    fun w8 hb => ⟨⟨keep hb (by simp [go_sem]), keep hb (by simp [go_sem]), keep hb (by simp [go_sem]), keep hb (by simp [go_sem]), keep hb (by simp [go_sem]), keep hb (by simp [go_sem])⟩, (show Below w.heap.size w _ from (by repeat (first | exact Below.refl _ _ | assumption | refine Below.drew ?_ | refine Below.alloc ?_ (by first | exact Nat.le_refl _ | omega | (simp; done) | (simp; omega)) _ | refine Below.setCell ?_ (by first | exact Nat.le_refl _ | omega | (simp; done) | (simp; omega)) _))).trans (hb.mono (by simp))⟩
  have HC1 := hid C1
  clear C1
  unfold netV at HF ⊢
  go_enter Tryz.func10, Tryz.ntmps10
  go_wp2_with fail
  refine (HF.out _ (by repeat (first | exact Below.refl _ _ | assumption | refine Below.drew ?_ | refine Below.alloc ?_ (by first | exact Nat.le_refl _ | omega | (simp; done) | (simp; omega)) _ | refine Below.setCell ?_ (by first | exact Nat.le_refl _ | omega | (simp; done) | (simp; omega)) _))).mono ?_
  rintro e' w1 ⟨rfl, hb1⟩
  have H1 := hid hb1
  obtain ⟨⟨q0, q1, q2, q3, q4, q5⟩, hB⟩ := HC1.out _ hb1
  have B1 := hid hB
  have hz1 : w.heap.size < w1.heap.size := by have := hb1.size; simp at this; omega
  clear hb1 hB
  by_cases h0 : D = 0
  case neg =>
    rw [if_pos h0] at HC
    have d1 : (D != 0) = true := by simp [h0]
    have e2 := HC.out
    have eZ : Z = [] := by rw [← HZl.out, ← e2, if_neg h0]
    clear h0 HZl
    subst e2
    subst eZ
    go_wp2
    go_ret2
    exact ⟨_, rfl, ⟨rfl, .inl ⟨rfl, rfl⟩⟩, B1.out⟩
  rw [if_neg (by simpa using h0)] at HC
  rw [h0] at HDD ⊢
  clear h0
  go_wp2_with fail
  refine (vias_impl va vl vc (l 0) vs w1 (HVr.out.below B1.out) M0.out).mono ?_
  rintro e' w2 ⟨rfl, hb2⟩
  rw [HVB.out]
  have B2 := hid (B1.out.trans (hb2.mono B1.out.size))
  have k0 := keep hb2 q0
  have k1 := keep hb2 q1
  have k2 := keep hb2 q2
  have k3 := keep hb2 q3
  have k4 := keep hb2 q4
  have k5 := keep hb2 q5
  have hz2 : w.heap.size < w2.heap.size := Nat.lt_of_lt_of_le hz1 hb2.size
  clear hb2 q0 q1 q2 q3 q4 q5
  cases VB with
  | false =>
    have e2 : C = 5 := by rw [← HC.out, if_pos rfl]
    have eZ : Z = [] := by rw [← HZl.out, e2, if_neg (by decide)]
    clear HZl HC
    subst e2
    subst eZ
    go_wp2
    go_ret2
    exact ⟨_, rfl, ⟨rfl, .inl ⟨rfl, rfl⟩⟩, B2.out⟩
  | true =>
  rw [if_neg (by decide)] at HC
  obtain ⟨⟨f1, f3, f4, f5⟩, -⟩ := flt_zero HDD.out
  subst f1
  obtain ⟨n4, n12, nl, ni⟩ := net_links HOK.out
  have hgi := fun j hj => (link_facts (nl j hj) n4).1
  have HNew := hid (new_impl p l c s g o e x f ea da el ec dl dc env ds w2 (HN.out.below B2.out) (HE.out.below B2.out) (HD.out.below B2.out) f3 f4 hgi (fun i h => (import_facts (ni i h) hgi).1) n12)
  have hn1 : 1 ≤ l 0 := one_router HOK.out
  obtain ⟨hvl, hvi⟩ := vs_in HVr.out.length HVB.out hn1
  have HVi := hid hvi
  subst hvl
  have HFine : Hid (Fine (l 0) l g x) := hid ⟨n4, fun i hi => (link_facts (nl i hi) n4).2.1, fun i hi => (link_facts (nl i hi) n4).2.2, fun i h => (import_facts (ni i h) hgi).2⟩
  clear f3 f4 f5 n12 nl ni hgi HF hvi
  unfold netV at HNew
  go_wp2_with fail
  refine HNew.out.mono ?_
  rintro e' w3 ⟨sb, b, F, rfl, hb3, hs3, hB3⟩
  have HS3 := hid hs3
  have HB3 := hid hB3
  have hz3 := hB3.size
  have hbw3 : b < w3.heap.size := by rcases hs3.ready with ⟨h1, _⟩ | ⟨V, F', hm⟩; exact h1.lt; exact hm.row.lt
  clear hs3 hB3
  have hna : ∀ a o, va = some ⟨a, o, none⟩ → a ≠ b := fun a o e => by
    obtain ⟨vb, vo, e2, hc⟩ := HVr.out.cell 0 (by omega)
    rw [e] at e2
    injection e2 with e2
    injection e2 with e3 _
    have := World.block_lt_of_cell? _ _ hc
    simp only at this
    omega
  have HNa := hid hna
  clear hna
  go_wp2_with fail
  refine (routesOf_impl va (l 0) vc vs HS3.out HFine.out (HVr.out.below (B2.out.trans (HB3.out.mono B2.out.size))) HNa.out hn1 HVi.out).mono ?_
  rintro e' w4 ⟨hres, hs4, hg4⟩
  have HBel : Hid (Below w.heap.size w w4) := hid (by
    have hA := B2.out.trans (HB3.out.mono B2.out.size)
    have h7 := hA.size
    have h6 := B2.out.size
    exact { os := hg4.os.trans hA.os, tape := hg4.tape.trans hA.tape, output := hg4.output.trans hA.output, size := Nat.le_trans hA.size hg4.size, block := fun j hj => (hg4.block j (by omega) (fun e => by injection e with e; omega)).trans (hA.block j hj) })
  clear hs4 hg4
  rcases hres with ⟨hok, N, rfl, hN, hl4⟩ | ⟨hok, rfl⟩
  · rw [HOKv.out] at hok
    subst hok
    have e2 : C = 0 := by rw [← HC.out, if_pos rfl]
    have eZ : Z = (List.range (l 0)).map (valR g (l 1) o e x (l 4) env ds vs (l 0)) := by rw [← HZl.out, e2, if_pos rfl]
    have HOw : Hid (OwnRts w.heap.size w4 (.slice (some ⟨N, 0, none⟩) (l 0) (l 0)) Z) := hid (by rw [eZ]; exact own_laid hl4 (Nat.le_refl _) (by unfold maxLen; omega) (by omega))
    subst e2
    clear HZl HC hl4 eZ
    go_wp2
    go_ret2
    exact ⟨_, rfl, HOw.out, HBel.out⟩
  · rw [HOKv.out] at hok
    subst hok
    have e2 : C = 6 := by rw [← HC.out, if_neg (by decide)]
    have eZ : Z = [] := by rw [← HZl.out, e2, if_neg (by decide)]
    subst e2
    subst eZ
    clear HZl HC
    go_wp2
    go_ret2
    exact ⟨_, rfl, ⟨rfl, .inl ⟨rfl, rfl⟩⟩, HBel.out⟩
end Go.Proofs.YtgcjlbnjlbcmmaaGreat.rofFace

/- RoutesOf, of the specification; conditions: none. -/
namespace Go.Proofs.YtgcjlbnjlbcmmaaGreat.rofFaceS
open Go.RowKit Go.Deep Go base copy names netSem netSpec routeRow routesB nbSem candSem candImp intsOwn sceneSem sceneFault sceneFace candEnv candFace stabFace rtsRow rofSem rofImpl rofSpec rofFace
set_option linter.unusedVariables false

set_option maxHeartbeats 3200000 in
set_option maxRecDepth 8000 in
theorem rout_spec (p : Nat → Option Addr) (l c : Nat → Nat) (s : Ss) (g : R) (o e : List Int) (x f : R) (ea da va : Option Addr) (el ec dl dc vl vc : Nat) (env : List Int) (ds : List Bool) (vs : List Int) (w : World) (h : NetIs w p l s g o e x f) (hc0 : l 0 ≤ c 0) (hc1 : l 1 ≤ c 1) (he : IntRow w ea el env) (hd : BoolRow w da dl ds) (hv : IntRow w va vl vs) :
    Calls Tryz.prog 6 #[netV p l c, .slice ea el ec, .slice da dl dc, .slice va vl vc] w fun e' w' => ∃ v, e' = .returned (.tuple #[v, .int .i64 (rofC (fltC (netB l s g o e x f) el dl vl (l 3) (l 1) env) (vsB vs (l 0) vl) (okV g (l 1) o e x (l 4) env ds vs (l 0)))]) ∧ OwnRts w.heap.size w' v (if rofC (fltC (netB l s g o e x f) el dl vl (l 3) (l 1) env) (vsB vs (l 0) vl) (okV g (l 1) o e x (l 4) env ds vs (l 0)) = 0 then (List.range (l 0)).map (valR g (l 1) o e x (l 4) env ds vs (l 0)) else []) ∧ Below w.heap.size w w' := by
  have HV := hid (fun (W : World) (hb : Below w.heap.size w W) => env_spec p l c s g o e x f ea da el ec dl dc env W (h.below hb) hc0 hc1 (he.below hb) hd.most)
  have HN := hid h
  have HE := hid he
  have HD := hid hd
  have HVr := hid hv
  have M0 := hid h.routers.most
  have mv := hv.most
  have m0 := h.routers.most
  unfold maxLen at mv m0
  clear h he hd hc0 hc1 hv
  obtain ⟨ok, hok⟩ : ∃ b, netB l s g o e x f = b := ⟨_, rfl⟩
  have HOK := hid hok
  rw [hok]
  simp only [hok] at HV
  clear hok
  obtain ⟨E, hE⟩ : ∃ E, envC ok el dl (l 3) (l 1) env = E := ⟨_, rfl⟩
  have HEE := hid hE
  simp only [hE] at HV
  obtain ⟨D, hD⟩ : ∃ D, fltC ok el dl vl (l 3) (l 1) env = D := ⟨_, rfl⟩
  have HDD := hid hD
  rw [hD]
  have HDE : Hid ((if 4096 < vl then 2 else E) = D) := hid (by rw [← hD, ← hE]; rfl)
  obtain ⟨VB, hVB⟩ : ∃ V, vsB vs (l 0) vl = V := ⟨_, rfl⟩
  have HVB := hid hVB
  rw [hVB]
  obtain ⟨OK, hOK⟩ : ∃ V, okV g (l 1) o e x (l 4) env ds vs (l 0) = V := ⟨_, rfl⟩
  have HOKv := hid hOK
  rw [hOK]
  obtain ⟨C, hC⟩ : ∃ C, rofC D VB OK = C := ⟨_, rfl⟩
  have HC := hid hC
  rw [hC]
  obtain ⟨Z, hZ⟩ : ∃ Z, (if C = 0 then (List.range (l 0)).map (valR g (l 1) o e x (l 4) env ds vs (l 0)) else []) = Z := ⟨_, rfl⟩
  have HZl := hid hZ
  rw [hZ]
  unfold rofC at HC
  clear hC hD hZ hOK hVB hE
  have C1 : ∀ w8 : World, Below ((w.alloc (.cells #[.slice (p 0) (l 0) (c 0), .slice (p 1) (l 1) (c 1), .slice (p 2) (l 2) (c 2), .slice (p 3) (l 3) (c 3), .slice (p 4) (l 4) (c 4), .slice (p 5) (l 5) (c 5)] 38))).heap.size (w.alloc (.cells #[.slice (p 0) (l 0) (c 0), .slice (p 1) (l 1) (c 1), .slice (p 2) (l 2) (c 2), .slice (p 3) (l 3) (c 3), .slice (p 4) (l 4) (c 4), .slice (p 5) (l 5) (c 5)] 38)) w8 → (w8.cell? ⟨w.heap.size, 0, none⟩ = some (.slice (p 0) (l 0) (c 0)) ∧ w8.cell? ⟨w.heap.size, 1, none⟩ = some (.slice (p 1) (l 1) (c 1)) ∧ w8.cell? ⟨w.heap.size, 2, none⟩ = some (.slice (p 2) (l 2) (c 2)) ∧ w8.cell? ⟨w.heap.size, 3, none⟩ = some (.slice (p 3) (l 3) (c 3)) ∧ w8.cell? ⟨w.heap.size, 4, none⟩ = some (.slice (p 4) (l 4) (c 4)) ∧ w8.cell? ⟨w.heap.size, 5, none⟩ = some (.slice (p 5) (l 5) (c 5))) ∧ Below w.heap.size w w8 :=
    fun w8 hb => ⟨⟨keep hb (by simp [go_sem]), keep hb (by simp [go_sem]), keep hb (by simp [go_sem]), keep hb (by simp [go_sem]), keep hb (by simp [go_sem]), keep hb (by simp [go_sem])⟩, (show Below w.heap.size w _ from (by repeat (first | exact Below.refl _ _ | assumption | refine Below.drew ?_ | refine Below.alloc ?_ (by first | exact Nat.le_refl _ | omega | (simp; done) | (simp; omega)) _ | refine Below.setCell ?_ (by first | exact Nat.le_refl _ | omega | (simp; done) | (simp; omega)) _))).trans (hb.mono (by simp))⟩
  have HC1 := hid C1
  clear C1
  unfold netV at HV ⊢
  by_cases h1 : 4096 < vl
  · have e2 : C = 2 := by rw [← HC.out, ← HDE.out, if_pos h1, if_pos (by decide)]
    have eZ : Z = [] := by rw [← HZl.out, e2, if_neg (by decide)]
    have d1 : decide ((4096 : Int) < (vl : Int)) = true := decide_eq_true (by omega)
    subst e2
    subst eZ
    clear HZl HC h1
    go_enter Tryz.func6, Tryz.ntmps6
    go_wp2
    go_ret2
    exact ⟨_, rfl, rts_empty _ _ _ (by simp) (by simp), (by repeat (first | exact Below.refl _ _ | assumption | refine Below.drew ?_ | refine Below.alloc ?_ (by first | exact Nat.le_refl _ | omega | (simp; done) | (simp; omega)) _ | refine Below.setCell ?_ (by first | exact Nat.le_refl _ | omega | (simp; done) | (simp; omega)) _))⟩
  have d1 : decide ((4096 : Int) < (vl : Int)) = false := decide_eq_false (by omega)
  rw [if_neg h1] at HDE
  have hED := HDE.out
  subst hED
  clear HDE h1
  go_enter Tryz.func6, Tryz.ntmps6
  go_wp2_with fail
  refine (HV.out _ (by repeat (first | exact Below.refl _ _ | assumption | refine Below.drew ?_ | refine Below.alloc ?_ (by first | exact Nat.le_refl _ | omega | (simp; done) | (simp; omega)) _ | refine Below.setCell ?_ (by first | exact Nat.le_refl _ | omega | (simp; done) | (simp; omega)) _))).mono ?_
  rintro e' w1 ⟨rfl, hb1⟩
  have H1 := hid hb1
  obtain ⟨⟨q0, q1, q2, q3, q4, q5⟩, hB⟩ := HC1.out _ hb1
  have B1 := hid hB
  have hz1 : w.heap.size < w1.heap.size := by have := hb1.size; simp at this; omega
  clear hb1 hB
  by_cases h0 : E = 0
  case neg =>
    rw [if_pos h0] at HC
    have d2 : (E != 0) = true := by simp [h0]
    have e2 := HC.out
    have eZ : Z = [] := by rw [← HZl.out, ← e2, if_neg h0]
    clear h0 HZl
    subst e2
    subst eZ
    go_wp2
    go_ret2
    exact ⟨_, rfl, rts_empty _ _ _ B1.out.size rfl, B1.out.alloc B1.out.size _⟩
  rw [if_neg (by simpa using h0)] at HC
  rw [h0] at HEE HDD ⊢
  clear h0
  by_cases h2 : vl = l 0
  case neg =>
    have eV : VB = false := by rw [← HVB.out]; unfold vsB; rw [decide_eq_false h2]; rfl
    subst eV
    have e2 : C = 5 := by rw [← HC.out, if_pos rfl]
    have eZ : Z = [] := by rw [← HZl.out, e2, if_neg (by decide)]
    have d2 : ((vl : Int) != (l 0 : Int)) = true := by simp; omega
    subst e2
    subst eZ
    clear HZl HC h2
    go_wp2
    go_ret2
    exact ⟨_, rfl, rts_empty _ _ _ B1.out.size rfl, B1.out.alloc B1.out.size _⟩
  have d2 : ((vl : Int) != (l 0 : Int)) = false := by simp [h2]
  have HVA : Hid (allN (fun i => inB (zAt vs i) (-3) ((l 0 : Int) - 1)) vl = VB) := hid (by rw [← HVB.out]; unfold vsB; rw [decide_eq_true h2, Bool.true_and])
  have HK0 : Hid (∀ W : World, Below w1.heap.size w1 W → W.cell? ⟨w.heap.size, 0, none⟩ = some (.slice (p 0) (l 0) (c 0)) ∧ W.cell? ⟨w.heap.size, 1, none⟩ = some (.slice (p 1) (l 1) (c 1)) ∧ W.cell? ⟨w.heap.size, 2, none⟩ = some (.slice (p 2) (l 2) (c 2)) ∧ W.cell? ⟨w.heap.size, 3, none⟩ = some (.slice (p 3) (l 3) (c 3)) ∧ W.cell? ⟨w.heap.size, 4, none⟩ = some (.slice (p 4) (l 4) (c 4)) ∧ W.cell? ⟨w.heap.size, 5, none⟩ = some (.slice (p 5) (l 5) (c 5)) ∧ Below w.heap.size w W) := hid (fun W hb => ⟨keep hb q0, keep hb q1, keep hb q2, keep hb q3, keep hb q4, keep hb q5, B1.out.trans (hb.mono B1.out.size)⟩)
  have HL2 := hid h2
  have HWr : Hid (IntKind.i64.wrap ((l 0 : Int) - 1) = (l 0 : Int) - 1) := hid (by rw [IntKind.wrap_i64]; omega)
  clear h2
  go_wp2
  go_loopw [11] (fun i wr => ∃ k : Nat, k ≤ vl ∧ i = .int .i64 k ∧ (∀ j, j < k → inB (zAt vs j) (-3) ((l 0 : Int) - 1) = true) ∧ Below w1.heap.size w1 wr) (fun i _ => vl - (intOf i).toNat)
  case atStart => exact ⟨0, Nat.zero_le _, rfl, fun j hj => absurd hj (Nat.not_lt_zero _), Below.refl _ _⟩
  case round =>
    clear q0 q1 q2 q3 q4 q5
    obtain ⟨k, hk, rfl, ha, hbr⟩ := hrel
    have HA := hid ha
    have HBr := hid hbr
    obtain ⟨q0, q1, q2, q3, q4, q5, hBw⟩ := HK0.out _ hbr
    have HBw := hid hBw
    clear ha hbr hBw
    by_cases hlt : k < vl
    · obtain ⟨vb, vo, hva, hvc⟩ := (HVr.out.below HBw.out).cell k hlt
      obtain ⟨y, hy⟩ : ∃ y, vs[k]?.getD 0 = y := ⟨_, rfl⟩
      have HY := hid (show zAt vs k = y from hy)
      rw [hy] at hvc
      obtain ⟨I, hI⟩ : ∃ I, inB y (-3) ((l 0 : Int) - 1) = I := ⟨_, rfl⟩
      have HI := hid hI
      have HIk : Hid (inB (zAt vs k) (-3) ((l 0 : Int) - 1) = I) := hid (by rw [HY.out]; exact hI)
      subst hva
      clear hy hI
      cases I with
      | false =>
        have eV : VB = false := by rw [← HVA.out]; exact allN_false (p := fun i => inB (zAt vs i) (-3) ((l 0 : Int) - 1)) hlt HIk.out
        subst eV
        have e2 : C = 5 := by rw [← HC.out, if_pos rfl]
        have eZ : Z = [] := by rw [← HZl.out, e2, if_neg (by decide)]
        subst e2
        subst eZ
        clear HZl HC
        go_wp2_with fail
        go_region_with (go_at_call 31; rw [HWr.out]; refine (in_spec _ _ _ _).mono ?_; rintro e3 w3 ⟨rfl, hw⟩; have hw := hw.symm; subst hw; rw [HI.out])
        all_goals
          go_wp2
          go_ret2
          exact ⟨_, rfl, rts_empty _ _ _ HBw.out.size rfl, (HBw.out.drew).alloc HBw.out.size _⟩
      | true =>
        go_wp2_with fail
        go_region_with (go_at_call 31; rw [HWr.out]; refine (in_spec _ _ _ _).mono ?_; rintro e3 w3 ⟨rfl, hw⟩; have hw := hw.symm; subst hw; rw [HI.out])
        all_goals
          go_wp2
          go_roundw
          case rel =>
            refine ⟨k + 1, by omega, by go_num, fun j hj => ?_, HBr.out.drew⟩
            by_cases e1 : j = k
            · subst e1; exact HIk.out
            · exact HA.out j (by omega)
          case measure => simp [intOf]; omega
    · have e1 : k = vl := by omega
      subst e1
      have eV : VB = true := by rw [← HVA.out]; exact allN_of (p := fun i => inB (zAt vs i) (-3) ((l 0 : Int) - 1)) HA.out
      subst eV
      rw [if_neg (by decide)] at HC
      obtain ⟨f1, f3, f4, f5⟩ := env_zero HEE.out
      subst f1
      obtain ⟨n4, n12, nl, ni⟩ := net_links HOK.out
      have hn1 : 1 ≤ l 0 := one_router HOK.out
      obtain ⟨hvl, hvi⟩ := vs_in HVr.out.length HVB.out hn1
      subst hvl
      subst f3
      subst f4
      have hen : ∀ i, 0 ≤ zAt env i := fun i => by
        by_cases hi : i < l 3
        · exact f5 i hi
        · have hl := HE.out.length
          unfold zAt
          rw [List.getElem?_eq_none (by omega)]
          exact Int.le_refl _
      have HOf := hid (of_spec p l c s g o e x f ea da va ec dc vc env ds vs wr (HN.out.below HBw.out) (HE.out.below HBw.out) (HD.out.below HBw.out) (HVr.out.below HBw.out) n4 hn1 (fun i hi => (link_facts (nl i hi) n4).2.2) hvi hen)
      unfold netV at HOf
      clear hlt hvi hen f5 nl ni n12
      go_wp2_with fail
      refine HOf.out.mono ?_
      rintro e' w4 ⟨v, rfl, ho4, hb4⟩
      rw [HOKv.out] at ho4 ⊢
      have HB4 := hid (HBw.out.trans (hb4.mono HBw.out.size))
      have hzr := HBw.out.size
      clear hb4
      cases OK with
      | true =>
        have e2 : C = 0 := by rw [← HC.out, if_pos rfl]
        have eZ : Z = (List.range (l 0)).map (valR g (l 1) o e x (l 4) env ds vs (l 0)) := by rw [← HZl.out, e2, if_pos rfl]
        have HOw : Hid (OwnRts w.heap.size w4 v Z) := hid (by rw [eZ]; exact (ho4 rfl).mono hzr)
        subst e2
        clear HZl HC ho4 eZ
        go_wp2
        go_ret2
        exact ⟨_, rfl, HOw.out, HB4.out⟩
      | false =>
        have e2 : C = 6 := by rw [← HC.out, if_neg (by decide)]
        have eZ : Z = [] := by rw [← HZl.out, e2, if_neg (by decide)]
        subst e2
        subst eZ
        clear HZl HC ho4
        go_wp2
        go_ret2
        exact ⟨_, rfl, rts_empty _ _ _ HB4.out.size rfl, HB4.out.alloc HB4.out.size _⟩
end Go.Proofs.YtgcjlbnjlbcmmaaGreat.rofFaceS
