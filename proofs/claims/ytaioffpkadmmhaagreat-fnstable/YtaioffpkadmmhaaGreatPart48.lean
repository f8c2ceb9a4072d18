import Derived.Test.YtaioffpkadmmhaaGreatRofImpl
import Derived.Test.YtaioffpkadmmhaaGreatRofSpec
import Derived.Test.YtaioffpkadmmhaaGreatPart25
import Derived.Test.YtaioffpkadmmhaaGreatPart28
import Derived.Test.YtaioffpkadmmhaaGreatPart8
import Derived.Test.YtaioffpkadmmhaaGreatPart23
namespace Go.Proofs.YtaioffpkadmmhaaGreat.rofFace
open Go.RowKit Go.Deep Go base copy names netSem netImpl netParts netFace netOKImpl routeRow routesB routesImpl nbSem candSem candImp hopSem intsOwn hopMake hopBetween sceneSem sceneBy sceneNew sceneFault sceneFace candEnv candFace noRts bestAll stabImpl stabFace rtsRow rofSem rofImpl rofSpec
set_option linter.unusedVariables false
theorem env_zero {ok : Bool} {el dl l3 l1 : Nat} {env : List Int} (h : envC ok el dl l3 l1 env = 0) : ok = true ∧ el = l3 ∧ dl = l1 ∧ ∀ i, i < el → 0 ≤ zAt env i := by
 obtain ⟨h1, _, h2⟩ := rt_zero (ok := ok) (rb := true) (el := el) (dl := dl) (rl := 0) (l3 := l3) (l1 := l1) (env := env) (by rw [env_code (by omega), h, if_pos rfl, if_pos rfl])
 exact ⟨h1, h2⟩
def fltC (ok : Bool) (el dl vl l3 l1 : Nat) (env : List Int) : Int := if 4096 < vl then 2 else envC ok el dl l3 l1 env
theorem flt_code {ok : Bool} {el dl vl l3 l1 : Nat} {env : List Int} : (if 4096 < el ∨ 4096 < dl ∨ 4096 < vl then 2 else arC ok el dl l3 l1 env) = fltC ok el dl vl l3 l1 env := by
 unfold fltC envC arC
 by_cases h : 4096 < vl
 · rw [if_pos (by omega), if_pos h]
 · rw [if_neg h]
   by_cases h1 : 4096 < el ∨ 4096 < dl
   · rw [if_pos (by omega), if_pos h1]
   · rw [if_neg (by omega), if_neg h1]
theorem flt_zero {ok : Bool} {el dl vl l3 l1 : Nat} {env : List Int} (h : fltC ok el dl vl l3 l1 env = 0) : (ok = true ∧ el = l3 ∧ dl = l1 ∧ ∀ i, i < el → 0 ≤ zAt env i) ∧ ¬ 4096 < vl := by
 unfold fltC at h
 split at h
 · cases h
 · next h1 => exact ⟨env_zero h, h1⟩
def vsB (vs : List Int) (n vl : Nat) : Bool := decide (vl = n) && allN (fun i => inB (zAt vs i) (-3) ((n : Int) - 1)) vl
def rofC (fc : Int) (vb ok : Bool) : Int := if fc ≠ 0 then fc else if vb = false then 5 else if ok = true then 0 else 6
theorem vs_in {vs : List Int} {n vl : Nat} (hl : vs.length = vl) (h : vsB vs n vl = true) (hn : 1 ≤ n) : vl = n ∧ ∀ i, -3 ≤ zAt vs i ∧ zAt vs i < n := by
 unfold vsB at h
 simp only [Bool.and_eq_true, decide_eq_true_eq] at h
 refine ⟨h.1, fun i => ?_⟩
 by_cases hi : i < vl
 · have := allN_iff.1 h.2 i hi
   unfold inB at this
   simp only [decide_eq_true_eq] at this
   omega
 · unfold zAt
   rw [List.getElem?_eq_none (by omega)]
   simp only [Option.getD_none]
   omega
set_option maxHeartbeats 800000 in
theorem vias_cl (v : Int) (q n : Nat) (w : World) (hq : w.cell? ⟨q, 0, none⟩ = some (.int .i64 (n : Int))) (hn : n ≤ maxLen) :
  Calls Tryz.prog 67 #[.int .i64 v, .pointer (some ⟨q, 0, none⟩)] w fun e w' => e = .returned (.bool (inB v (-3) ((n : Int) - 1))) ∧ w' = w := by
 unfold maxLen at hn
 go_enter Tryz.func67, Tryz.ntmps67
 go_wp2_with (go_at_call 55; refine (within_impl _ _ _ _).mono ?_; rintro e w' ⟨rfl, rfl⟩)
 go_ret
 exact ⟨rfl, rfl⟩
set_option maxHeartbeats 800000 in
theorem all_vias (a : Option Addr) (n c q m : Nat) (z : List Int) (w : World) (hx : IntRow w a n z) (hq : w.cell? ⟨q, 0, none⟩ = some (.int .i64 (m : Int))) (hm : m ≤ maxLen) :
  Calls Tryz.prog 66 #[.slice a n c, .func (.func 67) #[] #[.pointer (some ⟨q, 0, none⟩)]] w fun e w' => e = .returned (.bool (allN (fun i => inB (zAt z i) (-3) ((m : Int) - 1)) n)) ∧ w' = w := by
 have hmost := hx.most
 unfold maxLen at hmost
 have HX := hid hx
 have HQc := hid hq
 have HMm := hid hm
 clear hx hq hm
 go_enter Tryz.func66, Tryz.ntmps66
 go_wp2
 go_loop [9] (fun i => ∃ k : Nat, k ≤ n ∧ i = .int .i64 k ∧ ∀ j, j < k → inB (zAt z j) (-3) ((m : Int) - 1) = true) (fun i => n - (intOf i).toNat)
 case atStart => exact ⟨0, Nat.zero_le _, rfl, fun j hj => absurd hj (Nat.not_lt_zero _)⟩
 case round =>
  obtain ⟨k, hk, rfl, ha⟩ := hrel
  have HA := hid ha
  clear ha
  by_cases hlt : k < n
  · obtain ⟨b, off, rfl, hc⟩ := HX.out.cell k hlt
    have HQ : Hid (zAt z k = z[k]?.getD 0) := hid rfl
    generalize z[k]?.getD 0 = y at *
    obtain ⟨D, hD⟩ : ∃ D, inB y (-3) ((m : Int) - 1) = D := ⟨_, rfl⟩
    have HD := hid hD
    have HE : Hid (inB (zAt z k) (-3) ((m : Int) - 1) = D) := hid (by rw [HQ.out]; exact hD)
    clear hD
    go_wp2_with fail
    refine (vias_cl y q m _ HQc.out HMm.out).mono ?_
    rintro e' w1 ⟨rfl, hw⟩
    have hw := hw.symm
    subst hw
    rw [HD.out]
    cases D with
    | true =>
     go_wp2
     go_round
     case rel =>
      refine ⟨k + 1, by omega, by go_num, fun j hj => ?_⟩
      by_cases e : j = k
      · subst e; exact HE.out
      · exact HA.out j (by omega)
     case measure => simp [intOf]; omega
    | false =>
     go_wp2
     go_ret
     exact ⟨ret_bool (allN_false (p := fun i => inB (zAt z i) (-3) ((m : Int) - 1)) hlt HE.out).symm, rfl⟩
  · have e : k = n := by omega
    subst e
    go_wp2
    go_ret
    exact ⟨ret_bool (allN_of (p := fun i => inB (zAt z i) (-3) ((m : Int) - 1)) HA.out).symm, rfl⟩
set_option maxHeartbeats 800000 in
theorem vias_impl (a : Option Addr) (vl vc n : Nat) (vs : List Int) (w : World) (hx : IntRow w a vl vs) (hn : n ≤ maxLen) :
  Calls Tryz.prog 37 #[.slice a vl vc, .int .i64 (n : Int)] w fun e w' => e = .returned (.bool (vsB vs n vl)) ∧ Below w.heap.size w w' := by
 have hmost := hx.most
 have HAll := hid (fun (W : World) (hb : Below w.heap.size w W) (q : Nat) (hq : W.cell? ⟨q, 0, none⟩ = some (.int .i64 (n : Int))) => all_vias a vl vc q n vs W (hx.below hb) hq hn)
 unfold maxLen at hmost hn
 clear hx
 obtain ⟨V, hV⟩ : ∃ V, vsB vs n vl = V := ⟨_, rfl⟩
 have HV := hid hV
 rw [hV]
 clear hV
 unfold vsB at HV
 have hmf := mkfunc
 by_cases e1 : vl = n
 · have d1 : ((vl : Int) == (n : Int)) = true := by simp [e1]
   have eV : allN (fun i => inB (zAt vs i) (-3) ((n : Int) - 1)) vl = V := by rw [← HV.out, decide_eq_true e1, Bool.true_and]
   have HEv := hid eV
   clear eV HV e1
   go_enter Tryz.func37, Tryz.ntmps37
   go_wp2_with fail
   refine (HAll.out _ (by repeat (first | exact Below.refl _ _ | assumption | refine Below.drew ?_ | refine Below.alloc ?_ (by first | exact Nat.le_refl _ | omega | (simp; done) | (simp; omega)) _ | refine Below.setCell ?_ (by first | exact Nat.le_refl _ | omega | (simp; done) | (simp; omega)) _)) _ (by simp [go_sem])).mono ?_
   rintro e' w1 ⟨rfl, hw⟩
   have HW := hid hw
   rw [HEv.out]
   clear hw
   go_wp2
   go_ret
   exact ⟨rfl, by rw [HW.out]; exact (by repeat (first | exact Below.refl _ _ | assumption | refine Below.drew ?_ | refine Below.alloc ?_ (by first | exact Nat.le_refl _ | omega | (simp; done) | (simp; omega)) _ | refine Below.setCell ?_ (by first | exact Nat.le_refl _ | omega | (simp; done) | (simp; omega)) _))⟩
 · have d1 : ((vl : Int) == (n : Int)) = false := by simp; omega
   have eV : V = false := by rw [← HV.out, decide_eq_false e1]; rfl
   subst eV
   clear HV e1
   go_enter Tryz.func37, Tryz.ntmps37
   go_wp2
   go_ret
   exact ⟨rfl, (by repeat (first | exact Below.refl _ _ | assumption | refine Below.drew ?_ | refine Below.alloc ?_ (by first | exact Nat.le_refl _ | omega | (simp; done) | (simp; omega)) _ | refine Below.setCell ?_ (by first | exact Nat.le_refl _ | omega | (simp; done) | (simp; omega)) _))⟩
set_option maxHeartbeats 3200000 in
set_option maxRecDepth 8000 in
theorem rout_impl (p : Nat → Option Addr) (l c : Nat → Nat) (s : Ss) (g : R) (o e : List Int) (x f : R) (ea da va : Option Addr) (el ec dl dc vl vc : Nat) (env : List Int) (ds : List Bool) (vs : List Int) (w : World) (h : NetIs w p l s g o e x f) (hc0 : l 0 ≤ c 0) (hc1 : l 1 ≤ c 1) (he : IntRow w ea el env) (hd : BoolRow w da dl ds) (hv : IntRow w va vl vs) :
  Calls Tryz.prog 17 #[netV p l c, .slice ea el ec, .slice da dl dc, .slice va vl vc] w fun e' w' => ∃ v, e' = .returned (.tuple #[v, .int .i64 (rofC (fltC (netB l s g o e x f) el dl vl (l 3) (l 1) env) (vsB vs (l 0) vl) (okV g (l 1) o e x (l 4) env ds vs (l 0)))]) ∧ OwnRts w.heap.size w' v (if rofC (fltC (netB l s g o e x f) el dl vl (l 3) (l 1) env) (vsB vs (l 0) vl) (okV g (l 1) o e x (l 4) env ds vs (l 0)) = 0 then (List.range (l 0)).map (valR g (l 1) o e x (l 4) env ds vs (l 0)) else []) ∧ Below w.heap.size w w' := by
 have HF : Hid (∀ (W : World) (hb : Below w.heap.size w W), Calls Tryz.prog 23 #[netV p l c, .slice ea el ec, .slice da dl dc, .int .i64 (vl : Int)] W fun e' w' => e' = .returned (.int .i64 (fltC (netB l s g o e x f) el dl vl (l 3) (l 1) env)) ∧ Below W.heap.size W w') := hid (fun W hb => by
  have h9 := scene_fault p l c s g o e x f ea da el ec dl dc vl env W (h.below hb) hc0 hc1 (he.below hb) hd.most hv.most
  rw [flt_code] at h9
  exact h9)
 have HN := hid h
 have HE := hid he
 have HD := hid hd
 have HVr := hid hv
 have M0 := hid h.routers.most
 have mv := hv.most
 have m0 := h.routers.most
 unfold maxLen at mv m0
 clear h he hd hc0 hc1 hv
 obtain ⟨ok, hok⟩ : ∃ b, netB l s g o e x f = b := ⟨_, rfl⟩
 have HOK := hid hok
 rw [hok]
 simp only [hok] at HF
 clear hok
 obtain ⟨D, hD⟩ : ∃ D, fltC ok el dl vl (l 3) (l 1) env = D := ⟨_, rfl⟩
 have HDD := hid hD
 simp only [hD] at HF
 rw [hD]
 obtain ⟨VB, hVB⟩ : ∃ V, vsB vs (l 0) vl = V := ⟨_, rfl⟩
 have HVB := hid hVB
 rw [hVB]
 obtain ⟨OK, hOK⟩ : ∃ V, okV g (l 1) o e x (l 4) env ds vs (l 0) = V := ⟨_, rfl⟩
 have HOKv := hid hOK
 rw [hOK]
 obtain ⟨C, hC⟩ : ∃ C, rofC D VB OK = C := ⟨_, rfl⟩
 have HC := hid hC
 rw [hC]
 obtain ⟨Z, hZ⟩ : ∃ Z, (if C = 0 then (List.range (l 0)).map (valR g (l 1) o e x (l 4) env ds vs (l 0)) else []) = Z := ⟨_, rfl⟩
 have HZl := hid hZ
 rw [hZ]
 unfold rofC at HC
 clear hC hD hZ hOK hVB
 have C1 : ∀ w8 : World, Below ((w.alloc (.cells #[.slice (p 0) (l 0) (c 0), .slice (p 1) (l 1) (c 1), .slice (p 2) (l 2) (c 2), .slice (p 3) (l 3) (c 3), .slice (p 4) (l 4) (c 4), .slice (p 5) (l 5) (c 5)] 29))).heap.size (w.alloc (.cells #[.slice (p 0) (l 0) (c 0), .slice (p 1) (l 1) (c 1), .slice (p 2) (l 2) (c 2), .slice (p 3) (l 3) (c 3), .slice (p 4) (l 4) (c 4), .slice (p 5) (l 5) (c 5)] 29)) w8 → (w8.cell? ⟨w.heap.size, 0, none⟩ = some (.slice (p 0) (l 0) (c 0)) ∧ w8.cell? ⟨w.heap.size, 1, none⟩ = some (.slice (p 1) (l 1) (c 1)) ∧ w8.cell? ⟨w.heap.size, 2, none⟩ = some (.slice (p 2) (l 2) (c 2)) ∧ w8.cell? ⟨w.heap.size, 3, none⟩ = some (.slice (p 3) (l 3) (c 3)) ∧ w8.cell? ⟨w.heap.size, 4, none⟩ = some (.slice (p 4) (l 4) (c 4)) ∧ w8.cell? ⟨w.heap.size, 5, none⟩ = some (.slice (p 5) (l 5) (c 5))) ∧ Below w.heap.size w w8 :=
  fun w8 hb => ⟨⟨keep hb (by simp [go_sem]), keep hb (by simp [go_sem]), keep hb (by simp [go_sem]), keep hb (by simp [go_sem]), keep hb (by simp [go_sem]), keep hb (by simp [go_sem])⟩, (show Below w.heap.size w _ from (by repeat (first | exact Below.refl _ _ | assumption | refine Below.drew ?_ | refine Below.alloc ?_ (by first | exact Nat.le_refl _ | omega | (simp; done) | (simp; omega)) _ | refine Below.setCell ?_ (by first | exact Nat.le_refl _ | omega | (simp; done) | (simp; omega)) _))).trans (hb.mono (by simp))⟩
 have HC1 := hid C1
 clear C1
 unfold netV at HF ⊢
 go_enter Tryz.func17, Tryz.ntmps17
 go_wp2_with fail
 refine (HF.out _ (by repeat (first | exact Below.refl _ _ | assumption | refine Below.drew ?_ | refine Below.alloc ?_ (by first | exact Nat.le_refl _ | omega | (simp; done) | (simp; omega)) _ | refine Below.setCell ?_ (by first | exact Nat.le_refl _ | omega | (simp; done) | (simp; omega)) _))).mono ?_
 rintro e' w1 ⟨rfl, hb1⟩
 have H1 := hid hb1
 obtain ⟨⟨q0, q1, q2, q3, q4, q5⟩, hB⟩ := HC1.out _ hb1
 have B1 := hid hB
 have hz1 : w.heap.size < w1.heap.size := by have := hb1.size; simp at this; omega
 clear hb1 hB
 by_cases h0 : D = 0
 case neg =>
  rw [if_pos h0] at HC
  have d1 : (D != 0) = true := by simp [h0]
  have e2 := HC.out
  have eZ : Z = [] := by rw [← HZl.out, ← e2, if_neg h0]
  clear h0 HZl
  subst e2
  subst eZ
  go_wp2
  go_ret2
  exact ⟨_, rfl, ⟨rfl, .inl ⟨rfl, rfl⟩⟩, B1.out⟩
 rw [if_neg (by simpa using h0)] at HC
 rw [h0] at HDD ⊢
 clear h0
 go_wp2_with fail
 refine (vias_impl va vl vc (l 0) vs w1 (HVr.out.below B1.out) M0.out).mono ?_
 rintro e' w2 ⟨rfl, hb2⟩
 rw [HVB.out]
 have B2 := hid (B1.out.trans (hb2.mono B1.out.size))
 have k0 := keep hb2 q0
 have k1 := keep hb2 q1
 have k2 := keep hb2 q2
 have k3 := keep hb2 q3
 have k4 := keep hb2 q4
 have k5 := keep hb2 q5
 have hz2 : w.heap.size < w2.heap.size := Nat.lt_of_lt_of_le hz1 hb2.size
 clear hb2 q0 q1 q2 q3 q4 q5
 cases VB with
 | false =>
  have e2 : C = 5 := by rw [← HC.out, if_pos rfl]
  have eZ : Z = [] := by rw [← HZl.out, e2, if_neg (by decide)]
  clear HZl HC
  subst e2
  subst eZ
  go_wp2
  go_ret2
  exact ⟨_, rfl, ⟨rfl, .inl ⟨rfl, rfl⟩⟩, B2.out⟩
 | true =>
 rw [if_neg (by decide)] at HC
 obtain ⟨⟨f1, f3, f4, f5⟩, -⟩ := flt_zero HDD.out
 subst f1
 obtain ⟨n4, n12, nl, ni⟩ := net_links HOK.out
 have hgi := fun j hj => (link_facts (nl j hj) n4).1
 have HNew := hid (new_impl p l c s g o e x f ea da el ec dl dc env ds w2 (HN.out.below B2.out) (HE.out.below B2.out) (HD.out.below B2.out) f3 f4 hgi (fun i h => (import_facts (ni i h) hgi).1) n12)
 have hn1 : 1 ≤ l 0 := one_router HOK.out
 obtain ⟨hvl, hvi⟩ := vs_in HVr.out.length HVB.out hn1
 have HVi := hid hvi
 subst hvl
 have HFine : Hid (Fine (l 0) l g x) := hid ⟨n4, fun i hi => (link_facts (nl i hi) n4).2.1, fun i hi => (link_facts (nl i hi) n4).2.2, fun i h => (import_facts (ni i h) hgi).2⟩
 clear f3 f4 f5 n12 nl ni hgi HF hvi
 unfold netV at HNew
 go_wp2_with fail
 refine HNew.out.mono ?_
 rintro e' w3 ⟨sb, b, F, rfl, hb3, hs3, hB3⟩
 have HS3 := hid hs3
 have HB3 := hid hB3
 have hz3 := hB3.size
 have hbw3 : b < w3.heap.size := by rcases hs3.ready with ⟨h1, _⟩ | ⟨V, F', hm⟩; exact h1.lt; exact hm.row.lt
 clear hs3 hB3
 have hna : ∀ a o, va = some ⟨a, o, none⟩ → a ≠ b := fun a o e => by
  obtain ⟨vb, vo, e2, hc⟩ := HVr.out.cell 0 (by omega)
  rw [e] at e2
  injection e2 with e2
  injection e2 with e3 _
  have := World.block_lt_of_cell? _ _ hc
  simp only at this
  omega
 have HNa := hid hna
 clear hna
 go_wp2_with fail
 refine (routesOf_impl va (l 0) vc vs HS3.out HFine.out (HVr.out.below (B2.out.trans (HB3.out.mono B2.out.size))) HNa.out hn1 HVi.out).mono ?_
 rintro e' w4 ⟨hres, hs4, hg4⟩
 have HBel : Hid (Below w.heap.size w w4) := hid (by
  have hA := B2.out.trans (HB3.out.mono B2.out.size)
  have h7 := hA.size
  have h6 := B2.out.size
  exact { os := hg4.os.trans hA.os, tape := hg4.tape.trans hA.tape, output := hg4.output.trans hA.output, size := Nat.le_trans hA.size hg4.size, block := fun j hj => (hg4.block j (by omega) (fun e => by injection e with e; omega)).trans (hA.block j hj) })
 clear hs4 hg4
 rcases hres with ⟨hok, N, rfl, hN, hl4⟩ | ⟨hok, rfl⟩
 · rw [HOKv.out] at hok
   subst hok
   have e2 : C = 0 := by rw [← HC.out, if_pos rfl]
   have eZ : Z = (List.range (l 0)).map (valR g (l 1) o e x (l 4) env ds vs (l 0)) := by rw [← HZl.out, e2, if_pos rfl]
   have HOw : Hid (OwnRts w.heap.size w4 (.slice (some ⟨N, 0, none⟩) (l 0) (l 0)) Z) := hid (by rw [eZ]; exact own_laid hl4 (Nat.le_refl _) (by unfold maxLen; omega) (by omega))
   subst e2
   clear HZl HC hl4 eZ
   go_wp2
   go_ret2
   exact ⟨_, rfl, HOw.out, HBel.out⟩
 · rw [HOKv.out] at hok
   subst hok
   have e2 : C = 6 := by rw [← HC.out, if_neg (by decide)]
   have eZ : Z = [] := by rw [← HZl.out, e2, if_neg (by decide)]
   subst e2
   subst eZ
   clear HZl HC
   go_wp2
   go_ret2
   exact ⟨_, rfl, ⟨rfl, .inl ⟨rfl, rfl⟩⟩, HBel.out⟩
end Go.Proofs.YtaioffpkadmmhaaGreat.rofFace
namespace Go.Proofs.YtaioffpkadmmhaaGreat.nbImpl
open Go.RowKit Go.Deep Go base copy names netSem netImpl netParts netFace netOKImpl intsOwn nbSem
set_option linter.unusedVariables false
set_option maxHeartbeats 3200000 in
theorem neighbours_impl (p : Nat → Option Addr) (l c : Nat → Nat) (s : Ss) (g : R) (o e : List Int) (x f : R) (router : Int) (da : Option Addr) (dl dc : Nat) (ds : List Bool) (w : World) (h : NetIs w p l s g o e x f) (hc0 : l 0 ≤ c 0) (hc1 : l 1 ≤ c 1) (hd : BoolRow w da dl ds) :
  Calls Tryz.prog 15 #[netV p l c, .int .i64 router, .slice da dl dc] w fun e' w' => ∃ v, e' = .returned (.tuple #[v, .int .i64 (nbC (netB l s g o e x f) (l 0) (l 1) dl router)]) ∧ OwnInts w.heap.size w' v (nbA (netB l s g o e x f) (l 0) (l 1) dl router g ds) ∧ Below w.heap.size w w' := by
 have HN := hid h
 have HD := hid hd
 have m0 := h.routers.most
 have M0 := hid m0
 have m1 := h.links.most
 have md := hd.most
 have K0 := hid hc0
 have K1 := hid hc1
 unfold maxLen at m0 m1 md
 clear h hd hc0 hc1
 have C1 : ∀ w8 : World, Below ((w.alloc (.cells #[.slice (p 0) (l 0) (c 0), .slice (p 1) (l 1) (c 1), .slice (p 2) (l 2) (c 2), .slice (p 3) (l 3) (c 3), .slice (p 4) (l 4) (c 4), .slice (p 5) (l 5) (c 5)] 29))).heap.size (w.alloc (.cells #[.slice (p 0) (l 0) (c 0), .slice (p 1) (l 1) (c 1), .slice (p 2) (l 2) (c 2), .slice (p 3) (l 3) (c 3), .slice (p 4) (l 4) (c 4), .slice (p 5) (l 5) (c 5)] 29)) w8 → (w8.cell? ⟨w.heap.size, 0, none⟩ = some (.slice (p 0) (l 0) (c 0)) ∧ w8.cell? ⟨w.heap.size, 1, none⟩ = some (.slice (p 1) (l 1) (c 1)) ∧ w8.cell? ⟨w.heap.size, 2, none⟩ = some (.slice (p 2) (l 2) (c 2)) ∧ w8.cell? ⟨w.heap.size, 3, none⟩ = some (.slice (p 3) (l 3) (c 3)) ∧ w8.cell? ⟨w.heap.size, 4, none⟩ = some (.slice (p 4) (l 4) (c 4)) ∧ w8.cell? ⟨w.heap.size, 5, none⟩ = some (.slice (p 5) (l 5) (c 5))) ∧ NetIs w8 p l s g o e x f ∧ BoolRow w8 da dl ds ∧ Below w.heap.size w w8 :=
  fun w8 hb => ⟨⟨keep hb (by simp [go_sem]), keep hb (by simp [go_sem]), keep hb (by simp [go_sem]), keep hb (by simp [go_sem]), keep hb (by simp [go_sem]), keep hb (by simp [go_sem])⟩, (HN.out.below (by repeat (first | exact Below.refl _ _ | assumption | refine Below.drew ?_ | refine Below.alloc ?_ (by first | exact Nat.le_refl _ | omega | (simp; done) | (simp; omega)) _ | refine Below.setCell ?_ (by first | exact Nat.le_refl _ | omega | (simp; done) | (simp; omega)) _))).below hb, (HD.out.below (by repeat (first | exact Below.refl _ _ | assumption | refine Below.drew ?_ | refine Below.alloc ?_ (by first | exact Nat.le_refl _ | omega | (simp; done) | (simp; omega)) _ | refine Below.setCell ?_ (by first | exact Nat.le_refl _ | omega | (simp; done) | (simp; omega)) _))).below hb, (show Below w.heap.size w _ from (by repeat (first | exact Below.refl _ _ | assumption | refine Below.drew ?_ | refine Below.alloc ?_ (by first | exact Nat.le_refl _ | omega | (simp; done) | (simp; omega)) _ | refine Below.setCell ?_ (by first | exact Nat.le_refl _ | omega | (simp; done) | (simp; omega)) _))).trans (hb.mono (by simp))⟩
 have HC1 := hid C1
 clear C1
 obtain ⟨ok, hok⟩ : ∃ b, netB l s g o e x f = b := ⟨_, rfl⟩
 have HOK := hid hok
 rw [hok]
 clear hok
 obtain ⟨C, hC⟩ : ∃ C, nbC ok (l 0) (l 1) dl router = C := ⟨_, rfl⟩
 obtain ⟨A, hA⟩ : ∃ A, nbA ok (l 0) (l 1) dl router g ds = A := ⟨_, rfl⟩
 have HC := hid hC
 have HA := hid hA
 rw [hC, hA]
 clear hC hA
 obtain ⟨i0, hi, hzz⟩ := Option.map_eq_some_iff.1 Tryz.info_int
 simp only [Prod.mk.injEq] at hzz
 obtain ⟨hz0, hz1, hz2⟩ := hzz
 have HI := hid hi
 have HZ0 := hid hz0
 have HZ1 := hid hz1
 have HZ2 := hid hz2
 clear hi hz0 hz1 hz2
 unfold netV
 by_cases h1 : 4096 < dl
 · have e2 : C = 2 := by rw [← HC.out]; unfold nbC; rw [if_pos h1]
   subst e2
   have eA : A = [] := by rw [← HA.out]; exact nb_no HC.out (by decide)
   subst eA
   have d1 : decide ((4096 : Int) < (dl : Int)) = true := decide_eq_true (by omega)
   go_enter Tryz.func15, Tryz.ntmps15
   go_wp2
   go_ret2
   exact ⟨_, rfl, OwnInts.nil _ _, (by repeat (first | exact Below.refl _ _ | assumption | refine Below.drew ?_ | refine Below.alloc ?_ (by first | exact Nat.le_refl _ | omega | (simp; done) | (simp; omega)) _ | refine Below.setCell ?_ (by first | exact Nat.le_refl _ | omega | (simp; done) | (simp; omega)) _))⟩
 have d1 : decide ((4096 : Int) < (dl : Int)) = false := decide_eq_false (by omega)
 go_enter Tryz.func15, Tryz.ntmps15
 go_wp2_with fail
 refine (netOK_impl p l c s g o e x f _ (HN.out.below (by repeat (first | exact Below.refl _ _ | assumption | refine Below.drew ?_ | refine Below.alloc ?_ (by first | exact Nat.le_refl _ | omega | (simp; done) | (simp; omega)) _ | refine Below.setCell ?_ (by first | exact Nat.le_refl _ | omega | (simp; done) | (simp; omega)) _))) K0.out K1.out).mono ?_
 rintro e' w1 ⟨rfl, hb1⟩
 rw [HOK.out]
 have H1 := hid hb1
 obtain ⟨⟨q0, q1, q2, q3, q4, q5⟩, hn, hd, hB⟩ := HC1.out _ hb1
 have N1 := hid hn
 have D1 := hid hd
 have B1 := hid hB
 clear hb1 hn hd hB
 cases ok with
 | false =>
  have e2 : C = 1 := by rw [← HC.out]; unfold nbC; rw [if_neg h1, if_pos rfl]
  subst e2
  have eA : A = [] := by rw [← HA.out]; exact nb_no HC.out (by decide)
  subst eA
  go_wp2
  go_ret2
  exact ⟨_, rfl, OwnInts.nil _ _, B1.out⟩
 | true =>
 have hr4 : l 0 ≤ 4 := by
  have := HOK.out
  unfold netB routersB at this
  simp [inB] at this
  omega
 obtain ⟨b1, e1⟩ : ∃ b, inB router 0 (l 0 - 1) = b := ⟨_, rfl⟩
 cases b1 with
 | false =>
  have e2 : C = 5 := by rw [← HC.out]; unfold nbC; rw [if_neg h1, if_neg (by decide), if_pos (.inl e1)]
  subst e2
  have eA : A = [] := by rw [← HA.out]; exact nb_no HC.out (by decide)
  subst eA
  go_wp2_with (go_at_call 31; refine (router_impl _ _ _ M0.out).mono ?_; rintro e' w' ⟨rfl, hw'⟩; have hw' := hw'.symm; subst hw')
  go_ret2
  exact ⟨_, rfl, OwnInts.nil _ _, B1.out⟩
 | true =>
 by_cases h2 : dl = l 1
 · have e2 : C = 0 := by rw [← HC.out]; unfold nbC; rw [if_neg h1, if_neg (by decide), if_neg (by simp [e1, h2])]
   subst e2
   have eA : A = nbL g (l 1) ds router (l 0) := by rw [← HA.out]; unfold nbA; rw [if_pos HC.out]
   subst eA
   have d2 : ((dl : Int) != (l 1 : Int)) = false := by simp [h2]
   have H2 := hid h2
   clear h2
   go_wp2_with (go_at_call 31; refine (router_impl _ _ _ M0.out).mono ?_; rintro e' w' ⟨rfl, hw'⟩; have hw' := hw'.symm; subst hw')
   have HDL := hid H2.out
   clear H2 q0 q1 q2 q3 q4 q5
   go_loopw [37, 8] (fun i v wr => ∃ k : Nat, k ≤ l 0 ∧ i = .int .i64 k ∧ OwnInts ((w.alloc (.cells #[.slice (p 0) (l 0) (c 0), .slice (p 1) (l 1) (c 1), .slice (p 2) (l 2) (c 2), .slice (p 3) (l 3) (c 3), .slice (p 4) (l 4) (c 4), .slice (p 5) (l 5) (c 5)] 29))).heap.size wr v (nbL g (l 1) ds router k) ∧ Below ((w.alloc (.cells #[.slice (p 0) (l 0) (c 0), .slice (p 1) (l 1) (c 1), .slice (p 2) (l 2) (c 2), .slice (p 3) (l 3) (c 3), .slice (p 4) (l 4) (c 4), .slice (p 5) (l 5) (c 5)] 29))).heap.size (w.alloc (.cells #[.slice (p 0) (l 0) (c 0), .slice (p 1) (l 1) (c 1), .slice (p 2) (l 2) (c 2), .slice (p 3) (l 3) (c 3), .slice (p 4) (l 4) (c 4), .slice (p 5) (l 5) (c 5)] 29)) wr) (fun i _ _ => l 0 - (intOf i).toNat)
   case atStart => exact ⟨0, Nat.zero_le _, rfl, OwnInts.nil _ _, H1.out⟩
   case round =>
    rename_i v0
    obtain ⟨k, hk, rfl, hown, hbel⟩ := hrel
    have HO := hid hown
    have HB := hid hbel
    have HB0 := hid hbel.size
    obtain ⟨⟨q0, q1, q2, q3, q4, q5⟩, hn, hd, hB⟩ := HC1.out _ hbel
    have NR := hid hn
    have DR := hid hd
    have BR := hid hB
    clear hown hbel hn hd hB q2 q3 q4 q5
    by_cases hlt : k < l 0
    · have HF := hid (nbL_succ g (l 1) ds router k)
      have HLen := hid (nbL_len g (l 1) ds router k)
      obtain ⟨L, hL⟩ : ∃ L, linkAt g (l 1) router k = L := ⟨_, rfl⟩
      have HQ : Hid (nbB g (l 1) ds router k = (decide (0 ≤ L) && !(ds[L.toNat]?.getD false))) := by
       show _ = _
       unfold nbB; rw [hL]
      have HLB := hid (firstAt_bounds (hit g router k) (l 1))
      have hLL : firstAt (hit g router k) (l 1) = L := hL
      rw [hLL] at HLB
      clear hLL
      go_wp2_with fail
      refine (link_impl (p 1) (l 1) (c 1) g router k _ NR.out.links).mono ?_
      rintro e' w1 ⟨rfl, hb1⟩
      have O1 := hid (HO.out.below hb1)
      have B1 := hid (HB.out.trans (hb1.mono HB.out.size))
      have D1 := hid (DR.out.below hb1)
      clear hb1
      rw [hL]
      clear hL
      by_cases h0 : 0 ≤ L
      · obtain ⟨m, rfl⟩ : ∃ m : Nat, L = (m : Int) := ⟨L.toNat, by omega⟩
        have hml : m < l 1 := by have := HLB.out; omega
        obtain ⟨b, off, hda, hdc⟩ := D1.out.cell m (by rw [HDL.out]; exact hml)
        have hmd : (m : Int) < (dl : Int) := by rw [HDL.out]; omega
        obtain ⟨da0, hda0⟩ : ∃ x, da = x := ⟨_, rfl⟩
        have HQ2 : Hid (nbB g (l 1) ds router k = !(ds[m]?.getD false)) := by
         show _ = _
         rw [HQ.out]; simp
        clear HQ
        generalize ds[m]?.getD false = db at *
        have g0 : decide ((0 : Int) ≤ (m : Int)) = true := decide_eq_true (by omega)
        clear hda0 h0
        cases db with
        | true =>
         have HF2 := hid (show nbL g (l 1) ds router (k + 1) = nbL g (l 1) ds router k by rw [HF.out, HQ2.out]; simp)
         subst hda
         go_wp2
         go_roundw
         case rel => exact ⟨k + 1, by omega, by go_num, by rw [HF2.out]; exact O1.out, B1.out⟩
         case measure => simp [intOf]; omega
        | false =>
         have HF2 := hid (show nbL g (l 1) ds router (k + 1) = nbL g (l 1) ds router k ++ [(k : Int)] by rw [HF.out, HQ2.out]; simp)
         have HS1 := hid B1.out.size
         subst hda
         go_wp2_with (at_builtin; (refine wpList_append_own _ rfl _ _ 25 rfl ((w.alloc (.cells #[.slice (p 0) (l 0) (c 0), .slice (p 1) (l 1) (c 1), .slice (p 2) (l 2) (c 2), .slice (p 3) (l 3) (c 3), .slice (p 4) (l 4) (c 4), .slice (p 5) (l 5) (c 5)] 29))).heap.size 3 i0 (.int .i64 0) 1 8 Tryz.underlying25 HI.out HZ0.out HZ1.out HZ2.out rfl (by decide) _ _ _ rfl (World.ownsRow.alloc O1.out _) ⟨_, 0, none⟩ 1 1 [.int .i64 (k : Int)] rfl rfl (cell_one_new _ _ _) (fun x hx => by simp at hx; subst hx; rfl) (by have := HLen.out; unfold maxLen; omega) (by have := HLen.out; omega) (by have := HS1.out; simp at this ⊢; omega) ?_); intro v' w3 hown' hgrow3 hnil3)
         have HO2 : Hid (OwnInts ((w.alloc (.cells #[.slice (p 0) (l 0) (c 0), .slice (p 1) (l 1) (c 1), .slice (p 2) (l 2) (c 2), .slice (p 3) (l 3) (c 3), .slice (p 4) (l 4) (c 4), .slice (p 5) (l 5) (c 5)] 29))).heap.size w3 v' (nbL g (l 1) ds router (k + 1))) := by
          show OwnInts _ _ _ _
          rw [HF2.out]
          unfold OwnInts
          rw [List.length_append, List.map_append]
          exact hown'
         have HB2 : Hid (Below ((w.alloc (.cells #[.slice (p 0) (l 0) (c 0), .slice (p 1) (l 1) (c 1), .slice (p 2) (l 2) (c 2), .slice (p 3) (l 3) (c 3), .slice (p 4) (l 4) (c 4), .slice (p 5) (l 5) (c 5)] 29))).heap.size (w.alloc (.cells #[.slice (p 0) (l 0) (c 0), .slice (p 1) (l 1) (c 1), .slice (p 2) (l 2) (c 2), .slice (p 3) (l 3) (c 3), .slice (p 4) (l 4) (c 4), .slice (p 5) (l 5) (c 5)] 29)) w3) := grown_below (OwnInts.below O1.out (by repeat (first | exact Below.refl _ _ | assumption | refine Below.drew ?_ | refine Below.alloc ?_ (by first | exact Nat.le_refl _ | omega | (simp; done) | (simp; omega)) _ | refine Below.setCell ?_ (by first | exact Nat.le_refl _ | omega | (simp; done) | (simp; omega)) _))) (B1.out.alloc HS1.out _) (by have := HS1.out; simp at this ⊢; omega) hgrow3
         clear hown' hgrow3 hnil3
         go_wp2
         go_roundw
         case rel => exact ⟨k + 1, by omega, by go_num, HO2.out, HB2.out⟩
         case measure => simp [intOf]; omega
      · have HQ2 : Hid (nbB g (l 1) ds router k = false) := by
         show _ = _
         rw [HQ.out, decide_eq_false h0]; rfl
        have HF2 := hid (show nbL g (l 1) ds router (k + 1) = nbL g (l 1) ds router k by rw [HF.out, HQ2.out]; simp)
        have g0 : decide ((0 : Int) ≤ L) = false := decide_eq_false h0
        clear HQ
        go_wp2
        go_roundw
        case rel => exact ⟨k + 1, by omega, by go_num, by rw [HF2.out]; exact O1.out, B1.out⟩
        case measure => simp [intOf]; omega
    · have ek : k = l 0 := by omega
      have HO3 := hid HO.out
      rw [ek] at HO3
      have hlt' : decide (k < l 0) = false := decide_eq_false (by omega)
      clear hlt ek hk HO
      go_wp2
      go_ret2
      exact ⟨_, rfl, HO3.out.mono (by simp), BR.out⟩
 · have e2 : C = 5 := by rw [← HC.out]; unfold nbC; rw [if_neg h1, if_neg (by decide), if_pos (.inr h2)]
   subst e2
   have eA : A = [] := by rw [← HA.out]; exact nb_no HC.out (by decide)
   subst eA
   have d2 : ((dl : Int) != (l 1 : Int)) = true := by simp; omega
   clear h2
   go_wp2_with (go_at_call 31; refine (router_impl _ _ _ M0.out).mono ?_; rintro e' w' ⟨rfl, hw'⟩; have hw' := hw'.symm; subst hw')
   go_ret2
   exact ⟨_, rfl, OwnInts.nil _ _, B1.out⟩
end Go.Proofs.YtaioffpkadmmhaaGreat.nbImpl
