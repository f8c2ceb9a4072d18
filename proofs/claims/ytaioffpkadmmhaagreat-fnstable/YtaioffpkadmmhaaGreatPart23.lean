import Derived.Test.YtaioffpkadmmhaaGreatNetFace
import Derived.Test.YtaioffpkadmmhaaGreatPart9
import Derived.Test.YtaioffpkadmmhaaGreatNetOKSpec
namespace Go.Proofs.YtaioffpkadmmhaaGreat.netOKImpl
open Go.RowKit Go.Deep Go base names netSem netImpl netParts netFace
set_option linter.unusedVariables false
theorem netB_no {l : Nat → Nat} {s : Ss} {g x f : R} {o e : List Int} (h : routersB s (l 0) = false ∨ linksB g (l 1) (l 0) = false ∨ risingB o (l 2) (l 0) = false ∨ risingB e (l 3) (l 0) = false ∨ ¬ l 3 ≤ 2 ∨ importsB g (l 1) x (l 4) = false ∨ filtersB g (l 1) f (l 5) = false) : netB l s g o e x f = false := by
 unfold netB
 rcases h with h | h | h | h | h | h | h
 all_goals simp [h]
set_option maxHeartbeats 1600000 in
theorem netOK_impl (p : Nat → Option Addr) (l c : Nat → Nat) (s : Ss) (g : R) (o e : List Int) (x f : R) (w : World) (h : NetIs w p l s g o e x f) (hc0 : l 0 ≤ c 0) (hc1 : l 1 ≤ c 1) :
  Calls Tryz.prog 35 #[netV p l c] w fun e' w' => e' = .returned (.bool (netB l s g o e x f)) ∧ Below w.heap.size w w' := by
 have HN := hid h
 have m0 := h.routers.most
 have m3 := h.externals.most
 have M0 := hid m0
 have HK0 := hid hc0
 have HK1 := hid hc1
 unfold maxLen at m0 m3
 obtain ⟨D, hD⟩ : ∃ D, netB l s g o e x f = D := ⟨_, rfl⟩
 rw [hD]
 have HNO := hid (fun hh => hD.symm.trans (netB_no (l := l) (s := s) (g := g) (o := o) (e := e) (x := x) (f := f) hh))
 have HD : Hid (D = (routersB s (l 0) && linksB g (l 1) (l 0) && risingB o (l 2) (l 0) && risingB e (l 3) (l 0) && decide (l 3 ≤ 2) && importsB g (l 1) x (l 4) && filtersB g (l 1) f (l 5))) := hD.symm
 clear hD h hc0 hc1
 unfold netV
 have C1 : ∀ w8 : World, Below (w.alloc (.cells #[.slice (p 0) (l 0) (c 0), .slice (p 1) (l 1) (c 1), .slice (p 2) (l 2) (c 2), .slice (p 3) (l 3) (c 3), .slice (p 4) (l 4) (c 4), .slice (p 5) (l 5) (c 5)] 29)).heap.size (w.alloc (.cells #[.slice (p 0) (l 0) (c 0), .slice (p 1) (l 1) (c 1), .slice (p 2) (l 2) (c 2), .slice (p 3) (l 3) (c 3), .slice (p 4) (l 4) (c 4), .slice (p 5) (l 5) (c 5)] 29)) w8 →
   w8.cell? ⟨w.heap.size, 1, none⟩ = some (.slice (p 1) (l 1) (c 1)) ∧ w8.cell? ⟨w.heap.size, 2, none⟩ = some (.slice (p 2) (l 2) (c 2)) ∧ w8.cell? ⟨w.heap.size, 3, none⟩ = some (.slice (p 3) (l 3) (c 3)) ∧ w8.cell? ⟨w.heap.size, 4, none⟩ = some (.slice (p 4) (l 4) (c 4)) ∧ w8.cell? ⟨w.heap.size, 5, none⟩ = some (.slice (p 5) (l 5) (c 5)) ∧ NetIs w8 p l s g o e x f ∧ Below w.heap.size w w8 :=
  fun w8 hb => ⟨keep hb (by simp [go_sem]), keep hb (by simp [go_sem]), keep hb (by simp [go_sem]), keep hb (by simp [go_sem]), keep hb (by simp [go_sem]), (HN.out.below (by repeat (first | exact Below.refl _ _ | assumption | refine Below.drew ?_ | refine Below.alloc ?_ (by first | exact Nat.le_refl _ | omega | (simp; done) | (simp; omega)) _ | refine Below.setCell ?_ (by first | exact Nat.le_refl _ | omega | (simp; done) | (simp; omega)) _))).below hb, (show Below w.heap.size w _ from (by repeat (first | exact Below.refl _ _ | assumption | refine Below.drew ?_ | refine Below.alloc ?_ (by first | exact Nat.le_refl _ | omega | (simp; done) | (simp; omega)) _ | refine Below.setCell ?_ (by first | exact Nat.le_refl _ | omega | (simp; done) | (simp; omega)) _))).trans (hb.mono (by simp))⟩
 have HC1 := hid C1
 clear C1
 go_enter Tryz.func35, Tryz.ntmps35
 go_wp2_with fail
 refine (routers_impl (p 0) (l 0) (c 0) s _ (HN.out.routers.below (by repeat (first | exact Below.refl _ _ | assumption | refine Below.drew ?_ | refine Below.alloc ?_ (by first | exact Nat.le_refl _ | omega | (simp; done) | (simp; omega)) _ | refine Below.setCell ?_ (by first | exact Nat.le_refl _ | omega | (simp; done) | (simp; omega)) _))) HK0.out).mono ?_
 rintro e' w1 ⟨rfl, n, hw⟩
 have hb1 := below_drewN (w.alloc (.cells #[.slice (p 0) (l 0) (c 0), .slice (p 1) (l 1) (c 1), .slice (p 2) (l 2) (c 2), .slice (p 3) (l 3) (c 3), .slice (p 4) (l 4) (c 4), .slice (p 5) (l 5) (c 5)] 29)) n
 rw [← hw] at hb1
 clear hw
 obtain ⟨q1, q2, q3, q4, q5, hn, hB⟩ := HC1.out w1 hb1
 have H1 := hid hb1
 have N1 := hid hn
 have B1 := hid hB
 clear hb1 hn hB
 obtain ⟨b1, e1⟩ : ∃ b, routersB s (l 0) = b := ⟨_, rfl⟩
 rw [e1] at HD ⊢
 cases b1 with
 | false =>
  clear q1 q2 q3 q4 q5
  go_wp2
  go_ret
  exact ⟨ret_bool (HNO.out (.inl e1)).symm, B1.out⟩
 | true =>
 go_wp2_with fail
 refine (links_impl (p 1) (l 1) (c 1) g (l 0) _ N1.out.links HK1.out M0.out).mono ?_
 rintro e' w2 ⟨rfl, hb2⟩
 obtain ⟨q1, q2, q3, q4, q5, hn, hB⟩ := HC1.out w2 (H1.out.trans (hb2.mono H1.out.size))
 have H2 := hid (H1.out.trans (hb2.mono H1.out.size))
 have N2 := hid hn
 have B2 := hid hB
 clear hb2 hn hB
 obtain ⟨b2, e2⟩ : ∃ b, linksB g (l 1) (l 0) = b := ⟨_, rfl⟩
 rw [e2] at HD ⊢
 cases b2 with
 | false =>
  go_wp2
  go_ret
  exact ⟨ret_bool (HNO.out (.inr (.inl e2))).symm, B2.out⟩
 | true =>
 go_wp2_with fail
 refine (rising_impl (p 2) (l 2) (c 2) o (l 0) _ N2.out.origins M0.out).mono ?_
 rintro e' w3 ⟨rfl, n3, hw⟩
 have hb3 := below_drewN w2 n3
 rw [← hw] at hb3
 clear hw
 obtain ⟨q1, q2, q3, q4, q5, hn, hB⟩ := HC1.out w3 (H2.out.trans (hb3.mono H2.out.size))
 have H3 := hid (H2.out.trans (hb3.mono H2.out.size))
 have N3 := hid hn
 have B3 := hid hB
 clear hb3 hn hB
 obtain ⟨b3, e3⟩ : ∃ b, risingB o (l 2) (l 0) = b := ⟨_, rfl⟩
 rw [e3] at HD ⊢
 cases b3 with
 | false =>
  go_wp2
  go_ret
  exact ⟨ret_bool (HNO.out (.inr (.inr (.inl e3)))).symm, B3.out⟩
 | true =>
 go_wp2_with fail
 refine (rising_impl (p 3) (l 3) (c 3) e (l 0) _ N3.out.externals M0.out).mono ?_
 rintro e' w4 ⟨rfl, n4, hw⟩
 have hb4 := below_drewN w3 n4
 rw [← hw] at hb4
 clear hw
 obtain ⟨q1, q2, q3, q4, q5, hn, hB⟩ := HC1.out w4 (H3.out.trans (hb4.mono H3.out.size))
 have H4 := hid (H3.out.trans (hb4.mono H3.out.size))
 have N4 := hid hn
 have B4 := hid hB
 clear hb4 hn hB
 obtain ⟨b4, e4⟩ : ∃ b, risingB e (l 3) (l 0) = b := ⟨_, rfl⟩
 rw [e4] at HD ⊢
 cases b4 with
 | false =>
  go_wp2
  go_ret
  exact ⟨ret_bool (HNO.out (.inr (.inr (.inr (.inl e4))))).symm, B4.out⟩
 | true =>
 by_cases h3 : l 3 ≤ 2
 · have d3 : decide ((l 3 : Int) ≤ 2) = true := decide_eq_true (by omega)
   have E5 := hid (decide_eq_true h3)
   clear h3
   go_wp2_with fail
   refine (imports_impl (p 4) (l 4) (c 4) x (p 1) (l 1) (c 1) g _ N4.out.imports N4.out.links).mono ?_
   rintro e' w5 ⟨rfl, hb5⟩
   obtain ⟨q1, q2, q3, q4, q5, hn, hB⟩ := HC1.out w5 (H4.out.trans (hb5.mono H4.out.size))
   have H5 := hid (H4.out.trans (hb5.mono H4.out.size))
   have N5 := hid hn
   have B5 := hid hB
   clear hb5 hn hB
   obtain ⟨b5, e5⟩ : ∃ b, importsB g (l 1) x (l 4) = b := ⟨_, rfl⟩
   rw [e5] at HD ⊢
   cases b5 with
   | false =>
    go_wp2
    go_ret
    exact ⟨ret_bool (HNO.out (.inr (.inr (.inr (.inr (.inr (.inl e5))))))).symm, B5.out⟩
   | true =>
   go_wp2_with fail
   refine (filters_impl (p 5) (l 5) (c 5) f (p 1) (l 1) (c 1) g _ N5.out.filters N5.out.links).mono ?_
   rintro e' w6 ⟨rfl, hb6⟩
   obtain ⟨-, -, -, -, -, -, hB⟩ := HC1.out w6 (H5.out.trans (hb6.mono H5.out.size))
   have B6 := hid hB
   clear hb6 hB q1 q2 q3 q4 q5
   go_wp2
   go_ret
   exact ⟨ret_bool (by rw [HD.out, E5.out]; rfl), B6.out⟩
 · have d3 : decide ((l 3 : Int) ≤ 2) = false := decide_eq_false (by omega)
   have E5 := hid h3
   clear h3
   go_wp2
   go_ret
   exact ⟨ret_bool (HNO.out (.inr (.inr (.inr (.inr (.inl E5.out)))))).symm, B4.out⟩
end Go.Proofs.YtaioffpkadmmhaaGreat.netOKImpl
namespace Go.Proofs.YtaioffpkadmmhaaGreat.candEnv
open Go.RowKit Go.Deep Go base copy names netSem netSpec netOKSpec nbSem routeRow candSem
set_option linter.unusedVariables false
def envC (ok : Bool) (el dl l3 l1 : Nat) (env : List Int) : Int := if 4096 < el ∨ 4096 < dl then 2 else if ok = false then 1 else if el ≠ l3 ∨ dl ≠ l1 then 5 else if allN (fun i => inB (zAt env i) 0 2) el = true then 0 else 5
set_option maxHeartbeats 3200000 in
theorem env_spec (p : Nat → Option Addr) (l c : Nat → Nat) (s : Ss) (g : R) (o e : List Int) (x f : R) (ea da : Option Addr) (el ec dl dc : Nat) (env : List Int) (w : World) (h : NetIs w p l s g o e x f) (hc0 : l 0 ≤ c 0) (hc1 : l 1 ≤ c 1) (he : IntRow w ea el env) (hdl : dl ≤ maxLen) :
  Calls Tryz.prog 27 #[netV p l c, .slice ea el ec, .slice da dl dc] w fun e' w' => e' = .returned (.int .i64 (envC (netB l s g o e x f) el dl (l 3) (l 1) env)) ∧ Below w.heap.size w w' := by
 have HN := hid h
 have HE := hid he
 have m3 := h.externals.most
 have m1 := h.links.most
 have me := he.most
 have K0 := hid hc0
 have K1 := hid hc1
 unfold maxLen at m1 m3 me hdl
 clear h he hc0 hc1
 have C1 : ∀ w8 : World, Below ((w.alloc (.cells #[.slice (p 0) (l 0) (c 0), .slice (p 1) (l 1) (c 1), .slice (p 2) (l 2) (c 2), .slice (p 3) (l 3) (c 3), .slice (p 4) (l 4) (c 4), .slice (p 5) (l 5) (c 5)] 29))).heap.size (w.alloc (.cells #[.slice (p 0) (l 0) (c 0), .slice (p 1) (l 1) (c 1), .slice (p 2) (l 2) (c 2), .slice (p 3) (l 3) (c 3), .slice (p 4) (l 4) (c 4), .slice (p 5) (l 5) (c 5)] 29)) w8 → (w8.cell? ⟨w.heap.size, 1, none⟩ = some (.slice (p 1) (l 1) (c 1)) ∧ w8.cell? ⟨w.heap.size, 3, none⟩ = some (.slice (p 3) (l 3) (c 3))) ∧ IntRow w8 ea el env ∧ Below w.heap.size w w8 :=
  fun w8 hb => ⟨⟨keep hb (by simp [go_sem]), keep hb (by simp [go_sem])⟩, (HE.out.below (by repeat (first | exact Below.refl _ _ | assumption | refine Below.drew ?_ | refine Below.alloc ?_ (by first | exact Nat.le_refl _ | omega | (simp; done) | (simp; omega)) _ | refine Below.setCell ?_ (by first | exact Nat.le_refl _ | omega | (simp; done) | (simp; omega)) _))).below hb, (show Below w.heap.size w _ from (by repeat (first | exact Below.refl _ _ | assumption | refine Below.drew ?_ | refine Below.alloc ?_ (by first | exact Nat.le_refl _ | omega | (simp; done) | (simp; omega)) _ | refine Below.setCell ?_ (by first | exact Nat.le_refl _ | omega | (simp; done) | (simp; omega)) _))).trans (hb.mono (by simp))⟩
 have HC1 := hid C1
 clear C1
 obtain ⟨ok, hok⟩ : ∃ b, netB l s g o e x f = b := ⟨_, rfl⟩
 have HOK := hid hok
 rw [hok]
 clear hok
 obtain ⟨C, hC⟩ : ∃ C, envC ok el dl (l 3) (l 1) env = C := ⟨_, rfl⟩
 have HC := hid hC
 rw [hC]
 clear hC
 unfold envC at HC
 unfold netV
 by_cases h1 : 4096 < el
 · have d1 : decide ((4096 : Int) < (el : Int)) = true := decide_eq_true (by omega)
   have e2 : C = 2 := by rw [← HC.out, if_pos (.inl h1)]
   subst e2
   go_enter Tryz.func27, Tryz.ntmps27
   go_wp2
   go_ret
   exact ⟨rfl, (by repeat (first | exact Below.refl _ _ | assumption | refine Below.drew ?_ | refine Below.alloc ?_ (by first | exact Nat.le_refl _ | omega | (simp; done) | (simp; omega)) _ | refine Below.setCell ?_ (by first | exact Nat.le_refl _ | omega | (simp; done) | (simp; omega)) _))⟩
 have d1 : decide ((4096 : Int) < (el : Int)) = false := decide_eq_false (by omega)
 by_cases h2 : 4096 < dl
 · have d2 : decide ((4096 : Int) < (dl : Int)) = true := decide_eq_true (by omega)
   have e2 : C = 2 := by rw [← HC.out, if_pos (.inr h2)]
   subst e2
   go_enter Tryz.func27, Tryz.ntmps27
   go_wp2
   go_ret
   exact ⟨rfl, (by repeat (first | exact Below.refl _ _ | assumption | refine Below.drew ?_ | refine Below.alloc ?_ (by first | exact Nat.le_refl _ | omega | (simp; done) | (simp; omega)) _ | refine Below.setCell ?_ (by first | exact Nat.le_refl _ | omega | (simp; done) | (simp; omega)) _))⟩
 have d2 : decide ((4096 : Int) < (dl : Int)) = false := decide_eq_false (by omega)
 rw [if_neg (by omega)] at HC
 go_enter Tryz.func27, Tryz.ntmps27
 go_wp2_with fail
 refine (netOK_spec p l c s g o e x f _ (HN.out.below (by repeat (first | exact Below.refl _ _ | assumption | refine Below.drew ?_ | refine Below.alloc ?_ (by first | exact Nat.le_refl _ | omega | (simp; done) | (simp; omega)) _ | refine Below.setCell ?_ (by first | exact Nat.le_refl _ | omega | (simp; done) | (simp; omega)) _))) K0.out K1.out).mono ?_
 rintro e' w1 ⟨rfl, hb1⟩
 rw [HOK.out]
 obtain ⟨⟨q1, q3⟩, hE1, hB⟩ := HC1.out _ hb1
 have E1 := hid hE1
 have B1 := hid hB
 have hs1 : w.heap.size < w1.heap.size := World.block_lt_of_cell? _ _ q1
 clear hb1 hE1 hB
 cases ok with
 | false =>
  have e2 : C = 1 := by rw [← HC.out, if_pos rfl]
  subst e2
  go_wp2
  go_ret
  exact ⟨rfl, B1.out⟩
 | true =>
 rw [if_neg (by decide)] at HC
 by_cases h3 : el = l 3
 · have d3 : ((el : Int) != (l 3 : Int)) = false := by simp [h3]
   by_cases h4 : dl = l 1
   · have d4 : ((dl : Int) != (l 1 : Int)) = false := by simp [h4]
     rw [if_neg (by simp [h3, h4])] at HC
     clear h3 h4
     go_wp2
     go_loopw [7] (fun i wr => ∃ k : Nat, k ≤ el ∧ i = .int .i64 k ∧ Below w1.heap.size w1 wr ∧ ∀ j, j < k → inB (zAt env j) 0 2 = true) (fun i _ => el - (intOf i).toNat)
     case atStart => exact ⟨0, Nat.zero_le _, rfl, Below.refl _ _, fun j hj => absurd hj (Nat.not_lt_zero _)⟩
     case round =>
      obtain ⟨k, hk, rfl, hb, ha⟩ := hrel
      have HB := hid hb
      have HA := hid ha
      clear hb ha
      by_cases hlt : k < el
      · obtain ⟨b, off, rfl, c0⟩ := (E1.out.below HB.out).cell k hlt
        have HZ : Hid (zAt env k = env[k]?.getD 0) := hid rfl
        generalize env[k]?.getD 0 = y at *
        obtain ⟨D, hD⟩ : ∃ D, inB y 0 2 = D := ⟨_, rfl⟩
        have HQ := hid hD
        go_wp2_with fail
        refine (in_spec _ _ _ _).mono ?_
        rintro e' w' ⟨rfl, hw'⟩
        have hw' := hw'.symm
        subst hw'
        rw [hD]
        clear hD
        cases D with
        | true =>
         go_wp2
         go_roundw
         case rel =>
          refine ⟨k + 1, by omega, by go_num, HB.out, fun j hj => ?_⟩
          by_cases e : j = k
          · subst e; rw [HZ.out]; exact HQ.out
          · exact HA.out j (by omega)
         case measure => simp [intOf]; omega
        | false =>
         have e2 : C = 5 := by
          rw [← HC.out, if_neg]
          rw [allN_false hlt (by show inB (zAt env k) 0 2 = false; rw [HZ.out]; exact HQ.out)]
          decide
         subst e2
         go_wp2
         go_ret
         exact ⟨rfl, B1.out.trans (HB.out.mono B1.out.size)⟩
      · have e : k = el := by omega
        subst e
        have e2 : C = 0 := by rw [← HC.out, if_pos (allN_of HA.out)]
        subst e2
        go_wp2
        go_ret
        exact ⟨rfl, B1.out.trans (HB.out.mono B1.out.size)⟩
   · have d4 : ((dl : Int) != (l 1 : Int)) = true := by simp; omega
     have e2 : C = 5 := by rw [← HC.out, if_pos (.inr h4)]
     subst e2
     clear h3 h4
     go_wp2
     go_ret
     exact ⟨rfl, B1.out⟩
 · have d3 : ((el : Int) != (l 3 : Int)) = true := by simp; omega
   have e2 : C = 5 := by rw [← HC.out, if_pos (.inl h3)]
   subst e2
   clear h3
   go_wp2
   go_ret
   exact ⟨rfl, B1.out⟩
end Go.Proofs.YtaioffpkadmmhaaGreat.candEnv
