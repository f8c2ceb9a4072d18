import Derived.Test.YtaioffpkadmmhaaGreatPart27
import Derived.BigRegion
import Derived.Test.YtaioffpkadmmhaaGreatPart25
import Derived.Test.YtaioffpkadmmhaaGreatPart1
import Derived.Test.YtaioffpkadmmhaaGreatPart8
namespace Go.Proofs.YtaioffpkadmmhaaGreat.stabImpl
open Go.RowKit Go.Deep Go base netSem routeRow nbSem candSem candImp hopSem intsOwn hopMake hopBetween sceneSem sceneOpen sceneBy candSpec sceneCand noRts rtsRow bestFace bestAll
set_option linter.unusedVariables false
def eqR (a b : Rt) : Bool := a.via == b.via && a.pref == b.pref && a.len == b.len && a.mark == b.mark
theorem eqR_iff {a b : Rt} : eqR a b = true ↔ a = b := by
 cases a; cases b
 simp [eqR, and_assoc]
theorem eqR_no {a b : Rt} (h : a ≠ b) : eqR a b = false := by
 cases e : eqR a b with
 | false => rfl
 | true => exact absurd (eqR_iff.1 e) h
def sameTo (g g' : Rs) (n : Nat) : Bool := allN (fun i => eqR (g i) (g' i)) n
theorem same_yes {g g' : Rs} {n : Nat} (h : ∀ i, i < n → g i = g' i) : sameTo g g' n = true := allN_iff.2 fun i hi => eqR_iff.2 (h i hi)
theorem same_no {g g' : Rs} {n k : Nat} (hk : k < n) (h : g k ≠ g' k) : sameTo g g' n = false := allN_false hk (eqR_no h)
set_option maxHeartbeats 1600000 in
set_option maxRecDepth 8000 in
theorem equal_rts (a a' : Option Addr) (n c c' : Nat) (g g' : Rs) (w : World) (hr : RtRow w a n g) (hr' : RtRow w a' n g') :
  Calls Tryz.prog 53 #[.slice a n c, .slice a' n c'] w fun e w' => e = .returned (.bool (sameTo g g' n)) ∧ Below w.heap.size w w' := by
 have HR := hid hr
 have HR' := hid hr'
 have hm := hr.most
 unfold maxLen at hm
 clear hr hr'
 have hnn : ((n : Int) != (n : Int)) = false := by simp
 go_enter Tryz.func53, Tryz.ntmps53
 go_wp2
 go_loopw [13] (fun i wr => ∃ k : Nat, k ≤ n ∧ i = .int .i64 k ∧ (∀ j, j < k → g j = g' j) ∧ Below w.heap.size w wr) (fun i _ => n - (intOf i).toNat)
 case atStart => exact ⟨0, Nat.zero_le _, rfl, fun j hj => absurd hj (Nat.not_lt_zero _), (by repeat (first | exact Below.refl _ _ | assumption | refine Below.drew ?_ | refine Below.alloc ?_ (by first | exact Nat.le_refl _ | omega | (simp; done) | (simp; omega)) _ | refine Below.setCell ?_ (by first | exact Nat.le_refl _ | omega | (simp; done) | (simp; omega)) _))⟩
 case round =>
  obtain ⟨k, hk, rfl, ha, hbel⟩ := hrel
  have HA := hid ha
  have HB := hid hbel
  clear ha
  by_cases hlt : k < n
  · obtain ⟨b, off, rfl, c0, c1, c2, c3⟩ := (HR.out.below hbel).at4 hlt
    obtain ⟨b', off', rfl, d0, d1, d2, d3⟩ := (HR'.out.below hbel).at4 hlt
    clear hbel
    have HQ : Hid ((g k).via = (g' k).via → (g k).pref = (g' k).pref → (g k).len = (g' k).len → (g k).mark = (g' k).mark → g k = g' k) := fun h1 h2 h3 h4 => by
     revert h1 h2 h3 h4
     cases g k; cases g' k
     simp
     intros
     simp_all
    have HN : Hid (∀ r r', g k = r → g' k = r' → r ≠ r' → sameTo g g' n = false) := fun r r' e1 e2 h => same_no hlt (by rw [e1, e2]; exact h)
    obtain ⟨x, hx⟩ : ∃ r, g k = r := ⟨_, rfl⟩
    obtain ⟨y, hy⟩ : ∃ r, g' k = r := ⟨_, rfl⟩
    have HX := hid hx
    have HY := hid hy
    rw [hx] at c0 c1 c2 c3
    rw [hy] at d0 d1 d2 d3
    clear hx hy HQ
    obtain ⟨x0, x1, x2, x3⟩ := x
    obtain ⟨y0, y1, y2, y3⟩ := y
    dsimp only at c0 c1 c2 c3 d0 d1 d2 d3
    by_cases e0 : x0 = y0
    · subst e0
      by_cases e1 : x1 = y1
      · subst e1
        by_cases e2 : x2 = y2
        · subst e2
          by_cases e3 : x3 = y3
          · subst e3
            go_wp2
            go_region
            all_goals
             go_wp2
             go_roundw
             case rel =>
              refine ⟨k + 1, by omega, by go_num, fun j hj => ?_, HB.out.drew⟩
              by_cases e : j = k
              · subst e; rw [HX.out, HY.out]
              · exact HA.out j (by omega)
             case measure => simp [intOf]; omega
          · have f : (x3 == y3) = false := by simp [e3]
            have HF : Hid (sameTo g g' n = false) := HN.out _ _ HX.out HY.out (fun h => e3 (by injection h))
            clear e3
            go_wp2
            go_region
            all_goals
             go_wp2
             go_ret
             exact ⟨ret_bool HF.out.symm, HB.out.drew⟩
        · have f : (x2 == y2) = false := by simp [e2]
          have HF : Hid (sameTo g g' n = false) := HN.out _ _ HX.out HY.out (fun h => e2 (by injection h))
          clear e2
          go_wp2
          go_region
          all_goals
           go_wp2
           go_ret
           exact ⟨ret_bool HF.out.symm, HB.out.drew⟩
      · have f : (x1 == y1) = false := by simp [e1]
        have HF : Hid (sameTo g g' n = false) := HN.out _ _ HX.out HY.out (fun h => e1 (by injection h))
        clear e1
        go_wp2
        go_region
        all_goals
         go_wp2
         go_ret
         exact ⟨ret_bool HF.out.symm, HB.out.drew⟩
    · have f : (x0 == y0) = false := by simp [e0]
      have HF : Hid (sameTo g g' n = false) := HN.out _ _ HX.out HY.out (fun h => e0 (by injection h))
      clear e0
      go_wp2
      go_region
      all_goals
       go_wp2
       go_ret
       exact ⟨ret_bool HF.out.symm, HB.out.drew⟩
  · have e : k = n := by omega
    subst e
    clear hbel
    go_wp2
    go_ret
    exact ⟨ret_bool (same_yes HA.out).symm, HB.out⟩
set_option maxHeartbeats 1600000 in
theorem stable_impl {sb b B : Nat} {F : Nat → Value} {p : Nat → Option Addr} {l c : Nat → Nat} {g : R} {o e : List Int} {x : R} {ea da : Option Addr} {el ec dl dc : Nat} {env : List Int} {ds : List Bool} {w : World} (ra : Option Addr) (n cr : Nat) (rs : Rs) (h : Sc sb b B F p l c g o e x ea da el ec dl dc env ds w) (hgd : sceneBy.Good n l g x rs) (hrt : RtRow w ra n rs) (hna : ∀ a o, ra = some ⟨a, o, none⟩ → a ≠ b) (hn1 : 1 ≤ n) :
  Calls Tryz.prog 30 #[.pointer (some ⟨sb, 0, none⟩), .slice ra n cr] w fun e' w' => e' = .returned (.bool (sameTo (bests g (l 1) o e x (l 4) env ds rs n) rs n)) ∧ Sc sb b B F p l c g o e x ea da el ec dl dc env ds w' ∧ w.grownBy w' (some b) := by
 have HBest := hid (best_all ra n cr rs h hgd hrt hna hn1)
 have HT := hid hrt
 have HNa := hid hna
 have hm := hrt.most
 have HM := hid hm
 have HRt : Hid (∀ W : World, w.grownBy W (some b) → RtRow W ra n rs) := hid (fun W hg => ⟨HT.out.most, fun i hi => by
  obtain ⟨q, off, e, hc⟩ := HT.out.cell i hi
  exact ⟨q, off, e, fun j hj => grown_cell hg q _ _ (HNa.out q off e) (hc j hj)⟩⟩)
 clear h hgd hrt hna hm HT
 generalize bests g (l 1) o e x (l 4) env ds rs n = bs at *
 go_enter Tryz.func30, Tryz.ntmps30
 go_wp2_with fail
 refine HBest.out.mono ?_
 rintro e' w1 ⟨N, rfl, hN, hl, hs, hg⟩
 have HL := hid hl
 have HS := hid hs
 have HG := hid hg
 clear hl hs hg
 go_wp2_with fail
 refine (equal_rts _ ra n n cr bs rs _ (HL.out.is HM.out) (HRt.out _ HG.out)).mono ?_
 rintro e' w2 ⟨rfl, hb2⟩
 have HS2 := hid (HS.out.below hb2)
 have HG2 := hid (gtrans HG.out (grown_of_below hb2 _))
 clear hb2
 go_wp2
 go_ret
 exact ⟨rfl, HS2.out, HG2.out⟩
end Go.Proofs.YtaioffpkadmmhaaGreat.stabImpl
namespace Go.Proofs.YtaioffpkadmmhaaGreat.stabFace
open Go.RowKit Go.Deep Go base names netSem routeRow nbSem candSem candImp hopSem intsOwn hopMake hopBetween sceneSem sceneOpen sceneBy candSpec sceneCand sceneList sceneFault sceneNew sceneFace walkSem routesB netImpl noRts rtsRow bestFace bestAll stabImpl
set_option linter.unusedVariables false
def stabB (g : R) (nl : Nat) (o e : List Int) (x : R) (nx : Nat) (env : List Int) (ds : List Bool) (rs : Rs) (n : Nat) : Bool := sameTo (fun r : Nat => bst (candL g nl o e x nx env ds rs n (r : Int))) rs n
def stabA (c : Int) (s : Bool) : Bool := if c = 0 then s else false
theorem bests_cand {g : R} {nl : Nat} {o e : List Int} {x : R} {nx : Nat} {env : List Int} {ds : List Bool} {rs : Rs} {n : Nat} (hn : n ≤ 4) (hv : ∀ i, i < n → (rs i).via < n) (he : ∀ i, 0 ≤ zAt env i) : bests g nl o e x nx env ds rs n = fun r : Nat => bst (candL g nl o e x nx env ds rs n (r : Int)) := by
 funext r
 unfold bests
 rw [lst_cand _ _ _ _ _ _ _ _ _ _ _ hn hv he]
theorem two_rets {a b : Bool} {x y : Int} (h : a = b) (h' : x = y) : Ending.returned (.tuple #[.bool a, .int .i64 x]) = .returned (.tuple #[.bool b, .int .i64 y]) := by rw [h, h']
theorem one_router {l : Nat → Nat} {s : Ss} {g x f : R} {o e : List Int} (h : netB l s g o e x f = true) : 1 ≤ l 0 := by
 unfold netB routersB inB at h
 simp only [Bool.and_eq_true, decide_eq_true_eq] at h
 obtain ⟨⟨⟨⟨⟨⟨⟨h1, _⟩, _⟩, _⟩, _⟩, _⟩, _⟩, _⟩ := h
 omega
set_option maxHeartbeats 3200000 in
set_option maxRecDepth 8000 in
theorem isStable_impl (p : Nat → Option Addr) (l c : Nat → Nat) (s : Ss) (g : R) (o e : List Int) (x f : R) (ea da ra : Option Addr) (el ec dl dc rl cr : Nat) (env : List Int) (ds : List Bool) (rs : Rs) (w : World) (h : NetIs w p l s g o e x f) (hc0 : l 0 ≤ c 0) (hc1 : l 1 ≤ c 1) (he : IntRow w ea el env) (hd : BoolRow w da dl ds) (hr : RtRow w ra rl rs) :
  Calls Tryz.prog 12 #[netV p l c, .slice ea el ec, .slice da dl dc, .slice ra rl cr] w fun e' w' => e' = .returned (.tuple #[.bool (stabA (rtC (netB l s g o e x f) (routesB g (l 1) (l 0) rl rs) el dl rl (l 3) (l 1) env) (stabB g (l 1) o e x (l 4) env ds rs (l 0))), .int .i64 (rtC (netB l s g o e x f) (routesB g (l 1) (l 0) rl rs) el dl rl (l 3) (l 1) env)]) ∧ Below w.heap.size w w' := by
 have HF := hid (fun (W : World) (hb : Below w.heap.size w W) => routes_fault p l c s g o e x f ea da ra el ec dl dc rl cr env rs W (h.below hb) hc0 hc1 (he.below hb) hd.most (hr.below hb) (fun hk => links_in hk))
 have HN := hid h
 have HE := hid he
 have HD := hid hd
 have HR := hid hr
 clear h he hd hr hc0 hc1
 obtain ⟨ok, hok⟩ : ∃ b, netB l s g o e x f = b := ⟨_, rfl⟩
 obtain ⟨rb, hrb⟩ : ∃ b, routesB g (l 1) (l 0) rl rs = b := ⟨_, rfl⟩
 have HOK := hid hok
 have HRB := hid hrb
 rw [hok, hrb]
 simp only [hok, hrb] at HF
 clear hok hrb
 obtain ⟨D, hD⟩ : ∃ D, rtC ok rb el dl rl (l 3) (l 1) env = D := ⟨_, rfl⟩
 have HDD := hid hD
 simp only [hD] at HF
 rw [hD]
 obtain ⟨S, hS⟩ : ∃ S, stabB g (l 1) o e x (l 4) env ds rs (l 0) = S := ⟨_, rfl⟩
 have HST := hid hS
 rw [hS]
 clear hD hS
 have C1 : ∀ w8 : World, Below ((w.alloc (.cells #[.slice (p 0) (l 0) (c 0), .slice (p 1) (l 1) (c 1), .slice (p 2) (l 2) (c 2), .slice (p 3) (l 3) (c 3), .slice (p 4) (l 4) (c 4), .slice (p 5) (l 5) (c 5)] 29))).heap.size (w.alloc (.cells #[.slice (p 0) (l 0) (c 0), .slice (p 1) (l 1) (c 1), .slice (p 2) (l 2) (c 2), .slice (p 3) (l 3) (c 3), .slice (p 4) (l 4) (c 4), .slice (p 5) (l 5) (c 5)] 29)) w8 → (w8.cell? ⟨w.heap.size, 0, none⟩ = some (.slice (p 0) (l 0) (c 0)) ∧ w8.cell? ⟨w.heap.size, 1, none⟩ = some (.slice (p 1) (l 1) (c 1)) ∧ w8.cell? ⟨w.heap.size, 2, none⟩ = some (.slice (p 2) (l 2) (c 2)) ∧ w8.cell? ⟨w.heap.size, 3, none⟩ = some (.slice (p 3) (l 3) (c 3)) ∧ w8.cell? ⟨w.heap.size, 4, none⟩ = some (.slice (p 4) (l 4) (c 4)) ∧ w8.cell? ⟨w.heap.size, 5, none⟩ = some (.slice (p 5) (l 5) (c 5))) ∧ Below w.heap.size w w8 :=
  fun w8 hb => ⟨⟨keep hb (by simp [go_sem]), keep hb (by simp [go_sem]), keep hb (by simp [go_sem]), keep hb (by simp [go_sem]), keep hb (by simp [go_sem]), keep hb (by simp [go_sem])⟩, (show Below w.heap.size w _ from (by repeat (first | exact Below.refl _ _ | assumption | refine Below.drew ?_ | refine Below.alloc ?_ (by first | exact Nat.le_refl _ | omega | (simp; done) | (simp; omega)) _ | refine Below.setCell ?_ (by first | exact Nat.le_refl _ | omega | (simp; done) | (simp; omega)) _))).trans (hb.mono (by simp))⟩
 have HC1 := hid C1
 clear C1
 unfold netV at HF ⊢
 go_enter Tryz.func12, Tryz.ntmps12
 go_wp2_with fail
 refine (HF.out _ (by repeat (first | exact Below.refl _ _ | assumption | refine Below.drew ?_ | refine Below.alloc ?_ (by first | exact Nat.le_refl _ | omega | (simp; done) | (simp; omega)) _ | refine Below.setCell ?_ (by first | exact Nat.le_refl _ | omega | (simp; done) | (simp; omega)) _))).mono ?_
 rintro e' w1 ⟨rfl, hb1⟩
 obtain ⟨⟨q0, q1, q2, q3, q4, q5⟩, hB⟩ := HC1.out _ hb1
 have B1 := hid hB
 clear hb1 hB
 by_cases h0 : D = 0
 case neg =>
  have d1 : (D != 0) = true := by simp [h0]
  have HA : Hid (stabA D S = false) := if_neg h0
  clear h0
  go_wp2
  go_ret2
  exact ⟨two_rets HA.out.symm rfl, B1.out⟩
 subst h0
 have HA : Hid (stabA 0 S = S) := if_pos rfl
 obtain ⟨f1, f2, f3, f4, f5⟩ := rt_zero HDD.out
 subst f1 f2
 obtain ⟨hrl, hgd⟩ := good_of HOK.out HRB.out
 obtain ⟨n4, n12, nl, ni⟩ := net_links HOK.out
 have hgi := fun j hj => (link_facts (nl j hj) n4).1
 have HNew := hid (new_impl p l c s g o e x f ea da el ec dl dc env ds w1 (HN.out.below B1.out) (HE.out.below B1.out) (HD.out.below B1.out) f3 f4 hgi (fun i h => (import_facts (ni i h) hgi).1) n12)
 have hn1 : 1 ≤ l 0 := one_router HOK.out
 have HGood := hid hgd
 have HEnv : Hid (∀ i, 0 ≤ zAt env i) := hid (fun i => by
  by_cases hi : i < el
  · exact f5 i hi
  · have hl := HE.out.length
    unfold zAt
    rw [List.getElem?_eq_none (by omega)]
    exact Int.le_refl _)
 have HRl := hid hrl
 clear f3 f4 f5 hgd n4 n12 nl ni hgi hrl HF
 unfold netV at HNew
 go_wp2_with fail
 refine HNew.out.mono ?_
 rintro e' w3 ⟨sb, b, F, rfl, hb3, hs3, hB3⟩
 have HS3 := hid hs3
 have HB3 := hid hB3
 have HR3 : Hid (RtRow w3 ra (l 0) rs) := hid (by rw [← HRl.out]; exact (HR.out.below B1.out).below hB3)
 have HNa : Hid (∀ a o, ra = some ⟨a, o, none⟩ → a ≠ b) := hid (fun a o ea => by
  obtain ⟨q', o', e', hc⟩ := (HR.out.below B1.out).cell 0 (by rw [HRl.out]; omega)
  rw [ea] at e'
  injection e' with e'
  injection e' with e1 e2
  subst e1
  have h8 : a < w1.heap.size := World.block_lt_of_cell? _ _ (hc 0 (by omega))
  omega)
 have HBb := hid hb3
 clear hs3 hB3 hb3
 have hrl : rl = l 0 := HRl.out
 subst hrl
 have HSt : Hid (sameTo (bests g (l 1) o e x (l 4) env ds rs (l 0)) rs (l 0) = S) := by
  show _ = _
  rw [← HST.out, bests_cand HGood.out.few (fun i hi => (HGood.out.via i hi).2) HEnv.out]
  rfl
 go_wp2_with fail
 refine (stable_impl ra (l 0) cr rs HS3.out HGood.out HR3.out HNa.out hn1).mono ?_
 rintro e' w4 ⟨rfl, hs4, hg4⟩
 rw [HSt.out]
 have HB4 : Hid (Below w.heap.size w w4) := hid (by
  have hA := B1.out.trans (HB3.out.mono B1.out.size)
  have h7 := hA.size
  have h6 := B1.out.size
  have h5 := HBb.out
  exact { os := hg4.os.trans hA.os, tape := hg4.tape.trans hA.tape, output := hg4.output.trans hA.output, size := Nat.le_trans hA.size hg4.size, block := fun j hj => (hg4.block j (by omega) (fun e => by injection e with e; omega)).trans (hA.block j hj) })
 clear hs4 hg4
 go_wp2
 go_ret2
 exact ⟨two_rets HA.out.symm rfl, HB4.out⟩
end Go.Proofs.YtaioffpkadmmhaaGreat.stabFace
namespace Go.Proofs.YtaioffpkadmmhaaGreat.lawNets
open Go.ChangeShapes Go.WideShapes Go.ChangeAt Go.RowKit Go.Deep Go.Joins Go base args netSem netMath routeRow rtsRow candEnv stabImpl source
set_option linter.unusedVariables false
theorem bytes_below {w w1 : World} {a : Option Addr} {len : Nat} (h : Bytes w a len) (hb : Below w.heap.size w w1) : Bytes w1 a len := fun i hi => by
 obtain ⟨b, o, e, x, hx, hc⟩ := h i hi
 exact ⟨b, o, e, x, hx, keep hb hc⟩
theorem bytes_of_trod {H : Type} {enc : TypeId × Value → H} {P : Program} {w : World} {base : Nat} {held : Bool} {t e : TypeId} {fuel : Nat} {v : Value} {x : DataW H × List MemPlace} (ht : P.underlying t = some (.slice e)) (he : P.underlying e = some (.int .u8)) (ce : P.cellsOf e = 1)
  (h : DataW.trod enc P w base (fun _ => true) held fuel t [v] = some x) : ∃ a len cap, v = .slice a len cap ∧ Bytes w a len ∧ len ≤ maxLen := by
 rcases open_ints ht he ce h with ⟨hcs, _⟩ | ⟨x, l, c, zs, hcs, _, hl, hm, hz, _, hcell, hwz⟩
 · exact ⟨none, 0, 0, by simpa using hcs, fun i hi => absurd hi (Nat.not_lt_zero _), Nat.zero_le _⟩
 · simp only [if_true] at hz
   refine ⟨some x, l, c, by simpa using hcs, fun i hi => ?_, Nat.le_trans hl hm⟩
   obtain ⟨e1, e2⟩ := at_none (hcell 0 (by omega)) (hcell i (by omega))
   have hi' : i < zs.length := by omega
   have hw := hwz zs[i] (List.getElem_mem hi')
   have hr : 0 ≤ zs[i] ∧ zs[i] < 256 := by
    simp [Lit.wf, IntKind.min, IntKind.max, IntKind.bits, IntKind.signed] at hw
    omega
   obtain ⟨y, hy⟩ := Int.eq_ofNat_of_zero_le hr.1
   refine ⟨x.block, x.off, by rw [← e1], y, by omega, ?_⟩
   rw [e2, List.getD_eq_getElem?_getD, List.getElem?_eq_getElem hi', Option.getD_some, hy]
def OwnBools (B : Nat) (w : World) (v : Value) (zs : List Bool) : Prop := w.ownsRow B 4 1 v zs.length (zs.map Value.bool)
theorem OwnBools.form {B : Nat} {w : World} {v : Value} {zs : List Bool} (h : OwnBools B w v zs) : ∃ a cap, v = .slice a zs.length cap ∧ BoolRow w a zs.length zs := by
 obtain ⟨h1, h2⟩ := h
 rcases h2 with ⟨rfl, hn⟩ | ⟨g, cap, cur, rfl, hb, hh, hn, hm, hs, ht⟩
 · exact ⟨none, 0, by rw [hn], ⟨rfl, by rw [hn]; exact Nat.zero_le _, fun i hi => by omega⟩⟩
 · refine ⟨some ⟨g, 0, none⟩, cap, rfl, ⟨rfl, Nat.le_trans hn hm, fun i hi => ⟨g, 0, rfl, ?_⟩⟩⟩
   have h3 : cur[i]? = some (.bool (zs[i]?.getD false)) := by
    have : (cur.toList.take (zs.length * 1))[i]? = (zs.map Value.bool)[i]? := by rw [ht]
    rw [List.getElem?_take, if_pos (by omega)] at this
    rw [← Array.getElem?_toList, this, List.getElem?_map, List.getElem?_eq_getElem hi]
    rfl
   simp [World.cell?, hh, h3]
theorem net_small {l : Nat → Nat} {s : Ss} {g x f : R} {o e : List Int} (h : netB l s g o e x f = true) : (1 ≤ l 0 ∧ l 0 ≤ 4) ∧ l 1 ≤ 6 ∧ l 3 ≤ 2 ∧ (∀ i, i < l 1 → 1 ≤ g i 2) := by
 unfold netB routersB linksB inB at h
 simp only [Bool.and_eq_true, decide_eq_true_eq, allN_iff] at h
 obtain ⟨⟨⟨⟨⟨⟨⟨h1, _⟩, ⟨h2, h3⟩⟩, _⟩, _⟩, h4⟩, _⟩, _⟩ := h
 refine ⟨by omega, h2, h4, fun i hi => ?_⟩
 have := h3 i hi
 unfold linkB inB at this
 simp only [Bool.and_eq_true, decide_eq_true_eq] at this
 omega
theorem env_good {zs : List Int} {dl : Nat} (h : ∀ z ∈ zs, 0 ≤ z ∧ z < 3) (hz : zs.length ≤ 4096) (hd : dl ≤ 4096) : envC true zs.length dl zs.length dl zs = 0 := by
 unfold envC
 rw [if_neg (by omega), if_neg (by decide), if_neg (by simp), if_pos ?_]
 refine allN_of fun i hi => ?_
 unfold inB zAt
 rw [List.getElem?_eq_getElem hi]
 have := h _ (List.getElem_mem hi)
 exact decide_eq_true (by simp only [Option.getD_some]; omega)
theorem env_pos {zs : List Int} (h : ∀ z ∈ zs, 0 ≤ z ∧ z < 3) (i : Nat) : 0 ≤ zAt zs i := by
 unfold zAt
 by_cases hi : i < zs.length
 · rw [List.getElem?_eq_getElem hi]; exact (h _ (List.getElem_mem hi)).1
 · rw [List.getElem?_eq_none (by omega)]; exact Int.le_refl _
theorem rF_list {zs zs' : List Rt} (hl : zs.length = zs'.length) (h : ∀ i, i < zs.length → rF zs i = rF zs' i) : zs = zs' := by
 refine List.ext_getElem hl fun i h1 h2 => ?_
 have := h i h1
 unfold rF at this
 rw [List.getElem?_eq_getElem h1, List.getElem?_eq_getElem h2] at this
 exact this
theorem same_list {zs zs' : List Rt} (hl : zs.length = zs'.length) : (zs = zs' → sameTo (rF zs) (rF zs') zs.length = true) ∧ (zs ≠ zs' → sameTo (rF zs) (rF zs') zs.length = false) := by
 refine ⟨fun h => ?_, fun h => ?_⟩
 · subst h; exact same_yes fun _ _ => rfl
 · cases hb : sameTo (rF zs) (rF zs') zs.length with
   | false => rfl
   | true =>
    refine absurd (rF_list hl fun i hi => ?_) h
    unfold sameTo at hb
    exact eqR_iff.1 (allN_iff.1 hb i hi)
end Go.Proofs.YtaioffpkadmmhaaGreat.lawNets
