import Derived.Test.YtaioffpkadmmhaaGreatPart24
import Derived.Test.YtaioffpkadmmhaaGreatPart9
import Derived.Test.YtaioffpkadmmhaaGreatPart2
import Derived.Test.YtaioffpkadmmhaaGreatPart20
import Derived.Laws.CopyOwn
import Derived.BigRegion
namespace Go.Proofs.YtaioffpkadmmhaaGreat.sceneFace
open Go.RowKit Go.Deep Go base netSem netImpl routeRow routesB nbSem candSem candImp hopSem intsOwn hopMake hopBetween sceneSem sceneFault sceneList sceneNew
set_option linter.unusedVariables false
def candC (ok rb : Bool) (el dl rl l0 l3 l1 : Nat) (env : List Int) (router : Int) : Int := if rtC ok rb el dl rl l3 l1 env = 0 then (if inB router 0 ((l0 : Int) - 1) = true then 0 else 5) else rtC ok rb el dl rl l3 l1 env
theorem net_links {l : Nat → Nat} {s : Ss} {g x f : R} {o e : List Int} (h : netB l s g o e x f = true) : l 0 ≤ 4 ∧ l 4 ≤ 12 ∧ (∀ i, i < l 1 → linkB g (l 0) i = true) ∧ ∀ i, i < l 4 → importB g (l 1) x i = true := by
 unfold netB routersB linksB importsB at h
 simp only [Bool.and_eq_true, decide_eq_true_eq, allN_iff] at h
 obtain ⟨⟨⟨⟨⟨⟨⟨h1, _⟩, ⟨_, h2⟩⟩, _⟩, _⟩, _⟩, ⟨h3, h4⟩⟩, _⟩ := h
 unfold inB at h1
 simp only [decide_eq_true_eq] at h1
 exact ⟨by omega, h3, h2, h4⟩
theorem link_facts {g : R} {r i : Nat} (h : linkB g r i = true) (hr : r ≤ 4) : (0 ≤ g i 0 ∧ g i 0 < 4 ∧ 0 ≤ g i 1 ∧ g i 1 < 4 ∧ g i 0 ≠ g i 1) ∧ linkAt g i (g i 0) (g i 1) < 0 ∧ 0 ≤ g i 2 ∧ g i 2 ≤ 100 := by
 unfold linkB inB at h
 simp only [Bool.and_eq_true, decide_eq_true_eq] at h
 obtain ⟨⟨⟨⟨⟨h1, h2⟩, h3, h4⟩, h5⟩, h6, h7⟩, h8⟩ := h
 exact ⟨⟨by omega, by omega, by omega, by omega, h5⟩, h8, by omega, by omega⟩
theorem import_facts {g x : R} {nl i : Nat} (h : importB g nl x i = true) (hg : ∀ j, j < nl → 0 ≤ g j 0 ∧ g j 0 < 4 ∧ 0 ≤ g j 1 ∧ g j 1 < 4 ∧ g j 0 ≠ g j 1) : (0 ≤ x i 0 ∧ x i 0 < 4 ∧ 0 ≤ x i 1 ∧ x i 1 < 4) ∧ 1 ≤ x i 3 ∧ x i 3 ≤ 4 := by
 unfold importB deedB inB at h
 simp only [Bool.and_eq_true, decide_eq_true_eq] at h
 obtain ⟨h1, ⟨_, h2, h3⟩, _⟩ := h
 obtain ⟨j, hj, hh⟩ := firstAt_spec.1 h1
 unfold hit at hh
 simp only [decide_eq_true_eq] at hh
 have := hg j hj
 refine ⟨?_, h2, h3⟩
 rcases hh with ⟨e1, e2⟩ | ⟨e1, e2⟩ <;> omega
theorem good_of {l : Nat → Nat} {s : Ss} {g x f : R} {o e : List Int} {rl : Nat} {rs : Rs} (h : netB l s g o e x f = true) (hr : routesB g (l 1) (l 0) rl rs = true) : rl = l 0 ∧ sceneBy.Good (l 0) l g x rs := by
 obtain ⟨h4, h12, hl, hi⟩ := net_links h
 have hgi := fun j hj => (link_facts (hl j hj) h4).1
 unfold routesB at hr
 simp only [Bool.and_eq_true, decide_eq_true_eq, allN_iff] at hr
 obtain ⟨e0, hr⟩ := hr
 subst e0
 have hrt : ∀ i, i < l 0 → (-3 ≤ (rs i).via ∧ (rs i).via < l 0) ∧ 0 ≤ (rs i).len ∧ (rs i).len ≤ 10000 := fun i hi => by
  have h := hr i hi
  unfold routeB inB at h
  simp only [Bool.and_eq_true, decide_eq_true_eq] at h
  obtain ⟨⟨⟨⟨⟨h1, h2⟩, _⟩, h5, h6⟩, _⟩, _⟩ := h
  exact ⟨⟨by omega, by omega⟩, h5, h6⟩
 exact ⟨rfl, ⟨h4, fun i hi => (link_facts (hl i hi) h4).2.1, fun i hi => (link_facts (hl i hi) h4).2.2, fun i h => (import_facts (hi i h) hgi).2, fun i hi => (hrt i hi).1, fun i hi => ⟨(hrt i hi).2.1, by have := (hrt i hi).2.2; omega⟩⟩⟩
theorem rt_zero {ok rb : Bool} {el dl rl l3 l1 : Nat} {env : List Int} (h : rtC ok rb el dl rl l3 l1 env = 0) : ok = true ∧ rb = true ∧ el = l3 ∧ dl = l1 ∧ ∀ i, i < el → 0 ≤ zAt env i := by
 unfold rtC at h
 by_cases h1 : 4096 < el ∨ 4096 < dl ∨ 4096 < rl
 · rw [if_pos h1] at h; cases h
 rw [if_neg h1] at h
 by_cases h2 : arC ok el dl l3 l1 env = 0
 case neg => rw [if_neg h2] at h; exact absurd h h2
 rw [if_pos h2] at h
 unfold arC at h2
 cases rb with
 | false => cases h
 | true =>
 cases ok with
 | false => cases h2
 | true =>
 rw [if_neg (by decide)] at h2
 by_cases h3 : el ≠ l3 ∨ dl ≠ l1
 · rw [if_pos h3] at h2; cases h2
 rw [if_neg h3] at h2
 by_cases h4 : allN (fun i => inB (zAt env i) 0 2) el = true
 · refine ⟨rfl, rfl, by omega, by omega, fun i hi => ?_⟩
   have h5 := allN_iff.1 h4 i hi
   unfold inB at h5
   simp only [decide_eq_true_eq] at h5
   exact h5.1
 · rw [if_neg h4] at h2; cases h2
set_option maxHeartbeats 3200000 in
set_option maxRecDepth 8000 in
theorem candidates_impl (p : Nat → Option Addr) (l c : Nat → Nat) (s : Ss) (g : R) (o e : List Int) (x f : R) (router : Int) (ea da ra : Option Addr) (el ec dl dc rl cr : Nat) (env : List Int) (ds : List Bool) (rs : Rs) (w : World) (h : NetIs w p l s g o e x f) (hc0 : l 0 ≤ c 0) (hc1 : l 1 ≤ c 1) (he : IntRow w ea el env) (hd : BoolRow w da dl ds) (hr : RtRow w ra rl rs) :
  Calls Tryz.prog 13 #[netV p l c, .int .i64 router, .slice ea el ec, .slice da dl dc, .slice ra rl cr] w fun e' w' => ∃ v, e' = .returned (.tuple #[v, .int .i64 (candC (netB l s g o e x f) (routesB g (l 1) (l 0) rl rs) el dl rl (l 0) (l 3) (l 1) env router)]) ∧ OwnRts w.heap.size w' v (if candC (netB l s g o e x f) (routesB g (l 1) (l 0) rl rs) el dl rl (l 0) (l 3) (l 1) env router = 0 then candL g (l 1) o e x (l 4) env ds rs (l 0) router else []) ∧ Below w.heap.size w w' := by
 have HF := hid (fun (W : World) (hb : Below w.heap.size w W) => routes_fault p l c s g o e x f ea da ra el ec dl dc rl cr env rs W (h.below hb) hc0 hc1 (he.below hb) hd.most (hr.below hb) (fun hk => links_in hk))
 have HN := hid h
 have HE := hid he
 have HD := hid hd
 have HR := hid hr
 have M0 := hid h.routers.most
 have m0 := h.routers.most
 unfold maxLen at m0
 clear h he hd hr hc0 hc1
 obtain ⟨ok, hok⟩ : ∃ b, netB l s g o e x f = b := ⟨_, rfl⟩
 obtain ⟨rb, hrb⟩ : ∃ b, routesB g (l 1) (l 0) rl rs = b := ⟨_, rfl⟩
 have HOK := hid hok
 have HRB := hid hrb
 rw [hok, hrb]
 simp only [hok, hrb] at HF
 clear hok hrb
 obtain ⟨D, hD⟩ : ∃ D, rtC ok rb el dl rl (l 3) (l 1) env = D := ⟨_, rfl⟩
 have HDD := hid hD
 simp only [hD] at HF
 obtain ⟨C, hC⟩ : ∃ C, candC ok rb el dl rl (l 0) (l 3) (l 1) env router = C := ⟨_, rfl⟩
 have HC := hid hC
 rw [hC]
 obtain ⟨Z, hZ⟩ : ∃ Z, (if C = 0 then candL g (l 1) o e x (l 4) env ds rs (l 0) router else []) = Z := ⟨_, rfl⟩
 have HZl := hid hZ
 rw [hZ]
 unfold candC at HC
 rw [hD] at HC
 clear hC hD hZ
 have C1 : ∀ w8 : World, Below ((w.alloc (.cells #[.slice (p 0) (l 0) (c 0), .slice (p 1) (l 1) (c 1), .slice (p 2) (l 2) (c 2), .slice (p 3) (l 3) (c 3), .slice (p 4) (l 4) (c 4), .slice (p 5) (l 5) (c 5)] 29))).heap.size (w.alloc (.cells #[.slice (p 0) (l 0) (c 0), .slice (p 1) (l 1) (c 1), .slice (p 2) (l 2) (c 2), .slice (p 3) (l 3) (c 3), .slice (p 4) (l 4) (c 4), .slice (p 5) (l 5) (c 5)] 29)) w8 → (w8.cell? ⟨w.heap.size, 0, none⟩ = some (.slice (p 0) (l 0) (c 0)) ∧ w8.cell? ⟨w.heap.size, 1, none⟩ = some (.slice (p 1) (l 1) (c 1)) ∧ w8.cell? ⟨w.heap.size, 2, none⟩ = some (.slice (p 2) (l 2) (c 2)) ∧ w8.cell? ⟨w.heap.size, 3, none⟩ = some (.slice (p 3) (l 3) (c 3)) ∧ w8.cell? ⟨w.heap.size, 4, none⟩ = some (.slice (p 4) (l 4) (c 4)) ∧ w8.cell? ⟨w.heap.size, 5, none⟩ = some (.slice (p 5) (l 5) (c 5))) ∧ Below w.heap.size w w8 :=
  fun w8 hb => ⟨⟨keep hb (by simp [go_sem]), keep hb (by simp [go_sem]), keep hb (by simp [go_sem]), keep hb (by simp [go_sem]), keep hb (by simp [go_sem]), keep hb (by simp [go_sem])⟩, (show Below w.heap.size w _ from (by repeat (first | exact Below.refl _ _ | assumption | refine Below.drew ?_ | refine Below.alloc ?_ (by first | exact Nat.le_refl _ | omega | (simp; done) | (simp; omega)) _ | refine Below.setCell ?_ (by first | exact Nat.le_refl _ | omega | (simp; done) | (simp; omega)) _))).trans (hb.mono (by simp))⟩
 have HC1 := hid C1
 clear C1
 unfold netV at HF ⊢
 go_enter Tryz.func13, Tryz.ntmps13
 go_wp2_with fail
 refine (HF.out _ (by repeat (first | exact Below.refl _ _ | assumption | refine Below.drew ?_ | refine Below.alloc ?_ (by first | exact Nat.le_refl _ | omega | (simp; done) | (simp; omega)) _ | refine Below.setCell ?_ (by first | exact Nat.le_refl _ | omega | (simp; done) | (simp; omega)) _))).mono ?_
 rintro e' w1 ⟨rfl, hb1⟩
 obtain ⟨⟨q0, q1, q2, q3, q4, q5⟩, hB⟩ := HC1.out _ hb1
 have B1 := hid hB
 clear hb1 hB
 by_cases h0 : D = 0
 case neg =>
  rw [if_neg h0] at HC
  have d1 : (D != 0) = true := by simp [h0]
  have e2 := HC.out
  have eZ : Z = [] := by rw [← HZl.out, ← e2, if_neg h0]
  clear h0 HZl
  subst e2
  subst eZ
  go_wp2
  go_ret2
  exact ⟨_, rfl, ⟨rfl, .inl ⟨rfl, rfl⟩⟩, B1.out⟩
 rw [if_pos h0] at HC
 rw [h0] at HDD ⊢
 clear h0
 obtain ⟨I, hI⟩ : ∃ I, inB router 0 ((l 0 : Int) - 1) = I := ⟨_, rfl⟩
 have HI := hid hI
 rw [hI] at HC
 clear hI
 go_wp2_with fail
 refine (router_impl _ _ _ M0.out).mono ?_
 rintro e' w2 ⟨rfl, hw⟩
 have hw := hw.symm
 subst hw
 rw [HI.out]
 cases I with
 | false =>
  have e2 : C = 5 := by rw [← HC.out, if_neg (by decide)]
  have eZ : Z = [] := by rw [← HZl.out, e2, if_neg (by decide)]
  clear HZl
  subst e2
  subst eZ
  go_wp2
  go_ret2
  exact ⟨_, rfl, ⟨rfl, .inl ⟨rfl, rfl⟩⟩, B1.out⟩
 | true =>
 have e2 : C = 0 := by rw [← HC.out, if_pos rfl]
 have eZ : Z = candL g (l 1) o e x (l 4) env ds rs (l 0) router := by rw [← HZl.out, e2, if_pos rfl]
 have HZ := hid eZ
 clear HZl eZ HC
 subst e2
 obtain ⟨f1, f2, f3, f4, f5⟩ := rt_zero HDD.out
 subst f1 f2
 obtain ⟨hrl, hgd⟩ := good_of HOK.out HRB.out
 obtain ⟨n4, n12, nl, ni⟩ := net_links HOK.out
 have hgi := fun j hj => (link_facts (nl j hj) n4).1
 have HNew := hid (new_impl p l c s g o e x f ea da el ec dl dc env ds w1 (HN.out.below B1.out) (HE.out.below B1.out) (HD.out.below B1.out) f3 f4 hgi (fun i h => (import_facts (ni i h) hgi).1) n12)
 obtain ⟨r, hr⟩ : ∃ r : Nat, router = (r : Int) := by
  have h := HI.out
  unfold inB at h
  simp only [decide_eq_true_eq] at h
  exact ⟨router.toNat, by omega⟩
 have hrn : r < l 0 := by
  have h := HI.out
  unfold inB at h
  simp only [decide_eq_true_eq] at h
  omega
 subst hr
 have HGood := hid hgd
 have HEnv : Hid (∀ i, 0 ≤ zAt env i) := hid (fun i => by
  by_cases hi : i < el
  · exact f5 i hi
  · have hl := HE.out.length
    unfold zAt
    rw [List.getElem?_eq_none (by omega)]
    exact Int.le_refl _)
 have HRl := hid hrl
 clear f3 f4 f5 hgd n4 n12 nl ni hgi hrl HF
 unfold netV at HNew
 go_wp2_with fail
 refine HNew.out.mono ?_
 rintro e' w3 ⟨sb, b, F, rfl, hb3, hs3, hB3⟩
 have HS3 := hid hs3
 have HB3 := hid hB3
 have HR3 : Hid (RtRow w3 ra (l 0) rs) := hid (by rw [← HRl.out]; exact (HR.out.below B1.out).below hB3)
 have HNa : Hid (∀ a o, ra = some ⟨a, o, none⟩ → a ≠ b) := hid (fun a o ea => by
  obtain ⟨q', o', e', hc⟩ := (HR.out.below B1.out).cell 0 (by rw [HRl.out]; omega)
  rw [ea] at e'
  injection e' with e'
  injection e' with e1 e2
  subst e1
  have h8 : a < w1.heap.size := World.block_lt_of_cell? _ _ (hc 0 (by omega))
  omega)
 have HBb := hid hb3
 clear hs3 hB3 hb3
 have hrl : rl = l 0 := HRl.out
 subst hrl
 go_wp2_with fail
 refine (sceneCand.cand_impl sb b w1.heap.size F p l c g o e x ea da el ec dl dc env ds ra (l 0) cr rs r w3 HS3.out HGood.out HR3.out HNa.out hrn).mono ?_
 rintro e' w4 ⟨v, rfl, ho4, hs4, hg4⟩
 have HO4 : Hid (OwnRts w.heap.size w4 v Z) := hid (by
  rw [HZ.out, ← lst_cand _ _ _ _ _ _ _ _ _ _ _ HGood.out.few (fun i hi => (HGood.out.via i hi).2) HEnv.out]
  exact ho4.mono (Nat.le_trans B1.out.size HB3.out.size))
 have HB4 : Hid (Below w.heap.size w w4) := hid (by
  have hA := B1.out.trans (HB3.out.mono B1.out.size)
  have h7 := hA.size
  have h6 := B1.out.size
  have h5 := HBb.out
  exact { os := hg4.os.trans hA.os, tape := hg4.tape.trans hA.tape, output := hg4.output.trans hA.output, size := Nat.le_trans hA.size hg4.size, block := fun j hj => (hg4.block j (by omega) (fun e => by injection e with e; omega)).trans (hA.block j hj) })
 clear ho4 hs4 hg4
 go_wp2
 go_ret2
 exact ⟨_, rfl, HO4.out, HB4.out⟩
end Go.Proofs.YtaioffpkadmmhaaGreat.sceneFace
namespace Go.Proofs.YtaioffpkadmmhaaGreat.rtsHeld
open Go.RowKit Go.Deep Go base routeRow intsOwn candSem
set_option linter.unusedVariables false
end Go.Proofs.YtaioffpkadmmhaaGreat.rtsHeld
namespace Go.Proofs.YtaioffpkadmmhaaGreat.noRts
open Go.RowKit Go.Deep Go base routeRow intsOwn candSem rtsHeld
set_option linter.unusedVariables false
def noRs : Rs := fun _ => noRt
def noCs (m : Nat) : List Value := (List.range (m * 4)).map fun j => rc noRt (j % 4)
theorem noCs_len (m : Nat) : (noCs m).length = m * 4 := by simp [noCs]
theorem noCs_at {m j : Nat} (h : j < m * 4) : (noCs m)[j]? = some (rc noRt (j % 4)) := by simp [noCs, h]
theorem add0 (X j : Nat) : (⟨X, 0, none⟩ : Addr).add j = ⟨X, j, none⟩ := by
 simp only [Addr.add]
 split
 · rename_i h; rw [h]
 · simp
theorem rc_one (r : Rt) (j : Nat) (h : j < 4) : (rc r j).oneCell' = true := by
 match j, h with
 | 0, _ => rfl
 | 1, _ => rfl
 | 2, _ => rfl
 | 3, _ => rfl
 | j + 4, h => omega
theorem run_copy4 {P : Program} (w : World) (dT sT ty elem : TypeId) (g o dLen dCap : Nat) (a : Addr) (sLen sCap : Nat) (cur : Array Value) (t : TypeId) (cs : List Value)
  (hu : P.underlying dT = some (.slice elem)) (hs : (P.info? elem).map (·.size) = some 4)
  (hg : w.heap[g]? = some (.cells cur t (0, 0))) (hn : cs.length = Nat.min sLen dLen * 4)
  (hsrc : ∀ j v, cs[j]? = some v → w.cell? (a.add j) = some v) (hfit : o + cs.length ≤ cur.size) (h1 : ∀ v ∈ cs, v.oneCell' = true) :
  (Builtin.copy_ #[dT, sT] ty #[.slice (some ⟨g, o, none⟩) dLen dCap, .slice (some a) sLen sCap]).run P w =
   .ok (goInt (Nat.min sLen dLen)) (w.setRow g (cur.toList.take o ++ cs ++ cur.toList.drop (o + cs.length)).toArray) := by
 have hl := run_loadCells_list (P := P) w a cs hsrc
 have hst := run_storeCells_at P g o t cs 0 cur w hg (by simpa using hfit) h1
 cases hq : P.info? elem with
 | none => simp [hq] at hs
 | some i =>
  have hi : i.size = 4 := by simpa [hq] using hs
  simp [Builtin.copy_, run_underlying hu, Builtin.lenOf, Builtin.firstCells, sizeOf, typeInfo, hq, hi, ← hn, hl, hst]
theorem laid_copied {w : World} {N len k m : Nat} {cur : Array Value} (h : RtLaid w N len k noRs) (hg : w.heap[N]? = some (.cells cur 44 (0, 0))) (hk : k + m ≤ len) :
  RtLaid (w.setRow N (cur.toList.take (k * 4) ++ noCs m ++ cur.toList.drop (k * 4 + (noCs m).length)).toArray) N len (k + m) noRs := by
 obtain ⟨f, ⟨cur', h1, h2, h3⟩, hc⟩ := h.row
 rw [hg] at h1
 injection h1 with h1
 injection h1 with h1
 subst h1
 have hl := noCs_len m
 refine ⟨fun i => (cur.toList.take (k * 4) ++ noCs m ++ cur.toList.drop (k * 4 + (noCs m).length))[i]?.getD undef, ⟨_, setRow_heap w N cur _ _ _ hg, by simp [hl]; omega, fun i hi => ?_⟩, fun i hi j hj => ?_⟩
 · have h9 : i < (cur.toList.take (k * 4) ++ noCs m ++ cur.toList.drop (k * 4 + (noCs m).length)).length := by simp [hl]; omega
   simp only [List.getElem?_toArray]
   rw [List.getElem?_eq_getElem h9, Option.getD_some]
 · show (cur.toList.take (k * 4) ++ noCs m ++ cur.toList.drop (k * 4 + (noCs m).length))[i * 4 + j]?.getD undef = _
   by_cases hik : i < k
   · rw [List.append_assoc, List.getElem?_append_left (by simp; omega), List.getElem?_take_of_lt (by omega), Array.getElem?_toList, h3 (i * 4 + j) (by omega)]
     exact hc i hik j hj
   · rw [List.getElem?_append_left (by simp [hl]; omega), List.getElem?_append_right (by simp; omega)]
     rw [show i * 4 + j - (cur.toList.take (k * 4)).length = (i - k) * 4 + j by simp; omega, noCs_at (by omega)]
     simp only [Option.getD_some, noRs]
     rw [show ((i - k) * 4 + j) % 4 = j by omega]
open Go.RowKit in
theorem wpList_copy_laid {P : Program} {w : World} {ops : Array Oper} {rest : List Oper} {o : Oper} {a : Act} {Q : Exit → Act → World → Prop} (hgd : o.guard = none) (d s : Operand) (dT sT : TypeId)
  (ho : o.op = .call { callee := .builtin .copy, args := #[d, s], argTypes := #[dT, sT] }) (elem : TypeId) (hu : P.underlying dT = some (.slice elem)) (hsz : (P.info? elem).map (·.size) = some 4)
  (N len k m dLen dCap : Nat) (ad : Addr) (sLen sCap : Nat) (hd : a.eval d = .slice (some ⟨N, k * 4, none⟩) dLen dCap) (hs : a.eval s = .slice (some ad) sLen sCap)
  (hl : RtLaid w N len k noRs) (hm : m = Nat.min sLen dLen) (hk : k + m ≤ len) (hsrc : ∀ j, j < m * 4 → w.cell? (ad.add j) = some (rc noRt (j % 4)))
  (B : Nat) (w0 : World) (hb : Below B w0 w) (hBg : B ≤ N)
  (h : ∀ w', Hid (RtLaid w' N len (k + m) noRs) → Hid (Below B w0 w') → wpList P ops Q rest (a.put o.dst (goInt m)) w') :
  wpList P ops Q (o :: rest) a w := by
 obtain ⟨f, ⟨cur, h1, h2, h3⟩, hc⟩ := hl.row
 have hrun := run_copy4 (P := P) w dT sT o.type elem N (k * 4) dLen dCap ad sLen sCap cur _ (noCs m) hu hsz h1 (by rw [noCs_len, hm]) (fun j v hv => by
  by_cases hj : j < m * 4
  · rw [noCs_at hj] at hv
    injection hv with hv
    rw [← hv]
    exact hsrc j hj
  · rw [List.getElem?_eq_none (by rw [noCs_len]; omega)] at hv
    cases hv) (by rw [noCs_len, h2]; omega) (fun v hv => by
  obtain ⟨j, _, rfl⟩ := List.mem_map.1 hv
  exact rc_one _ _ (Nat.mod_lt _ (by decide)))
 refine wpList_plain hgd fun K hK => ?_
 unfold Oper.wp
 simp [execOp, ho, resolve, invoke, builtin, hd, hs, hrun, Result.andThen]
 rw [← hm]
 exact hK _ _ (h _ (show RtLaid _ _ _ _ _ by simpa using laid_copied hl h1 hk) (below_setRow hb hBg _))
open Go.RowKit in
theorem run_copy_laid {P : Program} {w : World} (dT sT ty elem : TypeId) (hu : P.underlying dT = some (.slice elem)) (hsz : (P.info? elem).map (·.size) = some 4)
  (N len k m dLen dCap : Nat) (ad : Addr) (sLen sCap : Nat) (hl : RtLaid w N len k noRs) (hm : m = Nat.min sLen dLen) (hk : k + m ≤ len) (hsrc : ∀ j, j < m * 4 → w.cell? (ad.add j) = some (rc noRt (j % 4)))
  (B : Nat) (w0 : World) (hb : Below B w0 w) (hBg : B ≤ N) :
  ∃ w', (Builtin.copy_ #[dT, sT] ty #[.slice (some ⟨N, k * 4, none⟩) dLen dCap, .slice (some ad) sLen sCap]).run P w = .ok (.int .i64 (m : Int)) w' ∧ RtLaid w' N len (k + m) noRs ∧ Below B w0 w' := by
 obtain ⟨f, ⟨cur, h1, h2, h3⟩, hc⟩ := hl.row
 have hrun := run_copy4 (P := P) w dT sT ty elem N (k * 4) dLen dCap ad sLen sCap cur _ (noCs m) hu hsz h1 (by rw [noCs_len, hm]) (fun j v hv => by
  by_cases hj : j < m * 4
  · rw [noCs_at hj] at hv
    injection hv with hv
    rw [← hv]
    exact hsrc j hj
  · rw [List.getElem?_eq_none (by rw [noCs_len]; omega)] at hv
    cases hv) (by rw [noCs_len, h2]; omega) (fun v hv => by
  obtain ⟨j, _, rfl⟩ := List.mem_map.1 hv
  exact rc_one _ _ (Nat.mod_lt _ (by decide)))
 rw [← hm] at hrun
 exact ⟨_, hrun, laid_copied hl h1 hk, below_setRow hb hBg _⟩
theorem size4 : (Tryz.prog.info? 44).map (·.size) = some 4 := by kernel_rfl
theorem mul64_impl (n : Int) (hn : n = 1 ∨ n = 2 ∨ n = 3 ∨ n = 4) (w : World) :
  Calls Tryz.prog 121 #[.int .u64 1, .int .u64 n] w fun e w' => e = .returned (.tuple #[.int .u64 0, .int .u64 n]) ∧ w' = w := by
 rcases hn with rfl | rfl | rfl | rfl
 all_goals
  go_enter Tryz.func121, Tryz.ntmps121
  go_wp2
  go_ret2
  exact ⟨rfl, rfl⟩
theorem mul_impl (n : Int) (hn : n = 1 ∨ n = 2 ∨ n = 3 ∨ n = 4) (w : World) :
  Calls Tryz.prog 115 #[.int .u64 1, .int .u64 n] w fun e w' => e = .returned (.tuple #[.int .u64 0, .int .u64 n]) ∧ w' = w := by
 have HM := hid (mul64_impl n hn)
 rcases hn with rfl | rfl | rfl | rfl
 all_goals
  go_enter Tryz.func115, Tryz.ntmps115
  go_wp2_with (go_at_call 121; refine (HM.out _).mono ?_; rintro e w' ⟨rfl, rfl⟩)
  go_ret2
  exact ⟨rfl, rfl⟩
set_option maxHeartbeats 1600000 in
set_option maxRecDepth 8000 in
theorem repeat_impl (n : Nat) (hn : n = 1 ∨ n = 2 ∨ n = 3 ∨ n = 4) (X : Nat) (w : World) (hX : ∀ j, j < 4 → w.cell? ⟨X, j, none⟩ = some (rc noRt j)) :
  Calls Tryz.prog 98 #[.slice (some ⟨X, 0, none⟩) 1 1, .int .i64 (n : Int)] w fun e w' => ∃ N, e = .returned (.slice (some ⟨N, 0, none⟩) n n) ∧ w.heap.size ≤ N ∧ RtLaid w' N n n noRs ∧ Below w.heap.size w w' := by
 have hmk := run_make_Route n (by omega)
 have HM := hid (mul_impl n (by omega))
 have hn4 : n ≤ 4 := by omega
 have hn1 : 1 ≤ n := by omega
 have HX := hid hX
 clear hX hn
 go_enter Tryz.func98, Tryz.ntmps98
 have HL0 : Hid (RtLaid (w.alloc (.cells (madeCells #[.int .i64 0, .int .i64 0, .int .i64 0, .bool false] (n * 4)) 44)) w.heap.size n 0 noRs) := by
  refine ⟨fun i => (madeCells #[.int .i64 0, .int .i64 0, .int .i64 0, .bool false] (n * 4))[i]?.getD undef, ?_, fun i hi => absurd hi (Nat.not_lt_zero _)⟩
  have := World.rowIs_alloc w (madeCells #[.int .i64 0, .int .i64 0, .int .i64 0, .bool false] (n * 4)) 44 (fun i => (madeCells #[.int .i64 0, .int .i64 0, .int .i64 0, .bool false] (n * 4))[i]?.getD undef) (fun i hi => by rw [Array.getElem?_eq_getElem hi]; rfl)
  rwa [size_madeCells] at this
 have HX1 : Hid (∀ j, j < 1 * 4 → (w.alloc (.cells (madeCells #[.int .i64 0, .int .i64 0, .int .i64 0, .bool false] (n * 4)) 44)).cell? ((⟨X, 0, none⟩ : Addr).add j) = some (rc noRt (j % 4))) := fun j hj => by
  have h1 := keep (show Below w.heap.size w (w.alloc (.cells (madeCells #[.int .i64 0, .int .i64 0, .int .i64 0, .bool false] (n * 4)) 44)) from (by repeat (first | exact Below.refl _ _ | assumption | refine Below.drew ?_ | refine Below.alloc ?_ (by first | exact Nat.le_refl _ | omega | (simp; done) | (simp; omega)) _ | refine Below.setCell ?_ (by first | exact Nat.le_refl _ | omega | (simp; done) | (simp; omega)) _))) (HX.out j (by omega))
  rw [show j % 4 = j by omega, add0]
  exact h1
 have HBA : Hid (Below w.heap.size w (w.alloc (.cells (madeCells #[.int .i64 0, .int .i64 0, .int .i64 0, .bool false] (n * 4)) 44))) := (by repeat (first | exact Below.refl _ _ | assumption | refine Below.drew ?_ | refine Below.alloc ?_ (by first | exact Nat.le_refl _ | omega | (simp; done) | (simp; omega)) _ | refine Below.setCell ?_ (by first | exact Nat.le_refl _ | omega | (simp; done) | (simp; omega)) _))
 have hmin : (1 : Nat) = Nat.min 1 n := by have : Nat.min 1 n = min 1 n := rfl; omega
 have HMin := hid hmin
 clear hmin
 go_wp2_with fail
 refine (HM.out _).mono ?_
 rintro e w' ⟨rfl, hw'⟩
 have hw' := hw'.symm
 subst hw'
 go_wp2_with (refine wpList_copy_laid rfl _ _ _ _ rfl 44 Tryz.underlying40 size4 w.heap.size n 0 1 n n ⟨X, 0, none⟩ 1 1 rfl rfl HL0.out HMin.out (by omega) HX1.out w.heap.size w HBA.out (Nat.le_refl _) ?_; intro w1 hl1 hb1)
 clear HL0 HX1 HBA HMin HX hmk HM
 go_loopw [8] (fun i wr => ∃ k : Nat, 1 ≤ k ∧ k ≤ n ∧ i = .int .i64 k ∧ RtLaid wr w.heap.size n k noRs ∧ Below w.heap.size w wr) (fun i _ => n - (intOf i).toNat)
 case atStart => exact ⟨1, Nat.le_refl _, hn1, rfl, hl1.out, hb1.out⟩
 case round =>
  obtain ⟨k, hk1, hk, rfl, hl, hb⟩ := hrel
  have HL := hid hl
  have HB := hid hb
  clear hl hb
  by_cases hlt : k < n
  · have hsrc : Hid (∀ m, m ≤ k → ∀ j, j < m * 4 → wr.cell? ((⟨w.heap.size, 0, none⟩ : Addr).add j) = some (rc noRt (j % 4))) := fun m hm j hj => by
     obtain ⟨f, hf, hc⟩ := HL.out.row
     have h1 := hf.cell (i := j) (by omega)
     have h2 := hc (j / 4) (by omega) (j % 4) (by omega)
     rw [show j / 4 * 4 + j % 4 = j by omega] at h2
     rw [h2] at h1
     rw [add0]
     exact h1
    obtain ⟨m, hm⟩ : ∃ m, Nat.min k (n - k) = m := ⟨_, rfl⟩
    have hm' : m = Nat.min k (n - k) := hm.symm
    have hmm : m ≤ k ∧ k + m ≤ n ∧ 1 ≤ m := by have : Nat.min k (n - k) = min k (n - k) := rfl; omega
    have HMm := hid hm'
    have HS2 := hid (hsrc.out m hmm.1)
    clear hm hm' hsrc
    obtain ⟨w2, hcp, hl2, hb2⟩ := run_copy_laid (P := Tryz.prog) (w := wr.drew) 40 40 3 44 Tryz.underlying40 size4 w.heap.size n k m (n - k) (n - k) ⟨w.heap.size, 0, none⟩ k n (HL.out.below (Below.refl _ wr).drew) HMm.out hmm.2.1 (fun j hj => by have := HS2.out j hj; rw [add0] at this ⊢; exact keep (Below.refl _ wr).drew this) w.heap.size w HB.out.drew (Nat.le_refl _)
    have HL2 := hid hl2
    have HB2 := hid hb2
    clear hl2 hb2 HS2 HMm
    obtain ⟨m1, m2, m3⟩ := hmm
    go_wp2
    go_region
    all_goals
     go_wp2
     go_roundw
     case rel => exact ⟨k + m, by omega, m2, by go_num, HL2.out, HB2.out⟩
     case measure => simp [intOf]; omega
  · have e : k = n := by omega
    subst e
    go_wp2
    go_ret
    exact ⟨w.heap.size, rfl, Nat.le_refl _, HL.out, HB.out⟩
end Go.Proofs.YtaioffpkadmmhaaGreat.noRts
namespace Go.Proofs.YtaioffpkadmmhaaGreat.rtsRow
open Go.RowKit Go.Deep Go base netSem nbSem intsOwn routeRow candSem
set_option linter.unusedVariables false
def rF (zs : List Rt) (i : Nat) : Rt := zs[i]?.getD noRt
theorem flat_at (zs : List Rt) (i j : Nat) (hi : i < zs.length) (hj : j < 4) : (zs.flatMap rcs)[i * 4 + j]? = some (rc (rF zs i) j) := by
 induction zs generalizing i with
 | nil => exact absurd hi (Nat.not_lt_zero _)
 | cons a zs ih =>
  simp only [List.flatMap_cons]
  match i with
  | 0 =>
   rw [List.getElem?_append_left (by simp [rcs]; omega)]
   match j, hj with
   | 0, _ => simp [rcs, rc, rF]
   | 1, _ => simp [rcs, rc, rF]
   | 2, _ => simp [rcs, rc, rF]
   | 3, _ => simp [rcs, rc, rF]
   | j + 4, hj => exact absurd hj (by omega)
  | i + 1 =>
   rw [List.getElem?_append_right (by simp [rcs]; omega), show (i + 1) * 4 + j - (rcs a).length = i * 4 + j by simp [rcs]; omega]
   rw [ih i (by simp only [List.length_cons] at hi; omega)]
   simp [rF]
theorem rts_form {B : Nat} {w : World} {v : Value} {zs : List Rt} (h : OwnRts B w v zs) : ∃ a c, v = .slice a zs.length c ∧ RtRow w a zs.length (rF zs) := by
 obtain ⟨h1, h2⟩ := h
 rcases h2 with ⟨rfl, h0⟩ | ⟨g, cap, cur, rfl, hb, hh, hc, hm, hs, ht⟩
 · rw [h0]
   exact ⟨none, 0, rfl, by unfold maxLen; omega, fun i hi => absurd hi (Nat.not_lt_zero _)⟩
 · refine ⟨some ⟨g, 0, none⟩, cap, rfl, Nat.le_trans hc hm, fun i hi => ⟨g, 0, rfl, fun j hj => ?_⟩⟩
   have h7 := flat_at zs i j hi hj
   rw [← ht, List.getElem?_take_of_lt (by omega)] at h7
   rw [Nat.zero_add]
   simp only [World.cell?, hh]
   simpa using h7
theorem rts_row {B : Nat} {w : World} {a : Option Addr} {n c : Nat} {zs : List Rt} (h : OwnRts B w (.slice a n c) zs) : RtRow w a n (rF zs) := by
 obtain ⟨a', c', e, hr⟩ := rts_form h
 have e1 : a = a' := by injection e
 have e2 : n = zs.length := by injection e
 subst e1 e2
 exact hr
theorem rts_blocks {B : Nat} {w w1 : World} {v : Value} {zs : List Rt} (h : OwnRts B w v zs) (hb : ∀ g, v.ownBlock = some g → g < w.heap.size → w1.heap[g]? = w.heap[g]?) : OwnRts B w1 v zs := by
 obtain ⟨h1, h2⟩ := h
 refine ⟨h1, ?_⟩
 rcases h2 with h2 | ⟨g, cap, cur, rfl, hgB, hh, hn⟩
 · exact .inl h2
 · exact .inr ⟨g, cap, cur, rfl, hgB, (hb g rfl (Array.getElem?_eq_some_iff.1 hh).1).trans hh, hn⟩
theorem rts_keeps {B : Nat} {w w1 : World} {v : Value} {zs : List Rt} {row : Option Nat} (h : OwnRts B w v zs) (hg : w.grownBy w1 row) (hne : ∀ g, v.ownBlock = some g → some g ≠ row) : OwnRts B w1 v zs := rts_blocks h fun g e hgl => hg.block g hgl (hne g e)
theorem rts_lt {B g : Nat} {w : World} {v : Value} {zs : List Rt} (h : OwnRts B w v zs) (hg : v.ownBlock = some g) : B ≤ g ∧ g < w.heap.size := World.ownsRow.lt h g hg
def bst (zs : List Rt) : Rt := if zs.length = 0 then noRt else bestTo (rF zs) (zs.length - 1)
theorem bst_nil {zs : List Rt} (h : zs.length = 0) : bst zs = noRt := by unfold bst; rw [if_pos h]
theorem bst_some {zs : List Rt} (h : 0 < zs.length) : bst zs = bestTo (rF zs) (zs.length - 1) := by unfold bst; rw [if_neg (by omega)]
end Go.Proofs.YtaioffpkadmmhaaGreat.rtsRow
