/- The stable states of a drawn network are all those in which each router has the best of what it could have, each once, and the program's functions tell so; conditions: none. -/
import Derived.Test.YtaioffpkadmmhaaGreatPart28
import Derived.Test.YtaioffpkadmmhaaGreatPart33
import Derived.Test.YtaioffpkadmmhaaGreatGadgetOf
import Derived.Test.YtaioffpkadmmhaaGreatStaFace
import Derived.Test.YtaioffpkadmmhaaGreatPart48
import Derived.Test.YtaioffpkadmmhaaGreatPart27
import Derived.Test.YtaioffpkadmmhaaGreatPart49
import Derived.Deep.CutBlock
namespace Go.Proofs.YtaioffpkadmmhaaGreat.fnStable
open Go.ChangeShapes Go.WideShapes Go.ChangeAt Go.RowKit Go.Deep Go.Joins Go base copy args netSem netMath routeRow nbSem candSem candEnv intsOwn rtsRow rRows source netOf envOf lawNets prodSem rofSem ssSem settleSem sceneFault sceneFace stabImpl stabFace bestRoute bestFace rofFace nbImpl walkSem routesB stabIn walkMath stableMath gadgetOf sameRts atAny drawn drawnLin drawnSrc drawnMk hasLaw
set_option linter.unusedVariables false
theorem rr_cell {B : Nat} {w : World} {a : Option Addr} {n c : Nat} {ps : List ((Nat × Nat) × List Rt)} (h : OwnRR B w (.slice a n c) ps) {i : Nat} (hi : i < ps.length) : ∃ gb, a = some ⟨gb, 0, none⟩ ∧ w.cell? ⟨gb, i, none⟩ = some (rvR ps[i]) := by
 obtain ⟨h1, h2⟩ := h.outer
 rcases h2 with ⟨h2, h0⟩ | ⟨gb, cap, cur, e, hb, hh, hc, hm, hs, ht⟩
 · omega
 · have e1 : a = some ⟨gb, 0, none⟩ := by injection e
   refine ⟨gb, e1, ?_⟩
   have h7 : (ps.map rvR)[i]? = some (rvR ps[i]) := by rw [List.getElem?_map, List.getElem?_eq_getElem hi]; rfl
   rw [← ht, List.getElem?_take_of_lt (by omega)] at h7
   simp only [World.cell?, hh]
   simpa using h7
theorem opt_len (g : R) (nl : Nat) (o e env : List Int) (ds : List Bool) (n : Nat) (i : Int) : (optL g nl o e env ds n i).length ≤ 3 + n := by
 unfold optL
 simp only [List.length_append]
 have h1 : (ownV o i).length ≤ 1 := by unfold ownV; split <;> simp
 have h2 : (extV e env i).length ≤ 1 := by unfold extV; split <;> simp
 have h3 : (nbSem.nbL g nl ds i n).length ≤ n := by
  unfold nbSem.nbL
  rw [List.length_map]
  exact Nat.le_trans (List.length_filter_le _ _) (by simp)
 have h4 : ((if (ownV o i ++ extV e env i).length = 0 then [-3] else []) : List Int).length ≤ 1 := by split <;> simp
 rw [List.length_append] at h4
 omega
theorem states_few {g : R} {nl nx : Nat} {o e : List Int} {x : R} {env : List Int} {ds : List Bool} {n : Nat} (hn : n ≤ 4) : (statesL g nl o e x nx env ds n (prod (fun i : Nat => optL g nl o e env ds n (i : Int)) n)).length ≤ 2401 := by
 unfold statesL
 rw [List.length_map]
 refine Nat.le_trans (List.length_filter_le _ _) ?_
 have h1 := prod_size (A := fun i : Nat => optL g nl o e env ds n (i : Int)) (M := 7) n (fun i _ => Nat.le_trans (opt_len g nl o e env ds n (i : Int)) (by omega))
 refine Nat.le_trans h1 ?_
 rcases (show n = 0 ∨ n = 1 ∨ n = 2 ∨ n = 3 ∨ n = 4 by omega) with rfl | rfl | rfl | rfl | rfl <;> decide
def netF (p : Nat → Option Addr) (l c : Nat → Nat) : Nat → Value := fun i => .slice (p i) (l i) (c i)
theorem net_cells {w : World} {BX : Nat} {p : Nat → Option Addr} {l c : Nat → Nat} (h : w.rowIs BX 29 6 (netF p l c)) : World.cell? w ⟨BX, 0, none⟩ = some (.slice (p 0) (l 0) (c 0)) ∧ World.cell? w ⟨BX, 1, none⟩ = some (.slice (p 1) (l 1) (c 1)) ∧ World.cell? w ⟨BX, 2, none⟩ = some (.slice (p 2) (l 2) (c 2)) ∧ World.cell? w ⟨BX, 3, none⟩ = some (.slice (p 3) (l 3) (c 3)) ∧ World.cell? w ⟨BX, 4, none⟩ = some (.slice (p 4) (l 4) (c 4)) ∧ World.cell? w ⟨BX, 5, none⟩ = some (.slice (p 5) (l 5) (c 5)) := ⟨h.cell (i := 0) (by omega), h.cell (i := 1) (by omega), h.cell (i := 2) (by omega), h.cell (i := 3) (by omega), h.cell (i := 4) (by omega), h.cell (i := 5) (by omega)⟩
theorem cand_few (g : R) (nl : Nat) (x : R) (nx : Nat) (ds : List Bool) (rs : Rs) (n : Nat) (i : Int) : ((nbL g nl ds i n).flatMap (candOf g nl x nx rs n i)).length ≤ n := by
 have h1 : (nbL g nl ds i n).length ≤ n := by
  unfold nbL
  rw [List.length_map]
  exact Nat.le_trans (List.length_filter_le _ _) (by simp)
 have key : ∀ L : List Int, (L.flatMap (candOf g nl x nx rs n i)).length ≤ L.length := by
  intro L
  induction L with
  | nil => simp
  | cons a L ih =>
   rw [List.flatMap_cons, List.length_append, List.length_cons]
   have := candOf_len g nl x nx rs n i a
   omega
 exact Nat.le_trans (key _) h1
theorem rtsKeep {B : Nat} {w w1 : World} {v : Value} {zs : List Rt} (h : OwnRts B w v zs) (hb : Below w.heap.size w w1) : OwnRts B w1 v zs := by
 obtain ⟨h1, h2⟩ := h
 refine ⟨h1, ?_⟩
 rcases h2 with h2 | ⟨g, cap, cur, rfl, hgB, hh, hn⟩
 · exact .inl h2
 · exact .inr ⟨g, cap, cur, rfl, hgB, (hb.block g (Array.getElem?_eq_some_iff.1 hh).1).trans hh, hn⟩
set_option maxHeartbeats 12800000 in
set_option maxRecDepth 8000 in
theorem walk (aC aM : Option Addr) (lC cC lM cM : Nat) (w : World) (hC : Bytes w aC lC) (hM : Bytes w aM lM) (hlC : lC ≤ maxLen) (hlM : lM ≤ maxLen) :
  Calls Tryz.prog 3 #[.slice aC lC cC, .slice aM lM cM] w fun e w' => e = .returned (.bool true) ∧ Below w.heap.size w w' := by
 have HC := hid hC
 have HM := hid hM
 unfold maxLen at hlC hlM
 clear hC hM
 by_cases h1 : 1048576 < lC
 · have i1 : decide ((1048576 : Int) < (lC : Int)) = true := decide_eq_true (by omega)
   go_enter Tryz.func3, Tryz.ntmps3
   go_wp2
   go_ret
   exact ⟨rfl, (by repeat (first | exact Below.refl _ _ | assumption | refine Below.drew ?_ | refine Below.alloc ?_ (by first | exact Nat.le_refl _ | omega | (simp; done) | (simp; omega)) _ | refine Below.setCell ?_ (by first | exact Nat.le_refl _ | omega | (simp; done) | (simp; omega)) _))⟩
 have i1 : decide ((1048576 : Int) < (lC : Int)) = false := decide_eq_false (by omega)
 by_cases h2 : 1048576 < lM
 · have i2 : decide ((1048576 : Int) < (lM : Int)) = true := decide_eq_true (by omega)
   go_enter Tryz.func3, Tryz.ntmps3
   go_wp2
   go_ret
   exact ⟨rfl, (by repeat (first | exact Below.refl _ _ | assumption | refine Below.drew ?_ | refine Below.alloc ?_ (by first | exact Nat.le_refl _ | omega | (simp; done) | (simp; omega)) _ | refine Below.setCell ?_ (by first | exact Nat.le_refl _ | omega | (simp; done) | (simp; omega)) _))⟩
 have i2 : decide ((1048576 : Int) < (lM : Int)) = false := decide_eq_false (by omega)
 have HAt0 := hid (fun (W : World) (hb : Bytes W aM lM) => at_any 0 6 (by omega) (by omega) (by omega) aM lM cM W hb (by omega))
 have HAt1 := hid (fun (W : World) (hb : Bytes W aM lM) => at_any 1 2 (by omega) (by omega) (by omega) aM lM cM W hb (by omega))
 go_enter Tryz.func3, Tryz.ntmps3
 go_wp2_with fail
 refine (netOf_spec aC lC cC _ HC.out (by omega)).mono ?_
 rintro e' w1 ⟨p, l, c, g, o, e, x, f, rfl, hn, hnr, hnc, hb⟩
 have HN1 := hid hn
 have HNr := hid hnr
 have HNc := hid hnc
 have HB1 := hid hb
 clear hn hnr hnc hb
 unfold netV
 go_wp2_with fail
 have HA1 : Hid (Below w1.heap.size w1 (w1.alloc (.cells #[.slice (p 0) (l 0) (c 0), .slice (p 1) (l 1) (c 1), .slice (p 2) (l 2) (c 2), .slice (p 3) (l 3) (c 3), .slice (p 4) (l 4) (c 4), .slice (p 5) (l 5) (c 5)] 29))) := (by repeat (first | exact Below.refl _ _ | assumption | refine Below.drew ?_ | refine Below.alloc ?_ (by first | exact Nat.le_refl _ | omega | (simp; done) | (simp; omega)) _ | refine Below.setCell ?_ (by first | exact Nat.le_refl _ | omega | (simp; done) | (simp; omega)) _))
 have hrw : World.rowIs (w1.alloc (.cells #[.slice (p 0) (l 0) (c 0), .slice (p 1) (l 1) (c 1), .slice (p 2) (l 2) (c 2), .slice (p 3) (l 3) (c 3), .slice (p 4) (l 4) (c 4), .slice (p 5) (l 5) (c 5)] 29)) w1.heap.size 29 6 (netF p l c) := World.rowIs_alloc w1 #[.slice (p 0) (l 0) (c 0), .slice (p 1) (l 1) (c 1), .slice (p 2) (l 2) (c 2), .slice (p 3) (l 3) (c 3), .slice (p 4) (l 4) (c 4), .slice (p 5) (l 5) (c 5)] _ _ (fun i hi => by
  have h6 : i < 6 := hi
  rcases (show i = 0 ∨ i = 1 ∨ i = 2 ∨ i = 3 ∨ i = 4 ∨ i = 5 by omega) with rfl | rfl | rfl | rfl | rfl | rfl <;> rfl)
 obtain ⟨BX, hBX⟩ : ∃ q, w1.heap.size = q := ⟨_, rfl⟩
 have hBl : w.heap.size ≤ BX := by rw [← hBX]; exact HB1.out.size
 have HRw := hid hrw
 clear hrw
 generalize w1.alloc (.cells #[.slice (p 0) (l 0) (c 0), .slice (p 1) (l 1) (c 1), .slice (p 2) (l 2) (c 2), .slice (p 3) (l 3) (c 3), .slice (p 4) (l 4) (c 4), .slice (p 5) (l 5) (c 5)] 29) = w2 at *
 rw [hBX] at HRw HA1 ⊢
 have HB2 : Hid (Below w.heap.size w w2) := hid (HB1.out.trans (HA1.out.mono hBl))
 have HN2 : Hid (NetIs w2 p l sN g o e x f) := hid (HN1.out.below (by rw [hBX]; exact HA1.out))
 clear HA1 HN1 HB1 hBX
 refine (HAt0.out _ (bytes_below HM.out HB2.out)).mono ?_
 rintro e' w3 ⟨r0, rfl, hr0, hb3⟩
 have HB3 := hid (HB2.out.trans (hb3.mono HB2.out.size))
 have HN3 := hid (HN2.out.below hb3)
 have HRw3 := hid (HRw.out.of_block (hb3.block _ HRw.out.lt))
 clear hb3 HN2 HRw HB2 HAt0
 go_upto_if 37 with fail
 go_cut [] from 27 to 234 (fun wc => ∃ (p : Nat → Option Addr) (l c : Nat → Nat) (g : R) (o e : List Int) (x f : R), netB l sN g o e x f = true ∧ (l 0 ≤ c 0 ∧ l 1 ≤ c 1) ∧ NetIs wc p l sN g o e x f ∧ wc.rowIs BX 29 6 (netF p l c) ∧ Below w.heap.size w wc)
 case first =>
  by_cases hz : r0 = 0
  · have d0 : ((r0 : Int) == 0) = true := by simp [hz]
    go_wp2_with fail
    refine (HAt1.out _ (bytes_below HM.out HB3.out)).mono ?_
    rintro e' w4 ⟨r1, rfl, hr1, hb4⟩
    have HB4 := hid (HB3.out.trans (hb4.mono HB3.out.size))
    have HRw4 := hid (HRw3.out.of_block (hb4.block _ HRw3.out.lt))
    clear hb4
    go_wp2_with fail
    refine (gadgetOf_spec r1 hr1 _).mono ?_
    rintro e' w5 ⟨p', l', c', g', o', e'', x', f', rfl, hn', hnr', hnc', hb5⟩
    have hrw5 := HRw4.out.of_block (hb5.block _ HRw4.out.lt)
    have hBX4 := HRw4.out.lt
    have HB5 := hid (HB4.out.trans (hb5.mono HB4.out.size))
    have y0 : World.cell? w5 ⟨BX, 0, none⟩ = some (.slice (p 0) (l 0) (c 0)) := hrw5.cell (i := 0) (by omega)
    have z0 := hrw5.frozen 0
    have y1 : World.cell? w5 ⟨BX, 1, none⟩ = some (.slice (p 1) (l 1) (c 1)) := hrw5.cell (i := 1) (by omega)
    have z1 := hrw5.frozen 1
    have y2 : World.cell? w5 ⟨BX, 2, none⟩ = some (.slice (p 2) (l 2) (c 2)) := hrw5.cell (i := 2) (by omega)
    have z2 := hrw5.frozen 2
    have y3 : World.cell? w5 ⟨BX, 3, none⟩ = some (.slice (p 3) (l 3) (c 3)) := hrw5.cell (i := 3) (by omega)
    have z3 := hrw5.frozen 3
    have y4 : World.cell? w5 ⟨BX, 4, none⟩ = some (.slice (p 4) (l 4) (c 4)) := hrw5.cell (i := 4) (by omega)
    have z4 := hrw5.frozen 4
    have y5 : World.cell? w5 ⟨BX, 5, none⟩ = some (.slice (p 5) (l 5) (c 5)) := hrw5.cell (i := 5) (by omega)
    have z5 := hrw5.frozen 5
    have HRw5 := hid hrw5
    have HN5 := hid hn'
    have HNr5 := hid hnr'
    have HNc5 := hid hnc'
    clear hb5 hrw5 hn' hnr' hnc'
    unfold netV
    go_wp2_with fail
    go_meet
    refine ⟨p', l', c', g', o', e'', x', f', HNr5.out, HNc5.out, HN5.out _ (fun q h1 h2 => ?_), (((((((HRw5.out.set 0 _).set 1 _).set 2 _).set 3 _).set 4 _).set 5 _).congr (fun i hi => by rcases (show i = 0 ∨ i = 1 ∨ i = 2 ∨ i = 3 ∨ i = 4 ∨ i = 5 by omega) with rfl | rfl | rfl | rfl | rfl | rfl <;> rfl)), ?_⟩
    · have hq : ∀ (W : World) (o : Nat) (v : Value), (W.setCell ⟨BX, o, none⟩ v).heap[q]? = W.heap[q]? := fun W o v => Below.heap_setCell _ _ _ _ (by dsimp only; omega)
      rw [hq, hq, hq, hq, hq, hq]
    · exact ((((((HB5.out.setCell hBl _).setCell hBl _).setCell hBl _).setCell hBl _).setCell hBl _).setCell hBl _)
  · have d0 : ((r0 : Int) == 0) = false := by simp [hz]
    go_wp2_with fail
    go_meet
    exact ⟨p, l, c, g, o, e, x, f, HNr.out, HNc.out, HN3.out, HRw3.out, HB3.out⟩
 case rest =>
  clear HN3 HRw3 HB3 HNr HNc
  clear p l c g o e x f
  obtain ⟨p, l, c, g, o, e, x, f, hnr, hnc, hn, hrw, hb⟩ := hcut
  obtain ⟨hl0, hl1, hl3, hcost⟩ := net_small hnr
  have HNr := hid hnr
  have HNc := hid hnc
  have HN := hid hn
  have HRw := hid hrw
  have HB := hid hb
  have HCo := hid hcost
  clear hn hnr hnc hrw hb hcost
  have HEv := hid (fun (W : World) (hb : Bytes W aM lM) => envOf_spec aM lM cM p l c W hb (by omega) (by omega))
  have HDn := hid (fun (W : World) (hb : Bytes W aM lM) => downOf_spec aM lM cM p l c W hb (by omega) (by omega))
  unfold netV at HEv HDn
  obtain ⟨w2, hw2⟩ : ∃ q, wc = q := ⟨_, rfl⟩
  rw [hw2] at HN HRw HB ⊢
  clear hw2
  have HK : Hid (∀ w8 : World, Below w2.heap.size w2 w8 → (World.cell? w8 ⟨BX, 0, none⟩ = some (.slice (p 0) (l 0) (c 0)) ∧ World.cell? w8 ⟨BX, 1, none⟩ = some (.slice (p 1) (l 1) (c 1)) ∧ World.cell? w8 ⟨BX, 2, none⟩ = some (.slice (p 2) (l 2) (c 2)) ∧ World.cell? w8 ⟨BX, 3, none⟩ = some (.slice (p 3) (l 3) (c 3)) ∧ World.cell? w8 ⟨BX, 4, none⟩ = some (.slice (p 4) (l 4) (c 4)) ∧ World.cell? w8 ⟨BX, 5, none⟩ = some (.slice (p 5) (l 5) (c 5))) ∧ NetIs w8 p l sN g o e x f ∧ Below w.heap.size w w8 ∧ BX < w8.heap.size) := hid (fun w8 h => by
   have hr8 := HRw.out.of_block (h.block _ HRw.out.lt)
   exact ⟨net_cells hr8, HN.out.below h, HB.out.trans (h.mono HB.out.size), hr8.lt⟩)
  obtain ⟨⟨q0, q1, q2, q3, q4, q5⟩, -, hBw, hz⟩ := HK.out w2 (Below.refl _ _)
  clear HN HRw
  go_wp2_with fail
  refine (HEv.out _ (bytes_below HM.out HB.out)).mono ?_
  rintro e' w3' ⟨v3, env, rfl, ho3, hel, hez, hb3⟩
  obtain ⟨ea, ec, rfl, hrow3⟩ := OwnInts.form ho3
  have HEr := hid hrow3
  have HEl := hid hel
  have HEz := hid hez
  have HB3 := hid hb3
  clear ho3 hrow3 hel hez hb3 hBw hz
  clear q0 q1 q2 q3 q4 q5
  obtain ⟨⟨q0, q1, q2, q3, q4, q5⟩, -, hB, hz⟩ := HK.out w3' HB3.out
  have BW := hid hB
  clear hB
  go_wp2_with fail
  refine (HDn.out _ (bytes_below HM.out BW.out)).mono ?_
  rintro e' w4 ⟨v4, ds, rfl, ho4, hdl, -, hb4⟩
  obtain ⟨da, dc, rfl, hrow4⟩ := OwnBools.form ho4
  have HDr := hid hrow4
  have HDl := hid hdl
  have HEr4 := hid (HEr.out.below hb4)
  have HB4 := hid (HB3.out.trans (hb4.mono HB3.out.size))
  clear ho4 hrow4 hdl hb4 HEr HB3 HEv HDn BW hz HB
  clear q0 q1 q2 q3 q4 q5
  obtain ⟨en, hen⟩ : ∃ n, env.length = n := ⟨_, rfl⟩
  obtain ⟨dn, hdn⟩ : ∃ n, ds.length = n := ⟨_, rfl⟩
  have HD0 : Hid (envC (netB l sN g o e x f) en dn (l 3) (l 1) env = 0) := hid (by
   rw [HNr.out, ← hen, ← hdn, ← HEl.out, ← HDl.out]
   exact env_good HEz.out (by rw [HEl.out]; omega) (by rw [HDl.out]; omega))
  have HEp := hid (env_pos HEz.out)
  rw [hen] at HEr4 HEl
  rw [hdn] at HDr HDl
  rw [hen, hdn]
  have HNet : Hid (∀ W : World, Below w4.heap.size w4 W → NetIs W p l sN g o e x f ∧ IntRow W ea en env ∧ BoolRow W da dn ds) := hid (fun W hb => ⟨(HK.out W (HB4.out.trans (hb.mono HB4.out.size))).2.1, HEr4.out.below hb, HDr.out.below hb⟩)
  have HSI : Hid (∀ W : World, Below w4.heap.size w4 W → Calls Tryz.prog 9 #[.agg #[.slice (p 0) (l 0) (c 0), .slice (p 1) (l 1) (c 1), .slice (p 2) (l 2) (c 2), .slice (p 3) (l 3) (c 3), .slice (p 4) (l 4) (c 4), .slice (p 5) (l 5) (c 5)], .slice ea en ec, .slice da dn dc] W fun e' w' => ∃ v ps, e' = .returned (.tuple #[v, .int .i64 0]) ∧ OwnRR W.heap.size w' v ps ∧ ps.map Prod.snd = staFace.ssL 0 g (l 1) o e x (l 4) env ds (l 0) ∧ Below W.heap.size W w') := hid (fun W hb => by
   have := staFace.ss_impl p l c sN g o e x f ea da en ec dn dc env ds W (HNet.out W hb).1 HNc.out.1 HNc.out.2 (HNet.out W hb).2.1 (HNet.out W hb).2.2
   rw [HD0.out] at this
   exact this)
  have HSS : Hid (∀ W : World, Below w4.heap.size w4 W → Calls Tryz.prog 10 #[.agg #[.slice (p 0) (l 0) (c 0), .slice (p 1) (l 1) (c 1), .slice (p 2) (l 2) (c 2), .slice (p 3) (l 3) (c 3), .slice (p 4) (l 4) (c 4), .slice (p 5) (l 5) (c 5)], .slice ea en ec, .slice da dn dc] W fun e' w' => ∃ v ps, e' = .returned (.tuple #[v, .int .i64 0]) ∧ OwnRR W.heap.size w' v ps ∧ ps.map Prod.snd = staFace.ssL 0 g (l 1) o e x (l 4) env ds (l 0) ∧ Below W.heap.size W w') := hid (fun W hb => by
   have := staFace.ss_spec p l c sN g o e x f ea da en ec dn dc env ds W (HNet.out W hb).1 HNc.out.1 HNc.out.2 (HNet.out W hb).2.1 (HNet.out W hb).2.2
   rw [HD0.out] at this
   exact this)
  have HSt : Hid (∀ zs ∈ staFace.ssL 0 g (l 1) o e x (l 4) env ds (l 0), zs.length = l 0 ∧ stabB g (l 1) o e x (l 4) env ds (rF zs) (l 0) = true ∧ routesB g (l 1) (l 0) (l 0) (rF zs) = true ∧ ∀ i, i < l 0 → 0 ≤ (rF zs i).len) := hid (fun zs hz => by
   unfold staFace.ssL at hz
   rw [if_pos rfl] at hz
   obtain ⟨k1, vs, k2⟩ := state_fine HNr.out HEp.out hz
   refine ⟨k1, state_stab hl0.1 hz, k2.right, fun i hi => ?_⟩
   have h9 := k2.right
   unfold routesB at h9
   rw [Bool.and_eq_true] at h9
   have h8 := allN_iff.1 h9.2 i hi
   unfold routeB inB at h8
   simp only [Bool.and_eq_true, decide_eq_true_eq] at h8
   exact h8.1.1.2.1)
  have HFw : Hid ((staFace.ssL 0 g (l 1) o e x (l 4) env ds (l 0)).length ≤ 2401 ∧ (staFace.ssL 0 g (l 1) o e x (l 4) env ds (l 0)).Pairwise (· ≠ ·)) := hid (by
   unfold staFace.ssL
   rw [if_pos rfl]
   exact ⟨states_few hl0.2, states_nodup⟩)
  obtain ⟨SL, hSL⟩ : ∃ q, staFace.ssL 0 g (l 1) o e x (l 4) env ds (l 0) = q := ⟨_, rfl⟩
  rw [hSL] at HSI HSS HSt HFw
  clear hSL hen hdn HEz HEr4 HDr
  obtain ⟨⟨q0, q1, q2, q3, q4, q5⟩, -, -, hz⟩ := HK.out w4 HB4.out
  go_wp2_with fail
  refine (HSI.out _ (Below.refl _ _)).mono ?_
  rintro e' w5 ⟨v5, ps, rfl, ho5, hps, hb5⟩
  have HB5 := hid hb5
  obtain ⟨a5, c5, rfl⟩ := ho5.form
  have HO5 := hid ho5
  have HPs := hid hps
  clear ho5 hb5 hz hps HSI
  clear q0 q1 q2 q3 q4 q5
  obtain ⟨⟨q0, q1, q2, q3, q4, q5⟩, -, -, hz⟩ := HK.out w5 (HB4.out.trans (HB5.out.mono HB4.out.size))
  go_wp2_with fail
  refine (HSS.out _ HB5.out).mono ?_
  rintro e' w6 ⟨v6, qs, rfl, ho6, hqs, hb6⟩
  have HB6 := hid (HB5.out.trans (hb6.mono HB5.out.size))
  obtain ⟨a6, c6, rfl⟩ := ho6.form
  have HO6 := hid ho6
  have HO56 := hid (HO5.out.below hb6)
  have HQs := hid hqs
  have hlq : qs.length = ps.length := by
   have h1 : ps.length = SL.length := by rw [← HPs.out, List.length_map]
   have h2 : qs.length = SL.length := by rw [← hqs, List.length_map]
   omega
  have hnp24 : ps.length ≤ 2401 := by
   have : ps.length = SL.length := by rw [← HPs.out, List.length_map]
   rw [this]; exact HFw.out.1
  clear ho6 hb6 hz hqs HSS HO5
  clear q0 q1 q2 q3 q4 q5
  obtain ⟨np, hnp⟩ : ∃ n, ps.length = n := ⟨_, rfl⟩
  have HNp := hid hnp
  have HNq : Hid (qs.length = np) := hid (hlq.trans hnp)
  rw [hlq, hnp] at HO6
  rw [hnp] at HO56 hnp24
  rw [hlq, hnp]
  clear hnp hlq
  have dnn : ((np : Int) != (np : Int)) = false := by simp
  go_wp2_with fail
  go_loopw [12] (fun i wr => ∃ k : Nat, k ≤ np ∧ i = .int .i64 k ∧ Below w6.heap.size w6 wr) (fun i _ => np - (intOf i).toNat)
  case atStart => exact ⟨0, Nat.zero_le _, rfl, Below.refl _ _⟩
  case round =>
   obtain ⟨k, hk, rfl, hbel⟩ := hrel
   have HBl := hid hbel
   have H4 := hid (HB6.out.trans (hbel.mono HB6.out.size))
   have H2r := hid (HB4.out.trans (H4.out.mono HB4.out.size))
   clear hbel
   by_cases hlt : k < np
   · have hlt' : k < ps.length := by rw [HNp.out]; exact hlt
     have hltq : k < qs.length := by rw [HNq.out]; exact hlt
     obtain ⟨gb, rfl, -⟩ := rr_cell HO56.out hlt'
     obtain ⟨gd, rfl, -⟩ := rr_cell HO6.out hltq
     have hmem : ps[k].2 ∈ SL := by rw [← HPs.out]; exact List.mem_map.2 ⟨_, List.getElem_mem hlt', rfl⟩
     have hsame : qs[k].2 = ps[k].2 := by
      have h1 : (ps.map Prod.snd)[k]? = (qs.map Prod.snd)[k]? := by rw [HPs.out, HQs.out]
      rw [List.getElem?_map, List.getElem?_map, List.getElem?_eq_getElem hlt', List.getElem?_eq_getElem hltq] at h1
      simpa using h1.symm
     have hprev : ∀ (hk0 : 0 < k) (hkp : k - 1 < ps.length), ps[k - 1].2 ≠ ps[k].2 := fun hk0 hkp e9 => by
      have h1 := HFw.out.2
      rw [← HPs.out, List.pairwise_map] at h1
      exact List.pairwise_iff_getElem.1 h1 (k - 1) k hkp hlt' (by omega) e9
     have HZ : Hid (∀ W : World, Below w6.heap.size w6 W → (W.cell? ⟨gb, k, none⟩ = some (rvR ps[k]) ∧ OwnRts w4.heap.size W (rvR ps[k]) ps[k].2) ∧ W.cell? ⟨gd, k, none⟩ = some (rvR qs[k]) ∧ OwnRts w5.heap.size W (rvR qs[k]) qs[k].2) := hid (fun W hb => by
      obtain ⟨gb', eg, hc⟩ := rr_cell (HO56.out.below hb) hlt'
      have e1 : gb = gb' := by injection eg with eg; injection eg
      subst e1
      obtain ⟨gd', eg', hc'⟩ := rr_cell (HO6.out.below hb) hltq
      have e2 : gd = gd' := by injection eg' with eg'; injection eg'
      subst e2
      exact ⟨⟨hc, (HO56.out.below hb).inner ps[k] (List.getElem_mem hlt')⟩, hc', (HO6.out.below hb).inner qs[k] (List.getElem_mem hltq)⟩)
     have HZp : Hid (∀ (hk0 : 0 < k) (hkp : k - 1 < ps.length) (W : World), Below w6.heap.size w6 W → W.cell? ⟨gb, k - 1, none⟩ = some (rvR ps[k - 1]) ∧ OwnRts w4.heap.size W (rvR ps[k - 1]) ps[k - 1].2) := hid (fun hk0 hkp W hb => by
      obtain ⟨gb', eg, hc⟩ := rr_cell (HO56.out.below hb) hkp
      have e1 : gb = gb' := by injection eg with eg; injection eg
      subst e1
      exact ⟨hc, (HO56.out.below hb).inner ps[k - 1] (List.getElem_mem hkp)⟩)
     obtain ⟨hzl, hst, hrb, hlen⟩ := HSt.out _ hmem
     have HPl : Hid (∀ hkp : k - 1 < ps.length, ps[k - 1].2.length = l 0) := hid (fun hkp => (HSt.out _ (by rw [← HPs.out]; exact List.mem_map.2 ⟨_, List.getElem_mem hkp, rfl⟩)).1)
     rw [hsame] at HZ
     obtain ⟨q, hq⟩ : ∃ q, ps[k] = q := ⟨_, rfl⟩
     obtain ⟨qq, hqq⟩ : ∃ q, qs[k] = q := ⟨_, rfl⟩
     have hql : qq.2 = q.2 := by rw [← hqq, ← hq]; exact hsame
     have HPr : Hid (∀ (hk0 : 0 < k) (hkp : k - 1 < ps.length), ps[k - 1].2 ≠ q.2) := hid (by rw [← hq]; exact hprev)
     rw [hq] at HZ hzl hst hrb hlen
     rw [hqq] at HZ
     clear hq hqq hsame hmem hprev
     obtain ⟨⟨ga, gc⟩, zs⟩ := q
     obtain ⟨⟨ge, gf⟩, zs'⟩ := qq
     dsimp only at hql
     subst hql
     unfold rvR at HZ
     dsimp only at HZ hzl hst hrb hlen
     obtain ⟨nR, hnR⟩ : ∃ n, zs'.length = n := ⟨_, rfl⟩
     rw [hnR] at HZ hzl
     have HnR := hid hzl
     have HzR := hid hnR
     have HS := hid hst
     have HRb := hid hrb
     have HLe := hid hlen
     have hn4 : nR ≤ 4 := by omega
     clear hst hrb hlen hnR hzl
     have HZ2 : Hid (∀ W : World, Below w6.heap.size w6 W → W.cell? ⟨gb, k, none⟩ = some (.slice (some ⟨ga, 0, none⟩) nR gc) ∧ RtRow W (some ⟨ga, 0, none⟩) nR (rF zs') ∧ W.cell? ⟨gd, k, none⟩ = some (.slice (some ⟨ge, 0, none⟩) nR gf) ∧ RtRow W (some ⟨ge, 0, none⟩) nR (rF zs')) := hid (fun W hb => ⟨(HZ.out W hb).1.1, rts_row (HZ.out W hb).1.2, (HZ.out W hb).2.1, rts_row (HZ.out W hb).2.2⟩)
     have HSa : Hid (sameTo (rF zs') (rF zs') nR = true) := hid (same_yes fun _ _ => rfl)
     clear HZ
     go_upto_region 15 with fail
     go_cut [101] from 70 to 234 (fun s101 wx => s101 = .bool false ∧ Below wr.heap.size wr wx)
     case first => as_aux_lemma =>
      have hgbl : gb < w6.heap.size := World.block_lt_of_cell? _ _ (HZ2.out w6 (Below.refl _ _)).1
      by_cases hk0 : 0 < k
      · have dk0 : decide ((0 : Int) < (k : Int)) = true := decide_eq_true (by omega)
        have dk0' : decide (0 < k) = true := decide_eq_true hk0
        obtain ⟨kp, hkp⟩ : ∃ kp : Nat, k = kp + 1 := ⟨k - 1, by omega⟩
        have ekp : (k : Int) - 1 = (kp : Int) := by omega
        have hkl : k - 1 < ps.length := by rw [HNp.out]; omega
        have HZ3 := hid (HZp.out hk0 hkl)
        have hpl := HPl.out hkl
        have hpr := HPr.out hk0 hkl
        obtain ⟨qp, hqp⟩ : ∃ q, ps[k - 1] = q := ⟨_, rfl⟩
        rw [hqp] at HZ3 hpl hpr
        rw [show k - 1 = kp by omega] at HZ3
        clear hqp
        obtain ⟨⟨gp, gq⟩, zp⟩ := qp
        unfold rvR at HZ3
        dsimp only at HZ3 hpl hpr
        have hpn : zp.length = nR := by rw [hpl, HnR.out]
        rw [hpn] at HZ3
        have HZq : Hid (∀ W : World, Below w6.heap.size w6 W → W.cell? ⟨gb, kp, none⟩ = some (.slice (some ⟨gp, 0, none⟩) nR gq) ∧ RtRow W (some ⟨gp, 0, none⟩) nR (rF zp)) := hid (fun W hb => ⟨(HZ3.out W hb).1, rts_row (HZ3.out W hb).2⟩)
        have HSp : Hid (sameTo (rF zs') (rF zp) nR = false) := hid (by
         have h9 := (same_list (zs := zs') (zs' := zp) (by rw [HzR.out, hpn])).2 (fun e9 => hpr e9.symm)
         rw [HzR.out] at h9
         exact h9)
        have hkpi : (kp : Int) < (np : Int) := by omega
        clear HZ3 hpl hpr hpn hkl hkp
        refine region_calm (fun uu => ⟨#[.slice aC lC cC, .slice aM lM cM, undef, undef, u4, .pointer (some ⟨BX, 0, none⟩), .slice ea en ec, .slice da dn dc, .slice (some ⟨gb, 0, none⟩) np c5, .int .i64 0, .slice (some ⟨gd, 0, none⟩) np c6, .int .i64 0, .int .i64 ↑k, u13, u14, u15, u16, u17, u18, u19, u20, u21, u22, u23, u24, .slice aC lC cC, .int .i64 ↑lC, u27, u28, u29, u30, u31, u32, u33, u34, u35, u36, u37, u38, u39, u40, .slice aM lM cM, .agg #[.slice (p 0) (l 0) (c 0), .slice (p 1) (l 1) (c 1), .slice (p 2) (l 2) (c 2), .slice (p 3) (l 3) (c 3), .slice (p 4) (l 4) (c 4), .slice (p 5) (l 5) (c 5)], .slice ea en ec, .slice aM lM cM, .agg #[.slice (p 0) (l 0) (c 0), .slice (p 1) (l 1) (c 1), .slice (p 2) (l 2) (c 2), .slice (p 3) (l 3) (c 3), .slice (p 4) (l 4) (c 4), .slice (p 5) (l 5) (c 5)], .slice da dn dc, .tuple #[.slice (some ⟨gb, 0, none⟩) np c5, .int .i64 0], .agg #[.slice (p 0) (l 0) (c 0), .slice (p 1) (l 1) (c 1), .slice (p 2) (l 2) (c 2), .slice (p 3) (l 3) (c 3), .slice (p 4) (l 4) (c 4), .slice (p 5) (l 5) (c 5)], .slice ea en ec, .slice da dn dc, .tuple #[.slice (some ⟨gb, 0, none⟩) np c5, .int .i64 0], .slice (some ⟨gb, 0, none⟩) np c5, .int .i64 0, .tuple #[.slice (some ⟨gd, 0, none⟩) np c6, .int .i64 0], .agg #[.slice (p 0) (l 0) (c 0), .slice (p 1) (l 1) (c 1), .slice (p 2) (l 2) (c 2), .slice (p 3) (l 3) (c 3), .slice (p 4) (l 4) (c 4), .slice (p 5) (l 5) (c 5)], .slice ea en ec, .slice da dn dc, .tuple #[.slice (some ⟨gd, 0, none⟩) np c6, .int .i64 0], .slice (some ⟨gd, 0, none⟩) np c6, .int .i64 0, .int .i64 0, .bool false, .bool false, .slice (some ⟨gb, 0, none⟩) np c5, .int .i64 ↑np, .slice (some ⟨gd, 0, none⟩) np c6, .int .i64 ↑np, .bool false, .bool false, .int .i64 ↑k, .slice (some ⟨gb, 0, none⟩) np c5, .int .i64 ↑np, .bool true, u74, u75, uu 76, uu 77, uu 78, uu 79, uu 80, uu 81, uu 82, uu 83, uu 84, uu 85, uu 86, uu 87, uu 88, uu 89, uu 90, uu 91, uu 92, uu 93, uu 94, uu 95, uu 96, uu 97, uu 98, uu 99, uu 100, uu 101, u102, u103, u104, u105, u106, u107, u108, u109, u110, u111, u112, u113, u114, u115, u116, u117, u118, u119, u120, u121, u122, u123, u124, u125, u126, u127, u128, u129, u130, u131, u132, u133, u134, u135, u136, u137, u138, u139, u140, u141, u142, u143, u144, u145, u146, u147, u148, u149, u150, u151, u152, u153, u154, u155, u156, u157, u158, u159, u160, u161, u162, u163, u164, u165, u166, u167, u168, u169, u170, u171, u172, u173, u174, u175, u176, u177, u178, u179, u180, u181, u182, u183, u184, u185, u186, u187, u188, u189, u190, u191, u192, u193, u194, u195, u196, u197, u198, u199, u200, u201, u202, u203, u204, u205, u206, u207, u208, u209, u210, u211, u212, u213, u214, u215, u216, u217, u218, u219, u220, u221, u222, u223, u224, u225, u226, u227, u228, u229, u230, u231, u232, u233, u234], []⟩) (fun i => [76, 77, 78, 79, 80, 81, 82, 83, 84, 85, 86, 87, 88, 89, 90, 91, 92, 93, 94, 95, 96, 97, 98, 99, 100, 101].getD i 0) (fun i v w8 => match i with | 0 => v = .slice (some ⟨gb, 0, none⟩) np c5 | 1 => v = .int .i64 (k : Int) | 2 => v = .pointer (some ⟨gb, k, none⟩) | 3 => v = .slice (some ⟨ga, 0, none⟩) nR gc | 4 => v = .slice (some ⟨gd, 0, none⟩) np c6 | 5 => v = .int .i64 (k : Int) | 6 => v = .pointer (some ⟨gd, k, none⟩) | 7 => v = .slice (some ⟨ge, 0, none⟩) nR gf | 8 => v = .bool true | 9 => v = .bool false | 10 => v = .bool false | 11 => v = .int .i64 (k : Int) | 12 => v = .bool true | 13 => v = .bool true | 14 => v = .slice (some ⟨gb, 0, none⟩) np c5 | 15 => v = .int .i64 (k : Int) | 16 => v = .pointer (some ⟨gb, k, none⟩) | 17 => v = .slice (some ⟨ga, 0, none⟩) nR gc | 18 => v = .slice (some ⟨gb, 0, none⟩) np c5 | 19 => v = .int .i64 (k : Int) | 20 => v = .int .i64 (kp : Int) | 21 => v = .pointer (some ⟨gb, kp, none⟩) | 22 => v = .slice (some ⟨gp, 0, none⟩) nR gq | 23 => v = .bool false | 24 => v = .bool false | 25 => v = .bool false | _ => True) wr 26 (fun k => match k with | 76 => u76 | 77 => u77 | 78 => u78 | 79 => u79 | 80 => u80 | 81 => u81 | 82 => u82 | 83 => u83 | 84 => u84 | 85 => u85 | 86 => u86 | 87 => u87 | 88 => u88 | 89 => u89 | 90 => u90 | 91 => u91 | 92 => u92 | 93 => u93 | 94 => u94 | 95 => u95 | 96 => u96 | 97 => u97 | 98 => u98 | 99 => u99 | 100 => u100 | 101 => u101 | _ => undef) (by rfl) (by kernel_rfl) (by rfl) (by kernel_rfl) (Below.refl _ _) ?hput ?hinj ?stable ?step ?fin
        case hput =>
         intro i hi uu v
         match i, hi with
         | 0, _ => rfl
         | 1, _ => rfl
         | 2, _ => rfl
         | 3, _ => rfl
         | 4, _ => rfl
         | 5, _ => rfl
         | 6, _ => rfl
         | 7, _ => rfl
         | 8, _ => rfl
         | 9, _ => rfl
         | 10, _ => rfl
         | 11, _ => rfl
         | 12, _ => rfl
         | 13, _ => rfl
         | 14, _ => rfl
         | 15, _ => rfl
         | 16, _ => rfl
         | 17, _ => rfl
         | 18, _ => rfl
         | 19, _ => rfl
         | 20, _ => rfl
         | 21, _ => rfl
         | 22, _ => rfl
         | 23, _ => rfl
         | 24, _ => rfl
         | 25, _ => rfl
         | i + 26, hi => exact absurd hi (by omega)
        case hinj =>
         intro i j hi hj h
         exact slots_inj [76, 77, 78, 79, 80, 81, 82, 83, 84, 85, 86, 87, 88, 89, 90, 91, 92, 93, 94, 95, 96, 97, 98, 99, 100, 101] (by decide) hi hj h
        case stable =>
         intro i v w8 w9 hb h
         match i, hb, h with
         | 0, hb, h => exact h
         | 1, hb, h => exact h
         | 2, hb, h => exact h
         | 3, hb, h => exact h
         | 4, hb, h => exact h
         | 5, hb, h => exact h
         | 6, hb, h => exact h
         | 7, hb, h => exact h
         | 8, hb, h => exact h
         | 9, hb, h => exact h
         | 10, hb, h => exact h
         | 11, hb, h => exact h
         | 12, hb, h => exact h
         | 13, hb, h => exact h
         | 14, hb, h => exact h
         | 15, hb, h => exact h
         | 16, hb, h => exact h
         | 17, hb, h => exact h
         | 18, hb, h => exact h
         | 19, hb, h => exact h
         | 20, hb, h => exact h
         | 21, hb, h => exact h
         | 22, hb, h => exact h
         | 23, hb, h => exact h
         | 24, hb, h => exact h
         | 25, hb, h => exact h
         | _ + 26, hb, h => trivial
        case step =>
         intro i hi uu w8 S8 hdep
         match i, hi, hdep with
         | 0, _, hdep =>
          clear hdep
          refine ⟨_, rfl, fun K' hK => ?_⟩
          go_simp
          exact hK.out _ _ (Below.refl _ _) (rfl)
         | 1, _, hdep =>
          clear hdep
          refine ⟨_, rfl, fun K' hK => ?_⟩
          go_simp
          exact hK.out _ _ (Below.refl _ _) (rfl)
         | 2, _, hdep =>
          have h0 : (uu 76) = .slice (some ⟨gb, 0, none⟩) np c5 := hdep 0 (by kernel_rfl)
          have h1 : (uu 77) = .int .i64 (k : Int) := hdep 1 (by kernel_rfl)
          clear hdep
          refine ⟨_, rfl, fun K' hK => ?_⟩
          simp only [h0, h1] at hK ⊢
          go_simp
          exact hK.out _ _ (Below.refl _ _) (rfl)
         | 3, _, hdep =>
          have h2 : (uu 78) = .pointer (some ⟨gb, k, none⟩) := hdep 2 (by kernel_rfl)
          clear hdep
          refine ⟨_, rfl, fun K' hK => ?_⟩
          obtain ⟨hcx, hrx, hcy, hry⟩ := HZ2.out w8 (HBl.out.trans (S8.mono HBl.out.size))
          simp only [h2] at hK ⊢
          go_simp
          exact hK.out _ _ (Below.refl _ _) (rfl)
         | 4, _, hdep =>
          clear hdep
          refine ⟨_, rfl, fun K' hK => ?_⟩
          go_simp
          exact hK.out _ _ (Below.refl _ _) (rfl)
         | 5, _, hdep =>
          clear hdep
          refine ⟨_, rfl, fun K' hK => ?_⟩
          go_simp
          exact hK.out _ _ (Below.refl _ _) (rfl)
         | 6, _, hdep =>
          have h4 : (uu 80) = .slice (some ⟨gd, 0, none⟩) np c6 := hdep 4 (by kernel_rfl)
          have h5 : (uu 81) = .int .i64 (k : Int) := hdep 5 (by kernel_rfl)
          clear hdep
          refine ⟨_, rfl, fun K' hK => ?_⟩
          simp only [h4, h5] at hK ⊢
          go_simp
          exact hK.out _ _ (Below.refl _ _) (rfl)
         | 7, _, hdep =>
          have h6 : (uu 82) = .pointer (some ⟨gd, k, none⟩) := hdep 6 (by kernel_rfl)
          clear hdep
          refine ⟨_, rfl, fun K' hK => ?_⟩
          obtain ⟨hcx, hrx, hcy, hry⟩ := HZ2.out w8 (HBl.out.trans (S8.mono HBl.out.size))
          simp only [h6] at hK ⊢
          go_simp
          exact hK.out _ _ (Below.refl _ _) (rfl)
         | 8, _, hdep =>
          have h3 : (uu 79) = .slice (some ⟨ga, 0, none⟩) nR gc := hdep 3 (by kernel_rfl)
          have h7 : (uu 83) = .slice (some ⟨ge, 0, none⟩) nR gf := hdep 7 (by kernel_rfl)
          clear hdep
          refine ⟨_, rfl, fun K' hK => ?_⟩
          simp only [h3, h7] at hK ⊢
          go_simp
          obtain ⟨hcx, hrx, hcy, hry⟩ := HZ2.out w8 (HBl.out.trans (S8.mono HBl.out.size))
          refine (same_rts (some ⟨ga, 0, none⟩) (some ⟨ge, 0, none⟩) nR gc gf (rF zs') (rF zs') _ hrx hry).mono ?_
          rintro e9 w9 ⟨rfl, hb9⟩
          (try rw [HSa.out])
          (try rw [HSp.out])
          exact hK.out _ _ hb9 rfl
         | 9, _, hdep =>
          have h8 : (uu 84) = .bool true := hdep 8 (by kernel_rfl)
          clear hdep
          refine ⟨_, rfl, fun K' hK => ?_⟩
          simp only [h8] at hK ⊢
          go_simp
          exact hK.out _ _ (Below.refl _ _) (rfl)
         | 10, _, hdep =>
          have h9 : (uu 85) = .bool false := hdep 9 (by kernel_rfl)
          clear hdep
          refine ⟨_, rfl, fun K' hK => ?_⟩
          simp only [h9] at hK ⊢
          go_simp
          exact hK.out _ _ (Below.refl _ _) (rfl)
         | 11, _, hdep =>
          have h10 : (uu 86) = .bool false := hdep 10 (by kernel_rfl)
          clear hdep
          refine ⟨_, rfl, fun K' hK => ?_⟩
          simp only [h10] at hK ⊢
          go_simp
          exact hK.out _ _ (Below.refl _ _) (rfl)
         | 12, _, hdep =>
          have h10 : (uu 86) = .bool false := hdep 10 (by kernel_rfl)
          have h11 : (uu 87) = .int .i64 (k : Int) := hdep 11 (by kernel_rfl)
          clear hdep
          refine ⟨_, rfl, fun K' hK => ?_⟩
          simp only [h10, h11] at hK ⊢
          go_simp
          exact hK.out _ _ (Below.refl _ _) (rfl)
         | 13, _, hdep =>
          have h10 : (uu 86) = .bool false := hdep 10 (by kernel_rfl)
          have h12 : (uu 88) = .bool true := hdep 12 (by kernel_rfl)
          clear hdep
          refine ⟨_, rfl, fun K' hK => ?_⟩
          simp only [h10, h12] at hK ⊢
          go_simp
          exact hK.out _ _ (Below.refl _ _) (rfl)
         | 14, _, hdep =>
          have h13 : (uu 89) = .bool true := hdep 13 (by kernel_rfl)
          clear hdep
          refine ⟨_, rfl, fun K' hK => ?_⟩
          simp only [h13] at hK ⊢
          go_simp
          exact hK.out _ _ (Below.refl _ _) (rfl)
         | 15, _, hdep =>
          have h13 : (uu 89) = .bool true := hdep 13 (by kernel_rfl)
          clear hdep
          refine ⟨_, rfl, fun K' hK => ?_⟩
          simp only [h13] at hK ⊢
          go_simp
          exact hK.out _ _ (Below.refl _ _) (rfl)
         | 16, _, hdep =>
          have h13 : (uu 89) = .bool true := hdep 13 (by kernel_rfl)
          have h14 : (uu 90) = .slice (some ⟨gb, 0, none⟩) np c5 := hdep 14 (by kernel_rfl)
          have h15 : (uu 91) = .int .i64 (k : Int) := hdep 15 (by kernel_rfl)
          clear hdep
          refine ⟨_, rfl, fun K' hK => ?_⟩
          simp only [h13, h14, h15] at hK ⊢
          go_simp
          exact hK.out _ _ (Below.refl _ _) (rfl)
         | 17, _, hdep =>
          have h13 : (uu 89) = .bool true := hdep 13 (by kernel_rfl)
          have h16 : (uu 92) = .pointer (some ⟨gb, k, none⟩) := hdep 16 (by kernel_rfl)
          clear hdep
          refine ⟨_, rfl, fun K' hK => ?_⟩
          obtain ⟨hcx, hrx, hcy, hry⟩ := HZ2.out w8 (HBl.out.trans (S8.mono HBl.out.size))
          simp only [h13, h16] at hK ⊢
          go_simp
          exact hK.out _ _ (Below.refl _ _) (rfl)
         | 18, _, hdep =>
          have h13 : (uu 89) = .bool true := hdep 13 (by kernel_rfl)
          clear hdep
          refine ⟨_, rfl, fun K' hK => ?_⟩
          simp only [h13] at hK ⊢
          go_simp
          exact hK.out _ _ (Below.refl _ _) (rfl)
         | 19, _, hdep =>
          have h13 : (uu 89) = .bool true := hdep 13 (by kernel_rfl)
          clear hdep
          refine ⟨_, rfl, fun K' hK => ?_⟩
          simp only [h13] at hK ⊢
          go_simp
          exact hK.out _ _ (Below.refl _ _) (rfl)
         | 20, _, hdep =>
          have h13 : (uu 89) = .bool true := hdep 13 (by kernel_rfl)
          have h19 : (uu 95) = .int .i64 (k : Int) := hdep 19 (by kernel_rfl)
          clear hdep
          refine ⟨_, rfl, fun K' hK => ?_⟩
          have hwk : IntKind.i64.wrap (kp : Int) = (kp : Int) := by rw [IntKind.wrap_i64]; omega
          simp only [h13, h19] at hK ⊢
          go_simp
          (try rw [hwk])
          exact hK.out _ _ (Below.refl _ _) (rfl)
         | 21, _, hdep =>
          have h13 : (uu 89) = .bool true := hdep 13 (by kernel_rfl)
          have h18 : (uu 94) = .slice (some ⟨gb, 0, none⟩) np c5 := hdep 18 (by kernel_rfl)
          have h20 : (uu 96) = .int .i64 (kp : Int) := hdep 20 (by kernel_rfl)
          clear hdep
          refine ⟨_, rfl, fun K' hK => ?_⟩
          simp only [h13, h18, h20] at hK ⊢
          go_simp
          exact hK.out _ _ (Below.refl _ _) (rfl)
         | 22, _, hdep =>
          have h13 : (uu 89) = .bool true := hdep 13 (by kernel_rfl)
          have h21 : (uu 97) = .pointer (some ⟨gb, kp, none⟩) := hdep 21 (by kernel_rfl)
          clear hdep
          refine ⟨_, rfl, fun K' hK => ?_⟩
          obtain ⟨hcp, hrp⟩ := HZq.out w8 (HBl.out.trans (S8.mono HBl.out.size))
          simp only [h13, h21] at hK ⊢
          go_simp
          exact hK.out _ _ (Below.refl _ _) (rfl)
         | 23, _, hdep =>
          have h13 : (uu 89) = .bool true := hdep 13 (by kernel_rfl)
          have h17 : (uu 93) = .slice (some ⟨ga, 0, none⟩) nR gc := hdep 17 (by kernel_rfl)
          have h22 : (uu 98) = .slice (some ⟨gp, 0, none⟩) nR gq := hdep 22 (by kernel_rfl)
          clear hdep
          refine ⟨_, rfl, fun K' hK => ?_⟩
          simp only [h13, h17, h22] at hK ⊢
          go_simp
          obtain ⟨hcx, hrx, hcy, hry⟩ := HZ2.out w8 (HBl.out.trans (S8.mono HBl.out.size))
          obtain ⟨hcp, hrp⟩ := HZq.out w8 (HBl.out.trans (S8.mono HBl.out.size))
          refine (same_rts (some ⟨ga, 0, none⟩) (some ⟨gp, 0, none⟩) nR gc gq (rF zs') (rF zp) _ hrx hrp).mono ?_
          rintro e9 w9 ⟨rfl, hb9⟩
          (try rw [HSa.out])
          (try rw [HSp.out])
          exact hK.out _ _ hb9 rfl
         | 24, _, hdep =>
          have h10 : (uu 86) = .bool false := hdep 10 (by kernel_rfl)
          have h13 : (uu 89) = .bool true := hdep 13 (by kernel_rfl)
          have h23 : (uu 99) = .bool false := hdep 23 (by kernel_rfl)
          clear hdep
          refine ⟨_, rfl, fun K' hK => ?_⟩
          simp only [h10, h13, h23] at hK ⊢
          go_simp
          exact hK.out _ _ (Below.refl _ _) (rfl)
         | 25, _, hdep =>
          have h10 : (uu 86) = .bool false := hdep 10 (by kernel_rfl)
          have h24 : (uu 100) = .bool false := hdep 24 (by kernel_rfl)
          clear hdep
          refine ⟨_, rfl, fun K' hK => ?_⟩
          simp only [h10, h24] at hK ⊢
          go_simp
          exact hK.out _ _ (Below.refl _ _) (rfl)
         | i + 26, hi, _ => exact absurd hi (by omega)
        case fin =>
         intro uu wf S8 hall
         have h25 : (uu 101) = .bool false := hall 25 (by decide)
         clear hall
         simp only [h25]
         have HBf := hid S8
         clear S8 h25
         (try simp only [Exit.then])
         go_wp2_with fail
         go_meet
         exact ⟨rfl, HBf.out⟩
      · have dk0 : decide ((0 : Int) < (k : Int)) = false := decide_eq_false (by omega)
        have dk0' : decide (0 < k) = false := decide_eq_false hk0
        have HSp := HSa
        refine region_calm (fun uu => ⟨#[.slice aC lC cC, .slice aM lM cM, undef, undef, u4, .pointer (some ⟨BX, 0, none⟩), .slice ea en ec, .slice da dn dc, .slice (some ⟨gb, 0, none⟩) np c5, .int .i64 0, .slice (some ⟨gd, 0, none⟩) np c6, .int .i64 0, .int .i64 ↑k, u13, u14, u15, u16, u17, u18, u19, u20, u21, u22, u23, u24, .slice aC lC cC, .int .i64 ↑lC, u27, u28, u29, u30, u31, u32, u33, u34, u35, u36, u37, u38, u39, u40, .slice aM lM cM, .agg #[.slice (p 0) (l 0) (c 0), .slice (p 1) (l 1) (c 1), .slice (p 2) (l 2) (c 2), .slice (p 3) (l 3) (c 3), .slice (p 4) (l 4) (c 4), .slice (p 5) (l 5) (c 5)], .slice ea en ec, .slice aM lM cM, .agg #[.slice (p 0) (l 0) (c 0), .slice (p 1) (l 1) (c 1), .slice (p 2) (l 2) (c 2), .slice (p 3) (l 3) (c 3), .slice (p 4) (l 4) (c 4), .slice (p 5) (l 5) (c 5)], .slice da dn dc, .tuple #[.slice (some ⟨gb, 0, none⟩) np c5, .int .i64 0], .agg #[.slice (p 0) (l 0) (c 0), .slice (p 1) (l 1) (c 1), .slice (p 2) (l 2) (c 2), .slice (p 3) (l 3) (c 3), .slice (p 4) (l 4) (c 4), .slice (p 5) (l 5) (c 5)], .slice ea en ec, .slice da dn dc, .tuple #[.slice (some ⟨gb, 0, none⟩) np c5, .int .i64 0], .slice (some ⟨gb, 0, none⟩) np c5, .int .i64 0, .tuple #[.slice (some ⟨gd, 0, none⟩) np c6, .int .i64 0], .agg #[.slice (p 0) (l 0) (c 0), .slice (p 1) (l 1) (c 1), .slice (p 2) (l 2) (c 2), .slice (p 3) (l 3) (c 3), .slice (p 4) (l 4) (c 4), .slice (p 5) (l 5) (c 5)], .slice ea en ec, .slice da dn dc, .tuple #[.slice (some ⟨gd, 0, none⟩) np c6, .int .i64 0], .slice (some ⟨gd, 0, none⟩) np c6, .int .i64 0, .int .i64 0, .bool false, .bool false, .slice (some ⟨gb, 0, none⟩) np c5, .int .i64 ↑np, .slice (some ⟨gd, 0, none⟩) np c6, .int .i64 ↑np, .bool false, .bool false, .int .i64 ↑k, .slice (some ⟨gb, 0, none⟩) np c5, .int .i64 ↑np, .bool true, u74, u75, uu 76, uu 77, uu 78, uu 79, uu 80, uu 81, uu 82, uu 83, uu 84, uu 85, uu 86, uu 87, uu 88, uu 89, uu 90, uu 91, uu 92, uu 93, uu 94, uu 95, uu 96, uu 97, uu 98, uu 99, uu 100, uu 101, u102, u103, u104, u105, u106, u107, u108, u109, u110, u111, u112, u113, u114, u115, u116, u117, u118, u119, u120, u121, u122, u123, u124, u125, u126, u127, u128, u129, u130, u131, u132, u133, u134, u135, u136, u137, u138, u139, u140, u141, u142, u143, u144, u145, u146, u147, u148, u149, u150, u151, u152, u153, u154, u155, u156, u157, u158, u159, u160, u161, u162, u163, u164, u165, u166, u167, u168, u169, u170, u171, u172, u173, u174, u175, u176, u177, u178, u179, u180, u181, u182, u183, u184, u185, u186, u187, u188, u189, u190, u191, u192, u193, u194, u195, u196, u197, u198, u199, u200, u201, u202, u203, u204, u205, u206, u207, u208, u209, u210, u211, u212, u213, u214, u215, u216, u217, u218, u219, u220, u221, u222, u223, u224, u225, u226, u227, u228, u229, u230, u231, u232, u233, u234], []⟩) (fun i => [76, 77, 78, 79, 80, 81, 82, 83, 84, 85, 86, 87, 88, 89, 90, 91, 92, 93, 94, 95, 96, 97, 98, 99, 100, 101].getD i 0) (fun i v w8 => match i with | 0 => v = .slice (some ⟨gb, 0, none⟩) np c5 | 1 => v = .int .i64 (k : Int) | 2 => v = .pointer (some ⟨gb, k, none⟩) | 3 => v = .slice (some ⟨ga, 0, none⟩) nR gc | 4 => v = .slice (some ⟨gd, 0, none⟩) np c6 | 5 => v = .int .i64 (k : Int) | 6 => v = .pointer (some ⟨gd, k, none⟩) | 7 => v = .slice (some ⟨ge, 0, none⟩) nR gf | 8 => v = .bool true | 9 => v = .bool false | 10 => v = .bool false | 11 => v = .int .i64 (k : Int) | 12 => v = .bool false | 13 => v = .bool false | 14 => v = undef | 15 => v = undef | 16 => v = undef | 17 => v = undef | 18 => v = undef | 19 => v = undef | 20 => v = undef | 21 => v = undef | 22 => v = undef | 23 => v = undef | 24 => v = .bool false | 25 => v = .bool false | _ => True) wr 26 (fun k => match k with | 76 => u76 | 77 => u77 | 78 => u78 | 79 => u79 | 80 => u80 | 81 => u81 | 82 => u82 | 83 => u83 | 84 => u84 | 85 => u85 | 86 => u86 | 87 => u87 | 88 => u88 | 89 => u89 | 90 => u90 | 91 => u91 | 92 => u92 | 93 => u93 | 94 => u94 | 95 => u95 | 96 => u96 | 97 => u97 | 98 => u98 | 99 => u99 | 100 => u100 | 101 => u101 | _ => undef) (by rfl) (by kernel_rfl) (by rfl) (by kernel_rfl) (Below.refl _ _) ?hput ?hinj ?stable ?step ?fin
        case hput =>
         intro i hi uu v
         match i, hi with
         | 0, _ => rfl
         | 1, _ => rfl
         | 2, _ => rfl
         | 3, _ => rfl
         | 4, _ => rfl
         | 5, _ => rfl
         | 6, _ => rfl
         | 7, _ => rfl
         | 8, _ => rfl
         | 9, _ => rfl
         | 10, _ => rfl
         | 11, _ => rfl
         | 12, _ => rfl
         | 13, _ => rfl
         | 14, _ => rfl
         | 15, _ => rfl
         | 16, _ => rfl
         | 17, _ => rfl
         | 18, _ => rfl
         | 19, _ => rfl
         | 20, _ => rfl
         | 21, _ => rfl
         | 22, _ => rfl
         | 23, _ => rfl
         | 24, _ => rfl
         | 25, _ => rfl
         | i + 26, hi => exact absurd hi (by omega)
        case hinj =>
         intro i j hi hj h
         exact slots_inj [76, 77, 78, 79, 80, 81, 82, 83, 84, 85, 86, 87, 88, 89, 90, 91, 92, 93, 94, 95, 96, 97, 98, 99, 100, 101] (by decide) hi hj h
        case stable =>
         intro i v w8 w9 hb h
         match i, hb, h with
         | 0, hb, h => exact h
         | 1, hb, h => exact h
         | 2, hb, h => exact h
         | 3, hb, h => exact h
         | 4, hb, h => exact h
         | 5, hb, h => exact h
         | 6, hb, h => exact h
         | 7, hb, h => exact h
         | 8, hb, h => exact h
         | 9, hb, h => exact h
         | 10, hb, h => exact h
         | 11, hb, h => exact h
         | 12, hb, h => exact h
         | 13, hb, h => exact h
         | 14, hb, h => exact h
         | 15, hb, h => exact h
         | 16, hb, h => exact h
         | 17, hb, h => exact h
         | 18, hb, h => exact h
         | 19, hb, h => exact h
         | 20, hb, h => exact h
         | 21, hb, h => exact h
         | 22, hb, h => exact h
         | 23, hb, h => exact h
         | 24, hb, h => exact h
         | 25, hb, h => exact h
         | _ + 26, hb, h => trivial
        case step =>
         intro i hi uu w8 S8 hdep
         match i, hi, hdep with
         | 0, _, hdep =>
          clear hdep
          refine ⟨_, rfl, fun K' hK => ?_⟩
          go_simp
          exact hK.out _ _ (Below.refl _ _) (rfl)
         | 1, _, hdep =>
          clear hdep
          refine ⟨_, rfl, fun K' hK => ?_⟩
          go_simp
          exact hK.out _ _ (Below.refl _ _) (rfl)
         | 2, _, hdep =>
          have h0 : (uu 76) = .slice (some ⟨gb, 0, none⟩) np c5 := hdep 0 (by kernel_rfl)
          have h1 : (uu 77) = .int .i64 (k : Int) := hdep 1 (by kernel_rfl)
          clear hdep
          refine ⟨_, rfl, fun K' hK => ?_⟩
          simp only [h0, h1] at hK ⊢
          go_simp
          exact hK.out _ _ (Below.refl _ _) (rfl)
         | 3, _, hdep =>
          have h2 : (uu 78) = .pointer (some ⟨gb, k, none⟩) := hdep 2 (by kernel_rfl)
          clear hdep
          refine ⟨_, rfl, fun K' hK => ?_⟩
          obtain ⟨hcx, hrx, hcy, hry⟩ := HZ2.out w8 (HBl.out.trans (S8.mono HBl.out.size))
          simp only [h2] at hK ⊢
          go_simp
          exact hK.out _ _ (Below.refl _ _) (rfl)
         | 4, _, hdep =>
          clear hdep
          refine ⟨_, rfl, fun K' hK => ?_⟩
          go_simp
          exact hK.out _ _ (Below.refl _ _) (rfl)
         | 5, _, hdep =>
          clear hdep
          refine ⟨_, rfl, fun K' hK => ?_⟩
          go_simp
          exact hK.out _ _ (Below.refl _ _) (rfl)
         | 6, _, hdep =>
          have h4 : (uu 80) = .slice (some ⟨gd, 0, none⟩) np c6 := hdep 4 (by kernel_rfl)
          have h5 : (uu 81) = .int .i64 (k : Int) := hdep 5 (by kernel_rfl)
          clear hdep
          refine ⟨_, rfl, fun K' hK => ?_⟩
          simp only [h4, h5] at hK ⊢
          go_simp
          exact hK.out _ _ (Below.refl _ _) (rfl)
         | 7, _, hdep =>
          have h6 : (uu 82) = .pointer (some ⟨gd, k, none⟩) := hdep 6 (by kernel_rfl)
          clear hdep
          refine ⟨_, rfl, fun K' hK => ?_⟩
          obtain ⟨hcx, hrx, hcy, hry⟩ := HZ2.out w8 (HBl.out.trans (S8.mono HBl.out.size))
          simp only [h6] at hK ⊢
          go_simp
          exact hK.out _ _ (Below.refl _ _) (rfl)
         | 8, _, hdep =>
          have h3 : (uu 79) = .slice (some ⟨ga, 0, none⟩) nR gc := hdep 3 (by kernel_rfl)
          have h7 : (uu 83) = .slice (some ⟨ge, 0, none⟩) nR gf := hdep 7 (by kernel_rfl)
          clear hdep
          refine ⟨_, rfl, fun K' hK => ?_⟩
          simp only [h3, h7] at hK ⊢
          go_simp
          obtain ⟨hcx, hrx, hcy, hry⟩ := HZ2.out w8 (HBl.out.trans (S8.mono HBl.out.size))
          refine (same_rts (some ⟨ga, 0, none⟩) (some ⟨ge, 0, none⟩) nR gc gf (rF zs') (rF zs') _ hrx hry).mono ?_
          rintro e9 w9 ⟨rfl, hb9⟩
          (try rw [HSa.out])
          (try rw [HSp.out])
          exact hK.out _ _ hb9 rfl
         | 9, _, hdep =>
          have h8 : (uu 84) = .bool true := hdep 8 (by kernel_rfl)
          clear hdep
          refine ⟨_, rfl, fun K' hK => ?_⟩
          simp only [h8] at hK ⊢
          go_simp
          exact hK.out _ _ (Below.refl _ _) (rfl)
         | 10, _, hdep =>
          have h9 : (uu 85) = .bool false := hdep 9 (by kernel_rfl)
          clear hdep
          refine ⟨_, rfl, fun K' hK => ?_⟩
          simp only [h9] at hK ⊢
          go_simp
          exact hK.out _ _ (Below.refl _ _) (rfl)
         | 11, _, hdep =>
          have h10 : (uu 86) = .bool false := hdep 10 (by kernel_rfl)
          clear hdep
          refine ⟨_, rfl, fun K' hK => ?_⟩
          simp only [h10] at hK ⊢
          go_simp
          exact hK.out _ _ (Below.refl _ _) (rfl)
         | 12, _, hdep =>
          have h10 : (uu 86) = .bool false := hdep 10 (by kernel_rfl)
          have h11 : (uu 87) = .int .i64 (k : Int) := hdep 11 (by kernel_rfl)
          clear hdep
          refine ⟨_, rfl, fun K' hK => ?_⟩
          simp only [h10, h11] at hK ⊢
          go_simp
          exact hK.out _ _ (Below.refl _ _) (rfl)
         | 13, _, hdep =>
          have h10 : (uu 86) = .bool false := hdep 10 (by kernel_rfl)
          have h12 : (uu 88) = .bool false := hdep 12 (by kernel_rfl)
          clear hdep
          refine ⟨_, rfl, fun K' hK => ?_⟩
          simp only [h10, h12] at hK ⊢
          go_simp
          exact hK.out _ _ (Below.refl _ _) (rfl)
         | 14, _, hdep =>
          have h13 : (uu 89) = .bool false := hdep 13 (by kernel_rfl)
          clear hdep
          refine ⟨_, rfl, fun K' hK => ?_⟩
          simp only [h13] at hK ⊢
          go_simp
          exact hK.out _ _ (Below.refl _ _) (rfl)
         | 15, _, hdep =>
          have h13 : (uu 89) = .bool false := hdep 13 (by kernel_rfl)
          clear hdep
          refine ⟨_, rfl, fun K' hK => ?_⟩
          simp only [h13] at hK ⊢
          go_simp
          exact hK.out _ _ (Below.refl _ _) (rfl)
         | 16, _, hdep =>
          have h13 : (uu 89) = .bool false := hdep 13 (by kernel_rfl)
          clear hdep
          refine ⟨_, rfl, fun K' hK => ?_⟩
          simp only [h13] at hK ⊢
          go_simp
          exact hK.out _ _ (Below.refl _ _) (rfl)
         | 17, _, hdep =>
          have h13 : (uu 89) = .bool false := hdep 13 (by kernel_rfl)
          clear hdep
          refine ⟨_, rfl, fun K' hK => ?_⟩
          simp only [h13] at hK ⊢
          go_simp
          exact hK.out _ _ (Below.refl _ _) (rfl)
         | 18, _, hdep =>
          have h13 : (uu 89) = .bool false := hdep 13 (by kernel_rfl)
          clear hdep
          refine ⟨_, rfl, fun K' hK => ?_⟩
          simp only [h13] at hK ⊢
          go_simp
          exact hK.out _ _ (Below.refl _ _) (rfl)
         | 19, _, hdep =>
          have h13 : (uu 89) = .bool false := hdep 13 (by kernel_rfl)
          clear hdep
          refine ⟨_, rfl, fun K' hK => ?_⟩
          simp only [h13] at hK ⊢
          go_simp
          exact hK.out _ _ (Below.refl _ _) (rfl)
         | 20, _, hdep =>
          have h13 : (uu 89) = .bool false := hdep 13 (by kernel_rfl)
          clear hdep
          refine ⟨_, rfl, fun K' hK => ?_⟩
          simp only [h13] at hK ⊢
          go_simp
          exact hK.out _ _ (Below.refl _ _) (rfl)
         | 21, _, hdep =>
          have h13 : (uu 89) = .bool false := hdep 13 (by kernel_rfl)
          clear hdep
          refine ⟨_, rfl, fun K' hK => ?_⟩
          simp only [h13] at hK ⊢
          go_simp
          exact hK.out _ _ (Below.refl _ _) (rfl)
         | 22, _, hdep =>
          have h13 : (uu 89) = .bool false := hdep 13 (by kernel_rfl)
          clear hdep
          refine ⟨_, rfl, fun K' hK => ?_⟩
          simp only [h13] at hK ⊢
          go_simp
          exact hK.out _ _ (Below.refl _ _) (rfl)
         | 23, _, hdep =>
          have h13 : (uu 89) = .bool false := hdep 13 (by kernel_rfl)
          clear hdep
          refine ⟨_, rfl, fun K' hK => ?_⟩
          simp only [h13] at hK ⊢
          go_simp
          exact hK.out _ _ (Below.refl _ _) (rfl)
         | 24, _, hdep =>
          have h10 : (uu 86) = .bool false := hdep 10 (by kernel_rfl)
          have h13 : (uu 89) = .bool false := hdep 13 (by kernel_rfl)
          have h23 : (uu 99) = undef := hdep 23 (by kernel_rfl)
          clear hdep
          refine ⟨_, rfl, fun K' hK => ?_⟩
          simp only [h10, h13, h23] at hK ⊢
          go_simp
          exact hK.out _ _ (Below.refl _ _) (rfl)
         | 25, _, hdep =>
          have h10 : (uu 86) = .bool false := hdep 10 (by kernel_rfl)
          have h24 : (uu 100) = .bool false := hdep 24 (by kernel_rfl)
          clear hdep
          refine ⟨_, rfl, fun K' hK => ?_⟩
          simp only [h10, h24] at hK ⊢
          go_simp
          exact hK.out _ _ (Below.refl _ _) (rfl)
         | i + 26, hi, _ => exact absurd hi (by omega)
        case fin =>
         intro uu wf S8 hall
         have h25 : (uu 101) = .bool false := hall 25 (by decide)
         clear hall
         simp only [h25]
         have HBf := hid S8
         clear S8 h25
         (try simp only [Exit.then])
         go_wp2_with fail
         go_meet
         exact ⟨rfl, HBf.out⟩
     case rest =>
      obtain ⟨rfl, hbx⟩ := hcut
      have HBx := hid (HBl.out.trans (hbx.mono HBl.out.size))
      clear hbx HZp HPr HPl HBl H4 H2r
      have HN6 : Hid (∀ W : World, Below w6.heap.size w6 W → (World.cell? W ⟨BX, 0, none⟩ = some (.slice (p 0) (l 0) (c 0)) ∧ World.cell? W ⟨BX, 1, none⟩ = some (.slice (p 1) (l 1) (c 1)) ∧ World.cell? W ⟨BX, 2, none⟩ = some (.slice (p 2) (l 2) (c 2)) ∧ World.cell? W ⟨BX, 3, none⟩ = some (.slice (p 3) (l 3) (c 3)) ∧ World.cell? W ⟨BX, 4, none⟩ = some (.slice (p 4) (l 4) (c 4)) ∧ World.cell? W ⟨BX, 5, none⟩ = some (.slice (p 5) (l 5) (c 5))) ∧ NetIs W p l sN g o e x f ∧ IntRow W ea en env ∧ BoolRow W da dn ds ∧ BX < W.heap.size) := hid (fun W hb => by
       have h4 := HB6.out.trans (hb.mono HB6.out.size)
       have h2 := HK.out W (HB4.out.trans (h4.mono HB4.out.size))
       exact ⟨h2.1, (HNet.out W h4).1, (HNet.out W h4).2.1, (HNet.out W h4).2.2, h2.2.2.2⟩)
      have HRt : Hid (rtC (netB l sN g o e x f) (routesB g (l 1) (l 0) nR (rF zs')) en dn nR (l 3) (l 1) env = 0) := hid (by
       have h9 := HD0.out
       have hs1 : en ≤ 4096 := by have := HEl.out; omega
       have hs2 : dn ≤ 4096 := by have := HDl.out; omega
       unfold envC at h9
       rw [if_neg (by omega)] at h9
       unfold rtC arC
       rw [if_neg (by omega), h9, if_pos rfl, HnR.out, HRb.out, if_pos rfl])
      have HIs : Hid (∀ W : World, Below w6.heap.size w6 W → Calls Tryz.prog 12 #[.agg #[.slice (p 0) (l 0) (c 0), .slice (p 1) (l 1) (c 1), .slice (p 2) (l 2) (c 2), .slice (p 3) (l 3) (c 3), .slice (p 4) (l 4) (c 4), .slice (p 5) (l 5) (c 5)], .slice ea en ec, .slice da dn dc, .slice (some ⟨ga, 0, none⟩) nR gc] W fun e' w' => e' = .returned (.tuple #[.bool true, .int .i64 0]) ∧ Below W.heap.size W w') := hid (fun W hb => by
       obtain ⟨-, n1, n2, n3, -⟩ := HN6.out W hb
       have := isStable_impl p l c sN g o e x f ea da (some ⟨ga, 0, none⟩) en ec dn dc nR gc env ds (rF zs') W n1 HNc.out.1 HNc.out.2 n2 n3 (HZ2.out W hb).2.1
       rw [HRt.out, HS.out] at this
       exact this)
      have HCa : Hid (∀ (W : World) (j : Nat), j < nR → Below w6.heap.size w6 W → Calls Tryz.prog 13 #[.agg #[.slice (p 0) (l 0) (c 0), .slice (p 1) (l 1) (c 1), .slice (p 2) (l 2) (c 2), .slice (p 3) (l 3) (c 3), .slice (p 4) (l 4) (c 4), .slice (p 5) (l 5) (c 5)], .int .i64 (j : Int), .slice ea en ec, .slice da dn dc, .slice (some ⟨ga, 0, none⟩) nR gc] W fun e' w' => ∃ v, e' = .returned (.tuple #[v, .int .i64 0]) ∧ OwnRts W.heap.size w' v (candL g (l 1) o e x (l 4) env ds (rF zs') (l 0) (j : Int)) ∧ Below W.heap.size W w') := hid (fun W j hj hb => by
       obtain ⟨-, n1, n2, n3, -⟩ := HN6.out W hb
       have hcc : candC (netB l sN g o e x f) (routesB g (l 1) (l 0) nR (rF zs')) en dn nR (l 0) (l 3) (l 1) env (j : Int) = 0 := by
        unfold candC
        rw [HRt.out, if_pos rfl, if_pos (show inB (j : Int) 0 ((l 0 : Int) - 1) = true from decide_eq_true (by have := HnR.out; omega))]
       have := candidates_impl p l c sN g o e x f (j : Int) ea da (some ⟨ga, 0, none⟩) en ec dn dc nR gc env ds (rF zs') W n1 HNc.out.1 HNc.out.2 n2 n3 (HZ2.out W hb).2.1
       rw [hcc, if_pos rfl] at this
       exact this)
      have HNb : Hid (∀ (W : World) (j : Nat), j < nR → Below w6.heap.size w6 W → Calls Tryz.prog 15 #[.agg #[.slice (p 0) (l 0) (c 0), .slice (p 1) (l 1) (c 1), .slice (p 2) (l 2) (c 2), .slice (p 3) (l 3) (c 3), .slice (p 4) (l 4) (c 4), .slice (p 5) (l 5) (c 5)], .int .i64 (j : Int), .slice da dn dc] W fun e' w' => ∃ v, e' = .returned (.tuple #[v, .int .i64 0]) ∧ OwnInts W.heap.size w' v (nbL g (l 1) ds (j : Int) (l 0)) ∧ Below W.heap.size W w') := hid (fun W j hj hb => by
       obtain ⟨-, n1, n2, n3, -⟩ := HN6.out W hb
       have hcc : nbC (netB l sN g o e x f) (l 0) (l 1) dn (j : Int) = 0 := by
        have h7 := HDl.out
        have h8 := HnR.out
        unfold nbC inB
        rw [HNr.out, if_neg (by omega), if_neg (by decide), if_neg ?_]
        rw [decide_eq_true (show 0 ≤ (j : Int) ∧ (j : Int) ≤ (l 0 : Int) - 1 by omega)]
        simp
        exact h7
       have := neighbours_impl p l c sN g o e x f (j : Int) da dn dc ds W n1 HNc.out.1 HNc.out.2 n3
       unfold nbA at this
       rw [hcc, if_pos rfl] at this
       exact this)
      have HRo : Hid (∀ (W : World) (va : Option Addr) (vc : Nat), IntRow W va nR (viaL (rF zs') nR) → Below w6.heap.size w6 W → Calls Tryz.prog 17 #[.agg #[.slice (p 0) (l 0) (c 0), .slice (p 1) (l 1) (c 1), .slice (p 2) (l 2) (c 2), .slice (p 3) (l 3) (c 3), .slice (p 4) (l 4) (c 4), .slice (p 5) (l 5) (c 5)], .slice ea en ec, .slice da dn dc, .slice va nR vc] W fun e' w' => ∃ v, e' = .returned (.tuple #[v, .int .i64 0]) ∧ OwnRts W.heap.size w' v zs' ∧ Below W.heap.size W w') := hid (fun W va vc hv hb => by
       obtain ⟨-, n1, n2, n3, -⟩ := HN6.out W hb
       have hnl := HnR.out
       rw [hnl] at hv
       obtain ⟨r1, r2⟩ := rof_state hl0.1 hl0.2 HEp.out HCo.out HLe.out HS.out
       have hvs : vsB (viaL (rF zs') (l 0)) (l 0) (l 0) = true := by
        unfold vsB
        rw [decide_eq_true rfl, Bool.true_and]
        refine allN_of fun i hi => ?_
        rw [via_at _ hi]
        have := stab_via hl0.1 HS.out hi
        exact decide_eq_true (by omega)
       have hfl : fltC (netB l sN g o e x f) en dn (l 0) (l 3) (l 1) env = 0 := by unfold fltC; rw [if_neg (by omega)]; exact HD0.out
       have hcc : rofC (fltC (netB l sN g o e x f) en dn (l 0) (l 3) (l 1) env) (vsB (viaL (rF zs') (l 0)) (l 0) (l 0)) (okV g (l 1) o e x (l 4) env ds (viaL (rF zs') (l 0)) (l 0)) = 0 := by
        rw [hfl, hvs, r1]; rfl
       have hzs : (List.range (l 0)).map (valR g (l 1) o e x (l 4) env ds (viaL (rF zs') (l 0)) (l 0)) = zs' := by
        refine rF_list (by simp; rw [HzR.out, hnl]) (fun i hi => ?_)
        have hi' : i < l 0 := by simpa using hi
        unfold rF
        rw [List.getElem?_map, List.getElem?_range hi']
        exact r2 i hi'
       have := rout_impl p l c sN g o e x f ea da va en ec dn dc (l 0) vc env ds (viaL (rF zs') (l 0)) W n1 HNc.out.1 HNc.out.2 n2 n3 hv
       rw [hcc, if_pos rfl, hzs, ← hnl] at this
       exact this)
      have HBs : Hid (∀ j, j < nR → (candL g (l 1) o e x (l 4) env ds (rF zs') (l 0) (j : Int) = [] → (rF zs' j).via = -3) ∧ (candL g (l 1) o e x (l 4) env ds (rF zs') (l 0) (j : Int) ≠ [] → bestTo (rF (candL g (l 1) o e x (l 4) env ds (rF zs') (l 0) (j : Int))) ((candL g (l 1) o e x (l 4) env ds (rF zs') (l 0) (j : Int)).length - 1) = rF zs' j) ∧ (0 ≤ (rF zs' j).via → (rF zs' j).via ∈ nbL g (l 1) ds (j : Int) (l 0))) := hid (fun j hj => by
       have hj' : j < l 0 := by rw [← HnR.out]; exact hj
       exact ⟨(best_state HS.out hj').1, (best_state HS.out hj').2, via_nb HS.out hj'⟩)
      clear HRt HRb HS HLe
      obtain ⟨⟨q0, q1, q2, q3, q4, q5⟩, -, -, -, hz⟩ := HN6.out _ HBx.out
      go_upto_region 17 with fail
      refine region_calm (fun uu => ⟨#[.slice aC lC cC, .slice aM lM cM, undef, undef, u4, .pointer (some ⟨BX, 0, none⟩), .slice ea en ec, .slice da dn dc, .slice (some ⟨gb, 0, none⟩) np c5, .int .i64 0, .slice (some ⟨gd, 0, none⟩) np c6, .int .i64 0, .int .i64 ↑k, uu 13, uu 14, u15, u16, u17, u18, u19, u20, u21, u22, u23, u24, .slice aC lC cC, .int .i64 ↑lC, u27, u28, u29, u30, u31, u32, u33, u34, u35, u36, u37, u38, u39, u40, .slice aM lM cM, .agg #[.slice (p 0) (l 0) (c 0), .slice (p 1) (l 1) (c 1), .slice (p 2) (l 2) (c 2), .slice (p 3) (l 3) (c 3), .slice (p 4) (l 4) (c 4), .slice (p 5) (l 5) (c 5)], .slice ea en ec, .slice aM lM cM, .agg #[.slice (p 0) (l 0) (c 0), .slice (p 1) (l 1) (c 1), .slice (p 2) (l 2) (c 2), .slice (p 3) (l 3) (c 3), .slice (p 4) (l 4) (c 4), .slice (p 5) (l 5) (c 5)], .slice da dn dc, .tuple #[.slice (some ⟨gb, 0, none⟩) np c5, .int .i64 0], .agg #[.slice (p 0) (l 0) (c 0), .slice (p 1) (l 1) (c 1), .slice (p 2) (l 2) (c 2), .slice (p 3) (l 3) (c 3), .slice (p 4) (l 4) (c 4), .slice (p 5) (l 5) (c 5)], .slice ea en ec, .slice da dn dc, .tuple #[.slice (some ⟨gb, 0, none⟩) np c5, .int .i64 0], .slice (some ⟨gb, 0, none⟩) np c5, .int .i64 0, .tuple #[.slice (some ⟨gd, 0, none⟩) np c6, .int .i64 0], .agg #[.slice (p 0) (l 0) (c 0), .slice (p 1) (l 1) (c 1), .slice (p 2) (l 2) (c 2), .slice (p 3) (l 3) (c 3), .slice (p 4) (l 4) (c 4), .slice (p 5) (l 5) (c 5)], .slice ea en ec, .slice da dn dc, .tuple #[.slice (some ⟨gd, 0, none⟩) np c6, .int .i64 0], .slice (some ⟨gd, 0, none⟩) np c6, .int .i64 0, .int .i64 0, .bool false, .bool false, .slice (some ⟨gb, 0, none⟩) np c5, .int .i64 ↑np, .slice (some ⟨gd, 0, none⟩) np c6, .int .i64 ↑np, .bool false, .bool false, u70, u71, u72, u73, u74, u75, u76, u77, u78, u79, u80, u81, u82, u83, u84, u85, u86, u87, u88, u89, u90, u91, u92, u93, u94, u95, u96, u97, u98, u99, u100, .bool false, uu 102, uu 103, uu 104, uu 105, uu 106, uu 107, uu 108, uu 109, uu 110, uu 111, uu 112, u113, u114, u115, u116, u117, u118, u119, u120, u121, u122, u123, u124, u125, u126, u127, u128, u129, u130, u131, u132, u133, u134, u135, u136, u137, u138, u139, u140, u141, u142, u143, u144, u145, u146, u147, u148, u149, u150, u151, u152, u153, u154, u155, u156, u157, u158, u159, u160, u161, u162, u163, u164, u165, u166, u167, u168, u169, u170, u171, u172, u173, u174, u175, u176, u177, u178, u179, u180, u181, u182, u183, u184, u185, u186, u187, u188, u189, u190, u191, u192, u193, u194, u195, u196, u197, u198, u199, u200, u201, u202, u203, u204, u205, u206, u207, u208, u209, u210, u211, u212, u213, u214, u215, u216, u217, u218, u219, u220, u221, u222, u223, u224, u225, u226, u227, u228, u229, u230, u231, u232, u233, u234], []⟩) (fun i => [103, 104, 105, 106, 107, 108, 109, 110, 102, 111, 112, 13, 14].getD i 0) (fun i v w8 => match i with | 0 => v = .agg #[.slice (p 0) (l 0) (c 0), .slice (p 1) (l 1) (c 1), .slice (p 2) (l 2) (c 2), .slice (p 3) (l 3) (c 3), .slice (p 4) (l 4) (c 4), .slice (p 5) (l 5) (c 5)] | 1 => v = .slice ea en ec | 2 => v = .slice da dn dc | 3 => v = .slice (some ⟨gb, 0, none⟩) np c5 | 4 => v = .int .i64 (k : Int) | 5 => v = .pointer (some ⟨gb, k, none⟩) | 6 => v = .slice (some ⟨ga, 0, none⟩) nR gc | 7 => v = .tuple #[.bool true, .int .i64 0] | 8 => v = .tuple #[.bool true, .int .i64 0] | 9 => v = .bool true | 10 => v = .int .i64 0 | 11 => v = .bool true | 12 => v = .int .i64 0 | _ => True) wc 13 (fun k => match k with | 103 => u103 | 104 => u104 | 105 => u105 | 106 => u106 | 107 => u107 | 108 => u108 | 109 => u109 | 110 => u110 | 102 => u102 | 111 => u111 | 112 => u112 | 13 => u13 | 14 => u14 | _ => undef) (by rfl) (by kernel_rfl) (by rfl) (by kernel_rfl) (Below.refl _ _) ?hput ?hinj ?stable ?step ?fin
      case hput =>
       intro i hi uu v
       match i, hi with
       | 0, _ => rfl
       | 1, _ => rfl
       | 2, _ => rfl
       | 3, _ => rfl
       | 4, _ => rfl
       | 5, _ => rfl
       | 6, _ => rfl
       | 7, _ => rfl
       | 8, _ => rfl
       | 9, _ => rfl
       | 10, _ => rfl
       | 11, _ => rfl
       | 12, _ => rfl
       | i + 13, hi => exact absurd hi (by omega)
      case hinj =>
       intro i j hi hj h
       exact slots_inj [103, 104, 105, 106, 107, 108, 109, 110, 102, 111, 112, 13, 14] (by decide) hi hj h
      case stable =>
       intro i v w8 w9 hb h
       match i, hb, h with
       | 0, hb, h => exact h
       | 1, hb, h => exact h
       | 2, hb, h => exact h
       | 3, hb, h => exact h
       | 4, hb, h => exact h
       | 5, hb, h => exact h
       | 6, hb, h => exact h
       | 7, hb, h => exact h
       | 8, hb, h => exact h
       | 9, hb, h => exact h
       | 10, hb, h => exact h
       | 11, hb, h => exact h
       | 12, hb, h => exact h
       | _ + 13, hb, h => trivial
      case step =>
       intro i hi uu w8 S8 hdep
       match i, hi, hdep with
       | 0, _, hdep =>
        clear hdep
        refine ⟨_, rfl, fun K' hK => ?_⟩
        obtain ⟨⟨q0, q1, q2, q3, q4, q5⟩, -⟩ := HN6.out w8 (HBx.out.trans (S8.mono HBx.out.size))
        go_simp
        exact hK.out _ _ (Below.refl _ _) (rfl)
       | 1, _, hdep =>
        clear hdep
        refine ⟨_, rfl, fun K' hK => ?_⟩
        go_simp
        exact hK.out _ _ (Below.refl _ _) (rfl)
       | 2, _, hdep =>
        clear hdep
        refine ⟨_, rfl, fun K' hK => ?_⟩
        go_simp
        exact hK.out _ _ (Below.refl _ _) (rfl)
       | 3, _, hdep =>
        clear hdep
        refine ⟨_, rfl, fun K' hK => ?_⟩
        go_simp
        exact hK.out _ _ (Below.refl _ _) (rfl)
       | 4, _, hdep =>
        clear hdep
        refine ⟨_, rfl, fun K' hK => ?_⟩
        go_simp
        exact hK.out _ _ (Below.refl _ _) (rfl)
       | 5, _, hdep =>
        have h3 : (uu 106) = .slice (some ⟨gb, 0, none⟩) np c5 := hdep 3 (by kernel_rfl)
        have h4 : (uu 107) = .int .i64 (k : Int) := hdep 4 (by kernel_rfl)
        clear hdep
        refine ⟨_, rfl, fun K' hK => ?_⟩
        simp only [h3, h4] at hK ⊢
        go_simp
        exact hK.out _ _ (Below.refl _ _) (rfl)
       | 6, _, hdep =>
        have h5 : (uu 108) = .pointer (some ⟨gb, k, none⟩) := hdep 5 (by kernel_rfl)
        clear hdep
        refine ⟨_, rfl, fun K' hK => ?_⟩
        obtain ⟨hcx, hrx, hcy, hry⟩ := HZ2.out w8 (HBx.out.trans (S8.mono HBx.out.size))
        simp only [h5] at hK ⊢
        go_simp
        exact hK.out _ _ (Below.refl _ _) (rfl)
       | 7, _, hdep =>
        have h0 : (uu 103) = .agg #[.slice (p 0) (l 0) (c 0), .slice (p 1) (l 1) (c 1), .slice (p 2) (l 2) (c 2), .slice (p 3) (l 3) (c 3), .slice (p 4) (l 4) (c 4), .slice (p 5) (l 5) (c 5)] := hdep 0 (by kernel_rfl)
        have h1 : (uu 104) = .slice ea en ec := hdep 1 (by kernel_rfl)
        have h2 : (uu 105) = .slice da dn dc := hdep 2 (by kernel_rfl)
        have h6 : (uu 109) = .slice (some ⟨ga, 0, none⟩) nR gc := hdep 6 (by kernel_rfl)
        clear hdep
        refine ⟨_, rfl, fun K' hK => ?_⟩
        simp only [h0, h1, h2, h6] at hK ⊢
        go_simp
        refine (HIs.out _ (HBx.out.trans (S8.mono HBx.out.size))).mono ?_
        rintro e9 w9 ⟨rfl, hb9⟩
        exact hK.out _ _ hb9 rfl
       | 8, _, hdep =>
        have h7 : (uu 110) = .tuple #[.bool true, .int .i64 0] := hdep 7 (by kernel_rfl)
        clear hdep
        refine ⟨_, rfl, fun K' hK => ?_⟩
        simp only [h7] at hK ⊢
        go_simp
        exact hK.out _ _ (Below.refl _ _) (rfl)
       | 9, _, hdep =>
        have h8 : (uu 102) = .tuple #[.bool true, .int .i64 0] := hdep 8 (by kernel_rfl)
        clear hdep
        refine ⟨_, rfl, fun K' hK => ?_⟩
        simp only [h8] at hK ⊢
        go_simp
        exact hK.out _ _ (Below.refl _ _) (rfl)
       | 10, _, hdep =>
        have h8 : (uu 102) = .tuple #[.bool true, .int .i64 0] := hdep 8 (by kernel_rfl)
        clear hdep
        refine ⟨_, rfl, fun K' hK => ?_⟩
        simp only [h8] at hK ⊢
        go_simp
        exact hK.out _ _ (Below.refl _ _) (rfl)
       | 11, _, hdep =>
        have h9 : (uu 111) = .bool true := hdep 9 (by kernel_rfl)
        clear hdep
        refine ⟨_, rfl, fun K' hK => ?_⟩
        simp only [h9] at hK ⊢
        go_simp
        exact hK.out _ _ (Below.refl _ _) (rfl)
       | 12, _, hdep =>
        have h10 : (uu 112) = .int .i64 0 := hdep 10 (by kernel_rfl)
        clear hdep
        refine ⟨_, rfl, fun K' hK => ?_⟩
        simp only [h10] at hK ⊢
        go_simp
        exact hK.out _ _ (Below.refl _ _) (rfl)
       | i + 13, hi, _ => exact absurd hi (by omega)
      case fin =>
       intro uu wf S8 hall
       have h11 : (uu 13) = .bool true := hall 11 (by decide)
       have h12 : (uu 14) = .int .i64 0 := hall 12 (by decide)
       clear hall
       simp only [h11, h12]
       have HBy := hid (HBx.out.trans (S8.mono HBx.out.size))
       clear S8 h11 h12 HIs
       clear q0 q1 q2 q3 q4 q5
       clear hz HBx
       (try simp only [Exit.then])
       obtain ⟨i0, hi0, hzz⟩ := Option.map_eq_some_iff.1 Tryz.info_int
       simp only [Prod.mk.injEq] at hzz
       obtain ⟨hz0, hz1, hz2⟩ := hzz
       have HI := hid hi0
       have HZ0 := hid hz0
       have HZ1 := hid hz1
       have HZ2' := hid hz2
       clear hi0 hz0 hz1 hz2
       have hz6 := HBy.out.size
       have hcz := (HZ2.out _ HBy.out).1
       have hgbw := World.block_lt_of_cell? _ _ hcz
       go_wp2_with fail
       go_loopw [16, 15] (fun i v wr => ∃ j : Nat, j ≤ nR ∧ i = .int .i64 j ∧ OwnInts w6.heap.size wr v (viaL (rF zs') j) ∧ Below w6.heap.size w6 wr) (fun i _ _ => nR - (intOf i).toNat)
       case atStart => exact ⟨0, Nat.zero_le _, rfl, insSpec.ints_empty _ _ _ hz6 rfl, HBy.out.alloc hz6 _⟩
       case round =>
        rename_i wr2
        obtain ⟨j, hjn, rfl, hoi, hbel⟩ := hrel
        have HOi := hid hoi
        have HBl := hid hbel
        obtain ⟨hcx, hrx, -, -⟩ := HZ2.out _ hbel
        have hgw := World.block_lt_of_cell? _ _ hcx
        have hsz := hbel.size
        clear hoi hbel hcz hgbw
        by_cases hjl : j < nR
        · have hji : (j : Int) < (nR : Int) := by omega
          obtain ⟨b3, o3, e3, r0, r1, r2, r3⟩ := hrx.at4 hjl
          have e3' : ga = b3 ∧ 0 = o3 := by injection e3 with e3; injection e3 with e3 e3'; exact ⟨e3, e3'⟩
          rw [← e3'.1, ← e3'.2, Nat.zero_add] at r0 r1 r2 r3
          obtain ⟨vj, hvj⟩ : ∃ q, (rF zs' j).via = q := ⟨_, rfl⟩
          have HVj := hid hvj
          rw [hvj] at r0
          have hgaw := World.block_lt_of_cell? _ _ r0
          have HVl : Hid (viaL (rF zs') (j + 1) = viaL (rF zs') j ++ [vj]) := hid (by
           unfold viaL
           rw [List.range_succ, List.map_append, ← hvj]
           rfl)
          have HLj : Hid ((viaL (rF zs') j).length = j) := hid (by unfold viaL; simp)
          clear e3 e3' r1 r2 r3 hrx hvj
          go_wp2_with (at_builtin
                       refine wpList_append_own _ rfl _ _ 25 rfl w6.heap.size 3 i0 (.int .i64 0) 1 8 Tryz.underlying25 HI.out HZ0.out HZ1.out HZ2'.out rfl (by decide) _ _ _ rfl (World.ownsRow.alloc HOi.out _) ⟨_, 0, none⟩ 1 1 [.int .i64 vj] rfl rfl (cell_one_new _ _ _) (fun x hx => by simp at hx; subst hx; rfl) (by have := HLj.out; unfold maxLen; omega) (by have := HLj.out; omega) (by simp; omega) ?_
                       intro v9 w9 hown9 hg9 hnil9
                       have HO9 : Hid (OwnInts w6.heap.size w9 v9 (viaL (rF zs') (j + 1))) := hid (by rw [HVl.out]; unfold OwnInts; rw [List.length_append, List.map_append]; exact hown9)
                       have HB9 : Hid (Below w6.heap.size w6 w9) := hid ((HBl.out.alloc (by omega) _).grown hg9 (by simp; omega) (fun g1 hg1 => (World.ownsRow.lt HOi.out g1 hg1).1))
                       clear hown9 hg9 hnil9 hcx r0 hgw hgaw)
          obtain ⟨CL, hCL⟩ : ∃ q, candL g (l 1) o e x (l 4) env ds (rF zs') (l 0) (j : Int) = q := ⟨_, rfl⟩
          have HCj := hid (fun W hb => HCa.out W j hjl hb)
          have hbs := HBs.out j hjl
          rw [hCL] at HCj hbs
          rw [HVj.out] at hbs
          have hcl : CL.length ≤ 4096 := by
           rw [← hCL]
           unfold candL
           simp only [List.length_append]
           have h1 := ownC_len o (j : Int)
           have h2 := extC_len e env (j : Int)
           have h3 := cand_few g (l 1) x (l 4) ds (rF zs') (l 0) (j : Int)
           omega
          have HBJ := hid hbs
          have HCl := hid hcl
          clear hbs hCL hcl
          refine region_calm (fun uv => ⟨#[.slice aC lC cC, .slice aM lM cM, undef, undef, u4, .pointer (some ⟨BX, 0, none⟩), .slice ea en ec, .slice da dn dc, .slice (some ⟨gb, 0, none⟩) np c5, .int .i64 0, .slice (some ⟨gd, 0, none⟩) np c6, .int .i64 0, .int .i64 ↑k, .bool true, .int .i64 0, v9, .int .i64 ↑j, uv 17, uv 18, u19, u20, u21, u22, u23, u24, .slice aC lC cC, .int .i64 ↑lC, u27, u28, u29, u30, u31, u32, u33, u34, u35, u36, u37, u38, u39, u40, .slice aM lM cM, .agg #[.slice (p 0) (l 0) (c 0), .slice (p 1) (l 1) (c 1), .slice (p 2) (l 2) (c 2), .slice (p 3) (l 3) (c 3), .slice (p 4) (l 4) (c 4), .slice (p 5) (l 5) (c 5)], .slice ea en ec, .slice aM lM cM, .agg #[.slice (p 0) (l 0) (c 0), .slice (p 1) (l 1) (c 1), .slice (p 2) (l 2) (c 2), .slice (p 3) (l 3) (c 3), .slice (p 4) (l 4) (c 4), .slice (p 5) (l 5) (c 5)], .slice da dn dc, .tuple #[.slice (some ⟨gb, 0, none⟩) np c5, .int .i64 0], .agg #[.slice (p 0) (l 0) (c 0), .slice (p 1) (l 1) (c 1), .slice (p 2) (l 2) (c 2), .slice (p 3) (l 3) (c 3), .slice (p 4) (l 4) (c 4), .slice (p 5) (l 5) (c 5)], .slice ea en ec, .slice da dn dc, .tuple #[.slice (some ⟨gb, 0, none⟩) np c5, .int .i64 0], .slice (some ⟨gb, 0, none⟩) np c5, .int .i64 0, .tuple #[.slice (some ⟨gd, 0, none⟩) np c6, .int .i64 0], .agg #[.slice (p 0) (l 0) (c 0), .slice (p 1) (l 1) (c 1), .slice (p 2) (l 2) (c 2), .slice (p 3) (l 3) (c 3), .slice (p 4) (l 4) (c 4), .slice (p 5) (l 5) (c 5)], .slice ea en ec, .slice da dn dc, .tuple #[.slice (some ⟨gd, 0, none⟩) np c6, .int .i64 0], .slice (some ⟨gd, 0, none⟩) np c6, .int .i64 0, .int .i64 0, .bool false, .bool false, .slice (some ⟨gb, 0, none⟩) np c5, .int .i64 ↑np, .slice (some ⟨gd, 0, none⟩) np c6, .int .i64 ↑np, .bool false, .bool false, u70, u71, u72, u73, u74, u75, u76, u77, u78, u79, u80, u81, u82, u83, u84, u85, u86, u87, u88, u89, u90, u91, u92, u93, u94, u95, u96, u97, u98, u99, u100, .bool false, uu 102, uu 103, uu 104, uu 105, uu 106, uu 107, uu 108, uu 109, uu 110, uu 111, uu 112, .slice (some ⟨wf.heap.size, 0, none⟩) 0 0, .int .i64 ↑j, .slice (some ⟨gb, 0, none⟩) np c5, .int .i64 ↑k, .pointer (some ⟨gb, k, none⟩), .slice (some ⟨ga, 0, none⟩) nR gc, .int .i64 ↑nR, .bool true, u121, u122, u15, .slice (some ⟨gb, 0, none⟩) np c5, .int .i64 ↑k, .pointer (some ⟨gb, k, none⟩), .slice (some ⟨ga, 0, none⟩) nR gc, .int .i64 ↑j, .pointer (some ⟨ga, j * 4, none⟩), .pointer (some ⟨ga, j * 4, none⟩), .int .i64 vj, .slice (some ⟨wr.heap.size, 0, none⟩) 1 1, v9, uv 134, uv 135, uv 136, uv 137, uv 138, uv 139, uv 140, uv 141, uv 142, uv 143, uv 144, uv 145, u146, u147, u148, u149, u150, u151, u152, u153, u154, u155, u156, u157, u158, u159, u160, u161, u162, u163, u164, u165, u166, u167, u168, u169, u170, u171, u172, u173, u174, u175, u176, u177, u178, u179, u180, u181, u182, u183, u184, u185, u186, u187, u188, u189, u190, u191, u192, u193, u194, u195, u196, u197, u198, u199, u200, u201, u202, u203, u204, u205, u206, u207, u208, u209, u210, u211, u212, u213, u214, u215, u216, u217, u218, u219, u220, u221, u222, u223, u224, u225, u226, u227, u228, u229, u230, u231, u232, u233, u234], []⟩) (fun i => [135, 136, 137, 138, 139, 140, 141, 142, 143, 134, 144, 145, 17, 18].getD i 0) (fun i v w8 => match i with | 0 => v = .agg #[.slice (p 0) (l 0) (c 0), .slice (p 1) (l 1) (c 1), .slice (p 2) (l 2) (c 2), .slice (p 3) (l 3) (c 3), .slice (p 4) (l 4) (c 4), .slice (p 5) (l 5) (c 5)] | 1 => v = .int .i64 (j : Int) | 2 => v = .slice ea en ec | 3 => v = .slice da dn dc | 4 => v = .slice (some ⟨gb, 0, none⟩) np c5 | 5 => v = .int .i64 (k : Int) | 6 => v = .pointer (some ⟨gb, k, none⟩) | 7 => v = .slice (some ⟨ga, 0, none⟩) nR gc | 8 => ∃ (vq : Value), v = .tuple #[vq, .int .i64 0] ∧ OwnRts w6.heap.size w8 vq CL | 9 => ∃ (vq : Value), v = .tuple #[vq, .int .i64 0] ∧ OwnRts w6.heap.size w8 vq CL | 10 => OwnRts w6.heap.size w8 v CL | 11 => v = .int .i64 0 | 12 => OwnRts w6.heap.size w8 v CL | 13 => v = .int .i64 0 | _ => True) w9 14 (fun k => match k with | 135 => u135 | 136 => u136 | 137 => u137 | 138 => u138 | 139 => u139 | 140 => u140 | 141 => u141 | 142 => u142 | 143 => u143 | 134 => u134 | 144 => u144 | 145 => u145 | 17 => u17 | 18 => u18 | _ => undef) (by rfl) (by kernel_rfl) (by rfl) (by kernel_rfl) (Below.refl _ _) ?hput ?hinj ?stable ?step ?fin
          case hput =>
           intro i hi uv v
           match i, hi with
           | 0, _ => rfl
           | 1, _ => rfl
           | 2, _ => rfl
           | 3, _ => rfl
           | 4, _ => rfl
           | 5, _ => rfl
           | 6, _ => rfl
           | 7, _ => rfl
           | 8, _ => rfl
           | 9, _ => rfl
           | 10, _ => rfl
           | 11, _ => rfl
           | 12, _ => rfl
           | 13, _ => rfl
           | i + 14, hi => exact absurd hi (by omega)
          case hinj =>
           intro i j hi hj h
           exact slots_inj [135, 136, 137, 138, 139, 140, 141, 142, 143, 134, 144, 145, 17, 18] (by decide) hi hj h
          case stable =>
           intro i v w8 w9 hb h
           match i, hb, h with
           | 0, hb, h => exact h
           | 1, hb, h => exact h
           | 2, hb, h => exact h
           | 3, hb, h => exact h
           | 4, hb, h => exact h
           | 5, hb, h => exact h
           | 6, hb, h => exact h
           | 7, hb, h => exact h
           | 8, hb, h => (obtain ⟨vq, e9, ho⟩ := h; exact ⟨vq, e9, rtsKeep ho hb⟩)
           | 9, hb, h => (obtain ⟨vq, e9, ho⟩ := h; exact ⟨vq, e9, rtsKeep ho hb⟩)
           | 10, hb, h => exact rtsKeep h hb
           | 11, hb, h => exact h
           | 12, hb, h => exact rtsKeep h hb
           | 13, hb, h => exact h
           | _ + 14, hb, h => trivial
          case step =>
           intro i hi uv w8 S8 hdep
           match i, hi, hdep with
           | 0, _, hdep =>
            clear hdep
            refine ⟨_, rfl, fun K' hK => ?_⟩
            obtain ⟨⟨q0, q1, q2, q3, q4, q5⟩, -⟩ := HN6.out w8 (HB9.out.trans (S8.mono HB9.out.size))
            go_simp
            exact hK.out _ _ (Below.refl _ _) (rfl)
           | 1, _, hdep =>
            clear hdep
            refine ⟨_, rfl, fun K' hK => ?_⟩
            go_simp
            exact hK.out _ _ (Below.refl _ _) (rfl)
           | 2, _, hdep =>
            clear hdep
            refine ⟨_, rfl, fun K' hK => ?_⟩
            go_simp
            exact hK.out _ _ (Below.refl _ _) (rfl)
           | 3, _, hdep =>
            clear hdep
            refine ⟨_, rfl, fun K' hK => ?_⟩
            go_simp
            exact hK.out _ _ (Below.refl _ _) (rfl)
           | 4, _, hdep =>
            clear hdep
            refine ⟨_, rfl, fun K' hK => ?_⟩
            go_simp
            exact hK.out _ _ (Below.refl _ _) (rfl)
           | 5, _, hdep =>
            clear hdep
            refine ⟨_, rfl, fun K' hK => ?_⟩
            go_simp
            exact hK.out _ _ (Below.refl _ _) (rfl)
           | 6, _, hdep =>
            have h4 : (uv 139) = .slice (some ⟨gb, 0, none⟩) np c5 := hdep 4 (by kernel_rfl)
            have h5 : (uv 140) = .int .i64 (k : Int) := hdep 5 (by kernel_rfl)
            clear hdep
            refine ⟨_, rfl, fun K' hK => ?_⟩
            simp only [h4, h5] at hK ⊢
            go_simp
            exact hK.out _ _ (Below.refl _ _) (rfl)
           | 7, _, hdep =>
            have h6 : (uv 141) = .pointer (some ⟨gb, k, none⟩) := hdep 6 (by kernel_rfl)
            clear hdep
            refine ⟨_, rfl, fun K' hK => ?_⟩
            obtain ⟨hcx, hrx, hcy, hry⟩ := HZ2.out w8 (HB9.out.trans (S8.mono HB9.out.size))
            simp only [h6] at hK ⊢
            go_simp
            exact hK.out _ _ (Below.refl _ _) (rfl)
           | 8, _, hdep =>
            have h0 : (uv 135) = .agg #[.slice (p 0) (l 0) (c 0), .slice (p 1) (l 1) (c 1), .slice (p 2) (l 2) (c 2), .slice (p 3) (l 3) (c 3), .slice (p 4) (l 4) (c 4), .slice (p 5) (l 5) (c 5)] := hdep 0 (by kernel_rfl)
            have h1 : (uv 136) = .int .i64 (j : Int) := hdep 1 (by kernel_rfl)
            have h2 : (uv 137) = .slice ea en ec := hdep 2 (by kernel_rfl)
            have h3 : (uv 138) = .slice da dn dc := hdep 3 (by kernel_rfl)
            have h7 : (uv 142) = .slice (some ⟨ga, 0, none⟩) nR gc := hdep 7 (by kernel_rfl)
            clear hdep
            refine ⟨_, rfl, fun K' hK => ?_⟩
            simp only [h0, h1, h2, h3, h7] at hK ⊢
            go_simp
            refine (HCj.out _ (HB9.out.trans (S8.mono HB9.out.size))).mono ?_
            rintro e9 w10 ⟨v10, rfl, ho10, hb10⟩
            exact hK.out _ _ hb10 ⟨v10, rfl, ho10.mono (Nat.le_trans HB9.out.size S8.size)⟩
           | 9, _, hdep =>
            have h8 : ∃ (vq : Value), (uv 143) = .tuple #[vq, .int .i64 0] ∧ OwnRts w6.heap.size w8 vq CL := hdep 8 (by kernel_rfl)
            clear hdep
            refine ⟨_, rfl, fun K' hK => ?_⟩
            obtain ⟨vq, e9, ho⟩ := h8
            simp only [e9] at hK ⊢
            go_simp
            exact hK.out _ _ (Below.refl _ _) (⟨vq, rfl, ho⟩)
           | 10, _, hdep =>
            have h9 : ∃ (vq : Value), (uv 134) = .tuple #[vq, .int .i64 0] ∧ OwnRts w6.heap.size w8 vq CL := hdep 9 (by kernel_rfl)
            clear hdep
            refine ⟨_, rfl, fun K' hK => ?_⟩
            obtain ⟨vq, e9, ho⟩ := h9
            simp only [e9] at hK ⊢
            go_simp
            exact hK.out _ _ (Below.refl _ _) (ho)
           | 11, _, hdep =>
            have h9 : ∃ (vq : Value), (uv 134) = .tuple #[vq, .int .i64 0] ∧ OwnRts w6.heap.size w8 vq CL := hdep 9 (by kernel_rfl)
            clear hdep
            refine ⟨_, rfl, fun K' hK => ?_⟩
            obtain ⟨vq, e9, ho⟩ := h9
            simp only [e9] at hK ⊢
            go_simp
            exact hK.out _ _ (Below.refl _ _) (rfl)
           | 12, _, hdep =>
            have h10 : OwnRts w6.heap.size w8 (uv 144) CL := hdep 10 (by kernel_rfl)
            clear hdep
            refine ⟨_, rfl, fun K' hK => ?_⟩
            go_simp
            exact hK.out _ _ (Below.refl _ _) (h10)
           | 13, _, hdep =>
            have h11 : (uv 145) = .int .i64 0 := hdep 11 (by kernel_rfl)
            clear hdep
            refine ⟨_, rfl, fun K' hK => ?_⟩
            simp only [h11] at hK ⊢
            go_simp
            exact hK.out _ _ (Below.refl _ _) (rfl)
           | i + 14, hi, _ => exact absurd hi (by omega)
          case fin =>
           intro uv wf S8 hall
           have h12 : OwnRts w6.heap.size wf (uv 17) CL := hall 12 (by decide)
           have h13 : (uv 18) = .int .i64 0 := hall 13 (by decide)
           clear hall
           simp only [h13]
           obtain ⟨ca, cc, e17, hcr⟩ := rts_form h12
           rw [e17]
           have HCr := hid hcr
           have HBz := hid (HB9.out.trans (S8.mono HB9.out.size))
           have HOz := hid (HO9.out.below S8)
           clear S8 h12 h13 hcr e17 HO9 HB9 HCj
           (try simp only [Exit.then])
           obtain ⟨nC, hnC⟩ : ∃ q, CL.length = q := ⟨_, rfl⟩
           obtain ⟨BC, hBC⟩ : ∃ q, bestCode CL.length = q := ⟨_, rfl⟩
           obtain ⟨br, hbr⟩ : ∃ q, bestOf CL.length (rF CL) = q := ⟨_, rfl⟩
           have HBB := hid (best_impl ca CL.length cc (rF CL))
           rw [hBC, hbr] at HBB
           have HBR : Hid ((BC = 0 ∧ br = rF zs' j) ∨ (BC = 6 ∧ vj = -3)) := hid (by
            by_cases h0 : CL = []
            · refine .inr ⟨?_, HBJ.out.1 h0⟩
              rw [← hBC, h0]; rfl
            · have hl : CL.length ≠ 0 := fun h => h0 (List.length_eq_zero_iff.1 h)
              have hb0 : bestCode CL.length = 0 := by unfold bestCode; rw [if_neg (by have := HCl.out; omega), if_neg hl]
              refine .inl ⟨by rw [← hBC, hb0], ?_⟩
              rw [← hbr]
              unfold bestOf
              rw [if_pos hb0]
              exact HBJ.out.2.1 h0)
           rw [hnC] at HBB HCr ⊢
           clear hBC hbr hnC
           obtain ⟨b0, b1, b2, b3⟩ := br
           simp only [rtV] at HBB
           go_wp2_with fail
           refine (HBB.out _ HCr.out).mono ?_
           rintro e' w10 ⟨rfl, hb10⟩
           have HBt := hid (HBz.out.trans (hb10.mono HBz.out.size))
           have HOt := hid (HOz.out.below hb10)
           clear hb10 HBB HCr HBz HOz
           go_upto_region 25 with fail
           obtain ⟨wa, hwa⟩ : ∃ q, w10.alloc (.cells #[.int .i64 b0, .int .i64 b1, .int .i64 b2, .bool b3] 44) = q := ⟨_, rfl⟩
           have hba : Below w10.heap.size w10 wa := by rw [← hwa]; exact (by repeat (first | exact Below.refl _ _ | assumption | refine Below.drew ?_ | refine Below.alloc ?_ (by first | exact Nat.le_refl _ | omega | (simp; done) | (simp; omega)) _ | refine Below.setCell ?_ (by first | exact Nat.le_refl _ | omega | (simp; done) | (simp; omega)) _))
           have n0 : World.cell? wa ⟨w10.heap.size, 0, none⟩ = some (.int .i64 b0) := by rw [← hwa]; simp [go_sem]
           have n1 : World.cell? wa ⟨w10.heap.size, 1, none⟩ = some (.int .i64 b1) := by rw [← hwa]; simp [go_sem]
           have n2 : World.cell? wa ⟨w10.heap.size, 2, none⟩ = some (.int .i64 b2) := by rw [← hwa]; simp [go_sem]
           have n3 : World.cell? wa ⟨w10.heap.size, 3, none⟩ = some (.bool b3) := by rw [← hwa]; simp [go_sem]
           have HBa := hid (HBt.out.trans (hba.mono HBt.out.size))
           have HOa := hid (HOt.out.below hba)
           rw [hwa]
           clear hwa hba HBt HOt
           obtain ⟨hcx, hrx, -, -⟩ := HZ2.out wa HBa.out
           obtain ⟨c3, o3, e3, r0, r1, r2, r3⟩ := hrx.at4 hjl
           have e3' : ga = c3 ∧ 0 = o3 := by injection e3 with e3; injection e3 with e3 e3'; exact ⟨e3, e3'⟩
           rw [← e3'.1, ← e3'.2, Nat.zero_add] at r0 r1 r2 r3
           clear e3 e3' hrx
           go_cut [182] from 114 to 207 (fun s182 wx => s182 = .bool false ∧ Below wa.heap.size wa wx)
           case first => as_aux_lemma =>
            rcases HBR.out with ⟨h1, h2⟩ | ⟨h1, h2⟩
            · subst h1
              rw [← h2] at r0 r1 r2 r3
              dsimp only at r0 r1 r2 r3
              have x0 : (b0 == b0) = true := by simp
              have x1 : (b1 == b1) = true := by simp
              have x2 : (b2 == b2) = true := by simp
              have x3 : (b3 == b3) = true := by simp
              clear h2 HBR
              go_wp2_with fail
              go_region
              all_goals
               go_wp2_with fail
               go_meet
               exact ⟨rfl, (Below.refl _ _).drew⟩
            · subst h1
              rw [HVj.out, h2] at r0
              clear h2 HBR n0 n1 n2 n3 r1 r2 r3
              go_wp2_with fail
              go_region
              all_goals
               go_wp2_with fail
               go_meet
               exact ⟨rfl, (Below.refl _ _).drew⟩
           case rest =>
            obtain ⟨rfl, hbx⟩ := hcut
            have HBu := hid (HBa.out.trans (hbx.mono HBa.out.size))
            have HOu := hid (HOa.out.below hbx)
            clear hbx n0 n1 n2 n3 r0 r1 r2 r3 hcx HBR HBa HOa
            obtain ⟨⟨q0, q1, q2, q3, q4, q5⟩, -, -, -, hz⟩ := HN6.out _ HBu.out
            obtain ⟨va9, vc9, ev9, hvr⟩ := OwnInts.form HOu.out
            have HLn : Hid ((viaL (rF zs') (j + 1)).length = j + 1) := hid (by unfold viaL; simp)
            rw [HLn.out] at ev9 hvr
            subst ev9
            obtain ⟨vb, vo, eva, hvc⟩ := hvr.cell j (by omega)
            subst eva
            have hvg : (viaL (rF zs') (j + 1))[j]?.getD 0 = vj := by rw [← HVj.out]; exact via_at (rF zs') (by omega)
            rw [hvg] at hvc
            clear hvg hvr
            go_wp2_with fail
            refine (HNb.out _ j hjl HBu.out).mono ?_
            rintro e' w11 ⟨v11, rfl, ho11, hb11⟩
            obtain ⟨na, nc, en11, hnr⟩ := OwnInts.form ho11
            subst en11
            have HNn := hid hnr
            have hvc1 := keep hb11 hvc
            have HBv := hid (HBu.out.trans (hb11.mono HBu.out.size))
            have HOv := hid (HOu.out.below hb11)
            have hji1 : (j : Int) < ((j : Int) + 1) := by omega
            clear ho11 hnr hb11 hvc hz HBu HOu
            clear q0 q1 q2 q3 q4 q5
            obtain ⟨nN, hnN⟩ : ∃ q, (nbL g (l 1) ds (j : Int) (l 0)).length = q := ⟨_, rfl⟩
            rw [hnN] at HNn ⊢
            clear hnN
            by_cases hv0 : 0 ≤ vj
            · have dv : decide (0 ≤ vj) = true := decide_eq_true hv0
              have HMm := hid (HBJ.out.2.2 hv0)
              clear hv0
              go_wp2_with fail
              refine (has_yes na nN nc (nbL g (l 1) ds (j : Int) (l 0)) vj _ HNn.out HMm.out).mono ?_
              rintro e' w12 ⟨rfl, hb12⟩
              have HBw := hid (HBv.out.trans (hb12.mono HBv.out.size))
              have HOw := hid (HOv.out.below hb12)
              clear hb12
              go_wp2
              go_roundw
              case rel => exact ⟨j + 1, by omega, by go_num, HOw.out, HBw.out⟩
              case measure => simp [intOf]; omega
            · have dv : decide (0 ≤ vj) = false := decide_eq_false hv0
              clear hv0
              go_wp2
              go_roundw
              case rel => exact ⟨j + 1, by omega, by go_num, HOv.out, HBv.out⟩
              case measure => simp [intOf]; omega
        · as_aux_lemma =>
          have hje : j = nR := by omega
          have dj : decide ((j : Int) < (nR : Int)) = false := decide_eq_false (by omega)
          have HOe : Hid (OwnInts w6.heap.size _ _ (viaL (rF zs') nR)) := hid (by have := HOi.out; rw [hje] at this; exact this)
          obtain ⟨va9, vc9, ev9, hvr⟩ := OwnInts.form HOe.out
          have HLn : Hid ((viaL (rF zs') nR).length = nR) := hid (by unfold viaL; simp)
          rw [HLn.out] at ev9 hvr
          subst ev9
          have HVr := hid hvr
          obtain ⟨⟨q0, q1, q2, q3, q4, q5⟩, -, -, -, hz⟩ := HN6.out _ HBl.out
          clear hvr hrx HOi HOe hje
          go_wp2_with fail
          refine (HRo.out _ va9 vc9 HVr.out HBl.out).mono ?_
          rintro e' w13 ⟨v13, rfl, ho13, hb13⟩
          have HB13 := hid (HBl.out.trans (hb13.mono HBl.out.size))
          obtain ⟨a13, c13, ev13, hr13⟩ := rts_form ho13
          rw [HzR.out] at ev13 hr13
          subst ev13
          have HR13 := hid hr13
          obtain ⟨hcx13, hrx13, -, -⟩ := HZ2.out _ HB13.out
          have HRx := hid hrx13
          clear ho13 hb13 hr13 hrx13 hcx hgw hz
          clear q0 q1 q2 q3 q4 q5
          go_wp2_with fail
          refine (same_rts a13 (some ⟨ga, 0, none⟩) nR c13 gc (rF zs') (rF zs') _ HR13.out HRx.out).mono ?_
          rintro e' w14 ⟨rfl, hb14⟩
          rw [HSa.out]
          have HB14 := hid (HB13.out.trans (hb14.mono HB13.out.size))
          clear hb14 hcx13
          go_wp2
          go_roundw
          case rel => exact ⟨k + 1, by omega, by go_num, HB14.out⟩
          case measure => simp [intOf]; omega
   · have dk : decide ((k : Int) < (np : Int)) = false := decide_eq_false (by omega)
     have HBw := hid (HK.out _ H2r.out).2.2.1
     go_wp2
     go_ret
     exact ⟨rfl, HBw.out⟩
theorem own : ownKnob Tryz.prog.godebug = none := by kernel_rfl
theorem laidOut : laidOutB Tryz.prog = true := by kernel_rfl
set_option maxRecDepth 100000 in
theorem lifted (os : Os) (started : os.Started) (H : Type) (enc : TypeId × Value → H) :
  ReturnsInHanded {} Tryz.checked os 3 .any (Rows.fnStableSpec.pre6 enc Tryz.prog Tryz.f3 Rows.fnStableRow.domain false) (Rows.fnStableSpec.post enc Tryz.prog Tryz.f3 false true false false) := by
 refine returnsInHanded_of_change (C := Tryz.checked) own started (by kernel_rfl) Tryz.func3
  (ChangeSpec.witness6 (enc := enc) (C := Tryz.checked) false ⟨#[], #[.slice none 0 0, .slice none 0 0], []⟩ 8 (by kernel_rfl) (by kernel_rfl) (by kernel_rfl) (by kernel_rfl)) ?_
 intro W base args ds gs before hval0 hW hcnd _
 have hval : ∀ (j : Nat) t v, Tryz.f3.params[j]? = some t → args[j]? = some v → Value.okWide Tryz.prog W .any base t v := hval0
 have hW' := hW
 obtain ⟨p, q, hA0, hV, rfl, hfz, hnd⟩ := hW
 have hA : DataW.TrodAll enc Tryz.prog W 0 (fun _ => true) true Tryz.f3.params.toList args.toList ds p := hA0
 rw [Tryz.params3] at hA hval
 obtain ⟨v0, vs0, d0, ds0, p0, q0, hargs, rfl, rfl, h0, r0⟩ := trodAll_cons hA
 obtain ⟨v1, vs1, d1, ds1, p1, q1, rfl, rfl, rfl, h1, r1⟩ := trodAll_cons r0
 obtain ⟨rfl, rfl, rfl⟩ := trodAll_nil r1
 obtain rfl : args = #[v0, v1] := by cases args; simp_all
 obtain ⟨rfl, rfl⟩ := trodVars_none hV
 have k0 := h0
 have lt0 : ∀ x ∈ p0, x.block < W.heap.size := by obtain ⟨m, hm⟩ := k0; exact DataW.trod_lt m _ _ _ hm
 have k1 := h1
 have lt1 : ∀ x ∈ p1, x.block < W.heap.size := by obtain ⟨m, hm⟩ := k1; exact DataW.trod_lt m _ _ _ hm
 obtain ⟨aA, la, cA, rfl⟩ := okWide_slice Tryz.underlying22 (hval 0 22 v0 rfl rfl)
 obtain ⟨aB, lb, cB, rfl⟩ := okWide_slice Tryz.underlying22 (hval 1 22 v1 rfl rfl)
 obtain ⟨hA1, hA2⟩ : Bytes W aA la ∧ la ≤ maxLen := by
  obtain ⟨fuel, hf⟩ := h0
  obtain ⟨a', l', c', e, hb, hl⟩ := bytes_of_trod Tryz.underlying22 Tryz.underlying5 (by kernel_rfl) (by simpa [Value.cells] using hf)
  cases e
  exact ⟨hb, hl⟩
 obtain ⟨hB1, hB2⟩ : Bytes W aB lb ∧ lb ≤ maxLen := by
  obtain ⟨fuel, hf⟩ := h1
  obtain ⟨a', l', c', e, hb, hl⟩ := bytes_of_trod Tryz.underlying22 Tryz.underlying5 (by kernel_rfl) (by simpa [Value.cells] using hf)
  cases e
  exact ⟨hb, hl⟩
 clear hA0 hval0
 refine (walk aA aB la cA lb cB W hA1 hB1 hA2 hB2).mono fun e W' ⟨he, bel⟩ => ?_
 subst he
 exact ⟨_, rfl, _, _, _, [], _, [], hW', trodAll_mk1 (shut_bool Tryz.underlying4 _), (trodAll_cons_mk (Below.trod laidOut (by kernel_rfl) (of_decide_eq_true (by kernel_rfl)) k0 bel lt0) (trodAll_cons_mk (Below.trod laidOut (by kernel_rfl) (of_decide_eq_true (by kernel_rfl)) k1 bel lt1) trodAll_mk0)), rfl, bel.frame _, fun h => by cases h⟩
theorem over : Rows.fnStableRow.holds Tryz.pinned (OpenSpec.ofChange Rows.fnStableSpec) :=
 OpenClaim.holds_of_wide 3 Tryz.f3 rfl rfl rfl rfl rfl rfl rfl ⟨rfl, rfl, rfl, rfl, rfl⟩ rfl rfl rfl rfl rfl (by kernel_rfl) Tryz.func3 (by kernel_rfl)
  (of_decide_eq_true (by kernel_rfl)) (by unfold Func.isWrapper; first | (rw [if_pos (by decide +kernel)]; kernel_rfl) | (rw [if_neg (by decide +kernel)]; exact ⟨rfl, rfl⟩))
  (fun os started H enc _ => lifted os started H enc)
end Go.Proofs.YtaioffpkadmmhaaGreat.fnStable
namespace Go.Proofs.YtaioffpkadmmhaaGreat
theorem fnStable_holds : Rows.FnStableSaid := fnStable.over
end Go.Proofs.YtaioffpkadmmhaaGreat
