/- A packet in a stable state of a drawn network goes along the routes, link by link, and ends where it is told; Forward answers as its specification; conditions: none. -/
import Derived.Test.YtjdeoiohbbnmeaaPart25
import Derived.Test.YtjdeoiohbbnmeaaWalkMath
import Derived.Test.YtjdeoiohbbnmeaaPart38
import Derived.Test.YtjdeoiohbbnmeaaPart40
import Derived.Test.YtjdeoiohbbnmeaaForwardSpec
import Derived.Test.YtjdeoiohbbnmeaaPart44
import Derived.Test.YtjdeoiohbbnmeaaInsSpec
namespace Go.Proofs.Ytjdeoiohbbnmeaa.fnWalks
open Go.ChangeShapes Go.WideShapes Go.ChangeAt Go.RowKit Go.Deep Go.Joins Go base copy args netSem netMath routeRow candSem candEnv intsOwn rtsRow rRows source netOf envOf lawNets prodSem ssSem staFaceS walkSem routesB fwSem walkMath forwardImpl forwardSpec propSem satImpl atAny same drawn drawnLin drawnSrc drawnMk
set_option linter.unusedVariables false

theorem rr_cell {B : Nat} {w : World} {a : Option Addr} {n c : Nat} {ps : List ((Nat × Nat) × List Rt)} (h : OwnRR B w (.slice a n c) ps) {i : Nat} (hi : i < ps.length) : ∃ gb, a = some ⟨gb, 0, none⟩ ∧ w.cell? ⟨gb, i, none⟩ = some (rvR ps[i]) := by
  obtain ⟨h1, h2⟩ := h.outer
  rcases h2 with ⟨h2, h0⟩ | ⟨gb, cap, cur, e, hb, hh, hc, hm, hs, ht⟩
  · omega
  · have e1 : a = some ⟨gb, 0, none⟩ := by injection e
    refine ⟨gb, e1, ?_⟩
    have h7 : (ps.map rvR)[i]? = some (rvR ps[i]) := by rw [List.getElem?_map, List.getElem?_eq_getElem hi]; rfl
    rw [← ht, List.getElem?_take_of_lt (by omega)] at h7
    simp only [World.cell?, hh]
    simpa using h7
theorem opt_len (g : R) (nl : Nat) (o e env : List Int) (ds : List Bool) (n : Nat) (i : Int) : (optL g nl o e env ds n i).length ≤ 3 + n := by
  unfold optL
  simp only [List.length_append]
  have h1 : (ownV o i).length ≤ 1 := by unfold ownV; split <;> simp
  have h2 : (extV e env i).length ≤ 1 := by unfold extV; split <;> simp
  have h3 : (nbSem.nbL g nl ds i n).length ≤ n := by
    unfold nbSem.nbL
    rw [List.length_map]
    exact Nat.le_trans (List.length_filter_le _ _) (by simp)
  have h4 : ((if (ownV o i ++ extV e env i).length = 0 then [-3] else []) : List Int).length ≤ 1 := by split <;> simp
  rw [List.length_append] at h4
  omega
theorem states_few {g : R} {nl nx : Nat} {o e : List Int} {x : R} {env : List Int} {ds : List Bool} {n : Nat} (hn : n ≤ 4) : (statesL g nl o e x nx env ds n (prod (fun i : Nat => optL g nl o e env ds n (i : Int)) n)).length ≤ 2401 := by
  unfold statesL
  rw [List.length_map]
  refine Nat.le_trans (List.length_filter_le _ _) ?_
  have h1 := prod_size (A := fun i : Nat => optL g nl o e env ds n (i : Int)) (M := 7) n (fun i _ => Nat.le_trans (opt_len g nl o e env ds n (i : Int)) (by omega))
  refine Nat.le_trans h1 ?_
  rcases (show n = 0 ∨ n = 1 ∨ n = 2 ∨ n = 3 ∨ n = 4 by omega) with rfl | rfl | rfl | rfl | rfl <;> decide
theorem apart_row {w : World} {B N : Nat} {v : Value} {PP : List Int} {F : Nat → Value} (h : OwnInts B w v PP) (hr : w.rowIs N 39 2 F) : ∀ k, v.ownBlock = some k → k ≠ N := fun k hk e => by
  subst e
  obtain ⟨c, hb, _⟩ := hr
  rcases h.2 with ⟨h2, _⟩ | ⟨g, cap, cur, e, _, hh, _⟩
  · rw [h2] at hk; cases hk
  · rw [e] at hk
    have e2 : g = k := by simpa [Value.ownBlock] using hk
    subst e2
    rw [hb] at hh
    injection hh with hh
    injection hh with _ h3
    exact absurd h3 (by decide)
/-- What the law asks of a walk. -/
structure Asks (rs : Rs) (n : Nat) (fr O : Int) (PP : List Int) : Prop where
  some : 0 < PP.length
  first : zAt PP 0 = fr
  few : PP.length ≤ 5
  each : ∀ j, j < PP.length → 0 ≤ zAt PP j ∧ zAt PP j < n
  step : ∀ j, j + 1 < PP.length → (rs (zAt PP j).toNat).via = zAt PP (j + 1)
  last : LastOK O (rs (zAt PP (PP.length - 1)).toNat).via
theorem asks_of {g : R} {nl : Nat} {ds : List Bool} {n : Nat} {rs : Rs} {vs : List Int} (h : Fine g nl ds n rs vs) (hn : n ≤ 4) (f : R) (m : Nat) (po : Int) {fr : Nat} (hf : fr < n) : Asks rs n (fr : Int) (wayO rs f m po n (fr : Int)) ((fr : Int) :: wayR rs f m po n (fr : Int)) := by
  obtain ⟨k, hk, hc⟩ := h.ends fr hf
  obtain ⟨_, hv⟩ := routes_viable h.right
  obtain ⟨h1, h2, h3⟩ := way_facts (f := f) (m := m) (port := po) hv h.via n (fr : Int) k hc hk (by omega) (by omega)
  have hl := way_len rs f m po n (fr : Int)
  have hz : ∀ j (hj : j < ((fr : Int) :: wayR rs f m po n (fr : Int)).length), zAt ((fr : Int) :: wayR rs f m po n (fr : Int)) j = ((fr : Int) :: wayR rs f m po n (fr : Int))[j] := fun j hj => by unfold zAt; rw [List.getElem?_eq_getElem hj]; rfl
  have hp : 0 < ((fr : Int) :: wayR rs f m po n (fr : Int)).length := by simp
  refine ⟨hp, rfl, by rw [List.length_cons]; omega, fun j hj => ?_, fun j hj => ?_, ?_⟩
  · rw [hz j hj]; exact h1 _ (List.getElem_mem hj)
  · rw [hz j (by omega), hz (j + 1) hj]
    exact h2 j _ _ (List.getElem?_eq_getElem (by omega)) (List.getElem?_eq_getElem hj)
  · rw [hz _ (by omega)]
    exact h3 _ (by rw [List.getLast?_eq_getElem?]; exact List.getElem?_eq_getElem (by omega))

set_option maxHeartbeats 12800000 in
set_option maxRecDepth 8000 in
theorem walk (aC aM : Option Addr) (lC cC lM cM : Nat) (w : World) (hC : Bytes w aC lC) (hM : Bytes w aM lM) (hlC : lC ≤ maxLen) (hlM : lM ≤ maxLen) :
    Calls Try.prog 3 #[.slice aC lC cC, .slice aM lM cM] w fun e w' => e = .returned (.bool true) ∧ Below w.heap.size w w' := by
  have HC := hid hC
  have HM := hid hM
  unfold maxLen at hlC hlM
  clear hC hM
  by_cases h1 : 1048576 < lC
  · have i1 : decide ((1048576 : Int) < (lC : Int)) = true := decide_eq_true (by omega)
    go_enter Try.func3, Try.ntmps3
    go_wp2
    go_ret
    exact ⟨rfl, (by repeat (first | exact Below.refl _ _ | assumption | refine Below.drew ?_ | refine Below.alloc ?_ (by first | exact Nat.le_refl _ | omega | (simp; done) | (simp; omega)) _ | refine Below.setCell ?_ (by first | exact Nat.le_refl _ | omega | (simp; done) | (simp; omega)) _))⟩
  have i1 : decide ((1048576 : Int) < (lC : Int)) = false := decide_eq_false (by omega)
  by_cases h2 : 1048576 < lM
  · have i2 : decide ((1048576 : Int) < (lM : Int)) = true := decide_eq_true (by omega)
    go_enter Try.func3, Try.ntmps3
    go_wp2
    go_ret
    exact ⟨rfl, (by repeat (first | exact Below.refl _ _ | assumption | refine Below.drew ?_ | refine Below.alloc ?_ (by first | exact Nat.le_refl _ | omega | (simp; done) | (simp; omega)) _ | refine Below.setCell ?_ (by first | exact Nat.le_refl _ | omega | (simp; done) | (simp; omega)) _))⟩
  have i2 : decide ((1048576 : Int) < (lM : Int)) = false := decide_eq_false (by omega)
  go_enter Try.func3, Try.ntmps3
  go_wp2_with fail
  refine (netOf_spec aC lC cC _ HC.out (by omega)).mono ?_
  rintro e' w1 ⟨p, l, c, g, o, e, x, f, rfl, hn, hnr, hnc, hb⟩
  obtain ⟨hl0, hl1, hl3, hcost⟩ := net_small hnr
  have HN1 := hid hn
  have HNr := hid hnr
  have HNc := hid hnc
  have HB1 := hid hb
  clear hn hnr hnc hb hcost
  unfold netV
  have HEv := hid (fun (W : World) (hb : Bytes W aM lM) => envOf_spec aM lM cM p l c W hb (by omega) (by omega))
  have HDn := hid (fun (W : World) (hb : Bytes W aM lM) => downOf_spec aM lM cM p l c W hb (by omega) (by omega))
  unfold netV at HEv HDn
  go_wp2_with fail
  have HA1 : Hid (Below w1.heap.size w1 (w1.alloc (.cells #[.slice (p 0) (l 0) (c 0), .slice (p 1) (l 1) (c 1), .slice (p 2) (l 2) (c 2), .slice (p 3) (l 3) (c 3), .slice (p 4) (l 4) (c 4), .slice (p 5) (l 5) (c 5)] 29))) := (by repeat (first | exact Below.refl _ _ | assumption | refine Below.drew ?_ | refine Below.alloc ?_ (by first | exact Nat.le_refl _ | omega | (simp; done) | (simp; omega)) _ | refine Below.setCell ?_ (by first | exact Nat.le_refl _ | omega | (simp; done) | (simp; omega)) _))
  have hcn : World.cell? (w1.alloc (.cells #[.slice (p 0) (l 0) (c 0), .slice (p 1) (l 1) (c 1), .slice (p 2) (l 2) (c 2), .slice (p 3) (l 3) (c 3), .slice (p 4) (l 4) (c 4), .slice (p 5) (l 5) (c 5)] 29)) ⟨w1.heap.size, 0, none⟩ = some (.slice (p 0) (l 0) (c 0)) ∧ World.cell? (w1.alloc (.cells #[.slice (p 0) (l 0) (c 0), .slice (p 1) (l 1) (c 1), .slice (p 2) (l 2) (c 2), .slice (p 3) (l 3) (c 3), .slice (p 4) (l 4) (c 4), .slice (p 5) (l 5) (c 5)] 29)) ⟨w1.heap.size, 1, none⟩ = some (.slice (p 1) (l 1) (c 1)) ∧ World.cell? (w1.alloc (.cells #[.slice (p 0) (l 0) (c 0), .slice (p 1) (l 1) (c 1), .slice (p 2) (l 2) (c 2), .slice (p 3) (l 3) (c 3), .slice (p 4) (l 4) (c 4), .slice (p 5) (l 5) (c 5)] 29)) ⟨w1.heap.size, 2, none⟩ = some (.slice (p 2) (l 2) (c 2)) ∧ World.cell? (w1.alloc (.cells #[.slice (p 0) (l 0) (c 0), .slice (p 1) (l 1) (c 1), .slice (p 2) (l 2) (c 2), .slice (p 3) (l 3) (c 3), .slice (p 4) (l 4) (c 4), .slice (p 5) (l 5) (c 5)] 29)) ⟨w1.heap.size, 3, none⟩ = some (.slice (p 3) (l 3) (c 3)) ∧ World.cell? (w1.alloc (.cells #[.slice (p 0) (l 0) (c 0), .slice (p 1) (l 1) (c 1), .slice (p 2) (l 2) (c 2), .slice (p 3) (l 3) (c 3), .slice (p 4) (l 4) (c 4), .slice (p 5) (l 5) (c 5)] 29)) ⟨w1.heap.size, 4, none⟩ = some (.slice (p 4) (l 4) (c 4)) ∧ World.cell? (w1.alloc (.cells #[.slice (p 0) (l 0) (c 0), .slice (p 1) (l 1) (c 1), .slice (p 2) (l 2) (c 2), .slice (p 3) (l 3) (c 3), .slice (p 4) (l 4) (c 4), .slice (p 5) (l 5) (c 5)] 29)) ⟨w1.heap.size, 5, none⟩ = some (.slice (p 5) (l 5) (c 5)) := by refine ⟨?_, ?_, ?_, ?_, ?_, ?_⟩ <;> simp [go_sem]
  have hzn : w1.heap.size < (w1.alloc (.cells #[.slice (p 0) (l 0) (c 0), .slice (p 1) (l 1) (c 1), .slice (p 2) (l 2) (c 2), .slice (p 3) (l 3) (c 3), .slice (p 4) (l 4) (c 4), .slice (p 5) (l 5) (c 5)] 29)).heap.size := by simp
  generalize w1.alloc (.cells #[.slice (p 0) (l 0) (c 0), .slice (p 1) (l 1) (c 1), .slice (p 2) (l 2) (c 2), .slice (p 3) (l 3) (c 3), .slice (p 4) (l 4) (c 4), .slice (p 5) (l 5) (c 5)] 29) = w2 at *
  have HB2 := hid (HB1.out.trans (HA1.out.mono HB1.out.size))
  have HK : Hid (∀ w8 : World, Below w2.heap.size w2 w8 → (World.cell? w8 ⟨w1.heap.size, 0, none⟩ = some (.slice (p 0) (l 0) (c 0)) ∧ World.cell? w8 ⟨w1.heap.size, 1, none⟩ = some (.slice (p 1) (l 1) (c 1)) ∧ World.cell? w8 ⟨w1.heap.size, 2, none⟩ = some (.slice (p 2) (l 2) (c 2)) ∧ World.cell? w8 ⟨w1.heap.size, 3, none⟩ = some (.slice (p 3) (l 3) (c 3)) ∧ World.cell? w8 ⟨w1.heap.size, 4, none⟩ = some (.slice (p 4) (l 4) (c 4)) ∧ World.cell? w8 ⟨w1.heap.size, 5, none⟩ = some (.slice (p 5) (l 5) (c 5))) ∧ NetIs w8 p l sN g o e x f ∧ Below w.heap.size w w8 ∧ w1.heap.size < w8.heap.size) := fun w8 h => by
    obtain ⟨a0, a1, a2, a3, a4, a5⟩ := hcn
    exact ⟨⟨keep h a0, keep h a1, keep h a2, keep h a3, keep h a4, keep h a5⟩, (HN1.out.below HA1.out).below h, HB2.out.trans (h.mono HB2.out.size), by have := h.size; omega⟩
  clear hcn hzn HA1 HN1 HB1
  refine (HEv.out _ (bytes_below HM.out HB2.out)).mono ?_
  rintro e' w3 ⟨v3, env, rfl, ho3, hel, hez, hb3⟩
  obtain ⟨ea, ec, rfl, hrow3⟩ := OwnInts.form ho3
  have HEr := hid hrow3
  have HEl := hid hel
  have HEz := hid hez
  have HB3 := hid hb3
  clear ho3 hrow3 hel hez hb3
  obtain ⟨⟨q0, q1, q2, q3, q4, q5⟩, hnet, hB, hz⟩ := HK.out w3 HB3.out
  have BW := hid hB
  clear hnet hB
  go_wp2_with fail
  refine (HDn.out _ (bytes_below HM.out BW.out)).mono ?_
  rintro e' w4 ⟨v4, ds, rfl, ho4, hdl, -, hb4⟩
  obtain ⟨da, dc, rfl, hrow4⟩ := OwnBools.form ho4
  have HDr := hid hrow4
  have HDl := hid hdl
  have HEr4 := hid (HEr.out.below hb4)
  have HB4 := hid (HB3.out.trans (hb4.mono HB3.out.size))
  clear ho4 hrow4 hdl hb4 HEr HB3 HEv HDn BW hz
  clear q0 q1 q2 q3 q4 q5
  have HD0 : Hid (envC (netB l sN g o e x f) env.length ds.length (l 3) (l 1) env = 0) := hid (by
    rw [HNr.out, ← HEl.out, ← HDl.out]
    exact env_good HEz.out (by rw [HEl.out]; omega) (by rw [HDl.out]; omega))
  have HST : Hid (∀ W : World, Below w4.heap.size w4 W → Calls Try.prog 7 #[netV p l c, .slice ea env.length ec, .slice da ds.length dc] W fun e' w' => ∃ v ps, e' = .returned (.tuple #[v, .int .i64 0]) ∧ OwnRR W.heap.size w' v ps ∧ ps.map Prod.snd = ssL 0 g (l 1) o e x (l 4) env ds (l 0) ∧ Below W.heap.size W w') := hid (fun W hb => by
    have := ss_spec p l c sN g o e x f ea da env.length ec ds.length dc env ds W (HK.out W (HB4.out.trans (hb.mono HB4.out.size))).2.1 HNc.out.1 HNc.out.2 (HEr4.out.below hb) (HDr.out.below hb)
    rw [HD0.out] at this
    exact this)
  have HFs : Hid (∀ zs ∈ ssL 0 g (l 1) o e x (l 4) env ds (l 0), zs.length = l 0 ∧ ∃ vs, Fine g (l 1) ds (l 0) (rF zs) vs) := hid (fun zs hz => by
    unfold ssL at hz
    rw [if_pos rfl] at hz
    exact state_fine HNr.out (env_pos HEz.out) hz)
  have HFw : Hid ((ssL 0 g (l 1) o e x (l 4) env ds (l 0)).length ≤ 2401) := hid (by
    unfold ssL
    rw [if_pos rfl]
    exact states_few hl0.2)
  obtain ⟨SL, hSL⟩ : ∃ q, ssL 0 g (l 1) o e x (l 4) env ds (l 0) = q := ⟨_, rfl⟩
  rw [hSL] at HST HFs HFw
  clear hSL HD0 HEz HEr4
  unfold netV at HST
  obtain ⟨⟨q0, q1, q2, q3, q4, q5⟩, -, -, hz⟩ := HK.out w4 HB4.out
  obtain ⟨en, hen⟩ : ∃ n, env.length = n := ⟨_, rfl⟩
  obtain ⟨dn, hdn⟩ : ∃ n, ds.length = n := ⟨_, rfl⟩
  rw [hen, hdn] at HST
  rw [hdn] at HDr HDl
  rw [hen, hdn]
  clear hen hdn HEl
  go_wp2_with fail
  refine (HST.out _ (Below.refl _ _)).mono ?_
  rintro e' w5 ⟨v5, ps, rfl, ho5, hps, hb5⟩
  have HB5 := hid (HB4.out.trans (hb5.mono HB4.out.size))
  have HDr5 := hid (HDr.out.below hb5)
  obtain ⟨a5, c5, rfl⟩ := ho5.form
  have HO5 := hid ho5
  have hnp24 : ps.length ≤ 2401 := by
    have : ps.length = SL.length := by rw [← hps, List.length_map]
    rw [this]; exact HFw.out
  have HPs := hid hps
  clear ho5 hb5 hz hps HDr HST HFw HB4
  clear q0 q1 q2 q3 q4 q5
  obtain ⟨np, hnp⟩ : ∃ n, ps.length = n := ⟨_, rfl⟩
  have HNp := hid hnp
  rw [hnp] at HO5 hnp24 ⊢
  clear hnp
  go_wp2_with fail
  go_loopw [10] (fun i wr => ∃ k : Nat, k ≤ np ∧ i = .int .i64 k ∧ Below w5.heap.size w5 wr) (fun i _ => np - (intOf i).toNat)
  case atStart => exact ⟨0, Nat.zero_le _, rfl, Below.refl _ _⟩
  case round =>
    obtain ⟨k, hk, rfl, hbel⟩ := hrel
    have HBl := hid hbel
    have H2r := hid (HB5.out.trans (hbel.mono HB5.out.size))
    obtain ⟨⟨q0, q1, q2, q3, q4, q5⟩, -, hBw, hz⟩ := HK.out wr H2r.out
    have HBw := hid hBw
    clear hbel hBw
    by_cases hlt : k < np
    · have hlt' : k < ps.length := by rw [HNp.out]; exact hlt
      obtain ⟨gb, rfl, -⟩ := rr_cell HO5.out hlt'
      have hfine := HFs.out ps[k].2 (by rw [← HPs.out]; exact List.mem_map.2 ⟨_, List.getElem_mem hlt', rfl⟩)
      have HZ : Hid (∀ W : World, Below w5.heap.size w5 W → W.cell? ⟨gb, k, none⟩ = some (rvR ps[k]) ∧ OwnRts w4.heap.size W (rvR ps[k]) ps[k].2) := hid (fun W hb => by
        obtain ⟨gb', eg, hc⟩ := rr_cell (HO5.out.below hb) hlt'
        have e1 : gb = gb' := by injection eg with eg; injection eg
        subst e1
        exact ⟨hc, (HO5.out.below hb).inner ps[k] (List.getElem_mem hlt')⟩)
      obtain ⟨q, hq⟩ : ∃ q, ps[k] = q := ⟨_, rfl⟩
      rw [hq] at HZ hfine
      clear hq hlt'
      obtain ⟨⟨ga, gc⟩, zs⟩ := q
      unfold rvR at HZ
      dsimp only at HZ hfine
      obtain ⟨hzl, vs, hfi⟩ := hfine
      obtain ⟨nR, hnR⟩ : ∃ n, zs.length = n := ⟨_, rfl⟩
      rw [hnR] at HZ hzl
      have HFi := hid hfi
      have HnR := hid hzl
      have hn4 : nR ≤ 4 := by omega
      have hgbl : gb < w5.heap.size := World.block_lt_of_cell? _ _ (HZ.out w5 (Below.refl _ _)).1
      clear hfi hnR hzl
      have HAt : Hid (∀ W : World, Bytes W aM lM → Calls Try.prog 8 #[.slice aM lM cM, .int .i64 (k : Int), .int .i64 (l 0 : Int)] W fun e w' => ∃ r : Nat, e = .returned (.int .i64 r) ∧ r < l 0 ∧ Below W.heap.size W w') := hid (fun W hb => at_any k (l 0) (by omega) hl0.1 (by omega) aM lM cM W hb (by omega))
      have HAt2 : Hid (∀ W : World, Bytes W aM lM → Calls Try.prog 8 #[.slice aM lM cM, .int .i64 ((k : Int) + 1), .int .i64 16] W fun e w' => ∃ r : Nat, e = .returned (.int .i64 r) ∧ r < 16 ∧ Below W.heap.size W w') := hid (fun W hb => at_any (k + 1) 16 (by omega) (by omega) (by omega) aM lM cM W hb (by omega))
      go_wp2_with fail
      refine (HAt.out _ (bytes_below HM.out HBw.out)).mono ?_
      rintro e' w6' ⟨fr, rfl, hfr, hb6⟩
      have HB6' := hid (HBl.out.trans (hb6.mono HBl.out.size))
      have HC6' := hid (HBw.out.trans (hb6.mono HBw.out.size))
      clear hb6 HAt
      go_wp2_with fail
      refine (HAt2.out _ (bytes_below HM.out HC6'.out)).mono ?_
      rintro e' w6 ⟨po, rfl, hpo, hb6⟩
      have HB6 := hid (HB6'.out.trans (hb6.mono HB6'.out.size))
      clear hb6 HAt2 HB6' HC6' HBw H2r hz HBl
      clear q0 q1 q2 q3 q4 q5
      have H6 := hid (HB5.out.trans (HB6.out.mono HB5.out.size))
      have HDr6 := hid (HDr5.out.below HB6.out)
      have HRow := hid (rts_row (HZ.out w6 HB6.out).2)
      have HC0 : Hid (fC l sN g o e x f dn nR ds (rF zs) (fr : Int) (po : Int) = 0) := hid (by
        have hfine := HFi.out
        unfold fC fwC
        rw [HnR.out, HDl.out, HNr.out, hfine.right, hfine.up, if_neg (by omega), if_neg (by decide), if_neg ?_, if_neg (by decide)]
        unfold inB
        simp
        omega)
      obtain ⟨O, hO⟩ : ∃ q, wayO (rF zs) f (l 5) (po : Int) nR (fr : Int) = q := ⟨_, rfl⟩
      obtain ⟨PP, hPP⟩ : ∃ q, (fr : Int) :: wayR (rF zs) f (l 5) (po : Int) nR (fr : Int) = q := ⟨_, rfl⟩
      have HAs : Hid (Asks (rF zs) nR (fr : Int) O PP) := hid (by
        rw [← hO, ← hPP, HnR.out]
        exact asks_of HFi.out hl0.2 f (l 5) (po : Int) hfr)
      have HFI : Hid (∀ W : World, Below w6.heap.size w6 W → Calls Try.prog 9 #[.agg #[.slice (p 0) (l 0) (c 0), .slice (p 1) (l 1) (c 1), .slice (p 2) (l 2) (c 2), .slice (p 3) (l 3) (c 3), .slice (p 4) (l 4) (c 4), .slice (p 5) (l 5) (c 5)], .slice da dn dc, .slice (some ⟨ga, 0, none⟩) nR gc, .int .i64 (fr : Int), .int .i64 (po : Int)] W fun e' w' => ∃ v, e' = .returned (.tuple #[.agg #[.int .i64 O, v], .int .i64 0]) ∧ OwnInts W.heap.size w' v PP ∧ Below W.heap.size W w') := hid (fun W hb => by
        have := forward_impl p l c sN g o e x f da (some ⟨ga, 0, none⟩) dn dc nR gc ds (rF zs) (fr : Int) (po : Int) W ((HK.out W (H6.out.trans (hb.mono H6.out.size))).2.1) HNc.out.1 HNc.out.2 (HDr6.out.below hb) (HRow.out.below hb)
        rw [HC0.out] at this
        rw [(yes_out (rF zs) f (l 5) (po : Int) nR (fr : Int)).1, (yes_out (rF zs) f (l 5) (po : Int) nR (fr : Int)).2, hO, hPP] at this
        exact this)
      have HFSp : Hid (∀ W : World, Below w6.heap.size w6 W → Calls Try.prog 10 #[.agg #[.slice (p 0) (l 0) (c 0), .slice (p 1) (l 1) (c 1), .slice (p 2) (l 2) (c 2), .slice (p 3) (l 3) (c 3), .slice (p 4) (l 4) (c 4), .slice (p 5) (l 5) (c 5)], .slice da dn dc, .slice (some ⟨ga, 0, none⟩) nR gc, .int .i64 (fr : Int), .int .i64 (po : Int)] W fun e' w' => ∃ v, e' = .returned (.tuple #[.agg #[.int .i64 O, v], .int .i64 0]) ∧ OwnInts W.heap.size w' v PP ∧ Below W.heap.size W w') := hid (fun W hb => by
        have := forward_spec p l c sN g o e x f da (some ⟨ga, 0, none⟩) dn dc nR gc ds (rF zs) (fr : Int) (po : Int) W ((HK.out W (H6.out.trans (hb.mono H6.out.size))).2.1) HNc.out.1 HNc.out.2 (HDr6.out.below hb) (HRow.out.below hb)
        rw [HC0.out] at this
        rw [(yes_out (rF zs) f (l 5) (po : Int) nR (fr : Int)).1, (yes_out (rF zs) f (l 5) (po : Int) nR (fr : Int)).2, hO, hPP] at this
        exact this)
      have HSat : Hid (∀ (W : World) (kd : Int) (pa : Option Addr) (pc : Nat), Below w6.heap.size w6 W → (kd = 1 ∨ kd = 2) → Calls Try.prog 12 #[.agg #[.slice (p 0) (l 0) (c 0), .slice (p 1) (l 1) (c 1), .slice (p 2) (l 2) (c 2), .slice (p 3) (l 3) (c 3), .slice (p 4) (l 4) (c 4), .slice (p 5) (l 5) (c 5)], .agg #[.int .i64 kd, .int .i64 (fr : Int), .int .i64 (-1), .int .i64 0], .agg #[.int .i64 O, .slice pa PP.length pc]] W fun e' w' => e' = .returned (.tuple #[.bool (if kd = 1 then decide (O ≤ 2) else !decide (O ≤ 2)), .int .i64 0]) ∧ Below W.heap.size W w') := hid (fun W kd pa pc hb hk => by
        have hO4 : 1 ≤ O ∧ O ≤ 4 := by rcases HAs.out.last with h | h | h | h <;> omega
        refine sat_impl p l c sN g o e x f kd (fr : Int) O pa PP.length pc W ((HK.out W (H6.out.trans (hb.mono H6.out.size))).2.1) HNc.out.1 HNc.out.2 ?_ hk hO4
        rw [HNr.out]
        unfold propB inB
        rcases hk with rfl | rfl <;> simp <;> omega)
      have HZ6 : Hid (∀ W : World, Below w6.heap.size w6 W → (World.cell? W ⟨w1.heap.size, 0, none⟩ = some (.slice (p 0) (l 0) (c 0)) ∧ World.cell? W ⟨w1.heap.size, 1, none⟩ = some (.slice (p 1) (l 1) (c 1)) ∧ World.cell? W ⟨w1.heap.size, 2, none⟩ = some (.slice (p 2) (l 2) (c 2)) ∧ World.cell? W ⟨w1.heap.size, 3, none⟩ = some (.slice (p 3) (l 3) (c 3)) ∧ World.cell? W ⟨w1.heap.size, 4, none⟩ = some (.slice (p 4) (l 4) (c 4)) ∧ World.cell? W ⟨w1.heap.size, 5, none⟩ = some (.slice (p 5) (l 5) (c 5))) ∧ W.cell? ⟨gb, k, none⟩ = some (.slice (some ⟨ga, 0, none⟩) nR gc) ∧ RtRow W (some ⟨ga, 0, none⟩) nR (rF zs) ∧ Below w5.heap.size w5 W) := hid (fun W hb => by
        have h9 := HB6.out.trans (hb.mono HB6.out.size)
        exact ⟨(HK.out W (H6.out.trans (hb.mono H6.out.size))).1, (HZ.out W h9).1, rts_row (HZ.out W h9).2, h9⟩)
      have hgb6 : gb < w6.heap.size := Nat.lt_of_lt_of_le hgbl HB6.out.size
      have hnb6 : w1.heap.size < w6.heap.size := (HK.out w6 H6.out).2.2.2
      clear hO hPP HC0 HFi HZ HRow HDr6 HNr
      go_upto_region 12 with fail
      refine region_mk (fun uu => ⟨#[.slice aC lC cC, .slice aM lM cM, undef, undef, u4, .pointer (some ⟨w1.heap.size, 0, none⟩), .slice ea en ec, .slice da dn dc, .slice (some ⟨gb, 0, none⟩) np c5, .int .i64 0, .int .i64 ↑k, .int .i64 ↑fr, .int .i64 ↑po, uu 13, uu 14, u15, u16, u17, u18, u19, u20, u21, u22, .slice aC lC cC, .int .i64 ↑lC, .bool false, .bool false, .slice aM lM cM, .int .i64 ↑lM, .bool false, .bool false, .slice aC lC cC, .agg #[.slice (p 0) (l 0) (c 0), .slice (p 1) (l 1) (c 1), .slice (p 2) (l 2) (c 2), .slice (p 3) (l 3) (c 3), .slice (p 4) (l 4) (c 4), .slice (p 5) (l 5) (c 5)], .slice aM lM cM, .agg #[.slice (p 0) (l 0) (c 0), .slice (p 1) (l 1) (c 1), .slice (p 2) (l 2) (c 2), .slice (p 3) (l 3) (c 3), .slice (p 4) (l 4) (c 4), .slice (p 5) (l 5) (c 5)], .slice ea en ec, .slice aM lM cM, .agg #[.slice (p 0) (l 0) (c 0), .slice (p 1) (l 1) (c 1), .slice (p 2) (l 2) (c 2), .slice (p 3) (l 3) (c 3), .slice (p 4) (l 4) (c 4), .slice (p 5) (l 5) (c 5)], .slice da dn dc, .tuple #[.slice (some ⟨gb, 0, none⟩) np c5, .int .i64 0], .agg #[.slice (p 0) (l 0) (c 0), .slice (p 1) (l 1) (c 1), .slice (p 2) (l 2) (c 2), .slice (p 3) (l 3) (c 3), .slice (p 4) (l 4) (c 4), .slice (p 5) (l 5) (c 5)], .slice ea en ec, .slice da dn dc, .tuple #[.slice (some ⟨gb, 0, none⟩) np c5, .int .i64 0], .slice (some ⟨gb, 0, none⟩) np c5, .int .i64 0, .int .i64 ↑k, .slice (some ⟨gb, 0, none⟩) np c5, .int .i64 ↑np, .bool true, u50, u51, .slice aM lM cM, .int .i64 ↑k, .pointer (some ⟨w1.heap.size, 0, none⟩), .slice (p 0) (l 0) (c 0), .int .i64 ↑(l 0), .int .i64 ↑fr, .slice aM lM cM, .int .i64 ↑k, .int .i64 (↑k + 1), .int .i64 ↑po, uu 62, uu 63, uu 64, uu 65, uu 66, uu 67, uu 68, uu 69, uu 70, uu 71, uu 72, uu 73, u74, u75, u76, u77, u78, u79, u80, u81, u82, u83, u84, u85, u86, u87, u88, u89, u90, u91, u92, u93, u94, u95, u96, u97, u98, u99, u100, u101, u102, u103, u104, u105, u106, u107, u108, u109, u110, u111, u112, u113, u114, u115, u116, u117, u118, u119, u120, u121, u122, u123, u124, u125, u126, u127, u128, u129, u130, u131, u132, u133, u134, u135, u136, u137, u138, u139, u140, u141, u142, u143, u144, u145, u146, u147, u148, u149, u150, u151, u152, u153, u154, u155, u156, u157, u158, u159, u160, u161, u162, u163, u164, u165, u166, u167, u168, u169, u170, u171, u172, u173, u174, u175, u176, u177, u178, u179, u180, u181, u182, u183, u184, u185, u186, u187, u188, u189, u190, u191, u192, u193, u194, u195, u196, u197, u198, u199, u200, u201, u202, u203, u204, u205, u206, u207, u208, u209, u210, u211, u212, u213, u214, u215, u216, u217, u218, u219, u220, u221, u222, u223, u224, u225], []⟩) (fun i => [some 63, some 64, some 65, some 66, some 67, some 68, some 69, some 70, some 71, some 62, some 72, some 73, some 13, none, some 14].getD i none) (fun i v w8 => match i with | 0 => v = .agg #[.slice (p 0) (l 0) (c 0), .slice (p 1) (l 1) (c 1), .slice (p 2) (l 2) (c 2), .slice (p 3) (l 3) (c 3), .slice (p 4) (l 4) (c 4), .slice (p 5) (l 5) (c 5)] | 1 => v = .slice da dn dc | 2 => v = .slice (some ⟨gb, 0, none⟩) np c5 | 3 => v = .int .i64 (k : Int) | 4 => v = .pointer (some ⟨gb, k, none⟩) | 5 => v = .slice (some ⟨ga, 0, none⟩) nR gc | 6 => v = .int .i64 (fr : Int) | 7 => v = .int .i64 (po : Int) | 8 => ∃ (vq : Value), v = .tuple #[.agg #[.int .i64 O, vq], .int .i64 0] ∧ OwnInts w6.heap.size w8 vq PP | 9 => ∃ (vq : Value), v = .tuple #[.agg #[.int .i64 O, vq], .int .i64 0] ∧ OwnInts w6.heap.size w8 vq PP | 10 => ∃ (vq : Value), v = .agg #[.int .i64 O, vq] ∧ OwnInts w6.heap.size w8 vq PP | 11 => True | 12 => ∃ N : Nat, v = .pointer (some ⟨N, 0, none⟩) ∧ w6.heap.size ≤ N ∧ World.rowIs w8 N 39 2 (fun i => if i = 0 then .int .i64 0 else .slice none 0 0) | 14 => True | _ => True) (fun i v => match i with | 9 => ∃ (vq : Value), v = .tuple #[vq, .int .i64 0] | 11 => v = .int .i64 0 | 14 => v = .int .i64 0 | _ => True) (fun uu w8 => ∃ (N : Nat) (pa : Option Addr) (pc : Nat), uu 13 = .pointer (some ⟨N, 0, none⟩) ∧ w6.heap.size ≤ N ∧ World.rowIs w8 N 39 2 (fun i => if i = 0 then .int .i64 O else .slice pa PP.length pc) ∧ OwnInts w6.heap.size w8 (.slice pa PP.length pc) PP ∧ Below w6.heap.size w6 w8) w6 15 13 (fun i => decide (i = 11) || decide (i = 14)) (fun k => match k with | 63 => u63 | 64 => u64 | 65 => u65 | 66 => u66 | 67 => u67 | 68 => u68 | 69 => u69 | 70 => u70 | 71 => u71 | 62 => u62 | 72 => u72 | 73 => u73 | 13 => u13 | 14 => u14 | _ => undef) (by rfl) (by kernel_rfl) (by rfl) (by kernel_rfl) (by decide) rfl (by kernel_rfl) (Below.refl _ _) ?hput ?hinj ?hsome ?hom ?stable ?hpsi ?step ?stepL ?store ?fin
      case hput =>
        intro i hi uu v
        match i, hi with
        | 0, _ => rfl
        | 1, _ => rfl
        | 2, _ => rfl
        | 3, _ => rfl
        | 4, _ => rfl
        | 5, _ => rfl
        | 6, _ => rfl
        | 7, _ => rfl
        | 8, _ => rfl
        | 9, _ => rfl
        | 10, _ => rfl
        | 11, _ => rfl
        | 12, _ => rfl
        | 13, _ => rfl
        | 14, _ => rfl
        | i + 15, hi => exact absurd hi (by omega)
      case hinj =>
        intro i j hi hj _ h
        have h9 : ∀ i, i < 15 → ∀ j, j < 15 → [some 63, some 64, some 65, some 66, some 67, some 68, some 69, some 70, some 71, some 62, some 72, some 73, some 13, none, some 14].getD i none = [some 63, some 64, some 65, some 66, some 67, some 68, some 69, some 70, some 71, some 62, some 72, some 73, some 13, none, some 14].getD j none → i = j := by decide
        exact h9 i hi j hj h
      case hsome =>
        intro i hi hne
        have h9 : ∀ i, i < 15 → i ≠ 13 → [some 63, some 64, some 65, some 66, some 67, some 68, some 69, some 70, some 71, some 62, some 72, some 73, some 13, none, some 14].getD i none ≠ none := by decide
        exact h9 i hi hne
      case hom =>
        intro i v w8 hl h
        match i, hl, h with
        | 0, hl, h => trivial
        | 1, hl, h => trivial
        | 2, hl, h => trivial
        | 3, hl, h => trivial
        | 4, hl, h => trivial
        | 5, hl, h => trivial
        | 6, hl, h => trivial
        | 7, hl, h => trivial
        | 8, hl, h => trivial
        | 9, hl, h => (obtain ⟨vq, e9, -⟩ := h; exact ⟨_, e9⟩)
        | 10, hl, h => trivial
        | 11, hl, h => exact absurd hl (by decide)
        | 12, hl, h => trivial
        | 13, hl, h => trivial
        | 14, hl, h => exact absurd hl (by decide)
        | _ + 15, hl, h => trivial
      case stable =>
        intro i v w8 w9 hb h
        match i, hb, h with
        | 0, hb, h => exact h
        | 1, hb, h => exact h
        | 2, hb, h => exact h
        | 3, hb, h => exact h
        | 4, hb, h => exact h
        | 5, hb, h => exact h
        | 6, hb, h => exact h
        | 7, hb, h => exact h
        | 8, hb, h => (obtain ⟨vq, e9, ho⟩ := h; exact ⟨vq, e9, ho.below hb⟩)
        | 9, hb, h => (obtain ⟨vq, e9, ho⟩ := h; exact ⟨vq, e9, ho.below hb⟩)
        | 10, hb, h => (obtain ⟨vq, e9, ho⟩ := h; exact ⟨vq, e9, ho.below hb⟩)
        | 11, hb, h => exact h
        | 12, hb, h => (obtain ⟨N, e9, hN, hrw⟩ := h; exact ⟨N, e9, hN, hrw.of_block (hb.block N hrw.lt)⟩)
        | 13, hb, h => trivial
        | 14, hb, h => exact h
        | _ + 15, hb, h => trivial
      case hpsi =>
        intro i hi hl uu v w8 h
        match i, hi, hl, h with
        | 0, _, hl, h => exact absurd hl (by decide)
        | 1, _, hl, h => exact absurd hl (by decide)
        | 2, _, hl, h => exact absurd hl (by decide)
        | 3, _, hl, h => exact absurd hl (by decide)
        | 4, _, hl, h => exact absurd hl (by decide)
        | 5, _, hl, h => exact absurd hl (by decide)
        | 6, _, hl, h => exact absurd hl (by decide)
        | 7, _, hl, h => exact absurd hl (by decide)
        | 8, _, hl, h => exact absurd hl (by decide)
        | 9, _, hl, h => exact absurd hl (by decide)
        | 10, _, hl, h => exact absurd hl (by decide)
        | 11, _, hl, h => exact h
        | 12, _, hl, h => exact absurd hl (by decide)
        | 13, _, hl, h => exact absurd hl (by decide)
        | 14, _, hl, h => exact h
        | i + 15, hi, _, _ => exact absurd hi (by omega)
      case step =>
        intro i hi hne hl uu w8 S8 hdep
        match i, hi, hne, hl, hdep with
        | 0, _, _, _, hdep =>
          clear hdep
          refine ⟨_, rfl, fun K' hK => ?_⟩
          obtain ⟨⟨q0, q1, q2, q3, q4, q5⟩, hce, hro, -⟩ := HZ6.out w8 ((Below.refl w6.heap.size w6).trans (S8.mono (Below.refl w6.heap.size w6).size))
          go_simp
          exact hK.out _ _ (Below.refl _ _) (rfl)
        | 1, _, _, _, hdep =>
          clear hdep
          refine ⟨_, rfl, fun K' hK => ?_⟩
          go_simp
          exact hK.out _ _ (Below.refl _ _) (rfl)
        | 2, _, _, _, hdep =>
          clear hdep
          refine ⟨_, rfl, fun K' hK => ?_⟩
          go_simp
          exact hK.out _ _ (Below.refl _ _) (rfl)
        | 3, _, _, _, hdep =>
          clear hdep
          refine ⟨_, rfl, fun K' hK => ?_⟩
          go_simp
          exact hK.out _ _ (Below.refl _ _) (rfl)
        | 4, _, _, _, hdep =>
          have h2 : (uu 65) = .slice (some ⟨gb, 0, none⟩) np c5 := hdep 2 (by kernel_rfl) (by decide)
          have h3 : (uu 66) = .int .i64 (k : Int) := hdep 3 (by kernel_rfl) (by decide)
          clear hdep
          refine ⟨_, rfl, fun K' hK => ?_⟩
          simp only [h2, h3] at hK ⊢
          go_simp
          exact hK.out _ _ (Below.refl _ _) (rfl)
        | 5, _, _, _, hdep =>
          have h4 : (uu 67) = .pointer (some ⟨gb, k, none⟩) := hdep 4 (by kernel_rfl) (by decide)
          clear hdep
          refine ⟨_, rfl, fun K' hK => ?_⟩
          obtain ⟨⟨q0, q1, q2, q3, q4, q5⟩, hce, hro, -⟩ := HZ6.out w8 ((Below.refl w6.heap.size w6).trans (S8.mono (Below.refl w6.heap.size w6).size))
          simp only [h4] at hK ⊢
          go_simp
          exact hK.out _ _ (Below.refl _ _) (rfl)
        | 6, _, _, _, hdep =>
          clear hdep
          refine ⟨_, rfl, fun K' hK => ?_⟩
          go_simp
          exact hK.out _ _ (Below.refl _ _) (rfl)
        | 7, _, _, _, hdep =>
          clear hdep
          refine ⟨_, rfl, fun K' hK => ?_⟩
          go_simp
          exact hK.out _ _ (Below.refl _ _) (rfl)
        | 8, _, _, _, hdep =>
          have h0 : (uu 63) = .agg #[.slice (p 0) (l 0) (c 0), .slice (p 1) (l 1) (c 1), .slice (p 2) (l 2) (c 2), .slice (p 3) (l 3) (c 3), .slice (p 4) (l 4) (c 4), .slice (p 5) (l 5) (c 5)] := hdep 0 (by kernel_rfl) (by decide)
          have h1 : (uu 64) = .slice da dn dc := hdep 1 (by kernel_rfl) (by decide)
          have h5 : (uu 68) = .slice (some ⟨ga, 0, none⟩) nR gc := hdep 5 (by kernel_rfl) (by decide)
          have h6 : (uu 69) = .int .i64 (fr : Int) := hdep 6 (by kernel_rfl) (by decide)
          have h7 : (uu 70) = .int .i64 (po : Int) := hdep 7 (by kernel_rfl) (by decide)
          clear hdep
          refine ⟨_, rfl, fun K' hK => ?_⟩
          simp only [h0, h1, h5, h6, h7] at hK ⊢
          go_simp
          refine (HFI.out _ ((Below.refl w6.heap.size w6).trans (S8.mono (Below.refl w6.heap.size w6).size))).mono ?_
          rintro e9 w9 ⟨v9, rfl, ho9, hb9⟩
          exact hK.out _ _ hb9 ⟨v9, rfl, ho9.mono (Nat.le_trans (Below.refl w6.heap.size w6).size S8.size)⟩
        | 9, _, _, _, hdep =>
          have h8 : ∃ (vq : Value), (uu 71) = .tuple #[.agg #[.int .i64 O, vq], .int .i64 0] ∧ OwnInts w6.heap.size w8 vq PP := hdep 8 (by kernel_rfl) (by decide)
          clear hdep
          refine ⟨_, rfl, fun K' hK => ?_⟩
          obtain ⟨vq, e9, ho⟩ := h8
          simp only [e9] at hK ⊢
          go_simp
          exact hK.out _ _ (Below.refl _ _) (⟨vq, rfl, ho⟩)
        | 10, _, _, _, hdep =>
          have h9 : ∃ (vq : Value), (uu 62) = .tuple #[.agg #[.int .i64 O, vq], .int .i64 0] ∧ OwnInts w6.heap.size w8 vq PP := hdep 9 (by kernel_rfl) (by decide)
          clear hdep
          refine ⟨_, rfl, fun K' hK => ?_⟩
          obtain ⟨vq, e9, ho⟩ := h9
          simp only [e9] at hK ⊢
          go_simp
          exact hK.out _ _ (Below.refl _ _) (⟨vq, rfl, ho⟩)
        | 11, _, _, hl, _ => exact absurd hl (by decide)
        | 12, _, _, _, hdep =>
          clear hdep
          refine ⟨_, rfl, fun K' hK => ?_⟩
          go_simp
          exact hK.out _ _ (by repeat (first | exact Below.refl _ _ | assumption | refine Below.drew ?_ | refine Below.alloc ?_ (by first | exact Nat.le_refl _ | omega | (simp; done) | (simp; omega)) _ | refine Below.setCell ?_ (by first | exact Nat.le_refl _ | omega | (simp; done) | (simp; omega)) _)) ⟨w8.heap.size, rfl, S8.size, World.rowIs_alloc w8 #[.int .i64 0, .slice none 0 0] _ _ (fun i hi => by
            have h3 : i < 2 := hi
            rcases (show i = 0 ∨ i = 1 by omega) with rfl | rfl <;> rfl)⟩
        | 13, _, hne, _, _ => exact absurd rfl hne
        | 14, _, _, hl, _ => exact absurd hl (by decide)
        | i + 15, hi, _, _, _ => exact absurd hi (by omega)
      case stepL =>
        intro i hi hne hl uu w8 hdep
        match i, hi, hne, hl, hdep with
        | 0, _, _, hl, _ => exact absurd hl (by decide)
        | 1, _, _, hl, _ => exact absurd hl (by decide)
        | 2, _, _, hl, _ => exact absurd hl (by decide)
        | 3, _, _, hl, _ => exact absurd hl (by decide)
        | 4, _, _, hl, _ => exact absurd hl (by decide)
        | 5, _, _, hl, _ => exact absurd hl (by decide)
        | 6, _, _, hl, _ => exact absurd hl (by decide)
        | 7, _, _, hl, _ => exact absurd hl (by decide)
        | 8, _, _, hl, _ => exact absurd hl (by decide)
        | 9, _, _, hl, _ => exact absurd hl (by decide)
        | 10, _, _, hl, _ => exact absurd hl (by decide)
        | 11, _, _, _, hdep =>
          have h9 : ∃ (vq : Value), (uu 62) = .tuple #[vq, .int .i64 0] := hdep 9 (by kernel_rfl) (by decide)
          clear hdep
          refine ⟨_, rfl, fun K' hK => ?_⟩
          obtain ⟨vq, e9⟩ := h9
          simp only [e9] at hK ⊢
          go_simp
          exact hK.out _ rfl
        | 12, _, _, hl, _ => exact absurd hl (by decide)
        | 13, _, hne, _, _ => exact absurd rfl hne
        | 14, _, _, _, hdep =>
          have h11 : (uu 73) = .int .i64 0 := hdep 11 (by kernel_rfl) (by decide)
          clear hdep
          refine ⟨_, rfl, fun K' hK => ?_⟩
          simp only [h11] at hK ⊢
          go_simp
          exact hK.out _ rfl
        | i + 15, hi, _, _, _ => exact absurd hi (by omega)
      case store =>
        intro uu w8 S8 hdep
        have h10 : ∃ (vq : Value), (uu 72) = .agg #[.int .i64 O, vq] ∧ OwnInts w6.heap.size w8 vq PP := hdep 10 (by kernel_rfl) (by decide)
        have h12 : ∃ N : Nat, (uu 13) = .pointer (some ⟨N, 0, none⟩) ∧ w6.heap.size ≤ N ∧ World.rowIs w8 N 39 2 (fun i => if i = 0 then .int .i64 0 else .slice none 0 0) := hdep 12 (by kernel_rfl) (by decide)
        clear hdep
        refine ⟨_, rfl, fun K' hK => ?_⟩
        obtain ⟨vq, e8, ho⟩ := h10
        obtain ⟨pa, pc, e7, -⟩ := OwnInts.form ho
        subst e7
        obtain ⟨N, e9, hN, hrw⟩ := h12
        have hap := apart_row ho hrw
        have HP9 := e9
        simp only [e8, e9] at hK ⊢
        have n0 : World.cell? w8 ⟨N, 0, none⟩ = some (.int .i64 0) := hrw.cell (i := 0) (by omega)
        have n1 : World.cell? w8 ⟨N, 1, none⟩ = some (.slice none 0 0) := hrw.cell (i := 1) (by omega)
        have z0 := hrw.frozen 0
        have z1 := hrw.frozen 1
        have hcN : Chg (fun j => j = N) w8 ((w8.setCell ⟨N, 0, none⟩ (.int .i64 O)).setCell ⟨N, 1, none⟩ (.slice pa PP.length pc)) := ((Chg.refl (fun j => j = N) w8).set (.inl rfl) _).set (.inl rfl) _
        have hrn : World.rowIs ((w8.setCell ⟨N, 0, none⟩ (.int .i64 O)).setCell ⟨N, 1, none⟩ (.slice pa PP.length pc)) N 39 2 (fun i => if i = 0 then .int .i64 O else .slice pa PP.length pc) := ((hrw.set 0 (.int .i64 O)).set 1 (.slice pa PP.length pc)).congr (fun i hi => by
          rcases (show i = 0 ∨ i = 1 by omega) with rfl | rfl <;> rfl)
        go_simp
        refine hK.out undef _ ⟨N, pa, pc, rfl, hN, hrn, insSpec.own_same ho (fun j hj => ?_), ⟨hcN.os.trans S8.os, hcN.tape.trans S8.tape, hcN.output.trans S8.output, Nat.le_trans S8.size hcN.size, fun j hj => (hcN.block j (by have := S8.size; omega) (fun hx => by have h3 : j = N := hx; omega)).trans (S8.block j hj)⟩⟩
        exact hcN.block j (World.ownsRow.lt ho j hj).2 (fun hx => hap j hj hx)
      case fin =>
        intro uu wf hpsi hom
        have hsc : uu 14 = .int .i64 0 := hom 14 (by decide) (by decide)
        obtain ⟨N, pa, pc, hsw, hN, hrn, hoi, hbw⟩ := hpsi
        simp only [hsc, hsw]
        have HN7 := hid hrn
        have HP7 := hid hoi
        have HB7 := hid hbw
        have HNl := hid hN
        clear hrn hoi hbw hN hsc hsw hom
        go_upto_region 13 with fail
        refine region_mk (fun uv => ⟨#[.slice aC lC cC, .slice aM lM cM, undef, undef, u4, .pointer (some ⟨w1.heap.size, 0, none⟩), .slice ea en ec, .slice da dn dc, .slice (some ⟨gb, 0, none⟩) np c5, .int .i64 0, .int .i64 ↑k, .int .i64 ↑fr, .int .i64 ↑po, .pointer (some ⟨N, 0, none⟩), .int .i64 0, uv 15, uv 16, u17, u18, u19, u20, u21, u22, .slice aC lC cC, .int .i64 ↑lC, .bool false, .bool false, .slice aM lM cM, .int .i64 ↑lM, .bool false, .bool false, .slice aC lC cC, .agg #[.slice (p 0) (l 0) (c 0), .slice (p 1) (l 1) (c 1), .slice (p 2) (l 2) (c 2), .slice (p 3) (l 3) (c 3), .slice (p 4) (l 4) (c 4), .slice (p 5) (l 5) (c 5)], .slice aM lM cM, .agg #[.slice (p 0) (l 0) (c 0), .slice (p 1) (l 1) (c 1), .slice (p 2) (l 2) (c 2), .slice (p 3) (l 3) (c 3), .slice (p 4) (l 4) (c 4), .slice (p 5) (l 5) (c 5)], .slice ea en ec, .slice aM lM cM, .agg #[.slice (p 0) (l 0) (c 0), .slice (p 1) (l 1) (c 1), .slice (p 2) (l 2) (c 2), .slice (p 3) (l 3) (c 3), .slice (p 4) (l 4) (c 4), .slice (p 5) (l 5) (c 5)], .slice da dn dc, .tuple #[.slice (some ⟨gb, 0, none⟩) np c5, .int .i64 0], .agg #[.slice (p 0) (l 0) (c 0), .slice (p 1) (l 1) (c 1), .slice (p 2) (l 2) (c 2), .slice (p 3) (l 3) (c 3), .slice (p 4) (l 4) (c 4), .slice (p 5) (l 5) (c 5)], .slice ea en ec, .slice da dn dc, .tuple #[.slice (some ⟨gb, 0, none⟩) np c5, .int .i64 0], .slice (some ⟨gb, 0, none⟩) np c5, .int .i64 0, .int .i64 ↑k, .slice (some ⟨gb, 0, none⟩) np c5, .int .i64 ↑np, .bool true, u50, u51, .slice aM lM cM, .int .i64 ↑k, .pointer (some ⟨w1.heap.size, 0, none⟩), .slice (p 0) (l 0) (c 0), .int .i64 ↑(l 0), .int .i64 ↑fr, .slice aM lM cM, .int .i64 ↑k, .int .i64 (↑k + 1), .int .i64 ↑po, uu 62, uu 63, uu 64, uu 65, uu 66, uu 67, uu 68, uu 69, uu 70, uu 71, uu 72, uu 73, uv 74, uv 75, uv 76, uv 77, uv 78, uv 79, uv 80, uv 81, uv 82, uv 83, uv 84, uv 85, u86, u87, u88, u89, u90, u91, u92, u93, u94, u95, u96, u97, u98, u99, u100, u101, u102, u103, u104, u105, u106, u107, u108, u109, u110, u111, u112, u113, u114, u115, u116, u117, u118, u119, u120, u121, u122, u123, u124, u125, u126, u127, u128, u129, u130, u131, u132, u133, u134, u135, u136, u137, u138, u139, u140, u141, u142, u143, u144, u145, u146, u147, u148, u149, u150, u151, u152, u153, u154, u155, u156, u157, u158, u159, u160, u161, u162, u163, u164, u165, u166, u167, u168, u169, u170, u171, u172, u173, u174, u175, u176, u177, u178, u179, u180, u181, u182, u183, u184, u185, u186, u187, u188, u189, u190, u191, u192, u193, u194, u195, u196, u197, u198, u199, u200, u201, u202, u203, u204, u205, u206, u207, u208, u209, u210, u211, u212, u213, u214, u215, u216, u217, u218, u219, u220, u221, u222, u223, u224, u225], []⟩) (fun i => [some 75, some 76, some 77, some 78, some 79, some 80, some 81, some 82, some 83, some 74, some 84, some 85, some 15, none, some 16].getD i none) (fun i v w8 => match i with | 0 => v = .agg #[.slice (p 0) (l 0) (c 0), .slice (p 1) (l 1) (c 1), .slice (p 2) (l 2) (c 2), .slice (p 3) (l 3) (c 3), .slice (p 4) (l 4) (c 4), .slice (p 5) (l 5) (c 5)] | 1 => v = .slice da dn dc | 2 => v = .slice (some ⟨gb, 0, none⟩) np c5 | 3 => v = .int .i64 (k : Int) | 4 => v = .pointer (some ⟨gb, k, none⟩) | 5 => v = .slice (some ⟨ga, 0, none⟩) nR gc | 6 => v = .int .i64 (fr : Int) | 7 => v = .int .i64 (po : Int) | 8 => ∃ (vq : Value), v = .tuple #[.agg #[.int .i64 O, vq], .int .i64 0] ∧ OwnInts w6.heap.size w8 vq PP | 9 => ∃ (vq : Value), v = .tuple #[.agg #[.int .i64 O, vq], .int .i64 0] ∧ OwnInts w6.heap.size w8 vq PP | 10 => ∃ (vq : Value), v = .agg #[.int .i64 O, vq] ∧ OwnInts w6.heap.size w8 vq PP | 11 => True | 12 => ∃ N : Nat, v = .pointer (some ⟨N, 0, none⟩) ∧ wf.heap.size ≤ N ∧ World.rowIs w8 N 39 2 (fun i => if i = 0 then .int .i64 0 else .slice none 0 0) | 14 => True | _ => True) (fun i v => match i with | 9 => ∃ (vq : Value), v = .tuple #[vq, .int .i64 0] | 11 => v = .int .i64 0 | 14 => v = .int .i64 0 | _ => True) (fun uv w8 => ∃ (N : Nat) (pa : Option Addr) (pc : Nat), uv 15 = .pointer (some ⟨N, 0, none⟩) ∧ wf.heap.size ≤ N ∧ World.rowIs w8 N 39 2 (fun i => if i = 0 then .int .i64 O else .slice pa PP.length pc) ∧ OwnInts w6.heap.size w8 (.slice pa PP.length pc) PP ∧ Below wf.heap.size wf w8) wf 15 13 (fun i => decide (i = 11) || decide (i = 14)) (fun k => match k with | 75 => u75 | 76 => u76 | 77 => u77 | 78 => u78 | 79 => u79 | 80 => u80 | 81 => u81 | 82 => u82 | 83 => u83 | 74 => u74 | 84 => u84 | 85 => u85 | 15 => u15 | 16 => u16 | _ => undef) (by rfl) (by kernel_rfl) (by rfl) (by kernel_rfl) (by decide) rfl (by kernel_rfl) (Below.refl _ _) ?hput ?hinj ?hsome ?hom ?stable ?hpsi ?step ?stepL ?store ?fin
        case hput =>
          intro i hi uv v
          match i, hi with
          | 0, _ => rfl
          | 1, _ => rfl
          | 2, _ => rfl
          | 3, _ => rfl
          | 4, _ => rfl
          | 5, _ => rfl
          | 6, _ => rfl
          | 7, _ => rfl
          | 8, _ => rfl
          | 9, _ => rfl
          | 10, _ => rfl
          | 11, _ => rfl
          | 12, _ => rfl
          | 13, _ => rfl
          | 14, _ => rfl
          | i + 15, hi => exact absurd hi (by omega)
        case hinj =>
          intro i j hi hj _ h
          have h9 : ∀ i, i < 15 → ∀ j, j < 15 → [some 75, some 76, some 77, some 78, some 79, some 80, some 81, some 82, some 83, some 74, some 84, some 85, some 15, none, some 16].getD i none = [some 75, some 76, some 77, some 78, some 79, some 80, some 81, some 82, some 83, some 74, some 84, some 85, some 15, none, some 16].getD j none → i = j := by decide
          exact h9 i hi j hj h
        case hsome =>
          intro i hi hne
          have h9 : ∀ i, i < 15 → i ≠ 13 → [some 75, some 76, some 77, some 78, some 79, some 80, some 81, some 82, some 83, some 74, some 84, some 85, some 15, none, some 16].getD i none ≠ none := by decide
          exact h9 i hi hne
        case hom =>
          intro i v w8 hl h
          match i, hl, h with
          | 0, hl, h => trivial
          | 1, hl, h => trivial
          | 2, hl, h => trivial
          | 3, hl, h => trivial
          | 4, hl, h => trivial
          | 5, hl, h => trivial
          | 6, hl, h => trivial
          | 7, hl, h => trivial
          | 8, hl, h => trivial
          | 9, hl, h => (obtain ⟨vq, e9, -⟩ := h; exact ⟨_, e9⟩)
          | 10, hl, h => trivial
          | 11, hl, h => exact absurd hl (by decide)
          | 12, hl, h => trivial
          | 13, hl, h => trivial
          | 14, hl, h => exact absurd hl (by decide)
          | _ + 15, hl, h => trivial
        case stable =>
          intro i v w8 w9 hb h
          match i, hb, h with
          | 0, hb, h => exact h
          | 1, hb, h => exact h
          | 2, hb, h => exact h
          | 3, hb, h => exact h
          | 4, hb, h => exact h
          | 5, hb, h => exact h
          | 6, hb, h => exact h
          | 7, hb, h => exact h
          | 8, hb, h => (obtain ⟨vq, e9, ho⟩ := h; exact ⟨vq, e9, ho.below hb⟩)
          | 9, hb, h => (obtain ⟨vq, e9, ho⟩ := h; exact ⟨vq, e9, ho.below hb⟩)
          | 10, hb, h => (obtain ⟨vq, e9, ho⟩ := h; exact ⟨vq, e9, ho.below hb⟩)
          | 11, hb, h => exact h
          | 12, hb, h => (obtain ⟨N, e9, hN, hrw⟩ := h; exact ⟨N, e9, hN, hrw.of_block (hb.block N hrw.lt)⟩)
          | 13, hb, h => trivial
          | 14, hb, h => exact h
          | _ + 15, hb, h => trivial
        case hpsi =>
          intro i hi hl uv v w8 h
          match i, hi, hl, h with
          | 0, _, hl, h => exact absurd hl (by decide)
          | 1, _, hl, h => exact absurd hl (by decide)
          | 2, _, hl, h => exact absurd hl (by decide)
          | 3, _, hl, h => exact absurd hl (by decide)
          | 4, _, hl, h => exact absurd hl (by decide)
          | 5, _, hl, h => exact absurd hl (by decide)
          | 6, _, hl, h => exact absurd hl (by decide)
          | 7, _, hl, h => exact absurd hl (by decide)
          | 8, _, hl, h => exact absurd hl (by decide)
          | 9, _, hl, h => exact absurd hl (by decide)
          | 10, _, hl, h => exact absurd hl (by decide)
          | 11, _, hl, h => exact h
          | 12, _, hl, h => exact absurd hl (by decide)
          | 13, _, hl, h => exact absurd hl (by decide)
          | 14, _, hl, h => exact h
          | i + 15, hi, _, _ => exact absurd hi (by omega)
        case step =>
          intro i hi hne hl uv w8 S8 hdep
          match i, hi, hne, hl, hdep with
          | 0, _, _, _, hdep =>
            clear hdep
            refine ⟨_, rfl, fun K' hK => ?_⟩
            obtain ⟨⟨q0, q1, q2, q3, q4, q5⟩, hce, hro, -⟩ := HZ6.out w8 (HB7.out.trans (S8.mono HB7.out.size))
            go_simp
            exact hK.out _ _ (Below.refl _ _) (rfl)
          | 1, _, _, _, hdep =>
            clear hdep
            refine ⟨_, rfl, fun K' hK => ?_⟩
            go_simp
            exact hK.out _ _ (Below.refl _ _) (rfl)
          | 2, _, _, _, hdep =>
            clear hdep
            refine ⟨_, rfl, fun K' hK => ?_⟩
            go_simp
            exact hK.out _ _ (Below.refl _ _) (rfl)
          | 3, _, _, _, hdep =>
            clear hdep
            refine ⟨_, rfl, fun K' hK => ?_⟩
            go_simp
            exact hK.out _ _ (Below.refl _ _) (rfl)
          | 4, _, _, _, hdep =>
            have h2 : (uv 77) = .slice (some ⟨gb, 0, none⟩) np c5 := hdep 2 (by kernel_rfl) (by decide)
            have h3 : (uv 78) = .int .i64 (k : Int) := hdep 3 (by kernel_rfl) (by decide)
            clear hdep
            refine ⟨_, rfl, fun K' hK => ?_⟩
            simp only [h2, h3] at hK ⊢
            go_simp
            exact hK.out _ _ (Below.refl _ _) (rfl)
          | 5, _, _, _, hdep =>
            have h4 : (uv 79) = .pointer (some ⟨gb, k, none⟩) := hdep 4 (by kernel_rfl) (by decide)
            clear hdep
            refine ⟨_, rfl, fun K' hK => ?_⟩
            obtain ⟨⟨q0, q1, q2, q3, q4, q5⟩, hce, hro, -⟩ := HZ6.out w8 (HB7.out.trans (S8.mono HB7.out.size))
            simp only [h4] at hK ⊢
            go_simp
            exact hK.out _ _ (Below.refl _ _) (rfl)
          | 6, _, _, _, hdep =>
            clear hdep
            refine ⟨_, rfl, fun K' hK => ?_⟩
            go_simp
            exact hK.out _ _ (Below.refl _ _) (rfl)
          | 7, _, _, _, hdep =>
            clear hdep
            refine ⟨_, rfl, fun K' hK => ?_⟩
            go_simp
            exact hK.out _ _ (Below.refl _ _) (rfl)
          | 8, _, _, _, hdep =>
            have h0 : (uv 75) = .agg #[.slice (p 0) (l 0) (c 0), .slice (p 1) (l 1) (c 1), .slice (p 2) (l 2) (c 2), .slice (p 3) (l 3) (c 3), .slice (p 4) (l 4) (c 4), .slice (p 5) (l 5) (c 5)] := hdep 0 (by kernel_rfl) (by decide)
            have h1 : (uv 76) = .slice da dn dc := hdep 1 (by kernel_rfl) (by decide)
            have h5 : (uv 80) = .slice (some ⟨ga, 0, none⟩) nR gc := hdep 5 (by kernel_rfl) (by decide)
            have h6 : (uv 81) = .int .i64 (fr : Int) := hdep 6 (by kernel_rfl) (by decide)
            have h7 : (uv 82) = .int .i64 (po : Int) := hdep 7 (by kernel_rfl) (by decide)
            clear hdep
            refine ⟨_, rfl, fun K' hK => ?_⟩
            simp only [h0, h1, h5, h6, h7] at hK ⊢
            go_simp
            refine (HFSp.out _ (HB7.out.trans (S8.mono HB7.out.size))).mono ?_
            rintro e9 w9 ⟨v9, rfl, ho9, hb9⟩
            exact hK.out _ _ hb9 ⟨v9, rfl, ho9.mono (Nat.le_trans HB7.out.size S8.size)⟩
          | 9, _, _, _, hdep =>
            have h8 : ∃ (vq : Value), (uv 83) = .tuple #[.agg #[.int .i64 O, vq], .int .i64 0] ∧ OwnInts w6.heap.size w8 vq PP := hdep 8 (by kernel_rfl) (by decide)
            clear hdep
            refine ⟨_, rfl, fun K' hK => ?_⟩
            obtain ⟨vq, e9, ho⟩ := h8
            simp only [e9] at hK ⊢
            go_simp
            exact hK.out _ _ (Below.refl _ _) (⟨vq, rfl, ho⟩)
          | 10, _, _, _, hdep =>
            have h9 : ∃ (vq : Value), (uv 74) = .tuple #[.agg #[.int .i64 O, vq], .int .i64 0] ∧ OwnInts w6.heap.size w8 vq PP := hdep 9 (by kernel_rfl) (by decide)
            clear hdep
            refine ⟨_, rfl, fun K' hK => ?_⟩
            obtain ⟨vq, e9, ho⟩ := h9
            simp only [e9] at hK ⊢
            go_simp
            exact hK.out _ _ (Below.refl _ _) (⟨vq, rfl, ho⟩)
          | 11, _, _, hl, _ => exact absurd hl (by decide)
          | 12, _, _, _, hdep =>
            clear hdep
            refine ⟨_, rfl, fun K' hK => ?_⟩
            go_simp
            exact hK.out _ _ (by repeat (first | exact Below.refl _ _ | assumption | refine Below.drew ?_ | refine Below.alloc ?_ (by first | exact Nat.le_refl _ | omega | (simp; done) | (simp; omega)) _ | refine Below.setCell ?_ (by first | exact Nat.le_refl _ | omega | (simp; done) | (simp; omega)) _)) ⟨w8.heap.size, rfl, S8.size, World.rowIs_alloc w8 #[.int .i64 0, .slice none 0 0] _ _ (fun i hi => by
              have h3 : i < 2 := hi
              rcases (show i = 0 ∨ i = 1 by omega) with rfl | rfl <;> rfl)⟩
          | 13, _, hne, _, _ => exact absurd rfl hne
          | 14, _, _, hl, _ => exact absurd hl (by decide)
          | i + 15, hi, _, _, _ => exact absurd hi (by omega)
        case stepL =>
          intro i hi hne hl uv w8 hdep
          match i, hi, hne, hl, hdep with
          | 0, _, _, hl, _ => exact absurd hl (by decide)
          | 1, _, _, hl, _ => exact absurd hl (by decide)
          | 2, _, _, hl, _ => exact absurd hl (by decide)
          | 3, _, _, hl, _ => exact absurd hl (by decide)
          | 4, _, _, hl, _ => exact absurd hl (by decide)
          | 5, _, _, hl, _ => exact absurd hl (by decide)
          | 6, _, _, hl, _ => exact absurd hl (by decide)
          | 7, _, _, hl, _ => exact absurd hl (by decide)
          | 8, _, _, hl, _ => exact absurd hl (by decide)
          | 9, _, _, hl, _ => exact absurd hl (by decide)
          | 10, _, _, hl, _ => exact absurd hl (by decide)
          | 11, _, _, _, hdep =>
            have h9 : ∃ (vq : Value), (uv 74) = .tuple #[vq, .int .i64 0] := hdep 9 (by kernel_rfl) (by decide)
            clear hdep
            refine ⟨_, rfl, fun K' hK => ?_⟩
            obtain ⟨vq, e9⟩ := h9
            simp only [e9] at hK ⊢
            go_simp
            exact hK.out _ rfl
          | 12, _, _, hl, _ => exact absurd hl (by decide)
          | 13, _, hne, _, _ => exact absurd rfl hne
          | 14, _, _, _, hdep =>
            have h11 : (uv 85) = .int .i64 0 := hdep 11 (by kernel_rfl) (by decide)
            clear hdep
            refine ⟨_, rfl, fun K' hK => ?_⟩
            simp only [h11] at hK ⊢
            go_simp
            exact hK.out _ rfl
          | i + 15, hi, _, _, _ => exact absurd hi (by omega)
        case store =>
          intro uv w8 S8 hdep
          have h10 : ∃ (vq : Value), (uv 84) = .agg #[.int .i64 O, vq] ∧ OwnInts w6.heap.size w8 vq PP := hdep 10 (by kernel_rfl) (by decide)
          have h12 : ∃ N : Nat, (uv 15) = .pointer (some ⟨N, 0, none⟩) ∧ wf.heap.size ≤ N ∧ World.rowIs w8 N 39 2 (fun i => if i = 0 then .int .i64 0 else .slice none 0 0) := hdep 12 (by kernel_rfl) (by decide)
          clear hdep
          refine ⟨_, rfl, fun K' hK => ?_⟩
          obtain ⟨vq, e8, ho⟩ := h10
          obtain ⟨pa, pc, e7, -⟩ := OwnInts.form ho
          subst e7
          obtain ⟨N, e9, hN, hrw⟩ := h12
          have hap := apart_row ho hrw
          have HP9 := e9
          simp only [e8, e9] at hK ⊢
          have n0 : World.cell? w8 ⟨N, 0, none⟩ = some (.int .i64 0) := hrw.cell (i := 0) (by omega)
          have n1 : World.cell? w8 ⟨N, 1, none⟩ = some (.slice none 0 0) := hrw.cell (i := 1) (by omega)
          have z0 := hrw.frozen 0
          have z1 := hrw.frozen 1
          have hcN : Chg (fun j => j = N) w8 ((w8.setCell ⟨N, 0, none⟩ (.int .i64 O)).setCell ⟨N, 1, none⟩ (.slice pa PP.length pc)) := ((Chg.refl (fun j => j = N) w8).set (.inl rfl) _).set (.inl rfl) _
          have hrn : World.rowIs ((w8.setCell ⟨N, 0, none⟩ (.int .i64 O)).setCell ⟨N, 1, none⟩ (.slice pa PP.length pc)) N 39 2 (fun i => if i = 0 then .int .i64 O else .slice pa PP.length pc) := ((hrw.set 0 (.int .i64 O)).set 1 (.slice pa PP.length pc)).congr (fun i hi => by
            rcases (show i = 0 ∨ i = 1 by omega) with rfl | rfl <;> rfl)
          go_simp
          refine hK.out undef _ ⟨N, pa, pc, rfl, hN, hrn, insSpec.own_same ho (fun j hj => ?_), ⟨hcN.os.trans S8.os, hcN.tape.trans S8.tape, hcN.output.trans S8.output, Nat.le_trans S8.size hcN.size, fun j hj => (hcN.block j (by have := S8.size; omega) (fun hx => by have h3 : j = N := hx; omega)).trans (S8.block j hj)⟩⟩
          exact hcN.block j (World.ownsRow.lt ho j hj).2 (fun hx => hap j hj hx)
        case fin =>
          intro uv wg hpsi hom
          have hsc : uv 16 = .int .i64 0 := hom 14 (by decide) (by decide)
          obtain ⟨N2, pa2, pc2, hsw, hN, hrn, hoi, hbw⟩ := hpsi
          simp only [hsc, hsw]
          have HN8 := hid hrn
          have HP8 := hid hoi
          have HB8 := hid (HB7.out.trans (hbw.mono HB7.out.size))
          have HN7' := hid (HN7.out.of_block (hbw.block _ HN7.out.lt))
          have HP7' := hid (HP7.out.below hbw)
          clear hrn hoi hbw hN hsc hsw hom HN7 HP7 HB7 HFI HFSp
          have n0 : World.cell? wg ⟨N, 0, none⟩ = some (.int .i64 O) := HN7'.out.cell (i := 0) (by omega)
          have n1 : World.cell? wg ⟨N, 1, none⟩ = some (.slice pa PP.length pc) := HN7'.out.cell (i := 1) (by omega)
          have m0 : World.cell? wg ⟨N2, 0, none⟩ = some (.int .i64 O) := HN8.out.cell (i := 0) (by omega)
          have m1 : World.cell? wg ⟨N2, 1, none⟩ = some (.slice pa2 PP.length pc2) := HN8.out.cell (i := 1) (by omega)
          have HP1 := hid (row_of_own HP7'.out)
          have HP2 := hid (row_of_own HP8.out)
          have hsome := HAs.out.some
          have hfew := HAs.out.few
          obtain ⟨nP, hnP⟩ : ∃ n, PP.length = n := ⟨_, rfl⟩
          have HNP := hid hnP
          rw [hnP] at n1 m1 HP1 HP2 hsome hfew HSat
          clear hnP HP7' HP8 HN8
          obtain ⟨pb, pof, epa, hp0⟩ := HP1.out.cell 0 hsome
          subst epa
          have hf0 : zAt PP 0 = (fr : Int) := HAs.out.first
          rw [show PP[0]?.getD 0 = (fr : Int) from hf0] at hp0
          have dO : (O != O) = false := by simp
          have dP : ((nP : Int) == 0) = false := by simp; omega
          have dF : ((fr : Int) != (fr : Int)) = false := by simp
          clear hf0
          go_wp2_with fail
          refine (sameInts (some ⟨pb, pof, none⟩) pa2 nP pc pc2 PP _ HP1.out HP2.out).mono ?_
          rintro e' wh ⟨rfl, hbh⟩
          have k0 := keep hbh n0
          have k1 := keep hbh n1
          have kp := keep hbh hp0
          rw [Nat.add_zero] at kp
          have HW : Hid (∀ W : World, Below wh.heap.size wh W → (W.cell? ⟨N, 0, none⟩ = some (.int .i64 O) ∧ W.cell? ⟨N, 1, none⟩ = some (.slice (some ⟨pb, pof, none⟩) nP pc)) ∧ IntRow W (some ⟨pb, pof, none⟩) nP PP ∧ W.cell? ⟨gb, k, none⟩ = some (.slice (some ⟨ga, 0, none⟩) nR gc) ∧ RtRow W (some ⟨ga, 0, none⟩) nR (rF zs) ∧ (World.cell? W ⟨w1.heap.size, 0, none⟩ = some (.slice (p 0) (l 0) (c 0)) ∧ World.cell? W ⟨w1.heap.size, 1, none⟩ = some (.slice (p 1) (l 1) (c 1)) ∧ World.cell? W ⟨w1.heap.size, 2, none⟩ = some (.slice (p 2) (l 2) (c 2)) ∧ World.cell? W ⟨w1.heap.size, 3, none⟩ = some (.slice (p 3) (l 3) (c 3)) ∧ World.cell? W ⟨w1.heap.size, 4, none⟩ = some (.slice (p 4) (l 4) (c 4)) ∧ World.cell? W ⟨w1.heap.size, 5, none⟩ = some (.slice (p 5) (l 5) (c 5))) ∧ Below w6.heap.size w6 W ∧ Below w5.heap.size w5 W) := hid (fun W hb => by
            have h9 := HB8.out.trans ((hbh.trans (hb.mono hbh.size)).mono HB8.out.size)
            obtain ⟨i1, i2, i3, i4⟩ := HZ6.out W h9
            exact ⟨⟨keep hb k0, keep hb k1⟩, (HP1.out.below hbh).below hb, i2, i3, i1, h9, i4⟩)
          clear n0 n1 m0 m1 hp0 hbh HP1 HP2 HB8 HZ6
          go_wp2_with fail
          skip
          clear k0 k1 kp
          go_loopw [17] (fun i wr => ∃ j : Nat, 1 ≤ j ∧ j ≤ nP ∧ i = .int .i64 j ∧ Below wh.heap.size wh wr) (fun i _ => nP - (intOf i).toNat)
          case atStart => exact ⟨1, Nat.le_refl _, hsome, rfl, Below.refl _ _⟩
          case round =>
            rename_i wr2
            obtain ⟨j, hj1, hjn, rfl, hbl⟩ := hrel
            have HBj := hid hbl
            obtain ⟨⟨k0, k1⟩, hpr, kc, kr, ⟨q0, q1, q2, q3, q4, q5⟩, hw6, hw5⟩ := HW.out _ hbl
            have HW5 := hid hw5
            have HW6 := hid hw6
            clear hbl hw5 hw6
            by_cases hjl : j < nP
            · obtain ⟨jp, hjp⟩ : ∃ jp : Nat, j = jp + 1 := ⟨j - 1, by omega⟩
              have ej : (j : Int) - 1 = (jp : Int) := by omega
              obtain ⟨y0, y1⟩ := HAs.out.each jp (by rw [HNP.out]; omega)
              obtain ⟨yn, hyn⟩ : ∃ yn : Nat, zAt PP jp = (yn : Int) := ⟨(zAt PP jp).toNat, by omega⟩
              have hst := HAs.out.step jp (by rw [HNP.out]; omega)
              rw [hyn, Int.toNat_natCast, ← hjp] at hst
              obtain ⟨b1, o1, e1, c1⟩ := hpr.cell jp (by omega)
              obtain ⟨b2, o2, e2, c2⟩ := hpr.cell j hjl
              rw [show PP[jp]?.getD 0 = (yn : Int) from hyn] at c1
              have e1' : pb = b1 ∧ pof = o1 := by injection e1 with e1; injection e1 with e1 e1'; exact ⟨e1, e1'⟩
              have e2' : pb = b2 ∧ pof = o2 := by injection e2 with e2; injection e2 with e2 e2'; exact ⟨e2, e2'⟩
              rw [← e1'.1, ← e1'.2] at c1
              rw [← e2'.1, ← e2'.2] at c2
              obtain ⟨zz, hzz⟩ : ∃ q, zAt PP j = q := ⟨_, rfl⟩
              rw [show PP[j]?.getD 0 = zz from hzz] at c2
              rw [hzz] at hst
              have hyl : yn < nR := by omega
              obtain ⟨b3, o3, e3, c3, -⟩ := kr.at4 hyl
              have e3' : ga = b3 ∧ 0 = o3 := by injection e3 with e3; injection e3 with e3 e3'; exact ⟨e3, e3'⟩
              rw [← e3'.1, ← e3'.2, hst, Nat.zero_add] at c3
              have dz : (zz != zz) = false := by simp
              have hyi : (yn : Int) < (nR : Int) := by omega
              have hjpi : (jp : Int) < (nP : Int) := by omega
              have hji : (j : Int) < (nP : Int) := by omega
              clear e1 e2 e3 e1' e2' e3' y0 y1 hyn hst hzz hpr kr hjp
              go_wp2_with fail
              go_region
              all_goals
                go_wp2
                go_roundw
                case rel => exact ⟨j + 1, by omega, by omega, by go_num, HBj.out.drew⟩
                case measure => simp [intOf]; omega
            · skip
              have hje : j = nP := by omega
              have dj : decide ((j : Int) < (nP : Int)) = false := decide_eq_false (by omega)
              obtain ⟨lp, hlp⟩ : ∃ lp : Nat, nP = lp + 1 := ⟨nP - 1, by omega⟩
              have el : (nP : Int) - 1 = (lp : Int) := by omega
              obtain ⟨y0, y1⟩ := HAs.out.each lp (by rw [HNP.out]; omega)
              obtain ⟨yn, hyn⟩ : ∃ yn : Nat, zAt PP lp = (yn : Int) := ⟨(zAt PP lp).toNat, by omega⟩
              have hla := HAs.out.last
              rw [HNP.out, show nP - 1 = lp by omega, hyn, Int.toNat_natCast] at hla
              obtain ⟨b1, o1, e1, c1⟩ := hpr.cell lp (by omega)
              rw [show PP[lp]?.getD 0 = (yn : Int) from hyn] at c1
              have e1' : pb = b1 ∧ pof = o1 := by injection e1 with e1; injection e1 with e1 e1'; exact ⟨e1, e1'⟩
              rw [← e1'.1, ← e1'.2] at c1
              have hyl : yn < nR := by omega
              obtain ⟨b3, o3, e3, c3, -⟩ := kr.at4 hyl
              have e3' : ga = b3 ∧ 0 = o3 := by injection e3 with e3; injection e3 with e3 e3'; exact ⟨e3, e3'⟩
              rw [← e3'.1, ← e3'.2, Nat.zero_add] at c3
              obtain ⟨vv, hvv⟩ : ∃ q, (rF zs yn).via = q := ⟨_, rfl⟩
              rw [hvv] at c3 hla
              have HLa := hid hla
              have hyi : (yn : Int) < (nR : Int) := by omega
              have hlpi : (lp : Int) < (nP : Int) := by omega
              clear e1 e3 e1' e3' y0 y1 hyn hvv hpr kr hje hla hlp
              go_wp2_with fail
              go_region
              all_goals
                rcases HLa.out with ⟨eO, ev⟩ | ⟨eO, ev⟩ | ⟨eO, ev⟩ | ⟨eO, ev⟩
                · clear HLa
                  subst eO
                  subst ev
                  have HS1 : Hid (∀ (W : World) (pa : Option Addr) (pc : Nat), Below w6.heap.size w6 W → Calls Try.prog 12 #[.agg #[.slice (p 0) (l 0) (c 0), .slice (p 1) (l 1) (c 1), .slice (p 2) (l 2) (c 2), .slice (p 3) (l 3) (c 3), .slice (p 4) (l 4) (c 4), .slice (p 5) (l 5) (c 5)], .agg #[.int .i64 1, .int .i64 (fr : Int), .int .i64 (-1), .int .i64 0], .agg #[.int .i64 1, .slice pa nP pc]] W fun e' w' => e' = .returned (.tuple #[.bool true, .int .i64 0]) ∧ Below W.heap.size W w') := hid (fun W pa pc hb => HSat.out W 1 pa pc hb (.inl rfl))
                  have HS2 : Hid (∀ (W : World) (pa : Option Addr) (pc : Nat), Below w6.heap.size w6 W → Calls Try.prog 12 #[.agg #[.slice (p 0) (l 0) (c 0), .slice (p 1) (l 1) (c 1), .slice (p 2) (l 2) (c 2), .slice (p 3) (l 3) (c 3), .slice (p 4) (l 4) (c 4), .slice (p 5) (l 5) (c 5)], .agg #[.int .i64 2, .int .i64 (fr : Int), .int .i64 (-1), .int .i64 0], .agg #[.int .i64 1, .slice pa nP pc]] W fun e' w' => e' = .returned (.tuple #[.bool false, .int .i64 0]) ∧ Below W.heap.size W w') := hid (fun W pa pc hb => HSat.out W 2 pa pc hb (.inr rfl))
                  clear HSat
                  go_wp2_with fail
                  refine (HS1.out _ _ _ HW6.out.drew).mono ?_
                  rintro e' wi ⟨rfl, hbi⟩
                  have HBi := hid (HBj.out.drew.trans (hbi.mono HBj.out.drew.size))
                  clear hbi k0 k1 kc q0 q1 q2 q3 q4 q5 c1 c3
                  obtain ⟨⟨k0, k1⟩, -, -, -, ⟨q0, q1, q2, q3, q4, q5⟩, hw6, -⟩ := HW.out _ HBi.out
                  have HWi := hid hw6
                  clear hw6
                  go_wp2_with fail
                  refine (HS2.out _ _ _ HWi.out).mono ?_
                  rintro e' wj ⟨rfl, hbj⟩
                  have HBk := hid (HBi.out.trans (hbj.mono HBi.out.size))
                  clear hbj k0 k1 q0 q1 q2 q3 q4 q5
                  obtain ⟨⟨k0, k1⟩, -, -, -, ⟨q0, q1, q2, q3, q4, q5⟩, -, hw5⟩ := HW.out _ HBk.out
                  have HWk := hid hw5
                  clear hw5
                  go_wp2
                  go_roundw
                  case rel => exact ⟨k + 1, by omega, by go_num, HWk.out⟩
                  case measure => simp [intOf]; omega
                · clear HLa
                  subst eO
                  subst ev
                  have HS1 : Hid (∀ (W : World) (pa : Option Addr) (pc : Nat), Below w6.heap.size w6 W → Calls Try.prog 12 #[.agg #[.slice (p 0) (l 0) (c 0), .slice (p 1) (l 1) (c 1), .slice (p 2) (l 2) (c 2), .slice (p 3) (l 3) (c 3), .slice (p 4) (l 4) (c 4), .slice (p 5) (l 5) (c 5)], .agg #[.int .i64 1, .int .i64 (fr : Int), .int .i64 (-1), .int .i64 0], .agg #[.int .i64 2, .slice pa nP pc]] W fun e' w' => e' = .returned (.tuple #[.bool true, .int .i64 0]) ∧ Below W.heap.size W w') := hid (fun W pa pc hb => HSat.out W 1 pa pc hb (.inl rfl))
                  have HS2 : Hid (∀ (W : World) (pa : Option Addr) (pc : Nat), Below w6.heap.size w6 W → Calls Try.prog 12 #[.agg #[.slice (p 0) (l 0) (c 0), .slice (p 1) (l 1) (c 1), .slice (p 2) (l 2) (c 2), .slice (p 3) (l 3) (c 3), .slice (p 4) (l 4) (c 4), .slice (p 5) (l 5) (c 5)], .agg #[.int .i64 2, .int .i64 (fr : Int), .int .i64 (-1), .int .i64 0], .agg #[.int .i64 2, .slice pa nP pc]] W fun e' w' => e' = .returned (.tuple #[.bool false, .int .i64 0]) ∧ Below W.heap.size W w') := hid (fun W pa pc hb => HSat.out W 2 pa pc hb (.inr rfl))
                  clear HSat
                  go_wp2_with fail
                  refine (HS1.out _ _ _ HW6.out.drew).mono ?_
                  rintro e' wi ⟨rfl, hbi⟩
                  have HBi := hid (HBj.out.drew.trans (hbi.mono HBj.out.drew.size))
                  clear hbi k0 k1 kc q0 q1 q2 q3 q4 q5 c1 c3
                  obtain ⟨⟨k0, k1⟩, -, -, -, ⟨q0, q1, q2, q3, q4, q5⟩, hw6, -⟩ := HW.out _ HBi.out
                  have HWi := hid hw6
                  clear hw6
                  go_wp2_with fail
                  refine (HS2.out _ _ _ HWi.out).mono ?_
                  rintro e' wj ⟨rfl, hbj⟩
                  have HBk := hid (HBi.out.trans (hbj.mono HBi.out.size))
                  clear hbj k0 k1 q0 q1 q2 q3 q4 q5
                  obtain ⟨⟨k0, k1⟩, -, -, -, ⟨q0, q1, q2, q3, q4, q5⟩, -, hw5⟩ := HW.out _ HBk.out
                  have HWk := hid hw5
                  clear hw5
                  go_wp2
                  go_roundw
                  case rel => exact ⟨k + 1, by omega, by go_num, HWk.out⟩
                  case measure => simp [intOf]; omega
                · clear HLa
                  subst eO
                  subst ev
                  have HS1 : Hid (∀ (W : World) (pa : Option Addr) (pc : Nat), Below w6.heap.size w6 W → Calls Try.prog 12 #[.agg #[.slice (p 0) (l 0) (c 0), .slice (p 1) (l 1) (c 1), .slice (p 2) (l 2) (c 2), .slice (p 3) (l 3) (c 3), .slice (p 4) (l 4) (c 4), .slice (p 5) (l 5) (c 5)], .agg #[.int .i64 1, .int .i64 (fr : Int), .int .i64 (-1), .int .i64 0], .agg #[.int .i64 3, .slice pa nP pc]] W fun e' w' => e' = .returned (.tuple #[.bool false, .int .i64 0]) ∧ Below W.heap.size W w') := hid (fun W pa pc hb => HSat.out W 1 pa pc hb (.inl rfl))
                  have HS2 : Hid (∀ (W : World) (pa : Option Addr) (pc : Nat), Below w6.heap.size w6 W → Calls Try.prog 12 #[.agg #[.slice (p 0) (l 0) (c 0), .slice (p 1) (l 1) (c 1), .slice (p 2) (l 2) (c 2), .slice (p 3) (l 3) (c 3), .slice (p 4) (l 4) (c 4), .slice (p 5) (l 5) (c 5)], .agg #[.int .i64 2, .int .i64 (fr : Int), .int .i64 (-1), .int .i64 0], .agg #[.int .i64 3, .slice pa nP pc]] W fun e' w' => e' = .returned (.tuple #[.bool true, .int .i64 0]) ∧ Below W.heap.size W w') := hid (fun W pa pc hb => HSat.out W 2 pa pc hb (.inr rfl))
                  clear HSat
                  go_wp2_with fail
                  refine (HS1.out _ _ _ HW6.out.drew).mono ?_
                  rintro e' wi ⟨rfl, hbi⟩
                  have HBi := hid (HBj.out.drew.trans (hbi.mono HBj.out.drew.size))
                  clear hbi k0 k1 kc q0 q1 q2 q3 q4 q5 c1 c3
                  obtain ⟨⟨k0, k1⟩, -, -, -, ⟨q0, q1, q2, q3, q4, q5⟩, hw6, -⟩ := HW.out _ HBi.out
                  have HWi := hid hw6
                  clear hw6
                  go_wp2_with fail
                  refine (HS2.out _ _ _ HWi.out).mono ?_
                  rintro e' wj ⟨rfl, hbj⟩
                  have HBk := hid (HBi.out.trans (hbj.mono HBi.out.size))
                  clear hbj k0 k1 q0 q1 q2 q3 q4 q5
                  obtain ⟨⟨k0, k1⟩, -, -, -, ⟨q0, q1, q2, q3, q4, q5⟩, -, hw5⟩ := HW.out _ HBk.out
                  have HWk := hid hw5
                  clear hw5
                  go_wp2
                  go_roundw
                  case rel => exact ⟨k + 1, by omega, by go_num, HWk.out⟩
                  case measure => simp [intOf]; omega
                · clear HLa
                  subst eO
                  have dv : decide (vv < 0) = false := decide_eq_false (by omega)
                  have HS1 : Hid (∀ (W : World) (pa : Option Addr) (pc : Nat), Below w6.heap.size w6 W → Calls Try.prog 12 #[.agg #[.slice (p 0) (l 0) (c 0), .slice (p 1) (l 1) (c 1), .slice (p 2) (l 2) (c 2), .slice (p 3) (l 3) (c 3), .slice (p 4) (l 4) (c 4), .slice (p 5) (l 5) (c 5)], .agg #[.int .i64 1, .int .i64 (fr : Int), .int .i64 (-1), .int .i64 0], .agg #[.int .i64 4, .slice pa nP pc]] W fun e' w' => e' = .returned (.tuple #[.bool false, .int .i64 0]) ∧ Below W.heap.size W w') := hid (fun W pa pc hb => HSat.out W 1 pa pc hb (.inl rfl))
                  have HS2 : Hid (∀ (W : World) (pa : Option Addr) (pc : Nat), Below w6.heap.size w6 W → Calls Try.prog 12 #[.agg #[.slice (p 0) (l 0) (c 0), .slice (p 1) (l 1) (c 1), .slice (p 2) (l 2) (c 2), .slice (p 3) (l 3) (c 3), .slice (p 4) (l 4) (c 4), .slice (p 5) (l 5) (c 5)], .agg #[.int .i64 2, .int .i64 (fr : Int), .int .i64 (-1), .int .i64 0], .agg #[.int .i64 4, .slice pa nP pc]] W fun e' w' => e' = .returned (.tuple #[.bool true, .int .i64 0]) ∧ Below W.heap.size W w') := hid (fun W pa pc hb => HSat.out W 2 pa pc hb (.inr rfl))
                  clear HSat
                  go_wp2_with fail
                  refine (HS1.out _ _ _ HW6.out.drew).mono ?_
                  rintro e' wi ⟨rfl, hbi⟩
                  have HBi := hid (HBj.out.drew.trans (hbi.mono HBj.out.drew.size))
                  clear hbi k0 k1 kc q0 q1 q2 q3 q4 q5 c1 c3
                  obtain ⟨⟨k0, k1⟩, -, -, -, ⟨q0, q1, q2, q3, q4, q5⟩, hw6, -⟩ := HW.out _ HBi.out
                  have HWi := hid hw6
                  clear hw6
                  go_wp2_with fail
                  refine (HS2.out _ _ _ HWi.out).mono ?_
                  rintro e' wj ⟨rfl, hbj⟩
                  have HBk := hid (HBi.out.trans (hbj.mono HBi.out.size))
                  clear hbj k0 k1 q0 q1 q2 q3 q4 q5
                  obtain ⟨⟨k0, k1⟩, -, -, -, ⟨q0, q1, q2, q3, q4, q5⟩, -, hw5⟩ := HW.out _ HBk.out
                  have HWk := hid hw5
                  clear hw5
                  go_wp2
                  go_roundw
                  case rel => exact ⟨k + 1, by omega, by go_num, HWk.out⟩
                  case measure => simp [intOf]; omega
    · have dk : decide ((k : Int) < (np : Int)) = false := decide_eq_false (by omega)
      go_wp2
      go_ret
      exact ⟨rfl, HBw.out⟩

theorem own : ownKnob Try.prog.godebug = none := by kernel_rfl
theorem laidOut : laidOutB Try.prog = true := by kernel_rfl

set_option maxRecDepth 100000 in
theorem lifted (os : Os) (started : os.Started) (H : Type) (enc : TypeId × Value → H) :
    ReturnsInHanded {} Try.checked os 3 .any (Rows.fnWalksSpec.pre6 enc Try.prog Try.f3 Rows.fnWalksRow.domain false) (Rows.fnWalksSpec.post enc Try.prog Try.f3 false true false false) := by
  refine returnsInHanded_of_change (C := Try.checked) own started (by kernel_rfl) Try.func3
    (ChangeSpec.witness6 (enc := enc) (C := Try.checked) false ⟨#[], #[.slice none 0 0, .slice none 0 0], []⟩ 8 (by kernel_rfl) (by kernel_rfl) (by kernel_rfl) (by kernel_rfl)) ?_
  intro W base args ds gs before hval0 hW hcnd _
  have hval : ∀ (j : Nat) t v, Try.f3.params[j]? = some t → args[j]? = some v → Value.okWide Try.prog W .any base t v := hval0
  have hW' := hW
  obtain ⟨p, q, hA0, hV, rfl, hfz, hnd⟩ := hW
  have hA : DataW.TrodAll enc Try.prog W 0 (fun _ => true) true Try.f3.params.toList args.toList ds p := hA0
  rw [Try.params3] at hA hval
  obtain ⟨v0, vs0, d0, ds0, p0, q0, hargs, rfl, rfl, h0, r0⟩ := trodAll_cons hA
  obtain ⟨v1, vs1, d1, ds1, p1, q1, rfl, rfl, rfl, h1, r1⟩ := trodAll_cons r0
  obtain ⟨rfl, rfl, rfl⟩ := trodAll_nil r1
  obtain rfl : args = #[v0, v1] := by cases args; simp_all
  obtain ⟨rfl, rfl⟩ := trodVars_none hV
  have k0 := h0
  have lt0 : ∀ x ∈ p0, x.block < W.heap.size := by obtain ⟨m, hm⟩ := k0; exact DataW.trod_lt m _ _ _ hm
  have k1 := h1
  have lt1 : ∀ x ∈ p1, x.block < W.heap.size := by obtain ⟨m, hm⟩ := k1; exact DataW.trod_lt m _ _ _ hm
  obtain ⟨aA, la, cA, rfl⟩ := okWide_slice Try.underlying22 (hval 0 22 v0 rfl rfl)
  obtain ⟨aB, lb, cB, rfl⟩ := okWide_slice Try.underlying22 (hval 1 22 v1 rfl rfl)
  obtain ⟨hA1, hA2⟩ : Bytes W aA la ∧ la ≤ maxLen := by
    obtain ⟨fuel, hf⟩ := h0
    obtain ⟨a', l', c', e, hb, hl⟩ := bytes_of_trod Try.underlying22 Try.underlying5 (by kernel_rfl) (by simpa [Value.cells] using hf)
    cases e
    exact ⟨hb, hl⟩
  obtain ⟨hB1, hB2⟩ : Bytes W aB lb ∧ lb ≤ maxLen := by
    obtain ⟨fuel, hf⟩ := h1
    obtain ⟨a', l', c', e, hb, hl⟩ := bytes_of_trod Try.underlying22 Try.underlying5 (by kernel_rfl) (by simpa [Value.cells] using hf)
    cases e
    exact ⟨hb, hl⟩
  clear hA0 hval0
  refine (walk aA aB la cA lb cB W hA1 hB1 hA2 hB2).mono fun e W' ⟨he, bel⟩ => ?_
  subst he
  exact ⟨_, rfl, _, _, _, [], _, [], hW', trodAll_mk1 (shut_bool Try.underlying4 _), (trodAll_cons_mk (Below.trod laidOut (by kernel_rfl) (of_decide_eq_true (by kernel_rfl)) k0 bel lt0) (trodAll_cons_mk (Below.trod laidOut (by kernel_rfl) (of_decide_eq_true (by kernel_rfl)) k1 bel lt1) trodAll_mk0)), rfl, bel.frame _, fun h => by cases h⟩

theorem over : Rows.fnWalksRow.holds Try.pinned (OpenSpec.ofChange Rows.fnWalksSpec) :=
  OpenClaim.holds_of_wide 3 Try.f3 rfl rfl rfl rfl rfl rfl rfl ⟨rfl, rfl, rfl, rfl, rfl⟩ rfl rfl rfl rfl rfl (by kernel_rfl) Try.func3 (by kernel_rfl)
    (of_decide_eq_true (by kernel_rfl)) (by unfold Func.isWrapper; first | (rw [if_pos (by decide +kernel)]; kernel_rfl) | (rw [if_neg (by decide +kernel)]; exact ⟨rfl, rfl⟩))
    (fun os started H enc _ => lifted os started H enc)
end Go.Proofs.Ytjdeoiohbbnmeaa.fnWalks
namespace Go.Proofs.Ytjdeoiohbbnmeaa
theorem fnWalks_holds : Rows.FnWalksSaid := fnWalks.over
end Go.Proofs.Ytjdeoiohbbnmeaa
