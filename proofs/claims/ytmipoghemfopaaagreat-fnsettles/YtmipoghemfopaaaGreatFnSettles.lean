/- Where the routers of a drawn network come to rest, it is in a stable state, and Settle answers as its specification; conditions: none. -/
import Derived.Test.YtmipoghemfopaaaGreatLawAll
import Derived.Test.YtmipoghemfopaaaGreatStabIn
import Derived.Test.YtmipoghemfopaaaGreatSettleAll
import Derived.Test.YtmipoghemfopaaaGreatStaAll
namespace Go.Proofs.YtmipoghemfopaaaGreat.fnSettles
open Go.ChangeShapes Go.WideShapes Go.ChangeAt Go.RowKit Go.Deep Go.Joins Go base copy args netSem netMath routeRow candSem candEnv intsOwn rtsRow rRows source netOf envOf lawNets sameRts stabImpl stabFace settleSem settleImpl settleSpec prodSem ssSem stabIn staFaceS
set_option linter.unusedVariables false

theorem rr_cell {B : Nat} {w : World} {a : Option Addr} {n c : Nat} {ps : List ((Nat × Nat) × List Rt)} (h : OwnRR B w (.slice a n c) ps) {i : Nat} (hi : i < ps.length) : ∃ gb, a = some ⟨gb, 0, none⟩ ∧ w.cell? ⟨gb, i, none⟩ = some (rvR ps[i]) := by
  obtain ⟨h1, h2⟩ := h.outer
  rcases h2 with ⟨h2, h0⟩ | ⟨gb, cap, cur, e, hb, hh, hc, hm, hs, ht⟩
  · omega
  · have e1 : a = some ⟨gb, 0, none⟩ := by injection e
    refine ⟨gb, e1, ?_⟩
    have h7 : (ps.map rvR)[i]? = some (rvR ps[i]) := by rw [List.getElem?_map, List.getElem?_eq_getElem hi]; rfl
    rw [← ht, List.getElem?_take_of_lt (by omega)] at h7
    simp only [World.cell?, hh]
    simpa using h7
theorem state_len {g : R} {nl nx : Nat} {o e : List Int} {x : R} {env : List Int} {ds : List Bool} {n : Nat} {ll : List (List Int)} {zs : List Rt} (h : zs ∈ statesL g nl o e x nx env ds n ll) : zs.length = n := by
  unfold statesL at h
  obtain ⟨c, _, rfl⟩ := List.mem_map.1 h
  unfold stateOf
  simp

set_option maxHeartbeats 6400000 in
set_option maxRecDepth 8000 in
theorem walk (aC aM : Option Addr) (lC cC lM cM : Nat) (w : World) (hC : Bytes w aC lC) (hM : Bytes w aM lM) (hlC : lC ≤ maxLen) (hlM : lM ≤ maxLen) :
    Calls Tryz.prog 3 #[.slice aC lC cC, .slice aM lM cM] w fun e w' => e = .returned (.bool true) ∧ Below w.heap.size w w' := by
  have HC := hid hC
  have HM := hid hM
  unfold maxLen at hlC hlM
  clear hC hM
  by_cases h1 : 1048576 < lC
  · have i1 : decide ((1048576 : Int) < (lC : Int)) = true := decide_eq_true (by omega)
    go_enter Tryz.func3, Tryz.ntmps3
    go_wp2
    go_ret
    exact ⟨rfl, (by repeat (first | exact Below.refl _ _ | assumption | refine Below.drew ?_ | refine Below.alloc ?_ (by first | exact Nat.le_refl _ | omega | (simp; done) | (simp; omega)) _ | refine Below.setCell ?_ (by first | exact Nat.le_refl _ | omega | (simp; done) | (simp; omega)) _))⟩
  have i1 : decide ((1048576 : Int) < (lC : Int)) = false := decide_eq_false (by omega)
  by_cases h2 : 1048576 < lM
  · have i2 : decide ((1048576 : Int) < (lM : Int)) = true := decide_eq_true (by omega)
    go_enter Tryz.func3, Tryz.ntmps3
    go_wp2
    go_ret
    exact ⟨rfl, (by repeat (first | exact Below.refl _ _ | assumption | refine Below.drew ?_ | refine Below.alloc ?_ (by first | exact Nat.le_refl _ | omega | (simp; done) | (simp; omega)) _ | refine Below.setCell ?_ (by first | exact Nat.le_refl _ | omega | (simp; done) | (simp; omega)) _))⟩
  have i2 : decide ((1048576 : Int) < (lM : Int)) = false := decide_eq_false (by omega)
  go_enter Tryz.func3, Tryz.ntmps3
  go_wp2_with fail
  refine (netOf_spec aC lC cC _ HC.out (by omega)).mono ?_
  rintro e' w1 ⟨p, l, c, g, o, e, x, f, rfl, hn, hnr, hnc, hb⟩
  obtain ⟨hl0, hl1, hl3, hcost⟩ := net_small hnr
  have HN1 := hid hn
  have HNr := hid hnr
  have HNc := hid hnc
  have HB1 := hid hb
  have HCo := hid hcost
  clear hn hnr hnc hb hcost
  unfold netV
  have HEv := hid (fun (W : World) (hb : Bytes W aM lM) => envOf_spec aM lM cM p l c W hb (by omega) (by omega))
  have HDn := hid (fun (W : World) (hb : Bytes W aM lM) => downOf_spec aM lM cM p l c W hb (by omega) (by omega))
  unfold netV at HEv HDn
  go_wp2_with fail
  have HA1 : Hid (Below w1.heap.size w1 (w1.alloc (.cells #[.slice (p 0) (l 0) (c 0), .slice (p 1) (l 1) (c 1), .slice (p 2) (l 2) (c 2), .slice (p 3) (l 3) (c 3), .slice (p 4) (l 4) (c 4), .slice (p 5) (l 5) (c 5)] 29))) := (by repeat (first | exact Below.refl _ _ | assumption | refine Below.drew ?_ | refine Below.alloc ?_ (by first | exact Nat.le_refl _ | omega | (simp; done) | (simp; omega)) _ | refine Below.setCell ?_ (by first | exact Nat.le_refl _ | omega | (simp; done) | (simp; omega)) _))
  have hcn : (w1.alloc (.cells #[.slice (p 0) (l 0) (c 0), .slice (p 1) (l 1) (c 1), .slice (p 2) (l 2) (c 2), .slice (p 3) (l 3) (c 3), .slice (p 4) (l 4) (c 4), .slice (p 5) (l 5) (c 5)] 29)).cell? ⟨w1.heap.size, 0, none⟩ = some (.slice (p 0) (l 0) (c 0)) ∧ (w1.alloc (.cells #[.slice (p 0) (l 0) (c 0), .slice (p 1) (l 1) (c 1), .slice (p 2) (l 2) (c 2), .slice (p 3) (l 3) (c 3), .slice (p 4) (l 4) (c 4), .slice (p 5) (l 5) (c 5)] 29)).cell? ⟨w1.heap.size, 1, none⟩ = some (.slice (p 1) (l 1) (c 1)) ∧ (w1.alloc (.cells #[.slice (p 0) (l 0) (c 0), .slice (p 1) (l 1) (c 1), .slice (p 2) (l 2) (c 2), .slice (p 3) (l 3) (c 3), .slice (p 4) (l 4) (c 4), .slice (p 5) (l 5) (c 5)] 29)).cell? ⟨w1.heap.size, 2, none⟩ = some (.slice (p 2) (l 2) (c 2)) ∧ (w1.alloc (.cells #[.slice (p 0) (l 0) (c 0), .slice (p 1) (l 1) (c 1), .slice (p 2) (l 2) (c 2), .slice (p 3) (l 3) (c 3), .slice (p 4) (l 4) (c 4), .slice (p 5) (l 5) (c 5)] 29)).cell? ⟨w1.heap.size, 3, none⟩ = some (.slice (p 3) (l 3) (c 3)) ∧ (w1.alloc (.cells #[.slice (p 0) (l 0) (c 0), .slice (p 1) (l 1) (c 1), .slice (p 2) (l 2) (c 2), .slice (p 3) (l 3) (c 3), .slice (p 4) (l 4) (c 4), .slice (p 5) (l 5) (c 5)] 29)).cell? ⟨w1.heap.size, 4, none⟩ = some (.slice (p 4) (l 4) (c 4)) ∧ (w1.alloc (.cells #[.slice (p 0) (l 0) (c 0), .slice (p 1) (l 1) (c 1), .slice (p 2) (l 2) (c 2), .slice (p 3) (l 3) (c 3), .slice (p 4) (l 4) (c 4), .slice (p 5) (l 5) (c 5)] 29)).cell? ⟨w1.heap.size, 5, none⟩ = some (.slice (p 5) (l 5) (c 5)) := by refine ⟨?_, ?_, ?_, ?_, ?_, ?_⟩ <;> simp [go_sem]
  have hzn : w1.heap.size < (w1.alloc (.cells #[.slice (p 0) (l 0) (c 0), .slice (p 1) (l 1) (c 1), .slice (p 2) (l 2) (c 2), .slice (p 3) (l 3) (c 3), .slice (p 4) (l 4) (c 4), .slice (p 5) (l 5) (c 5)] 29)).heap.size := by simp
  generalize w1.alloc (.cells #[.slice (p 0) (l 0) (c 0), .slice (p 1) (l 1) (c 1), .slice (p 2) (l 2) (c 2), .slice (p 3) (l 3) (c 3), .slice (p 4) (l 4) (c 4), .slice (p 5) (l 5) (c 5)] 29) = w2 at *
  have HB2 := hid (HB1.out.trans (HA1.out.mono HB1.out.size))
  have HK : Hid (∀ w8 : World, Below w2.heap.size w2 w8 → (w8.cell? ⟨w1.heap.size, 0, none⟩ = some (.slice (p 0) (l 0) (c 0)) ∧ w8.cell? ⟨w1.heap.size, 1, none⟩ = some (.slice (p 1) (l 1) (c 1)) ∧ w8.cell? ⟨w1.heap.size, 2, none⟩ = some (.slice (p 2) (l 2) (c 2)) ∧ w8.cell? ⟨w1.heap.size, 3, none⟩ = some (.slice (p 3) (l 3) (c 3)) ∧ w8.cell? ⟨w1.heap.size, 4, none⟩ = some (.slice (p 4) (l 4) (c 4)) ∧ w8.cell? ⟨w1.heap.size, 5, none⟩ = some (.slice (p 5) (l 5) (c 5))) ∧ NetIs w8 p l sN g o e x f ∧ Below w.heap.size w w8 ∧ w1.heap.size < w8.heap.size) := fun w8 h => by
    obtain ⟨a0, a1, a2, a3, a4, a5⟩ := hcn
    exact ⟨⟨keep h a0, keep h a1, keep h a2, keep h a3, keep h a4, keep h a5⟩, (HN1.out.below HA1.out).below h, HB2.out.trans (h.mono HB2.out.size), by have := h.size; omega⟩
  clear hcn hzn HA1 HN1 HB1
  refine (HEv.out _ (bytes_below HM.out HB2.out)).mono ?_
  rintro e' w3 ⟨v3, env, rfl, ho3, hel, hez, hb3⟩
  obtain ⟨ea, ec, rfl, hrow3⟩ := OwnInts.form ho3
  have HEr := hid hrow3
  have HEl := hid hel
  have HEz := hid hez
  have HB3 := hid hb3
  clear ho3 hrow3 hel hez hb3
  obtain ⟨⟨q0, q1, q2, q3, q4, q5⟩, hnet, hB, hz⟩ := HK.out w3 HB3.out
  have BW := hid hB
  clear hnet hB
  go_wp2_with fail
  refine (HDn.out _ (bytes_below HM.out BW.out)).mono ?_
  rintro e' w4 ⟨v4, ds, rfl, ho4, hdl, -, hb4⟩
  obtain ⟨da, dc, rfl, hrow4⟩ := OwnBools.form ho4
  have HDr := hid hrow4
  have HDl := hid hdl
  have HEr4 := hid (HEr.out.below hb4)
  have HB4 := hid (HB3.out.trans (hb4.mono HB3.out.size))
  clear ho4 hrow4 hdl hb4 HEr HB3 HEv HDn BW hz
  clear q0 q1 q2 q3 q4 q5
  obtain ⟨CC, hCC⟩ : ∃ q, setC (envC (netB l sN g o e x f) env.length ds.length (l 3) (l 1) env) 30 (setAt g (l 1) o e x (l 4) env ds (l 0) (30 : Int).toNat) = q := ⟨_, rfl⟩
  obtain ⟨RR, hRR⟩ : ∃ q, (if CC = 0 then (List.range (l 0)).map (st g (l 1) o e x (l 4) env ds (l 0) (setAt g (l 1) o e x (l 4) env ds (l 0) (30 : Int).toNat).toNat) else []) = q := ⟨_, rfl⟩
  have HD0 : Hid (envC (netB l sN g o e x f) env.length ds.length (l 3) (l 1) env = 0) := hid (by
    rw [HNr.out, ← HEl.out, ← HDl.out]
    exact env_good HEz.out (by rw [HEl.out]; omega) (by rw [HDl.out]; omega))
  have HCC : Hid (CC = 8 ∨ (CC = 0 ∧ RR.length = l 0 ∧ RR ∈ ssL 0 g (l 1) o e x (l 4) env ds (l 0))) := hid (by
    rw [HD0.out] at hCC
    unfold setC at hCC
    rw [if_pos rfl, if_pos (by decide)] at hCC
    by_cases h0 : setAt g (l 1) o e x (l 4) env ds (l 0) (30 : Int).toNat < 0
    · rw [if_pos h0] at hCC
      exact .inl hCC.symm
    · rw [if_neg h0] at hCC
      refine .inr ⟨hCC.symm, ?_⟩
      rw [← hCC, if_pos rfl] at hRR
      rw [← hRR]
      refine ⟨by simp, ?_⟩
      unfold ssL
      rw [if_pos rfl]
      have hst := first_at (show 0 ≤ firstAt (fun t => stabB g (l 1) o e x (l 4) env ds (st g (l 1) o e x (l 4) env ds (l 0) t) (l 0)) ((30 : Int).toNat + 1) from Int.not_lt.1 h0)
      have hc := fun i hi => (sceneFace.link_facts ((sceneFace.net_links HNr.out).2.2.1 i hi) hl0.2).2.2
      exact stab_in hl0.1 hl0.2 (env_pos HEz.out) HCo.out (fun i _ => (st_bounds hc hl0.1 _ i).2.1) hst)
  have HSI : Hid (∀ W : World, Below w4.heap.size w4 W → Calls Tryz.prog 7 #[netV p l c, .slice ea env.length ec, .slice da ds.length dc, .int .i64 30] W fun e' w' => ∃ v, e' = .returned (.tuple #[v, .int .i64 CC]) ∧ OwnRts W.heap.size w' v RR ∧ Below W.heap.size W w') := hid (fun W hb => by
    have := settle_impl p l c sN g o e x f ea da env.length ec ds.length dc env ds 30 W (HK.out W (HB4.out.trans (hb.mono HB4.out.size))).2.1 HNc.out.1 HNc.out.2 (HEr4.out.below hb) (HDr.out.below hb)
    rw [hCC, hRR] at this
    exact this)
  have HSS : Hid (∀ W : World, Below w4.heap.size w4 W → Calls Tryz.prog 8 #[netV p l c, .slice ea env.length ec, .slice da ds.length dc, .int .i64 30] W fun e' w' => ∃ v, e' = .returned (.tuple #[v, .int .i64 CC]) ∧ OwnRts W.heap.size w' v RR ∧ Below W.heap.size W w') := hid (fun W hb => by
    have := settle_spec p l c sN g o e x f ea da env.length ec ds.length dc env ds 30 W (HK.out W (HB4.out.trans (hb.mono HB4.out.size))).2.1 HNc.out.1 HNc.out.2 (HEr4.out.below hb) (HDr.out.below hb)
    rw [hCC, hRR] at this
    exact this)
  have HST : Hid (∀ W : World, Below w4.heap.size w4 W → Calls Tryz.prog 10 #[netV p l c, .slice ea env.length ec, .slice da ds.length dc] W fun e' w' => ∃ v ps, e' = .returned (.tuple #[v, .int .i64 0]) ∧ OwnRR W.heap.size w' v ps ∧ ps.map Prod.snd = ssL 0 g (l 1) o e x (l 4) env ds (l 0) ∧ Below W.heap.size W w') := hid (fun W hb => by
    have := ss_spec p l c sN g o e x f ea da env.length ec ds.length dc env ds W (HK.out W (HB4.out.trans (hb.mono HB4.out.size))).2.1 HNc.out.1 HNc.out.2 (HEr4.out.below hb) (HDr.out.below hb)
    rw [HD0.out] at this
    exact this)
  have HSl : Hid (∀ zs ∈ ssL 0 g (l 1) o e x (l 4) env ds (l 0), zs.length = l 0) := hid (fun zs hz => by
    unfold ssL at hz
    rw [if_pos rfl] at hz
    exact state_len hz)
  obtain ⟨SL, hSL⟩ : ∃ q, ssL 0 g (l 1) o e x (l 4) env ds (l 0) = q := ⟨_, rfl⟩
  rw [hSL] at HCC HST HSl
  clear hCC hRR hSL HD0 HEz HCo HEr4 HDr HNr HNc
  unfold netV at HSI HSS HST
  have hcc : (CC != CC) = false := by simp
  obtain ⟨⟨q0, q1, q2, q3, q4, q5⟩, -, -, hz⟩ := HK.out w4 HB4.out
  obtain ⟨en, hen⟩ : ∃ n, env.length = n := ⟨_, rfl⟩
  obtain ⟨dn, hdn⟩ : ∃ n, ds.length = n := ⟨_, rfl⟩
  rw [hen, hdn] at HSI HSS HST
  rw [hen, hdn]
  clear hen hdn HEl HDl
  go_wp2_with fail
  refine (HSI.out _ (Below.refl _ _)).mono ?_
  rintro e' w5 ⟨v5, rfl, ho5, hb5⟩
  have HB5 := hid hb5
  have HO5 := hid ho5
  obtain ⟨a5, c5, rfl, hr5⟩ := rts_form ho5
  clear ho5 hb5 hr5 hz
  clear q0 q1 q2 q3 q4 q5
  obtain ⟨⟨q0, q1, q2, q3, q4, q5⟩, -, -, hz⟩ := HK.out w5 (HB4.out.trans (HB5.out.mono HB4.out.size))
  go_wp2_with fail
  refine (HSS.out _ HB5.out).mono ?_
  rintro e' w6 ⟨v6, rfl, ho6, hb6⟩
  have HB6 := hid (HB5.out.trans (hb6.mono HB5.out.size))
  have HR5 := hid ((rts_row HO5.out).below hb6)
  obtain ⟨a6, c6, rfl, hr6⟩ := rts_form ho6
  have HR6 := hid hr6
  clear ho6 hb6 hr6 hz HO5
  clear q0 q1 q2 q3 q4 q5
  have hsm : sameTo (rF RR) (rF RR) RR.length = true := same_yes fun _ _ => rfl
  have HSm := hid hsm
  obtain ⟨nR, hnR⟩ : ∃ n, RR.length = n := ⟨_, rfl⟩
  have HnR := hid hnR
  rw [hnR] at HR5 HR6 HSm ⊢
  clear hsm hnR
  go_wp2_with fail
  refine (same_rts a5 a6 nR c5 c6 (rF RR) (rF RR) _ HR5.out HR6.out).mono ?_
  rintro e' w7 ⟨rfl, hb7⟩
  rw [HSm.out]
  have HB7 := hid (HB6.out.trans (hb7.mono HB6.out.size))
  have HR7 := hid (HR5.out.below hb7)
  clear hb7 HR5 HR6 HSm HB5 HB6 HSI HSS
  obtain ⟨⟨q0, q1, q2, q3, q4, q5⟩, -, hB, hz⟩ := HK.out w7 (HB4.out.trans (HB7.out.mono HB4.out.size))
  have BW := hid hB
  clear hB
  rcases HCC.out with h8 | ⟨h8, hlen, hmem⟩
  · clear HCC
    subst h8
    go_wp2
    go_ret
    exact ⟨rfl, BW.out⟩
  clear HCC
  subst h8
  have HLn := hid hlen
  have HMe := hid hmem
  clear hlen hmem
  go_wp2_with fail
  refine (HST.out _ HB7.out).mono ?_
  rintro e' w8 ⟨v8, ps, rfl, ho8, hps, hb8⟩
  have HB8 := hid (HB7.out.trans (hb8.mono HB7.out.size))
  have HR8 := hid (HR7.out.below hb8)
  have HPs := hid hps
  obtain ⟨a8, c8, rfl⟩ := ho8.form
  have HO8 := hid ho8
  have hpm : ps.length ≤ maxLen := by
    rcases ho8.outer.2 with ⟨_, h0⟩ | ⟨_, cap9, _, _, _, _, h9, h9', _⟩
    · rw [h0]; exact Nat.zero_le _
    · exact Nat.le_trans h9 h9'
  unfold maxLen at hpm
  clear ho8 hps hb8 hz HR7 HB7 HST BW
  clear q0 q1 q2 q3 q4 q5
  obtain ⟨np, hnp⟩ : ∃ n, ps.length = n := ⟨_, rfl⟩
  have HNp := hid hnp
  rw [hnp] at HO8 hpm ⊢
  clear hnp
  go_wp2_with fail
  go_loopw [14] (fun i wr => ∃ k : Nat, k ≤ np ∧ i = .int .i64 k ∧ (∀ j (hj : j < ps.length), j < k → ps[j].2 ≠ RR) ∧ Below w8.heap.size w8 wr) (fun i _ => np - (intOf i).toNat)
  case atStart => exact ⟨0, Nat.zero_le _, rfl, fun j _ hj => absurd hj (Nat.not_lt_zero _), Below.refl _ _⟩
  case round =>
    obtain ⟨k, hk, rfl, ha, hbel⟩ := hrel
    have HA := hid ha
    have HBl := hid hbel
    have HBw := hid (HK.out wr (HB4.out.trans ((HB8.out.trans (hbel.mono HB8.out.size)).mono HB4.out.size))).2.2.1
    clear ha hbel
    by_cases hlt : k < np
    · have hlt' : k < ps.length := by rw [HNp.out]; exact hlt
      obtain ⟨gb, rfl, hcell⟩ := rr_cell (HO8.out.below HBl.out) hlt'
      have hin := (HO8.out.below HBl.out).inner ps[k] (List.getElem_mem hlt')
      have hl9 : ps[k].2.length = nR := by
        rw [← HnR.out, HLn.out]
        exact HSl.out _ (by rw [← HPs.out]; exact List.mem_map.2 ⟨_, List.getElem_mem hlt', rfl⟩)
      have HSa : Hid ((ps[k].2 = RR → sameTo (rF ps[k].2) (rF RR) nR = true) ∧ (ps[k].2 ≠ RR → sameTo (rF ps[k].2) (rF RR) nR = false)) := hid (by rw [← hl9]; exact same_list (by rw [hl9, HnR.out]))
      have HNx : Hid (ps[k].2 ≠ RR → ∀ j (hj : j < ps.length), j < k + 1 → ps[j].2 ≠ RR) := hid (fun h j hj h' => by
        by_cases e : j = k
        · subst e; exact h
        · exact HA.out j hj (by omega))
      obtain ⟨q, hq⟩ : ∃ q, ps[k] = q := ⟨_, rfl⟩
      rw [hq] at hcell hin hl9 HSa HNx
      clear hq
      obtain ⟨⟨ga, gc⟩, zs⟩ := q
      unfold rvR at hcell hin
      dsimp only at hcell hin hl9 HSa HNx
      rw [hl9] at hcell hin
      have HRow := hid (rts_row hin)
      have HR9 := hid (HR8.out.below HBl.out)
      clear hin hl9
      go_wp2_with fail
      refine (same_rts (some ⟨ga, 0, none⟩) a5 nR gc c5 (rF zs) (rF RR) _ HRow.out HR9.out).mono ?_
      rintro e' w9 ⟨rfl, hb9⟩
      have HB9 := hid (HBl.out.trans (hb9.mono HBl.out.size))
      have HBw9 := hid (HBw.out.trans (hb9.mono HBw.out.size))
      clear hb9
      by_cases hz : zs = RR
      · have dz := HSa.out.1 hz
        rw [dz]
        clear hz dz HSa HNx
        go_wp2
        go_ret
        exact ⟨rfl, HBw9.out⟩
      · have dz := HSa.out.2 hz
        have HN2 := hid (HNx.out hz)
        rw [dz]
        clear hz dz HSa HNx
        go_wp2
        go_roundw
        case rel => exact ⟨k + 1, by omega, by go_num, HN2.out, HB9.out⟩
        case measure => simp [intOf]; omega
    · exfalso
      have hm := HMe.out
      rw [← HPs.out] at hm
      obtain ⟨q, hq, e9⟩ := List.mem_map.1 hm
      obtain ⟨j, hj, rfl⟩ := List.getElem_of_mem hq
      exact HA.out j hj (by rw [HNp.out] at hj; omega) e9

theorem own : ownKnob Tryz.prog.godebug = none := by kernel_rfl
theorem laidOut : laidOutB Tryz.prog = true := by kernel_rfl

set_option maxRecDepth 100000 in
theorem lifted (os : Os) (started : os.Started) (H : Type) (enc : TypeId × Value → H) :
    ReturnsInHanded {} Tryz.checked os 3 .any (Rows.fnSettlesSpec.pre6 enc Tryz.prog Tryz.f3 Rows.fnSettlesRow.domain false) (Rows.fnSettlesSpec.post enc Tryz.prog Tryz.f3 false true false false) := by
  refine returnsInHanded_of_change (C := Tryz.checked) own started (by kernel_rfl) Tryz.func3
    (ChangeSpec.witness6 (enc := enc) (C := Tryz.checked) false ⟨#[], #[.slice none 0 0, .slice none 0 0], []⟩ 8 (by kernel_rfl) (by kernel_rfl) (by kernel_rfl) (by kernel_rfl)) ?_
  intro W base args ds gs before hval0 hW hcnd _
  have hval : ∀ (j : Nat) t v, Tryz.f3.params[j]? = some t → args[j]? = some v → Value.okWide Tryz.prog W .any base t v := hval0
  have hW' := hW
  obtain ⟨p, q, hA0, hV, rfl, hfz, hnd⟩ := hW
  have hA : DataW.TrodAll enc Tryz.prog W 0 (fun _ => true) true Tryz.f3.params.toList args.toList ds p := hA0
  rw [Tryz.params3] at hA hval
  obtain ⟨v0, vs0, d0, ds0, p0, q0, hargs, rfl, rfl, h0, r0⟩ := trodAll_cons hA
  obtain ⟨v1, vs1, d1, ds1, p1, q1, rfl, rfl, rfl, h1, r1⟩ := trodAll_cons r0
  obtain ⟨rfl, rfl, rfl⟩ := trodAll_nil r1
  obtain rfl : args = #[v0, v1] := by cases args; simp_all
  obtain ⟨rfl, rfl⟩ := trodVars_none hV
  have k0 := h0
  have lt0 : ∀ x ∈ p0, x.block < W.heap.size := by obtain ⟨m, hm⟩ := k0; exact DataW.trod_lt m _ _ _ hm
  have k1 := h1
  have lt1 : ∀ x ∈ p1, x.block < W.heap.size := by obtain ⟨m, hm⟩ := k1; exact DataW.trod_lt m _ _ _ hm
  obtain ⟨aA, la, cA, rfl⟩ := okWide_slice Tryz.underlying22 (hval 0 22 v0 rfl rfl)
  obtain ⟨aB, lb, cB, rfl⟩ := okWide_slice Tryz.underlying22 (hval 1 22 v1 rfl rfl)
  obtain ⟨hA1, hA2⟩ : Bytes W aA la ∧ la ≤ maxLen := by
    obtain ⟨fuel, hf⟩ := h0
    obtain ⟨a', l', c', e, hb, hl⟩ := bytes_of_trod Tryz.underlying22 Tryz.underlying5 (by kernel_rfl) (by simpa [Value.cells] using hf)
    cases e
    exact ⟨hb, hl⟩
  obtain ⟨hB1, hB2⟩ : Bytes W aB lb ∧ lb ≤ maxLen := by
    obtain ⟨fuel, hf⟩ := h1
    obtain ⟨a', l', c', e, hb, hl⟩ := bytes_of_trod Tryz.underlying22 Tryz.underlying5 (by kernel_rfl) (by simpa [Value.cells] using hf)
    cases e
    exact ⟨hb, hl⟩
  clear hA0 hval0
  refine (walk aA aB la cA lb cB W hA1 hB1 hA2 hB2).mono fun e W' ⟨he, bel⟩ => ?_
  subst he
  exact ⟨_, rfl, _, _, _, [], _, [], hW', trodAll_mk1 (shut_bool Tryz.underlying4 _), (trodAll_cons_mk (Below.trod laidOut (by kernel_rfl) (of_decide_eq_true (by kernel_rfl)) k0 bel lt0) (trodAll_cons_mk (Below.trod laidOut (by kernel_rfl) (of_decide_eq_true (by kernel_rfl)) k1 bel lt1) trodAll_mk0)), rfl, bel.frame _, fun h => by cases h⟩

theorem over : Rows.fnSettlesRow.holds Tryz.pinned (OpenSpec.ofChange Rows.fnSettlesSpec) :=
  OpenClaim.holds_of_wide 3 Tryz.f3 rfl rfl rfl rfl rfl rfl rfl ⟨rfl, rfl, rfl, rfl, rfl⟩ rfl rfl rfl rfl rfl (by kernel_rfl) Tryz.func3 (by kernel_rfl)
    (of_decide_eq_true (by kernel_rfl)) (by unfold Func.isWrapper; first | (rw [if_pos (by decide +kernel)]; kernel_rfl) | (rw [if_neg (by decide +kernel)]; exact ⟨rfl, rfl⟩))
    (fun os started H enc _ => lifted os started H enc)
end Go.Proofs.YtmipoghemfopaaaGreat.fnSettles
namespace Go.Proofs.YtmipoghemfopaaaGreat
theorem fnSettles_holds : Rows.FnSettlesSaid := fnSettles.over
end Go.Proofs.YtmipoghemfopaaaGreat
