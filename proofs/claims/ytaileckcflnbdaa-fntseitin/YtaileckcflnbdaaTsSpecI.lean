/- Tseitin of the specification; conditions: the literal fits. -/
import Derived.Test.YtaileckcflnbdaaTseitinI
import Derived.Test.YtaileckcflnbdaaHeldStore
import Derived.Test.YtaileckcflnbdaaAigSpec
namespace Go.Proofs.Ytaileckcflnbdaa.tsSpec
open Go.RowKit Go.Deep base gates trees aigImpl aigSpec evalAig rowsOwn cnf heldStore tseitin
set_option linter.unusedVariables false
set_option linter.unusedSimpArgs false

set_option maxHeartbeats 12800000 in
theorem tseitin_spec (n : Int) (a : Option Addr) (len cap : Nat) (g : Gs) (l : Int) (w : World) (hr : GateRow w a len g) (hw : ∀ i, i < len → I64 (g i).1 ∧ I64 (g i).2) (hl : I64 l) :
    Calls Try.prog 7 #[.agg #[.int .i64 n, .slice a len cap], .int .i64 l] w fun e w' => Ts w w' e n len g l := by
  have HR := hid hr
  have HW := hid hw
  have HL := hid hl
  clear hr hw hl
  obtain ⟨i0, hi, hzz⟩ := Option.map_eq_some_iff.1 info_row
  simp only [Prod.mk.injEq] at hzz
  obtain ⟨hz0, hz1, hz2⟩ := hzz
  have HI := hid hi
  have HZ0 := hid hz0
  have HZ1 := hid hz1
  have HZ2 := hid hz2
  clear hi hz0 hz1 hz2
  cases hb : aigB n len g with
  | false =>
    go_enter Try.func7, Try.ntmps7
    go_wp2_with fail
    refine (aigOK_spec n a len cap g _ (HR.out.below (by repeat (first | exact Below.refl _ _ | assumption | refine Below.drew ?_ | refine Below.alloc ?_ (by first | exact Nat.le_refl _ | omega | (simp; done) | (simp; omega)) _ | refine Below.setCell ?_ (by first | exact Nat.le_refl _ | omega | (simp; done) | (simp; omega)) _))) HW.out).mono ?_
    rintro e w1 ⟨rfl, hb1⟩
    have HB := hid ((show Below w.heap.size w _ from (by repeat (first | exact Below.refl _ _ | assumption | refine Below.drew ?_ | refine Below.alloc ?_ (by first | exact Nat.le_refl _ | omega | (simp; done) | (simp; omega)) _ | refine Below.setCell ?_ (by first | exact Nat.le_refl _ | omega | (simp; done) | (simp; omega)) _))).trans (hb1.mono (by simp; omega)))
    have hq : Two w1 (w.heap.size + 1) (.int .i64 0) (.slice none 0 0) := (Two.made _ _ _ (by simp)).below hb1
    have q0 := hq.c0
    have q1 := hq.c1
    have q2 := hq.z 0
    have q3 := hq.z 1
    clear hb1 hq
    rw [hb]
    go_wp2
    (try simp only [Exit.inBlock, Exit.then])
    refine bodyPost_ret (v := .tuple #[.agg #[.int .i64 0, .slice none 0 0], .int .i64 1]) (by rw [results_cell_tmp rfl]; go_simp) rfl ?_
    exact ts_nil (ts_bad hb) ((HB.out.setCell (by dsimp only; omega) _).setCell (by dsimp only; omega) _)
  | true =>
  have hbd := of_decide_eq_true (Bool.and_eq_true_iff.1 hb).1
  obtain ⟨b0, b1, b2⟩ := hbd
  have HGood := hid (fun i (hi : i < len) => of_decide_eq_true (Bool.and_eq_true_iff.1 (allTo_true (Bool.and_eq_true_iff.1 hb).2 hi)).1)
  have HBT := hid hb
  go_enter Try.func7, Try.ntmps7
  go_wp2_with fail
  refine (aigOK_spec n a len cap g _ (HR.out.below (by repeat (first | exact Below.refl _ _ | assumption | refine Below.drew ?_ | refine Below.alloc ?_ (by first | exact Nat.le_refl _ | omega | (simp; done) | (simp; omega)) _ | refine Below.setCell ?_ (by first | exact Nat.le_refl _ | omega | (simp; done) | (simp; omega)) _))) HW.out).mono ?_
  rintro e w1 ⟨rfl, hb1⟩
  have HB := hid ((show Below w.heap.size w _ from (by repeat (first | exact Below.refl _ _ | assumption | refine Below.drew ?_ | refine Below.alloc ?_ (by first | exact Nat.le_refl _ | omega | (simp; done) | (simp; omega)) _ | refine Below.setCell ?_ (by first | exact Nat.le_refl _ | omega | (simp; done) | (simp; omega)) _))).trans (hb1.mono (by simp; omega)))
  have f0 : w1.cell? ⟨w.heap.size, 0, none⟩ = some (.int .i64 n) := keep hb1 (by simp [go_sem])
  have f1 : w1.cell? ⟨w.heap.size, 1, none⟩ = some (.slice a len cap) := keep hb1 (by simp [go_sem])
  have hq : Two w1 (w.heap.size + 1) (.int .i64 0) (.slice none 0 0) := (Two.made _ _ _ (by simp)).below hb1
  have HQ := hid hq
  clear hb1 hq
  rw [hb]
  clear hb
  go_wp2_with fail
  refine (in_lits n a len cap _ 1 1 [l] _ b0 b1 b2 (lit_row w1 l)).mono ?_
  rintro e w2 ⟨rfl, hb2'⟩
  have hb2 : Below w1.heap.size w1 w2 := (show Below w1.heap.size w1 _ from (by repeat (first | exact Below.refl _ _ | assumption | refine Below.drew ?_ | refine Below.alloc ?_ (by first | exact Nat.le_refl _ | omega | (simp; done) | (simp; omega)) _ | refine Below.setCell ?_ (by first | exact Nat.le_refl _ | omega | (simp; done) | (simp; omega)) _))).trans (hb2'.mono (by simp))
  have eall : [l].all (inL n len) = inL n len l := by simp
  rw [eall]
  have HB2 := hid (HB.out.trans (hb2.mono HB.out.size))
  clear hb2' eall
  replace f0 := keep hb2 f0
  replace f1 := keep hb2 f1
  have HQ2 := hid (HQ.out.below hb2)
  clear hb2 HQ
  cases hin : inL n len l with
  | false =>
    have q0 := HQ2.out.c0
    have q1 := HQ2.out.c1
    have q2 := HQ2.out.z 0
    have q3 := HQ2.out.z 1
    go_wp2
    (try simp only [Exit.inBlock, Exit.then])
    refine bodyPost_ret (v := .tuple #[.agg #[.int .i64 0, .slice none 0 0], .int .i64 5]) (by rw [results_cell_tmp rfl]; go_simp) rfl ?_
    exact ts_nil (ts_range HBT.out hin) ((HB2.out.setCell (by dsimp only; omega) _).setCell (by dsimp only; omega) _)
  | true =>
  have hlb := of_decide_eq_true hin
  obtain ⟨l0, l1⟩ := hlb
  have HIN := hid hin
  have hR2 := HQ2.out.lt
  have hS2 := World.block_lt_of_cell? _ _ f0
  go_wp2
  clear hin
  have HF3 : Hid (Fm w (w2.alloc (.cells #[.int .i64 (n + len), .slice none 0 0] 35)) (w.heap.size + 1) w2.heap.size n len (.slice none 0 0) []) :=
    ⟨HB2.out.alloc HB2.out.size _, HQ2.out.below (by repeat (first | exact Below.refl _ _ | assumption | refine Below.drew ?_ | refine Below.alloc ?_ (by first | exact Nat.le_refl _ | omega | (simp; done) | (simp; omega)) _ | refine Below.setCell ?_ (by first | exact Nat.le_refl _ | omega | (simp; done) | (simp; omega)) _)), Two.made _ _ _ rfl, OwnRows.nil _ _, List.Pairwise.nil, by simp, by omega, hR2⟩
  go_loopw [7] (fun i wr => ∃ (k : Nat) (v : Value) (ps : List (Value × List Int)), k ≤ len ∧ i = .int .i64 k ∧ wr.cell? ⟨w.heap.size, 0, none⟩ = some (.int .i64 n) ∧ wr.cell? ⟨w.heap.size, 1, none⟩ = some (.slice a len cap) ∧ Fm w wr (w.heap.size + 1) w2.heap.size n len v ps ∧ ps.map (·.2) = clausesTo n g k) (fun i _ => len - (intOf i).toNat)
  case atStart => exact ⟨0, _, [], Nat.zero_le _, rfl, keep (show Below w2.heap.size w2 _ from (by repeat (first | exact Below.refl _ _ | assumption | refine Below.drew ?_ | refine Below.alloc ?_ (by first | exact Nat.le_refl _ | omega | (simp; done) | (simp; omega)) _ | refine Below.setCell ?_ (by first | exact Nat.le_refl _ | omega | (simp; done) | (simp; omega)) _))) f0, keep (show Below w2.heap.size w2 _ from (by repeat (first | exact Below.refl _ _ | assumption | refine Below.drew ?_ | refine Below.alloc ?_ (by first | exact Nat.le_refl _ | omega | (simp; done) | (simp; omega)) _ | refine Below.setCell ?_ (by first | exact Nat.le_refl _ | omega | (simp; done) | (simp; omega)) _))) f1, HF3.out, rfl⟩
  case round =>
    obtain ⟨k, v, ps, hk, rfl, hn, hs, hfm, hps⟩ := hrel
    have HFM := hid hfm
    have HPS := hid hps
    have HPL : Hid (ps.length = 3 * k) := by show _ = _; rw [← clauses_len n g k, ← hps, List.length_map]
    clear hps
    by_cases hlt : k < len
    · obtain ⟨gx, gx1, gy, _⟩ := HGood.out k hlt
      obtain ⟨b, off, rfl, hc0, hc1⟩ := HR.out.cell k hlt
      replace hc0 := keep hfm.bel hc0
      replace hc1 := keep hfm.bel hc1
      have HNX : Hid (clausesTo n g (k + 1) = clausesTo n g k ++ gateC n g k) := rfl
      unfold gateC at HNX
      obtain ⟨x, y, hg⟩ : ∃ x y, g k = (x, y) := ⟨_, _, rfl⟩
      rw [hg] at hc0 hc1 gx gx1 gy HNX
      simp only at gx gx1 gy HNX
      have hbr := World.block_lt_of_cell? _ _ hc0
      have hnr := World.block_lt_of_cell? _ _ hn
      clear hg hfm
      have HFM2 := hid HFM.out
      have c1 := HFM2.out.frm.c1
      have hF2 := HFM2.out.frm.lt
      have HN2 := hid hn
      have HS2 := hid hs
      obtain ⟨px0, px1⟩ := flit_in (l := x) (by omega) (by omega)
      obtain ⟨py0, py1⟩ := flit_in (l := y) (by omega) (by omega)
      go_wp2_with fail
      refine (flit_spec x _ (by omega) (by omega)).mono ?_
      rintro e w' ⟨rfl, hww⟩
      replace hww := hww.symm
      subst hww
      go_wp2_with fail
      refine (flit_spec y _ (by omega) (by omega)).mono ?_
      rintro e w' ⟨rfl, hww⟩
      replace hww := hww.symm
      subst hww
      generalize flit x = P at *
      generalize flit y = Q at *
      clear hc0 hc1 hbr hnr hn hs
      go_wp2_with (at_builtin; (refine wpList_append_own _ rfl _ _ 33 rfl (w2.heap.size + 1) 30 i0 (.slice none 0 0) 1 24 Try.underlying33 HI.out HZ0.out HZ1.out HZ2.out rfl (by decide) v ps.length (ps.map Prod.fst) rfl (HFM2.out.own.below (by repeat (first | exact Below.refl _ _ | assumption | refine Below.drew ?_ | refine Below.alloc ?_ (by first | exact Nat.le_refl _ | omega | (simp; done) | (simp; omega)) _ | refine Below.setCell ?_ (by first | exact Nat.le_refl _ | omega | (simp; done) | (simp; omega)) _))).outer ⟨wr.heap.size + 3, 0, none⟩ 3 3 [.slice (some ⟨wr.heap.size, 0, none⟩) 2 2, .slice (some ⟨wr.heap.size + 1, 0, none⟩) 2 2, .slice (some ⟨wr.heap.size + 2, 0, none⟩) 3 3] rfl rfl (cells3 _ _ _ _ _ (by simp)) (fun x hx => by simp at hx; rcases hx with rfl | rfl | rfl <;> rfl) (by have := HPL.out; unfold maxLen; omega) (by have := HPL.out; omega) (by have := HFM2.out.size; simp; omega) ?_); intro v5 w5 hown5 hgrow5 hnil5; obtain ⟨a5, c5, rfl⟩ := own_form hown5; obtain ⟨⟨g0, g1, z1⟩, hfm5⟩ := add3 HFM2.out hown5 hgrow5; (have HF5 := hid hfm5); (have HN5 := hid (hgrow5.cell (keep (show Below wr.heap.size wr _ from (by repeat (first | exact Below.refl _ _ | assumption | refine Below.drew ?_ | refine Below.alloc ?_ (by first | exact Nat.le_refl _ | omega | (simp; done) | (simp; omega)) _ | refine Below.setCell ?_ (by first | exact Nat.le_refl _ | omega | (simp; done) | (simp; omega)) _))) HN2.out) (fm_ne HFM2.out))); (have HT5 := hid (hgrow5.cell (keep (show Below wr.heap.size wr _ from (by repeat (first | exact Below.refl _ _ | assumption | refine Below.drew ?_ | refine Below.alloc ?_ (by first | exact Nat.le_refl _ | omega | (simp; done) | (simp; omega)) _ | refine Below.setCell ?_ (by first | exact Nat.le_refl _ | omega | (simp; done) | (simp; omega)) _))) HS2.out) (fm_ne HFM2.out))); clear hown5 hgrow5 hnil5 hfm5)
      go_roundw
      case rel => exact ⟨k + 1, _, _, by omega, by go_num, (World.cell?_setCell_other _ _ _ _ (by intro e; injection e with e; omega)).trans HN5.out, (World.cell?_setCell_other _ _ _ _ (by intro e; injection e with e; omega)).trans HT5.out, HF5.out, by rw [List.map_append, HPS.out, HNX.out]; rfl⟩
      case measure => simp [intOf]; omega
    · have e : len = k := by omega
      subst e
      obtain ⟨va, vcap, hv⟩ := rows_form hfm.own
      subst hv
      have c0 := HFM.out.frm.c0
      have c1 := HFM.out.frm.c1
      clear hfm
      by_cases l_0 : l = 0
      · have d0 : (l == 0) = true := by simp [l_0]
        go_wp2_with (at_builtin; (refine wpList_append_own _ rfl _ _ 33 rfl (w2.heap.size + 1) 30 i0 (.slice none 0 0) 1 24 Try.underlying33 HI.out HZ0.out HZ1.out HZ2.out rfl (by decide) (.slice va ps.length vcap) ps.length (ps.map Prod.fst) rfl (HFM.out.own.below (by repeat (first | exact Below.refl _ _ | assumption | refine Below.drew ?_ | refine Below.alloc ?_ (by first | exact Nat.le_refl _ | omega | (simp; done) | (simp; omega)) _ | refine Below.setCell ?_ (by first | exact Nat.le_refl _ | omega | (simp; done) | (simp; omega)) _))).outer ⟨wr.heap.size + 1, 0, none⟩ 1 1 [.slice (some ⟨wr.heap.size, 0, none⟩) 0 0] rfl rfl (one_new _ _ _ (by simp)) (fun x hx => by simp at hx; subst hx; rfl) (by have := HPL.out; unfold maxLen; omega) (by have := HPL.out; omega) (by have := HFM.out.size; simp; omega) ?_); intro v5 w5 hown5 hgrow5 hnil5; obtain ⟨a6, c6, rfl⟩ := own_form hown5; obtain ⟨⟨g0, g1, z1⟩, hfm5⟩ := addOne (zs := []) HFM.out (show Below wr.heap.size wr _ from (by repeat (first | exact Below.refl _ _ | assumption | refine Below.drew ?_ | refine Below.alloc ?_ (by first | exact Nat.le_refl _ | omega | (simp; done) | (simp; omega)) _ | refine Below.setCell ?_ (by first | exact Nat.le_refl _ | omega | (simp; done) | (simp; omega)) _))) (made0 wr HFM.out.size) (fun g e => by simp [Value.ownBlock] at e; omega) hown5 hgrow5; (have HF6 := hid hfm5); clear hown5 hgrow5 hnil5 hfm5)
        
        have HPS6 : Hid (List.map (fun q : Value × List Int => q.2) (ps ++ [(Value.slice (some ⟨wr.heap.size, 0, none⟩) 0 0, [])]) = tsC n len g l) := by show _ = _; rw [List.map_append, HPS.out, l_0, ts_zero]; rfl
        have HROW : Hid (IntRows _ _ _ (tsC n len g l)) := HPS6.out ▸ rows_of_own HF6.out.own
        refine (cnfOK_spec (n + len) _ _ _ (tsC n len g l) _ HROW.out).mono ?_
        rintro e w7 ⟨rfl, hb7⟩
        have HF7 := hid (HF6.out.below hb7)
        clear hb7 HF6 HROW
        have r0 := HF7.out.ans.c0
        have r1 := HF7.out.ans.c1
        have r2 := HF7.out.ans.z 0
        have r3 := HF7.out.ans.z 1
        have s0 := HF7.out.frm.c0
        have s1 := HF7.out.frm.c1
        obtain ⟨ra, rb⟩ := HF7.out.ahead
        cases hcn : cnfB (n + len) (tsC n len g l) with
        | false =>
          go_wp2
          (try simp only [Exit.inBlock, Exit.then])
          refine bodyPost_ret (v := .tuple #[.agg #[.int .i64 0, .slice none 0 0], .int .i64 11]) (by rw [results_cell_tmp rfl]; go_simp) rfl ?_
          exact ts_nil (ts_size HBT.out HIN.out hcn) ((HF7.out.bel.setCell (by dsimp only; omega) _).setCell (by dsimp only; omega) _)
        | true =>
          obtain ⟨e1, e2, e3⟩ := ts_ok HBT.out HIN.out hcn
          have HE1 := hid e1
          have HE2 := hid e2
          have HE3 := hid e3
          clear e1 e2 e3
          go_wp2
          (try simp only [Exit.inBlock, Exit.then])
          refine bodyPost_ret (v := .tuple #[.agg #[.int .i64 (n + len), .slice a6 (ps.length + 1) c6], .int .i64 0]) (by rw [results_cell_tmp rfl]; go_simp) rfl ?_
          exact ⟨a6, (ps.length + 1), c6, _, by rw [HE1.out, HE2.out], rows_mono (rows_ahead (rows_ahead HF7.out.own (by omega)) (by omega)) (by omega), HF7.out.lone, by rw [HE3.out]; exact HPS6.out, (HF7.out.bel.setCell (by dsimp only; omega) _).setCell (by dsimp only; omega) _⟩
      by_cases l_1 : l = 1
      · have d0 : (l == 0) = false := by simp [l_0]
        have d1 : (l == 1) = true := by simp [l_1]
        have HPS6 : Hid (ps.map (·.2) = tsC n len g l) := by show _ = _; rw [HPS.out, l_1, ts_one]
        have HF6 := hid HFM.out
        obtain ⟨a6, ha6⟩ : ∃ a6, a6 = va := ⟨_, rfl⟩
        obtain ⟨c6, hc6⟩ : ∃ c6, c6 = vcap := ⟨_, rfl⟩
        subst ha6 hc6
        go_wp2_with fail
        have HROW : Hid (IntRows _ _ _ (tsC n len g l)) := HPS6.out ▸ rows_of_own HF6.out.own
        refine (cnfOK_spec (n + len) _ _ _ (tsC n len g l) _ HROW.out).mono ?_
        rintro e w7 ⟨rfl, hb7⟩
        have HF7 := hid (HF6.out.below hb7)
        clear hb7 HF6 HROW
        have r0 := HF7.out.ans.c0
        have r1 := HF7.out.ans.c1
        have r2 := HF7.out.ans.z 0
        have r3 := HF7.out.ans.z 1
        have s0 := HF7.out.frm.c0
        have s1 := HF7.out.frm.c1
        obtain ⟨ra, rb⟩ := HF7.out.ahead
        cases hcn : cnfB (n + len) (tsC n len g l) with
        | false =>
          go_wp2
          (try simp only [Exit.inBlock, Exit.then])
          refine bodyPost_ret (v := .tuple #[.agg #[.int .i64 0, .slice none 0 0], .int .i64 11]) (by rw [results_cell_tmp rfl]; go_simp) rfl ?_
          exact ts_nil (ts_size HBT.out HIN.out hcn) ((HF7.out.bel.setCell (by dsimp only; omega) _).setCell (by dsimp only; omega) _)
        | true =>
          obtain ⟨e1, e2, e3⟩ := ts_ok HBT.out HIN.out hcn
          have HE1 := hid e1
          have HE2 := hid e2
          have HE3 := hid e3
          clear e1 e2 e3
          go_wp2
          (try simp only [Exit.inBlock, Exit.then])
          refine bodyPost_ret (v := .tuple #[.agg #[.int .i64 (n + len), .slice a6 ps.length c6], .int .i64 0]) (by rw [results_cell_tmp rfl]; go_simp) rfl ?_
          exact ⟨a6, ps.length, c6, _, by rw [HE1.out, HE2.out], rows_mono (rows_ahead (rows_ahead HF7.out.own (by omega)) (by omega)) (by omega), HF7.out.lone, by rw [HE3.out]; exact HPS6.out, (HF7.out.bel.setCell (by dsimp only; omega) _).setCell (by dsimp only; omega) _⟩
      have d0 : (l == 0) = false := by simp [l_0]
      have d1 : (l == 1) = false := by simp [l_1]
      have HTL := hid (ts_lit n len g l_0 l_1)
      clear l_0 l_1
      go_wp2
      refine region_goes 8 9 (fun w' => w'.cell? ⟨w2.heap.size, 1, none⟩ = some (.slice va ps.length vcap)) (by kernel_rfl) (by rfl) ⟨by kernel_rfl, by kernel_rfl, by kernel_rfl, by decide⟩ (keep (by repeat (first | exact Below.refl _ _ | assumption | refine Below.drew ?_ | refine sorted.bdn ?_ _ | refine Below.alloc ?_ (by first | exact Nat.le_refl _ | exact Below.size (by assumption) | omega | (simp; done) | (simp; omega)) _)) HFM.out.frm.c1) (fun hE inv hHeld => ?_)
      refine Goes.take (i := 0) (v := ?v0a) (some 74) hE rfl rfl inv (by kernel_rfl) (by kernel_rfl) (by decide) (fun _ _ _ h => h) (Or.inl ⟨by rfl, ?y0a⟩) (by assumption) (fun inv => ?r0a)
      case y0a => (intro w' hSw; (try dsimp only at hSw); go_simp; (try with_reducible rfl))
      simp only [Act.put, List.setIfInBounds_toArray, List.set_cons_zero, List.set_cons_succ]
      refine Goes.take (i := 1) (v := ?v1a) (some 75) hE rfl rfl inv (by kernel_rfl) (by kernel_rfl) (by decide) (fun _ _ _ h => h) (Or.inl ⟨by rfl, ?y1a⟩) (by assumption) (fun inv => ?r1a)
      case y1a => (intro w' hSw; (try dsimp only at hSw); go_simp; (try with_reducible rfl))
      simp only [Act.put, List.setIfInBounds_toArray, List.set_cons_zero, List.set_cons_succ]
      refine Goes.take (i := 2) (v := ?v2a) (some 76) hE rfl rfl inv (by kernel_rfl) (by kernel_rfl) (by decide) (fun _ _ _ h => h) (Or.inl ⟨by rfl, ?y2a⟩) (by assumption) (fun inv => ?r2a)
      case y2a => (intro w' hSw; (try dsimp only at hSw); go_simp; (try with_reducible rfl))
      simp only [Act.put, List.setIfInBounds_toArray, List.set_cons_zero, List.set_cons_succ]
      refine Goes.one (i := 3) inv (by kernel_rfl) (by decide) rfl (fun inv K' hK => ?_)
      go_simp
      refine (flit_spec l _ (by omega) (by omega)).mono ?_
      rintro e w' ⟨rfl, hww⟩
      replace hww := hww.symm
      subst hww
      (try go_wp2_with fail)
      refine hK.out _ _ (by assumption) (fun hHeld => ?_)
      clear hK K'
      have HFD := hid (HFM.out.below (show Below wr.heap.size wr wr.drew from (by repeat (first | exact Below.refl _ _ | assumption | refine Below.drew ?_ | refine sorted.bdn ?_ _ | refine Below.alloc ?_ (by first | exact Nat.le_refl _ | exact Below.size (by assumption) | omega | (simp; done) | (simp; omega)) _))))
      generalize wr.drew = WD at *
      generalize flit l = P at *
      refine Goes.one (i := 4) inv (by kernel_rfl) (by decide) rfl (fun inv K' hK => ?_)
      go_simp
      refine hK.out _ _ (keep (by repeat (first | exact Below.refl _ _ | assumption | refine Below.drew ?_ | refine sorted.bdn ?_ _ | refine Below.alloc ?_ (by first | exact Nat.le_refl _ | exact Below.size (by assumption) | omega | (simp; done) | (simp; omega)) _)) HFD.out.frm.c1) (fun hHeld => ?_)
      clear hK K'
      refine Goes.one (i := 5) inv (by kernel_rfl) (by decide) rfl (fun inv K' hK => ?_)
      go_simp
      refine hK.out _ _ (keep (by repeat (first | exact Below.refl _ _ | assumption | refine Below.drew ?_ | refine sorted.bdn ?_ _ | refine Below.alloc ?_ (by first | exact Nat.le_refl _ | exact Below.size (by assumption) | omega | (simp; done) | (simp; omega)) _)) HFD.out.frm.c1) (fun hHeld => ?_)
      clear hK K'
      have hsz := HFD.out.size
      refine Goes.one (i := 6) inv (by kernel_rfl) (by decide) rfl (fun inv K' hK => ?_)
      refine step_append_own _ (by rfl) _ _ 33 (by rfl) (w2.heap.size + 1) 30 i0 (.slice none 0 0) 1 24 Try.underlying33 HI.out HZ0.out HZ1.out HZ2.out rfl (by decide) (.slice va ps.length vcap) ps.length (ps.map Prod.fst) (by rfl) (HFD.out.own.below (by repeat (first | exact Below.refl _ _ | assumption | refine Below.drew ?_ | refine sorted.bdn ?_ _ | refine Below.alloc ?_ (by first | exact Nat.le_refl _ | exact Below.size (by assumption) | omega | (simp; done) | (simp; omega)) _))).outer ⟨WD.heap.size + 1, 0, none⟩ 1 1 [.slice (some ⟨WD.heap.size, 0, none⟩) 1 1] (by rfl) (by rfl) (one_new _ _ _ (by simp)) (fun u hu => by simp at hu; subst hu; rfl) (by have := HPL.out; unfold maxLen; omega) (by have := HPL.out; omega) (by simp; omega) ?_
      intro v5 w5 hown5 hgrow5 hnil5
      obtain ⟨a6, c6, rfl⟩ := own_form hown5
      obtain ⟨⟨g0, g1, z1⟩, hfm5⟩ := addOne (zs := [P]) HFD.out (show Below WD.heap.size WD _ from (by repeat (first | exact Below.refl _ _ | assumption | refine Below.drew ?_ | refine sorted.bdn ?_ _ | refine Below.alloc ?_ (by first | exact Nat.le_refl _ | exact Below.size (by assumption) | omega | (simp; done) | (simp; omega)) _))) (made1 WD P hsz) (fun g e => by simp [Value.ownBlock] at e; omega) hown5 hgrow5
      have HF6 := hid hfm5
      clear hown5 hgrow5 hnil5 hfm5
      refine hK.out _ _ g1 (fun hHeld => ?_)
      clear hK K'
      simp only [Act.put, List.setIfInBounds_toArray, List.set_cons_zero, List.set_cons_succ]
      refine Goes.take (i := 7) (v := ?v7a) (some 81) hE rfl rfl inv (by kernel_rfl) (by kernel_rfl) (by decide) (fun _ _ _ h => h) (Or.inl ⟨by rfl, ?y7a⟩) (by assumption) (fun inv => ?r7a)
      case y7a => (intro w' hSw; (try dsimp only at hSw); go_simp; (try with_reducible rfl))
      simp only [Act.put, List.setIfInBounds_toArray, List.set_cons_zero, List.set_cons_succ]
      refine Goes.last (by kernel_rfl) (by kernel_rfl) rfl (fun K' hK => ?_)
      go_simp
      refine hK.out _ _ ?_
      clear hK K'
      have HPS6 : Hid (List.map (fun q : Value × List Int => q.2) (ps ++ [(Value.slice (some ⟨WD.heap.size, 0, none⟩) 1 1, [P])]) = tsC n len g l) := by show _ = _; rw [List.map_append, HPS.out, HTL.out]; rfl
      go_wp2_with fail
      have HROW : Hid (IntRows _ _ _ (tsC n len g l)) := HPS6.out ▸ rows_of_own HF6.out.own
      refine (cnfOK_spec (n + len) _ _ _ (tsC n len g l) _ HROW.out).mono ?_
      rintro e w7 ⟨rfl, hb7⟩
      have HF7 := hid (HF6.out.below hb7)
      clear hb7 HF6 HROW
      have r0 := HF7.out.ans.c0
      have r1 := HF7.out.ans.c1
      have r2 := HF7.out.ans.z 0
      have r3 := HF7.out.ans.z 1
      have s0 := HF7.out.frm.c0
      have s1 := HF7.out.frm.c1
      obtain ⟨ra, rb⟩ := HF7.out.ahead
      cases hcn : cnfB (n + len) (tsC n len g l) with
      | false =>
        go_wp2
        (try simp only [Exit.inBlock, Exit.then])
        refine bodyPost_ret (v := .tuple #[.agg #[.int .i64 0, .slice none 0 0], .int .i64 11]) (by rw [results_cell_tmp rfl]; go_simp) rfl ?_
        exact ts_nil (ts_size HBT.out HIN.out hcn) ((HF7.out.bel.setCell (by dsimp only; omega) _).setCell (by dsimp only; omega) _)
      | true =>
        obtain ⟨e1, e2, e3⟩ := ts_ok HBT.out HIN.out hcn
        have HE1 := hid e1
        have HE2 := hid e2
        have HE3 := hid e3
        clear e1 e2 e3
        go_wp2
        (try simp only [Exit.inBlock, Exit.then])
        refine bodyPost_ret (v := .tuple #[.agg #[.int .i64 (n + len), .slice a6 (ps.length + 1) c6], .int .i64 0]) (by rw [results_cell_tmp rfl]; go_simp) rfl ?_
        exact ⟨a6, (ps.length + 1), c6, _, by rw [HE1.out, HE2.out], rows_mono (rows_ahead (rows_ahead HF7.out.own (by omega)) (by omega)) (by omega), HF7.out.lone, by rw [HE3.out]; exact HPS6.out, (HF7.out.bel.setCell (by dsimp only; omega) _).setCell (by dsimp only; omega) _⟩
end Go.Proofs.Ytaileckcflnbdaa.tsSpec
