/- StabSets; SolThin; CdMeas: one text, so that the claim has fewer files. -/
import Derived.Test.YtbahjpheaaiamaaDoorSymSets
import Derived.Test.YtbahjpheaaiamaaDoorPart42
import Derived.Test.YtbahjpheaaiamaaDoorPart22
import Derived.Test.YtbahjpheaaiamaaDoorPart18
import Derived.Test.YtbahjpheaaiamaaDoorSolAddT
import Derived.Test.YtbahjpheaaiamaaDoorCdX
/- slices.SortStableFunc of the program over sets: it ends, and the row still holds sets that it held; conditions: the row's own block. -/
namespace Go.Proofs.YtbahjpheaaiamaaDoor.stabSets
open Go.RowKit Go.Deep Go base sets solSets solOps cmpInt drawnMk heldStore drawn drawnLin drawnSrc sortSets symSets
set_option linter.unusedVariables false
set_option linter.unusedSimpArgs false
variable {Z : LS → Prop} {b N off len : Nat} {f0 : Nat → Value} {w0 w : World}

set_option maxHeartbeats 12800000 in
set_option maxRecDepth 8000 in
theorem stab_impl (cap : Nat) (hs : Stt Z b N off len f0 w0 w) (hl : len ≤ 9000000000000) :
    Calls Tryd.prog 82 #[.slice (some ⟨b, off, none⟩) len cap, .int .i64 len, .func (.func 77) #[] #[]] w (sortSets.Left Z b N off len f0 w0) := by
  have HS := hid hs
  have HIn := hid (fun (W : World) (x y : Nat) (h : Stt Z b N off len f0 w0 W) => ins_impl (w := W) cap x y h hl)
  have HSy := hid (fun (W : World) (x m y : Nat) (h : Stt Z b N off len f0 w0 W) (h1 : x < m) (h2 : m < y) (h3 : y ≤ len) => sym_impl (len := len) cap hl (y - x) x m y W (Nat.le_refl _) h1 h2 h3 h)
  clear hs
  go_enter Tryd.func82, Tryd.ntmps82
  go_wp2_with fail
  go_loopw [7, 8] (fun u v wr => ∃ p q : Nat, p ≤ len ∧ q = p + 20 ∧ u = .int .i64 p ∧ v = .int .i64 q ∧ Stt Z b N off len f0 w0 wr) (fun u v _ => len + 20 - (intOf v).toNat)
  case atStart => exact ⟨0, 20, Nat.zero_le _, rfl, rfl, rfl, HS.out⟩
  case round =>
    obtain ⟨p, q, hp, hq, rfl, rfl, hsr⟩ := hrel
    have HR := hid hsr
    have HQ := hid hq
    have hq1 : p ≤ q := by omega
    have hq2 : 20 ≤ q := by omega
    clear hsr hq
    by_cases hle : q ≤ len
    · have e1 : (q : Int) ≤ (len : Int) := by omega
      go_wp2_with fail
      refine (HIn.out _ p q HR.out hq1 hle).mono ?_
      rintro e w1 ⟨rfl, hs1⟩
      have HN := hid hs1
      clear hs1
      go_wp2
      go_round
      case rel => exact ⟨q, q + 20, hle, rfl, by first | rfl | go_num, by first | rfl | go_num, HN.out⟩
      case measure => simp [intOf]; omega
    · have e1 : ¬ (q : Int) ≤ (len : Int) := by omega
      go_wp2_with fail
      refine (HIn.out _ p len HR.out hp (Nat.le_refl _)).mono ?_
      rintro e w1 ⟨rfl, hs1⟩
      have HN := hid hs1
      clear hs1
      go_wp2_with fail
      go_loopw [6] (fun u wr => ∃ s : Nat, 20 ≤ s ∧ s ≤ 2 * len + 20 ∧ u = .int .i64 s ∧ Stt Z b N off len f0 w0 wr) (fun u _ => len - (intOf u).toNat)
      case atStart => exact ⟨20, Nat.le_refl _, by omega, rfl, HN.out⟩
      case round =>
        obtain ⟨s, hs0, hs9, rfl, hss⟩ := hrel
        have HSs := hid hss
        clear hss
        by_cases hsl : s < len
        · have e2 : (s : Int) < (len : Int) := by omega
          go_wp2_with fail
          go_loopw [7, 8] (fun u v wr => ∃ p q : Nat, p ≤ len ∧ q = p + 2 * s ∧ u = .int .i64 p ∧ v = .int .i64 q ∧ Stt Z b N off len f0 w0 wr) (fun u v _ => len + 2 * s - (intOf v).toNat)
          case atStart => exact ⟨0, 2 * s, Nat.zero_le _, by omega, rfl, by first | rfl | go_num, HSs.out⟩
          case round =>
            obtain ⟨p2, q2, hp2, hq2', rfl, rfl, hs2⟩ := hrel
            have HR2 := hid hs2
            have HQ2 := hid hq2'
            have hq3 : q2 ≤ len + 2 * s := by omega
            obtain ⟨m2, hm2⟩ : ∃ m2 : Nat, (p2 : Int) + s = m2 := ⟨p2 + s, by omega⟩
            clear hs2 hq2'
            by_cases hle2 : q2 ≤ len
            · have e3 : (q2 : Int) ≤ (len : Int) := by omega
              have hx1 : p2 < m2 := by omega
              have hx2 : m2 < q2 := by have := HQ2.out; omega
              go_wp2_with fail
              refine (HSy.out _ p2 m2 q2 HR2.out hx1 hx2 hle2).mono ?_
              rintro e w2 ⟨rfl, hs3⟩
              have HN2 := hid hs3
              clear hs3
              go_wp2
              go_round
              case rel => exact ⟨q2, q2 + 2 * s, hle2, rfl, by first | rfl | go_num, by first | rfl | go_num, HN2.out⟩
              case measure => simp [intOf]; omega
            · have e3 : ¬ (q2 : Int) ≤ (len : Int) := by omega
              by_cases hml : m2 < len
              · have e4 : (m2 : Int) < (len : Int) := by omega
                have hx1 : p2 < m2 := by omega
                go_wp2_with fail
                refine (HSy.out _ p2 m2 len HR2.out hx1 hml (Nat.le_refl _)).mono ?_
                rintro e w2 ⟨rfl, hs3⟩
                have HN2 := hid hs3
                clear hs3
                go_wp2
                go_round
                case rel => exact ⟨s * 2, by omega, by omega, by first | rfl | go_num, HN2.out⟩
                case measure => simp [intOf]; omega
              · have e4 : ¬ (m2 : Int) < (len : Int) := by omega
                go_wp2
                go_round
                case rel => exact ⟨s * 2, by omega, by omega, by first | rfl | go_num, HR2.out⟩
                case measure => simp [intOf]; omega
        · have e2 : ¬ (s : Int) < (len : Int) := by omega
          go_wp2
          go_end0
          exact ⟨rfl, HSs.out⟩
set_option maxRecDepth 8000 in
theorem sort_impl (cap : Nat) (hs : Stt Z b N off len f0 w0 w) (hl : len ≤ 9000000000000) :
    Calls Tryd.prog 76 #[.slice (some ⟨b, off, none⟩) len cap, .func (.func 77) #[] #[]] w (sortSets.Left Z b N off len f0 w0) := by
  have HSt := hid (fun (W : World) (h : Stt Z b N off len f0 w0 W) => stab_impl (w := W) cap h hl)
  have HS := hid hs
  clear hs
  go_enter Tryd.func76, Tryd.ntmps76
  go_wp2_with fail
  refine (HSt.out _ HS.out).mono ?_
  rintro e w1 ⟨rfl, hs1⟩
  have HN := hid hs1
  clear hs1
  go_wp2
  go_end0
  exact ⟨rfl, HN.out⟩
end Go.Proofs.YtbahjpheaaiamaaDoor.stabSets

/- A solver of the program thins its lessons (thin); conditions: nothing is false, more clauses than the formula's. -/
namespace Go.Proofs.YtbahjpheaaiamaaDoor.solThin
open Go.RowKit Go.Deep Go.Maps Go.WideMaps Go base sets setsOf solSets solOps solMath solHold solMem solX solProp solClose solTrail solAddM solSolve cdThin solWipe chkNew sortSets stabSets
set_option linter.unusedVariables false
set_option linter.unusedSimpArgs false

set_option maxHeartbeats 6400000 in
set_option maxRecDepth 8000 in
theorem thin_impl (M mb : Nat) (F : Nat → Value) (V : Int → Value) (s : Sv) (w : World) (h : Sol 0 M mb F V s w) (R : Int) (h53 : s.X 53 = .int .i64 R) (O : Nat) (h1 : s.X 1 = .int .i64 O) (hO : O < s.C.length) (hlen : s.C.length ≤ 8000000000000)
    (ok : Okay (backS s 0)) (hF : (backS s 0).F = -1) (hTi : TinH (backS s 0)) (hwf : ∀ c ∈ s.C, Wf c) (wf : Wf s.H) (hk : 0 < s.K.length → s.K[0]?.getD 0 ≤ s.T.length) (hT : ∀ p ∈ s.T, p.1 ≠ 0 ∧ -40 ≤ p.1 ∧ p.1 ≤ 40) (hTl : s.T.length ≤ 100000) (hKl : s.K.length ≤ 100000) :
    Calls Tryd.prog 70 #[.pointer (some ⟨M, 0, none⟩)] w fun e w2 => e = .returned (.tuple #[]) ∧ ∃ (mb' : Nat) (F2 : Nat → Value) (V2 : Int → Value) (s2 : Sv) (kept : List LS), Sol 0 M mb' F2 V2 s2 w2 ∧ V2 0 = nilV ∧ ChgM M mb mb' (blk 0 F V) (blk 0 F2 V2) w w2 ∧ kept.length = O + (s.C.length - O) / 2 ∧ kept.take O = s.C.take O ∧ (∀ c ∈ kept, c ∈ s.C) ∧ s2 = { kept.foldl addT (wipeS (backS s 0)) with X := s2.X } ∧ s2.X 53 = .int .i64 (wrap64 (R + 100)) ∧ ∀ j, j ≠ 53 → s2.X j = s.X j := by
  have HBk := hid (solBackI.back_impl M mb F V s w h wf 0 (Nat.zero_le _) hk hT hTl hKl)
  have hC0 : (backS s 0).C = s.C := by unfold backS; split <;> rfl
  have hX0 : (backS s 0).X = s.X := by unfold backS; split <;> rfl
  have hTT : (∀ p ∈ (backS s 0).T, p.1 ≠ 0 ∧ -40 ≤ p.1 ∧ p.1 ≤ 40) ∧ (backS s 0).T.length ≤ 100000 := by
    unfold backS
    split
    · exact ⟨hT, hTl⟩
    · exact ⟨fun p hp => hT p (List.mem_of_mem_take hp), by show (s.T.take _).length ≤ _; rw [List.length_take]; omega⟩
  have HTT := hid hTT
  have HOk := hid ok
  have HF := hid hF
  have HTi := hid hTi
  have HWf := hid hwf
  obtain ⟨s0, hs0⟩ : ∃ s0, backS s 0 = s0 := ⟨_, rfl⟩
  rw [hs0] at HBk hC0 hX0 HTT HOk HF HTi
  have HS0 := hid hs0
  have HC0 := hid hC0
  have HX0 := hid hX0
  have h53 : s0.X 53 = .int .i64 R := by rw [hX0]; exact h53
  have h1 : s0.X 1 = .int .i64 O := by rw [hX0]; exact h1
  have H53 := hid h53
  have H1 := hid h1
  obtain ⟨n, hn⟩ : ∃ n, s.C.length = n := ⟨_, rfl⟩
  rw [hn] at hO hlen
  have HN := hid hn
  clear h h53 h1 ok hF hTi hwf wf hk hT hTl hKl hs0 hC0 hX0 hTT hn
  go_enter Tryd.func70, Tryd.ntmps70
  go_wp2_with fail
  refine HBk.out.mono ?_
  rintro e w1 ⟨rfl, F1, hs1, hch1, _⟩
  have HS1 := hid hs1
  have HC1 := hid hch1
  have hlC : s0.C.length = n := by rw [HC0.out, HN.out]
  obtain ⟨g, cap, N, hF2, hg, hnc, hcm, hNn, f, hrow, hcells⟩ := sol_row hs1 (by omega)
  rw [hlC] at hF2 hnc hNn hcells
  unfold maxLen at hcm
  have k1 := hs1.cell (i := 1) (by omega)
  have k2 := hs1.cell (i := 2) (by omega)
  rw [hs1.fx 1 (.inl rfl), H1.out] at k1
  rw [hF2] at k2
  have HRow := hid hrow
  have HCe := hid hcells
  have HG := hid hg
  have HF2 := hid hF2
  have HLC := hid hlC
  have hMg : M ≠ g := fun e => (hs1.off 1001 g hg).1 e.symm
  have q1 : ¬ (O : Int) = cap := by omega
  have q2 : ¬ O = cap := by omega
  have q3 : (O : Int) ≤ n := by omega
  clear hs1 hch1 hlC hrow hcells hg hF2 HBk
  go_wp2_with fail
  go_region
  obtain ⟨ln, hln⟩ : ∃ ln, n - O = ln := ⟨_, rfl⟩
  obtain ⟨hf, hhf⟩ : ∃ hf : Nat, (ln : Int).tdiv 2 = hf := ⟨ln / 2, by rw [Int.tdiv_eq_ediv_of_nonneg (by omega)]; omega⟩
  have hhf2 : hf = ln / 2 := by rw [Int.tdiv_eq_ediv_of_nonneg (by omega)] at hhf; omega
  obtain ⟨kl, hkl⟩ : ∃ kl : Nat, (O : Int) + hf = kl := ⟨O + hf, by omega⟩
  rw [hln]
  have hb1 : Below w1.heap.size w1 w1.drew := (Below.refl _ _).drew
  have hst : Stt (fun c => c ∈ s0.C) g N (O * 2) ln f w1 w1.drew := ⟨⟨f, HRow.out.drew, fun i hi => by
    have hi2 : O + i < s0.C.length := by rw [HLC.out]; omega
    obtain ⟨c1, c2⟩ := HCe.out (O + i) (by omega)
    rw [List.getElem?_eq_getElem hi2] at c1 c2
    exact ⟨s0.C[O + i], List.getElem_mem hi2, by rw [show O * 2 + i * 2 = (O + i) * 2 by omega, c1]; rfl, by rw [show O * 2 + i * 2 + 1 = (O + i) * 2 + 1 by omega, c2]; rfl⟩, fun j _ => rfl⟩, drawnLin.Chg.of_below hb1, by omega⟩
  have HSt := hid hst
  have HLn := hid hln
  have HHf := hid hhf2
  have hkn : kl ≤ n := by omega
  clear hst k1 k2 hb1 hhf2
  go_wp2_with fail
  refine (sort_impl (cap - O) HSt.out (by omega)).mono ?_
  rintro e w3 ⟨rfl, hs3⟩
  have HT3 := hid hs3
  have HM3 : Hid (w3.rowIs M 69 56 F1) := hid (HS1.out.cells.of_block (hs3.chg.block M HS1.out.lt.1 hMg))
  have k1 := HM3.out.cell (i := 1) (by omega)
  have k2 := HM3.out.cell (i := 2) (by omega)
  have k3 := HM3.out.cell (i := 3) (by omega)
  have k4 := HM3.out.cell (i := 4) (by omega)
  have k9 := HM3.out.cell (i := 9) (by omega)
  have z2 := HM3.out.frozen 2
  have z3 := HM3.out.frozen 3
  have z4 := HM3.out.frozen 4
  have z9 := HM3.out.frozen 9
  rw [HS1.out.fx 1 (.inl rfl), H1.out] at k1
  rw [HF2.out] at k2
  have q4 : (kl : Int) ≤ cap := by omega
  have q5 : kl ≤ cap := by omega
  clear hs3 HSt
  go_wp2_with fail
  go_region
  have hMl : M < w3.heap.size := HM3.out.lt
  have hMn : ¬ M = w3.heap.size := by omega
  have hmm := @run_makeMap Tryd.prog
  go_wp2_with fail
  clear hmm
  obtain ⟨w4, hw4⟩ : ∃ w4 : World, (((w3.setCell ⟨M, 2, none⟩ (.slice none 0 0)).setCell ⟨M, 3, none⟩ (.slice none 0 0)).setCell ⟨M, 9, none⟩ (.slice none 0 0)).setCell ⟨M, 4, none⟩ (.map (some w3.heap.size)) = w4 := ⟨_, rfl⟩
  rw [hw4]
  have hz4 : w4.heap.size = w3.heap.size := by rw [← hw4]; simp
  have hr4 : w4.rowIs M 69 56 (wipeF F1 w3.heap.size) := by
    rw [← hw4]
    refine ((((HM3.out.set 2 _).set 3 _).set 9 _).set 4 _).congr fun j hj => ?_
    unfold wipeF nilV
    by_cases e4 : j = 4
    · rw [if_pos e4, if_neg (by omega), if_pos e4]
    · rw [if_neg e4]
      by_cases e9 : j = 9
      · rw [if_pos e9, if_pos (by omega)]
      · rw [if_neg e9]
        by_cases e3 : j = 3
        · rw [if_pos e3, if_pos (by omega)]
        · rw [if_neg e3]
          by_cases e2 : j = 2
          · rw [if_pos e2, if_pos (by omega)]
          · rw [if_neg e2, if_neg (by omega), if_neg e4]
  have hc4 : drawnLin.Chg (fun j => j = M) w3 w4 := by
    rw [← hw4]
    exact ((((drawnLin.Chg.refl (fun j => j = M) w3).set (.inl rfl) _).set (.inl rfl) _).set (.inl rfl) _).set (.inl rfl) _
  have hma := World.ownsMap_made w4 Tryd.prog 3 hE
  rw [hz4] at hma
  have hb5 : Below w4.heap.size w4 (w4.alloc (.map #[] 0)).drew := ((Below.refl _ _).alloc (Nat.le_refl _) _).drew
  obtain ⟨hw5, hch5⟩ := sol_wipe (w' := (w4.alloc (.map #[] 0)).drew) HS1.out (show w1.heap.size ≤ w3.heap.size from HT3.out.chg.size) (hr4.alloc _).drew (hma.mono (by omega)) (fun j hj h1 h2 => by
    have h3 := HT3.out.chg.block j hj (fun e => by rw [HG.out] at h2; exact h2 (by rw [e]))
    have hj3 : j < w3.heap.size := Nat.lt_of_lt_of_le hj HT3.out.chg.size
    have h4 := hc4.block j hj3 h1
    exact (hb5.block j (by rw [hz4]; exact hj3)).trans (h4.trans h3)) (hb5.os.trans (hc4.os.trans HT3.out.chg.os)) (hb5.tape.trans (hc4.tape.trans HT3.out.chg.tape)) (hb5.output.trans (hc4.output.trans HT3.out.chg.output)) (Nat.le_trans HT3.out.chg.size (Nat.le_trans hc4.size hb5.size))
  obtain ⟨kept, e1, e2, e3, e4⟩ := kept_of (C := s0.C) (o := O) (by rw [HLC.out]; omega) (by rw [HLC.out, HLn.out]; exact HT3.out) (by rw [HLC.out]; exact HCe.out) kl (by rw [HLC.out]; exact hkn)
  have hgl : g < w3.heap.size := HT3.out.lt
  have hkc : ∀ i, i < kl → ((w4.alloc (.map #[] 0)).drew).cell? ⟨g, i * 2, none⟩ = some (.int .u64 (kept[i]?.getD (0, 0)).1) ∧ ((w4.alloc (.map #[] 0)).drew).cell? ⟨g, i * 2 + 1, none⟩ = some (.int .u64 (kept[i]?.getD (0, 0)).2) := fun i hi => by
    obtain ⟨c1, c2⟩ := e2 i hi
    have c1 := hc4.cell (fun e => hMg e.symm) c1
    have c2 := hc4.cell (fun e => hMg e.symm) c2
    exact ⟨keep hb5 c1, keep hb5 c2⟩
  obtain ⟨w5, hw5e⟩ : ∃ w5 : World, (w4.alloc (.map #[] 0)).drew = w5 := ⟨_, rfl⟩
  have hg5 : ∀ a, blk 0 (wipeF F1 w3.heap.size) (fun _ => nilV) a ≠ some g := fun a ha => by
    obtain ⟨h1, h2⟩ := wipe_blk F1 V w3.heap.size ha
    exact HS1.out.apart a 1001 g (by rcases h1 with rfl | rfl <;> decide) h2 HG.out
  rw [hw5e] at hw5 hch5 hkc ⊢
  have HW5 := hid hw5
  have HC5 := hid hch5
  have HKc := hid hkc
  have HG5 := hid hg5
  have HKl := hid e1
  have HKt := hid e3
  have HKi := hid e4
  obtain ⟨mb2, hmb2⟩ : ∃ x, w3.heap.size = x := ⟨_, rfl⟩
  have hmg : mb2 ≠ g := by omega
  rw [hmb2] at HW5 HC5 HG5 ⊢
  have hg5l : g < w5.heap.size := by
    rw [← hw5e]
    exact Nat.lt_of_lt_of_le (by rw [hz4]; exact hgl) hb5.size
  have HWk : Hid (∀ c ∈ kept, Wf c) := hid (fun c hc => HWf.out c (by rw [← HC0.out]; exact e4 c hc))
  clear hw4 hz4 hr4 hc4 hma hb5 hw5 hch5 hkc hw5e hg5 e1 e2 e3 e4 hmb2 k1 k2 k3 k4 k9 z2 z3 z4 z9 hMl hMn HT3 HM3 hgl HRow HCe
  have hfold := fold_fullT
  have HFu := hid (wipe_full HOk.out HF.out)
  clear hfold
  go_loopw [47] (fun u wr => ∃ (i : Nat) (Fi : Nat → Value) (Vi : Int → Value), i ≤ kl ∧ u = .int .i64 i ∧ Sol 0 M mb2 Fi Vi ((kept.take i).foldl addT (wipeS s0)) wr ∧ Vi 0 = nilV ∧ Chg M mb2 (blk 0 (wipeF F1 mb2) (fun _ => nilV)) (blk 0 Fi Vi) w5 wr) (fun u _ => kl - (intOf u).toNat)
  case atStart => exact ⟨0, _, _, Nat.zero_le _, rfl, by rw [List.take_zero]; exact HW5.out, rfl, Chg.below (Below.refl _ _)⟩
  case round =>
    obtain ⟨i, Fi, Vi, hi, rfl, hsi, hvi, hci⟩ := hrel
    have HSi := hid hsi
    have HVi := hid hvi
    have HCi := hid hci
    clear hsi hvi hci
    by_cases hlt : i < kl
    · obtain ⟨c1, c2⟩ := HKc.out i hlt
      have c1 := HCi.out.cell (fun e => hMg e.symm) (fun e => hmg e.symm) HG5.out c1
      have c2 := HCi.out.cell (fun e => hMg e.symm) (fun e => hmg e.symm) HG5.out c2
      have hik : i < kept.length := by rw [HKl.out]; exact hlt
      have hcm : kept[i]?.getD (0, 0) ∈ kept := by rw [List.getElem?_eq_getElem hik]; exact List.getElem_mem hik
      have hwc := HWk.out _ hcm
      obtain ⟨f1, f2, f3, f4, f5, f6, f7⟩ := fold_fullT (kept.take i) (wipeS s0) HFu.out HTi.out (fun c hc => HWk.out c (List.mem_of_mem_take hc))
      have htk : kept.take (i + 1) = kept.take i ++ [kept[i]?.getD (0, 0)] := by
        rw [List.take_add_one, List.getElem?_eq_getElem hik]; rfl
      obtain ⟨C1, hC1⟩ : ∃ x, (kept[i]?.getD (0, 0)).1 = x := ⟨_, rfl⟩
      obtain ⟨C2, hC2⟩ : ∃ x, (kept[i]?.getD (0, 0)).2 = x := ⟨_, rfl⟩
      have hcc : kept[i]?.getD (0, 0) = (C1, C2) := by rw [← hC1, ← hC2]
      rw [hC1] at c1
      rw [hC2] at c2
      rw [hcc] at htk hwc
      have HTk := hid htk
      have HWc := hid hwc
      have hlen : ((kept.take i).foldl addT (wipeS s0)).C.length ≤ 8000000000000 := by
        rw [f2]
        show ([] ++ kept.take i : List LS).length ≤ _
        rw [List.nil_append, List.length_take]; omega
      have HAd := hid (fun (W : World) (hb : Below wr.heap.size wr W) => solAddI.addT_impl M mb2 Fi Vi _ W (HSi.out.below hb) HVi.out C1 C2 HWc.out f1.ok ⟨fun p hp => by rw [f5] at hp; rw [f4]; exact HTi.out p hp, by rw [f5]; exact HTT.out⟩ hlen)
      clear hC1 hC2 hcc htk hwc f1 f2 f3 f4 f5 f6 f7 hlen hcm hik
      go_wp2_with fail
      refine (HAd.out _ (by repeat (first | exact Below.refl _ _ | assumption | refine Below.drew ?_ | refine Below.alloc ?_ (by first | exact Nat.le_refl _ | omega | (simp; done) | (simp; omega)) _ | refine Below.setCell ?_ (by first | exact Nat.le_refl _ | omega | (simp; done) | (simp; omega)) _))).mono ?_
      rintro e w6 ⟨rfl, F6, V6, hs6, hv6, hc6⟩
      have HS6 := hid hs6
      have HV6 := hid hv6
      have HC6 := hid ((HCi.out.trans (Chg.below (show Below wr.heap.size wr _ from (by repeat (first | exact Below.refl _ _ | assumption | refine Below.drew ?_ | refine Below.alloc ?_ (by first | exact Nat.le_refl _ | omega | (simp; done) | (simp; omega)) _ | refine Below.setCell ?_ (by first | exact Nat.le_refl _ | omega | (simp; done) | (simp; omega)) _))))).trans hc6)
      clear hs6 hv6 hc6
      go_wp2
      go_round
      case rel => exact ⟨i + 1, F6, V6, by omega, by first | rfl | go_num, by rw [HTk.out, List.foldl_append]; exact HS6.out, HV6.out, HC6.out⟩
      case measure => simp [intOf]; omega
    · have e : i = kl := by omega
      have hall : kept.take i = kept := List.take_of_length_le (by rw [HKl.out, e]; exact Nat.le_refl _)
      rw [hall] at HSi
      obtain ⟨f1, f2, f3, f4, f5, f6, f7⟩ := fold_fullT kept (wipeS s0) HFu.out HTi.out (fun c hc => HWk.out c hc)
      obtain ⟨s9, hs9⟩ : ∃ s9, kept.foldl addT (wipeS s0) = s9 := ⟨_, rfl⟩
      rw [hs9] at HSi f7
      have HS9 := hid hs9
      have HX9 : Hid (s9.X = s.X) := hid (f7.trans HX0.out)
      have k53 := HSi.out.cell (i := 53) (by omega)
      have z53 := HSi.out.frozen 53
      rw [HSi.out.fx 53 (.inr (by omega)), f7] at k53
      rw [show (wipeS s0).X 53 = .int .i64 R from H53.out] at k53
      obtain ⟨hx1, hx2⟩ := Sol.setX HSi.out (by omega) (show 11 ≤ 53 by omega) (.int .i64 (wrap64 (R + 100)))
      have HX1 := hid hx1
      have HX2 := hid hx2
      clear hx1 hx2 hs9 f1 f2 f3 f4 f5 f6 f7 hall
      subst e
      have HE : Hid (kept.length = O + (s.C.length - O) / 2 ∧ kept.take O = s.C.take O) := hid (by
        have a1 := HKl.out
        have a2 := HHf.out
        have a3 := HLn.out
        have a4 := HN.out
        refine ⟨by omega, List.ext_getElem? fun j => ?_⟩
        rw [List.getElem?_take, List.getElem?_take]
        split
        · rename_i hj
          rw [HKt.out j (by omega) hj, HC0.out]
        · rfl)
      go_wp2
      go_end0
      refine ⟨rfl, mb2, _, Vi, _, kept, HX1.out, HVi.out, (((ChgM.of HC1.out).trans HC5.out).next HCi.out).next HX2.out, HE.out.1, HE.out.2, fun c hc => by rw [← HC0.out]; exact HKi.out c hc, ?_, ?_, fun j hj => ?_⟩
      · rw [HS0.out, HS9.out]
      · show (if (53 : Nat) = 53 then (.int .i64 (wrap64 (R + 100)) : Value) else s9.X 53) = .int .i64 (wrap64 (R + 100))
        exact if_pos rfl
      · show updX s9.X 53 _ j = _
        unfold updX; rw [if_neg hj, HX9.out]
end Go.Proofs.YtbahjpheaaiamaaDoor.solThin

/- How often a search begins anew: two timers (until patience is spent, until room is), each lasts twice as long as a search can once it was set anew; of no program. -/
namespace Go.Proofs.YtbahjpheaaiamaaDoor.cdMeas
open Go Go.RowKit Go.Deep
set_option linter.unusedVariables false

/-- How many lessons there are until patience is spent, when L of P have been counted. -/
def tim (P L : Int) : Int := if (P - L) % 18446744073709551616 = 0 then 18446744073709551616 else (P - L) % 18446744073709551616
theorem wrap_form (x : Int) : wrap64 x = (x + 9223372036854775808) % 18446744073709551616 - 9223372036854775808 := by unfold wrap64; rfl
theorem tim_hit {P L : Int} (hP : -9223372036854775808 ≤ P ∧ P < 9223372036854775808) : wrap64 (L + 1) = P ↔ tim P L = 1 := by
  rw [wrap_form]
  unfold tim
  split <;> omega
theorem tim_next {P L : Int} (hP : -9223372036854775808 ≤ P ∧ P < 9223372036854775808) (h : wrap64 (L + 1) ≠ P) : tim P (wrap64 (L + 1)) = tim P L - 1 := by
  rw [wrap_form] at h ⊢
  unfold tim
  split <;> split <;> omega
theorem tim_zero {P : Int} (h : 1 ≤ P ∧ P < 9223372036854775808) : tim P 0 = P := by
  unfold tim
  split <;> omega
theorem tim_neg {P : Int} (h : P < 0 ∧ -9223372036854775808 ≤ P) : 9223372036854775808 ≤ tim P 0 := by
  unfold tim
  split <;> omega
/-- How often the timers can still go off, when they stood at T1 and T2 as the search began and a search has at most Q lessons. -/
def kk (Q T1 T2 : Int) : Nat := if T1 ≤ Q ∧ T2 ≤ Q then 2 else if T1 ≤ Q then (if T2 ≤ 2 * Q then 2 else 1) else if T2 ≤ Q then (if T1 ≤ 2 * Q then 2 else 1) else 0
theorem kk_most (Q T1 T2 : Int) : kk Q T1 T2 ≤ 2 := by
  unfold kk
  split
  · omega
  · split
    · split <;> omega
    · split
      · split <;> omega
      · omega
theorem kk_one {Q T1 T2 T : Int} (h0 : 0 < T1) (h : T1 ≤ Q) (hT : 2 * Q < T) : kk Q T (T2 - T1) < kk Q T1 T2 := by
  unfold kk
  repeat' split
  all_goals omega
theorem kk_two {Q T1 T2 T : Int} (h0 : 0 < T2) (h : T2 ≤ Q) (hT : 2 * Q < T) : kk Q (T1 - T2) T < kk Q T1 T2 := by
  unfold kk
  repeat' split
  all_goals omega
theorem kk_both {Q T1 T2 T T' : Int} (h : T1 ≤ Q ∨ T2 ≤ Q) (h0 : 0 ≤ Q) (hT : 2 * Q < T) (hT' : 2 * Q < T') : kk Q T T' < kk Q T1 T2 := by
  unfold kk
  repeat' split
  all_goals omega
end Go.Proofs.YtbahjpheaaiamaaDoor.cdMeas
