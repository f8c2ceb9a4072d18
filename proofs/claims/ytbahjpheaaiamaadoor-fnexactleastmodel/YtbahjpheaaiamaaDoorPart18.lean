/- SolBackI; CdVal: one text, so that the claim has fewer files. -/
import Derived.Test.YtbahjpheaaiamaaDoorSolHoldI
import Derived.Test.YtbahjpheaaiamaaDoorSolTrail
import Derived.Test.YtbahjpheaaiamaaDoorRows
/- A solver of the program: choices are taken back (takeBack); conditions: a trail of literals, lengths that fit. -/
namespace Go.Proofs.YtbahjpheaaiamaaDoor.solBackI
open Go.RowKit Go.Deep Go.Maps Go base sets setsOf solSets solOps solMath solHold solMem solFail solDue solExpect solPush solLoop solMove solHoldI solTrail
set_option linter.unusedVariables false
set_option linter.unusedSimpArgs false

theorem woAll_snoc (p : Int × Int) : ∀ (T : TR) (H : LS), woAll H (T ++ [p]) = woL (woAll H T) (onlyL p.1)
  | [], H => rfl
  | q :: r, H => woAll_snoc p r _
theorem flatP_take : ∀ (T : TR) (k : Nat), (flatP T).take (k * 2) = flatP (T.take k)
  | [], k => by simp [flatP]
  | p :: r, 0 => by simp [flatP]
  | p :: r, k + 1 => by
    rw [show (k + 1) * 2 = k * 2 + 1 + 1 by omega]
    show (Value.int .i64 p.1 :: Value.int .i64 p.2 :: flatP r).take (k * 2 + 1 + 1) = _
    rw [List.take_succ_cons, List.take_succ_cons, flatP_take r k]
    rfl
theorem intsN_take (K : List Nat) (k : Nat) : (intsN K).take k = intsN (K.take k) := by unfold intsN; rw [List.map_take]
/-- A row is cut behind its first k elements. -/
theorem own_cut {w : World} {B : Nat} {t : TypeId} {sz n k cap : Nat} {a : Option Addr} {xs : List Value} (h : w.ownsRow B t sz (.slice a n cap) n xs) (hx : xs.length = n * sz) (hk : k ≤ n) : w.ownsRow B t sz (.slice a k cap) k (xs.take (k * sz)) := by
  obtain ⟨h1, h2⟩ := h
  rcases h2 with ⟨e, e2⟩ | ⟨g, c, cur, e, hg, hh, hn, hm, hs, ht⟩
  · injection e with e3 e4 e5
    subst e3
    have hk0 : k = 0 := by omega
    subst hk0
    subst e5
    simp only [Nat.zero_mul, List.take_zero]
    exact World.ownsRow_nil _ _ _ _
  · injection e with e3 e4 e5
    subst e3
    subst e5
    have hkn : k * sz ≤ n * sz := Nat.mul_le_mul_right _ hk
    refine ⟨by rw [List.length_take, hx]; omega, .inr ⟨g, _, cur, rfl, hg, hh, by omega, hm, hs, ?_⟩⟩
    rw [← ht, List.take_take, Nat.min_eq_left hkn]
theorem grown_self (w : World) (row : Option Nat) : w.grownBy w row := ⟨rfl, rfl, rfl, Nat.le_refl _, fun _ _ _ => rfl⟩
theorem trail_at {M mb : Nat} {F : Nat → Value} {V : Int → Value} {s : Sv} {w : World} (h : Sol 0 M mb F V s w) {ta : Option Addr} {n tc : Nat} (hF : F 7 = .slice ta n tc) {i : Nat} (hi : i < s.T.length) :
    ∃ g, ta = some ⟨g, 0, none⟩ ∧ w.cell? ⟨g, i * 2, none⟩ = some (.int .i64 (s.T[i]?.getD (0, 0)).1) ∧ w.cell? ⟨g, i * 2 + 1, none⟩ = some (.int .i64 (s.T[i]?.getD (0, 0)).2) ∧ g < w.heap.size := by
  have hr : w.ownsRow 0 87 2 (F 7) s.T.length (flatP s.T) := h.rows 1003 (by omega)
  obtain ⟨g, cap, e, _, c0, c1, _⟩ := row_cells hr hi
  rw [hF] at e
  injection e with e1
  obtain ⟨f0, f1⟩ := flatP_get s.T i hi
  have c0 := c0 _ f0
  exact ⟨g, e1, c0, c1 _ f1, World.block_lt_of_cell? _ _ c0⟩
theorem row_fits {w : World} {B : Nat} {t : TypeId} {sz n cap : Nat} {a : Option Addr} {xs : List Value} (h : w.ownsRow B t sz (.slice a n cap) n xs) : n ≤ cap ∧ cap ≤ maxLen := by
  obtain ⟨h1, h2⟩ := h
  rcases h2 with ⟨e, e2⟩ | ⟨g, c, cur, e, hg, hh, hn, hm, hs, ht⟩
  · injection e with e3 e4 e5
    subst e5
    exact ⟨by omega, Nat.zero_le _⟩
  · injection e with e3 e4 e5
    subst e5
    exact ⟨hn, hm⟩
theorem back_end {M mb : Nat} {F : Nat → Value} {V : Int → Value} {s : Sv} {w : World} (h : Sol 0 M mb F V s w) {ta ka : Option Addr} {tl tc kl kc st lv : Nat} (h7 : F 7 = .slice ta tl tc) (h8 : F 8 = .slice ka kl kc) (ht : s.T.length = tl) (hk : s.K.length = kl) (h1 : st ≤ tl) (h2 : lv ≤ kl) :
    ∃ F', Sol 0 M mb F' V { s with T := s.T.take st, K := s.K.take lv, D := [], F := -1 } ((((w.setCell ⟨M, 7, none⟩ (.slice ta st tc)).setCell ⟨M, 8, none⟩ (.slice ka lv kc)).setCell ⟨M, 9, none⟩ (.slice none 0 0)).setCell ⟨M, 10, none⟩ (.int .i64 (-1))) ∧ Chg M mb (blk 0 F V) (blk 0 F' V) w ((((w.setCell ⟨M, 7, none⟩ (.slice ta st tc)).setCell ⟨M, 8, none⟩ (.slice ka lv kc)).setCell ⟨M, 9, none⟩ (.slice none 0 0)).setCell ⟨M, 10, none⟩ (.int .i64 (-1))) ∧ F' 2 = F 2 := by
  have hr7 : w.ownsRow 0 87 2 (F 7) s.T.length (flatP s.T) := h.rows 1003 (by omega)
  have hr8 : w.ownsRow 0 3 1 (F 8) s.K.length (intsN s.K) := h.rows 1004 (by omega)
  rw [h7, ht] at hr7
  rw [h8, hk] at hr8
  have c7 := own_cut hr7 (by rw [flatP_len, ht]) h1
  have c8 := own_cut hr8 (by unfold intsN; simp [hk]) h2
  rw [flatP_take] at c7
  rw [Nat.mul_one, intsN_take] at c8
  have l7 : (s.T.take st).length = st := by rw [List.length_take, ht]; omega
  have l8 : (s.K.take lv).length = lv := by rw [List.length_take, hk]; omega
  obtain ⟨a1, b1⟩ := Sol.store h (by omega) (a0 := 1003) (c := 7) (by simp) (v' := .slice ta st tc) (s' := { s with T := s.T.take st }) (w1 := w) (grown_self _ _)
    (by show w.ownsRow 0 87 2 _ (s.T.take st).length (flatP (s.T.take st)); rw [l7]; exact c7)
    (by left; show _ = (F 7).ownBlock; rw [h7]; exact own_same _ _ _ _) (fun a ha v w hr => by unfold RowA at *; simpa [ha] using hr) rfl rfl rfl
  have c8' : (w.setCell ⟨M, 7, none⟩ (.slice ta st tc)).ownsRow 0 3 1 (.slice ka lv kc) lv (intsN (s.K.take lv)) := own_kept c8 (fun g hg => Below.heap_setCell _ _ _ _ (fun e => by
    have := (h.off 1004 g (by rw [blk_ne (by omega)]; show (F 8).ownBlock = _; rw [h8, own_same ka kl lv kc]; exact hg)).1
    exact this e))
  obtain ⟨a2, b2⟩ := Sol.store a1 (by omega) (a0 := 1004) (c := 8) (by simp) (v' := .slice ka lv kc) (s' := { s with T := s.T.take st, K := s.K.take lv }) (w1 := w.setCell ⟨M, 7, none⟩ (.slice ta st tc)) (grown_self _ _)
    (by show World.ownsRow _ 0 3 1 _ (s.K.take lv).length (intsN (s.K.take lv)); rw [l8]; exact c8')
    (by left; show _ = (F 8).ownBlock; rw [h8]; exact own_same _ _ _ _) (fun a ha v w hr => by unfold RowA at *; simpa [ha] using hr) rfl rfl rfl
  obtain ⟨a3, b3⟩ := Sol.store a2 (by omega) (a0 := 1005) (c := 9) (by simp) (v' := .slice none 0 0) (s' := { s with T := s.T.take st, K := s.K.take lv, D := [] }) (w1 := (w.setCell ⟨M, 7, none⟩ (.slice ta st tc)).setCell ⟨M, 8, none⟩ (.slice ka lv kc)) (grown_self _ _)
    (.inl ⟨rfl, rfl⟩) (.inr (.inl rfl)) (fun a ha v w hr => by unfold RowA at *; simpa [ha] using hr) rfl rfl rfl
  obtain ⟨a4, b4⟩ := Sol.setFail a3 (by omega) (-1)
  exact ⟨_, a4, ((b1.trans b2).trans b3).trans b4, rfl⟩
set_option maxHeartbeats 3200000 in
set_option maxRecDepth 8000 in
theorem back_impl (M mb : Nat) (F : Nat → Value) (V : Int → Value) (s : Sv) (w : World) (h : Sol 0 M mb F V s w) (wf : Wf s.H) (lv : Nat) (hl : lv ≤ s.K.length) (hk : lv < s.K.length → s.K[lv]?.getD 0 ≤ s.T.length) (hT : ∀ p ∈ s.T, p.1 ≠ 0 ∧ -40 ≤ p.1 ∧ p.1 ≤ 40) (hTl : s.T.length ≤ 100000) (hKl : s.K.length ≤ 100000) :
    Calls Tryd.prog 40 #[.pointer (some ⟨M, 0, none⟩), .int .i64 lv] w fun e w' => e = .returned (.tuple #[]) ∧ ∃ F', Sol 0 M mb F' V (backS s lv) w' ∧ Chg M mb (blk 0 F V) (blk 0 F' V) w w' ∧ F' 2 = F 2 := by
  have HS := hid h
  have HKr : Hid (w.ownsRow 0 3 1 (F 8) s.K.length (intsN s.K)) := hid (h.rows 1004 (by omega))
  have HTr : Hid (w.ownsRow 0 87 2 (F 7) s.T.length (flatP s.T)) := hid (h.rows 1003 (by omega))
  obtain ⟨ka, kc, hka⟩ := own_form HKr.out
  obtain ⟨ta, tc, hta⟩ := own_form HTr.out
  have k8 := h.cell (i := 8) (by omega)
  have k7 := h.cell (i := 7) (by omega)
  rw [hka] at k8 HKr
  rw [hta] at k7 HTr
  have HKa := hid hka
  have HTa := hid hta
  obtain ⟨kl, hkl⟩ : ∃ q, s.K.length = q := ⟨_, rfl⟩
  obtain ⟨tl, htl⟩ : ∃ q, s.T.length = q := ⟨_, rfl⟩
  have HKl := hid hkl
  have HTl := hid htl
  rw [hkl] at k8 HKr hl hKl hk HKa
  rw [htl] at k7 HTr hTl hk HTa
  clear hka hta h hkl htl
  by_cases he : lv = kl
  · subst he
    go_enter Tryd.func40, Tryd.ntmps40
    go_wp2
    refine bodyPost_ret (results_none rfl _ _ _) rfl ?_
    refine ⟨rfl, F, ?_, ?_⟩
    · have : backS s lv = s := by unfold backS; rw [if_pos HKl.out.symm]
      rw [this]
      exact HS.out.below (by repeat (first | exact Below.refl _ _ | assumption | refine netSem.bdn ?_ _ | refine Below.drew ?_ | refine Below.alloc ?_ (by first | exact Nat.le_refl _ | omega | (simp; done) | (simp; omega)) _))
    · exact ⟨Chg.below (by repeat (first | exact Below.refl _ _ | assumption | refine netSem.bdn ?_ _ | refine Below.drew ?_ | refine Below.alloc ?_ (by first | exact Nat.le_refl _ | omega | (simp; done) | (simp; omega)) _)), rfl⟩
  · have hlt : lv < kl := by omega
    have hq : ((lv : Int) == (kl : Int)) = false := by simp; omega
    obtain ⟨st, hst⟩ : ∃ st, s.K[lv]?.getD 0 = st := ⟨_, rfl⟩
    have hsl := hk hlt
    rw [hst] at hsl
    have HSt := hid hst
    have k8' := k8
    have hkc : ∃ g, ka = some ⟨g, 0, none⟩ ∧ w.cell? ⟨g, lv, none⟩ = some (.int .i64 (st : Int)) := by
      obtain ⟨h1, h2⟩ := HKr.out
      rcases h2 with ⟨e, e2⟩ | ⟨g, c, cur, e, hg, hh, hn, hm, hsz, ht⟩
      · omega
      · injection e with e3 e4 e5
        refine ⟨g, e3, ?_⟩
        have hi : lv < s.K.length := by rw [HKl.out]; exact hlt
        have e6 : (cur.toList.take (kl * 1))[lv]? = some (.int .i64 (st : Int)) := by
          rw [ht]
          unfold intsN
          rw [List.getElem?_map, List.getElem?_eq_getElem hi]
          rw [List.getElem?_eq_getElem hi] at hst
          simp at hst
          simp [hst]
        rw [List.getElem?_take, if_pos (by omega), Array.getElem?_toList] at e6
        simp [World.cell?, hh, e6]
    obtain ⟨g8, rfl, c8⟩ := hkc
    have HT0 := hid hT
    have HWf := hid wf
    clear hT wf hst hk
    obtain ⟨m, hm⟩ : ∃ m, tl = st + m := ⟨tl - st, by omega⟩
    subst hm
    have hsc := row_fits HTr.out
    obtain ⟨h1, hmx⟩ := hsc
    have hkc := row_fits HKr.out
    obtain ⟨h3, hkx⟩ := hkc
    unfold maxLen at hmx hkx
    have h2 : st ≤ tc := by omega
    obtain ⟨P, hP⟩ : ∃ P : Nat → LS, ∀ k, woAll s.H ((s.T.drop st).take k) = P k := ⟨_, fun _ => rfl⟩
    have HP0 : Hid (P 0 = s.H) := hid (by rw [← hP]; rfl)
    have HPw : Hid (∀ k, Wf (P k)) := hid (fun k => by rw [← hP]; exact wf_woAll _ _ HWf.out)
    have HPs : Hid (∀ k, k < m → P (k + 1) = woL (P k) (onlyL (s.T[st + k]?.getD (0, 0)).1)) := hid (fun k hk => by
      rw [← hP, ← hP, List.take_add_one, List.getElem?_drop, List.getElem?_eq_getElem (show st + k < s.T.length by rw [HTl.out]; omega)]
      exact woAll_snoc _ _ _)
    have HPm : Hid (P m = woAll s.H (s.T.drop st)) := hid (by rw [← hP, List.take_of_length_le (by rw [List.length_drop, HTl.out]; omega)])
    clear hP
    by_cases hst : st = tc
    · have hm0 : m = 0 := by omega
      subst hm0
      subst hst
      go_enter Tryd.func40, Tryd.ntmps40
      go_wp2
      go_loopw [28] (fun i wr => i = .int .i64 0 ∧ wr = w) (fun _ _ => 0)
      case atStart => exact ⟨rfl, rfl⟩
      case round =>
        obtain ⟨rfl, rfl⟩ := hrel
        have y7 := HS.out.cell (i := 7) (by omega)
        have x7 := HS.out.frozen 7
        have y8 := HS.out.cell (i := 8) (by omega)
        have x8 := HS.out.frozen 8
        have y9 := HS.out.cell (i := 9) (by omega)
        have x9 := HS.out.frozen 9
        have y10 := HS.out.cell (i := 10) (by omega)
        have x10 := HS.out.frozen 10
        rw [HTa.out] at y7
        rw [HKa.out] at y8
        go_wp2
        go_end0
        obtain ⟨Fe, q1, q2, qf⟩ := back_end HS.out HTa.out HKa.out HTl.out HKl.out (st := st) (lv := lv) (by omega) hl
        refine ⟨rfl, Fe, ?_, q2, qf⟩
        have e : backS s lv = { s with T := s.T.take st, K := s.K.take lv, D := [], F := -1 } := by unfold backS; rw [if_neg (by rw [HKl.out]; omega), HSt.out, ← HPm.out, HP0.out]
        rw [e]
        exact q1
    · have hst2 : st < tc := by omega
      go_enter Tryd.func40, Tryd.ntmps40
      go_wp2
      go_loopw [28] (fun i wr => ∃ (k : Nat) (Fk : Nat → Value), k ≤ m ∧ i = .int .i64 k ∧ Sol 0 M mb Fk V { s with H := P k } wr ∧ Chg M mb (blk 0 F V) (blk 0 Fk V) w wr ∧ Fk 7 = .slice ta (st + m) tc ∧ Fk 8 = .slice (some ⟨g8, 0, none⟩) kl kc ∧ Fk 2 = F 2) (fun i _ => m - (intOf i).toNat)
      case atStart => exact ⟨0, F, Nat.zero_le _, rfl, by rw [HP0.out]; exact HS.out, Chg.below (Below.refl _ _), HTa.out, HKa.out, rfl⟩
      case round =>
        obtain ⟨k, Fk, hk, rfl, hS, hC, h7, h8, hf2⟩ := hrel
        have HFk2 := hid hf2
        clear hf2
        have HSk := hid hS
        have HCk := hid hC
        have HF7 := hid h7
        have HF8 := hid h8
        clear hS hC h7 h8
        by_cases hkm : k < m
        · obtain ⟨g, rfl, c0, c1, hgl⟩ := trail_at HSk.out HF7.out (i := st + k) (by show st + k < s.T.length; rw [HTl.out]; omega)
          have HE1 := hid (HPs.out k hkm)
          obtain ⟨⟨l, r⟩, hlr⟩ : ∃ q, s.T[st + k]?.getD (0, 0) = q := ⟨_, rfl⟩
          dsimp only at c0 c1
          rw [hlr] at c0 c1 HE1
          have hlb := HT0.out (l, r) (by rw [← hlr, List.getElem?_eq_getElem (show st + k < s.T.length by rw [HTl.out]; omega)]; exact List.getElem_mem _)
          dsimp only at c0 c1 hlb HE1
          obtain ⟨l0, l1, l2⟩ := hlb
          rw [Nat.add_mul] at c0 c1
          have m5 := HSk.out.cell (i := 5) (by omega)
          have m6 := HSk.out.cell (i := 6) (by omega)
          rw [HSk.out.f5] at m5
          rw [HSk.out.f6] at m6
          have z5 := HSk.out.frozen 5
          have z6 := HSk.out.frozen 6
          have hMl := HSk.out.lt.1
          have hwk := (HPw.out k).lt
          obtain ⟨H1, hH1⟩ : ∃ q, (P k).1 = q := ⟨_, rfl⟩
          obtain ⟨H2, hH2⟩ : ∃ q, (P k).2 = q := ⟨_, rfl⟩
          dsimp only at m5 m6
          rw [hH1] at m5 hwk
          rw [hH2] at m6 hwk
          have hwo := (wf_only l0 l1 l2).lt
          have HPk : Hid (P (k + 1) = (H1 &&& (18446744073709551615 - pBit l), H2 &&& (18446744073709551615 - oBit l))) := hid (by rw [HE1.out, ← hH1, ← hH2]; rfl)
          have HOn := hid (fun w : World => only_impl l w l1 l2)
          have HWo := hid (fun w : World => without_impl H1 H2 (pBit l) (oBit l) w hwk.1 hwk.2 hwo.1 hwo.2)
          generalize H1 &&& (18446744073709551615 - pBit l) = A1 at HPk HWo
          generalize H2 &&& (18446744073709551615 - oBit l) = A2 at HPk HWo
          obtain ⟨P2, hP2⟩ : ∃ q, pBit l = q := ⟨_, rfl⟩
          obtain ⟨O2, hO2⟩ : ∃ q, oBit l = q := ⟨_, rfl⟩
          rw [hP2, hO2] at HOn HWo
          clear hwk hwo hH1 hH2 hP2 hO2 hlr
          have HK5 : Hid (∀ w8 : World, Below wr.heap.size wr w8 → w8.cell? ⟨M, 5, none⟩ = some (.int .u64 H1) ∧ w8.cell? ⟨M, 6, none⟩ = some (.int .u64 H2) ∧ w8.frozen? ⟨M, 5, none⟩ = false ∧ w8.frozen? ⟨M, 6, none⟩ = false) := hid (fun w8 hb => by
            have hbm := hb.block M hMl
            exact ⟨keep hb m5, keep hb m6, (World.frozen?_of_block (a := ⟨M, 5, none⟩) hbm).trans z5, (World.frozen?_of_block (a := ⟨M, 6, none⟩) hbm).trans z6⟩)
          go_wp2_with fail
          go_region_with (first
            | (go_at_call 46; refine (HOn.out _).mono ?_; rintro e5 w5 ⟨rfl, hb5⟩; have HB5 := hid ((show Below wr.heap.size wr _ from (by repeat (first | exact Below.refl _ _ | assumption | refine Below.drew ?_ | refine Below.alloc ?_ (by first | exact Nat.le_refl _ | omega | (simp; done) | (simp; omega)) _ | refine Below.setCell ?_ (by first | exact Nat.le_refl _ | omega | (simp; done) | (simp; omega)) _))).trans (hb5.mono (by simp))); obtain ⟨n5, n6, nz5, nz6⟩ := HK5.out w5 HB5.out; clear hb5)
            | (go_at_call 55; refine (HWo.out _).mono ?_; rintro e6 w6 ⟨rfl, hb6⟩; have HB6 := hid (HB5.out.trans (hb6.mono HB5.out.size)); obtain ⟨p5, p6, pz5, pz6⟩ := HK5.out w6 HB6.out; clear hb6))
          all_goals
            obtain ⟨q1, q2⟩ := Sol.setHeld (HSk.out.below HB6.out) (by omega) (A1, A2)
            have HQ1 := hid q1
            have HQ2 := hid (HCk.out.trans ((Chg.below HB6.out).trans q2))
            clear q1 q2
            go_wp2
            go_roundw
            case rel =>
              exact ⟨k + 1, by omega, by omega, _, by rw [HPk.out]; exact HQ1.out, HQ2.out, HF7.out, HF8.out, HFk2.out⟩
            case measure => simp [intOf]; omega
        · have e : k = m := by omega
          subst e
          have y7 := HSk.out.cell (i := 7) (by omega)
          have x7 := HSk.out.frozen 7
          have y8 := HSk.out.cell (i := 8) (by omega)
          have x8 := HSk.out.frozen 8
          have y9 := HSk.out.cell (i := 9) (by omega)
          have x9 := HSk.out.frozen 9
          have y10 := HSk.out.cell (i := 10) (by omega)
          have x10 := HSk.out.frozen 10
          rw [HF7.out] at y7
          rw [HF8.out] at y8
          go_wp2
          go_end0
          obtain ⟨Fe, q1, q2, qf⟩ := back_end HSk.out HF7.out HF8.out HTl.out HKl.out (st := st) (lv := lv) (by omega) hl
          refine ⟨rfl, Fe, ?_, HCk.out.trans q2, qf.trans HFk2.out⟩
          have e : backS s lv = { s with H := P k, T := s.T.take st, K := s.K.take lv, D := [], F := -1 } := by unfold backS; rw [if_neg (by rw [HKl.out]; omega), HSt.out, HPm.out]
          rw [e]
          exact q1
end Go.Proofs.YtbahjpheaaiamaaDoor.solBackI

/- A trail as a binary number: a digit is 1 where no choice stands; it rises where a choice gives way to what follows; of no program; conditions: none. -/
namespace Go.Proofs.YtbahjpheaaiamaaDoor.cdVal
set_option linter.unusedVariables false

/-- The number of the first m digits of N. -/
def dig (N : Nat) (K : List Nat) : Nat → Nat
  | 0 => 0
  | m + 1 => dig N K m + (if m ∈ K then 0 else 2 ^ (N - 1 - m))
theorem dig_mono {N : Nat} {K : List Nat} (m : Nat) : ∀ d, dig N K m ≤ dig N K (m + d)
  | 0 => Nat.le_refl _
  | d + 1 => Nat.le_trans (dig_mono m d) (by show _ ≤ dig N K (m + d) + _; omega)
theorem dig_congr {N : Nat} {K K' : List Nat} : ∀ m, (∀ p, p < m → (p ∈ K ↔ p ∈ K')) → dig N K m = dig N K' m
  | 0, _ => rfl
  | m + 1, h => by
    unfold dig
    rw [dig_congr m (fun p hp => h p (by omega))]
    by_cases e : m ∈ K
    · rw [if_pos e, if_pos ((h m (by omega)).1 e)]
    · rw [if_neg e, if_neg (fun h9 => e ((h m (by omega)).2 h9))]
theorem pow_half {N m : Nat} (h : m < N) : 2 ^ (N - m) = 2 ^ (N - 1 - m) + 2 ^ (N - 1 - m) := by
  have e : N - m = (N - 1 - m) + 1 := by omega
  rw [e, Nat.pow_succ]
  omega
/-- Behind m digits no more than all ones can come. -/
theorem dig_up {N : Nat} {K : List Nat} (m : Nat) : ∀ d, m + d ≤ N → dig N K (m + d) + 2 ^ (N - (m + d)) ≤ dig N K m + 2 ^ (N - m)
  | 0, _ => Nat.le_refl _
  | d + 1, h => by
    have ih := dig_up (N := N) (K := K) m d (by omega)
    have hp := pow_half (N := N) (m := m + d) (by omega)
    have e1 : N - (m + (d + 1)) = N - 1 - (m + d) := by omega
    have hx : dig N K (m + (d + 1)) = dig N K (m + d) + (if (m + d) ∈ K then 0 else 2 ^ (N - 1 - (m + d))) := rfl
    rw [e1, hx]
    generalize 2 ^ (N - 1 - (m + d)) = g at *
    generalize 2 ^ (N - (m + d)) = f at *
    generalize 2 ^ (N - m) = q at *
    split <;> omega
theorem dig_lt {N : Nat} {K : List Nat} {m : Nat} (h : m ≤ N) : dig N K m < 2 ^ N := by
  have h1 := dig_up (N := N) (K := K) 0 m (by omega)
  have h2 : 0 < 2 ^ (N - (0 + m)) := Nat.pow_pos (by decide)
  rw [Nat.zero_add] at h1 h2
  have e : dig N K 0 = 0 := rfl
  rw [e, Nat.zero_add, Nat.sub_zero] at h1
  omega
/-- A choice at place k gives way: the number rises, whatever stood behind. -/
theorem dig_rise {N : Nat} {K K' : List Nat} {k m : Nat} (hk : k ∈ K) (hkm : k < m) (hm : m ≤ N) (h : ∀ p, p < k → (p ∈ K ↔ p ∈ K')) (hk' : k ∉ K') : dig N K m < dig N K' (k + 1) := by
  have e1 : dig N K' (k + 1) = dig N K k + 2 ^ (N - 1 - k) := by
    show dig N K' k + _ = _
    rw [if_neg hk', dig_congr k h]
  have e2 : dig N K (k + 1) = dig N K k := by
    show dig N K k + _ = _
    rw [if_pos hk, Nat.add_zero]
  have h1 := dig_up (N := N) (K := K) (k + 1) (m - (k + 1)) (by omega)
  rw [show k + 1 + (m - (k + 1)) = m by omega, e2] at h1
  have h2 : 0 < 2 ^ (N - m) := Nat.pow_pos (by decide)
  have e3 : N - (k + 1) = N - 1 - k := by omega
  rw [e3] at h1
  omega
end Go.Proofs.YtbahjpheaaiamaaDoor.cdVal
