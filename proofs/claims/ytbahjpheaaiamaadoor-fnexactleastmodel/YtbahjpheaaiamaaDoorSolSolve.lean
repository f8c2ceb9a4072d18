/- A solver of the program: it searches (solve); what learn does is given. -/
import Derived.Test.YtbahjpheaaiamaaDoorPart30
import Derived.Test.YtbahjpheaaiamaaDoorSolPropI
import Derived.Test.YtbahjpheaaiamaaDoorPart32
import Derived.Test.YtbahjpheaaiamaaDoorPart18
import Derived.Test.YtbahjpheaaiamaaDoorPart10
namespace Go.Proofs.YtbahjpheaaiamaaDoor.solSolve
open Go.RowKit Go.Deep Go.Shelf Go base sets setsOf solSets solOps solMath solHold solMem solFail solX solProp solClose solTrail solAddM cdVal cdState cdLes cdLearn cdSolve cdX solHang solPush solNext hasAny Go.Maps solDue solExpect solLoop solMove solHoldI solPropI solBackI solAddI heldStore drawn drawnLin drawnApp stepAppend
set_option linter.unusedVariables false
set_option linter.unusedSimpArgs false

/-- A credit is kept by propagation, and, once nothing is due, where own, room, patience, what is counted and the clauses stay and the number does not fall. -/
structure Keeps (Crd : Sv → Nat → Prop) : Prop where
  prop : ∀ s r, Full s → Crd s r → Crd (propF (meas s + 1) s) r
  go : ∀ p s' r, Full p → p.F = -1 → p.D = [] → Crd p r → (∀ j, (j = 1 ∨ 53 ≤ j) → s'.X j = p.X j) → s'.C.length = p.C.length → num p ≤ num s' → Full s' → Crd s' r
/-- How long a search still goes on. -/
def left (n r : Nat) (s : Sv) : Nat := (r * (2 ^ n + 1) + (2 ^ n - num (propF (meas s + 1) s))) * (n + 2) + (n + 1 - (propF (meas s + 1) s).T.length)
theorem free_le (H : LS) : free H ≤ 41 := by
  unfold free
  exact Nat.le_trans (List.length_filter_le _ _) (by simp)
theorem left_less {n r r' : Nat} {p s' : Sv} (h : r' < r ∨ (r' = r ∧ num p < num (propF (meas s' + 1) s'))) (hq : num (propF (meas s' + 1) s') < 2 ^ n) (hT : p.T.length ≤ n) :
    left n r' s' < (r * (2 ^ n + 1) + (2 ^ n - num p)) * (n + 2) + (n + 1 - p.T.length) := by
  unfold left
  obtain ⟨Q, hQ⟩ : ∃ Q, 2 ^ n = Q := ⟨_, rfl⟩
  rw [hQ] at hq ⊢
  obtain ⟨u, hu⟩ : ∃ u, num (propF (meas s' + 1) s') = u := ⟨_, rfl⟩
  obtain ⟨t, ht⟩ : ∃ t, (propF (meas s' + 1) s').T.length = t := ⟨_, rfl⟩
  rw [hu] at hq h ⊢
  rw [ht]
  have key : r' * (Q + 1) + (Q - u) + 1 ≤ r * (Q + 1) + (Q - num p) := by
    rcases h with h | ⟨rfl, h⟩
    · have h2 : (r' + 1) * (Q + 1) ≤ r * (Q + 1) := Nat.mul_le_mul_right _ h
      rw [Nat.add_mul, Nat.one_mul] at h2
      omega
    · omega
  have h3 := Nat.mul_le_mul_right (n + 2) key
  rw [Nat.add_mul _ 1, Nat.one_mul] at h3
  omega
theorem left_choice {n r : Nat} {p s' : Sv} (hf : Full s') (hn : num s' = num p) (hT : s'.T.length = p.T.length + 1) (hm : (propF (meas s' + 1) s').T.length ≤ n) :
    left n r s' < (r * (2 ^ n + 1) + (2 ^ n - num p)) * (n + 2) + (n + 1 - p.T.length) := by
  obtain ⟨m1, m2, _⟩ := prop_more (meas s' + 1) s' hf
  unfold left
  obtain ⟨Q, hQ⟩ : ∃ Q, 2 ^ n = Q := ⟨_, rfl⟩
  rw [hQ]
  obtain ⟨u, hu⟩ : ∃ u, num (propF (meas s' + 1) s') = u := ⟨_, rfl⟩
  obtain ⟨t, ht⟩ : ∃ t, (propF (meas s' + 1) s').T.length = t := ⟨_, rfl⟩
  rw [hu] at m2 ⊢
  rw [ht] at m1 hm ⊢
  have h3 : (r * (Q + 1) + (Q - u)) * (n + 2) ≤ (r * (Q + 1) + (Q - num p)) * (n + 2) := Nat.mul_le_mul_right _ (by omega)
  omega
/-- What is known of a solver that searches. -/
structure Srch (n : Nat) (Z : List LS) (G B : LS) (M mb : Nat) (Crd : Sv → Nat → Prop) (F : Nat → Value) (V : Int → Value) (s : Sv) (g : Int) (r : Nat) (w : World) : Prop where
  sol : Sol 0 M mb F V s w
  nil : V 0 = nilV
  cd : Cd n Z G B s
  wg : Wg s.X g (1000 * g)
  gg : 1024 ≤ g ∧ g ≤ 1099511627776
  cr : Crd s r
/-- What a search leaves as it was; the map that is watched may be a new one. -/
structure ChgM (M mb mb' : Nat) (β β' : Int → Option Nat) (w w' : World) : Prop where
  os : w'.os = w.os
  tape : w'.tape = w.tape
  output : w'.output = w.output
  size : w.heap.size ≤ w'.heap.size
  block : ∀ j, j < w.heap.size → j ≠ M → j ≠ mb → (∀ a, β a ≠ some j) → w'.heap[j]? = w.heap[j]?
  news : ∀ a j, β' a = some j → β a = some j ∨ w.heap.size ≤ j
  map : mb' = mb ∨ w.heap.size ≤ mb'
theorem ChgM.of {M mb : Nat} {β β' : Int → Option Nat} {w w' : World} (h : Chg M mb β β' w w') : ChgM M mb mb β β' w w' := ⟨h.os, h.tape, h.output, h.size, h.block, h.news, .inl rfl⟩
theorem ChgM.trans {M mb mb1 mb2 : Nat} {β β1 β2 : Int → Option Nat} {w w1 w2 : World} (h : ChgM M mb mb1 β β1 w w1) (k : ChgM M mb1 mb2 β1 β2 w1 w2) : ChgM M mb mb2 β β2 w w2 := by
  refine ⟨k.os.trans h.os, k.tape.trans h.tape, k.output.trans h.output, Nat.le_trans h.size k.size, fun j hj h1 h2 h3 => ?_, fun a j ha => ?_, ?_⟩
  · refine (k.block j (Nat.lt_of_lt_of_le hj h.size) h1 (fun e => ?_) fun a ha => ?_).trans (h.block j hj h1 h2 h3)
    · rcases h.map with e2 | e2
      · exact h2 (e.trans e2)
      · omega
    · rcases h.news a j ha with h4 | h4
      · exact h3 a h4
      · omega
  · rcases k.news a j ha with h4 | h4
    · exact h.news a j h4
    · exact .inr (Nat.le_trans h.size h4)
  · rcases k.map with e | e
    · rcases h.map with e2 | e2
      · exact .inl (e.trans e2)
      · exact .inr (by omega)
    · exact .inr (Nat.le_trans h.size e)
theorem ChgM.next {M mb mb1 : Nat} {β β1 β2 : Int → Option Nat} {w w1 w2 : World} (h : ChgM M mb mb1 β β1 w w1) (k : Chg M mb1 β1 β2 w1 w2) : ChgM M mb mb1 β β2 w w2 := h.trans (ChgM.of k)
theorem ChgM.toBelow {M mb mb' W : Nat} {β β' : Int → Option Nat} {w w' : World} (h : ChgM M mb mb' β β' w w') (h0 : W ≤ w.heap.size) (h1 : W ≤ M) (h2 : W ≤ mb) (h3 : ∀ a g, β a = some g → W ≤ g) : Below W w w' :=
  ⟨h.os, h.tape, h.output, h.size, fun j hj => h.block j (by omega) (by omega) (by omega) fun a ha => by have := h3 a j ha; omega⟩
set_option maxRecDepth 8000 in
set_option maxHeartbeats 6400000 in
theorem solve_impl (n : Nat) (Z : List LS) (G B : LS) (M mb : Nat) (Crd : Sv → Nat → Prop) (hKp : Keeps Crd) (hCl : ∀ s r, Crd s r → s.C.length ≤ 8000000000000) (F : Nat → Value) (V : Int → Value) (s : Sv) (g : Int) (r : Nat) (w : World) (h : Srch n Z G B M mb Crd F V s g r w) (l : Int) (hl : l.natAbs ≤ n) (hBk : s.K ≠ [] → ∃ r', Crd (backS s 0) r')
    (HLn : ∀ (mb1 : Nat) (F1 : Nat → Value) (V1 : Int → Value) (p : Sv) (w1 : World) (g1 : Int) (r1 : Nat), Srch n Z G B M mb1 Crd F1 V1 p g1 r1 w1 → p.F ≠ -1 → p.K ≠ [] →
      Calls Tryd.prog 42 #[.pointer (some ⟨M, 0, none⟩)] w1 fun e w2 => e = .returned (.tuple #[]) ∧ ∃ (mb2 : Nat) (F2 : Nat → Value) (V2 : Int → Value) (s2 : Sv) (g2 : Int) (r2 : Nat), Srch n Z G B M mb2 Crd F2 V2 s2 g2 r2 w2 ∧ ChgM M mb1 mb2 (blk 0 F1 V1) (blk 0 F2 V2) w1 w2 ∧ (∀ l, cdSolve.Ask G p l → cdSolve.Ask G s2 l) ∧ (r2 < r1 ∨ (r2 = r1 ∧ num p < num (propF (meas s2 + 1) s2)))) :
    Calls Tryd.prog 24 #[.pointer (some ⟨M, 0, none⟩), .int .i64 l] w fun e w' => ∃ (b : Bool) (mb' : Nat) (F' : Nat → Value) (V' : Int → Value) (p : Sv) (g' : Int) (r' : Nat), e = .returned (.bool b) ∧ Srch n Z G B M mb' Crd F' V' p g' r' w' ∧ ChgM M mb mb' (blk 0 F V) (blk 0 F' V') w w' ∧ (b = true → Mdl n Z p.H ∧ (l = 0 ∨ mem p.H l = true)) ∧ (b = false → ¬ ∃ H, Mdl n Z H ∧ Sub B H ∧ (l = 0 ∨ mem H l = true)) := by
  have HS := hid h
  have HLn' := hid HLn
  have HKp := hid hKp
  have HCl := hid hCl
  have HBk := hid hBk
  have hM := h.sol.lt.1
  have h40 := h.cd.q.n40
  have hTm := trail_most h.cd.q h.cd.stk.tr
  have HTl : Hid (∀ p ∈ s.T, p.1 ≠ 0 ∧ -40 ≤ p.1 ∧ p.1 ≤ 40) := hid (fun p hp => by
    obtain ⟨i, hi, rfl⟩ := List.getElem_of_mem hp
    have := (tl_fresh HS.out.cd.stk.tr hi (Nat.zero_le _)).2.2
    unfold tl at this
    rw [List.getElem?_eq_getElem hi] at this
    exact this)
  have hKm : s.K.length ≤ 100000 := by
    have h2 : ∀ i, i < s.K.length → i ≤ s.K[i]?.getD 0 := fun i => by
      induction i with
      | zero => intro _; exact Nat.zero_le _
      | succ i ih =>
        intro hi
        have h3 := ih (by omega)
        have h4 := List.pairwise_iff_getElem.1 h.cd.q.inc i (i + 1) (by omega) hi (by omega)
        rw [List.getElem?_eq_getElem hi]
        rw [List.getElem?_eq_getElem (by omega)] at h3
        simp only [Option.getD_some] at h3 ⊢
        omega
    rcases Nat.eq_zero_or_pos s.K.length with e | e
    · omega
    · have h3 := h2 (s.K.length - 1) (by omega)
      have h4 := h.cd.lt _ (List.getElem_mem (show s.K.length - 1 < s.K.length by omega))
      rw [List.getElem?_eq_getElem (by omega), Option.getD_some] at h3
      omega
  clear h HLn hKp hCl hBk
  go_enter Tryd.func24, Tryd.ntmps24
  go_wp2_with fail
  refine (solBackI.back_impl M mb F V s w HS.out.sol HS.out.cd.full.ok.wfH 0 (Nat.zero_le _) (fun hk => by rw [List.getElem?_eq_getElem hk]; exact HS.out.cd.stk.le _ (List.getElem_mem hk)) HTl.out (by omega) hKm).mono ?_
  rintro e w1 ⟨rfl, F1, hs1, hch1, _⟩
  have hX1 := back_X s 0
  obtain ⟨s1, r1, HS1, HA1⟩ : ∃ s1 r1, Hid (Srch n Z G B M mb Crd F1 V s1 g r1 w1) ∧ Hid (cdSolve.Ask G s1 l) := by
    by_cases hK : s.K = []
    · have e : backS s 0 = s := by unfold backS; rw [if_pos (by rw [hK]; rfl)]
      rw [e] at hs1
      exact ⟨s, r, hid ⟨hs1, HS.out.nil, HS.out.cd, HS.out.wg, HS.out.gg, HS.out.cr⟩, hid (fun hk => absurd hK hk)⟩
    · obtain ⟨r', hr'⟩ := HBk.out hK
      refine ⟨backS s 0, r', hid ⟨hs1, HS.out.nil, cd_back HS.out.cd (List.length_pos_iff.2 hK), by rw [hX1]; exact HS.out.wg, HS.out.gg, hr'⟩, hid (fun hk => absurd ?_ hk)⟩
      rw [back_eq HS.out.cd.stk.tr (List.length_pos_iff.2 hK)]
      rfl
  have HC1 := hid hch1
  clear hs1 hch1 hX1 HTl
  go_wp2_with fail
  go_loopg [] (left n r1 s1) (fun g9 wr => ∃ (mbj : Nat) (Fj : Nat → Value) (Vj : Int → Value) (sj : Sv) (gj : Int) (rj : Nat), Srch n Z G B M mbj Crd Fj Vj sj gj rj wr ∧ cdSolve.Ask G sj l ∧ ChgM M mb mbj (blk 0 F V) (blk 0 Fj Vj) w wr ∧ left n rj sj ≤ g9)
  case atStart => exact ⟨mb, F1, V, s1, g, r1, HS1.out, HA1.out, ChgM.of HC1.out, Nat.le_refl _⟩
  case round =>
    obtain ⟨mbj, Fj, Vj, sj, gj, rj, hS, hA, hC, hle⟩ := hrel
    have HSj := hid hS
    have HAj := hid hA
    have HCj := hid hC
    have HLe := hid hle
    clear hS hA hC hle
    go_wp2_with fail
    refine (solPropI.propagate_impl M mbj Fj Vj sj _ HSj.out.sol HSj.out.nil HSj.out.cd.full (HCl.out _ _ HSj.out.cr) (by have := free_le sj.H; have := trail_most HSj.out.cd.q HSj.out.cd.stk.tr; omega)).mono ?_
    rintro e w2 ⟨rfl, F2, V2, hs2, hv2, hch2, _⟩
    have hcp := cd_prop (meas sj + 1) sj HSj.out.cd
    have hap := ask_prop (meas sj + 1) sj HSj.out.cd HAj.out
    have hpm := prop_more (meas sj + 1) sj HSj.out.cd.full
    have HLp : Hid (left n rj sj = (rj * (2 ^ n + 1) + (2 ^ n - num (propF (meas sj + 1) sj))) * (n + 2) + (n + 1 - (propF (meas sj + 1) sj).T.length)) := hid rfl
    obtain ⟨p, hp⟩ : ∃ p, propF (meas sj + 1) sj = p := ⟨_, rfl⟩
    have HP := hid hp
    rw [hp] at hs2 hcp hap hpm HLp
    have HSp := hid hs2
    have HVp := hid hv2
    have HCp := hid (HCj.out.next hch2)
    have HCdp := hid hcp
    have HAp := hid hap
    have HMp := hid hpm
    have k10 := hs2.cell (i := 10) (by omega)
    rw [hs2.f10] at k10
    have k5 := hs2.cell (i := 5) (by omega)
    have k6 := hs2.cell (i := 6) (by omega)
    have k8 := hs2.cell (i := 8) (by omega)
    rw [hs2.f5] at k5
    rw [hs2.f6] at k6
    obtain ⟨ka, kc, hk8, hk1, hk2⟩ := choice_form hs2
    rw [hk8] at k8
    unfold maxLen at hk2
    have HFd : Hid (p.F ≠ -1 ∨ p.D = []) := hid (by rw [← hp]; exact (propF_done _ _ HSj.out.cd.full (Nat.lt_succ_self _)).2.1)
    have HPC : Hid (p.C = sj.C) := hid (by rw [← hp]; exact (propF_done _ _ HSj.out.cd.full (Nat.lt_succ_self _)).2.2.1)
    have HSr : Hid (Srch n Z G B M mbj Crd F2 V2 p gj rj w2) := hid ⟨hs2, hv2, hcp, by rw [hpm.2.2]; exact HSj.out.wg, HSj.out.gg, by have := HKp.out.prop sj rj HSj.out.cd.full HSj.out.cr; rw [HP.out] at this; exact this⟩
    obtain ⟨kn, hkn⟩ : ∃ kn, p.K.length = kn := ⟨_, rfl⟩
    have HKn := hid hkn
    rw [hkn] at k8 hk1
    clear hs2 hv2 hch2 hcp hap hpm hp hk8 hkn
    by_cases hF : p.F = -1
    · have HF := hid hF
      have e9 : (p.F != -1) = false := by simp [hF]
      clear hF
      have HDp : Hid (p.D = []) := hid (HFd.out.resolve_left (fun e => e HF.out))
      obtain ⟨H1, hH1⟩ : ∃ x, p.H.1 = x := ⟨_, rfl⟩
      obtain ⟨H2, hH2⟩ : ∃ x, p.H.2 = x := ⟨_, rfl⟩
      have HHp : Hid (p.H = (H1, H2)) := hid (by rw [← hH1, ← hH2])
      rw [hH1] at k5
      rw [hH2] at k6
      have HHs := hid (fun W : World => has_any (H1, H2) (-l) W (by rw [← HHp.out]; exact HCdp.out.full.ok.wfH) (by omega) (by omega))
      clear hH1 hH2
      have ez : IntKind.i64.wrap (-l) = -l := by rw [IntKind.wrap_i64]; omega
      have e64 : l ≠ -9223372036854775808 := by omega
      go_wp2_with fail
      refine (HHs.out _).mono ?_
      rintro e w3 ⟨rfl, hb3⟩
      cases hm : mem (H1, H2) (-l) with
      | true =>
        have HNo := hid (no_asked HCdp.out HAp.out (by rw [HHp.out]; exact hm))
        have HB3 := hid hb3
        have HL0 : Hid (l ≠ 0) := hid (fun e => by rw [e, Int.neg_zero, ← HHp.out, HCdp.out.full.ok.wfH.zero] at hm; cases hm)
        clear hm hb3
        go_wp2
        refine bodyPost_ret (v := .bool false) (by simp [results, Tryd.results24, go_sem]) rfl ⟨false, mbj, F2, V2, p, gj, rj, rfl, ⟨HSr.out.sol.below HB3.out, HSr.out.nil, HSr.out.cd, HSr.out.wg, HSr.out.gg, HSr.out.cr⟩, HCp.out.next (Chg.below HB3.out), fun h => (by cases h), fun _ ⟨H, h1, h2, h3⟩ => HNo.out.2 ⟨H, h1, h2, h3.resolve_left HL0.out⟩⟩
      | false =>
        have HB3 := hid hb3
        have HMl : Hid (mem p.H (-l) = false) := hid (by rw [HHp.out]; exact hm)
        have HSq : Hid (Srch n Z G B M mbj Crd F2 V2 p gj rj w3) := hid ⟨HSr.out.sol.below hb3, HSr.out.nil, HSr.out.cd, HSr.out.wg, HSr.out.gg, HSr.out.cr⟩
        clear hm hb3
        go_wp2_with fail
        refine (next_impl M mbj F2 V2 p _ HSq.out.sol n HCdp.out.q.nv h40 gj (1000 * gj) HSq.out.wg HCdp.out.full.ok.wfH l ⟨by omega, by omega⟩).mono ?_
        rintro e w4 ⟨x, rfl, hcx, hb4⟩
        have HCx := hid hcx
        have HB4 := hid hb4
        have HSq4 : Hid (Srch n Z G B M mbj Crd F2 V2 p gj rj w4) := hid ⟨HSq.out.sol.below hb4, HSr.out.nil, HSr.out.cd, HSr.out.wg, HSr.out.gg, HSr.out.cr⟩
        have HC4 : Hid (ChgM M mb mbj (blk 0 F V) (blk 0 F2 V2) w w4) := hid ((HCp.out.next (Chg.below HB3.out)).next (Chg.below hb4))
        clear hcx hb4
        by_cases hx : x = 0
        · have HX := hid hx
          have e9 : (x == 0) = true := by simp [hx]
          clear hx
          have HM := hid (whole_model HCdp.out HF.out HDp.out (HCx.out.none HX.out).2)
          go_wp2_with fail
          have hx0 := HX.out
          go_wp2
          refine bodyPost_ret (v := .bool true) (by simp [results, Tryd.results24, go_sem]) rfl ⟨true, mbj, F2, V2, p, gj, rj, rfl, HSq4.out, HC4.out, fun _ => ⟨HM.out, (HCx.out.none HX.out).1⟩, fun h => (by cases h)⟩
        · have HX := hid hx
          have e9 : (x == 0) = false := by simp [hx]
          clear hx
          go_wp2
          obtain ⟨hx1, hx2, hx3⟩ : x.natAbs ≤ n ∧ (mem p.H x = false ∧ mem p.H (-x) = false) ∧ (p.K = [] → l = 0 ∨ x = l ∨ mem p.H l = true) := by
            rcases HCx.out.some HX.out with ⟨e1, e2⟩ | ⟨e1, e2, e3, e4⟩
            · exact ⟨by rw [e1]; exact hl, ⟨by rw [e1]; exact e2, by rw [e1]; exact HMl.out⟩, fun _ => .inr (.inl e1)⟩
            · exact ⟨e2, ⟨e3, e4⟩, fun _ => e1.elim .inl (fun e => .inr (.inr e))⟩
          have HX2 := hid hx2
          have HCh := hid (choose_spec HCdp.out HF.out HDp.out HAp.out HX.out hx1 hx2 hx3)
          clear hx2 hx3 k5 k6 k8 k10
          obtain ⟨ka, kc, hka, hk1, hk2⟩ := choice_form HSq4.out.sol
          obtain ⟨ta, tc, hta, ht1, ht2⟩ := trail_form HSq4.out.sol
          unfold maxLen at hk2 ht2
          obtain ⟨kl, hkl⟩ : ∃ kl, p.K.length = kl := ⟨_, rfl⟩
          obtain ⟨tl, htl⟩ : ∃ tl, p.T.length = tl := ⟨_, rfl⟩
          have hkm : kl ≤ 100 := by
            have h1 := HCdp.out.q.inc
            have h2 : ∀ i, i < p.K.length → i ≤ p.K[i]?.getD 0 := fun i => by
              induction i with
              | zero => intro _; exact Nat.zero_le _
              | succ i ih =>
                intro hi
                have h3 := ih (by omega)
                have h4 := List.pairwise_iff_getElem.1 h1 i (i + 1) (by omega) hi (by omega)
                rw [List.getElem?_eq_getElem hi]
                rw [List.getElem?_eq_getElem (by omega)] at h3
                simp only [Option.getD_some] at h3 ⊢
                omega
            rcases Nat.eq_zero_or_pos p.K.length with e | e
            · omega
            · have h3 := h2 (p.K.length - 1) (by omega)
              have h4 := HCdp.out.lt _ (List.getElem_mem (show p.K.length - 1 < p.K.length by omega))
              have h5 := trail_most HCdp.out.q HCdp.out.stk.tr
              rw [List.getElem?_eq_getElem (by omega), Option.getD_some] at h3
              omega
          have htm : tl ≤ n := by rw [← htl]; exact trail_most HCdp.out.q HCdp.out.stk.tr
          rw [hkl] at hka hk1
          rw [htl] at hta ht1
          have HKa := hid hka
          have HTa := hid hta
          have HKl := hid hkl
          have HTle := hid htl
          have HSs := hid HSq4.out.sol
          clear hka hta hkl htl
          obtain ⟨i0, hi0, hzz⟩ := Option.map_eq_some_iff.1 solPush.info_i
          simp only [Prod.mk.injEq] at hzz
          obtain ⟨hz0, hz1, hz2⟩ := hzz
          have HI := hid hi0
          have HZ0 := hid hz0
          have HZ1 := hid hz1
          have HZ2 := hid hz2
          clear hi0 hz0 hz1 hz2
          have HMc : Hid (∀ w8 : World, World.grownBy w4 w8 (Value.ownBlock (.slice ka kl kc)) → w8.cell? ⟨M, 7, none⟩ = some (.slice ta tl tc) ∧ w8.cell? ⟨M, 8, none⟩ = some (.slice ka kl kc) ∧ w8.frozen? ⟨M, 8, none⟩ = false ∧ M < w8.heap.size) := hid (fun w8 hg => by
            have hne : some M ≠ Value.ownBlock (.slice ka kl kc) := fun e => (HSs.out.off 1004 M (by rw [blk_ne (by omega)]; show (F2 8).ownBlock = _; rw [HKa.out]; exact e.symm)).1 rfl
            have hM := HSs.out.lt.1
            have hb := hg.block M hM hne
            have c7 := HSs.out.cell (i := 7) (by omega)
            have c8 := HSs.out.cell (i := 8) (by omega)
            rw [HTa.out] at c7
            rw [HKa.out] at c8
            exact ⟨(World.cell?_of_block (a := ⟨M, 7, none⟩) hb).trans c7, (World.cell?_of_block (a := ⟨M, 8, none⟩) hb).trans c8, (World.frozen?_of_block (a := ⟨M, 8, none⟩) hb).trans (HSs.out.frozen 8), Nat.lt_of_lt_of_le hM hg.size⟩)
          have HKr : Hid (World.ownsRow w4 0 3 1 (.slice ka kl kc) kl (intsN p.K)) := hid (by have := HSs.out.rows 1004 (by omega); have this : World.ownsRow w4 0 3 1 (F2 8) p.K.length (intsN p.K) := this; rw [HKa.out, HKl.out] at this; exact this)
          have HOw : Hid (∀ w8 : World, Below (World.heap w4).size w4 w8 → w8.ownsRow 0 3 1 (.slice ka kl kc) kl (intsN p.K)) := hid (fun w8 hb => own_kept HKr.out fun g hg => hb.block g (World.ownsRow.lt HKr.out g hg).2)
          have HRl : Hid (∀ j, Value.ownBlock (.slice ka kl kc) = some j → j < (World.heap w4).size) := hid (fun j hj => (World.ownsRow.lt HKr.out j hj).2)
          have HSt : Hid (∀ (w8 : World) (va : Option Addr) (vc : Nat), World.grownBy w4 w8 (Value.ownBlock (.slice ka kl kc)) → w8.ownsRow 0 3 1 (.slice va (kl + 1) vc) (kl + 1) (intsN p.K ++ [.int .i64 (tl : Int)]) → (Value.ownBlock (.slice va (kl + 1) vc) = Value.ownBlock (.slice ka kl kc) ∨ Value.ownBlock (.slice va (kl + 1) vc) = none ∨ ∃ g, (World.heap w4).size ≤ g ∧ Value.ownBlock (.slice va (kl + 1) vc) = some g) → ∃ Fb, Sol 0 M mbj Fb V2 (pushS p) (w8.setCell ⟨M, 8, none⟩ (.slice va (kl + 1) vc)) ∧ Chg M mbj (blk 0 F2 V2) (blk 0 Fb V2) w4 (w8.setCell ⟨M, 8, none⟩ (.slice va (kl + 1) vc)) ∧ Fb 2 = F2 2) := hid (fun w8 va vc hg ho hl => by
            have := Sol.store HSs.out (by omega) (a0 := 1004) (c := 8) (by simp) (v' := .slice va (kl + 1) vc) (s' := pushS p) (w1 := w8) (by show World.grownBy w4 w8 (F2 8).ownBlock; rw [HKa.out]; exact hg) (by show w8.ownsRow 0 3 1 _ (p.K ++ [p.T.length]).length (intsN (p.K ++ [p.T.length])); rw [List.length_append, HKl.out, HTle.out]; unfold intsN; rw [List.map_append]; exact ho) (by show _ = (F2 8).ownBlock ∨ _; rw [HKa.out]; exact hl) (fun a ha v w hr => by unfold RowA pushS at *; simpa [ha] using hr) rfl rfl rfl
            exact ⟨_, this.1, this.2, rfl⟩)
          refine region_app (fun ua => ⟨#[.pointer (some ⟨M, 0, none⟩), .int .i64 l, undef, undef, u4, .int .i64 x, .pointer (some ⟨M, 0, none⟩), .tuple #[], .pointer (some ⟨M, 0, none⟩), .tuple #[], .pointer (some ⟨M, 0, none⟩), .int .i64 l, .int .i64 x, .int .i64 x, .bool false, ua 15, ua 16, ua 17, ua 18, ua 19, ua 20, ua 21, ua 22, ua 23, ua 24, ua 25, ua 26, ua 27, ua 28, u29, u30, u31, .bool false, .pointer (some ⟨M, 0, none⟩), .pointer (some ⟨M, 0, none⟩), .pointer (some ⟨M, 10, none⟩), .int .i64 p.F, .bool false, .bool false, undef, undef, undef, undef, undef, undef, .bool false, .bool false, .pointer (some ⟨M, 0, none⟩), .pointer (some ⟨M, 0, none⟩), .pointer (some ⟨M, 10, none⟩), .int .i64 p.F, .bool false, u52, u53, .bool false, .pointer (some ⟨M, 0, none⟩), .pointer (some ⟨M, 0, none⟩), .pointer (some ⟨M, 5, none⟩), .agg #[.int IntKind.u64 ↑H1, .int IntKind.u64 ↑H2], .int .i64 l, .int .i64 (-l), .bool false], []⟩) (fun i => [15, 16, 17, 18, 19, 20, 21, 22, 23, 24, 25, 26, 27, 28].getD i 0) (fun i v w8 => match i with | 0 => v = .pointer (some ⟨M, 0, none⟩) | 1 => v = .pointer (some ⟨M, 0, none⟩) | 2 => v = .pointer (some ⟨M, 0, none⟩) | 3 => v = .pointer (some ⟨M, 8, none⟩) | 4 => v = .slice ka kl kc | 5 => v = .pointer (some ⟨M, 0, none⟩) | 6 => v = .pointer (some ⟨M, 0, none⟩) | 7 => v = .pointer (some ⟨M, 7, none⟩) | 8 => v = .slice ta tl tc | 9 => v = .int .i64 (tl : Int) | 10 => ∃ gb, v = .slice (some ⟨gb, 0, none⟩) 1 1 ∧ (World.heap w4).size ≤ gb ∧ World.cell? w8 ⟨gb, 0, none⟩ = some (.int .i64 (tl : Int)) | 11 => World.ownsRow w8 0 3 1 v (kl + 1) (intsN p.K ++ [.int .i64 (tl : Int)]) ∧ (Value.ownBlock v = Value.ownBlock (.slice ka kl kc) ∨ Value.ownBlock v = none ∨ ∃ g, (World.heap w4).size ≤ g ∧ Value.ownBlock v = some g) | 12 => v = .pointer (some ⟨M, 0, none⟩) | 13 => v = .pointer (some ⟨M, 8, none⟩) | _ => True) w4 (Value.ownBlock (.slice ka kl kc)) 11 14 (fun k => match k with | 15 => u15 | 16 => u16 | 17 => u17 | 18 => u18 | 19 => u19 | 20 => u20 | 21 => u21 | 22 => u22 | 23 => u23 | 24 => u24 | 25 => u25 | 26 => u26 | 27 => u27 | 28 => u28 | _ => undef) (by rfl) (by kernel_rfl) (by rfl) ⟨by kernel_rfl, by kernel_rfl, by kernel_rfl, by decide⟩ (by kernel_rfl) (Below.refl _ _) ?hput ?hinj ?stB ?stA ?step ?last
          case hput =>
            intro i hi ua v
            match i, hi with
            | 0, _ => rfl
            | 1, _ => rfl
            | 2, _ => rfl
            | 3, _ => rfl
            | 4, _ => rfl
            | 5, _ => rfl
            | 6, _ => rfl
            | 7, _ => rfl
            | 8, _ => rfl
            | 9, _ => rfl
            | 10, _ => rfl
            | 11, _ => rfl
            | 12, _ => rfl
            | 13, _ => rfl
            | i + 14, hi => exact absurd hi (by omega)
          case hinj =>
            intro i j hi hj h
            exact slots_inj [15, 16, 17, 18, 19, 20, 21, 22, 23, 24, 25, 26, 27, 28] (by decide) hi hj h
          case stB =>
            intro i v w8 w9 hb h
            match i, h with
            | 0, h => exact h
            | 1, h => exact h
            | 2, h => exact h
            | 3, h => exact h
            | 4, h => exact h
            | 5, h => exact h
            | 6, h => exact h
            | 7, h => exact h
            | 8, h => exact h
            | 9, h => exact h
            | 10, h =>
              obtain ⟨gb, e1, e2, e3⟩ := h
              exact ⟨gb, e1, e2, keep hb e3⟩
            | 11, h => exact ⟨own_kept h.1 fun g hg => hb.block g (World.ownsRow.lt h.1 g hg).2, h.2⟩
            | 12, h => exact h
            | 13, h => exact h
            | _ + 14, h => trivial
          case stA =>
            intro i v w8 w9 hne hb hg h
            match i, hne, h with
            | 0, _, h => exact h
            | 1, _, h => exact h
            | 2, _, h => exact h
            | 3, _, h => exact h
            | 4, _, h => exact h
            | 5, _, h => exact h
            | 6, _, h => exact h
            | 7, _, h => exact h
            | 8, _, h => exact h
            | 9, _, h => exact h
            | 10, _, h =>
              obtain ⟨gb, e1, e2, e3⟩ := h
              exact ⟨gb, e1, e2, (World.cell?_of_block (a := ⟨gb, 0, none⟩) (hg.block gb (World.block_lt_of_cell? _ _ e3) (fun e => by have := HRl.out gb e.symm; omega))).trans e3⟩
            | 11, hne, h => exact absurd rfl hne
            | 12, _, h => exact h
            | 13, _, h => exact h
            | _ + 14, _, h => trivial
          case step =>
            intro i hi ua w8 S8 hq hdep
            match i, hi, hq, hdep with
            | 0, _, hq, hdep =>
              clear hdep
              refine ⟨_, rfl, fun K' hK => ?_⟩
              go_simp
              exact hK.out _ _ (drawnApp.grown_refl _ _) (fun _ => Below.refl _ _) rfl
            | 1, _, hq, hdep =>
              clear hdep
              refine ⟨_, rfl, fun K' hK => ?_⟩
              go_simp
              exact hK.out _ _ (drawnApp.grown_refl _ _) (fun _ => Below.refl _ _) rfl
            | 2, _, hq, hdep =>
              have h1 : (ua 16) = .pointer (some ⟨M, 0, none⟩) := hdep 1 (by kernel_rfl)
              clear hdep
              refine ⟨_, rfl, fun K' hK => ?_⟩
              simp only [h1] at hK ⊢
              go_simp
              exact hK.out _ _ (drawnApp.grown_refl _ _) (fun _ => Below.refl _ _) rfl
            | 3, _, hq, hdep =>
              have h2 : (ua 17) = .pointer (some ⟨M, 0, none⟩) := hdep 2 (by kernel_rfl)
              clear hdep
              refine ⟨_, rfl, fun K' hK => ?_⟩
              simp only [h2] at hK ⊢
              go_simp
              exact hK.out _ _ (drawnApp.grown_refl _ _) (fun _ => Below.refl _ _) rfl
            | 4, _, hq, hdep =>
              have h3 : (ua 18) = .pointer (some ⟨M, 8, none⟩) := hdep 3 (by kernel_rfl)
              clear hdep
              refine ⟨_, rfl, fun K' hK => ?_⟩
              obtain ⟨-, qc, -, -⟩ := HMc.out w8 S8
              simp only [h3] at hK ⊢
              go_simp
              exact hK.out _ _ (drawnApp.grown_refl _ _) (fun _ => Below.refl _ _) rfl
            | 5, _, hq, hdep =>
              clear hdep
              refine ⟨_, rfl, fun K' hK => ?_⟩
              go_simp
              exact hK.out _ _ (drawnApp.grown_refl _ _) (fun _ => Below.refl _ _) rfl
            | 6, _, hq, hdep =>
              have h5 : (ua 20) = .pointer (some ⟨M, 0, none⟩) := hdep 5 (by kernel_rfl)
              clear hdep
              refine ⟨_, rfl, fun K' hK => ?_⟩
              simp only [h5] at hK ⊢
              go_simp
              exact hK.out _ _ (drawnApp.grown_refl _ _) (fun _ => Below.refl _ _) rfl
            | 7, _, hq, hdep =>
              have h6 : (ua 21) = .pointer (some ⟨M, 0, none⟩) := hdep 6 (by kernel_rfl)
              clear hdep
              refine ⟨_, rfl, fun K' hK => ?_⟩
              simp only [h6] at hK ⊢
              go_simp
              exact hK.out _ _ (drawnApp.grown_refl _ _) (fun _ => Below.refl _ _) rfl
            | 8, _, hq, hdep =>
              have h7 : (ua 22) = .pointer (some ⟨M, 7, none⟩) := hdep 7 (by kernel_rfl)
              clear hdep
              refine ⟨_, rfl, fun K' hK => ?_⟩
              obtain ⟨qc, -, -, -⟩ := HMc.out w8 S8
              simp only [h7] at hK ⊢
              go_simp
              exact hK.out _ _ (drawnApp.grown_refl _ _) (fun _ => Below.refl _ _) rfl
            | 9, _, hq, hdep =>
              have h8 : (ua 23) = .slice ta tl tc := hdep 8 (by kernel_rfl)
              clear hdep
              refine ⟨_, rfl, fun K' hK => ?_⟩
              simp only [h8] at hK ⊢
              go_simp
              exact hK.out _ _ (drawnApp.grown_refl _ _) (fun _ => Below.refl _ _) rfl
            | 10, _, hq, hdep =>
              have h9 : (ua 24) = .int .i64 (tl : Int) := hdep 9 (by kernel_rfl)
              clear hdep
              refine ⟨_, rfl, fun K' hK => ?_⟩
              simp only [h9] at hK ⊢
              go_simp
              exact hK.out _ _ (drawnApp.grown_below (by repeat (first | exact Below.refl _ _ | assumption | refine Below.drew ?_ | refine Below.alloc ?_ (by first | exact Nat.le_refl _ | omega | (simp; done) | (simp; omega)) _ | refine Below.setCell ?_ (by first | exact Nat.le_refl _ | omega | (simp; done) | (simp; omega)) _))) (fun _ => (by repeat (first | exact Below.refl _ _ | assumption | refine Below.drew ?_ | refine Below.alloc ?_ (by first | exact Nat.le_refl _ | omega | (simp; done) | (simp; omega)) _ | refine Below.setCell ?_ (by first | exact Nat.le_refl _ | omega | (simp; done) | (simp; omega)) _))) ⟨w8.heap.size, rfl, S8.size, by simp [go_sem]⟩
            | 11, _, hq, hdep =>
              have h4 : (ua 19) = .slice ka kl kc := hdep 4 (by kernel_rfl)
              have h10 : ∃ gb, (ua 25) = .slice (some ⟨gb, 0, none⟩) 1 1 ∧ (World.heap w4).size ≤ gb ∧ World.cell? w8 ⟨gb, 0, none⟩ = some (.int .i64 (tl : Int)) := hdep 10 (by kernel_rfl)
              clear hdep
              refine ⟨_, rfl, fun K' hK => ?_⟩
              obtain ⟨gb, e10, hgb, hc10⟩ := h10
              refine step_append_at w8 rfl _ _ 36 rfl (some 26) rfl 0 3 i0 (.int .i64 0) 1 8 Tryd.underlying36 HI.out HZ0.out HZ1.out HZ2.out rfl (by decide) _ _ _ h4 (HOw.out w8 (hq rfl)) ⟨gb, 0, none⟩ 1 1 [.int .i64 (tl : Int)] e10 rfl (fun t y ht => by rw [Addr.add_lit]; cases t with | zero => (injection ht with ht; rw [← ht]; exact hc10) | succ t => (cases ht)) (fun y hy => by simp at hy; subst hy; rfl) (by unfold maxLen; omega) (by omega) (Nat.zero_le _) ?_
              intro v' w' hown hg hat
              refine hK.out v' w' hg (fun h => absurd rfl h) ⟨hown, ?_⟩
              rcases hat with hat | hat
              · exact .inl hat
              · exact .inr (.inr ⟨_, S8.size, hat⟩)
            | 12, _, hq, hdep =>
              have h0 : (ua 15) = .pointer (some ⟨M, 0, none⟩) := hdep 0 (by kernel_rfl)
              clear hdep
              refine ⟨_, rfl, fun K' hK => ?_⟩
              simp only [h0] at hK ⊢
              go_simp
              exact hK.out _ _ (drawnApp.grown_refl _ _) (fun _ => Below.refl _ _) rfl
            | 13, _, hq, hdep =>
              have h12 : (ua 27) = .pointer (some ⟨M, 0, none⟩) := hdep 12 (by kernel_rfl)
              clear hdep
              refine ⟨_, rfl, fun K' hK => ?_⟩
              simp only [h12] at hK ⊢
              go_simp
              exact hK.out _ _ (drawnApp.grown_refl _ _) (fun _ => Below.refl _ _) rfl
            | i + 14, hi, _, _ => exact absurd hi (by omega)
          case last =>
            intro ua w8 S8 hall
            have h11 : World.ownsRow w8 0 3 1 (ua 26) (kl + 1) (intsN p.K ++ [.int .i64 (tl : Int)]) ∧ (Value.ownBlock (ua 26) = Value.ownBlock (.slice ka kl kc) ∨ Value.ownBlock (ua 26) = none ∨ ∃ g, (World.heap w4).size ≤ g ∧ Value.ownBlock (ua 26) = some g) := hall 11 (by decide)
            have h13 : (ua 28) = .pointer (some ⟨M, 8, none⟩) := hall 13 (by decide)
            clear hall
            refine ⟨_, rfl, fun K' hK => ?_⟩
            obtain ⟨vn, hvn⟩ : ∃ vn, ua 26 = vn := ⟨_, rfl⟩
            rw [hvn] at h11
            obtain ⟨va, vc, e11⟩ := own_form h11.1
            subst e11
            obtain ⟨-, qc, qf, -⟩ := HMc.out w8 S8
            obtain ⟨Fb, qs1, qs2, qsf⟩ := HSt.out w8 va vc S8 h11.1 h11.2
            have HFb2 := hid qsf
            clear qsf
            have HSb := hid qs1
            have HCb := hid qs2
            clear qs1 qs2
            simp only [h13, hvn] at hK ⊢
            go_simp
            refine hK.out _ _ ?_
            clear h11 h13 hvn qc qf S8
            go_wp2_with fail
            refine (solHoldI.hold_impl M mbj Fb V2 (pushS p) _ HSb.out HSq4.out.nil x (-1) (push_full HCdp.out.full).ok (fun i hi => .inl ((push_full HCdp.out.full).st i hi)) HX.out ⟨by omega, by omega⟩ HX2.out ⟨by omega, by omega⟩ (show (pushS p).C.length ≤ 8000000000000 from HCl.out p rj HSq4.out.cr) (by show p.T.length ≤ _; rw [HTle.out]; omega)).mono ?_
            rintro e w9 ⟨rfl, F9, V9, hs9, hv9, hch9, _⟩
            obtain ⟨c1, c2, c3, c4⟩ := HCh.out
            have hx9 := hold_X (pushS p) x (-1)
            have hc9 := (hold_same (pushS p) x (-1)).1
            have HS9 : Hid (Srch n Z G B M mbj Crd F9 V9 (holdS (pushS p) x (-1)) gj rj w9) := hid ⟨hs9, hv9, c1, by rw [hx9]; exact HSq4.out.wg, HSq4.out.gg, HKp.out.go p _ rj HCdp.out.full HF.out HDp.out HSq4.out.cr (fun j _ => by rw [hx9]; rfl) (by rw [hc9]; rfl) (by rw [c3]; exact Nat.le_refl _) c1.full⟩
            have HA9 := hid c2
            have HC9 := hid ((HC4.out.next HCb.out).next hch9)
            have hcq := cd_prop (meas (holdS (pushS p) x (-1)) + 1) _ c1
            have HLt : Hid (left n rj (holdS (pushS p) x (-1)) < left n rj sj) := hid (by
              rw [HLp.out]
              exact left_choice c1.full c3 c4 (trail_most hcq.q hcq.stk.tr))
            clear hs9 hv9 hch9 c1 c2 c3 c4 hx9 hc9 hcq
            go_wp2
            go_roundg (left n rj (holdS (pushS p) x (-1)))
            case rel => exact ⟨mbj, F9, V9, _, gj, rj, HS9.out, HA9.out, HC9.out, Nat.le_refl _⟩
            case measure => exact Nat.lt_of_lt_of_le HLt.out HLe.out
    · have HF := hid hF
      have e9 : (p.F != -1) = true := by simp [hF]
      clear hF
      by_cases hK : kn = 0
      · have HK := hid hK
        have e8 : ((kn : Int) == 0) = true := by simp [hK]
        have e7 : (kn : Int) = 0 := by omega
        have HNo := hid (no_model HCdp.out HF.out (List.length_eq_zero_iff.1 (HKn.out.trans HK.out)))
        clear hK
        go_wp2
        refine bodyPost_ret (v := .bool false) (by simp [results, Tryd.results24, go_sem]) rfl ⟨false, mbj, F2, V2, p, gj, rj, rfl, HSr.out, HCp.out, fun h => (by cases h), fun _ ⟨H, h1, h2, _⟩ => HNo.out ⟨H, h1, h2⟩⟩
      · have HK := hid hK
        have e8 : ((kn : Int) == 0) = false := by simp; omega
        have e7 : ¬ (kn : Int) = 0 := by omega
        clear hK
        go_wp2_with fail
        refine (HLn'.out mbj F2 V2 p _ gj rj HSr.out HF.out (fun e => HK.out (by rw [← HKn.out, e]; rfl))).mono ?_
        rintro e w3 ⟨rfl, mb3, F3, V3, s3, g3, r3, hs3, hch3, has3, hr3⟩
        have HS3 := hid hs3
        have HC3 := hid (HCp.out.trans hch3)
        have HA3 := hid (has3 l HAp.out)
        have hQ := num_lt hs3.cd.q hs3.cd.stk.tr
        have hcq := cd_prop (meas s3 + 1) s3 hs3.cd
        have hqq := num_lt hcq.q hcq.stk.tr
        have HLt : Hid (left n r3 s3 < left n rj sj) := hid (by
          rw [HLp.out]
          exact left_less hr3 hqq (trail_most HCdp.out.q HCdp.out.stk.tr))
        clear hs3 hch3 has3 hr3 hQ hcq hqq
        go_wp2
        go_roundg (left n r3 s3)
        case rel => exact ⟨mb3, F3, V3, s3, g3, r3, HS3.out, HA3.out, HC3.out, Nat.le_refl _⟩
        case measure => exact Nat.lt_of_lt_of_le HLt.out HLe.out
end Go.Proofs.YtbahjpheaaiamaaDoor.solSolve
