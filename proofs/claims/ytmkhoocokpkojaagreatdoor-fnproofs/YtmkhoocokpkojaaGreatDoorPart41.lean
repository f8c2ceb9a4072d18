import Derived.Test.YtmkhoocokpkojaaGreatDoorPart31
import Derived.Test.YtmkhoocokpkojaaGreatDoorSolSupI
import Derived.Test.YtmkhoocokpkojaaGreatDoorSolBackI
import Derived.Test.YtmkhoocokpkojaaGreatDoorPart9
namespace Go.Proofs.YtmkhoocokpkojaaGreatDoor.chkRup
open Go.RowKit Go.Deep Go.Maps Go base sets setsOf solSets solOps solMath solHold solMem solAddI solClose solTrail solBackI solSupI chkNew chkMath
set_option linter.unusedVariables false
set_option linter.unusedSimpArgs false
theorem always_impl (a b : Nat) (w : World) (ha : a < 18446744073709551616) (hb : b < 18446744073709551616) :
  Calls Tryz.prog 67 #[.agg #[.int .u64 a, .int .u64 b]] w fun e w' => e = .returned (.bool (meetL (a, b) (turnL (a, b)))) ∧ Below w.heap.size w w' := by
 have HT := hid (fun w : World => turned_impl a b w)
 have HM : Hid (∀ w : World, Calls Tryz.prog 71 #[.agg #[.int .u64 a, .int .u64 b], .agg #[.int .u64 b, .int .u64 a]] w fun e w' => e = .returned (.bool (meetL (a, b) (turnL (a, b)))) ∧ Below w.heap.size w w') := hid (fun w => meets_impl a b b a w ha hb hb ha)
 generalize meetL (a, b) (turnL (a, b)) = m at *
 go_enter Tryz.func67, Tryz.ntmps67
 go_wp2_with fail
 go_region_with (first
  | (go_at_call 69; refine (HT.out _).mono ?_; rintro e1 w1 ⟨rfl, hb1⟩; have HB1 := hid ((show Below w.heap.size w _ from (by repeat (first | exact Below.refl _ _ | assumption | refine netSem.bdn ?_ _ | refine Below.drew ?_ | refine Below.alloc ?_ (by first | exact Nat.le_refl _ | omega | (simp; done) | (simp; omega)) _))).trans (hb1.mono (by simp))); have c0 : w1.cell? ⟨w.heap.size, 0, none⟩ = some (.int .u64 a) := keep hb1 (by simp [go_sem]); have c1 : w1.cell? ⟨w.heap.size, 1, none⟩ = some (.int .u64 b) := keep hb1 (by simp [go_sem]); clear hb1)
  | (go_at_call 71; refine (HM.out _).mono ?_; rintro e2 w2 ⟨rfl, hb2⟩; have HB2 := hid (HB1.out.trans (hb2.mono HB1.out.size)); clear hb2))
 all_goals
  go_wp2
  go_ret
  exact ⟨rfl, HB2.out⟩
set_option maxHeartbeats 3200000 in
set_option maxRecDepth 8000 in
theorem isRup_impl (M mb : Nat) (F : Nat → Value) (V : Int → Value) (cs : List LS) (s : Sv) (w : World) (h : Sol 0 M mb F V s w) (hv0 : V 0 = nilV) (hk : Chk cs s) (hlen : cs.length ≤ 8000000000000) (C1 C2 : Nat) (hc : Wf (C1, C2)) :
  Calls Tryz.prog 44 #[.pointer (some ⟨M, 0, none⟩), .agg #[.int .u64 C1, .int .u64 C2]] w fun e w' => e = .returned (.bool (rupS s (C1, C2)).2) ∧ ∃ F' V', Sol 0 M mb F' V' (rupS s (C1, C2)).1 w' ∧ V' 0 = nilV ∧ Chg M mb (blk 0 F V) (blk 0 F' V') w w' ∧ F' 2 = F 2 := by
 have HS := hid h
 have HV0 := hid hv0
 have HK := hid hk
 have hcl := hc.lt
 dsimp only at hcl
 have HAl := hid (fun w : World => always_impl C1 C2 w hcl.1 hcl.2)
 have HTu := hid (fun w : World => turned_impl C1 C2 w)
 obtain ⟨m, hm⟩ : ∃ m, meetL (C1, C2) (turnL (C1, C2)) = m := ⟨_, rfl⟩
 rw [hm] at HAl
 have HM := hid hm
 have hMl := h.lt.1
 have k10 := h.cell (i := 10) (by omega)
 rw [h.f10] at k10
 obtain ⟨f, hf⟩ : ∃ f, s.F = f := ⟨_, rfl⟩
 rw [hf] at k10
 have HF := hid hf
 have hCl : s.C.length ≤ 8000000000000 := by rw [hk.C]; exact hlen
 have HWc := hid hc
 clear h hv0 hk hcl hm hf hc
 by_cases hF : f = -1
 · have d1 : (f == -1) = true := by simp [hF]
   have d2 : (f != -1) = false := by simp [hF]
   cases m with
   | true =>
    have HR : Hid (rupS s (C1, C2) = (s, true)) := hid (by unfold rupS; rw [if_pos (.inr HM.out)])
    clear hF
    go_enter Tryz.func44, Tryz.ntmps44
    go_wp2_with fail
    refine (HAl.out _).mono ?_
    rintro e w1 ⟨rfl, hb1⟩
    have HB1 := hid ((show Below w.heap.size w _ from (by repeat (first | exact Below.refl _ _ | assumption | refine Below.drew ?_ | refine Below.alloc ?_ (by first | exact Nat.le_refl _ | omega | (simp; done) | (simp; omega)) _ | refine Below.setCell ?_ (by first | exact Nat.le_refl _ | omega | (simp; done) | (simp; omega)) _))).trans (hb1.mono (by simp)))
    clear hb1
    go_wp2_with fail
    go_ret
    rw [HR.out]
    exact ⟨rfl, F, V, HS.out.below HB1.out, HV0.out, Chg.below HB1.out, rfl⟩
   | false =>
    have hsF : s.F = -1 := HF.out.trans hF
    have hsD : s.D = [] := HK.out.still.resolve_left (fun e => e hsF)
    have hmm : ¬ meetL (C1, C2) (turnL (C1, C2)) = true := by rw [HM.out]; decide
    have HSu := hid (fun (W : World) (h : Sol 0 M mb F V s W) => suppose_impl (0, 0) M mb F V s W h HV0.out HK.out.full hsF hsD HK.out.stk C2 C1 (wf_turn HWc.out) (turn_cons HWc.out hmm) hCl (by rw [HK.out.K]; simp))
    obtain ⟨a1, a2, a3, a4, a5, ⟨T', a6⟩, a7, _⟩ := sup_spec HK.out.full hsF hsD HK.out.stk (wf_turn HWc.out) (turn_cons HWc.out hmm)
    have HR : Hid (rupS s (C1, C2) = (backS (supS s (C2, C1)).1 0, (supS s (C2, C1)).2)) := hid (by unfold rupS; rw [if_neg (by rintro (e | e); exact e hsF; exact hmm e)]; rfl)
    have e12 : turnL (C1, C2) = (C2, C1) := rfl
    rw [e12] at a1 a2 a3 a4 a5 a6 a7
    obtain ⟨⟨s2, b2⟩, hs2⟩ : ∃ q, supS s (C2, C1) = q := ⟨_, rfl⟩
    rw [hs2] at a1 a2 a5 a6 HSu HR
    dsimp only at a1 a2 a5 a6 HSu HR
    rw [HK.out.K, List.nil_append] at a5
    have hfr := fresh_range _ _ a2.tr.fresh
    have hfm := fresh_most a2.tr.fresh
    have HBk := hid (fun (W : World) F' V' (h : Sol 0 M mb F' V' s2 W) => back_impl M mb F' V' s2 W h a1.ok.wfH 0 (Nat.zero_le _) (fun _ => by
     have hkm : s2.K[0]?.getD 0 = s.T.length := by rw [a5]; rfl
     rw [hkm, a6]; simp) hfr (by omega) (by rw [a5]; simp))
    clear hF hsF hsD hmm a1 a2 a3 a4 a5 a6 a7 e12 hs2 hfr hfm
    go_enter Tryz.func44, Tryz.ntmps44
    go_wp2_with fail
    refine (HAl.out _).mono ?_
    rintro e w1 ⟨rfl, hb1⟩
    have HB1 := hid ((show Below w.heap.size w _ from (by repeat (first | exact Below.refl _ _ | assumption | refine Below.drew ?_ | refine Below.alloc ?_ (by first | exact Nat.le_refl _ | omega | (simp; done) | (simp; omega)) _ | refine Below.setCell ?_ (by first | exact Nat.le_refl _ | omega | (simp; done) | (simp; omega)) _))).trans (hb1.mono (by simp)))
    have c0 : w1.cell? ⟨w.heap.size, 0, none⟩ = some (.int .u64 C1) := keep hb1 (by simp [go_sem])
    have c1 : w1.cell? ⟨w.heap.size, 1, none⟩ = some (.int .u64 C2) := keep hb1 (by simp [go_sem])
    clear hb1
    go_wp2_with fail
    refine (HTu.out _).mono ?_
    rintro e w2 ⟨rfl, hb2⟩
    have HB2 := hid (HB1.out.trans (hb2.mono HB1.out.size))
    clear hb2 c0 c1
    go_wp2_with fail
    refine (HSu.out _ (HS.out.below HB2.out)).mono ?_
    rintro e w3 ⟨rfl, F3, V3, q1, qv, q2, qf⟩
    have HF3 := hid qf
    clear qf
    have HQ3 := hid q1
    have HV3 := hid qv
    have HC3 := hid ((Chg.below HB2.out).trans q2)
    clear q1 qv q2
    go_wp2_with fail
    refine (HBk.out _ F3 V3 HQ3.out).mono ?_
    rintro e w4 ⟨rfl, F4, q1, q2, qf⟩
    have HF4 := hid (qf.trans HF3.out)
    clear qf
    have HQ4 := hid q1
    have HC4 := hid (HC3.out.trans q2)
    clear q1 q2
    go_wp2_with fail
    go_ret
    rw [HR.out]
    exact ⟨rfl, F4, V3, HQ4.out, HV3.out, HC4.out, HF4.out⟩
 · have d1 : (f == -1) = false := by simp [hF]
   have d2 : (f != -1) = true := by simp [hF]
   have HR : Hid (rupS s (C1, C2) = (s, true)) := hid (by unfold rupS; rw [if_pos (.inl (by rw [HF.out]; exact hF))])
   go_enter Tryz.func44, Tryz.ntmps44
   go_wp2_with fail
   go_ret
   rw [HR.out]
   exact ⟨rfl, F, V, HS.out.below (by repeat (first | exact Below.refl _ _ | assumption | refine netSem.bdn ?_ _ | refine Below.drew ?_ | refine Below.alloc ?_ (by first | exact Nat.le_refl _ | omega | (simp; done) | (simp; omega)) _)), HV0.out, Chg.below (by repeat (first | exact Below.refl _ _ | assumption | refine netSem.bdn ?_ _ | refine Below.drew ?_ | refine Below.alloc ?_ (by first | exact Nat.le_refl _ | omega | (simp; done) | (simp; omega)) _)), rfl⟩
end Go.Proofs.YtmkhoocokpkojaaGreatDoor.chkRup
namespace Go.Proofs.YtmkhoocokpkojaaGreatDoor.drawnSeq
open Go Go.RowKit heldStore drawn drawnLin
set_option linter.unusedVariables false
variable {P : Program} {ops : Array Oper} {Q : Exit → Act → World → Prop}
theorem region_seq {id : Nat} {a : Act} {w : World} (A : (Nat → Value) → Act) (s : Nat → Nat) (φ : Nat → Value → World → Prop) (ψ : Value → World → Prop) (W : World) (n : Nat) (con : List Nat) (u0 : Nat → Value) (ha : a = A u0)
  (hm : P.follows .mixedOrders = true) (hz : ops.size = n + 2) (hE : LastOf ops (n + 1)) (hup : upB ops = true) (hch : chainB ops con n = true) (hW : Below W.heap.size W w)
  (hput : ∀ i, i < n + 1 → ∀ u v, (A u).put (some (s i)) v = A (upd u (s i) v)) (hinj : ∀ i j, i < n + 1 → j < n + 1 → s i = s j → i = j)
  (stable : ∀ i v w w', Below w.heap.size w w' → φ i v w → φ i v w')
  (step : ∀ i, i < n → ∀ u w, Below W.heap.size W w → (∀ j, Region.waitsFor .any ops i j = true → φ j (u (s j)) w) → ∃ o, ops[i]? = some o ∧ ∀ K' : Act → World → Prop, Shut (∀ v w', Below w.heap.size w w' → φ i v w' → K' ((A u).put (some (s i)) v) w') → if Region.wanted o (yielded ops (A u).tmps) = true then Oper.wp P o (A u) w K' Q else K' ((A u).put o.dst undef) w)
  (pre : ∀ u w, Below W.heap.size W w → (∀ j, j < n → φ j (u (s j)) w) → ∃ o, ops[n]? = some o ∧ ∀ K' : Act → World → Prop, Shut (∀ v w', ψ v w' → K' ((A u).put (some (s n)) v) w') → if Region.wanted o (yielded ops (A u).tmps) = true then Oper.wp P o (A u) w K' Q else K' ((A u).put o.dst undef) w)
  (last : ∀ u w, ψ (u (s n)) w → ∃ o, ops[n + 1]? = some o ∧ ∀ K' : Act → World → Prop, Shut (∀ a w, Q .normal a w → K' a w) → if Region.wanted o (yielded ops (A u).tmps) = true then Oper.wp P o (A u) w K' Q else K' ((A u).put o.dst undef) w) :
  (Code.region id ops true).wp P Q a w := by
 have lt : ∀ i j, Region.waitsFor .any ops i j = true → j < i := fun i j hj => by
  obtain ⟨oj, hoj, e, he, hb, hon⟩ := Region.waitsFor_spec hj
  have h5 := upB_spec hup hoj e he
  rw [hon] at h5
  exact h5
 have hcon : ∀ j, j < n → j < con.getD j 0 ∧ con.getD j 0 ≤ n ∧ Region.waitsFor .any ops (con.getD j 0) j = true := fun j hj => by
  have h3 := List.all_eq_true.1 hch j (List.mem_range.2 hj)
  simp only [Bool.and_eq_true, decide_eq_true_eq] at h3
  exact ⟨h3.1.1, h3.1.2, h3.2⟩
 refine region_all A s (fun L u w => (∀ j k, L j = true → Region.waitsFor .any ops j k = true → L k = true) ∧ (L n = true → ψ (u (s n)) w) ∧ (L n = false → Below W.heap.size W w ∧ ∀ j, j < n → L j = true → φ j (u (s j)) w)) (n + 1) u0 ha hm hz hE hup ⟨fun j k h => (by cases h), fun h => (by cases h), fun _ => ⟨hW.drew, fun j _ h => (by cases h)⟩⟩ hput ?_ ?_
 · intro i hi L u w8 hLi hwait hI
   obtain ⟨hcl, hdone, hopen⟩ := hI
   have hcl' : ∀ j k, come L i j = true → Region.waitsFor .any ops j k = true → come L i k = true := by
    intro j k hj hw
    by_cases e : j = i
    · subst e; exact come_old (hwait k hw)
    · rw [come_ne e] at hj
      exact come_old (hcl j k hj hw)
   have hLn : L n = false := by
    by_cases hin : i < n
    · cases hb : L n with
      | false => rfl
      | true => rw [chain_all hch hcl hb (n - i) i (Nat.le_refl _) hin] at hLi; cases hLi
    · have e : i = n := by omega
      rw [← e]; exact hLi
   obtain ⟨hS8, hφ⟩ := hopen hLn
   by_cases hin : i < n
   · obtain ⟨o, ho, h⟩ := step i hin u w8 hS8 (fun j hj => hφ j (by have := lt i j hj; omega) (hwait j hj))
     refine ⟨o, ho, fun K' hK => h K' fun v w' hb hv => hK.out v w' ⟨hcl', fun h1 => ?_, fun _ => ⟨hS8.trans (hb.mono hS8.size), fun j hj hl => ?_⟩⟩⟩
     · rw [come_ne (by omega), hLn] at h1; cases h1
     · by_cases e : j = i
       · subst e; rw [upd_same]; exact hv
       · rw [come_ne e] at hl
         rw [upd_ne _ _ (fun e' => e (hinj j i (by omega) hi e'))]
         exact stable j _ _ _ hb (hφ j hj hl)
   · have e : i = n := by omega
     subst e
     have hall : ∀ j, j < i → L j = true := by
      have : ∀ d j, i - j ≤ d → j < i → L j = true := by
       intro d
       induction d with
       | zero => intro j h1 h2; omega
       | succ d ih =>
        intro j h1 h2
        obtain ⟨c1, c2, c3⟩ := hcon j h2
        by_cases ec : con.getD j 0 = i
        · rw [ec] at c3; exact hwait j c3
        · exact hcl _ _ (ih (con.getD j 0) (by omega) (by omega)) c3
      exact fun j hj => this (i - j) j (Nat.le_refl _) hj
     obtain ⟨o, ho, h⟩ := pre u w8 hS8 (fun j hj => hφ j hj (hall j hj))
     refine ⟨o, ho, fun K' hK => h K' fun v w' hv => hK.out v w' ⟨hcl', fun _ => ?_, fun h1 => ?_⟩⟩
     · rw [upd_same]; exact hv
     · rw [come_same] at h1; cases h1
 · intro L u w8 hall hI
   exact last u w8 (hI.2.1 (hall n (by omega)))
theorem region_two {id : Nat} {a : Act} {w : World} (A : (Nat → Value) → Act) (s : Nat → Nat) (φ : Nat → Value → World → Prop) (ψ : (Nat → Value) → World → Prop) (W : World) (n : Nat) (con : List Nat) (u0 : Nat → Value) (ha : a = A u0)
  (hm : P.follows .mixedOrders = true) (hz : ops.size = n + 2) (hE : LastOf ops (n + 1)) (hup : upB ops = true) (hch : chainB ops con n = true) (hW : Below W.heap.size W w)
  (hput : ∀ i, i < n + 1 → ∀ u v, (A u).put (some (s i)) v = A (upd u (s i) v)) (hinj : ∀ i j, i < n + 1 → j < n + 1 → s i = s j → i = j)
  (stable : ∀ i v w w', Below w.heap.size w w' → φ i v w → φ i v w')
  (step : ∀ i, i < n → ∀ u w, Below W.heap.size W w → (∀ j, Region.waitsFor .any ops i j = true → φ j (u (s j)) w) → ∃ o, ops[i]? = some o ∧ ∀ K' : Act → World → Prop, Shut (∀ v w', Below w.heap.size w w' → φ i v w' → K' ((A u).put (some (s i)) v) w') → if Region.wanted o (yielded ops (A u).tmps) = true then Oper.wp P o (A u) w K' Q else K' ((A u).put o.dst undef) w)
  (pre : ∀ u w, Below W.heap.size W w → (∀ j, j < n → φ j (u (s j)) w) → ∃ o, ops[n]? = some o ∧ ∀ K' : Act → World → Prop, Shut (∀ v w', ψ (upd u (s n) v) w' → K' ((A u).put (some (s n)) v) w') → if Region.wanted o (yielded ops (A u).tmps) = true then Oper.wp P o (A u) w K' Q else K' ((A u).put o.dst undef) w)
  (last : ∀ u w, ψ u w → ∃ o, ops[n + 1]? = some o ∧ ∀ K' : Act → World → Prop, Shut (∀ a w, Q .normal a w → K' a w) → if Region.wanted o (yielded ops (A u).tmps) = true then Oper.wp P o (A u) w K' Q else K' ((A u).put o.dst undef) w) :
  (Code.region id ops true).wp P Q a w := by
 have lt : ∀ i j, Region.waitsFor .any ops i j = true → j < i := fun i j hj => by
  obtain ⟨oj, hoj, e, he, hb, hon⟩ := Region.waitsFor_spec hj
  have h5 := upB_spec hup hoj e he
  rw [hon] at h5
  exact h5
 have hcon : ∀ j, j < n → j < con.getD j 0 ∧ con.getD j 0 ≤ n ∧ Region.waitsFor .any ops (con.getD j 0) j = true := fun j hj => by
  have h3 := List.all_eq_true.1 hch j (List.mem_range.2 hj)
  simp only [Bool.and_eq_true, decide_eq_true_eq] at h3
  exact ⟨h3.1.1, h3.1.2, h3.2⟩
 refine region_all A s (fun L u w => (∀ j k, L j = true → Region.waitsFor .any ops j k = true → L k = true) ∧ (L n = true → ψ u w) ∧ (L n = false → Below W.heap.size W w ∧ ∀ j, j < n → L j = true → φ j (u (s j)) w)) (n + 1) u0 ha hm hz hE hup ⟨fun j k h => (by cases h), fun h => (by cases h), fun _ => ⟨hW.drew, fun j _ h => (by cases h)⟩⟩ hput ?_ ?_
 · intro i hi L u w8 hLi hwait hI
   obtain ⟨hcl, hdone, hopen⟩ := hI
   have hcl' : ∀ j k, come L i j = true → Region.waitsFor .any ops j k = true → come L i k = true := by
    intro j k hj hw
    by_cases e : j = i
    · subst e; exact come_old (hwait k hw)
    · rw [come_ne e] at hj
      exact come_old (hcl j k hj hw)
   have hLn : L n = false := by
    by_cases hin : i < n
    · cases hb : L n with
      | false => rfl
      | true => rw [chain_all hch hcl hb (n - i) i (Nat.le_refl _) hin] at hLi; cases hLi
    · have e : i = n := by omega
      rw [← e]; exact hLi
   obtain ⟨hS8, hφ⟩ := hopen hLn
   by_cases hin : i < n
   · obtain ⟨o, ho, h⟩ := step i hin u w8 hS8 (fun j hj => hφ j (by have := lt i j hj; omega) (hwait j hj))
     refine ⟨o, ho, fun K' hK => h K' fun v w' hb hv => hK.out v w' ⟨hcl', fun h1 => ?_, fun _ => ⟨hS8.trans (hb.mono hS8.size), fun j hj hl => ?_⟩⟩⟩
     · rw [come_ne (by omega), hLn] at h1; cases h1
     · by_cases e : j = i
       · subst e; rw [upd_same]; exact hv
       · rw [come_ne e] at hl
         rw [upd_ne _ _ (fun e' => e (hinj j i (by omega) hi e'))]
         exact stable j _ _ _ hb (hφ j hj hl)
   · have e : i = n := by omega
     subst e
     have hall : ∀ j, j < i → L j = true := by
      have : ∀ d j, i - j ≤ d → j < i → L j = true := by
       intro d
       induction d with
       | zero => intro j h1 h2; omega
       | succ d ih =>
        intro j h1 h2
        obtain ⟨c1, c2, c3⟩ := hcon j h2
        by_cases ec : con.getD j 0 = i
        · rw [ec] at c3; exact hwait j c3
        · exact hcl _ _ (ih (con.getD j 0) (by omega) (by omega)) c3
      exact fun j hj => this (i - j) j (Nat.le_refl _) hj
     obtain ⟨o, ho, h⟩ := pre u w8 hS8 (fun j hj => hφ j hj (hall j hj))
     refine ⟨o, ho, fun K' hK => h K' fun v w' hv => hK.out v w' ⟨hcl', fun _ => ?_, fun h1 => ?_⟩⟩
     · exact hv
     · rw [come_same] at h1; cases h1
 · intro L u w8 hall hI
   exact last u w8 (hI.2.1 (hall n (by omega)))
theorem region_duo {id : Nat} {a : Act} {w : World} (A : (Nat → Value) → Act) (s : Nat → Nat) (φ : Nat → Value → World → Prop) (J : (Nat → Bool) → (Nat → Value) → World → Prop) (ψ : (Nat → Value) → World → Prop) (W : World) (n : Nat) (con : List Nat) (u0 : Nat → Value) (ha : a = A u0)
  (hm : P.follows .mixedOrders = true) (hz : ops.size = n + 2) (hE : LastOf ops (n + 1)) (hup : upB ops = true) (hch : chainB ops con n = true) (hW : Below W.heap.size W w) (hJ : J (fun _ => false) u0 w.drew)
  (hput : ∀ i, i < n + 1 → ∀ u v, (A u).put (some (s i)) v = A (upd u (s i) v)) (hinj : ∀ i j, i < n + 1 → j < n + 1 → s i = s j → i = j)
  (stable : ∀ i v w w', Below w.heap.size w w' → φ i v w → φ i v w')
  (step : ∀ i, i < n → ∀ L u w, L i = false → J L u w → Below W.heap.size W w → (∀ j, Region.waitsFor .any ops i j = true → φ j (u (s j)) w) → ∃ o, ops[i]? = some o ∧ ∀ K' : Act → World → Prop, Shut (∀ v w', Below w.heap.size w w' → φ i v w' → J (come L i) (upd u (s i) v) w' → K' ((A u).put (some (s i)) v) w') → if Region.wanted o (yielded ops (A u).tmps) = true then Oper.wp P o (A u) w K' Q else K' ((A u).put o.dst undef) w)
  (pre : ∀ L u w, (∀ j, j < n → L j = true) → J L u w → Below W.heap.size W w → (∀ j, j < n → φ j (u (s j)) w) → ∃ o, ops[n]? = some o ∧ ∀ K' : Act → World → Prop, Shut (∀ v w', ψ (upd u (s n) v) w' → K' ((A u).put (some (s n)) v) w') → if Region.wanted o (yielded ops (A u).tmps) = true then Oper.wp P o (A u) w K' Q else K' ((A u).put o.dst undef) w)
  (last : ∀ u w, ψ u w → ∃ o, ops[n + 1]? = some o ∧ ∀ K' : Act → World → Prop, Shut (∀ a w, Q .normal a w → K' a w) → if Region.wanted o (yielded ops (A u).tmps) = true then Oper.wp P o (A u) w K' Q else K' ((A u).put o.dst undef) w) :
  (Code.region id ops true).wp P Q a w := by
 have lt : ∀ i j, Region.waitsFor .any ops i j = true → j < i := fun i j hj => by
  obtain ⟨oj, hoj, e, he, hb, hon⟩ := Region.waitsFor_spec hj
  have h5 := upB_spec hup hoj e he
  rw [hon] at h5
  exact h5
 have hcon : ∀ j, j < n → j < con.getD j 0 ∧ con.getD j 0 ≤ n ∧ Region.waitsFor .any ops (con.getD j 0) j = true := fun j hj => by
  have h3 := List.all_eq_true.1 hch j (List.mem_range.2 hj)
  simp only [Bool.and_eq_true, decide_eq_true_eq] at h3
  exact ⟨h3.1.1, h3.1.2, h3.2⟩
 refine region_all A s (fun L u w => (∀ j k, L j = true → Region.waitsFor .any ops j k = true → L k = true) ∧ (L n = true → ψ u w) ∧ (L n = false → Below W.heap.size W w ∧ J L u w ∧ ∀ j, j < n → L j = true → φ j (u (s j)) w)) (n + 1) u0 ha hm hz hE hup ⟨fun j k h => (by cases h), fun h => (by cases h), fun _ => ⟨hW.drew, hJ, fun j _ h => (by cases h)⟩⟩ hput ?_ ?_
 · intro i hi L u w8 hLi hwait hI
   obtain ⟨hcl, hdone, hopen⟩ := hI
   have hcl' : ∀ j k, come L i j = true → Region.waitsFor .any ops j k = true → come L i k = true := by
    intro j k hj hw
    by_cases e : j = i
    · subst e; exact come_old (hwait k hw)
    · rw [come_ne e] at hj
      exact come_old (hcl j k hj hw)
   have hLn : L n = false := by
    by_cases hin : i < n
    · cases hb : L n with
      | false => rfl
      | true => rw [chain_all hch hcl hb (n - i) i (Nat.le_refl _) hin] at hLi; cases hLi
    · have e : i = n := by omega
      rw [← e]; exact hLi
   obtain ⟨hS8, hJ8, hφ⟩ := hopen hLn
   by_cases hin : i < n
   · obtain ⟨o, ho, h⟩ := step i hin L u w8 hLi hJ8 hS8 (fun j hj => hφ j (by have := lt i j hj; omega) (hwait j hj))
     refine ⟨o, ho, fun K' hK => h K' fun v w' hb hv hj9 => hK.out v w' ⟨hcl', fun h1 => ?_, fun _ => ⟨hS8.trans (hb.mono hS8.size), hj9, fun j hj hl => ?_⟩⟩⟩
     · rw [come_ne (by omega), hLn] at h1; cases h1
     · by_cases e : j = i
       · subst e; rw [upd_same]; exact hv
       · rw [come_ne e] at hl
         rw [upd_ne _ _ (fun e' => e (hinj j i (by omega) hi e'))]
         exact stable j _ _ _ hb (hφ j hj hl)
   · have e : i = n := by omega
     subst e
     have hall : ∀ j, j < i → L j = true := by
      have : ∀ d j, i - j ≤ d → j < i → L j = true := by
       intro d
       induction d with
       | zero => intro j h1 h2; omega
       | succ d ih =>
        intro j h1 h2
        obtain ⟨c1, c2, c3⟩ := hcon j h2
        by_cases ec : con.getD j 0 = i
        · rw [ec] at c3; exact hwait j c3
        · exact hcl _ _ (ih (con.getD j 0) (by omega) (by omega)) c3
      exact fun j hj => this (i - j) j (Nat.le_refl _) hj
     obtain ⟨o, ho, h⟩ := pre L u w8 hall hJ8 hS8 (fun j hj => hφ j hj (hall j hj))
     refine ⟨o, ho, fun K' hK => h K' fun v w' hv => hK.out v w' ⟨hcl', fun _ => ?_, fun h1 => ?_⟩⟩
     · exact hv
     · rw [come_same] at h1; cases h1
 · intro L u w8 hall hI
   exact last u w8 (hI.2.1 (hall n (by omega)))
theorem region_tri {id : Nat} {a : Act} {w : World} (A : (Nat → Value) → Act) (s : Nat → Nat) (φ : Nat → Value → World → Prop) (ψ ψ2 : (Nat → Value) → World → Prop) (W : World) (n : Nat) (con : List Nat) (u0 : Nat → Value) (ha : a = A u0)
  (hm : P.follows .mixedOrders = true) (hz : ops.size = n + 3) (hE : LastOf ops (n + 2)) (hup : upB ops = true) (hmid : Region.waitsFor .any ops (n + 1) n = true) (hch : chainB ops con n = true) (hW : Below W.heap.size W w)
  (hput : ∀ i, i < n + 2 → ∀ u v, (A u).put (some (s i)) v = A (upd u (s i) v)) (hinj : ∀ i j, i < n + 2 → j < n + 2 → s i = s j → i = j)
  (stable : ∀ i v w w', Below w.heap.size w w' → φ i v w → φ i v w')
  (step : ∀ i, i < n → ∀ u w, Below W.heap.size W w → (∀ j, Region.waitsFor .any ops i j = true → φ j (u (s j)) w) → ∃ o, ops[i]? = some o ∧ ∀ K' : Act → World → Prop, Shut (∀ v w', Below w.heap.size w w' → φ i v w' → K' ((A u).put (some (s i)) v) w') → if Region.wanted o (yielded ops (A u).tmps) = true then Oper.wp P o (A u) w K' Q else K' ((A u).put o.dst undef) w)
  (pre : ∀ u w, Below W.heap.size W w → (∀ j, j < n → φ j (u (s j)) w) → ∃ o, ops[n]? = some o ∧ ∀ K' : Act → World → Prop, Shut (∀ v w', ψ (upd u (s n) v) w' → K' ((A u).put (some (s n)) v) w') → if Region.wanted o (yielded ops (A u).tmps) = true then Oper.wp P o (A u) w K' Q else K' ((A u).put o.dst undef) w)
  (mid : ∀ u w, ψ u w → ∃ o, ops[n + 1]? = some o ∧ ∀ K' : Act → World → Prop, Shut (∀ v w', ψ2 (upd u (s (n + 1)) v) w' → K' ((A u).put (some (s (n + 1))) v) w') → if Region.wanted o (yielded ops (A u).tmps) = true then Oper.wp P o (A u) w K' Q else K' ((A u).put o.dst undef) w)
  (last : ∀ u w, ψ2 u w → ∃ o, ops[n + 2]? = some o ∧ ∀ K' : Act → World → Prop, Shut (∀ a w, Q .normal a w → K' a w) → if Region.wanted o (yielded ops (A u).tmps) = true then Oper.wp P o (A u) w K' Q else K' ((A u).put o.dst undef) w) :
  (Code.region id ops true).wp P Q a w := by
 have lt : ∀ i j, Region.waitsFor .any ops i j = true → j < i := fun i j hj => by
  obtain ⟨oj, hoj, e, he, hb, hon⟩ := Region.waitsFor_spec hj
  have h5 := upB_spec hup hoj e he
  rw [hon] at h5
  exact h5
 have hcon : ∀ j, j < n → j < con.getD j 0 ∧ con.getD j 0 ≤ n ∧ Region.waitsFor .any ops (con.getD j 0) j = true := fun j hj => by
  have h3 := List.all_eq_true.1 hch j (List.mem_range.2 hj)
  simp only [Bool.and_eq_true, decide_eq_true_eq] at h3
  exact ⟨h3.1.1, h3.1.2, h3.2⟩
 refine region_all A s (fun L u w => (∀ j k, L j = true → Region.waitsFor .any ops j k = true → L k = true) ∧ (L (n + 1) = true → ψ2 u w) ∧ (L n = true → L (n + 1) = false → ψ u w) ∧ (L n = false → Below W.heap.size W w ∧ ∀ j, j < n → L j = true → φ j (u (s j)) w)) (n + 2) u0 ha hm hz hE hup ⟨fun j k h => (by cases h), fun h => (by cases h), fun h => (by cases h), fun _ => ⟨hW.drew, fun j _ h => (by cases h)⟩⟩ hput ?_ ?_
 · intro i hi L u w8 hLi hwait hI
   obtain ⟨hcl, hend, hdone, hopen⟩ := hI
   have hcl' : ∀ j k, come L i j = true → Region.waitsFor .any ops j k = true → come L i k = true := by
    intro j k hj hw
    by_cases e : j = i
    · subst e; exact come_old (hwait k hw)
    · rw [come_ne e] at hj
      exact come_old (hcl j k hj hw)
   by_cases him : i = n + 1
   · subst him
     have hLn : L n = true := hwait n hmid
     obtain ⟨o, ho, h⟩ := mid u w8 (hdone hLn hLi)
     refine ⟨o, ho, fun K' hK => h K' fun v w' hv => hK.out v w' ⟨hcl', fun _ => hv, fun _ h1 => ?_, fun h1 => ?_⟩⟩
     · rw [come_same] at h1; cases h1
     · rw [come_ne (by omega), hLn] at h1; cases h1
   replace hi : i < n + 1 := by omega
   have hLn : L n = false := by
    by_cases hin : i < n
    · cases hb : L n with
      | false => rfl
      | true => rw [chain_all hch hcl hb (n - i) i (Nat.le_refl _) hin] at hLi; cases hLi
    · have e : i = n := by omega
      rw [← e]; exact hLi
   have hLm : L (n + 1) = false := by
    cases hb : L (n + 1) with
    | false => rfl
    | true => rw [hcl _ _ hb hmid] at hLn; cases hLn
   obtain ⟨hS8, hφ⟩ := hopen hLn
   by_cases hin : i < n
   · obtain ⟨o, ho, h⟩ := step i hin u w8 hS8 (fun j hj => hφ j (by have := lt i j hj; omega) (hwait j hj))
     refine ⟨o, ho, fun K' hK => h K' fun v w' hb hv => hK.out v w' ⟨hcl', fun h1 => ?_, fun h1 => ?_, fun _ => ⟨hS8.trans (hb.mono hS8.size), fun j hj hl => ?_⟩⟩⟩
     · rw [come_ne (by omega), hLm] at h1; cases h1
     · rw [come_ne (by omega), hLn] at h1; cases h1
     · by_cases e : j = i
       · subst e; rw [upd_same]; exact hv
       · rw [come_ne e] at hl
         rw [upd_ne _ _ (fun e' => e (hinj j i (by omega) (by omega) e'))]
         exact stable j _ _ _ hb (hφ j hj hl)
   · have e : i = n := by omega
     subst e
     have hall : ∀ j, j < i → L j = true := by
      have : ∀ d j, i - j ≤ d → j < i → L j = true := by
       intro d
       induction d with
       | zero => intro j h1 h2; omega
       | succ d ih =>
        intro j h1 h2
        obtain ⟨c1, c2, c3⟩ := hcon j h2
        by_cases ec : con.getD j 0 = i
        · rw [ec] at c3; exact hwait j c3
        · exact hcl _ _ (ih (con.getD j 0) (by omega) (by omega)) c3
      exact fun j hj => this (i - j) j (Nat.le_refl _) hj
     obtain ⟨o, ho, h⟩ := pre u w8 hS8 (fun j hj => hφ j hj (hall j hj))
     refine ⟨o, ho, fun K' hK => h K' fun v w' hv => hK.out v w' ⟨hcl', fun h1 => ?_, fun _ _ => hv, fun h1 => ?_⟩⟩
     · rw [come_ne (by omega), hLm] at h1; cases h1
     · rw [come_same] at h1; cases h1
 · intro L u w8 hall hI
   exact last u w8 (hI.2.1 (hall (n + 1) (by omega)))
end Go.Proofs.YtmkhoocokpkojaaGreatDoor.drawnSeq
