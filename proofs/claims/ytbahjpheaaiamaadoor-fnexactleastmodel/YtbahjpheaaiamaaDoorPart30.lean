/- SolLearn; SolNext: one text, so that the claim has fewer files. -/
import Derived.Test.YtbahjpheaaiamaaDoorSolLesson
import Derived.Test.YtbahjpheaaiamaaDoorPart26
import Derived.Test.YtbahjpheaaiamaaDoorCdX
import Derived.Test.YtbahjpheaaiamaaDoorPart18
import Derived.Test.YtbahjpheaaiamaaDoorSolAddT
import Derived.Test.YtbahjpheaaiamaaDoorPart22
import Derived.Test.YtbahjpheaaiamaaDoorSolTrail
/- A solver of the program: it learns (learn); conditions: a choice has been made, a clause is false; what refresh does is given. -/
namespace Go.Proofs.YtbahjpheaaiamaaDoor.solLearn
open Go.RowKit Go.Deep Go.Shelf Go base sets setsOf solSets solOps solMath solHold solMem solFail solX solProp solClose solTrail solAddM cdVal cdState cdLes cdLearn cdSolve cdX solHang solPush solLesson solGrow solLastT
set_option linter.unusedVariables false
set_option linter.unusedSimpArgs false

theorem tinB {n : Nat} {Z : List LS} {G B : LS} {s s2 : Sv} {kk : Nat} (h2 : Stk G s2) (hH : s2.H = atK G s kk) (hT : s2.T = s.T.take kk) (h : Cd n Z G B s) (hk : kk < s.T.length) : TinH s2 := fun p hp => by
  rw [h2.tr.h, mem_ht _ _ h2.tr.fresh, Bool.or_eq_true]
  exact .inr (has_iff.2 (by
    obtain ⟨i, hi, rfl⟩ := List.getElem_of_mem hp
    exact ⟨i, hi, by rw [List.getElem?_eq_getElem hi]; rfl⟩))
set_option maxHeartbeats 3200000 in
set_option maxRecDepth 8000 in
theorem learn_impl (n : Nat) (Z : List LS) (G B : LS) (M mb : Nat) (F : Nat → Value) (V : Int → Value) (s : Sv) (w : World) (h : Sol 0 M mb F V s w) (hv0 : V 0 = nilV) (hcd : Cd n Z G B s) (hF : s.F ≠ -1) (hK : s.K ≠ []) (g : Int) (hg : 1024 ≤ g ∧ g ≤ 1099511627776) (hw : Wg s.X g (1000 * g)) (hlen : s.C.length ≤ 8000000000000) (Q : World → Prop)
    (HRf : ∀ (F1 : Nat → Value) (V1 : Int → Value) (s1 : Sv) (w1 : World) (g1 : Int), Sol 0 M mb F1 V1 s1 w1 → V1 0 = nilV → Chg M mb (blk 0 F V) (blk 0 F1 V1) w w1 → Cd n Z G B s1 → s1.F = -1 → num s < num (propF (meas s1 + 1) s1) → s1.C.length = s.C.length + 1 → (1024 ≤ g1 ∧ g1 ≤ 1099511627776) → Wg s1.X g1 (1000 * g1) → (∀ j, (j < 11 ∨ 52 < j) → s1.X j = s.X j) → (∀ l, cdSolve.Ask G s l → cdSolve.Ask G s1 l) →
      Calls Tryd.prog 63 #[.pointer (some ⟨M, 0, none⟩)] w1 fun e w2 => e = .returned (.tuple #[]) ∧ Q w2) :
    Calls Tryd.prog 42 #[.pointer (some ⟨M, 0, none⟩)] w fun e w2 => e = .returned (.tuple #[]) ∧ Q w2 := by
  have HS := hid h
  have HCd := hid hcd
  have HR := hid HRf
  have HW := hid hw
  have h40 := hcd.q.n40
  have hKp := List.length_pos_iff.2 hK
  have hM := h.lt.1
  have HLs := hid (fun (W : World) (hb : Below w.heap.size w W) => lesson_impl n Z G B M mb F V s W (h.below hb) hcd hF hK g hg hw hlen)
  clear h hcd hw HRf
  go_enter Tryd.func42, Tryd.ntmps42
  go_wp2_with fail
  refine (HLs.out w (Below.refl _ _)).mono ?_
  rintro e w1 ⟨C1, C2, st, k, F1, X1, rfl, hla, hle, hs1, hw1, hsx, hch⟩
  obtain ⟨s1, e1⟩ : ∃ s1 : Sv, ({ s with X := X1 } : Sv) = s1 := ⟨_, rfl⟩
  have HK1 : Hid (s1.K = s.K ∧ s1.T = s.T ∧ s1.C = s.C ∧ num s1 = num s ∧ s1.X = X1 ∧ s1.F = s.F) := hid (by rw [← e1]; exact ⟨rfl, rfl, rfl, rfl, rfl, rfl⟩)
  have HCd1 : Hid (Cd n Z G B s1) := hid (by rw [← e1]; exact cd_X HCd.out)
  have HLes : Hid (Les n Z G s1 st k (C1, C2)) := hid (by rw [← e1]; exact les_X hle)
  have HLa : Hid (LastK s1 st) := hid (by rw [← e1]; exact hla)
  have HS1 : Hid (Sol 0 M mb F1 V s1 w1) := hid (by rw [← e1]; exact hs1)
  have HA1 : Hid (∀ l, cdSolve.Ask G s l → cdSolve.Ask G s1 l) := hid (by rw [← e1]; exact fun l ha => ha)
  have HW1 := hid hw1
  have HX1 := hid hsx
  have HC1 := hid hch
  have hM1 := hs1.lt.1
  have hKs : s1.K.length = s.K.length := by rw [HK1.out.1]
  obtain ⟨ka, kc, hk8, hk1, hk2⟩ := choice_form HS1.out
  have c8 := HS1.out.cell (i := 8) (by omega)
  rw [hk8] at c8
  rw [hKs] at c8 hk1
  unfold maxLen at hk2
  have hlv := lv_start HCd1.out HLa.out HLes.out
  rw [hKs] at hlv
  have HLv := hid hlv
  have HKt : Hid (∀ j, j < s.K.length → s1.K[j]?.getD 0 < s1.T.length) := hid (fun j hj => by rw [List.getElem?_eq_getElem (by omega)]; exact HCd1.out.lt _ (List.getElem_mem _))
  have HKi : Hid (∀ i j, i < j → j < s.K.length → s1.K[i]?.getD 0 < s1.K[j]?.getD 0) := hid (fun i j h1 h2 => by
    rw [List.getElem?_eq_getElem (by omega), List.getElem?_eq_getElem (by omega)]
    exact List.pairwise_iff_getElem.1 HCd1.out.q.inc i j (by omega) (by omega) h1)
  have HTl : Hid (∀ p ∈ s1.T, p.1 ≠ 0 ∧ -40 ≤ p.1 ∧ p.1 ≤ 40) := hid (fun p hp => by
    obtain ⟨i, hi, rfl⟩ := List.getElem_of_mem hp
    have := (tl_fresh HCd1.out.stk.tr hi (Nat.zero_le _)).2.2
    unfold tl at this
    rw [List.getElem?_eq_getElem hi] at this
    exact this)
  have hTm := trail_most HCd1.out.q HCd1.out.stk.tr
  have hKm : s.K.length ≤ 100000 := by
    have h2 : ∀ i, i < s.K.length → i ≤ s1.K[i]?.getD 0 := fun i => by
      induction i with
      | zero => intro _; exact Nat.zero_le _
      | succ i ih =>
        intro hi
        have h3 := ih (by omega)
        have h4 := HKi.out i (i + 1) (by omega) hi
        omega
    have h3 := h2 (s.K.length - 1) (by omega)
    have h4 := HKt.out (s.K.length - 1) (by omega)
    omega
  obtain ⟨kn, hkn⟩ : ∃ kn, s.K.length = kn := ⟨_, rfl⟩
  have HKn := hid hkn
  rw [hkn] at c8 hk1 hKp HLv HKt HKi hKm hKs
  clear e1 hla hle hs1 hw1 hsx hch hlv hk8 hkn hF hK
  go_wp2_with fail
  obtain ⟨wa, hwa⟩ : ∃ wa, w1.alloc (.cells #[.int .u64 (C1 : Int), .int .u64 (C2 : Int)] 51) = wa := ⟨_, rfl⟩
  have HYa : Hid (wa.heap[w1.heap.size]? = some (.cells #[.int .u64 (C1 : Int), .int .u64 (C2 : Int)] 51 (0, 0))) := hid (by rw [← hwa]; exact World.alloc_heap_new _ _)
  have HBa : Hid (Below w1.heap.size w1 wa) := hid (by rw [← hwa]; exact (by repeat (first | exact Below.refl _ _ | assumption | refine Below.drew ?_ | refine Below.alloc ?_ (by first | exact Nat.le_refl _ | omega | (simp; done) | (simp; omega)) _ | refine Below.setCell ?_ (by first | exact Nat.le_refl _ | omega | (simp; done) | (simp; omega)) _)))
  have HZa : Hid (wa.heap.size = w1.heap.size + 1) := hid (by rw [← hwa]; simp)
  rw [hwa]
  clear hwa
  go_loopw [3] (fun i wr => ∃ lv : Nat, lv < kn ∧ i = .int .i64 lv ∧ LvI (G) s1 (C1, C2) (-(tl s1 k)) lv ∧ Below wa.heap.size wa wr) (fun i _ => (intOf i).toNat)
  case atStart => exact ⟨kn - 1, by omega, by go_num, HLv.out, Below.refl _ _⟩
  case round =>
    obtain ⟨lv, hlk, rfl, hL, hb⟩ := hrel
    have HL := hid hL
    have HB := hid hb
    clear hL hb
    by_cases h0 : lv = 0
    · have HE := hid (lv_end HL.out (.inl h0))
      have hi : ¬ (0 < (lv : Int)) := by omega
      clear HL h0
      go_wp2_with fail
      have hbr : Below w1.heap.size w1 wr := HBa.out.trans (HB.out.mono HBa.out.size)
      refine (solBackI.back_impl M mb F1 V s1 wr (HS1.out.below hbr) HCd1.out.full.ok.wfH lv (by omega) (fun _ => Nat.le_of_lt (HKt.out lv (by omega))) HTl.out (by omega) (by omega)).mono ?_
      rintro e w2 ⟨rfl, F2, hs2, hch2, hf2⟩
      have hcb := cd_back HCd1.out HE.out.lt
      obtain ⟨l1, l2, l3⟩ := learn_spec HCd1.out HLa.out HLes.out HE.out
      obtain ⟨b1, b2, bF, bD, bC, bn, bH, bT, bK⟩ := back_stk HCd1.out.full.ok HCd1.out.stk HE.out.lt HCd1.out.q.consG
      have bX := back_X s1 lv
      have aX := (addT_same (backS s1 lv) (C1, C2)).2.2.2.2.2
      have aC := (addT_same (backS s1 lv) (C1, C2)).1
      obtain ⟨s2, e2⟩ : ∃ s2, backS s1 lv = s2 := ⟨_, rfl⟩
      rw [e2] at hs2 hcb l1 l2 l3 b1 b2 bF bD bC bn bH bT bK bX aX aC
      have htin : TinH s2 := tinB b2 bH bT HCd1.out (HKt.out lv (by omega))
      have htl : (∀ p ∈ s2.T, p.1 ≠ 0 ∧ -40 ≤ p.1 ∧ p.1 ≤ 40) ∧ s2.T.length ≤ 100000 := by
        rw [bT]
        exact ⟨fun p hp => HTl.out p (List.mem_of_mem_take hp), by rw [List.length_take]; omega⟩
      have hbk : wr.heap[w1.heap.size]? = some (.cells #[.int .u64 (C1 : Int), .int .u64 (C2 : Int)] 51 (0, 0)) := (HB.out.block _ (by have := HZa.out; omega)).trans HYa.out
      have hbk2 : w2.heap[w1.heap.size]? = some (.cells #[.int .u64 (C1 : Int), .int .u64 (C2 : Int)] 51 (0, 0)) := (hch2.block _ (Array.getElem?_eq_some_iff.1 hbk).1 (by omega) (by have := HS1.out.lt.2; omega) (fun a ha => by have := HS1.out.blt ha; omega)).trans hbk
      have q0 : w2.cell? ⟨w1.heap.size, 0, none⟩ = some (.int .u64 C1) := by simp [World.cell?, hbk2]
      have q1 : w2.cell? ⟨w1.heap.size, 1, none⟩ = some (.int .u64 C2) := by simp [World.cell?, hbk2]
      have HS2 := hid hs2
      have HC2 := hid hch2
      have HCb := hid hcb
      have HL1 := hid l1
      have HL2 := hid l2
      have HL3 := hid l3
      have HTin := hid htin
      have HAs : Hid (∀ l, cdSolve.Ask G s l → cdSolve.Ask G (addT s2 (C1, C2)) l) := hid (fun l ha => ask_add (by rw [← e2]; exact ask_back HCd1.out (HA1.out l ha) HE.out.lt))
      have HTl2 := hid htl
      have HAX : Hid ((addT s2 (C1, C2)).X = X1) := hid (by rw [aX, bX, HK1.out.2.2.2.2.1])
      have HAC : Hid (s2.C.length = s.C.length ∧ (addT s2 (C1, C2)).C.length = s.C.length + 1) := hid ⟨by rw [bC, HK1.out.2.2.1], by rw [aC, List.length_append, bC, HK1.out.2.2.1]; rfl⟩
      clear hs2 hch2 hf2 hcb l1 l2 l3 b1 b2 bF bD bC bn bH bT bK bX aX aC htin htl hbk hbk2 e2
      go_wp2_with fail
      refine (solAddI.addT_impl M mb F2 V s2 w2 HS2.out hv0 C1 C2 HLes.out.wf HCb.out.full.ok ⟨HTin.out, HTl2.out.1, HTl2.out.2⟩ (by rw [HAC.out.1]; exact hlen)).mono ?_
      rintro e w3 ⟨rfl, F3, V3, hs3, hv3, hch3⟩
      have HS3 := hid hs3
      have HV3 := hid hv3
      have HC3 := hid hch3
      clear hs3 hv3 hch3 q0 q1
      go_wp2_with fail
      refine (grow_impl M mb F3 V3 (addT s2 (C1, C2)) w3 HS3.out g hg (by rw [HAX.out]; exact HW1.out)).mono ?_
      rintro e w4 ⟨rfl, F4, X4, g4, hs4, hw4, hg4, hx4, hch4, hf4⟩
      have HR5 := hid (HR.out F4 V3 { addT s2 (C1, C2) with X := X4 } w4 g4 hs4 HV3.out (HC1.out.trans ((Chg.below hbr).trans (HC2.out.trans (HC3.out.trans hch4)))) (cd_X HL1.out) HL2.out (by rw [num_X, ← HK1.out.2.2.2.1]; exact HL3.out) HAC.out.2 hg4 hw4 (fun j hj => (hx4 j hj).trans (by rw [HAX.out]; exact HX1.out j (by omega))) (fun l ha => HAs.out l ha))
      clear hs4 hw4 hg4 hx4 hch4 hf4
      go_wp2_with fail
      refine HR5.out.mono ?_
      rintro e w5 ⟨rfl, hq⟩
      have HQ5 := hid hq
      clear hq
      go_wp2
      exact ⟨rfl, .tuple #[], by simp [results, Tryd.results42, go_sem], rfl, HQ5.out⟩
    · have hi : 0 < (lv : Int) := by omega
      have H0 := hid h0
      clear h0
      have hya := (HB.out.block w1.heap.size (by have := HZa.out; omega)).trans HYa.out
      have q0 : wr.cell? ⟨w1.heap.size, 0, none⟩ = some (.int .u64 C1) := by simp [World.cell?, hya]
      have q1 : wr.cell? ⟨w1.heap.size, 1, none⟩ = some (.int .u64 C2) := by simp [World.cell?, hya]
      clear hya
      go_wp2_with fail
      refine (hangs_impl M mb F1 V s1 wr (HS1.out.below (HBa.out.trans (HB.out.mono HBa.out.size))) lv (by omega) (by omega) (HKi.out (lv - 1) lv (by omega) hlk) (HKt.out lv hlk) HTl.out C1 C2 HLes.out.wf (by omega) (by omega)).mono ?_
      rintro e w9 ⟨t, rfl, ht, hb9⟩
      have HT := hid ht
      have HB9 := hid hb9
      clear ht hb9 q0 q1
      cases t with
      | true =>
        have HE := hid (lv_end HL.out (.inr (HT.out.1 rfl)))
        replace HB : Hid (Below wa.heap.size wa w9) := hid (HB.out.trans (HB9.out.mono HB.out.size))
        clear HL HT HB9
        go_wp2_with fail
        have hbr : Below w1.heap.size w1 w9 := HBa.out.trans (HB.out.mono HBa.out.size)
        refine (solBackI.back_impl M mb F1 V s1 w9 (HS1.out.below hbr) HCd1.out.full.ok.wfH lv (by omega) (fun _ => Nat.le_of_lt (HKt.out lv (by omega))) HTl.out (by omega) (by omega)).mono ?_
        rintro e w2 ⟨rfl, F2, hs2, hch2, hf2⟩
        have hcb := cd_back HCd1.out HE.out.lt
        obtain ⟨l1, l2, l3⟩ := learn_spec HCd1.out HLa.out HLes.out HE.out
        obtain ⟨b1, b2, bF, bD, bC, bn, bH, bT, bK⟩ := back_stk HCd1.out.full.ok HCd1.out.stk HE.out.lt HCd1.out.q.consG
        have bX := back_X s1 lv
        have aX := (addT_same (backS s1 lv) (C1, C2)).2.2.2.2.2
        have aC := (addT_same (backS s1 lv) (C1, C2)).1
        obtain ⟨s2, e2⟩ : ∃ s2, backS s1 lv = s2 := ⟨_, rfl⟩
        rw [e2] at hs2 hcb l1 l2 l3 b1 b2 bF bD bC bn bH bT bK bX aX aC
        have htin : TinH s2 := tinB b2 bH bT HCd1.out (HKt.out lv (by omega))
        have htl : (∀ p ∈ s2.T, p.1 ≠ 0 ∧ -40 ≤ p.1 ∧ p.1 ≤ 40) ∧ s2.T.length ≤ 100000 := by
          rw [bT]
          exact ⟨fun p hp => HTl.out p (List.mem_of_mem_take hp), by rw [List.length_take]; omega⟩
        have hbk : w9.heap[w1.heap.size]? = some (.cells #[.int .u64 (C1 : Int), .int .u64 (C2 : Int)] 51 (0, 0)) := (HB.out.block _ (by have := HZa.out; omega)).trans HYa.out
        have hbk2 : w2.heap[w1.heap.size]? = some (.cells #[.int .u64 (C1 : Int), .int .u64 (C2 : Int)] 51 (0, 0)) := (hch2.block _ (Array.getElem?_eq_some_iff.1 hbk).1 (by omega) (by have := HS1.out.lt.2; omega) (fun a ha => by have := HS1.out.blt ha; omega)).trans hbk
        have q0 : w2.cell? ⟨w1.heap.size, 0, none⟩ = some (.int .u64 C1) := by simp [World.cell?, hbk2]
        have q1 : w2.cell? ⟨w1.heap.size, 1, none⟩ = some (.int .u64 C2) := by simp [World.cell?, hbk2]
        have HS2 := hid hs2
        have HC2 := hid hch2
        have HCb := hid hcb
        have HL1 := hid l1
        have HL2 := hid l2
        have HL3 := hid l3
        have HTin := hid htin
        have HAs : Hid (∀ l, cdSolve.Ask G s l → cdSolve.Ask G (addT s2 (C1, C2)) l) := hid (fun l ha => ask_add (by rw [← e2]; exact ask_back HCd1.out (HA1.out l ha) HE.out.lt))
        have HTl2 := hid htl
        have HAX : Hid ((addT s2 (C1, C2)).X = X1) := hid (by rw [aX, bX, HK1.out.2.2.2.2.1])
        have HAC : Hid (s2.C.length = s.C.length ∧ (addT s2 (C1, C2)).C.length = s.C.length + 1) := hid ⟨by rw [bC, HK1.out.2.2.1], by rw [aC, List.length_append, bC, HK1.out.2.2.1]; rfl⟩
        clear hs2 hch2 hf2 hcb l1 l2 l3 b1 b2 bF bD bC bn bH bT bK bX aX aC htin htl hbk hbk2 e2
        go_wp2_with fail
        refine (solAddI.addT_impl M mb F2 V s2 w2 HS2.out hv0 C1 C2 HLes.out.wf HCb.out.full.ok ⟨HTin.out, HTl2.out.1, HTl2.out.2⟩ (by rw [HAC.out.1]; exact hlen)).mono ?_
        rintro e w3 ⟨rfl, F3, V3, hs3, hv3, hch3⟩
        have HS3 := hid hs3
        have HV3 := hid hv3
        have HC3 := hid hch3
        clear hs3 hv3 hch3 q0 q1
        go_wp2_with fail
        refine (grow_impl M mb F3 V3 (addT s2 (C1, C2)) w3 HS3.out g hg (by rw [HAX.out]; exact HW1.out)).mono ?_
        rintro e w4 ⟨rfl, F4, X4, g4, hs4, hw4, hg4, hx4, hch4, hf4⟩
        have HR5 := hid (HR.out F4 V3 { addT s2 (C1, C2) with X := X4 } w4 g4 hs4 HV3.out (HC1.out.trans ((Chg.below hbr).trans (HC2.out.trans (HC3.out.trans hch4)))) (cd_X HL1.out) HL2.out (by rw [num_X, ← HK1.out.2.2.2.1]; exact HL3.out) HAC.out.2 hg4 hw4 (fun j hj => (hx4 j hj).trans (by rw [HAX.out]; exact HX1.out j (by omega))) (fun l ha => HAs.out l ha))
        clear hs4 hw4 hg4 hx4 hch4 hf4
        go_wp2_with fail
        refine HR5.out.mono ?_
        rintro e w5 ⟨rfl, hq⟩
        have HQ5 := hid hq
        clear hq
        go_wp2
        exact ⟨rfl, .tuple #[], by simp [results, Tryd.results42, go_sem], rfl, HQ5.out⟩
      | false =>
        have HD := hid (lv_down HCd1.out HL.out (by omega) (fun h => by have := HT.out.2 h; cases this))
        clear HT
        go_wp2
        go_roundw
        case rel => exact ⟨lv - 1, by omega, by go_num, HD.out, HB.out.trans (HB9.out.mono HB.out.size)⟩
        case measure => simp [intOf]; omega
end Go.Proofs.YtbahjpheaaiamaaDoor.solLearn

/- A solver of the program: the literal to be chosen (nextChoice): the one that is asked for, or a variable without a value, 0 where all have values; conditions: weights that are never negative. -/
namespace Go.Proofs.YtbahjpheaaiamaaDoor.solNext
open Go.RowKit Go.Deep Go.Maps Go base sets setsOf solSets solOps solMath solHold solMem solFail solX
set_option linter.unusedVariables false
set_option linter.unusedSimpArgs false

/-- What is chosen. -/
structure Choice (n : Nat) (H : LS) (l : Int) (x : Int) : Prop where
  ask : l ≠ 0 → mem H l = false → x = l
  none : x = 0 → (l = 0 ∨ mem H l = true) ∧ ∀ v : Nat, 1 ≤ v → v ≤ n → mem H (v : Int) = true ∨ mem H (-(v : Int)) = true
  some : x ≠ 0 → (x = l ∧ mem H l = false) ∨ ((l = 0 ∨ mem H l = true) ∧ x.natAbs ≤ n ∧ mem H x = false ∧ mem H (-x) = false)
theorem choice_ask {n : Nat} {H : LS} {l : Int} (h0 : l ≠ 0) (h : mem H l = false) : Choice n H l l := ⟨fun _ _ => rfl, fun e => absurd e h0, fun _ => .inl ⟨rfl, h⟩⟩
/-- The walk over the variables: none ahead of v is open, or the choice is one that is. -/
def Walk (H : LS) (v : Nat) (x m : Int) : Prop := (x = 0 ∧ m = -1 ∧ ∀ u : Nat, 1 ≤ u → u < v → mem H (u : Int) = true ∨ mem H (-(u : Int)) = true) ∨ (∃ u : Nat, 1 ≤ u ∧ u < v ∧ x = -(u : Int) ∧ 0 ≤ m ∧ mem H (u : Int) = false ∧ mem H (-(u : Int)) = false)
theorem walk_end {n : Nat} {H : LS} {l x m : Int} (h : Walk H (n + 1) x m) (hl : l = 0 ∨ mem H l = true) : Choice n H l x := by
  refine ⟨fun h0 h1 => ?_, fun hx => ⟨hl, fun v h1 h2 => ?_⟩, fun hx => .inr ⟨hl, ?_⟩⟩
  · rcases hl with e | e
    · exact absurd e h0
    · rw [h1] at e; cases e
  · rcases h with ⟨_, _, h⟩ | ⟨u, a, _, c, _⟩
    · exact h v h1 (by omega)
    · omega
  · rcases h with ⟨e, _⟩ | ⟨u, a, b, c, d, e, f⟩
    · exact absurd e hx
    · exact ⟨by omega, by rw [c]; exact f, by rw [c, Int.neg_neg]; exact e⟩
theorem walk_skip {H : LS} {v : Nat} {x m wt : Int} (h : Walk H v x m) (hwt : 0 ≤ wt) (hs : ¬ m < wt ∨ mem H (v : Int) = true ∨ mem H (-(v : Int)) = true) : Walk H (v + 1) x m := by
  rcases h with ⟨a, b, c⟩ | ⟨u, a, b, c⟩
  · refine .inl ⟨a, b, fun u h1 h2 => ?_⟩
    by_cases e : u = v
    · subst e
      rcases hs with h | h
      · omega
      · exact h
    · exact c u h1 (by omega)
  · exact .inr ⟨u, a, by omega, c⟩
theorem walk_take {H : LS} {v : Nat} {wt : Int} (h1 : 1 ≤ v) (hwt : 0 ≤ wt) (h2 : mem H (v : Int) = false) (h3 : mem H (-(v : Int)) = false) : Walk H (v + 1) (-(v : Int)) wt := .inr ⟨v, h1, by omega, rfl, hwt, h2, h3⟩
set_option maxHeartbeats 3200000 in
theorem next_impl (M mb : Nat) (F : Nat → Value) (V : Int → Value) (s : Sv) (w : World) (h : Sol 0 M mb F V s w) (n : Nat) (hn : s.n = n) (hn40 : n ≤ 40) (g b : Int) (hw : Wg s.X g b) (hwf : Wf s.H) (l : Int) (hl : -40 ≤ l ∧ l ≤ 40) :
    Calls Tryd.prog 43 #[.pointer (some ⟨M, 0, none⟩), .int .i64 l] w fun e w' => ∃ x, e = .returned (.int .i64 x) ∧ Choice n s.H l x ∧ Below w.heap.size w w' := by
  obtain ⟨H1, hH1⟩ : ∃ q, s.H.1 = q := ⟨_, rfl⟩
  obtain ⟨H2, hH2⟩ : ∃ q, s.H.2 = q := ⟨_, rfl⟩
  have hH : s.H = (H1, H2) := by rw [← hH1, ← hH2]
  have k0 := h.cell (i := 0) (by omega)
  rw [h.f0, hn] at k0
  have k5 := h.cell (i := 5) (by omega)
  have k6 := h.cell (i := 6) (by omega)
  rw [h.f5, hH1] at k5
  rw [h.f6, hH2] at k6
  have HK0 := hid k0
  have HK5 := hid k5
  have HK6 := hid k6
  have HWt : Hid (∀ v, v ≤ 40 → ∃ x : Int, w.cell? ⟨M, 11 + v, none⟩ = some (.int .i64 x) ∧ 0 ≤ x) := hid (fun v hv => by
    obtain ⟨x, e, h1, _⟩ := hw.wt v hv
    refine ⟨x, ?_, h1⟩
    rw [h.cell (i := 11 + v) (by omega), h.fx (11 + v) (.inr (by omega)), e])
  rw [hH] at hwf ⊢
  have HWf := hid hwf
  clear h hw hH1 hH2 hH hn k0 k5 k6 hwf
  by_cases hl0 : l = 0
  · subst hl0
    go_enter Tryd.func43, Tryd.ntmps43
    go_wp2
    go_loopw [7, 5, 6] (fun i x m wr => ∃ (v : Nat) (xc mc : Int), 1 ≤ v ∧ v ≤ n + 1 ∧ i = .int .i64 v ∧ x = .int .i64 xc ∧ m = .int .i64 mc ∧ Walk (H1, H2) v xc mc ∧ Below w.heap.size w wr) (fun i _ _ _ => n + 1 - (intOf i).toNat)
    case atStart => exact ⟨1, 0, -1, Nat.le_refl _, by omega, rfl, rfl, rfl, .inl ⟨rfl, rfl, fun u h1 h2 => by omega⟩, Below.refl _ _⟩
    case round =>
      obtain ⟨v, xc, mc, hv1, hv2, rfl, rfl, rfl, hwk, hbr⟩ := hrel
      have HWk := hid hwk
      have HBr := hid hbr
      have c0 := keep hbr HK0.out
      have c5 := keep hbr HK5.out
      have c6 := keep hbr HK6.out
      clear hwk hbr
      by_cases hlt : v ≤ n
      · obtain ⟨wt, hwc, hw0⟩ := HWt.out v (by omega)
        have cw := keep HBr.out hwc
        have hv41 : (v : Int) < 41 := by omega
        have hv40 : (v : Int) ≤ n := by omega
        clear hwc
        by_cases hmost : mc < wt
        · have hmd : decide (mc < wt) = true := decide_eq_true hmost
          go_wp2_with fail
          refine (has_impl (H1, H2) v _ HWf.out (by omega) (by omega) (by omega)).mono ?_
          rintro e w2 ⟨rfl, hb2⟩
          have HB2 := hid (HBr.out.trans (hb2.mono HBr.out.size))
          have d5 := keep hb2 c5
          have d6 := keep hb2 c6
          clear hb2
          cases hm : mem (H1, H2) (v : Int) with
          | true =>
            go_wp2
            go_roundw
            case rel => exact ⟨v + 1, xc, mc, by omega, by omega, by go_num, rfl, rfl, walk_skip HWk.out hw0 (.inr (.inl hm)), HB2.out⟩
            case measure => simp [intOf]; omega
          | false =>
            go_wp2_with fail
            refine (has_impl (H1, H2) (-(v : Int)) _ HWf.out (by omega) (by omega) (by omega)).mono ?_
            rintro e w3 ⟨rfl, hb3⟩
            have HB3 := hid (HB2.out.trans (hb3.mono HB2.out.size))
            have dw := keep HB3.out (show w.cell? ⟨M, 11 + v, none⟩ = some (.int .i64 wt) by
              obtain ⟨x9, e9, _⟩ := HWt.out v (by omega)
              have := keep HBr.out e9
              rw [cw] at this
              rw [e9, ← this])
            clear hb3
            cases hm2 : mem (H1, H2) (-(v : Int)) with
            | true =>
              go_wp2
              go_roundw
              case rel => exact ⟨v + 1, xc, mc, by omega, by omega, by go_num, rfl, rfl, walk_skip HWk.out hw0 (.inr (.inr hm2)), HB3.out⟩
              case measure => simp [intOf]; omega
            | false =>
              go_wp2_with fail
              go_region
              go_wp2
              go_roundw
              case rel => exact ⟨v + 1, -(v : Int), wt, by omega, by omega, by go_num, rfl, rfl, walk_take hv1 hw0 hm hm2, HB3.out.trans (((Below.refl _ _).drew).mono HB3.out.size)⟩
              case measure => simp [intOf]; omega
        · have hmd : decide (mc < wt) = false := decide_eq_false hmost
          go_wp2
          go_roundw
          case rel => exact ⟨v + 1, xc, mc, by omega, by omega, by go_num, rfl, rfl, walk_skip HWk.out hw0 (.inl hmost), HBr.out⟩
          case measure => simp [intOf]; omega
      · have e : v = n + 1 := by omega
        subst e
        have hlt' : ¬ ((n : Int) + 1 ≤ n) := by omega
        go_wp2
        go_ret
        exact ⟨xc, rfl, walk_end HWk.out (.inl rfl), HBr.out⟩
  · have hld : (l == 0) = false := beq_eq_false_iff_ne.2 hl0
    have h5 := HK5.out
    have h6 := HK6.out
    go_enter Tryd.func43, Tryd.ntmps43
    go_wp2_with fail
    refine (has_impl (H1, H2) l _ HWf.out hl0 hl.1 hl.2).mono ?_
    rintro e w1 ⟨rfl, hb1⟩
    have HB1 := hid hb1
    clear hb1 h5 h6
    cases hm9 : mem (H1, H2) l with
    | false =>
      go_wp2
      go_ret
      exact ⟨l, rfl, choice_ask hl0 hm9, HB1.out⟩
    | true =>
      have HM9 := hid hm9
      clear hm9
      go_wp2
      go_loopw [7, 5, 6] (fun i x m wr => ∃ (v : Nat) (xc mc : Int), 1 ≤ v ∧ v ≤ n + 1 ∧ i = .int .i64 v ∧ x = .int .i64 xc ∧ m = .int .i64 mc ∧ Walk (H1, H2) v xc mc ∧ Below w.heap.size w wr) (fun i _ _ _ => n + 1 - (intOf i).toNat)
      case atStart => exact ⟨1, 0, -1, Nat.le_refl _, by omega, rfl, rfl, rfl, .inl ⟨rfl, rfl, fun u h1 h2 => by omega⟩, HB1.out⟩
      case round =>
        obtain ⟨v, xc, mc, hv1, hv2, rfl, rfl, rfl, hwk, hbr⟩ := hrel
        have HWk := hid hwk
        have HBr := hid hbr
        have c0 := keep hbr HK0.out
        have c5 := keep hbr HK5.out
        have c6 := keep hbr HK6.out
        clear hwk hbr
        by_cases hlt : v ≤ n
        · obtain ⟨wt, hwc, hw0⟩ := HWt.out v (by omega)
          have cw := keep HBr.out hwc
          have hv41 : (v : Int) < 41 := by omega
          have hv40 : (v : Int) ≤ n := by omega
          clear hwc
          by_cases hmost : mc < wt
          · have hmd : decide (mc < wt) = true := decide_eq_true hmost
            go_wp2_with fail
            refine (has_impl (H1, H2) v _ HWf.out (by omega) (by omega) (by omega)).mono ?_
            rintro e w2 ⟨rfl, hb2⟩
            have HB2 := hid (HBr.out.trans (hb2.mono HBr.out.size))
            have d5 := keep hb2 c5
            have d6 := keep hb2 c6
            clear hb2
            cases hm : mem (H1, H2) (v : Int) with
            | true =>
              go_wp2
              go_roundw
              case rel => exact ⟨v + 1, xc, mc, by omega, by omega, by go_num, rfl, rfl, walk_skip HWk.out hw0 (.inr (.inl hm)), HB2.out⟩
              case measure => simp [intOf]; omega
            | false =>
              go_wp2_with fail
              refine (has_impl (H1, H2) (-(v : Int)) _ HWf.out (by omega) (by omega) (by omega)).mono ?_
              rintro e w3 ⟨rfl, hb3⟩
              have HB3 := hid (HB2.out.trans (hb3.mono HB2.out.size))
              have dw := keep HB3.out (show w.cell? ⟨M, 11 + v, none⟩ = some (.int .i64 wt) by
                obtain ⟨x9, e9, _⟩ := HWt.out v (by omega)
                have := keep HBr.out e9
                rw [cw] at this
                rw [e9, ← this])
              clear hb3
              cases hm2 : mem (H1, H2) (-(v : Int)) with
              | true =>
                go_wp2
                go_roundw
                case rel => exact ⟨v + 1, xc, mc, by omega, by omega, by go_num, rfl, rfl, walk_skip HWk.out hw0 (.inr (.inr hm2)), HB3.out⟩
                case measure => simp [intOf]; omega
              | false =>
                go_wp2_with fail
                go_region
                go_wp2
                go_roundw
                case rel => exact ⟨v + 1, -(v : Int), wt, by omega, by omega, by go_num, rfl, rfl, walk_take hv1 hw0 hm hm2, HB3.out.trans (((Below.refl _ _).drew).mono HB3.out.size)⟩
                case measure => simp [intOf]; omega
          · have hmd : decide (mc < wt) = false := decide_eq_false hmost
            go_wp2
            go_roundw
            case rel => exact ⟨v + 1, xc, mc, by omega, by omega, by go_num, rfl, rfl, walk_skip HWk.out hw0 (.inl hmost), HBr.out⟩
            case measure => simp [intOf]; omega
        · have e : v = n + 1 := by omega
          subst e
          have hlt' : ¬ ((n : Int) + 1 ≤ n) := by omega
          go_wp2
          go_ret
          exact ⟨xc, rfl, walk_end HWk.out (.inr HM9.out), HBr.out⟩
end Go.Proofs.YtbahjpheaaiamaaDoor.solNext
