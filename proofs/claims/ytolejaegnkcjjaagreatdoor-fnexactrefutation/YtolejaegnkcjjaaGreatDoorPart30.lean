/- ChkNew; DeleteI; BackSet; ChkMath; RatMath: one text, so that the claim has fewer files. -/
import Derived.Test.YtolejaegnkcjjaaGreatDoorPart28
import Derived.Test.YtolejaegnkcjjaaGreatDoorSolPropI
import Derived.Test.YtolejaegnkcjjaaGreatDoorPart23
import Derived.Shelf.RegionOpenPlain
import Derived.WalkKit
import Derived.Deep.RegionLaw
import Derived.Laws.IdiomCopy
import Derived.RangeFuncNested
import Derived.RangeFuncBound
import Derived.RangeFuncCalls
import Derived.RangeFuncLeaves
import Derived.Shelf.Abstract
import Derived.Shelf.RegionOpen
import Derived.OwnWalkIn
import Derived.TacticsInMore
import Derived.LoopNIn
import Derived.LoopIn
import Derived.Test.YtolejaegnkcjjaaGreatDoorPart1
import Derived.Test.YtolejaegnkcjjaaGreatDoorPart25
/- A checker: a solver of clauses that has noted what is true by these alone (newChecker); conditions: clauses of at most 40 variables, lengths that fit, the table of math/bits as its initialiser lays it. -/
namespace Go.Proofs.YtolejaegnkcjjaaGreatDoor.chkNew
open Go.RowKit Go.Deep Go.Maps Go base sets setsOf solSets solOps solMath solHold solProp solAdd solMem solAddI solNew solPropI solClose solTrail
set_option linter.unusedVariables false
set_option linter.unusedSimpArgs false

/-- A row of sets of literals. -/
structure LsRow (w : World) (a : Option Addr) (len : Nat) (cs : List LS) : Prop where
  length : cs.length = len
  cell : ∀ i, i < len → ∃ b, a = some ⟨b, 0, none⟩ ∧ w.cell? ⟨b, i * 2, none⟩ = some (.int .u64 (cs[i]?.getD (0, 0)).1) ∧ w.cell? ⟨b, i * 2 + 1, none⟩ = some (.int .u64 (cs[i]?.getD (0, 0)).2)
theorem LsRow.below {w w1 : World} {a : Option Addr} {len : Nat} {cs : List LS} (h : LsRow w a len cs) (hb : Below w.heap.size w w1) : LsRow w1 a len cs := ⟨h.length, fun i hi => by
  obtain ⟨b, e, h1, h2⟩ := h.cell i hi
  exact ⟨b, e, keep hb h1, keep hb h2⟩⟩
def chkS (n : Int) (cs : List LS) : Sv := propF (meas (newS n (0, 0) cs 0) + 1) (newS n (0, 0) cs 0)
theorem cons_zero : ∀ l, mem (0, 0) l = true → mem (0, 0) (-l) = false := fun l h => by rw [mem_zero] at h; cases h
theorem nil_rows (w : World) : IntRows w none 0 [] := ⟨rfl, Nat.zero_le _, fun i hi => absurd hi (Nat.not_lt_zero _)⟩
set_option maxHeartbeats 3200000 in
set_option maxRecDepth 8000 in
theorem chk_impl (n : Int) (a : Option Addr) (len cap : Nat) (cs : List LS) (w : World) (hr : LsRow w a len cs) (hlen : len ≤ 700000) (hw : ∀ c ∈ cs, Wf c) (ht : Tab w) :
    Calls Tryz.prog 36 #[.int .i64 n, .slice a len cap] w fun e w' => ∃ M mb F V, e = .returned (.pointer (some ⟨M, 0, none⟩)) ∧ Sol 0 M mb F V (chkS n cs) w' ∧ V 0 = nilV ∧ Below w.heap.size w w' ∧ w.heap.size ≤ M ∧ w.heap.size ≤ mb ∧ ∀ a g, blk 0 F V a = some g → w.heap.size ≤ g := by
  have HR := hid hr
  have HWf := hid hw
  have hlz := hr.length
  have HLz := hid hlz
  have HNw := hid (fun (W : World) (hb : Below w.heap.size w W) => new_impl n none 0 0 [] (0, 0) W (nil_rows W) (by omega) (fun zs hz => by cases hz) wf_zero cons_zero (tab_below ht hb))
  clear hr hw ht hlz
  go_enter Tryz.func36, Tryz.ntmps36
  go_wp2_with fail
  refine (HNw.out _ (by repeat (first | exact Below.refl _ _ | assumption | refine Below.drew ?_ | refine Below.alloc ?_ (by first | exact Nat.le_refl _ | omega | (simp; done) | (simp; omega)) _ | refine Below.setCell ?_ (by first | exact Nat.le_refl _ | omega | (simp; done) | (simp; omega)) _))).mono ?_
  rintro e w5 ⟨M, mb, F0, V0, rfl, hS0, hv0, hb5, hM, hmb, hge⟩
  have HS0 : Hid (Sol 0 M mb F0 V0 (newS n (0, 0) (cs.take 0) 0) w5) := hid (by rw [List.take_zero]; exact hS0)
  have HV00 := hid hv0
  have HB5 := hid ((show Below w.heap.size w _ from (by repeat (first | exact Below.refl _ _ | assumption | refine Below.drew ?_ | refine Below.alloc ?_ (by first | exact Nat.le_refl _ | omega | (simp; done) | (simp; omega)) _ | refine Below.setCell ?_ (by first | exact Nat.le_refl _ | omega | (simp; done) | (simp; omega)) _))).trans (hb5.mono (by first | exact Nat.le_refl _ | simp)))
  have HGe0 := hid hge
  have HMb : Hid (w.heap.size ≤ M ∧ w.heap.size ≤ mb) := hid (by first | exact ⟨hM, hmb⟩ | (simp at hM hmb; omega))
  clear hS0 hv0 hb5 hM hmb hge
  have HRk : Hid (∀ wr F V, Chg M mb (blk 0 F0 V0) (blk 0 F V) w5 wr → LsRow wr a len cs ∧ Below w.heap.size w wr ∧ (∀ a g, blk 0 F V a = some g → w.heap.size ≤ g)) := hid (fun wr F V hc => by
    obtain ⟨m1, m2⟩ := HMb.out
    have hbel : Below w.heap.size w wr := HB5.out.trans (hc.toBelow HB5.out.size m1 m2 (fun a g e => HGe0.out a g e))
    refine ⟨HR.out.below hbel, hbel, fun a g hg => ?_⟩
    rcases hc.news a g hg with e | e
    · exact HGe0.out a g e
    · have := HB5.out.size; omega)
  go_wp2_with fail
  go_loopw [14] (fun i wr => ∃ (k : Nat) (F : Nat → Value) (V : Int → Value), k ≤ len ∧ i = .int .i64 k ∧ Sol 0 M mb F V (newS n (0, 0) (cs.take k) 0) wr ∧ V 0 = nilV ∧ Chg M mb (blk 0 F0 V0) (blk 0 F V) w5 wr) (fun i _ => len - (intOf i).toNat)
  case atStart => exact ⟨0, _, _, Nat.zero_le _, rfl, HS0.out, HV00.out, Chg.below (Below.refl _ _)⟩
  case round =>
    obtain ⟨k, F, V, hk, rfl, hS, hv, hC⟩ := hrel
    have HSk := hid hS
    have HVk := hid hv
    have HCk := hid hC
    obtain ⟨hrow, hbel, hge⟩ := HRk.out wr F V hC
    have HBk := hid hbel
    have HGe := hid hge
    clear hS hv hC hbel hge
    by_cases hlt : k < len
    · obtain ⟨b, rfl, c0, c1⟩ := hrow.cell k hlt
      have hkl : (k : Int) < (len : Int) := by omega
      have hzk : k < cs.length := by rw [HLz.out]; exact hlt
      obtain ⟨⟨C1, C2⟩, hcx⟩ : ∃ c, cs[k]?.getD (0, 0) = c := ⟨_, rfl⟩
      have hget : cs[k]? = some (C1, C2) := by rw [List.getElem?_eq_getElem hzk] at hcx ⊢; exact congrArg some hcx
      rw [hcx] at c0 c1
      dsimp only at c0 c1
      have hwc : Wf (C1, C2) := HWf.out _ (List.mem_of_getElem? hget)
      obtain ⟨hfu, hCC, -, -, hTT, -⟩ := new_full (n := n) (H := (0, 0)) (cs := cs.take k) wf_zero cons_zero (fun d hd => HWf.out d (List.mem_of_mem_take hd)) 0
      have HNx : Hid (newS n (0, 0) (cs.take (k + 1)) 0 = addS (newS n (0, 0) (cs.take k) 0) (C1, C2)) := hid (by
        rw [List.take_add_one, hget]
        unfold newS
        rw [List.foldl_append]
        rfl)
      have HAd := hid (fun (W : World) (hb : Below wr.heap.size wr W) => add_impl M mb F V (newS n (0, 0) (cs.take k) 0) W (HSk.out.below hb) HVk.out C1 C2 hwc hfu.ok hTT (by rw [hCC]; have := List.length_take_le k cs; omega))
      have hbw := World.block_lt_of_cell? _ _ c0
      simp only at hbw
      clear hget hcx hwc hfu hCC hTT hrow hzk
      go_wp2_with fail
      refine (HAd.out _ (by repeat (first | exact Below.refl _ _ | assumption | refine Below.drew ?_ | refine Below.alloc ?_ (by first | exact Nat.le_refl _ | omega | (simp; done) | (simp; omega)) _ | refine Below.setCell ?_ (by first | exact Nat.le_refl _ | omega | (simp; done) | (simp; omega)) _))).mono ?_
      rintro e w6 ⟨rfl, F', V', q1, qv, q2⟩
      have HQ1 := hid q1
      have HQv := hid qv
      have HQ2 := hid (HCk.out.trans ((Chg.below (show Below wr.heap.size wr _ from (by repeat (first | exact Below.refl _ _ | assumption | refine Below.drew ?_ | refine Below.alloc ?_ (by first | exact Nat.le_refl _ | omega | (simp; done) | (simp; omega)) _ | refine Below.setCell ?_ (by first | exact Nat.le_refl _ | omega | (simp; done) | (simp; omega)) _)))).trans q2))
      clear q1 qv q2
      go_wp2
      go_roundw
      case rel => exact ⟨k + 1, F', V', by omega, by go_num, by rw [HNx.out]; exact HQ1.out, HQv.out, HQ2.out⟩
      case measure => simp [intOf]; omega
    · have e : k = len := by omega
      subst e
      have HTk : Hid (cs.take k = cs) := hid (List.take_of_length_le (by rw [HLz.out]; exact Nat.le_refl _))
      obtain ⟨hfu, hCC, -, hHH, hTT, -⟩ := new_full (n := n) (H := (0, 0)) (cs := cs) wf_zero cons_zero (fun d hd => HWf.out d hd) 0
      have hSk := HSk.out
      rw [HTk.out] at hSk
      have HPr := hid (fun (W : World) (hb : Below wr.heap.size wr W) => propagate_impl M mb F V (newS n (0, 0) cs 0) W (hSk.below hb) HVk.out hfu (by rw [hCC, HLz.out]; omega) (by rw [hTT]; have := free_most (newS n (0, 0) cs 0).H; simp; omega))
      clear hrow hfu hCC hHH hTT hSk
      go_wp2_with fail
      refine (HPr.out _ (by repeat (first | exact Below.refl _ _ | assumption | refine Below.drew ?_ | refine Below.alloc ?_ (by first | exact Nat.le_refl _ | omega | (simp; done) | (simp; omega)) _ | refine Below.setCell ?_ (by first | exact Nat.le_refl _ | omega | (simp; done) | (simp; omega)) _))).mono ?_
      rintro e w6 ⟨rfl, F', V', q1, qv, q2, -⟩
      have HQ1 := hid q1
      have HQv := hid qv
      obtain ⟨-, hbel, hge⟩ := HRk.out w6 F' V' (HCk.out.trans ((Chg.below (show Below wr.heap.size wr _ from (by repeat (first | exact Below.refl _ _ | assumption | refine Below.drew ?_ | refine Below.alloc ?_ (by first | exact Nat.le_refl _ | omega | (simp; done) | (simp; omega)) _ | refine Below.setCell ?_ (by first | exact Nat.le_refl _ | omega | (simp; done) | (simp; omega)) _)))).trans q2))
      have HBe := hid hbel
      have HG6 := hid hge
      clear q1 qv q2 hbel hge
      go_wp2
      go_ret
      exact ⟨M, mb, F', V', rfl, HQ1.out, HQv.out, HBe.out, HMb.out.1, HMb.out.2, HG6.out⟩
end Go.Proofs.YtolejaegnkcjjaaGreatDoor.chkNew

/- slices.Delete of one set of literals out of a row that a call owns; conditions: the place is within the row. -/
namespace Go.Proofs.YtolejaegnkcjjaaGreatDoor.deleteI
open Go.RowKit Go.Deep Go.Maps Go base sets solSets solOps solMath solMem solAddI chkNew
set_option linter.unusedVariables false
set_option linter.unusedSimpArgs false

theorem flatC_drop : ∀ (C : List LS) (k : Nat), flatC (C.drop k) = (flatC C).drop (k * 2)
  | C, 0 => by simp
  | [], k + 1 => by simp [flatC]
  | c :: r, k + 1 => by rw [List.drop_succ_cons, flatC_drop r k, show (k + 1) * 2 = k * 2 + 2 by omega]; simp [flatC]
theorem flatC_one : ∀ (C : List LS), ∀ u ∈ flatC C, u.oneCell' = true
  | [], u, h => by cases h
  | c :: r, u, h => by
    simp only [flatC, List.mem_cons] at h
    rcases h with rfl | rfl | h
    · rfl
    · rfl
    · exact flatC_one r u h
theorem clear_one (w : World) (ty : TypeId) (b o c : Nat) (h0 : (w.cell? ⟨b, o, none⟩).isSome = true) (h1 : (w.cell? ⟨b, o + 1, none⟩).isSome = true) (f0 : w.frozen? ⟨b, o, none⟩ = false) (f1 : w.frozen? ⟨b, o + 1, none⟩ = false) :
    (Builtin.clear_ #[69] ty #[.slice (some ⟨b, o, none⟩) 1 c]).run Tryz.prog w = .ok (.tuple #[]) (w.setCells b o [.int .u64 0, .int .u64 0]) := by
  have hv : ∀ w, (zeroValue 78).run Tryz.prog w = .ok (.agg #[.int .u64 0, .int .u64 0]) w := fun w => by kernel_rfl
  have hst := run_storeCells_cells (P := Tryz.prog) b o [.int .u64 0, .int .u64 0] 0 w (by intro j hj; rcases j with _ | _ | j; simpa using h0; simpa using h1; simp at hj; omega) (by intro j hj; rcases j with _ | _ | j; simpa using f0; simpa using f1; simp at hj; omega) (by intro v hv'; simp at hv'; subst hv'; rfl)
  simp only [Nat.add_zero] at hst
  have hz : (Builtin.zeroCells (Value.agg #[.int .u64 0, .int .u64 0]).cells 1).toList = [.int .u64 0, .int .u64 0] := by simp [Builtin.zeroCells, Value.cells, List.range_succ]; try rfl
  simp [Builtin.clear_, run_underlying Tryz.underlying69, hv, hz, hst]
theorem set_grown {w W : World} {g : Nat} (h : w.grownBy W (some g)) (o : Nat) (vs : List Value) : w.grownBy (W.setCells g o vs) (some g) := by
  obtain ⟨h1, h2, h3, h4, h5, _⟩ := solDue.setCells_facts g vs o W
  exact ⟨h1.trans h.os, h2.trans h.tape, h3.trans h.output, by rw [h4]; exact h.size, fun j hj hne => (h5 j (fun e => hne (by rw [e]))).trans (h.block j hj hne)⟩
set_option maxHeartbeats 4000000 in
set_option maxRecDepth 1000000 in
theorem delete_impl (B g n cap k : Nat) (cs : List LS) (w : World) (ho : w.ownsRow B 78 2 (.slice (some ⟨g, 0, none⟩) n cap) n (flatC cs)) (hl : cs.length = n) (hk : k < n) :
    Calls Tryz.prog 75 #[.slice (some ⟨g, 0, none⟩) n cap, .int .i64 (k : Int), .int .i64 ((k : Int) + 1)] w fun e w' => e = .returned (.slice (some ⟨g, 0, none⟩) (n - 1) cap) ∧ LsRow w' (some ⟨g, 0, none⟩) (n - 1) (cs.eraseIdx k) ∧ w.grownBy w' (some g) := by
  obtain ⟨hcap, hm, hall, hrow, hfz⟩ : n ≤ cap ∧ cap ≤ maxLen ∧ (∀ j, j < cap * 2 → (w.cell? ⟨g, j, none⟩).isSome = true) ∧ (∀ j u, (flatC cs)[j]? = some u → w.cell? ⟨g, j, none⟩ = some u) ∧ ∀ j, w.frozen? ⟨g, j, none⟩ = false := by
    rcases ho.2 with ⟨e, _⟩ | ⟨g', c, cur, e, hg, hh, hn, hm, hs, ht⟩
    · cases e
    · injection e with e1 e2 e3
      injection e1 with e1
      injection e1 with e1
      subst e1 e3
      refine ⟨hn, hm, fun j hj => by simp [World.cell?, hh, Array.getElem?_eq_getElem (show j < cur.size by omega)], fun j u hu => ?_, fun j => by simp [World.frozen?, hh]⟩
      have hjl : j < (flatC cs).length := (List.getElem?_eq_some_iff.1 hu).1
      rw [flatC_len] at hjl
      rw [← ht, List.getElem?_take, if_pos (by omega), Array.getElem?_toList] at hu
      simp [World.cell?, hh, hu]
  unfold maxLen at hm
  obtain ⟨news, hnews⟩ : ∃ news, flatC (cs.drop (k + 1)) = news := ⟨_, rfl⟩
  have hnl : news.length = (n - (k + 1)) * 2 := by rw [← hnews, flatC_len, List.length_drop, hl]
  have hng : ∀ t u, news[t]? = some u → w.cell? ⟨g, (k + 1) * 2 + t, none⟩ = some u := fun t u hu => by
    rw [← hnews, flatC_drop, List.getElem?_drop] at hu
    exact hrow _ u hu
  obtain ⟨A, hA, hsrc⟩ : ∃ A : Addr, (if cap = k + 1 then some (⟨g, 0, none⟩ : Addr) else some ⟨g, (k + 1) * 2, none⟩) = some A ∧ Hid (∀ t u, news[t]? = some u → w.drew.cell? (A.add t) = some u) := by
    by_cases h : cap = k + 1
    · refine ⟨⟨g, 0, none⟩, by simp [h], fun t u hu => ?_⟩
      have h0 : news.length = 0 := by rw [hnl]; omega
      rw [List.length_eq_zero_iff.1 h0] at hu
      simp at hu
    · refine ⟨⟨g, (k + 1) * 2, none⟩, by simp [h], fun t u hu => ?_⟩
      rw [Addr.add_lit]
      exact hng t u hu
  have s1 : Hid (news.length = (n - (k + 1)) * 2) := hnl
  have s2 : Hid (∀ u ∈ news, u.oneCell' = true) := by rw [← hnews]; exact flatC_one _
  have s3 : Hid (∀ t, t < news.length → (w.drew.cell? ⟨g, 0 + k * 2 + t, none⟩).isSome = true ∧ w.drew.frozen? ⟨g, 0 + k * 2 + t, none⟩ = false) := fun t ht => by
    rw [hnl] at ht
    exact ⟨hall _ (by omega), hfz _⟩
  obtain ⟨W1, hW1⟩ : ∃ W1, W1 = w.drew.setCells g (0 + k * 2) news := ⟨_, rfl⟩
  have hcl : ∀ ty c, (Builtin.clear_ #[69] ty #[.slice (some ⟨g, (k + (n - (k + 1))) * 2, none⟩) (n - (k + (n - (k + 1)))) c]).run Tryz.prog W1 = .ok (.tuple #[]) (W1.setCells g ((k + (n - (k + 1))) * 2) [.int .u64 0, .int .u64 0]) := fun ty c => by
    have hs : ∀ j, j < cap * 2 → (W1.cell? ⟨g, j, none⟩).isSome = true := fun j hj => by
      rw [hW1]
      exact World.isSome_setCells g news _ w.drew _ (hall j hj)
    have hf : ∀ j, W1.frozen? ⟨g, j, none⟩ = false := fun j => by rw [hW1, World.frozen?_setCells]; exact hfz j
    rw [show n - (k + (n - (k + 1))) = 1 by omega]
    exact clear_one W1 ty g _ c (hs _ (by omega)) (hs _ (by omega)) (hf _) (hf _)
  have HW := hid hW1
  have HRow := hid hrow
  have HNw := hid hnews
  have HAll := hid hall
  have i0 := info_set'
  obtain ⟨i0, hi9, hzz⟩ := Option.map_eq_some_iff.1 info_set'
  simp only [Prod.mk.injEq] at hzz
  obtain ⟨hz0, hz1, hz2⟩ := hzz
  have HI := hid hi9
  have HZ1 := hid hz1
  clear hz0 hz1 hz2 hi9 hW1 hng hrow hnews hall hfz ho hnl
  have j1 : (k : Int) ≤ (k : Int) + 1 := by omega
  have j2 : (k : Int) + 1 ≤ (n : Int) := by omega
  have j3 : (n : Int) ≤ (cap : Int) := by omega
  have j4 : (0 : Int) ≤ (k : Int) := by omega
  have j5 : ((k : Int) == (k : Int) + 1) = false := by rw [beq_eq_false_iff_ne]; omega
  have j6 : (0 : Int) ≤ (k : Int) + 1 := by omega
  have j7 : (k : Int) ≤ (cap : Int) := by omega
  go_enter Tryz.func75, Tryz.ntmps75
  go_wp2_with fail
  have mixed : Tryz.prog.follows .mixedOrders = true := rfl
  go_region_law_o (refine step_append_room rfl (.tmp 22) (.tmp 25) 69 rfl 78 i0 2 Tryz.underlying69 HI.out HZ1.out g 0 k cap (by simp [Act.eval, Act.put]) A (n - (k + 1)) (cap - (k + 1)) news (by simp [Act.eval, Act.put]) s1.out hsrc.out s2.out (by omega) s3.out ?_; rw [← HW.out])
  go_wp2_with fail
  go_ret
  have hg1 : w.grownBy W1 (some g) := by
    rw [HW.out]
    have h1 : w.grownBy w.drew (some g) := ⟨rfl, rfl, rfl, Nat.le_refl _, fun _ _ _ => rfl⟩
    exact set_grown h1 _ _
  refine ⟨by rw [show k + (n - (k + 1)) = n - 1 by omega]; rfl, ⟨by rw [List.length_eraseIdx, if_pos (by omega), hl], fun i hi => ⟨g, rfl, ?_⟩⟩, set_grown hg1 _ _⟩
  have key : ∀ j, j < 2 → ∀ u, (flatC cs)[(if i < k then i else i + 1) * 2 + j]? = some u → (W1.setCells g ((k + (n - (k + 1))) * 2) [.int .u64 0, .int .u64 0]).cell? ⟨g, i * 2 + j, none⟩ = some u := fun j hj u hu => by
    rw [World.cell?_setCells_out g _ _ _ _ (fun _ _ => .inl (by show i * 2 + j < _; omega)), HW.out]
    by_cases hik : i < k
    · rw [if_pos hik] at hu
      rw [World.cell?_setCells_out g _ _ _ _ (fun _ _ => .inl (by show i * 2 + j < _; omega))]
      exact HRow.out _ _ hu
    · rw [if_neg hik] at hu
      have ht : (i - k) * 2 + j < news.length := by rw [s1.out]; omega
      have h9 := World.cell?_setCells_in g news (0 + k * 2) w.drew (fun t ht' => (s3.out t ht').1) ((i - k) * 2 + j) ht
      rw [show 0 + k * 2 + ((i - k) * 2 + j) = i * 2 + j by omega] at h9
      rw [h9]
      have e : news[(i - k) * 2 + j]? = some u := by
        rw [← HNw.out, flatC_drop, List.getElem?_drop, show (k + 1) * 2 + ((i - k) * 2 + j) = (i + 1) * 2 + j by omega]
        exact hu
      rw [List.getElem?_eq_getElem ht] at e
      exact e
  obtain ⟨q0, q1⟩ := flatC_get cs (if i < k then i else i + 1) (by split <;> omega)
  have ee : (cs.eraseIdx k)[i]?.getD (0, 0) = cs[if i < k then i else i + 1]?.getD (0, 0) := by
    rw [List.getElem?_eraseIdx]
    split <;> rfl
  rw [ee]
  exact ⟨by have := key 0 (by omega) _ q0; simpa using this, key 1 (by omega) _ q1⟩
end Go.Proofs.YtolejaegnkcjjaaGreatDoor.deleteI

/- slices.Backward of rows of two-cell elements (sets of literals): an iterator that hands a row's elements out from the last to the first; conditions: the loop's body leaves the row as it is. -/
namespace Go.Proofs.YtolejaegnkcjjaaGreatDoor.backSet
open Go.RowKit Go.Deep Go.Shelf Go base rangeAt rangeTwo rangeNo
set_option linter.unusedVariables false
attribute [local go_sem] Oper.semAt_some

/-- A row of two-cell elements. -/
structure Row2 (W : World) (a : Option Addr) (len : Nat) (zs : List (Nat × Nat)) : Prop where
  length : zs.length = len
  most : len ≤ maxLen
  cell : ∀ i, i < len → ∃ b off, a = some ⟨b, off, none⟩ ∧ W.cell? ⟨b, off + i * 2, none⟩ = some (.int .u64 (zs[i]?.getD (0, 0)).1) ∧ W.cell? ⟨b, off + i * 2 + 1, none⟩ = some (.int .u64 (zs[i]?.getD (0, 0)).2)
theorem Row2.below {W W' : World} {a : Option Addr} {len : Nat} {zs : List (Nat × Nat)} (h : Row2 W a len zs) (hb : Below W.heap.size W W') : Row2 W' a len zs := ⟨h.length, h.most, fun i hi => by
  obtain ⟨b, off, e, h1, h2⟩ := h.cell i hi
  exact ⟨b, off, e, keep hb h1, keep hb h2⟩⟩
theorem Row2.same {W W' : World} {a : Option Addr} {len : Nat} {zs : List (Nat × Nat)} (h : Row2 W a len zs) (hb : ∀ b off, a = some ⟨b, off, none⟩ → W'.heap[b]? = W.heap[b]?) : Row2 W' a len zs := ⟨h.length, h.most, fun i hi => by
  obtain ⟨b, off, e, h1, h2⟩ := h.cell i hi
  exact ⟨b, off, e, (World.cell?_of_block (a := ⟨b, off + i * 2, none⟩) (hb b off e)).trans h1, (World.cell?_of_block (a := ⟨b, off + i * 2 + 1, none⟩) (hb b off e)).trans h2⟩⟩
/-- What has come when k rounds are over. -/
def upto {α : Type} (f : Nat → α) (k : Nat) : List α := (List.range k).map f
theorem upto_succ {α : Type} (f : Nat → α) (k : Nat) : upto f (k + 1) = upto f k ++ [f k] := by simp [upto, List.range_succ]
theorem upto_length {α : Type} (f : Nat → α) (k : Nat) : (upto f k).length = k := by simp [upto]
/-- What an iterator reads: the box of the slice, and the row. -/
def Held (Bs : Nat) (a : Option Addr) (len cap : Nat) (zs : List (Nat × Nat)) (W : World) : Prop := W.cell? ⟨Bs, 0, none⟩ = some (.slice a len cap) ∧ Row2 W a len zs

set_option maxRecDepth 100000 in
set_option maxHeartbeats 2000000 in
theorem back_no {α : Type} (encs : α → Array Value) (f : Nat → α) (Bs len cap : Nat) (a : Option Addr) (zs : List (Nat × Nat)) (he : ∀ k : Nat, k < len → encs (f k) = #[.int .i64 ((len : Int) - 1 - k), .agg #[.int .u64 (zs[len - 1 - k]?.getD (0, 0)).1, .int .u64 (zs[len - 1 - k]?.getD (0, 0)).2]]) :
    SeqNo Tryz.prog 95 #[.pointer (some ⟨Bs, 0, none⟩)] encs (fun pre x => ∃ k, k < len ∧ pre = upto f k ∧ x = f k) (fun A B => Held Bs a len cap zs A → Held Bs a len cap zs B) (fun xs => xs = upto f len) (Held Bs a len cap zs) := by
  intro l J Jx W hG hY h0
  have hmost := hG.2.most
  unfold maxLen at hmost
  have HG := hid hG
  have hBs := hG.1
  have HE := hid he
  clear hG he
  refine callsIn_of_wp Tryz.func95 rfl trivial ?_ rfl
  simp only [Tryz.ntmps95, List.size_toArray, List.length_cons, List.length_nil, Nat.reduceAdd, Nat.reduceSub, Array.replicate_succ, Array.replicate_zero, List.push_toArray, List.append_toArray, List.nil_append, List.cons_append]
  gi_wp2
  clear hBs
  gi_loopw [3] (fun i wr => ∃ k : Nat, k ≤ len ∧ i = .int .i64 ((len : Int) - 1 - k) ∧ J (upto f k) wr ∧ Held Bs a len cap zs wr)
    (fun i _ => ((intOf i) + 1).toNat)
  case atStart => exact ⟨0, Nat.zero_le _, by simp, h0, HG.out⟩
  case round =>
    obtain ⟨k, hk, rfl, hJs, hc, hr⟩ := hrel
    have HR := hid hr
    have HC := hid hc
    clear hr
    by_cases hlt : k < len
    · obtain ⟨fn, tmps, assign, body, hy, hR⟩ := yield_any (m' := 8) (hY _ (f k) wr hJs ⟨k, hlt, rfl, rfl⟩)
      rw [HE.out k hlt] at hy
      obtain ⟨b, off, ha, hcx, hcy⟩ := HR.out.cell (len - 1 - k) (by omega)
      obtain ⟨t, ht⟩ : ∃ t : Nat, (len : Int) - 1 - k = (t : Int) := ⟨len - 1 - k, by omega⟩
      have ht2 : len - 1 - k = t := by omega
      rw [ht2] at hy hcx hcy
      rw [ht] at hy ⊢
      have HT := hid ht
      have htl : (t : Int) < (len : Int) := by omega
      have hg0 : decide ((0 : Int) ≤ (t : Int)) = true := decide_eq_true (by omega)
      clear ht ht2
      subst ha
      gi_wp2
      refine hR.mono ?_
      rintro e W3 (⟨rfl, hJ3, hk3⟩ | ⟨rfl, hJx3⟩)
      · have HG3 := hid (hk3 ⟨HC.out, HR.out⟩)
        gi_wp2
        go_roundw
        case rel => exact ⟨k + 1, by omega, by rw [show (len : Int) - 1 - (k + 1 : Nat) = (t : Int) - 1 by have := HT.out; omega], by rw [upto_succ]; exact hJ3, HG3.out⟩
        case measure => simp [intOf]
      · gi_wp2
        refine bodyPost_ret (results_none rfl _ _ _) rfl ?_
        exact ⟨⟨_, rfl⟩, .inr hJx3⟩
    · obtain rfl : k = len := by omega
      have hg0 : decide ((0 : Int) ≤ (k : Int) - 1 - k) = false := decide_eq_false (by omega)
      rw [show (k : Int) - 1 - k = -1 by omega]
      gi_wp2
      go_end0
      exact ⟨⟨_, rfl⟩, .inl ⟨_, rfl, hJs⟩⟩

theorem back_two {α : Type} (encs : α → Array Value) (f : Nat → α) (Bs len cap : Nat) (a : Option Addr) (zs : List (Nat × Nat)) (he : ∀ k : Nat, k < len → encs (f k) = #[.int .i64 ((len : Int) - 1 - k), .agg #[.int .u64 (zs[len - 1 - k]?.getD (0, 0)).1, .int .u64 (zs[len - 1 - k]?.getD (0, 0)).2]]) :
    SeqTwo Tryz.prog 95 #[.pointer (some ⟨Bs, 0, none⟩)] encs (fun pre x _ => ∃ k, k < len ∧ pre = upto f k ∧ x = f k) (fun _ A B => Held Bs a len cap zs A → Held Bs a len cap zs B) (fun _ => False) (fun xs => xs = upto f len) (Held Bs a len cap zs) (fun _ => True) :=
  fun l J Jx W hG _ _ hY h0 => (back_no encs f Bs len cap a zs he l J Jx W hG (fun pre x W1 h1 h2 => by
    obtain ⟨f1, t1, a1, b1, h3, h4⟩ := hY pre x W1 h1 h2
    exact ⟨f1, t1, a1, b1, h3, h4.mono fun e W' h5 => h5.elim .inl (fun h6 => .inr ⟨h6.1, h6.2.1⟩)⟩) h0).mono fun e W' h => ⟨h.1, h.2.elim (fun ⟨xs, h1, h2⟩ => .inl ⟨xs, h1, h2, trivial⟩) .inr⟩
theorem back_impl (a : Option Addr) (len cap : Nat) (w : World) :
    Calls Tryz.prog 74 #[.slice a len cap] w fun e w' => e = .returned (.func (.func 95) #[] #[.pointer (some ⟨w.heap.size, 0, none⟩)]) ∧ w' = w.alloc (.cells #[.slice a len cap] 69) := by
  go_enter Tryz.func74, Tryz.ntmps74
  go_wp2
  go_ret
  exact ⟨rfl, rfl⟩
end Go.Proofs.YtolejaegnkcjjaaGreatDoor.backSet

/- A checker: what propagation from the opposites of a clause's literals tells (RUP), and the state behind it; conditions: none. -/
namespace Go.Proofs.YtolejaegnkcjjaaGreatDoor.chkMath
open sets solSets solMath solHold solProp solNew solClose solTrail chkNew
set_option linter.unusedVariables false
set_option linter.unusedSimpArgs false

structure Chk (cs : List LS) (s : Sv) : Prop where
  full : Full s
  C : s.C = cs
  stk : Stk (0, 0) s
  K : s.K = []
  still : s.F ≠ -1 ∨ s.D = []
  least : ∀ H, Closed cs H → Sub s.H H
theorem chk_start {n : Int} {cs : List LS} (hw : ∀ c ∈ cs, Wf c) : Chk cs (chkS n cs) ∧ (chkS n cs).n = n := by
  obtain ⟨u1, u2, u3, u4, u5, u6⟩ := new_full (n := n) (H := (0, 0)) (cs := cs) wf_zero cons_zero hw 0
  obtain ⟨d1, d2, d3, d4, d5⟩ := propF_done (meas (newS n (0, 0) cs 0) + 1) _ u1 (Nat.lt_succ_self _)
  have hst : Stk (0, 0) (newS n (0, 0) cs 0) := ⟨⟨wf_zero, by rw [u5, u4]; rfl, by rw [u5]; trivial⟩, by rw [u6]; exact List.Pairwise.nil, fun k hk => (by rw [u6] at hk; cases hk), fun k hk => (by rw [u6] at hk; cases hk)⟩
  exact ⟨⟨d1, d3.trans u2, stk_prop _ _ u1 hst, d5.trans u6, d2, fun H hc => (prop_within _ _ u1 (by rw [u2]; exact hc) (fun l hl => by rw [u4, mem_zero] at hl; cases hl)).1⟩, d4.trans u3⟩
/-- Propagation from the opposites comes to a false clause. -/
def rupP (cs : List LS) (c : LS) : Prop := meetL c (turnL c) = true ∨ ¬ ∃ H, Closed cs H ∧ Sub (turnL c) H
theorem take_app {T T' : TR} : (T ++ T').take T.length = T := by simp
end Go.Proofs.YtolejaegnkcjjaaGreatDoor.chkMath

/- What a clause that resolves away is (RAT), by sets of literals; conditions: none. -/
namespace Go.Proofs.YtolejaegnkcjjaaGreatDoor.ratMath
open sets solSets solMath solHold solProp solNew solClose solTrail chkNew chkMath
set_option linter.unusedVariables false
set_option linter.unusedSimpArgs false

/-- What a clause resolves to with another one, on a literal. -/
def resL (c d : LS) (l : Int) : LS := withL c (woL d (onlyL (-l)))
def ratAt (cs : List LS) (c : LS) (l : Int) (d : LS) : Prop := mem d (-l) = true → rupP cs (resL c d l)
def ratP (cs : List LS) (zs : List Int) : Prop := ∃ l r, zs = l :: r ∧ ∀ d ∈ cs, ratAt cs (setL zs) l d
end Go.Proofs.YtolejaegnkcjjaaGreatDoor.ratMath
