import Derived.Test.YtmkhoocokpkojaaGreatDoorPart29
import Derived.Test.YtmkhoocokpkojaaGreatDoorSolPropI
import Derived.Test.YtmkhoocokpkojaaGreatDoorPart24
import Derived.Test.YtmkhoocokpkojaaGreatDoorPart27
import Derived.Test.YtmkhoocokpkojaaGreatDoorSorted
namespace Go.Proofs.YtmkhoocokpkojaaGreatDoor.chkNew
open Go.RowKit Go.Deep Go.Maps Go base sets setsOf solSets solOps solMath solHold solProp solAdd solMem solAddI solNew solPropI solClose solTrail
set_option linter.unusedVariables false
set_option linter.unusedSimpArgs false
structure LsRow (w : World) (a : Option Addr) (len : Nat) (cs : List LS) : Prop where
 length : cs.length = len
 cell : ∀ i, i < len → ∃ b, a = some ⟨b, 0, none⟩ ∧ w.cell? ⟨b, i * 2, none⟩ = some (.int .u64 (cs[i]?.getD (0, 0)).1) ∧ w.cell? ⟨b, i * 2 + 1, none⟩ = some (.int .u64 (cs[i]?.getD (0, 0)).2)
theorem LsRow.below {w w1 : World} {a : Option Addr} {len : Nat} {cs : List LS} (h : LsRow w a len cs) (hb : Below w.heap.size w w1) : LsRow w1 a len cs := ⟨h.length, fun i hi => by
 obtain ⟨b, e, h1, h2⟩ := h.cell i hi
 exact ⟨b, e, keep hb h1, keep hb h2⟩⟩
def chkS (n : Int) (cs : List LS) : Sv := propF (meas (newS n (0, 0) cs 0) + 1) (newS n (0, 0) cs 0)
theorem cons_zero : ∀ l, mem (0, 0) l = true → mem (0, 0) (-l) = false := fun l h => by rw [mem_zero] at h; cases h
theorem nil_rows (w : World) : IntRows w none 0 [] := ⟨rfl, Nat.zero_le _, fun i hi => absurd hi (Nat.not_lt_zero _)⟩
set_option maxHeartbeats 3200000 in
set_option maxRecDepth 8000 in
theorem chk_impl (n : Int) (a : Option Addr) (len cap : Nat) (cs : List LS) (w : World) (hr : LsRow w a len cs) (hlen : len ≤ 700000) (hw : ∀ c ∈ cs, Wf c) (ht : Tab w) :
  Calls Tryz.prog 30 #[.int .i64 n, .slice a len cap] w fun e w' => ∃ M mb F V, e = .returned (.pointer (some ⟨M, 0, none⟩)) ∧ Sol 0 M mb F V (chkS n cs) w' ∧ V 0 = nilV ∧ Below w.heap.size w w' ∧ w.heap.size ≤ M ∧ w.heap.size ≤ mb ∧ ∀ a g, blk 0 F V a = some g → w.heap.size ≤ g := by
 have HR := hid hr
 have HWf := hid hw
 have hlz := hr.length
 have HLz := hid hlz
 have HNw := hid (fun (W : World) (hb : Below w.heap.size w W) => new_impl n none 0 0 [] (0, 0) W (nil_rows W) (by omega) (fun zs hz => by cases hz) wf_zero cons_zero (tab_below ht hb))
 clear hr hw ht hlz
 go_enter Tryz.func30, Tryz.ntmps30
 go_wp2_with fail
 refine (HNw.out _ (by repeat (first | exact Below.refl _ _ | assumption | refine Below.drew ?_ | refine Below.alloc ?_ (by first | exact Nat.le_refl _ | omega | (simp; done) | (simp; omega)) _ | refine Below.setCell ?_ (by first | exact Nat.le_refl _ | omega | (simp; done) | (simp; omega)) _))).mono ?_
 rintro e w5 ⟨M, mb, F0, V0, rfl, hS0, hv0, hb5, hM, hmb, hge⟩
 have HS0 : Hid (Sol 0 M mb F0 V0 (newS n (0, 0) (cs.take 0) 0) w5) := hid (by rw [List.take_zero]; exact hS0)
 have HV00 := hid hv0
 have HB5 := hid ((show Below w.heap.size w _ from (by repeat (first | exact Below.refl _ _ | assumption | refine Below.drew ?_ | refine Below.alloc ?_ (by first | exact Nat.le_refl _ | omega | (simp; done) | (simp; omega)) _ | refine Below.setCell ?_ (by first | exact Nat.le_refl _ | omega | (simp; done) | (simp; omega)) _))).trans (hb5.mono (by first | exact Nat.le_refl _ | simp)))
 have HGe0 := hid hge
 have HMb : Hid (w.heap.size ≤ M ∧ w.heap.size ≤ mb) := hid (by first | exact ⟨hM, hmb⟩ | (simp at hM hmb; omega))
 clear hS0 hv0 hb5 hM hmb hge
 have HRk : Hid (∀ wr F V, Chg M mb (blk 0 F0 V0) (blk 0 F V) w5 wr → LsRow wr a len cs ∧ Below w.heap.size w wr ∧ (∀ a g, blk 0 F V a = some g → w.heap.size ≤ g)) := hid (fun wr F V hc => by
  obtain ⟨m1, m2⟩ := HMb.out
  have hbel : Below w.heap.size w wr := HB5.out.trans (hc.toBelow HB5.out.size m1 m2 (fun a g e => HGe0.out a g e))
  refine ⟨HR.out.below hbel, hbel, fun a g hg => ?_⟩
  rcases hc.news a g hg with e | e
  · exact HGe0.out a g e
  · have := HB5.out.size; omega)
 go_wp2_with fail
 go_loopw [14] (fun i wr => ∃ (k : Nat) (F : Nat → Value) (V : Int → Value), k ≤ len ∧ i = .int .i64 k ∧ Sol 0 M mb F V (newS n (0, 0) (cs.take k) 0) wr ∧ V 0 = nilV ∧ Chg M mb (blk 0 F0 V0) (blk 0 F V) w5 wr) (fun i _ => len - (intOf i).toNat)
 case atStart => exact ⟨0, _, _, Nat.zero_le _, rfl, HS0.out, HV00.out, Chg.below (Below.refl _ _)⟩
 case round =>
  obtain ⟨k, F, V, hk, rfl, hS, hv, hC⟩ := hrel
  have HSk := hid hS
  have HVk := hid hv
  have HCk := hid hC
  obtain ⟨hrow, hbel, hge⟩ := HRk.out wr F V hC
  have HBk := hid hbel
  have HGe := hid hge
  clear hS hv hC hbel hge
  by_cases hlt : k < len
  · obtain ⟨b, rfl, c0, c1⟩ := hrow.cell k hlt
    have hkl : (k : Int) < (len : Int) := by omega
    have hzk : k < cs.length := by rw [HLz.out]; exact hlt
    obtain ⟨⟨C1, C2⟩, hcx⟩ : ∃ c, cs[k]?.getD (0, 0) = c := ⟨_, rfl⟩
    have hget : cs[k]? = some (C1, C2) := by rw [List.getElem?_eq_getElem hzk] at hcx ⊢; exact congrArg some hcx
    rw [hcx] at c0 c1
    dsimp only at c0 c1
    have hwc : Wf (C1, C2) := HWf.out _ (List.mem_of_getElem? hget)
    obtain ⟨hfu, hCC, -, -, hTT, -⟩ := new_full (n := n) (H := (0, 0)) (cs := cs.take k) wf_zero cons_zero (fun d hd => HWf.out d (List.mem_of_mem_take hd)) 0
    have HNx : Hid (newS n (0, 0) (cs.take (k + 1)) 0 = addS (newS n (0, 0) (cs.take k) 0) (C1, C2)) := hid (by
     rw [List.take_add_one, hget]
     unfold newS
     rw [List.foldl_append]
     rfl)
    have HAd := hid (fun (W : World) (hb : Below wr.heap.size wr W) => add_impl M mb F V (newS n (0, 0) (cs.take k) 0) W (HSk.out.below hb) HVk.out C1 C2 hwc hfu.ok hTT (by rw [hCC]; have := List.length_take_le k cs; omega))
    have hbw := World.block_lt_of_cell? _ _ c0
    simp only at hbw
    clear hget hcx hwc hfu hCC hTT hrow hzk
    go_wp2_with fail
    refine (HAd.out _ (by repeat (first | exact Below.refl _ _ | assumption | refine Below.drew ?_ | refine Below.alloc ?_ (by first | exact Nat.le_refl _ | omega | (simp; done) | (simp; omega)) _ | refine Below.setCell ?_ (by first | exact Nat.le_refl _ | omega | (simp; done) | (simp; omega)) _))).mono ?_
    rintro e w6 ⟨rfl, F', V', q1, qv, q2⟩
    have HQ1 := hid q1
    have HQv := hid qv
    have HQ2 := hid (HCk.out.trans ((Chg.below (show Below wr.heap.size wr _ from (by repeat (first | exact Below.refl _ _ | assumption | refine Below.drew ?_ | refine Below.alloc ?_ (by first | exact Nat.le_refl _ | omega | (simp; done) | (simp; omega)) _ | refine Below.setCell ?_ (by first | exact Nat.le_refl _ | omega | (simp; done) | (simp; omega)) _)))).trans q2))
    clear q1 qv q2
    go_wp2
    go_roundw
    case rel => exact ⟨k + 1, F', V', by omega, by go_num, by rw [HNx.out]; exact HQ1.out, HQv.out, HQ2.out⟩
    case measure => simp [intOf]; omega
  · have e : k = len := by omega
    subst e
    have HTk : Hid (cs.take k = cs) := hid (List.take_of_length_le (by rw [HLz.out]; exact Nat.le_refl _))
    obtain ⟨hfu, hCC, -, hHH, hTT, -⟩ := new_full (n := n) (H := (0, 0)) (cs := cs) wf_zero cons_zero (fun d hd => HWf.out d hd) 0
    have hSk := HSk.out
    rw [HTk.out] at hSk
    have HPr := hid (fun (W : World) (hb : Below wr.heap.size wr W) => propagate_impl M mb F V (newS n (0, 0) cs 0) W (hSk.below hb) HVk.out hfu (by rw [hCC, HLz.out]; omega) (by rw [hTT]; have := free_most (newS n (0, 0) cs 0).H; simp; omega))
    clear hrow hfu hCC hHH hTT hSk
    go_wp2_with fail
    refine (HPr.out _ (by repeat (first | exact Below.refl _ _ | assumption | refine Below.drew ?_ | refine Below.alloc ?_ (by first | exact Nat.le_refl _ | omega | (simp; done) | (simp; omega)) _ | refine Below.setCell ?_ (by first | exact Nat.le_refl _ | omega | (simp; done) | (simp; omega)) _))).mono ?_
    rintro e w6 ⟨rfl, F', V', q1, qv, q2, -⟩
    have HQ1 := hid q1
    have HQv := hid qv
    obtain ⟨-, hbel, hge⟩ := HRk.out w6 F' V' (HCk.out.trans ((Chg.below (show Below wr.heap.size wr _ from (by repeat (first | exact Below.refl _ _ | assumption | refine Below.drew ?_ | refine Below.alloc ?_ (by first | exact Nat.le_refl _ | omega | (simp; done) | (simp; omega)) _ | refine Below.setCell ?_ (by first | exact Nat.le_refl _ | omega | (simp; done) | (simp; omega)) _)))).trans q2))
    have HBe := hid hbel
    have HG6 := hid hge
    clear q1 qv q2 hbel hge
    go_wp2
    go_ret
    exact ⟨M, mb, F', V', rfl, HQ1.out, HQv.out, HBe.out, HMb.out.1, HMb.out.2, HG6.out⟩
end Go.Proofs.YtmkhoocokpkojaaGreatDoor.chkNew
namespace Go.Proofs.YtmkhoocokpkojaaGreatDoor.chkMath
open sets solSets solMath solHold solProp solNew solClose solTrail chkNew
set_option linter.unusedVariables false
set_option linter.unusedSimpArgs false
structure Chk (cs : List LS) (s : Sv) : Prop where
 full : Full s
 C : s.C = cs
 stk : Stk (0, 0) s
 K : s.K = []
 still : s.F ≠ -1 ∨ s.D = []
 least : ∀ H, Closed cs H → Sub s.H H
theorem chk_start {n : Int} {cs : List LS} (hw : ∀ c ∈ cs, Wf c) : Chk cs (chkS n cs) ∧ (chkS n cs).n = n := by
 obtain ⟨u1, u2, u3, u4, u5, u6⟩ := new_full (n := n) (H := (0, 0)) (cs := cs) wf_zero cons_zero hw 0
 obtain ⟨d1, d2, d3, d4, d5⟩ := propF_done (meas (newS n (0, 0) cs 0) + 1) _ u1 (Nat.lt_succ_self _)
 have hst : Stk (0, 0) (newS n (0, 0) cs 0) := ⟨⟨wf_zero, by rw [u5, u4]; rfl, by rw [u5]; trivial⟩, by rw [u6]; exact List.Pairwise.nil, fun k hk => (by rw [u6] at hk; cases hk), fun k hk => (by rw [u6] at hk; cases hk)⟩
 exact ⟨⟨d1, d3.trans u2, stk_prop _ _ u1 hst, d5.trans u6, d2, fun H hc => (prop_within _ _ u1 (by rw [u2]; exact hc) (fun l hl => by rw [u4, mem_zero] at hl; cases hl)).1⟩, d4.trans u3⟩
def rupP (cs : List LS) (c : LS) : Prop := meetL c (turnL c) = true ∨ ¬ ∃ H, Closed cs H ∧ Sub (turnL c) H
def rupS (s : Sv) (c : LS) : Sv × Bool := if s.F ≠ -1 ∨ meetL c (turnL c) = true then (s, true) else (backS (supS s (turnL c)).1 0, (supS s (turnL c)).2)
theorem turn_cons {c : LS} (hc : Wf c) (h : ¬ meetL c (turnL c) = true) : Cons (turnL c) := fun l hl => by
 have hr := (wf_turn hc).range hl
 rw [mem_turn hr.1] at hl
 rw [mem_turn (by have := hr.1; omega), Int.neg_neg]
 have := meet_false hc (by simpa using h) hl
 rw [mem_turn (by have := hr.1; omega), Int.neg_neg] at this
 exact this
theorem take_app {T T' : TR} : (T ++ T').take T.length = T := by simp
theorem rup_spec {cs : List LS} {s : Sv} {c : LS} (h : Chk cs s) (hc : Wf c) : Chk cs (rupS s c).1 ∧ ((rupS s c).2 = true ↔ rupP cs c) ∧ (rupS s c).1.n = s.n := by
 unfold rupS
 by_cases h0 : s.F ≠ -1 ∨ meetL c (turnL c) = true
 · rw [if_pos h0]
   refine ⟨h, ⟨fun _ => ?_, fun _ => rfl⟩, rfl⟩
   rcases h0 with h0 | h0
   · exact .inr fun ⟨H, h1, h2⟩ => h0 (full_ok h.full (by rw [h.C]; exact h1) (h.least H h1))
   · exact .inl h0
 · rw [if_neg h0]
   have hF : s.F = -1 := Classical.byContradiction fun e => h0 (.inl e)
   have hm : ¬ meetL c (turnL c) = true := fun e => h0 (.inr e)
   have hD : s.D = [] := h.still.resolve_left (fun e => e hF)
   obtain ⟨a1, a2, a3, a4, a5, ⟨T', a6⟩, a7, _⟩ := sup_spec h.full hF hD h.stk (wf_turn hc) (turn_cons hc hm)
   rw [h.K, List.nil_append] at a5
   have hk0 : (supS s (turnL c)).1.K[0]?.getD 0 = s.T.length := by rw [a5]; rfl
   obtain ⟨b1, b2, b3, b4, b5, b6, b7, b8, b9⟩ := back_stk (lv := 0) a1.ok a2 (by rw [a5]; simp) cons_zero
   have hH : (backS (supS s (turnL c)).1 0).H = s.H := by
    rw [b7, hk0]
    unfold atK
    rw [a6, take_app]
    exact h.stk.tr.h.symm
   refine ⟨⟨b1, b5.trans (a3.trans h.C), b2, by rw [b9]; simp, .inr b4, fun H hc => by rw [hH]; exact h.least H hc⟩, ?_, b6.trans a4⟩
   dsimp only
   rw [a7]
   constructor
   · intro hn
     exact .inr fun ⟨H, h1, h2⟩ => hn ⟨H, by rw [h.C]; exact h1, h.least H h1, h2⟩
   · rintro (e | hn)
     · exact absurd e hm
     · rintro ⟨H, h1, h2, h3⟩
       exact hn ⟨H, by rw [← h.C]; exact h1, h3⟩
end Go.Proofs.YtmkhoocokpkojaaGreatDoor.chkMath
namespace Go.Proofs.YtmkhoocokpkojaaGreatDoor.ratMath
open sets solSets solMath solHold solProp solNew solClose solTrail chkNew chkMath
set_option linter.unusedVariables false
set_option linter.unusedSimpArgs false
def resL (c d : LS) (l : Int) : LS := withL c (woL d (onlyL (-l)))
def ratAt (cs : List LS) (c : LS) (l : Int) (d : LS) : Prop := mem d (-l) = true → rupP cs (resL c d l)
def ratP (cs : List LS) (zs : List Int) : Prop := ∃ l r, zs = l :: r ∧ ∀ d ∈ cs, ratAt cs (setL zs) l d
theorem wf_res {c d : LS} (hc : Wf c) (hd : Wf d) (l : Int) : Wf (resL c d l) := wf_with hc (wf_wo hd _)
theorem both_set {zs ys : List Int} {l : Int} (h1 : ∀ z ∈ zs, z ≠ 0 ∧ z.natAbs < 41) (h2 : ∀ z ∈ ys, z ≠ 0 ∧ z.natAbs < 41) (hl : l ≠ 0) (hl2 : -40 ≤ l ∧ l ≤ 40) : setL (zs ++ ys.filter (fun y => y != -l)) = resL (setL zs) (setL ys) l := by
 have h3 : ∀ z ∈ zs ++ ys.filter (fun y => y != -l), z ≠ 0 ∧ z.natAbs < 41 := fun z hz => by
  rcases List.mem_append.1 hz with hz | hz
  · exact h1 z hz
  · exact h2 z (List.mem_filter.1 hz).1
 refine ls_ext (wf_set h3) (wf_res (wf_set h1) (wf_set h2) l) fun m => ?_
 unfold resL
 rw [mem_set (fun z hz => (h3 z hz).1), mem_with, mem_wo (wf_set h2) (wf_only (by omega) (by omega) (by omega)), mem_only (by omega), mem_set (fun z hz => (h1 z hz).1), mem_set (fun z hz => (h2 z hz).1), Bool.eq_iff_iff]
 simp only [List.contains_iff_mem, List.mem_append, List.mem_filter, Bool.or_eq_true, Bool.and_eq_true, bne_iff_ne, ne_eq, Bool.not_eq_true', decide_eq_false_iff_not]
 constructor
 · rintro (h | ⟨h, h'⟩)
   · exact .inl h
   · exact .inr ⟨h, fun e => h' e.symm⟩
 · rintro (h | ⟨h, h'⟩)
   · exact .inl h
   · exact .inr ⟨h, fun e => h' e.symm⟩
end Go.Proofs.YtmkhoocokpkojaaGreatDoor.ratMath
namespace Go.Proofs.YtmkhoocokpkojaaGreatDoor.chkSem
open sets solSets solMath solHold solProp solNew solAdd solClose solTrail solAddM chkNew chkMath ratMath
set_option linter.unusedVariables false
set_option linter.unusedSimpArgs false
abbrev Sp := Bool × List Int
def FindAt (cs : List LS) (c : LS) (k : Nat) : Prop := k < cs.length ∧ cs[k]?.getD (0, 0) = c ∧ ∀ j, k < j → j < cs.length → cs[j]?.getD (0, 0) ≠ c
def NoFind (cs : List LS) (c : LS) : Prop := ∀ j, j < cs.length → cs[j]?.getD (0, 0) ≠ c
theorem FindAt.uniq {cs : List LS} {c : LS} {k j : Nat} (h : FindAt cs c k) (g : FindAt cs c j) : k = j := by
 obtain ⟨h1, h2, h3⟩ := h
 obtain ⟨g1, g2, g3⟩ := g
 rcases Nat.lt_trichotomy k j with e | e | e
 · exact absurd g2 (h3 j e g1)
 · exact e
 · exact absurd h2 (g3 k e h1)
theorem NoFind.not {cs : List LS} {c : LS} {k : Nat} (h : NoFind cs c) (g : FindAt cs c k) : False := h k g.1 g.2.1
def okR (zss : List (List Int)) (zs : List Int) : Prop := rupP (zss.map setL) (setL zs) ∨ ratP (zss.map setL) zs
def ChkR : List (List Int) → List Sp → Nat → Int → Int → Prop
 | _, [], i, p, c => p = i ∧ c = 3
 | zss, (d, zs) :: r, i, p, c =>
  if d = true then (NoFind (zss.map setL) (setL zs) ∧ p = i ∧ c = 6) ∨ ∃ k, FindAt (zss.map setL) (setL zs) k ∧ ChkR (zss.eraseIdx k) r (i + 1) p c
  else (¬ okR zss zs ∧ p = i ∧ c = 8) ∨ (okR zss zs ∧ zs = [] ∧ p = i ∧ c = 0) ∨ (okR zss zs ∧ zs ≠ [] ∧ ChkR (zss ++ [zs]) r (i + 1) p c)
theorem ChkR.uniq : ∀ (r : List Sp) (zss : List (List Int)) (i : Nat) (p c p' c' : Int), ChkR zss r i p c → ChkR zss r i p' c' → p = p' ∧ c = c'
 | [], zss, i, p, c, p', c', h, g => ⟨h.1.trans g.1.symm, h.2.trans g.2.symm⟩
 | (d, zs) :: r, zss, i, p, c, p', c', h, g => by
  unfold ChkR at h g
  by_cases hd : d = true
  · rw [if_pos hd] at h g
    rcases h with ⟨h1, h2, h3⟩ | ⟨k, h1, h2⟩
    · rcases g with ⟨g1, g2, g3⟩ | ⟨j, g1, g2⟩
      · exact ⟨h2.trans g2.symm, h3.trans g3.symm⟩
      · exact (h1.not g1).elim
    · rcases g with ⟨g1, g2, g3⟩ | ⟨j, g1, g2⟩
      · exact (g1.not h1).elim
      · rw [h1.uniq g1] at h2
        exact ChkR.uniq r _ _ _ _ _ _ h2 g2
  · rw [if_neg hd] at h g
    rcases h with ⟨h1, h2, h3⟩ | ⟨h1, h2, h3, h4⟩ | ⟨h1, h2, h3⟩
    · rcases g with ⟨g1, g2, g3⟩ | ⟨g1, g2, g3, g4⟩ | ⟨g1, g2, g3⟩
      · exact ⟨h2.trans g2.symm, h3.trans g3.symm⟩
      · exact absurd g1 h1
      · exact absurd g1 h1
    · rcases g with ⟨g1, g2, g3⟩ | ⟨g1, g2, g3, g4⟩ | ⟨g1, g2, g3⟩
      · exact absurd h1 g1
      · exact ⟨h3.trans g3.symm, h4.trans g4.symm⟩
      · exact absurd h2 g2
    · rcases g with ⟨g1, g2, g3⟩ | ⟨g1, g2, g3, g4⟩ | ⟨g1, g2, g3⟩
      · exact absurd h1 g1
      · exact absurd g2 h2
      · exact ChkR.uniq r _ _ _ _ _ _ h3 g3
theorem ChkR.place : ∀ (r : List Sp) (zss : List (List Int)) (i : Nat) (p c : Int), ChkR zss r i p c → (i : Int) ≤ p ∧ p ≤ i + r.length ∧ (c = 0 ∨ c = 3 ∨ c = 6 ∨ c = 8)
 | [], zss, i, p, c, h => by have h1 : p = i := h.1; have h2 : c = 3 := h.2; simp; omega
 | (d, zs) :: r, zss, i, p, c, h => by
  unfold ChkR at h
  simp only [List.length_cons]
  by_cases hd : d = true
  · rw [if_pos hd] at h
    rcases h with ⟨h1, h2, h3⟩ | ⟨k, h1, h2⟩
    · omega
    · have := ChkR.place r _ _ _ _ h2
      omega
  · rw [if_neg hd] at h
    rcases h with ⟨h1, h2, h3⟩ | ⟨h1, h2, h3, h4⟩ | ⟨h1, h2, h3⟩
    · omega
    · omega
    · have := ChkR.place r _ _ _ _ h3
      omega
theorem ChkR.end_ {zss : List (List Int)} {ss : List Sp} {i : Nat} (h : ss.length ≤ i) : ChkR zss (ss.drop i) i i 3 := by
 rw [List.drop_eq_nil_of_le h]
 exact ⟨rfl, rfl⟩
theorem drop_cons {α : Type} {ss : List α} {i : Nat} {d : α} (h : i < ss.length) : ss.drop i = ss[i]?.getD d :: ss.drop (i + 1) := by
 rw [List.drop_eq_getElem_cons h, List.getElem?_eq_getElem h]
 rfl
theorem tin_of {s : Sv} (h : Stk (0, 0) s) : TinH s := fun p hp => by
 rw [h.tr.h, mem_ht _ _ h.tr.fresh, mem_zero, Bool.false_or]
 unfold hasT
 rw [List.any_eq_true]
 exact ⟨p, hp, by simp⟩
theorem chk_add {cs : List LS} {s : Sv} {c : LS} (h : Chk cs s) (hc : Wf c) :
  Chk (cs ++ [c]) (propF (meas (addT s c) + 1) (addT s c)) ∧ (propF (meas (addT s c) + 1) (addT s c)).n = s.n := by
 have hf := add_fullT h.full hc (tin_of h.stk)
 obtain ⟨a1, a2, a3, a4, a5, a6⟩ := addT_same s c
 obtain ⟨d1, d2, d3, d4, d5⟩ := propF_done (meas (addT s c) + 1) _ hf (Nat.lt_succ_self _)
 have hst : Stk (0, 0) (addT s c) := ⟨⟨wf_zero, by rw [a3, a4]; exact h.stk.tr.h, by rw [a4]; exact h.stk.tr.fresh⟩, by rw [a5]; exact h.stk.mono, fun k hk => (by rw [a5, h.K] at hk; cases hk), fun k hk => (by rw [a5, h.K] at hk; cases hk)⟩
 exact ⟨⟨d1, d3.trans (a1.trans (by rw [h.C])), stk_prop _ _ hf hst, d5.trans (a5.trans h.K), d2, fun H hcl => (prop_within _ _ hf (by rw [a1, h.C]; exact hcl) (by rw [a3]; exact h.least H (hcl.less fun x hx => List.mem_append_left _ hx))).1⟩, d4.trans a2⟩
end Go.Proofs.YtmkhoocokpkojaaGreatDoor.chkSem
namespace Go.Proofs.YtmkhoocokpkojaaGreatDoor.findSpec
open Go.RowKit Go.Deep Go base copy cnf eval own order sorted sets solSets chkSem
set_option linter.unusedVariables false
set_option linter.unusedSimpArgs false
set_option maxHeartbeats 400000 in
theorem same_spec (a a' : Option Addr) (len len' cap cap' : Nat) (zs ys : List Int) (w : World) (hr : IntRow w a len zs) (hr' : IntRow w a' len' ys) :
  Calls Tryz.prog 80 #[.slice a len cap, .slice a' len' cap'] w fun e w' => e = .returned (.bool (decide (zs = ys))) ∧ ∃ n, w' = w.drewN n := by
 obtain ⟨hlen, hmost, hcell⟩ := hr
 obtain ⟨hlen', hmost', hcell'⟩ := hr'
 unfold maxLen at hmost hmost'
 have HC := hid hcell
 have HC' := hid hcell'
 have HL := hid hlen
 have HL' := hid hlen'
 clear hcell hcell' hlen hlen'
 by_cases hne : len = len'
 · subst hne
   have hb : ((len : Int) != (len : Int)) = false := by simp
   go_enter Tryz.func80, Tryz.ntmps80
   go_wp2
   go_loopw [5] (fun i wr => ∃ k : Nat, k ≤ len ∧ i = .int .i64 k ∧ zs.take k = ys.take k ∧ ∃ n, wr = w.drewN n) (fun i _ => len - (intOf i).toNat)
   case atStart => exact ⟨0, Nat.zero_le _, rfl, rfl, 0, rfl⟩
   case round =>
    obtain ⟨k, hk, rfl, ht, n, hw⟩ := hrel
    have HT := hid ht
    clear ht
    by_cases hlt : k < len
    · obtain ⟨b, off, rfl, hc0⟩ := HC.out k hlt
      obtain ⟨b', off', rfl, hc0'⟩ := HC'.out k hlt
      have hc : wr.cell? ⟨b, off + k, none⟩ = some (.int .i64 (zs[k]?.getD 0)) := by rw [hw]; simpa using hc0
      have hc' : wr.cell? ⟨b', off' + k, none⟩ = some (.int .i64 (ys[k]?.getD 0)) := by rw [hw]; simpa using hc0'
      have HW := hid hw
      clear hw hc0 hc0'
      by_cases he : zs[k]?.getD 0 = ys[k]?.getD 0
      · have hq : (zs[k]?.getD 0 != ys[k]?.getD 0) = false := by simp [he]
        have HE := hid he
        clear he
        go_wp2
        go_quiet (fail)
        go_wp2
        go_roundw
        case rel => exact ⟨k + 1, by omega, by go_num, take_eq_succ (by rw [HL.out]; omega) (by rw [HL'.out]; omega) HT.out HE.out, n + nq, by rw [HW.out, World.drewN_drewN]⟩
        case measure => simp [intOf]; omega
      · have hq : (zs[k]?.getD 0 != ys[k]?.getD 0) = true := by simp [he]
        have HE := hid he
        clear he
        go_wp2
        go_quiet (fail)
        go_wp2
        go_ret
        exact ⟨ret_bool (decide_eq_false (ne_of_getD HE.out)).symm, n + nq, by rw [HW.out, World.drewN_drewN]⟩
    · have e : k = len := by omega
      subst e
      have HW := hid hw
      clear hw
      go_wp2
      go_ret
      refine ⟨ret_bool (decide_eq_true ?_).symm, n, HW.out⟩
      have := HT.out
      rwa [List.take_of_length_le (by rw [HL.out]; omega), List.take_of_length_le (by rw [HL'.out]; omega)] at this
 · have hb : ((len : Int) != (len' : Int)) = true := by simp; omega
   have hd : ¬ zs = ys := fun h => hne (by rw [← HL.out, ← HL'.out, h])
   have HD := hid hd
   clear hd
   go_enter Tryz.func80, Tryz.ntmps80
   go_wp2
   go_ret
   exact ⟨ret_bool (decide_eq_false HD.out).symm, 0, rfl⟩
theorem ord_same {zs ys : List Int} (hz : ∀ z ∈ zs, z ≠ 0 ∧ z.natAbs < 41) (hy : ∀ z ∈ ys, z ≠ 0 ∧ z.natAbs < 41) : ord zs = ord ys ↔ setL zs = setL ys := by
 have h1 := ord_rises zs
 have h2 := ord_rises ys
 constructor
 · intro h
   refine ls_ext (wf_set hz) (wf_set hy) fun l => ?_
   rw [mem_set (fun z hm => (hz z hm).1), mem_set (fun z hm => (hy z hm).1), Bool.eq_iff_iff, List.contains_iff_mem, List.contains_iff_mem, ← h1.2, ← h2.2, h]
 · intro h
   refine SS.uniq h1.1 h2.1 fun x => ?_
   rw [h1.2, h2.2]
   have : mem (setL zs) x = mem (setL ys) x := by rw [h]
   rw [mem_set (fun z hm => (hz z hm).1), mem_set (fun z hm => (hy z hm).1), Bool.eq_iff_iff, List.contains_iff_mem, List.contains_iff_mem] at this
   exact this
set_option maxHeartbeats 1600000 in
theorem find_spec (a : Option Addr) (len cap : Nat) (zss : List (List Int)) (b : Option Addr) (bl bc : Nat) (zs : List Int) (w : World) (hr : IntRows w a len zss) (hb : IntRow w b bl zs) (hl : ∀ ys ∈ zss, ys.length ≤ 4096 ∧ ∀ z ∈ ys, z ≠ 0 ∧ z.natAbs < 41) (hz : ∀ z ∈ zs, z ≠ 0 ∧ z.natAbs < 41) (hzl : zs.length ≤ 4096) :
  Calls Tryz.prog 50 #[.slice a len cap, .slice b bl bc] w fun e w' => ((NoFind (zss.map setL) (setL zs) ∧ e = .returned (.int .i64 (-1))) ∨ ∃ k : Nat, FindAt (zss.map setL) (setL zs) k ∧ e = .returned (.int .i64 (k : Int))) ∧ Below w.heap.size w w' := by
 have hmost := hr.most
 unfold maxLen at hmost
 have hlb := hb.length
 have HLr := hid hr.length
 have HR := hid hr
 have HL := hid hl
 have HZ := hid hz
 have HSo := hid (fun (W : World) (hW : Below w.heap.size w W) => sorted_spec b bl bc zs W (hb.below hW) (fun z h => by have := hz z h; omega) (by omega))
 clear hr hb hl hz
 go_enter Tryz.func50, Tryz.ntmps50
 go_wp2_with fail
 refine (HSo.out _ (by repeat (first | exact Below.refl _ _ | assumption | refine Below.drew ?_ | refine Below.alloc ?_ (by first | exact Nat.le_refl _ | omega | (simp; done) | (simp; omega)) _ | refine Below.setCell ?_ (by first | exact Nat.le_refl _ | omega | (simp; done) | (simp; omega)) _))).mono ?_
 rintro e w1 ⟨v, rfl, ho, hb1⟩
 obtain ⟨va, vc, rfl, hvr⟩ := OwnInts.form ho
 obtain ⟨nz, hnz⟩ : ∃ q, ord zs = q := ⟨_, rfl⟩
 rw [hnz] at hvr ⊢
 obtain ⟨nzl, hnl⟩ : ∃ q, nz.length = q := ⟨_, rfl⟩
 rw [hnl] at hvr ⊢
 have HVr := hid hvr
 have HNz := hid hnz
 clear hnz hnl
 generalize oppB nz = ob
 have HB1 := hid hb1
 clear ho hvr hb1 HSo
 go_wp2
 go_loopw [7] (fun i wr => ∃ k : Nat, k ≤ len ∧ i = .int .i64 ((len : Int) - 1 - k) ∧ (∀ j, j < len → len - k ≤ j → setL (zss[j]?.getD []) ≠ setL zs) ∧ Below w1.heap.size w1 wr) (fun i _ => ((intOf i) + 1).toNat)
 case atStart => exact ⟨0, Nat.zero_le _, by simp, fun j h1 h2 => by omega, Below.refl _ _⟩
 case round =>
  obtain ⟨k, hk, rfl, hno, hbr⟩ := hrel
  have HN := hid hno
  have HBr := hid hbr
  clear hno hbr
  by_cases hlt : k < len
  · obtain ⟨t, ht⟩ : ∃ t : Nat, (len : Int) - 1 - k = (t : Int) := ⟨len - 1 - k, by omega⟩
    have htl : t < len := by omega
    have hti : (t : Int) < (len : Int) := by omega
    have hg0 : decide ((0 : Int) ≤ (t : Int)) = true := decide_eq_true (by omega)
    obtain ⟨bb, off, rfl, ya, yl, yc, hyc, hyr⟩ := (HR.out.below (HB1.out.trans (HBr.out.mono HB1.out.size))).cell t htl
    have htz : t < zss.length := by rw [HLr.out]; exact htl
    have hmem : zss[t]?.getD [] ∈ zss := by rw [List.getElem?_eq_getElem htz]; exact List.getElem_mem htz
    obtain ⟨hy1, hy2⟩ := HL.out _ hmem
    have HO := hid (ord_same HZ.out hy2)
    have HT := hid ht
    generalize hys : zss[t]?.getD [] = ys at *
    have HYs := hid hys
    have HSo := hid (sorted_spec ya yl yc ys wr hyr (fun z h => by have := hy2 z h; omega) (by have := hyr.length; omega))
    rw [ht]
    clear ht hyr hy1 hy2 hmem htz hys
    go_wp2_with fail
    refine HSo.out.mono ?_
    rintro e w2 ⟨v2, rfl, ho2, hb2⟩
    obtain ⟨ua, uc, rfl, hur⟩ := OwnInts.form ho2
    have HB2 := hid (HBr.out.trans (hb2.mono HBr.out.size))
    have HUr := hid hur
    clear ho2 hur hb2 HSo
    obtain ⟨ny, hny⟩ : ∃ q, ord ys = q := ⟨_, rfl⟩
    rw [HNz.out, hny] at HO
    rw [hny] at HUr
    have HSm := hid (same_spec va ua nzl ny.length vc uc nz ny w2 (HVr.out.below HB2.out) HUr.out)
    rw [hny]
    clear hny HUr
    generalize ny.length = nyl at *
    generalize oppB ny = oc
    go_wp2_with fail
    refine HSm.out.mono ?_
    rintro e w3 ⟨rfl, n3, hw3⟩
    have HB3 : Hid (Below w1.heap.size w1 w3) := hid (by rw [hw3]; exact HB2.out.trans ((below_drewN w2 n3).mono HB2.out.size))
    clear hw3
    by_cases he : nz = ny
    · rw [decide_eq_true he]
      have HF : Hid (FindAt (zss.map setL) (setL zs) t) := hid (by
       refine ⟨by rw [List.length_map, HLr.out]; exact htl, ?_, fun j h1 h2 => ?_⟩
       · rw [List.getElem?_map]
         have := HYs.out
         rw [List.getElem?_eq_getElem (by rw [HLr.out]; exact htl)] at this ⊢
         simp only [Option.map_some, Option.getD_some] at this ⊢
         rw [this]
         exact (HO.out.1 he).symm
       · rw [List.length_map, HLr.out] at h2
         have := HN.out j h2 (by have := HT.out; omega)
         rw [List.getElem?_map]
         rw [List.getElem?_eq_getElem (by rw [HLr.out]; exact h2)] at this ⊢
         simpa using this)
      clear he
      go_wp2
      go_ret
      exact ⟨.inr ⟨t, HF.out, rfl⟩, HB1.out.trans (HB3.out.mono HB1.out.size)⟩
    · rw [decide_eq_false he]
      have HNn : Hid (setL ys ≠ setL zs) := hid (fun e => he (HO.out.2 e.symm))
      clear he
      go_wp2
      go_roundw
      case rel => exact ⟨k + 1, by omega, by rw [show (len : Int) - 1 - (k + 1 : Nat) = (t : Int) - 1 by have := HT.out; omega], fun j h1 h2 => (by
       by_cases e : j = t
       · subst e; rw [HYs.out]; exact HNn.out
       · exact HN.out j h1 (by have := HT.out; omega)), HB3.out⟩
      case measure => simp [intOf]
  · obtain rfl : k = len := by omega
    have hg0 : decide ((0 : Int) ≤ (k : Int) - 1 - k) = false := decide_eq_false (by omega)
    rw [show (k : Int) - 1 - k = -1 by omega]
    have HF : Hid (NoFind (zss.map setL) (setL zs)) := hid (fun j hj => by
     rw [List.length_map, HLr.out] at hj
     have := HN.out j hj (by omega)
     rw [List.getElem?_map]
     rw [List.getElem?_eq_getElem (by rw [HLr.out]; exact hj)] at this ⊢
     simpa using this)
    go_wp2
    go_ret
    exact ⟨.inl ⟨HF.out, rfl⟩, HB1.out.trans (HBr.out.mono HB1.out.size)⟩
end Go.Proofs.YtmkhoocokpkojaaGreatDoor.findSpec
