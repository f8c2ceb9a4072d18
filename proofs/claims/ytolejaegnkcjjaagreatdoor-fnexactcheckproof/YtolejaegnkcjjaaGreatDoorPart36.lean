/- RatSpec; ClsRow: one text, so that the claim has fewer files. -/
import Derived.Test.YtolejaegnkcjjaaGreatDoorPart29
import Derived.Test.YtolejaegnkcjjaaGreatDoorRupSpec
import Derived.Test.YtolejaegnkcjjaaGreatDoorPart32
import Derived.Test.YtolejaegnkcjjaaGreatDoorPart1
import Derived.OwnWalk
import Derived.WalkSpells
import Derived.Maps.AppendAt
import Derived.Laws.AppendOwnNone
import Derived.Deep.Slices
/- The specification tells whether a clause is RAT (l03Rat); conditions: literals of the variables, lengths that fit. -/
namespace Go.Proofs.YtolejaegnkcjjaaGreatDoor.ratSpec
open Go.RowKit Go.Deep Go base copy cnf sets setsOf solSets solMath solClose chkMath ratMath rowsOwn rupSpec
set_option linter.unusedVariables false
set_option linter.unusedSimpArgs false

theorem has_spec (a : Option Addr) (len cap : Nat) (zs : List Int) (l : Int) (w : World) (hr : IntRow w a len zs) :
    Calls Tryz.prog 69 #[.slice a len cap, .int .i64 l] w fun e w' => e = .returned (.bool (decide (l ∈ zs))) ∧ w' = w := by
  obtain ⟨hlen, hmost, hcell⟩ := hr
  unfold maxLen at hmost
  have HL := hid hlen
  have HC := hid hcell
  clear hlen hcell
  go_enter Tryz.func69, Tryz.ntmps69
  go_wp2
  go_loop [5] (fun i => ∃ k : Nat, k ≤ len ∧ i = .int .i64 k ∧ (zs.take k).any (fun z => decide (z = l)) = false) (fun i => len - (intOf i).toNat)
  case atStart => exact ⟨0, Nat.zero_le _, rfl, rfl⟩
  case round =>
    obtain ⟨k, hk, rfl, ha⟩ := hrel
    have HA := hid ha
    clear ha
    by_cases hlt : k < len
    · obtain ⟨b, off, rfl, hc⟩ := HC.out k hlt
      have HT : Hid (zs[k]?.getD 0 = l → l ∈ zs) := hid (fun e => by
        rw [← e, List.getElem?_eq_getElem (by rw [HL.out]; exact hlt)]
        exact List.getElem_mem _)
      have HF : Hid (zs[k]?.getD 0 ≠ l → (zs.take (k + 1)).any (fun z => decide (z = l)) = false) := hid (fun e => by
        rw [any_take_succ (d := 0) (by rw [HL.out]; exact hlt), HA.out]
        simpa using e)
      generalize zs[k]?.getD 0 = z at *
      by_cases he : z = l
      · have hq : (z == l) = true := by simp [he]
        have HE := hid he
        clear he
        go_wp2
        go_ret
        exact ⟨ret_bool (decide_eq_true (HT.out HE.out)).symm, rfl⟩
      · have hq : (z == l) = false := by simp [he]
        have HE := hid he
        clear he
        go_wp2
        go_round
        case rel => exact ⟨k + 1, by omega, by go_num, HF.out HE.out⟩
        case measure => simp [intOf]; omega
    · have e : k = len := by omega
      subst e
      have HN : Hid (¬ l ∈ zs) := hid (fun hc => by
        have h := HA.out
        rw [List.take_of_length_le (by rw [HL.out]; exact Nat.le_refl _)] at h
        have : zs.any (fun z => decide (z = l)) = true := List.any_eq_true.2 ⟨l, hc, by simp⟩
        rw [h] at this
        cases this)
      go_wp2
      go_ret
      exact ⟨ret_bool (decide_eq_false HN.out).symm, rfl⟩
theorem ratAt_list {cs : List LS} {n : Nat} {zs ys : List Int} {l : Int} (hn : n ≤ 41) (h1 : ∀ z ∈ zs, z ≠ 0 ∧ z.natAbs < n) (h2 : ∀ z ∈ ys, z ≠ 0 ∧ z.natAbs < n) (hl : l ∈ zs) :
    ratAt cs (setL zs) l (setL ys) ↔ (-l ∈ ys → rupP cs (setL (zs ++ ys.filter (fun y => y != -l)))) := by
  have hl2 := h1 l hl
  unfold ratAt
  rw [mem_set (fun z hz => (h2 z hz).1), List.contains_iff_mem, both_set (fun z hz => (by have := h1 z hz; omega)) (fun z hz => (by have := h2 z hz; omega)) hl2.1 (by omega)]
theorem filter_take {ys : List Int} {k : Nat} {q : Int → Bool} (h : k < ys.length) : (ys.take (k + 1)).filter q = (ys.take k).filter q ++ (if q (ys[k]?.getD 0) = true then [ys[k]?.getD 0] else []) := by
  rw [List.take_add_one, List.getElem?_eq_getElem h, List.filter_append]
  simp only [Option.toList_some, Option.getD_some]
  congr 1
  by_cases e : q ys[k] = true
  · rw [if_pos e, List.filter_cons_of_pos e]; rfl
  · rw [if_neg e, List.filter_cons_of_neg e]; rfl
theorem one_ints (zs : List Int) : ∀ x ∈ zs.map (Value.int .i64), x.oneCell' = true := fun x hx => by
  obtain ⟨y, _, rfl⟩ := List.mem_map.1 hx
  rfl
set_option maxHeartbeats 6400000 in
set_option maxRecDepth 8000 in
theorem rat_spec (n : Nat) (a : Option Addr) (len cap : Nat) (zss : List (List Int)) (b : Option Addr) (bl bc : Nat) (zs : List Int) (w : World) (hr : IntRows w a len zss) (hb : IntRow w b bl zs) (hn : 1 ≤ n ∧ n ≤ 41) (hl : LitsIn n zss) (hz : ∀ z ∈ zs, z ≠ 0 ∧ z.natAbs < n) (hzl : bl ≤ 4096) (hyl : ∀ ys ∈ zss, ys.length ≤ 4096) :
    Calls Tryz.prog 47 #[.slice a len cap, .int .i64 ((n : Int) - 1), .slice b bl bc] w fun e w' => ∃ t : Bool, e = .returned (.bool t) ∧ (t = true ↔ ratP (zss.map setL) zs) ∧ Below w.heap.size w w' := by
  have hmost := hb.most
  have hmost2 := hr.most
  unfold maxLen at hmost hmost2
  have hlb := hb.length
  have HLb := hid hb.length
  have HLr := hid hr.length
  have HRo := hid hr
  have HBr := hid hb
  by_cases h0 : bl = 0
  · have HN : Hid (¬ ratP (zss.map setL) zs) := hid (by
      rintro ⟨l, r, e, _⟩
      rw [e] at hlb
      simp at hlb
      omega)
    have d0 : ((bl : Int) == 0) = true := by simp [h0]
    clear hr hb hlb
    go_enter Tryz.func47, Tryz.ntmps47
    go_wp2
    go_ret
    exact ⟨false, rfl, ⟨fun e => (by cases e), fun e => absurd e HN.out⟩, (by repeat (first | exact Below.refl _ _ | assumption | refine Below.drew ?_ | refine Below.alloc ?_ (by first | exact Nat.le_refl _ | omega | (simp; done) | (simp; omega)) _ | refine Below.setCell ?_ (by first | exact Nat.le_refl _ | omega | (simp; done) | (simp; omega)) _))⟩
  · have d0 : ((bl : Int) == 0) = false := by simp; omega
    obtain ⟨g, off, rfl, hc0⟩ := hb.cell 0 (by omega)
    rw [Nat.add_zero] at hc0
    obtain ⟨l, r, hzl9⟩ : ∃ l r, zs = l :: r := by
      cases zs with
      | nil => simp at hlb; omega
      | cons l r => exact ⟨l, r, rfl⟩
    replace hc0 : w.cell? ⟨g, off, none⟩ = some (.int .i64 l) := by rw [hzl9] at hc0; exact hc0
    have hlm : l ∈ zs := by rw [hzl9]; simp
    have HIff : Hid (ratP (zss.map setL) zs ↔ ∀ ys ∈ zss, (-l ∈ ys → rupP (zss.map setL) (setL (zs ++ ys.filter (fun y => y != -l))))) := hid (by
      unfold ratP
      constructor
      · rintro ⟨l', r', e, h⟩ ys hys
        rw [hzl9] at e
        injection e with e1 e2
        subst e1
        exact (ratAt_list hn.2 hz (hl ys hys) hlm).1 (h _ (List.mem_map.2 ⟨ys, hys, rfl⟩))
      · intro h
        refine ⟨l, r, hzl9, fun d hd => ?_⟩
        obtain ⟨ys, hys, rfl⟩ := List.mem_map.1 hd
        exact (ratAt_list hn.2 hz (hl ys hys) hlm).2 (h ys hys))
    have hl0 := hz l hlm
    have HHas := hid (fun (W : World) (ya : Option Addr) (yl yc : Nat) (ys : List Int) (h : IntRow W ya yl ys) => has_spec ya yl yc ys (-l) W h)
    have HRu := hid (fun (W : World) (hbw : Below w.heap.size w W) (va : Option Addr) (vc : Nat) (ys : List Int) (hv : IntRow W va ys.length ys) (hy : ∀ z ∈ ys, z ≠ 0 ∧ z.natAbs < n) => rup_spec n a len cap zss va ys.length vc ys W (hr.below hbw) hv hn hl hy)
    have HLi := hid hl
    have HZ := hid hz
    have HYl := hid hyl
    have HSrc : Hid (∀ W, Below w.heap.size w W → ∀ j u, (zs.map (Value.int .i64))[j]? = some u → W.cell? (Addr.add ⟨g, off, none⟩ j) = some u) := hid (fun W hW j u hj => by
      rw [List.getElem?_map] at hj
      cases hq : zs[j]? with
      | none => rw [hq] at hj; cases hj
      | some y =>
        rw [hq] at hj
        injection hj with hj
        have hjl : j < zs.length := (List.getElem?_eq_some_iff.1 hq).1
        obtain ⟨b', o', e, hc⟩ := hb.cell j (by omega)
        injection e with e
        injection e with e1 e2
        subst e1
        subst e2
        rw [Addr.add_lit, ← hj]
        have := keep hW hc
        rw [hq] at this
        exact this)
    obtain ⟨i0, hi, hzz⟩ := Option.map_eq_some_iff.1 Tryz.info_int
    simp only [Prod.mk.injEq] at hzz
    obtain ⟨hz0, hz1, hz2⟩ := hzz
    have HI := hid hi
    have HZ0 := hid hz0
    have HZ1 := hid hz1
    have HZ2 := hid hz2
    obtain ⟨hn0, hn41⟩ := hn
    clear hr hb hl hz hyl hlb hzl9 hlm hi hz0 hz1 hz2
    have hmn : -9223372036854775807 ≤ l := by omega
    go_enter Tryz.func47, Tryz.ntmps47
    go_wp2
    go_loopw [8] (fun i wr => ∃ k : Nat, k ≤ len ∧ i = .int .i64 k ∧ (∀ ys ∈ zss.take k, (-l ∈ ys → rupP (zss.map setL) (setL (zs ++ ys.filter (fun y => y != -l))))) ∧ Below w.heap.size w wr) (fun i _ => len - (intOf i).toNat)
    case atStart => exact ⟨0, Nat.zero_le _, rfl, fun ys hy => (by simp at hy), Below.refl _ _⟩
    case round =>
      obtain ⟨k, hk, rfl, hall, hbr⟩ := hrel
      have HAll := hid hall
      have HBR := hid hbr
      clear hall hbr
      by_cases hlt : k < len
      · obtain ⟨bb, off2, rfl, ya, yl, yc, hyc, hyr⟩ := (HRo.out.below HBR.out).cell k hlt
        have hkz : k < zss.length := by rw [HLr.out]; exact hlt
        obtain ⟨ys, hys⟩ : ∃ ys, zss[k]?.getD [] = ys := ⟨_, rfl⟩
        rw [hys] at hyr
        have HIn : Hid (ys ∈ zss) := hid (by rw [← hys, List.getElem?_eq_getElem hkz]; exact List.getElem_mem hkz)
        have HTk : Hid (∀ q, q ∈ zss.take (k + 1) → q ∈ zss.take k ∨ q = ys) := hid (fun q hq => by
          rw [List.take_add_one, List.getElem?_eq_getElem hkz, List.mem_append] at hq
          rcases hq with hq | hq
          · exact .inl hq
          · right
            rw [List.getElem?_eq_getElem hkz] at hys
            simp at hq hys
            rw [hq, hys])
        have HYr := hid hyr
        have HYc := hid hyc
        have hyl2 : yl ≤ 4096 := by rw [← hyr.length]; exact HYl.out ys HIn.out
        have hkl : (k : Int) < (len : Int) := by omega
        clear hkz hys hyr
        by_cases hm : -l ∈ ys
        · have hmd : decide (-l ∈ ys) = true := decide_eq_true hm
          have HM := hid hm
          clear hm
          have HA := hid (HHas.out wr ya yl yc ys HYr.out)
          rw [hmd] at HA
          clear hmd
          go_wp2_with (first
            | (go_at_call 69; refine HA.out.mono ?_; rintro e w' ⟨rfl, rfl⟩)
            | (at_builtin; (refine wpList_append_own _ rfl _ _ 44 rfl w'.heap.size 3 i0 (.int .i64 0) 1 8 Tryz.underlying44 HI.out HZ0.out HZ1.out HZ2.out rfl (by decide) _ _ _ rfl (cnfDraw.own_new w' rfl (Nat.le_refl _)) ⟨g, off, none⟩ bl bc (zs.map (.int .i64)) rfl (by rw [List.length_map, HLb.out, Nat.mul_one]) (HSrc.out _ (HBR.out.alloc HBR.out.size _)) (one_ints _) (by unfold maxLen; omega) (by omega) (by simp) ?_); intro v1 w1 hown1 hg1 hnil1; have hba : Below w'.heap.size w' (w'.alloc (.cells #[] 3)) := (by repeat (first | exact Below.refl _ _ | assumption | refine Below.drew ?_ | refine Below.alloc ?_ (by first | exact Nat.le_refl _ | omega | (simp; done) | (simp; omega)) _ | refine Below.setCell ?_ (by first | exact Nat.le_refl _ | omega | (simp; done) | (simp; omega)) _)); have HB1 : Hid (Below w'.heap.size w' w1) := hid (hba.grown hg1 hba.size (fun j e => by have e' : some w'.heap.size = some j := e; injection e' with e'; omega)); have HO1 : Hid (OwnInts w'.heap.size w1 v1 zs) := hid (by unfold OwnInts; rw [HLb.out]; simpa using hown1); clear hown1 hg1 hnil1 hba))
          clear hc0 hyc
          obtain ⟨wo, hwo⟩ : ∃ wo, wo = w' := ⟨_, rfl⟩
          have HTw := hid hwo
          rw [← hwo] at HBR HYr HYc HO1 HB1 HA
          clear hwo
          go_loopw [10, 9] (fun i v wr => ∃ j : Nat, j ≤ yl ∧ i = .int .i64 j ∧ OwnInts wo.heap.size wr v (zs ++ (ys.take j).filter (fun y => y != -l)) ∧ Below wo.heap.size wo wr) (fun i _ _ => yl - (intOf i).toNat)
          case atStart => exact ⟨0, Nat.zero_le _, rfl, by simpa using HO1.out, HB1.out⟩
          case round =>
            obtain ⟨j, hj, rfl, ho, hb2⟩ := hrel
            have HO2 := hid ho
            have HB2 := hid hb2
            clear ho hb2
            have hyc := keep HB2.out HYc.out
            by_cases hjl : j < yl
            · obtain ⟨yb, yo, rfl, hyj⟩ := (HYr.out.below HB2.out).cell j hjl
              have hjy : j < ys.length := by rw [HYr.out.length]; exact hjl
              have HFt := hid (filter_take (q := fun y => y != -l) hjy)
              have hlen2 : (zs ++ (ys.take j).filter (fun y => y != -l)).length ≤ 8192 := by
                rw [List.length_append, HLb.out]
                have := List.length_filter_le (fun y => y != -l) (ys.take j)
                rw [List.length_take] at this
                omega
              generalize ys[j]?.getD 0 = y at *
              generalize hX : zs ++ (ys.take j).filter (fun y => y != -l) = X at *
              have HX := hid hX
              clear hX hjy
              by_cases hy : y = -l
              · have hyq : (y != -l) = false := by simp [hy]
                have HF2 : Hid (zs ++ (ys.take (j + 1)).filter (fun y => y != -l) = X) := hid (by rw [HFt.out, if_neg (by simp [hy]), List.append_nil]; exact HX.out)
                clear hy
                go_wp2
                go_roundw
                case rel => exact ⟨j + 1, by omega, by go_num, by rw [HF2.out]; exact HO2.out, HB2.out⟩
                case measure => simp [intOf]; omega
              · have hyq : (y != -l) = true := by simp [hy]
                have HF2 : Hid (zs ++ (ys.take (j + 1)).filter (fun y => y != -l) = X ++ [y]) := hid (by rw [HFt.out, if_pos (by simp [hy]), ← List.append_assoc, HX.out])
                clear hy
                have HB0 := hid HB2.out.size
                go_wp2_with (at_builtin; (refine wpList_append_own _ rfl _ _ 44 rfl wo.heap.size 3 i0 (.int .i64 0) 1 8 Tryz.underlying44 HI.out HZ0.out HZ1.out HZ2.out rfl (by decide) _ _ _ rfl (World.ownsRow.alloc HO2.out _) ⟨wr.heap.size, 0, none⟩ 1 1 [_] rfl rfl (cell_one_new _ _ _) (fun x hx => by simp at hx; subst hx; rfl) (by unfold maxLen; omega) (by omega) (by have := HB0.out; simp; omega) ?_); intro v' w3 hown' hgrow3 hnil3; have HO3 : Hid (OwnInts wo.heap.size w3 v' (X ++ [y])) := hid (by unfold OwnInts; rw [List.length_append, List.map_append]; exact hown'); have HB3 : Hid (Below wo.heap.size wo w3) := hid (rowsOwn.grown_below (OwnInts.below HO2.out (by repeat (first | exact Below.refl _ _ | assumption | refine Below.drew ?_ | refine Below.alloc ?_ (by first | exact Nat.le_refl _ | omega | (simp; done) | (simp; omega)) _ | refine Below.setCell ?_ (by first | exact Nat.le_refl _ | omega | (simp; done) | (simp; omega)) _))) (HB2.out.alloc HB0.out _) (by have := HB0.out; simp; omega) hgrow3); clear hown' hgrow3 hnil3)
                go_roundw
                case rel => exact ⟨j + 1, by omega, by go_num, by rw [HF2.out]; exact HO3.out, HB3.out⟩
                case measure => simp [intOf]; omega
            · have ej : j = yl := by omega
              subst ej
              have HFa : Hid (ys.take j = ys) := hid (List.take_of_length_le (by rw [HYr.out.length]; exact Nat.le_refl _))
              rw [HFa.out] at HO2
              obtain ⟨va, vc, rfl, hvr⟩ := HO2.out.form
              have HBt := hid (HBR.out.trans (HB2.out.mono HBR.out.size))
              have HRz := hid (HRu.out wr HBt.out va vc _ hvr (fun z hz => by
                rcases List.mem_append.1 hz with hz | hz
                · exact HZ.out z hz
                · exact HLi.out ys HIn.out z (List.mem_filter.1 hz).1))
              clear hvr
              obtain ⟨X, hX⟩ : ∃ X, zs ++ ys.filter (fun y => y != -l) = X := ⟨_, rfl⟩
              rw [hX] at HRz HO2
              have HX := hid hX
              rw [hX]
              clear hX
              obtain ⟨xl, hxl⟩ : ∃ xl, X.length = xl := ⟨_, rfl⟩
              rw [hxl] at HRz
              rw [hxl]
              clear hxl
              go_wp2_with fail
              refine HRz.out.mono ?_
              rintro e w5 ⟨t, rfl, ht, hb5⟩
              have HT := hid ht
              have HB5 := hid (HBt.out.trans (hb5.mono HBt.out.size))
              clear ht hb5
              cases t with
              | true =>
                go_wp2
                go_round
                case rel =>
                  refine ⟨k + 1, by omega, by go_num, fun q hq => ?_, HB5.out⟩
                  rcases HTk.out q hq with h | h
                  · exact HAll.out q h
                  · rw [h]
                    intro _
                    rw [HX.out]
                    have h9 := HT.out
                    simp at h9
                    exact h9
                case measure => simp [intOf]; omega
              | false =>
                have HNr : Hid (¬ ratP (zss.map setL) zs) := hid (fun h => by
                  have h2 := HIff.out.1 h ys HIn.out HM.out
                  rw [HX.out] at h2
                  have h9 := HT.out
                  simp at h9
                  exact h9 h2)
                go_wp2
                go_ret
                exact ⟨false, rfl, ⟨fun e => (by cases e), fun e => absurd e HNr.out⟩, HB5.out⟩
        · have HNm := hid hm
          have HA := hid (HHas.out wr ya yl yc ys HYr.out)
          rw [show decide (-l ∈ ys) = false from decide_eq_false hm] at HA
          clear hm
          go_wp2_with (go_at_call 69; refine HA.out.mono ?_; rintro e w' ⟨rfl, rfl⟩)
          go_round
          case rel =>
            refine ⟨k + 1, by omega, by go_num, fun q hq => ?_, HBR.out⟩
            rcases HTk.out q hq with h | h
            · exact HAll.out q h
            · rw [h]; exact fun h2 => absurd h2 HNm.out
          case measure => simp [intOf]; omega
      · have e : k = len := by omega
        subst e
        have HT : Hid (ratP (zss.map setL) zs) := hid (HIff.out.2 (by have h := HAll.out; rw [List.take_of_length_le (by rw [HLr.out]; exact Nat.le_refl _)] at h; exact h))
        go_wp2
        go_ret
        exact ⟨true, rfl, ⟨fun _ => HT.out, fun _ => rfl⟩, HBR.out⟩
end Go.Proofs.YtolejaegnkcjjaaGreatDoor.ratSpec

/- Rows of clauses that a call makes for itself, of clauses that were there ahead of it; conditions: none. -/
namespace Go.Proofs.YtolejaegnkcjjaaGreatDoor.clsRow
open Go.RowKit Go.Deep Go base copy
set_option linter.unusedVariables false
set_option linter.unusedSimpArgs false

/-- Slices that lay in memory ahead of the call. -/
structure Inner (w0 : World) (vals : List Value) (zss : List (List Int)) : Prop where
  len : vals.length = zss.length
  each : ∀ i, i < zss.length → ∃ a l c, vals[i]? = some (.slice a l c) ∧ IntRow w0 a l (zss[i]?.getD [])
theorem Inner.nil (w0 : World) : Inner w0 [] [] := ⟨rfl, fun i hi => absurd hi (Nat.not_lt_zero _)⟩
theorem Inner.one {w0 : World} {vals : List Value} {zss : List (List Int)} (h : Inner w0 vals zss) : ∀ u ∈ vals, u.oneCell' = true := fun u hu => by
  obtain ⟨i, hi, rfl⟩ := List.getElem_of_mem hu
  obtain ⟨a, l, c, e, _⟩ := h.each i (by rw [← h.len]; exact hi)
  rw [List.getElem?_eq_getElem hi] at e
  injection e with e
  rw [e]; rfl
theorem Inner.add {w0 : World} {vals : List Value} {zss : List (List Int)} (h : Inner w0 vals zss) {a : Option Addr} {l c : Nat} {zs : List Int} (hr : IntRow w0 a l zs) : Inner w0 (vals ++ [.slice a l c]) (zss ++ [zs]) := by
  refine ⟨by simp [h.len], fun i hi => ?_⟩
  by_cases e : i < zss.length
  · obtain ⟨a', l', c', e1, e2⟩ := h.each i e
    refine ⟨a', l', c', ?_, ?_⟩
    · rw [List.getElem?_append_left (by rw [h.len]; exact e)]; exact e1
    · rw [List.getElem?_append_left e]; exact e2
  · have : i = zss.length := by simp at hi; omega
    subst this
    refine ⟨a, l, c, ?_, ?_⟩
    · rw [List.getElem?_append_right (by rw [h.len]; exact Nat.le_refl _), h.len]; simp
    · rw [List.getElem?_append_right (Nat.le_refl _)]; simpa using hr
theorem Inner.erase {w0 : World} {vals : List Value} {zss : List (List Int)} (h : Inner w0 vals zss) (k : Nat) : Inner w0 (vals.take k ++ vals.drop (k + 1)) (zss.eraseIdx k) := by
  have e1 : vals.take k ++ vals.drop (k + 1) = vals.eraseIdx k := (List.eraseIdx_eq_take_drop_succ vals k).symm
  rw [e1]
  refine ⟨by rw [List.length_eraseIdx, List.length_eraseIdx, h.len], fun i hi => ?_⟩
  rw [List.getElem?_eraseIdx, List.getElem?_eraseIdx]
  rw [List.length_eraseIdx] at hi
  by_cases e : i < k
  · rw [if_pos e, if_pos e]
    exact h.each i (by split at hi <;> omega)
  · rw [if_neg e, if_neg e]
    exact h.each (i + 1) (by split at hi <;> omega)
theorem rows_of {w0 w : World} {B n cap : Nat} {a : Option Addr} {vals : List Value} {zss : List (List Int)} (ho : w.ownsRow B 44 1 (.slice a n cap) n vals) (hi : Inner w0 vals zss) (hb : Below w0.heap.size w0 w) : IntRows w a n zss := by
  obtain ⟨h1, h2⟩ := ho
  have hl : zss.length = n := by rw [← hi.len, h1]; omega
  rcases h2 with ⟨e, e2⟩ | ⟨g, c, cur, e, hg, hh, hn, hm, hs, ht⟩
  · injection e with e3 e4 e5
    exact ⟨hl, by rw [e2]; exact Nat.zero_le _, fun i hi' => absurd hi' (by omega)⟩
  · injection e with e3 e4 e5
    subst e3
    refine ⟨hl, Nat.le_trans hn hm, fun i hi' => ?_⟩
    obtain ⟨a', l', c', e1, e2⟩ := hi.each i (by omega)
    refine ⟨g, 0, rfl, a', l', c', ?_, e2.below hb⟩
    rw [Nat.zero_add]
    rw [← ht, List.getElem?_take, if_pos (by omega), Array.getElem?_toList] at e1
    simp [World.cell?, hh, e1]
theorem cells_of {w : World} {B n cap g : Nat} {vals : List Value} (ho : w.ownsRow B 44 1 (.slice (some ⟨g, 0, none⟩) n cap) n vals) : ∀ i u, vals[i]? = some u → w.cell? ⟨g, i, none⟩ = some u := fun i u hu => by
  obtain ⟨h1, h2⟩ := ho
  rcases h2 with ⟨e, e2⟩ | ⟨g', c, cur, e, hg, hh, hn, hm, hs, ht⟩
  · cases e
  · injection e with e3 e4 e5
    injection e3 with e3
    injection e3 with e3
    subst e3
    have hil : i < vals.length := (List.getElem?_eq_some_iff.1 hu).1
    rw [← ht, List.getElem?_take, if_pos (by omega), Array.getElem?_toList] at hu
    simp [World.cell?, hh, hu]
theorem form_of {w : World} {B n : Nat} {v : Value} {vals : List Value} (ho : w.ownsRow B 44 1 v n vals) : ∃ a cap, v = .slice a n cap ∧ n ≤ cap ∧ cap ≤ maxLen ∧ (0 < n → ∃ g, a = some ⟨g, 0, none⟩) := by
  rcases ho.2 with ⟨e, e2⟩ | ⟨g, c, cur, e, hg, hh, hn, hm, hs, ht⟩
  · exact ⟨none, 0, by rw [e, e2], by omega, Nat.zero_le _, fun h => by omega⟩
  · exact ⟨_, c, e, hn, hm, fun _ => ⟨g, rfl⟩⟩
theorem own_same {B n : Nat} {w w1 : World} {v : Value} {vals : List Value} (h : w.ownsRow B 44 1 v n vals) (hb : ∀ k, v.ownBlock = some k → w1.heap[k]? = w.heap[k]?) : w1.ownsRow B 44 1 v n vals := by
  obtain ⟨h1, h2⟩ := h
  refine ⟨h1, ?_⟩
  rcases h2 with h2 | ⟨g, cap, cur, rfl, hg, hh, rest⟩
  · exact .inl h2
  · exact .inr ⟨g, cap, cur, rfl, hg, by rw [hb g rfl]; exact hh, rest⟩
theorem own_at {N n c k : Nat} (h : (Value.slice (some ⟨N, 0, none⟩) n c).ownBlock = some k) : k = N := by
  have h' : some N = some k := h
  injection h' with h'
  exact h'.symm
theorem add_at (g off j : Nat) : (⟨g, off, none⟩ : Addr).add j = ⟨g, off + j, none⟩ := by
  by_cases h : j = 0 <;> simp [Addr.add, h]
theorem rows_empty (B N : Nat) (w : World) (hB : B ≤ w.heap.size) (hN : w.heap.size = N) : (w.alloc (.cells #[] 44)).ownsRow B 44 1 (.slice (some ⟨N, 0, none⟩) 0 0) 0 [] := by
  subst hN
  exact ⟨rfl, .inr ⟨w.heap.size, 0, #[], rfl, hB, heap_alloc_new w _, Nat.le_refl _, Nat.zero_le _, rfl, rfl⟩⟩
/-- An append of a slice that may be nil. -/
theorem wpList_append_any {P : Program} {w : World} {ops : Array Oper} {rest : List Oper} {o : Oper} {a : Act} {Q : Exit → Act → World → Prop} (hgd : o.guard = none) (s x : Operand) (t : TypeId)
    (ho : o.op = .call { callee := .builtin .append, args := #[s, x], argTypes := #[t, t] })
    (base : Nat) (e : TypeId) (i : TypeInfo) (z : Value) (size bytes : Nat) (ht : P.underlying t = some (.slice e)) (hi : P.info? e = some i) (hz : i.zero = some z)
    (hsize : i.size = size) (hby : i.bytes = bytes) (hzs : z.cells.size = size) (hsz : 0 < size)
    (v : Value) (n : Nat) (xs : List Value) (hs : a.eval s = v) (hown : w.ownsRow base e size v n xs)
    (xa : Option Addr) (m c : Nat) (news : List Value) (hx : a.eval x = .slice xa m c) (hnil : xa = none → m = 0 ∧ c = 0) (hl : news.length = m * size) (hnews : ∀ ad, xa = some ad → ∀ j u, news[j]? = some u → w.cell? (ad.add j) = some u) (h1 : ∀ u ∈ news, u.oneCell' = true)
    (h63 : n + m ≤ maxLen) (hbytes : (n + m) * bytes ≤ 140737488355328) (hbase : base ≤ w.heap.size)
    (h : ∀ v' w', w'.ownsRow base e size v' (n + m) (xs ++ news) → w.grownBy w' v.ownBlock → wpList P ops Q rest (a.put o.dst v') w') : wpList P ops Q (o :: rest) a w := by
  cases xa with
  | none =>
    obtain ⟨e1, e2⟩ := hnil rfl
    subst e1 e2
    have en : news = [] := List.length_eq_zero_iff.1 (by rw [hl, Nat.zero_mul])
    subst en
    refine wpList_append_own_none hgd s x t ho base e i size ht hi v n xs hs hown hx ?_
    exact h v w (by simpa using hown) ⟨rfl, rfl, rfl, Nat.le_refl _, fun _ _ _ => rfl⟩
  | some ad => exact wpList_append_own w hgd s x t ho base e i z size bytes ht hi hz hsize hby hzs hsz v n xs hs hown ad m c news hx hl (hnews ad rfl) h1 h63 hbytes hbase fun v' w' a1 a2 _ => h v' w' a1 a2
theorem info_rows : (Tryz.prog.info? 44).map (fun i => (i.zero, i.size, i.bytes)) = some (some (.slice none 0 0), 1, 24) := by kernel_rfl
end Go.Proofs.YtolejaegnkcjjaaGreatDoor.clsRow
