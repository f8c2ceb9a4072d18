/- RatSpec; RatFaceS: one text, so that the claim has fewer files. -/
import Derived.Test.YtpfecijahiikhaaGreatDoorPart40
import Derived.Test.YtpfecijahiikhaaGreatDoorPart34
import Derived.Test.YtpfecijahiikhaaGreatDoorCnfDraw
import Derived.Test.YtpfecijahiikhaaGreatDoorPart35
/- The specification tells whether a clause is RAT (l03Rat); conditions: literals of the variables, lengths that fit. -/
namespace Go.Proofs.YtpfecijahiikhaaGreatDoor.ratSpec
open Go.RowKit Go.Deep Go base copy cnf sets setsOf solSets solMath solClose chkMath ratMath rowsOwn rupSpec
set_option linter.unusedVariables false
set_option linter.unusedSimpArgs false

theorem has_spec (a : Option Addr) (len cap : Nat) (zs : List Int) (l : Int) (w : World) (hr : IntRow w a len zs) :
    Calls Tryz.prog 54 #[.slice a len cap, .int .i64 l] w fun e w' => e = .returned (.bool (decide (l ∈ zs))) ∧ w' = w := by
  obtain ⟨hlen, hmost, hcell⟩ := hr
  unfold maxLen at hmost
  have HL := hid hlen
  have HC := hid hcell
  clear hlen hcell
  go_enter Tryz.func54, Tryz.ntmps54
  go_wp2
  go_loop [5] (fun i => ∃ k : Nat, k ≤ len ∧ i = .int .i64 k ∧ (zs.take k).any (fun z => decide (z = l)) = false) (fun i => len - (intOf i).toNat)
  case atStart => exact ⟨0, Nat.zero_le _, rfl, rfl⟩
  case round =>
    obtain ⟨k, hk, rfl, ha⟩ := hrel
    have HA := hid ha
    clear ha
    by_cases hlt : k < len
    · obtain ⟨b, off, rfl, hc⟩ := HC.out k hlt
      have HT : Hid (zs[k]?.getD 0 = l → l ∈ zs) := hid (fun e => by
        rw [← e, List.getElem?_eq_getElem (by rw [HL.out]; exact hlt)]
        exact List.getElem_mem _)
      have HF : Hid (zs[k]?.getD 0 ≠ l → (zs.take (k + 1)).any (fun z => decide (z = l)) = false) := hid (fun e => by
        rw [any_take_succ (d := 0) (by rw [HL.out]; exact hlt), HA.out]
        simpa using e)
      generalize zs[k]?.getD 0 = z at *
      by_cases he : z = l
      · have hq : (z == l) = true := by simp [he]
        have HE := hid he
        clear he
        go_wp2
        go_ret
        exact ⟨ret_bool (decide_eq_true (HT.out HE.out)).symm, rfl⟩
      · have hq : (z == l) = false := by simp [he]
        have HE := hid he
        clear he
        go_wp2
        go_round
        case rel => exact ⟨k + 1, by omega, by go_num, HF.out HE.out⟩
        case measure => simp [intOf]; omega
    · have e : k = len := by omega
      subst e
      have HN : Hid (¬ l ∈ zs) := hid (fun hc => by
        have h := HA.out
        rw [List.take_of_length_le (by rw [HL.out]; exact Nat.le_refl _)] at h
        have : zs.any (fun z => decide (z = l)) = true := List.any_eq_true.2 ⟨l, hc, by simp⟩
        rw [h] at this
        cases this)
      go_wp2
      go_ret
      exact ⟨ret_bool (decide_eq_false HN.out).symm, rfl⟩
theorem ratAt_list {cs : List LS} {n : Nat} {zs ys : List Int} {l : Int} (hn : n ≤ 41) (h1 : ∀ z ∈ zs, z ≠ 0 ∧ z.natAbs < n) (h2 : ∀ z ∈ ys, z ≠ 0 ∧ z.natAbs < n) (hl : l ∈ zs) :
    ratAt cs (setL zs) l (setL ys) ↔ (-l ∈ ys → rupP cs (setL (zs ++ ys.filter (fun y => y != -l)))) := by
  have hl2 := h1 l hl
  unfold ratAt
  rw [mem_set (fun z hz => (h2 z hz).1), List.contains_iff_mem, both_set (fun z hz => (by have := h1 z hz; omega)) (fun z hz => (by have := h2 z hz; omega)) hl2.1 (by omega)]
theorem filter_take {ys : List Int} {k : Nat} {q : Int → Bool} (h : k < ys.length) : (ys.take (k + 1)).filter q = (ys.take k).filter q ++ (if q (ys[k]?.getD 0) = true then [ys[k]?.getD 0] else []) := by
  rw [List.take_add_one, List.getElem?_eq_getElem h, List.filter_append]
  simp only [Option.toList_some, Option.getD_some]
  congr 1
  by_cases e : q ys[k] = true
  · rw [if_pos e, List.filter_cons_of_pos e]; rfl
  · rw [if_neg e, List.filter_cons_of_neg e]; rfl
theorem one_ints (zs : List Int) : ∀ x ∈ zs.map (Value.int .i64), x.oneCell' = true := fun x hx => by
  obtain ⟨y, _, rfl⟩ := List.mem_map.1 hx
  rfl
set_option maxHeartbeats 6400000 in
set_option maxRecDepth 8000 in
theorem rat_spec (n : Nat) (a : Option Addr) (len cap : Nat) (zss : List (List Int)) (b : Option Addr) (bl bc : Nat) (zs : List Int) (w : World) (hr : IntRows w a len zss) (hb : IntRow w b bl zs) (hn : 1 ≤ n ∧ n ≤ 41) (hl : LitsIn n zss) (hz : ∀ z ∈ zs, z ≠ 0 ∧ z.natAbs < n) (hzl : bl ≤ 4096) (hyl : ∀ ys ∈ zss, ys.length ≤ 4096) :
    Calls Tryz.prog 28 #[.slice a len cap, .int .i64 ((n : Int) - 1), .slice b bl bc] w fun e w' => ∃ t : Bool, e = .returned (.bool t) ∧ (t = true ↔ ratP (zss.map setL) zs) ∧ Below w.heap.size w w' := by
  have hmost := hb.most
  have hmost2 := hr.most
  unfold maxLen at hmost hmost2
  have hlb := hb.length
  have HLb := hid hb.length
  have HLr := hid hr.length
  have HRo := hid hr
  have HBr := hid hb
  by_cases h0 : bl = 0
  · have HN : Hid (¬ ratP (zss.map setL) zs) := hid (by
      rintro ⟨l, r, e, _⟩
      rw [e] at hlb
      simp at hlb
      omega)
    have d0 : ((bl : Int) == 0) = true := by simp [h0]
    clear hr hb hlb
    go_enter Tryz.func28, Tryz.ntmps28
    go_wp2
    go_ret
    exact ⟨false, rfl, ⟨fun e => (by cases e), fun e => absurd e HN.out⟩, (by repeat (first | exact Below.refl _ _ | assumption | refine Below.drew ?_ | refine Below.alloc ?_ (by first | exact Nat.le_refl _ | omega | (simp; done) | (simp; omega)) _ | refine Below.setCell ?_ (by first | exact Nat.le_refl _ | omega | (simp; done) | (simp; omega)) _))⟩
  · have d0 : ((bl : Int) == 0) = false := by simp; omega
    obtain ⟨g, off, rfl, hc0⟩ := hb.cell 0 (by omega)
    rw [Nat.add_zero] at hc0
    obtain ⟨l, r, hzl9⟩ : ∃ l r, zs = l :: r := by
      cases zs with
      | nil => simp at hlb; omega
      | cons l r => exact ⟨l, r, rfl⟩
    replace hc0 : w.cell? ⟨g, off, none⟩ = some (.int .i64 l) := by rw [hzl9] at hc0; exact hc0
    have hlm : l ∈ zs := by rw [hzl9]; simp
    have HIff : Hid (ratP (zss.map setL) zs ↔ ∀ ys ∈ zss, (-l ∈ ys → rupP (zss.map setL) (setL (zs ++ ys.filter (fun y => y != -l))))) := hid (by
      unfold ratP
      constructor
      · rintro ⟨l', r', e, h⟩ ys hys
        rw [hzl9] at e
        injection e with e1 e2
        subst e1
        exact (ratAt_list hn.2 hz (hl ys hys) hlm).1 (h _ (List.mem_map.2 ⟨ys, hys, rfl⟩))
      · intro h
        refine ⟨l, r, hzl9, fun d hd => ?_⟩
        obtain ⟨ys, hys, rfl⟩ := List.mem_map.1 hd
        exact (ratAt_list hn.2 hz (hl ys hys) hlm).2 (h ys hys))
    have hl0 := hz l hlm
    have HHas := hid (fun (W : World) (ya : Option Addr) (yl yc : Nat) (ys : List Int) (h : IntRow W ya yl ys) => has_spec ya yl yc ys (-l) W h)
    have HRu := hid (fun (W : World) (hbw : Below w.heap.size w W) (va : Option Addr) (vc : Nat) (ys : List Int) (hv : IntRow W va ys.length ys) (hy : ∀ z ∈ ys, z ≠ 0 ∧ z.natAbs < n) => rup_spec n a len cap zss va ys.length vc ys W (hr.below hbw) hv hn hl hy)
    have HLi := hid hl
    have HZ := hid hz
    have HYl := hid hyl
    have HSrc : Hid (∀ W, Below w.heap.size w W → ∀ j u, (zs.map (Value.int .i64))[j]? = some u → W.cell? (Addr.add ⟨g, off, none⟩ j) = some u) := hid (fun W hW j u hj => by
      rw [List.getElem?_map] at hj
      cases hq : zs[j]? with
      | none => rw [hq] at hj; cases hj
      | some y =>
        rw [hq] at hj
        injection hj with hj
        have hjl : j < zs.length := (List.getElem?_eq_some_iff.1 hq).1
        obtain ⟨b', o', e, hc⟩ := hb.cell j (by omega)
        injection e with e
        injection e with e1 e2
        subst e1
        subst e2
        rw [Addr.add_lit, ← hj]
        have := keep hW hc
        rw [hq] at this
        exact this)
    obtain ⟨i0, hi, hzz⟩ := Option.map_eq_some_iff.1 Tryz.info_int
    simp only [Prod.mk.injEq] at hzz
    obtain ⟨hz0, hz1, hz2⟩ := hzz
    have HI := hid hi
    have HZ0 := hid hz0
    have HZ1 := hid hz1
    have HZ2 := hid hz2
    obtain ⟨hn0, hn41⟩ := hn
    clear hr hb hl hz hyl hlb hzl9 hlm hi hz0 hz1 hz2
    have hmn : -9223372036854775807 ≤ l := by omega
    go_enter Tryz.func28, Tryz.ntmps28
    go_wp2
    go_loopw [8] (fun i wr => ∃ k : Nat, k ≤ len ∧ i = .int .i64 k ∧ (∀ ys ∈ zss.take k, (-l ∈ ys → rupP (zss.map setL) (setL (zs ++ ys.filter (fun y => y != -l))))) ∧ Below w.heap.size w wr) (fun i _ => len - (intOf i).toNat)
    case atStart => exact ⟨0, Nat.zero_le _, rfl, fun ys hy => (by simp at hy), Below.refl _ _⟩
    case round =>
      obtain ⟨k, hk, rfl, hall, hbr⟩ := hrel
      have HAll := hid hall
      have HBR := hid hbr
      clear hall hbr
      by_cases hlt : k < len
      · obtain ⟨bb, off2, rfl, ya, yl, yc, hyc, hyr⟩ := (HRo.out.below HBR.out).cell k hlt
        have hkz : k < zss.length := by rw [HLr.out]; exact hlt
        obtain ⟨ys, hys⟩ : ∃ ys, zss[k]?.getD [] = ys := ⟨_, rfl⟩
        rw [hys] at hyr
        have HIn : Hid (ys ∈ zss) := hid (by rw [← hys, List.getElem?_eq_getElem hkz]; exact List.getElem_mem hkz)
        have HTk : Hid (∀ q, q ∈ zss.take (k + 1) → q ∈ zss.take k ∨ q = ys) := hid (fun q hq => by
          rw [List.take_add_one, List.getElem?_eq_getElem hkz, List.mem_append] at hq
          rcases hq with hq | hq
          · exact .inl hq
          · right
            rw [List.getElem?_eq_getElem hkz] at hys
            simp at hq hys
            rw [hq, hys])
        have HYr := hid hyr
        have HYc := hid hyc
        have hyl2 : yl ≤ 4096 := by rw [← hyr.length]; exact HYl.out ys HIn.out
        have hkl : (k : Int) < (len : Int) := by omega
        clear hkz hys hyr
        by_cases hm : -l ∈ ys
        · have hmd : decide (-l ∈ ys) = true := decide_eq_true hm
          have HM := hid hm
          clear hm
          have HA := hid (HHas.out wr ya yl yc ys HYr.out)
          rw [hmd] at HA
          clear hmd
          go_wp2_with (first
            | (go_at_call 54; refine HA.out.mono ?_; rintro e w' ⟨rfl, rfl⟩)
            | (at_builtin; (refine wpList_append_own _ rfl _ _ 27 rfl w'.heap.size 3 i0 (.int .i64 0) 1 8 Tryz.underlying27 HI.out HZ0.out HZ1.out HZ2.out rfl (by decide) _ _ _ rfl (cnfDraw.own_new w' rfl (Nat.le_refl _)) ⟨g, off, none⟩ bl bc (zs.map (.int .i64)) rfl (by rw [List.length_map, HLb.out, Nat.mul_one]) (HSrc.out _ (HBR.out.alloc HBR.out.size _)) (one_ints _) (by unfold maxLen; omega) (by omega) (by simp) ?_); intro v1 w1 hown1 hg1 hnil1; have hba : Below w'.heap.size w' (w'.alloc (.cells #[] 3)) := (by repeat (first | exact Below.refl _ _ | assumption | refine Below.drew ?_ | refine Below.alloc ?_ (by first | exact Nat.le_refl _ | omega | (simp; done) | (simp; omega)) _ | refine Below.setCell ?_ (by first | exact Nat.le_refl _ | omega | (simp; done) | (simp; omega)) _)); have HB1 : Hid (Below w'.heap.size w' w1) := hid (hba.grown hg1 hba.size (fun j e => by have e' : some w'.heap.size = some j := e; injection e' with e'; omega)); have HO1 : Hid (OwnInts w'.heap.size w1 v1 zs) := hid (by unfold OwnInts; rw [HLb.out]; simpa using hown1); clear hown1 hg1 hnil1 hba))
          clear hc0 hyc
          obtain ⟨wo, hwo⟩ : ∃ wo, wo = w' := ⟨_, rfl⟩
          have HTw := hid hwo
          rw [← hwo] at HBR HYr HYc HO1 HB1 HA
          clear hwo
          go_loopw [10, 9] (fun i v wr => ∃ j : Nat, j ≤ yl ∧ i = .int .i64 j ∧ OwnInts wo.heap.size wr v (zs ++ (ys.take j).filter (fun y => y != -l)) ∧ Below wo.heap.size wo wr) (fun i _ _ => yl - (intOf i).toNat)
          case atStart => exact ⟨0, Nat.zero_le _, rfl, by simpa using HO1.out, HB1.out⟩
          case round =>
            obtain ⟨j, hj, rfl, ho, hb2⟩ := hrel
            have HO2 := hid ho
            have HB2 := hid hb2
            clear ho hb2
            have hyc := keep HB2.out HYc.out
            by_cases hjl : j < yl
            · obtain ⟨yb, yo, rfl, hyj⟩ := (HYr.out.below HB2.out).cell j hjl
              have hjy : j < ys.length := by rw [HYr.out.length]; exact hjl
              have HFt := hid (filter_take (q := fun y => y != -l) hjy)
              have hlen2 : (zs ++ (ys.take j).filter (fun y => y != -l)).length ≤ 8192 := by
                rw [List.length_append, HLb.out]
                have := List.length_filter_le (fun y => y != -l) (ys.take j)
                rw [List.length_take] at this
                omega
              generalize ys[j]?.getD 0 = y at *
              generalize hX : zs ++ (ys.take j).filter (fun y => y != -l) = X at *
              have HX := hid hX
              clear hX hjy
              by_cases hy : y = -l
              · have hyq : (y != -l) = false := by simp [hy]
                have HF2 : Hid (zs ++ (ys.take (j + 1)).filter (fun y => y != -l) = X) := hid (by rw [HFt.out, if_neg (by simp [hy]), List.append_nil]; exact HX.out)
                clear hy
                go_wp2
                go_roundw
                case rel => exact ⟨j + 1, by omega, by go_num, by rw [HF2.out]; exact HO2.out, HB2.out⟩
                case measure => simp [intOf]; omega
              · have hyq : (y != -l) = true := by simp [hy]
                have HF2 : Hid (zs ++ (ys.take (j + 1)).filter (fun y => y != -l) = X ++ [y]) := hid (by rw [HFt.out, if_pos (by simp [hy]), ← List.append_assoc, HX.out])
                clear hy
                have HB0 := hid HB2.out.size
                go_wp2_with (at_builtin; (refine wpList_append_own _ rfl _ _ 27 rfl wo.heap.size 3 i0 (.int .i64 0) 1 8 Tryz.underlying27 HI.out HZ0.out HZ1.out HZ2.out rfl (by decide) _ _ _ rfl (World.ownsRow.alloc HO2.out _) ⟨wr.heap.size, 0, none⟩ 1 1 [_] rfl rfl (cell_one_new _ _ _) (fun x hx => by simp at hx; subst hx; rfl) (by unfold maxLen; omega) (by omega) (by have := HB0.out; simp; omega) ?_); intro v' w3 hown' hgrow3 hnil3; have HO3 : Hid (OwnInts wo.heap.size w3 v' (X ++ [y])) := hid (by unfold OwnInts; rw [List.length_append, List.map_append]; exact hown'); have HB3 : Hid (Below wo.heap.size wo w3) := hid (rowsOwn.grown_below (OwnInts.below HO2.out (by repeat (first | exact Below.refl _ _ | assumption | refine Below.drew ?_ | refine Below.alloc ?_ (by first | exact Nat.le_refl _ | omega | (simp; done) | (simp; omega)) _ | refine Below.setCell ?_ (by first | exact Nat.le_refl _ | omega | (simp; done) | (simp; omega)) _))) (HB2.out.alloc HB0.out _) (by have := HB0.out; simp; omega) hgrow3); clear hown' hgrow3 hnil3)
                go_roundw
                case rel => exact ⟨j + 1, by omega, by go_num, by rw [HF2.out]; exact HO3.out, HB3.out⟩
                case measure => simp [intOf]; omega
            · have ej : j = yl := by omega
              subst ej
              have HFa : Hid (ys.take j = ys) := hid (List.take_of_length_le (by rw [HYr.out.length]; exact Nat.le_refl _))
              rw [HFa.out] at HO2
              obtain ⟨va, vc, rfl, hvr⟩ := HO2.out.form
              have HBt := hid (HBR.out.trans (HB2.out.mono HBR.out.size))
              have HRz := hid (HRu.out wr HBt.out va vc _ hvr (fun z hz => by
                rcases List.mem_append.1 hz with hz | hz
                · exact HZ.out z hz
                · exact HLi.out ys HIn.out z (List.mem_filter.1 hz).1))
              clear hvr
              obtain ⟨X, hX⟩ : ∃ X, zs ++ ys.filter (fun y => y != -l) = X := ⟨_, rfl⟩
              rw [hX] at HRz HO2
              have HX := hid hX
              rw [hX]
              clear hX
              obtain ⟨xl, hxl⟩ : ∃ xl, X.length = xl := ⟨_, rfl⟩
              rw [hxl] at HRz
              rw [hxl]
              clear hxl
              go_wp2_with fail
              refine HRz.out.mono ?_
              rintro e w5 ⟨t, rfl, ht, hb5⟩
              have HT := hid ht
              have HB5 := hid (HBt.out.trans (hb5.mono HBt.out.size))
              clear ht hb5
              cases t with
              | true =>
                go_wp2
                go_round
                case rel =>
                  refine ⟨k + 1, by omega, by go_num, fun q hq => ?_, HB5.out⟩
                  rcases HTk.out q hq with h | h
                  · exact HAll.out q h
                  · rw [h]
                    intro _
                    rw [HX.out]
                    have h9 := HT.out
                    simp at h9
                    exact h9
                case measure => simp [intOf]; omega
              | false =>
                have HNr : Hid (¬ ratP (zss.map setL) zs) := hid (fun h => by
                  have h2 := HIff.out.1 h ys HIn.out HM.out
                  rw [HX.out] at h2
                  have h9 := HT.out
                  simp at h9
                  exact h9 h2)
                go_wp2
                go_ret
                exact ⟨false, rfl, ⟨fun e => (by cases e), fun e => absurd e HNr.out⟩, HB5.out⟩
        · have HNm := hid hm
          have HA := hid (HHas.out wr ya yl yc ys HYr.out)
          rw [show decide (-l ∈ ys) = false from decide_eq_false hm] at HA
          clear hm
          go_wp2_with (go_at_call 54; refine HA.out.mono ?_; rintro e w' ⟨rfl, rfl⟩)
          go_round
          case rel =>
            refine ⟨k + 1, by omega, by go_num, fun q hq => ?_, HBR.out⟩
            rcases HTk.out q hq with h | h
            · exact HAll.out q h
            · rw [h]; exact fun h2 => absurd h2 HNm.out
          case measure => simp [intOf]; omega
      · have e : k = len := by omega
        subst e
        have HT : Hid (ratP (zss.map setL) zs) := hid (HIff.out.2 (by have h := HAll.out; rw [List.take_of_length_le (by rw [HLr.out]; exact Nat.le_refl _)] at h; exact h))
        go_wp2
        go_ret
        exact ⟨true, rfl, ⟨fun _ => HT.out, fun _ => rfl⟩, HBR.out⟩
end Go.Proofs.YtpfecijahiikhaaGreatDoor.ratSpec

/- Rat of the specification; conditions: lengths that fit. -/
namespace Go.Proofs.YtpfecijahiikhaaGreatDoor.ratFaceS
open Go.RowKit Go.Deep Go base copy cnf sets setsOf solSets solMath solClose solTrail chkMath ratMath rupSpec ratSpec rupFaceS
set_option linter.unusedVariables false
set_option linter.unusedSimpArgs false

structure RatAns (vars : Int) (zss : List (List Int)) (zs : List Int) (t : Bool) (c : Int) : Prop where
  code : c = rupCode vars zss zs
  no : c ≠ 0 → t = false
  yes : c = 0 → (t = true ↔ ratP (zss.map setL) zs)
theorem RatAns.uniq {vars : Int} {zss : List (List Int)} {zs : List Int} {t t' : Bool} {c c' : Int} (h : RatAns vars zss zs t c) (k : RatAns vars zss zs t' c') : t = t' ∧ c = c' := by
  have e : c = c' := h.code.trans k.code.symm
  refine ⟨?_, e⟩
  by_cases h0 : c = 0
  · have h1 := h.yes h0
    have h2 := k.yes (by rw [← e]; exact h0)
    rw [Bool.eq_iff_iff, h1, h2]
  · rw [h.no h0, k.no (by rw [← e]; exact h0)]
theorem cnf_short {vars : Int} {zss : List (List Int)} (h : cnfB vars zss = true) : ∀ ys ∈ zss, ys.length ≤ 4096 := fun ys hy => by
  unfold cnfB at h
  rw [Bool.and_eq_true, List.all_eq_true] at h
  have h2 := h.2 ys hy
  unfold clauseB at h2
  rw [Bool.and_eq_true, decide_eq_true_eq] at h2
  omega
set_option maxHeartbeats 3200000 in
set_option maxRecDepth 8000 in
theorem rat_spec' (vars : Int) (a : Option Addr) (len cap : Nat) (zss : List (List Int)) (b : Option Addr) (bl bc : Nat) (zs : List Int) (w : World) (hr : IntRows w a len zss) (hb : IntRow w b bl zs) :
    Calls Tryz.prog 9 #[.agg #[.int .i64 vars, .slice a len cap], .slice b bl bc] w fun e w' => ∃ (t : Bool) (c : Int), e = .returned (.tuple #[.bool t, .int .i64 c]) ∧ RatAns vars zss zs t c ∧ Below w.heap.size w w' := by
  have hmost := hb.most
  unfold maxLen at hmost
  have HLb := hid hb.length
  have HRo := hid hr
  have HBr := hid hb
  have hlb := hb.length
  have HCo := hid (fun (W : World) (hbw : Below w.heap.size w W) => cnfOK_spec vars a len cap zss W (hr.below hbw))
  clear hr hb
  by_cases h1 : 4096 < bl
  · have HA : Hid (RatAns vars zss zs false 2) := hid ⟨by unfold rupCode; rw [if_pos (by omega)], fun _ => rfl, fun h => by cases h⟩
    have d1 : (4096 : Int) < (bl : Int) := by omega
    clear hlb
    go_enter Tryz.func9, Tryz.ntmps9
    go_wp2
    go_ret2
    exact ⟨false, 2, rfl, HA.out, (by repeat (first | exact Below.refl _ _ | assumption | refine Below.drew ?_ | refine Below.alloc ?_ (by first | exact Nat.le_refl _ | omega | (simp; done) | (simp; omega)) _ | refine Below.setCell ?_ (by first | exact Nat.le_refl _ | omega | (simp; done) | (simp; omega)) _))⟩
  · have d1 : ¬ (4096 : Int) < (bl : Int) := by omega
    cases hck : cnfB vars zss with
    | false =>
      have HA : Hid (RatAns vars zss zs false 1) := hid ⟨by unfold rupCode; rw [if_neg (by omega), if_pos (by rw [hck]; rfl)], fun _ => rfl, fun h => by cases h⟩
      rw [hck] at HCo
      clear hlb hck
      go_enter Tryz.func9, Tryz.ntmps9
      go_wp2_with fail
      refine (HCo.out _ (by repeat (first | exact Below.refl _ _ | assumption | refine Below.drew ?_ | refine Below.alloc ?_ (by first | exact Nat.le_refl _ | omega | (simp; done) | (simp; omega)) _ | refine Below.setCell ?_ (by first | exact Nat.le_refl _ | omega | (simp; done) | (simp; omega)) _))).mono ?_
      rintro e w1 ⟨rfl, hb1⟩
      have H1 := hid ((show Below w.heap.size w _ from (by repeat (first | exact Below.refl _ _ | assumption | refine Below.drew ?_ | refine Below.alloc ?_ (by first | exact Nat.le_refl _ | omega | (simp; done) | (simp; omega)) _ | refine Below.setCell ?_ (by first | exact Nat.le_refl _ | omega | (simp; done) | (simp; omega)) _))).trans (Below.mono hb1 (by simp)))
      clear hb1
      go_wp2
      go_ret2
      exact ⟨false, 1, rfl, HA.out, H1.out⟩
    | true =>
      rw [hck] at HCo
      obtain ⟨hv0, hv1, hv2⟩ := rupFaceS.cnf_vars hck
      obtain ⟨n, hn⟩ : ∃ n : Nat, vars = (n : Int) - 1 := ⟨(vars + 1).toNat, by omega⟩
      have HCl := hid (fun (W : World) (hbw : Below w.heap.size w W) => clause_spec b bl bc zs vars W hv0 hv1 (HBr.out.below hbw))
      cases hcl : clauseB vars zs with
      | false =>
        have HA : Hid (RatAns vars zss zs false 1) := hid ⟨by unfold rupCode; rw [if_neg (by omega), if_pos (by rw [hck, hcl]; rfl)], fun _ => rfl, fun h => by cases h⟩
        rw [hcl] at HCl
        clear hlb hck hcl hn
        go_enter Tryz.func9, Tryz.ntmps9
        go_wp2_with fail
        refine (HCo.out _ (by repeat (first | exact Below.refl _ _ | assumption | refine Below.drew ?_ | refine Below.alloc ?_ (by first | exact Nat.le_refl _ | omega | (simp; done) | (simp; omega)) _ | refine Below.setCell ?_ (by first | exact Nat.le_refl _ | omega | (simp; done) | (simp; omega)) _))).mono ?_
        rintro e w1 ⟨rfl, hb1⟩
        have f0 := keep hb1 (show (w.alloc (.cells #[.int .i64 vars, .slice a len cap] 25)).cell? ⟨w.heap.size, 0, none⟩ = some (.int .i64 vars) by simp [go_sem])
        have H1 := hid ((show Below w.heap.size w _ from (by repeat (first | exact Below.refl _ _ | assumption | refine Below.drew ?_ | refine Below.alloc ?_ (by first | exact Nat.le_refl _ | omega | (simp; done) | (simp; omega)) _ | refine Below.setCell ?_ (by first | exact Nat.le_refl _ | omega | (simp; done) | (simp; omega)) _))).trans (Below.mono hb1 (by simp)))
        clear hb1
        go_wp2_with fail
        refine (HCl.out _ H1.out).mono ?_
        rintro e w2 ⟨rfl, rfl⟩
        go_wp2
        go_ret2
        exact ⟨false, 1, rfl, HA.out, H1.out⟩
      | true =>
        have HRu := hid (fun (W : World) (hbw : Below w.heap.size w W) => rat_spec n a len cap zss b bl bc zs W (HRo.out.below hbw) (HBr.out.below hbw) (by omega) (cnf_in (by rw [← hn]; exact hck)) (clause_in (by rw [← hn]; exact hcl)) (by omega) (cnf_short hck))
        rw [← hn] at HRu
        have HA : Hid (∀ t : Bool, (t = true ↔ ratP (zss.map setL) zs) → RatAns vars zss zs t 0) := hid (fun t ht => ⟨by unfold rupCode; rw [if_neg (by omega), if_neg (by rw [hck, hcl]; decide)], fun h => absurd rfl h, fun _ => ht⟩)
        rw [hcl] at HCl
        clear hlb hck hcl hn
        go_enter Tryz.func9, Tryz.ntmps9
        go_wp2_with fail
        refine (HCo.out _ (by repeat (first | exact Below.refl _ _ | assumption | refine Below.drew ?_ | refine Below.alloc ?_ (by first | exact Nat.le_refl _ | omega | (simp; done) | (simp; omega)) _ | refine Below.setCell ?_ (by first | exact Nat.le_refl _ | omega | (simp; done) | (simp; omega)) _))).mono ?_
        rintro e w1 ⟨rfl, hb1⟩
        have f0 := keep hb1 (show (w.alloc (.cells #[.int .i64 vars, .slice a len cap] 25)).cell? ⟨w.heap.size, 0, none⟩ = some (.int .i64 vars) by simp [go_sem])
        have f1 := keep hb1 (show (w.alloc (.cells #[.int .i64 vars, .slice a len cap] 25)).cell? ⟨w.heap.size, 1, none⟩ = some (.slice a len cap) by simp [go_sem])
        have H1 := hid ((show Below w.heap.size w _ from (by repeat (first | exact Below.refl _ _ | assumption | refine Below.drew ?_ | refine Below.alloc ?_ (by first | exact Nat.le_refl _ | omega | (simp; done) | (simp; omega)) _ | refine Below.setCell ?_ (by first | exact Nat.le_refl _ | omega | (simp; done) | (simp; omega)) _))).trans (Below.mono hb1 (by simp)))
        clear hb1
        go_wp2_with fail
        refine (HCl.out _ H1.out).mono ?_
        rintro e w2 ⟨rfl, rfl⟩
        go_wp2_with fail
        refine (HRu.out _ H1.out).mono ?_
        rintro e w3 ⟨t, rfl, ht, hb3⟩
        have HT := hid ht
        have HB3 := hid (H1.out.trans (hb3.mono H1.out.size))
        clear ht hb3
        go_wp2
        go_ret2
        exact ⟨t, 0, rfl, HA.out t HT.out, HB3.out⟩
end Go.Proofs.YtpfecijahiikhaaGreatDoor.ratFaceS
