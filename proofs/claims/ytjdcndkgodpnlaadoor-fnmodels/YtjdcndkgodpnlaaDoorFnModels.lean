/- For all codes: LeastModel and CountModels tell of the formula drawn out of them its first model, the first variable counting most, and how many it has, or that it has none; the library's table is as its initialiser lays it, tied to the program's text; conditions: none. -/
import Derived.Test.YtjdcndkgodpnlaaDoorPart49
import Derived.Test.YtjdcndkgodpnlaaDoorPart50
import Derived.Test.YtjdcndkgodpnlaaDoorCnfDraw
import Derived.Test.YtjdcndkgodpnlaaDoorCards
import Derived.Test.YtjdcndkgodpnlaaDoorTie
import Derived.OpenVars
import Derived.SevenTiedAt
import Derived.Deep.DeepHandedRow
import Derived.Lib.LaidTab
import Derived.LaidSub
namespace Go.Proofs.YtjdcndkgodpnlaaDoor.fnModels
open Go.ChangeShapes Go.WideShapes Go.ChangeAt Go.RowKit Go.Deep Go.Joins base copy cnf eval sets args byteArgs rowsOwn source cnfDraw solSets solOps solMath solMem solClose cdState cdLeast impMath modelsMath leastModI count
open nodes (OwnBools)
set_option linter.unusedVariables false
set_option linter.unusedSimpArgs false

theorem rows_is {B n c : Nat} {w : World} {a : Option Addr} {ps : List (Value × List Int)} {L : List (List Int)} (h : OwnRows B w (.slice a n c) ps) (e : ps.map (·.2) = L) : IntRows w a n L := by
  rw [← e]
  exact rows_of_own h
/-- What LeastModel says, by the first model. -/
theorem says {Z : List (List Int)} {n : Nat} (hn : n ≤ 40) (hz : cnfB n Z = true) {w w' : World} {e : Ending} (h : MI Z n w e w') : ∃ (v : Value) (vs : List Bool) (c : Int), e = .returned (.tuple #[v, .int .i64 c]) ∧ OwnBools w.heap.size w' v vs ∧ ((c = 0 ∧ vs = fstV Z n (2 ^ n) ∧ 0 < cnt Z n (2 ^ n)) ∨ (c = 6 ∧ vs = [] ∧ cnt Z n (2 ^ n) = 0)) ∧ Below w.heap.size w w' := by
  rcases h with ⟨v, H, rfl, ho, ⟨B, hl⟩, hb⟩ | ⟨rfl, hno, hb⟩
  · obtain ⟨h1, h2⟩ := fst_least hn hz hl
    exact ⟨v, _, 0, rfl, ho, .inl ⟨rfl, h1.symm, h2⟩, hb⟩
  · exact ⟨_, [], 6, rfl, nodes.OwnBools.nil _ _, .inr ⟨rfl, rfl, cnt_none hn hz hno⟩, hb⟩
theorem bit_of' (n k : Nat) (hn : n < 4096) : (bits .and .i64 ((n : Int) / 2 ^ k) 1 == 1) = n.testBit k := by
  have e : ((n : Int) / 2 ^ k) = ((n / 2 ^ k : Nat) : Int) := by simp
  have hl : n / 2 ^ k < 4096 := Nat.lt_of_le_of_lt (Nat.div_le_self _ _) hn
  rw [e, Nat.testBit_eq_decide_div_mod_eq]
  generalize n / 2 ^ k = m at *
  have h := bits_mask .i64 40 (by decide) (fun m h0 h1 => by rw [IntKind.wrap_i64]; omega) 1 (by decide) (m : Int) (by omega) (by omega)
  simp only [Int.reducePow, Int.reduceSub] at h
  rw [h]
  rw [Bool.eq_iff_iff]
  simp
  omega
set_option maxHeartbeats 12800000 in
set_option maxRecDepth 8000 in
theorem walk (a0 : Option Addr) (len0 cap0 : Nat) (w : World) (hby0 : Bytes w a0 len0) (hm0 : len0 ≤ maxLen) (ht : Tab w) :
    Calls Tryd.prog 3 #[.slice a0 len0 cap0] w fun e w' => e = .returned (.bool true) ∧ Below w.heap.size w w' := by
  unfold maxLen at hm0
  have HBy0 := hid hby0
  have HT := hid ht
  clear hby0 ht
  obtain ⟨i0, hi, hzz⟩ := Option.map_eq_some_iff.1 nodes.info_bool
  simp only [Prod.mk.injEq] at hzz
  obtain ⟨hz0, hz1, hz2⟩ := hzz
  have HI := hid hi
  have HZ0 := hid hz0
  have HZ1 := hid hz1
  have HZ2 := hid hz2
  clear hi hz0 hz1 hz2
  by_cases h0 : 1048576 < len0
  · go_enter Tryd.func3, Tryd.ntmps3
    go_wp2
    go_ret
    exact ⟨rfl, (by repeat (first | exact Below.refl _ _ | assumption | refine Below.drew ?_ | refine Below.alloc ?_ (by first | exact Nat.le_refl _ | omega | (simp; done) | (simp; omega)) _ | refine Below.setCell ?_ (by first | exact Nat.le_refl _ | omega | (simp; done) | (simp; omega)) _))⟩
  have hl0 : len0 ≤ 1048576 := by omega
  have hl0' : (len0 : Int) ≤ 1048576 := by omega
  have hl1' : ¬ (1048576 : Int) < (len0 : Int) := by omega
  have hl2' : decide ((1048576 : Int) < (len0 : Int)) = false := decide_eq_false hl1'
  go_enter Tryd.func3, Tryd.ntmps3
  go_wp2_with fail
  refine (cnfOf_spec a0 len0 cap0 _ HBy0.out hl0).mono ?_
  rintro e w1 ⟨vars, p, n, c, ps, rfl, hv1, hv6, ho1, hcnf, hln, hb1⟩
  obtain ⟨v, hv⟩ := Int.eq_ofNat_of_zero_le (show 0 ≤ vars by omega)
  subst hv
  obtain ⟨Z, hZ⟩ : ∃ Z, ps.map (·.2) = Z := ⟨_, rfl⟩
  rw [hZ] at hcnf
  have HZ := hid hZ
  have HCnf := hid hcnf
  have HO1 := hid ho1
  have hB1 := hid hb1
  clear ho1 hcnf hb1 hZ hln
  obtain ⟨M, hM⟩ : ∃ M, M = 2 ^ v := ⟨_, rfl⟩
  have hM64 : M ≤ 64 := by
    rw [hM]
    exact Nat.pow_le_pow_right (n := 2) (by omega) (show v ≤ 6 by omega)
  have hW : wrap64 ((2 : Int) ^ v) = (M : Int) := by
    have hc : ((2 : Int) ^ v) = ((2 ^ v : Nat) : Int) := by simp
    rw [hc, ← hM]
    unfold wrap64
    omega
  have HLm := hid (fun (W : World) (hb : Below w1.heap.size w1 W) => leastModel_impl v p n c Z W ((rows_is HO1.out HZ.out).below hb) HCnf.out (tab_below HT.out (hB1.out.trans (hb.mono hB1.out.size))))
  have HCm := hid (fun (W : World) (hb : Below w1.heap.size w1 W) => count_impl v p n c Z W ((rows_is HO1.out HZ.out).below hb))
  have HSy : Hid (∀ (W : World) (e : Ending) (w' : World), MI Z v W e w' → ∃ (vv : Value) (vs : List Bool) (c : Int), e = .returned (.tuple #[vv, .int .i64 c]) ∧ OwnBools W.heap.size w' vv vs ∧ ((c = 0 ∧ vs = fstV Z v M ∧ 0 < cnt Z v M) ∨ (c = 6 ∧ vs = [] ∧ cnt Z v M = 0)) ∧ Below W.heap.size W w') := hid (fun W e w' h => by rw [hM]; exact says (by omega) HCnf.out h)
  have hcc : countCode (v : Int) Z = 0 := by unfold countCode; rw [if_pos HCnf.out, if_neg (by omega)]
  have hcn : countN (v : Int) Z = ((cnt Z v M : Nat) : Int) := by
    unfold countN
    rw [if_pos HCnf.out, if_neg (by omega), hM, cnt_all]; rfl
  rw [hcc, hcn] at HCm
  have hf0 : (w1.alloc (.cells #[.int .i64 v, .slice p n c] 25)).cell? ⟨w1.heap.size, 0, none⟩ = some (.int .i64 v) := by simp [go_sem]
  have hf1 : (w1.alloc (.cells #[.int .i64 v, .slice p n c] 25)).cell? ⟨w1.heap.size, 1, none⟩ = some (.slice p n c) := by simp [go_sem]
  clear hcc hcn hM
  go_wp2_with fail
  refine (HLm.out _ (by repeat (first | exact Below.refl _ _ | assumption | refine Below.drew ?_ | refine Below.alloc ?_ (by first | exact Nat.le_refl _ | omega | (simp; done) | (simp; omega)) _ | refine Below.setCell ?_ (by first | exact Nat.le_refl _ | omega | (simp; done) | (simp; omega)) _))).mono ?_
  intro e w2 hmi
  obtain ⟨vv, vs, cd, rfl, hov, hcd, hb2⟩ := HSy.out _ _ _ hmi
  clear hmi
  obtain ⟨va, vc, rfl, hrv⟩ := hov.form rfl
  have hb12 : Below w1.heap.size w1 w2 := (show Below w1.heap.size w1 _ from (by repeat (first | exact Below.refl _ _ | assumption | refine Below.drew ?_ | refine Below.alloc ?_ (by first | exact Nat.le_refl _ | omega | (simp; done) | (simp; omega)) _ | refine Below.setCell ?_ (by first | exact Nat.le_refl _ | omega | (simp; done) | (simp; omega)) _))).trans (hb2.mono (by simp))
  have f0 := keep hb2 hf0
  have f1 := keep hb2 hf1
  have HRv := hid hrv
  have HCd := hid hcd
  have hB2 := hid (hB1.out.trans (hb12.mono hB1.out.size))
  have HB12 := hid hb12
  obtain ⟨vl, hvl⟩ : ∃ vl, vs.length = vl := ⟨_, rfl⟩
  rw [hvl] at HRv ⊢
  have HVl := hid hvl
  clear hov hrv hcd hb2 hb12 hf0 hf1 HLm HSy hvl
  go_wp2_with fail
  refine (HCm.out _ (HB12.out.trans ((show Below w2.heap.size w2 _ from (by repeat (first | exact Below.refl _ _ | assumption | refine Below.drew ?_ | refine Below.alloc ?_ (by first | exact Nat.le_refl _ | omega | (simp; done) | (simp; omega)) _ | refine Below.setCell ?_ (by first | exact Nat.le_refl _ | omega | (simp; done) | (simp; omega)) _))).mono HB12.out.size))).mono ?_
  rintro e w3 ⟨rfl, hb3⟩
  have hb23 : Below w2.heap.size w2 w3 := (show Below w2.heap.size w2 _ from (by repeat (first | exact Below.refl _ _ | assumption | refine Below.drew ?_ | refine Below.alloc ?_ (by first | exact Nat.le_refl _ | omega | (simp; done) | (simp; omega)) _ | refine Below.setCell ?_ (by first | exact Nat.le_refl _ | omega | (simp; done) | (simp; omega)) _))).trans (hb3.mono (by simp))
  replace f0 := keep hb23 f0
  replace f1 := keep hb23 f1
  have HRv3 := hid (HRv.out.below hb23)
  have HB13 := hid (HB12.out.trans (hb23.mono HB12.out.size))
  have hB3 := hid (hB2.out.trans (hb23.mono hB2.out.size))
  have HOr := hid (OwnRows.below HO1.out HB13.out)
  obtain ⟨CN, hCN⟩ : ∃ q, cnt Z v M = q := ⟨_, rfl⟩
  rw [hCN] at HCd ⊢
  have hCN64 : CN ≤ 64 := by have := cnt_le Z v M; omega
  have HCN := hid hCN
  clear hb3 hb23 HRv HCm HO1 HB12 hCN
  go_wp2
  go_loopw [8, 9, 10] (fun q f i wr => ∃ m : Nat, m ≤ M ∧ q = .int .i64 (cnt Z v m : Nat) ∧ OwnBools w3.heap.size wr f (fstV Z v m) ∧ i = .int .i64 m ∧ Below w3.heap.size w3 wr) (fun _ _ i _ => M - (intOf i).toNat)
  case atStart => exact ⟨0, Nat.zero_le _, rfl, nodes.OwnBools.zero _ w3 (Nat.le_refl _), rfl, (by repeat (first | exact Below.refl _ _ | assumption | refine Below.drew ?_ | refine Below.alloc ?_ (by first | exact Nat.le_refl _ | omega | (simp; done) | (simp; omega)) _ | refine Below.setCell ?_ (by first | exact Nat.le_refl _ | omega | (simp; done) | (simp; omega)) _))⟩
  case round =>
    rename_i fv
    obtain ⟨m, hm, rfl, hof, rfl, hbel⟩ := hrel
    have HOf := hid hof
    have HW := hid hbel
    have k0 := keep hbel f0
    have k1 := keep hbel f1
    have HRr := hid (OwnRows.below HOr.out hbel)
    have HNx := hid (cnt_succ Z v m)
    have HFx := hid (fst_succ Z v m)
    have hcm := cnt_le Z v m
    have hzw := hbel.size
    have hlt1 : w1.heap.size < wr.heap.size := World.block_lt_of_cell? _ _ k0
    clear hof hbel
    obtain ⟨q, hq⟩ : ∃ q, cnt Z v m = q := ⟨_, rfl⟩
    rw [hq] at HNx HFx hcm ⊢
    have HQ := hid hq
    clear hq
    by_cases hlt : m < M
    · go_wp2_with fail
      generalize wr = wo at *
      clear hW
      have kz : (wo.alloc (.cells #[] 4)).cell? ⟨w1.heap.size, 0, none⟩ = some (.int .i64 v) := keep (show Below wo.heap.size wo _ from (by repeat (first | exact Below.refl _ _ | assumption | refine Below.drew ?_ | refine Below.alloc ?_ (by first | exact Nat.le_refl _ | omega | (simp; done) | (simp; omega)) _ | refine Below.setCell ?_ (by first | exact Nat.le_refl _ | omega | (simp; done) | (simp; omega)) _))) k0
      have ky : (wo.alloc (.cells #[] 4)).cell? ⟨w1.heap.size, 1, none⟩ = some (.slice p n c) := keep (show Below wo.heap.size wo _ from (by repeat (first | exact Below.refl _ _ | assumption | refine Below.drew ?_ | refine Below.alloc ?_ (by first | exact Nat.le_refl _ | omega | (simp; done) | (simp; omega)) _ | refine Below.setCell ?_ (by first | exact Nat.le_refl _ | omega | (simp; done) | (simp; omega)) _))) k1
      have Kz := hid kz
      have Ky := hid ky
      clear kz ky k0 k1
      go_loopw [11, 12] (fun u z wr => ∃ (t : Nat) (zz : Int), t ≤ v ∧ zz = (v : Int) - 1 - t ∧ z = .int .i64 zz ∧ OwnBools wo.heap.size wr u (rvT m v t) ∧ Below wo.heap.size wo wr) (fun _ z _ => (intOf z + 1).toNat)
      case atStart => exact ⟨0, (v : Int) - 1, Nat.zero_le _, by omega, by first | rfl | go_num, nodes.OwnBools.zero _ wo (Nat.le_refl _), (by repeat (first | exact Below.refl _ _ | assumption | refine Below.drew ?_ | refine Below.alloc ?_ (by first | exact Nat.le_refl _ | omega | (simp; done) | (simp; omega)) _ | refine Below.setCell ?_ (by first | exact Nat.le_refl _ | omega | (simp; done) | (simp; omega)) _))⟩
      case round =>
        rename_i uv
        obtain ⟨t, zz, htv, hzz, rfl, hou, hbi⟩ := hrel
        have HOu := hid hou
        have HBi := hid hbi
        have hzi := hbi.size
        have HTt := hid hzz
        obtain ⟨ua, uc, hu, -⟩ := hou.form (rvT_len m v t)
        subst hu
        clear hou hbi
        by_cases htl : t < v
        · obtain ⟨kk, hkk⟩ : ∃ kk : Nat, zz = (kk : Int) := ⟨zz.toNat, by omega⟩
          have hkv : kk = v - 1 - t := by omega
          have HKv := hid hkv
          subst hkk
          have hk6 : kk < 6 := by omega
          have HSu := hid (rvT_succ m v t)
          clear hzz hkv
          have HLen : Hid ((rvT m v t).length = t) := hid (rvT_len m v t)
          go_wp2_with (at_builtin; (refine wpList_append_own _ rfl _ _ 27 rfl wo.heap.size 4 i0 (.bool false) 1 1 Tryd.underlying27 HI.out HZ0.out HZ1.out HZ2.out rfl (by decide) _ _ _ rfl (World.ownsRow.alloc HOu.out _) ⟨wr.heap.size, 0, none⟩ 1 1 [_] rfl rfl (cell_one_new _ _ _) (fun x hx => by simp at hx; subst hx; rfl) (by have := HLen.out; unfold maxLen; omega) (by have := HLen.out; omega) (by simp; omega) ?_); intro v' w9 hown' hgrow9 hnil9)
          have HO9 : Hid (OwnBools wo.heap.size w9 v' (rvT m v (t + 1))) := hid (by
            unfold OwnBools
            rw [HSu.out, List.length_append, List.map_append, ← HKv.out]
            rw [bit_of' m kk (by omega)] at hown'
            exact hown')
          have HB9 : Hid (Below wo.heap.size wo w9) := hid ((HBi.out.alloc HBi.out.size _).grown hgrow9 (by simp; omega) (fun j hj => (World.ownsRow.lt HOu.out j hj).1))
          clear hown' hgrow9 hnil9
          go_wp2
          go_roundw
          case rel =>
            first
              | exact ⟨t + 1, (kk : Int) - 1, by omega, by have := HKv.out; omega, by first | rfl | go_num, HO9.out, HB9.out⟩
              | ((repeat apply Exists.intro); refine ⟨?rel2, rfl⟩; exact ⟨t + 1, (kk : Int) - 1, by omega, by have := HKv.out; omega, by first | rfl | go_num, HO9.out, HB9.out⟩)
          case measure => first | (simp [intOf]; done) | (simp [intOf]; omega)
        · have et : t = v := by omega
          subst et
          have ez : zz = -1 := by omega
          subst ez
          have HOv : Hid (OwnBools wo.heap.size wr (.slice ua t uc) (rv m t)) := hid HOu.out
          obtain ⟨_, _, he9, hrr⟩ := HOv.out.form (rv_len m t)
          injection he9 with he1 _ he2
          subst he1 he2
          have HRr9 := hid hrr
          have k0 := keep HBi.out (show wo.cell? ⟨w1.heap.size, 0, none⟩ = some (.int .i64 t) from keep HW.out f0)
          have k1 := keep HBi.out (show wo.cell? ⟨w1.heap.size, 1, none⟩ = some (.slice p n c) from keep HW.out f1)
          have HRi := hid (OwnRows.below HRr.out HBi.out)
          have HOf9 := hid (HOf.out.below HBi.out)
          have E1 := hid (code_ok (vars := t) (zss := Z) (vs := rv m t) (by rw [rv_len]; omega) HCnf.out (by rw [rv_len]))
          have HB9 := hid (HW.out.trans (HBi.out.mono HW.out.size))
          clear HOu hzz hrr
          go_wp2_with fail
          refine (evalCnf_spec t p ua n c t uc Z (rv m t) _ ((rows_is HRi.out HZ.out).below (by repeat (first | exact Below.refl _ _ | assumption | refine Below.drew ?_ | refine Below.alloc ?_ (by first | exact Nat.le_refl _ | omega | (simp; done) | (simp; omega)) _ | refine Below.setCell ?_ (by first | exact Nat.le_refl _ | omega | (simp; done) | (simp; omega)) _))) (HRr9.out.below (by repeat (first | exact Below.refl _ _ | assumption | refine Below.drew ?_ | refine Below.alloc ?_ (by first | exact Nat.le_refl _ | omega | (simp; done) | (simp; omega)) _ | refine Below.setCell ?_ (by first | exact Nat.le_refl _ | omega | (simp; done) | (simp; omega)) _)))).mono ?_
          rintro e u2 ⟨rfl, hb2⟩
          rw [E1.out.1, E1.out.2]
          have hb12 : Below wr.heap.size wr u2 := (show Below wr.heap.size wr _ from (by repeat (first | exact Below.refl _ _ | assumption | refine Below.drew ?_ | refine Below.alloc ?_ (by first | exact Nat.le_refl _ | omega | (simp; done) | (simp; omega)) _ | refine Below.setCell ?_ (by first | exact Nat.le_refl _ | omega | (simp; done) | (simp; omega)) _))).trans (hb2.mono (by simp))
          have HOf2 := hid (HOf9.out.below hb12)
          have HOv2 := hid ((HOv.out.below hb12).mono hzw)
          have HB2 := hid (HB9.out.trans (hb12.mono HB9.out.size))
          clear hb2 hb12 k0 k1
          cases hct : cnfT (rv m t) Z with
          | false =>
            have HE : Hid (cnt Z t (m + 1) = q ∧ fstV Z t (m + 1) = fstV Z t m) := hid (by rw [HNx.out, HFx.out, hct]; simp)
            clear hct
            go_wp2
            go_roundw
            case rel =>
              first
                | exact ⟨m + 1, by omega, by rw [HE.out.1], by rw [HE.out.2]; exact HOf2.out, by go_num, HB2.out⟩
                | ((repeat apply Exists.intro); refine ⟨?rel2, rfl⟩; exact ⟨m + 1, by omega, by rw [HE.out.1], by rw [HE.out.2]; exact HOf2.out, by go_num, HB2.out⟩)
            case measure => first | (simp [intOf]; done) | (simp [intOf]; omega)
          | true =>
            by_cases hq0 : q = 0
            · have HE : Hid (cnt Z t (m + 1) = q + 1 ∧ fstV Z t (m + 1) = rv m t) := hid (by rw [HNx.out, HFx.out, hct]; simp [hq0])
              have e5 : (q : Int) = 0 := by omega
              have e6 : ((q : Int) == 0) = true := by simp [hq0]
              have HQ0 := hid hq0
              clear hct hq0
              go_wp2
              go_roundw
              case rel =>
                first
                  | exact ⟨m + 1, by omega, by rw [HE.out.1, HQ0.out]; rfl, by rw [HE.out.2]; exact HOv2.out, by go_num, HB2.out⟩
                  | ((repeat apply Exists.intro); refine ⟨?rel2, rfl⟩; exact ⟨m + 1, by omega, by rw [HE.out.1, HQ0.out]; rfl, by rw [HE.out.2]; exact HOv2.out, by go_num, HB2.out⟩)
              case measure => first | (simp [intOf]; done) | (simp [intOf]; omega)
            · have HE : Hid (cnt Z t (m + 1) = q + 1 ∧ fstV Z t (m + 1) = fstV Z t m) := hid (by rw [HNx.out, HFx.out, hct]; simp [hq0])
              have e5 : ¬ (q : Int) = 0 := by omega
              have e6 : ((q : Int) == 0) = false := by simp; omega
              clear hct hq0
              go_wp2
              go_roundw
              case rel =>
                first
                  | exact ⟨m + 1, by omega, by rw [HE.out.1]; go_num, by rw [HE.out.2]; exact HOf2.out, by go_num, HB2.out⟩
                  | ((repeat apply Exists.intro); refine ⟨?rel2, rfl⟩; exact ⟨m + 1, by omega, by rw [HE.out.1]; go_num, by rw [HE.out.2]; exact HOf2.out, by go_num, HB2.out⟩)
              case measure => first | (simp [intOf]; done) | (simp [intOf]; omega)
    · have e : m = M := by omega
      subst e
      have hqc : CN = q := by rw [← HCN.out, HQ.out]
      subst hqc
      have en : ((CN : Int) != CN) = false := by simp
      rcases HCd.out with ⟨rfl, hvs, hpos⟩ | ⟨rfl, hvs, hz⟩
      · have e5 : ¬ (CN : Int) = 0 := by omega
        have e6 : ((CN : Int) == 0) = false := by simp; omega
        have hlen : (fstV Z v m).length = vl := by rw [← hvs, HVl.out]
        obtain ⟨fa, fc, rfl, hrf⟩ := HOf.out.form hlen
        have HRf := hid hrf
        have HRs := hid (HRv3.out.below HW.out)
        rw [hvs] at HRs
        have HRs2 := hid HRs.out
        clear hrf hvs hlen
        go_wp2_with fail
        refine (same.sameBools va fa vl vc fc (fstV Z v m) _ HRs2.out HRf.out).mono ?_
        rintro e w8 ⟨rfl, hb8⟩
        have HB8 := hid (hB3.out.trans ((HW.out.trans (hb8.mono HW.out.size)).mono hB3.out.size))
        clear hb8
        go_wp2
        go_ret
        exact ⟨rfl, HB8.out⟩
      · have e5 : (CN : Int) = 0 := by omega
        have e6 : ((CN : Int) == 0) = true := by simp; omega
        have hv0 : vl = 0 := by rw [← HVl.out, hvs]; rfl
        have e7 : ((vl : Int) == 0) = true := by rw [hv0]; rfl
        have e8 : (vl : Int) = 0 := by omega
        clear hvs
        go_wp2
        go_ret
        exact ⟨rfl, hB3.out.trans (HW.out.mono hB3.out.size)⟩
theorem own : ownKnob Tryd.prog.godebug = none := by kernel_rfl
theorem laidOut : laidOutB Tryd.prog = true := by kernel_rfl

/- The library's tables as their initialisers lay them. -/
def b64Ints : List Int := [0, 1, 56, 2, 57, 49, 28, 3, 61, 58, 42, 50, 38, 29, 17, 4, 62, 47, 59, 36, 45, 43, 51, 22, 53, 39, 33, 30, 24, 18, 12, 5, 63, 55, 48, 27, 60, 41, 37, 16, 46, 35, 44, 21, 52, 32, 23, 11, 54, 26, 40, 15, 34, 20, 31, 10, 25, 14, 19, 9, 13, 8, 7, 6]
def laidAs (l : List Value) : Obj → Obj
  | .cells _ t frozen => .cells l.toArray t frozen
  | o => o
def b64Tab : List Value := b64Ints.map (Value.int .u8)
def gB64 : Nat := 0
theorem same_tab : ∀ j, j < Lib.deBruijn64tab.length → (b64Ints.map fun z => Value.int .u8 z).toArray[j]? = some (.int .u8 (Lib.deBruijn64tab.getD j 0)) := by
  intro j hj
  have hl : Lib.deBruijn64tab.length = 64 := by decide +kernel
  rw [hl] at hj
  have h : ∀ j : Fin 64, b64Ints[j.1]? = some ((Lib.deBruijn64tab.getD j.1 0 : Nat) : Int) := by decide +kernel
  have := h ⟨j, hj⟩
  simp only [List.getElem?_toArray, List.getElem?_map]
  rw [this]
  rfl
theorem table {W : World} (h : laidMetH Tryd.prog Rows.fnModelsRow.laid W) : Tab W := by
  have h1 := h.filter (fun x => x.1 == "math/bits.deBruijn64tab")
  have h2 : laidMet Tryd.prog [("math/bits.deBruijn64tab", Lib.tabData .u8 b64Ints)] W := h1
  have h3 := Lib.tabIs_of_head (g := 0) (t := 88) (e := 5) (n := 64) (by kernel_rfl) (by kernel_rfl) Tryd.underlying88 Tryd.underlying5 (by kernel_rfl) (by kernel_rfl) h2
  unfold Lib.TabIs World.var? at h3
  rw [show Tryd.prog.globalNamed "math/bits.deBruijn64tab" = some 0 by kernel_rfl] at h3
  simp only [Option.bind_some] at h3
  split at h3
  · rename_i cs t fr hh
    injection h3 with h3
    intro j hj
    have h4 := same_tab j hj
    rw [← h3] at h4
    simp only [World.cell?, hh, h4]
    first | done | exact h4 | rfl | simp
  · cases h3

theorem laid_met (os : Os) : laidMet Tryd.prog Rows.fnModelsRow.laid (({ World.holding Tryd.prog os ⟨#[], #[], []⟩ with heap := ((World.holding Tryd.prog os ⟨#[], #[], []⟩).heap.modify gB64 (laidAs b64Tab)) } : World).forCall (fun _ _ => 0) ⟨#[], #[.slice none 0 0], []⟩).memory :=
  laidMet_of_run' 8 (by kernel_rfl) (by kernel_rfl)
theorem reads (os : Os) {H : Type} (enc : TypeId × Value → H) : ∃ places, DataW.whole enc Tryd.prog (({ World.holding Tryd.prog os ⟨#[], #[], []⟩ with heap := ((World.holding Tryd.prog os ⟨#[], #[], []⟩).heap.modify gB64 (laidAs b64Tab)) } : World).forCall (fun _ _ => 0) ⟨#[], #[.slice none 0 0], []⟩).memory Tryd.f3.params.toList Rows.fnModelsSpec.vars false #[Value.slice none 0 0].toList 8 = some ([.nil], [], places) :=
  ⟨[], by kernel_rfl⟩

set_option maxRecDepth 100000 in
theorem contract (H : Type) (enc : TypeId × Value → H) (W : World) (base : Nat) (args : Array Value) (ds gs : List (DataW H)) (before : List MemPlace)
    (hval : ∀ (j : Nat) t v, Tryd.f3.params[j]? = some t → args[j]? = some v → Value.okWide Tryd.prog W .any base t v)
    (hW : DataW.Whole enc Tryd.prog Tryd.f3.params.toList Rows.fnModelsSpec.vars false W args.toList ds gs before) (hL : laidMetH Tryd.prog Rows.fnModelsRow.laid W) :
    Calls Tryd.prog 3 args W fun e W' => ∃ v, e = .returned v ∧ Rows.fnModelsSpec.post enc Tryd.prog Tryd.f3 false true false false W args v W' := by
  have hW' := hW
  obtain ⟨p, q, hA0, hV, rfl, hfz, hnd⟩ := hW
  have hA : DataW.TrodAll enc Tryd.prog W 0 (fun _ => true) true Tryd.f3.params.toList args.toList ds p := hA0
  rw [Tryd.params3] at hA hval
  obtain ⟨v0, vs0, d0, ds0, p0, q0, hargs, rfl, rfl, h0, r0⟩ := trodAll_cons hA
  obtain ⟨rfl, rfl, rfl⟩ := trodAll_nil r0
  obtain rfl : args = #[v0] := by cases args; simp_all
  obtain ⟨rfl, rfl⟩ := trodVars_none hV
  have k0 := h0
  have lt0 : ∀ x ∈ p0, x.block < W.heap.size := by obtain ⟨m, hm⟩ := k0; exact DataW.trod_lt m _ _ _ hm
  obtain ⟨a0, la0, ca0, rfl⟩ := okWide_slice Tryd.underlying22 (hval 0 22 v0 rfl rfl)
  have hba0 : source.Bytes W a0 la0 ∧ la0 ≤ maxLen := by
    obtain ⟨fuel, hf⟩ := h0
    obtain ⟨a', l', c', e, hb⟩ := bytes_of_trod Tryd.underlying22 Tryd.underlying5 (by kernel_rfl) (by simpa [Value.cells] using hf)
    cases e
    exact hb
  clear hA0
  refine (walk a0 la0 ca0 W hba0.1 hba0.2 (table hL)).mono fun e W' ⟨he, bel⟩ => ?_
  subst he
  exact ⟨_, rfl, _, _, _, [], _, [], hW', trodAll_mk1 (shut_bool Tryd.underlying4 _), (trodAll_cons_mk (Below.trod laidOut (by kernel_rfl) (of_decide_eq_true (by kernel_rfl)) k0 bel lt0) trodAll_mk0), rfl, bel.frame _, fun h => by cases h⟩

set_option maxRecDepth 100000 in
theorem lifted (os : Os) (started : os.Started) (H : Type) (enc : TypeId × Value → H) (F : Stop.Interp) :
    ReturnsInHanded {} Tryd.checked os 3 .any ((OpenSpec.ofChange Rows.fnModelsSpec).preRow enc Tryd.prog Tryd.f3 Rows.fnModelsRow.domain false Rows.fnModelsRow.laid) (((OpenSpec.ofChange Rows.fnModelsSpec).at F).post enc Tryd.prog Tryd.f3 false true false false) := by
  obtain ⟨places, hx⟩ := reads os enc
  refine returnsInHanded_of_row (C := Tryd.checked) (s := OpenSpec.ofChange Rows.fnModelsSpec) own started (by kernel_rfl) Tryd.func3
    (witness_row_at (enc := enc) (C := Tryd.checked) false ({ World.holding Tryd.prog os ⟨#[], #[], []⟩ with heap := ((World.holding Tryd.prog os ⟨#[], #[], []⟩).heap.modify gB64 (laidAs b64Tab)) } : World) #[.slice none 0 0] rfl (by kernel_rfl) (by kernel_rfl) (by kernel_rfl)
      (OpenSpec.preRow_of_cond 8 hx (by kernel_rfl) (fun k hk => by cases hk) (by kernel_rfl) (laid_met os))) ?_
  intro W base args ds gs before hval hW _ _ _ hL hsh _
  exact contract H enc W base args ds gs before hval hW hL

theorem said : Rows.FnModelsSaid :=
  OpenClaim.holds_of_cond 3 Tryd.f3 rfl rfl rfl rfl rfl rfl rfl ⟨rfl, rfl, rfl, rfl, rfl⟩ rfl rfl rfl rfl rfl (by kernel_rfl) Tryd.func3 (by kernel_rfl)
    (of_decide_eq_true (by kernel_rfl)) (by unfold Func.isWrapper; first | (rw [if_pos (by decide +kernel)]; kernel_rfl) | (rw [if_neg (by decide +kernel)]; exact ⟨rfl, rfl⟩))
    (fun os started H enc _ F => by rw [OpenClaim.pre_eq_preRow]; exact lifted os started H enc F)

theorem plain (f : FuncId) (fn : Func) (hf : Tryd.pinned.checked.prog.funcNamed "loop.example/g00159/laws.FnModels" = some f) (hfn : Tryd.pinned.checked.prog.funcs[f]? = some fn) :
    false = Tryd.pinned.checked.prog.looks [] ∧ ∀ (j : Nat) t, fn.params[j]? = some t → Tryd.pinned.checked.prog.wantsStandIn t = false := by
  obtain rfl : f = 3 := Option.some.inj ((show Tryd.prog.funcNamed "loop.example/g00159/laws.FnModels" = some 3 by kernel_rfl).symm.trans hf) |>.symm
  obtain rfl : fn = Tryd.f3 := (Option.some.inj (Tryd.func3.symm.trans hfn)).symm
  refine ⟨by kernel_rfl, fun j t ht => ?_⟩
  rw [Tryd.params3] at ht
  obtain rfl : t = 22 := by
    have := Array.mem_of_getElem? ht
    simpa using this
  exact (show Tryd.prog.wantsStandIn 22 = false by kernel_rfl)
end Go.Proofs.YtjdcndkgodpnlaaDoor.fnModels
namespace Go.Proofs.YtjdcndkgodpnlaaDoor
theorem fnModels_holds : Rows.FnModelsCardSaid :=
  Claim7.holds_tied_plain_at .later [] _ _ _ _ fnModels.said (fun _ h => by cases h) (by kernel_rfl) (fun _ h => by cases h) fnModels_row_tie rfl ⟨rfl, rfl⟩ (by kernel_rfl) rfl fnModels.plain (by kernel_rfl)
end Go.Proofs.YtjdcndkgodpnlaaDoor
