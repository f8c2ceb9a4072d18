/- For all codes: CheckProof and Refutation tell of the formula and the steps drawn out of them what the specification tells; a proof that checks is one of a formula without models, the refutation of such a formula checks at its last step, and where there is none there is a model or there are too many steps; the library's table and handle are as their initialisers lay them, tied to the program's text; conditions: none. -/
import Derived.Test.YtmkhoocokpkojaaGreatDoorPigeons
import Derived.Test.YtmkhoocokpkojaaGreatDoorPart12
import Derived.Test.YtmkhoocokpkojaaGreatDoorPart45
import Derived.Test.YtmkhoocokpkojaaGreatDoorPart49
import Derived.Test.YtmkhoocokpkojaaGreatDoorPart50
import Derived.Test.YtmkhoocokpkojaaGreatDoorPart51
import Derived.Test.YtmkhoocokpkojaaGreatDoorCards
import Derived.Test.YtmkhoocokpkojaaGreatDoorTie
import Derived.OpenVars
import Derived.SevenTiedAt
import Derived.Deep.DeepHandedRow
import Derived.Lib.LaidTab
import Derived.LaidSub
namespace Go.Proofs.YtmkhoocokpkojaaGreatDoor.fnProofs
open Go.ChangeShapes Go.WideShapes Go.ChangeAt Go.RowKit Go.Deep Go.Joins base copy cnf sets args byteArgs rowsOwn source cnfDraw pigeons solOps faultW refImpl refFace refAnsI refFaceI refUniq stepsOf stepsAre chkFaceS chkFaceI leastSem leastModel proofsMath endsCode sameSteps atAny
open readSpecP (Pt pcs OwnSteps strip)
set_option linter.unusedVariables false
set_option linter.unusedSimpArgs false
theorem rows_is {B n c : Nat} {w : World} {a : Option Addr} {ps : List (Value × List Int)} {L : List (List Int)} (h : OwnRows B w (.slice a n c) ps) (e : ps.map (·.2) = L) : IntRows w a n L := by
 rw [← e]
 exact rows_of_own h
theorem bytes_keep {w w1 : World} {a : Option Addr} {len : Nat} (h : Bytes w a len) (hb : Below w.heap.size w w1) : Bytes w1 a len := fun i hi => by
 obtain ⟨bb, off, e, x, hx, hc⟩ := h i hi
 exact ⟨bb, off, e, x, hx, keep hb hc⟩
structure FmIn (B N v : Nat) (p : Option Addr) (n c : Nat) (ps : List (Value × List Int)) (w : World) : Prop where
 c0 : w.cell? ⟨N, 0, none⟩ = some (.int .i64 (v : Int))
 c1 : w.cell? ⟨N, 1, none⟩ = some (.slice p n c)
 own : OwnRows B w (.slice p n c) ps
theorem FmIn.below {B N v n c : Nat} {p : Option Addr} {ps : List (Value × List Int)} {w w' : World} (h : FmIn B N v p n c ps w) (hb : Below w.heap.size w w') : FmIn B N v p n c ps w' := ⟨keep hb h.c0, keep hb h.c1, h.own.below hb⟩
theorem nil_cap {B n c : Nat} {p : Option Addr} {w : World} {ps : List (Value × List Int)} (h : OwnRows B w (.slice p n c) ps) : p = none → c = 0 := fun hp => by
 rcases h.outer.2 with ⟨e, _⟩ | ⟨g, cap, cur, e, _⟩
 · injection e
 · injection e with e3 _ _
   rw [hp] at e3
   cases e3
theorem own_len {B n c : Nat} {p : Option Addr} {w : World} {ps : List (Value × List Int)} (h : OwnRows B w (.slice p n c) ps) : ps.length = n := by
 obtain ⟨p', n', c', e, hn⟩ := own_formN h
 injection e with _ e2 _
 omega
set_option maxHeartbeats 6400000 in
set_option maxRecDepth 8000 in
theorem walk (a0 a1 : Option Addr) (len0 len1 cap0 cap1 : Nat) (w : World) (hby0 : Bytes w a0 len0) (hby1 : Bytes w a1 len1) (hm0 : len0 ≤ maxLen) (hm1 : len1 ≤ maxLen) (ht : Tab w) (he : ErrW w) :
  Calls Tryz.prog 3 #[.slice a0 len0 cap0, .slice a1 len1 cap1] w fun e w' => e = .returned (.bool true) ∧ Below w.heap.size w w' := by
 unfold maxLen at hm0 hm1
 have HBy0 := hid hby0
 have HBy1 := hid hby1
 have HT := hid ht
 have HE := hid he
 clear hby0 hby1 ht he
 by_cases h0 : 1048576 < len0
 · go_enter Tryz.func3, Tryz.ntmps3
   go_wp2
   go_ret
   exact ⟨rfl, (by repeat (first | exact Below.refl _ _ | assumption | refine Below.drew ?_ | refine Below.alloc ?_ (by first | exact Nat.le_refl _ | omega | (simp; done) | (simp; omega)) _ | refine Below.setCell ?_ (by first | exact Nat.le_refl _ | omega | (simp; done) | (simp; omega)) _))⟩
 by_cases h1 : 1048576 < len1
 · go_enter Tryz.func3, Tryz.ntmps3
   go_wp2
   go_ret
   exact ⟨rfl, (by repeat (first | exact Below.refl _ _ | assumption | refine Below.drew ?_ | refine Below.alloc ?_ (by first | exact Nat.le_refl _ | omega | (simp; done) | (simp; omega)) _ | refine Below.setCell ?_ (by first | exact Nat.le_refl _ | omega | (simp; done) | (simp; omega)) _))⟩
 have hl0 : len0 ≤ 1048576 := by omega
 have hl1 : len1 ≤ 1048576 := by omega
 have hl0' : (len0 : Int) ≤ 1048576 := by omega
 have hl1' : (len1 : Int) ≤ 1048576 := by omega
 go_enter Tryz.func3, Tryz.ntmps3
 go_wp2_with fail
 refine (cnfOf_spec a0 len0 cap0 _ HBy0.out hl0).mono ?_
 rintro e w1 ⟨vars, p, n, c, ps, rfl, hv1, hv6, ho1, hcnf, hln, hb1⟩
 obtain ⟨v, hv⟩ := Int.eq_ofNat_of_zero_le (show 0 ≤ vars by omega)
 subst hv
 have HCnf := hid hcnf
 have HO1 := hid ho1
 have hB1 := hid hb1
 have hs1 := hb1.size
 clear ho1 hcnf hb1
 go_upto_region 4 with fail
 obtain ⟨W1, hW1⟩ : ∃ W1, (w1.alloc (.cells #[.int .i64 (v : Int), .slice p n c] 25)) = W1 := ⟨_, rfl⟩
 have hbw : Below w1.heap.size w1 W1 := by rw [← hW1]; exact (Below.refl _ _).alloc (Nat.le_refl _) _
 have g0 : W1.cell? ⟨w1.heap.size, 0, none⟩ = some (.int .i64 (v : Int)) := by rw [← hW1]; simp [go_sem]
 have g1 : W1.cell? ⟨w1.heap.size, 1, none⟩ = some (.slice p n c) := by rw [← hW1]; simp [go_sem]
 have y0 : W1.frozen? ⟨w1.heap.size, 0, none⟩ = false := by rw [← hW1]; simp [go_sem]
 have y1 : W1.frozen? ⟨w1.heap.size, 1, none⟩ = false := by rw [← hW1]; simp [go_sem]
 have s1 : w1.heap.size < W1.heap.size := by rw [← hW1]; simp
 have HBW := hid (hB1.out.trans (hbw.mono hB1.out.size))
 have HF1 : Hid (FmIn w.heap.size w1.heap.size v p n c ps W1) := hid ⟨g0, g1, OwnRows.below HO1.out hbw⟩
 rw [hW1]
 clear hW1 hbw
 have HG0 := hid g0
 have HG1 := hid g1
 have HY0 := hid y0
 have HY1 := hid y1
 clear g0 g1 y0 y1
 go_wp2_with fail
 refine (at_any 0 3 (by omega) (by omega) (by omega) a1 len1 cap1 _ (bytes_keep HBy1.out HBW.out) hl1).mono ?_
 rintro e w2 ⟨r, rfl, hr, hb2⟩
 have HB2 := hid (HBW.out.trans (hb2.mono HBW.out.size))
 have HF2 := hid (HF1.out.below hb2)
 have k0 := keep hb2 HG0.out
 have k1 := keep hb2 HG1.out
 have f0 : w2.frozen? ⟨w1.heap.size, 0, none⟩ = false := by rw [hb2.frozen (p := ⟨w1.heap.size, 0, none⟩) (by dsimp only; omega)]; exact HY0.out
 have f1 : w2.frozen? ⟨w1.heap.size, 1, none⟩ = false := by rw [hb2.frozen (p := ⟨w1.heap.size, 1, none⟩) (by dsimp only; omega)]; exact HY1.out
 have s2 : w1.heap.size < w2.heap.size := by have := hb2.size; omega
 clear hb2
 go_upto_if 31 with fail
 go_cut [] from 32 to 33 (fun wc => ∃ (v n c : Nat) (p : Option Addr) (ps : List (Value × List Int)), 1 ≤ v ∧ v ≤ 12 ∧ FmIn w.heap.size w1.heap.size v p n c ps wc ∧ cnfB (v : Int) (ps.map (·.2)) = true ∧ ps.length ≤ 52 ∧ Below w.heap.size w wc)
 case first =>
  by_cases hr0 : r = 0
  · subst hr0
    go_wp2_with fail
    refine (pigeonsOf_spec a0 len0 cap0 _ (bytes_keep HBy0.out HB2.out) hl0).mono ?_
    rintro e w3 ⟨vars3, p3, n3, c3, ps3, rfl, hv3, hv12, ho3, hcnf3, hln3, hb3⟩
    obtain ⟨v3, hv9⟩ := Int.eq_ofNat_of_zero_le (show 0 ≤ vars3 by omega)
    subst hv9
    replace k0 := keep hb3 k0
    replace k1 := keep hb3 k1
    replace f0 : w3.frozen? ⟨w1.heap.size, 0, none⟩ = false := by rw [hb3.frozen (p := ⟨w1.heap.size, 0, none⟩) (by dsimp only; omega)]; exact f0
    replace f1 : w3.frozen? ⟨w1.heap.size, 1, none⟩ = false := by rw [hb3.frozen (p := ⟨w1.heap.size, 1, none⟩) (by dsimp only; omega)]; exact f1
    have hbE : Below w.heap.size w ((w3.setCell ⟨w1.heap.size, 0, none⟩ (.int .i64 (v3 : Int))).setCell ⟨w1.heap.size, 1, none⟩ (.slice p3 n3 c3)) := ((HB2.out.trans (hb3.mono HB2.out.size)).setCell hs1 _).setCell hs1 _
    have hm0 : ((w3.setCell ⟨w1.heap.size, 0, none⟩ (.int .i64 (v3 : Int))).setCell ⟨w1.heap.size, 1, none⟩ (.slice p3 n3 c3)).cell? ⟨w1.heap.size, 0, none⟩ = some (.int .i64 (v3 : Int)) := by
     rw [World.cell?_setCell_other _ _ _ _ (by simp)]
     exact World.cell?_setCell_same w3 ⟨w1.heap.size, 0, none⟩ _ k0
    have hm1 : ((w3.setCell ⟨w1.heap.size, 0, none⟩ (.int .i64 (v3 : Int))).setCell ⟨w1.heap.size, 1, none⟩ (.slice p3 n3 c3)).cell? ⟨w1.heap.size, 1, none⟩ = some (.slice p3 n3 c3) :=
     World.cell?_setCell_same _ ⟨w1.heap.size, 1, none⟩ _ (by rw [World.cell?_setCell_other _ _ _ _ (by simp)]; exact k1)
    have HX : Hid (FmIn w.heap.size w1.heap.size v3 p3 n3 c3 ps3 ((w3.setCell ⟨w1.heap.size, 0, none⟩ (.int .i64 (v3 : Int))).setCell ⟨w1.heap.size, 1, none⟩ (.slice p3 n3 c3))) := hid ⟨hm0, hm1, rows_mono (rows_ahead (rows_ahead ho3 s2) s2) (by omega)⟩
    have HBE := hid hbE
    have HC3 := hid hcnf3
    clear hb3 ho3 hcnf3 hbE hm0 hm1
    go_wp2
    go_meet
    case rel => exact ⟨v3, n3, c3, p3, ps3, by omega, by omega, HX.out, HC3.out, hln3, HBE.out⟩
  · have hr0' : ((r : Int) == 0) = false := beq_eq_false_iff_ne.2 (by omega)
    go_wp2
    go_meet
    case rel => exact ⟨v, n, c, p, ps, by omega, by omega, HF2.out, HCnf.out, by omega, HB2.out⟩
 case rest =>
  clear HG0 HG1 HY0 HY1 HF1 HF2 HBW HO1 HCnf hln hv1 hv6 k0 k1 f0 f1
  generalize v = v0 at *
  generalize p = p0 at *
  generalize n = n0 at *
  generalize c = c0 at *
  generalize wc = wo at *
  obtain ⟨v, n, c, p, ps, hv1, hv12, hfm, hcnf, hln, hbw⟩ := hcut
  obtain ⟨Z, hZ⟩ : ∃ Z, ps.map (·.2) = Z := ⟨_, rfl⟩
  have hpn : ps.length = n := own_len hfm.own
  have hn52 : n ≤ 52 := by omega
  have HNil := hid (nil_cap hfm.own)
  rw [hZ] at hcnf
  have HZ := hid hZ
  have HCnf := hid hcnf
  have HFm := hid hfm
  have HBw := hid hbw
  have hswc := hbw.size
  have HKI : Hid (∀ W : World, Below wo.heap.size wo W → FmIn w.heap.size w1.heap.size v p n c ps W ∧ IntRows W p n Z ∧ Tab W ∧ ErrW W ∧ Below w.heap.size w W) := hid (fun W hb => by
   have hbw := HBw.out.trans (hb.mono HBw.out.size)
   exact ⟨HFm.out.below hb, rows_is (HFm.out.below hb).own HZ.out, tab_below HT.out hbw, ErrW.below HE.out hbw, hbw⟩)
  have f0 := hfm.c0
  have f1 := hfm.c1
  clear hcnf hZ hfm hbw
  go_wp2_with fail
  refine (stepsOf_spec a1 len1 cap1 w.heap.size v n c p ps _ (bytes_keep HBy1.out (HKI.out _ (by repeat (first | exact Below.refl _ _ | assumption | refine Below.drew ?_ | refine Below.alloc ?_ (by first | exact Nat.le_refl _ | omega | (simp; done) | (simp; omega)) _ | refine Below.setCell ?_ (by first | exact Nat.le_refl _ | omega | (simp; done) | (simp; omega)) _))).2.2.2.2) hl1 (HKI.out _ (by repeat (first | exact Below.refl _ _ | assumption | refine Below.drew ?_ | refine Below.alloc ?_ (by first | exact Nat.le_refl _ | omega | (simp; done) | (simp; omega)) _ | refine Below.setCell ?_ (by first | exact Nat.le_refl _ | omega | (simp; done) | (simp; omega)) _))).1.own (by rw [HZ.out]; exact HCnf.out) (by omega) (by omega) (by omega)).mono ?_
  rintro e w3 ⟨g3, c3, ps3, rfl, ho3, hri3, hl3, hb3⟩
  have HB3 : Hid (Below wo.heap.size wo w3) := hid ((show Below wo.heap.size wo _ from (by repeat (first | exact Below.refl _ _ | assumption | refine Below.drew ?_ | refine Below.alloc ?_ (by first | exact Nat.le_refl _ | omega | (simp; done) | (simp; omega)) _ | refine Below.setCell ?_ (by first | exact Nat.le_refl _ | omega | (simp; done) | (simp; omega)) _))).trans (hb3.mono (by simp)))
  obtain ⟨ss, hss⟩ : ∃ ss, ps3.map strip = ss := ⟨_, rfl⟩
  obtain ⟨a3, cc3, e3, hr3⟩ := row_steps ho3 hss
  have hl3' : ss.length = ps3.length := by rw [← hss, List.length_map]
  rw [hl3'] at e3 hr3
  injection e3 with e3 _ e3c
  subst e3 e3c
  obtain ⟨sl, hsl⟩ : ∃ sl, ps3.length = sl := ⟨_, rfl⟩
  rw [hsl] at hr3 ⊢
  have HR3 := hid hr3
  obtain ⟨k0, k1, _⟩ := (HKI.out _ HB3.out).1
  clear ho3 hri3 hl3 hb3 hss hl3' hr3 f0 f1
  go_wp2_with fail
  refine (chk_face v p n c Z (some ⟨g3, 0, none⟩) sl c3 ss _ (HKI.out _ (HB3.out.trans ((show Below w3.heap.size w3 _ from (by repeat (first | exact Below.refl _ _ | assumption | refine Below.drew ?_ | refine Below.alloc ?_ (by first | exact Nat.le_refl _ | omega | (simp; done) | (simp; omega)) _ | refine Below.setCell ?_ (by first | exact Nat.le_refl _ | omega | (simp; done) | (simp; omega)) _))).mono HB3.out.size))).2.1 (HR3.out.below (by repeat (first | exact Below.refl _ _ | assumption | refine Below.drew ?_ | refine Below.alloc ?_ (by first | exact Nat.le_refl _ | omega | (simp; done) | (simp; omega)) _ | refine Below.setCell ?_ (by first | exact Nat.le_refl _ | omega | (simp; done) | (simp; omega)) _))) (HKI.out _ (HB3.out.trans ((show Below w3.heap.size w3 _ from (by repeat (first | exact Below.refl _ _ | assumption | refine Below.drew ?_ | refine Below.alloc ?_ (by first | exact Nat.le_refl _ | omega | (simp; done) | (simp; omega)) _ | refine Below.setCell ?_ (by first | exact Nat.le_refl _ | omega | (simp; done) | (simp; omega)) _))).mono HB3.out.size))).2.2.1 (HKI.out _ (HB3.out.trans ((show Below w3.heap.size w3 _ from (by repeat (first | exact Below.refl _ _ | assumption | refine Below.drew ?_ | refine Below.alloc ?_ (by first | exact Nat.le_refl _ | omega | (simp; done) | (simp; omega)) _ | refine Below.setCell ?_ (by first | exact Nat.le_refl _ | omega | (simp; done) | (simp; omega)) _))).mono HB3.out.size))).2.2.2.1).mono ?_
  rintro e w4 ⟨p4, c4, rfl, ha4, hb4⟩
  have hb34 : Below w3.heap.size w3 w4 := (show Below w3.heap.size w3 _ from (by repeat (first | exact Below.refl _ _ | assumption | refine Below.drew ?_ | refine Below.alloc ?_ (by first | exact Nat.le_refl _ | omega | (simp; done) | (simp; omega)) _ | refine Below.setCell ?_ (by first | exact Nat.le_refl _ | omega | (simp; done) | (simp; omega)) _))).trans (hb4.mono (by simp))
  have HB4 : Hid (Below wo.heap.size wo w4) := hid (HB3.out.trans (hb34.mono HB3.out.size))
  have HR4 := hid (HR3.out.below hb34)
  have HA4 := hid ha4
  obtain ⟨k0, k1, _⟩ := (HKI.out _ HB4.out).1
  clear hb4 hb34 ha4 HR3
  go_wp2_with fail
  refine (check_spec' v p n c Z (some ⟨g3, 0, none⟩) sl c3 ss _ (HKI.out _ (HB4.out.trans ((show Below w4.heap.size w4 _ from (by repeat (first | exact Below.refl _ _ | assumption | refine Below.drew ?_ | refine Below.alloc ?_ (by first | exact Nat.le_refl _ | omega | (simp; done) | (simp; omega)) _ | refine Below.setCell ?_ (by first | exact Nat.le_refl _ | omega | (simp; done) | (simp; omega)) _))).mono HB4.out.size))).2.1 (HR4.out.below (by repeat (first | exact Below.refl _ _ | assumption | refine Below.drew ?_ | refine Below.alloc ?_ (by first | exact Nat.le_refl _ | omega | (simp; done) | (simp; omega)) _ | refine Below.setCell ?_ (by first | exact Nat.le_refl _ | omega | (simp; done) | (simp; omega)) _))) HNil.out).mono ?_
  rintro e w5 ⟨p5, c5, rfl, ha5, hb5⟩
  have HB5 : Hid (Below wo.heap.size wo w5) := hid (HB4.out.trans (((show Below w4.heap.size w4 _ from (by repeat (first | exact Below.refl _ _ | assumption | refine Below.drew ?_ | refine Below.alloc ?_ (by first | exact Nat.le_refl _ | omega | (simp; done) | (simp; omega)) _ | refine Below.setCell ?_ (by first | exact Nat.le_refl _ | omega | (simp; done) | (simp; omega)) _))).trans (hb5.mono (by simp))).mono HB4.out.size))
  obtain ⟨rfl, rfl⟩ := HA4.out.uniq ha5
  obtain ⟨k0, k1, _⟩ := (HKI.out _ HB5.out).1
  clear hb5 ha5 HR4
  go_wp2_with fail
  refine (leastModel_spec w.heap.size v n c p ps _ (HKI.out _ (HB5.out.trans ((show Below w5.heap.size w5 _ from (by repeat (first | exact Below.refl _ _ | assumption | refine Below.drew ?_ | refine Below.alloc ?_ (by first | exact Nat.le_refl _ | omega | (simp; done) | (simp; omega)) _ | refine Below.setCell ?_ (by first | exact Nat.le_refl _ | omega | (simp; done) | (simp; omega)) _))).mono HB5.out.size))).1.own (by rw [HZ.out]; exact HCnf.out) (by omega)).mono ?_
  intro e w6 hm6
  obtain ⟨x6, c6, rfl, hc6, hb6⟩ := ends_code hm6
  rw [HZ.out] at hc6
  have HC6 := hid hc6
  have HB6 : Hid (Below wo.heap.size wo w6) := hid (HB5.out.trans (((show Below w5.heap.size w5 _ from (by repeat (first | exact Below.refl _ _ | assumption | refine Below.drew ?_ | refine Below.alloc ?_ (by first | exact Nat.le_refl _ | omega | (simp; done) | (simp; omega)) _ | refine Below.setCell ?_ (by first | exact Nat.le_refl _ | omega | (simp; done) | (simp; omega)) _))).trans (hb6.mono (by simp))).mono HB5.out.size))
  have HNo : Hid (c4 = 0 → c6 = 6) := hid (fun h => by
   rcases HC6.out with ⟨_, h9⟩ | ⟨h9, _⟩
   · exact absurd h9 (check_none (by omega) HCnf.out HA4.out h)
   · exact h9)
  clear hm6 hc6 hb6 k0 k1
  go_upto_region 10 with fail
  go_cut [69] from 54 to 69 (fun s69 wd => s69 = .bool false ∧ wd = w6)
  case first =>
   have q4 : (c4 != c4) = false := by simp
   have q5 : (p4 != p4) = false := by simp
   by_cases hc4 : c4 = 0
   · obtain rfl := HNo.out hc4
     subst hc4
     go_wp2
     go_meet
     case rel => exact ⟨rfl, rfl⟩
   · have hc4' : (c4 == 0) = false := beq_eq_false_iff_ne.2 hc4
     go_wp2
     go_meet
     case rel => exact ⟨rfl, rfl⟩
  case rest =>
   obtain ⟨rfl, hw6⟩ := hcut
   subst hw6
   clear HNo HA4
   obtain ⟨k, sts, hgo⟩ := goes_some Z v
   have HGo := hid hgo
   have hans : ansC (v : Int) Z k = codeK k := by unfold ansC; rw [if_pos HCnf.out]
   have hanS : ansS (v : Int) Z k sts = if k = 0 then sts.map (fun z => (false, z)) else [] := by
    unfold ansS
    by_cases h9 : k = 0
    · rw [if_pos ⟨HCnf.out, h9⟩, if_pos h9]
    · rw [if_neg (fun h => h9 h.2), if_neg h9]
   have HIm := hid (fun W hr ht he => ref_impl (v : Int) p n c Z W hr ht he k sts (fun _ => ⟨v, rfl, hgo⟩))
   rw [hans, hanS] at HIm
   obtain ⟨tt, htt⟩ : ∃ tt, (if k = 0 then sts.map (fun z => (false, z)) else []) = tt := ⟨_, rfl⟩
   rw [htt] at HIm
   have HTt := hid htt
   clear hgo hans hanS htt
   obtain ⟨k0, k1, _⟩ := (HKI.out _ HB6.out).1
   go_wp2_with fail
   refine (HIm.out _ (HKI.out _ (HB6.out.trans ((show Below wc.heap.size wc _ from (by repeat (first | exact Below.refl _ _ | assumption | refine Below.drew ?_ | refine Below.alloc ?_ (by first | exact Nat.le_refl _ | omega | (simp; done) | (simp; omega)) _ | refine Below.setCell ?_ (by first | exact Nat.le_refl _ | omega | (simp; done) | (simp; omega)) _))).mono HB6.out.size))).2.1 (HKI.out _ (HB6.out.trans ((show Below wc.heap.size wc _ from (by repeat (first | exact Below.refl _ _ | assumption | refine Below.drew ?_ | refine Below.alloc ?_ (by first | exact Nat.le_refl _ | omega | (simp; done) | (simp; omega)) _ | refine Below.setCell ?_ (by first | exact Nat.le_refl _ | omega | (simp; done) | (simp; omega)) _))).mono HB6.out.size))).2.2.1 (HKI.out _ (HB6.out.trans ((show Below wc.heap.size wc _ from (by repeat (first | exact Below.refl _ _ | assumption | refine Below.drew ?_ | refine Below.alloc ?_ (by first | exact Nat.le_refl _ | omega | (simp; done) | (simp; omega)) _ | refine Below.setCell ?_ (by first | exact Nat.le_refl _ | omega | (simp; done) | (simp; omega)) _))).mono HB6.out.size))).2.2.2.1).mono ?_
   rintro e w7 ⟨v7, ps7, rfl, ho7, -, hs7, hb7⟩
   obtain ⟨a7, cc7, rfl, hr7⟩ := row_steps ho7 hs7
   have HB7 : Hid (Below wo.heap.size wo w7) := hid (HB6.out.trans (((show Below wc.heap.size wc _ from (by repeat (first | exact Below.refl _ _ | assumption | refine Below.drew ?_ | refine Below.alloc ?_ (by first | exact Nat.le_refl _ | omega | (simp; done) | (simp; omega)) _ | refine Below.setCell ?_ (by first | exact Nat.le_refl _ | omega | (simp; done) | (simp; omega)) _))).trans (hb7.mono (by simp))).mono HB6.out.size))
   have HR7 := hid hr7
   obtain ⟨k0, k1, _⟩ := (HKI.out _ HB7.out).1
   clear ho7 hs7 hb7 hr7 HIm
   go_wp2_with fail
   refine (refutation_spec w.heap.size v n c p ps _ (HKI.out _ (HB7.out.trans ((show Below w7.heap.size w7 _ from (by repeat (first | exact Below.refl _ _ | assumption | refine Below.drew ?_ | refine Below.alloc ?_ (by first | exact Nat.le_refl _ | omega | (simp; done) | (simp; omega)) _ | refine Below.setCell ?_ (by first | exact Nat.le_refl _ | omega | (simp; done) | (simp; omega)) _))).mono HB7.out.size))).1.own (by rw [HZ.out]; exact HCnf.out)).mono ?_
   rintro e w8 ⟨g8, c8, code8, ps8, rfl, ho8, hri8, hl8, hb8, hf8, k8, sts8, hgo8, rfl, hcls8⟩
   rw [HZ.out] at hgo8
   obtain ⟨rfl, rfl⟩ := goes_uniq HGo.out hgo8
   have hs8 : ps8.map strip = tt := by
    rw [strip_cls hf8, hcls8, ← HTt.out]
    by_cases h9 : k = 0
    · rw [if_pos h9, if_pos h9]
    · rw [if_neg h9, if_neg h9]; rfl
   have HSt : Hid (stepsB (v : Int) tt = true) := hid (by rw [← hs8]; exact right_steps hri8 hl8)
   obtain ⟨a8, cc8, e8, hr8⟩ := row_steps ho8 hs8
   have hl8' : tt.length = ps8.length := by rw [← hs8, List.length_map]
   have hb78 : Below w7.heap.size w7 w8 := (show Below w7.heap.size w7 _ from (by repeat (first | exact Below.refl _ _ | assumption | refine Below.drew ?_ | refine Below.alloc ?_ (by first | exact Nat.le_refl _ | omega | (simp; done) | (simp; omega)) _ | refine Below.setCell ?_ (by first | exact Nat.le_refl _ | omega | (simp; done) | (simp; omega)) _))).trans (hb8.mono (by simp))
   have HB8 : Hid (Below wo.heap.size wo w8) := hid (HB7.out.trans (hb78.mono HB7.out.size))
   have HR78 := hid (HR7.out.below hb78)
   have HR8 := hid hr8
   obtain ⟨k0, k1, _⟩ := (HKI.out _ HB8.out).1
   rw [e8]
   obtain ⟨tl, htl⟩ : ∃ tl, tt.length = tl := ⟨_, rfl⟩
   rw [htl] at HR78 HR8 ⊢
   have HTl := hid htl
   have htl2 : tl ≤ 200 := by omega
   have hkk : (codeK k != codeK k) = false := by simp
   clear ho8 hri8 hl8 hb8 hf8 hgo8 hcls8 hs8 hr8 hl8' hb78 HR7 e8
   go_wp2_with fail
   refine (same_steps a7 a8 tl cc7 cc8 tt _ (HR78.out.below (by repeat (first | exact Below.refl _ _ | assumption | refine Below.drew ?_ | refine Below.alloc ?_ (by first | exact Nat.le_refl _ | omega | (simp; done) | (simp; omega)) _ | refine Below.setCell ?_ (by first | exact Nat.le_refl _ | omega | (simp; done) | (simp; omega)) _))) (HR8.out.below (by repeat (first | exact Below.refl _ _ | assumption | refine Below.drew ?_ | refine Below.alloc ?_ (by first | exact Nat.le_refl _ | omega | (simp; done) | (simp; omega)) _ | refine Below.setCell ?_ (by first | exact Nat.le_refl _ | omega | (simp; done) | (simp; omega)) _)))).mono ?_
   rintro e w9 ⟨rfl, hb9⟩
   have hb89 : Below w8.heap.size w8 w9 := (show Below w8.heap.size w8 _ from (by repeat (first | exact Below.refl _ _ | assumption | refine Below.drew ?_ | refine Below.alloc ?_ (by first | exact Nat.le_refl _ | omega | (simp; done) | (simp; omega)) _ | refine Below.setCell ?_ (by first | exact Nat.le_refl _ | omega | (simp; done) | (simp; omega)) _))).trans (hb9.mono (by simp))
   have HB9 : Hid (Below wo.heap.size wo w9) := hid (HB8.out.trans (hb89.mono HB8.out.size))
   have HR9 := hid (HR78.out.below hb89)
   obtain ⟨k0, k1, _⟩ := (HKI.out _ HB9.out).1
   have hBE := hid (HKI.out _ HB9.out).2.2.2.2
   clear hb9 hb89 HR78 HR8 hkk
   rcases goes_code HGo.out with rfl | rfl | rfl
   · have hck : codeK 0 = 0 := rfl
     rw [hck]
     have htt : tt = sts.map (fun z => (false, z)) := by rw [← HTt.out, if_pos rfl]
     subst htt
     go_wp2_with fail
     refine (chk_face v p n c Z a7 tl cc7 (sts.map (fun z => (false, z))) _ (HKI.out _ (HB9.out.trans ((show Below w9.heap.size w9 _ from (by repeat (first | exact Below.refl _ _ | assumption | refine Below.drew ?_ | refine Below.alloc ?_ (by first | exact Nat.le_refl _ | omega | (simp; done) | (simp; omega)) _ | refine Below.setCell ?_ (by first | exact Nat.le_refl _ | omega | (simp; done) | (simp; omega)) _))).mono HB9.out.size))).2.1 (HR9.out.below (by repeat (first | exact Below.refl _ _ | assumption | refine Below.drew ?_ | refine Below.alloc ?_ (by first | exact Nat.le_refl _ | omega | (simp; done) | (simp; omega)) _ | refine Below.setCell ?_ (by first | exact Nat.le_refl _ | omega | (simp; done) | (simp; omega)) _))) (HKI.out _ (HB9.out.trans ((show Below w9.heap.size w9 _ from (by repeat (first | exact Below.refl _ _ | assumption | refine Below.drew ?_ | refine Below.alloc ?_ (by first | exact Nat.le_refl _ | omega | (simp; done) | (simp; omega)) _ | refine Below.setCell ?_ (by first | exact Nat.le_refl _ | omega | (simp; done) | (simp; omega)) _))).mono HB9.out.size))).2.2.1 (HKI.out _ (HB9.out.trans ((show Below w9.heap.size w9 _ from (by repeat (first | exact Below.refl _ _ | assumption | refine Below.drew ?_ | refine Below.alloc ?_ (by first | exact Nat.le_refl _ | omega | (simp; done) | (simp; omega)) _ | refine Below.setCell ?_ (by first | exact Nat.le_refl _ | omega | (simp; done) | (simp; omega)) _))).mono HB9.out.size))).2.2.2.1).mono ?_
     rintro e w10 ⟨p10, c10, rfl, ha10, hb10⟩
     have HBx := hid ((HKI.out _ (HB9.out.trans (((show Below w9.heap.size w9 _ from (by repeat (first | exact Below.refl _ _ | assumption | refine Below.drew ?_ | refine Below.alloc ?_ (by first | exact Nat.le_refl _ | omega | (simp; done) | (simp; omega)) _ | refine Below.setCell ?_ (by first | exact Nat.le_refl _ | omega | (simp; done) | (simp; omega)) _))).trans (hb10.mono (by simp))).mono HB9.out.size))).2.2.2.2)
     obtain ⟨hc10, hp10⟩ := ref_checks (by omega) HCnf.out HGo.out HSt.out ha10
     have hno := check_none (by omega) HCnf.out ha10 hc10
     have hc6 : c6 = 6 := by
      rcases HC6.out with ⟨_, h9⟩ | ⟨h9, _⟩
      · exact absurd h9 hno
      · exact h9
     have hl9 : (sts.length : Int) = tl := by have := HTl.out; rw [List.length_map] at this; omega
     have hp11 : p10 = (tl : Int) - 1 := by omega
     subst hc10 hc6 hp11
     clear hp10 hb10 ha10 hno hl9
     go_wp2
     go_ret
     exact ⟨by simp, HBx.out⟩
   · have hck : codeK 1 = 6 := rfl
     rw [hck]
     have hc6 : c6 = 0 := by
      rcases HC6.out with ⟨h9, _⟩ | ⟨_, h9⟩
      · exact h9
      · exact absurd (ref_model (by omega) HCnf.out HGo.out) h9
     subst hc6
     go_wp2
     go_ret
     exact ⟨rfl, hBE.out⟩
   · have hck : codeK 2 = 7 := rfl
     rw [hck]
     go_wp2
     go_ret
     exact ⟨rfl, hBE.out⟩
theorem own : ownKnob Tryz.prog.godebug = none := by kernel_rfl
theorem laidOut : laidOutB Tryz.prog = true := by kernel_rfl
/- The library's tables as their initialisers lay them. -/
def b64Ints : List Int := [0, 1, 56, 2, 57, 49, 28, 3, 61, 58, 42, 50, 38, 29, 17, 4, 62, 47, 59, 36, 45, 43, 51, 22, 53, 39, 33, 30, 24, 18, 12, 5, 63, 55, 48, 27, 60, 41, 37, 16, 46, 35, 44, 21, 52, 32, 23, 11, 54, 26, 40, 15, 34, 20, 31, 10, 25, 14, 19, 9, 13, 8, 7, 6]
def laidAs (l : List Value) : Obj → Obj
 | .cells _ t frozen => .cells l.toArray t frozen
 | o => o
def b64Tab : List Value := b64Ints.map (Value.int .u8)
def gB64 : Nat := 1
def errTab : List Value := [.iface 145 (.agg #[.pointer (some ⟨2, 102, none⟩)])]
def gErr : Nat := 0
theorem et : Tryz.prog.globalNamed "errors.errorType" = some 0 := by kernel_rfl
theorem rt : (Tryz.prog.cutTypes.find? (·.1 == "internal/reflectlite.rtype")).map (·.2) = some 145 := by kernel_rfl
theorem oneRow : ((List.range Tryz.prog.types.size).filter fun t => Tryz.prog.rowNamed t [101, 114, 114, 111, 114]) = [102] := by kernel_rfl
theorem errs {W : World} (h : laidMetH Tryz.prog Rows.fnProofsRow.laid W) : ErrW W := by
 have h1 := h.filter (fun x => x.1 == "errors.errorType")
 have h2 : laidMet Tryz.prog [] W ∧ handlesMet Tryz.prog [("errors.errorType", Rows.laid_errors_errorType)] W := h1
 obtain ⟨name, u, ty, e1, e2, e3, e4, e5⟩ := h2.2 _ (List.mem_singleton.2 rfl)
 have en : name = [101, 114, 114, 111, 114] := (Option.some.inj e1).symm
 subst en
 obtain rfl := Option.some.inj (rt.symm.trans e2)
 have hm : ty ∈ (List.range Tryz.prog.types.size).filter fun t => Tryz.prog.rowNamed t [101, 114, 114, 111, 114] := List.mem_filter.2 ⟨List.mem_range.2 e3, e4⟩
 rw [oneRow] at hm
 obtain rfl := List.mem_singleton.1 hm
 have hh : typeHandle Tryz.prog 102 = .pointer (some ⟨2, 102, none⟩) := by kernel_rfl
 rw [hh] at e5
 show W.cell? _ = _
 simpa using World.var?_cell et e5 0
theorem same_tab : ∀ j, j < Lib.deBruijn64tab.length → (b64Ints.map fun z => Value.int .u8 z).toArray[j]? = some (.int .u8 (Lib.deBruijn64tab.getD j 0)) := by
 intro j hj
 have hl : Lib.deBruijn64tab.length = 64 := by decide +kernel
 rw [hl] at hj
 have h : ∀ j : Fin 64, b64Ints[j.1]? = some ((Lib.deBruijn64tab.getD j.1 0 : Nat) : Int) := by decide +kernel
 have := h ⟨j, hj⟩
 simp only [List.getElem?_toArray, List.getElem?_map]
 rw [this]
 rfl
theorem table {W : World} (h : laidMetH Tryz.prog Rows.fnProofsRow.laid W) : Tab W := by
 have h1 := h.filter (fun x => x.1 == "math/bits.deBruijn64tab")
 have h2 : laidMet Tryz.prog [("math/bits.deBruijn64tab", Lib.tabData .u8 b64Ints)] W := h1
 have h3 := Lib.tabIs_of_head (g := 1) (t := 158) (e := 5) (n := 64) (by kernel_rfl) (by kernel_rfl) Tryz.underlying158 Tryz.underlying5 (by kernel_rfl) (by kernel_rfl) h2
 unfold Lib.TabIs World.var? at h3
 rw [show Tryz.prog.globalNamed "math/bits.deBruijn64tab" = some 1 by kernel_rfl] at h3
 simp only [Option.bind_some] at h3
 split at h3
 · rename_i cs t fr hh
   injection h3 with h3
   intro j hj
   have h4 := same_tab j hj
   rw [← h3] at h4
   simp only [World.cell?, hh, h4]
   first | done | exact h4 | rfl | simp
 · cases h3
theorem laid_met (os : Os) : laidMetH Tryz.prog Rows.fnProofsRow.laid (({ World.holding Tryz.prog os ⟨#[], #[], []⟩ with heap := (((World.holding Tryz.prog os ⟨#[], #[], []⟩).heap.modify gB64 (laidAs b64Tab)).modify gErr (laidAs errTab)) } : World).forCall (fun _ _ => 0) ⟨#[], #[.slice none 0 0, .slice none 0 0], []⟩).memory :=
 laidMetH_of_parts (laidMet_of_run' 8 (by kernel_rfl) (by kernel_rfl)) (by kernel_rfl)
theorem reads (os : Os) {H : Type} (enc : TypeId × Value → H) : ∃ places, DataW.whole enc Tryz.prog (({ World.holding Tryz.prog os ⟨#[], #[], []⟩ with heap := (((World.holding Tryz.prog os ⟨#[], #[], []⟩).heap.modify gB64 (laidAs b64Tab)).modify gErr (laidAs errTab)) } : World).forCall (fun _ _ => 0) ⟨#[], #[.slice none 0 0, .slice none 0 0], []⟩).memory Tryz.f3.params.toList Rows.fnProofsSpec.vars false #[Value.slice none 0 0, .slice none 0 0].toList 8 = some ([.nil, .nil], [], places) :=
 ⟨[], by kernel_rfl⟩
set_option maxRecDepth 100000 in
theorem contract (H : Type) (enc : TypeId × Value → H) (W : World) (base : Nat) (args : Array Value) (ds gs : List (DataW H)) (before : List MemPlace)
  (hval : ∀ (j : Nat) t v, Tryz.f3.params[j]? = some t → args[j]? = some v → Value.okWide Tryz.prog W .any base t v)
  (hW : DataW.Whole enc Tryz.prog Tryz.f3.params.toList Rows.fnProofsSpec.vars false W args.toList ds gs before) (hL : laidMetH Tryz.prog Rows.fnProofsRow.laid W) :
  Calls Tryz.prog 3 args W fun e W' => ∃ v, e = .returned v ∧ Rows.fnProofsSpec.post enc Tryz.prog Tryz.f3 false true false false W args v W' := by
 have hW' := hW
 obtain ⟨p, q, hA0, hV, rfl, hfz, hnd⟩ := hW
 have hA : DataW.TrodAll enc Tryz.prog W 0 (fun _ => true) true Tryz.f3.params.toList args.toList ds p := hA0
 rw [Tryz.params3] at hA hval
 obtain ⟨v0, vs0, d0, ds0, p0, q0, hargs, rfl, rfl, h0, r0⟩ := trodAll_cons hA
 obtain ⟨v1, vs1, d1, ds1, p1, q1, rfl, rfl, rfl, h1, r1⟩ := trodAll_cons r0
 obtain ⟨rfl, rfl, rfl⟩ := trodAll_nil r1
 obtain rfl : args = #[v0, v1] := by cases args; simp_all
 obtain ⟨rfl, rfl⟩ := trodVars_none hV
 have k0 := h0
 have lt0 : ∀ x ∈ p0, x.block < W.heap.size := by obtain ⟨m, hm⟩ := k0; exact DataW.trod_lt m _ _ _ hm
 obtain ⟨a0, la0, ca0, rfl⟩ := okWide_slice Tryz.underlying22 (hval 0 22 v0 rfl rfl)
 have hba0 : source.Bytes W a0 la0 ∧ la0 ≤ maxLen := by
  obtain ⟨fuel, hf⟩ := h0
  obtain ⟨a', l', c', e, hb⟩ := bytes_of_trod Tryz.underlying22 Tryz.underlying5 (by kernel_rfl) (by simpa [Value.cells] using hf)
  cases e
  exact hb
 have k1 := h1
 have lt1 : ∀ x ∈ p1, x.block < W.heap.size := by obtain ⟨m, hm⟩ := k1; exact DataW.trod_lt m _ _ _ hm
 obtain ⟨a1, la1, ca1, rfl⟩ := okWide_slice Tryz.underlying22 (hval 1 22 v1 rfl rfl)
 have hba1 : source.Bytes W a1 la1 ∧ la1 ≤ maxLen := by
  obtain ⟨fuel, hf⟩ := h1
  obtain ⟨a', l', c', e, hb⟩ := bytes_of_trod Tryz.underlying22 Tryz.underlying5 (by kernel_rfl) (by simpa [Value.cells] using hf)
  cases e
  exact hb
 clear hA0
 refine (walk a0 a1 la0 la1 ca0 ca1 W hba0.1 hba1.1 hba0.2 hba1.2 (table hL) (errs hL)).mono fun e W' ⟨he, bel⟩ => ?_
 subst he
 exact ⟨_, rfl, _, _, _, [], _, [], hW', trodAll_mk1 (shut_bool Tryz.underlying4 _), (trodAll_cons_mk (Below.trod laidOut (by kernel_rfl) (of_decide_eq_true (by kernel_rfl)) k0 bel lt0) (trodAll_cons_mk (Below.trod laidOut (by kernel_rfl) (of_decide_eq_true (by kernel_rfl)) k1 bel lt1) trodAll_mk0)), rfl, bel.frame _, fun h => by cases h⟩
set_option maxRecDepth 100000 in
theorem lifted (os : Os) (started : os.Started) (H : Type) (enc : TypeId × Value → H) (F : Stop.Interp) :
  ReturnsInHanded {} Tryz.checked os 3 .any ((OpenSpec.ofChange Rows.fnProofsSpec).preRow enc Tryz.prog Tryz.f3 Rows.fnProofsRow.domain false Rows.fnProofsRow.laid) (((OpenSpec.ofChange Rows.fnProofsSpec).at F).post enc Tryz.prog Tryz.f3 false true false false) := by
 obtain ⟨places, hx⟩ := reads os enc
 refine returnsInHanded_of_row (C := Tryz.checked) (s := OpenSpec.ofChange Rows.fnProofsSpec) own started (by kernel_rfl) Tryz.func3
  (witness_row_at (enc := enc) (C := Tryz.checked) false ({ World.holding Tryz.prog os ⟨#[], #[], []⟩ with heap := (((World.holding Tryz.prog os ⟨#[], #[], []⟩).heap.modify gB64 (laidAs b64Tab)).modify gErr (laidAs errTab)) } : World) #[.slice none 0 0, .slice none 0 0] rfl (by kernel_rfl) (by kernel_rfl) (by kernel_rfl)
   (OpenSpec.preRow_of_cond 8 hx (by kernel_rfl) (fun k hk => by cases hk) (by kernel_rfl) (laid_met os))) ?_
 intro W base args ds gs before hval hW _ _ _ hL hsh _
 exact contract H enc W base args ds gs before hval hW hL
theorem said : Rows.FnProofsSaid :=
 OpenClaim.holds_of_cond 3 Tryz.f3 rfl rfl rfl rfl rfl rfl rfl ⟨rfl, rfl, rfl, rfl, rfl⟩ rfl rfl rfl rfl rfl (by kernel_rfl) Tryz.func3 (by kernel_rfl)
  (of_decide_eq_true (by kernel_rfl)) (by unfold Func.isWrapper; first | (rw [if_pos (by decide +kernel)]; kernel_rfl) | (rw [if_neg (by decide +kernel)]; exact ⟨rfl, rfl⟩))
  (fun os started H enc _ F => by rw [OpenClaim.pre_eq_preRow]; exact lifted os started H enc F)
theorem plain (f : FuncId) (fn : Func) (hf : Tryz.pinned.checked.prog.funcNamed "loop.example/g00159/laws.FnProofs" = some f) (hfn : Tryz.pinned.checked.prog.funcs[f]? = some fn) :
  true = Tryz.pinned.checked.prog.looks [] ∧ ∀ (j : Nat) t, fn.params[j]? = some t → Tryz.pinned.checked.prog.wantsStandIn t = false := by
 obtain rfl : f = 3 := Option.some.inj ((show Tryz.prog.funcNamed "loop.example/g00159/laws.FnProofs" = some 3 by kernel_rfl).symm.trans hf) |>.symm
 obtain rfl : fn = Tryz.f3 := (Option.some.inj (Tryz.func3.symm.trans hfn)).symm
 refine ⟨by kernel_rfl, fun j t ht => ?_⟩
 rw [Tryz.params3] at ht
 obtain rfl : t = 22 := by
  have := Array.mem_of_getElem? ht
  simpa using this
 exact (show Tryz.prog.wantsStandIn 22 = false by kernel_rfl)
end Go.Proofs.YtmkhoocokpkojaaGreatDoor.fnProofs
namespace Go.Proofs.YtmkhoocokpkojaaGreatDoor
theorem fnProofs_holds : Rows.FnProofsCardSaid :=
 Claim7.holds_tied_plain_at .later [] _ _ _ _ fnProofs.said (fun _ h => by cases h) (by kernel_rfl) (fun _ h => by cases h) fnProofs_row_tie rfl ⟨rfl, rfl⟩ (by kernel_rfl) rfl fnProofs.plain (by kernel_rfl)
end Go.Proofs.YtmkhoocokpkojaaGreatDoor
