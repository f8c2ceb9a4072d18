/- For all codes: Rup and Rat tell of the formula and the clause drawn out of them what the specification tells, what Rup tells is implied, and where Rat tells it the formula has models just when it has some with the clause; the library's table and handle are as their initialisers lay them, tied to the program's text; conditions: none. -/
import Derived.Test.YtpfecijahiikhaaGreatDoorPart40
import Derived.Test.YtpfecijahiikhaaGreatDoorPart43
import Derived.Test.YtpfecijahiikhaaGreatDoorPart41
import Derived.Test.YtpfecijahiikhaaGreatDoorPart46
import Derived.Test.YtpfecijahiikhaaGreatDoorPart47
import Derived.Test.YtpfecijahiikhaaGreatDoorPart18
import Derived.Test.YtpfecijahiikhaaGreatDoorCards
import Derived.Test.YtpfecijahiikhaaGreatDoorTie
import Derived.OpenVars
import Derived.SevenTiedAt
import Derived.Deep.DeepHandedRow
import Derived.Lib.LaidTab
import Derived.LaidSub
namespace Go.Proofs.YtpfecijahiikhaaGreatDoor.fnRups
open Go.ChangeShapes Go.WideShapes Go.ChangeAt Go.RowKit Go.Deep Go.Joins base copy cnf sets args byteArgs rowsOwn source cnfDraw clauseOfI solOps faultB clsRow heldStore drawn drawnLin drawnSrc drawnEnd rupFaceS rupFaceI ratFaceS ratFaceI impSpec leastModel rupsMath
set_option linter.unusedVariables false
set_option linter.unusedSimpArgs false

theorem rows_is {B n c : Nat} {w : World} {a : Option Addr} {ps : List (Value × List Int)} {L : List (List Int)} (h : OwnRows B w (.slice a n c) ps) (e : ps.map (·.2) = L) : IntRows w a n L := by
  rw [← e]
  exact rows_of_own h
theorem bytes_keep {w w1 : World} {a : Option Addr} {len : Nat} (h : Bytes w a len) (hb : Below w.heap.size w w1) : Bytes w1 a len := fun i hi => by
  obtain ⟨bb, off, e, x, hx, hc⟩ := h i hi
  exact ⟨bb, off, e, x, hx, keep hb hc⟩
theorem own_at2 {B n s : Nat} {t : TypeId} {w w1 : World} {v : Value} {xs : List Value} (h : w.ownsRow B t s v n xs) (hk : ∀ g cs, v.ownBlock = some g → w.heap[g]? = some (.cells cs t (0, 0)) → w1.heap[g]? = w.heap[g]?) : w1.ownsRow B t s v n xs := by
  obtain ⟨h1, h2⟩ := h
  refine ⟨h1, ?_⟩
  rcases h2 with h2 | ⟨g, cap, cur, rfl, hg, hh, hn⟩
  · exact .inl h2
  · exact .inr ⟨g, cap, cur, rfl, hg, (hk g cur rfl hh).trans hh, hn⟩
theorem outer_set {B n N k : Nat} {w w1 : World} {v : Value} {xs : List Value} {f : Nat → Value} (h : w.ownsRow B 27 1 v n xs) (hr : w.rowIs N 25 k f) (hc : Chg (fun j => j = N) w w1) : w1.ownsRow B 27 1 v n xs := by
  obtain ⟨cs0, h0, _⟩ := hr
  refine own_at2 h fun g cs hv hh => hc.block g (Array.getElem?_eq_some_iff.1 hh).1 fun e => ?_
  have e' : g = N := e
  subst e'
  rw [h0] at hh
  injection hh with hh
  injection hh with _ hh _
  exact absurd hh (by decide)
theorem step_append_nil {P : Program} (w : World) {ops : Array Oper} {o : Oper} {a : Act} {K : Act → World → Prop} {Q : Exit → Act → World → Prop} {E : Prop} (hgd : o.guard = none) (s x : Operand) (t : TypeId)
    (ho : o.op = .call { callee := .builtin .append, args := #[s, x], argTypes := #[t, t] }) (d : Option Tmp) (hd : o.dst = d)
    (base : Nat) (e : TypeId) (i : TypeInfo) (ht : P.underlying t = some (.slice e)) (hi : P.info? e = some i)
    (v : Value) (n : Nat) (xs : List Value) (hs : a.eval s = v) (hown : w.ownsRow base e 1 v n xs) (hx : a.eval x = .slice none 0 0) (h : K (a.put d v) w) :
    if Region.wanted o (yielded ops a.tmps) = true then Oper.wp P o a w K Q else E := by
  subst hd
  have hw : Region.wanted o (yielded ops a.tmps) = true := by simp [Region.wanted, hgd]
  rw [if_pos hw]
  have hrun := run_append_owned_none (P := P) (w := w) base t o.type e i 1 ht hi v n xs hown
  unfold Oper.wp
  simp [execOp, ho, resolve, invoke, builtin, hs, hx, hrun, Result.andThen]
  exact h
set_option maxHeartbeats 6400000 in
set_option maxRecDepth 8000 in
theorem walk (a0 a1 : Option Addr) (len0 len1 cap0 cap1 : Nat) (w : World) (hby0 : Bytes w a0 len0) (hby1 : Bytes w a1 len1) (hm0 : len0 ≤ maxLen) (hm1 : len1 ≤ maxLen) (ht : Tab w) (he : ErrW w) :
    Calls Tryz.prog 3 #[.slice a0 len0 cap0, .slice a1 len1 cap1] w fun e w' => e = .returned (.bool true) ∧ Below w.heap.size w w' := by
  unfold maxLen at hm0 hm1
  have HBy0 := hid hby0
  have HBy1 := hid hby1
  have HT := hid ht
  have HE := hid he
  clear hby0 hby1 ht he
  obtain ⟨i0, hi, hzz⟩ := Option.map_eq_some_iff.1 info_row
  simp only [Prod.mk.injEq] at hzz
  obtain ⟨hz0, hz1, hz2⟩ := hzz
  have HI := hid hi
  have HZ0 := hid hz0
  have HZ1 := hid hz1
  have HZ2 := hid hz2
  clear hi hz0 hz1 hz2
  by_cases h0 : 1048576 < len0
  · go_enter Tryz.func3, Tryz.ntmps3
    go_wp2
    go_ret
    exact ⟨rfl, (by repeat (first | exact Below.refl _ _ | assumption | refine Below.drew ?_ | refine Below.alloc ?_ (by first | exact Nat.le_refl _ | omega | (simp; done) | (simp; omega)) _ | refine Below.setCell ?_ (by first | exact Nat.le_refl _ | omega | (simp; done) | (simp; omega)) _))⟩
  by_cases h1 : 1048576 < len1
  · go_enter Tryz.func3, Tryz.ntmps3
    go_wp2
    go_ret
    exact ⟨rfl, (by repeat (first | exact Below.refl _ _ | assumption | refine Below.drew ?_ | refine Below.alloc ?_ (by first | exact Nat.le_refl _ | omega | (simp; done) | (simp; omega)) _ | refine Below.setCell ?_ (by first | exact Nat.le_refl _ | omega | (simp; done) | (simp; omega)) _))⟩
  have hl0 : len0 ≤ 1048576 := by omega
  have hl1 : len1 ≤ 1048576 := by omega
  have hl0' : (len0 : Int) ≤ 1048576 := by omega
  have hl1' : (len1 : Int) ≤ 1048576 := by omega
  go_enter Tryz.func3, Tryz.ntmps3
  go_wp2_with fail
  refine (cnfOf_spec a0 len0 cap0 _ HBy0.out hl0).mono ?_
  rintro e w1 ⟨vars, p, n, c, ps, rfl, hv1, hv6, ho1, hcnf, hln, hb1⟩
  obtain ⟨v, hv⟩ := Int.eq_ofNat_of_zero_le (show 0 ≤ vars by omega)
  subst hv
  obtain ⟨Z, hZ⟩ : ∃ Z, ps.map (·.2) = Z := ⟨_, rfl⟩
  have hZl : Z.length ≤ 16 := by rw [← hZ, List.length_map]; exact hln
  have hpn : ps.length = n := by
    obtain ⟨p', n', c', e, hn⟩ := own_formN ho1
    injection e with _ e2 _
    omega
  rw [hZ] at hcnf
  have HZ := hid hZ
  have HCnf := hid hcnf
  have HO1 := hid ho1
  have HPn := hid hpn
  have HLn := hid hln
  have HZl := hid hZl
  have hn16 : n ≤ 16 := by omega
  have hB1 := hid hb1
  have HPo : Hid ((p = none ∧ n = 0 ∧ c = 0 ∧ ps.map Prod.fst = []) ∨ ∃ g, p = some ⟨g, 0, none⟩) := hid (by
    rcases ho1.outer.2 with ⟨e, e2⟩ | ⟨g, cap, cur, e, _⟩
    · injection e with e3 e4 e5
      exact .inl ⟨e3, e4, e5, List.length_eq_zero_iff.1 (by rw [List.length_map, hpn, e4])⟩
    · injection e with e3 e4 e5
      exact .inr ⟨g, e3⟩)
  clear ho1 hcnf hb1 hZ hln hZl hpn
  go_wp2_with fail
  refine (clauseOf_spec a1 len1 cap1 v _ (bytes_keep HBy1.out (hB1.out.trans ((show Below w1.heap.size w1 _ from (by repeat (first | exact Below.refl _ _ | assumption | refine Below.drew ?_ | refine Below.alloc ?_ (by first | exact Nat.le_refl _ | omega | (simp; done) | (simp; omega)) _ | refine Below.setCell ?_ (by first | exact Nat.le_refl _ | omega | (simp; done) | (simp; omega)) _))).mono hB1.out.size))) hl1 (by omega) (by omega)).mono ?_
  rintro e w2 ⟨x, zs, rfl, ho2, hz2, hlit, hb2⟩
  obtain ⟨b, bc, rfl, hrb⟩ := ho2.form
  have f0 : w2.cell? ⟨w1.heap.size, 0, none⟩ = some (.int .i64 v) := keep hb2 (by simp [go_sem])
  have f1 : w2.cell? ⟨w1.heap.size, 1, none⟩ = some (.slice p n c) := keep hb2 (by simp [go_sem])
  have hb12 : Below w1.heap.size w1 w2 := (show Below w1.heap.size w1 _ from (by repeat (first | exact Below.refl _ _ | assumption | refine Below.drew ?_ | refine Below.alloc ?_ (by first | exact Nat.le_refl _ | omega | (simp; done) | (simp; omega)) _ | refine Below.setCell ?_ (by first | exact Nat.le_refl _ | omega | (simp; done) | (simp; omega)) _))).trans (hb2.mono (by simp))
  have z2 : w1.heap.size < w2.heap.size := by have := hb2.size; simp at this; omega
  have HO2 := hid (OwnRows.below HO1.out hb12)
  have HX2 := hid (ho2.mono (show w.heap.size ≤ _ by have := hB1.out.size; have := hb12.size; simp; omega))
  have hB2 := hid (hB1.out.trans (hb12.mono hB1.out.size))
  have HCl := hid (clause_ok hz2 hlit)
  have HLz := hid hz2
  clear ho2 hz2 hlit hb2 hb12 hrb HO1
  have HC0 := hid (code_zero HCnf.out HCl.out)
  have HMore := hid (cnf_more HCnf.out HCl.out HZl.out)
  have HRI := hid (rup_imp HCnf.out HCl.out (by omega : v ≤ 40))
  have HRB := hid (rat_both HCnf.out HCl.out (by omega : v ≤ 40))
  obtain ⟨zl, hzl⟩ : ∃ zl, zs.length = zl := ⟨_, rfl⟩
  rw [hzl] at ⊢
  have hzl4 : zl ≤ 4096 := by have := HLz.out; omega
  have HZl2 := hid hzl
  clear hzl
  have HW2 := hid (Below.refl w2.heap.size w2)
  have HKI : Hid (∀ W : World, Below w2.heap.size w2 W → IntRows W p n Z ∧ IntRow W b zl zs ∧ Tab W ∧ ErrW W ∧ OwnRows w.heap.size W (.slice p n c) ps ∧ OwnInts w.heap.size W (.slice b zl bc) zs) := hid (fun W hb => by
    have ho := OwnRows.below HO2.out hb
    have hx := OwnInts.below HX2.out hb
    rw [HZl2.out] at hx
    have hbw := hB2.out.trans (hb.mono hB2.out.size)
    exact ⟨rows_is ho HZ.out, row_of_own hx, tab_below HT.out hbw, HE.out.below hbw, ho, hx⟩)
  have HF2 : Hid (∀ W : World, Below w2.heap.size w2 W → W.cell? ⟨w1.heap.size, 0, none⟩ = some (.int .i64 v) ∧ W.cell? ⟨w1.heap.size, 1, none⟩ = some (.slice p n c)) := by
    have F0 := hid f0
    have F1 := hid f1
    exact hid (fun W hb => ⟨keep hb F0.out, keep hb F1.out⟩)
  go_wp2_with fail
  refine (rup_impl v p n c Z b zl bc zs _ (HKI.out _ (show Below w2.heap.size w2 _ from (by repeat (first | exact Below.refl _ _ | assumption | refine Below.drew ?_ | refine Below.alloc ?_ (by first | exact Nat.le_refl _ | omega | (simp; done) | (simp; omega)) _ | refine Below.setCell ?_ (by first | exact Nat.le_refl _ | omega | (simp; done) | (simp; omega)) _)))).1 (HKI.out _ (show Below w2.heap.size w2 _ from (by repeat (first | exact Below.refl _ _ | assumption | refine Below.drew ?_ | refine Below.alloc ?_ (by first | exact Nat.le_refl _ | omega | (simp; done) | (simp; omega)) _ | refine Below.setCell ?_ (by first | exact Nat.le_refl _ | omega | (simp; done) | (simp; omega)) _)))).2.1 (HKI.out _ (show Below w2.heap.size w2 _ from (by repeat (first | exact Below.refl _ _ | assumption | refine Below.drew ?_ | refine Below.alloc ?_ (by first | exact Nat.le_refl _ | omega | (simp; done) | (simp; omega)) _ | refine Below.setCell ?_ (by first | exact Nat.le_refl _ | omega | (simp; done) | (simp; omega)) _)))).2.2.1 (HKI.out _ (show Below w2.heap.size w2 _ from (by repeat (first | exact Below.refl _ _ | assumption | refine Below.drew ?_ | refine Below.alloc ?_ (by first | exact Nat.le_refl _ | omega | (simp; done) | (simp; omega)) _ | refine Below.setCell ?_ (by first | exact Nat.le_refl _ | omega | (simp; done) | (simp; omega)) _)))).2.2.2.1).mono ?_
  rintro e w3 ⟨t3, c3, rfl, hA3, hb3⟩
  have HB3 : Hid (Below w2.heap.size w2 w3) := hid ((show Below w2.heap.size w2 _ from (by repeat (first | exact Below.refl _ _ | assumption | refine Below.drew ?_ | refine Below.alloc ?_ (by first | exact Nat.le_refl _ | omega | (simp; done) | (simp; omega)) _ | refine Below.setCell ?_ (by first | exact Nat.le_refl _ | omega | (simp; done) | (simp; omega)) _))).trans (hb3.mono (by simp)))
  obtain ⟨g30, g31⟩ := HF2.out _ HB3.out
  obtain rfl : c3 = 0 := hA3.code.trans HC0.out
  have HA3 := hid hA3
  clear hb3 hA3 f0 f1
  go_wp2_with fail
  refine (rat_impl v p n c Z b zl bc zs _ (HKI.out _ (HB3.out.trans ((show Below w3.heap.size w3 _ from (by repeat (first | exact Below.refl _ _ | assumption | refine Below.drew ?_ | refine Below.alloc ?_ (by first | exact Nat.le_refl _ | omega | (simp; done) | (simp; omega)) _ | refine Below.setCell ?_ (by first | exact Nat.le_refl _ | omega | (simp; done) | (simp; omega)) _))).mono HB3.out.size))).1 (HKI.out _ (HB3.out.trans ((show Below w3.heap.size w3 _ from (by repeat (first | exact Below.refl _ _ | assumption | refine Below.drew ?_ | refine Below.alloc ?_ (by first | exact Nat.le_refl _ | omega | (simp; done) | (simp; omega)) _ | refine Below.setCell ?_ (by first | exact Nat.le_refl _ | omega | (simp; done) | (simp; omega)) _))).mono HB3.out.size))).2.1 (HKI.out _ (HB3.out.trans ((show Below w3.heap.size w3 _ from (by repeat (first | exact Below.refl _ _ | assumption | refine Below.drew ?_ | refine Below.alloc ?_ (by first | exact Nat.le_refl _ | omega | (simp; done) | (simp; omega)) _ | refine Below.setCell ?_ (by first | exact Nat.le_refl _ | omega | (simp; done) | (simp; omega)) _))).mono HB3.out.size))).2.2.1 (HKI.out _ (HB3.out.trans ((show Below w3.heap.size w3 _ from (by repeat (first | exact Below.refl _ _ | assumption | refine Below.drew ?_ | refine Below.alloc ?_ (by first | exact Nat.le_refl _ | omega | (simp; done) | (simp; omega)) _ | refine Below.setCell ?_ (by first | exact Nat.le_refl _ | omega | (simp; done) | (simp; omega)) _))).mono HB3.out.size))).2.2.2.1).mono ?_
  rintro e w4 ⟨t4, c4, rfl, hA4, hb4⟩
  have HB4 : Hid (Below w2.heap.size w2 w4) := hid (HB3.out.trans (((show Below w3.heap.size w3 _ from (by repeat (first | exact Below.refl _ _ | assumption | refine Below.drew ?_ | refine Below.alloc ?_ (by first | exact Nat.le_refl _ | omega | (simp; done) | (simp; omega)) _ | refine Below.setCell ?_ (by first | exact Nat.le_refl _ | omega | (simp; done) | (simp; omega)) _))).trans (hb4.mono (by simp))).mono HB3.out.size))
  obtain ⟨g40, g41⟩ := HF2.out _ HB4.out
  obtain rfl : c4 = 0 := hA4.code.trans HC0.out
  have HA4 := hid hA4
  clear hb4 hA4 g30 g31
  go_wp2_with fail
  refine (rup_spec' v p n c Z b zl bc zs _ (HKI.out _ (HB4.out.trans ((show Below w4.heap.size w4 _ from (by repeat (first | exact Below.refl _ _ | assumption | refine Below.drew ?_ | refine Below.alloc ?_ (by first | exact Nat.le_refl _ | omega | (simp; done) | (simp; omega)) _ | refine Below.setCell ?_ (by first | exact Nat.le_refl _ | omega | (simp; done) | (simp; omega)) _))).mono HB4.out.size))).1 (HKI.out _ (HB4.out.trans ((show Below w4.heap.size w4 _ from (by repeat (first | exact Below.refl _ _ | assumption | refine Below.drew ?_ | refine Below.alloc ?_ (by first | exact Nat.le_refl _ | omega | (simp; done) | (simp; omega)) _ | refine Below.setCell ?_ (by first | exact Nat.le_refl _ | omega | (simp; done) | (simp; omega)) _))).mono HB4.out.size))).2.1).mono ?_
  rintro e w5 ⟨t5, c5, rfl, hA5, hb5⟩
  have HB5 : Hid (Below w2.heap.size w2 w5) := hid (HB4.out.trans (((show Below w4.heap.size w4 _ from (by repeat (first | exact Below.refl _ _ | assumption | refine Below.drew ?_ | refine Below.alloc ?_ (by first | exact Nat.le_refl _ | omega | (simp; done) | (simp; omega)) _ | refine Below.setCell ?_ (by first | exact Nat.le_refl _ | omega | (simp; done) | (simp; omega)) _))).trans (hb5.mono (by simp))).mono HB4.out.size))
  obtain ⟨g50, g51⟩ := HF2.out _ HB5.out
  obtain ⟨rfl, rfl⟩ := HA3.out.uniq hA5
  clear hb5 hA5 g40 g41
  go_wp2_with fail
  refine (rat_spec' v p n c Z b zl bc zs _ (HKI.out _ (HB5.out.trans ((show Below w5.heap.size w5 _ from (by repeat (first | exact Below.refl _ _ | assumption | refine Below.drew ?_ | refine Below.alloc ?_ (by first | exact Nat.le_refl _ | omega | (simp; done) | (simp; omega)) _ | refine Below.setCell ?_ (by first | exact Nat.le_refl _ | omega | (simp; done) | (simp; omega)) _))).mono HB5.out.size))).1 (HKI.out _ (HB5.out.trans ((show Below w5.heap.size w5 _ from (by repeat (first | exact Below.refl _ _ | assumption | refine Below.drew ?_ | refine Below.alloc ?_ (by first | exact Nat.le_refl _ | omega | (simp; done) | (simp; omega)) _ | refine Below.setCell ?_ (by first | exact Nat.le_refl _ | omega | (simp; done) | (simp; omega)) _))).mono HB5.out.size))).2.1).mono ?_
  rintro e w6 ⟨t6, c6, rfl, hA6, hb6⟩
  have HB6 : Hid (Below w2.heap.size w2 w6) := hid (HB5.out.trans (((show Below w5.heap.size w5 _ from (by repeat (first | exact Below.refl _ _ | assumption | refine Below.drew ?_ | refine Below.alloc ?_ (by first | exact Nat.le_refl _ | omega | (simp; done) | (simp; omega)) _ | refine Below.setCell ?_ (by first | exact Nat.le_refl _ | omega | (simp; done) | (simp; omega)) _))).trans (hb6.mono (by simp))).mono HB5.out.size))
  obtain ⟨g60, g61⟩ := HF2.out _ HB6.out
  obtain ⟨rfl, rfl⟩ := HA4.out.uniq hA6
  clear hb6 hA6 g50 g51
  go_wp2_with fail
  refine (implied_spec w.heap.size v p n c ps Z HZ.out b zl bc zs _ (HKI.out _ (HB6.out.trans ((show Below w6.heap.size w6 _ from (by repeat (first | exact Below.refl _ _ | assumption | refine Below.drew ?_ | refine Below.alloc ?_ (by first | exact Nat.le_refl _ | omega | (simp; done) | (simp; omega)) _ | refine Below.setCell ?_ (by first | exact Nat.le_refl _ | omega | (simp; done) | (simp; omega)) _))).mono HB6.out.size))).2.2.2.2.1 (HKI.out _ (HB6.out.trans ((show Below w6.heap.size w6 _ from (by repeat (first | exact Below.refl _ _ | assumption | refine Below.drew ?_ | refine Below.alloc ?_ (by first | exact Nat.le_refl _ | omega | (simp; done) | (simp; omega)) _ | refine Below.setCell ?_ (by first | exact Nat.le_refl _ | omega | (simp; done) | (simp; omega)) _))).mono HB6.out.size))).2.1 HCnf.out HCl.out (by omega) hzl4).mono ?_
  rintro e w7 ⟨t7, rfl, hi7, hb7⟩
  have HB7 : Hid (Below w2.heap.size w2 w7) := hid (HB6.out.trans (((show Below w6.heap.size w6 _ from (by repeat (first | exact Below.refl _ _ | assumption | refine Below.drew ?_ | refine Below.alloc ?_ (by first | exact Nat.le_refl _ | omega | (simp; done) | (simp; omega)) _ | refine Below.setCell ?_ (by first | exact Nat.le_refl _ | omega | (simp; done) | (simp; omega)) _))).trans (hb7.mono (by simp))).mono HB6.out.size))
  obtain ⟨g70, g71⟩ := HF2.out _ HB7.out
  have HI7 := hid hi7
  have hBE := hid (hB2.out.trans (HB7.out.mono hB2.out.size))
  have q3 : (t3 != t3) = false := by simp
  have q4 : (t4 != t4) = false := by simp
  clear hb7 hi7 g60 g61
  have hri : t3 = true → t7 = true := fun h => HI7.out.2 (HRI.out ((HA3.out.yes rfl).1 h))
  cases t3 with
  | false =>
    cases t4 with
    | false =>
      go_wp2
      go_ret
      exact ⟨rfl, hBE.out⟩
    | true =>
      have HIff := hid (HRB.out ((HA4.out.yes rfl).1 rfl))
      go_wp2
      refine region_end (fun uu => ⟨#[.slice a0 len0 cap0, .slice a1 len1 cap1, undef, undef, .bool false, .pointer (some ⟨w1.heap.size, 0, none⟩), .slice b zl bc, .bool false, .int .i64 0, .bool true, .int .i64 0, .bool false, .int .i64 0, .bool true, .int .i64 0, .bool t7, .int .i64 0, uu 17, undef, undef, undef, undef, .slice a0 len0 cap0, .int .i64 len0, .bool (decide (1048576 < (len0 : Int))), .bool (decide (1048576 < (len0 : Int))), .slice a1 len1 cap1, .int .i64 len1, .bool (decide (1048576 < (len1 : Int))), .bool (decide (1048576 < (len0 : Int)) || decide (1048576 < (len1 : Int))), .slice a0 len0 cap0, .agg #[.int .i64 v, .slice p n c], .slice a1 len1 cap1, .pointer (some ⟨w1.heap.size, 0, none⟩), .int .i64 v, .slice b zl bc, .tuple #[.bool false, .int .i64 0], .agg #[.int .i64 v, .slice p n c], .slice b zl bc, .tuple #[.bool false, .int .i64 0], .bool false, .int .i64 0, .tuple #[.bool true, .int .i64 0], .agg #[.int .i64 v, .slice p n c], .slice b zl bc, .tuple #[.bool true, .int .i64 0], .bool true, .int .i64 0, .tuple #[.bool false, .int .i64 0], .agg #[.int .i64 v, .slice p n c], .slice b zl bc, .tuple #[.bool false, .int .i64 0], .bool false, .int .i64 0, .tuple #[.bool true, .int .i64 0], .agg #[.int .i64 v, .slice p n c], .slice b zl bc, .tuple #[.bool true, .int .i64 0], .bool true, .int .i64 0, .tuple #[.bool t7, .int .i64 0], .agg #[.int .i64 v, .slice p n c], .slice b zl bc, .tuple #[.bool t7, .int .i64 0], .bool t7, .int .i64 0, .int .i64 0, .bool false, .bool false, .int .i64 0, .bool false, .bool false, .bool false, .bool false, .bool false, .bool false, .bool false, .bool false, .bool true, .bool true, .bool false, .bool false, .bool false, .bool false, .bool false, undef, undef, .bool false, .bool false, .bool true, .bool false, uu 91, uu 92, uu 93, uu 94, uu 95, uu 96, uu 97, uu 98, uu 99, uu 100, undef, undef, undef, undef, undef, undef, undef, undef, undef, undef, undef, undef, undef], []⟩) (fun i => [91, 92, 93, 94, 95, 96, 97, 98, 99, 100, 17].getD i 0) (fun i x8 w8 => match i with | 0 => x8 = .pointer (some ⟨w1.heap.size, 0, none⟩) | 1 => x8 = .int .i64 v | 2 => World.ownsRow w8 w7.heap.size 27 1 x8 (0) ([]) | 3 => x8 = .pointer (some ⟨w1.heap.size, 1, none⟩) | 4 => x8 = .slice p n c | 5 => World.ownsRow w8 w7.heap.size 27 1 x8 (n) (ps.map Prod.fst) | 6 => x8 = .slice b zl bc | 7 => ∃ N : Nat, x8 = .slice (some ⟨N, 0, none⟩) 1 1 ∧ World.cell? w8 ⟨N, 0, none⟩ = some (.slice b zl bc) | 8 => World.ownsRow w8 w7.heap.size 27 1 x8 (n + 1) (ps.map Prod.fst ++ [.slice b zl bc]) | 9 => ∃ x9 : Value, x8 = .agg #[.int .i64 v, x9] ∧ World.ownsRow w8 w7.heap.size 27 1 x9 (n + 1) (ps.map Prod.fst ++ [.slice b zl bc]) | 10 => ∃ N : Nat, x8 = .pointer (some ⟨N, 0, none⟩) ∧ w7.heap.size ≤ N ∧ World.rowIs w8 N 25 2 (fun i => if i = 0 then .int .i64 0 else .slice none 0 0) | _ => True) (fun i x8 w8 b8 => match i with | 2 => Value.ownBlock x8 = some b8 | 5 => Value.ownBlock x8 = some b8 | 7 => Value.ownBlock x8 = some b8 | 8 => Value.ownBlock x8 = some b8 | 9 => ∃ x9 : Value, x8 = .agg #[.int .i64 v, x9] ∧ x9.ownBlock = some b8 | 10 => x8 = .pointer (some ⟨b8, 0, none⟩) | _ => False) w7 11 [1, 9, 5, 4, 5, 8, 7, 8, 9, 11, 11] (fun k => match k with | 91 => undef | 92 => undef | 93 => undef | 94 => undef | 95 => undef | 96 => undef | 97 => undef | 98 => undef | 99 => undef | 100 => undef | 17 => undef | _ => undef) (by rfl) (by kernel_rfl) (by rfl) (by kernel_rfl) (by kernel_rfl) (Below.refl _ _) ?hput ?hputN ?hinj ?stable ?step ?last
      case hput =>
        intro i hi uu v8
        match i, hi with
        | 0, _ => rfl
        | 1, _ => rfl
        | 2, _ => rfl
        | 3, _ => rfl
        | 4, _ => rfl
        | 5, _ => rfl
        | 6, _ => rfl
        | 7, _ => rfl
        | 8, _ => rfl
        | 9, _ => rfl
        | 10, _ => rfl
        | i + 11, hi => exact absurd hi (by omega)
      case hputN => intro uu v8; rfl
      case hinj =>
        intro i j hi hj h
        exact slots_inj [91, 92, 93, 94, 95, 96, 97, 98, 99, 100, 17] (by decide) hi hj h
      case stable =>
        intro i x8 w8 w9 hb hf h
        match i, hf, h with
        | 0, hf, h => exact ⟨h, fun _ hk => hk⟩
        | 1, hf, h => exact ⟨h, fun _ hk => hk⟩
        | 2, hf, h => exact ⟨clsRow.own_same h (fun b hb => (hf b hb).2), fun _ hk => hk⟩
        | 3, hf, h => exact ⟨h, fun _ hk => hk⟩
        | 4, hf, h => exact ⟨h, fun _ hk => hk⟩
        | 5, hf, h => exact ⟨clsRow.own_same h (fun b hb => (hf b hb).2), fun _ hk => hk⟩
        | 6, hf, h => exact ⟨h, fun _ hk => hk⟩
        | 7, hf, h => 
          obtain ⟨N, e, hc⟩ := h
          exact ⟨⟨N, e, (World.cell?_of_block (hf N (by rw [e]; rfl)).2).trans hc⟩, fun _ hk => hk⟩
        | 8, hf, h => exact ⟨clsRow.own_same h (fun b hb => (hf b hb).2), fun _ hk => hk⟩
        | 9, hf, h => 
          obtain ⟨x9, e, ho⟩ := h
          exact ⟨⟨x9, e, clsRow.own_same ho (fun b hb => (hf b ⟨x9, e, hb⟩).2)⟩, fun _ hk => hk⟩
        | 10, hf, h => 
          obtain ⟨N, e, hN, hrw⟩ := h
          exact ⟨⟨N, e, hN, hrw.of_block (hf N e).2⟩, fun _ hk => hk⟩
        | _ + 11, hf, h => exact ⟨trivial, fun _ hk => hk⟩
      case step =>
        intro i hi uu w8 S8 hdep
        match i, hi with
        | 0, _ =>
          clear hdep
          refine ⟨_, rfl, fun K' hK => ?_⟩
          go_simp
          exact hK.out _ _ (Chg.refl _ _) rfl (fun b hb => hb.elim)
        | 1, _ =>
          have h0 : (uu 91) = .pointer (some ⟨w1.heap.size, 0, none⟩) := (hdep 0 rfl (by decide)).1
          clear hdep
          refine ⟨_, rfl, fun K' hK => ?_⟩
          have q0 := (HF2.out w8 (HB7.out.trans (S8.mono HB7.out.size))).1
          simp only [h0] at hK ⊢
          go_simp
          exact hK.out _ _ (Chg.refl _ _) rfl (fun b hb => hb.elim)
        | 2, _ =>
          clear hdep
          refine ⟨_, rfl, fun K' hK => ?_⟩
          go_simp
          exact hK.out _ _ (Chg.of_below (by repeat (first | exact Below.refl _ _ | assumption | refine Below.drew ?_ | refine Below.alloc ?_ (by first | exact Nat.le_refl _ | omega | (simp; done) | (simp; omega)) _ | refine Below.setCell ?_ (by first | exact Nat.le_refl _ | omega | (simp; done) | (simp; omega)) _))) (rows_empty _ _ _ S8.size rfl) (fun b hb => by rw [clsRow.own_at hb]; exact ⟨by simp, .inr (Nat.le_refl _)⟩)
        | 3, _ =>
          clear hdep
          refine ⟨_, rfl, fun K' hK => ?_⟩
          go_simp
          exact hK.out _ _ (Chg.refl _ _) rfl (fun b hb => hb.elim)
        | 4, _ =>
          have h3 : (uu 94) = .pointer (some ⟨w1.heap.size, 1, none⟩) := (hdep 3 rfl (by decide)).1
          clear hdep
          refine ⟨_, rfl, fun K' hK => ?_⟩
          have q0 := (HF2.out w8 (HB7.out.trans (S8.mono HB7.out.size))).2
          simp only [h3] at hK ⊢
          go_simp
          exact hK.out _ _ (Chg.refl _ _) rfl (fun b hb => hb.elim)
        | 5, _ =>
          have h2 : World.ownsRow w8 w7.heap.size 27 1 (uu 93) (0) ([]) := (hdep 2 rfl (by decide)).1
          have h4 : (uu 95) = .slice p n c := (hdep 4 rfl (by decide)).1
          clear hdep
          refine ⟨_, rfl, fun K' hK => ?_⟩
          have hr8 : OwnRows w.heap.size w8 (.slice p n c) ps := (HKI.out w8 (HB7.out.trans (S8.mono HB7.out.size))).2.2.2.2.1
          rcases HPo.out with ⟨rfl, rfl, rfl, hnl⟩ | ⟨g, rfl⟩
          · refine step_append_nil w8 rfl _ _ 23 rfl (some 96) rfl w7.heap.size 27 i0 Tryz.underlying23 HI.out _ _ _ rfl h2 h4 ?_
            exact hK.out _ _ (Chg.refl _ _) (by rw [hnl]; exact h2) (fun b hb => ⟨(World.ownsRow.lt h2 b hb).2, .inl ⟨2, rfl, by decide, hb⟩⟩)
          · refine stepAppend.step_append_at w8 rfl _ _ 23 rfl (some 96) rfl w7.heap.size 27 i0 (.slice none 0 0) 1 24 Tryz.underlying23 HI.out HZ0.out HZ1.out HZ2.out rfl (by decide) _ _ _ rfl h2 ⟨g, 0, none⟩ n c (ps.map Prod.fst) h4 (by rw [List.length_map, HPn.out, Nat.mul_one]) (fun t y ht => by rw [add_at, Nat.zero_add]; exact cells_of (by have := hr8.outer; rw [HPn.out] at this; exact this) t y ht) (fun u hu => by obtain ⟨q8, hq8, rfl⟩ := List.mem_map.1 hu; rcases (hr8.inner q8 hq8).2 with ⟨e, _⟩ | ⟨_, _, _, e, _⟩ <;> rw [e] <;> rfl) (by unfold maxLen; omega) (by omega) S8.size ?_
            intro v' w' hown hg hat
            refine hK.out v' w' (Chg.of_grown hg (fun b hb => ⟨2, rfl, by decide, hb⟩)) (by simpa using hown) (fun b hb => ⟨(World.ownsRow.lt hown b hb).2, ?_⟩)
            rcases hat with hat | hat
            · exact .inl ⟨2, rfl, by decide, by rw [hat] at hb; exact hb⟩
            · rw [hat] at hb
              injection hb with hb
              exact .inr (Nat.le_of_eq hb)
        | 6, _ =>
          clear hdep
          refine ⟨_, rfl, fun K' hK => ?_⟩
          go_simp
          exact hK.out _ _ (Chg.refl _ _) rfl (fun b hb => hb.elim)
        | 7, _ =>
          have h6 : (uu 97) = .slice b zl bc := (hdep 6 rfl (by decide)).1
          clear hdep
          refine ⟨_, rfl, fun K' hK => ?_⟩
          simp only [h6] at hK ⊢
          go_simp
          exact hK.out _ _ (Chg.of_below (by repeat (first | exact Below.refl _ _ | assumption | refine Below.drew ?_ | refine Below.alloc ?_ (by first | exact Nat.le_refl _ | omega | (simp; done) | (simp; omega)) _ | refine Below.setCell ?_ (by first | exact Nat.le_refl _ | omega | (simp; done) | (simp; omega)) _))) ⟨w8.heap.size, rfl, by simp [go_sem]⟩ (fun b hb => by rw [clsRow.own_at hb]; exact ⟨by simp, .inr (Nat.le_refl _)⟩)
        | 8, _ =>
          have h5 : World.ownsRow w8 w7.heap.size 27 1 (uu 96) (n) (ps.map Prod.fst) := (hdep 5 rfl (by decide)).1
          have h7 : ∃ N : Nat, (uu 98) = .slice (some ⟨N, 0, none⟩) 1 1 ∧ World.cell? w8 ⟨N, 0, none⟩ = some (.slice b zl bc) := (hdep 7 rfl (by decide)).1
          clear hdep
          refine ⟨_, rfl, fun K' hK => ?_⟩
          obtain ⟨N, e7, hc7⟩ := h7
          refine stepAppend.step_append_at w8 rfl _ _ 23 rfl (some 99) rfl w7.heap.size 27 i0 (.slice none 0 0) 1 24 Tryz.underlying23 HI.out HZ0.out HZ1.out HZ2.out rfl (by decide) _ _ _ rfl h5 ⟨N, 0, none⟩ 1 1 [.slice b zl bc] e7 rfl (fun t y ht => by rw [add_at]; cases t with | zero => (injection ht with ht; rw [← ht]; exact hc7) | succ t => (cases ht)) (fun y hy => by simp at hy; subst hy; rfl) (by unfold maxLen; omega) (by omega) S8.size ?_
          intro v' w' hown hg hat
          refine hK.out v' w' (Chg.of_grown hg (fun b hb => ⟨5, rfl, by decide, hb⟩)) hown (fun b hb => ⟨(World.ownsRow.lt hown b hb).2, ?_⟩)
          rcases hat with hat | hat
          · exact .inl ⟨5, rfl, by decide, by rw [hat] at hb; exact hb⟩
          · rw [hat] at hb
            injection hb with hb
            exact .inr (Nat.le_of_eq hb)
        | 9, _ =>
          have h1 : (uu 92) = .int .i64 v := (hdep 1 rfl (by decide)).1
          have h8 : World.ownsRow w8 w7.heap.size 27 1 (uu 99) (n + 1) (ps.map Prod.fst ++ [.slice b zl bc]) := (hdep 8 rfl (by decide)).1
          clear hdep
          refine ⟨_, rfl, fun K' hK => ?_⟩
          obtain ⟨q9, c9, e8, _⟩ := form_of h8
          rw [e8] at h8
          simp only [h1, e8] at hK ⊢
          go_simp
          exact hK.out _ _ (Chg.refl _ _) ⟨_, rfl, h8⟩ (fun b hb => by
            obtain ⟨x9, e9, hb9⟩ := hb
            have e10 : x9 = .slice q9 (n + 1) c9 := by injection e9 with e9; injection e9 with e9; injection e9 with _ e9; injection e9 with e9; exact e9.symm
            subst e10
            exact ⟨(World.ownsRow.lt h8 b hb9).2, .inl ⟨8, rfl, by decide, by show Value.ownBlock (uu 99) = some b; rw [e8]; exact hb9⟩⟩)
        | 10, _ =>
          clear hdep
          refine ⟨_, rfl, fun K' hK => ?_⟩
          go_simp
          exact hK.out _ _ (Chg.of_below (by repeat (first | exact Below.refl _ _ | assumption | refine Below.drew ?_ | refine Below.alloc ?_ (by first | exact Nat.le_refl _ | omega | (simp; done) | (simp; omega)) _ | refine Below.setCell ?_ (by first | exact Nat.le_refl _ | omega | (simp; done) | (simp; omega)) _))) ⟨w8.heap.size, rfl, S8.size, World.rowIs_alloc w8 #[.int .i64 0, .slice none 0 0] _ _ (fun i hi => by
            have h3 : i < 2 := hi
            rcases (show i = 0 ∨ i = 1 by omega) with rfl | rfl <;> rfl)⟩ (fun b hb => by
            have e9 : b = w8.heap.size := by injection hb with hb; injection hb with hb; injection hb with hb _ _; exact hb.symm
            subst e9
            exact ⟨by simp, .inr (Nat.le_refl _)⟩)
        | i + 11, hi => exact absurd hi (by omega)
      case last =>
        intro uu w8 S8 hdep
        have h9 : ∃ x9 : Value, (uu 100) = .agg #[.int .i64 v, x9] ∧ World.ownsRow w8 w7.heap.size 27 1 x9 (n + 1) (ps.map Prod.fst ++ [.slice b zl bc]) := (hdep 9 rfl (by decide)).1
        have h10 : ∃ N : Nat, (uu 17) = .pointer (some ⟨N, 0, none⟩) ∧ w7.heap.size ≤ N ∧ World.rowIs w8 N 25 2 (fun i => if i = 0 then .int .i64 0 else .slice none 0 0) := (hdep 10 rfl (by decide)).1
        clear hdep
        refine ⟨_, rfl, fun K' hK => ?_⟩
        obtain ⟨x9, e9, ho⟩ := h9
        obtain ⟨q9, c9, e8, _⟩ := form_of ho
        subst e8
        obtain ⟨N, e10, hN, hrw⟩ := h10
        simp only [e9, e10] at hK ⊢
        have n0 : World.cell? w8 ⟨N, 0, none⟩ = some (.int .i64 0) := hrw.cell (i := 0) (by omega)
        have n1 : World.cell? w8 ⟨N, 1, none⟩ = some (.slice none 0 0) := hrw.cell (i := 1) (by omega)
        have z0 := hrw.frozen 0
        have z1 := hrw.frozen 1
        have hcN : Chg (fun j => j = N) w8 ((w8.setCell ⟨N, 0, none⟩ (.int .i64 v)).setCell ⟨N, 1, none⟩ (.slice q9 (n + 1) c9)) := ((Chg.refl (fun j => j = N) w8).set (.inl rfl) _).set (.inl rfl) _
        have hrn : World.rowIs ((w8.setCell ⟨N, 0, none⟩ (.int .i64 v)).setCell ⟨N, 1, none⟩ (.slice q9 (n + 1) c9)) N 25 2 (fun i => if i = 0 then .int .i64 v else .slice q9 (n + 1) c9) := ((hrw.set 0 (.int .i64 v)).set 1 (.slice q9 (n + 1) c9)).congr (fun i hi => by
          rcases (show i = 0 ∨ i = 1 by omega) with rfl | rfl <;> rfl)
        have hon := outer_set ho hrw hcN
        have hb9 : Below w7.heap.size w7 ((w8.setCell ⟨N, 0, none⟩ (.int .i64 v)).setCell ⟨N, 1, none⟩ (.slice q9 (n + 1) c9)) := ⟨hcN.os.trans S8.os, hcN.tape.trans S8.tape, hcN.output.trans S8.output, Nat.le_trans S8.size hcN.size, fun j hj => (hcN.block j (by have := S8.size; omega) (fun hx => by have h3 : j = N := hx; omega)).trans (S8.block j hj)⟩
        go_simp
        refine hK.out undef _ ?_
        clear hK
        generalize hw9 : ((w8.setCell ⟨N, 0, none⟩ (.int .i64 v)).setCell ⟨N, 1, none⟩ (.slice q9 (n + 1) c9)) = w9 at *
        clear hcN hw9 hrw n0 n1 z0 z1 ho
        have HB9 : Hid (Below w2.heap.size w2 w9) := hid (HB7.out.trans (hb9.mono HB7.out.size))
        have m0 : w9.cell? ⟨N, 0, none⟩ = some (.int .i64 v) := hrn.cell (i := 0) (by omega)
        have m1 : w9.cell? ⟨N, 1, none⟩ = some (.slice q9 (n + 1) c9) := hrn.cell (i := 1) (by omega)
        have HOG : Hid (OwnRows w.heap.size w9 (.slice q9 (n + 1) c9) (ps ++ [(.slice b zl bc, zs)])) := hid ⟨by
            have h9 := own_mono hon (show w.heap.size ≤ w7.heap.size by have := hBE.out.size; omega)
            rw [List.length_append, HPn.out, List.map_append]
            exact h9, fun q8 hq8 => by
            have h9 := HKI.out w9 HB9.out
            rcases List.mem_append.1 hq8 with hq8 | hq8
            · exact h9.2.2.2.2.1.inner q8 hq8
            · rw [List.mem_singleton] at hq8
              subst hq8
              exact h9.2.2.2.2.2⟩
        have HNl : Hid (N < w9.heap.size) := hid hrn.lt
        obtain ⟨g90, g91⟩ := HF2.out _ HB9.out
        clear hon hrn hb9 e9 e10 g70 g71
        go_wp2_with fail
        refine (leastModel_spec w.heap.size v n c p ps _ (HKI.out _ (HB9.out.trans ((show Below w9.heap.size w9 _ from (by repeat (first | exact Below.refl _ _ | assumption | refine Below.drew ?_ | refine Below.alloc ?_ (by first | exact Nat.le_refl _ | omega | (simp; done) | (simp; omega)) _ | refine Below.setCell ?_ (by first | exact Nat.le_refl _ | omega | (simp; done) | (simp; omega)) _))).mono HB9.out.size))).2.2.2.2.1 (by rw [HZ.out]; exact HCnf.out) (by omega)).mono ?_
        intro e w10 hm10
        obtain ⟨x10, c10, rfl, hc10, hb10⟩ := ends_code hm10
        rw [HZ.out] at hc10
        have HC10 := hid hc10
        have hb9 : Below w9.heap.size w9 w10 := (show Below w9.heap.size w9 _ from (by repeat (first | exact Below.refl _ _ | assumption | refine Below.drew ?_ | refine Below.alloc ?_ (by first | exact Nat.le_refl _ | omega | (simp; done) | (simp; omega)) _ | refine Below.setCell ?_ (by first | exact Nat.le_refl _ | omega | (simp; done) | (simp; omega)) _))).trans (hb10.mono (by simp))
        have HB10 : Hid (Below w2.heap.size w2 w10) := hid (HB9.out.trans (hb9.mono HB9.out.size))
        have HOG10 := hid (OwnRows.below HOG.out hb9)
        replace m0 := keep hb9 m0
        replace m1 := keep hb9 m1
        clear hm10 hc10 hb10 hb9 g90 g91
        go_wp2_with fail
        refine (leastModel_spec w.heap.size v (n + 1) c9 q9 (ps ++ [(.slice b zl bc, zs)]) _ (OwnRows.below HOG10.out (by repeat (first | exact Below.refl _ _ | assumption | refine Below.drew ?_ | refine Below.alloc ?_ (by first | exact Nat.le_refl _ | omega | (simp; done) | (simp; omega)) _ | refine Below.setCell ?_ (by first | exact Nat.le_refl _ | omega | (simp; done) | (simp; omega)) _))) (by rw [List.map_append, HZ.out]; exact HMore.out) (by omega)).mono ?_
        intro e w11 hm11
        obtain ⟨x11, c11, rfl, hc11, hb11⟩ := ends_code hm11
        have HC11 := hid hc11
        have HB11 : Hid (Below w2.heap.size w2 w11) := hid (HB10.out.trans (((show Below w10.heap.size w10 _ from (by repeat (first | exact Below.refl _ _ | assumption | refine Below.drew ?_ | refine Below.alloc ?_ (by first | exact Nat.le_refl _ | omega | (simp; done) | (simp; omega)) _ | refine Below.setCell ?_ (by first | exact Nat.le_refl _ | omega | (simp; done) | (simp; omega)) _))).trans (hb11.mono (by simp))).mono HB10.out.size))
        clear hm11 hc11 hb11
        have hcc : c10 = c11 := by
          have h11 := HC11.out
          rw [List.map_append, HZ.out] at h11
          have h10 := HC10.out
          have hif := HIff.out
          rcases h10 with ⟨h10, k10⟩ | ⟨h10, k10⟩ <;> rcases h11 with ⟨h11, k11⟩ | ⟨h11, k11⟩
          · rw [h10, h11]
          · exact absurd (hif.1 k10) k11
          · exact absurd (hif.2 k11) k10
          · rw [h10, h11]
        subst hcc
        have hq9 : (c10 == c10) = true := by simp
        go_wp2
        go_ret
        exact ⟨rfl, hB2.out.trans (HB11.out.mono hB2.out.size)⟩
  | true =>
    obtain rfl := hri rfl
    cases t4 with
    | false =>
      go_wp2
      go_ret
      exact ⟨rfl, hBE.out⟩
    | true =>
      have HIff := hid (HRB.out ((HA4.out.yes rfl).1 rfl))
      go_wp2
      refine region_end (fun uu => ⟨#[.slice a0 len0 cap0, .slice a1 len1 cap1, undef, undef, .bool false, .pointer (some ⟨w1.heap.size, 0, none⟩), .slice b zl bc, .bool true, .int .i64 0, .bool true, .int .i64 0, .bool true, .int .i64 0, .bool true, .int .i64 0, .bool true, .int .i64 0, uu 17, undef, undef, undef, undef, .slice a0 len0 cap0, .int .i64 len0, .bool (decide (1048576 < (len0 : Int))), .bool (decide (1048576 < (len0 : Int))), .slice a1 len1 cap1, .int .i64 len1, .bool (decide (1048576 < (len1 : Int))), .bool (decide (1048576 < (len0 : Int)) || decide (1048576 < (len1 : Int))), .slice a0 len0 cap0, .agg #[.int .i64 v, .slice p n c], .slice a1 len1 cap1, .pointer (some ⟨w1.heap.size, 0, none⟩), .int .i64 v, .slice b zl bc, .tuple #[.bool true, .int .i64 0], .agg #[.int .i64 v, .slice p n c], .slice b zl bc, .tuple #[.bool true, .int .i64 0], .bool true, .int .i64 0, .tuple #[.bool true, .int .i64 0], .agg #[.int .i64 v, .slice p n c], .slice b zl bc, .tuple #[.bool true, .int .i64 0], .bool true, .int .i64 0, .tuple #[.bool true, .int .i64 0], .agg #[.int .i64 v, .slice p n c], .slice b zl bc, .tuple #[.bool true, .int .i64 0], .bool true, .int .i64 0, .tuple #[.bool true, .int .i64 0], .agg #[.int .i64 v, .slice p n c], .slice b zl bc, .tuple #[.bool true, .int .i64 0], .bool true, .int .i64 0, .tuple #[.bool true, .int .i64 0], .agg #[.int .i64 v, .slice p n c], .slice b zl bc, .tuple #[.bool true, .int .i64 0], .bool true, .int .i64 0, .int .i64 0, .bool false, .bool false, .int .i64 0, .bool false, .bool false, .bool false, .bool true, .bool true, .bool false, .bool false, .bool false, .bool true, .bool true, .bool false, .bool false, .bool false, .bool true, .bool true, .bool true, .bool false, .bool false, .bool false, .bool true, .bool false, uu 91, uu 92, uu 93, uu 94, uu 95, uu 96, uu 97, uu 98, uu 99, uu 100, undef, undef, undef, undef, undef, undef, undef, undef, undef, undef, undef, undef, undef], []⟩) (fun i => [91, 92, 93, 94, 95, 96, 97, 98, 99, 100, 17].getD i 0) (fun i x8 w8 => match i with | 0 => x8 = .pointer (some ⟨w1.heap.size, 0, none⟩) | 1 => x8 = .int .i64 v | 2 => World.ownsRow w8 w7.heap.size 27 1 x8 (0) ([]) | 3 => x8 = .pointer (some ⟨w1.heap.size, 1, none⟩) | 4 => x8 = .slice p n c | 5 => World.ownsRow w8 w7.heap.size 27 1 x8 (n) (ps.map Prod.fst) | 6 => x8 = .slice b zl bc | 7 => ∃ N : Nat, x8 = .slice (some ⟨N, 0, none⟩) 1 1 ∧ World.cell? w8 ⟨N, 0, none⟩ = some (.slice b zl bc) | 8 => World.ownsRow w8 w7.heap.size 27 1 x8 (n + 1) (ps.map Prod.fst ++ [.slice b zl bc]) | 9 => ∃ x9 : Value, x8 = .agg #[.int .i64 v, x9] ∧ World.ownsRow w8 w7.heap.size 27 1 x9 (n + 1) (ps.map Prod.fst ++ [.slice b zl bc]) | 10 => ∃ N : Nat, x8 = .pointer (some ⟨N, 0, none⟩) ∧ w7.heap.size ≤ N ∧ World.rowIs w8 N 25 2 (fun i => if i = 0 then .int .i64 0 else .slice none 0 0) | _ => True) (fun i x8 w8 b8 => match i with | 2 => Value.ownBlock x8 = some b8 | 5 => Value.ownBlock x8 = some b8 | 7 => Value.ownBlock x8 = some b8 | 8 => Value.ownBlock x8 = some b8 | 9 => ∃ x9 : Value, x8 = .agg #[.int .i64 v, x9] ∧ x9.ownBlock = some b8 | 10 => x8 = .pointer (some ⟨b8, 0, none⟩) | _ => False) w7 11 [1, 9, 5, 4, 5, 8, 7, 8, 9, 11, 11] (fun k => match k with | 91 => undef | 92 => undef | 93 => undef | 94 => undef | 95 => undef | 96 => undef | 97 => undef | 98 => undef | 99 => undef | 100 => undef | 17 => undef | _ => undef) (by rfl) (by kernel_rfl) (by rfl) (by kernel_rfl) (by kernel_rfl) (Below.refl _ _) ?hput ?hputN ?hinj ?stable ?step ?last
      case hput =>
        intro i hi uu v8
        match i, hi with
        | 0, _ => rfl
        | 1, _ => rfl
        | 2, _ => rfl
        | 3, _ => rfl
        | 4, _ => rfl
        | 5, _ => rfl
        | 6, _ => rfl
        | 7, _ => rfl
        | 8, _ => rfl
        | 9, _ => rfl
        | 10, _ => rfl
        | i + 11, hi => exact absurd hi (by omega)
      case hputN => intro uu v8; rfl
      case hinj =>
        intro i j hi hj h
        exact slots_inj [91, 92, 93, 94, 95, 96, 97, 98, 99, 100, 17] (by decide) hi hj h
      case stable =>
        intro i x8 w8 w9 hb hf h
        match i, hf, h with
        | 0, hf, h => exact ⟨h, fun _ hk => hk⟩
        | 1, hf, h => exact ⟨h, fun _ hk => hk⟩
        | 2, hf, h => exact ⟨clsRow.own_same h (fun b hb => (hf b hb).2), fun _ hk => hk⟩
        | 3, hf, h => exact ⟨h, fun _ hk => hk⟩
        | 4, hf, h => exact ⟨h, fun _ hk => hk⟩
        | 5, hf, h => exact ⟨clsRow.own_same h (fun b hb => (hf b hb).2), fun _ hk => hk⟩
        | 6, hf, h => exact ⟨h, fun _ hk => hk⟩
        | 7, hf, h => 
          obtain ⟨N, e, hc⟩ := h
          exact ⟨⟨N, e, (World.cell?_of_block (hf N (by rw [e]; rfl)).2).trans hc⟩, fun _ hk => hk⟩
        | 8, hf, h => exact ⟨clsRow.own_same h (fun b hb => (hf b hb).2), fun _ hk => hk⟩
        | 9, hf, h => 
          obtain ⟨x9, e, ho⟩ := h
          exact ⟨⟨x9, e, clsRow.own_same ho (fun b hb => (hf b ⟨x9, e, hb⟩).2)⟩, fun _ hk => hk⟩
        | 10, hf, h => 
          obtain ⟨N, e, hN, hrw⟩ := h
          exact ⟨⟨N, e, hN, hrw.of_block (hf N e).2⟩, fun _ hk => hk⟩
        | _ + 11, hf, h => exact ⟨trivial, fun _ hk => hk⟩
      case step =>
        intro i hi uu w8 S8 hdep
        match i, hi with
        | 0, _ =>
          clear hdep
          refine ⟨_, rfl, fun K' hK => ?_⟩
          go_simp
          exact hK.out _ _ (Chg.refl _ _) rfl (fun b hb => hb.elim)
        | 1, _ =>
          have h0 : (uu 91) = .pointer (some ⟨w1.heap.size, 0, none⟩) := (hdep 0 rfl (by decide)).1
          clear hdep
          refine ⟨_, rfl, fun K' hK => ?_⟩
          have q0 := (HF2.out w8 (HB7.out.trans (S8.mono HB7.out.size))).1
          simp only [h0] at hK ⊢
          go_simp
          exact hK.out _ _ (Chg.refl _ _) rfl (fun b hb => hb.elim)
        | 2, _ =>
          clear hdep
          refine ⟨_, rfl, fun K' hK => ?_⟩
          go_simp
          exact hK.out _ _ (Chg.of_below (by repeat (first | exact Below.refl _ _ | assumption | refine Below.drew ?_ | refine Below.alloc ?_ (by first | exact Nat.le_refl _ | omega | (simp; done) | (simp; omega)) _ | refine Below.setCell ?_ (by first | exact Nat.le_refl _ | omega | (simp; done) | (simp; omega)) _))) (rows_empty _ _ _ S8.size rfl) (fun b hb => by rw [clsRow.own_at hb]; exact ⟨by simp, .inr (Nat.le_refl _)⟩)
        | 3, _ =>
          clear hdep
          refine ⟨_, rfl, fun K' hK => ?_⟩
          go_simp
          exact hK.out _ _ (Chg.refl _ _) rfl (fun b hb => hb.elim)
        | 4, _ =>
          have h3 : (uu 94) = .pointer (some ⟨w1.heap.size, 1, none⟩) := (hdep 3 rfl (by decide)).1
          clear hdep
          refine ⟨_, rfl, fun K' hK => ?_⟩
          have q0 := (HF2.out w8 (HB7.out.trans (S8.mono HB7.out.size))).2
          simp only [h3] at hK ⊢
          go_simp
          exact hK.out _ _ (Chg.refl _ _) rfl (fun b hb => hb.elim)
        | 5, _ =>
          have h2 : World.ownsRow w8 w7.heap.size 27 1 (uu 93) (0) ([]) := (hdep 2 rfl (by decide)).1
          have h4 : (uu 95) = .slice p n c := (hdep 4 rfl (by decide)).1
          clear hdep
          refine ⟨_, rfl, fun K' hK => ?_⟩
          have hr8 : OwnRows w.heap.size w8 (.slice p n c) ps := (HKI.out w8 (HB7.out.trans (S8.mono HB7.out.size))).2.2.2.2.1
          rcases HPo.out with ⟨rfl, rfl, rfl, hnl⟩ | ⟨g, rfl⟩
          · refine step_append_nil w8 rfl _ _ 23 rfl (some 96) rfl w7.heap.size 27 i0 Tryz.underlying23 HI.out _ _ _ rfl h2 h4 ?_
            exact hK.out _ _ (Chg.refl _ _) (by rw [hnl]; exact h2) (fun b hb => ⟨(World.ownsRow.lt h2 b hb).2, .inl ⟨2, rfl, by decide, hb⟩⟩)
          · refine stepAppend.step_append_at w8 rfl _ _ 23 rfl (some 96) rfl w7.heap.size 27 i0 (.slice none 0 0) 1 24 Tryz.underlying23 HI.out HZ0.out HZ1.out HZ2.out rfl (by decide) _ _ _ rfl h2 ⟨g, 0, none⟩ n c (ps.map Prod.fst) h4 (by rw [List.length_map, HPn.out, Nat.mul_one]) (fun t y ht => by rw [add_at, Nat.zero_add]; exact cells_of (by have := hr8.outer; rw [HPn.out] at this; exact this) t y ht) (fun u hu => by obtain ⟨q8, hq8, rfl⟩ := List.mem_map.1 hu; rcases (hr8.inner q8 hq8).2 with ⟨e, _⟩ | ⟨_, _, _, e, _⟩ <;> rw [e] <;> rfl) (by unfold maxLen; omega) (by omega) S8.size ?_
            intro v' w' hown hg hat
            refine hK.out v' w' (Chg.of_grown hg (fun b hb => ⟨2, rfl, by decide, hb⟩)) (by simpa using hown) (fun b hb => ⟨(World.ownsRow.lt hown b hb).2, ?_⟩)
            rcases hat with hat | hat
            · exact .inl ⟨2, rfl, by decide, by rw [hat] at hb; exact hb⟩
            · rw [hat] at hb
              injection hb with hb
              exact .inr (Nat.le_of_eq hb)
        | 6, _ =>
          clear hdep
          refine ⟨_, rfl, fun K' hK => ?_⟩
          go_simp
          exact hK.out _ _ (Chg.refl _ _) rfl (fun b hb => hb.elim)
        | 7, _ =>
          have h6 : (uu 97) = .slice b zl bc := (hdep 6 rfl (by decide)).1
          clear hdep
          refine ⟨_, rfl, fun K' hK => ?_⟩
          simp only [h6] at hK ⊢
          go_simp
          exact hK.out _ _ (Chg.of_below (by repeat (first | exact Below.refl _ _ | assumption | refine Below.drew ?_ | refine Below.alloc ?_ (by first | exact Nat.le_refl _ | omega | (simp; done) | (simp; omega)) _ | refine Below.setCell ?_ (by first | exact Nat.le_refl _ | omega | (simp; done) | (simp; omega)) _))) ⟨w8.heap.size, rfl, by simp [go_sem]⟩ (fun b hb => by rw [clsRow.own_at hb]; exact ⟨by simp, .inr (Nat.le_refl _)⟩)
        | 8, _ =>
          have h5 : World.ownsRow w8 w7.heap.size 27 1 (uu 96) (n) (ps.map Prod.fst) := (hdep 5 rfl (by decide)).1
          have h7 : ∃ N : Nat, (uu 98) = .slice (some ⟨N, 0, none⟩) 1 1 ∧ World.cell? w8 ⟨N, 0, none⟩ = some (.slice b zl bc) := (hdep 7 rfl (by decide)).1
          clear hdep
          refine ⟨_, rfl, fun K' hK => ?_⟩
          obtain ⟨N, e7, hc7⟩ := h7
          refine stepAppend.step_append_at w8 rfl _ _ 23 rfl (some 99) rfl w7.heap.size 27 i0 (.slice none 0 0) 1 24 Tryz.underlying23 HI.out HZ0.out HZ1.out HZ2.out rfl (by decide) _ _ _ rfl h5 ⟨N, 0, none⟩ 1 1 [.slice b zl bc] e7 rfl (fun t y ht => by rw [add_at]; cases t with | zero => (injection ht with ht; rw [← ht]; exact hc7) | succ t => (cases ht)) (fun y hy => by simp at hy; subst hy; rfl) (by unfold maxLen; omega) (by omega) S8.size ?_
          intro v' w' hown hg hat
          refine hK.out v' w' (Chg.of_grown hg (fun b hb => ⟨5, rfl, by decide, hb⟩)) hown (fun b hb => ⟨(World.ownsRow.lt hown b hb).2, ?_⟩)
          rcases hat with hat | hat
          · exact .inl ⟨5, rfl, by decide, by rw [hat] at hb; exact hb⟩
          · rw [hat] at hb
            injection hb with hb
            exact .inr (Nat.le_of_eq hb)
        | 9, _ =>
          have h1 : (uu 92) = .int .i64 v := (hdep 1 rfl (by decide)).1
          have h8 : World.ownsRow w8 w7.heap.size 27 1 (uu 99) (n + 1) (ps.map Prod.fst ++ [.slice b zl bc]) := (hdep 8 rfl (by decide)).1
          clear hdep
          refine ⟨_, rfl, fun K' hK => ?_⟩
          obtain ⟨q9, c9, e8, _⟩ := form_of h8
          rw [e8] at h8
          simp only [h1, e8] at hK ⊢
          go_simp
          exact hK.out _ _ (Chg.refl _ _) ⟨_, rfl, h8⟩ (fun b hb => by
            obtain ⟨x9, e9, hb9⟩ := hb
            have e10 : x9 = .slice q9 (n + 1) c9 := by injection e9 with e9; injection e9 with e9; injection e9 with _ e9; injection e9 with e9; exact e9.symm
            subst e10
            exact ⟨(World.ownsRow.lt h8 b hb9).2, .inl ⟨8, rfl, by decide, by show Value.ownBlock (uu 99) = some b; rw [e8]; exact hb9⟩⟩)
        | 10, _ =>
          clear hdep
          refine ⟨_, rfl, fun K' hK => ?_⟩
          go_simp
          exact hK.out _ _ (Chg.of_below (by repeat (first | exact Below.refl _ _ | assumption | refine Below.drew ?_ | refine Below.alloc ?_ (by first | exact Nat.le_refl _ | omega | (simp; done) | (simp; omega)) _ | refine Below.setCell ?_ (by first | exact Nat.le_refl _ | omega | (simp; done) | (simp; omega)) _))) ⟨w8.heap.size, rfl, S8.size, World.rowIs_alloc w8 #[.int .i64 0, .slice none 0 0] _ _ (fun i hi => by
            have h3 : i < 2 := hi
            rcases (show i = 0 ∨ i = 1 by omega) with rfl | rfl <;> rfl)⟩ (fun b hb => by
            have e9 : b = w8.heap.size := by injection hb with hb; injection hb with hb; injection hb with hb _ _; exact hb.symm
            subst e9
            exact ⟨by simp, .inr (Nat.le_refl _)⟩)
        | i + 11, hi => exact absurd hi (by omega)
      case last =>
        intro uu w8 S8 hdep
        have h9 : ∃ x9 : Value, (uu 100) = .agg #[.int .i64 v, x9] ∧ World.ownsRow w8 w7.heap.size 27 1 x9 (n + 1) (ps.map Prod.fst ++ [.slice b zl bc]) := (hdep 9 rfl (by decide)).1
        have h10 : ∃ N : Nat, (uu 17) = .pointer (some ⟨N, 0, none⟩) ∧ w7.heap.size ≤ N ∧ World.rowIs w8 N 25 2 (fun i => if i = 0 then .int .i64 0 else .slice none 0 0) := (hdep 10 rfl (by decide)).1
        clear hdep
        refine ⟨_, rfl, fun K' hK => ?_⟩
        obtain ⟨x9, e9, ho⟩ := h9
        obtain ⟨q9, c9, e8, _⟩ := form_of ho
        subst e8
        obtain ⟨N, e10, hN, hrw⟩ := h10
        simp only [e9, e10] at hK ⊢
        have n0 : World.cell? w8 ⟨N, 0, none⟩ = some (.int .i64 0) := hrw.cell (i := 0) (by omega)
        have n1 : World.cell? w8 ⟨N, 1, none⟩ = some (.slice none 0 0) := hrw.cell (i := 1) (by omega)
        have z0 := hrw.frozen 0
        have z1 := hrw.frozen 1
        have hcN : Chg (fun j => j = N) w8 ((w8.setCell ⟨N, 0, none⟩ (.int .i64 v)).setCell ⟨N, 1, none⟩ (.slice q9 (n + 1) c9)) := ((Chg.refl (fun j => j = N) w8).set (.inl rfl) _).set (.inl rfl) _
        have hrn : World.rowIs ((w8.setCell ⟨N, 0, none⟩ (.int .i64 v)).setCell ⟨N, 1, none⟩ (.slice q9 (n + 1) c9)) N 25 2 (fun i => if i = 0 then .int .i64 v else .slice q9 (n + 1) c9) := ((hrw.set 0 (.int .i64 v)).set 1 (.slice q9 (n + 1) c9)).congr (fun i hi => by
          rcases (show i = 0 ∨ i = 1 by omega) with rfl | rfl <;> rfl)
        have hon := outer_set ho hrw hcN
        have hb9 : Below w7.heap.size w7 ((w8.setCell ⟨N, 0, none⟩ (.int .i64 v)).setCell ⟨N, 1, none⟩ (.slice q9 (n + 1) c9)) := ⟨hcN.os.trans S8.os, hcN.tape.trans S8.tape, hcN.output.trans S8.output, Nat.le_trans S8.size hcN.size, fun j hj => (hcN.block j (by have := S8.size; omega) (fun hx => by have h3 : j = N := hx; omega)).trans (S8.block j hj)⟩
        go_simp
        refine hK.out undef _ ?_
        clear hK
        generalize hw9 : ((w8.setCell ⟨N, 0, none⟩ (.int .i64 v)).setCell ⟨N, 1, none⟩ (.slice q9 (n + 1) c9)) = w9 at *
        clear hcN hw9 hrw n0 n1 z0 z1 ho
        have HB9 : Hid (Below w2.heap.size w2 w9) := hid (HB7.out.trans (hb9.mono HB7.out.size))
        have m0 : w9.cell? ⟨N, 0, none⟩ = some (.int .i64 v) := hrn.cell (i := 0) (by omega)
        have m1 : w9.cell? ⟨N, 1, none⟩ = some (.slice q9 (n + 1) c9) := hrn.cell (i := 1) (by omega)
        have HOG : Hid (OwnRows w.heap.size w9 (.slice q9 (n + 1) c9) (ps ++ [(.slice b zl bc, zs)])) := hid ⟨by
            have h9 := own_mono hon (show w.heap.size ≤ w7.heap.size by have := hBE.out.size; omega)
            rw [List.length_append, HPn.out, List.map_append]
            exact h9, fun q8 hq8 => by
            have h9 := HKI.out w9 HB9.out
            rcases List.mem_append.1 hq8 with hq8 | hq8
            · exact h9.2.2.2.2.1.inner q8 hq8
            · rw [List.mem_singleton] at hq8
              subst hq8
              exact h9.2.2.2.2.2⟩
        have HNl : Hid (N < w9.heap.size) := hid hrn.lt
        obtain ⟨g90, g91⟩ := HF2.out _ HB9.out
        clear hon hrn hb9 e9 e10 g70 g71
        go_wp2_with fail
        refine (leastModel_spec w.heap.size v n c p ps _ (HKI.out _ (HB9.out.trans ((show Below w9.heap.size w9 _ from (by repeat (first | exact Below.refl _ _ | assumption | refine Below.drew ?_ | refine Below.alloc ?_ (by first | exact Nat.le_refl _ | omega | (simp; done) | (simp; omega)) _ | refine Below.setCell ?_ (by first | exact Nat.le_refl _ | omega | (simp; done) | (simp; omega)) _))).mono HB9.out.size))).2.2.2.2.1 (by rw [HZ.out]; exact HCnf.out) (by omega)).mono ?_
        intro e w10 hm10
        obtain ⟨x10, c10, rfl, hc10, hb10⟩ := ends_code hm10
        rw [HZ.out] at hc10
        have HC10 := hid hc10
        have hb9 : Below w9.heap.size w9 w10 := (show Below w9.heap.size w9 _ from (by repeat (first | exact Below.refl _ _ | assumption | refine Below.drew ?_ | refine Below.alloc ?_ (by first | exact Nat.le_refl _ | omega | (simp; done) | (simp; omega)) _ | refine Below.setCell ?_ (by first | exact Nat.le_refl _ | omega | (simp; done) | (simp; omega)) _))).trans (hb10.mono (by simp))
        have HB10 : Hid (Below w2.heap.size w2 w10) := hid (HB9.out.trans (hb9.mono HB9.out.size))
        have HOG10 := hid (OwnRows.below HOG.out hb9)
        replace m0 := keep hb9 m0
        replace m1 := keep hb9 m1
        clear hm10 hc10 hb10 hb9 g90 g91
        go_wp2_with fail
        refine (leastModel_spec w.heap.size v (n + 1) c9 q9 (ps ++ [(.slice b zl bc, zs)]) _ (OwnRows.below HOG10.out (by repeat (first | exact Below.refl _ _ | assumption | refine Below.drew ?_ | refine Below.alloc ?_ (by first | exact Nat.le_refl _ | omega | (simp; done) | (simp; omega)) _ | refine Below.setCell ?_ (by first | exact Nat.le_refl _ | omega | (simp; done) | (simp; omega)) _))) (by rw [List.map_append, HZ.out]; exact HMore.out) (by omega)).mono ?_
        intro e w11 hm11
        obtain ⟨x11, c11, rfl, hc11, hb11⟩ := ends_code hm11
        have HC11 := hid hc11
        have HB11 : Hid (Below w2.heap.size w2 w11) := hid (HB10.out.trans (((show Below w10.heap.size w10 _ from (by repeat (first | exact Below.refl _ _ | assumption | refine Below.drew ?_ | refine Below.alloc ?_ (by first | exact Nat.le_refl _ | omega | (simp; done) | (simp; omega)) _ | refine Below.setCell ?_ (by first | exact Nat.le_refl _ | omega | (simp; done) | (simp; omega)) _))).trans (hb11.mono (by simp))).mono HB10.out.size))
        clear hm11 hc11 hb11
        have hcc : c10 = c11 := by
          have h11 := HC11.out
          rw [List.map_append, HZ.out] at h11
          have h10 := HC10.out
          have hif := HIff.out
          rcases h10 with ⟨h10, k10⟩ | ⟨h10, k10⟩ <;> rcases h11 with ⟨h11, k11⟩ | ⟨h11, k11⟩
          · rw [h10, h11]
          · exact absurd (hif.1 k10) k11
          · exact absurd (hif.2 k11) k10
          · rw [h10, h11]
        subst hcc
        have hq9 : (c10 == c10) = true := by simp
        go_wp2
        go_ret
        exact ⟨rfl, hB2.out.trans (HB11.out.mono hB2.out.size)⟩
theorem own : ownKnob Tryz.prog.godebug = none := by kernel_rfl
theorem laidOut : laidOutB Tryz.prog = true := by kernel_rfl

/- The library's tables as their initialisers lay them. -/
def b64Ints : List Int := [0, 1, 56, 2, 57, 49, 28, 3, 61, 58, 42, 50, 38, 29, 17, 4, 62, 47, 59, 36, 45, 43, 51, 22, 53, 39, 33, 30, 24, 18, 12, 5, 63, 55, 48, 27, 60, 41, 37, 16, 46, 35, 44, 21, 52, 32, 23, 11, 54, 26, 40, 15, 34, 20, 31, 10, 25, 14, 19, 9, 13, 8, 7, 6]
def laidAs (l : List Value) : Obj → Obj
  | .cells _ t frozen => .cells l.toArray t frozen
  | o => o
def b64Tab : List Value := b64Ints.map (Value.int .u8)
def gB64 : Nat := 1
def errTab : List Value := [.iface 117 (.agg #[.pointer (some ⟨2, 84, none⟩)])]
def gErr : Nat := 0
theorem et : Tryz.prog.globalNamed "errors.errorType" = some 0 := by kernel_rfl
theorem rt : (Tryz.prog.cutTypes.find? (·.1 == "internal/reflectlite.rtype")).map (·.2) = some 117 := by kernel_rfl
theorem oneRow : ((List.range Tryz.prog.types.size).filter fun t => Tryz.prog.rowNamed t [101, 114, 114, 111, 114]) = [84] := by kernel_rfl
theorem errs {W : World} (h : laidMetH Tryz.prog Rows.fnRupsRow.laid W) : ErrW W := by
  have h1 := h.filter (fun x => x.1 == "errors.errorType")
  have h2 : laidMet Tryz.prog [] W ∧ handlesMet Tryz.prog [("errors.errorType", Rows.laid_errors_errorType)] W := h1
  obtain ⟨name, u, ty, e1, e2, e3, e4, e5⟩ := h2.2 _ (List.mem_singleton.2 rfl)
  have en : name = [101, 114, 114, 111, 114] := (Option.some.inj e1).symm
  subst en
  obtain rfl := Option.some.inj (rt.symm.trans e2)
  have hm : ty ∈ (List.range Tryz.prog.types.size).filter fun t => Tryz.prog.rowNamed t [101, 114, 114, 111, 114] := List.mem_filter.2 ⟨List.mem_range.2 e3, e4⟩
  rw [oneRow] at hm
  obtain rfl := List.mem_singleton.1 hm
  have hh : typeHandle Tryz.prog 84 = .pointer (some ⟨2, 84, none⟩) := by kernel_rfl
  rw [hh] at e5
  show W.cell? _ = _
  simpa using World.var?_cell et e5 0
theorem same_tab : ∀ j, j < Lib.deBruijn64tab.length → (b64Ints.map fun z => Value.int .u8 z).toArray[j]? = some (.int .u8 (Lib.deBruijn64tab.getD j 0)) := by
  intro j hj
  have hl : Lib.deBruijn64tab.length = 64 := by decide +kernel
  rw [hl] at hj
  have h : ∀ j : Fin 64, b64Ints[j.1]? = some ((Lib.deBruijn64tab.getD j.1 0 : Nat) : Int) := by decide +kernel
  have := h ⟨j, hj⟩
  simp only [List.getElem?_toArray, List.getElem?_map]
  rw [this]
  rfl
theorem table {W : World} (h : laidMetH Tryz.prog Rows.fnRupsRow.laid W) : Tab W := by
  have h1 := h.filter (fun x => x.1 == "math/bits.deBruijn64tab")
  have h2 : laidMet Tryz.prog [("math/bits.deBruijn64tab", Lib.tabData .u8 b64Ints)] W := h1
  have h3 := Lib.tabIs_of_head (g := 1) (t := 130) (e := 5) (n := 64) (by kernel_rfl) (by kernel_rfl) Tryz.underlying130 Tryz.underlying5 (by kernel_rfl) (by kernel_rfl) h2
  unfold Lib.TabIs World.var? at h3
  rw [show Tryz.prog.globalNamed "math/bits.deBruijn64tab" = some 1 by kernel_rfl] at h3
  simp only [Option.bind_some] at h3
  split at h3
  · rename_i cs t fr hh
    injection h3 with h3
    intro j hj
    have h4 := same_tab j hj
    rw [← h3] at h4
    simp only [World.cell?, hh, h4]
    first | done | exact h4 | rfl | simp
  · cases h3

theorem laid_met (os : Os) : laidMetH Tryz.prog Rows.fnRupsRow.laid (({ World.holding Tryz.prog os ⟨#[], #[], []⟩ with heap := (((World.holding Tryz.prog os ⟨#[], #[], []⟩).heap.modify gB64 (laidAs b64Tab)).modify gErr (laidAs errTab)) } : World).forCall (fun _ _ => 0) ⟨#[], #[.slice none 0 0, .slice none 0 0], []⟩).memory :=
  laidMetH_of_parts (laidMet_of_run' 8 (by kernel_rfl) (by kernel_rfl)) (by kernel_rfl)
theorem reads (os : Os) {H : Type} (enc : TypeId × Value → H) : ∃ places, DataW.whole enc Tryz.prog (({ World.holding Tryz.prog os ⟨#[], #[], []⟩ with heap := (((World.holding Tryz.prog os ⟨#[], #[], []⟩).heap.modify gB64 (laidAs b64Tab)).modify gErr (laidAs errTab)) } : World).forCall (fun _ _ => 0) ⟨#[], #[.slice none 0 0, .slice none 0 0], []⟩).memory Tryz.f3.params.toList Rows.fnRupsSpec.vars false #[Value.slice none 0 0, .slice none 0 0].toList 8 = some ([.nil, .nil], [], places) :=
  ⟨[], by kernel_rfl⟩

set_option maxRecDepth 100000 in
theorem contract (H : Type) (enc : TypeId × Value → H) (W : World) (base : Nat) (args : Array Value) (ds gs : List (DataW H)) (before : List MemPlace)
    (hval : ∀ (j : Nat) t v, Tryz.f3.params[j]? = some t → args[j]? = some v → Value.okWide Tryz.prog W .any base t v)
    (hW : DataW.Whole enc Tryz.prog Tryz.f3.params.toList Rows.fnRupsSpec.vars false W args.toList ds gs before) (hL : laidMetH Tryz.prog Rows.fnRupsRow.laid W) :
    Calls Tryz.prog 3 args W fun e W' => ∃ v, e = .returned v ∧ Rows.fnRupsSpec.post enc Tryz.prog Tryz.f3 false true false false W args v W' := by
  have hW' := hW
  obtain ⟨p, q, hA0, hV, rfl, hfz, hnd⟩ := hW
  have hA : DataW.TrodAll enc Tryz.prog W 0 (fun _ => true) true Tryz.f3.params.toList args.toList ds p := hA0
  rw [Tryz.params3] at hA hval
  obtain ⟨v0, vs0, d0, ds0, p0, q0, hargs, rfl, rfl, h0, r0⟩ := trodAll_cons hA
  obtain ⟨v1, vs1, d1, ds1, p1, q1, rfl, rfl, rfl, h1, r1⟩ := trodAll_cons r0
  obtain ⟨rfl, rfl, rfl⟩ := trodAll_nil r1
  obtain rfl : args = #[v0, v1] := by cases args; simp_all
  obtain ⟨rfl, rfl⟩ := trodVars_none hV
  have k0 := h0
  have lt0 : ∀ x ∈ p0, x.block < W.heap.size := by obtain ⟨m, hm⟩ := k0; exact DataW.trod_lt m _ _ _ hm
  obtain ⟨a0, la0, ca0, rfl⟩ := okWide_slice Tryz.underlying22 (hval 0 22 v0 rfl rfl)
  have hba0 : source.Bytes W a0 la0 ∧ la0 ≤ maxLen := by
    obtain ⟨fuel, hf⟩ := h0
    obtain ⟨a', l', c', e, hb⟩ := bytes_of_trod Tryz.underlying22 Tryz.underlying5 (by kernel_rfl) (by simpa [Value.cells] using hf)
    cases e
    exact hb
  have k1 := h1
  have lt1 : ∀ x ∈ p1, x.block < W.heap.size := by obtain ⟨m, hm⟩ := k1; exact DataW.trod_lt m _ _ _ hm
  obtain ⟨a1, la1, ca1, rfl⟩ := okWide_slice Tryz.underlying22 (hval 1 22 v1 rfl rfl)
  have hba1 : source.Bytes W a1 la1 ∧ la1 ≤ maxLen := by
    obtain ⟨fuel, hf⟩ := h1
    obtain ⟨a', l', c', e, hb⟩ := bytes_of_trod Tryz.underlying22 Tryz.underlying5 (by kernel_rfl) (by simpa [Value.cells] using hf)
    cases e
    exact hb
  clear hA0
  refine (walk a0 a1 la0 la1 ca0 ca1 W hba0.1 hba1.1 hba0.2 hba1.2 (table hL) (errs hL)).mono fun e W' ⟨he, bel⟩ => ?_
  subst he
  exact ⟨_, rfl, _, _, _, [], _, [], hW', trodAll_mk1 (shut_bool Tryz.underlying4 _), (trodAll_cons_mk (Below.trod laidOut (by kernel_rfl) (of_decide_eq_true (by kernel_rfl)) k0 bel lt0) (trodAll_cons_mk (Below.trod laidOut (by kernel_rfl) (of_decide_eq_true (by kernel_rfl)) k1 bel lt1) trodAll_mk0)), rfl, bel.frame _, fun h => by cases h⟩

set_option maxRecDepth 100000 in
theorem lifted (os : Os) (started : os.Started) (H : Type) (enc : TypeId × Value → H) (F : Stop.Interp) :
    ReturnsInHanded {} Tryz.checked os 3 .any ((OpenSpec.ofChange Rows.fnRupsSpec).preRow enc Tryz.prog Tryz.f3 Rows.fnRupsRow.domain false Rows.fnRupsRow.laid) (((OpenSpec.ofChange Rows.fnRupsSpec).at F).post enc Tryz.prog Tryz.f3 false true false false) := by
  obtain ⟨places, hx⟩ := reads os enc
  refine returnsInHanded_of_row (C := Tryz.checked) (s := OpenSpec.ofChange Rows.fnRupsSpec) own started (by kernel_rfl) Tryz.func3
    (witness_row_at (enc := enc) (C := Tryz.checked) false ({ World.holding Tryz.prog os ⟨#[], #[], []⟩ with heap := (((World.holding Tryz.prog os ⟨#[], #[], []⟩).heap.modify gB64 (laidAs b64Tab)).modify gErr (laidAs errTab)) } : World) #[.slice none 0 0, .slice none 0 0] rfl (by kernel_rfl) (by kernel_rfl) (by kernel_rfl)
      (OpenSpec.preRow_of_cond 8 hx (by kernel_rfl) (fun k hk => by cases hk) (by kernel_rfl) (laid_met os))) ?_
  intro W base args ds gs before hval hW _ _ _ hL hsh _
  exact contract H enc W base args ds gs before hval hW hL

theorem said : Rows.FnRupsSaid :=
  OpenClaim.holds_of_cond 3 Tryz.f3 rfl rfl rfl rfl rfl rfl rfl ⟨rfl, rfl, rfl, rfl, rfl⟩ rfl rfl rfl rfl rfl (by kernel_rfl) Tryz.func3 (by kernel_rfl)
    (of_decide_eq_true (by kernel_rfl)) (by unfold Func.isWrapper; first | (rw [if_pos (by decide +kernel)]; kernel_rfl) | (rw [if_neg (by decide +kernel)]; exact ⟨rfl, rfl⟩))
    (fun os started H enc _ F => by rw [OpenClaim.pre_eq_preRow]; exact lifted os started H enc F)

theorem plain (f : FuncId) (fn : Func) (hf : Tryz.pinned.checked.prog.funcNamed "loop.example/g00159/laws.FnRups" = some f) (hfn : Tryz.pinned.checked.prog.funcs[f]? = some fn) :
    true = Tryz.pinned.checked.prog.looks [] ∧ ∀ (j : Nat) t, fn.params[j]? = some t → Tryz.pinned.checked.prog.wantsStandIn t = false := by
  obtain rfl : f = 3 := Option.some.inj ((show Tryz.prog.funcNamed "loop.example/g00159/laws.FnRups" = some 3 by kernel_rfl).symm.trans hf) |>.symm
  obtain rfl : fn = Tryz.f3 := (Option.some.inj (Tryz.func3.symm.trans hfn)).symm
  refine ⟨by kernel_rfl, fun j t ht => ?_⟩
  rw [Tryz.params3] at ht
  obtain rfl : t = 22 := by
    have := Array.mem_of_getElem? ht
    simpa using this
  exact (show Tryz.prog.wantsStandIn 22 = false by kernel_rfl)
end Go.Proofs.YtpfecijahiikhaaGreatDoor.fnRups
namespace Go.Proofs.YtpfecijahiikhaaGreatDoor
theorem fnRups_holds : Rows.FnRupsCardSaid :=
  Claim7.holds_tied_plain_at .later [] _ _ _ _ fnRups.said (fun _ h => by cases h) (by kernel_rfl) (fun _ h => by cases h) fnRups_row_tie rfl ⟨rfl, rfl⟩ (by kernel_rfl) rfl fnRups.plain (by kernel_rfl)
end Go.Proofs.YtpfecijahiikhaaGreatDoor
