/- For every two codes, what the two clauses drawn out of them resolve to is what the specification says, and is true wherever both are; conditions: none. -/
import Derived.Test.YtfjhckjnhnpglaaResolveSpec
import Derived.Test.YtfjhckjnhnpglaaDraws
import Derived.Test.YtfjhckjnhnpglaaOwnBools
import Derived.Test.YtfjhckjnhnpglaaArgs
namespace Go.Proofs.Ytfjhckjnhnpglaa.fnResolves
open Go.ChangeShapes Go.WideShapes Go.ChangeAt Go.RowKit Go.Deep Go.Joins base copy cnf eval own order sorted concat inOrder resolved resolveSpec mark clauseOf draws sets ownBools args
set_option linter.unusedVariables false

theorem lit_up {z : Int} (h : litB 4 z = true) : litB 40 z = true := by
  have := litB_range h
  simp [litB]; omega
theorem clause_four {zs : List Int} (hl : zs.length ≤ 4) (h : ∀ z ∈ zs, litB 4 z = true) : clauseB 4 zs = true ∧ clauseB 40 zs = true := by
  simp only [clauseB, Bool.and_eq_true, List.all_eq_true, decide_eq_true_eq]
  exact ⟨⟨by omega, h⟩, ⟨by omega, fun z hz => lit_up (h z hz)⟩⟩
theorem code_two {za zb : List Int} {v : Int} (ha : clauseB 40 za = true) (hb : clauseB 40 zb = true) (h0 : 1 ≤ v) (h1 : v ≤ 4) (hma : v ∈ za) (hmb : -v ∈ zb) : resCode za zb v = 8 ∨ (resCode za zb v = 0 ∧ resList za zb v = ord (restOf za zb v)) := by
  have n1 : ¬ (4096 < za.length ∨ 4096 < zb.length) := by
    have := (clause_range ha).1
    have := (clause_range hb).1
    omega
  have n2 : ¬ (clauseB 40 za = false ∨ clauseB 40 zb = false ∨ v < 1 ∨ 40 < v) := by
    rw [ha, hb]
    simp
    omega
  have n3 : ¬ (¬ v ∈ za ∨ ¬ -v ∈ zb) := by
    rintro (h | h)
    · exact h hma
    · exact h hmb
  cases hq : oppB (ord (restOf za zb v))
  · exact .inr (res_ok n1 n2 n3 hq)
  · exact .inl (res_state n1 n2 n3 hq).1
theorem rest_four {za zb : List Int} {v : Int} (la : za.length ≤ 4) (lb : zb.length ≤ 4) (ha : ∀ z ∈ za, litB 4 z = true) (hb : ∀ z ∈ zb, litB 4 z = true) : clauseB 4 (ord (restOf za zb v)) = true := by
  have hm := (ord_rises (restOf za zb v)).2
  have hl := ord_length (restOf za zb v)
  have hr : (restOf za zb v).length ≤ 8 := by
    unfold restOf
    rw [List.length_append]
    have h1 := List.length_filter_le (fun z => z != v) za
    have h2 := List.length_filter_le (fun z => z != -v) zb
    omega
  simp only [clauseB, Bool.and_eq_true, List.all_eq_true, decide_eq_true_eq]
  refine ⟨by omega, fun z hz => ?_⟩
  have := (hm z).1 hz
  unfold restOf at this
  rcases List.mem_append.1 this with h | h
  · exact ha z (List.mem_filter.1 h).1
  · exact hb z (List.mem_filter.1 h).1
theorem cnf_two {za zb : List Int} (ha : clauseB 4 za = true) (hb : clauseB 4 zb = true) : cnfB 4 [za, zb] = true := by
  simp [cnfB, ha, hb]
theorem cnf_one {za : List Int} (ha : clauseB 4 za = true) : cnfB 4 [za] = true := by
  simp [cnfB, ha]
/-- What two clauses resolve to is true wherever both are. -/
theorem sound {za zb : List Int} {v : Int} {vs : List Bool} (hv : v ≠ 0) (h : cnfT vs [za, zb] = true) : cnfT vs [ord (restOf za zb v)] = true := by
  simp only [cnfT, List.all_cons, List.all_nil, Bool.and_true, Bool.and_eq_true, clauseT, List.any_eq_true] at h ⊢
  obtain ⟨⟨x, hx, tx⟩, ⟨y, hy, ty⟩⟩ := h
  have hm := (ord_rises (restOf za zb v)).2
  by_cases h1 : x = v
  · by_cases h2 : y = -v
    · subst h1
      subst h2
      exfalso
      unfold litT at tx ty
      rw [Int.natAbs_neg] at ty
      rcases Int.lt_or_lt_of_ne hv with h | h
      · rw [decide_eq_false (by omega)] at tx
        rw [decide_eq_true (by omega)] at ty
        cases hb : vs[x.natAbs - 1]?.getD false <;> rw [hb] at tx ty <;> simp at tx ty
      · rw [decide_eq_true (by omega)] at tx
        rw [decide_eq_false (by omega)] at ty
        cases hb : vs[x.natAbs - 1]?.getD false <;> rw [hb] at tx ty <;> simp at tx ty
    · exact ⟨y, (hm y).2 (List.mem_append.2 (.inr (List.mem_filter.2 ⟨hy, by simp [h2]⟩))), ty⟩
  · exact ⟨x, (hm x).2 (List.mem_append.2 (.inl (List.mem_filter.2 ⟨hx, by simp [h1]⟩))), tx⟩

theorem rows_two {w W : World} {a1 a2 : Option Addr} {c1 c2 : Nat} {A B : List Int} {t : TypeId} (h1 : IntRow w a1 A.length A) (h2 : IntRow w a2 B.length B) (hb : Below (w.alloc (.cells #[.slice a1 A.length c1, .slice a2 B.length c2] t)).heap.size (w.alloc (.cells #[.slice a1 A.length c1, .slice a2 B.length c2] t)) W) : IntRows W (some ⟨w.heap.size, 0, none⟩) 2 [A, B] := by
  have hba : Below w.heap.size w (w.alloc (.cells #[.slice a1 A.length c1, .slice a2 B.length c2] t)) := (Below.refl _ _).alloc (Nat.le_refl _) _
  refine ⟨rfl, by unfold maxLen; omega, fun i hi => ?_⟩
  rcases (show i = 0 ∨ i = 1 by omega) with rfl | rfl
  · exact ⟨w.heap.size, 0, rfl, a1, A.length, c1, keep hb (by simp [go_sem]), (h1.below hba).below hb⟩
  · exact ⟨w.heap.size, 0, rfl, a2, B.length, c2, keep hb (by simp [go_sem]), (h2.below hba).below hb⟩
theorem rows_one {w W : World} {a1 : Option Addr} {c1 : Nat} {A : List Int} {t : TypeId} (h1 : IntRow w a1 A.length A) (hb : Below (w.alloc (.cells #[.slice a1 A.length c1] t)).heap.size (w.alloc (.cells #[.slice a1 A.length c1] t)) W) : IntRows W (some ⟨w.heap.size, 0, none⟩) 1 [A] := by
  have hba : Below w.heap.size w (w.alloc (.cells #[.slice a1 A.length c1] t)) := (Below.refl _ _).alloc (Nat.le_refl _) _
  refine ⟨rfl, by unfold maxLen; omega, fun i hi => ?_⟩
  obtain rfl : i = 0 := by omega
  exact ⟨w.heap.size, 0, rfl, a1, A.length, c1, keep hb (by simp [go_sem]), (h1.below hba).below hb⟩
theorem bytes_below {w W : World} {x : Option Addr} {l : Nat} (hb : Below w.heap.size w W) (h : source.Bytes w x l) : source.Bytes W x l := fun i hi => by
  obtain ⟨bb, off, e, y, hy, hc⟩ := h i hi
  exact ⟨bb, off, e, y, hy, keep hb hc⟩
set_option maxRecDepth 20000 in
set_option maxHeartbeats 3200000 in
theorem walk (a b : Option Addr) (la ca lb cb : Nat) (w : World) (hba : source.Bytes w a la) (hbb : source.Bytes w b lb) (hma : la ≤ maxLen) (hmb : lb ≤ maxLen) :
    Calls Try.prog 4 #[.slice a la ca, .slice b lb cb] w fun e w' => e = .returned (.bool true) ∧ Below w.heap.size w w' := by
  unfold maxLen at hma hmb
  have HA := hid hba
  have HB := hid hbb
  clear hba hbb
  by_cases h1 : 1048576 < la ∨ 1048576 < lb
  · by_cases h2 : 1048576 < la
    · go_enter Try.func4, Try.ntmps4
      go_wp2
      go_ret
      exact ⟨rfl, Below.refl _ _⟩
    · have h3 : 1048576 < lb := by omega
      go_enter Try.func4, Try.ntmps4
      go_wp2
      go_ret
      exact ⟨rfl, Below.refl _ _⟩
  have hla : la ≤ 1048576 := by omega
  have hlb : lb ≤ 1048576 := by omega
  have hla' : (la : Int) ≤ 1048576 := by omega
  have hlb' : (lb : Int) ≤ 1048576 := by omega
  clear h1
  obtain ⟨i0, hi, hzz⟩ := Option.map_eq_some_iff.1 Try.info_int
  simp only [Prod.mk.injEq] at hzz
  obtain ⟨hz0, hz1, hz2⟩ := hzz
  have HI := hid hi
  have HZ0 := hid hz0
  have HZ1 := hid hz1
  have HZ2 := hid hz2
  clear hi hz0 hz1 hz2
  go_enter Try.func4, Try.ntmps4
  go_wp2_with fail
  refine (at_first b lb cb _ HB.out hlb).mono ?_
  rintro e w1 ⟨r, rfl, r0, r1, q, rfl⟩
  have B1 : Hid (Below w.heap.size w (w.drewN q)) := below_drewN _ _
  generalize w.drewN q = w1 at *
  go_wp2_with fail
  generalize hv : 1 + r = v
  have hv0 : 1 ≤ v := by omega
  have hv1 : v ≤ 4 := by omega
  clear hv r0 r1
  refine (clauseOf_spec a la ca 4 _ (bytes_below B1.out HA.out) hla (by omega) (by omega)).mono ?_
  rintro e w2 ⟨x, za, rfl, ho2, hl2, hz2, hb2⟩
  obtain ⟨a2, c2, rfl, _⟩ := ho2.form
  have O2 := hid ho2
  have B2 := hid (B1.out.trans (hb2.mono B1.out.size))
  have L2 := hid hl2
  have Z2 := hid hz2
  have O2S := hid hb2.size
  clear ho2 hl2 hz2 hb2
  go_wp2_with (at_builtin; (refine wpList_append_own _ rfl _ _ 37 rfl w1.heap.size 3 i0 (.int .i64 0) 1 8 Try.underlying37 HI.out HZ0.out HZ1.out HZ2.out rfl (by decide) _ _ _ rfl (World.ownsRow.alloc O2.out _) ⟨w2.heap.size, 0, none⟩ 1 1 [.int .i64 v] rfl rfl (cell_one_new _ _ _) (fun x hx => by simp at hx; subst hx; rfl) (by have := L2.out; unfold maxLen; omega) (by have := L2.out; omega) (by have := O2S.out; simp; omega) ?_); intro xa w3 hown' hgrow' hnil')
  have O3 : Hid (OwnInts w1.heap.size w3 xa (za ++ [v])) := by
    show OwnInts _ _ _ _
    unfold OwnInts
    rw [List.length_append, List.map_append]
    exact hown'
  have B3 : Hid (Below w.heap.size w w3) := B2.out.trans (((Below.refl w2.heap.size w2).alloc (Nat.le_refl _) _).trans (Below.refl _ _) |>.mono B2.out.size) |>.grown hgrow' (by have := B2.out.size; simp; omega) (fun g hg => by have := (own_lt O2.out hg).1; have := B1.out.size; omega)
  clear hown' hgrow' hnil'
  obtain ⟨a3, c3, rfl, _⟩ := O3.out.form
  have HA3 := hid (fun g (hg : (Value.slice a3 (za ++ [v]).length c3).ownBlock = some g) => (own_lt O3.out hg).2)
  clear O2 O2S
  generalize hA : za ++ [v] = A at *
  have HAm : Hid (v ∈ A) := by show v ∈ A; rw [← hA]; simp
  have HAl : Hid (A.length ≤ 4) := by show _ ≤ _; rw [← hA, List.length_append]; have := L2.out; simp; omega
  have HAz : Hid (∀ z ∈ A, litB 4 z = true) := fun z hz => by
    rw [← hA] at hz
    rcases List.mem_append.1 hz with h | h
    · exact Z2.out z h
    · rw [List.mem_singleton] at h; subst h; simp [litB]; omega
  clear hA L2 Z2
  refine (clauseOf_spec b lb cb 4 _ (bytes_below B3.out HB.out) hlb (by omega) (by omega)).mono ?_
  rintro e w4 ⟨x, zb, rfl, ho4, hl4, hz4, hb4⟩
  obtain ⟨a4, c4, rfl, _⟩ := ho4.form
  have O4 := hid ho4
  have B4 := hid (B3.out.trans (hb4.mono B3.out.size))
  have O34 := hid (O3.out.below hb4)
  have L4 := hid hl4
  have Z4 := hid hz4
  have O4S := hid hb4.size
  clear ho4 hl4 hz4 hb4 O3
  go_wp2_with (at_builtin; (refine wpList_append_own _ rfl _ _ 37 rfl w3.heap.size 3 i0 (.int .i64 0) 1 8 Try.underlying37 HI.out HZ0.out HZ1.out HZ2.out rfl (by decide) _ _ _ rfl (World.ownsRow.alloc O4.out _) ⟨w4.heap.size, 0, none⟩ 1 1 [.int .i64 (-v)] rfl rfl (cell_one_new _ _ _) (fun x hx => by simp at hx; subst hx; rfl) (by have := L4.out; unfold maxLen; omega) (by have := L4.out; omega) (by have := O4S.out; simp; omega) ?_); intro xb w5 hown' hgrow' hnil')
  have O5 : Hid (OwnInts w3.heap.size w5 xb (zb ++ [-v])) := by
    show OwnInts _ _ _ _
    unfold OwnInts
    rw [List.length_append, List.map_append]
    exact hown'
  have B5 : Hid (Below w.heap.size w w5) := Below.grown (B4.out.trans (((Below.refl w4.heap.size w4).alloc (Nat.le_refl _) _).mono B4.out.size)) hgrow' (by have := B4.out.size; simp; omega) (fun g hg => by have := (own_lt O4.out hg).1; have := B3.out.size; omega)
  have O35 := hid (own_grown (O34.out.below ((Below.refl w4.heap.size w4).alloc (Nat.le_refl _) _)) hgrow' (fun g hg e => by have := HA3.out g hg; have := (own_lt O4.out e.symm).1; omega))
  clear hown' hgrow' hnil'
  obtain ⟨a5, c5, rfl, _⟩ := O5.out.form
  clear O4 O34 O4S
  generalize hB : zb ++ [-v] = B at *
  have HBm : Hid (-v ∈ B) := by show -v ∈ B; rw [← hB]; simp
  have HBl : Hid (B.length ≤ 4) := by show _ ≤ _; rw [← hB, List.length_append]; have := L4.out; simp; omega
  have HBz : Hid (∀ z ∈ B, litB 4 z = true) := fun z hz => by
    rw [← hB] at hz
    rcases List.mem_append.1 hz with h | h
    · exact Z4.out z h
    · rw [List.mem_singleton] at h; subst h; simp [litB]; omega
  clear hB L4 Z4
  have RA5 := hid (row_of_own O35.out)
  have RB5 := hid (row_of_own O5.out)
  refine (resolve_impl _ _ _ _ _ _ A B v _ RA5.out RB5.out).mono ?_
  rintro e w6 ⟨y, rfl, ho6, hb6⟩
  obtain ⟨ay, cy, rfl, ry⟩ := ho6.form
  have B6 := hid (B5.out.trans (hb6.mono B5.out.size))
  have RA6 := hid (RA5.out.below hb6)
  have RB6 := hid (RB5.out.below hb6)
  have RY6 := hid ry
  clear ho6 hb6 ry RA5 RB5 O35 O5 HA3
  go_wp2_with fail
  refine (resolve_spec _ _ _ _ _ _ A B v _ RA6.out RB6.out).mono ?_
  rintro e w7 ⟨x, rfl, ho7, hb7⟩
  obtain ⟨ax, cx, rfl, rx⟩ := ho7.form
  have B7 := hid (B6.out.trans (hb7.mono B6.out.size))
  have RA7 := hid (RA6.out.below hb7)
  have RB7 := hid (RB6.out.below hb7)
  have RY7 := hid (RY6.out.below hb7)
  have RX7 := hid rx
  clear ho7 hb7 rx RA6 RB6 RY6
  have HC := hid (code_two (clause_four HAl.out HAz.out).2 (clause_four HBl.out HBz.out).2 hv0 hv1 HAm.out HBm.out)
  generalize resCode A B v = C at *
  generalize resList A B v = L at *
  have hqC : (C != C) = false := by simp
  go_wp2_with fail
  refine (same_ints _ _ _ _ _ _ L L _ RY7.out RX7.out).mono ?_
  rintro e w8 ⟨rfl, n8, rfl⟩
  have b78 : Hid (Below w7.heap.size w7 (w7.drewN n8)) := below_drewN _ _
  generalize w7.drewN n8 = w8 at *
  have B8 := hid (B7.out.trans (b78.out.mono B7.out.size))
  have RA8 := hid (RA7.out.below b78.out)
  have RB8 := hid (RB7.out.below b78.out)
  have RY8 := hid (RY7.out.below b78.out)
  clear RA7 RB7 RY7 RX7 b78
  rcases HC.out with rfl | ⟨rfl, hL⟩
  · go_wp2
    go_ret
    exact ⟨rfl, B8.out⟩
  subst hL
  have HR4 := hid (rest_four (v := v) HAl.out HBl.out HAz.out HBz.out)
  have HSound := hid (fun vs => sound (za := A) (zb := B) (v := v) (vs := vs) (by omega))
  have HTwo := hid (cnf_two (clause_four HAl.out HAz.out).1 (clause_four HBl.out HBz.out).1)
  have HOne := hid (cnf_one HR4.out)
  generalize ord (restOf A B v) = L at *
  clear HC HAm HBm
  go_wp2
  go_loopw [12] (fun i wr => ∃ m : Nat, m ≤ 16 ∧ i = .int .i64 m ∧ Below w8.heap.size w8 wr) (fun i _ => 16 - (intOf i).toNat)
  case atStart => exact ⟨0, Nat.zero_le _, rfl, Below.refl _ _⟩
  case round =>
    obtain ⟨m, hm, rfl, hbel⟩ := hrel
    have HW := hid hbel
    have RA := hid (RA8.out.below hbel)
    have RB := hid (RB8.out.below hbel)
    have RY := hid (RY8.out.below hbel)
    clear hbel
    have HVL : Hid ((valsOf m 4).length = 4) := by show _ = _; simp [valsOf]
    by_cases hlt : m < 16
    · have E2 := hid (code_ok (vars := 4) (zss := [A, B]) (vs := valsOf m 4) (by rw [HVL.out]; omega) HTwo.out (by rw [HVL.out]; rfl))
      have E1 := hid (code_ok (vars := 4) (zss := [L]) (vs := valsOf m 4) (by rw [HVL.out]; omega) HOne.out (by rw [HVL.out]; rfl))
      have HSm := hid (HSound.out (valsOf m 4))
      go_wp2_with fail
      refine (values_laws m 4 _ (by omega) (by omega)).mono ?_
      rintro e u1 ⟨bv, rfl, ob1, hb1⟩
      obtain ⟨av, cv, rfl, rv⟩ := ob1.form
      rw [HVL.out] at rv ⊢
      have RV := hid rv
      have RR := hid (rows_two RA.out RB.out hb1)
      have H1 := hid ((show Below wr.heap.size wr _ from (by repeat (first | exact Below.refl _ _ | assumption | refine Below.drew ?_ | refine Below.alloc ?_ (by first | exact Nat.le_refl _ | omega | (simp; done) | (simp; omega)) _ | refine Below.setCell ?_ (by first | exact Nat.le_refl _ | omega | (simp; done) | (simp; omega)) _))).trans (hb1.mono (by simp)))
      clear ob1 rv hb1
      go_wp2_with fail
      refine (evalCnf_spec 4 _ _ 2 2 4 _ [A, B] (valsOf m 4) _ RR.out RV.out).mono ?_
      rintro e u2 ⟨rfl, hb2⟩
      rw [E2.out.1, E2.out.2]
      have H2 := hid (H1.out.trans (hb2.mono H1.out.size))
      have RY2 := hid (RY.out.below H2.out)
      clear hb2 RV RR
      go_wp2_with fail
      refine (values_laws m 4 _ (by omega) (by omega)).mono ?_
      rintro e u3 ⟨bv, rfl, ob3, hb3⟩
      obtain ⟨av3, cv3, rfl, rv3⟩ := ob3.form
      rw [HVL.out] at rv3 ⊢
      have RV3 := hid rv3
      have RR3 := hid (rows_one RY2.out hb3)
      have H3 := hid (H2.out.trans (((show Below u2.heap.size u2 _ from (by repeat (first | exact Below.refl _ _ | assumption | refine Below.drew ?_ | refine Below.alloc ?_ (by first | exact Nat.le_refl _ | omega | (simp; done) | (simp; omega)) _ | refine Below.setCell ?_ (by first | exact Nat.le_refl _ | omega | (simp; done) | (simp; omega)) _))).trans (hb3.mono (by simp))).mono H2.out.size))
      clear ob3 rv3 hb3
      go_wp2_with fail
      refine (evalCnf_spec 4 _ _ 1 1 4 _ [L] (valsOf m 4) _ RR3.out RV3.out).mono ?_
      rintro e u4 ⟨rfl, hb4⟩
      rw [E1.out.1, E1.out.2]
      have H4 := hid (H3.out.trans (hb4.mono H3.out.size))
      have HF := hid (HW.out.trans (H4.out.mono HW.out.size))
      clear hb4 RV3 RR3
      cases hq : cnfT (valsOf m 4) [A, B]
      · generalize cnfT (valsOf m 4) [L] = t1 at *
        clear hq
        go_wp2
        go_roundw
        case rel => exact ⟨m + 1, by omega, by go_num, HF.out⟩
        case measure => simp [intOf]; omega
      · rw [HSm.out hq]
        clear hq
        go_wp2
        go_roundw
        case rel => exact ⟨m + 1, by omega, by go_num, HF.out⟩
        case measure => simp [intOf]; omega
    · have e : m = 16 := by omega
      subst e
      go_wp2
      go_ret
      exact ⟨rfl, B8.out.trans (HW.out.mono B8.out.size)⟩

theorem bytes_of_trod {H : Type} {enc : TypeId × Value → H} {P : Program} {w : World} {base : Nat} {held : Bool} {t e : TypeId} {fuel : Nat} {v : Value} {x : DataW H × List MemPlace} (ht : P.underlying t = some (.slice e)) (he : P.underlying e = some (.int .u8)) (ce : P.cellsOf e = 1)
    (h : DataW.trod enc P w base (fun _ => true) held fuel t [v] = some x) : ∃ a len cap, v = .slice a len cap ∧ source.Bytes w a len ∧ len ≤ maxLen := by
  rcases open_ints ht he ce h with ⟨hcs, _⟩ | ⟨x, l, c, zs, hcs, _, hl, hm, hz, _, hcell, hwz⟩
  · exact ⟨none, 0, 0, by simpa using hcs, fun i hi => absurd hi (Nat.not_lt_zero _), Nat.zero_le _⟩
  · simp only [if_true] at hz
    refine ⟨some x, l, c, by simpa using hcs, fun i hi => ?_, Nat.le_trans hl hm⟩
    obtain ⟨e1, e2⟩ := at_none (hcell 0 (by omega)) (hcell i (by omega))
    have hi' : i < zs.length := by omega
    have hw := hwz zs[i] (List.getElem_mem hi')
    have hr : 0 ≤ zs[i] ∧ zs[i] < 256 := by
      simp [Lit.wf, IntKind.min, IntKind.max, IntKind.bits, IntKind.signed] at hw
      omega
    obtain ⟨y, hy⟩ := Int.eq_ofNat_of_zero_le hr.1
    refine ⟨x.block, x.off, by rw [← e1], y, by omega, ?_⟩
    rw [e2, List.getD_eq_getElem?_getD, List.getElem?_eq_getElem hi', Option.getD_some, hy]

theorem own : ownKnob Try.prog.godebug = none := by kernel_rfl
theorem laidOut : laidOutB Try.prog = true := by kernel_rfl

set_option maxRecDepth 100000 in
theorem lifted (os : Os) (started : os.Started) (H : Type) (enc : TypeId × Value → H) :
    ReturnsInHanded {} Try.checked os 4 .any (Rows.fnResolvesSpec.pre6 enc Try.prog Try.f4 Rows.fnResolvesRow.domain false) (Rows.fnResolvesSpec.post enc Try.prog Try.f4 false true false false) := by
  refine returnsInHanded_of_change (C := Try.checked) own started (by kernel_rfl) Try.func4
    (ChangeSpec.witness6 (enc := enc) (C := Try.checked) false ⟨#[], #[.slice none 0 0, .slice none 0 0], []⟩ 8 (by kernel_rfl) (by kernel_rfl) (by kernel_rfl) (by kernel_rfl)) ?_
  intro W base args ds gs before hval0 hW hcnd _
  have hval : ∀ (j : Nat) t v, Try.f4.params[j]? = some t → args[j]? = some v → Value.okWide Try.prog W .any base t v := hval0
  have hW' := hW
  obtain ⟨p, q, hA0, hV, rfl, hfz, hnd⟩ := hW
  have hA : DataW.TrodAll enc Try.prog W 0 (fun _ => true) true Try.f4.params.toList args.toList ds p := hA0
  rw [Try.params4] at hA hval
  obtain ⟨v0, vs0, d0, ds0, p0, q0, hargs, rfl, rfl, h0, r0⟩ := trodAll_cons hA
  obtain ⟨v1, vs1, d1, ds1, p1, q1, rfl, rfl, rfl, h1, r1⟩ := trodAll_cons r0
  obtain ⟨rfl, rfl, rfl⟩ := trodAll_nil r1
  obtain rfl : args = #[v0, v1] := by cases args; simp_all
  obtain ⟨rfl, rfl⟩ := trodVars_none hV
  have k0 := h0
  have lt0 : ∀ x ∈ p0, x.block < W.heap.size := by obtain ⟨m, hm⟩ := k0; exact DataW.trod_lt m _ _ _ hm
  have k1 := h1
  have lt1 : ∀ x ∈ p1, x.block < W.heap.size := by obtain ⟨m, hm⟩ := k1; exact DataW.trod_lt m _ _ _ hm
  obtain ⟨a, la, ca, rfl⟩ := okWide_slice Try.underlying22 (hval 0 22 v0 rfl rfl)
  have hba : source.Bytes W a la ∧ la ≤ maxLen := by
    obtain ⟨fuel, hf⟩ := h0
    obtain ⟨a', l', c', e, hb⟩ := bytes_of_trod Try.underlying22 Try.underlying5 (by kernel_rfl) (by simpa [Value.cells] using hf)
    cases e
    exact hb
  obtain ⟨b, lb, cb, rfl⟩ := okWide_slice Try.underlying22 (hval 1 22 v1 rfl rfl)
  have hbb : source.Bytes W b lb ∧ lb ≤ maxLen := by
    obtain ⟨fuel, hf⟩ := h1
    obtain ⟨a', l', c', e, hb⟩ := bytes_of_trod Try.underlying22 Try.underlying5 (by kernel_rfl) (by simpa [Value.cells] using hf)
    cases e
    exact hb
  clear hA0 hval0
  refine (walk a b la ca lb cb W hba.1 hbb.1 hba.2 hbb.2).mono fun e W' ⟨he, bel⟩ => ?_
  subst he
  exact ⟨_, rfl, _, _, _, [], _, [], hW', trodAll_mk1 (shut_bool Try.underlying4 _), (trodAll_cons_mk (Below.trod laidOut (by kernel_rfl) (of_decide_eq_true (by kernel_rfl)) k0 bel lt0) (trodAll_cons_mk (Below.trod laidOut (by kernel_rfl) (of_decide_eq_true (by kernel_rfl)) k1 bel lt1) trodAll_mk0)), rfl, bel.frame _, fun h => by cases h⟩

theorem over : Rows.fnResolvesRow.holds Try.pinned (OpenSpec.ofChange Rows.fnResolvesSpec) :=
  OpenClaim.holds_of_wide 4 Try.f4 rfl rfl rfl rfl rfl rfl rfl ⟨rfl, rfl, rfl, rfl, rfl⟩ rfl rfl rfl rfl rfl (by kernel_rfl) Try.func4 (by kernel_rfl)
    (of_decide_eq_true (by kernel_rfl)) (by unfold Func.isWrapper; first | (rw [if_pos (by decide +kernel)]; kernel_rfl) | (rw [if_neg (by decide +kernel)]; exact ⟨rfl, rfl⟩))
    (fun os started H enc _ => lifted os started H enc)
end Go.Proofs.Ytfjhckjnhnpglaa.fnResolves
namespace Go.Proofs.Ytfjhckjnhnpglaa
theorem fnResolves_holds : Rows.FnResolvesSaid := fnResolves.over
end Go.Proofs.Ytfjhckjnhnpglaa
