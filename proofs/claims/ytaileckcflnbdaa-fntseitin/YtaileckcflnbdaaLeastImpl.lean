/- The least model that goes with chosen values, of the specification (l02Least); conditions: literals of the variables, lengths that fit. -/
import Derived.Test.YtaileckcflnbdaaLeastSem
namespace Go.Proofs.Ytaileckcflnbdaa.leastImpl
open Go.RowKit Go.Deep base copy rowsOwn runL leastSem
open runS (ValRow setV openN open_set open_le)
set_option linter.unusedVariables false

def valsL (V : Nat → Int) (n : Nat) : List Int := (List.range n).map V
theorem vals_len (V : Nat → Int) (n : Nat) : (valsL V n).length = n := by simp [valsL]
theorem vals_at (V : Nat → Int) {n i : Nat} (h : i < n) : (valsL V n)[i]?.getD 0 = V i := by simp [valsL, h]
theorem vals_news {w : World} {b n : Nat} {V : Nat → Int} (h : ValRow w b n V) : ∀ i u, ((valsL V n).map (Value.int .i64))[i]? = some u → w.cell? ((⟨b, 0, none⟩ : Addr).add i) = some u := fun i u hu => by
  have hi : i < n := by
    have := (List.getElem?_eq_some_iff.1 hu).1
    simpa [valsL] using this
  have e : (⟨b, 0, none⟩ : Addr).add i = ⟨b, 0 + i, none⟩ := by unfold Addr.add; split <;> simp_all
  rw [e, Nat.zero_add, (h.cell i hi).1]
  rw [← hu]
  simp [valsL, hi]
theorem vals_own {B g n c : Nat} {w : World} {V : Nat → Int} (h : OwnInts B w (.slice (some ⟨g, 0, none⟩) n c) (valsL V n)) (hr : Rng V n) : ValRow w g n V :=
  ⟨fun i hi => by
    obtain ⟨h1, h2⟩ := (own_holds h).2 i hi
    rw [Nat.zero_add, vals_at V hi] at h1
    rw [Nat.zero_add] at h2
    exact ⟨h1, h2⟩, hr⟩
theorem one_ints (zs : List Int) : ∀ u ∈ zs.map (Value.int .i64), u.oneCell' = true := fun u hu => by
  obtain ⟨z, _, rfl⟩ := List.mem_map.1 hu
  rfl
/-- How it ends: with the least model in a row of its own, or none is. -/
def LEnds (Z : List (List Int)) (n : Nat) (V : Nat → Int) (w : World) (e : Ending) (w' : World) : Prop :=
  (∃ g c M, e = .returned (.tuple #[.slice (some ⟨g, 0, none⟩) n c, .bool true]) ∧ ValRow w' g n M ∧ Least Z n V M ∧ Below w.heap.size w w') ∨ (e = .returned (.tuple #[.slice none 0 0, .bool false]) ∧ None_ Z n V ∧ Below w.heap.size w w')
set_option maxRecDepth 100000 in
set_option maxHeartbeats 6400000 in
theorem least_spec (B n : Nat) (a : Option Addr) (len cap : Nat) (psZ : List (Value × List Int)) (hn1 : 1 ≤ n) (hn : n ≤ 41) (hl : Lits (psZ.map (·.2)) n) :
    ∀ (m b c : Nat) (V : Nat → Int) (w : World), openN V n < m → OwnRows B w (.slice a len cap) psZ → ValRow w b n V →
      Calls Try.prog 28 #[.slice a len cap, .slice (some ⟨b, 0, none⟩) n c] w fun e w' => LEnds (psZ.map (·.2)) n V w e w' := by
  obtain ⟨i0, hi, hzz⟩ := Option.map_eq_some_iff.1 Try.info_int
  simp only [Prod.mk.injEq] at hzz
  obtain ⟨hz0, hz1, hz2⟩ := hzz
  have HI := hid hi
  have HZ0 := hid hz0
  have HZ1 := hid hz1
  have HZ2 := hid hz2
  clear hi hz0 hz1 hz2
  have HLi := hid hl
  obtain ⟨Z, hZ⟩ : ∃ Z, psZ.map (·.2) = Z := ⟨_, rfl⟩
  rw [hZ] at HLi ⊢
  have HZe := hid hZ
  clear hl hZ
  intro m
  induction m with
  | zero => intro b c V w h; exact absurd h (Nat.not_lt_zero _)
  | succ m ih =>
    intro b c V w hop hrows hv
    have HIh := hid ih
    have HOp := hid hop
    have HRows := hid hrows
    have HNews := hid (fun o => vals_news (vals_keep hv ((show Below w.heap.size w (w.alloc o) from (by repeat (first | exact Below.refl _ _ | assumption | refine Below.drew ?_ | refine Below.alloc ?_ (by first | exact Nat.le_refl _ | omega | (simp; done) | (simp; omega)) _ | refine Below.setCell ?_ (by first | exact Nat.le_refl _ | omega | (simp; done) | (simp; omega)) _))).block b (World.block_lt_of_cell? _ _ (hv.cell 0 (by omega)).1))))
    have HRng := hid hv.range
    clear ih hop hrows hv
    go_enter Try.func28, Try.ntmps28
    go_wp2_with (at_builtin; (refine wpList_append_own _ rfl _ _ 30 rfl w.heap.size 3 i0 (.int .i64 0) 1 8 Try.underlying30 HI.out HZ0.out HZ1.out HZ2.out rfl (by decide) _ _ _ rfl (cnfDraw.own_new w rfl (Nat.le_refl _)) ⟨b, 0, none⟩ n c ((valsL V n).map (.int .i64)) rfl (by rw [List.length_map, vals_len, Nat.mul_one]) (HNews.out _) (one_ints _) (by unfold maxLen; omega) (by omega) (by simp) ?_); intro v1 w1 hown1 hg1 hnil1)
    have hba : Below w.heap.size w (w.alloc (.cells #[] 3)) := (by repeat (first | exact Below.refl _ _ | assumption | refine Below.drew ?_ | refine Below.alloc ?_ (by first | exact Nat.le_refl _ | omega | (simp; done) | (simp; omega)) _ | refine Below.setCell ?_ (by first | exact Nat.le_refl _ | omega | (simp; done) | (simp; omega)) _))
    have HB1 : Hid (Below w.heap.size w w1) := hid (hba.grown hg1 hba.size (fun j e => by have e' : some w.heap.size = some j := e; injection e' with e'; omega))
    have HO1 : Hid (OwnInts w.heap.size w1 v1 (valsL V n)) := hid (by
      unfold OwnInts
      rw [vals_len]
      simpa using hown1)
    obtain ⟨vb, vc, hv1, hvb, hvl⟩ : ∃ g c, v1 = .slice (some ⟨g, 0, none⟩) n c ∧ w.heap.size ≤ g ∧ g < w1.heap.size := by
      rcases HO1.out.2 with ⟨e, h0⟩ | ⟨g, cp, cur, e, h1, h2, _⟩
      · rw [vals_len] at h0; omega
      · rw [vals_len] at e
        exact ⟨g, cp, e, h1, (Array.getElem?_eq_some_iff.1 h2).1⟩
    subst hv1
    have hvr1 := vals_own HO1.out HRng.out
    have HRun := hid (run_spec a len cap vb n vc Z V w1 (fun w' hg => by
      rw [← HZe.out]
      exact rows_of_own (HRows.out.below (HB1.out.grown hg HB1.out.size (fun j e => by injection e with e; omega)))) hvr1 hvl (fun zs' hz' z hz => (HLi.out zs' hz' z hz).2) hn)
    have HSn : Hid (∀ M', Mod Z n M' → Ext V M' n → (runF (n + 1) Z V []).2.1 = -1 ∧ Ext (runF (n + 1) Z V []).2.2 M' n) := hid (fun M' h1 h2 => run_sound HLi.out _ _ _ M' h1 h2)
    have HSa : Hid (∀ i, V i ≠ 0 → (runF (n + 1) Z V []).2.2 i = V i) := hid (fun i h => run_same _ _ _ i h)
    have HRg : Hid (Rng (runF (n + 1) Z V []).2.2 n) := hid (run_rng _ _ _ HRng.out)
    have HOn : Hid ((runF (n + 1) Z V []).2.1 < 0 → ∀ c ∈ Z, (runS.clS (runF (n + 1) Z V []).2.2 c 0 0).1 = true ∨ (runS.clS (runF (n + 1) Z V []).2.2 c 0 0).2.1 ≠ 0) := hid (run_open HLi.out _ _ _ (by have := open_most V n; omega))
    have HOl : Hid (openN (runF (n + 1) Z V []).2.2 n ≤ openN V n) := hid (open_le n (fun i _ h => by rw [run_same _ _ _ i h]; exact h))
    generalize runF (n + 1) Z V [] = R at *
    obtain ⟨Ro, Ra, V'⟩ := R
    simp only at HRun HSn HSa HRg HOn HOl
    clear hown1 hg1 hnil1 hba hvr1 HNews HO1
    go_wp2_with fail
    refine HRun.out.mono ?_
    rintro e w2 ⟨ov, rfl, -, hv2, hg2⟩
    have HB2 : Hid (Below w.heap.size w w2) := hid (HB1.out.grown hg2 HB1.out.size (fun j e => by injection e with e; omega))
    have HV2 := hid hv2
    have hvl2 : vb < w2.heap.size := Nat.lt_of_lt_of_le hvl hg2.size
    clear hv2 hg2 HRun
    by_cases hat : 0 ≤ Ra
    · go_wp2
      go_ret2
      exact .inr ⟨rfl, (fun M' h1 h2 => by have := (HSn.out M' h1 h2).1; omega), HB2.out⟩
    · have hat' : ¬ (0 : Int) ≤ Ra := hat
      have HOn2 := hid (HOn.out (by omega))
      go_wp2
      go_loop [9] (fun i => ∃ q : Nat, 1 ≤ q ∧ q ≤ n ∧ i = .int .i64 q ∧ ∀ j, 1 ≤ j → j < q → V' j ≠ 0) (fun i => n - (intOf i).toNat)
      case atStart => exact ⟨1, Nat.le_refl _, hn1, rfl, (fun j h1 h2 => by omega)⟩
      case round =>
        obtain ⟨q, hq1, hq2, rfl, hbf⟩ := hrel
        have HBf := hid hbf
        clear hbf
        by_cases hlt : q < n
        · obtain ⟨hc, hf⟩ := HV2.out.cell q hlt
          have hqi : (q : Int) < (n : Int) := by omega
          by_cases hv0 : V' q = 0
          · rw [hv0] at hc
            have HV0 := hid hv0
            have HLow : Hid (ValRow (w2.setCell ⟨vb, q, none⟩ (.int .i64 (-1))) vb n (setV V' (-(q : Int)))) := hid (by
              have h9 := HV2.out.set (z := -(q : Int))
              rw [if_neg (by omega)] at h9
              have e9 : (-(q : Int)).natAbs = q := by omega
              rw [e9] at h9
              exact h9)
            have HB3 : Hid (Below w.heap.size w (w2.setCell ⟨vb, q, none⟩ (.int .i64 (-1)))) := hid (HB2.out.setCell (by show w.heap.size ≤ vb; exact hvb) _)
            have hvl3 : vb < (w2.setCell ⟨vb, q, none⟩ (.int .i64 (-1))).heap.size := by simpa [World.setCell] using hvl2
            have HI1 := hid (HIh.out vb vc (setV V' (-(q : Int))) _ (by
              have h8 := open_set (V := V') (z := -(q : Int)) n (by omega) (by rw [show (-(q : Int)).natAbs = q by omega]; exact HV0.out)
              have := HOp.out
              have := HOl.out
              omega) (HRows.out.below HB3.out) HLow.out)
            clear hv0
            go_wp2_with fail
            obtain ⟨w3, hw3⟩ : ∃ w3, w2.setCell ⟨vb, q, none⟩ (.int .i64 (-1)) = w3 := ⟨_, rfl⟩
            rw [hw3] at HLow HB3 hvl3 HI1 ⊢
            clear hw3
            refine HI1.out.mono ?_
            rintro e w4 (⟨g4, c4, M4, rfl, hv4, hl4, hb4⟩ | ⟨rfl, hno, hb4⟩)
            · have HV4 := hid hv4
              have HL4 := hid (least_low (fun M' h1 h2 => (HSn.out M' h1 h2).2) HSa.out hq1 hlt HBf.out HV0.out hl4)
              have HB4 := hid (HB3.out.trans (hb4.mono HB3.out.size))
              clear hv4 hl4 hb4
              go_wp2
              go_ret2
              exact .inl ⟨g4, c4, M4, rfl, HV4.out, HL4.out, HB4.out⟩
            · have HNo := hid hno
              have HB4 := hid (HB3.out.trans (hb4.mono HB3.out.size))
              have HV4 := hid (vals_keep HLow.out (hb4.block vb hvl3))
              have hvl4 : vb < w4.heap.size := Nat.lt_of_lt_of_le hvl3 hb4.size
              obtain ⟨hc4, hf4⟩ := HV4.out.cell q hlt
              have HHi : Hid (ValRow (w4.setCell ⟨vb, q, none⟩ (.int .i64 1)) vb n (setV V' (q : Int))) := hid (by
                have h9 := HV4.out.set (z := (q : Int))
                rw [if_pos (by omega), Int.natAbs_natCast, set_two] at h9
                exact h9)
              have HB5 : Hid (Below w.heap.size w (w4.setCell ⟨vb, q, none⟩ (.int .i64 1))) := hid (HB4.out.setCell (by show w.heap.size ≤ vb; exact hvb) _)
              have HI2 := hid (HIh.out vb vc (setV V' (q : Int)) _ (by
                have h8 := open_set (V := V') (z := (q : Int)) n (by omega) (by rw [Int.natAbs_natCast]; exact HV0.out)
                have := HOp.out
                have := HOl.out
                omega) (HRows.out.below HB5.out) HHi.out)
              clear hno hb4 HI1
              go_wp2_with fail
              refine HI2.out.mono ?_
              rintro e w6 (⟨g6, c6, M6, rfl, hv6, hl6, hb6⟩ | ⟨rfl, hno6, hb6⟩)
              · have HV6 := hid hv6
                have HL6 := hid (least_high (fun M' h1 h2 => (HSn.out M' h1 h2).2) HSa.out hq1 hlt HV0.out HNo.out hl6)
                have HB6 := hid (HB5.out.trans (hb6.mono HB5.out.size))
                clear hv6 hl6 hb6
                go_wp2
                go_ret2
                exact .inl ⟨g6, c6, M6, rfl, HV6.out, HL6.out, HB6.out⟩
              · have HN6 := hid (none_both (fun M' h1 h2 => (HSn.out M' h1 h2).2) hq1 hlt HNo.out hno6)
                have HB6 := hid (HB5.out.trans (hb6.mono HB5.out.size))
                clear hno6 hb6
                go_wp2
                go_ret2
                exact .inr ⟨rfl, HN6.out, HB6.out⟩
          · have hvq : (V' q == 0) = false := beq_eq_false_iff_ne.2 hv0
            have hvq' : (V' q != 0) = true := by simp [hv0]
            go_wp2
            go_round
            case rel => exact ⟨q + 1, by omega, by omega, by go_num, fun j h1 h2 => by
              rcases Nat.lt_or_ge j q with h3 | h3
              · exact HBf.out j h1 h3
              · have : j = q := by omega
                subst this
                exact hv0⟩
            case measure => simp [intOf]; omega
        · have e : q = n := by omega
          have HW := hid (least_whole (fun M' h1 h2 => (HSn.out M' h1 h2).2) HSa.out (fun i a b => HBf.out i a (by omega)) (whole_model HLi.out HRg.out (fun i a b => HBf.out i a (by omega)) HOn2.out))
          have hqi : ¬ (q : Int) < (n : Int) := by omega
          clear e
          go_wp2
          go_ret2
          exact .inl ⟨vb, vc, V', rfl, HV2.out, HW.out, HB2.out⟩
end Go.Proofs.Ytaileckcflnbdaa.leastImpl
