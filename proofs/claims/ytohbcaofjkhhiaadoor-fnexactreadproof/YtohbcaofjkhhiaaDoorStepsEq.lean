/- Rows of steps of a proof, compared, out of rows that a call owns; conditions: lengths that fit. -/
import Derived.Test.YtohbcaofjkhhiaaDoorReadSpecP
import Derived.Test.YtohbcaofjkhhiaaDoorIntsOwn
import Derived.Laws.ResultCell
import Derived.Deep.RegionHeld3
namespace Go.Proofs.YtohbcaofjkhhiaaDoor.stepsEq
open Go.RowKit Go.Deep base copy intsOwn
open readSpecP (Pt pcs OwnSteps Lone strip)
set_option linter.unusedVariables false

theorem bdn {B : Nat} {w w1 : World} (h : Below B w w1) (n : Nat) : Below B w (w1.drewN n) := ⟨h.1, h.2, h.3, h.4, h.5⟩
abbrev St := Bool × List Int
/-- A slice of steps. -/
structure StepRow (w : World) (a : Option Addr) (len : Nat) (ss : List St) : Prop where
  length : ss.length = len
  most : len ≤ maxLen
  cell : ∀ i, i < len → ∃ b off, a = some ⟨b, off, none⟩ ∧ w.cell? ⟨b, off + i * 2, none⟩ = some (.bool (ss[i]?.getD (false, [])).1) ∧
    ∃ a' l' c', w.cell? ⟨b, off + i * 2 + 1, none⟩ = some (.slice a' l' c') ∧ IntRow w a' l' (ss[i]?.getD (false, [])).2
theorem StepRow.below {W w1 : World} {a : Option Addr} {len : Nat} {ss : List St} (h : StepRow W a len ss) (hb : Below W.heap.size W w1) : StepRow w1 a len ss :=
  ⟨h.length, h.most, fun i hi => by
    obtain ⟨b, off, e, h1, a', l', c', hc, hr⟩ := h.cell i hi
    exact ⟨b, off, e, keep hb h1, a', l', c', keep hb hc, hr.below hb⟩⟩

set_option maxHeartbeats 400000 in
theorem eqStep (d d' : Bool) (a a' : Option Addr) (len len' cap cap' : Nat) (zs ys : List Int) (w : World) (hr : IntRow w a len zs) (hr' : IntRow w a' len' ys) :
    Calls Tryd.prog 16 #[.agg #[.bool d, .slice a len cap], .agg #[.bool d', .slice a' len' cap']] w fun e w' => e = .returned (.bool (decide (d = d' ∧ zs = ys))) ∧ Below w.heap.size w w' := by
  by_cases hv : d = d'
  · have hb : (d == d') = true := by simp [hv]
    have HV := hid hv
    clear hv
    go_enter Tryd.func16, Tryd.ntmps16
    go_wp2_with fail
    refine (eqIntS a a' len len' cap cap' zs ys _ (hr.below (by repeat (first | exact Below.refl _ _ | assumption | refine Below.drew ?_ | refine Below.alloc ?_ (by first | exact Nat.le_refl _ | omega | (simp; done) | (simp; omega)) _ | refine Below.setCell ?_ (by first | exact Nat.le_refl _ | omega | (simp; done) | (simp; omega)) _))) (hr'.below (by repeat (first | exact Below.refl _ _ | assumption | refine Below.drew ?_ | refine Below.alloc ?_ (by first | exact Nat.le_refl _ | omega | (simp; done) | (simp; omega)) _ | refine Below.setCell ?_ (by first | exact Nat.le_refl _ | omega | (simp; done) | (simp; omega)) _)))).mono ?_
    rintro e w1 ⟨rfl, n, rfl⟩
    by_cases he : zs = ys
    · have hd : decide (zs = ys) = true := decide_eq_true he
      have HE := hid he
      clear he
      go_wp2
      go_ret
      exact ⟨ret_bool (decide_eq_true ⟨HV.out, HE.out⟩).symm, bdn (by repeat (first | exact Below.refl _ _ | assumption | refine Below.drew ?_ | refine Below.alloc ?_ (by first | exact Nat.le_refl _ | omega | (simp; done) | (simp; omega)) _ | refine Below.setCell ?_ (by first | exact Nat.le_refl _ | omega | (simp; done) | (simp; omega)) _)) n⟩
    · have hd : decide (zs = ys) = false := decide_eq_false he
      have HE := hid he
      clear he
      go_wp2
      go_ret
      exact ⟨ret_bool (decide_eq_false (fun h => HE.out h.2)).symm, bdn (by repeat (first | exact Below.refl _ _ | assumption | refine Below.drew ?_ | refine Below.alloc ?_ (by first | exact Nat.le_refl _ | omega | (simp; done) | (simp; omega)) _ | refine Below.setCell ?_ (by first | exact Nat.le_refl _ | omega | (simp; done) | (simp; omega)) _)) n⟩
  · have hb : (d == d') = false := by simp [hv]
    have HV := hid hv
    clear hv
    go_enter Tryd.func16, Tryd.ntmps16
    go_wp2
    go_ret
    exact ⟨ret_bool (decide_eq_false (fun h => HV.out h.1)).symm, (by repeat (first | exact Below.refl _ _ | assumption | refine Below.drew ?_ | refine Below.alloc ?_ (by first | exact Nat.le_refl _ | omega | (simp; done) | (simp; omega)) _ | refine Below.setCell ?_ (by first | exact Nat.le_refl _ | omega | (simp; done) | (simp; omega)) _))⟩

set_option maxHeartbeats 1600000 in
set_option maxRecDepth 8000 in
theorem eqStepS (a a' : Option Addr) (len cap cap' : Nat) (ss : List St) (w : World) (hr : StepRow w a len ss) (hr' : StepRow w a' len ss) :
    Calls Tryd.prog 6 #[.slice a len cap, .slice a' len cap'] w fun e w' => e = .returned (.bool true) ∧ Below w.heap.size w w' := by
  obtain ⟨hlen, hmost, hcell⟩ := hr
  obtain ⟨hlen', hmost', hcell'⟩ := hr'
  unfold maxLen at hmost hmost'
  have HC := hid hcell
  have HC' := hid hcell'
  clear hcell hcell' hlen hlen' hmost'
  have hb : ((len : Int) != (len : Int)) = false := by simp
  go_enter Tryd.func6, Tryd.ntmps6
  go_wp2
  go_loopw [5] (fun i wr => ∃ k : Nat, k ≤ len ∧ i = .int .i64 k ∧ Below w.heap.size w wr) (fun i _ => len - (intOf i).toNat)
  case atStart => exact ⟨0, Nat.zero_le _, rfl, Below.refl _ _⟩
  case round =>
    obtain ⟨k, hk, rfl, hbel⟩ := hrel
    have HB := hid hbel
    by_cases hlt : k < len
    · obtain ⟨b, off, rfl, hd, x, l, c, hc, hx⟩ := HC.out k hlt
      obtain ⟨b', off', rfl, hd', x', l', c', hc', hx'⟩ := HC'.out k hlt
      replace hd := keep hbel hd
      replace hc := keep hbel hc
      replace hd' := keep hbel hd'
      replace hc' := keep hbel hc'
      have HX := hid (hx.below hbel)
      have HX' := hid (hx'.below hbel)
      clear hx hx' hbel
      generalize (ss[k]?.getD (false, [])).1 = d at *
      generalize (ss[k]?.getD (false, [])).2 = zs at *
      go_wp2_with fail
      have HK : Hid (∀ w8 : World, Below wr.heap.size wr w8 → w8.cell? ⟨b, off + k * 2, none⟩ = some (.bool d) ∧ w8.cell? ⟨b, off + k * 2 + 1, none⟩ = some (.slice x l c) ∧ w8.cell? ⟨b', off' + k * 2, none⟩ = some (.bool d) ∧ w8.cell? ⟨b', off' + k * 2 + 1, none⟩ = some (.slice x' l' c') ∧ Below wr.heap.size wr w8) :=
        fun w8 h => ⟨keep h hd, keep h hc, keep h hd', keep h hc', h⟩
      clear hd hc hd' hc'
      go_region_held3 (fun w8 => w8.cell? ⟨b, off + k * 2, none⟩ = some (.bool d) ∧ w8.cell? ⟨b, off + k * 2 + 1, none⟩ = some (.slice x l c) ∧ w8.cell? ⟨b', off' + k * 2, none⟩ = some (.bool d) ∧ w8.cell? ⟨b', off' + k * 2 + 1, none⟩ = some (.slice x' l' c') ∧ Below wr.heap.size wr w8)
        (refine HK.out _ (by first | assumption | exact (Below.refl _ wr).drew | exact hb57))
        ((go_at_call 16; refine (eqStep d d _ _ _ _ _ _ zs zs _ (HX.out.below (Below.refl _ wr).drew) (HX'.out.below (Below.refl _ wr).drew)).mono ?_; rintro e w7 ⟨rfl, hb7⟩; have hb57 : Below wr.heap.size wr w7 := ((Below.refl _ wr).drew).trans hb7; clear hb7))
      all_goals
        have hd : decide (d = d ∧ zs = zs) = true := decide_eq_true ⟨rfl, rfl⟩
        have HB5 := hid hb57
        clear hb57
        go_wp2
        go_roundw
        case rel => exact ⟨k + 1, by omega, by go_num, HB.out.trans (HB5.out.mono HB.out.size)⟩
        case measure => simp [intOf]; omega
    · have e : k = len := by omega
      subst e
      clear hbel
      go_wp2
      go_ret
      exact ⟨rfl, HB.out⟩

theorem flat_get : ∀ (ps : List Pt) (k : Nat) (p : Pt), ps[k]? = some p → (ps.flatMap pcs)[k * 2]? = some (.bool p.1) ∧ (ps.flatMap pcs)[k * 2 + 1]? = some p.2.1
  | [], k, p, h => by simp at h
  | q :: ps, 0, p, h => by
    simp at h
    subst h
    simp [pcs]
  | q :: ps, k + 1, p, h => by
    have ih := flat_get ps k p (by simpa using h)
    rw [show (k + 1) * 2 = k * 2 + 2 by omega, show k * 2 + 2 + 1 = k * 2 + 1 + 2 by omega]
    simpa [pcs] using ih
theorem flat_set : ∀ (ps : List Pt) (k : Nat) (p : Pt) (d : Bool) (ys : List Int), ps[k]? = some p → (ps.set k (d, p.2.1, ys)).flatMap pcs = (ps.flatMap pcs).set (k * 2) (.bool d)
  | [], k, p, d, ys, h => by simp at h
  | q :: ps, 0, p, d, ys, h => by
    simp at h
    subst h
    simp [pcs]
  | q :: ps, k + 1, p, d, ys, h => by
    have ih := flat_set ps k p d ys (by simpa using h)
    rw [show (k + 1) * 2 = k * 2 + 1 + 1 by omega]
    simp [pcs, ih]
theorem steps_len {B n c : Nat} {w : World} {a : Option Addr} {ps : List Pt} (h : OwnSteps B w (.slice a n c) ps) : ps.length = n := by
  rcases h.outer.2 with ⟨e, h0⟩ | ⟨g', c', cur, e, _⟩
  · injection e with _ e _; omega
  · injection e with _ e _; exact e.symm
theorem steps_cell {B g n c j : Nat} {w : World} {ps : List Pt} (h : OwnSteps B w (.slice (some ⟨g, 0, none⟩) n c) ps) (hj : j < n) : ∃ p, ps[j]? = some p ∧ w.cell? ⟨g, j * 2, none⟩ = some (.bool p.1) ∧ w.cell? ⟨g, j * 2 + 1, none⟩ = some p.2.1 ∧ w.frozen? ⟨g, j * 2, none⟩ = false ∧ OwnInts B w p.2.1 p.2.2 := by
  have hl := steps_len h
  have hjc : j < ps.length := by omega
  refine ⟨ps[j], List.getElem?_eq_getElem hjc, ?_⟩
  obtain ⟨f1, f2⟩ := flat_get ps j ps[j] (List.getElem?_eq_getElem hjc)
  rcases h.outer.2 with ⟨e, _⟩ | ⟨g', cap, cur, e, _, hh, _, _, hs, ht⟩
  · cases e
  · have eg : g = g' := by injection e with e; injection e with e; injection e
    subst eg
    have h3 : ∀ i, i < ps.length * 2 → cur[i]? = (ps.flatMap pcs)[i]? := fun i hi => by
      rw [← ht, List.getElem?_take, if_pos hi, Array.getElem?_toList]
    exact ⟨by simp [World.cell?, hh, h3 (j * 2) (by omega), f1], by simp [World.cell?, hh, h3 (j * 2 + 1) (by omega), f2], by simp [World.frozen?, hh], h.inner _ (List.getElem_mem hjc)⟩
/-- Such a row, read by its cells. -/
theorem row_of_steps {B : Nat} {w : World} {v : Value} {ps : List Pt} {ss : List St} (h : OwnSteps B w v ps) (hs : ps.map strip = ss) : ∃ a c, v = .slice a ss.length c ∧ StepRow w a ss.length ss := by
  have hl : ss.length = ps.length := by rw [← hs, List.length_map]
  rcases h.outer.2 with ⟨e, h0⟩ | ⟨g, cap, cur, e, _, hh, hn, hm, _⟩
  · rw [hl, h0]
    exact ⟨none, 0, e, ⟨by omega, by unfold maxLen; omega, fun i hi => absurd hi (Nat.not_lt_zero _)⟩⟩
  · subst e
    rw [hl]
    refine ⟨_, cap, rfl, ⟨hl, Nat.le_trans hn hm, fun i hi => ?_⟩⟩
    obtain ⟨p, hp, c0, c1, _, hi2⟩ := steps_cell h hi
    obtain ⟨a', c', e', hr⟩ := hi2.form
    have hsi : ss[i]?.getD (false, []) = (p.1, p.2.2) := by rw [← hs, List.getElem?_map, hp]; rfl
    refine ⟨g, 0, rfl, ?_, a', p.2.2.length, c', ?_, ?_⟩
    · rw [hsi]; simpa using c0
    · rw [← e']; simpa using c1
    · rw [hsi]; exact hr
end Go.Proofs.YtohbcaofjkhhiaaDoor.stepsEq
