/- Rows of steps of a proof: the laws' own helpers that count, copy and compare them; conditions: lengths that fit. -/
import Derived.Test.YtolejaegnkcjjaaGreatDoorPart5
import Derived.Laws.ResultCell
import Derived.Deep.RegionHeld3
namespace Go.Proofs.YtolejaegnkcjjaaGreatDoor.steps
open Go.RowKit Go.Deep base copy cnf
set_option linter.unusedVariables false

abbrev St := Bool × List Int
/-- A slice of steps. -/
structure StepRow (w : World) (a : Option Addr) (len : Nat) (ss : List St) : Prop where
  length : ss.length = len
  most : len ≤ maxLen
  cell : ∀ i, i < len → ∃ b off, a = some ⟨b, off, none⟩ ∧ w.cell? ⟨b, off + i * 2, none⟩ = some (.bool (ss[i]?.getD (false, [])).1) ∧
    ∃ a' l' c', w.cell? ⟨b, off + i * 2 + 1, none⟩ = some (.slice a' l' c') ∧ IntRow w a' l' (ss[i]?.getD (false, [])).2
theorem StepRow.below {W w1 : World} {a : Option Addr} {len : Nat} {ss : List St} (h : StepRow W a len ss) (hb : Below W.heap.size W w1) : StepRow w1 a len ss :=
  ⟨h.length, h.most, fun i hi => by
    obtain ⟨b, off, e, h1, a', l', c', hc, hr⟩ := h.cell i hi
    exact ⟨b, off, e, keep hb h1, a', l', c', keep hb hc, hr.below hb⟩⟩

theorem intRow_set {w : World} {M : Nat} {l : Nat} {zs : List Int} (h : IntRow w (some ⟨M, 0, none⟩) l zs) {a : Addr} (ha : a.block ≠ M) (v : Value) : IntRow (w.setCell a v) (some ⟨M, 0, none⟩) l zs :=
  ⟨h.length, h.most, fun i hi => by
    obtain ⟨b, off, e, hc⟩ := h.cell i hi
    simp at e
    obtain ⟨rfl, rfl⟩ := e
    exact ⟨_, _, rfl, (World.cell?_setCell_other _ _ _ _ (by intro h; rw [h] at ha; exact ha rfl)).trans hc⟩⟩

/-- A row of steps in block N of its own, of which the first k are laid. -/
structure Laid (w : World) (N len k : Nat) (ss : List St) : Prop where
  row : ∃ f, w.rowIs N 50 (len * 2) f ∧ ∀ i, i < k → f (i * 2) = .bool (ss[i]?.getD (false, [])).1 ∧ ∃ M l, f (i * 2 + 1) = .slice (some ⟨M, 0, none⟩) l l ∧ N < M ∧ IntRow w (some ⟨M, 0, none⟩) l (ss[i]?.getD (false, [])).2
theorem Laid.steps {w : World} {N len : Nat} {ss : List St} (h : Laid w N len len ss) (hl : ss.length = len) (hm : len ≤ maxLen) : StepRow w (some ⟨N, 0, none⟩) len ss := by
  obtain ⟨f, hf, hc⟩ := h.row
  refine ⟨hl, hm, fun i hi => ?_⟩
  obtain ⟨h1, M, l, h2, hM, hr⟩ := hc i hi
  refine ⟨N, 0, rfl, ?_, some ⟨M, 0, none⟩, l, l, ?_, hr⟩
  · rw [← h1]; simpa using hf.cell (i := i * 2) (by omega)
  · rw [← h2]; simpa using hf.cell (i := i * 2 + 1) (by omega)
theorem Laid.below {w w1 : World} {N len k : Nat} {ss : List St} (h : Laid w N len k ss) (hb : Below w.heap.size w w1) : Laid w1 N len k ss := by
  obtain ⟨f, hf, hc⟩ := h.row
  refine ⟨f, hf.of_block (hb.block _ hf.lt), fun i hi => ?_⟩
  obtain ⟨h1, M, l, h2, hM, hr⟩ := hc i hi
  exact ⟨h1, M, l, h2, hM, hr.below hb⟩
theorem Laid.next {w : World} {N len k M l : Nat} {ss : List St} (h : Laid w N len k ss) (hk : k < len) (hN : N < M) (hr : IntRow w (some ⟨M, 0, none⟩) l (ss[k]?.getD (false, [])).2) :
    Laid ((w.setCell ⟨N, k * 2, none⟩ (.bool (ss[k]?.getD (false, [])).1)).setCell ⟨N, k * 2 + 1, none⟩ (.slice (some ⟨M, 0, none⟩) l l)) N len (k + 1) ss := by
  obtain ⟨f, hf, hc⟩ := h.row
  refine ⟨_, (hf.set (k * 2) _).set (k * 2 + 1) _, fun i hi => ?_⟩
  by_cases e : i = k
  · subst e
    refine ⟨by rw [if_neg (by omega), if_pos rfl], M, l, by rw [if_pos rfl], hN, ?_⟩
    exact intRow_set (intRow_set hr (by simp; omega) _) (by simp; omega) _
  · obtain ⟨h1, M', l', h2, hM, hr'⟩ := hc i (by omega)
    refine ⟨by rw [if_neg (by omega), if_neg (by omega)]; exact h1, M', l', by rw [if_neg (by omega), if_neg (by omega)]; exact h2, hM, ?_⟩
    exact intRow_set (intRow_set hr' (by simp; omega) _) (by simp; omega) _

set_option maxHeartbeats 400000 in
theorem eqStep (d d' : Bool) (a a' : Option Addr) (len len' cap cap' : Nat) (zs ys : List Int) (w : World) (hr : IntRow w a len zs) (hr' : IntRow w a' len' ys) :
    Calls Tryz.prog 32 #[.agg #[.bool d, .slice a len cap], .agg #[.bool d', .slice a' len' cap']] w fun e w' => e = .returned (.bool (decide (d = d' ∧ zs = ys))) ∧ Below w.heap.size w w' := by
  by_cases hv : d = d'
  · have hb : (d == d') = true := by simp [hv]
    have HV := hid hv
    clear hv
    go_enter Tryz.func32, Tryz.ntmps32
    go_wp2_with fail
    refine (eqIntS a a' len len' cap cap' zs ys _ (hr.below (by repeat (first | exact Below.refl _ _ | assumption | refine Below.drew ?_ | refine Below.alloc ?_ (by first | exact Nat.le_refl _ | omega | (simp; done) | (simp; omega)) _ | refine Below.setCell ?_ (by first | exact Nat.le_refl _ | omega | (simp; done) | (simp; omega)) _))) (hr'.below (by repeat (first | exact Below.refl _ _ | assumption | refine Below.drew ?_ | refine Below.alloc ?_ (by first | exact Nat.le_refl _ | omega | (simp; done) | (simp; omega)) _ | refine Below.setCell ?_ (by first | exact Nat.le_refl _ | omega | (simp; done) | (simp; omega)) _)))).mono ?_
    rintro e w1 ⟨rfl, n, rfl⟩
    by_cases he : zs = ys
    · have hd : decide (zs = ys) = true := decide_eq_true he
      have HE := hid he
      clear he
      go_wp2
      go_ret
      exact ⟨ret_bool (decide_eq_true ⟨HV.out, HE.out⟩).symm, (show Below _ _ _ from (by repeat (first | exact Below.refl _ _ | assumption | refine Below.drew ?_ | refine Below.alloc ?_ (by first | exact Nat.le_refl _ | omega | (simp; done) | (simp; omega)) _ | refine Below.setCell ?_ (by first | exact Nat.le_refl _ | omega | (simp; done) | (simp; omega)) _))).trans ((below_drewN _ n).mono (by simp; omega))⟩
    · have hd : decide (zs = ys) = false := decide_eq_false he
      have HE := hid he
      clear he
      go_wp2
      go_ret
      exact ⟨ret_bool (decide_eq_false (fun h => HE.out h.2)).symm, (show Below _ _ _ from (by repeat (first | exact Below.refl _ _ | assumption | refine Below.drew ?_ | refine Below.alloc ?_ (by first | exact Nat.le_refl _ | omega | (simp; done) | (simp; omega)) _ | refine Below.setCell ?_ (by first | exact Nat.le_refl _ | omega | (simp; done) | (simp; omega)) _))).trans ((below_drewN _ n).mono (by simp; omega))⟩
  · have hb : (d == d') = false := by simp [hv]
    have HV := hid hv
    clear hv
    go_enter Tryz.func32, Tryz.ntmps32
    go_wp2
    go_ret
    exact ⟨ret_bool (decide_eq_false (fun h => HV.out h.1)).symm, (by repeat (first | exact Below.refl _ _ | assumption | refine Below.drew ?_ | refine Below.alloc ?_ (by first | exact Nat.le_refl _ | omega | (simp; done) | (simp; omega)) _ | refine Below.setCell ?_ (by first | exact Nat.le_refl _ | omega | (simp; done) | (simp; omega)) _))⟩

set_option maxHeartbeats 1600000 in
set_option maxRecDepth 8000 in
theorem eqStepS (a a' : Option Addr) (len cap cap' : Nat) (ss : List St) (w : World) (hr : StepRow w a len ss) (hr' : StepRow w a' len ss) :
    Calls Tryz.prog 12 #[.slice a len cap, .slice a' len cap'] w fun e w' => e = .returned (.bool true) ∧ Below w.heap.size w w' := by
  obtain ⟨hlen, hmost, hcell⟩ := hr
  obtain ⟨hlen', hmost', hcell'⟩ := hr'
  unfold maxLen at hmost hmost'
  have HC := hid hcell
  have HC' := hid hcell'
  clear hcell hcell' hlen hlen' hmost'
  have hb : ((len : Int) != (len : Int)) = false := by simp
  go_enter Tryz.func12, Tryz.ntmps12
  go_wp2
  go_loopw [5] (fun i wr => ∃ k : Nat, k ≤ len ∧ i = .int .i64 k ∧ Below w.heap.size w wr) (fun i _ => len - (intOf i).toNat)
  case atStart => exact ⟨0, Nat.zero_le _, rfl, Below.refl _ _⟩
  case round =>
    obtain ⟨k, hk, rfl, hbel⟩ := hrel
    have HB := hid hbel
    by_cases hlt : k < len
    · obtain ⟨b, off, rfl, hd, x, l, c, hc, hx⟩ := HC.out k hlt
      obtain ⟨b', off', rfl, hd', x', l', c', hc', hx'⟩ := HC'.out k hlt
      replace hd := keep hbel hd
      replace hc := keep hbel hc
      replace hd' := keep hbel hd'
      replace hc' := keep hbel hc'
      have HX := hid (hx.below hbel)
      have HX' := hid (hx'.below hbel)
      clear hx hx' hbel
      generalize (ss[k]?.getD (false, [])).1 = d at *
      generalize (ss[k]?.getD (false, [])).2 = zs at *
      go_wp2_with fail
      have HK : Hid (∀ w8 : World, Below wr.heap.size wr w8 → w8.cell? ⟨b, off + k * 2, none⟩ = some (.bool d) ∧ w8.cell? ⟨b, off + k * 2 + 1, none⟩ = some (.slice x l c) ∧ w8.cell? ⟨b', off' + k * 2, none⟩ = some (.bool d) ∧ w8.cell? ⟨b', off' + k * 2 + 1, none⟩ = some (.slice x' l' c') ∧ Below wr.heap.size wr w8) :=
        fun w8 h => ⟨keep h hd, keep h hc, keep h hd', keep h hc', h⟩
      clear hd hc hd' hc'
      go_region_held3 (fun w8 => w8.cell? ⟨b, off + k * 2, none⟩ = some (.bool d) ∧ w8.cell? ⟨b, off + k * 2 + 1, none⟩ = some (.slice x l c) ∧ w8.cell? ⟨b', off' + k * 2, none⟩ = some (.bool d) ∧ w8.cell? ⟨b', off' + k * 2 + 1, none⟩ = some (.slice x' l' c') ∧ Below wr.heap.size wr w8)
        (refine HK.out _ (by first | assumption | exact (Below.refl _ wr).drew | exact hb57))
        ((go_at_call 32; refine (eqStep d d _ _ _ _ _ _ zs zs _ (HX.out.below (Below.refl _ wr).drew) (HX'.out.below (Below.refl _ wr).drew)).mono ?_; rintro e w7 ⟨rfl, hb7⟩; have hb57 : Below wr.heap.size wr w7 := ((Below.refl _ wr).drew).trans hb7; clear hb7))
      all_goals
        have hd : decide (d = d ∧ zs = zs) = true := decide_eq_true ⟨rfl, rfl⟩
        have HB5 := hid hb57
        clear hb57
        go_wp2
        go_roundw
        case rel => exact ⟨k + 1, by omega, by go_num, HB.out.trans (HB5.out.mono HB.out.size)⟩
        case measure => simp [intOf]; omega
    · have e : k = len := by omega
      subst e
      clear hbel
      go_wp2
      go_ret
      exact ⟨rfl, HB.out⟩
end Go.Proofs.YtolejaegnkcjjaaGreatDoor.steps
