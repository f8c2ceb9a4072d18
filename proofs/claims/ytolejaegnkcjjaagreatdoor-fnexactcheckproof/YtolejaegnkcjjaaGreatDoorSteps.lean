/- Rows of steps of a proof: the laws' own helpers that count, copy and compare them; conditions: lengths that fit. -/
import Derived.Test.YtolejaegnkcjjaaGreatDoorPart2
import Derived.Laws.ResultCell
import Derived.Deep.RegionHeld3
namespace Go.Proofs.YtolejaegnkcjjaaGreatDoor.steps
open Go.RowKit Go.Deep base copy cnf
set_option linter.unusedVariables false

abbrev St := Bool × List Int
/-- A slice of steps. -/
structure StepRow (w : World) (a : Option Addr) (len : Nat) (ss : List St) : Prop where
  length : ss.length = len
  most : len ≤ maxLen
  cell : ∀ i, i < len → ∃ b off, a = some ⟨b, off, none⟩ ∧ w.cell? ⟨b, off + i * 2, none⟩ = some (.bool (ss[i]?.getD (false, [])).1) ∧
    ∃ a' l' c', w.cell? ⟨b, off + i * 2 + 1, none⟩ = some (.slice a' l' c') ∧ IntRow w a' l' (ss[i]?.getD (false, [])).2
theorem StepRow.below {W w1 : World} {a : Option Addr} {len : Nat} {ss : List St} (h : StepRow W a len ss) (hb : Below W.heap.size W w1) : StepRow w1 a len ss :=
  ⟨h.length, h.most, fun i hi => by
    obtain ⟨b, off, e, h1, a', l', c', hc, hr⟩ := h.cell i hi
    exact ⟨b, off, e, keep hb h1, a', l', c', keep hb hc, hr.below hb⟩⟩

theorem intRow_set {w : World} {M : Nat} {l : Nat} {zs : List Int} (h : IntRow w (some ⟨M, 0, none⟩) l zs) {a : Addr} (ha : a.block ≠ M) (v : Value) : IntRow (w.setCell a v) (some ⟨M, 0, none⟩) l zs :=
  ⟨h.length, h.most, fun i hi => by
    obtain ⟨b, off, e, hc⟩ := h.cell i hi
    simp at e
    obtain ⟨rfl, rfl⟩ := e
    exact ⟨_, _, rfl, (World.cell?_setCell_other _ _ _ _ (by intro h; rw [h] at ha; exact ha rfl)).trans hc⟩⟩

set_option maxHeartbeats 400000 in
theorem szStep (d : Bool) (a : Option Addr) (len cap : Nat) (left : Int) (w : World) (hm : len ≤ maxLen) (h0 : 0 ≤ left) (h1 : left ≤ 1048576) :
    Calls Tryz.prog 19 #[.agg #[.bool d, .slice a len cap], .int .i64 left] w fun e w' => e = .returned (.int .i64 (if left < len then -1 else left - len)) ∧ Below w.heap.size w w' := by
  by_cases h : left < (len : Int)
  · rw [if_pos h]
    go_enter Tryz.func19, Tryz.ntmps19
    go_wp2_with fail
    refine (szIntS a len cap left _ hm h0 h1).mono ?_
    rintro e w1 ⟨rfl, rfl⟩
    rw [if_pos h]
    go_wp2
    go_ret
    exact ⟨rfl, (by repeat (first | exact Below.refl _ _ | assumption | refine Below.drew ?_ | refine Below.alloc ?_ (by first | exact Nat.le_refl _ | omega | (simp; done) | (simp; omega)) _ | refine Below.setCell ?_ (by first | exact Nat.le_refl _ | omega | (simp; done) | (simp; omega)) _))⟩
  · rw [if_neg h]
    go_enter Tryz.func19, Tryz.ntmps19
    go_wp2_with fail
    refine (szIntS a len cap left _ hm h0 h1).mono ?_
    rintro e w1 ⟨rfl, rfl⟩
    rw [if_neg (by omega)]
    go_wp2
    go_ret
    exact ⟨rfl, (by repeat (first | exact Below.refl _ _ | assumption | refine Below.drew ?_ | refine Below.alloc ?_ (by first | exact Nat.le_refl _ | omega | (simp; done) | (simp; omega)) _ | refine Below.setCell ?_ (by first | exact Nat.le_refl _ | omega | (simp; done) | (simp; omega)) _))⟩

set_option maxHeartbeats 800000 in
theorem szStepS (a : Option Addr) (len cap : Nat) (ss : List St) (left : Int) (w : World) (hr : StepRow w a len ss) (h0 : 0 ≤ left) (h1 : left ≤ 1048576) :
    Calls Tryz.prog 6 #[.slice a len cap, .int .i64 left] w fun e w' => ∃ r : Int, e = .returned (.int .i64 r) ∧ Below w.heap.size w w' ∧ -1 ≤ r ∧ r ≤ left ∧ (0 ≤ r → (len : Int) ≤ left ∧ ∀ i, i < len → ((ss[i]?.getD (false, [])).2.length : Int) ≤ left) := by
  obtain ⟨hlen, hmost, hcell⟩ := hr
  unfold maxLen at hmost
  have HC := hid hcell
  clear hcell hlen
  by_cases h : left < (len : Int)
  · go_enter Tryz.func6, Tryz.ntmps6
    go_wp2
    go_ret
    exact ⟨_, rfl, Below.refl _ _, by omega, by omega, by omega⟩
  · go_enter Tryz.func6, Tryz.ntmps6
    go_wp2
    go_loopw [5, 1] (fun i t wr => ∃ (k : Nat) (l : Int), k ≤ len ∧ i = .int .i64 k ∧ t = .int .i64 l ∧ 0 ≤ l ∧ l ≤ left ∧ Below w.heap.size w wr ∧ ∀ j, j < k → ((ss[j]?.getD (false, [])).2.length : Int) ≤ left) (fun i _ _ => len - (intOf i).toNat)
    case atStart => exact ⟨0, left - len, Nat.zero_le _, rfl, rfl, by omega, by omega, Below.refl _ _, by omega⟩
    case round =>
      obtain ⟨k, l, hk, rfl, rfl, hl0, hl1, hbel, ha⟩ := hrel
      have HA := hid ha
      have HB := hid hbel
      clear ha hbel
      by_cases hlt : k < len
      · obtain ⟨b, off, rfl, hd, a', l', c', hc, hrow⟩ := HC.out k hlt
        replace hd := keep HB.out hd
        replace hc := keep HB.out hc
        have hmost' := hrow.most
        have HL := hid hrow.length
        clear hrow
        by_cases hs : l < (l' : Int)
        · go_wp2_with fail
          refine (szStep _ _ _ _ _ _ hmost' hl0 (by omega)).mono ?_
          rintro e w1 ⟨rfl, hb1⟩
          have HB1 := hid (HB.out.trans (hb1.mono HB.out.size))
          clear hb1
          rw [if_pos hs]
          go_wp2
          go_ret
          exact ⟨_, rfl, HB1.out, by omega, by omega, by omega⟩
        · go_wp2_with fail
          refine (szStep _ _ _ _ _ _ hmost' hl0 (by omega)).mono ?_
          rintro e w1 ⟨rfl, hb1⟩
          have HB1 := hid (HB.out.trans (hb1.mono HB.out.size))
          clear hb1
          rw [if_neg (by omega)]
          go_wp2
          go_roundw
          case rel =>
            refine ⟨k + 1, l - l', by omega, by go_num, rfl, by omega, by omega, HB1.out, ?_⟩
            intro j hj
            by_cases e : j = k
            · subst e; rw [HL.out]; omega
            · exact HA.out j (by omega)
          case measure => simp [intOf]; omega
      · have e : k = len := by omega
        subst e
        go_wp2
        go_ret
        refine ⟨l, rfl, HB.out, by omega, by omega, fun _ => ?_⟩
        first | exact ⟨by omega, HA.out⟩ | exact HA.out

set_option maxHeartbeats 400000 in
theorem toStep (d : Bool) (a : Option Addr) (len cap : Nat) (zs : List Int) (w : World) (hr : IntRow w a len zs) (hb : len ≤ 1048576) :
    Calls Tryz.prog 24 #[.agg #[.bool d, .slice a len cap]] w fun e w' => ∃ M, e = .returned (.agg #[.bool d, .slice (some ⟨M, 0, none⟩) len len]) ∧ w.heap.size ≤ M ∧ Below w.heap.size w w' ∧ IntRow w' (some ⟨M, 0, none⟩) len zs := by
  have HR := hid hr
  clear hr
  go_enter Tryz.func24, Tryz.ntmps24
  go_wp2_with fail
  refine (toIntN a len cap zs _ (HR.out.below (by repeat (first | exact Below.refl _ _ | assumption | refine Below.drew ?_ | refine Below.alloc ?_ (by first | exact Nat.le_refl _ | omega | (simp; done) | (simp; omega)) _ | refine Below.setCell ?_ (by first | exact Nat.le_refl _ | omega | (simp; done) | (simp; omega)) _))) hb).mono ?_
  rintro e w1 ⟨M, rfl, hM, hb1, -, hx⟩
  obtain ⟨hc, hf⟩ := bcell hb1
  have hz : w.heap.size + 2 < w1.heap.size := by
    obtain h := hb1.size
    simp at h
    have hx0 : (w.heap.size + 3) ≤ w1.heap.size := by simpa using h
    omega
  have hM' : w.heap.size + 3 ≤ M := by simpa using hM
  have hw0 : Below w.heap.size w w1 := (show Below _ _ _ from (by repeat (first | exact Below.refl _ _ | assumption | refine Below.drew ?_ | refine Below.alloc ?_ (by first | exact Nat.le_refl _ | omega | (simp; done) | (simp; omega)) _ | refine Below.setCell ?_ (by first | exact Nat.le_refl _ | omega | (simp; done) | (simp; omega)) _))).trans (hb1.mono (by simp; omega))
  have HX := hid hx
  have H0 := hid hw0
  have HM := hid hM'
  clear hb1 hx hw0 hM hM'
  go_wp2
  refine bodyPost_ret (v := .agg #[.bool d, .slice (some ⟨M, 0, none⟩) len len]) (by simp [results, Tryz.results24, go_sem, hc]) rfl ⟨M, rfl, by have := HM.out; omega, ?_, ?_⟩
  · exact ((H0.out.setCell (by simp; omega) _).setCell (by simp) _).setCell (by simp) _
  · have := HM.out
    exact intRow_set (intRow_set (intRow_set HX.out (by simp; omega) _) (by simp; omega) _) (by simp; omega) _

/-- A row of steps in block N of its own, of which the first k are laid. -/
structure Laid (w : World) (N len k : Nat) (ss : List St) : Prop where
  row : ∃ f, w.rowIs N 50 (len * 2) f ∧ ∀ i, i < k → f (i * 2) = .bool (ss[i]?.getD (false, [])).1 ∧ ∃ M l, f (i * 2 + 1) = .slice (some ⟨M, 0, none⟩) l l ∧ N < M ∧ IntRow w (some ⟨M, 0, none⟩) l (ss[i]?.getD (false, [])).2
theorem Laid.steps {w : World} {N len : Nat} {ss : List St} (h : Laid w N len len ss) (hl : ss.length = len) (hm : len ≤ maxLen) : StepRow w (some ⟨N, 0, none⟩) len ss := by
  obtain ⟨f, hf, hc⟩ := h.row
  refine ⟨hl, hm, fun i hi => ?_⟩
  obtain ⟨h1, M, l, h2, hM, hr⟩ := hc i hi
  refine ⟨N, 0, rfl, ?_, some ⟨M, 0, none⟩, l, l, ?_, hr⟩
  · rw [← h1]; simpa using hf.cell (i := i * 2) (by omega)
  · rw [← h2]; simpa using hf.cell (i := i * 2 + 1) (by omega)
theorem Laid.below {w w1 : World} {N len k : Nat} {ss : List St} (h : Laid w N len k ss) (hb : Below w.heap.size w w1) : Laid w1 N len k ss := by
  obtain ⟨f, hf, hc⟩ := h.row
  refine ⟨f, hf.of_block (hb.block _ hf.lt), fun i hi => ?_⟩
  obtain ⟨h1, M, l, h2, hM, hr⟩ := hc i hi
  exact ⟨h1, M, l, h2, hM, hr.below hb⟩
theorem Laid.next {w : World} {N len k M l : Nat} {ss : List St} (h : Laid w N len k ss) (hk : k < len) (hN : N < M) (hr : IntRow w (some ⟨M, 0, none⟩) l (ss[k]?.getD (false, [])).2) :
    Laid ((w.setCell ⟨N, k * 2, none⟩ (.bool (ss[k]?.getD (false, [])).1)).setCell ⟨N, k * 2 + 1, none⟩ (.slice (some ⟨M, 0, none⟩) l l)) N len (k + 1) ss := by
  obtain ⟨f, hf, hc⟩ := h.row
  refine ⟨_, (hf.set (k * 2) _).set (k * 2 + 1) _, fun i hi => ?_⟩
  by_cases e : i = k
  · subst e
    refine ⟨by rw [if_neg (by omega), if_pos rfl], M, l, by rw [if_pos rfl], hN, ?_⟩
    exact intRow_set (intRow_set hr (by simp; omega) _) (by simp; omega) _
  · obtain ⟨h1, M', l', h2, hM, hr'⟩ := hc i (by omega)
    refine ⟨by rw [if_neg (by omega), if_neg (by omega)]; exact h1, M', l', by rw [if_neg (by omega), if_neg (by omega)]; exact h2, hM, ?_⟩
    exact intRow_set (intRow_set hr' (by simp; omega) _) (by simp; omega) _

theorem info_step : (Tryz.prog.info? 50).map (fun i => (i.zero, i.size, i.bytes)) = some (some (.agg #[.bool false, .slice none 0 0]), 2, 32) := by kernel_rfl
theorem run_make_steps (n : Nat) (h : n ≤ 1048576) (w : World) :
    (Instr.makeSlice 32 (.int .i64 (n : Int)) (.int .i64 (n : Int))).run Tryz.prog w = .ok (.slice (some ⟨w.heap.size, 0, none⟩) n n) (w.alloc (.cells (madeCells #[.bool false, .slice none 0 0] (n * 2)) 50)) := by
  obtain ⟨i, hi, hzz⟩ := Option.map_eq_some_iff.1 info_step
  simp only [Prod.mk.injEq] at hzz
  obtain ⟨hz, hs, hb⟩ := hzz
  have hr := run_make (P := Tryz.prog) w 32 50 i _ Tryz.underlying32 hi hz .i64 .i64 n n (by omega) (Int.le_refl _) (by rw [hb]; omega) (by omega)
  simp only [Int.toNat_natCast, hs] at hr
  exact hr

set_option maxHeartbeats 800000 in
theorem toStepS (a : Option Addr) (len cap : Nat) (ss : List St) (w : World) (hr : StepRow w a len ss) (hb : len ≤ 1048576) (hi : ∀ i, i < len → (ss[i]?.getD (false, [])).2.length ≤ 1048576) :
    Calls Tryz.prog 9 #[.slice a len cap] w fun e w' => ∃ N, e = .returned (.slice (some ⟨N, 0, none⟩) len len) ∧ w.heap.size ≤ N ∧ Below w.heap.size w w' ∧ StepRow w' (some ⟨N, 0, none⟩) len ss := by
  obtain ⟨hlen, hmost, hcell⟩ := hr
  have HC := hid hcell
  have HI := hid hi
  have HL := hid hlen
  have HM := hid hmost
  clear hcell hlen hi hmost
  have hmk := run_make_steps len hb
  go_enter Tryz.func9, Tryz.ntmps9
  go_wp2
  go_loopw [4] (fun i wr => ∃ k : Nat, k ≤ len ∧ i = .int .i64 k ∧ Below w.heap.size w wr ∧ Laid wr w.heap.size len k ss) (fun i _ => len - (intOf i).toNat)
  case atStart => exact ⟨0, Nat.zero_le _, rfl, (Below.refl _ _).alloc (Nat.le_refl _) _, ⟨fun i => (madeCells #[.bool false, .slice none 0 0] (len * 2))[i]?.getD undef, by
      have := World.rowIs_alloc w (madeCells #[.bool false, .slice none 0 0] (len * 2)) 50 (fun i => (madeCells #[.bool false, .slice none 0 0] (len * 2))[i]?.getD undef) (fun i hi => by rw [Array.getElem?_eq_getElem hi]; rfl)
      rwa [size_madeCells] at this, fun i hi => absurd hi (Nat.not_lt_zero _)⟩⟩
  case round =>
    obtain ⟨k, hk, rfl, hbel, hlaid⟩ := hrel
    have HB := hid hbel
    have HD := hid hlaid
    by_cases hlt : k < len
    · obtain ⟨b, off, rfl, hd, a', l', c', hc, hrow'⟩ := HC.out k hlt
      replace hd := keep hbel hd
      replace hc := keep hbel hc
      have HR' := hid (hrow'.below hbel)
      have hl' : l' ≤ 1048576 := by have := HI.out k hlt; rw [hrow'.length] at this; exact this
      clear hbel hlaid hmk hrow'
      go_wp2_with fail
      refine (toStep _ a' l' c' _ _ HR'.out hl').mono ?_
      rintro e w2 ⟨M, rfl, hM, hb2, hx⟩
      have hL2 := HD.out.below hb2
      obtain ⟨f, hf, -⟩ := hL2.row
      have hN : w.heap.size < M := Nat.lt_of_lt_of_le (by obtain ⟨f', hf', -⟩ := HD.out.row; exact hf'.lt) hM
      have g0 := hf.cell (i := k * 2) (by omega)
      have g1 := hf.cell (i := k * 2 + 1) (by omega)
      have z0 := hf.frozen (k * 2)
      have z1 := hf.frozen (k * 2 + 1)
      have HL2 := hid hL2
      have HX := hid hx
      have HN := hid hN
      have HB2 := hid (HB.out.trans (hb2.mono HB.out.size))
      clear hb2 hL2 hx hN hM hf
      go_wp2
      go_roundw
      case rel => exact ⟨k + 1, by omega, by go_num, (HB2.out.setCell (Nat.le_refl _) _).setCell (Nat.le_refl _) _, HL2.out.next hlt HN.out HX.out⟩
      case measure => simp [intOf]; omega
    · have e : k = len := by omega
      subst e
      clear hbel hlaid hmk
      go_wp2
      go_ret
      exact ⟨_, rfl, Nat.le_refl _, HB.out, HD.out.steps HL.out HM.out⟩

set_option maxHeartbeats 400000 in
theorem eqStep (d d' : Bool) (a a' : Option Addr) (len len' cap cap' : Nat) (zs ys : List Int) (w : World) (hr : IntRow w a len zs) (hr' : IntRow w a' len' ys) :
    Calls Tryz.prog 32 #[.agg #[.bool d, .slice a len cap], .agg #[.bool d', .slice a' len' cap']] w fun e w' => e = .returned (.bool (decide (d = d' ∧ zs = ys))) ∧ Below w.heap.size w w' := by
  by_cases hv : d = d'
  · have hb : (d == d') = true := by simp [hv]
    have HV := hid hv
    clear hv
    go_enter Tryz.func32, Tryz.ntmps32
    go_wp2_with fail
    refine (eqIntS a a' len len' cap cap' zs ys _ (hr.below (by repeat (first | exact Below.refl _ _ | assumption | refine Below.drew ?_ | refine Below.alloc ?_ (by first | exact Nat.le_refl _ | omega | (simp; done) | (simp; omega)) _ | refine Below.setCell ?_ (by first | exact Nat.le_refl _ | omega | (simp; done) | (simp; omega)) _))) (hr'.below (by repeat (first | exact Below.refl _ _ | assumption | refine Below.drew ?_ | refine Below.alloc ?_ (by first | exact Nat.le_refl _ | omega | (simp; done) | (simp; omega)) _ | refine Below.setCell ?_ (by first | exact Nat.le_refl _ | omega | (simp; done) | (simp; omega)) _)))).mono ?_
    rintro e w1 ⟨rfl, n, rfl⟩
    by_cases he : zs = ys
    · have hd : decide (zs = ys) = true := decide_eq_true he
      have HE := hid he
      clear he
      go_wp2
      go_ret
      exact ⟨ret_bool (decide_eq_true ⟨HV.out, HE.out⟩).symm, (show Below _ _ _ from (by repeat (first | exact Below.refl _ _ | assumption | refine Below.drew ?_ | refine Below.alloc ?_ (by first | exact Nat.le_refl _ | omega | (simp; done) | (simp; omega)) _ | refine Below.setCell ?_ (by first | exact Nat.le_refl _ | omega | (simp; done) | (simp; omega)) _))).trans ((below_drewN _ n).mono (by simp; omega))⟩
    · have hd : decide (zs = ys) = false := decide_eq_false he
      have HE := hid he
      clear he
      go_wp2
      go_ret
      exact ⟨ret_bool (decide_eq_false (fun h => HE.out h.2)).symm, (show Below _ _ _ from (by repeat (first | exact Below.refl _ _ | assumption | refine Below.drew ?_ | refine Below.alloc ?_ (by first | exact Nat.le_refl _ | omega | (simp; done) | (simp; omega)) _ | refine Below.setCell ?_ (by first | exact Nat.le_refl _ | omega | (simp; done) | (simp; omega)) _))).trans ((below_drewN _ n).mono (by simp; omega))⟩
  · have hb : (d == d') = false := by simp [hv]
    have HV := hid hv
    clear hv
    go_enter Tryz.func32, Tryz.ntmps32
    go_wp2
    go_ret
    exact ⟨ret_bool (decide_eq_false (fun h => HV.out h.1)).symm, (by repeat (first | exact Below.refl _ _ | assumption | refine Below.drew ?_ | refine Below.alloc ?_ (by first | exact Nat.le_refl _ | omega | (simp; done) | (simp; omega)) _ | refine Below.setCell ?_ (by first | exact Nat.le_refl _ | omega | (simp; done) | (simp; omega)) _))⟩

set_option maxHeartbeats 1600000 in
set_option maxRecDepth 8000 in
theorem eqStepS (a a' : Option Addr) (len cap cap' : Nat) (ss : List St) (w : World) (hr : StepRow w a len ss) (hr' : StepRow w a' len ss) :
    Calls Tryz.prog 12 #[.slice a len cap, .slice a' len cap'] w fun e w' => e = .returned (.bool true) ∧ Below w.heap.size w w' := by
  obtain ⟨hlen, hmost, hcell⟩ := hr
  obtain ⟨hlen', hmost', hcell'⟩ := hr'
  unfold maxLen at hmost hmost'
  have HC := hid hcell
  have HC' := hid hcell'
  clear hcell hcell' hlen hlen' hmost'
  have hb : ((len : Int) != (len : Int)) = false := by simp
  go_enter Tryz.func12, Tryz.ntmps12
  go_wp2
  go_loopw [5] (fun i wr => ∃ k : Nat, k ≤ len ∧ i = .int .i64 k ∧ Below w.heap.size w wr) (fun i _ => len - (intOf i).toNat)
  case atStart => exact ⟨0, Nat.zero_le _, rfl, Below.refl _ _⟩
  case round =>
    obtain ⟨k, hk, rfl, hbel⟩ := hrel
    have HB := hid hbel
    by_cases hlt : k < len
    · obtain ⟨b, off, rfl, hd, x, l, c, hc, hx⟩ := HC.out k hlt
      obtain ⟨b', off', rfl, hd', x', l', c', hc', hx'⟩ := HC'.out k hlt
      replace hd := keep hbel hd
      replace hc := keep hbel hc
      replace hd' := keep hbel hd'
      replace hc' := keep hbel hc'
      have HX := hid (hx.below hbel)
      have HX' := hid (hx'.below hbel)
      clear hx hx' hbel
      generalize (ss[k]?.getD (false, [])).1 = d at *
      generalize (ss[k]?.getD (false, [])).2 = zs at *
      go_wp2_with fail
      have HK : Hid (∀ w8 : World, Below wr.heap.size wr w8 → w8.cell? ⟨b, off + k * 2, none⟩ = some (.bool d) ∧ w8.cell? ⟨b, off + k * 2 + 1, none⟩ = some (.slice x l c) ∧ w8.cell? ⟨b', off' + k * 2, none⟩ = some (.bool d) ∧ w8.cell? ⟨b', off' + k * 2 + 1, none⟩ = some (.slice x' l' c') ∧ Below wr.heap.size wr w8) :=
        fun w8 h => ⟨keep h hd, keep h hc, keep h hd', keep h hc', h⟩
      clear hd hc hd' hc'
      go_region_held3 (fun w8 => w8.cell? ⟨b, off + k * 2, none⟩ = some (.bool d) ∧ w8.cell? ⟨b, off + k * 2 + 1, none⟩ = some (.slice x l c) ∧ w8.cell? ⟨b', off' + k * 2, none⟩ = some (.bool d) ∧ w8.cell? ⟨b', off' + k * 2 + 1, none⟩ = some (.slice x' l' c') ∧ Below wr.heap.size wr w8)
        (refine HK.out _ (by first | assumption | exact (Below.refl _ wr).drew | exact hb57))
        ((go_at_call 32; refine (eqStep d d _ _ _ _ _ _ zs zs _ (HX.out.below (Below.refl _ wr).drew) (HX'.out.below (Below.refl _ wr).drew)).mono ?_; rintro e w7 ⟨rfl, hb7⟩; have hb57 : Below wr.heap.size wr w7 := ((Below.refl _ wr).drew).trans hb7; clear hb7))
      all_goals
        have hd : decide (d = d ∧ zs = zs) = true := decide_eq_true ⟨rfl, rfl⟩
        have HB5 := hid hb57
        clear hb57
        go_wp2
        go_roundw
        case rel => exact ⟨k + 1, by omega, by go_num, HB.out.trans (HB5.out.mono HB.out.size)⟩
        case measure => simp [intOf]; omega
    · have e : k = len := by omega
      subst e
      clear hbel
      go_wp2
      go_ret
      exact ⟨rfl, HB.out⟩
end Go.Proofs.YtolejaegnkcjjaaGreatDoor.steps
