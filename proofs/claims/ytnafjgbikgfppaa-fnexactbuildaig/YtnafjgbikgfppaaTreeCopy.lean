/- The laws' own helpers over trees of expressions: what they count, copy and compare; conditions: lengths that fit. -/
import Derived.Test.YtnafjgbikgfppaaTrees
import Derived.Laws.ResultCell
import Derived.Deep.RegionHeld3
namespace Go.Proofs.Ytnafjgbikgfppaa.treeCopy
open Go.RowKit Go.Deep base trees
set_option linter.unusedVariables false

def SzS (d : Nat) : Prop := ∀ (t : T) (a : Option Addr) (l c : Nat) (left : Int) (w : World), Rd (fun _ => True) maxLen w d t a l → 0 ≤ left → left ≤ 1048576 →
    Calls Try.prog 4 #[.slice a l c, .int .i64 left] w fun e w' => ∃ r : Int, e = .returned (.int .i64 r) ∧ Below w.heap.size w w' ∧ -1 ≤ r ∧ r ≤ left ∧ (0 ≤ r → small d t)
def SzE (d : Nat) : Prop := ∀ (k n : Int) (t : T) (a : Option Addr) (l c : Nat) (left : Int) (w : World), Rd (fun _ => True) maxLen w d t a l → 0 ≤ left → left ≤ 1048576 →
    Calls Try.prog 16 #[.agg #[.int .i64 k, .int .i64 n, .slice a l c], .int .i64 left] w fun e w' => ∃ r : Int, e = .returned (.int .i64 r) ∧ Below w.heap.size w w' ∧ -1 ≤ r ∧ r ≤ left ∧ (0 ≤ r → small d t)

set_option maxHeartbeats 400000 in
theorem szE_of (d : Nat) (h : SzS d) : SzE d := by
  intro k n t a l c left w hr h0 h1
  have HS := hid h
  have HR := hid hr
  clear h hr
  go_enter Try.func16, Try.ntmps16
  go_wp2_with fail
  refine (HS.out t a l c left _ (HR.out.below (by repeat (first | exact Below.refl _ _ | assumption | refine Below.drew ?_ | refine Below.alloc ?_ (by first | exact Nat.le_refl _ | omega | (simp; done) | (simp; omega)) _ | refine Below.setCell ?_ (by first | exact Nat.le_refl _ | omega | (simp; done) | (simp; omega)) _))) h0 h1).mono ?_
  rintro e w1 ⟨r, rfl, hb1, hr1, hr2, hr3⟩
  have H3 := hid hr3
  have HB := hid ((show Below w.heap.size w _ from (by repeat (first | exact Below.refl _ _ | assumption | refine Below.drew ?_ | refine Below.alloc ?_ (by first | exact Nat.le_refl _ | omega | (simp; done) | (simp; omega)) _ | refine Below.setCell ?_ (by first | exact Nat.le_refl _ | omega | (simp; done) | (simp; omega)) _))).trans (hb1.mono (by simp)))
  clear hr3 hb1
  go_wp2
  · go_ret
    exact ⟨_, rfl, HB.out, by omega, by omega, by omega⟩
  · go_ret
    exact ⟨r, rfl, HB.out, by omega, by omega, H3.out⟩

set_option maxHeartbeats 800000 in
theorem szS (d : Nat) : SzS d := by
  induction d using Nat.strongRecOn with
  | _ d ih =>
  intro t a l c left w hr h0 h1
  have hmost := hr.most
  have HL := hid hr.len
  have HZ := hid hr.zero
  unfold maxLen at hmost
  have HR := hid hr
  have HI := hid ih
  clear hr ih
  by_cases h : left < (l : Int)
  · go_enter Try.func4, Try.ntmps4
    go_wp2
    go_ret
    exact ⟨_, rfl, Below.refl _ _, by omega, by omega, by omega⟩
  · go_enter Try.func4, Try.ntmps4
    go_wp2
    go_loopw [5, 1] (fun i t' wr => ∃ (k : Nat) (r : Int), k ≤ l ∧ i = .int .i64 k ∧ t' = .int .i64 r ∧ 0 ≤ r ∧ r ≤ left ∧ Below w.heap.size w wr ∧ ∀ j, j < k → small (d - 1) (kid t j)) (fun i _ _ => l - (intOf i).toNat)
    case atStart => exact ⟨0, left - l, Nat.zero_le _, rfl, rfl, by omega, by omega, Below.refl _ _, by omega⟩
    case round =>
      obtain ⟨k, r, hk, rfl, rfl, hl0, hl1, hbel, ha⟩ := hrel
      have HA := hid ha
      have HB := hid hbel
      clear ha hbel
      by_cases hlt : k < l
      · obtain ⟨hd0, b, off, rfl, -, hc0, hc1, a', l', c', hc2, hrow⟩ := HR.out.cell hlt
        replace hc0 := keep HB.out hc0
        replace hc1 := keep HB.out hc1
        replace hc2 := keep HB.out hc2
        have HX := hid (hrow.below HB.out)
        clear hrow
        go_wp2_with fail
        refine (szE_of _ (HI.out (d - 1) (by omega)) _ _ (kid t k) _ _ _ _ _ HX.out hl0 (by omega)).mono ?_
        rintro e w1 ⟨r1, rfl, hb1, hr1, hr2, hr3⟩
        have H3 := hid hr3
        have HB1 := hid (HB.out.trans (hb1.mono HB.out.size))
        clear hb1 hr3
        by_cases hs : r1 < 0
        · go_wp2
          go_ret
          exact ⟨_, rfl, HB1.out, by omega, by omega, by omega⟩
        · go_wp2
          go_roundw
          case rel =>
            refine ⟨k + 1, r1, by omega, by go_num, rfl, by omega, by omega, HB1.out, ?_⟩
            intro j hj
            by_cases e : j = k
            · subst e; exact H3.out (by omega)
            · exact HA.out j (by omega)
          case measure => simp [intOf]; omega
      · have e : k = l := by omega
        subst e
        go_wp2
        go_ret
        refine ⟨r, rfl, HB.out, by omega, by omega, fun _ => small_of HZ.out ?_ ?_⟩
        · rw [HL.out]; omega
        · rw [HL.out]; exact HA.out

def ToS (d : Nat) : Prop := ∀ (t : T) (a : Option Addr) (l c : Nat) (w : World), Rd (fun _ => True) maxLen w d t a l → small d t →
    Calls Try.prog 6 #[.slice a l c] w fun e w' => ∃ N, e = .returned (.slice (some ⟨N, 0, none⟩) l l) ∧ w.heap.size ≤ N ∧ Below w.heap.size w w' ∧ Rd (fun b => N ≤ b) 1048576 w' d t (some ⟨N, 0, none⟩) l
def ToE (d : Nat) : Prop := ∀ (k n : Int) (t : T) (a : Option Addr) (l c : Nat) (w : World), Rd (fun _ => True) maxLen w d t a l → small d t →
    Calls Try.prog 21 #[.agg #[.int .i64 k, .int .i64 n, .slice a l c]] w fun e w' => ∃ N, e = .returned (.agg #[.int .i64 k, .int .i64 n, .slice (some ⟨N, 0, none⟩) l l]) ∧ w.heap.size ≤ N ∧ Below w.heap.size w w' ∧ Rd (fun b => N ≤ b) 1048576 w' d t (some ⟨N, 0, none⟩) l

set_option maxHeartbeats 800000 in
theorem toE_of (d : Nat) (h : ToS d) : ToE d := by
  intro k n t a l c w hr hs
  have HS := hid h
  have HR := hid hr
  clear h hr
  go_enter Try.func21, Try.ntmps21
  go_wp2_with fail
  refine (HS.out t a l c _ (HR.out.below (by repeat (first | exact Below.refl _ _ | assumption | refine Below.drew ?_ | refine Below.alloc ?_ (by first | exact Nat.le_refl _ | omega | (simp; done) | (simp; omega)) _ | refine Below.setCell ?_ (by first | exact Nat.le_refl _ | omega | (simp; done) | (simp; omega)) _))) hs).mono ?_
  rintro e w1 ⟨N, rfl, hN, hb1, hx⟩
  obtain ⟨hc, hf⟩ := bcell hb1
  have hz : w.heap.size + 2 < w1.heap.size := by
    obtain h := hb1.size
    simp at h
    have hx0 : (w.heap.size + 3) ≤ w1.heap.size := by simpa using h
    omega
  have hN' : w.heap.size + 3 ≤ N := by simpa using hN
  have hw0 : Below w.heap.size w w1 := (show Below _ _ _ from (by repeat (first | exact Below.refl _ _ | assumption | refine Below.drew ?_ | refine Below.alloc ?_ (by first | exact Nat.le_refl _ | omega | (simp; done) | (simp; omega)) _ | refine Below.setCell ?_ (by first | exact Nat.le_refl _ | omega | (simp; done) | (simp; omega)) _))).trans (hb1.mono (by simp; omega))
  have HX := hid hx
  have H0 := hid hw0
  have HN := hid hN'
  clear hb1 hx hw0 hN hN'
  go_wp2
  refine bodyPost_ret (v := .agg #[.int .i64 k, .int .i64 n, .slice (some ⟨N, 0, none⟩) l l]) (by simp [results, Try.results21, go_sem, hc]) rfl ⟨N, rfl, by have := HN.out; omega, ?_, ?_⟩
  · exact (((H0.out.setCell (by simp; omega) _).setCell (by simp) _).setCell (by simp) _).setCell (by simp) _
  · have := HN.out
    exact (((HX.out.set (by simp; omega) _).set (by simp; omega) _).set (by simp; omega) _).set (by simp; omega) _

/-- A row of trees in block N of its own, of which the first k are laid. -/
structure Laid (w : World) (N len k d : Nat) (t : T) : Prop where
  row : ∃ f, w.rowIs N 45 (len * 3) f ∧ ∀ i, i < k → f (i * 3) = .int .i64 (kd (kid t i)) ∧ f (i * 3 + 1) = .int .i64 (nn (kid t i)) ∧ ∃ M l, f (i * 3 + 2) = .slice (some ⟨M, 0, none⟩) l l ∧ N < M ∧ Rd (fun b => M ≤ b) 1048576 w (d - 1) (kid t i) (some ⟨M, 0, none⟩) l
theorem Laid.rd {w : World} {N len d : Nat} {t : T} (h : Laid w N len len d t) (hl : ln t = len) (hz : d = 0 → ln t = 0) (hm : len ≤ 1048576) : Rd (fun b => N ≤ b) 1048576 w d t (some ⟨N, 0, none⟩) len := by
  obtain ⟨f, hf, hc⟩ := h.row
  cases d with
  | zero => exact ⟨hl, hl ▸ hz rfl⟩
  | succ d =>
    refine ⟨hl, hm, fun i hi => ?_⟩
    obtain ⟨h0, h1, M, l, h2, hM, hr⟩ := hc i hi
    refine ⟨N, 0, rfl, Nat.le_refl _, ?_, ?_, some ⟨M, 0, none⟩, l, l, ?_, hr.imp fun b hb => by omega⟩
    · rw [← h0]; simpa using hf.cell (i := i * 3) (by omega)
    · rw [← h1]; simpa using hf.cell (i := i * 3 + 1) (by omega)
    · rw [← h2]; simpa using hf.cell (i := i * 3 + 2) (by omega)
theorem Laid.below {w w1 : World} {N len k d : Nat} {t : T} (h : Laid w N len k d t) (hb : Below w.heap.size w w1) : Laid w1 N len k d t := by
  obtain ⟨f, hf, hc⟩ := h.row
  refine ⟨f, hf.of_block (hb.block _ hf.lt), fun i hi => ?_⟩
  obtain ⟨h0, h1, M, l, h2, hM, hr⟩ := hc i hi
  exact ⟨h0, h1, M, l, h2, hM, hr.below hb⟩
theorem Laid.next {w : World} {N len k d M l : Nat} {t : T} (h : Laid w N len k d t) (hk : k < len) (hN : N < M) (hr : Rd (fun b => M ≤ b) 1048576 w (d - 1) (kid t k) (some ⟨M, 0, none⟩) l) :
    Laid (((w.setCell ⟨N, k * 3, none⟩ (.int .i64 (kd (kid t k)))).setCell ⟨N, k * 3 + 1, none⟩ (.int .i64 (nn (kid t k)))).setCell ⟨N, k * 3 + 2, none⟩ (.slice (some ⟨M, 0, none⟩) l l)) N len (k + 1) d t := by
  obtain ⟨f, hf, hc⟩ := h.row
  refine ⟨_, ((hf.set (k * 3) _).set (k * 3 + 1) _).set (k * 3 + 2) _, fun i hi => ?_⟩
  by_cases e : i = k
  · subst e
    refine ⟨by rw [if_neg (by omega), if_neg (by omega), if_pos rfl], by rw [if_neg (by omega), if_pos rfl], M, l, by rw [if_pos rfl], hN, ?_⟩
    exact ((hr.set (by simp; omega) _).set (by simp; omega) _).set (by simp; omega) _
  · obtain ⟨h0, h1, M', l', h2, hM, hr'⟩ := hc i (by omega)
    refine ⟨by rw [if_neg (by omega), if_neg (by omega), if_neg (by omega)]; exact h0, by rw [if_neg (by omega), if_neg (by omega), if_neg (by omega)]; exact h1, M', l', by rw [if_neg (by omega), if_neg (by omega), if_neg (by omega)]; exact h2, hM, ?_⟩
    exact ((hr'.set (by simp; omega) _).set (by simp; omega) _).set (by simp; omega) _

theorem info_ex : (Try.prog.info? 45).map (fun i => (i.zero, i.size, i.bytes)) = some (some (.agg #[.int .i64 0, .int .i64 0, .slice none 0 0]), 3, 40) := by kernel_rfl
theorem run_make_exs (n : Nat) (h : n ≤ 1048576) (w : World) :
    (Instr.makeSlice 30 (.int .i64 (n : Int)) (.int .i64 (n : Int))).run Try.prog w = .ok (.slice (some ⟨w.heap.size, 0, none⟩) n n) (w.alloc (.cells (madeCells #[.int .i64 0, .int .i64 0, .slice none 0 0] (n * 3)) 45)) := by
  obtain ⟨i, hi, hzz⟩ := Option.map_eq_some_iff.1 info_ex
  simp only [Prod.mk.injEq] at hzz
  obtain ⟨hz, hs, hb⟩ := hzz
  have hr := run_make (P := Try.prog) w 30 45 i _ Try.underlying30 hi hz .i64 .i64 n n (by omega) (Int.le_refl _) (by rw [hb]; omega) (by omega)
  simp only [Int.toNat_natCast, hs] at hr
  exact hr

set_option maxHeartbeats 800000 in
theorem toS (d : Nat) : ToS d := by
  induction d using Nat.strongRecOn with
  | _ d ih =>
  intro t a l c w hr hs
  have HL := hid hr.len
  have HZ := hid hr.zero
  have HR := hid hr
  have HI := hid ih
  have HS := hid hs
  have hb : l ≤ 1048576 := by rw [← hr.len]; exact small_len hr.zero hs
  clear hr ih hs
  have hmk := run_make_exs l hb
  go_enter Try.func6, Try.ntmps6
  go_wp2
  go_loopw [4] (fun i wr => ∃ k : Nat, k ≤ l ∧ i = .int .i64 k ∧ Below w.heap.size w wr ∧ Laid wr w.heap.size l k d t) (fun i _ => l - (intOf i).toNat)
  case atStart => exact ⟨0, Nat.zero_le _, rfl, (Below.refl _ _).alloc (Nat.le_refl _) _, ⟨fun i => (madeCells #[.int .i64 0, .int .i64 0, .slice none 0 0] (l * 3))[i]?.getD undef, by
      have := World.rowIs_alloc w (madeCells #[.int .i64 0, .int .i64 0, .slice none 0 0] (l * 3)) 45 (fun i => (madeCells #[.int .i64 0, .int .i64 0, .slice none 0 0] (l * 3))[i]?.getD undef) (fun i hi => by rw [Array.getElem?_eq_getElem hi]; rfl)
      rwa [size_madeCells] at this, fun i hi => absurd hi (Nat.not_lt_zero _)⟩⟩
  case round =>
    obtain ⟨k, hk, rfl, hbel, hlaid⟩ := hrel
    have HB := hid hbel
    have HD := hid hlaid
    by_cases hlt : k < l
    · obtain ⟨hd0, b, off, rfl, -, hc0, hc1, a', l', c', hc2, hrow'⟩ := HR.out.cell hlt
      replace hc0 := keep hbel hc0
      replace hc1 := keep hbel hc1
      replace hc2 := keep hbel hc2
      have HR' := hid (hrow'.below hbel)
      clear hbel hlaid hmk hrow'
      go_wp2_with fail
      refine (toE_of _ (HI.out (d - 1) (by omega)) _ _ (kid t k) a' l' c' _ HR'.out (small_kid HZ.out HS.out (by rw [HL.out]; exact hlt))).mono ?_
      rintro e w2 ⟨M, rfl, hM, hb2, hx⟩
      have hL2 := HD.out.below hb2
      obtain ⟨f, hf, -⟩ := hL2.row
      have hN : w.heap.size < M := Nat.lt_of_lt_of_le (by obtain ⟨f', hf', -⟩ := HD.out.row; exact hf'.lt) hM
      have g0 := hf.cell (i := k * 3) (by omega)
      have g1 := hf.cell (i := k * 3 + 1) (by omega)
      have g2 := hf.cell (i := k * 3 + 2) (by omega)
      have z0 := hf.frozen (k * 3)
      have z1 := hf.frozen (k * 3 + 1)
      have z2 := hf.frozen (k * 3 + 2)
      have HL2 := hid hL2
      have HX := hid hx
      have HN := hid hN
      have HB2 := hid (HB.out.trans (hb2.mono HB.out.size))
      clear hb2 hL2 hx hN hM hf
      go_wp2
      go_roundw
      case rel => exact ⟨k + 1, by omega, by go_num, ((HB2.out.setCell (Nat.le_refl _) _).setCell (Nat.le_refl _) _).setCell (Nat.le_refl _) _, HL2.out.next hlt HN.out HX.out⟩
      case measure => simp [intOf]; omega
    · have e : k = l := by omega
      subst e
      clear hbel hlaid hmk
      go_wp2
      go_ret
      exact ⟨_, rfl, Nat.le_refl _, HB.out, HD.out.rd HL.out HZ.out hb⟩
end Go.Proofs.Ytnafjgbikgfppaa.treeCopy
