/- NetCopy; NetWhole: one text, so that the claim has fewer files. -/
import Derived.Test.YtoaeieehbplggaaGreatNetSem
import Derived.Test.YtoaeieehbplggaaGreatCopy
import Derived.Laws.ResultCell
import Derived.Deep.RegionHeld3
/- Networks: the laws' own helpers that count, copy and compare them; conditions: lengths that fit. -/
namespace Go.Proofs.YtoaeieehbplggaaGreat.netCopy
open Go.RowKit Go.Deep base netSem
set_option linter.unusedVariables false

/-- A row of structs of m integers in block N of its own, of which the first k are laid. -/
structure Laid (t : TypeId) (m : Nat) (w : World) (N len k : Nat) (g : R) : Prop where
  row : ∃ f, w.rowIs N t (len * m) f ∧ ∀ i, i < k → ∀ j, j < m → f (i * m + j) = .int .i64 (g i j)
theorem Laid.is {t : TypeId} {m : Nat} {w : World} {N len : Nat} {g : R} (h : Laid t m w N len len g) (hm : len ≤ maxLen) : Row m w (some ⟨N, 0, none⟩) len g := by
  obtain ⟨f, hf, hc⟩ := h.row
  refine ⟨hm, fun i hi => ⟨N, 0, rfl, fun j hj => ?_⟩⟩
  rw [← hc i hi j hj]
  have h1 : i * m + j < len * m := Nat.lt_of_lt_of_le (show i * m + j < (i + 1) * m by rw [Nat.succ_mul]; omega) (Nat.mul_le_mul_right m hi)
  simpa using hf.cell (i := i * m + j) h1
theorem Laid.below {t : TypeId} {m : Nat} {w w1 : World} {N len k : Nat} {g : R} (h : Laid t m w N len k g) (hb : Below w.heap.size w w1) : Laid t m w1 N len k g := by
  obtain ⟨f, hf, hc⟩ := h.row
  exact ⟨f, hf.of_block (hb.block _ hf.lt), hc⟩
theorem Laid.set {t : TypeId} {m : Nat} {w : World} {N len k : Nat} {g : R} (h : Laid t m w N len k g) {x : Addr} (hx : x.block ≠ N) (v : Value) : Laid t m (w.setCell x v) N len k g := by
  obtain ⟨f, hf, hc⟩ := h.row
  exact ⟨f, hf.of_block (Below.heap_setCell _ _ _ _ (Ne.symm hx)), hc⟩
theorem at_ne {m i k j q : Nat} (hj : j < m) (hq : q < m) (h : ¬ (i = k ∧ j = q)) : ¬ (i * m + j = k * m + q) := by
  intro e
  have h1 : i = k := by
    rcases Nat.lt_trichotomy i k with h' | h' | h'
    · have := Nat.mul_le_mul_right m (show i + 1 ≤ k from h')
      rw [Nat.succ_mul] at this; omega
    · exact h'
    · have := Nat.mul_le_mul_right m (show k + 1 ≤ i from h')
      rw [Nat.succ_mul] at this; omega
  subst h1
  exact h ⟨rfl, by omega⟩
/-- Rows of texts likewise. -/
structure LaidS (w : World) (N len k : Nat) (s : Ss) : Prop where
  row : ∃ f, w.rowIs N 9 len f ∧ ∀ i, i < k → f i = .string (s i)
theorem LaidS.is {w : World} {N len : Nat} {s : Ss} (h : LaidS w N len len s) (hm : len ≤ maxLen) (hs : ∀ i, i < len → (s i).size ≤ maxLen) : StrRow w (some ⟨N, 0, none⟩) len s := by
  obtain ⟨f, hf, hc⟩ := h.row
  refine ⟨hm, hs, fun i hi => ⟨N, 0, rfl, ?_⟩⟩
  rw [← hc i hi]
  simpa using hf.cell (i := i) hi
theorem LaidS.below {w w1 : World} {N len k : Nat} {s : Ss} (h : LaidS w N len k s) (hb : Below w.heap.size w w1) : LaidS w1 N len k s := by
  obtain ⟨f, hf, hc⟩ := h.row
  exact ⟨f, hf.of_block (hb.block _ hf.lt), hc⟩
theorem LaidS.set {w : World} {N len k : Nat} {s : Ss} (h : LaidS w N len k s) {x : Addr} (hx : x.block ≠ N) (v : Value) : LaidS (w.setCell x v) N len k s := by
  obtain ⟨f, hf, hc⟩ := h.row
  exact ⟨f, hf.of_block (Below.heap_setCell _ _ _ _ (Ne.symm hx)), hc⟩
theorem LaidS.next {w : World} {N len k : Nat} {s : Ss} (h : LaidS w N len k s) (hk : k < len) : LaidS (w.setCell ⟨N, k, none⟩ (.string (s k))) N len (k + 1) s := by
  obtain ⟨f, hf, hc⟩ := h.row
  refine ⟨_, hf.set k _, fun i hi => ?_⟩
  by_cases e : i = k
  · subst e; rw [if_pos rfl]
  · rw [if_neg e]; exact hc i (by omega)

set_option maxHeartbeats 400000 in
theorem szStringS (a : Option Addr) (len cap : Nat) (s : Ss) (left : Int) (w : World) (hr : StrRow w a len s) (h0 : 0 ≤ left) (h1 : left ≤ 1048576) :
    Calls Tryz.prog 19 #[.slice a len cap, .int .i64 left] w fun e w' => ∃ r : Int, e = .returned (.int .i64 r) ∧ -1 ≤ r ∧ r ≤ left ∧ (0 ≤ r → (len : Int) ≤ left) ∧ ∃ n, w' = w.drewN n := by
  have hmost := hr.most
  unfold maxLen at hmost
  have HS := hid hr.size
  have HC := hid hr.cell
  clear hr
  by_cases h : left < (len : Int)
  · go_enter Tryz.func19, Tryz.ntmps19
    go_wp2
    go_ret
    exact ⟨_, rfl, by omega, by omega, by omega, 0, rfl⟩
  · go_enter Tryz.func19, Tryz.ntmps19
    go_wp2
    go_loopw [5, 1] (fun i t wr => ∃ (k n : Nat) (r : Int), k ≤ len ∧ i = .int .i64 k ∧ t = .int .i64 r ∧ 0 ≤ r ∧ r ≤ left ∧ wr = w.drewN n) (fun i _ _ => len - (intOf i).toNat)
    case atStart => exact ⟨0, 0, _, Nat.zero_le _, rfl, rfl, by omega, by omega, rfl⟩
    case round =>
      obtain ⟨k, n, r, hk, rfl, rfl, hr0, hr1, hw⟩ := hrel
      have HW := hid hw
      by_cases hlt : k < len
      · obtain ⟨b, off, rfl, hc0⟩ := HC.out k hlt
        have hc : wr.cell? ⟨b, off + k, none⟩ = some (.string (s k)) := by rw [hw]; simpa using hc0
        have hs := HS.out k hlt
        unfold maxLen at hs
        clear hw hc0
        generalize s k = t at *
        by_cases hd : r - (t.size : Int) < 0
        · go_wp2
          go_ret
          exact ⟨_, rfl, by omega, by omega, by omega, n, HW.out⟩
        · go_wp2
          go_roundw
          case rel => exact ⟨k + 1, n, _, by omega, by go_num, rfl, by omega, by omega, HW.out⟩
          case measure => simp [intOf]; omega
      · have e : k = len := by omega
        subst e
        go_wp2
        go_ret
        exact ⟨_, rfl, by omega, by omega, by omega, n, by first | exact HW.out | rfl⟩

theorem info_string : (Tryz.prog.info? 9).map (fun i => (i.zero, i.size, i.bytes)) = some (some (.string ByteArray.empty), 1, 16) := by kernel_rfl
set_option maxHeartbeats 800000 in
theorem toStringS (a : Option Addr) (len cap : Nat) (s : Ss) (w : World) (hr : StrRow w a len s) (hb : len ≤ 1048576) :
    Calls Tryz.prog 26 #[.slice a len cap] w fun e w' => ∃ N, e = .returned (.slice (some ⟨N, 0, none⟩) len len) ∧ w.heap.size ≤ N ∧ Below w.heap.size w w' ∧ LaidS w' N len len s := by
  have hmost := hr.most
  unfold maxLen at hmost
  have HC := hid hr.cell
  clear hr
  have hmk := run_make_row' (P := Tryz.prog) 22 9 (.string ByteArray.empty) 16 Tryz.underlying22 info_string rfl .i64 .i64 len (by omega) (by omega)
  go_enter Tryz.func26, Tryz.ntmps26
  go_wp2
  go_loopw [4] (fun i wr => ∃ k : Nat, k ≤ len ∧ i = .int .i64 k ∧ Below w.heap.size w wr ∧ LaidS wr w.heap.size len k s) (fun i _ => len - (intOf i).toNat)
  case atStart => exact ⟨0, Nat.zero_le _, rfl, (Below.refl _ _).alloc (Nat.le_refl _) _, ⟨_, World.rowIs_made w _ len 9, fun i hi => absurd hi (Nat.not_lt_zero _)⟩⟩
  case round =>
    obtain ⟨k, hk, rfl, hbel, hlaid⟩ := hrel
    by_cases hlt : k < len
    · obtain ⟨b, off, rfl, hc⟩ := HC.out k hlt
      have hc' := keep hbel hc
      obtain ⟨f, hf, -⟩ := hlaid.row
      have g4 := hf.cell (i := k) (by omega)
      have g5 : wr.frozen? ⟨w.heap.size, k, none⟩ = false := hf.frozen k
      have HB : Hid (Below w.heap.size w wr) := hbel
      have HR := hid hlaid
      clear hbel hlaid hf hc hmk
      go_wp2
      go_roundw
      case rel => exact ⟨k + 1, by omega, by go_num, HB.out.setCell (Nat.le_refl _) _, HR.out.next hlt⟩
      case measure => simp [intOf]; omega
    · have e : k = len := by omega
      subst e
      have HB : Hid (Below w.heap.size w wr) := hbel
      have HR := hid hlaid
      clear hbel hlaid hmk
      go_wp2
      go_ret
      exact ⟨_, rfl, Nat.le_refl _, HB.out, HR.out⟩

set_option maxHeartbeats 800000 in
theorem eqStringS (a a' : Option Addr) (len cap cap' : Nat) (s : Ss) (w : World) (hr : StrRow w a len s) (hr' : StrRow w a' len s) :
    Calls Tryz.prog 35 #[.slice a len cap, .slice a' len cap'] w fun e w' => e = .returned (.bool true) ∧ ∃ n, w' = w.drewN n := by
  have hmost := hr.most
  unfold maxLen at hmost
  have HC := hid hr.cell
  have HC' := hid hr'.cell
  clear hr hr'
  have hb : ((len : Int) != (len : Int)) = false := by simp
  go_enter Tryz.func35, Tryz.ntmps35
  go_wp2
  go_loopw [5] (fun i wr => ∃ k n : Nat, k ≤ len ∧ i = .int .i64 k ∧ wr = w.drewN n) (fun i _ => len - (intOf i).toNat)
  case atStart => exact ⟨0, 0, Nat.zero_le _, rfl, rfl⟩
  case round =>
    obtain ⟨k, n, hk, rfl, hw⟩ := hrel
    have HW := hid hw
    by_cases hlt : k < len
    · obtain ⟨b, off, rfl, hc0⟩ := HC.out k hlt
      obtain ⟨b', off', rfl, hc0'⟩ := HC'.out k hlt
      have hc : wr.cell? ⟨b, off + k, none⟩ = some (.string (s k)) := by rw [hw]; simpa using hc0
      have hc' : wr.cell? ⟨b', off' + k, none⟩ = some (.string (s k)) := by rw [hw]; simpa using hc0'
      clear hw hc0 hc0'
      generalize s k = t at *
      have hq : (t.toList == t.toList) = true := by simp
      go_wp2
      go_quiet (fail)
      go_wp2
      go_roundw
      case rel => exact ⟨k + 1, n + nq, by omega, by go_num, by rw [HW.out, World.drewN_drewN]⟩
      case measure => simp [intOf]; omega
    · have e : k = len := by omega
      subst e
      clear hw
      go_wp2
      go_ret
      exact ⟨rfl, n, HW.out⟩

set_option maxHeartbeats 400000 in
theorem szLinkS (a : Option Addr) (len cap : Nat) (left : Int) (w : World) (hm : len ≤ maxLen) (h0 : 0 ≤ left) (h1 : left ≤ 1048576) :
    Calls Tryz.prog 20 #[.slice a len cap, .int .i64 left] w fun e w' => e = .returned (.int .i64 (if left < len then -1 else left - len)) ∧ w' = w := by
  unfold maxLen at hm
  by_cases h : left < (len : Int)
  · rw [if_pos h]
    go_enter Tryz.func20, Tryz.ntmps20
    go_wp2
    go_ret
    exact ⟨rfl, rfl⟩
  · rw [if_neg h]
    go_enter Tryz.func20, Tryz.ntmps20
    go_wp2
    go_ret
    exact ⟨rfl, rfl⟩

set_option maxHeartbeats 400000 in
theorem toLink (x0 x1 x2 : Int) (w : World) :
    Calls Tryz.prog 50 #[.agg #[.int .i64 x0, .int .i64 x1, .int .i64 x2]] w fun e w' => e = .returned (.agg #[.int .i64 x0, .int .i64 x1, .int .i64 x2]) ∧ Below w.heap.size w w' := by
  go_enter Tryz.func50, Tryz.ntmps50
  go_wp2
  refine bodyPost_ret (v := .agg #[.int .i64 x0, .int .i64 x1, .int .i64 x2]) (by simp [results, Tryz.results50, go_sem]) rfl ⟨rfl, (by repeat (first | exact Below.refl _ _ | assumption | refine Below.drew ?_ | refine Below.alloc ?_ (by first | exact Nat.le_refl _ | omega | (simp; done) | (simp; omega)) _ | refine Below.setCell ?_ (by first | exact Nat.le_refl _ | omega | (simp; done) | (simp; omega)) _))⟩

theorem info_Link : (Tryz.prog.info? 86).map (fun i => (i.zero, i.size, i.bytes)) = some (some (.agg #[.int .i64 0, .int .i64 0, .int .i64 0]), 3, 3 * 8) := by kernel_rfl
theorem run_make_Link (n : Nat) (h : n ≤ 1048576) (w : World) :
    (Instr.makeSlice 34 (.int .i64 (n : Int)) (.int .i64 (n : Int))).run Tryz.prog w = .ok (.slice (some ⟨w.heap.size, 0, none⟩) n n) (w.alloc (.cells (madeCells #[.int .i64 0, .int .i64 0, .int .i64 0] (n * 3)) 86)) := by
  obtain ⟨i, hi, hzz⟩ := Option.map_eq_some_iff.1 info_Link
  simp only [Prod.mk.injEq] at hzz
  obtain ⟨hz, hs, hb⟩ := hzz
  have hr := run_make (P := Tryz.prog) w 34 86 i _ Tryz.underlying34 hi hz .i64 .i64 n n (by omega) (Int.le_refl _) (by rw [hb]; omega) (by omega)
  simp only [Int.toNat_natCast, hs] at hr
  exact hr
theorem next_Link {w : World} {N len k : Nat} {g : R} (h : Laid 86 3 w N len k g) (hk : k < len) : Laid 86 3 (((w.setCell ⟨N, k * 3, none⟩ (.int .i64 (g k 0))).setCell ⟨N, k * 3 + 1, none⟩ (.int .i64 (g k 1))).setCell ⟨N, k * 3 + 2, none⟩ (.int .i64 (g k 2))) N len (k + 1) g := by
  obtain ⟨f, hf, hc⟩ := h.row
  refine ⟨_, (((hf.set (k * 3 + 0) _).set (k * 3 + 1) _).set (k * 3 + 2) _), fun i hi j hj => ?_⟩
  by_cases e0 : i = k ∧ j = 0
  · obtain ⟨rfl, rfl⟩ := e0
    rw [if_neg (by omega), if_neg (by omega), if_pos rfl]
  by_cases e1 : i = k ∧ j = 1
  · obtain ⟨rfl, rfl⟩ := e1
    rw [if_neg (by omega), if_pos rfl]
  by_cases e2 : i = k ∧ j = 2
  · obtain ⟨rfl, rfl⟩ := e2
    rw [if_pos rfl]
  rw [if_neg (at_ne hj (by decide) e2), if_neg (at_ne hj (by decide) e1), if_neg (at_ne hj (by decide) e0)]
  exact hc i (by omega) j hj

set_option maxHeartbeats 1600000 in
theorem toLinkS (a : Option Addr) (len cap : Nat) (g : R) (w : World) (hr : Row 3 w a len g) (hb : len ≤ 1048576) :
    Calls Tryz.prog 27 #[.slice a len cap] w fun e w' => ∃ N, e = .returned (.slice (some ⟨N, 0, none⟩) len len) ∧ w.heap.size ≤ N ∧ Below w.heap.size w w' ∧ Laid 86 3 w' N len len g := by
  have HR := hid hr
  clear hr
  have hmk := run_make_Link len hb
  go_enter Tryz.func27, Tryz.ntmps27
  go_wp2
  go_loopw [4] (fun i wr => ∃ k : Nat, k ≤ len ∧ i = .int .i64 k ∧ Below w.heap.size w wr ∧ Laid 86 3 wr w.heap.size len k g) (fun i _ => len - (intOf i).toNat)
  case atStart => exact ⟨0, Nat.zero_le _, rfl, (Below.refl _ _).alloc (Nat.le_refl _) _, ⟨fun i => (madeCells #[.int .i64 0, .int .i64 0, .int .i64 0] (len * 3))[i]?.getD undef, by
      have := World.rowIs_alloc w (madeCells #[.int .i64 0, .int .i64 0, .int .i64 0] (len * 3)) 86 (fun i => (madeCells #[.int .i64 0, .int .i64 0, .int .i64 0] (len * 3))[i]?.getD undef) (fun i hi => by rw [Array.getElem?_eq_getElem hi]; rfl)
      rwa [size_madeCells] at this, fun i hi => absurd hi (Nat.not_lt_zero _)⟩⟩
  case round =>
    obtain ⟨k, hk, rfl, hbel, hlaid⟩ := hrel
    have HB := hid hbel
    have HD := hid hlaid
    by_cases hlt : k < len
    · obtain ⟨b, off, rfl, hc0, hc1, hc2⟩ := HR.out.at3 hlt
      replace hc0 := keep hbel hc0
      replace hc1 := keep hbel hc1
      replace hc2 := keep hbel hc2
      clear hbel hlaid hmk
      go_wp2_with fail
      refine (toLink _ _ _ _).mono ?_
      rintro e w2 ⟨rfl, hb2⟩
      have hL2 := HD.out.below hb2
      obtain ⟨f, hf, -⟩ := hL2.row
      have g0 := hf.cell (i := k * 3) (by omega)
      have z0 := hf.frozen (k * 3)
      have g1 := hf.cell (i := k * 3 + 1) (by omega)
      have z1 := hf.frozen (k * 3 + 1)
      have g2 := hf.cell (i := k * 3 + 2) (by omega)
      have z2 := hf.frozen (k * 3 + 2)
      have HL2 := hid hL2
      have HB2 := hid (HB.out.trans (hb2.mono HB.out.size))
      clear hb2 hL2 hf
      go_wp2
      go_roundw
      case rel => exact ⟨k + 1, by omega, by go_num, (((HB2.out.setCell (Nat.le_refl _) _).setCell (Nat.le_refl _) _).setCell (Nat.le_refl _) _), next_Link HL2.out hlt⟩
      case measure => simp [intOf]; omega
    · have e : k = len := by omega
      subst e
      clear hbel hlaid hmk
      go_wp2
      go_ret
      exact ⟨_, rfl, Nat.le_refl _, HB.out, HD.out⟩

set_option maxHeartbeats 400000 in
theorem eqLink (x0 x1 x2 : Int) (w : World) :
    Calls Tryz.prog 60 #[.agg #[.int .i64 x0, .int .i64 x1, .int .i64 x2], .agg #[.int .i64 x0, .int .i64 x1, .int .i64 x2]] w fun e w' => e = .returned (.bool true) ∧ Below w.heap.size w w' := by
  have hx0 : (x0 != x0) = false := by simp
  have hx1 : (x1 != x1) = false := by simp
  have hx2 : (x2 != x2) = false := by simp
  go_enter Tryz.func60, Tryz.ntmps60
  go_wp2
  go_ret
  exact ⟨rfl, (by repeat (first | exact Below.refl _ _ | assumption | refine Below.drew ?_ | refine Below.alloc ?_ (by first | exact Nat.le_refl _ | omega | (simp; done) | (simp; omega)) _ | refine Below.setCell ?_ (by first | exact Nat.le_refl _ | omega | (simp; done) | (simp; omega)) _))⟩

set_option maxHeartbeats 1600000 in
set_option maxRecDepth 8000 in
theorem eqLinkS (a a' : Option Addr) (len cap cap' : Nat) (g : R) (w : World) (hr : Row 3 w a len g) (hr' : Row 3 w a' len g) :
    Calls Tryz.prog 36 #[.slice a len cap, .slice a' len cap'] w fun e w' => e = .returned (.bool true) ∧ Below w.heap.size w w' := by
  have hmost := hr.most
  unfold maxLen at hmost
  have HR := hid hr
  have HR' := hid hr'
  clear hr hr'
  have hb : ((len : Int) != (len : Int)) = false := by simp
  go_enter Tryz.func36, Tryz.ntmps36
  go_wp2
  go_loopw [5] (fun i wr => ∃ k : Nat, k ≤ len ∧ i = .int .i64 k ∧ Below w.heap.size w wr) (fun i _ => len - (intOf i).toNat)
  case atStart => exact ⟨0, Nat.zero_le _, rfl, Below.refl _ _⟩
  case round =>
    obtain ⟨k, hk, rfl, hbel⟩ := hrel
    have HB := hid hbel
    by_cases hlt : k < len
    · obtain ⟨b, off, rfl, hc0, hc1, hc2⟩ := HR.out.at3 hlt
      obtain ⟨b', off', rfl, hd0, hd1, hd2⟩ := HR'.out.at3 hlt
      replace hc0 := keep hbel hc0
      replace hc1 := keep hbel hc1
      replace hc2 := keep hbel hc2
      replace hd0 := keep hbel hd0
      replace hd1 := keep hbel hd1
      replace hd2 := keep hbel hd2
      clear hbel
      generalize g k 0 = x0 at *
      generalize g k 1 = x1 at *
      generalize g k 2 = x2 at *
      go_wp2_with fail
      have HK : Hid (∀ w8 : World, Below wr.heap.size wr w8 → w8.cell? ⟨b, off + k * 3, none⟩ = some (.int .i64 x0) ∧ w8.cell? ⟨b, off + k * 3 + 1, none⟩ = some (.int .i64 x1) ∧ w8.cell? ⟨b, off + k * 3 + 2, none⟩ = some (.int .i64 x2) ∧ w8.cell? ⟨b', off' + k * 3, none⟩ = some (.int .i64 x0) ∧ w8.cell? ⟨b', off' + k * 3 + 1, none⟩ = some (.int .i64 x1) ∧ w8.cell? ⟨b', off' + k * 3 + 2, none⟩ = some (.int .i64 x2) ∧ Below wr.heap.size wr w8) :=
        fun w8 h => ⟨keep h hc0, keep h hc1, keep h hc2, keep h hd0, keep h hd1, keep h hd2, h⟩
      clear hc0 hc1 hc2 hd0 hd1 hd2
      go_region_held3 (fun w8 => w8.cell? ⟨b, off + k * 3, none⟩ = some (.int .i64 x0) ∧ w8.cell? ⟨b, off + k * 3 + 1, none⟩ = some (.int .i64 x1) ∧ w8.cell? ⟨b, off + k * 3 + 2, none⟩ = some (.int .i64 x2) ∧ w8.cell? ⟨b', off' + k * 3, none⟩ = some (.int .i64 x0) ∧ w8.cell? ⟨b', off' + k * 3 + 1, none⟩ = some (.int .i64 x1) ∧ w8.cell? ⟨b', off' + k * 3 + 2, none⟩ = some (.int .i64 x2) ∧ Below wr.heap.size wr w8)
        (refine HK.out _ (by first | assumption | exact (Below.refl _ wr).drew | exact hb57))
        ((go_at_call 60; refine (eqLink x0 x1 x2 _).mono ?_; rintro e w7 ⟨rfl, hb7⟩; have hb57 : Below wr.heap.size wr w7 := ((Below.refl _ wr).drew).trans hb7; clear hb7))
      all_goals
        have HB5 := hid hb57
        clear hb57
        go_wp2
        go_roundw
        case rel => exact ⟨k + 1, by omega, by go_num, HB.out.trans (HB5.out.mono HB.out.size)⟩
        case measure => simp [intOf]; omega
    · have e : k = len := by omega
      subst e
      clear hbel
      go_wp2
      go_ret
      exact ⟨rfl, HB.out⟩

set_option maxHeartbeats 400000 in
theorem szImportS (a : Option Addr) (len cap : Nat) (left : Int) (w : World) (hm : len ≤ maxLen) (h0 : 0 ≤ left) (h1 : left ≤ 1048576) :
    Calls Tryz.prog 22 #[.slice a len cap, .int .i64 left] w fun e w' => e = .returned (.int .i64 (if left < len then -1 else left - len)) ∧ w' = w := by
  unfold maxLen at hm
  by_cases h : left < (len : Int)
  · rw [if_pos h]
    go_enter Tryz.func22, Tryz.ntmps22
    go_wp2
    go_ret
    exact ⟨rfl, rfl⟩
  · rw [if_neg h]
    go_enter Tryz.func22, Tryz.ntmps22
    go_wp2
    go_ret
    exact ⟨rfl, rfl⟩

set_option maxHeartbeats 400000 in
theorem toImport (x0 x1 x2 x3 x4 : Int) (w : World) :
    Calls Tryz.prog 51 #[.agg #[.int .i64 x0, .int .i64 x1, .int .i64 x2, .int .i64 x3, .int .i64 x4]] w fun e w' => e = .returned (.agg #[.int .i64 x0, .int .i64 x1, .int .i64 x2, .int .i64 x3, .int .i64 x4]) ∧ Below w.heap.size w w' := by
  go_enter Tryz.func51, Tryz.ntmps51
  go_wp2
  refine bodyPost_ret (v := .agg #[.int .i64 x0, .int .i64 x1, .int .i64 x2, .int .i64 x3, .int .i64 x4]) (by simp [results, Tryz.results51, go_sem]) rfl ⟨rfl, (by repeat (first | exact Below.refl _ _ | assumption | refine Below.drew ?_ | refine Below.alloc ?_ (by first | exact Nat.le_refl _ | omega | (simp; done) | (simp; omega)) _ | refine Below.setCell ?_ (by first | exact Nat.le_refl _ | omega | (simp; done) | (simp; omega)) _))⟩

theorem info_Import : (Tryz.prog.info? 90).map (fun i => (i.zero, i.size, i.bytes)) = some (some (.agg #[.int .i64 0, .int .i64 0, .int .i64 0, .int .i64 0, .int .i64 0]), 5, 5 * 8) := by kernel_rfl
theorem run_make_Import (n : Nat) (h : n ≤ 1048576) (w : World) :
    (Instr.makeSlice 35 (.int .i64 (n : Int)) (.int .i64 (n : Int))).run Tryz.prog w = .ok (.slice (some ⟨w.heap.size, 0, none⟩) n n) (w.alloc (.cells (madeCells #[.int .i64 0, .int .i64 0, .int .i64 0, .int .i64 0, .int .i64 0] (n * 5)) 90)) := by
  obtain ⟨i, hi, hzz⟩ := Option.map_eq_some_iff.1 info_Import
  simp only [Prod.mk.injEq] at hzz
  obtain ⟨hz, hs, hb⟩ := hzz
  have hr := run_make (P := Tryz.prog) w 35 90 i _ Tryz.underlying35 hi hz .i64 .i64 n n (by omega) (Int.le_refl _) (by rw [hb]; omega) (by omega)
  simp only [Int.toNat_natCast, hs] at hr
  exact hr
theorem next_Import {w : World} {N len k : Nat} {g : R} (h : Laid 90 5 w N len k g) (hk : k < len) : Laid 90 5 (((((w.setCell ⟨N, k * 5, none⟩ (.int .i64 (g k 0))).setCell ⟨N, k * 5 + 1, none⟩ (.int .i64 (g k 1))).setCell ⟨N, k * 5 + 2, none⟩ (.int .i64 (g k 2))).setCell ⟨N, k * 5 + 3, none⟩ (.int .i64 (g k 3))).setCell ⟨N, k * 5 + 4, none⟩ (.int .i64 (g k 4))) N len (k + 1) g := by
  obtain ⟨f, hf, hc⟩ := h.row
  refine ⟨_, (((((hf.set (k * 5 + 0) _).set (k * 5 + 1) _).set (k * 5 + 2) _).set (k * 5 + 3) _).set (k * 5 + 4) _), fun i hi j hj => ?_⟩
  by_cases e0 : i = k ∧ j = 0
  · obtain ⟨rfl, rfl⟩ := e0
    rw [if_neg (by omega), if_neg (by omega), if_neg (by omega), if_neg (by omega), if_pos rfl]
  by_cases e1 : i = k ∧ j = 1
  · obtain ⟨rfl, rfl⟩ := e1
    rw [if_neg (by omega), if_neg (by omega), if_neg (by omega), if_pos rfl]
  by_cases e2 : i = k ∧ j = 2
  · obtain ⟨rfl, rfl⟩ := e2
    rw [if_neg (by omega), if_neg (by omega), if_pos rfl]
  by_cases e3 : i = k ∧ j = 3
  · obtain ⟨rfl, rfl⟩ := e3
    rw [if_neg (by omega), if_pos rfl]
  by_cases e4 : i = k ∧ j = 4
  · obtain ⟨rfl, rfl⟩ := e4
    rw [if_pos rfl]
  rw [if_neg (at_ne hj (by decide) e4), if_neg (at_ne hj (by decide) e3), if_neg (at_ne hj (by decide) e2), if_neg (at_ne hj (by decide) e1), if_neg (at_ne hj (by decide) e0)]
  exact hc i (by omega) j hj

set_option maxHeartbeats 1600000 in
theorem toImportS (a : Option Addr) (len cap : Nat) (g : R) (w : World) (hr : Row 5 w a len g) (hb : len ≤ 1048576) :
    Calls Tryz.prog 28 #[.slice a len cap] w fun e w' => ∃ N, e = .returned (.slice (some ⟨N, 0, none⟩) len len) ∧ w.heap.size ≤ N ∧ Below w.heap.size w w' ∧ Laid 90 5 w' N len len g := by
  have HR := hid hr
  clear hr
  have hmk := run_make_Import len hb
  go_enter Tryz.func28, Tryz.ntmps28
  go_wp2
  go_loopw [4] (fun i wr => ∃ k : Nat, k ≤ len ∧ i = .int .i64 k ∧ Below w.heap.size w wr ∧ Laid 90 5 wr w.heap.size len k g) (fun i _ => len - (intOf i).toNat)
  case atStart => exact ⟨0, Nat.zero_le _, rfl, (Below.refl _ _).alloc (Nat.le_refl _) _, ⟨fun i => (madeCells #[.int .i64 0, .int .i64 0, .int .i64 0, .int .i64 0, .int .i64 0] (len * 5))[i]?.getD undef, by
      have := World.rowIs_alloc w (madeCells #[.int .i64 0, .int .i64 0, .int .i64 0, .int .i64 0, .int .i64 0] (len * 5)) 90 (fun i => (madeCells #[.int .i64 0, .int .i64 0, .int .i64 0, .int .i64 0, .int .i64 0] (len * 5))[i]?.getD undef) (fun i hi => by rw [Array.getElem?_eq_getElem hi]; rfl)
      rwa [size_madeCells] at this, fun i hi => absurd hi (Nat.not_lt_zero _)⟩⟩
  case round =>
    obtain ⟨k, hk, rfl, hbel, hlaid⟩ := hrel
    have HB := hid hbel
    have HD := hid hlaid
    by_cases hlt : k < len
    · obtain ⟨b, off, rfl, hc0, hc1, hc2, hc3, hc4⟩ := HR.out.at5 hlt
      replace hc0 := keep hbel hc0
      replace hc1 := keep hbel hc1
      replace hc2 := keep hbel hc2
      replace hc3 := keep hbel hc3
      replace hc4 := keep hbel hc4
      clear hbel hlaid hmk
      go_wp2_with fail
      refine (toImport _ _ _ _ _ _).mono ?_
      rintro e w2 ⟨rfl, hb2⟩
      have hL2 := HD.out.below hb2
      obtain ⟨f, hf, -⟩ := hL2.row
      have g0 := hf.cell (i := k * 5) (by omega)
      have z0 := hf.frozen (k * 5)
      have g1 := hf.cell (i := k * 5 + 1) (by omega)
      have z1 := hf.frozen (k * 5 + 1)
      have g2 := hf.cell (i := k * 5 + 2) (by omega)
      have z2 := hf.frozen (k * 5 + 2)
      have g3 := hf.cell (i := k * 5 + 3) (by omega)
      have z3 := hf.frozen (k * 5 + 3)
      have g4 := hf.cell (i := k * 5 + 4) (by omega)
      have z4 := hf.frozen (k * 5 + 4)
      have HL2 := hid hL2
      have HB2 := hid (HB.out.trans (hb2.mono HB.out.size))
      clear hb2 hL2 hf
      go_wp2
      go_roundw
      case rel => exact ⟨k + 1, by omega, by go_num, (((((HB2.out.setCell (Nat.le_refl _) _).setCell (Nat.le_refl _) _).setCell (Nat.le_refl _) _).setCell (Nat.le_refl _) _).setCell (Nat.le_refl _) _), next_Import HL2.out hlt⟩
      case measure => simp [intOf]; omega
    · have e : k = len := by omega
      subst e
      clear hbel hlaid hmk
      go_wp2
      go_ret
      exact ⟨_, rfl, Nat.le_refl _, HB.out, HD.out⟩

set_option maxHeartbeats 400000 in
theorem eqImport (x0 x1 x2 x3 x4 : Int) (w : World) :
    Calls Tryz.prog 61 #[.agg #[.int .i64 x0, .int .i64 x1, .int .i64 x2, .int .i64 x3, .int .i64 x4], .agg #[.int .i64 x0, .int .i64 x1, .int .i64 x2, .int .i64 x3, .int .i64 x4]] w fun e w' => e = .returned (.bool true) ∧ Below w.heap.size w w' := by
  have hx0 : (x0 != x0) = false := by simp
  have hx1 : (x1 != x1) = false := by simp
  have hx2 : (x2 != x2) = false := by simp
  have hx3 : (x3 != x3) = false := by simp
  have hx4 : (x4 != x4) = false := by simp
  go_enter Tryz.func61, Tryz.ntmps61
  go_wp2
  go_ret
  exact ⟨rfl, (by repeat (first | exact Below.refl _ _ | assumption | refine Below.drew ?_ | refine Below.alloc ?_ (by first | exact Nat.le_refl _ | omega | (simp; done) | (simp; omega)) _ | refine Below.setCell ?_ (by first | exact Nat.le_refl _ | omega | (simp; done) | (simp; omega)) _))⟩

set_option maxHeartbeats 1600000 in
set_option maxRecDepth 8000 in
theorem eqImportS (a a' : Option Addr) (len cap cap' : Nat) (g : R) (w : World) (hr : Row 5 w a len g) (hr' : Row 5 w a' len g) :
    Calls Tryz.prog 37 #[.slice a len cap, .slice a' len cap'] w fun e w' => e = .returned (.bool true) ∧ Below w.heap.size w w' := by
  have hmost := hr.most
  unfold maxLen at hmost
  have HR := hid hr
  have HR' := hid hr'
  clear hr hr'
  have hb : ((len : Int) != (len : Int)) = false := by simp
  go_enter Tryz.func37, Tryz.ntmps37
  go_wp2
  go_loopw [5] (fun i wr => ∃ k : Nat, k ≤ len ∧ i = .int .i64 k ∧ Below w.heap.size w wr) (fun i _ => len - (intOf i).toNat)
  case atStart => exact ⟨0, Nat.zero_le _, rfl, Below.refl _ _⟩
  case round =>
    obtain ⟨k, hk, rfl, hbel⟩ := hrel
    have HB := hid hbel
    by_cases hlt : k < len
    · obtain ⟨b, off, rfl, hc0, hc1, hc2, hc3, hc4⟩ := HR.out.at5 hlt
      obtain ⟨b', off', rfl, hd0, hd1, hd2, hd3, hd4⟩ := HR'.out.at5 hlt
      replace hc0 := keep hbel hc0
      replace hc1 := keep hbel hc1
      replace hc2 := keep hbel hc2
      replace hc3 := keep hbel hc3
      replace hc4 := keep hbel hc4
      replace hd0 := keep hbel hd0
      replace hd1 := keep hbel hd1
      replace hd2 := keep hbel hd2
      replace hd3 := keep hbel hd3
      replace hd4 := keep hbel hd4
      clear hbel
      generalize g k 0 = x0 at *
      generalize g k 1 = x1 at *
      generalize g k 2 = x2 at *
      generalize g k 3 = x3 at *
      generalize g k 4 = x4 at *
      go_wp2_with fail
      have HK : Hid (∀ w8 : World, Below wr.heap.size wr w8 → w8.cell? ⟨b, off + k * 5, none⟩ = some (.int .i64 x0) ∧ w8.cell? ⟨b, off + k * 5 + 1, none⟩ = some (.int .i64 x1) ∧ w8.cell? ⟨b, off + k * 5 + 2, none⟩ = some (.int .i64 x2) ∧ w8.cell? ⟨b, off + k * 5 + 3, none⟩ = some (.int .i64 x3) ∧ w8.cell? ⟨b, off + k * 5 + 4, none⟩ = some (.int .i64 x4) ∧ w8.cell? ⟨b', off' + k * 5, none⟩ = some (.int .i64 x0) ∧ w8.cell? ⟨b', off' + k * 5 + 1, none⟩ = some (.int .i64 x1) ∧ w8.cell? ⟨b', off' + k * 5 + 2, none⟩ = some (.int .i64 x2) ∧ w8.cell? ⟨b', off' + k * 5 + 3, none⟩ = some (.int .i64 x3) ∧ w8.cell? ⟨b', off' + k * 5 + 4, none⟩ = some (.int .i64 x4) ∧ Below wr.heap.size wr w8) :=
        fun w8 h => ⟨keep h hc0, keep h hc1, keep h hc2, keep h hc3, keep h hc4, keep h hd0, keep h hd1, keep h hd2, keep h hd3, keep h hd4, h⟩
      clear hc0 hc1 hc2 hc3 hc4 hd0 hd1 hd2 hd3 hd4
      go_region_held3 (fun w8 => w8.cell? ⟨b, off + k * 5, none⟩ = some (.int .i64 x0) ∧ w8.cell? ⟨b, off + k * 5 + 1, none⟩ = some (.int .i64 x1) ∧ w8.cell? ⟨b, off + k * 5 + 2, none⟩ = some (.int .i64 x2) ∧ w8.cell? ⟨b, off + k * 5 + 3, none⟩ = some (.int .i64 x3) ∧ w8.cell? ⟨b, off + k * 5 + 4, none⟩ = some (.int .i64 x4) ∧ w8.cell? ⟨b', off' + k * 5, none⟩ = some (.int .i64 x0) ∧ w8.cell? ⟨b', off' + k * 5 + 1, none⟩ = some (.int .i64 x1) ∧ w8.cell? ⟨b', off' + k * 5 + 2, none⟩ = some (.int .i64 x2) ∧ w8.cell? ⟨b', off' + k * 5 + 3, none⟩ = some (.int .i64 x3) ∧ w8.cell? ⟨b', off' + k * 5 + 4, none⟩ = some (.int .i64 x4) ∧ Below wr.heap.size wr w8)
        (refine HK.out _ (by first | assumption | exact (Below.refl _ wr).drew | exact hb57))
        ((go_at_call 61; refine (eqImport x0 x1 x2 x3 x4 _).mono ?_; rintro e w7 ⟨rfl, hb7⟩; have hb57 : Below wr.heap.size wr w7 := ((Below.refl _ wr).drew).trans hb7; clear hb7))
      all_goals
        have HB5 := hid hb57
        clear hb57
        go_wp2
        go_roundw
        case rel => exact ⟨k + 1, by omega, by go_num, HB.out.trans (HB5.out.mono HB.out.size)⟩
        case measure => simp [intOf]; omega
    · have e : k = len := by omega
      subst e
      clear hbel
      go_wp2
      go_ret
      exact ⟨rfl, HB.out⟩

set_option maxHeartbeats 400000 in
theorem szFilterS (a : Option Addr) (len cap : Nat) (left : Int) (w : World) (hm : len ≤ maxLen) (h0 : 0 ≤ left) (h1 : left ≤ 1048576) :
    Calls Tryz.prog 23 #[.slice a len cap, .int .i64 left] w fun e w' => e = .returned (.int .i64 (if left < len then -1 else left - len)) ∧ w' = w := by
  unfold maxLen at hm
  by_cases h : left < (len : Int)
  · rw [if_pos h]
    go_enter Tryz.func23, Tryz.ntmps23
    go_wp2
    go_ret
    exact ⟨rfl, rfl⟩
  · rw [if_neg h]
    go_enter Tryz.func23, Tryz.ntmps23
    go_wp2
    go_ret
    exact ⟨rfl, rfl⟩

set_option maxHeartbeats 400000 in
theorem toFilter (x0 x1 x2 x3 : Int) (w : World) :
    Calls Tryz.prog 52 #[.agg #[.int .i64 x0, .int .i64 x1, .int .i64 x2, .int .i64 x3]] w fun e w' => e = .returned (.agg #[.int .i64 x0, .int .i64 x1, .int .i64 x2, .int .i64 x3]) ∧ Below w.heap.size w w' := by
  go_enter Tryz.func52, Tryz.ntmps52
  go_wp2
  refine bodyPost_ret (v := .agg #[.int .i64 x0, .int .i64 x1, .int .i64 x2, .int .i64 x3]) (by simp [results, Tryz.results52, go_sem]) rfl ⟨rfl, (by repeat (first | exact Below.refl _ _ | assumption | refine Below.drew ?_ | refine Below.alloc ?_ (by first | exact Nat.le_refl _ | omega | (simp; done) | (simp; omega)) _ | refine Below.setCell ?_ (by first | exact Nat.le_refl _ | omega | (simp; done) | (simp; omega)) _))⟩

theorem info_Filter : (Tryz.prog.info? 94).map (fun i => (i.zero, i.size, i.bytes)) = some (some (.agg #[.int .i64 0, .int .i64 0, .int .i64 0, .int .i64 0]), 4, 4 * 8) := by kernel_rfl
theorem run_make_Filter (n : Nat) (h : n ≤ 1048576) (w : World) :
    (Instr.makeSlice 36 (.int .i64 (n : Int)) (.int .i64 (n : Int))).run Tryz.prog w = .ok (.slice (some ⟨w.heap.size, 0, none⟩) n n) (w.alloc (.cells (madeCells #[.int .i64 0, .int .i64 0, .int .i64 0, .int .i64 0] (n * 4)) 94)) := by
  obtain ⟨i, hi, hzz⟩ := Option.map_eq_some_iff.1 info_Filter
  simp only [Prod.mk.injEq] at hzz
  obtain ⟨hz, hs, hb⟩ := hzz
  have hr := run_make (P := Tryz.prog) w 36 94 i _ Tryz.underlying36 hi hz .i64 .i64 n n (by omega) (Int.le_refl _) (by rw [hb]; omega) (by omega)
  simp only [Int.toNat_natCast, hs] at hr
  exact hr
theorem next_Filter {w : World} {N len k : Nat} {g : R} (h : Laid 94 4 w N len k g) (hk : k < len) : Laid 94 4 ((((w.setCell ⟨N, k * 4, none⟩ (.int .i64 (g k 0))).setCell ⟨N, k * 4 + 1, none⟩ (.int .i64 (g k 1))).setCell ⟨N, k * 4 + 2, none⟩ (.int .i64 (g k 2))).setCell ⟨N, k * 4 + 3, none⟩ (.int .i64 (g k 3))) N len (k + 1) g := by
  obtain ⟨f, hf, hc⟩ := h.row
  refine ⟨_, ((((hf.set (k * 4 + 0) _).set (k * 4 + 1) _).set (k * 4 + 2) _).set (k * 4 + 3) _), fun i hi j hj => ?_⟩
  by_cases e0 : i = k ∧ j = 0
  · obtain ⟨rfl, rfl⟩ := e0
    rw [if_neg (by omega), if_neg (by omega), if_neg (by omega), if_pos rfl]
  by_cases e1 : i = k ∧ j = 1
  · obtain ⟨rfl, rfl⟩ := e1
    rw [if_neg (by omega), if_neg (by omega), if_pos rfl]
  by_cases e2 : i = k ∧ j = 2
  · obtain ⟨rfl, rfl⟩ := e2
    rw [if_neg (by omega), if_pos rfl]
  by_cases e3 : i = k ∧ j = 3
  · obtain ⟨rfl, rfl⟩ := e3
    rw [if_pos rfl]
  rw [if_neg (at_ne hj (by decide) e3), if_neg (at_ne hj (by decide) e2), if_neg (at_ne hj (by decide) e1), if_neg (at_ne hj (by decide) e0)]
  exact hc i (by omega) j hj

set_option maxHeartbeats 1600000 in
theorem toFilterS (a : Option Addr) (len cap : Nat) (g : R) (w : World) (hr : Row 4 w a len g) (hb : len ≤ 1048576) :
    Calls Tryz.prog 29 #[.slice a len cap] w fun e w' => ∃ N, e = .returned (.slice (some ⟨N, 0, none⟩) len len) ∧ w.heap.size ≤ N ∧ Below w.heap.size w w' ∧ Laid 94 4 w' N len len g := by
  have HR := hid hr
  clear hr
  have hmk := run_make_Filter len hb
  go_enter Tryz.func29, Tryz.ntmps29
  go_wp2
  go_loopw [4] (fun i wr => ∃ k : Nat, k ≤ len ∧ i = .int .i64 k ∧ Below w.heap.size w wr ∧ Laid 94 4 wr w.heap.size len k g) (fun i _ => len - (intOf i).toNat)
  case atStart => exact ⟨0, Nat.zero_le _, rfl, (Below.refl _ _).alloc (Nat.le_refl _) _, ⟨fun i => (madeCells #[.int .i64 0, .int .i64 0, .int .i64 0, .int .i64 0] (len * 4))[i]?.getD undef, by
      have := World.rowIs_alloc w (madeCells #[.int .i64 0, .int .i64 0, .int .i64 0, .int .i64 0] (len * 4)) 94 (fun i => (madeCells #[.int .i64 0, .int .i64 0, .int .i64 0, .int .i64 0] (len * 4))[i]?.getD undef) (fun i hi => by rw [Array.getElem?_eq_getElem hi]; rfl)
      rwa [size_madeCells] at this, fun i hi => absurd hi (Nat.not_lt_zero _)⟩⟩
  case round =>
    obtain ⟨k, hk, rfl, hbel, hlaid⟩ := hrel
    have HB := hid hbel
    have HD := hid hlaid
    by_cases hlt : k < len
    · obtain ⟨b, off, rfl, hc0, hc1, hc2, hc3⟩ := HR.out.at4 hlt
      replace hc0 := keep hbel hc0
      replace hc1 := keep hbel hc1
      replace hc2 := keep hbel hc2
      replace hc3 := keep hbel hc3
      clear hbel hlaid hmk
      go_wp2_with fail
      refine (toFilter _ _ _ _ _).mono ?_
      rintro e w2 ⟨rfl, hb2⟩
      have hL2 := HD.out.below hb2
      obtain ⟨f, hf, -⟩ := hL2.row
      have g0 := hf.cell (i := k * 4) (by omega)
      have z0 := hf.frozen (k * 4)
      have g1 := hf.cell (i := k * 4 + 1) (by omega)
      have z1 := hf.frozen (k * 4 + 1)
      have g2 := hf.cell (i := k * 4 + 2) (by omega)
      have z2 := hf.frozen (k * 4 + 2)
      have g3 := hf.cell (i := k * 4 + 3) (by omega)
      have z3 := hf.frozen (k * 4 + 3)
      have HL2 := hid hL2
      have HB2 := hid (HB.out.trans (hb2.mono HB.out.size))
      clear hb2 hL2 hf
      go_wp2
      go_roundw
      case rel => exact ⟨k + 1, by omega, by go_num, ((((HB2.out.setCell (Nat.le_refl _) _).setCell (Nat.le_refl _) _).setCell (Nat.le_refl _) _).setCell (Nat.le_refl _) _), next_Filter HL2.out hlt⟩
      case measure => simp [intOf]; omega
    · have e : k = len := by omega
      subst e
      clear hbel hlaid hmk
      go_wp2
      go_ret
      exact ⟨_, rfl, Nat.le_refl _, HB.out, HD.out⟩

set_option maxHeartbeats 400000 in
theorem eqFilter (x0 x1 x2 x3 : Int) (w : World) :
    Calls Tryz.prog 62 #[.agg #[.int .i64 x0, .int .i64 x1, .int .i64 x2, .int .i64 x3], .agg #[.int .i64 x0, .int .i64 x1, .int .i64 x2, .int .i64 x3]] w fun e w' => e = .returned (.bool true) ∧ Below w.heap.size w w' := by
  have hx0 : (x0 != x0) = false := by simp
  have hx1 : (x1 != x1) = false := by simp
  have hx2 : (x2 != x2) = false := by simp
  have hx3 : (x3 != x3) = false := by simp
  go_enter Tryz.func62, Tryz.ntmps62
  go_wp2
  go_ret
  exact ⟨rfl, (by repeat (first | exact Below.refl _ _ | assumption | refine Below.drew ?_ | refine Below.alloc ?_ (by first | exact Nat.le_refl _ | omega | (simp; done) | (simp; omega)) _ | refine Below.setCell ?_ (by first | exact Nat.le_refl _ | omega | (simp; done) | (simp; omega)) _))⟩

set_option maxHeartbeats 1600000 in
set_option maxRecDepth 8000 in
theorem eqFilterS (a a' : Option Addr) (len cap cap' : Nat) (g : R) (w : World) (hr : Row 4 w a len g) (hr' : Row 4 w a' len g) :
    Calls Tryz.prog 38 #[.slice a len cap, .slice a' len cap'] w fun e w' => e = .returned (.bool true) ∧ Below w.heap.size w w' := by
  have hmost := hr.most
  unfold maxLen at hmost
  have HR := hid hr
  have HR' := hid hr'
  clear hr hr'
  have hb : ((len : Int) != (len : Int)) = false := by simp
  go_enter Tryz.func38, Tryz.ntmps38
  go_wp2
  go_loopw [5] (fun i wr => ∃ k : Nat, k ≤ len ∧ i = .int .i64 k ∧ Below w.heap.size w wr) (fun i _ => len - (intOf i).toNat)
  case atStart => exact ⟨0, Nat.zero_le _, rfl, Below.refl _ _⟩
  case round =>
    obtain ⟨k, hk, rfl, hbel⟩ := hrel
    have HB := hid hbel
    by_cases hlt : k < len
    · obtain ⟨b, off, rfl, hc0, hc1, hc2, hc3⟩ := HR.out.at4 hlt
      obtain ⟨b', off', rfl, hd0, hd1, hd2, hd3⟩ := HR'.out.at4 hlt
      replace hc0 := keep hbel hc0
      replace hc1 := keep hbel hc1
      replace hc2 := keep hbel hc2
      replace hc3 := keep hbel hc3
      replace hd0 := keep hbel hd0
      replace hd1 := keep hbel hd1
      replace hd2 := keep hbel hd2
      replace hd3 := keep hbel hd3
      clear hbel
      generalize g k 0 = x0 at *
      generalize g k 1 = x1 at *
      generalize g k 2 = x2 at *
      generalize g k 3 = x3 at *
      go_wp2_with fail
      have HK : Hid (∀ w8 : World, Below wr.heap.size wr w8 → w8.cell? ⟨b, off + k * 4, none⟩ = some (.int .i64 x0) ∧ w8.cell? ⟨b, off + k * 4 + 1, none⟩ = some (.int .i64 x1) ∧ w8.cell? ⟨b, off + k * 4 + 2, none⟩ = some (.int .i64 x2) ∧ w8.cell? ⟨b, off + k * 4 + 3, none⟩ = some (.int .i64 x3) ∧ w8.cell? ⟨b', off' + k * 4, none⟩ = some (.int .i64 x0) ∧ w8.cell? ⟨b', off' + k * 4 + 1, none⟩ = some (.int .i64 x1) ∧ w8.cell? ⟨b', off' + k * 4 + 2, none⟩ = some (.int .i64 x2) ∧ w8.cell? ⟨b', off' + k * 4 + 3, none⟩ = some (.int .i64 x3) ∧ Below wr.heap.size wr w8) :=
        fun w8 h => ⟨keep h hc0, keep h hc1, keep h hc2, keep h hc3, keep h hd0, keep h hd1, keep h hd2, keep h hd3, h⟩
      clear hc0 hc1 hc2 hc3 hd0 hd1 hd2 hd3
      go_region_held3 (fun w8 => w8.cell? ⟨b, off + k * 4, none⟩ = some (.int .i64 x0) ∧ w8.cell? ⟨b, off + k * 4 + 1, none⟩ = some (.int .i64 x1) ∧ w8.cell? ⟨b, off + k * 4 + 2, none⟩ = some (.int .i64 x2) ∧ w8.cell? ⟨b, off + k * 4 + 3, none⟩ = some (.int .i64 x3) ∧ w8.cell? ⟨b', off' + k * 4, none⟩ = some (.int .i64 x0) ∧ w8.cell? ⟨b', off' + k * 4 + 1, none⟩ = some (.int .i64 x1) ∧ w8.cell? ⟨b', off' + k * 4 + 2, none⟩ = some (.int .i64 x2) ∧ w8.cell? ⟨b', off' + k * 4 + 3, none⟩ = some (.int .i64 x3) ∧ Below wr.heap.size wr w8)
        (refine HK.out _ (by first | assumption | exact (Below.refl _ wr).drew | exact hb57))
        ((go_at_call 62; refine (eqFilter x0 x1 x2 x3 _).mono ?_; rintro e w7 ⟨rfl, hb7⟩; have hb57 : Below wr.heap.size wr w7 := ((Below.refl _ wr).drew).trans hb7; clear hb7))
      all_goals
        have HB5 := hid hb57
        clear hb57
        go_wp2
        go_roundw
        case rel => exact ⟨k + 1, by omega, by go_num, HB.out.trans (HB5.out.mono HB.out.size)⟩
        case measure => simp [intOf]; omega
    · have e : k = len := by omega
      subst e
      clear hbel
      go_wp2
      go_ret
      exact ⟨rfl, HB.out⟩
end Go.Proofs.YtoaeieehbplggaaGreat.netCopy

/- Networks: the laws' own helpers that count, copy and compare a whole one; conditions: lengths that fit. -/
namespace Go.Proofs.YtoaeieehbplggaaGreat.netWhole
open Go.RowKit Go.Deep base copy netSem netCopy
set_option linter.unusedVariables false

set_option maxHeartbeats 800000 in
theorem szNet (p : Nat → Option Addr) (l c : Nat → Nat) (s : Ss) (g : R) (o e : List Int) (x f : R) (left : Int) (w : World) (h : NetIs w p l s g o e x f) (h0 : 0 ≤ left) (h1 : left ≤ 1048576) :
    Calls Tryz.prog 4 #[netV p l c, .int .i64 left] w fun e' w' => ∃ r : Int, e' = .returned (.int .i64 r) ∧ Below w.heap.size w w' ∧ -1 ≤ r ∧ r ≤ left ∧ (0 ≤ r → ∀ i, i < 6 → l i ≤ 1048576) := by
  have HN := hid h
  have m0 := h.routers.most
  have m1 := h.links.most
  have m2 := h.origins.most
  have m3 := h.externals.most
  have m4 := h.imports.most
  have m5 := h.filters.most
  clear h
  have C1 : ∀ w8 : World, Below ((w.alloc (.cells #[.slice (p 0) (l 0) (c 0), .slice (p 1) (l 1) (c 1), .slice (p 2) (l 2) (c 2), .slice (p 3) (l 3) (c 3), .slice (p 4) (l 4) (c 4), .slice (p 5) (l 5) (c 5)] 28))).heap.size (w.alloc (.cells #[.slice (p 0) (l 0) (c 0), .slice (p 1) (l 1) (c 1), .slice (p 2) (l 2) (c 2), .slice (p 3) (l 3) (c 3), .slice (p 4) (l 4) (c 4), .slice (p 5) (l 5) (c 5)] 28)) w8 → w8.cell? ⟨w.heap.size, 0, none⟩ = some (.slice (p 0) (l 0) (c 0)) ∧ w8.cell? ⟨w.heap.size, 1, none⟩ = some (.slice (p 1) (l 1) (c 1)) ∧ w8.cell? ⟨w.heap.size, 2, none⟩ = some (.slice (p 2) (l 2) (c 2)) ∧ w8.cell? ⟨w.heap.size, 3, none⟩ = some (.slice (p 3) (l 3) (c 3)) ∧ w8.cell? ⟨w.heap.size, 4, none⟩ = some (.slice (p 4) (l 4) (c 4)) ∧ w8.cell? ⟨w.heap.size, 5, none⟩ = some (.slice (p 5) (l 5) (c 5)) ∧ Below w.heap.size w w8 :=
    fun w8 hb => ⟨keep hb (by simp [go_sem]), keep hb (by simp [go_sem]), keep hb (by simp [go_sem]), keep hb (by simp [go_sem]), keep hb (by simp [go_sem]), keep hb (by simp [go_sem]), (show Below w.heap.size w _ from (by repeat (first | exact Below.refl _ _ | assumption | refine Below.drew ?_ | refine Below.alloc ?_ (by first | exact Nat.le_refl _ | omega | (simp; done) | (simp; omega)) _ | refine Below.setCell ?_ (by first | exact Nat.le_refl _ | omega | (simp; done) | (simp; omega)) _))).trans (hb.mono (by simp))⟩
  have HC1 := hid C1
  clear C1
  unfold netV
  go_enter Tryz.func4, Tryz.ntmps4
  go_wp2_with fail
  refine (szStringS (p 0) (l 0) (c 0) s left _ (HN.out.routers.below (by repeat (first | exact Below.refl _ _ | assumption | refine Below.drew ?_ | refine Below.alloc ?_ (by first | exact Nat.le_refl _ | omega | (simp; done) | (simp; omega)) _ | refine Below.setCell ?_ (by first | exact Nat.le_refl _ | omega | (simp; done) | (simp; omega)) _))) h0 h1).mono ?_
  rintro e' w1 ⟨r0, rfl, ha0, hb0, hc0, n, hw⟩
  have hb1 := below_drewN (w.alloc (.cells #[.slice (p 0) (l 0) (c 0), .slice (p 1) (l 1) (c 1), .slice (p 2) (l 2) (c 2), .slice (p 3) (l 3) (c 3), .slice (p 4) (l 4) (c 4), .slice (p 5) (l 5) (c 5)] 28)) n
  rw [← hw] at hb1
  clear hw
  obtain ⟨q0, q1, q2, q3, q4, q5, hB⟩ := HC1.out w1 hb1
  have B1 := hid hB
  have HC0 := hid hc0
  clear hb1 hB hc0
  by_cases hneg : r0 < 0
  · go_wp2
    go_ret
    exact ⟨_, rfl, B1.out, by omega, by omega, by omega⟩
  by_cases hn1 : r0 < (l 1 : Int)
  · go_wp2_with fail
    refine (szLinkS (p 1) (l 1) (c 1) (r0) _ m1 (by omega) (by omega)).mono ?_
    rintro e' w2 ⟨rfl, rfl⟩
    rw [if_pos (by omega)]
    go_wp2
    go_ret
    exact ⟨_, rfl, by first | exact B1.out | assumption, by omega, by omega, by omega⟩
  go_wp2_with fail
  refine (szLinkS (p 1) (l 1) (c 1) (r0) _ m1 (by omega) (by omega)).mono ?_
  rintro e' w2 ⟨rfl, rfl⟩
  rw [if_neg (by omega)]
  by_cases hn2 : r0 - (l 1 : Int) < (l 2 : Int)
  · go_wp2_with fail
    refine (szIntS (p 2) (l 2) (c 2) (r0 - (l 1 : Int)) _ m2 (by omega) (by omega)).mono ?_
    rintro e' w2 ⟨rfl, rfl⟩
    rw [if_pos (by omega)]
    go_wp2
    go_ret
    exact ⟨_, rfl, by first | exact B1.out | assumption, by omega, by omega, by omega⟩
  go_wp2_with fail
  refine (szIntS (p 2) (l 2) (c 2) (r0 - (l 1 : Int)) _ m2 (by omega) (by omega)).mono ?_
  rintro e' w3 ⟨rfl, rfl⟩
  rw [if_neg (by omega)]
  by_cases hn3 : r0 - (l 1 : Int) - (l 2 : Int) < (l 3 : Int)
  · go_wp2_with fail
    refine (szIntS (p 3) (l 3) (c 3) (r0 - (l 1 : Int) - (l 2 : Int)) _ m3 (by omega) (by omega)).mono ?_
    rintro e' w2 ⟨rfl, rfl⟩
    rw [if_pos (by omega)]
    go_wp2
    go_ret
    exact ⟨_, rfl, by first | exact B1.out | assumption, by omega, by omega, by omega⟩
  go_wp2_with fail
  refine (szIntS (p 3) (l 3) (c 3) (r0 - (l 1 : Int) - (l 2 : Int)) _ m3 (by omega) (by omega)).mono ?_
  rintro e' w4 ⟨rfl, rfl⟩
  rw [if_neg (by omega)]
  by_cases hn4 : r0 - (l 1 : Int) - (l 2 : Int) - (l 3 : Int) < (l 4 : Int)
  · go_wp2_with fail
    refine (szImportS (p 4) (l 4) (c 4) (r0 - (l 1 : Int) - (l 2 : Int) - (l 3 : Int)) _ m4 (by omega) (by omega)).mono ?_
    rintro e' w2 ⟨rfl, rfl⟩
    rw [if_pos (by omega)]
    go_wp2
    go_ret
    exact ⟨_, rfl, by first | exact B1.out | assumption, by omega, by omega, by omega⟩
  go_wp2_with fail
  refine (szImportS (p 4) (l 4) (c 4) (r0 - (l 1 : Int) - (l 2 : Int) - (l 3 : Int)) _ m4 (by omega) (by omega)).mono ?_
  rintro e' w5 ⟨rfl, rfl⟩
  rw [if_neg (by omega)]
  by_cases hn5 : r0 - (l 1 : Int) - (l 2 : Int) - (l 3 : Int) - (l 4 : Int) < (l 5 : Int)
  · go_wp2_with fail
    refine (szFilterS (p 5) (l 5) (c 5) (r0 - (l 1 : Int) - (l 2 : Int) - (l 3 : Int) - (l 4 : Int)) _ m5 (by omega) (by omega)).mono ?_
    rintro e' w2 ⟨rfl, rfl⟩
    rw [if_pos (by omega)]
    go_wp2
    go_ret
    exact ⟨_, rfl, by first | exact B1.out | assumption, by omega, by omega, by omega⟩
  go_wp2_with fail
  refine (szFilterS (p 5) (l 5) (c 5) (r0 - (l 1 : Int) - (l 2 : Int) - (l 3 : Int) - (l 4 : Int)) _ m5 (by omega) (by omega)).mono ?_
  rintro e' w6 ⟨rfl, rfl⟩
  rw [if_neg (by omega)]
  go_wp2
  go_ret
  refine ⟨_, rfl, by first | exact B1.out | assumption, by omega, by omega, fun _ i hi => ?_⟩
  have := HC0.out (by omega)
  match i, hi with
  | 0, _ => omega
  | 1, _ => omega
  | 2, _ => omega
  | 3, _ => omega
  | 4, _ => omega
  | 5, _ => omega
  | i + 6, hi => omega

/-- The boxes of toNet: its argument, its answer, and the network that it makes. -/
structure TN (S : Nat) (w : World) (p : Nat → Option Addr) (l c : Nat → Nat) (v : Nat → Value) : Prop where
  box : ∀ i, i < 6 → w.cell? ⟨S, i, none⟩ = some (.slice (p i) (l i) (c i))
  res : ∀ i, i < 6 → w.cell? ⟨S + 1, i, none⟩ = some (.slice none 0 0)
  resF : ∀ i, i < 6 → w.frozen? ⟨S + 1, i, none⟩ = false
  out : ∀ i, i < 6 → w.cell? ⟨S + 1 + 1, i, none⟩ = some (v i)
  outF : ∀ i, i < 6 → w.frozen? ⟨S + 1 + 1, i, none⟩ = false
  size : S + 1 + 1 < w.heap.size
theorem TN.below {S : Nat} {w w1 : World} {p : Nat → Option Addr} {l c : Nat → Nat} {v : Nat → Value} (h : TN S w p l c v) (hb : Below w.heap.size w w1) : TN S w1 p l c v :=
  ⟨fun i hi => keep hb (h.box i hi), fun i hi => keep hb (h.res i hi), fun i hi => (hb.frozen (p := ⟨S + 1, i, none⟩) (Nat.lt_trans (Nat.lt_succ_self _) h.size)).trans (h.resF i hi), fun i hi => keep hb (h.out i hi), fun i hi => (hb.frozen (p := ⟨S + 1 + 1, i, none⟩) h.size).trans (h.outF i hi), Nat.lt_of_lt_of_le h.size hb.size⟩
theorem TN.set {S : Nat} {w : World} {p : Nat → Option Addr} {l c : Nat → Nat} {v : Nat → Value} (h : TN S w p l c v) (k : Nat) (hk : k < 6) (x : Value) : TN S (w.setCell ⟨S + 1 + 1, k, none⟩ x) p l c (fun i => if i = k then x else v i) := by
  refine ⟨fun i hi => ?_, fun i hi => ?_, fun i hi => ?_, fun i hi => ?_, fun i hi => ?_, ?_⟩
  · have := h.box i hi; simpa [go_sem] using this
  · have := h.res i hi; simpa [go_sem] using this
  · have := h.resF i hi; simpa [go_sem] using this
  · have h1 := h.out i hi
    have h2 := h.out k hk
    by_cases e : i = k
    · subst e; simp [go_sem, h2]
    · rw [if_neg e]; simpa [go_sem, e, Ne.symm e] using h1
  · have := h.outF i hi; simpa [go_sem] using this
  · simpa using h.size

/-- A network that was copied: each row in a block of its own, one behind the other. -/
structure Copied (B : Nat) (w : World) (N : Nat → Nat) (l : Nat → Nat) (s : Ss) (g : R) (o e : List Int) (x f : R) : Prop where
  low : B ≤ N 0
  up : N 0 < N 1 ∧ N 1 < N 2 ∧ N 2 < N 3 ∧ N 3 < N 4 ∧ N 4 < N 5
  lt : N 5 < w.heap.size
  routers : LaidS w (N 0) (l 0) (l 0) s
  links : Laid 86 3 w (N 1) (l 1) (l 1) g
  origins : w.rowIs (N 2) 3 (l 2) (fun i => .int .i64 (o[i]?.getD 0))
  externals : w.rowIs (N 3) 3 (l 3) (fun i => .int .i64 (e[i]?.getD 0))
  imports : Laid 90 5 w (N 4) (l 4) (l 4) x
  filters : Laid 94 4 w (N 5) (l 5) (l 5) f
theorem Copied.below {B : Nat} {w w1 : World} {N l : Nat → Nat} {s : Ss} {g x f : R} {o e : List Int} (h : Copied B w N l s g o e x f) (hb : Below w.heap.size w w1) : Copied B w1 N l s g o e x f :=
  ⟨h.low, h.up, Nat.lt_of_lt_of_le h.lt hb.size, h.routers.below hb, h.links.below hb, h.origins.of_block (hb.block _ h.origins.lt), h.externals.of_block (hb.block _ h.externals.lt), h.imports.below hb, h.filters.below hb⟩
theorem Copied.set {B : Nat} {w : World} {N l : Nat → Nat} {s : Ss} {g y f : R} {o e : List Int} (h : Copied B w N l s g o e y f) {x : Addr} (hx : x.block < N 0) (v : Value) : Copied B (w.setCell x v) N l s g o e y f := by
  obtain ⟨u0, u1, u2, u3, u4⟩ := h.up
  exact ⟨h.low, h.up, by have := h.lt; simpa using this, h.routers.set (by omega) v, h.links.set (by omega) v, h.origins.of_block (Below.heap_setCell _ _ _ _ (by omega)), h.externals.of_block (Below.heap_setCell _ _ _ _ (by omega)), h.imports.set (by omega) v, h.filters.set (by omega) v⟩
theorem Copied.net {B : Nat} {w : World} {N l : Nat → Nat} {s : Ss} {g x f : R} {o e : List Int} (h : Copied B w N l s g o e x f) (hl : ∀ i, i < 6 → l i ≤ maxLen) (hs : ∀ i, i < l 0 → (s i).size ≤ maxLen) (ho : o.length = l 2) (he : e.length = l 3) : NetIs w (fun i => some ⟨N i, 0, none⟩) l s g o e x f :=
  ⟨h.routers.is (hl 0 (by decide)) hs, h.links.is (hl 1 (by decide)), IntRow.of_rowIs' ho (hl 2 (by decide)) h.origins, IntRow.of_rowIs' he (hl 3 (by decide)) h.externals, h.imports.is (hl 4 (by decide)), h.filters.is (hl 5 (by decide))⟩

set_option maxHeartbeats 3200000 in
theorem toNet (p : Nat → Option Addr) (l c : Nat → Nat) (s : Ss) (g : R) (o e : List Int) (x f : R) (w : World) (h : NetIs w p l s g o e x f) (hl : ∀ i, i < 6 → l i ≤ 1048576) :
    Calls Tryz.prog 6 #[netV p l c] w fun e' w' => ∃ N : Nat → Nat, e' = .returned (netV (fun i => some ⟨N i, 0, none⟩) l l) ∧ Below w.heap.size w w' ∧ Copied w.heap.size w' N l s g o e x f := by
  have HN := hid h
  have HL := hid hl
  clear h hl
  have T0 : TN w.heap.size (((w.alloc (.cells #[.slice (p 0) (l 0) (c 0), .slice (p 1) (l 1) (c 1), .slice (p 2) (l 2) (c 2), .slice (p 3) (l 3) (c 3), .slice (p 4) (l 4) (c 4), .slice (p 5) (l 5) (c 5)] 28)).alloc (.cells #[.slice none 0 0, .slice none 0 0, .slice none 0 0, .slice none 0 0, .slice none 0 0, .slice none 0 0] 38)).alloc (.cells #[.slice none 0 0, .slice none 0 0, .slice none 0 0, .slice none 0 0, .slice none 0 0, .slice none 0 0] 38)) p l c (fun _ => .slice none 0 0) := by
    refine ⟨fun i hi => ?_, fun i hi => ?_, fun i hi => ?_, fun i hi => ?_, fun i hi => ?_, by simp⟩
    all_goals
      match i, hi with
      | 0, _ => simp [go_sem]
      | 1, _ => simp [go_sem]
      | 2, _ => simp [go_sem]
      | 3, _ => simp [go_sem]
      | 4, _ => simp [go_sem]
      | 5, _ => simp [go_sem]
      | i + 6, hi => exact absurd hi (by omega)
  have HT0 := hid T0
  clear T0
  have H0 : Hid (Below w.heap.size w (((w.alloc (.cells #[.slice (p 0) (l 0) (c 0), .slice (p 1) (l 1) (c 1), .slice (p 2) (l 2) (c 2), .slice (p 3) (l 3) (c 3), .slice (p 4) (l 4) (c 4), .slice (p 5) (l 5) (c 5)] 28)).alloc (.cells #[.slice none 0 0, .slice none 0 0, .slice none 0 0, .slice none 0 0, .slice none 0 0, .slice none 0 0] 38)).alloc (.cells #[.slice none 0 0, .slice none 0 0, .slice none 0 0, .slice none 0 0, .slice none 0 0, .slice none 0 0] 38))) := (by repeat (first | exact Below.refl _ _ | assumption | refine Below.drew ?_ | refine Below.alloc ?_ (by first | exact Nat.le_refl _ | omega | (simp; done) | (simp; omega)) _ | refine Below.setCell ?_ (by first | exact Nat.le_refl _ | omega | (simp; done) | (simp; omega)) _))
  unfold netV
  go_enter Tryz.func6, Tryz.ntmps6
  go_wp2_with fail
  refine (toStringS (p 0) (l 0) (c 0) s _ (HN.out.routers.below H0.out) (HL.out 0 (by decide))).mono ?_
  rintro e' w1 ⟨N0, rfl, hN, hb, hx⟩
  have HT1 := hid (HT0.out.below hb)
  have H1 := hid (H0.out.trans (hb.mono H0.out.size))
  have hN0 : w.heap.size + 1 + 1 + 1 ≤ N0 := by simpa using hN
  have X0 := hid hx
  have hlt0 : N0 < w1.heap.size := hx.row.choose_spec.1.lt
  have G0 : Hid (w.heap.size + 1 + 1 + 1 ≤ N0 ∧ True) := by
    show _ ∧ _
    exact ⟨hN0, trivial⟩
  have L0 := hid hlt0
  clear hN hb hx hlt0 hN0
  have fo : w1.cell? ⟨w.heap.size + 1 + 1, 0, none⟩ = some (.slice none 0 0) := HT1.out.out 0 (by decide)
  have ff := HT1.out.outF 0 (by decide)
  have fs := HT1.out.size
  have fb := HT1.out.box 1 (by decide)
  go_wp2_with fail
  refine (toLinkS (p 1) (l 1) (c 1) g _ (HN.out.links.below (H1.out.setCell (show w.heap.size ≤ w.heap.size + 1 + 1 by omega) _)) (HL.out 1 (by decide))).mono ?_
  rintro e' w2 ⟨N1, rfl, hN, hb, hx⟩
  have HT2 := hid ((HT1.out.set 0 (by decide) (.slice (some ⟨N0, 0, none⟩) (l 0) (l 0))).below hb)
  have H2 := hid ((H1.out.setCell (show w.heap.size ≤ w.heap.size + 1 + 1 by omega) _).trans (hb.mono (H1.out.setCell (show w.heap.size ≤ w.heap.size + 1 + 1 by omega) _).size))
  have hN1 : w1.heap.size ≤ N1 := by simpa using hN
  have X0 := hid ((X0.out.set (x := ⟨w.heap.size + 1 + 1, 0, none⟩) (show w.heap.size + 1 + 1 ≠ N0 by have := G0.out; omega) _).below hb)
  have X1 := hid hx
  have hlt1 : N1 < w2.heap.size := hx.row.choose_spec.1.lt
  have G1 : Hid (w.heap.size + 1 + 1 + 1 ≤ N1 ∧ N0 < N1) := by
    show _ ∧ _
    exact ⟨by have := G0.out; have := L0.out; omega, by have := L0.out; omega⟩
  have L1 := hid hlt1
  clear hN hb hx hlt1 hN1
  clear fo ff fs fb
  have fo : w2.cell? ⟨w.heap.size + 1 + 1, 1, none⟩ = some (.slice none 0 0) := HT2.out.out 1 (by decide)
  have ff := HT2.out.outF 1 (by decide)
  have fs := HT2.out.size
  have fb := HT2.out.box 2 (by decide)
  go_wp2_with fail
  refine (toIntN (p 2) (l 2) (c 2) o _ (HN.out.origins.below (H2.out.setCell (show w.heap.size ≤ w.heap.size + 1 + 1 by omega) _)) (HL.out 2 (by decide))).mono ?_
  rintro e' w3 ⟨N2, rfl, hN, hb, hx, -⟩
  have HT3 := hid ((HT2.out.set 1 (by decide) (.slice (some ⟨N1, 0, none⟩) (l 1) (l 1))).below hb)
  have H3 := hid ((H2.out.setCell (show w.heap.size ≤ w.heap.size + 1 + 1 by omega) _).trans (hb.mono (H2.out.setCell (show w.heap.size ≤ w.heap.size + 1 + 1 by omega) _).size))
  have hN2 : w2.heap.size ≤ N2 := by simpa using hN
  have X0 := hid ((X0.out.set (x := ⟨w.heap.size + 1 + 1, 1, none⟩) (show w.heap.size + 1 + 1 ≠ N0 by have := G0.out; omega) _).below hb)
  have X1 := hid ((X1.out.set (x := ⟨w.heap.size + 1 + 1, 1, none⟩) (show w.heap.size + 1 + 1 ≠ N1 by have := G1.out; omega) _).below hb)
  have X2 := hid hx
  have hlt2 : N2 < w3.heap.size := hx.lt
  have G2 : Hid (w.heap.size + 1 + 1 + 1 ≤ N2 ∧ N1 < N2) := by
    show _ ∧ _
    exact ⟨by have := G1.out; have := L1.out; omega, by have := L1.out; omega⟩
  have L2 := hid hlt2
  clear hN hb hx hlt2 hN2
  clear fo ff fs fb
  have fo : w3.cell? ⟨w.heap.size + 1 + 1, 2, none⟩ = some (.slice none 0 0) := HT3.out.out 2 (by decide)
  have ff := HT3.out.outF 2 (by decide)
  have fs := HT3.out.size
  have fb := HT3.out.box 3 (by decide)
  go_wp2_with fail
  refine (toIntN (p 3) (l 3) (c 3) e _ (HN.out.externals.below (H3.out.setCell (show w.heap.size ≤ w.heap.size + 1 + 1 by omega) _)) (HL.out 3 (by decide))).mono ?_
  rintro e' w4 ⟨N3, rfl, hN, hb, hx, -⟩
  have HT4 := hid ((HT3.out.set 2 (by decide) (.slice (some ⟨N2, 0, none⟩) (l 2) (l 2))).below hb)
  have H4 := hid ((H3.out.setCell (show w.heap.size ≤ w.heap.size + 1 + 1 by omega) _).trans (hb.mono (H3.out.setCell (show w.heap.size ≤ w.heap.size + 1 + 1 by omega) _).size))
  have hN3 : w3.heap.size ≤ N3 := by simpa using hN
  have X0 := hid ((X0.out.set (x := ⟨w.heap.size + 1 + 1, 2, none⟩) (show w.heap.size + 1 + 1 ≠ N0 by have := G0.out; omega) _).below hb)
  have X1 := hid ((X1.out.set (x := ⟨w.heap.size + 1 + 1, 2, none⟩) (show w.heap.size + 1 + 1 ≠ N1 by have := G1.out; omega) _).below hb)
  have X2 := hid ((X2.out.of_block (Below.heap_setCell _ _ _ _ (show N2 ≠ w.heap.size + 1 + 1 by have := G2.out; omega))).of_block (hb.block _ (X2.out.of_block (Below.heap_setCell _ _ _ _ (show N2 ≠ w.heap.size + 1 + 1 by have := G2.out; omega))).lt))
  have X3 := hid hx
  have hlt3 : N3 < w4.heap.size := hx.lt
  have G3 : Hid (w.heap.size + 1 + 1 + 1 ≤ N3 ∧ N2 < N3) := by
    show _ ∧ _
    exact ⟨by have := G2.out; have := L2.out; omega, by have := L2.out; omega⟩
  have L3 := hid hlt3
  clear hN hb hx hlt3 hN3
  clear fo ff fs fb
  have fo : w4.cell? ⟨w.heap.size + 1 + 1, 3, none⟩ = some (.slice none 0 0) := HT4.out.out 3 (by decide)
  have ff := HT4.out.outF 3 (by decide)
  have fs := HT4.out.size
  have fb := HT4.out.box 4 (by decide)
  go_wp2_with fail
  refine (toImportS (p 4) (l 4) (c 4) x _ (HN.out.imports.below (H4.out.setCell (show w.heap.size ≤ w.heap.size + 1 + 1 by omega) _)) (HL.out 4 (by decide))).mono ?_
  rintro e' w5 ⟨N4, rfl, hN, hb, hx⟩
  have HT5 := hid ((HT4.out.set 3 (by decide) (.slice (some ⟨N3, 0, none⟩) (l 3) (l 3))).below hb)
  have H5 := hid ((H4.out.setCell (show w.heap.size ≤ w.heap.size + 1 + 1 by omega) _).trans (hb.mono (H4.out.setCell (show w.heap.size ≤ w.heap.size + 1 + 1 by omega) _).size))
  have hN4 : w4.heap.size ≤ N4 := by simpa using hN
  have X0 := hid ((X0.out.set (x := ⟨w.heap.size + 1 + 1, 3, none⟩) (show w.heap.size + 1 + 1 ≠ N0 by have := G0.out; omega) _).below hb)
  have X1 := hid ((X1.out.set (x := ⟨w.heap.size + 1 + 1, 3, none⟩) (show w.heap.size + 1 + 1 ≠ N1 by have := G1.out; omega) _).below hb)
  have X2 := hid ((X2.out.of_block (Below.heap_setCell _ _ _ _ (show N2 ≠ w.heap.size + 1 + 1 by have := G2.out; omega))).of_block (hb.block _ (X2.out.of_block (Below.heap_setCell _ _ _ _ (show N2 ≠ w.heap.size + 1 + 1 by have := G2.out; omega))).lt))
  have X3 := hid ((X3.out.of_block (Below.heap_setCell _ _ _ _ (show N3 ≠ w.heap.size + 1 + 1 by have := G3.out; omega))).of_block (hb.block _ (X3.out.of_block (Below.heap_setCell _ _ _ _ (show N3 ≠ w.heap.size + 1 + 1 by have := G3.out; omega))).lt))
  have X4 := hid hx
  have hlt4 : N4 < w5.heap.size := hx.row.choose_spec.1.lt
  have G4 : Hid (w.heap.size + 1 + 1 + 1 ≤ N4 ∧ N3 < N4) := by
    show _ ∧ _
    exact ⟨by have := G3.out; have := L3.out; omega, by have := L3.out; omega⟩
  have L4 := hid hlt4
  clear hN hb hx hlt4 hN4
  clear fo ff fs fb
  have fo : w5.cell? ⟨w.heap.size + 1 + 1, 4, none⟩ = some (.slice none 0 0) := HT5.out.out 4 (by decide)
  have ff := HT5.out.outF 4 (by decide)
  have fs := HT5.out.size
  have fb := HT5.out.box 5 (by decide)
  go_wp2_with fail
  refine (toFilterS (p 5) (l 5) (c 5) f _ (HN.out.filters.below (H5.out.setCell (show w.heap.size ≤ w.heap.size + 1 + 1 by omega) _)) (HL.out 5 (by decide))).mono ?_
  rintro e' w6 ⟨N5, rfl, hN, hb, hx⟩
  have HT6 := hid ((HT5.out.set 4 (by decide) (.slice (some ⟨N4, 0, none⟩) (l 4) (l 4))).below hb)
  have H6 := hid ((H5.out.setCell (show w.heap.size ≤ w.heap.size + 1 + 1 by omega) _).trans (hb.mono (H5.out.setCell (show w.heap.size ≤ w.heap.size + 1 + 1 by omega) _).size))
  have hN5 : w5.heap.size ≤ N5 := by simpa using hN
  have X0 := hid ((X0.out.set (x := ⟨w.heap.size + 1 + 1, 4, none⟩) (show w.heap.size + 1 + 1 ≠ N0 by have := G0.out; omega) _).below hb)
  have X1 := hid ((X1.out.set (x := ⟨w.heap.size + 1 + 1, 4, none⟩) (show w.heap.size + 1 + 1 ≠ N1 by have := G1.out; omega) _).below hb)
  have X2 := hid ((X2.out.of_block (Below.heap_setCell _ _ _ _ (show N2 ≠ w.heap.size + 1 + 1 by have := G2.out; omega))).of_block (hb.block _ (X2.out.of_block (Below.heap_setCell _ _ _ _ (show N2 ≠ w.heap.size + 1 + 1 by have := G2.out; omega))).lt))
  have X3 := hid ((X3.out.of_block (Below.heap_setCell _ _ _ _ (show N3 ≠ w.heap.size + 1 + 1 by have := G3.out; omega))).of_block (hb.block _ (X3.out.of_block (Below.heap_setCell _ _ _ _ (show N3 ≠ w.heap.size + 1 + 1 by have := G3.out; omega))).lt))
  have X4 := hid ((X4.out.set (x := ⟨w.heap.size + 1 + 1, 4, none⟩) (show w.heap.size + 1 + 1 ≠ N4 by have := G4.out; omega) _).below hb)
  have X5 := hid hx
  have hlt5 : N5 < w6.heap.size := hx.row.choose_spec.1.lt
  have G5 : Hid (w.heap.size + 1 + 1 + 1 ≤ N5 ∧ N4 < N5) := by
    show _ ∧ _
    exact ⟨by have := G4.out; have := L4.out; omega, by have := L4.out; omega⟩
  have L5 := hid hlt5
  clear hN hb hx hlt5 hN5
  clear fo ff fs fb
  have fo : w6.cell? ⟨w.heap.size + 1 + 1, 5, none⟩ = some (.slice none 0 0) := HT6.out.out 5 (by decide)
  have ff := HT6.out.outF 5 (by decide)
  have fs := HT6.out.size
  have r0 := HT6.out.res 0 (by decide)
  have r1 := HT6.out.res 1 (by decide)
  have r2 := HT6.out.res 2 (by decide)
  have r3 := HT6.out.res 3 (by decide)
  have r4 := HT6.out.res 4 (by decide)
  have r5 := HT6.out.res 5 (by decide)
  have s0 := HT6.out.resF 0 (by decide)
  have s1 := HT6.out.resF 1 (by decide)
  have s2 := HT6.out.resF 2 (by decide)
  have s3 := HT6.out.resF 3 (by decide)
  have s4 := HT6.out.resF 4 (by decide)
  have s5 := HT6.out.resF 5 (by decide)
  have o0 : w6.cell? ⟨w.heap.size + 1 + 1, 0, none⟩ = some (.slice (some ⟨N0, 0, none⟩) (l 0) (l 0)) := HT6.out.out 0 (by decide)
  have o1 : w6.cell? ⟨w.heap.size + 1 + 1, 1, none⟩ = some (.slice (some ⟨N1, 0, none⟩) (l 1) (l 1)) := HT6.out.out 1 (by decide)
  have o2 : w6.cell? ⟨w.heap.size + 1 + 1, 2, none⟩ = some (.slice (some ⟨N2, 0, none⟩) (l 2) (l 2)) := HT6.out.out 2 (by decide)
  have o3 : w6.cell? ⟨w.heap.size + 1 + 1, 3, none⟩ = some (.slice (some ⟨N3, 0, none⟩) (l 3) (l 3)) := HT6.out.out 3 (by decide)
  have o4 : w6.cell? ⟨w.heap.size + 1 + 1, 4, none⟩ = some (.slice (some ⟨N4, 0, none⟩) (l 4) (l 4)) := HT6.out.out 4 (by decide)
  go_wp2
  refine bodyPost_ret (v := .agg #[.slice (some ⟨N0, 0, none⟩) (l 0) (l 0), .slice (some ⟨N1, 0, none⟩) (l 1) (l 1), .slice (some ⟨N2, 0, none⟩) (l 2) (l 2), .slice (some ⟨N3, 0, none⟩) (l 3) (l 3), .slice (some ⟨N4, 0, none⟩) (l 4) (l 4), .slice (some ⟨N5, 0, none⟩) (l 5) (l 5)]) (by simp [results, Tryz.results6, go_sem, r0, r1, r2, r3, r4, r5]) rfl ⟨fun i => match i with | 0 => N0 | 1 => N1 | 2 => N2 | 3 => N3 | 4 => N4 | _ => N5, rfl, ?_, ?_⟩
  · exact (((((((H6.out.setCell (by simp; omega) _).setCell (by simp) _).setCell (by simp) _).setCell (by simp) _).setCell (by simp) _).setCell (by simp) _).setCell (by simp) _)
  · have g0 := G0.out
    have g1 := G1.out
    have g2 := G2.out
    have g3 := G3.out
    have g4 := G4.out
    have g5 := G5.out
    have HC : Copied w.heap.size w6 (fun i => match i with | 0 => N0 | 1 => N1 | 2 => N2 | 3 => N3 | 4 => N4 | _ => N5) l s g o e x f :=
      ⟨show w.heap.size ≤ N0 by omega, ⟨g1.2, g2.2, g3.2, g4.2, g5.2⟩, L5.out, X0.out, X1.out, X2.out, X3.out, X4.out, X5.out⟩
    exact (((((((HC.set (show w.heap.size + 1 + 1 < N0 by omega) _).set (show w.heap.size + 1 < N0 by omega) _).set (show w.heap.size + 1 < N0 by omega) _).set (show w.heap.size + 1 < N0 by omega) _).set (show w.heap.size + 1 < N0 by omega) _).set (show w.heap.size + 1 < N0 by omega) _).set (show w.heap.size + 1 < N0 by omega) _)

set_option maxHeartbeats 1600000 in
theorem eqNet (p q : Nat → Option Addr) (l c d : Nat → Nat) (s : Ss) (g : R) (o e : List Int) (x f : R) (w : World) (h : NetIs w p l s g o e x f) (h' : NetIs w q l s g o e x f) :
    Calls Tryz.prog 11 #[netV p l c, netV q l d] w fun e' w' => e' = .returned (.bool true) ∧ Below w.heap.size w w' := by
  have HN := hid h
  have HN' := hid h'
  clear h h'
  have C1 : ∀ w8 : World, Below (((w.alloc (.cells #[.slice (p 0) (l 0) (c 0), .slice (p 1) (l 1) (c 1), .slice (p 2) (l 2) (c 2), .slice (p 3) (l 3) (c 3), .slice (p 4) (l 4) (c 4), .slice (p 5) (l 5) (c 5)] 38)).alloc (.cells #[.slice (q 0) (l 0) (d 0), .slice (q 1) (l 1) (d 1), .slice (q 2) (l 2) (d 2), .slice (q 3) (l 3) (d 3), .slice (q 4) (l 4) (d 4), .slice (q 5) (l 5) (d 5)] 38))).heap.size ((w.alloc (.cells #[.slice (p 0) (l 0) (c 0), .slice (p 1) (l 1) (c 1), .slice (p 2) (l 2) (c 2), .slice (p 3) (l 3) (c 3), .slice (p 4) (l 4) (c 4), .slice (p 5) (l 5) (c 5)] 38)).alloc (.cells #[.slice (q 0) (l 0) (d 0), .slice (q 1) (l 1) (d 1), .slice (q 2) (l 2) (d 2), .slice (q 3) (l 3) (d 3), .slice (q 4) (l 4) (d 4), .slice (q 5) (l 5) (d 5)] 38)) w8 → (w8.cell? ⟨w.heap.size, 0, none⟩ = some (.slice (p 0) (l 0) (c 0)) ∧ w8.cell? ⟨w.heap.size, 1, none⟩ = some (.slice (p 1) (l 1) (c 1)) ∧ w8.cell? ⟨w.heap.size, 2, none⟩ = some (.slice (p 2) (l 2) (c 2)) ∧ w8.cell? ⟨w.heap.size, 3, none⟩ = some (.slice (p 3) (l 3) (c 3)) ∧ w8.cell? ⟨w.heap.size, 4, none⟩ = some (.slice (p 4) (l 4) (c 4)) ∧ w8.cell? ⟨w.heap.size, 5, none⟩ = some (.slice (p 5) (l 5) (c 5)) ∧ w8.cell? ⟨w.heap.size + 1, 0, none⟩ = some (.slice (q 0) (l 0) (d 0)) ∧ w8.cell? ⟨w.heap.size + 1, 1, none⟩ = some (.slice (q 1) (l 1) (d 1)) ∧ w8.cell? ⟨w.heap.size + 1, 2, none⟩ = some (.slice (q 2) (l 2) (d 2)) ∧ w8.cell? ⟨w.heap.size + 1, 3, none⟩ = some (.slice (q 3) (l 3) (d 3)) ∧ w8.cell? ⟨w.heap.size + 1, 4, none⟩ = some (.slice (q 4) (l 4) (d 4)) ∧ w8.cell? ⟨w.heap.size + 1, 5, none⟩ = some (.slice (q 5) (l 5) (d 5))) ∧ NetIs w8 p l s g o e x f ∧ NetIs w8 q l s g o e x f ∧ Below w.heap.size w w8 :=
    fun w8 hb => ⟨⟨keep hb (by simp [go_sem]), keep hb (by simp [go_sem]), keep hb (by simp [go_sem]), keep hb (by simp [go_sem]), keep hb (by simp [go_sem]), keep hb (by simp [go_sem]), keep hb (by simp [go_sem]), keep hb (by simp [go_sem]), keep hb (by simp [go_sem]), keep hb (by simp [go_sem]), keep hb (by simp [go_sem]), keep hb (by simp [go_sem])⟩, (HN.out.below (by repeat (first | exact Below.refl _ _ | assumption | refine Below.drew ?_ | refine Below.alloc ?_ (by first | exact Nat.le_refl _ | omega | (simp; done) | (simp; omega)) _ | refine Below.setCell ?_ (by first | exact Nat.le_refl _ | omega | (simp; done) | (simp; omega)) _))).below hb, (HN'.out.below (by repeat (first | exact Below.refl _ _ | assumption | refine Below.drew ?_ | refine Below.alloc ?_ (by first | exact Nat.le_refl _ | omega | (simp; done) | (simp; omega)) _ | refine Below.setCell ?_ (by first | exact Nat.le_refl _ | omega | (simp; done) | (simp; omega)) _))).below hb, (show Below w.heap.size w _ from (by repeat (first | exact Below.refl _ _ | assumption | refine Below.drew ?_ | refine Below.alloc ?_ (by first | exact Nat.le_refl _ | omega | (simp; done) | (simp; omega)) _ | refine Below.setCell ?_ (by first | exact Nat.le_refl _ | omega | (simp; done) | (simp; omega)) _))).trans (hb.mono (by simp; omega))⟩
  have HC1 := hid C1
  clear C1
  unfold netV
  have H0 : Hid (Below (((w.alloc (.cells #[.slice (p 0) (l 0) (c 0), .slice (p 1) (l 1) (c 1), .slice (p 2) (l 2) (c 2), .slice (p 3) (l 3) (c 3), .slice (p 4) (l 4) (c 4), .slice (p 5) (l 5) (c 5)] 38)).alloc (.cells #[.slice (q 0) (l 0) (d 0), .slice (q 1) (l 1) (d 1), .slice (q 2) (l 2) (d 2), .slice (q 3) (l 3) (d 3), .slice (q 4) (l 4) (d 4), .slice (q 5) (l 5) (d 5)] 38))).heap.size ((w.alloc (.cells #[.slice (p 0) (l 0) (c 0), .slice (p 1) (l 1) (c 1), .slice (p 2) (l 2) (c 2), .slice (p 3) (l 3) (c 3), .slice (p 4) (l 4) (c 4), .slice (p 5) (l 5) (c 5)] 38)).alloc (.cells #[.slice (q 0) (l 0) (d 0), .slice (q 1) (l 1) (d 1), .slice (q 2) (l 2) (d 2), .slice (q 3) (l 3) (d 3), .slice (q 4) (l 4) (d 4), .slice (q 5) (l 5) (d 5)] 38)) ((w.alloc (.cells #[.slice (p 0) (l 0) (c 0), .slice (p 1) (l 1) (c 1), .slice (p 2) (l 2) (c 2), .slice (p 3) (l 3) (c 3), .slice (p 4) (l 4) (c 4), .slice (p 5) (l 5) (c 5)] 38)).alloc (.cells #[.slice (q 0) (l 0) (d 0), .slice (q 1) (l 1) (d 1), .slice (q 2) (l 2) (d 2), .slice (q 3) (l 3) (d 3), .slice (q 4) (l 4) (d 4), .slice (q 5) (l 5) (d 5)] 38))) := Below.refl _ _
  have M0 := hid (HC1.out _ H0.out).2
  have dO : decide (o = o) = true := decide_eq_true rfl
  have dE : decide (e = e) = true := decide_eq_true rfl
  go_enter Tryz.func11, Tryz.ntmps11
  go_wp2_with fail
  refine (eqStringS (p 0) (q 0) (l 0) (c 0) (d 0) s _ M0.out.1.routers M0.out.2.1.routers).mono ?_
  rintro e' w1 ⟨rfl, n, hw⟩
  have hb := below_drewN ((w.alloc (.cells #[.slice (p 0) (l 0) (c 0), .slice (p 1) (l 1) (c 1), .slice (p 2) (l 2) (c 2), .slice (p 3) (l 3) (c 3), .slice (p 4) (l 4) (c 4), .slice (p 5) (l 5) (c 5)] 38)).alloc (.cells #[.slice (q 0) (l 0) (d 0), .slice (q 1) (l 1) (d 1), .slice (q 2) (l 2) (d 2), .slice (q 3) (l 3) (d 3), .slice (q 4) (l 4) (d 4), .slice (q 5) (l 5) (d 5)] 38)) n
  rw [← hw] at hb
  clear hw
  have H1 := hid (H0.out.trans (hb.mono H0.out.size))
  have M1 := hid (HC1.out _ H1.out).2
  obtain ⟨⟨-, fa, -, -, -, -, -, fb, -, -, -, -⟩, -⟩ := HC1.out _ H1.out
  clear hb
  go_wp2_with fail
  refine (eqLinkS (p 1) (q 1) (l 1) (c 1) (d 1) g _ M1.out.1.links M1.out.2.1.links).mono ?_
  rintro e' w2 ⟨rfl, hb⟩
  have H2 := hid (H1.out.trans (hb.mono H1.out.size))
  have M2 := hid (HC1.out _ H2.out).2
  clear fa fb
  obtain ⟨⟨-, -, fa, -, -, -, -, -, fb, -, -, -⟩, -⟩ := HC1.out _ H2.out
  clear hb
  go_wp2_with fail
  refine (eqIntS (p 2) (q 2) (l 2) (l 2) (c 2) (d 2) o o _ M2.out.1.origins M2.out.2.1.origins).mono ?_
  rintro e' w3 ⟨rfl, n, hw⟩
  have hb := below_drewN w2 n
  rw [← hw] at hb
  clear hw
  have H3 := hid (H2.out.trans (hb.mono H2.out.size))
  have M3 := hid (HC1.out _ H3.out).2
  clear fa fb
  obtain ⟨⟨-, -, -, fa, -, -, -, -, -, fb, -, -⟩, -⟩ := HC1.out _ H3.out
  clear hb
  go_wp2_with fail
  refine (eqIntS (p 3) (q 3) (l 3) (l 3) (c 3) (d 3) e e _ M3.out.1.externals M3.out.2.1.externals).mono ?_
  rintro e' w4 ⟨rfl, n, hw⟩
  have hb := below_drewN w3 n
  rw [← hw] at hb
  clear hw
  have H4 := hid (H3.out.trans (hb.mono H3.out.size))
  have M4 := hid (HC1.out _ H4.out).2
  clear fa fb
  obtain ⟨⟨-, -, -, -, fa, -, -, -, -, -, fb, -⟩, -⟩ := HC1.out _ H4.out
  clear hb
  go_wp2_with fail
  refine (eqImportS (p 4) (q 4) (l 4) (c 4) (d 4) x _ M4.out.1.imports M4.out.2.1.imports).mono ?_
  rintro e' w5 ⟨rfl, hb⟩
  have H5 := hid (H4.out.trans (hb.mono H4.out.size))
  have M5 := hid (HC1.out _ H5.out).2
  clear fa fb
  obtain ⟨⟨-, -, -, -, -, fa, -, -, -, -, -, fb⟩, -⟩ := HC1.out _ H5.out
  clear hb
  go_wp2_with fail
  refine (eqFilterS (p 5) (q 5) (l 5) (c 5) (d 5) f _ M5.out.1.filters M5.out.2.1.filters).mono ?_
  rintro e' w6 ⟨rfl, hb⟩
  have H6 := hid (H5.out.trans (hb.mono H5.out.size))
  have M6 := hid (HC1.out _ H6.out).2
  clear hb
  go_wp2
  go_ret
  exact ⟨rfl, M6.out.2.2⟩
end Go.Proofs.YtoaeieehbplggaaGreat.netWhole
