/- The laws' own helpers that tell numbers out of bytes, and the bits of a number; conditions: lengths that fit. -/
import Derived.Test.YtikdadpapdkfiaaArgs
import Derived.OwnWalk
import Derived.WalkSpells
import Derived.Maps.AppendAt
import Derived.Laws.BitsLemmas
import Derived.Laws.BitsAllLaws
import Derived.Laws.Bits64b
import Derived.Laws.Shifts
namespace Go.Proofs.Ytikdadpapdkfiaa.values
open Go.ChangeShapes Go.WideShapes Go.ChangeAt Go.RowKit Go.Deep Go.Joins base args
set_option linter.unusedVariables false

/-- A slice of bytes that reads. -/
def Bytes (w : World) (a : Option Addr) (len : Nat) : Prop := ∀ i, i < len → ∃ bb off, a = some ⟨bb, off, none⟩ ∧ ∃ x : Nat, x < 256 ∧ w.cell? ⟨bb, off + i, none⟩ = some (.int .u8 x)
theorem Bytes.below {w w1 : World} {a : Option Addr} {len : Nat} (h : Bytes w a len) (hb : Below w.heap.size w w1) : Bytes w1 a len := fun i hi => by
  obtain ⟨b, o, e, x, hx, hc⟩ := h i hi
  exact ⟨b, o, e, x, hx, keep hb hc⟩
theorem bytes_of_trod {H : Type} {enc : TypeId × Value → H} {P : Program} {w : World} {base : Nat} {held : Bool} {t e : TypeId} {fuel : Nat} {v : Value} {x : DataW H × List MemPlace} (ht : P.underlying t = some (.slice e)) (he : P.underlying e = some (.int .u8)) (ce : P.cellsOf e = 1)
    (h : DataW.trod enc P w base (fun _ => true) held fuel t [v] = some x) : ∃ a len cap, v = .slice a len cap ∧ Bytes w a len ∧ len ≤ maxLen := by
  rcases open_ints ht he ce h with ⟨hcs, _⟩ | ⟨x, l, c, zs, hcs, _, hl, hm, hz, _, hcell, hwz⟩
  · exact ⟨none, 0, 0, by simpa using hcs, fun i hi => absurd hi (Nat.not_lt_zero _), Nat.zero_le _⟩
  · simp only [if_true] at hz
    refine ⟨some x, l, c, by simpa using hcs, fun i hi => ?_, Nat.le_trans hl hm⟩
    obtain ⟨e1, e2⟩ := at_none (hcell 0 (by omega)) (hcell i (by omega))
    have hi' : i < zs.length := by omega
    have hw := hwz zs[i] (List.getElem_mem hi')
    have hr : 0 ≤ zs[i] ∧ zs[i] < 256 := by
      simp [Lit.wf, IntKind.min, IntKind.max, IntKind.bits, IntKind.signed] at hw
      omega
    obtain ⟨y, hy⟩ := Int.eq_ofNat_of_zero_le hr.1
    refine ⟨x.block, x.off, by rw [← e1], y, by omega, ?_⟩
    rw [e2, List.getD_eq_getElem?_getD, List.getElem?_eq_getElem hi', Option.getD_some, hy]


def valsOf (n vars : Nat) : List Bool := (List.range vars).map (fun i => n.testBit i)
def OwnBools (B : Nat) (w : World) (v : Value) (zs : List Bool) : Prop := w.ownsRow B 4 1 v zs.length (zs.map Value.bool)
theorem OwnBools.form {B : Nat} {w : World} {v : Value} {zs : List Bool} (h : OwnBools B w v zs) : ∃ a cap, v = .slice a zs.length cap ∧ BoolRow w a zs.length zs := by
  obtain ⟨h1, h2⟩ := h
  rcases h2 with ⟨rfl, hn⟩ | ⟨g, cap, cur, rfl, hb, hh, hn, hm, hs, ht⟩
  · exact ⟨none, 0, by rw [hn], ⟨rfl, by rw [hn]; exact Nat.zero_le _, fun i hi => by omega⟩⟩
  · refine ⟨some ⟨g, 0, none⟩, cap, rfl, ⟨rfl, Nat.le_trans hn hm, fun i hi => ⟨g, 0, rfl, ?_⟩⟩⟩
    have h3 : cur[i]? = some (.bool (zs[i]?.getD false)) := by
      have : (cur.toList.take (zs.length * 1))[i]? = (zs.map Value.bool)[i]? := by rw [ht]
      rw [List.getElem?_take, if_pos (by omega)] at this
      rw [← Array.getElem?_toList, this, List.getElem?_map, List.getElem?_eq_getElem hi]
      rfl
    simp [World.cell?, hh, h3]
theorem OwnBools.below {B : Nat} {W w1 : World} {v : Value} {zs : List Bool} (h : OwnBools B W v zs) (hb : Below W.heap.size W w1) : OwnBools B w1 v zs := by
  obtain ⟨h1, h2⟩ := h
  refine ⟨h1, ?_⟩
  rcases h2 with h2 | ⟨g, cap, cur, e, hg, hh, hn, hm, hs, ht⟩
  · exact .inl h2
  · exact .inr ⟨g, cap, cur, e, hg, by rw [hb.block g (Array.getElem?_eq_some_iff.1 hh).1]; exact hh, hn, hm, hs, ht⟩
theorem grown_below_bools {B : Nat} {w w1 w2 : World} {v : Value} {zs : List Bool} (h : OwnBools B w1 v zs) (hb : Below B w w1) (hB : B ≤ w1.heap.size) (hg : w1.grownBy w2 v.ownBlock) : Below B w w2 :=
  hb.grown hg hB (fun k hk => (World.ownsRow.lt h k hk).1)
theorem OwnBools.empty (w : World) : OwnBools w.heap.size (w.alloc (.cells #[] 4)) (.slice (some ⟨w.heap.size, 0, none⟩) 0 0) [] :=
  ⟨rfl, .inr ⟨w.heap.size, 0, #[], rfl, Nat.le_refl _, heap_alloc_new w _, Nat.le_refl _, Nat.zero_le _, rfl, rfl⟩⟩
theorem vals_succ (n k : Nat) : valsOf n (k + 1) = valsOf n k ++ [n.testBit k] := by
  unfold valsOf
  rw [List.range_succ, List.map_append]; rfl
theorem bit_of (n k : Nat) (hn : n < 4096) : (bits .and .i64 ((n : Int) / 2 ^ k) 1 == 1) = n.testBit k := by
  have e : ((n : Int) / 2 ^ k) = ((n / 2 ^ k : Nat) : Int) := by simp
  have hl : n / 2 ^ k < 4096 := Nat.lt_of_le_of_lt (Nat.div_le_self _ _) hn
  rw [e, Nat.testBit_eq_decide_div_mod_eq]
  generalize n / 2 ^ k = m at *
  have h := bits_mask .i64 40 (by decide) (fun m h0 h1 => by rw [IntKind.wrap_i64]; omega) 1 (by decide) (m : Int) (by omega) (by omega)
  simp only [Int.reducePow, Int.reduceSub] at h
  rw [h]
  rw [Bool.eq_iff_iff]
  simp
  omega
theorem info_bool : (Try.prog.info? 4).map (fun i => (i.zero, i.size, i.bytes)) = some (some (.bool false), 1, 1) := by kernel_rfl


set_option maxHeartbeats 1600000 in
theorem at_0_16 (a : Option Addr) (len cap : Nat) (w : World) (hb : Bytes w a len) (hl : len ≤ 1048576) :
    Calls Try.prog 5 #[.slice a len cap, .int .i64 0, .int .i64 16] w fun e w' => ∃ r : Nat, e = .returned (.int .i64 r) ∧ r < 16 ∧ Below w.heap.size w w' := by
  have HB := hid hb
  clear hb
  have hfin : ∀ z : Int, 0 ≤ z % 16 ∧ z % 16 < 16 := fun z => ⟨Int.emod_nonneg _ (by omega), Int.emod_lt_of_pos _ (by omega)⟩
  have HFin := hid hfin
  clear hfin
  by_cases h0 : len = 0
  · subst h0
    go_enter Try.func5, Try.ntmps5
    go_wp2
    go_ret
    exact ⟨0, rfl, by omega, (by repeat (first | exact Below.refl _ _ | assumption | refine Below.drew ?_ | refine Below.alloc ?_ (by first | exact Nat.le_refl _ | omega | (simp; done) | (simp; omega)) _ | refine Below.setCell ?_ (by first | exact Nat.le_refl _ | omega | (simp; done) | (simp; omega)) _))⟩
  have hq0 : ((len : Int) == 0) = false := by simp; omega
  have hlp : (0 : Int) < (len : Int) := by omega
  obtain ⟨p, hp⟩ : ∃ p : Nat, 0 % len = p := ⟨_, rfl⟩
  obtain ⟨q, hq⟩ : ∃ q : Nat, (0 + 1) % len = q := ⟨_, rfl⟩
  obtain ⟨r, hr⟩ : ∃ r : Nat, 0 / len = r := ⟨_, rfl⟩
  have hpl : p < len := by rw [← hp]; exact Nat.mod_lt _ (by omega)
  have hql : q < len := by rw [← hq]; exact Nat.mod_lt _ (by omega)
  have hrl : r ≤ 0 := by rw [← hr]; exact Nat.div_le_self _ _
  have hp' : (0 : Int) % (len : Int) = (p : Int) := by rw [← hp]; simp
  have hq' : (1 : Int) % (len : Int) = (q : Int) := by rw [← hq]; simp
  have hr' : (0 : Int) / (len : Int) = (r : Int) := by rw [← hr]; simp
  clear hp hq hr
  obtain ⟨bb, off, rfl, x, hx, hc⟩ := HB.out p hpl
  obtain ⟨bb', off', he, y, hy, hd⟩ := HB.out q hql
  cases he
  have ip : (p : Int) < (len : Int) := by omega
  have iq : (q : Int) < (len : Int) := by omega
  obtain rfl : p = 0 := by have h := hp'; simp at h; omega
  obtain rfl : r = 0 := by omega
  rw [Nat.add_zero] at hc
  clear hp' hr'
  go_enter Try.func5, Try.ntmps5
  go_wp2
  go_quiet (fail)
  go_wp2
  go_ret
  obtain ⟨f0, f1⟩ := HFin.out ((x : Int) * 31 + (y : Int))
  have hb := below_drewN w nq
  first
  | exact ⟨(((x : Int) * 31 + (y : Int)) % 16).toNat, ret_int (by omega), by omega, hb⟩
  | exact ⟨ret_int (by omega), by omega, hb⟩
  | exact ⟨(((x : Int) * 31 + (y : Int)) % 16).toNat, ret_int (by have := HFin.out ((x : Int) * 31 + (y : Int)); omega), by have := HFin.out ((x : Int) * 31 + (y : Int)); omega, hb⟩

set_option maxHeartbeats 1600000 in
theorem at_1_16 (a : Option Addr) (len cap : Nat) (w : World) (hb : Bytes w a len) (hl : len ≤ 1048576) :
    Calls Try.prog 5 #[.slice a len cap, .int .i64 1, .int .i64 16] w fun e w' => ∃ r : Nat, e = .returned (.int .i64 r) ∧ r < 16 ∧ Below w.heap.size w w' := by
  have HB := hid hb
  clear hb
  have hfin : ∀ z : Int, 0 ≤ z % 16 ∧ z % 16 < 16 := fun z => ⟨Int.emod_nonneg _ (by omega), Int.emod_lt_of_pos _ (by omega)⟩
  have HFin := hid hfin
  clear hfin
  by_cases h0 : len = 0
  · subst h0
    go_enter Try.func5, Try.ntmps5
    go_wp2
    go_ret
    exact ⟨7, rfl, by omega, (by repeat (first | exact Below.refl _ _ | assumption | refine Below.drew ?_ | refine Below.alloc ?_ (by first | exact Nat.le_refl _ | omega | (simp; done) | (simp; omega)) _ | refine Below.setCell ?_ (by first | exact Nat.le_refl _ | omega | (simp; done) | (simp; omega)) _))⟩
  have hq0 : ((len : Int) == 0) = false := by simp; omega
  have hlp : (0 : Int) < (len : Int) := by omega
  obtain ⟨p, hp⟩ : ∃ p : Nat, 1 % len = p := ⟨_, rfl⟩
  obtain ⟨q, hq⟩ : ∃ q : Nat, (1 + 1) % len = q := ⟨_, rfl⟩
  obtain ⟨r, hr⟩ : ∃ r : Nat, 1 / len = r := ⟨_, rfl⟩
  have hpl : p < len := by rw [← hp]; exact Nat.mod_lt _ (by omega)
  have hql : q < len := by rw [← hq]; exact Nat.mod_lt _ (by omega)
  have hrl : r ≤ 1 := by rw [← hr]; exact Nat.div_le_self _ _
  have hp' : (1 : Int) % (len : Int) = (p : Int) := by rw [← hp]; simp
  have hq' : (2 : Int) % (len : Int) = (q : Int) := by rw [← hq]; simp
  have hr' : (1 : Int) / (len : Int) = (r : Int) := by rw [← hr]; simp
  clear hp hq hr
  obtain ⟨bb, off, rfl, x, hx, hc⟩ := HB.out p hpl
  obtain ⟨bb', off', he, y, hy, hd⟩ := HB.out q hql
  cases he
  have ip : (p : Int) < (len : Int) := by omega
  have iq : (q : Int) < (len : Int) := by omega
  go_enter Try.func5, Try.ntmps5
  go_wp2
  go_quiet (fail)
  go_wp2
  go_ret
  obtain ⟨f0, f1⟩ := HFin.out ((x : Int) * 31 + (y : Int) + (r : Int))
  have hb := below_drewN w nq
  first
  | exact ⟨(((x : Int) * 31 + (y : Int) + (r : Int)) % 16).toNat, ret_int (by omega), by omega, hb⟩
  | exact ⟨ret_int (by omega), by omega, hb⟩
  | exact ⟨(((x : Int) * 31 + (y : Int)) % 16).toNat, ret_int (by have := HFin.out ((x : Int) * 31 + (y : Int)); omega), by have := HFin.out ((x : Int) * 31 + (y : Int)); omega, hb⟩

set_option maxHeartbeats 1600000 in
theorem at_2_6 (a : Option Addr) (len cap : Nat) (w : World) (hb : Bytes w a len) (hl : len ≤ 1048576) :
    Calls Try.prog 5 #[.slice a len cap, .int .i64 2, .int .i64 6] w fun e w' => ∃ r : Nat, e = .returned (.int .i64 r) ∧ r < 6 ∧ Below w.heap.size w w' := by
  have HB := hid hb
  clear hb
  have hfin : ∀ z : Int, 0 ≤ z % 6 ∧ z % 6 < 6 := fun z => ⟨Int.emod_nonneg _ (by omega), Int.emod_lt_of_pos _ (by omega)⟩
  have HFin := hid hfin
  clear hfin
  by_cases h0 : len = 0
  · subst h0
    go_enter Try.func5, Try.ntmps5
    go_wp2
    go_ret
    exact ⟨2, rfl, by omega, (by repeat (first | exact Below.refl _ _ | assumption | refine Below.drew ?_ | refine Below.alloc ?_ (by first | exact Nat.le_refl _ | omega | (simp; done) | (simp; omega)) _ | refine Below.setCell ?_ (by first | exact Nat.le_refl _ | omega | (simp; done) | (simp; omega)) _))⟩
  have hq0 : ((len : Int) == 0) = false := by simp; omega
  have hlp : (0 : Int) < (len : Int) := by omega
  obtain ⟨p, hp⟩ : ∃ p : Nat, 2 % len = p := ⟨_, rfl⟩
  obtain ⟨q, hq⟩ : ∃ q : Nat, (2 + 1) % len = q := ⟨_, rfl⟩
  obtain ⟨r, hr⟩ : ∃ r : Nat, 2 / len = r := ⟨_, rfl⟩
  have hpl : p < len := by rw [← hp]; exact Nat.mod_lt _ (by omega)
  have hql : q < len := by rw [← hq]; exact Nat.mod_lt _ (by omega)
  have hrl : r ≤ 2 := by rw [← hr]; exact Nat.div_le_self _ _
  have hp' : (2 : Int) % (len : Int) = (p : Int) := by rw [← hp]; simp
  have hq' : (3 : Int) % (len : Int) = (q : Int) := by rw [← hq]; simp
  have hr' : (2 : Int) / (len : Int) = (r : Int) := by rw [← hr]; simp
  clear hp hq hr
  obtain ⟨bb, off, rfl, x, hx, hc⟩ := HB.out p hpl
  obtain ⟨bb', off', he, y, hy, hd⟩ := HB.out q hql
  cases he
  have ip : (p : Int) < (len : Int) := by omega
  have iq : (q : Int) < (len : Int) := by omega
  go_enter Try.func5, Try.ntmps5
  go_wp2
  go_quiet (fail)
  go_wp2
  go_ret
  obtain ⟨f0, f1⟩ := HFin.out ((x : Int) * 31 + (y : Int) + (r : Int))
  have hb := below_drewN w nq
  first
  | exact ⟨(((x : Int) * 31 + (y : Int) + (r : Int)) % 6).toNat, ret_int (by omega), by omega, hb⟩
  | exact ⟨ret_int (by omega), by omega, hb⟩
  | exact ⟨(((x : Int) * 31 + (y : Int)) % 6).toNat, ret_int (by have := HFin.out ((x : Int) * 31 + (y : Int)); omega), by have := HFin.out ((x : Int) * 31 + (y : Int)); omega, hb⟩
end Go.Proofs.Ytikdadpapdkfiaa.values
