/- ModelsMath; Same; Args; ByteArgsI: one text, so that the claim has fewer files. -/
import Derived.Test.YtjdcndkgodpnlaaDoorCdLeast
import Derived.Test.YtjdcndkgodpnlaaDoorPart49
import Derived.Test.YtjdcndkgodpnlaaDoorPart43
import Derived.Test.YtjdcndkgodpnlaaDoorPart1
import Derived.ProofKit
import Derived.OpenShut
import Derived.ShutString
import Derived.ChangeOld
import Derived.Lib.SmallJoins
import Derived.Deep.Slices
import Derived.Test.YtjdcndkgodpnlaaDoorPart13
/- Values counted with the first variable most: as many models as in the other order, the first of them is the least model; conditions: a right formula. -/
namespace Go.Proofs.YtjdcndkgodpnlaaDoor.modelsMath
open base copy cnf eval sets setsOf solSets solMath solClose count cdState cdLeast impMath
set_option linter.unusedVariables false
set_option linter.unusedSimpArgs false

/-- The number's bits, the highest first. -/
def rv (i v : Nat) : List Bool := (List.range v).map fun k => i.testBit (v - 1 - k)
theorem rv_len (i v : Nat) : (rv i v).length = v := by simp [rv]
/-- The first t of them. -/
def rvT (i v t : Nat) : List Bool := (List.range t).map fun k => i.testBit (v - 1 - k)
theorem rvT_len (i v t : Nat) : (rvT i v t).length = t := by simp [rvT]
theorem rvT_succ (i v t : Nat) : rvT i v (t + 1) = rvT i v t ++ [i.testBit (v - 1 - t)] := by simp [rvT, List.range_succ]
theorem rv_rev (i v : Nat) : rv i v = (valsOf i v).reverse := by
  apply List.ext_getElem?
  intro k
  unfold rv valsOf
  by_cases hk : k < v
  · rw [List.getElem?_map, List.getElem?_range hk, List.getElem?_reverse (by simpa using hk), List.getElem?_map, List.length_map, List.length_range, List.getElem?_range (by omega)]; rfl
  · rw [List.getElem?_eq_none (by simpa using hk), List.getElem?_eq_none (by simpa using hk)]
theorem vals_cons (n k : Nat) : valsOf n (k + 1) = n.testBit 0 :: valsOf (n / 2) k := by
  unfold valsOf
  rw [List.range_succ_eq_map, List.map_cons, List.map_map]
  congr 1
  refine List.map_congr_left fun i _ => ?_
  show n.testBit (i + 1) = _
  rw [Nat.testBit_succ]
theorem vals_onto : ∀ vs : List Bool, ∃ i, i < 2 ^ vs.length ∧ valsOf i vs.length = vs
  | [] => ⟨0, by decide, rfl⟩
  | b :: vs => by
    obtain ⟨i, h1, h2⟩ := vals_onto vs
    refine ⟨2 * i + (if b then 1 else 0), ?_, ?_⟩
    · rw [List.length_cons, Nat.pow_succ]
      split <;> omega
    · rw [List.length_cons, vals_cons]
      have e1 : (2 * i + (if b = true then 1 else 0)) / 2 = i := by split <;> omega
      have e2 : (2 * i + (if b = true then 1 else 0)).testBit 0 = b := by
        rw [Nat.testBit_zero]
        cases b with
        | false => simp
        | true => rw [if_pos rfl, show (2 * i + 1) % 2 = 1 by omega]; rfl
      rw [e1, e2, h2]
theorem vals_inj : ∀ (v i j : Nat), i < 2 ^ v → j < 2 ^ v → valsOf i v = valsOf j v → i = j
  | 0, i, j, hi, hj, _ => by simp at hi hj; omega
  | v + 1, i, j, hi, hj, h => by
    rw [vals_cons, vals_cons] at h
    injection h with h1 h2
    rw [Nat.pow_succ] at hi hj
    have h3 := vals_inj v (i / 2) (j / 2) (by omega) (by omega) h2
    rw [Nat.testBit_zero, Nat.testBit_zero] at h1
    have h4 : i % 2 = j % 2 := by
      have := decide_eq_decide.1 h1
      omega
    omega
theorem rv_onto (vs : List Bool) : ∃ i, i < 2 ^ vs.length ∧ rv i vs.length = vs := by
  obtain ⟨i, h1, h2⟩ := vals_onto vs.reverse
  rw [List.length_reverse] at h1 h2
  exact ⟨i, h1, by rw [rv_rev, h2, List.reverse_reverse]⟩
/-- How many of the first m are models. -/
def cnt (Z : List (List Int)) (v m : Nat) : Nat := ((List.range m).filter fun i => cnfT (rv i v) Z).length
theorem cnt_succ (Z : List (List Int)) (v m : Nat) : cnt Z v (m + 1) = cnt Z v m + (if cnfT (rv m v) Z = true then 1 else 0) := by
  unfold cnt
  rw [List.range_succ, List.filter_append, List.length_append]
  congr 1
  cases h : cnfT (rv m v) Z <;> simp [h]
theorem cnt_le (Z : List (List Int)) (v m : Nat) : cnt Z v m ≤ m := by
  unfold cnt
  exact Nat.le_trans (List.length_filter_le _ _) (by simp)
theorem count_filter (v : Nat) (Z : List (List Int)) : ∀ m, countTo v Z m = ((List.range m).filter fun i => cnfT (valsOf i v) Z).length
  | 0 => rfl
  | m + 1 => by
    unfold countTo
    rw [count_filter v Z m, List.range_succ, List.filter_append, List.length_append]
    congr 1
    cases h : cnfT (valsOf m v) Z <;> simp [h]
theorem nodup_map {α β : Type} {f : α → β} : ∀ {l : List α}, l.Nodup → (∀ a ∈ l, ∀ b ∈ l, f a = f b → a = b) → (l.map f).Nodup
  | [], _, _ => List.nodup_nil
  | a :: l, h, hf => by
    rw [List.map_cons, List.nodup_cons]
    rw [List.nodup_cons] at h
    refine ⟨fun hm => ?_, nodup_map h.2 (fun x hx y hy => hf x (by simp [hx]) y (by simp [hy]))⟩
    obtain ⟨b, hb, e⟩ := List.mem_map.1 hm
    have := hf b (by simp [hb]) a (by simp) e
    exact h.1 (by rw [← this]; exact hb)
/-- Both orders count the same. -/
theorem cnt_all (Z : List (List Int)) (v : Nat) : cnt Z v (2 ^ v) = countTo v Z (2 ^ v) := by
  rw [count_filter]
  unfold cnt
  have hp : ((List.range (2 ^ v)).map fun i => valsOf i v).Perm ((List.range (2 ^ v)).map fun i => rv i v) := by
    refine (List.perm_ext_iff_of_nodup (nodup_map List.nodup_range fun a ha b hb e => vals_inj v a b (List.mem_range.1 ha) (List.mem_range.1 hb) e) (nodup_map List.nodup_range fun a ha b hb e => ?_)).2 fun vs => ?_
    · rw [rv_rev, rv_rev] at e
      exact vals_inj v a b (List.mem_range.1 ha) (List.mem_range.1 hb) (List.reverse_inj.1 e)
    · constructor
      · intro h
        obtain ⟨i, hi, rfl⟩ := List.mem_map.1 h
        obtain ⟨j, h1, h2⟩ := rv_onto (valsOf i v)
        have hl : (valsOf i v).length = v := by simp [valsOf]
        rw [hl] at h1 h2
        exact List.mem_map.2 ⟨j, List.mem_range.2 h1, h2⟩
      · intro h
        obtain ⟨i, hi, rfl⟩ := List.mem_map.1 h
        obtain ⟨j, h1, h2⟩ := vals_onto (rv i v)
        rw [rv_len] at h1 h2
        exact List.mem_map.2 ⟨j, List.mem_range.2 h1, h2⟩
  have h2 := (hp.filter (fun vs => cnfT vs Z)).length_eq
  rw [List.filter_map, List.filter_map, List.length_map, List.length_map] at h2
  exact h2.symm
/-- The first model so far, empty where there is none. -/
def fstV (Z : List (List Int)) (v m : Nat) : List Bool := (((List.range m).find? fun i => cnfT (rv i v) Z).map fun i => rv i v).getD []
theorem fst_succ (Z : List (List Int)) (v m : Nat) : fstV Z v (m + 1) = if cnfT (rv m v) Z = true ∧ cnt Z v m = 0 then rv m v else fstV Z v m := by
  unfold fstV cnt
  rw [List.range_succ, List.find?_append]
  cases hf : (List.range m).find? fun i => cnfT (rv i v) Z with
  | some i =>
    have h1 := List.find?_some hf
    have h2 := List.mem_of_find?_eq_some hf
    have h3 : 0 < ((List.range m).filter fun i => cnfT (rv i v) Z).length := List.length_pos_of_mem (List.mem_filter.2 ⟨h2, h1⟩)
    rw [if_neg (by omega)]
    rfl
  | none =>
    have h0 : ((List.range m).filter fun i => cnfT (rv i v) Z).length = 0 := by
      rw [List.length_eq_zero_iff, List.filter_eq_nil_iff]
      intro i hi
      exact List.find?_eq_none.1 hf i hi
    rw [h0]
    cases hc : cnfT (rv m v) Z with
    | true => simp [hc]
    | false => simp [hc]
theorem less_bit : ∀ (v i j : Nat), i < j → j < 2 ^ v → ∃ b, b < v ∧ i.testBit b = false ∧ j.testBit b = true ∧ ∀ c, b < c → i.testBit c = j.testBit c
  | 0, i, j, h, hj => by simp at hj; omega
  | v + 1, i, j, h, hj => by
    rw [Nat.pow_succ] at hj
    by_cases e : i / 2 = j / 2
    · refine ⟨0, by omega, ?_, ?_, fun c hc => ?_⟩
      · rw [Nat.testBit_zero]; simp; omega
      · rw [Nat.testBit_zero]; simp; omega
      · obtain ⟨c, rfl⟩ : ∃ d, c = d + 1 := ⟨c - 1, by omega⟩
        rw [Nat.testBit_succ, Nat.testBit_succ, e]
    · obtain ⟨b, h1, h2, h3, h4⟩ := less_bit v (i / 2) (j / 2) (by omega) (by omega)
      refine ⟨b + 1, by omega, by rw [Nat.testBit_succ]; exact h2, by rw [Nat.testBit_succ]; exact h3, fun c hc => ?_⟩
      obtain ⟨c, rfl⟩ : ∃ d, c = d + 1 := ⟨c - 1, by omega⟩
      rw [Nat.testBit_succ, Nat.testBit_succ]
      exact h4 c (by omega)
theorem rv_get {i v k : Nat} (h : k < v) : (rv i v)[k]?.getD false = i.testBit (v - 1 - k) := by
  unfold rv
  rw [List.getElem?_map, List.getElem?_range h]; rfl
/-- A model's values, as a list. -/
theorem vals_model {n : Nat} (hn : n ≤ 40) {Z : List (List Int)} (hz : cnfB n Z = true) {H : LS} (h : Mdl n (Z.map setL) H) : cnfT (valsH n H) Z = true := by
  have hl : rupSpec.LitsIn (n + 1) Z := rupFaceS.cnf_in (by simpa using hz)
  unfold cnfT
  rw [List.all_eq_true]
  intro c hc
  unfold clauseT
  rw [List.any_eq_true]
  obtain ⟨z, h1, h2⟩ := (meet_lits hn (hl c hc)).1 (h.cl _ (List.mem_map.2 ⟨c, hc, rfl⟩))
  have := hl c hc z h1
  exact ⟨z, h1, by rw [vals_lit h this.1 (by omega)]; exact h2⟩
/-- The least model is the first in this order. -/
theorem fst_least {n : Nat} (hn : n ≤ 40) {Z : List (List Int)} (hz : cnfB n Z = true) {B H : LS} (h : LeastAt n (Z.map setL) B H (n + 1)) : fstV Z n (2 ^ n) = valsH n H ∧ 0 < cnt Z n (2 ^ n) := by
  have hlen : (valsH n H).length = n := by simp [valsH]
  obtain ⟨i, h1, h2⟩ := rv_onto (valsH n H)
  rw [hlen] at h1 h2
  have hm := vals_model hn hz h.mdl
  rw [← h2] at hm
  have hfirst : ∀ j, j < i → cnfT (rv j n) Z = true → False := fun j hj hcj => by
    obtain ⟨b, b1, b2, b3, b4⟩ := less_bit n j i hj h1
    have hmj := (asg_mdl hn hz (vs := rv j n)).2 hcj
    have hget : ∀ k, k < n → mem H ((k : Int) + 1) = i.testBit (n - 1 - k) := fun k hk => by
      rw [← rv_get hk, h2]
      unfold valsH
      rw [List.getElem?_map, List.getElem?_range hk]; rfl
    have hgj : ∀ k, k < n → mem (asg (rv j n) n) ((k : Int) + 1) = j.testBit (n - 1 - k) := fun k hk => by
      rw [Bool.eq_iff_iff, mem_asg hn, ← rv_get hk]
      rw [show ((k : Int) + 1).natAbs - 1 = k by omega]
      constructor
      · rintro ⟨_, _, e⟩; rw [e]; simp <;> omega
      · intro e; exact ⟨by omega, by omega, by rw [e]; simp <;> omega⟩
    have h9 := h.opt _ hmj (n - b) (by omega) (by omega) (fun k k1 k2 => by
      have e1 := hget (k - 1) (by omega)
      have e2 := hgj (k - 1) (by omega)
      rw [show ((k - 1 : Nat) : Int) + 1 = (k : Int) by omega] at e1 e2
      rw [e1, e2]
      exact (b4 _ (by omega)).symm) (by
      have e1 := hget (n - b - 1) (by omega)
      rw [show ((n - b - 1 : Nat) : Int) + 1 = ((n - b : Nat) : Int) by omega, show n - 1 - (n - b - 1) = b by omega] at e1
      rw [e1]; exact b3)
    have e2 := hgj (n - b - 1) (by omega)
    rw [show ((n - b - 1 : Nat) : Int) + 1 = ((n - b : Nat) : Int) by omega, show n - 1 - (n - b - 1) = b by omega, h9, b2] at e2
    cases e2
  have hf : (List.range (2 ^ n)).find? (fun i => cnfT (rv i n) Z) = some i := by
    rw [List.find?_range_eq_some]
    exact ⟨hm, List.mem_range.2 h1, fun j hj => by
      cases hc : cnfT (rv j n) Z with
      | false => rfl
      | true => exact absurd hc (fun hc => hfirst j hj hc)⟩
  refine ⟨?_, ?_⟩
  · unfold fstV
    rw [hf]
    exact h2
  · unfold cnt
    exact List.length_pos_of_mem (List.mem_filter.2 ⟨List.mem_range.2 h1, hm⟩)
theorem cnt_none {n : Nat} (hn : n ≤ 40) {Z : List (List Int)} (hz : cnfB n Z = true) (h : ¬ ∃ H, Mdl n (Z.map setL) H) : cnt Z n (2 ^ n) = 0 := by
  unfold cnt
  rw [List.length_eq_zero_iff, List.filter_eq_nil_iff]
  intro i hi hc
  exact h ⟨_, (asg_mdl hn hz).2 hc⟩
end Go.Proofs.YtjdcndkgodpnlaaDoor.modelsMath

/- The laws' own helpers that hold lists against each other, where they are the same; conditions: none. -/
namespace Go.Proofs.YtjdcndkgodpnlaaDoor.same
open Go.RowKit Go.Deep base
set_option linter.unusedVariables false

set_option maxHeartbeats 400000 in
theorem sameBools (a a' : Option Addr) (len cap cap' : Nat) (zs : List Bool) (w : World) (hr : BoolRow w a len zs) (hr' : BoolRow w a' len zs) :
    Calls Tryd.prog 8 #[.slice a len cap, .slice a' len cap'] w fun e w' => e = .returned (.bool true) ∧ Below w.heap.size w w' := by
  have hmost := hr.most
  unfold maxLen at hmost
  have HC := hid hr.cell
  have HC' := hid hr'.cell
  clear hr hr'
  have hb : ((len : Int) != (len : Int)) = false := by simp
  go_enter Tryd.func8, Tryd.ntmps8
  go_wp2
  go_loopw [5] (fun i wr => ∃ k : Nat, k ≤ len ∧ i = .int .i64 k ∧ ∃ n, wr = w.drewN n) (fun i _ => len - (intOf i).toNat)
  case atStart => exact ⟨0, Nat.zero_le _, rfl, 0, rfl⟩
  case round =>
    obtain ⟨k, hk, rfl, n, hw⟩ := hrel
    by_cases hlt : k < len
    · obtain ⟨b, off, rfl, hc0⟩ := HC.out k hlt
      obtain ⟨b', off', rfl, hc0'⟩ := HC'.out k hlt
      have hc : wr.cell? ⟨b, off + k, none⟩ = some (.bool (zs[k]?.getD false)) := by rw [hw]; simpa using hc0
      have hc' : wr.cell? ⟨b', off' + k, none⟩ = some (.bool (zs[k]?.getD false)) := by rw [hw]; simpa using hc0'
      have HW := hid hw
      clear hw hc0 hc0'
      generalize zs[k]?.getD false = z at *
      have hq : (z == z) = true := by simp
      go_wp2
      go_quiet (fail)
      go_wp2
      go_roundw
      case rel => exact ⟨k + 1, by omega, by go_num, n + nq, by rw [HW.out, World.drewN_drewN]⟩
      case measure => simp [intOf]; omega
    · have e : k = len := by omega
      subst e
      have HW := hid hw
      clear hw
      go_wp2
      go_ret
      exact ⟨rfl, by rw [HW.out]; exact below_drewN _ _⟩
end Go.Proofs.YtjdcndkgodpnlaaDoor.same

/- From the form's readings of arguments to the rows that the contracts speak of; of no program; conditions: none. -/
namespace Go.Proofs.YtjdcndkgodpnlaaDoor.args
open Go.ChangeShapes Go.WideShapes Go.ChangeAt Go.RowKit Go.Deep Go.Joins base

variable {H : Type} {enc : TypeId × Value → H} {P : Program} {w : World} {base : Nat} {held : Bool}

theorem at_none {x : Addr} {i : Nat} {v v0 : Value} (h0 : w.cell? (x.add 0) = some v0) (h : w.cell? (x.add i) = some v) : x = ⟨x.block, x.off, none⟩ ∧ w.cell? ⟨x.block, x.off + i, none⟩ = some v := by
  have hs := World.cell?_spot h0
  obtain ⟨b, o, s⟩ := x
  have hs' : s = none := by simpa [Addr.add] using hs
  subst hs'
  refine ⟨rfl, ?_⟩
  by_cases e : i = 0
  · subst e; simpa [Addr.add] using h
  · simpa [Addr.add, e] using h

end Go.Proofs.YtjdcndkgodpnlaaDoor.args

/- From the form's reading of bytes to what the contracts speak of; of no program; conditions: none. -/
namespace Go.Proofs.YtjdcndkgodpnlaaDoor.byteArgs
open Go.ChangeShapes Go.WideShapes Go.ChangeAt Go.RowKit Go.Deep Go.Joins base args

theorem bytes_of_trod {H : Type} {enc : TypeId × Value → H} {P : Program} {w : World} {base : Nat} {held : Bool} {t e : TypeId} {fuel : Nat} {v : Value} {x : DataW H × List MemPlace} (ht : P.underlying t = some (.slice e)) (he : P.underlying e = some (.int .u8)) (ce : P.cellsOf e = 1)
    (h : DataW.trod enc P w base (fun _ => true) held fuel t [v] = some x) : ∃ a len cap, v = .slice a len cap ∧ source.Bytes w a len ∧ len ≤ maxLen := by
  rcases open_ints ht he ce h with ⟨hcs, _⟩ | ⟨x, l, c, zs, hcs, _, hl, hm, hz, _, hcell, hwz⟩
  · exact ⟨none, 0, 0, by simpa using hcs, fun i hi => absurd hi (Nat.not_lt_zero _), Nat.zero_le _⟩
  · simp only [if_true] at hz
    refine ⟨some x, l, c, by simpa using hcs, fun i hi => ?_, Nat.le_trans hl hm⟩
    obtain ⟨e1, e2⟩ := at_none (hcell 0 (by omega)) (hcell i (by omega))
    have hi' : i < zs.length := by omega
    have hw := hwz zs[i] (List.getElem_mem hi')
    have hr : 0 ≤ zs[i] ∧ zs[i] < 256 := by
      simp [Lit.wf, IntKind.min, IntKind.max, IntKind.bits, IntKind.signed] at hw
      omega
    obtain ⟨y, hy⟩ := Int.eq_ofNat_of_zero_le hr.1
    refine ⟨x.block, x.off, by rw [← e1], y, by omega, ?_⟩
    rw [e2, List.getD_eq_getElem?_getD, List.getElem?_eq_getElem hi', Option.getD_some, hy]

end Go.Proofs.YtjdcndkgodpnlaaDoor.byteArgs
