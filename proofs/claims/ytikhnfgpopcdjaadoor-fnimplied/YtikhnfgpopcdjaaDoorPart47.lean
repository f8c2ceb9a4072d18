/- ClauseOfI; OwnBools; Args; ByteArgsI: one text, so that the claim has fewer files. -/
import Derived.Test.YtikhnfgpopcdjaaDoorCnfDraw
import Derived.Test.YtikhnfgpopcdjaaDoorPart3
import Derived.OwnWalk
import Derived.WalkSpells
import Derived.Maps.AppendAt
import Derived.Laws.BitsLemmas
import Derived.Test.YtikhnfgpopcdjaaDoorPart1
import Derived.ProofKit
import Derived.OpenShut
import Derived.ShutString
import Derived.ChangeOld
import Derived.Lib.SmallJoins
import Derived.Deep.Slices
import Derived.Test.YtikhnfgpopcdjaaDoorPart14
/- A drawn clause (ClauseOf), without what sorts; conditions: at most 40 variables. -/
namespace Go.Proofs.YtikhnfgpopcdjaaDoor.clauseOfI
open Go.RowKit Go.Deep base copy cnf rowsOwn source cnfDraw
theorem clauseOf_spec (a : Option Addr) (len cap : Nat) (vars : Int) (w : World) (hb : Bytes w a len) (hl : len ≤ 1048576) (hv : 1 ≤ vars) (hv' : vars ≤ 40) :
    Calls Tryd.prog 5 #[.slice a len cap, .int .i64 vars] w fun e w' => ∃ x zs, e = .returned x ∧ OwnInts w.heap.size w' x zs ∧ zs.length ≤ 3 ∧ (∀ z ∈ zs, litB vars z = true) ∧ Below w.heap.size w w' := by
  have HB := hid hb
  clear hb
  go_enter Tryd.func5, Tryd.ntmps5
  go_wp2_with fail
  refine (source_spec a len cap _ HB.out hl).mono ?_
  rintro e w1 ⟨b, rfl, hbe, hbl, hs1, hb1⟩
  have HS1 := hid hs1
  have HB1 := hid hb1
  have HBe := hid (Nat.le_of_eq hbe.symm)
  clear hs1 hb1 hbe
  go_wp2_with fail
  refine (next_src b a len cap 0 4 _ HS1.out (by omega) (by omega) (by omega)).mono ?_
  rintro e w2 ⟨r, rfl, r0, r1, hs2, hg2⟩
  have HS2 := hid hs2
  have HB2 : Hid (Below w.heap.size w w2) := HB1.out.grown hg2 HB1.out.size (fun g e => by injection e with e; have := HBe.out; omega)
  have hbl2 : b < w2.heap.size := Nat.lt_of_lt_of_le hbl hg2.size
  clear hs2 hg2
  go_wp2_with fail
  refine (clause_src b a len cap 1 vars r _ HS2.out hbl2 (by omega) (by omega) hv' r0 (by omega)).mono ?_
  rintro e w3 ⟨x, zs, rfl, ho3, hz3, hl3, hg3, _⟩
  have HB3 : Hid (Below w.heap.size w w3) := HB2.out.grown hg3 HB2.out.size (fun g e => by injection e with e; have := HBe.out; omega)
  have HO3 := hid (ho3.mono HB2.out.size)
  have HL3 := hid hl3
  have HZ3 : Hid (zs.length ≤ 3) := by show _ ≤ _; omega
  clear ho3 hl3 hg3 hz3
  go_wp2
  go_ret
  exact ⟨x, zs, rfl, HO3.out, HZ3.out, HL3.out, HB3.out⟩
end Go.Proofs.YtikhnfgpopcdjaaDoor.clauseOfI

/- Slices of bools in memory that a call makes for itself, and the contract of the function that tells a number's bits as values; conditions: lengths that fit. -/
namespace Go.Proofs.YtikhnfgpopcdjaaDoor.ownBools
open Go.RowKit Go.Deep base copy cnf eval sets

def OwnBools (B : Nat) (w : World) (v : Value) (zs : List Bool) : Prop := w.ownsRow B 4 1 v zs.length (zs.map Value.bool)
theorem OwnBools.form {B : Nat} {w : World} {v : Value} {zs : List Bool} (h : OwnBools B w v zs) : ∃ a cap, v = .slice a zs.length cap ∧ BoolRow w a zs.length zs := by
  obtain ⟨h1, h2⟩ := h
  rcases h2 with ⟨rfl, hn⟩ | ⟨g, cap, cur, rfl, hb, hh, hn, hm, hs, ht⟩
  · exact ⟨none, 0, by rw [hn], ⟨rfl, by rw [hn]; exact Nat.zero_le _, fun i hi => by omega⟩⟩
  · refine ⟨some ⟨g, 0, none⟩, cap, rfl, ⟨rfl, Nat.le_trans hn hm, fun i hi => ⟨g, 0, rfl, ?_⟩⟩⟩
    have h3 : cur[i]? = some (.bool (zs[i]?.getD false)) := by
      have : (cur.toList.take (zs.length * 1))[i]? = (zs.map Value.bool)[i]? := by rw [ht]
      rw [List.getElem?_take, if_pos (by omega)] at this
      rw [← Array.getElem?_toList, this, List.getElem?_map, List.getElem?_eq_getElem hi]
      rfl
    simp [World.cell?, hh, h3]
theorem OwnBools.below {B : Nat} {W w1 : World} {v : Value} {zs : List Bool} (h : OwnBools B W v zs) (hb : Below W.heap.size W w1) : OwnBools B w1 v zs := by
  obtain ⟨h1, h2⟩ := h
  refine ⟨h1, ?_⟩
  rcases h2 with h2 | ⟨g, cap, cur, e, hg, hh, hn, hm, hs, ht⟩
  · exact .inl h2
  · exact .inr ⟨g, cap, cur, e, hg, by rw [hb.block g (Array.getElem?_eq_some_iff.1 hh).1]; exact hh, hn, hm, hs, ht⟩
theorem grown_below_bools {B : Nat} {w w1 w2 : World} {v : Value} {zs : List Bool} (h : OwnBools B w1 v zs) (hb : Below B w w1) (hB : B ≤ w1.heap.size) (hg : w1.grownBy w2 v.ownBlock) : Below B w w2 :=
  hb.grown hg hB (fun k hk => (World.ownsRow.lt h k hk).1)
theorem OwnBools.empty (w : World) : OwnBools w.heap.size (w.alloc (.cells #[] 4)) (.slice (some ⟨w.heap.size, 0, none⟩) 0 0) [] :=
  ⟨rfl, .inr ⟨w.heap.size, 0, #[], rfl, Nat.le_refl _, heap_alloc_new w _, Nat.le_refl _, Nat.zero_le _, rfl, rfl⟩⟩
theorem vals_succ (n k : Nat) : valsOf n (k + 1) = valsOf n k ++ [n.testBit k] := by
  unfold valsOf
  rw [List.range_succ, List.map_append]; rfl
theorem bit_of (n k : Nat) (hn : n < 4096) : (bits .and .i64 ((n : Int) / 2 ^ k) 1 == 1) = n.testBit k := by
  have e : ((n : Int) / 2 ^ k) = ((n / 2 ^ k : Nat) : Int) := by simp
  have hl : n / 2 ^ k < 4096 := Nat.lt_of_le_of_lt (Nat.div_le_self _ _) hn
  rw [e, Nat.testBit_eq_decide_div_mod_eq]
  generalize n / 2 ^ k = m at *
  have h := bits_mask .i64 40 (by decide) (fun m h0 h1 => by rw [IntKind.wrap_i64]; omega) 1 (by decide) (m : Int) (by omega) (by omega)
  simp only [Int.reducePow, Int.reduceSub] at h
  rw [h]
  rw [Bool.eq_iff_iff]
  simp
  omega
theorem info_bool : (Tryd.prog.info? 4).map (fun i => (i.zero, i.size, i.bytes)) = some (some (.bool false), 1, 1) := by kernel_rfl

set_option maxHeartbeats 1600000 in
theorem values_laws (n vars : Nat) (w : World) (hn : n < 4096) (hv : vars ≤ 12) :
    Calls Tryd.prog 7 #[.int .i64 n, .int .i64 vars] w fun e w' => ∃ v, e = .returned v ∧ OwnBools w.heap.size w' v (valsOf n vars) ∧ Below w.heap.size w w' := by
  obtain ⟨i0, hi, hzz⟩ := Option.map_eq_some_iff.1 info_bool
  simp only [Prod.mk.injEq] at hzz
  obtain ⟨hz0, hz1, hz2⟩ := hzz
  have HI := hid hi
  have HZ0 := hid hz0
  have HZ1 := hid hz1
  have HZ2 := hid hz2
  clear hi hz0 hz1 hz2
  go_enter Tryd.func7, Tryd.ntmps7
  go_wp2
  go_loopw [6, 5] (fun i v wr => ∃ k : Nat, k ≤ vars ∧ i = .int .i64 k ∧ OwnBools w.heap.size wr v (valsOf n k) ∧ Below w.heap.size w wr) (fun i _ _ => vars - (intOf i).toNat)
  case atStart => exact ⟨0, Nat.zero_le _, rfl, OwnBools.empty w, (by repeat (first | exact Below.refl _ _ | assumption | refine Below.drew ?_ | refine Below.alloc ?_ (by first | exact Nat.le_refl _ | omega | (simp; done) | (simp; omega)) _ | refine Below.setCell ?_ (by first | exact Nat.le_refl _ | omega | (simp; done) | (simp; omega)) _))⟩
  case round =>
    rename_i v0
    obtain ⟨k, hk, rfl, hown, hbel⟩ := hrel
    have HO := hid hown
    have HB := hid hbel
    have HB0 := hid HB.out.size
    by_cases hlt : k < vars
    · have HT := hid (vals_succ n k)
      have HLen : Hid ((valsOf n k).length = k) := by show _ = _; simp [valsOf]
      clear hown hbel
      go_wp2_with (at_builtin; (refine wpList_append_own _ rfl _ _ 32 rfl w.heap.size 4 i0 (.bool false) 1 1 Tryd.underlying32 HI.out HZ0.out HZ1.out HZ2.out rfl (by decide) _ _ _ rfl (World.ownsRow.alloc HO.out _) ⟨wr.heap.size, 0, none⟩ 1 1 [_] rfl rfl (cell_one_new _ _ _) (fun x hx => by simp at hx; subst hx; rfl) (by have := HLen.out; unfold maxLen; omega) (by have := HLen.out; omega) (by have := HB0.out; simp; omega) ?_); intro v' w3 hown' hgrow3 hnil3)
      have HO2 : Hid (OwnBools w.heap.size w3 v' (valsOf n (k + 1))) := by
        show OwnBools _ _ _ _
        rw [HT.out]
        unfold OwnBools
        rw [List.length_append, List.map_append]
        rw [bit_of n k hn] at hown'
        exact hown'
      have HB2 : Hid (Below w.heap.size w w3) := grown_below_bools (OwnBools.below HO.out (by repeat (first | exact Below.refl _ _ | assumption | refine Below.drew ?_ | refine Below.alloc ?_ (by first | exact Nat.le_refl _ | omega | (simp; done) | (simp; omega)) _ | refine Below.setCell ?_ (by first | exact Nat.le_refl _ | omega | (simp; done) | (simp; omega)) _))) (HB.out.alloc HB0.out _) (by have := HB0.out; simp; omega) hgrow3
      clear hown' hgrow3 hnil3
      exact ⟨⟨k + 1, by omega, by go_num, HO2.out, HB2.out⟩, by simp [intOf]; omega⟩
    · have e : k = vars := by omega
      subst e
      clear hown hbel
      go_wp2
      go_ret
      exact ⟨_, rfl, HO.out, HB.out⟩
end Go.Proofs.YtikhnfgpopcdjaaDoor.ownBools

/- From the form's readings of arguments to the rows that the contracts speak of; of no program; conditions: none. -/
namespace Go.Proofs.YtikhnfgpopcdjaaDoor.args
open Go.ChangeShapes Go.WideShapes Go.ChangeAt Go.RowKit Go.Deep Go.Joins base

variable {H : Type} {enc : TypeId × Value → H} {P : Program} {w : World} {base : Nat} {held : Bool}

theorem at_none {x : Addr} {i : Nat} {v v0 : Value} (h0 : w.cell? (x.add 0) = some v0) (h : w.cell? (x.add i) = some v) : x = ⟨x.block, x.off, none⟩ ∧ w.cell? ⟨x.block, x.off + i, none⟩ = some v := by
  have hs := World.cell?_spot h0
  obtain ⟨b, o, s⟩ := x
  have hs' : s = none := by simpa [Addr.add] using hs
  subst hs'
  refine ⟨rfl, ?_⟩
  by_cases e : i = 0
  · subst e; simpa [Addr.add] using h
  · simpa [Addr.add, e] using h

end Go.Proofs.YtikhnfgpopcdjaaDoor.args

/- From the form's reading of bytes to what the contracts speak of; of no program; conditions: none. -/
namespace Go.Proofs.YtikhnfgpopcdjaaDoor.byteArgs
open Go.ChangeShapes Go.WideShapes Go.ChangeAt Go.RowKit Go.Deep Go.Joins base args

theorem bytes_of_trod {H : Type} {enc : TypeId × Value → H} {P : Program} {w : World} {base : Nat} {held : Bool} {t e : TypeId} {fuel : Nat} {v : Value} {x : DataW H × List MemPlace} (ht : P.underlying t = some (.slice e)) (he : P.underlying e = some (.int .u8)) (ce : P.cellsOf e = 1)
    (h : DataW.trod enc P w base (fun _ => true) held fuel t [v] = some x) : ∃ a len cap, v = .slice a len cap ∧ source.Bytes w a len ∧ len ≤ maxLen := by
  rcases open_ints ht he ce h with ⟨hcs, _⟩ | ⟨x, l, c, zs, hcs, _, hl, hm, hz, _, hcell, hwz⟩
  · exact ⟨none, 0, 0, by simpa using hcs, fun i hi => absurd hi (Nat.not_lt_zero _), Nat.zero_le _⟩
  · simp only [if_true] at hz
    refine ⟨some x, l, c, by simpa using hcs, fun i hi => ?_, Nat.le_trans hl hm⟩
    obtain ⟨e1, e2⟩ := at_none (hcell 0 (by omega)) (hcell i (by omega))
    have hi' : i < zs.length := by omega
    have hw := hwz zs[i] (List.getElem_mem hi')
    have hr : 0 ≤ zs[i] ∧ zs[i] < 256 := by
      simp [Lit.wf, IntKind.min, IntKind.max, IntKind.bits, IntKind.signed] at hw
      omega
    obtain ⟨y, hy⟩ := Int.eq_ofNat_of_zero_le hr.1
    refine ⟨x.block, x.off, by rw [← e1], y, by omega, ?_⟩
    rw [e2, List.getD_eq_getElem?_getD, List.getElem?_eq_getElem hi', Option.getD_some, hy]

end Go.Proofs.YtikhnfgpopcdjaaDoor.byteArgs
