/- SetsOf; SolSets: one text, so that the claim has fewer files. -/
import Derived.Test.YtpfecijahiikhaaGreatDoorPart2
import Derived.OwnWalk
import Derived.WalkSpells
import Derived.Maps.AppendAt
import Derived.Lib.TrailingZeros
/- Lists of sets of literals in memory of the call's own, and what tells whether all of them meet values; with the contracts of the functions that make and read them; conditions: lengths that fit. -/
namespace Go.Proofs.YtpfecijahiikhaaGreatDoor.setsOf
open Go.RowKit Go.Deep base copy cnf eval sets

def setCells (zss : List (List Int)) : List Value := zss.flatMap (fun zs => [.int .u64 (pSet zs), .int .u64 (oSet zs)])
theorem setCells_get : ∀ (zss : List (List Int)) (i : Nat), i < zss.length → (setCells zss)[i * 2]? = some (.int .u64 (pSet (zss[i]?.getD []))) ∧ (setCells zss)[i * 2 + 1]? = some (.int .u64 (oSet (zss[i]?.getD [])))
  | [], i, h => absurd h (Nat.not_lt_zero _)
  | z :: zss, 0, _ => ⟨rfl, rfl⟩
  | z :: zss, i + 1, h => by
    have := setCells_get zss i (by simpa using h)
    have e : setCells (z :: zss) = [.int .u64 (pSet z), .int .u64 (oSet z)] ++ setCells zss := rfl
    rw [e, show (i + 1) * 2 = i * 2 + 2 by omega]
    rw [List.getElem?_append_right (by simp), List.getElem?_append_right (by simp)]
    simpa using this
theorem setCells_append (zss : List (List Int)) (zs : List Int) : setCells (zss ++ [zs]) = setCells zss ++ [.int .u64 (pSet zs), .int .u64 (oSet zs)] := by
  simp [setCells]
theorem cell_two_new (w : World) (x y : Value) (t : TypeId) : ∀ j u, [x, y][j]? = some u → (w.alloc (.cells #[x, y] t)).cell? ((⟨w.heap.size, 0, none⟩ : Addr).add j) = some u := by
  intro j u h
  rcases j with _ | _ | j
  · simp at h; subst h; simp [go_sem, Addr.add]
  · simp at h; subst h; simp [go_sem, Addr.add]
  · simp at h
theorem take_snoc {α : Type} {zs : List α} {d : α} {k : Nat} (h : k < zs.length) : zs.take (k + 1) = zs.take k ++ [zs[k]?.getD d] := by
  rw [List.take_succ_eq_append_getElem h, List.getElem?_eq_getElem h]; rfl
/-- A slice that reads as a list of sets. -/
structure SetRow (w : World) (a : Option Addr) (len : Nat) (zss : List (List Int)) : Prop where
  length : zss.length = len
  most : len ≤ maxLen
  cell : ∀ i, i < len → ∃ b, a = some ⟨b, 0, none⟩ ∧ w.cell? ⟨b, i * 2, none⟩ = some (.int .u64 (pSet (zss[i]?.getD []))) ∧ w.cell? ⟨b, i * 2 + 1, none⟩ = some (.int .u64 (oSet (zss[i]?.getD [])))
theorem SetRow.below {W w1 : World} {a : Option Addr} {len : Nat} {zss : List (List Int)} (h : SetRow W a len zss) (hb : Below W.heap.size W w1) : SetRow w1 a len zss :=
  ⟨h.length, h.most, fun i hi => by
    obtain ⟨b, e, h1, h2⟩ := h.cell i hi
    exact ⟨b, e, keep hb h1, keep hb h2⟩⟩
def OwnSets (B : Nat) (w : World) (v : Value) (zss : List (List Int)) : Prop := w.ownsRow B 52 2 v zss.length (setCells zss)
theorem OwnSets.nil (B : Nat) (w : World) : OwnSets B w (.slice none 0 0) [] := World.ownsRow_nil w B 52 2
theorem OwnSets.form {B : Nat} {w : World} {v : Value} {zss : List (List Int)} (h : OwnSets B w v zss) : ∃ a cap, v = .slice a zss.length cap ∧ SetRow w a zss.length zss := by
  obtain ⟨h1, h2⟩ := h
  rcases h2 with ⟨rfl, hn⟩ | ⟨g, cap, cur, rfl, hb, hh, hn, hm, hs, ht⟩
  · exact ⟨none, 0, by rw [hn], ⟨rfl, by rw [hn]; exact Nat.zero_le _, fun i hi => by omega⟩⟩
  · refine ⟨some ⟨g, 0, none⟩, cap, rfl, ⟨rfl, Nat.le_trans hn hm, fun i hi => ⟨g, rfl, ?_⟩⟩⟩
    have h3 : ∀ j, j < zss.length * 2 → cur[j]? = (setCells zss)[j]? := fun j hj => by
      have : (cur.toList.take (zss.length * 2))[j]? = (setCells zss)[j]? := by rw [ht]
      rw [List.getElem?_take, if_pos hj] at this
      rw [← Array.getElem?_toList, this]
    obtain ⟨g1, g2⟩ := setCells_get zss i hi
    have e1 := h3 (i * 2) (by omega)
    have e2 := h3 (i * 2 + 1) (by omega)
    rw [g1] at e1
    rw [g2] at e2
    exact ⟨by simp [World.cell?, hh, e1], by simp [World.cell?, hh, e2]⟩
theorem OwnSets.below {B : Nat} {W w1 : World} {v : Value} {zss : List (List Int)} (h : OwnSets B W v zss) (hb : Below W.heap.size W w1) : OwnSets B w1 v zss := by
  obtain ⟨h1, h2⟩ := h
  refine ⟨h1, ?_⟩
  rcases h2 with h2 | ⟨g, cap, cur, e, hg, hh, hn, hm, hs, ht⟩
  · exact .inl h2
  · exact .inr ⟨g, cap, cur, e, hg, by rw [hb.block g (Array.getElem?_eq_some_iff.1 hh).1]; exact hh, hn, hm, hs, ht⟩
theorem grown_below {B : Nat} {w w1 w2 : World} {v : Value} {zss : List (List Int)} (h : OwnSets B w1 v zss) (hb : Below B w w1) (hB : B ≤ w1.heap.size) (hg : w1.grownBy w2 v.ownBlock) : Below B w w2 :=
  hb.grown hg hB (fun k hk => (World.ownsRow.lt h k hk).1)

theorem Tryz.info_set : (Tryz.prog.info? 52).map (fun i => (i.zero, i.size, i.bytes)) = some (some (.agg #[.int .u64 0, .int .u64 0]), 2, 16) := by kernel_rfl

set_option maxHeartbeats 1600000 in
theorem setsOf_impl (a : Option Addr) (len cap : Nat) (zss : List (List Int)) (w : World) (hr : IntRows w a len zss) (hb : len ≤ 1048576) (hz : ∀ i, i < len → ∀ z ∈ zss[i]?.getD [], z.natAbs < 41) :
    Calls Tryz.prog 20 #[.slice a len cap] w fun e w' => ∃ v, e = .returned v ∧ OwnSets w.heap.size w' v zss ∧ Below w.heap.size w w' := by
  have hmost := hr.most
  unfold maxLen at hmost
  have HR := hid hr
  have HL := hid hr.length
  have HZ := hid hz
  clear hr hz
  obtain ⟨i0, hi, hzz⟩ := Option.map_eq_some_iff.1 Tryz.info_set
  simp only [Prod.mk.injEq] at hzz
  obtain ⟨hz0, hz1, hz2⟩ := hzz
  have HI := hid hi
  have HZ0 := hid hz0
  have HZ1 := hid hz1
  have HZ2 := hid hz2
  clear hi hz0 hz1 hz2
  go_enter Tryz.func20, Tryz.ntmps20
  go_wp2
  go_loopw [8, 3] (fun i v wr => ∃ k : Nat, k ≤ len ∧ i = .int .i64 k ∧ OwnSets w.heap.size wr v (zss.take k) ∧ Below w.heap.size w wr) (fun i _ _ => len - (intOf i).toNat)
  case atStart => exact ⟨0, Nat.zero_le _, rfl, OwnSets.nil _ _, Below.refl _ _⟩
  case round =>
    rename_i v0
    obtain ⟨k, hk, rfl, hown, hbel⟩ := hrel
    have HO := hid hown
    have HB := hid hbel
    by_cases hlt : k < len
    · obtain ⟨b, off, rfl, x, l, c, hc0, hx0⟩ := HR.out.cell k hlt
      have hc := keep hbel hc0
      have HX := hid (hx0.below hbel)
      have HZk := hid (HZ.out k hlt)
      have HT := hid (take_snoc (zs := zss) (d := []) (k := k) (by rw [HL.out]; omega))
      have HLen : Hid ((zss.take k).length ≤ k) := List.length_take_le _ _
      clear hown hbel hc0 hx0
      generalize zss[k]?.getD [] = zs at *
      have HB0 := hid HB.out.size
      go_wp2_with fail
      refine (setOf_impl x l c zs _ HX.out HZk.out).mono ?_
      rintro e w2 ⟨rfl, hb2⟩
      have HB2 := hid (HB.out.trans (hb2.mono HB0.out))
      have HO2 := hid (HO.out.below hb2)
      have HB20 := hid HB2.out.size
      clear hb2
      go_wp2_with (at_builtin; (refine wpList_append_own _ rfl _ _ 47 rfl w.heap.size 52 i0 _ 2 16 Tryz.underlying47 HI.out HZ0.out HZ1.out HZ2.out rfl (by decide) _ _ _ rfl (World.ownsRow.alloc HO2.out _) ⟨w2.heap.size, 0, none⟩ 1 1 [.int .u64 (pSet zs), .int .u64 (oSet zs)] rfl rfl (cell_two_new _ _ _ _) (fun x hx => by simp at hx; rcases hx with rfl | rfl <;> rfl) (by have := HLen.out; unfold maxLen; omega) (by have := HLen.out; omega) (by have := HB20.out; simp; omega) ?_); intro v' w3 hown' hgrow3 hnil3)
      have HO3 : Hid (OwnSets w.heap.size w3 v' (zss.take (k + 1))) := by
        show OwnSets _ _ _ _
        rw [HT.out]
        unfold OwnSets
        rw [List.length_append, setCells_append]
        exact hown'
      have HB3 : Hid (Below w.heap.size w w3) := grown_below (OwnSets.below HO2.out (by repeat (first | exact Below.refl _ _ | assumption | refine Below.drew ?_ | refine Below.alloc ?_ (by first | exact Nat.le_refl _ | omega | (simp; done) | (simp; omega)) _ | refine Below.setCell ?_ (by first | exact Nat.le_refl _ | omega | (simp; done) | (simp; omega)) _))) (HB2.out.alloc HB20.out _) (by have := HB20.out; simp; omega) hgrow3
      clear hown' hgrow3 hnil3
      go_wp2
      go_roundw
      case rel => exact ⟨k + 1, by omega, by go_num, HO3.out, HB3.out⟩
      case measure => simp [intOf]; omega
    · have e : k = len := by omega
      subst e
      clear hown hbel
      have ht : zss.take k = zss := List.take_of_length_le (by rw [HL.out]; omega)
      rw [ht] at HO
      clear ht
      go_wp2
      go_ret
      exact ⟨_, rfl, HO.out, HB.out⟩

end Go.Proofs.YtpfecijahiikhaaGreatDoor.setsOf

/- Sets of literals as pairs of numbers: which literals they hold, and what the operations on them do; conditions: literals of at most 40 variables. -/
namespace Go.Proofs.YtpfecijahiikhaaGreatDoor.solSets
open sets
set_option linter.unusedVariables false
set_option linter.unusedSimpArgs false

abbrev LS := Nat × Nat
def mem (S : LS) (l : Int) : Bool := if l < 0 then S.2.testBit l.natAbs else S.1.testBit l.natAbs
structure Wf (S : LS) : Prop where
  p : S.1 < 2 ^ 41
  o : S.2 < 2 ^ 41
  p0 : S.1.testBit 0 = false
  o0 : S.2.testBit 0 = false
def withL (a b : LS) : LS := (a.1 ||| b.1, a.2 ||| b.2)
def woL (a b : LS) : LS := (a.1 &&& (18446744073709551615 - b.1), a.2 &&& (18446744073709551615 - b.2))
def turnL (a : LS) : LS := (a.2, a.1)
def onlyL (l : Int) : LS := (pBit l, oBit l)
def meetL (a b : LS) : Bool := meetB a.1 a.2 b.1 b.2
def firstL (a : LS) : Int := if a = (0, 0) then 0 else if a.1.testBit (Lib.ctz 64 (a.1 ||| a.2)) = true then (Lib.ctz 64 (a.1 ||| a.2) : Int) else -(Lib.ctz 64 (a.1 ||| a.2) : Int)
def restL (c H : LS) : LS := woL c (turnL H)

theorem wf_zero : Wf (0, 0) := ⟨by decide, by decide, by decide, by decide⟩
theorem mem_zero (l : Int) : mem (0, 0) l = false := by unfold mem; split <;> simp
theorem tb_far {a i n : Nat} (h : a < 2 ^ n) (hi : n ≤ i) : a.testBit i = false := Nat.testBit_lt_two_pow (Nat.lt_of_lt_of_le h (Nat.pow_le_pow_right (by decide) hi))
theorem Wf.lt {S : LS} (h : Wf S) : S.1 < 18446744073709551616 ∧ S.2 < 18446744073709551616 := ⟨Nat.lt_of_lt_of_le h.p (by decide), Nat.lt_of_lt_of_le h.o (by decide)⟩
theorem Wf.range {S : LS} (h : Wf S) {l : Int} (hl : mem S l = true) : l ≠ 0 ∧ -40 ≤ l ∧ l ≤ 40 := by
  unfold mem at hl
  by_cases hn : l < 0
  · rw [if_pos hn] at hl
    refine ⟨by omega, ?_, by omega⟩
    refine Classical.byContradiction fun hx => ?_
    rw [tb_far h.o (by omega)] at hl
    cases hl
  · rw [if_neg hn] at hl
    refine ⟨fun e => ?_, by omega, ?_⟩
    · subst e
      have := h.p0
      simp at hl
      simp [hl] at this
    · refine Classical.byContradiction fun hx => ?_
      rw [tb_far h.p (by omega)] at hl
      cases hl
theorem Wf.zero {S : LS} (h : Wf S) : mem S 0 = false := by unfold mem; rw [if_neg (by decide)]; exact h.p0
theorem mem_with (a b : LS) (l : Int) : mem (withL a b) l = (mem a l || mem b l) := by
  unfold mem withL; split <;> simp [Nat.testBit_or]
theorem tb_wo {a b i : Nat} (ha : a < 2 ^ 41) (hb : b < 2 ^ 64) : (a &&& (18446744073709551615 - b)).testBit i = (a.testBit i && !b.testBit i) := by
  rw [Nat.testBit_and]
  by_cases hi : i < 64
  · rw [testBit_compl hb hi]
  · rw [tb_far ha (by omega)]; rfl
theorem mem_wo {a b : LS} (ha : Wf a) (hb : Wf b) (l : Int) : mem (woL a b) l = (mem a l && !mem b l) := by
  unfold mem woL
  split
  · exact tb_wo ha.o (Nat.lt_of_lt_of_le hb.o (by decide))
  · exact tb_wo ha.p (Nat.lt_of_lt_of_le hb.p (by decide))
theorem mem_turn {a : LS} {l : Int} (h : l ≠ 0) : mem (turnL a) l = mem a (-l) := by
  unfold mem turnL
  by_cases hn : l < 0
  · rw [if_pos hn, if_neg (by omega), Int.natAbs_neg]
  · rw [if_neg hn, if_pos (by omega), Int.natAbs_neg]
theorem mem_only {l m : Int} (h : l ≠ 0) : mem (onlyL l) m = decide (l = m) := by
  unfold mem onlyL pBit oBit
  by_cases hl : l < 0 <;> by_cases hm : m < 0 <;> simp only [hl, hm, if_true, if_false, Nat.zero_testBit, Nat.testBit_two_pow]
  · exact decide_eq_decide.2 ⟨fun h => by omega, fun h => by omega⟩
  · exact (decide_eq_false (by omega)).symm
  · exact (decide_eq_false (by omega)).symm
  · exact decide_eq_decide.2 ⟨fun h => by omega, fun h => by omega⟩
theorem wf_with {a b : LS} (ha : Wf a) (hb : Wf b) : Wf (withL a b) :=
  ⟨Nat.or_lt_two_pow ha.p hb.p, Nat.or_lt_two_pow ha.o hb.o, by show (a.1 ||| b.1).testBit 0 = false; rw [Nat.testBit_or, ha.p0, hb.p0]; rfl, by show (a.2 ||| b.2).testBit 0 = false; rw [Nat.testBit_or, ha.o0, hb.o0]; rfl⟩
theorem wf_turn {a : LS} (ha : Wf a) : Wf (turnL a) := ⟨ha.o, ha.p, ha.o0, ha.p0⟩
theorem wf_wo {a : LS} (ha : Wf a) (b : LS) : Wf (woL a b) :=
  ⟨Nat.lt_of_le_of_lt Nat.and_le_left ha.p, Nat.lt_of_le_of_lt Nat.and_le_left ha.o, by simp only [woL, Nat.testBit_and, ha.p0, Bool.false_and], by simp only [woL, Nat.testBit_and, ha.o0, Bool.false_and]⟩
theorem wf_only {l : Int} (h : l ≠ 0) (h0 : -40 ≤ l) (h1 : l ≤ 40) : Wf (onlyL l) := by
  refine ⟨pBit_lt (by omega), oBit_lt (by omega), ?_, ?_⟩
  · unfold onlyL pBit; dsimp only; split
    · simp
    · rw [Nat.testBit_two_pow]; exact decide_eq_false (by omega)
  · unfold onlyL oBit; dsimp only; split
    · rw [Nat.testBit_two_pow]; exact decide_eq_false (by omega)
    · simp
theorem ls_ext {a b : LS} (ha : Wf a) (hb : Wf b) (h : ∀ l, mem a l = mem b l) : a = b := by
  refine Prod.ext (Nat.eq_of_testBit_eq fun i => ?_) (Nat.eq_of_testBit_eq fun i => ?_)
  · have := h (i : Int)
    unfold mem at this
    rw [if_neg (by omega), if_neg (by omega)] at this
    simpa using this
  · by_cases h0 : i = 0
    · subst h0; rw [ha.o0, hb.o0]
    · have := h (-(i : Int))
      unfold mem at this
      rw [if_pos (by omega), if_pos (by omega)] at this
      simpa using this
theorem zero_iff {a : LS} (ha : Wf a) : a = (0, 0) ↔ ∀ l, mem a l = false :=
  ⟨fun h l => by rw [h]; exact mem_zero l, fun h => ls_ext ha wf_zero fun l => by rw [h l, mem_zero]⟩
theorem meet_iff {a b : LS} (ha : Wf a) : meetL a b = true ↔ ∃ l, mem a l = true ∧ mem b l = true := by
  unfold meetL meetB
  rw [decide_eq_true_eq]
  constructor
  · intro h
    refine Classical.byContradiction fun hx => h ⟨Nat.eq_of_testBit_eq fun i => ?_, Nat.eq_of_testBit_eq fun i => ?_⟩
    · rw [Nat.testBit_and, Nat.zero_testBit]
      refine Classical.byContradiction fun hy => hx ⟨(i : Int), ?_⟩
      have hy : (a.1.testBit i && b.1.testBit i) = true := by simpa using hy
      rw [Bool.and_eq_true] at hy
      unfold mem
      rw [if_neg (by omega), if_neg (by omega)]
      simpa using hy
    · rw [Nat.testBit_and, Nat.zero_testBit]
      refine Classical.byContradiction fun hy => hx ⟨-(i : Int), ?_⟩
      have hy : (a.2.testBit i && b.2.testBit i) = true := by simpa using hy
      rw [Bool.and_eq_true] at hy
      have h0 : i ≠ 0 := fun e => by subst e; rw [ha.o0] at hy; cases hy.1
      unfold mem
      rw [if_pos (by omega), if_pos (by omega)]
      simpa using hy
  · rintro ⟨l, h1, h2⟩ ⟨e1, e2⟩
    unfold mem at h1 h2
    by_cases hn : l < 0
    · rw [if_pos hn] at h1 h2
      have : (a.2 &&& b.2).testBit l.natAbs = true := by rw [Nat.testBit_and, h1, h2]; rfl
      rw [e2] at this; simp at this
    · rw [if_neg hn] at h1 h2
      have : (a.1 &&& b.1).testBit l.natAbs = true := by rw [Nat.testBit_and, h1, h2]; rfl
      rw [e1] at this; simp at this
theorem meet_false {a b : LS} (ha : Wf a) (h : meetL a b = false) {l : Int} (hl : mem a l = true) : mem b l = false := by
  cases hb : mem b l
  · rfl
  · rw [(meet_iff ha).2 ⟨l, hl, hb⟩] at h; cases h
theorem has_only {a : LS} (ha : Wf a) {l : Int} (hl : l ≠ 0) : meetL a (onlyL l) = mem a l := by
  rw [Bool.eq_iff_iff, meet_iff ha]
  constructor
  · rintro ⟨m, h1, h2⟩
    rw [mem_only hl, decide_eq_true_eq] at h2
    rw [h2]; exact h1
  · exact fun h => ⟨l, h, by rw [mem_only hl]; simp⟩
theorem tb_ctz {x : Nat} (h0 : x ≠ 0) (h : x < 2 ^ 64) : x.testBit (Lib.ctz 64 x) = true ∧ Lib.ctz 64 x < 64 := by
  unfold Lib.ctz
  rw [if_neg h0]
  obtain ⟨m, e, hk⟩ := Lib.ctzFrom_spec 64 x (Nat.pos_of_ne_zero h0) h
  refine ⟨?_, hk⟩
  generalize Lib.ctzFrom 64 x = k at *
  rw [e, Nat.testBit_two_pow_mul]
  simp
theorem first_spec {a : LS} (ha : Wf a) (h : a ≠ (0, 0)) : mem a (firstL a) = true ∧ firstL a ≠ 0 ∧ Lib.ctz 64 (a.1 ||| a.2) ≤ 40 := by
  have hx : a.1 ||| a.2 ≠ 0 := fun e => h (by
    have h1 : a.1 = 0 := Nat.eq_of_testBit_eq fun i => by
      have : (a.1 ||| a.2).testBit i = false := by rw [e]; simp
      rw [Nat.testBit_or, Bool.or_eq_false_iff] at this
      simp [this.1]
    have h2 : a.2 = 0 := Nat.eq_of_testBit_eq fun i => by
      have : (a.1 ||| a.2).testBit i = false := by rw [e]; simp
      rw [Nat.testBit_or, Bool.or_eq_false_iff] at this
      simp [this.2]
    exact Prod.ext h1 h2)
  have hl : a.1 ||| a.2 < 2 ^ 41 := Nat.or_lt_two_pow ha.p ha.o
  obtain ⟨hb, _⟩ := tb_ctz hx (Nat.lt_of_lt_of_le hl (by decide))
  unfold firstL
  rw [if_neg h]
  generalize Lib.ctz 64 (a.1 ||| a.2) = k at *
  have hk : k ≤ 40 := Classical.byContradiction fun hx => by rw [tb_far hl (by omega)] at hb; cases hb
  rw [Nat.testBit_or, Bool.or_eq_true] at hb
  have h0 : k ≠ 0 := fun e => by subst e; rw [ha.p0, ha.o0] at hb; simp at hb
  by_cases h1 : a.1.testBit k = true
  · rw [if_pos h1]
    refine ⟨?_, by omega, hk⟩
    unfold mem
    rw [if_neg (by omega)]
    simpa using h1
  · rw [if_neg h1]
    refine ⟨?_, by omega, hk⟩
    unfold mem
    rw [if_pos (by omega)]
    have := hb.resolve_left h1
    simpa using this
theorem first_zero {a : LS} (ha : Wf a) : firstL a = 0 ↔ a = (0, 0) :=
  ⟨fun h => Classical.byContradiction fun hx => (first_spec ha hx).2.1 h, fun h => by unfold firstL; rw [if_pos h]⟩
theorem mem_rest {c H : LS} (hc : Wf c) (hH : Wf H) (l : Int) : mem (restL c H) l = (mem c l && !mem H (-l)) := by
  unfold restL
  rw [mem_wo hc (wf_turn hH)]
  by_cases h : l = 0
  · subst h; rw [hc.zero]; rfl
  · rw [mem_turn h]
theorem wf_rest {c : LS} (hc : Wf c) (H : LS) : Wf (restL c H) := wf_wo hc _
/-- What a list of literals holds as a set. -/
def setL (zs : List Int) : LS := (pSet zs, oSet zs)
theorem foldl_or_bit {f : Int → Nat} (i : Nat) : ∀ (zs : List Int) (a : Nat), (zs.foldl (fun a l => a ||| f l) a).testBit i = (a.testBit i || zs.any (fun z => (f z).testBit i))
  | [], a => by simp
  | z :: zs, a => by rw [List.foldl_cons, foldl_or_bit i zs, Nat.testBit_or, List.any_cons, Bool.or_assoc]
theorem mem_set {zs : List Int} (h : ∀ z ∈ zs, z ≠ 0) (l : Int) : mem (setL zs) l = zs.contains l := by
  have h1 : mem (setL zs) l = zs.any (fun z => mem (onlyL z) l) := by
    unfold mem setL pSet oSet onlyL
    split <;> simp [foldl_or_bit]
  rw [h1, Bool.eq_iff_iff, List.any_eq_true, List.contains_iff_mem]
  constructor
  · rintro ⟨z, hz, hm⟩
    rw [mem_only (h z hz), decide_eq_true_eq] at hm
    rw [← hm]; exact hz
  · exact fun hl => ⟨l, hl, by rw [mem_only (h l hl)]; simp⟩
theorem wf_set {zs : List Int} (h : ∀ z ∈ zs, z ≠ 0 ∧ z.natAbs < 41) : Wf (setL zs) := by
  refine ⟨pSet_lt fun z hz => (h z hz).2, oSet_lt fun z hz => (h z hz).2, ?_, ?_⟩
  · have := mem_set (fun z hz => (h z hz).1) 0
    unfold mem at this
    rw [if_neg (by decide)] at this
    rw [show (0 : Int).natAbs = 0 from rfl] at this
    rw [this, Bool.eq_false_iff]
    intro hc
    exact (h 0 (by simpa using hc)).1 rfl
  · unfold setL oSet
    rw [foldl_or_bit]
    simp only [Nat.zero_testBit, Bool.false_or, List.any_eq_false]
    intro z hz
    unfold oBit
    split
    · rw [Nat.testBit_two_pow]; simp; have := (h z hz).1; omega
    · simp
end Go.Proofs.YtpfecijahiikhaaGreatDoor.solSets
