/- Sets of literals as pairs of numbers: which literals they hold, and what the operations on them do; conditions: literals of at most 40 variables. -/
import Derived.Test.YtbahjpheaaiamaaDoorPart3
import Derived.Lib.TrailingZeros
namespace Go.Proofs.YtbahjpheaaiamaaDoor.solSets
open sets
set_option linter.unusedVariables false
set_option linter.unusedSimpArgs false

abbrev LS := Nat × Nat
def mem (S : LS) (l : Int) : Bool := if l < 0 then S.2.testBit l.natAbs else S.1.testBit l.natAbs
structure Wf (S : LS) : Prop where
  p : S.1 < 2 ^ 41
  o : S.2 < 2 ^ 41
  p0 : S.1.testBit 0 = false
  o0 : S.2.testBit 0 = false
def withL (a b : LS) : LS := (a.1 ||| b.1, a.2 ||| b.2)
def woL (a b : LS) : LS := (a.1 &&& (18446744073709551615 - b.1), a.2 &&& (18446744073709551615 - b.2))
def turnL (a : LS) : LS := (a.2, a.1)
def onlyL (l : Int) : LS := (pBit l, oBit l)
def meetL (a b : LS) : Bool := meetB a.1 a.2 b.1 b.2
def firstL (a : LS) : Int := if a = (0, 0) then 0 else if a.1.testBit (Lib.ctz 64 (a.1 ||| a.2)) = true then (Lib.ctz 64 (a.1 ||| a.2) : Int) else -(Lib.ctz 64 (a.1 ||| a.2) : Int)
def restL (c H : LS) : LS := woL c (turnL H)

theorem wf_zero : Wf (0, 0) := ⟨by decide, by decide, by decide, by decide⟩
theorem mem_zero (l : Int) : mem (0, 0) l = false := by unfold mem; split <;> simp
theorem tb_far {a i n : Nat} (h : a < 2 ^ n) (hi : n ≤ i) : a.testBit i = false := Nat.testBit_lt_two_pow (Nat.lt_of_lt_of_le h (Nat.pow_le_pow_right (by decide) hi))
theorem Wf.lt {S : LS} (h : Wf S) : S.1 < 18446744073709551616 ∧ S.2 < 18446744073709551616 := ⟨Nat.lt_of_lt_of_le h.p (by decide), Nat.lt_of_lt_of_le h.o (by decide)⟩
theorem Wf.range {S : LS} (h : Wf S) {l : Int} (hl : mem S l = true) : l ≠ 0 ∧ -40 ≤ l ∧ l ≤ 40 := by
  unfold mem at hl
  by_cases hn : l < 0
  · rw [if_pos hn] at hl
    refine ⟨by omega, ?_, by omega⟩
    refine Classical.byContradiction fun hx => ?_
    rw [tb_far h.o (by omega)] at hl
    cases hl
  · rw [if_neg hn] at hl
    refine ⟨fun e => ?_, by omega, ?_⟩
    · subst e
      have := h.p0
      simp at hl
      simp [hl] at this
    · refine Classical.byContradiction fun hx => ?_
      rw [tb_far h.p (by omega)] at hl
      cases hl
theorem Wf.zero {S : LS} (h : Wf S) : mem S 0 = false := by unfold mem; rw [if_neg (by decide)]; exact h.p0
theorem mem_with (a b : LS) (l : Int) : mem (withL a b) l = (mem a l || mem b l) := by
  unfold mem withL; split <;> simp [Nat.testBit_or]
theorem tb_wo {a b i : Nat} (ha : a < 2 ^ 41) (hb : b < 2 ^ 64) : (a &&& (18446744073709551615 - b)).testBit i = (a.testBit i && !b.testBit i) := by
  rw [Nat.testBit_and]
  by_cases hi : i < 64
  · rw [testBit_compl hb hi]
  · rw [tb_far ha (by omega)]; rfl
theorem mem_wo {a b : LS} (ha : Wf a) (hb : Wf b) (l : Int) : mem (woL a b) l = (mem a l && !mem b l) := by
  unfold mem woL
  split
  · exact tb_wo ha.o (Nat.lt_of_lt_of_le hb.o (by decide))
  · exact tb_wo ha.p (Nat.lt_of_lt_of_le hb.p (by decide))
theorem mem_turn {a : LS} {l : Int} (h : l ≠ 0) : mem (turnL a) l = mem a (-l) := by
  unfold mem turnL
  by_cases hn : l < 0
  · rw [if_pos hn, if_neg (by omega), Int.natAbs_neg]
  · rw [if_neg hn, if_pos (by omega), Int.natAbs_neg]
theorem mem_only {l m : Int} (h : l ≠ 0) : mem (onlyL l) m = decide (l = m) := by
  unfold mem onlyL pBit oBit
  by_cases hl : l < 0 <;> by_cases hm : m < 0 <;> simp only [hl, hm, if_true, if_false, Nat.zero_testBit, Nat.testBit_two_pow]
  · exact decide_eq_decide.2 ⟨fun h => by omega, fun h => by omega⟩
  · exact (decide_eq_false (by omega)).symm
  · exact (decide_eq_false (by omega)).symm
  · exact decide_eq_decide.2 ⟨fun h => by omega, fun h => by omega⟩
theorem wf_with {a b : LS} (ha : Wf a) (hb : Wf b) : Wf (withL a b) :=
  ⟨Nat.or_lt_two_pow ha.p hb.p, Nat.or_lt_two_pow ha.o hb.o, by show (a.1 ||| b.1).testBit 0 = false; rw [Nat.testBit_or, ha.p0, hb.p0]; rfl, by show (a.2 ||| b.2).testBit 0 = false; rw [Nat.testBit_or, ha.o0, hb.o0]; rfl⟩
theorem wf_turn {a : LS} (ha : Wf a) : Wf (turnL a) := ⟨ha.o, ha.p, ha.o0, ha.p0⟩
theorem wf_wo {a : LS} (ha : Wf a) (b : LS) : Wf (woL a b) :=
  ⟨Nat.lt_of_le_of_lt Nat.and_le_left ha.p, Nat.lt_of_le_of_lt Nat.and_le_left ha.o, by simp only [woL, Nat.testBit_and, ha.p0, Bool.false_and], by simp only [woL, Nat.testBit_and, ha.o0, Bool.false_and]⟩
theorem wf_only {l : Int} (h : l ≠ 0) (h0 : -40 ≤ l) (h1 : l ≤ 40) : Wf (onlyL l) := by
  refine ⟨pBit_lt (by omega), oBit_lt (by omega), ?_, ?_⟩
  · unfold onlyL pBit; dsimp only; split
    · simp
    · rw [Nat.testBit_two_pow]; exact decide_eq_false (by omega)
  · unfold onlyL oBit; dsimp only; split
    · rw [Nat.testBit_two_pow]; exact decide_eq_false (by omega)
    · simp
theorem ls_ext {a b : LS} (ha : Wf a) (hb : Wf b) (h : ∀ l, mem a l = mem b l) : a = b := by
  refine Prod.ext (Nat.eq_of_testBit_eq fun i => ?_) (Nat.eq_of_testBit_eq fun i => ?_)
  · have := h (i : Int)
    unfold mem at this
    rw [if_neg (by omega), if_neg (by omega)] at this
    simpa using this
  · by_cases h0 : i = 0
    · subst h0; rw [ha.o0, hb.o0]
    · have := h (-(i : Int))
      unfold mem at this
      rw [if_pos (by omega), if_pos (by omega)] at this
      simpa using this
theorem zero_iff {a : LS} (ha : Wf a) : a = (0, 0) ↔ ∀ l, mem a l = false :=
  ⟨fun h l => by rw [h]; exact mem_zero l, fun h => ls_ext ha wf_zero fun l => by rw [h l, mem_zero]⟩
theorem meet_iff {a b : LS} (ha : Wf a) : meetL a b = true ↔ ∃ l, mem a l = true ∧ mem b l = true := by
  unfold meetL meetB
  rw [decide_eq_true_eq]
  constructor
  · intro h
    refine Classical.byContradiction fun hx => h ⟨Nat.eq_of_testBit_eq fun i => ?_, Nat.eq_of_testBit_eq fun i => ?_⟩
    · rw [Nat.testBit_and, Nat.zero_testBit]
      refine Classical.byContradiction fun hy => hx ⟨(i : Int), ?_⟩
      have hy : (a.1.testBit i && b.1.testBit i) = true := by simpa using hy
      rw [Bool.and_eq_true] at hy
      unfold mem
      rw [if_neg (by omega), if_neg (by omega)]
      simpa using hy
    · rw [Nat.testBit_and, Nat.zero_testBit]
      refine Classical.byContradiction fun hy => hx ⟨-(i : Int), ?_⟩
      have hy : (a.2.testBit i && b.2.testBit i) = true := by simpa using hy
      rw [Bool.and_eq_true] at hy
      have h0 : i ≠ 0 := fun e => by subst e; rw [ha.o0] at hy; cases hy.1
      unfold mem
      rw [if_pos (by omega), if_pos (by omega)]
      simpa using hy
  · rintro ⟨l, h1, h2⟩ ⟨e1, e2⟩
    unfold mem at h1 h2
    by_cases hn : l < 0
    · rw [if_pos hn] at h1 h2
      have : (a.2 &&& b.2).testBit l.natAbs = true := by rw [Nat.testBit_and, h1, h2]; rfl
      rw [e2] at this; simp at this
    · rw [if_neg hn] at h1 h2
      have : (a.1 &&& b.1).testBit l.natAbs = true := by rw [Nat.testBit_and, h1, h2]; rfl
      rw [e1] at this; simp at this
theorem meet_false {a b : LS} (ha : Wf a) (h : meetL a b = false) {l : Int} (hl : mem a l = true) : mem b l = false := by
  cases hb : mem b l
  · rfl
  · rw [(meet_iff ha).2 ⟨l, hl, hb⟩] at h; cases h
theorem has_only {a : LS} (ha : Wf a) {l : Int} (hl : l ≠ 0) : meetL a (onlyL l) = mem a l := by
  rw [Bool.eq_iff_iff, meet_iff ha]
  constructor
  · rintro ⟨m, h1, h2⟩
    rw [mem_only hl, decide_eq_true_eq] at h2
    rw [h2]; exact h1
  · exact fun h => ⟨l, h, by rw [mem_only hl]; simp⟩
theorem tb_ctz {x : Nat} (h0 : x ≠ 0) (h : x < 2 ^ 64) : x.testBit (Lib.ctz 64 x) = true ∧ Lib.ctz 64 x < 64 := by
  unfold Lib.ctz
  rw [if_neg h0]
  obtain ⟨m, e, hk⟩ := Lib.ctzFrom_spec 64 x (Nat.pos_of_ne_zero h0) h
  refine ⟨?_, hk⟩
  generalize Lib.ctzFrom 64 x = k at *
  rw [e, Nat.testBit_two_pow_mul]
  simp
theorem first_spec {a : LS} (ha : Wf a) (h : a ≠ (0, 0)) : mem a (firstL a) = true ∧ firstL a ≠ 0 ∧ Lib.ctz 64 (a.1 ||| a.2) ≤ 40 := by
  have hx : a.1 ||| a.2 ≠ 0 := fun e => h (by
    have h1 : a.1 = 0 := Nat.eq_of_testBit_eq fun i => by
      have : (a.1 ||| a.2).testBit i = false := by rw [e]; simp
      rw [Nat.testBit_or, Bool.or_eq_false_iff] at this
      simp [this.1]
    have h2 : a.2 = 0 := Nat.eq_of_testBit_eq fun i => by
      have : (a.1 ||| a.2).testBit i = false := by rw [e]; simp
      rw [Nat.testBit_or, Bool.or_eq_false_iff] at this
      simp [this.2]
    exact Prod.ext h1 h2)
  have hl : a.1 ||| a.2 < 2 ^ 41 := Nat.or_lt_two_pow ha.p ha.o
  obtain ⟨hb, _⟩ := tb_ctz hx (Nat.lt_of_lt_of_le hl (by decide))
  unfold firstL
  rw [if_neg h]
  generalize Lib.ctz 64 (a.1 ||| a.2) = k at *
  have hk : k ≤ 40 := Classical.byContradiction fun hx => by rw [tb_far hl (by omega)] at hb; cases hb
  rw [Nat.testBit_or, Bool.or_eq_true] at hb
  have h0 : k ≠ 0 := fun e => by subst e; rw [ha.p0, ha.o0] at hb; simp at hb
  by_cases h1 : a.1.testBit k = true
  · rw [if_pos h1]
    refine ⟨?_, by omega, hk⟩
    unfold mem
    rw [if_neg (by omega)]
    simpa using h1
  · rw [if_neg h1]
    refine ⟨?_, by omega, hk⟩
    unfold mem
    rw [if_pos (by omega)]
    have := hb.resolve_left h1
    simpa using this
theorem first_zero {a : LS} (ha : Wf a) : firstL a = 0 ↔ a = (0, 0) :=
  ⟨fun h => Classical.byContradiction fun hx => (first_spec ha hx).2.1 h, fun h => by unfold firstL; rw [if_pos h]⟩
theorem mem_rest {c H : LS} (hc : Wf c) (hH : Wf H) (l : Int) : mem (restL c H) l = (mem c l && !mem H (-l)) := by
  unfold restL
  rw [mem_wo hc (wf_turn hH)]
  by_cases h : l = 0
  · subst h; rw [hc.zero]; rfl
  · rw [mem_turn h]
theorem wf_rest {c : LS} (hc : Wf c) (H : LS) : Wf (restL c H) := wf_wo hc _
/-- What a list of literals holds as a set. -/
def setL (zs : List Int) : LS := (pSet zs, oSet zs)
theorem foldl_or_bit {f : Int → Nat} (i : Nat) : ∀ (zs : List Int) (a : Nat), (zs.foldl (fun a l => a ||| f l) a).testBit i = (a.testBit i || zs.any (fun z => (f z).testBit i))
  | [], a => by simp
  | z :: zs, a => by rw [List.foldl_cons, foldl_or_bit i zs, Nat.testBit_or, List.any_cons, Bool.or_assoc]
theorem mem_set {zs : List Int} (h : ∀ z ∈ zs, z ≠ 0) (l : Int) : mem (setL zs) l = zs.contains l := by
  have h1 : mem (setL zs) l = zs.any (fun z => mem (onlyL z) l) := by
    unfold mem setL pSet oSet onlyL
    split <;> simp [foldl_or_bit]
  rw [h1, Bool.eq_iff_iff, List.any_eq_true, List.contains_iff_mem]
  constructor
  · rintro ⟨z, hz, hm⟩
    rw [mem_only (h z hz), decide_eq_true_eq] at hm
    rw [← hm]; exact hz
  · exact fun hl => ⟨l, hl, by rw [mem_only (h l hl)]; simp⟩
theorem wf_set {zs : List Int} (h : ∀ z ∈ zs, z ≠ 0 ∧ z.natAbs < 41) : Wf (setL zs) := by
  refine ⟨pSet_lt fun z hz => (h z hz).2, oSet_lt fun z hz => (h z hz).2, ?_, ?_⟩
  · have := mem_set (fun z hz => (h z hz).1) 0
    unfold mem at this
    rw [if_neg (by decide)] at this
    rw [show (0 : Int).natAbs = 0 from rfl] at this
    rw [this, Bool.eq_false_iff]
    intro hc
    exact (h 0 (by simpa using hc)).1 rfl
  · unfold setL oSet
    rw [foldl_or_bit]
    simp only [Nat.zero_testBit, Bool.false_or, List.any_eq_false]
    intro z hz
    unfold oBit
    split
    · rw [Nat.testBit_two_pow]; simp; have := (h z hz).1; omega
    · simp
end Go.Proofs.YtbahjpheaaiamaaDoor.solSets
