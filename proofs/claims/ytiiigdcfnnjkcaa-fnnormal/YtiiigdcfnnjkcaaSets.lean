/- Sets of literals as two words of bits: what they are in numbers, and the contracts of the functions that make, join and compare them; conditions: literals of at most 40 variables. -/
import Derived.Test.YtiiigdcfnnjkcaaEval
import Derived.Laws.BitsAllLaws
import Derived.Laws.Bits64b
import Derived.Laws.Shifts
namespace Go.Proofs.Ytiiigdcfnnjkcaa.sets
open Go.RowKit Go.Deep base copy cnf eval

/-- the bit of a literal among the plain ones, and among the opposites -/
def pBit (l : Int) : Nat := if l < 0 then 0 else 2 ^ l.natAbs
def oBit (l : Int) : Nat := if l < 0 then 2 ^ l.natAbs else 0
def pSet (zs : List Int) : Nat := zs.foldl (fun a l => a ||| pBit l) 0
def oSet (zs : List Int) : Nat := zs.foldl (fun a l => a ||| oBit l) 0
def meetB (a b c d : Nat) : Bool := decide (¬ (a &&& c = 0 ∧ b &&& d = 0))
def valsOf (n vars : Nat) : List Bool := (List.range vars).map (fun i => n.testBit i)

theorem pBit_lt {l : Int} {n : Nat} (h : l.natAbs < n) : pBit l < 2 ^ n := by
  unfold pBit; split
  · exact Nat.two_pow_pos _
  · exact Nat.pow_lt_pow_right (by decide) h
theorem oBit_lt {l : Int} {n : Nat} (h : l.natAbs < n) : oBit l < 2 ^ n := by
  unfold oBit; split
  · exact Nat.pow_lt_pow_right (by decide) h
  · exact Nat.two_pow_pos _
theorem take_succ_foldl {α β : Type} {f : β → α → β} {b : β} {zs : List α} {d : α} {k : Nat} (h : k < zs.length) : (zs.take (k + 1)).foldl f b = f ((zs.take k).foldl f b) (zs[k]?.getD d) := by
  rw [List.take_succ_eq_append_getElem h, List.foldl_append, List.getElem?_eq_getElem h]; rfl
theorem pSet_succ {zs : List Int} {k : Nat} (h : k < zs.length) : pSet (zs.take (k + 1)) = pSet (zs.take k) ||| pBit (zs[k]?.getD 0) := take_succ_foldl h
theorem oSet_succ {zs : List Int} {k : Nat} (h : k < zs.length) : oSet (zs.take (k + 1)) = oSet (zs.take k) ||| oBit (zs[k]?.getD 0) := take_succ_foldl h
theorem foldl_or_lt {f : Int → Nat} {n : Nat} : ∀ (zs : List Int) (a : Nat), a < 2 ^ n → (∀ z ∈ zs, f z < 2 ^ n) → zs.foldl (fun a l => a ||| f l) a < 2 ^ n
  | [], _, h, _ => h
  | z :: zs, a, h, hz => foldl_or_lt zs (a ||| f z) (Nat.or_lt_two_pow h (hz z (List.mem_cons_self ..))) (fun y hy => hz y (List.mem_cons_of_mem _ hy))
theorem pSet_lt {zs : List Int} {n : Nat} (h : ∀ z ∈ zs, z.natAbs < n) : pSet zs < 2 ^ n := foldl_or_lt zs 0 (Nat.two_pow_pos _) (fun z hz => pBit_lt (h z hz))
theorem oSet_lt {zs : List Int} {n : Nat} (h : ∀ z ∈ zs, z.natAbs < n) : oSet zs < 2 ^ n := foldl_or_lt zs 0 (Nat.two_pow_pos _) (fun z hz => oBit_lt (h z hz))
theorem or_and_zero (a b c : Nat) : (a ||| b) &&& c = 0 ↔ a &&& c = 0 ∧ b &&& c = 0 := by
  rw [Nat.and_or_distrib_right]
  constructor
  · intro h
    have h1 : ∀ i, ((a &&& c) ||| (b &&& c)).testBit i = false := fun i => by rw [h]; exact Nat.zero_testBit i
    constructor
    · exact Nat.eq_of_testBit_eq fun i => by have := h1 i; rw [Nat.testBit_or] at this; rw [Nat.zero_testBit]; exact (Bool.or_eq_false_iff.1 this).1
    · exact Nat.eq_of_testBit_eq fun i => by have := h1 i; rw [Nat.testBit_or] at this; rw [Nat.zero_testBit]; exact (Bool.or_eq_false_iff.1 this).2
  · rintro ⟨h1, h2⟩
    rw [h1, h2]; rfl
theorem foldl_or_and {f : Int → Nat} (c : Nat) : ∀ (zs : List Int) (a : Nat), (zs.foldl (fun a l => a ||| f l) a) &&& c = 0 ↔ a &&& c = 0 ∧ ∀ z ∈ zs, f z &&& c = 0
  | [], a => by simp
  | z :: zs, a => by
    rw [List.foldl_cons, foldl_or_and c zs, or_and_zero, List.forall_mem_cons, and_assoc]
theorem pow_and_zero (n c : Nat) : 2 ^ n &&& c = 0 ↔ c.testBit n = false := by
  constructor
  · intro h
    have : (2 ^ n &&& c).testBit n = false := by rw [h]; exact Nat.zero_testBit n
    rw [Nat.testBit_and, Nat.testBit_two_pow_self] at this
    simpa using this
  · intro h
    refine Nat.eq_of_testBit_eq fun i => ?_
    rw [Nat.testBit_and, Nat.zero_testBit, Nat.testBit_two_pow]
    by_cases e : n = i
    · subst e; simp [h]
    · simp [e]
/-- A clause's set meets values just when a literal of it is true. -/
theorem meet_any {zs : List Int} {c d : Nat} {t : Int → Bool} (h : ∀ z ∈ zs, t z = (if z < 0 then d.testBit z.natAbs else c.testBit z.natAbs)) : meetB (pSet zs) (oSet zs) c d = zs.any t := by
  rw [Bool.eq_iff_iff]
  simp only [meetB, decide_eq_true_eq, List.any_eq_true]
  unfold pSet oSet
  rw [foldl_or_and, foldl_or_and]
  constructor
  · intro hn
    refine Classical.byContradiction fun hx => hn ⟨⟨by simp, fun z hz => ?_⟩, ⟨by simp, fun z hz => ?_⟩⟩
    · have : t z = false := by cases ht : t z; rfl; exact absurd ⟨z, hz, ht⟩ hx
      rw [h z hz] at this
      unfold pBit
      split at this
      · rw [if_pos (by assumption)]; simp
      · rw [if_neg (by assumption), pow_and_zero]; exact this
    · have : t z = false := by cases ht : t z; rfl; exact absurd ⟨z, hz, ht⟩ hx
      rw [h z hz] at this
      unfold oBit
      split at this
      · rw [if_pos (by assumption), pow_and_zero]; exact this
      · rw [if_neg (by assumption)]; simp
  · rintro ⟨z, hz, ht⟩ ⟨⟨_, hp⟩, ⟨_, ho⟩⟩
    rw [h z hz] at ht
    split at ht
    · have := ho z hz
      unfold oBit at this
      rw [if_pos (by assumption), pow_and_zero] at this
      rw [this] at ht; cases ht
    · have := hp z hz
      unfold pBit at this
      rw [if_neg (by assumption), pow_and_zero] at this
      rw [this] at ht; cases ht
theorem testBit_compl {n i : Nat} (hn : n < 2 ^ 64) (hi : i < 64) : (18446744073709551615 - n).testBit i = !n.testBit i := by
  have : 18446744073709551615 - n = 2 ^ 64 - (n + 1) := by omega
  rw [this, Nat.testBit_two_pow_sub_succ hn]
  simp [hi]
theorem litT_vals {n vars : Nat} (hn : n < 4096) (hv : vars ≤ 12) {z : Int} (hz : litB vars z = true) :
    litT (valsOf n vars) z = (if z < 0 then (18446744073709551615 - 2 * n).testBit z.natAbs else (2 * n).testBit z.natAbs) := by
  simp only [litB, decide_eq_true_eq] at hz
  obtain ⟨j, hj⟩ : ∃ j : Nat, z.natAbs = j + 1 := ⟨z.natAbs - 1, by omega⟩
  have hb : (2 * n).testBit (j + 1) = n.testBit j := by
    rw [Nat.testBit_succ]; congr 1; omega
  have hg : (valsOf n vars)[j]?.getD false = n.testBit j := by
    unfold valsOf
    rw [List.getElem?_map, List.getElem?_range (by omega)]; rfl
  unfold litT
  rw [hj, Nat.add_sub_cancel, hg]
  split
  · rw [testBit_compl (by omega) (by omega), hb, decide_eq_false (by omega)]
    cases n.testBit j <;> rfl
  · rw [hb, decide_eq_true (by omega)]
    cases n.testBit j <;> rfl
theorem meet_vals {n vars : Nat} (hn : n < 4096) (hv : vars ≤ 12) {zs : List Int} (hz : ∀ z ∈ zs, litB vars z = true) :
    meetB (pSet zs) (oSet zs) (2 * n) (18446744073709551615 - 2 * n) = zs.any (litT (valsOf n vars)) := meet_any fun z h => litT_vals hn hv (hz z h)

theorem wrap_pow {n : Nat} (h : n < 64) : IntKind.u64.wrap (2 ^ n) = ((2 ^ n : Nat) : Int) := by
  have hp : (2 ^ n : Nat) < 18446744073709551616 := Nat.lt_of_lt_of_le (Nat.pow_lt_pow_right (by decide) h) (by decide)
  have hc : ((2 : Int) ^ n) = ((2 ^ n : Nat) : Int) := by simp
  rw [IntKind.wrap_u64, hc]
  generalize 2 ^ n = x at *
  omega

end Go.Proofs.Ytiiigdcfnnjkcaa.sets
