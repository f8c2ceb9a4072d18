/- The operations on sets of literals, of the program: without, turned, has, first; conditions: literals of at most 40 variables, the table of math/bits as its initialiser lays it. -/
import Derived.Test.YtpfecijahiikhaaGreatDoorPart3
import Derived.Test.YtpfecijahiikhaaGreatDoorPart13
import Derived.Shelf.Spec.TrailingZeros
namespace Go.Proofs.YtpfecijahiikhaaGreatDoor.solOps
open Go.RowKit Go.Deep base copy sets solSets
set_option linter.unusedVariables false
set_option linter.unusedSimpArgs false

abbrev Tab (w : World) : Prop := TabAt 1 Lib.deBruijn64tab w
theorem tab_below {w w' : World} (h : Tab w) (hb : Below w.heap.size w w') : Tab w' := fun j hj => keep hb (h j hj)
def setV (a : LS) : Value := .agg #[.int .u64 a.1, .int .u64 a.2]
set_option maxHeartbeats 400000 in
theorem without_impl (a b c d : Nat) (w : World) (ha : a < 18446744073709551616) (hb : b < 18446744073709551616) (hc : c < 18446744073709551616) (hd : d < 18446744073709551616) :
    Calls Tryz.prog 49 #[.agg #[.int .u64 a, .int .u64 b], .agg #[.int .u64 c, .int .u64 d]] w fun e w' => e = .returned (.agg #[.int .u64 ((a &&& (18446744073709551615 - c) : Nat) : Int), .int .u64 ((b &&& (18446744073709551615 - d) : Nat) : Int)]) ∧ Below w.heap.size w w' := by
  have H1 := hid (u64_andNot_nat a c ha hc)
  have H2 := hid (u64_andNot_nat b d hb hd)
  go_enter Tryz.func49, Tryz.ntmps49
  go_wp2
  refine bodyPost_ret (v := .agg #[.int .u64 (bits .andNot .u64 a c), .int .u64 (bits .andNot .u64 b d)]) (by simp [results, Tryz.results49, go_sem]) rfl ⟨by rw [H1.out, H2.out], (by repeat (first | exact Below.refl _ _ | assumption | refine Below.drew ?_ | refine Below.alloc ?_ (by first | exact Nat.le_refl _ | omega | (simp; done) | (simp; omega)) _ | refine Below.setCell ?_ (by first | exact Nat.le_refl _ | omega | (simp; done) | (simp; omega)) _))⟩
set_option maxHeartbeats 400000 in
theorem turned_impl (a b : Nat) (w : World) :
    Calls Tryz.prog 44 #[.agg #[.int .u64 a, .int .u64 b]] w fun e w' => e = .returned (.agg #[.int .u64 b, .int .u64 a]) ∧ Below w.heap.size w w' := by
  go_enter Tryz.func44, Tryz.ntmps44
  go_wp2
  refine bodyPost_ret (v := .agg #[.int .u64 b, .int .u64 a]) (by simp [results, Tryz.results44, go_sem]) rfl ⟨rfl, (by repeat (first | exact Below.refl _ _ | assumption | refine Below.drew ?_ | refine Below.alloc ?_ (by first | exact Nat.le_refl _ | omega | (simp; done) | (simp; omega)) _ | refine Below.setCell ?_ (by first | exact Nat.le_refl _ | omega | (simp; done) | (simp; omega)) _))⟩
set_option maxHeartbeats 800000 in
theorem has_impl (a : LS) (l : Int) (w : World) (ha : Wf a) (h : l ≠ 0) (h0 : -40 ≤ l) (h1 : l ≤ 40) :
    Calls Tryz.prog 70 #[.agg #[.int .u64 a.1, .int .u64 a.2], .int .i64 l] w fun e w' => e = .returned (.bool (mem a l)) ∧ Below w.heap.size w w' := by
  have hw := wf_only h h0 h1
  obtain ⟨q1, q2⟩ := ha.lt
  obtain ⟨q3, q4⟩ := hw.lt
  rw [← has_only ha h]
  obtain ⟨p, hp⟩ : ∃ p, a.1 = p := ⟨_, rfl⟩
  obtain ⟨o, ho⟩ : ∃ o, a.2 = o := ⟨_, rfl⟩
  have HO : Hid (∀ w : World, Calls Tryz.prog 47 #[.int .i64 l] w fun e w' => e = .returned (.agg #[.int .u64 (pBit l), .int .u64 (oBit l)]) ∧ Below w.heap.size w w') := hid (fun w => only_impl l w h0 h1)
  have HM : Hid (∀ w : World, Calls Tryz.prog 48 #[.agg #[.int .u64 p, .int .u64 o], .agg #[.int .u64 (pBit l), .int .u64 (oBit l)]] w fun e w' => e = .returned (.bool (meetL a (onlyL l))) ∧ Below w.heap.size w w') := hid (fun w => by
    have := meets_impl a.1 a.2 (pBit l) (oBit l) w q1 q2 q3 q4
    rw [hp, ho] at this
    unfold meetL onlyL
    rw [hp, ho]
    exact this)
  rw [hp, ho]
  generalize meetL a (onlyL l) = b at *
  generalize pBit l = x at *
  generalize oBit l = y at *
  clear hw ha q1 q2 q3 q4 hp ho h h0 h1
  have HK : Hid (∀ w2 : World, Below (w.alloc (.cells #[.int .u64 p, .int .u64 o] 52)).heap.size (w.alloc (.cells #[.int .u64 p, .int .u64 o] 52)) w2 → (w2.cell? ⟨w.heap.size, 0, none⟩ = some (.int .u64 p) ∧ w2.cell? ⟨w.heap.size, 1, none⟩ = some (.int .u64 o)) ∧ Below w.heap.size w w2) := hid (fun w2 hb => ⟨⟨keep hb (by simp [go_sem]), keep hb (by simp [go_sem])⟩, (show Below w.heap.size w _ from (by repeat (first | exact Below.refl _ _ | assumption | refine Below.drew ?_ | refine Below.alloc ?_ (by first | exact Nat.le_refl _ | omega | (simp; done) | (simp; omega)) _ | refine Below.setCell ?_ (by first | exact Nat.le_refl _ | omega | (simp; done) | (simp; omega)) _))).trans (hb.mono (by simp))⟩)
  go_enter Tryz.func70, Tryz.ntmps70
  go_wp2
  go_region_with (first
      | (go_at_call 47; refine (HO.out _).mono ?_; rintro e w1 ⟨rfl, hb1⟩; have hb1' := ((Below.refl _ (w.alloc (.cells #[.int .u64 p, .int .u64 o] 52))).drew).trans hb1; obtain ⟨⟨y0, y1⟩, hB⟩ := HK.out w1 hb1'; clear hb1)
      | (go_at_call 48; refine (HM.out _).mono ?_; rintro e w2 ⟨rfl, hb2⟩; have hB2 : Below w.heap.size w w2 := hB.trans (hb2.mono hB.size); clear hb2))
  all_goals
    go_wp2
    go_ret
    exact ⟨rfl, hB2⟩
theorem tz_impl (x : Nat) (w : World) (hx : x < 18446744073709551616) (h : Tab w) :
    Calls Tryz.prog 69 #[.int .u64 x] w fun e w' => e = .returned (.int .i64 (Lib.ctz 64 x)) ∧ w' = w :=
  Any7.bits_TrailingZeros64 Tryz.lays7_29 x hx w (fun _ => h)
theorem first_none (w : World) : Calls Tryz.prog 57 #[.agg #[.int .u64 0, .int .u64 0]] w fun e w' => e = .returned (.int .i64 0) ∧ Below w.heap.size w w' := by
  go_enter Tryz.func57, Tryz.ntmps57
  go_wp2
  go_ret
  exact ⟨rfl, (by repeat (first | exact Below.refl _ _ | assumption | refine Below.drew ?_ | refine Below.alloc ?_ (by first | exact Nat.le_refl _ | omega | (simp; done) | (simp; omega)) _ | refine Below.setCell ?_ (by first | exact Nat.le_refl _ | omega | (simp; done) | (simp; omega)) _))⟩
set_option maxHeartbeats 800000 in
theorem first_some (p o k : Nat) (bt : Bool) (w : World) (hne : p ≠ 0 ∨ o ≠ 0)
    (HH : Hid (∀ w : World, Calls Tryz.prog 70 #[.agg #[.int .u64 p, .int .u64 o], .int .i64 k] w fun e w' => e = .returned (.bool bt) ∧ Below w.heap.size w w'))
    (HT : Hid (∀ w : World, Tab w → Calls Tryz.prog 69 #[.int .u64 (bits .or .u64 p o)] w fun e w' => e = .returned (.int .i64 k) ∧ w' = w)) (hk : k ≤ 40) (ht : Tab w) :
    Calls Tryz.prog 57 #[.agg #[.int .u64 p, .int .u64 o]] w fun e w' => e = .returned (.int .i64 (if bt = true then (k : Int) else -(k : Int))) ∧ Below w.heap.size w w' := by
  have HW : Hid (Below w.heap.size w (w.alloc (.cells #[.int .u64 p, .int .u64 o] 52)) ∧ Tab (w.alloc (.cells #[.int .u64 p, .int .u64 o] 52))) := hid ⟨(by repeat (first | exact Below.refl _ _ | assumption | refine Below.drew ?_ | refine Below.alloc ?_ (by first | exact Nat.le_refl _ | omega | (simp; done) | (simp; omega)) _ | refine Below.setCell ?_ (by first | exact Nat.le_refl _ | omega | (simp; done) | (simp; omega)) _)), tab_below ht (by repeat (first | exact Below.refl _ _ | assumption | refine Below.drew ?_ | refine Below.alloc ?_ (by first | exact Nat.le_refl _ | omega | (simp; done) | (simp; omega)) _ | refine Below.setCell ?_ (by first | exact Nat.le_refl _ | omega | (simp; done) | (simp; omega)) _))⟩
  clear ht
  have hc : (p = 0 ∧ o ≠ 0) ∨ p ≠ 0 := by omega
  clear hne
  rcases hc with ⟨hp, ho⟩ | hp
  · have d3 : ¬ ((o : Int) = 0) := by omega
    subst hp
    clear ho
    cases bt
    all_goals
      go_enter Tryz.func57, Tryz.ntmps57
      go_wp2_with (go_at_call 69; refine (HT.out _ HW.out.2).mono ?_; rintro e w' ⟨rfl, rfl⟩)
      refine (HH.out _).mono ?_
      rintro e w1 ⟨rfl, hb1⟩
      have HB1 := hid (HW.out.1.trans (hb1.mono HW.out.1.size))
      clear hb1
      go_wp2
      go_ret
      exact ⟨by first | rfl | simp, HB1.out⟩
  · have d3 : ¬ ((p : Int) = 0) := by omega
    clear hp
    cases bt
    all_goals
      go_enter Tryz.func57, Tryz.ntmps57
      go_wp2_with (go_at_call 69; refine (HT.out _ HW.out.2).mono ?_; rintro e w' ⟨rfl, rfl⟩)
      refine (HH.out _).mono ?_
      rintro e w1 ⟨rfl, hb1⟩
      have HB1 := hid (HW.out.1.trans (hb1.mono HW.out.1.size))
      clear hb1
      go_wp2
      go_ret
      exact ⟨by first | rfl | simp, HB1.out⟩
theorem first_impl (a : LS) (w : World) (ha : Wf a) (ht : Tab w) :
    Calls Tryz.prog 57 #[.agg #[.int .u64 a.1, .int .u64 a.2]] w fun e w' => e = .returned (.int .i64 (firstL a)) ∧ Below w.heap.size w w' := by
  by_cases h0 : a = (0, 0)
  · subst h0
    exact first_none w
  have hf := first_spec ha h0
  obtain ⟨q1, q2⟩ := ha.lt
  obtain ⟨k, hk⟩ : ∃ k, Lib.ctz 64 (a.1 ||| a.2) = k := ⟨_, rfl⟩
  have e1 : firstL a = if a.1.testBit k = true then (k : Int) else -(k : Int) := by unfold firstL; rw [if_neg h0, hk]
  have hk40 : k ≤ 40 := by rw [← hk]; exact hf.2.2
  have hk0 : k ≠ 0 := fun e => hf.2.1 (by rw [e1, e]; simp)
  have hm : mem a (k : Int) = a.1.testBit k := by unfold mem; rw [if_neg (by omega)]; simp
  have hne : a.1 ≠ 0 ∨ a.2 ≠ 0 := by
    refine Classical.byContradiction fun hx => h0 (Prod.ext ?_ ?_)
    · exact Classical.byContradiction fun h => hx (.inl h)
    · exact Classical.byContradiction fun h => hx (.inr h)
  rw [e1]
  refine first_some a.1 a.2 k (a.1.testBit k) w hne (hid fun w => ?_) (hid fun w h => ?_) hk40 ht
  · have := has_impl a k w ha (by omega) (by omega) (by omega)
    rw [hm] at this
    exact this
  · rw [bits_or_u64_nat a.1 a.2 q1 q2, ← hk]
    exact tz_impl _ w (by have := Nat.or_lt_two_pow ha.p ha.o; omega) h
end Go.Proofs.YtpfecijahiikhaaGreatDoor.solOps
