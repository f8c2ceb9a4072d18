/- HasAny; SolAddI; SolSupI: one text, so that the claim has fewer files. -/
import Derived.Test.YtbahjpheaaiamaaDoorPart6
import Derived.Test.YtbahjpheaaiamaaDoorSolMath
import Derived.Test.YtbahjpheaaiamaaDoorSolAddT
import Derived.Test.YtbahjpheaaiamaaDoorPart18
import Derived.Test.YtbahjpheaaiamaaDoorSolPropI
import Derived.Test.YtbahjpheaaiamaaDoorPart10
/- Whether a literal, or 0, is in a set (has), of the program; conditions: literals of at most 40 variables. -/
namespace Go.Proofs.YtbahjpheaaiamaaDoor.hasAny
open Go.RowKit Go.Deep base copy sets solSets solOps
set_option linter.unusedVariables false
set_option linter.unusedSimpArgs false

theorem only_any {a : LS} (ha : Wf a) {l : Int} : meetL a (onlyL l) = mem a l := by
  by_cases h : l = 0
  · subst h
    rw [ha.zero]
    show decide (¬ (a.1 &&& 1 = 0 ∧ a.2 &&& 0 = 0)) = false
    have h1 : a.1 &&& 1 = 0 := by
      rw [Nat.and_one_is_mod]
      have h0 := ha.p0
      rw [Nat.testBit_zero] at h0
      have := of_decide_eq_false h0
      omega
    rw [h1, Nat.and_zero]
    rfl
  · exact has_only ha h
set_option maxHeartbeats 800000 in
theorem has_any (a : LS) (l : Int) (w : World) (ha : Wf a) (h0 : -40 ≤ l) (h1 : l ≤ 40) :
    Calls Tryd.prog 26 #[.agg #[.int .u64 a.1, .int .u64 a.2], .int .i64 l] w fun e w' => e = .returned (.bool (mem a l)) ∧ Below w.heap.size w w' := by
  have hw : pBit l < 18446744073709551616 ∧ oBit l < 18446744073709551616 := by
    by_cases h : l = 0
    · subst h
      decide
    · exact (wf_only h h0 h1).lt
  obtain ⟨q1, q2⟩ := ha.lt
  obtain ⟨q3, q4⟩ := hw
  rw [← only_any ha]
  obtain ⟨p, hp⟩ : ∃ p, a.1 = p := ⟨_, rfl⟩
  obtain ⟨o, ho⟩ : ∃ o, a.2 = o := ⟨_, rfl⟩
  have HO : Hid (∀ w : World, Calls Tryd.prog 46 #[.int .i64 l] w fun e w' => e = .returned (.agg #[.int .u64 (pBit l), .int .u64 (oBit l)]) ∧ Below w.heap.size w w') := hid (fun w => only_impl l w h0 h1)
  have HM : Hid (∀ w : World, Calls Tryd.prog 49 #[.agg #[.int .u64 p, .int .u64 o], .agg #[.int .u64 (pBit l), .int .u64 (oBit l)]] w fun e w' => e = .returned (.bool (meetL a (onlyL l))) ∧ Below w.heap.size w w') := hid (fun w => by
    have := meets_impl a.1 a.2 (pBit l) (oBit l) w q1 q2 q3 q4
    rw [hp, ho] at this
    unfold meetL onlyL
    rw [hp, ho]
    exact this)
  rw [hp, ho]
  generalize meetL a (onlyL l) = b at *
  generalize pBit l = x at *
  generalize oBit l = y at *
  clear ha q1 q2 q3 q4 hp ho h0 h1
  have HK : Hid (∀ w2 : World, Below (w.alloc (.cells #[.int .u64 p, .int .u64 o] 51)).heap.size (w.alloc (.cells #[.int .u64 p, .int .u64 o] 51)) w2 → (w2.cell? ⟨w.heap.size, 0, none⟩ = some (.int .u64 p) ∧ w2.cell? ⟨w.heap.size, 1, none⟩ = some (.int .u64 o)) ∧ Below w.heap.size w w2) := hid (fun w2 hb => ⟨⟨keep hb (by simp [go_sem]), keep hb (by simp [go_sem])⟩, (show Below w.heap.size w _ from (by repeat (first | exact Below.refl _ _ | assumption | refine Below.drew ?_ | refine Below.alloc ?_ (by first | exact Nat.le_refl _ | omega | (simp; done) | (simp; omega)) _ | refine Below.setCell ?_ (by first | exact Nat.le_refl _ | omega | (simp; done) | (simp; omega)) _))).trans (hb.mono (by simp))⟩)
  go_enter Tryd.func26, Tryd.ntmps26
  go_wp2
  go_region_with (first
      | (go_at_call 46; refine (HO.out _).mono ?_; rintro e w1 ⟨rfl, hb1⟩; have hb1' := ((Below.refl _ (w.alloc (.cells #[.int .u64 p, .int .u64 o] 51))).drew).trans hb1; obtain ⟨⟨y0, y1⟩, hB⟩ := HK.out w1 hb1'; clear hb1)
      | (go_at_call 49; refine (HM.out _).mono ?_; rintro e w2 ⟨rfl, hb2⟩; have hB2 : Below w.heap.size w w2 := hB.trans (hb2.mono hB.size); clear hb2))
  all_goals
    go_wp2
    go_ret
    exact ⟨rfl, hB2⟩
end Go.Proofs.YtbahjpheaaiamaaDoor.hasAny

/- A solver of the program: a clause is put behind the others, while nothing has become true yet (add); conditions: literals of its variables, lengths that fit. -/
namespace Go.Proofs.YtbahjpheaaiamaaDoor.solAddI
open Go.RowKit Go.Deep Go.Maps Go base sets setsOf solSets solOps solMath solHold solAdd solMem solClose solTrail solLastT solAddM
set_option linter.unusedVariables false

theorem add_impl (M mb : Nat) (F : Nat → Value) (V : Int → Value) (s : Sv) (w : World) (h : Sol 0 M mb F V s w) (hv0 : V 0 = nilV) (C1 C2 : Nat) (hc : Wf (C1, C2)) (ok : Okay s) (hT : s.T = []) (hlen : s.C.length ≤ 8000000000000) :
    Calls Tryd.prog 39 #[.pointer (some ⟨M, 0, none⟩), .agg #[.int .u64 C1, .int .u64 C2]] w fun e w' => e = .returned (.tuple #[]) ∧ ∃ F' V', Sol 0 M mb F' V' (addS s (C1, C2)) w' ∧ V' 0 = nilV ∧ Chg M mb (blk 0 F V) (blk 0 F' V') w w' := by
  rw [← addT_nil hT]
  exact addT_impl M mb F V s w h hv0 C1 C2 hc ok ⟨fun p hp => (by rw [hT] at hp; cases hp), fun p hp => (by rw [hT] at hp; cases hp), by rw [hT]; simp⟩ hlen
end Go.Proofs.YtbahjpheaaiamaaDoor.solAddI

/- A solver of the program: literals are supposed by one choice (suppose); conditions: nothing is due, no clause is false, none of the literals is another's opposite, lengths that fit. -/
namespace Go.Proofs.YtbahjpheaaiamaaDoor.solSupI
open Go.RowKit Go.Deep Go.Maps Go base sets setsOf solSets solOps solMath solHold solMem solFail solDue solExpect solPush solLoop solMove solHoldI solProp solPropI solClose solTrail solBackI solAddI heldStore drawn drawnLin drawnApp stepAppend
set_option linter.unusedVariables false
set_option linter.unusedSimpArgs false

end Go.Proofs.YtbahjpheaaiamaaDoor.solSupI
