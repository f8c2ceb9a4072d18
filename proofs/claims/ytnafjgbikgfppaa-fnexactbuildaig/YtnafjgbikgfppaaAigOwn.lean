/- Marks that the laws set into gates that are owned, and whether they are held; conditions: numbers that fit. -/
import Derived.Test.YtnafjgbikgfppaaGates
import Derived.Test.YtnafjgbikgfppaaBuildSem
namespace Go.Proofs.Ytnafjgbikgfppaa.aigOwn
open Go.RowKit Go.Deep Go base trees gates buildSem
set_option linter.unusedVariables false

/-- The gates of a list, by their numbers. -/
def gf (gs : Gl) : Gs := fun i => gs[i]?.getD (0, 0)
/-- Gates that count on from n. -/
def gm (n : Int) : Gs := fun i => (n + 2 * (i : Int), n + 2 * (i : Int) + 1)
theorem GateRow.kept {W w1 : World} {a : Option Addr} {len : Nat} {g : Gs} (h : GateRow W a len g) (hk : ∀ b o, a = some ⟨b, o, none⟩ → ∀ j u, W.cell? ⟨b, o + j, none⟩ = some u → w1.cell? ⟨b, o + j, none⟩ = some u) : GateRow w1 a len g :=
  ⟨h.most, fun i hi => by
    obtain ⟨b, off, e, h0, h1⟩ := h.cell i hi
    exact ⟨b, off, e, hk b off e _ _ h0, by rw [Nat.add_assoc] at h1 ⊢; exact hk b off e _ _ h1⟩⟩
theorem own_row {B n : Nat} {w : World} {g c : Nat} {gs : Gl} (h : w.ownsRow B 69 2 (.slice (some ⟨g, 0, none⟩) n c) gs.length (flatG gs)) : gs.length = n ∧ B ≤ g ∧ ∃ L f, w.rowIs g 69 L f ∧ n * 2 ≤ L ∧ ∀ i, i < n → f (i * 2) = .int .i64 (gs[i]?.getD (0, 0)).1 ∧ f (i * 2 + 1) = .int .i64 (gs[i]?.getD (0, 0)).2 := by
  rcases h.2 with ⟨e, _⟩ | ⟨g', cap, cur, e, hb, hh, hn, hm, hs, ht⟩
  · cases e
  · injection e with e1 e2 e3
    injection e1 with e1
    injection e1 with e1
    subst e1
    subst e2
    refine ⟨rfl, hb, cur.size, fun i => cur[i]?.getD undef, ⟨cur, hh, rfl, fun i hi => ?_⟩, by rw [hs]; exact Nat.mul_le_mul_right _ hn, fun i hi => ?_⟩
    · simp [Array.getElem?_eq_getElem hi]
    · obtain ⟨f0, f1⟩ := flat_at (gs := gs) hi
      rw [← ht, List.getElem?_take, if_pos (by omega)] at f0 f1
      rw [Array.getElem?_toList] at f0 f1
      exact ⟨by simp only [f0]; rfl, by simp only [f1]; rfl⟩
theorem gates_of_own {B : Nat} {w : World} {a : Option Addr} {n c : Nat} {gs : Gl} (h : w.ownsRow B 69 2 (.slice a n c) gs.length (flatG gs)) (hm : n ≤ maxLen) : GateRow w a n (gf gs) := by
  refine ⟨hm, fun i hi => ?_⟩
  have h0 := h
  rcases h.2 with ⟨e, h1⟩ | ⟨g', cap, cur, e, _⟩
  · injection e with e1 e2 e3
    omega
  · injection e with e1 e2 e3
    subst e1
    obtain ⟨_, _, L, f, hf, hL, hc⟩ := own_row h0
    obtain ⟨c0, c1⟩ := hc i hi
    refine ⟨g', 0, rfl, ?_, ?_⟩
    · have := hf.cell (i := i * 2) (by omega)
      rw [c0] at this
      rw [Nat.zero_add]; exact this
    · have := hf.cell (i := i * 2 + 1) (by omega)
      rw [c1] at this
      rw [Nat.zero_add]; exact this

set_option maxHeartbeats 800000 in
theorem mark_gates (N len cap L : Nat) (n : Int) (w : World) (h : ∃ f, w.rowIs N 69 L f) (hL : len * 2 ≤ L) (hn0 : 0 ≤ n) (hn : n ≤ 9000000) (hl : len ≤ 1048576) :
    Calls Try.prog 27 #[.slice (some ⟨N, 0, none⟩) len cap, .int .i64 n] w fun e w' => e = .returned (.int .i64 (n + 2 * len)) ∧ Oth N w w' ∧ GateRow w' (some ⟨N, 0, none⟩) len (gm n) := by
  have HO := hid h
  clear h
  go_enter Try.func27, Try.ntmps27
  go_wp2
  go_loopw [5, 1] (fun i t wr => ∃ k : Nat, k ≤ len ∧ i = .int .i64 k ∧ t = .int .i64 (n + 2 * k) ∧ Oth N w wr ∧ ∃ f, wr.rowIs N 69 L f ∧ ∀ j, j < k → f (j * 2) = .int .i64 (gm n j).1 ∧ f (j * 2 + 1) = .int .i64 (gm n j).2) (fun i _ _ => len - (intOf i).toNat)
  case atStart =>
    obtain ⟨f, hf⟩ := HO.out
    exact ⟨0, Nat.zero_le _, rfl, by simp, Oth.refl _ _, f, hf, fun j hj => absurd hj (Nat.not_lt_zero _)⟩
  case round =>
    obtain ⟨k, hk, rfl, rfl, hot, f, hf, hc⟩ := hrel
    have HT := hid hot
    have HF := hid hf
    have HC := hid hc
    clear hot hc
    by_cases hlt : k < len
    · have g0 := hf.cell (i := k * 2) (by omega)
      have z0 := hf.frozen (k * 2)
      have g1 := hf.cell (i := k * 2 + 1) (by omega)
      have z1 := hf.frozen (k * 2 + 1)
      clear hf
      go_wp2
      go_roundw
      case rel =>
        refine ⟨k + 1, by omega, by go_num, by congr 1; omega, (HT.out.trans (Oth.set N _ _ _)).trans (Oth.set N _ _ _), _, (HF.out.set (k * 2) _).set (k * 2 + 1) _, fun j hj => ?_⟩
        by_cases e : j = k
        · subst e
          exact ⟨by rw [if_neg (by omega), if_pos rfl]; rfl, by rw [if_pos rfl]; rfl⟩
        · obtain ⟨h0, h1⟩ := HC.out j (by omega)
          exact ⟨by rw [if_neg (by omega), if_neg (by omega)]; exact h0, by rw [if_neg (by omega), if_neg (by omega)]; exact h1⟩
      case measure => simp [intOf]; omega
    · have e : k = len := by omega
      subst e
      clear hf
      go_wp2
      go_ret
      refine ⟨rfl, HT.out, ⟨by unfold maxLen; omega, fun i hi => ?_⟩⟩
      obtain ⟨c0, c1⟩ := HC.out i hi
      refine ⟨N, 0, rfl, ?_, ?_⟩
      · rw [← c0]; simpa using HF.out.cell (i := i * 2) (by omega)
      · rw [← c1]; simpa using HF.out.cell (i := i * 2 + 1) (by omega)
set_option maxHeartbeats 400000 in
theorem mark_none (n : Int) (w : World) :
    Calls Try.prog 27 #[.slice none 0 0, .int .i64 n] w fun e w' => e = .returned (.int .i64 n) ∧ w' = w := by
  go_enter Try.func27, Try.ntmps27
  go_wp2
  go_loop [5, 1] (fun i t => i = .int .i64 0 ∧ t = .int .i64 n) (fun _ _ => 0)
  case atStart => exact ⟨rfl, rfl⟩
  case round =>
    obtain ⟨rfl, rfl⟩ := hrel
    go_wp2
    go_ret
    exact ⟨rfl, rfl⟩
/-- All but one row's block is as it was, or there is no row. -/
theorem grown_oth {w w1 : World} {N : Nat} (h : Oth N w w1) : w.grownBy w1 (some N) := ⟨h.os, h.tape, h.output, h.size, fun k hk hne => h.block k hk (fun e => hne (by rw [e]))⟩
set_option maxHeartbeats 400000 in
theorem mark_aig (x : Int) (B : Nat) (a : Option Addr) (l c : Nat) (gs : Gl) (n : Int) (w : World) (h : w.ownsRow B 69 2 (.slice a l c) gs.length (flatG gs)) (hn0 : 0 ≤ n) (hn : n ≤ 9000000) (hl : l ≤ 1048576) :
    Calls Try.prog 12 #[.agg #[.int .i64 x, .slice a l c], .int .i64 n] w fun e w' => e = .returned (.int .i64 (n + 2 * l)) ∧ GateRow w' a l (gm n) ∧ ∃ w1, Below w.heap.size w w1 ∧ w1.grownBy w' (Value.slice a l c).ownBlock := by
  have HO := hid h
  rcases h.2 with ⟨e, h1⟩ | ⟨g', cap, cur, e, hrest⟩
  · injection e with e1 e2 e3
    subst e1
    subst e2
    subst e3
    clear h h1
    have HB : Hid (Below w.heap.size w (w.alloc (.cells #[.int .i64 x, .slice none 0 0] 26))) := hid (by repeat (first | exact Below.refl _ _ | assumption | refine Below.drew ?_ | refine Below.alloc ?_ (by first | exact Nat.le_refl _ | omega | (simp; done) | (simp; omega)) _ | refine Below.setCell ?_ (by first | exact Nat.le_refl _ | omega | (simp; done) | (simp; omega)) _))
    go_enter Try.func12, Try.ntmps12
    go_wp2_with fail
    refine (mark_none n _).mono ?_
    rintro e w1 ⟨rfl, hw⟩
    have hw := hw.symm
    subst hw
    go_wp2
    go_ret
    exact ⟨ret_int (by simp), ⟨Nat.zero_le _, fun i hi => absurd hi (Nat.not_lt_zero _)⟩, _, HB.out, ⟨rfl, rfl, rfl, Nat.le_refl _, fun _ _ _ => rfl⟩⟩
  · injection e with e1 e2 e3
    subst e1
    clear h
    have HB : Hid (Below w.heap.size w (w.alloc (.cells #[.int .i64 x, .slice (some ⟨g', 0, none⟩) l c] 26))) := hid (by repeat (first | exact Below.refl _ _ | assumption | refine Below.drew ?_ | refine Below.alloc ?_ (by first | exact Nat.le_refl _ | omega | (simp; done) | (simp; omega)) _ | refine Below.setCell ?_ (by first | exact Nat.le_refl _ | omega | (simp; done) | (simp; omega)) _))
    clear e2 e3 hrest
    obtain ⟨hq1, hq2, L, f, hf, hL, hq3⟩ := own_row HO.out
    clear hq1 hq2 hq3
    have HF : Hid (∃ f, (w.alloc (.cells #[.int .i64 x, .slice (some ⟨g', 0, none⟩) l c] 26)).rowIs g' 69 L f) := hid ⟨f, hf.of_block (HB.out.block _ hf.lt)⟩
    clear hf
    go_enter Try.func12, Try.ntmps12
    go_wp2_with fail
    refine (mark_gates g' l c L n _ HF.out hL hn0 hn hl).mono ?_
    rintro e w1 ⟨rfl, ho1, hg1⟩
    have HT := hid (grown_oth ho1)
    have HG := hid hg1
    clear ho1 hg1
    go_wp2
    go_ret
    exact ⟨rfl, HG.out, _, HB.out, HT.out⟩
set_option maxHeartbeats 400000 in
theorem held_gates (a : Option Addr) (len cap : Nat) (n : Int) (w : World) (hr : GateRow w a len (gm n)) (hn0 : 0 ≤ n) (hn : n ≤ 9000000) (hl : len ≤ 1048576) :
    Calls Try.prog 28 #[.slice a len cap, .int .i64 n] w fun e w' => e = .returned (.int .i64 (n + 2 * len)) ∧ w' = w := by
  have HR := hid hr
  clear hr
  go_enter Try.func28, Try.ntmps28
  go_wp2
  go_loop [5, 1] (fun i t => ∃ k : Nat, k ≤ len ∧ i = .int .i64 k ∧ t = .int .i64 (n + 2 * k)) (fun i _ => len - (intOf i).toNat)
  case atStart => exact ⟨0, Nat.zero_le _, rfl, by simp⟩
  case round =>
    obtain ⟨k, hk, rfl, rfl⟩ := hrel
    by_cases hlt : k < len
    · obtain ⟨b, off, rfl, hc0, hc1⟩ := HR.out.cell k hlt
      replace hc0 : w.cell? ⟨b, off + k * 2, none⟩ = some (.int .i64 (n + 2 * (k : Int))) := hc0
      replace hc1 : w.cell? ⟨b, off + k * 2 + 1, none⟩ = some (.int .i64 (n + 2 * (k : Int) + 1)) := hc1
      have hq : (n + 2 * (k : Int) != n + 2 * (k : Int)) = false := by simp
      have hq1 : (n + 2 * (k : Int) + 1 != n + 2 * (k : Int) + 1) = false := by simp
      go_wp2
      go_round
      case rel => exact ⟨k + 1, by omega, by go_num, by congr 1; omega⟩
      case measure => simp [intOf]; omega
    · have e : k = len := by omega
      subst e
      go_wp2
      go_ret
      exact ⟨rfl, rfl⟩
set_option maxHeartbeats 400000 in
theorem held_aig (x : Int) (a : Option Addr) (len cap : Nat) (n : Int) (w : World) (hr : GateRow w a len (gm n)) (hn0 : 0 ≤ n) (hn : n ≤ 9000000) (hl : len ≤ 1048576) :
    Calls Try.prog 14 #[.agg #[.int .i64 x, .slice a len cap], .int .i64 n] w fun e w' => e = .returned (.int .i64 (n + 2 * len)) ∧ Below w.heap.size w w' := by
  have HR := hid hr
  clear hr
  obtain ⟨m, hmm⟩ : ∃ m, n + 2 * (len : Int) = m := ⟨_, rfl⟩
  have hp : 0 ≤ m := by omega
  rw [hmm]
  have HM := hid hmm
  clear hmm
  go_enter Try.func14, Try.ntmps14
  go_wp2_with fail
  refine (held_gates a len cap n _ (HR.out.below (by repeat (first | exact Below.refl _ _ | assumption | refine Below.drew ?_ | refine Below.alloc ?_ (by first | exact Nat.le_refl _ | omega | (simp; done) | (simp; omega)) _ | refine Below.setCell ?_ (by first | exact Nat.le_refl _ | omega | (simp; done) | (simp; omega)) _))) hn0 hn hl).mono ?_
  rintro e w1 ⟨rfl, hw⟩
  have hw := hw.symm
  subst hw
  rw [HM.out]
  go_wp2
  go_ret
  exact ⟨rfl, (by repeat (first | exact Below.refl _ _ | assumption | refine Below.drew ?_ | refine Below.alloc ?_ (by first | exact Nat.le_refl _ | omega | (simp; done) | (simp; omega)) _ | refine Below.setCell ?_ (by first | exact Nat.le_refl _ | omega | (simp; done) | (simp; omega)) _))⟩
end Go.Proofs.Ytnafjgbikgfppaa.aigOwn
