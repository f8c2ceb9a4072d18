/- The laws' own marks in rows of routes and in a walk; conditions: lengths that fit. -/
import Derived.Test.YtjppbmpgnlojpaaGreatRouteRow
import Derived.Test.YtjppbmpgnlojpaaGreatIntsOwn
import Derived.Test.YtjppbmpgnlojpaaGreatNetMark
namespace Go.Proofs.YtjppbmpgnlojpaaGreat.walkMark
open Go.RowKit Go.Deep base copy netSem routeRow intsOwn netMark
set_option linter.unusedVariables false

set_option maxHeartbeats 800000 in
theorem mark_bool (N len : Nat) (n : Int) (w : World) (h : ∃ f, w.rowIs N 4 len f) (hn0 : 0 ≤ n) (hn : n ≤ 100000000) (hl : len ≤ 1048576) :
    Calls Tryz.prog 16 #[.slice (some ⟨N, 0, none⟩) len len, .int .i64 n] w fun e w' => e = .returned (.int .i64 (n + len)) ∧ w.grownBy w' (some N) := by
  have HO := hid h
  clear h
  go_enter Tryz.func16, Tryz.ntmps16
  go_wp2
  go_loopw [5, 1] (fun i t wr => ∃ k : Nat, k ≤ len ∧ i = .int .i64 k ∧ t = .int .i64 (n + k) ∧ w.grownBy wr (some N) ∧ ∃ f, wr.rowIs N 4 len f) (fun i _ _ => len - (intOf i).toNat)
  case atStart => exact ⟨0, Nat.zero_le _, rfl, by simp, grown_refl _ _, HO.out⟩
  case round =>
    obtain ⟨k, hk, rfl, rfl, hot, f, hf⟩ := hrel
    have HT := hid hot
    have HF := hid hf
    clear hot
    by_cases hlt : k < len
    · have g0 := hf.cell (i := k) (by omega)
      have z0 := hf.frozen k
      clear hf
      go_wp2
      all_goals
        go_roundw
        case rel => exact ⟨k + 1, by omega, by go_num, by congr 1; omega, grown_set HT.out, _, HF.out.set k _⟩
        case measure => simp [intOf]; omega
    · have e : k = len := by omega
      subst e
      clear hf
      go_wp2
      go_ret
      exact ⟨rfl, HT.out⟩

set_option maxHeartbeats 1600000 in
theorem mark_rts (N len : Nat) (n : Int) (w : World) (h : ∃ f, w.rowIs N 58 (len * 4) f) (hn0 : 0 ≤ n) (hn : n ≤ 100000000) (hl : len ≤ 1048576) :
    Calls Tryz.prog 17 #[.slice (some ⟨N, 0, none⟩) len len, .int .i64 n] w fun e w' => e = .returned (.int .i64 (n + 4 * len)) ∧ w.grownBy w' (some N) := by
  have HO := hid h
  clear h
  go_enter Tryz.func17, Tryz.ntmps17
  go_wp2
  go_loopw [5, 1] (fun i t wr => ∃ k : Nat, k ≤ len ∧ i = .int .i64 k ∧ t = .int .i64 (n + 4 * k) ∧ w.grownBy wr (some N) ∧ ∃ f, wr.rowIs N 58 (len * 4) f) (fun i _ _ => len - (intOf i).toNat)
  case atStart => exact ⟨0, Nat.zero_le _, rfl, by simp, grown_refl _ _, HO.out⟩
  case round =>
    obtain ⟨k, hk, rfl, rfl, hot, f, hf⟩ := hrel
    have HT := hid hot
    have HF := hid hf
    clear hot
    by_cases hlt : k < len
    · have g0 := hf.cell (i := k * 4) (by omega)
      have z0 := hf.frozen (k * 4)
      have g1 := hf.cell (i := k * 4 + 1) (by omega)
      have z1 := hf.frozen (k * 4 + 1)
      have g2 := hf.cell (i := k * 4 + 2) (by omega)
      have z2 := hf.frozen (k * 4 + 2)
      have g3 := hf.cell (i := k * 4 + 3) (by omega)
      have z3 := hf.frozen (k * 4 + 3)
      clear hf
      go_wp2
      all_goals
        go_roundw
        case rel => exact ⟨k + 1, by omega, by go_num, by congr 1; omega, grown_set (grown_set (grown_set (grown_set HT.out))), _, ((((HF.out.set (k * 4) _).set (k * 4 + 1) _).set (k * 4 + 2) _).set (k * 4 + 3) _)⟩
        case measure => simp [intOf]; omega
    · have e : k = len := by omega
      subst e
      clear hf
      go_wp2
      go_ret
      exact ⟨rfl, HT.out⟩

theorem grown_alloc (w : World) (o : Obj) (row : Option Nat) : w.grownBy (w.alloc o) row := by
  have hb : Below w.heap.size w (w.alloc o) := (by repeat (first | exact Below.refl _ _ | assumption | refine Below.drew ?_ | refine Below.alloc ?_ (by first | exact Nat.le_refl _ | omega | (simp; done) | (simp; omega)) _ | refine Below.setCell ?_ (by first | exact Nat.le_refl _ | omega | (simp; done) | (simp; omega)) _))
  exact ⟨hb.os, hb.tape, hb.output, hb.size, fun j hj _ => hb.block j hj⟩
theorem grown_trans {w w1 w2 : World} {row : Option Nat} (h : w.grownBy w1 row) (h' : w1.grownBy w2 row) : w.grownBy w2 row :=
  ⟨h'.os.trans h.os, h'.tape.trans h.tape, h'.output.trans h.output, Nat.le_trans h.size h'.size, fun j hj hne => (h'.block j (Nat.lt_of_lt_of_le hj h.size) hne).trans (h.block j hj hne)⟩

end Go.Proofs.YtjppbmpgnlojpaaGreat.walkMark
