/- Marks in a formula, and that they are held; conditions: lengths that fit. -/
import Derived.Test.YtiiigdcfnnjkcaaCopiedRows
namespace Go.Proofs.Ytiiigdcfnnjkcaa.markCnf
open Go.RowKit Go.Deep base copy own order sorted concat inOrder mark clauseOrder sortClauses compactClauses rises normal markRows copiedRows

set_option maxHeartbeats 400000 in
theorem mark_rows_any (B : Nat) (v : Value) (ps : List (Value × List Int)) (n : Int) (w : World) (h : OwnRows B w v ps) (hlo : Lone ps) (hn0 : 0 ≤ n) (hn : n + ((ps.map (fun p => p.2.length)).sum : Nat) ≤ 1048576) (hlen : ps.length ≤ 1048576) :
    Calls Try.prog 55 #[v, .int .i64 n] w fun e w' => e = .returned (.int .i64 (n + ((ps.map (fun p => p.2.length)).sum : Nat))) ∧ ∃ qs, OwnRows B w' v qs ∧ qs.map (·.2) = rowMarks n (ps.map (fun p => p.2.length)) ∧ Below B w w' ∧ OnlyIn w w' (ps.map Prod.fst) := by
  rcases h.outer.2 with ⟨e, h0⟩ | ⟨g, cap, cur, e, _⟩
  · subst e
    have hz : ps = [] := List.length_eq_zero_iff.1 h0
    subst hz
    have HO := hid h
    clear h hlo h0
    go_enter Try.func55, Try.ntmps55
    go_wp2
    go_loop [5, 1] (fun i t => i = .int .i64 0 ∧ t = .int .i64 n) (fun _ _ => 0)
    case atStart => exact ⟨rfl, rfl⟩
    case round =>
      obtain ⟨rfl, rfl⟩ := hrel
      go_wp2
      go_ret
      exact ⟨by simp, [], HO.out, rfl, Below.refl _ _, OnlyIn.refl _ _⟩
  · subst e
    exact mark_rows B g ps.length cap ps n w h hlo hn0 hn hlen

set_option maxHeartbeats 400000 in
theorem markCnf_own (B : Nat) (vars : Int) (a : Option Addr) (len cap : Nat) (ps : List (Value × List Int)) (n : Int) (w : World) (h : OwnRows B w (.slice a len cap) ps) (hlo : Lone ps) (hB : B ≤ w.heap.size) (hn0 : 0 ≤ n) (hn : n + ((ps.map (fun p => p.2.length)).sum : Nat) ≤ 1048576) (hlen : ps.length ≤ 1048576) :
    Calls Try.prog 22 #[.agg #[.int .i64 vars, .slice a len cap], .int .i64 n] w fun e w' => e = .returned (.int .i64 (n + ((ps.map (fun p => p.2.length)).sum : Nat))) ∧ ∃ qs, OwnRows B w' (.slice a len cap) qs ∧ qs.map (·.2) = rowMarks n (ps.map (fun p => p.2.length)) ∧ Below B w w' ∧ OnlyIn w w' (ps.map Prod.fst) := by
  have HO := hid h
  have HLo := hid hlo
  have HBB := hid hB
  clear h hlo hB
  go_enter Try.func22, Try.ntmps22
  go_wp2_with fail
  refine (mark_rows_any B _ ps n _ (OwnRows.below HO.out (by repeat (first | exact Below.refl _ _ | assumption | refine Below.drew ?_ | refine Below.alloc ?_ (by first | exact Nat.le_refl _ | omega | (simp; done) | (simp; omega)) _ | refine Below.setCell ?_ (by first | exact Nat.le_refl _ | omega | (simp; done) | (simp; omega)) _))) HLo.out hn0 hn hlen).mono ?_
  rintro e w1 ⟨rfl, qs, ho, hm, hb, hon⟩
  have HO1 := hid ho
  have HM1 := hid hm
  have HB1 : Hid (Below B w w1) := ((Below.refl _ w).alloc HBB.out _).trans hb
  have HOn : Hid (OnlyIn w w1 (ps.map Prod.fst)) := OnlyIn.after (by repeat (first | exact Below.refl _ _ | assumption | refine Below.drew ?_ | refine Below.alloc ?_ (by first | exact Nat.le_refl _ | omega | (simp; done) | (simp; omega)) _ | refine Below.setCell ?_ (by first | exact Nat.le_refl _ | omega | (simp; done) | (simp; omega)) _)) hon
  clear ho hm hb hon
  go_wp2
  go_ret
  exact ⟨rfl, qs, HO1.out, HM1.out, HB1.out, HOn.out⟩

set_option maxHeartbeats 400000 in
theorem heldCnf_rows (vars : Int) (a : Option Addr) (len cap : Nat) (ls : List Nat) (n : Int) (w : World) (hr : IntRows w a len (rowMarks n ls)) (hn0 : 0 ≤ n) (hn : n + (ls.sum : Nat) ≤ 1048576) :
    Calls Try.prog 23 #[.agg #[.int .i64 vars, .slice a len cap], .int .i64 n] w fun e w' => e = .returned (.int .i64 (n + (ls.sum : Nat))) ∧ Below w.heap.size w w' := by
  have HR := hid hr
  have hng : ¬ (n + (ls.sum : Int) < 0) := by omega
  clear hr
  go_enter Try.func23, Try.ntmps23
  go_wp2_with fail
  refine (held_rows a len cap ls n _ (HR.out.below (by repeat (first | exact Below.refl _ _ | assumption | refine Below.drew ?_ | refine Below.alloc ?_ (by first | exact Nat.le_refl _ | omega | (simp; done) | (simp; omega)) _ | refine Below.setCell ?_ (by first | exact Nat.le_refl _ | omega | (simp; done) | (simp; omega)) _))) hn0 hn).mono ?_
  rintro e w1 ⟨rfl, rfl⟩
  go_wp2
  go_ret
  exact ⟨rfl, (by repeat (first | exact Below.refl _ _ | assumption | refine Below.drew ?_ | refine Below.alloc ?_ (by first | exact Nat.le_refl _ | omega | (simp; done) | (simp; omega)) _ | refine Below.setCell ?_ (by first | exact Nat.le_refl _ | omega | (simp; done) | (simp; omega)) _))⟩
end Go.Proofs.Ytiiigdcfnnjkcaa.markCnf
