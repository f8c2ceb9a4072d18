import Derived.Test.YtaioffpkadmmhaaGreatPart1
import Derived.Lib.SlicesCompact
import Derived.Test.YtaioffpkadmmhaaGreatPart9
namespace Go.Proofs.YtaioffpkadmmhaaGreat.order
open Go.Lib
def rk (l : Int) : Int := if l < 0 then -2 * l + 1 else 2 * l
def SS (r : List Int) : Prop := r.Pairwise (fun x y => rk x < rk y)
theorem SS.uniq : ∀ {a b : List Int}, SS a → SS b → (∀ x, x ∈ a ↔ x ∈ b) → a = b
 | [], [], _, _, _ => rfl
 | [], y :: b, _, _, h => absurd ((h y).2 (List.mem_cons_self ..)) (by simp)
 | x :: a, [], _, _, h => absurd ((h x).1 (List.mem_cons_self ..)) (by simp)
 | x :: a, y :: b, ha, hb, h => by
  have ha' := List.pairwise_cons.1 ha
  have hb' := List.pairwise_cons.1 hb
  have e : x = y := by
   rcases List.mem_cons.1 ((h x).1 (List.mem_cons_self ..)) with e | hx
   · exact e
   · rcases List.mem_cons.1 ((h y).2 (List.mem_cons_self ..)) with e | hy
     · exact e.symm
     · have h1 := hb'.1 x hx
       have h2 := ha'.1 y hy
       omega
  subst e
  have ht : a = b := SS.uniq ha'.2 hb'.2 (fun z => by
   have hz := h z
   simp only [List.mem_cons] at hz
   constructor
   · intro hm
     rcases hz.1 (.inr hm) with rfl | h2
     · have := ha'.1 z hm; omega
     · exact h2
   · intro hm
     rcases hz.2 (.inr hm) with rfl | h2
     · have := hb'.1 z hm; omega
     · exact h2)
  rw [ht]
end Go.Proofs.YtaioffpkadmmhaaGreat.order
namespace Go.Proofs.YtaioffpkadmmhaaGreat.compare
open Go.RowKit Go.Deep base order
def sgn (x y : Int) : Int := if x < y then -1 else if y < x then 1 else 0
set_option maxHeartbeats 400000 in
theorem cmp_int (x y : Int) (w : World) :
  Calls Tryz.prog 58 #[.int .i64 x, .int .i64 y] w fun e w' => e = .returned (.int .i64 (sgn x y)) ∧ w' = w := by
 rcases Int.lt_trichotomy x y with h | h | h
 · have e : sgn x y = -1 := by unfold sgn; rw [if_pos h]
   rw [e]
   clear e
   go_enter Tryz.func58, Tryz.ntmps58
   go_wp2
   go_ret
   exact ⟨rfl, rfl⟩
 · subst h
   have e : sgn x x = 0 := by unfold sgn; rw [if_neg (by omega), if_neg (by omega)]
   rw [e]
   clear e
   go_enter Tryz.func58, Tryz.ntmps58
   go_wp2
   go_ret
   exact ⟨rfl, rfl⟩
 · have e : sgn x y = 1 := by unfold sgn; rw [if_neg (by omega), if_pos h]
   rw [e]
   clear e
   go_enter Tryz.func58, Tryz.ntmps58
   go_wp2
   go_ret
   exact ⟨rfl, rfl⟩
end Go.Proofs.YtaioffpkadmmhaaGreat.compare
namespace Go.Proofs.YtaioffpkadmmhaaGreat.bestRoute
open Go.RowKit Go.Deep base routeRow compare drawn heldStore
set_option linter.unusedVariables false
def bestCode (len : Nat) : Int := if 4096 < len then 2 else if len = 0 then 6 else 0
def zeroRt : Rt := ⟨0, 0, 0, false⟩
def bestOf (len : Nat) (g : Rs) : Rt := if bestCode len = 0 then bestTo g (len - 1) else zeroRt
set_option maxHeartbeats 400000 in
theorem better_spec (x0 x1 x2 y0 y1 y2 : Int) (x3 y3 : Bool) (w : World) :
  Calls Tryz.prog 108 #[.agg #[.int .i64 x0, .int .i64 x1, .int .i64 x2, .bool x3], .agg #[.int .i64 y0, .int .i64 y1, .int .i64 y2, .bool y3]] w fun e w' => e = .returned (.bool (better ⟨x0, x1, x2, x3⟩ ⟨y0, y1, y2, y3⟩)) ∧ Below w.heap.size w w' := by
 obtain ⟨r, hr⟩ : ∃ r, better ⟨x0, x1, x2, x3⟩ ⟨y0, y1, y2, y3⟩ = r := ⟨_, rfl⟩
 rw [hr]
 unfold better at hr
 simp only at hr
 by_cases h1 : x1 = y1
 · rw [if_pos h1] at hr
   by_cases h2 : x2 = y2
   · rw [if_pos h2] at hr
     have n1 : (x1 != y1) = false := by simp [h1]
     have n2 : (x2 != y2) = false := by simp [h2]
     clear h1 h2
     go_enter Tryz.func108, Tryz.ntmps108
     go_wp2
     go_ret
     first | exact ⟨ret_bool hr, (by repeat (first | exact Below.refl _ _ | assumption | refine Below.drew ?_ | refine Below.alloc ?_ (by first | exact Nat.le_refl _ | omega | (simp; done) | (simp; omega)) _ | refine Below.setCell ?_ (by first | exact Nat.le_refl _ | omega | (simp; done) | (simp; omega)) _))⟩ | exact ⟨rfl, (by repeat (first | exact Below.refl _ _ | assumption | refine Below.drew ?_ | refine Below.alloc ?_ (by first | exact Nat.le_refl _ | omega | (simp; done) | (simp; omega)) _ | refine Below.setCell ?_ (by first | exact Nat.le_refl _ | omega | (simp; done) | (simp; omega)) _))⟩
   · rw [if_neg h2] at hr
     have n1 : (x1 != y1) = false := by simp [h1]
     have n2 : (x2 != y2) = true := by simp [h2]
     clear h1 h2
     go_enter Tryz.func108, Tryz.ntmps108
     go_wp2
     go_ret
     first | exact ⟨ret_bool hr, (by repeat (first | exact Below.refl _ _ | assumption | refine Below.drew ?_ | refine Below.alloc ?_ (by first | exact Nat.le_refl _ | omega | (simp; done) | (simp; omega)) _ | refine Below.setCell ?_ (by first | exact Nat.le_refl _ | omega | (simp; done) | (simp; omega)) _))⟩ | exact ⟨rfl, (by repeat (first | exact Below.refl _ _ | assumption | refine Below.drew ?_ | refine Below.alloc ?_ (by first | exact Nat.le_refl _ | omega | (simp; done) | (simp; omega)) _ | refine Below.setCell ?_ (by first | exact Nat.le_refl _ | omega | (simp; done) | (simp; omega)) _))⟩
 · rw [if_neg h1] at hr
   have n1 : (x1 != y1) = true := by simp [h1]
   clear h1
   go_enter Tryz.func108, Tryz.ntmps108
   go_wp2
   go_ret
   first | exact ⟨ret_bool hr, (by repeat (first | exact Below.refl _ _ | assumption | refine Below.drew ?_ | refine Below.alloc ?_ (by first | exact Nat.le_refl _ | omega | (simp; done) | (simp; omega)) _ | refine Below.setCell ?_ (by first | exact Nat.le_refl _ | omega | (simp; done) | (simp; omega)) _))⟩ | exact ⟨rfl, (by repeat (first | exact Below.refl _ _ | assumption | refine Below.drew ?_ | refine Below.alloc ?_ (by first | exact Nat.le_refl _ | omega | (simp; done) | (simp; omega)) _ | refine Below.setCell ?_ (by first | exact Nat.le_refl _ | omega | (simp; done) | (simp; omega)) _))⟩
theorem or_int (a b c : Int) (B : Nat) (w : World) (h0 : w.cell? ⟨B, 0, none⟩ = some (.int .i64 a)) (h1 : w.cell? ⟨B, 1, none⟩ = some (.int .i64 b)) (h2 : w.cell? ⟨B, 2, none⟩ = some (.int .i64 c)) (cap : Nat) :
  Calls Tryz.prog 57 #[.slice (some ⟨B, 0, none⟩) 3 cap] w fun e w' => e = .returned (.int .i64 (if a = 0 then (if b = 0 then c else b) else a)) ∧ w' = w := by
 obtain ⟨r, hr⟩ : ∃ r, (if a = 0 then (if b = 0 then c else b) else a) = r := ⟨_, rfl⟩
 rw [hr]
 have HR := hid hr
 clear hr
 go_enter Tryz.func57, Tryz.ntmps57
 go_wp2
 go_loop [8] (fun i => ∃ k : Nat, k ≤ 3 ∧ i = .int .i64 k ∧ (0 < k → a = 0) ∧ (1 < k → b = 0) ∧ (2 < k → c = 0)) (fun i => 3 - (intOf i).toNat)
 case atStart => exact ⟨0, by omega, rfl, by omega, by omega, by omega⟩
 case round =>
  obtain ⟨k, hk, rfl, ha, hb, hc⟩ := hrel
  obtain rfl | rfl | rfl | rfl : k = 0 ∨ k = 1 ∨ k = 2 ∨ k = 3 := by omega
  · clear ha hb hc
    by_cases e : a = 0
    · have n : (a != 0) = false := by simp [e]
      have E := hid e
      clear e
      go_wp2
      go_round
      case rel => exact ⟨1, by omega, rfl, fun _ => E.out, by omega, by omega⟩
      case measure => simp [intOf]
    · have n : (a != 0) = true := by simp [e]
      have E := hid e
      clear e
      go_wp2
      go_ret
      exact ⟨ret_int (by rw [← HR.out, if_neg E.out]), rfl⟩
  · have A := hid (ha (by omega))
    clear ha hb hc
    by_cases e : b = 0
    · have n : (b != 0) = false := by simp [e]
      have E := hid e
      clear e
      go_wp2
      go_round
      case rel => exact ⟨2, by omega, rfl, fun _ => A.out, fun _ => E.out, by omega⟩
      case measure => simp [intOf]
    · have n : (b != 0) = true := by simp [e]
      have E := hid e
      clear e
      go_wp2
      go_ret
      exact ⟨ret_int (by rw [← HR.out, if_pos A.out, if_neg E.out]), rfl⟩
  · have A := hid (ha (by omega))
    have B' := hid (hb (by omega))
    clear ha hb hc
    by_cases e : c = 0
    · have n : (c != 0) = false := by simp [e]
      have E := hid e
      clear e
      go_wp2
      go_round
      case rel => exact ⟨3, by omega, rfl, fun _ => A.out, fun _ => B'.out, fun _ => E.out⟩
      case measure => simp [intOf]
    · have n : (c != 0) = true := by simp [e]
      have E := hid e
      clear e
      go_wp2
      go_ret
      exact ⟨ret_int (by rw [← HR.out, if_pos A.out, if_pos B'.out]), rfl⟩
  · have A := hid (ha (by omega))
    have B' := hid (hb (by omega))
    have C := hid (hc (by omega))
    clear ha hb hc
    go_wp2
    go_ret
    exact ⟨ret_int (by rw [← HR.out, if_pos A.out, if_pos B'.out, C.out]), rfl⟩
def first (a b : Rt) : Int := if sgn b.pref a.pref = 0 then (if sgn a.len b.len = 0 then sgn a.via b.via else sgn a.len b.len) else sgn b.pref a.pref
theorem sgn_zero {x y : Int} : sgn x y = 0 ↔ x = y := by
 unfold sgn
 split
 · omega
 · split <;> omega
theorem sgn_neg {x y : Int} : sgn x y < 0 ↔ x < y := by
 unfold sgn
 split
 · omega
 · split <;> omega
theorem first_neg (a b : Rt) : decide (first a b < 0) = better a b := by
 unfold first better
 by_cases h1 : a.pref = b.pref
 · rw [if_pos (sgn_zero.2 h1.symm), if_pos h1]
   by_cases h2 : a.len = b.len
   · rw [if_pos (sgn_zero.2 h2), if_pos h2, decide_eq_decide]; exact sgn_neg
   · rw [if_neg (fun e => h2 (sgn_zero.1 e)), if_neg h2, decide_eq_decide]; exact sgn_neg
 · rw [if_neg (fun e => h1 (sgn_zero.1 e).symm), if_neg h1, decide_eq_decide]; exact sgn_neg
set_option maxHeartbeats 800000 in
set_option maxRecDepth 8000 in
theorem first_impl (x0 x1 x2 y0 y1 y2 : Int) (x3 y3 : Bool) (w : World) :
  Calls Tryz.prog 34 #[.agg #[.int .i64 x0, .int .i64 x1, .int .i64 x2, .bool x3], .agg #[.int .i64 y0, .int .i64 y1, .int .i64 y2, .bool y3]] w fun e w' => e = .returned (.int .i64 (first ⟨x0, x1, x2, x3⟩ ⟨y0, y1, y2, y3⟩)) ∧ Below w.heap.size w w' := by
 obtain ⟨r, hr⟩ : ∃ r, first ⟨x0, x1, x2, x3⟩ ⟨y0, y1, y2, y3⟩ = r := ⟨_, rfl⟩
 rw [hr]
 unfold first at hr
 simp only at hr
 have HR := hid hr
 have H1 := hid (cmp_int y1 x1)
 have H2 := hid (cmp_int x2 y2)
 have H3 := hid (cmp_int x0 y0)
 clear hr
 generalize sgn y1 x1 = s1 at *
 generalize sgn x2 y2 = s2 at *
 generalize sgn x0 y0 = s3 at *
 go_enter Tryz.func34, Tryz.ntmps34
 go_wp2_with fail
 obtain ⟨W8, hW8⟩ : ∃ W, ((w.alloc (.cells #[.int .i64 x0, .int .i64 x1, .int .i64 x2, .bool x3] 44)).alloc (.cells #[.int .i64 y0, .int .i64 y1, .int .i64 y2, .bool y3] 44)) = W := ⟨_, rfl⟩
 have HC : Hid (W8.cell? ⟨w.heap.size, 0, none⟩ = some (.int .i64 x0) ∧ W8.cell? ⟨w.heap.size, 1, none⟩ = some (.int .i64 x1) ∧ W8.cell? ⟨w.heap.size, 2, none⟩ = some (.int .i64 x2) ∧ W8.cell? ⟨w.heap.size + 1, 0, none⟩ = some (.int .i64 y0) ∧ W8.cell? ⟨w.heap.size + 1, 1, none⟩ = some (.int .i64 y1) ∧ W8.cell? ⟨w.heap.size + 1, 2, none⟩ = some (.int .i64 y2)) := hid (by rw [← hW8]; refine ⟨?_, ?_, ?_, ?_, ?_, ?_⟩ <;> simp [go_sem])
 have HB : Hid (Below w.heap.size w W8) := hid (by rw [← hW8]; exact (by repeat (first | exact Below.refl _ _ | assumption | refine Below.drew ?_ | refine Below.alloc ?_ (by first | exact Nat.le_refl _ | omega | (simp; done) | (simp; omega)) _ | refine Below.setCell ?_ (by first | exact Nat.le_refl _ | omega | (simp; done) | (simp; omega)) _)))
 rw [hW8]
 clear hW8
 -- region of betterFirst
 refine region_below (fun u => ⟨#[.agg #[.int .i64 x0, .int .i64 x1, .int .i64 x2, .bool x3], .agg #[.int .i64 y0, .int .i64 y1, .int .i64 y2, .bool y3], .pointer (some ⟨w.heap.size, 0, none⟩), .pointer (some ⟨w.heap.size + 1, 0, none⟩), .int .i64 0, u 5, u 6, u 7, u 8, u 9, u 10, u 11, u 12, u 13, u 14, u 15, u 16, u 17, u 18, u 19, u 20, u 21], []⟩) (fun i => [5, 6, 7, 8, 9, 10, 11, 12, 13, 14, 15, 16, 17, 18, 19, 20, 21].getD i 0) (fun i v w8 => match i with | 0 => v = .pointer (some ⟨w.heap.size + 1, 1, none⟩) | 1 => v = .int .i64 y1 | 2 => v = .pointer (some ⟨w.heap.size, 1, none⟩) | 3 => v = .int .i64 x1 | 4 => v = .int .i64 s1 | 5 => v = .pointer (some ⟨w.heap.size, 2, none⟩) | 6 => v = .int .i64 x2 | 7 => v = .pointer (some ⟨w.heap.size + 1, 2, none⟩) | 8 => v = .int .i64 y2 | 9 => v = .int .i64 s2 | 10 => v = .pointer (some ⟨w.heap.size, 0, none⟩) | 11 => v = .int .i64 x0 | 12 => v = .pointer (some ⟨w.heap.size + 1, 0, none⟩) | 13 => v = .int .i64 y0 | 14 => v = .int .i64 s3 | 15 => ∃ N, v = .slice (some ⟨N, 0, none⟩) 3 3 ∧ w8.cell? ⟨N, 0, none⟩ = some (.int .i64 s1) ∧ w8.cell? ⟨N, 1, none⟩ = some (.int .i64 s2) ∧ w8.cell? ⟨N, 2, none⟩ = some (.int .i64 s3) | 16 => v = .int .i64 r | _ => True) W8 17 (fun k => match k with | 5 => undef | 6 => undef | 7 => undef | 8 => undef | 9 => undef | 10 => undef | 11 => undef | 12 => undef | 13 => undef | 14 => undef | 15 => undef | 16 => undef | 17 => undef | 18 => undef | 19 => undef | 20 => undef | 21 => undef | _ => undef) (by rfl) (by kernel_rfl) (by rfl) ⟨by kernel_rfl, by kernel_rfl, by kernel_rfl, by decide⟩ (by kernel_rfl) (Below.refl _ _) ?hput ?hinj ?stable ?step ?last
 case hput =>
  intro i hi u v
  match i, hi with
  | 0, _ => rfl
  | 1, _ => rfl
  | 2, _ => rfl
  | 3, _ => rfl
  | 4, _ => rfl
  | 5, _ => rfl
  | 6, _ => rfl
  | 7, _ => rfl
  | 8, _ => rfl
  | 9, _ => rfl
  | 10, _ => rfl
  | 11, _ => rfl
  | 12, _ => rfl
  | 13, _ => rfl
  | 14, _ => rfl
  | 15, _ => rfl
  | 16, _ => rfl
  | i + 17, hi => exact absurd hi (by omega)
 case hinj =>
  intro i j hi hj h
  exact slots_inj [5, 6, 7, 8, 9, 10, 11, 12, 13, 14, 15, 16, 17, 18, 19, 20, 21] (by decide) hi hj h
 case stable =>
  intro i v w8 w9 hb h
  match i, h with
  | 0, h => exact h
  | 1, h => exact h
  | 2, h => exact h
  | 3, h => exact h
  | 4, h => exact h
  | 5, h => exact h
  | 6, h => exact h
  | 7, h => exact h
  | 8, h => exact h
  | 9, h => exact h
  | 10, h => exact h
  | 11, h => exact h
  | 12, h => exact h
  | 13, h => exact h
  | 14, h => exact h
  | 15, h => obtain ⟨N, e, h0, h1, h2⟩ := h; exact ⟨N, e, keep hb h0, keep hb h1, keep hb h2⟩
  | 16, h => exact h
  | _ + 17, h => trivial
 case step =>
  intro i hi u w8 S8 hdep
  match i, hi with
  | 0, _ =>
   clear hdep
   refine ⟨_, rfl, fun K' hK => ?_⟩
   go_simp
   exact hK.out _ _ (Below.refl _ _) rfl
  | 1, _ =>
   have h0 : (u 5) = .pointer (some ⟨w.heap.size + 1, 1, none⟩) := hdep 0 (by kernel_rfl)
   clear hdep
   refine ⟨_, rfl, fun K' hK => ?_⟩
   have q := keep S8 HC.out.2.2.2.2.1
   simp only [h0] at hK ⊢
   go_simp
   exact hK.out _ _ (Below.refl _ _) rfl
  | 2, _ =>
   clear hdep
   refine ⟨_, rfl, fun K' hK => ?_⟩
   go_simp
   exact hK.out _ _ (Below.refl _ _) rfl
  | 3, _ =>
   have h2 : (u 7) = .pointer (some ⟨w.heap.size, 1, none⟩) := hdep 2 (by kernel_rfl)
   clear hdep
   refine ⟨_, rfl, fun K' hK => ?_⟩
   have q := keep S8 HC.out.2.1
   simp only [h2] at hK ⊢
   go_simp
   exact hK.out _ _ (Below.refl _ _) rfl
  | 4, _ =>
   have h1 : (u 6) = .int .i64 y1 := hdep 1 (by kernel_rfl)
   have h3 : (u 8) = .int .i64 x1 := hdep 3 (by kernel_rfl)
   clear hdep
   refine ⟨_, rfl, fun K' hK => ?_⟩
   simp only [h1, h3] at hK ⊢
   go_simp
   refine (H1.out _).mono ?_
   rintro e w9 ⟨rfl, hw⟩
   have hw := hw.symm
   subst hw
   exact hK.out _ _ (Below.refl _ _) rfl
  | 5, _ =>
   clear hdep
   refine ⟨_, rfl, fun K' hK => ?_⟩
   go_simp
   exact hK.out _ _ (Below.refl _ _) rfl
  | 6, _ =>
   have h5 : (u 10) = .pointer (some ⟨w.heap.size, 2, none⟩) := hdep 5 (by kernel_rfl)
   clear hdep
   refine ⟨_, rfl, fun K' hK => ?_⟩
   have q := keep S8 HC.out.2.2.1
   simp only [h5] at hK ⊢
   go_simp
   exact hK.out _ _ (Below.refl _ _) rfl
  | 7, _ =>
   clear hdep
   refine ⟨_, rfl, fun K' hK => ?_⟩
   go_simp
   exact hK.out _ _ (Below.refl _ _) rfl
  | 8, _ =>
   have h7 : (u 12) = .pointer (some ⟨w.heap.size + 1, 2, none⟩) := hdep 7 (by kernel_rfl)
   clear hdep
   refine ⟨_, rfl, fun K' hK => ?_⟩
   have q := keep S8 HC.out.2.2.2.2.2
   simp only [h7] at hK ⊢
   go_simp
   exact hK.out _ _ (Below.refl _ _) rfl
  | 9, _ =>
   have h6 : (u 11) = .int .i64 x2 := hdep 6 (by kernel_rfl)
   have h8 : (u 13) = .int .i64 y2 := hdep 8 (by kernel_rfl)
   clear hdep
   refine ⟨_, rfl, fun K' hK => ?_⟩
   simp only [h6, h8] at hK ⊢
   go_simp
   refine (H2.out _).mono ?_
   rintro e w9 ⟨rfl, hw⟩
   have hw := hw.symm
   subst hw
   exact hK.out _ _ (Below.refl _ _) rfl
  | 10, _ =>
   clear hdep
   refine ⟨_, rfl, fun K' hK => ?_⟩
   go_simp
   exact hK.out _ _ (Below.refl _ _) rfl
  | 11, _ =>
   have h10 : (u 15) = .pointer (some ⟨w.heap.size, 0, none⟩) := hdep 10 (by kernel_rfl)
   clear hdep
   refine ⟨_, rfl, fun K' hK => ?_⟩
   have q := keep S8 HC.out.1
   simp only [h10] at hK ⊢
   go_simp
   exact hK.out _ _ (Below.refl _ _) rfl
  | 12, _ =>
   clear hdep
   refine ⟨_, rfl, fun K' hK => ?_⟩
   go_simp
   exact hK.out _ _ (Below.refl _ _) rfl
  | 13, _ =>
   have h12 : (u 17) = .pointer (some ⟨w.heap.size + 1, 0, none⟩) := hdep 12 (by kernel_rfl)
   clear hdep
   refine ⟨_, rfl, fun K' hK => ?_⟩
   have q := keep S8 HC.out.2.2.2.1
   simp only [h12] at hK ⊢
   go_simp
   exact hK.out _ _ (Below.refl _ _) rfl
  | 14, _ =>
   have h11 : (u 16) = .int .i64 x0 := hdep 11 (by kernel_rfl)
   have h13 : (u 18) = .int .i64 y0 := hdep 13 (by kernel_rfl)
   clear hdep
   refine ⟨_, rfl, fun K' hK => ?_⟩
   simp only [h11, h13] at hK ⊢
   go_simp
   refine (H3.out _).mono ?_
   rintro e w9 ⟨rfl, hw⟩
   have hw := hw.symm
   subst hw
   exact hK.out _ _ (Below.refl _ _) rfl
  | 15, _ =>
   have h4 : (u 9) = .int .i64 s1 := hdep 4 (by kernel_rfl)
   have h9 : (u 14) = .int .i64 s2 := hdep 9 (by kernel_rfl)
   have h14 : (u 19) = .int .i64 s3 := hdep 14 (by kernel_rfl)
   clear hdep
   refine ⟨_, rfl, fun K' hK => ?_⟩
   simp only [h4, h9, h14] at hK ⊢
   go_simp
   exact hK.out _ _ (by repeat (first | exact Below.refl _ _ | assumption | refine Below.drew ?_ | refine Below.alloc ?_ (by first | exact Nat.le_refl _ | omega | (simp; done) | (simp; omega)) _ | refine Below.setCell ?_ (by first | exact Nat.le_refl _ | omega | (simp; done) | (simp; omega)) _)) ⟨_, rfl, by simp [go_sem], by simp [go_sem], by simp [go_sem]⟩
  | 16, _ =>
   have h15 : ∃ N, (u 20) = .slice (some ⟨N, 0, none⟩) 3 3 ∧ w8.cell? ⟨N, 0, none⟩ = some (.int .i64 s1) ∧ w8.cell? ⟨N, 1, none⟩ = some (.int .i64 s2) ∧ w8.cell? ⟨N, 2, none⟩ = some (.int .i64 s3) := hdep 15 (by kernel_rfl)
   clear hdep
   refine ⟨_, rfl, fun K' hK => ?_⟩
   obtain ⟨N, e15, c0, c1, c2⟩ := h15
   simp only [e15] at hK ⊢
   go_simp
   refine (or_int s1 s2 s3 N _ c0 c1 c2 3).mono ?_
   rintro e w9 ⟨rfl, hw⟩
   have hw := hw.symm
   subst hw
   exact hK.out _ _ (Below.refl _ _) (by rw [HR.out])
  | i + 17, hi => exact absurd hi (by omega)
 case last =>
  intro u w8 S8 hall
  have h16 : (u 21) = .int .i64 r := hall 16 (by decide)
  clear hall
  refine ⟨_, rfl, fun K' hK => ?_⟩
  simp only [h16] at hK ⊢
  go_simp
  refine hK.out _ _ ?_
  have HS := hid S8
  clear S8 hK K'
  go_wp2
  go_ret
  exact ⟨rfl, HB.out.trans (HS.out.mono HB.out.size)⟩
 -- end of the region
end Go.Proofs.YtaioffpkadmmhaaGreat.bestRoute
