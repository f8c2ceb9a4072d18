/- Whether a word is right, of the program: for every tree that lies in memory; conditions: none. -/
import Derived.Test.YtikdadpapdkfiaaWordTrees
import Derived.BigRegion
namespace Go.Proofs.Ytikdadpapdkfiaa.wordImpl
open Go.RowKit Go.Deep base trees wordTrees
set_option linter.unusedVariables false

set_option maxHeartbeats 800000 in
theorem kids_impl (k : Int) (w : World) : Calls Try.prog 50 #[.int .i64 k] w fun e w' => e = .returned (.int .i64 (kidsW k)) ∧ w' = w := by
  by_cases h : k = 1 ∨ k = 2 ∨ k = 3 ∨ k = 4 ∨ k = 5
  · rcases h with rfl | rfl | rfl | rfl | rfl
    all_goals
      go_enter Try.func50, Try.ntmps50
      go_wp2
      go_ret
      exact ⟨rfl, rfl⟩
  · have e : kidsW k = -1 := by unfold kidsW; rw [if_neg (by omega), if_neg (by omega)]
    rw [e]
    have e1 : (k == 1) = false := by simp; omega
    have e2 : (k == 2) = false := by simp; omega
    have e3 : (k == 3) = false := by simp; omega
    have e4 : (k == 4) = false := by simp; omega
    have e5 : (k == 5) = false := by simp; omega
    clear h e
    go_enter Try.func50, Try.ntmps50
    go_wp2
    go_ret
    exact ⟨rfl, rfl⟩

set_option maxHeartbeats 1600000 in
theorem most_impl (k : Int) (b : Nat) (hb1 : 1 ≤ b) (hb2 : b ≤ 6) (w : World) : Calls Try.prog 51 #[.int .i64 k, .int .i64 (b : Int)] w fun e w' => e = .returned (.int .i64 (mostW b k)) ∧ w' = w := by
  by_cases h : k = 1 ∨ k = 2
  · rcases bits_cases hb1 hb2 with rfl | rfl | rfl | rfl | rfl | rfl
    all_goals
      rcases h with rfl | rfl
    all_goals
      go_enter Try.func51, Try.ntmps51
      go_wp2
      go_ret
      exact ⟨rfl, rfl⟩
  · have e : mostW b k = 0 := by unfold mostW; rw [if_neg (by omega), if_neg (by omega)]
    rw [e]
    have e1 : (k == 1) = false := by simp; omega
    have e2 : (k == 2) = false := by simp; omega
    clear h e
    go_enter Try.func51, Try.ntmps51
    go_wp2
    go_ret
    exact ⟨rfl, rfl⟩

def IsW (b d : Nat) : Prop := ∀ (t : T) (a : Option Addr) (l c k B : Nat) (w : World), Rd (fun x => x ≠ B) 1048576 w d t a l → k ≤ 9 → w.cell? ⟨B, 0, none⟩ = some (.int .i64 (k : Int)) → w.frozen? ⟨B, 0, none⟩ = false →
    Calls Try.prog 29 #[.agg #[.int .i64 (kd t), .int .i64 (nn t), .slice a l c], .int .i64 (b : Int), .pointer (some ⟨B, 0, none⟩)] w fun e w' => ∃ k' : Nat, e = .returned (.bool (okW b d t k)) ∧ (okW b d t k = true → k' = k + size d t) ∧ k' ≤ 10 ∧
      w'.cell? ⟨B, 0, none⟩ = some (.int .i64 (k' : Int)) ∧ w'.frozen? ⟨B, 0, none⟩ = false ∧ Oth B w w'
/-- The function literal that isWord hands on; what it captured lies in blocks of its own. -/
def ClW (b d : Nat) : Prop := ∀ (t : T) (a : Option Addr) (l c k B P Q : Nat) (w : World), Rd (fun x => x ≠ B) 1048576 w d t a l → k ≤ 9 → w.cell? ⟨B, 0, none⟩ = some (.int .i64 (k : Int)) → w.frozen? ⟨B, 0, none⟩ = false →
    w.cell? ⟨P, 0, none⟩ = some (.int .i64 (b : Int)) → w.cell? ⟨Q, 0, none⟩ = some (.pointer (some ⟨B, 0, none⟩)) →
    Calls Try.prog 53 #[.agg #[.int .i64 (kd t), .int .i64 (nn t), .slice a l c], .pointer (some ⟨P, 0, none⟩), .pointer (some ⟨Q, 0, none⟩)] w fun e w' => ∃ k' : Nat, e = .returned (.bool (okW b d t k)) ∧ (okW b d t k = true → k' = k + size d t) ∧ k' ≤ 10 ∧
      w'.cell? ⟨B, 0, none⟩ = some (.int .i64 (k' : Int)) ∧ w'.frozen? ⟨B, 0, none⟩ = false ∧ Oth B w w'

set_option maxHeartbeats 400000 in
theorem clW (b d : Nat) (h : IsW b d) : ClW b d := by
  intro t a l c k B P Q w hr hk hB hfz hP hQ
  have HR := hid hr
  have HH := hid h
  have hBl : B < w.heap.size := World.block_lt_of_cell? _ _ hB
  have hPl : P < w.heap.size := World.block_lt_of_cell? _ _ hP
  have hQl : Q < w.heap.size := World.block_lt_of_cell? _ _ hQ
  clear hr h
  go_enter Try.func53, Try.ntmps53
  go_wp2_with fail
  refine (HH.out t a l c k B _ (HR.out.below (by repeat (first | exact Below.refl _ _ | assumption | refine Below.drew ?_ | refine Below.alloc ?_ (by first | exact Nat.le_refl _ | omega | (simp; done) | (simp; omega)) _ | refine Below.setCell ?_ (by first | exact Nat.le_refl _ | omega | (simp; done) | (simp; omega)) _))) hk (by simpa [go_sem, hBl] using hB) (by simpa [go_sem, hBl] using hfz)).mono ?_
  rintro e w1 ⟨k', rfl, h1, h2, h3, h4, h5⟩
  have HP := hid (And.intro h1 (And.intro h2 (And.intro h3 (And.intro h4 ((Oth.of_below B (show Below w.heap.size w _ from (by repeat (first | exact Below.refl _ _ | assumption | refine Below.drew ?_ | refine Below.alloc ?_ (by first | exact Nat.le_refl _ | omega | (simp; done) | (simp; omega)) _ | refine Below.setCell ?_ (by first | exact Nat.le_refl _ | omega | (simp; done) | (simp; omega)) _)))).trans h5)))))
  clear h1 h2 h3 h4 h5
  go_wp2
  go_ret
  exact ⟨k', rfl, HP.out.1, HP.out.2.1, HP.out.2.2.1, HP.out.2.2.2.1, HP.out.2.2.2.2⟩

/-- All words of a row, with so many nodes ahead of each. -/
def allW (b d : Nat) (t : T) (k : Nat) : Nat → Bool := allTo fun i => okW b d (kid t i) (k + sumTo (fun i => size d (kid t i)) i)
def AllW (b d : Nat) : Prop := ∀ (t : T) (a : Option Addr) (l c k B P Q : Nat) (w : World), Rd (fun x => x ≠ B) 1048576 w d t a l → k ≤ 9 → w.cell? ⟨B, 0, none⟩ = some (.int .i64 (k : Int)) → w.frozen? ⟨B, 0, none⟩ = false →
    w.cell? ⟨P, 0, none⟩ = some (.int .i64 (b : Int)) → w.cell? ⟨Q, 0, none⟩ = some (.pointer (some ⟨B, 0, none⟩)) → P ≠ B → Q ≠ B →
    Calls Try.prog 52 #[.slice a l c, .func (.func 53) #[] #[.pointer (some ⟨P, 0, none⟩), .pointer (some ⟨Q, 0, none⟩)]] w fun e w' => ∃ k' : Nat, e = .returned (.bool (allW b (d - 1) t k l)) ∧ (allW b (d - 1) t k l = true → k' = k + sumTo (fun i => size (d - 1) (kid t i)) l) ∧ k' ≤ 10 ∧
      w'.cell? ⟨B, 0, none⟩ = some (.int .i64 (k' : Int)) ∧ w'.frozen? ⟨B, 0, none⟩ = false ∧ Oth B w w'

set_option maxHeartbeats 800000 in
theorem allW_of (b d : Nat) (h : 0 < d → ClW b (d - 1)) : AllW b d := by
  intro t a l c k B P Q w hr hk hB hfz hP hQ hPB hQB
  have HR := hid hr
  have HH := hid h
  have HL := hid hr.len
  have hmost := hr.most
  have HPl := hid hP
  have HQl := hid hQ
  clear hr h
  go_enter Try.func52, Try.ntmps52
  go_wp2
  go_loopw [9] (fun i wr => ∃ j : Nat, j ≤ l ∧ i = .int .i64 j ∧ wr.cell? ⟨B, 0, none⟩ = some (.int .i64 ((k + sumTo (fun i => size (d - 1) (kid t i)) j : Nat) : Int)) ∧ wr.frozen? ⟨B, 0, none⟩ = false ∧ Oth B w wr ∧ k + sumTo (fun i => size (d - 1) (kid t i)) j ≤ 9 ∧
      ∀ x, x < j → okW b (d - 1) (kid t x) (k + sumTo (fun i => size (d - 1) (kid t i)) x) = true) (fun i _ => l - (intOf i).toNat)
  case atStart => exact ⟨0, Nat.zero_le _, rfl, by simpa [sumTo] using hB, hfz, Oth.refl _ _, by simpa [sumTo] using hk, fun x hx => absurd hx (Nat.not_lt_zero _)⟩
  case round =>
    obtain ⟨j, hj, rfl, hcB, hfB, hO, hle, ha⟩ := hrel
    have HA := hid ha
    have HOt := hid hO
    clear ha hO hB hfz hP hQ
    generalize hs0 : k + sumTo (fun i => size (d - 1) (kid t i)) j = s0 at *
    have HS0 := hid hs0
    clear hs0
    by_cases hlt : j < l
    · obtain ⟨hd0, bb, off, rfl, hq, hc0, hc1, a', l', c', hc2, hrow⟩ := HR.out.cell hlt
      have hbw : bb < w.heap.size := World.block_lt_of_cell? _ _ hc0
      have hcP := hid (HOt.out.cell hPB HPl.out)
      have hcQ := hid (HOt.out.cell hQB HQl.out)
      replace hc0 := HOt.out.cell hq hc0
      replace hc1 := HOt.out.cell hq hc1
      replace hc2 := HOt.out.cell hq hc2
      have hBr : B < wr.heap.size := World.block_lt_of_cell? _ _ hcB
      have HX := hid (hrow.oth HOt.out)
      have HIE := hid (HH.out hd0)
      clear hrow
      cases hok : okW b (d - 1) (kid t j) s0 with
      | false =>
        go_wp2_with fail
        refine (HIE.out (kid t j) a' l' c' s0 B P Q _ (HX.out.below (by repeat (first | exact Below.refl _ _ | assumption | refine Below.drew ?_ | refine Below.alloc ?_ (by first | exact Nat.le_refl _ | omega | (simp; done) | (simp; omega)) _ | refine Below.setCell ?_ (by first | exact Nat.le_refl _ | omega | (simp; done) | (simp; omega)) _))) (by omega) (by simpa [go_sem, hBr] using hcB) (by simpa [go_sem, hBr] using hfB) (keep (by repeat (first | exact Below.refl _ _ | assumption | refine Below.drew ?_ | refine Below.alloc ?_ (by first | exact Nat.le_refl _ | omega | (simp; done) | (simp; omega)) _ | refine Below.setCell ?_ (by first | exact Nat.le_refl _ | omega | (simp; done) | (simp; omega)) _)) hcP.out) (keep (by repeat (first | exact Below.refl _ _ | assumption | refine Below.drew ?_ | refine Below.alloc ?_ (by first | exact Nat.le_refl _ | omega | (simp; done) | (simp; omega)) _ | refine Below.setCell ?_ (by first | exact Nat.le_refl _ | omega | (simp; done) | (simp; omega)) _)) hcQ.out)).mono ?_
        rintro e w1 ⟨k', rfl, h1, h2, h3, h4, h5⟩
        have HP := hid (And.intro h2 (And.intro h3 (And.intro h4 (HOt.out.trans ((Oth.of_below B (show Below wr.heap.size wr _ from (by repeat (first | exact Below.refl _ _ | assumption | refine Below.drew ?_ | refine Below.alloc ?_ (by first | exact Nat.le_refl _ | omega | (simp; done) | (simp; omega)) _ | refine Below.setCell ?_ (by first | exact Nat.le_refl _ | omega | (simp; done) | (simp; omega)) _)))).trans h5)))))
        clear h1 h2 h3 h4 h5
        rw [hok]
        go_wp2
        go_ret
        have hF : allW b (d - 1) t k l = false := allTo_false (i := j) hlt (by show okW b (d - 1) (kid t j) _ = false; rw [HS0.out]; exact hok)
        exact ⟨k', ret_bool hF.symm, (fun h => by rw [hF] at h; cases h), HP.out.1, HP.out.2.1, HP.out.2.2.1, HP.out.2.2.2⟩
      | true =>
        go_wp2_with fail
        refine (HIE.out (kid t j) a' l' c' s0 B P Q _ (HX.out.below (by repeat (first | exact Below.refl _ _ | assumption | refine Below.drew ?_ | refine Below.alloc ?_ (by first | exact Nat.le_refl _ | omega | (simp; done) | (simp; omega)) _ | refine Below.setCell ?_ (by first | exact Nat.le_refl _ | omega | (simp; done) | (simp; omega)) _))) (by omega) (by simpa [go_sem, hBr] using hcB) (by simpa [go_sem, hBr] using hfB) (keep (by repeat (first | exact Below.refl _ _ | assumption | refine Below.drew ?_ | refine Below.alloc ?_ (by first | exact Nat.le_refl _ | omega | (simp; done) | (simp; omega)) _ | refine Below.setCell ?_ (by first | exact Nat.le_refl _ | omega | (simp; done) | (simp; omega)) _)) hcP.out) (keep (by repeat (first | exact Below.refl _ _ | assumption | refine Below.drew ?_ | refine Below.alloc ?_ (by first | exact Nat.le_refl _ | omega | (simp; done) | (simp; omega)) _ | refine Below.setCell ?_ (by first | exact Nat.le_refl _ | omega | (simp; done) | (simp; omega)) _)) hcQ.out)).mono ?_
        rintro e w1 ⟨k', rfl, h1, h2, h3, h4, h5⟩
        have h6 := h1 hok
        have h7 := (okW_iff.1 hok).1
        have HP := hid (And.intro h3 (And.intro h4 (HOt.out.trans ((Oth.of_below B (show Below wr.heap.size wr _ from (by repeat (first | exact Below.refl _ _ | assumption | refine Below.drew ?_ | refine Below.alloc ?_ (by first | exact Nat.le_refl _ | omega | (simp; done) | (simp; omega)) _ | refine Below.setCell ?_ (by first | exact Nat.le_refl _ | omega | (simp; done) | (simp; omega)) _)))).trans h5))))
        clear h1 h2 h3 h4 h5
        rw [hok]
        go_wp2
        go_roundw
        case rel =>
          have e : k + sumTo (fun i => size (d - 1) (kid t i)) (j + 1) = k' := by rw [sumTo_succ, ← Nat.add_assoc, HS0.out, h6]
          refine ⟨j + 1, by omega, by go_num, by rw [e]; exact HP.out.1, HP.out.2.1, HP.out.2.2, by omega, fun x hx => ?_⟩
          by_cases e : x = j
          · subst e; rw [HS0.out]; exact hok
          · exact HA.out x (by omega)
        case measure => simp [intOf]; omega
    · have e : j = l := by omega
      subst e
      have hT : allW b (d - 1) t k j = true := allTo_of HA.out
      have HT := hid hT
      clear hT
      go_wp2
      go_ret
      exact ⟨s0, ret_bool HT.out.symm, fun _ => HS0.out.symm, by omega, hcB, hfB, HOt.out⟩
end Go.Proofs.Ytikdadpapdkfiaa.wordImpl
