/- Of the program: whether a filter stops a packet; conditions: none. -/
import Derived.Test.YtofdhoefphoaaaaFiltSem
import Derived.Test.YtofdhoefphoaaaaNetImpl
namespace Go.Proofs.Ytofdhoefphoaaaa.filtImpl
open Go.RowKit Go.Deep Go base names netSem netImpl filtSem
set_option linter.unusedVariables false

set_option maxHeartbeats 800000 in
theorem filtCl (x0 x1 x2 x3 a b port : Int) (B1 B2 B3 : Nat) (w : World) (h1 : w.cell? ⟨B1, 0, none⟩ = some (.int .i64 a)) (h2 : w.cell? ⟨B2, 0, none⟩ = some (.int .i64 b)) (h3 : w.cell? ⟨B3, 0, none⟩ = some (.int .i64 port)) :
    Calls Try.prog 51 #[.agg #[.int .i64 x0, .int .i64 x1, .int .i64 x2, .int .i64 x3], .pointer (some ⟨B1, 0, none⟩), .pointer (some ⟨B2, 0, none⟩), .pointer (some ⟨B3, 0, none⟩)] w fun e w' => e = .returned (.bool (x0 == a && x1 == b && inB port x2 x3)) ∧ Below w.heap.size w w' := by
  have g1 := keep (show Below w.heap.size w (w.alloc (.cells #[.int .i64 x0, .int .i64 x1, .int .i64 x2, .int .i64 x3] 50)) from (by repeat (first | exact Below.refl _ _ | assumption | refine Below.drew ?_ | refine Below.alloc ?_ (by first | exact Nat.le_refl _ | omega | (simp; done) | (simp; omega)) _ | refine Below.setCell ?_ (by first | exact Nat.le_refl _ | omega | (simp; done) | (simp; omega)) _))) h1
  have g2 := keep (show Below w.heap.size w (w.alloc (.cells #[.int .i64 x0, .int .i64 x1, .int .i64 x2, .int .i64 x3] 50)) from (by repeat (first | exact Below.refl _ _ | assumption | refine Below.drew ?_ | refine Below.alloc ?_ (by first | exact Nat.le_refl _ | omega | (simp; done) | (simp; omega)) _ | refine Below.setCell ?_ (by first | exact Nat.le_refl _ | omega | (simp; done) | (simp; omega)) _))) h2
  have g3 := keep (show Below w.heap.size w (w.alloc (.cells #[.int .i64 x0, .int .i64 x1, .int .i64 x2, .int .i64 x3] 50)) from (by repeat (first | exact Below.refl _ _ | assumption | refine Below.drew ?_ | refine Below.alloc ?_ (by first | exact Nat.le_refl _ | omega | (simp; done) | (simp; omega)) _ | refine Below.setCell ?_ (by first | exact Nat.le_refl _ | omega | (simp; done) | (simp; omega)) _))) h3
  obtain ⟨p1, e1⟩ : ∃ p, (x0 == a) = p := ⟨_, rfl⟩
  obtain ⟨p2, e2⟩ : ∃ p, (x1 == b) = p := ⟨_, rfl⟩
  obtain ⟨p3, e3⟩ : ∃ p, inB port x2 x3 = p := ⟨_, rfl⟩
  rw [e1, e2, e3]
  cases p1 <;> cases p2 <;> cases p3
  all_goals
    go_enter Try.func51, Try.ntmps51
    go_wp2_with (go_at_call 52; refine (within_impl _ _ _ _).mono ?_; rintro e w' ⟨rfl, rfl⟩)
    go_ret
    exact ⟨rfl, (by repeat (first | exact Below.refl _ _ | assumption | refine Below.drew ?_ | refine Below.alloc ?_ (by first | exact Nat.le_refl _ | omega | (simp; done) | (simp; omega)) _ | refine Below.setCell ?_ (by first | exact Nat.le_refl _ | omega | (simp; done) | (simp; omega)) _))⟩

set_option maxHeartbeats 800000 in
theorem indexFilt (p : Option Addr) (len cap : Nat) (g : R) (a b port : Int) (B1 B2 B3 : Nat) (w : World) (hr : Row 4 w p len g) (h1 : w.cell? ⟨B1, 0, none⟩ = some (.int .i64 a)) (h2 : w.cell? ⟨B2, 0, none⟩ = some (.int .i64 b)) (h3 : w.cell? ⟨B3, 0, none⟩ = some (.int .i64 port)) :
    Calls Try.prog 69 #[.slice p len cap, .func (.func 51) #[] #[.pointer (some ⟨B1, 0, none⟩), .pointer (some ⟨B2, 0, none⟩), .pointer (some ⟨B3, 0, none⟩)]] w fun e w' => e = .returned (.int .i64 (firstAt (filtB g a b port) len)) ∧ Below w.heap.size w w' := by
  have hmost := hr.most
  unfold maxLen at hmost
  have HR := hid hr
  have H1 := hid h1
  have H2 := hid h2
  have H3 := hid h3
  clear hr h1 h2 h3
  go_enter Try.func69, Try.ntmps69
  go_wp2
  go_loopw [8] (fun i wr => ∃ k : Nat, k ≤ len ∧ i = .int .i64 k ∧ (∀ j, j < k → filtB g a b port j = false) ∧ Below w.heap.size w wr) (fun i _ => len - (intOf i).toNat)
  case atStart => exact ⟨0, Nat.zero_le _, rfl, fun j hj => absurd hj (Nat.not_lt_zero _), Below.refl _ _⟩
  case round =>
    obtain ⟨k, hk, rfl, ha, hbel⟩ := hrel
    have HA := hid ha
    have HB := hid hbel
    clear ha
    by_cases hlt : k < len
    · obtain ⟨b0, off, rfl, c0, c1, c2, c3⟩ := HR.out.at4 hlt
      replace c0 := keep hbel c0
      replace c1 := keep hbel c1
      replace c2 := keep hbel c2
      replace c3 := keep hbel c3
      have g1 := hid (keep hbel H1.out)
      have g2 := hid (keep hbel H2.out)
      have g3 := hid (keep hbel H3.out)
      have HQ : Hid (filtB g a b port k = (g k 0 == a && g k 1 == b && inB port (g k 2) (g k 3))) := rfl
      clear hbel
      generalize hD : (g k 0 == a && g k 1 == b && inB port (g k 2) (g k 3)) = D at HQ
      have HD := hid hD
      clear hD
      generalize g k 0 = x at *
      generalize g k 1 = y at *
      generalize g k 2 = z at *
      generalize g k 3 = u at *
      cases D with
      | true =>
        go_wp2_with fail
        refine (filtCl x y z u a b port B1 B2 B3 _ g1.out g2.out g3.out).mono ?_
        rintro e w1 ⟨rfl, hb1⟩
        have HB1 := hid (HB.out.trans (hb1.mono HB.out.size))
        clear hb1
        rw [HD.out]
        go_wp2
        go_ret
        exact ⟨ret_int (firstAt_hit hlt HQ.out HA.out).symm, HB1.out⟩
      | false =>
        go_wp2_with fail
        refine (filtCl x y z u a b port B1 B2 B3 _ g1.out g2.out g3.out).mono ?_
        rintro e w1 ⟨rfl, hb1⟩
        have HB1 := hid (HB.out.trans (hb1.mono HB.out.size))
        clear hb1
        rw [HD.out]
        go_wp2
        go_roundw
        case rel =>
          refine ⟨k + 1, by omega, by go_num, fun j hj => ?_, HB1.out⟩
          by_cases e : j = k
          · subst e; exact HQ.out
          · exact HA.out j (by omega)
        case measure => simp [intOf]; omega
    · have e : k = len := by omega
      subst e
      clear hbel
      go_wp2
      go_ret
      exact ⟨ret_int (firstAt_none HA.out).symm, HB.out⟩

set_option maxHeartbeats 400000 in
theorem hasFilt (p : Option Addr) (len cap : Nat) (g : R) (a b port : Int) (B1 B2 B3 : Nat) (w : World) (hr : Row 4 w p len g) (h1 : w.cell? ⟨B1, 0, none⟩ = some (.int .i64 a)) (h2 : w.cell? ⟨B2, 0, none⟩ = some (.int .i64 b)) (h3 : w.cell? ⟨B3, 0, none⟩ = some (.int .i64 port)) :
    Calls Try.prog 50 #[.slice p len cap, .func (.func 51) #[] #[.pointer (some ⟨B1, 0, none⟩), .pointer (some ⟨B2, 0, none⟩), .pointer (some ⟨B3, 0, none⟩)]] w fun e w' => e = .returned (.bool (filt g len a b port)) ∧ Below w.heap.size w w' := by
  have HR := hid hr
  have H1 := hid h1
  have H2 := hid h2
  have H3 := hid h3
  clear hr h1 h2 h3
  unfold filt
  go_enter Try.func50, Try.ntmps50
  go_wp2_with fail
  refine (indexFilt p len cap g a b port B1 B2 B3 _ HR.out H1.out H2.out H3.out).mono ?_
  rintro e w1 ⟨rfl, hb1⟩
  have HB1 := hid hb1
  clear hb1
  go_wp2
  go_ret
  exact ⟨rfl, HB1.out⟩

set_option maxHeartbeats 800000 in
theorem filt_impl (p : Nat → Option Addr) (l c : Nat → Nat) (f : R) (a b port : Int) (w : World) (h : Row 4 w (p 5) (l 5) f) :
    Calls Try.prog 23 #[netV p l c, .int .i64 a, .int .i64 b, .int .i64 port] w fun e' w' => e' = .returned (.bool (filt f (l 5) a b port)) ∧ Below w.heap.size w w' := by
  have HR := hid h
  clear h
  have hmf := mkfunc
  unfold netV
  go_enter Try.func23, Try.ntmps23
  go_wp2_with fail
  refine (hasFilt (p 5) (l 5) (c 5) f a b port _ _ _ _ (HR.out.below (by repeat (first | exact Below.refl _ _ | assumption | refine Below.drew ?_ | refine Below.alloc ?_ (by first | exact Nat.le_refl _ | omega | (simp; done) | (simp; omega)) _ | refine Below.setCell ?_ (by first | exact Nat.le_refl _ | omega | (simp; done) | (simp; omega)) _))) ?_ ?_ ?_).mono ?_
  · simp [go_sem]
  · simp [go_sem]
  · simp [go_sem]
  rintro e w1 ⟨rfl, hb1⟩
  have HB1 := hid ((show Below w.heap.size w _ from (by repeat (first | exact Below.refl _ _ | assumption | refine Below.drew ?_ | refine Below.alloc ?_ (by first | exact Nat.le_refl _ | omega | (simp; done) | (simp; omega)) _ | refine Below.setCell ?_ (by first | exact Nat.le_refl _ | omega | (simp; done) | (simp; omega)) _))).trans (hb1.mono (by simp; omega)))
  clear hb1 hmf
  go_wp2
  go_ret
  exact ⟨rfl, HB1.out⟩

end Go.Proofs.Ytofdhoefphoaaaa.filtImpl
