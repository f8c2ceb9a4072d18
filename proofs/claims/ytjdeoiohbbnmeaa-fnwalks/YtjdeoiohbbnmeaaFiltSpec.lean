/- Of the specification: whether a filter stops a packet; conditions: none. -/
import Derived.Test.YtjdeoiohbbnmeaaPart14
import Derived.Test.YtjdeoiohbbnmeaaPart7
namespace Go.Proofs.Ytjdeoiohbbnmeaa.filtSpec
open Go.RowKit Go.Deep Go base names netSem netSpec routeRow walkSem
set_option linter.unusedVariables false

set_option maxHeartbeats 1600000 in
theorem filt_spec (p : Nat → Option Addr) (l c : Nat → Nat) (f : R) (a b port : Int) (w : World) (h : Row 4 w (p 5) (l 5) f) :
    Calls Try.prog 51 #[netV p l c, .int .i64 a, .int .i64 b, .int .i64 port] w fun e' w' => e' = .returned (.bool (filt f (l 5) a b port)) ∧ Below w.heap.size w w' := by
  have hm := h.most
  unfold maxLen at hm
  obtain ⟨p5, h5⟩ : ∃ q, p 5 = q := ⟨_, rfl⟩
  obtain ⟨l5, hl5⟩ : ∃ q, l 5 = q := ⟨_, rfl⟩
  unfold netV
  rw [h5, hl5] at h
  rw [hl5] at hm
  rw [h5, hl5]
  clear h5 hl5
  have HR := hid h
  clear h
  have C1 : Hid (∀ w8 : World, Below (w.alloc (.cells #[.slice (p 0) (l 0) (c 0), .slice (p 1) (l 1) (c 1), .slice (p 2) (l 2) (c 2), .slice (p 3) (l 3) (c 3), .slice (p 4) (l 4) (c 4), .slice p5 l5 (c 5)] 29)).heap.size (w.alloc (.cells #[.slice (p 0) (l 0) (c 0), .slice (p 1) (l 1) (c 1), .slice (p 2) (l 2) (c 2), .slice (p 3) (l 3) (c 3), .slice (p 4) (l 4) (c 4), .slice p5 l5 (c 5)] 29)) w8 →
      w8.cell? ⟨w.heap.size, 5, none⟩ = some (.slice p5 l5 (c 5)) ∧ Row 4 w8 p5 l5 f ∧ Below w.heap.size w w8) :=
    fun w8 hb => ⟨keep hb (by simp [go_sem]), (HR.out.below (by repeat (first | exact Below.refl _ _ | assumption | refine Below.drew ?_ | refine Below.alloc ?_ (by first | exact Nat.le_refl _ | omega | (simp; done) | (simp; omega)) _ | refine Below.setCell ?_ (by first | exact Nat.le_refl _ | omega | (simp; done) | (simp; omega)) _))).below hb, (show Below w.heap.size w _ from (by repeat (first | exact Below.refl _ _ | assumption | refine Below.drew ?_ | refine Below.alloc ?_ (by first | exact Nat.le_refl _ | omega | (simp; done) | (simp; omega)) _ | refine Below.setCell ?_ (by first | exact Nat.le_refl _ | omega | (simp; done) | (simp; omega)) _))).trans (hb.mono (by simp))⟩
  generalize c 5 = c5 at *
  go_enter Try.func51, Try.ntmps51
  go_wp2
  go_loopw [9] (fun i wr => ∃ k : Nat, k ≤ l5 ∧ i = .int .i64 k ∧ (∀ j, j < k → filtB f a b port j = false) ∧ Below (w.alloc (.cells #[.slice (p 0) (l 0) (c 0), .slice (p 1) (l 1) (c 1), .slice (p 2) (l 2) (c 2), .slice (p 3) (l 3) (c 3), .slice (p 4) (l 4) (c 4), .slice p5 l5 c5] 29)).heap.size (w.alloc (.cells #[.slice (p 0) (l 0) (c 0), .slice (p 1) (l 1) (c 1), .slice (p 2) (l 2) (c 2), .slice (p 3) (l 3) (c 3), .slice (p 4) (l 4) (c 4), .slice p5 l5 c5] 29)) wr) (fun i _ => l5 - (intOf i).toNat)
  case atStart => exact ⟨0, Nat.zero_le _, rfl, fun j hj => absurd hj (Nat.not_lt_zero _), Below.refl _ _⟩
  case round =>
    obtain ⟨k, hk, rfl, ha, hbel⟩ := hrel
    have HA := hid ha
    have HB := hid hbel
    obtain ⟨q5, hrow, hB⟩ := C1.out wr hbel
    have BR := hid hB
    have s0 := BR.out.size
    have s1 := hbel.size
    clear ha hB
    by_cases hlt : k < l5
    · obtain ⟨b0, off, rfl, c0, c1, c2, c3⟩ := hrow.at4 hlt
      have HQ : Hid (filtB f a b port k = (f k 0 == a && f k 1 == b && inB port (f k 2) (f k 3))) := rfl
      have qb := World.block_lt_of_cell? _ _ c0
      have q0 := World.block_lt_of_cell? _ _ q5
      clear hrow hbel s1
      generalize f k 0 = x0 at *
      generalize f k 1 = x1 at *
      generalize f k 2 = x2 at *
      generalize f k 3 = x3 at *
      obtain ⟨p1, e1⟩ : ∃ p, (x0 == a) = p := ⟨_, rfl⟩
      obtain ⟨p2, e2⟩ : ∃ p, (x1 == b) = p := ⟨_, rfl⟩
      obtain ⟨p3, e3⟩ : ∃ p, inB port x2 x3 = p := ⟨_, rfl⟩
      rw [e1, e2, e3] at HQ
      have HN : Hid (∀ wz : World, (p1 && p2 && p3) = false → Below wr.heap.size wr wz → ∃ k' : Nat, k' ≤ l5 ∧ Value.int .i64 ((k : Int) + 1) = .int .i64 k' ∧ (∀ j, j < k' → filtB f a b port j = false) ∧ Below (w.alloc (.cells #[.slice (p 0) (l 0) (c 0), .slice (p 1) (l 1) (c 1), .slice (p 2) (l 2) (c 2), .slice (p 3) (l 3) (c 3), .slice (p 4) (l 4) (c 4), .slice (some ⟨b0, off, none⟩) l5 c5] 29)).heap.size (w.alloc (.cells #[.slice (p 0) (l 0) (c 0), .slice (p 1) (l 1) (c 1), .slice (p 2) (l 2) (c 2), .slice (p 3) (l 3) (c 3), .slice (p 4) (l 4) (c 4), .slice (some ⟨b0, off, none⟩) l5 c5] 29)) wz) :=
        fun wz h0 hz => ⟨k + 1, by omega, by go_num, fun j hj => by
          by_cases e : j = k
          · subst e; rw [HQ.out]; exact h0
          · exact HA.out j (by omega), HB.out.trans (hz.mono HB.out.size)⟩
      cases p1 with
      | false =>
        go_wp2
        go_roundw
        case rel => exact HN.out _ rfl (by repeat (first | exact Below.refl _ _ | assumption | refine Below.drew ?_ | refine Below.alloc ?_ (by first | exact Nat.le_refl _ | omega | (simp; done) | (simp; omega)) _ | refine Below.setCell ?_ (by first | exact Nat.le_refl _ | omega | (simp; done) | (simp; omega)) _))
        case measure => simp [intOf]; omega
      | true =>
        cases p2 with
        | false =>
          go_wp2
          go_roundw
          case rel => exact HN.out _ rfl (by repeat (first | exact Below.refl _ _ | assumption | refine Below.drew ?_ | refine Below.alloc ?_ (by first | exact Nat.le_refl _ | omega | (simp; done) | (simp; omega)) _ | refine Below.setCell ?_ (by first | exact Nat.le_refl _ | omega | (simp; done) | (simp; omega)) _))
          case measure => simp [intOf]; omega
        | true =>
          cases p3 with
          | false =>
            go_wp2_with (go_at_call 27; refine (in_spec _ _ _ _).mono ?_; rintro e w' ⟨rfl, hw'⟩; have hw' := hw'.symm; subst hw')
            go_roundw
            case rel => exact HN.out _ rfl (by repeat (first | exact Below.refl _ _ | assumption | refine Below.drew ?_ | refine Below.alloc ?_ (by first | exact Nat.le_refl _ | omega | (simp; done) | (simp; omega)) _ | refine Below.setCell ?_ (by first | exact Nat.le_refl _ | omega | (simp; done) | (simp; omega)) _))
            case measure => simp [intOf]; omega
          | true =>
            go_wp2_with (go_at_call 27; refine (in_spec _ _ _ _).mono ?_; rintro e w' ⟨rfl, hw'⟩; have hw' := hw'.symm; subst hw')
            go_ret
            exact ⟨ret_bool (filt_hit hlt HQ.out).symm, BR.out.trans (Below.mono (show Below wr.heap.size wr _ from (by repeat (first | exact Below.refl _ _ | assumption | refine Below.drew ?_ | refine Below.alloc ?_ (by first | exact Nat.le_refl _ | omega | (simp; done) | (simp; omega)) _ | refine Below.setCell ?_ (by first | exact Nat.le_refl _ | omega | (simp; done) | (simp; omega)) _))) BR.out.size)⟩
    · have e : k = l5 := by omega
      subst e
      clear hbel hrow s1
      go_wp2
      go_ret
      exact ⟨ret_bool (filt_none HA.out).symm, BR.out⟩
end Go.Proofs.Ytjdeoiohbbnmeaa.filtSpec
