/- A solver of the program: the literal to be chosen (nextChoice): the one that is asked for, or a variable without a value, 0 where all have values; conditions: weights that are never negative. -/
import Derived.Test.YtbahjpheaaiamaaDoorPart25
import Derived.Test.YtbahjpheaaiamaaDoorPart17
namespace Go.Proofs.YtbahjpheaaiamaaDoor.solNext
open Go.RowKit Go.Deep Go.Maps Go base sets setsOf solSets solOps solMath solHold solMem solFail solX
set_option linter.unusedVariables false
set_option linter.unusedSimpArgs false

/-- What is chosen. -/
structure Choice (n : Nat) (H : LS) (l : Int) (x : Int) : Prop where
  ask : l ≠ 0 → mem H l = false → x = l
  none : x = 0 → (l = 0 ∨ mem H l = true) ∧ ∀ v : Nat, 1 ≤ v → v ≤ n → mem H (v : Int) = true ∨ mem H (-(v : Int)) = true
  some : x ≠ 0 → (x = l ∧ mem H l = false) ∨ ((l = 0 ∨ mem H l = true) ∧ x.natAbs ≤ n ∧ mem H x = false ∧ mem H (-x) = false)
theorem choice_ask {n : Nat} {H : LS} {l : Int} (h0 : l ≠ 0) (h : mem H l = false) : Choice n H l l := ⟨fun _ _ => rfl, fun e => absurd e h0, fun _ => .inl ⟨rfl, h⟩⟩
/-- The walk over the variables: none ahead of v is open, or the choice is one that is. -/
def Walk (H : LS) (v : Nat) (x m : Int) : Prop := (x = 0 ∧ m = -1 ∧ ∀ u : Nat, 1 ≤ u → u < v → mem H (u : Int) = true ∨ mem H (-(u : Int)) = true) ∨ (∃ u : Nat, 1 ≤ u ∧ u < v ∧ x = -(u : Int) ∧ 0 ≤ m ∧ mem H (u : Int) = false ∧ mem H (-(u : Int)) = false)
theorem walk_end {n : Nat} {H : LS} {l x m : Int} (h : Walk H (n + 1) x m) (hl : l = 0 ∨ mem H l = true) : Choice n H l x := by
  refine ⟨fun h0 h1 => ?_, fun hx => ⟨hl, fun v h1 h2 => ?_⟩, fun hx => .inr ⟨hl, ?_⟩⟩
  · rcases hl with e | e
    · exact absurd e h0
    · rw [h1] at e; cases e
  · rcases h with ⟨_, _, h⟩ | ⟨u, a, _, c, _⟩
    · exact h v h1 (by omega)
    · omega
  · rcases h with ⟨e, _⟩ | ⟨u, a, b, c, d, e, f⟩
    · exact absurd e hx
    · exact ⟨by omega, by rw [c]; exact f, by rw [c, Int.neg_neg]; exact e⟩
theorem walk_skip {H : LS} {v : Nat} {x m wt : Int} (h : Walk H v x m) (hwt : 0 ≤ wt) (hs : ¬ m < wt ∨ mem H (v : Int) = true ∨ mem H (-(v : Int)) = true) : Walk H (v + 1) x m := by
  rcases h with ⟨a, b, c⟩ | ⟨u, a, b, c⟩
  · refine .inl ⟨a, b, fun u h1 h2 => ?_⟩
    by_cases e : u = v
    · subst e
      rcases hs with h | h
      · omega
      · exact h
    · exact c u h1 (by omega)
  · exact .inr ⟨u, a, by omega, c⟩
theorem walk_take {H : LS} {v : Nat} {wt : Int} (h1 : 1 ≤ v) (hwt : 0 ≤ wt) (h2 : mem H (v : Int) = false) (h3 : mem H (-(v : Int)) = false) : Walk H (v + 1) (-(v : Int)) wt := .inr ⟨v, h1, by omega, rfl, hwt, h2, h3⟩
set_option maxHeartbeats 3200000 in
theorem next_impl (M mb : Nat) (F : Nat → Value) (V : Int → Value) (s : Sv) (w : World) (h : Sol 0 M mb F V s w) (n : Nat) (hn : s.n = n) (hn40 : n ≤ 40) (g b : Int) (hw : Wg s.X g b) (hwf : Wf s.H) (l : Int) (hl : -40 ≤ l ∧ l ≤ 40) :
    Calls Tryd.prog 43 #[.pointer (some ⟨M, 0, none⟩), .int .i64 l] w fun e w' => ∃ x, e = .returned (.int .i64 x) ∧ Choice n s.H l x ∧ Below w.heap.size w w' := by
  obtain ⟨H1, hH1⟩ : ∃ q, s.H.1 = q := ⟨_, rfl⟩
  obtain ⟨H2, hH2⟩ : ∃ q, s.H.2 = q := ⟨_, rfl⟩
  have hH : s.H = (H1, H2) := by rw [← hH1, ← hH2]
  have k0 := h.cell (i := 0) (by omega)
  rw [h.f0, hn] at k0
  have k5 := h.cell (i := 5) (by omega)
  have k6 := h.cell (i := 6) (by omega)
  rw [h.f5, hH1] at k5
  rw [h.f6, hH2] at k6
  have HK0 := hid k0
  have HK5 := hid k5
  have HK6 := hid k6
  have HWt : Hid (∀ v, v ≤ 40 → ∃ x : Int, w.cell? ⟨M, 11 + v, none⟩ = some (.int .i64 x) ∧ 0 ≤ x) := hid (fun v hv => by
    obtain ⟨x, e, h1, _⟩ := hw.wt v hv
    refine ⟨x, ?_, h1⟩
    rw [h.cell (i := 11 + v) (by omega), h.fx (11 + v) (.inr (by omega)), e])
  rw [hH] at hwf ⊢
  have HWf := hid hwf
  clear h hw hH1 hH2 hH hn k0 k5 k6 hwf
  by_cases hl0 : l = 0
  · subst hl0
    go_enter Tryd.func43, Tryd.ntmps43
    go_wp2
    go_loopw [7, 5, 6] (fun i x m wr => ∃ (v : Nat) (xc mc : Int), 1 ≤ v ∧ v ≤ n + 1 ∧ i = .int .i64 v ∧ x = .int .i64 xc ∧ m = .int .i64 mc ∧ Walk (H1, H2) v xc mc ∧ Below w.heap.size w wr) (fun i _ _ _ => n + 1 - (intOf i).toNat)
    case atStart => exact ⟨1, 0, -1, Nat.le_refl _, by omega, rfl, rfl, rfl, .inl ⟨rfl, rfl, fun u h1 h2 => by omega⟩, Below.refl _ _⟩
    case round =>
      obtain ⟨v, xc, mc, hv1, hv2, rfl, rfl, rfl, hwk, hbr⟩ := hrel
      have HWk := hid hwk
      have HBr := hid hbr
      have c0 := keep hbr HK0.out
      have c5 := keep hbr HK5.out
      have c6 := keep hbr HK6.out
      clear hwk hbr
      by_cases hlt : v ≤ n
      · obtain ⟨wt, hwc, hw0⟩ := HWt.out v (by omega)
        have cw := keep HBr.out hwc
        have hv41 : (v : Int) < 41 := by omega
        have hv40 : (v : Int) ≤ n := by omega
        clear hwc
        by_cases hmost : mc < wt
        · have hmd : decide (mc < wt) = true := decide_eq_true hmost
          go_wp2_with fail
          refine (has_impl (H1, H2) v _ HWf.out (by omega) (by omega) (by omega)).mono ?_
          rintro e w2 ⟨rfl, hb2⟩
          have HB2 := hid (HBr.out.trans (hb2.mono HBr.out.size))
          have d5 := keep hb2 c5
          have d6 := keep hb2 c6
          clear hb2
          cases hm : mem (H1, H2) (v : Int) with
          | true =>
            go_wp2
            go_roundw
            case rel => exact ⟨v + 1, xc, mc, by omega, by omega, by go_num, rfl, rfl, walk_skip HWk.out hw0 (.inr (.inl hm)), HB2.out⟩
            case measure => simp [intOf]; omega
          | false =>
            go_wp2_with fail
            refine (has_impl (H1, H2) (-(v : Int)) _ HWf.out (by omega) (by omega) (by omega)).mono ?_
            rintro e w3 ⟨rfl, hb3⟩
            have HB3 := hid (HB2.out.trans (hb3.mono HB2.out.size))
            have dw := keep HB3.out (show w.cell? ⟨M, 11 + v, none⟩ = some (.int .i64 wt) by
              obtain ⟨x9, e9, _⟩ := HWt.out v (by omega)
              have := keep HBr.out e9
              rw [cw] at this
              rw [e9, ← this])
            clear hb3
            cases hm2 : mem (H1, H2) (-(v : Int)) with
            | true =>
              go_wp2
              go_roundw
              case rel => exact ⟨v + 1, xc, mc, by omega, by omega, by go_num, rfl, rfl, walk_skip HWk.out hw0 (.inr (.inr hm2)), HB3.out⟩
              case measure => simp [intOf]; omega
            | false =>
              go_wp2_with fail
              go_region
              go_wp2
              go_roundw
              case rel => exact ⟨v + 1, -(v : Int), wt, by omega, by omega, by go_num, rfl, rfl, walk_take hv1 hw0 hm hm2, HB3.out.trans (((Below.refl _ _).drew).mono HB3.out.size)⟩
              case measure => simp [intOf]; omega
        · have hmd : decide (mc < wt) = false := decide_eq_false hmost
          go_wp2
          go_roundw
          case rel => exact ⟨v + 1, xc, mc, by omega, by omega, by go_num, rfl, rfl, walk_skip HWk.out hw0 (.inl hmost), HBr.out⟩
          case measure => simp [intOf]; omega
      · have e : v = n + 1 := by omega
        subst e
        have hlt' : ¬ ((n : Int) + 1 ≤ n) := by omega
        go_wp2
        go_ret
        exact ⟨xc, rfl, walk_end HWk.out (.inl rfl), HBr.out⟩
  · have hld : (l == 0) = false := beq_eq_false_iff_ne.2 hl0
    have h5 := HK5.out
    have h6 := HK6.out
    go_enter Tryd.func43, Tryd.ntmps43
    go_wp2_with fail
    refine (has_impl (H1, H2) l _ HWf.out hl0 hl.1 hl.2).mono ?_
    rintro e w1 ⟨rfl, hb1⟩
    have HB1 := hid hb1
    clear hb1 h5 h6
    cases hm9 : mem (H1, H2) l with
    | false =>
      go_wp2
      go_ret
      exact ⟨l, rfl, choice_ask hl0 hm9, HB1.out⟩
    | true =>
      have HM9 := hid hm9
      clear hm9
      go_wp2
      go_loopw [7, 5, 6] (fun i x m wr => ∃ (v : Nat) (xc mc : Int), 1 ≤ v ∧ v ≤ n + 1 ∧ i = .int .i64 v ∧ x = .int .i64 xc ∧ m = .int .i64 mc ∧ Walk (H1, H2) v xc mc ∧ Below w.heap.size w wr) (fun i _ _ _ => n + 1 - (intOf i).toNat)
      case atStart => exact ⟨1, 0, -1, Nat.le_refl _, by omega, rfl, rfl, rfl, .inl ⟨rfl, rfl, fun u h1 h2 => by omega⟩, HB1.out⟩
      case round =>
        obtain ⟨v, xc, mc, hv1, hv2, rfl, rfl, rfl, hwk, hbr⟩ := hrel
        have HWk := hid hwk
        have HBr := hid hbr
        have c0 := keep hbr HK0.out
        have c5 := keep hbr HK5.out
        have c6 := keep hbr HK6.out
        clear hwk hbr
        by_cases hlt : v ≤ n
        · obtain ⟨wt, hwc, hw0⟩ := HWt.out v (by omega)
          have cw := keep HBr.out hwc
          have hv41 : (v : Int) < 41 := by omega
          have hv40 : (v : Int) ≤ n := by omega
          clear hwc
          by_cases hmost : mc < wt
          · have hmd : decide (mc < wt) = true := decide_eq_true hmost
            go_wp2_with fail
            refine (has_impl (H1, H2) v _ HWf.out (by omega) (by omega) (by omega)).mono ?_
            rintro e w2 ⟨rfl, hb2⟩
            have HB2 := hid (HBr.out.trans (hb2.mono HBr.out.size))
            have d5 := keep hb2 c5
            have d6 := keep hb2 c6
            clear hb2
            cases hm : mem (H1, H2) (v : Int) with
            | true =>
              go_wp2
              go_roundw
              case rel => exact ⟨v + 1, xc, mc, by omega, by omega, by go_num, rfl, rfl, walk_skip HWk.out hw0 (.inr (.inl hm)), HB2.out⟩
              case measure => simp [intOf]; omega
            | false =>
              go_wp2_with fail
              refine (has_impl (H1, H2) (-(v : Int)) _ HWf.out (by omega) (by omega) (by omega)).mono ?_
              rintro e w3 ⟨rfl, hb3⟩
              have HB3 := hid (HB2.out.trans (hb3.mono HB2.out.size))
              have dw := keep HB3.out (show w.cell? ⟨M, 11 + v, none⟩ = some (.int .i64 wt) by
                obtain ⟨x9, e9, _⟩ := HWt.out v (by omega)
                have := keep HBr.out e9
                rw [cw] at this
                rw [e9, ← this])
              clear hb3
              cases hm2 : mem (H1, H2) (-(v : Int)) with
              | true =>
                go_wp2
                go_roundw
                case rel => exact ⟨v + 1, xc, mc, by omega, by omega, by go_num, rfl, rfl, walk_skip HWk.out hw0 (.inr (.inr hm2)), HB3.out⟩
                case measure => simp [intOf]; omega
              | false =>
                go_wp2_with fail
                go_region
                go_wp2
                go_roundw
                case rel => exact ⟨v + 1, -(v : Int), wt, by omega, by omega, by go_num, rfl, rfl, walk_take hv1 hw0 hm hm2, HB3.out.trans (((Below.refl _ _).drew).mono HB3.out.size)⟩
                case measure => simp [intOf]; omega
          · have hmd : decide (mc < wt) = false := decide_eq_false hmost
            go_wp2
            go_roundw
            case rel => exact ⟨v + 1, xc, mc, by omega, by omega, by go_num, rfl, rfl, walk_skip HWk.out hw0 (.inl hmost), HBr.out⟩
            case measure => simp [intOf]; omega
        · have e : v = n + 1 := by omega
          subst e
          have hlt' : ¬ ((n : Int) + 1 ≤ n) := by omega
          go_wp2
          go_ret
          exact ⟨xc, rfl, walk_end HWk.out (.inr HM9.out), HBr.out⟩
end Go.Proofs.YtbahjpheaaiamaaDoor.solNext
