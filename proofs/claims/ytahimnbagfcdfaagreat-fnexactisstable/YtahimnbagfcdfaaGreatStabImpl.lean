/- Whether routes are stable, of the program's scene; conditions: a right scene and right routes. -/
import Derived.Test.YtahimnbagfcdfaaGreatBestAll
import Derived.BigRegion
namespace Go.Proofs.YtahimnbagfcdfaaGreat.stabImpl
open Go.RowKit Go.Deep Go base netSem routeRow nbSem candSem candImp hopSem intsOwn hopMake hopBetween sceneSem sceneOpen sceneBy candSpec sceneCand noRts rtsRow bestFace bestAll
set_option linter.unusedVariables false

/-- Two routes are the same; two rows of routes are. -/
def eqR (a b : Rt) : Bool := a.via == b.via && a.pref == b.pref && a.len == b.len && a.mark == b.mark
theorem eqR_iff {a b : Rt} : eqR a b = true ↔ a = b := by
  cases a; cases b
  simp [eqR, and_assoc]
theorem eqR_no {a b : Rt} (h : a ≠ b) : eqR a b = false := by
  cases e : eqR a b with
  | false => rfl
  | true => exact absurd (eqR_iff.1 e) h
def sameTo (g g' : Rs) (n : Nat) : Bool := allN (fun i => eqR (g i) (g' i)) n
theorem same_yes {g g' : Rs} {n : Nat} (h : ∀ i, i < n → g i = g' i) : sameTo g g' n = true := allN_iff.2 fun i hi => eqR_iff.2 (h i hi)
theorem same_no {g g' : Rs} {n k : Nat} (hk : k < n) (h : g k ≠ g' k) : sameTo g g' n = false := allN_false hk (eqR_no h)

set_option maxHeartbeats 1600000 in
set_option maxRecDepth 8000 in
theorem equal_rts (a a' : Option Addr) (n c c' : Nat) (g g' : Rs) (w : World) (hr : RtRow w a n g) (hr' : RtRow w a' n g') :
    Calls Tryz.prog 72 #[.slice a n c, .slice a' n c'] w fun e w' => e = .returned (.bool (sameTo g g' n)) ∧ Below w.heap.size w w' := by
  have HR := hid hr
  have HR' := hid hr'
  have hm := hr.most
  unfold maxLen at hm
  clear hr hr'
  have hnn : ((n : Int) != (n : Int)) = false := by simp
  go_enter Tryz.func72, Tryz.ntmps72
  go_wp2
  go_loopw [13] (fun i wr => ∃ k : Nat, k ≤ n ∧ i = .int .i64 k ∧ (∀ j, j < k → g j = g' j) ∧ Below w.heap.size w wr) (fun i _ => n - (intOf i).toNat)
  case atStart => exact ⟨0, Nat.zero_le _, rfl, fun j hj => absurd hj (Nat.not_lt_zero _), (by repeat (first | exact Below.refl _ _ | assumption | refine Below.drew ?_ | refine Below.alloc ?_ (by first | exact Nat.le_refl _ | omega | (simp; done) | (simp; omega)) _ | refine Below.setCell ?_ (by first | exact Nat.le_refl _ | omega | (simp; done) | (simp; omega)) _))⟩
  case round =>
    obtain ⟨k, hk, rfl, ha, hbel⟩ := hrel
    have HA := hid ha
    have HB := hid hbel
    clear ha
    by_cases hlt : k < n
    · obtain ⟨b, off, rfl, c0, c1, c2, c3⟩ := (HR.out.below hbel).at4 hlt
      obtain ⟨b', off', rfl, d0, d1, d2, d3⟩ := (HR'.out.below hbel).at4 hlt
      clear hbel
      have HQ : Hid ((g k).via = (g' k).via → (g k).pref = (g' k).pref → (g k).len = (g' k).len → (g k).mark = (g' k).mark → g k = g' k) := fun h1 h2 h3 h4 => by
        revert h1 h2 h3 h4
        cases g k; cases g' k
        simp
        intros
        simp_all
      have HN : Hid (∀ r r', g k = r → g' k = r' → r ≠ r' → sameTo g g' n = false) := fun r r' e1 e2 h => same_no hlt (by rw [e1, e2]; exact h)
      obtain ⟨x, hx⟩ : ∃ r, g k = r := ⟨_, rfl⟩
      obtain ⟨y, hy⟩ : ∃ r, g' k = r := ⟨_, rfl⟩
      have HX := hid hx
      have HY := hid hy
      rw [hx] at c0 c1 c2 c3
      rw [hy] at d0 d1 d2 d3
      clear hx hy HQ
      obtain ⟨x0, x1, x2, x3⟩ := x
      obtain ⟨y0, y1, y2, y3⟩ := y
      dsimp only at c0 c1 c2 c3 d0 d1 d2 d3
      by_cases e0 : x0 = y0
      · subst e0
        by_cases e1 : x1 = y1
        · subst e1
          by_cases e2 : x2 = y2
          · subst e2
            by_cases e3 : x3 = y3
            · subst e3
              go_wp2
              go_region
              all_goals
                go_wp2
                go_roundw
                case rel =>
                  refine ⟨k + 1, by omega, by go_num, fun j hj => ?_, HB.out.drew⟩
                  by_cases e : j = k
                  · subst e; rw [HX.out, HY.out]
                  · exact HA.out j (by omega)
                case measure => simp [intOf]; omega
            · have f : (x3 == y3) = false := by simp [e3]
              have HF : Hid (sameTo g g' n = false) := HN.out _ _ HX.out HY.out (fun h => e3 (by injection h))
              clear e3
              go_wp2
              go_region
              all_goals
                go_wp2
                go_ret
                exact ⟨ret_bool HF.out.symm, HB.out.drew⟩
          · have f : (x2 == y2) = false := by simp [e2]
            have HF : Hid (sameTo g g' n = false) := HN.out _ _ HX.out HY.out (fun h => e2 (by injection h))
            clear e2
            go_wp2
            go_region
            all_goals
              go_wp2
              go_ret
              exact ⟨ret_bool HF.out.symm, HB.out.drew⟩
        · have f : (x1 == y1) = false := by simp [e1]
          have HF : Hid (sameTo g g' n = false) := HN.out _ _ HX.out HY.out (fun h => e1 (by injection h))
          clear e1
          go_wp2
          go_region
          all_goals
            go_wp2
            go_ret
            exact ⟨ret_bool HF.out.symm, HB.out.drew⟩
      · have f : (x0 == y0) = false := by simp [e0]
        have HF : Hid (sameTo g g' n = false) := HN.out _ _ HX.out HY.out (fun h => e0 (by injection h))
        clear e0
        go_wp2
        go_region
        all_goals
          go_wp2
          go_ret
          exact ⟨ret_bool HF.out.symm, HB.out.drew⟩
    · have e : k = n := by omega
      subst e
      clear hbel
      go_wp2
      go_ret
      exact ⟨ret_bool (same_yes HA.out).symm, HB.out⟩
set_option maxHeartbeats 1600000 in
theorem stable_impl {sb b B : Nat} {F : Nat → Value} {p : Nat → Option Addr} {l c : Nat → Nat} {g : R} {o e : List Int} {x : R} {ea da : Option Addr} {el ec dl dc : Nat} {env : List Int} {ds : List Bool} {w : World} (ra : Option Addr) (n cr : Nat) (rs : Rs) (h : Sc sb b B F p l c g o e x ea da el ec dl dc env ds w) (hgd : sceneBy.Good n l g x rs) (hrt : RtRow w ra n rs) (hna : ∀ a o, ra = some ⟨a, o, none⟩ → a ≠ b) (hn1 : 1 ≤ n) :
    Calls Tryz.prog 52 #[.pointer (some ⟨sb, 0, none⟩), .slice ra n cr] w fun e' w' => e' = .returned (.bool (sameTo (bests g (l 1) o e x (l 4) env ds rs n) rs n)) ∧ Sc sb b B F p l c g o e x ea da el ec dl dc env ds w' ∧ w.grownBy w' (some b) := by
  have HBest := hid (best_all ra n cr rs h hgd hrt hna hn1)
  have HT := hid hrt
  have HNa := hid hna
  have hm := hrt.most
  have HM := hid hm
  have HRt : Hid (∀ W : World, w.grownBy W (some b) → RtRow W ra n rs) := hid (fun W hg => ⟨HT.out.most, fun i hi => by
    obtain ⟨q, off, e, hc⟩ := HT.out.cell i hi
    exact ⟨q, off, e, fun j hj => grown_cell hg q _ _ (HNa.out q off e) (hc j hj)⟩⟩)
  clear h hgd hrt hna hm HT
  generalize bests g (l 1) o e x (l 4) env ds rs n = bs at *
  go_enter Tryz.func52, Tryz.ntmps52
  go_wp2_with fail
  refine HBest.out.mono ?_
  rintro e' w1 ⟨N, rfl, hN, hl, hs, hg⟩
  have HL := hid hl
  have HS := hid hs
  have HG := hid hg
  clear hl hs hg
  go_wp2_with fail
  refine (equal_rts _ ra n n cr bs rs _ (HL.out.is HM.out) (HRt.out _ HG.out)).mono ?_
  rintro e' w2 ⟨rfl, hb2⟩
  have HS2 := hid (HS.out.below hb2)
  have HG2 := hid (gtrans HG.out (grown_of_below hb2 _))
  clear hb2
  go_wp2
  go_ret
  exact ⟨rfl, HS2.out, HG2.out⟩
end Go.Proofs.YtahimnbagfcdfaaGreat.stabImpl
