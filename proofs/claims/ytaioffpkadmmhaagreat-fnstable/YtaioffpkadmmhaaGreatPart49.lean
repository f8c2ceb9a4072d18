import Derived.Test.YtaioffpkadmmhaaGreatPart28
import Derived.Test.YtaioffpkadmmhaaGreatSourceI
import Derived.Test.YtaioffpkadmmhaaGreatPart4
import Derived.Test.YtaioffpkadmmhaaGreatPart1
namespace Go.Proofs.YtaioffpkadmmhaaGreat.sameRts
open Go.RowKit Go.Deep Go base netSem routeRow candSem rtsRow stabImpl
set_option linter.unusedVariables false
set_option maxHeartbeats 1600000 in
set_option maxRecDepth 8000 in
theorem same_rts (a a' : Option Addr) (n c c' : Nat) (g g' : Rs) (w : World) (hr : RtRow w a n g) (hr' : RtRow w a' n g') :
  Calls Tryz.prog 11 #[.slice a n c, .slice a' n c'] w fun e w' => e = .returned (.bool (sameTo g g' n)) ∧ Below w.heap.size w w' := by
 have HR := hid hr
 have HR' := hid hr'
 have hm := hr.most
 unfold maxLen at hm
 clear hr hr'
 have hnn : ((n : Int) != (n : Int)) = false := by simp
 go_enter Tryz.func11, Tryz.ntmps11
 go_wp2
 go_loopw [5] (fun i wr => ∃ k : Nat, k ≤ n ∧ i = .int .i64 k ∧ (∀ j, j < k → g j = g' j) ∧ Below w.heap.size w wr) (fun i _ => n - (intOf i).toNat)
 case atStart => exact ⟨0, Nat.zero_le _, rfl, fun j hj => absurd hj (Nat.not_lt_zero _), (by repeat (first | exact Below.refl _ _ | assumption | refine Below.drew ?_ | refine Below.alloc ?_ (by first | exact Nat.le_refl _ | omega | (simp; done) | (simp; omega)) _ | refine Below.setCell ?_ (by first | exact Nat.le_refl _ | omega | (simp; done) | (simp; omega)) _))⟩
 case round =>
  obtain ⟨k, hk, rfl, ha, hbel⟩ := hrel
  have HA := hid ha
  have HB := hid hbel
  clear ha
  by_cases hlt : k < n
  · obtain ⟨b, off, rfl, c0, c1, c2, c3⟩ := (HR.out.below hbel).at4 hlt
    obtain ⟨b', off', rfl, d0, d1, d2, d3⟩ := (HR'.out.below hbel).at4 hlt
    clear hbel
    have HQ : Hid ((g k).via = (g' k).via → (g k).pref = (g' k).pref → (g k).len = (g' k).len → (g k).mark = (g' k).mark → g k = g' k) := fun h1 h2 h3 h4 => by
     revert h1 h2 h3 h4
     cases g k; cases g' k
     simp
     intros
     simp_all
    have HN : Hid (∀ r r', g k = r → g' k = r' → r ≠ r' → sameTo g g' n = false) := fun r r' e1 e2 h => same_no hlt (by rw [e1, e2]; exact h)
    obtain ⟨x, hx⟩ : ∃ r, g k = r := ⟨_, rfl⟩
    obtain ⟨y, hy⟩ : ∃ r, g' k = r := ⟨_, rfl⟩
    have HX := hid hx
    have HY := hid hy
    rw [hx] at c0 c1 c2 c3
    rw [hy] at d0 d1 d2 d3
    clear hx hy HQ
    obtain ⟨x0, x1, x2, x3⟩ := x
    obtain ⟨y0, y1, y2, y3⟩ := y
    dsimp only at c0 c1 c2 c3 d0 d1 d2 d3
    by_cases e0 : x0 = y0
    · subst e0
      by_cases e1 : x1 = y1
      · subst e1
        by_cases e2 : x2 = y2
        · subst e2
          by_cases e3 : x3 = y3
          · subst e3
            go_wp2
            go_region
            all_goals
             go_wp2
             go_roundw
             case rel =>
              refine ⟨k + 1, by omega, by go_num, fun j hj => ?_, HB.out.drew⟩
              by_cases e : j = k
              · subst e; rw [HX.out, HY.out]
              · exact HA.out j (by omega)
             case measure => simp [intOf]; omega
          · have f : (x3 == y3) = false := by simp [e3]
            have HF : Hid (sameTo g g' n = false) := HN.out _ _ HX.out HY.out (fun h => e3 (by injection h))
            clear e3
            go_wp2
            go_region
            all_goals
             go_wp2
             go_ret
             exact ⟨ret_bool HF.out.symm, HB.out.drew⟩
        · have f : (x2 == y2) = false := by simp [e2]
          have HF : Hid (sameTo g g' n = false) := HN.out _ _ HX.out HY.out (fun h => e2 (by injection h))
          clear e2
          go_wp2
          go_region
          all_goals
           go_wp2
           go_ret
           exact ⟨ret_bool HF.out.symm, HB.out.drew⟩
      · have f : (x1 == y1) = false := by simp [e1]
        have HF : Hid (sameTo g g' n = false) := HN.out _ _ HX.out HY.out (fun h => e1 (by injection h))
        clear e1
        go_wp2
        go_region
        all_goals
         go_wp2
         go_ret
         exact ⟨ret_bool HF.out.symm, HB.out.drew⟩
    · have f : (x0 == y0) = false := by simp [e0]
      have HF : Hid (sameTo g g' n = false) := HN.out _ _ HX.out HY.out (fun h => e0 (by injection h))
      clear e0
      go_wp2
      go_region
      all_goals
       go_wp2
       go_ret
       exact ⟨ret_bool HF.out.symm, HB.out.drew⟩
  · have e : k = n := by omega
    subst e
    clear hbel
    go_wp2
    go_ret
    exact ⟨ret_bool (same_yes HA.out).symm, HB.out⟩
end Go.Proofs.YtaioffpkadmmhaaGreat.sameRts
namespace Go.Proofs.YtaioffpkadmmhaaGreat.atAny
open Go.RowKit Go.Deep Go base source
set_option linter.unusedVariables false
theorem ret_int {a b : Int} (h : a = b) : Ending.returned (.int .i64 a) = .returned (.int .i64 b) := by rw [h]
set_option maxHeartbeats 1600000 in
theorem at_any (i n : Nat) (hi : i ≤ 1000000) (hn : 1 ≤ n) (hn' : n ≤ 256) (a : Option Addr) (len cap : Nat) (w : World) (hb : Bytes w a len) (hl : len ≤ 1048576) :
  Calls Tryz.prog 5 #[.slice a len cap, .int .i64 (i : Int), .int .i64 (n : Int)] w fun e w' => ∃ r : Nat, e = .returned (.int .i64 r) ∧ r < n ∧ Below w.heap.size w w' := by
 have HB := hid hb
 clear hb
 by_cases h1 : n = 1
 · subst h1
   go_enter Tryz.func5, Tryz.ntmps5
   go_wp2
   go_ret
   exact ⟨0, rfl, by omega, (by repeat (first | exact Below.refl _ _ | assumption | refine Below.drew ?_ | refine Below.alloc ?_ (by first | exact Nat.le_refl _ | omega | (simp; done) | (simp; omega)) _ | refine Below.setCell ?_ (by first | exact Nat.le_refl _ | omega | (simp; done) | (simp; omega)) _))⟩
 have hn1 : decide ((n : Int) ≤ 1) = false := decide_eq_false (by omega)
 have hn0 : ((n : Int) == 0) = false := by simp; omega
 have hn2 : (0 : Int) < (n : Int) := by omega
 have hfin : ∀ z : Int, 0 ≤ z % (n : Int) ∧ z % (n : Int) < n := fun z => ⟨Int.emod_nonneg _ (by omega), Int.emod_lt_of_pos _ (by omega)⟩
 have HFin := hid hfin
 clear hfin
 by_cases h0 : len = 0
 · subst h0
   go_enter Tryz.func5, Tryz.ntmps5
   go_wp2
   go_ret
   obtain ⟨f0, f1⟩ := HFin.out ((i : Int) * 7)
   exact ⟨((i : Int) * 7 % (n : Int)).toNat, ret_int (by omega), by omega, (by repeat (first | exact Below.refl _ _ | assumption | refine Below.drew ?_ | refine Below.alloc ?_ (by first | exact Nat.le_refl _ | omega | (simp; done) | (simp; omega)) _ | refine Below.setCell ?_ (by first | exact Nat.le_refl _ | omega | (simp; done) | (simp; omega)) _))⟩
 have hq0 : ((len : Int) == 0) = false := by simp; omega
 have hlp : (0 : Int) < (len : Int) := by omega
 obtain ⟨p, hp⟩ : ∃ p : Nat, i % len = p := ⟨_, rfl⟩
 obtain ⟨q, hq⟩ : ∃ q : Nat, (i + 1) % len = q := ⟨_, rfl⟩
 obtain ⟨r, hr⟩ : ∃ r : Nat, i / len = r := ⟨_, rfl⟩
 have hpl : p < len := by rw [← hp]; exact Nat.mod_lt _ (by omega)
 have hql : q < len := by rw [← hq]; exact Nat.mod_lt _ (by omega)
 have hrl : r ≤ 1000000 := by rw [← hr]; exact Nat.le_trans (Nat.div_le_self _ _) hi
 have hp' : (i : Int) % (len : Int) = (p : Int) := by rw [← hp]; simp
 have hq' : ((i : Int) + 1) % (len : Int) = (q : Int) := by rw [← hq]; simp
 have hr' : (i : Int) / (len : Int) = (r : Int) := by rw [← hr]; simp
 clear hp hq hr
 obtain ⟨bb, off, rfl, x, hx, hc⟩ := HB.out p hpl
 obtain ⟨bb', off', he, y, hy, hd⟩ := HB.out q hql
 cases he
 have ip : (p : Int) < (len : Int) := by omega
 have iq : (q : Int) < (len : Int) := by omega
 go_enter Tryz.func5, Tryz.ntmps5
 go_wp2
 go_quiet (fail)
 go_wp2
 go_ret
 obtain ⟨f0, f1⟩ := HFin.out ((x : Int) * 31 + (y : Int) + (r : Int))
 have hb := below_drewN w nq
 exact ⟨(((x : Int) * 31 + (y : Int) + (r : Int)) % (n : Int)).toNat, ret_int (by omega), by omega, hb⟩
end Go.Proofs.YtaioffpkadmmhaaGreat.atAny
namespace Go.Proofs.YtaioffpkadmmhaaGreat.drawnMk
open Go Go.RowKit base heldStore drawn drawnLin drawnSrc
set_option linter.unusedVariables false
variable {P : Program} {ops : Array Oper} {Q : Exit → Act → World → Prop}
theorem region_calm {id : Nat} {a : Act} {w : World} (A : (Nat → Value) → Act) (s : Nat → Nat) (φ : Nat → Value → World → Prop) (W : World) (n : Nat) (u0 : Nat → Value) (ha : a = A u0)
  (hm : P.follows .mixedOrders = true) (hz : ops.size = n) (hup : upC ops = true) (hW : Below W.heap.size W w)
  (hput : ∀ i, i < n → ∀ u v, (A u).put (some (s i)) v = A (upd u (s i) v)) (hinj : ∀ i j, i < n → j < n → s i = s j → i = j)
  (stable : ∀ i v w w', Below w.heap.size w w' → φ i v w → φ i v w')
  (step : ∀ i, i < n → ∀ u w, Below W.heap.size W w → (∀ j, Region.waitsFor .any ops i j = true → φ j (u (s j)) w) → ∃ o, ops[i]? = some o ∧ ∀ K' : Act → World → Prop, Shut (∀ v w', Below w.heap.size w w' → φ i v w' → K' ((A u).put (some (s i)) v) w') → if Region.wanted o (yielded ops (A u).tmps) = true then Oper.wp P o (A u) w K' Q else K' ((A u).put o.dst undef) w)
  (fin : ∀ u w, Below W.heap.size W w → (∀ j, j < n → φ j (u (s j)) w) → Q .normal (A u) w) :
  (Code.region id ops true).wp P Q a w := by
 subst ha
 refine wp_region_any hm ?_
 rw [hz]
 refine any_free (s := fun i => some (s i)) (Inv := fun L u w8 => Below W.heap.size W w8 ∧ ∀ j, j < n → L j = true → φ j (u (s j)) w8) hz hup hput ?_ ?_ _ _ _ _ ?_ (by simp) ?_
 · intro i hi L u w8 hLi hwt hI
   obtain ⟨h1, h4⟩ := hI
   have lt : ∀ j, Region.waitsFor .any ops i j = true → j < i := fun j hj => by
    obtain ⟨oj, hoj, e, he, hb, hon⟩ := Region.waitsFor_spec hj
    have h5 := upC_spec hup hoj e he hb
    rw [hon] at h5
    exact h5
   obtain ⟨o, ho, h⟩ := step i hi u w8 h1 (fun j hj => h4 j (by have := lt j hj; omega) (hwt j hj))
   refine ⟨o, ho, fun K' hK => h K' fun v w' hc hv => hK.out v w' ⟨h1.trans (hc.mono h1.size), fun j hj hl => ?_⟩⟩
   simp only [updO]
   by_cases e : j = i
   · subst e; rw [upd_same]; exact hv
   · rw [come_ne e] at hl
     rw [upd_ne _ _ (fun e' => e (hinj j i hj hi e'))]
     exact stable j _ _ _ hc (h4 j hj hl)
 · intro L u w8 hall hI
   exact fin u w8 hI.1 (fun j hj => hI.2 j hj (hall j hj))
 · simp [falses_replicate]
 · have : (fun j => (Array.replicate n false).getD j false) = fun _ => false := by funext j; exact getD_replicate_false _ _
   rw [this]
   exact ⟨hW.drew, fun j _ h => (by cases h)⟩
end Go.Proofs.YtaioffpkadmmhaaGreat.drawnMk
namespace Go.Proofs.YtaioffpkadmmhaaGreat.hasLaw
open Go.RowKit Go.Deep Go base
set_option linter.unusedVariables false
set_option maxHeartbeats 800000 in
theorem has_yes (a : Option Addr) (len cap : Nat) (zs : List Int) (n : Int) (w : World) (hr : IntRow w a len zs) (hm : n ∈ zs) :
  Calls Tryz.prog 16 #[.slice a len cap, .int .i64 n] w fun e w' => e = .returned (.bool true) ∧ Below w.heap.size w w' := by
 have hmost := hr.most
 unfold maxLen at hmost
 have HR := hid hr
 have HMe : Hid (∃ i, i < len ∧ zs[i]?.getD 0 = n) := hid (by
  obtain ⟨i, hi, e⟩ := List.getElem_of_mem hm
  exact ⟨i, by rw [← hr.length]; exact hi, by rw [List.getElem?_eq_getElem hi]; exact e⟩)
 clear hr hm
 go_enter Tryz.func16, Tryz.ntmps16
 go_wp2
 go_loopw [5] (fun i wr => ∃ k : Nat, k ≤ len ∧ i = .int .i64 k ∧ (∀ j, j < k → zs[j]?.getD 0 ≠ n) ∧ Below w.heap.size w wr) (fun i _ => len - (intOf i).toNat)
 case atStart => exact ⟨0, Nat.zero_le _, rfl, fun j hj => absurd hj (Nat.not_lt_zero _), (by repeat (first | exact Below.refl _ _ | assumption | refine Below.drew ?_ | refine Below.alloc ?_ (by first | exact Nat.le_refl _ | omega | (simp; done) | (simp; omega)) _ | refine Below.setCell ?_ (by first | exact Nat.le_refl _ | omega | (simp; done) | (simp; omega)) _))⟩
 case round =>
  obtain ⟨k, hk, rfl, ha, hbel⟩ := hrel
  have HA := hid ha
  have HB := hid hbel
  clear ha
  by_cases hlt : k < len
  · obtain ⟨b, off, rfl, hc⟩ := (HR.out.below hbel).cell k hlt
    clear hbel
    obtain ⟨y, hy⟩ : ∃ y, zs[k]?.getD 0 = y := ⟨_, rfl⟩
    have HY := hid hy
    rw [hy] at hc
    clear hy
    by_cases hyn : y = n
    · have d1 : (y == n) = true := by simp [hyn]
      clear hyn
      go_wp2
      go_ret
      exact ⟨rfl, HB.out⟩
    · have d1 : (y == n) = false := by simp [hyn]
      have HA2 : Hid (∀ j, j < k + 1 → zs[j]?.getD 0 ≠ n) := hid (fun j hj => by
       by_cases e : j = k
       · subst e; rw [HY.out]; exact hyn
       · exact HA.out j (by omega))
      clear hyn
      go_wp2
      go_roundw
      case rel => exact ⟨k + 1, by omega, by go_num, HA2.out, HB.out⟩
      case measure => simp [intOf]; omega
  · exfalso
    obtain ⟨i, hi, e⟩ := HMe.out
    exact HA.out i (by omega) e
end Go.Proofs.YtaioffpkadmmhaaGreat.hasLaw
