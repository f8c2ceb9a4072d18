/- Of the specification: the code of what lies around a network; conditions: none. -/
import Derived.Test.YtmipoghemfopaaaGreatCandSem
import Derived.Test.YtmipoghemfopaaaGreatNetOKSpec
namespace Go.Proofs.YtmipoghemfopaaaGreat.candEnv
open Go.RowKit Go.Deep Go base copy names netSem netSpec netOKSpec nbSem routeRow candSem
set_option linter.unusedVariables false

def envC (ok : Bool) (el dl l3 l1 : Nat) (env : List Int) : Int := if 4096 < el ∨ 4096 < dl then 2 else if ok = false then 1 else if el ≠ l3 ∨ dl ≠ l1 then 5 else if allN (fun i => inB (zAt env i) 0 2) el = true then 0 else 5

set_option maxHeartbeats 3200000 in
theorem env_spec (p : Nat → Option Addr) (l c : Nat → Nat) (s : Ss) (g : R) (o e : List Int) (x f : R) (ea da : Option Addr) (el ec dl dc : Nat) (env : List Int) (w : World) (h : NetIs w p l s g o e x f) (hc0 : l 0 ≤ c 0) (hc1 : l 1 ≤ c 1) (he : IntRow w ea el env) (hdl : dl ≤ maxLen) :
    Calls Tryz.prog 21 #[netV p l c, .slice ea el ec, .slice da dl dc] w fun e' w' => e' = .returned (.int .i64 (envC (netB l s g o e x f) el dl (l 3) (l 1) env)) ∧ Below w.heap.size w w' := by
  have HN := hid h
  have HE := hid he
  have m3 := h.externals.most
  have m1 := h.links.most
  have me := he.most
  have K0 := hid hc0
  have K1 := hid hc1
  unfold maxLen at m1 m3 me hdl
  clear h he hc0 hc1
  have C1 : ∀ w8 : World, Below ((w.alloc (.cells #[.slice (p 0) (l 0) (c 0), .slice (p 1) (l 1) (c 1), .slice (p 2) (l 2) (c 2), .slice (p 3) (l 3) (c 3), .slice (p 4) (l 4) (c 4), .slice (p 5) (l 5) (c 5)] 29))).heap.size (w.alloc (.cells #[.slice (p 0) (l 0) (c 0), .slice (p 1) (l 1) (c 1), .slice (p 2) (l 2) (c 2), .slice (p 3) (l 3) (c 3), .slice (p 4) (l 4) (c 4), .slice (p 5) (l 5) (c 5)] 29)) w8 → (w8.cell? ⟨w.heap.size, 1, none⟩ = some (.slice (p 1) (l 1) (c 1)) ∧ w8.cell? ⟨w.heap.size, 3, none⟩ = some (.slice (p 3) (l 3) (c 3))) ∧ IntRow w8 ea el env ∧ Below w.heap.size w w8 :=
    fun w8 hb => ⟨⟨keep hb (by simp [go_sem]), keep hb (by simp [go_sem])⟩, (HE.out.below (by repeat (first | exact Below.refl _ _ | assumption | refine Below.drew ?_ | refine Below.alloc ?_ (by first | exact Nat.le_refl _ | omega | (simp; done) | (simp; omega)) _ | refine Below.setCell ?_ (by first | exact Nat.le_refl _ | omega | (simp; done) | (simp; omega)) _))).below hb, (show Below w.heap.size w _ from (by repeat (first | exact Below.refl _ _ | assumption | refine Below.drew ?_ | refine Below.alloc ?_ (by first | exact Nat.le_refl _ | omega | (simp; done) | (simp; omega)) _ | refine Below.setCell ?_ (by first | exact Nat.le_refl _ | omega | (simp; done) | (simp; omega)) _))).trans (hb.mono (by simp))⟩
  have HC1 := hid C1
  clear C1
  obtain ⟨ok, hok⟩ : ∃ b, netB l s g o e x f = b := ⟨_, rfl⟩
  have HOK := hid hok
  rw [hok]
  clear hok
  obtain ⟨C, hC⟩ : ∃ C, envC ok el dl (l 3) (l 1) env = C := ⟨_, rfl⟩
  have HC := hid hC
  rw [hC]
  clear hC
  unfold envC at HC
  unfold netV
  by_cases h1 : 4096 < el
  · have d1 : decide ((4096 : Int) < (el : Int)) = true := decide_eq_true (by omega)
    have e2 : C = 2 := by rw [← HC.out, if_pos (.inl h1)]
    subst e2
    go_enter Tryz.func21, Tryz.ntmps21
    go_wp2
    go_ret
    exact ⟨rfl, (by repeat (first | exact Below.refl _ _ | assumption | refine Below.drew ?_ | refine Below.alloc ?_ (by first | exact Nat.le_refl _ | omega | (simp; done) | (simp; omega)) _ | refine Below.setCell ?_ (by first | exact Nat.le_refl _ | omega | (simp; done) | (simp; omega)) _))⟩
  have d1 : decide ((4096 : Int) < (el : Int)) = false := decide_eq_false (by omega)
  by_cases h2 : 4096 < dl
  · have d2 : decide ((4096 : Int) < (dl : Int)) = true := decide_eq_true (by omega)
    have e2 : C = 2 := by rw [← HC.out, if_pos (.inr h2)]
    subst e2
    go_enter Tryz.func21, Tryz.ntmps21
    go_wp2
    go_ret
    exact ⟨rfl, (by repeat (first | exact Below.refl _ _ | assumption | refine Below.drew ?_ | refine Below.alloc ?_ (by first | exact Nat.le_refl _ | omega | (simp; done) | (simp; omega)) _ | refine Below.setCell ?_ (by first | exact Nat.le_refl _ | omega | (simp; done) | (simp; omega)) _))⟩
  have d2 : decide ((4096 : Int) < (dl : Int)) = false := decide_eq_false (by omega)
  rw [if_neg (by omega)] at HC
  go_enter Tryz.func21, Tryz.ntmps21
  go_wp2_with fail
  refine (netOK_spec p l c s g o e x f _ (HN.out.below (by repeat (first | exact Below.refl _ _ | assumption | refine Below.drew ?_ | refine Below.alloc ?_ (by first | exact Nat.le_refl _ | omega | (simp; done) | (simp; omega)) _ | refine Below.setCell ?_ (by first | exact Nat.le_refl _ | omega | (simp; done) | (simp; omega)) _))) K0.out K1.out).mono ?_
  rintro e' w1 ⟨rfl, hb1⟩
  rw [HOK.out]
  obtain ⟨⟨q1, q3⟩, hE1, hB⟩ := HC1.out _ hb1
  have E1 := hid hE1
  have B1 := hid hB
  have hs1 : w.heap.size < w1.heap.size := World.block_lt_of_cell? _ _ q1
  clear hb1 hE1 hB
  cases ok with
  | false =>
    have e2 : C = 1 := by rw [← HC.out, if_pos rfl]
    subst e2
    go_wp2
    go_ret
    exact ⟨rfl, B1.out⟩
  | true =>
  rw [if_neg (by decide)] at HC
  by_cases h3 : el = l 3
  · have d3 : ((el : Int) != (l 3 : Int)) = false := by simp [h3]
    by_cases h4 : dl = l 1
    · have d4 : ((dl : Int) != (l 1 : Int)) = false := by simp [h4]
      rw [if_neg (by simp [h3, h4])] at HC
      clear h3 h4
      go_wp2
      go_loopw [7] (fun i wr => ∃ k : Nat, k ≤ el ∧ i = .int .i64 k ∧ Below w1.heap.size w1 wr ∧ ∀ j, j < k → inB (zAt env j) 0 2 = true) (fun i _ => el - (intOf i).toNat)
      case atStart => exact ⟨0, Nat.zero_le _, rfl, Below.refl _ _, fun j hj => absurd hj (Nat.not_lt_zero _)⟩
      case round =>
        obtain ⟨k, hk, rfl, hb, ha⟩ := hrel
        have HB := hid hb
        have HA := hid ha
        clear hb ha
        by_cases hlt : k < el
        · obtain ⟨b, off, rfl, c0⟩ := (E1.out.below HB.out).cell k hlt
          have HZ : Hid (zAt env k = env[k]?.getD 0) := hid rfl
          generalize env[k]?.getD 0 = y at *
          obtain ⟨D, hD⟩ : ∃ D, inB y 0 2 = D := ⟨_, rfl⟩
          have HQ := hid hD
          go_wp2_with fail
          refine (in_spec _ _ _ _).mono ?_
          rintro e' w' ⟨rfl, hw'⟩
          have hw' := hw'.symm
          subst hw'
          rw [hD]
          clear hD
          cases D with
          | true =>
            go_wp2
            go_roundw
            case rel =>
              refine ⟨k + 1, by omega, by go_num, HB.out, fun j hj => ?_⟩
              by_cases e : j = k
              · subst e; rw [HZ.out]; exact HQ.out
              · exact HA.out j (by omega)
            case measure => simp [intOf]; omega
          | false =>
            have e2 : C = 5 := by
              rw [← HC.out, if_neg]
              rw [allN_false hlt (by show inB (zAt env k) 0 2 = false; rw [HZ.out]; exact HQ.out)]
              decide
            subst e2
            go_wp2
            go_ret
            exact ⟨rfl, B1.out.trans (HB.out.mono B1.out.size)⟩
        · have e : k = el := by omega
          subst e
          have e2 : C = 0 := by rw [← HC.out, if_pos (allN_of HA.out)]
          subst e2
          go_wp2
          go_ret
          exact ⟨rfl, B1.out.trans (HB.out.mono B1.out.size)⟩
    · have d4 : ((dl : Int) != (l 1 : Int)) = true := by simp; omega
      have e2 : C = 5 := by rw [← HC.out, if_pos (.inr h4)]
      subst e2
      clear h3 h4
      go_wp2
      go_ret
      exact ⟨rfl, B1.out⟩
  · have d3 : ((el : Int) != (l 3 : Int)) = true := by simp; omega
    have e2 : C = 5 := by rw [← HC.out, if_pos (.inl h3)]
    subst e2
    clear h3
    go_wp2
    go_ret
    exact ⟨rfl, B1.out⟩
end Go.Proofs.YtmipoghemfopaaaGreat.candEnv
