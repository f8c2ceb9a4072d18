/- The laws' 'all': each literal of a list is true; conditions: literals of the values' variables. -/
import Derived.Test.YtkboijdcjechdaaDoorEval
import Derived.Deep.QuietTactic
import Derived.BigQuiet
namespace Go.Proofs.YtkboijdcjechdaaDoor.allLaw
open Go.RowKit Go.Deep base copy cnf eval
set_option maxHeartbeats 1600000 in
theorem all_laws (a av : Option Addr) (len cap lv cv : Nat) (zs : List Int) (vs : List Bool) (w : World) (hr : IntRow w a len zs) (hv : BoolRow w av lv vs) (hlit : ∀ i, i < len → litB lv (zs[i]?.getD 0) = true) (h40 : lv ≤ 40) :
    Calls Tryd.prog 11 #[.slice a len cap, .slice av lv cv] w fun e w' => e = .returned (.bool (zs.all (litT vs))) ∧ ∃ n, w' = w.drewN n := by
  obtain ⟨hlen, hmost, hcell⟩ := hr
  obtain ⟨hlenv, hmostv, hcellv⟩ := hv
  unfold maxLen at hmost hmostv
  have HL := hid hlen
  have HC := hid hcell
  have HV := hid hcellv
  have HI := hid hlit
  clear hlen hcell hcellv hlit hlenv
  go_enter Tryd.func11, Tryd.ntmps11
  go_wp2
  go_loopw [5] (fun i wr => ∃ k : Nat, k ≤ len ∧ i = .int .i64 k ∧ (zs.take k).all (litT vs) = true ∧ ∃ n, wr = w.drewN n) (fun i _ => len - (intOf i).toNat)
  case atStart => exact ⟨0, Nat.zero_le _, rfl, rfl, 0, rfl⟩
  case round =>
    obtain ⟨k, hk, rfl, ha, m, rfl⟩ := hrel
    have HA := hid ha
    clear ha
    by_cases hlt : k < len
    · obtain ⟨b, off, rfl, hc⟩ := HC.out k hlt
      obtain ⟨hne, hlo, hhi⟩ := litB_range (HI.out k hlt)
      have HT : Hid (litT vs (zs[k]?.getD 0) = true → (zs.take (k + 1)).all (litT vs) = true) := fun h => by rw [all_take_succ (d := 0) (by rw [HL.out]; omega), HA.out, h]; rfl
      have HF : Hid (litT vs (zs[k]?.getD 0) = false → zs.all (litT vs) = false) := fun h => all_false (d := 0) (by rw [HL.out]; omega) h
      generalize zs[k]?.getD 0 = l at *
      by_cases hpos : 0 < l
      · obtain ⟨bv, ov, rfl, hcv⟩ := HV.out (l.toNat - 1) (by omega)
        have ei : l = ((l.toNat - 1 : Nat) : Int) + 1 := by omega
        have HP := hid (litT_pos (vs := vs) hpos)
        generalize hj : l.toNat - 1 = j at *
        clear hj
        subst ei
        have hj2 : (j : Int) < (lv : Int) := by omega
        have hmx : max ((j : Int) + 1) (-((j : Int) + 1)) = (j : Int) + 1 := by omega
        cases hb : vs[j]?.getD false
        · rw [hb] at hcv HP
          go_wp2
          go_quiet (fail)
          go_wp2
          go_ret
          exact ⟨ret_bool (HF.out HP.out).symm, m + nq, by simp [World.drewN, Nat.add_assoc]⟩
        · rw [hb] at hcv HP
          go_wp2
          go_quiet (fail)
          go_wp2
          go_roundw
          case rel => exact ⟨k + 1, by omega, by go_num, HT.out HP.out, m + nq, rfl⟩
          case measure => simp [intOf]; omega
      · have hneg : l < 0 := by omega
        have d1 : decide (0 < l) = false := decide_eq_false hpos
        obtain ⟨bv, ov, rfl, hcv⟩ := HV.out ((-l).toNat - 1) (by omega)
        have HP := hid (litT_neg (vs := vs) hneg)
        have hmx : max l (-l) = -l := by omega
        cases hb : vs[(-l).toNat - 1]?.getD false
        · rw [hb] at hcv HP
          clear hb
          go_wp2
          go_quiet (fail)
          go_wp2
          go_roundw
          case rel => exact ⟨k + 1, by omega, by go_num, HT.out HP.out, m + nq, rfl⟩
          case measure => simp [intOf]; omega
        · rw [hb] at hcv HP
          clear hb
          go_wp2
          go_quiet (fail)
          go_wp2
          go_ret
          exact ⟨ret_bool (HF.out HP.out).symm, m + nq, by simp [World.drewN, Nat.add_assoc]⟩
    · have e : k = len := by omega
      subst e
      go_wp2
      go_ret
      exact ⟨ret_bool (by have := HA.out; rw [List.take_of_length_le (by rw [HL.out]; omega)] at this; exact this.symm), m, rfl⟩
end Go.Proofs.YtkboijdcjechdaaDoor.allLaw
