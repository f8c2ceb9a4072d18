/- The rows of words of lines, joined by the library; conditions: lengths that fit. -/
import Derived.Test.YtdphkbpjbcnbpaaDoorSpokenImpl
import Derived.Lib.AppendZerosOnto
import Derived.Laws.AppendOwnNone
namespace Go.Proofs.YtdphkbpjbcnbpaaDoor.concatW
open Go.RowKit Go.Deep base numbers words cuts stepRead readSem spokenImpl
set_option linter.unusedVariables false

set_option maxHeartbeats 1600000 in
theorem grow_nil (n : Nat) (w : World) (hn : n ≤ 1048576) :
    Calls Tryd.prog 36 #[.slice none 0 0, .int .i64 n] w fun e w' => ∃ v, e = .returned v ∧ w'.ownsRow w.heap.size 58 2 v 0 [] ∧ Below w.heap.size w w' := by
  by_cases h0 : n = 0
  · subst h0
    go_enter Tryd.func36, Tryd.ntmps36
    go_wp2
    go_ret
    exact ⟨_, rfl, World.ownsRow_nil _ _ _ _, Below.refl _ _⟩
  obtain ⟨i0, hi, hzz⟩ := Option.map_eq_some_iff.1 info_word
  simp only [Prod.mk.injEq] at hzz
  obtain ⟨hz0, hz1, hz2⟩ := hzz
  have hG1 := grownCap_ge w n 0 58
  have hG2 := grownCap_le_maxLen w n 0 58 (by unfold maxLen; omega)
  have hrz : ∀ ty, (Builtin.append_ #[53, 3] ty #[.slice none 0 0, .int .i64 n]).run Tryd.prog w = .ok (.slice (some ⟨w.heap.size, 0, none⟩) n (grownCap w n 0 58)) (w.drew.alloc (.cells (#[] ++ Builtin.zeroCells (Value.agg #[.string ⟨#[]⟩, .int .i64 0]).cells n ++ Builtin.zeroCells (Value.agg #[.string ⟨#[]⟩, .int .i64 0]).cells (grownCap w n 0 58 - n)) 58)) := fun ty => by
    have h := Lib.run_append_grow_zeros w 53 3 ty 58 i0 (.agg #[.string ⟨#[]⟩, .int .i64 0]) .i64 .i64 Tryd.underlying53 Tryd.underlying3 hi hz0 none 0 0 [] (run_firstCells_none w.drew i0.size 0 0 0) n (by omega) (by omega) (by omega) (by omega) (by rw [hz2]; omega) (by rw [hz2]; exact growslice_fits (by omega) (by omega))
    simpa using h
  have HZ2 := hid hz2
  clear hi hz0 hz1 hz2
  generalize grownCap w n 0 58 = G at *
  have hG3 : G ≤ 9223372036854775807 := by unfold maxLen at hG2; omega
  have HRz := hid hrz
  have HZC : Hid ((Value.agg #[.string ⟨#[]⟩, .int .i64 0]).cells.size = 2) := hid rfl
  clear hrz
  generalize (Value.agg #[.string ⟨#[]⟩, .int .i64 0]).cells = zc at *
  go_enter Tryd.func36, Tryd.ntmps36
  go_wp2_with (at_builtin; refine Lib.wpList_append_run _ rfl _ _ _ _ rfl _ _ rfl rfl _ _ (HRz.out _) ?_)
  all_goals
    go_ret
    refine ⟨_, rfl, ⟨rfl, .inr ⟨w.heap.size, G, _, rfl, Nat.le_refl _, heap_alloc_new w.drew _, Nat.zero_le _, hG2, ?_, ?_⟩⟩, (Below.refl _ w).drew.alloc (Nat.le_refl _) _⟩
    · have := HZC.out
      simp [size_zeroCells, this]; omega
    · simp
theorem add_none (b o i : Nat) : (⟨b, o, none⟩ : Addr).add i = ⟨b, o + i, none⟩ := by unfold Addr.add; split <;> simp_all
/-- A row of words: its value, how many, its cells. -/
abbrev Rw := Value × Nat × List Value
def rw0 : Rw := (undef, 0, [])
theorem sum_succ {rs : List Rw} {k : Nat} (h : k < rs.length) : ((rs.take (k + 1)).map fun r => r.2.1).sum = ((rs.take k).map fun r => r.2.1).sum + (rs[k]?.getD rw0).2.1 := by
  rw [List.take_succ_eq_append_getElem h, List.map_append, List.sum_append, List.getElem?_eq_getElem h]; simp
theorem cells_succ {rs : List Rw} {k : Nat} (h : k < rs.length) : (rs.take (k + 1)).flatMap (fun r => r.2.2) = (rs.take k).flatMap (fun r => r.2.2) ++ (rs[k]?.getD rw0).2.2 := by
  rw [List.take_succ_eq_append_getElem h, List.flatMap_append, List.getElem?_eq_getElem h]; simp
theorem sum_take_le (rs : List Rw) (k : Nat) : ((rs.take k).map fun r => r.2.1).sum ≤ (rs.map fun r => r.2.1).sum := by
  have h : (rs.map fun r => r.2.1).sum = ((rs.take k).map fun r => r.2.1).sum + ((rs.drop k).map fun r => r.2.1).sum := by
    rw [← List.sum_append, ← List.map_append, List.take_append_drop]
  omega
theorem grown_below {B t s n : Nat} {w w1 w2 : World} {v : Value} {xs : List Value} (h : w1.ownsRow B t s v n xs) (hb : Below B w w1) (hB : B ≤ w1.heap.size) (hg : w1.grownBy w2 v.ownBlock) : Below B w w2 :=
  hb.grown hg hB (fun k hk => (World.ownsRow.lt h k hk).1)
set_option maxRecDepth 100000 in
set_option maxHeartbeats 1600000 in
theorem concat_word (a : Option Addr) (len cap : Nat) (rs : List Rw) (w : World) (hc : ∀ i, i < len → ∃ b off, a = some ⟨b, off, none⟩ ∧ w.cell? ⟨b, off + i, none⟩ = some (rs[i]?.getD rw0).1)
    (hr : ∀ r ∈ rs, ∃ g c, r.1 = .slice (some ⟨g, 0, none⟩) r.2.1 c ∧ r.2.2.length = r.2.1 * 2 ∧ (∀ j u, r.2.2[j]? = some u → w.cell? ((⟨g, 0, none⟩ : Addr).add j) = some u) ∧ ∀ u ∈ r.2.2, u.oneCell' = true)
    (hlen : rs.length = len) (hsum : (rs.map fun r => r.2.1).sum ≤ 1048576) (hb : len ≤ 1048576) :
    Calls Tryd.prog 21 #[.slice a len cap] w fun e w' => ∃ v, e = .returned v ∧ w'.ownsRow w.heap.size 58 2 v (rs.map fun r => r.2.1).sum (rs.flatMap fun r => r.2.2) ∧ Below w.heap.size w w' := by
  have HC := hid hc
  have HR := hid hr
  have HL := hid hlen
  have HSm := hid hsum
  clear hc hr hlen hsum
  obtain ⟨i0, hi, hzz⟩ := Option.map_eq_some_iff.1 info_word
  simp only [Prod.mk.injEq] at hzz
  obtain ⟨hz0, hz1, hz2⟩ := hzz
  have HI := hid hi
  have HZ0 := hid hz0
  have HZ1 := hid hz1
  have HZ2 := hid hz2
  clear hi hz0 hz1 hz2
  have HRow : Hid (∀ k, k < len → ∃ g c, (rs[k]?.getD rw0).1 = .slice (some ⟨g, 0, none⟩) (rs[k]?.getD rw0).2.1 c ∧ (rs[k]?.getD rw0).2.2.length = (rs[k]?.getD rw0).2.1 * 2 ∧ (∀ j u, (rs[k]?.getD rw0).2.2[j]? = some u → w.cell? ((⟨g, 0, none⟩ : Addr).add j) = some u) ∧ ∀ u ∈ (rs[k]?.getD rw0).2.2, u.oneCell' = true) := hid (fun k hk => by
    have hk' : k < rs.length := by rw [HL.out]; exact hk
    rw [List.getElem?_eq_getElem hk']
    exact HR.out _ (List.getElem_mem hk'))
  clear HR
  go_enter Tryd.func21, Tryd.ntmps21
  go_wp2
  go_loop [11, 3] (fun i t => ∃ k : Nat, k ≤ len ∧ i = .int .i64 k ∧ t = .int .i64 (((rs.take k).map fun r => r.2.1).sum : Nat)) (fun i _ => len - (intOf i).toNat)
  case atStart => exact ⟨0, Nat.zero_le _, rfl, rfl⟩
  case round =>
    obtain ⟨k, hk, rfl, rfl⟩ := hrel
    have hs : ((rs.take k).map fun r => r.2.1).sum ≤ 1048576 := Nat.le_trans (sum_take_le rs k) HSm.out
    by_cases hlt : k < len
    · obtain ⟨b, off, rfl, hc⟩ := HC.out k hlt
      obtain ⟨g, c, hv, _⟩ := HRow.out k hlt
      rw [hv] at hc
      have HF := hid (sum_succ (rs := rs) (k := k) (by rw [HL.out]; exact hlt))
      have hs2 : ((rs.take k).map fun r => r.2.1).sum + (rs[k]?.getD rw0).2.1 ≤ 1048576 := by
        have h2 := Nat.le_trans (sum_take_le rs (k + 1)) HSm.out
        rw [HF.out] at h2
        exact h2
      clear hv
      generalize ((rs.take k).map fun r => r.2.1).sum = S at *
      generalize (rs[k]?.getD rw0).2.1 = l at *
      go_wp2
      go_round
      case rel => exact ⟨k + 1, by omega, by go_num, by rw [HF.out]; rfl⟩
      case measure => simp [intOf]; omega
    · have e : k = len := by omega
      subst e
      have ht : rs.take k = rs := List.take_of_length_le (by rw [HL.out]; omega)
      rw [ht] at hs ⊢
      have HS : Hid ((rs.map fun r => r.2.1).sum = (rs.map fun r => r.2.1).sum) := rfl
      obtain ⟨S, hS⟩ : ∃ S, (rs.map fun r => r.2.1).sum = S := ⟨_, rfl⟩
      rw [hS] at hs ⊢
      have HSe := hid hS
      clear hS HS
      go_wp2_with fail
      refine (grow_nil S _ hs).mono ?_
      rintro e w1 ⟨v1, rfl, hown1, hb1⟩
      have HO1 := hid hown1
      have HB1 := hid hb1
      clear hown1 hb1
      go_wp2
      go_loopw [27, 6] (fun i v wr => ∃ m : Nat, m ≤ k ∧ i = .int .i64 m ∧ wr.ownsRow w.heap.size 58 2 v ((rs.take m).map fun r => r.2.1).sum ((rs.take m).flatMap fun r => r.2.2) ∧ Below w.heap.size w wr) (fun i _ _ => k - (intOf i).toNat)
      case atStart => exact ⟨0, Nat.zero_le _, rfl, HO1.out, HB1.out⟩
      case round =>
        rename_i v0
        obtain ⟨m, hm, rfl, hown, hbel⟩ := hrel
        have HO := hid hown
        have HB := hid hbel
        have HB0 := hid hbel.size
        by_cases hlt2 : m < k
        · obtain ⟨b, off, rfl, hc0⟩ := HC.out m hlt2
          have hc := keep hbel hc0
          obtain ⟨g, c', hv, hln, hnews, hone⟩ := HRow.out m hlt2
          rw [hv] at hc
          have HF := hid (sum_succ (rs := rs) (k := m) (by rw [HL.out]; exact hlt2))
          have HG := hid (cells_succ (rs := rs) (k := m) (by rw [HL.out]; exact hlt2))
          have hs2 : ((rs.take m).map fun r => r.2.1).sum + (rs[m]?.getD rw0).2.1 ≤ 1048576 := by
            have h2 := Nat.le_trans (sum_take_le rs (m + 1)) HSm.out
            rw [HF.out] at h2
            exact h2
          have HNews : Hid (∀ j u, (rs[m]?.getD rw0).2.2[j]? = some u → wr.cell? ((⟨g, 0, none⟩ : Addr).add j) = some u) := hid (fun j u h => by
            have h9 := hnews j u h
            rw [add_none] at h9 ⊢
            exact keep hbel h9)
          have HOne := hid hone
          have HLn := hid hln
          clear hc0 hown hbel hv hnews hone hln
          generalize ((rs.take m).map fun r => r.2.1).sum = S0 at *
          generalize (rs[m]?.getD rw0).2.1 = l at *
          go_wp2_with (at_builtin; (refine wpList_append_own _ rfl _ _ 53 rfl w.heap.size 58 i0 (.agg #[.string ⟨#[]⟩, .int .i64 0]) 2 24 Tryd.underlying53 HI.out HZ0.out HZ1.out HZ2.out rfl (by decide) _ _ _ rfl HO.out ⟨g, 0, none⟩ l c' (rs[m]?.getD rw0).2.2 rfl HLn.out HNews.out HOne.out (by unfold maxLen; omega) (by omega) HB0.out ?_); intro v' w3 hown' hgrow3 hnil3)
          have HO3 : Hid (w3.ownsRow w.heap.size 58 2 v' ((rs.take (m + 1)).map fun r => r.2.1).sum ((rs.take (m + 1)).flatMap fun r => r.2.2)) := hid (by rw [HF.out, HG.out]; exact hown')
          have HB3 : Hid (Below w.heap.size w w3) := hid (grown_below HO.out HB.out HB0.out hgrow3)
          clear hown' hgrow3 hnil3
          go_wp2
          go_roundw
          case rel => exact ⟨m + 1, by omega, by go_num, HO3.out, HB3.out⟩
          case measure => simp [intOf]; omega
        · have e : m = k := by omega
          subst e
          have ht : rs.take m = rs := List.take_of_length_le (by rw [HL.out]; omega)
          rw [ht, HSe.out] at HO
          clear hown hbel ht
          go_wp2
          go_ret
          exact ⟨_, rfl, by rw [HSe.out]; exact HO.out, HB.out⟩
end Go.Proofs.YtdphkbpjbcnbpaaDoor.concatW
