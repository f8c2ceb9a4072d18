/- A copied formula's rows are its own and lie apart; sizes of formulas told by their sums; conditions: lengths that fit. -/
import Derived.Test.YtkbbhehmjnhiaaaDoorRowsOwn
import Derived.Test.YtkbbhehmjnhiaaaDoorCnf
namespace Go.Proofs.YtkbbhehmjnhiaaaDoor.copyOwn
open Go.RowKit Go.Deep base copy cnf rowsOwn
set_option linter.unusedVariables false

theorem own_lt {B g : Nat} {w : World} {v : Value} {zs : List Int} (h : OwnInts B w v zs) (hg : v.ownBlock = some g) : B ≤ g ∧ g < w.heap.size := World.ownsRow.lt h g hg
theorem own_of_row {B N len : Nat} {w : World} {zs : List Int} (h : w.rowIs N 3 len (fun i => .int .i64 (zs[i]?.getD 0))) (hl : zs.length = len) (hB : B ≤ N) (hm : len ≤ maxLen) : OwnInts B w (.slice (some ⟨N, 0, none⟩) len len) zs := by
  obtain ⟨c, hh, hs, hc⟩ := h
  subst hl
  refine ⟨by simp, .inr ⟨N, _, c, rfl, hB, hh, Nat.le_refl _, hm, by omega, ?_⟩⟩
  apply List.ext_getElem?
  intro i
  rw [List.getElem?_take, List.getElem?_map]
  split
  · rename_i hi
    have hi' : i < zs.length := by omega
    rw [Array.getElem?_toList, hc i hi']
    simp [List.getElem?_eq_getElem hi']
  · rename_i hi
    rw [List.getElem?_eq_none (by omega)]
    rfl
def copiedPs (N : Nat) (zss : List (List Int)) : List (Value × List Int) := (List.range zss.length).map fun i => (.slice (some ⟨N + 1 + i, 0, none⟩) (zss[i]?.getD []).length (zss[i]?.getD []).length, zss[i]?.getD [])
theorem copiedPs_snd (N : Nat) (zss : List (List Int)) : (copiedPs N zss).map (·.2) = zss := by
  unfold copiedPs
  rw [List.map_map]
  apply List.ext_getElem
  · simp
  · intro i h1 h2
    simp [List.getElem?_eq_getElem h2]
theorem copied_own {B N : Nat} {w : World} {zss : List (List Int)} (h : Copied w N zss) (hB : B ≤ N) (hm : zss.length ≤ maxLen) (hi : ∀ i, i < zss.length → (zss[i]?.getD []).length ≤ maxLen) :
    OwnRows B w (.slice (some ⟨N, 0, none⟩) zss.length zss.length) (copiedPs N zss) ∧ Lone (copiedPs N zss) := by
  have hlen : (copiedPs N zss).length = zss.length := by simp [copiedPs]
  refine ⟨⟨?_, fun p hp => ?_⟩, ?_⟩
  · obtain ⟨c, hh, hs, hc⟩ := h.outer
    refine ⟨by simp, .inr ⟨N, zss.length, c, by rw [hlen], hB, hh, by omega, hm, by omega, ?_⟩⟩
    apply List.ext_getElem?
    intro i
    rw [List.getElem?_take, List.getElem?_map, hlen]
    split
    · rename_i hi2
      have hi' : i < zss.length := by omega
      rw [Array.getElem?_toList, hc i hi']
      unfold copiedPs
      rw [List.getElem?_map, List.getElem?_range hi']
      rfl
    · rename_i hi2
      rw [List.getElem?_eq_none (by omega)]
      rfl
  · unfold copiedPs at hp
    obtain ⟨i, hir, rfl⟩ := List.mem_map.1 hp
    have hil : i < zss.length := List.mem_range.1 hir
    exact own_of_row (h.inner i hil) rfl (by omega) (hi i hil)
  · unfold Lone copiedPs
    rw [List.pairwise_map]
    refine List.pairwise_lt_range.imp fun {a b} hab g h1 h2 => ?_
    have e1 : some (N + 1 + a) = some g := h1
    have e2 : some (N + 1 + b) = some g := h2
    injection e1 with e1
    injection e2 with e2
    omega
theorem at_le : ∀ {ls : List Nat} {i : Nat}, i < ls.length → ls[i]?.getD 0 ≤ ls.sum
  | [], i, h => absurd h (Nat.not_lt_zero _)
  | l :: ls, 0, _ => by simp
  | l :: ls, i + 1, h => by
    have := at_le (ls := ls) (i := i) (by simpa using h)
    rw [List.getElem?_cons_succ, List.sum_cons]
    omega
set_option maxHeartbeats 400000 in
theorem szRows_sum (a : Option Addr) (len cap : Nat) (zss : List (List Int)) (left : Int) (w : World) (hr : IntRows w a len zss) (h0 : 0 ≤ left) (h1 : left ≤ 1048576) :
    Calls Tryd.prog 14 #[.slice a len cap, .int .i64 left] w fun e w' => ∃ r : Int, e = .returned (.int .i64 r) ∧ w' = w ∧ -1 ≤ r ∧ r ≤ left ∧ (0 ≤ r → (len : Int) + ((zss.map List.length).sum : Nat) ≤ left) := by
  obtain ⟨hlen, hmost, hcell⟩ := hr
  unfold maxLen at hmost
  have HC := hid hcell
  obtain ⟨ls, hls⟩ : ∃ ls, zss.map List.length = ls := ⟨_, rfl⟩
  rw [hls]
  have HLs := hid hls
  have HLn : Hid (ls.length = len) := by
    show _ = _
    rw [← hls, List.length_map, hlen]
  clear hcell hlen hls
  by_cases h : left < (len : Int)
  · go_enter Tryd.func14, Tryd.ntmps14
    go_wp2
    go_ret
    exact ⟨_, rfl, rfl, by omega, by omega, by omega⟩
  · go_enter Tryd.func14, Tryd.ntmps14
    go_wp2
    go_loop [5, 1] (fun i t => ∃ (k s : Nat) (l : Int), k ≤ len ∧ i = .int .i64 k ∧ t = .int .i64 l ∧ 0 ≤ l ∧ l + len + s ≤ left ∧ s = (ls.take k).sum) (fun i _ => len - (intOf i).toNat)
    case atStart => exact ⟨0, 0, left - len, Nat.zero_le _, rfl, rfl, by omega, by omega, by simp⟩
    case round =>
      obtain ⟨k, s, l, hk, rfl, rfl, hl0, hl1, hs⟩ := hrel
      have HS := hid hs
      clear hs
      by_cases hlt : k < len
      · obtain ⟨b, off, rfl, a', l', c', hc, hrow⟩ := HC.out k hlt
        have hlen' := hrow.length
        have hmost' := hrow.most
        have HL : Hid (ls[k]?.getD 0 = l') := by
          show _ = _
          rw [← HLs.out, List.getElem?_map, ← hlen']
          cases zss[k]? <;> rfl
        have HSum := hid (sum_succ (ls := ls) (k := k) (by rw [HLn.out]; exact hlt))
        clear hlen' hrow
        by_cases hs : l < (l' : Int)
        · go_wp2_with (go_at_call 30; refine (szIntS _ _ _ _ _ hmost' hl0 (by omega)).mono ?_; rintro e w' ⟨rfl, rfl⟩)
          go_ret
          exact ⟨_, rfl, rfl, by omega, by omega, by omega⟩
        · go_wp2_with (go_at_call 30; refine (szIntS _ _ _ _ _ hmost' hl0 (by omega)).mono ?_; rintro e w' ⟨rfl, rfl⟩)
          go_round
          case rel => exact ⟨k + 1, s + l', l - l', by omega, by go_num, by rw [if_neg (by omega)], by omega, by omega, by rw [HSum.out, ← HS.out, HL.out]⟩
          case measure => simp [intOf]; omega
      · have e : k = len := by omega
        subst e
        have HE : Hid (s = ls.sum) := by
          show _ = _
          rw [HS.out, List.take_of_length_le (by rw [HLn.out]; omega)]
        go_wp2
        go_ret
        refine ⟨l, rfl, rfl, by omega, by omega, fun _ => ?_⟩
        have := HE.out
        omega

set_option maxHeartbeats 400000 in
theorem szCnf_sum (vars : Int) (a : Option Addr) (len cap : Nat) (zss : List (List Int)) (left : Int) (w : World) (hr : IntRows w a len zss) (h0 : 0 ≤ left) (h1 : left ≤ 1048576) :
    Calls Tryd.prog 4 #[.agg #[.int .i64 vars, .slice a len cap], .int .i64 left] w fun e w' => ∃ r : Int, e = .returned (.int .i64 r) ∧ Below w.heap.size w w' ∧ -1 ≤ r ∧ r ≤ left ∧ (0 ≤ r → (len : Int) + ((zss.map List.length).sum : Nat) ≤ left) := by
  go_enter Tryd.func4, Tryd.ntmps4
  go_wp2_with fail
  refine (szRows_sum a len cap zss left _ ?_ h0 h1).mono ?_
  · exact hr.below (by repeat (first | exact Below.refl _ _ | assumption | refine Below.drew ?_ | refine Below.alloc ?_ (by first | exact Nat.le_refl _ | omega | (simp; done) | (simp; omega)) _ | refine Below.setCell ?_ (by first | exact Nat.le_refl _ | omega | (simp; done) | (simp; omega)) _))
  rintro e w1 ⟨r, rfl, rfl, hr1, hr2, hr3⟩
  have H3 := hid hr3
  clear hr3
  go_wp2
  · go_ret
    exact ⟨_, rfl, (by repeat (first | exact Below.refl _ _ | assumption | refine Below.drew ?_ | refine Below.alloc ?_ (by first | exact Nat.le_refl _ | omega | (simp; done) | (simp; omega)) _ | refine Below.setCell ?_ (by first | exact Nat.le_refl _ | omega | (simp; done) | (simp; omega)) _)), by omega, by omega, by omega⟩
  · go_ret
    exact ⟨r, rfl, (by repeat (first | exact Below.refl _ _ | assumption | refine Below.drew ?_ | refine Below.alloc ?_ (by first | exact Nat.le_refl _ | omega | (simp; done) | (simp; omega)) _ | refine Below.setCell ?_ (by first | exact Nat.le_refl _ | omega | (simp; done) | (simp; omega)) _)), by omega, by omega, H3.out⟩
theorem keepB {B : Nat} {w w1 : World} (hb : Below B w w1) {b o : Nat} {v : Value} (hlt : b < B) (h : w.cell? ⟨b, o, none⟩ = some v) : w1.cell? ⟨b, o, none⟩ = some v := by
  rw [hb.cell (p := ⟨b, o, none⟩) hlt]; exact h
theorem copied_lt {N : Nat} {w : World} {zss : List (List Int)} (h : Copied w N zss) : ∀ u ∈ (copiedPs N zss).map Prod.fst, ∀ g, u.ownBlock = some g → g < w.heap.size := fun u hu g hg => by
  obtain ⟨p, hp, rfl⟩ := List.mem_map.1 hu
  unfold copiedPs at hp
  obtain ⟨i, hir, rfl⟩ := List.mem_map.1 hp
  have hil : i < zss.length := List.mem_range.1 hir
  obtain ⟨c, hh, _⟩ := h.inner i hil
  have e : some (N + 1 + i) = some g := hg
  injection e with e
  rw [← e]
  exact (Array.getElem?_eq_some_iff.1 hh).1
theorem lens_copied (N : Nat) (zss : List (List Int)) : (copiedPs N zss).map (fun p => p.2.length) = zss.map List.length := by
  have h := copiedPs_snd N zss
  have : (copiedPs N zss).map (fun p => p.2.length) = ((copiedPs N zss).map (·.2)).map List.length := by rw [List.map_map]; rfl
  rw [this, h]
theorem copied_length (N : Nat) (zss : List (List Int)) : (copiedPs N zss).length = zss.length := by simp [copiedPs]
end Go.Proofs.YtkbbhehmjnhiaaaDoor.copyOwn
