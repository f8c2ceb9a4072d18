/- What the library tells and joins of slices of integers (Index, Contains, Grow of none, Concat), and whether literals in order have a variable and its opposite; conditions: lengths that fit. -/
import Derived.Test.YtiiigdcfnnjkcaaSorted
import Derived.Lib.AppendZerosOnto
import Derived.Laws.AppendOwnNone
namespace Go.Proofs.Ytiiigdcfnnjkcaa.concat
open Go.RowKit Go.Deep base copy cnf eval own order sorted

set_option maxHeartbeats 400000 in
theorem index_int (a : Option Addr) (len cap : Nat) (zs : List Int) (l : Int) (w : World) (hr : IntRow w a len zs) :
    Calls Try.prog 68 #[.slice a len cap, .int .i64 l] w fun e w' => ∃ r : Int, e = .returned (.int .i64 r) ∧ (0 ≤ r ↔ l ∈ zs) ∧ w' = w := by
  obtain ⟨hlen, hmost, hcell⟩ := hr
  unfold maxLen at hmost
  have HL := hid hlen
  have HC := hid hcell
  clear hlen hcell
  go_enter Try.func68, Try.ntmps68
  go_wp2
  go_loop [8] (fun i => ∃ k : Nat, k ≤ len ∧ i = .int .i64 k ∧ l ∉ zs.take k) (fun i => len - (intOf i).toNat)
  case atStart => exact ⟨0, Nat.zero_le _, rfl, by simp⟩
  case round =>
    obtain ⟨k, hk, rfl, ha⟩ := hrel
    have HA := hid ha
    clear ha
    by_cases hlt : k < len
    · obtain ⟨b, off, rfl, hc⟩ := HC.out k hlt
      by_cases he : zs[k]?.getD 0 = l
      · have hq : (l == zs[k]?.getD 0) = true := by simp [he]
        have HE := hid he
        clear he
        go_wp2
        go_ret
        exact ⟨k, rfl, ⟨fun _ => mem_at (by rw [HL.out]; exact hlt) HE.out, fun _ => by omega⟩, rfl⟩
      · have hq : (l == zs[k]?.getD 0) = false := by simp; exact fun h => he h.symm
        have HE := hid he
        clear he
        go_wp2
        go_round
        case rel => exact ⟨k + 1, by omega, by go_num, not_mem_succ (by rw [HL.out]; exact hlt) HA.out HE.out⟩
        case measure => simp [intOf]; omega
    · have e : k = len := by omega
      subst e
      go_wp2
      go_ret
      exact ⟨-1, rfl, by have := HA.out; rw [List.take_of_length_le (by rw [HL.out]; omega)] at this; exact ⟨fun h => absurd h (by decide), fun h => absurd h this⟩, rfl⟩

set_option maxHeartbeats 400000 in
theorem contains_int (a : Option Addr) (len cap : Nat) (zs : List Int) (l : Int) (w : World) (hr : IntRow w a len zs) :
    Calls Try.prog 45 #[.slice a len cap, .int .i64 l] w fun e w' => e = .returned (.bool (decide (l ∈ zs))) ∧ w' = w := by
  have HR := hid hr
  clear hr
  go_enter Try.func45, Try.ntmps45
  go_wp2_with fail
  refine (index_int a len cap zs l _ HR.out).mono ?_
  rintro e w' ⟨r, rfl, hd, rfl⟩
  have HD := hid hd
  clear hd
  go_wp2
  go_ret
  exact ⟨ret_bool (by rw [Bool.eq_iff_iff, decide_eq_true_eq, decide_eq_true_eq]; exact HD.out), rfl⟩

set_option maxHeartbeats 400000 in
theorem opposites_impl (a : Option Addr) (len cap : Nat) (zs : List Int) (w : World) (hr : IntRow w a len zs) (hz : ∀ i, i < len → -40 ≤ zs[i]?.getD 0 ∧ zs[i]?.getD 0 ≤ 40) :
    Calls Try.prog 32 #[.slice a len cap] w fun e w' => e = .returned (.bool (oppB zs)) ∧ ∃ q, w' = w.drewN q := by
  obtain ⟨hlen, hmost, hcell⟩ := hr
  unfold maxLen at hmost
  have HL := hid hlen
  have HC := hid hcell
  have HZ := hid hz
  clear hlen hcell hz
  go_enter Try.func32, Try.ntmps32
  go_wp2
  go_loopw [3] (fun i wr => ∃ k q : Nat, 1 ≤ k ∧ (k ≤ len ∨ k = 1) ∧ i = .int .i64 k ∧ oppTo zs k = false ∧ wr = w.drewN q) (fun i _ => len - (intOf i).toNat)
  case atStart => exact ⟨1, 0, Nat.le_refl _, .inr rfl, rfl, rfl, rfl⟩
  case round =>
    obtain ⟨k, q, h1, hk, rfl, ha, hw⟩ := hrel
    have HA := hid ha
    clear ha
    by_cases hlt : k < len
    · obtain ⟨m, hm1⟩ : ∃ m, k = m + 1 := ⟨k - 1, by omega⟩
      obtain ⟨b, off, rfl, hc0⟩ := HC.out k hlt
      obtain ⟨b', off', hab, hd0⟩ := HC.out m (by omega)
      cases hab
      have hc : wr.cell? ⟨b, off + k, none⟩ = some (.int .i64 (zs[k]?.getD 0)) := by rw [hw]; simpa using hc0
      have hd : wr.cell? ⟨b, off + m, none⟩ = some (.int .i64 (zs[m]?.getD 0)) := by rw [hw]; simpa using hd0
      obtain ⟨r0, r1⟩ := HZ.out k hlt
      have HS : Hid (oppTo zs (k + 1) = (oppTo zs k || decide (zs[m]?.getD 0 = -(zs[k]?.getD 0)))) := by
        show _ = _
        rw [hm1]; exact opp_succ zs m
      have HUp : Hid (oppTo zs (k + 1) = true → oppB zs = true) := fun h => opp_up (r := zs) (n := k + 1) (m := zs.length) (by rw [HL.out]; omega) h
      have HW := hid hw
      have ip : (k : Int) - 1 = (m : Int) := by omega
      have ip1 : (m : Int) < (len : Int) := by omega
      have ip2 : (k : Int) < (len : Int) := by omega
      have HM := hid hm1
      clear hw hc0 hd0 hm1
      generalize zs[k]?.getD 0 = y at *
      generalize zs[m]?.getD 0 = x at *
      by_cases he : x = -y
      · have hq : (x == -y) = true := by simp [he]
        have HE := hid he
        clear he
        go_wp2
        go_quiet (fail)
        go_wp2
        go_ret
        exact ⟨ret_bool (HUp.out (by rw [HS.out, decide_eq_true HE.out, Bool.or_true])).symm, q + nq, by rw [HW.out, World.drewN_drewN]⟩
      · have hq : (x == -y) = false := by simp [he]
        have HE := hid he
        clear he
        go_wp2
        go_quiet (fail)
        go_wp2
        go_roundw
        case rel => exact ⟨k + 1, q + nq, by omega, .inl (by omega), by go_num, by rw [HS.out, HA.out, decide_eq_false HE.out]; rfl, by rw [HW.out, World.drewN_drewN]⟩
        case measure => simp [intOf]; omega
    · have HF : Hid (oppB zs = false) := by
        show oppTo zs zs.length = false
        rw [HL.out]
        rcases hk with hk | hk
        · rw [show len = k by omega]; exact HA.out
        · subst hk
          rcases (show len = 0 ∨ len = 1 by omega) with rfl | rfl <;> rfl
      have HW := hid hw
      clear hw
      go_wp2
      go_ret
      exact ⟨ret_bool HF.out.symm, q, HW.out⟩
set_option maxHeartbeats 1600000 in
theorem grow_nil (n : Nat) (w : World) (hn : n ≤ 1048576) :
    Calls Try.prog 69 #[.slice none 0 0, .int .i64 n] w fun e w' => ∃ v, e = .returned v ∧ OwnInts w.heap.size w' v [] ∧ Below w.heap.size w w' := by
  by_cases h0 : n = 0
  · subst h0
    go_enter Try.func69, Try.ntmps69
    go_wp2
    go_ret
    exact ⟨_, rfl, OwnInts.nil _ _, Below.refl _ _⟩
  obtain ⟨i0, hi, hzz⟩ := Option.map_eq_some_iff.1 Try.info_int
  simp only [Prod.mk.injEq] at hzz
  obtain ⟨hz0, hz1, hz2⟩ := hzz
  have hG1 := grownCap_ge w n 0 3
  have hG2 := grownCap_le_maxLen w n 0 3 (by unfold maxLen; omega)
  have hrz : ∀ ty, (Builtin.append_ #[37, 3] ty #[.slice none 0 0, .int .i64 n]).run Try.prog w = .ok (.slice (some ⟨w.heap.size, 0, none⟩) n (grownCap w n 0 3)) (w.drew.alloc (.cells (#[] ++ Builtin.zeroCells (Value.int .i64 0).cells n ++ Builtin.zeroCells (Value.int .i64 0).cells (grownCap w n 0 3 - n)) 3)) := fun ty => by
    have h := Lib.run_append_grow_zeros w 37 3 ty 3 i0 (.int .i64 0) .i64 .i64 Try.underlying37 Try.underlying3 hi hz0 none 0 0 [] (run_firstCells_none w.drew i0.size 0 0 0) n (by omega) (by omega) (by omega) (by omega) (by rw [hz2]; omega) (by rw [hz2]; exact growslice_fits (by omega) (by omega))
    simpa using h
  have HZ2 := hid hz2
  clear hi hz0 hz1 hz2
  generalize grownCap w n 0 3 = G at *
  have hG3 : G ≤ 9223372036854775807 := by unfold maxLen at hG2; omega
  have HRz := hid hrz
  clear hrz
  go_enter Try.func69, Try.ntmps69
  go_wp2_with (at_builtin; refine Lib.wpList_append_run _ rfl _ _ _ _ rfl _ _ rfl rfl _ _ (HRz.out _) ?_)
  all_goals
    go_ret
    refine ⟨_, rfl, ⟨rfl, .inr ⟨w.heap.size, G, _, rfl, Nat.le_refl _, heap_alloc_new w.drew _, Nat.zero_le _, hG2, ?_, ?_⟩⟩, (Below.refl _ w).drew.alloc (Nat.le_refl _) _⟩
    · simp [size_zeroCells]; omega
    · simp
theorem flatten_succ {zss : List (List Int)} {k : Nat} (h : k < zss.length) : (zss.take (k + 1)).flatten = (zss.take k).flatten ++ zss[k]?.getD [] := by
  rw [List.take_succ_eq_append_getElem h, List.flatten_append, List.getElem?_eq_getElem h]; simp
theorem flatten_le {zss : List (List Int)} {n : Nat} (hl : ∀ zs ∈ zss, zs.length ≤ n) : zss.flatten.length ≤ zss.length * n := by
  induction zss with
  | nil => simp
  | cons z zss ih =>
    have h1 := hl z (List.mem_cons_self ..)
    have h2 := ih (fun zs h => hl zs (List.mem_cons_of_mem _ h))
    rw [List.flatten_cons, List.length_append, List.length_cons, Nat.add_mul]
    omega
theorem flatten_take_le {zss : List (List Int)} {k n : Nat} (hl : ∀ zs ∈ zss, zs.length ≤ n) : (zss.take k).flatten.length ≤ zss.length * n :=
  Nat.le_trans (flatten_le (fun zs h => hl zs (List.mem_of_mem_take h))) (Nat.mul_le_mul_right _ (List.length_take_le' ..))
/-- The cells of an owned slice of integers, to be appended. -/
theorem OwnInts.news {B : Nat} {w w1 : World} {g n c : Nat} {zs : List Int} (h : OwnInts B w (.slice (some ⟨g, 0, none⟩) n c) zs) (hb : Below w.heap.size w w1) : ∀ i u, (zs.map (Value.int .i64))[i]? = some u → w1.cell? ((⟨g, 0, none⟩ : Addr).add i) = some u := by
  obtain ⟨a, cap, e, hr⟩ := h.form
  cases e
  have := take_cells hr (Nat.le_refl _) hb
  rwa [List.take_of_length_le (Nat.le_refl _)] at this
set_option maxRecDepth 100000 in
set_option maxHeartbeats 1600000 in
theorem concat_int (N len : Nat) (zss : List (List Int)) (w : World) (hr : ∀ i, i < len → ∃ v, w.cell? ⟨N, i, none⟩ = some v ∧ OwnInts 0 w v (zss[i]?.getD [])) (hlen : zss.length = len) (hb : len ≤ 1024) (hl : ∀ zs ∈ zss, zs.length ≤ 1024) :
    Calls Try.prog 46 #[.slice (some ⟨N, 0, none⟩) len len] w fun e w' => ∃ v, e = .returned v ∧ OwnInts w.heap.size w' v zss.flatten ∧ Below w.heap.size w w' := by
  have HR := hid hr
  have HL := hid hlen
  have HLe := hid (fun k => flatten_take_le (k := k) hl)
  clear hr hlen hl
  obtain ⟨i0, hi, hzz⟩ := Option.map_eq_some_iff.1 Try.info_int
  simp only [Prod.mk.injEq] at hzz
  obtain ⟨hz0, hz1, hz2⟩ := hzz
  have HI := hid hi
  have HZ0 := hid hz0
  have HZ1 := hid hz1
  have HZ2 := hid hz2
  clear hi hz0 hz1 hz2
  go_enter Try.func46, Try.ntmps46
  go_wp2
  go_loop [11, 3] (fun i t => ∃ k : Nat, k ≤ len ∧ i = .int .i64 k ∧ t = .int .i64 ((zss.take k).flatten.length : Nat)) (fun i _ => len - (intOf i).toNat)
  case atStart => exact ⟨0, Nat.zero_le _, rfl, rfl⟩
  case round =>
    obtain ⟨k, hk, rfl, rfl⟩ := hrel
    have hs : (zss.take k).flatten.length ≤ 1048576 := by have := HLe.out k; rw [HL.out] at this; omega
    by_cases hlt : k < len
    · obtain ⟨v, hc, hown⟩ := HR.out k hlt
      obtain ⟨a', c', rfl, hrow⟩ := hown.form
      have HF := hid (flatten_succ (zss := zss) (k := k) (by rw [HL.out]; exact hlt))
      have hs2 : (zss.take k).flatten.length + (zss[k]?.getD []).length ≤ 1048576 := by
        have h2 := HLe.out (k + 1)
        rw [HF.out, List.length_append, HL.out] at h2
        omega
      clear hown hrow
      have HF2 : Hid ((zss.take (k + 1)).flatten.length = (zss.take k).flatten.length + (zss[k]?.getD []).length) := by show _ = _; rw [HF.out, List.length_append]
      generalize (zss.take k).flatten.length = S at *
      generalize (zss[k]?.getD []).length = l at *
      go_wp2
      go_round
      case rel => exact ⟨k + 1, by omega, by go_num, by rw [HF2.out]; rfl⟩
      case measure => simp [intOf]; omega
    · have e : k = len := by omega
      subst e
      have ht : zss.take k = zss := List.take_of_length_le (by rw [HL.out]; omega)
      rw [ht] at hs ⊢
      have HS : Hid (zss.flatten.length ≤ 1048576) := hs
      generalize zss.flatten.length = S at *
      go_wp2_with fail
      refine (grow_nil S _ hs).mono ?_
      rintro e w1 ⟨v1, rfl, hown1, hb1⟩
      have HO1 := hid hown1
      have HB1 := hid hb1
      clear hown1 hb1
      go_wp2
      go_loopw [27, 6] (fun i v wr => ∃ m : Nat, m ≤ k ∧ i = .int .i64 m ∧ OwnInts w.heap.size wr v (zss.take m).flatten ∧ Below w.heap.size w wr) (fun i _ _ => k - (intOf i).toNat)
      case atStart => exact ⟨0, Nat.zero_le _, rfl, HO1.out, HB1.out⟩
      case round =>
        rename_i v0
        obtain ⟨m, hm, rfl, hown, hbel⟩ := hrel
        have HO := hid hown
        have HB := hid hbel
        have HB0 := hid hbel.size
        by_cases hlt2 : m < k
        · obtain ⟨v, hc0, hown2⟩ := HR.out m hlt2
          have hc := keep hbel hc0
          have HF := hid (flatten_succ (zss := zss) (k := m) (by rw [HL.out]; exact hlt2))
          have hs2 : (zss.take m).flatten.length + (zss[m]?.getD []).length ≤ 1048576 := by
            have h2 := HLe.out (m + 1)
            rw [HF.out, List.length_append, HL.out] at h2
            omega
          obtain ⟨a', c', rfl, hrow⟩ := hown2.form
          have HO2 := hid hown2
          clear hc0 hown hbel hrow hown2
          rcases a' with _ | ad
          · have hc0 : c' = 0 ∧ (zss[m]?.getD []) = [] := by
              rcases HO2.out.2 with ⟨e, h0⟩ | ⟨g, cap, cur, e, _⟩
              · simp only [Value.slice.injEq] at e
                exact ⟨e.2.2, List.length_eq_zero_iff.1 h0⟩
              · simp only [Value.slice.injEq] at e
                exact absurd e.1 (by simp)
            obtain ⟨rfl, hnil⟩ := hc0
            rw [hnil, List.append_nil] at HF
            rw [hnil] at hc
            go_wp2_with (at_builtin; (refine wpList_append_own_none rfl _ _ 37 rfl w.heap.size 3 i0 1 Try.underlying37 HI.out _ _ _ rfl HO.out rfl ?_))
            go_roundw
            case rel => exact ⟨m + 1, by omega, by go_num, by rw [HF.out]; exact HO.out, HB.out⟩
            case measure => simp [intOf]; omega
          · obtain ⟨g, rfl⟩ : ∃ g, ad = ⟨g, 0, none⟩ := by
              rcases HO2.out.2 with ⟨e, h0⟩ | ⟨g, cap, cur, e, _⟩
              · simp only [Value.slice.injEq] at e
                exact absurd e.1 (by simp)
              · simp only [Value.slice.injEq, Option.some.injEq] at e
                exact ⟨g, e.1⟩
            have HNews := hid (OwnInts.news HO2.out HB.out)
            generalize hrow : zss[m]?.getD [] = row at *
            clear hrow
            go_wp2_with (at_builtin; (refine wpList_append_own _ rfl _ _ 37 rfl w.heap.size 3 i0 (.int .i64 0) 1 8 Try.underlying37 HI.out HZ0.out HZ1.out HZ2.out rfl (by decide) _ _ _ rfl HO.out ⟨g, 0, none⟩ row.length c' (row.map (.int .i64)) rfl (by rw [List.length_map]; omega) HNews.out (one_ints _) (by unfold maxLen; omega) (by omega) HB0.out ?_); intro v' w3 hown' hgrow3 hnil3)
            have HO3 : Hid (OwnInts w.heap.size w3 v' (zss.take (m + 1)).flatten) := by
              show OwnInts _ _ _ _
              rw [HF.out]
              unfold OwnInts
              rw [List.length_append, List.map_append]
              exact hown'
            have HB3 : Hid (Below w.heap.size w w3) := grown_below HO.out HB.out HB0.out hgrow3
            clear hown' hgrow3 hnil3
            go_wp2
            go_roundw
            case rel => exact ⟨m + 1, by omega, by go_num, HO3.out, HB3.out⟩
            case measure => simp [intOf]; omega
        · have e : m = k := by omega
          subst e
          have ht : zss.take m = zss := List.take_of_length_le (by rw [HL.out]; omega)
          rw [ht] at HO
          clear hown hbel ht
          go_wp2
          go_ret
          exact ⟨_, rfl, HO.out, HB.out⟩
end Go.Proofs.Ytiiigdcfnnjkcaa.concat
