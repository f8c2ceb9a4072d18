/- What a normal form is, and that there is one alone; sizes of formulas told by their sums; conditions: lengths that fit. -/
import Derived.Test.YtiiigdcfnnjkcaaMarkCnf
import Derived.Test.YtiiigdcfnnjkcaaNormalGood
namespace Go.Proofs.Ytiiigdcfnnjkcaa.normOf
open Go.RowKit Go.Deep Go.Shelf base copy cnf eval own order sorted concat compare inOrder mark clauseOrder sortClauses compactClauses rises normal markRows copiedRows markCnf normalSpec normalGood

/-- The answer to a formula: its variables, its code, its clauses. -/
def NormOf (vars : Int) (zss : List (List Int)) (R C : Int) (L : List (List Int)) : Prop :=
  (cnfB vars zss = false ∧ R = 0 ∧ C = 1 ∧ L = []) ∨ (cnfB vars zss = true ∧ R = vars ∧ C = 0 ∧ (L.Pairwise fun p q => cmpL p q < 0) ∧ ∀ z, z ∈ L ↔ z ∈ kept zss)
theorem NormOf.uniq {vars : Int} {zss : List (List Int)} {R C R' C' : Int} {L L' : List (List Int)} (h : NormOf vars zss R C L) (h' : NormOf vars zss R' C' L') : R' = R ∧ C' = C ∧ L' = L := by
  rcases h with ⟨h0, rfl, rfl, rfl⟩ | ⟨h0, rfl, rfl, h1, h2⟩
  · rcases h' with ⟨_, rfl, rfl, rfl⟩ | ⟨h, _⟩
    · exact ⟨rfl, rfl, rfl⟩
    · rw [h0] at h; cases h
  · rcases h' with ⟨h, _⟩ | ⟨_, rfl, rfl, h3, h4⟩
    · rw [h0] at h; cases h
    · exact ⟨rfl, rfl, rises_uniq (R := fun a b => cmpL a b < 0) cmp_asym h3 h1 fun x => by rw [h4, h2]⟩
theorem cmp_self (a : List Int) : ¬ cmpL a a < 0 := fun h => cmp_asym _ _ h h
theorem len_le : ∀ {L K : List (List Int)}, (L.Pairwise fun p q => cmpL p q < 0) → (∀ z ∈ L, z ∈ K) → L.length ≤ K.length
  | [], K, _, _ => Nat.zero_le _
  | x :: L, K, h, hm => by
    obtain ⟨h1, h2⟩ := List.pairwise_cons.1 h
    have hx : x ∈ K := hm x (by simp)
    have h3 : L.length ≤ (K.erase x).length := len_le h2 fun z hz => by
      have hne : z ≠ x := fun e => cmp_self x (e ▸ h1 z hz)
      exact (List.mem_erase_of_ne hne).2 (hm z (by simp [hz]))
    rw [List.length_erase_of_mem hx] at h3
    have : 0 < K.length := List.length_pos_of_mem hx
    rw [List.length_cons]
    omega
theorem sum_most {n : Nat} : ∀ {L : List (List Int)}, (∀ z ∈ L, z.length ≤ n) → (L.map List.length).sum ≤ L.length * n
  | [], _ => by simp
  | x :: L, h => by
    rw [List.map_cons, List.sum_cons, List.length_cons, Nat.succ_mul]
    have h1 := h x (by simp)
    have h2 := sum_most (n := n) (L := L) fun z hz => h z (by simp [hz])
    omega
theorem NormOf.sizes {vars : Int} {zss : List (List Int)} {R C : Int} {L : List (List Int)} (h : NormOf vars zss R C L) : L.length ≤ 300 ∧ (L.map List.length).sum ≤ 3600 := by
  rcases h with ⟨_, _, _, rfl⟩ | ⟨h0, _, _, h1, h2⟩
  · simp
  · have hl := cnf_vars h0
    have hk : (kept zss).length ≤ 300 := by
      unfold kept
      refine Nat.le_trans (List.length_filter_le _ _) ?_
      rw [List.length_map]
      exact hl.2.2
    have h3 : L.length ≤ 300 := Nat.le_trans (len_le h1 fun z hz => (h2 z).1 hz) hk
    have h4 := sum_most (n := 12) (L := L) fun z hz => by
      have h5 := (h2 z).1 hz
      unfold kept at h5
      obtain ⟨ys, hys, e⟩ := List.mem_map.1 (List.mem_filter.1 h5).1
      obtain ⟨i, hi, e'⟩ := List.mem_iff_getElem.1 hys
      have h6 := cnf_clause h0 i hi
      rw [List.getElem?_eq_getElem hi, Option.getD_some, e'] at h6
      simp only [clauseB, Bool.and_eq_true, decide_eq_true_eq] at h6
      rw [← e]
      exact Nat.le_trans (ord_length ys) h6.1
    exact ⟨h3, by omega⟩
theorem own_form {B : Nat} {w : World} {v : Value} {ps : List (Value × List Int)} (h : OwnRows B w v ps) : ∃ p c, v = .slice p ps.length c := by
  rcases h.outer.2 with ⟨e, h0⟩ | ⟨g, c, cur, e, _⟩
  · exact ⟨none, 0, by rw [e, h0]⟩
  · exact ⟨_, _, e⟩

theorem norm_spec (vars : Int) (a : Option Addr) (len cap : Nat) (zss : List (List Int)) (w : World) (hr : IntRows w a len zss) :
    Calls Try.prog 9 #[.agg #[.int .i64 vars, .slice a len cap]] w fun e w' =>
      ∃ R C p n c ps, e = .returned (.tuple #[.agg #[.int .i64 R, .slice p n c], .int .i64 C]) ∧ OwnRows w.heap.size w' (.slice p n c) ps ∧ NormOf vars zss R C (ps.map (·.2)) ∧ Below w.heap.size w w' := by
  cases hB : cnfB vars zss
  · refine (normal_spec_bad vars a len cap zss w hr hB).mono ?_
    rintro e w' ⟨rfl, hb⟩
    exact ⟨0, 1, none, 0, 0, [], rfl, OwnRows.nil _ _, .inl ⟨hB, rfl, rfl, rfl⟩, hb⟩
  · refine (normal_spec_good vars a len cap zss w hr hB).mono ?_
    rintro e w' ⟨v, qs, rfl, ho, h1, h2, hb⟩
    obtain ⟨p, c, rfl⟩ := own_form ho
    exact ⟨vars, 0, p, _, c, qs, rfl, ho, .inr ⟨hB, rfl, rfl, h1, h2⟩, hb⟩

theorem norm_impl (vars : Int) (a : Option Addr) (len cap : Nat) (zss : List (List Int)) (w : World) (hr : IntRows w a len zss) (hnc : NilCap w a len) :
    Calls Try.prog 8 #[.agg #[.int .i64 vars, .slice a len cap]] w fun e w' =>
      ∃ R C p n c ps, e = .returned (.tuple #[.agg #[.int .i64 R, .slice p n c], .int .i64 C]) ∧ OwnRows w.heap.size w' (.slice p n c) ps ∧ NormOf vars zss R C (ps.map (·.2)) ∧ Lone ps ∧ Below w.heap.size w w' := by
  refine (normal_impl vars a len cap zss w hr hnc).mono ?_
  rintro e w' (⟨hB, rfl, hb⟩ | ⟨hB, v, qs, rfl, ho, h1, h2, h3, hb⟩)
  · exact ⟨0, 1, none, 0, 0, [], rfl, OwnRows.nil _ _, .inl ⟨hB, rfl, rfl, rfl⟩, List.Pairwise.nil, hb⟩
  · obtain ⟨p, c, rfl⟩ := own_form ho
    exact ⟨vars, 0, p, _, c, qs, rfl, ho, .inr ⟨hB, rfl, rfl, List.pairwise_map.2 h1, h2⟩, h3, hb⟩

theorem at_le : ∀ {ls : List Nat} {i : Nat}, i < ls.length → ls[i]?.getD 0 ≤ ls.sum
  | [], i, h => absurd h (Nat.not_lt_zero _)
  | l :: ls, 0, _ => by simp
  | l :: ls, i + 1, h => by
    have := at_le (ls := ls) (i := i) (by simpa using h)
    rw [List.getElem?_cons_succ, List.sum_cons]
    omega
set_option maxHeartbeats 400000 in
theorem szRows_sum (a : Option Addr) (len cap : Nat) (zss : List (List Int)) (left : Int) (w : World) (hr : IntRows w a len zss) (h0 : 0 ≤ left) (h1 : left ≤ 1048576) :
    Calls Try.prog 52 #[.slice a len cap, .int .i64 left] w fun e w' => ∃ r : Int, e = .returned (.int .i64 r) ∧ w' = w ∧ -1 ≤ r ∧ r ≤ left ∧ (0 ≤ r → (len : Int) + ((zss.map List.length).sum : Nat) ≤ left) := by
  obtain ⟨hlen, hmost, hcell⟩ := hr
  unfold maxLen at hmost
  have HC := hid hcell
  obtain ⟨ls, hls⟩ : ∃ ls, zss.map List.length = ls := ⟨_, rfl⟩
  rw [hls]
  have HLs := hid hls
  have HLn : Hid (ls.length = len) := by
    show _ = _
    rw [← hls, List.length_map, hlen]
  clear hcell hlen hls
  by_cases h : left < (len : Int)
  · go_enter Try.func52, Try.ntmps52
    go_wp2
    go_ret
    exact ⟨_, rfl, rfl, by omega, by omega, by omega⟩
  · go_enter Try.func52, Try.ntmps52
    go_wp2
    go_loop [5, 1] (fun i t => ∃ (k s : Nat) (l : Int), k ≤ len ∧ i = .int .i64 k ∧ t = .int .i64 l ∧ 0 ≤ l ∧ l + len + s ≤ left ∧ s = (ls.take k).sum) (fun i _ => len - (intOf i).toNat)
    case atStart => exact ⟨0, 0, left - len, Nat.zero_le _, rfl, rfl, by omega, by omega, by simp⟩
    case round =>
      obtain ⟨k, s, l, hk, rfl, rfl, hl0, hl1, hs⟩ := hrel
      have HS := hid hs
      clear hs
      by_cases hlt : k < len
      · obtain ⟨b, off, rfl, a', l', c', hc, hrow⟩ := HC.out k hlt
        have hlen' := hrow.length
        have hmost' := hrow.most
        have HL : Hid (ls[k]?.getD 0 = l') := by
          show _ = _
          rw [← HLs.out, List.getElem?_map, ← hlen']
          cases zss[k]? <;> rfl
        have HSum := hid (sum_succ (ls := ls) (k := k) (by rw [HLn.out]; exact hlt))
        clear hlen' hrow
        by_cases hs : l < (l' : Int)
        · go_wp2_with (go_at_call 71; refine (szIntS _ _ _ _ _ hmost' hl0 (by omega)).mono ?_; rintro e w' ⟨rfl, rfl⟩)
          go_ret
          exact ⟨_, rfl, rfl, by omega, by omega, by omega⟩
        · go_wp2_with (go_at_call 71; refine (szIntS _ _ _ _ _ hmost' hl0 (by omega)).mono ?_; rintro e w' ⟨rfl, rfl⟩)
          go_round
          case rel => exact ⟨k + 1, s + l', l - l', by omega, by go_num, by rw [if_neg (by omega)], by omega, by omega, by rw [HSum.out, ← HS.out, HL.out]⟩
          case measure => simp [intOf]; omega
      · have e : k = len := by omega
        subst e
        have HE : Hid (s = ls.sum) := by
          show _ = _
          rw [HS.out, List.take_of_length_le (by rw [HLn.out]; omega)]
        go_wp2
        go_ret
        refine ⟨l, rfl, rfl, by omega, by omega, fun _ => ?_⟩
        have := HE.out
        omega

set_option maxHeartbeats 400000 in
theorem szCnf_sum (vars : Int) (a : Option Addr) (len cap : Nat) (zss : List (List Int)) (left : Int) (w : World) (hr : IntRows w a len zss) (h0 : 0 ≤ left) (h1 : left ≤ 1048576) :
    Calls Try.prog 19 #[.agg #[.int .i64 vars, .slice a len cap], .int .i64 left] w fun e w' => ∃ r : Int, e = .returned (.int .i64 r) ∧ Below w.heap.size w w' ∧ -1 ≤ r ∧ r ≤ left ∧ (0 ≤ r → (len : Int) + ((zss.map List.length).sum : Nat) ≤ left) := by
  go_enter Try.func19, Try.ntmps19
  go_wp2_with fail
  refine (szRows_sum a len cap zss left _ ?_ h0 h1).mono ?_
  · exact hr.below (by repeat (first | exact Below.refl _ _ | assumption | refine Below.drew ?_ | refine Below.alloc ?_ (by first | exact Nat.le_refl _ | omega | (simp; done) | (simp; omega)) _ | refine Below.setCell ?_ (by first | exact Nat.le_refl _ | omega | (simp; done) | (simp; omega)) _))
  rintro e w1 ⟨r, rfl, rfl, hr1, hr2, hr3⟩
  have H3 := hid hr3
  clear hr3
  go_wp2
  · go_ret
    exact ⟨_, rfl, (by repeat (first | exact Below.refl _ _ | assumption | refine Below.drew ?_ | refine Below.alloc ?_ (by first | exact Nat.le_refl _ | omega | (simp; done) | (simp; omega)) _ | refine Below.setCell ?_ (by first | exact Nat.le_refl _ | omega | (simp; done) | (simp; omega)) _)), by omega, by omega, by omega⟩
  · go_ret
    exact ⟨r, rfl, (by repeat (first | exact Below.refl _ _ | assumption | refine Below.drew ?_ | refine Below.alloc ?_ (by first | exact Nat.le_refl _ | omega | (simp; done) | (simp; omega)) _ | refine Below.setCell ?_ (by first | exact Nat.le_refl _ | omega | (simp; done) | (simp; omega)) _)), by omega, by omega, H3.out⟩
end Go.Proofs.Ytiiigdcfnnjkcaa.normOf
