/- A normal form has the values that the formula has, and put in order again it is itself; formulas drawn out of a code; two formulas that are the same; conditions: lengths that fit. -/
import Derived.Test.YtiiigdcfnnjkcaaCnfOf
import Derived.Test.YtiiigdcfnnjkcaaDraws
namespace Go.Proofs.Ytiiigdcfnnjkcaa.normalMath
open Go.RowKit Go.Deep Go.Shelf base copy cnf eval own order sorted concat compare inOrder mark source clauseOf draws clauseOrder sortClauses compactClauses rises normal markRows copiedRows normOf cnfOf

theorem opp_two {r : List Int} : ∀ {n : Nat}, n ≤ r.length → oppTo r n = true → ∃ x y, x ∈ r ∧ y ∈ r ∧ x = -y
  | 0, _, h => by cases h
  | n + 1, hn, h => by
    unfold oppTo at h
    rcases Bool.or_eq_true _ _ ▸ h with h | h
    · exact opp_two (n := n) (by omega) h
    · simp only [Bool.and_eq_true, decide_eq_true_eq] at h
      obtain ⟨h1, h2⟩ := h
      rw [List.getElem?_eq_getElem (show n - 1 < r.length by omega), List.getElem?_eq_getElem (show n < r.length by omega)] at h2
      exact ⟨r[n - 1], r[n], List.getElem_mem _, List.getElem_mem _, h2⟩
theorem lit_opp {vs : List Bool} {y : Int} (h : y ≠ 0) : litT vs (-y) = !litT vs y := by
  unfold litT
  rw [Int.natAbs_neg]
  rcases Int.lt_or_lt_of_ne h with h | h
  · rw [decide_eq_true (show 0 < -y by omega), decide_eq_false (show ¬ 0 < y by omega)]
    cases vs[y.natAbs - 1]?.getD false <;> rfl
  · rw [decide_eq_false (show ¬ 0 < -y by omega), decide_eq_true (show 0 < y by omega)]
    cases vs[y.natAbs - 1]?.getD false <;> rfl
theorem clause_ord (vs : List Bool) (zs : List Int) : clauseT vs (ord zs) = clauseT vs zs := by
  unfold clauseT
  rw [Bool.eq_iff_iff, List.any_eq_true, List.any_eq_true]
  exact ⟨fun ⟨x, h, t⟩ => ⟨x, ((ord_rises zs).2 x).1 h, t⟩, fun ⟨x, h, t⟩ => ⟨x, ((ord_rises zs).2 x).2 h, t⟩⟩
theorem clause_opp {vs : List Bool} {zs : List Int} (hz : ∀ z ∈ zs, z ≠ 0) (h : oppB (ord zs) = true) : clauseT vs zs = true := by
  obtain ⟨x, y, hx, hy, e⟩ := opp_two (Nat.le_refl _) h
  have hx' := ((ord_rises zs).2 x).1 hx
  have hy' := ((ord_rises zs).2 y).1 hy
  unfold clauseT
  rw [List.any_eq_true]
  cases ht : litT vs y
  · exact ⟨x, hx', by rw [e, lit_opp (hz y hy'), ht]; rfl⟩
  · exact ⟨y, hy', ht⟩
theorem cnf_lit {vars : Int} {zss : List (List Int)} (h : cnfB vars zss = true) : ∀ zs ∈ zss, clauseB vars zs = true := fun zs hz => by
  obtain ⟨i, hi, e⟩ := List.mem_iff_getElem.1 hz
  have h1 := cnf_clause h i hi
  rw [List.getElem?_eq_getElem hi, Option.getD_some, e] at h1
  exact h1
theorem clause_lits {vars : Int} {zs : List Int} (h : clauseB vars zs = true) : zs.length ≤ 12 ∧ ∀ z ∈ zs, litB vars z = true := by
  simp only [clauseB, Bool.and_eq_true, List.all_eq_true, decide_eq_true_eq] at h
  exact h
/-- The values that make a formula true are those that make its normal form true. -/
theorem norm_true {vars : Int} {zss L : List (List Int)} (vs : List Bool) (h : cnfB vars zss = true) (hm : ∀ z, z ∈ L ↔ z ∈ kept zss) : cnfT vs L = cnfT vs zss := by
  unfold cnfT
  rw [Bool.eq_iff_iff, List.all_eq_true, List.all_eq_true]
  constructor
  · intro hL zs hz
    cases ho : oppB (ord zs)
    · have : ord zs ∈ L := (hm _).2 (List.mem_filter.2 ⟨List.mem_map.2 ⟨zs, hz, rfl⟩, by rw [ho]; rfl⟩)
      rw [← clause_ord]
      exact hL _ this
    · exact clause_opp (fun z hzz => (litB_range ((clause_lits (cnf_lit h zs hz)).2 z hzz)).1) ho
  · intro hz z hzL
    obtain ⟨zs, hzs, e⟩ := List.mem_map.1 (List.mem_filter.1 ((hm z).1 hzL)).1
    rw [← e, clause_ord]
    exact hz zs hzs
theorem ord_ord (zs : List Int) : ord (ord zs) = ord zs := ord_eq (ord_rises zs).1 (fun x => by rw [(ord_rises zs).2 x])
theorem norm_ok {vars : Int} {zss L : List (List Int)} (h : cnfB vars zss = true) (hp : L.Pairwise fun p q => cmpL p q < 0) (hm : ∀ z, z ∈ L ↔ z ∈ kept zss) : cnfB vars L = true := by
  have hl := cnf_vars h
  have hk : L.length ≤ 300 := (NormOf.sizes (.inr ⟨h, rfl, rfl, hp, hm⟩)).1
  unfold cnfB
  rw [decide_eq_true ⟨hl.1, hl.2.1, hk⟩, Bool.true_and, List.all_eq_true]
  intro z hz
  obtain ⟨zs, hzs, e⟩ := List.mem_map.1 (List.mem_filter.1 ((hm z).1 hz)).1
  obtain ⟨h1, h2⟩ := clause_lits (cnf_lit h zs hzs)
  unfold clauseB
  rw [← e, decide_eq_true (Nat.le_trans (ord_length zs) h1), Bool.true_and, List.all_eq_true]
  exact fun x hx => h2 x (((ord_rises zs).2 x).1 hx)
/-- Put in order again it is itself. -/
theorem norm_again {vars : Int} {zss L : List (List Int)} (h : cnfB vars zss = true) (hp : L.Pairwise fun p q => cmpL p q < 0) (hm : ∀ z, z ∈ L ↔ z ∈ kept zss) : NormOf vars L vars 0 L := by
  refine .inr ⟨norm_ok h hp hm, rfl, rfl, hp, fun z => ?_⟩
  have hL : ∀ y ∈ L, ord y = y ∧ oppB y = false := fun y hy => by
    obtain ⟨h1, h2⟩ := List.mem_filter.1 ((hm y).1 hy)
    obtain ⟨ys, _, e⟩ := List.mem_map.1 h1
    exact ⟨by rw [← e, ord_ord], by simpa using h2⟩
  constructor
  · intro hz
    obtain ⟨e1, e2⟩ := hL z hz
    exact List.mem_filter.2 ⟨List.mem_map.2 ⟨z, hz, e1⟩, by rw [e2]; rfl⟩
  · intro hz
    obtain ⟨y, hy, e⟩ := List.mem_map.1 (List.mem_filter.1 hz).1
    rw [← e, (hL y hy).1]
    exact hy

set_option maxHeartbeats 400000 in
theorem cnfOf_spec (a : Option Addr) (len cap : Nat) (w : World) (hb : Bytes w a len) (hl : len ≤ 1048576) :
    Calls Try.prog 7 #[.slice a len cap] w fun e w' => ∃ vars p n c ps, e = .returned (.agg #[.int .i64 vars, .slice p n c]) ∧ 1 ≤ vars ∧ vars ≤ 6 ∧ OwnRows w.heap.size w' (.slice p n c) ps ∧ cnfB vars (ps.map (·.2)) = true ∧ Below w.heap.size w w' := by
  have HB := hid hb
  clear hb
  go_enter Try.func7, Try.ntmps7
  go_wp2_with fail
  refine (source_spec a len cap _ ?_ hl).mono ?_
  · exact fun i hi => by
      obtain ⟨bb, off, e, x, hx, hc⟩ := HB.out i hi
      exact ⟨bb, off, e, x, hx, keep (by repeat (first | exact Below.refl _ _ | assumption | refine Below.drew ?_ | refine Below.alloc ?_ (by first | exact Nat.le_refl _ | omega | (simp; done) | (simp; omega)) _ | refine Below.setCell ?_ (by first | exact Nat.le_refl _ | omega | (simp; done) | (simp; omega)) _)) hc⟩
  rintro e w1 ⟨b, rfl, hbe, hbl, hs1, hb1⟩
  have q0 : w1.cell? ⟨w.heap.size, 0, none⟩ = some (.int .i64 0) := keep hb1 (by simp [go_sem])
  have q1 : w1.cell? ⟨w.heap.size, 1, none⟩ = some (.slice none 0 0) := keep hb1 (by simp [go_sem])
  have q2 : w1.frozen? ⟨w.heap.size, 0, none⟩ = false := by rw [hb1.frozen (p := ⟨w.heap.size, 0, none⟩) (by simp)]; simp [go_sem]
  have q3 : w1.frozen? ⟨w.heap.size, 1, none⟩ = false := by rw [hb1.frozen (p := ⟨w.heap.size, 1, none⟩) (by simp)]; simp [go_sem]
  have hbe' : b = w.heap.size + 1 := by simpa using hbe
  have HS1 := hid hs1
  have HB1 : Hid (Below w.heap.size w w1) := (show Below w.heap.size w _ from (by repeat (first | exact Below.refl _ _ | assumption | refine Below.drew ?_ | refine Below.alloc ?_ (by first | exact Nat.le_refl _ | omega | (simp; done) | (simp; omega)) _ | refine Below.setCell ?_ (by first | exact Nat.le_refl _ | omega | (simp; done) | (simp; omega)) _))).trans (hb1.mono (by simp))
  have HBe := hid hbe'
  have hne : w.heap.size ≠ b := by omega
  have s1 : w.heap.size < w1.heap.size := by have := hb1.size; simp at this; omega
  clear hs1 hb1 hbe hbe'
  go_wp2_with fail
  refine (cnf_src b a len cap _ HS1.out hbl).mono ?_
  rintro e w2 ⟨vars, p, n, c, ps, rfl, hv1, hv6, ho, hpl, hcl, hg⟩
  replace q0 := fcell hg hne q0
  replace q1 := fcell hg hne q1
  replace q2 := ffroz hg hne s1 q2
  replace q3 := ffroz hg hne s1 q3
  have HB2 : Hid (Below w.heap.size w w2) := HB1.out.grown hg HB1.out.size (fun g e => by injection e with e; have := HBe.out; omega)
  have HO : Hid (OwnRows w.heap.size ((w2.setCell ⟨w.heap.size, 0, none⟩ (.int .i64 vars)).setCell ⟨w.heap.size, 1, none⟩ (.slice p n c)) (.slice p n c) ps) := rows_mono (rows_ahead (rows_ahead ho (by omega)) (by omega)) (by omega)
  have HC : Hid (cnfB vars (ps.map (·.2)) = true) := by
    show _ = _
    unfold cnfB
    rw [decide_eq_true ⟨by omega, by omega, by rw [List.length_map]; omega⟩, Bool.true_and, List.all_eq_true]
    intro z hz
    obtain ⟨q, hq, rfl⟩ := List.mem_map.1 hz
    exact hcl q hq
  clear ho hcl hg
  go_wp2
  (try simp only [Exit.inBlock, Exit.then])
  refine bodyPost_ret (v := .agg #[.int .i64 vars, .slice p n c]) (by simp [results, Try.results7, go_sem, q0, q1]) rfl ?_
  exact ⟨vars, p, n, c, ps, rfl, hv1, hv6, HO.out, HC.out, (HB2.out.setCell (Nat.le_refl _) _).setCell (Nat.le_refl _) _⟩

set_option maxHeartbeats 800000 in
theorem same_cnf (v : Int) (a a' : Option Addr) (len cap cap' : Nat) (zs : List (List Int)) (w : World) (hr : IntRows w a len zs) (hr' : IntRows w a' len zs) :
    Calls Try.prog 10 #[.agg #[.int .i64 v, .slice a len cap], .agg #[.int .i64 v, .slice a' len cap']] w fun e w' => e = .returned (.bool true) ∧ Below w.heap.size w w' := by
  have hmost := hr.most
  unfold maxLen at hmost
  have HR := hid hr
  have HR' := hid hr'
  clear hr hr'
  have hbv : (v != v) = false := by simp
  have hbl : ((len : Int) != (len : Int)) = false := by simp
  go_enter Try.func10, Try.ntmps10
  go_wp2
  go_loopw [5] (fun i wr => ∃ k : Nat, k ≤ len ∧ i = .int .i64 k ∧ Below w.heap.size w wr ∧ w.heap.size + 1 < wr.heap.size ∧ wr.cell? ⟨w.heap.size, 1, none⟩ = some (.slice a len cap) ∧ wr.cell? ⟨w.heap.size + 1, 1, none⟩ = some (.slice a' len cap')) (fun i _ => len - (intOf i).toNat)
  case atStart => exact ⟨0, Nat.zero_le _, rfl, (by repeat (first | exact Below.refl _ _ | assumption | refine Below.drew ?_ | refine Below.alloc ?_ (by first | exact Nat.le_refl _ | omega | (simp; done) | (simp; omega)) _ | refine Below.setCell ?_ (by first | exact Nat.le_refl _ | omega | (simp; done) | (simp; omega)) _)), by simp, by simp [go_sem], by simp [go_sem]⟩
  case round =>
    obtain ⟨k, hk, rfl, hb, hsz, d0, d1⟩ := hrel
    have HB := hid hb
    clear hb
    by_cases hlt : k < len
    · obtain ⟨b, off, rfl, x, l, c, hc0, hx0⟩ := HR.out.cell k hlt
      obtain ⟨b', off', rfl, x', l', c', hc0', hx0'⟩ := HR'.out.cell k hlt
      have hc := keep HB.out hc0
      have hc' := keep HB.out hc0'
      have hx := hx0.below HB.out
      have hx' := hx0'.below HB.out
      have HX := hid hx
      have HX' := hid hx'
      clear hc0 hc0' hx0 hx0' hx hx'
      generalize zs[k]?.getD [] = ys at *
      have HC : Hid (∀ q, Calls Try.prog 17 #[.slice x l c, .slice x' l' c'] (wr.drewN q) fun e w' => e = .returned (.bool true) ∧ ∃ n, w' = (wr.drewN q).drewN n) := fun q => (same_ints x x' l l' c c' ys ys _ (HX.out.drewN q) (HX'.out.drewN q)).mono (fun e w' ⟨he, hw⟩ => ⟨by rw [he, decide_eq_true rfl], hw⟩)
      have i1 : (0 : Int) ≤ (k : Int) := by omega
      have i2 : (k : Int) < (len : Int) := by omega
      go_wp2
      go_quiet ((go_at_call 17; exact Calls.quiet_of (HC.out _)))
      go_wp2
      go_roundw
      case rel => exact ⟨k + 1, by omega, by go_num, HB.out.trans ((below_drewN _ _).mono HB.out.size), hsz, d0, d1⟩
      case measure => simp [intOf]; omega
    · go_wp2
      go_ret
      exact ⟨rfl, HB.out⟩
end Go.Proofs.Ytiiigdcfnnjkcaa.normalMath
