/- CdBig; SolBig: one text, so that the claim has fewer files. -/
import Derived.Test.YtbahjpheaaiamaaDoorPart36
import Derived.Test.YtbahjpheaaiamaaDoorPart44
import Derived.Test.YtbahjpheaaiamaaDoorPart35
import Derived.Test.YtbahjpheaaiamaaDoorPart30
/- The credit of any search: how often it can still begin anew, for patience and room grow beyond what a search can spend; of no program. -/
namespace Go.Proofs.YtbahjpheaaiamaaDoor.cdBig
open Go.RowKit Go.Deep Go.Shelf Go base sets setsOf solSets solOps solMath solHold solProp solTrail cdVal cdState cdLes cdLearn cdSolve cdX cdMeas solSolve solSmall cdSmall
set_option linter.unusedVariables false

/-- Patience, set anew A times. -/
def grown : Nat → Nat → Nat
  | 0, P => P
  | A + 1, P => grown A (P + P / 10)
/-- Patience P is beyond what a search can spend, or will be when it was set anew A times. -/
def Pat (Q : Nat) (P : Int) (A : Nat) : Prop := A ≤ 260 ∧ -9223372036854775808 ≤ P ∧ P < 9223372036854775808 ∧ ((∃ k : Nat, P = k ∧ 100 ≤ k ∧ k ≤ 2 * Q ∧ 2 * Q < grown A k) ∨ ((2 * (Q : Int) < P ∧ 100 ≤ P ∨ P ≤ -100) ∧ A = 0))
structure BigAt (Q o c : Nat) (P L R : Int) (A m len num r : Nat) : Prop where
  q40 : 1 ≤ Q ∧ Q ≤ 1099511627776
  c1 : 800 ≤ c ∧ c ≤ 2000
  pat : Pat Q P A
  roo : 1000 ≤ R
  le : o ≤ len ∧ (len : Int) - o ≤ R
  hm : m ≤ num
  hr : r = 3 * (A + (4 * (Q : Int) - R).toNat) + kk Q (tim P L + m) (R + 1 - ((len : Int) - o) + m)
  top : 4 * (Q : Int) ≤ R → R + 100 * r ≤ 4 * (Q : Int) + 100 * c
theorem big_room {Q o c : Nat} {P L R : Int} {A m len num r : Nat} (h : BigAt Q o c P L R A m len num r) : R ≤ 4 * (Q : Int) + 200000 := by
  have h1 := h.top
  have h2 := h.c1
  omega
/-- Patience is set anew. -/
theorem pat_next {Q A : Nat} {P : Int} (hq : 1 ≤ Q ∧ Q ≤ 1099511627776) (h : Pat Q P A) :
    (∃ A', Pat Q (wrap64 (P + P.tdiv 10)) A' ∧ A' < A) ∨ (A = 0 ∧ Pat Q (wrap64 (P + P.tdiv 10)) 0 ∧ 2 * (Q : Int) < tim (wrap64 (P + P.tdiv 10)) 0) := by
  obtain ⟨hA, hlo, hhi, h⟩ := h
  rcases h with ⟨k, rfl, h1, h2, h3⟩ | ⟨h1, rfl⟩
  · left
    have e : wrap64 ((k : Int) + (k : Int).tdiv 10) = ((k + k / 10 : Nat) : Int) := by
      rw [Int.tdiv_eq_ediv_of_nonneg (by omega)]
      unfold wrap64
      omega
    rw [e]
    cases A with
    | zero => unfold grown at h3; omega
    | succ A =>
      unfold grown at h3
      by_cases hk : k + k / 10 ≤ 2 * Q
      · exact ⟨A, ⟨by omega, by omega, by omega, .inl ⟨_, rfl, by omega, hk, h3⟩⟩, by omega⟩
      · exact ⟨0, ⟨by omega, by omega, by omega, .inr ⟨.inl ⟨by omega, by omega⟩, rfl⟩⟩, by omega⟩
  · right
    refine ⟨rfl, ?_⟩
    obtain ⟨x, hx⟩ : ∃ x, wrap64 (P + P.tdiv 10) = x := ⟨_, rfl⟩
    have hxr : -9223372036854775808 ≤ x ∧ x < 9223372036854775808 ∧ ((2 * (Q : Int) < x ∧ 100 ≤ x) ∨ x ≤ -100) := by
      rw [← hx]
      rcases h1 with ⟨h1, h2⟩ | h1
      · rw [Int.tdiv_eq_ediv_of_nonneg (by omega)]
        by_cases h9 : P + P / 10 < 9223372036854775808
        · have h8 : wrap64 (P + P / 10) = P + P / 10 := by unfold wrap64; omega
          omega
        · have h8 : wrap64 (P + P / 10) = P + P / 10 - 18446744073709551616 := by unfold wrap64; omega
          omega
      · have e : P.tdiv 10 = -((-P) / 10) := by
          have h4 := Int.neg_tdiv P 10
          rw [Int.tdiv_eq_ediv_of_nonneg (by omega)] at h4
          omega
        rw [e]
        by_cases h9 : -9223372036854775808 ≤ P + -(-P / 10)
        · have h8 : wrap64 (P + -(-P / 10)) = P + -(-P / 10) := by unfold wrap64; omega
          omega
        · have h8 : wrap64 (P + -(-P / 10)) = P + -(-P / 10) + 18446744073709551616 := by unfold wrap64; omega
          omega
    rw [hx]
    obtain ⟨x1, x2, x3⟩ := hxr
    refine ⟨⟨by omega, x1, x2, .inr ⟨x3, rfl⟩⟩, ?_⟩
    rcases x3 with ⟨x3, x4⟩ | x3
    · rw [tim_zero ⟨by omega, x2⟩]; exact x3
    · have := tim_neg (P := x) ⟨by omega, x1⟩
      omega
theorem pat_range {Q A : Nat} {P : Int} (h : Pat Q P A) : -9223372036854775808 ≤ P ∧ P < 9223372036854775808 := ⟨h.2.1, h.2.2.1⟩
theorem kk_le (Q T1 T2 : Int) : kk Q T1 T2 ≤ 2 := kk_most Q T1 T2
/-- A lesson, and nothing begins anew. -/
theorem big_on {Q o c : Nat} {P L R : Int} {A m len num r : Nat} (h : BigAt Q o c P L R A m len num r) (hit : wrap64 (L + 1) ≠ P) (thn : ¬ R < (len : Int) + 1 - o) {num' : Nat} (hn : num < num') : BigAt Q o c P (wrap64 (L + 1)) R A (m + 1) (len + 1) num' r := by
  have ht := tim_next (pat_range h.pat) hit
  refine ⟨h.q40, h.c1, h.pat, h.roo, ⟨by have := h.le; omega, by omega⟩, by have := h.hm; omega, ?_, h.top⟩
  rw [ht, h.hr]
  have e1 : tim P L - 1 + ((m + 1 : Nat) : Int) = tim P L + m := by omega
  have e2 : R + 1 - (((len + 1 : Nat) : Int) - o) + ((m + 1 : Nat) : Int) = R + 1 - ((len : Int) - o) + m := by omega
  rw [e1, e2]
/-- Patience is spent. -/
theorem big_hit {Q o c : Nat} {P L R : Int} {A m len num r : Nat} (h : BigAt Q o c P L R A m len num r) (hnum : num < Q) (hit : wrap64 (L + 1) = P) (thn : ¬ R < (len : Int) + 1 - o) (num' : Nat) :
    ∃ A' r', r' < r ∧ BigAt Q o c (wrap64 (P + P.tdiv 10)) 0 R A' 0 (len + 1) num' r' := by
  have h1 := (tim_hit (pat_range h.pat)).1 hit
  have hm := h.hm
  have hr := h.hr
  have htop := h.top
  obtain ⟨B, hB⟩ : ∃ B, (4 * (Q : Int) - R).toNat = B := ⟨_, rfl⟩
  rw [hB] at hr
  obtain ⟨K, hK⟩ : ∃ K, kk Q (tim P L + m) (R + 1 - ((len : Int) - o) + m) = K := ⟨_, rfl⟩
  rw [hK] at hr
  rcases pat_next h.q40 h.pat with ⟨A', hp, hA⟩ | ⟨hA, hp, hT⟩
  · obtain ⟨K', hK'⟩ : ∃ K', kk Q (tim (wrap64 (P + P.tdiv 10)) 0 + (0 : Nat)) (R + 1 - (((len + 1 : Nat) : Int) - o) + (0 : Nat)) = K' := ⟨_, rfl⟩
    have hk2 : K' ≤ 2 := by rw [← hK']; exact kk_le _ _ _
    have hlt : 3 * (A' + B) + K' < r := by omega
    refine ⟨A', _, hlt, h.q40, h.c1, hp, h.roo, ⟨by have := h.le; omega, by omega⟩, Nat.zero_le _, by rw [hB, hK'], fun h4 => ?_⟩
    have := htop h4
    omega
  · obtain ⟨K', hK'⟩ : ∃ K', kk Q (tim (wrap64 (P + P.tdiv 10)) 0 + (0 : Nat)) (R + 1 - (((len + 1 : Nat) : Int) - o) + (0 : Nat)) = K' := ⟨_, rfl⟩
    have hkk : K' < K := by
      rw [← hK', ← hK]
      have := kk_one (Q := Q) (T1 := tim P L + m) (T2 := R + 1 - (len - o) + m) (T := tim (wrap64 (P + P.tdiv 10)) 0) (by omega) (by omega) hT
      rw [show R + 1 - ((len : Int) - o) + m - (tim P L + m) = R + 1 - (((len + 1 : Nat) : Int) - o) + (0 : Nat) by omega] at this
      rwa [show tim (wrap64 (P + P.tdiv 10)) 0 + ((0 : Nat) : Int) = tim (wrap64 (P + P.tdiv 10)) 0 by omega]
    have hlt : 3 * (0 + B) + K' < r := by omega
    refine ⟨0, _, hlt, h.q40, h.c1, hp, h.roo, ⟨by have := h.le; omega, by omega⟩, Nat.zero_le _, by rw [hB, hK'], fun h4 => ?_⟩
    have := htop h4
    omega
/-- Room is spent, patience is not. -/
theorem big_thin {Q o c : Nat} {P L R : Int} {A m len num r : Nat} (h : BigAt Q o c P L R A m len num r) (hnum : num < Q) (hit : wrap64 (L + 1) ≠ P) (thn : R < (len : Int) + 1 - o) (num' : Nat) :
    ∃ r', r' < r ∧ BigAt Q o c P (wrap64 (L + 1)) (R + 100) A 0 (o + (len + 1 - o) / 2) num' r' := by
  have ht := tim_next (pat_range h.pat) hit
  have hm := h.hm
  have hr := h.hr
  have htop := h.top
  have hle := h.le
  have hc := h.c1
  have hro := h.roo
  have hA := h.pat.1
  obtain ⟨K, hK⟩ : ∃ K, kk Q (tim P L + m) (R + 1 - ((len : Int) - o) + m) = K := ⟨_, rfl⟩
  rw [hK] at hr
  obtain ⟨K', hK'⟩ : ∃ K', kk Q (tim P (wrap64 (L + 1)) + (0 : Nat)) (R + 100 + 1 - (((o + (len + 1 - o) / 2 : Nat) : Int) - o) + (0 : Nat)) = K' := ⟨_, rfl⟩
  have hk2 : K' ≤ 2 := by rw [← hK']; exact kk_le _ _ _
  by_cases h4 : 4 * (Q : Int) ≤ R
  · have hkk : K' < K := by
      rw [← hK', ← hK]
      have := kk_two (Q := Q) (T1 := tim P L + m) (T2 := R + 1 - (len - o) + m) (T := R + 100 + 1 - (((o + (len + 1 - o) / 2 : Nat) : Int) - o) + (0 : Nat)) (by omega) (by omega) (by omega)
      rw [show tim P L + m - (R + 1 - ((len : Int) - o) + m) = tim P (wrap64 (L + 1)) + (0 : Nat) by omega] at this
      exact this
    have e1 : (4 * (Q : Int) - R).toNat = 0 := by omega
    have e2 : (4 * (Q : Int) - (R + 100)).toNat = 0 := by omega
    rw [e1] at hr
    refine ⟨3 * (A + 0) + K', by omega, h.q40, h.c1, h.pat, by omega, ⟨by omega, by omega⟩, Nat.zero_le _, by rw [e2, hK'], fun _ => ?_⟩
    have := htop h4
    omega
  · obtain ⟨B, hB⟩ : ∃ B, (4 * (Q : Int) - R).toNat = B := ⟨_, rfl⟩
    obtain ⟨B', hB'⟩ : ∃ B', (4 * (Q : Int) - (R + 100)).toNat = B' := ⟨_, rfl⟩
    rw [hB] at hr
    have hBB : B' < B := by omega
    have hlt : 3 * (A + B') + K' < r := by omega
    refine ⟨_, hlt, h.q40, h.c1, h.pat, by omega, ⟨by omega, by omega⟩, Nat.zero_le _, by rw [hB', hK'], fun h5 => ?_⟩
    have : B' = 0 := by omega
    omega
/-- Both are spent. -/
theorem big_both {Q o c : Nat} {P L R : Int} {A m len num r : Nat} (h : BigAt Q o c P L R A m len num r) (hnum : num < Q) (hit : wrap64 (L + 1) = P) (thn : R < (len : Int) + 1 - o) (num' : Nat) :
    ∃ A' r', r' < r ∧ BigAt Q o c (wrap64 (P + P.tdiv 10)) 0 (R + 100) A' 0 (o + (len + 1 - o) / 2) num' r' := by
  have h1 := (tim_hit (pat_range h.pat)).1 hit
  have hm := h.hm
  have hr := h.hr
  have htop := h.top
  have hle := h.le
  have hc := h.c1
  have hro := h.roo
  obtain ⟨K, hK⟩ : ∃ K, kk Q (tim P L + m) (R + 1 - ((len : Int) - o) + m) = K := ⟨_, rfl⟩
  rw [hK] at hr
  obtain ⟨K', hK'⟩ : ∃ K', kk Q (tim (wrap64 (P + P.tdiv 10)) 0 + (0 : Nat)) (R + 100 + 1 - (((o + (len + 1 - o) / 2 : Nat) : Int) - o) + (0 : Nat)) = K' := ⟨_, rfl⟩
  have hk2 : K' ≤ 2 := by rw [← hK']; exact kk_le _ _ _
  obtain ⟨B, hB⟩ : ∃ B, (4 * (Q : Int) - R).toNat = B := ⟨_, rfl⟩
  obtain ⟨B', hB'⟩ : ∃ B', (4 * (Q : Int) - (R + 100)).toNat = B' := ⟨_, rfl⟩
  rw [hB] at hr
  have hBB : B' ≤ B := by omega
  rcases pat_next h.q40 h.pat with ⟨A', hp, hA⟩ | ⟨hA, hp, hT⟩
  · have hA2 := hp.1
    have hlt : 3 * (A' + B') + K' < r := by omega
    refine ⟨A', _, hlt, h.q40, h.c1, hp, by omega, ⟨by omega, by omega⟩, Nat.zero_le _, by rw [hB', hK'], fun h5 => ?_⟩
    by_cases h4 : 4 * (Q : Int) ≤ R
    · have := htop h4
      omega
    · have : B' = 0 := by omega
      omega
  · by_cases h4 : 4 * (Q : Int) ≤ R
    · have hkk : K' < K := by
        rw [← hK', ← hK]
        exact kk_both (Q := Q) (T1 := tim P L + m) (T2 := R + 1 - (len - o) + m) (.inl (by omega)) (by omega) (by rw [show tim (wrap64 (P + P.tdiv 10)) 0 + ((0 : Nat) : Int) = tim (wrap64 (P + P.tdiv 10)) 0 by omega]; exact hT) (by omega)
      have hlt : 3 * (0 + B') + K' < r := by omega
      refine ⟨0, _, hlt, h.q40, h.c1, hp, by omega, ⟨by omega, by omega⟩, Nat.zero_le _, by rw [hB', hK'], fun h5 => ?_⟩
      have := htop h4
      omega
    · have hBB : B' < B := by omega
      have hlt : 3 * (0 + B') + K' < r := by omega
      refine ⟨0, _, hlt, h.q40, h.c1, hp, by omega, ⟨by omega, by omega⟩, Nat.zero_le _, by rw [hB', hK'], fun h5 => ?_⟩
      have : B' = 0 := by omega
      omega
/-- The credit of a state, o clauses of which are the formula's. -/
structure Big (n o c : Nat) (s : Sv) (r : Nat) : Prop where
  o3 : o ≤ 8388608
  own : s.X 1 = .int .i64 o
  ex : ∃ (P L R : Int) (A m : Nat), s.X 54 = .int .i64 P ∧ s.X 55 = .int .i64 L ∧ s.X 53 = .int .i64 R ∧ BigAt (2 ^ n) o c P L R A m s.C.length (num (propF (meas s + 1) s)) r
theorem big_most (n o c : Nat) (s : Sv) (r : Nat) (h : Big n o c s r) : s.C.length ≤ 8000000000000 := by
  obtain ⟨P, L, R, A, m, _, _, _, hb⟩ := h.ex
  have h1 := big_room hb
  have h2 := hb.le
  have h3 := hb.q40
  have h4 := h.o3
  omega
theorem at_num {Q o c : Nat} {P L R : Int} {A m len num num' r : Nat} (h : BigAt Q o c P L R A m len num r) (hn : num ≤ num') : BigAt Q o c P L R A m len num' r :=
  ⟨h.q40, h.c1, h.pat, h.roo, h.le, Nat.le_trans h.hm hn, h.hr, h.top⟩
theorem big_keeps (n o c : Nat) : Keeps (Big n o c) := by
  refine ⟨fun s r hf h => ?_, fun p s' r hf hF hD h hX hC hn hf' => ?_⟩
  · obtain ⟨_, _, hx⟩ := prop_more (meas s + 1) s hf
    have hc := (propF_done (meas s + 1) s hf (Nat.lt_succ_self _)).2.2.1
    obtain ⟨P, L, R, A, m, h1, h2, h3, hb⟩ := h.ex
    exact ⟨h.o3, by rw [hx]; exact h.own, P, L, R, A, m, by rw [hx]; exact h1, by rw [hx]; exact h2, by rw [hx]; exact h3, by rw [prop_again hf, hc]; exact hb⟩
  · have hp : propF (meas p + 1) p = p := propF_end (.inr hD)
    obtain ⟨_, m2, _⟩ := prop_more (meas s' + 1) s' hf'
    obtain ⟨P, L, R, A, m, h1, h2, h3, hb⟩ := h.ex
    rw [hp] at hb
    exact ⟨h.o3, (hX 1 (.inl rfl)).trans h.own, P, L, R, A, m, (hX 54 (.inr (by omega))).trans h1, (hX 55 (.inr (by omega))).trans h2, (hX 53 (.inr (by omega))).trans h3, by rw [hC]; exact at_num hb (Nat.le_trans hn m2)⟩
theorem pat_start {n : Nat} (hn : n ≤ 40) : ∃ A, Pat (2 ^ n) 100 A := by
  have h1 : 2 ^ n ≤ 2 ^ 40 := Nat.pow_le_pow_right (by omega) hn
  have e : (2 : Nat) ^ 40 = 1099511627776 := rfl
  by_cases h : 100 ≤ 2 * 2 ^ n
  · have hg : 2199023255552 < grown 260 100 := by decide +kernel
    exact ⟨260, by omega, by omega, by omega, .inl ⟨100, rfl, by omega, h, by omega⟩⟩
  · exact ⟨0, by omega, by omega, by omega, .inr ⟨.inl ⟨by omega, by omega⟩, rfl⟩⟩
/-- A search begins: what has been counted stays, a search's own lessons are none. -/
theorem big_anew {n o c : Nat} {s s' : Sv} {r : Nat} (hc : c + 3 ≤ 2000) (h : Big n o c s r) (hX : ∀ j, (j = 1 ∨ 53 ≤ j) → s'.X j = s.X j) (hC : s'.C.length = s.C.length) : ∃ r', Big n o (c + 3) s' r' := by
  obtain ⟨P, L, R, A, m, h1, h2, h3, hb⟩ := h.ex
  have hk := kk_le (2 ^ n : Nat) (tim P L + (0 : Nat)) (R + 1 - ((s.C.length : Int) - o) + (0 : Nat))
  refine ⟨_, h.o3, (hX 1 (.inl rfl)).trans h.own, P, L, R, A, 0, (hX 54 (.inr (by omega))).trans h1, (hX 55 (.inr (by omega))).trans h2, (hX 53 (.inr (by omega))).trans h3, hb.q40, by have := hb.c1; omega, hb.pat, hb.roo, by rw [hC]; exact hb.le, Nat.zero_le _, rfl, fun h4 => ?_⟩
  rw [hC]
  have h5 := hb.top h4
  have h6 := hb.hr
  have e1 : (4 * ((2 ^ n : Nat) : Int) - R).toNat = 0 := by omega
  rw [e1] at h6 ⊢
  omega
end Go.Proofs.YtbahjpheaaiamaaDoor.cdBig

/- A search of the program over any formula: learn keeps its credit, whether refresh begins anew, thins, both or neither; solve of the program; conditions: up to 40 variables. -/
namespace Go.Proofs.YtbahjpheaaiamaaDoor.solBig
open Go.RowKit Go.Deep Go.Shelf Go base sets setsOf solSets solOps solMath solHold solMem solFail solX solProp solClose solTrail solAddM cdVal cdState cdLes cdLearn cdSolve cdX cdMeas cdThin cdBig solHang solPush solNext hasAny solSolve solRefresh solLearn solThin solSmall solStart
set_option linter.unusedVariables false
set_option linter.unusedSimpArgs false

theorem wg_near {X X' : Nat → Value} {g b : Int} (h : Wg X g b) (e : ∀ j, j < 53 → X' j = X j) : Wg X' g b :=
  ⟨fun v hv => by rw [e _ (by omega)]; exact h.wt v hv, by rw [e _ (by omega)]; exact h.gain⟩
theorem back_nil {s : Sv} (h : s.K = []) : backS s 0 = s := by unfold backS; rw [if_pos (by rw [h]; rfl)]
theorem back_X0 (s : Sv) (X : Nat → Value) : backS { s with X := X } 0 = { backS s 0 with X := X } := by
  unfold backS
  split <;> rfl
theorem back_base {n : Nat} {Z : List LS} {G B : LS} {s : Sv} (h : Cd n Z G B s) (hF : s.F = -1) : Cd n Z G B (backS s 0) ∧ (backS s 0).K = [] ∧ (backS s 0).F = -1 ∧ (backS s 0).C = s.C ∧ (backS s 0).X = s.X := by
  by_cases hK : s.K = []
  · rw [back_nil hK]; exact ⟨h, hK, hF, rfl, rfl⟩
  · refine ⟨cd_back h (List.length_pos_iff.2 hK), ?_, ?_, ?_, back_X s 0⟩ <;> rw [back_eq h.stk.tr (List.length_pos_iff.2 hK)]
    · rfl
theorem nat_room {n o c : Nat} {s : Sv} {r : Nat} {R : Int} (h : Big n o c s r) (h53 : s.X 53 = .int .i64 R) : 1000 ≤ R ∧ R ≤ 4398046711104 := by
  obtain ⟨P, L, R', A, m, _, _, h3, hb⟩ := h.ex
  have e : R' = R := by
    have := h3.symm.trans h53
    injection this
  have h1 := big_room hb
  have h2 := hb.roo
  have h4 := hb.q40
  omega
/-- What comes of the credit. -/
theorem big_after {n c : Nat} {Z : List LS} {G B : LS} {p s1 sR : Sv} {r : Nat} {P L R : Int} (h : Big n Z.length c p r) (hF : p.F ≠ -1) (hcp : Cd n Z G B p) (h54 : p.X 54 = .int .i64 P) (h55 : p.X 55 = .int .i64 L) (h53 : p.X 53 = .int .i64 R)
    (hcd : Cd n Z G B s1) (hF1 : s1.F = -1) (hnum : num p < num (propF (meas s1 + 1) s1)) (hC : s1.C.length = p.C.length + 1) (hX : ∀ j, (j < 11 ∨ 52 < j) → s1.X j = p.X j) (hR : RfS s1 sR L P) :
    (¬ R < (p.C.length : Int) + 1 - Z.length → Cd n Z G B sR ∧ (∀ l, cdSolve.Ask G s1 l → cdSolve.Ask G sR l) ∧ ∃ r2, Big n Z.length c sR r2 ∧ (r2 < r ∨ (r2 = r ∧ num p < num (propF (meas sR + 1) sR)))) ∧
    (R < (p.C.length : Int) + 1 - Z.length → ∀ (kept : List LS) (s2 : Sv), kept.length = Z.length + (sR.C.length - Z.length) / 2 → s2 = { kept.foldl addT (wipeS (backS sR 0)) with X := s2.X } → s2.C.length = kept.length → s2.X 53 = .int .i64 (R + 100) → (∀ j, j ≠ 53 → s2.X j = sR.X j) → ∃ r2, Big n Z.length c s2 r2 ∧ r2 < r) := by
  obtain ⟨P', L', R', A, m, k54, k55, k53, hb⟩ := h.ex
  have eP : P' = P := by have := k54.symm.trans h54; injection this
  have eL : L' = L := by have := k55.symm.trans h55; injection this
  have eR : R' = R := by have := k53.symm.trans h53; injection this
  subst eP eL eR
  rw [propF_end (.inl hF)] at hb
  have hq : num p < 2 ^ n := num_lt hcp.q hcp.stk.tr
  have ho := h.o3
  have e53 : s1.X 53 = .int .i64 R' := (hX 53 (.inr (by omega))).trans h53
  have e1 : s1.X 1 = .int .i64 Z.length := (hX 1 (.inl (by omega))).trans h.own
  obtain ⟨bc, bK, bF, bC, bX⟩ := back_base hcd hF1
  rcases hR with ⟨a1, a2, a3, a4, a5⟩ | ⟨a1, a2, a3, a4, a5⟩
  · have hCR : sR.C.length = p.C.length + 1 := by rw [a1]; exact hC
    constructor
    · intro ht
      have hcR : Cd n Z G B sR := by rw [a1]; exact cd_X hcd
      have hn2 : num p < num (propF (meas sR + 1) sR) := by rw [a1, num_X]; exact hnum
      have hbn := big_on hb a2 ht hn2
      rw [← hCR] at hbn
      exact ⟨hcR, fun l ha => (by rw [a1]; exact ask_X ha), r, ⟨ho, (a5 1 (by omega)).trans e1, _, _, _, A, _, a4, a3, (a5 53 (by omega)).trans e53, hbn⟩, .inr ⟨rfl, hn2⟩⟩
    · intro ht kept s2 hk hs2 hl2 hx53 hx
      obtain ⟨r', hr', hbn⟩ := big_thin hb hq a2 ht (num (propF (meas s2 + 1) s2))
      rw [hCR] at hk
      rw [← hk, ← hl2] at hbn
      exact ⟨r', ⟨ho, (hx 1 (by omega)).trans ((a5 1 (by omega)).trans e1), _, _, _, A, 0, (hx 54 (by omega)).trans a4, (hx 55 (by omega)).trans a3, hx53, hbn⟩, hr'⟩
  · have hCR : sR.C.length = p.C.length + 1 := by rw [a1]; show (backS s1 0).C.length = _; rw [bC]; exact hC
    constructor
    · intro ht
      obtain ⟨A', r', hr', hbn⟩ := big_hit hb hq a2 ht (num (propF (meas sR + 1) sR))
      rw [← hCR] at hbn
      refine ⟨by rw [a1]; exact cd_X bc, fun l ha hk => absurd (by rw [a1]; exact bK) hk, r', ⟨ho, (a5 1 (by omega)).trans e1, _, _, _, A', 0, a4, a3, (a5 53 (by omega)).trans e53, hbn⟩, .inl hr'⟩
    · intro ht kept s2 hk hs2 hl2 hx53 hx
      obtain ⟨A', r', hr', hbn⟩ := big_both hb hq a2 ht (num (propF (meas s2 + 1) s2))
      rw [hCR] at hk
      rw [← hk, ← hl2] at hbn
      exact ⟨r', ⟨ho, (hx 1 (by omega)).trans ((a5 1 (by omega)).trans e1), _, _, _, A', 0, (hx 54 (by omega)).trans a4, (hx 55 (by omega)).trans a3, hx53, hbn⟩, hr'⟩
theorem rf_back {n : Nat} {Z : List LS} {G B : LS} {s1 sR : Sv} {L P : Int} (hcd : Cd n Z G B s1) (hF1 : s1.F = -1) (hR : RfS s1 sR L P) :
    (backS sR 0 = { backS s1 0 with X := sR.X }) ∧ sR.C = s1.C ∧ (∀ j, j < 54 → sR.X j = s1.X j) ∧ Wf sR.H ∧ (0 < sR.K.length → sR.K[0]?.getD 0 ≤ sR.T.length) ∧ (∀ p ∈ sR.T, p.1 ≠ 0 ∧ -40 ≤ p.1 ∧ p.1 ≤ 40) ∧ sR.T.length ≤ n ∧ sR.K.length ≤ n := by
  obtain ⟨bc, bK, bF, bC, bX⟩ := back_base hcd hF1
  rcases hR with ⟨a1, a2, a3, a4, a5⟩ | ⟨a1, a2, a3, a4, a5⟩
  · have hcR : Cd n Z G B sR := by rw [a1]; exact cd_X hcd
    refine ⟨?_, by rw [a1], a5, hcR.full.ok.wfH, fun hk => by rw [List.getElem?_eq_getElem hk]; exact hcR.stk.le _ (List.getElem_mem hk), cd_lits hcR, cd_tlen hcR, cd_klen hcR⟩
    have := back_X0 s1 sR.X
    rw [← a1] at this
    exact this
  · have hcR : Cd n Z G B sR := by rw [a1]; exact cd_X bc
    have hKR : sR.K = [] := by rw [a1]; exact bK
    refine ⟨?_, by rw [a1]; exact bC, a5, hcR.full.ok.wfH, fun hk => by rw [List.getElem?_eq_getElem hk]; exact hcR.stk.le _ (List.getElem_mem hk), cd_lits hcR, cd_tlen hcR, cd_klen hcR⟩
    rw [back_nil hKR]
    exact a1
set_option maxHeartbeats 3200000 in
theorem learn_big (n c : Nat) (Z : List LS) (G B : LS) (M mb : Nat) (F1 : Nat → Value) (V1 : Int → Value) (p : Sv) (w1 : World) (g1 : Int) (r1 : Nat) (h : Srch n Z G B M mb (Big n Z.length c) F1 V1 p g1 r1 w1) (hF : p.F ≠ -1) (hK : p.K ≠ []) :
      Calls Tryd.prog 42 #[.pointer (some ⟨M, 0, none⟩)] w1 fun e w2 => e = .returned (.tuple #[]) ∧ ∃ (mb2 : Nat) (F2 : Nat → Value) (V2 : Int → Value) (s2 : Sv) (g2 : Int) (r2 : Nat), Srch n Z G B M mb2 (Big n Z.length c) F2 V2 s2 g2 r2 w2 ∧ ChgM M mb mb2 (blk 0 F1 V1) (blk 0 F2 V2) w1 w2 ∧ (∀ l, cdSolve.Ask G p l → cdSolve.Ask G s2 l) ∧ (r2 < r1 ∨ (r2 = r1 ∧ num p < num (propF (meas s2 + 1) s2))) := by
  obtain ⟨P, L, R, A, m, k54, k55, k53, hb⟩ := h.cr.ex
  have h40 := h.cd.q.n40
  have hle := hb.le
  have hpr := pat_range hb.pat
  have hmo := big_most n Z.length c p r1 h.cr
  refine learn_impl n Z G B M mb F1 V1 p w1 h.sol h.nil h.cd hF hK g1 h.gg h.wg hmo _ (fun F2 V2 s1 w2 g2 hs hv hch hcd hF1 hnum hC hg hw hX hA => ?_)
  have hCi : (s1.C.length : Int) = (p.C.length : Int) + 1 := by rw [hC]; omega
  refine refresh_impl M mb F2 V2 s1 w2 hs L P R Z.length ((hX 55 (.inr (by decide))).trans k55) ((hX 54 (.inr (by decide))).trans k54) ((hX 53 (.inr (by decide))).trans k53) ((hX 1 (.inl (by decide))).trans h.cr.own) ⟨Int.natCast_nonneg _, by omega⟩ hpr hcd.full.ok.wfH (fun hk => by rw [List.getElem?_eq_getElem hk]; exact hcd.stk.le _ (List.getElem_mem hk)) (cd_lits hcd) (by have := cd_tlen hcd; omega) (by have := cd_klen hcd; omega) _ (fun F3 sR w3 hsR hch2 hR hlt => ?_) (fun F3 sR w3 hsR hch2 hR hlt => ?_)
  · obtain ⟨t1, t2, t3, t4, t5, t6, t7, t8⟩ := rf_back hcd hF1 hR
    obtain ⟨bc, bK, bF, bC, bX⟩ := back_base hcd hF1
    have hbR : Cd n Z G B (backS sR 0) ∧ (backS sR 0).K = [] ∧ (backS sR 0).F = -1 := by rw [t1]; exact ⟨cd_X bc, bK, bF⟩
    have hbX : (backS sR 0).X = sR.X := by rw [t1]
    have hbC : (backS sR 0).C = sR.C := by rw [t1, t2]; exact bC
    have hCl : sR.C.length = p.C.length + 1 := by rw [t2]; exact hC
    refine (thin_impl M mb F3 V2 sR w3 hsR R ((t3 53 (by omega)).trans ((hX 53 (.inr (by decide))).trans k53)) Z.length ((t3 1 (by omega)).trans ((hX 1 (.inl (by decide))).trans h.cr.own)) (by have := hb.roo; omega) (by have := big_room hb; have := hb.q40; have := h.cr.o3; omega) hbR.1.full.ok hbR.2.2 (tin_cd hbR.1) (fun c hc => wf_of hcd (by rw [← t2]; exact hc)) t4 t5 t6 (by omega) (by omega)).mono ?_
    rintro e w4 ⟨rfl, mb2, F4, V4, s2, kept, q1, q2, q3, q4, q5, q6, q7, q8, q9⟩
    have hkt : kept.take Z.length = Z := by rw [q5, t2]; exact hcd.q.own
    obtain ⟨u1, u2, u3, u4⟩ := cd_thin hbR.1 hbR.2.1 hbR.2.2 hkt (fun c hc => by rw [hbC]; exact q6 c hc)
    have hs2C : s2.C = kept := by rw [q7]; exact u2
    have hrm := nat_room h.cr k53
    have hwr : wrap64 (R + 100) = R + 100 := by unfold wrap64; omega
    rw [hwr] at q8
    obtain ⟨r2, hbg, hrl⟩ := (big_after h.cr hF h.cd k54 k55 k53 hcd hF1 hnum hC hX hR).2 (by omega) kept s2 q4 q7 (by rw [hs2C]) q8 q9
    refine ⟨rfl, mb2, F4, V4, s2, g2, r2, ⟨q1, q2, by rw [q7]; exact cd_X u1, wg_near hw (fun j hj => (q9 j (by omega)).trans (t3 j (by omega))), hg, hbg⟩, (ChgM.of (hch.trans hch2)).trans q3, fun l ha hk => absurd ?_ hk, .inl hrl⟩
    rw [q7]; exact u4
  · obtain ⟨t1, t2, t3, t4, t5, t6, t7, t8⟩ := rf_back hcd hF1 hR
    obtain ⟨u1, u2, r2, hbg, hrl⟩ := (big_after h.cr hF h.cd k54 k55 k53 hcd hF1 hnum hC hX hR).1 (by omega)
    exact ⟨mb, F3, V2, sR, g2, r2, ⟨hsR, hv, u1, wg_near hw (fun j hj => t3 j (by omega)), hg, hbg⟩, ChgM.of (hch.trans hch2), fun l ha => u2 l (hA l ha), hrl⟩
theorem solve_big (n c : Nat) (Z : List LS) (G B : LS) (M mb : Nat) (F : Nat → Value) (V : Int → Value) (s : Sv) (g : Int) (r : Nat) (w : World) (h : Srch n Z G B M mb (Big n Z.length c) F V s g r w) (l : Int) (hl : l.natAbs ≤ n) (hBk : s.K ≠ [] → ∃ r', Big n Z.length c (backS s 0) r') :
    Calls Tryd.prog 24 #[.pointer (some ⟨M, 0, none⟩), .int .i64 l] w fun e w' => ∃ (b : Bool) (mb' : Nat) (F' : Nat → Value) (V' : Int → Value) (p : Sv) (g' : Int) (r' : Nat), e = .returned (.bool b) ∧ Srch n Z G B M mb' (Big n Z.length c) F' V' p g' r' w' ∧ ChgM M mb mb' (blk 0 F V) (blk 0 F' V') w w' ∧ (b = true → Mdl n Z p.H ∧ (l = 0 ∨ mem p.H l = true)) ∧ (b = false → ¬ ∃ H, Mdl n Z H ∧ Sub B H ∧ (l = 0 ∨ mem H l = true)) :=
  solve_impl n Z G B M mb (Big n Z.length c) (big_keeps n Z.length c) (big_most n Z.length c) F V s g r w h l hl hBk (fun mb1 F1 V1 p w1 g1 r1 h1 h2 h3 => learn_big n c Z G B M mb1 F1 V1 p w1 g1 r1 h1 h2 h3)
theorem start_big {n : Nat} {Z : List (List Int)} {H : LS} (hn : n ≤ 40) (hl : rupSpec.LitsIn (n + 1) Z) (hw : Wf H) (hc : Cons H) (hZ : Z.length ≤ 8388608) : ∃ r, Big n (Z.map setL).length 800 (solNew.newS n H (Z.map setL)) r := by
  obtain ⟨f1, f2, f3, f4, f5, f6⟩ := solNew.new_full (n := n) (H := H) hw hc (wf_all hn hl)
  obtain ⟨A, hA⟩ := pat_start hn
  have h1 : 2 ^ n ≤ 2 ^ 40 := Nat.pow_le_pow_right (by omega) hn
  have h2 : 1 ≤ 2 ^ n := Nat.one_le_two_pow
  have e40 : (2 : Nat) ^ 40 = 1099511627776 := rfl
  have hA2 := hA.1
  refine ⟨_, by rw [List.length_map]; exact hZ, by rw [new_X]; rfl, 100, 0, 1000, A, 0, by rw [new_X]; rfl, by rw [new_X]; rfl, by rw [new_X]; rfl, ⟨by omega, by omega⟩, by omega, hA, by omega, ⟨by rw [f2]; exact Nat.le_refl _, by rw [f2]; omega⟩, Nat.zero_le _, rfl, fun h4 => ?_⟩
  have hk := kk_le (2 ^ n : Nat) (tim 100 0 + (0 : Nat)) (1000 + 1 - (((solNew.newS n H (Z.map setL)).C.length : Int) - (Z.map setL).length) + (0 : Nat))
  have e1 : (4 * ((2 ^ n : Nat) : Int) - 1000).toNat = 0 := by omega
  rw [e1]
  omega
end Go.Proofs.YtbahjpheaaiamaaDoor.solBig
