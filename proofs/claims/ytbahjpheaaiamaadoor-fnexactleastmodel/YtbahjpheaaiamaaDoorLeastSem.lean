/- What follows by unit clauses holds in all models, and what a least model is; of no program; conditions: values of -1, 0 and 1. -/
import Derived.Test.YtbahjpheaaiamaaDoorPart38
namespace Go.Proofs.YtbahjpheaaiamaaDoor.leastSem
open Go base copy runS runL
set_option linter.unusedVariables false

/-- Whole values of the variables below n. -/
def Tot (M : Nat → Int) (n : Nat) : Prop := ∀ i, 1 ≤ i → i < n → M i = 1 ∨ M i = -1
/-- A model of clauses. -/
def Mod (Z : List (List Int)) (n : Nat) (M : Nat → Int) : Prop := Tot M n ∧ ∀ c ∈ Z, ∃ z ∈ c, runS.valOf M z = 1
/-- M goes with the values that are chosen. -/
def Ext (V M : Nat → Int) (n : Nat) : Prop := ∀ i, 1 ≤ i → i < n → V i ≠ 0 → M i = V i
/-- M is ahead of M' or the same, the first variable counting most. -/
def LexLe (M M' : Nat → Int) (n : Nat) : Prop := ∀ i, 1 ≤ i → i < n → (∀ j, 1 ≤ j → j < i → M j = M' j) → M i ≤ M' i
/-- The clauses' literals are of the variables below n. -/
def Lits (Z : List (List Int)) (n : Nat) : Prop := ∀ c ∈ Z, ∀ z ∈ c, z ≠ 0 ∧ z.natAbs < n
def Rng (V : Nat → Int) (n : Nat) : Prop := ∀ i, i < n → -1 ≤ V i ∧ V i ≤ 1
theorem cl_true {V : Nat → Int} : ∀ (c : List Int) (o u : Int), (clS V c o u).1 = true → ∃ z ∈ c, runS.valOf V z = 1
  | [], o, u, h => by unfold clS at h; cases h
  | z :: c, o, u, h => by
    unfold clS at h
    by_cases h1 : runS.valOf V z = 1
    · exact ⟨z, by simp, h1⟩
    · rw [if_neg h1] at h
      split at h
      · obtain ⟨y, hy, h2⟩ := cl_true c _ _ h
        exact ⟨y, by simp [hy], h2⟩
      · obtain ⟨y, hy, h2⟩ := cl_true c _ _ h
        exact ⟨y, by simp [hy], h2⟩
theorem cl_not {V : Nat → Int} : ∀ (c : List Int) (o u : Int), (clS V c o u).1 = false → ∀ z ∈ c, runS.valOf V z ≠ 1
  | [], o, u, h, z, hz => by cases hz
  | y :: c, o, u, h, z, hz => by
    unfold clS at h
    by_cases h1 : runS.valOf V y = 1
    · rw [if_pos h1] at h; cases h
    · rw [if_neg h1] at h
      rcases List.mem_cons.1 hz with rfl | hz
      · exact h1
      · split at h
        · exact cl_not c _ _ h z hz
        · exact cl_not c _ _ h z hz
/-- How the count of open literals goes: it stays only where none is open but the last. -/
theorem cl_count {V : Nat → Int} : ∀ (c : List Int) (o u : Int), (clS V c o u).1 = false → o ≤ (clS V c o u).2.1 ∧ ((clS V c o u).2.1 = o → (clS V c o u).2.2 = u ∧ ∀ z ∈ c, runS.valOf V z = 0 → z = u)
  | [], o, u, h => by
    unfold clS
    exact ⟨Int.le_refl _, fun _ => ⟨rfl, fun z hz => by cases hz⟩⟩
  | y :: c, o, u, h => by
    unfold clS at h ⊢
    by_cases h1 : runS.valOf V y = 1
    · rw [if_pos h1] at h; cases h
    · rw [if_neg h1] at h ⊢
      by_cases h2 : runS.valOf V y = 0 ∧ u ≠ y
      · rw [if_pos h2] at h ⊢
        obtain ⟨a, b⟩ := cl_count c _ _ h
        exact ⟨by omega, fun e => by omega⟩
      · rw [if_neg h2] at h ⊢
        obtain ⟨a, b⟩ := cl_count c _ _ h
        refine ⟨a, fun e => ⟨(b e).1, fun z hz hv => ?_⟩⟩
        rcases List.mem_cons.1 hz with rfl | hz
        · rcases Decidable.em (u = z) with h3 | h3
          · exact h3.symm
          · exact absurd ⟨hv, h3⟩ h2
        · exact (b e).2 z hz hv
theorem cl_one {V : Nat → Int} : ∀ (c : List Int) (u : Int), (∀ z ∈ c, z ≠ 0) → (clS V c 0 u).1 = false → (clS V c 0 u).2.1 = 1 → u = 0 → ∀ z ∈ c, runS.valOf V z = 0 → z = (clS V c 0 u).2.2
  | [], u, _, h, h1, hu, z, hz, _ => by cases hz
  | y :: c, u, hn, h, h1, hu, z, hz, hv => by
    have hy0 : y ≠ 0 := hn y (by simp)
    unfold clS at h h1 ⊢
    by_cases h2 : runS.valOf V y = 1
    · rw [if_pos h2] at h; cases h
    · rw [if_neg h2] at h h1 ⊢
      by_cases h3 : runS.valOf V y = 0 ∧ u ≠ y
      · rw [if_pos h3] at h h1 ⊢
        obtain ⟨a, b⟩ := cl_count c (0 + 1) y h
        obtain ⟨e1, e2⟩ := b (by rw [h1]; rfl)
        rw [e1]
        rcases List.mem_cons.1 hz with rfl | hz
        · rfl
        · exact e2 z hz hv
      · rw [if_neg h3] at h h1 ⊢
        rcases List.mem_cons.1 hz with rfl | hz
        · exact absurd ⟨hv, by rw [hu]; exact fun e => hy0 e.symm⟩ h3
        · exact cl_one c u (fun x hx => hn x (by simp [hx])) h h1 hu z hz hv
theorem val_ext {V M : Nat → Int} {n : Nat} {z : Int} (he : Ext V M n) (hz : z ≠ 0) (hn : z.natAbs < n) (hv : runS.valOf V z ≠ 0) : runS.valOf M z = runS.valOf V z := by
  have h0 : V z.natAbs ≠ 0 := fun e => hv (by unfold runS.valOf; rw [e]; simp)
  have := he z.natAbs (by omega) hn h0
  unfold runS.valOf
  rw [this]
theorem cl_false {V M : Nat → Int} {n : Nat} {c : List Int} (hl : ∀ z ∈ c, z ≠ 0 ∧ z.natAbs < n) (he : Ext V M n) (h : (clS V c 0 0).1 = false) (h0 : (clS V c 0 0).2.1 = 0) : ¬ ∃ z ∈ c, runS.valOf M z = 1 := by
  rintro ⟨z, hz, h1⟩
  have hv : runS.valOf V z ≠ 0 := fun e => (hl z hz).1 (((cl_count c 0 0 h).2 h0).2 z hz e)
  rw [val_ext he (hl z hz).1 (hl z hz).2 hv] at h1
  exact cl_not c 0 0 h z hz h1
theorem cl_forced {V M : Nat → Int} {n : Nat} {c : List Int} (hl : ∀ z ∈ c, z ≠ 0 ∧ z.natAbs < n) (he : Ext V M n) (h : (clS V c 0 0).1 = false) (h1 : (clS V c 0 0).2.1 = 1) (hm : ∃ z ∈ c, runS.valOf M z = 1) : runS.valOf M (clS V c 0 0).2.2 = 1 := by
  obtain ⟨z, hz, h2⟩ := hm
  have hv : runS.valOf V z = 0 := by
    rcases Decidable.em (runS.valOf V z = 0) with e | e
    · exact e
    · exact absurd ((val_ext he (hl z hz).1 (hl z hz).2 e).symm.trans h2) (cl_not c 0 0 h z hz)
  rw [← cl_one c 0 (fun x hx => (hl x hx).1) h h1 rfl z hz hv]
  exact h2
/-- One look: a false clause has no model; what follows holds in all; else every clause is true or open. -/
theorem scan_sound {V M : Nat → Int} {n : Nat} : ∀ (Z : List (List Int)) (i u : Int), 0 ≤ i → Lits Z n → Ext V M n → (∀ c ∈ Z, ∃ z ∈ c, runS.valOf M z = 1) → (u ≠ 0 → runS.valOf M u = 1) → (scanS V Z i u).1 = -1 ∧ ((scanS V Z i u).2 ≠ 0 → runS.valOf M (scanS V Z i u).2 = 1)
  | [], i, u, _, _, _, _, hu => ⟨rfl, hu⟩
  | c :: Z, i, u, hi, hl, he, hm, hu => by
    have ih := fun u' => scan_sound Z (i + 1) u' (by omega) (fun x hx => hl x (by simp [hx])) he (fun x hx => hm x (by simp [hx]))
    unfold scanS
    by_cases h1 : (clS V c 0 0).1 = true
    · rw [if_pos h1]; exact ih u hu
    · have h1' : (clS V c 0 0).1 = false := by simpa using h1
      rw [if_neg h1]
      by_cases h2 : (clS V c 0 0).2.1 = 0
      · exact absurd (hm c (by simp)) (cl_false (hl c (by simp)) he h1' h2)
      · rw [if_neg h2]
        refine ih _ ?_
        by_cases h3 : (clS V c 0 0).2.1 = 1 ∧ u = 0
        · rw [if_pos h3]
          exact fun _ => cl_forced (hl c (by simp)) he h1' h3.1 (hm c (by simp))
        · rw [if_neg h3]; exact hu
theorem scan_open {V : Nat → Int} : ∀ (Z : List (List Int)) (i u : Int), 0 ≤ i → (scanS V Z i u).1 < 0 → ∀ c ∈ Z, (clS V c 0 0).1 = true ∨ (clS V c 0 0).2.1 ≠ 0
  | [], i, u, _, _, c, hc => by cases hc
  | d :: Z, i, u, hi, h, c, hc => by
    unfold scanS at h
    by_cases h1 : (clS V d 0 0).1 = true
    · rw [if_pos h1] at h
      rcases List.mem_cons.1 hc with rfl | hc
      · exact .inl h1
      · exact scan_open Z (i + 1) u (by omega) h c hc
    · rw [if_neg h1] at h
      by_cases h2 : (clS V d 0 0).2.1 = 0
      · rw [if_pos h2] at h
        exact absurd h (by show ¬ i < 0; omega)
      · rw [if_neg h2] at h
        rcases List.mem_cons.1 hc with rfl | hc
        · exact .inr h2
        · exact scan_open Z (i + 1) _ (by omega) h c hc
theorem ext_set {V M : Nat → Int} {n : Nat} {u : Int} (he : Ext V M n) (hM : runS.valOf M u = 1) : Ext (setV V u) M n := fun i h1 h2 h3 => by
  unfold setV at h3 ⊢
  by_cases e : i = u.natAbs
  · rw [if_pos e]
    unfold runS.valOf at hM
    subst e
    by_cases hu : u < 0
    · rw [if_pos hu] at hM
      rw [if_neg (by omega)]
      omega
    · rw [if_neg hu] at hM
      rw [if_pos (by omega)]
      exact hM
  · rw [if_neg e] at h3 ⊢
    exact he i h1 h2 h3
theorem rng_set {V : Nat → Int} {n : Nat} {u : Int} (h : Rng V n) : Rng (setV V u) n := fun i hi => by
  have := h i hi
  unfold setV
  split
  · split <;> omega
  · exact this
/-- What all models go with. -/
theorem run_sound {n : Nat} {Z : List (List Int)} (hl : Lits Z n) : ∀ (k : Nat) (V : Nat → Int) (acc : List Int) (M : Nat → Int), Mod Z n M → Ext V M n → (runF k Z V acc).2.1 = -1 ∧ Ext (runF k Z V acc).2.2 M n
  | 0, V, acc, M, hM, he => ⟨rfl, he⟩
  | k + 1, V, acc, M, hM, he => by
    obtain ⟨h1, h2⟩ := scan_sound Z 0 0 (Int.le_refl _) hl he hM.2 (fun h => absurd rfl h)
    unfold runF
    rw [if_neg (by rw [h1]; decide)]
    by_cases h3 : (scanS V Z 0 0).2 = 0
    · rw [if_pos h3]; exact ⟨rfl, he⟩
    · rw [if_neg h3]
      exact run_sound hl k _ _ M hM (ext_set he (h2 h3))
theorem run_rng {n : Nat} {Z : List (List Int)} : ∀ (k : Nat) (V : Nat → Int) (acc : List Int), Rng V n → Rng (runF k Z V acc).2.2 n
  | 0, V, acc, h => h
  | k + 1, V, acc, h => by
    unfold runF
    split
    · exact h
    · split
      · exact h
      · exact run_rng k _ _ (rng_set h)
/-- Where it stands, no clause is false. -/
theorem run_open {n : Nat} {Z : List (List Int)} (hl : Lits Z n) : ∀ (k : Nat) (V : Nat → Int) (acc : List Int), openN V n < k → (runF k Z V acc).2.1 < 0 → ∀ c ∈ Z, (clS (runF k Z V acc).2.2 c 0 0).1 = true ∨ (clS (runF k Z V acc).2.2 c 0 0).2.1 ≠ 0
  | 0, V, acc, hk, _ => absurd hk (Nat.not_lt_zero _)
  | k + 1, V, acc, hk, h => by
    have hu := scan_unit (V := V) Z 0 0
    unfold runF at h ⊢
    by_cases h1 : 0 ≤ (scanS V Z 0 0).1
    · rw [if_pos h1] at h
      exact absurd h (by show ¬ (scanS V Z 0 0).1 < 0; omega)
    · rw [if_neg h1] at h ⊢
      by_cases h2 : (scanS V Z 0 0).2 = 0
      · rw [if_pos h2]
        exact scan_open (V := V) Z 0 0 (Int.le_refl _) (by omega)
      · rw [if_neg h2] at h ⊢
        rcases hu with hu | ⟨⟨d, hd, hm⟩, hv⟩
        · exact absurd hu h2
        · exact run_open hl k _ _ (by have := open_set (V := V) n (hl d hd _ hm).2 hv; omega) h
theorem whole_model {V : Nat → Int} {n : Nat} {Z : List (List Int)} (hl : Lits Z n) (hr : Rng V n) (hw : ∀ i, 1 ≤ i → i < n → V i ≠ 0) (ho : ∀ c ∈ Z, (clS V c 0 0).1 = true ∨ (clS V c 0 0).2.1 ≠ 0) : Mod Z n V := by
  refine ⟨fun i h1 h2 => by have := hr i h2; have := hw i h1 h2; omega, fun c hc => ?_⟩
  by_cases h : (clS V c 0 0).1 = true
  · exact cl_true c 0 0 h
  · have h' : (clS V c 0 0).1 = false := by simpa using h
    rcases ho c hc with h1 | h1
    · exact absurd h1 h
    · obtain ⟨x, y, z⟩ : Bool × Int × Int := clS V c 0 0
      have h2 := (cl_open V c 0 0 (clS V c 0 0).2.1 (clS V c 0 0).2.2 (by rw [← h'])).2
      rcases h2 with ⟨h3, _⟩ | ⟨h3, h4⟩
      · exact absurd h3 h1
      · have := hw _ (by have := (hl c hc _ h3).1; omega) (hl c hc _ h3).2
        exact absurd (val_zero h4) this
/-- The least model that goes with V. -/
def Least (Z : List (List Int)) (n : Nat) (V M : Nat → Int) : Prop := Mod Z n M ∧ Ext V M n ∧ ∀ M', Mod Z n M' → Ext V M' n → LexLe M M' n
def None_ (Z : List (List Int)) (n : Nat) (V : Nat → Int) : Prop := ∀ M, Mod Z n M → Ext V M n → False
theorem run_same {Z : List (List Int)} : ∀ (k : Nat) (V : Nat → Int) (acc : List Int) (i : Nat), V i ≠ 0 → (runF k Z V acc).2.2 i = V i
  | 0, V, acc, i, h => rfl
  | k + 1, V, acc, i, h => by
    have hu := scan_unit (V := V) Z 0 0
    unfold runF
    split
    · rfl
    · split
      · rfl
      · rename_i h1 h2
        have hs : setV V (scanS V Z 0 0).2 i = V i := by
          unfold setV
          rcases hu with hu | ⟨_, hv⟩
          · exact absurd hu h2
          · rw [if_neg (fun e => h (by rw [e]; exact hv))]
        rw [run_same k _ _ i (by rw [hs]; exact h), hs]
theorem tot_neg {M : Nat → Int} {n q : Nat} (h : Tot M n) (h1 : 1 ≤ q) (h2 : q < n) : -1 ≤ M q := by
  rcases h q h1 h2 with e | e <;> omega
theorem set_at (V : Nat → Int) (q : Nat) (h : 1 ≤ q) : setV V (-(q : Int)) q = -1 ∧ setV V (q : Int) q = 1 := by
  unfold setV
  refine ⟨?_, ?_⟩
  · rw [if_pos (show q = (-(q : Int)).natAbs by omega), if_neg (show ¬ (0 : Int) < -(q : Int) by omega)]
  · rw [if_pos (show q = ((q : Int)).natAbs by omega), if_pos (show (0 : Int) < (q : Int) by omega)]
theorem set_off (V : Nat → Int) (z : Int) {q i : Nat} (hz : z.natAbs = q) (h : i ≠ q) : setV V z i = V i := by
  unfold setV
  rw [if_neg (by omega)]
theorem set_two (V : Nat → Int) (q : Nat) : setV (setV V (-(q : Int))) (q : Int) = setV V (q : Int) := by
  funext i
  unfold setV
  by_cases e : i = q
  · have e1 : i = ((q : Int)).natAbs := by omega
    rw [if_pos e1, if_pos e1]
  · have e1 : ¬ i = ((q : Int)).natAbs := by omega
    have e2 : ¬ i = (-(q : Int)).natAbs := by omega
    rw [if_neg e1, if_neg e1, if_neg e2]
theorem ext_low {V M : Nat → Int} {n q : Nat} (h : Ext V M n) (h1 : 1 ≤ q) (hM : M q = -1) : Ext (setV V (-(q : Int))) M n := fun i a b c => by
  by_cases e : i = q
  · subst e
    rw [(set_at V i h1).1]; exact hM
  · rw [set_off V _ (by omega) e] at c ⊢
    exact h i a b c
theorem ext_high {V M : Nat → Int} {n q : Nat} (h : Ext V M n) (h1 : 1 ≤ q) (hM : M q = 1) : Ext (setV V (q : Int)) M n := fun i a b c => by
  by_cases e : i = q
  · subst e
    rw [(set_at V i h1).2]; exact hM
  · rw [set_off V _ (by omega) e] at c ⊢
    exact h i a b c
section
variable {Z : List (List Int)} {n q : Nat} {V V' M : Nat → Int}
theorem ext_back {z : Int} (hz : z.natAbs = q) (hs : ∀ i, V i ≠ 0 → V' i = V i) (h0 : V' q = 0) (he : Ext (setV V' z) M n) : Ext V M n := fun i a b c => by
  have h1 := hs i c
  have h2 : i ≠ q := fun e => by subst e; rw [h0] at h1; exact c h1.symm
  have h3 := he i a b (by rw [set_off V' z hz h2, h1]; exact c)
  rw [set_off V' z hz h2, h1] at h3
  exact h3
theorem least_low (hsn : ∀ M', Mod Z n M' → Ext V M' n → Ext V' M' n) (hs : ∀ i, V i ≠ 0 → V' i = V i) (h1 : 1 ≤ q) (h2 : q < n) (hf : ∀ j, 1 ≤ j → j < q → V' j ≠ 0) (h0 : V' q = 0) (h : Least Z n (setV V' (-(q : Int))) M) : Least Z n V M := by
  obtain ⟨hm, he, hlx⟩ := h
  refine ⟨hm, ext_back (by omega) hs h0 he, fun M' hM' hE' i a b hag => ?_⟩
  have hE2 := hsn M' hM' hE'
  have hq : M q = -1 := by
    have := he q h1 h2 (by rw [(set_at V' q h1).1]; decide)
    rw [this, (set_at V' q h1).1]
  rcases Nat.lt_trichotomy i q with hi | hi | hi
  · have e1 := he i a b (by rw [set_off V' _ (q := q) (by omega) (by omega)]; exact hf i a hi)
    rw [set_off V' _ (q := q) (by omega) (by omega)] at e1
    have e2 := hE2 i a b (hf i a hi)
    omega
  · subst hi
    rw [hq]
    exact tot_neg hM'.1 a b
  · have e1 : M' q = -1 := by rw [← hag q h1 hi]; exact hq
    exact hlx M' hM' (ext_low hE2 h1 e1) i a b hag
theorem least_high (hsn : ∀ M', Mod Z n M' → Ext V M' n → Ext V' M' n) (hs : ∀ i, V i ≠ 0 → V' i = V i) (h1 : 1 ≤ q) (h2 : q < n) (h0 : V' q = 0) (hno : None_ Z n (setV V' (-(q : Int)))) (h : Least Z n (setV V' (q : Int)) M) : Least Z n V M := by
  obtain ⟨hm, he, hlx⟩ := h
  refine ⟨hm, ext_back (by omega) hs h0 he, fun M' hM' hE' => ?_⟩
  have hE2 := hsn M' hM' hE'
  rcases hM'.1 q h1 h2 with e | e
  · exact hlx M' hM' (ext_high hE2 h1 e)
  · exact (hno M' hM' (ext_low hE2 h1 e)).elim
theorem none_both (hsn : ∀ M', Mod Z n M' → Ext V M' n → Ext V' M' n) (h1 : 1 ≤ q) (h2 : q < n) (hno : None_ Z n (setV V' (-(q : Int)))) (hno' : None_ Z n (setV V' (q : Int))) : None_ Z n V := fun M' hM' hE' => by
  have hE2 := hsn M' hM' hE'
  rcases hM'.1 q h1 h2 with e | e
  · exact hno' M' hM' (ext_high hE2 h1 e)
  · exact hno M' hM' (ext_low hE2 h1 e)
theorem least_whole (hsn : ∀ M', Mod Z n M' → Ext V M' n → Ext V' M' n) (hs : ∀ i, V i ≠ 0 → V' i = V i) (hw : ∀ i, 1 ≤ i → i < n → V' i ≠ 0) (hm : Mod Z n V') : Least Z n V V' :=
  ⟨hm, fun i a b c => hs i c, fun M' hM' hE' i a b _ => by rw [hsn M' hM' hE' i a b (hw i a b)]; exact Int.le_refl _⟩
end
end Go.Proofs.YtbahjpheaaiamaaDoor.leastSem
