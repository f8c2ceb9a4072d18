import Derived.Test.YtmkhoocokpkojaaGreatDoorPart6
import Derived.Test.YtmkhoocokpkojaaGreatDoorPart23
namespace Go.Proofs.YtmkhoocokpkojaaGreatDoor.leastSem
open Go base copy runS runL
set_option linter.unusedVariables false
def Tot (M : Nat → Int) (n : Nat) : Prop := ∀ i, 1 ≤ i → i < n → M i = 1 ∨ M i = -1
def Mod (Z : List (List Int)) (n : Nat) (M : Nat → Int) : Prop := Tot M n ∧ ∀ c ∈ Z, ∃ z ∈ c, runS.valOf M z = 1
def Ext (V M : Nat → Int) (n : Nat) : Prop := ∀ i, 1 ≤ i → i < n → V i ≠ 0 → M i = V i
def LexLe (M M' : Nat → Int) (n : Nat) : Prop := ∀ i, 1 ≤ i → i < n → (∀ j, 1 ≤ j → j < i → M j = M' j) → M i ≤ M' i
def Lits (Z : List (List Int)) (n : Nat) : Prop := ∀ c ∈ Z, ∀ z ∈ c, z ≠ 0 ∧ z.natAbs < n
def Rng (V : Nat → Int) (n : Nat) : Prop := ∀ i, i < n → -1 ≤ V i ∧ V i ≤ 1
theorem cl_true {V : Nat → Int} : ∀ (c : List Int) (o u : Int), (clS V c o u).1 = true → ∃ z ∈ c, runS.valOf V z = 1
 | [], o, u, h => by unfold clS at h; cases h
 | z :: c, o, u, h => by
  unfold clS at h
  by_cases h1 : runS.valOf V z = 1
  · exact ⟨z, by simp, h1⟩
  · rw [if_neg h1] at h
    split at h
    · obtain ⟨y, hy, h2⟩ := cl_true c _ _ h
      exact ⟨y, by simp [hy], h2⟩
    · obtain ⟨y, hy, h2⟩ := cl_true c _ _ h
      exact ⟨y, by simp [hy], h2⟩
theorem cl_not {V : Nat → Int} : ∀ (c : List Int) (o u : Int), (clS V c o u).1 = false → ∀ z ∈ c, runS.valOf V z ≠ 1
 | [], o, u, h, z, hz => by cases hz
 | y :: c, o, u, h, z, hz => by
  unfold clS at h
  by_cases h1 : runS.valOf V y = 1
  · rw [if_pos h1] at h; cases h
  · rw [if_neg h1] at h
    rcases List.mem_cons.1 hz with rfl | hz
    · exact h1
    · split at h
      · exact cl_not c _ _ h z hz
      · exact cl_not c _ _ h z hz
theorem cl_count {V : Nat → Int} : ∀ (c : List Int) (o u : Int), (clS V c o u).1 = false → o ≤ (clS V c o u).2.1 ∧ ((clS V c o u).2.1 = o → (clS V c o u).2.2 = u ∧ ∀ z ∈ c, runS.valOf V z = 0 → z = u)
 | [], o, u, h => by
  unfold clS
  exact ⟨Int.le_refl _, fun _ => ⟨rfl, fun z hz => by cases hz⟩⟩
 | y :: c, o, u, h => by
  unfold clS at h ⊢
  by_cases h1 : runS.valOf V y = 1
  · rw [if_pos h1] at h; cases h
  · rw [if_neg h1] at h ⊢
    by_cases h2 : runS.valOf V y = 0 ∧ u ≠ y
    · rw [if_pos h2] at h ⊢
      obtain ⟨a, b⟩ := cl_count c _ _ h
      exact ⟨by omega, fun e => by omega⟩
    · rw [if_neg h2] at h ⊢
      obtain ⟨a, b⟩ := cl_count c _ _ h
      refine ⟨a, fun e => ⟨(b e).1, fun z hz hv => ?_⟩⟩
      rcases List.mem_cons.1 hz with rfl | hz
      · rcases Decidable.em (u = z) with h3 | h3
        · exact h3.symm
        · exact absurd ⟨hv, h3⟩ h2
      · exact (b e).2 z hz hv
theorem cl_one {V : Nat → Int} : ∀ (c : List Int) (u : Int), (∀ z ∈ c, z ≠ 0) → (clS V c 0 u).1 = false → (clS V c 0 u).2.1 = 1 → u = 0 → ∀ z ∈ c, runS.valOf V z = 0 → z = (clS V c 0 u).2.2
 | [], u, _, h, h1, hu, z, hz, _ => by cases hz
 | y :: c, u, hn, h, h1, hu, z, hz, hv => by
  have hy0 : y ≠ 0 := hn y (by simp)
  unfold clS at h h1 ⊢
  by_cases h2 : runS.valOf V y = 1
  · rw [if_pos h2] at h; cases h
  · rw [if_neg h2] at h h1 ⊢
    by_cases h3 : runS.valOf V y = 0 ∧ u ≠ y
    · rw [if_pos h3] at h h1 ⊢
      obtain ⟨a, b⟩ := cl_count c (0 + 1) y h
      obtain ⟨e1, e2⟩ := b (by rw [h1]; rfl)
      rw [e1]
      rcases List.mem_cons.1 hz with rfl | hz
      · rfl
      · exact e2 z hz hv
    · rw [if_neg h3] at h h1 ⊢
      rcases List.mem_cons.1 hz with rfl | hz
      · exact absurd ⟨hv, by rw [hu]; exact fun e => hy0 e.symm⟩ h3
      · exact cl_one c u (fun x hx => hn x (by simp [hx])) h h1 hu z hz hv
theorem val_ext {V M : Nat → Int} {n : Nat} {z : Int} (he : Ext V M n) (hz : z ≠ 0) (hn : z.natAbs < n) (hv : runS.valOf V z ≠ 0) : runS.valOf M z = runS.valOf V z := by
 have h0 : V z.natAbs ≠ 0 := fun e => hv (by unfold runS.valOf; rw [e]; simp)
 have := he z.natAbs (by omega) hn h0
 unfold runS.valOf
 rw [this]
theorem cl_false {V M : Nat → Int} {n : Nat} {c : List Int} (hl : ∀ z ∈ c, z ≠ 0 ∧ z.natAbs < n) (he : Ext V M n) (h : (clS V c 0 0).1 = false) (h0 : (clS V c 0 0).2.1 = 0) : ¬ ∃ z ∈ c, runS.valOf M z = 1 := by
 rintro ⟨z, hz, h1⟩
 have hv : runS.valOf V z ≠ 0 := fun e => (hl z hz).1 (((cl_count c 0 0 h).2 h0).2 z hz e)
 rw [val_ext he (hl z hz).1 (hl z hz).2 hv] at h1
 exact cl_not c 0 0 h z hz h1
theorem cl_forced {V M : Nat → Int} {n : Nat} {c : List Int} (hl : ∀ z ∈ c, z ≠ 0 ∧ z.natAbs < n) (he : Ext V M n) (h : (clS V c 0 0).1 = false) (h1 : (clS V c 0 0).2.1 = 1) (hm : ∃ z ∈ c, runS.valOf M z = 1) : runS.valOf M (clS V c 0 0).2.2 = 1 := by
 obtain ⟨z, hz, h2⟩ := hm
 have hv : runS.valOf V z = 0 := by
  rcases Decidable.em (runS.valOf V z = 0) with e | e
  · exact e
  · exact absurd ((val_ext he (hl z hz).1 (hl z hz).2 e).symm.trans h2) (cl_not c 0 0 h z hz)
 rw [← cl_one c 0 (fun x hx => (hl x hx).1) h h1 rfl z hz hv]
 exact h2
theorem scan_sound {V M : Nat → Int} {n : Nat} : ∀ (Z : List (List Int)) (i u : Int), 0 ≤ i → Lits Z n → Ext V M n → (∀ c ∈ Z, ∃ z ∈ c, runS.valOf M z = 1) → (u ≠ 0 → runS.valOf M u = 1) → (scanS V Z i u).1 = -1 ∧ ((scanS V Z i u).2 ≠ 0 → runS.valOf M (scanS V Z i u).2 = 1)
 | [], i, u, _, _, _, _, hu => ⟨rfl, hu⟩
 | c :: Z, i, u, hi, hl, he, hm, hu => by
  have ih := fun u' => scan_sound Z (i + 1) u' (by omega) (fun x hx => hl x (by simp [hx])) he (fun x hx => hm x (by simp [hx]))
  unfold scanS
  by_cases h1 : (clS V c 0 0).1 = true
  · rw [if_pos h1]; exact ih u hu
  · have h1' : (clS V c 0 0).1 = false := by simpa using h1
    rw [if_neg h1]
    by_cases h2 : (clS V c 0 0).2.1 = 0
    · exact absurd (hm c (by simp)) (cl_false (hl c (by simp)) he h1' h2)
    · rw [if_neg h2]
      refine ih _ ?_
      by_cases h3 : (clS V c 0 0).2.1 = 1 ∧ u = 0
      · rw [if_pos h3]
        exact fun _ => cl_forced (hl c (by simp)) he h1' h3.1 (hm c (by simp))
      · rw [if_neg h3]; exact hu
theorem scan_open {V : Nat → Int} : ∀ (Z : List (List Int)) (i u : Int), 0 ≤ i → (scanS V Z i u).1 < 0 → ∀ c ∈ Z, (clS V c 0 0).1 = true ∨ (clS V c 0 0).2.1 ≠ 0
 | [], i, u, _, _, c, hc => by cases hc
 | d :: Z, i, u, hi, h, c, hc => by
  unfold scanS at h
  by_cases h1 : (clS V d 0 0).1 = true
  · rw [if_pos h1] at h
    rcases List.mem_cons.1 hc with rfl | hc
    · exact .inl h1
    · exact scan_open Z (i + 1) u (by omega) h c hc
  · rw [if_neg h1] at h
    by_cases h2 : (clS V d 0 0).2.1 = 0
    · rw [if_pos h2] at h
      exact absurd h (by show ¬ i < 0; omega)
    · rw [if_neg h2] at h
      rcases List.mem_cons.1 hc with rfl | hc
      · exact .inr h2
      · exact scan_open Z (i + 1) _ (by omega) h c hc
theorem ext_set {V M : Nat → Int} {n : Nat} {u : Int} (he : Ext V M n) (hM : runS.valOf M u = 1) : Ext (setV V u) M n := fun i h1 h2 h3 => by
 unfold setV at h3 ⊢
 by_cases e : i = u.natAbs
 · rw [if_pos e]
   unfold runS.valOf at hM
   subst e
   by_cases hu : u < 0
   · rw [if_pos hu] at hM
     rw [if_neg (by omega)]
     omega
   · rw [if_neg hu] at hM
     rw [if_pos (by omega)]
     exact hM
 · rw [if_neg e] at h3 ⊢
   exact he i h1 h2 h3
theorem rng_set {V : Nat → Int} {n : Nat} {u : Int} (h : Rng V n) : Rng (setV V u) n := fun i hi => by
 have := h i hi
 unfold setV
 split
 · split <;> omega
 · exact this
theorem run_sound {n : Nat} {Z : List (List Int)} (hl : Lits Z n) : ∀ (k : Nat) (V : Nat → Int) (acc : List Int) (M : Nat → Int), Mod Z n M → Ext V M n → (runF k Z V acc).2.1 = -1 ∧ Ext (runF k Z V acc).2.2 M n
 | 0, V, acc, M, hM, he => ⟨rfl, he⟩
 | k + 1, V, acc, M, hM, he => by
  obtain ⟨h1, h2⟩ := scan_sound Z 0 0 (Int.le_refl _) hl he hM.2 (fun h => absurd rfl h)
  unfold runF
  rw [if_neg (by rw [h1]; decide)]
  by_cases h3 : (scanS V Z 0 0).2 = 0
  · rw [if_pos h3]; exact ⟨rfl, he⟩
  · rw [if_neg h3]
    exact run_sound hl k _ _ M hM (ext_set he (h2 h3))
theorem run_rng {n : Nat} {Z : List (List Int)} : ∀ (k : Nat) (V : Nat → Int) (acc : List Int), Rng V n → Rng (runF k Z V acc).2.2 n
 | 0, V, acc, h => h
 | k + 1, V, acc, h => by
  unfold runF
  split
  · exact h
  · split
    · exact h
    · exact run_rng k _ _ (rng_set h)
theorem run_open {n : Nat} {Z : List (List Int)} (hl : Lits Z n) : ∀ (k : Nat) (V : Nat → Int) (acc : List Int), openN V n < k → (runF k Z V acc).2.1 < 0 → ∀ c ∈ Z, (clS (runF k Z V acc).2.2 c 0 0).1 = true ∨ (clS (runF k Z V acc).2.2 c 0 0).2.1 ≠ 0
 | 0, V, acc, hk, _ => absurd hk (Nat.not_lt_zero _)
 | k + 1, V, acc, hk, h => by
  have hu := scan_unit (V := V) Z 0 0
  unfold runF at h ⊢
  by_cases h1 : 0 ≤ (scanS V Z 0 0).1
  · rw [if_pos h1] at h
    exact absurd h (by show ¬ (scanS V Z 0 0).1 < 0; omega)
  · rw [if_neg h1] at h ⊢
    by_cases h2 : (scanS V Z 0 0).2 = 0
    · rw [if_pos h2]
      exact scan_open (V := V) Z 0 0 (Int.le_refl _) (by omega)
    · rw [if_neg h2] at h ⊢
      rcases hu with hu | ⟨⟨d, hd, hm⟩, hv⟩
      · exact absurd hu h2
      · exact run_open hl k _ _ (by have := open_set (V := V) n (hl d hd _ hm).2 hv; omega) h
theorem whole_model {V : Nat → Int} {n : Nat} {Z : List (List Int)} (hl : Lits Z n) (hr : Rng V n) (hw : ∀ i, 1 ≤ i → i < n → V i ≠ 0) (ho : ∀ c ∈ Z, (clS V c 0 0).1 = true ∨ (clS V c 0 0).2.1 ≠ 0) : Mod Z n V := by
 refine ⟨fun i h1 h2 => by have := hr i h2; have := hw i h1 h2; omega, fun c hc => ?_⟩
 by_cases h : (clS V c 0 0).1 = true
 · exact cl_true c 0 0 h
 · have h' : (clS V c 0 0).1 = false := by simpa using h
   rcases ho c hc with h1 | h1
   · exact absurd h1 h
   · obtain ⟨x, y, z⟩ : Bool × Int × Int := clS V c 0 0
     have h2 := (cl_open V c 0 0 (clS V c 0 0).2.1 (clS V c 0 0).2.2 (by rw [← h'])).2
     rcases h2 with ⟨h3, _⟩ | ⟨h3, h4⟩
     · exact absurd h3 h1
     · have := hw _ (by have := (hl c hc _ h3).1; omega) (hl c hc _ h3).2
       exact absurd (val_zero h4) this
def Least (Z : List (List Int)) (n : Nat) (V M : Nat → Int) : Prop := Mod Z n M ∧ Ext V M n ∧ ∀ M', Mod Z n M' → Ext V M' n → LexLe M M' n
def None_ (Z : List (List Int)) (n : Nat) (V : Nat → Int) : Prop := ∀ M, Mod Z n M → Ext V M n → False
theorem run_same {Z : List (List Int)} : ∀ (k : Nat) (V : Nat → Int) (acc : List Int) (i : Nat), V i ≠ 0 → (runF k Z V acc).2.2 i = V i
 | 0, V, acc, i, h => rfl
 | k + 1, V, acc, i, h => by
  have hu := scan_unit (V := V) Z 0 0
  unfold runF
  split
  · rfl
  · split
    · rfl
    · rename_i h1 h2
      have hs : setV V (scanS V Z 0 0).2 i = V i := by
       unfold setV
       rcases hu with hu | ⟨_, hv⟩
       · exact absurd hu h2
       · rw [if_neg (fun e => h (by rw [e]; exact hv))]
      rw [run_same k _ _ i (by rw [hs]; exact h), hs]
theorem tot_neg {M : Nat → Int} {n q : Nat} (h : Tot M n) (h1 : 1 ≤ q) (h2 : q < n) : -1 ≤ M q := by
 rcases h q h1 h2 with e | e <;> omega
theorem set_at (V : Nat → Int) (q : Nat) (h : 1 ≤ q) : setV V (-(q : Int)) q = -1 ∧ setV V (q : Int) q = 1 := by
 unfold setV
 refine ⟨?_, ?_⟩
 · rw [if_pos (show q = (-(q : Int)).natAbs by omega), if_neg (show ¬ (0 : Int) < -(q : Int) by omega)]
 · rw [if_pos (show q = ((q : Int)).natAbs by omega), if_pos (show (0 : Int) < (q : Int) by omega)]
theorem set_off (V : Nat → Int) (z : Int) {q i : Nat} (hz : z.natAbs = q) (h : i ≠ q) : setV V z i = V i := by
 unfold setV
 rw [if_neg (by omega)]
theorem set_two (V : Nat → Int) (q : Nat) : setV (setV V (-(q : Int))) (q : Int) = setV V (q : Int) := by
 funext i
 unfold setV
 by_cases e : i = q
 · have e1 : i = ((q : Int)).natAbs := by omega
   rw [if_pos e1, if_pos e1]
 · have e1 : ¬ i = ((q : Int)).natAbs := by omega
   have e2 : ¬ i = (-(q : Int)).natAbs := by omega
   rw [if_neg e1, if_neg e1, if_neg e2]
theorem ext_low {V M : Nat → Int} {n q : Nat} (h : Ext V M n) (h1 : 1 ≤ q) (hM : M q = -1) : Ext (setV V (-(q : Int))) M n := fun i a b c => by
 by_cases e : i = q
 · subst e
   rw [(set_at V i h1).1]; exact hM
 · rw [set_off V _ (by omega) e] at c ⊢
   exact h i a b c
theorem ext_high {V M : Nat → Int} {n q : Nat} (h : Ext V M n) (h1 : 1 ≤ q) (hM : M q = 1) : Ext (setV V (q : Int)) M n := fun i a b c => by
 by_cases e : i = q
 · subst e
   rw [(set_at V i h1).2]; exact hM
 · rw [set_off V _ (by omega) e] at c ⊢
   exact h i a b c
section
variable {Z : List (List Int)} {n q : Nat} {V V' M : Nat → Int}
theorem ext_back {z : Int} (hz : z.natAbs = q) (hs : ∀ i, V i ≠ 0 → V' i = V i) (h0 : V' q = 0) (he : Ext (setV V' z) M n) : Ext V M n := fun i a b c => by
 have h1 := hs i c
 have h2 : i ≠ q := fun e => by subst e; rw [h0] at h1; exact c h1.symm
 have h3 := he i a b (by rw [set_off V' z hz h2, h1]; exact c)
 rw [set_off V' z hz h2, h1] at h3
 exact h3
theorem least_low (hsn : ∀ M', Mod Z n M' → Ext V M' n → Ext V' M' n) (hs : ∀ i, V i ≠ 0 → V' i = V i) (h1 : 1 ≤ q) (h2 : q < n) (hf : ∀ j, 1 ≤ j → j < q → V' j ≠ 0) (h0 : V' q = 0) (h : Least Z n (setV V' (-(q : Int))) M) : Least Z n V M := by
 obtain ⟨hm, he, hlx⟩ := h
 refine ⟨hm, ext_back (by omega) hs h0 he, fun M' hM' hE' i a b hag => ?_⟩
 have hE2 := hsn M' hM' hE'
 have hq : M q = -1 := by
  have := he q h1 h2 (by rw [(set_at V' q h1).1]; decide)
  rw [this, (set_at V' q h1).1]
 rcases Nat.lt_trichotomy i q with hi | hi | hi
 · have e1 := he i a b (by rw [set_off V' _ (q := q) (by omega) (by omega)]; exact hf i a hi)
   rw [set_off V' _ (q := q) (by omega) (by omega)] at e1
   have e2 := hE2 i a b (hf i a hi)
   omega
 · subst hi
   rw [hq]
   exact tot_neg hM'.1 a b
 · have e1 : M' q = -1 := by rw [← hag q h1 hi]; exact hq
   exact hlx M' hM' (ext_low hE2 h1 e1) i a b hag
theorem least_high (hsn : ∀ M', Mod Z n M' → Ext V M' n → Ext V' M' n) (hs : ∀ i, V i ≠ 0 → V' i = V i) (h1 : 1 ≤ q) (h2 : q < n) (h0 : V' q = 0) (hno : None_ Z n (setV V' (-(q : Int)))) (h : Least Z n (setV V' (q : Int)) M) : Least Z n V M := by
 obtain ⟨hm, he, hlx⟩ := h
 refine ⟨hm, ext_back (by omega) hs h0 he, fun M' hM' hE' => ?_⟩
 have hE2 := hsn M' hM' hE'
 rcases hM'.1 q h1 h2 with e | e
 · exact hlx M' hM' (ext_high hE2 h1 e)
 · exact (hno M' hM' (ext_low hE2 h1 e)).elim
theorem none_both (hsn : ∀ M', Mod Z n M' → Ext V M' n → Ext V' M' n) (h1 : 1 ≤ q) (h2 : q < n) (hno : None_ Z n (setV V' (-(q : Int)))) (hno' : None_ Z n (setV V' (q : Int))) : None_ Z n V := fun M' hM' hE' => by
 have hE2 := hsn M' hM' hE'
 rcases hM'.1 q h1 h2 with e | e
 · exact hno' M' hM' (ext_high hE2 h1 e)
 · exact hno M' hM' (ext_low hE2 h1 e)
theorem least_whole (hsn : ∀ M', Mod Z n M' → Ext V M' n → Ext V' M' n) (hs : ∀ i, V i ≠ 0 → V' i = V i) (hw : ∀ i, 1 ≤ i → i < n → V' i ≠ 0) (hm : Mod Z n V') : Least Z n V V' :=
 ⟨hm, fun i a b c => hs i c, fun M' hM' hE' i a b _ => by rw [hsn M' hM' hE' i a b (hw i a b)]; exact Int.le_refl _⟩
end
end Go.Proofs.YtmkhoocokpkojaaGreatDoor.leastSem
namespace Go.Proofs.YtmkhoocokpkojaaGreatDoor.solRun
open sets solSets solMath solHold solProp runS runL leastSem
set_option linter.unusedVariables false
set_option linter.unusedSimpArgs false
def Agree (V : Nat → Int) (H : LS) : Prop := ∀ z : Int, z ≠ 0 → -40 ≤ z → z ≤ 40 → runS.valOf V z = if mem H z = true then 1 else if mem H (-z) = true then -1 else 0
def Lit40 (zs : List Int) : Prop := ∀ z ∈ zs, z ≠ 0 ∧ z.natAbs < 41
theorem cl_zero {V : Nat → Int} : ∀ (c : List Int) (o u : Int), (clS V c o u).1 = false → (∀ z ∈ c, runS.valOf V z ≠ 0) → (clS V c o u).2.1 = o
 | [], o, u, _, _ => rfl
 | z :: c, o, u, h, hz => by
  unfold clS at h ⊢
  by_cases h1 : runS.valOf V z = 1
  · rw [if_pos h1] at h; cases h
  · rw [if_neg h1] at h ⊢
    rw [if_neg (fun e => hz z (by simp) e.1)] at h ⊢
    exact cl_zero c o u h (fun y hy => hz y (by simp [hy]))
theorem cl_same {V : Nat → Int} {x : Int} : ∀ (c : List Int) (o : Int), (clS V c o x).1 = false → (∀ z ∈ c, runS.valOf V z = 0 → z = x) → clS V c o x = (false, o, x)
 | [], o, _, _ => rfl
 | z :: c, o, h, hz => by
  unfold clS at h ⊢
  by_cases h1 : runS.valOf V z = 1
  · rw [if_pos h1] at h; cases h
  · rw [if_neg h1] at h ⊢
    rw [if_neg (fun e => e.2 (hz z (by simp) e.1).symm)] at h ⊢
    exact cl_same c o h (fun y hy => hz y (by simp [hy]))
theorem cl_uni {V : Nat → Int} {x : Int} : ∀ (c : List Int) (o u : Int), (clS V c o u).1 = false → u ≠ x → (∀ z ∈ c, runS.valOf V z = 0 → z = x) → (∃ z ∈ c, runS.valOf V z = 0) → clS V c o u = (false, o + 1, x)
 | [], o, u, _, _, _, h => by obtain ⟨z, hz, _⟩ := h; cases hz
 | z :: c, o, u, h, hu, hz, hex => by
  unfold clS at h ⊢
  by_cases h1 : runS.valOf V z = 1
  · rw [if_pos h1] at h; cases h
  · rw [if_neg h1] at h ⊢
    by_cases h2 : runS.valOf V z = 0
    · have e := hz z (by simp) h2
      subst e
      rw [if_pos ⟨h2, hu⟩] at h ⊢
      exact cl_same c (o + 1) h (fun y hy => hz y (by simp [hy]))
    · rw [if_neg (fun e => h2 e.1)] at h ⊢
      refine cl_uni c o u h hu (fun y hy => hz y (by simp [hy])) ?_
      obtain ⟨y, hy, hv⟩ := hex
      rcases List.mem_cons.1 hy with rfl | hy
      · exact absurd hv h2
      · exact ⟨y, hy, hv⟩
section
variable {V : Nat → Int} {H : LS} {zs : List Int}
theorem lit_rng (hz : Lit40 zs) {z : Int} (h : z ∈ zs) : z ≠ 0 ∧ -40 ≤ z ∧ z ≤ 40 := by have := hz z h; omega
theorem mem_zs (hz : Lit40 zs) (l : Int) : mem (setL zs) l = true ↔ l ∈ zs := by
 rw [mem_set (fun z h => (hz z h).1)]
 simp
theorem val_one (ha : Agree V H) (hz : Lit40 zs) {z : Int} (h : z ∈ zs) : runS.valOf V z = 1 ↔ mem H z = true := by
 obtain ⟨h0, h1, h2⟩ := lit_rng hz h
 rw [ha z h0 h1 h2]
 by_cases e : mem H z = true
 · simp [e]
 · rw [if_neg e]
   split <;> simp [e]
theorem val_open (ha : Agree V H) (hz : Lit40 zs) {z : Int} (h : z ∈ zs) : runS.valOf V z = 0 ↔ mem H z = false ∧ mem H (-z) = false := by
 obtain ⟨h0, h1, h2⟩ := lit_rng hz h
 rw [ha z h0 h1 h2]
 by_cases e : mem H z = true
 · simp [e]
 · rw [if_neg e]
   by_cases e2 : mem H (-z) = true
   · simp [e2]
   · simp [e2, e]
theorem cl_meet (ha : Agree V H) (hz : Lit40 zs) : (clS V zs 0 0).1 = meetL (setL zs) H := by
 cases hc : (clS V zs 0 0).1
 · cases hm : meetL (setL zs) H
   · rfl
   · obtain ⟨l, h1, h2⟩ := (meet_iff (wf_set hz)).1 hm
     have hl := (mem_zs hz l).1 h1
     exact absurd ((val_one ha hz hl).2 h2) (cl_not zs 0 0 hc l hl)
 · obtain ⟨z, hz1, hv⟩ := cl_true zs 0 0 hc
   exact ((meet_iff (wf_set hz)).2 ⟨z, (mem_zs hz z).2 hz1, (val_one ha hz hz1).1 hv⟩).symm
theorem rest_open (ha : Agree V H) (hH : Wf H) (hz : Lit40 zs) (hm : meetL (setL zs) H = false) (l : Int) : mem (restL (setL zs) H) l = true ↔ l ∈ zs ∧ runS.valOf V l = 0 := by
 rw [mem_rest (wf_set hz) hH, Bool.and_eq_true, mem_zs hz]
 constructor
 · rintro ⟨h1, h2⟩
   exact ⟨h1, (val_open ha hz h1).2 ⟨meet_false (wf_set hz) hm ((mem_zs hz l).2 h1), by simpa using h2⟩⟩
 · rintro ⟨h1, h2⟩
   exact ⟨h1, by rw [((val_open ha hz h1).1 h2).2]; rfl⟩
theorem cl_none (ha : Agree V H) (hH : Wf H) (hz : Lit40 zs) (hm : meetL (setL zs) H = false) : (clS V zs 0 0).2.1 = 0 ↔ restL (setL zs) H = (0, 0) := by
 have hf : (clS V zs 0 0).1 = false := by rw [cl_meet ha hz]; exact hm
 constructor
 · intro h
   refine (zero_iff (wf_rest (wf_set hz) _)).2 fun l => ?_
   cases hl : mem (restL (setL zs) H) l
   · rfl
   · obtain ⟨h1, h2⟩ := (rest_open ha hH hz hm l).1 hl
     exact absurd ((cl_count zs 0 0 hf).2 h |>.2 l h1 h2) (hz l h1).1
 · intro h
   refine cl_zero zs 0 0 hf fun z hz1 hv => ?_
   have := (rest_open ha hH hz hm z).2 ⟨hz1, hv⟩
   rw [h, mem_zero] at this
   cases this
theorem cl_unit1 (ha : Agree V H) (hH : Wf H) (hz : Lit40 zs) (hm : meetL (setL zs) H = false) {x : Int} (hx : x ≠ 0) (hr : restL (setL zs) H = onlyL x) : clS V zs 0 0 = (false, 1, x) := by
 have hf : (clS V zs 0 0).1 = false := by rw [cl_meet ha hz]; exact hm
 have hxr : mem (restL (setL zs) H) x = true := by rw [hr, mem_only hx]; simp
 obtain ⟨h1, h2⟩ := (rest_open ha hH hz hm x).1 hxr
 refine cl_uni zs 0 0 hf (fun e => hx e.symm) (fun z hz1 hv => ?_) ⟨x, h1, h2⟩
 have := (rest_open ha hH hz hm z).2 ⟨hz1, hv⟩
 rw [hr, mem_only hx, decide_eq_true_eq] at this
 exact this.symm
theorem cl_unit2 (ha : Agree V H) (hH : Wf H) (hz : Lit40 zs) (hm : meetL (setL zs) H = false) (h1 : (clS V zs 0 0).2.1 = 1) : ∃ x, x ≠ 0 ∧ restL (setL zs) H = onlyL x := by
 have hf : (clS V zs 0 0).1 = false := by rw [cl_meet ha hz]; exact hm
 obtain ⟨m1, m2⟩ := clS_false hf h1
 obtain ⟨r0, r1, r2⟩ := lit_rng hz m1
 refine ⟨_, r0, ls_ext (wf_rest (wf_set hz) _) (wf_only r0 r1 r2) fun l => ?_⟩
 rw [Bool.eq_iff_iff, rest_open ha hH hz hm, mem_only r0, decide_eq_true_eq]
 constructor
 · rintro ⟨a, b⟩
   exact (cl_one zs 0 (fun z h => (hz z h).1) hf h1 rfl l a b).symm
 · rintro rfl
   refine ⟨m1, ?_⟩
   unfold runS.valOf
   rw [m2]
   split <;> rfl
end
def Nul (H : LS) (zs : List Int) : Prop := meetL (setL zs) H = false ∧ restL (setL zs) H = (0, 0)
def Uni (H : LS) (zs : List Int) (x : Int) : Prop := meetL (setL zs) H = false ∧ x ≠ 0 ∧ restL (setL zs) H = onlyL x
section
variable {V : Nat → Int} {H : LS}
theorem scan_nul (ha : Agree V H) (hH : Wf H) : ∀ (Z : List (List Int)) (i u : Int) (p : Nat), (∀ zs ∈ Z, Lit40 zs) → p < Z.length → Nul H (Z[p]?.getD []) → (∀ q, q < p → ¬ Nul H (Z[q]?.getD [])) → (scanS V Z i u).1 = i + p
 | [], i, u, p, _, hp, _, _ => by simp at hp
 | c :: r, i, u, p, hz, hp, hn, hq => by
  have hzc := hz c (by simp)
  unfold scanS
  rw [cl_meet ha hzc]
  cases p with
  | zero =>
   have hn : Nul H c := hn
   rw [if_neg (by rw [hn.1]; decide), if_pos ((cl_none ha hH hzc hn.1).2 hn.2)]
   simp
  | succ p =>
   have h0 : ¬ Nul H c := hq 0 (by omega)
   have ih : ∀ v, (scanS V r (i + 1) v).1 = i + 1 + p := fun v => scan_nul ha hH r (i + 1) v p (fun zs h => hz zs (by simp [h])) (by simpa using hp) hn (fun q hq1 => hq (q + 1) (by omega))
   by_cases hm : meetL (setL c) H = true
   · rw [if_pos hm, ih]; simp; omega
   · have hm' : meetL (setL c) H = false := by simpa using hm
     rw [if_neg hm, if_neg (fun e => h0 ⟨hm', (cl_none ha hH hzc hm').1 e⟩), ih]; simp; omega
theorem scan_no (ha : Agree V H) (hH : Wf H) : ∀ (Z : List (List Int)) (i u : Int), (∀ zs ∈ Z, Lit40 zs) → (∀ zs ∈ Z, ¬ Nul H zs) → (scanS V Z i u).1 = -1 ∧ (u ≠ 0 → (scanS V Z i u).2 = u) ∧ ((∀ zs ∈ Z, ∀ x, ¬ Uni H zs x) → (scanS V Z i u).2 = u)
 | [], i, u, _, _ => ⟨rfl, fun _ => rfl, fun _ => rfl⟩
 | c :: r, i, u, hz, hn => by
  have hzc := hz c (by simp)
  have ih := fun v => scan_no ha hH r (i + 1) v (fun zs h => hz zs (by simp [h])) (fun zs h => hn zs (by simp [h]))
  unfold scanS
  rw [cl_meet ha hzc]
  by_cases hm : meetL (setL c) H = true
  · rw [if_pos hm]
    exact ⟨(ih u).1, (ih u).2.1, fun h => (ih u).2.2 (fun zs hm => h zs (by simp [hm]))⟩
  · have hm' : meetL (setL c) H = false := by simpa using hm
    rw [if_neg hm, if_neg (fun e => hn c (by simp) ⟨hm', (cl_none ha hH hzc hm').1 e⟩)]
    by_cases h1 : (clS V c 0 0).2.1 = 1 ∧ u = 0
    · rw [if_pos h1]
      refine ⟨(ih _).1, fun hu => absurd h1.2 hu, fun h => ?_⟩
      obtain ⟨x, hx, hr⟩ := cl_unit2 ha hH hzc hm' h1.1
      exact absurd ⟨hm', hx, hr⟩ (h c (by simp) x)
    · rw [if_neg h1]
      exact ⟨(ih u).1, (ih u).2.1, fun h => (ih u).2.2 (fun zs hm => h zs (by simp [hm]))⟩
theorem scan_uni (ha : Agree V H) (hH : Wf H) : ∀ (Z : List (List Int)) (i : Int) (p : Nat) (x : Int), (∀ zs ∈ Z, Lit40 zs) → (∀ zs ∈ Z, ¬ Nul H zs) → p < Z.length → Uni H (Z[p]?.getD []) x → (∀ q, q < p → ∀ y, ¬ Uni H (Z[q]?.getD []) y) → (scanS V Z i 0).2 = x
 | [], i, p, x, _, _, hp, _, _ => by simp at hp
 | c :: r, i, p, x, hz, hn, hp, hu, hq => by
  have hzc := hz c (by simp)
  have hzr : ∀ zs ∈ r, Lit40 zs := fun zs h => hz zs (by simp [h])
  have hnr : ∀ zs ∈ r, ¬ Nul H zs := fun zs h => hn zs (by simp [h])
  unfold scanS
  rw [cl_meet ha hzc]
  cases p with
  | zero =>
   have hu : Uni H c x := hu
   have e := cl_unit1 ha hH hzc hu.1 hu.2.1 hu.2.2
   rw [if_neg (by rw [hu.1]; decide), e]
   simp only [Int.reduceEq, if_false, and_self, if_true]
   exact (scan_no ha hH r (i + 1) x hzr hnr).2.1 hu.2.1
  | succ p =>
   have ih := scan_uni ha hH r (i + 1) p x hzr hnr (by simpa using hp) hu (fun q hq1 => hq (q + 1) (by omega))
   by_cases hm : meetL (setL c) H = true
   · rw [if_pos hm]; exact ih
   · have hm' : meetL (setL c) H = false := by simpa using hm
     rw [if_neg hm, if_neg (fun e => hn c (by simp) ⟨hm', (cl_none ha hH hzc hm').1 e⟩)]
     have h1 : ¬ ((clS V c 0 0).2.1 = 1 ∧ (0 : Int) = 0) := fun h1 => by
      obtain ⟨y, hy, hr⟩ := cl_unit2 ha hH hzc hm' h1.1
      exact hq 0 (by omega) y ⟨hm', hy, hr⟩
     rw [if_neg h1]; exact ih
end
theorem agree_set {V : Nat → Int} {H : LS} {x : Int} (ha : Agree V H) (hx : x ≠ 0) (h0 : -40 ≤ x) (h1 : x ≤ 40) (no : mem H (-x) = false) : Agree (runS.setV V x) (withL H (onlyL x)) := fun z hz z0 z1 => by
 rw [mem_held hx, mem_held hx]
 have hv := ha z hz z0 z1
 unfold runS.valOf runS.setV at *
 by_cases e : x = z
 · subst e
   simp
   split <;> split <;> omega
 · by_cases e2 : x = -z
   · subst e2
     rw [Int.neg_neg] at no
     rw [no]
     simp [e]
     split <;> first | omega | (split <;> omega)
   · have hne : ¬ z.natAbs = x.natAbs := by omega
     rw [if_neg hne, hv]
     simp [e, e2]
theorem agree_hold {V : Nat → Int} {H : LS} {x : Int} (ha : Agree V H) (hx : x ≠ 0) (h0 : -40 ≤ x) (h1 : x ≤ 40) (no : mem H x = false ∧ mem H (-x) = false) : Agree (runS.setV V x) (withL H (onlyL x)) := agree_set ha hx h0 h1 no.2
theorem full_false {s : Sv} (h : Full s) {i : Nat} (hi : i < s.C.length) (hr : restL (s.cl i) s.H = (0, 0)) : meetL (s.cl i) s.H = false := by
 cases hm : meetL (s.cl i) s.H
 · rfl
 · obtain ⟨l, h1, h2⟩ := (meet_iff (h.ok.wfC i)).1 hm
   have : mem (restL (s.cl i) s.H) l = true := by rw [mem_rest (h.ok.wfC i) h.ok.wfH, h1, h.ok.cons l h2]; rfl
   rw [hr, mem_zero] at this
   cases this
theorem cl_of {s : Sv} {Z : List (List Int)} (hC : s.C = Z.map setL) {i : Nat} (hi : i < Z.length) : s.cl i = setL (Z[i]?.getD []) := by
 unfold Sv.cl
 rw [hC, List.getElem?_map, List.getElem?_eq_getElem hi]
 rfl
theorem mem_at {α : Type} {d : α} {Z : List α} {zs : α} (h : zs ∈ Z) : ∃ i, i < Z.length ∧ Z[i]?.getD d = zs := by
 obtain ⟨i, hi, e⟩ := List.mem_iff_getElem.1 h
 exact ⟨i, hi, by rw [List.getElem?_eq_getElem hi]; exact e⟩
theorem run_go {n : Nat} {Z : List (List Int)} (hz : ∀ zs ∈ Z, Lit40 zs) (hzn : ∀ zs ∈ Z, ∀ z ∈ zs, z.natAbs < n) (s : Sv) (V : Nat → Int) (f : Nat) (hf : Full s) (hC : s.C = Z.map setL) (ha : Agree V s.H) (hfu : openN V n < f)
  (ih : ∀ (s' : Sv) (V' : Nat → Int) (f' : Nat), meas s' < meas s → Full s' → s'.C = Z.map setL → Agree V' s'.H → openN V' n < f' → (runF f' Z V' (s'.T.map Prod.fst)).1 = (propF (meas s' + 1) s').T.map Prod.fst ∧ (runF f' Z V' (s'.T.map Prod.fst)).2.1 = (propF (meas s' + 1) s').F) :
  (runF f Z V (s.T.map Prod.fst)).1 = (propF (meas s + 1) s).T.map Prod.fst ∧ (runF f Z V (s.T.map Prod.fst)).2.1 = (propF (meas s + 1) s).F := by
 obtain ⟨k, rfl⟩ : ∃ k, f = k + 1 := ⟨f - 1, by omega⟩
 have hH := hf.ok.wfH
 have hlen : s.C.length = Z.length := by rw [hC]; simp
 have hnz : ∀ i, i < Z.length → s.cl i = setL (Z[i]?.getD []) := fun i hi => cl_of hC hi
 by_cases hF : s.F = -1
 · have hnn : ∀ zs ∈ Z, ¬ Nul s.H zs := fun zs hm hn => by
    obtain ⟨i, hi, e⟩ := mem_at (d := []) hm
    unfold Nul at hn
    rw [← e, ← hnz i hi] at hn
    rcases hf.st i (by omega) with q | ⟨_, q, _⟩ | ⟨y, q1, q2, _⟩ | ⟨q1, _⟩
    · rw [hn.1] at q; cases q
    · exact q hF
    · have : mem (restL (s.cl i) s.H) y = true := by rw [q1, mem_only q2]; simp
      rw [hn.2, mem_zero] at this; cases this
    · rw [hn.2, mem_zero] at q1; cases q1
   have hs1 := (scan_no ha hH Z 0 0 hz hnn).1
   have huD : ∀ i, i < Z.length → ∀ x, Uni s.H (Z[i]?.getD []) x → i ∈ s.D := fun i hi x hu => by
    unfold Uni at hu
    rw [← hnz i hi] at hu
    rcases hf.st i (by omega) with q | ⟨_, q, _⟩ | ⟨y, q1, q2, q3, q4⟩ | ⟨q1, q2, q3⟩
    · rw [hu.1] at q; cases q
    · exact absurd hF q
    · exact q4
    · rw [hu.2.2, mem_only hu.2.1, decide_eq_true_eq] at q1 q2
      exact absurd (q1.symm.trans q2) q3
   cases hD : s.D with
   | nil =>
    have hs2 : (scanS V Z 0 0).2 = 0 := (scan_no ha hH Z 0 0 hz hnn).2.2 (fun zs hm x hu => by
     obtain ⟨i, hi, e⟩ := mem_at (d := []) hm
     rw [← e] at hu
     have := huD i hi x hu
     rw [hD] at this; cases this)
    rw [propF_end (.inr hD), run_none (Prod.ext hs1 hs2), hF]
    exact ⟨rfl, rfl⟩
   | cons i D =>
    have hiD : i ∈ s.D := by rw [hD]; simp
    have hi : i < Z.length := by have := hf.ok.dlt i hiD; omega
    have hless := pop_less hf hF hD
    have hfull := pop_full hf hF hD
    rw [propF_step hF hD, propF_same (meas s) (meas (popS s i D) + 1) _ hfull hless (Nat.lt_succ_self _)]
    by_cases hm : meetL (s.cl i) s.H = true
    · have e : popS s i D = { s with D := D } := by unfold popS; rw [if_pos hm]
      rw [e] at hless hfull ⊢
      exact ih { s with D := D } V (k + 1) hless hfull hC ha hfu
    · obtain ⟨x, ex, h1, h2, h3, h4, h5, h6⟩ := unit_of hf hF hD hm
      have e : popS s i D = holdS { s with D := D } x i := by unfold popS; rw [if_neg hm, ex]
      have hui : Uni s.H (Z[i]?.getD []) x := ⟨by rw [← hnz i hi]; simpa using hm, h2, by rw [← hnz i hi]; exact h1⟩
      have hs2 : (scanS V Z 0 0).2 = x := scan_uni ha hH Z 0 i x hz hnn hi hui (fun q hq y hy => by
       have hqD := huD q (by omega) y hy
       have hsrt := hf.ok.dsort
       rw [hD] at hqD hsrt
       rw [List.pairwise_cons] at hsrt
       rcases List.mem_cons.1 hqD with e | e
       · omega
       · have := hsrt.1 q e; omega)
      rw [run_more (Prod.ext hs1 hs2) h2]
      obtain ⟨t1, t2, t3, t4, t5⟩ := hold_same { s with D := D } x i
      rw [e] at hless hfull ⊢
      have hxz : x ∈ Z[i]?.getD [] := by
       have hm9 : mem (setL (Z[i]?.getD [])) x = true := by rw [← hnz i hi]; exact h4
       exact (mem_zs (hz _ (by rw [List.getElem?_eq_getElem hi]; exact List.getElem_mem hi)) x).1 hm9
      have hxn : x.natAbs < n := hzn _ (by rw [List.getElem?_eq_getElem hi]; exact List.getElem_mem hi) x hxz
      have hvx : V x.natAbs = 0 := by
       have := ha x h2 h3.1 h3.2
       rw [h5, h6] at this
       simp at this
       unfold runS.valOf at this
       split at this <;> omega
      have := ih (holdS { s with D := D } x i) (runS.setV V x) k hless hfull (t1.trans hC) (by rw [t3]; exact agree_hold ha h2 h3.1 h3.2 ⟨h5, h6⟩) (by have := open_set (V := V) (z := x) n hxn hvx; omega)
      rw [t4, List.map_append] at this
      exact this
 · rcases hf.ok.fin with e | ⟨p, hp, e, hr⟩
   · exact absurd e hF
   · have hpl : p < Z.length := by omega
     have hnp : Nul s.H (Z[p]?.getD []) := ⟨by rw [← hnz p hpl]; exact full_false hf hp hr, by rw [← hnz p hpl]; exact hr⟩
     have hs1 : (scanS V Z 0 0).1 = 0 + (p : Int) := scan_nul ha hH Z 0 0 p hz hpl hnp (fun q hq hn => by
      rcases hf.st q (by omega) with h1 | ⟨_, _, h1⟩ | ⟨y, q1, q2, _⟩ | ⟨q1, _⟩
      · rw [hnz q (by omega), hn.1] at h1; cases h1
      · omega
      · have : mem (restL (s.cl q) s.H) y = true := by rw [q1, mem_only q2]; simp
        rw [hnz q (by omega), hn.2, mem_zero] at this; cases this
      · rw [hnz q (by omega), hn.2, mem_zero] at q1; cases q1)
     rw [propF_end (.inl hF), run_last (at_ := (p : Int)) (u := (scanS V Z 0 0).2) (Prod.ext (by rw [hs1]; simp) rfl) (by omega), e]
     exact ⟨rfl, rfl⟩
theorem run_prop {n : Nat} {Z : List (List Int)} (hz : ∀ zs ∈ Z, Lit40 zs) (hzn : ∀ zs ∈ Z, ∀ z ∈ zs, z.natAbs < n) : ∀ (m : Nat) (s : Sv) (V : Nat → Int) (f : Nat), meas s ≤ m → Full s → s.C = Z.map setL → Agree V s.H → openN V n < f →
  (runF f Z V (s.T.map Prod.fst)).1 = (propF (meas s + 1) s).T.map Prod.fst ∧ (runF f Z V (s.T.map Prod.fst)).2.1 = (propF (meas s + 1) s).F := by
 intro m
 induction m with
 | zero => exact fun s V f hm hf hC ha hfu => run_go hz hzn s V f hf hC ha hfu (fun s' V' f' h => (by omega))
 | succ m ih => exact fun s V f hm hf hC ha hfu => run_go hz hzn s V f hf hC ha hfu (fun s' V' f' h => ih s' V' f' (by omega))
end Go.Proofs.YtmkhoocokpkojaaGreatDoor.solRun
