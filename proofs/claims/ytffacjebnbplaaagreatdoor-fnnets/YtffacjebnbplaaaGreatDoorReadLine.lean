/- A line of a network's text is read, of the program; conditions: a right network, the lines ahead of it have been read. -/
import Derived.Test.YtffacjebnbplaaaGreatDoorReadGo
import Derived.Test.YtffacjebnbplaaaGreatDoorReadImport
namespace Go.Proofs.YtffacjebnbplaaaGreatDoor.readLine
open Go.RowKit Go.Deep Go base netSem netLines netBytes askWords askSem readMath readNew readMem readSmall readAdd readLink readFilter readInto readImport readGo
set_option linter.unusedVariables false

/-- How many of each kind have been read behind t lines. -/
def cntN (l : Nat → Nat) (t : Nat) : Nat → Nat
  | 0 => min t (l 0)
  | 1 => min (t - l 0) (l 1)
  | 2 => min (t - l 0 - l 1) (l 2)
  | 3 => min (t - l 0 - l 1 - l 2) (l 3)
  | 4 => min (t - l 0 - l 1 - l 2 - l 3) (l 4)
  | _ => min (t - l 0 - l 1 - l 2 - l 3 - l 4) (l 5)
def totN (l : Nat → Nat) : Nat := l 0 + l 1 + l 2 + l 3 + l 4 + l 5
variable {l : Nat → Nat} {s : Ss} {g x f : netSem.R} {o e : List Int}
theorem all_len : (allW l s g o e x f).length = totN l := by
  simp [allW, totN]
  omega
theorem range_at {α : Type} (W : Nat → α) {n t : Nat} (h : t < n) : ((List.range n).map W)[t]? = some (W t) := by simp [h]
theorem all_at {t : Nat} (ht : t < totN l) : (t < l 0 ∧ (allW l s g o e x f)[t]? = some (rW s t)) ∨ (∃ i, i < l 1 ∧ t = l 0 + i ∧ (allW l s g o e x f)[t]? = some (lkW s g i)) ∨ (∃ i, i < l 2 ∧ t = l 0 + l 1 + i ∧ (allW l s g o e x f)[t]? = some (oW s o i)) ∨ (∃ i, i < l 3 ∧ t = l 0 + l 1 + l 2 + i ∧ (allW l s g o e x f)[t]? = some (eW s e i)) ∨ (∃ i, i < l 4 ∧ t = l 0 + l 1 + l 2 + l 3 + i ∧ (allW l s g o e x f)[t]? = some (iW s x i)) ∨ (∃ i, i < l 5 ∧ t = l 0 + l 1 + l 2 + l 3 + l 4 + i ∧ (allW l s g o e x f)[t]? = some (fW s f i)) := by
  unfold totN at ht
  unfold allW
  simp only [List.append_assoc]
  have hl : ∀ {α : Type} (W : Nat → α) (n : Nat), ((List.range n).map W).length = n := fun W n => by simp
  by_cases h0 : t < l 0
  · exact .inl ⟨h0, by rw [List.getElem?_append_left (by rw [hl]; exact h0)]; exact range_at _ h0⟩
  · right
    rw [List.getElem?_append_right (by rw [hl]; omega), hl]
    by_cases h1 : t - l 0 < l 1
    · exact .inl ⟨t - l 0, h1, by omega, by rw [List.getElem?_append_left (by rw [hl]; exact h1)]; exact range_at _ h1⟩
    · right
      rw [List.getElem?_append_right (by rw [hl]; omega), hl]
      by_cases h2 : t - l 0 - l 1 < l 2
      · exact .inl ⟨t - l 0 - l 1, h2, by omega, by rw [List.getElem?_append_left (by rw [hl]; exact h2)]; exact range_at _ h2⟩
      · right
        rw [List.getElem?_append_right (by rw [hl]; omega), hl]
        by_cases h3 : t - l 0 - l 1 - l 2 < l 3
        · exact .inl ⟨t - l 0 - l 1 - l 2, h3, by omega, by rw [List.getElem?_append_left (by rw [hl]; exact h3)]; exact range_at _ h3⟩
        · right
          rw [List.getElem?_append_right (by rw [hl]; omega), hl]
          by_cases h4 : t - l 0 - l 1 - l 2 - l 3 < l 4
          · exact .inl ⟨t - l 0 - l 1 - l 2 - l 3, h4, by omega, by rw [List.getElem?_append_left (by rw [hl]; exact h4)]; exact range_at _ h4⟩
          · right
            rw [List.getElem?_append_right (by rw [hl]; omega), hl]
            exact ⟨t - l 0 - l 1 - l 2 - l 3 - l 4, by omega, by omega, range_at _ (by omega)⟩
/-- What a right network says of each line. -/
structure Facts (l : Nat → Nat) (s : Ss) (g : netSem.R) (o e : List Int) (x f : netSem.R) : Prop where
  l0 : l 0 ≤ 4
  l1 : l 1 ≤ 6
  l2 : l 2 ≤ 4
  l3 : l 3 ≤ 2
  l4 : l 4 ≤ 12
  l5 : l 5 ≤ 6
  nam : ∀ a, a < l 0 → Named s (l 0) a ∧ nameAt s a (s a) < 0
  link : ∀ i, i < l 1 → ∃ a b n : Nat, a < l 0 ∧ b < l 0 ∧ a ≠ b ∧ 1 ≤ n ∧ n ≤ 100 ∧ g i 0 = a ∧ g i 1 = b ∧ g i 2 = n ∧ linkAt g i a b < 0
  orig : ∀ i, i < l 2 → ∃ a : Nat, a < l 0 ∧ zAt o i = a
  extn : ∀ i, i < l 3 → ∃ a : Nat, a < l 0 ∧ zAt e i = a
  oup : ∀ t u, t < u → u < l 2 → zAt o t < zAt o u
  eup : ∀ t u, t < u → u < l 3 → zAt e t < zAt e u
  impo : ∀ i, i < l 4 → ∃ a b h d n : Nat, a < l 0 ∧ b < l 0 ∧ h ≤ 2 ∧ 1 ≤ d ∧ d ≤ 4 ∧ n ≤ 1000 ∧ (d ≠ 2 → n = 0) ∧ x i 0 = a ∧ x i 1 = b ∧ x i 2 = h ∧ x i 3 = d ∧ x i 4 = n ∧ 0 ≤ linkAt g (l 1) a b
  filt : ∀ i, i < l 5 → ∃ a b n m : Nat, a < l 0 ∧ b < l 0 ∧ n ≤ 15 ∧ m ≤ 15 ∧ portsB n m = true ∧ f i 0 = a ∧ f i 1 = b ∧ f i 2 = n ∧ f i 3 = m ∧ 0 ≤ linkAt g (l 1) a b
theorem rising_up {z : List Int} {n r : Nat} (h : risingB z n r = true) : ∀ t u, t < u → u < n → zAt z t < zAt z u := by
  intro t u htu hu
  induction u with
  | zero => omega
  | succ u ih =>
    have h1 := allN_iff.1 h (u + 1) hu
    simp only [risesB, Bool.and_eq_true, Bool.or_eq_true, decide_eq_true_eq, Nat.add_sub_cancel] at h1
    have h2 : zAt z u < zAt z (u + 1) := by rcases h1.2 with h3 | h3 <;> omega
    by_cases e0 : t = u
    · subst e0; exact h2
    · have := ih (by omega) (by omega); omega
theorem facts (hB : netB l s g o e x f = true) : Facts l s g o e x f := by
  have hg := good hB
  simp only [netB, Bool.and_eq_true, decide_eq_true_eq] at hB
  obtain ⟨⟨⟨⟨⟨⟨h1, h2⟩, h3⟩, h4⟩, h5⟩, h6⟩, h7⟩ := hB
  simp only [linksB, Bool.and_eq_true, decide_eq_true_eq] at h2
  simp only [importsB, Bool.and_eq_true, decide_eq_true_eq] at h6
  simp only [filtersB, Bool.and_eq_true, decide_eq_true_eq] at h7
  refine ⟨hg.l0, hg.l1, hg.l2, hg.l3, hg.l4, hg.l5, fun a ha => ?_, fun i hi => ?_, hg.orig, hg.extn, rising_up h3, rising_up h4, fun i hi => ?_, fun i hi => ?_⟩
  · obtain ⟨q1, q2, q3⟩ := name_at h1 ha
    exact ⟨⟨q1, q2⟩, q3⟩
  · obtain ⟨a, b, n, ha, hb, hn, e0, e1, e2⟩ := hg.link i hi
    have h8 := allN_iff.1 h2.2 i hi
    simp only [linkB, Bool.and_eq_true, decide_eq_true_eq, e0, e1, e2] at h8
    obtain ⟨⟨⟨_, h9⟩, h10⟩, h11⟩ := h8
    have := in_of h10
    exact ⟨a, b, n, ha, hb, by omega, by omega, hn, e0, e1, e2, h11⟩
  · obtain ⟨a, b, w, d, n, ha, hb, hw, hd, hd', hn, e0, e1, e2, e3, e4⟩ := hg.impo i hi
    have h8 := allN_iff.1 h6.2 i hi
    simp only [importB, deedB, Bool.and_eq_true, decide_eq_true_eq, e0, e1, e2, e3, e4] at h8
    obtain ⟨h9, _, h10⟩ := h8
    have h11 := in_of h10
    refine ⟨a, b, w, d, n, ha, hb, hw, hd, hd', hn, fun hne => ?_, e0, e1, e2, e3, e4, h9⟩
    rw [if_neg (by omega)] at h11
    omega
  · obtain ⟨a, b, n, m, ha, hb, hn, hm, e0, e1, e2, e3⟩ := hg.filt i hi
    have h8 := allN_iff.1 h7.2 i hi
    simp only [filterB, Bool.and_eq_true, decide_eq_true_eq, e0, e1, e2, e3] at h8
    exact ⟨a, b, n, m, ha, hb, hn, hm, h8.2, e0, e1, e2, e3, h8.1⟩
theorem congr {M mb B : Nat} {k k' : Nat → Nat} {v : Nat → Value} {w : World} (h : NRd M mb B s g o e x f k v w) (hk : ∀ j, j < 6 → k j = k' j) : NRd M mb B s g o e x f k' v w :=
  ⟨h.cells, fun j hj => by rw [← hk j hj]; exact h.rows j hj, h.apart, h.map, h.lt, h.mlt, h.ne, h.le⟩
theorem cnt_step {t i j : Nat} (hj : j < 6) (h : ∀ q, q < 6 → cntN l (t + 1) q = if q = j then i + 1 else cntN l t q) : ∀ q, q < 6 → fset (cntN l t) j (i + 1) q = cntN l (t + 1) q := fun q hq => by
  rw [h q hq]
  unfold fset
  rfl
theorem trow_at {w w8 : World} {ad : Option Addr} {c : Nat} {L : List Wd} (h : TRow w.heap.size w ad c L) (hb : Below w.heap.size w w8) : TRow w8.heap.size w8 ad c L := (h.under hb).mono hb.size
theorem read_line (hF : Facts l s g o e x f) {M mb B t : Nat} {v : Nat → Value} {w : World} {ws : List Wd} (ad : Option Addr) (c : Nat) (ht : t < totN l) (hw : (allW l s g o e x f)[t]? = some ws) (h : NRd M mb B s g o e x f (cntN l t) v w) (hR : TRow w.heap.size w ad c ws) :
    Calls Tryz.prog 16 #[.pointer (some ⟨M, 0, none⟩), .slice ad ws.length c] w fun e' w' => ∃ v', e' = .returned (.int .i64 0) ∧ NRd M mb B s g o e x f (cntN l (t + 1)) v' w' ∧ Stay M B w w' := by
  have hsz : ∀ a, a < l 0 → (s a).size ≤ maxLen := fun a ha => by
    have h1 := (hF.nam a ha).1.ok
    simp only [names.nameB, Bool.and_eq_true, decide_eq_true_eq] at h1
    unfold maxLen
    omega
  have hl := hF.l0
  rcases all_at (s := s) (g := g) (o := o) (e := e) (x := x) (f := f) ht with ⟨h0, hw'⟩ | ⟨i, hi, et, hw'⟩ | ⟨i, hi, et, hw'⟩ | ⟨i, hi, et, hw'⟩ | ⟨i, hi, et, hw'⟩ | ⟨i, hi, et, hw'⟩
  all_goals
    rw [hw] at hw'
    injection hw' with hw'
    subst hw'
  · refine read_go (k' := cntN l (t + 1)) ad c kRouter _ h hR .router fun w8 hb => ?_
    refine (router_impl (n := t) ad c (h.below hb) (trow_at hR hb) (by simp [cntN]; omega) (by omega) (fun i hi => (hF.nam i (by omega)).1.ok) (hF.nam t h0).2).mono ?_
    rintro e' w' ⟨v', rfl, hn, hs⟩
    exact ⟨v', rfl, congr hn (cnt_step (by omega) fun q hq => by
      obtain rfl | rfl | rfl | rfl | rfl | rfl : q = 0 ∨ q = 1 ∨ q = 2 ∨ q = 3 ∨ q = 4 ∨ q = 5 := by omega
      all_goals simp [cntN]
      all_goals omega), hs⟩
  · obtain ⟨a, b, n, ha, hb', hab, n0, n1, e0, e1, e2, hlk⟩ := hF.link i hi
    refine read_go (k' := cntN l (t + 1)) ad c kLink _ h hR .link fun w8 hb => ?_
    refine (link_read (r := l 0) (i := i) ad c (h.below hb) (trow_at hR hb) (by simp [cntN]; omega) (by simp [cntN]; omega) hsz e0 e1 e2 (hF.nam a ha).1 (hF.nam b hb').1 hab n0 n1 hlk (by have := hF.l1; omega)).mono ?_
    rintro e' w' ⟨v', rfl, hn, hs⟩
    exact ⟨v', rfl, congr hn (cnt_step (by omega) fun q hq => by
      obtain rfl | rfl | rfl | rfl | rfl | rfl : q = 0 ∨ q = 1 ∨ q = 2 ∨ q = 3 ∨ q = 4 ∨ q = 5 := by omega
      all_goals simp [cntN]
      all_goals omega), hs⟩
  · obtain ⟨a, ha, e0⟩ := hF.orig i hi
    refine read_go (k' := cntN l (t + 1)) ad c kOrigin _ h hR .origin fun w8 hb => ?_
    refine (origin_impl (r := l 0) (i := i) ad c (h.below hb) (trow_at hR hb) (by simp [cntN]; omega) (by simp [cntN]; omega) hsz e0 (hF.nam a ha).1 (by have := hF.l2; omega) (fun t u h1 h2 => hF.oup t u h1 (by omega))).mono ?_
    rintro e' w' ⟨v', rfl, hn, hs⟩
    exact ⟨v', rfl, congr hn (cnt_step (by omega) fun q hq => by
      obtain rfl | rfl | rfl | rfl | rfl | rfl : q = 0 ∨ q = 1 ∨ q = 2 ∨ q = 3 ∨ q = 4 ∨ q = 5 := by omega
      all_goals simp [cntN]
      all_goals omega), hs⟩
  · obtain ⟨a, ha, e0⟩ := hF.extn i hi
    refine read_go (k' := cntN l (t + 1)) ad c kExternal _ h hR .ext fun w8 hb => ?_
    refine (external_impl (r := l 0) (i := i) ad c (h.below hb) (trow_at hR hb) (by simp [cntN]; omega) (by simp [cntN]; omega) hsz e0 (hF.nam a ha).1 (by have := hF.l3; omega) (fun t u h1 h2 => hF.eup t u h1 (by omega))).mono ?_
    rintro e' w' ⟨v', rfl, hn, hs⟩
    exact ⟨v', rfl, congr hn (cnt_step (by omega) fun q hq => by
      obtain rfl | rfl | rfl | rfl | rfl | rfl : q = 0 ∨ q = 1 ∨ q = 2 ∨ q = 3 ∨ q = 4 ∨ q = 5 := by omega
      all_goals simp [cntN]
      all_goals omega), hs⟩
  · obtain ⟨a, b, hh, d, n, ha, hb', q1, q2, q3, q4, q5, e0, e1, e2, e3, e4, hlk⟩ := hF.impo i hi
    refine read_go (k' := cntN l (t + 1)) ad c kImport _ h hR .imp fun w8 hb => ?_
    refine (import_read (r := l 0) (nl := l 1) (i := i) ad c (h.below hb) (trow_at hR hb) rfl (by simp [cntN]; omega) (by simp [cntN]; omega) (by simp [cntN]; omega) hsz e0 e1 e2 e3 e4 (hF.nam a ha).1 (hF.nam b hb').1 q1 q2 q3 q4 q5 hlk (by have := hF.l4; omega)).mono ?_
    rintro e' w' ⟨v', rfl, hn, hs⟩
    exact ⟨v', rfl, congr hn (cnt_step (by omega) fun q hq => by
      obtain rfl | rfl | rfl | rfl | rfl | rfl : q = 0 ∨ q = 1 ∨ q = 2 ∨ q = 3 ∨ q = 4 ∨ q = 5 := by omega
      all_goals simp [cntN]
      all_goals omega), hs⟩
  · obtain ⟨a, b, n, m, ha, hb', q1, q2, q3, e0, e1, e2, e3, hlk⟩ := hF.filt i hi
    refine read_go (k' := cntN l (t + 1)) ad c kFilter _ h hR .filt fun w8 hb => ?_
    refine (filter_read (r := l 0) (nl := l 1) (i := i) ad c (h.below hb) (trow_at hR hb) (by simp [cntN]; omega) (by simp [cntN]; omega) (by simp [cntN]; omega) hsz e0 e1 e2 e3 (hF.nam a ha).1 (hF.nam b hb').1 q1 q2 q3 hlk (by have := hF.l5; omega)).mono ?_
    rintro e' w' ⟨v', rfl, hn, hs⟩
    exact ⟨v', rfl, congr hn (cnt_step (by omega) fun q hq => by
      obtain rfl | rfl | rfl | rfl | rfl | rfl : q = 0 ∨ q = 1 ∨ q = 2 ∨ q = 3 ∨ q = 4 ∨ q = 5 := by omega
      all_goals simp [cntN]
      all_goals omega), hs⟩
end Go.Proofs.YtffacjebnbplaaaGreatDoor.readLine
