/- A network's text as bytes, and what a right network says of its parts; of no program; conditions: none. -/
import Derived.Test.YtffacjebnbplaaaGreatDoorPart5
import Derived.Test.YtffacjebnbplaaaGreatDoorNetLines
namespace Go.Proofs.YtffacjebnbplaaaGreatDoor.netBytes
open Go.RowKit Go.Deep base names netSem netLines
set_option linter.unusedVariables false

/-- What the lines below k say. -/
def upTo (f : Nat → List UInt8) (k : Nat) : List UInt8 := (List.range k).flatMap f
theorem up_zero (f : Nat → List UInt8) : upTo f 0 = [] := rfl
theorem up_succ (f : Nat → List UInt8) (k : Nat) : upTo f (k + 1) = upTo f k ++ f k := by simp [upTo, List.range_succ]
theorem up_len {f : Nat → List UInt8} {m : Nat} : ∀ {k : Nat}, (∀ i, i < k → (f i).length ≤ m) → (upTo f k).length ≤ k * m
  | 0, _ => by simp [upTo]
  | k + 1, h => by
    have h1 := up_len (k := k) (fun i hi => h i (by omega))
    have h2 := h k (by omega)
    rw [up_succ, List.length_append, Nat.succ_mul]
    omega
theorem up_most {f : Nat → List UInt8} {n : Nat} (h : ∀ i, i < n → (f i).length ≤ 3000) (hn : n ≤ 12) {k : Nat} (hk : k ≤ n) : (upTo f k).length ≤ 36000 := by
  have h1 := up_len (f := f) (m := 3000) (k := k) (fun i hi => h i (by omega))
  have h2 : k * 3000 ≤ 12 * 3000 := Nat.mul_le_mul_right _ (by omega)
  omega

def nm (s : Ss) (z : Int) : List UInt8 := (s z.toNat).data.toList
theorem nm_nat (s : Ss) (a : Nat) : nm s (a : Int) = (s a).data.toList := rfl
def routerL (s : Ss) (i : Nat) : List UInt8 := [114, 111, 117, 116, 101, 114, 32] ++ nm s i ++ [10]
def linkL (s : Ss) (g : R) (i : Nat) : List UInt8 := [108, 105, 110, 107, 32] ++ nm s (g i 0) ++ [32] ++ nm s (g i 1) ++ [32, 99, 111, 115, 116, 32] ++ Lib.itoa (g i 2) ++ [10]
def origL (s : Ss) (z : List Int) (i : Nat) : List UInt8 := [111, 114, 105, 103, 105, 110, 32] ++ nm s (zAt z i) ++ [10]
def extL (s : Ss) (z : List Int) (i : Nat) : List UInt8 := [101, 120, 116, 101, 114, 110, 97, 108, 32] ++ nm s (zAt z i) ++ [10]
def whenS (z : Int) : List UInt8 := if z = 1 then [32, 105, 102, 32, 109, 97, 114, 107] else if z = 2 then [32, 105, 102, 32, 112, 108, 97, 105, 110] else []
def doS (z : Int) : List UInt8 := if z = 1 then [32, 100, 101, 110, 121] else if z = 2 then [32, 112, 114, 101, 102] else if z = 3 then [32, 109, 97, 114, 107] else if z = 4 then [32, 99, 108, 101, 97, 114] else []
def prefS (d n : Int) : List UInt8 := if d = 2 then [32] ++ Lib.itoa n else []
def impL (s : Ss) (x : R) (i : Nat) : List UInt8 := [105, 109, 112, 111, 114, 116, 32] ++ nm s (x i 0) ++ [32, 102, 114, 111, 109, 32] ++ nm s (x i 1) ++ whenS (x i 2) ++ doS (x i 3) ++ prefS (x i 3) (x i 4) ++ [10]
def filtL (s : Ss) (f : R) (i : Nat) : List UInt8 := [102, 105, 108, 116, 101, 114, 32] ++ nm s (f i 0) ++ [32, 116, 111, 32] ++ nm s (f i 1) ++ [32, 112, 111, 114, 116, 32] ++ Lib.itoa (f i 2) ++ [32] ++ Lib.itoa (f i 3) ++ [10]
def netL (l : Nat → Nat) (s : Ss) (g : R) (o e : List Int) (x f : R) : List UInt8 :=
  upTo (routerL s) (l 0) ++ upTo (linkL s g) (l 1) ++ upTo (origL s o) (l 2) ++ upTo (extL s e) (l 3) ++ upTo (impL s x) (l 4) ++ upTo (filtL s f) (l 5)

/-- What a right network says of its parts. -/
structure Good (l : Nat → Nat) (s : Ss) (g : R) (o e : List Int) (x f : R) : Prop where
  l0 : l 0 ≤ 4
  l1 : l 1 ≤ 6
  l2 : l 2 ≤ 4
  l3 : l 3 ≤ 2
  l4 : l 4 ≤ 12
  l5 : l 5 ≤ 6
  name : ∀ i, i < l 0 → (s i).size ≤ 40
  link : ∀ i, i < l 1 → ∃ a b n : Nat, a < l 0 ∧ b < l 0 ∧ n ≤ 100 ∧ g i 0 = a ∧ g i 1 = b ∧ g i 2 = n
  orig : ∀ i, i < l 2 → ∃ a : Nat, a < l 0 ∧ zAt o i = a
  extn : ∀ i, i < l 3 → ∃ a : Nat, a < l 0 ∧ zAt e i = a
  impo : ∀ i, i < l 4 → ∃ a b h d n : Nat, a < l 0 ∧ b < l 0 ∧ h ≤ 2 ∧ 1 ≤ d ∧ d ≤ 4 ∧ n ≤ 1000 ∧ x i 0 = a ∧ x i 1 = b ∧ x i 2 = h ∧ x i 3 = d ∧ x i 4 = n
  filt : ∀ i, i < l 5 → ∃ a b n m : Nat, a < l 0 ∧ b < l 0 ∧ n ≤ 15 ∧ m ≤ 15 ∧ f i 0 = a ∧ f i 1 = b ∧ f i 2 = n ∧ f i 3 = m
theorem in_nat {z : Int} {r : Nat} (h : inB z 0 ((r : Int) - 1) = true) : ∃ a : Nat, a < r ∧ z = a := by
  have := of_decide_eq_true h
  exact ⟨z.toNat, by omega, by omega⟩
theorem in_of {z a b : Int} (h : inB z a b = true) : a ≤ z ∧ z ≤ b := of_decide_eq_true h
theorem rising_in {z : List Int} {n r : Nat} (h : risingB z n r = true) : ∀ i, i < n → ∃ a : Nat, a < r ∧ zAt z i = a := fun i hi => by
  have h1 := allN_iff.1 h i hi
  simp only [risesB, Bool.and_eq_true] at h1
  exact in_nat h1.1
theorem rising_ge {z : List Int} {n r : Nat} (h : risingB z n r = true) : ∀ i, i < n → (i : Int) ≤ zAt z i
  | 0, hi => by
    obtain ⟨a, _, e⟩ := rising_in h 0 hi
    omega
  | i + 1, hi => by
    have h0 := rising_ge h i (by omega)
    have h1 := allN_iff.1 h (i + 1) hi
    simp only [risesB, Bool.and_eq_true, Bool.or_eq_true, decide_eq_true_eq] at h1
    have h2 := h1.2
    rcases h2 with h2 | h2
    · omega
    · simp only [Nat.add_sub_cancel] at h2
      omega
theorem rising_len {z : List Int} {n r : Nat} (h : risingB z n r = true) : n ≤ r := by
  rcases Nat.eq_zero_or_pos n with h0 | h0
  · omega
  · have h1 := rising_ge h (n - 1) (by omega)
    obtain ⟨a, ha, e⟩ := rising_in h (n - 1) (by omega)
    omega
theorem link_ends {g : R} {n r : Nat} {a b : Int} (hl : ∀ i, i < n → inB (g i 0) 0 ((r : Int) - 1) = true ∧ inB (g i 1) 0 ((r : Int) - 1) = true) (h : 0 ≤ linkAt g n a b) : (∃ k : Nat, k < r ∧ a = k) ∧ (∃ k : Nat, k < r ∧ b = k) := by
  obtain ⟨i, hi, hp⟩ := firstAt_spec.1 h
  obtain ⟨h1, h2⟩ := hl i hi
  have hp' := of_decide_eq_true hp
  rcases hp' with ⟨rfl, rfl⟩ | ⟨rfl, rfl⟩
  · exact ⟨in_nat h1, in_nat h2⟩
  · exact ⟨in_nat h2, in_nat h1⟩
theorem good {l : Nat → Nat} {s : Ss} {g x f : R} {o e : List Int} (h : netB l s g o e x f = true) : Good l s g o e x f := by
  simp only [netB, Bool.and_eq_true, decide_eq_true_eq] at h
  obtain ⟨⟨⟨⟨⟨⟨h1, h2⟩, h3⟩, h4⟩, h5⟩, h6⟩, h7⟩ := h
  simp only [routersB, Bool.and_eq_true] at h1
  simp only [linksB, Bool.and_eq_true, decide_eq_true_eq] at h2
  simp only [importsB, Bool.and_eq_true, decide_eq_true_eq] at h6
  simp only [filtersB, Bool.and_eq_true, decide_eq_true_eq] at h7
  have r0 := in_of h1.1
  have hlk : ∀ i, i < l 1 → (inB (g i 0) 0 ((l 0 : Int) - 1) = true ∧ inB (g i 1) 0 ((l 0 : Int) - 1) = true) ∧ inB (g i 2) 1 100 = true := fun i hi => by
    have := allN_iff.1 h2.2 i hi
    simp only [linkB, Bool.and_eq_true] at this
    exact ⟨this.1.1.1, this.1.2⟩
  have k2 := rising_len h3
  have k3 := rising_len h4
  refine ⟨by omega, h2.1, by omega, h5, h6.1, h7.1, ?_, ?_, rising_in h3, rising_in h4, ?_, ?_⟩
  · intro i hi
    have := allN_iff.1 h1.2 i hi
    simp only [routerB, Bool.and_eq_true] at this
    have h8 := this.1
    simp only [nameB, Bool.and_eq_true, decide_eq_true_eq] at h8
    exact h8.1.2
  · intro i hi
    obtain ⟨⟨ha, hb⟩, hc⟩ := hlk i hi
    obtain ⟨a, ha1, ha2⟩ := in_nat ha
    obtain ⟨b, hb1, hb2⟩ := in_nat hb
    have := in_of hc
    exact ⟨a, b, (g i 2).toNat, ha1, hb1, by omega, ha2, hb2, by omega⟩
  · intro i hi
    have := allN_iff.1 h6.2 i hi
    simp only [importB, deedB, Bool.and_eq_true, decide_eq_true_eq] at this
    obtain ⟨hk, ⟨hw, hd⟩, hn⟩ := this
    obtain ⟨⟨a, ha1, ha2⟩, ⟨b, hb1, hb2⟩⟩ := link_ends (fun i hi => (hlk i hi).1) hk
    have q1 := in_of hw
    have q2 := in_of hd
    have q3 := in_of hn
    have q4 : (if x i 3 = 2 then (1000 : Int) else 0) ≤ 1000 := by split <;> omega
    exact ⟨a, b, (x i 2).toNat, (x i 3).toNat, (x i 4).toNat, ha1, hb1, by omega, by omega, by omega, by omega, ha2, hb2, by omega, by omega, by omega⟩
  · intro i hi
    have := allN_iff.1 h7.2 i hi
    simp only [filterB, portsB, Bool.and_eq_true, decide_eq_true_eq] at this
    obtain ⟨hk, hw, hn⟩ := this
    obtain ⟨⟨a, ha1, ha2⟩, ⟨b, hb1, hb2⟩⟩ := link_ends (fun i hi => (hlk i hi).1) hk
    have q3 := in_of hn
    exact ⟨a, b, (f i 2).toNat, (f i 3).toNat, ha1, hb1, by omega, by omega, ha2, hb2, by omega, by omega⟩

variable {l : Nat → Nat} {s : Ss} {g x f : R} {o e : List Int}
theorem Good.nm (h : Good l s g o e x f) {a : Nat} (ha : a < l 0) : (netBytes.nm s (a : Int)).length ≤ 40 := by
  rw [nm_nat, Array.length_toList]; exact h.name a ha
theorem num_len {n : Nat} (h : n ≤ 1000) : (Lib.itoa (n : Int)).length ≤ 1002 := itoa_len _ (by omega) (by omega)
theorem Good.router (h : Good l s g o e x f) : ∀ i, i < l 0 → (routerL s i).length ≤ 3000 := fun i hi => by
  have := h.nm hi
  simp only [routerL, List.length_append, List.length_cons, List.length_nil]; omega
theorem Good.links (h : Good l s g o e x f) : ∀ i, i < l 1 → (linkL s g i).length ≤ 3000 := fun i hi => by
  obtain ⟨a, b, n, ha, hb, hn, e1, e2, e3⟩ := h.link i hi
  have h1 := h.nm ha
  have h2 := h.nm hb
  have h3 := num_len (n := n) (by omega)
  simp only [linkL, e1, e2, e3, List.length_append, List.length_cons, List.length_nil]; omega
theorem Good.origs (h : Good l s g o e x f) : ∀ i, i < l 2 → (origL s o i).length ≤ 3000 := fun i hi => by
  obtain ⟨a, ha, e1⟩ := h.orig i hi
  have h1 := h.nm ha
  simp only [origL, e1, List.length_append, List.length_cons, List.length_nil]; omega
theorem Good.exts (h : Good l s g o e x f) : ∀ i, i < l 3 → (extL s e i).length ≤ 3000 := fun i hi => by
  obtain ⟨a, ha, e1⟩ := h.extn i hi
  have h1 := h.nm ha
  simp only [extL, e1, List.length_append, List.length_cons, List.length_nil]; omega
theorem whenS_len (z : Int) : (whenS z).length ≤ 10 := by unfold whenS; (repeat' split) <;> simp
theorem doS_len (z : Int) : (doS z).length ≤ 10 := by unfold doS; (repeat' split) <;> simp
theorem prefS_len (d : Int) {n : Nat} (h : n ≤ 1000) : (prefS d n).length ≤ 1003 := by
  have := num_len h
  unfold prefS
  split
  · simp only [List.length_append, List.length_cons, List.length_nil]; omega
  · simp
theorem Good.imps (h : Good l s g o e x f) : ∀ i, i < l 4 → (impL s x i).length ≤ 3000 := fun i hi => by
  obtain ⟨a, b, w, d, n, ha, hb, hw, hd, hd', hn, e1, e2, e3, e4, e5⟩ := h.impo i hi
  have h1 := h.nm ha
  have h2 := h.nm hb
  have h3 := whenS_len (w : Int)
  have h4 := doS_len (d : Int)
  have h5 := prefS_len (d : Int) hn
  simp only [impL, e1, e2, e3, e4, e5, List.length_append, List.length_cons, List.length_nil]; omega
theorem Good.filts (h : Good l s g o e x f) : ∀ i, i < l 5 → (filtL s f i).length ≤ 3000 := fun i hi => by
  obtain ⟨a, b, n, m, ha, hb, hn, hm, e1, e2, e3, e4⟩ := h.filt i hi
  have h1 := h.nm ha
  have h2 := h.nm hb
  have h3 := num_len (n := n) (by omega)
  have h4 := num_len (n := m) (by omega)
  simp only [filtL, e1, e2, e3, e4, List.length_append, List.length_cons, List.length_nil]; omega

/- The program's words of a line. -/
def numW (n : Nat) : ByteArray := ⟨(Lib.itoa (n : Int)).toArray⟩
theorem numW_list (n : Nat) : (numW n).data.toList = Lib.itoa (n : Int) := rfl
def whenN (h : Nat) : ByteArray := if h = 0 then ⟨#[]⟩ else if h = 1 then ⟨#[109, 97, 114, 107]⟩ else ⟨#[112, 108, 97, 105, 110]⟩
def doN (d : Nat) : ByteArray := if d = 0 then ⟨#[]⟩ else if d = 1 then ⟨#[100, 101, 110, 121]⟩ else if d = 2 then ⟨#[112, 114, 101, 102]⟩ else if d = 3 then ⟨#[109, 97, 114, 107]⟩ else ⟨#[99, 108, 101, 97, 114]⟩
def whenW (h : Nat) : List ByteArray := if h = 0 then [] else [⟨#[105, 102]⟩, whenN h]
def prefW (d n : Nat) : List ByteArray := if d = 2 then [numW n] else []
def deedW (h d n : Nat) : List ByteArray := whenW h ++ [doN d] ++ prefW d n
theorem deed_len (h d n : Nat) : (deedW h d n).length ≤ 4 := by
  unfold deedW whenW prefW
  split <;> split <;> simp
theorem router_line (s : Ss) (i : Nat) : lineB (([⟨#[114, 111, 117, 116, 101, 114]⟩, s i] : List ByteArray).map (·.data.toList)) = routerL s i := by
  simp [lineB, Lib.join, List.intercalate, routerL, nm_nat]
theorem link_line {s : Ss} {g : R} {i a b n : Nat} (e1 : g i 0 = a) (e2 : g i 1 = b) (e3 : g i 2 = n) : lineB (([⟨#[108, 105, 110, 107]⟩, s a, s b, ⟨#[99, 111, 115, 116]⟩, numW n] : List ByteArray).map (·.data.toList)) = linkL s g i := by
  simp [lineB, Lib.join, List.intercalate, linkL, nm_nat, e1, e2, e3, numW_list]
theorem orig_line {s : Ss} {z : List Int} {i a : Nat} (e1 : zAt z i = a) : lineB (([⟨#[111, 114, 105, 103, 105, 110]⟩, s a] : List ByteArray).map (·.data.toList)) = origL s z i := by
  simp [lineB, Lib.join, List.intercalate, origL, nm_nat, e1]
theorem ext_line {s : Ss} {z : List Int} {i a : Nat} (e1 : zAt z i = a) : lineB (([⟨#[101, 120, 116, 101, 114, 110, 97, 108]⟩, s a] : List ByteArray).map (·.data.toList)) = extL s z i := by
  simp [lineB, Lib.join, List.intercalate, extL, nm_nat, e1]
theorem filt_line {s : Ss} {f : R} {i a b n m : Nat} (e1 : f i 0 = a) (e2 : f i 1 = b) (e3 : f i 2 = n) (e4 : f i 3 = m) : lineB (([⟨#[102, 105, 108, 116, 101, 114]⟩, s a, ⟨#[116, 111]⟩, s b, ⟨#[112, 111, 114, 116]⟩, numW n, numW m] : List ByteArray).map (·.data.toList)) = filtL s f i := by
  simp [lineB, Lib.join, List.intercalate, filtL, nm_nat, e1, e2, e3, e4, numW_list]
theorem imp_line {s : Ss} {x : R} {i a b h d n : Nat} (hh : h ≤ 2) (h1 : 1 ≤ d) (h4 : d ≤ 4) (e1 : x i 0 = a) (e2 : x i 1 = b) (e3 : x i 2 = h) (e4 : x i 3 = d) (e5 : x i 4 = n) : lineB (([⟨#[105, 109, 112, 111, 114, 116]⟩, s a, ⟨#[102, 114, 111, 109]⟩, s b] ++ deedW h d n : List ByteArray).map (·.data.toList)) = impL s x i := by
  obtain rfl | rfl | rfl : h = 0 ∨ h = 1 ∨ h = 2 := by omega
  all_goals obtain rfl | rfl | rfl | rfl : d = 1 ∨ d = 2 ∨ d = 3 ∨ d = 4 := by omega
  all_goals simp [lineB, Lib.join, List.intercalate, impL, nm_nat, e1, e2, e3, e4, e5, deedW, whenW, prefW, whenN, doN, whenS, doS, prefS, numW_list]
end Go.Proofs.YtffacjebnbplaaaGreatDoor.netBytes
