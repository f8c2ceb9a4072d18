/- NetSem; AskSem: one text, so that the claim has fewer files. -/
import Derived.Test.YtffacjebnbplaaaGreatDoorPart1
import Derived.Test.YtffacjebnbplaaaGreatDoorName
import Derived.Test.YtffacjebnbplaaaGreatDoorAskWords
/- Networks: rows of structs and of texts in memory, and what is told of them, as plain functions; of no program; conditions: none. -/
namespace Go.Proofs.YtffacjebnbplaaaGreatDoor.netSem
open Go.RowKit Go.Deep base names
set_option linter.unusedVariables false

theorem bdn {W w1 : World} (h : Below W.heap.size W w1) (n : Nat) : Below W.heap.size W (w1.drewN n) := h.trans ((below_drewN w1 n).mono h.size)
abbrev R := Nat → Nat → Int
abbrev Ss := Nat → ByteArray
/-- A slice of structs of m integers each. -/
structure Row (m : Nat) (w : World) (a : Option Addr) (len : Nat) (g : R) : Prop where
  most : len ≤ maxLen
  cell : ∀ i, i < len → ∃ b off, a = some ⟨b, off, none⟩ ∧ ∀ j, j < m → w.cell? ⟨b, off + i * m + j, none⟩ = some (.int .i64 (g i j))
theorem Row.kept {m : Nat} {W w1 : World} {a : Option Addr} {len : Nat} {g : R} (h : Row m W a len g) (hk : ∀ b o v, W.cell? ⟨b, o, none⟩ = some v → w1.cell? ⟨b, o, none⟩ = some v) : Row m w1 a len g :=
  ⟨h.most, fun i hi => by
    obtain ⟨b, off, e, h0⟩ := h.cell i hi
    exact ⟨b, off, e, fun j hj => hk _ _ _ (h0 j hj)⟩⟩
theorem Row.below {m : Nat} {W w1 : World} {a : Option Addr} {len : Nat} {g : R} (h : Row m W a len g) (hb : Below W.heap.size W w1) : Row m w1 a len g := h.kept fun b o v hv => keep hb hv
theorem Row.front {m : Nat} {w : World} {a : Option Addr} {len k : Nat} {g : R} (h : Row m w a len g) (hk : k ≤ len) : Row m w a k g :=
  ⟨Nat.le_trans hk h.most, fun i hi => h.cell i (by omega)⟩
theorem Row.at3 {w : World} {a : Option Addr} {len i : Nat} {g : R} (h : Row 3 w a len g) (hi : i < len) : ∃ b off, a = some ⟨b, off, none⟩ ∧ w.cell? ⟨b, off + i * 3, none⟩ = some (.int .i64 (g i 0)) ∧ w.cell? ⟨b, off + i * 3 + 1, none⟩ = some (.int .i64 (g i 1)) ∧ w.cell? ⟨b, off + i * 3 + 2, none⟩ = some (.int .i64 (g i 2)) := by
  obtain ⟨b, off, e, hc⟩ := h.cell i hi
  exact ⟨b, off, e, hc 0 (by omega), hc 1 (by omega), hc 2 (by omega)⟩
theorem Row.at4 {w : World} {a : Option Addr} {len i : Nat} {g : R} (h : Row 4 w a len g) (hi : i < len) : ∃ b off, a = some ⟨b, off, none⟩ ∧ w.cell? ⟨b, off + i * 4, none⟩ = some (.int .i64 (g i 0)) ∧ w.cell? ⟨b, off + i * 4 + 1, none⟩ = some (.int .i64 (g i 1)) ∧ w.cell? ⟨b, off + i * 4 + 2, none⟩ = some (.int .i64 (g i 2)) ∧ w.cell? ⟨b, off + i * 4 + 3, none⟩ = some (.int .i64 (g i 3)) := by
  obtain ⟨b, off, e, hc⟩ := h.cell i hi
  exact ⟨b, off, e, hc 0 (by omega), hc 1 (by omega), hc 2 (by omega), hc 3 (by omega)⟩
theorem Row.at5 {w : World} {a : Option Addr} {len i : Nat} {g : R} (h : Row 5 w a len g) (hi : i < len) : ∃ b off, a = some ⟨b, off, none⟩ ∧ w.cell? ⟨b, off + i * 5, none⟩ = some (.int .i64 (g i 0)) ∧ w.cell? ⟨b, off + i * 5 + 1, none⟩ = some (.int .i64 (g i 1)) ∧ w.cell? ⟨b, off + i * 5 + 2, none⟩ = some (.int .i64 (g i 2)) ∧ w.cell? ⟨b, off + i * 5 + 3, none⟩ = some (.int .i64 (g i 3)) ∧ w.cell? ⟨b, off + i * 5 + 4, none⟩ = some (.int .i64 (g i 4)) := by
  obtain ⟨b, off, e, hc⟩ := h.cell i hi
  exact ⟨b, off, e, hc 0 (by omega), hc 1 (by omega), hc 2 (by omega), hc 3 (by omega), hc 4 (by omega)⟩

/-- A slice of texts. -/
structure StrRow (w : World) (a : Option Addr) (len : Nat) (s : Ss) : Prop where
  most : len ≤ maxLen
  size : ∀ i, i < len → (s i).size ≤ maxLen
  cell : ∀ i, i < len → ∃ b off, a = some ⟨b, off, none⟩ ∧ w.cell? ⟨b, off + i, none⟩ = some (.string (s i))
theorem StrRow.kept {W w1 : World} {a : Option Addr} {len : Nat} {s : Ss} (h : StrRow W a len s) (hk : ∀ b o v, W.cell? ⟨b, o, none⟩ = some v → w1.cell? ⟨b, o, none⟩ = some v) : StrRow w1 a len s :=
  ⟨h.most, h.size, fun i hi => by
    obtain ⟨b, off, e, h0⟩ := h.cell i hi
    exact ⟨b, off, e, hk _ _ _ h0⟩⟩
theorem StrRow.below {W w1 : World} {a : Option Addr} {len : Nat} {s : Ss} (h : StrRow W a len s) (hb : Below W.heap.size W w1) : StrRow w1 a len s := h.kept fun b o v hv => keep hb hv
theorem StrRow.front {w : World} {a : Option Addr} {len k : Nat} {s : Ss} (h : StrRow w a len s) (hk : k ≤ len) : StrRow w a k s :=
  ⟨Nat.le_trans hk h.most, fun i hi => h.size i (by omega), fun i hi => h.cell i (by omega)⟩

/-- All below n are so. -/
def allN (p : Nat → Bool) (n : Nat) : Bool := (List.range n).all p
theorem allN_iff {p : Nat → Bool} {n : Nat} : allN p n = true ↔ ∀ i, i < n → p i = true := by simp [allN]
theorem allN_of {p : Nat → Bool} {n : Nat} (h : ∀ i, i < n → p i = true) : allN p n = true := allN_iff.2 h
theorem allN_false {p : Nat → Bool} {n i : Nat} (hi : i < n) (h : p i = false) : allN p n = false := by
  cases e : allN p n with
  | false => rfl
  | true => rw [allN_iff.1 e i hi] at h; cases h
/-- The first of which it is so; -1 without one. -/
def firstAt (p : Nat → Bool) (n : Nat) : Int := match (List.range n).find? p with
  | some i => (i : Int)
  | none => -1
theorem firstAt_none {p : Nat → Bool} {n : Nat} (h : ∀ i, i < n → p i = false) : firstAt p n = -1 := by
  have : (List.range n).find? p = none := by simp [List.find?_eq_none]; exact h
  simp [firstAt, this]
theorem firstAt_hit {p : Nat → Bool} {n k : Nat} (hk : k < n) (h : p k = true) (h0 : ∀ i, i < k → p i = false) : firstAt p n = k := by
  have : (List.range n).find? p = some k := by
    rw [List.find?_range_eq_some]
    exact ⟨h, List.mem_range.2 hk, fun j hj => by simp [h0 j hj]⟩
  simp [firstAt, this]
theorem firstAt_spec {p : Nat → Bool} {n : Nat} : 0 ≤ firstAt p n ↔ ∃ i, i < n ∧ p i = true := by
  constructor
  · intro h
    apply Classical.byContradiction
    intro hn
    rw [firstAt_none (p := p) (n := n)] at h
    · omega
    · intro i hi
      cases e : p i with
      | false => rfl
      | true => exact absurd ⟨i, hi, e⟩ hn
  · rintro ⟨i, hi, hp⟩
    apply Classical.byContradiction
    intro h
    unfold firstAt at h
    cases e : (List.range n).find? p with
    | none => rw [List.find?_eq_none] at e; exact absurd hp (by simpa using e i (List.mem_range.2 hi))
    | some k => rw [e] at h; simp only [] at h; omega

def inB (n low high : Int) : Bool := decide (low ≤ n ∧ n ≤ high)
def hit (g : R) (a b : Int) (i : Nat) : Bool := decide (g i 0 = a ∧ g i 1 = b ∨ g i 0 = b ∧ g i 1 = a)
def linkAt (g : R) (n : Nat) (a b : Int) : Int := firstAt (hit g a b) n
def same (s : Ss) (t : ByteArray) (i : Nat) : Bool := decide ((s i).toList = t.toList)
def nameAt (s : Ss) (n : Nat) (t : ByteArray) : Int := firstAt (same s t) n
def routerB (s : Ss) (i : Nat) : Bool := nameB (s i) && decide (nameAt s i (s i) < 0)
def linkB (g : R) (r : Nat) (i : Nat) : Bool := inB (g i 0) 0 (r - 1) && inB (g i 1) 0 (r - 1) && decide (g i 0 ≠ g i 1) && inB (g i 2) 1 100 && decide (linkAt g i (g i 0) (g i 1) < 0)
def zAt (z : List Int) (i : Nat) : Int := z[i]?.getD 0
def risesB (z : List Int) (r : Nat) (i : Nat) : Bool := inB (zAt z i) 0 (r - 1) && (decide (i = 0) || decide (zAt z (i - 1) < zAt z i))
def deedB (wh d n : Int) : Bool := inB wh 0 2 && inB d 1 4 && inB n 0 (if d = 2 then 1000 else 0)
def portsB (low high : Int) : Bool := decide (0 ≤ low) && inB high low 15
def importB (g : R) (n : Nat) (x : R) (i : Nat) : Bool := decide (0 ≤ linkAt g n (x i 0) (x i 1)) && deedB (x i 2) (x i 3) (x i 4)
def filterB (g : R) (n : Nat) (x : R) (i : Nat) : Bool := decide (0 ≤ linkAt g n (x i 0) (x i 1)) && portsB (x i 2) (x i 3)
def routersB (s : Ss) (r : Nat) : Bool := inB r 1 4 && allN (routerB s) r
def linksB (g : R) (n r : Nat) : Bool := decide (n ≤ 6) && allN (linkB g r) n
def risingB (z : List Int) (n r : Nat) : Bool := allN (risesB z r) n
def importsB (g : R) (n : Nat) (x : R) (m : Nat) : Bool := decide (m ≤ 12) && allN (importB g n x) m
def filtersB (g : R) (n : Nat) (x : R) (m : Nat) : Bool := decide (m ≤ 6) && allN (filterB g n x) m
/-- A network in memory: its six rows. -/
structure NetIs (w : World) (p : Nat → Option Addr) (l : Nat → Nat) (s : Ss) (g : R) (o e : List Int) (x f : R) : Prop where
  routers : StrRow w (p 0) (l 0) s
  links : Row 3 w (p 1) (l 1) g
  origins : IntRow w (p 2) (l 2) o
  externals : IntRow w (p 3) (l 3) e
  imports : Row 5 w (p 4) (l 4) x
  filters : Row 4 w (p 5) (l 5) f
theorem NetIs.below {W w1 : World} {p : Nat → Option Addr} {l : Nat → Nat} {s : Ss} {g x f : R} {o e : List Int} (h : NetIs W p l s g o e x f) (hb : Below W.heap.size W w1) : NetIs w1 p l s g o e x f :=
  ⟨h.routers.below hb, h.links.below hb, h.origins.below hb, h.externals.below hb, h.imports.below hb, h.filters.below hb⟩
def netV (p : Nat → Option Addr) (l c : Nat → Nat) : Value := .agg #[.slice (p 0) (l 0) (c 0), .slice (p 1) (l 1) (c 1), .slice (p 2) (l 2) (c 2), .slice (p 3) (l 3) (c 3), .slice (p 4) (l 4) (c 4), .slice (p 5) (l 5) (c 5)]
def netB (l : Nat → Nat) (s : Ss) (g : R) (o e : List Int) (x f : R) : Bool :=
  routersB s (l 0) && linksB g (l 1) (l 0) && risingB o (l 2) (l 0) && risingB e (l 3) (l 0) && decide (l 3 ≤ 2) && importsB g (l 1) x (l 4) && filtersB g (l 1) f (l 5)
end Go.Proofs.YtffacjebnbplaaaGreatDoor.netSem

/- Questions: what the words of a line ask for, as plain functions, and rows of words in memory; of no program; conditions: none. -/
namespace Go.Proofs.YtffacjebnbplaaaGreatDoor.askSem
open Go.RowKit Go.Deep base names netSem numbers askWords
set_option linter.unusedVariables false

abbrev Wd := List UInt8
/-- Words in memory, from one of them on, in a block below A. -/
structure TRow (A : Nat) (w : World) (a : Option Addr) (c : Nat) (R : List Wd) : Prop where
  cap : R.length ≤ c
  most : c ≤ maxLen
  small : ∀ x ∈ R, x.length ≤ 1048576
  full : ∀ x ∈ R, x ≠ []
  cell : ∀ i x, R[i]? = some x → ∃ g off, a = some ⟨g, off, none⟩ ∧ g < A ∧ w.cell? ⟨g, off + i, none⟩ = some (.string (piece x))
theorem TRow.under {A : Nat} {w w' : World} {a : Option Addr} {c : Nat} {R : List Wd} (h : TRow A w a c R) (hb : Below A w w') : TRow A w' a c R :=
  ⟨h.cap, h.most, h.small, h.full, fun i x hx => by
    obtain ⟨g, off, e, hg, hc⟩ := h.cell i x hx
    exact ⟨g, off, e, hg, by rw [World.cell?_of_block (w := w) (a := ⟨g, off + i, none⟩) (hb.block g hg)]; exact hc⟩⟩
theorem TRow.mono {A A' : Nat} {w : World} {a : Option Addr} {c : Nat} {R : List Wd} (h : TRow A w a c R) (hA : A ≤ A') : TRow A' w a c R :=
  ⟨h.cap, h.most, h.small, h.full, fun i x hx => by
    obtain ⟨g, off, e, hg, hc⟩ := h.cell i x hx
    exact ⟨g, off, e, Nat.lt_of_lt_of_le hg hA, hc⟩⟩
/-- The words behind the first one. -/
theorem TRow.tail {A : Nat} {w : World} {g off c : Nat} {x : Wd} {R : List Wd} (h : TRow A w (some ⟨g, off, none⟩) c (x :: R)) : TRow A w (some ⟨g, off + 1, none⟩) (c - 1) R :=
  ⟨by have := h.cap; simp at this; omega, by have := h.most; omega, fun y hy => h.small y (by simp [hy]), fun y hy => h.full y (by simp [hy]), fun i y hy => by
    obtain ⟨g', off', e, hg, hc⟩ := h.cell (i + 1) y (by simpa using hy)
    simp only [Option.some.injEq, Addr.mk.injEq, and_true] at e
    obtain ⟨rfl, rfl⟩ := e
    exact ⟨g, off + 1, rfl, hg, by rw [show off + 1 + i = off + (i + 1) by omega]; exact hc⟩⟩
theorem TRow.head {A : Nat} {w : World} {a : Option Addr} {c : Nat} {x : Wd} {R : List Wd} (h : TRow A w a c (x :: R)) : ∃ g off, a = some ⟨g, off, none⟩ ∧ g < A ∧ w.cell? ⟨g, off, none⟩ = some (.string (piece x)) := by
  obtain ⟨g, off, e, hg, hc⟩ := h.cell 0 x rfl
  exact ⟨g, off, e, hg, hc⟩
theorem TRow.nil {A : Nat} {w : World} {a : Option Addr} {c : Nat} (hc : c ≤ maxLen) : TRow A w a c [] :=
  ⟨Nat.zero_le _, hc, fun x hx => by simp at hx, fun x hx => by simp at hx, fun i x hx => by simp at hx⟩
theorem TRow.of_own {B A : Nat} {w : World} {v : Value} {R : List Wd} (h : OwnT B w v R) (hA : w.heap.size ≤ A) (hs : ∀ x ∈ R, x.length ≤ 1048576) (hf : ∀ x ∈ R, x ≠ []) : ∃ a c, v = .slice a R.length c ∧ TRow A w a c R := by
  obtain ⟨h1, h2⟩ := h
  rcases h2 with ⟨rfl, h0⟩ | ⟨g, cap, cur, rfl, hb, hh, hc, hm, hz, ht⟩
  · have e0 : R = [] := List.length_eq_zero_iff.1 h0
    subst e0
    exact ⟨none, 0, rfl, TRow.nil (by unfold maxLen; omega)⟩
  · refine ⟨_, cap, rfl, hc, hm, hs, hf, fun i x hx => ⟨g, 0, rfl, Nat.lt_of_lt_of_le (Array.getElem?_eq_some_iff.1 hh).1 hA, ?_⟩⟩
    have hi : i < R.length := by
      rcases Nat.lt_or_ge i R.length with h | h
      · exact h
      · rw [List.getElem?_eq_none h] at hx; cases hx
    have h7 : (strC R)[i]? = some (.string (piece x)) := by unfold strC; rw [List.getElem?_map, hx]; rfl
    rw [← ht, List.getElem?_take_of_lt (by omega)] at h7
    rw [Nat.zero_add]
    simp only [World.cell?, hh]
    simpa using h7
theorem piece_size (x : Wd) : (piece x).size = x.length := by simp [piece, ByteArray.size]
end Go.Proofs.YtffacjebnbplaaaGreatDoor.askSem
