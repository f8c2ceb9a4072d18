/- Questions: what the words of a line ask for, as plain functions, and rows of words in memory; of no program; conditions: none. -/
import Derived.Test.YtmjncdilgghggaaDoorAskWords
import Derived.Test.YtmjncdilgghggaaDoorNetSem
namespace Go.Proofs.YtmjncdilgghggaaDoor.askSem
open Go.RowKit Go.Deep base names netSem numbers askWords
set_option linter.unusedVariables false

abbrev Wd := List UInt8
def wVerify : Wd := [118, 101, 114, 105, 102, 121]
def wVia : Wd := [118, 105, 97]
def wPort : Wd := [112, 111, 114, 116]
def wFail : Wd := [102, 97, 105, 108]
/-- The words of the kinds, each at its number. -/
def kS : Ss
  | 1 => ⟨#[114, 101, 97, 99, 104]⟩
  | 2 => ⟨#[110, 101, 118, 101, 114]⟩
  | 3 => ⟨#[119, 97, 121]⟩
  | 4 => ⟨#[111, 119, 110]⟩
  | _ => ⟨#[]⟩
structure Ask where
  kind : Int
  frm : Int
  port : Int
  way : Int
  k : Int
  code : Int
def bad (c : Int) : Ask := ⟨0, 0, 0, 0, 0, c⟩
def askV (a : Ask) : Value := .tuple #[.agg #[.int .i64 a.kind, .int .i64 a.frm, .int .i64 a.port, .int .i64 a.way], .int .i64 a.k, .int .i64 a.code]
def fin2 (a : Ask) (R : List Wd) : Ask := if R.length = 0 then a else bad 4
def fin1 (a : Ask) : List Wd → Ask
  | x :: y :: r => if x = wFail then (if isNum (piece y) then (if inB (numS (piece y)) 0 2 then fin2 { a with k := numS (piece y) } r else bad 5) else bad 4) else fin2 a (x :: y :: r)
  | R => fin2 a R
def fin0 (a : Ask) : List Wd → Ask
  | x :: y :: r => if x = wPort then (if isNum (piece y) then (if inB (numS (piece y)) 0 15 then fin1 { a with port := numS (piece y) } r else bad 5) else bad 4) else fin1 a (x :: y :: r)
  | R => fin1 a R
def viaA (nm : Wd → Int) (a : Ask) (R : List Wd) : Ask :=
  if a.kind = 3 then match R with
    | x :: y :: r => if x = wVia then (if nm y < 0 then bad 9 else fin0 { a with way := nm y } r) else bad 4
    | _ => bad 4
  else fin0 a R
def askA (nm : Wd → Int) : List Wd → Ask
  | x :: y :: z :: R => if x = wVerify then (if nameAt kS 5 (piece y) < 1 then bad 4 else if nm z < 0 then bad 9 else viaA nm ⟨nameAt kS 5 (piece y), nm z, -1, 0, 0, 0⟩ R) else bad 4
  | _ => bad 4
theorem fin1_one (a : Ask) (x : Wd) : fin1 a [x] = bad 4 := rfl
theorem fin0_one (a : Ask) (x : Wd) : fin0 a [x] = bad 4 := rfl

/-- Words in memory, from one of them on, in a block below A. -/
structure TRow (A : Nat) (w : World) (a : Option Addr) (c : Nat) (R : List Wd) : Prop where
  cap : R.length ≤ c
  most : c ≤ maxLen
  small : ∀ x ∈ R, x.length ≤ 1048576
  full : ∀ x ∈ R, x ≠ []
  cell : ∀ i x, R[i]? = some x → ∃ g off, a = some ⟨g, off, none⟩ ∧ g < A ∧ w.cell? ⟨g, off + i, none⟩ = some (.string (piece x))
theorem TRow.under {A : Nat} {w w' : World} {a : Option Addr} {c : Nat} {R : List Wd} (h : TRow A w a c R) (hb : Below A w w') : TRow A w' a c R :=
  ⟨h.cap, h.most, h.small, h.full, fun i x hx => by
    obtain ⟨g, off, e, hg, hc⟩ := h.cell i x hx
    exact ⟨g, off, e, hg, by rw [World.cell?_of_block (w := w) (a := ⟨g, off + i, none⟩) (hb.block g hg)]; exact hc⟩⟩
theorem TRow.mono {A A' : Nat} {w : World} {a : Option Addr} {c : Nat} {R : List Wd} (h : TRow A w a c R) (hA : A ≤ A') : TRow A' w a c R :=
  ⟨h.cap, h.most, h.small, h.full, fun i x hx => by
    obtain ⟨g, off, e, hg, hc⟩ := h.cell i x hx
    exact ⟨g, off, e, Nat.lt_of_lt_of_le hg hA, hc⟩⟩
/-- The words behind the first one. -/
theorem TRow.tail {A : Nat} {w : World} {g off c : Nat} {x : Wd} {R : List Wd} (h : TRow A w (some ⟨g, off, none⟩) c (x :: R)) : TRow A w (some ⟨g, off + 1, none⟩) (c - 1) R :=
  ⟨by have := h.cap; simp at this; omega, by have := h.most; omega, fun y hy => h.small y (by simp [hy]), fun y hy => h.full y (by simp [hy]), fun i y hy => by
    obtain ⟨g', off', e, hg, hc⟩ := h.cell (i + 1) y (by simpa using hy)
    simp only [Option.some.injEq, Addr.mk.injEq, and_true] at e
    obtain ⟨rfl, rfl⟩ := e
    exact ⟨g, off + 1, rfl, hg, by rw [show off + 1 + i = off + (i + 1) by omega]; exact hc⟩⟩
theorem TRow.head {A : Nat} {w : World} {a : Option Addr} {c : Nat} {x : Wd} {R : List Wd} (h : TRow A w a c (x :: R)) : ∃ g off, a = some ⟨g, off, none⟩ ∧ g < A ∧ w.cell? ⟨g, off, none⟩ = some (.string (piece x)) := by
  obtain ⟨g, off, e, hg, hc⟩ := h.cell 0 x rfl
  exact ⟨g, off, e, hg, hc⟩
theorem TRow.nil {A : Nat} {w : World} {a : Option Addr} {c : Nat} (hc : c ≤ maxLen) : TRow A w a c [] :=
  ⟨Nat.zero_le _, hc, fun x hx => by simp at hx, fun x hx => by simp at hx, fun i x hx => by simp at hx⟩
theorem TRow.of_own {B A : Nat} {w : World} {v : Value} {R : List Wd} (h : OwnT B w v R) (hA : w.heap.size ≤ A) (hs : ∀ x ∈ R, x.length ≤ 1048576) (hf : ∀ x ∈ R, x ≠ []) : ∃ a c, v = .slice a R.length c ∧ TRow A w a c R := by
  obtain ⟨h1, h2⟩ := h
  rcases h2 with ⟨rfl, h0⟩ | ⟨g, cap, cur, rfl, hb, hh, hc, hm, hz, ht⟩
  · have e0 : R = [] := List.length_eq_zero_iff.1 h0
    subst e0
    exact ⟨none, 0, rfl, TRow.nil (by unfold maxLen; omega)⟩
  · refine ⟨_, cap, rfl, hc, hm, hs, hf, fun i x hx => ⟨g, 0, rfl, Nat.lt_of_lt_of_le (Array.getElem?_eq_some_iff.1 hh).1 hA, ?_⟩⟩
    have hi : i < R.length := by
      rcases Nat.lt_or_ge i R.length with h | h
      · exact h
      · rw [List.getElem?_eq_none h] at hx; cases hx
    have h7 : (strC R)[i]? = some (.string (piece x)) := by unfold strC; rw [List.getElem?_map, hx]; rfl
    rw [← ht, List.getElem?_take_of_lt (by omega)] at h7
    rw [Nat.zero_add]
    simp only [World.cell?, hh]
    simpa using h7
theorem piece_ne {x y : Wd} : ((piece x).toList == y) = decide (x = y) := by
  rw [toList_data]
  show (x == y) = _
  rw [Bool.eq_iff_iff]
  simp
theorem piece_size (x : Wd) : (piece x).size = x.length := by simp [piece, ByteArray.size]
end Go.Proofs.YtmjncdilgghggaaDoor.askSem
