/- What the contracts are stated in: rows of cells that read as lists, and how they are kept where only new memory is written; of no program; conditions: none. -/
import Derived.Test.YtolejaegnkcjjaaDoorRows
import Derived.WalkKit
import Derived.Below
import Derived.Deep.OwnRows
import Derived.Deep.QuietTactic
import Derived.BigQuiet
import Derived.Deep.RegionWith
namespace Go.Proofs.YtolejaegnkcjjaaDoor.base
open Go.RowKit Go.Deep

theorem ret_bool {a b : Bool} (h : a = b) : Ending.returned (.bool a) = .returned (.bool b) := by rw [h]
theorem ret_int {k : IntKind} {a b : Int} (h : a = b) : Ending.returned (.int k a) = .returned (.int k b) := by rw [h]

theorem hid {p : Prop} (h : p) : Hid p := h
theorem below_drewN (w : World) (n : Nat) : Below w.heap.size w (w.drewN n) := ⟨rfl, rfl, rfl, Nat.le_refl _, fun _ _ => rfl⟩
theorem bcell {W w1 : World} (hb : Below W.heap.size W w1) : (∀ b o, b < W.heap.size → w1.cell? ⟨b, o, none⟩ = W.cell? ⟨b, o, none⟩) ∧ (∀ b o, b < W.heap.size → w1.frozen? ⟨b, o, none⟩ = W.frozen? ⟨b, o, none⟩) :=
  ⟨fun b o h => hb.cell (p := ⟨b, o, none⟩) h, fun b o h => hb.frozen (p := ⟨b, o, none⟩) h⟩
theorem keep {W w1 : World} (hb : Below W.heap.size W w1) {b o : Nat} {v : Value} (h : W.cell? ⟨b, o, none⟩ = some v) : w1.cell? ⟨b, o, none⟩ = some v := by
  rw [hb.cell (p := ⟨b, o, none⟩) (World.block_lt_of_cell? _ _ h)]; exact h

/-- A slice reads as a list of integers: its length, and each of its cells. -/
structure IntRow (w : World) (a : Option Addr) (len : Nat) (zs : List Int) : Prop where
  length : zs.length = len
  most : len ≤ maxLen
  cell : ∀ i, i < len → ∃ b off, a = some ⟨b, off, none⟩ ∧ w.cell? ⟨b, off + i, none⟩ = some (.int .i64 (zs[i]?.getD 0))
theorem IntRow.below {W w1 : World} {a : Option Addr} {len : Nat} {zs : List Int} (h : IntRow W a len zs) (hb : Below W.heap.size W w1) : IntRow w1 a len zs :=
  ⟨h.length, h.most, fun i hi => by
    obtain ⟨b, off, e, hc⟩ := h.cell i hi
    exact ⟨b, off, e, keep hb hc⟩⟩
theorem IntRow.drewN {W : World} {a : Option Addr} {len : Nat} {zs : List Int} (h : IntRow W a len zs) (n : Nat) : IntRow (W.drewN n) a len zs := h.below (below_drewN _ _)
/-- A slice of slices of integers. -/
structure IntRows (w : World) (a : Option Addr) (len : Nat) (zss : List (List Int)) : Prop where
  length : zss.length = len
  most : len ≤ maxLen
  cell : ∀ i, i < len → ∃ b off, a = some ⟨b, off, none⟩ ∧ ∃ a' l' c', w.cell? ⟨b, off + i, none⟩ = some (.slice a' l' c') ∧ IntRow w a' l' (zss[i]?.getD [])
theorem IntRows.below {W w1 : World} {a : Option Addr} {len : Nat} {zss : List (List Int)} (h : IntRows W a len zss) (hb : Below W.heap.size W w1) : IntRows w1 a len zss :=
  ⟨h.length, h.most, fun i hi => by
    obtain ⟨b, off, e, a', l', c', hc, hr⟩ := h.cell i hi
    exact ⟨b, off, e, a', l', c', keep hb hc, hr.below hb⟩⟩
/-- A slice of bools. -/
structure BoolRow (w : World) (a : Option Addr) (len : Nat) (zs : List Bool) : Prop where
  length : zs.length = len
  most : len ≤ maxLen
  cell : ∀ i, i < len → ∃ b off, a = some ⟨b, off, none⟩ ∧ w.cell? ⟨b, off + i, none⟩ = some (.bool (zs[i]?.getD false))
theorem BoolRow.below {W w1 : World} {a : Option Addr} {len : Nat} {zs : List Bool} (h : BoolRow W a len zs) (hb : Below W.heap.size W w1) : BoolRow w1 a len zs :=
  ⟨h.length, h.most, fun i hi => by
    obtain ⟨b, off, e, hc⟩ := h.cell i hi
    exact ⟨b, off, e, keep hb hc⟩⟩

theorem all_take_succ {α : Type} {p : α → Bool} {zs : List α} {d : α} {k : Nat} (h : k < zs.length) : (zs.take (k + 1)).all p = ((zs.take k).all p && p (zs[k]?.getD d)) := by
  rw [List.take_succ_eq_append_getElem h, List.all_append, List.getElem?_eq_getElem h]; simp
theorem all_false {α : Type} {p : α → Bool} {zs : List α} {d : α} {k : Nat} (h : k < zs.length) (hp : p (zs[k]?.getD d) = false) : zs.all p = false := by
  rw [List.all_eq_false]
  refine ⟨zs[k], List.getElem_mem h, ?_⟩
  rw [List.getElem?_eq_getElem h] at hp
  simpa using hp
theorem any_take_succ {α : Type} {p : α → Bool} {zs : List α} {d : α} {k : Nat} (h : k < zs.length) : (zs.take (k + 1)).any p = ((zs.take k).any p || p (zs[k]?.getD d)) := by
  rw [List.take_succ_eq_append_getElem h, List.any_append, List.getElem?_eq_getElem h]; simp
end Go.Proofs.YtolejaegnkcjjaaDoor.base
