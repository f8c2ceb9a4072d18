/- The contracts of the laws' own helpers over lists of integers: what they count, copy and compare; conditions: lengths that fit. -/
import Derived.Test.YtkboijdcjechdaaDoorBase
namespace Go.Proofs.YtkboijdcjechdaaDoor.copy
open Go.RowKit Go.Deep base

theorem Tryd.info_int : (Tryd.prog.info? 3).map (fun i => (i.zero, i.size, i.bytes)) = some (some (.int .i64 0), 1, 8) := by kernel_rfl

/-- A list of lists in blocks of its own: the outer one in block N, the inner ones behind it, one block each. -/
structure Copied (w : World) (N : Nat) (zss : List (List Int)) : Prop where
  outer : w.rowIs N 27 zss.length (fun i => .slice (some ⟨N + 1 + i, 0, none⟩) (zss[i]?.getD []).length (zss[i]?.getD []).length)
  inner : ∀ i, i < zss.length → w.rowIs (N + 1 + i) 3 (zss[i]?.getD []).length (fun j => .int .i64 ((zss[i]?.getD [])[j]?.getD 0))
theorem IntRow.of_rowIs {w : World} {b : Nat} {zs : List Int} {t : TypeId} (h : w.rowIs b t zs.length (fun j => .int .i64 (zs[j]?.getD 0))) (hm : zs.length ≤ maxLen) : IntRow w (some ⟨b, 0, none⟩) zs.length zs :=
  ⟨rfl, hm, fun i hi => ⟨b, 0, rfl, by simpa using h.cell hi⟩⟩
theorem Copied.rows {w : World} {N : Nat} {zss : List (List Int)} (h : Copied w N zss) (hm : zss.length ≤ maxLen) (hi : ∀ i, i < zss.length → (zss[i]?.getD []).length ≤ maxLen) : IntRows w (some ⟨N, 0, none⟩) zss.length zss :=
  ⟨rfl, hm, fun i hlt => ⟨N, 0, rfl, _, _, _, by simpa using h.outer.cell hlt, IntRow.of_rowIs (h.inner i hlt) (hi i hlt)⟩⟩
theorem Copied.set {w : World} {N : Nat} {zss : List (List Int)} (h : Copied w N zss) {a : Addr} (ha : a.block < N) (v : Value) : Copied (w.setCell a v) N zss :=
  ⟨h.outer.setOther (by omega) v, fun i hi => (h.inner i hi).setOther (by omega) v⟩
theorem Copied.below {w w1 : World} {N : Nat} {zss : List (List Int)} (h : Copied w N zss) (hb : Below w.heap.size w w1) : Copied w1 N zss :=
  ⟨h.outer.of_block (hb.block _ h.outer.lt), fun i hi => (h.inner i hi).of_block (hb.block _ (h.inner i hi).lt)⟩

theorem take_eq_succ {α : Type} {zs ys : List α} {d : α} {k : Nat} (hz : k < zs.length) (hy : k < ys.length) (h : zs.take k = ys.take k) (e : zs[k]?.getD d = ys[k]?.getD d) : zs.take (k + 1) = ys.take (k + 1) := by
  rw [List.getElem?_eq_getElem hz, List.getElem?_eq_getElem hy] at e
  have e' : zs[k] = ys[k] := by simpa using e
  rw [List.take_succ_eq_append_getElem hz, List.take_succ_eq_append_getElem hy, h, e']
theorem ne_of_getD {α : Type} {zs ys : List α} {d : α} {k : Nat} (e : ¬ zs[k]?.getD d = ys[k]?.getD d) : ¬ zs = ys := fun h => e (by rw [h])

theorem BoolRow.of_rowIs {w : World} {b len : Nat} {zs : List Bool} {t : TypeId} (hl : zs.length = len) (hm : len ≤ maxLen) (h : w.rowIs b t len (fun j => .bool (zs[j]?.getD false))) : BoolRow w (some ⟨b, 0, none⟩) len zs :=
  ⟨hl, hm, fun i hi => ⟨b, 0, rfl, by simpa using h.cell hi⟩⟩
theorem Tryd.info_bool : (Tryd.prog.info? 4).map (fun i => (i.zero, i.size, i.bytes)) = some (some (.bool false), 1, 1) := by kernel_rfl
end Go.Proofs.YtkboijdcjechdaaDoor.copy
