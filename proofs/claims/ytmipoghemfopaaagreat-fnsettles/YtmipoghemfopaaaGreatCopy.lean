/- The contracts of the laws' own helpers over lists of integers: what they count, copy and compare; conditions: lengths that fit. -/
import Derived.Test.YtmipoghemfopaaaGreatBase
namespace Go.Proofs.YtmipoghemfopaaaGreat.copy
open Go.RowKit Go.Deep base

theorem Tryz.info_int : (Tryz.prog.info? 3).map (fun i => (i.zero, i.size, i.bytes)) = some (some (.int .i64 0), 1, 8) := by kernel_rfl

theorem Tryz.info_ints : (Tryz.prog.info? 25).map (fun i => (i.zero, i.size, i.bytes)) = some (some (.slice none 0 0), 1, 24) := by kernel_rfl

theorem take_eq_succ {α : Type} {zs ys : List α} {d : α} {k : Nat} (hz : k < zs.length) (hy : k < ys.length) (h : zs.take k = ys.take k) (e : zs[k]?.getD d = ys[k]?.getD d) : zs.take (k + 1) = ys.take (k + 1) := by
  rw [List.getElem?_eq_getElem hz, List.getElem?_eq_getElem hy] at e
  have e' : zs[k] = ys[k] := by simpa using e
  rw [List.take_succ_eq_append_getElem hz, List.take_succ_eq_append_getElem hy, h, e']
theorem ne_of_getD {α : Type} {zs ys : List α} {d : α} {k : Nat} (e : ¬ zs[k]?.getD d = ys[k]?.getD d) : ¬ zs = ys := fun h => e (by rw [h])

theorem IntRow.of_rowIs' {w : World} {b len : Nat} {zs : List Int} {t : TypeId} (hl : zs.length = len) (hm : len ≤ maxLen) (h : w.rowIs b t len (fun j => .int .i64 (zs[j]?.getD 0))) : IntRow w (some ⟨b, 0, none⟩) len zs :=
  ⟨hl, hm, fun i hi => ⟨b, 0, rfl, by simpa using h.cell hi⟩⟩
end Go.Proofs.YtmipoghemfopaaaGreat.copy
