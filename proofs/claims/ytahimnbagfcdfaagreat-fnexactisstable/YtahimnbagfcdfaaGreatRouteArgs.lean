/- From the form's readings of lists of routes to the rows that the contracts speak of; conditions: none. -/
import Derived.Test.YtahimnbagfcdfaaGreatRouteRow
import Derived.Test.YtahimnbagfcdfaaGreatArgs
namespace Go.Proofs.YtahimnbagfcdfaaGreat.routeArgs
open Go.ChangeShapes Go.WideShapes Go.ChangeAt Go.RowKit Go.Deep Go.Joins base routeRow args
set_option linter.unusedVariables false

theorem cells_int : Tryz.prog.cellsOf 3 = 1 := by kernel_rfl
theorem cells_bool : Tryz.prog.cellsOf 4 = 1 := by kernel_rfl
theorem add_add (x : Addr) (a b : Nat) : (x.add a).add b = x.add (a + b) := by
  by_cases ha : a = 0
  · subst ha; simp [Addr.add]
  · by_cases hb : b = 0
    · subst hb; simp [Addr.add]
    · simp [Addr.add, ha, hb, Nat.add_assoc]
theorem list4 {α : Type} {l : List α} (h : l.length = 4) : ∃ a0 a1 a2 a3, l = [a0, a1, a2, a3] := by
  match l, h with
  | [a0, a1, a2, a3], _ => exact ⟨a0, a1, a2, a3, rfl⟩
variable {H : Type} {enc : TypeId × Value → H} {w : World} {base : Nat} {held : Bool}
theorem routes_of_trod {fuel : Nat} {v : Value} {x : DataW H × List MemPlace} (h : DataW.trod enc Tryz.prog w base (fun _ => true) held fuel 30 [v] = some x) : ∃ a len cap g, v = .slice a len cap ∧ RtRow w a len g := by
  have ce : Tryz.prog.cellsOf 72 = 4 := by kernel_rfl
  rcases DataW.trod_slice Tryz.underlying30 h with ⟨h0, _⟩ | ⟨a, len, cap, elems, rest, n, hn, hcs, rfl, hb, hl, hm, hlen, hel, hsp, hns⟩
  · exact ⟨none, 0, 0, fun _ => ⟨0, 0, 0, false⟩, by simpa using h0, ⟨Nat.zero_le _, fun i hi => absurd hi (Nat.not_lt_zero _)⟩⟩
  · have each : ∀ i, i < len → ∃ q : Rt, ∀ j, j < 4 → w.cell? (a.add (i * 4 + j)) = some (rc q j) := by
      intro i hi
      have key := hel i hi
      rw [List.getElem?_eq_getElem (by omega)] at key
      obtain ⟨cs', h1, h2⟩ := Option.bind_eq_some_iff.1 key
      rw [ce] at h1
      obtain ⟨_, hcl, hcell⟩ := World.cells?_some h1
      obtain ⟨xs, k, hk, hxy, _, hxl, hf⟩ := DataW.trod_struct Tryz.underlying72 h2
      obtain ⟨y0, y1, y2, y3, rfl⟩ := list4 (show xs.length = 4 from hxl)
      obtain ⟨v0, v1, v2, v3, rfl⟩ := list4 (show cs'.length = 4 from hcl)
      have g0 := hf 0 _ rfl
      have g1 := hf 1 _ rfl
      have g2 := hf 2 _ rfl
      have g3 := hf 3 _ rfl
      simp [cells_int, cells_bool] at g0 g1 g2 g3
      obtain ⟨k0, e0, _⟩ := int_of_trod Tryz.underlying3 g0
      obtain ⟨k1, e1, _⟩ := int_of_trod Tryz.underlying3 g1
      obtain ⟨k2, e2, _⟩ := int_of_trod Tryz.underlying3 g2
      obtain ⟨k3, e3, _⟩ := DataW.trod_bool Tryz.underlying4 g3
      have e3' : v3 = .bool k3 := by simpa using e3
      refine ⟨⟨k0, k1, k2, k3⟩, fun j hj => ?_⟩
      have qj := hcell j (by omega)
      rw [add_add] at qj
      clear g0 g1 g2 g3 hf hcell h h2 key hel
      match j, hj with
      | 0, _ => simpa [e0, rc] using qj
      | 1, _ => simpa [e1, rc] using qj
      | 2, _ => simpa [e2, rc] using qj
      | 3, _ => simpa [e3', rc] using qj
      | j + 4, hj => exact absurd hj (by omega)
    haveI : Inhabited Rt := ⟨⟨0, 0, 0, false⟩⟩
    obtain ⟨q, hq⟩ := choose_lt each
    refine ⟨some a, len, cap, q, by simpa using hcs, ⟨Nat.le_trans hl hm, fun i hi => ?_⟩⟩
    have hz : w.cell? (a.add 0) = some (rc (q 0) 0) := by simpa using hq 0 (by omega) 0 (by omega)
    refine ⟨a.block, a.off, by rw [← (at_none hz (hq i hi 0 (by omega))).1], fun j hj => ?_⟩
    rw [Nat.add_assoc]
    exact (at_none hz (hq i hi j hj)).2
end Go.Proofs.YtahimnbagfcdfaaGreat.routeArgs
