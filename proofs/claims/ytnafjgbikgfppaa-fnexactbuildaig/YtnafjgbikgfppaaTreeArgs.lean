/- From the form's readings of an expression to the tree that the contracts speak of; conditions: none. -/
import Derived.Test.YtnafjgbikgfppaaTrees
import Derived.Test.YtnafjgbikgfppaaArgs
import Derived.Deep.SlicePairs
namespace Go.Proofs.Ytnafjgbikgfppaa.treeArgs
open Go.ChangeShapes Go.WideShapes Go.ChangeAt Go.RowKit Go.Deep Go.Joins base trees args
set_option linter.unusedVariables false

theorem cells_ex : Try.prog.cellsOf 41 = 3 := by kernel_rfl
theorem cells_int : Try.prog.cellsOf 3 = 1 := by kernel_rfl
theorem cells_exs : Try.prog.cellsOf 22 = 1 := by kernel_rfl

theorem exs_of_trod {H : Type} {enc : TypeId × Value → H} {w : World} {base : Nat} {held : Bool} (fuel : Nat) : ∀ (v : Value) (x : DataW H × List MemPlace),
    DataW.trod enc Try.prog w base (fun _ => true) held fuel 22 [v] = some x → ∃ a len cap, v = .slice a len cap ∧ ∃ f : Nat → T, ∀ k n, Rd (fun _ => True) maxLen w fuel (mkT k n len f) a len := by
  induction fuel using Nat.strongRecOn with
  | _ fuel ih =>
  intro v x h
  rcases DataW.trod_slice Try.underlying22 h with ⟨h0, _⟩ | ⟨a, len, cap, elems, rest, n, hn, hcs, rfl, hb, hl, hm, hlen, hel, hsp, hns⟩
  · refine ⟨none, 0, 0, by simpa using h0, fun _ _ => (0, 0, 0), fun k n => ?_⟩
    exact Rd.more (d := 0) ⟨rfl, rfl⟩ (Nat.zero_le _)
  · have each : ∀ i, i < len → ∃ q : Int × Int × Option Addr × Nat × Nat × (Nat → T), w.cell? (a.add (i * 3)) = some (.int .i64 q.1) ∧ w.cell? (a.add (i * 3 + 1)) = some (.int .i64 q.2.1) ∧ w.cell? (a.add (i * 3 + 2)) = some (.slice q.2.2.1 q.2.2.2.1 q.2.2.2.2.1) ∧ ∀ k m, Rd (fun _ => True) maxLen w (n - 1) (mkT k m q.2.2.2.1 q.2.2.2.2.2) q.2.2.1 q.2.2.2.1 := by
      intro i hi
      have key := hel i hi
      rw [List.getElem?_eq_getElem (by omega)] at key
      obtain ⟨cs', h1, h2⟩ := Option.bind_eq_some_iff.1 key
      rw [cells_ex] at h1
      obtain ⟨_, hcl, hcell⟩ := World.cells?_some h1
      obtain ⟨xs, k, hk, hxy, _, hxl, hf⟩ := DataW.trod_struct Try.underlying41 h2
      have hk' : k = n - 1 := by omega
      subst hk'
      match xs, hxl, cs', hcl with
      | [y0, y1, y2], _, [v0, v1, v2], _ =>
        have g0 := hf 0 _ rfl
        have g1 := hf 1 _ rfl
        have g2 := hf 2 _ rfl
        simp [cells_int, cells_exs] at g0 g1 g2
        obtain ⟨k0, e0, _⟩ := int_of_trod Try.underlying3 g0
        obtain ⟨k1, e1, _⟩ := int_of_trod Try.underlying3 g1
        obtain ⟨a', l', c', e2, f, hR⟩ := ih (n - 1) (by omega) _ _ g2
        have q0 := hcell 0 (by omega)
        have q1 := hcell 1 (by omega)
        have q2 := hcell 2 (by omega)
        rw [add_add] at q0 q1 q2
        refine ⟨(k0, k1, a', l', c', f), ?_, ?_, ?_, hR⟩
        · simpa [e0] using q0
        · simpa [e1] using q1
        · simpa [e2] using q2
    obtain ⟨q, hq⟩ := choose_lt each
    refine ⟨some a, len, cap, by simpa using hcs, fun i => mkT (q i).1 (q i).2.1 (q i).2.2.2.1 (q i).2.2.2.2.2, fun k m => ?_⟩
    refine Rd.more (d := n - 1 + 1) ?_ (by omega)
    refine ⟨rfl, Nat.le_trans hl hm, fun i hi => ?_⟩
    replace hi : i < len := hi
    obtain ⟨p0, p1, p2, hR⟩ := hq i hi
    have hz : w.cell? (a.add 0) = some (.int .i64 (q 0).1) := by simpa using (hq 0 (by omega)).1
    obtain ⟨r1, r2⟩ := at_none hz p0
    obtain ⟨_, r3⟩ := at_none hz p1
    obtain ⟨_, r4⟩ := at_none hz p2
    refine ⟨a.block, a.off, by rw [← r1], trivial, r2, by rw [Nat.add_assoc]; exact r3, (q i).2.2.1, (q i).2.2.2.1, (q i).2.2.2.2.1, by rw [Nat.add_assoc]; exact r4, ?_⟩
    exact hR _ _
end Go.Proofs.Ytnafjgbikgfppaa.treeArgs
