/- From the form's readings of a network to the rows that the contracts speak of; conditions: none. -/
import Derived.Test.YtbkijlcbejlddaaDoorNetSem
import Derived.Test.YtbkijlcbejlddaaDoorArgs
namespace Go.Proofs.YtbkijlcbejlddaaDoor.netArgs
open Go.ChangeShapes Go.WideShapes Go.ChangeAt Go.RowKit Go.Deep Go.Joins base netSem args
set_option linter.unusedVariables false

theorem cells_net : Tryd.prog.cellsOf 28 = 6 := by kernel_rfl
theorem cells_int : Tryd.prog.cellsOf 3 = 1 := by kernel_rfl
theorem cells_string : Tryd.prog.cellsOf 9 = 1 := by kernel_rfl
theorem add_add (x : Addr) (a b : Nat) : (x.add a).add b = x.add (a + b) := by
  by_cases ha : a = 0
  · subst ha; simp [Addr.add]
  · by_cases hb : b = 0
    · subst hb; simp [Addr.add]
    · simp [Addr.add, ha, hb, Nat.add_assoc]

variable {H : Type} {enc : TypeId × Value → H} {w : World} {base : Nat} {held : Bool}
theorem strs_of_trod {fuel : Nat} {v : Value} {x : DataW H × List MemPlace} (h : DataW.trod enc Tryd.prog w base (fun _ => true) held fuel 22 [v] = some x) : ∃ a len cap s, v = .slice a len cap ∧ StrRow w a len s := by
  rcases open_slice1 Tryd.underlying22 cells_string h with ⟨hcs, _⟩ | ⟨a, len, cap, m, n, V, D, Pl, hcs, hb, hl, hm, hmm, rfl, hx⟩
  · exact ⟨none, 0, 0, fun _ => ByteArray.empty, by simpa using hcs, ⟨Nat.zero_le _, fun i hi => absurd hi (Nat.not_lt_zero _), fun i hi => absurd hi (Nat.not_lt_zero _)⟩⟩
  · simp only [if_true] at hmm
    subst hmm
    have each : ∀ i, i < m → ∃ b : ByteArray, V i = .string b ∧ b.size ≤ maxLen := fun i hi => by
      obtain ⟨b, e0, _, hz⟩ := DataW.trod_string Tryd.underlying9 (hx i hi).2
      exact ⟨b, by simpa using e0, hz⟩
    obtain ⟨f, hf⟩ := choose_lt each
    refine ⟨some a, len, m, f, by simpa using hcs, ⟨Nat.le_trans hl hm, fun i hi => (hf i (by omega)).2, fun i hi => ?_⟩⟩
    obtain ⟨e1, e2⟩ := at_none (hx 0 (by omega)).1 (hx i (by omega)).1
    exact ⟨a.block, a.off, by rw [← e1], by rw [e2, (hf i (by omega)).1]⟩
theorem list3 {α : Type} {l : List α} (h : l.length = 3) : ∃ a0 a1 a2, l = [a0, a1, a2] := by
  match l, h with
  | [a0, a1, a2], _ => exact ⟨a0, a1, a2, rfl⟩
theorem list4 {α : Type} {l : List α} (h : l.length = 4) : ∃ a0 a1 a2 a3, l = [a0, a1, a2, a3] := by
  match l, h with
  | [a0, a1, a2, a3], _ => exact ⟨a0, a1, a2, a3, rfl⟩
theorem list5 {α : Type} {l : List α} (h : l.length = 5) : ∃ a0 a1 a2 a3 a4, l = [a0, a1, a2, a3, a4] := by
  match l, h with
  | [a0, a1, a2, a3, a4], _ => exact ⟨a0, a1, a2, a3, a4, rfl⟩
theorem Link_of_trod {fuel : Nat} {v : Value} {x : DataW H × List MemPlace} (h : DataW.trod enc Tryd.prog w base (fun _ => true) held fuel 23 [v] = some x) : ∃ a len cap g, v = .slice a len cap ∧ Row 3 w a len g := by
  have ce : Tryd.prog.cellsOf 70 = 3 := by kernel_rfl
  rcases DataW.trod_slice Tryd.underlying23 h with ⟨h0, _⟩ | ⟨a, len, cap, elems, rest, n, hn, hcs, rfl, hb, hl, hm, hlen, hel, hsp, hns⟩
  · exact ⟨none, 0, 0, fun _ _ => 0, by simpa using h0, ⟨Nat.zero_le _, fun i hi => absurd hi (Nat.not_lt_zero _)⟩⟩
  · have each : ∀ i, i < len → ∃ q : Nat → Int, ∀ j, j < 3 → w.cell? (a.add (i * 3 + j)) = some (.int .i64 (q j)) := by
      intro i hi
      have key := hel i hi
      rw [List.getElem?_eq_getElem (by omega)] at key
      obtain ⟨cs', h1, h2⟩ := Option.bind_eq_some_iff.1 key
      rw [ce] at h1
      obtain ⟨_, hcl, hcell⟩ := World.cells?_some h1
      obtain ⟨xs, k, hk, hxy, _, hxl, hf⟩ := DataW.trod_struct Tryd.underlying70 h2
      obtain ⟨y0, y1, y2, rfl⟩ := list3 (show xs.length = 3 from hxl)
      obtain ⟨v0, v1, v2, rfl⟩ := list3 (show cs'.length = 3 from hcl)
      have g0 := hf 0 _ rfl
      have g1 := hf 1 _ rfl
      have g2 := hf 2 _ rfl
      simp [cells_int] at g0 g1 g2
      obtain ⟨k0, e0, _⟩ := int_of_trod Tryd.underlying3 g0
      obtain ⟨k1, e1, _⟩ := int_of_trod Tryd.underlying3 g1
      obtain ⟨k2, e2, _⟩ := int_of_trod Tryd.underlying3 g2
      refine ⟨fun j => match j with | 0 => k0 | 1 => k1 | 2 => k2 | _ => 0, fun j hj => ?_⟩
      have qj := hcell j (by omega)
      rw [add_add] at qj
      clear g0 g1 g2 hf hcell h h2 key hel
      match j, hj with
      | 0, _ => simpa [e0] using qj
      | 1, _ => simpa [e1] using qj
      | 2, _ => simpa [e2] using qj
      | j + 3, hj => exact absurd hj (by omega)
    obtain ⟨q, hq⟩ := choose_lt each
    refine ⟨some a, len, cap, q, by simpa using hcs, ⟨Nat.le_trans hl hm, fun i hi => ?_⟩⟩
    have hz : w.cell? (a.add 0) = some (.int .i64 (q 0 0)) := by simpa using hq 0 (by omega) 0 (by omega)
    refine ⟨a.block, a.off, by rw [← (at_none hz (hq i hi 0 (by omega))).1], fun j hj => ?_⟩
    rw [Nat.add_assoc]
    exact (at_none hz (hq i hi j hj)).2
theorem Import_of_trod {fuel : Nat} {v : Value} {x : DataW H × List MemPlace} (h : DataW.trod enc Tryd.prog w base (fun _ => true) held fuel 25 [v] = some x) : ∃ a len cap g, v = .slice a len cap ∧ Row 5 w a len g := by
  have ce : Tryd.prog.cellsOf 72 = 5 := by kernel_rfl
  rcases DataW.trod_slice Tryd.underlying25 h with ⟨h0, _⟩ | ⟨a, len, cap, elems, rest, n, hn, hcs, rfl, hb, hl, hm, hlen, hel, hsp, hns⟩
  · exact ⟨none, 0, 0, fun _ _ => 0, by simpa using h0, ⟨Nat.zero_le _, fun i hi => absurd hi (Nat.not_lt_zero _)⟩⟩
  · have each : ∀ i, i < len → ∃ q : Nat → Int, ∀ j, j < 5 → w.cell? (a.add (i * 5 + j)) = some (.int .i64 (q j)) := by
      intro i hi
      have key := hel i hi
      rw [List.getElem?_eq_getElem (by omega)] at key
      obtain ⟨cs', h1, h2⟩ := Option.bind_eq_some_iff.1 key
      rw [ce] at h1
      obtain ⟨_, hcl, hcell⟩ := World.cells?_some h1
      obtain ⟨xs, k, hk, hxy, _, hxl, hf⟩ := DataW.trod_struct Tryd.underlying72 h2
      obtain ⟨y0, y1, y2, y3, y4, rfl⟩ := list5 (show xs.length = 5 from hxl)
      obtain ⟨v0, v1, v2, v3, v4, rfl⟩ := list5 (show cs'.length = 5 from hcl)
      have g0 := hf 0 _ rfl
      have g1 := hf 1 _ rfl
      have g2 := hf 2 _ rfl
      have g3 := hf 3 _ rfl
      have g4 := hf 4 _ rfl
      simp [cells_int] at g0 g1 g2 g3 g4
      obtain ⟨k0, e0, _⟩ := int_of_trod Tryd.underlying3 g0
      obtain ⟨k1, e1, _⟩ := int_of_trod Tryd.underlying3 g1
      obtain ⟨k2, e2, _⟩ := int_of_trod Tryd.underlying3 g2
      obtain ⟨k3, e3, _⟩ := int_of_trod Tryd.underlying3 g3
      obtain ⟨k4, e4, _⟩ := int_of_trod Tryd.underlying3 g4
      refine ⟨fun j => match j with | 0 => k0 | 1 => k1 | 2 => k2 | 3 => k3 | 4 => k4 | _ => 0, fun j hj => ?_⟩
      have qj := hcell j (by omega)
      rw [add_add] at qj
      clear g0 g1 g2 g3 g4 hf hcell h h2 key hel
      match j, hj with
      | 0, _ => simpa [e0] using qj
      | 1, _ => simpa [e1] using qj
      | 2, _ => simpa [e2] using qj
      | 3, _ => simpa [e3] using qj
      | 4, _ => simpa [e4] using qj
      | j + 5, hj => exact absurd hj (by omega)
    obtain ⟨q, hq⟩ := choose_lt each
    refine ⟨some a, len, cap, q, by simpa using hcs, ⟨Nat.le_trans hl hm, fun i hi => ?_⟩⟩
    have hz : w.cell? (a.add 0) = some (.int .i64 (q 0 0)) := by simpa using hq 0 (by omega) 0 (by omega)
    refine ⟨a.block, a.off, by rw [← (at_none hz (hq i hi 0 (by omega))).1], fun j hj => ?_⟩
    rw [Nat.add_assoc]
    exact (at_none hz (hq i hi j hj)).2
theorem Filter_of_trod {fuel : Nat} {v : Value} {x : DataW H × List MemPlace} (h : DataW.trod enc Tryd.prog w base (fun _ => true) held fuel 26 [v] = some x) : ∃ a len cap g, v = .slice a len cap ∧ Row 4 w a len g := by
  have ce : Tryd.prog.cellsOf 74 = 4 := by kernel_rfl
  rcases DataW.trod_slice Tryd.underlying26 h with ⟨h0, _⟩ | ⟨a, len, cap, elems, rest, n, hn, hcs, rfl, hb, hl, hm, hlen, hel, hsp, hns⟩
  · exact ⟨none, 0, 0, fun _ _ => 0, by simpa using h0, ⟨Nat.zero_le _, fun i hi => absurd hi (Nat.not_lt_zero _)⟩⟩
  · have each : ∀ i, i < len → ∃ q : Nat → Int, ∀ j, j < 4 → w.cell? (a.add (i * 4 + j)) = some (.int .i64 (q j)) := by
      intro i hi
      have key := hel i hi
      rw [List.getElem?_eq_getElem (by omega)] at key
      obtain ⟨cs', h1, h2⟩ := Option.bind_eq_some_iff.1 key
      rw [ce] at h1
      obtain ⟨_, hcl, hcell⟩ := World.cells?_some h1
      obtain ⟨xs, k, hk, hxy, _, hxl, hf⟩ := DataW.trod_struct Tryd.underlying74 h2
      obtain ⟨y0, y1, y2, y3, rfl⟩ := list4 (show xs.length = 4 from hxl)
      obtain ⟨v0, v1, v2, v3, rfl⟩ := list4 (show cs'.length = 4 from hcl)
      have g0 := hf 0 _ rfl
      have g1 := hf 1 _ rfl
      have g2 := hf 2 _ rfl
      have g3 := hf 3 _ rfl
      simp [cells_int] at g0 g1 g2 g3
      obtain ⟨k0, e0, _⟩ := int_of_trod Tryd.underlying3 g0
      obtain ⟨k1, e1, _⟩ := int_of_trod Tryd.underlying3 g1
      obtain ⟨k2, e2, _⟩ := int_of_trod Tryd.underlying3 g2
      obtain ⟨k3, e3, _⟩ := int_of_trod Tryd.underlying3 g3
      refine ⟨fun j => match j with | 0 => k0 | 1 => k1 | 2 => k2 | 3 => k3 | _ => 0, fun j hj => ?_⟩
      have qj := hcell j (by omega)
      rw [add_add] at qj
      clear g0 g1 g2 g3 hf hcell h h2 key hel
      match j, hj with
      | 0, _ => simpa [e0] using qj
      | 1, _ => simpa [e1] using qj
      | 2, _ => simpa [e2] using qj
      | 3, _ => simpa [e3] using qj
      | j + 4, hj => exact absurd hj (by omega)
    obtain ⟨q, hq⟩ := choose_lt each
    refine ⟨some a, len, cap, q, by simpa using hcs, ⟨Nat.le_trans hl hm, fun i hi => ?_⟩⟩
    have hz : w.cell? (a.add 0) = some (.int .i64 (q 0 0)) := by simpa using hq 0 (by omega) 0 (by omega)
    refine ⟨a.block, a.off, by rw [← (at_none hz (hq i hi 0 (by omega))).1], fun j hj => ?_⟩
    rw [Nat.add_assoc]
    exact (at_none hz (hq i hi j hj)).2
theorem array6 {α : Type} {cs : Array α} (h : cs.size = 6) : ∃ c0 c1 c2 c3 c4 c5, cs = #[c0, c1, c2, c3, c4, c5] := by
  obtain ⟨l⟩ := cs
  match l, h with
  | [c0, c1, c2, c3, c4, c5], _ => exact ⟨c0, c1, c2, c3, c4, c5, rfl⟩
set_option maxRecDepth 100000 in
/-- What is read as a network is one. -/
theorem net_of_trod {r : Reach} {b0 : Nat} {v : Value} {d : DataW H} {pl : List MemPlace} (hv : Value.okWide Tryd.prog w r b0 28 v) (h : DataW.Trod enc Tryd.prog w base (fun _ => true) held 28 v d pl) :
    ∃ p l c s g o e x f, v = netV p l c ∧ NetIs w p l s g o e x f := by
  obtain ⟨cs, rfl, hsz⟩ := okWide_struct Tryd.underlying28 hv
  obtain ⟨c0, c1, c2, c3, c4, c5, rfl⟩ := array6 (hsz.trans cells_net)
  obtain ⟨fuel, hf⟩ := h
  obtain ⟨xs, n, _, _, _, hlen, hfld⟩ := DataW.trod_struct Tryd.underlying28 hf
  match xs, hlen with
  | [y0, y1, y2, y3, y4, y5], _ =>
    have z0 : Tryd.prog.cellsOf 22 = 1 := by kernel_rfl
    have z1 : Tryd.prog.cellsOf 23 = 1 := by kernel_rfl
    have z2 : Tryd.prog.cellsOf 24 = 1 := by kernel_rfl
    have z4 : Tryd.prog.cellsOf 25 = 1 := by kernel_rfl
    have z5 : Tryd.prog.cellsOf 26 = 1 := by kernel_rfl
    have g0 := hfld 0 _ rfl
    have g1 := hfld 1 _ rfl
    have g2 := hfld 2 _ rfl
    have g3 := hfld 3 _ rfl
    have g4 := hfld 4 _ rfl
    have g5 := hfld 5 _ rfl
    simp [Value.cells, z0, z1, z2, z4, z5] at g0 g1 g2 g3 g4 g5
    obtain ⟨a0, l0, k0, s, rfl, h0⟩ := strs_of_trod g0
    obtain ⟨a1, l1, k1, g, rfl, h1⟩ := Link_of_trod g1
    obtain ⟨a2, l2, k2, o, rfl, h2, _⟩ := row_of_trod Tryd.underlying24 Tryd.underlying3 cells_int g2
    obtain ⟨a3, l3, k3, e, rfl, h3, _⟩ := row_of_trod Tryd.underlying24 Tryd.underlying3 cells_int g3
    obtain ⟨a4, l4, k4, x, rfl, h4⟩ := Import_of_trod g4
    obtain ⟨a5, l5, k5, f, rfl, h5⟩ := Filter_of_trod g5
    exact ⟨fun i => match i with | 0 => a0 | 1 => a1 | 2 => a2 | 3 => a3 | 4 => a4 | _ => a5, fun i => match i with | 0 => l0 | 1 => l1 | 2 => l2 | 3 => l3 | 4 => l4 | _ => l5, fun i => match i with | 0 => k0 | 1 => k1 | 2 => k2 | 3 => k3 | 4 => k4 | _ => k5, s, g, o, e, x, f, rfl, ⟨h0, h1, h2, h3, h4, h5⟩⟩
end Go.Proofs.YtbkijlcbejlddaaDoor.netArgs
