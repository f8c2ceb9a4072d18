/- Args; NetArgs: one text, so that the claim has fewer files. -/
import Derived.Test.YtoaeieehbplggaaGreatBase
import Derived.ProofKit
import Derived.OpenShut
import Derived.ShutString
import Derived.ChangeOld
import Derived.Lib.SmallJoins
import Derived.Deep.Slices
import Derived.Test.YtoaeieehbplggaaGreatNetSem
/- From the form's readings of arguments to the rows that the contracts speak of; of no program; conditions: none. -/
namespace Go.Proofs.YtoaeieehbplggaaGreat.args
open Go.ChangeShapes Go.WideShapes Go.ChangeAt Go.RowKit Go.Deep Go.Joins base

variable {H : Type} {enc : TypeId × Value → H} {P : Program} {w : World} {base : Nat} {held : Bool}

theorem getD_take {α : Type} {zs : List α} {d : α} {n i : Nat} (h : i < n) : (zs.take n)[i]?.getD d = zs[i]?.getD d := by
  rw [List.getElem?_take, if_pos h]
theorem at_none {x : Addr} {i : Nat} {v v0 : Value} (h0 : w.cell? (x.add 0) = some v0) (h : w.cell? (x.add i) = some v) : x = ⟨x.block, x.off, none⟩ ∧ w.cell? ⟨x.block, x.off + i, none⟩ = some v := by
  have hs := World.cell?_spot h0
  obtain ⟨b, o, s⟩ := x
  have hs' : s = none := by simpa [Addr.add] using hs
  subst hs'
  refine ⟨rfl, ?_⟩
  by_cases e : i = 0
  · subst e; simpa [Addr.add] using h
  · simpa [Addr.add, e] using h

theorem int_of_trod {e : TypeId} {k : IntKind} {fuel : Nat} {v : Value} {x : DataW H × List MemPlace} (he : P.underlying e = some (.int k)) (h : DataW.trod enc P w base (fun _ => true) held fuel e [v] = some x) :
    ∃ n, v = .int k n ∧ (Lit.int k n).wf = true := by
  obtain ⟨n, e0, _, hw⟩ := DataW.trod_int he h
  exact ⟨n, by simpa using e0, hw⟩

theorem row_of_trod {t e : TypeId} {fuel : Nat} {v : Value} {x : DataW H × List MemPlace} (ht : P.underlying t = some (.slice e)) (he : P.underlying e = some (.int .i64)) (ce : P.cellsOf e = 1)
    (h : DataW.trod enc P w base (fun _ => true) held fuel t [v] = some x) : ∃ a len cap zs, v = .slice a len cap ∧ IntRow w a len zs ∧ ∀ n ∈ zs, (Lit.int .i64 n).wf = true := by
  rcases open_ints ht he ce h with ⟨hcs, _⟩ | ⟨x, l, c, zs, hcs, _, hl, hm, hz, _, hcell, hwz⟩
  · exact ⟨none, 0, 0, [], by simpa using hcs, ⟨rfl, Nat.zero_le _, fun i hi => absurd hi (Nat.not_lt_zero _)⟩, by simp⟩
  · simp only [if_true] at hz
    refine ⟨some x, l, c, zs.take l, by simpa using hcs, ⟨by simp [hz, hl], Nat.le_trans hl hm, fun i hi => ?_⟩, fun n hn => hwz n (List.mem_of_mem_take hn)⟩
    obtain ⟨e1, e2⟩ := at_none (hcell 0 (by omega)) (hcell i (by omega))
    exact ⟨x.block, x.off, by rw [← e1], by rw [e2, getD_take hi, List.getD_eq_getElem?_getD]⟩

theorem bools_of_trod {t e : TypeId} {fuel : Nat} {v : Value} {x : DataW H × List MemPlace} (ht : P.underlying t = some (.slice e)) (he : P.underlying e = some .bool) (ce : P.cellsOf e = 1)
    (h : DataW.trod enc P w base (fun _ => true) held fuel t [v] = some x) : ∃ a len cap zs, v = .slice a len cap ∧ BoolRow w a len zs := by
  rcases open_slice1 ht ce h with ⟨hcs, _⟩ | ⟨a, len, cap, m, n, V, D, Pl, hcs, hb, hl, hm, hmm, rfl, hx⟩
  · exact ⟨none, 0, 0, [], by simpa using hcs, ⟨rfl, Nat.zero_le _, fun i hi => absurd hi (Nat.not_lt_zero _)⟩⟩
  · simp only [if_true] at hmm
    subst hmm
    have each : ∀ i, i < m → ∃ b : Bool, V i = .bool b := fun i hi => by
      obtain ⟨b, e0, _⟩ := DataW.trod_bool he (hx i hi).2
      exact ⟨b, by simpa using e0⟩
    obtain ⟨f, hf⟩ := choose_lt each
    refine ⟨some a, len, m, (List.range len).map f, by simpa using hcs, ⟨by simp, Nat.le_trans hl hm, fun i hi => ?_⟩⟩
    obtain ⟨e1, e2⟩ := at_none (hx 0 (by omega)).1 (hx i (by omega)).1
    exact ⟨a.block, a.off, by rw [← e1], by rw [e2, hf i (by omega)]; simp [hi]⟩

theorem rows_of_trod {t e q : TypeId} {fuel : Nat} {v : Value} {x : DataW H × List MemPlace} (ht : P.underlying t = some (.slice e)) (he : P.underlying e = some (.slice q)) (hq : P.underlying q = some (.int .i64)) (ce : P.cellsOf e = 1) (cq : P.cellsOf q = 1)
    (h : DataW.trod enc P w base (fun _ => true) held fuel t [v] = some x) : ∃ a len cap zss, v = .slice a len cap ∧ IntRows w a len zss ∧ ∀ zs ∈ zss, ∀ n ∈ zs, (Lit.int .i64 n).wf = true := by
  rcases open_slice1 ht ce h with ⟨hcs, _⟩ | ⟨a, len, cap, m, n, V, D, Pl, hcs, hb, hl, hm, hmm, rfl, hx⟩
  · exact ⟨none, 0, 0, [], by simpa using hcs, ⟨rfl, Nat.zero_le _, fun i hi => absurd hi (Nat.not_lt_zero _)⟩, by simp⟩
  · simp only [if_true] at hmm
    subst hmm
    have each : ∀ i, i < m → ∃ zs : List Int, ∃ a' l' c', V i = .slice a' l' c' ∧ IntRow w a' l' zs ∧ ∀ n ∈ zs, (Lit.int .i64 n).wf = true := fun i hi => by
      obtain ⟨a', l', c', zs, e0, h1, h2⟩ := row_of_trod he hq cq (hx i hi).2
      exact ⟨zs, a', l', c', e0, h1, h2⟩
    obtain ⟨f, hf⟩ := choose_lt each
    refine ⟨some a, len, m, (List.range len).map f, by simpa using hcs, ⟨by simp, Nat.le_trans hl hm, fun i hi => ?_⟩, ?_⟩
    · obtain ⟨a', l', c', e0, h1, _⟩ := hf i (by omega)
      obtain ⟨e1, e2⟩ := at_none (hx 0 (by omega)).1 (hx i (by omega)).1
      refine ⟨a.block, a.off, by rw [← e1], a', l', c', by rw [e2, e0], ?_⟩
      simpa [hi] using h1
    · intro zs hz
      obtain ⟨i, hi, rfl⟩ := List.mem_map.1 hz
      obtain ⟨_, _, _, _, _, h2⟩ := hf i (by have := List.mem_range.1 hi; omega)
      exact h2
end Go.Proofs.YtoaeieehbplggaaGreat.args

/- From the form's readings of a network to the rows that the contracts speak of; conditions: none. -/
namespace Go.Proofs.YtoaeieehbplggaaGreat.netArgs
open Go.ChangeShapes Go.WideShapes Go.ChangeAt Go.RowKit Go.Deep Go.Joins base netSem args
set_option linter.unusedVariables false

theorem cells_net : Tryz.prog.cellsOf 28 = 6 := by kernel_rfl
theorem cells_int : Tryz.prog.cellsOf 3 = 1 := by kernel_rfl
theorem cells_string : Tryz.prog.cellsOf 9 = 1 := by kernel_rfl
theorem add_add (x : Addr) (a b : Nat) : (x.add a).add b = x.add (a + b) := by
  by_cases ha : a = 0
  · subst ha; simp [Addr.add]
  · by_cases hb : b = 0
    · subst hb; simp [Addr.add]
    · simp [Addr.add, ha, hb, Nat.add_assoc]

variable {H : Type} {enc : TypeId × Value → H} {w : World} {base : Nat} {held : Bool}
theorem strs_of_trod {fuel : Nat} {v : Value} {x : DataW H × List MemPlace} (h : DataW.trod enc Tryz.prog w base (fun _ => true) held fuel 22 [v] = some x) : ∃ a len cap s, v = .slice a len cap ∧ StrRow w a len s := by
  rcases open_slice1 Tryz.underlying22 cells_string h with ⟨hcs, _⟩ | ⟨a, len, cap, m, n, V, D, Pl, hcs, hb, hl, hm, hmm, rfl, hx⟩
  · exact ⟨none, 0, 0, fun _ => ByteArray.empty, by simpa using hcs, ⟨Nat.zero_le _, fun i hi => absurd hi (Nat.not_lt_zero _), fun i hi => absurd hi (Nat.not_lt_zero _)⟩⟩
  · simp only [if_true] at hmm
    subst hmm
    have each : ∀ i, i < m → ∃ b : ByteArray, V i = .string b ∧ b.size ≤ maxLen := fun i hi => by
      obtain ⟨b, e0, _, hz⟩ := DataW.trod_string Tryz.underlying9 (hx i hi).2
      exact ⟨b, by simpa using e0, hz⟩
    obtain ⟨f, hf⟩ := choose_lt each
    refine ⟨some a, len, m, f, by simpa using hcs, ⟨Nat.le_trans hl hm, fun i hi => (hf i (by omega)).2, fun i hi => ?_⟩⟩
    obtain ⟨e1, e2⟩ := at_none (hx 0 (by omega)).1 (hx i (by omega)).1
    exact ⟨a.block, a.off, by rw [← e1], by rw [e2, (hf i (by omega)).1]⟩
theorem list3 {α : Type} {l : List α} (h : l.length = 3) : ∃ a0 a1 a2, l = [a0, a1, a2] := by
  match l, h with
  | [a0, a1, a2], _ => exact ⟨a0, a1, a2, rfl⟩
theorem list4 {α : Type} {l : List α} (h : l.length = 4) : ∃ a0 a1 a2 a3, l = [a0, a1, a2, a3] := by
  match l, h with
  | [a0, a1, a2, a3], _ => exact ⟨a0, a1, a2, a3, rfl⟩
theorem list5 {α : Type} {l : List α} (h : l.length = 5) : ∃ a0 a1 a2 a3 a4, l = [a0, a1, a2, a3, a4] := by
  match l, h with
  | [a0, a1, a2, a3, a4], _ => exact ⟨a0, a1, a2, a3, a4, rfl⟩
theorem Link_of_trod {fuel : Nat} {v : Value} {x : DataW H × List MemPlace} (h : DataW.trod enc Tryz.prog w base (fun _ => true) held fuel 23 [v] = some x) : ∃ a len cap g, v = .slice a len cap ∧ Row 3 w a len g := by
  have ce : Tryz.prog.cellsOf 88 = 3 := by kernel_rfl
  rcases DataW.trod_slice Tryz.underlying23 h with ⟨h0, _⟩ | ⟨a, len, cap, elems, rest, n, hn, hcs, rfl, hb, hl, hm, hlen, hel, hsp, hns⟩
  · exact ⟨none, 0, 0, fun _ _ => 0, by simpa using h0, ⟨Nat.zero_le _, fun i hi => absurd hi (Nat.not_lt_zero _)⟩⟩
  · have each : ∀ i, i < len → ∃ q : Nat → Int, ∀ j, j < 3 → w.cell? (a.add (i * 3 + j)) = some (.int .i64 (q j)) := by
      intro i hi
      have key := hel i hi
      rw [List.getElem?_eq_getElem (by omega)] at key
      obtain ⟨cs', h1, h2⟩ := Option.bind_eq_some_iff.1 key
      rw [ce] at h1
      obtain ⟨_, hcl, hcell⟩ := World.cells?_some h1
      obtain ⟨xs, k, hk, hxy, _, hxl, hf⟩ := DataW.trod_struct Tryz.underlying88 h2
      obtain ⟨y0, y1, y2, rfl⟩ := list3 (show xs.length = 3 from hxl)
      obtain ⟨v0, v1, v2, rfl⟩ := list3 (show cs'.length = 3 from hcl)
      have g0 := hf 0 _ rfl
      have g1 := hf 1 _ rfl
      have g2 := hf 2 _ rfl
      simp [cells_int] at g0 g1 g2
      obtain ⟨k0, e0, _⟩ := int_of_trod Tryz.underlying3 g0
      obtain ⟨k1, e1, _⟩ := int_of_trod Tryz.underlying3 g1
      obtain ⟨k2, e2, _⟩ := int_of_trod Tryz.underlying3 g2
      refine ⟨fun j => match j with | 0 => k0 | 1 => k1 | 2 => k2 | _ => 0, fun j hj => ?_⟩
      have qj := hcell j (by omega)
      rw [add_add] at qj
      clear g0 g1 g2 hf hcell h h2 key hel
      match j, hj with
      | 0, _ => simpa [e0] using qj
      | 1, _ => simpa [e1] using qj
      | 2, _ => simpa [e2] using qj
      | j + 3, hj => exact absurd hj (by omega)
    obtain ⟨q, hq⟩ := choose_lt each
    refine ⟨some a, len, cap, q, by simpa using hcs, ⟨Nat.le_trans hl hm, fun i hi => ?_⟩⟩
    have hz : w.cell? (a.add 0) = some (.int .i64 (q 0 0)) := by simpa using hq 0 (by omega) 0 (by omega)
    refine ⟨a.block, a.off, by rw [← (at_none hz (hq i hi 0 (by omega))).1], fun j hj => ?_⟩
    rw [Nat.add_assoc]
    exact (at_none hz (hq i hi j hj)).2
theorem Import_of_trod {fuel : Nat} {v : Value} {x : DataW H × List MemPlace} (h : DataW.trod enc Tryz.prog w base (fun _ => true) held fuel 25 [v] = some x) : ∃ a len cap g, v = .slice a len cap ∧ Row 5 w a len g := by
  have ce : Tryz.prog.cellsOf 92 = 5 := by kernel_rfl
  rcases DataW.trod_slice Tryz.underlying25 h with ⟨h0, _⟩ | ⟨a, len, cap, elems, rest, n, hn, hcs, rfl, hb, hl, hm, hlen, hel, hsp, hns⟩
  · exact ⟨none, 0, 0, fun _ _ => 0, by simpa using h0, ⟨Nat.zero_le _, fun i hi => absurd hi (Nat.not_lt_zero _)⟩⟩
  · have each : ∀ i, i < len → ∃ q : Nat → Int, ∀ j, j < 5 → w.cell? (a.add (i * 5 + j)) = some (.int .i64 (q j)) := by
      intro i hi
      have key := hel i hi
      rw [List.getElem?_eq_getElem (by omega)] at key
      obtain ⟨cs', h1, h2⟩ := Option.bind_eq_some_iff.1 key
      rw [ce] at h1
      obtain ⟨_, hcl, hcell⟩ := World.cells?_some h1
      obtain ⟨xs, k, hk, hxy, _, hxl, hf⟩ := DataW.trod_struct Tryz.underlying92 h2
      obtain ⟨y0, y1, y2, y3, y4, rfl⟩ := list5 (show xs.length = 5 from hxl)
      obtain ⟨v0, v1, v2, v3, v4, rfl⟩ := list5 (show cs'.length = 5 from hcl)
      have g0 := hf 0 _ rfl
      have g1 := hf 1 _ rfl
      have g2 := hf 2 _ rfl
      have g3 := hf 3 _ rfl
      have g4 := hf 4 _ rfl
      simp [cells_int] at g0 g1 g2 g3 g4
      obtain ⟨k0, e0, _⟩ := int_of_trod Tryz.underlying3 g0
      obtain ⟨k1, e1, _⟩ := int_of_trod Tryz.underlying3 g1
      obtain ⟨k2, e2, _⟩ := int_of_trod Tryz.underlying3 g2
      obtain ⟨k3, e3, _⟩ := int_of_trod Tryz.underlying3 g3
      obtain ⟨k4, e4, _⟩ := int_of_trod Tryz.underlying3 g4
      refine ⟨fun j => match j with | 0 => k0 | 1 => k1 | 2 => k2 | 3 => k3 | 4 => k4 | _ => 0, fun j hj => ?_⟩
      have qj := hcell j (by omega)
      rw [add_add] at qj
      clear g0 g1 g2 g3 g4 hf hcell h h2 key hel
      match j, hj with
      | 0, _ => simpa [e0] using qj
      | 1, _ => simpa [e1] using qj
      | 2, _ => simpa [e2] using qj
      | 3, _ => simpa [e3] using qj
      | 4, _ => simpa [e4] using qj
      | j + 5, hj => exact absurd hj (by omega)
    obtain ⟨q, hq⟩ := choose_lt each
    refine ⟨some a, len, cap, q, by simpa using hcs, ⟨Nat.le_trans hl hm, fun i hi => ?_⟩⟩
    have hz : w.cell? (a.add 0) = some (.int .i64 (q 0 0)) := by simpa using hq 0 (by omega) 0 (by omega)
    refine ⟨a.block, a.off, by rw [← (at_none hz (hq i hi 0 (by omega))).1], fun j hj => ?_⟩
    rw [Nat.add_assoc]
    exact (at_none hz (hq i hi j hj)).2
theorem Filter_of_trod {fuel : Nat} {v : Value} {x : DataW H × List MemPlace} (h : DataW.trod enc Tryz.prog w base (fun _ => true) held fuel 26 [v] = some x) : ∃ a len cap g, v = .slice a len cap ∧ Row 4 w a len g := by
  have ce : Tryz.prog.cellsOf 96 = 4 := by kernel_rfl
  rcases DataW.trod_slice Tryz.underlying26 h with ⟨h0, _⟩ | ⟨a, len, cap, elems, rest, n, hn, hcs, rfl, hb, hl, hm, hlen, hel, hsp, hns⟩
  · exact ⟨none, 0, 0, fun _ _ => 0, by simpa using h0, ⟨Nat.zero_le _, fun i hi => absurd hi (Nat.not_lt_zero _)⟩⟩
  · have each : ∀ i, i < len → ∃ q : Nat → Int, ∀ j, j < 4 → w.cell? (a.add (i * 4 + j)) = some (.int .i64 (q j)) := by
      intro i hi
      have key := hel i hi
      rw [List.getElem?_eq_getElem (by omega)] at key
      obtain ⟨cs', h1, h2⟩ := Option.bind_eq_some_iff.1 key
      rw [ce] at h1
      obtain ⟨_, hcl, hcell⟩ := World.cells?_some h1
      obtain ⟨xs, k, hk, hxy, _, hxl, hf⟩ := DataW.trod_struct Tryz.underlying96 h2
      obtain ⟨y0, y1, y2, y3, rfl⟩ := list4 (show xs.length = 4 from hxl)
      obtain ⟨v0, v1, v2, v3, rfl⟩ := list4 (show cs'.length = 4 from hcl)
      have g0 := hf 0 _ rfl
      have g1 := hf 1 _ rfl
      have g2 := hf 2 _ rfl
      have g3 := hf 3 _ rfl
      simp [cells_int] at g0 g1 g2 g3
      obtain ⟨k0, e0, _⟩ := int_of_trod Tryz.underlying3 g0
      obtain ⟨k1, e1, _⟩ := int_of_trod Tryz.underlying3 g1
      obtain ⟨k2, e2, _⟩ := int_of_trod Tryz.underlying3 g2
      obtain ⟨k3, e3, _⟩ := int_of_trod Tryz.underlying3 g3
      refine ⟨fun j => match j with | 0 => k0 | 1 => k1 | 2 => k2 | 3 => k3 | _ => 0, fun j hj => ?_⟩
      have qj := hcell j (by omega)
      rw [add_add] at qj
      clear g0 g1 g2 g3 hf hcell h h2 key hel
      match j, hj with
      | 0, _ => simpa [e0] using qj
      | 1, _ => simpa [e1] using qj
      | 2, _ => simpa [e2] using qj
      | 3, _ => simpa [e3] using qj
      | j + 4, hj => exact absurd hj (by omega)
    obtain ⟨q, hq⟩ := choose_lt each
    refine ⟨some a, len, cap, q, by simpa using hcs, ⟨Nat.le_trans hl hm, fun i hi => ?_⟩⟩
    have hz : w.cell? (a.add 0) = some (.int .i64 (q 0 0)) := by simpa using hq 0 (by omega) 0 (by omega)
    refine ⟨a.block, a.off, by rw [← (at_none hz (hq i hi 0 (by omega))).1], fun j hj => ?_⟩
    rw [Nat.add_assoc]
    exact (at_none hz (hq i hi j hj)).2
theorem array6 {α : Type} {cs : Array α} (h : cs.size = 6) : ∃ c0 c1 c2 c3 c4 c5, cs = #[c0, c1, c2, c3, c4, c5] := by
  obtain ⟨l⟩ := cs
  match l, h with
  | [c0, c1, c2, c3, c4, c5], _ => exact ⟨c0, c1, c2, c3, c4, c5, rfl⟩
set_option maxRecDepth 100000 in
/-- What is read as a network is one. -/
theorem net_of_trod {r : Reach} {b0 : Nat} {v : Value} {d : DataW H} {pl : List MemPlace} (hv : Value.okWide Tryz.prog w r b0 28 v) (h : DataW.Trod enc Tryz.prog w base (fun _ => true) held 28 v d pl) :
    ∃ p l c s g o e x f, v = netV p l c ∧ NetIs w p l s g o e x f := by
  obtain ⟨cs, rfl, hsz⟩ := okWide_struct Tryz.underlying28 hv
  obtain ⟨c0, c1, c2, c3, c4, c5, rfl⟩ := array6 (hsz.trans cells_net)
  obtain ⟨fuel, hf⟩ := h
  obtain ⟨xs, n, _, _, _, hlen, hfld⟩ := DataW.trod_struct Tryz.underlying28 hf
  match xs, hlen with
  | [y0, y1, y2, y3, y4, y5], _ =>
    have z0 : Tryz.prog.cellsOf 22 = 1 := by kernel_rfl
    have z1 : Tryz.prog.cellsOf 23 = 1 := by kernel_rfl
    have z2 : Tryz.prog.cellsOf 24 = 1 := by kernel_rfl
    have z4 : Tryz.prog.cellsOf 25 = 1 := by kernel_rfl
    have z5 : Tryz.prog.cellsOf 26 = 1 := by kernel_rfl
    have g0 := hfld 0 _ rfl
    have g1 := hfld 1 _ rfl
    have g2 := hfld 2 _ rfl
    have g3 := hfld 3 _ rfl
    have g4 := hfld 4 _ rfl
    have g5 := hfld 5 _ rfl
    simp [Value.cells, z0, z1, z2, z4, z5] at g0 g1 g2 g3 g4 g5
    obtain ⟨a0, l0, k0, s, rfl, h0⟩ := strs_of_trod g0
    obtain ⟨a1, l1, k1, g, rfl, h1⟩ := Link_of_trod g1
    obtain ⟨a2, l2, k2, o, rfl, h2, _⟩ := row_of_trod Tryz.underlying24 Tryz.underlying3 cells_int g2
    obtain ⟨a3, l3, k3, e, rfl, h3, _⟩ := row_of_trod Tryz.underlying24 Tryz.underlying3 cells_int g3
    obtain ⟨a4, l4, k4, x, rfl, h4⟩ := Import_of_trod g4
    obtain ⟨a5, l5, k5, f, rfl, h5⟩ := Filter_of_trod g5
    exact ⟨fun i => match i with | 0 => a0 | 1 => a1 | 2 => a2 | 3 => a3 | 4 => a4 | _ => a5, fun i => match i with | 0 => l0 | 1 => l1 | 2 => l2 | 3 => l3 | 4 => l4 | _ => l5, fun i => match i with | 0 => k0 | 1 => k1 | 2 => k2 | 3 => k3 | 4 => k4 | _ => k5, s, g, o, e, x, f, rfl, ⟨h0, h1, h2, h3, h4, h5⟩⟩
end Go.Proofs.YtoaeieehbplggaaGreat.netArgs
