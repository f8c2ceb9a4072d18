/- A row of bytes that a call makes for itself, whatever its mark: what is appended to it, and how it is made of a text and made a text again; conditions: lengths that fit. -/
import Derived.Test.YtcgpjlpggbgdaaaGreatDoorTextImpl
import Derived.Laws.IdiomStrings
import Derived.Lib.AppendStr
import Derived.ArgAppend
namespace Go.Proofs.YtcgpjlpggbgdaaaGreatDoor.textRow
open Go.RowKit Go.Deep base

/-- A slice of bytes in a block of the call's own (from B on) that holds these bytes; what is spare may be written. -/
def TextRow (B : Nat) (w : World) (v : Value) (l : List UInt8) : Prop :=
  ∃ g cap, v = .slice (some ⟨g, 0, none⟩) l.length cap ∧ B ≤ g ∧ g < w.heap.size ∧ l.length ≤ cap ∧ (∀ j (hj : j < l.length), w.cell? ⟨g, j, none⟩ = some (.int .u8 (l[j].toNat : Int))) ∧ ∀ j, l.length ≤ j → j < cap → (w.cell? ⟨g, j, none⟩).isSome = true ∧ w.frozen? ⟨g, j, none⟩ = false
theorem TextRow.below {B : Nat} {w w1 : World} {v : Value} {l : List UInt8} (h : TextRow B w v l) (hb : Below w.heap.size w w1) : TextRow B w1 v l := by
  obtain ⟨g, cap, e, hB, hlt, hle, hc, hs⟩ := h
  refine ⟨g, cap, e, hB, Nat.lt_of_lt_of_le hlt hb.size, hle, fun j hj => ?_, fun j h1 h2 => ?_⟩
  · rw [hb.cell (p := ⟨g, j, none⟩) hlt]
    exact hc j hj
  · rw [hb.cell (p := ⟨g, j, none⟩) hlt, hb.frozen (p := ⟨g, j, none⟩) hlt]
    exact hs j h1 h2
theorem below_setCells {B g : Nat} (hB : B ≤ g) : ∀ (vs : List Value) (o : Nat) (w0 w : World), Below B w0 w → Below B w0 (w.setCells g o vs)
  | [], _, _, _, h => h
  | v :: vs, o, w0, w, h => below_setCells hB vs (o + 1) w0 (w.setCell ⟨g, o, none⟩ v) (h.setCell hB v)
theorem size_setCells (g : Nat) : ∀ (vs : List Value) (o : Nat) (w : World), (w.setCells g o vs).heap.size = w.heap.size
  | [], _, _ => rfl
  | v :: vs, o, w => by
    show ((w.setCell ⟨g, o, none⟩ v).setCells g (o + 1) vs).heap.size = _
    rw [size_setCells g vs (o + 1) (w.setCell ⟨g, o, none⟩ v)]
    simp [World.setCell]
theorem add_none (b o i : Nat) : (⟨b, o, none⟩ : Addr).add i = ⟨b, o + i, none⟩ := by unfold Addr.add; split <;> simp_all
theorem str_at (s : ByteArray) (j : Nat) (hj : j < s.data.toList.length) : (Lib.strCells s)[j]? = some (.int .u8 (s.data.toList[j].toNat : Int)) := by
  unfold Lib.strCells
  rw [List.getElem?_map, List.getElem?_eq_getElem hj]
  rfl

theorem frozen_at {w : World} {g j : Nat} {C : Array Value} {t : TypeId} {fz : Nat × Nat} (h : w.heap[g]? = some (.cells C t fz)) : w.frozen? ⟨g, j, none⟩ = (decide (fz.1 ≤ j) && decide (j < fz.2)) := by
  unfold World.frozen?
  dsimp only
  rw [h]

theorem info_u8 : (Tryz.prog.info? 5).map (fun i => (i.zero, i.size, i.bytes)) = some (some (.int .u8 0), 1, 1) := by kernel_rfl
theorem run_append_text (w : World) (B : Nat) (ty : TypeId) (v : Value) (l : List UInt8) (s : ByteArray) (h : TextRow B w v l) (hbytes : l.length + s.size ≤ 140737488355328) (hBw : B ≤ w.heap.size) :
    ∃ v' w', (Builtin.append_ #[22, 9] ty #[v, .string s]).run Tryz.prog w = .ok v' w' ∧ TextRow B w' v' (l ++ s.data.toList) ∧ Below B w w' := by
  obtain ⟨i0, hi, hzz⟩ := Option.map_eq_some_iff.1 info_u8
  simp only [Prod.mk.injEq] at hzz
  obtain ⟨hz0, hz1, hz2⟩ := hzz
  obtain ⟨g, cap, rfl, hB, hlt, hle, hc, hs⟩ := h
  have hsl : s.data.toList.length = s.size := by rw [Array.length_toList]; rfl
  have hlen : (l ++ s.data.toList).length = l.length + s.size := by rw [List.length_append, hsl]
  by_cases hroom : l.length + s.size ≤ cap
  · have hf := Lib.run_firstCells_string (P := Tryz.prog) w 1 s
    have hst := run_storeCells_cells (P := Tryz.prog) g l.length (Lib.strCells s) 0 w (fun j hj => by
        rw [Lib.strCells_length] at hj
        simpa using (hs (l.length + j) (by omega) (by omega)).1) (fun j hj => by
        rw [Lib.strCells_length] at hj
        simpa using (hs (l.length + j) (by omega) (by omega)).2) (Lib.strCells_oneCell s)
    simp only [Nat.add_zero] at hst
    refine ⟨.slice (some ⟨g, 0, none⟩) (l.length + s.size) cap, w.setCells g l.length (Lib.strCells s), ?_, ⟨g, cap, by rw [hlen], hB, by rw [size_setCells]; exact hlt, by rw [hlen]; exact hroom, fun j hj => ?_, fun j h1 h2 => ?_⟩, below_setCells hB _ _ _ _ (Below.refl _ _)⟩
    · simp [Builtin.append_, run_underlying Tryz.underlying22, run_underlying Tryz.underlying9, sizeOf, typeInfo, hi, hz1, Builtin.lenOf, hroom, hf, Addr.add_lit, hst]
    · by_cases hj1 : j < l.length
      · rw [World.cell?_setCells_out g _ _ _ _ (fun _ _ => .inl hj1), hc j hj1, List.getElem_append_left hj1]
      · have hj2 : j - l.length < s.data.toList.length := by rw [hlen] at hj; omega
        have h3 := World.cell?_setCells_in g (Lib.strCells s) l.length w (fun i hi' => by
          rw [Lib.strCells_length] at hi'
          exact (hs (l.length + i) (by omega) (by omega)).1) (j - l.length) (by rw [Lib.strCells_length, ← hsl]; exact hj2)
        rw [show l.length + (j - l.length) = j by omega] at h3
        rw [h3, List.getElem_append_right (by omega)]
        have h4 := str_at s (j - l.length) hj2
        rw [List.getElem?_eq_getElem (by rw [Lib.strCells_length, ← hsl]; exact hj2)] at h4
        exact h4
    · rw [hlen] at h1
      rw [World.cell?_setCells_out g _ _ _ _ (fun _ _ => .inr (by rw [Lib.strCells_length]; exact h1)), World.frozen?_setCells]
      exact hs j (by omega) h2
  · have hr := Lib.run_append_grow_string (P := Tryz.prog) w 22 9 ty 5 i0 (.int .u8 0) Tryz.underlying22 Tryz.underlying9 hi hz0 ⟨g, 0, none⟩ l.length cap (Lib.byteCells l) (by rw [Lib.byteCells_length, hz1, Nat.mul_one]) (fun j u hu => by
        have hj : j < l.length := by
          have := (List.getElem?_eq_some_iff.1 hu).1
          rwa [Lib.byteCells_length] at this
        rw [add_none, Nat.zero_add, hc j hj]
        unfold Lib.byteCells at hu
        rw [List.getElem?_map, List.getElem?_eq_getElem hj] at hu
        exact hu) s (by omega) (by omega) (by rw [hz2]; exact growslice_fits (by omega) (by omega))
    have hge := grownCap_ge w (l.length + s.size) cap 5
    have hcell : ∀ (C : Array Value) (j : Nat), (w.drew.alloc (.cells C 5)).cell? ⟨w.heap.size, j, none⟩ = C[j]? := fun C j => World.cell?_alloc_mark w.drew C 5 (0, 0) j
    have hfr : ∀ (C : Array Value) (j : Nat), (w.drew.alloc (.cells C 5)).frozen? ⟨w.heap.size, j, none⟩ = false := fun C j => by
      have h0 : (w.drew.alloc (.cells C 5)).heap[w.heap.size]? = some (.cells C 5) := heap_alloc_new w.drew _
      rw [frozen_at h0]
      simp
    refine ⟨_, _, hr, ⟨w.heap.size, _, by rw [hlen], hBw, by simp, by rw [hlen]; exact hge, fun j hj => ?_, fun j h1 h2 => ?_⟩, (Below.refl B w).drew.alloc hBw _⟩
    · rw [hcell]
      rw [← Array.getElem?_toList, Array.toList_append, Array.toList_append]
      rw [List.getElem?_append_left (by rw [List.length_append, Lib.byteCells_length, Lib.strCells_length, ← hlen]; exact hj)]
      have e : Lib.byteCells l ++ Lib.strCells s = Lib.byteCells (l ++ s.data.toList) := by
        unfold Lib.byteCells Lib.strCells
        rw [List.map_append]
      rw [e]
      unfold Lib.byteCells
      rw [List.getElem?_map, List.getElem?_eq_getElem hj]
      rfl
    · rw [hcell, hfr]
      refine ⟨?_, rfl⟩
      rw [Array.getElem?_eq_getElem (by
        simp only [Array.size_append, List.size_toArray, Lib.byteCells_length, Lib.strCells_length, size_zeroCells]
        rw [hlen] at h1
        have : (Value.int IntKind.u8 0).cells.size = 1 := rfl
        rw [this]
        omega)]
      rfl
theorem wpList_append_row {ops : Array Oper} {rest : List Oper} {o : Oper} {a : Act} {Q : Exit → Act → World → Prop} (w : World) (hgd : o.guard = none) (sl x : Operand)
    (ho : o.op = .call { callee := .builtin .append, args := #[sl, x], argTypes := #[22, 9] })
    (B : Nat) (v : Value) (l : List UInt8) (hs : a.eval sl = v) (hown : TextRow B w v l) (s : ByteArray) (hx : a.eval x = .string s) (hbytes : l.length + s.size ≤ 140737488355328) (hBw : B ≤ w.heap.size)
    (h : ∀ v' w', TextRow B w' v' (l ++ s.data.toList) → Below B w w' → wpList Tryz.prog ops Q rest (a.put o.dst v') w') : wpList Tryz.prog ops Q (o :: rest) a w := by
  refine wpList_plain hgd fun K hK => ?_
  obtain ⟨v', w', hr, h2, h3⟩ := run_append_text w B o.type v l s hown hbytes hBw
  unfold Oper.wp execOp
  simp only [ho, resolve, invoke, builtin, Sem.run_bind, Sem.run_pure, Result.andThen_ok, List.map_toArray, List.map_cons, List.map_nil, hs, hx, hr]
  exact hK _ _ (h v' w' h2 h3)
theorem bytes_row (w : World) (B : Nat) (s : ByteArray) (hBw : B ≤ w.heap.size) :
    ∃ v' w', (convert 9 22 (.string s)).run Tryz.prog w = .ok v' w' ∧ TextRow B w' v' s.data.toList ∧ Below B w w' := by
  have hr := run_bytes_of_string (P := Tryz.prog) w 9 22 5 s Tryz.underlying9 Tryz.underlying22 Tryz.underlying5
  have hsl : s.data.toList.length = s.size := by rw [Array.length_toList]; rfl
  have hge := grownCap_ge w s.size 0 5
  obtain ⟨cap, hcap⟩ : ∃ cap, grownCap w s.size 0 5 = cap := ⟨_, rfl⟩
  rw [hcap] at hr hge
  have hCs : (bytesRow s cap).size = cap := by
    unfold bytesRow
    simp
    have : s.data.size = s.size := rfl
    omega
  have h0 : ∀ C fr, (w.drew.alloc (.cells C 5 fr)).heap[w.heap.size]? = some (.cells C 5 fr) := fun C fr => heap_alloc_new w.drew _
  refine ⟨_, _, hr, ⟨w.heap.size, cap, by rw [hsl], hBw, by simp, by rw [hsl]; exact hge, fun j hj => ?_, fun j h1 h2 => ?_⟩, (Below.refl B w).drew.alloc hBw _⟩
  · rw [show (w.drew.alloc (.cells (bytesRow s cap) 5 ((bytesRow s cap).size, (bytesRow s cap).size + 1))).cell? ⟨w.heap.size, j, none⟩ = (bytesRow s cap)[j]? from World.cell?_alloc_mark w.drew _ _ _ j]
    unfold bytesRow
    have hj' : j < s.data.size := by rw [hsl] at hj; exact hj
    rw [Array.getElem?_append_left (by simpa using hj'), Array.getElem?_map, Array.getElem?_eq_getElem hj', Array.getElem_toList]
    rfl
  · refine ⟨?_, ?_⟩
    · rw [show (w.drew.alloc (.cells (bytesRow s cap) 5 ((bytesRow s cap).size, (bytesRow s cap).size + 1))).cell? ⟨w.heap.size, j, none⟩ = (bytesRow s cap)[j]? from World.cell?_alloc_mark w.drew _ _ _ j]
      rw [Array.getElem?_eq_getElem (by omega)]
      rfl
    · have h3 := h0 (bytesRow s cap) ((bytesRow s cap).size, (bytesRow s cap).size + 1)
      rw [frozen_at h3]
      rw [hCs]
      have h4 : ¬ cap ≤ j := by omega
      simp [h4]
theorem step_bytes {w : World} {ops : Array Oper} {o : Oper} {a : Act} {K : Act → World → Prop} {Q : Exit → Act → World → Prop} {E : Prop} (hgd : o.guard = none) (x : Operand) (ho : o.op = .convert 9 22 x) (d : Option Tmp) (hd : o.dst = d)
    (B : Nat) (s : ByteArray) (hx : a.eval x = .string s) (hBw : B ≤ w.heap.size) (h : ∀ v' w', TextRow B w' v' s.data.toList → Below B w w' → K (a.put d v') w') :
    if Region.wanted o (yielded ops a.tmps) = true then Oper.wp Tryz.prog o a w K Q else E := by
  subst hd
  have hw : Region.wanted o (yielded ops a.tmps) = true := by simp [Region.wanted, hgd]
  rw [if_pos hw]
  obtain ⟨v', w', hr, h2, h3⟩ := bytes_row w B s hBw
  unfold Oper.wp execOp
  simp only [ho, hx, Sem.run_bind, hr, Result.andThen_ok, Sem.run_pure]
  exact h v' w' h2 h3
theorem back_row {B : Nat} {w : World} {v : Value} {l : List UInt8} (h : TextRow B w v l) : (convert 22 9 v).run Tryz.prog w = .ok (.string ⟨l.toArray⟩) w := by
  obtain ⟨g, cap, rfl, _, _, _, hc, _⟩ := h
  exact run_convert_bytes_back (P := Tryz.prog) w 22 9 5 ⟨g, 0, none⟩ cap l Tryz.underlying22 Tryz.underlying5 Tryz.underlying9 (fun j hj => by rw [add_none, Nat.zero_add]; exact hc j hj)
end Go.Proofs.YtcgpjlpggbgdaaaGreatDoor.textRow
