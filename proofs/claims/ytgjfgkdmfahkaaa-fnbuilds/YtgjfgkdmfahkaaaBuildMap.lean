/- The gates that there are, told by a map from pairs to literals; conditions: none. -/
import Derived.Test.YtgjfgkdmfahkaaaBuildSem
import Derived.Maps.OwnSet
import Derived.Maps.Views
import Derived.WideKeyPair
import Derived.DeepKeys4
namespace Go.Proofs.Ytgjfgkdmfahkaaa.buildMap
open Go.RowKit Go.Deep Go.Maps Go.WideMaps Go base trees buildSem
set_option linter.unusedVariables false

def I64 (x : Int) : Prop := -9223372036854775808 ≤ x ∧ x ≤ 9223372036854775807
theorem laidOut : laidOutB Try.prog = true := by kernel_rfl
theorem row_pair : (64 : TypeId) < Try.prog.types.size := of_decide_eq_true (by kernel_rfl)
theorem cells_pair : Try.prog.cellsOf 64 = 2 := by kernel_rfl
theorem arr : ArrKey Try.prog 64 3 2 := ⟨Try.underlying64, by kernel_rfl, by kernel_rfl, cells_pair⟩
theorem wide : (match Try.prog.underlying 64 with | some (.array _ _) | some (.struct _) => true | _ => false) = true := by rw [Try.underlying64]
theorem keyed : Keyed Try.prog 64 := Keyed.of_law (deep_law_laid laidOut (m := 2) (by omega) row_pair (by kernel_rfl) wide)
theorem zeroI (w : World) : (zeroValue 3).run Try.prog w = .ok (.int .i64 0) w := by kernel_rfl
theorem in64_wf {x : Int} (h : I64 x) : (Lit.int .i64 x).wf = true := WalkArith.wf_i64 h
def kb (a b : Int) : Lit := .string (keyBytes [.int .i64 a, .int .i64 b])
theorem key_of {a b : Int} (ha : I64 a) (hb : I64 b) : keyOf Try.prog 64 (.agg #[.int .i64 a, .int .i64 b]) = some (kb a b) :=
  keyOf_pair arr Try.underlying3 ⟨Try.prog.types.size.pred, (Nat.succ_pred_eq_of_pos (Nat.lt_of_le_of_lt (Nat.zero_le _) row_pair)).symm⟩ (in64_wf ha) (in64_wf hb)
theorem kb_inj {a b c d : Int} (ha : I64 a) (hb : I64 b) (hc : I64 c) (hd : I64 d) (h : kb a b = kb c d) : a = c ∧ b = d := by
  have h1 := key_of ha hb
  rw [h] at h1
  have := keyed.inj h1 (key_of hc hd)
  simpa using this

theorem place_add (gs : Gl) (p q a b : Int) : placeG (gs ++ [(p, q)]) a b = match placeG gs a b with
    | some i => some i
    | none => if (p, q) = (a, b) then some gs.length else none := by
  unfold placeG
  rw [List.findIdx?_append]
  cases h : gs.findIdx? (fun g => decide (g = (a, b))) with
  | some i => rfl
  | none =>
    by_cases e : (p, q) = (a, b)
    · simp [List.findIdx?_cons, e]
    · simp [List.findIdx?_cons, e]
/-- The map's datum tells the gates' literals. -/
def MapG (n : Int) (gs : Gl) (D : DataW Unit) : Prop := Maps.IsMap D ∧ ∀ a b, I64 a → I64 b → Maps.has D (kb a b) = (placeG gs a b).isSome ∧ ∀ i, placeG gs a b = some i → D.atKey (kb a b) (.lit (.int .i64 0)) = .lit (.int .i64 (2 * (n + 1 + (i : Int))))
theorem mapG_nil (n : Int) : MapG n [] (.map []) :=
  ⟨Maps.isMap_empty, fun a b _ _ => ⟨rfl, fun i h => by cases h⟩⟩
theorem mapG_add {n : Int} {gs : Gl} {D : DataW Unit} (h : MapG n gs D) {p q : Int} (hp : I64 p) (hq : I64 q) (hno : placeG gs p q = none) : MapG n (gs ++ [(p, q)]) (D.put (kb p q) (.lit (.int .i64 (2 * (n + 1 + (gs.length : Int)))))) := by
  refine ⟨h.1.put _ _, fun a b ha hb => ?_⟩
  rw [place_add]
  by_cases e : kb a b = kb p q
  · obtain ⟨rfl, rfl⟩ := kb_inj ha hb hp hq e
    rw [hno]
    refine ⟨?_, fun i hi => ?_⟩
    · rw [Maps.has_put_same h.1 (by trivial)]; simp
    · simp at hi
      subst hi
      exact Maps.atKey_put_same h.1 (by trivial) _ _
  · obtain ⟨h1, h2⟩ := h.2 a b ha hb
    have hne : (p, q) ≠ (a, b) := fun e2 => e (by injection e2 with e3 e4; rw [e3, e4])
    rw [Maps.has_put_other e, Maps.atKey_put_other e, h1]
    cases hpl : placeG gs a b with
    | none => exact ⟨by rw [if_neg hne]; first | done | rfl, fun i hi => by simp only at hi; rw [if_neg hne] at hi; cases hi⟩
    | some j => exact ⟨rfl, fun i hi => h2 i (by rw [hpl]; exact hi)⟩
/-- The builder in block M: its inputs, its gates, its map in block mb, its operators. -/
structure Bd (M mb B : Nat) (n : Int) (gs : Gl) (v : Value) (F : Nat → Value) (w : World) : Prop where
  cells : w.rowIs M 57 11 (fun i => if i = 0 then .int .i64 n else if i = 1 then v else if i = 2 then .map (some mb) else F i)
  own : w.ownsRow B 63 2 v gs.length (flatG gs)
  map : ∃ D : DataW Unit, w.ownsMap Try.prog 64 (plainElem Try.prog 3) mb gs.length D ∧ MapG n gs D
  lt : M < B
  mlt : mb < B
  ne : M ≠ mb
  le : B ≤ w.heap.size
theorem own_below {P : Program} {k : TypeId} {R : Value → Option (DataW Unit × List MemPlace)} {b n : Nat} {D : DataW Unit} {w w' : World} (h : w.ownsMap P k R b n D) (hb : w'.heap[b]? = w.heap[b]?) : w'.ownsMap P k R b n D := by
  obtain ⟨es, clock, h1, h2⟩ := h
  exact ⟨es, clock, by rw [hb]; exact h1, h2⟩
theorem Bd.below {M mb B : Nat} {n : Int} {gs : Gl} {v : Value} {F : Nat → Value} {w w1 : World} (h : Bd M mb B n gs v F w) (hb : Below w.heap.size w w1) : Bd M mb B n gs v F w1 := by
  obtain ⟨D, hD, hG⟩ := h.map
  exact ⟨World.rowIs.of_block h.cells (hb.block _ (World.rowIs.lt h.cells)), own_kept h.own fun g hg => hb.block g (World.ownsRow.lt h.own g hg).2, ⟨D, own_below hD (hb.block _ hD.lt), hG⟩, h.lt, h.mlt, h.ne, Nat.le_trans h.le hb.size⟩
theorem Bd.c0 {M mb B : Nat} {n : Int} {gs : Gl} {v : Value} {F : Nat → Value} {w : World} (h : Bd M mb B n gs v F w) : w.cell? ⟨M, 0, none⟩ = some (.int .i64 n) := World.rowIs.cell h.cells (by omega)
theorem Bd.c1 {M mb B : Nat} {n : Int} {gs : Gl} {v : Value} {F : Nat → Value} {w : World} (h : Bd M mb B n gs v F w) : w.cell? ⟨M, 1, none⟩ = some v := World.rowIs.cell h.cells (i := 1) (by omega)
theorem Bd.c2 {M mb B : Nat} {n : Int} {gs : Gl} {v : Value} {F : Nat → Value} {w : World} (h : Bd M mb B n gs v F w) : w.cell? ⟨M, 2, none⟩ = some (.map (some mb)) := World.rowIs.cell h.cells (i := 2) (by omega)
/-- All is as it was but the builder's block, its map and the row of its gates. -/
structure ChgB (M mb : Nat) (v : Value) (w w' : World) : Prop where
  os : w'.os = w.os
  tape : w'.tape = w.tape
  output : w'.output = w.output
  size : w.heap.size ≤ w'.heap.size
  block : ∀ j, j < w.heap.size → j ≠ M → j ≠ mb → some j ≠ v.ownBlock → w'.heap[j]? = w.heap[j]?
theorem ChgB.of_below {M mb : Nat} {v : Value} {w w1 : World} (h : Below w.heap.size w w1) : ChgB M mb v w w1 := ⟨h.os, h.tape, h.output, h.size, fun j hj _ _ _ => h.block j hj⟩
theorem ChgB.trans {M mb : Nat} {v v1 : Value} {w w1 w2 : World} (h : ChgB M mb v w w1) (hn : New w v v1) (k : ChgB M mb v1 w1 w2) : ChgB M mb v w w2 :=
  ⟨k.os.trans h.os, k.tape.trans h.tape, k.output.trans h.output, Nat.le_trans h.size k.size, fun j hj h1 h0 h2 => (k.block j (Nat.lt_of_lt_of_le hj h.size) h1 h0 (by
    rcases hn with hn | ⟨g, hg, hn⟩
    · rw [hn]; exact h2
    · rw [hn]; intro e; injection e with e; omega)).trans (h.block j hj h1 h0 h2)⟩
theorem ChgB.cell {M mb : Nat} {v : Value} {w w1 : World} (h : ChgB M mb v w w1) {b o : Nat} {x : Value} (h1 : b ≠ M) (h0 : b ≠ mb) (h2 : some b ≠ v.ownBlock) (hc : w.cell? ⟨b, o, none⟩ = some x) : w1.cell? ⟨b, o, none⟩ = some x :=
  (World.cell?_of_block (a := ⟨b, o, none⟩) (h.block b (World.block_lt_of_cell? _ _ hc) h1 h0 h2)).trans hc
end Go.Proofs.Ytgjfgkdmfahkaaa.buildMap
