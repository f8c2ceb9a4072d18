/- ReadNew; ReadMem: one text, so that the claim has fewer files. -/
import Derived.Test.YtffacjebnbplaaaGreatDoorPart9
import Derived.Maps.OwnOps
import Derived.Maps.OwnSet
import Derived.Maps.Views
import Derived.StringKeys
import Derived.Sort.Row
/- newNetReader of the program, and the map of its readers; conditions: none. -/
namespace Go.Proofs.YtffacjebnbplaaaGreatDoor.readNew
open Go.RowKit Go.Deep Go.Maps Go.WideMaps Go base netSem netLines netBytes askWords askSem readMath
set_option linter.unusedVariables false

def hE (v : Value) : Option (DataW Value × List MemPlace) := some (.held v, [])
theorem keyed : Keyed Tryz.prog 9 := string_keyed Tryz.underlying9
theorem key_of {s : ByteArray} (h : s.size ≤ maxLen) : keyOf Tryz.prog 9 (.string s) = some (.string s.data.toList) := keyOf_string_mk Tryz.underlying9 h
/-- 'm[k] = v' of a map's literal. -/
theorem wpList_insert_own {H : Type} {P : Program} (w : World) {ops : Array Oper} {rest : List Oper} {o : Oper} {a : Act} {Q : Exit → Act → World → Prop}
    (hg : o.guard = none) (m x v : Operand) (t : TypeId) (hop : o.op = Op.insert t m x v)
    (k e : TypeId) (K : Keyed P k) (ht : P.underlying t = some (.map k e)) (R : Value → Option (DataW H × List MemPlace)) (b n : Nat) (D : DataW H)
    (hm : a.eval m = .map (some b)) (hown : w.ownsMap P k R b n D) (hn : n < maxLen) (key val : Value) (kl : Lit) (hx : a.eval x = key) (hv : a.eval v = val) (hkey : keyOf P k key = some kl)
    (d : DataW H) (ps : List MemPlace) (hval : R val = some (d, ps))
    (hK : ∀ w', w'.ownsMap P k R b (n + 1) (D.put kl d) → w.grownBy w' (some b) → wpList P ops Q rest (a.put o.dst undef) w') :
    wpList P ops Q (o :: rest) a w := by
  refine wpList_plain hg fun K' hK' => ?_
  obtain ⟨w', hrun, r1, r2⟩ := hown.update K ht hn hkey hval
  unfold Oper.wp
  simp [execOp, hop, hm, hx, hv, hrun, Result.andThen]
  exact hK' _ _ (hK w' r1 r2)
/-- What the map's literal puts in. -/
def fv (n : Nat) : Value := Act.eval { tmps := #[], defers := [] } (Operand.func n)
def mapD : DataW Value := ((((((DataW.map []).put (.string kRouter) (.held (fv 37))).put (.string kLink) (.held (fv 38))).put (.string kOrigin) (.held (fv 39))).put (.string kExternal) (.held (fv 40))).put (.string kImport) (.held (fv 41))).put (.string kFilter) (.held (fv 42))
/-- Each word's reader. -/
inductive Rdr : Wd → Nat → Prop
  | router : Rdr kRouter 37
  | link : Rdr kLink 38
  | origin : Rdr kOrigin 39
  | ext : Rdr kExternal 40
  | imp : Rdr kImport 41
  | filt : Rdr kFilter 42
theorem zeroF (w : World) : (zeroValue 82).run Tryz.prog w = .ok .nilFunc w := by kernel_rfl
theorem map_at {k : Wd} {n : Nat} (h : Rdr k n) : Maps.has mapD (.string k) = true ∧ mapD.atKey (.string k) (.held .nilFunc) = .held (fv n) := by
  cases h <;> exact ⟨by rfl, by rfl⟩
theorem look_at {W : World} {mb m n : Nat} {k : Wd} (h : W.ownsMap Tryz.prog 9 hE mb m mapD) (hk : Rdr k n) : (Instr.lookup 48 (.map (some mb)) (.string (piece k)) true).run Tryz.prog W = .ok (.tuple #[fv n, .bool true]) W := by
  have hs : (piece k).size ≤ maxLen := by cases hk <;> decide
  obtain ⟨v, ps, hr, hv⟩ := h.look_ok keyed Tryz.underlying48 (zeroF W) (zd := .held .nilFunc) (zp := []) rfl (key_of hs)
  have e : (piece k).data.toList = k := rfl
  rw [e, (map_at hk).2] at hv
  rw [e, (map_at hk).1] at hr
  unfold hE at hv
  simp only [Option.some.injEq, Prod.mk.injEq, DataW.held.injEq] at hv
  rw [hr, hv.1]
def cells0 (mb : Nat) : Array Value := #[.slice none 0 0, .slice none 0 0, .slice none 0 0, .slice none 0 0, .slice none 0 0, .slice none 0 0, .slice none 0 0, .map (some mb)]
set_option maxHeartbeats 1600000 in
set_option maxRecDepth 8000 in
theorem new_impl (w : World) : Calls Tryz.prog 14 #[] w fun e w' => ∃ w1, e = .returned (.pointer (some ⟨w1.heap.size, 0, none⟩)) ∧ w' = w1.alloc (.cells (cells0 w.heap.size) 50) ∧ (∃ n, w1.ownsMap Tryz.prog 9 hE w.heap.size n mapD) ∧ Below w.heap.size w w1 := by
  have hmm := @run_makeMap Tryz.prog
  have h0 := World.ownsMap_made w Tryz.prog 9 hE
  have g0 : Below w.heap.size w (w.alloc (.map #[] 0)) := (Below.refl _ _).alloc (Nat.le_refl _) _
  have hst : ∀ {W W1 : World}, Below w.heap.size w W → W.grownBy W1 (some w.heap.size) → Below w.heap.size w W1 := fun h1 h2 => h1.grown h2 h1.size (fun j hj => by injection hj with hj; omega)
  go_enter Tryz.func14, Tryz.ntmps14
  go_wp2_with (refine wpList_insert_own _ rfl _ _ _ 48 rfl 9 82 keyed Tryz.underlying48 hE _ _ _ rfl (by assumption) (by unfold maxLen; omega) _ _ _ rfl rfl (key_of (by decide)) _ _ rfl ?_; intro w1 h1 g1; replace g0 := hst g0 g1)
  go_ret
  exact ⟨w1, rfl, rfl, ⟨_, h1⟩, g0⟩
end Go.Proofs.YtffacjebnbplaaaGreatDoor.readNew

/- The reader of a network in memory; of no program but its types; conditions: none. -/
namespace Go.Proofs.YtffacjebnbplaaaGreatDoor.readMem
open Go.RowKit Go.Deep Go.Maps Go.Sort Go base netSem netLines netBytes askWords askSem readMath readNew
set_option linter.unusedVariables false

def fset {α : Type} (f : Nat → α) (j : Nat) (x : α) : Nat → α := fun i => if i = j then x else f i
theorem fset_same {α : Type} (f : Nat → α) (j : Nat) (x : α) : fset f j x j = x := if_pos rfl
theorem fset_ne {α : Type} (f : Nat → α) {j i : Nat} (x : α) (h : i ≠ j) : fset f j x i = f i := if_neg h
def flatR (m : Nat) (g : R) (n : Nat) : List Value := (List.range n).flatMap fun i => (List.range m).map fun j => .int .i64 (g i j)
def strs (s : Ss) (n : Nat) : List Value := (List.range n).map fun i => .string (s i)
theorem strs_succ (s : Ss) (n : Nat) : strs s (n + 1) = strs s n ++ [.string (s n)] := by simp [strs, List.range_succ]
theorem flat_succ (m : Nat) (g : R) (n : Nat) : flatR m g (n + 1) = flatR m g n ++ (List.range m).map fun j => .int .i64 (g n j) := by simp [flatR, List.range_succ]
theorem flat_len (m : Nat) (g : R) (n : Nat) : (flatR m g n).length = n * m := by
  induction n with
  | zero => simp [flatR]
  | succ n ih => rw [flat_succ, List.length_append, ih, Nat.succ_mul]; simp
theorem flat_at (m : Nat) (g : R) {n i j : Nat} (hi : i < n) (hj : j < m) : (flatR m g n)[i * m + j]? = some (.int .i64 (g i j)) := by
  induction n with
  | zero => omega
  | succ n ih =>
    rw [flat_succ]
    by_cases e : i = n
    · subst e
      rw [List.getElem?_append_right (by rw [flat_len]; omega), flat_len, Nat.add_sub_cancel_left]
      simp [hj]
    · have h1 : i < n := by omega
      have h2 : i * m + m ≤ n * m := by rw [← Nat.succ_mul]; exact Nat.mul_le_mul_right _ h1
      rw [List.getElem?_append_left (by rw [flat_len]; omega)]
      exact ih h1
def tyR : Nat → TypeId
  | 0 => 9
  | 1 => 61
  | 2 => 3
  | 3 => 3
  | 4 => 65
  | _ => 68
def szR : Nat → Nat
  | 0 => 1
  | 1 => 3
  | 2 => 1
  | 3 => 1
  | 4 => 5
  | _ => 4
def rowV (s : Ss) (g : R) (o e : List Int) (x f : R) : Nat → Nat → List Value
  | 0, n => strs s n
  | 1, n => flatR 3 g n
  | 2, n => flatR 1 (fun i _ => zAt o i) n
  | 3, n => flatR 1 (fun i _ => zAt e i) n
  | 4, n => flatR 5 x n
  | _, n => flatR 4 f n
def cl (j : Nat) : Nat := if j = 0 then 0 else j + 1
theorem own_kept {B n : Nat} {w w1 : World} {v : Value} {t : TypeId} {s : Nat} {xs : List Value} (h : w.ownsRow B t s v n xs) (hb : ∀ g, v.ownBlock = some g → w1.heap[g]? = w.heap[g]?) : w1.ownsRow B t s v n xs := by
  obtain ⟨h1, h2⟩ := h
  refine ⟨h1, ?_⟩
  rcases h2 with h2 | ⟨g, cap, cur, rfl, hg, hh, hn, hm, hs, ht⟩
  · exact .inl h2
  · exact .inr ⟨g, cap, cur, rfl, hg, by rw [hb g rfl]; exact hh, hn, hm, hs, ht⟩
theorem map_kept {P : Program} {k : TypeId} {H : Type} {R : Value → Option (DataW H × List MemPlace)} {b n : Nat} {D : DataW H} {w w' : World} (h : w.ownsMap P k R b n D) (hb : w'.heap[b]? = w.heap[b]?) : w'.ownsMap P k R b n D := by
  obtain ⟨es, clock, h1, h2⟩ := h
  exact ⟨es, clock, by rw [hb]; exact h1, h2⟩
def cellF (mb : Nat) (v : Nat → Value) (i : Nat) : Value := if i = 0 then v 0 else if i = 1 then .slice none 0 0 else if i = 7 then .map (some mb) else v (i - 1)
/-- The reader in block M: what it holds so far, and its map. -/
structure NRd (M mb B : Nat) (s : Ss) (g : R) (o e : List Int) (x f : R) (k : Nat → Nat) (v : Nat → Value) (w : World) : Prop where
  cells : w.rowIs M 50 8 (cellF mb v)
  rows : ∀ j, j < 6 → w.ownsRow B (tyR j) (szR j) (v j) (k j) (rowV s g o e x f j (k j))
  apart : ∀ i j b, i < 6 → j < 6 → i ≠ j → (v i).ownBlock = some b → (v j).ownBlock ≠ some b
  map : ∃ n, w.ownsMap Tryz.prog 9 hE mb n mapD
  lt : M < B
  mlt : mb < B
  ne : M ≠ mb
  le : B ≤ w.heap.size
/-- All below B is as it was, but the reader. -/
structure Stay (M B : Nat) (w w' : World) : Prop where
  os : w'.os = w.os
  tape : w'.tape = w.tape
  output : w'.output = w.output
  size : w.heap.size ≤ w'.heap.size
  block : ∀ j, j < B → j ≠ M → w'.heap[j]? = w.heap[j]?
theorem Stay.refl (M B : Nat) (w : World) : Stay M B w w := ⟨rfl, rfl, rfl, Nat.le_refl _, fun _ _ _ => rfl⟩
theorem Stay.trans {M B : Nat} {w w1 w2 : World} (h : Stay M B w w1) (k : Stay M B w1 w2) : Stay M B w w2 :=
  ⟨k.os.trans h.os, k.tape.trans h.tape, k.output.trans h.output, Nat.le_trans h.size k.size, fun j hj hn => (k.block j hj hn).trans (h.block j hj hn)⟩
theorem Stay.of_below {M B : Nat} {w w1 : World} (h : Below w.heap.size w w1) (hB : B ≤ w.heap.size) : Stay M B w w1 := ⟨h.os, h.tape, h.output, h.size, fun j hj _ => h.block j (by omega)⟩
variable {M mb B : Nat} {s : Ss} {g x f : R} {o e : List Int} {k : Nat → Nat} {v : Nat → Value} {w : World}
theorem NRd.below (h : NRd M mb B s g o e x f k v w) {w1 : World} (hb : Below w.heap.size w w1) : NRd M mb B s g o e x f k v w1 := by
  obtain ⟨n, hm⟩ := h.map
  exact ⟨World.rowIs.of_block h.cells (hb.block _ (World.rowIs.lt h.cells)), fun j hj => own_kept (h.rows j hj) fun g hg => hb.block g (World.ownsRow.lt (h.rows j hj) g hg).2, h.apart, ⟨n, map_kept hm (hb.block _ hm.lt)⟩, h.lt, h.mlt, h.ne, Nat.le_trans h.le hb.size⟩
theorem NRd.cell (h : NRd M mb B s g o e x f k v w) {i : Nat} (hi : i < 8) : w.cell? ⟨M, i, none⟩ = some (cellF mb v i) := World.rowIs.cell h.cells hi
theorem NRd.at (h : NRd M mb B s g o e x f k v w) {j : Nat} (hj : j < 6) : w.cell? ⟨M, cl j, none⟩ = some (v j) := by
  have h1 := h.cell (i := cl j) (by unfold cl; split <;> omega)
  have h2 : cellF mb v (cl j) = v j := by
    unfold cl cellF
    by_cases e0 : j = 0
    · subst e0; rfl
    · rw [if_neg e0, if_neg (by omega), if_neg (by omega), if_neg (by omega), Nat.add_sub_cancel]
  rw [h1, h2]
theorem NRd.form (h : NRd M mb B s g o e x f k v w) {j : Nat} (hj : j < 6) : ∃ a c, v j = .slice a (k j) c ∧ k j ≤ c := by
  rcases (h.rows j hj).2 with ⟨e0, h0⟩ | ⟨b, cap, cur, e0, _, _, hn, _⟩
  · exact ⟨none, 0, by rw [e0, h0], by omega⟩
  · exact ⟨_, _, e0, hn⟩
theorem own_cell {w : World} {B n m : Nat} {t : TypeId} {a : Option Addr} {l c : Nat} {xs : List Value} (h : w.ownsRow B t m (.slice a l c) n xs) (hn : 0 < n) : ∃ b, a = some ⟨b, 0, none⟩ ∧ ∀ j u, j < n * m → xs[j]? = some u → w.cell? ⟨b, j, none⟩ = some u := by
  rcases h.2 with ⟨_, h0⟩ | ⟨b, cap, cur, e0, _, hh, hc, _, hs, ht⟩
  · omega
  · injection e0 with e1 _ _
    refine ⟨b, e1, fun j u hj hu => ?_⟩
    rw [← ht, List.getElem?_take, if_pos (by omega), Array.getElem?_toList] at hu
    simp [World.cell?, hh, hu]
theorem own_most {w : World} {B n m : Nat} {t : TypeId} {v : Value} {xs : List Value} (h : w.ownsRow B t m v n xs) : n ≤ maxLen := by
  rcases h.2 with ⟨_, h0⟩ | ⟨b, cap, cur, e0, _, hh, hc, hm, _⟩
  · rw [h0]; exact Nat.zero_le _
  · exact Nat.le_trans hc hm
theorem row_of {w : World} {B n m : Nat} {t : TypeId} {a : Option Addr} {l c : Nat} {g : R} (h : w.ownsRow B t m (.slice a l c) n (flatR m g n)) : Row m w a n g :=
  ⟨own_most h, fun i hi => by
    obtain ⟨b, e0, hc⟩ := own_cell h (by omega)
    refine ⟨b, 0, e0, fun j hj => ?_⟩
    have h2 : i * m + m ≤ n * m := by rw [← Nat.succ_mul]; exact Nat.mul_le_mul_right _ hi
    rw [Nat.zero_add]
    exact hc _ _ (by omega) (flat_at m g hi hj)⟩
theorem str_of {w : World} {B n : Nat} {t : TypeId} {a : Option Addr} {l c : Nat} {s : Ss} (h : w.ownsRow B t 1 (.slice a l c) n (strs s n)) (hs : ∀ i, i < n → (s i).size ≤ maxLen) : StrRow w a n s :=
  ⟨own_most h, hs, fun i hi => by
    obtain ⟨b, e0, hc⟩ := own_cell h (by omega)
    refine ⟨b, 0, e0, ?_⟩
    rw [Nat.zero_add]
    exact hc _ _ (by omega) (by simp [strs, hi])⟩
/-- A row grows by one, and is stored. -/
theorem NRd.add (h : NRd M mb B s g o e x f k v w) {j : Nat} (hj : j < 6) {W w2 : World} {v2 : Value} (hb : Below w.heap.size w W) (ho : w2.ownsRow B (tyR j) (szR j) v2 (k j + 1) (rowV s g o e x f j (k j + 1))) (hg : W.grownBy w2 (v j).ownBlock) (ha : v2.ownBlock = (v j).ownBlock ∨ ∃ b, W.heap.size ≤ b ∧ v2.ownBlock = some b) :
    (w2.cell? ⟨M, cl j, none⟩ = some (v j) ∧ w2.frozen? ⟨M, cl j, none⟩ = false) ∧ NRd M mb B s g o e x f (fset k j (k j + 1)) (fset v j v2) (w2.setCell ⟨M, cl j, none⟩ v2) ∧ Stay M B w (w2.setCell ⟨M, cl j, none⟩ v2) := by
  have hW := h.below hb
  have hlt := h.lt
  have hmlt := h.mlt
  have hle := h.le
  have hcl : cl j < 8 := by unfold cl; split <;> omega
  have hne : some M ≠ (v j).ownBlock := fun e0 => by have := (World.ownsRow.lt (h.rows j hj) M e0.symm).1; omega
  have hme : some mb ≠ (v j).ownBlock := fun e0 => by have := (World.ownsRow.lt (h.rows j hj) mb e0.symm).1; omega
  have htw := World.rowIs.of_block hW.cells (hg.block _ (World.rowIs.lt hW.cells) hne)
  obtain ⟨n, hm⟩ := hW.map
  have hsz : w.heap.size ≤ (w2.setCell ⟨M, cl j, none⟩ v2).heap.size := by
    have h1 := hg.size
    have h2 := hb.size
    simp [World.setCell]
    omega
  refine ⟨⟨?_, World.rowIs.frozen htw _⟩, ⟨?_, fun i hi => ?_, fun i i' b hi hi' hn h1 => ?_, ⟨n, map_kept hm ?_⟩, hlt, hmlt, h.ne, Nat.le_trans hle hsz⟩, ⟨?_, ?_, ?_, hsz, fun i hi hn => ?_⟩⟩
  · have := hW.at hj
    rw [World.cell?_of_block (a := ⟨M, cl j, none⟩) (hg.block M (World.rowIs.lt hW.cells) hne)]
    exact this
  · refine World.rowIs.congr (World.rowIs.set htw (cl j) v2) fun i hi => ?_
    by_cases e0 : i = cl j
    · subst e0
      rw [if_pos rfl]
      unfold cellF
      by_cases e1 : j = 0
      · subst e1; rfl
      · have e2 : cl j = j + 1 := if_neg e1
        rw [e2, if_neg (by omega), if_neg (by omega), if_neg (by omega), Nat.add_sub_cancel, fset_same]
    · rw [if_neg e0]
      unfold cellF
      by_cases e1 : i = 0
      · rw [if_pos e1, if_pos e1, fset_ne]
        intro e2
        subst e1 e2
        exact e0 rfl
      · rw [if_neg e1, if_neg e1]
        by_cases e2 : i = 1
        · rw [if_pos e2, if_pos e2]
        · rw [if_neg e2, if_neg e2]
          by_cases e3 : i = 7
          · rw [if_pos e3, if_pos e3]
          · rw [if_neg e3, if_neg e3, fset_ne]
            intro e4
            unfold cl at e0
            rw [if_neg (by omega)] at e0
            omega
  · by_cases e0 : i = j
    · subst e0
      rw [fset_same, fset_same]
      exact own_kept ho fun b hb' => Below.heap_setCell _ _ _ _ (by have := (World.ownsRow.lt ho b hb').1; dsimp only; omega)
    · rw [fset_ne _ _ e0, fset_ne _ _ e0]
      refine own_kept (hW.rows i hi) fun b hb' => ?_
      have h1 := World.ownsRow.lt (hW.rows i hi) b hb'
      exact (Below.heap_setCell _ _ _ _ (by dsimp only; omega)).trans (hg.block b h1.2 (fun e1 => h.apart i j b hi hj e0 hb' e1.symm))
  · have hnew : ∀ i, i < 6 → i ≠ j → ∀ b, (v i).ownBlock = some b → v2.ownBlock ≠ some b := fun i hi hij b h1 h2 => by
      rcases ha with ha | ⟨b', hb', ha⟩
      · exact h.apart i j b hi hj hij h1 (by rw [← ha]; exact h2)
      · rw [ha] at h2
        injection h2 with h2
        have := (World.ownsRow.lt (hW.rows i hi) b h1).2
        omega
    by_cases e0 : i = j
    · subst e0
      rw [fset_same] at h1
      rw [fset_ne _ _ (fun e1 => hn e1.symm)]
      exact fun h2 => hnew i' hi' (fun e1 => hn e1.symm) b h2 h1
    · rw [fset_ne _ _ e0] at h1
      by_cases e1 : i' = j
      · subst e1
        rw [fset_same]
        exact hnew i hi e0 b h1
      · rw [fset_ne _ _ e1]
        exact h.apart i i' b hi hi' hn h1
  · exact (Below.heap_setCell _ _ _ _ (by have := h.ne; dsimp only; omega)).trans (hg.block mb hm.lt hme)
  · rw [setCell_eq]; exact hg.os.trans hb.os
  · rw [setCell_eq]; exact hg.tape.trans hb.tape
  · rw [setCell_eq]; exact hg.output.trans hb.output
  · refine (Below.heap_setCell _ _ _ _ (by dsimp only; omega)).trans ((hg.block i (by have := hb.size; omega) fun e0 => ?_).trans (hb.block i (by omega)))
    have := (World.ownsRow.lt (h.rows j hj) i e0.symm).1
    omega
/-- The same, for a walk: the row's two slices by name. -/
theorem NRd.store (h : NRd M mb B s g o e x f k v w) {j : Nat} (hj : j < 6) {va : Option Addr} {n vc : Nat} (hv : v j = .slice va n vc) (hn : k j = n) {W : World} (hb : Below w.heap.size w W) {es : List Value} (hrow : rowV s g o e x f j (n + 1) = rowV s g o e x f j n ++ es) :
    ∀ (w8 : World) (va' : Option Addr) (vc' : Nat), W.grownBy w8 (Value.ownBlock (.slice va n vc)) → w8.ownsRow B (tyR j) (szR j) (.slice va' (n + 1) vc') (n + 1) (rowV s g o e x f j n ++ es) → (Value.ownBlock (.slice va' (n + 1) vc') = Value.ownBlock (.slice va n vc) ∨ ∃ b, W.heap.size ≤ b ∧ Value.ownBlock (.slice va' (n + 1) vc') = some b) →
      (w8.cell? ⟨M, cl j, none⟩ = some (.slice va n vc) ∧ w8.frozen? ⟨M, cl j, none⟩ = false) ∧ NRd M mb B s g o e x f (fset k j (n + 1)) (fset v j (.slice va' (n + 1) vc')) (w8.setCell ⟨M, cl j, none⟩ (.slice va' (n + 1) vc')) ∧ Stay M B w (w8.setCell ⟨M, cl j, none⟩ (.slice va' (n + 1) vc')) := fun w8 va' vc' hg ho ha => by
  subst hn
  rw [← hv] at hg ha ⊢
  exact h.add hj hb (by rw [hrow]; exact ho) hg ha
theorem NRd.own (h : NRd M mb B s g o e x f k v w) {j : Nat} (hj : j < 6) {va : Option Addr} {n vc : Nat} (hv : v j = .slice va n vc) (hn : k j = n) {W : World} (hb : Below w.heap.size w W) : W.ownsRow B (tyR j) (szR j) (.slice va n vc) n (rowV s g o e x f j n) := by
  have := (h.below hb).rows j hj
  rw [hv, hn] at this
  exact this
theorem own_form {w : World} {B t : Nat} {ty : TypeId} {v : Value} {n : Nat} {xs : List Value} (h : w.ownsRow B ty t v n xs) : ∃ a c, v = .slice a n c := by
  rcases h.2 with ⟨e0, h0⟩ | ⟨b, cap, cur, e0, _⟩
  · exact ⟨none, 0, by rw [e0, h0]⟩
  · exact ⟨_, _, e0⟩
/-- The names so far. -/
theorem NRd.names (h : NRd M mb B s g o e x f k v w) {va : Option Addr} {n vc : Nat} (hv : v 0 = .slice va n vc) (hn : k 0 = n) (hs : ∀ i, i < n → (s i).size ≤ maxLen) : w.cell? ⟨M, 0, none⟩ = some (.slice va n vc) ∧ StrRow w va n s := by
  have h1 := h.at (j := 0) (by omega)
  rw [hv] at h1
  exact ⟨h1, str_of (h.own (j := 0) (by omega) hv hn (Below.refl _ _)) hs⟩
/-- The links so far. -/
theorem NRd.links (h : NRd M mb B s g o e x f k v w) {va : Option Addr} {n vc : Nat} (hv : v 1 = .slice va n vc) (hn : k 1 = n) : w.cell? ⟨M, 2, none⟩ = some (.slice va n vc) ∧ Row 3 w va n g := by
  have h1 := h.at (j := 1) (by omega)
  rw [hv] at h1
  exact ⟨h1, row_of (h.own (j := 1) (by omega) hv hn (Below.refl _ _))⟩
end Go.Proofs.YtffacjebnbplaaaGreatDoor.readMem
