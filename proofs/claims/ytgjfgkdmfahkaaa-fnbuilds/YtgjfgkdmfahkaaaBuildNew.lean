/- The program's builder, as it is made; conditions: none. -/
import Derived.Test.YtgjfgkdmfahkaaaBuildMap
namespace Go.Proofs.Ytgjfgkdmfahkaaa.buildNew
open Go.RowKit Go.Deep Go.Sort Go.Maps Go.WideMaps Go base trees buildSem buildMap
set_option linter.unusedVariables false

/-- The operators of a builder, by the cell that each lies in. -/
def opsOf (M : Nat) (i : Nat) : Value := if i = 6 then .func (.func 35) #[.pointer (some ⟨M, 0, none⟩)] #[] else if i = 7 then .func (.func 36) #[.pointer (some ⟨M, 0, none⟩)] #[] else if i = 8 then .func (.func 37) #[.pointer (some ⟨M, 0, none⟩)] #[] else if i = 9 then .func (.func 38) #[.pointer (some ⟨M, 0, none⟩)] #[] else if i = 10 then .func (.func 39) #[.pointer (some ⟨M, 0, none⟩)] #[] else .nilFunc
def first (n : Int) (mb i : Nat) : Value := if i = 0 then .int .i64 n else if i = 1 then .slice none 0 0 else if i = 2 then .map (some mb) else .nilFunc
set_option maxHeartbeats 1600000 in
set_option maxRecDepth 8000 in
theorem new_impl (n : Int) (w : World) (h0 : 0 ≤ n) (h1 : n ≤ 12) :
    Calls Try.prog 19 #[.int .i64 n] w fun e w' => ∃ M mb B v, e = .returned (.pointer (some ⟨M, 0, none⟩)) ∧ Below w.heap.size w w' ∧ w.heap.size ≤ M ∧ w.heap.size ≤ mb ∧ Bd M mb B n [] v (opsOf M) w' := by
  have hmm := @run_makeMap Try.prog
  go_enter Try.func19, Try.ntmps19
  go_wp2
  have HB1 : Hid (Below w.heap.size w ((w.alloc (.map #[] 0)).alloc (.cells #[.int .i64 n, .slice none 0 0, .map (some w.heap.size), .nilFunc, .nilFunc, .nilFunc, .nilFunc, .nilFunc, .nilFunc, .nilFunc, .nilFunc] 57))) := hid (((Below.refl _ _).alloc (Nat.le_refl _) _).alloc (by simp) _)
  have hrow := World.rowIs_alloc (w.alloc (.map #[] 0)) #[.int .i64 n, .slice none 0 0, .map (some w.heap.size), .nilFunc, .nilFunc, .nilFunc, .nilFunc, .nilFunc, .nilFunc, .nilFunc, .nilFunc] 57 (first n w.heap.size) (fun i hi => by
    match i, hi with
    | 0, _ => rfl
    | 1, _ => rfl
    | 2, _ => rfl
    | 3, _ => rfl
    | 4, _ => rfl
    | 5, _ => rfl
    | 6, _ => rfl
    | 7, _ => rfl
    | 8, _ => rfl
    | 9, _ => rfl
    | 10, _ => rfl
    | i + 11, hi => exact absurd hi (by simp))
  rw [World.size_alloc] at hrow
  have hmap := World.ownsMap_made (H := Unit) w Try.prog 64 (plainElem Try.prog 3)
  have hmap2 : (((w.alloc (.map #[] 0)).alloc (.cells #[.int .i64 n, .slice none 0 0, .map (some w.heap.size), .nilFunc, .nilFunc, .nilFunc, .nilFunc, .nilFunc, .nilFunc, .nilFunc, .nilFunc] 57))).ownsMap Try.prog 64 (plainElem Try.prog 3) w.heap.size 0 (.map [] : DataW Unit) := own_below hmap (Below.block (B := w.heap.size + 1) ((Below.refl _ _).alloc (by first | exact Nat.le_refl _ | (rw [World.size_alloc]; exact Nat.le_refl _)) _) _ (by omega))
  have HRow := hid hrow
  have HMap := hid hmap2
  have c3 : (((w.alloc (.map #[] 0)).alloc (.cells #[.int .i64 n, .slice none 0 0, .map (some w.heap.size), .nilFunc, .nilFunc, .nilFunc, .nilFunc, .nilFunc, .nilFunc, .nilFunc, .nilFunc] 57))).cell? ⟨w.heap.size + 1, 3, none⟩ = some .nilFunc := hrow.cell (i := 3) (by simp)
  have z3 : (((w.alloc (.map #[] 0)).alloc (.cells #[.int .i64 n, .slice none 0 0, .map (some w.heap.size), .nilFunc, .nilFunc, .nilFunc, .nilFunc, .nilFunc, .nilFunc, .nilFunc, .nilFunc] 57))).frozen? ⟨w.heap.size + 1, 3, none⟩ = false := hrow.frozen 3
  have c4 : (((w.alloc (.map #[] 0)).alloc (.cells #[.int .i64 n, .slice none 0 0, .map (some w.heap.size), .nilFunc, .nilFunc, .nilFunc, .nilFunc, .nilFunc, .nilFunc, .nilFunc, .nilFunc] 57))).cell? ⟨w.heap.size + 1, 4, none⟩ = some .nilFunc := hrow.cell (i := 4) (by simp)
  have z4 : (((w.alloc (.map #[] 0)).alloc (.cells #[.int .i64 n, .slice none 0 0, .map (some w.heap.size), .nilFunc, .nilFunc, .nilFunc, .nilFunc, .nilFunc, .nilFunc, .nilFunc, .nilFunc] 57))).frozen? ⟨w.heap.size + 1, 4, none⟩ = false := hrow.frozen 4
  have c5 : (((w.alloc (.map #[] 0)).alloc (.cells #[.int .i64 n, .slice none 0 0, .map (some w.heap.size), .nilFunc, .nilFunc, .nilFunc, .nilFunc, .nilFunc, .nilFunc, .nilFunc, .nilFunc] 57))).cell? ⟨w.heap.size + 1, 5, none⟩ = some .nilFunc := hrow.cell (i := 5) (by simp)
  have z5 : (((w.alloc (.map #[] 0)).alloc (.cells #[.int .i64 n, .slice none 0 0, .map (some w.heap.size), .nilFunc, .nilFunc, .nilFunc, .nilFunc, .nilFunc, .nilFunc, .nilFunc, .nilFunc] 57))).frozen? ⟨w.heap.size + 1, 5, none⟩ = false := hrow.frozen 5
  have c6 : (((w.alloc (.map #[] 0)).alloc (.cells #[.int .i64 n, .slice none 0 0, .map (some w.heap.size), .nilFunc, .nilFunc, .nilFunc, .nilFunc, .nilFunc, .nilFunc, .nilFunc, .nilFunc] 57))).cell? ⟨w.heap.size + 1, 6, none⟩ = some .nilFunc := hrow.cell (i := 6) (by simp)
  have z6 : (((w.alloc (.map #[] 0)).alloc (.cells #[.int .i64 n, .slice none 0 0, .map (some w.heap.size), .nilFunc, .nilFunc, .nilFunc, .nilFunc, .nilFunc, .nilFunc, .nilFunc, .nilFunc] 57))).frozen? ⟨w.heap.size + 1, 6, none⟩ = false := hrow.frozen 6
  have c7 : (((w.alloc (.map #[] 0)).alloc (.cells #[.int .i64 n, .slice none 0 0, .map (some w.heap.size), .nilFunc, .nilFunc, .nilFunc, .nilFunc, .nilFunc, .nilFunc, .nilFunc, .nilFunc] 57))).cell? ⟨w.heap.size + 1, 7, none⟩ = some .nilFunc := hrow.cell (i := 7) (by simp)
  have z7 : (((w.alloc (.map #[] 0)).alloc (.cells #[.int .i64 n, .slice none 0 0, .map (some w.heap.size), .nilFunc, .nilFunc, .nilFunc, .nilFunc, .nilFunc, .nilFunc, .nilFunc, .nilFunc] 57))).frozen? ⟨w.heap.size + 1, 7, none⟩ = false := hrow.frozen 7
  have c8 : (((w.alloc (.map #[] 0)).alloc (.cells #[.int .i64 n, .slice none 0 0, .map (some w.heap.size), .nilFunc, .nilFunc, .nilFunc, .nilFunc, .nilFunc, .nilFunc, .nilFunc, .nilFunc] 57))).cell? ⟨w.heap.size + 1, 8, none⟩ = some .nilFunc := hrow.cell (i := 8) (by simp)
  have z8 : (((w.alloc (.map #[] 0)).alloc (.cells #[.int .i64 n, .slice none 0 0, .map (some w.heap.size), .nilFunc, .nilFunc, .nilFunc, .nilFunc, .nilFunc, .nilFunc, .nilFunc, .nilFunc] 57))).frozen? ⟨w.heap.size + 1, 8, none⟩ = false := hrow.frozen 8
  have c9 : (((w.alloc (.map #[] 0)).alloc (.cells #[.int .i64 n, .slice none 0 0, .map (some w.heap.size), .nilFunc, .nilFunc, .nilFunc, .nilFunc, .nilFunc, .nilFunc, .nilFunc, .nilFunc] 57))).cell? ⟨w.heap.size + 1, 9, none⟩ = some .nilFunc := hrow.cell (i := 9) (by simp)
  have z9 : (((w.alloc (.map #[] 0)).alloc (.cells #[.int .i64 n, .slice none 0 0, .map (some w.heap.size), .nilFunc, .nilFunc, .nilFunc, .nilFunc, .nilFunc, .nilFunc, .nilFunc, .nilFunc] 57))).frozen? ⟨w.heap.size + 1, 9, none⟩ = false := hrow.frozen 9
  have c10 : (((w.alloc (.map #[] 0)).alloc (.cells #[.int .i64 n, .slice none 0 0, .map (some w.heap.size), .nilFunc, .nilFunc, .nilFunc, .nilFunc, .nilFunc, .nilFunc, .nilFunc, .nilFunc] 57))).cell? ⟨w.heap.size + 1, 10, none⟩ = some .nilFunc := hrow.cell (i := 10) (by simp)
  have z10 : (((w.alloc (.map #[] 0)).alloc (.cells #[.int .i64 n, .slice none 0 0, .map (some w.heap.size), .nilFunc, .nilFunc, .nilFunc, .nilFunc, .nilFunc, .nilFunc, .nilFunc, .nilFunc] 57))).frozen? ⟨w.heap.size + 1, 10, none⟩ = false := hrow.frozen 10
  have hsz : w.heap.size + 2 ≤ (((w.alloc (.map #[] 0)).alloc (.cells #[.int .i64 n, .slice none 0 0, .map (some w.heap.size), .nilFunc, .nilFunc, .nilFunc, .nilFunc, .nilFunc, .nilFunc, .nilFunc, .nilFunc] 57))).heap.size := by simp
  have HSz := hid hsz
  clear hrow hmap hmap2 hsz hmm
  generalize ((w.alloc (.map #[] 0)).alloc (.cells #[.int .i64 n, .slice none 0 0, .map (some w.heap.size), .nilFunc, .nilFunc, .nilFunc, .nilFunc, .nilFunc, .nilFunc, .nilFunc, .nilFunc] 57)) = W1 at *
  have hs1 : ∀ (a : Addr) (u : World), (store a Value.nilFunc).run Try.prog u = stored Try.prog u a Value.nilFunc .plain := fun a u => run_store _ u a _ _ rfl
  have hs2 : ∀ (a : Addr) (f : Fn) (x y : Array Value) (u : World), (store a (Value.func f x y)).run Try.prog u = stored Try.prog u a (Value.func f x y) .plain := fun a f x y u => run_store _ u a _ _ rfl
  simp only [hs1, hs2]
  clear hs1 hs2
  simp only [stored, c3, z3, Result.andThen]
  go_simp
  go_wp2
  go_ret
  have hsz' : w.heap.size + 2 ≤ (((((((((W1.setCell ⟨w.heap.size + 1, 3, none⟩ (.nilFunc)).setCell ⟨w.heap.size + 1, 4, none⟩ (.nilFunc)).setCell ⟨w.heap.size + 1, 5, none⟩ (.nilFunc)).setCell ⟨w.heap.size + 1, 6, none⟩ (.func (.func 35) #[.pointer (some ⟨w.heap.size + 1, 0, none⟩)] #[])).setCell ⟨w.heap.size + 1, 7, none⟩ (.func (.func 36) #[.pointer (some ⟨w.heap.size + 1, 0, none⟩)] #[])).setCell ⟨w.heap.size + 1, 8, none⟩ (.func (.func 37) #[.pointer (some ⟨w.heap.size + 1, 0, none⟩)] #[])).setCell ⟨w.heap.size + 1, 9, none⟩ (.func (.func 38) #[.pointer (some ⟨w.heap.size + 1, 0, none⟩)] #[])).setCell ⟨w.heap.size + 1, 10, none⟩ (.func (.func 39) #[.pointer (some ⟨w.heap.size + 1, 0, none⟩)] #[]))).heap.size := by
    have := HSz.out
    simp [World.setCell]
    exact this
  refine ⟨w.heap.size + 1, w.heap.size, w.heap.size + 2, .slice none 0 0, rfl, ((((((((HB1.out.setCell (by simp) _).setCell (by simp) _).setCell (by simp) _).setCell (by simp) _).setCell (by simp) _).setCell (by simp) _).setCell (by simp) _).setCell (by simp) _), by omega, Nat.le_refl _, ⟨?_, ?_, ⟨.map [], ?_, mapG_nil n⟩, by omega, by omega, by omega, hsz'⟩⟩
  · refine World.rowIs.congr ((((((((HRow.out.set 3 _).set 4 _).set 5 _).set 6 _).set 7 _).set 8 _).set 9 _).set 10 _) fun i hi => ?_
    match i, hi with
    | 0, _ => rfl
    | 1, _ => rfl
    | 2, _ => rfl
    | 3, _ => rfl
    | 4, _ => rfl
    | 5, _ => rfl
    | 6, _ => rfl
    | 7, _ => rfl
    | 8, _ => rfl
    | 9, _ => rfl
    | 10, _ => rfl
    | i + 11, hi => exact absurd hi (by omega)
  · exact ⟨rfl, .inl ⟨rfl, rfl⟩⟩
  · refine own_below HMap.out ?_
    rw [Below.heap_setCell _ _ _ _ (by dsimp only; omega), Below.heap_setCell _ _ _ _ (by dsimp only; omega), Below.heap_setCell _ _ _ _ (by dsimp only; omega), Below.heap_setCell _ _ _ _ (by dsimp only; omega), Below.heap_setCell _ _ _ _ (by dsimp only; omega), Below.heap_setCell _ _ _ _ (by dsimp only; omega), Below.heap_setCell _ _ _ _ (by dsimp only; omega), Below.heap_setCell _ _ _ _ (by dsimp only; omega)]
end Go.Proofs.Ytgjfgkdmfahkaaa.buildNew
