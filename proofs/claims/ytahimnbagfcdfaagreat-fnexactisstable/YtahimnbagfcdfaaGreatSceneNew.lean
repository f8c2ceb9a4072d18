/- Of the program: a new scene; conditions: a right network, and lists that fit it. -/
import Derived.Test.YtahimnbagfcdfaaGreatSceneList
import Derived.Test.YtahimnbagfcdfaaGreatSceneFault
namespace Go.Proofs.YtahimnbagfcdfaaGreat.sceneNew
open Go.RowKit Go.Deep Go base netSem routeRow nbSem candSem candImp hopSem intsOwn hopMake hopBetween sceneSem
set_option linter.unusedVariables false

/-- The cells of a network whose memo is not made. -/
def newCells (p : Nat → Option Addr) (l c : Nat → Nat) : Array Value := #[.slice (p 0) (l 0) (c 0), .slice (p 1) (l 1) (c 1), .slice (p 2) (l 2) (c 2), .slice (p 3) (l 3) (c 3), .slice (p 4) (l 4) (c 4), .slice (p 5) (l 5) (c 5), .int .u32 0, .int .i32 0, .int .u32 0, .int .i64 0, .int .i64 0, .slice none 0 0, .int .i64 0, .int .i64 0, .slice none 0 0, .int .i64 0, .int .i64 0, .slice none 0 0, .int .i64 0, .int .i64 0, .slice none 0 0, .int .i64 0, .int .i64 0, .slice none 0 0, .int .i64 0, .int .i64 0, .slice none 0 0, .int .i64 0, .int .i64 0, .slice none 0 0, .int .i64 0, .int .i64 0, .slice none 0 0, .int .i64 0, .int .i64 0, .slice none 0 0, .int .i64 0, .int .i64 0, .slice none 0 0, .int .i64 0, .int .i64 0, .slice none 0 0, .int .i64 0, .int .i64 0, .slice none 0 0, .int .i64 0, .int .i64 0, .slice none 0 0, .int .i64 0, .int .i64 0, .slice none 0 0, .int .i64 0, .int .i64 0, .slice none 0 0, .int .i64 0, .int .i64 0, .slice none 0 0]
def newF (p : Nat → Option Addr) (l c : Nat → Nat) : Nat → Value := fun i => (newCells p l c)[i]?.getD (.bool false)
theorem new_row (p : Nat → Option Addr) (l c : Nat → Nat) (w : World) : (w.alloc (.cells (newCells p l c) 125)).rowIs w.heap.size 125 57 (newF p l c) :=
  ⟨newCells p l c, (show (w.heap.push (.cells (newCells p l c) 125))[w.heap.size]? = _ from Array.getElem?_push_size), rfl, fun i hi => by
    unfold newF
    rw [Array.getElem?_eq_getElem (show i < (newCells p l c).size from hi)]
    rfl⟩
theorem new_hf (p : Nat → Option Addr) (l c : Nat → Nat) : Hf (newF p l c) (fun _ _ => 0) (fun _ _ => 0) (fun _ _ => .slice none 0 0) := by
  intro i j hi hj
  match i, hi with
  | 0, _ => match j, hj with
    | 0, _ => exact ⟨rfl, rfl, rfl⟩
    | 1, _ => exact ⟨rfl, rfl, rfl⟩
    | 2, _ => exact ⟨rfl, rfl, rfl⟩
    | 3, _ => exact ⟨rfl, rfl, rfl⟩
  | 1, _ => match j, hj with
    | 0, _ => exact ⟨rfl, rfl, rfl⟩
    | 1, _ => exact ⟨rfl, rfl, rfl⟩
    | 2, _ => exact ⟨rfl, rfl, rfl⟩
    | 3, _ => exact ⟨rfl, rfl, rfl⟩
  | 2, _ => match j, hj with
    | 0, _ => exact ⟨rfl, rfl, rfl⟩
    | 1, _ => exact ⟨rfl, rfl, rfl⟩
    | 2, _ => exact ⟨rfl, rfl, rfl⟩
    | 3, _ => exact ⟨rfl, rfl, rfl⟩
  | 3, _ => match j, hj with
    | 0, _ => exact ⟨rfl, rfl, rfl⟩
    | 1, _ => exact ⟨rfl, rfl, rfl⟩
    | 2, _ => exact ⟨rfl, rfl, rfl⟩
    | 3, _ => exact ⟨rfl, rfl, rfl⟩
theorem row_lt {m n : Nat} {w : World} {a : Option Addr} {g : R} (hm : 0 < m) (h : Row m w a n g) : ∀ q o, 0 < n → a = some ⟨q, o, none⟩ → q < w.heap.size := fun q o hn e => by
  obtain ⟨q', o', e', hc⟩ := h.cell 0 hn
  rw [e] at e'
  injection e' with e'
  injection e' with e1 e2
  subst e1
  exact World.block_lt_of_cell? _ _ (hc 0 hm)
theorem int_lt {n : Nat} {w : World} {a : Option Addr} {z : List Int} (h : IntRow w a n z) : ∀ q o, 0 < n → a = some ⟨q, o, none⟩ → q < w.heap.size := fun q o hn e => by
  obtain ⟨q', o', e', hc⟩ := h.cell 0 hn
  rw [e] at e'
  injection e' with e'
  injection e' with e1 e2
  subst e1
  exact World.block_lt_of_cell? _ _ hc
theorem bool_lt {n : Nat} {w : World} {a : Option Addr} {z : List Bool} (h : BoolRow w a n z) : ∀ q o, 0 < n → a = some ⟨q, o, none⟩ → q < w.heap.size := fun q o hn e => by
  obtain ⟨q', o', e', hc⟩ := h.cell 0 hn
  rw [e] at e'
  injection e' with e'
  injection e' with e1 e2
  subst e1
  exact World.block_lt_of_cell? _ _ hc

set_option maxHeartbeats 3200000 in
set_option maxRecDepth 8000 in
theorem new_impl (p : Nat → Option Addr) (l c : Nat → Nat) (s : Ss) (g : R) (o e : List Int) (x f : R) (ea da : Option Addr) (el ec dl dc : Nat) (env : List Int) (ds : List Bool) (w : World) (h : NetIs w p l s g o e x f) (he : IntRow w ea el env) (hd : BoolRow w da dl ds) (hle : el = l 3) (hld : dl = l 1)
    (gi : ∀ i, i < l 1 → 0 ≤ g i 0 ∧ g i 0 < 4 ∧ 0 ≤ g i 1 ∧ g i 1 < 4 ∧ g i 0 ≠ g i 1) (xi : ∀ i, i < l 4 → 0 ≤ x i 0 ∧ x i 0 < 4 ∧ 0 ≤ x i 1 ∧ x i 1 < 4) (few : l 4 ≤ 12) :
    Calls Tryz.prog 40 #[netV p l c, .slice ea el ec, .slice da dl dc] w fun e' w' => ∃ (sb b : Nat) (F : Nat → Value), e' = .returned (.pointer (some ⟨sb, 0, none⟩)) ∧ w.heap.size ≤ b ∧ Sc sb b w.heap.size F p l c g o e x ea da el ec dl dc env ds w' ∧ Below w.heap.size w w' := by
  have HW : Hid (∀ W : World, W = (((w.alloc (.cells #[.slice (p 0) (l 0) (c 0), .slice (p 1) (l 1) (c 1), .slice (p 2) (l 2) (c 2), .slice (p 3) (l 3) (c 3), .slice (p 4) (l 4) (c 4), .slice (p 5) (l 5) (c 5)] 40)).alloc (.cells (newCells p l c) 125)).alloc (.cells #[.pointer (some ⟨w.heap.size + 1, 0, none⟩), .slice ea el ec, .slice da dl dc] 127)) → Sc (w.heap.size + 1 + 1) (w.heap.size + 1) w.heap.size (newF p l c) p l c g o e x ea da el ec dl dc env ds W ∧ Below w.heap.size w W) := hid (fun W hW => by
    have hb : Below w.heap.size w W := by rw [hW]; exact (by repeat (first | exact Below.refl _ _ | assumption | refine Below.drew ?_ | refine Below.alloc ?_ (by first | exact Nat.le_refl _ | omega | (simp; done) | (simp; omega)) _ | refine Below.setCell ?_ (by first | exact Nat.le_refl _ | omega | (simp; done) | (simp; omega)) _))
    have h1 : (w.alloc (.cells #[.slice (p 0) (l 0) (c 0), .slice (p 1) (l 1) (c 1), .slice (p 2) (l 2) (c 2), .slice (p 3) (l 3) (c 3), .slice (p 4) (l 4) (c 4), .slice (p 5) (l 5) (c 5)] 40)).heap.size = w.heap.size + 1 := by simp
    have hrow := new_row p l c (w.alloc (.cells #[.slice (p 0) (l 0) (c 0), .slice (p 1) (l 1) (c 1), .slice (p 2) (l 2) (c 2), .slice (p 3) (l 3) (c 3), .slice (p 4) (l 4) (c 4), .slice (p 5) (l 5) (c 5)] 40))
    rw [h1] at hrow
    have hrow2 : W.rowIs (w.heap.size + 1) 125 57 (newF p l c) := by
      rw [hW]
      exact hrow.of_block ((show Below _ _ _ from ((Below.refl _ _).alloc (Nat.le_refl _) _)).block _ hrow.lt)
    refine ⟨⟨?_, ?_, ?_, .inl ⟨hrow2, new_hf p l c, rfl, rfl⟩, ⟨rfl, rfl, h.links.below hb, h.imports.below hb, gi, xi, few, fun a o h0 e => ?_, fun a o h0 e => ?_⟩, rfl, rfl, h.origins.below hb, h.externals.below hb, he.below hb, hd.below hb, by omega, fun a o h0 e => ?_, fun a o h0 e => ?_, fun a o h0 e => ?_, fun a o h0 e => ?_, hb.size, hle, hld⟩, hb⟩
    · rw [hW]; simp [go_sem]
    · rw [hW]; simp [go_sem]
    · rw [hW]; simp [go_sem]
    · have := row_lt (by decide) h.links a o h0 e; omega
    · have := row_lt (by decide) h.imports a o h0 e; omega
    · have := int_lt h.origins a o h0 e; omega
    · have := int_lt h.externals a o h0 e; omega
    · have := int_lt he a o h0 e; omega
    · have := bool_lt hd a o h0 e; omega)
  clear h he hd hle hld gi xi few
  unfold netV
  go_enter Tryz.func40, Tryz.ntmps40
  go_wp2
  go_ret
  obtain ⟨h1, h2⟩ := HW.out _ rfl
  exact ⟨_, _, _, rfl, by omega, h1, h2⟩
end Go.Proofs.YtahimnbagfcdfaaGreat.sceneNew
