import Derived.Test.YtaioffpkadmmhaaGreatPart4
import Derived.Test.YtaioffpkadmmhaaGreatPart5
import Derived.Test.YtaioffpkadmmhaaGreatPart2
import Derived.OwnWalk
import Derived.Maps.AppendAt
namespace Go.Proofs.YtaioffpkadmmhaaGreat.gadget
open Go.RowKit Go.Deep Go base copy names netSem netSpec intsOwn netMath drawnLin drawnSrc
set_option linter.unusedVariables false
def sel6 {T : Type} (a0 a1 a2 a3 a4 a5 : T) : Nat → T := fun i => if i = 0 then a0 else if i = 1 then a1 else if i = 2 then a2 else if i = 3 then a3 else if i = 4 then a4 else a5
def ofL (L : List (List Int)) : R := fun i j => (L.getD i []).getD j 0
def gG0 : R := ofL [[0, 1, 1], [0, 2, 1], [1, 2, 1]]
def xG0 : R := ofL [[1, 2, 0, 2, 150], [2, 1, 0, 2, 150]]
def gG1 : R := ofL [[0, 1, 1], [0, 2, 1], [0, 3, 1], [1, 2, 1], [2, 3, 1], [1, 3, 1]]
def xG1 : R := ofL [[1, 2, 1, 1, 0], [1, 2, 0, 2, 150], [1, 2, 0, 3, 0], [2, 3, 1, 1, 0], [2, 3, 0, 2, 150], [2, 3, 0, 3, 0], [3, 1, 1, 1, 0], [3, 1, 0, 2, 150], [3, 1, 0, 3, 0]]
def fG : R := fun _ _ => 0
def lG0 : Nat → Nat := sel6 3 3 1 0 2 0
def lG1 : Nat → Nat := sel6 4 6 1 0 9 0
theorem right0 : netB lG0 sN gG0 [0] [] xG0 fG = true := by decide +kernel
theorem right1 : netB lG1 sN gG1 [0] [] xG1 fG = true := by decide +kernel
theorem info_imp : (Tryz.prog.info? 86).map (fun i => (i.zero, i.size, i.bytes)) = some (some (.agg #[.int .i64 0, .int .i64 0, .int .i64 0, .int .i64 0, .int .i64 0]), 5, 40) := by kernel_rfl
theorem add_z (X j : Nat) : (⟨X, 0, none⟩ : Addr).add j = ⟨X, j, none⟩ := by by_cases h : j = 0 <;> simp [Addr.add, h]
theorem new_cells (w : World) (cs : Array Value) (t : TypeId) : ∀ j u, cs.toList[j]? = some u → (w.alloc (.cells cs t)).cell? ((⟨w.heap.size, 0, none⟩ : Addr).add j) = some u := fun j u h => by
 rw [add_z]
 have h2 : cs[j]? = some u := by simpa using h
 simp [go_sem, h2]
theorem own_keep {X : Nat → Prop} {wr w2 : World} {B m n : Nat} {t : TypeId} {v : Value} {xs : List Value} (h : wr.ownsRow B t m v n xs) (hc : Chg X wr w2) (hX : ∀ g, B ≤ g → ¬ X g) : w2.ownsRow B t m v n xs := by
 obtain ⟨h1, h2⟩ := h
 refine ⟨h1, ?_⟩
 rcases h2 with h2 | ⟨g, cap, cur, rfl, hgB, hh, hn⟩
 · exact .inl h2
 · exact .inr ⟨g, cap, cur, rfl, hgB, (hc.block g (Array.getElem?_eq_some_iff.1 hh).1 (hX g hgB)).trans hh, hn⟩
theorem own_form {w : World} {B m n : Nat} {t : TypeId} {v : Value} {xs : List Value} (h : w.ownsRow B t m v n xs) : ∃ a c, v = .slice a n c := by
 obtain ⟨h1, h2⟩ := h
 rcases h2 with ⟨rfl, rfl⟩ | ⟨g, cap, cur, rfl, _⟩
 · exact ⟨none, 0, rfl⟩
 · exact ⟨_, _, rfl⟩
theorem row_lit {w : World} {b m : Nat} {g : R} {n : Nat} (hn : n ≤ 9) (h : ∀ i, i < n → ∀ j, j < m → w.cell? ⟨b, i * m + j, none⟩ = some (.int .i64 (g i j))) : Row m w (some ⟨b, 0, none⟩) n g :=
 ⟨by unfold maxLen; omega, fun i hi => ⟨b, 0, rfl, fun j hj => by rw [Nat.zero_add]; exact h i hi j hj⟩⟩
theorem strs_lit {w : World} {b n : Nat} (hn : n ≤ 4) (h : ∀ i, i < n → w.cell? ⟨b, i, none⟩ = some (.string (sN i))) : StrRow w (some ⟨b, 0, none⟩) n sN :=
 ⟨by unfold maxLen; omega, fun i hi => by
  unfold sN maxLen
  split
  · show 1 ≤ _; omega
  · split
    · show 1 ≤ _; omega
    · split <;> (show 1 ≤ _; omega), fun i hi => ⟨b, 0, rfl, by rw [Nat.zero_add]; exact h i hi⟩⟩
theorem no_row {m : Nat} {w : World} {g : R} : Row m w none 0 g := ⟨Nat.zero_le _, fun i hi => absurd hi (Nat.not_lt_zero _)⟩
theorem no_ints {w : World} : IntRow w none 0 [] := ⟨rfl, Nat.zero_le _, fun i hi => absurd hi (Nat.not_lt_zero _)⟩
set_option maxHeartbeats 3200000 in
set_option maxRecDepth 8000 in
theorem gad0 (w : World) : Calls Tryz.prog 20 #[.int .i64 0] w fun e' w' => ∃ (p : Nat → Option Addr) (l c : Nat → Nat) (g : R) (o e : List Int) (x f : R), e' = .returned (netV p l c) ∧ (∀ w3 : World, (∀ q, w.heap.size < q → q < w'.heap.size → w3.heap[q]? = w'.heap[q]?) → NetIs w3 p l sN g o e x f) ∧ netB l sN g o e x f = true ∧ (l 0 ≤ c 0 ∧ l 1 ≤ c 1) ∧ Below w.heap.size w w' := by
 go_enter Tryz.func20, Tryz.ntmps20
 go_wp2
 refine bodyPost_ret (v := .agg #[.slice (some ⟨w.heap.size + 1, 0, none⟩) 3 3, .slice (some ⟨w.heap.size + 1 + 1, 0, none⟩) 3 3, .slice (some ⟨w.heap.size + 1 + 1 + 1, 0, none⟩) 1 1, .slice none 0 0, .slice (some ⟨w.heap.size + 1 + 1 + 1 + 1 + 1, 0, none⟩) 2 2, .slice none 0 0]) (by simp [results, Tryz.results20, go_sem]) rfl ?_
 refine ⟨sel6 (some ⟨w.heap.size + 1, 0, none⟩) (some ⟨w.heap.size + 1 + 1, 0, none⟩) (some ⟨w.heap.size + 1 + 1 + 1, 0, none⟩) none (some ⟨w.heap.size + 1 + 1 + 1 + 1 + 1, 0, none⟩) none, lG0, lG0, gG0, [0], [], xG0, fG, rfl, fun w3 hk => ?_, right0, ⟨Nat.le_refl _, Nat.le_refl _⟩, (by repeat (first | exact Below.refl _ _ | assumption | refine Below.drew ?_ | refine Below.alloc ?_ (by first | exact Nat.le_refl _ | omega | (simp; done) | (simp; omega)) _ | refine Below.setCell ?_ (by first | exact Nat.le_refl _ | omega | (simp; done) | (simp; omega)) _))⟩
 have hz : (((((((w.alloc (.cells #[.slice (some ⟨w.heap.size + 1, 0, none⟩) 3 3, .slice (some ⟨w.heap.size + 1 + 1, 0, none⟩) 3 3, .slice (some ⟨w.heap.size + 1 + 1 + 1, 0, none⟩) 1 1, .slice none 0 0, .slice (some ⟨w.heap.size + 1 + 1 + 1 + 1 + 1, 0, none⟩) 2 2, .slice none 0 0] 29)).alloc (.cells #[.string ⟨#[97]⟩, .string ⟨#[98]⟩, .string ⟨#[99]⟩] 9)).alloc (.cells #[.int .i64 0, .int .i64 1, .int .i64 1, .int .i64 0, .int .i64 2, .int .i64 1, .int .i64 1, .int .i64 2, .int .i64 1] 82)).alloc (.cells #[.int .i64 0] 3)).alloc (.cells #[.slice (some ⟨w.heap.size + 1, 0, none⟩) 3 3, .slice (some ⟨w.heap.size + 1 + 1, 0, none⟩) 3 3, .slice (some ⟨w.heap.size + 1 + 1 + 1, 0, none⟩) 1 1, .slice none 0 0, .slice (some ⟨w.heap.size + 1 + 1 + 1 + 1 + 1, 0, none⟩) 2 2, .slice none 0 0] 29)).alloc (.cells #[.int .i64 1, .int .i64 2, .int .i64 0, .int .i64 2, .int .i64 150, .int .i64 2, .int .i64 1, .int .i64 0, .int .i64 2, .int .i64 150] 86))).heap.size = w.heap.size + 6 := by simp
 have hc : ∀ (q o : Nat) (v : Value), w.heap.size < q → q < w.heap.size + 6 → (((((((w.alloc (.cells #[.slice (some ⟨w.heap.size + 1, 0, none⟩) 3 3, .slice (some ⟨w.heap.size + 1 + 1, 0, none⟩) 3 3, .slice (some ⟨w.heap.size + 1 + 1 + 1, 0, none⟩) 1 1, .slice none 0 0, .slice (some ⟨w.heap.size + 1 + 1 + 1 + 1 + 1, 0, none⟩) 2 2, .slice none 0 0] 29)).alloc (.cells #[.string ⟨#[97]⟩, .string ⟨#[98]⟩, .string ⟨#[99]⟩] 9)).alloc (.cells #[.int .i64 0, .int .i64 1, .int .i64 1, .int .i64 0, .int .i64 2, .int .i64 1, .int .i64 1, .int .i64 2, .int .i64 1] 82)).alloc (.cells #[.int .i64 0] 3)).alloc (.cells #[.slice (some ⟨w.heap.size + 1, 0, none⟩) 3 3, .slice (some ⟨w.heap.size + 1 + 1, 0, none⟩) 3 3, .slice (some ⟨w.heap.size + 1 + 1 + 1, 0, none⟩) 1 1, .slice none 0 0, .slice (some ⟨w.heap.size + 1 + 1 + 1 + 1 + 1, 0, none⟩) 2 2, .slice none 0 0] 29)).alloc (.cells #[.int .i64 1, .int .i64 2, .int .i64 0, .int .i64 2, .int .i64 150, .int .i64 2, .int .i64 1, .int .i64 0, .int .i64 2, .int .i64 150] 86))).cell? ⟨q, o, none⟩ = some v → w3.cell? ⟨q, o, none⟩ = some v := fun q o v h1 h2 h3 => (World.cell?_of_block (a := ⟨q, o, none⟩) (hk q h1 (by rw [hz]; exact h2))).trans h3
 refine ⟨strs_lit (by decide) (fun i hi => ?_), row_lit (by decide) (fun i hi j hj => ?_), ⟨rfl, by show 1 ≤ maxLen; unfold maxLen; omega, fun i hi => ?_⟩, no_ints, row_lit (by decide) (fun i hi j hj => ?_), no_row⟩
 · (have hi3 : i < 3 := hi; rcases (show i = 0 ∨ i = 1 ∨ i = 2 by omega) with rfl | rfl | rfl) <;> exact hc _ _ _ (by omega) (by omega) (by simp [go_sem, sN])
 · (have hi3 : i < 3 := hi; rcases (show i = 0 ∨ i = 1 ∨ i = 2 by omega) with rfl | rfl | rfl) <;> (rcases (show j = 0 ∨ j = 1 ∨ j = 2 by omega) with rfl | rfl | rfl) <;> exact hc _ _ _ (by omega) (by omega) (by simp [go_sem, gG0, ofL])
 · have hi1 : i < 1 := hi
   obtain rfl : i = 0 := by omega
   exact ⟨_, 0, rfl, hc _ _ _ (by omega) (by omega) (by simp [go_sem])⟩
 · (have hi3 : i < 2 := hi; rcases (show i = 0 ∨ i = 1 by omega) with rfl | rfl) <;> (rcases (show j = 0 ∨ j = 1 ∨ j = 2 ∨ j = 3 ∨ j = 4 by omega) with rfl | rfl | rfl | rfl | rfl) <;> exact hc _ _ _ (by omega) (by omega) (by simp [go_sem, xG0, ofL])
set_option maxHeartbeats 6400000 in
set_option maxRecDepth 8000 in
theorem gad1 (w : World) : Calls Tryz.prog 20 #[.int .i64 1] w fun e' w' => ∃ (p : Nat → Option Addr) (l c : Nat → Nat) (g : R) (o e : List Int) (x f : R), e' = .returned (netV p l c) ∧ (∀ w3 : World, (∀ q, w.heap.size < q → q < w'.heap.size → w3.heap[q]? = w'.heap[q]?) → NetIs w3 p l sN g o e x f) ∧ netB l sN g o e x f = true ∧ (l 0 ≤ c 0 ∧ l 1 ≤ c 1) ∧ Below w.heap.size w w' := by
 obtain ⟨i0, hi0, hzz⟩ := Option.map_eq_some_iff.1 info_imp
 simp only [Prod.mk.injEq] at hzz
 obtain ⟨hz0, hz1, hz2⟩ := hzz
 have HI := hid hi0
 have HZ0 := hid hz0
 have HZ1 := hid hz1
 have HZ2 := hid hz2
 clear hi0 hz0 hz1 hz2
 obtain ⟨wA, hwA⟩ : ∃ wA, ((((((((w.alloc (.cells #[.slice none 0 0, .slice none 0 0, .slice none 0 0, .slice none 0 0, .slice none 0 0, .slice none 0 0] 29)).alloc (.cells #[.string ⟨#[97]⟩, .string ⟨#[98]⟩, .string ⟨#[99]⟩] 9)).alloc (.cells #[.int .i64 0, .int .i64 1, .int .i64 1, .int .i64 0, .int .i64 2, .int .i64 1, .int .i64 1, .int .i64 2, .int .i64 1] 82)).alloc (.cells #[.int .i64 0] 3)).alloc (.cells #[.slice (some ⟨w.heap.size + 1 + 1 + 1 + 1 + 1 + 1, 0, none⟩) 4 4, .slice (some ⟨w.heap.size + 1 + 1 + 1 + 1 + 1 + 1 + 1, 0, none⟩) 6 6, .slice (some ⟨w.heap.size + 1 + 1 + 1, 0, none⟩) 1 1, .slice none 0 0, .slice none 0 0, .slice none 0 0] 29)).alloc (.cells #[.int .i64 1, .int .i64 2, .int .i64 0, .int .i64 2, .int .i64 150, .int .i64 2, .int .i64 1, .int .i64 0, .int .i64 2, .int .i64 150] 86)).alloc (.cells #[.string ⟨#[97]⟩, .string ⟨#[98]⟩, .string ⟨#[99]⟩, .string ⟨#[100]⟩] 9)).alloc (.cells #[.int .i64 0, .int .i64 1, .int .i64 1, .int .i64 0, .int .i64 2, .int .i64 1, .int .i64 0, .int .i64 3, .int .i64 1, .int .i64 1, .int .i64 2, .int .i64 1, .int .i64 2, .int .i64 3, .int .i64 1, .int .i64 1, .int .i64 3, .int .i64 1] 82)) = wA := ⟨_, rfl⟩
 have HA : Hid (wA.heap.size = w.heap.size + 8 ∧ Below w.heap.size w wA ∧ wA.rowIs w.heap.size 29 6 (fun _ => .slice none 0 0) ∧ wA.rowIs (w.heap.size + 1 + 1 + 1 + 1) 29 6 (sel6 (.slice (some ⟨w.heap.size + 1 + 1 + 1 + 1 + 1 + 1, 0, none⟩) 4 4) (.slice (some ⟨w.heap.size + 1 + 1 + 1 + 1 + 1 + 1 + 1, 0, none⟩) 6 6) (.slice (some ⟨w.heap.size + 1 + 1 + 1, 0, none⟩) 1 1) (.slice none 0 0) (.slice none 0 0) (.slice none 0 0)) ∧ (∀ i, i < 4 → wA.cell? ⟨w.heap.size + 1 + 1 + 1 + 1 + 1 + 1, i, none⟩ = some (.string (sN i))) ∧ (∀ i, i < 6 → ∀ j, j < 3 → wA.cell? ⟨w.heap.size + 1 + 1 + 1 + 1 + 1 + 1 + 1, i * 3 + j, none⟩ = some (.int .i64 (gG1 i j))) ∧ wA.cell? ⟨w.heap.size + 1 + 1 + 1, 0, none⟩ = some (.int .i64 0)) := hid (by
  rw [← hwA]
  refine ⟨by simp, (by repeat (first | exact Below.refl _ _ | assumption | refine Below.drew ?_ | refine Below.alloc ?_ (by first | exact Nat.le_refl _ | omega | (simp; done) | (simp; omega)) _ | refine Below.setCell ?_ (by first | exact Nat.le_refl _ | omega | (simp; done) | (simp; omega)) _)), ?_, ?_, fun i hi => ?_, fun i hi j hj => ?_, by simp [go_sem]⟩
  · exact (World.rowIs_alloc w #[.slice none 0 0, .slice none 0 0, .slice none 0 0, .slice none 0 0, .slice none 0 0, .slice none 0 0] _ _ (fun i hi => by have h6 : i < 6 := hi; (rcases (show i = 0 ∨ i = 1 ∨ i = 2 ∨ i = 3 ∨ i = 4 ∨ i = 5 by omega) with rfl | rfl | rfl | rfl | rfl | rfl) <;> rfl)).of_block ((show Below ((w.alloc (.cells #[.slice none 0 0, .slice none 0 0, .slice none 0 0, .slice none 0 0, .slice none 0 0, .slice none 0 0] 29))).heap.size ((w.alloc (.cells #[.slice none 0 0, .slice none 0 0, .slice none 0 0, .slice none 0 0, .slice none 0 0, .slice none 0 0] 29))) (((((((((w.alloc (.cells #[.slice none 0 0, .slice none 0 0, .slice none 0 0, .slice none 0 0, .slice none 0 0, .slice none 0 0] 29)).alloc (.cells #[.string ⟨#[97]⟩, .string ⟨#[98]⟩, .string ⟨#[99]⟩] 9)).alloc (.cells #[.int .i64 0, .int .i64 1, .int .i64 1, .int .i64 0, .int .i64 2, .int .i64 1, .int .i64 1, .int .i64 2, .int .i64 1] 82)).alloc (.cells #[.int .i64 0] 3)).alloc (.cells #[.slice (some ⟨w.heap.size + 1 + 1 + 1 + 1 + 1 + 1, 0, none⟩) 4 4, .slice (some ⟨w.heap.size + 1 + 1 + 1 + 1 + 1 + 1 + 1, 0, none⟩) 6 6, .slice (some ⟨w.heap.size + 1 + 1 + 1, 0, none⟩) 1 1, .slice none 0 0, .slice none 0 0, .slice none 0 0] 29)).alloc (.cells #[.int .i64 1, .int .i64 2, .int .i64 0, .int .i64 2, .int .i64 150, .int .i64 2, .int .i64 1, .int .i64 0, .int .i64 2, .int .i64 150] 86)).alloc (.cells #[.string ⟨#[97]⟩, .string ⟨#[98]⟩, .string ⟨#[99]⟩, .string ⟨#[100]⟩] 9)).alloc (.cells #[.int .i64 0, .int .i64 1, .int .i64 1, .int .i64 0, .int .i64 2, .int .i64 1, .int .i64 0, .int .i64 3, .int .i64 1, .int .i64 1, .int .i64 2, .int .i64 1, .int .i64 2, .int .i64 3, .int .i64 1, .int .i64 1, .int .i64 3, .int .i64 1] 82))) from (by repeat (first | exact Below.refl _ _ | assumption | refine Below.drew ?_ | refine Below.alloc ?_ (by first | exact Nat.le_refl _ | omega | (simp; done) | (simp; omega)) _ | refine Below.setCell ?_ (by first | exact Nat.le_refl _ | omega | (simp; done) | (simp; omega)) _))).block _ (by simp))
  · have hr := World.rowIs_alloc (((((w.alloc (.cells #[.slice none 0 0, .slice none 0 0, .slice none 0 0, .slice none 0 0, .slice none 0 0, .slice none 0 0] 29)).alloc (.cells #[.string ⟨#[97]⟩, .string ⟨#[98]⟩, .string ⟨#[99]⟩] 9)).alloc (.cells #[.int .i64 0, .int .i64 1, .int .i64 1, .int .i64 0, .int .i64 2, .int .i64 1, .int .i64 1, .int .i64 2, .int .i64 1] 82)).alloc (.cells #[.int .i64 0] 3))) #[.slice (some ⟨w.heap.size + 1 + 1 + 1 + 1 + 1 + 1, 0, none⟩) 4 4, .slice (some ⟨w.heap.size + 1 + 1 + 1 + 1 + 1 + 1 + 1, 0, none⟩) 6 6, .slice (some ⟨w.heap.size + 1 + 1 + 1, 0, none⟩) 1 1, .slice none 0 0, .slice none 0 0, .slice none 0 0] 29 (sel6 (.slice (some ⟨w.heap.size + 1 + 1 + 1 + 1 + 1 + 1, 0, none⟩) 4 4) (.slice (some ⟨w.heap.size + 1 + 1 + 1 + 1 + 1 + 1 + 1, 0, none⟩) 6 6) (.slice (some ⟨w.heap.size + 1 + 1 + 1, 0, none⟩) 1 1) (.slice none 0 0) (.slice none 0 0) (.slice none 0 0)) (fun i hi => by have h6 : i < 6 := hi; (rcases (show i = 0 ∨ i = 1 ∨ i = 2 ∨ i = 3 ∨ i = 4 ∨ i = 5 by omega) with rfl | rfl | rfl | rfl | rfl | rfl) <;> rfl)
    rw [show (((((w.alloc (.cells #[.slice none 0 0, .slice none 0 0, .slice none 0 0, .slice none 0 0, .slice none 0 0, .slice none 0 0] 29)).alloc (.cells #[.string ⟨#[97]⟩, .string ⟨#[98]⟩, .string ⟨#[99]⟩] 9)).alloc (.cells #[.int .i64 0, .int .i64 1, .int .i64 1, .int .i64 0, .int .i64 2, .int .i64 1, .int .i64 1, .int .i64 2, .int .i64 1] 82)).alloc (.cells #[.int .i64 0] 3))).heap.size = w.heap.size + 1 + 1 + 1 + 1 by simp] at hr
    exact hr.of_block ((show Below ((((((w.alloc (.cells #[.slice none 0 0, .slice none 0 0, .slice none 0 0, .slice none 0 0, .slice none 0 0, .slice none 0 0] 29)).alloc (.cells #[.string ⟨#[97]⟩, .string ⟨#[98]⟩, .string ⟨#[99]⟩] 9)).alloc (.cells #[.int .i64 0, .int .i64 1, .int .i64 1, .int .i64 0, .int .i64 2, .int .i64 1, .int .i64 1, .int .i64 2, .int .i64 1] 82)).alloc (.cells #[.int .i64 0] 3)).alloc (.cells #[.slice (some ⟨w.heap.size + 1 + 1 + 1 + 1 + 1 + 1, 0, none⟩) 4 4, .slice (some ⟨w.heap.size + 1 + 1 + 1 + 1 + 1 + 1 + 1, 0, none⟩) 6 6, .slice (some ⟨w.heap.size + 1 + 1 + 1, 0, none⟩) 1 1, .slice none 0 0, .slice none 0 0, .slice none 0 0] 29))).heap.size ((((((w.alloc (.cells #[.slice none 0 0, .slice none 0 0, .slice none 0 0, .slice none 0 0, .slice none 0 0, .slice none 0 0] 29)).alloc (.cells #[.string ⟨#[97]⟩, .string ⟨#[98]⟩, .string ⟨#[99]⟩] 9)).alloc (.cells #[.int .i64 0, .int .i64 1, .int .i64 1, .int .i64 0, .int .i64 2, .int .i64 1, .int .i64 1, .int .i64 2, .int .i64 1] 82)).alloc (.cells #[.int .i64 0] 3)).alloc (.cells #[.slice (some ⟨w.heap.size + 1 + 1 + 1 + 1 + 1 + 1, 0, none⟩) 4 4, .slice (some ⟨w.heap.size + 1 + 1 + 1 + 1 + 1 + 1 + 1, 0, none⟩) 6 6, .slice (some ⟨w.heap.size + 1 + 1 + 1, 0, none⟩) 1 1, .slice none 0 0, .slice none 0 0, .slice none 0 0] 29))) (((((((((w.alloc (.cells #[.slice none 0 0, .slice none 0 0, .slice none 0 0, .slice none 0 0, .slice none 0 0, .slice none 0 0] 29)).alloc (.cells #[.string ⟨#[97]⟩, .string ⟨#[98]⟩, .string ⟨#[99]⟩] 9)).alloc (.cells #[.int .i64 0, .int .i64 1, .int .i64 1, .int .i64 0, .int .i64 2, .int .i64 1, .int .i64 1, .int .i64 2, .int .i64 1] 82)).alloc (.cells #[.int .i64 0] 3)).alloc (.cells #[.slice (some ⟨w.heap.size + 1 + 1 + 1 + 1 + 1 + 1, 0, none⟩) 4 4, .slice (some ⟨w.heap.size + 1 + 1 + 1 + 1 + 1 + 1 + 1, 0, none⟩) 6 6, .slice (some ⟨w.heap.size + 1 + 1 + 1, 0, none⟩) 1 1, .slice none 0 0, .slice none 0 0, .slice none 0 0] 29)).alloc (.cells #[.int .i64 1, .int .i64 2, .int .i64 0, .int .i64 2, .int .i64 150, .int .i64 2, .int .i64 1, .int .i64 0, .int .i64 2, .int .i64 150] 86)).alloc (.cells #[.string ⟨#[97]⟩, .string ⟨#[98]⟩, .string ⟨#[99]⟩, .string ⟨#[100]⟩] 9)).alloc (.cells #[.int .i64 0, .int .i64 1, .int .i64 1, .int .i64 0, .int .i64 2, .int .i64 1, .int .i64 0, .int .i64 3, .int .i64 1, .int .i64 1, .int .i64 2, .int .i64 1, .int .i64 2, .int .i64 3, .int .i64 1, .int .i64 1, .int .i64 3, .int .i64 1] 82))) from (by repeat (first | exact Below.refl _ _ | assumption | refine Below.drew ?_ | refine Below.alloc ?_ (by first | exact Nat.le_refl _ | omega | (simp; done) | (simp; omega)) _ | refine Below.setCell ?_ (by first | exact Nat.le_refl _ | omega | (simp; done) | (simp; omega)) _))).block _ (by simp))
  · (rcases (show i = 0 ∨ i = 1 ∨ i = 2 ∨ i = 3 by omega) with rfl | rfl | rfl | rfl) <;> simp [go_sem, sN]
  · (rcases (show i = 0 ∨ i = 1 ∨ i = 2 ∨ i = 3 ∨ i = 4 ∨ i = 5 by omega) with rfl | rfl | rfl | rfl | rfl | rfl) <;> (rcases (show j = 0 ∨ j = 1 ∨ j = 2 by omega) with rfl | rfl | rfl) <;> simp [go_sem, gG1, ofL])
 go_enter Tryz.func20, Tryz.ntmps20
 go_wp2
 (try rw [hwA])
 clear hwA
 go_loopw [4] (fun i wr => ∃ (m : Nat) (vx : Option Addr) (cx : Nat), m ≤ 3 ∧ i = .int .i64 ((1 + m : Nat) : Int) ∧ wr.ownsRow wA.heap.size 86 5 (.slice vx (3 * m) cx) (3 * m) (cellsR 5 xG1 (3 * m)) ∧ wr.rowIs (w.heap.size + 1 + 1 + 1 + 1) 29 6 (sel6 (.slice (some ⟨w.heap.size + 1 + 1 + 1 + 1 + 1 + 1, 0, none⟩) 4 4) (.slice (some ⟨w.heap.size + 1 + 1 + 1 + 1 + 1 + 1 + 1, 0, none⟩) 6 6) (.slice (some ⟨w.heap.size + 1 + 1 + 1, 0, none⟩) 1 1) (.slice none 0 0) (.slice vx (3 * m) cx) (.slice none 0 0)) ∧ Chg (fun j => j = w.heap.size + 1 + 1 + 1 + 1) wA wr) (fun i _ => 4 - (intOf i).toNat)
 case atStart => exact ⟨0, none, 0, by omega, rfl, World.ownsRow_nil _ _ _ _, HA.out.2.2.2.1, Chg.refl _ _⟩
 case round =>
  obtain ⟨m, vx, cx, hm, rfl, ho, hx, hc⟩ := hrel
  have HO := hid ho
  have HX := hid hx
  have HC := hid hc
  have hzA := HA.out.1
  have hzr := hc.size
  clear ho hx hc
  rcases (show m = 0 ∨ m = 1 ∨ m = 2 ∨ m = 3 by omega) with rfl | rfl | rfl | rfl
  · skip
    have HOm : Hid (wr.ownsRow wA.heap.size 86 5 (.slice vx 0 cx) 0 (cellsR 5 xG1 0)) := hid HO.out
    have b4 : World.cell? wr ⟨w.heap.size + 1 + 1 + 1 + 1, 4, none⟩ = some (.slice vx 0 cx) := HX.out.cell (i := 4) (by omega)
    have HEq : Hid (cellsR 5 xG1 (3 * 1) = cellsR 5 xG1 0 ++ [.int .i64 1, .int .i64 2, .int .i64 1, .int .i64 1, .int .i64 0, .int .i64 1, .int .i64 2, .int .i64 0, .int .i64 2, .int .i64 150, .int .i64 1, .int .i64 2, .int .i64 0, .int .i64 3, .int .i64 0]) := hid (by rfl)
    clear HO
    go_wp2_with (at_builtin
                 refine wpList_append_own _ rfl _ _ 26 rfl wA.heap.size 86 i0 (.agg #[.int .i64 0, .int .i64 0, .int .i64 0, .int .i64 0, .int .i64 0]) 5 40 Tryz.underlying26 HI.out HZ0.out HZ1.out HZ2.out rfl (by decide) _ _ _ rfl (World.ownsRow.alloc HOm.out _) ⟨_, 0, none⟩ 3 3 [.int .i64 1, .int .i64 2, .int .i64 1, .int .i64 1, .int .i64 0, .int .i64 1, .int .i64 2, .int .i64 0, .int .i64 2, .int .i64 150, .int .i64 1, .int .i64 2, .int .i64 0, .int .i64 3, .int .i64 0] rfl rfl (new_cells _ #[.int .i64 1, .int .i64 2, .int .i64 1, .int .i64 1, .int .i64 0, .int .i64 1, .int .i64 2, .int .i64 0, .int .i64 2, .int .i64 150, .int .i64 1, .int .i64 2, .int .i64 0, .int .i64 3, .int .i64 0] _) (fun u hu => by simp only [List.mem_cons, List.not_mem_nil, or_false] at hu; rcases hu with rfl | rfl | rfl | rfl | rfl | rfl | rfl | rfl | rfl | rfl | rfl | rfl | rfl | rfl | rfl <;> rfl) (by unfold maxLen; omega) (by omega) (by simp; omega) ?_
                 intro v9 w9 hown9 hg9 hnil
                 obtain ⟨vx9, cx9, e9⟩ := own_form hown9
                 subst e9
                 have HO9 := hid hown9
                 have HY9 : Hid (Chg (fun j => (Value.slice vx 0 cx).ownBlock = some j) wr w9) := hid (Chg.trans (Chg.of_below ((Below.refl _ _).alloc (Nat.le_refl _) _)) (Chg.of_grown hg9 (fun j e => e)))
                 have HX9 := hid (HX.out.of_block (HY9.out.block _ HX.out.lt (fun hx => by have := (World.ownsRow.lt HOm.out _ hx).1; omega)))
                 have q9 : World.cell? w9 ⟨w.heap.size + 1 + 1 + 1 + 1, 4, none⟩ = some (.slice vx 0 cx) := HX9.out.cell (i := 4) (by omega)
                 have z9 := HX9.out.frozen 4
                 clear hown9 hg9 hnil b4)
    go_roundw
    case rel =>
     have hcS : Chg (fun j => j = w.heap.size + 1 + 1 + 1 + 1) w9 (w9.setCell ⟨w.heap.size + 1 + 1 + 1 + 1, 4, none⟩ (.slice vx9 (0 + 3) cx9)) := (Chg.refl (fun j => j = w.heap.size + 1 + 1 + 1 + 1) w9).set (.inl rfl) _
     have hY := World.ownsRow.lt HOm.out
     refine ⟨1, vx9, cx9, by omega, rfl, own_keep (by rw [HEq.out]; exact HO9.out) hcS (fun g1 h1 hx => by have h3 : g1 = w.heap.size + 1 + 1 + 1 + 1 := hx; omega), (HX9.out.set 4 _).congr (fun i hi => by rcases (show i = 0 ∨ i = 1 ∨ i = 2 ∨ i = 3 ∨ i = 4 ∨ i = 5 by omega) with rfl | rfl | rfl | rfl | rfl | rfl <;> rfl), ⟨hcS.os.trans (HY9.out.os.trans HC.out.os), hcS.tape.trans (HY9.out.tape.trans HC.out.tape), hcS.output.trans (HY9.out.output.trans HC.out.output), Nat.le_trans HC.out.size (Nat.le_trans HY9.out.size hcS.size), fun j hj hne => ?_⟩⟩
     have hs1 := HC.out.size
     have hs2 := HY9.out.size
     exact (hcS.block j (by omega) hne).trans ((HY9.out.block j (by omega) (fun hx => by have := hY j hx; omega)).trans (HC.out.block j hj hne))
    case measure => simp [intOf]
  · skip
    have HOm : Hid (wr.ownsRow wA.heap.size 86 5 (.slice vx 3 cx) 3 (cellsR 5 xG1 3)) := hid HO.out
    have b4 : World.cell? wr ⟨w.heap.size + 1 + 1 + 1 + 1, 4, none⟩ = some (.slice vx 3 cx) := HX.out.cell (i := 4) (by omega)
    have HEq : Hid (cellsR 5 xG1 (3 * 2) = cellsR 5 xG1 3 ++ [.int .i64 2, .int .i64 3, .int .i64 1, .int .i64 1, .int .i64 0, .int .i64 2, .int .i64 3, .int .i64 0, .int .i64 2, .int .i64 150, .int .i64 2, .int .i64 3, .int .i64 0, .int .i64 3, .int .i64 0]) := hid (by rfl)
    clear HO
    go_wp2_with (at_builtin
                 refine wpList_append_own _ rfl _ _ 26 rfl wA.heap.size 86 i0 (.agg #[.int .i64 0, .int .i64 0, .int .i64 0, .int .i64 0, .int .i64 0]) 5 40 Tryz.underlying26 HI.out HZ0.out HZ1.out HZ2.out rfl (by decide) _ _ _ rfl (World.ownsRow.alloc HOm.out _) ⟨_, 0, none⟩ 3 3 [.int .i64 2, .int .i64 3, .int .i64 1, .int .i64 1, .int .i64 0, .int .i64 2, .int .i64 3, .int .i64 0, .int .i64 2, .int .i64 150, .int .i64 2, .int .i64 3, .int .i64 0, .int .i64 3, .int .i64 0] rfl rfl (new_cells _ #[.int .i64 2, .int .i64 3, .int .i64 1, .int .i64 1, .int .i64 0, .int .i64 2, .int .i64 3, .int .i64 0, .int .i64 2, .int .i64 150, .int .i64 2, .int .i64 3, .int .i64 0, .int .i64 3, .int .i64 0] _) (fun u hu => by simp only [List.mem_cons, List.not_mem_nil, or_false] at hu; rcases hu with rfl | rfl | rfl | rfl | rfl | rfl | rfl | rfl | rfl | rfl | rfl | rfl | rfl | rfl | rfl <;> rfl) (by unfold maxLen; omega) (by omega) (by simp; omega) ?_
                 intro v9 w9 hown9 hg9 hnil
                 obtain ⟨vx9, cx9, e9⟩ := own_form hown9
                 subst e9
                 have HO9 := hid hown9
                 have HY9 : Hid (Chg (fun j => (Value.slice vx 3 cx).ownBlock = some j) wr w9) := hid (Chg.trans (Chg.of_below ((Below.refl _ _).alloc (Nat.le_refl _) _)) (Chg.of_grown hg9 (fun j e => e)))
                 have HX9 := hid (HX.out.of_block (HY9.out.block _ HX.out.lt (fun hx => by have := (World.ownsRow.lt HOm.out _ hx).1; omega)))
                 have q9 : World.cell? w9 ⟨w.heap.size + 1 + 1 + 1 + 1, 4, none⟩ = some (.slice vx 3 cx) := HX9.out.cell (i := 4) (by omega)
                 have z9 := HX9.out.frozen 4
                 clear hown9 hg9 hnil b4)
    go_roundw
    case rel =>
     have hcS : Chg (fun j => j = w.heap.size + 1 + 1 + 1 + 1) w9 (w9.setCell ⟨w.heap.size + 1 + 1 + 1 + 1, 4, none⟩ (.slice vx9 (3 + 3) cx9)) := (Chg.refl (fun j => j = w.heap.size + 1 + 1 + 1 + 1) w9).set (.inl rfl) _
     have hY := World.ownsRow.lt HOm.out
     refine ⟨2, vx9, cx9, by omega, rfl, own_keep (by rw [HEq.out]; exact HO9.out) hcS (fun g1 h1 hx => by have h3 : g1 = w.heap.size + 1 + 1 + 1 + 1 := hx; omega), (HX9.out.set 4 _).congr (fun i hi => by rcases (show i = 0 ∨ i = 1 ∨ i = 2 ∨ i = 3 ∨ i = 4 ∨ i = 5 by omega) with rfl | rfl | rfl | rfl | rfl | rfl <;> rfl), ⟨hcS.os.trans (HY9.out.os.trans HC.out.os), hcS.tape.trans (HY9.out.tape.trans HC.out.tape), hcS.output.trans (HY9.out.output.trans HC.out.output), Nat.le_trans HC.out.size (Nat.le_trans HY9.out.size hcS.size), fun j hj hne => ?_⟩⟩
     have hs1 := HC.out.size
     have hs2 := HY9.out.size
     exact (hcS.block j (by omega) hne).trans ((HY9.out.block j (by omega) (fun hx => by have := hY j hx; omega)).trans (HC.out.block j hj hne))
    case measure => simp [intOf]
  · skip
    have HOm : Hid (wr.ownsRow wA.heap.size 86 5 (.slice vx 6 cx) 6 (cellsR 5 xG1 6)) := hid HO.out
    have b4 : World.cell? wr ⟨w.heap.size + 1 + 1 + 1 + 1, 4, none⟩ = some (.slice vx 6 cx) := HX.out.cell (i := 4) (by omega)
    have HEq : Hid (cellsR 5 xG1 (3 * 3) = cellsR 5 xG1 6 ++ [.int .i64 3, .int .i64 1, .int .i64 1, .int .i64 1, .int .i64 0, .int .i64 3, .int .i64 1, .int .i64 0, .int .i64 2, .int .i64 150, .int .i64 3, .int .i64 1, .int .i64 0, .int .i64 3, .int .i64 0]) := hid (by rfl)
    clear HO
    go_wp2_with (at_builtin
                 refine wpList_append_own _ rfl _ _ 26 rfl wA.heap.size 86 i0 (.agg #[.int .i64 0, .int .i64 0, .int .i64 0, .int .i64 0, .int .i64 0]) 5 40 Tryz.underlying26 HI.out HZ0.out HZ1.out HZ2.out rfl (by decide) _ _ _ rfl (World.ownsRow.alloc HOm.out _) ⟨_, 0, none⟩ 3 3 [.int .i64 3, .int .i64 1, .int .i64 1, .int .i64 1, .int .i64 0, .int .i64 3, .int .i64 1, .int .i64 0, .int .i64 2, .int .i64 150, .int .i64 3, .int .i64 1, .int .i64 0, .int .i64 3, .int .i64 0] rfl rfl (new_cells _ #[.int .i64 3, .int .i64 1, .int .i64 1, .int .i64 1, .int .i64 0, .int .i64 3, .int .i64 1, .int .i64 0, .int .i64 2, .int .i64 150, .int .i64 3, .int .i64 1, .int .i64 0, .int .i64 3, .int .i64 0] _) (fun u hu => by simp only [List.mem_cons, List.not_mem_nil, or_false] at hu; rcases hu with rfl | rfl | rfl | rfl | rfl | rfl | rfl | rfl | rfl | rfl | rfl | rfl | rfl | rfl | rfl <;> rfl) (by unfold maxLen; omega) (by omega) (by simp; omega) ?_
                 intro v9 w9 hown9 hg9 hnil
                 obtain ⟨vx9, cx9, e9⟩ := own_form hown9
                 subst e9
                 have HO9 := hid hown9
                 have HY9 : Hid (Chg (fun j => (Value.slice vx 6 cx).ownBlock = some j) wr w9) := hid (Chg.trans (Chg.of_below ((Below.refl _ _).alloc (Nat.le_refl _) _)) (Chg.of_grown hg9 (fun j e => e)))
                 have HX9 := hid (HX.out.of_block (HY9.out.block _ HX.out.lt (fun hx => by have := (World.ownsRow.lt HOm.out _ hx).1; omega)))
                 have q9 : World.cell? w9 ⟨w.heap.size + 1 + 1 + 1 + 1, 4, none⟩ = some (.slice vx 6 cx) := HX9.out.cell (i := 4) (by omega)
                 have z9 := HX9.out.frozen 4
                 clear hown9 hg9 hnil b4)
    go_roundw
    case rel =>
     have hcS : Chg (fun j => j = w.heap.size + 1 + 1 + 1 + 1) w9 (w9.setCell ⟨w.heap.size + 1 + 1 + 1 + 1, 4, none⟩ (.slice vx9 (6 + 3) cx9)) := (Chg.refl (fun j => j = w.heap.size + 1 + 1 + 1 + 1) w9).set (.inl rfl) _
     have hY := World.ownsRow.lt HOm.out
     refine ⟨3, vx9, cx9, by omega, rfl, own_keep (by rw [HEq.out]; exact HO9.out) hcS (fun g1 h1 hx => by have h3 : g1 = w.heap.size + 1 + 1 + 1 + 1 := hx; omega), (HX9.out.set 4 _).congr (fun i hi => by rcases (show i = 0 ∨ i = 1 ∨ i = 2 ∨ i = 3 ∨ i = 4 ∨ i = 5 by omega) with rfl | rfl | rfl | rfl | rfl | rfl <;> rfl), ⟨hcS.os.trans (HY9.out.os.trans HC.out.os), hcS.tape.trans (HY9.out.tape.trans HC.out.tape), hcS.output.trans (HY9.out.output.trans HC.out.output), Nat.le_trans HC.out.size (Nat.le_trans HY9.out.size hcS.size), fun j hj hne => ?_⟩⟩
     have hs1 := HC.out.size
     have hs2 := HY9.out.size
     exact (hcS.block j (by omega) hne).trans ((HY9.out.block j (by omega) (fun hx => by have := hY j hx; omega)).trans (HC.out.block j hj hne))
    case measure => simp [intOf]
  · have b0 : World.cell? wr ⟨w.heap.size + 1 + 1 + 1 + 1, 0, none⟩ = some (.slice (some ⟨w.heap.size + 1 + 1 + 1 + 1 + 1 + 1, 0, none⟩) 4 4) := HX.out.cell (i := 0) (by omega)
    have b1 : World.cell? wr ⟨w.heap.size + 1 + 1 + 1 + 1, 1, none⟩ = some (.slice (some ⟨w.heap.size + 1 + 1 + 1 + 1 + 1 + 1 + 1, 0, none⟩) 6 6) := HX.out.cell (i := 1) (by omega)
    have b2 : World.cell? wr ⟨w.heap.size + 1 + 1 + 1 + 1, 2, none⟩ = some (.slice (some ⟨w.heap.size + 1 + 1 + 1, 0, none⟩) 1 1) := HX.out.cell (i := 2) (by omega)
    have b3 : World.cell? wr ⟨w.heap.size + 1 + 1 + 1 + 1, 3, none⟩ = some (.slice none 0 0) := HX.out.cell (i := 3) (by omega)
    have b4 : World.cell? wr ⟨w.heap.size + 1 + 1 + 1 + 1, 4, none⟩ = some (.slice vx (3 * 3) cx) := HX.out.cell (i := 4) (by omega)
    have b5 : World.cell? wr ⟨w.heap.size + 1 + 1 + 1 + 1, 5, none⟩ = some (.slice none 0 0) := HX.out.cell (i := 5) (by omega)
    have hres := HA.out.2.2.1.of_block (HC.out.block _ HA.out.2.2.1.lt (fun hx => by have h3 : w.heap.size = w.heap.size + 1 + 1 + 1 + 1 := hx; omega))
    have d0 : World.cell? wr ⟨w.heap.size, 0, none⟩ = some (.slice none 0 0) := hres.cell (i := 0) (by omega)
    have z0 := hres.frozen 0
    have d1 : World.cell? wr ⟨w.heap.size, 1, none⟩ = some (.slice none 0 0) := hres.cell (i := 1) (by omega)
    have z1 := hres.frozen 1
    have d2 : World.cell? wr ⟨w.heap.size, 2, none⟩ = some (.slice none 0 0) := hres.cell (i := 2) (by omega)
    have z2 := hres.frozen 2
    have d3 : World.cell? wr ⟨w.heap.size, 3, none⟩ = some (.slice none 0 0) := hres.cell (i := 3) (by omega)
    have z3 := hres.frozen 3
    have d4 : World.cell? wr ⟨w.heap.size, 4, none⟩ = some (.slice none 0 0) := hres.cell (i := 4) (by omega)
    have z4 := hres.frozen 4
    have d5 : World.cell? wr ⟨w.heap.size, 5, none⟩ = some (.slice none 0 0) := hres.cell (i := 5) (by omega)
    have z5 := hres.frozen 5
    clear hres
    go_wp2
    refine bodyPost_ret (v := .agg #[.slice (some ⟨w.heap.size + 1 + 1 + 1 + 1 + 1 + 1, 0, none⟩) 4 4, .slice (some ⟨w.heap.size + 1 + 1 + 1 + 1 + 1 + 1 + 1, 0, none⟩) 6 6, .slice (some ⟨w.heap.size + 1 + 1 + 1, 0, none⟩) 1 1, .slice none 0 0, .slice vx 9 cx, .slice none 0 0]) (by simp [results, Tryz.results20, go_sem, d0, d1, d2, d3, d4, d5]) rfl ?_
    refine ⟨sel6 (some ⟨w.heap.size + 1 + 1 + 1 + 1 + 1 + 1, 0, none⟩) (some ⟨w.heap.size + 1 + 1 + 1 + 1 + 1 + 1 + 1, 0, none⟩) (some ⟨w.heap.size + 1 + 1 + 1, 0, none⟩) none vx none, lG1, sel6 4 6 1 0 cx 0, gG1, [0], [], xG1, fG, rfl, fun w3 hk => ?_, right1, ⟨Nat.le_refl _, Nat.le_refl _⟩, ?_⟩
    · have hk1 : ∀ q, w.heap.size < q → q < wr.heap.size → w3.heap[q]? = wr.heap[q]? := fun q h1 h2 => (hk q h1 (by simp [World.setCell]; exact h2)).trans (by
       have hq : ∀ (W : World) (o : Nat) (v : Value), (W.setCell ⟨w.heap.size, o, none⟩ v).heap[q]? = W.heap[q]? := fun W o v => Below.heap_setCell _ _ _ _ (by dsimp only; omega)
       rw [hq, hq, hq, hq, hq, hq])
      have hc3 : ∀ (q o : Nat) (v : Value), w.heap.size < q → q ≠ w.heap.size + 1 + 1 + 1 + 1 → wA.cell? ⟨q, o, none⟩ = some v → w3.cell? ⟨q, o, none⟩ = some v := fun q o v h1 h2 h3 => by
       have hq := World.block_lt_of_cell? _ _ h3
       exact (World.cell?_of_block (a := ⟨q, o, none⟩) ((hk1 q h1 (Nat.lt_of_lt_of_le hq hzr)).trans (HC.out.block q hq h2))).trans h3
      obtain ⟨-, -, -, -, a1, a2, a3⟩ := HA.out
      have ho3 : w3.ownsRow wA.heap.size 86 5 (.slice vx 9 cx) 9 (cellsR 5 xG1 9) := by
       obtain ⟨h1, h2⟩ := HO.out
       refine ⟨h1, ?_⟩
       rcases h2 with h2 | ⟨g, cap, cur, e, hgB, hh, hn⟩
       · exact .inl h2
       · exact .inr ⟨g, cap, cur, e, hgB, (hk1 g (by omega) (Array.getElem?_eq_some_iff.1 hh).1).trans hh, hn⟩
      refine ⟨strs_lit (by decide) (fun i hi => hc3 _ _ _ (by omega) (by omega) (a1 i hi)), row_lit (by decide) (fun i hi j hj => hc3 _ _ _ (by omega) (by omega) (a2 i hi j hj)), ⟨rfl, by show 1 ≤ maxLen; unfold maxLen; omega, fun i hi => ?_⟩, no_ints, (row_of (by omega) ho3).1, no_row⟩
      have hi1 : i < 1 := hi
      obtain rfl : i = 0 := by omega
      exact ⟨_, 0, rfl, hc3 _ _ _ (by omega) (by omega) a3⟩
    · have hb : Below w.heap.size w wr := ⟨HC.out.os.trans HA.out.2.1.os, HC.out.tape.trans HA.out.2.1.tape, HC.out.output.trans HA.out.2.1.output, Nat.le_trans HA.out.2.1.size HC.out.size, fun j hj => (HC.out.block j (by omega) (fun hx => by have h3 : j = w.heap.size + 1 + 1 + 1 + 1 := hx; omega)).trans (HA.out.2.1.block j hj)⟩
      exact ((((((hb.setCell (Nat.le_refl _) _).setCell (Nat.le_refl _) _).setCell (Nat.le_refl _) _).setCell (Nat.le_refl _) _).setCell (Nat.le_refl _) _).setCell (Nat.le_refl _) _)
end Go.Proofs.YtaioffpkadmmhaaGreat.gadget
