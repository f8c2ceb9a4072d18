/- ownEx of the program, the whole of it; conditions: none. -/
import Derived.Test.YtofdhoefphoaaaaOwnEx
namespace Go.Proofs.Ytofdhoefphoaaaa.ownExE
open Go.RowKit Go.Deep Go base trees built heldStore drawn ownTree ownEx
set_option linter.unusedVariables false

/-- A row that the call owns, and an expression with such a row. -/
def OV (B : Nat) (w : World) (d : Nat) (t : T) (l : Nat) (v : Value) : Prop := ∃ a c, v = .slice a l c ∧ Ow w d t a l (fun b => B ≤ b ∧ b < w.heap.size)
def EV (B : Nat) (w : World) (d : Nat) (t : T) (l : Nat) (v : Value) : Prop := ∃ a c, v = .agg #[.int .i64 (kd t), .int .i64 (nn t), .slice a l c] ∧ Ow w d t a l (fun b => B ≤ b ∧ b < w.heap.size)
theorem OV.below {B : Nat} {w w' : World} {d l : Nat} {t : T} {v : Value} (h : OV B w d t l v) (hb : Below w.heap.size w w') : OV B w' d t l v := by
  obtain ⟨a, c, e, ho⟩ := h
  exact ⟨a, c, e, (ho.below hb).sub fun b hb' => ⟨hb'.1, Nat.lt_of_lt_of_le hb'.2 hb.size⟩⟩
theorem EV.below {B : Nat} {w w' : World} {d l : Nat} {t : T} {v : Value} (h : EV B w d t l v) (hb : Below w.heap.size w w') : EV B w' d t l v := by
  obtain ⟨a, c, e, ho⟩ := h
  exact ⟨a, c, e, (ho.below hb).sub fun b hb' => ⟨hb'.1, Nat.lt_of_lt_of_le hb'.2 hb.size⟩⟩
theorem set3_heap (w : World) {R b : Nat} (hb : b ≠ R) (v0 v1 v2 : Value) : (((w.setCell ⟨R, 0, none⟩ v0).setCell ⟨R, 1, none⟩ v1).setCell ⟨R, 2, none⟩ v2).heap[b]? = w.heap[b]? := by
  rw [Below.heap_setCell _ _ _ _ hb, Below.heap_setCell _ _ _ _ hb, Below.heap_setCell _ _ _ _ hb]

set_option maxHeartbeats 1600000 in
set_option maxRecDepth 8000 in
theorem ownE_of (d : Nat) (h : EachS d) : OwnE d := by
  intro t a l c w hr
  have HR := hid hr
  have HH := hid h
  clear hr h
  go_enter Try.func39, Try.ntmps39
  go_wp2_with fail
  have HW : Hid (Below w.heap.size w ((w.alloc (.cells #[.int .i64 (kd t), .int .i64 (nn t), .slice a l c] 33)).alloc (.cells #[.int .i64 0, .int .i64 0, .slice none 0 0] 33))) := (by repeat (first | exact Below.refl _ _ | assumption | refine Below.drew ?_ | refine Below.alloc ?_ (by first | exact Nat.le_refl _ | omega | (simp; done) | (simp; omega)) _ | refine Below.setCell ?_ (by first | exact Nat.le_refl _ | omega | (simp; done) | (simp; omega)) _))
  have hf : ((w.alloc (.cells #[.int .i64 (kd t), .int .i64 (nn t), .slice a l c] 33)).alloc (.cells #[.int .i64 0, .int .i64 0, .slice none 0 0] 33)).cell? ⟨w.heap.size, 0, none⟩ = some (.int .i64 (kd t)) ∧ ((w.alloc (.cells #[.int .i64 (kd t), .int .i64 (nn t), .slice a l c] 33)).alloc (.cells #[.int .i64 0, .int .i64 0, .slice none 0 0] 33)).cell? ⟨w.heap.size, 1, none⟩ = some (.int .i64 (nn t)) ∧ ((w.alloc (.cells #[.int .i64 (kd t), .int .i64 (nn t), .slice a l c] 33)).alloc (.cells #[.int .i64 0, .int .i64 0, .slice none 0 0] 33)).cell? ⟨w.heap.size, 2, none⟩ = some (.slice a l c) ∧ ((w.alloc (.cells #[.int .i64 (kd t), .int .i64 (nn t), .slice a l c] 33)).alloc (.cells #[.int .i64 0, .int .i64 0, .slice none 0 0] 33)).cell? ⟨w.heap.size + 1, 0, none⟩ = some (.int .i64 0) ∧ ((w.alloc (.cells #[.int .i64 (kd t), .int .i64 (nn t), .slice a l c] 33)).alloc (.cells #[.int .i64 0, .int .i64 0, .slice none 0 0] 33)).cell? ⟨w.heap.size + 1, 1, none⟩ = some (.int .i64 0) ∧ ((w.alloc (.cells #[.int .i64 (kd t), .int .i64 (nn t), .slice a l c] 33)).alloc (.cells #[.int .i64 0, .int .i64 0, .slice none 0 0] 33)).cell? ⟨w.heap.size + 1, 2, none⟩ = some (.slice none 0 0) ∧ ((w.alloc (.cells #[.int .i64 (kd t), .int .i64 (nn t), .slice a l c] 33)).alloc (.cells #[.int .i64 0, .int .i64 0, .slice none 0 0] 33)).frozen? ⟨w.heap.size + 1, 0, none⟩ = false ∧ ((w.alloc (.cells #[.int .i64 (kd t), .int .i64 (nn t), .slice a l c] 33)).alloc (.cells #[.int .i64 0, .int .i64 0, .slice none 0 0] 33)).frozen? ⟨w.heap.size + 1, 1, none⟩ = false ∧ ((w.alloc (.cells #[.int .i64 (kd t), .int .i64 (nn t), .slice a l c] 33)).alloc (.cells #[.int .i64 0, .int .i64 0, .slice none 0 0] 33)).frozen? ⟨w.heap.size + 1, 2, none⟩ = false := by
    refine ⟨?_, ?_, ?_, ?_, ?_, ?_, ?_, ?_, ?_⟩ <;> simp [go_sem]
  have HZ : Hid (((w.alloc (.cells #[.int .i64 (kd t), .int .i64 (nn t), .slice a l c] 33)).alloc (.cells #[.int .i64 0, .int .i64 0, .slice none 0 0] 33)).heap.size = w.heap.size + 1 + 1) := by show _ = _; simp
  generalize ((w.alloc (.cells #[.int .i64 (kd t), .int .i64 (nn t), .slice a l c] 33)).alloc (.cells #[.int .i64 0, .int .i64 0, .slice none 0 0] 33)) = W8 at *
  have HK : Hid (∀ w8 : World, Below W8.heap.size W8 w8 → w8.cell? ⟨w.heap.size, 0, none⟩ = some (.int .i64 (kd t)) ∧ w8.cell? ⟨w.heap.size, 1, none⟩ = some (.int .i64 (nn t)) ∧ w8.cell? ⟨w.heap.size, 2, none⟩ = some (.slice a l c) ∧ w8.cell? ⟨w.heap.size + 1, 0, none⟩ = some (.int .i64 0) ∧ w8.cell? ⟨w.heap.size + 1, 1, none⟩ = some (.int .i64 0) ∧ w8.cell? ⟨w.heap.size + 1, 2, none⟩ = some (.slice none 0 0) ∧ w8.frozen? ⟨w.heap.size + 1, 0, none⟩ = false ∧ w8.frozen? ⟨w.heap.size + 1, 1, none⟩ = false ∧ w8.frozen? ⟨w.heap.size + 1, 2, none⟩ = false) :=
    fun w8 h => ⟨keep h hf.1, keep h hf.2.1, keep h hf.2.2.1, keep h hf.2.2.2.1, keep h hf.2.2.2.2.1, keep h hf.2.2.2.2.2.1, (h.frozen (by rw [HZ.out]; dsimp only; omega)).trans hf.2.2.2.2.2.2.1, (h.frozen (by rw [HZ.out]; dsimp only; omega)).trans hf.2.2.2.2.2.2.2.1, (h.frozen (by rw [HZ.out]; dsimp only; omega)).trans hf.2.2.2.2.2.2.2.2⟩
  clear hf
  refine region_below (fun u => ⟨#[.agg #[.int .i64 (kd t), .int .i64 (nn t), .slice a l c], .pointer (some ⟨w.heap.size, 0, none⟩), .pointer (some ⟨w.heap.size + 1, 0, none⟩), u 3, u 4, u 5, u 6, u 7, u 8, u 9, u 10], []⟩) (fun i => [3, 4, 5, 6, 7, 8, 9, 10].getD i 0) (fun i v w8 => match i with | 0 => v = .pointer (some ⟨w.heap.size, 0, none⟩) | 1 => v = .int .i64 (kd t) | 2 => v = .pointer (some ⟨w.heap.size, 1, none⟩) | 3 => v = .int .i64 (nn t) | 4 => v = .pointer (some ⟨w.heap.size, 2, none⟩) | 5 => v = .slice a l c | 6 => OV W8.heap.size w8 d t l v | 7 => EV W8.heap.size w8 d t l v | _ => True) W8 8 (fun k => match k with | 3 => undef | 4 => undef | 5 => undef | 6 => undef | 7 => undef | 8 => undef | 9 => undef | 10 => undef | _ => undef) (by rfl) (by kernel_rfl) (by rfl) ⟨by kernel_rfl, by kernel_rfl, by kernel_rfl, by decide⟩ (by kernel_rfl) (Below.refl _ _) ?hput ?hinj ?stable ?step ?last
  case hput =>
    intro i hi u v
    match i, hi with
    | 0, _ => rfl
    | 1, _ => rfl
    | 2, _ => rfl
    | 3, _ => rfl
    | 4, _ => rfl
    | 5, _ => rfl
    | 6, _ => rfl
    | 7, _ => rfl
  case hinj =>
    intro i j hi hj h
    exact slots_inj [3, 4, 5, 6, 7, 8, 9, 10] (by decide) hi hj h
  case stable =>
    intro i v w8 w9 hb h
    match i, h with
    | 0, h => exact h
    | 1, h => exact h
    | 2, h => exact h
    | 3, h => exact h
    | 4, h => exact h
    | 5, h => exact h
    | 6, h => exact h.below hb
    | 7, h => exact h.below hb
    | _ + 8, h => trivial
  case step =>
    intro i hi u w8 S8 hdep
    match i, hi with
    | 0, _ =>
      clear hdep
      refine ⟨_, rfl, fun K' hK => ?_⟩
      go_simp
      exact hK.out _ _ (Below.refl _ _) rfl
    | 1, _ =>
      have h0 : (u 3) = .pointer (some ⟨w.heap.size, 0, none⟩) := hdep 0 (by kernel_rfl)
      clear hdep
      refine ⟨_, rfl, fun K' hK => ?_⟩
      obtain ⟨f0, f1, f2, f3, f4, f5, g0, g1, g2⟩ := HK.out w8 S8
      simp only [h0] at hK ⊢
      go_simp
      exact hK.out _ _ (Below.refl _ _) rfl
    | 2, _ =>
      clear hdep
      refine ⟨_, rfl, fun K' hK => ?_⟩
      go_simp
      exact hK.out _ _ (Below.refl _ _) rfl
    | 3, _ =>
      have h2 : (u 5) = .pointer (some ⟨w.heap.size, 1, none⟩) := hdep 2 (by kernel_rfl)
      clear hdep
      refine ⟨_, rfl, fun K' hK => ?_⟩
      obtain ⟨f0, f1, f2, f3, f4, f5, g0, g1, g2⟩ := HK.out w8 S8
      simp only [h2] at hK ⊢
      go_simp
      exact hK.out _ _ (Below.refl _ _) rfl
    | 4, _ =>
      clear hdep
      refine ⟨_, rfl, fun K' hK => ?_⟩
      go_simp
      exact hK.out _ _ (Below.refl _ _) rfl
    | 5, _ =>
      have h4 : (u 7) = .pointer (some ⟨w.heap.size, 2, none⟩) := hdep 4 (by kernel_rfl)
      clear hdep
      refine ⟨_, rfl, fun K' hK => ?_⟩
      obtain ⟨f0, f1, f2, f3, f4, f5, g0, g1, g2⟩ := HK.out w8 S8
      simp only [h4] at hK ⊢
      go_simp
      exact hK.out _ _ (Below.refl _ _) rfl
    | 6, _ =>
      have h5 : (u 8) = .slice a l c := hdep 5 (by kernel_rfl)
      clear hdep
      refine ⟨_, rfl, fun K' hK => ?_⟩
      simp only [h5] at hK ⊢
      go_simp
      refine (HH.out t a l c _ ((HR.out.below HW.out).below S8)).mono ?_
      rintro e w9 ⟨a', c', rfl, hb9, ho9⟩
      exact hK.out _ _ hb9 ⟨a', c', rfl, ho9.sub fun b hb => ⟨Nat.le_trans S8.size hb.1, hb.2⟩⟩
    | 7, _ =>
      have h1 : (u 4) = .int .i64 (kd t) := hdep 1 (by kernel_rfl)
      have h3 : (u 6) = .int .i64 (nn t) := hdep 3 (by kernel_rfl)
      have h6 : OV W8.heap.size w8 d t l (u 9) := hdep 6 (by kernel_rfl)
      clear hdep
      refine ⟨_, rfl, fun K' hK => ?_⟩
      obtain ⟨a', c', e6, ho⟩ := h6
      simp only [h1, h3, e6] at hK ⊢
      go_simp
      exact hK.out _ _ (Below.refl _ _) ⟨a', c', rfl, ho⟩
  case last =>
    intro u w8 S8 hall
    have h7 : EV W8.heap.size w8 d t l (u 10) := hall 7 (by decide)
    clear hall
    refine ⟨_, rfl, fun K' hK => ?_⟩
    obtain ⟨f0, f1, f2, f3, f4, f5, g0, g1, g2⟩ := HK.out w8 S8
    obtain ⟨a', c', e7, ho⟩ := h7
    simp only [e7] at hK ⊢
    go_simp
    refine hK.out _ _ ?_
    clear hK K'
    (try simp only [Exit.then])
    have HO := hid (ho.kept fun b hb _ => set3_heap w8 (R := w.heap.size + 1) (b := b) (by have := HZ.out; omega) (.int .i64 (kd t)) (.int .i64 (nn t)) (.slice a' l c'))
    have HB := hid (below_set3 (HW.out.trans (S8.mono (by rw [HZ.out]; omega))) (R := w.heap.size + 1) (by omega) (.int .i64 (kd t)) (.int .i64 (nn t)) (.slice a' l c'))
    go_wp2
    refine bodyPost_ret (v := .agg #[.int .i64 (kd t), .int .i64 (nn t), .slice a' l c']) (by simp [results, Try.results39, go_sem, f3, f4, f5]) rfl ⟨a', c', rfl, HB.out, HO.out.sub fun b hb => ⟨by have := HZ.out; omega, by simpa [World.setCell] using hb.2⟩⟩

theorem ownE (d : Nat) : OwnE d := by
  induction d using Nat.strongRecOn with
  | _ d ih => exact ownE_of d (each_of d fun h => ih (d - 1) (by omega))
end Go.Proofs.Ytofdhoefphoaaaa.ownExE
