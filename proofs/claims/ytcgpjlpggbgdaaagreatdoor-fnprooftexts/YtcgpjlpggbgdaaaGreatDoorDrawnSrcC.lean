/- A region that draws its order while it asks a source, more than once an operation; of no program; conditions: none. -/
import Derived.Test.YtcgpjlpggbgdaaaGreatDoorDrawnSrc
namespace Go.Proofs.YtcgpjlpggbgdaaaGreatDoor.drawnSrc
open Go Go.RowKit base heldStore drawn drawnLin source
set_option linter.unusedVariables false

variable {P : Program} {ops : Array Oper} {Q : Exit → Act → World → Prop}
theorem region_srcC {id : Nat} {a : Act} {w : World} (A : (Nat → Value) → Act) (s : Nat → Nat) (φ : Nat → Value → World → Prop) (P0 : World → Prop) (Y : Nat → Prop) (W : World) (C n q b : Nat) (ca : Option Addr) (len cap k0 : Nat) (u0 : Nat → Value) (ha : a = A u0)
    (hm : P.follows .mixedOrders = true) (hz : ops.size = n + 1) (hE : LastOf ops n) (hup : upB ops = true)
    (hW : Chg (fun k => k = b) W w) (hs : Src w b ca len cap k0) (hP : P0 w)
    (hput : ∀ i, i < n → ∀ u v, (A u).put (some (s i)) v = A (upd u (s i) v)) (hinj : ∀ i j, i < n → j < n → s i = s j → i = j)
    (stable : ∀ i v w w', Chg (fun k => k = b ∨ (i ≠ q ∧ Y k)) w w' → φ i v w → φ i v w')
    (stable0 : ∀ w w', Chg (fun k => k = b) w w' → P0 w → P0 w')
    (step : ∀ i, i < n → ∀ u w k, Chg (fun k => k = b ∨ Y k) W w → Src w b ca len cap k → k ≤ k0 + C * n → (i = q → P0 w ∧ Chg (fun k => k = b) W w) → (∀ j, Region.waitsFor .any ops i j = true → φ j (u (s j)) w) → ∃ o, ops[i]? = some o ∧ ∀ K' : Act → World → Prop, Shut (∀ v w', Chg (fun k => k = b ∨ (i = q ∧ Y k)) w w' → Src w' b ca len cap (k + C) → φ i v w' → K' ((A u).put (some (s i)) v) w') → if Region.wanted o (yielded ops (A u).tmps) = true then Oper.wp P o (A u) w K' Q else K' ((A u).put o.dst undef) w)
    (last : ∀ u w, Chg (fun k => k = b ∨ Y k) W w → Src w b ca len cap (k0 + C * n) → (∀ j, j < n → φ j (u (s j)) w) → ∃ o, ops[n]? = some o ∧ ∀ K' : Act → World → Prop, Shut (∀ a w, Q .normal a w → K' a w) → if Region.wanted o (yielded ops (A u).tmps) = true then Oper.wp P o (A u) w K' Q else K' ((A u).put o.dst undef) w) :
    (Code.region id ops true).wp P Q a w := by
  have hd : Chg (fun k => k = b) w w.drew := (Chg.refl _ w).drew
  refine region_all A s (fun L u w8 => Chg (fun k => k = b ∨ Y k) W w8 ∧ (L q = false → P0 w8 ∧ Chg (fun k => k = b) W w8) ∧ Src w8 b ca len cap (k0 + C * cnt L n) ∧ (∀ j, j < n → L j = true → φ j (u (s j)) w8)) n u0 ha hm hz hE hup ⟨(Chg.trans hW hd).mono (fun k hk => .inl hk), fun _ => ⟨stable0 _ _ hd hP, Chg.trans hW hd⟩, (hs.below (Below.refl _ _).drew).mono (Nat.le_add_right _ _), fun j _ h => (by cases h)⟩ hput ?_ ?_
  · intro i hi L u w8 hLi hwait hI
    obtain ⟨h1, h2, h3, h4⟩ := hI
    obtain ⟨o, ho, h⟩ := step i hi u w8 _ h1 h3 (by have := Nat.mul_le_mul_left C (cnt_le L n); omega) (fun e => h2 (by rw [← e]; exact hLi)) (fun j hj => by
      obtain ⟨oj, hoj, e, he, hb, hon⟩ := Region.waitsFor_spec hj
      have h5 := upB_spec hup hoj e he
      rw [hon] at h5
      exact h4 j (by omega) (hwait j hj))
    refine ⟨o, ho, fun K' hK => h K' fun v w' hc hs' hv => hK.out v w' ⟨Chg.trans h1 (hc.mono fun k hk => ?_), fun hq => ?_, ?_, fun j hj hl => ?_⟩⟩
    · rcases hk with hk | hk
      · exact .inl hk
      · exact .inr hk.2
    · have e : i ≠ q := fun e => by subst e; rw [come_same] at hq; cases hq
      rw [come_ne (Ne.symm e)] at hq
      obtain ⟨g1, g2⟩ := h2 hq
      have hc' : Chg (fun k => k = b) w8 w' := hc.mono fun k hk => by
        rcases hk with hk | hk
        · exact hk
        · exact absurd hk.1 e
      exact ⟨stable0 _ _ hc' g1, Chg.trans g2 hc'⟩
    · rw [cnt_come hLi n hi, Nat.mul_add, Nat.mul_one, ← Nat.add_assoc]; exact hs'
    · by_cases e : j = i
      · subst e; rw [upd_same]; exact hv
      · rw [come_ne e] at hl
        rw [upd_ne _ _ (fun e' => e (hinj j i hj hi e'))]
        refine stable j _ _ _ (hc.mono fun k hk => ?_) (h4 j hj hl)
        rcases hk with hk | hk
        · exact .inl hk
        · exact .inr ⟨fun e' => e (by rw [e', hk.1]), hk.2⟩
  · intro L u w8 hall hI
    obtain ⟨h1, h2, h3, h4⟩ := hI
    exact last u w8 h1 (h3.mono (by have := Nat.mul_le_mul_left C (cnt_le L n); omega)) (fun j hj => h4 j hj (hall j hj))
end Go.Proofs.YtcgpjlpggbgdaaaGreatDoor.drawnSrc
