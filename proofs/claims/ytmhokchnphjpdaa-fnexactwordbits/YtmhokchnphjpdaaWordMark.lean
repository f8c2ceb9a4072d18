/- Marks that the laws set into a tree of words which is owned; conditions: numbers that fit. -/
import Derived.Test.YtmhokchnphjpdaaTreeMark
import Derived.Test.YtmhokchnphjpdaaWordOwn
namespace Go.Proofs.Ytmhokchnphjpdaa.wordMark
open Go.RowKit Go.Deep base trees ownTree treeOwn treeMark
set_option linter.unusedVariables false

def MarkS (d : Nat) : Prop := ∀ (t : T) (a : Option Addr) (l c : Nat) (k : Int) (S : Nat → Prop) (w : World), Ow w d t a l S → 0 ≤ k → k + 2 * (rowN d t : Int) ≤ 4611686018427387904 →
    Calls Try.prog 27 #[.slice a l c, .int .i64 k] w fun e w' => e = .returned (.int .i64 (k + 2 * (rowN d t : Int))) ∧ Ow w' d (markT d k t) a l S ∧ Fr S w w'

set_option maxHeartbeats 1600000 in
theorem markS (d : Nat) : MarkS d := by
  induction d using Nat.strongRecOn with
  | _ d ih =>
  intro t a l c k S w ho hk0 hk1
  have hmost := ho.most
  have HL := hid ho.len
  by_cases hl0 : l = 0
  · subst hl0
    have hr : rowN d t = 0 := by unfold rowN; rw [HL.out]; rfl
    have HO : Hid (Ow w d (markT d k t) a 0 S) := Ow.none _ _ ((ln_markT _ _ _).trans HL.out) _ _
    rw [hr]
    clear ho ih
    go_enter Try.func27, Try.ntmps27
    go_wp2
    go_loopw [5, 1] (fun i v wr => i = .int .i64 0 ∧ v = .int .i64 k ∧ wr = w) (fun i _ _ => 0)
    case atStart => exact ⟨rfl, rfl, rfl⟩
    case round =>
      obtain ⟨rfl, rfl, rfl⟩ := hrel
      go_wp2
      go_ret
      exact ⟨by simp, HO.out, Fr.refl _ _⟩
  obtain ⟨hd, g, f, Sk, rfl, hSg, hfr, hS, hdj, hc⟩ := ho.row (by omega)
  have HI := hid (ih (d - 1) (by omega))
  have HS := hid hS
  have HDj := hid hdj
  have HSg := hid hSg
  have HC := hid hc
  have HFr := hid hfr
  have HZ := hid (fun i (hi : i < l) => size_rowN (hc i hi).2.zero)
  have HE := hid (mk_end d k t)
  rw [HL.out] at HE
  have hE := HE.out
  clear ho ih hS hdj hSg hc hfr
  rw [← hE] at hk1 ⊢
  clear hE
  go_enter Try.func27, Try.ntmps27
  go_wp2
  go_loopw [5, 1] (fun i v wr => ∃ j : Nat, j ≤ l ∧ i = .int .i64 j ∧ v = .int .i64 (mk d k t j) ∧ Fr S w wr ∧ (∀ x, wr.frozen? ⟨g, x, none⟩ = false) ∧ Part wr g l d j k t f Sk) (fun i _ _ => l - (intOf i).toNat)
  case atStart => exact ⟨0, Nat.zero_le _, rfl, by rw [mk_zero], Fr.refl _ _, HFr.out, fun i hi => absurd hi (Nat.not_lt_zero _), fun i _ hi => HC.out i hi⟩
  case round =>
    obtain ⟨j, hj, rfl, rfl, hf, hfz, hp⟩ := hrel
    have HF := hid hf
    have HP := hid hp
    have HFz := hid hfz
    have hm0 := mk_ge d k t j
    have hm1 : mk d k t j ≤ mk d k t l := mk_le hj
    clear hf hp hfz
    by_cases hlt : j < l
    · obtain ⟨⟨c0, c1, c2⟩, hoj⟩ := HP.out.2 j (Nat.le_refl _) hlt
      have HOj := hid hoj
      have z0 := HFz.out (j * 3)
      have z1 := HFz.out (j * 3 + 1)
      have hms : mk d k t (j + 1) = mk d k t j + 2 * (size (d - 1) (kid t j) : Int) := mk_succ _ _ _ _
      have hm2 : mk d k t (j + 1) ≤ mk d k t l := mk_le (by omega)
      have hsz := HZ.out j hlt
      have HMs := hid hms
      have HCj : Hid (CellE wr g j (kd (kid t j)) (nn (kid t j)) (f j)) := ⟨c0, c1, c2⟩
      obtain ⟨⟨aj, lj, cj⟩, hfj⟩ : ∃ fj, f j = fj := ⟨_, rfl⟩
      have HFj := hid hfj
      rw [hfj] at c2
      rw [hfj] at HOj HCj
      clear hoj hfj
      generalize hmj : mk d k t j = mj at *
      have HMj := hid hmj
      have HSet := hid ((Fr.set (S := S) wr (x := ⟨g, j * 3, none⟩) HSg.out (.int .i64 mj)).trans (Fr.set _ (x := ⟨g, j * 3 + 1, none⟩) HSg.out (.int .i64 (mj + 1))))
      have HG2 := hid (cell_set2_same (x := mj) (y := mj + 1) HCj.out)
      have hG2 := HG2.out.2.2
      have HOw : Hid (Ow ((wr.setCell ⟨g, j * 3, none⟩ (.int .i64 mj)).setCell ⟨g, j * 3 + 1, none⟩ (.int .i64 (mj + 1))) (d - 1) (kid t j) aj lj (Sk j)) :=
        treeOwn.ow_set (treeOwn.ow_set HOj.out (fun h => (HS.out j _ hlt h).2 rfl) _) (fun h => (HS.out j _ hlt h).2 rfl) _
      clear hmj hms
      go_wp2_with fail
      refine (HI.out (kid t j) aj lj cj (mj + 1 + 1) (Sk j) _ HOw.out (by omega) (by have := HMs.out; omega)).mono ?_
      rintro e w2 ⟨rfl, ho2, hf2⟩
      have e1 : mj + 1 + 1 = mj + 2 := by omega
      have e2 : mj + 1 + 1 + 2 * (rowN (d - 1) (kid t j) : Int) = mk d k t (j + 1) := by rw [HMs.out]; omega
      rw [e1] at ho2
      rw [e2]
      have HF2 := hid (HF.out.trans (HSet.out.trans (hf2.sub fun b hb => (HS.out j b hlt hb).1)))
      have HP2 := hid (HP.out.next hlt HS.out HDj.out HMj.out hf2 (by rw [HFj.out]; exact ho2))
      have HZ2 : Hid (∀ x, w2.frozen? ⟨g, x, none⟩ = false) := fun x => by
        rw [hf2.frozen (fun h => (HS.out j g hlt h).2 rfl), World.frozen?_setCell, World.frozen?_setCell]
        exact HFz.out x
      clear ho2 hf2 e1 e2
      go_wp2
      go_roundw
      case rel => exact ⟨j + 1, by omega, by go_num, rfl, HF2.out, HZ2.out, HP2.out⟩
      case measure => simp [intOf]; omega
    · have e : j = l := by omega
      subst e
      have HO := hid (HP.out.done hd HL.out hmost HSg.out HFz.out HS.out HDj.out)
      go_wp2
      go_ret
      exact ⟨rfl, HO.out, HF.out⟩

end Go.Proofs.Ytmhokchnphjpdaa.wordMark
