/- Marks that the laws set into a tree of expressions which is owned, and whether they are held; conditions: numbers that fit. -/
import Derived.Test.YtnaodjnmoicekaaTreeOwn
namespace Go.Proofs.Ytnaodjnmoicekaa.treeMark
open Go.RowKit Go.Deep base trees ownTree treeOwn
set_option linter.unusedVariables false

/-- A row of trees whose kinds and numbers count on from k. -/
def markT : Nat → Int → T → T
  | 0, _, t => t
  | d + 1, k, t => mkT (kd t) (nn t) (ln t) fun i => mkT (k + 2 * (sumTo (fun i => size d (kid t i)) i : Nat)) (k + 2 * (sumTo (fun i => size d (kid t i)) i : Nat) + 1) (ln (kid t i)) (kid (markT d (k + 2 * (sumTo (fun i => size d (kid t i)) i : Nat) + 2) (kid t i)))
theorem ln_markT (d : Nat) (k : Int) (t : T) : ln (markT d k t) = ln t := by cases d <;> rfl
/-- The mark of number i. -/
def mk (d : Nat) (k : Int) (t : T) (i : Nat) : Int := k + 2 * (sumTo (fun i => size (d - 1) (kid t i)) i : Nat)
theorem kd_mark {d : Nat} (hd : 0 < d) (k : Int) (t : T) (i : Nat) : kd (kid (markT d k t) i) = mk d k t i := by
  cases d with
  | zero => omega
  | succ d => rfl
theorem nn_mark {d : Nat} (hd : 0 < d) (k : Int) (t : T) (i : Nat) : nn (kid (markT d k t) i) = mk d k t i + 1 := by
  cases d with
  | zero => omega
  | succ d => rfl
theorem ln_mark {d : Nat} (hd : 0 < d) (k : Int) (t : T) (i : Nat) : ln (kid (markT d k t) i) = ln (kid t i) := by
  cases d with
  | zero => omega
  | succ d => rfl
theorem kid_mark {d : Nat} (hd : 0 < d) (k : Int) (t : T) (i j : Nat) : kid (kid (markT d k t) i) j = kid (markT (d - 1) (mk d k t i + 2) (kid t i)) j := by
  cases d with
  | zero => omega
  | succ d => rfl
theorem Rd_root {q : Nat → Prop} {M d : Nat} {w : World} {t t' : T} {a : Option Addr} {l : Nat} (h : Rd q M w d t a l) (hl : ln t' = ln t) (hk : ∀ i, i < ln t → kid t' i = kid t i) : Rd q M w d t' a l := by
  cases d with
  | zero => exact ⟨hl.trans h.1, h.2⟩
  | succ d =>
    refine ⟨hl.trans h.1, h.2.1, fun i hi => ?_⟩
    rw [hk i (by rw [h.1]; exact hi)]
    exact h.2.2 i hi

/-- Only blocks of S may have changed. -/
structure Fr (S : Nat → Prop) (w w' : World) : Prop where
  os : w'.os = w.os
  tape : w'.tape = w.tape
  output : w'.output = w.output
  size : w'.heap.size = w.heap.size
  block : ∀ b, ¬ S b → w'.heap[b]? = w.heap[b]?
theorem Fr.refl (S : Nat → Prop) (w : World) : Fr S w w := ⟨rfl, rfl, rfl, rfl, fun _ _ => rfl⟩
theorem Fr.trans {S : Nat → Prop} {x y z : World} (h : Fr S x y) (k : Fr S y z) : Fr S x z := ⟨k.os.trans h.os, k.tape.trans h.tape, k.output.trans h.output, k.size.trans h.size, fun b hb => (k.block b hb).trans (h.block b hb)⟩
theorem Fr.sub {S S' : Nat → Prop} {w w' : World} (h : Fr S w w') (hs : ∀ b, S b → S' b) : Fr S' w w' := ⟨h.os, h.tape, h.output, h.size, fun b hb => h.block b fun h' => hb (hs b h')⟩
theorem Fr.set {S : Nat → Prop} (w : World) {x : Addr} (hx : S x.block) (v : Value) : Fr S w (w.setCell x v) := ⟨rfl, rfl, rfl, by simp [World.setCell], fun b hb => Below.heap_setCell _ _ _ _ (fun e => hb (e ▸ hx))⟩
theorem Fr.below {S : Nat → Prop} {w w' : World} {N : Nat} (h : Fr S w w') (hS : ∀ b, S b → N ≤ b) : Below N w w' := ⟨h.os, h.tape, h.output, Nat.le_of_eq h.size.symm, fun i hi => h.block i fun h' => by have := hS i h'; omega⟩
theorem Fr.cell {S : Nat → Prop} {w w' : World} (h : Fr S w w') {b o : Nat} (hb : ¬ S b) : w'.cell? ⟨b, o, none⟩ = w.cell? ⟨b, o, none⟩ := World.cell?_of_block (a := ⟨b, o, none⟩) (h.block b hb)
theorem Fr.frozen {S : Nat → Prop} {w w' : World} (h : Fr S w w') {b o : Nat} (hb : ¬ S b) : w'.frozen? ⟨b, o, none⟩ = w.frozen? ⟨b, o, none⟩ := World.frozen?_of_block (a := ⟨b, o, none⟩) (h.block b hb)

theorem mk_succ (d : Nat) (k : Int) (t : T) (j : Nat) : mk d k t (j + 1) = mk d k t j + 2 * (size (d - 1) (kid t j) : Int) := by
  unfold mk; rw [sumTo_succ]; push_cast; omega
theorem mk_zero (d : Nat) (k : Int) (t : T) : mk d k t 0 = k := by simp [mk, sumTo]
theorem mk_le {d : Nat} {k : Int} {t : T} {i j : Nat} (h : i ≤ j) : mk d k t i ≤ mk d k t j := by
  unfold mk
  have := sumTo_le (f := fun i => size (d - 1) (kid t i)) h
  omega
theorem mk_ge (d : Nat) (k : Int) (t : T) (i : Nat) : k ≤ mk d k t i := by unfold mk; omega
theorem mk_end (d : Nat) (k : Int) (t : T) : mk d k t (ln t) = k + 2 * (rowN d t : Int) := rfl

/-- The rows of a row, of which the first j are marked. -/
def Part (w : World) (g l d j : Nat) (k : Int) (t : T) (f : Nat → Option Addr × Nat × Nat) (Sk : Nat → Nat → Prop) : Prop :=
  (∀ i, i < j → CellE w g i (mk d k t i) (mk d k t i + 1) (f i) ∧ Ow w (d - 1) (markT (d - 1) (mk d k t i + 2) (kid t i)) (f i).1 (f i).2.1 (Sk i)) ∧
  ∀ i, j ≤ i → i < l → CellE w g i (kd (kid t i)) (nn (kid t i)) (f i) ∧ Ow w (d - 1) (kid t i) (f i).1 (f i).2.1 (Sk i)
theorem cell_set2 {w : World} {g i j : Nat} {k n x y : Int} {f : Option Addr × Nat × Nat} (h : CellE w g i k n f) (hij : i ≠ j) : CellE ((w.setCell ⟨g, j * 3, none⟩ (.int .i64 x)).setCell ⟨g, j * 3 + 1, none⟩ (.int .i64 y)) g i k n f := by
  obtain ⟨h0, h1, h2⟩ := h
  refine ⟨?_, ?_, ?_⟩
  all_goals
    rw [World.cell?_setCell_other _ _ _ _ (by intro e; injection e; omega), World.cell?_setCell_other _ _ _ _ (by intro e; injection e; omega)]
    assumption
theorem cell_set2_same {w : World} {g j : Nat} {k n x y : Int} {f : Option Addr × Nat × Nat} (h : CellE w g j k n f) : CellE ((w.setCell ⟨g, j * 3, none⟩ (.int .i64 x)).setCell ⟨g, j * 3 + 1, none⟩ (.int .i64 y)) g j x y f := by
  obtain ⟨h0, h1, h2⟩ := h
  refine ⟨?_, ?_, ?_⟩
  · rw [World.cell?_setCell_other _ _ _ _ (by intro e; injection e; omega)]
    exact World.cell?_setCell_same _ _ _ h0
  · have h1' : (w.setCell ⟨g, j * 3, none⟩ (.int .i64 x)).cell? ⟨g, j * 3 + 1, none⟩ = some (.int .i64 n) := by
      rw [World.cell?_setCell_other _ _ _ _ (by intro e; injection e; omega)]
      exact h1
    exact World.cell?_setCell_same _ _ _ h1'
  · rw [World.cell?_setCell_other _ _ _ _ (by intro e; injection e; omega), World.cell?_setCell_other _ _ _ _ (by intro e; injection e; omega)]
    exact h2
theorem cell_fr {S : Nat → Prop} {w w' : World} {g i : Nat} {k n : Int} {f : Option Addr × Nat × Nat} (h : CellE w g i k n f) (hf : Fr S w w') (hg : ¬ S g) : CellE w' g i k n f := by
  obtain ⟨h0, h1, h2⟩ := h
  exact ⟨(hf.cell hg).trans h0, (hf.cell hg).trans h1, (hf.cell hg).trans h2⟩

theorem Part.next {wr w2 : World} {g l d j : Nat} {k mj : Int} {t : T} {f : Nat → Option Addr × Nat × Nat} {S : Nat → Prop} {Sk : Nat → Nat → Prop} (hp : Part wr g l d j k t f Sk) (hj : j < l) (hS : ∀ i b, i < l → Sk i b → S b ∧ b ≠ g) (hdj : ∀ i j b, i < l → j < l → Sk i b → Sk j b → i = j) (hm : mk d k t j = mj)
    (hf : Fr (Sk j) ((wr.setCell ⟨g, j * 3, none⟩ (.int .i64 mj)).setCell ⟨g, j * 3 + 1, none⟩ (.int .i64 (mj + 1))) w2) (ho : Ow w2 (d - 1) (markT (d - 1) (mj + 2) (kid t j)) (f j).1 (f j).2.1 (Sk j)) : Part w2 g l d (j + 1) k t f Sk := by
  have hg : ¬ Sk j g := fun h => (hS j g hj h).2 rfl
  have hkeep : ∀ i, i < l → i ≠ j → ∀ b, Sk i b → w2.heap[b]? = wr.heap[b]? := fun i hi hij b hb => by
    have hbg : b ≠ g := (hS i b hi hb).2
    rw [hf.block b (fun h => hij (hdj i j b hi hj hb h)), Below.heap_setCell _ _ _ _ hbg, Below.heap_setCell _ _ _ _ hbg]
  refine ⟨fun i hi => ?_, fun i hi hi' => ?_⟩
  · by_cases e : i = j
    · subst e
      rw [hm]
      exact ⟨cell_fr (cell_set2_same (hp.2 i (Nat.le_refl _) hj).1) hf hg, ho⟩
    · obtain ⟨h1, h2⟩ := hp.1 i (by omega)
      exact ⟨cell_fr (cell_set2 h1 e) hf hg, h2.kept fun b hb _ => hkeep i (by omega) e b hb⟩
  · obtain ⟨h1, h2⟩ := hp.2 i (by omega) hi'
    exact ⟨cell_fr (cell_set2 h1 (by omega)) hf hg, h2.kept fun b hb _ => hkeep i hi' (by omega) b hb⟩
theorem Part.done {w : World} {g l d : Nat} {k : Int} {t : T} {f : Nat → Option Addr × Nat × Nat} {S : Nat → Prop} {Sk : Nat → Nat → Prop} (hp : Part w g l d l k t f Sk) (hd : 0 < d) (hl : ln t = l) (hm : l ≤ 1048576) (hSg : S g) (hfr : ∀ x, w.frozen? ⟨g, x, none⟩ = false) (hS : ∀ i b, i < l → Sk i b → S b ∧ b ≠ g) (hdj : ∀ i j b, i < l → j < l → Sk i b → Sk j b → i = j) : Ow w d (markT d k t) (some ⟨g, 0, none⟩) l S := by
  cases d with
  | zero => omega
  | succ d =>
    refine ⟨(ln_markT _ _ _).trans hl, hm, fun _ => ⟨g, f, Sk, rfl, hSg, hfr, hS, hdj, fun i hi => ?_⟩⟩
    obtain ⟨h1, h2⟩ := hp.1 i hi
    exact ⟨h1, h2.root (t' := kid (markT (d + 1) k t) i) ((ln_mark (Nat.succ_pos d) k t i).trans (ln_markT _ _ _).symm) fun j _ => kid_mark (Nat.succ_pos d) k t i j⟩

def MarkS (d : Nat) : Prop := ∀ (t : T) (a : Option Addr) (l c : Nat) (k : Int) (S : Nat → Prop) (w : World), Ow w d t a l S → 0 ≤ k → k + 2 * (rowN d t : Int) ≤ 4611686018427387904 →
    Calls Try.prog 47 #[.slice a l c, .int .i64 k] w fun e w' => e = .returned (.int .i64 (k + 2 * (rowN d t : Int))) ∧ Ow w' d (markT d k t) a l S ∧ Fr S w w'

set_option maxHeartbeats 1600000 in
theorem markS (d : Nat) : MarkS d := by
  induction d using Nat.strongRecOn with
  | _ d ih =>
  intro t a l c k S w ho hk0 hk1
  have hmost := ho.most
  have HL := hid ho.len
  by_cases hl0 : l = 0
  · subst hl0
    have hr : rowN d t = 0 := by unfold rowN; rw [HL.out]; rfl
    have HO : Hid (Ow w d (markT d k t) a 0 S) := Ow.none _ _ ((ln_markT _ _ _).trans HL.out) _ _
    rw [hr]
    clear ho ih
    go_enter Try.func47, Try.ntmps47
    go_wp2
    go_loopw [5, 1] (fun i v wr => i = .int .i64 0 ∧ v = .int .i64 k ∧ wr = w) (fun i _ _ => 0)
    case atStart => exact ⟨rfl, rfl, rfl⟩
    case round =>
      obtain ⟨rfl, rfl, rfl⟩ := hrel
      go_wp2
      go_ret
      exact ⟨by simp, HO.out, Fr.refl _ _⟩
  obtain ⟨hd, g, f, Sk, rfl, hSg, hfr, hS, hdj, hc⟩ := ho.row (by omega)
  have HI := hid (ih (d - 1) (by omega))
  have HS := hid hS
  have HDj := hid hdj
  have HSg := hid hSg
  have HC := hid hc
  have HFr := hid hfr
  have HZ := hid (fun i (hi : i < l) => size_rowN (hc i hi).2.zero)
  have HE := hid (mk_end d k t)
  rw [HL.out] at HE
  have hE := HE.out
  clear ho ih hS hdj hSg hc hfr
  rw [← hE] at hk1 ⊢
  clear hE
  go_enter Try.func47, Try.ntmps47
  go_wp2
  go_loopw [5, 1] (fun i v wr => ∃ j : Nat, j ≤ l ∧ i = .int .i64 j ∧ v = .int .i64 (mk d k t j) ∧ Fr S w wr ∧ (∀ x, wr.frozen? ⟨g, x, none⟩ = false) ∧ Part wr g l d j k t f Sk) (fun i _ _ => l - (intOf i).toNat)
  case atStart => exact ⟨0, Nat.zero_le _, rfl, by rw [mk_zero], Fr.refl _ _, HFr.out, fun i hi => absurd hi (Nat.not_lt_zero _), fun i _ hi => HC.out i hi⟩
  case round =>
    obtain ⟨j, hj, rfl, rfl, hf, hfz, hp⟩ := hrel
    have HF := hid hf
    have HP := hid hp
    have HFz := hid hfz
    have hm0 := mk_ge d k t j
    have hm1 : mk d k t j ≤ mk d k t l := mk_le hj
    clear hf hp hfz
    by_cases hlt : j < l
    · obtain ⟨⟨c0, c1, c2⟩, hoj⟩ := HP.out.2 j (Nat.le_refl _) hlt
      have HOj := hid hoj
      have z0 := HFz.out (j * 3)
      have z1 := HFz.out (j * 3 + 1)
      have hms : mk d k t (j + 1) = mk d k t j + 2 * (size (d - 1) (kid t j) : Int) := mk_succ _ _ _ _
      have hm2 : mk d k t (j + 1) ≤ mk d k t l := mk_le (by omega)
      have hsz := HZ.out j hlt
      have HMs := hid hms
      have HCj : Hid (CellE wr g j (kd (kid t j)) (nn (kid t j)) (f j)) := ⟨c0, c1, c2⟩
      obtain ⟨⟨aj, lj, cj⟩, hfj⟩ : ∃ fj, f j = fj := ⟨_, rfl⟩
      have HFj := hid hfj
      rw [hfj] at c2
      rw [hfj] at HOj HCj
      clear hoj hfj
      generalize hmj : mk d k t j = mj at *
      have HMj := hid hmj
      have HSet := hid ((Fr.set (S := S) wr (x := ⟨g, j * 3, none⟩) HSg.out (.int .i64 mj)).trans (Fr.set _ (x := ⟨g, j * 3 + 1, none⟩) HSg.out (.int .i64 (mj + 1))))
      have HG2 := hid (cell_set2_same (x := mj) (y := mj + 1) HCj.out)
      have hG2 := HG2.out.2.2
      have HOw : Hid (Ow ((wr.setCell ⟨g, j * 3, none⟩ (.int .i64 mj)).setCell ⟨g, j * 3 + 1, none⟩ (.int .i64 (mj + 1))) (d - 1) (kid t j) aj lj (Sk j)) :=
        ow_set (ow_set HOj.out (fun h => (HS.out j _ hlt h).2 rfl) _) (fun h => (HS.out j _ hlt h).2 rfl) _
      clear hmj hms
      go_wp2_with fail
      refine (HI.out (kid t j) aj lj cj (mj + 1 + 1) (Sk j) _ HOw.out (by omega) (by have := HMs.out; omega)).mono ?_
      rintro e w2 ⟨rfl, ho2, hf2⟩
      have e1 : mj + 1 + 1 = mj + 2 := by omega
      have e2 : mj + 1 + 1 + 2 * (rowN (d - 1) (kid t j) : Int) = mk d k t (j + 1) := by rw [HMs.out]; omega
      rw [e1] at ho2
      rw [e2]
      have HF2 := hid (HF.out.trans (HSet.out.trans (hf2.sub fun b hb => (HS.out j b hlt hb).1)))
      have HP2 := hid (HP.out.next hlt HS.out HDj.out HMj.out hf2 (by rw [HFj.out]; exact ho2))
      have HZ2 : Hid (∀ x, w2.frozen? ⟨g, x, none⟩ = false) := fun x => by
        rw [hf2.frozen (fun h => (HS.out j g hlt h).2 rfl), World.frozen?_setCell, World.frozen?_setCell]
        exact HFz.out x
      clear ho2 hf2 e1 e2
      go_wp2
      go_roundw
      case rel => exact ⟨j + 1, by omega, by go_num, rfl, HF2.out, HZ2.out, HP2.out⟩
      case measure => simp [intOf]; omega
    · have e : j = l := by omega
      subst e
      have HO := hid (HP.out.done hd HL.out hmost HSg.out HFz.out HS.out HDj.out)
      go_wp2
      go_ret
      exact ⟨rfl, HO.out, HF.out⟩

set_option maxHeartbeats 1600000 in
theorem heldS (d : Nat) : ∀ (t : T) (a : Option Addr) (l c : Nat) (k : Int) (w : World), Rd (fun _ => True) 1048576 w d (markT d k t) a l → 0 ≤ k → k + 2 * (rowN d t : Int) ≤ 4611686018427387904 →
    Calls Try.prog 48 #[.slice a l c, .int .i64 k] w fun e w' => e = .returned (.int .i64 (k + 2 * (rowN d t : Int))) ∧ Below w.heap.size w w' := by
  induction d using Nat.strongRecOn with
  | _ d ih =>
  intro t a l c k w hr hk0 hk1
  have hmost := hr.most
  have HL : Hid (ln t = l) := (ln_markT _ _ _).symm.trans hr.len
  have HR := hid hr
  have HI := hid ih
  have HE := hid (mk_end d k t)
  rw [HL.out] at HE
  have hE := HE.out
  clear hr ih
  rw [← hE] at hk1 ⊢
  clear hE
  go_enter Try.func48, Try.ntmps48
  go_wp2
  go_loopw [5, 1] (fun i v wr => ∃ j : Nat, j ≤ l ∧ i = .int .i64 j ∧ v = .int .i64 (mk d k t j) ∧ Below w.heap.size w wr) (fun i _ _ => l - (intOf i).toNat)
  case atStart => exact ⟨0, Nat.zero_le _, rfl, by rw [mk_zero], Below.refl _ _⟩
  case round =>
    obtain ⟨j, hj, rfl, rfl, hb⟩ := hrel
    have HB := hid hb
    have hm0 := mk_ge d k t j
    have hm1 : mk d k t j ≤ mk d k t l := mk_le hj
    clear hb
    by_cases hlt : j < l
    · obtain ⟨hd0, b, off, rfl, -, hc0, hc1, a', l', c', hc2, hrow⟩ := HR.out.cell hlt
      rw [kd_mark hd0] at hc0
      rw [nn_mark hd0] at hc1
      replace hc0 := keep HB.out hc0
      replace hc1 := keep HB.out hc1
      replace hc2 := keep HB.out hc2
      have hln : ln (kid t j) = l' := (ln_mark hd0 k t j).symm.trans hrow.len
      have hz : d - 1 = 0 → ln (kid t j) = 0 := fun e => (ln_mark hd0 k t j).symm.trans (hrow.zero e)
      have hsz := size_rowN hz
      have HX := hid ((Rd_root hrow (t' := markT (d - 1) (mk d k t j + 2) (kid t j)) ((ln_markT _ _ _).trans (ln_mark hd0 k t j).symm) (fun i _ => (kid_mark hd0 k t j i).symm)).below HB.out)
      have hms : mk d k t (j + 1) = mk d k t j + 2 * (size (d - 1) (kid t j) : Int) := mk_succ _ _ _ _
      have hm2 : mk d k t (j + 1) ≤ mk d k t l := mk_le (by omega)
      have HMs := hid hms
      have HIE := hid (HI.out (d - 1) (by omega))
      clear hrow hln hz
      generalize hmj : mk d k t j = mj at *
      have q0 : (mj != mj) = false := by simp
      have q1 : (mj + 1 != mj + 1) = false := by simp
      clear hmj hms
      go_wp2_with fail
      refine (HIE.out (kid t j) a' l' c' (mj + 1 + 1) _ ?_ (by omega) (by have := HMs.out; omega)).mono ?_
      · rw [show mj + 1 + 1 = mj + 2 by omega]; exact HX.out
      rintro e w2 ⟨rfl, hb2⟩
      have e2 : mj + 1 + 1 + 2 * (rowN (d - 1) (kid t j) : Int) = mk d k t (j + 1) := by rw [HMs.out]; omega
      have hp : ¬ mk d k t (j + 1) < 0 := by omega
      rw [e2]
      have HB2 := hid (HB.out.trans (hb2.mono HB.out.size))
      clear hb2 e2
      generalize hmn : mk d k t (j + 1) = mn at *
      have HMn := hid hmn
      clear hmn
      go_wp2
      go_roundw
      case rel => exact ⟨j + 1, by omega, by go_num, by rw [HMn.out], HB2.out⟩
      case measure => simp [intOf]; omega
    · have e : j = l := by omega
      subst e
      go_wp2
      go_ret
      exact ⟨rfl, HB.out⟩
end Go.Proofs.Ytnaodjnmoicekaa.treeMark
