/- RupFaceS; EndI; RefMem: one text, so that the claim has fewer files. -/
import Derived.Test.YtolejaegnkcjjaaGreatDoorPart40
import Derived.Test.YtolejaegnkcjjaaGreatDoorWithoutI
import Derived.Test.YtolejaegnkcjjaaGreatDoorChkRat
import Derived.Test.YtolejaegnkcjjaaGreatDoorChkSpec
import Derived.Test.YtolejaegnkcjjaaGreatDoorPart19
import Derived.Test.YtolejaegnkcjjaaGreatDoorPart6
import Derived.Test.YtolejaegnkcjjaaGreatDoorRowsOwn
import Derived.Test.YtolejaegnkcjjaaGreatDoorSolBackI
/- Rup of the specification; conditions: lengths that fit. -/
namespace Go.Proofs.YtolejaegnkcjjaaGreatDoor.rupFaceS
open Go.RowKit Go.Deep Go base copy cnf sets setsOf solSets solMath solClose solTrail chkMath rupSpec
set_option linter.unusedVariables false
set_option linter.unusedSimpArgs false

theorem cnf_in {n : Nat} {zss : List (List Int)} (h : cnfB ((n : Int) - 1) zss = true) : LitsIn n zss := fun zs hz z hzz => by
  unfold cnfB at h
  rw [Bool.and_eq_true, List.all_eq_true] at h
  have h2 := h.2 zs hz
  unfold clauseB at h2
  rw [Bool.and_eq_true, List.all_eq_true] at h2
  have h3 := h2.2 z hzz
  unfold litB at h3
  have := of_decide_eq_true h3
  omega
theorem cnf_vars {vars : Int} {zss : List (List Int)} (h : cnfB vars zss = true) : 0 ≤ vars ∧ vars ≤ 40 ∧ zss.length ≤ 300 := by
  unfold cnfB at h
  rw [Bool.and_eq_true, decide_eq_true_eq] at h
  exact h.1
end Go.Proofs.YtolejaegnkcjjaaGreatDoor.rupFaceS

/- The program checks a proof step by step (endOfProof); conditions: a right formula and right steps, the table of math/bits as its initialiser lays it. -/
namespace Go.Proofs.YtolejaegnkcjjaaGreatDoor.endI
open Go.RowKit Go.Deep Go base copy cnf steps sets setsOf solSets solMath solOps solHold solProp solMem solClose solTrail solAddM solAddI solPropI chkNew chkMath chkRup ratMath chkRat chkSem chkSpec withoutI heldStore drawn drawnMk
set_option linter.unusedVariables false
set_option linter.unusedSimpArgs false
set_option pp.deepTerms true
set_option pp.maxSteps 10000000

theorem ls_of_sets {w : World} {a : Option Addr} {len : Nat} {zss : List (List Int)} (h : SetRow w a len zss) : LsRow w a len (zss.map setL) := ⟨by rw [List.length_map]; exact h.length, fun i hi => by
  obtain ⟨b, e, h1, h2⟩ := h.cell i hi
  have hil : i < zss.length := by rw [h.length]; exact hi
  have e2 : (zss.map setL)[i]?.getD (0, 0) = setL (zss[i]?.getD []) := by rw [List.getElem?_map, List.getElem?_eq_getElem hil]; rfl
  rw [e2]
  exact ⟨b, e, h1, h2⟩⟩
/-- A solver whose blocks are all newer than B. -/
structure Own (B M mb : Nat) (F : Nat → Value) (V : Int → Value) (s : Sv) (w : World) : Prop where
  sol : Sol 0 M mb F V s w
  v0 : V 0 = nilV
  m1 : B ≤ M
  m2 : B ≤ mb
  m3 : ∀ a g, blk 0 F V a = some g → B ≤ g
theorem Own.below {B M mb : Nat} {F : Nat → Value} {V : Int → Value} {s : Sv} {w w1 : World} (h : Own B M mb F V s w) (hb : Below w.heap.size w w1) : Own B M mb F V s w1 := ⟨h.sol.below hb, h.v0, h.m1, h.m2, h.m3⟩
theorem Own.chg {B M mb : Nat} {F F' : Nat → Value} {V V' : Int → Value} {s s' : Sv} {w w1 : World} (h : Own B M mb F V s w) (hs : Sol 0 M mb F' V' s' w1) (hv : V' 0 = nilV) (hc : Chg M mb (blk 0 F V) (blk 0 F' V') w w1) (hB : B ≤ w.heap.size) : Own B M mb F' V' s' w1 ∧ Below B w w1 :=
  ⟨⟨hs, hv, h.m1, h.m2, fun a g hg => (hc.news a g hg).elim (h.m3 a g) (fun h1 => Nat.le_trans hB h1)⟩, hc.toBelow hB h.m1 h.m2 h.m3⟩
/-- A block that is none of the solver's. -/
def Far (b M mb : Nat) (F : Nat → Value) (V : Int → Value) : Prop := b ≠ M ∧ b ≠ mb ∧ ∀ a, blk 0 F V a ≠ some b
theorem far_new {M mb : Nat} {F : Nat → Value} {V : Int → Value} {s : Sv} {w : World} (h : Sol 0 M mb F V s w) {b : Nat} (hb : w.heap.size ≤ b) : Far b M mb F V :=
  ⟨by have := h.lt; omega, by have := h.lt; omega, fun a e => by have := h.blt e; omega⟩
theorem far_chg {b M mb : Nat} {F F' : Nat → Value} {V V' : Int → Value} {w w1 : World} (hb : b < w.heap.size) (h : Far b M mb F V) (hc : Chg M mb (blk 0 F V) (blk 0 F' V') w w1) : Far b M mb F' V' ∧ w1.heap[b]? = w.heap[b]? :=
  ⟨⟨h.1, h.2.1, fun a e => (hc.news a b e).elim (h.2.2 a) (fun h1 => by omega)⟩, hc.block b hb h.1 h.2.1 h.2.2⟩
end Go.Proofs.YtolejaegnkcjjaaGreatDoor.endI

/- The refuter of the program in memory: its solver, what is chosen, its steps; what its calls and stores leave; conditions: none. -/
namespace Go.Proofs.YtolejaegnkcjjaaGreatDoor.refMem
open Go.RowKit Go.Deep Go base copy sets setsOf solSets solMath solMem solOps rowsOwn withoutI endI
open readSpecP (Pt pcs OwnSteps Lone strip)
set_option linter.unusedVariables false
set_option linter.unusedSimpArgs false

def rfI (M : Nat) (cv sv : Value) : Nat → Value := fun i => if i = 0 then .pointer (some ⟨M, 0, none⟩) else if i = 1 then cv else sv
/-- The refuter's own blocks. -/
def MineR (R : Nat) (cv sv : Value) (ps : List Pt) (g : Nat) : Prop := g = R ∨ cv.ownBlock = some g ∨ sv.ownBlock = some g ∨ ∃ p ∈ ps, p.2.1.ownBlock = some g
structure Rft (B R M mb : Nat) (F : Nat → Value) (V : Int → Value) (s : Sv) (zs : List Int) (cv sv : Value) (ps : List Pt) (w : World) : Prop where
  sol : Sol 0 M mb F V s w
  v0 : V 0 = nilV
  row : w.rowIs R 72 3 (rfI M cv sv)
  ch : OwnInts B w cv zs
  st : OwnSteps B w sv ps
  lone : Lone ps
  few : ps.length ≤ 200
  far : ∀ g, MineR R cv sv ps g → Far g M mb F V
  sep : ∀ g, cv.ownBlock = some g → ∀ p ∈ ps, p.2.1.ownBlock ≠ some g
  bR : B ≤ R
  bM : B ≤ M
  bm : B ≤ mb
  bb : ∀ a g, blk 0 F V a = some g → B ≤ g
  tb : 1 < B
variable {B R M mb : Nat} {F : Nat → Value} {V : Int → Value} {s : Sv} {zs : List Int} {cv sv : Value} {ps : List Pt} {w w1 : World}
theorem Rft.mine (h : Rft B R M mb F V s zs cv sv ps w) {g : Nat} (hg : MineR R cv sv ps g) : B ≤ g ∧ g < w.heap.size := by
  rcases hg with rfl | hg | hg | ⟨p, hp, hg⟩
  · exact ⟨h.bR, h.row.lt⟩
  · exact World.ownsRow.lt h.ch g hg
  · exact World.ownsRow.lt h.st.outer g hg
  · exact World.ownsRow.lt (h.st.inner p hp) g hg
theorem own_at {B n s : Nat} {t : TypeId} {w w1 : World} {v : Value} {xs : List Value} (h : w.ownsRow B t s v n xs) (hk : ∀ g, v.ownBlock = some g → w1.heap[g]? = w.heap[g]?) : w1.ownsRow B t s v n xs := by
  obtain ⟨h1, h2⟩ := h
  refine ⟨h1, ?_⟩
  rcases h2 with h2 | ⟨g, cap, cur, rfl, hg, hh, hn⟩
  · exact .inl h2
  · exact .inr ⟨g, cap, cur, rfl, hg, by rw [hk g rfl]; exact hh, hn⟩
/-- What a call of the solver leaves. -/
theorem Rft.chg {F' : Nat → Value} {V' : Int → Value} {s' : Sv} (h : Rft B R M mb F V s zs cv sv ps w) (hs : Sol 0 M mb F' V' s' w1) (hv : V' 0 = nilV) (hc : Chg M mb (blk 0 F V) (blk 0 F' V') w w1) (hB : B ≤ w.heap.size) : Rft B R M mb F' V' s' zs cv sv ps w1 ∧ Below B w w1 := by
  have hf : ∀ g, MineR R cv sv ps g → Far g M mb F' V' ∧ w1.heap[g]? = w.heap[g]? := fun g hg => far_chg (h.mine hg).2 (h.far g hg) hc
  exact ⟨⟨hs, hv, h.row.of_block (hf R (.inl rfl)).2, own_at h.ch (fun g hg => (hf g (.inr (.inl hg))).2), ⟨own_at h.st.outer (fun g hg => (hf g (.inr (.inr (.inl hg)))).2), fun p hp => own_at (h.st.inner p hp) (fun g hg => (hf g (.inr (.inr (.inr ⟨p, hp, hg⟩)))).2)⟩, h.lone, h.few, fun g hg => (hf g hg).1, h.sep, h.bR, h.bM, h.bm, fun a g hg => (hc.news a g hg).elim (h.bb a g) (fun h1 => Nat.le_trans hB h1), h.tb⟩, hc.toBelow hB h.bM h.bm h.bb⟩
theorem Rft.below (h : Rft B R M mb F V s zs cv sv ps w) (hb : Below w.heap.size w w1) : Rft B R M mb F V s zs cv sv ps w1 :=
  ⟨h.sol.below hb, h.v0, h.row.of_block (hb.block R h.row.lt), h.ch.below hb, h.st.below hb, h.lone, h.few, h.far, h.sep, h.bR, h.bM, h.bm, h.bb, h.tb⟩
/-- Only the refuter's own rows turn. -/
theorem Rft.turn {zs' : List Int} {cv' sv' : Value} {ps' : List Pt} (h : Rft B R M mb F V s zs cv sv ps w) (hsz : w.heap.size ≤ w1.heap.size) (hk : ∀ j, j < w.heap.size → j ≠ R → cv.ownBlock ≠ some j → sv.ownBlock ≠ some j → w1.heap[j]? = w.heap[j]?)
    (hrow : w1.rowIs R 72 3 (rfI M cv' sv')) (hch : OwnInts B w1 cv' zs') (hst : OwnSteps B w1 sv' ps') (hl : Lone ps') (hfew : ps'.length ≤ 200) (hnew : ∀ g, MineR R cv' sv' ps' g → MineR R cv sv ps g ∨ w.heap.size ≤ g) (hsep : ∀ g, cv'.ownBlock = some g → ∀ p ∈ ps', p.2.1.ownBlock ≠ some g) :
    Rft B R M mb F V s zs' cv' sv' ps' w1 := by
  have hlt := h.sol.lt
  have hM : w1.heap[M]? = w.heap[M]? := hk M hlt.1 (fun e => (h.far R (.inl rfl)).1 e.symm) (fun e => (h.far M (.inr (.inl e))).1 rfl) (fun e => (h.far M (.inr (.inr (.inl e)))).1 rfl)
  have hm : w1.heap[mb]? = w.heap[mb]? := hk mb hlt.2 (fun e => (h.far R (.inl rfl)).2.1 e.symm) (fun e => (h.far mb (.inr (.inl e))).2.1 rfl) (fun e => (h.far mb (.inr (.inr (.inl e)))).2.1 rfl)
  have hb : ∀ a g, blk 0 F V a = some g → w1.heap[g]? = w.heap[g]? := fun a g hg => hk g (h.sol.blt hg) (fun e => (h.far R (.inl rfl)).2.2 a (by rw [← e]; exact hg)) (fun e => (h.far g (.inr (.inl e))).2.2 a hg) (fun e => (h.far g (.inr (.inr (.inl e)))).2.2 a hg)
  have hgl : ∀ g, MineR R cv sv ps g → g ≠ 1 := fun g hg e => by
    have := (h.mine hg).1
    have := h.tb
    omega
  have ht : Tab w1 := fun j hj => by
    have h0 := h.sol.tab j hj
    have hlt0 := World.block_lt_of_cell? _ _ h0
    refine (World.cell?_of_block (hk _ hlt0 (fun e => hgl R (.inl rfl) e.symm) (fun e => hgl _ (.inr (.inl e)) rfl) (fun e => hgl _ (.inr (.inr (.inl e))) rfl))).trans h0
  refine ⟨sol_keep h.sol hM hm hb ht, h.v0, hrow, hch, hst, hl, hfew, fun g hg => ?_, hsep, h.bR, h.bM, h.bm, h.bb, h.tb⟩
  rcases hnew g hg with h1 | h1
  · exact h.far g h1
  · exact far_new h.sol h1
theorem rfI_chosen {cv' : Value} (hr : w.rowIs R 72 3 (rfI M cv sv)) : (w.setCell ⟨R, 1, none⟩ cv').rowIs R 72 3 (rfI M cv' sv) :=
  (World.rowIs.set hr 1 cv').congr fun i hi => by
    match i, hi with
    | 0, _ => rfl
    | 1, _ => rfl
    | 2, _ => rfl
theorem rfI_steps {sv' : Value} (hr : w.rowIs R 72 3 (rfI M cv sv)) : (w.setCell ⟨R, 2, none⟩ sv').rowIs R 72 3 (rfI M cv sv') :=
  (World.rowIs.set hr 2 sv').congr fun i hi => by
    match i, hi with
    | 0, _ => rfl
    | 1, _ => rfl
    | 2, _ => rfl
theorem set_else {a : Addr} {v : Value} {j : Nat} (h : j ≠ a.block) : (w.setCell a v).heap[j]? = w.heap[j]? := Below.heap_setCell _ _ _ _ (by simpa using h)
theorem own_type {B n s : Nat} {t : TypeId} {w : World} {v : Value} {xs : List Value} (h : w.ownsRow B t s v n xs) {g : Nat} (hg : v.ownBlock = some g) : ∃ cs, w.heap[g]? = some (.cells cs t (0, 0)) := by
  rcases h.2 with ⟨e, _⟩ | ⟨g', cap, cur, rfl, _, hh, _⟩
  · rw [e] at hg; cases hg
  · injection hg with hg
    subst hg
    exact ⟨cur, hh⟩
theorem type_ne {t t' : TypeId} {g g' : Nat} (h : ∃ cs, w.heap[g]? = some (.cells cs t (0, 0))) (h' : ∃ cs, w.heap[g']? = some (.cells cs t' (0, 0))) (ht : t ≠ t') : g ≠ g' := fun e => by
  subst e
  obtain ⟨a, h⟩ := h
  obtain ⟨b, h'⟩ := h'
  rw [h] at h'
  injection h' with h'
  injection h' with _ h' _
  exact ht h'
theorem Rft.typeR (h : Rft B R M mb F V s zs cv sv ps w) : ∃ cs, w.heap[R]? = some (.cells cs 72 (0, 0)) := by
  obtain ⟨c, h1, _⟩ := h.row
  exact ⟨c, h1⟩
theorem Rft.cR (h : Rft B R M mb F V s zs cv sv ps w) {g : Nat} (hg : cv.ownBlock = some g) : g ≠ R := type_ne (own_type h.ch hg) h.typeR (by decide)
theorem Rft.sR (h : Rft B R M mb F V s zs cv sv ps w) {g : Nat} (hg : sv.ownBlock = some g) : g ≠ R := type_ne (own_type h.st.outer hg) h.typeR (by decide)
theorem Rft.pR (h : Rft B R M mb F V s zs cv sv ps w) {p : Pt} (hp : p ∈ ps) {g : Nat} (hg : p.2.1.ownBlock = some g) : g ≠ R := type_ne (own_type (h.st.inner p hp) hg) h.typeR (by decide)
theorem Rft.cs (h : Rft B R M mb F V s zs cv sv ps w) {g : Nat} (hg : cv.ownBlock = some g) : sv.ownBlock ≠ some g := fun e => type_ne (own_type h.ch hg) (own_type h.st.outer e) (by decide) rfl
theorem Rft.ps_ (h : Rft B R M mb F V s zs cv sv ps w) {p : Pt} (hp : p ∈ ps) {g : Nat} (hg : p.2.1.ownBlock = some g) : sv.ownBlock ≠ some g := fun e => type_ne (own_type (h.st.inner p hp) hg) (own_type h.st.outer e) (by decide) rfl
/-- One more literal is chosen. -/
theorem Rft.push {l : Int} {cv' : Value} {w2 : World} (h : Rft B R M mb F V s zs cv sv ps w) (hB : B ≤ w.heap.size) (hg : (w.alloc (.cells #[.int .i64 l] 3)).grownBy w2 cv.ownBlock)
    (ho : w2.ownsRow B 3 1 cv' (zs.length + 1) (zs.map (Value.int .i64) ++ [.int .i64 l])) (hat : cv'.ownBlock = cv.ownBlock ∨ cv'.ownBlock = some (w.alloc (.cells #[.int .i64 l] 3)).heap.size) :
    Rft B R M mb F V s (zs ++ [l]) cv' sv ps (w2.setCell ⟨R, 1, none⟩ cv') ∧ Below B w (w2.setCell ⟨R, 1, none⟩ cv') := by
  have hba : Below w.heap.size w (w.alloc (.cells #[.int .i64 l] 3)) := (by repeat (first | exact Below.refl _ _ | assumption | refine Below.drew ?_ | refine Below.alloc ?_ (by first | exact Nat.le_refl _ | omega | (simp; done) | (simp; omega)) _ | refine Below.setCell ?_ (by first | exact Nat.le_refl _ | omega | (simp; done) | (simp; omega)) _))
  have hsz := hg.size
  have hszw : w.heap.size ≤ w2.heap.size := Nat.le_trans hba.size hsz
  have hk2 : ∀ j, j < w.heap.size → cv.ownBlock ≠ some j → w2.heap[j]? = w.heap[j]? := fun j hj hc => (hg.block j (Nat.lt_of_lt_of_le hj hba.size) (fun e => hc e.symm)).trans (hba.block j hj)
  have hcR : ∀ g, cv'.ownBlock = some g → g ≠ R := fun g hg' e => by
    rcases hat with e1 | e1
    · rw [e1] at hg'; exact h.cR hg' e
    · rw [e1] at hg'
      injection hg' with hg'
      have := h.row.lt
      have := hba.size
      omega
  have hR2 : w2.heap[R]? = w.heap[R]? := hk2 R h.row.lt (fun e => h.cR e rfl)
  refine ⟨h.turn (by simpa [World.setCell] using hszw) (fun j hj hR hc hs => (set_else hR).trans (hk2 j hj hc)) (rfI_chosen (h.row.of_block hR2)) ?_ ⟨?_, fun p hp => ?_⟩ h.lone h.few (fun g hg' => ?_) (fun g hg' p hp e => ?_), ?_⟩
  · unfold OwnInts
    rw [List.length_append, List.map_append]
    exact own_at ho (fun g hg' => set_else (hcR g hg'))
  · exact own_at h.st.outer (fun g hg' => (set_else (h.sR hg')).trans (hk2 g (World.ownsRow.lt h.st.outer g hg').2 (fun e => h.cs e hg')))
  · exact own_at (h.st.inner p hp) (fun g hg' => (set_else (h.pR hp hg')).trans (hk2 g (World.ownsRow.lt (h.st.inner p hp) g hg').2 (fun e => h.sep g e p hp hg')))
  · rcases hg' with e | hg' | hg'
    · exact .inl (.inl e)
    · rcases hat with e1 | e1
      · rw [e1] at hg'; exact .inl (.inr (.inl hg'))
      · rw [e1] at hg'
        injection hg' with hg'
        exact .inr (by have := hba.size; omega)
    · exact .inl (.inr (.inr hg'))
  · rcases hat with e1 | e1
    · rw [e1] at hg'; exact h.sep g hg' p hp e
    · rw [e1] at hg'
      injection hg' with hg'
      have := (World.ownsRow.lt (h.st.inner p hp) g e).2
      have := hba.size
      omega
  · refine ⟨hg.os.trans hba.os, hg.tape.trans hba.tape, hg.output.trans hba.output, by simpa [World.setCell] using hszw, fun j hj => ?_⟩
    exact (set_else (by have := h.bR; show j ≠ R; omega)).trans (hk2 j (by omega) (fun e => by have := (World.ownsRow.lt h.ch j e).1; omega))
/-- What was chosen last is taken back. -/
theorem Rft.cut {k n c : Nat} {a : Option Addr} (h : Rft B R M mb F V s zs (.slice a n c) sv ps w) (hn : zs.length = n) (hk : k ≤ n) (hB : B ≤ w.heap.size) :
    Rft B R M mb F V s (zs.take k) (.slice a k c) sv ps (w.setCell ⟨R, 1, none⟩ (.slice a k c)) ∧ Below B w (w.setCell ⟨R, 1, none⟩ (.slice a k c)) := by
  have hcR : ∀ g, (Value.slice a k c).ownBlock = some g → (Value.slice a n c).ownBlock = some g := fun g e => by
    cases a with
    | none => cases e
    | some a => exact e
  refine ⟨h.turn (by simp [World.setCell]) (fun j hj hR hc hs => set_else hR) (rfI_chosen h.row) ?_ ⟨?_, fun p hp => ?_⟩ h.lone h.few (fun g hg' => ?_) (fun g hg' p hp e => h.sep g (hcR g hg') p hp e), ?_⟩
  · have h1 : w.ownsRow B 3 1 (.slice a n c) n (zs.map (Value.int .i64)) := by have := h.ch; unfold OwnInts at this; rw [hn] at this; exact this
    have h2 := solBackI.own_cut h1 (by simp [hn]) hk
    unfold OwnInts
    rw [List.length_take, hn, Nat.min_eq_left hk, List.map_take]
    rw [Nat.mul_one] at h2
    exact own_at h2 (fun g hg' => set_else (h.cR (hcR g hg')))
  · exact own_at h.st.outer (fun g hg' => set_else (h.sR hg'))
  · exact own_at (h.st.inner p hp) (fun g hg' => set_else (h.pR hp hg'))
  · rcases hg' with e | hg' | hg'
    · exact .inl (.inl e)
    · exact .inl (.inr (.inl (hcR g hg')))
    · exact .inl (.inr (.inr hg'))
  · exact ⟨rfl, rfl, rfl, by simp [World.setCell], fun j hj => set_else (by have := h.bR; show j ≠ R; omega)⟩
/-- One more step. -/
theorem Rft.add {ys : List Int} {yv sv' : Value} {w2 w3 : World} {o : Obj} (h : Rft B R M mb F V s zs cv sv ps w) (hB : B ≤ w.heap.size) (hb : Below w.heap.size w w2) (hy : OwnInts w.heap.size w2 yv ys) (hg : (w2.alloc o).grownBy w3 sv.ownBlock)
    (ho : w3.ownsRow B 50 2 sv' (ps.length + 1) (ps.flatMap pcs ++ [.bool false, yv])) (hat : sv'.ownBlock = sv.ownBlock ∨ sv'.ownBlock = some (w2.alloc o).heap.size) (hfew : ps.length < 200) :
    Rft B R M mb F V s zs cv sv' (ps ++ [(false, yv, ys)]) (w3.setCell ⟨R, 2, none⟩ sv') ∧ Below B w (w3.setCell ⟨R, 2, none⟩ sv') := by
  have hba : Below w.heap.size w (w2.alloc o) := hb.alloc hb.size o
  have hsz := hg.size
  have hszw : w.heap.size ≤ w3.heap.size := Nat.le_trans hba.size hsz
  have hk2 : ∀ j, j < w.heap.size → sv.ownBlock ≠ some j → w3.heap[j]? = w.heap[j]? := fun j hj hc => (hg.block j (Nat.lt_of_lt_of_le hj hba.size) (fun e => hc e.symm)).trans (hba.block j hj)
  have hR2 : w3.heap[R]? = w.heap[R]? := hk2 R h.row.lt (fun e => h.sR e rfl)
  have hyl : ∀ g, yv.ownBlock = some g → w.heap.size ≤ g ∧ g < w2.heap.size := fun g e => World.ownsRow.lt hy g e
  have hy3 : OwnInts w.heap.size w3 yv ys := own_at hy fun g e => by
    have h1 := hyl g e
    refine (hg.block g (by simp; omega) (fun e2 => ?_)).trans (Below.heap_alloc w2 o g (by omega))
    have := (World.ownsRow.lt h.st.outer g e2.symm).2
    omega
  have hsR : ∀ g, sv'.ownBlock = some g → g ≠ R := fun g hg' e => by
    rcases hat with e1 | e1
    · rw [e1] at hg'; exact h.sR hg' e
    · rw [e1] at hg'
      injection hg' with hg'
      have := h.row.lt
      have := hba.size
      omega
  refine ⟨h.turn (by simpa [World.setCell] using hszw) (fun j hj hR hc hs => (set_else hR).trans (hk2 j hj hs)) (rfI_steps (h.row.of_block hR2)) ?_ ⟨?_, fun p hp => ?_⟩ ?_ (by simp; omega) (fun g hg' => ?_) (fun g hg' p hp e => ?_), ?_⟩
  · exact own_at h.ch (fun g hg' => (set_else (h.cR hg')).trans (hk2 g (World.ownsRow.lt h.ch g hg').2 (h.cs hg')))
  · rw [List.length_append, List.flatMap_append]
    exact own_at ho (fun g hg' => set_else (hsR g hg'))
  · rcases List.mem_append.1 hp with hp | hp
    · exact own_at (h.st.inner p hp) (fun g hg' => (set_else (h.pR hp hg')).trans (hk2 g (World.ownsRow.lt (h.st.inner p hp) g hg').2 (h.ps_ hp hg')))
    · rw [List.mem_singleton] at hp
      subst hp
      exact own_at (readSpecP.own_base hy3 hB) (fun g hg' => set_else (by have := hyl g hg'; have := h.row.lt; show g ≠ R; omega))
  · exact readSpecP.lone_add (M := w.heap.size) h.lone (fun q hq g e => (World.ownsRow.lt (h.st.inner q hq) g e).2) (fun g e => (hyl g e).1)
  · rcases hg' with e | hg' | hg' | ⟨p, hp, hg'⟩
    · exact .inl (.inl e)
    · exact .inl (.inr (.inl hg'))
    · rcases hat with e1 | e1
      · rw [e1] at hg'; exact .inl (.inr (.inr (.inl hg')))
      · rw [e1] at hg'
        injection hg' with hg'
        exact .inr (by have := hba.size; omega)
    · rcases List.mem_append.1 hp with hp | hp
      · exact .inl (.inr (.inr (.inr ⟨p, hp, hg'⟩)))
      · rw [List.mem_singleton] at hp
        subst hp
        exact .inr (hyl g hg').1
  · rcases List.mem_append.1 hp with hp | hp
    · exact h.sep g hg' p hp e
    · rw [List.mem_singleton] at hp
      subst hp
      have := (World.ownsRow.lt h.ch g hg').2
      have := (hyl g e).1
      omega
  · refine ⟨hg.os.trans hba.os, hg.tape.trans hba.tape, hg.output.trans hba.output, by simpa [World.setCell] using hszw, fun j hj => ?_⟩
    exact (set_else (by have := h.bR; show j ≠ R; omega)).trans (hk2 j (by omega) (fun e => by have := (World.ownsRow.lt h.st.outer j e).1; omega))
end Go.Proofs.YtolejaegnkcjjaaGreatDoor.refMem
