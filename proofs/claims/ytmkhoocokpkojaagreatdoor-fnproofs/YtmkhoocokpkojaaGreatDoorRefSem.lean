import Derived.Test.YtmkhoocokpkojaaGreatDoorPart6
namespace Go.Proofs.YtmkhoocokpkojaaGreatDoor.refSem
open Go.RowKit Go.Deep base copy runS rowsOwn runL
open readSpecP (Pt pcs OwnSteps strip)
set_option linter.unusedVariables false
def allV (zs : List Int) : Nat → Int := zs.foldl setV (fun _ => 0)
theorem allV_snoc (zs : List Int) (z : Int) : allV (zs ++ [z]) = setV (allV zs) z := by simp [allV]
theorem allV_take {zs : List Int} {k : Nat} (h : k < zs.length) : allV (zs.take (k + 1)) = setV (allV (zs.take k)) (zs[k]?.getD 0) := by
 rw [List.take_succ_eq_append_getElem h, allV_snoc, List.getElem?_eq_getElem h]; rfl
structure FrS (S M : Nat) (w w' : World) : Prop where
 os : w'.os = w.os
 tape : w'.tape = w.tape
 output : w'.output = w.output
 size : w.heap.size ≤ w'.heap.size
 blk : ∀ q, q < w.heap.size → q ≠ M → (S ≤ q → ∀ cs fr, w.heap[q]? ≠ some (.cells cs 79 fr)) → w'.heap[q]? = w.heap[q]?
theorem FrS.trans {S M : Nat} {a b c : World} (h : FrS S M a b) (k : FrS S M b c) : FrS S M a c :=
 ⟨k.os.trans h.os, k.tape.trans h.tape, k.output.trans h.output, Nat.le_trans h.size k.size, fun q hq hM hx => by
  have e := h.blk q hq hM hx
  rw [k.blk q (Nat.lt_of_lt_of_le hq h.size) hM (fun hS cs fr => by rw [e]; exact hx hS cs fr), e]⟩
theorem FrS.below {S M : Nat} {a b : World} (h : Below a.heap.size a b) : FrS S M a b := ⟨h.os, h.tape, h.output, h.size, fun q hq _ _ => h.block q hq⟩
theorem FrS.high {S M : Nat} {a b c : World} (h : FrS S M a b) (k : Below a.heap.size b c) : FrS S M a c :=
 ⟨k.os.trans h.os, k.tape.trans h.tape, k.output.trans h.output, Nat.le_trans h.size k.size, fun q hq hM hx => (k.block q hq).trans (h.blk q hq hM hx)⟩
theorem own_at {B n s : Nat} {t : TypeId} {w w1 : World} {v : Value} {xs : List Value} (h : w.ownsRow B t s v n xs) (hk : ∀ g cs, v.ownBlock = some g → w.heap[g]? = some (.cells cs t (0, 0)) → w1.heap[g]? = w.heap[g]?) : w1.ownsRow B t s v n xs := by
 obtain ⟨h1, h2⟩ := h
 refine ⟨h1, ?_⟩
 rcases h2 with h2 | ⟨g, cap, cur, rfl, hg, hh, hn⟩
 · exact .inl h2
 · exact .inr ⟨g, cap, cur, rfl, hg, by rw [hk g cur rfl hh]; exact hh, hn⟩
theorem own_fr {B S M n s : Nat} {t : TypeId} {w w1 : World} {v : Value} {xs : List Value} (h : w.ownsRow B t s v n xs) (hf : FrS S M w w1) (hM : ∃ cs, w.heap[M]? = some (.cells cs 76 (0, 0))) (ht : t ≠ 76) (ht' : t ≠ 79) : w1.ownsRow B t s v n xs :=
 own_at h fun g cs hg hh => hf.blk g (Array.getElem?_eq_some_iff.1 hh).1 (fun e => by
  subst e
  obtain ⟨cs', hM⟩ := hM
  rw [hh] at hM
  injection hM with hM
  injection hM with _ hM _
  exact ht hM) (fun _ cs' fr e => by
  rw [hh] at e
  injection e with e
  injection e with _ e _
  exact ht' e)
def rfF (vars : Int) (cv sv : Value) (mn : Bool) : Nat → Value := fun i => if i = 0 then .int .i64 vars else if i = 1 then cv else if i = 2 then sv else .bool mn
structure Rf (B S M : Nat) (vars : Int) (cv : Value) (psZ : List (Value × List Int)) (w : World) (sv : Value) (mn : Bool) (ps : List Pt) : Prop where
 row : w.rowIs M 76 4 (rfF vars cv sv mn)
 form : OwnRows B w cv psZ
 steps : OwnSteps S w sv ps
 right : ∀ p ∈ ps, p.1 = false ∧ p.2.2.length ≤ 12 ∧ ∀ z ∈ p.2.2, cnf.litB vars z = true
 few : ps.length ≤ 200
variable {B S M : Nat} {vars : Int} {cv : Value} {psZ : List (Value × List Int)} {w w1 : World} {sv : Value} {mn : Bool} {ps : List Pt}
theorem Rf.type (h : Rf B S M vars cv psZ w sv mn ps) : ∃ cs, w.heap[M]? = some (.cells cs 76 (0, 0)) := by
 obtain ⟨c, hc, _⟩ := h.row
 exact ⟨c, hc⟩
theorem Rf.below (h : Rf B S M vars cv psZ w sv mn ps) (hb : Below w.heap.size w w1) : Rf B S M vars cv psZ w1 sv mn ps :=
 ⟨h.row.of_block (hb.block M h.row.lt), h.form.below hb, h.steps.below hb, h.right, h.few⟩
theorem Rf.lt (h : Rf B S M vars cv psZ w sv mn ps) : M < w.heap.size := h.row.lt
structure Did (B S M : Nat) (vars : Int) (cv : Value) (psZ : List (Value × List Int)) (w : World) (ps : List Pt) (w' : World) (sv' : Value) (mn' : Bool) (ps' : List Pt) : Prop where
 rf : Rf B S M vars cv psZ w' sv' mn' ps'
 fr : FrS S M w w'
 new : ∀ p ∈ ps', p ∈ ps ∨ ∀ g, p.2.1.ownBlock = some g → w.heap.size ≤ g
theorem Did.refl (h : Rf B S M vars cv psZ w sv mn ps) : Did B S M vars cv psZ w ps w sv mn ps := ⟨h, FrS.below (Below.refl _ _), fun p hp => .inl hp⟩
theorem Did.trans {ps' ps'' : List Pt} {w2 : World} {sv' sv'' : Value} {mn' mn'' : Bool} (h : Did B S M vars cv psZ w ps w1 sv' mn' ps') (k : Did B S M vars cv psZ w1 ps' w2 sv'' mn'' ps'') : Did B S M vars cv psZ w ps w2 sv'' mn'' ps'' :=
 ⟨k.rf, h.fr.trans k.fr, fun p hp => by
  rcases k.new p hp with h1 | h1
  · exact h.new p h1
  · exact .inr fun g hg => Nat.le_trans h.fr.size (h1 g hg)⟩
theorem Did.below {ps' : List Pt} {w2 : World} {sv' : Value} {mn' : Bool} (h : Did B S M vars cv psZ w ps w1 sv' mn' ps') (hb : Below w1.heap.size w1 w2) : Did B S M vars cv psZ w ps w2 sv' mn' ps' :=
 ⟨h.rf.below hb, h.fr.trans (FrS.below hb), h.new⟩
theorem Did.after {ps' : List Pt} {w0 : World} {sv' : Value} {mn' : Bool} (hb : Below w0.heap.size w0 w) (h : Did B S M vars cv psZ w ps w1 sv' mn' ps') : Did B S M vars cv psZ w0 ps w1 sv' mn' ps' :=
 ⟨h.rf, (FrS.below hb).trans h.fr, fun p hp => by
  rcases h.new p hp with h1 | h1
  · exact .inl h1
  · exact .inr fun g hg => Nat.le_trans hb.size (h1 g hg)⟩
theorem Did.set {ps' : List Pt} {sv' v : Value} {mn' : Bool} {b k : Nat} (h0 : Rf B S M vars cv psZ w sv mn ps) (h : Did B S M vars cv psZ w ps w1 sv' mn' ps') (hb : w.heap.size ≤ b) (ht : ∃ cs, w1.heap[b]? = some (.cells cs 3 (0, 0))) (hne : ∀ p ∈ ps', p.2.1.ownBlock ≠ some b) : Did B S M vars cv psZ w ps (w1.setCell ⟨b, k, none⟩ v) sv' mn' ps' := by
 obtain ⟨cs0, hb0⟩ := ht
 have oth : ∀ q, q ≠ b → (w1.setCell ⟨b, k, none⟩ v).heap[q]? = w1.heap[q]? := fun q hq => Below.heap_setCell _ _ _ _ hq
 have hMb : M ≠ b := by have := h0.row.lt; omega
 refine ⟨⟨h.rf.row.of_block (oth M hMb), ⟨own_at h.rf.form.outer fun g cs hg hh => oth g fun e => ?_, fun p hp => own_at (h.rf.form.inner p hp) fun g cs hg hh => oth g fun e => ?_⟩, ⟨own_at h.rf.steps.outer fun g cs hg hh => oth g fun e => ?_, fun p hp => own_at (h.rf.steps.inner p hp) fun g cs hg hh => oth g fun e => hne p hp (by rw [← e]; exact hg)⟩, h.rf.right, h.rf.few⟩, ⟨h.fr.os, h.fr.tape, h.fr.output, by simpa [World.setCell] using h.fr.size, fun q hq hM hx => (oth q (by omega)).trans (h.fr.blk q hq hM hx)⟩, h.new⟩
 · subst e
   rw [hb0] at hh
   injection hh with hh
   injection hh with _ hh _
   exact absurd hh (by decide)
 · have := (World.ownsRow.lt (h0.form.inner p hp) g hg).2
   omega
 · subst e
   rw [hb0] at hh
   injection hh with hh
   injection hh with _ hh _
   exact absurd hh (by decide)
theorem steps_form {v : Value} (h : OwnSteps B w v ps) : ∃ a c, v = .slice a ps.length c := by
 rcases h.outer.2 with ⟨e, h0⟩ | ⟨g, cap, cur, e, _⟩
 · exact ⟨none, 0, by rw [e, h0]⟩
 · exact ⟨_, cap, e⟩
theorem news_of {g n c : Nat} {zs : List Int} (h : OwnInts B w (.slice (some ⟨g, 0, none⟩) n c) zs) : ∀ i u, (zs.map (Value.int .i64))[i]? = some u → w.cell? ((⟨g, 0, none⟩ : Addr).add i) = some u := fun i u hu => by
 obtain ⟨hl, hc⟩ := own_holds h
 rw [List.getElem?_map] at hu
 cases hz : zs[i]? with
 | none => rw [hz] at hu; cases hu
 | some z =>
  rw [hz] at hu
  have hi : i < n := by
   have := (List.getElem?_eq_some_iff.1 hz).1
   omega
  have h9 := (hc i hi).1
  rw [hz] at h9
  have e : (⟨g, 0, none⟩ : Addr).add i = ⟨g, 0 + i, none⟩ := by unfold Addr.add; split <;> simp_all
  rw [e, h9]
  injection hu with hu
  rw [← hu]; rfl
theorem Did.flag {ps' : List Pt} {sv' : Value} {mn' : Bool} (h : Did B S M vars cv psZ w ps w1 sv' mn' ps') (b : Bool) : Did B S M vars cv psZ w ps (w1.setCell ⟨M, 3, none⟩ (.bool b)) sv' b ps' := by
 have oth : ∀ q, q ≠ M → (w1.setCell ⟨M, 3, none⟩ (.bool b)).heap[q]? = w1.heap[q]? := fun q hq => Below.heap_setCell _ _ _ _ hq
 obtain ⟨csM, hM0⟩ := h.rf.type
 refine ⟨⟨(h.rf.row.set 3 _).congr (fun i hi => ?_), ⟨own_at h.rf.form.outer fun g cs hg hh => oth g fun e => ?_, fun p hp => own_at (h.rf.form.inner p hp) fun g cs hg hh => oth g fun e => ?_⟩, ⟨own_at h.rf.steps.outer fun g cs hg hh => oth g fun e => ?_, fun p hp => own_at (h.rf.steps.inner p hp) fun g cs hg hh => oth g fun e => ?_⟩, h.rf.right, h.rf.few⟩, ⟨h.fr.os, h.fr.tape, h.fr.output, by simpa [World.setCell] using h.fr.size, fun q hq hM hx => (oth q hM).trans (h.fr.blk q hq hM hx)⟩, h.new⟩
 · unfold rfF
   rcases (show i = 0 ∨ i = 1 ∨ i = 2 ∨ i = 3 by omega) with rfl | rfl | rfl | rfl <;> simp
 all_goals
  subst e
  rw [hM0] at hh
  injection hh with hh
  injection hh with _ hh _
  exact absurd hh (by decide)
theorem Did.step {ps' : List Pt} {sv' sv2 cvv : Value} {mn' : Bool} {zs : List Int} {w2 w3 : World} (h : Did B S M vars cv psZ w ps w1 sv' mn' ps') (hb : Below w1.heap.size w1 w2) (hB : S ≤ w1.heap.size) (hc : OwnInts w1.heap.size w2 cvv zs) (ho : w3.ownsRow S 79 2 sv2 (ps'.length + 1) (ps'.flatMap pcs ++ [.bool false, cvv])) (hg : w2.grownBy w3 sv'.ownBlock)
  (hr : zs.length ≤ 12 ∧ ∀ z ∈ zs, cnf.litB vars z = true) (hl : ps'.length < 200) : Did B S M vars cv psZ w ps (w3.setCell ⟨M, 2, none⟩ sv2) sv2 mn' (ps' ++ [(false, cvv, zs)]) := by
 have h2 := h.below hb
 have hst := readSpecP.steps_add (p := (false, cvv, zs)) h2.rf.steps (readSpecP.own_base hc hB) ho hg
 have hsv : ∀ g, sv'.ownBlock = some g → ∃ cs, w2.heap[g]? = some (.cells cs 79 (0, 0)) := fun g e => by
  rcases h2.rf.steps.outer.2 with ⟨e1, _⟩ | ⟨g', cap, cur, e1, _, hh, _⟩
  · rw [e1] at e; cases e
  · rw [e1] at e
    have e' : some g' = some g := e
    injection e' with e'
    subst e'
    exact ⟨cur, hh⟩
 obtain ⟨csM, hM2⟩ := h2.rf.type
 have hMlt := h2.rf.row.lt
 have hM3 : w3.heap[M]? = w2.heap[M]? := hg.block M hMlt fun e => by
  obtain ⟨cs, hh⟩ := hsv M e.symm
  rw [hM2] at hh
  injection hh with hh
  injection hh with _ hh _
  exact absurd hh (by decide)
 have oth : ∀ q, q ≠ M → (w3.setCell ⟨M, 2, none⟩ sv2).heap[q]? = w3.heap[q]? := fun q hq => Below.heap_setCell _ _ _ _ hq
 have hfar : ∀ (t : TypeId) (g : Nat) (cs : Array Value), t ≠ 79 → w2.heap[g]? = some (.cells cs t (0, 0)) → w3.heap[g]? = w2.heap[g]? := fun t g cs ht hh => hg.block g (Array.getElem?_eq_some_iff.1 hh).1 fun e => by
  obtain ⟨cs', hh'⟩ := hsv g e.symm
  rw [hh] at hh'
  injection hh' with hh'
  injection hh' with _ hh' _
  exact ht hh'
 have notM : ∀ (t : TypeId) (g : Nat) (cs : Array Value), t ≠ 76 → w3.heap[g]? = some (.cells cs t (0, 0)) → g ≠ M := fun t g cs ht hh e => by
  subst e
  rw [hM3, hM2] at hh
  injection hh with hh
  injection hh with _ hh _
  exact ht hh.symm
 have hrow3 := (h2.rf.row).of_block hM3
 refine ⟨⟨(hrow3.set 2 _).congr (fun i hi => ?_), ⟨own_at h2.rf.form.outer fun g cs hg' hh => ?_, fun p hp => own_at (h2.rf.form.inner p hp) fun g cs hg' hh => ?_⟩, ⟨own_at hst.outer fun g cs hg' hh => oth g (notM 79 g cs (by decide) hh), fun p hp => own_at (hst.inner p hp) fun g cs hg' hh => oth g (notM 3 g cs (by decide) hh)⟩, fun p hp => ?_, by simp; omega⟩, ?_, fun p hp => ?_⟩
 · unfold rfF
   rcases (show i = 0 ∨ i = 1 ∨ i = 2 ∨ i = 3 by omega) with rfl | rfl | rfl | rfl <;> simp
 · have e := hfar 52 g cs (by decide) hh
   rw [oth g (notM 52 g cs (by decide) (by rw [e]; exact hh)), e]
 · have e := hfar 3 g cs (by decide) hh
   rw [oth g (notM 3 g cs (by decide) (by rw [e]; exact hh)), e]
 · rcases List.mem_append.1 hp with hp | hp
   · exact h.rf.right p hp
   · rw [List.mem_singleton] at hp
     subst hp
     exact ⟨rfl, hr⟩
 · refine h2.fr.trans ⟨hg.os, hg.tape, hg.output, by simpa [World.setCell] using hg.size, fun q hq hM hx => (oth q hM).trans (hg.block q hq fun e => ?_)⟩
   obtain ⟨cs, hh⟩ := hsv q e.symm
   exact hx (World.ownsRow.lt h2.rf.steps.outer q e.symm).1 cs _ hh
 · rcases List.mem_append.1 hp with hp | hp
   · exact h.new p hp
   · rw [List.mem_singleton] at hp
     subst hp
     exact .inr fun g hgv => Nat.le_trans h.fr.size (World.ownsRow.lt hc g hgv).1
end Go.Proofs.YtmkhoocokpkojaaGreatDoor.refSem
