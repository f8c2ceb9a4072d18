import Derived.Test.YtmkhoocokpkojaaGreatDoorPart36
import Derived.Test.YtmkhoocokpkojaaGreatDoorEndI
import Derived.Test.YtmkhoocokpkojaaGreatDoorPart44
import Derived.BigQuiet
import Derived.Test.YtmkhoocokpkojaaGreatDoorPart6
import Derived.Test.YtmkhoocokpkojaaGreatDoorPart1
import Derived.Test.YtmkhoocokpkojaaGreatDoorSolBackI
namespace Go.Proofs.YtmkhoocokpkojaaGreatDoor.chkFaceI
open Go.RowKit Go.Deep Go base copy cnf steps sets setsOf solSets solOps solMath solMem chkNew chkMath chkSem chkSpec stepsAre withoutI endI rupFaceS chkFaceS faultI
set_option linter.unusedVariables false
set_option linter.unusedSimpArgs false
def Ended (p c : Int) (e : Ending) : Prop := (c = 0 ∧ e = .returned (.int .i64 p)) ∨ (c ≠ 0 ∧ e = .panicked [{ v := faultW c p, recovered := false }])
set_option maxHeartbeats 3200000 in
set_option maxRecDepth 8000 in
theorem do_chk (N1 N2 : Nat) (vars : Int) (a : Option Addr) (len cap : Nat) (zss : List (List Int)) (b : Option Addr) (bl bc : Nat) (ss : List St) (w : World) (hr : IntRows w a len zss) (hb : StepRow w b bl ss) (c0 : w.cell? ⟨N1, 0, none⟩ = some (.int .i64 vars)) (c1 : w.cell? ⟨N1, 1, none⟩ = some (.slice a len cap)) (c2 : w.cell? ⟨N2, 0, none⟩ = some (.slice b bl bc)) (ht : Tab w) :
  Calls Tryz.prog 19 #[.pointer (some ⟨N2, 0, none⟩), .pointer (some ⟨N1, 0, none⟩)] w fun e w' => ∃ p c : Int, ChkAns vars zss ss p c ∧ Ended p c e ∧ Below w.heap.size w w' := by
 have hmost := hb.most
 unfold maxLen at hmost
 have HRo := hid hr
 have HBr := hid hb
 have hlb := hb.length
 have hlr := hr.length
 have HTb := hid ht
 have HCo := hid (fun (W : World) (hbw : Below w.heap.size w W) => cnfOK_impl vars a len cap zss W (hr.below hbw))
 clear hr hb ht
 by_cases h1 : 4096 < bl
 · have HA : Hid (ChkAns vars zss ss 0 2) := hid ⟨fun _ => ⟨rfl, rfl⟩, fun h => absurd (by omega) h, fun h => absurd (by omega) h⟩
   have d1 : decide ((bl : Int) ≤ 4096) = false := decide_eq_false (by omega)
   clear hlb hlr
   go_enter Tryz.func19, Tryz.ntmps19
   go_wp2_with fail
   refine (must_not 2 _).mono ?_
   rintro e w1 ⟨rfl, rfl⟩
   go_wp2
   exact ⟨rfl, 0, 2, HA.out, .inr ⟨by decide, rfl⟩, (by repeat (first | exact Below.refl _ _ | assumption | refine Below.drew ?_ | refine Below.alloc ?_ (by first | exact Nat.le_refl _ | omega | (simp; done) | (simp; omega)) _ | refine Below.setCell ?_ (by first | exact Nat.le_refl _ | omega | (simp; done) | (simp; omega)) _))⟩
 · have d1 : decide ((bl : Int) ≤ 4096) = true := decide_eq_true (by omega)
   cases hck : cnfB vars zss with
   | false =>
    have HA : Hid (ChkAns vars zss ss 0 1) := hid ⟨fun h => absurd h (by omega), fun _ _ => ⟨rfl, rfl⟩, fun _ h => (by rw [hck] at h; cases h)⟩
    rw [hck] at HCo
    clear hlb hlr hck
    go_enter Tryz.func19, Tryz.ntmps19
    go_wp2_with fail
    refine (must_so 2 _).mono ?_
    rintro e w1 ⟨rfl, hw1⟩
    have hw1 := hw1.symm
    subst hw1
    go_wp2_with fail
    refine (HCo.out _ (by repeat (first | exact Below.refl _ _ | assumption | refine Below.drew ?_ | refine Below.alloc ?_ (by first | exact Nat.le_refl _ | omega | (simp; done) | (simp; omega)) _ | refine Below.setCell ?_ (by first | exact Nat.le_refl _ | omega | (simp; done) | (simp; omega)) _))).mono ?_
    rintro e w1 ⟨rfl, hb1⟩
    have H1 := hid ((show Below w.heap.size w _ from (by repeat (first | exact Below.refl _ _ | assumption | refine Below.drew ?_ | refine Below.alloc ?_ (by first | exact Nat.le_refl _ | omega | (simp; done) | (simp; omega)) _ | refine Below.setCell ?_ (by first | exact Nat.le_refl _ | omega | (simp; done) | (simp; omega)) _))).trans (Below.mono hb1 (by first | exact Nat.le_refl _ | simp)))
    clear hb1
    go_wp2_with fail
    refine (must_not 1 _).mono ?_
    rintro e w2 ⟨rfl, rfl⟩
    go_wp2
    exact ⟨rfl, 0, 1, HA.out, .inr ⟨by decide, rfl⟩, H1.out⟩
   | true =>
    rw [hck] at HCo
    obtain ⟨hv0, hv1, hv2⟩ := cnf_vars hck
    obtain ⟨n, hn⟩ : ∃ n : Nat, vars = (n : Int) - 1 := ⟨(vars + 1).toNat, by omega⟩
    have HSt := hid (fun (W : World) (hbw : Below w.heap.size w W) => are_impl b bl bc ss vars W hv0 hv1 (HBr.out.below hbw))
    cases hst : stepsB vars ss with
    | false =>
     have HA : Hid (ChkAns vars zss ss 0 1) := hid ⟨fun h => absurd h (by omega), fun _ _ => ⟨rfl, rfl⟩, fun _ h => (by rw [hck, hst] at h; cases h)⟩
     rw [hst] at HSt
     clear hlb hlr hck hst hn
     go_enter Tryz.func19, Tryz.ntmps19
     go_wp2_with fail
     refine (must_so 2 _).mono ?_
     rintro e w1 ⟨rfl, hw1⟩
     have hw1 := hw1.symm
     subst hw1
     go_wp2_with fail
     refine (HCo.out _ (by repeat (first | exact Below.refl _ _ | assumption | refine Below.drew ?_ | refine Below.alloc ?_ (by first | exact Nat.le_refl _ | omega | (simp; done) | (simp; omega)) _ | refine Below.setCell ?_ (by first | exact Nat.le_refl _ | omega | (simp; done) | (simp; omega)) _))).mono ?_
     rintro e w1 ⟨rfl, hb1⟩
     have f0 := keep hb1 c0
     have f2 := keep hb1 c2
     have H1 := hid ((show Below w.heap.size w _ from (by repeat (first | exact Below.refl _ _ | assumption | refine Below.drew ?_ | refine Below.alloc ?_ (by first | exact Nat.le_refl _ | omega | (simp; done) | (simp; omega)) _ | refine Below.setCell ?_ (by first | exact Nat.le_refl _ | omega | (simp; done) | (simp; omega)) _))).trans (Below.mono hb1 (by first | exact Nat.le_refl _ | simp)))
     clear hb1
     go_wp2_with fail
     refine (HSt.out _ H1.out).mono ?_
     rintro e w2 ⟨rfl, hb2⟩
     have H2 := hid (H1.out.trans (hb2.mono H1.out.size))
     clear hb2
     go_wp2_with fail
     refine (must_not 1 _).mono ?_
     rintro e w3 ⟨rfl, rfl⟩
     go_wp2
     exact ⟨rfl, 0, 1, HA.out, .inr ⟨by decide, rfl⟩, H2.out⟩
    | true =>
     have hsn : stepsB ((n : Int) - 1) ss = true := by rw [← hn]; exact hst
     have hcn : cnfB ((n : Int) - 1) zss = true := by rw [← hn]; exact hck
     have HEn := hid (fun (W : World) (hbw : Below w.heap.size w W) => end_impl n a len cap zss b bl bc ss W (HRo.out.below hbw) (HBr.out.below hbw) (by omega) (short_cnf hcn) (by omega) (by have := (short_steps hsn).2; omega) (short_steps hsn).1 (tab_below HTb.out hbw))
     rw [← hn] at HEn
     have HA : Hid (∀ p c : Int, ChkR zss ss 0 p c → ChkAns vars zss ss p c) := hid (fun p c ht => ⟨fun h => absurd h (by omega), fun _ h => (by rw [hck, hst] at h; cases h), fun _ _ => ht⟩)
     rw [hst] at HSt
     clear hlb hlr hck hst hn hsn hcn
     go_enter Tryz.func19, Tryz.ntmps19
     go_wp2_with fail
     refine (must_so 2 _).mono ?_
     rintro e w1 ⟨rfl, hw1⟩
     have hw1 := hw1.symm
     subst hw1
     go_wp2_with fail
     refine (HCo.out _ (by repeat (first | exact Below.refl _ _ | assumption | refine Below.drew ?_ | refine Below.alloc ?_ (by first | exact Nat.le_refl _ | omega | (simp; done) | (simp; omega)) _ | refine Below.setCell ?_ (by first | exact Nat.le_refl _ | omega | (simp; done) | (simp; omega)) _))).mono ?_
     rintro e w1 ⟨rfl, hb1⟩
     have f0 := keep hb1 c0
     have f2 := keep hb1 c2
     have f1 := keep hb1 c1
     have H1 := hid ((show Below w.heap.size w _ from (by repeat (first | exact Below.refl _ _ | assumption | refine Below.drew ?_ | refine Below.alloc ?_ (by first | exact Nat.le_refl _ | omega | (simp; done) | (simp; omega)) _ | refine Below.setCell ?_ (by first | exact Nat.le_refl _ | omega | (simp; done) | (simp; omega)) _))).trans (Below.mono hb1 (by first | exact Nat.le_refl _ | simp)))
     clear hb1
     go_wp2_with fail
     refine (HSt.out _ H1.out).mono ?_
     rintro e w2 ⟨rfl, hb2⟩
     replace f0 := keep hb2 f0
     replace f1 := keep hb2 f1
     replace f2 := keep hb2 f2
     have H2 := hid (H1.out.trans (hb2.mono H1.out.size))
     clear hb2
     go_wp2_with fail
     refine (must_so 1 _).mono ?_
     rintro e w3 ⟨rfl, rfl⟩
     go_wp2_with fail
     refine (HEn.out _ H2.out).mono ?_
     rintro e w4 ⟨p, c, hc, he, hb4⟩
     have HB4 := hid (H2.out.trans (hb4.mono H2.out.size))
     have HA4 := hid (HA.out p c hc)
     clear hc hb4
     rcases he with ⟨rfl, rfl⟩ | ⟨h0, rfl⟩
     · go_wp2
       go_ret
       exact ⟨p, 0, HA4.out, .inl ⟨rfl, rfl⟩, HB4.out⟩
     · have H0 := hid h0
       clear h0
       go_wp2
       exact ⟨rfl, p, c, HA4.out, .inr ⟨H0.out, rfl⟩, HB4.out⟩
theorem answer (N1 N2 : Nat) (vars : Int) (a : Option Addr) (len cap : Nat) (zss : List (List Int)) (b : Option Addr) (bl bc : Nat) (ss : List St) (w : World) (hr : IntRows w a len zss) (hb : StepRow w b bl ss) (c0 : w.cell? ⟨N1, 0, none⟩ = some (.int .i64 vars)) (c1 : w.cell? ⟨N1, 1, none⟩ = some (.slice a len cap)) (c2 : w.cell? ⟨N2, 0, none⟩ = some (.slice b bl bc)) (ht : Tab w) (he : ErrW w) :
  Calls Tryz.prog 18 #[.func (.func 19) #[] #[.pointer (some ⟨N2, 0, none⟩), .pointer (some ⟨N1, 0, none⟩)]] w fun e w' => ∃ p c : Int, ChkAns vars zss ss p c ∧ ((c = 0 ∧ e = .returned (.tuple #[.int .i64 p, .agg #[.int .i64 0, .int .i64 0]])) ∨ (c ≠ 0 ∧ e = .returned (.tuple #[.int .i64 0, .agg #[.int .i64 c, .int .i64 p]]))) ∧ Below w.heap.size w w' := by
 have hcf : ∀ w, (callFunc 19 #[.pointer (some ⟨N2, 0, none⟩), .pointer (some ⟨N1, 0, none⟩)]).run Tryz.prog w = .ok (.enter 19 #[.pointer (some ⟨N2, 0, none⟩), .pointer (some ⟨N1, 0, none⟩)]) w := fun w => enters_of Tryz.func19 (by kernel_rfl) rfl _ w
 have hb0 : Below w.heap.size w (w.alloc (.cells #[.int .i64 0, .int .i64 0] 44)) := (Below.refl _ _).alloc (Nat.le_refl _) _
 have hz : (w.alloc (.cells #[.int .i64 0, .int .i64 0] 44)).heap.size = w.heap.size + 1 := by simp
 have hd := do_chk N1 N2 vars a len cap zss b bl bc ss _ (hr.below hb0) (hb.below hb0) (keep hb0 c0) (keep hb0 c1) (keep hb0 c2) (tab_below ht hb0)
 rw [hz] at hd
 obtain ⟨p, c, hpc⟩ : ∃ p c, ChkAns vars zss ss p c := by
  obtain ⟨e, w', fr, ⟨p, c, h2, -⟩, -⟩ := hd []
  exact ⟨p, c, h2⟩
 by_cases hc : c = 0
 · subst hc
   refine (answerOf_ret 19 _ p w hcf ?_).mono ?_
   · rintro w0 rfl
     refine hd.mono ?_
     rintro e w' ⟨p', c', h1, h2, h3⟩
     obtain ⟨rfl, rfl⟩ := hpc.uniq h1
     rcases h2 with ⟨_, rfl⟩ | ⟨h2, _⟩
     · exact ⟨rfl, h3⟩
     · exact absurd rfl h2
   · rintro e w' ⟨rfl, hb9⟩
     exact ⟨p, 0, hpc, .inl ⟨rfl, rfl⟩, hb9⟩
 · refine (answerOf_fault 19 _ c p w he hcf ?_).mono ?_
   · rintro w0 rfl
     refine hd.mono ?_
     rintro e w' ⟨p', c', h1, h2, h3⟩
     obtain ⟨rfl, rfl⟩ := hpc.uniq h1
     rcases h2 with ⟨h2, _⟩ | ⟨_, rfl⟩
     · exact absurd h2 hc
     · exact ⟨rfl, h3⟩
   · rintro e w' ⟨rfl, hb9⟩
     exact ⟨p, c, hpc, .inr ⟨hc, rfl⟩, hb9⟩
set_option maxHeartbeats 1600000 in
set_option maxRecDepth 8000 in
theorem chk_face (vars : Int) (a : Option Addr) (len cap : Nat) (zss : List (List Int)) (b : Option Addr) (bl bc : Nat) (ss : List St) (w : World) (hr : IntRows w a len zss) (hb : StepRow w b bl ss) (ht : Tab w) (he : ErrW w) :
  Calls Tryz.prog 8 #[.agg #[.int .i64 vars, .slice a len cap], .slice b bl bc] w fun e w' => ∃ p c : Int, e = .returned (.tuple #[.int .i64 p, .int .i64 c]) ∧ ChkAns vars zss ss p c ∧ Below w.heap.size w w' := by
 have hmf : ∀ (fn : Fn) (first cap : Array Value) (w : World), (Instr.makeFunc fn first cap).run Tryz.prog w = .ok (.func fn first cap) w := fun _ _ _ _ => rfl
 have HA := hid (fun N1 N2 W (hW : Below w.heap.size w W) c0 c1 c2 => answer N1 N2 vars a len cap zss b bl bc ss W (hr.below hW) (hb.below hW) c0 c1 c2 (tab_below ht hW) (he.below hW))
 clear hr hb ht he
 go_enter Tryz.func8, Tryz.ntmps8
 go_wp2_with fail
 refine (HA.out _ _ _ (by repeat (first | exact Below.refl _ _ | assumption | refine Below.drew ?_ | refine Below.alloc ?_ (by first | exact Nat.le_refl _ | omega | (simp; done) | (simp; omega)) _ | refine Below.setCell ?_ (by first | exact Nat.le_refl _ | omega | (simp; done) | (simp; omega)) _)) ?_ ?_ ?_).mono ?_
 · simp [go_sem]
 · simp [go_sem]
 · simp [go_sem]
 rintro e w1 ⟨p, c, hra, he, hb1⟩
 have HRa := hid hra
 have HB := hid ((show Below w.heap.size w _ from (by repeat (first | exact Below.refl _ _ | assumption | refine Below.drew ?_ | refine Below.alloc ?_ (by first | exact Nat.le_refl _ | omega | (simp; done) | (simp; omega)) _ | refine Below.setCell ?_ (by first | exact Nat.le_refl _ | omega | (simp; done) | (simp; omega)) _))).trans (hb1.mono (by first | (simp; done) | (simp; omega))))
 clear hra hb1
 rcases he with ⟨rfl, rfl⟩ | ⟨h0, rfl⟩
 · go_wp2
   go_ret2
   exact ⟨p, 0, rfl, HRa.out, Below.alloc HB.out HB.out.size _⟩
 · have hne : (c != 0) = true := by simp [h0]
   clear h0
   go_wp2
   go_quiet (fail)
   go_wp2
   go_ret2
   have hb9 := Below.alloc HB.out HB.out.size (.cells #[.int .i64 c, .int .i64 p] 44)
   refine ⟨p, c, rfl, HRa.out, ?_⟩
   exact below_drewN hb9 nq
end Go.Proofs.YtmkhoocokpkojaaGreatDoor.chkFaceI
namespace Go.Proofs.YtmkhoocokpkojaaGreatDoor.refMem
open Go.RowKit Go.Deep Go base copy sets setsOf solSets solMath solMem solOps rowsOwn withoutI endI
open readSpecP (Pt pcs OwnSteps Lone strip)
set_option linter.unusedVariables false
set_option linter.unusedSimpArgs false
def rfI (M : Nat) (cv sv : Value) : Nat → Value := fun i => if i = 0 then .pointer (some ⟨M, 0, none⟩) else if i = 1 then cv else sv
def MineR (R : Nat) (cv sv : Value) (ps : List Pt) (g : Nat) : Prop := g = R ∨ cv.ownBlock = some g ∨ sv.ownBlock = some g ∨ ∃ p ∈ ps, p.2.1.ownBlock = some g
structure Rft (B R M mb : Nat) (F : Nat → Value) (V : Int → Value) (s : Sv) (zs : List Int) (cv sv : Value) (ps : List Pt) (w : World) : Prop where
 sol : Sol 0 M mb F V s w
 v0 : V 0 = nilV
 row : w.rowIs R 62 3 (rfI M cv sv)
 ch : OwnInts B w cv zs
 st : OwnSteps B w sv ps
 lone : Lone ps
 few : ps.length ≤ 200
 far : ∀ g, MineR R cv sv ps g → Far g M mb F V
 sep : ∀ g, cv.ownBlock = some g → ∀ p ∈ ps, p.2.1.ownBlock ≠ some g
 bR : B ≤ R
 bM : B ≤ M
 bm : B ≤ mb
 bb : ∀ a g, blk 0 F V a = some g → B ≤ g
 tb : 1 < B
variable {B R M mb : Nat} {F : Nat → Value} {V : Int → Value} {s : Sv} {zs : List Int} {cv sv : Value} {ps : List Pt} {w w1 : World}
theorem Rft.mine (h : Rft B R M mb F V s zs cv sv ps w) {g : Nat} (hg : MineR R cv sv ps g) : B ≤ g ∧ g < w.heap.size := by
 rcases hg with rfl | hg | hg | ⟨p, hp, hg⟩
 · exact ⟨h.bR, h.row.lt⟩
 · exact World.ownsRow.lt h.ch g hg
 · exact World.ownsRow.lt h.st.outer g hg
 · exact World.ownsRow.lt (h.st.inner p hp) g hg
theorem own_at {B n s : Nat} {t : TypeId} {w w1 : World} {v : Value} {xs : List Value} (h : w.ownsRow B t s v n xs) (hk : ∀ g, v.ownBlock = some g → w1.heap[g]? = w.heap[g]?) : w1.ownsRow B t s v n xs := by
 obtain ⟨h1, h2⟩ := h
 refine ⟨h1, ?_⟩
 rcases h2 with h2 | ⟨g, cap, cur, rfl, hg, hh, hn⟩
 · exact .inl h2
 · exact .inr ⟨g, cap, cur, rfl, hg, by rw [hk g rfl]; exact hh, hn⟩
theorem Rft.chg {F' : Nat → Value} {V' : Int → Value} {s' : Sv} (h : Rft B R M mb F V s zs cv sv ps w) (hs : Sol 0 M mb F' V' s' w1) (hv : V' 0 = nilV) (hc : Chg M mb (blk 0 F V) (blk 0 F' V') w w1) (hB : B ≤ w.heap.size) : Rft B R M mb F' V' s' zs cv sv ps w1 ∧ Below B w w1 := by
 have hf : ∀ g, MineR R cv sv ps g → Far g M mb F' V' ∧ w1.heap[g]? = w.heap[g]? := fun g hg => far_chg (h.mine hg).2 (h.far g hg) hc
 exact ⟨⟨hs, hv, h.row.of_block (hf R (.inl rfl)).2, own_at h.ch (fun g hg => (hf g (.inr (.inl hg))).2), ⟨own_at h.st.outer (fun g hg => (hf g (.inr (.inr (.inl hg)))).2), fun p hp => own_at (h.st.inner p hp) (fun g hg => (hf g (.inr (.inr (.inr ⟨p, hp, hg⟩)))).2)⟩, h.lone, h.few, fun g hg => (hf g hg).1, h.sep, h.bR, h.bM, h.bm, fun a g hg => (hc.news a g hg).elim (h.bb a g) (fun h1 => Nat.le_trans hB h1), h.tb⟩, hc.toBelow hB h.bM h.bm h.bb⟩
theorem Rft.below (h : Rft B R M mb F V s zs cv sv ps w) (hb : Below w.heap.size w w1) : Rft B R M mb F V s zs cv sv ps w1 :=
 ⟨h.sol.below hb, h.v0, h.row.of_block (hb.block R h.row.lt), h.ch.below hb, h.st.below hb, h.lone, h.few, h.far, h.sep, h.bR, h.bM, h.bm, h.bb, h.tb⟩
theorem Rft.turn {zs' : List Int} {cv' sv' : Value} {ps' : List Pt} (h : Rft B R M mb F V s zs cv sv ps w) (hsz : w.heap.size ≤ w1.heap.size) (hk : ∀ j, j < w.heap.size → j ≠ R → cv.ownBlock ≠ some j → sv.ownBlock ≠ some j → w1.heap[j]? = w.heap[j]?)
  (hrow : w1.rowIs R 62 3 (rfI M cv' sv')) (hch : OwnInts B w1 cv' zs') (hst : OwnSteps B w1 sv' ps') (hl : Lone ps') (hfew : ps'.length ≤ 200) (hnew : ∀ g, MineR R cv' sv' ps' g → MineR R cv sv ps g ∨ w.heap.size ≤ g) (hsep : ∀ g, cv'.ownBlock = some g → ∀ p ∈ ps', p.2.1.ownBlock ≠ some g) :
  Rft B R M mb F V s zs' cv' sv' ps' w1 := by
 have hlt := h.sol.lt
 have hM : w1.heap[M]? = w.heap[M]? := hk M hlt.1 (fun e => (h.far R (.inl rfl)).1 e.symm) (fun e => (h.far M (.inr (.inl e))).1 rfl) (fun e => (h.far M (.inr (.inr (.inl e)))).1 rfl)
 have hm : w1.heap[mb]? = w.heap[mb]? := hk mb hlt.2 (fun e => (h.far R (.inl rfl)).2.1 e.symm) (fun e => (h.far mb (.inr (.inl e))).2.1 rfl) (fun e => (h.far mb (.inr (.inr (.inl e)))).2.1 rfl)
 have hb : ∀ a g, blk 0 F V a = some g → w1.heap[g]? = w.heap[g]? := fun a g hg => hk g (h.sol.blt hg) (fun e => (h.far R (.inl rfl)).2.2 a (by rw [← e]; exact hg)) (fun e => (h.far g (.inr (.inl e))).2.2 a hg) (fun e => (h.far g (.inr (.inr (.inl e)))).2.2 a hg)
 have hgl : ∀ g, MineR R cv sv ps g → g ≠ 1 := fun g hg e => by
  have := (h.mine hg).1
  have := h.tb
  omega
 have ht : Tab w1 := fun j hj => by
  have h0 := h.sol.tab j hj
  have hlt0 := World.block_lt_of_cell? _ _ h0
  refine (World.cell?_of_block (hk _ hlt0 (fun e => hgl R (.inl rfl) e.symm) (fun e => hgl _ (.inr (.inl e)) rfl) (fun e => hgl _ (.inr (.inr (.inl e))) rfl))).trans h0
 refine ⟨sol_keep h.sol hM hm hb ht, h.v0, hrow, hch, hst, hl, hfew, fun g hg => ?_, hsep, h.bR, h.bM, h.bm, h.bb, h.tb⟩
 rcases hnew g hg with h1 | h1
 · exact h.far g h1
 · exact far_new h.sol h1
theorem rfI_chosen {cv' : Value} (hr : w.rowIs R 62 3 (rfI M cv sv)) : (w.setCell ⟨R, 1, none⟩ cv').rowIs R 62 3 (rfI M cv' sv) :=
 (World.rowIs.set hr 1 cv').congr fun i hi => by
  match i, hi with
  | 0, _ => rfl
  | 1, _ => rfl
  | 2, _ => rfl
theorem rfI_steps {sv' : Value} (hr : w.rowIs R 62 3 (rfI M cv sv)) : (w.setCell ⟨R, 2, none⟩ sv').rowIs R 62 3 (rfI M cv sv') :=
 (World.rowIs.set hr 2 sv').congr fun i hi => by
  match i, hi with
  | 0, _ => rfl
  | 1, _ => rfl
  | 2, _ => rfl
theorem set_else {a : Addr} {v : Value} {j : Nat} (h : j ≠ a.block) : (w.setCell a v).heap[j]? = w.heap[j]? := Below.heap_setCell _ _ _ _ (by simpa using h)
theorem own_type {B n s : Nat} {t : TypeId} {w : World} {v : Value} {xs : List Value} (h : w.ownsRow B t s v n xs) {g : Nat} (hg : v.ownBlock = some g) : ∃ cs, w.heap[g]? = some (.cells cs t (0, 0)) := by
 rcases h.2 with ⟨e, _⟩ | ⟨g', cap, cur, rfl, _, hh, _⟩
 · rw [e] at hg; cases hg
 · injection hg with hg
   subst hg
   exact ⟨cur, hh⟩
theorem type_ne {t t' : TypeId} {g g' : Nat} (h : ∃ cs, w.heap[g]? = some (.cells cs t (0, 0))) (h' : ∃ cs, w.heap[g']? = some (.cells cs t' (0, 0))) (ht : t ≠ t') : g ≠ g' := fun e => by
 subst e
 obtain ⟨a, h⟩ := h
 obtain ⟨b, h'⟩ := h'
 rw [h] at h'
 injection h' with h'
 injection h' with _ h' _
 exact ht h'
theorem Rft.typeR (h : Rft B R M mb F V s zs cv sv ps w) : ∃ cs, w.heap[R]? = some (.cells cs 62 (0, 0)) := by
 obtain ⟨c, h1, _⟩ := h.row
 exact ⟨c, h1⟩
theorem Rft.cR (h : Rft B R M mb F V s zs cv sv ps w) {g : Nat} (hg : cv.ownBlock = some g) : g ≠ R := type_ne (own_type h.ch hg) h.typeR (by decide)
theorem Rft.sR (h : Rft B R M mb F V s zs cv sv ps w) {g : Nat} (hg : sv.ownBlock = some g) : g ≠ R := type_ne (own_type h.st.outer hg) h.typeR (by decide)
theorem Rft.pR (h : Rft B R M mb F V s zs cv sv ps w) {p : Pt} (hp : p ∈ ps) {g : Nat} (hg : p.2.1.ownBlock = some g) : g ≠ R := type_ne (own_type (h.st.inner p hp) hg) h.typeR (by decide)
theorem Rft.cs (h : Rft B R M mb F V s zs cv sv ps w) {g : Nat} (hg : cv.ownBlock = some g) : sv.ownBlock ≠ some g := fun e => type_ne (own_type h.ch hg) (own_type h.st.outer e) (by decide) rfl
theorem Rft.ps_ (h : Rft B R M mb F V s zs cv sv ps w) {p : Pt} (hp : p ∈ ps) {g : Nat} (hg : p.2.1.ownBlock = some g) : sv.ownBlock ≠ some g := fun e => type_ne (own_type (h.st.inner p hp) hg) (own_type h.st.outer e) (by decide) rfl
theorem Rft.push {l : Int} {cv' : Value} {w2 : World} (h : Rft B R M mb F V s zs cv sv ps w) (hB : B ≤ w.heap.size) (hg : (w.alloc (.cells #[.int .i64 l] 3)).grownBy w2 cv.ownBlock)
  (ho : w2.ownsRow B 3 1 cv' (zs.length + 1) (zs.map (Value.int .i64) ++ [.int .i64 l])) (hat : cv'.ownBlock = cv.ownBlock ∨ cv'.ownBlock = some (w.alloc (.cells #[.int .i64 l] 3)).heap.size) :
  Rft B R M mb F V s (zs ++ [l]) cv' sv ps (w2.setCell ⟨R, 1, none⟩ cv') ∧ Below B w (w2.setCell ⟨R, 1, none⟩ cv') := by
 have hba : Below w.heap.size w (w.alloc (.cells #[.int .i64 l] 3)) := (by repeat (first | exact Below.refl _ _ | assumption | refine Below.drew ?_ | refine Below.alloc ?_ (by first | exact Nat.le_refl _ | omega | (simp; done) | (simp; omega)) _ | refine Below.setCell ?_ (by first | exact Nat.le_refl _ | omega | (simp; done) | (simp; omega)) _))
 have hsz := hg.size
 have hszw : w.heap.size ≤ w2.heap.size := Nat.le_trans hba.size hsz
 have hk2 : ∀ j, j < w.heap.size → cv.ownBlock ≠ some j → w2.heap[j]? = w.heap[j]? := fun j hj hc => (hg.block j (Nat.lt_of_lt_of_le hj hba.size) (fun e => hc e.symm)).trans (hba.block j hj)
 have hcR : ∀ g, cv'.ownBlock = some g → g ≠ R := fun g hg' e => by
  rcases hat with e1 | e1
  · rw [e1] at hg'; exact h.cR hg' e
  · rw [e1] at hg'
    injection hg' with hg'
    have := h.row.lt
    have := hba.size
    omega
 have hR2 : w2.heap[R]? = w.heap[R]? := hk2 R h.row.lt (fun e => h.cR e rfl)
 refine ⟨h.turn (by simpa [World.setCell] using hszw) (fun j hj hR hc hs => (set_else hR).trans (hk2 j hj hc)) (rfI_chosen (h.row.of_block hR2)) ?_ ⟨?_, fun p hp => ?_⟩ h.lone h.few (fun g hg' => ?_) (fun g hg' p hp e => ?_), ?_⟩
 · unfold OwnInts
   rw [List.length_append, List.map_append]
   exact own_at ho (fun g hg' => set_else (hcR g hg'))
 · exact own_at h.st.outer (fun g hg' => (set_else (h.sR hg')).trans (hk2 g (World.ownsRow.lt h.st.outer g hg').2 (fun e => h.cs e hg')))
 · exact own_at (h.st.inner p hp) (fun g hg' => (set_else (h.pR hp hg')).trans (hk2 g (World.ownsRow.lt (h.st.inner p hp) g hg').2 (fun e => h.sep g e p hp hg')))
 · rcases hg' with e | hg' | hg'
   · exact .inl (.inl e)
   · rcases hat with e1 | e1
     · rw [e1] at hg'; exact .inl (.inr (.inl hg'))
     · rw [e1] at hg'
       injection hg' with hg'
       exact .inr (by have := hba.size; omega)
   · exact .inl (.inr (.inr hg'))
 · rcases hat with e1 | e1
   · rw [e1] at hg'; exact h.sep g hg' p hp e
   · rw [e1] at hg'
     injection hg' with hg'
     have := (World.ownsRow.lt (h.st.inner p hp) g e).2
     have := hba.size
     omega
 · refine ⟨hg.os.trans hba.os, hg.tape.trans hba.tape, hg.output.trans hba.output, by simpa [World.setCell] using hszw, fun j hj => ?_⟩
   exact (set_else (by have := h.bR; show j ≠ R; omega)).trans (hk2 j (by omega) (fun e => by have := (World.ownsRow.lt h.ch j e).1; omega))
theorem Rft.cut {k n c : Nat} {a : Option Addr} (h : Rft B R M mb F V s zs (.slice a n c) sv ps w) (hn : zs.length = n) (hk : k ≤ n) (hB : B ≤ w.heap.size) :
  Rft B R M mb F V s (zs.take k) (.slice a k c) sv ps (w.setCell ⟨R, 1, none⟩ (.slice a k c)) ∧ Below B w (w.setCell ⟨R, 1, none⟩ (.slice a k c)) := by
 have hcR : ∀ g, (Value.slice a k c).ownBlock = some g → (Value.slice a n c).ownBlock = some g := fun g e => by
  cases a with
  | none => cases e
  | some a => exact e
 refine ⟨h.turn (by simp [World.setCell]) (fun j hj hR hc hs => set_else hR) (rfI_chosen h.row) ?_ ⟨?_, fun p hp => ?_⟩ h.lone h.few (fun g hg' => ?_) (fun g hg' p hp e => h.sep g (hcR g hg') p hp e), ?_⟩
 · have h1 : w.ownsRow B 3 1 (.slice a n c) n (zs.map (Value.int .i64)) := by have := h.ch; unfold OwnInts at this; rw [hn] at this; exact this
   have h2 := solBackI.own_cut h1 (by simp [hn]) hk
   unfold OwnInts
   rw [List.length_take, hn, Nat.min_eq_left hk, List.map_take]
   rw [Nat.mul_one] at h2
   exact own_at h2 (fun g hg' => set_else (h.cR (hcR g hg')))
 · exact own_at h.st.outer (fun g hg' => set_else (h.sR hg'))
 · exact own_at (h.st.inner p hp) (fun g hg' => set_else (h.pR hp hg'))
 · rcases hg' with e | hg' | hg'
   · exact .inl (.inl e)
   · exact .inl (.inr (.inl (hcR g hg')))
   · exact .inl (.inr (.inr hg'))
 · exact ⟨rfl, rfl, rfl, by simp [World.setCell], fun j hj => set_else (by have := h.bR; show j ≠ R; omega)⟩
theorem Rft.add {ys : List Int} {yv sv' : Value} {w2 w3 : World} {o : Obj} (h : Rft B R M mb F V s zs cv sv ps w) (hB : B ≤ w.heap.size) (hb : Below w.heap.size w w2) (hy : OwnInts w.heap.size w2 yv ys) (hg : (w2.alloc o).grownBy w3 sv.ownBlock)
  (ho : w3.ownsRow B 79 2 sv' (ps.length + 1) (ps.flatMap pcs ++ [.bool false, yv])) (hat : sv'.ownBlock = sv.ownBlock ∨ sv'.ownBlock = some (w2.alloc o).heap.size) (hfew : ps.length < 200) :
  Rft B R M mb F V s zs cv sv' (ps ++ [(false, yv, ys)]) (w3.setCell ⟨R, 2, none⟩ sv') ∧ Below B w (w3.setCell ⟨R, 2, none⟩ sv') := by
 have hba : Below w.heap.size w (w2.alloc o) := hb.alloc hb.size o
 have hsz := hg.size
 have hszw : w.heap.size ≤ w3.heap.size := Nat.le_trans hba.size hsz
 have hk2 : ∀ j, j < w.heap.size → sv.ownBlock ≠ some j → w3.heap[j]? = w.heap[j]? := fun j hj hc => (hg.block j (Nat.lt_of_lt_of_le hj hba.size) (fun e => hc e.symm)).trans (hba.block j hj)
 have hR2 : w3.heap[R]? = w.heap[R]? := hk2 R h.row.lt (fun e => h.sR e rfl)
 have hyl : ∀ g, yv.ownBlock = some g → w.heap.size ≤ g ∧ g < w2.heap.size := fun g e => World.ownsRow.lt hy g e
 have hy3 : OwnInts w.heap.size w3 yv ys := own_at hy fun g e => by
  have h1 := hyl g e
  refine (hg.block g (by simp; omega) (fun e2 => ?_)).trans (Below.heap_alloc w2 o g (by omega))
  have := (World.ownsRow.lt h.st.outer g e2.symm).2
  omega
 have hsR : ∀ g, sv'.ownBlock = some g → g ≠ R := fun g hg' e => by
  rcases hat with e1 | e1
  · rw [e1] at hg'; exact h.sR hg' e
  · rw [e1] at hg'
    injection hg' with hg'
    have := h.row.lt
    have := hba.size
    omega
 refine ⟨h.turn (by simpa [World.setCell] using hszw) (fun j hj hR hc hs => (set_else hR).trans (hk2 j hj hs)) (rfI_steps (h.row.of_block hR2)) ?_ ⟨?_, fun p hp => ?_⟩ ?_ (by simp; omega) (fun g hg' => ?_) (fun g hg' p hp e => ?_), ?_⟩
 · exact own_at h.ch (fun g hg' => (set_else (h.cR hg')).trans (hk2 g (World.ownsRow.lt h.ch g hg').2 (h.cs hg')))
 · rw [List.length_append, List.flatMap_append]
   exact own_at ho (fun g hg' => set_else (hsR g hg'))
 · rcases List.mem_append.1 hp with hp | hp
   · exact own_at (h.st.inner p hp) (fun g hg' => (set_else (h.pR hp hg')).trans (hk2 g (World.ownsRow.lt (h.st.inner p hp) g hg').2 (h.ps_ hp hg')))
   · rw [List.mem_singleton] at hp
     subst hp
     exact own_at (readSpecP.own_base hy3 hB) (fun g hg' => set_else (by have := hyl g hg'; have := h.row.lt; show g ≠ R; omega))
 · exact readSpecP.lone_add (M := w.heap.size) h.lone (fun q hq g e => (World.ownsRow.lt (h.st.inner q hq) g e).2) (fun g e => (hyl g e).1)
 · rcases hg' with e | hg' | hg' | ⟨p, hp, hg'⟩
   · exact .inl (.inl e)
   · exact .inl (.inr (.inl hg'))
   · rcases hat with e1 | e1
     · rw [e1] at hg'; exact .inl (.inr (.inr (.inl hg')))
     · rw [e1] at hg'
       injection hg' with hg'
       exact .inr (by have := hba.size; omega)
   · rcases List.mem_append.1 hp with hp | hp
     · exact .inl (.inr (.inr (.inr ⟨p, hp, hg'⟩)))
     · rw [List.mem_singleton] at hp
       subst hp
       exact .inr (hyl g hg').1
 · rcases List.mem_append.1 hp with hp | hp
   · exact h.sep g hg' p hp e
   · rw [List.mem_singleton] at hp
     subst hp
     have := (World.ownsRow.lt h.ch g hg').2
     have := (hyl g e).1
     omega
 · refine ⟨hg.os.trans hba.os, hg.tape.trans hba.tape, hg.output.trans hba.output, by simpa [World.setCell] using hszw, fun j hj => ?_⟩
   exact (set_else (by have := h.bR; show j ≠ R; omega)).trans (hk2 j (by omega) (fun e => by have := (World.ownsRow.lt h.st.outer j e).1; omega))
end Go.Proofs.YtmkhoocokpkojaaGreatDoor.refMem
