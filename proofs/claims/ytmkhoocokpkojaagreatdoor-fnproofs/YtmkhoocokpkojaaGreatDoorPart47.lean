import Derived.Test.YtmkhoocokpkojaaGreatDoorPart46
import Derived.Test.YtmkhoocokpkojaaGreatDoorPart9
import Derived.RegionDies
import Derived.Test.YtmkhoocokpkojaaGreatDoorPart20
namespace Go.Proofs.YtmkhoocokpkojaaGreatDoor.refTry
open Go.RowKit Go.Deep Go base copy cnf sets setsOf solSets solMath solMem solOps solTrail solSupI solBackI rowsOwn rupSpec withoutI endI refMem refImpl faultI refConc refOpen refFree
open readSpecP (Pt pcs OwnSteps Lone strip)
open refFace (codeK)
set_option linter.unusedVariables false
set_option linter.unusedSimpArgs false
def EndsR (B R M mb : Nat) (zs : List Int) (s : Sv) (c : Nat) (p' : List (List Int)) (Q : Sv → Prop) (w : World) (e : Ending) (w' : World) : Prop :=
 (c = 0 → e = .returned (.tuple #[]) ∧ ∃ F' V' s' cv' sv' ps', Rft B R M mb F' V' s' zs cv' sv' ps' w' ∧ cls ps' = p' ∧ (∀ p ∈ ps', p.1 = false) ∧ Q s' ∧ s'.K = s.K ∧ s'.T = s.T) ∧ (c ≠ 0 → Threw (codeK c) e) ∧ Below B w w'
def RefuteAt (B R M mb : Nat) (Z : List (List Int)) (nv : Nat) (zs : List Int) (p : List (List Int)) (c : Nat) (p' : List (List Int)) : Prop :=
 ∀ (F : Nat → Value) (V : Int → Value) (s : Sv) (cv sv : Value) (ps : List Pt) (w : World) (failed : Bool), Rft B R M mb F V s zs cv sv ps w → B ≤ w.heap.size → cls ps = p → (∀ p ∈ ps, p.1 = false) → Fit nv zs → Bas Z nv zs s → (failed = true ↔ 0 ≤ atF Z nv zs) → (failed = false → Opn Z nv zs s) →
  Calls Tryz.prog 32 #[.pointer (some ⟨R, 0, none⟩), .bool failed] w fun e w' => EndsR B R M mb zs s c p' (fun s' => Bas Z nv zs s' ∧ (failed = false → Opn Z nv zs s')) w e w'
variable {B R M mb : Nat} {F : Nat → Value} {V : Int → Value} {s : Sv} {Z : List (List Int)} {nv : Nat} {zs : List Int} {l : Int} {cv sv : Value} {ps : List Pt} {w w1 : World} {c : Nat} {p p1 : List (List Int)}
theorem opn_most (h : Opn Z nv zs s) : zs.length ≤ 41 := Nat.le_trans h.len (fresh_most h.bas.stk.tr.fresh)
theorem chosen_cap {n c : Nat} {a : Option Addr} (h : OwnInts B w (.slice a n c) (zs ++ [l])) (hn : n = zs.length + 1) : zs.length + 1 ≤ c := by
 rcases h.2 with ⟨e, h0⟩ | ⟨g, cap, cur, e, _, _, h1, _⟩
 · simp at h0
 · injection e with _ _ e
   subst e
   simpa using h1
set_option maxHeartbeats 6400000 in
set_option maxRecDepth 100000 in
theorem try_impl (IH : RefuteAt B R M mb Z nv (zs ++ [l]) p c p1) (hn : nv ≤ 40) (hZ : LitsIn (nv + 1) Z) (hZl : Z.length ≤ 300) (h : Rft B R M mb F V s zs cv sv ps w) (hB : B ≤ w.heap.size) (hp : cls ps = p) (hd : ∀ p ∈ ps, p.1 = false) (hf : Fit nv zs) (ho : Opn Z nv zs s)
  (hl : l ≠ 0) (hr : l.natAbs < nv + 1) (hno : mem s.H l = false ∧ mem s.H (-l) = false) :
  Calls Tryz.prog 57 #[.pointer (some ⟨R, 0, none⟩), .int .i64 l] w fun e w' => EndsR B R M mb zs s c p1 (Opn Z nv zs) w e w' := by
 obtain ⟨i0, hi, hzz⟩ := Option.map_eq_some_iff.1 Tryz.info_int
 simp only [Prod.mk.injEq] at hzz
 obtain ⟨hz0, hz1, hz2⟩ := hzz
 have HI := hid hi
 have HZ0 := hid hz0
 have HZ1 := hid hz1
 have HZ2 := hid hz2
 clear hi hz0 hz1 hz2
 have hzm := opn_most ho
 have HR := hid h
 have HO := hid ho
 have hlr : -40 ≤ l ∧ l ≤ 40 := by omega
 obtain ⟨hl0, hl1⟩ := hlr
 have HOn := hid (fun w : World => only_impl l w hl0 hl1)
 obtain ⟨g1, g2, g3, g4, T', g5⟩ := opn_sup ho hn hZ hf hl hr hno
 have hf2 := fit_snoc ho hf hl hr hno
 have hCl : s.C.length ≤ 8000000000000 := by rw [ho.bas.C, List.length_map]; omega
 have hKl : s.K.length ≤ 100000 := by rw [ho.bas.K]; omega
 have HSu := hid (fun (W : World) (F : Nat → Value) (V : Int → Value) (h : Sol 0 M mb F V s W) (hv : V 0 = nilV) => suppose_impl (0, 0) M mb F V s W h hv ho.bas.full ho.F ho.D ho.bas.stk (pBit l) (oBit l) (wf_only hl hl0 hl1) (cons_only hl) hCl hKl)
 obtain ⟨⟨s2, b2⟩, hs2⟩ : ∃ q, supS s (onlyL l) = q := ⟨_, rfl⟩
 have e12 : onlyL l = (pBit l, oBit l) := rfl
 rw [hs2] at g1 g2 g3 g4 g5
 rw [e12] at hs2
 rw [hs2] at HSu
 dsimp only at g1 g2 g3 g4 g5 HSu
 have HIH := hid (fun (F : Nat → Value) (V : Int → Value) (cv : Value) (w : World) (h : Rft B R M mb F V s2 (zs ++ [l]) cv sv ps w) (hB : B ≤ w.heap.size) => IH F V s2 cv sv ps w b2 h hB hp hd hf2 g2 g1 g3)
 have HBk := hid (fun (W : World) (F : Nat → Value) (V : Int → Value) (s3 : Sv) (h : Sol 0 M mb F V s3 W) (hb : Bas Z nv (zs ++ [l]) s3) => back_impl M mb F V s3 W h hb.full.ok.wfH zs.length (by rw [hb.K]; simp) (fun hlt => hb.stk.le _ (by rw [List.getElem?_eq_getElem hlt]; exact List.getElem_mem hlt)) (fresh_range _ _ hb.stk.tr.fresh) (by have := fresh_most hb.stk.tr.fresh; omega) (by rw [hb.K]; simp; omega))
 have HBo := hid (fun (s3 : Sv) (hb : Bas Z nv (zs ++ [l]) s3) (hK : s3.K = s2.K) (hT : s3.T = s2.T) => opn_back (T' := T') ho hb (hK.trans g4) (hT.trans g5))
 obtain ⟨ca, cc, sa, sc, rfl, rfl, hRl, c0, c1, c2, -⟩ := rft_cells h
 have hzf := h.row.frozen 1
 clear h ho hf hno hd hp g1 g2 g3 g4 g5 hf2 hs2 e12 IH hl hr c2 hCl hKl hZ
 obtain ⟨n, hn9⟩ : ∃ n, zs.length = n := ⟨_, rfl⟩
 have HN := hid hn9
 rw [hn9] at c1 HBk HBo hzm
 have HOwn : Hid (w.ownsRow B 3 1 (.slice ca n cc) n (zs.map (Value.int .i64))) := hid (by have := HR.out.ch; unfold OwnInts at this; rw [hn9] at this; exact this)
 clear hn9
 go_enter Tryz.func57, Tryz.ntmps57
 go_wp2_with (
   at_builtin
   (refine wpList_append_own_at _ rfl _ _ 52 rfl B 3 i0 (.int .i64 0) 1 8 Tryz.underlying52 HI.out HZ0.out HZ1.out HZ2.out rfl (by decide) _ _ _ rfl (World.ownsRow.alloc HOwn.out _) ⟨w.heap.size, 0, none⟩ 1 1 [.int .i64 l] rfl rfl (cell_one_new _ _ _) (fun x hx => by simp at hx; subst hx; rfl) (by unfold maxLen; omega) (by omega) (by simp; omega) ?_)
   intro v9 w9 hown9 hg9 hnil9 hat9
   have HP := hid (HR.out.push hB (by rw [HN.out]; exact hg9) (by rw [HN.out]; exact hown9) (by rw [HN.out]; exact hat9))
   have hR9 : R < w9.heap.size ∧ w9.frozen? ⟨R, 1, none⟩ = false ∧ w9.cell? ⟨R, 1, none⟩ = some (.slice ca n cc) := by
    have h1 : w9.heap[R]? = w.heap[R]? := (hg9.block R (by simp; omega) (fun e => HR.out.cR (by rw [HN.out]; exact e.symm) rfl)).trans (Below.heap_alloc _ _ R (by omega))
    exact ⟨by have := hg9.size; simp at this; omega, by rw [World.frozen?_of_block (a := ⟨R, 1, none⟩) h1]; exact hzf, by rw [World.cell?_of_block (a := ⟨R, 1, none⟩) h1]; exact c1⟩
   obtain ⟨hR9, hf9, hc9⟩ := hR9
   obtain ⟨va9, vc9, hv9, -⟩ := HP.out.1.ch.form
   rw [List.length_append, List.length_singleton, HN.out] at hv9
   subst hv9
   clear hown9 hg9 hnil9 hat9)
 clear c0 c1 hzf hRl hR9 hf9 hc9 HOwn
 obtain ⟨w3, hw3⟩ : ∃ w3, w9.setCell ⟨R, 1, none⟩ (.slice va9 (n + 1) vc9) = w3 := ⟨_, rfl⟩
 rw [hw3]
 rw [hw3] at HP
 clear hw3
 have HR3 := hid HP.out.1
 have HB3 := hid HP.out.2
 obtain ⟨_, _, _, _, -, -, hR3, d0, -, -, -⟩ := rft_cells HR3.out
 have hB3 : B ≤ w3.heap.size := Nat.le_trans hB HB3.out.size
 clear HP HR
 by_cases hc : c = 0
 · subst hc
   go_region_with (first
    | (go_at_call 64; refine (HOn.out _).mono ?_; rintro e1 w4 ⟨rfl, hb4⟩; replace hb4 : Below w3.heap.size w3 w4 := (show Below w3.heap.size w3 _ from (by repeat (first | exact Below.refl _ _ | assumption | refine netSem.bdn ?_ _ | refine Below.drew ?_ | refine Below.alloc ?_ (by first | exact Nat.le_refl _ | omega | (simp; done) | (simp; omega)) _))).trans (hb4.mono (by simp)); have HR4 := hid (HR3.out.below hb4); have d4 := keep hb4 d0; have hR4 : R < w4.heap.size := Nat.lt_of_lt_of_le hR3 hb4.size; have hB4 : B ≤ w4.heap.size := Nat.le_trans hB3 hb4.size; have HB4 := hid (HB3.out.trans (hb4.mono hB3)); clear hb4)
    | (go_at_call 68; refine (HSu.out _ F V (HR4.out.below (show Below w4.heap.size w4 _ from (by repeat (first | exact Below.refl _ _ | assumption | refine netSem.bdn ?_ _ | refine Below.drew ?_ | refine Below.alloc ?_ (by first | exact Nat.le_refl _ | omega | (simp; done) | (simp; omega)) _)))).sol HR4.out.v0).mono ?_; rintro e2 w5 ⟨rfl, F5, V5, q1, qv, q2, -⟩; have HP5 := hid ((HR4.out.below (show Below w4.heap.size w4 _ from (by repeat (first | exact Below.refl _ _ | assumption | refine netSem.bdn ?_ _ | refine Below.drew ?_ | refine Below.alloc ?_ (by first | exact Nat.le_refl _ | omega | (simp; done) | (simp; omega)) _)))).chg q1 qv q2 (by simpa using hB4)); have HR5 := hid HP5.out.1; have HB5 : Hid (Below B w w5) := hid (HB4.out.trans (((show Below w4.heap.size w4 _ from (by repeat (first | exact Below.refl _ _ | assumption | refine netSem.bdn ?_ _ | refine Below.drew ?_ | refine Below.alloc ?_ (by first | exact Nat.le_refl _ | omega | (simp; done) | (simp; omega)) _))).mono hB4).trans HP5.out.2)); have hB5 : B ≤ w5.heap.size := Nat.le_trans hB HB5.out.size; clear q1 qv q2 HP5)
    | (go_at_call 32; refine (HIH.out F5 V5 _ _ (HR5.out.below (show Below w5.heap.size w5 _ from (by repeat (first | exact Below.refl _ _ | assumption | refine netSem.bdn ?_ _ | refine Below.drew ?_ | refine Below.alloc ?_ (by first | exact Nat.le_refl _ | omega | (simp; done) | (simp; omega)) _)))) (by simpa using hB5)).mono ?_; rintro e3 w6 ⟨k1, -, k3⟩; obtain ⟨rfl, F6, V6, s6, cv6, sv6, ps6, k4, k5, k6, ⟨k7, -⟩, k8, k9⟩ := k1 rfl; have HR6 := hid k4; have HB6 : Hid (Below B w w6) := hid (HB5.out.trans (((show Below w5.heap.size w5 _ from (by repeat (first | exact Below.refl _ _ | assumption | refine netSem.bdn ?_ _ | refine Below.drew ?_ | refine Below.alloc ?_ (by first | exact Nat.le_refl _ | omega | (simp; done) | (simp; omega)) _))).mono hB5).trans k3)); have hB6 : B ≤ w6.heap.size := Nat.le_trans hB HB6.out.size; have HBs := hid k7; have HCl := hid k5; have HDl := hid k6; have HBo6 := hid (HBo.out s6 k7 k8 k9); obtain ⟨ca6, cc6, _, _, rfl, -, hR6, f0, f1, -, -⟩ := rft_cells k4; rw [List.length_append, List.length_singleton, HN.out] at HR6 f1; have hcap := chosen_cap HR6.out.ch (by rw [HN.out]); rw [HN.out] at hcap; clear k1 k3 k4 k5 k6 k7 k8 k9))
   all_goals
    go_wp2_with fail
    refine (HBk.out _ F6 V6 _ HR6.out.sol HBs.out).mono ?_
    rintro e w7 ⟨rfl, F7, q1, q2, -⟩
    have HP7 := hid (HR6.out.chg q1 HR6.out.v0 q2 hB6)
    have hB7 : B ≤ w7.heap.size := Nat.le_trans hB6 HP7.out.2.size
    have y1 : w7.cell? ⟨R, 1, none⟩ = some (.slice ca6 (n + 1) cc6) := HP7.out.1.row.cell (i := 1) (by omega)
    have y2 : w7.frozen? ⟨R, 1, none⟩ = false := HP7.out.1.row.frozen 1
    have y3 : R < w7.heap.size := HP7.out.1.row.lt
    have HCut := hid (HP7.out.1.cut (k := n) (by rw [List.length_append, List.length_singleton, HN.out]) (by omega) hB7)
    have et : (zs ++ [l]).take n = zs := by rw [← HN.out]; simp
    rw [et] at HCut
    have HBB : Hid (Below B w w7) := hid (HB6.out.trans HP7.out.2)
    clear q1 q2 et f0 f1 d0 d4
    go_wp2
    go_end0
    exact ⟨fun _ => ⟨rfl, F7, V6, _, _, _, ps6, HCut.out.1, HCl.out, HDl.out, HBo6.out.1, HBo6.out.2.1, HBo6.out.2.2⟩, fun h => absurd rfl h, HBB.out.trans HCut.out.2⟩
 · have HC := hid hc
   go_region_dies
   all_goals rename_i K hK
   · refine (HOn.out _).mono ?_
     rintro e1 w4 ⟨rfl, hb4⟩
     replace hb4 : Below w3.heap.size w3 w4 := (show Below w3.heap.size w3 _ from (by repeat (first | exact Below.refl _ _ | assumption | refine netSem.bdn ?_ _ | refine Below.drew ?_ | refine Below.alloc ?_ (by first | exact Nat.le_refl _ | omega | (simp; done) | (simp; omega)) _))).trans (hb4.mono (by simp))
     have HR4 := hid (HR3.out.below hb4)
     have d4 := keep hb4 d0
     have hR4 : R < w4.heap.size := Nat.lt_of_lt_of_le hR3 hb4.size
     have hB4 : B ≤ w4.heap.size := Nat.le_trans hB3 hb4.size
     have HB4 := hid (HB3.out.trans (hb4.mono hB3))
     clear hb4
     refine hK _ _ ?_
     refine wpAny_ready (rs := [7]) (by kernel_rfl) (by simp) (AllReady.cons rfl (fun K2 hK2 => ?_) AllReady.nil)
     go_simp
     refine (HSu.out _ F V HR4.out.sol HR4.out.v0).mono ?_
     rintro e2 w5 ⟨rfl, F5, V5, q1, qv, q2, -⟩
     have HP5 := hid (HR4.out.chg q1 qv q2 hB4)
     have HR5 := hid HP5.out.1
     have HB5 : Hid (Below B w w5) := hid (HB4.out.trans HP5.out.2)
     have hB5 : B ≤ w5.heap.size := Nat.le_trans hB HB5.out.size
     clear q1 qv q2 HP5
     refine hK2 _ _ ?_
     refine wpAny_ready (rs := [8]) (by kernel_rfl) (by simp) (AllReady.cons rfl (fun K3 hK3 => ?_) AllReady.nil)
     go_simp
     refine (HIH.out F5 V5 _ _ HR5.out hB5).mono ?_
     rintro e3 w6 ⟨-, k2, k3⟩
     replace k2 := k2 hc
     unfold Threw at k2
     subst k2
     exact ⟨rfl, fun h => absurd h HC.out, fun _ => rfl, HB5.out.trans k3⟩
   · refine (HOn.out _).mono ?_
     rintro e1 w4 ⟨rfl, hb4⟩
     replace hb4 : Below w3.heap.size w3 w4 := (show Below w3.heap.size w3 _ from (by repeat (first | exact Below.refl _ _ | assumption | refine netSem.bdn ?_ _ | refine Below.drew ?_ | refine Below.alloc ?_ (by first | exact Nat.le_refl _ | omega | (simp; done) | (simp; omega)) _))).trans (hb4.mono (by simp))
     have HR4 := hid (HR3.out.below hb4)
     have d4 := keep hb4 d0
     have hR4 : R < w4.heap.size := Nat.lt_of_lt_of_le hR3 hb4.size
     have hB4 : B ≤ w4.heap.size := Nat.le_trans hB3 hb4.size
     have HB4 := hid (HB3.out.trans (hb4.mono hB3))
     clear hb4
     refine hK _ _ ?_
     refine wpAny_ready (rs := [4]) (by kernel_rfl) (by simp) (AllReady.cons rfl (fun K1 hK1 => ?_) AllReady.nil)
     go_simp
     refine hK1 _ _ ?_
     refine wpAny_ready (rs := [7]) (by kernel_rfl) (by simp) (AllReady.cons rfl (fun K2 hK2 => ?_) AllReady.nil)
     go_simp
     refine (HSu.out _ F V HR4.out.sol HR4.out.v0).mono ?_
     rintro e2 w5 ⟨rfl, F5, V5, q1, qv, q2, -⟩
     have HP5 := hid (HR4.out.chg q1 qv q2 hB4)
     have HR5 := hid HP5.out.1
     have HB5 : Hid (Below B w w5) := hid (HB4.out.trans HP5.out.2)
     have hB5 : B ≤ w5.heap.size := Nat.le_trans hB HB5.out.size
     clear q1 qv q2 HP5
     refine hK2 _ _ ?_
     refine wpAny_ready (rs := [8]) (by kernel_rfl) (by simp) (AllReady.cons rfl (fun K3 hK3 => ?_) AllReady.nil)
     go_simp
     refine (HIH.out F5 V5 _ _ HR5.out hB5).mono ?_
     rintro e3 w6 ⟨-, k2, k3⟩
     replace k2 := k2 hc
     unfold Threw at k2
     subst k2
     exact ⟨rfl, fun h => absurd h HC.out, fun _ => rfl, HB5.out.trans k3⟩
end Go.Proofs.YtmkhoocokpkojaaGreatDoor.refTry
namespace Go.Proofs.YtmkhoocokpkojaaGreatDoor.refGo
open Go.RowKit Go.Deep Go base copy cnf sets setsOf solSets solMath solMem solOps solTrail solSupI solBackI rowsOwn rupSpec withoutI endI refMem refImpl faultI refConc refOpen refFree refTry
open readSpecP (Pt pcs OwnSteps Lone strip)
open refFace (codeK)
set_option linter.unusedVariables false
set_option linter.unusedSimpArgs false
variable {B R M mb nv : Nat} {Z : List (List Int)}
theorem del_snoc {ps : List Pt} {v : Value} {zs : List Int} (h : ∀ p ∈ ps, p.1 = false) : ∀ p ∈ ps ++ [((false, v, zs) : Pt)], p.1 = false := fun p hp => by
 rcases List.mem_append.1 hp with hp | hp
 · exact h p hp
 · rw [List.mem_singleton] at hp
   rw [hp]
theorem cls_add {ps : List Pt} {v : Value} {zs : List Int} : cls (ps ++ [((false, v, zs) : Pt)]) = cls ps ++ [zs] := by simp [cls]
set_option maxHeartbeats 3200000 in
set_option maxRecDepth 8000 in
theorem refute_impl (hn : nv ≤ 40) (hZ : LitsIn (nv + 1) Z) (hZl : Z.length ≤ 300) {zs : List Int} {p : List (List Int)} {c : Nat} {p' : List (List Int)} (hg : Goes Z nv zs p c p') : RefuteAt B R M mb Z nv zs p c p' := by
 induction hg with
 | @shut zs p hat h12 hp =>
  intro F V s cv sv ps w failed h hB hcl hd hf hb hfa ho
  obtain rfl : failed = true := hfa.2 hat
  rw [← hcl, cls_len] at hp
  have HC := hid (conc_so h hB (fun z hz => by have := hf.1 z hz; exact decide_eq_true ⟨by omega, by omega, by omega⟩) h12 hp)
  clear h
  go_enter Tryz.func32, Tryz.ntmps32
  go_wp2_with fail
  refine HC.out.mono ?_
  rintro e w1 ⟨rfl, ⟨sv', yv, k1⟩, k2⟩
  have HE := hid (And.intro k1 k2)
  clear k1 k2
  go_wp2
  go_end0
  exact ⟨fun _ => ⟨rfl, F, V, s, cv, sv', _, HE.out.1, by rw [cls_add, hcl], del_snoc hd, ⟨hb, fun h => by cases h⟩, rfl, rfl⟩, fun h => absurd rfl h, HE.out.2⟩
 | @shutM zs p hat hor =>
  intro F V s cv sv ps w failed h hB hcl hd hf hb hfa ho
  obtain rfl : failed = true := hfa.2 hat
  rw [← hcl, cls_len] at hor
  have HC := hid (conc_not h hor)
  have HB0 := hid hB
  clear h
  go_enter Tryz.func32, Tryz.ntmps32
  go_wp2_with fail
  refine HC.out.mono ?_
  rintro e w1 ⟨k1, k2⟩
  unfold Threw at k1
  subst k1
  have HE := hid (k2.mono hB)
  clear k2
  go_wp2
  exact ⟨rfl, fun h => absurd h (by decide), fun _ => rfl, HE.out⟩
 | @model zs p hat hall =>
  intro F V s cv sv ps w failed h hB hcl hd hf hb hfa ho
  obtain rfl : failed = false := by
   cases failed with
   | false => rfl
   | true => have := hfa.1 rfl; omega
  replace ho := ho rfl
  have HR := hid h
  have HO := hid ho
  have HFr := hid (free_impl M mb F V s w h.sol nv ho.bas.n hn ho.bas.full.ok.wfH)
  obtain ⟨ca, cc, sa, sc, rfl, rfl, hRl, c0, -, -, -⟩ := rft_cells h
  have HNone : Hid (∀ i, 1 ≤ i → i ≤ nv → ¬ NoVal s.H i) := hid (fun i h1 h2 hno => hall i h1 h2 ((free_at ho hn hZ hf hat h1).2 hno))
  clear h hall hfa hb ho hat
  go_enter Tryz.func32, Tryz.ntmps32
  go_wp2_with fail
  refine HFr.out.mono ?_
  rintro e w1 ⟨r, rfl, hb1, hr⟩
  have er : 0 = r := by
   rcases hr with ⟨h0, _⟩ | ⟨h1, h2, h3, h4⟩
   · exact h0.symm
   · exact absurd h3 (HNone.out r h1 h2)
  subst er
  have HE := hid (hb1.mono hB)
  clear hb1 hr c0
  go_wp2_with fail
  refine (must_not 6 _).mono ?_
  rintro e w2 ⟨rfl, rfl⟩
  go_wp2
  exact ⟨rfl, fun h => absurd h (by decide), fun _ => rfl, HE.out⟩
 | @left zs p q c p1 hat hop hl1 hc ih1 =>
  intro F V s cv sv ps w failed h hB hcl hd hf hb hfa ho
  obtain rfl : failed = false := by
   cases failed with
   | false => rfl
   | true => have := hfa.1 rfl; omega
  replace ho := ho rfl
  have HR := hid h
  have HO := hid ho
  have HFr := hid (free_impl M mb F V s w h.sol nv ho.bas.n hn ho.bas.full.ok.wfH)
  obtain ⟨ca, cc, sa, sc, rfl, rfl, hRl, c0, -, -, -⟩ := rft_cells h
  obtain ⟨hq1, hq2, hq3, hq4⟩ := hop
  have hNo : NoVal s.H q := (free_at ho hn hZ hf hat hq1).1 hq3
  have HMin : Hid (∀ i, 1 ≤ i → i < q → ¬ NoVal s.H i) := hid (fun i h1 h2 hno => hq4 i h1 h2 ((free_at ho hn hZ hf hat h1).2 hno))
  have HNo := hid hNo
  have HT1 := hid (fun (w : World) (h : Rft B R M mb F V s zs (.slice ca zs.length cc) (.slice sa ps.length sc) ps w) (hB : B ≤ w.heap.size) => try_impl (l := -(q : Int)) ih1 hn hZ hZl h hB hcl hd hf ho (by omega) (by omega) ⟨hNo.2, by rw [Int.neg_neg]; exact hNo.1⟩)
  have hq0 : ((q : Int) != 0) = true := by simp; omega
  clear h hNo hq3 hq4 hfa hb ho hat
  go_enter Tryz.func32, Tryz.ntmps32
  go_wp2_with fail
  refine HFr.out.mono ?_
  rintro e w1 ⟨r, rfl, hb1, hr⟩
  have er : q = r := by
   rcases hr with ⟨_, hall⟩ | ⟨h1, h2, h3, h4⟩
   · exact absurd HNo.out (hall q hq1 hq2)
   · rcases Nat.lt_trichotomy r q with h | h | h
     · exact absurd h3 (HMin.out r h1 h)
     · exact h.symm
     · exact absurd HNo.out (h4 q hq1 h)
  subst er
  have HR1 := hid (HR.out.below hb1)
  have hB1 : B ≤ w1.heap.size := Nat.le_trans hB hb1.size
  have HB1 := hid (hb1.mono hB)
  clear hb1 hr c0
  go_wp2_with fail
  refine (must_so 6 _).mono ?_
  rintro e w2 ⟨rfl, hw⟩
  have hw := hw.symm
  subst hw
  go_wp2_with fail
  refine (HT1.out _ HR1.out hB1).mono ?_
  rintro e w2 hT
  have k2 := hT.2.1 hc
  unfold Threw at k2
  subst k2
  have HE := hid (HB1.out.trans hT.2.2)
  clear hT
  go_wp2
  exact ⟨rfl, fun h => absurd h hc, fun _ => rfl, HE.out⟩
 | @right zs p q c p1 p2 hat hop hl1 hl2 hc ih1 ih2 =>
  intro F V s cv sv ps w failed h hB hcl hd hf hb hfa ho
  obtain rfl : failed = false := by
   cases failed with
   | false => rfl
   | true => have := hfa.1 rfl; omega
  replace ho := ho rfl
  have HR := hid h
  have HO := hid ho
  have HFr := hid (free_impl M mb F V s w h.sol nv ho.bas.n hn ho.bas.full.ok.wfH)
  obtain ⟨ca, cc, sa, sc, rfl, rfl, hRl, c0, -, -, -⟩ := rft_cells h
  obtain ⟨hq1, hq2, hq3, hq4⟩ := hop
  have hNo : NoVal s.H q := (free_at ho hn hZ hf hat hq1).1 hq3
  have HMin : Hid (∀ i, 1 ≤ i → i < q → ¬ NoVal s.H i) := hid (fun i h1 h2 hno => hq4 i h1 h2 ((free_at ho hn hZ hf hat h1).2 hno))
  have HNo := hid hNo
  have HT1 := hid (fun (w : World) (h : Rft B R M mb F V s zs (.slice ca zs.length cc) (.slice sa ps.length sc) ps w) (hB : B ≤ w.heap.size) => try_impl (l := -(q : Int)) ih1 hn hZ hZl h hB hcl hd hf ho (by omega) (by omega) ⟨hNo.2, by rw [Int.neg_neg]; exact hNo.1⟩)
  have hq0 : ((q : Int) != 0) = true := by simp; omega
  clear h hNo hq3 hq4 hfa hb ho hat
  go_enter Tryz.func32, Tryz.ntmps32
  go_wp2_with fail
  refine HFr.out.mono ?_
  rintro e w1 ⟨r, rfl, hb1, hr⟩
  have er : q = r := by
   rcases hr with ⟨_, hall⟩ | ⟨h1, h2, h3, h4⟩
   · exact absurd HNo.out (hall q hq1 hq2)
   · rcases Nat.lt_trichotomy r q with h | h | h
     · exact absurd h3 (HMin.out r h1 h)
     · exact h.symm
     · exact absurd HNo.out (h4 q hq1 h)
  subst er
  have HR1 := hid (HR.out.below hb1)
  have hB1 : B ≤ w1.heap.size := Nat.le_trans hB hb1.size
  have HB1 := hid (hb1.mono hB)
  clear hb1 hr c0
  go_wp2_with fail
  refine (must_so 6 _).mono ?_
  rintro e w2 ⟨rfl, hw⟩
  have hw := hw.symm
  subst hw
  go_wp2_with fail
  refine (HT1.out _ HR1.out hB1).mono ?_
  rintro e w2 hT
  obtain ⟨rfl, F2, V2, s2, cv2, sv2, ps2, k1, k2, k3, k4, k5, k6⟩ := hT.1 rfl
  have HR2 := hid k1
  have HB2 := hid (HB1.out.trans hT.2.2)
  have hB2 : B ≤ w2.heap.size := Nat.le_trans hB HB2.out.size
  have eH : s2.H = s.H := by rw [k4.bas.stk.tr.h, HO.out.bas.stk.tr.h, k6]
  have HT2 := hid (try_impl (l := (q : Int)) ih2 hn hZ hZl k1 hB2 k2 k3 hf k4 (by omega) (by omega) (by rw [eH]; exact HNo.out))
  have HK := hid (And.intro k5 k6)
  clear hT k1 k2 k3 k4 k5 k6 eH
  go_wp2_with fail
  refine HT2.out.mono ?_
  rintro e w3 hT
  have k2 := hT.2.1 hc
  unfold Threw at k2
  subst k2
  have HE := hid (HB2.out.trans hT.2.2)
  clear hT
  go_wp2
  exact ⟨rfl, fun h => absurd h hc, fun _ => rfl, HE.out⟩
 | @both zs p q p1 p2 hat hop hl1 hl2 h12 hp ih1 ih2 =>
  intro F V s cv sv ps w failed h hB hcl hd hf hb hfa ho
  obtain rfl : failed = false := by
   cases failed with
   | false => rfl
   | true => have := hfa.1 rfl; omega
  replace ho := ho rfl
  have HR := hid h
  have HO := hid ho
  have HFr := hid (free_impl M mb F V s w h.sol nv ho.bas.n hn ho.bas.full.ok.wfH)
  obtain ⟨ca, cc, sa, sc, rfl, rfl, hRl, c0, -, -, -⟩ := rft_cells h
  obtain ⟨hq1, hq2, hq3, hq4⟩ := hop
  have hNo : NoVal s.H q := (free_at ho hn hZ hf hat hq1).1 hq3
  have HMin : Hid (∀ i, 1 ≤ i → i < q → ¬ NoVal s.H i) := hid (fun i h1 h2 hno => hq4 i h1 h2 ((free_at ho hn hZ hf hat h1).2 hno))
  have HNo := hid hNo
  have HT1 := hid (fun (w : World) (h : Rft B R M mb F V s zs (.slice ca zs.length cc) (.slice sa ps.length sc) ps w) (hB : B ≤ w.heap.size) => try_impl (l := -(q : Int)) ih1 hn hZ hZl h hB hcl hd hf ho (by omega) (by omega) ⟨hNo.2, by rw [Int.neg_neg]; exact hNo.1⟩)
  have hq0 : ((q : Int) != 0) = true := by simp; omega
  clear h hNo hq3 hq4 hfa hb ho hat
  go_enter Tryz.func32, Tryz.ntmps32
  go_wp2_with fail
  refine HFr.out.mono ?_
  rintro e w1 ⟨r, rfl, hb1, hr⟩
  have er : q = r := by
   rcases hr with ⟨_, hall⟩ | ⟨h1, h2, h3, h4⟩
   · exact absurd HNo.out (hall q hq1 hq2)
   · rcases Nat.lt_trichotomy r q with h | h | h
     · exact absurd h3 (HMin.out r h1 h)
     · exact h.symm
     · exact absurd HNo.out (h4 q hq1 h)
  subst er
  have HR1 := hid (HR.out.below hb1)
  have hB1 : B ≤ w1.heap.size := Nat.le_trans hB hb1.size
  have HB1 := hid (hb1.mono hB)
  clear hb1 hr c0
  go_wp2_with fail
  refine (must_so 6 _).mono ?_
  rintro e w2 ⟨rfl, hw⟩
  have hw := hw.symm
  subst hw
  go_wp2_with fail
  refine (HT1.out _ HR1.out hB1).mono ?_
  rintro e w2 hT
  obtain ⟨rfl, F2, V2, s2, cv2, sv2, ps2, k1, k2, k3, k4, k5, k6⟩ := hT.1 rfl
  have HR2 := hid k1
  have HB2 := hid (HB1.out.trans hT.2.2)
  have hB2 : B ≤ w2.heap.size := Nat.le_trans hB HB2.out.size
  have eH : s2.H = s.H := by rw [k4.bas.stk.tr.h, HO.out.bas.stk.tr.h, k6]
  have HT2 := hid (try_impl (l := (q : Int)) ih2 hn hZ hZl k1 hB2 k2 k3 hf k4 (by omega) (by omega) (by rw [eH]; exact HNo.out))
  have HK := hid (And.intro k5 k6)
  clear hT k1 k2 k3 k4 k5 k6 eH
  go_wp2_with fail
  refine HT2.out.mono ?_
  rintro e w3 hT
  obtain ⟨rfl, F3, V3, s3, cv3, sv3, ps3, k1, k2, k3, k4, k5, k6⟩ := hT.1 rfl
  have HR3 := hid k1
  have HB3 := hid (HB2.out.trans hT.2.2)
  have hB3 : B ≤ w3.heap.size := Nat.le_trans hB HB3.out.size
  have HC3 := hid k2
  have HD3 := hid k3
  have HO3 := hid k4
  have HK3 := hid (And.intro (k5.trans HK.out.1) (k6.trans HK.out.2))
  rw [← k2, cls_len] at hp
  clear hT k1 k2 k3 k4 k5 k6
  have HC := hid (conc_so HR3.out hB3 (fun z hz => by have := hf.1 z hz; exact decide_eq_true ⟨by omega, by omega, by omega⟩) h12 hp)
  go_wp2_with fail
  refine HC.out.mono ?_
  rintro e w4 ⟨rfl, ⟨sv', yv, k1⟩, k2⟩
  have HE := hid (And.intro k1 (HB3.out.trans k2))
  clear k1 k2
  go_wp2
  go_end0
  exact ⟨fun _ => ⟨rfl, F3, V3, s3, cv3, sv', _, HE.out.1, by rw [cls_add, HC3.out], del_snoc HD3.out, ⟨HO3.out.bas, fun _ => HO3.out⟩, HK3.out.1, HK3.out.2⟩, fun h => absurd rfl h, HE.out.2⟩
 | @bothM zs p q p1 p2 hat hop hl1 hl2 hor ih1 ih2 =>
  intro F V s cv sv ps w failed h hB hcl hd hf hb hfa ho
  obtain rfl : failed = false := by
   cases failed with
   | false => rfl
   | true => have := hfa.1 rfl; omega
  replace ho := ho rfl
  have HR := hid h
  have HO := hid ho
  have HFr := hid (free_impl M mb F V s w h.sol nv ho.bas.n hn ho.bas.full.ok.wfH)
  obtain ⟨ca, cc, sa, sc, rfl, rfl, hRl, c0, -, -, -⟩ := rft_cells h
  obtain ⟨hq1, hq2, hq3, hq4⟩ := hop
  have hNo : NoVal s.H q := (free_at ho hn hZ hf hat hq1).1 hq3
  have HMin : Hid (∀ i, 1 ≤ i → i < q → ¬ NoVal s.H i) := hid (fun i h1 h2 hno => hq4 i h1 h2 ((free_at ho hn hZ hf hat h1).2 hno))
  have HNo := hid hNo
  have HT1 := hid (fun (w : World) (h : Rft B R M mb F V s zs (.slice ca zs.length cc) (.slice sa ps.length sc) ps w) (hB : B ≤ w.heap.size) => try_impl (l := -(q : Int)) ih1 hn hZ hZl h hB hcl hd hf ho (by omega) (by omega) ⟨hNo.2, by rw [Int.neg_neg]; exact hNo.1⟩)
  have hq0 : ((q : Int) != 0) = true := by simp; omega
  clear h hNo hq3 hq4 hfa hb ho hat
  go_enter Tryz.func32, Tryz.ntmps32
  go_wp2_with fail
  refine HFr.out.mono ?_
  rintro e w1 ⟨r, rfl, hb1, hr⟩
  have er : q = r := by
   rcases hr with ⟨_, hall⟩ | ⟨h1, h2, h3, h4⟩
   · exact absurd HNo.out (hall q hq1 hq2)
   · rcases Nat.lt_trichotomy r q with h | h | h
     · exact absurd h3 (HMin.out r h1 h)
     · exact h.symm
     · exact absurd HNo.out (h4 q hq1 h)
  subst er
  have HR1 := hid (HR.out.below hb1)
  have hB1 : B ≤ w1.heap.size := Nat.le_trans hB hb1.size
  have HB1 := hid (hb1.mono hB)
  clear hb1 hr c0
  go_wp2_with fail
  refine (must_so 6 _).mono ?_
  rintro e w2 ⟨rfl, hw⟩
  have hw := hw.symm
  subst hw
  go_wp2_with fail
  refine (HT1.out _ HR1.out hB1).mono ?_
  rintro e w2 hT
  obtain ⟨rfl, F2, V2, s2, cv2, sv2, ps2, k1, k2, k3, k4, k5, k6⟩ := hT.1 rfl
  have HR2 := hid k1
  have HB2 := hid (HB1.out.trans hT.2.2)
  have hB2 : B ≤ w2.heap.size := Nat.le_trans hB HB2.out.size
  have eH : s2.H = s.H := by rw [k4.bas.stk.tr.h, HO.out.bas.stk.tr.h, k6]
  have HT2 := hid (try_impl (l := (q : Int)) ih2 hn hZ hZl k1 hB2 k2 k3 hf k4 (by omega) (by omega) (by rw [eH]; exact HNo.out))
  have HK := hid (And.intro k5 k6)
  clear hT k1 k2 k3 k4 k5 k6 eH
  go_wp2_with fail
  refine HT2.out.mono ?_
  rintro e w3 hT
  obtain ⟨rfl, F3, V3, s3, cv3, sv3, ps3, k1, k2, k3, k4, k5, k6⟩ := hT.1 rfl
  have HR3 := hid k1
  have HB3 := hid (HB2.out.trans hT.2.2)
  have hB3 : B ≤ w3.heap.size := Nat.le_trans hB HB3.out.size
  have HC3 := hid k2
  have HD3 := hid k3
  have HO3 := hid k4
  have HK3 := hid (And.intro (k5.trans HK.out.1) (k6.trans HK.out.2))
  rw [← k2, cls_len] at hor
  clear hT k1 k2 k3 k4 k5 k6
  have HC := hid (conc_not HR3.out hor)
  go_wp2_with fail
  refine HC.out.mono ?_
  rintro e w4 ⟨k1, k2⟩
  unfold Threw at k1
  subst k1
  have HE := hid (HB3.out.trans (k2.mono hB3))
  clear k2
  go_wp2
  exact ⟨rfl, fun h => absurd h (by decide), fun _ => rfl, HE.out⟩
end Go.Proofs.YtmkhoocokpkojaaGreatDoor.refGo
namespace Go.Proofs.YtmkhoocokpkojaaGreatDoor.refStart
open Go.RowKit Go.Deep Go base copy cnf sets setsOf solSets solMath solHold solProp solClose solTrail chkNew chkMath rupSpec refImpl refMath refOpen
set_option linter.unusedVariables false
set_option linter.unusedSimpArgs false
variable {Z : List (List Int)} {nv : Nat} {s : Sv}
theorem sub_none (H : LS) : Sub (setL []) H := fun l hl => by
 rw [mem_set (fun z hz => by cases hz)] at hl
 simp at hl
theorem opn_start (hn : nv ≤ 40) (hZ : LitsIn (nv + 1) Z) (h : Chk (Z.map setL) s) (hs : s.n = (nv : Int)) : Fit nv [] ∧ Bas Z nv [] s ∧ (s.F ≠ -1 ↔ 0 ≤ atF Z nv []) ∧ (s.F = -1 → Opn Z nv [] s) := by
 have hfit : Fit nv [] := ⟨fun z hz => (by cases hz), fun l hl => by
  rw [mem_set (fun z hz => by cases hz)] at hl
  simp at hl⟩
 have hb : Bas Z nv [] s := ⟨h.full, h.C, hs, h.stk, by rw [h.K]; rfl⟩
 obtain ⟨b1, -⟩ := facts hn hZ hfit.1 hfit.2
 have ho : s.F = -1 → Opn Z nv [] s := fun hF => ⟨hb, hF, h.still.resolve_left (fun e => e hF), sub_none _, fun H h1 _ => h.least H h1, by simp⟩
 refine ⟨hfit, hb, ?_, ho⟩
 constructor
 · intro hF
   have : ¬ atF Z nv [] < 0 := fun hlt => by
    obtain ⟨H, h1, h2⟩ := b1.1 hlt
    exact hF (full_ok h.full (by rw [h.C]; exact h1) (h.least H h1))
   omega
 · intro hat hF
   have := b1.2 ⟨s.H, (ho hF).closed, sub_none _⟩
   omega
end Go.Proofs.YtmkhoocokpkojaaGreatDoor.refStart
namespace Go.Proofs.YtmkhoocokpkojaaGreatDoor.drawnFree
open Go Go.RowKit base heldStore drawn drawnLin drawnSrc drawnMk
set_option linter.unusedVariables false
variable {P : Program} {ops : Array Oper} {Q : Exit → Act → World → Prop}
theorem region_free {id : Nat} {a : Act} {w : World} (A : (Nat → Value) → Act) (s : Nat → Option Nat) (Inv : (Nat → Bool) → (Nat → Value) → World → Prop) (n : Nat) (u0 : Nat → Value) (ha : a = A u0)
  (hm : P.follows .mixedOrders = true) (hz : ops.size = n) (hup : upC ops = true) (hS : Inv (fun _ => false) u0 w.drew)
  (hput : ∀ i, i < n → ∀ u v, (A u).put (s i) v = A (updO u (s i) v))
  (step : ∀ i, i < n → ∀ L u w, L i = false → (∀ j, Region.waitsFor .any ops i j = true → L j = true) → Inv L u w → ∃ o, ops[i]? = some o ∧ ∀ K' : Act → World → Prop, Shut (∀ v w', Inv (come L i) (updO u (s i) v) w' → K' ((A u).put (s i) v) w') → if Region.wanted o (yielded ops (A u).tmps) = true then Oper.wp P o (A u) w K' Q else K' ((A u).put o.dst undef) w)
  (fin : ∀ L u w, (∀ j, j < n → L j = true) → Inv L u w → Q .normal (A u) w) :
  (Code.region id ops true).wp P Q a w := by
 subst ha
 refine wp_region_any hm ?_
 rw [hz]
 refine any_free (Inv := Inv) hz hup hput ?_ ?_ _ _ _ _ ?_ (by simp) ?_
 · exact step
 · exact fin
 · simp [falses_replicate]
 · have : (fun j => (Array.replicate n false).getD j false) = fun _ => false := by funext j; exact getD_replicate_false _ _
   rw [this]
   exact hS
end Go.Proofs.YtmkhoocokpkojaaGreatDoor.drawnFree
