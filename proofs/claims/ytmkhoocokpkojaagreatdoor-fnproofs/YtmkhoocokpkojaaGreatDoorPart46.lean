import Derived.Test.YtmkhoocokpkojaaGreatDoorPart45
import Derived.Test.YtmkhoocokpkojaaGreatDoorRefImpl
import Derived.Test.YtmkhoocokpkojaaGreatDoorPart44
import Derived.Test.YtmkhoocokpkojaaGreatDoorPart33
import Derived.Test.YtmkhoocokpkojaaGreatDoorPart17
import Derived.Test.YtmkhoocokpkojaaGreatDoorPart16
namespace Go.Proofs.YtmkhoocokpkojaaGreatDoor.refConc
open Go.RowKit Go.Deep Go base copy sets setsOf solSets solMath solMem solOps rowsOwn withoutI endI refMem refImpl faultI
open readSpecP (Pt pcs OwnSteps Lone strip)
set_option linter.unusedVariables false
set_option linter.unusedSimpArgs false
variable {B R M mb : Nat} {F : Nat → Value} {V : Int → Value} {s : Sv} {zs : List Int} {cv sv : Value} {ps : List Pt} {w w1 : World}
def Threw (c : Int) (e : Ending) : Prop := e = .panicked [{ v := faultW c 0, recovered := false }]
theorem rft_cells (h : Rft B R M mb F V s zs cv sv ps w) : ∃ ca cc sa sc, cv = .slice ca zs.length cc ∧ sv = .slice sa ps.length sc ∧ R < w.heap.size ∧ w.cell? ⟨R, 0, none⟩ = some (.pointer (some ⟨M, 0, none⟩)) ∧ w.cell? ⟨R, 1, none⟩ = some (.slice ca zs.length cc) ∧ w.cell? ⟨R, 2, none⟩ = some (.slice sa ps.length sc) ∧ IntRow w ca zs.length zs := by
 obtain ⟨ca, cc, e1, hr⟩ := h.ch.form
 obtain ⟨sa, sc, e2⟩ := refSem.steps_form h.st
 subst e1 e2
 exact ⟨ca, cc, sa, sc, rfl, rfl, h.row.lt, h.row.cell (i := 0) (by omega), h.row.cell (i := 1) (by omega), h.row.cell (i := 2) (by omega), hr⟩
set_option maxHeartbeats 1600000 in
theorem conc_not (h : Rft B R M mb F V s zs cv sv ps w) (hno : 12 < zs.length ∨ ps.length = 200) :
  Calls Tryz.prog 58 #[.pointer (some ⟨R, 0, none⟩)] w fun e w' => Threw 7 e ∧ Below w.heap.size w w' := by
 have h200 := h.few
 obtain ⟨ca, cc, sa, sc, rfl, rfl, hR, c0, c1, c2, -⟩ := rft_cells h
 clear h
 by_cases hp : ps.length < 200
 · have hp' : decide ((ps.length : Int) < 200) = true := decide_eq_true (by omega)
   have hz' : decide ((zs.length : Int) ≤ 12) = false := decide_eq_false (by omega)
   generalize ps.length = pl at *
   generalize zs.length = zl at *
   have hpi : (pl : Int) < 200 := by omega
   have hzi : ¬ (zl : Int) ≤ 12 := by omega
   clear hno h200 hp
   go_enter Tryz.func58, Tryz.ntmps58
   go_wp2_with fail
   refine (must_not 7 _).mono ?_
   rintro e w1 ⟨rfl, rfl⟩
   go_wp2
   exact ⟨rfl, rfl, Below.refl _ _⟩
 · have hp' : decide ((ps.length : Int) < 200) = false := decide_eq_false (by omega)
   generalize ps.length = pl at *
   generalize zs.length = zl at *
   have hpi : ¬ (pl : Int) < 200 := by omega
   clear hno h200 hp
   go_enter Tryz.func58, Tryz.ntmps58
   go_wp2_with fail
   refine (must_not 7 _).mono ?_
   rintro e w1 ⟨rfl, rfl⟩
   go_wp2
   exact ⟨rfl, rfl, Below.refl _ _⟩
set_option maxHeartbeats 6400000 in
set_option maxRecDepth 100000 in
theorem conc_so (h : Rft B R M mb F V s zs cv sv ps w) (hB : B ≤ w.heap.size) (hl : ∀ z ∈ zs, cnf.litB 40 z = true) (h12 : zs.length ≤ 12) (hp : ps.length < 200) :
  Calls Tryz.prog 58 #[.pointer (some ⟨R, 0, none⟩)] w fun e w' => e = .returned (.tuple #[]) ∧ (∃ sv' yv, Rft B R M mb F V s zs cv sv' (ps ++ [(false, yv, zs.map fun z => -z)]) w') ∧ Below B w w' := by
 obtain ⟨i0, hi, hzz⟩ := Option.map_eq_some_iff.1 Tryz.info_int
 simp only [Prod.mk.injEq] at hzz
 obtain ⟨hz0, hz1, hz2⟩ := hzz
 have HI := hid hi
 have HZ0 := hid hz0
 have HZ1 := hid hz1
 have HZ2 := hid hz2
 clear hi hz0 hz1 hz2
 obtain ⟨j0, hi, hzz⟩ := Option.map_eq_some_iff.1 readSpecP.step_info
 simp only [Prod.mk.injEq] at hzz
 obtain ⟨hz0, hz1, hz2⟩ := hzz
 have HJ := hid hi
 have HJ0 := hid hz0
 have HJ1 := hid hz1
 have HJ2 := hid hz2
 clear hi hz0 hz1 hz2
 have HR := hid h
 have HL := hid hl
 obtain ⟨ca, cc, sa, sc, rfl, rfl, hRl, c0, c1, c2, hcm⟩ := rft_cells h
 have HCm := hid hcm
 clear hcm
 obtain ⟨k, hk⟩ : ∃ k, zs.length = k := ⟨_, rfl⟩
 obtain ⟨pl, hpl⟩ : ∃ k, ps.length = k := ⟨_, rfl⟩
 rw [hk] at HR HCm c1
 rw [hpl] at HR c2
 have HLz := hid hk
 have HPl := hid hpl
 have hpi : (pl : Int) < 200 := by omega
 have hzi : (k : Int) ≤ 12 := by omega
 have hp9 : pl < 200 := by omega
 have hk9 : k ≤ 12 := by omega
 clear h hl h12 hp hk hpl c0
 go_enter Tryz.func58, Tryz.ntmps58
 go_wp2_with fail
 refine (must_so 7 _).mono ?_
 rintro e w1 ⟨rfl, hw1⟩
 have hw1 := hw1.symm
 subst hw1
 go_wp2
 go_loopw [25, 2] (fun i x wr => ∃ j : Nat, j ≤ k ∧ i = .int .i64 j ∧ OwnInts w.heap.size wr x (negs zs j) ∧ Below w.heap.size w wr) (fun i _ _ => k - (intOf i).toNat)
 case atStart => exact ⟨0, Nat.zero_le _, rfl, ⟨rfl, .inl ⟨rfl, rfl⟩⟩, Below.refl _ _⟩
 case round =>
  rename_i x
  obtain ⟨j, hk, rfl, hox, hbel⟩ := hrel
  have HO := hid hox
  have HB := hid hbel
  have hnl : (negs zs j).length = j := negs_len (by rw [HLz.out]; exact hk)
  obtain ⟨xa, xc, hxe, -⟩ := hox.form
  rw [hnl] at hxe
  subst hxe
  have HNl := hid hnl
  have hszw := hbel.size
  clear hox hnl
  by_cases hlt : j < k
  · obtain ⟨cb, co, hce, hcc⟩ := HCm.out.cell j hlt
    subst hce
    have hc := keep hbel hcc
    have HNs := hid (negs_succ (zs := zs) (k := j) (by rw [HLz.out]; exact hlt))
    have hzk := HL.out (zs[j]?.getD 0) (by rw [List.getElem?_eq_getElem (by rw [HLz.out]; exact hlt)]; exact List.getElem_mem _)
    have hzr : -(40 : Int) ≤ zs[j]?.getD 0 ∧ zs[j]?.getD 0 ≤ 40 := (of_decide_eq_true hzk : zs[j]?.getD 0 ≠ 0 ∧ -(40 : Int) ≤ zs[j]?.getD 0 ∧ zs[j]?.getD 0 ≤ 40).2
    clear hcc hzk hbel
    generalize zs[j]?.getD 0 = z at *
    obtain ⟨z0, z1⟩ := hzr
    go_wp2_with (at_builtin; (refine wpList_append_own _ rfl _ _ 52 rfl w.heap.size 3 i0 (.int .i64 0) 1 8 Tryz.underlying52 HI.out HZ0.out HZ1.out HZ2.out rfl (by decide) _ j _ rfl (by have h9 := World.ownsRow.alloc HO.out (.cells #[.int .i64 (-z)] 3); rw [HNl.out] at h9; exact h9) ⟨wr.heap.size, 0, none⟩ 1 1 [.int .i64 (-z)] rfl rfl (cell_one_new _ _ _) (fun x hx => by simp at hx; subst hx; rfl) (by unfold maxLen; omega) (by omega) (by simp; omega) ?_); intro v' w9 hown' hgrow9 hnil9)
    have HO9 : Hid (OwnInts w.heap.size w9 v' (negs zs (j + 1))) := hid (by
     unfold OwnInts
     rw [HNs.out, List.length_append, List.map_append, HNl.out]
     exact hown')
    have hba : Below w.heap.size w (wr.alloc (.cells #[.int .i64 (-z)] 3)) := HB.out.alloc HB.out.size _
    have HB9 : Hid (Below w.heap.size w w9) := hid (hba.grown hgrow9 (by simp; omega) (fun j hj => (World.ownsRow.lt HO.out j hj).1))
    clear hown' hgrow9 hnil9 hba
    go_wp2
    go_roundw
    case rel => exact ⟨j + 1, by omega, by go_num, HO9.out, HB9.out⟩
    case measure => simp [intOf]; omega
  · obtain rfl : j = k := by omega
    have c2' := keep hbel c2
    have hRl' : R < wr.heap.size := Nat.lt_of_lt_of_le hRl hszw
    have HSt : Hid (wr.ownsRow B 79 2 (.slice sa pl sc) pl (ps.flatMap pcs)) := hid (by have := (HR.out.below HB.out).st.outer; rw [HPl.out] at this; exact this)
    have HBw : Hid (B ≤ wr.heap.size) := hid (Nat.le_trans hB hszw)
    have hfz : wr.frozen? ⟨R, 2, none⟩ = false := (HR.out.below HB.out).row.frozen 2
    have HY : Hid (OwnInts w.heap.size wr (.slice xa j xc) (zs.map fun z => -z)) := hid (by
     have := HO.out
     unfold negs at this
     rw [List.take_of_length_le (Nat.le_of_eq HLz.out)] at this
     exact this)
    clear hbel c1 c2
    go_wp2_with (
      at_builtin
      (refine wpList_append_own_at _ rfl _ _ 28 rfl B 79 j0 _ 2 32 Tryz.underlying28 HJ.out HJ0.out HJ1.out HJ2.out rfl (by decide) _ _ _ rfl (World.ownsRow.alloc HSt.out _) ⟨_, 0, none⟩ 1 1 [.bool false, .slice xa j xc] rfl rfl (readSpecP.two_at (by simp [go_sem]) (by simp [go_sem])) (fun x hx => by simp at hx; rcases hx with rfl | rfl <;> rfl) (by unfold maxLen; omega) (by omega) (by have := HBw.out; simp; omega) ?_)
      intro v9 w9 hown9 hg9 hnil9 hat9
      have HFin := hid (HR.out.add hB HB.out HY.out hg9 (by rw [HPl.out]; exact hown9) hat9 (by rw [HPl.out]; exact hp9))
      have hR9 : R < w9.heap.size ∧ w9.frozen? ⟨R, 2, none⟩ = false ∧ w9.cell? ⟨R, 2, none⟩ = some (.slice sa pl sc) := by
       have h1 : w9.heap[R]? = wr.heap[R]? := (hg9.block R (by simp; omega) (fun e => (HR.out.below HB.out).sR e.symm rfl)).trans (Below.heap_alloc _ _ R (by omega))
       exact ⟨by have := hg9.size; simp at this; omega, by rw [World.frozen?_of_block (a := ⟨R, 2, none⟩) h1]; exact hfz, by rw [World.cell?_of_block (a := ⟨R, 2, none⟩) h1]; exact c2'⟩
      obtain ⟨hR9, hf9, hc9⟩ := hR9
      obtain ⟨sa9, sc9, hv9⟩ := refSem.steps_form HFin.out.1.st
      simp only [List.length_append, List.length_cons, List.length_nil, Nat.zero_add] at hv9
      subst hv9
      clear hown9 hg9 hnil9 hat9)
    go_wp2
    go_end0
    exact ⟨rfl, ⟨_, _, by rw [HLz.out]; exact HFin.out.1⟩, HFin.out.2⟩
end Go.Proofs.YtmkhoocokpkojaaGreatDoor.refConc
namespace Go.Proofs.YtmkhoocokpkojaaGreatDoor.refMath
open Go.RowKit Go.Deep Go base copy cnf sets setsOf solSets solMath solHold solProp solNew solClose solTrail chkMath rowsOwn runS runL solRun rupSpec refSem refImpl
set_option linter.unusedVariables false
set_option linter.unusedSimpArgs false
theorem run_vals : ∀ (k : Nat) (Z : List (List Int)) (V : Nat → Int) (acc : List Int), ∃ L, (runF k Z V acc).1 = acc ++ L ∧ (runF k Z V acc).2.2 = L.foldl runS.setV V
 | 0, Z, V, acc => ⟨[], by simp [runF], rfl⟩
 | k + 1, Z, V, acc => by
  unfold runF
  split
  · exact ⟨[], by simp, rfl⟩
  · split
    · exact ⟨[], by simp, rfl⟩
    · obtain ⟨L, h1, h2⟩ := run_vals k Z (runS.setV V (scanS V Z 0 0).2) (acc ++ [(scanS V Z 0 0).2])
      exact ⟨(scanS V Z 0 0).2 :: L, by rw [h1]; simp, h2⟩
theorem fold_zero : ∀ (L : List Int) (V : Nat → Int) (q : Nat), (L.foldl runS.setV V) q = 0 ↔ V q = 0 ∧ ∀ z ∈ L, z.natAbs ≠ q
 | [], V, q => by simp
 | x :: L, V, q => by
  show (L.foldl runS.setV (runS.setV V x)) q = 0 ↔ _
  rw [fold_zero L]
  unfold runS.setV
  by_cases e : q = x.natAbs
  · subst e
    constructor
    · intro h
      have h1 := h.1
      rw [if_pos rfl] at h1
      split at h1 <;> cases h1
    · intro h
      exact absurd rfl (h.2 x (by simp))
  · rw [if_neg e]
    constructor
    · rintro ⟨h1, h2⟩
      exact ⟨h1, fun z hz => by
       rcases List.mem_cons.1 hz with rfl | hz
       · exact fun e' => e e'.symm
       · exact h2 z hz⟩
    · rintro ⟨h1, h2⟩
      exact ⟨h1, fun z hz => h2 z (by simp [hz])⟩
theorem all_agree {zs : List Int} (hz : ∀ z ∈ zs, z ≠ 0 ∧ z.natAbs < 41) (hc : Cons (setL zs)) : ∀ k, k ≤ zs.length → Agree (allV (zs.take k)) (setL (zs.take k))
 | 0, _ => by
  simp only [List.take_zero]
  exact agree0
 | k + 1, hk => by
  have ih := all_agree hz hc k (by omega)
  have hlt : k < zs.length := hk
  have hxm : zs[k]?.getD 0 ∈ zs := by rw [List.getElem?_eq_getElem hlt]; exact List.getElem_mem _
  rw [allV_take hlt, set_take hlt]
  have hx := hz _ hxm
  have hno : mem (setL zs) (-(zs[k]?.getD 0)) = false := hc _ (by rw [mem_set (fun z h => (hz z h).1)]; simpa using hxm)
  refine agree_set ih hx.1 (by omega) (by omega) ?_
  rw [mem_set (fun z h => (hz z h).1)] at hno
  rw [mem_set (fun z h => (hz z (List.mem_of_mem_take h)).1)]
  simp only [List.contains_eq_mem, decide_eq_false_iff_not] at hno ⊢
  exact fun h => hno (List.mem_of_mem_take h)
theorem has_no {T : TR} {l : Int} : hasT T l = false ↔ ∀ p ∈ T, p.1 ≠ l := by
 unfold hasT
 rw [List.any_eq_false]
 simp
theorem facts {nv : Nat} {Z : List (List Int)} {zs : List Int} (hn : nv ≤ 40) (hl : LitsIn (nv + 1) Z) (hz : ∀ z ∈ zs, z ≠ 0 ∧ z.natAbs < nv + 1) (hc : Cons (setL zs)) :
  (atF Z nv zs < 0 ↔ ∃ H, Closed (Z.map setL) H ∧ Sub (setL zs) H) ∧
  (atF Z nv zs < 0 → ∀ H, Closed (Z.map setL) H → Sub (setL zs) H → (∀ K, Closed (Z.map setL) K → Sub (setL zs) K → Sub H K) → ∀ q : Nat, 1 ≤ q → (valF Z nv zs q = 0 ↔ mem H (q : Int) = false ∧ mem H (-(q : Int)) = false)) := by
 have hz41 : ∀ z ∈ zs, z ≠ 0 ∧ z.natAbs < 41 := fun z h => by have := hz z h; omega
 have hZ : ∀ ys ∈ Z, Lit40 ys := fun ys h z hzz => by have := hl ys h z hzz; omega
 have hwf : Wf (setL zs) := wf_set hz41
 have ha : Agree (allV zs) (setL zs) := by have := all_agree hz41 hc zs.length (Nat.le_refl _); rwa [List.take_length] at this
 obtain ⟨a1, a2⟩ := run_two (n := nv + 1) (by omega) hl ha hwf hc
 have e1 : atF Z nv zs < 0 ↔ (runF (nv + 1 + 1) Z (allV zs) []).2.1 = -1 := by
  unfold atF
  constructor
  · intro h; omega
  · intro h; omega
 refine ⟨e1.trans a1, fun hat H hH hs hleast q hq => ?_⟩
 obtain ⟨f1, f2, f3, f4, f5, f6⟩ := new_full (n := 0) (H := setL zs) (cs := Z.map setL) hwf hc (fun c hcm => by
  obtain ⟨ys, h1, rfl⟩ := List.mem_map.1 hcm
  exact wf_set (hZ ys h1))
 have hp := run_prop (n := nv + 1) (Z := Z) hZ (fun zs h z hz => (hl zs h z hz).2) _ (newS 0 (setL zs) (Z.map setL)) (allV zs) (nv + 1 + 1) (Nat.le_refl _) f1 f2 (by rw [f4]; exact ha) (by have := open_most (allV zs) (nv + 1); omega)
 rw [f5] at hp
 obtain ⟨d1, d2, d3, d4, d5⟩ := propF_done (meas (newS 0 (setL zs) (Z.map setL)) + 1) _ f1 (Nat.lt_succ_self _)
 have hst : Stk (setL zs) (newS 0 (setL zs) (Z.map setL)) := ⟨⟨hwf, by rw [f5, f4]; rfl, by rw [f5]; trivial⟩, by rw [f6]; exact List.Pairwise.nil, fun k hk => (by rw [f6] at hk; cases hk), fun k hk => (by rw [f6] at hk; cases hk)⟩
 have hst2 := stk_prop (meas (newS 0 (setL zs) (Z.map setL)) + 1) _ f1 hst
 have hin := prop_within (meas (newS 0 (setL zs) (Z.map setL)) + 1) _ f1 (by rw [f2]; exact hH) (by rw [f4]; exact hs)
 generalize propF (meas (newS 0 (setL zs) (Z.map setL)) + 1) (newS 0 (setL zs) (Z.map setL)) = fin at *
 have hD : fin.D = [] := d2.resolve_left (fun e => e hin.2.2.2)
 have hcl := rest_closed d1 hin.2.2.2 hD
 rw [d3, f2] at hcl
 have hsub : Sub (setL zs) fin.H := by rw [hst2.tr.h]; exact sub_ht _ _ hst2.tr.fresh
 have hle := hleast _ hcl hsub
 have hsame : ∀ l, mem H l = mem fin.H l := fun l => by
  cases h : mem H l with
  | true => exact (hle l h).symm
  | false =>
   cases h2 : mem fin.H l with
   | false => rfl
   | true => have := hin.1 l h2; rw [h] at this; cases this
 obtain ⟨L, g1, g2⟩ := run_vals (nv + 1 + 1) Z (allV zs) []
 have hL : L = fin.T.map Prod.fst := by
  have := hp.1
  simp only [List.map_nil] at this
  rw [g1] at this
  simpa using this
 have hv : valF Z nv zs q = 0 ↔ allV zs q = 0 ∧ ∀ z ∈ L, z.natAbs ≠ q := by
  unfold valF
  rw [g2]
  exact fold_zero _ _ _
 have hv0 : allV zs q = 0 ↔ ∀ z ∈ zs, z.natAbs ≠ q := by
  unfold allV
  rw [fold_zero]
  simp
 rw [hv, hv0, hsame, hsame, hst2.tr.h, mem_ht _ _ hst2.tr.fresh, mem_ht _ _ hst2.tr.fresh, Bool.or_eq_false_iff, Bool.or_eq_false_iff, has_no, has_no, mem_set (fun z h => (hz z h).1), mem_set (fun z h => (hz z h).1)]
 subst hL
 simp only [List.contains_eq_mem, decide_eq_false_iff_not, List.mem_map, forall_exists_index, and_imp, forall_apply_eq_imp_iff₂]
 constructor
 · rintro ⟨h1, h2⟩
   exact ⟨⟨fun h => h1 _ h (by omega), fun p hp e => h2 p hp (by omega)⟩, ⟨fun h => h1 _ h (by omega), fun p hp e => h2 p hp (by omega)⟩⟩
 · rintro ⟨⟨h1, h2⟩, h3, h4⟩
   refine ⟨fun z hz e => ?_, fun p hp e => ?_⟩
   · rcases Int.natAbs_eq z with h | h
     · exact h1 (by rw [← e, ← h]; exact hz)
     · exact h3 (by rw [← e, ← h]; exact hz)
   · rcases Int.natAbs_eq p.1 with h | h
     · exact h2 p hp (by omega)
     · exact h4 p hp (by omega)
end Go.Proofs.YtmkhoocokpkojaaGreatDoor.refMath
namespace Go.Proofs.YtmkhoocokpkojaaGreatDoor.refFree
open Go.RowKit Go.Deep Go base sets setsOf solSets solMath solMem solOps
set_option linter.unusedVariables false
set_option linter.unusedSimpArgs false
def NoVal (H : LS) (q : Nat) : Prop := mem H (q : Int) = false ∧ mem H (-(q : Int)) = false
set_option maxHeartbeats 3200000 in
set_option maxRecDepth 8000 in
theorem free_impl (M mb : Nat) (F : Nat → Value) (V : Int → Value) (s : Sv) (w : World) (h : Sol 0 M mb F V s w) (nv : Nat) (hn : s.n = (nv : Int)) (hnv : nv ≤ 40) (wf : Wf s.H) :
  Calls Tryz.prog 56 #[.pointer (some ⟨M, 0, none⟩)] w fun e w' => ∃ r : Nat, e = .returned (.int .i64 r) ∧ Below w.heap.size w w' ∧ ((r = 0 ∧ ∀ i, 1 ≤ i → i ≤ nv → ¬ NoVal s.H i) ∨ (1 ≤ r ∧ r ≤ nv ∧ NoVal s.H r ∧ ∀ i, 1 ≤ i → i < r → ¬ NoVal s.H i)) := by
 have hM := h.lt.1
 have k0 := h.cell (i := 0) (by omega)
 have k5 := h.cell (i := 5) (by omega)
 have k6 := h.cell (i := 6) (by omega)
 rw [h.f0, hn] at k0
 rw [h.f5] at k5
 rw [h.f6] at k6
 have HK0 := hid k0
 have HK5 := hid k5
 have HK6 := hid k6
 have HH := hid (fun (l : Int) (h : l ≠ 0) (h0 : -40 ≤ l) (h1 : l ≤ 40) (w : World) => has_impl s.H l w wf h h0 h1)
 obtain ⟨⟨a1, a2⟩, hH⟩ : ∃ q, s.H = q := ⟨_, rfl⟩
 rw [hH] at HH HK5 HK6
 dsimp only at HH HK5 HK6
 rw [hH]
 clear h k0 k5 k6 hn wf hH
 go_enter Tryz.func56, Tryz.ntmps56
 go_wp2
 go_loopw [3] (fun v wr => ∃ q : Nat, 1 ≤ q ∧ q ≤ nv + 1 ∧ v = .int .i64 q ∧ Below w.heap.size w wr ∧ ∀ i, 1 ≤ i → i < q → ¬ NoVal (a1, a2) i) (fun v _ => nv + 1 - (intOf v).toNat)
 case atStart => exact ⟨1, Nat.le_refl _, by omega, rfl, Below.refl _ _, fun i h1 h2 => by omega⟩
 case round =>
  obtain ⟨q, hq1, hq2, rfl, hbel, hall⟩ := hrel
  have HB := hid hbel
  have HAll := hid hall
  have k0 := keep hbel HK0.out
  have k5 := keep hbel HK5.out
  have k6 := keep hbel HK6.out
  have hM2 : M < wr.heap.size := Nat.lt_of_lt_of_le hM hbel.size
  clear hall hbel
  by_cases hqn : q ≤ nv
  · have hqi : (q : Int) ≤ (nv : Int) := by omega
    have hq40 : (q : Int) ≤ 40 := by omega
    obtain ⟨b1, hb1⟩ : ∃ b, mem (a1, a2) (q : Int) = b := ⟨_, rfl⟩
    obtain ⟨b2, hb2⟩ : ∃ b, mem (a1, a2) (-(q : Int)) = b := ⟨_, rfl⟩
    have HM1 := hid hb1
    have HM2 := hid hb2
    have H1 := hid (fun w : World => HH.out (q : Int) (by omega) (by omega) (by omega) w)
    have H2 := hid (fun w : World => HH.out (-(q : Int)) (by omega) (by omega) (by omega) w)
    rw [hb1] at H1
    rw [hb2] at H2
    clear hb1 hb2
    cases b1 with
    | true =>
     go_wp2_with fail
     refine (H1.out _).mono ?_
     rintro e w1 ⟨rfl, hb1⟩
     have HB1 := hid (HB.out.trans (hb1.mono HB.out.size))
     clear hb1
     go_wp2
     go_roundw
     case rel =>
      refine ⟨q + 1, by omega, by omega, by go_num, HB1.out, fun i h1 h2 => ?_⟩
      rcases Nat.lt_succ_iff_lt_or_eq.1 h2 with h2 | rfl
      · exact HAll.out i h1 h2
      · exact fun h => by have := h.1; rw [HM1.out] at this; cases this
     case measure => simp [intOf]; omega
    | false =>
     go_wp2_with fail
     refine (H1.out _).mono ?_
     rintro e w1 ⟨rfl, hb1⟩
     have HB1 := hid (HB.out.trans (hb1.mono HB.out.size))
     have y0 := keep hb1 k0
     have y5 := keep hb1 k5
     have y6 := keep hb1 k6
     have hM3 : M < w1.heap.size := Nat.lt_of_lt_of_le hM2 hb1.size
     clear hb1 k0 k5 k6
     go_wp2_with fail
     refine (H2.out _).mono ?_
     rintro e w2 ⟨rfl, hb2⟩
     have HB2 := hid (HB1.out.trans (hb2.mono HB1.out.size))
     clear hb2 y0 y5 y6
     cases b2 with
     | true =>
      go_wp2
      go_roundw
      case rel =>
       refine ⟨q + 1, by omega, by omega, by go_num, HB2.out, fun i h1 h2 => ?_⟩
       rcases Nat.lt_succ_iff_lt_or_eq.1 h2 with h2 | rfl
       · exact HAll.out i h1 h2
       · exact fun h => by have := h.2; rw [HM2.out] at this; cases this
      case measure => simp [intOf]; omega
     | false =>
      go_wp2
      go_ret
      exact ⟨q, rfl, HB2.out, .inr ⟨hq1, hqn, ⟨HM1.out, HM2.out⟩, HAll.out⟩⟩
  · have hqi : ¬ (q : Int) ≤ (nv : Int) := by omega
    go_wp2
    go_ret
    exact ⟨0, rfl, HB.out, .inl ⟨rfl, fun i h1 h2 => HAll.out i h1 (by omega)⟩⟩
end Go.Proofs.YtmkhoocokpkojaaGreatDoor.refFree
namespace Go.Proofs.YtmkhoocokpkojaaGreatDoor.refOpen
open Go.RowKit Go.Deep Go base copy cnf sets setsOf solSets solMath solHold solProp solNew solClose solTrail chkNew chkMath rowsOwn solRun rupSpec refImpl refMath refFree
set_option linter.unusedVariables false
set_option linter.unusedSimpArgs false
def Fit (nv : Nat) (zs : List Int) : Prop := (∀ z ∈ zs, z ≠ 0 ∧ z.natAbs < nv + 1) ∧ Cons (setL zs)
structure Bas (Z : List (List Int)) (nv : Nat) (zs : List Int) (s : Sv) : Prop where
 full : Full s
 C : s.C = Z.map setL
 n : s.n = (nv : Int)
 stk : Stk (0, 0) s
 K : s.K.length = zs.length
structure Opn (Z : List (List Int)) (nv : Nat) (zs : List Int) (s : Sv) : Prop where
 bas : Bas Z nv zs s
 F : s.F = -1
 D : s.D = []
 sub : Sub (setL zs) s.H
 least : ∀ H, Closed (Z.map setL) H → Sub (setL zs) H → Sub s.H H
 len : zs.length ≤ s.T.length
variable {Z : List (List Int)} {nv : Nat} {zs : List Int} {s s1 : Sv} {l : Int}
theorem Opn.closed (h : Opn Z nv zs s) : Closed (Z.map setL) s.H := by
 rw [← h.bas.C]
 exact rest_closed h.bas.full h.F h.D
theorem mem_snoc (hz : ∀ z ∈ zs, z ≠ 0) (hl : l ≠ 0) (x : Int) : mem (setL (zs ++ [l])) x = true ↔ mem (setL zs) x = true ∨ mem (onlyL l) x = true := by
 rw [mem_set (fun z h => by rcases List.mem_append.1 h with h | h; exact hz z h; rw [List.mem_singleton] at h; rw [h]; exact hl), mem_set hz, mem_only hl]
 simp only [List.contains_eq_mem, decide_eq_true_eq, List.mem_append, List.mem_singleton]
 exact or_congr Iff.rfl eq_comm
theorem cons_only (hl : l ≠ 0) : Cons (onlyL l) := fun x hx => by
 rw [mem_only hl] at hx ⊢
 simp at hx ⊢
 omega
theorem free_at (h : Opn Z nv zs s) (hn : nv ≤ 40) (hZ : LitsIn (nv + 1) Z) (hf : Fit nv zs) (hat : atF Z nv zs < 0) {q : Nat} (hq : 1 ≤ q) : valF Z nv zs q = 0 ↔ NoVal s.H q :=
 (facts hn hZ hf.1 hf.2).2 hat s.H h.closed h.sub h.least q hq
theorem fit_snoc (h : Opn Z nv zs s) (hf : Fit nv zs) (hl : l ≠ 0) (hr : l.natAbs < nv + 1) (hno : mem s.H l = false ∧ mem s.H (-l) = false) : Fit nv (zs ++ [l]) := by
 have hz0 : ∀ z ∈ zs, z ≠ 0 := fun z hz => (hf.1 z hz).1
 refine ⟨fun z hz => ?_, fun x hx => ?_⟩
 · rcases List.mem_append.1 hz with hz | hz
   · exact hf.1 z hz
   · rw [List.mem_singleton] at hz
     rw [hz]
     exact ⟨hl, hr⟩
 · have key : ¬ mem (setL (zs ++ [l])) (-x) = true := fun hm => by
    rw [mem_snoc hz0 hl] at hx hm
    rcases hx with hx | hx <;> rcases hm with hm | hm
    · rw [hf.2 x hx] at hm; cases hm
    · rw [mem_only hl] at hm
      have hm : l = -x := by simpa using hm
      have h1 := h.sub x hx
      rw [show x = -l by omega, hno.2] at h1
      cases h1
    · rw [mem_only hl] at hx
      have hx : l = x := by simpa using hx
      have h1 := h.sub _ hm
      rw [← hx, hno.2] at h1
      cases h1
    · have := cons_only hl x hx
      rw [this] at hm
      cases hm
   simpa using key
theorem opn_sup (h : Opn Z nv zs s) (hn : nv ≤ 40) (hZ : LitsIn (nv + 1) Z) (hf : Fit nv zs) (hl : l ≠ 0) (hr : l.natAbs < nv + 1) (hno : mem s.H l = false ∧ mem s.H (-l) = false) :
  ((supS s (onlyL l)).2 = true ↔ 0 ≤ atF Z nv (zs ++ [l])) ∧ Bas Z nv (zs ++ [l]) (supS s (onlyL l)).1 ∧ ((supS s (onlyL l)).2 = false → Opn Z nv (zs ++ [l]) (supS s (onlyL l)).1) ∧ (supS s (onlyL l)).1.K = s.K ++ [s.T.length] ∧ ∃ T', (supS s (onlyL l)).1.T = s.T ++ T' := by
 have hz0 : ∀ z ∈ zs, z ≠ 0 := fun z hz => (hf.1 z hz).1
 have hwf : Wf (onlyL l) := wf_only hl (by omega) (by omega)
 obtain ⟨a1, a2, a3, a4, a5, a6, a7, a8⟩ := sup_spec h.bas.full h.F h.D h.bas.stk hwf (cons_only hl)
 have hf2 := fit_snoc h hf hl hr hno
 obtain ⟨b1, -⟩ := facts hn hZ hf2.1 hf2.2
 have hsub : ∀ H, Sub (setL (zs ++ [l])) H ↔ Sub (setL zs) H ∧ Sub (onlyL l) H := fun H => by
  constructor
  · intro g
    exact ⟨fun x hx => g x ((mem_snoc hz0 hl x).2 (.inl hx)), fun x hx => g x ((mem_snoc hz0 hl x).2 (.inr hx))⟩
  · rintro ⟨g1, g2⟩ x hx
    rcases (mem_snoc hz0 hl x).1 hx with hx | hx
    · exact g1 x hx
    · exact g2 x hx
 have hbas : Bas Z nv (zs ++ [l]) (supS s (onlyL l)).1 := ⟨a1, a3.trans h.bas.C, a4.trans h.bas.n, a2, by rw [a5]; simp [h.bas.K]⟩
 refine ⟨?_, hbas, fun hq => ?_, a5, a6⟩
 · rw [a7, h.bas.C]
   constructor
   · intro g
     have : ¬ atF Z nv (zs ++ [l]) < 0 := fun hlt => by
      obtain ⟨H, h1, h2⟩ := b1.1 hlt
      obtain ⟨h3, h4⟩ := (hsub H).1 h2
      exact g ⟨H, h1, h.least H h1 h3, h4⟩
     omega
   · rintro g ⟨H, h1, h2, h3⟩
     have := b1.2 ⟨H, h1, (hsub H).2 ⟨h.sub.trans h2, h3⟩⟩
     omega
 · obtain ⟨c1, c2, c3, c4, c5⟩ := a8 hq
   refine ⟨hbas, c1, c2, (hsub _).2 ⟨h.sub.trans c3, c4⟩, fun H h1 h2 => ?_, ?_⟩
   · obtain ⟨h3, h4⟩ := (hsub H).1 h2
     exact c5 H (by rw [h.bas.C]; exact h1) (h.least H h1 h3) h4
   · obtain ⟨T', hT⟩ := a6
     rw [hT, List.length_append, List.length_append, List.length_singleton]
     have h0 := h.len
     cases T' with
     | cons => simp; omega
     | nil =>
      exfalso
      have e1 : (supS s (onlyL l)).1.H = s.H := by rw [a2.tr.h, hT, List.append_nil]; exact h.bas.stk.tr.h.symm
      have e2 := c4 l (by rw [mem_only hl]; simp)
      rw [e1, hno.1] at e2
      cases e2
theorem opn_back {T' : TR} (h : Opn Z nv zs s) (h1 : Bas Z nv (zs ++ [l]) s1) (hK : s1.K = s.K ++ [s.T.length]) (hT : s1.T = s.T ++ T') :
  Opn Z nv zs (backS s1 zs.length) ∧ (backS s1 zs.length).K = s.K ∧ (backS s1 zs.length).T = s.T := by
 have hlt : zs.length < s1.K.length := by rw [h1.K]; simp
 obtain ⟨b1, b2, b3, b4, b5, b6, b7, b8, b9⟩ := back_stk h1.full.ok h1.stk hlt cons_zero
 have hk : s1.K[zs.length]?.getD 0 = s.T.length := by
  rw [hK, ← h.bas.K]
  simp
 rw [hk, hT, take_app] at b8
 have e9 : s1.K.take zs.length = s.K := by rw [hK, ← h.bas.K]; simp
 rw [e9] at b9
 have e7 : (backS s1 zs.length).H = s.H := by
  rw [b7, hk]
  unfold atK
  rw [hT, take_app]
  exact h.bas.stk.tr.h.symm
 exact ⟨⟨⟨b1, b5.trans h1.C, b6.trans h1.n, b2, by rw [b9]; exact h.bas.K⟩, b3, b4, by rw [e7]; exact h.sub, fun H h2 h3 => by rw [e7]; exact h.least H h2 h3, by rw [b8]; exact h.len⟩, b9, b8⟩
end Go.Proofs.YtmkhoocokpkojaaGreatDoor.refOpen
