/- LeastModel; LmFace; CopyOwn: one text, so that the claim has fewer files. -/
import Derived.Test.YtbahjpheaaiamaaDoorPart48
import Derived.Deep.CutBlock
import Derived.Deep.RegionWith
import Derived.Test.YtbahjpheaaiamaaDoorRowsOwn
import Derived.Test.YtbahjpheaaiamaaDoorPart2
/- The least model of a right formula, of the specification (LeastModel); conditions: a right formula. -/
namespace Go.Proofs.YtbahjpheaaiamaaDoor.leastModel
open Go.RowKit Go.Deep base copy rowsOwn runL leastSem leastImpl
open runS (ValRow setV openN)
open nodes (OwnBools)
set_option linter.unusedVariables false

def V0 : Nat → Int := fun _ => 0
def bitsOf (M : Nat → Int) (k : Nat) : List Bool := (List.range k).map fun i => M (i + 1) == 1
theorem bits_len (M : Nat → Int) (k : Nat) : (bitsOf M k).length = k := by simp [bitsOf]
theorem bits_succ (M : Nat → Int) (k : Nat) : bitsOf M (k + 1) = bitsOf M k ++ [M (k + 1) == 1] := by simp [bitsOf, List.range_succ]
theorem open_V0 : ∀ n, openN V0 n = n
  | 0 => rfl
  | n + 1 => by
    unfold openN
    rw [open_V0 n]
    rfl
theorem lits_of {nv : Nat} {psZ : List (Value × List Int)} (h : cnf.cnfB (nv : Int) (psZ.map (·.2)) = true) : Lits (psZ.map (·.2)) (nv + 1) := fun c hc z hz => by
  unfold cnf.cnfB at h
  rw [Bool.and_eq_true] at h
  have h3 := List.all_eq_true.1 h.2 c hc
  unfold cnf.clauseB at h3
  rw [Bool.and_eq_true] at h3
  have := (of_decide_eq_true (List.all_eq_true.1 h3.2 z hz) : z ≠ 0 ∧ -(nv : Int) ≤ z ∧ z ≤ nv)
  exact ⟨this.1, by omega⟩
/-- How the search ends, by one word. -/
def One (Z : List (List Int)) (n : Nat) (w : World) (v : Value) (ok : Bool) (w' : World) : Prop :=
  (∃ g c M, v = .slice (some ⟨g, 0, none⟩) n c ∧ ok = true ∧ ValRow w' g n M ∧ Least Z n V0 M ∧ Below w.heap.size w w') ∨ (v = .slice none 0 0 ∧ ok = false ∧ None_ Z n V0 ∧ Below w.heap.size w w')
theorem one_of {Z : List (List Int)} {n : Nat} {w w' : World} {e : Ending} (h : LEnds Z n V0 w e w') : ∃ v ok, e = .returned (.tuple #[v, .bool ok]) ∧ One Z n w v ok w' := by
  rcases h with ⟨g, c, M, rfl, h1, h2, h3⟩ | ⟨rfl, h1, h2⟩
  · exact ⟨_, _, rfl, .inl ⟨g, c, M, rfl, rfl, h1, h2, h3⟩⟩
  · exact ⟨_, _, rfl, .inr ⟨rfl, rfl, h1, h2⟩⟩
/-- The same, what is answered where there is none too. -/
def MEnds2 (Z : List (List Int)) (nv : Nat) (w : World) (e : Ending) (w' : World) : Prop :=
  (∃ v M, e = .returned (.tuple #[v, .int .i64 0]) ∧ OwnBools w.heap.size w' v (bitsOf M nv) ∧ Least Z (nv + 1) V0 M ∧ Below w.heap.size w w') ∨ (∃ v, e = .returned (.tuple #[v, .int .i64 6]) ∧ OwnBools w.heap.size w' v [] ∧ None_ Z (nv + 1) V0 ∧ Below w.heap.size w w')
set_option maxRecDepth 100000 in
set_option maxHeartbeats 6400000 in
theorem leastModel_spec2 (B nv zn zc : Nat) (zp : Option Addr) (psZ : List (Value × List Int)) (w : World) (hr : OwnRows B w (.slice zp zn zc) psZ) (hcnf : cnf.cnfB (nv : Int) (psZ.map (·.2)) = true) (hnv : nv ≤ 40) :
    Calls Tryd.prog 6 #[.agg #[.int .i64 (nv : Int), .slice zp zn zc]] w fun e w' => MEnds2 (psZ.map (·.2)) nv w e w' := by
  have HR := hid hr
  have HCnf := hid hcnf
  have HLi := hid (lits_of hcnf)
  clear hr hcnf
  obtain ⟨i0, hi, hzz⟩ := Option.map_eq_some_iff.1 nodes.info_bool
  simp only [Prod.mk.injEq] at hzz
  obtain ⟨hz0, hz1, hz2⟩ := hzz
  have HI := hid hi
  have HZ0 := hid hz0
  have HZ1 := hid hz1
  have HZ2 := hid hz2
  clear hi hz0 hz1 hz2
  obtain ⟨Z, hZ⟩ : ∃ Z, psZ.map (·.2) = Z := ⟨_, rfl⟩
  rw [hZ] at HLi ⊢
  have HZe := hid hZ
  clear hZ
  go_enter Tryd.func6, Tryd.ntmps6
  go_wp2_with fail
  refine (cnf.cnfOK_spec (nv : Int) zp zn zc (psZ.map (·.2)) _ ?_).mono ?_
  · exact (rows_of_own HR.out).below (by repeat (first | exact Below.refl _ _ | assumption | refine Below.drew ?_ | refine Below.alloc ?_ (by first | exact Nat.le_refl _ | omega | (simp; done) | (simp; omega)) _ | refine Below.setCell ?_ (by first | exact Nat.le_refl _ | omega | (simp; done) | (simp; omega)) _))
  rintro e w1 ⟨rfl, hb1⟩
  rw [HCnf.out]
  have HB1 : Hid (Below w.heap.size w w1) := hid ((show Below w.heap.size w _ from (by repeat (first | exact Below.refl _ _ | assumption | refine Below.drew ?_ | refine Below.alloc ?_ (by first | exact Nat.le_refl _ | omega | (simp; done) | (simp; omega)) _ | refine Below.setCell ?_ (by first | exact Nat.le_refl _ | omega | (simp; done) | (simp; omega)) _))).trans (hb1.mono (by simp)))
  have q0 : w1.cell? ⟨w.heap.size, 0, none⟩ = some (.int .i64 (nv : Int)) := keep hb1 (by simp [go_sem])
  have q1 : w1.cell? ⟨w.heap.size, 1, none⟩ = some (.slice zp zn zc) := keep hb1 (by simp [go_sem])
  have z1 : w.heap.size < w1.heap.size := by have := hb1.size; simp at this; omega
  have HR1 := hid (HR.out.below HB1.out)
  clear hb1
  obtain ⟨n, hn⟩ : ∃ n, nv + 1 = n := ⟨_, rfl⟩
  have HN := hid hn
  rw [hn] at HLi
  have HEnd : Hid (∀ e w', (∃ v M, e = Ending.returned (.tuple #[v, .int .i64 0]) ∧ OwnBools w.heap.size w' v (bitsOf M nv) ∧ Least Z n V0 M ∧ Below w.heap.size w w') ∨ (∃ v, e = Ending.returned (.tuple #[v, .int .i64 6]) ∧ OwnBools w.heap.size w' v [] ∧ None_ Z n V0 ∧ Below w.heap.size w w') → MEnds2 Z nv w e w') := hid (fun e w' h => by unfold MEnds2; rw [hn]; exact h)
  have HL : Hid (∀ W9 : World, W9 = w1.drew.alloc (.cells (madeCells #[.int .i64 0] n) 3) → Calls Tryd.prog 20 #[.slice zp zn zc, .slice (some ⟨w1.heap.size, 0, none⟩) n n] W9 fun e w' => LEnds Z n V0 W9 e w') := hid (fun W9 h9 => by
    have hb : Below w1.heap.size w1 W9 := by rw [h9]; exact (by repeat (first | exact Below.refl _ _ | assumption | refine Below.drew ?_ | refine Below.alloc ?_ (by first | exact Nat.le_refl _ | omega | (simp; done) | (simp; omega)) _ | refine Below.setCell ?_ (by first | exact Nat.le_refl _ | omega | (simp; done) | (simp; omega)) _))
    have hrow : W9.rowIs w1.heap.size 3 n (fun _ => .int .i64 0) := by rw [h9]; exact World.rowIs_made w1.drew _ n 3
    have h := least_spec B n zp zn zc psZ (by omega) (by omega) (by rw [HZe.out]; exact HLi.out) (n + 1) w1.heap.size n V0 W9 (by rw [open_V0]; omega) (HR1.out.below hb) ⟨fun i hi => ⟨hrow.cell hi, hrow.frozen i⟩, fun i _ => by unfold V0; omega⟩
    rw [HZe.out] at h
    exact h)
  have hn' : (nv : Int) + 1 = (n : Int) := by omega
  have hmk := run_make_row' (P := Tryd.prog) 36 3 (.int .i64 0) 8 Tryd.underlying36 Tryd.info_int rfl .i64 .i64 n (by omega) (by omega)
  have hwr : IntKind.i64.wrap ((nv : Int) + 1) = (n : Int) := by rw [IntKind.wrap_i64]; omega
  clear hn hn'
  go_upto_region 3 with fail
  go_cut [4, 5] from 12 to 21 (fun s4 s5 wc => (∃ g c M, s4 = .slice (some ⟨g, 0, none⟩) n c ∧ s5 = .bool true ∧ ValRow wc g n M ∧ Least Z n V0 M ∧ Below w1.heap.size w1 wc) ∨ (s4 = .slice none 0 0 ∧ s5 = .bool false ∧ None_ Z n V0 ∧ Below w1.heap.size w1 wc))
  case first =>
    have HBm : Hid (∀ w', Below (w1.drew.alloc (.cells (madeCells #[.int .i64 0] n) 3)).heap.size (w1.drew.alloc (.cells (madeCells #[.int .i64 0] n) 3)) w' → Below w1.heap.size w1 w') := hid (fun w' hb => (show Below w1.heap.size w1 _ from (by repeat (first | exact Below.refl _ _ | assumption | refine Below.drew ?_ | refine Below.alloc ?_ (by first | exact Nat.le_refl _ | omega | (simp; done) | (simp; omega)) _ | refine Below.setCell ?_ (by first | exact Nat.le_refl _ | omega | (simp; done) | (simp; omega)) _))).trans (hb.mono (by simp)))
    go_region_with (go_at_call 20; refine (HL.out _ rfl).mono ?_; intro e w3 hl3; obtain ⟨v3, ok3, rfl, ho3⟩ := one_of hl3; have HO3 := hid ho3; clear hl3 ho3)
    all_goals
      go_wp2
      go_meet
      case rel =>
        rcases HO3.out with ⟨g3, c3, M3, rfl, rfl, hv3, hl3, hb3⟩ | ⟨rfl, rfl, hno3, hb3⟩
        · exact .inl ⟨g3, c3, M3, rfl, rfl, hv3, hl3, HBm.out _ hb3⟩
        · exact .inr ⟨rfl, rfl, hno3, HBm.out _ hb3⟩
  case rest =>
    clear hmk hwr
    rcases hcut with ⟨g3, c3, M, rfl, rfl, hv3, hl3, hb3⟩ | ⟨rfl, rfl, hno3, hb3⟩
    · have HV3 := hid hv3
      have HL3 := hid hl3
      have HB3 := hid (HB1.out.trans (hb3.mono HB1.out.size))
      have hnn : nv + 1 = n := HN.out
      have HNn := hid hnn
      have hzc := HB3.out.size
      clear hv3 hl3 hb3 hnn
      go_wp2
      go_loopw [7, 6] (fun i v wr => ∃ k : Nat, k ≤ nv ∧ i = .int .i64 ((k + 1 : Nat) : Int) ∧ OwnBools wc.heap.size wr v (bitsOf M k) ∧ Below wc.heap.size wc wr) (fun i _ _ => nv + 1 - (intOf i).toNat)
      case atStart => exact ⟨0, Nat.zero_le _, rfl, nodes.OwnBools.zero _ wc (Nat.le_refl _), (by repeat (first | exact Below.refl _ _ | assumption | refine Below.drew ?_ | refine Below.alloc ?_ (by first | exact Nat.le_refl _ | omega | (simp; done) | (simp; omega)) _ | refine Below.setCell ?_ (by first | exact Nat.le_refl _ | omega | (simp; done) | (simp; omega)) _))⟩
      case round =>
        rename_i v
        obtain ⟨k, hk, rfl, hox, hbel⟩ := hrel
        have HO := hid hox
        have HB := hid hbel
        have hszw := hbel.size
        obtain ⟨xa, xc, hv, -⟩ := hox.form (bits_len M k)
        subst hv
        clear hox
        by_cases hlt : k < nv
        · obtain ⟨hc0, _⟩ := HV3.out.cell (k + 1) (by have := HNn.out; omega)
          have hc := keep hbel hc0
          have hki : ((k + 1 : Nat) : Int) < (n : Int) := by have := HNn.out; omega
          have HSu := hid (bits_succ M k)
          obtain ⟨x, hx⟩ : ∃ x, M (k + 1) = x := ⟨_, rfl⟩
          rw [hx] at hc HSu
          clear hbel hc0 hx
          go_wp2_with (at_builtin; (refine wpList_append_own _ rfl _ _ 26 rfl wc.heap.size 4 i0 (.bool false) 1 1 Tryd.underlying26 HI.out HZ0.out HZ1.out HZ2.out rfl (by decide) _ k _ rfl (by have h9 := World.ownsRow.alloc HO.out (.cells #[.bool (x == 1)] 4); rw [bits_len] at h9; exact h9) ⟨wr.heap.size, 0, none⟩ 1 1 [.bool (x == 1)] rfl rfl (cell_one_new _ _ _) (fun u hu => by simp at hu; subst hu; rfl) (by unfold maxLen; omega) (by omega) (by simp; omega) ?_); intro v' w9 hown' hgrow9 hnil9)
          have HO9 : Hid (OwnBools wc.heap.size w9 v' (bitsOf M (k + 1))) := hid (by
            unfold OwnBools
            rw [HSu.out, List.length_append, List.map_append, bits_len]
            exact hown')
          have hba : Below wc.heap.size wc (wr.alloc (.cells #[.bool (x == 1)] 4)) := HB.out.alloc HB.out.size _
          have HB9 : Hid (Below wc.heap.size wc w9) := hid (hba.grown hgrow9 (by simp; omega) (fun j hj => (World.ownsRow.lt HO.out j hj).1))
          clear hown' hgrow9 hnil9 hba
          go_wp2
          go_roundw
          case rel => exact ⟨k + 1, by omega, by go_num, HO9.out, HB9.out⟩
          case measure => simp [intOf]; omega
        · have e : k = nv := by omega
          subst e
          have hki : ¬ (((k + 1 : Nat) : Int) < (n : Int)) := by have := HNn.out; omega
          clear hbel
          go_wp2
          go_ret2
          exact HEnd.out _ _ (.inl ⟨_, M, rfl, HO.out.mono hzc, HL3.out, HB3.out.trans (HB.out.mono HB3.out.size)⟩)
    · have HN3 := hid hno3
      have HB3 := hid (HB1.out.trans (hb3.mono HB1.out.size))
      clear hno3 hb3
      go_wp2
      go_ret2
      exact HEnd.out _ _ (.inr ⟨_, rfl, nodes.OwnBools.zero w.heap.size wc HB3.out.size, HN3.out, HB3.out.alloc HB3.out.size _⟩)
end Go.Proofs.YtbahjpheaaiamaaDoor.leastModel

/- LeastModel of the program and of the specification: one answer, whatever the formula; conditions: lengths that fit, the table of math/bits as it is laid. -/
namespace Go.Proofs.YtbahjpheaaiamaaDoor.lmFace
open Go.RowKit Go.Deep Go base copy cnf sets setsOf rowsOwn solSets solOps solMath solMem solClose cdState cdLeast impMath leastSem leastModel leastModI
open rupSpec (LitsIn)
open rupFaceS (cnf_in)
open nodes (OwnBools)
set_option linter.unusedVariables false
set_option linter.unusedSimpArgs false

def LmAns (vars : Int) (zss : List (List Int)) (L : List Bool) (c : Int) : Prop :=
  (cnfB vars zss = false ∧ c = 1 ∧ L = []) ∨ (cnfB vars zss = true ∧ ((c = 0 ∧ ∃ M, L = bitsOf M vars.toNat ∧ Least zss (vars.toNat + 1) V0 M) ∨ (c = 6 ∧ L = [] ∧ None_ zss (vars.toNat + 1) V0)))
theorem least_uniq {Z : List (List Int)} {n : Nat} {M M' : Nat → Int} (h : Least Z n V0 M) (k : Least Z n V0 M') : ∀ i, 1 ≤ i → i < n → M i = M' i := by
  have h1 := h.2.2 M' k.1 k.2.1
  have h2 := k.2.2 M h.1 h.2.1
  intro i
  induction i using Nat.strongRecOn with
  | ind i ih =>
    intro i1 i2
    have a := h1 i i1 i2 (fun j j1 j2 => ih j j2 j1 (by omega))
    have b := h2 i i1 i2 (fun j j1 j2 => (ih j j2 j1 (by omega)).symm)
    omega
theorem LmAns.uniq {vars : Int} {zss : List (List Int)} {L L' : List Bool} {c c' : Int} (h : LmAns vars zss L c) (k : LmAns vars zss L' c') : L = L' ∧ c = c' := by
  rcases h with ⟨h1, h2, h3⟩ | ⟨h1, h⟩
  · rcases k with ⟨k1, k2, k3⟩ | ⟨k1, _⟩
    · exact ⟨h3.trans k3.symm, h2.trans k2.symm⟩
    · rw [h1] at k1; cases k1
  · rcases k with ⟨k1, _⟩ | ⟨k1, k⟩
    · rw [h1] at k1; cases k1
    · rcases h with ⟨h2, M, h3, h4⟩ | ⟨h2, h3, h4⟩ <;> rcases k with ⟨k2, M', k3, k4⟩ | ⟨k2, k3, k4⟩
      · refine ⟨?_, h2.trans k2.symm⟩
        rw [h3, k3]
        unfold bitsOf
        refine List.map_congr_left fun i hi => ?_
        rw [least_uniq h4 k4 (i + 1) (by omega) (by have := List.mem_range.1 hi; omega)]
      · exact absurd h4.2.1 (fun _ => k4 M h4.1 h4.2.1)
      · exact absurd k4.2.1 (fun _ => h4 M' k4.1 k4.2.1)
      · exact ⟨h3.trans k3.symm, h2.trans k2.symm⟩
theorem lm_length {vars : Int} {zss : List (List Int)} {L : List Bool} {c : Int} (h : LmAns vars zss L c) : L.length ≤ 40 := by
  rcases h with ⟨_, _, rfl⟩ | ⟨hc, h⟩
  · simp
  · obtain ⟨v0, v1, _⟩ := rupFaceS.cnf_vars hc
    rcases h with ⟨_, M, rfl, _⟩ | ⟨_, rfl, _⟩
    · rw [bits_len]; omega
    · simp
theorem vals_bits (n : Nat) (H : LS) : valsH n H = bitsOf (valM H) n := by
  unfold valsH bitsOf
  refine List.map_congr_left fun i hi => ?_
  unfold valM
  rw [show (((i + 1 : Nat)) : Int) = (i : Int) + 1 by omega]
  cases mem H ((i : Int) + 1) <;> rfl
theorem lm_impl (vars : Int) (a : Option Addr) (len cap : Nat) (zss : List (List Int)) (w : World) (hr : IntRows w a len zss) (ht : Tab w) :
    Calls Tryd.prog 8 #[.agg #[.int .i64 vars, .slice a len cap]] w fun e w' => ∃ (v : Value) (L : List Bool) (c : Int), e = .returned (.tuple #[v, .int .i64 c]) ∧ LmAns vars zss L c ∧ OwnBools w.heap.size w' v L ∧ Below w.heap.size w w' := by
  cases hck : cnfB vars zss with
  | false =>
    refine (leastModel_bad vars a len cap zss w hr hck).mono ?_
    rintro e w' ⟨rfl, hb⟩
    exact ⟨_, [], 1, rfl, .inl ⟨hck, rfl, rfl⟩, nodes.OwnBools.nil _ _, hb⟩
  | true =>
    obtain ⟨v0, v1, v2⟩ := rupFaceS.cnf_vars hck
    obtain ⟨n, rfl⟩ := Int.eq_ofNat_of_zero_le v0
    have hl : LitsIn (n + 1) zss := cnf_in (by simpa using hck)
    refine (leastModel_impl n a len cap zss w hr hck ht).mono ?_
    intro e w' h
    rcases h with ⟨v, H, rfl, ho, ⟨B, hle⟩, hb⟩ | ⟨rfl, hno, hb⟩
    · exact ⟨v, _, 0, rfl, .inr ⟨hck, .inl ⟨rfl, valM H, vals_bits n H, least_end (by omega) hl hle⟩⟩, ho, hb⟩
    · exact ⟨_, [], 6, rfl, .inr ⟨hck, .inr ⟨rfl, rfl, fun M hM _ => hno ⟨_, mdl_of (by omega) hl hM⟩⟩⟩, nodes.OwnBools.nil _ _, hb⟩
theorem lm_bad (vars : Int) (a : Option Addr) (len cap : Nat) (zss : List (List Int)) (w : World) (hr : IntRows w a len zss) (hc : cnfB vars zss = false) :
    Calls Tryd.prog 6 #[.agg #[.int .i64 vars, .slice a len cap]] w fun e w' => ∃ v, e = .returned (.tuple #[v, .int .i64 1]) ∧ OwnBools w.heap.size w' v [] ∧ Below w.heap.size w w' := by
  have HCo := hid (fun (W : World) (hbw : Below w.heap.size w W) => cnfOK_spec vars a len cap zss W (hr.below hbw))
  rw [hc] at HCo
  clear hr hc
  go_enter Tryd.func6, Tryd.ntmps6
  go_wp2_with fail
  refine (HCo.out _ (by repeat (first | exact Below.refl _ _ | assumption | refine Below.drew ?_ | refine Below.alloc ?_ (by first | exact Nat.le_refl _ | omega | (simp; done) | (simp; omega)) _ | refine Below.setCell ?_ (by first | exact Nat.le_refl _ | omega | (simp; done) | (simp; omega)) _))).mono ?_
  rintro e w2 ⟨rfl, hb2⟩
  have H2 := hid ((show Below w.heap.size w _ from (by repeat (first | exact Below.refl _ _ | assumption | refine Below.drew ?_ | refine Below.alloc ?_ (by first | exact Nat.le_refl _ | omega | (simp; done) | (simp; omega)) _ | refine Below.setCell ?_ (by first | exact Nat.le_refl _ | omega | (simp; done) | (simp; omega)) _))).trans (Below.mono hb2 (by simp)))
  clear hb2
  go_wp2
  go_ret2
  first
    | exact ⟨_, rfl, nodes.OwnBools.zero w.heap.size w2 H2.out.size, H2.out.alloc H2.out.size _⟩
    | exact ⟨_, rfl, nodes.OwnBools.nil _ _, H2.out⟩
theorem lm_spec (B : Nat) (vars : Int) (a : Option Addr) (len cap : Nat) (ps : List (Value × List Int)) (zss : List (List Int)) (hps : ps.map (·.2) = zss) (w : World) (ho : OwnRows B w (.slice a len cap) ps) :
    Calls Tryd.prog 6 #[.agg #[.int .i64 vars, .slice a len cap]] w fun e w' => ∃ (v : Value) (L : List Bool) (c : Int), e = .returned (.tuple #[v, .int .i64 c]) ∧ LmAns vars zss L c ∧ OwnBools w.heap.size w' v L ∧ Below w.heap.size w w' := by
  cases hck : cnfB vars zss with
  | false =>
    refine (lm_bad vars a len cap zss w (by rw [← hps]; exact rows_of_own ho) hck).mono ?_
    rintro e w' ⟨v, rfl, hv, hb⟩
    exact ⟨_, [], 1, rfl, .inl ⟨hck, rfl, rfl⟩, hv, hb⟩
  | true =>
    obtain ⟨v0, v1, v2⟩ := rupFaceS.cnf_vars hck
    obtain ⟨n, rfl⟩ := Int.eq_ofNat_of_zero_le v0
    refine (leastModel_spec2 B n len cap a ps w ho (by rw [hps]; exact hck) (by omega)).mono ?_
    intro e w' h
    rw [hps] at h
    rcases h with ⟨v, M, rfl, hv, hl, hb⟩ | ⟨v, rfl, hv, hno, hb⟩
    · exact ⟨v, _, 0, rfl, .inr ⟨hck, .inl ⟨rfl, M, rfl, hl⟩⟩, hv, hb⟩
    · exact ⟨v, [], 6, rfl, .inr ⟨hck, .inr ⟨rfl, rfl, hno⟩⟩, hv, hb⟩
end Go.Proofs.YtbahjpheaaiamaaDoor.lmFace

/- A copied formula's rows are its own and lie apart; sizes of formulas told by their sums; conditions: lengths that fit. -/
namespace Go.Proofs.YtbahjpheaaiamaaDoor.copyOwn
open Go.RowKit Go.Deep base copy cnf rowsOwn
set_option linter.unusedVariables false

theorem own_lt {B g : Nat} {w : World} {v : Value} {zs : List Int} (h : OwnInts B w v zs) (hg : v.ownBlock = some g) : B ≤ g ∧ g < w.heap.size := World.ownsRow.lt h g hg
theorem own_of_row {B N len : Nat} {w : World} {zs : List Int} (h : w.rowIs N 3 len (fun i => .int .i64 (zs[i]?.getD 0))) (hl : zs.length = len) (hB : B ≤ N) (hm : len ≤ maxLen) : OwnInts B w (.slice (some ⟨N, 0, none⟩) len len) zs := by
  obtain ⟨c, hh, hs, hc⟩ := h
  subst hl
  refine ⟨by simp, .inr ⟨N, _, c, rfl, hB, hh, Nat.le_refl _, hm, by omega, ?_⟩⟩
  apply List.ext_getElem?
  intro i
  rw [List.getElem?_take, List.getElem?_map]
  split
  · rename_i hi
    have hi' : i < zs.length := by omega
    rw [Array.getElem?_toList, hc i hi']
    simp [List.getElem?_eq_getElem hi']
  · rename_i hi
    rw [List.getElem?_eq_none (by omega)]
    rfl
def copiedPs (N : Nat) (zss : List (List Int)) : List (Value × List Int) := (List.range zss.length).map fun i => (.slice (some ⟨N + 1 + i, 0, none⟩) (zss[i]?.getD []).length (zss[i]?.getD []).length, zss[i]?.getD [])
theorem copiedPs_snd (N : Nat) (zss : List (List Int)) : (copiedPs N zss).map (·.2) = zss := by
  unfold copiedPs
  rw [List.map_map]
  apply List.ext_getElem
  · simp
  · intro i h1 h2
    simp [List.getElem?_eq_getElem h2]
theorem copied_own {B N : Nat} {w : World} {zss : List (List Int)} (h : Copied w N zss) (hB : B ≤ N) (hm : zss.length ≤ maxLen) (hi : ∀ i, i < zss.length → (zss[i]?.getD []).length ≤ maxLen) :
    OwnRows B w (.slice (some ⟨N, 0, none⟩) zss.length zss.length) (copiedPs N zss) ∧ Lone (copiedPs N zss) := by
  have hlen : (copiedPs N zss).length = zss.length := by simp [copiedPs]
  refine ⟨⟨?_, fun p hp => ?_⟩, ?_⟩
  · obtain ⟨c, hh, hs, hc⟩ := h.outer
    refine ⟨by simp, .inr ⟨N, zss.length, c, by rw [hlen], hB, hh, by omega, hm, by omega, ?_⟩⟩
    apply List.ext_getElem?
    intro i
    rw [List.getElem?_take, List.getElem?_map, hlen]
    split
    · rename_i hi2
      have hi' : i < zss.length := by omega
      rw [Array.getElem?_toList, hc i hi']
      unfold copiedPs
      rw [List.getElem?_map, List.getElem?_range hi']
      rfl
    · rename_i hi2
      rw [List.getElem?_eq_none (by omega)]
      rfl
  · unfold copiedPs at hp
    obtain ⟨i, hir, rfl⟩ := List.mem_map.1 hp
    have hil : i < zss.length := List.mem_range.1 hir
    exact own_of_row (h.inner i hil) rfl (by omega) (hi i hil)
  · unfold Lone copiedPs
    rw [List.pairwise_map]
    refine List.pairwise_lt_range.imp fun {a b} hab g h1 h2 => ?_
    have e1 : some (N + 1 + a) = some g := h1
    have e2 : some (N + 1 + b) = some g := h2
    injection e1 with e1
    injection e2 with e2
    omega
theorem at_le : ∀ {ls : List Nat} {i : Nat}, i < ls.length → ls[i]?.getD 0 ≤ ls.sum
  | [], i, h => absurd h (Nat.not_lt_zero _)
  | l :: ls, 0, _ => by simp
  | l :: ls, i + 1, h => by
    have := at_le (ls := ls) (i := i) (by simpa using h)
    rw [List.getElem?_cons_succ, List.sum_cons]
    omega
set_option maxHeartbeats 400000 in
theorem szRows_sum (a : Option Addr) (len cap : Nat) (zss : List (List Int)) (left : Int) (w : World) (hr : IntRows w a len zss) (h0 : 0 ≤ left) (h1 : left ≤ 1048576) :
    Calls Tryd.prog 18 #[.slice a len cap, .int .i64 left] w fun e w' => ∃ r : Int, e = .returned (.int .i64 r) ∧ w' = w ∧ -1 ≤ r ∧ r ≤ left ∧ (0 ≤ r → (len : Int) + ((zss.map List.length).sum : Nat) ≤ left) := by
  obtain ⟨hlen, hmost, hcell⟩ := hr
  unfold maxLen at hmost
  have HC := hid hcell
  obtain ⟨ls, hls⟩ : ∃ ls, zss.map List.length = ls := ⟨_, rfl⟩
  rw [hls]
  have HLs := hid hls
  have HLn : Hid (ls.length = len) := by
    show _ = _
    rw [← hls, List.length_map, hlen]
  clear hcell hlen hls
  by_cases h : left < (len : Int)
  · go_enter Tryd.func18, Tryd.ntmps18
    go_wp2
    go_ret
    exact ⟨_, rfl, rfl, by omega, by omega, by omega⟩
  · go_enter Tryd.func18, Tryd.ntmps18
    go_wp2
    go_loop [5, 1] (fun i t => ∃ (k s : Nat) (l : Int), k ≤ len ∧ i = .int .i64 k ∧ t = .int .i64 l ∧ 0 ≤ l ∧ l + len + s ≤ left ∧ s = (ls.take k).sum) (fun i _ => len - (intOf i).toNat)
    case atStart => exact ⟨0, 0, left - len, Nat.zero_le _, rfl, rfl, by omega, by omega, by simp⟩
    case round =>
      obtain ⟨k, s, l, hk, rfl, rfl, hl0, hl1, hs⟩ := hrel
      have HS := hid hs
      clear hs
      by_cases hlt : k < len
      · obtain ⟨b, off, rfl, a', l', c', hc, hrow⟩ := HC.out k hlt
        have hlen' := hrow.length
        have hmost' := hrow.most
        have HL : Hid (ls[k]?.getD 0 = l') := by
          show _ = _
          rw [← HLs.out, List.getElem?_map, ← hlen']
          cases zss[k]? <;> rfl
        have HSum := hid (sum_succ (ls := ls) (k := k) (by rw [HLn.out]; exact hlt))
        clear hlen' hrow
        by_cases hs : l < (l' : Int)
        · go_wp2_with (go_at_call 35; refine (szIntS _ _ _ _ _ hmost' hl0 (by omega)).mono ?_; rintro e w' ⟨rfl, rfl⟩)
          go_ret
          exact ⟨_, rfl, rfl, by omega, by omega, by omega⟩
        · go_wp2_with (go_at_call 35; refine (szIntS _ _ _ _ _ hmost' hl0 (by omega)).mono ?_; rintro e w' ⟨rfl, rfl⟩)
          go_round
          case rel => exact ⟨k + 1, s + l', l - l', by omega, by go_num, by rw [if_neg (by omega)], by omega, by omega, by rw [HSum.out, ← HS.out, HL.out]⟩
          case measure => simp [intOf]; omega
      · have e : k = len := by omega
        subst e
        have HE : Hid (s = ls.sum) := by
          show _ = _
          rw [HS.out, List.take_of_length_le (by rw [HLn.out]; omega)]
        go_wp2
        go_ret
        refine ⟨l, rfl, rfl, by omega, by omega, fun _ => ?_⟩
        have := HE.out
        omega

set_option maxHeartbeats 400000 in
theorem szCnf_sum (vars : Int) (a : Option Addr) (len cap : Nat) (zss : List (List Int)) (left : Int) (w : World) (hr : IntRows w a len zss) (h0 : 0 ≤ left) (h1 : left ≤ 1048576) :
    Calls Tryd.prog 5 #[.agg #[.int .i64 vars, .slice a len cap], .int .i64 left] w fun e w' => ∃ r : Int, e = .returned (.int .i64 r) ∧ Below w.heap.size w w' ∧ -1 ≤ r ∧ r ≤ left ∧ (0 ≤ r → (len : Int) + ((zss.map List.length).sum : Nat) ≤ left) := by
  go_enter Tryd.func5, Tryd.ntmps5
  go_wp2_with fail
  refine (szRows_sum a len cap zss left _ ?_ h0 h1).mono ?_
  · exact hr.below (by repeat (first | exact Below.refl _ _ | assumption | refine Below.drew ?_ | refine Below.alloc ?_ (by first | exact Nat.le_refl _ | omega | (simp; done) | (simp; omega)) _ | refine Below.setCell ?_ (by first | exact Nat.le_refl _ | omega | (simp; done) | (simp; omega)) _))
  rintro e w1 ⟨r, rfl, rfl, hr1, hr2, hr3⟩
  have H3 := hid hr3
  clear hr3
  go_wp2
  · go_ret
    exact ⟨_, rfl, (by repeat (first | exact Below.refl _ _ | assumption | refine Below.drew ?_ | refine Below.alloc ?_ (by first | exact Nat.le_refl _ | omega | (simp; done) | (simp; omega)) _ | refine Below.setCell ?_ (by first | exact Nat.le_refl _ | omega | (simp; done) | (simp; omega)) _)), by omega, by omega, by omega⟩
  · go_ret
    exact ⟨r, rfl, (by repeat (first | exact Below.refl _ _ | assumption | refine Below.drew ?_ | refine Below.alloc ?_ (by first | exact Nat.le_refl _ | omega | (simp; done) | (simp; omega)) _ | refine Below.setCell ?_ (by first | exact Nat.le_refl _ | omega | (simp; done) | (simp; omega)) _)), by omega, by omega, H3.out⟩
theorem keepB {B : Nat} {w w1 : World} (hb : Below B w w1) {b o : Nat} {v : Value} (hlt : b < B) (h : w.cell? ⟨b, o, none⟩ = some v) : w1.cell? ⟨b, o, none⟩ = some v := by
  rw [hb.cell (p := ⟨b, o, none⟩) hlt]; exact h
theorem copied_lt {N : Nat} {w : World} {zss : List (List Int)} (h : Copied w N zss) : ∀ u ∈ (copiedPs N zss).map Prod.fst, ∀ g, u.ownBlock = some g → g < w.heap.size := fun u hu g hg => by
  obtain ⟨p, hp, rfl⟩ := List.mem_map.1 hu
  unfold copiedPs at hp
  obtain ⟨i, hir, rfl⟩ := List.mem_map.1 hp
  have hil : i < zss.length := List.mem_range.1 hir
  obtain ⟨c, hh, _⟩ := h.inner i hil
  have e : some (N + 1 + i) = some g := hg
  injection e with e
  rw [← e]
  exact (Array.getElem?_eq_some_iff.1 hh).1
theorem lens_copied (N : Nat) (zss : List (List Int)) : (copiedPs N zss).map (fun p => p.2.length) = zss.map List.length := by
  have h := copiedPs_snd N zss
  have : (copiedPs N zss).map (fun p => p.2.length) = ((copiedPs N zss).map (·.2)).map List.length := by rw [List.map_map]; rfl
  rw [this, h]
theorem copied_length (N : Nat) (zss : List (List Int)) : (copiedPs N zss).length = zss.length := by simp [copiedPs]
end Go.Proofs.YtbahjpheaaiamaaDoor.copyOwn
