/- NodesO; LeastModI; Count: one text, so that the claim has fewer files. -/
import Derived.Test.YtjdcndkgodpnlaaDoorRowsOwn
import Derived.OwnWalk
import Derived.WalkSpells
import Derived.Maps.AppendAt
import Derived.Test.YtjdcndkgodpnlaaDoorSolLeast
import Derived.Test.YtjdcndkgodpnlaaDoorPart3
/- Rows of bools that a call makes for itself; conditions: none. -/
namespace Go.Proofs.YtjdcndkgodpnlaaDoor.nodes
open Go.RowKit Go.Deep base
set_option linter.unusedVariables false


def OwnBools (B : Nat) (w : World) (v : Value) (zs : List Bool) : Prop := w.ownsRow B 4 1 v zs.length (zs.map Value.bool)
theorem OwnBools.form {B L : Nat} {w : World} {v : Value} {zs : List Bool} (h : OwnBools B w v zs) (hL : zs.length = L) : ∃ a cap, v = .slice a L cap ∧ BoolRow w a L zs := by
  subst hL
  obtain ⟨h1, h2⟩ := h
  rcases h2 with ⟨rfl, hn⟩ | ⟨g, cap, cur, rfl, hb, hh, hn, hm, hs, ht⟩
  · exact ⟨none, 0, by rw [hn], ⟨rfl, by rw [hn]; exact Nat.zero_le _, fun i hi => by omega⟩⟩
  · refine ⟨some ⟨g, 0, none⟩, cap, rfl, ⟨rfl, Nat.le_trans hn hm, fun i hi => ⟨g, 0, rfl, ?_⟩⟩⟩
    have h3 : cur[i]? = some (.bool (zs[i]?.getD false)) := by
      have : (cur.toList.take (zs.length * 1))[i]? = (zs.map Value.bool)[i]? := by rw [ht]
      rw [List.getElem?_take, if_pos (by omega)] at this
      rw [← Array.getElem?_toList, this, List.getElem?_map, List.getElem?_eq_getElem hi]
      rfl
    simp [World.cell?, hh, h3]
theorem OwnBools.below {B : Nat} {W w1 : World} {v : Value} {zs : List Bool} (h : OwnBools B W v zs) (hb : Below W.heap.size W w1) : OwnBools B w1 v zs := by
  obtain ⟨h1, h2⟩ := h
  refine ⟨h1, ?_⟩
  rcases h2 with h2 | ⟨g, cap, cur, e, hg, hh, hn, hm, hs, ht⟩
  · exact .inl h2
  · exact .inr ⟨g, cap, cur, e, hg, by rw [hb.block g (Array.getElem?_eq_some_iff.1 hh).1]; exact hh, hn, hm, hs, ht⟩
theorem grown_below {B N : Nat} {w w1 w2 : World} {v : Value} {zs : List Bool} (h : OwnBools B w1 v zs) (hb : Below N w w1) (hN : N ≤ B) (hB : B ≤ w1.heap.size) (hg : w1.grownBy w2 v.ownBlock) : Below N w w2 :=
  hb.grown hg (Nat.le_trans hN hB) (fun k hk => Nat.le_trans hN (World.ownsRow.lt h k hk).1)
theorem OwnBools.mono {B B' : Nat} {w : World} {v : Value} {zs : List Bool} (h : OwnBools B w v zs) (hB : B' ≤ B) : OwnBools B' w v zs := by
  obtain ⟨h1, h2⟩ := h
  refine ⟨h1, ?_⟩
  rcases h2 with h2 | ⟨g, cap, cur, e, hg, h3⟩
  · exact .inl h2
  · exact .inr ⟨g, cap, cur, e, Nat.le_trans hB hg, h3⟩
theorem OwnBools.one (B : Nat) (w : World) (b : Bool) (hB : B ≤ w.heap.size) : OwnBools B (w.alloc (.cells #[.bool b] 4)) (.slice (some ⟨w.heap.size, 0, none⟩) 1 1) [b] :=
  ⟨rfl, .inr ⟨w.heap.size, 1, #[.bool b], rfl, hB, heap_alloc_new w _, Nat.le_refl _, by unfold maxLen; omega, rfl, rfl⟩⟩
theorem OwnBools.nil (B : Nat) (w : World) : OwnBools B w (.slice none 0 0) [] := ⟨rfl, .inl ⟨rfl, rfl⟩⟩
theorem OwnBools.zero (B : Nat) (w : World) (hB : B ≤ w.heap.size) : OwnBools B (w.alloc (.cells #[] 4)) (.slice (some ⟨w.heap.size, 0, none⟩) 0 0) [] :=
  ⟨rfl, .inr ⟨w.heap.size, 0, #[], rfl, hB, heap_alloc_new w _, Nat.le_refl _, Nat.zero_le _, rfl, rfl⟩⟩
theorem OwnBools.add {B : Nat} {w : World} {v : Value} {zs ys : List Bool} {n m : Nat} (h : w.ownsRow B 4 1 v (n + m) (zs.map Value.bool ++ ys.map Value.bool)) (hn : zs.length = n) (hm : ys.length = m) : OwnBools B w v (zs ++ ys) := by
  unfold OwnBools
  rw [List.length_append, List.map_append, hn, hm]
  exact h
theorem row_cells {w : World} {g n : Nat} {zs : List Bool} (h : BoolRow w (some ⟨g, 0, none⟩) n zs) {w1 : World} (hb : Below w.heap.size w w1) : ∀ i u, (zs.map Value.bool)[i]? = some u → w1.cell? ((⟨g, 0, none⟩ : Addr).add i) = some u := fun i u hu => by
  rw [List.getElem?_map] at hu
  by_cases hi : i < n
  · obtain ⟨b, o, e, hc⟩ := h.cell i hi
    cases e
    rw [List.getElem?_eq_getElem (by rw [h.length]; omega)] at hu hc
    simp at hu
    subst hu
    have e2 : ((⟨g, 0, none⟩ : Addr).add i) = ⟨g, 0 + i, none⟩ := by
      by_cases e : i = 0
      · subst e; rfl
      · simp [Addr.add, e]
    rw [e2]
    exact keep hb hc
  · rw [List.getElem?_eq_none (by rw [h.length]; omega)] at hu
    simp at hu
theorem info_bool : (Tryd.prog.info? 4).map (fun i => (i.zero, i.size, i.bytes)) = some (some (.bool false), 1, 1) := by kernel_rfl
end Go.Proofs.YtjdcndkgodpnlaaDoor.nodes

/- The least model, of the program (LeastModel): its values, or that there is none; conditions: a right formula, the table of math/bits as it is laid. -/
namespace Go.Proofs.YtjdcndkgodpnlaaDoor.leastModI
open Go.RowKit Go.Deep Go base copy cnf sets setsOf solSets solOps solMath solHold solMem solNew solX solProp solClose solTrail cdVal cdState cdLes cdBig cdLeast impMath solStart solSolve solBig solLeast hasAny
open rupSpec (LitsIn)
open rupFaceS (cnf_in)
open nodes (OwnBools)
set_option linter.unusedVariables false
set_option linter.unusedSimpArgs false

theorem valsH_len (n : Nat) (H : LS) : (valsH n H).length = n := by simp [valsH]
theorem valsH_succ (k : Nat) (H : LS) : valsH (k + 1) H = valsH k H ++ [mem H ((k : Int) + 1)] := by simp [valsH, List.range_succ]
/-- How LeastModel of the program ends. -/
def MI (Z : List (List Int)) (n : Nat) (w : World) (e : Ending) (w' : World) : Prop :=
  (∃ v H, e = .returned (.tuple #[v, .int .i64 0]) ∧ OwnBools w.heap.size w' v (valsH n H) ∧ (∃ B, LeastAt n (Z.map setL) B H (n + 1)) ∧ Below w.heap.size w w') ∨ (e = .returned (.tuple #[.slice none 0 0, .int .i64 6]) ∧ (¬ ∃ H, Mdl n (Z.map setL) H) ∧ Below w.heap.size w w')
set_option maxHeartbeats 6400000 in
set_option maxRecDepth 8000 in
theorem leastModel_impl (n : Nat) (a : Option Addr) (len cap : Nat) (zss : List (List Int)) (w : World) (hr : IntRows w a len zss) (hck : cnfB (n : Int) zss = true) (ht : Tab w) :
    Calls Tryd.prog 5 #[.agg #[.int .i64 n, .slice a len cap]] w fun e w' => MI zss n w e w' := by
  obtain ⟨hv0, hv1, hv2⟩ := rupFaceS.cnf_vars hck
  have hn : n ≤ 40 := by omega
  have hll : LitsIn (n + 1) zss := cnf_in (by simpa using hck)
  have hz41 : ∀ c ∈ zss, ∀ z ∈ c, z ≠ 0 ∧ z.natAbs < 41 := fun c h1 z h2 => by
    have := hll c h1 z h2
    exact ⟨this.1, by omega⟩
  have hc0 : ∀ l, mem (0, 0) l = true → mem (0, 0) (-l) = false := fun l h => by rw [mem_zero] at h; cases h
  have HCo := hid (fun (W : World) (hbw : Below w.heap.size w W) => cnfOK_impl n a len cap zss W (hr.below hbw))
  rw [hck] at HCo
  have HNw := hid (fun (W : World) (hW : Below w.heap.size w W) => new_impl n a len cap zss (0, 0) W (hr.below hW) (by have := hr.length; omega) hz41 wf_zero hc0 (tab_below ht hW))
  have HSt := hid (fun (M mb : Nat) (F : Nat → Value) (V : Int → Value) (W : World) (hs : Sol 0 M mb F V (newS n (0, 0) (zss.map setL)) W) (hv : V 0 = nilV) => by
    obtain ⟨r, hr⟩ := start_big hn hll wf_zero hc0 (by omega : zss.length ≤ 8388608)
    obtain ⟨h1, h2⟩ := start_srch hn hll wf_zero hc0 hs hv r hr
    exact solve_big n 800 (zss.map setL) (0, 0) (0, 0) M mb F V _ 1024 r W h1 0 (by omega) (fun e => absurd h2 e))
  obtain ⟨i0, hi, hzz⟩ := Option.map_eq_some_iff.1 nodes.info_bool
  simp only [Prod.mk.injEq] at hzz
  obtain ⟨hz0, hz1, hz2⟩ := hzz
  have HI := hid hi
  have HZ0 := hid hz0
  have HZ1 := hid hz1
  have HZ2 := hid hz2
  clear hi hz0 hz1 hz2 hr hck ht hv0 hv1 hv2 hll hz41 hc0
  go_enter Tryd.func5, Tryd.ntmps5
  go_wp2_with fail
  refine (HCo.out _ (by repeat (first | exact Below.refl _ _ | assumption | refine Below.drew ?_ | refine Below.alloc ?_ (by first | exact Nat.le_refl _ | omega | (simp; done) | (simp; omega)) _ | refine Below.setCell ?_ (by first | exact Nat.le_refl _ | omega | (simp; done) | (simp; omega)) _))).mono ?_
  rintro e w2 ⟨rfl, hb2⟩
  have f0 := keep hb2 (show (w.alloc (.cells #[.int .i64 n, .slice a len cap] 25)).cell? ⟨w.heap.size, 0, none⟩ = some (.int .i64 n) by simp [go_sem])
  have f1 := keep hb2 (show (w.alloc (.cells #[.int .i64 n, .slice a len cap] 25)).cell? ⟨w.heap.size, 1, none⟩ = some (.slice a len cap) by simp [go_sem])
  have H2 := hid ((show Below w.heap.size w _ from (by repeat (first | exact Below.refl _ _ | assumption | refine Below.drew ?_ | refine Below.alloc ?_ (by first | exact Nat.le_refl _ | omega | (simp; done) | (simp; omega)) _ | refine Below.setCell ?_ (by first | exact Nat.le_refl _ | omega | (simp; done) | (simp; omega)) _))).trans (Below.mono hb2 (by simp)))
  have z2 : w.heap.size < w2.heap.size := by have := hb2.size; simp at this; omega
  clear hb2
  go_wp2_with fail
  refine (HNw.out _ H2.out).mono ?_
  rintro e w3 ⟨M, mb, F, V, rfl, hs3, hv3, hb3, m1, m2, m3⟩
  replace f0 := keep hb3 f0
  replace f1 := keep hb3 f1
  have HS3 := hid hs3
  have H3 := hid (H2.out.trans (hb3.mono H2.out.size))
  have HM1 := hid m1
  have HM2 := hid m2
  have HM3 := hid m3
  have HV3 := hid hv3
  have z3 : w2.heap.size ≤ w3.heap.size := hb3.size
  clear hs3 hv3 hb3 m1 m2 m3 f1
  go_wp2_with fail
  refine (HSt.out M mb F V w3 HS3.out HV3.out).mono ?_
  rintro e w4 ⟨b, mb4, F4, V4, p, g4, r4, rfl, hs4, hch4, ht4, hf4⟩
  have hb4 : Below w2.heap.size w3 w4 := hch4.toBelow z3 HM1.out HM2.out HM3.out
  have g0 : w4.cell? ⟨w.heap.size, 0, none⟩ = some (.int .i64 n) := (World.cell?_of_block (a := ⟨w.heap.size, 0, none⟩) (hb4.block w.heap.size z2)).trans f0
  have H4 : Hid (Below w.heap.size w w4) := hid (H3.out.trans (hb4.mono (Nat.le_of_lt z2)))
  have HS4 := hid hs4
  have HC4 := hid hch4
  have HT4 := hid ht4
  have HF4 := hid hf4
  have z4 : w2.heap.size ≤ w4.heap.size := Nat.le_trans z3 hb4.size
  clear hs4 hch4 ht4 hf4 hb4 f0
  cases b with
  | false =>
    have HNo : Hid (¬ ∃ H, Mdl n (zss.map setL) H) := hid (fun ⟨H, hH⟩ => HF4.out rfl ⟨H, hH, fun l hl => (by rw [mem_zero] at hl; cases hl), by simp⟩)
    go_wp2
    go_ret2
    exact .inr ⟨rfl, HNo.out, H4.out⟩
  | true =>
    go_wp2_with fail
    refine (least_impl n (zss.map setL) M mb4 F4 V4 p g4 r4 w4 HS4.out (HT4.out (by trivial)).1).mono ?_
    rintro e w5 ⟨H, rfl, ⟨B, hle⟩, hwf, mb5, F5, V5, s5, hs5, hc5⟩
    have hb5 : Below w2.heap.size w3 w5 := (HC4.out.trans hc5).toBelow z3 HM1.out HM2.out HM3.out
    have H5 : Hid (Below w.heap.size w w5) := hid (H3.out.trans (hb5.mono (Nat.le_of_lt z2)))
    have hb45 : Below w2.heap.size w4 w5 := ⟨hc5.os, hc5.tape, hc5.output, hc5.size, fun j hj => hc5.block j (by omega) (fun e => by have := HM1.out; omega) (fun e => by
      rcases HC4.out.map with e2 | e2
      · have := HM2.out; omega
      · omega) (fun a ha => by
      rcases HC4.out.news a j ha with e2 | e2
      · have := HM3.out a j e2; omega
      · omega)⟩
    have g1 : w5.cell? ⟨w.heap.size, 0, none⟩ = some (.int .i64 n) := (World.cell?_of_block (a := ⟨w.heap.size, 0, none⟩) (hb45.block w.heap.size z2)).trans g0
    have z5 : w.heap.size < w5.heap.size := by have := hb45.size; omega
    have HLe := hid hle
    have HWf := hid hwf
    obtain ⟨H1, hH1⟩ : ∃ q, H.1 = q := ⟨_, rfl⟩
    obtain ⟨H2', hH2⟩ : ∃ q, H.2 = q := ⟨_, rfl⟩
    have HHe : Hid (H = (H1, H2')) := hid (by rw [← hH1, ← hH2])
    rw [hH1, hH2]
    clear hle hwf hs5 hc5 hb5 hb45 g0 hH1 hH2
    go_wp2_with fail
    have hba : Below w5.heap.size w5 (w5.alloc (.cells #[.int .u64 H1, .int .u64 H2'] 45)) := (by repeat (first | exact Below.refl _ _ | assumption | refine Below.drew ?_ | refine Below.alloc ?_ (by first | exact Nat.le_refl _ | omega | (simp; done) | (simp; omega)) _ | refine Below.setCell ?_ (by first | exact Nat.le_refl _ | omega | (simp; done) | (simp; omega)) _))
    have c0 : (w5.alloc (.cells #[.int .u64 H1, .int .u64 H2'] 45)).cell? ⟨w5.heap.size, 0, none⟩ = some (.int .u64 H1) := by simp [go_sem]
    have c1 : (w5.alloc (.cells #[.int .u64 H1, .int .u64 H2'] 45)).cell? ⟨w5.heap.size, 1, none⟩ = some (.int .u64 H2') := by simp [go_sem]
    have g2 := keep hba g1
    have z6 : (w5.alloc (.cells #[.int .u64 H1, .int .u64 H2'] 45)).heap.size = w5.heap.size + 1 := by simp
    generalize (w5.alloc (.cells #[.int .u64 H1, .int .u64 H2'] 45)) = w6 at *
    have H6 : Hid (Below w.heap.size w w6) := hid (H5.out.trans (hba.mono H5.out.size))
    clear hba g1
    go_loopw [7, 6] (fun i v wr => ∃ k : Nat, k ≤ n ∧ i = .int .i64 ((k + 1 : Nat) : Int) ∧ OwnBools w6.heap.size wr v (valsH k H) ∧ Below w6.heap.size w6 wr) (fun i _ _ => n + 1 - (intOf i).toNat)
    case atStart => exact ⟨0, Nat.zero_le _, rfl, nodes.OwnBools.nil _ _, Below.refl _ _⟩
    case round =>
      rename_i v
      obtain ⟨k, hk, rfl, hox, hbel⟩ := hrel
      have HO := hid hox
      have HB := hid hbel
      have hszw := hbel.size
      obtain ⟨xa, xc, hv, -⟩ := hox.form (valsH_len k H)
      subst hv
      have h0 := keep hbel g2
      have b0 := keep hbel c0
      have b1 := keep hbel c1
      clear hox hbel
      by_cases hlt : k < n
      · have e1 : ((k + 1 : Nat) : Int) ≤ (n : Int) := by omega
        have HSu := hid (valsH_succ k H)
        have HHa := hid (fun W : World => has_any (H1, H2') ((k + 1 : Nat) : Int) W (by rw [← HHe.out]; exact HWf.out) (by omega) (by omega))
        go_wp2_with fail
        refine (HHa.out _).mono ?_
        rintro e w7 ⟨rfl, hb7⟩
        have HB7 : Hid (Below w6.heap.size w6 w7) := hid (HB.out.trans (hb7.mono HB.out.size))
        have HO7 := hid (HO.out.below hb7)
        have z7 := HB7.out.size
        have hmx : mem (H1, H2') ((k + 1 : Nat) : Int) = mem H ((k : Int) + 1) := by rw [HHe.out]; rfl
        rw [hmx]
        obtain ⟨x, hx⟩ : ∃ x, mem H ((k : Int) + 1) = x := ⟨_, rfl⟩
        rw [hx] at HSu ⊢
        clear hb7 h0 b0 b1 hmx hx
        go_wp2_with (at_builtin; (refine wpList_append_own _ rfl _ _ 27 rfl w6.heap.size 4 i0 (.bool false) 1 1 Tryd.underlying27 HI.out HZ0.out HZ1.out HZ2.out rfl (by decide) _ k _ rfl (by have h9 := World.ownsRow.alloc HO7.out (.cells #[.bool x] 4); rw [valsH_len] at h9; exact h9) ⟨w7.heap.size, 0, none⟩ 1 1 [.bool x] rfl rfl (cell_one_new _ _ _) (fun u hu => by simp at hu; subst hu; rfl) (by unfold maxLen; omega) (by omega) (by simp; omega) ?_); intro v' w9 hown' hgrow9 hnil9)
        have HO9 : Hid (OwnBools w6.heap.size w9 v' (valsH (k + 1) H)) := hid (by
          unfold OwnBools
          rw [HSu.out, List.length_append, List.map_append, valsH_len]
          exact hown')
        have hba : Below w6.heap.size w6 (w7.alloc (.cells #[.bool x] 4)) := HB7.out.alloc HB7.out.size _
        have HB9 : Hid (Below w6.heap.size w6 w9) := hid (hba.grown hgrow9 (by simp; omega) (fun j hj => (World.ownsRow.lt HO7.out j hj).1))
        clear hown' hgrow9 hnil9 hba
        go_wp2
        go_roundw
        case rel => exact ⟨k + 1, by omega, by go_num, HO9.out, HB9.out⟩
        case measure => simp [intOf]; omega
      · have e : k = n := by omega
        subst e
        have e1 : ¬ (((k + 1 : Nat) : Int) ≤ (k : Int)) := by omega
        go_wp2
        go_ret2
        exact .inl ⟨_, H, rfl, HO.out.mono H6.out.size, ⟨B, HLe.out⟩, H6.out.trans (HB.out.mono H6.out.size)⟩
end Go.Proofs.YtjdcndkgodpnlaaDoor.leastModI

/- Counting models, of the program and of the specification: both count the numbers below 2 to the variables whose bits are a model; conditions: lengths that fit. -/
namespace Go.Proofs.YtjdcndkgodpnlaaDoor.count
open Go.RowKit Go.Deep base copy cnf eval sets setsOf

/-- How many of the numbers below n tell a model. -/
def countTo (vars : Nat) (zss : List (List Int)) : Nat → Nat
  | 0 => 0
  | n + 1 => countTo vars zss n + (if cnfT (valsOf n vars) zss then 1 else 0)
def countCode (vars : Int) (zss : List (List Int)) : Int := if cnfB vars zss then (if 12 < vars then 11 else 0) else 1
def countN (vars : Int) (zss : List (List Int)) : Int := if cnfB vars zss then (if 12 < vars then 0 else countTo vars.toNat zss (2 ^ vars.toNat)) else 0
theorem countTo_le (vars : Nat) (zss : List (List Int)) : ∀ n, countTo vars zss n ≤ n
  | 0 => Nat.le_refl _
  | n + 1 => by
    have := countTo_le vars zss n
    show _ + _ ≤ _
    split <;> omega
theorem pow12 {vars : Nat} (h : vars ≤ 12) : 2 ^ vars ≤ 4096 := Nat.pow_le_pow_right (by decide) h
theorem cnf_abs {vars : Nat} {zss : List (List Int)} (h : cnfB vars zss = true) (i : Nat) (hi : i < zss.length) : ∀ z ∈ zss[i]?.getD [], litB vars z = true := fun z hz => by
  have h1 := cnf_clause h i hi
  simp only [clauseB, Bool.and_eq_true, List.all_eq_true] at h1
  exact h1.2 z hz
theorem cnf_meets {vars n : Nat} {zss : List (List Int)} (h : cnfB vars zss = true) (hv : vars ≤ 12) (hn : n < 4096) : meetsAll zss (2 * n) (18446744073709551615 - 2 * n) = cnfT (valsOf n vars) zss := by
  simp only [cnfB, Bool.and_eq_true, List.all_eq_true] at h
  unfold meetsAll cnfT
  rw [Bool.eq_iff_iff, List.all_eq_true, List.all_eq_true]
  have hm : ∀ zs ∈ zss, meetB (pSet zs) (oSet zs) (2 * n) (18446744073709551615 - 2 * n) = clauseT (valsOf n vars) zs := fun zs hz => by
    have h1 := h.2 zs hz
    simp only [clauseB, Bool.and_eq_true, List.all_eq_true] at h1
    exact meet_vals hn hv h1.2
  constructor
  · intro g zs hz
    rw [← hm zs hz]; exact g zs hz
  · intro g zs hz
    rw [hm zs hz]; exact g zs hz
theorem xor_ones {x : Nat} (hx : x < 18446744073709551616) : 18446744073709551615 ^^^ x = 18446744073709551615 - x := by
  refine Nat.eq_of_testBit_eq fun i => ?_
  rw [Nat.testBit_xor]
  by_cases hi : i < 64
  · rw [testBit_compl hx hi, show (18446744073709551615 : Nat) = 2 ^ 64 - 1 from rfl, Nat.testBit_two_pow_sub_one, decide_eq_true hi]
    cases x.testBit i <;> rfl
  · rw [Nat.testBit_lt_two_pow (x := 18446744073709551615) (Nat.lt_of_lt_of_le (by decide : (18446744073709551615 : Nat) < 2 ^ 64) (Nat.pow_le_pow_right (by decide) (by omega))),
      Nat.testBit_lt_two_pow (x := x) (Nat.lt_of_lt_of_le hx (Nat.pow_le_pow_right (n := 2) (i := 64) (by decide) (by omega))),
      Nat.testBit_lt_two_pow (x := 18446744073709551615 - x) (Nat.lt_of_le_of_lt (Nat.sub_le _ _) (Nat.lt_of_lt_of_le (by decide : (18446744073709551615 : Nat) < 2 ^ 64) (Nat.pow_le_pow_right (by decide) (by omega))))]
    rfl
theorem compl_k {k : Nat} (h : k < 4096) : bits .xor .u64 IntKind.u64.max ((k : Int) * 2) = ((18446744073709551615 - 2 * k : Nat) : Int) := by
  rw [show (k : Int) * 2 = ((2 * k : Nat) : Int) by omega, show IntKind.u64.max = ((18446744073709551615 : Nat) : Int) from rfl, bits_xor_u64_nat _ _ (by decide) (by omega), xor_ones (by omega)]
theorem twice_k (k : Nat) : (k : Int) * 2 = ((2 * k : Nat) : Int) := by omega

set_option maxHeartbeats 1600000 in
theorem count_impl (vars : Int) (a : Option Addr) (len cap : Nat) (zss : List (List Int)) (w : World) (hr : IntRows w a len zss) :
    Calls Tryd.prog 6 #[.agg #[.int .i64 vars, .slice a len cap]] w fun e w' => e = .returned (.tuple #[.int .i64 (countN vars zss), .int .i64 (countCode vars zss)]) ∧ Below w.heap.size w w' := by
  have HR := hid hr
  have HL := hid hr.length
  clear hr
  cases hb : cnfB vars zss
  · have e1 : countN vars zss = 0 := by simp [countN, hb]
    have e2 : countCode vars zss = 1 := by simp [countCode, hb]
    rw [e1, e2]
    clear e1 e2
    go_enter Tryd.func6, Tryd.ntmps6
    go_wp2_with fail
    refine (cnfOK_impl vars a len cap zss _ (HR.out.below (by repeat (first | exact Below.refl _ _ | assumption | refine Below.drew ?_ | refine Below.alloc ?_ (by first | exact Nat.le_refl _ | omega | (simp; done) | (simp; omega)) _ | refine Below.setCell ?_ (by first | exact Nat.le_refl _ | omega | (simp; done) | (simp; omega)) _)))).mono ?_
    rintro e w1 ⟨rfl, hb1⟩
    have HB := hid ((show Below w.heap.size w _ from (by repeat (first | exact Below.refl _ _ | assumption | refine Below.drew ?_ | refine Below.alloc ?_ (by first | exact Nat.le_refl _ | omega | (simp; done) | (simp; omega)) _ | refine Below.setCell ?_ (by first | exact Nat.le_refl _ | omega | (simp; done) | (simp; omega)) _))).trans (hb1.mono (by simp)))
    clear hb1
    go_wp2
    go_ret2
    exact ⟨rfl, HB.out⟩
  obtain ⟨hv0, hv40, hlen⟩ := cnf_vars hb
  by_cases h12 : 12 < vars
  · have e1 : countN vars zss = 0 := by simp [countN, hb, h12]
    have e2 : countCode vars zss = 11 := by simp [countCode, hb, h12]
    rw [e1, e2]
    clear e1 e2
    go_enter Tryd.func6, Tryd.ntmps6
    go_wp2_with fail
    refine (cnfOK_impl vars a len cap zss _ (HR.out.below (by repeat (first | exact Below.refl _ _ | assumption | refine Below.drew ?_ | refine Below.alloc ?_ (by first | exact Nat.le_refl _ | omega | (simp; done) | (simp; omega)) _ | refine Below.setCell ?_ (by first | exact Nat.le_refl _ | omega | (simp; done) | (simp; omega)) _)))).mono ?_
    rintro e w1 ⟨rfl, hb1⟩
    have HB := hid ((show Below w.heap.size w _ from (by repeat (first | exact Below.refl _ _ | assumption | refine Below.drew ?_ | refine Below.alloc ?_ (by first | exact Nat.le_refl _ | omega | (simp; done) | (simp; omega)) _ | refine Below.setCell ?_ (by first | exact Nat.le_refl _ | omega | (simp; done) | (simp; omega)) _))).trans (hb1.mono (by simp)))
    have b0 : w1.cell? ⟨w.heap.size, 0, none⟩ = some (.int .i64 vars) := keep hb1 (by simp [go_sem])
    clear hb1
    go_wp2
    go_ret2
    exact ⟨rfl, HB.out⟩
  obtain ⟨v, rfl⟩ := Int.eq_ofNat_of_zero_le hv0
  obtain ⟨M, hM⟩ : ∃ M, M = 2 ^ v := ⟨_, rfl⟩
  have e1 : countN v zss = countTo v zss M := by rw [hM]; simp [countN, hb, h12]
  have e2 : countCode v zss = 0 := by simp [countCode, hb, h12]
  rw [e1, e2]
  clear e1 e2
  have HK := hid hb
  have HLen : Hid (zss.length ≤ 300) := hlen
  have hp := pow12 (vars := v) (by omega)
  rw [← hM] at hp
  have HM := hid hM
  clear hlen hM
  go_enter Tryd.func6, Tryd.ntmps6
  go_wp2_with fail
  refine (cnfOK_impl v a len cap zss _ (HR.out.below (by repeat (first | exact Below.refl _ _ | assumption | refine Below.drew ?_ | refine Below.alloc ?_ (by first | exact Nat.le_refl _ | omega | (simp; done) | (simp; omega)) _ | refine Below.setCell ?_ (by first | exact Nat.le_refl _ | omega | (simp; done) | (simp; omega)) _)))).mono ?_
  rintro e w1 ⟨rfl, hb1⟩
  have HB := hid ((show Below w.heap.size w _ from (by repeat (first | exact Below.refl _ _ | assumption | refine Below.drew ?_ | refine Below.alloc ?_ (by first | exact Nat.le_refl _ | omega | (simp; done) | (simp; omega)) _ | refine Below.setCell ?_ (by first | exact Nat.le_refl _ | omega | (simp; done) | (simp; omega)) _))).trans (hb1.mono (by simp)))
  have b0 : w1.cell? ⟨w.heap.size, 0, none⟩ = some (.int .i64 v) := keep hb1 (by simp [go_sem])
  have b1 : w1.cell? ⟨w.heap.size, 1, none⟩ = some (.slice a len cap) := keep hb1 (by simp [go_sem])
  clear hb1
  go_wp2_with fail
  have HLits : Hid (∀ i, i < len → ∀ z ∈ zss[i]?.getD [], z.natAbs < 41) := fun i hi z hz => by
    have := litB_range (cnf_abs HK.out i (by rw [HL.out]; exact hi) z hz)
    omega
  refine (setsOf_impl a len cap zss _ (HR.out.below HB.out) (by have := HLen.out; have := HL.out; omega) HLits.out).mono ?_
  rintro e w2 ⟨sv, rfl, hown, hb2⟩
  obtain ⟨a', cap', rfl, hrow⟩ := hown.form
  have HB2 := hid (HB.out.trans (hb2.mono HB.out.size))
  have HS := hid hrow
  replace b0 : w2.cell? ⟨w.heap.size, 0, none⟩ = some (.int .i64 v) := keep hb2 b0
  clear hb2 hown hrow b1
  have HW := hid (wrap_pow (n := v) (by omega))
  go_wp2
  rw [HW.out, ← HM.out]
  clear HW
  go_loopw [20, 5] (fun i t wr => ∃ k : Nat, k ≤ M ∧ i = .int .u64 k ∧ t = .int .i64 (countTo v zss k) ∧ Below w2.heap.size w2 wr) (fun i _ _ => M - (intOf i).toNat)
  case atStart => exact ⟨0, Nat.zero_le _, rfl, rfl, Below.refl _ _⟩
  case round =>
    obtain ⟨k, hk, rfl, rfl, hbel⟩ := hrel
    have HW := hid hbel
    have HC := hid (countTo_le v zss k)
    clear hbel
    by_cases hlt : k < M
    · go_wp2_with fail
      rw [compl_k (k := k) (by omega), twice_k k]
      refine (allMeet_impl a' zss.length cap' zss (2 * k) (18446744073709551615 - 2 * k) _ (HS.out.below HW.out) (by rw [HL.out]; exact HLits.out) (by omega) (by omega)).mono ?_
      rintro e w3 ⟨rfl, hb3⟩
      have HW3 := hid (HW.out.trans (hb3.mono HW.out.size))
      have HE := hid (cnf_meets (n := k) HK.out (by omega) (by omega))
      rw [HE.out]
      clear hb3
      cases hq : cnfT (valsOf k v) zss
      · have HN : Hid (countTo v zss (k + 1) = countTo v zss k) := by show countTo v zss k + _ = _; rw [hq]; rfl
        clear hq
        go_wp2
        go_roundw
        case rel => exact ⟨k + 1, by omega, by go_num, by rw [HN.out], HW3.out⟩
        case measure => simp [intOf]; omega
      · have HN : Hid (countTo v zss (k + 1) = countTo v zss k + 1) := by show countTo v zss k + _ = _; rw [hq]; rfl
        clear hq
        have hcn : countTo v zss k ≤ 4096 := by have := HC.out; omega
        generalize countTo v zss k = n at *
        go_wp2
        go_roundw
        case rel => exact ⟨k + 1, by omega, by go_num, by rw [HN.out]; rfl, HW3.out⟩
        case measure => simp [intOf]; omega
    · have e : k = M := by omega
      subst e
      go_wp2
      go_ret2
      exact ⟨rfl, HB2.out.trans (HW.out.mono HB2.out.size)⟩
end Go.Proofs.YtjdcndkgodpnlaaDoor.count
