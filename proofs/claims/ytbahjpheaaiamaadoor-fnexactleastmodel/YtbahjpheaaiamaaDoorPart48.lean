/- NodesO; LeastModI; LeastImpl: one text, so that the claim has fewer files. -/
import Derived.Test.YtbahjpheaaiamaaDoorRowsOwn
import Derived.OwnWalk
import Derived.WalkSpells
import Derived.Maps.AppendAt
import Derived.Test.YtbahjpheaaiamaaDoorSolLeast
import Derived.Test.YtbahjpheaaiamaaDoorLeastSem
/- Rows of bools that a call makes for itself; conditions: none. -/
namespace Go.Proofs.YtbahjpheaaiamaaDoor.nodes
open Go.RowKit Go.Deep base
set_option linter.unusedVariables false


def OwnBools (B : Nat) (w : World) (v : Value) (zs : List Bool) : Prop := w.ownsRow B 4 1 v zs.length (zs.map Value.bool)
theorem OwnBools.form {B L : Nat} {w : World} {v : Value} {zs : List Bool} (h : OwnBools B w v zs) (hL : zs.length = L) : ∃ a cap, v = .slice a L cap ∧ BoolRow w a L zs := by
  subst hL
  obtain ⟨h1, h2⟩ := h
  rcases h2 with ⟨rfl, hn⟩ | ⟨g, cap, cur, rfl, hb, hh, hn, hm, hs, ht⟩
  · exact ⟨none, 0, by rw [hn], ⟨rfl, by rw [hn]; exact Nat.zero_le _, fun i hi => by omega⟩⟩
  · refine ⟨some ⟨g, 0, none⟩, cap, rfl, ⟨rfl, Nat.le_trans hn hm, fun i hi => ⟨g, 0, rfl, ?_⟩⟩⟩
    have h3 : cur[i]? = some (.bool (zs[i]?.getD false)) := by
      have : (cur.toList.take (zs.length * 1))[i]? = (zs.map Value.bool)[i]? := by rw [ht]
      rw [List.getElem?_take, if_pos (by omega)] at this
      rw [← Array.getElem?_toList, this, List.getElem?_map, List.getElem?_eq_getElem hi]
      rfl
    simp [World.cell?, hh, h3]
theorem OwnBools.below {B : Nat} {W w1 : World} {v : Value} {zs : List Bool} (h : OwnBools B W v zs) (hb : Below W.heap.size W w1) : OwnBools B w1 v zs := by
  obtain ⟨h1, h2⟩ := h
  refine ⟨h1, ?_⟩
  rcases h2 with h2 | ⟨g, cap, cur, e, hg, hh, hn, hm, hs, ht⟩
  · exact .inl h2
  · exact .inr ⟨g, cap, cur, e, hg, by rw [hb.block g (Array.getElem?_eq_some_iff.1 hh).1]; exact hh, hn, hm, hs, ht⟩
theorem grown_below {B N : Nat} {w w1 w2 : World} {v : Value} {zs : List Bool} (h : OwnBools B w1 v zs) (hb : Below N w w1) (hN : N ≤ B) (hB : B ≤ w1.heap.size) (hg : w1.grownBy w2 v.ownBlock) : Below N w w2 :=
  hb.grown hg (Nat.le_trans hN hB) (fun k hk => Nat.le_trans hN (World.ownsRow.lt h k hk).1)
theorem OwnBools.mono {B B' : Nat} {w : World} {v : Value} {zs : List Bool} (h : OwnBools B w v zs) (hB : B' ≤ B) : OwnBools B' w v zs := by
  obtain ⟨h1, h2⟩ := h
  refine ⟨h1, ?_⟩
  rcases h2 with h2 | ⟨g, cap, cur, e, hg, h3⟩
  · exact .inl h2
  · exact .inr ⟨g, cap, cur, e, Nat.le_trans hB hg, h3⟩
theorem OwnBools.one (B : Nat) (w : World) (b : Bool) (hB : B ≤ w.heap.size) : OwnBools B (w.alloc (.cells #[.bool b] 4)) (.slice (some ⟨w.heap.size, 0, none⟩) 1 1) [b] :=
  ⟨rfl, .inr ⟨w.heap.size, 1, #[.bool b], rfl, hB, heap_alloc_new w _, Nat.le_refl _, by unfold maxLen; omega, rfl, rfl⟩⟩
theorem OwnBools.nil (B : Nat) (w : World) : OwnBools B w (.slice none 0 0) [] := ⟨rfl, .inl ⟨rfl, rfl⟩⟩
theorem OwnBools.zero (B : Nat) (w : World) (hB : B ≤ w.heap.size) : OwnBools B (w.alloc (.cells #[] 4)) (.slice (some ⟨w.heap.size, 0, none⟩) 0 0) [] :=
  ⟨rfl, .inr ⟨w.heap.size, 0, #[], rfl, hB, heap_alloc_new w _, Nat.le_refl _, Nat.zero_le _, rfl, rfl⟩⟩
theorem OwnBools.add {B : Nat} {w : World} {v : Value} {zs ys : List Bool} {n m : Nat} (h : w.ownsRow B 4 1 v (n + m) (zs.map Value.bool ++ ys.map Value.bool)) (hn : zs.length = n) (hm : ys.length = m) : OwnBools B w v (zs ++ ys) := by
  unfold OwnBools
  rw [List.length_append, List.map_append, hn, hm]
  exact h
theorem row_cells {w : World} {g n : Nat} {zs : List Bool} (h : BoolRow w (some ⟨g, 0, none⟩) n zs) {w1 : World} (hb : Below w.heap.size w w1) : ∀ i u, (zs.map Value.bool)[i]? = some u → w1.cell? ((⟨g, 0, none⟩ : Addr).add i) = some u := fun i u hu => by
  rw [List.getElem?_map] at hu
  by_cases hi : i < n
  · obtain ⟨b, o, e, hc⟩ := h.cell i hi
    cases e
    rw [List.getElem?_eq_getElem (by rw [h.length]; omega)] at hu hc
    simp at hu
    subst hu
    have e2 : ((⟨g, 0, none⟩ : Addr).add i) = ⟨g, 0 + i, none⟩ := by
      by_cases e : i = 0
      · subst e; rfl
      · simp [Addr.add, e]
    rw [e2]
    exact keep hb hc
  · rw [List.getElem?_eq_none (by rw [h.length]; omega)] at hu
    simp at hu
theorem info_bool : (Tryd.prog.info? 4).map (fun i => (i.zero, i.size, i.bytes)) = some (some (.bool false), 1, 1) := by kernel_rfl
end Go.Proofs.YtbahjpheaaiamaaDoor.nodes

/- The least model, of the program (LeastModel): its values, or that there is none; conditions: a right formula, the table of math/bits as it is laid. -/
namespace Go.Proofs.YtbahjpheaaiamaaDoor.leastModI
open Go.RowKit Go.Deep Go base copy cnf sets setsOf solSets solOps solMath solHold solMem solNew solX solProp solClose solTrail cdVal cdState cdLes cdBig cdLeast impMath solStart solSolve solBig solLeast hasAny
open rupSpec (LitsIn)
open rupFaceS (cnf_in)
open nodes (OwnBools)
set_option linter.unusedVariables false
set_option linter.unusedSimpArgs false

theorem valsH_len (n : Nat) (H : LS) : (valsH n H).length = n := by simp [valsH]
theorem valsH_succ (k : Nat) (H : LS) : valsH (k + 1) H = valsH k H ++ [mem H ((k : Int) + 1)] := by simp [valsH, List.range_succ]
/-- How LeastModel of the program ends. -/
def MI (Z : List (List Int)) (n : Nat) (w : World) (e : Ending) (w' : World) : Prop :=
  (∃ v H, e = .returned (.tuple #[v, .int .i64 0]) ∧ OwnBools w.heap.size w' v (valsH n H) ∧ (∃ B, LeastAt n (Z.map setL) B H (n + 1)) ∧ Below w.heap.size w w') ∨ (e = .returned (.tuple #[.slice none 0 0, .int .i64 6]) ∧ (¬ ∃ H, Mdl n (Z.map setL) H) ∧ Below w.heap.size w w')
theorem leastModel_bad (vars : Int) (a : Option Addr) (len cap : Nat) (zss : List (List Int)) (w : World) (hr : IntRows w a len zss) (hc : cnfB vars zss = false) :
    Calls Tryd.prog 8 #[.agg #[.int .i64 vars, .slice a len cap]] w fun e w' => e = .returned (.tuple #[.slice none 0 0, .int .i64 1]) ∧ Below w.heap.size w w' := by
  have HCo := hid (fun (W : World) (hbw : Below w.heap.size w W) => cnfOK_impl vars a len cap zss W (hr.below hbw))
  rw [hc] at HCo
  clear hr hc
  go_enter Tryd.func8, Tryd.ntmps8
  go_wp2_with fail
  refine (HCo.out _ (by repeat (first | exact Below.refl _ _ | assumption | refine Below.drew ?_ | refine Below.alloc ?_ (by first | exact Nat.le_refl _ | omega | (simp; done) | (simp; omega)) _ | refine Below.setCell ?_ (by first | exact Nat.le_refl _ | omega | (simp; done) | (simp; omega)) _))).mono ?_
  rintro e w2 ⟨rfl, hb2⟩
  have H2 := hid ((show Below w.heap.size w _ from (by repeat (first | exact Below.refl _ _ | assumption | refine Below.drew ?_ | refine Below.alloc ?_ (by first | exact Nat.le_refl _ | omega | (simp; done) | (simp; omega)) _ | refine Below.setCell ?_ (by first | exact Nat.le_refl _ | omega | (simp; done) | (simp; omega)) _))).trans (Below.mono hb2 (by simp)))
  clear hb2
  go_wp2
  go_ret2
  exact ⟨rfl, H2.out⟩
set_option maxHeartbeats 6400000 in
set_option maxRecDepth 8000 in
theorem leastModel_impl (n : Nat) (a : Option Addr) (len cap : Nat) (zss : List (List Int)) (w : World) (hr : IntRows w a len zss) (hck : cnfB (n : Int) zss = true) (ht : Tab w) :
    Calls Tryd.prog 8 #[.agg #[.int .i64 n, .slice a len cap]] w fun e w' => MI zss n w e w' := by
  obtain ⟨hv0, hv1, hv2⟩ := rupFaceS.cnf_vars hck
  have hn : n ≤ 40 := by omega
  have hll : LitsIn (n + 1) zss := cnf_in (by simpa using hck)
  have hz41 : ∀ c ∈ zss, ∀ z ∈ c, z ≠ 0 ∧ z.natAbs < 41 := fun c h1 z h2 => by
    have := hll c h1 z h2
    exact ⟨this.1, by omega⟩
  have hc0 : ∀ l, mem (0, 0) l = true → mem (0, 0) (-l) = false := fun l h => by rw [mem_zero] at h; cases h
  have HCo := hid (fun (W : World) (hbw : Below w.heap.size w W) => cnfOK_impl n a len cap zss W (hr.below hbw))
  rw [hck] at HCo
  have HNw := hid (fun (W : World) (hW : Below w.heap.size w W) => new_impl n a len cap zss (0, 0) W (hr.below hW) (by have := hr.length; omega) hz41 wf_zero hc0 (tab_below ht hW))
  have HSt := hid (fun (M mb : Nat) (F : Nat → Value) (V : Int → Value) (W : World) (hs : Sol 0 M mb F V (newS n (0, 0) (zss.map setL)) W) (hv : V 0 = nilV) => by
    obtain ⟨r, hr⟩ := start_big hn hll wf_zero hc0 (by omega : zss.length ≤ 8388608)
    obtain ⟨h1, h2⟩ := start_srch hn hll wf_zero hc0 hs hv r hr
    exact solve_big n 800 (zss.map setL) (0, 0) (0, 0) M mb F V _ 1024 r W h1 0 (by omega) (fun e => absurd h2 e))
  obtain ⟨i0, hi, hzz⟩ := Option.map_eq_some_iff.1 nodes.info_bool
  simp only [Prod.mk.injEq] at hzz
  obtain ⟨hz0, hz1, hz2⟩ := hzz
  have HI := hid hi
  have HZ0 := hid hz0
  have HZ1 := hid hz1
  have HZ2 := hid hz2
  clear hi hz0 hz1 hz2 hr hck ht hv0 hv1 hv2 hll hz41 hc0
  go_enter Tryd.func8, Tryd.ntmps8
  go_wp2_with fail
  refine (HCo.out _ (by repeat (first | exact Below.refl _ _ | assumption | refine Below.drew ?_ | refine Below.alloc ?_ (by first | exact Nat.le_refl _ | omega | (simp; done) | (simp; omega)) _ | refine Below.setCell ?_ (by first | exact Nat.le_refl _ | omega | (simp; done) | (simp; omega)) _))).mono ?_
  rintro e w2 ⟨rfl, hb2⟩
  have f0 := keep hb2 (show (w.alloc (.cells #[.int .i64 n, .slice a len cap] 29)).cell? ⟨w.heap.size, 0, none⟩ = some (.int .i64 n) by simp [go_sem])
  have f1 := keep hb2 (show (w.alloc (.cells #[.int .i64 n, .slice a len cap] 29)).cell? ⟨w.heap.size, 1, none⟩ = some (.slice a len cap) by simp [go_sem])
  have H2 := hid ((show Below w.heap.size w _ from (by repeat (first | exact Below.refl _ _ | assumption | refine Below.drew ?_ | refine Below.alloc ?_ (by first | exact Nat.le_refl _ | omega | (simp; done) | (simp; omega)) _ | refine Below.setCell ?_ (by first | exact Nat.le_refl _ | omega | (simp; done) | (simp; omega)) _))).trans (Below.mono hb2 (by simp)))
  have z2 : w.heap.size < w2.heap.size := by have := hb2.size; simp at this; omega
  clear hb2
  go_wp2_with fail
  refine (HNw.out _ H2.out).mono ?_
  rintro e w3 ⟨M, mb, F, V, rfl, hs3, hv3, hb3, m1, m2, m3⟩
  replace f0 := keep hb3 f0
  replace f1 := keep hb3 f1
  have HS3 := hid hs3
  have H3 := hid (H2.out.trans (hb3.mono H2.out.size))
  have HM1 := hid m1
  have HM2 := hid m2
  have HM3 := hid m3
  have HV3 := hid hv3
  have z3 : w2.heap.size ≤ w3.heap.size := hb3.size
  clear hs3 hv3 hb3 m1 m2 m3 f1
  go_wp2_with fail
  refine (HSt.out M mb F V w3 HS3.out HV3.out).mono ?_
  rintro e w4 ⟨b, mb4, F4, V4, p, g4, r4, rfl, hs4, hch4, ht4, hf4⟩
  have hb4 : Below w2.heap.size w3 w4 := hch4.toBelow z3 HM1.out HM2.out HM3.out
  have g0 : w4.cell? ⟨w.heap.size, 0, none⟩ = some (.int .i64 n) := (World.cell?_of_block (a := ⟨w.heap.size, 0, none⟩) (hb4.block w.heap.size z2)).trans f0
  have H4 : Hid (Below w.heap.size w w4) := hid (H3.out.trans (hb4.mono (Nat.le_of_lt z2)))
  have HS4 := hid hs4
  have HC4 := hid hch4
  have HT4 := hid ht4
  have HF4 := hid hf4
  have z4 : w2.heap.size ≤ w4.heap.size := Nat.le_trans z3 hb4.size
  clear hs4 hch4 ht4 hf4 hb4 f0
  cases b with
  | false =>
    have HNo : Hid (¬ ∃ H, Mdl n (zss.map setL) H) := hid (fun ⟨H, hH⟩ => HF4.out rfl ⟨H, hH, fun l hl => (by rw [mem_zero] at hl; cases hl), by simp⟩)
    go_wp2
    go_ret2
    exact .inr ⟨rfl, HNo.out, H4.out⟩
  | true =>
    go_wp2_with fail
    refine (least_impl n (zss.map setL) M mb4 F4 V4 p g4 r4 w4 HS4.out (HT4.out (by trivial)).1).mono ?_
    rintro e w5 ⟨H, rfl, ⟨B, hle⟩, hwf, mb5, F5, V5, s5, hs5, hc5⟩
    have hb5 : Below w2.heap.size w3 w5 := (HC4.out.trans hc5).toBelow z3 HM1.out HM2.out HM3.out
    have H5 : Hid (Below w.heap.size w w5) := hid (H3.out.trans (hb5.mono (Nat.le_of_lt z2)))
    have hb45 : Below w2.heap.size w4 w5 := ⟨hc5.os, hc5.tape, hc5.output, hc5.size, fun j hj => hc5.block j (by omega) (fun e => by have := HM1.out; omega) (fun e => by
      rcases HC4.out.map with e2 | e2
      · have := HM2.out; omega
      · omega) (fun a ha => by
      rcases HC4.out.news a j ha with e2 | e2
      · have := HM3.out a j e2; omega
      · omega)⟩
    have g1 : w5.cell? ⟨w.heap.size, 0, none⟩ = some (.int .i64 n) := (World.cell?_of_block (a := ⟨w.heap.size, 0, none⟩) (hb45.block w.heap.size z2)).trans g0
    have z5 : w.heap.size < w5.heap.size := by have := hb45.size; omega
    have HLe := hid hle
    have HWf := hid hwf
    obtain ⟨H1, hH1⟩ : ∃ q, H.1 = q := ⟨_, rfl⟩
    obtain ⟨H2', hH2⟩ : ∃ q, H.2 = q := ⟨_, rfl⟩
    have HHe : Hid (H = (H1, H2')) := hid (by rw [← hH1, ← hH2])
    rw [hH1, hH2]
    clear hle hwf hs5 hc5 hb5 hb45 g0 hH1 hH2
    go_wp2_with fail
    have hba : Below w5.heap.size w5 (w5.alloc (.cells #[.int .u64 H1, .int .u64 H2'] 51)) := (by repeat (first | exact Below.refl _ _ | assumption | refine Below.drew ?_ | refine Below.alloc ?_ (by first | exact Nat.le_refl _ | omega | (simp; done) | (simp; omega)) _ | refine Below.setCell ?_ (by first | exact Nat.le_refl _ | omega | (simp; done) | (simp; omega)) _))
    have c0 : (w5.alloc (.cells #[.int .u64 H1, .int .u64 H2'] 51)).cell? ⟨w5.heap.size, 0, none⟩ = some (.int .u64 H1) := by simp [go_sem]
    have c1 : (w5.alloc (.cells #[.int .u64 H1, .int .u64 H2'] 51)).cell? ⟨w5.heap.size, 1, none⟩ = some (.int .u64 H2') := by simp [go_sem]
    have g2 := keep hba g1
    have z6 : (w5.alloc (.cells #[.int .u64 H1, .int .u64 H2'] 51)).heap.size = w5.heap.size + 1 := by simp
    generalize (w5.alloc (.cells #[.int .u64 H1, .int .u64 H2'] 51)) = w6 at *
    have H6 : Hid (Below w.heap.size w w6) := hid (H5.out.trans (hba.mono H5.out.size))
    clear hba g1
    go_loopw [7, 6] (fun i v wr => ∃ k : Nat, k ≤ n ∧ i = .int .i64 ((k + 1 : Nat) : Int) ∧ OwnBools w6.heap.size wr v (valsH k H) ∧ Below w6.heap.size w6 wr) (fun i _ _ => n + 1 - (intOf i).toNat)
    case atStart => exact ⟨0, Nat.zero_le _, rfl, nodes.OwnBools.nil _ _, Below.refl _ _⟩
    case round =>
      rename_i v
      obtain ⟨k, hk, rfl, hox, hbel⟩ := hrel
      have HO := hid hox
      have HB := hid hbel
      have hszw := hbel.size
      obtain ⟨xa, xc, hv, -⟩ := hox.form (valsH_len k H)
      subst hv
      have h0 := keep hbel g2
      have b0 := keep hbel c0
      have b1 := keep hbel c1
      clear hox hbel
      by_cases hlt : k < n
      · have e1 : ((k + 1 : Nat) : Int) ≤ (n : Int) := by omega
        have HSu := hid (valsH_succ k H)
        have HHa := hid (fun W : World => has_any (H1, H2') ((k + 1 : Nat) : Int) W (by rw [← HHe.out]; exact HWf.out) (by omega) (by omega))
        go_wp2_with fail
        refine (HHa.out _).mono ?_
        rintro e w7 ⟨rfl, hb7⟩
        have HB7 : Hid (Below w6.heap.size w6 w7) := hid (HB.out.trans (hb7.mono HB.out.size))
        have HO7 := hid (HO.out.below hb7)
        have z7 := HB7.out.size
        have hmx : mem (H1, H2') ((k + 1 : Nat) : Int) = mem H ((k : Int) + 1) := by rw [HHe.out]; rfl
        rw [hmx]
        obtain ⟨x, hx⟩ : ∃ x, mem H ((k : Int) + 1) = x := ⟨_, rfl⟩
        rw [hx] at HSu ⊢
        clear hb7 h0 b0 b1 hmx hx
        go_wp2_with (at_builtin; (refine wpList_append_own _ rfl _ _ 26 rfl w6.heap.size 4 i0 (.bool false) 1 1 Tryd.underlying26 HI.out HZ0.out HZ1.out HZ2.out rfl (by decide) _ k _ rfl (by have h9 := World.ownsRow.alloc HO7.out (.cells #[.bool x] 4); rw [valsH_len] at h9; exact h9) ⟨w7.heap.size, 0, none⟩ 1 1 [.bool x] rfl rfl (cell_one_new _ _ _) (fun u hu => by simp at hu; subst hu; rfl) (by unfold maxLen; omega) (by omega) (by simp; omega) ?_); intro v' w9 hown' hgrow9 hnil9)
        have HO9 : Hid (OwnBools w6.heap.size w9 v' (valsH (k + 1) H)) := hid (by
          unfold OwnBools
          rw [HSu.out, List.length_append, List.map_append, valsH_len]
          exact hown')
        have hba : Below w6.heap.size w6 (w7.alloc (.cells #[.bool x] 4)) := HB7.out.alloc HB7.out.size _
        have HB9 : Hid (Below w6.heap.size w6 w9) := hid (hba.grown hgrow9 (by simp; omega) (fun j hj => (World.ownsRow.lt HO7.out j hj).1))
        clear hown' hgrow9 hnil9 hba
        go_wp2
        go_roundw
        case rel => exact ⟨k + 1, by omega, by go_num, HO9.out, HB9.out⟩
        case measure => simp [intOf]; omega
      · have e : k = n := by omega
        subst e
        have e1 : ¬ (((k + 1 : Nat) : Int) ≤ (k : Int)) := by omega
        go_wp2
        go_ret2
        exact .inl ⟨_, H, rfl, HO.out.mono H6.out.size, ⟨B, HLe.out⟩, H6.out.trans (HB.out.mono H6.out.size)⟩
end Go.Proofs.YtbahjpheaaiamaaDoor.leastModI

/- The least model that goes with chosen values, of the specification (l02Least); conditions: literals of the variables, lengths that fit. -/
namespace Go.Proofs.YtbahjpheaaiamaaDoor.leastImpl
open Go.RowKit Go.Deep base copy rowsOwn runL leastSem
open runS (ValRow setV openN open_set open_le)
set_option linter.unusedVariables false

def valsL (V : Nat → Int) (n : Nat) : List Int := (List.range n).map V
theorem vals_len (V : Nat → Int) (n : Nat) : (valsL V n).length = n := by simp [valsL]
theorem vals_at (V : Nat → Int) {n i : Nat} (h : i < n) : (valsL V n)[i]?.getD 0 = V i := by simp [valsL, h]
theorem vals_news {w : World} {b n : Nat} {V : Nat → Int} (h : ValRow w b n V) : ∀ i u, ((valsL V n).map (Value.int .i64))[i]? = some u → w.cell? ((⟨b, 0, none⟩ : Addr).add i) = some u := fun i u hu => by
  have hi : i < n := by
    have := (List.getElem?_eq_some_iff.1 hu).1
    simpa [valsL] using this
  have e : (⟨b, 0, none⟩ : Addr).add i = ⟨b, 0 + i, none⟩ := by unfold Addr.add; split <;> simp_all
  rw [e, Nat.zero_add, (h.cell i hi).1]
  rw [← hu]
  simp [valsL, hi]
theorem vals_own {B g n c : Nat} {w : World} {V : Nat → Int} (h : OwnInts B w (.slice (some ⟨g, 0, none⟩) n c) (valsL V n)) (hr : Rng V n) : ValRow w g n V :=
  ⟨fun i hi => by
    obtain ⟨h1, h2⟩ := (own_holds h).2 i hi
    rw [Nat.zero_add, vals_at V hi] at h1
    rw [Nat.zero_add] at h2
    exact ⟨h1, h2⟩, hr⟩
theorem one_ints (zs : List Int) : ∀ u ∈ zs.map (Value.int .i64), u.oneCell' = true := fun u hu => by
  obtain ⟨z, _, rfl⟩ := List.mem_map.1 hu
  rfl
/-- How it ends: with the least model in a row of its own, or none is. -/
def LEnds (Z : List (List Int)) (n : Nat) (V : Nat → Int) (w : World) (e : Ending) (w' : World) : Prop :=
  (∃ g c M, e = .returned (.tuple #[.slice (some ⟨g, 0, none⟩) n c, .bool true]) ∧ ValRow w' g n M ∧ Least Z n V M ∧ Below w.heap.size w w') ∨ (e = .returned (.tuple #[.slice none 0 0, .bool false]) ∧ None_ Z n V ∧ Below w.heap.size w w')
set_option maxRecDepth 100000 in
set_option maxHeartbeats 6400000 in
theorem least_spec (B n : Nat) (a : Option Addr) (len cap : Nat) (psZ : List (Value × List Int)) (hn1 : 1 ≤ n) (hn : n ≤ 41) (hl : Lits (psZ.map (·.2)) n) :
    ∀ (m b c : Nat) (V : Nat → Int) (w : World), openN V n < m → OwnRows B w (.slice a len cap) psZ → ValRow w b n V →
      Calls Tryd.prog 20 #[.slice a len cap, .slice (some ⟨b, 0, none⟩) n c] w fun e w' => LEnds (psZ.map (·.2)) n V w e w' := by
  obtain ⟨i0, hi, hzz⟩ := Option.map_eq_some_iff.1 Tryd.info_int
  simp only [Prod.mk.injEq] at hzz
  obtain ⟨hz0, hz1, hz2⟩ := hzz
  have HI := hid hi
  have HZ0 := hid hz0
  have HZ1 := hid hz1
  have HZ2 := hid hz2
  clear hi hz0 hz1 hz2
  have HLi := hid hl
  obtain ⟨Z, hZ⟩ : ∃ Z, psZ.map (·.2) = Z := ⟨_, rfl⟩
  rw [hZ] at HLi ⊢
  have HZe := hid hZ
  clear hl hZ
  intro m
  induction m with
  | zero => intro b c V w h; exact absurd h (Nat.not_lt_zero _)
  | succ m ih =>
    intro b c V w hop hrows hv
    have HIh := hid ih
    have HOp := hid hop
    have HRows := hid hrows
    have HNews := hid (fun o => vals_news (vals_keep hv ((show Below w.heap.size w (w.alloc o) from (by repeat (first | exact Below.refl _ _ | assumption | refine Below.drew ?_ | refine Below.alloc ?_ (by first | exact Nat.le_refl _ | omega | (simp; done) | (simp; omega)) _ | refine Below.setCell ?_ (by first | exact Nat.le_refl _ | omega | (simp; done) | (simp; omega)) _))).block b (World.block_lt_of_cell? _ _ (hv.cell 0 (by omega)).1))))
    have HRng := hid hv.range
    clear ih hop hrows hv
    go_enter Tryd.func20, Tryd.ntmps20
    go_wp2_with (at_builtin; (refine wpList_append_own _ rfl _ _ 36 rfl w.heap.size 3 i0 (.int .i64 0) 1 8 Tryd.underlying36 HI.out HZ0.out HZ1.out HZ2.out rfl (by decide) _ _ _ rfl (cnfDraw.own_new w rfl (Nat.le_refl _)) ⟨b, 0, none⟩ n c ((valsL V n).map (.int .i64)) rfl (by rw [List.length_map, vals_len, Nat.mul_one]) (HNews.out _) (one_ints _) (by unfold maxLen; omega) (by omega) (by simp) ?_); intro v1 w1 hown1 hg1 hnil1)
    have hba : Below w.heap.size w (w.alloc (.cells #[] 3)) := (by repeat (first | exact Below.refl _ _ | assumption | refine Below.drew ?_ | refine Below.alloc ?_ (by first | exact Nat.le_refl _ | omega | (simp; done) | (simp; omega)) _ | refine Below.setCell ?_ (by first | exact Nat.le_refl _ | omega | (simp; done) | (simp; omega)) _))
    have HB1 : Hid (Below w.heap.size w w1) := hid (hba.grown hg1 hba.size (fun j e => by have e' : some w.heap.size = some j := e; injection e' with e'; omega))
    have HO1 : Hid (OwnInts w.heap.size w1 v1 (valsL V n)) := hid (by
      unfold OwnInts
      rw [vals_len]
      simpa using hown1)
    obtain ⟨vb, vc, hv1, hvb, hvl⟩ : ∃ g c, v1 = .slice (some ⟨g, 0, none⟩) n c ∧ w.heap.size ≤ g ∧ g < w1.heap.size := by
      rcases HO1.out.2 with ⟨e, h0⟩ | ⟨g, cp, cur, e, h1, h2, _⟩
      · rw [vals_len] at h0; omega
      · rw [vals_len] at e
        exact ⟨g, cp, e, h1, (Array.getElem?_eq_some_iff.1 h2).1⟩
    subst hv1
    have hvr1 := vals_own HO1.out HRng.out
    have HRun := hid (run_spec a len cap vb n vc Z V w1 (fun w' hg => by
      rw [← HZe.out]
      exact rows_of_own (HRows.out.below (HB1.out.grown hg HB1.out.size (fun j e => by injection e with e; omega)))) hvr1 hvl (fun zs' hz' z hz => (HLi.out zs' hz' z hz).2) hn)
    have HSn : Hid (∀ M', Mod Z n M' → Ext V M' n → (runF (n + 1) Z V []).2.1 = -1 ∧ Ext (runF (n + 1) Z V []).2.2 M' n) := hid (fun M' h1 h2 => run_sound HLi.out _ _ _ M' h1 h2)
    have HSa : Hid (∀ i, V i ≠ 0 → (runF (n + 1) Z V []).2.2 i = V i) := hid (fun i h => run_same _ _ _ i h)
    have HRg : Hid (Rng (runF (n + 1) Z V []).2.2 n) := hid (run_rng _ _ _ HRng.out)
    have HOn : Hid ((runF (n + 1) Z V []).2.1 < 0 → ∀ c ∈ Z, (runS.clS (runF (n + 1) Z V []).2.2 c 0 0).1 = true ∨ (runS.clS (runF (n + 1) Z V []).2.2 c 0 0).2.1 ≠ 0) := hid (run_open HLi.out _ _ _ (by have := open_most V n; omega))
    have HOl : Hid (openN (runF (n + 1) Z V []).2.2 n ≤ openN V n) := hid (open_le n (fun i _ h => by rw [run_same _ _ _ i h]; exact h))
    generalize runF (n + 1) Z V [] = R at *
    obtain ⟨Ro, Ra, V'⟩ := R
    simp only at HRun HSn HSa HRg HOn HOl
    clear hown1 hg1 hnil1 hba hvr1 HNews HO1
    go_wp2_with fail
    refine HRun.out.mono ?_
    rintro e w2 ⟨ov, rfl, -, hv2, hg2⟩
    have HB2 : Hid (Below w.heap.size w w2) := hid (HB1.out.grown hg2 HB1.out.size (fun j e => by injection e with e; omega))
    have HV2 := hid hv2
    have hvl2 : vb < w2.heap.size := Nat.lt_of_lt_of_le hvl hg2.size
    clear hv2 hg2 HRun
    by_cases hat : 0 ≤ Ra
    · go_wp2
      go_ret2
      exact .inr ⟨rfl, (fun M' h1 h2 => by have := (HSn.out M' h1 h2).1; omega), HB2.out⟩
    · have hat' : ¬ (0 : Int) ≤ Ra := hat
      have HOn2 := hid (HOn.out (by omega))
      go_wp2
      go_loop [9] (fun i => ∃ q : Nat, 1 ≤ q ∧ q ≤ n ∧ i = .int .i64 q ∧ ∀ j, 1 ≤ j → j < q → V' j ≠ 0) (fun i => n - (intOf i).toNat)
      case atStart => exact ⟨1, Nat.le_refl _, hn1, rfl, (fun j h1 h2 => by omega)⟩
      case round =>
        obtain ⟨q, hq1, hq2, rfl, hbf⟩ := hrel
        have HBf := hid hbf
        clear hbf
        by_cases hlt : q < n
        · obtain ⟨hc, hf⟩ := HV2.out.cell q hlt
          have hqi : (q : Int) < (n : Int) := by omega
          by_cases hv0 : V' q = 0
          · rw [hv0] at hc
            have HV0 := hid hv0
            have HLow : Hid (ValRow (w2.setCell ⟨vb, q, none⟩ (.int .i64 (-1))) vb n (setV V' (-(q : Int)))) := hid (by
              have h9 := HV2.out.set (z := -(q : Int))
              rw [if_neg (by omega)] at h9
              have e9 : (-(q : Int)).natAbs = q := by omega
              rw [e9] at h9
              exact h9)
            have HB3 : Hid (Below w.heap.size w (w2.setCell ⟨vb, q, none⟩ (.int .i64 (-1)))) := hid (HB2.out.setCell (by show w.heap.size ≤ vb; exact hvb) _)
            have hvl3 : vb < (w2.setCell ⟨vb, q, none⟩ (.int .i64 (-1))).heap.size := by simpa [World.setCell] using hvl2
            have HI1 := hid (HIh.out vb vc (setV V' (-(q : Int))) _ (by
              have h8 := open_set (V := V') (z := -(q : Int)) n (by omega) (by rw [show (-(q : Int)).natAbs = q by omega]; exact HV0.out)
              have := HOp.out
              have := HOl.out
              omega) (HRows.out.below HB3.out) HLow.out)
            clear hv0
            go_wp2_with fail
            obtain ⟨w3, hw3⟩ : ∃ w3, w2.setCell ⟨vb, q, none⟩ (.int .i64 (-1)) = w3 := ⟨_, rfl⟩
            rw [hw3] at HLow HB3 hvl3 HI1 ⊢
            clear hw3
            refine HI1.out.mono ?_
            rintro e w4 (⟨g4, c4, M4, rfl, hv4, hl4, hb4⟩ | ⟨rfl, hno, hb4⟩)
            · have HV4 := hid hv4
              have HL4 := hid (least_low (fun M' h1 h2 => (HSn.out M' h1 h2).2) HSa.out hq1 hlt HBf.out HV0.out hl4)
              have HB4 := hid (HB3.out.trans (hb4.mono HB3.out.size))
              clear hv4 hl4 hb4
              go_wp2
              go_ret2
              exact .inl ⟨g4, c4, M4, rfl, HV4.out, HL4.out, HB4.out⟩
            · have HNo := hid hno
              have HB4 := hid (HB3.out.trans (hb4.mono HB3.out.size))
              have HV4 := hid (vals_keep HLow.out (hb4.block vb hvl3))
              have hvl4 : vb < w4.heap.size := Nat.lt_of_lt_of_le hvl3 hb4.size
              obtain ⟨hc4, hf4⟩ := HV4.out.cell q hlt
              have HHi : Hid (ValRow (w4.setCell ⟨vb, q, none⟩ (.int .i64 1)) vb n (setV V' (q : Int))) := hid (by
                have h9 := HV4.out.set (z := (q : Int))
                rw [if_pos (by omega), Int.natAbs_natCast, set_two] at h9
                exact h9)
              have HB5 : Hid (Below w.heap.size w (w4.setCell ⟨vb, q, none⟩ (.int .i64 1))) := hid (HB4.out.setCell (by show w.heap.size ≤ vb; exact hvb) _)
              have HI2 := hid (HIh.out vb vc (setV V' (q : Int)) _ (by
                have h8 := open_set (V := V') (z := (q : Int)) n (by omega) (by rw [Int.natAbs_natCast]; exact HV0.out)
                have := HOp.out
                have := HOl.out
                omega) (HRows.out.below HB5.out) HHi.out)
              clear hno hb4 HI1
              go_wp2_with fail
              refine HI2.out.mono ?_
              rintro e w6 (⟨g6, c6, M6, rfl, hv6, hl6, hb6⟩ | ⟨rfl, hno6, hb6⟩)
              · have HV6 := hid hv6
                have HL6 := hid (least_high (fun M' h1 h2 => (HSn.out M' h1 h2).2) HSa.out hq1 hlt HV0.out HNo.out hl6)
                have HB6 := hid (HB5.out.trans (hb6.mono HB5.out.size))
                clear hv6 hl6 hb6
                go_wp2
                go_ret2
                exact .inl ⟨g6, c6, M6, rfl, HV6.out, HL6.out, HB6.out⟩
              · have HN6 := hid (none_both (fun M' h1 h2 => (HSn.out M' h1 h2).2) hq1 hlt HNo.out hno6)
                have HB6 := hid (HB5.out.trans (hb6.mono HB5.out.size))
                clear hno6 hb6
                go_wp2
                go_ret2
                exact .inr ⟨rfl, HN6.out, HB6.out⟩
          · have hvq : (V' q == 0) = false := beq_eq_false_iff_ne.2 hv0
            have hvq' : (V' q != 0) = true := by simp [hv0]
            go_wp2
            go_round
            case rel => exact ⟨q + 1, by omega, by omega, by go_num, fun j h1 h2 => by
              rcases Nat.lt_or_ge j q with h3 | h3
              · exact HBf.out j h1 h3
              · have : j = q := by omega
                subst this
                exact hv0⟩
            case measure => simp [intOf]; omega
        · have e : q = n := by omega
          have HW := hid (least_whole (fun M' h1 h2 => (HSn.out M' h1 h2).2) HSa.out (fun i a b => HBf.out i a (by omega)) (whole_model HLi.out HRg.out (fun i a b => HBf.out i a (by omega)) HOn2.out))
          have hqi : ¬ (q : Int) < (n : Int) := by omega
          clear e
          go_wp2
          go_ret2
          exact .inl ⟨vb, vc, V', rfl, HV2.out, HW.out, HB2.out⟩
end Go.Proofs.YtbahjpheaaiamaaDoor.leastImpl
