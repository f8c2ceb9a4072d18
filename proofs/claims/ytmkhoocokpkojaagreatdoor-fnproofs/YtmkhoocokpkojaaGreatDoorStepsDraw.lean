import Derived.Test.YtmkhoocokpkojaaGreatDoorPart9
import Derived.Test.YtmkhoocokpkojaaGreatDoorPart10
import Derived.Deep.CutBlock
import Derived.Lib.Builder
namespace Go.Proofs.YtmkhoocokpkojaaGreatDoor.stepsDraw
open Go.RowKit Go.Deep base copy rowsOwn source drawn heldStore drawnLin drawnSrc refFace stepAppend
open readSpecP (Pt pcs OwnSteps strip)
set_option linter.unusedVariables false
theorem src_type {w : World} {b len cap k : Nat} {a : Option Addr} (h : Src w b a len cap k) : ∃ cs, w.heap[b]? = some (.cells cs 82 (0, 0)) := by
 obtain ⟨_, ⟨n, s, _, _, _, _, hrow⟩, _⟩ := h
 obtain ⟨c, hc, _⟩ := hrow
 exact ⟨c, hc⟩
theorem own_b {B n s b : Nat} {t : TypeId} {w w1 : World} {v : Value} {xs : List Value} (h : w.ownsRow B t s v n xs) (hT : ∃ cs, w.heap[b]? = some (.cells cs 82 (0, 0))) (ht : t ≠ 82) (hg : w.grownBy w1 (some b)) : w1.ownsRow B t s v n xs :=
 refSem.own_at h fun g cs hv hh => hg.block g (Array.getElem?_eq_some_iff.1 hh).1 fun e => by
  injection e with e
  subst e
  obtain ⟨cs', hT⟩ := hT
  rw [hh] at hT
  injection hT with hT
  injection hT with _ hT _
  exact ht hT
theorem rows_b {B b : Nat} {w w1 : World} {v : Value} {ps : List (Value × List Int)} (h : OwnRows B w v ps) (hT : ∃ cs, w.heap[b]? = some (.cells cs 82 (0, 0))) (hg : w.grownBy w1 (some b)) : OwnRows B w1 v ps :=
 ⟨own_b h.outer hT (by decide) hg, fun p hp => own_b (h.inner p hp) hT (by decide) hg⟩
theorem steps_b {B b : Nat} {w w1 : World} {v : Value} {ps : List Pt} (h : OwnSteps B w v ps) (hT : ∃ cs, w.heap[b]? = some (.cells cs 82 (0, 0))) (hg : w.grownBy w1 (some b)) : OwnSteps B w1 v ps :=
 ⟨own_b h.outer hT (by decide) hg, fun p hp => own_b (h.inner p hp) hT (by decide) hg⟩
theorem own_noneS {B H : Nat} (w : World) (t : TypeId) (s : Nat) (h : w.heap.size = H) (hB : B ≤ H) : (w.alloc (.cells #[] t)).ownsRow B t s (.slice (some ⟨H, 0, none⟩) 0 0) 0 [] :=
 ⟨by simp, .inr ⟨H, 0, #[], rfl, hB, by subst h; exact heap_alloc_new w _, Nat.le_refl _, Nat.zero_le _, by simp, by simp⟩⟩
theorem at_twoS {w : World} {b : Nat} {x y : Value} (h0 : w.cell? ⟨b, 0, none⟩ = some x) (h1 : w.cell? ⟨b, 1, none⟩ = some y) : ∀ j u, [x, y][j]? = some u → w.cell? ((⟨b, 0, none⟩ : Addr).add j) = some u := by
 intro j u h
 match j, h with
 | 0, h => simp at h; subst h; simpa [Addr.add] using h0
 | 1, h => simp at h; subst h; simpa [Addr.add] using h1
 | j + 2, h => simp at h
theorem set_blkS {w : World} {b : Nat} {x y v : Value} {t : TypeId} (h : w.heap[b]? = some (.cells #[x, y] t (0, 0))) : (w.setCell ⟨b, 1, none⟩ v).heap[b]? = some (.cells #[x, v] t (0, 0)) := by
 simp [World.setCell, Array.getElem?_modify, h]
theorem cnf_row {v : Int} {psZ : List (Value × List Int)} (h : cnf.cnfB v (psZ.map (·.2)) = true) (p : Value × List Int) (hp : p ∈ psZ) : p.2.length ≤ 12 ∧ ∀ z ∈ p.2, cnf.litB v z = true := by
 refine ⟨?_, (cnf_lits h).2.2 p hp⟩
 unfold cnf.cnfB at h
 rw [Bool.and_eq_true] at h
 have h3 := List.all_eq_true.1 h.2 p.2 (List.mem_map_of_mem hp)
 unfold cnf.clauseB at h3
 rw [Bool.and_eq_true] at h3
 exact of_decide_eq_true h3.1
theorem add_at (g off j : Nat) : (⟨g, off, none⟩ : Addr).add j = ⟨g, off + j, none⟩ := by unfold Addr.add; split <;> simp_all
theorem pcs_len : ∀ ps : List Pt, (ps.flatMap pcs).length = ps.length * 2
 | [] => rfl
 | p :: ps => by rw [List.flatMap_cons, List.length_append, pcs_len ps, List.length_cons]; show 2 + _ = _; omega
theorem steps_cells {B n c g : Nat} {w : World} {ps : List Pt} (h : OwnSteps B w (.slice (some ⟨g, 0, none⟩) n c) ps) : ps.length = n ∧ n ≤ c ∧ c ≤ maxLen ∧ g < w.heap.size ∧ ∀ i u, (ps.flatMap pcs)[i]? = some u → w.cell? ⟨g, i, none⟩ = some u := by
 obtain ⟨h1, h2⟩ := h.outer
 rcases h2 with ⟨e, _⟩ | ⟨g', cap, cur, e, hb, hh, hc, hm, hz, ht⟩
 · cases e
 · injection e with e1 e2 e3
   injection e1 with e1
   injection e1 with e1
   subst e1
   subst e2
   subst e3
   refine ⟨rfl, hc, hm, (Array.getElem?_eq_some_iff.1 hh).1, fun i u hu => ?_⟩
   have hi : i < ps.length * 2 := by
    have := (List.getElem?_eq_some_iff.1 hu).1
    omega
   rw [← ht, List.getElem?_take_of_lt hi] at hu
   rw [Lib.cell_of_heap hh]
   simpa using hu
theorem pcs_one {B : Nat} {w : World} {v : Value} {ps : List Pt} (h : OwnSteps B w v ps) : ∀ u ∈ ps.flatMap pcs, u.oneCell' = true := fun u hu => by
 obtain ⟨p, hp, hm⟩ := List.mem_flatMap.1 hu
 obtain ⟨pa, pc, e, -⟩ := OwnInts.form (h.inner p hp)
 simp only [pcs, List.mem_cons, List.not_mem_nil, or_false] at hm
 rcases hm with rfl | rfl
 · rfl
 · rw [e]; rfl
theorem pcs_take {ps : List Pt} {k i : Nat} {u : Value} (h : ((ps.take k).flatMap pcs)[i]? = some u) : (ps.flatMap pcs)[i]? = some u := by
 have hi := (List.getElem?_eq_some_iff.1 h).1
 have e : ps.flatMap pcs = (ps.take k).flatMap pcs ++ (ps.drop k).flatMap pcs := by rw [← List.flatMap_append, List.take_append_drop]
 rw [e, List.getElem?_append_left hi]
 exact h
theorem pcs_drop {ps : List Pt} {k i : Nat} {u : Value} (hk : k ≤ ps.length) (h : ((ps.drop k).flatMap pcs)[i]? = some u) : (ps.flatMap pcs)[k * 2 + i]? = some u := by
 have e : ps.flatMap pcs = (ps.take k).flatMap pcs ++ (ps.drop k).flatMap pcs := by rw [← List.flatMap_append, List.take_append_drop]
 have hl : ((ps.take k).flatMap pcs).length = k * 2 := by rw [pcs_len, List.length_take, Nat.min_eq_left hk]
 rw [e, List.getElem?_append_right (by omega), hl, Nat.add_sub_cancel_left]
 exact h
theorem steps_new {B og oc k : Nat} {w w' : World} {v' xv : Value} {ps : List Pt} {zs : List Int} {dx : Bool} (h : OwnSteps B w (.slice (some ⟨og, 0, none⟩) ps.length oc) ps) (hx : OwnInts B w xv zs) (hk : k ≤ ps.length) (hB : B ≤ w.heap.size) (hb : Below w.heap.size w w')
  (ho : w'.ownsRow w.heap.size 79 2 v' (k + 1 + (ps.length - k)) ((ps.take k).flatMap pcs ++ [.bool dx, xv] ++ (ps.drop k).flatMap pcs)) : OwnSteps B w' v' (ps.take k ++ [(dx, xv, zs)] ++ ps.drop k) := by
 refine ⟨?_, fun p hp => ?_⟩
 · have e1 : (ps.take k ++ [(dx, xv, zs)] ++ ps.drop k).length = k + 1 + (ps.length - k) := by simp; omega
   have e2 : (ps.take k ++ [(dx, xv, zs)] ++ ps.drop k).flatMap pcs = (ps.take k).flatMap pcs ++ [.bool dx, xv] ++ (ps.drop k).flatMap pcs := by simp [pcs]
   rw [e1, e2]
   exact readSpecP.own_base ho hB
 · rcases List.mem_append.1 hp with hp | hp
   · rcases List.mem_append.1 hp with hp | hp
     · exact rowsOwn.own_pass (h.inner p (List.mem_of_mem_take hp)) hb
     · rw [List.mem_singleton] at hp
       subst hp
       exact rowsOwn.own_pass hx hb
   · exact rowsOwn.own_pass (h.inner p (List.mem_of_mem_drop hp)) hb
theorem step_same {B n s : Nat} {t : TypeId} {w w1 : World} {v : Value} {xs : List Value} (h : w.ownsRow B t s v n xs) (hb : ∀ k, v.ownBlock = some k → w1.heap[k]? = w.heap[k]?) : w1.ownsRow B t s v n xs := refSem.own_at h (fun g _ hv _ => hb g hv)
theorem own_at1 {N n c k : Nat} (h : (Value.slice (some ⟨N, 0, none⟩) n c).ownBlock = some k) : k = N := by
 have h' : some N = some k := h
 injection h' with h'
 exact h'.symm
theorem grown_of_chg {w w1 : World} {b : Nat} (h : Chg (fun k => k = b) w w1) : w.grownBy w1 (some b) := ⟨h.os, h.tape, h.output, h.size, fun k hk hne => h.block k hk (fun e => hne (by rw [e]))⟩
theorem chg_of_grown {w w1 : World} {b : Nat} (h : w.grownBy w1 (some b)) : Chg (fun k => k = b) w w1 := ⟨h.os, h.tape, h.output, h.size, fun k hk hne => h.block k hk (fun e => hne (by injection e))⟩
theorem grown_below2 {w w1 w2 : World} {b : Nat} (h : w.grownBy w1 (some b)) (hb : Below w1.heap.size w1 w2) : w.grownBy w2 (some b) := grown_trans h (cnfDraw.grown_own (grown_refl _ _) (cnfDraw.below_grown hb) (fun g e => by cases e))
set_option maxRecDepth 100000 in
set_option maxHeartbeats 6400000 in
theorem steps_src (b : Nat) (a : Option Addr) (len cap B nv zn zc : Nat) (zp : Option Addr) (psZ : List (Value × List Int)) (w : World) (h : Src w b a len cap 0) (hbw : b < w.heap.size) (hr : OwnRows B w (.slice zp zn zc) psZ) (hcnf : cnf.cnfB (nv : Int) (psZ.map (·.2)) = true) (hnv : 1 ≤ nv) (hB : B ≤ w.heap.size) (hzn : zn ≤ 64) :
  Calls Tryz.prog 17 #[.pointer (some ⟨b, 0, none⟩), .agg #[.int .i64 nv, .slice zp zn zc]] w fun e w' => ∃ g c ps, e = .returned (.slice (some ⟨g, 0, none⟩) (List.length ps) c) ∧ OwnSteps B w' (.slice (some ⟨g, 0, none⟩) (List.length ps) c) ps ∧ Right nv ps ∧ ps.length ≤ 202 ∧ w.grownBy w' (some b) := by
 obtain ⟨j0, hi, hzz⟩ := Option.map_eq_some_iff.1 readSpecP.step_info
 simp only [Prod.mk.injEq] at hzz
 obtain ⟨hz0, hz1, hz2⟩ := hzz
 have HJ := hid hi
 have HJ0 := hid hz0
 have HJ1 := hid hz1
 have HJ2 := hid hz2
 clear hi hz0 hz1 hz2
 have HS := hid h
 have HR := hid hr
 have HCnf := hid hcnf
 have hnv40 : nv ≤ 40 := by have := (cnf_lits hcnf).2.1; omega
 clear h hr hcnf
 go_enter Tryz.func17, Tryz.ntmps17
 go_wp2_with fail
 obtain ⟨w1, hw1⟩ : ∃ w1, w.alloc (.cells #[.int .i64 (nv : Int), .slice zp zn zc] 25) = w1 := ⟨_, rfl⟩
 have hb1 : Below w.heap.size w w1 := by rw [← hw1]; exact (by repeat (first | exact Below.refl _ _ | assumption | refine Below.drew ?_ | refine Below.alloc ?_ (by first | exact Nat.le_refl _ | omega | (simp; done) | (simp; omega)) _ | refine Below.setCell ?_ (by first | exact Nat.le_refl _ | omega | (simp; done) | (simp; omega)) _))
 have hsz1 : w1.heap.size = w.heap.size + 1 := by rw [← hw1]; simp
 have HS1 := hid (HS.out.below hb1)
 have HR1 := hid (HR.out.below hb1)
 have HG0 : Hid (w.grownBy w1 (some b)) := hid (grown_below2 (grown_refl _ _) hb1)
 have F0 : Hid (w1.cell? ⟨w.heap.size, 0, none⟩ = some (.int .i64 (nv : Int))) := hid (by rw [← hw1]; simp [go_sem])
 have F1 : Hid (w1.cell? ⟨w.heap.size, 1, none⟩ = some (.slice zp zn zc)) := hid (by rw [← hw1]; simp [go_sem])
 have hb1w : b < w1.heap.size := by omega
 rw [hw1]
 have HSz := hid hsz1
 have hsl : w.heap.size < w1.heap.size := by omega
 clear hw1 hb1 hsz1
 refine (refutation_spec B nv zn zc zp psZ _ HR1.out HCnf.out).mono ?_
 rintro e w2 ⟨g2, c2, code, ps2, rfl, ho2, hri2, hfe2, hb2, -⟩
 have HO2 := hid (ho2.mono (Nat.le_trans hB (Nat.le_of_lt hsl)))
 have HRi2 := hid hri2
 have HG2 : Hid (w1.grownBy w2 (some b)) := hid (grown_below2 (grown_refl _ _) hb2)
 have HS2 := hid (HS1.out.below hb2)
 clear ho2 hri2 hb2
 go_upto_region 2 with fail
 go_cut [20] from 15 to 20 (fun s20 wc => ∃ t : Bool, s20 = .bool t ∧ w2.grownBy wc (some b) ∧ Src wc b a len cap 1)
 case first =>
  by_cases hc : code = 0
  · subst hc
    go_wp2_with fail
    refine (chance_src b a len cap 0 5 _ HS2.out (by omega) (by omega) (by omega)).mono ?_
    rintro e w3 ⟨t, rfl, hs3, hg3⟩
    have HS3 := hid hs3
    have HG3 := hid hg3
    clear hs3 hg3
    go_wp2
    go_meet
    case rel => exact ⟨t, rfl, HG3.out, HS3.out⟩
  · have hc' : (code == 0) = false := beq_eq_false_iff_ne.2 hc
    go_wp2
    go_meet
    case rel => exact ⟨true, rfl, grown_refl _ _, HS2.out.mono (by omega)⟩
 case rest =>
  obtain ⟨t, rfl, hg3, hs3⟩ := hcut
  have HG3 := hid hg3
  have HS3 := hid hs3
  clear hg3 hs3
  go_upto_if 20 with fail
  go_cut [5] from 21 to 21 (fun s5 wd => ∃ g c ps, s5 = .slice (some ⟨g, 0, none⟩) (List.length ps) c ∧ OwnSteps B wd (.slice (some ⟨g, 0, none⟩) (List.length ps) c) ps ∧ Right nv ps ∧ ps.length ≤ 200 ∧ w1.grownBy wd (some b) ∧ Src wd b a len cap 1)
  case first =>
   cases t with
   | true =>
    go_wp2
    go_meet
    case rel =>
     have hba : Below wc.heap.size wc (wc.alloc (.cells #[] 79)) := (by repeat (first | exact Below.refl _ _ | assumption | refine Below.drew ?_ | refine Below.alloc ?_ (by first | exact Nat.le_refl _ | omega | (simp; done) | (simp; omega)) _ | refine Below.setCell ?_ (by first | exact Nat.le_refl _ | omega | (simp; done) | (simp; omega)) _))
     exact ⟨wc.heap.size, 0, [], rfl, ⟨own_noneS wc _ _ rfl (Nat.le_trans hB (Nat.le_trans (Nat.le_of_lt hsl) (Nat.le_trans HG2.out.size HG3.out.size))), fun p hp => by cases hp⟩, fun p hp => (by cases hp), Nat.zero_le _, grown_below2 (grown_trans HG2.out HG3.out) hba, HS3.out.below hba⟩
   | false =>
    go_wp2
    go_meet
    case rel => exact ⟨g2, c2, ps2, rfl, steps_b HO2.out (src_type HS2.out) HG3.out, HRi2.out, hfe2, grown_trans HG2.out HG3.out, HS3.out⟩
  case rest =>
   obtain ⟨g4, c4, ps4, rfl, ho4, hri4, hfe4, hg4, hs4⟩ := hcut
   have HO4 := hid ho4
   have HRi4 := hid hri4
   have HG4 := hid hg4
   have HS4 := hid hs4
   clear ho4 hri4 hg4 hs4 HS3 HG3 HO2 HRi2 HG2 HS2
   go_wp2_with fail
   refine (next_src b a len cap 1 3 _ HS4.out (by omega) (by omega) (by omega)).mono ?_
   rintro e w5 ⟨r, rfl, r0, r1, hs5, hg5⟩
   obtain ⟨rn, rfl⟩ := Int.eq_ofNat_of_zero_le r0
   have HO5 := hid (steps_b HO4.out (src_type HS4.out) hg5)
   have HG5 := hid (grown_trans HG4.out hg5)
   have HS5 := hid hs5
   clear hs5 hg5 HO4 HG4 HS4 r0
   go_wp2
   go_loopw [7, 5] (fun i v wr => ∃ (m g c : Nat) (ps : List Pt), m ≤ 2 ∧ i = .int .i64 m ∧ v = .slice (some ⟨g, 0, none⟩) (List.length ps) c ∧ OwnSteps B wr (.slice (some ⟨g, 0, none⟩) (List.length ps) c) ps ∧ Right nv ps ∧ ps.length + m ≤ 202 ∧ w1.grownBy wr (some b) ∧ Src wr b a len cap (2 + 2000 * (2 - m))) (fun i _ _ => (intOf i).toNat)
   case atStart => exact ⟨rn, g4, c4, ps4, by omega, rfl, rfl, HO5.out, HRi4.out, by omega, HG5.out, HS5.out.mono (by omega)⟩
   case round =>
    obtain ⟨m, og, oc, ps, hm2, rfl, rfl, hox, hri, hfe, hgr, hsr⟩ := hrel
    have HO := hid hox
    have HRi := hid hri
    have HG := hid hgr
    have HSr := hid hsr
    have f0 : wr.cell? ⟨w.heap.size, 0, none⟩ = some (.int .i64 (nv : Int)) := cnfDraw.fcell hgr (by omega) F0.out
    have f1 : wr.cell? ⟨w.heap.size, 1, none⟩ = some (.slice zp zn zc) := cnfDraw.fcell hgr (by omega) F1.out
    have hblt : b < wr.heap.size := Nat.lt_of_lt_of_le hb1w hgr.size
    have hflt : w.heap.size < wr.heap.size := Nat.lt_of_lt_of_le hsl hgr.size
    have HF0 := hid f0
    have HF1 := hid f1
    have HR9 := hid (rows_b HR1.out (src_type HS1.out) hgr)
    clear hox hri hgr hsr HO5 HG5 HS5 HRi4
    by_cases hmz : 0 < m
    · have hmi : (0 : Int) < (m : Int) := by omega
      go_upto_region 7 with fail
      refine region_srcC (fun uu => ⟨#[.pointer (some ⟨b, 0, none⟩), .agg #[.int .i64 ↑nv, .slice zp zn zc], undef, .pointer (some ⟨w.heap.size, 0, none⟩), .slice none 0 0, .slice (some ⟨og, 0, none⟩) ps.length oc, .int .i64 code, .int .i64 ↑m, uu 8, u9, .tuple #[.slice (some ⟨g2, 0, none⟩) ps2.length c2, .int .i64 code], .agg #[.int .i64 ↑nv, .slice zp zn zc], .tuple #[.slice (some ⟨g2, 0, none⟩) ps2.length c2, .int .i64 code], .slice (some ⟨g2, 0, none⟩) ps2.length c2, .int .i64 code, u15, u16, u17, u18, u19, .bool t, u21, .pointer (some ⟨b, 0, none⟩), .int .i64 ↑rn, .int .i64 ↑m, .bool true, u26, u27, uu 28, uu 29, uu 30, uu 31, uu 32, uu 33, uu 34, uu 35, uu 36, u37, u38, u39, u40, u41, u42, u43, u44, u45, u46, u47, u48, u49, u50, u51, u52, u53, u54, u55, u56, u57, u58, u59, u60, u61, u62, u63, u64, u65, u66, u67, u68, u69, u70, u71, u72, u73, u74, u75, undef], []⟩) (fun i => [28, 29, 30, 31, 32, 33, 34, 35, 36, 8].getD i 0) (fun i v w8 => match i with | 0 => v = .pointer (some ⟨b, 0, none⟩) | 1 => ∃ t : Bool, v = .bool t | 2 => v = .pointer (some ⟨b, 0, none⟩) | 3 => v = .pointer (some ⟨w.heap.size, 0, none⟩) | 4 => v = .int .i64 (nv : Int) | 5 => v = .pointer (some ⟨b, 0, none⟩) | 6 => ∃ r : Int, v = .int .i64 r ∧ 0 ≤ r ∧ r < 4 | 7 => ∃ (zs : List Int) (xa : Option Addr) (xc : Nat), v = .slice xa zs.length xc ∧ OwnInts wr.heap.size w8 v zs ∧ zs.length ≤ 3 ∧ ∀ z ∈ zs, cnf.litB (nv : Int) z = true | 8 => ∃ (t : Bool) (zs : List Int) (xa : Option Addr) (xc : Nat), v = .agg #[.bool t, .slice xa zs.length xc] ∧ OwnInts wr.heap.size w8 (.slice xa zs.length xc) zs ∧ zs.length ≤ 3 ∧ ∀ z ∈ zs, cnf.litB (nv : Int) z = true | 9 => ∃ X : Nat, v = .pointer (some ⟨X, 0, none⟩) ∧ wr.heap.size ≤ X ∧ w8.heap[X]? = some (.cells #[.bool false, .slice none 0 0] 79 (0, 0)) | _ => True) (fun _ => True) (fun _ => False) wr 40 10 99 b a len cap ((2 + 2000 * (2 - m))) (fun k => match k with | 28 => u28 | 29 => u29 | 30 => u30 | 31 => u31 | 32 => u32 | 33 => u33 | 34 => u34 | 35 => u35 | 36 => u36 | 8 => u8 | _ => undef) (by rfl) (by kernel_rfl) (by rfl) ⟨by kernel_rfl, by kernel_rfl, by kernel_rfl, by decide⟩ (by kernel_rfl) (Chg.refl _ _) HSr.out trivial ?hput ?hinj ?stable ?stable0 ?step ?last
      case hput =>
       intro i hi uu v
       match i, hi with
       | 0, _ => rfl
       | 1, _ => rfl
       | 2, _ => rfl
       | 3, _ => rfl
       | 4, _ => rfl
       | 5, _ => rfl
       | 6, _ => rfl
       | 7, _ => rfl
       | 8, _ => rfl
       | 9, _ => rfl
       | i + 10, hi => exact absurd hi (by omega)
      case hinj =>
       intro i j hi hj h
       exact slots_inj [28, 29, 30, 31, 32, 33, 34, 35, 36, 8] (by decide) hi hj h
      case stable =>
       intro i v w8 w9 hb h
       match i, hb, h with
       | 0, hb, h => exact h
       | 1, hb, h => exact h
       | 2, hb, h => exact h
       | 3, hb, h => exact h
       | 4, hb, h => exact h
       | 5, hb, h => exact h
       | 6, hb, h => exact h
       | 7, hb, h => (obtain ⟨zs, xa, xc, h1, h2, h3⟩ := h; exact ⟨zs, xa, xc, h1, refSem.own_at h2 (fun g cs hv hh => hb.block g (Array.getElem?_eq_some_iff.1 hh).1 (fun e => by have := (World.ownsRow.lt h2 g hv).1; rcases e with e | e <;> first | exact e.2.elim | omega)), h3⟩)
       | 8, hb, h => (obtain ⟨t, zs, xa, xc, h1, h2, h3⟩ := h; exact ⟨t, zs, xa, xc, h1, refSem.own_at h2 (fun g cs hv hh => hb.block g (Array.getElem?_eq_some_iff.1 hh).1 (fun e => by have := (World.ownsRow.lt h2 g hv).1; rcases e with e | e <;> first | exact e.2.elim | omega)), h3⟩)
       | 9, hb, h => (obtain ⟨X, h1, h2, h3⟩ := h; exact ⟨X, h1, h2, (hb.block X (Array.getElem?_eq_some_iff.1 h3).1 (fun e => by rcases e with e | e <;> first | exact e.2.elim | omega)).trans h3⟩)
       | _ + 10, hb, h => trivial
      case stable0 =>
       intro w8 w9 hb h
       exact trivial
      case step =>
       intro i hi uu w8 k8 S8 Sr hk8 hq hdep
       match i, hi, hq, hdep with
       | 0, _, hq, hdep =>
        clear hdep
        refine ⟨_, rfl, fun K' hK => ?_⟩
        go_simp
        exact hK.out _ _ (Chg.refl _ _) (Sr.mono (by omega)) (rfl)
       | 1, _, hq, hdep =>
        have h0 : (uu 28) = .pointer (some ⟨b, 0, none⟩) := hdep 0 (by kernel_rfl)
        clear hdep
        refine ⟨_, rfl, fun K' hK => ?_⟩
        simp only [h0] at hK ⊢
        go_simp
        refine (chance_src b a len cap k8 3 _ Sr (by omega) (by omega) (by omega)).mono ?_
        rintro e9 w9 ⟨t9, rfl, hs9, hg9⟩
        exact hK.out _ _ (Chg.of_grown hg9 (fun k e => by first | exact .inl (by injection e with e; exact e.symm) | (injection e with e; exact e.symm))) (hs9.mono (by omega)) ⟨t9, rfl⟩
       | 2, _, hq, hdep =>
        clear hdep
        refine ⟨_, rfl, fun K' hK => ?_⟩
        go_simp
        exact hK.out _ _ (Chg.refl _ _) (Sr.mono (by omega)) (rfl)
       | 3, _, hq, hdep =>
        clear hdep
        refine ⟨_, rfl, fun K' hK => ?_⟩
        go_simp
        exact hK.out _ _ (Chg.refl _ _) (Sr.mono (by omega)) (rfl)
       | 4, _, hq, hdep =>
        have h3 : (uu 31) = .pointer (some ⟨w.heap.size, 0, none⟩) := hdep 3 (by kernel_rfl)
        clear hdep
        refine ⟨_, rfl, fun K' hK => ?_⟩
        have q0 := S8.cell (q := w.heap.size) (o := 0) (by rintro (e | e); omega; exact e.elim) HF0.out
        simp only [h3] at hK ⊢
        go_simp
        exact hK.out _ _ (Chg.refl _ _) (Sr.mono (by omega)) (rfl)
       | 5, _, hq, hdep =>
        clear hdep
        refine ⟨_, rfl, fun K' hK => ?_⟩
        go_simp
        exact hK.out _ _ (Chg.refl _ _) (Sr.mono (by omega)) (rfl)
       | 6, _, hq, hdep =>
        have h5 : (uu 33) = .pointer (some ⟨b, 0, none⟩) := hdep 5 (by kernel_rfl)
        clear hdep
        refine ⟨_, rfl, fun K' hK => ?_⟩
        simp only [h5] at hK ⊢
        go_simp
        refine (next_src b a len cap k8 4 _ Sr (by omega) (by omega) (by omega)).mono ?_
        rintro e9 w9 ⟨r9, rfl, h90, h91, hs9, hg9⟩
        exact hK.out _ _ (Chg.of_grown hg9 (fun k e => by first | exact .inl (by injection e with e; exact e.symm) | (injection e with e; exact e.symm))) (hs9.mono (by omega)) ⟨r9, rfl, h90, h91⟩
       | 7, _, hq, hdep =>
        have h2 : (uu 30) = .pointer (some ⟨b, 0, none⟩) := hdep 2 (by kernel_rfl)
        have h4 : (uu 32) = .int .i64 (nv : Int) := hdep 4 (by kernel_rfl)
        have h6 : ∃ r : Int, (uu 34) = .int .i64 r ∧ 0 ≤ r ∧ r < 4 := hdep 6 (by kernel_rfl)
        clear hdep
        refine ⟨_, rfl, fun K' hK => ?_⟩
        obtain ⟨r6, e6, h60, h61⟩ := h6
        simp only [h2, h4, e6] at hK ⊢
        go_simp
        refine (cnfDraw.clause_src b a len cap k8 (nv : Int) r6 _ Sr (Nat.lt_of_lt_of_le hblt S8.size) (by omega) (by omega) (by omega) h60 (by omega)).mono ?_
        rintro e9 w9 ⟨x9, zs9, rfl, ho9, hl9, hz9, hg9, hs9⟩
        obtain ⟨xa9, xc9, hx9, -⟩ := ho9.form
        exact hK.out _ _ (Chg.of_grown hg9 (fun k e => by first | exact .inl (by injection e with e; exact e.symm) | (injection e with e; exact e.symm))) (hs9.mono (by omega)) ⟨zs9, xa9, xc9, hx9, ho9.mono S8.size, by omega, hz9⟩
       | 8, _, hq, hdep =>
        have h1 : ∃ t : Bool, (uu 29) = .bool t := hdep 1 (by kernel_rfl)
        have h7 : ∃ (zs : List Int) (xa : Option Addr) (xc : Nat), (uu 35) = .slice xa zs.length xc ∧ OwnInts wr.heap.size w8 (uu 35) zs ∧ zs.length ≤ 3 ∧ ∀ z ∈ zs, cnf.litB (nv : Int) z = true := hdep 7 (by kernel_rfl)
        clear hdep
        refine ⟨_, rfl, fun K' hK => ?_⟩
        obtain ⟨t1, e1⟩ := h1
        obtain ⟨zs7, xa7, xc7, e7, ho7, hl7, hz7⟩ := h7
        simp only [e1, e7] at hK ⊢ ho7
        go_simp
        exact hK.out _ _ (Chg.refl _ _) (Sr.mono (by omega)) ⟨t1, zs7, xa7, xc7, rfl, ho7, hl7, hz7⟩
       | 9, _, hq, hdep =>
        clear hdep
        refine ⟨_, rfl, fun K' hK => ?_⟩
        go_simp
        exact hK.out _ _ (Chg.of_below (by repeat (first | exact Below.refl _ _ | assumption | refine Below.drew ?_ | refine Below.alloc ?_ (by first | exact Nat.le_refl _ | omega | (simp; done) | (simp; omega)) _ | refine Below.setCell ?_ (by first | exact Nat.le_refl _ | omega | (simp; done) | (simp; omega)) _))) ((Sr.below (by repeat (first | exact Below.refl _ _ | assumption | refine Below.drew ?_ | refine Below.alloc ?_ (by first | exact Nat.le_refl _ | omega | (simp; done) | (simp; omega)) _ | refine Below.setCell ?_ (by first | exact Nat.le_refl _ | omega | (simp; done) | (simp; omega)) _))).mono (by omega)) ⟨w8.heap.size, rfl, S8.size, heap_alloc_new w8 _⟩
       | i + 10, hi, _, _ => exact absurd hi (by omega)
      case last =>
       intro uu w8 S8 Sr hall
       have h8 : ∃ (t : Bool) (zs : List Int) (xa : Option Addr) (xc : Nat), (uu 36) = .agg #[.bool t, .slice xa zs.length xc] ∧ OwnInts wr.heap.size w8 (.slice xa zs.length xc) zs ∧ zs.length ≤ 3 ∧ ∀ z ∈ zs, cnf.litB (nv : Int) z = true := hall 8 (by decide)
       have h9 : ∃ X : Nat, (uu 8) = .pointer (some ⟨X, 0, none⟩) ∧ wr.heap.size ≤ X ∧ w8.heap[X]? = some (.cells #[.bool false, .slice none 0 0] 79 (0, 0)) := hall 9 (by decide)
       clear hall
       refine ⟨_, rfl, fun K' hK => ?_⟩
       obtain ⟨dx, zs, xa, xc, e8, ho8, hl8, hz8⟩ := h8
       obtain ⟨X, e9, hX1, hX2⟩ := h9
       simp only [e8, e9]
       have x0 : w8.cell? ⟨X, 0, none⟩ = some (.bool false) := by rw [Lib.cell_of_heap hX2]; rfl
       have x1 : w8.cell? ⟨X, 1, none⟩ = some (.slice none 0 0) := by rw [Lib.cell_of_heap hX2]; rfl
       have y0 := Lib.frozen_of_heap hX2 0
       have y1 := Lib.frozen_of_heap hX2 1
       have hXl : X < w8.heap.size := (Array.getElem?_eq_some_iff.1 hX2).1
       have HXt := hid hX2
       go_simp
       refine hK.out _ _ ?_
       obtain ⟨w7, hw7⟩ : ∃ w7, (w8.setCell ⟨X, 0, none⟩ (.bool dx)).setCell ⟨X, 1, none⟩ (.slice xa zs.length xc) = w7 := ⟨_, rfl⟩
       have hX7 : w7.heap[X]? = some (.cells #[.bool dx, .slice xa zs.length xc] 79 (0, 0)) := by rw [← hw7]; simp [World.setCell, Array.getElem?_modify, hX2]
       have hoth : ∀ q, q ≠ X → w7.heap[q]? = w8.heap[q]? := fun q hq => by rw [← hw7, Below.heap_setCell _ _ _ _ hq, Below.heap_setCell _ _ _ _ hq]
       have HX7 := hid hX7
       have HG7 : Hid (wr.grownBy w7 (some b)) := hid (grown_of_chg (by rw [← hw7]; exact ((S8.mono (fun k hk => by rcases hk with hk | hk; exact hk; exact hk.elim)).set (.inr hX1) _).set (.inr hX1) _))
       have HS7 : Hid (Src w7 b a len cap (2 + 2000 * (2 - m) + 400)) := hid (by rw [← hw7]; exact cnfDraw.farRow (M := wr.heap.size) Sr (grown_set (grown_set (grown_refl w8 (some X)))) (fun g e => by injection e with e; omega) hblt)
       have HO7 : Hid (OwnInts wr.heap.size w7 (.slice xa zs.length xc) zs) := hid (refSem.own_at ho8 (fun g cs hv hh => hoth g (fun e => by subst e; rw [hX2] at hh; injection hh with hh; injection hh with _ hh _; exact absurd hh (by decide))))
       have HZ7 := hid hz8
       rw [hw7]
       clear hw7 hoth hX7 x0 x1 y0 y1 ho8 hz8 HXt hX2 Sr S8 hXl
       go_upto_region 8 with fail
       go_cut [48] from 37 to 48 (fun s48 wc => ∃ u : Bool, s48 = .bool u ∧ (u = true → 0 < zn) ∧ w7.grownBy wc (some b) ∧ Src wc b a len cap (2 + 2000 * (2 - m) + 401))
       case first =>
        have x0 : w7.cell? ⟨X, 0, none⟩ = some (.bool dx) := by rw [Lib.cell_of_heap HX7.out]; rfl
        have hX7l : X < w7.heap.size := (Array.getElem?_eq_some_iff.1 HX7.out).1
        have f1 := cnfDraw.fcell HG7.out (by omega) HF1.out
        have hf7 : w.heap.size < w7.heap.size := Nat.lt_of_lt_of_le hflt HG7.out.size
        cases dx with
        | false =>
         go_wp2
         go_meet
         case rel => exact ⟨false, rfl, (fun h => by cases h), grown_refl _ _, HS7.out.mono (by omega)⟩
        | true =>
         by_cases hz : 0 < zn
         · have hzi : (0 : Int) < (zn : Int) := by omega
           go_wp2_with fail
           refine (chance_src b a len cap _ 2 _ HS7.out (by omega) (by omega) (by omega)).mono ?_
           rintro e w9 ⟨u, rfl, hs9, hg9⟩
           have HS9 := hid hs9
           have HG9 := hid hg9
           clear hs9 hg9
           go_wp2
           go_meet
           case rel => exact ⟨u, rfl, (fun _ => hz), HG9.out, HS9.out⟩
         · have hzi : ¬ (0 : Int) < (zn : Int) := by omega
           go_wp2
           go_meet
           case rel => exact ⟨false, rfl, (fun h => by cases h), grown_refl _ _, HS7.out.mono (by omega)⟩
       case rest =>
        obtain ⟨u, rfl, hu, hg8, hs8⟩ := hcut
        have HU := hid hu
        have HG8 := hid (grown_trans HG7.out hg8)
        have HS8 := hid hs8
        have HX8 : Hid (wc.heap[X]? = some (.cells #[.bool dx, .slice xa zs.length xc] 79 (0, 0))) := hid ((hg8.block X (Array.getElem?_eq_some_iff.1 HX7.out).1 (fun e => by injection e with e; omega)).trans HX7.out)
        have HO8 := hid (OwnInts.mono (own_b HO7.out (src_type HS7.out) (by decide) hg8) (Nat.le_trans hB (Nat.le_trans (Nat.le_of_lt hsl) HG.out.size)))
        have hX8l : X < wc.heap.size := (Array.getElem?_eq_some_iff.1 HX8.out).1
        clear hu hg8 hs8 HX7 HO7
        go_upto_if 48 with fail
        go_cut [] from 49 to 58 (fun wd => ∃ (zs : List Int) (xa : Option Addr) (xc : Nat), wd.heap[X]? = some (.cells #[.bool dx, .slice xa zs.length xc] 79 (0, 0)) ∧ OwnInts B wd (.slice xa zs.length xc) zs ∧ zs.length ≤ 12 ∧ (∀ z ∈ zs, cnf.litB (nv : Int) z = true) ∧ wr.grownBy wd (some b) ∧ Src wd b a len cap (2 + 2000 * (2 - m) + 1000))
        case first =>
         cases u with
         | false =>
          go_wp2
          go_meet
          case rel => exact ⟨zs, xa, xc, HX8.out, HO8.out, by omega, HZ7.out, HG8.out, HS8.out.mono (by omega)⟩
         | true =>
          have hz0 := HU.out rfl
          obtain ⟨zg, rfl⟩ : ∃ zg, zp = some ⟨zg, 0, none⟩ := by
           rcases HR.out.outer.2 with ⟨e, _⟩ | ⟨g, cap, cur, e, _⟩
           · injection e with _ e _
             omega
           · injection e with e _ _
             exact ⟨g, e⟩
          have HR8 := hid (rows_b HR9.out (src_type HSr.out) HG8.out)
          go_upto_region 9 with fail
          refine region_srcC (fun uv => ⟨#[.pointer (some ⟨b, 0, none⟩), .agg #[.int .i64 ↑nv, .slice (some ⟨zg, 0, none⟩) zn zc], undef, .pointer (some ⟨w.heap.size, 0, none⟩), .slice none 0 0, .slice (some ⟨og, 0, none⟩) ps.length oc, .int .i64 code, .int .i64 ↑m, .pointer (some ⟨X, 0, none⟩), u9, .tuple #[.slice (some ⟨g2, 0, none⟩) ps2.length c2, .int .i64 code], .agg #[.int .i64 ↑nv, .slice (some ⟨zg, 0, none⟩) zn zc], .tuple #[.slice (some ⟨g2, 0, none⟩) ps2.length c2, .int .i64 code], .slice (some ⟨g2, 0, none⟩) ps2.length c2, .int .i64 code, u15, u16, u17, u18, u19, .bool t, u21, .pointer (some ⟨b, 0, none⟩), .int .i64 ↑rn, .int .i64 ↑m, .bool true, u26, u27, uu 28, uu 29, uu 30, uu 31, uu 32, uu 33, uu 34, uu 35, .agg #[.bool dx, .slice xa zs.length xc], u37, u38, u39, u40, u41, u42, u43, u44, u45, u46, u47, .bool true, uv 49, uv 50, uv 51, uv 52, uv 53, uv 54, uv 55, uv 56, uv 57, uv 58, u59, u60, u61, u62, u63, u64, u65, u66, u67, u68, u69, u70, u71, u72, u73, u74, u75, undef], []⟩) (fun i => [49, 50, 51, 52, 53, 54, 55, 56, 57, 58].getD i 0) (fun i v w8 => match i with | 0 => v = .pointer (some ⟨w.heap.size, 1, none⟩) | 1 => v = .slice (some ⟨zg, 0, none⟩) zn zc | 2 => v = .pointer (some ⟨b, 0, none⟩) | 3 => v = .pointer (some ⟨w.heap.size, 1, none⟩) | 4 => v = .slice (some ⟨zg, 0, none⟩) zn zc | 5 => v = .int .i64 (zn : Int) | 6 => ∃ r : Nat, v = .int .i64 (r : Int) ∧ r < zn | 7 => ∃ r : Nat, v = .pointer (some ⟨zg, r, none⟩) ∧ r < zn | 8 => ∃ (p : Value × List Int) (pa : Option Addr) (pc : Nat), p ∈ psZ ∧ v = .slice pa p.2.length pc ∧ p.1 = .slice pa p.2.length pc | 9 => v = .pointer (some ⟨X, 1, none⟩) | _ => True) (fun _ => True) (fun _ => False) wc 1 10 99 b a len cap ((2 + 2000 * (2 - m) + 401)) (fun k => match k with | 49 => u49 | 50 => u50 | 51 => u51 | 52 => u52 | 53 => u53 | 54 => u54 | 55 => u55 | 56 => u56 | 57 => u57 | 58 => u58 | _ => undef) (by rfl) (by kernel_rfl) (by rfl) ⟨by kernel_rfl, by kernel_rfl, by kernel_rfl, by decide⟩ (by kernel_rfl) (Chg.refl _ _) HS8.out trivial ?hput ?hinj ?stable ?stable0 ?step ?last
          case hput =>
           intro i hi uv v
           match i, hi with
           | 0, _ => rfl
           | 1, _ => rfl
           | 2, _ => rfl
           | 3, _ => rfl
           | 4, _ => rfl
           | 5, _ => rfl
           | 6, _ => rfl
           | 7, _ => rfl
           | 8, _ => rfl
           | 9, _ => rfl
           | i + 10, hi => exact absurd hi (by omega)
          case hinj =>
           intro i j hi hj h
           exact slots_inj [49, 50, 51, 52, 53, 54, 55, 56, 57, 58] (by decide) hi hj h
          case stable =>
           intro i v w8 w9 hb h
           match i, hb, h with
           | 0, hb, h => exact h
           | 1, hb, h => exact h
           | 2, hb, h => exact h
           | 3, hb, h => exact h
           | 4, hb, h => exact h
           | 5, hb, h => exact h
           | 6, hb, h => exact h
           | 7, hb, h => exact h
           | 8, hb, h => exact h
           | 9, hb, h => exact h
           | _ + 10, hb, h => trivial
          case stable0 =>
           intro w8 w9 hb h
           exact trivial
          case step =>
           intro i hi uv w8 k8 S8 Sr hk8 hq hdep
           match i, hi, hq, hdep with
           | 0, _, hq, hdep =>
            clear hdep
            refine ⟨_, rfl, fun K' hK => ?_⟩
            go_simp
            exact hK.out _ _ (Chg.refl _ _) (Sr.mono (by omega)) (rfl)
           | 1, _, hq, hdep =>
            have h0 : (uv 49) = .pointer (some ⟨w.heap.size, 1, none⟩) := hdep 0 (by kernel_rfl)
            clear hdep
            refine ⟨_, rfl, fun K' hK => ?_⟩
            have q1 := S8.cell (q := w.heap.size) (o := 1) (by rintro (e | e); omega; exact e.elim) (cnfDraw.fcell HG8.out (by omega) HF1.out)
            simp only [h0] at hK ⊢
            go_simp
            exact hK.out _ _ (Chg.refl _ _) (Sr.mono (by omega)) (rfl)
           | 2, _, hq, hdep =>
            clear hdep
            refine ⟨_, rfl, fun K' hK => ?_⟩
            go_simp
            exact hK.out _ _ (Chg.refl _ _) (Sr.mono (by omega)) (rfl)
           | 3, _, hq, hdep =>
            clear hdep
            refine ⟨_, rfl, fun K' hK => ?_⟩
            go_simp
            exact hK.out _ _ (Chg.refl _ _) (Sr.mono (by omega)) (rfl)
           | 4, _, hq, hdep =>
            have h3 : (uv 52) = .pointer (some ⟨w.heap.size, 1, none⟩) := hdep 3 (by kernel_rfl)
            clear hdep
            refine ⟨_, rfl, fun K' hK => ?_⟩
            have q1 := S8.cell (q := w.heap.size) (o := 1) (by rintro (e | e); omega; exact e.elim) (cnfDraw.fcell HG8.out (by omega) HF1.out)
            simp only [h3] at hK ⊢
            go_simp
            exact hK.out _ _ (Chg.refl _ _) (Sr.mono (by omega)) (rfl)
           | 5, _, hq, hdep =>
            have h4 : (uv 53) = .slice (some ⟨zg, 0, none⟩) zn zc := hdep 4 (by kernel_rfl)
            clear hdep
            refine ⟨_, rfl, fun K' hK => ?_⟩
            simp only [h4] at hK ⊢
            go_simp
            exact hK.out _ _ (Chg.refl _ _) (Sr.mono (by omega)) (rfl)
           | 6, _, hq, hdep =>
            have h2 : (uv 51) = .pointer (some ⟨b, 0, none⟩) := hdep 2 (by kernel_rfl)
            have h5 : (uv 54) = .int .i64 (zn : Int) := hdep 5 (by kernel_rfl)
            clear hdep
            refine ⟨_, rfl, fun K' hK => ?_⟩
            simp only [h2, h5] at hK ⊢
            go_simp
            refine (next_src b a len cap k8 (zn : Int) _ Sr (by omega) (by omega) (by omega)).mono ?_
            rintro e9 w9 ⟨r9, rfl, h90, h91, hs9, hg9⟩
            obtain ⟨rn9, rfl⟩ := Int.eq_ofNat_of_zero_le h90
            exact hK.out _ _ (Chg.of_grown hg9 (fun k e => by first | exact .inl (by injection e with e; exact e.symm) | (injection e with e; exact e.symm))) (hs9.mono (by omega)) ⟨rn9, rfl, by omega⟩
           | 7, _, hq, hdep =>
            have h1 : (uv 50) = .slice (some ⟨zg, 0, none⟩) zn zc := hdep 1 (by kernel_rfl)
            have h6 : ∃ r : Nat, (uv 55) = .int .i64 (r : Int) ∧ r < zn := hdep 6 (by kernel_rfl)
            clear hdep
            refine ⟨_, rfl, fun K' hK => ?_⟩
            obtain ⟨r, e6, hr6⟩ := h6
            simp only [h1, e6] at hK ⊢
            have i1 : (0 : Int) ≤ (r : Int) := by omega
            have i2 : (r : Int) < (zn : Int) := by omega
            go_simp
            exact hK.out _ _ (Chg.refl _ _) (Sr.mono (by omega)) ⟨r, by first | rfl | simp, hr6⟩
           | 8, _, hq, hdep =>
            have h7 : ∃ r : Nat, (uv 56) = .pointer (some ⟨zg, r, none⟩) ∧ r < zn := hdep 7 (by kernel_rfl)
            clear hdep
            refine ⟨_, rfl, fun K' hK => ?_⟩
            obtain ⟨r, e7, hr7⟩ := h7
            have hrow := rows_b HR8.out (src_type HS8.out) (grown_of_chg (S8.mono (fun k hk => by rcases hk with hk | hk; exact hk; exact hk.elim)))
            obtain ⟨-, p, hp, hc, -, ho⟩ := rows_cell hrow hr7
            obtain ⟨pa, pc, hpe, -⟩ := ho.form
            rw [hpe] at hc
            simp only [e7] at hK ⊢
            go_simp
            exact hK.out _ _ (Chg.refl _ _) (Sr.mono (by omega)) ⟨p, pa, pc, List.mem_of_getElem? hp, rfl, hpe⟩
           | 9, _, hq, hdep =>
            clear hdep
            refine ⟨_, rfl, fun K' hK => ?_⟩
            go_simp
            exact hK.out _ _ (Chg.refl _ _) (Sr.mono (by omega)) (rfl)
           | i + 10, hi, _, _ => exact absurd hi (by omega)
          case last =>
           intro uv w8 S8 Sr hall
           have h8 : ∃ (p : Value × List Int) (pa : Option Addr) (pc : Nat), p ∈ psZ ∧ (uv 57) = .slice pa p.2.length pc ∧ p.1 = .slice pa p.2.length pc := hall 8 (by decide)
           have h9 : (uv 58) = .pointer (some ⟨X, 1, none⟩) := hall 9 (by decide)
           clear hall
           refine ⟨_, rfl, fun K' hK => ?_⟩
           obtain ⟨p, pa, pc, hp8, e8, hpe⟩ := h8
           simp only [e8, h9]
           have hX9 : w8.heap[X]? = some (.cells #[.bool dx, .slice xa zs.length xc] 79 (0, 0)) := (S8.block X hX8l (by rintro (e | e); omega; exact e.elim)).trans HX8.out
           have x1 : w8.cell? ⟨X, 1, none⟩ = some (.slice xa zs.length xc) := by rw [Lib.cell_of_heap hX9]; rfl
           have y1 := Lib.frozen_of_heap hX9 1
           have hXl : X < w8.heap.size := (Array.getElem?_eq_some_iff.1 hX9).1
           have hg9 := grown_of_chg (S8.mono (fun k hk => by rcases hk with hk | hk; exact hk; exact hk.elim))
           have hrow := rows_b HR8.out (src_type HS8.out) hg9
           obtain ⟨hc1, hc2⟩ := cnf_row HCnf.out p hp8
           have hoth : ∀ q, q ≠ X → (w8.setCell ⟨X, 1, none⟩ (.slice pa p.2.length pc)).heap[q]? = w8.heap[q]? := fun q hq => Below.heap_setCell _ _ _ _ hq
           have hxn : (w8.setCell ⟨X, 1, none⟩ (.slice pa p.2.length pc)).heap[X]? = some (.cells #[.bool dx, .slice pa p.2.length pc] 79 (0, 0)) := set_blkS hX9
           have hon : OwnInts B (w8.setCell ⟨X, 1, none⟩ (.slice pa p.2.length pc)) (.slice pa p.2.length pc) p.2 := by
            have h9 := hrow.inner p hp8
            rw [hpe] at h9
            exact refSem.own_at h9 (fun g cs hv hh => hoth g (fun e => by subst e; rw [hX9] at hh; injection hh with hh; injection hh with _ hh _; exact absurd hh (by decide)))
           have hgn : wr.grownBy (w8.setCell ⟨X, 1, none⟩ (.slice pa p.2.length pc)) (some b) := grown_of_chg (((chg_of_grown HG8.out).trans (chg_of_grown hg9)).set (.inr hX1) _)
           have hsn : Src (w8.setCell ⟨X, 1, none⟩ (.slice pa p.2.length pc)) b a len cap (2 + 2000 * (2 - m) + 1000) := (cnfDraw.farRow (M := wr.heap.size) Sr (grown_set (grown_refl w8 (some X))) (fun g e => by injection e with e; omega) hblt).mono (by omega)
           have HRel := hid (And.intro hxn (And.intro hon (And.intro hc1 (And.intro hc2 (And.intro hgn hsn)))))
           clear hxn hon hc1 hc2 hgn hsn hoth hrow hg9
           go_simp
           refine hK.out _ _ ?_
           go_wp2
           go_meet
           case rel => exact ⟨p.2, pa, pc, HRel.out.1, HRel.out.2.1, HRel.out.2.2.1, HRel.out.2.2.2.1, HRel.out.2.2.2.2.1, HRel.out.2.2.2.2.2⟩
        case rest =>
         obtain ⟨zt, ya, yc, hX, hox, hlz, hzz, hgd, hsd⟩ := hcut
         have HX := hid hX
         have HOx := hid hox
         have HZz := hid hzz
         have HGd := hid hgd
         have HSd := hid hsd
         have HOd := hid (steps_b HO.out (src_type HSr.out) hgd)
         clear hX hox hzz hgd hsd HX8 HO8 HG8 HS8 HG7 HS7 HZ7 HU
         go_wp2_with fail
         refine (next_src b a len cap _ ((ps.length : Int) + 1) _ HSd.out (by omega) (by omega) (by omega)).mono ?_
         rintro e w10 ⟨r10, rfl, h100, h101, hs10, hg10⟩
         obtain ⟨k, rfl⟩ := Int.eq_ofNat_of_zero_le h100
         have HG10 := hid (grown_trans HGd.out hg10)
         have HS10 := hid hs10
         have HO10 := hid (steps_b HOd.out (src_type HSd.out) hg10)
         have HOx10 := hid (own_b HOx.out (src_type HSd.out) (by decide) hg10)
         have hXd : X < wc.heap.size := (Array.getElem?_eq_some_iff.1 HX.out).1
         have HX10 : Hid (w10.heap[X]? = some (.cells #[.bool dx, .slice ya zt.length yc] 79 (0, 0))) := hid ((hg10.block X hXd (fun e => by injection e with e; omega)).trans HX.out)
         have hX10l : X < w10.heap.size := (Array.getElem?_eq_some_iff.1 HX10.out).1
         obtain ⟨-, hlc, hcm, hogl, hcells⟩ := steps_cells HO10.out
         have HCe := hid hcells
         unfold maxLen at hcm
         have hkl : k ≤ ps.length := by omega
         have hB10 : B ≤ w10.heap.size := Nat.le_trans hB (Nat.le_trans (Nat.le_of_lt hflt) HG10.out.size)
         clear hs10 hg10 hcells HOd HOx HX HSd HGd h100
         go_upto_region 11 with fail
         refine region_lin (fun uw => ⟨#[.pointer (some ⟨b, 0, none⟩), .agg #[.int .i64 ↑nv, .slice zp zn zc], undef, .pointer (some ⟨w.heap.size, 0, none⟩), .slice none 0 0, .slice (some ⟨og, 0, none⟩) ps.length oc, .int .i64 code, .int .i64 ↑m, .pointer (some ⟨X, 0, none⟩), .int .i64 ↑k, .tuple #[.slice (some ⟨g2, 0, none⟩) ps2.length c2, .int .i64 code], .agg #[.int .i64 ↑nv, .slice zp zn zc], .tuple #[.slice (some ⟨g2, 0, none⟩) ps2.length c2, .int .i64 code], .slice (some ⟨g2, 0, none⟩) ps2.length c2, .int .i64 code, u15, u16, u17, u18, u19, .bool t, u21, .pointer (some ⟨b, 0, none⟩), .int .i64 ↑rn, .int .i64 ↑m, .bool true, u26, u27, uu 28, uu 29, uu 30, uu 31, uu 32, uu 33, uu 34, uu 35, .agg #[.bool dx, .slice xa zs.length xc], u37, u38, u39, u40, u41, u42, u43, u44, u45, u46, u47, .bool u, u49, u50, u51, u52, u53, u54, u55, u56, u57, u58, .pointer (some ⟨b, 0, none⟩), .slice (some ⟨og, 0, none⟩) ps.length oc, .int .i64 ↑ps.length, .int .i64 (↑ps.length + 1), .int .i64 ↑k, uw 64, uw 65, uw 66, uw 67, uw 68, uw 69, uw 70, uw 71, uw 72, uw 73, uw 74, uw 75, undef], []⟩) (fun i => [64, 65, 66, 67, 68, 69, 70, 71, 72, 73, 74, 75].getD i 0) (fun i v w8 => match i with | 0 => World.ownsRow w8 w10.heap.size 79 2 v (0) ([]) | 1 => v = .slice (some ⟨og, 0, none⟩) ps.length oc | 2 => v = .int .i64 (k : Int) | 3 => ∃ c : Nat, v = .slice (some ⟨og, 0, none⟩) k c | 4 => World.ownsRow w8 w10.heap.size 79 2 v (k) (((ps.take k).flatMap pcs)) | 5 => v = .agg #[.bool dx, .slice ya zt.length yc] | 6 => ∃ N : Nat, v = .slice (some ⟨N, 0, none⟩) 1 1 ∧ World.cell? w8 ⟨N, 0, none⟩ = some (.bool dx) ∧ World.cell? w8 ⟨N, 1, none⟩ = some (.slice ya zt.length yc) | 7 => World.ownsRow w8 w10.heap.size 79 2 v (k + 1) (((ps.take k).flatMap pcs) ++ [.bool dx, .slice ya zt.length yc]) | 8 => v = .slice (some ⟨og, 0, none⟩) ps.length oc | 9 => v = .int .i64 (k : Int) | 10 => ∃ ad c : Nat, v = .slice (some ⟨og, ad, none⟩) (ps.length - k) c ∧ (ps.length - k = 0 ∨ ad = k * 2) | _ => True) (fun i v w8 q => match i with | 0 => Value.ownBlock v = some q | 4 => Value.ownBlock v = some q | 6 => Value.ownBlock v = some q | 7 => Value.ownBlock v = some q | _ => False) (fun v w8 => ∃ g c : Nat, v = .slice (some ⟨g, 0, none⟩) (ps.length + 1) c ∧ OwnSteps B w8 v (ps.take k ++ [(dx, .slice ya zt.length yc, zt)] ++ ps.drop k) ∧ Below w10.heap.size w10 w8) w10 11 [4, 3, 3, 4, 7, 6, 7, 11, 10, 10, 11] (fun k => match k with | 64 => u64 | 65 => u65 | 66 => u66 | 67 => u67 | 68 => u68 | 69 => u69 | 70 => u70 | 71 => u71 | 72 => u72 | 73 => u73 | 74 => u74 | 75 => u75 | _ => undef) (by rfl) (by kernel_rfl) (by rfl) ⟨by kernel_rfl, by kernel_rfl, by kernel_rfl, by decide⟩ (by kernel_rfl) (by kernel_rfl) (Below.refl _ _) ?hput ?hinj ?stable ?step ?pre ?last
         case hput =>
          intro i hi uw v
          match i, hi with
          | 0, _ => rfl
          | 1, _ => rfl
          | 2, _ => rfl
          | 3, _ => rfl
          | 4, _ => rfl
          | 5, _ => rfl
          | 6, _ => rfl
          | 7, _ => rfl
          | 8, _ => rfl
          | 9, _ => rfl
          | 10, _ => rfl
          | 11, _ => rfl
          | i + 12, hi => exact absurd hi (by omega)
         case hinj =>
          intro i j hi hj h
          exact slots_inj [64, 65, 66, 67, 68, 69, 70, 71, 72, 73, 74, 75] (by decide) hi hj h
         case stable =>
          intro i v w8 w9 hb hf h
          match i, hf, h with
          | 0, hf, h => exact ⟨step_same h (fun q hq => (hf q hq).2), fun _ hk => hk⟩
          | 1, hf, h => exact ⟨h, fun _ hk => hk⟩
          | 2, hf, h => exact ⟨h, fun _ hk => hk⟩
          | 3, hf, h => exact ⟨h, fun _ hk => hk⟩
          | 4, hf, h => exact ⟨step_same h (fun q hq => (hf q hq).2), fun _ hk => hk⟩
          | 5, hf, h => exact ⟨h, fun _ hk => hk⟩
          | 6, hf, h => 
           obtain ⟨N, e, hc0, hc1⟩ := h
           have hN := (hf N (by rw [e]; rfl)).2
           exact ⟨⟨N, e, (World.cell?_of_block (a := ⟨N, 0, none⟩) hN).trans hc0, (World.cell?_of_block (a := ⟨N, 1, none⟩) hN).trans hc1⟩, fun _ hk => hk⟩
          | 7, hf, h => exact ⟨step_same h (fun q hq => (hf q hq).2), fun _ hk => hk⟩
          | 8, hf, h => exact ⟨h, fun _ hk => hk⟩
          | 9, hf, h => exact ⟨h, fun _ hk => hk⟩
          | 10, hf, h => exact ⟨h, fun _ hk => hk⟩
          | _ + 11, hf, h => exact ⟨trivial, fun _ hk => hk⟩
         case step =>
          intro i hi uw w8 S8 hdep
          match i, hi with
          | 0, _ =>
           clear hdep
           refine ⟨_, rfl, fun K' hK => ?_⟩
           go_simp
           exact hK.out _ _ (Chg.of_below (by repeat (first | exact Below.refl _ _ | assumption | refine Below.drew ?_ | refine Below.alloc ?_ (by first | exact Nat.le_refl _ | omega | (simp; done) | (simp; omega)) _ | refine Below.setCell ?_ (by first | exact Nat.le_refl _ | omega | (simp; done) | (simp; omega)) _))) (own_noneS w8 _ _ rfl S8.size) (fun q hq => by rw [own_at1 hq]; exact ⟨by simp, .inr (Nat.le_refl _)⟩)
          | 1, _ =>
           clear hdep
           refine ⟨_, rfl, fun K' hK => ?_⟩
           go_simp
           exact hK.out _ _ (Chg.refl _ _) rfl (fun q hq => hq.elim)
          | 2, _ =>
           clear hdep
           refine ⟨_, rfl, fun K' hK => ?_⟩
           go_simp
           exact hK.out _ _ (Chg.refl _ _) rfl (fun q hq => hq.elim)
          | 3, _ =>
           have h1 : (uw 65) = .slice (some ⟨og, 0, none⟩) ps.length oc := (hdep 1 rfl (by decide)).1
           have h2 : (uw 66) = .int .i64 (k : Int) := (hdep 2 rfl (by decide)).1
           clear hdep
           refine ⟨_, rfl, fun K' hK => ?_⟩
           have i1 : (k : Int) ≤ (oc : Int) := by omega
           have i2 : (0 : Int) ≤ (k : Int) := by omega
           simp only [h1, h2] at hK ⊢
           go_simp
           exact hK.out _ _ (Chg.refl _ _) ⟨_, rfl⟩ (fun q hq => hq.elim)
          | 4, _ =>
           have h0 : World.ownsRow w8 w10.heap.size 79 2 (uw 64) (0) ([]) := (hdep 0 rfl (by decide)).1
           have h3 : ∃ c : Nat, (uw 67) = .slice (some ⟨og, 0, none⟩) k c := (hdep 3 rfl (by decide)).1
           clear hdep
           refine ⟨_, rfl, fun K' hK => ?_⟩
           obtain ⟨c3, e3⟩ := h3
           refine step_append_at w8 rfl _ _ 28 rfl (some 68) rfl w10.heap.size 79 j0 _ 2 32 Tryz.underlying28 HJ.out HJ0.out HJ1.out HJ2.out rfl (by decide) _ _ _ rfl h0 ⟨og, 0, none⟩ k c3 ((ps.take k).flatMap pcs) e3 (by rw [pcs_len, List.length_take, Nat.min_eq_left hkl]) (fun i u hu => by rw [add_at, Nat.zero_add]; exact keep S8 (HCe.out i u (pcs_take hu))) (fun u hu => pcs_one HO10.out u (by obtain ⟨p, hp, hm⟩ := List.mem_flatMap.1 hu; exact List.mem_flatMap.2 ⟨p, List.mem_of_mem_take hp, hm⟩)) (by unfold maxLen; omega) (by omega) S8.size ?_
           intro v' w' hown hg hat
           refine hK.out v' w' (Chg.of_grown hg (fun q hq => ⟨0, rfl, by decide, hq⟩)) (by have h9 := hown; simp only [Nat.zero_add, List.nil_append] at h9; exact h9) (fun q hq => ⟨(World.ownsRow.lt hown q hq).2, ?_⟩)
           rcases hat with hat | hat
           · exact .inl ⟨0, rfl, by decide, by rw [hat] at hq; exact hq⟩
           · rw [hat] at hq
             injection hq with hq
             exact .inr (Nat.le_of_eq hq)
          | 5, _ =>
           clear hdep
           refine ⟨_, rfl, fun K' hK => ?_⟩
           have hX8 : w8.heap[X]? = some (.cells #[.bool dx, .slice ya zt.length yc] 79 (0, 0)) := (S8.block X hX10l).trans HX10.out
           have x0 : w8.cell? ⟨X, 0, none⟩ = some (.bool dx) := by rw [Lib.cell_of_heap hX8]; rfl
           have x1 : w8.cell? ⟨X, 1, none⟩ = some (.slice ya zt.length yc) := by rw [Lib.cell_of_heap hX8]; rfl
           go_simp
           exact hK.out _ _ (Chg.refl _ _) rfl (fun q hq => hq.elim)
          | 6, _ =>
           have h5 : (uw 69) = .agg #[.bool dx, .slice ya zt.length yc] := (hdep 5 rfl (by decide)).1
           clear hdep
           refine ⟨_, rfl, fun K' hK => ?_⟩
           simp only [h5] at hK ⊢
           go_simp
           exact hK.out _ _ (Chg.of_below (by repeat (first | exact Below.refl _ _ | assumption | refine Below.drew ?_ | refine Below.alloc ?_ (by first | exact Nat.le_refl _ | omega | (simp; done) | (simp; omega)) _ | refine Below.setCell ?_ (by first | exact Nat.le_refl _ | omega | (simp; done) | (simp; omega)) _))) ⟨w8.heap.size, rfl, by simp [go_sem], by simp [go_sem]⟩ (fun q hq => by rw [own_at1 hq]; exact ⟨by simp, .inr (Nat.le_refl _)⟩)
          | 7, _ =>
           have h4 : World.ownsRow w8 w10.heap.size 79 2 (uw 68) (k) (((ps.take k).flatMap pcs)) := (hdep 4 rfl (by decide)).1
           have h6 : ∃ N : Nat, (uw 70) = .slice (some ⟨N, 0, none⟩) 1 1 ∧ World.cell? w8 ⟨N, 0, none⟩ = some (.bool dx) ∧ World.cell? w8 ⟨N, 1, none⟩ = some (.slice ya zt.length yc) := (hdep 6 rfl (by decide)).1
           clear hdep
           refine ⟨_, rfl, fun K' hK => ?_⟩
           obtain ⟨N, e6, hc60, hc61⟩ := h6
           refine step_append_at w8 rfl _ _ 28 rfl (some 71) rfl w10.heap.size 79 j0 _ 2 32 Tryz.underlying28 HJ.out HJ0.out HJ1.out HJ2.out rfl (by decide) _ _ _ rfl h4 ⟨N, 0, none⟩ 1 1 [.bool dx, .slice ya zt.length yc] e6 rfl (at_twoS hc60 hc61) (fun u hu => by simp at hu; rcases hu with rfl | rfl <;> rfl) (by unfold maxLen; omega) (by omega) S8.size ?_
           intro v' w' hown hg hat
           refine hK.out v' w' (Chg.of_grown hg (fun q hq => ⟨4, rfl, by decide, hq⟩)) hown (fun q hq => ⟨(World.ownsRow.lt hown q hq).2, ?_⟩)
           rcases hat with hat | hat
           · exact .inl ⟨4, rfl, by decide, by rw [hat] at hq; exact hq⟩
           · rw [hat] at hq
             injection hq with hq
             exact .inr (Nat.le_of_eq hq)
          | 8, _ =>
           clear hdep
           refine ⟨_, rfl, fun K' hK => ?_⟩
           go_simp
           exact hK.out _ _ (Chg.refl _ _) rfl (fun q hq => hq.elim)
          | 9, _ =>
           clear hdep
           refine ⟨_, rfl, fun K' hK => ?_⟩
           go_simp
           exact hK.out _ _ (Chg.refl _ _) rfl (fun q hq => hq.elim)
          | 10, _ =>
           have h8 : (uw 72) = .slice (some ⟨og, 0, none⟩) ps.length oc := (hdep 8 rfl (by decide)).1
           have h9 : (uw 73) = .int .i64 (k : Int) := (hdep 9 rfl (by decide)).1
           clear hdep
           refine ⟨_, rfl, fun K' hK => ?_⟩
           have i1 : (k : Int) ≤ (ps.length : Int) := by omega
           have i2 : (0 : Int) ≤ (k : Int) := by omega
           have i3 : (ps.length : Int) ≤ (oc : Int) := by omega
           simp only [h8, h9] at hK ⊢
           go_simp
           by_cases hok : oc = k
           · rw [if_pos hok]
             exact hK.out _ _ (Chg.refl _ _) ⟨0, oc - k, rfl, .inl (by omega)⟩ (fun q hq => hq.elim)
           · rw [if_neg hok]
             exact hK.out _ _ (Chg.refl _ _) ⟨k * 2, oc - k, rfl, .inr rfl⟩ (fun q hq => hq.elim)
          | i + 11, hi => exact absurd hi (by omega)
         case pre =>
          intro uw w8 S8 hdep
          have h7 : World.ownsRow w8 w10.heap.size 79 2 (uw 71) (k + 1) (((ps.take k).flatMap pcs) ++ [.bool dx, .slice ya zt.length yc]) := (hdep 7 rfl (by decide)).1
          have h10 : ∃ ad c : Nat, (uw 74) = .slice (some ⟨og, ad, none⟩) (ps.length - k) c ∧ (ps.length - k = 0 ∨ ad = k * 2) := (hdep 10 rfl (by decide)).1
          clear hdep
          refine ⟨_, rfl, fun K' hK => ?_⟩
          obtain ⟨ad, c10, e10, hz10⟩ := h10
          refine step_append_at w8 rfl _ _ 28 rfl (some 75) rfl w10.heap.size 79 j0 _ 2 32 Tryz.underlying28 HJ.out HJ0.out HJ1.out HJ2.out rfl (by decide) _ _ _ rfl h7 ⟨og, ad, none⟩ (ps.length - k) c10 ((ps.drop k).flatMap pcs) e10 (by rw [pcs_len, List.length_drop]) (fun i u hu => by have hil := (List.getElem?_eq_some_iff.1 hu).1; rw [pcs_len, List.length_drop] at hil; rcases hz10 with hz | rfl; omega; rw [add_at]; exact keep S8 (HCe.out _ u (pcs_drop hkl hu))) (fun u hu => pcs_one HO10.out u (by obtain ⟨p, hp, hm⟩ := List.mem_flatMap.1 hu; exact List.mem_flatMap.2 ⟨p, List.mem_of_mem_drop hp, hm⟩)) (by unfold maxLen; omega) (by omega) S8.size ?_
          intro v' w' hown hg hat
          have hbn : Below w10.heap.size w10 w' := S8.grown hg S8.size (fun q hq => (World.ownsRow.lt h7 q hq).1)
          have hst : OwnSteps B w' v' (ps.take k ++ [(dx, .slice ya zt.length yc, zt)] ++ ps.drop k) := steps_new HO10.out HOx10.out hkl hB10 hbn hown
          obtain ⟨g', c', e'⟩ : ∃ g c, v' = .slice (some ⟨g, 0, none⟩) (ps.length + 1) c := by
           rcases hown.2 with ⟨_, h0⟩ | ⟨g, cap, cur, e, _⟩
           · omega
           · exact ⟨g, cap, by rw [e]; congr 1; omega⟩
          exact hK.out v' w' ⟨g', c', e', hst, hbn⟩
         case last =>
          intro uw w8 hψ
          obtain ⟨g', c', e', hst, hbn⟩ := hψ
          have HSn := hid hst
          have HBn := hid hbn
          clear hst hbn
          refine ⟨_, rfl, fun K' hK => ?_⟩
          go_simp
          have e75 : uw 75 = .slice (some ⟨g', 0, none⟩) (ps.length + 1) c' := e'
          rw [e75]
          refine hK.out _ _ ?_
          have HGn : Hid (w1.grownBy w8 (some b)) := hid (grown_below2 (grown_trans HG.out HG10.out) HBn.out)
          have HSrn : Hid (Src w8 b a len cap (2 + 2000 * (2 - (m - 1)))) := hid ((HS10.out.below HBn.out).mono (by omega))
          have hln : (ps.take k ++ [(dx, Value.slice ya zt.length yc, zt)] ++ ps.drop k).length = ps.length + 1 := by simp; omega
          have HRn : Hid (Right nv (ps.take k ++ [(dx, Value.slice ya zt.length yc, zt)] ++ ps.drop k)) := hid (fun p hp => by
           rcases List.mem_append.1 hp with hp | hp
           · rcases List.mem_append.1 hp with hp | hp
             · exact HRi.out p (List.mem_of_mem_take hp)
             · rw [List.mem_singleton] at hp
               subst hp
               exact ⟨hlz, HZz.out⟩
           · exact HRi.out p (List.mem_of_mem_drop hp))
          have HLn := hid hln
          rw [e'] at HSn
          clear hln
          go_wp2
          go_roundw
          case rel =>
           refine ⟨m - 1, g', c', _, by omega, by congr 1; omega, by rw [HLn.out], ?_, HRn.out, by rw [HLn.out]; omega, HGn.out, HSrn.out⟩
           rw [HLn.out]
           exact HSn.out
          case measure => simp [intOf]; omega
    · have e : m = 0 := by omega
      subst e
      go_wp2
      go_ret
      exact ⟨og, oc, ps, rfl, HO.out, HRi.out, by omega, grown_trans HG0.out HG.out⟩
end Go.Proofs.YtmkhoocokpkojaaGreatDoor.stepsDraw
