import Derived.Test.YtmkhoocokpkojaaGreatDoorPart31
import Derived.Test.YtmkhoocokpkojaaGreatDoorPart33
import Derived.Test.YtmkhoocokpkojaaGreatDoorPart34
import Derived.Test.YtmkhoocokpkojaaGreatDoorPart9
import Derived.Test.YtmkhoocokpkojaaGreatDoorPart10
import Derived.Laws.AppendOwnNone
namespace Go.Proofs.YtmkhoocokpkojaaGreatDoor.chkSpec
open Go.RowKit Go.Deep Go base copy cnf steps sets setsOf solSets solMath solClose chkMath ratMath chkSem findSpec rupSpec ratSpec clsRow heldStore drawn drawnLin stepAppend
set_option linter.unusedVariables false
set_option linter.unusedSimpArgs false
set_option pp.deepTerms true
set_option pp.maxSteps 10000000
def ShortIn (n : Nat) (zss : List (List Int)) : Prop := ∀ ys ∈ zss, ys.length ≤ 12 ∧ ∀ z ∈ ys, z ≠ 0 ∧ z.natAbs < n
theorem ShortIn.erase {n : Nat} {zss : List (List Int)} (h : ShortIn n zss) (k : Nat) : ShortIn n (zss.eraseIdx k) := fun ys hy => h ys (List.mem_of_mem_eraseIdx hy)
theorem ShortIn.add {n : Nat} {zss : List (List Int)} (h : ShortIn n zss) {zs : List Int} (hz : zs.length ≤ 12 ∧ ∀ z ∈ zs, z ≠ 0 ∧ z.natAbs < n) : ShortIn n (zss ++ [zs]) := fun ys hy => by
 rcases List.mem_append.1 hy with hy | hy
 · exact h ys hy
 · rw [List.mem_singleton.1 hy]; exact hz
theorem ShortIn.lits {n : Nat} {zss : List (List Int)} (h : ShortIn n zss) : LitsIn n zss := fun ys hy => (h ys hy).2
set_option maxHeartbeats 6400000 in
set_option maxRecDepth 8000 in
theorem check_spec (n0 : Nat) (a : Option Addr) (len cap0 : Nat) (zss : List (List Int)) (b : Option Addr) (sl sc : Nat) (ss : List St) (w : World) (hr : IntRows w a len zss) (hs : StepRow w b sl ss) (hn0 : 1 ≤ n0 ∧ n0 ≤ 41) (hl : ShortIn n0 zss) (hll : len ≤ 300) (hsl : sl ≤ 200) (hz : ShortIn n0 (ss.map Prod.snd)) (hnil : a = none → cap0 = 0) :
  Calls Tryz.prog 26 #[.agg #[.int .i64 ((n0 : Int) - 1), .slice a len cap0], .slice b sl sc] w fun e w' => ∃ p c : Int, e = .returned (.tuple #[.int .i64 p, .int .i64 c]) ∧ ChkR zss ss 0 p c ∧ Below w.heap.size w w' := by
 have HSl := hid hs.length
 have HS := hid hs
 have HZ := hid hz
 have HL0 := hid hl
 have hlz := hr.length
 obtain ⟨i1, hi1, hzz⟩ := Option.map_eq_some_iff.1 info_rows
 simp only [Prod.mk.injEq] at hzz
 obtain ⟨hy0, hy1, hy2⟩ := hzz
 have HJ := hid hi1
 have HY0 := hid hy0
 have HY1 := hid hy1
 have HY2 := hid hy2
 clear hi1 hy0 hy1 hy2
 obtain ⟨vals0, hin0⟩ : ∃ vals0, Inner w vals0 zss ∧ (∀ t y, vals0[t]? = some y → ∃ bb off, a = some ⟨bb, off, none⟩ ∧ w.cell? ⟨bb, off + t, none⟩ = some y) := by
  have each : ∀ i, i < len → ∃ q : Option Addr × Nat × Nat, ∃ bb off, a = some ⟨bb, off, none⟩ ∧ w.cell? ⟨bb, off + i, none⟩ = some (.slice q.1 q.2.1 q.2.2) ∧ IntRow w q.1 q.2.1 (zss[i]?.getD []) := fun i hi => by
   obtain ⟨bb, off, e, a', l', c', h1, h2⟩ := hr.cell i hi
   exact ⟨(a', l', c'), bb, off, e, h1, h2⟩
  obtain ⟨f, hf⟩ := choose_lt each
  refine ⟨(List.range len).map fun i => .slice (f i).1 (f i).2.1 (f i).2.2, ⟨by simp [hlz], fun i hi => ?_⟩, fun t y ht => ?_⟩
  · obtain ⟨bb, off, e, h1, h2⟩ := hf i (by omega)
    exact ⟨_, _, _, by rw [List.getElem?_map, List.getElem?_range (by omega)]; rfl, h2⟩
  · rw [List.getElem?_map] at ht
    obtain ⟨i, hi, rfl⟩ := Option.map_eq_some_iff.1 ht
    obtain ⟨hi1, hi2⟩ := List.getElem?_eq_some_iff.1 hi
    simp at hi1 hi2
    subst hi2
    obtain ⟨bb, off, e, h1, h2⟩ := hf t hi1
    exact ⟨bb, off, e, h1⟩
 have HI0 := hid hin0.1
 have HC0 := hid hin0.2
 have HVl0 : Hid (vals0.length = len) := hid (by rw [hin0.1.len, hlz])
 have hnone : a = none → len = 0 := fun e => by
  rcases Nat.eq_zero_or_pos len with h | h
  · exact h
  · obtain ⟨bb, off, e', _⟩ := hr.cell 0 h
    rw [e] at e'; cases e'
 clear hs hl hz hin0
 clear hr
 obtain ⟨W1, hW1⟩ : ∃ W1, (w.alloc (.cells #[.int .i64 ((n0 : Int) - 1), .slice a len cap0] 25)).alloc (.cells #[] 52) = W1 := ⟨_, rfl⟩
 have HW1 := hid hW1
 have hb1 : Below w.heap.size w W1 := by rw [← hW1]; exact (by repeat (first | exact Below.refl _ _ | assumption | refine Below.drew ?_ | refine Below.alloc ?_ (by first | exact Nat.le_refl _ | omega | (simp; done) | (simp; omega)) _ | refine Below.setCell ?_ (by first | exact Nat.le_refl _ | omega | (simp; done) | (simp; omega)) _))
 have HB1 := hid hb1
 have hzW : W1.heap.size = w.heap.size + 1 + 1 := by rw [← hW1]; simp
 have HBx : Hid (W1.cell? ⟨w.heap.size, 0, none⟩ = some (.int .i64 ((n0 : Int) - 1))) := hid (by rw [← hW1]; simp [go_sem])
 have HOe : Hid (W1.ownsRow (w.heap.size + 1) 52 1 (.slice (some ⟨w.heap.size + 1, 0, none⟩) 0 0) 0 []) := hid (by rw [← hW1]; exact rows_empty _ _ _ (by simp) (by simp))
 clear hW1 hb1
 have HL := HL0
 clear HL0
 go_enter Tryz.func26, Tryz.ntmps26
 go_wp2_with (at_builtin; go_loud (rw [HW1.out]; refine wpList_append_any rfl _ _ 23 rfl (w.heap.size + 1) 52 i1 (.slice none 0 0) 1 24 Tryz.underlying23 HJ.out HY0.out HY1.out HY2.out rfl (by decide) _ _ _ rfl HOe.out a len cap0 vals0 rfl (fun e => ⟨hnone e, hnil e⟩) (by rw [HVl0.out, Nat.mul_one]) (fun ad e j u hj => by obtain ⟨bb, off, e', hc⟩ := HC0.out j u hj; rw [e] at e'; injection e' with e'; subst e'; rw [add_at]; exact keep HB1.out hc) HI0.out.one (by unfold maxLen; omega) (by omega) (by omega) ?_); intro v' w2 hown2 hgr2; go_loud (have HO2 : Hid (w2.ownsRow (w.heap.size + 1) 52 1 v' len vals0) := hid (by simpa using hown2)); go_loud (have HB2 : Hid (Below w.heap.size w w2) := hid (HB1.out.grown hgr2 (by omega) (fun b hb => Nat.le_of_succ_le (World.ownsRow.lt HOe.out b hb).1))); go_loud (have HBox : Hid (w2.cell? ⟨w.heap.size, 0, none⟩ = some (.int .i64 ((n0 : Int) - 1))) := hid ((World.cell?_of_block (a := ⟨w.heap.size, 0, none⟩) (hgr2.block w.heap.size (by omega) (fun e => by have e : some w.heap.size = some (w.heap.size + 1) := e; injection e with e; omega))).trans HBx.out)); clear hown2 hgr2)
 go_wp2_with fail
 go_loopw [7, 6] (fun i v wr => ∃ (k : Nat) (zs' : List (List Int)) (n : Nat) (vals : List Value), k ≤ sl ∧ i = .int .i64 k ∧ World.ownsRow wr (w.heap.size + 1) 52 1 v n vals ∧ Inner w vals zs' ∧ (∀ p c, ChkR zs' (ss.drop k) k p c → ChkR zss ss 0 p c) ∧ ShortIn n0 zs' ∧ n ≤ len + k ∧ Below w.heap.size w wr ∧ wr.cell? ⟨w.heap.size, 0, none⟩ = some (.int .i64 ((n0 : Int) - 1))) (fun i _ _ => sl - (intOf i).toNat)
 case atStart => exact ⟨0, zss, len, vals0, Nat.zero_le _, rfl, HO2.out, HI0.out, fun p c h => h, HL.out, Nat.le_refl _, HB2.out, HBox.out⟩
 case round =>
  obtain ⟨k, zs', n, vals, hk, rfl, ho, hin, hstep, hsh, hnk, hbr, hbx⟩ := hrel
  have hsz := World.block_lt_of_cell? _ _ hbx
  simp only at hsz
  have HSz : Hid (w.heap.size + 1 ≤ wr.heap.size) := hid hsz
  clear hsz
  obtain ⟨va, cap, rfl, hnc, hcm, hsome⟩ := form_of ho
  have HOw := hid ho
  have HIn := hid hin
  have HVl : Hid (vals.length = n) := hid (by have := ho.1; omega)
  have HSt := hid hstep
  have HSh := hid hsh
  have HBr := hid hbr
  have HRw := hid (rows_of ho hin hbr)
  have HLn : Hid (zs'.length = n) := hid (by rw [← hin.len]; exact HVl.out)
  unfold maxLen at hcm
  clear ho hin hstep hsh hbr
  by_cases hlt : k < sl
  · obtain ⟨b1, o1, rfl, hd, za, zl, zc, hzc, hzr⟩ := HS.out.cell k hlt
    have hkl : k < ss.length := by rw [HSl.out]; exact hlt
    have HDr : Hid (ss.drop k = ss[k]?.getD (false, []) :: ss.drop (k + 1)) := hid (drop_cons hkl)
    have hzm : (ss[k]?.getD (false, [])).2 ∈ ss.map Prod.snd := by rw [List.getElem?_eq_getElem hkl]; exact List.mem_map.2 ⟨_, List.getElem_mem hkl, rfl⟩
    have hz9 := HZ.out _ hzm
    generalize ss[k]?.getD (false, []) = st at *
    obtain ⟨dl, zs⟩ := st
    dsimp only at hd hzr hz9
    have HZ9 := hid hz9
    have HZr := hid hzr
    have hd' := keep HBr.out hd
    have hzc' := keep HBr.out hzc
    have hzl := hzr.length
    have hkI : (k : Int) < (sl : Int) := by omega
    have HU : Hid (∀ p c, ChkR zs' ((dl, zs) :: ss.drop (k + 1)) k p c → ChkR zss ss 0 p c) := hid (fun p c h => HSt.out p c (by rw [HDr.out]; exact h))
    clear hd hzc hzr hz9 hzm hkl HSt HDr
    cases dl with
    | true =>
     have HFi := hid (find_spec va n cap zs' za zl zc zs wr HRw.out (HZr.out.below HBr.out) (fun ys hy => ⟨by have := (HSh.out ys hy).1; omega, fun z hm => by have := (HSh.out ys hy).2 z hm; omega⟩) (fun z hm => by have := HZ9.out.2 z hm; omega) (by have := HZ9.out.1; omega))
     go_wp2_with fail
     refine HFi.out.mono ?_
     rintro e w1 ⟨⟨hno, rfl⟩ | ⟨q, hf, rfl⟩, hb1⟩
     · have HA : Hid (ChkR zss ss 0 (k : Int) 6) := hid (HU.out _ _ (by unfold ChkR; rw [if_pos rfl]; exact .inl ⟨hno, rfl, rfl⟩))
       have HB1 := hid (HBr.out.trans (hb1.mono HBr.out.size))
       clear hno hb1
       go_wp2_with fail
       go_ret2
       exact ⟨_, _, rfl, HA.out, HB1.out⟩
     · have hqn : q < n := by have := hf.1; rw [List.length_map, HLn.out] at this; exact this
       have HStep : Hid (∀ p c, ChkR (zs'.eraseIdx q) (ss.drop (k + 1)) (k + 1) p c → ChkR zss ss 0 p c) := hid (fun p c h => HU.out p c (by unfold ChkR; rw [if_pos rfl]; exact .inr ⟨q, hf, h⟩))
       have HIe := hid (HIn.out.erase q)
       have HShe := hid (HSh.out.erase q)
       have HB1 := hid (HBr.out.trans (hb1.mono HBr.out.size))
       have HOw1 : Hid (w1.ownsRow (w.heap.size + 1) 52 1 (.slice va n cap) n vals) := hid (own_same HOw.out (fun g hg => hb1.block g (World.ownsRow.lt HOw.out g hg).2))
       obtain ⟨g, rfl⟩ := hsome (by omega)
       replace hd' := keep hb1 hd'
       replace hzc' := keep hb1 hzc'
       replace hbx := keep hb1 hbx
       have HSz1 : Hid (w.heap.size + 1 ≤ w1.heap.size) := hid (Nat.le_trans HSz.out hb1.size)
       have hqi : ¬ ((q : Int) < 0) := by omega
       clear hf hb1 HFi HRw HSh HBr HOw hsome HSz
       have HSz := HSz1
       clear HSz1
       have HBr := HB1
       have HOw := HOw1
       have HSh := HShe
       clear HB1 HOw1 HShe
       generalize w1 = wr at *
       by_cases hcq : cap = q + 1
       · subst hcq
         go_wp2_with fail
         refine region_lin (fun uu => ⟨#[.agg #[.int .i64 (n0 - 1), .slice a len cap0], .slice (some ⟨b1, o1, none⟩) sl sc, .pointer (some ⟨w.heap.size, 0, none⟩), undef, u4, u5, .slice (some ⟨g, 0, none⟩) n (q + 1), .int .i64 k, .slice za zl zc, .int .i64 q, .slice (some ⟨w.heap.size + 1, 0, none⟩) 0 0, .pointer (some ⟨w.heap.size, 1, none⟩), .slice a len cap0, v', .int .i64 k, .slice (some ⟨b1, o1, none⟩) sl sc, .int .i64 sl, .bool true, u18, u19, .slice (some ⟨b1, o1, none⟩) sl sc, .int .i64 k, .pointer (some ⟨b1, o1 + k * 2, none⟩), .pointer (some ⟨b1, o1 + k * 2 + 1, none⟩), .slice za zl zc, .slice (some ⟨b1, o1, none⟩) sl sc, .int .i64 k, .pointer (some ⟨b1, o1 + k * 2, none⟩), .pointer (some ⟨b1, o1 + k * 2, none⟩), .bool true, .slice (some ⟨g, 0, none⟩) n (q + 1), .slice za zl zc, .int .i64 q, .int .i64 q, .bool (decide (q < 0)), u35, uu 36, uu 37, uu 38, uu 39, uu 40, uu 41, uu 42, uu 43, uu 44, uu 45, u46, u47, u48, u49, u50, u51, u52, u53, u54, u55, u56, u57, u58, u59, u60, u61, u62, u63, u64, u65, u66, u67, u68, undef, undef], []⟩) (fun i => [36, 37, 38, 39, 40, 41, 42, 43, 44, 45].getD i 0) (fun i v w8 => match i with | 0 => World.ownsRow w8 (w.heap.size + 1) 52 1 v (0) ([]) | 1 => v = .slice (some ⟨g, 0, none⟩) n (q + 1) | 2 => v = .int .i64 (q : Int) | 3 => v = .slice (some ⟨g, 0, none⟩) q (q + 1) | 4 => World.ownsRow w8 (w.heap.size + 1) 52 1 v (q) (vals.take q) | 5 => v = .slice (some ⟨g, 0, none⟩) n (q + 1) | 6 => v = .int .i64 (q : Int) | 7 => v = .int .i64 ((q : Int) + 1) | 8 => v = .slice (some ⟨g, 0, none⟩) 0 0 | _ => True) (fun i v w8 b => match i with | 0 => Value.ownBlock v = some b | 4 => Value.ownBlock v = some b | _ => False) (fun v w8 => World.ownsRow w8 (w.heap.size + 1) 52 1 v (q + 0) (vals.take q ++ vals.drop (q + 1)) ∧ Below wr.heap.size wr w8) wr 9 [4, 3, 3, 4, 9, 8, 7, 8, 9] (fun k => match k with | 36 => u36 | 37 => u37 | 38 => u38 | 39 => u39 | 40 => u40 | 41 => u41 | 42 => u42 | 43 => u43 | 44 => u44 | 45 => u45 | _ => undef) (by rfl) (by kernel_rfl) (by rfl) ⟨by kernel_rfl, by kernel_rfl, by kernel_rfl, by decide⟩ (by kernel_rfl) (by kernel_rfl) (Below.refl _ _) ?hput ?hinj ?stable ?step ?pre ?last'
         case hput =>
          intro i hi uu v
          match i, hi with
          | 0, _ => rfl
          | 1, _ => rfl
          | 2, _ => rfl
          | 3, _ => rfl
          | 4, _ => rfl
          | 5, _ => rfl
          | 6, _ => rfl
          | 7, _ => rfl
          | 8, _ => rfl
          | 9, _ => rfl
          | i + 10, hi => exact absurd hi (by omega)
         case hinj =>
          intro i j hi hj h
          exact slots_inj [36, 37, 38, 39, 40, 41, 42, 43, 44, 45] (by decide) hi hj h
         case stable =>
          intro i v w8 w9 hb hf h
          match i, hf, h with
          | 0, hf, h => exact ⟨own_same h (fun b hb => (hf b hb).2), fun _ hk => hk⟩
          | 1, hf, h => exact ⟨h, fun _ hk => hk⟩
          | 2, hf, h => exact ⟨h, fun _ hk => hk⟩
          | 3, hf, h => exact ⟨h, fun _ hk => hk⟩
          | 4, hf, h => exact ⟨own_same h (fun b hb => (hf b hb).2), fun _ hk => hk⟩
          | 5, hf, h => exact ⟨h, fun _ hk => hk⟩
          | 6, hf, h => exact ⟨h, fun _ hk => hk⟩
          | 7, hf, h => exact ⟨h, fun _ hk => hk⟩
          | 8, hf, h => exact ⟨h, fun _ hk => hk⟩
          | _ + 9, hf, h => exact ⟨trivial, fun _ hk => hk⟩
         case step =>
          intro i hi uu w8 S8 hdep
          match i, hi with
          | 0, _ =>
           clear hdep
           refine ⟨_, rfl, fun K' hK => ?_⟩
           go_simp
           exact hK.out _ _ (Chg.of_below (by repeat (first | exact Below.refl _ _ | assumption | refine Below.drew ?_ | refine Below.alloc ?_ (by first | exact Nat.le_refl _ | omega | (simp; done) | (simp; omega)) _ | refine Below.setCell ?_ (by first | exact Nat.le_refl _ | omega | (simp; done) | (simp; omega)) _))) (rows_empty _ _ _ (Nat.le_trans HSz.out S8.size) rfl) (fun b hb => by rw [own_at hb]; exact ⟨by simp, .inr (Nat.le_refl _)⟩)
          | 1, _ =>
           clear hdep
           refine ⟨_, rfl, fun K' hK => ?_⟩
           go_simp
           exact hK.out _ _ (Chg.refl _ _) rfl (fun b hb => hb.elim)
          | 2, _ =>
           clear hdep
           refine ⟨_, rfl, fun K' hK => ?_⟩
           go_simp
           exact hK.out _ _ (Chg.refl _ _) rfl (fun b hb => hb.elim)
          | 3, _ =>
           have h1 : (uu 37) = .slice (some ⟨g, 0, none⟩) n (q + 1) := (hdep 1 rfl (by decide)).1
           have h2 : (uu 38) = .int .i64 (q : Int) := (hdep 2 rfl (by decide)).1
           clear hdep
           refine ⟨_, rfl, fun K' hK => ?_⟩
           have hkc : q ≤ (q + 1) := by omega
           have hkd : (q : Int) ≤ ((q + 1) : Int) := by omega
           simp only [h1, h2] at hK ⊢
           go_simp
           exact hK.out _ _ (Chg.refl _ _) rfl (fun b hb => hb.elim)
          | 4, _ =>
           have h0 : World.ownsRow w8 (w.heap.size + 1) 52 1 (uu 36) (0) ([]) := (hdep 0 rfl (by decide)).1
           have h3 : (uu 39) = .slice (some ⟨g, 0, none⟩) q (q + 1) := (hdep 3 rfl (by decide)).1
           clear hdep
           refine ⟨_, rfl, fun K' hK => ?_⟩
           refine step_append_at w8 rfl _ _ 23 rfl (some 40) rfl (w.heap.size + 1) 52 i1 (.slice none 0 0) 1 24 Tryz.underlying23 HJ.out HY0.out HY1.out HY2.out rfl (by decide) _ _ _ rfl h0 ⟨g, 0, none⟩ q (q + 1) (vals.take q) h3 (by have := HVl.out; simp; omega) (fun t y ht => by rw [add_at, Nat.zero_add]; rw [List.getElem?_take] at ht; split at ht; exact keep S8 (cells_of HOw.out t y ht); cases ht) (fun y hy => HIn.out.one y (List.mem_of_mem_take hy)) (by unfold maxLen; omega) (by omega) (Nat.le_trans HSz.out S8.size) ?_
           intro v' w' hown hg hat
           refine hK.out v' w' (Chg.of_grown hg (fun b hb => ⟨0, rfl, by decide, hb⟩)) (by simpa using hown) (fun b hb => ⟨(World.ownsRow.lt hown b hb).2, ?_⟩)
           rcases hat with hat | hat
           · exact .inl ⟨0, rfl, by decide, by rw [hat] at hb; exact hb⟩
           · rw [hat] at hb
             injection hb with hb
             exact .inr (Nat.le_of_eq hb)
          | 5, _ =>
           clear hdep
           refine ⟨_, rfl, fun K' hK => ?_⟩
           go_simp
           exact hK.out _ _ (Chg.refl _ _) rfl (fun b hb => hb.elim)
          | 6, _ =>
           clear hdep
           refine ⟨_, rfl, fun K' hK => ?_⟩
           go_simp
           exact hK.out _ _ (Chg.refl _ _) rfl (fun b hb => hb.elim)
          | 7, _ =>
           have h6 : (uu 42) = .int .i64 (q : Int) := (hdep 6 rfl (by decide)).1
           clear hdep
           refine ⟨_, rfl, fun K' hK => ?_⟩
           have hw9 : IntKind.i64.wrap ((q : Int) + 1) = (q : Int) + 1 := by rw [IntKind.wrap_i64]; omega
           simp only [h6] at hK ⊢
           go_simp
           exact hK.out _ _ (Chg.refl _ _) rfl (fun b hb => hb.elim)
          | 8, _ =>
           have h5 : (uu 41) = .slice (some ⟨g, 0, none⟩) n (q + 1) := (hdep 5 rfl (by decide)).1
           have h7 : (uu 43) = .int .i64 ((q : Int) + 1) := (hdep 7 rfl (by decide)).1
           clear hdep
           refine ⟨_, rfl, fun K' hK => ?_⟩
           have hkc : q + 1 ≤ n := by omega
           have hkd : (0 : Int) ≤ (q : Int) + 1 := by omega
           have hke : (q : Int) + 1 ≤ (n : Int) := by omega
           simp only [h5, h7] at hK ⊢
           go_simp
           exact hK.out _ _ (Chg.refl _ _) rfl (fun b hb => hb.elim)
          | i + 9, hi => exact absurd hi (by omega)
         case pre =>
          intro uu w8 S8 hdep
          have h4 : World.ownsRow w8 (w.heap.size + 1) 52 1 (uu 40) (q) (vals.take q) := (hdep 4 rfl (by decide)).1
          have f4 := (hdep 4 rfl (by decide)).2
          have h8 : (uu 44) = .slice (some ⟨g, 0, none⟩) 0 0 := (hdep 8 rfl (by decide)).1
          clear hdep
          refine ⟨_, rfl, fun K' hK => ?_⟩
          refine step_append_at w8 rfl _ _ 23 rfl (some 45) rfl (w.heap.size + 1) 52 i1 (.slice none 0 0) 1 24 Tryz.underlying23 HJ.out HY0.out HY1.out HY2.out rfl (by decide) _ _ _ rfl h4 ⟨g, 0, none⟩ 0 0 (vals.drop (q + 1)) h8 (by have := HVl.out; simp; omega) (fun t y ht => by rw [List.drop_eq_nil_of_le (by have := HVl.out; omega)] at ht; cases ht) (fun y hy => HIn.out.one y (List.mem_of_mem_drop hy)) (by unfold maxLen; omega) (by omega) (Nat.le_trans HSz.out S8.size) ?_
          intro v' w' hown hg hat
          exact hK.out v' w' ⟨hown, S8.grown hg S8.size (fun b hb => (f4 b hb).1)⟩
         case last' =>
          intro uu w8 hψ
          obtain ⟨hor, hb⟩ := hψ
          have HF := hid hor
          have HX8 := hid (keep hb hbx)
          have HB8 := hid (HBr.out.trans (hb.mono HBr.out.size))
          clear hor hb
          refine ⟨_, rfl, fun K' hK => ?_⟩
          go_simp
          refine hK.out _ _ ?_
          go_wp2_with fail
          go_roundw
          case rel => exact ⟨k + 1, _, n - 1, _, by omega, by go_num, by rw [show q + 0 = n - 1 by omega] at HF; exact HF.out, HIe.out, HStep.out, HSh.out, by omega, HB8.out, HX8.out⟩
          case measure => simp [intOf]; omega
       · go_wp2_with fail
         refine region_lin (fun uu => ⟨#[.agg #[.int .i64 (n0 - 1), .slice a len cap0], .slice (some ⟨b1, o1, none⟩) sl sc, .pointer (some ⟨w.heap.size, 0, none⟩), undef, u4, u5, .slice (some ⟨g, 0, none⟩) n cap, .int .i64 k, .slice za zl zc, .int .i64 q, .slice (some ⟨w.heap.size + 1, 0, none⟩) 0 0, .pointer (some ⟨w.heap.size, 1, none⟩), .slice a len cap0, v', .int .i64 k, .slice (some ⟨b1, o1, none⟩) sl sc, .int .i64 sl, .bool true, u18, u19, .slice (some ⟨b1, o1, none⟩) sl sc, .int .i64 k, .pointer (some ⟨b1, o1 + k * 2, none⟩), .pointer (some ⟨b1, o1 + k * 2 + 1, none⟩), .slice za zl zc, .slice (some ⟨b1, o1, none⟩) sl sc, .int .i64 k, .pointer (some ⟨b1, o1 + k * 2, none⟩), .pointer (some ⟨b1, o1 + k * 2, none⟩), .bool true, .slice (some ⟨g, 0, none⟩) n cap, .slice za zl zc, .int .i64 q, .int .i64 q, .bool (decide (q < 0)), u35, uu 36, uu 37, uu 38, uu 39, uu 40, uu 41, uu 42, uu 43, uu 44, uu 45, u46, u47, u48, u49, u50, u51, u52, u53, u54, u55, u56, u57, u58, u59, u60, u61, u62, u63, u64, u65, u66, u67, u68, undef, undef], []⟩) (fun i => [36, 37, 38, 39, 40, 41, 42, 43, 44, 45].getD i 0) (fun i v w8 => match i with | 0 => World.ownsRow w8 (w.heap.size + 1) 52 1 v (0) ([]) | 1 => v = .slice (some ⟨g, 0, none⟩) n cap | 2 => v = .int .i64 (q : Int) | 3 => v = .slice (some ⟨g, 0, none⟩) q cap | 4 => World.ownsRow w8 (w.heap.size + 1) 52 1 v (q) (vals.take q) | 5 => v = .slice (some ⟨g, 0, none⟩) n cap | 6 => v = .int .i64 (q : Int) | 7 => v = .int .i64 ((q : Int) + 1) | 8 => v = .slice (some ⟨g, q + 1, none⟩) (n - (q + 1)) (cap - (q + 1)) | _ => True) (fun i v w8 b => match i with | 0 => Value.ownBlock v = some b | 4 => Value.ownBlock v = some b | _ => False) (fun v w8 => World.ownsRow w8 (w.heap.size + 1) 52 1 v (q + (n - (q + 1))) (vals.take q ++ vals.drop (q + 1)) ∧ Below wr.heap.size wr w8) wr 9 [4, 3, 3, 4, 9, 8, 7, 8, 9] (fun k => match k with | 36 => u36 | 37 => u37 | 38 => u38 | 39 => u39 | 40 => u40 | 41 => u41 | 42 => u42 | 43 => u43 | 44 => u44 | 45 => u45 | _ => undef) (by rfl) (by kernel_rfl) (by rfl) ⟨by kernel_rfl, by kernel_rfl, by kernel_rfl, by decide⟩ (by kernel_rfl) (by kernel_rfl) (Below.refl _ _) ?hput ?hinj ?stable ?step ?pre ?last'
         case hput =>
          intro i hi uu v
          match i, hi with
          | 0, _ => rfl
          | 1, _ => rfl
          | 2, _ => rfl
          | 3, _ => rfl
          | 4, _ => rfl
          | 5, _ => rfl
          | 6, _ => rfl
          | 7, _ => rfl
          | 8, _ => rfl
          | 9, _ => rfl
          | i + 10, hi => exact absurd hi (by omega)
         case hinj =>
          intro i j hi hj h
          exact slots_inj [36, 37, 38, 39, 40, 41, 42, 43, 44, 45] (by decide) hi hj h
         case stable =>
          intro i v w8 w9 hb hf h
          match i, hf, h with
          | 0, hf, h => exact ⟨own_same h (fun b hb => (hf b hb).2), fun _ hk => hk⟩
          | 1, hf, h => exact ⟨h, fun _ hk => hk⟩
          | 2, hf, h => exact ⟨h, fun _ hk => hk⟩
          | 3, hf, h => exact ⟨h, fun _ hk => hk⟩
          | 4, hf, h => exact ⟨own_same h (fun b hb => (hf b hb).2), fun _ hk => hk⟩
          | 5, hf, h => exact ⟨h, fun _ hk => hk⟩
          | 6, hf, h => exact ⟨h, fun _ hk => hk⟩
          | 7, hf, h => exact ⟨h, fun _ hk => hk⟩
          | 8, hf, h => exact ⟨h, fun _ hk => hk⟩
          | _ + 9, hf, h => exact ⟨trivial, fun _ hk => hk⟩
         case step =>
          intro i hi uu w8 S8 hdep
          match i, hi with
          | 0, _ =>
           clear hdep
           refine ⟨_, rfl, fun K' hK => ?_⟩
           go_simp
           exact hK.out _ _ (Chg.of_below (by repeat (first | exact Below.refl _ _ | assumption | refine Below.drew ?_ | refine Below.alloc ?_ (by first | exact Nat.le_refl _ | omega | (simp; done) | (simp; omega)) _ | refine Below.setCell ?_ (by first | exact Nat.le_refl _ | omega | (simp; done) | (simp; omega)) _))) (rows_empty _ _ _ (Nat.le_trans HSz.out S8.size) rfl) (fun b hb => by rw [own_at hb]; exact ⟨by simp, .inr (Nat.le_refl _)⟩)
          | 1, _ =>
           clear hdep
           refine ⟨_, rfl, fun K' hK => ?_⟩
           go_simp
           exact hK.out _ _ (Chg.refl _ _) rfl (fun b hb => hb.elim)
          | 2, _ =>
           clear hdep
           refine ⟨_, rfl, fun K' hK => ?_⟩
           go_simp
           exact hK.out _ _ (Chg.refl _ _) rfl (fun b hb => hb.elim)
          | 3, _ =>
           have h1 : (uu 37) = .slice (some ⟨g, 0, none⟩) n cap := (hdep 1 rfl (by decide)).1
           have h2 : (uu 38) = .int .i64 (q : Int) := (hdep 2 rfl (by decide)).1
           clear hdep
           refine ⟨_, rfl, fun K' hK => ?_⟩
           have hkc : q ≤ cap := by omega
           have hkd : (q : Int) ≤ (cap : Int) := by omega
           simp only [h1, h2] at hK ⊢
           go_simp
           exact hK.out _ _ (Chg.refl _ _) rfl (fun b hb => hb.elim)
          | 4, _ =>
           have h0 : World.ownsRow w8 (w.heap.size + 1) 52 1 (uu 36) (0) ([]) := (hdep 0 rfl (by decide)).1
           have h3 : (uu 39) = .slice (some ⟨g, 0, none⟩) q cap := (hdep 3 rfl (by decide)).1
           clear hdep
           refine ⟨_, rfl, fun K' hK => ?_⟩
           refine step_append_at w8 rfl _ _ 23 rfl (some 40) rfl (w.heap.size + 1) 52 i1 (.slice none 0 0) 1 24 Tryz.underlying23 HJ.out HY0.out HY1.out HY2.out rfl (by decide) _ _ _ rfl h0 ⟨g, 0, none⟩ q cap (vals.take q) h3 (by have := HVl.out; simp; omega) (fun t y ht => by rw [add_at, Nat.zero_add]; rw [List.getElem?_take] at ht; split at ht; exact keep S8 (cells_of HOw.out t y ht); cases ht) (fun y hy => HIn.out.one y (List.mem_of_mem_take hy)) (by unfold maxLen; omega) (by omega) (Nat.le_trans HSz.out S8.size) ?_
           intro v' w' hown hg hat
           refine hK.out v' w' (Chg.of_grown hg (fun b hb => ⟨0, rfl, by decide, hb⟩)) (by simpa using hown) (fun b hb => ⟨(World.ownsRow.lt hown b hb).2, ?_⟩)
           rcases hat with hat | hat
           · exact .inl ⟨0, rfl, by decide, by rw [hat] at hb; exact hb⟩
           · rw [hat] at hb
             injection hb with hb
             exact .inr (Nat.le_of_eq hb)
          | 5, _ =>
           clear hdep
           refine ⟨_, rfl, fun K' hK => ?_⟩
           go_simp
           exact hK.out _ _ (Chg.refl _ _) rfl (fun b hb => hb.elim)
          | 6, _ =>
           clear hdep
           refine ⟨_, rfl, fun K' hK => ?_⟩
           go_simp
           exact hK.out _ _ (Chg.refl _ _) rfl (fun b hb => hb.elim)
          | 7, _ =>
           have h6 : (uu 42) = .int .i64 (q : Int) := (hdep 6 rfl (by decide)).1
           clear hdep
           refine ⟨_, rfl, fun K' hK => ?_⟩
           have hw9 : IntKind.i64.wrap ((q : Int) + 1) = (q : Int) + 1 := by rw [IntKind.wrap_i64]; omega
           simp only [h6] at hK ⊢
           go_simp
           exact hK.out _ _ (Chg.refl _ _) rfl (fun b hb => hb.elim)
          | 8, _ =>
           have h5 : (uu 41) = .slice (some ⟨g, 0, none⟩) n cap := (hdep 5 rfl (by decide)).1
           have h7 : (uu 43) = .int .i64 ((q : Int) + 1) := (hdep 7 rfl (by decide)).1
           clear hdep
           refine ⟨_, rfl, fun K' hK => ?_⟩
           have hkc : q + 1 ≤ n := by omega
           have hkd : (0 : Int) ≤ (q : Int) + 1 := by omega
           have hke : (q : Int) + 1 ≤ (n : Int) := by omega
           simp only [h5, h7] at hK ⊢
           go_simp
           exact hK.out _ _ (Chg.refl _ _) rfl (fun b hb => hb.elim)
          | i + 9, hi => exact absurd hi (by omega)
         case pre =>
          intro uu w8 S8 hdep
          have h4 : World.ownsRow w8 (w.heap.size + 1) 52 1 (uu 40) (q) (vals.take q) := (hdep 4 rfl (by decide)).1
          have f4 := (hdep 4 rfl (by decide)).2
          have h8 : (uu 44) = .slice (some ⟨g, q + 1, none⟩) (n - (q + 1)) (cap - (q + 1)) := (hdep 8 rfl (by decide)).1
          clear hdep
          refine ⟨_, rfl, fun K' hK => ?_⟩
          refine step_append_at w8 rfl _ _ 23 rfl (some 45) rfl (w.heap.size + 1) 52 i1 (.slice none 0 0) 1 24 Tryz.underlying23 HJ.out HY0.out HY1.out HY2.out rfl (by decide) _ _ _ rfl h4 ⟨g, q + 1, none⟩ (n - (q + 1)) (cap - (q + 1)) (vals.drop (q + 1)) h8 (by have := HVl.out; simp; omega) (fun t y ht => by rw [add_at]; rw [List.getElem?_drop] at ht; exact keep S8 (cells_of HOw.out _ y ht)) (fun y hy => HIn.out.one y (List.mem_of_mem_drop hy)) (by unfold maxLen; omega) (by omega) (Nat.le_trans HSz.out S8.size) ?_
          intro v' w' hown hg hat
          exact hK.out v' w' ⟨hown, S8.grown hg S8.size (fun b hb => (f4 b hb).1)⟩
         case last' =>
          intro uu w8 hψ
          obtain ⟨hor, hb⟩ := hψ
          have HF := hid hor
          have HX8 := hid (keep hb hbx)
          have HB8 := hid (HBr.out.trans (hb.mono HBr.out.size))
          clear hor hb
          refine ⟨_, rfl, fun K' hK => ?_⟩
          go_simp
          refine hK.out _ _ ?_
          go_wp2_with fail
          go_roundw
          case rel => exact ⟨k + 1, _, n - 1, _, by omega, by go_num, by rw [show q + (n - (q + 1)) = n - 1 by omega] at HF; exact HF.out, HIe.out, HStep.out, HSh.out, by omega, HB8.out, HX8.out⟩
          case measure => simp [intOf]; omega
    | false =>
     have HRu := hid (rup_spec n0 va n cap zs' za zl zc zs wr HRw.out (HZr.out.below HBr.out) hn0 HSh.out.lits HZ9.out.2)
     go_wp2_with fail
     refine HRu.out.mono ?_
     rintro e w1 ⟨t, rfl, ht, hb1⟩
     have HT := hid ht
     have HB1 := hid (HBr.out.trans (hb1.mono HBr.out.size))
     have HOw1 : Hid (w1.ownsRow (w.heap.size + 1) 52 1 (.slice va n cap) n vals) := hid (own_same HOw.out (fun g hg => hb1.block g (World.ownsRow.lt HOw.out g hg).2))
     replace hbx := keep hb1 hbx
     replace HSz : Hid (w.heap.size + 1 ≤ w1.heap.size) := hid (Nat.le_trans HSz.out hb1.size)
     have HK1 := hid (Below.refl w1.heap.size w1)
     clear ht hb1 HRu
     cases t with
     | true =>
      have HOk : Hid (okR zs' zs) := hid (.inl (HT.out.1 rfl))
      clear HT
      by_cases hz0 : zl = 0
      · have d0 : ((zl : Int) == 0) = true := by simp [hz0]
        have HA : Hid (ChkR zss ss 0 (k : Int) 0) := hid (HU.out _ _ (by unfold ChkR; rw [if_neg (by decide)]; exact .inr (.inl ⟨HOk.out, List.length_eq_zero_iff.1 (by omega), rfl, rfl⟩)))
        clear hz0
        go_wp2_with fail
        go_ret2
        exact ⟨_, _, rfl, HA.out, HB1.out⟩
      · have d0 : ((zl : Int) == 0) = false := by simp; omega
        have HStep : Hid (∀ p c, ChkR (zs' ++ [zs]) (ss.drop (k + 1)) (k + 1) p c → ChkR zss ss 0 p c) := hid (fun p c h => HU.out p c (by unfold ChkR; rw [if_neg (by decide)]; exact .inr (.inr ⟨HOk.out, fun e => hz0 (by rw [← hzl, e]; rfl), h⟩)))
        have HInx := hid (HIn.out.add (c := zc) HZr.out)
        have HShx := hid (HSh.out.add HZ9.out)
        have HB0 := hid HB1.out.size
        clear hz0
        go_wp2_with (at_builtin; go_loud (refine wpList_append_own _ rfl _ _ 23 rfl (w.heap.size + 1) 52 i1 (.slice none 0 0) 1 24 Tryz.underlying23 HJ.out HY0.out HY1.out HY2.out rfl (by decide) _ _ _ rfl (World.ownsRow.alloc HOw1.out _) ⟨w1.heap.size, 0, none⟩ 1 1 [_] rfl rfl (cell_one_new _ _ _) (fun x hx => by simp at hx; subst hx; rfl) (by unfold maxLen; omega) (by omega) (by have := HSz.out; simp; omega) ?_); intro v' w3 hown' hgrow3 hnil3; have HO3 := hid hown'; go_loud (have HB3 : Hid (Below w.heap.size w w3) := hid ((HB1.out.alloc HB0.out _).grown hgrow3 (by have := HB0.out; simp; omega) (fun b hb => Nat.le_of_succ_le (World.ownsRow.lt HOw1.out b hb).1))); go_loud (have HX3 : Hid (w3.cell? ⟨w.heap.size, 0, none⟩ = some (.int .i64 ((n0 : Int) - 1))) := hid ((World.cell?_of_block (a := ⟨w.heap.size, 0, none⟩) (hgrow3.block w.heap.size (by have := HSz.out; simp; omega) (fun e => by have := (World.ownsRow.lt HOw1.out _ e.symm).1; omega))).trans (keep (show Below w1.heap.size w1 _ from (by repeat (first | exact Below.refl _ _ | assumption | refine Below.drew ?_ | refine Below.alloc ?_ (by first | exact Nat.le_refl _ | omega | (simp; done) | (simp; omega)) _ | refine Below.setCell ?_ (by first | exact Nat.le_refl _ | omega | (simp; done) | (simp; omega)) _))) hbx))); clear hown' hgrow3 hnil3 hbx)
        go_roundw
        case rel => exact ⟨k + 1, _, n + 1, _, by omega, by go_num, HO3.out, HInx.out, HStep.out, HShx.out, by omega, HB3.out, HX3.out⟩
        case measure => simp [intOf]; omega
     | false =>
      have HRa := hid (rat_spec n0 va n cap zs' za zl zc zs w1 (rows_of HOw1.out HIn.out HB1.out) (HZr.out.below HB1.out) hn0 HSh.out.lits HZ9.out.2 (by have := HZ9.out.1; omega) (fun ys hy => by have := (HSh.out ys hy).1; omega))
      go_wp2_with fail
      refine HRa.out.mono ?_
      rintro e w2 ⟨t, rfl, ht, hb2⟩
      have HT2 := hid ht
      have HB2 := hid (HB1.out.trans (hb2.mono HB1.out.size))
      have HOw2 : Hid (w2.ownsRow (w.heap.size + 1) 52 1 (.slice va n cap) n vals) := hid (own_same HOw1.out (fun g hg => hb2.block g (World.ownsRow.lt HOw1.out g hg).2))
      replace hbx := keep hb2 hbx
      replace HSz : Hid (w.heap.size + 1 ≤ w2.heap.size) := hid (Nat.le_trans HSz.out hb2.size)
      clear ht hb2 HRa HB1 HOw1 HK1
      have HB1 := HB2
      have HOw1 := HOw2
      clear HB2 HOw2
      generalize w2 = w1 at *
      cases t with
      | true =>
       have HOk : Hid (okR zs' zs) := hid (.inr (HT2.out.1 rfl))
       clear HT HT2
       by_cases hz0 : zl = 0
       · have d0 : ((zl : Int) == 0) = true := by simp [hz0]
         have HA : Hid (ChkR zss ss 0 (k : Int) 0) := hid (HU.out _ _ (by unfold ChkR; rw [if_neg (by decide)]; exact .inr (.inl ⟨HOk.out, List.length_eq_zero_iff.1 (by omega), rfl, rfl⟩)))
         clear hz0
         go_wp2_with fail
         go_ret2
         exact ⟨_, _, rfl, HA.out, HB1.out⟩
       · have d0 : ((zl : Int) == 0) = false := by simp; omega
         have HStep : Hid (∀ p c, ChkR (zs' ++ [zs]) (ss.drop (k + 1)) (k + 1) p c → ChkR zss ss 0 p c) := hid (fun p c h => HU.out p c (by unfold ChkR; rw [if_neg (by decide)]; exact .inr (.inr ⟨HOk.out, fun e => hz0 (by rw [← hzl, e]; rfl), h⟩)))
         have HInx := hid (HIn.out.add (c := zc) HZr.out)
         have HShx := hid (HSh.out.add HZ9.out)
         have HB0 := hid HB1.out.size
         clear hz0
         go_wp2_with (at_builtin; go_loud (refine wpList_append_own _ rfl _ _ 23 rfl (w.heap.size + 1) 52 i1 (.slice none 0 0) 1 24 Tryz.underlying23 HJ.out HY0.out HY1.out HY2.out rfl (by decide) _ _ _ rfl (World.ownsRow.alloc HOw1.out _) ⟨w1.heap.size, 0, none⟩ 1 1 [_] rfl rfl (cell_one_new _ _ _) (fun x hx => by simp at hx; subst hx; rfl) (by unfold maxLen; omega) (by omega) (by have := HSz.out; simp; omega) ?_); intro v' w3 hown' hgrow3 hnil3; have HO3 := hid hown'; go_loud (have HB3 : Hid (Below w.heap.size w w3) := hid ((HB1.out.alloc HB0.out _).grown hgrow3 (by have := HB0.out; simp; omega) (fun b hb => Nat.le_of_succ_le (World.ownsRow.lt HOw1.out b hb).1))); go_loud (have HX3 : Hid (w3.cell? ⟨w.heap.size, 0, none⟩ = some (.int .i64 ((n0 : Int) - 1))) := hid ((World.cell?_of_block (a := ⟨w.heap.size, 0, none⟩) (hgrow3.block w.heap.size (by have := HSz.out; simp; omega) (fun e => by have := (World.ownsRow.lt HOw1.out _ e.symm).1; omega))).trans (keep (show Below w1.heap.size w1 _ from (by repeat (first | exact Below.refl _ _ | assumption | refine Below.drew ?_ | refine Below.alloc ?_ (by first | exact Nat.le_refl _ | omega | (simp; done) | (simp; omega)) _ | refine Below.setCell ?_ (by first | exact Nat.le_refl _ | omega | (simp; done) | (simp; omega)) _))) hbx))); clear hown' hgrow3 hnil3 hbx)
         go_roundw
         case rel => exact ⟨k + 1, _, n + 1, _, by omega, by go_num, HO3.out, HInx.out, HStep.out, HShx.out, by omega, HB3.out, HX3.out⟩
         case measure => simp [intOf]; omega
      | false =>
       have HA : Hid (ChkR zss ss 0 (k : Int) 8) := hid (HU.out _ _ (by unfold ChkR; rw [if_neg (by decide)]; exact .inl ⟨fun h => by rcases h with h | h; exact absurd (HT.out.2 h) (by decide); exact absurd (HT2.out.2 h) (by decide), rfl, rfl⟩))
       go_wp2_with fail
       go_ret2
       exact ⟨_, _, rfl, HA.out, HB1.out⟩
  · obtain rfl : k = sl := by omega
    have HA : Hid (ChkR zss ss 0 (k : Int) 3) := hid (HSt.out _ _ (ChkR.end_ (by rw [HSl.out]; exact Nat.le_refl _)))
    go_wp2_with fail
    go_ret2
    exact ⟨_, _, rfl, HA.out, HBr.out⟩
end Go.Proofs.YtmkhoocokpkojaaGreatDoor.chkSpec
