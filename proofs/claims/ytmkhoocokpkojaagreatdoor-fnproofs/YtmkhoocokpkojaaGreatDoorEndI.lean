import Derived.Test.YtmkhoocokpkojaaGreatDoorWithoutI
import Derived.Test.YtmkhoocokpkojaaGreatDoorChkRat
import Derived.Test.YtmkhoocokpkojaaGreatDoorChkSpec
import Derived.Test.YtmkhoocokpkojaaGreatDoorPart36
import Derived.Test.YtmkhoocokpkojaaGreatDoorPart20
namespace Go.Proofs.YtmkhoocokpkojaaGreatDoor.endI
open Go.RowKit Go.Deep Go base copy cnf steps sets setsOf solSets solMath solOps solHold solProp solMem solClose solTrail solAddM solAddI solPropI chkNew chkMath chkRup ratMath chkRat chkSem chkSpec withoutI heldStore drawn drawnMk
set_option linter.unusedVariables false
set_option linter.unusedSimpArgs false
set_option pp.deepTerms true
set_option pp.maxSteps 10000000
theorem ls_of_sets {w : World} {a : Option Addr} {len : Nat} {zss : List (List Int)} (h : SetRow w a len zss) : LsRow w a len (zss.map setL) := ⟨by rw [List.length_map]; exact h.length, fun i hi => by
 obtain ⟨b, e, h1, h2⟩ := h.cell i hi
 have hil : i < zss.length := by rw [h.length]; exact hi
 have e2 : (zss.map setL)[i]?.getD (0, 0) = setL (zss[i]?.getD []) := by rw [List.getElem?_map, List.getElem?_eq_getElem hil]; rfl
 rw [e2]
 exact ⟨b, e, h1, h2⟩⟩
structure Own (B M mb : Nat) (F : Nat → Value) (V : Int → Value) (s : Sv) (w : World) : Prop where
 sol : Sol 0 M mb F V s w
 v0 : V 0 = nilV
 m1 : B ≤ M
 m2 : B ≤ mb
 m3 : ∀ a g, blk 0 F V a = some g → B ≤ g
theorem Own.below {B M mb : Nat} {F : Nat → Value} {V : Int → Value} {s : Sv} {w w1 : World} (h : Own B M mb F V s w) (hb : Below w.heap.size w w1) : Own B M mb F V s w1 := ⟨h.sol.below hb, h.v0, h.m1, h.m2, h.m3⟩
theorem Own.chg {B M mb : Nat} {F F' : Nat → Value} {V V' : Int → Value} {s s' : Sv} {w w1 : World} (h : Own B M mb F V s w) (hs : Sol 0 M mb F' V' s' w1) (hv : V' 0 = nilV) (hc : Chg M mb (blk 0 F V) (blk 0 F' V') w w1) (hB : B ≤ w.heap.size) : Own B M mb F' V' s' w1 ∧ Below B w w1 :=
 ⟨⟨hs, hv, h.m1, h.m2, fun a g hg => (hc.news a g hg).elim (h.m3 a g) (fun h1 => Nat.le_trans hB h1)⟩, hc.toBelow hB h.m1 h.m2 h.m3⟩
def Far (b M mb : Nat) (F : Nat → Value) (V : Int → Value) : Prop := b ≠ M ∧ b ≠ mb ∧ ∀ a, blk 0 F V a ≠ some b
theorem far_new {M mb : Nat} {F : Nat → Value} {V : Int → Value} {s : Sv} {w : World} (h : Sol 0 M mb F V s w) {b : Nat} (hb : w.heap.size ≤ b) : Far b M mb F V :=
 ⟨by have := h.lt; omega, by have := h.lt; omega, fun a e => by have := h.blt e; omega⟩
theorem far_chg {b M mb : Nat} {F F' : Nat → Value} {V V' : Int → Value} {w w1 : World} (hb : b < w.heap.size) (h : Far b M mb F V) (hc : Chg M mb (blk 0 F V) (blk 0 F' V') w w1) : Far b M mb F' V' ∧ w1.heap[b]? = w.heap[b]? :=
 ⟨⟨h.1, h.2.1, fun a e => (hc.news a b e).elim (h.2.2 a) (fun h1 => by omega)⟩, hc.block b hb h.1 h.2.1 h.2.2⟩
theorem chk_map {zss : List (List Int)} {zs : List Int} : (zss ++ [zs]).map setL = zss.map setL ++ [setL zs] := by simp
theorem wf_all {n : Nat} (hn : n ≤ 41) {zss : List (List Int)} (h : ShortIn n zss) : ∀ c ∈ zss.map setL, Wf c := fun c hc => by
 obtain ⟨ys, h1, rfl⟩ := List.mem_map.1 hc
 exact wf_set (fun z hz => by have := (h ys h1).2 z hz; omega)
theorem erase_map {zss : List (List Int)} {k : Nat} : (zss.eraseIdx k).map setL = (zss.map setL).eraseIdx k := by apply List.ext_getElem?; intro i; rw [List.getElem?_map, List.getElem?_eraseIdx, List.getElem?_eraseIdx]; split <;> rw [List.getElem?_map]
set_option maxHeartbeats 6400000 in
set_option maxRecDepth 8000 in
theorem end_impl (n0 : Nat) (a : Option Addr) (len cap : Nat) (zss : List (List Int)) (b : Option Addr) (sl sc : Nat) (ss : List St) (w : World) (hr : IntRows w a len zss) (hs : StepRow w b sl ss) (hn0 : 1 ≤ n0 ∧ n0 ≤ 41) (hl : ShortIn n0 zss) (hll : len ≤ 300) (hsl : sl ≤ 200) (hz : ShortIn n0 (ss.map Prod.snd)) (ht : Tab w) :
  Calls Tryz.prog 23 #[.agg #[.int .i64 ((n0 : Int) - 1), .slice a len cap], .slice b sl sc] w fun e w' => ∃ p c : Int, ChkR zss ss 0 p c ∧ ((c = 0 ∧ e = .returned (.int .i64 p)) ∨ (c ≠ 0 ∧ e = .panicked [{ v := faultW c p, recovered := false }])) ∧ Below w.heap.size w w' := by
 have HSl := hid hs.length
 have HS := hid hs
 have HZ := hid hz
 have HL := hid hl
 have HLn := hid hr.length
 have HSs := hid (fun W (hW : Below w.heap.size w W) => setsOf_impl a len cap zss W (hr.below hW) (by omega) (fun i hi z hz => by
  have hi' : i < zss.length := by rw [hr.length]; exact hi
  rw [List.getElem?_eq_getElem hi'] at hz
  have := (hl _ (List.getElem_mem hi')).2 z hz
  omega))
 have HTb := hid ht
 have HN := hid hn0
 have hsm := hs.most
 unfold maxLen at hsm
 clear hr hs hl hz ht hn0
 obtain ⟨W1, hW1⟩ : ∃ W1, w.alloc (.cells #[.int .i64 ((n0 : Int) - 1), .slice a len cap] 25) = W1 := ⟨_, rfl⟩
 have HW1 := hid hW1
 have HB1 : Hid (Below w.heap.size w W1) := hid (by rw [← hW1]; exact (by repeat (first | exact Below.refl _ _ | assumption | refine Below.drew ?_ | refine Below.alloc ?_ (by first | exact Nat.le_refl _ | omega | (simp; done) | (simp; omega)) _ | refine Below.setCell ?_ (by first | exact Nat.le_refl _ | omega | (simp; done) | (simp; omega)) _)))
 have HBox : Hid (∀ w8, Below W1.heap.size W1 w8 → w8.cell? ⟨w.heap.size, 0, none⟩ = some (.int .i64 ((n0 : Int) - 1)) ∧ w8.cell? ⟨w.heap.size, 1, none⟩ = some (.slice a len cap)) := hid (fun w8 hb => by rw [← hW1] at hb; exact ⟨keep hb (by simp [go_sem]), keep hb (by simp [go_sem])⟩)
 clear hW1
 go_enter Tryz.func23, Tryz.ntmps23
 go_wp2_with fail
 rw [HW1.out]
 refine region_calm (fun uu => ⟨#[.agg #[.int .i64 ((n0 : Int) - 1), .slice a len cap], .slice b sl sc, .pointer (some ⟨w.heap.size, 0, none⟩), undef, .int .i64 0, uu 5, undef, undef, undef, uu 9, uu 10, uu 11, uu 12, uu 13, uu 14, undef, undef, undef, undef, undef, undef, undef, undef, undef, undef, undef, undef, undef, undef, undef, undef, undef, undef, undef, undef, undef, undef, undef, undef, undef, undef, undef, undef, undef, undef, undef, undef, undef, undef, undef, undef, undef, undef, undef, undef, undef, undef, undef, undef, undef], []⟩) (fun i => [9, 10, 11, 12, 13, 14, 5].getD i 0) (fun i v w8 => match i with | 0 => v = .pointer (some ⟨w.heap.size, 0, none⟩) | 1 => v = .int .i64 ((n0 : Int) - 1) | 2 => v = .pointer (some ⟨w.heap.size, 1, none⟩) | 3 => v = .slice a len cap | 4 => ∃ sa sc, v = .slice sa zss.length sc ∧ LsRow w8 sa zss.length (zss.map setL) | 5 => ∃ (M mb : Nat) (F : Nat → Value) (V : Int → Value), v = .pointer (some ⟨M, 0, none⟩) ∧ Own w.heap.size M mb F V (chkS ((n0 : Int) - 1) (zss.map setL)) w8 | 6 => ∃ (M mb : Nat) (F : Nat → Value) (V : Int → Value), v = .pointer (some ⟨M, 0, none⟩) ∧ Own w.heap.size M mb F V (chkS ((n0 : Int) - 1) (zss.map setL)) w8 | _ => True) W1 7 (fun k => match k with | 9 => undef | 10 => undef | 11 => undef | 12 => undef | 13 => undef | 14 => undef | 5 => undef | _ => undef) (by rfl) (by kernel_rfl) (by rfl) (by kernel_rfl) (Below.refl _ _) ?hput ?hinj ?stable ?step ?fin
 case hput =>
  intro i hi uu v
  match i, hi with
  | 0, _ => rfl
  | 1, _ => rfl
  | 2, _ => rfl
  | 3, _ => rfl
  | 4, _ => rfl
  | 5, _ => rfl
  | 6, _ => rfl
  | i + 7, hi => exact absurd hi (by omega)
 case hinj =>
  intro i j hi hj h
  exact slots_inj [9, 10, 11, 12, 13, 14, 5] (by decide) hi hj h
 case stable =>
  intro i v w8 w9 hb h
  match i, hb, h with
  | 0, hb, h => exact h
  | 1, hb, h => exact h
  | 2, hb, h => exact h
  | 3, hb, h => exact h
  | 4, hb, h => obtain ⟨sa, sc, e, hr⟩ := h; exact ⟨sa, sc, e, hr.below hb⟩
  | 5, hb, h => obtain ⟨M, mb, F, V, e, q1⟩ := h; exact ⟨M, mb, F, V, e, q1.below hb⟩
  | 6, hb, h => obtain ⟨M, mb, F, V, e, q1⟩ := h; exact ⟨M, mb, F, V, e, q1.below hb⟩
  | _ + 7, hb, h => trivial
 case step =>
  intro i hi uu w8 S8 hdep
  match i, hi, hdep with
  | 0, _, hdep =>
   clear hdep
   refine ⟨_, rfl, fun K' hK => ?_⟩
   go_simp
   exact hK.out _ _ (Below.refl _ _) rfl
  | 1, _, hdep =>
   have h0 : (uu 9) = .pointer (some ⟨w.heap.size, 0, none⟩) := hdep 0 (by kernel_rfl)
   clear hdep
   refine ⟨_, rfl, fun K' hK => ?_⟩
   obtain ⟨y0, y1⟩ := HBox.out w8 S8
   simp only [h0] at hK ⊢
   go_simp
   exact hK.out _ _ (Below.refl _ _) rfl
  | 2, _, hdep =>
   clear hdep
   refine ⟨_, rfl, fun K' hK => ?_⟩
   go_simp
   exact hK.out _ _ (Below.refl _ _) rfl
  | 3, _, hdep =>
   have h2 : (uu 11) = .pointer (some ⟨w.heap.size, 1, none⟩) := hdep 2 (by kernel_rfl)
   clear hdep
   refine ⟨_, rfl, fun K' hK => ?_⟩
   obtain ⟨y0, y1⟩ := HBox.out w8 S8
   simp only [h2] at hK ⊢
   go_simp
   exact hK.out _ _ (Below.refl _ _) rfl
  | 4, _, hdep =>
   have h3 : (uu 12) = .slice a len cap := hdep 3 (by kernel_rfl)
   clear hdep
   refine ⟨_, rfl, fun K' hK => ?_⟩
   simp only [h3] at hK ⊢
   go_simp
   refine (HSs.out _ (HB1.out.trans (S8.mono HB1.out.size))).mono ?_
   rintro e w9 ⟨v9, rfl, ho9, hb9⟩
   obtain ⟨sa, sc, rfl, hrow⟩ := ho9.form
   exact hK.out _ _ hb9 ⟨sa, sc, rfl, ls_of_sets hrow⟩
  | 5, _, hdep =>
   have h1 : (uu 10) = .int .i64 ((n0 : Int) - 1) := hdep 1 (by kernel_rfl)
   have h4 : ∃ sa sc, (uu 13) = .slice sa zss.length sc ∧ LsRow w8 sa zss.length (zss.map setL) := hdep 4 (by kernel_rfl)
   clear hdep
   refine ⟨_, rfl, fun K' hK => ?_⟩
   obtain ⟨sa, sc, e4, hrow⟩ := h4
   simp only [h1, e4] at hK ⊢
   go_simp
   refine (chk_impl ((n0 : Int) - 1) sa zss.length sc (zss.map setL) _ hrow (by have := HLn.out; omega) (wf_all HN.out.2 HL.out) (tab_below HTb.out (HB1.out.trans (S8.mono HB1.out.size)))).mono ?_
   rintro e w9 ⟨M, mb, F, V, rfl, q1, qv, hb9, m1, m2, m3⟩
   have hz9 := Nat.le_trans HB1.out.size S8.size
   exact hK.out _ _ hb9 ⟨M, mb, F, V, rfl, q1, qv, Nat.le_trans hz9 m1, Nat.le_trans hz9 m2, fun a g hg => Nat.le_trans hz9 (m3 a g hg)⟩
  | 6, _, hdep =>
   have h5 : ∃ (M mb : Nat) (F : Nat → Value) (V : Int → Value), (uu 14) = .pointer (some ⟨M, 0, none⟩) ∧ Own w.heap.size M mb F V (chkS ((n0 : Int) - 1) (zss.map setL)) w8 := hdep 5 (by kernel_rfl)
   clear hdep
   refine ⟨_, rfl, fun K' hK => ?_⟩
   obtain ⟨M, mb, F, V, e5, q1⟩ := h5
   simp only [e5] at hK ⊢
   go_simp
   exact hK.out _ _ (Below.refl _ _) ⟨M, mb, F, V, rfl, q1⟩
  | i + 7, hi, _ => exact absurd hi (by omega)
 case fin =>
  intro uu w2 S8 hall
  have h6 : ∃ (M mb : Nat) (F : Nat → Value) (V : Int → Value), (uu 5) = .pointer (some ⟨M, 0, none⟩) ∧ Own w.heap.size M mb F V (chkS ((n0 : Int) - 1) (zss.map setL)) w2 := hall 6 (by decide)
  clear hall
  obtain ⟨M, mb, F, V, e6, hown⟩ := h6
  rw [e6]
  have HOw := hid hown
  have HB2 := hid (HB1.out.trans (S8.mono HB1.out.size))
  have HCk := hid (chk_start (n := ((n0 : Int) - 1)) (wf_all HN.out.2 HL.out))
  clear S8 e6 hown
  go_wp2_with fail
  go_loopw [17, 5] (fun i v wr => ∃ (k M mb : Nat) (F : Nat → Value) (V : Int → Value) (sv : Sv) (zs' : List (List Int)), k ≤ sl ∧ i = .int .i64 k ∧ v = .pointer (some ⟨M, 0, none⟩) ∧ Own w.heap.size M mb F V sv wr ∧ Chk (zs'.map setL) sv ∧ sv.n = ((n0 : Int) - 1) ∧ (∀ p c, ChkR zs' (ss.drop k) k p c → ChkR zss ss 0 p c) ∧ ShortIn n0 zs' ∧ zs'.length ≤ len + k ∧ Below w.heap.size w wr) (fun i _ _ => sl - (intOf i).toNat)
  case atStart => exact ⟨0, M, mb, F, V, _, zss, Nat.zero_le _, rfl, rfl, HOw.out, HCk.out.1, HCk.out.2, fun p c h => h, HL.out, by have := HLn.out; omega, HB2.out⟩
  case round =>
   obtain ⟨k, M, mb, F, V, sv, zs', hk, rfl, rfl, ho, hck, hsn, hstep, hsh, hnk, hbr⟩ := hrel
   have HOw := hid ho
   have HCk := hid hck
   have HSn := hid hsn
   have HSt := hid hstep
   have HSh := hid hsh
   have HBr := hid hbr
   clear ho hck hsn hstep hsh hbr HB2
   by_cases hlt : k < sl
   · obtain ⟨b1, o1, rfl, hd, za, zl, zc, hzc, hzr⟩ := HS.out.cell k hlt
     have hkl : k < ss.length := by rw [HSl.out]; exact hlt
     have HDr : Hid (ss.drop k = ss[k]?.getD (false, []) :: ss.drop (k + 1)) := hid (drop_cons hkl)
     have hzm : (ss[k]?.getD (false, [])).2 ∈ ss.map Prod.snd := by rw [List.getElem?_eq_getElem hkl]; exact List.mem_map.2 ⟨_, List.getElem_mem hkl, rfl⟩
     have hz9 := HZ.out _ hzm
     generalize ss[k]?.getD (false, []) = st at *
     obtain ⟨dl, zs⟩ := st
     dsimp only at hd hzr hz9
     have HZ9 := hid hz9
     have HZr := hid hzr
     have hd' := keep HBr.out hd
     have hzc' := keep HBr.out hzc
     have hzl := hzr.length
     have hkI : (k : Int) < (sl : Int) := by omega
     have HU : Hid (∀ p c, ChkR zs' ((dl, zs) :: ss.drop (k + 1)) k p c → ChkR zss ss 0 p c) := hid (fun p c h => HSt.out p c (by rw [HDr.out]; exact h))
     have HSe := hid (fun W (hW : Below w.heap.size w W) => setOf_impl za zl zc zs W (HZr.out.below hW) (fun z hm => by have h1 := HZ9.out.2 z hm; have h2 := HN.out; omega))
     have HWz : Hid (Wf (setL zs)) := hid (wf_set (fun z hm => by have h1 := HZ9.out.2 z hm; have h2 := HN.out; omega))
     obtain ⟨P, hP⟩ : ∃ q, pSet zs = q := ⟨_, rfl⟩
     obtain ⟨O, hO⟩ : ∃ q, oSet zs = q := ⟨_, rfl⟩
     rw [hP, hO] at HSe
     have HSz : Hid (setL zs = (P, O)) := hid (by rw [← hP, ← hO]; rfl)
     clear hd hzc hzr hz9 hzm hkl HSt HDr hP hO
     go_wp2_with fail
     refine (HSe.out _ (HBr.out.alloc HBr.out.size _)).mono ?_
     rintro e w3 ⟨rfl, hb3⟩
     have hbA : Below wr.heap.size wr (wr.alloc (.cells #[.bool dl, .slice za zl zc] 79)) := (by repeat (first | exact Below.refl _ _ | assumption | refine Below.drew ?_ | refine Below.alloc ?_ (by first | exact Nat.le_refl _ | omega | (simp; done) | (simp; omega)) _ | refine Below.setCell ?_ (by first | exact Nat.le_refl _ | omega | (simp; done) | (simp; omega)) _))
     have HBA := hid (hbA.trans (hb3.mono hbA.size))
     have hsA : wr.heap.size < w3.heap.size := by have := hb3.size; simp at this; omega
     have HStA : Hid (w3.heap[wr.heap.size]? = some (.cells #[.bool dl, .slice za zl zc] 79 (0, 0))) := hid ((hb3.block _ (by simp)).trans (World.alloc_heap_new wr _))
     have k0 : w3.cell? ⟨wr.heap.size, 0, none⟩ = some (.bool dl) := by simp [World.cell?, HStA.out]
     have k1 : w3.cell? ⟨wr.heap.size, 1, none⟩ = some (.slice za zl zc) := by simp [World.cell?, HStA.out]
     clear hb3 hbA HSe hd' hzc'
     have hb4 : Below w3.heap.size w3 (w3.alloc (.cells #[.int .u64 (P : Int), .int .u64 (O : Int)] 68)) := (by repeat (first | exact Below.refl _ _ | assumption | refine Below.drew ?_ | refine Below.alloc ?_ (by first | exact Nat.le_refl _ | omega | (simp; done) | (simp; omega)) _ | refine Below.setCell ?_ (by first | exact Nat.le_refl _ | omega | (simp; done) | (simp; omega)) _))
     have HBA4 := hid (HBA.out.trans (hb4.mono HBA.out.size))
     have HB4 := hid (HBr.out.trans (HBA4.out.mono HBr.out.size))
     have HOw4 := hid (HOw.out.below HBA4.out)
     obtain ⟨W4, hW4⟩ : ∃ W4, w3.alloc (.cells #[.int .u64 (P : Int), .int .u64 (O : Int)] 68) = W4 := ⟨_, rfl⟩
     have HW4 := hid hW4
     have hs4 : W4.heap.size = w3.heap.size + 1 := by rw [← hW4]; simp
     have HSt4 : Hid (W4.heap[wr.heap.size]? = some (.cells #[.bool dl, .slice za zl zc] 79 (0, 0))) := hid (by rw [← hW4]; exact (hb4.block _ hsA).trans HStA.out)
     have HSv4 : Hid (W4.heap[w3.heap.size]? = some (.cells #[.int .u64 (P : Int), .int .u64 (O : Int)] 68 (0, 0))) := hid (by rw [← hW4]; exact World.alloc_heap_new w3 _)
     rw [hW4] at HBA4 HB4 HOw4
     have hcl : sv.C.length = zs'.length := by rw [HCk.out.C, List.length_map]
     clear hW4 hb4
     cases dl with
     | true =>
      have HWi := hid (without_impl M mb F V sv W4 HOw4.out.sol (by omega) (by rw [HCk.out.C]; exact wf_all HN.out.2 HSh.out) P O (k : Int))
      rw [HCk.out.C, HSn.out, ← HSz.out] at HWi
      go_wp2_with fail
      rw [HW4.out]
      refine HWi.out.mono ?_
      rintro e w5 (⟨hno, rfl, hb5⟩ | ⟨q, M2, mb2, F2, V2, hf, rfl, y1, y2, y3, y4, y5, y6⟩)
      · have HA : Hid (ChkR zss ss 0 (k : Int) 6) := hid (HU.out _ _ (by unfold ChkR; rw [if_pos rfl]; exact .inl ⟨hno, rfl, rfl⟩))
        have HB5 := hid (HB4.out.trans (hb5.mono HB4.out.size))
        clear hno hb5
        go_wp2
        exact ⟨rfl, _, _, HA.out, .inr ⟨by decide, rfl⟩, HB5.out⟩
      · have HStep : Hid (∀ p c, ChkR (zs'.eraseIdx q) (ss.drop (k + 1)) (k + 1) p c → ChkR zss ss 0 p c) := hid (fun p c h => HU.out p c (by unfold ChkR; rw [if_pos rfl]; exact .inr ⟨q, hf, h⟩))
        have hz4 := HB4.out.size
        have HO5 : Hid (Own w.heap.size M2 mb2 F2 V2 (chkS ((n0 : Int) - 1) ((zs'.eraseIdx q).map setL)) w5) := hid ⟨by rw [erase_map]; exact y1, y2, by omega, by omega, fun a g hg => by have := y5 a g hg; omega⟩
        have HB5 : Hid (Below w.heap.size w w5) := hid (HB4.out.grown y6 hz4 (fun g hg => HOw4.out.m3 1001 g (by rw [blk_ne (by omega)]; exact hg)))
        have HC5 := hid (chk_start (n := ((n0 : Int) - 1)) (wf_all HN.out.2 (HSh.out.erase q)))
        have HL5 : Hid ((zs'.eraseIdx q).length ≤ len + (k + 1)) := hid (by rw [List.length_eraseIdx]; split <;> omega)
        clear hf y1 y2 y3 y4 y5 y6
        go_wp2_with fail
        go_roundw
        case rel => exact ⟨k + 1, M2, mb2, F2, V2, _, zs'.eraseIdx q, by omega, by go_num, rfl, HO5.out, HC5.out.1, HC5.out.2, HStep.out, HSh.out.erase q, HL5.out, HB5.out⟩
        case measure => simp [intOf]; omega
     | false =>
      obtain ⟨⟨s1, t⟩, hst⟩ : ∃ q, rupS sv (P, O) = q := ⟨_, rfl⟩
      have HRu := hid (isRup_impl M mb F V (zs'.map setL) sv W4 HOw4.out.sol HOw4.out.v0 HCk.out (by rw [List.length_map]; omega) P O (by rw [← HSz.out]; exact HWz.out))
      have hrs := rup_spec HCk.out (show Wf (P, O) by rw [← HSz.out]; exact HWz.out)
      rw [hst] at HRu hrs
      dsimp only at HRu hrs
      have HRs := hid hrs
      clear hst hrs
      go_wp2_with fail
      rw [HW4.out]
      refine HRu.out.mono ?_
      rintro e w5 ⟨rfl, F1, V1, x1, x2, x3, -⟩
      obtain ⟨hO5, hB5⟩ := HOw4.out.chg x1 x2 x3 HB4.out.size
      have HO5 := hid hO5
      have HB5 := hid (HB4.out.trans hB5)
      obtain ⟨f1, f2⟩ := far_chg (b := wr.heap.size) (by omega) (far_new HOw.out.sol (Nat.le_refl _)) x3
      obtain ⟨f3, f4⟩ := far_chg (b := w3.heap.size) (by omega) (far_new HOw.out.sol (by omega)) x3
      have HFa := hid f1
      have HFs := hid f3
      have HSt5 := hid (f2.trans HSt4.out)
      have HSv5 := hid (f4.trans HSv4.out)
      have HCk1 := hid HRs.out.1
      have HSn1 := hid (HRs.out.2.2.trans HSn.out)
      have hz5 : W4.heap.size ≤ w5.heap.size := x3.size
      have k2 : w5.cell? ⟨wr.heap.size, 1, none⟩ = some (.slice za zl zc) := by simp [World.cell?, HSt5.out]
      have k3 : w5.cell? ⟨w3.heap.size, 0, none⟩ = some (.int .u64 (P : Int)) := by simp [World.cell?, HSv5.out]
      have k4 : w5.cell? ⟨w3.heap.size, 1, none⟩ = some (.int .u64 (O : Int)) := by simp [World.cell?, HSv5.out]
      clear x1 x2 x3 hO5 hB5 f1 f2 f3 f4 HRu HOw4 k0 k1
      cases t with
      | true =>
       have HOk : Hid (okR zs' zs) := hid (.inl (by rw [HSz.out]; exact HRs.out.2.1.1 rfl))
       clear HRs
       by_cases hz0 : zl = 0
       · have d0 : ((zl : Int) == 0) = true := by simp [hz0]
         have HA : Hid (ChkR zss ss 0 (k : Int) 0) := hid (HU.out _ _ (by unfold ChkR; rw [if_neg (by decide)]; exact .inr (.inl ⟨HOk.out, List.length_eq_zero_iff.1 (by omega), rfl, rfl⟩)))
         clear hz0
         go_wp2_with fail
         go_ret
         exact ⟨_, _, HA.out, .inl ⟨rfl, rfl⟩, HB5.out⟩
       · have d0 : ((zl : Int) == 0) = false := by simp; omega
         have HStep : Hid (∀ p c, ChkR (zs' ++ [zs]) (ss.drop (k + 1)) (k + 1) p c → ChkR zss ss 0 p c) := hid (fun p c h => HU.out p c (by unfold ChkR; rw [if_neg (by decide)]; exact .inr (.inr ⟨HOk.out, fun e => hz0 (by rw [← hzl, e]; rfl), h⟩)))
         have HShx := hid (HSh.out.add HZ9.out)
         have hwP : Wf (P, O) := by rw [← HSz.out]; exact HWz.out
         have HTin := hid (tin_of HCk1.out.stk)
         have HTr := hid (fresh_range s1.T (0, 0) HCk1.out.stk.tr.fresh)
         have HTl := hid (fresh_most HCk1.out.stk.tr.fresh)
         have hcl1 : s1.C.length = zs'.length := by rw [HCk1.out.C, List.length_map]
         have HAd := hid (addT_impl M mb F1 V1 s1 w5 HO5.out.sol HO5.out.v0 P O hwP HCk1.out.full.ok ⟨HTin.out, HTr.out, by have := HTl.out; omega⟩ (by omega))
         have HFu := hid (add_fullT HCk1.out.full hwP HTin.out)
         have HSa := hid (addT_same s1 (P, O))
         have HCn := hid (chk_add HCk1.out hwP)
         clear hz0 hwP
         go_wp2_with fail
         refine HAd.out.mono ?_
         rintro e w7 ⟨rfl, F3, V3, x1, x2, x3⟩
         obtain ⟨hO7, hB7⟩ := HO5.out.chg x1 x2 x3 HB5.out.size
         have HO7 := hid hO7
         have HB7 := hid (HB5.out.trans hB7)
         clear x1 x2 x3 hO7 hB7
         have HPr := hid (propagate_impl M mb F3 V3 (addT s1 (P, O)) w7 HO7.out.sol HO7.out.v0 HFu.out (by rw [HSa.out.1, List.length_append]; simp; omega) (by rw [HSa.out.2.2.2.1]; have := HTl.out; have := free_most (addT s1 (P, O)).H; omega))
         go_wp2_with fail
         refine HPr.out.mono ?_
         rintro e w8 ⟨rfl, F4, V4, x1, x2, x3, -⟩
         obtain ⟨hO8, hB8⟩ := HO7.out.chg x1 x2 x3 HB7.out.size
         have HO8 := hid hO8
         have HB8 := hid (HB7.out.trans hB8)
         clear x1 x2 x3 hO8 hB8
         go_wp2_with fail
         go_roundw
         case rel => exact ⟨k + 1, M, mb, F4, V4, _, zs' ++ [zs], by omega, by go_num, rfl, HO8.out, by rw [chk_map, HSz.out]; exact HCn.out.1, HCn.out.2.trans HSn1.out, HStep.out, HShx.out, by simp; omega, HB8.out⟩
         case measure => simp [intOf]; omega
      | false =>
       have HNo : Hid (¬ rupP (zs'.map setL) (setL zs)) := hid (fun h => by rw [HSz.out] at h; have := HRs.out.2.1.2 h; cases this)
       have HRa := hid (isRat_impl M mb F1 V1 (zs'.map setL) s1 w5 HO5.out.sol HO5.out.v0 HCk1.out (wf_all HN.out.2 HSh.out) (by rw [List.length_map]; omega) za zl zc zs (HZr.out.below HB5.out) (fun z hm => by have h1 := HZ9.out.2 z hm; have h2 := HN.out; omega))
       clear HRs
       go_wp2_with fail
       refine HRa.out.mono ?_
       rintro e w6 ⟨t, s2, F2, V2, rfl, ht, x0, xn, x1, x2, x3, -⟩
       obtain ⟨hO6, hB6⟩ := HO5.out.chg x1 x2 x3 HB5.out.size
       have HT := hid ht
       obtain ⟨f1, f2⟩ := far_chg (b := wr.heap.size) (by omega) HFa.out x3
       obtain ⟨f3, f4⟩ := far_chg (b := w3.heap.size) (by omega) HFs.out x3
       have HO6 := hid hO6
       have HB6 := hid (HB5.out.trans hB6)
       have HSt6 := hid (f2.trans HSt5.out)
       have HSv6 := hid (f4.trans HSv5.out)
       have HCk2 := hid x0
       have HSn2 := hid (xn.trans HSn1.out)
       clear ht x0 xn x1 x2 x3 hO6 hB6 f1 f2 f3 f4 HRa HO5 HB5 HSt5 HSv5 HCk1 HSn1 HFa HFs k2 k3 k4
       have HO5 := HO6
       have HB5 := HB6
       have HSt5 := HSt6
       have HSv5 := HSv6
       have HCk1 := HCk2
       have HSn1 := HSn2
       clear HO6 HB6 HSt6 HSv6 HCk2 HSn2 hz5
       generalize w6 = w5 at *
       generalize s2 = s1 at *
       generalize F2 = F1 at *
       generalize V2 = V1 at *
       have k2 : w5.cell? ⟨wr.heap.size, 1, none⟩ = some (.slice za zl zc) := by simp [World.cell?, HSt5.out]
       have k3 : w5.cell? ⟨w3.heap.size, 0, none⟩ = some (.int .u64 (P : Int)) := by simp [World.cell?, HSv5.out]
       have k4 : w5.cell? ⟨w3.heap.size, 1, none⟩ = some (.int .u64 (O : Int)) := by simp [World.cell?, HSv5.out]
       cases t with
       | true =>
        have HOk : Hid (okR zs' zs) := hid (.inr (HT.out.1 rfl))
        clear HT
        by_cases hz0 : zl = 0
        · have d0 : ((zl : Int) == 0) = true := by simp [hz0]
          have HA : Hid (ChkR zss ss 0 (k : Int) 0) := hid (HU.out _ _ (by unfold ChkR; rw [if_neg (by decide)]; exact .inr (.inl ⟨HOk.out, List.length_eq_zero_iff.1 (by omega), rfl, rfl⟩)))
          clear hz0
          go_wp2_with fail
          go_ret
          exact ⟨_, _, HA.out, .inl ⟨rfl, rfl⟩, HB5.out⟩
        · have d0 : ((zl : Int) == 0) = false := by simp; omega
          have HStep : Hid (∀ p c, ChkR (zs' ++ [zs]) (ss.drop (k + 1)) (k + 1) p c → ChkR zss ss 0 p c) := hid (fun p c h => HU.out p c (by unfold ChkR; rw [if_neg (by decide)]; exact .inr (.inr ⟨HOk.out, fun e => hz0 (by rw [← hzl, e]; rfl), h⟩)))
          have HShx := hid (HSh.out.add HZ9.out)
          have hwP : Wf (P, O) := by rw [← HSz.out]; exact HWz.out
          have HTin := hid (tin_of HCk1.out.stk)
          have HTr := hid (fresh_range s1.T (0, 0) HCk1.out.stk.tr.fresh)
          have HTl := hid (fresh_most HCk1.out.stk.tr.fresh)
          have hcl1 : s1.C.length = zs'.length := by rw [HCk1.out.C, List.length_map]
          have HAd := hid (addT_impl M mb F1 V1 s1 w5 HO5.out.sol HO5.out.v0 P O hwP HCk1.out.full.ok ⟨HTin.out, HTr.out, by have := HTl.out; omega⟩ (by omega))
          have HFu := hid (add_fullT HCk1.out.full hwP HTin.out)
          have HSa := hid (addT_same s1 (P, O))
          have HCn := hid (chk_add HCk1.out hwP)
          clear hz0 hwP
          go_wp2_with fail
          refine HAd.out.mono ?_
          rintro e w7 ⟨rfl, F3, V3, x1, x2, x3⟩
          obtain ⟨hO7, hB7⟩ := HO5.out.chg x1 x2 x3 HB5.out.size
          have HO7 := hid hO7
          have HB7 := hid (HB5.out.trans hB7)
          clear x1 x2 x3 hO7 hB7
          have HPr := hid (propagate_impl M mb F3 V3 (addT s1 (P, O)) w7 HO7.out.sol HO7.out.v0 HFu.out (by rw [HSa.out.1, List.length_append]; simp; omega) (by rw [HSa.out.2.2.2.1]; have := HTl.out; have := free_most (addT s1 (P, O)).H; omega))
          go_wp2_with fail
          refine HPr.out.mono ?_
          rintro e w8 ⟨rfl, F4, V4, x1, x2, x3, -⟩
          obtain ⟨hO8, hB8⟩ := HO7.out.chg x1 x2 x3 HB7.out.size
          have HO8 := hid hO8
          have HB8 := hid (HB7.out.trans hB8)
          clear x1 x2 x3 hO8 hB8
          go_wp2_with fail
          go_roundw
          case rel => exact ⟨k + 1, M, mb, F4, V4, _, zs' ++ [zs], by omega, by go_num, rfl, HO8.out, by rw [chk_map, HSz.out]; exact HCn.out.1, HCn.out.2.trans HSn1.out, HStep.out, HShx.out, by simp; omega, HB8.out⟩
          case measure => simp [intOf]; omega
       | false =>
        have HA : Hid (ChkR zss ss 0 (k : Int) 8) := hid (HU.out _ _ (by unfold ChkR; rw [if_neg (by decide)]; exact .inl ⟨fun h => h.elim HNo.out (fun h2 => by have := HT.out.2 h2; cases this), rfl, rfl⟩))
        clear HT
        go_wp2_with fail
        exact ⟨rfl, _, _, HA.out, .inr ⟨by decide, rfl⟩, HB5.out⟩
   · obtain rfl : k = sl := by omega
     have HA : Hid (ChkR zss ss 0 (k : Int) 3) := hid (HSt.out _ _ (ChkR.end_ (by rw [HSl.out]; exact Nat.le_refl _)))
     go_wp2_with fail
     exact ⟨rfl, _, _, HA.out, .inr ⟨by decide, rfl⟩, HBr.out⟩
end Go.Proofs.YtmkhoocokpkojaaGreatDoor.endI
