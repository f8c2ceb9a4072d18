import Derived.Test.YtaioffpkadmmhaaGreatNetDraw
import Derived.Test.YtaioffpkadmmhaaGreatSourceI
import Derived.Test.YtaioffpkadmmhaaGreatPart5
import Derived.Test.YtaioffpkadmmhaaGreatPart2
import Derived.Maps.AppendAt
import Derived.Deep.RegionHeld3
namespace Go.Proofs.YtaioffpkadmmhaaGreat.netOf
open Go.RowKit Go.Deep Go base names netSem intsOwn source netMath netDraw
set_option linter.unusedVariables false
theorem fro_of {w w' : World} {b x : Nat} (h : w'.heap[b]? = w.heap[b]?) : w'.frozen? ⟨b, x, none⟩ = w.frozen? ⟨b, x, none⟩ := by simp [World.frozen?, h]
theorem cel_of {w w' : World} {b x : Nat} {v : Value} (h : w'.heap[b]? = w.heap[b]?) (hc : w.cell? ⟨b, x, none⟩ = some v) : w'.cell? ⟨b, x, none⟩ = some v := (World.cell?_of_block (a := ⟨b, x, none⟩) h).trans hc
set_option maxHeartbeats 1600000 in
set_option maxRecDepth 8000 in
theorem netOf_spec (a : Option Addr) (len cap : Nat) (w : World) (hb : Bytes w a len) (hl : len ≤ 1048576) :
  Calls Tryz.prog 4 #[.slice a len cap] w fun e' w' => ∃ (p : Nat → Option Addr) (l c : Nat → Nat) (g : R) (o e : List Int) (x f : R), e' = .returned (netV p l c) ∧ NetIs w' p l sN g o e x f ∧ netB l sN g o e x f = true ∧ (l 0 ≤ c 0 ∧ l 1 ≤ c 1) ∧ Below w.heap.size w w' := by
 have HB := hid hb
 clear hb
 go_enter Tryz.func4, Tryz.ntmps4
 go_wp2_with fail
 have HA : Hid (Below w.heap.size w (w.alloc (.cells #[.slice none 0 0, .slice none 0 0, .slice none 0 0, .slice none 0 0, .slice none 0 0, .slice none 0 0] 29))) := (by repeat (first | exact Below.refl _ _ | assumption | refine Below.drew ?_ | refine Below.alloc ?_ (by first | exact Nat.le_refl _ | omega | (simp; done) | (simp; omega)) _ | refine Below.setCell ?_ (by first | exact Nat.le_refl _ | omega | (simp; done) | (simp; omega)) _))
 refine (source_spec a len cap _ (fun i hi => by
  obtain ⟨bb, off, e, x, hx, hc⟩ := HB.out i hi
  exact ⟨bb, off, e, x, hx, keep HA.out hc⟩) hl).mono ?_
 rintro e' w1 ⟨b, rfl, hbe, hb1, hs, hbel⟩
 have hbb : w.heap.size < b := by rw [hbe]; simp
 have HS := hid hs
 have hd : ∀ i, i < 6 → w1.cell? ⟨w.heap.size, i, none⟩ = some (.slice none 0 0) := fun i hi => keep hbel (by
  match i, hi with
  | 0, _ => simp [go_sem]
  | 1, _ => simp [go_sem]
  | 2, _ => simp [go_sem]
  | 3, _ => simp [go_sem]
  | 4, _ => simp [go_sem]
  | 5, _ => simp [go_sem]
  | i + 6, hi => exact absurd hi (by omega))
 have hfz : ∀ x, w1.frozen? ⟨w.heap.size, x, none⟩ = false := fun x => (hbel.frozen (p := ⟨w.heap.size, x, none⟩) (by simp)).trans (by simp [go_sem])
 have HD := hid hd
 have HFz := hid hfz
 have HB1 := hid (HA.out.trans (hbel.mono (by simp)))
 have hw1 : w.heap.size < w1.heap.size := by omega
 clear hs hbel hbe hd hfz
 go_wp2_with fail
 refine (net_src b a len cap _ HS.out).mono ?_
 rintro e' w2 ⟨p, l, c, g, o, e, x, f, rfl, hn, hnb, hc0, hc1, -, hg⟩
 have hbl : w2.heap[w.heap.size]? = w1.heap[w.heap.size]? := hg.block _ hw1 (fun e => by injection e with e; omega)
 have d0 := cel_of hbl (HD.out 0 (by omega))
 have d1 := cel_of hbl (HD.out 1 (by omega))
 have d2 := cel_of hbl (HD.out 2 (by omega))
 have d3 := cel_of hbl (HD.out 3 (by omega))
 have d4 := cel_of hbl (HD.out 4 (by omega))
 have d5 := cel_of hbl (HD.out 5 (by omega))
 have z0 := (fro_of hbl).trans (HFz.out 0)
 have z1 := (fro_of hbl).trans (HFz.out 1)
 have z2 := (fro_of hbl).trans (HFz.out 2)
 have z3 := (fro_of hbl).trans (HFz.out 3)
 have z4 := (fro_of hbl).trans (HFz.out 4)
 have z5 := (fro_of hbl).trans (HFz.out 5)
 have HB2 : Hid (Below w.heap.size w w2) := ⟨hg.os.trans HB1.out.os, hg.tape.trans HB1.out.tape, hg.output.trans HB1.out.output, Nat.le_trans HB1.out.size hg.size, fun j hj => (hg.block j (by omega) (fun e => by injection e with e; omega)).trans (HB1.out.block j hj)⟩
 have HN := hid hn
 have HNb := hid hnb
 have HC := hid (And.intro hc0 hc1)
 clear hn hnb hc0 hc1 hg hbl
 unfold netV
 go_wp2
 refine bodyPost_ret (v := netV p l c) (by simp [results, Tryz.results4, go_sem, d0, d1, d2, d3, d4, d5, netV]) rfl ?_
 have hk1 : ∀ (W : World) (o : Nat) (v : Value) (q : Nat), q ≠ w.heap.size → (W.setCell ⟨w.heap.size, o, none⟩ v).heap[q]? = W.heap[q]? := fun W o v q hq => Below.heap_setCell _ _ _ _ (by dsimp only; exact hq)
 refine ⟨p, l, c, g, o, e, x, f, rfl, HN.out _ (fun q h1 h2 => ?_), HNb.out, HC.out, ?_⟩
 · have hq : q ≠ w.heap.size := by omega
   rw [hk1 _ _ _ q hq, hk1 _ _ _ q hq, hk1 _ _ _ q hq, hk1 _ _ _ q hq, hk1 _ _ _ q hq, hk1 _ _ _ q hq]
 · exact ((((((HB2.out.setCell (Nat.le_refl _) _).setCell (Nat.le_refl _) _).setCell (Nat.le_refl _) _).setCell (Nat.le_refl _) _).setCell (Nat.le_refl _) _).setCell (Nat.le_refl _) _)
end Go.Proofs.YtaioffpkadmmhaaGreat.netOf
namespace Go.Proofs.YtaioffpkadmmhaaGreat.envDraw
open Go.RowKit Go.Deep Go base copy netSem netSpec source intsOwn
set_option linter.unusedVariables false
theorem info_bool1 : (Tryz.prog.info? 4).map (fun i => (i.zero, i.size, i.bytes)) = some (some (.bool false), 1, 1) := by kernel_rfl
theorem row_empty (t : TypeId) (s B N : Nat) (w : World) (hB : B ≤ w.heap.size) (hN : w.heap.size = N) : (w.alloc (.cells #[] t)).ownsRow B t s (.slice (some ⟨N, 0, none⟩) 0 0) 0 [] := by
 subst hN
 exact ⟨by simp, .inr ⟨w.heap.size, 0, #[], rfl, hB, heap_alloc_new w _, Nat.le_refl _, Nat.zero_le _, by simp, by simp⟩⟩
theorem src_low {w w1 : World} {b len cap k B : Nat} {a : Option Addr} (h : Src w b a len cap k) (hb : Below B w w1) (hB : b < B) : Src w1 b a len cap k := by
 obtain ⟨h1, ⟨n, s, a1, a2, a3, a4, hr⟩, hd⟩ := h
 refine ⟨h1, ⟨n, s, a1, a2, a3, a4, hr.of_block (hb.block b hB)⟩, fun i hi => ?_⟩
 obtain ⟨bb, off, e, hne, x, hx, hc⟩ := hd i hi
 exact ⟨bb, off, e, hne, x, hx, by rw [World.cell?_of_block (hb.block bb (by omega))]; exact hc⟩
set_option maxHeartbeats 1600000 in
set_option maxRecDepth 8000 in
theorem env_src (b : Nat) (a : Option Addr) (len cap k0 : Nat) (p : Nat → Option Addr) (l c : Nat → Nat) (w : World) (h : Src w b a len cap k0) (hb : b < w.heap.size) (hk0 : k0 ≤ 1000) (hl : l 3 ≤ 100) :
  Calls Tryz.prog 21 #[.pointer (some ⟨b, 0, none⟩), netV p l c] w fun e' w' => ∃ (v : Value) (zs : List Int), e' = .returned v ∧ w'.ownsRow w.heap.size 3 1 v zs.length (zs.map (Value.int .i64)) ∧ zs.length = l 3 ∧ (∀ z ∈ zs, 0 ≤ z ∧ z < 3) ∧ Src w' b a len cap (k0 + l 3) ∧ w.grownBy w' (some b) := by
 have HS := hid h
 clear h
 obtain ⟨i0, hi0, hzz⟩ := Option.map_eq_some_iff.1 Tryz.info_int
 simp only [Prod.mk.injEq] at hzz
 obtain ⟨hz0, hz1, hz2⟩ := hzz
 have HI := hid hi0
 have HZ0 := hid hz0
 have HZ1 := hid hz1
 have HZ2 := hid hz2
 clear hi0 hz0 hz1 hz2
 unfold netV
 go_enter Tryz.func21, Tryz.ntmps21
 go_wp2_with fail
 obtain ⟨w1, hw1⟩ : ∃ w1, (w.alloc (.cells #[.slice (p 0) (l 0) (c 0), .slice (p 1) (l 1) (c 1), .slice (p 2) (l 2) (c 2), .slice (p 3) (l 3) (c 3), .slice (p 4) (l 4) (c 4), .slice (p 5) (l 5) (c 5)] 29)) = w1 := ⟨_, rfl⟩
 have HQ : Hid (w1.cell? ⟨w.heap.size, 3, none⟩ = some (.slice (p 3) (l 3) (c 3))) := hid (by rw [← hw1]; simp [go_sem])
 have HSz : Hid (w1.heap.size = w.heap.size + 1) := hid (by rw [← hw1]; simp)
 have HB1 : Hid (Below w.heap.size w w1) := hid (by rw [← hw1]; exact (by repeat (first | exact Below.refl _ _ | assumption | refine Below.drew ?_ | refine Below.alloc ?_ (by first | exact Nat.le_refl _ | omega | (simp; done) | (simp; omega)) _ | refine Below.setCell ?_ (by first | exact Nat.le_refl _ | omega | (simp; done) | (simp; omega)) _)))
 rw [hw1]
 clear hw1
 go_loopw [6, 5] (fun i v wr => ∃ zs : List Int, zs.length ≤ l 3 ∧ i = .int .i64 zs.length ∧ wr.ownsRow (w.heap.size + 1) 3 1 v zs.length (zs.map (Value.int .i64)) ∧ (∀ z ∈ zs, 0 ≤ z ∧ z < 3) ∧ Src wr b a len cap (k0 + zs.length) ∧ wr.cell? ⟨w.heap.size, 3, none⟩ = some (.slice (p 3) (l 3) (c 3)) ∧ w.heap.size + 1 ≤ wr.heap.size ∧ w.grownBy wr (some b)) (fun i _ _ => l 3 - (intOf i).toNat)
 case atStart =>
  have hB2 : Below w.heap.size w (w1.alloc (.cells #[] 3)) := HB1.out.alloc HB1.out.size _
  exact ⟨[], Nat.zero_le _, rfl, row_empty _ _ _ _ w1 (by rw [HSz.out]; exact Nat.le_refl _) HSz.out, fun z hz => (by cases hz), (HS.out.below hB2), keep ((Below.refl _ w1).alloc (Nat.le_refl _) _) HQ.out, by simp; have := HSz.out; omega, ⟨hB2.os, hB2.tape, hB2.output, hB2.size, fun k hk _ => hB2.block k hk⟩⟩
 case round =>
  obtain ⟨zs, hz, rfl, hown, hfac, hsrc, hq, hsz, hgr⟩ := hrel
  have HOw := hid hown
  have HFa := hid hfac
  have HSr := hid hsrc
  have HG := hid hgr
  have HQr := hid hq
  clear hown hfac hsrc hgr
  by_cases hlt : zs.length < l 3
  · obtain ⟨m, hm⟩ : ∃ m, zs.length = m := ⟨_, rfl⟩
    have HM := hid hm
    rw [hm] at hz hlt HOw HSr ⊢
    clear hm
    go_wp2_with fail
    refine (next_src b a len cap (k0 + m) 3 _ HSr.out (by omega) (by omega) (by omega)).mono ?_
    rintro e' w3 ⟨r, rfl, hr0, hr3, hs3, hg3⟩
    have HS3 := hid hs3
    have HG3 := hid hg3
    have hs3z := hg3.size
    have HO3 : Hid (w3.ownsRow (w.heap.size + 1) 3 1 u5 m (zs.map (Value.int .i64))) := hid (World.ownsRow.kept HOw.out hg3 (by
     cases hv : u5.ownBlock with
     | none => exact .inl rfl
     | some g => exact .inr fun e => by have := (World.ownsRow.lt HOw.out g hv).1; injection e with e; omega))
    have HQ3 := hid (hg3.cell HQr.out (fun e => by injection e with e; simp only at e; omega))
    clear hs3 hg3 hq
    go_wp2_with (at_builtin
                 refine wpList_append_own _ rfl _ _ 25 rfl (w.heap.size + 1) 3 i0 (.int .i64 0) 1 8 Tryz.underlying25 HI.out HZ0.out HZ1.out HZ2.out rfl (by decide) _ _ _ rfl (World.ownsRow.alloc HO3.out _) ⟨_, 0, none⟩ 1 1 [(Value.int .i64) r] rfl rfl (cell_one_new _ _ _) (fun x hx => by simp at hx; subst hx; rfl) (by unfold maxLen; omega) (by omega) (by simp; omega) ?_
                 intro v' w4 hown' hgrow hnil
                 have HO4 : Hid (w4.ownsRow (w.heap.size + 1) 3 1 v' (zs ++ [r]).length ((zs ++ [r]).map (Value.int .i64))) := hid (by rw [List.length_append, List.map_append, HM.out]; exact hown')
                 have HNe : Hid (∀ g, u5.ownBlock = some g → w.heap.size + 1 ≤ g) := hid (fun g hg => (World.ownsRow.lt HO3.out g hg).1)
                 have HBl : Hid (Below (w.heap.size + 1) w3 w4) := hid (((Below.refl _ w3).alloc (by omega) _).grown hgrow (by simp; omega) (fun g hg => HNe.out g hg))
                 clear hown' hgrow hnil)
    go_roundw
    case rel =>
     have hb4 := HBl.out
     refine ⟨zs ++ [r], by rw [List.length_append, HM.out]; exact hlt, by rw [List.length_append, HM.out]; go_num, HO4.out, (fun z hz => by rcases List.mem_append.1 hz with hz | hz; exact HFa.out z hz; rw [List.mem_singleton] at hz; rw [hz]; exact ⟨hr0, hr3⟩), ?_, ?_, by have := hb4.size; omega, ?_⟩
     · rw [List.length_append, HM.out]
       exact src_low HS3.out hb4 (by omega)
     · rw [World.cell?_of_block (hb4.block w.heap.size (by omega))]; exact HQ3.out
     · have h1 := HG.out
       have h3 := HG3.out
       exact ⟨hb4.os.trans (h3.os.trans h1.os), hb4.tape.trans (h3.tape.trans h1.tape), hb4.output.trans (h3.output.trans h1.output), Nat.le_trans h1.size (Nat.le_trans h3.size hb4.size), fun k hk hne => (hb4.block k (by omega)).trans ((h3.block k (by omega) hne).trans (h1.block k hk hne))⟩
    case measure => have := HM.out; simp [intOf]; omega
  · have e1 : zs.length = l 3 := by omega
    have HE := hid e1
    clear e1
    go_wp2_with fail
    go_ret
    refine ⟨_, zs, rfl, ?_, HE.out, HFa.out, by have := HSr.out; rw [HE.out] at this; exact this, HG.out⟩
    refine ⟨HOw.out.1, ?_⟩
    rcases HOw.out.2 with h2 | ⟨g, cp, cur, e, hg, rest⟩
    · exact .inl h2
    · exact .inr ⟨g, cp, cur, e, Nat.le_of_succ_le hg, rest⟩
set_option maxHeartbeats 1600000 in
set_option maxRecDepth 8000 in
theorem down_src (b : Nat) (a : Option Addr) (len cap k0 : Nat) (p : Nat → Option Addr) (l c : Nat → Nat) (w : World) (h : Src w b a len cap k0) (hb : b < w.heap.size) (hk0 : k0 ≤ 1000) (hl : l 1 ≤ 100) :
  Calls Tryz.prog 22 #[.pointer (some ⟨b, 0, none⟩), netV p l c] w fun e' w' => ∃ (v : Value) (zs : List Bool), e' = .returned v ∧ w'.ownsRow w.heap.size 4 1 v zs.length (zs.map Value.bool) ∧ zs.length = l 1 ∧ True ∧ Src w' b a len cap (k0 + l 1) ∧ w.grownBy w' (some b) := by
 have HS := hid h
 clear h
 obtain ⟨i0, hi0, hzz⟩ := Option.map_eq_some_iff.1 info_bool1
 simp only [Prod.mk.injEq] at hzz
 obtain ⟨hz0, hz1, hz2⟩ := hzz
 have HI := hid hi0
 have HZ0 := hid hz0
 have HZ1 := hid hz1
 have HZ2 := hid hz2
 clear hi0 hz0 hz1 hz2
 unfold netV
 go_enter Tryz.func22, Tryz.ntmps22
 go_wp2_with fail
 obtain ⟨w1, hw1⟩ : ∃ w1, (w.alloc (.cells #[.slice (p 0) (l 0) (c 0), .slice (p 1) (l 1) (c 1), .slice (p 2) (l 2) (c 2), .slice (p 3) (l 3) (c 3), .slice (p 4) (l 4) (c 4), .slice (p 5) (l 5) (c 5)] 29)) = w1 := ⟨_, rfl⟩
 have HQ : Hid (w1.cell? ⟨w.heap.size, 1, none⟩ = some (.slice (p 1) (l 1) (c 1))) := hid (by rw [← hw1]; simp [go_sem])
 have HSz : Hid (w1.heap.size = w.heap.size + 1) := hid (by rw [← hw1]; simp)
 have HB1 : Hid (Below w.heap.size w w1) := hid (by rw [← hw1]; exact (by repeat (first | exact Below.refl _ _ | assumption | refine Below.drew ?_ | refine Below.alloc ?_ (by first | exact Nat.le_refl _ | omega | (simp; done) | (simp; omega)) _ | refine Below.setCell ?_ (by first | exact Nat.le_refl _ | omega | (simp; done) | (simp; omega)) _)))
 rw [hw1]
 clear hw1
 go_loopw [6, 5] (fun i v wr => ∃ zs : List Bool, zs.length ≤ l 1 ∧ i = .int .i64 zs.length ∧ wr.ownsRow (w.heap.size + 1) 4 1 v zs.length (zs.map Value.bool) ∧ True ∧ Src wr b a len cap (k0 + zs.length) ∧ wr.cell? ⟨w.heap.size, 1, none⟩ = some (.slice (p 1) (l 1) (c 1)) ∧ w.heap.size + 1 ≤ wr.heap.size ∧ w.grownBy wr (some b)) (fun i _ _ => l 1 - (intOf i).toNat)
 case atStart =>
  have hB2 : Below w.heap.size w (w1.alloc (.cells #[] 4)) := HB1.out.alloc HB1.out.size _
  exact ⟨[], Nat.zero_le _, rfl, row_empty _ _ _ _ w1 (by rw [HSz.out]; exact Nat.le_refl _) HSz.out, trivial, (HS.out.below hB2), keep ((Below.refl _ w1).alloc (Nat.le_refl _) _) HQ.out, by simp; have := HSz.out; omega, ⟨hB2.os, hB2.tape, hB2.output, hB2.size, fun k hk _ => hB2.block k hk⟩⟩
 case round =>
  obtain ⟨zs, hz, rfl, hown, hfac, hsrc, hq, hsz, hgr⟩ := hrel
  have HOw := hid hown
  have HFa := hid hfac
  have HSr := hid hsrc
  have HG := hid hgr
  have HQr := hid hq
  clear hown hfac hsrc hgr
  by_cases hlt : zs.length < l 1
  · obtain ⟨m, hm⟩ : ∃ m, zs.length = m := ⟨_, rfl⟩
    have HM := hid hm
    rw [hm] at hz hlt HOw HSr ⊢
    clear hm
    go_wp2_with fail
    refine (chance_src b a len cap (k0 + m) 4 _ HSr.out (by omega) (by omega) (by omega)).mono ?_
    rintro e' w3 ⟨r, rfl, hs3, hg3⟩
    have HS3 := hid hs3
    have HG3 := hid hg3
    have hs3z := hg3.size
    have HO3 : Hid (w3.ownsRow (w.heap.size + 1) 4 1 u5 m (zs.map Value.bool)) := hid (World.ownsRow.kept HOw.out hg3 (by
     cases hv : u5.ownBlock with
     | none => exact .inl rfl
     | some g => exact .inr fun e => by have := (World.ownsRow.lt HOw.out g hv).1; injection e with e; omega))
    have HQ3 := hid (hg3.cell HQr.out (fun e => by injection e with e; simp only at e; omega))
    clear hs3 hg3 hq
    go_wp2_with (at_builtin
                 refine wpList_append_own _ rfl _ _ 34 rfl (w.heap.size + 1) 4 i0 (.bool false) 1 1 Tryz.underlying34 HI.out HZ0.out HZ1.out HZ2.out rfl (by decide) _ _ _ rfl (World.ownsRow.alloc HO3.out _) ⟨_, 0, none⟩ 1 1 [Value.bool r] rfl rfl (cell_one_new _ _ _) (fun x hx => by simp at hx; subst hx; rfl) (by unfold maxLen; omega) (by omega) (by simp; omega) ?_
                 intro v' w4 hown' hgrow hnil
                 have HO4 : Hid (w4.ownsRow (w.heap.size + 1) 4 1 v' (zs ++ [r]).length ((zs ++ [r]).map Value.bool)) := hid (by rw [List.length_append, List.map_append, HM.out]; exact hown')
                 have HNe : Hid (∀ g, u5.ownBlock = some g → w.heap.size + 1 ≤ g) := hid (fun g hg => (World.ownsRow.lt HO3.out g hg).1)
                 have HBl : Hid (Below (w.heap.size + 1) w3 w4) := hid (((Below.refl _ w3).alloc (by omega) _).grown hgrow (by simp; omega) (fun g hg => HNe.out g hg))
                 clear hown' hgrow hnil)
    go_roundw
    case rel =>
     have hb4 := HBl.out
     refine ⟨zs ++ [r], by rw [List.length_append, HM.out]; exact hlt, by rw [List.length_append, HM.out]; go_num, HO4.out, trivial, ?_, ?_, by have := hb4.size; omega, ?_⟩
     · rw [List.length_append, HM.out]
       exact src_low HS3.out hb4 (by omega)
     · rw [World.cell?_of_block (hb4.block w.heap.size (by omega))]; exact HQ3.out
     · have h1 := HG.out
       have h3 := HG3.out
       exact ⟨hb4.os.trans (h3.os.trans h1.os), hb4.tape.trans (h3.tape.trans h1.tape), hb4.output.trans (h3.output.trans h1.output), Nat.le_trans h1.size (Nat.le_trans h3.size hb4.size), fun k hk hne => (hb4.block k (by omega)).trans ((h3.block k (by omega) hne).trans (h1.block k hk hne))⟩
    case measure => have := HM.out; simp [intOf]; omega
  · have e1 : zs.length = l 1 := by omega
    have HE := hid e1
    clear e1
    go_wp2_with fail
    go_ret
    refine ⟨_, zs, rfl, ?_, HE.out, HFa.out, by have := HSr.out; rw [HE.out] at this; exact this, HG.out⟩
    refine ⟨HOw.out.1, ?_⟩
    rcases HOw.out.2 with h2 | ⟨g, cp, cur, e, hg, rest⟩
    · exact .inl h2
    · exact .inr ⟨g, cp, cur, e, Nat.le_of_succ_le hg, rest⟩
end Go.Proofs.YtaioffpkadmmhaaGreat.envDraw
namespace Go.Proofs.YtaioffpkadmmhaaGreat.envOf
open Go.RowKit Go.Deep Go base copy netSem netSpec source intsOwn envDraw
set_option linter.unusedVariables false
set_option maxHeartbeats 1600000 in
set_option maxRecDepth 8000 in
theorem envOf_spec (a : Option Addr) (len cap : Nat) (p : Nat → Option Addr) (l c : Nat → Nat) (w : World) (h : Bytes w a len) (hlen : len ≤ 1048576) (hl : l 3 ≤ 100) :
  Calls Tryz.prog 7 #[.slice a len cap, netV p l c] w fun e' w' => ∃ (v : Value) (zs : List Int), e' = .returned v ∧ w'.ownsRow w.heap.size 3 1 v zs.length (zs.map (Value.int .i64)) ∧ zs.length = l 3 ∧ (∀ z ∈ zs, 0 ≤ z ∧ z < 3) ∧ Below w.heap.size w w' := by
 have HS : Hid (∀ W : World, Below w.heap.size w W → Calls Tryz.prog 18 #[.slice a len cap] W fun e w' => ∃ b, e = .returned (.pointer (some ⟨b, 0, none⟩)) ∧ b = W.heap.size ∧ b < w'.heap.size ∧ Src w' b a len cap 0 ∧ Below W.heap.size W w') := hid (fun W hb => source_spec a len cap W (fun i hi => by obtain ⟨bb, off, e, x, hx, hc⟩ := h i hi; exact ⟨bb, off, e, x, hx, keep hb hc⟩) hlen)
 have HE : Hid (∀ (W : World) (b : Nat), Src W b a len cap 0 → b < W.heap.size → Calls Tryz.prog 21 #[.pointer (some ⟨b, 0, none⟩), netV p l c] W fun e' w' => ∃ (v : Value) (zs : List Int), e' = .returned v ∧ w'.ownsRow W.heap.size 3 1 v zs.length (zs.map (Value.int .i64)) ∧ zs.length = l 3 ∧ (∀ z ∈ zs, 0 ≤ z ∧ z < 3) ∧ Src w' b a len cap (0 + l 3) ∧ W.grownBy w' (some b)) := hid (fun W b hs hb => env_src b a len cap 0 p l c W hs hb (by omega) hl)
 clear h
 unfold netV at HE ⊢
 go_enter Tryz.func7, Tryz.ntmps7
 go_wp2_with fail
 obtain ⟨W1, hW1⟩ : ∃ W1, (w.alloc (.cells #[.slice (p 0) (l 0) (c 0), .slice (p 1) (l 1) (c 1), .slice (p 2) (l 2) (c 2), .slice (p 3) (l 3) (c 3), .slice (p 4) (l 4) (c 4), .slice (p 5) (l 5) (c 5)] 29)) = W1 := ⟨_, rfl⟩
 have HBx : Hid (Below w.heap.size w W1) := hid (by rw [← hW1]; exact (by repeat (first | exact Below.refl _ _ | assumption | refine Below.drew ?_ | refine Below.alloc ?_ (by first | exact Nat.le_refl _ | omega | (simp; done) | (simp; omega)) _ | refine Below.setCell ?_ (by first | exact Nat.le_refl _ | omega | (simp; done) | (simp; omega)) _)))
 have HSz : Hid (W1.heap.size = w.heap.size + 1) := hid (by rw [← hW1]; simp)
 have HKc : Hid (∀ w8 : World, w8.heap[w.heap.size]? = W1.heap[w.heap.size]? → w8.cell? ⟨w.heap.size, 0, none⟩ = some (.slice (p 0) (l 0) (c 0)) ∧ w8.cell? ⟨w.heap.size, 1, none⟩ = some (.slice (p 1) (l 1) (c 1)) ∧ w8.cell? ⟨w.heap.size, 2, none⟩ = some (.slice (p 2) (l 2) (c 2)) ∧ w8.cell? ⟨w.heap.size, 3, none⟩ = some (.slice (p 3) (l 3) (c 3)) ∧ w8.cell? ⟨w.heap.size, 4, none⟩ = some (.slice (p 4) (l 4) (c 4)) ∧ w8.cell? ⟨w.heap.size, 5, none⟩ = some (.slice (p 5) (l 5) (c 5))) := hid (fun w8 hb => by
  have h : ∀ o, w8.cell? ⟨w.heap.size, o, none⟩ = W1.cell? ⟨w.heap.size, o, none⟩ := fun o => World.cell?_of_block hb
  rw [h, h, h, h, h, h, ← hW1]
  exact ⟨by simp [go_sem], by simp [go_sem], by simp [go_sem], by simp [go_sem], by simp [go_sem], by simp [go_sem]⟩)
 rw [hW1]
 clear hW1
 obtain ⟨q0, q1, q2, q3, q4, q5⟩ := HKc.out W1 rfl
 have hk0 : W1.drew.heap[w.heap.size]? = W1.heap[w.heap.size]? := rfl
 go_region_with (first
   | (go_at_call 18; refine (HS.out _ HBx.out.drew).mono ?_; rintro e' w2 ⟨b, rfl, hbe, hbl, hsrc, hb1⟩; have HBe := hid hbe; clear hbe; have hk1 : w2.heap[w.heap.size]? = W1.heap[w.heap.size]? := hb1.block _ (by have := HSz.out; show _ < W1.heap.size; omega); obtain ⟨x0, x1, x2, x3, x4, x5⟩ := HKc.out w2 hk1)
   | (go_at_call 21; refine (HE.out _ b hsrc hbl).mono ?_; rintro e' w3 ⟨v, zs, rfl, hown, hz, hf, -, hg⟩))
 all_goals
  have hb1' : Below W1.heap.size W1 w2 := ((Below.refl _ W1).drew).trans hb1
  have hB1 : Below w.heap.size w w2 := HBx.out.trans (hb1'.mono HBx.out.size)
  have hbw : w.heap.size ≤ b := by have := HBe.out; have := HSz.out; have e9 : W1.drew.heap.size = W1.heap.size := rfl; omega
  have HOw := hid hown
  have HF := hid hf
  have HZ := hid hz
  have HB1 := hid hB1
  have HB2 : Hid (Below w.heap.size w w3) := hid (hB1.grown hg hB1.size (fun k hk => by injection hk with hk; omega))
  clear hown hf hg hz hb1 hb1' hsrc hk1 hB1
  go_wp2
  go_ret
  refine ⟨_, zs, rfl, ?_, HZ.out, HF.out, HB2.out⟩
  refine ⟨HOw.out.1, ?_⟩
  rcases HOw.out.2 with h2 | ⟨g, cp, cur, e, hg, rest⟩
  · exact .inl h2
  · exact .inr ⟨g, cp, cur, e, Nat.le_trans HB1.out.size hg, rest⟩
set_option maxHeartbeats 1600000 in
set_option maxRecDepth 8000 in
theorem downOf_spec (a : Option Addr) (len cap : Nat) (p : Nat → Option Addr) (l c : Nat → Nat) (w : World) (h : Bytes w a len) (hlen : len ≤ 1048576) (hl : l 1 ≤ 100) :
  Calls Tryz.prog 8 #[.slice a len cap, netV p l c] w fun e' w' => ∃ (v : Value) (zs : List Bool), e' = .returned v ∧ w'.ownsRow w.heap.size 4 1 v zs.length (zs.map Value.bool) ∧ zs.length = l 1 ∧ True ∧ Below w.heap.size w w' := by
 have HS : Hid (∀ W : World, Below w.heap.size w W → Calls Tryz.prog 18 #[.slice a len cap] W fun e w' => ∃ b, e = .returned (.pointer (some ⟨b, 0, none⟩)) ∧ b = W.heap.size ∧ b < w'.heap.size ∧ Src w' b a len cap 0 ∧ Below W.heap.size W w') := hid (fun W hb => source_spec a len cap W (fun i hi => by obtain ⟨bb, off, e, x, hx, hc⟩ := h i hi; exact ⟨bb, off, e, x, hx, keep hb hc⟩) hlen)
 have HE : Hid (∀ (W : World) (b : Nat), Src W b a len cap 0 → b < W.heap.size → Calls Tryz.prog 22 #[.pointer (some ⟨b, 0, none⟩), netV p l c] W fun e' w' => ∃ (v : Value) (zs : List Bool), e' = .returned v ∧ w'.ownsRow W.heap.size 4 1 v zs.length (zs.map Value.bool) ∧ zs.length = l 1 ∧ True ∧ Src w' b a len cap (0 + l 1) ∧ W.grownBy w' (some b)) := hid (fun W b hs hb => down_src b a len cap 0 p l c W hs hb (by omega) hl)
 clear h
 unfold netV at HE ⊢
 go_enter Tryz.func8, Tryz.ntmps8
 go_wp2_with fail
 obtain ⟨W1, hW1⟩ : ∃ W1, (w.alloc (.cells #[.slice (p 0) (l 0) (c 0), .slice (p 1) (l 1) (c 1), .slice (p 2) (l 2) (c 2), .slice (p 3) (l 3) (c 3), .slice (p 4) (l 4) (c 4), .slice (p 5) (l 5) (c 5)] 29)) = W1 := ⟨_, rfl⟩
 have HBx : Hid (Below w.heap.size w W1) := hid (by rw [← hW1]; exact (by repeat (first | exact Below.refl _ _ | assumption | refine Below.drew ?_ | refine Below.alloc ?_ (by first | exact Nat.le_refl _ | omega | (simp; done) | (simp; omega)) _ | refine Below.setCell ?_ (by first | exact Nat.le_refl _ | omega | (simp; done) | (simp; omega)) _)))
 have HSz : Hid (W1.heap.size = w.heap.size + 1) := hid (by rw [← hW1]; simp)
 have HKc : Hid (∀ w8 : World, w8.heap[w.heap.size]? = W1.heap[w.heap.size]? → w8.cell? ⟨w.heap.size, 0, none⟩ = some (.slice (p 0) (l 0) (c 0)) ∧ w8.cell? ⟨w.heap.size, 1, none⟩ = some (.slice (p 1) (l 1) (c 1)) ∧ w8.cell? ⟨w.heap.size, 2, none⟩ = some (.slice (p 2) (l 2) (c 2)) ∧ w8.cell? ⟨w.heap.size, 3, none⟩ = some (.slice (p 3) (l 3) (c 3)) ∧ w8.cell? ⟨w.heap.size, 4, none⟩ = some (.slice (p 4) (l 4) (c 4)) ∧ w8.cell? ⟨w.heap.size, 5, none⟩ = some (.slice (p 5) (l 5) (c 5))) := hid (fun w8 hb => by
  have h : ∀ o, w8.cell? ⟨w.heap.size, o, none⟩ = W1.cell? ⟨w.heap.size, o, none⟩ := fun o => World.cell?_of_block hb
  rw [h, h, h, h, h, h, ← hW1]
  exact ⟨by simp [go_sem], by simp [go_sem], by simp [go_sem], by simp [go_sem], by simp [go_sem], by simp [go_sem]⟩)
 rw [hW1]
 clear hW1
 obtain ⟨q0, q1, q2, q3, q4, q5⟩ := HKc.out W1 rfl
 have hk0 : W1.drew.heap[w.heap.size]? = W1.heap[w.heap.size]? := rfl
 go_region_with (first
   | (go_at_call 18; refine (HS.out _ HBx.out.drew).mono ?_; rintro e' w2 ⟨b, rfl, hbe, hbl, hsrc, hb1⟩; have HBe := hid hbe; clear hbe; have hk1 : w2.heap[w.heap.size]? = W1.heap[w.heap.size]? := hb1.block _ (by have := HSz.out; show _ < W1.heap.size; omega); obtain ⟨x0, x1, x2, x3, x4, x5⟩ := HKc.out w2 hk1)
   | (go_at_call 22; refine (HE.out _ b hsrc hbl).mono ?_; rintro e' w3 ⟨v, zs, rfl, hown, hz, hf, -, hg⟩))
 all_goals
  have hb1' : Below W1.heap.size W1 w2 := ((Below.refl _ W1).drew).trans hb1
  have hB1 : Below w.heap.size w w2 := HBx.out.trans (hb1'.mono HBx.out.size)
  have hbw : w.heap.size ≤ b := by have := HBe.out; have := HSz.out; have e9 : W1.drew.heap.size = W1.heap.size := rfl; omega
  have HOw := hid hown
  have HF := hid hf
  have HZ := hid hz
  have HB1 := hid hB1
  have HB2 : Hid (Below w.heap.size w w3) := hid (hB1.grown hg hB1.size (fun k hk => by injection hk with hk; omega))
  clear hown hf hg hz hb1 hb1' hsrc hk1 hB1
  go_wp2
  go_ret
  refine ⟨_, zs, rfl, ?_, HZ.out, HF.out, HB2.out⟩
  refine ⟨HOw.out.1, ?_⟩
  rcases HOw.out.2 with h2 | ⟨g, cp, cur, e, hg, rest⟩
  · exact .inl h2
  · exact .inr ⟨g, cp, cur, e, Nat.le_trans HB1.out.size hg, rest⟩
end Go.Proofs.YtaioffpkadmmhaaGreat.envOf
namespace Go.Proofs.YtaioffpkadmmhaaGreat.nbSem
open Go.RowKit Go.Deep base netSem intsOwn
set_option linter.unusedVariables false
def nbB (g : R) (nl : Nat) (down : List Bool) (router : Int) (k : Nat) : Bool := decide (0 ≤ linkAt g nl router k) && !(down[(linkAt g nl router k).toNat]?.getD false)
def nbL (g : R) (nl : Nat) (down : List Bool) (router : Int) (n : Nat) : List Int := ((List.range n).filter (nbB g nl down router)).map (fun k : Nat => (k : Int))
theorem nbL_succ (g : R) (nl : Nat) (down : List Bool) (router : Int) (k : Nat) : nbL g nl down router (k + 1) = nbL g nl down router k ++ (if nbB g nl down router k then [(k : Int)] else []) := by
 unfold nbL
 rw [List.range_succ, List.filter_append, List.map_append]
 by_cases h : nbB g nl down router k = true
 · simp [h]
 · simp [h]
theorem nbL_len (g : R) (nl : Nat) (down : List Bool) (router : Int) (n : Nat) : (nbL g nl down router n).length ≤ n := by
 unfold nbL
 rw [List.length_map]
 exact Nat.le_trans (List.length_filter_le _ _) (by simp)
def nbC (ok : Bool) (r nl dl : Nat) (router : Int) : Int := if 4096 < dl then 2 else if ok = false then 1 else if inB router 0 (r - 1) = false ∨ dl ≠ nl then 5 else 0
def nbA (ok : Bool) (r nl dl : Nat) (router : Int) (g : R) (down : List Bool) : List Int := if nbC ok r nl dl router = 0 then nbL g nl down router r else []
theorem nb_no {ok : Bool} {r nl dl : Nat} {router : Int} {g : R} {down : List Bool} {c : Int} (h : nbC ok r nl dl router = c) (hc : c ≠ 0) : nbA ok r nl dl router g down = [] := by
 unfold nbA; rw [if_neg (by rw [h]; exact hc)]
theorem own_empty (B N : Nat) (w : World) (hB : B ≤ w.heap.size) (hN : w.heap.size = N) : OwnInts B (w.alloc (.cells #[] 3)) (.slice (some ⟨N, 0, none⟩) 0 0) [] := by
 subst hN
 exact ⟨rfl, .inr ⟨w.heap.size, 0, #[], rfl, hB, heap_alloc_new w _, Nat.le_refl _, Nat.zero_le _, rfl, rfl⟩⟩
end Go.Proofs.YtaioffpkadmmhaaGreat.nbSem
