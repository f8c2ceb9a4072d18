/- NetOf; EnvDraw: one text, so that the claim has fewer files. -/
import Derived.Test.YtjdeoiohbbnmeaaNetDraw
import Derived.Test.YtjdeoiohbbnmeaaPart4
import Derived.Test.YtjdeoiohbbnmeaaPart6
import Derived.Test.YtjdeoiohbbnmeaaPart7
import Derived.Maps.AppendAt
/- A drawn network, whole; of the specification; conditions: none. -/
namespace Go.Proofs.Ytjdeoiohbbnmeaa.netOf
open Go.RowKit Go.Deep Go base names netSem intsOwn source netMath netDraw
set_option linter.unusedVariables false

theorem fro_of {w w' : World} {b x : Nat} (h : w'.heap[b]? = w.heap[b]?) : w'.frozen? ⟨b, x, none⟩ = w.frozen? ⟨b, x, none⟩ := by simp [World.frozen?, h]
theorem cel_of {w w' : World} {b x : Nat} {v : Value} (h : w'.heap[b]? = w.heap[b]?) (hc : w.cell? ⟨b, x, none⟩ = some v) : w'.cell? ⟨b, x, none⟩ = some v := (World.cell?_of_block (a := ⟨b, x, none⟩) h).trans hc

set_option maxHeartbeats 1600000 in
set_option maxRecDepth 8000 in
theorem netOf_spec (a : Option Addr) (len cap : Nat) (w : World) (hb : Bytes w a len) (hl : len ≤ 1048576) :
    Calls Try.prog 4 #[.slice a len cap] w fun e' w' => ∃ (p : Nat → Option Addr) (l c : Nat → Nat) (g : R) (o e : List Int) (x f : R), e' = .returned (netV p l c) ∧ NetIs w' p l sN g o e x f ∧ netB l sN g o e x f = true ∧ (l 0 ≤ c 0 ∧ l 1 ≤ c 1) ∧ Below w.heap.size w w' := by
  have HB := hid hb
  clear hb
  go_enter Try.func4, Try.ntmps4
  go_wp2_with fail
  have HA : Hid (Below w.heap.size w (w.alloc (.cells #[.slice none 0 0, .slice none 0 0, .slice none 0 0, .slice none 0 0, .slice none 0 0, .slice none 0 0] 29))) := (by repeat (first | exact Below.refl _ _ | assumption | refine Below.drew ?_ | refine Below.alloc ?_ (by first | exact Nat.le_refl _ | omega | (simp; done) | (simp; omega)) _ | refine Below.setCell ?_ (by first | exact Nat.le_refl _ | omega | (simp; done) | (simp; omega)) _))
  refine (source_spec a len cap _ (fun i hi => by
    obtain ⟨bb, off, e, x, hx, hc⟩ := HB.out i hi
    exact ⟨bb, off, e, x, hx, keep HA.out hc⟩) hl).mono ?_
  rintro e' w1 ⟨b, rfl, hbe, hb1, hs, hbel⟩
  have hbb : w.heap.size < b := by rw [hbe]; simp
  have HS := hid hs
  have hd : ∀ i, i < 6 → w1.cell? ⟨w.heap.size, i, none⟩ = some (.slice none 0 0) := fun i hi => keep hbel (by
    match i, hi with
    | 0, _ => simp [go_sem]
    | 1, _ => simp [go_sem]
    | 2, _ => simp [go_sem]
    | 3, _ => simp [go_sem]
    | 4, _ => simp [go_sem]
    | 5, _ => simp [go_sem]
    | i + 6, hi => exact absurd hi (by omega))
  have hfz : ∀ x, w1.frozen? ⟨w.heap.size, x, none⟩ = false := fun x => (hbel.frozen (p := ⟨w.heap.size, x, none⟩) (by simp)).trans (by simp [go_sem])
  have HD := hid hd
  have HFz := hid hfz
  have HB1 := hid (HA.out.trans (hbel.mono (by simp)))
  have hw1 : w.heap.size < w1.heap.size := by omega
  clear hs hbel hbe hd hfz
  go_wp2_with fail
  refine (net_src b a len cap _ HS.out).mono ?_
  rintro e' w2 ⟨p, l, c, g, o, e, x, f, rfl, hn, hnb, hc0, hc1, -, hg⟩
  have hbl : w2.heap[w.heap.size]? = w1.heap[w.heap.size]? := hg.block _ hw1 (fun e => by injection e with e; omega)
  have d0 := cel_of hbl (HD.out 0 (by omega))
  have d1 := cel_of hbl (HD.out 1 (by omega))
  have d2 := cel_of hbl (HD.out 2 (by omega))
  have d3 := cel_of hbl (HD.out 3 (by omega))
  have d4 := cel_of hbl (HD.out 4 (by omega))
  have d5 := cel_of hbl (HD.out 5 (by omega))
  have z0 := (fro_of hbl).trans (HFz.out 0)
  have z1 := (fro_of hbl).trans (HFz.out 1)
  have z2 := (fro_of hbl).trans (HFz.out 2)
  have z3 := (fro_of hbl).trans (HFz.out 3)
  have z4 := (fro_of hbl).trans (HFz.out 4)
  have z5 := (fro_of hbl).trans (HFz.out 5)
  have HB2 : Hid (Below w.heap.size w w2) := ⟨hg.os.trans HB1.out.os, hg.tape.trans HB1.out.tape, hg.output.trans HB1.out.output, Nat.le_trans HB1.out.size hg.size, fun j hj => (hg.block j (by omega) (fun e => by injection e with e; omega)).trans (HB1.out.block j hj)⟩
  have HN := hid hn
  have HNb := hid hnb
  have HC := hid (And.intro hc0 hc1)
  clear hn hnb hc0 hc1 hg hbl
  unfold netV
  go_wp2
  refine bodyPost_ret (v := netV p l c) (by simp [results, Try.results4, go_sem, d0, d1, d2, d3, d4, d5, netV]) rfl ?_
  have hk1 : ∀ (W : World) (o : Nat) (v : Value) (q : Nat), q ≠ w.heap.size → (W.setCell ⟨w.heap.size, o, none⟩ v).heap[q]? = W.heap[q]? := fun W o v q hq => Below.heap_setCell _ _ _ _ (by dsimp only; exact hq)
  refine ⟨p, l, c, g, o, e, x, f, rfl, HN.out _ (fun q h1 h2 => ?_), HNb.out, HC.out, ?_⟩
  · have hq : q ≠ w.heap.size := by omega
    rw [hk1 _ _ _ q hq, hk1 _ _ _ q hq, hk1 _ _ _ q hq, hk1 _ _ _ q hq, hk1 _ _ _ q hq, hk1 _ _ _ q hq]
  · exact ((((((HB2.out.setCell (Nat.le_refl _) _).setCell (Nat.le_refl _) _).setCell (Nat.le_refl _) _).setCell (Nat.le_refl _) _).setCell (Nat.le_refl _) _).setCell (Nat.le_refl _) _)
end Go.Proofs.Ytjdeoiohbbnmeaa.netOf

/- What is announced to a network and which of its links are down, drawn out of a source; conditions: short rows. -/
namespace Go.Proofs.Ytjdeoiohbbnmeaa.envDraw
open Go.RowKit Go.Deep Go base copy netSem netSpec source intsOwn
set_option linter.unusedVariables false

theorem info_bool1 : (Try.prog.info? 4).map (fun i => (i.zero, i.size, i.bytes)) = some (some (.bool false), 1, 1) := by kernel_rfl
theorem row_empty (t : TypeId) (s B N : Nat) (w : World) (hB : B ≤ w.heap.size) (hN : w.heap.size = N) : (w.alloc (.cells #[] t)).ownsRow B t s (.slice (some ⟨N, 0, none⟩) 0 0) 0 [] := by
  subst hN
  exact ⟨by simp, .inr ⟨w.heap.size, 0, #[], rfl, hB, heap_alloc_new w _, Nat.le_refl _, Nat.zero_le _, by simp, by simp⟩⟩

/-- A source stays, where blocks that are newer than it are written. -/
theorem src_low {w w1 : World} {b len cap k B : Nat} {a : Option Addr} (h : Src w b a len cap k) (hb : Below B w w1) (hB : b < B) : Src w1 b a len cap k := by
  obtain ⟨h1, ⟨n, s, a1, a2, a3, a4, hr⟩, hd⟩ := h
  refine ⟨h1, ⟨n, s, a1, a2, a3, a4, hr.of_block (hb.block b hB)⟩, fun i hi => ?_⟩
  obtain ⟨bb, off, e, hne, x, hx, hc⟩ := hd i hi
  exact ⟨bb, off, e, hne, x, hx, by rw [World.cell?_of_block (hb.block bb (by omega))]; exact hc⟩

set_option maxHeartbeats 1600000 in
set_option maxRecDepth 8000 in
theorem env_src (b : Nat) (a : Option Addr) (len cap k0 : Nat) (p : Nat → Option Addr) (l c : Nat → Nat) (w : World) (h : Src w b a len cap k0) (hb : b < w.heap.size) (hk0 : k0 ≤ 1000) (hl : l 3 ≤ 100) :
    Calls Try.prog 15 #[.pointer (some ⟨b, 0, none⟩), netV p l c] w fun e' w' => ∃ (v : Value) (zs : List Int), e' = .returned v ∧ w'.ownsRow w.heap.size 3 1 v zs.length (zs.map (Value.int .i64)) ∧ zs.length = l 3 ∧ (∀ z ∈ zs, 0 ≤ z ∧ z < 3) ∧ Src w' b a len cap (k0 + l 3) ∧ w.grownBy w' (some b) := by
  have HS := hid h
  clear h
  obtain ⟨i0, hi0, hzz⟩ := Option.map_eq_some_iff.1 Try.info_int
  simp only [Prod.mk.injEq] at hzz
  obtain ⟨hz0, hz1, hz2⟩ := hzz
  have HI := hid hi0
  have HZ0 := hid hz0
  have HZ1 := hid hz1
  have HZ2 := hid hz2
  clear hi0 hz0 hz1 hz2
  unfold netV
  go_enter Try.func15, Try.ntmps15
  go_wp2_with fail
  obtain ⟨w1, hw1⟩ : ∃ w1, (w.alloc (.cells #[.slice (p 0) (l 0) (c 0), .slice (p 1) (l 1) (c 1), .slice (p 2) (l 2) (c 2), .slice (p 3) (l 3) (c 3), .slice (p 4) (l 4) (c 4), .slice (p 5) (l 5) (c 5)] 29)) = w1 := ⟨_, rfl⟩
  have HQ : Hid (w1.cell? ⟨w.heap.size, 3, none⟩ = some (.slice (p 3) (l 3) (c 3))) := hid (by rw [← hw1]; simp [go_sem])
  have HSz : Hid (w1.heap.size = w.heap.size + 1) := hid (by rw [← hw1]; simp)
  have HB1 : Hid (Below w.heap.size w w1) := hid (by rw [← hw1]; exact (by repeat (first | exact Below.refl _ _ | assumption | refine Below.drew ?_ | refine Below.alloc ?_ (by first | exact Nat.le_refl _ | omega | (simp; done) | (simp; omega)) _ | refine Below.setCell ?_ (by first | exact Nat.le_refl _ | omega | (simp; done) | (simp; omega)) _)))
  rw [hw1]
  clear hw1
  go_loopw [6, 5] (fun i v wr => ∃ zs : List Int, zs.length ≤ l 3 ∧ i = .int .i64 zs.length ∧ wr.ownsRow (w.heap.size + 1) 3 1 v zs.length (zs.map (Value.int .i64)) ∧ (∀ z ∈ zs, 0 ≤ z ∧ z < 3) ∧ Src wr b a len cap (k0 + zs.length) ∧ wr.cell? ⟨w.heap.size, 3, none⟩ = some (.slice (p 3) (l 3) (c 3)) ∧ w.heap.size + 1 ≤ wr.heap.size ∧ w.grownBy wr (some b)) (fun i _ _ => l 3 - (intOf i).toNat)
  case atStart =>
    have hB2 : Below w.heap.size w (w1.alloc (.cells #[] 3)) := HB1.out.alloc HB1.out.size _
    exact ⟨[], Nat.zero_le _, rfl, row_empty _ _ _ _ w1 (by rw [HSz.out]; exact Nat.le_refl _) HSz.out, fun z hz => (by cases hz), (HS.out.below hB2), keep ((Below.refl _ w1).alloc (Nat.le_refl _) _) HQ.out, by simp; have := HSz.out; omega, ⟨hB2.os, hB2.tape, hB2.output, hB2.size, fun k hk _ => hB2.block k hk⟩⟩
  case round =>
    obtain ⟨zs, hz, rfl, hown, hfac, hsrc, hq, hsz, hgr⟩ := hrel
    have HOw := hid hown
    have HFa := hid hfac
    have HSr := hid hsrc
    have HG := hid hgr
    have HQr := hid hq
    clear hown hfac hsrc hgr
    by_cases hlt : zs.length < l 3
    · obtain ⟨m, hm⟩ : ∃ m, zs.length = m := ⟨_, rfl⟩
      have HM := hid hm
      rw [hm] at hz hlt HOw HSr ⊢
      clear hm
      go_wp2_with fail
      refine (next_src b a len cap (k0 + m) 3 _ HSr.out (by omega) (by omega) (by omega)).mono ?_
      rintro e' w3 ⟨r, rfl, hr0, hr3, hs3, hg3⟩
      have HS3 := hid hs3
      have HG3 := hid hg3
      have hs3z := hg3.size
      have HO3 : Hid (w3.ownsRow (w.heap.size + 1) 3 1 u5 m (zs.map (Value.int .i64))) := hid (World.ownsRow.kept HOw.out hg3 (by
        cases hv : u5.ownBlock with
        | none => exact .inl rfl
        | some g => exact .inr fun e => by have := (World.ownsRow.lt HOw.out g hv).1; injection e with e; omega))
      have HQ3 := hid (hg3.cell HQr.out (fun e => by injection e with e; simp only at e; omega))
      clear hs3 hg3 hq
      go_wp2_with (at_builtin
                   refine wpList_append_own _ rfl _ _ 25 rfl (w.heap.size + 1) 3 i0 (.int .i64 0) 1 8 Try.underlying25 HI.out HZ0.out HZ1.out HZ2.out rfl (by decide) _ _ _ rfl (World.ownsRow.alloc HO3.out _) ⟨_, 0, none⟩ 1 1 [(Value.int .i64) r] rfl rfl (cell_one_new _ _ _) (fun x hx => by simp at hx; subst hx; rfl) (by unfold maxLen; omega) (by omega) (by simp; omega) ?_
                   intro v' w4 hown' hgrow hnil
                   have HO4 : Hid (w4.ownsRow (w.heap.size + 1) 3 1 v' (zs ++ [r]).length ((zs ++ [r]).map (Value.int .i64))) := hid (by rw [List.length_append, List.map_append, HM.out]; exact hown')
                   have HNe : Hid (∀ g, u5.ownBlock = some g → w.heap.size + 1 ≤ g) := hid (fun g hg => (World.ownsRow.lt HO3.out g hg).1)
                   have HBl : Hid (Below (w.heap.size + 1) w3 w4) := hid (((Below.refl _ w3).alloc (by omega) _).grown hgrow (by simp; omega) (fun g hg => HNe.out g hg))
                   clear hown' hgrow hnil)
      go_roundw
      case rel =>
        have hb4 := HBl.out
        refine ⟨zs ++ [r], by rw [List.length_append, HM.out]; exact hlt, by rw [List.length_append, HM.out]; go_num, HO4.out, (fun z hz => by rcases List.mem_append.1 hz with hz | hz; exact HFa.out z hz; rw [List.mem_singleton] at hz; rw [hz]; exact ⟨hr0, hr3⟩), ?_, ?_, by have := hb4.size; omega, ?_⟩
        · rw [List.length_append, HM.out]
          exact src_low HS3.out hb4 (by omega)
        · rw [World.cell?_of_block (hb4.block w.heap.size (by omega))]; exact HQ3.out
        · have h1 := HG.out
          have h3 := HG3.out
          exact ⟨hb4.os.trans (h3.os.trans h1.os), hb4.tape.trans (h3.tape.trans h1.tape), hb4.output.trans (h3.output.trans h1.output), Nat.le_trans h1.size (Nat.le_trans h3.size hb4.size), fun k hk hne => (hb4.block k (by omega)).trans ((h3.block k (by omega) hne).trans (h1.block k hk hne))⟩
      case measure => have := HM.out; simp [intOf]; omega
    · have e1 : zs.length = l 3 := by omega
      have HE := hid e1
      clear e1
      go_wp2_with fail
      go_ret
      refine ⟨_, zs, rfl, ?_, HE.out, HFa.out, by have := HSr.out; rw [HE.out] at this; exact this, HG.out⟩
      refine ⟨HOw.out.1, ?_⟩
      rcases HOw.out.2 with h2 | ⟨g, cp, cur, e, hg, rest⟩
      · exact .inl h2
      · exact .inr ⟨g, cp, cur, e, Nat.le_of_succ_le hg, rest⟩

set_option maxHeartbeats 1600000 in
set_option maxRecDepth 8000 in
theorem down_src (b : Nat) (a : Option Addr) (len cap k0 : Nat) (p : Nat → Option Addr) (l c : Nat → Nat) (w : World) (h : Src w b a len cap k0) (hb : b < w.heap.size) (hk0 : k0 ≤ 1000) (hl : l 1 ≤ 100) :
    Calls Try.prog 16 #[.pointer (some ⟨b, 0, none⟩), netV p l c] w fun e' w' => ∃ (v : Value) (zs : List Bool), e' = .returned v ∧ w'.ownsRow w.heap.size 4 1 v zs.length (zs.map Value.bool) ∧ zs.length = l 1 ∧ True ∧ Src w' b a len cap (k0 + l 1) ∧ w.grownBy w' (some b) := by
  have HS := hid h
  clear h
  obtain ⟨i0, hi0, hzz⟩ := Option.map_eq_some_iff.1 info_bool1
  simp only [Prod.mk.injEq] at hzz
  obtain ⟨hz0, hz1, hz2⟩ := hzz
  have HI := hid hi0
  have HZ0 := hid hz0
  have HZ1 := hid hz1
  have HZ2 := hid hz2
  clear hi0 hz0 hz1 hz2
  unfold netV
  go_enter Try.func16, Try.ntmps16
  go_wp2_with fail
  obtain ⟨w1, hw1⟩ : ∃ w1, (w.alloc (.cells #[.slice (p 0) (l 0) (c 0), .slice (p 1) (l 1) (c 1), .slice (p 2) (l 2) (c 2), .slice (p 3) (l 3) (c 3), .slice (p 4) (l 4) (c 4), .slice (p 5) (l 5) (c 5)] 29)) = w1 := ⟨_, rfl⟩
  have HQ : Hid (w1.cell? ⟨w.heap.size, 1, none⟩ = some (.slice (p 1) (l 1) (c 1))) := hid (by rw [← hw1]; simp [go_sem])
  have HSz : Hid (w1.heap.size = w.heap.size + 1) := hid (by rw [← hw1]; simp)
  have HB1 : Hid (Below w.heap.size w w1) := hid (by rw [← hw1]; exact (by repeat (first | exact Below.refl _ _ | assumption | refine Below.drew ?_ | refine Below.alloc ?_ (by first | exact Nat.le_refl _ | omega | (simp; done) | (simp; omega)) _ | refine Below.setCell ?_ (by first | exact Nat.le_refl _ | omega | (simp; done) | (simp; omega)) _)))
  rw [hw1]
  clear hw1
  go_loopw [6, 5] (fun i v wr => ∃ zs : List Bool, zs.length ≤ l 1 ∧ i = .int .i64 zs.length ∧ wr.ownsRow (w.heap.size + 1) 4 1 v zs.length (zs.map Value.bool) ∧ True ∧ Src wr b a len cap (k0 + zs.length) ∧ wr.cell? ⟨w.heap.size, 1, none⟩ = some (.slice (p 1) (l 1) (c 1)) ∧ w.heap.size + 1 ≤ wr.heap.size ∧ w.grownBy wr (some b)) (fun i _ _ => l 1 - (intOf i).toNat)
  case atStart =>
    have hB2 : Below w.heap.size w (w1.alloc (.cells #[] 4)) := HB1.out.alloc HB1.out.size _
    exact ⟨[], Nat.zero_le _, rfl, row_empty _ _ _ _ w1 (by rw [HSz.out]; exact Nat.le_refl _) HSz.out, trivial, (HS.out.below hB2), keep ((Below.refl _ w1).alloc (Nat.le_refl _) _) HQ.out, by simp; have := HSz.out; omega, ⟨hB2.os, hB2.tape, hB2.output, hB2.size, fun k hk _ => hB2.block k hk⟩⟩
  case round =>
    obtain ⟨zs, hz, rfl, hown, hfac, hsrc, hq, hsz, hgr⟩ := hrel
    have HOw := hid hown
    have HFa := hid hfac
    have HSr := hid hsrc
    have HG := hid hgr
    have HQr := hid hq
    clear hown hfac hsrc hgr
    by_cases hlt : zs.length < l 1
    · obtain ⟨m, hm⟩ : ∃ m, zs.length = m := ⟨_, rfl⟩
      have HM := hid hm
      rw [hm] at hz hlt HOw HSr ⊢
      clear hm
      go_wp2_with fail
      refine (chance_src b a len cap (k0 + m) 4 _ HSr.out (by omega) (by omega) (by omega)).mono ?_
      rintro e' w3 ⟨r, rfl, hs3, hg3⟩
      have HS3 := hid hs3
      have HG3 := hid hg3
      have hs3z := hg3.size
      have HO3 : Hid (w3.ownsRow (w.heap.size + 1) 4 1 u5 m (zs.map Value.bool)) := hid (World.ownsRow.kept HOw.out hg3 (by
        cases hv : u5.ownBlock with
        | none => exact .inl rfl
        | some g => exact .inr fun e => by have := (World.ownsRow.lt HOw.out g hv).1; injection e with e; omega))
      have HQ3 := hid (hg3.cell HQr.out (fun e => by injection e with e; simp only at e; omega))
      clear hs3 hg3 hq
      go_wp2_with (at_builtin
                   refine wpList_append_own _ rfl _ _ 32 rfl (w.heap.size + 1) 4 i0 (.bool false) 1 1 Try.underlying32 HI.out HZ0.out HZ1.out HZ2.out rfl (by decide) _ _ _ rfl (World.ownsRow.alloc HO3.out _) ⟨_, 0, none⟩ 1 1 [Value.bool r] rfl rfl (cell_one_new _ _ _) (fun x hx => by simp at hx; subst hx; rfl) (by unfold maxLen; omega) (by omega) (by simp; omega) ?_
                   intro v' w4 hown' hgrow hnil
                   have HO4 : Hid (w4.ownsRow (w.heap.size + 1) 4 1 v' (zs ++ [r]).length ((zs ++ [r]).map Value.bool)) := hid (by rw [List.length_append, List.map_append, HM.out]; exact hown')
                   have HNe : Hid (∀ g, u5.ownBlock = some g → w.heap.size + 1 ≤ g) := hid (fun g hg => (World.ownsRow.lt HO3.out g hg).1)
                   have HBl : Hid (Below (w.heap.size + 1) w3 w4) := hid (((Below.refl _ w3).alloc (by omega) _).grown hgrow (by simp; omega) (fun g hg => HNe.out g hg))
                   clear hown' hgrow hnil)
      go_roundw
      case rel =>
        have hb4 := HBl.out
        refine ⟨zs ++ [r], by rw [List.length_append, HM.out]; exact hlt, by rw [List.length_append, HM.out]; go_num, HO4.out, trivial, ?_, ?_, by have := hb4.size; omega, ?_⟩
        · rw [List.length_append, HM.out]
          exact src_low HS3.out hb4 (by omega)
        · rw [World.cell?_of_block (hb4.block w.heap.size (by omega))]; exact HQ3.out
        · have h1 := HG.out
          have h3 := HG3.out
          exact ⟨hb4.os.trans (h3.os.trans h1.os), hb4.tape.trans (h3.tape.trans h1.tape), hb4.output.trans (h3.output.trans h1.output), Nat.le_trans h1.size (Nat.le_trans h3.size hb4.size), fun k hk hne => (hb4.block k (by omega)).trans ((h3.block k (by omega) hne).trans (h1.block k hk hne))⟩
      case measure => have := HM.out; simp [intOf]; omega
    · have e1 : zs.length = l 1 := by omega
      have HE := hid e1
      clear e1
      go_wp2_with fail
      go_ret
      refine ⟨_, zs, rfl, ?_, HE.out, HFa.out, by have := HSr.out; rw [HE.out] at this; exact this, HG.out⟩
      refine ⟨HOw.out.1, ?_⟩
      rcases HOw.out.2 with h2 | ⟨g, cp, cur, e, hg, rest⟩
      · exact .inl h2
      · exact .inr ⟨g, cp, cur, e, Nat.le_of_succ_le hg, rest⟩
end Go.Proofs.Ytjdeoiohbbnmeaa.envDraw
