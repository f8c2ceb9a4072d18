/- BuildAig of the program: its code, its circuit, its literals, and whose memory they lie in; conditions: lengths that fit. -/
import Derived.Test.YtgjfgkdmfahkaaaBuildFault
import Derived.Test.YtgjfgkdmfahkaaaBuildBuild
import Derived.Test.YtgjfgkdmfahkaaaBuildSpec
namespace Go.Proofs.Ytgjfgkdmfahkaaa.buildFace
open Go.RowKit Go.Deep Go.Maps Go.WideMaps Go base copy trees treeEval buildSem buildTree buildList buildMap buildNew buildBuild buildFault heldStore intsOwn
open Go.Proofs.Ytgjfgkdmfahkaaa.buildSpec (results_three)
open Go.Proofs.Ytgjfgkdmfahkaaa.buildOps (new_apart)
set_option linter.unusedVariables false

/-- What BuildAig of the program answers: its gates and its literals lie in blocks of their own. -/
def AnsI (n : Int) (d : Nat) (t : T) (l : Nat) (w : World) (e : Ending) (w' : World) : Prop := ∃ gv lv, e = .returned (.tuple #[.agg #[.int .i64 (bN n d t l), gv], lv, .int .i64 (bC n d t l)]) ∧ w'.ownsRow w.heap.size 63 2 gv (bG n d t l).length (flatG (bG n d t l)) ∧ OwnInts w.heap.size w' lv (bL n d t l) ∧ (∀ g, lv.ownBlock = some g → some g ≠ gv.ownBlock) ∧ Below w.heap.size w w'
theorem no_ans {n : Int} {d : Nat} {t : T} {l : Nat} {w W : World} {C : Int} (h : bC n d t l = C) (hc : C ≠ 0) (hb : Below w.heap.size w W) : AnsI n d t l w (.returned (.tuple #[.agg #[.int .i64 0, .slice none 0 0], .slice none 0 0, .int .i64 C])) W := by
  have h0 : ¬ bC n d t l = 0 := by rw [h]; exact hc
  have e1 : bG n d t l = [] := by unfold bG; rw [if_neg h0]
  have e2 : bL n d t l = [] := by unfold bL; rw [if_neg h0]
  have e3 : bN n d t l = 0 := by unfold bN; rw [if_neg h0]
  exact ⟨.slice none 0 0, .slice none 0 0, by rw [e3, h], by rw [e1]; exact World.ownsRow_nil _ _ _ _, by rw [e2]; exact OwnInts.nil _ _, (fun g hg => by cases hg), hb⟩
theorem form_of {M mb B : Nat} {n : Int} {gs : Gl} {v : Value} {F : Nat → Value} {w : World} (h : Bd M mb B n gs v F w) : ∃ a c, v = .slice a gs.length c := by
  rcases h.own.2 with ⟨e, h0⟩ | ⟨g, cap, cur, e, _⟩
  · exact ⟨none, 0, by rw [e, h0]⟩
  · exact ⟨_, _, e⟩
theorem own_mono {B B' n : Nat} {w : World} {v : Value} {t : TypeId} {s : Nat} {xs : List Value} (h : w.ownsRow B t s v n xs) (hb : B' ≤ B) : w.ownsRow B' t s v n xs := by
  obtain ⟨h1, h2⟩ := h
  refine ⟨h1, ?_⟩
  rcases h2 with h2 | ⟨g, cap, cur, rfl, hg, hh, hn, hm, hs, ht⟩
  · exact .inl h2
  · exact .inr ⟨g, cap, cur, rfl, Nat.le_trans hb hg, hh, hn, hm, hs, ht⟩

set_option maxHeartbeats 6400000 in
set_option maxRecDepth 8000 in
theorem build_aig (d : Nat) (t : T) (a : Option Addr) (l c : Nat) (n : Int) (w : World) (hr : Rd (fun _ => True) 1048576 w d t a l) :
    Calls Try.prog 5 #[.int .i64 n, .slice a l c] w (AnsI n d t l w) := by
  have hm0 := hr.most
  have HR := hid hr
  clear hr
  by_cases h1 : 4096 < l
  · have e1 : decide ((4096 : Int) < (l : Int)) = true := decide_eq_true (by omega)
    have HC := hid (bC_long (n := n) (d := d) (t := t) h1)
    clear h1
    go_enter Try.func5, Try.ntmps5
    go_wp2
    refine bodyPost_ret (v := .tuple #[.agg #[.int .i64 0, .slice none 0 0], .slice none 0 0, .int .i64 2]) (by rw [results_three rfl]; go_simp) rfl ?_
    exact no_ans HC.out (by decide) (by repeat (first | exact Below.refl _ _ | assumption | refine Below.drew ?_ | refine Below.alloc ?_ (by first | exact Nat.le_refl _ | omega | (simp; done) | (simp; omega)) _ | refine Below.setCell ?_ (by first | exact Nat.le_refl _ | omega | (simp; done) | (simp; omega)) _))
  have e1 : decide ((4096 : Int) < (l : Int)) = false := decide_eq_false (by omega)
  by_cases h2 : 0 ≤ n ∧ n ≤ 12
  case neg =>
    have HC := hid (bC_range (d := d) (t := t) h1 h2)
    clear h1
    by_cases h3 : n < 0
    · have f3 : decide (n < 0) = true := decide_eq_true h3
      clear h2 h3
      go_enter Try.func5, Try.ntmps5
      go_wp2
      refine bodyPost_ret (v := .tuple #[.agg #[.int .i64 0, .slice none 0 0], .slice none 0 0, .int .i64 5]) (by rw [results_three rfl]; go_simp) rfl ?_
      exact no_ans HC.out (by decide) (by repeat (first | exact Below.refl _ _ | assumption | refine Below.drew ?_ | refine Below.alloc ?_ (by first | exact Nat.le_refl _ | omega | (simp; done) | (simp; omega)) _ | refine Below.setCell ?_ (by first | exact Nat.le_refl _ | omega | (simp; done) | (simp; omega)) _))
    · have f3 : decide (n < 0) = false := decide_eq_false h3
      have f4 : decide ((12 : Int) < n) = true := decide_eq_true (by omega)
      clear h2 h3
      go_enter Try.func5, Try.ntmps5
      go_wp2
      refine bodyPost_ret (v := .tuple #[.agg #[.int .i64 0, .slice none 0 0], .slice none 0 0, .int .i64 5]) (by rw [results_three rfl]; go_simp) rfl ?_
      exact no_ans HC.out (by decide) (by repeat (first | exact Below.refl _ _ | assumption | refine Below.drew ?_ | refine Below.alloc ?_ (by first | exact Nat.le_refl _ | omega | (simp; done) | (simp; omega)) _ | refine Below.setCell ?_ (by first | exact Nat.le_refl _ | omega | (simp; done) | (simp; omega)) _))
  obtain ⟨hn0, hn⟩ := h2
  have f3 : decide (n < 0) = false := decide_eq_false (by omega)
  have f4 : decide ((12 : Int) < n) = false := decide_eq_false (by omega)
  have H1 := hid h1
  have HC0 : Hid (∀ w8 : World, Below ((w.alloc (.cells #[.int .i64 0, .slice none 0 0] 29))).heap.size (w.alloc (.cells #[.int .i64 0, .slice none 0 0] 29)) w8 → (w8.cell? ⟨w.heap.size, 0, none⟩ = some (.int .i64 0) ∧ w8.cell? ⟨w.heap.size, 1, none⟩ = some (.slice none 0 0) ∧ w8.frozen? ⟨w.heap.size, 0, none⟩ = false ∧ w8.frozen? ⟨w.heap.size, 1, none⟩ = false) ∧ Rd (fun _ => True) 1048576 w8 d t a l ∧ Below w.heap.size w w8) := hid (fun w8 hb => by
    have hB : Below w.heap.size w w8 := (show Below w.heap.size w _ from (by repeat (first | exact Below.refl _ _ | assumption | refine Below.drew ?_ | refine Below.alloc ?_ (by first | exact Nat.le_refl _ | omega | (simp; done) | (simp; omega)) _ | refine Below.setCell ?_ (by first | exact Nat.le_refl _ | omega | (simp; done) | (simp; omega)) _))).trans (hb.mono (by simp))
    have hz : ∀ i, w8.frozen? ⟨w.heap.size, i, none⟩ = false := fun i => (World.frozen?_of_block (a := ⟨w.heap.size, i, none⟩) (hb.block w.heap.size (by simp))).trans (by simp [go_sem])
    exact ⟨⟨keep hb (by simp [go_sem]), keep hb (by simp [go_sem]), hz 0, hz 1⟩, HR.out.below hB, hB⟩)
  obtain ⟨m, hnm⟩ : ∃ m : Nat, n = (m : Int) := ⟨n.toNat, by omega⟩
  have HNM := hid hnm
  have HFI := hid (fun w8 h8 => fault_impl d t a l c m w8 h8)
  rw [← hnm] at HFI
  clear h1 hnm
  go_enter Try.func5, Try.ntmps5
  go_wp2_with fail
  refine (HFI.out _ (HC0.out _ (Below.refl _ _)).2.1).mono ?_
  rintro e w1 ⟨rfl, hb1⟩
  obtain ⟨⟨x0, x1, x2, x3⟩, hrd1, hB1⟩ := HC0.out _ hb1
  have HRd1 := hid hrd1
  have HB1 := hid hB1
  have HBk1 := hid hb1
  have hz1 : w.heap.size < w1.heap.size := World.block_lt_of_cell? _ _ x0
  clear hb1 hrd1 hB1
  by_cases hfl : faultL n d t l = 0
  case neg =>
    have HCC : Hid (bC n d t l = faultL n d t l) := hid (by unfold bC; rw [if_neg H1.out, if_neg (by simp [hn0, hn]), if_pos hfl])
    have HNZ := hid hfl
    have eq0 : (faultL n d t l != 0) = true := by simp [hfl]
    obtain ⟨fc, hfc⟩ : ∃ z, faultL n d t l = z := ⟨_, rfl⟩
    rw [hfc] at HCC HNZ eq0 ⊢
    clear hfl hfc
    go_wp2
    refine bodyPost_ret (v := .tuple #[.agg #[.int .i64 0, .slice none 0 0], .slice none 0 0, .int .i64 fc]) (by rw [results_three rfl]; go_simp) rfl ?_
    exact no_ans HCC.out HNZ.out ((HB1.out.setCell (Nat.le_refl _) _).setCell (Nat.le_refl _) _)
  have HF := hid hfl
  rw [hfl]
  clear hfl
  have HNew := hid (new_impl n w1 hn0 hn)
  go_wp2_with fail
  refine HNew.out.mono ?_
  rintro e wN ⟨M, mb, B, v0, rfl, hbN, hM, hmbz, hbd⟩
  have HBN := hid hbN
  have HBd := hid hbd
  have HB2 := hid (HB1.out.trans (hbN.mono HB1.out.size))
  have hlt0 := hbd.lt
  have hml0 := hbd.mlt
  have hle0 := hbd.le
  have hRdN : Rd (fun b => b < M ∧ b < mb) 1048576 wN d t a l := (HR.out.old).kept (fun b o u hq hu => ⟨keep HB2.out hu, by have := HB1.out.size; omega⟩)
  have HRd := hid hRdN
  obtain ⟨⟨x0, x1, x2, x3⟩, -, -⟩ := HC0.out _ (HBk1.out.trans (hbN.mono HBk1.out.size))
  have HCells : Hid (∀ w8, ChgB M mb v0 wN w8 → w8.cell? ⟨w.heap.size, 0, none⟩ = some (.int .i64 0) ∧ w8.cell? ⟨w.heap.size, 1, none⟩ = some (.slice none 0 0) ∧ w8.frozen? ⟨w.heap.size, 0, none⟩ = false ∧ w8.frozen? ⟨w.heap.size, 1, none⟩ = false) := hid (fun w8 hch => by
    have n1 : w.heap.size ≠ M := by omega
    have n2 : w.heap.size ≠ mb := by omega
    have n3 : some w.heap.size ≠ v0.ownBlock := fun e => by have := (World.ownsRow.lt HBd.out.own _ e.symm).1; omega
    have hzN : w.heap.size < wN.heap.size := by omega
    exact ⟨hch.cell n1 n2 n3 x0, hch.cell n1 n2 n3 x1, (World.frozen?_of_block (a := ⟨w.heap.size, 0, none⟩) (hch.block _ hzN n1 n2 n3)).trans x2, (World.frozen?_of_block (a := ⟨w.heap.size, 1, none⟩) (hch.block _ hzN n1 n2 n3)).trans x3⟩)
  have HBel : Hid (∀ w8, ChgB M mb v0 wN w8 → Below w.heap.size w w8) := hid (fun w8 hch => ⟨hch.os.trans HB2.out.os, hch.tape.trans HB2.out.tape, hch.output.trans HB2.out.output, Nat.le_trans HB2.out.size hch.size, fun j hj => (hch.block j (by omega) (by omega) (by omega) (fun e => by have := (World.ownsRow.lt HBd.out.own _ e.symm).1; omega)).trans (HB2.out.block j hj)⟩)
  have HAt := hid (fault_at HF.out)
  have HOkT : Hid (∀ i, i < l → OkT n (d - 1) (kid t i) ∧ size (d - 1) (kid t i) ≤ 400) := hid (fun i hi => by
    obtain ⟨f1, f2⟩ := fault_none (HAt.out i hi)
    obtain ⟨o1, o2, o3⟩ := okB_iff.1 f1
    obtain ⟨_, b, off, _, _, _, _, a', l', c', _, hx⟩ := HR.out.cell hi
    exact ⟨ok_of (d - 1) (kid t i) a' l' hx o3 f2, by omega⟩)
  obtain ⟨i0, hi0, hzz⟩ := Option.map_eq_some_iff.1 Try.info_int
  simp only [Prod.mk.injEq] at hzz
  obtain ⟨hz0, hz1', hz2⟩ := hzz
  have HI := hid hi0
  have HZ0 := hid hz0
  have HZ1 := hid hz1'
  have HZ2 := hid hz2
  clear hi0 hz0 hz1' hz2 x0 x1 x2 x3 hbN hbd hRdN HNew HFI
  go_wp2
  go_loopw [34, 9] (fun i kv0 w2 => ∃ (j : Nat) (v1 : Value) (ka : Option Addr) (kc : Nat), j ≤ l ∧ i = .int .i64 j ∧ kv0 = .slice ka j kc ∧ Bd M mb B n (rowB n d t j).2 v1 (opsOf M) w2 ∧ ChgB M mb v0 wN w2 ∧ New wN v0 v1 ∧ OwnInts wN.heap.size w2 (.slice ka j kc) (rowB n d t j).1 ∧ (∀ g, (Value.slice ka j kc).ownBlock = some g → some g ≠ v1.ownBlock) ∧ (rowB n d t j).2.length ≤ 400) (fun i _ _ => l - (intOf i).toNat)
  case atStart =>
    exact ⟨0, v0, _, _, Nat.zero_le _, rfl, rfl, HBd.out, ChgB.of_below (Below.refl _ _), New.refl _ _, OwnInts.nil _ _, (fun g hg => by cases hg), by simp [rowB, makeRow]⟩
  case round =>
    obtain ⟨j, v1, ka, kc, hj, rfl, rfl, hmk, hch, hnw, hown, hap, h400⟩ := hrel
    have HMj := hid hmk
    have HCj := hid hch
    have HNj := hid hnw
    have HOj := hid hown
    have HAj := hid hap
    have HQ : Hid (∀ b o u, (b < M ∧ b < mb) → wN.cell? ⟨b, o, none⟩ = some u → wr.cell? ⟨b, o, none⟩ = some u) := hid (fun b o u hb hu => hch.cell (by omega) (by omega) (fun e => by have := (World.ownsRow.lt HBd.out.own _ e.symm).1; omega) hu)
    have hszj := hch.size
    have HRowL := hid (row_len (makeT n (d - 1)) t [] j)
    clear hmk hch hnw hown hap
    by_cases hlt : j < l
    · obtain ⟨hd0, b, off, rfl, hbo, y0, y1, a', l', c', y2, hx⟩ := HRd.out.cell hlt
      replace y0 := HQ.out _ _ _ hbo y0
      replace y1 := HQ.out _ _ _ hbo y1
      replace y2 := HQ.out _ _ _ hbo y2
      have HX : Hid (Rd (fun b => b < M ∧ b < mb) 1048576 wr (d - 1) (kid t j) a' l') := hid (hx.kept fun b' o u hq hu => ⟨HQ.out _ _ _ hq hu, hq⟩)
      obtain ⟨hokt, hs400⟩ := HOkT.out j hlt
      have HCall := hid (fun w8 h1 h2 => build_impl M mb B n hn0 hn (d - 1) (kid t j) (rowB n d t j).2 v1 a' l' c' w8 h1 h2 hokt (by omega))
      have HG1 : Hid ((rowB n d t (j + 1)).1 = (rowB n d t j).1 ++ [(makeT n (d - 1) (kid t j) (rowB n d t j).2).1]) := hid rfl
      have HG2 : Hid ((rowB n d t (j + 1)).2 = (makeT n (d - 1) (kid t j) (rowB n d t j).2).2) := hid rfl
      have hbr := World.block_lt_of_cell? _ _ y0
      have HF4 := hid (make_fine hn0 (d - 1) (kid t j) (rowB n d t j).2 hokt)
      have HA1 : Hid (Below wr.heap.size wr (wr.alloc (.cells #[.int .i64 (kd (kid t j)), .int .i64 (nn (kid t j)), .slice a' l' c'] 25))) := hid (by repeat (first | exact Below.refl _ _ | assumption | refine Below.drew ?_ | refine Below.alloc ?_ (by first | exact Nat.le_refl _ | omega | (simp; done) | (simp; omega)) _ | refine Below.setCell ?_ (by first | exact Nat.le_refl _ | omega | (simp; done) | (simp; omega)) _))
      clear hx hokt
      go_wp2_with fail
      refine (HCall.out _ (HMj.out.below HA1.out) (HX.out.kept fun b' o u hq hu => ⟨keep HA1.out hu, hq⟩)).mono ?_
      rintro e w2 ⟨v2, rfl, hmk, hch0, hnw0⟩
      have hch : ChgB M mb v1 wr w2 := (ChgB.of_below HA1.out).trans (New.refl _ _) hch0
      have hnw : New wr v1 v2 := (New.refl wr v1).trans hnw0 HA1.out.size
      rw [← HG2.out] at hmk
      obtain ⟨z, hz⟩ : ∃ z, (makeT n (d - 1) (kid t j) (rowB n d t j).2).1 = z := ⟨_, rfl⟩
      rw [hz] at HG1 ⊢
      have HM2 := hid hmk
      have hkM : ∀ g, (Value.slice ka j kc).ownBlock = some g → g ≠ M ∧ g ≠ mb ∧ wN.heap.size ≤ g ∧ g < wr.heap.size := fun g hg => by
        have := World.ownsRow.lt HOj.out g hg
        omega
      have HO2 : Hid (OwnInts wN.heap.size w2 (.slice ka j kc) (rowB n d t j).1) := hid (own_kept HOj.out fun g hg => hch.block g (hkM g hg).2.2.2 (hkM g hg).1 (hkM g hg).2.1 (HAj.out g hg))
      have HC2 := hid (HCj.out.trans HNj.out hch)
      have HN2 := hid (HNj.out.trans hnw HCj.out.size)
      have HA2 : Hid (∀ g, (Value.slice ka j kc).ownBlock = some g → some g ≠ v2.ownBlock) := hid (fun g hg => new_apart hnw (HAj.out g hg) (hkM g hg).2.2.2)
      have HKM := hid hkM
      have hs2 := hch.size
      clear hmk hch hnw hz hkM HCall HX y0 y1 y2 HQ hch0 hnw0
      have HA3 : Hid (Below w2.heap.size w2 (w2.alloc (.cells #[.int .i64 z] 3))) := hid (by repeat (first | exact Below.refl _ _ | assumption | refine Below.drew ?_ | refine Below.alloc ?_ (by first | exact Nat.le_refl _ | omega | (simp; done) | (simp; omega)) _ | refine Below.setCell ?_ (by first | exact Nat.le_refl _ | omega | (simp; done) | (simp; omega)) _))
      by_cases h4 : 400 < (rowB n d t (j + 1)).2.length
      · have e4 : decide ((400 : Int) < ((rowB n d t (j + 1)).2.length : Int)) = true := decide_eq_true (by omega)
        have HCC := hid (bC_size (k := j + 1) H1.out ⟨hn0, hn⟩ HF.out (fun i hi => (HOkT.out i hi).1) (by omega) h4)
        clear h4
        go_wp2_with
          (at_builtin
           refine wpList_append_own_at _ rfl _ _ 30 rfl wN.heap.size 3 i0 (.int .i64 0) 1 8 Try.underlying30 HI.out HZ0.out HZ1.out HZ2.out rfl (by decide) _ _ _ rfl (OwnInts.below HO2.out HA3.out) ⟨w2.heap.size, 0, none⟩ 1 1 [.int .i64 z] rfl rfl (cell_one _ _ _) (fun x hx => by simp at hx; subst hx; rfl) (by rw [HRowL.out]; unfold maxLen; omega) (by rw [HRowL.out]; omega) (by simp; omega) ?_
           intro v3 w3 hown3 hg3 hnil3 hat3
           have HM3 := hid (Bd.grown (HM2.out.below HA3.out) hg3 (fun e => (HKM.out _ e.symm).1 rfl) (fun e => (HKM.out _ e.symm).2.1 rfl) (fun g hg e => HA2.out g e.symm hg.symm))
           have HC3 := hid (ChgB.grown (HC2.out.trans HN2.out (ChgB.of_below HA3.out)) hg3 (fun g hg => (HKM.out g hg).2.2.1))
           have HO3 : Hid (OwnInts wN.heap.size w3 v3 (rowB n d t (j + 1)).1) := hid (by
             rw [HG1.out]
             unfold OwnInts
             rw [List.length_append, List.map_append]
             exact hown3)
           have HA4 : Hid (∀ g, v3.ownBlock = some g → some g ≠ v2.ownBlock) := hid (fun g hg => by
             rcases hat3 with e | e
             · exact HA2.out g (e.symm.trans hg)
             · intro e2
               rw [e] at hg
               injection hg with hg
               have := (World.ownsRow.lt HM2.out.own g e2.symm).2
               simp at hg
               omega)
           clear hown3 hg3 hnil3 hat3
           obtain ⟨a3, c3, e3, -⟩ := HO3.out.form
           rw [row_len] at e3
           subst e3
           have m1 := HM3.out.c1
           obtain ⟨va, vc, hva⟩ := form_of HM3.out
           rw [hva] at m1
           obtain ⟨x0, x1, x2, x3⟩ := HCells.out _ HC3.out
           have HB3 := hid (HBel.out _ HC3.out)
           have hz3 : w.heap.size < w3.heap.size := World.block_lt_of_cell? _ _ x0
           have hMz : M < w3.heap.size := World.block_lt_of_cell? _ _ m1)
        refine bodyPost_ret (v := .tuple #[.agg #[.int .i64 0, .slice none 0 0], .slice none 0 0, .int .i64 11]) (by rw [results_three rfl]; go_simp) rfl ?_
        exact no_ans HCC.out (by decide) ((HB3.out.setCell (Nat.le_refl _) _).setCell (Nat.le_refl _) _)
      · have e4 : decide ((400 : Int) < ((rowB n d t (j + 1)).2.length : Int)) = false := decide_eq_false (by omega)
        have H4 := hid h4
        clear h4
        go_wp2_with
          (at_builtin
           refine wpList_append_own_at _ rfl _ _ 30 rfl wN.heap.size 3 i0 (.int .i64 0) 1 8 Try.underlying30 HI.out HZ0.out HZ1.out HZ2.out rfl (by decide) _ _ _ rfl (OwnInts.below HO2.out HA3.out) ⟨w2.heap.size, 0, none⟩ 1 1 [.int .i64 z] rfl rfl (cell_one _ _ _) (fun x hx => by simp at hx; subst hx; rfl) (by rw [HRowL.out]; unfold maxLen; omega) (by rw [HRowL.out]; omega) (by simp; omega) ?_
           intro v3 w3 hown3 hg3 hnil3 hat3
           have HM3 := hid (Bd.grown (HM2.out.below HA3.out) hg3 (fun e => (HKM.out _ e.symm).1 rfl) (fun e => (HKM.out _ e.symm).2.1 rfl) (fun g hg e => HA2.out g e.symm hg.symm))
           have HC3 := hid (ChgB.grown (HC2.out.trans HN2.out (ChgB.of_below HA3.out)) hg3 (fun g hg => (HKM.out g hg).2.2.1))
           have HO3 : Hid (OwnInts wN.heap.size w3 v3 (rowB n d t (j + 1)).1) := hid (by
             rw [HG1.out]
             unfold OwnInts
             rw [List.length_append, List.map_append]
             exact hown3)
           have HA4 : Hid (∀ g, v3.ownBlock = some g → some g ≠ v2.ownBlock) := hid (fun g hg => by
             rcases hat3 with e | e
             · exact HA2.out g (e.symm.trans hg)
             · intro e2
               rw [e] at hg
               injection hg with hg
               have := (World.ownsRow.lt HM2.out.own g e2.symm).2
               simp at hg
               omega)
           clear hown3 hg3 hnil3 hat3
           obtain ⟨a3, c3, e3, -⟩ := HO3.out.form
           rw [row_len] at e3
           subst e3
           have m1 := HM3.out.c1
           obtain ⟨va, vc, hva⟩ := form_of HM3.out
           rw [hva] at m1
           obtain ⟨x0, x1, x2, x3⟩ := HCells.out _ HC3.out
           have HB3 := hid (HBel.out _ HC3.out)
           have hz3 : w.heap.size < w3.heap.size := World.block_lt_of_cell? _ _ x0
           have hMz : M < w3.heap.size := World.block_lt_of_cell? _ _ m1)
        go_roundw
        case rel => exact ⟨j + 1, v2, a3, c3, by omega, by go_num, rfl, HM3.out, HC3.out, HN2.out, HO3.out, HA4.out, by have := H4.out; omega⟩
        case measure => simp [intOf]; omega
    · have ej : j = l := by omega
      subst ej
      have hjj : decide (j < j) = false := decide_eq_false (by omega)
      have HCC := hid (bC_ok (n := n) (d := d) (t := t) H1.out ⟨hn0, hn⟩ HF.out (by omega))
      have m0 := HMj.out.c0
      have m1 := HMj.out.c1
      obtain ⟨va, vc, hva⟩ := form_of HMj.out
      rw [hva] at m1
      have HVA := hid hva
      obtain ⟨x0, x1, x2, x3⟩ := HCells.out _ HCj.out
      have HBr := hid (HBel.out _ HCj.out)
      have hzr : w.heap.size < wr.heap.size := World.block_lt_of_cell? _ _ x0
      have hMz : M < wr.heap.size := World.block_lt_of_cell? _ _ m1
      clear hlt hva
      go_wp2
      refine bodyPost_ret (v := .tuple #[.agg #[.int .i64 n, .slice va (rowB n d t j).2.length vc], .slice ka j kc, .int .i64 0]) (by rw [results_three rfl]; go_simp) rfl ?_
      have e1 : bG n d t j = (rowB n d t j).2 := by unfold bG; rw [if_pos HCC.out]
      have e2 : bL n d t j = (rowB n d t j).1 := by unfold bL; rw [if_pos HCC.out]
      have e3 : bN n d t j = n := by unfold bN; rw [if_pos HCC.out]
      refine ⟨.slice va (rowB n d t j).2.length vc, .slice ka j kc, by rw [e3, HCC.out], ?_, ?_, ?_, (HBr.out.setCell (Nat.le_refl _) _).setCell (Nat.le_refl _) _⟩
      · rw [e1, ← HVA.out]
        refine own_mono (own_kept HMj.out.own fun g hg => ?_) (show w.heap.size ≤ B by omega)
        have := (World.ownsRow.lt HMj.out.own g hg).1
        exact (Below.heap_setCell _ _ _ _ (by dsimp only; omega)).trans (Below.heap_setCell _ _ _ _ (by dsimp only; omega))
      · rw [e2]
        refine OwnInts.mono (own_kept HOj.out fun g hg => ?_) (show w.heap.size ≤ wN.heap.size by omega)
        have := (World.ownsRow.lt HOj.out g hg).1
        exact (Below.heap_setCell _ _ _ _ (by dsimp only; omega)).trans (Below.heap_setCell _ _ _ _ (by dsimp only; omega))
      · rw [← HVA.out]
        exact HAj.out
end Go.Proofs.Ytgjfgkdmfahkaaa.buildFace
