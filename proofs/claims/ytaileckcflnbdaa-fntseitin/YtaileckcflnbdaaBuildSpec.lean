/- The circuit of a list of expressions, of the specification; conditions: none. -/
import Derived.Test.YtaileckcflnbdaaBuildMake
import Derived.Test.YtaileckcflnbdaaBuildList
import Derived.Test.YtaileckcflnbdaaTreeVars
namespace Go.Proofs.Ytaileckcflnbdaa.buildSpec
open Go.RowKit Go.Deep Go base copy trees treeEval treeSpec treeVars buildSem buildTree buildAnd buildMake buildList intsOwn
set_option linter.unusedVariables false

theorem results_three {fn : Func} {p u u2 : Tmp} {ty : TypeId} (h : fn.results = #[.cell p ty, .tmp u, .tmp u2]) (tmps : Array Value) (P : Program) (w : World) :
    (results fn tmps).run P w =
      ((asAddr (tmps.getD p undef)).run P w).andThen fun a w₁ => ((loadVar ty a).run P w₁).andThen fun v w₂ => .ok (.tuple #[v, tmps.getD u undef, tmps.getD u2 undef]) w₂ := by
  simp only [results, h]
  simp [Sem.run_bind, Result.andThen]
/-- A slice of gates. -/
def GateL (w : World) (a : Option Addr) (gs : Gl) : Prop := ∀ i, i < gs.length → ∃ b off, a = some ⟨b, off, none⟩ ∧ w.cell? ⟨b, off + i * 2, none⟩ = some (.int .i64 (gs[i]?.getD (0, 0)).1) ∧ w.cell? ⟨b, off + i * 2 + 1, none⟩ = some (.int .i64 (gs[i]?.getD (0, 0)).2)
/-- What BuildAig answers. -/
def Ans (n : Int) (d : Nat) (t : T) (l : Nat) (w : World) (e : Ending) (w' : World) : Prop := ∃ ga gc la lc, e = .returned (.tuple #[.agg #[.int .i64 (bN n d t l), .slice ga (bG n d t l).length gc], .slice la (bL n d t l).length lc, .int .i64 (bC n d t l)]) ∧ GateL w' ga (bG n d t l) ∧ IntRow w' la (bL n d t l).length (bL n d t l) ∧ Below w.heap.size w w'
theorem no_ans {n : Int} {d : Nat} {t : T} {l : Nat} {w W : World} {C : Int} {la : Option Addr} {lc : Nat} (h : bC n d t l = C) (hc : C ≠ 0) (hb : Below w.heap.size w W) : Ans n d t l w (.returned (.tuple #[.agg #[.int .i64 0, .slice none 0 0], .slice la 0 lc, .int .i64 C])) W := by
  have e1 : bG n d t l = [] := by unfold bG; rw [h, if_neg hc]
  have e2 : bL n d t l = [] := by unfold bL; rw [h, if_neg hc]
  have e3 : bN n d t l = 0 := by unfold bN; rw [h, if_neg hc]
  refine ⟨none, 0, la, lc, by rw [e1, e2, e3, h]; rfl, ?_, ?_, hb⟩
  · rw [e1]; intro i hi; exact absurd hi (Nat.not_lt_zero _)
  · rw [e2]; exact ⟨rfl, Nat.zero_le _, fun i hi => absurd hi (Nat.not_lt_zero _)⟩

set_option maxHeartbeats 6400000 in
set_option maxRecDepth 8000 in
theorem build_spec (d : Nat) (t : T) (a : Option Addr) (l c : Nat) (n : Int) (w : World) (hr : Rd (fun _ => True) 1048576 w d t a l) :
    Calls Try.prog 5 #[.int .i64 n, .slice a l c] w (Ans n d t l w) := by
  have hm0 := hr.most
  have HR := hid hr
  clear hr
  by_cases h1 : 4096 < l
  · have e1 : decide ((4096 : Int) < (l : Int)) = true := decide_eq_true (by omega)
    have HC := hid (bC_long (n := n) (d := d) (t := t) h1)
    clear h1
    go_enter Try.func5, Try.ntmps5
    go_wp2
    refine bodyPost_ret (v := .tuple #[.agg #[.int .i64 0, .slice none 0 0], .slice (some ⟨w.heap.size + 1, 0, none⟩) 0 0, .int .i64 2]) (by rw [results_three rfl]; go_simp) rfl ?_
    exact no_ans HC.out (by decide) (by repeat (first | exact Below.refl _ _ | assumption | refine Below.drew ?_ | refine Below.alloc ?_ (by first | exact Nat.le_refl _ | omega | (simp; done) | (simp; omega)) _ | refine Below.setCell ?_ (by first | exact Nat.le_refl _ | omega | (simp; done) | (simp; omega)) _))
  have e1 : decide ((4096 : Int) < (l : Int)) = false := decide_eq_false (by omega)
  by_cases h2 : 0 ≤ n ∧ n ≤ 12
  case neg =>
    have e2 : inB n 0 12 = false := decide_eq_false h2
    have HC := hid (bC_range (d := d) (t := t) h1 h2)
    clear h1 h2
    go_enter Try.func5, Try.ntmps5
    go_wp2_with (go_at_call 15; refine (in_spec _ _ _ _).mono ?_; rintro e' w' ⟨rfl, rfl⟩)
    refine bodyPost_ret (v := .tuple #[.agg #[.int .i64 0, .slice none 0 0], .slice (some ⟨w.heap.size + 1, 0, none⟩) 0 0, .int .i64 5]) (by rw [results_three rfl]; go_simp) rfl ?_
    exact no_ans HC.out (by decide) (by repeat (first | exact Below.refl _ _ | assumption | refine Below.drew ?_ | refine Below.alloc ?_ (by first | exact Nat.le_refl _ | omega | (simp; done) | (simp; omega)) _ | refine Below.setCell ?_ (by first | exact Nat.le_refl _ | omega | (simp; done) | (simp; omega)) _))
  have e2 : inB n 0 12 = true := decide_eq_true h2
  obtain ⟨hn0, hn⟩ := h2
  have H1 := hid h1
  have HC0 : Hid (∀ w8 : World, Below ((w.alloc (.cells #[.int .i64 0, .slice none 0 0] 29))).heap.size (w.alloc (.cells #[.int .i64 0, .slice none 0 0] 29)) w8 → (w8.cell? ⟨w.heap.size, 0, none⟩ = some (.int .i64 0) ∧ w8.cell? ⟨w.heap.size, 1, none⟩ = some (.slice none 0 0) ∧ w8.frozen? ⟨w.heap.size, 0, none⟩ = false ∧ w8.frozen? ⟨w.heap.size, 1, none⟩ = false) ∧ Rd (fun _ => True) 1048576 w8 d t a l ∧ Below w.heap.size w w8) := hid (fun w8 hb => by
    have hB : Below w.heap.size w w8 := (show Below w.heap.size w _ from (by repeat (first | exact Below.refl _ _ | assumption | refine Below.drew ?_ | refine Below.alloc ?_ (by first | exact Nat.le_refl _ | omega | (simp; done) | (simp; omega)) _ | refine Below.setCell ?_ (by first | exact Nat.le_refl _ | omega | (simp; done) | (simp; omega)) _))).trans (hb.mono (by simp))
    have hz : ∀ i, w8.frozen? ⟨w.heap.size, i, none⟩ = false := fun i => (World.frozen?_of_block (a := ⟨w.heap.size, i, none⟩) (hb.block w.heap.size (by simp))).trans (by simp [go_sem])
    exact ⟨⟨keep hb (by simp [go_sem]), keep hb (by simp [go_sem]), hz 0, hz 1⟩, HR.out.below hB, hB⟩)
  clear h1
  go_enter Try.func5, Try.ntmps5
  go_wp2_with (go_at_call 15; refine (in_spec _ _ _ _).mono ?_; rintro e' w' ⟨rfl, rfl⟩)
  go_loopw [7] (fun i wr => ∃ k : Nat, k ≤ l ∧ i = .int .i64 k ∧ faultL n d t k = 0 ∧ Below ((w.alloc (.cells #[.int .i64 0, .slice none 0 0] 29))).heap.size (w.alloc (.cells #[.int .i64 0, .slice none 0 0] 29)) wr) (fun i _ => l - (intOf i).toNat)
  case atStart => exact ⟨0, Nat.zero_le _, rfl, rfl, Below.refl _ _⟩
  case round =>
    obtain ⟨k, hk, rfl, hfl, hbel⟩ := hrel
    have HF := hid hfl
    have HBk := hid hbel
    obtain ⟨⟨x0, x1, x2, x3⟩, hrd, hB⟩ := HC0.out _ hbel
    have HRd := hid hrd
    have HB := hid hB
    have hwz := World.block_lt_of_cell? _ _ x0
    simp only at hwz
    clear hfl hbel hrd hB
    by_cases hlt : k < l
    · obtain ⟨hd0, b, off, rfl, -, y0, y1, a', l', c', y2, hx⟩ := HRd.out.cell hlt
      have HX := hid hx
      have HNext := hid (fault_next HF.out)
      have HStop := hid (fun h => bC_fault (k := k) H1.out ⟨hn0, hn⟩ hlt HF.out h)
      have HFA : Hid (faultAt n d t k = if okB (d - 1) (kid t k) 1 0 = false then 1 else if n ≤ mostV (d - 1) (kid t k) then 5 else 0) := hid rfl
      have HX1 := hid (exOK_spec (d - 1) (kid t k) a' l' c')
      have HX2 := hid (mostE (d - 1) (kid t k) a' l' c')
      obtain ⟨ok, hok⟩ : ∃ b, okB (d - 1) (kid t k) 1 0 = b := ⟨_, rfl⟩
      rw [hok] at HFA HX1
      generalize mostV (d - 1) (kid t k) = mv at *
      clear hx hok
      go_wp2_with fail
      refine (HX1.out _ HX.out).mono ?_
      rintro e w2 ⟨rfl, hb2⟩
      replace x0 := keep hb2 x0
      replace x1 := keep hb2 x1
      replace x2 := ((bcell hb2).2 _ _ hwz).trans x2
      replace x3 := ((bcell hb2).2 _ _ hwz).trans x3
      replace y0 := keep hb2 y0
      replace y1 := keep hb2 y1
      replace y2 := keep hb2 y2
      have H2 := hid (HBk.out.trans (hb2.mono HBk.out.size))
      have HB2 := hid (HB.out.trans (hb2.mono HB.out.size))
      have HXR := hid (HX.out.below hb2)
      have hwz2 : w.heap.size < w2.heap.size := Nat.lt_of_lt_of_le hwz hb2.size
      clear hb2
      cases ok with
      | false =>
        have HFA1 : Hid (faultAt n d t k = 1) := hid (by rw [HFA.out]; rfl)
        have HCC := hid (HStop.out (by rw [HFA1.out]; decide))
        rw [HFA1.out] at HCC
        go_wp2
        refine bodyPost_ret (v := .tuple #[.agg #[.int .i64 0, .slice none 0 0], .slice (some ⟨w2.heap.size, 0, none⟩) 0 0, .int .i64 1]) (by rw [results_three rfl]; go_simp) rfl ?_
        exact no_ans HCC.out (by decide) (((HB2.out.setCell (Nat.le_refl _) _).setCell (Nat.le_refl _) _).alloc (by simp; omega) _)
      | true =>
      go_wp2_with fail
      refine (HX2.out _ HXR.out).mono ?_
      rintro e w3 ⟨rfl, hb3⟩
      replace x0 := keep hb3 x0
      replace x1 := keep hb3 x1
      replace x2 := ((bcell hb3).2 _ _ hwz2).trans x2
      replace x3 := ((bcell hb3).2 _ _ hwz2).trans x3
      have H3 := hid (H2.out.trans (hb3.mono H2.out.size))
      have HB3 := hid (HB2.out.trans (hb3.mono HB2.out.size))
      have hwz3 : w.heap.size < w3.heap.size := Nat.lt_of_lt_of_le hwz2 hb3.size
      clear hb3
      by_cases hmv : n ≤ mv
      · have em : decide (n ≤ mv) = true := decide_eq_true hmv
        have HFA1 : Hid (faultAt n d t k = 5) := hid (by rw [HFA.out, if_neg (by simp), if_pos hmv])
        have HCC := hid (HStop.out (by rw [HFA1.out]; decide))
        rw [HFA1.out] at HCC
        clear hmv
        go_wp2
        refine bodyPost_ret (v := .tuple #[.agg #[.int .i64 0, .slice none 0 0], .slice (some ⟨w3.heap.size, 0, none⟩) 0 0, .int .i64 5]) (by rw [results_three rfl]; go_simp) rfl ?_
        exact no_ans HCC.out (by decide) (((HB3.out.setCell (Nat.le_refl _) _).setCell (Nat.le_refl _) _).alloc (by simp; omega) _)
      · have em : decide (n ≤ mv) = false := decide_eq_false hmv
        have HFA1 : Hid (faultL n d t (k + 1) = 0) := hid (by rw [HNext.out, HFA.out, if_neg (by simp), if_neg hmv])
        clear hmv
        go_wp2
        go_roundw
        case rel => exact ⟨k + 1, by omega, by go_num, HFA1.out, H3.out⟩
        case measure => simp [intOf]; omega
    · have ek : k = l := by omega
      subst ek
      generalize hq : wr = wM at *
      clear hq
      have hlt' : decide (k < k) = false := decide_eq_false (by omega)
      have HAt := hid (fault_at HF.out)
      have HOkT : Hid (∀ i, i < k → OkT n (d - 1) (kid t i) ∧ size (d - 1) (kid t i) ≤ 400) := hid (fun i hi => by
        obtain ⟨f1, f2⟩ := fault_none (HAt.out i hi)
        obtain ⟨o1, o2, o3⟩ := okB_iff.1 f1
        obtain ⟨_, b, off, _, _, _, _, a', l', c', _, hx⟩ := HR.out.cell hi
        exact ⟨ok_of (d - 1) (kid t i) a' l' hx o3 f2, by omega⟩)
      have HFine := hid (fun j (hj : j ≤ k) => row_fine (n := n) (makeT n (d - 1)) t (fun i => size (d - 1) (kid t i)) [] j (fun i hi gs' => make_fine hn0 (d - 1) (kid t i) gs' (HOkT.out i (by omega)).1))
      have HMk1 : Hid (Mk 56 wM.heap.size (wM.heap.size + 1) n [] (.slice none 0 0) (wM.alloc (.cells #[.int .i64 n, .slice none 0 0] 56))) := hid ⟨by
        have := World.rowIs_alloc wM #[.int .i64 n, .slice none 0 0] 56 (fun i => if i = 0 then .int .i64 n else .slice none 0 0) (fun i hi => by
          have : i < 2 := hi
          match i, this with
          | 0, _ => rfl
          | 1, _ => rfl)
        exact this, World.ownsRow_nil _ _ _ _, by omega, by simp⟩
      obtain ⟨i0, hi0, hzz⟩ := Option.map_eq_some_iff.1 Try.info_int
      simp only [Prod.mk.injEq] at hzz
      obtain ⟨hz0, hz1, hz2⟩ := hzz
      have HI := hid hi0
      have HZ0 := hid hz0
      have HZ1 := hid hz1
      have HZ2 := hid hz2
      have X0 := hid x0
      have X1 := hid x1
      have X2 := hid x2
      have X3 := hid x3
      clear hi0 hz0 hz1 hz2 hlt x0 x1 x2 x3
      go_wp2
      go_loopw [10, 9] (fun i kv0 w2 => ∃ (j : Nat) (v1 : Value) (ka : Option Addr) (kc : Nat), j ≤ k ∧ i = .int .i64 j ∧ kv0 = .slice ka j kc ∧ Mk 56 wM.heap.size (wM.heap.size + 1) n (rowB n d t j).2 v1 w2 ∧ Chg wM.heap.size (.slice none 0 0) (wM.alloc (.cells #[.int .i64 n, .slice none 0 0] 56)) w2 ∧ New (wM.alloc (.cells #[.int .i64 n, .slice none 0 0] 56)) (.slice none 0 0) v1 ∧ OwnInts (wM.heap.size + 1) w2 (.slice ka j kc) (rowB n d t j).1 ∧ (∀ g, (Value.slice ka j kc).ownBlock = some g → some g ≠ v1.ownBlock) ∧ (rowB n d t j).2.length ≤ 400) (fun i _ _ => k - (intOf i).toNat)
      case atStart =>
        refine ⟨0, .slice none 0 0, _, _, Nat.zero_le _, rfl, rfl, HMk1.out.below (by repeat (first | exact Below.refl _ _ | assumption | refine Below.drew ?_ | refine Below.alloc ?_ (by first | exact Nat.le_refl _ | omega | (simp; done) | (simp; omega)) _ | refine Below.setCell ?_ (by first | exact Nat.le_refl _ | omega | (simp; done) | (simp; omega)) _)), Chg.of_below (by repeat (first | exact Below.refl _ _ | assumption | refine Below.drew ?_ | refine Below.alloc ?_ (by first | exact Nat.le_refl _ | omega | (simp; done) | (simp; omega)) _ | refine Below.setCell ?_ (by first | exact Nat.le_refl _ | omega | (simp; done) | (simp; omega)) _)), New.refl _ _, own_empty _ _ _ (by simp) (by simp), (fun g hg e => by cases e), by simp [rowB, makeRow]⟩
      case round =>
        obtain ⟨j, v1, ka, kc, hj, rfl, rfl, hmk, hch, hnw, hown, hap, h400⟩ := hrel
        have HMj := hid hmk
        have HCj := hid hch
        have HNj := hid hnw
        have HOj := hid hown
        have HAj := hid hap
        have HQ : Hid (∀ b o u, b < wM.heap.size → wM.cell? ⟨b, o, none⟩ = some u → wr.cell? ⟨b, o, none⟩ = some u) := hid (fun b o u hb hu => hch.cell (by omega) (fun e => by cases e) (keep (show Below wM.heap.size wM _ from (by repeat (first | exact Below.refl _ _ | assumption | refine Below.drew ?_ | refine Below.alloc ?_ (by first | exact Nat.le_refl _ | omega | (simp; done) | (simp; omega)) _ | refine Below.setCell ?_ (by first | exact Nat.le_refl _ | omega | (simp; done) | (simp; omega)) _))) hu))
        have HQZ : Hid (∀ b o, b < wM.heap.size → wr.frozen? ⟨b, o, none⟩ = wM.frozen? ⟨b, o, none⟩) := hid (fun b o hb => by
          rw [World.frozen?_of_block (a := ⟨b, o, none⟩) (hch.block b (by simp; omega) (by omega) (fun e => by cases e))]
          exact (bcell (show Below wM.heap.size wM _ from (by repeat (first | exact Below.refl _ _ | assumption | refine Below.drew ?_ | refine Below.alloc ?_ (by first | exact Nat.le_refl _ | omega | (simp; done) | (simp; omega)) _ | refine Below.setCell ?_ (by first | exact Nat.le_refl _ | omega | (simp; done) | (simp; omega)) _)))).2 _ _ hb)
        have hszj := hch.size
        simp at hszj
        have HRowL := hid (row_len (makeT n (d - 1)) t [] j)
        clear hmk hch hnw hown hap
        by_cases hlt : j < k
        · obtain ⟨hd0, b, off, rfl, hbo, y0, y1, a', l', c', y2, hx⟩ := HRd.out.old.cell hlt
          replace y0 := HQ.out _ _ _ hbo y0
          replace y1 := HQ.out _ _ _ hbo y1
          replace y2 := HQ.out _ _ _ hbo y2
          have HX : Hid (Rd (fun b => b < wM.heap.size) 1048576 wr (d - 1) (kid t j) a' l') := hid (hx.kept fun b' o u hq hu => ⟨HQ.out _ _ _ hq hu, hq⟩)
          obtain ⟨hokt, hs400⟩ := HOkT.out j hlt
          have HCall := hid (fun w8 h1 h2 => make_spec wM.heap.size (wM.heap.size + 1) n hn0 hn (d - 1) (kid t j) (rowB n d t j).2 v1 a' l' c' w8 h1 h2 hokt (by omega))
          have HF4 := hid (make_fine hn0 (d - 1) (kid t j) (rowB n d t j).2 hokt)
          have HG1 : Hid ((rowB n d t (j + 1)).1 = (rowB n d t j).1 ++ [(makeT n (d - 1) (kid t j) (rowB n d t j).2).1]) := hid rfl
          have HG2 : Hid ((rowB n d t (j + 1)).2 = (makeT n (d - 1) (kid t j) (rowB n d t j).2).2) := hid rfl
          clear hx hokt
          go_wp2_with fail
          refine (HCall.out _ HMj.out HX.out).mono ?_
          rintro e w2 ⟨v2, rfl, hmk, hch, hnw⟩
          rw [← HG2.out] at hmk
          obtain ⟨z, hz⟩ : ∃ z, (makeT n (d - 1) (kid t j) (rowB n d t j).2).1 = z := ⟨_, rfl⟩
          rw [hz] at HG1 ⊢
          have HM2 := hid hmk
          have hkM : ∀ g, (Value.slice ka j kc).ownBlock = some g → g ≠ wM.heap.size ∧ wM.heap.size + 1 ≤ g ∧ g < wr.heap.size := fun g hg => by
            have := World.ownsRow.lt HOj.out g hg
            omega
          have HO2 : Hid (OwnInts (wM.heap.size + 1) w2 (.slice ka j kc) (rowB n d t j).1) := hid (own_kept HOj.out fun g hg => hch.block g (hkM g hg).2.2 (hkM g hg).1 (HAj.out g hg))
          have HC2 := hid (HCj.out.trans HNj.out hch)
          have HN2 := hid (HNj.out.trans hnw HCj.out.size)
          have HA2 : Hid (∀ g, (Value.slice ka j kc).ownBlock = some g → some g ≠ v2.ownBlock) := hid (fun g hg => new_apart hnw (HAj.out g hg) (hkM g hg).2.2)
          have HKM := hid hkM
          have hs2 := hch.size
          clear hmk hch hnw hz hkM HCall HX y0 y1 y2 HQ HQZ
          have HA3 : Hid (Below w2.heap.size w2 (w2.alloc (.cells #[.int .i64 z] 3))) := hid (by repeat (first | exact Below.refl _ _ | assumption | refine Below.drew ?_ | refine Below.alloc ?_ (by first | exact Nat.le_refl _ | omega | (simp; done) | (simp; omega)) _ | refine Below.setCell ?_ (by first | exact Nat.le_refl _ | omega | (simp; done) | (simp; omega)) _))
          by_cases h4 : 400 < (rowB n d t (j + 1)).2.length
          · have e4 : decide ((400 : Int) < ((rowB n d t (j + 1)).2.length : Int)) = true := decide_eq_true (by omega)
            have HCC := hid (bC_size (k := j + 1) H1.out ⟨hn0, hn⟩ HF.out (fun i hi => (HOkT.out i hi).1) (by omega) h4)
            clear h4
            go_wp2_with
              (at_builtin
               refine wpList_append_own_at _ rfl _ _ 30 rfl (wM.heap.size + 1) 3 i0 (.int .i64 0) 1 8 Try.underlying30 HI.out HZ0.out HZ1.out HZ2.out rfl (by decide) _ _ _ rfl (OwnInts.below HO2.out HA3.out) ⟨w2.heap.size, 0, none⟩ 1 1 [.int .i64 z] rfl rfl (cell_one _ _ _) (fun x hx => by simp at hx; subst hx; rfl) (by rw [HRowL.out]; unfold maxLen; omega) (by rw [HRowL.out]; omega) (by simp; omega) ?_
               intro v3 w3 hown3 hg3 hnil3 hat3
               have HM3 := hid (Mk.grown (HM2.out.below HA3.out) hg3 (fun e => (HKM.out _ e.symm).1 rfl) (fun g hg e => HA2.out g e.symm hg.symm))
               have HC3 := hid (Chg.grown (HC2.out.trans HN2.out (Chg.of_below HA3.out)) hg3 (fun g hg => by have := (HKM.out g hg).2.1; simp; omega))
               have HO3 : Hid (OwnInts (wM.heap.size + 1) w3 v3 (rowB n d t (j + 1)).1) := hid (by
                 rw [HG1.out]
                 unfold OwnInts
                 rw [List.length_append, List.map_append]
                 exact hown3)
               have HA4 : Hid (∀ g, v3.ownBlock = some g → some g ≠ v2.ownBlock) := hid (fun g hg => by
                 rcases hat3 with e | e
                 · exact HA2.out g (e.symm.trans hg)
                 · intro e2
                   rw [e] at hg
                   injection hg with hg
                   have := (World.ownsRow.lt HM2.out.own g e2.symm).2
                   simp at hg
                   omega)
               clear hown3 hg3 hnil3 hat3
               obtain ⟨a3, c3, e3, -⟩ := HO3.out.form
               rw [row_len] at e3
               subst e3
               have m1 := HM3.out.c1
               obtain ⟨va, vc, hva⟩ := HM3.out.form
               rw [hva] at m1
               have HRR : Hid (∀ o u, wM.cell? ⟨w.heap.size, o, none⟩ = some u → w3.cell? ⟨w.heap.size, o, none⟩ = some u) := hid (fun o u hu => HC3.out.cell (by omega) (fun e => by cases e) (keep (show Below wM.heap.size wM _ from (by repeat (first | exact Below.refl _ _ | assumption | refine Below.drew ?_ | refine Below.alloc ?_ (by first | exact Nat.le_refl _ | omega | (simp; done) | (simp; omega)) _ | refine Below.setCell ?_ (by first | exact Nat.le_refl _ | omega | (simp; done) | (simp; omega)) _))) hu))
               have HRZ : Hid (∀ o, w3.frozen? ⟨w.heap.size, o, none⟩ = wM.frozen? ⟨w.heap.size, o, none⟩) := hid (fun o => by
                 rw [World.frozen?_of_block (a := ⟨w.heap.size, o, none⟩) (HC3.out.block w.heap.size (by simp; omega) (by omega) (fun e => by cases e))]
                 exact (bcell (show Below wM.heap.size wM _ from (by repeat (first | exact Below.refl _ _ | assumption | refine Below.drew ?_ | refine Below.alloc ?_ (by first | exact Nat.le_refl _ | omega | (simp; done) | (simp; omega)) _ | refine Below.setCell ?_ (by first | exact Nat.le_refl _ | omega | (simp; done) | (simp; omega)) _)))).2 _ _ hwz)
               have x0 := HRR.out _ _ X0.out
               have x1 := HRR.out _ _ X1.out
               have x2 := (HRZ.out 0).trans X2.out
               have x3 := (HRZ.out 1).trans X3.out
               have HB3 : Hid (Below w.heap.size w w3) := hid ((HB.out.trans ((show Below wM.heap.size wM (wM.alloc (.cells #[.int .i64 n, .slice none 0 0] 56)) from (by repeat (first | exact Below.refl _ _ | assumption | refine Below.drew ?_ | refine Below.alloc ?_ (by first | exact Nat.le_refl _ | omega | (simp; done) | (simp; omega)) _ | refine Below.setCell ?_ (by first | exact Nat.le_refl _ | omega | (simp; done) | (simp; omega)) _))).mono (by omega))).trans ((HC3.out.below HMk1.out).mono (by omega)))
               have hz3 : w.heap.size < w3.heap.size := World.block_lt_of_cell? _ _ x0
               have hMz : wM.heap.size < w3.heap.size := World.block_lt_of_cell? _ _ m1
               clear HRR HRZ)
            refine bodyPost_ret (v := .tuple #[.agg #[.int .i64 0, .slice none 0 0], .slice (some ⟨w3.heap.size, 0, none⟩) 0 0, .int .i64 11]) (by rw [results_three rfl]; go_simp) rfl ?_
            exact no_ans HCC.out (by decide) (((HB3.out.setCell (Nat.le_refl _) _).setCell (Nat.le_refl _) _).alloc (by simp; omega) _)
          · have e4 : decide ((400 : Int) < ((rowB n d t (j + 1)).2.length : Int)) = false := decide_eq_false (by omega)
            have H4 := hid h4
            clear h4
            go_wp2_with
              (at_builtin
               refine wpList_append_own_at _ rfl _ _ 30 rfl (wM.heap.size + 1) 3 i0 (.int .i64 0) 1 8 Try.underlying30 HI.out HZ0.out HZ1.out HZ2.out rfl (by decide) _ _ _ rfl (OwnInts.below HO2.out HA3.out) ⟨w2.heap.size, 0, none⟩ 1 1 [.int .i64 z] rfl rfl (cell_one _ _ _) (fun x hx => by simp at hx; subst hx; rfl) (by rw [HRowL.out]; unfold maxLen; omega) (by rw [HRowL.out]; omega) (by simp; omega) ?_
               intro v3 w3 hown3 hg3 hnil3 hat3
               have HM3 := hid (Mk.grown (HM2.out.below HA3.out) hg3 (fun e => (HKM.out _ e.symm).1 rfl) (fun g hg e => HA2.out g e.symm hg.symm))
               have HC3 := hid (Chg.grown (HC2.out.trans HN2.out (Chg.of_below HA3.out)) hg3 (fun g hg => by have := (HKM.out g hg).2.1; simp; omega))
               have HO3 : Hid (OwnInts (wM.heap.size + 1) w3 v3 (rowB n d t (j + 1)).1) := hid (by
                 rw [HG1.out]
                 unfold OwnInts
                 rw [List.length_append, List.map_append]
                 exact hown3)
               have HA4 : Hid (∀ g, v3.ownBlock = some g → some g ≠ v2.ownBlock) := hid (fun g hg => by
                 rcases hat3 with e | e
                 · exact HA2.out g (e.symm.trans hg)
                 · intro e2
                   rw [e] at hg
                   injection hg with hg
                   have := (World.ownsRow.lt HM2.out.own g e2.symm).2
                   simp at hg
                   omega)
               clear hown3 hg3 hnil3 hat3
               obtain ⟨a3, c3, e3, -⟩ := HO3.out.form
               rw [row_len] at e3
               subst e3
               have m1 := HM3.out.c1
               obtain ⟨va, vc, hva⟩ := HM3.out.form
               rw [hva] at m1
               have HRR : Hid (∀ o u, wM.cell? ⟨w.heap.size, o, none⟩ = some u → w3.cell? ⟨w.heap.size, o, none⟩ = some u) := hid (fun o u hu => HC3.out.cell (by omega) (fun e => by cases e) (keep (show Below wM.heap.size wM _ from (by repeat (first | exact Below.refl _ _ | assumption | refine Below.drew ?_ | refine Below.alloc ?_ (by first | exact Nat.le_refl _ | omega | (simp; done) | (simp; omega)) _ | refine Below.setCell ?_ (by first | exact Nat.le_refl _ | omega | (simp; done) | (simp; omega)) _))) hu))
               have HRZ : Hid (∀ o, w3.frozen? ⟨w.heap.size, o, none⟩ = wM.frozen? ⟨w.heap.size, o, none⟩) := hid (fun o => by
                 rw [World.frozen?_of_block (a := ⟨w.heap.size, o, none⟩) (HC3.out.block w.heap.size (by simp; omega) (by omega) (fun e => by cases e))]
                 exact (bcell (show Below wM.heap.size wM _ from (by repeat (first | exact Below.refl _ _ | assumption | refine Below.drew ?_ | refine Below.alloc ?_ (by first | exact Nat.le_refl _ | omega | (simp; done) | (simp; omega)) _ | refine Below.setCell ?_ (by first | exact Nat.le_refl _ | omega | (simp; done) | (simp; omega)) _)))).2 _ _ hwz)
               have x0 := HRR.out _ _ X0.out
               have x1 := HRR.out _ _ X1.out
               have x2 := (HRZ.out 0).trans X2.out
               have x3 := (HRZ.out 1).trans X3.out
               have HB3 : Hid (Below w.heap.size w w3) := hid ((HB.out.trans ((show Below wM.heap.size wM (wM.alloc (.cells #[.int .i64 n, .slice none 0 0] 56)) from (by repeat (first | exact Below.refl _ _ | assumption | refine Below.drew ?_ | refine Below.alloc ?_ (by first | exact Nat.le_refl _ | omega | (simp; done) | (simp; omega)) _ | refine Below.setCell ?_ (by first | exact Nat.le_refl _ | omega | (simp; done) | (simp; omega)) _))).mono (by omega))).trans ((HC3.out.below HMk1.out).mono (by omega)))
               have hz3 : w.heap.size < w3.heap.size := World.block_lt_of_cell? _ _ x0
               have hMz : wM.heap.size < w3.heap.size := World.block_lt_of_cell? _ _ m1
               clear HRR HRZ)
            go_roundw
            case rel => exact ⟨j + 1, v2, a3, c3, by omega, by go_num, rfl, HM3.out, HC3.out, HN2.out, HO3.out, HA4.out, by have := H4.out; omega⟩
            case measure => simp [intOf]; omega
        · have ej : j = k := by omega
          subst ej
          have hjj : decide (j < j) = false := decide_eq_false (by omega)
          have HCC := hid (bC_ok (n := n) (d := d) (t := t) H1.out ⟨hn0, hn⟩ HF.out (by omega))
          have m0 := HMj.out.c0
          have m1 := HMj.out.c1
          obtain ⟨va, vc, hva⟩ := HMj.out.form
          rw [hva] at m1
          have HVA := hid hva
          have x0 := HQ.out _ _ _ hwz X0.out
          have x1 := HQ.out _ _ _ hwz X1.out
          have x2 := (HQZ.out _ 0 hwz).trans X2.out
          have x3 := (HQZ.out _ 1 hwz).trans X3.out
          have HBr : Hid (Below w.heap.size w wr) := hid ((HB.out.trans ((show Below wM.heap.size wM (wM.alloc (.cells #[.int .i64 n, .slice none 0 0] 56)) from (by repeat (first | exact Below.refl _ _ | assumption | refine Below.drew ?_ | refine Below.alloc ?_ (by first | exact Nat.le_refl _ | omega | (simp; done) | (simp; omega)) _ | refine Below.setCell ?_ (by first | exact Nat.le_refl _ | omega | (simp; done) | (simp; omega)) _))).mono (by omega))).trans ((HCj.out.below HMk1.out).mono (by omega)))
          have hzr : w.heap.size < wr.heap.size := World.block_lt_of_cell? _ _ x0
          have hMz : wM.heap.size < wr.heap.size := World.block_lt_of_cell? _ _ m1
          clear hlt hva
          go_wp2
          refine bodyPost_ret (v := .tuple #[.agg #[.int .i64 n, .slice va (rowB n d t j).2.length vc], .slice ka j kc, .int .i64 0]) (by rw [results_three rfl]; go_simp) rfl ?_
          have e1 : bG n d t j = (rowB n d t j).2 := by unfold bG; rw [if_pos HCC.out]
          have e2 : bL n d t j = (rowB n d t j).1 := by unfold bL; rw [if_pos HCC.out]
          have e3 : bN n d t j = n := by unfold bN; rw [if_pos HCC.out]
          have hgR : ∀ g, wM.heap.size + 1 ≤ g → g ≠ w.heap.size := fun g hg => by omega
          refine ⟨va, vc, ka, kc, by rw [e1, e2, e3, HCC.out, HRowL.out], ?_, ?_, (HBr.out.setCell (Nat.le_refl _) _).setCell (Nat.le_refl _) _⟩
          · rw [e1]
            intro i hi
            obtain ⟨gb, gc, hv, hc0, hc1⟩ := HMj.out.gate hi
            have hgo := (World.ownsRow.lt HMj.out.own gb (by rw [hv]; rfl)).1
            rw [HVA.out] at hv
            injection hv with hv1 hv2 hv3
            refine ⟨gb, 0, hv1, ?_, ?_⟩
            · rw [Nat.zero_add, World.cell?_setCell_other _ _ _ _ (by simp <;> omega), World.cell?_setCell_other _ _ _ _ (by simp <;> omega)]
              exact hc0
            · rw [Nat.zero_add, World.cell?_setCell_other _ _ _ _ (by simp <;> omega), World.cell?_setCell_other _ _ _ _ (by simp <;> omega)]
              exact hc1
          · rw [e2, HRowL.out]
            refine row_of_own (B := wM.heap.size + 1) (c := kc) (own_kept HOj.out fun g hg => ?_)
            have := (World.ownsRow.lt HOj.out g hg).1
            exact (Below.heap_setCell _ _ _ _ (by dsimp only; omega)).trans (Below.heap_setCell _ _ _ _ (by dsimp only; omega))
end Go.Proofs.Ytaileckcflnbdaa.buildSpec
