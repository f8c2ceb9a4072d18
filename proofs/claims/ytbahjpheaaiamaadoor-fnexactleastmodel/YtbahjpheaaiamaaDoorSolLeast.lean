/- A solver of the program goes from the model that is held to the least one (least); conditions: a search that found a model. -/
import Derived.Test.YtbahjpheaaiamaaDoorCdLeast
import Derived.Test.YtbahjpheaaiamaaDoorPart13
import Derived.BigQuiet
namespace Go.Proofs.YtbahjpheaaiamaaDoor.solLeast
open Go.RowKit Go.Deep Go.Shelf Go.Maps Go base sets setsOf solSets solOps solMath solHold solMem solFail solX solProp solClose solTrail solAddM cdVal cdState cdLes cdLearn cdSolve cdX cdBig cdLeast hasAny solSolve solBig solSmall heldStore drawn drawnLin drawnSrc drawnMk
set_option linter.unusedVariables false
set_option linter.unusedSimpArgs false

/-- A block that is none of the solver's. -/
structure Apart (N M mb : Nat) (β : Int → Option Nat) (w : World) : Prop where
  lt : N < w.heap.size
  m : N ≠ M
  mb : N ≠ mb
  off : ∀ a, β a ≠ some N
  tab : 0 ≠ N
theorem Apart.next {N M mb mb' : Nat} {β β' : Int → Option Nat} {w w' : World} (h : Apart N M mb β w) (k : ChgM M mb mb' β β' w w') : Apart N M mb' β' w' ∧ w'.heap[N]? = w.heap[N]? := by
  refine ⟨⟨Nat.lt_of_lt_of_le h.lt k.size, h.m, fun e => ?_, fun a ha => ?_, h.tab⟩, k.block N h.lt h.m h.mb h.off⟩
  · rcases k.map with e2 | e2
    · exact h.mb (e.trans e2)
    · have := h.lt; omega
  · rcases k.news a N ha with e2 | e2
    · exact h.off a e2
    · have := h.lt; omega
theorem Apart.below {N M mb : Nat} {β : Int → Option Nat} {w w' : World} (h : Apart N M mb β w) (k : Below w.heap.size w w') : Apart N M mb β w' := ⟨Nat.lt_of_lt_of_le h.lt k.size, h.m, h.mb, h.off, h.tab⟩
theorem sol_kept {M mb : Nat} {F : Nat → Value} {V : Int → Value} {s : Sv} {w w1 : World} (h : Sol 0 M mb F V s w) (hM : w1.heap[M]? = w.heap[M]?) (hm : w1.heap[mb]? = w.heap[mb]?) (hb : ∀ a g, blk 0 F V a = some g → w1.heap[g]? = w.heap[g]?) (ht : Tab w1) : Sol 0 M mb F V s w1 := by
  obtain ⟨D, hD, hV⟩ := h.map
  exact ⟨World.rowIs.of_block h.cells hM, h.f0, h.f4, h.f5, h.f6, h.f10, h.fx, ⟨D, by
    obtain ⟨es, clock, h1, h2⟩ := hD
    exact ⟨es, clock, by rw [hm]; exact h1, h2⟩, hV⟩, fun a ha => row_kept (h.rows a ha) fun g hg => hb a g (by rw [blk_ne ha]; exact hg), h.apart, h.off, h.ne, ht, h.tabo⟩
theorem sol_box {M mb N o : Nat} {F : Nat → Value} {V : Int → Value} {s : Sv} {w : World} (h : Sol 0 M mb F V s w) (a : Apart N M mb (blk 0 F V) w) (v : Value) : Sol 0 M mb F V s (w.setCell ⟨N, o, none⟩ v) := by
  have hb : ∀ k, k ≠ N → (w.setCell ⟨N, o, none⟩ v).heap[k]? = w.heap[k]? := fun k hk => blk_setCell_other _ _ _ _ hk
  refine sol_kept h (hb M a.m.symm) (hb mb a.mb.symm) (fun x g hg => hb g (fun e => a.off x (by rw [hg, e]))) fun j hj => ?_
  exact (World.cell?_of_block (a := ⟨0, j, none⟩) (hb _ a.tab)).trans (h.tab j hj)
theorem chg_box {M mb mb' N o : Nat} {β β' : Int → Option Nat} {w w1 : World} (h : ChgM M mb mb' β β' w w1) (hN : w.heap.size ≤ N) (v : Value) : ChgM M mb mb' β β' w (w1.setCell ⟨N, o, none⟩ v) := by
  obtain ⟨e1, e2, e3, e4⟩ := setCell_os w1 ⟨N, o, none⟩ v
  exact ⟨e1.trans h.os, e2.trans h.tape, e3.trans h.output, by rw [e4]; exact h.size, fun j hj h1 h2 h3 => (blk_setCell_other _ _ _ _ (by show j ≠ N; omega)).trans (h.block j hj h1 h2 h3), h.news, h.map⟩
/-- The cells of a variable that holds a set. -/
def hc (H : LS) (i : Nat) : Value := if i = 0 then .int .u64 H.1 else .int .u64 H.2
/-- What is known at the head of the loop. -/
structure AtV (n : Nat) (Z : List LS) (M mb : Nat) (β : Int → Option Nat) (w : World) (N2 N3 v : Nat) (wr : World) (mbj : Nat) (Fj : Nat → Value) (Vj : Int → Value) (sj : Sv) (gj : Int) (rj : Nat) (B H : LS) : Prop where
  v1 : 1 ≤ v
  v2 : v ≤ n + 1
  sr : Srch n Z (0, 0) B M mbj (Big n Z.length (800 + 6 * (v - 1))) Fj Vj sj gj rj wr
  le : LeastAt n Z B H v
  r2 : wr.rowIs N2 51 2 (hc (0, 0))
  r3 : wr.rowIs N3 51 2 (hc H)
  a2 : Apart N2 M mbj (blk 0 Fj Vj) wr
  a3 : Apart N3 M mbj (blk 0 Fj Vj) wr
  ch : ChgM M mb mbj β (blk 0 Fj Vj) w wr
theorem com_settle {n : Nat} {Z : List LS} {H : LS} (h : Mdl n Z H) {v : Nat} (h1 : 1 ≤ v) (h2 : v ≤ n) (hn : n ≤ 40) : firstL (comL H (withL (onlyL (v : Int)) (onlyL (-(v : Int))))) = fixV H v := by
  have hw := wf_com h.wf (withL (onlyL (v : Int)) (onlyL (-(v : Int))))
  have hm : ∀ l, mem (comL H (withL (onlyL (v : Int)) (onlyL (-(v : Int))))) l = true ↔ mem H l = true ∧ (l = v ∨ l = -(v : Int)) := fun l => by
    rw [mem_com, Bool.and_eq_true, mem_held (by omega), Bool.or_eq_true, decide_eq_true_eq, mem_only (by omega)]
    simp only [decide_eq_true_eq]
    constructor
    · rintro ⟨a, b | b⟩
      · exact ⟨a, .inl (by simpa using b.symm)⟩
      · exact ⟨a, .inr b.symm⟩
    · rintro ⟨a, b | b⟩
      · exact ⟨a, .inl (by simpa using b.symm)⟩
      · exact ⟨a, .inr b.symm⟩
  have hs := settle_in h h1 h2
  have hne : comL H (withL (onlyL (v : Int)) (onlyL (-(v : Int)))) ≠ (0, 0) := fun e => by
    have := (hm (fixV H v)).2 ⟨hs, by unfold fixV; split <;> simp⟩
    rw [e, mem_zero] at this; cases this
  obtain ⟨a, b⟩ := (hm _).1 (first_spec hw hne).1
  rcases b with e | e
  · rw [e] at a ⊢
    unfold fixV; rw [if_pos a]
  · rw [e] at a ⊢
    have := h.cons _ a
    rw [Int.neg_neg] at this
    unfold fixV; rw [if_neg (by rw [this]; simp)]
set_option maxHeartbeats 12800000 in
set_option maxRecDepth 8000 in
theorem least_impl (n : Nat) (Z : List LS) (M mb : Nat) (F : Nat → Value) (V : Int → Value) (s : Sv) (g : Int) (r : Nat) (w : World) (h : Srch n Z (0, 0) (0, 0) M mb (Big n Z.length 800) F V s g r w) (hm : Mdl n Z s.H) :
    Calls Tryd.prog 25 #[.pointer (some ⟨M, 0, none⟩)] w fun e w' => ∃ H : LS, e = .returned (.agg #[.int .u64 H.1, .int .u64 H.2]) ∧ (∃ B, LeastAt n Z B H (n + 1)) ∧ Wf H ∧ ∃ (mb' : Nat) (F' : Nat → Value) (V' : Int → Value) (s' : Sv), Sol 0 M mb' F' V' s' w' ∧ ChgM M mb mb' (blk 0 F V) (blk 0 F' V') w w' := by
  have HS := hid h
  have HM := hid hm
  have h40 := h.cd.q.n40
  have k5 := h.sol.cell (i := 5) (by omega)
  have k6 := h.sol.cell (i := 6) (by omega)
  rw [h.sol.f5] at k5
  rw [h.sol.f6] at k6
  have hlt := h.sol.lt
  obtain ⟨H1, hH1⟩ : ∃ x, s.H.1 = x := ⟨_, rfl⟩
  obtain ⟨H2, hH2⟩ : ∃ x, s.H.2 = x := ⟨_, rfl⟩
  have HH : Hid (s.H = (H1, H2)) := hid (by rw [← hH1, ← hH2])
  rw [hH1] at k5
  rw [hH2] at k6
  have hgt := World.block_lt_of_cell? _ _ (h.sol.tab 0 (by decide))
  have hap : ∀ N, w.heap.size ≤ N → ∀ W : World, N < W.heap.size → Apart N M mb (blk 0 F V) W := fun N hN W hW => ⟨hW, by omega, by omega, fun a ha => by have := h.sol.blt ha; omega, by simp only at hgt; omega⟩
  have HAp := hid hap
  clear h hm hH1 hH2 hgt hap
  go_enter Tryd.func25, Tryd.ntmps25
  go_wp2_with fail
  have hb0 : Below w.heap.size w ((w.alloc (.cells #[.int .u64 0, .int .u64 0] 51)).alloc (.cells #[.int .u64 H1, .int .u64 H2] 51)) := (by repeat (first | exact Below.refl _ _ | assumption | refine Below.drew ?_ | refine Below.alloc ?_ (by first | exact Nat.le_refl _ | omega | (simp; done) | (simp; omega)) _ | refine Below.setCell ?_ (by first | exact Nat.le_refl _ | omega | (simp; done) | (simp; omega)) _))
  have hr2 : ((w.alloc (.cells #[.int .u64 0, .int .u64 0] 51)).alloc (.cells #[.int .u64 H1, .int .u64 H2] 51)).rowIs w.heap.size 51 2 (hc (0, 0)) := (World.rowIs_alloc w #[.int .u64 0, .int .u64 0] _ _ (fun i hi => by
    have h3 : i < 2 := hi
    rcases (show i = 0 ∨ i = 1 by omega) with rfl | rfl <;> rfl)).alloc _
  have hr3 : ((w.alloc (.cells #[.int .u64 0, .int .u64 0] 51)).alloc (.cells #[.int .u64 H1, .int .u64 H2] 51)).rowIs (w.heap.size + 1) 51 2 (hc (H1, H2)) := by
    have := World.rowIs_alloc (w.alloc (.cells #[.int .u64 0, .int .u64 0] 51)) #[.int .u64 H1, .int .u64 H2] 51 (hc (H1, H2)) (fun i hi => by
      have h3 : i < 2 := hi
      rcases (show i = 0 ∨ i = 1 by omega) with rfl | rfl <;> rfl)
    rw [World.size_alloc] at this
    exact this
  have hz0 : ((w.alloc (.cells #[.int .u64 0, .int .u64 0] 51)).alloc (.cells #[.int .u64 H1, .int .u64 H2] 51)).heap.size = w.heap.size + 1 + 1 := by simp
  generalize ((w.alloc (.cells #[.int .u64 0, .int .u64 0] 51)).alloc (.cells #[.int .u64 H1, .int .u64 H2] 51)) = w2 at *
  have HB0 := hid hb0
  have HR2 := hid hr2
  have HR3 := hid hr3
  have HA2 := hid (HAp.out w.heap.size (Nat.le_refl _) w2 (by omega))
  have HA3 := hid (HAp.out (w.heap.size + 1) (by omega) w2 (by omega))
  clear hb0 hr2 hr3 hz0 k5 k6 hlt
  go_loopw [4] (fun u wr => ∃ (v mbj : Nat) (Fj : Nat → Value) (Vj : Int → Value) (sj : Sv) (gj : Int) (rj : Nat) (B H : LS), u = .int .i64 v ∧ AtV n Z M mb (blk 0 F V) w w.heap.size (w.heap.size + 1) v wr mbj Fj Vj sj gj rj B H) (fun u _ => n + 1 - (intOf u).toNat)
  case atStart => exact ⟨1, mb, F, V, s, g, r, (0, 0), s.H, rfl, ⟨Nat.le_refl _, by omega, ⟨HS.out.sol.below HB0.out, HS.out.nil, HS.out.cd, HS.out.wg, HS.out.gg, HS.out.cr⟩, least_one HM.out, HR2.out, by rw [HH.out]; exact HR3.out, HA2.out, HA3.out, ChgM.of (Chg.below HB0.out)⟩⟩
  case round =>
    obtain ⟨v, mbj, Fj, Vj, sj, gj, rj, B, H, rfl, hat⟩ := hrel
    have HAt := hid hat
    have hv1 := hat.v1
    have hv2 := hat.v2
    have k0 := hat.sr.sol.cell (i := 0) (by omega)
    rw [hat.sr.sol.f0, hat.sr.cd.q.nv] at k0
    have c0 := hat.r3.cell (i := 0) (by omega)
    have c1 := hat.r3.cell (i := 1) (by omega)
    obtain ⟨H1', hH1⟩ : ∃ x, H.1 = x := ⟨_, rfl⟩
    obtain ⟨H2', hH2⟩ : ∃ x, H.2 = x := ⟨_, rfl⟩
    have HHj : Hid (H = (H1', H2')) := hid (by rw [← hH1, ← hH2])
    rw [show hc H 0 = .int .u64 H.1 from rfl, hH1] at c0
    rw [show hc H 1 = .int .u64 H.2 from rfl, hH2] at c1
    clear hat hH1 hH2
    by_cases hvn : v ≤ n
    · have e1 : (v : Int) ≤ (n : Int) := by omega
      have e64 : IntKind.i64.wrap (-(v : Int)) = -(v : Int) := by rw [IntKind.wrap_i64]; omega
      have hca : ∃ r0, Big n Z.length (800 + 6 * (v - 1) + 3) sj r0 := big_anew (by omega) HAt.out.sr.cr (fun _ _ => rfl) rfl
      obtain ⟨r0, hr0⟩ := hca
      have hbk : sj.K ≠ [] → ∃ r', Big n Z.length (800 + 6 * (v - 1) + 3) (backS sj 0) r' := fun _ => big_anew (by omega) HAt.out.sr.cr (fun j _ => by rw [back_X]) (by unfold backS; split <;> rfl)
      have HSj : Hid (Srch n Z (0, 0) B M mbj (Big n Z.length (800 + 6 * (v - 1) + 3)) Fj Vj sj gj r0 wr) := hid ⟨HAt.out.sr.sol, HAt.out.sr.nil, HAt.out.sr.cd, HAt.out.sr.wg, HAt.out.sr.gg, hr0⟩
      have HBk := hid hbk
      have HHa := hid (fun W : World => has_any (H1', H2') (v : Int) W (by rw [← HHj.out]; exact HAt.out.le.mdl.wf) (by omega) (by omega))
      clear hr0 hbk
      go_wp2_with fail
      refine (HHa.out _).mono ?_
      rintro e w3 ⟨rfl, hb3⟩
      have HB3 := hid hb3
      cases hmv : mem (H1', H2') (v : Int) with
      | true =>
        have HMv : Hid (mem H (v : Int) = true) := hid (by rw [HHj.out]; exact hmv)
        have HS3 : Hid (Srch n Z (0, 0) B M mbj (Big n Z.length (800 + 6 * (v - 1) + 3)) Fj Vj sj gj r0 w3) := hid ⟨HSj.out.sol.below hb3, HSj.out.nil, HSj.out.cd, HSj.out.wg, HSj.out.gg, HSj.out.cr⟩
        have HA2' := hid (HAt.out.a2.below hb3)
        have HA3' := hid (HAt.out.a3.below hb3)
        have HR2' := hid (HAt.out.r2.of_block (hb3.block _ HAt.out.a2.lt))
        have HR3' := hid (HAt.out.r3.of_block (hb3.block _ HAt.out.a3.lt))
        have HC3 := hid (HAt.out.ch.next (Chg.below hb3))
        clear hb3 hmv k0 c0 c1
        go_wp2_with fail
        refine (solve_big n (800 + 6 * (v - 1) + 3) Z (0, 0) B M mbj Fj Vj sj gj r0 w3 HS3.out (-(v : Int)) (by omega) HBk.out).mono ?_
        rintro e w4 ⟨b, mb4, F4, V4, p, g4, r4, rfl, hs4, hch4, ht4, hf4⟩
        have HS4 := hid hs4
        obtain ⟨a2, q2⟩ := HA2'.out.next hch4
        obtain ⟨a3, q3⟩ := HA3'.out.next hch4
        have HA2 := hid a2
        have HA3 := hid a3
        have HR2 := hid (HR2'.out.of_block q2)
        have HR3 := hid (HR3'.out.of_block q3)
        have HC4 := hid (HC3.out.trans hch4)
        have HT4 := hid ht4
        have HF4 := hid hf4
        clear hs4 hch4 ht4 hf4 a2 a3 q2 q3
        cases b with
        | true =>
          have hp := HT4.out rfl
          have HLe : Hid (LeastAt n Z B p.H v) := hid (least_swap HAt.out.le hv1 hvn hp.1 (bas_held HS4.out.cd))
          have HNv : Hid (mem p.H (v : Int) = false) := hid (by
            have h9 := hp.1.cons (-(v : Int)) (hp.2.resolve_left (by omega))
            rwa [Int.neg_neg] at h9)
          have k5 := HS4.out.sol.cell (i := 5) (by omega)
          have k6 := HS4.out.sol.cell (i := 6) (by omega)
          rw [HS4.out.sol.f5] at k5
          rw [HS4.out.sol.f6] at k6
          have c0 := HR3.out.cell (i := 0) (by omega)
          have c1 := HR3.out.cell (i := 1) (by omega)
          have z0 := HR3.out.frozen 0
          have z1 := HR3.out.frozen 1
          obtain ⟨P1, hP1⟩ : ∃ x, p.H.1 = x := ⟨_, rfl⟩
          obtain ⟨P2, hP2⟩ : ∃ x, p.H.2 = x := ⟨_, rfl⟩
          have HHp : Hid (p.H = (P1, P2)) := hid (by rw [← hP1, ← hP2])
          rw [hP1] at k5
          rw [hP2] at k6
          have hNM : ¬ w.heap.size + 1 = M := HA3.out.m
          have HS5 : Hid (Srch n Z (0, 0) B M mb4 (Big n Z.length (800 + 6 * (v - 1) + 3)) F4 V4 p g4 r4 ((w4.setCell ⟨w.heap.size + 1, 0, none⟩ (.int .u64 P1)).setCell ⟨w.heap.size + 1, 1, none⟩ (.int .u64 P2))) := hid ⟨sol_box (sol_box HS4.out.sol HA3.out _) ⟨by simpa using HA3.out.lt, HA3.out.m, HA3.out.mb, HA3.out.off, HA3.out.tab⟩ _, HS4.out.nil, HS4.out.cd, HS4.out.wg, HS4.out.gg, HS4.out.cr⟩
          have HR35 : Hid (((w4.setCell ⟨w.heap.size + 1, 0, none⟩ (.int .u64 P1)).setCell ⟨w.heap.size + 1, 1, none⟩ (.int .u64 P2)).rowIs (w.heap.size + 1) 51 2 (hc p.H)) := hid (((HR3.out.set 0 _).set 1 _).congr (fun i hi => by
            rcases (show i = 0 ∨ i = 1 by omega) with rfl | rfl
            · rw [HHp.out]; rfl
            · rw [HHp.out]; rfl))
          have HR25 : Hid (((w4.setCell ⟨w.heap.size + 1, 0, none⟩ (.int .u64 P1)).setCell ⟨w.heap.size + 1, 1, none⟩ (.int .u64 P2)).rowIs w.heap.size 51 2 (hc (0, 0))) := hid ((HR2.out.setOther (by show w.heap.size ≠ w.heap.size + 1; omega) _).setOther (by show w.heap.size ≠ w.heap.size + 1; omega) _)
          have HC5 : Hid (ChgM M mb mb4 (blk 0 F V) (blk 0 F4 V4) w ((w4.setCell ⟨w.heap.size + 1, 0, none⟩ (.int .u64 P1)).setCell ⟨w.heap.size + 1, 1, none⟩ (.int .u64 P2))) := hid (chg_box (chg_box HC4.out (by omega) _) (by omega) _)
          have HA25 : Hid (Apart w.heap.size M mb4 (blk 0 F4 V4) ((w4.setCell ⟨w.heap.size + 1, 0, none⟩ (.int .u64 P1)).setCell ⟨w.heap.size + 1, 1, none⟩ (.int .u64 P2))) := hid ⟨by simpa using HA2.out.lt, HA2.out.m, HA2.out.mb, HA2.out.off, HA2.out.tab⟩
          have HA35 : Hid (Apart (w.heap.size + 1) M mb4 (blk 0 F4 V4) ((w4.setCell ⟨w.heap.size + 1, 0, none⟩ (.int .u64 P1)).setCell ⟨w.heap.size + 1, 1, none⟩ (.int .u64 P2))) := hid ⟨by simpa using HA3.out.lt, HA3.out.m, HA3.out.mb, HA3.out.off, HA3.out.tab⟩
          have HO : Hid (mem p.H (v : Int) = true → ¬ ∃ H', Mdl n Z H' ∧ Sub B H' ∧ mem H' (-(v : Int)) = true) := hid (fun h9 => by rw [HNv.out] at h9; cases h9)
          clear hP1 hP2 hp HA2 HA3 HR2 HR3 HC4 HS4
          go_wp2_with fail
          generalize ((w4.setCell ⟨w.heap.size + 1, 0, none⟩ (.int .u64 P1)).setCell ⟨w.heap.size + 1, 1, none⟩ (.int .u64 P2)) = w5 at *
          clear k5 k6 c0 c1 z0 z1
          have hcd := HS5.out.cd
          have htl := cd_tlen hcd
          have hkl := cd_klen hcd
          refine (solBackI.back_impl M mb4 F4 V4 p w5 HS5.out.sol hcd.full.ok.wfH 0 (Nat.zero_le _) (fun hk => by rw [List.getElem?_eq_getElem hk]; exact hcd.stk.le _ (List.getElem_mem hk)) (cd_lits hcd) (by omega) (by omega)).mono ?_
          rintro e wb ⟨rfl, Fb, hsb, hcb, _⟩
          obtain ⟨bc, bK, bF, bC, bX, bs⟩ := back_fine hcd (HLe.out).mdl (fun l hl => (((HLe.out).set l).1 hl).2)
          obtain ⟨a2, q2⟩ := HA25.out.next (ChgM.of hcb)
          obtain ⟨a3, q3⟩ := HA35.out.next (ChgM.of hcb)
          have HAb2 := hid a2
          have HAb3 := hid a3
          have HRb2 := hid (HR25.out.of_block q2)
          have HRb3 := hid (HR35.out.of_block q3)
          have HCb := hid (HC5.out.next hcb)
          obtain ⟨s1, hs1⟩ : ∃ s1, backS p 0 = s1 := ⟨_, rfl⟩
          rw [hs1] at hsb bc bK bF bC bX bs
          have HSb := hid hsb
          have HBc := hid bc
          have HBK := hid bK
          have HBC := hid bC
          have HBX := hid bX
          have HBs := hid bs
          have HSe := hid hs1
          obtain ⟨x, hx⟩ : ∃ x, fixV (p.H) v = x := ⟨_, rfl⟩
          have HX := hid hx
          obtain ⟨x0, xv⟩ := settle_ne (H := p.H) hv1
          have xin := settle_in (HLe.out).mdl hv1 hvn
          have hcs := com_settle (HLe.out).mdl hv1 hvn h40
          rw [hx] at x0 xv xin hcs
          have HXi := hid xin
          have q0 := HRb3.out.cell (i := 0) (by omega)
          have q1 := HRb3.out.cell (i := 1) (by omega)
          have HWm := hid (HLe.out).mdl.wf
          obtain ⟨Q1, hQ1⟩ : ∃ q, (p.H).1 = q := ⟨_, rfl⟩
          obtain ⟨Q2, hQ2⟩ : ∃ q, (p.H).2 = q := ⟨_, rfl⟩
          rw [show hc (p.H) 0 = .int .u64 (p.H).1 from rfl, hQ1] at q0
          rw [show hc (p.H) 1 = .int .u64 (p.H).2 from rfl, hQ2] at q1
          have hQ : (p.H) = (Q1, Q2) := by rw [← hQ1, ← hQ2]
          have hwq := HWm.out
          rw [hQ] at hcs hwq
          have HBx : Hid (∀ w8 : World, Below wb.heap.size wb w8 → w8.cell? ⟨w.heap.size + 1, 0, none⟩ = some (.int .u64 Q1) ∧ w8.cell? ⟨w.heap.size + 1, 1, none⟩ = some (.int .u64 Q2)) := by
            have Z0 := hid q0
            have Z1 := hid q1
            exact hid (fun w8 hb => ⟨keep hb Z0.out, keep hb Z1.out⟩)
          have hwa := wf_only (l := (v : Int)) (by omega) (by omega) (by omega)
          have hwb := wf_only (l := -(v : Int)) (by omega) (by omega) (by omega)
          have hwd := wf_with hwa hwb
          have hwe := wf_com hwq (withL (onlyL (v : Int)) (onlyL (-(v : Int))))
          obtain ⟨A1, hA1⟩ : ∃ q, pBit (v : Int) = q := ⟨_, rfl⟩
          obtain ⟨A2, hA2⟩ : ∃ q, oBit (v : Int) = q := ⟨_, rfl⟩
          obtain ⟨B1, hB1⟩ : ∃ q, pBit (-(v : Int)) = q := ⟨_, rfl⟩
          obtain ⟨B2, hB2⟩ : ∃ q, oBit (-(v : Int)) = q := ⟨_, rfl⟩
          have HOa := hid (fun W : World => only_impl (v : Int) W (by omega) (by omega))
          have HOb := hid (fun W : World => only_impl (-(v : Int)) W (by omega) (by omega))
          have eA : onlyL (v : Int) = (A1, A2) := by rw [← hA1, ← hA2]; rfl
          have eB : onlyL (-(v : Int)) = (B1, B2) := by rw [← hB1, ← hB2]; rfl
          rw [hA1, hA2] at HOa
          rw [hB1, hB2] at HOb
          rw [eA] at hwa hwd hwe hcs
          rw [eB] at hwb hwd hwe hcs
          have HWi := hid (fun W : World => with_impl A1 A2 B1 B2 W hwa.lt.1 hwa.lt.2 hwb.lt.1 hwb.lt.2)
          obtain ⟨D1, hD1⟩ : ∃ q, (A1 ||| B1) = q := ⟨_, rfl⟩
          obtain ⟨D2, hD2⟩ : ∃ q, (A2 ||| B2) = q := ⟨_, rfl⟩
          have eD : withL (A1, A2) (B1, B2) = (D1, D2) := by rw [← hD1, ← hD2]; rfl
          rw [hD1, hD2] at HWi
          rw [eD] at hwd hwe hcs
          have HCo := hid (fun W : World => common_impl Q1 Q2 D1 D2 W hwq.lt.1 hwq.lt.2 hwd.lt.1 hwd.lt.2)
          obtain ⟨E1, hE1⟩ : ∃ q, (Q1 &&& D1) = q := ⟨_, rfl⟩
          obtain ⟨E2, hE2⟩ : ∃ q, (Q2 &&& D2) = q := ⟨_, rfl⟩
          have eE : comL (Q1, Q2) (D1, D2) = (E1, E2) := by rw [← hE1, ← hE2]; rfl
          rw [hE1, hE2] at HCo
          rw [eE] at hwe hcs
          have HFi : Hid (∀ W : World, Below wb.heap.size wb W → Calls Tryd.prog 48 #[.agg #[.int .u64 E1, .int .u64 E2]] W fun e w' => e = .returned (.int .i64 x) ∧ Below W.heap.size W w') := by
            have HTb := hid hsb.tab
            have HWe := hid hwe
            have HCs := hid hcs
            exact hid (fun W hW => by
              have := first_impl (E1, E2) W HWe.out (tab_below HTb.out hW)
              rw [HCs.out] at this
              exact this)
          clear hcd htl hkl hsb hcb bc bK bF bC bX bs a2 q2 a3 q3 hs1 hx xin hcs q0 q1 hQ1 hQ2 hQ hwq hwa hwb hwd hwe hA1 hA2 hB1 hB2 eA eB hD1 hD2 eD hE1 hE2 eE
          go_wp2_with fail
          refine region_calm (fun us => ⟨#[.pointer (some ⟨M, 0, none⟩), undef, .pointer (some ⟨w.heap.size, 0, none⟩), .pointer (some ⟨w.heap.size + 1, 0, none⟩), .int .i64 ↑v, us 5, .pointer (some ⟨M, 0, none⟩), .pointer (some ⟨M, 0, none⟩), .pointer (some ⟨M, 5, none⟩), .agg #[.int IntKind.u64 ↑H1, .int IntKind.u64 ↑H2], .int .i64 ↑v, .pointer (some ⟨M, 0, none⟩), .pointer (some ⟨M, 0, none⟩), .pointer (some ⟨M, 0, none⟩), .int .i64 ↑n, .bool true, u16, u17, .agg #[.int IntKind.u64 ↑H1', .int IntKind.u64 ↑H2'], .int .i64 ↑v, .bool true, .bool true, .pointer (some ⟨M, 0, none⟩), .int .i64 ↑v, .int .i64 (-↑v), .bool true, .bool true, .pointer (some ⟨M, 0, none⟩), .pointer (some ⟨M, 0, none⟩), .pointer (some ⟨M, 5, none⟩), .agg #[.int IntKind.u64 ↑P1, .int IntKind.u64 ↑P2], .pointer (some ⟨M, 0, none⟩), .tuple #[], us 33, us 34, us 35, us 36, us 37, us 38, us 39, us 40, us 41, u42, u43, u44, u45, u46, u47, u48, u49, u50, u51, undef], []⟩) (fun i => [33, 34, 35, 36, 37, 38, 39, 40, 41, 5].getD i 0) (fun i x8 w8 => match i with | 0 => x8 = .agg #[.int .u64 Q1, .int .u64 Q2] | 1 => x8 = .int .i64 v | 2 => x8 = .agg #[.int .u64 A1, .int .u64 A2] | 3 => x8 = .int .i64 v | 4 => x8 = .int .i64 (-(v : Int)) | 5 => x8 = .agg #[.int .u64 B1, .int .u64 B2] | 6 => x8 = .agg #[.int .u64 D1, .int .u64 D2] | 7 => x8 = .agg #[.int .u64 E1, .int .u64 E2] | 8 => x8 = .int .i64 x | 9 => x8 = .int .i64 x | _ => True) wb 10 (fun k => match k with | 33 => u33 | 34 => u34 | 35 => u35 | 36 => u36 | 37 => u37 | 38 => u38 | 39 => u39 | 40 => u40 | 41 => u41 | 5 => u5 | _ => undef) (by rfl) (by kernel_rfl) (by rfl) (by kernel_rfl) (Below.refl _ _) ?hput ?hinj ?stable ?step ?fin
          case hput =>
            intro i hi us v
            match i, hi with
            | 0, _ => rfl
            | 1, _ => rfl
            | 2, _ => rfl
            | 3, _ => rfl
            | 4, _ => rfl
            | 5, _ => rfl
            | 6, _ => rfl
            | 7, _ => rfl
            | 8, _ => rfl
            | 9, _ => rfl
            | i + 10, hi => exact absurd hi (by omega)
          case hinj =>
            intro i j hi hj h
            exact slots_inj [33, 34, 35, 36, 37, 38, 39, 40, 41, 5] (by decide) hi hj h
          case stable =>
            intro i v w8 w9 hb h
            match i, hb, h with
            | 0, hb, h => exact h
            | 1, hb, h => exact h
            | 2, hb, h => exact h
            | 3, hb, h => exact h
            | 4, hb, h => exact h
            | 5, hb, h => exact h
            | 6, hb, h => exact h
            | 7, hb, h => exact h
            | 8, hb, h => exact h
            | 9, hb, h => exact h
            | _ + 10, hb, h => trivial
          case step =>
            intro i hi us w8 S8 hdep
            match i, hi, hdep with
            | 0, _, hdep =>
              clear hdep
              refine ⟨_, rfl, fun K' hK => ?_⟩
              obtain ⟨y0, y1⟩ := HBx.out w8 S8
              go_simp
              exact hK.out _ _ (Below.refl _ _) rfl
            | 1, _, hdep =>
              clear hdep
              refine ⟨_, rfl, fun K' hK => ?_⟩
              go_simp
              exact hK.out _ _ (Below.refl _ _) rfl
            | 2, _, hdep =>
              have h1 : (us 34) = .int .i64 v := hdep 1 (by kernel_rfl)
              clear hdep
              refine ⟨_, rfl, fun K' hK => ?_⟩
              simp only [h1] at hK ⊢
              go_simp
              refine (HOa.out _).mono ?_
              rintro e w9 ⟨rfl, hb9⟩
              exact hK.out _ _ hb9 rfl
            | 3, _, hdep =>
              clear hdep
              refine ⟨_, rfl, fun K' hK => ?_⟩
              go_simp
              exact hK.out _ _ (Below.refl _ _) rfl
            | 4, _, hdep =>
              have h3 : (us 36) = .int .i64 v := hdep 3 (by kernel_rfl)
              clear hdep
              refine ⟨_, rfl, fun K' hK => ?_⟩
              simp only [h3] at hK ⊢
              go_simp
              exact hK.out _ _ (Below.refl _ _) rfl
            | 5, _, hdep =>
              have h4 : (us 37) = .int .i64 (-(v : Int)) := hdep 4 (by kernel_rfl)
              clear hdep
              refine ⟨_, rfl, fun K' hK => ?_⟩
              simp only [h4] at hK ⊢
              go_simp
              refine (HOb.out _).mono ?_
              rintro e w9 ⟨rfl, hb9⟩
              exact hK.out _ _ hb9 rfl
            | 6, _, hdep =>
              have h2 : (us 35) = .agg #[.int .u64 A1, .int .u64 A2] := hdep 2 (by kernel_rfl)
              have h5 : (us 38) = .agg #[.int .u64 B1, .int .u64 B2] := hdep 5 (by kernel_rfl)
              clear hdep
              refine ⟨_, rfl, fun K' hK => ?_⟩
              simp only [h2, h5] at hK ⊢
              go_simp
              refine (HWi.out _).mono ?_
              rintro e w9 ⟨rfl, hb9⟩
              exact hK.out _ _ hb9 rfl
            | 7, _, hdep =>
              have h0 : (us 33) = .agg #[.int .u64 Q1, .int .u64 Q2] := hdep 0 (by kernel_rfl)
              have h6 : (us 39) = .agg #[.int .u64 D1, .int .u64 D2] := hdep 6 (by kernel_rfl)
              clear hdep
              refine ⟨_, rfl, fun K' hK => ?_⟩
              simp only [h0, h6] at hK ⊢
              go_simp
              refine (HCo.out _).mono ?_
              rintro e w9 ⟨rfl, hb9⟩
              exact hK.out _ _ hb9 rfl
            | 8, _, hdep =>
              have h7 : (us 40) = .agg #[.int .u64 E1, .int .u64 E2] := hdep 7 (by kernel_rfl)
              clear hdep
              refine ⟨_, rfl, fun K' hK => ?_⟩
              simp only [h7] at hK ⊢
              go_simp
              refine (HFi.out _ S8).mono ?_
              rintro e w9 ⟨rfl, hb9⟩
              exact hK.out _ _ hb9 rfl
            | 9, _, hdep =>
              have h8 : (us 41) = .int .i64 x := hdep 8 (by kernel_rfl)
              clear hdep
              refine ⟨_, rfl, fun K' hK => ?_⟩
              simp only [h8] at hK ⊢
              go_simp
              exact hK.out _ _ (Below.refl _ _) rfl
            | i + 10, hi, _ => exact absurd hi (by omega)
          case fin =>
            intro us wc S8 hall
            have h9 : (us 5) = .int .i64 x := hall 9 (by decide)
            clear hall
            have h9' := h9
            have HBn := hid S8
            clear S8
            rw [h9']
            clear h9 h9'
            have HSn := hid (HSb.out.below HBn.out)
            have HAn2 := hid (HAb2.out.below HBn.out)
            have HAn3 := hid (HAb3.out.below HBn.out)
            have HRn2 := hid (HRb2.out.of_block (HBn.out.block _ HAb2.out.lt))
            have HRn3 := hid (HRb3.out.of_block (HBn.out.block _ HAb3.out.lt))
            have HCn := hid (HCb.out.next (Chg.below HBn.out))
            have k5 := HSn.out.cell (i := 5) (by omega)
            have k6 := HSn.out.cell (i := 6) (by omega)
            rw [HSn.out.f5] at k5
            rw [HSn.out.f6] at k6
            obtain ⟨S1, hS1⟩ : ∃ q, s1.H.1 = q := ⟨_, rfl⟩
            obtain ⟨S2, hS2⟩ : ∃ q, s1.H.2 = q := ⟨_, rfl⟩
            have HHs : Hid (s1.H = (S1, S2)) := hid (by rw [← hS1, ← hS2])
            rw [hS1] at k5
            rw [hS2] at k6
            have HHx := hid (fun W : World => has_any (S1, S2) x W (by rw [← HHs.out]; exact HBc.out.full.ok.wfH) (by omega) (by omega))
            have ho2 := least_step (HLe.out) hv1 hvn h40 HO.out
            rw [HX.out] at ho2
            have HL2 := hid ho2
            clear hS1 hS2 ho2
            go_wp2_with fail
            refine (HHx.out _).mono ?_
            rintro e wd ⟨rfl, hbd⟩
            have HBd := hid hbd
            cases hsx : mem (S1, S2) x with
            | true =>
              have hcr : ∃ r2, Big n Z.length (800 + 6 * (v - 1) + 3 + 3) s1 r2 := big_anew (by omega) HS5.out.cr (fun j _ => by rw [HBX.out]) (by rw [HBC.out])
              obtain ⟨r2, hr2⟩ := hcr
              rw [show 800 + 6 * (v - 1) + 3 + 3 = 800 + 6 * (v + 1 - 1) by omega] at hr2
              have HCd : Hid (Cd n Z (0, 0) (withL B (onlyL x)) s1) := hid (cd_known HBc.out HBK.out x0 (by rw [HHs.out]; exact hsx))
              have HSr : Hid (Srch n Z (0, 0) (withL B (onlyL x)) M mb4 (Big n Z.length (800 + 6 * (v + 1 - 1))) Fb V4 s1 g4 r2 wd) := hid ⟨HSn.out.below HBd.out, HS5.out.nil, HCd.out, by rw [HBX.out]; exact HS5.out.wg, HS5.out.gg, hr2⟩
              have HAt2 : Hid (AtV n Z M mb (blk 0 F V) w w.heap.size (w.heap.size + 1) (v + 1) wd mb4 Fb V4 s1 g4 r2 (withL B (onlyL x)) (p.H)) := hid ⟨by omega, by omega, HSr.out, HL2.out, HRn2.out.of_block (HBd.out.block _ HAn2.out.lt), HRn3.out.of_block (HBd.out.block _ HAn3.out.lt), HAn2.out.below HBd.out, HAn3.out.below HBd.out, HCn.out.next (Chg.below HBd.out)⟩
              clear hsx hr2 hbd k5 k6
              go_wp2
              go_round
              case rel => exact ⟨v + 1, _, _, _, _, _, _, _, _, by first | rfl | go_num, HAt2.out⟩
              case measure => simp [intOf]; omega
            | false =>
              have hno : mem s1.H x = false ∧ mem s1.H (-x) = false := ⟨by rw [HHs.out]; exact hsx, by
                cases h8 : mem s1.H (-x) with
                | false => rfl
                | true =>
                  have h7 := HBs.out _ h8
                  have h6 := (HLe.out).mdl.cons _ h7
                  rw [Int.neg_neg, HXi.out] at h6; cases h6⟩
              have HNo := hid hno
              have hCl := big_most n Z.length _ _ _ HS5.out.cr
              have hcl2 : s1.C.length ≤ 8000000000000 := by rw [HBC.out]; exact hCl
              have htl2 := cd_tlen HBc.out
              have HHo := hid (fun (W : World) (hW : Below wd.heap.size wd W) => solHoldI.hold_impl M mb4 Fb V4 s1 W ((HSn.out.below HBd.out).below hW) HS5.out.nil x (-1) HBc.out.full.ok (fun i hi => .inl (HBc.out.full.st i hi)) x0 (by omega) hno (by omega) hcl2 (by omega))
              clear hsx hbd k5 k6 hno hCl hcl2 htl2
              go_wp2_with fail
              refine (HHo.out _ (Below.refl _ _)).mono ?_
              rintro e wf ⟨rfl, Ff, Vf, hsf, hvf, hcf, _⟩
              obtain ⟨cs1, cs2⟩ := cd_settle HBc.out HBK.out x0 (by omega) HNo.out
              have hx2 := hold_X s1 x (-1)
              have hc2 := (hold_same s1 x (-1)).1
              have hcr : ∃ r2, Big n Z.length (800 + 6 * (v - 1) + 3 + 3) (holdS s1 x (-1)) r2 := big_anew (by omega) HS5.out.cr (fun j _ => by rw [hx2, HBX.out]) (by rw [hc2, HBC.out])
              obtain ⟨r2, hr2⟩ := hcr
              rw [show 800 + 6 * (v - 1) + 3 + 3 = 800 + 6 * (v + 1 - 1) by omega] at hr2
              have HSr : Hid (Srch n Z (0, 0) (withL B (onlyL x)) M mb4 (Big n Z.length (800 + 6 * (v + 1 - 1))) Ff Vf (holdS s1 x (-1)) g4 r2 wf) := hid ⟨hsf, hvf, cs1, by rw [hx2, HBX.out]; exact HS5.out.wg, HS5.out.gg, hr2⟩
              obtain ⟨u2, q2⟩ := (HAn2.out.below HBd.out).next (ChgM.of hcf)
              obtain ⟨u3, q3⟩ := (HAn3.out.below HBd.out).next (ChgM.of hcf)
              have HAt2 : Hid (AtV n Z M mb (blk 0 F V) w w.heap.size (w.heap.size + 1) (v + 1) wf mb4 Ff Vf (holdS s1 x (-1)) g4 r2 (withL B (onlyL x)) (p.H)) := hid ⟨by omega, by omega, HSr.out, HL2.out, (HRn2.out.of_block (HBd.out.block _ HAn2.out.lt)).of_block q2, (HRn3.out.of_block (HBd.out.block _ HAn3.out.lt)).of_block q3, u2, u3, (HCn.out.next (Chg.below HBd.out)).next hcf⟩
              clear hsf hvf hcf cs1 cs2 hx2 hc2 hr2 u2 q2 u3 q3
              go_wp2
              go_round
              case rel => exact ⟨v + 1, _, _, _, _, _, _, _, _, by first | rfl | go_num, HAt2.out⟩
              case measure => simp [intOf]; omega
        | false =>
          have HO : Hid (mem H (v : Int) = true → ¬ ∃ H', Mdl n Z H' ∧ Sub B H' ∧ mem H' (-(v : Int)) = true) := hid (fun _ ⟨H', a, b, c⟩ => HF4.out rfl ⟨H', a, b, .inr c⟩)
          go_wp2_with fail
          have hcd := HS4.out.cd
          have htl := cd_tlen hcd
          have hkl := cd_klen hcd
          refine (solBackI.back_impl M mb4 F4 V4 p w4 HS4.out.sol hcd.full.ok.wfH 0 (Nat.zero_le _) (fun hk => by rw [List.getElem?_eq_getElem hk]; exact hcd.stk.le _ (List.getElem_mem hk)) (cd_lits hcd) (by omega) (by omega)).mono ?_
          rintro e wb ⟨rfl, Fb, hsb, hcb, _⟩
          obtain ⟨bc, bK, bF, bC, bX, bs⟩ := back_fine hcd (HAt.out.le).mdl (fun l hl => (((HAt.out.le).set l).1 hl).2)
          obtain ⟨a2, q2⟩ := HA2.out.next (ChgM.of hcb)
          obtain ⟨a3, q3⟩ := HA3.out.next (ChgM.of hcb)
          have HAb2 := hid a2
          have HAb3 := hid a3
          have HRb2 := hid (HR2.out.of_block q2)
          have HRb3 := hid (HR3.out.of_block q3)
          have HCb := hid (HC4.out.next hcb)
          obtain ⟨s1, hs1⟩ : ∃ s1, backS p 0 = s1 := ⟨_, rfl⟩
          rw [hs1] at hsb bc bK bF bC bX bs
          have HSb := hid hsb
          have HBc := hid bc
          have HBK := hid bK
          have HBC := hid bC
          have HBX := hid bX
          have HBs := hid bs
          have HSe := hid hs1
          obtain ⟨x, hx⟩ : ∃ x, fixV (H) v = x := ⟨_, rfl⟩
          have HX := hid hx
          obtain ⟨x0, xv⟩ := settle_ne (H := H) hv1
          have xin := settle_in (HAt.out.le).mdl hv1 hvn
          have hcs := com_settle (HAt.out.le).mdl hv1 hvn h40
          rw [hx] at x0 xv xin hcs
          have HXi := hid xin
          have q0 := HRb3.out.cell (i := 0) (by omega)
          have q1 := HRb3.out.cell (i := 1) (by omega)
          have HWm := hid (HAt.out.le).mdl.wf
          obtain ⟨Q1, hQ1⟩ : ∃ q, (H).1 = q := ⟨_, rfl⟩
          obtain ⟨Q2, hQ2⟩ : ∃ q, (H).2 = q := ⟨_, rfl⟩
          rw [show hc (H) 0 = .int .u64 (H).1 from rfl, hQ1] at q0
          rw [show hc (H) 1 = .int .u64 (H).2 from rfl, hQ2] at q1
          have hQ : (H) = (Q1, Q2) := by rw [← hQ1, ← hQ2]
          have hwq := HWm.out
          rw [hQ] at hcs hwq
          have HBx : Hid (∀ w8 : World, Below wb.heap.size wb w8 → w8.cell? ⟨w.heap.size + 1, 0, none⟩ = some (.int .u64 Q1) ∧ w8.cell? ⟨w.heap.size + 1, 1, none⟩ = some (.int .u64 Q2)) := by
            have Z0 := hid q0
            have Z1 := hid q1
            exact hid (fun w8 hb => ⟨keep hb Z0.out, keep hb Z1.out⟩)
          have hwa := wf_only (l := (v : Int)) (by omega) (by omega) (by omega)
          have hwb := wf_only (l := -(v : Int)) (by omega) (by omega) (by omega)
          have hwd := wf_with hwa hwb
          have hwe := wf_com hwq (withL (onlyL (v : Int)) (onlyL (-(v : Int))))
          obtain ⟨A1, hA1⟩ : ∃ q, pBit (v : Int) = q := ⟨_, rfl⟩
          obtain ⟨A2, hA2⟩ : ∃ q, oBit (v : Int) = q := ⟨_, rfl⟩
          obtain ⟨B1, hB1⟩ : ∃ q, pBit (-(v : Int)) = q := ⟨_, rfl⟩
          obtain ⟨B2, hB2⟩ : ∃ q, oBit (-(v : Int)) = q := ⟨_, rfl⟩
          have HOa := hid (fun W : World => only_impl (v : Int) W (by omega) (by omega))
          have HOb := hid (fun W : World => only_impl (-(v : Int)) W (by omega) (by omega))
          have eA : onlyL (v : Int) = (A1, A2) := by rw [← hA1, ← hA2]; rfl
          have eB : onlyL (-(v : Int)) = (B1, B2) := by rw [← hB1, ← hB2]; rfl
          rw [hA1, hA2] at HOa
          rw [hB1, hB2] at HOb
          rw [eA] at hwa hwd hwe hcs
          rw [eB] at hwb hwd hwe hcs
          have HWi := hid (fun W : World => with_impl A1 A2 B1 B2 W hwa.lt.1 hwa.lt.2 hwb.lt.1 hwb.lt.2)
          obtain ⟨D1, hD1⟩ : ∃ q, (A1 ||| B1) = q := ⟨_, rfl⟩
          obtain ⟨D2, hD2⟩ : ∃ q, (A2 ||| B2) = q := ⟨_, rfl⟩
          have eD : withL (A1, A2) (B1, B2) = (D1, D2) := by rw [← hD1, ← hD2]; rfl
          rw [hD1, hD2] at HWi
          rw [eD] at hwd hwe hcs
          have HCo := hid (fun W : World => common_impl Q1 Q2 D1 D2 W hwq.lt.1 hwq.lt.2 hwd.lt.1 hwd.lt.2)
          obtain ⟨E1, hE1⟩ : ∃ q, (Q1 &&& D1) = q := ⟨_, rfl⟩
          obtain ⟨E2, hE2⟩ : ∃ q, (Q2 &&& D2) = q := ⟨_, rfl⟩
          have eE : comL (Q1, Q2) (D1, D2) = (E1, E2) := by rw [← hE1, ← hE2]; rfl
          rw [hE1, hE2] at HCo
          rw [eE] at hwe hcs
          have HFi : Hid (∀ W : World, Below wb.heap.size wb W → Calls Tryd.prog 48 #[.agg #[.int .u64 E1, .int .u64 E2]] W fun e w' => e = .returned (.int .i64 x) ∧ Below W.heap.size W w') := by
            have HTb := hid hsb.tab
            have HWe := hid hwe
            have HCs := hid hcs
            exact hid (fun W hW => by
              have := first_impl (E1, E2) W HWe.out (tab_below HTb.out hW)
              rw [HCs.out] at this
              exact this)
          clear hcd htl hkl hsb hcb bc bK bF bC bX bs a2 q2 a3 q3 hs1 hx xin hcs q0 q1 hQ1 hQ2 hQ hwq hwa hwb hwd hwe hA1 hA2 hB1 hB2 eA eB hD1 hD2 eD hE1 hE2 eE
          go_wp2_with fail
          refine region_calm (fun us => ⟨#[.pointer (some ⟨M, 0, none⟩), undef, .pointer (some ⟨w.heap.size, 0, none⟩), .pointer (some ⟨w.heap.size + 1, 0, none⟩), .int .i64 ↑v, us 5, .pointer (some ⟨M, 0, none⟩), .pointer (some ⟨M, 0, none⟩), .pointer (some ⟨M, 5, none⟩), .agg #[.int IntKind.u64 ↑H1, .int IntKind.u64 ↑H2], .int .i64 ↑v, .pointer (some ⟨M, 0, none⟩), .pointer (some ⟨M, 0, none⟩), .pointer (some ⟨M, 0, none⟩), .int .i64 ↑n, .bool true, u16, u17, .agg #[.int IntKind.u64 ↑H1', .int IntKind.u64 ↑H2'], .int .i64 ↑v, .bool true, .bool true, .pointer (some ⟨M, 0, none⟩), .int .i64 ↑v, .int .i64 (-↑v), .bool false, .bool false, u27, u28, u29, u30, .pointer (some ⟨M, 0, none⟩), .tuple #[], us 33, us 34, us 35, us 36, us 37, us 38, us 39, us 40, us 41, u42, u43, u44, u45, u46, u47, u48, u49, u50, u51, undef], []⟩) (fun i => [33, 34, 35, 36, 37, 38, 39, 40, 41, 5].getD i 0) (fun i x8 w8 => match i with | 0 => x8 = .agg #[.int .u64 Q1, .int .u64 Q2] | 1 => x8 = .int .i64 v | 2 => x8 = .agg #[.int .u64 A1, .int .u64 A2] | 3 => x8 = .int .i64 v | 4 => x8 = .int .i64 (-(v : Int)) | 5 => x8 = .agg #[.int .u64 B1, .int .u64 B2] | 6 => x8 = .agg #[.int .u64 D1, .int .u64 D2] | 7 => x8 = .agg #[.int .u64 E1, .int .u64 E2] | 8 => x8 = .int .i64 x | 9 => x8 = .int .i64 x | _ => True) wb 10 (fun k => match k with | 33 => u33 | 34 => u34 | 35 => u35 | 36 => u36 | 37 => u37 | 38 => u38 | 39 => u39 | 40 => u40 | 41 => u41 | 5 => u5 | _ => undef) (by rfl) (by kernel_rfl) (by rfl) (by kernel_rfl) (Below.refl _ _) ?hput ?hinj ?stable ?step ?fin
          case hput =>
            intro i hi us v
            match i, hi with
            | 0, _ => rfl
            | 1, _ => rfl
            | 2, _ => rfl
            | 3, _ => rfl
            | 4, _ => rfl
            | 5, _ => rfl
            | 6, _ => rfl
            | 7, _ => rfl
            | 8, _ => rfl
            | 9, _ => rfl
            | i + 10, hi => exact absurd hi (by omega)
          case hinj =>
            intro i j hi hj h
            exact slots_inj [33, 34, 35, 36, 37, 38, 39, 40, 41, 5] (by decide) hi hj h
          case stable =>
            intro i v w8 w9 hb h
            match i, hb, h with
            | 0, hb, h => exact h
            | 1, hb, h => exact h
            | 2, hb, h => exact h
            | 3, hb, h => exact h
            | 4, hb, h => exact h
            | 5, hb, h => exact h
            | 6, hb, h => exact h
            | 7, hb, h => exact h
            | 8, hb, h => exact h
            | 9, hb, h => exact h
            | _ + 10, hb, h => trivial
          case step =>
            intro i hi us w8 S8 hdep
            match i, hi, hdep with
            | 0, _, hdep =>
              clear hdep
              refine ⟨_, rfl, fun K' hK => ?_⟩
              obtain ⟨y0, y1⟩ := HBx.out w8 S8
              go_simp
              exact hK.out _ _ (Below.refl _ _) rfl
            | 1, _, hdep =>
              clear hdep
              refine ⟨_, rfl, fun K' hK => ?_⟩
              go_simp
              exact hK.out _ _ (Below.refl _ _) rfl
            | 2, _, hdep =>
              have h1 : (us 34) = .int .i64 v := hdep 1 (by kernel_rfl)
              clear hdep
              refine ⟨_, rfl, fun K' hK => ?_⟩
              simp only [h1] at hK ⊢
              go_simp
              refine (HOa.out _).mono ?_
              rintro e w9 ⟨rfl, hb9⟩
              exact hK.out _ _ hb9 rfl
            | 3, _, hdep =>
              clear hdep
              refine ⟨_, rfl, fun K' hK => ?_⟩
              go_simp
              exact hK.out _ _ (Below.refl _ _) rfl
            | 4, _, hdep =>
              have h3 : (us 36) = .int .i64 v := hdep 3 (by kernel_rfl)
              clear hdep
              refine ⟨_, rfl, fun K' hK => ?_⟩
              simp only [h3] at hK ⊢
              go_simp
              exact hK.out _ _ (Below.refl _ _) rfl
            | 5, _, hdep =>
              have h4 : (us 37) = .int .i64 (-(v : Int)) := hdep 4 (by kernel_rfl)
              clear hdep
              refine ⟨_, rfl, fun K' hK => ?_⟩
              simp only [h4] at hK ⊢
              go_simp
              refine (HOb.out _).mono ?_
              rintro e w9 ⟨rfl, hb9⟩
              exact hK.out _ _ hb9 rfl
            | 6, _, hdep =>
              have h2 : (us 35) = .agg #[.int .u64 A1, .int .u64 A2] := hdep 2 (by kernel_rfl)
              have h5 : (us 38) = .agg #[.int .u64 B1, .int .u64 B2] := hdep 5 (by kernel_rfl)
              clear hdep
              refine ⟨_, rfl, fun K' hK => ?_⟩
              simp only [h2, h5] at hK ⊢
              go_simp
              refine (HWi.out _).mono ?_
              rintro e w9 ⟨rfl, hb9⟩
              exact hK.out _ _ hb9 rfl
            | 7, _, hdep =>
              have h0 : (us 33) = .agg #[.int .u64 Q1, .int .u64 Q2] := hdep 0 (by kernel_rfl)
              have h6 : (us 39) = .agg #[.int .u64 D1, .int .u64 D2] := hdep 6 (by kernel_rfl)
              clear hdep
              refine ⟨_, rfl, fun K' hK => ?_⟩
              simp only [h0, h6] at hK ⊢
              go_simp
              refine (HCo.out _).mono ?_
              rintro e w9 ⟨rfl, hb9⟩
              exact hK.out _ _ hb9 rfl
            | 8, _, hdep =>
              have h7 : (us 40) = .agg #[.int .u64 E1, .int .u64 E2] := hdep 7 (by kernel_rfl)
              clear hdep
              refine ⟨_, rfl, fun K' hK => ?_⟩
              simp only [h7] at hK ⊢
              go_simp
              refine (HFi.out _ S8).mono ?_
              rintro e w9 ⟨rfl, hb9⟩
              exact hK.out _ _ hb9 rfl
            | 9, _, hdep =>
              have h8 : (us 41) = .int .i64 x := hdep 8 (by kernel_rfl)
              clear hdep
              refine ⟨_, rfl, fun K' hK => ?_⟩
              simp only [h8] at hK ⊢
              go_simp
              exact hK.out _ _ (Below.refl _ _) rfl
            | i + 10, hi, _ => exact absurd hi (by omega)
          case fin =>
            intro us wc S8 hall
            have h9 : (us 5) = .int .i64 x := hall 9 (by decide)
            clear hall
            have h9' := h9
            have HBn := hid S8
            clear S8
            rw [h9']
            clear h9 h9'
            have HSn := hid (HSb.out.below HBn.out)
            have HAn2 := hid (HAb2.out.below HBn.out)
            have HAn3 := hid (HAb3.out.below HBn.out)
            have HRn2 := hid (HRb2.out.of_block (HBn.out.block _ HAb2.out.lt))
            have HRn3 := hid (HRb3.out.of_block (HBn.out.block _ HAb3.out.lt))
            have HCn := hid (HCb.out.next (Chg.below HBn.out))
            have k5 := HSn.out.cell (i := 5) (by omega)
            have k6 := HSn.out.cell (i := 6) (by omega)
            rw [HSn.out.f5] at k5
            rw [HSn.out.f6] at k6
            obtain ⟨S1, hS1⟩ : ∃ q, s1.H.1 = q := ⟨_, rfl⟩
            obtain ⟨S2, hS2⟩ : ∃ q, s1.H.2 = q := ⟨_, rfl⟩
            have HHs : Hid (s1.H = (S1, S2)) := hid (by rw [← hS1, ← hS2])
            rw [hS1] at k5
            rw [hS2] at k6
            have HHx := hid (fun W : World => has_any (S1, S2) x W (by rw [← HHs.out]; exact HBc.out.full.ok.wfH) (by omega) (by omega))
            have ho2 := least_step (HAt.out.le) hv1 hvn h40 HO.out
            rw [HX.out] at ho2
            have HL2 := hid ho2
            clear hS1 hS2 ho2
            go_wp2_with fail
            refine (HHx.out _).mono ?_
            rintro e wd ⟨rfl, hbd⟩
            have HBd := hid hbd
            cases hsx : mem (S1, S2) x with
            | true =>
              have hcr : ∃ r2, Big n Z.length (800 + 6 * (v - 1) + 3 + 3) s1 r2 := big_anew (by omega) HS4.out.cr (fun j _ => by rw [HBX.out]) (by rw [HBC.out])
              obtain ⟨r2, hr2⟩ := hcr
              rw [show 800 + 6 * (v - 1) + 3 + 3 = 800 + 6 * (v + 1 - 1) by omega] at hr2
              have HCd : Hid (Cd n Z (0, 0) (withL B (onlyL x)) s1) := hid (cd_known HBc.out HBK.out x0 (by rw [HHs.out]; exact hsx))
              have HSr : Hid (Srch n Z (0, 0) (withL B (onlyL x)) M mb4 (Big n Z.length (800 + 6 * (v + 1 - 1))) Fb V4 s1 g4 r2 wd) := hid ⟨HSn.out.below HBd.out, HS4.out.nil, HCd.out, by rw [HBX.out]; exact HS4.out.wg, HS4.out.gg, hr2⟩
              have HAt2 : Hid (AtV n Z M mb (blk 0 F V) w w.heap.size (w.heap.size + 1) (v + 1) wd mb4 Fb V4 s1 g4 r2 (withL B (onlyL x)) (H)) := hid ⟨by omega, by omega, HSr.out, HL2.out, HRn2.out.of_block (HBd.out.block _ HAn2.out.lt), HRn3.out.of_block (HBd.out.block _ HAn3.out.lt), HAn2.out.below HBd.out, HAn3.out.below HBd.out, HCn.out.next (Chg.below HBd.out)⟩
              clear hsx hr2 hbd k5 k6
              go_wp2
              go_round
              case rel => exact ⟨v + 1, _, _, _, _, _, _, _, _, by first | rfl | go_num, HAt2.out⟩
              case measure => simp [intOf]; omega
            | false =>
              have hno : mem s1.H x = false ∧ mem s1.H (-x) = false := ⟨by rw [HHs.out]; exact hsx, by
                cases h8 : mem s1.H (-x) with
                | false => rfl
                | true =>
                  have h7 := HBs.out _ h8
                  have h6 := (HAt.out.le).mdl.cons _ h7
                  rw [Int.neg_neg, HXi.out] at h6; cases h6⟩
              have HNo := hid hno
              have hCl := big_most n Z.length _ _ _ HS4.out.cr
              have hcl2 : s1.C.length ≤ 8000000000000 := by rw [HBC.out]; exact hCl
              have htl2 := cd_tlen HBc.out
              have HHo := hid (fun (W : World) (hW : Below wd.heap.size wd W) => solHoldI.hold_impl M mb4 Fb V4 s1 W ((HSn.out.below HBd.out).below hW) HS4.out.nil x (-1) HBc.out.full.ok (fun i hi => .inl (HBc.out.full.st i hi)) x0 (by omega) hno (by omega) hcl2 (by omega))
              clear hsx hbd k5 k6 hno hCl hcl2 htl2
              go_wp2_with fail
              refine (HHo.out _ (Below.refl _ _)).mono ?_
              rintro e wf ⟨rfl, Ff, Vf, hsf, hvf, hcf, _⟩
              obtain ⟨cs1, cs2⟩ := cd_settle HBc.out HBK.out x0 (by omega) HNo.out
              have hx2 := hold_X s1 x (-1)
              have hc2 := (hold_same s1 x (-1)).1
              have hcr : ∃ r2, Big n Z.length (800 + 6 * (v - 1) + 3 + 3) (holdS s1 x (-1)) r2 := big_anew (by omega) HS4.out.cr (fun j _ => by rw [hx2, HBX.out]) (by rw [hc2, HBC.out])
              obtain ⟨r2, hr2⟩ := hcr
              rw [show 800 + 6 * (v - 1) + 3 + 3 = 800 + 6 * (v + 1 - 1) by omega] at hr2
              have HSr : Hid (Srch n Z (0, 0) (withL B (onlyL x)) M mb4 (Big n Z.length (800 + 6 * (v + 1 - 1))) Ff Vf (holdS s1 x (-1)) g4 r2 wf) := hid ⟨hsf, hvf, cs1, by rw [hx2, HBX.out]; exact HS4.out.wg, HS4.out.gg, hr2⟩
              obtain ⟨u2, q2⟩ := (HAn2.out.below HBd.out).next (ChgM.of hcf)
              obtain ⟨u3, q3⟩ := (HAn3.out.below HBd.out).next (ChgM.of hcf)
              have HAt2 : Hid (AtV n Z M mb (blk 0 F V) w w.heap.size (w.heap.size + 1) (v + 1) wf mb4 Ff Vf (holdS s1 x (-1)) g4 r2 (withL B (onlyL x)) (H)) := hid ⟨by omega, by omega, HSr.out, HL2.out, (HRn2.out.of_block (HBd.out.block _ HAn2.out.lt)).of_block q2, (HRn3.out.of_block (HBd.out.block _ HAn3.out.lt)).of_block q3, u2, u3, (HCn.out.next (Chg.below HBd.out)).next hcf⟩
              clear hsf hvf hcf cs1 cs2 hx2 hc2 hr2 u2 q2 u3 q3
              go_wp2
              go_round
              case rel => exact ⟨v + 1, _, _, _, _, _, _, _, _, by first | rfl | go_num, HAt2.out⟩
              case measure => simp [intOf]; omega
      | false =>
        have HS3 : Hid (Srch n Z (0, 0) B M mbj (Big n Z.length (800 + 6 * (v - 1) + 3)) Fj Vj sj gj r0 w3) := hid ⟨HSj.out.sol.below hb3, HSj.out.nil, HSj.out.cd, HSj.out.wg, HSj.out.gg, HSj.out.cr⟩
        have HA2' := hid (HAt.out.a2.below hb3)
        have HA3' := hid (HAt.out.a3.below hb3)
        have HR2' := hid (HAt.out.r2.of_block (hb3.block _ HAt.out.a2.lt))
        have HR3' := hid (HAt.out.r3.of_block (hb3.block _ HAt.out.a3.lt))
        have HC3 := hid (HAt.out.ch.next (Chg.below hb3))
        have HO : Hid (mem H (v : Int) = true → ¬ ∃ H', Mdl n Z H' ∧ Sub B H' ∧ mem H' (-(v : Int)) = true) := hid (fun h9 => by rw [HHj.out, hmv] at h9; cases h9)
        clear hb3 hmv k0 c0 c1
        go_wp2_with fail
        have hcd := HS3.out.cd
        have htl := cd_tlen hcd
        have hkl := cd_klen hcd
        refine (solBackI.back_impl M mbj Fj Vj sj w3 HS3.out.sol hcd.full.ok.wfH 0 (Nat.zero_le _) (fun hk => by rw [List.getElem?_eq_getElem hk]; exact hcd.stk.le _ (List.getElem_mem hk)) (cd_lits hcd) (by omega) (by omega)).mono ?_
        rintro e wb ⟨rfl, Fb, hsb, hcb, _⟩
        obtain ⟨bc, bK, bF, bC, bX, bs⟩ := back_fine hcd (HAt.out.le).mdl (fun l hl => (((HAt.out.le).set l).1 hl).2)
        obtain ⟨a2, q2⟩ := HA2'.out.next (ChgM.of hcb)
        obtain ⟨a3, q3⟩ := HA3'.out.next (ChgM.of hcb)
        have HAb2 := hid a2
        have HAb3 := hid a3
        have HRb2 := hid (HR2'.out.of_block q2)
        have HRb3 := hid (HR3'.out.of_block q3)
        have HCb := hid (HC3.out.next hcb)
        obtain ⟨s1, hs1⟩ : ∃ s1, backS sj 0 = s1 := ⟨_, rfl⟩
        rw [hs1] at hsb bc bK bF bC bX bs
        have HSb := hid hsb
        have HBc := hid bc
        have HBK := hid bK
        have HBC := hid bC
        have HBX := hid bX
        have HBs := hid bs
        have HSe := hid hs1
        obtain ⟨x, hx⟩ : ∃ x, fixV (H) v = x := ⟨_, rfl⟩
        have HX := hid hx
        obtain ⟨x0, xv⟩ := settle_ne (H := H) hv1
        have xin := settle_in (HAt.out.le).mdl hv1 hvn
        have hcs := com_settle (HAt.out.le).mdl hv1 hvn h40
        rw [hx] at x0 xv xin hcs
        have HXi := hid xin
        have q0 := HRb3.out.cell (i := 0) (by omega)
        have q1 := HRb3.out.cell (i := 1) (by omega)
        have HWm := hid (HAt.out.le).mdl.wf
        obtain ⟨Q1, hQ1⟩ : ∃ q, (H).1 = q := ⟨_, rfl⟩
        obtain ⟨Q2, hQ2⟩ : ∃ q, (H).2 = q := ⟨_, rfl⟩
        rw [show hc (H) 0 = .int .u64 (H).1 from rfl, hQ1] at q0
        rw [show hc (H) 1 = .int .u64 (H).2 from rfl, hQ2] at q1
        have hQ : (H) = (Q1, Q2) := by rw [← hQ1, ← hQ2]
        have hwq := HWm.out
        rw [hQ] at hcs hwq
        have HBx : Hid (∀ w8 : World, Below wb.heap.size wb w8 → w8.cell? ⟨w.heap.size + 1, 0, none⟩ = some (.int .u64 Q1) ∧ w8.cell? ⟨w.heap.size + 1, 1, none⟩ = some (.int .u64 Q2)) := by
          have Z0 := hid q0
          have Z1 := hid q1
          exact hid (fun w8 hb => ⟨keep hb Z0.out, keep hb Z1.out⟩)
        have hwa := wf_only (l := (v : Int)) (by omega) (by omega) (by omega)
        have hwb := wf_only (l := -(v : Int)) (by omega) (by omega) (by omega)
        have hwd := wf_with hwa hwb
        have hwe := wf_com hwq (withL (onlyL (v : Int)) (onlyL (-(v : Int))))
        obtain ⟨A1, hA1⟩ : ∃ q, pBit (v : Int) = q := ⟨_, rfl⟩
        obtain ⟨A2, hA2⟩ : ∃ q, oBit (v : Int) = q := ⟨_, rfl⟩
        obtain ⟨B1, hB1⟩ : ∃ q, pBit (-(v : Int)) = q := ⟨_, rfl⟩
        obtain ⟨B2, hB2⟩ : ∃ q, oBit (-(v : Int)) = q := ⟨_, rfl⟩
        have HOa := hid (fun W : World => only_impl (v : Int) W (by omega) (by omega))
        have HOb := hid (fun W : World => only_impl (-(v : Int)) W (by omega) (by omega))
        have eA : onlyL (v : Int) = (A1, A2) := by rw [← hA1, ← hA2]; rfl
        have eB : onlyL (-(v : Int)) = (B1, B2) := by rw [← hB1, ← hB2]; rfl
        rw [hA1, hA2] at HOa
        rw [hB1, hB2] at HOb
        rw [eA] at hwa hwd hwe hcs
        rw [eB] at hwb hwd hwe hcs
        have HWi := hid (fun W : World => with_impl A1 A2 B1 B2 W hwa.lt.1 hwa.lt.2 hwb.lt.1 hwb.lt.2)
        obtain ⟨D1, hD1⟩ : ∃ q, (A1 ||| B1) = q := ⟨_, rfl⟩
        obtain ⟨D2, hD2⟩ : ∃ q, (A2 ||| B2) = q := ⟨_, rfl⟩
        have eD : withL (A1, A2) (B1, B2) = (D1, D2) := by rw [← hD1, ← hD2]; rfl
        rw [hD1, hD2] at HWi
        rw [eD] at hwd hwe hcs
        have HCo := hid (fun W : World => common_impl Q1 Q2 D1 D2 W hwq.lt.1 hwq.lt.2 hwd.lt.1 hwd.lt.2)
        obtain ⟨E1, hE1⟩ : ∃ q, (Q1 &&& D1) = q := ⟨_, rfl⟩
        obtain ⟨E2, hE2⟩ : ∃ q, (Q2 &&& D2) = q := ⟨_, rfl⟩
        have eE : comL (Q1, Q2) (D1, D2) = (E1, E2) := by rw [← hE1, ← hE2]; rfl
        rw [hE1, hE2] at HCo
        rw [eE] at hwe hcs
        have HFi : Hid (∀ W : World, Below wb.heap.size wb W → Calls Tryd.prog 48 #[.agg #[.int .u64 E1, .int .u64 E2]] W fun e w' => e = .returned (.int .i64 x) ∧ Below W.heap.size W w') := by
          have HTb := hid hsb.tab
          have HWe := hid hwe
          have HCs := hid hcs
          exact hid (fun W hW => by
            have := first_impl (E1, E2) W HWe.out (tab_below HTb.out hW)
            rw [HCs.out] at this
            exact this)
        clear hcd htl hkl hsb hcb bc bK bF bC bX bs a2 q2 a3 q3 hs1 hx xin hcs q0 q1 hQ1 hQ2 hQ hwq hwa hwb hwd hwe hA1 hA2 hB1 hB2 eA eB hD1 hD2 eD hE1 hE2 eE
        go_wp2_with fail
        refine region_calm (fun us => ⟨#[.pointer (some ⟨M, 0, none⟩), undef, .pointer (some ⟨w.heap.size, 0, none⟩), .pointer (some ⟨w.heap.size + 1, 0, none⟩), .int .i64 ↑v, us 5, .pointer (some ⟨M, 0, none⟩), .pointer (some ⟨M, 0, none⟩), .pointer (some ⟨M, 5, none⟩), .agg #[.int IntKind.u64 ↑H1, .int IntKind.u64 ↑H2], .int .i64 ↑v, .pointer (some ⟨M, 0, none⟩), .pointer (some ⟨M, 0, none⟩), .pointer (some ⟨M, 0, none⟩), .int .i64 ↑n, .bool true, u16, u17, .agg #[.int IntKind.u64 ↑H1', .int IntKind.u64 ↑H2'], .int .i64 ↑v, .bool false, .bool false, undef, undef, undef, undef, .bool false, u27, u28, u29, u30, .pointer (some ⟨M, 0, none⟩), .tuple #[], us 33, us 34, us 35, us 36, us 37, us 38, us 39, us 40, us 41, u42, u43, u44, u45, u46, u47, u48, u49, u50, u51, undef], []⟩) (fun i => [33, 34, 35, 36, 37, 38, 39, 40, 41, 5].getD i 0) (fun i x8 w8 => match i with | 0 => x8 = .agg #[.int .u64 Q1, .int .u64 Q2] | 1 => x8 = .int .i64 v | 2 => x8 = .agg #[.int .u64 A1, .int .u64 A2] | 3 => x8 = .int .i64 v | 4 => x8 = .int .i64 (-(v : Int)) | 5 => x8 = .agg #[.int .u64 B1, .int .u64 B2] | 6 => x8 = .agg #[.int .u64 D1, .int .u64 D2] | 7 => x8 = .agg #[.int .u64 E1, .int .u64 E2] | 8 => x8 = .int .i64 x | 9 => x8 = .int .i64 x | _ => True) wb 10 (fun k => match k with | 33 => u33 | 34 => u34 | 35 => u35 | 36 => u36 | 37 => u37 | 38 => u38 | 39 => u39 | 40 => u40 | 41 => u41 | 5 => u5 | _ => undef) (by rfl) (by kernel_rfl) (by rfl) (by kernel_rfl) (Below.refl _ _) ?hput ?hinj ?stable ?step ?fin
        case hput =>
          intro i hi us v
          match i, hi with
          | 0, _ => rfl
          | 1, _ => rfl
          | 2, _ => rfl
          | 3, _ => rfl
          | 4, _ => rfl
          | 5, _ => rfl
          | 6, _ => rfl
          | 7, _ => rfl
          | 8, _ => rfl
          | 9, _ => rfl
          | i + 10, hi => exact absurd hi (by omega)
        case hinj =>
          intro i j hi hj h
          exact slots_inj [33, 34, 35, 36, 37, 38, 39, 40, 41, 5] (by decide) hi hj h
        case stable =>
          intro i v w8 w9 hb h
          match i, hb, h with
          | 0, hb, h => exact h
          | 1, hb, h => exact h
          | 2, hb, h => exact h
          | 3, hb, h => exact h
          | 4, hb, h => exact h
          | 5, hb, h => exact h
          | 6, hb, h => exact h
          | 7, hb, h => exact h
          | 8, hb, h => exact h
          | 9, hb, h => exact h
          | _ + 10, hb, h => trivial
        case step =>
          intro i hi us w8 S8 hdep
          match i, hi, hdep with
          | 0, _, hdep =>
            clear hdep
            refine ⟨_, rfl, fun K' hK => ?_⟩
            obtain ⟨y0, y1⟩ := HBx.out w8 S8
            go_simp
            exact hK.out _ _ (Below.refl _ _) rfl
          | 1, _, hdep =>
            clear hdep
            refine ⟨_, rfl, fun K' hK => ?_⟩
            go_simp
            exact hK.out _ _ (Below.refl _ _) rfl
          | 2, _, hdep =>
            have h1 : (us 34) = .int .i64 v := hdep 1 (by kernel_rfl)
            clear hdep
            refine ⟨_, rfl, fun K' hK => ?_⟩
            simp only [h1] at hK ⊢
            go_simp
            refine (HOa.out _).mono ?_
            rintro e w9 ⟨rfl, hb9⟩
            exact hK.out _ _ hb9 rfl
          | 3, _, hdep =>
            clear hdep
            refine ⟨_, rfl, fun K' hK => ?_⟩
            go_simp
            exact hK.out _ _ (Below.refl _ _) rfl
          | 4, _, hdep =>
            have h3 : (us 36) = .int .i64 v := hdep 3 (by kernel_rfl)
            clear hdep
            refine ⟨_, rfl, fun K' hK => ?_⟩
            simp only [h3] at hK ⊢
            go_simp
            exact hK.out _ _ (Below.refl _ _) rfl
          | 5, _, hdep =>
            have h4 : (us 37) = .int .i64 (-(v : Int)) := hdep 4 (by kernel_rfl)
            clear hdep
            refine ⟨_, rfl, fun K' hK => ?_⟩
            simp only [h4] at hK ⊢
            go_simp
            refine (HOb.out _).mono ?_
            rintro e w9 ⟨rfl, hb9⟩
            exact hK.out _ _ hb9 rfl
          | 6, _, hdep =>
            have h2 : (us 35) = .agg #[.int .u64 A1, .int .u64 A2] := hdep 2 (by kernel_rfl)
            have h5 : (us 38) = .agg #[.int .u64 B1, .int .u64 B2] := hdep 5 (by kernel_rfl)
            clear hdep
            refine ⟨_, rfl, fun K' hK => ?_⟩
            simp only [h2, h5] at hK ⊢
            go_simp
            refine (HWi.out _).mono ?_
            rintro e w9 ⟨rfl, hb9⟩
            exact hK.out _ _ hb9 rfl
          | 7, _, hdep =>
            have h0 : (us 33) = .agg #[.int .u64 Q1, .int .u64 Q2] := hdep 0 (by kernel_rfl)
            have h6 : (us 39) = .agg #[.int .u64 D1, .int .u64 D2] := hdep 6 (by kernel_rfl)
            clear hdep
            refine ⟨_, rfl, fun K' hK => ?_⟩
            simp only [h0, h6] at hK ⊢
            go_simp
            refine (HCo.out _).mono ?_
            rintro e w9 ⟨rfl, hb9⟩
            exact hK.out _ _ hb9 rfl
          | 8, _, hdep =>
            have h7 : (us 40) = .agg #[.int .u64 E1, .int .u64 E2] := hdep 7 (by kernel_rfl)
            clear hdep
            refine ⟨_, rfl, fun K' hK => ?_⟩
            simp only [h7] at hK ⊢
            go_simp
            refine (HFi.out _ S8).mono ?_
            rintro e w9 ⟨rfl, hb9⟩
            exact hK.out _ _ hb9 rfl
          | 9, _, hdep =>
            have h8 : (us 41) = .int .i64 x := hdep 8 (by kernel_rfl)
            clear hdep
            refine ⟨_, rfl, fun K' hK => ?_⟩
            simp only [h8] at hK ⊢
            go_simp
            exact hK.out _ _ (Below.refl _ _) rfl
          | i + 10, hi, _ => exact absurd hi (by omega)
        case fin =>
          intro us wc S8 hall
          have h9 : (us 5) = .int .i64 x := hall 9 (by decide)
          clear hall
          have h9' := h9
          have HBn := hid S8
          clear S8
          rw [h9']
          clear h9 h9'
          have HSn := hid (HSb.out.below HBn.out)
          have HAn2 := hid (HAb2.out.below HBn.out)
          have HAn3 := hid (HAb3.out.below HBn.out)
          have HRn2 := hid (HRb2.out.of_block (HBn.out.block _ HAb2.out.lt))
          have HRn3 := hid (HRb3.out.of_block (HBn.out.block _ HAb3.out.lt))
          have HCn := hid (HCb.out.next (Chg.below HBn.out))
          have k5 := HSn.out.cell (i := 5) (by omega)
          have k6 := HSn.out.cell (i := 6) (by omega)
          rw [HSn.out.f5] at k5
          rw [HSn.out.f6] at k6
          obtain ⟨S1, hS1⟩ : ∃ q, s1.H.1 = q := ⟨_, rfl⟩
          obtain ⟨S2, hS2⟩ : ∃ q, s1.H.2 = q := ⟨_, rfl⟩
          have HHs : Hid (s1.H = (S1, S2)) := hid (by rw [← hS1, ← hS2])
          rw [hS1] at k5
          rw [hS2] at k6
          have HHx := hid (fun W : World => has_any (S1, S2) x W (by rw [← HHs.out]; exact HBc.out.full.ok.wfH) (by omega) (by omega))
          have ho2 := least_step (HAt.out.le) hv1 hvn h40 HO.out
          rw [HX.out] at ho2
          have HL2 := hid ho2
          clear hS1 hS2 ho2
          go_wp2_with fail
          refine (HHx.out _).mono ?_
          rintro e wd ⟨rfl, hbd⟩
          have HBd := hid hbd
          cases hsx : mem (S1, S2) x with
          | true =>
            have hcr : ∃ r2, Big n Z.length (800 + 6 * (v - 1) + 3 + 3) s1 r2 := big_anew (by omega) HS3.out.cr (fun j _ => by rw [HBX.out]) (by rw [HBC.out])
            obtain ⟨r2, hr2⟩ := hcr
            rw [show 800 + 6 * (v - 1) + 3 + 3 = 800 + 6 * (v + 1 - 1) by omega] at hr2
            have HCd : Hid (Cd n Z (0, 0) (withL B (onlyL x)) s1) := hid (cd_known HBc.out HBK.out x0 (by rw [HHs.out]; exact hsx))
            have HSr : Hid (Srch n Z (0, 0) (withL B (onlyL x)) M mbj (Big n Z.length (800 + 6 * (v + 1 - 1))) Fb Vj s1 gj r2 wd) := hid ⟨HSn.out.below HBd.out, HS3.out.nil, HCd.out, by rw [HBX.out]; exact HS3.out.wg, HS3.out.gg, hr2⟩
            have HAt2 : Hid (AtV n Z M mb (blk 0 F V) w w.heap.size (w.heap.size + 1) (v + 1) wd mbj Fb Vj s1 gj r2 (withL B (onlyL x)) (H)) := hid ⟨by omega, by omega, HSr.out, HL2.out, HRn2.out.of_block (HBd.out.block _ HAn2.out.lt), HRn3.out.of_block (HBd.out.block _ HAn3.out.lt), HAn2.out.below HBd.out, HAn3.out.below HBd.out, HCn.out.next (Chg.below HBd.out)⟩
            clear hsx hr2 hbd k5 k6
            go_wp2
            go_round
            case rel => exact ⟨v + 1, _, _, _, _, _, _, _, _, by first | rfl | go_num, HAt2.out⟩
            case measure => simp [intOf]; omega
          | false =>
            have hno : mem s1.H x = false ∧ mem s1.H (-x) = false := ⟨by rw [HHs.out]; exact hsx, by
              cases h8 : mem s1.H (-x) with
              | false => rfl
              | true =>
                have h7 := HBs.out _ h8
                have h6 := (HAt.out.le).mdl.cons _ h7
                rw [Int.neg_neg, HXi.out] at h6; cases h6⟩
            have HNo := hid hno
            have hCl := big_most n Z.length _ _ _ HS3.out.cr
            have hcl2 : s1.C.length ≤ 8000000000000 := by rw [HBC.out]; exact hCl
            have htl2 := cd_tlen HBc.out
            have HHo := hid (fun (W : World) (hW : Below wd.heap.size wd W) => solHoldI.hold_impl M mbj Fb Vj s1 W ((HSn.out.below HBd.out).below hW) HS3.out.nil x (-1) HBc.out.full.ok (fun i hi => .inl (HBc.out.full.st i hi)) x0 (by omega) hno (by omega) hcl2 (by omega))
            clear hsx hbd k5 k6 hno hCl hcl2 htl2
            go_wp2_with fail
            refine (HHo.out _ (Below.refl _ _)).mono ?_
            rintro e wf ⟨rfl, Ff, Vf, hsf, hvf, hcf, _⟩
            obtain ⟨cs1, cs2⟩ := cd_settle HBc.out HBK.out x0 (by omega) HNo.out
            have hx2 := hold_X s1 x (-1)
            have hc2 := (hold_same s1 x (-1)).1
            have hcr : ∃ r2, Big n Z.length (800 + 6 * (v - 1) + 3 + 3) (holdS s1 x (-1)) r2 := big_anew (by omega) HS3.out.cr (fun j _ => by rw [hx2, HBX.out]) (by rw [hc2, HBC.out])
            obtain ⟨r2, hr2⟩ := hcr
            rw [show 800 + 6 * (v - 1) + 3 + 3 = 800 + 6 * (v + 1 - 1) by omega] at hr2
            have HSr : Hid (Srch n Z (0, 0) (withL B (onlyL x)) M mbj (Big n Z.length (800 + 6 * (v + 1 - 1))) Ff Vf (holdS s1 x (-1)) gj r2 wf) := hid ⟨hsf, hvf, cs1, by rw [hx2, HBX.out]; exact HS3.out.wg, HS3.out.gg, hr2⟩
            obtain ⟨u2, q2⟩ := (HAn2.out.below HBd.out).next (ChgM.of hcf)
            obtain ⟨u3, q3⟩ := (HAn3.out.below HBd.out).next (ChgM.of hcf)
            have HAt2 : Hid (AtV n Z M mb (blk 0 F V) w w.heap.size (w.heap.size + 1) (v + 1) wf mbj Ff Vf (holdS s1 x (-1)) gj r2 (withL B (onlyL x)) (H)) := hid ⟨by omega, by omega, HSr.out, HL2.out, (HRn2.out.of_block (HBd.out.block _ HAn2.out.lt)).of_block q2, (HRn3.out.of_block (HBd.out.block _ HAn3.out.lt)).of_block q3, u2, u3, (HCn.out.next (Chg.below HBd.out)).next hcf⟩
            clear hsf hvf hcf cs1 cs2 hx2 hc2 hr2 u2 q2 u3 q3
            go_wp2
            go_round
            case rel => exact ⟨v + 1, _, _, _, _, _, _, _, _, by first | rfl | go_num, HAt2.out⟩
            case measure => simp [intOf]; omega
    · have e1 : ¬ (v : Int) ≤ (n : Int) := by omega
      have ev : v = n + 1 := by omega
      subst ev
      have d0 := HAt.out.r2.cell (i := 0) (by omega)
      have d1 := HAt.out.r2.cell (i := 1) (by omega)
      have y0 := HAt.out.r2.frozen 0
      have y1 := HAt.out.r2.frozen 1
      have hN23 : ¬ w.heap.size + 1 = w.heap.size := by omega
      have HS9 : Hid (Sol 0 M mbj Fj Vj sj ((wr.setCell ⟨w.heap.size, 0, none⟩ (.int .u64 H1')).setCell ⟨w.heap.size, 1, none⟩ (.int .u64 H2'))) := hid (sol_box (sol_box HAt.out.sr.sol HAt.out.a2 _) ⟨by simpa using HAt.out.a2.lt, HAt.out.a2.m, HAt.out.a2.mb, HAt.out.a2.off, HAt.out.a2.tab⟩ _)
      have HC9 : Hid (ChgM M mb mbj (blk 0 F V) (blk 0 Fj Vj) w ((wr.setCell ⟨w.heap.size, 0, none⟩ (.int .u64 H1')).setCell ⟨w.heap.size, 1, none⟩ (.int .u64 H2'))) := hid (chg_box (chg_box HAt.out.ch (Nat.le_refl _) _) (Nat.le_refl _) _)
      have HL9 : Hid (LeastAt n Z B (H1', H2') (n + 1)) := hid (by rw [← HHj.out]; exact HAt.out.le)
      have hr9 := (HAt.out.r2.set 0 (.int .u64 H1')).set 1 (.int .u64 H2')
      have f0 := hr9.cell (i := 0) (by omega)
      have f1 := hr9.cell (i := 1) (by omega)
      rw [if_neg (by omega), if_pos rfl] at f0
      rw [if_pos rfl] at f1
      clear hr9
      go_wp2
      generalize ((wr.setCell ⟨w.heap.size, 0, none⟩ (.int .u64 H1')).setCell ⟨w.heap.size, 1, none⟩ (.int .u64 H2')) = w9 at *
      exact bodyPost_ret (v := .agg #[.int .u64 H1', .int .u64 H2']) (by simp [results, Tryd.results25, go_sem, f0, f1]) rfl ⟨H1', H2', rfl, ⟨B.1, B.2, HL9.out⟩, HL9.out.mdl.wf, mbj, Fj, Vj, ⟨sj, HS9.out⟩, HC9.out⟩
end Go.Proofs.YtbahjpheaaiamaaDoor.solLeast
