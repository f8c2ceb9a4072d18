/- ChoImpl; StateSeq; CollImpl: one text, so that the claim has fewer files. -/
import Derived.Test.YtoaeieehbplggaaGreatPickAll
import Derived.Test.YtoaeieehbplggaaGreatSsAll
import Derived.Test.YtoaeieehbplggaaGreatSceneOpen
import Derived.Test.YtoaeieehbplggaaGreatBestAll
import Derived.Maps.AppendAt
import Derived.Test.YtoaeieehbplggaaGreatRofImpl
import Derived.Test.YtoaeieehbplggaaGreatStabAll
import Derived.Test.YtoaeieehbplggaaGreatRofSpec
/- The Vias that each router may choose, of the program's scene, and the iterator over them; conditions: a right scene. -/
namespace Go.Proofs.YtoaeieehbplggaaGreat.choImpl
open Go.RowKit Go.Deep Go.Shelf Go base copy netSem routeRow nbSem candSem hopSem intsOwn hopMake hopBetween sceneSem sceneOpen bestAll prodSem ssSem pick picksSeq
set_option linter.unusedVariables false

theorem info_ints : (Tryz.prog.info? 24).map (fun i => (i.zero, i.size, i.bytes)) = some (some (.slice none 0 0), 1, 24) := by kernel_rfl
variable {sb b B : Nat} {F : Nat → Value} {p : Nat → Option Addr} {l c : Nat → Nat} {g : R} {o e : List Int} {x : R} {ea da : Option Addr} {el ec dl dc : Nat} {env : List Int} {ds : List Bool} {w W W2 : World}
/-- A scene survives changes of a block that is none of its own. -/
theorem sc_other {row : Option Nat} (h0 : Sc sb b B F p l c g o e x ea da el ec dl dc env ds w) (hbw : b < w.heap.size) (h : Sc sb b B F p l c g o e x ea da el ec dl dc env ds W) (hg : w.grownBy W (some b))
    (hq : ∀ q, row = some q → w.heap.size ≤ q ∧ ∀ cs fr, W.heap[q]? ≠ some (.cells cs 90 fr)) (h2 : W.grownBy W2 row) : Sc sb b B F p l c g o e x ea da el ec dl dc env ds W2 ∧ w.grownBy W2 (some b) := by
  have hz := hg.size
  have hne : ∀ j, j < w.heap.size → some j ≠ row := fun j hj e => by have := (hq j e.symm).1; omega
  have hg2 : w.grownBy W2 (some b) := ⟨h2.os.trans hg.os, h2.tape.trans hg.tape, h2.output.trans hg.output, Nat.le_trans hg.size h2.size, fun j hj hb => (h2.block j (by omega) (hne j hj)).trans (hg.block j hj hb)⟩
  have hkb : W2.heap[b]? = W.heap[b]? := h2.block b (by omega) (hne b hbw)
  refine ⟨h0.step hg2 ?_, hg2⟩
  rcases h.ready with ⟨h1, h2, h3, h4⟩ | ⟨V, F', hm⟩
  · exact .inl ⟨h1.of_block hkb, h2, h3, h4⟩
  · refine .inr ⟨V, F', hm.row.of_block hkb, hm.net, hm.done, hm.hops, fun p q' hp hq' => hopMake.own_keep (hm.own p q' hp hq') fun k hk => h2.block k (World.ownsRow.lt (hm.own p q' hp hq') k hk).2 fun ek => ?_⟩
    rcases (hm.own p q' hp hq').2 with ⟨e1, _⟩ | ⟨k', cap, cur, e1, _, hh, _⟩
    · rw [e1] at hk
      simp [Value.ownBlock] at hk
    · rw [e1] at hk
      simp [Value.ownBlock] at hk
      rw [hk] at hh
      exact (hq k ek.symm).2 _ _ hh
theorem not_imp {q t : Nat} {cs : Array Value} {fr : Nat × Nat} (h : W.heap[q]? = some (.cells cs t fr)) (ht : t ≠ 90) : ∀ cs fr, W.heap[q]? ≠ some (.cells cs 90 fr) := fun cs' fr' h' => by
  rw [h] at h'
  injection h' with h'
  injection h' with _ h' _
  exact ht h'

set_option maxHeartbeats 6400000 in
set_option maxRecDepth 8000 in
theorem choices_impl (n : Nat) (h : Sc sb b B F p l c g o e x ea da el ec dl dc env ds w) (hf0 : F 0 = .slice (p 0) (l 0) (c 0)) (hu : ∀ i, i < l 1 → linkAt g i (g i 0) (g i 1) < 0) (hn0 : l 0 = n) (hn1 : 1 ≤ n) (hn : n ≤ 4) :
    Calls Tryz.prog 56 #[.pointer (some ⟨sb, 0, none⟩)] w fun e' w' => ∃ (Bx RB : Nat) (V : Nat → Value), e' = .returned (.func (.func 98) #[] #[.pointer (some ⟨Bx, 0, none⟩)]) ∧ Boxed w' Bx 80 (.slice (some ⟨RB, 0, none⟩) n n) ∧ RowsD w.heap.size w'.heap.size RB n V (fun i : Nat => rowP g (l 1) o e env ds (i : Int) (n + 3)) w' ∧ w.heap.size ≤ Bx ∧ w.heap.size ≤ RB ∧ Sc sb b B F p l c g o e x ea da el ec dl dc env ds w' ∧ w.grownBy w' (some b) := by
  subst hn0
  have HS := hid h
  have HU := hid hu
  have hbw : b < w.heap.size := by rcases h.ready with ⟨h1, _⟩ | ⟨V, F', hm⟩; exact h1.lt; exact hm.row.lt
  have s0 := h.s0
  have q0 := h.net 0 (by omega)
  rw [hf0] at q0
  have hmk := run_make_row' (P := Tryz.prog) 80 24 (.slice none 0 0) 24 Tryz.underlying80 info_ints rfl .i64 .i64 (l 0) (by omega) (by omega)
  obtain ⟨i0, hi0, hzz⟩ := Option.map_eq_some_iff.1 Tryz.info_int
  simp only [Prod.mk.injEq] at hzz
  obtain ⟨hz0, hz1, hz2⟩ := hzz
  have HI := hid hi0
  have HZ0 := hid hz0
  have HZ1 := hid hz1
  have HZ2 := hid hz2
  clear hi0 hz0 hz1 hz2 h hu hf0
  go_enter Tryz.func56, Tryz.ntmps56
  go_wp2
  clear s0 q0 hmk
  obtain ⟨w1, hw1⟩ : ∃ w1, w.alloc (.cells (madeCells #[.slice none 0 0] (l 0)) 24) = w1 := ⟨_, rfl⟩
  have HB1 : Hid (Below w.heap.size w w1) := hid (by rw [← hw1]; exact (by repeat (first | exact Below.refl _ _ | assumption | refine Below.drew ?_ | refine Below.alloc ?_ (by first | exact Nat.le_refl _ | omega | (simp; done) | (simp; omega)) _ | refine Below.setCell ?_ (by first | exact Nat.le_refl _ | omega | (simp; done) | (simp; omega)) _)))
  have HR1 : Hid (w1.rowIs w.heap.size 24 (l 0) (fun _ => .slice none 0 0)) := hid (by rw [← hw1]; exact World.rowIs_made w _ (l 0) 24)
  rw [hw1]
  clear hw1
  obtain ⟨RB, hRB⟩ : ∃ RB, w.heap.size = RB := ⟨_, rfl⟩
  rw [hRB] at HR1 ⊢
  have HRB := hid hRB
  obtain ⟨n, hn0⟩ : ∃ n, l 0 = n := ⟨_, rfl⟩
  rw [hn0] at hn1 hn HR1 ⊢
  obtain ⟨L, hL⟩ : ∃ L : Nat → List Int, L = fun i : Nat => rowP g (l 1) o e env ds (i : Int) (n + 3) := ⟨_, rfl⟩
  have HLe := hid hL
  clear hRB hL
  go_loopw [18] (fun i wr => ∃ (r : Nat) (V : Nat → Value), r ≤ n ∧ i = .int .i64 r ∧ wr.rowIs RB 24 n V ∧ (∀ i, i < r → OwnInts RB wr (V i) (L i)) ∧ (∀ i, r ≤ i → V i = .slice none 0 0) ∧ Sc sb b B F p l c g o e x ea da el ec dl dc env ds wr ∧ w.grownBy wr (some b)) (fun i _ => n - (intOf i).toNat)
  case atStart => exact ⟨0, _, Nat.zero_le _, rfl, HR1.out, fun i hi => absurd hi (Nat.not_lt_zero _), fun _ _ => rfl, HS.out.below HB1.out, grown_of_below HB1.out _⟩
  case round =>
    clear HB1 HR1
    obtain ⟨r, V, hr, rfl, hrow, hown, hnil, hs, hg⟩ := hrel
    have HRo := hid hrow
    have HOw := hid hown
    have HNi := hid hnil
    have HSr := hid hs
    have HGr := hid hg
    clear hrow hown hnil hs hg
    by_cases hlt : r < n
    · generalize hq : wr = W0 at *
      clear hq
      have hRW : RB < W0.heap.size := HRo.out.lt
      have hRBw : w.heap.size ≤ RB := by have := HRB.out; omega
      go_wp2
      go_loopw [5] (fun i wr => ∃ (k : Nat) (v : Value), k ≤ n + 3 ∧ i = .int .i64 ((k : Int) - 3) ∧ wr.rowIs RB 24 n (fun i => if i = r then v else V i) ∧ OwnInts W0.heap.size wr v (rowP g (l 1) o e env ds (r : Int) k) ∧ (∀ i, i < r → OwnInts RB wr (V i) (L i)) ∧ Sc sb b B F p l c g o e x ea da el ec dl dc env ds wr ∧ w.grownBy wr (some b) ∧ W0.heap.size ≤ wr.heap.size) (fun i _ => n + 3 - ((intOf i) + 3).toNat)
      case atStart => exact ⟨0, .slice none 0 0, Nat.zero_le _, rfl, HRo.out.congr (fun i hi => by split; (next e => subst e; exact HNi.out _ (Nat.le_refl _)); rfl), OwnInts.nil _ _, HOw.out, HSr.out, HGr.out, Nat.le_refl _⟩
      case round =>
        obtain ⟨k, v, hk, rfl, hrow, hv, hown, hs, hg, hz⟩ := hrel
        have HR2 := hid hrow
        have HV2 := hid hv
        have HO2 := hid hown
        have HS2 := hid hs
        have HG2 := hid hg
        clear hrow hv hown hs hg
        by_cases hk3 : k < n + 3
        · have dk : decide ((k : Int) - 3 < (n : Int)) = true := decide_eq_true (by omega)
          have HPs := hid (rowP_succ g (l 1) o e env ds (r : Int) k)
          have HPl := hid (rowP_len g (l 1) o e env ds (r : Int) k)
          go_wp2_with fail
          refine (open_impl sb b B F p l c g o e x ea da el ec dl dc env ds n r ((k : Int) - 3) wr HS2.out HU.out hn hlt (by omega) (by omega)).mono ?_
          rintro e' w3 ⟨rfl, hs3, hg3⟩
          have HS3 := hid hs3
          have HG3 := hid (gtrans HG2.out hg3)
          have hbr : b < wr.heap.size := Nat.lt_of_lt_of_le hbw HG2.out.size
          have HR3 := hid (HR2.out.of_block (hg3.block _ HR2.out.lt (fun e => by injection e with e; omega)))
          have HV3 := hid (own_grown HV2.out hg3 (fun g hg e => by injection e with e; have := (own_lt HV2.out hg).1; have := HGr.out.size; omega))
          have HO3 : Hid (∀ i, i < r → OwnInts RB w3 (V i) (L i)) := hid (fun i hi => own_grown (HO2.out i hi) hg3 (fun g hg e => by injection e with e; have := (own_lt (HO2.out i hi) hg).1; omega))
          have hz3 : W0.heap.size ≤ w3.heap.size := Nat.le_trans hz hg3.size
          obtain ⟨ob, hob⟩ : ∃ ob, openB g (l 1) o e env ds (r : Int) ((k : Int) - 3) = ob := ⟨_, rfl⟩
          rw [hob] at HPs ⊢
          clear hs3 hg3 HS2 HG2 HR2 HV2 HO2 hob
          cases ob with
          | false =>
            have HPe : Hid (rowP g (l 1) o e env ds (r : Int) (k + 1) = rowP g (l 1) o e env ds (r : Int) k) := hid (by rw [HPs.out]; simp)
            go_wp2
            go_roundw
            case rel => exact ⟨k + 1, v, by omega, by congr 1; omega, HR3.out, by rw [HPe.out]; exact HV3.out, HO3.out, HS3.out, HG3.out, hz3⟩
            case measure => simp [intOf]; omega
          | true =>
            have HPe : Hid (rowP g (l 1) o e env ds (r : Int) (k + 1) = rowP g (l 1) o e env ds (r : Int) k ++ [(k : Int) - 3]) := hid (by rw [HPs.out]; simp)
            have qr := HR3.out.cell (i := r) hlt
            have zr := HR3.out.frozen r
            rw [if_pos rfl] at qr
            have hrn : (r : Int) < (n : Int) := by omega
            have hRW3 : RB < w3.heap.size := HR3.out.lt
            have HR4f : Hid (∀ w4 : World, (w3.alloc (.cells #[.int .i64 ((k : Int) - 3)] 3)).grownBy w4 v.ownBlock → w4.rowIs RB 24 n (fun i => if i = r then v else V i)) := hid (fun w4 hg4 => (HR3.out.of_block ((show Below w3.heap.size w3 (w3.alloc (.cells #[.int .i64 ((k : Int) - 3)] 3)) from (by repeat (first | exact Below.refl _ _ | assumption | refine Below.drew ?_ | refine Below.alloc ?_ (by first | exact Nat.le_refl _ | omega | (simp; done) | (simp; omega)) _ | refine Below.setCell ?_ (by first | exact Nat.le_refl _ | omega | (simp; done) | (simp; omega)) _))).block _ hRW3)).of_block (hg4.block _ (by simp; omega) (fun e => by have := (own_lt HV3.out e.symm).1; omega)))
            go_wp2_with (at_builtin; (refine wpList_append_own _ rfl _ _ 24 rfl W0.heap.size 3 i0 (.int .i64 0) 1 8 Tryz.underlying24 HI.out HZ0.out HZ1.out HZ2.out rfl (by decide) _ _ _ rfl (World.ownsRow.alloc HV3.out _) ⟨_, 0, none⟩ 1 1 [.int .i64 ((k : Int) - 3)] rfl rfl (cell_one_new _ _ _) (fun x hx => by simp at hx; subst hx; rfl) (by have := HPl.out; unfold maxLen; omega) (by have := HPl.out; omega) (by simp; omega) ?_); intro v' w4 hown' hgrow4 hnil4; obtain ⟨g4, cap4, hv4⟩ := ownsRow_succ hown'; subst hv4; have HR4 := hid (HR4f.out w4 hgrow4); have q4 := HR4.out.cell (i := r) hlt; have z4 := HR4.out.frozen r; rw [if_pos rfl] at q4; have HOw4 := hid hown'; have HGw4 := hid hgrow4; clear hown' hgrow4 hnil4)
            have HV5 : Hid (OwnInts W0.heap.size (w4.setCell ⟨RB, r, none⟩ (.slice (some ⟨g4, 0, none⟩) ((rowP g (l 1) o e env ds (r : Int) k).length + 1) cap4)) (.slice (some ⟨g4, 0, none⟩) ((rowP g (l 1) o e env ds (r : Int) k).length + 1) cap4) (rowP g (l 1) o e env ds (r : Int) (k + 1))) := hid (by
              have h4 : OwnInts W0.heap.size w4 (.slice (some ⟨g4, 0, none⟩) ((rowP g (l 1) o e env ds (r : Int) k).length + 1) cap4) (rowP g (l 1) o e env ds (r : Int) (k + 1)) := by
                rw [HPe.out]
                unfold OwnInts
                rw [List.length_append, List.map_append]
                exact HOw4.out
              exact own_grown h4 (grown_set (grown_refl _ _)) (fun g hg e => by injection e with e; have := (own_lt h4 hg).1; omega))
            have HO5 : Hid (∀ i, i < r → OwnInts RB (w4.setCell ⟨RB, r, none⟩ (.slice (some ⟨g4, 0, none⟩) ((rowP g (l 1) o e env ds (r : Int) k).length + 1) cap4)) (V i) (L i)) := hid (fun i hi => by
              have h3 := (HO3.out i hi).below (show Below w3.heap.size w3 (w3.alloc (.cells #[.int .i64 ((k : Int) - 3)] 3)) from (by repeat (first | exact Below.refl _ _ | assumption | refine Below.drew ?_ | refine Below.alloc ?_ (by first | exact Nat.le_refl _ | omega | (simp; done) | (simp; omega)) _ | refine Below.setCell ?_ (by first | exact Nat.le_refl _ | omega | (simp; done) | (simp; omega)) _)))
              have h4 := own_grown h3 HGw4.out (fun g hg e => by have h8 := (own_lt (HOw.out i hi) hg).2; have h9 := (own_lt HV3.out e.symm).1; omega)
              refine own_grown h4 (grown_set (grown_refl _ _)) (fun g hg e => ?_)
              injection e with e
              subst e
              obtain ⟨cs, hcs⟩ := own_block h4 hg
              obtain ⟨c9, h9, _⟩ := HR4.out
              rw [h9] at hcs
              injection hcs with hcs
              injection hcs with _ hcs _
              exact absurd hcs (by decide))
            obtain ⟨hs4, hg4⟩ := sc_other HS.out hbw HS3.out HG3.out (row := Value.ownBlock v) (fun q hq => ⟨by have := (own_lt HV3.out hq).1; have := HGr.out.size; omega, by obtain ⟨cs, hcs⟩ := own_block HV3.out hq; exact not_imp hcs (by decide)⟩) (gtrans (World.grownBy_alloc w3 _ _) HGw4.out)
            obtain ⟨hs5, hg5⟩ := sc_other HS.out hbw hs4 hg4 (row := some RB) (fun q hq => by injection hq with hq; subst hq; exact ⟨hRBw, by obtain ⟨c9, h9, _⟩ := HR4.out; exact not_imp h9 (by decide)⟩) (grown_set (k := r) (v := .slice (some ⟨g4, 0, none⟩) ((rowP g (l 1) o e env ds (r : Int) k).length + 1) cap4) (grown_refl _ _))
            have HS5 := hid hs5
            have HG5 := hid hg5
            have hz5 : W0.heap.size ≤ w4.heap.size := by have := HGw4.out.size; simp at this; omega
            clear hs4 hg4 hs5 hg5
            go_roundw
            case rel => exact ⟨k + 1, _, by omega, by congr 1; omega, (HR4.out.set r _).congr (fun i hi => by by_cases e : i = r <;> simp [e]), HV5.out, HO5.out, HS5.out, HG5.out, by simpa [World.setCell] using hz5⟩
            case measure => simp [intOf]; omega
        · have dk : decide ((k : Int) - 3 < (n : Int)) = false := decide_eq_false (by omega)
          have e1 : k = n + 3 := by omega
          subst e1
          have HVe : Hid (OwnInts RB wr v (L r)) := hid (by rw [HLe.out]; exact HV2.out.mono (by omega))
          go_wp2
          go_roundw
          case rel =>
            refine ⟨r + 1, fun i => if i = r then v else V i, by omega, by go_num, HR2.out, fun i hi => ?_, fun i hi => ?_, HS2.out, HG2.out⟩
            · by_cases e : i = r
              · subst e; dsimp only; rw [if_pos rfl]; exact HVe.out
              · dsimp only; rw [if_neg e]; exact HO2.out i (by omega)
            · dsimp only; rw [if_neg (by omega)]; exact HNi.out i (by omega)
          case measure => simp [intOf]; omega
    · have e1 : r = n := by omega
      subst e1
      have hRW : RB < wr.heap.size := HRo.out.lt
      go_wp2_with fail
      refine (picks_impl _ _ _ wr).mono ?_
      rintro e' w3 ⟨rfl, hw3⟩
      have hb3 : Below wr.heap.size wr w3 := by rw [hw3]; exact (by repeat (first | exact Below.refl _ _ | assumption | refine Below.drew ?_ | refine Below.alloc ?_ (by first | exact Nat.le_refl _ | omega | (simp; done) | (simp; omega)) _ | refine Below.setCell ?_ (by first | exact Nat.le_refl _ | omega | (simp; done) | (simp; omega)) _))
      have HBx : Hid (Boxed w3 wr.heap.size 80 (.slice (some ⟨RB, 0, none⟩) r r)) := hid (by rw [hw3]; exact Boxed.new _ _ _)
      have HRD : Hid (RowsD w.heap.size w3.heap.size RB r V L w3) := hid ⟨HRo.out.of_block (hb3.block _ hRW), fun i hi => by have := (HOw.out i hi).below hb3; rw [← HRB.out] at this; exact this, fun i g hi hg => Nat.lt_of_lt_of_le (own_lt (HOw.out i hi) hg).2 hb3.size, fun i hi => by rw [HLe.out]; exact Nat.le_trans (rowP_len _ _ _ _ _ _ _ _) (by omega)⟩
      have HS3 := hid (HSr.out.below hb3)
      have HG3 := hid (gtrans HGr.out (grown_of_below hb3 _))
      have hz3 : w.heap.size ≤ wr.heap.size := HGr.out.size
      have hRBw : w.heap.size ≤ RB := by have := HRB.out; omega
      clear hw3 hb3
      go_wp2
      go_ret
      refine ⟨_, RB, V, rfl, ?_, ?_, hz3, hRBw, HS3.out, HG3.out⟩
      · rw [hn0]; exact HBx.out
      · rw [hn0, ← HLe.out]; exact HRD.out
end Go.Proofs.YtoaeieehbplggaaGreat.choImpl

/- The iterator over all stable states, of the program; conditions: a right scene. -/
namespace Go.Proofs.YtoaeieehbplggaaGreat.stateSeq
open Go.RowKit Go.Deep Go.Shelf Go base copy netSem routeRow nbSem candSem candImp hopSem intsOwn hopMake hopBetween sceneSem sceneBy noRts bestAll stabImpl stabFace prodSem rofSem rofRun rofImpl ssSem rangeAt pick picksSeq choImpl
set_option linter.unusedVariables false
attribute [local go_sem] Oper.semAt_some

/-- What a round of the caller's may turn: rows of routes' rows that were laid since, and its own loop's record. -/
structure KpR (BB : Nat) (A A' : World) : Prop where
  os : A'.os = A.os
  tape : A'.tape = A.tape
  output : A'.output = A.output
  size : A.heap.size ≤ A'.heap.size
  blk : ∀ q, q < A.heap.size → (BB ≤ q → (∀ cs t fr, A.heap[q]? = some (.cells cs t fr) → t ≠ 31 ∧ t ≠ 63) ∧ (q = BB + 1 + 1 → ∃ cs t fr, A.heap[q]? = some (.cells cs t fr))) → A'.heap[q]? = A.heap[q]?
/-- What the iterator may turn: the memo, and ints and records that were laid since. -/
structure RSt (b B : Nat) (A A' : World) : Prop where
  os : A'.os = A.os
  tape : A'.tape = A.tape
  output : A'.output = A.output
  size : A.heap.size ≤ A'.heap.size
  blk : ∀ q, q < A.heap.size → q ≠ b → (B ≤ q → ∃ cs t fr, A.heap[q]? = some (.cells cs t fr) ∧ t ≠ 3) → A'.heap[q]? = A.heap[q]?
theorem RSt.trans {b B : Nat} {A1 A2 A3 : World} (h : RSt b B A1 A2) (k : RSt b B A2 A3) : RSt b B A1 A3 :=
  ⟨k.os.trans h.os, k.tape.trans h.tape, k.output.trans h.output, Nat.le_trans h.size k.size, fun q hq hb hx => by
    have e := h.blk q hq hb hx
    exact (k.blk q (Nat.lt_of_lt_of_le hq h.size) hb (fun hB => by rw [e]; exact hx hB)).trans e⟩
theorem RSt.grown {b B : Nat} {A A' : World} (h : A.grownBy A' (some b)) : RSt b B A A' := ⟨h.os, h.tape, h.output, h.size, fun q hq hb _ => h.block q hq (fun e => hb (by injection e))⟩
theorem RSt.int {b B : Nat} {A A' : World} (h : RInt B A A') : RSt b B A A' := ⟨h.os, h.tape, h.output, h.size, fun q hq hb hx => h.blk q hq (fun hB cs fr hh => by
  obtain ⟨cs', t, fr', h1, h2⟩ := hx hB
  rw [h1] at hh
  injection hh with hh
  injection hh with _ hh _
  exact h2 hh)⟩
theorem RSt.soft {b B B' : Nat} {A A' : World} {row : Option Nat} (h : A.grownBy A' row) (hB : B ≤ B') (hr : ∀ r, row = some r → B' ≤ r ∧ ∃ ob : Obj, A.heap[r]? = some ob ∧ ob.isCells = false) : RSt b B A A' := ⟨h.os, h.tape, h.output, h.size, fun q hq hb hx => h.block q hq (fun e => by
  obtain ⟨h1, ob, h2, h3⟩ := hr q e.symm
  obtain ⟨cs', t, fr', h4, _⟩ := hx (by omega)
  rw [h4] at h2
  injection h2 with h2
  subst h2
  cases h3)⟩
theorem RSt.below {b B : Nat} {A A' : World} (h : Below A.heap.size A A') : RSt b B A A' := ⟨h.os, h.tape, h.output, h.size, fun q hq _ _ => h.block q hq⟩
theorem kpt_of {BB : Nat} {A A' : World} (h : KpR BB A A') : KpT A A' := fun q cs t fr hq ht => (h.blk q (Array.getElem?_eq_some_iff.1 hq).1 (fun _ => ⟨fun cs' t' fr' h' => by
  rw [hq] at h'
  injection h' with h'
  injection h' with _ h' _
  subst h'
  rcases ht with ht | ht | ht <;> subst ht <;> exact ⟨by decide, by decide⟩, fun _ => ⟨_, _, _, hq⟩⟩)).trans hq
theorem kpt_grown {b : Nat} {A A' : World} (h : A.grownBy A' (some b)) (hb : ∀ cs t fr, A.heap[b]? = some (.cells cs t fr) → t = 116) : KpT A A' := fun q cs t fr hq ht => (h.block q (Array.getElem?_eq_some_iff.1 hq).1 (fun e => by
  injection e with e
  subst e
  have := hb _ _ _ hq
  subst this
  rcases ht with ht | ht | ht <;> exact absurd ht (by decide))).trans hq
variable {sb b B : Nat} {F : Nat → Value} {p : Nat → Option Addr} {l c : Nat → Nat} {g : R} {o e : List Int} {x : R} {ea da : Option Addr} {el ec dl dc : Nat} {env : List Int} {ds : List Bool} {w0 : World}
theorem ready_type {W : World} (h : Ready b B F W (p 1) (p 4) (l 1) (l 4) (c 1) (c 4) g x) : ∀ cs t fr, W.heap[b]? = some (.cells cs t fr) → t = 116 := fun cs t fr hh => by
  rcases h with ⟨⟨cur, h1, _⟩, _⟩ | ⟨V, F', hm⟩
  · rw [h1] at hh; injection hh with hh; injection hh with _ hh _; exact hh.symm
  · obtain ⟨cur, h1, _⟩ := hm.row
    rw [h1] at hh; injection hh with hh; injection hh with _ hh _; exact hh.symm
theorem ready_int {W W' : World} {Bw : Nat} (h : Ready b B F W (p 1) (p 4) (l 1) (l 4) (c 1) (c 4) g x) (hr : RInt Bw W W') : Ready b B F W' (p 1) (p 4) (l 1) (l 4) (c 1) (c 4) g x := by
  have hc : Ch (fun q => Bw ≤ q ∧ ∃ cs fr, W.heap[q]? = some (.cells cs 3 fr)) W W' := ⟨hr.os, hr.tape, hr.output, hr.size, fun q hq hx => hr.blk q hq (fun hB cs fr hh => hx ⟨hB, cs, fr, hh⟩)⟩
  refine ready_ch h hc (fun hx => ?_) (fun q hx cs fr hh => ?_)
  · obtain ⟨_, cs, fr, hh⟩ := hx
    exact absurd (ready_type h _ _ _ hh) (by decide)
  · obtain ⟨_, cs', fr', h'⟩ := hx
    rw [h'] at hh
    injection hh with hh
    injection hh with _ hh _
    exact absurd hh (by decide)
theorem ready_soft {W W' : World} {row : Option Nat} (h : Ready b B F W (p 1) (p 4) (l 1) (l 4) (c 1) (c 4) g x) (hg : W.grownBy W' row) (hr : ∀ r, row = some r → ∃ ob : Obj, W.heap[r]? = some ob ∧ ob.isCells = false) : Ready b B F W' (p 1) (p 4) (l 1) (l 4) (c 1) (c 4) g x := by
  refine ready_ch h (Ch.of_grown hg) (fun e => ?_) (fun q e cs fr hh => ?_)
  · obtain ⟨ob, h1, h2⟩ := hr b e.symm
    rcases h with ⟨⟨cur, h3, _⟩, _⟩ | ⟨V, F', hm⟩
    · rw [h3] at h1; injection h1 with h1; subst h1; cases h2
    · obtain ⟨cur, h3, _⟩ := hm.row
      rw [h3] at h1; injection h1 with h1; subst h1; cases h2
  · obtain ⟨ob, h1, h2⟩ := hr q e.symm
    rw [hh] at h1; injection h1 with h1; subst h1; cases h2
theorem ready_kpr {W W' : World} {BB : Nat} (h : Ready b B F W (p 1) (p 4) (l 1) (l 4) (c 1) (c 4) g x) (hr : KpR BB W W') (hb : b < BB) : Ready b B F W' (p 1) (p 4) (l 1) (l 4) (c 1) (c 4) g x := by
  have hc : Ch (fun q => BB ≤ q ∧ ((∃ cs t fr, W.heap[q]? = some (.cells cs t fr) ∧ (t = 31 ∨ t = 63)) ∨ ∀ cs t fr, W.heap[q]? ≠ some (.cells cs t fr))) W W' := ⟨hr.os, hr.tape, hr.output, hr.size, fun q hq hx => hr.blk q hq (fun hB => ⟨fun cs t fr hh => ⟨fun ht => hx ⟨hB, .inl ⟨cs, t, fr, hh, .inl ht⟩⟩, fun ht => hx ⟨hB, .inl ⟨cs, t, fr, hh, .inr ht⟩⟩⟩, fun _ => Classical.byContradiction fun hno => hx ⟨hB, .inr fun cs t fr hh => hno ⟨cs, t, fr, hh⟩⟩⟩)⟩
  refine ready_ch h hc (fun hx => by omega) (fun q hx cs fr hh => ?_)
  rcases hx.2 with ⟨cs', t', fr', h', ht⟩ | hno
  · rw [h'] at hh
    injection hh with hh
    injection hh with _ hh _
    subst hh
    rcases ht with ht | ht <;> exact absurd ht (by decide)
  · exact hno _ _ _ hh

/-- An item: where a state's routes lie, and the Vias that they follow. -/
def AtS (BB n : Nat) (rsOf : List Int → Rs) (pre : List (Nat × List Int)) (y : Nat × List Int) (W : World) : Prop := RtLaid W y.1 n n (rsOf y.2) ∧ BB ≤ y.1 ∧ (∀ z ∈ pre, z.1 ≠ y.1) ∧ pre.length < 3000
/-- Between two rounds. -/
structure IA (J : List (Nat × List Int) → World → Prop) (good : List Int → Bool) (w0 : World) (b B : Nat) (F : Nat → Value) (p : Nat → Option Addr) (l c : Nat → Nat) (g x : R) (yb lB : Nat) (pre : List (Nat × List Int)) (W : World) : Prop where
  ex : ∃ ys : List (Nat × List Int), J ys W ∧ ys.map (·.2) = (pre.map (·.2)).filter good ∧ ∀ y ∈ ys, y.1 < W.heap.size
  box : Boxed W yb 119 (.func (.yield lB) #[] #[])
  gr : w0.grownBy W (some b)
  rd : Ready b B F W (p 1) (p 4) (l 1) (l 4) (c 1) (c 4) g x
theorem IA.step {J : List (Nat × List Int) → World → Prop} {good : List Int → Bool} {yb lB Bw : Nat} {pre : List (Nat × List Int)} {A A' : World} (h : IA J good w0 b B F p l c g x yb lB pre A) (hJ : ∀ s A A', RSt b Bw A A' → J s A → J s A') (hyb : yb ≠ b) (hw : w0.heap.size ≤ Bw) (hr : RSt b Bw A A') (hrd : Ready b B F A' (p 1) (p 4) (l 1) (l 4) (c 1) (c 4) g x) : IA J good w0 b B F p l c g x yb lB pre A' := by
  refine ⟨?_, (hr.blk yb h.box.lt hyb (fun _ => ⟨_, _, _, h.box, by decide⟩)).trans h.box, ⟨hr.os.trans h.gr.os, hr.tape.trans h.gr.tape, hr.output.trans h.gr.output, Nat.le_trans h.gr.size hr.size, fun j hj hne => (hr.blk j (Nat.lt_of_lt_of_le hj h.gr.size) (fun e => hne (by rw [e])) (fun hB => absurd hB (by omega))).trans (h.gr.block j hj hne)⟩, hrd⟩
  obtain ⟨ys, h1, h2, h3⟩ := h.ex
  exact ⟨ys, hJ _ _ _ hr h1, h2, fun y hy => Nat.lt_of_lt_of_le (h3 y hy) hr.size⟩
theorem IA.no {J : List (Nat × List Int) → World → Prop} {good : List Int → Bool} {yb lB : Nat} {pre : List (Nat × List Int)} {y : Nat × List Int} {A : World} (h : IA J good w0 b B F p l c g x yb lB pre A) (hy : good y.2 = false) : IA J good w0 b B F p l c g x yb lB (pre ++ [y]) A := by
  obtain ⟨ys, h1, h2, h3⟩ := h.ex
  exact ⟨⟨ys, h1, by rw [h2, List.map_append, List.filter_append]; simp [hy], h3⟩, h.box, h.gr, h.rd⟩
theorem valR_bounds {nl nx n : Nat} {vs : List Int} (hn1 : 1 ≤ n) (hn : n ≤ 4) (hv : ∀ i, -3 ≤ zAt vs i ∧ zAt vs i < n) (hc : ∀ i, i < nl → 0 ≤ g i 2 ∧ g i 2 ≤ 100) (hok : okV g nl o e x nx env ds vs n = true) {i : Nat} (hi : i < n) :
    (-3 ≤ (valR g nl o e x nx env ds vs n i).via ∧ (valR g nl o e x nx env ds vs n i).via < n) ∧ 0 ≤ (valR g nl o e x nx env ds vs n i).len ∧ (valR g nl o e x nx env ds vs n i).len ≤ 20000 := by
  have hs := allN_iff.1 hok i hi
  unfold valR
  cases hq : val g nl o e x nx env ds vs n (i : Int) with
  | none => rw [hq] at hs; cases hs
  | some r =>
    have h1 := val_via hq
    have h2 := val_len (fun i => (hv i).1) hc hq
    have h3 := hv i
    rw [Int.toNat_natCast] at h1
    show (-3 ≤ r.via ∧ r.via < n) ∧ 0 ≤ r.len ∧ r.len ≤ 20000
    rw [h1]
    exact ⟨h3, by omega, by omega⟩
theorem row_in {nl n : Nat} {i v : Int} (h : v ∈ rowP g nl o e env ds i (n + 3)) : -3 ≤ v ∧ v < n := by
  unfold rowP at h
  obtain ⟨j, hj, rfl⟩ := List.mem_map.1 (List.mem_filter.1 h).1
  have := List.mem_range.1 hj
  omega

set_option maxRecDepth 100000 in
set_option maxHeartbeats 6400000 in
theorem states_in (n Sx lB : Nat) (J : List (Nat × List Int) → World → Prop) (W : World) (h0 : Sc sb b B F p l c g o e x ea da el ec dl dc env ds w0) (hf0 : F 0 = .slice (p 0) (l 0) (c 0)) (hf : Fine n l g x) (hn0 : l 0 = n) (hn1 : 1 ≤ n) (hen : ∀ i, 0 ≤ zAt env i)
    (hsx : Boxed w0 Sx 66 (.pointer (some ⟨sb, 0, none⟩))) (hSb : Sx ≠ b) (hgr : w0.grownBy W (some b)) (hrd : Ready b B F W (p 1) (p 4) (l 1) (l 4) (c 1) (c 4) g x)
    (hJ : ∀ s A A', RSt b W.heap.size A A' → J s A → J s A')
    (hY : ∀ pre y W1, J pre W1 → AtS w0.heap.size n (fun v => valR g (l 1) o e x (l 4) env ds v n) pre y W1 → YieldAt Fence.wide 9 Tryz.prog lB #[.slice (some ⟨y.1, 0, none⟩) n n] W1 fun e W' => e = .returned (.bool true) ∧ J (pre ++ [y]) W' ∧ KpR w0.heap.size W1 W')
    (hj0 : J [] W) (hW3 : w0.heap.size + 1 + 1 < W.heap.size) :
    CallsIn Fence.wide 9 Tryz.prog 55 #[.func (.yield lB) #[] #[], .pointer (some ⟨Sx, 0, none⟩)] W fun e' W' => (∃ v, e' = .returned v) ∧ ∃ ys : List (Nat × List Int), ys.map (·.2) = (prod (fun i : Nat => rowP g (l 1) o e env ds (i : Int) (n + 3)) n).filter (goodB g (l 1) o e x (l 4) env ds n) ∧ J ys W' := by
  have HS := hid h0
  have HF := hid hf
  have hn4 := hf.few
  have HSx := hid hsx
  have hbw : b < w0.heap.size := by rcases h0.ready with ⟨h1, _⟩ | ⟨V, F', hm⟩; exact h1.lt; exact hm.row.lt
  have hw0 := hgr.size
  have HJ := hid hJ
  have HY := hid hY
  have HGr := hid hgr
  have qs := (hsx.kept hgr (fun e => by injection e with e; exact hSb e)).cell
  have ls := (hsx.kept hgr (fun e => by injection e with e; exact hSb e)).lt
  have hscA := h0.step hgr hrd
  have hscB : Sc sb b B F p l c g o e x ea da el ec dl dc env ds (W.alloc (.cells #[.func (.yield lB) #[] #[]] 119)) := hscA.below (by repeat (first | exact Below.refl _ _ | assumption | refine Below.drew ?_ | refine Below.alloc ?_ (by first | exact Nat.le_refl _ | omega | (simp; done) | (simp; omega)) _ | refine Below.setCell ?_ (by first | exact Nat.le_refl _ | omega | (simp; done) | (simp; omega)) _))
  have HCh := hid (choices_impl n hscB hf0 hf.uniq hn0 hn1 hn4)
  have HSA := hid hscA
  clear h0 hf hsx hJ hY hscA hscB hgr hrd
  refine callsIn_of_wp_marks Tryz.func55 rfl trivial ?_ rfl
  simp only [Tryz.ntmps55, List.size_toArray, List.length_cons, List.length_nil, Nat.reduceAdd, Nat.reduceSub, Array.replicate_succ, Array.replicate_zero, List.push_toArray, List.append_toArray, List.nil_append, List.cons_append]
  gi_wp2
  refine ⟨trivial, (callsIn_wide.2 HCh.out).mono ?_⟩
  rintro e1 w2 ⟨Bx, RB, V, rfl, hbx, hrd2, hBx, hRB, hs2, hg2⟩
  obtain ⟨yb, hyb⟩ : ∃ yb, W.heap.size = yb := ⟨_, rfl⟩
  have hbA : (W.alloc (.cells #[.func (.yield lB) #[] #[]] 119)).heap.size = yb + 1 := by simp [hyb]
  have hybx : Boxed w2 yb 119 (.func (.yield lB) #[] #[]) := by
    have h9 := Boxed.new W 119 (.func (.yield lB) #[] #[])
    rw [hyb] at h9
    exact h9.kept hg2 (fun e => by injection e with e; omega)
  have hR2 : RSt b W.heap.size W w2 := (RSt.below (by repeat (first | exact Below.refl _ _ | assumption | refine Below.drew ?_ | refine Below.alloc ?_ (by first | exact Nat.le_refl _ | omega | (simp; done) | (simp; omega)) _ | refine Below.setCell ?_ (by first | exact Nat.le_refl _ | omega | (simp; done) | (simp; omega)) _))).trans (RSt.grown hg2)
  have hI0 : IA J (goodB g (l 1) o e x (l 4) env ds n) w0 b B F p l c g x yb lB [] w2 := by
    refine ⟨⟨[], HJ.out _ _ _ hR2 hj0, rfl, fun y hy => by cases hy⟩, hybx, gtrans HGr.out (gtrans (World.grownBy_alloc W _ _) hg2), hs2.ready⟩
  have hz2 : yb < w2.heap.size := hybx.lt
  have HI0 := hid hI0
  have HBx := hid hbx
  have HRd := hid hrd2
  have hB2 : w0.heap.size ≤ w2.heap.size := by omega
  rw [hbA] at HRd
  obtain ⟨L, hL⟩ : ∃ L : Nat → List Int, (fun i : Nat => rowP g (l 1) o e env ds (i : Int) (n + 3)) = L := ⟨_, rfl⟩
  have HLe := hid hL
  rw [hL] at HRd
  have HQ : Hid (∀ (ys : List (Nat × List Int)), ys.map (·.2) = (prod L n).filter (goodB g (l 1) o e x (l 4) env ds n) → ys.map (·.2) = (prod (fun i : Nat => rowP g (l 1) o e env ds (i : Int) (n + 3)) n).filter (goodB g (l 1) o e x (l 4) env ds n)) := hid (fun ys h => by rw [hL]; exact h)
  clear hL hI0 hbx hrd2 hs2 hg2 hR2 hybx HCh qs ls hbA
  rw [hyb] at HJ ⊢
  gi_wp2
  refine range_all (α := Nat × List Int) rfl (enters_of Tryz.func98 (by kernel_rfl) rfl) (picks_seq w2.heap.size (yb + 1) w2.heap.size RB Bx n V L (by omega)) (fun r => ?start) KpT.trans (fun W' ob ob' h hc => ?kb) (fun A A' hr k ob h1 h2 h3 h4 => ?hR) (fun _ => rfl)
    (IA J (goodB g (l 1) o e x (l 4) env ds n) w0 b B F p l c g x yb lB) ?hI (fun pre y => ?hAt) ?hIR HI0.out
    (fun y => ⟨#[.func (.yield lB) #[] #[], .pointer (some ⟨Sx, 0, none⟩), .pointer (some ⟨yb, 0, none⟩), .slice (some ⟨y.1, 0, none⟩) n n, undef, undef, .pointer (some ⟨sb, 0, none⟩), .func (.func 98) #[] #[.pointer (some ⟨Bx, 0, none⟩)], .slice (some ⟨y.1, 0, none⟩) n n, undef, undef, undef, undef, undef, undef, undef, undef, undef, undef, undef, undef, undef, undef, undef, undef, undef, undef], []⟩) ?assign ?body ?done
  case start =>
    have hb : Below w2.heap.size w2 ((w2.alloc (.deferred (some []))).alloc (.loop r)) := (by repeat (first | exact Below.refl _ _ | assumption | refine Below.drew ?_ | refine Below.alloc ?_ (by first | exact Nat.le_refl _ | omega | (simp; done) | (simp; omega)) _ | refine Below.setCell ?_ (by first | exact Nat.le_refl _ | omega | (simp; done) | (simp; omega)) _))
    exact ⟨HRd.out.kept (kp_below hb), (hb.block _ HBx.out.lt).trans HBx.out, hb.size, hb.size⟩
  case kb =>
    intro q cs t fr hq ht
    rw [World.putObj_heap_other (fun e => by subst e; rw [hq] at h; injection h with h; subst h; cases hc)]
    exact hq
  case hR => exact (hr.blk k (Array.getElem?_eq_some_iff.1 h3).1 (fun _ cs fr hh => by rw [h3] at hh; injection hh with hh; subst hh; cases h4)).trans h3
  case hI =>
    intro pre A A' row h hg hr
    exact h.step HJ.out (by omega) (by omega) (RSt.soft hg (Nat.le_of_lt hz2) hr) (ready_soft h.rd hg (fun r e => (hr r e).2))
  case hAt =>
    rintro _ A A' row ⟨⟨h1, h2, h3, h4⟩, h8⟩ hg hr
    refine ⟨⟨h1, h2, h3, h4.of_block (hg.block _ h4.lt (fun e => ?_))⟩, h8⟩
    obtain ⟨_, ob, h5, h6⟩ := hr _ e.symm
    obtain ⟨cs, h7, _⟩ := h4
    rw [h7] at h5
    injection h5 with h5
    subst h5
    cases h6
  case hIR =>
    intro pre A A' hr h
    refine h.step HJ.out (by omega) (by omega) (RSt.int ⟨hr.os, hr.tape, hr.output, hr.size, fun q hq hx => hr.blk q hq (fun hB => hx (by omega))⟩) (ready_int h.rd hr)
  case assign =>
    intro l' y W' K hK
    gi_wp2
    exact hK
  case done =>
    rintro D xs W' hD ⟨LB, rfl⟩ hi hK
    obtain ⟨ys, h1, h2, h3⟩ := hi.ex
    have HJe := hid h1
    have h2' : ys.map (·.2) = (prod L n).filter (goodB g (l 1) o e x (l 4) env ds n) := by
      rw [h2, List.map_map]
      congr 1
      exact List.map_id _
    have HYs := hid (HQ.out ys h2')
    have HKd := hid hK
    clear hi h1 h2 h2' h3 hK
    gi_wp2
    refine leaves_marks (B := yb) [D] W' ⟨by simp, fun D' hD' => by simp only [List.mem_singleton] at hD'; subst hD'; exact ⟨by omega, HKd.out⟩⟩ (fun W'' hc => ⟨_, results_none rfl _ _ _, ⟨_, rfl⟩, ys, HYs.out, HJ.out _ _ _ ⟨hc.os, hc.tape, hc.output, hc.size, fun q hq hb hx => hc.blk q hq (fun hm => ?_)⟩ HJe.out⟩)
    simp only [List.mem_singleton] at hm
    subst hm
    obtain ⟨cs, t, fr, h4, _⟩ := hx (by omega)
    rw [HKd.out] at h4
    cases h4
  case body =>
    rintro l' pre ⟨LB, cv⟩ W' hi ⟨⟨hLB, hlen, hin, hrow⟩, hpl⟩
    dsimp only at hLB hlen hin hrow
    have hps : (prod L n).length ≤ 2401 := Nat.le_trans (prod_size (M := 7) n (fun i hi' => by rw [← HLe.out]; exact Nat.le_trans (rowP_len _ _ _ _ _ _ _ _) (by omega))) (by
      obtain rfl | rfl | rfl | rfl : n = 1 ∨ n = 2 ∨ n = 3 ∨ n = 4 := by omega
      all_goals decide)
    have HPl : Hid (pre.length < 2401) := hid (by omega)
    clear hps hpl
    have hvv : ∀ i, -3 ≤ zAt cv i ∧ zAt cv i < n := fun i => by
      by_cases hi' : i < n
      · have := hin i hi'
        rw [← HLe.out] at this
        exact row_in this
      · unfold zAt
        rw [List.getElem?_eq_none (by omega)]
        simp only [Option.getD_none]
        omega
    have hir : IntRow W' (some ⟨LB, 0, none⟩) n cv := ⟨hlen, by unfold maxLen; omega, fun i hi' => ⟨LB, 0, rfl, by simpa [zAt] using hrow.cell hi'⟩⟩
    have HI := hid hi
    have HVv := hid hvv
    have qs : W'.cell? ⟨Sx, 0, none⟩ = some (.pointer (some ⟨sb, 0, none⟩)) := (HSx.out.kept hi.gr (fun e => by injection e with e; exact hSb e)).cell
    have HRo := hid (routesOf_impl (some ⟨LB, 0, none⟩) n n cv (HS.out.step hi.gr hi.rd) HF.out hir (fun a o e => by injection e with e; injection e with e1 _; omega) hn1 hvv)
    have HGo : Hid (goodB g (l 1) o e x (l 4) env ds n cv = (okV g (l 1) o e x (l 4) env ds cv n && stabB g (l 1) o e x (l 4) env ds (valR g (l 1) o e x (l 4) env ds cv n) n)) := hid rfl
    have hbW : b < W'.heap.size := Nat.lt_of_lt_of_le hbw hi.gr.size
    clear hi hvv hir hin hrow
    gi_wp2
    refine ⟨trivial, (CallsIn.inRound l' (callsIn_wide.2 HRo.out)).mono ?_⟩
    rintro e1 w3 ⟨hres, hs3, hg3⟩
    have HI3 := hid (HI.out.step HJ.out (by omega) (by omega) (RSt.grown hg3) hs3.ready)
    have HKp3 := hid (kpt_grown hg3 (ready_type HI.out.rd))
    have HKf3 := hid (KeepsFrom.of_grownBy (B := w2.heap.size) hg3 (fun j e => by injection e with e; omega))
    have qs3 : w3.cell? ⟨Sx, 0, none⟩ = some (.pointer (some ⟨sb, 0, none⟩)) := (HSx.out.kept HI3.out.gr (fun e => by injection e with e; exact hSb e)).cell
    have qy3 := HI3.out.box.cell
    have HS3 := hid hs3
    have hg3s := hg3.size
    have HRs3 := hid (RSt.grown (B := yb) hg3)
    clear hs3 hg3 qs HRo
    rcases hres with ⟨hok, N, rfl, hN, hl3⟩ | ⟨hok, rfl⟩
    · rw [hok, Bool.true_and] at HGo
      have hgd : sceneBy.Good n l g x (valR g (l 1) o e x (l 4) env ds cv n) := ⟨hn4, HF.out.uniq, HF.out.cost, HF.out.deed, fun i hi => (valR_bounds hn1 hn4 HVv.out HF.out.cost hok hi).1, fun i hi => (valR_bounds hn1 hn4 HVv.out HF.out.cost hok hi).2⟩
      have hst := stable_impl (some ⟨N, 0, none⟩) n n (valR g (l 1) o e x (l 4) env ds cv n) HS3.out hgd (hl3.is (by unfold maxLen; omega)) (fun a o e => by injection e with e; injection e with e1 _; omega) hn1
      have hsb : sameTo (bests g (l 1) o e x (l 4) env ds (valR g (l 1) o e x (l 4) env ds cv n) n) (valR g (l 1) o e x (l 4) env ds cv n) n = goodB g (l 1) o e x (l 4) env ds n cv := by
        rw [HGo.out, bests_cand hn4 (fun i hi => (hgd.via i hi).2) hen]
        rfl
      rw [hsb] at hst
      have HSt := hid hst
      have HL3 := hid hl3
      have hNw : N < w3.heap.size := by obtain ⟨f, hf, -⟩ := hl3.row; exact hf.lt
      clear hst hgd hl3 hsb HGo
      gi_wp2
      refine ⟨trivial, (CallsIn.inRound l' (callsIn_wide.2 HSt.out)).mono ?_⟩
      rintro e2 w4 ⟨rfl, hs4, hg4⟩
      have HI4 := hid (HI3.out.step HJ.out (by omega) (by omega) (RSt.grown hg4) hs4.ready)
      have HKp4 := hid (HKp3.out.trans (kpt_grown hg4 (ready_type HI3.out.rd)))
      have HKf4 := hid (HKf3.out.trans (KeepsFrom.of_grownBy (B := w2.heap.size) hg4 (fun j e => by injection e with e; omega)))
      have HL4 := hid (laid_ch HL3.out (Ch.of_grown hg4) (fun e => by injection e with e; omega))
      have qy4 := HI4.out.box.cell
      have HRs4 := hid (HRs3.out.trans (RSt.grown hg4))
      have hg4s := hg4.size
      clear hs4 hg4 qs3 qy3 HSt HL3 HI3 HKp3 HKf3
      obtain ⟨gd, hgd⟩ : ∃ gd, goodB g (l 1) o e x (l 4) env ds n cv = gd := ⟨_, rfl⟩
      have HGd := hid hgd
      rw [hgd]
      clear hgd
      cases gd with
      | false =>
        gi_wp2
        refine ⟨fun _ h => (by cases h), ?_⟩
        gi_wp2
        exact ⟨HKf4.out, HKp4.out, HI4.out.no HGd.out⟩
      | true =>
        obtain ⟨ys, h1, h2, h3⟩ := HI.out.ex
        have hyl : ys.length < 3000 := by
          have h9 := congrArg List.length h2
          rw [List.length_map] at h9
          have h8 : ((pre.map (·.2)).filter (goodB g (l 1) o e x (l 4) env ds n)).length ≤ pre.length := Nat.le_trans (List.length_filter_le _ _) (by simp)
          have := HPl.out
          omega
        obtain ⟨fn, tmps, assign, body, hy, hround⟩ := yield_any (m' := 8) (HY.out ys (N, cv) w4 (HJ.out _ _ _ HRs4.out h1) ⟨HL4.out, by have := HI.out.gr.size; show w0.heap.size ≤ N; omega, fun z hz => by have := h3 z hz; show z.1 ≠ N; omega, hyl⟩)
        dsimp only at hy
        have HYs := hid h2
        have HYl := hid h3
        clear h1 h2 h3
        gi_wp2
        refine hround.mono ?_
        rintro e5 w5 ⟨rfl, hj5, hk5⟩
        have HKf5 : Hid (KeepsFrom w2.heap.size w4 w5) := hid ⟨hk5.size, fun k ob hkB hk ho => (hk5.blk k (Array.getElem?_eq_some_iff.1 hk).1 (fun _ => ⟨fun cs t fr h => (by rw [hk] at h; injection h with h; subst h; cases ho), fun e => by omega⟩)).trans hk⟩
        have HI5 : Hid (IA J (goodB g (l 1) o e x (l 4) env ds n) w0 b B F p l c g x yb lB (pre ++ [(LB, cv)]) w5) := hid (by
          refine ⟨⟨ys ++ [(N, cv)], hj5, ?_, fun y hy' => ?_⟩, (hk5.blk yb HI4.out.box.lt (fun _ => ⟨fun cs t fr h => by rw [show w4.heap[yb]? = _ from HI4.out.box] at h; injection h with h; injection h with _ h _; subst h; exact ⟨by decide, by decide⟩, fun _ => ⟨_, _, _, HI4.out.box⟩⟩)).trans HI4.out.box, ⟨hk5.os.trans HI4.out.gr.os, hk5.tape.trans HI4.out.gr.tape, hk5.output.trans HI4.out.gr.output, Nat.le_trans HI4.out.gr.size hk5.size, fun j hj hne => (hk5.blk j (Nat.lt_of_lt_of_le hj HI4.out.gr.size) (fun hB => absurd hB (by omega))).trans (HI4.out.gr.block j hj hne)⟩, ready_kpr HI4.out.rd hk5 hbw⟩
          · rw [List.map_append, List.map_append, List.filter_append, HYs.out]
            simp [HGd.out]
          · have h9 := hk5.size
            rcases List.mem_append.1 hy' with h | h
            · have := HYl.out y h
              omega
            · simp only [List.mem_singleton] at h
              subst h
              show N < w5.heap.size
              omega)
        have HKp5 := hid (HKp4.out.trans (kpt_of hk5))
        clear hj5 hk5
        gi_wp2
        exact ⟨HKf4.out.trans HKf5.out, HKp5.out, HI5.out⟩
    · rw [hok, Bool.false_and] at HGo
      gi_wp2
      refine ⟨trivial, ?_⟩
      gi_wp2
      refine ⟨fun _ h => (by cases h), ?_⟩
      gi_wp2
      exact ⟨HKf3.out, HKp3.out, HI3.out.no HGo.out⟩
end Go.Proofs.YtoaeieehbplggaaGreat.stateSeq

/- slices.Collect over all stable states, of the program; conditions: a right scene. -/
namespace Go.Proofs.YtoaeieehbplggaaGreat.collImpl
open Go.RowKit Go.Deep Go.Shelf Go base copy netSem routeRow nbSem candSem candImp hopSem intsOwn hopMake hopBetween sceneSem sceneBy noRts bestAll stabImpl stabFace prodSem rofSem rofRun rofImpl rofSpec ssSem rangeAt pick picksSeq choImpl stateSeq
set_option linter.unusedVariables false
attribute [local go_sem] Oper.semAt_some

theorem info_rts : (Tryz.prog.info? 63).map (fun i => (i.zero, i.size, i.bytes)) = some (some (.slice none 0 0), 1, 24) := by kernel_rfl
def slV (n : Nat) (y : Nat × List Int) : Value := .slice (some ⟨y.1, 0, none⟩) n n
/-- What has been collected. -/
structure IB (BB n Sb : Nat) (rsOf : List Int → Rs) (pre : List (Nat × List Int)) (W : World) : Prop where
  row : ∃ v, Boxed W Sb 31 v ∧ W.ownsRow BB 63 1 v pre.length (pre.map (slV n))
  laid : ∀ y ∈ pre, RtLaid W y.1 n n (rsOf y.2) ∧ BB ≤ y.1
  lone : pre.Pairwise fun y z => y.1 ≠ z.1
theorem rt_block {W : World} {N len k : Nat} {rs : Rs} (h : RtLaid W N len k rs) : ∃ cs, W.heap[N]? = some (.cells cs 126 (0, 0)) := by
  obtain ⟨f, ⟨cur, hf, _⟩, _⟩ := h.row
  exact ⟨cur, hf⟩
theorem IB.keep {BB n Sb : Nat} {rsOf : List Int → Rs} {pre : List (Nat × List Int)} {W W' : World} (h : IB BB n Sb rsOf pre W) (hk : ∀ q cs t, W.heap[q]? = some (.cells cs t (0, 0)) → BB ≤ q → t = 31 ∨ t = 63 ∨ t = 126 → W'.heap[q]? = W.heap[q]?) (hSb : BB ≤ Sb) : IB BB n Sb rsOf pre W' := by
  obtain ⟨v, hv, ho⟩ := h.row
  refine ⟨⟨v, (hk Sb _ _ hv hSb (.inl rfl)).trans hv, hopMake.own_keep ho fun g hg => ?_⟩, fun y hy => ⟨laid_keep (h.laid y hy).1 ?_, (h.laid y hy).2⟩, h.lone⟩
  · have hl := World.ownsRow.lt ho g hg
    rcases ho.2 with ⟨e, _⟩ | ⟨g', cap, cur, e, _, hh, _⟩
    · rw [e] at hg; simp [Value.ownBlock] at hg
    · rw [e] at hg
      simp [Value.ownBlock] at hg
      subst hg
      exact hk _ _ _ hh hl.1 (.inr (.inl rfl))
  · obtain ⟨cs, hcs⟩ := rt_block (h.laid y hy).1
    exact hk _ _ _ hcs (h.laid y hy).2 (.inr (.inr rfl))
variable {sb b B : Nat} {F : Nat → Value} {p : Nat → Option Addr} {l c : Nat → Nat} {g : R} {o e : List Int} {x : R} {ea da : Option Addr} {el ec dl dc : Nat} {env : List Int} {ds : List Bool} {w0 : World}

set_option maxRecDepth 100000 in
set_option maxHeartbeats 6400000 in
theorem append_seq (n Sx : Nat) (h0 : Sc sb b B F p l c g o e x ea da el ec dl dc env ds w0) (hf0 : F 0 = .slice (p 0) (l 0) (c 0)) (hf : Fine n l g x) (hn0 : l 0 = n) (hn1 : 1 ≤ n) (hen : ∀ i, 0 ≤ zAt env i)
    (hsx : Boxed w0 Sx 66 (.pointer (some ⟨sb, 0, none⟩))) (hSb : Sx ≠ b) :
    Calls Tryz.prog 54 #[.slice none 0 0, .func (.func 55) #[] #[.pointer (some ⟨Sx, 0, none⟩)]] w0 fun e' w' => ∃ (v : Value) (ys : List (Nat × List Int)), e' = .returned v ∧ ys.map (·.2) = (prod (fun i : Nat => rowP g (l 1) o e env ds (i : Int) (n + 3)) n).filter (goodB g (l 1) o e x (l 4) env ds n) ∧
      w'.ownsRow w0.heap.size 63 1 v ys.length (ys.map (slV n)) ∧ (∀ y ∈ ys, RtLaid w' y.1 n n (valR g (l 1) o e x (l 4) env ds y.2 n) ∧ w0.heap.size ≤ y.1) ∧ (ys.Pairwise fun y z => y.1 ≠ z.1) ∧ w0.grownBy w' (some b) := by
  have hbw : b < w0.heap.size := by rcases h0.ready with ⟨h1, _⟩ | ⟨V, F', hm⟩; exact h1.lt; exact hm.row.lt
  have hn4 := hf.few
  obtain ⟨i0, hi0, hzz⟩ := Option.map_eq_some_iff.1 info_rts
  simp only [Prod.mk.injEq] at hzz
  obtain ⟨hz0, hz1, hz2⟩ := hzz
  have HIn := hid hi0
  have HZ0 := hid hz0
  have HZ1 := hid hz1
  have HZ2 := hid hz2
  have HS := hid h0
  have HSeq : Hid (SeqAll Tryz.prog 55 #[.pointer (some ⟨Sx, 0, none⟩)] (fun y : Nat × List Int => #[.slice (some ⟨y.1, 0, none⟩) n n]) (fun pre y W => AtS w0.heap.size n (fun v => valR g (l 1) o e x (l 4) env ds v n) pre y W) (KpR w0.heap.size) (RSt b) (fun ys => ys.map (·.2) = (prod (fun i : Nat => rowP g (l 1) o e env ds (i : Int) (n + 3)) n).filter (goodB g (l 1) o e x (l 4) env ds n)) (fun W => (w0.grownBy W (some b) ∧ Ready b B F W (p 1) (p 4) (l 1) (l 4) (c 1) (c 4) g x) ∧ w0.heap.size + 1 + 1 < W.heap.size)) :=
    hid (fun lB J W hs hJ hY hj => states_in n Sx lB J W h0 hf0 hf hn0 hn1 hen hsx hSb hs.1.1 hs.1.2 hJ hY hj hs.2)
  clear hi0 hz0 hz1 hz2 h0 hf0 hf hsx
  obtain ⟨rsOf, hrs⟩ : ∃ rsOf : List Int → Rs, (fun v => valR g (l 1) o e x (l 4) env ds v n) = rsOf := ⟨_, rfl⟩
  have hrs' : ∀ v, valR g (l 1) o e x (l 4) env ds v n = rsOf v := fun v => by rw [← hrs]
  rw [hrs] at HSeq
  simp only [hrs']
  clear hrs hrs'
  obtain ⟨Sf, hSf⟩ : ∃ Sf : List (List Int), (prod (fun i : Nat => rowP g (l 1) o e env ds (i : Int) (n + 3)) n).filter (goodB g (l 1) o e x (l 4) env ds n) = Sf := ⟨_, rfl⟩
  rw [hSf] at HSeq ⊢
  clear hSf
  refine (callsIn_wide (n := 9)).1 ?_
  refine callsIn_of_wp_marks Tryz.func54 rfl trivial ?_ rfl
  simp only [Tryz.ntmps54, List.size_toArray, List.length_cons, List.length_nil, Nat.reduceAdd, Nat.reduceSub, Array.replicate_succ, Array.replicate_zero, List.push_toArray, List.append_toArray, List.nil_append, List.cons_append]
  gi_wp2
  obtain ⟨W1, hW1⟩ : ∃ W1, w0.alloc (.cells #[.slice none 0 0] 31) = W1 := ⟨_, rfl⟩
  have hb1 : Below w0.heap.size w0 W1 := by rw [← hW1]; exact (by repeat (first | exact Below.refl _ _ | assumption | refine Below.drew ?_ | refine Below.alloc ?_ (by first | exact Nat.le_refl _ | omega | (simp; done) | (simp; omega)) _ | refine Below.setCell ?_ (by first | exact Nat.le_refl _ | omega | (simp; done) | (simp; omega)) _))
  have hbx : Boxed W1 w0.heap.size 31 (.slice none 0 0) := by rw [← hW1]; exact Boxed.new _ _ _
  have hz1 : W1.heap.size = w0.heap.size + 1 := by rw [← hW1]; simp
  have HB1 := hid hb1
  have HI0 : Hid (IB w0.heap.size n w0.heap.size rsOf [] W1 ∧ w0.grownBy W1 (some b)) := hid ⟨⟨⟨_, hbx, World.ownsRow_nil _ _ _ _⟩, fun y hy => (by cases hy), List.Pairwise.nil⟩, grown_of_below hb1 _⟩
  rw [hW1]
  clear hW1 hb1 hbx
  refine range_all (α := Nat × List Int) rfl (enters_of Tryz.func55 (by kernel_rfl) rfl) HSeq.out (fun r => ?start) ?kt (fun W' ob ob' h hc => ?kb) (fun A A' hr k ob h1 h2 h3 h4 => ?hR) (fun _ => rfl)
    (fun pre W => IB w0.heap.size n w0.heap.size rsOf pre W ∧ w0.grownBy W (some b)) ?hI (fun pre y => ?hAt) ?hIR HI0.out
    (fun y => ⟨#[.slice none 0 0, .func (.func 55) #[] #[.pointer (some ⟨Sx, 0, none⟩)], .pointer (some ⟨w0.heap.size, 0, none⟩), undef, .slice none 0 0, .slice (some ⟨y.1, 0, none⟩) n n, .func (.func 55) #[] #[.pointer (some ⟨Sx, 0, none⟩)], .slice (some ⟨y.1, 0, none⟩) n n, undef, undef, undef, undef, undef], []⟩) ?assign ?body ?done
  case start =>
    have hb : Below W1.heap.size W1 ((W1.alloc (.deferred (some []))).alloc (.loop r)) := (by repeat (first | exact Below.refl _ _ | assumption | refine Below.drew ?_ | refine Below.alloc ?_ (by first | exact Nat.le_refl _ | omega | (simp; done) | (simp; omega)) _ | refine Below.setCell ?_ (by first | exact Nat.le_refl _ | omega | (simp; done) | (simp; omega)) _))
    have hbb := HB1.out.trans (hb.mono HB1.out.size)
    exact ⟨⟨grown_of_below hbb _, Ready.below HS.out.ready hbb⟩, by simp [hz1]⟩
  case kt =>
    intro A1 A2 A3 h k
    exact ⟨k.os.trans h.os, k.tape.trans h.tape, k.output.trans h.output, Nat.le_trans h.size k.size, fun q hq hx => by
      have e := h.blk q hq hx
      exact (k.blk q (Nat.lt_of_lt_of_le hq h.size) (fun hB => by rw [e]; exact hx hB)).trans e⟩
  case kb =>
    have hg := grownBy_putObj' W' (W1.heap.size + 1) ob'
    refine ⟨hg.os, hg.tape, hg.output, hg.size, fun q hq hx => hg.block q hq (fun e => ?_)⟩
    injection e with e
    obtain ⟨cs, t, fr, h9⟩ := (hx (by omega)).2 (by omega)
    rw [e, h] at h9
    injection h9 with h9
    subst h9
    cases hc
  case hR => exact (hr.blk k (Array.getElem?_eq_some_iff.1 h3).1 (by omega) (fun hB => absurd hB (by omega))).trans h3
  case hI =>
    intro pre A A' row h hg hr
    refine ⟨h.1.keep (fun q cs t hq hB _ => hg.block q (Array.getElem?_eq_some_iff.1 hq).1 (fun e => ?_)) (Nat.le_refl _), ⟨hg.os.trans h.2.os, hg.tape.trans h.2.tape, hg.output.trans h.2.output, Nat.le_trans h.2.size hg.size, fun j hj hne => (hg.block j (Nat.lt_of_lt_of_le hj h.2.size) (fun e => ?_)).trans (h.2.block j hj hne)⟩⟩
    · obtain ⟨_, ob, h5, h6⟩ := hr q e.symm
      rw [hq] at h5; injection h5 with h5; subst h5; cases h6
    · have := (hr j e.symm).1
      omega
  case hAt =>
    rintro _ A A' row ⟨h1, h2, h3, h4⟩ hg hr
    refine ⟨laid_keep h1 (hg.block _ (by obtain ⟨f, hf, -⟩ := h1.row; exact hf.lt) (fun e => ?_)), h2, h3, h4⟩
    obtain ⟨_, ob, h5, h6⟩ := hr _ e.symm
    obtain ⟨cs, h7⟩ := rt_block h1
    rw [h7] at h5; injection h5 with h5; subst h5; cases h6
  case hIR =>
    intro pre A A' hr h
    refine ⟨h.1.keep (fun q cs t hq hB ht => hr.blk q (Array.getElem?_eq_some_iff.1 hq).1 (by omega) (fun _ => ⟨cs, t, (0, 0), hq, ?_⟩)) (Nat.le_refl _), ⟨hr.os.trans h.2.os, hr.tape.trans h.2.tape, hr.output.trans h.2.output, Nat.le_trans h.2.size hr.size, fun j hj hne => (hr.blk j (Nat.lt_of_lt_of_le hj h.2.size) (fun e => hne (by rw [e])) (fun hB => absurd hB (by omega))).trans (h.2.block j hj hne)⟩⟩
    rcases ht with ht | ht | ht <;> subst ht <;> decide
  case assign =>
    intro l' y W' K hK
    gi_wp2
    exact hK
  case done =>
    rintro D ys W' hD hys ⟨hi, hg⟩ hK
    obtain ⟨v, hv, ho⟩ := hi.row
    have qv := hv.cell
    have HO := hid ho
    have HV := hid hv
    have HI := hid hi
    have HG := hid hg
    have HYs := hid hys
    have HKd := hid hK
    clear hv ho hi hg hys hK
    gi_wp2
    refine leaves_marks (B := W1.heap.size) [D] W' ⟨by simp, fun D' hD' => by simp only [List.mem_singleton] at hD'; subst hD'; exact ⟨hD, HKd.out⟩⟩ (fun W'' hc => ?_)
    have hkc : ∀ (q : Nat) (cs : Array Value) (t : TypeId), W'.heap[q]? = some (Obj.cells cs t (0, 0)) → W''.heap[q]? = W'.heap[q]? := fun q cs t hq => hc.blk q (Array.getElem?_eq_some_iff.1 hq).1 (fun hm => by
      simp only [List.mem_singleton] at hm
      subst hm
      rw [HKd.out] at hq
      cases hq)
    have hib := HI.out.keep (W' := W'') (fun q cs t hq _ _ => hkc q cs t hq) (Nat.le_refl _)
    obtain ⟨v', hv', ho'⟩ := hib.row
    have e1 : v' = v := by
      have h9 := (hkc _ _ _ HV.out).trans HV.out
      rw [show W''.heap[_]? = _ from hv'] at h9
      injection h9 with h9
      injection h9 with h9 _ _
      injection h9 with h9
      injection h9
    subst e1
    exact ⟨_, results_tmp rfl _ _ _, v', ys, rfl, HYs.out, ho', hib.laid, hib.lone, ⟨hc.os.trans HG.out.os, hc.tape.trans HG.out.tape, hc.output.trans HG.out.output, Nat.le_trans HG.out.size hc.size, fun j hj hne => (hc.blk j (Nat.lt_of_lt_of_le hj HG.out.size) (fun hm => by simp only [List.mem_singleton] at hm; omega)).trans (HG.out.block j hj hne)⟩⟩
  case body =>
    rintro l' pre y W' ⟨hi, hg⟩ ⟨hl, hN, hne, hpl⟩
    obtain ⟨v, hv, ho⟩ := hi.row
    have qv := hv.cell
    have zv := hv.frozen
    have HO := hid ho
    have HV := hid hv
    have HI := hid hi
    have HG := hid hg
    have HL := hid hl
    have HNe := hid hne
    have hzw : w0.heap.size ≤ W'.heap.size := hg.size
    clear ho hi hg hl hne
    gi_wp2_with (gi_at_builtin
                 refine wpListIn_append_own _ rfl _ _ 31 rfl w0.heap.size 63 i0 (.slice none 0 0) 1 24 Tryz.underlying31 HIn.out HZ0.out HZ1.out HZ2.out rfl (by decide) _ _ _ rfl (World.ownsRow.alloc HO.out _) ⟨W'.heap.size, 0, none⟩ 1 1 [.slice (some ⟨y.1, 0, none⟩) n n] rfl rfl (cell_one_new _ _ _) (by simp [Value.oneCell']) (by unfold maxLen; omega) (by omega) (by simp; omega) ?_
                 intro v' w1 hown' hgrow hnil
                 obtain ⟨g', cap', hv'⟩ := ownsRow_succ hown'
                 subst hv'
                 obtain ⟨hv1, hv2, hr2, hk2, hb2⟩ := HV.out.appended (by decide) HO.out hzw (Nat.le_refl _) hown' hgrow
                 have hc1 := hv1.cell
                 have hf1 := hv1.frozen
                 have HV2 := hid hv2
                 have HR2 := hid hr2
                 have HK2 := hid hk2
                 have HGw := hid hgrow
                 clear hown' hnil hv1 hv2 hr2 hk2 hb2 hgrow)
    obtain ⟨W5, hW5⟩ : ∃ W5, w1.setCell ⟨w0.heap.size, 0, none⟩ (.slice (some ⟨g', 0, none⟩) (pre.length + 1) cap') = W5 := ⟨_, rfl⟩
    rw [hW5] at HV2 HR2 HK2 ⊢
    have hblk : ∀ q, q < W'.heap.size → q ≠ w0.heap.size → some q ≠ v.ownBlock → W5.heap[q]? = W'.heap[q]? := fun q hq h1 h2 => by
      rw [← hW5, Below.heap_setCell _ _ _ _ h1, HGw.out.block q (by simp; omega) h2, Below.heap_alloc _ _ _ hq]
    have hsz : W'.heap.size ≤ W5.heap.size := HK2.out.size
    have hos : W5.os = W'.os ∧ W5.tape = W'.tape ∧ W5.output = W'.output := by
      rw [← hW5]
      exact ⟨HGw.out.os, HGw.out.tape, HGw.out.output⟩
    have hown : ∀ g, v.ownBlock = some g → w0.heap.size ≤ g ∧ ∃ cs, W'.heap[g]? = some (.cells cs 63 (0, 0)) := fun g hg => by
      refine ⟨(World.ownsRow.lt HO.out g hg).1, ?_⟩
      rcases HO.out.2 with ⟨e, _⟩ | ⟨g9, cap, cur, e, _, hh, _⟩
      · rw [e] at hg; simp [Value.ownBlock] at hg
      · rw [e] at hg
        simp [Value.ownBlock] at hg
        subst hg
        exact ⟨cur, hh⟩
    have hkeep : ∀ {q : Nat} {cs : Array Value} {t : TypeId} {fr : Nat × Nat}, W'.heap[q]? = some (Obj.cells cs t fr) → t ≠ 31 → t ≠ 63 → W5.heap[q]? = W'.heap[q]? := fun {q cs t fr} hq h1 h2 => hblk q (Array.getElem?_eq_some_iff.1 hq).1 (fun e => by
      subst e
      rw [show W'.heap[_]? = _ from HV.out] at hq
      injection hq with hq
      injection hq with _ hq _
      exact h1 hq.symm) (fun e => by
      obtain ⟨_, cs', h9⟩ := hown q e.symm
      rw [h9] at hq
      injection hq with hq
      injection hq with _ hq _
      exact h2 hq.symm)
    have hrt : ∀ {z : Nat × List Int}, RtLaid W' z.1 n n (rsOf z.2) → RtLaid W5 z.1 n n (rsOf z.2) := fun h => laid_keep h (by obtain ⟨cs, hcs⟩ := rt_block h; exact hkeep hcs (by decide) (by decide))
    refine ⟨HK2.out.from _, ⟨hos.1, hos.2.1, hos.2.2, hsz, fun q hq hx => hblk q hq (fun e => ?_) (fun e => ?_)⟩, ⟨⟨_, HV2.out, ?_⟩, fun z hz => ?_, ?_⟩, ⟨hos.1.trans HG.out.os, hos.2.1.trans HG.out.tape, hos.2.2.trans HG.out.output, Nat.le_trans HG.out.size hsz, fun j hj hne => (hblk j (by omega) (by omega) (fun e => by have := (hown j e.symm).1; omega)).trans (HG.out.block j hj hne)⟩⟩
    · subst e
      exact (((hx (Nat.le_refl _)).1 _ _ _ HV.out).1 rfl).elim
    · obtain ⟨h8, cs, h9⟩ := hown q e.symm
      exact (((hx h8).1 _ _ _ h9).2 rfl).elim
    · have h9 := HR2.out
      rw [List.length_append, List.length_singleton, List.map_append]
      exact h9
    · rcases List.mem_append.1 hz with h | h
      · exact ⟨hrt (HI.out.laid z h).1, (HI.out.laid z h).2⟩
      · simp only [List.mem_singleton] at h
        subst h
        exact ⟨hrt HL.out, hN⟩
    · refine List.pairwise_append.2 ⟨HI.out.lone, List.pairwise_singleton _ _, fun z hz z' hz' => ?_⟩
      simp only [List.mem_singleton] at hz'
      subst hz'
      exact HNe.out z hz
theorem collect_impl (n Sx : Nat) (h0 : Sc sb b B F p l c g o e x ea da el ec dl dc env ds w0) (hf0 : F 0 = .slice (p 0) (l 0) (c 0)) (hf : Fine n l g x) (hn0 : l 0 = n) (hn1 : 1 ≤ n) (hen : ∀ i, 0 ≤ zAt env i)
    (hsx : Boxed w0 Sx 66 (.pointer (some ⟨sb, 0, none⟩))) (hSb : Sx ≠ b) :
    Calls Tryz.prog 31 #[.func (.func 55) #[] #[.pointer (some ⟨Sx, 0, none⟩)]] w0 fun e' w' => ∃ (v : Value) (ys : List (Nat × List Int)), e' = .returned v ∧ ys.map (·.2) = (prod (fun i : Nat => rowP g (l 1) o e env ds (i : Int) (n + 3)) n).filter (goodB g (l 1) o e x (l 4) env ds n) ∧
      w'.ownsRow w0.heap.size 63 1 v ys.length (ys.map (slV n)) ∧ (∀ y ∈ ys, RtLaid w' y.1 n n (valR g (l 1) o e x (l 4) env ds y.2 n) ∧ w0.heap.size ≤ y.1) ∧ (ys.Pairwise fun y z => y.1 ≠ z.1) ∧ w0.grownBy w' (some b) := by
  have HA := hid (append_seq n Sx h0 hf0 hf hn0 hn1 hen hsx hSb)
  clear h0 hf0 hf hsx
  go_enter Tryz.func31, Tryz.ntmps31
  go_wp2_with fail
  refine HA.out.mono ?_
  rintro e' w1 ⟨v, ys, rfl, h1, h2, h3, h4, h5⟩
  have HR := hid (And.intro h1 (And.intro h2 (And.intro h3 (And.intro h4 h5))))
  clear h1 h2 h3 h4 h5
  go_wp2
  go_ret
  exact ⟨_, ys, rfl, HR.out⟩
theorem states_impl (sb : Nat) (w : World) :
    Calls Tryz.prog 33 #[.pointer (some ⟨sb, 0, none⟩)] w fun e' w' => e' = .returned (.func (.func 55) #[] #[.pointer (some ⟨w.heap.size, 0, none⟩)]) ∧ w' = w.alloc (.cells #[.pointer (some ⟨sb, 0, none⟩)] 66) := by
  go_enter Tryz.func33, Tryz.ntmps33
  go_wp2
  go_ret
  exact ⟨rfl, rfl⟩
end Go.Proofs.YtoaeieehbplggaaGreat.collImpl
