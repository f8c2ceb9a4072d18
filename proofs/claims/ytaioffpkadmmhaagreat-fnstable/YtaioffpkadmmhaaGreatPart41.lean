import Derived.Test.YtaioffpkadmmhaaGreatPart40
import Derived.Shelf.RegionOpen
import Derived.WalkKit
import Derived.OwnWalkIn
import Derived.TacticsInMore
import Derived.LoopNIn
import Derived.LoopIn
import Derived.Test.YtaioffpkadmmhaaGreatPart31
import Derived.Test.YtaioffpkadmmhaaGreatPart2
import Derived.BigRegion
import Derived.Deep.RegionWith
namespace Go.Proofs.YtaioffpkadmmhaaGreat.pick
open Go.RowKit Go.Deep Go.Shelf Go base copy netSem intsOwn prodSem rangeAt
set_option linter.unusedVariables false
attribute [local go_sem] Oper.semAt_some
def pk (L : Nat → List Int) : Nat → Nat → List Int → List (List Int)
 | 0, _, c => [c]
 | m + 1, k, c => (L k).flatMap fun v => pk L m (k + 1) (c ++ [v])
theorem pk_prod (L : Nat → List Int) : ∀ m k, (prod L k).flatMap (fun c => pk L m k c) = prod L (k + m)
 | 0, k => by simp [pk]
 | m + 1, k => by
  have ih := pk_prod L m (k + 1)
  rw [show k + (m + 1) = k + 1 + m by omega, ← ih]
  simp only [pk, prod, List.flatMap_assoc, List.flatMap_map]
theorem pk_all (L : Nat → List Int) (n : Nat) : pk L n 0 [] = prod L n := by
 have := pk_prod L n 0
 simp only [prod, List.flatMap_cons, List.flatMap_nil, List.append_nil, Nat.zero_add] at this
 exact this
theorem own_keep {B n : Nat} {w w1 : World} {v : Value} {t : TypeId} {s : Nat} {xs : List Value} (h : w.ownsRow B t s v n xs) (hk : ∀ g, v.ownBlock = some g → w1.heap[g]? = w.heap[g]?) : w1.ownsRow B t s v n xs := by
 obtain ⟨h1, h2⟩ := h
 refine ⟨h1, ?_⟩
 rcases h2 with h2 | ⟨g, cap, cur, rfl, hg, hh, hn⟩
 · exact .inl h2
 · exact .inr ⟨g, cap, cur, rfl, hg, by rw [hk g rfl]; exact hh, hn⟩
def KpT (A A' : World) : Prop := ∀ (q : Nat) (cs : Array Value) (t : TypeId) (fr : Nat × Nat), A.heap[q]? = some (.cells cs t fr) → t = 3 ∨ t = 25 ∨ t = 116 → A'.heap[q]? = some (.cells cs t fr)
theorem KpT.trans {A B C : World} (h : KpT A B) (k : KpT B C) : KpT A C := fun q cs t fr hq ht => k q cs t fr (h q cs t fr hq ht) ht
structure RInt (B : Nat) (A A' : World) : Prop where
 os : A'.os = A.os
 tape : A'.tape = A.tape
 output : A'.output = A.output
 size : A.heap.size ≤ A'.heap.size
 blk : ∀ q, q < A.heap.size → (B ≤ q → ∀ cs fr, A.heap[q]? ≠ some (.cells cs 3 fr)) → A'.heap[q]? = A.heap[q]?
structure RowsD (B0 B1 RB n : Nat) (V : Nat → Value) (L : Nat → List Int) (W : World) : Prop where
 row : W.rowIs RB 25 n V
 own : ∀ i, i < n → OwnInts B0 W (V i) (L i)
 low : ∀ i g, i < n → (V i).ownBlock = some g → g < B1
 few : ∀ i, i < n → (L i).length ≤ 100
theorem own_block {B g : Nat} {W : World} {v : Value} {zs : List Int} (h : OwnInts B W v zs) (hg : v.ownBlock = some g) : ∃ cs, W.heap[g]? = some (.cells cs 3 (0, 0)) := by
 rcases h.2 with ⟨e, _⟩ | ⟨g', cap, cur, e, _, hh, _⟩
 · rw [e] at hg; simp [Value.ownBlock] at hg
 · rw [e] at hg
   simp [Value.ownBlock] at hg
   subst hg
   exact ⟨cur, hh⟩
theorem RowsD.kept {B0 B1 RB n : Nat} {V : Nat → Value} {L : Nat → List Int} {W W' : World} (h : RowsD B0 B1 RB n V L W) (hk : KpT W W') : RowsD B0 B1 RB n V L W' := by
 refine ⟨h.row.of_block ?_, fun i hi => own_keep (h.own i hi) fun g hg => ?_, h.low, h.few⟩
 · obtain ⟨c, hc, _⟩ := h.row
   rw [hc]
   exact hk _ _ _ _ hc (.inr (.inl rfl))
 · obtain ⟨cs, hc⟩ := own_block (h.own i hi) hg
   rw [hc]
   exact hk _ _ _ _ hc (.inl rfl)
theorem RowsD.set {B0 B1 RB n LB k : Nat} {V : Nat → Value} {L : Nat → List Int} {W : World} {v : Value} (h : RowsD B0 B1 RB n V L W) (h1 : B1 ≤ LB) (h2 : RB ≠ LB) : RowsD B0 B1 RB n V L (W.setCell ⟨LB, k, none⟩ v) :=
 ⟨h.row.of_block (Below.heap_setCell _ _ _ _ h2), fun i hi => own_keep (h.own i hi) fun g hg => Below.heap_setCell _ _ _ _ (by have := h.low i g hi hg; show g ≠ LB; omega), h.low, h.few⟩
def ListD (LB n k : Nat) (c : List Int) (W : World) : Prop := ∃ z : Nat → Int, W.rowIs LB 3 n (fun i => .int .i64 (z i)) ∧ ∀ i, i < k → z i = zAt c i
theorem ListD.kept {LB n k : Nat} {c : List Int} {W W' : World} (h : ListD LB n k c W) (hk : KpT W W') : ListD LB n k c W' := by
 obtain ⟨z, hz, hc⟩ := h
 refine ⟨z, hz.of_block ?_, hc⟩
 obtain ⟨cs, hh, _⟩ := hz
 rw [hh]
 exact hk _ _ _ _ hh (.inl rfl)
theorem ListD.less {LB n k : Nat} {c : List Int} {v : Int} {W : World} (h : ListD LB n (k + 1) (c ++ [v]) W) (hl : c.length = k) : ListD LB n k c W := by
 obtain ⟨z, hz, hc⟩ := h
 refine ⟨z, hz, fun i hi => ?_⟩
 rw [hc i (by omega)]
 unfold zAt
 rw [List.getElem?_append_left (by omega)]
theorem ListD.put {LB n k : Nat} {c : List Int} {W : World} (h : ListD LB n k c W) (hl : c.length = k) (v : Int) : ListD LB n (k + 1) (c ++ [v]) (W.setCell ⟨LB, k, none⟩ (.int .i64 v)) := by
 obtain ⟨z, hz, hc⟩ := h
 refine ⟨fun i => if i = k then v else z i, (hz.set k _).congr (fun i hi => ?_), fun i hi => ?_⟩
 · by_cases e : i = k <;> simp [e]
 · dsimp only
   unfold zAt
   by_cases e : i = k
   · subst e
     rw [if_pos rfl, List.getElem?_append_right (by omega), hl, Nat.sub_self]
     rfl
   · rw [if_neg e, List.getElem?_append_left (by omega)]
     exact hc i (by omega)
theorem RInt.set {B LB k : Nat} {W : World} {n : Nat} {f : Nat → Value} (h : W.rowIs LB 3 n f) (hB : B ≤ LB) (v : Value) : RInt B W (W.setCell ⟨LB, k, none⟩ v) := by
 refine ⟨rfl, rfl, rfl, by simp [World.setCell], fun q hq hx => Below.heap_setCell _ _ _ _ fun e => ?_⟩
 obtain ⟨cs, hh, _⟩ := h
 have e : q = LB := e
 subst e
 exact hx hB _ _ hh
def AtL (B n : Nat) (L : Nat → List Int) (x : Nat × List Int) (W : World) : Prop := B ≤ x.1 ∧ x.2.length = n ∧ (∀ i, i < n → zAt x.2 i ∈ L i) ∧ W.rowIs x.1 3 n (fun i => .int .i64 (zAt x.2 i))
set_option maxRecDepth 100000 in
set_option maxHeartbeats 4000000 in
theorem pick_in (n B0 B1 RB rc LB l : Nat) (V : Nat → Value) (L : Nat → List Int) (J Jx : List (Nat × List Int) → World → Prop) (hn : n ≤ 100) (hLB : B1 ≤ LB) (hRB : RB ≠ LB) (Bs T : Nat) (hBs : Bs ≤ LB)
  (hJ : ∀ s A A', RInt Bs A A' → J s A → J s A')
  (hY : ∀ pre x W1, J pre W1 → AtL Bs n L x W1 → pre.length < T → YieldAt Fence.wide 9 Tryz.prog l #[.slice (some ⟨x.1, 0, none⟩) n n] W1 fun e W' =>
   (e = .returned (.bool true) ∧ J (pre ++ [x]) W' ∧ KpT W1 W') ∨ (e = .returned (.bool false) ∧ Jx (pre ++ [x]) W')) :
  ∀ (m k : Nat) (c : List Int) (pre : List (Nat × List Int)) (W : World), k + m = n → pre.length + (pk L m k c).length ≤ T → c.length = k → (∀ i, i < k → zAt c i ∈ L i) → RowsD B0 B1 RB n V L W → ListD LB n k c W → J pre W →
   CallsIn Fence.wide 9 Tryz.prog 102 #[.slice (some ⟨RB, 0, none⟩) n rc, .slice (some ⟨LB, 0, none⟩) n n, .int .i64 (k : Int), .func (.yield l) #[] #[]] W fun e W' =>
    (e = .returned (.bool true) ∧ J (pre ++ (pk L m k c).map (fun c => (LB, c))) W' ∧ RowsD B0 B1 RB n V L W' ∧ ListD LB n k c W') ∨ (e = .returned (.bool false) ∧ ∃ q, Jx q W') := by
 intro m
 induction m with
 | zero =>
  intro k c pre W hkm hT hcl hin hR hL hj
  have hT0 : pre.length < T := by simp [pk] at hT; omega
  have hk : k = n := by omega
  subst hk
  have hat : AtL Bs k L (LB, c) W := by
   obtain ⟨z, hz, hc⟩ := hL
   exact ⟨hBs, hcl, hin, hz.congr (fun i hi => by rw [hc i hi])⟩
  obtain ⟨fn, tmps, assign, body, hy, hround⟩ := yield_any (m' := 8) (hY pre (LB, c) W hj hat hT0)
  dsimp only at hy
  have HR := hid hR
  have HL := hid hL
  have dk : ((k : Int) == (k : Int)) = true := by simp
  clear hR hL hat
  refine callsIn_of_wp Tryz.func102 rfl trivial ?_ rfl
  simp only [Tryz.ntmps102, List.size_toArray, List.length_cons, List.length_nil, Nat.reduceAdd, Nat.reduceSub, Array.replicate_succ, Array.replicate_zero, List.push_toArray, List.append_toArray, List.nil_append, List.cons_append]
  gi_wp2
  refine hround.mono ?_
  rintro e W3 (⟨rfl, hJ3, hk3⟩ | ⟨rfl, hJx3⟩)
  · have HR3 := hid (HR.out.kept hk3)
    have HL3 := hid (HL.out.kept hk3)
    gi_wp2
    go_ret
    exact .inl ⟨rfl, by simpa [pk] using hJ3, HR3.out, HL3.out⟩
  · gi_wp2
    go_ret
    exact .inr ⟨rfl, _, hJx3⟩
 | succ m ih =>
  intro k c pre W hkm hT hcl hin hR hL hj
  have HT := hid hT
  clear hT
  have hkn : k < n := by omega
  have dk : ((k : Int) == (n : Int)) = false := by simp; omega
  have HR := hid hR
  have HL := hid hL
  have hf := hR.few k hkn
  obtain ⟨av, cv, hVk, hrow⟩ := (hR.own k hkn).form
  have HVk := hid hVk
  have q0 := hR.row.cell (i := k) hkn
  rw [hVk] at q0
  have hki : (k : Int) < (n : Int) := by omega
  have HIh := hid ih
  have HJ0 := hid hj
  clear hR hL hVk hrow ih hj
  refine callsIn_of_wp Tryz.func102 rfl trivial ?_ rfl
  simp only [Tryz.ntmps102, List.size_toArray, List.length_cons, List.length_nil, Nat.reduceAdd, Nat.reduceSub, Array.replicate_succ, Array.replicate_zero, List.push_toArray, List.append_toArray, List.nil_append, List.cons_append]
  gi_wp2
  clear q0
  gi_loopw [23] (fun i wr => ∃ t : Nat, t ≤ (L k).length ∧ i = .int .i64 t ∧ J (pre ++ (((L k).take t).flatMap fun v => pk L m (k + 1) (c ++ [v])).map (fun c => (LB, c))) wr ∧ RowsD B0 B1 RB n V L wr ∧ ListD LB n k c wr) (fun i _ => (L k).length - (intOf i).toNat)
  case atStart => exact ⟨0, Nat.zero_le _, rfl, by simpa using HJ0.out, HR.out, HL.out⟩
  case round =>
   clear HR HL HJ0
   obtain ⟨t, ht, rfl, hj, hR, hL⟩ := hrel
   have HR := hid hR
   have HL := hid hL
   have HJ := hid hj
   have hO := hR.own k hkn
   rw [HVk.out] at hO
   have hrow := row_of_own hO
   clear hR hL hj hO
   by_cases hlt : t < (L k).length
   · obtain ⟨b, off, rfl, hc⟩ := hrow.cell t hlt
     obtain ⟨v, hv⟩ : ∃ v, (L k)[t]?.getD 0 = v := ⟨_, rfl⟩
     rw [hv] at hc
     have HTk : Hid ((L k).take (t + 1) = (L k).take t ++ [v]) := hid (by rw [List.take_add_one, List.getElem?_eq_getElem hlt, ← hv, List.getElem?_eq_getElem hlt]; rfl)
     have hvin : v ∈ L k := by rw [← hv, List.getElem?_eq_getElem hlt]; exact List.getElem_mem hlt
     obtain ⟨z, hz, hzc⟩ := HL.out
     have gk := hz.cell (i := k) hkn
     have zk := hz.frozen k
     have HLn := hid (HL.out.put hcl v)
     have HRn : Hid (RowsD B0 B1 RB n V L (wr.setCell ⟨LB, k, none⟩ (.int .i64 v))) := hid (HR.out.set hLB hRB)
     have HJn := hid (hJ _ _ _ (RInt.set (k := k) hz hBs (.int .i64 v)) HJ.out)
     have HTn : Hid ((pre ++ (((L k).take t).flatMap fun v => pk L m (k + 1) (c ++ [v])).map (fun c => (LB, c))).length + (pk L m (k + 1) (c ++ [v])).length ≤ T) := hid (by
      have h9 := HT.out
      have e9 : (pk L (m + 1) k c) = ((L k).take (t + 1)).flatMap (fun v => pk L m (k + 1) (c ++ [v])) ++ ((L k).drop (t + 1)).flatMap (fun v => pk L m (k + 1) (c ++ [v])) := by
       rw [← List.flatMap_append, List.take_append_drop]
       rfl
      rw [e9, HTk.out, List.flatMap_append, List.length_append, List.length_append] at h9
      simp only [List.flatMap_cons, List.flatMap_nil, List.append_nil] at h9
      rw [List.length_append, List.length_map]
      omega)
     have HI9 := hid (HIh.out (k + 1) (c ++ [v]) _ _ (by omega) HTn.out (by simp [hcl]) (fun i hi => by
      by_cases e : i = k
      · subst e
        unfold zAt
        rw [List.getElem?_append_right (by omega), hcl, Nat.sub_self]
        exact hvin
      · unfold zAt
        rw [List.getElem?_append_left (by omega)]
        exact hin i (by omega)) HRn.out HLn.out HJn.out)
     have hti : (t : Int) < ((L k).length : Int) := by omega
     clear hz hzc hv hrow HL HR HJ HLn HRn HJn
     gi_wp2
     refine ⟨trivial, (calls_any HI9.out).mono ?_⟩
     rintro e W3 (⟨rfl, hj3, hr3, hl3⟩ | ⟨rfl, q, hq⟩)
     · have HJ3 := hid hj3
       have HR3 := hid hr3
       have HL3 := hid (hl3.less hcl)
       clear hj3 hr3 hl3
       gi_wp2
       go_roundw
       case rel =>
        refine ⟨t + 1, by omega, by simp, ?_, HR3.out, HL3.out⟩
        rw [HTk.out, List.flatMap_append, List.map_append, ← List.append_assoc]
        simpa using HJ3.out
       case measure => simp [intOf]; omega
     · gi_wp2
       go_ret
       exact .inr ⟨rfl, q, hq⟩
   · have e1 : t = (L k).length := by omega
     have HJe : Hid (J (pre ++ (pk L (m + 1) k c).map (fun c => (LB, c))) wr) := hid (by
      have := HJ.out
      rw [e1, List.take_length] at this
      exact this)
     subst e1
     clear hlt
     gi_wp2
     go_ret
     exact .inl ⟨rfl, HJe.out, HR.out, HL.out⟩
end Go.Proofs.YtaioffpkadmmhaaGreat.pick
namespace Go.Proofs.YtaioffpkadmmhaaGreat.picksSeq
open Go.RowKit Go.Deep Go.Shelf Go base copy netSem intsOwn prodSem rangeAt pick
set_option linter.unusedVariables false
theorem RInt.below {B : Nat} {A A' : World} (h : Below A.heap.size A A') : RInt B A A' := ⟨h.os, h.tape, h.output, h.size, fun q hq _ => h.block q hq⟩
theorem kp_below {A A' : World} (h : Below A.heap.size A A') : KpT A A' := fun q cs t fr hq _ => (h.block q (Array.getElem?_eq_some_iff.1 hq).1).trans hq
theorem AtL.mono {B B' n : Nat} {L : Nat → List Int} {x : Nat × List Int} {W : World} (h : AtL B n L x W) (hb : B' ≤ B) : AtL B' n L x W := ⟨Nat.le_trans hb h.1, h.2⟩
structure StartP (B B0 B1 RB Bx n : Nat) (V : Nat → Value) (L : Nat → List Int) (W : World) : Prop where
 rows : RowsD B0 B1 RB n V L W
 box : Boxed W Bx 116 (.slice (some ⟨RB, 0, none⟩) n n)
 b1 : B1 ≤ W.heap.size
 b : B ≤ W.heap.size
set_option maxRecDepth 100000 in
set_option maxHeartbeats 4000000 in
theorem picks_in (B B0 B1 RB Bx n l : Nat) (V : Nat → Value) (L : Nat → List Int) (hn : n ≤ 100) (J Jx : List (Nat × List Int) → World → Prop) (W : World) (hs : StartP B B0 B1 RB Bx n V L W)
  (hJ : ∀ s A A', RInt W.heap.size A A' → J s A → J s A')
  (hY : ∀ pre x W1, J pre W1 → AtL B n L x W1 → pre.length < (prod L n).length → YieldAt Fence.wide 9 Tryz.prog l #[.slice (some ⟨x.1, 0, none⟩) n n] W1 fun e W' =>
   (e = .returned (.bool true) ∧ J (pre ++ [x]) W' ∧ KpT W1 W') ∨ (e = .returned (.bool false) ∧ Jx (pre ++ [x]) W'))
  (h0 : J [] W) :
  Calls Tryz.prog 101 #[.func (.yield l) #[] #[], .pointer (some ⟨Bx, 0, none⟩)] W fun e W' => (∃ v, e = .returned v) ∧ ((∃ xs, (∃ LB, xs = (prod L n).map (fun c => (LB, c))) ∧ J xs W') ∨ (∃ pre, Jx pre W')) := by
 have HS := hid hs
 have qb := hs.box.cell
 have hlt := hs.box.lt
 have hmk := run_make_row' (P := Tryz.prog) 25 3 (.int .i64 0) 8 Tryz.underlying25 Tryz.info_int rfl .i64 .i64 n (by omega) (by omega)
 have HP : Hid (∀ W9 : World, W9 = W.drew.alloc (.cells (madeCells #[.int .i64 0] n) 3) → Calls Tryz.prog 102 #[.slice (some ⟨RB, 0, none⟩) n n, .slice (some ⟨W.heap.size, 0, none⟩) n n, .int .i64 0, .func (.yield l) #[] #[]] W9 fun e W' =>
   ∃ ok : Bool, e = .returned (.bool ok) ∧ ((∃ xs, (∃ LB, xs = (prod L n).map (fun c => (LB, c))) ∧ J xs W') ∨ (∃ pre, Jx pre W'))) := hid (fun W9 h9 => by
  have hb : Below W.heap.size W W9 := by rw [h9]; exact (by repeat (first | exact Below.refl _ _ | assumption | refine Below.drew ?_ | refine Below.alloc ?_ (by first | exact Nat.le_refl _ | omega | (simp; done) | (simp; omega)) _ | refine Below.setCell ?_ (by first | exact Nat.le_refl _ | omega | (simp; done) | (simp; omega)) _))
  have hrow : W9.rowIs W.heap.size 3 n (fun _ => .int .i64 0) := by rw [h9]; exact World.rowIs_made W.drew _ n 3
  have hRB : RB ≠ W.heap.size := by have := hs.rows.row.lt; omega
  have h := pick_in n B0 B1 RB n W.heap.size l V L J Jx hn hs.b1 hRB W.heap.size (prod L n).length (Nat.le_refl _) hJ (fun pre x W1 hj hat hlt => hY pre x W1 hj (AtL.mono hat hs.b) hlt) n 0 [] [] W9 (by omega) (by rw [pk_all]; simp) rfl (fun i hi => absurd hi (Nat.not_lt_zero _)) (hs.rows.kept (kp_below hb)) ⟨fun _ => 0, hrow, fun i hi => absurd hi (Nat.not_lt_zero _)⟩ (hJ _ _ _ (RInt.below hb) h0)
  refine (callsIn_wide.1 h).mono ?_
  rintro e W' (⟨he, hj, _, _⟩ | ⟨he, hq⟩)
  · rw [pk_all, List.nil_append] at hj
    exact ⟨_, he, .inl ⟨_, ⟨_, rfl⟩, hj⟩⟩
  · exact ⟨_, he, .inr hq⟩)
 clear hs hJ hY h0
 go_enter Tryz.func101, Tryz.ntmps101
 go_wp2_with fail
 go_region_with (go_at_call 102; refine (HP.out _ rfl).mono ?_; rintro e W' ⟨ok, rfl, hres⟩; have HRes := hid hres; clear hres)
 all_goals
  go_wp2
  go_end0
  exact ⟨⟨_, rfl⟩, HRes.out⟩
theorem picks_seq (B B0 B1 RB Bx n : Nat) (V : Nat → Value) (L : Nat → List Int) (hn : n ≤ 100) :
  SeqAll Tryz.prog 101 #[.pointer (some ⟨Bx, 0, none⟩)] (fun x : Nat × List Int => #[.slice (some ⟨x.1, 0, none⟩) n n]) (fun pre x W => AtL B n L x W ∧ pre.length < (prod L n).length) KpT RInt (fun xs => ∃ LB, xs = (prod L n).map (fun c => (LB, c))) (StartP B B0 B1 RB Bx n V L) :=
 fun l J W hs hJ hY h0 => (callsIn_wide.2 (picks_in B B0 B1 RB Bx n l V L hn J (fun _ _ => False) W hs hJ (fun pre x W1 hj hat hlt => by
  obtain ⟨fn, tmps, assign, body, hy, hr⟩ := hY pre x W1 hj ⟨hat, hlt⟩
  exact ⟨fn, tmps, assign, body, hy, hr.mono fun e W' h => .inl h⟩) h0)).mono fun e W' ⟨he, h⟩ => ⟨he, h.elim id (fun ⟨q, hq⟩ => hq.elim)⟩
theorem picks_impl (a : Option Addr) (len cap : Nat) (w : World) :
  Calls Tryz.prog 74 #[.slice a len cap] w fun e w' => e = .returned (.func (.func 101) #[] #[.pointer (some ⟨w.heap.size, 0, none⟩)]) ∧ w' = w.alloc (.cells #[.slice a len cap] 116) := by
 go_enter Tryz.func74, Tryz.ntmps74
 go_wp2
 go_ret
 exact ⟨rfl, rfl⟩
end Go.Proofs.YtaioffpkadmmhaaGreat.picksSeq
