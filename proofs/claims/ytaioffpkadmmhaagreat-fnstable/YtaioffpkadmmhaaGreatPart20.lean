import Derived.Test.YtaioffpkadmmhaaGreatPart16
import Derived.Test.YtaioffpkadmmhaaGreatCandSpec
import Derived.Test.YtaioffpkadmmhaaGreatPart9
namespace Go.Proofs.YtaioffpkadmmhaaGreat.sceneCand
open Go.RowKit Go.Deep Go base netSem routeRow nbSem candSem candImp hopSem intsOwn hopMake hopBetween sceneSem sceneOpen sceneBy candSpec
set_option linter.unusedVariables false
def lst (g : R) (nl : Nat) (o e : List Int) (x : R) (nx : Nat) (env : List Int) (ds : List Bool) (rs : Rs) (n : Nat) (router : Int) (k : Nat) : List Rt := (List.range k).flatMap fun i : Nat => (byVia g nl o e x nx env ds rs n router ((i : Int) - 2)).toList
theorem lst_succ (g : R) (nl : Nat) (o e : List Int) (x : R) (nx : Nat) (env : List Int) (ds : List Bool) (rs : Rs) (n : Nat) (router : Int) (k : Nat) : lst g nl o e x nx env ds rs n router (k + 1) = lst g nl o e x nx env ds rs n router k ++ (byVia g nl o e x nx env ds rs n router ((k : Int) - 2)).toList := by
 unfold lst
 rw [List.range_succ, List.flatMap_append]
 simp
theorem lst_len (g : R) (nl : Nat) (o e : List Int) (x : R) (nx : Nat) (env : List Int) (ds : List Bool) (rs : Rs) (n : Nat) (router : Int) : ∀ k, (lst g nl o e x nx env ds rs n router k).length ≤ k
 | 0 => by simp [lst]
 | k + 1 => by
  have ih := lst_len g nl o e x nx env ds rs n router k
  rw [lst_succ, List.length_append]
  cases byVia g nl o e x nx env ds rs n router ((k : Int) - 2) <;> simp <;> omega
theorem row_end {sb b B : Nat} {F : Nat → Value} {p : Nat → Option Addr} {l c : Nat → Nat} {g : R} {o e : List Int} {x : R} {ea da : Option Addr} {el ec dl dc : Nat} {env : List Int} {ds : List Bool} {w W W2 : World} {v : Value} {zs : List Rt} (h0 : Sc sb b B F p l c g o e x ea da el ec dl dc env ds w) (hbw : b < w.heap.size) (h : Sc sb b B F p l c g o e x ea da el ec dl dc env ds W) (hg : w.grownBy W (some b))
  (ho : OwnRts w.heap.size W v zs) (h2 : W.grownBy W2 v.ownBlock) : Sc sb b B F p l c g o e x ea da el ec dl dc env ds W2 ∧ w.grownBy W2 (some b) := by
 have hge : ∀ k, v.ownBlock = some k → w.heap.size ≤ k := fun k hk => (World.ownsRow.lt ho k hk).1
 have hz := hg.size
 have hg2 : w.grownBy W2 (some b) := ⟨h2.os.trans hg.os, h2.tape.trans hg.tape, h2.output.trans hg.output, Nat.le_trans hg.size h2.size, fun j hj hne => (h2.block j (by omega) (fun e => by have := hge j e.symm; omega)).trans (hg.block j hj hne)⟩
 have hkb : W2.heap[b]? = W.heap[b]? := h2.block b (by omega) (fun e => by have := hge b e.symm; omega)
 refine ⟨h0.step hg2 ?_, hg2⟩
 rcases h.ready with ⟨h1, h2, h3, h4⟩ | ⟨V, F', hm⟩
 · exact .inl ⟨h1.of_block hkb, h2, h3, h4⟩
 · refine .inr ⟨V, F', hm.row.of_block hkb, hm.net, hm.done, hm.hops, fun p q hp hq => own_keep (hm.own p q hp hq) fun k hk => h2.block k (World.ownsRow.lt (hm.own p q hp hq) k hk).2 fun ek => ?_⟩
   rcases (hm.own p q hp hq).2 with ⟨e1, _⟩ | ⟨k', cap, cur, e1, _, hh, _⟩
   · rw [e1] at hk
     simp [Value.ownBlock] at hk
   · rw [e1] at hk
     simp [Value.ownBlock] at hk
     rcases ho.2 with ⟨f1, _⟩ | ⟨k2, cap2, cur2, f1, _, hh2, _⟩
     · rw [f1] at ek
       simp [Value.ownBlock] at ek
     · rw [f1] at ek
       simp [Value.ownBlock] at ek
       rw [hk, ek, hh2] at hh
       injection hh with hh
       injection hh with _ hh3 _
       exact absurd hh3 (by decide)
set_option maxHeartbeats 6400000 in
set_option maxRecDepth 8000 in
theorem cand_impl (sb b B : Nat) (F : Nat → Value) (p : Nat → Option Addr) (l c : Nat → Nat) (g : R) (o e : List Int) (x : R) (ea da : Option Addr) (el ec dl dc : Nat) (env : List Int) (ds : List Bool) (ra : Option Addr) (n cr : Nat) (rs : Rs) (r : Nat) (w : World) (h : Sc sb b B F p l c g o e x ea da el ec dl dc env ds w) (hgd : sceneBy.Good n l g x rs) (hrt : RtRow w ra n rs) (hna : ∀ a o, ra = some ⟨a, o, none⟩ → a ≠ b) (hr : r < n) :
  Calls Tryz.prog 32 #[.pointer (some ⟨sb, 0, none⟩), .int .i64 (r : Int), .slice ra n cr] w fun e' w' => ∃ v, e' = .returned v ∧ OwnRts w.heap.size w' v (lst g (l 1) o e x (l 4) env ds rs n r (n + 2)) ∧ Sc sb b B F p l c g o e x ea da el ec dl dc env ds w' ∧ w.grownBy w' (some b) := by
 have HS := hid h
 have HGd := hid hgd
 have HT := hid hrt
 have HNa := hid hna
 have hn4 := hgd.few
 have hbw : b < w.heap.size := by rcases h.ready with ⟨h1, _⟩ | ⟨V, F', hm⟩; exact h1.lt; exact hm.row.lt
 clear h hgd hrt hna
 have HRt : Hid (∀ W : World, w.grownBy W (some b) → RtRow W ra n rs) := hid (fun W hg => ⟨HT.out.most, fun i hi => by
  obtain ⟨q, off, e, hc⟩ := HT.out.cell i hi
  exact ⟨q, off, e, fun j hj => grown_cell hg q _ _ (HNa.out q off e) (hc j hj)⟩⟩)
 have hni : (n : Int) ≤ 4 := by omega
 obtain ⟨i0, hi, hzz⟩ := Option.map_eq_some_iff.1 info_Route
 simp only [Prod.mk.injEq] at hzz
 obtain ⟨hz0, hz1, hz2⟩ := hzz
 have HI := hid hi
 have HZ0 := hid hz0
 have HZ1 := hid hz1
 have HZ2 := hid hz2
 clear hi hz0 hz1 hz2
 go_enter Tryz.func32, Tryz.ntmps32
 go_wp2_with fail
 go_loopw [8, 7] (fun i v wr => ∃ k : Nat, k ≤ n + 2 ∧ i = .int .i64 ((k : Int) - 2) ∧ OwnRts w.heap.size wr v (lst g (l 1) o e x (l 4) env ds rs n r k) ∧ Sc sb b B F p l c g o e x ea da el ec dl dc env ds wr ∧ w.grownBy wr (some b)) (fun i _ _ => (n : Nat) + 2 - (intOf i + 2).toNat)
 case atStart => exact ⟨0, by omega, rfl, ⟨rfl, .inl ⟨rfl, rfl⟩⟩, HS.out, grown_refl _ _⟩
 case round =>
  obtain ⟨k, hk, rfl, ho, hs, hg⟩ := hrel
  have HOr := hid ho
  have HSr := hid hs
  have HGr := hid hg
  clear ho hs hg
  obtain ⟨vi, hvi⟩ : ∃ vi : Int, (k : Int) - 2 = vi := ⟨_, rfl⟩
  have HVi := hid hvi
  rw [hvi]
  by_cases hlt : vi < n
  · obtain ⟨⟨qv, qp, ql, qm⟩, hq⟩ : ∃ q, (byVia g (l 1) o e x (l 4) env ds rs n r vi).getD zRt = q := ⟨_, rfl⟩
    obtain ⟨qs, hqs⟩ : ∃ q, (byVia g (l 1) o e x (l 4) env ds rs n r vi).isSome = q := ⟨_, rfl⟩
    have HBy : Hid (Calls Tryz.prog 56 #[.pointer (some ⟨sb, 0, none⟩), .int .i64 (r : Int), .int .i64 vi, .slice ra n cr] wr fun e' w' => e' = .returned (.tuple #[.agg #[.int .i64 qv, .int .i64 qp, .int .i64 ql, .bool qm], .bool qs]) ∧ Sc sb b B F p l c g o e x ea da el ec dl dc env ds w' ∧ wr.grownBy w' (some b)) := hid (by
     have h := by_impl sb b B F p l c g o e x ea da el ec dl dc env ds ra n cr rs r vi wr HSr.out HGd.out (HRt.out _ HGr.out) HNa.out hr (by omega) hlt
     rw [hq, hqs] at h
     exact h)
    have HQ := hid (And.intro hq hqs)
    have d1 : decide (vi < (n : Int)) = true := decide_eq_true hlt
    have hlo : -2 ≤ vi := by omega
    clear hq hqs hvi
    go_wp2_with fail
    refine HBy.out.mono ?_
    rintro e' w1 ⟨rfl, hs1, hg1⟩
    have HS1 := hid hs1
    have HG1 := hid hg1
    have HO1 : Hid (OwnRts w.heap.size w1 u7 (lst g (l 1) o e x (l 4) env ds rs n r k)) := hid (own_keep HOr.out fun q hq => hg1.block q (World.ownsRow.lt HOr.out q hq).2 (fun e => by have := (World.ownsRow.lt HOr.out q hq).1; injection e with e; omega))
    clear hs1 hg1
    have hz1 : w.heap.size ≤ w1.heap.size := Nat.le_trans HGr.out.size HG1.out.size
    have HG2 := hid (grown_trans HGr.out HG1.out)
    have hL := lst_len g (l 1) o e x (l 4) env ds rs n r k
    have HSuc := hid (lst_succ g (l 1) o e x (l 4) env ds rs n r k)
    rw [HVi.out] at HSuc
    obtain ⟨Ls, hLs⟩ : ∃ L, lst g (l 1) o e x (l 4) env ds rs n r k = L := ⟨_, rfl⟩
    rw [hLs] at HO1 HSuc hL
    clear hLs
    cases qs with
    | false =>
     have HN : Hid (lst g (l 1) o e x (l 4) env ds rs n r (k + 1) = Ls) := hid (by
      rw [HSuc.out]
      have h := HQ.out.2
      cases hby : byVia g (l 1) o e x (l 4) env ds rs n r vi with
      | none => simp
      | some y => rw [hby] at h; cases h)
     go_wp2
     go_roundw
     case rel => exact ⟨k + 1, by have := HVi.out; omega, by have := HVi.out; congr 1; omega, by rw [HN.out]; exact World.ownsRow.alloc HO1.out _, HS1.out.below (by repeat (first | exact Below.refl _ _ | assumption | refine Below.drew ?_ | refine Below.alloc ?_ (by first | exact Nat.le_refl _ | omega | (simp; done) | (simp; omega)) _ | refine Below.setCell ?_ (by first | exact Nat.le_refl _ | omega | (simp; done) | (simp; omega)) _)), grown_trans HG2.out (grown_of_below (by repeat (first | exact Below.refl _ _ | assumption | refine Below.drew ?_ | refine Below.alloc ?_ (by first | exact Nat.le_refl _ | omega | (simp; done) | (simp; omega)) _ | refine Below.setCell ?_ (by first | exact Nat.le_refl _ | omega | (simp; done) | (simp; omega)) _)) _)⟩
     case measure => have := HVi.out; simp [intOf]; omega
    | true =>
     have HN : Hid (lst g (l 1) o e x (l 4) env ds rs n r (k + 1) = Ls ++ [⟨qv, qp, ql, qm⟩]) := hid (by
      rw [HSuc.out]
      have h := HQ.out
      cases hby : byVia g (l 1) o e x (l 4) env ds rs n r vi with
      | none => rw [hby] at h; cases h.2
      | some y => rw [hby] at h; have h1 := h.1; simp at h1; rw [h1]; rfl)
     have HB3 : Hid (Below w1.heap.size w1 ((w1.alloc (.cells #[.int .i64 qv, .int .i64 qp, .int .i64 ql, .bool qm] 44)).alloc (.cells #[.int .i64 qv, .int .i64 qp, .int .i64 ql, .bool qm] 44))) := hid (by repeat (first | exact Below.refl _ _ | assumption | refine Below.drew ?_ | refine Below.alloc ?_ (by first | exact Nat.le_refl _ | omega | (simp; done) | (simp; omega)) _ | refine Below.setCell ?_ (by first | exact Nat.le_refl _ | omega | (simp; done) | (simp; omega)) _))
     have HO3 : Hid (OwnRts w.heap.size ((w1.alloc (.cells #[.int .i64 qv, .int .i64 qp, .int .i64 ql, .bool qm] 44)).alloc (.cells #[.int .i64 qv, .int .i64 qp, .int .i64 ql, .bool qm] 44)) u7 Ls) := hid (World.ownsRow.alloc (World.ownsRow.alloc HO1.out _) _)
     have HC4 : Hid (∀ (j : Nat) (u : Value), [.int .i64 qv, .int .i64 qp, .int .i64 ql, .bool qm][j]? = some u → ((w1.alloc (.cells #[.int .i64 qv, .int .i64 qp, .int .i64 ql, .bool qm] 44)).alloc (.cells #[.int .i64 qv, .int .i64 qp, .int .i64 ql, .bool qm] 44)).cell? ((⟨w1.heap.size + 1, 0, none⟩ : Addr).add j) = some u) := hid (by
      have h := cell_four (w1.alloc (.cells #[.int .i64 qv, .int .i64 qp, .int .i64 ql, .bool qm] 44)) (.int .i64 qv) (.int .i64 qp) (.int .i64 ql) (.bool qm) 44
      have e : (w1.alloc (.cells #[.int .i64 qv, .int .i64 qp, .int .i64 ql, .bool qm] 44)).heap.size = w1.heap.size + 1 := by simp
      rw [e] at h
      exact h)
     go_wp2_with (at_builtin
                  refine wpList_append_own_at _ rfl _ _ 40 rfl w.heap.size 44 i0 _ 4 32 Tryz.underlying40 HI.out HZ0.out HZ1.out HZ2.out rfl (by decide) _ _ _ rfl HO3.out ⟨w1.heap.size + 1, 0, none⟩ 1 1 [.int .i64 qv, .int .i64 qp, .int .i64 ql, .bool qm] rfl rfl HC4.out (fun u hu => by simp at hu; rcases hu with rfl | rfl | rfl | rfl <;> rfl) (by unfold maxLen; omega) (by omega) (by simp; omega) ?_
                  intro vA w3 hown' hgrow3 hnil3 hat3)
     have hmid := row_end HS.out hbw (HS1.out.below HB3.out) (grown_trans HG2.out (grown_of_below HB3.out _)) HO3.out hgrow3
     go_roundw
     case rel => exact ⟨k + 1, by have := HVi.out; omega, by have := HVi.out; congr 1; omega, by rw [HN.out]; exact rts_add hown', hmid⟩
     case measure => have := HVi.out; simp [intOf]; omega
  · have e1 : vi = n := by omega
    have e2 : k = n + 2 := by omega
    subst e2
    have d1 : decide (vi < (n : Int)) = false := decide_eq_false hlt
    clear hlt
    go_wp2
    go_ret
    exact ⟨_, rfl, HOr.out, HSr.out, HGr.out⟩
end Go.Proofs.YtaioffpkadmmhaaGreat.sceneCand
namespace Go.Proofs.YtaioffpkadmmhaaGreat.candHole
open Go base netSem routeRow candSem
set_option linter.unusedVariables false
theorem hole (q : Nat → Int) (n : Nat) (hn : n ≤ 4) (hq : ∀ j, j ≤ n → 0 ≤ q j ∧ q j < n) (hc : ∀ a b, q a = q b → q (a + 1) = q (b + 1)) (he : q (n + 1) < 0) : False := by
 have hs : ∀ t a b, q a = q b → q (a + t) = q (b + t) := by
  intro t
  induction t with
  | zero => intro a b h; exact h
  | succ t ih => intro a b h; exact hc _ _ (ih a b h)
 have hne : ∀ a b, a < b → b ≤ n → q a ≠ q b := fun a b hab hb e => by
  have h := hs (n + 1 - b) a b e
  rw [show b + (n + 1 - b) = n + 1 from by omega] at h
  have := hq (a + (n + 1 - b)) (by omega)
  omega
 obtain rfl | rfl | rfl | rfl | rfl : n = 0 ∨ n = 1 ∨ n = 2 ∨ n = 3 ∨ n = 4 := by omega
 · have := hq 0 (by omega); omega
 · have h0 := hq 0 (by omega)
   have h1 := hq 1 (by omega)
   have := hne 0 1 (by omega) (by omega)
   omega
 · have h0 := hq 0 (by omega)
   have h1 := hq 1 (by omega)
   have h2 := hq 2 (by omega)
   have := hne 0 1 (by omega) (by omega)
   have := hne 0 2 (by omega) (by omega)
   have := hne 1 2 (by omega) (by omega)
   omega
 · have h0 := hq 0 (by omega)
   have h1 := hq 1 (by omega)
   have h2 := hq 2 (by omega)
   have h3 := hq 3 (by omega)
   have := hne 0 1 (by omega) (by omega)
   have := hne 0 2 (by omega) (by omega)
   have := hne 0 3 (by omega) (by omega)
   have := hne 1 2 (by omega) (by omega)
   have := hne 1 3 (by omega) (by omega)
   have := hne 2 3 (by omega) (by omega)
   omega
 · have h0 := hq 0 (by omega)
   have h1 := hq 1 (by omega)
   have h2 := hq 2 (by omega)
   have h3 := hq 3 (by omega)
   have h4 := hq 4 (by omega)
   have n01 := hne 0 1 (by omega) (by omega)
   have n02 := hne 0 2 (by omega) (by omega)
   have n03 := hne 0 3 (by omega) (by omega)
   have n04 := hne 0 4 (by omega) (by omega)
   have n12 := hne 1 2 (by omega) (by omega)
   have n13 := hne 1 3 (by omega) (by omega)
   have n14 := hne 1 4 (by omega) (by omega)
   have n23 := hne 2 3 (by omega) (by omega)
   have n24 := hne 2 4 (by omega) (by omega)
   have n34 := hne 3 4 (by omega) (by omega)
   clear hne hs hc hq
   generalize q 0 = a at *
   generalize q 1 = b at *
   generalize q 2 = c at *
   generalize q 3 = d at *
   generalize q 4 = e at *
   obtain rfl | rfl | rfl | rfl : a = 0 ∨ a = 1 ∨ a = 2 ∨ a = 3 := by omega
   all_goals (obtain rfl | rfl | rfl | rfl : b = 0 ∨ b = 1 ∨ b = 2 ∨ b = 3 := by omega) <;> omega
def wayQ (rs : Rs) (k : Int) : Nat → Int
 | 0 => k
 | i + 1 => (rs (wayQ rs k i).toNat).via
theorem wayQ_shift (rs : Rs) (k : Int) (i : Nat) : wayQ rs (rs k.toNat).via i = wayQ rs k (i + 1) := by
 induction i with
 | zero => rfl
 | succ i ih => simp only [wayQ] at ih ⊢; rw [ih]
theorem thru_way (rs : Rs) (r : Int) (f : Nat) (k : Int) (hk : 0 ≤ k) : thru rs r f k = false ↔ ∃ i, i < f ∧ (∀ j, j ≤ i → wayQ rs k j ≠ r ∧ 0 ≤ wayQ rs k j) ∧ wayQ rs k (i + 1) < 0 := by
 induction f generalizing k with
 | zero => simp [thru]
 | succ f ih =>
  simp only [thru]
  by_cases h1 : k = r
  · rw [if_pos h1]
    constructor
    · intro h; cases h
    · rintro ⟨i, _, hj, _⟩; exact absurd h1 (hj 0 (Nat.zero_le _)).1
  rw [if_neg h1, if_neg (by omega)]
  by_cases h2 : (rs k.toNat).via < 0
  · rw [if_pos h2]
    constructor
    · intro _
      refine ⟨0, by omega, fun j hj => ?_, h2⟩
      obtain rfl : j = 0 := by omega
      exact ⟨h1, hk⟩
    · intro _; rfl
  rw [if_neg h2, ih _ (by omega)]
  constructor
  · rintro ⟨i, hi, hj, he⟩
    refine ⟨i + 1, by omega, fun j hj' => ?_, by rw [← wayQ_shift]; exact he⟩
    cases j with
    | zero => exact ⟨h1, hk⟩
    | succ j => rw [← wayQ_shift]; exact hj j (by omega)
  · rintro ⟨i, hi, hj, he⟩
    cases i with
    | zero => exact absurd he h2
    | succ i =>
     refine ⟨i, by omega, fun j hj' => ?_, by rw [wayQ_shift]; exact he⟩
     rw [wayQ_shift]; exact hj (j + 1) (by omega)
theorem thru_more (rs : Rs) (r : Int) (n : Nat) (k : Int) (hn : n ≤ 4) (hv : ∀ i, i < n → (rs i).via < n) (hk : 0 ≤ k) (hk2 : k < n) : thru rs r (n + 1) k = thru rs r n k := by
 have h : thru rs r (n + 1) k = false ↔ thru rs r n k = false := by
  rw [thru_way _ _ _ _ hk, thru_way _ _ _ _ hk]
  constructor
  · rintro ⟨i, hi, hj, he⟩
    by_cases e : i = n
    · subst e
      have hb : ∀ j, j ≤ i → 0 ≤ wayQ rs k j ∧ wayQ rs k j < i := by
       intro j
       induction j with
       | zero => intro _; exact ⟨hk, hk2⟩
       | succ j ih =>
        intro hj'
        refine ⟨(hj _ hj').2, ?_⟩
        have h1 := ih (by omega)
        exact hv _ (by omega)
      exact (hole (wayQ rs k) i hn hb (fun a b e => by simp only [wayQ]; rw [e]) he).elim
    · exact ⟨i, by omega, hj, he⟩
  · rintro ⟨i, hi, hj, he⟩
    exact ⟨i, by omega, hj, he⟩
 cases e1 : thru rs r (n + 1) k <;> cases e2 : thru rs r n k <;> simp_all
end Go.Proofs.YtaioffpkadmmhaaGreat.candHole
namespace Go.Proofs.YtaioffpkadmmhaaGreat.sceneList
open Go base netSem routeRow nbSem candSem sceneSem sceneCand candHole
set_option linter.unusedVariables false
theorem by_own (g : R) (nl : Nat) (o e : List Int) (x : R) (nx : Nat) (env : List Int) (ds : List Bool) (rs : Rs) (n : Nat) (router : Int) : (byVia g nl o e x nx env ds rs n router (-2)).toList = ownC o router := by
 unfold byVia openB ownC
 by_cases h : 0 ≤ hasAt o router <;> simp [h]
theorem by_ext (g : R) (nl : Nat) (o e : List Int) (x : R) (nx : Nat) (env : List Int) (ds : List Bool) (rs : Rs) (n : Nat) (router : Int) (he : ∀ i, 0 ≤ zAt env i) : (byVia g nl o e x nx env ds rs n router (-1)).toList = extC e env router := by
 unfold byVia openB extC annA
 by_cases h : 0 ≤ hasAt e router
 · have h0 := he (hasAt e router).toNat
   by_cases h2 : zAt env (hasAt e router).toNat = 0
   · simp [h, h2]
   · have h3 : 0 < zAt env (hasAt e router).toNat := by omega
     simp [h, h2, h3]
     by_cases h4 : zAt env (hasAt e router).toNat = 2 <;> simp [h4]
 · simp [h]
theorem by_nb (g : R) (nl : Nat) (o e : List Int) (x : R) (nx : Nat) (env : List Int) (ds : List Bool) (rs : Rs) (n : Nat) (router : Int) (k : Nat) (hk : k < n) (hn : n ≤ 4) (hv : ∀ i, i < n → (rs i).via < n) : (byVia g nl o e x nx env ds rs n router (k : Int)).toList = if nbB g nl ds router k then candOf g nl x nx rs n router k else [] := by
 unfold byVia openB candOf
 have e3 : ¬ ((k : Int) = -3) := by omega
 have e2 : ¬ ((k : Int) = -2) := by omega
 have e1 : ¬ ((k : Int) = -1) := by omega
 rw [if_neg e3, if_neg e2, if_neg e1, if_neg e3, if_neg e2, if_neg e1, thru_more rs router n k hn hv (by omega) (by omega), Int.toNat_natCast]
 cases nbB g nl ds router k with
 | false => simp
 | true =>
  by_cases h1 : (rs k).via = -3
  · simp [h1]
  · by_cases h2 : thru rs router n k = true
    · simp [h2]
    · simp [h1, h2]
      cases impR g nl x nx router k (rs k) <;> rfl
theorem lst_two (g : R) (nl : Nat) (o e : List Int) (x : R) (nx : Nat) (env : List Int) (ds : List Bool) (rs : Rs) (n : Nat) (router : Int) (hn : n ≤ 4) (hv : ∀ i, i < n → (rs i).via < n) (he : ∀ i, 0 ≤ zAt env i) : ∀ k, k ≤ n → lst g nl o e x nx env ds rs n router (k + 2) = ownC o router ++ extC e env router ++ (nbL g nl ds router k).flatMap (candOf g nl x nx rs n router)
 | 0, _ => by
  rw [lst_succ, lst_succ]
  have h0 : lst g nl o e x nx env ds rs n router 0 = [] := by simp [lst]
  rw [h0, show (((0 : Nat) : Int) - 2) = -2 from rfl, show (((0 + 1 : Nat) : Int) - 2) = -1 from rfl, by_own, by_ext _ _ _ _ _ _ _ _ _ _ _ he]
  simp [nbL]
 | k + 1, hk => by
  have ih := lst_two g nl o e x nx env ds rs n router hn hv he k (by omega)
  rw [show k + 1 + 2 = (k + 2) + 1 from rfl, lst_succ, ih, show (((k + 2 : Nat) : Int) - 2) = (k : Int) by omega, by_nb _ _ _ _ _ _ _ _ _ _ _ _ (by omega) hn hv, nbL_succ, List.flatMap_append, ← List.append_assoc]
  congr 1
  cases nbB g nl ds router k <;> simp
theorem lst_cand (g : R) (nl : Nat) (o e : List Int) (x : R) (nx : Nat) (env : List Int) (ds : List Bool) (rs : Rs) (n : Nat) (router : Int) (hn : n ≤ 4) (hv : ∀ i, i < n → (rs i).via < n) (he : ∀ i, 0 ≤ zAt env i) : lst g nl o e x nx env ds rs n router (n + 2) = candL g nl o e x nx env ds rs n router :=
 lst_two g nl o e x nx env ds rs n router hn hv he n (Nat.le_refl _)
end Go.Proofs.YtaioffpkadmmhaaGreat.sceneList
