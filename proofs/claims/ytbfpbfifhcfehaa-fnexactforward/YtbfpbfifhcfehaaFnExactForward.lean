/- For every network, flags, routes, router and port Forward answers as its specification (the outcome, the path and the code); the arguments are as they were, and the answer owns its memory; conditions: none. -/
import Derived.Test.YtbfpbfifhcfehaaForwardImpl
import Derived.Test.YtbfpbfifhcfehaaForwardSpec
import Derived.Test.YtbfpbfifhcfehaaWalkMark
import Derived.Test.YtbfpbfifhcfehaaNetMarks
import Derived.Test.YtbfpbfifhcfehaaNetArgs
import Derived.Test.YtbfpbfifhcfehaaRouteArgs
namespace Go.Proofs.Ytbfpbfifhcfehaa.fnExactForward
open Go.ChangeShapes Go.WideShapes Go.ChangeAt Go.RowKit Go.Deep Go.Joins base copy names netSem netCopy netWhole netOKImpl netOKSpec netArgs args intsOwn nbSem netMark routeRow walkSem routesB fwSem forwardImpl forwardSpec walkMark
set_option linter.unusedVariables false

theorem nil_ns {N : Nat → Nat} {a b g : Nat} (hu : N 0 < N 1 ∧ N 1 < N 2 ∧ N 2 < N 3 ∧ N 3 < N 4 ∧ N 4 < N 5) (h : g < N 0 ∨ N 5 < g) : ¬ Ns N g := by
  rintro ⟨i, hi, rfl⟩
  match i, hi with
  | 0, _ => omega
  | 1, _ => omega
  | 2, _ => omega
  | 3, _ => omega
  | 4, _ => omega
  | 5, _ => omega
  | i + 6, hi => omega
theorem ns_low {N : Nat → Nat} {M g : Nat} (hu : N 0 < N 1 ∧ N 1 < N 2 ∧ N 2 < N 3 ∧ N 3 < N 4 ∧ N 4 < N 5) (h : M ≤ N 0) (hg : Ns N g) : M ≤ g := by
  obtain ⟨i, hi, rfl⟩ := hg
  match i, hi with
  | 0, _ => omega
  | 1, _ => omega
  | 2, _ => omega
  | 3, _ => omega
  | 4, _ => omega
  | 5, _ => omega
  | i + 6, hi => omega

theorem box_of {w : World} {V : Nat} {x y : Value} {t : TypeId} (h : w.heap[V]? = some (.cells #[x, y] t (0, 0))) : w.cell? ⟨V, 0, none⟩ = some x ∧ w.cell? ⟨V, 1, none⟩ = some y ∧ V < w.heap.size := by
  refine ⟨?_, ?_, (Array.getElem?_eq_some_iff.1 h).1⟩
  · simp [World.cell?, h]
  · simp [World.cell?, h]
set_option maxHeartbeats 12800000 in
set_option maxRecDepth 8000 in
theorem walk (p : Nat → Option Addr) (l c : Nat → Nat) (s : Ss) (g : R) (o e : List Int) (x f : R) (da ra : Option Addr) (dl dc rl rc : Nat) (ds : List Bool) (rs : Rs) (fr port : Int) (w : World) (h : NetIs w p l s g o e x f) (hd : BoolRow w da dl ds) (hr : RtRow w ra rl rs) :
    Calls Try.prog 4 #[netV p l c, .slice da dl dc, .slice ra rl rc, .int .i64 fr, .int .i64 port] w fun e' w' => e' = .returned (.bool true) ∧ Below w.heap.size w w' := by
  have HN := hid h
  have HD := hid hd
  have HT := hid hr
  have HDn := hid hd.length
  have md := hd.most
  have mr := hr.most
  have MR := hid mr
  unfold maxLen at md mr
  have HM : Hid (∀ i, i < 6 → l i ≤ maxLen) := fun i hi => by
    match i, hi with
    | 0, _ => exact h.routers.most
    | 1, _ => exact h.links.most
    | 2, _ => exact h.origins.most
    | 3, _ => exact h.externals.most
    | 4, _ => exact h.imports.most
    | 5, _ => exact h.filters.most
    | i + 6, hi => exact absurd hi (by omega)
  have HS := hid h.routers.size
  have HO := hid h.origins.length
  have HE := hid h.externals.length
  clear h hd hr
  have C1 : ∀ w8 : World, Below ((w.alloc (.cells #[.slice (p 0) (l 0) (c 0), .slice (p 1) (l 1) (c 1), .slice (p 2) (l 2) (c 2), .slice (p 3) (l 3) (c 3), .slice (p 4) (l 4) (c 4), .slice (p 5) (l 5) (c 5)] 28))).heap.size (w.alloc (.cells #[.slice (p 0) (l 0) (c 0), .slice (p 1) (l 1) (c 1), .slice (p 2) (l 2) (c 2), .slice (p 3) (l 3) (c 3), .slice (p 4) (l 4) (c 4), .slice (p 5) (l 5) (c 5)] 28)) w8 → (w8.cell? ⟨w.heap.size, 0, none⟩ = some (.slice (p 0) (l 0) (c 0)) ∧ w8.cell? ⟨w.heap.size, 1, none⟩ = some (.slice (p 1) (l 1) (c 1)) ∧ w8.cell? ⟨w.heap.size, 2, none⟩ = some (.slice (p 2) (l 2) (c 2)) ∧ w8.cell? ⟨w.heap.size, 3, none⟩ = some (.slice (p 3) (l 3) (c 3)) ∧ w8.cell? ⟨w.heap.size, 4, none⟩ = some (.slice (p 4) (l 4) (c 4)) ∧ w8.cell? ⟨w.heap.size, 5, none⟩ = some (.slice (p 5) (l 5) (c 5))) ∧ NetIs w8 p l s g o e x f ∧ BoolRow w8 da dl ds ∧ RtRow w8 ra rl rs ∧ Below w.heap.size w w8 ∧ w.heap.size < w8.heap.size :=
    fun w8 hb => ⟨⟨keep hb (by simp [go_sem]), keep hb (by simp [go_sem]), keep hb (by simp [go_sem]), keep hb (by simp [go_sem]), keep hb (by simp [go_sem]), keep hb (by simp [go_sem])⟩, (HN.out.below (by repeat (first | exact Below.refl _ _ | assumption | refine Below.drew ?_ | refine Below.alloc ?_ (by first | exact Nat.le_refl _ | omega | (simp; done) | (simp; omega)) _ | refine Below.setCell ?_ (by first | exact Nat.le_refl _ | omega | (simp; done) | (simp; omega)) _))).below hb, (HD.out.below (by repeat (first | exact Below.refl _ _ | assumption | refine Below.drew ?_ | refine Below.alloc ?_ (by first | exact Nat.le_refl _ | omega | (simp; done) | (simp; omega)) _ | refine Below.setCell ?_ (by first | exact Nat.le_refl _ | omega | (simp; done) | (simp; omega)) _))).below hb, (HT.out.below (by repeat (first | exact Below.refl _ _ | assumption | refine Below.drew ?_ | refine Below.alloc ?_ (by first | exact Nat.le_refl _ | omega | (simp; done) | (simp; omega)) _ | refine Below.setCell ?_ (by first | exact Nat.le_refl _ | omega | (simp; done) | (simp; omega)) _))).below hb, (show Below w.heap.size w _ from (by repeat (first | exact Below.refl _ _ | assumption | refine Below.drew ?_ | refine Below.alloc ?_ (by first | exact Nat.le_refl _ | omega | (simp; done) | (simp; omega)) _ | refine Below.setCell ?_ (by first | exact Nat.le_refl _ | omega | (simp; done) | (simp; omega)) _))).trans (hb.mono (by simp)), Nat.lt_of_lt_of_le (by simp) hb.size⟩
  have HC1 := hid C1
  clear C1
  have HAl := hid (fwP_small l s g o e x f dl rl ds rs fr port (l 5))
  obtain ⟨C, hC⟩ : ∃ C, fC l s g o e x f dl rl ds rs fr port = C := ⟨_, rfl⟩
  have EC := hid hC
  rw [hC] at HAl
  obtain ⟨A, hA⟩ : ∃ A, fwP C rs f (l 5) port rl fr = A := ⟨_, rfl⟩
  obtain ⟨O, hO⟩ : ∃ O, fwO C rs f (l 5) port rl fr = O := ⟨_, rfl⟩
  have EA := hid hA
  have EO := hid hO
  rw [hA] at HAl
  have hdA : decide (A = A) = true := decide_eq_true rfl
  have hdD : decide (ds = ds) = true := decide_eq_true rfl
  have hqC : (C != C) = false := by simp
  clear hC hA hO
  unfold netV
  by_cases hbig : 1048576 < dl
  · have d1 : decide ((1048576 : Int) < (dl : Int)) = true := decide_eq_true (by omega)
    go_enter Try.func4, Try.ntmps4
    go_wp2
    go_ret
    exact ⟨rfl, (by repeat (first | exact Below.refl _ _ | assumption | refine Below.drew ?_ | refine Below.alloc ?_ (by first | exact Nat.le_refl _ | omega | (simp; done) | (simp; omega)) _ | refine Below.setCell ?_ (by first | exact Nat.le_refl _ | omega | (simp; done) | (simp; omega)) _))⟩
  have d1 : decide ((1048576 : Int) < (dl : Int)) = false := decide_eq_false (by omega)
  have hdl : dl ≤ 1048576 := by omega
  go_enter Try.func4, Try.ntmps4
  go_wp2_with fail
  refine (szNet p l c s g o e x f 1048576 _ (HN.out.below (by repeat (first | exact Below.refl _ _ | assumption | refine Below.drew ?_ | refine Below.alloc ?_ (by first | exact Nat.le_refl _ | omega | (simp; done) | (simp; omega)) _ | refine Below.setCell ?_ (by first | exact Nat.le_refl _ | omega | (simp; done) | (simp; omega)) _))) (by omega) (by omega)).mono ?_
  rintro e' w1 ⟨r, rfl, hb, hr1, hr2, hr3⟩
  have H3 := hid hr3
  have HB := hid hb
  obtain ⟨⟨q0, q1, q2, q3, q4, q5⟩, hn, hd, ht, hB, hz⟩ := HC1.out w1 hb
  have NW := hid hn
  have DW := hid hd
  have TW := hid ht
  clear hr3 hn hd ht
  by_cases hneg : r < 0
  · clear hb
    go_wp2
    go_ret
    exact ⟨rfl, hB⟩
  have HL := hid (H3.out (by omega))
  go_wp2_with fail
  refine (szRouteS ra rl rc r _ MR.out (by omega) (by omega)).mono ?_
  rintro e' w1q ⟨rfl, hw⟩
  have hw := hw.symm
  subst hw
  by_cases hneg2 : r < (rl : Int)
  · rw [if_pos hneg2]
    clear hb
    go_wp2
    go_ret
    exact ⟨rfl, hB⟩
  rw [if_neg hneg2]
  have hrl : rl ≤ 1048576 := by omega
  have hneg3 : decide (r - (rl : Int) < 0) = false := decide_eq_false (by omega)
  have hA0 : A.length ≤ 1048576 := Nat.le_trans HAl.out (by decide)
  clear hb hB hneg2

  go_wp2_with fail
  refine (toNet p l c s g o e x f _ NW.out HL.out).mono ?_
  rintro e' w2 ⟨Na, rfl, hb, hc⟩
  have HB := hid (HB.out.trans (hb.mono HB.out.size))
  clear q0 q1 q2 q3 q4 q5 hz NW DW TW
  obtain ⟨⟨q0, q1, q2, q3, q4, q5⟩, hn, hd, ht, -, hz⟩ := HC1.out w2 HB.out
  have NW := hid hn
  have DW := hid hd
  have TW := hid ht
  clear hn hd ht
  have CA := hid (hc.net HM.out HS.out HO.out HE.out)
  clear hc hb
  unfold netV
  go_wp2_with fail
  refine (toBoolN da dl dc ds _ DW.out hdl).mono ?_
  rintro e' w3 ⟨Ma, rfl, -, hb, -, hr⟩
  have HB := hid (HB.out.trans (hb.mono HB.out.size))
  have CA := hid (CA.out.below hb)
  clear q0 q1 q2 q3 q4 q5 hz NW DW TW
  obtain ⟨⟨q0, q1, q2, q3, q4, q5⟩, hn, hd, ht, -, hz⟩ := HC1.out w3 HB.out
  have NW := hid hn
  have DW := hid hd
  have TW := hid ht
  clear hn hd ht
  have RA := hid hr
  clear hr hb
  go_wp2_with fail
  refine (toRouteS ra rl rc rs _ TW.out hrl).mono ?_
  rintro e' w4 ⟨Ta, rfl, -, hb, hr⟩
  have HB := hid (HB.out.trans (hb.mono HB.out.size))
  have CA := hid (CA.out.below hb)
  have RA := hid (RA.out.below hb)
  clear q0 q1 q2 q3 q4 q5 hz NW DW TW
  obtain ⟨⟨q0, q1, q2, q3, q4, q5⟩, hn, hd, ht, -, hz⟩ := HC1.out w4 HB.out
  have NW := hid hn
  have DW := hid hd
  have TW := hid ht
  clear hn hd ht
  have TA := hid (hr.is MR.out)
  clear hr hb
  go_wp2_with fail
  refine (forward_spec (fun i => some ⟨Na i, 0, none⟩) l l s g o e x f (some ⟨Ma, 0, none⟩) (some ⟨Ta, 0, none⟩) dl dl rl rl ds rs fr port _ CA.out (Nat.le_refl _) (Nat.le_refl _) RA.out TA.out).mono ?_
  rintro e' w5 ⟨X, rfl, ho, hb⟩
  rw [EC.out, EO.out]
  rw [EC.out, EA.out] at ho
  have HB := hid (HB.out.trans (hb.mono HB.out.size))
  clear q0 q1 q2 q3 q4 q5 hz NW DW TW
  obtain ⟨⟨q0, q1, q2, q3, q4, q5⟩, hn, hd, ht, -, hz⟩ := HC1.out w5 HB.out
  have NW := hid hn
  have DW := hid hd
  have TW := hid ht
  clear hn hd ht
  have OX := hid ho
  have LX := hid (fun g (hg : X.ownBlock = some g) => (own_lt ho hg).2)
  obtain ⟨ax, cx, rfl, -⟩ := ho.form
  clear ho hb CA RA TA
  have HB5s := hid HB.out.size
  go_wp2_with fail
  have HA5 : Hid (Below w5.heap.size w5 (w5.alloc (.cells #[.int .i64 O, .slice ax A.length cx] 47))) := (by repeat (first | exact Below.refl _ _ | assumption | refine Below.drew ?_ | refine Below.alloc ?_ (by first | exact Nat.le_refl _ | omega | (simp; done) | (simp; omega)) _ | refine Below.setCell ?_ (by first | exact Nat.le_refl _ | omega | (simp; done) | (simp; omega)) _))
  have hW0 : (w5.alloc (.cells #[.int .i64 O, .slice ax A.length cx] 47)).heap[w5.heap.size]? = some (.cells #[.int .i64 O, .slice ax A.length cx] 47 (0, 0)) := heap_alloc_new _ _
  refine (toNet p l c s g o e x f _ (NW.out.below HA5.out) HL.out).mono ?_
  rintro e' w6 ⟨Nb, rfl, hb6, hc⟩
  have hb : Below w5.heap.size w5 w6 := HA5.out.trans (hb6.mono (by simp))
  have W0 : Hid (w6.heap[w5.heap.size]? = some (.cells #[.int .i64 O, .slice ax A.length cx] 47 (0, 0))) := (hb6.block _ (by simp)).trans hW0
  have HB := hid (HB.out.trans (hb.mono HB.out.size))
  have OX := hid (OX.out.below hb)
  clear q0 q1 q2 q3 q4 q5 hz NW DW TW
  obtain ⟨⟨q0, q1, q2, q3, q4, q5⟩, hn, hd, ht, -, hz⟩ := HC1.out w6 HB.out
  have NW := hid hn
  have DW := hid hd
  have TW := hid ht
  clear hn hd ht
  have CB := hid hc
  have NL := hid (And.intro (show w5.heap.size + 1 ≤ Nb 0 by have := hc.low; simpa using this) (And.intro hc.up hc.lt))
  clear hc hb hb6 hW0 HA5
  unfold netV
  go_wp2_with fail
  have HA6 : Hid (Below w6.heap.size w6 (w6.alloc (.cells #[.slice (some ⟨Nb 0, 0, none⟩) (l 0) (l 0), .slice (some ⟨Nb 1, 0, none⟩) (l 1) (l 1), .slice (some ⟨Nb 2, 0, none⟩) (l 2) (l 2), .slice (some ⟨Nb 3, 0, none⟩) (l 3) (l 3), .slice (some ⟨Nb 4, 0, none⟩) (l 4) (l 4), .slice (some ⟨Nb 5, 0, none⟩) (l 5) (l 5)] 37))) := (by repeat (first | exact Below.refl _ _ | assumption | refine Below.drew ?_ | refine Below.alloc ?_ (by first | exact Nat.le_refl _ | omega | (simp; done) | (simp; omega)) _ | refine Below.setCell ?_ (by first | exact Nat.le_refl _ | omega | (simp; done) | (simp; omega)) _))
  refine (toBoolN da dl dc ds _ (DW.out.below HA6.out) hdl).mono ?_
  rintro e' w7 ⟨Mb, rfl, hMb, hb7, hrow, hr⟩
  have hb : Below w6.heap.size w6 w7 := HA6.out.trans (hb7.mono (by simp))
  have ML : Hid (w6.heap.size < Mb ∧ Mb < w7.heap.size) := ⟨by simp at hMb; omega, hrow.lt⟩
  have XC : Hid (∀ w8 : World, (∀ o v, w7.cell? ⟨w6.heap.size, o, none⟩ = some v → w8.cell? ⟨w6.heap.size, o, none⟩ = some v) → (w8.cell? ⟨w6.heap.size, 0, none⟩ = some (.slice (some ⟨Nb 0, 0, none⟩) (l 0) (l 0)) ∧ w8.cell? ⟨w6.heap.size, 1, none⟩ = some (.slice (some ⟨Nb 1, 0, none⟩) (l 1) (l 1)) ∧ w8.cell? ⟨w6.heap.size, 2, none⟩ = some (.slice (some ⟨Nb 2, 0, none⟩) (l 2) (l 2)) ∧ w8.cell? ⟨w6.heap.size, 3, none⟩ = some (.slice (some ⟨Nb 3, 0, none⟩) (l 3) (l 3)) ∧ w8.cell? ⟨w6.heap.size, 4, none⟩ = some (.slice (some ⟨Nb 4, 0, none⟩) (l 4) (l 4)) ∧ w8.cell? ⟨w6.heap.size, 5, none⟩ = some (.slice (some ⟨Nb 5, 0, none⟩) (l 5) (l 5)))) :=
    fun w8 hk => ⟨hk _ _ (keep hb7 (by simp [go_sem])), hk _ _ (keep hb7 (by simp [go_sem])), hk _ _ (keep hb7 (by simp [go_sem])), hk _ _ (keep hb7 (by simp [go_sem])), hk _ _ (keep hb7 (by simp [go_sem])), hk _ _ (keep hb7 (by simp [go_sem]))⟩
  have HB := hid (HB.out.trans (hb.mono HB.out.size))
  have OX := hid (OX.out.below hb)
  have CB := hid (CB.out.below hb)
  have W0 := hid ((hb.block _ (Array.getElem?_eq_some_iff.1 W0.out).1).trans W0.out)
  clear q0 q1 q2 q3 q4 q5 hz NW DW TW
  obtain ⟨⟨q0, q1, q2, q3, q4, q5⟩, hn, hd, ht, -, hz⟩ := HC1.out w7 HB.out
  have NW := hid hn
  have DW := hid hd
  have TW := hid ht
  clear hn hd ht
  have RB := hid hr
  have RW := hid hrow
  clear hr hrow hb7 hMb hb HA6
  have XK : Hid (∀ o v, w7.cell? ⟨w6.heap.size, o, none⟩ = some v → w7.cell? ⟨w6.heap.size, o, none⟩ = some v) := fun _ _ h => h
  go_wp2_with fail
  refine (toRouteS ra rl rc rs _ TW.out hrl).mono ?_
  rintro e' w8 ⟨Tb, rfl, hTb, hb, hr⟩
  have TL : Hid (w7.heap.size ≤ Tb ∧ Tb < w8.heap.size) := ⟨hTb, by obtain ⟨f, hf, -⟩ := hr.row; exact hf.lt⟩
  have HB := hid (HB.out.trans (hb.mono HB.out.size))
  have OX := hid (OX.out.below hb)
  have CB := hid (CB.out.below hb)
  have W0 := hid ((hb.block _ (Array.getElem?_eq_some_iff.1 W0.out).1).trans W0.out)
  have RB := hid (RB.out.below hb)
  have RW := hid (RW.out.of_block (hb.block _ RW.out.lt))
  have XK := hid (fun o v (h : w7.cell? ⟨w6.heap.size, o, none⟩ = some v) => keep hb (XK.out o v h))
  clear q0 q1 q2 q3 q4 q5 hz NW DW TW
  obtain ⟨⟨q0, q1, q2, q3, q4, q5⟩, hn, hd, ht, -, hz⟩ := HC1.out w8 HB.out
  have NW := hid hn
  have DW := hid hd
  have TW := hid ht
  clear hn hd ht
  have TB := hid hr
  clear hr hb hTb
  obtain ⟨x0, x1, x2, x3, x4, x5⟩ := XC.out w8 XK.out
  have z68 : w6.heap.size < w8.heap.size := by have := ML.out; have := TL.out; omega
  have CN := hid (CB.out.net HM.out HS.out HO.out HE.out)
  have TN := hid (TB.out.is MR.out)
  go_wp2_with fail
  refine (forward_impl (fun i => some ⟨Nb i, 0, none⟩) l l s g o e x f (some ⟨Mb, 0, none⟩) (some ⟨Tb, 0, none⟩) dl dl rl rl ds rs fr port _ CN.out (Nat.le_refl _) (Nat.le_refl _) RB.out TN.out).mono ?_
  rintro e' w9 ⟨Y, rfl, ho, hb⟩
  rw [EC.out, EO.out]
  rw [EC.out, EA.out] at ho
  clear CN TN x0 x1 x2 x3 x4 x5
  have HB := hid (HB.out.trans (hb.mono HB.out.size))
  have OX := hid (OX.out.below hb)
  have CB := hid (CB.out.below hb)
  have W0 := hid ((hb.block _ (Array.getElem?_eq_some_iff.1 W0.out).1).trans W0.out)
  have RB := hid (RB.out.below hb)
  have RW := hid (RW.out.of_block (hb.block _ RW.out.lt))
  have XK := hid (fun o v (h : w7.cell? ⟨w6.heap.size, o, none⟩ = some v) => keep hb (XK.out o v h))
  have TB := hid (TB.out.below hb)
  clear q0 q1 q2 q3 q4 q5 hz NW DW TW
  obtain ⟨⟨q0, q1, q2, q3, q4, q5⟩, hn, hd, ht, -, hz⟩ := HC1.out w9 HB.out
  have NW := hid hn
  have DW := hid hd
  have TW := hid ht
  clear hn hd ht
  have OY := hid ho
  have GY := hid (fun g (hg : Y.ownBlock = some g) => own_lt ho hg)
  obtain ⟨ay, cy, rfl, -⟩ := ho.form
  have Z69 := hid (Nat.lt_of_lt_of_le z68 hb.size)
  have Z89 := hid hb.size
  clear ho hb z68
  obtain ⟨u0, u1, u2⟩ := box_of W0.out
  go_wp2_with fail
  have HA9 : Hid (Below w9.heap.size w9 (w9.alloc (.cells #[.int .i64 O, .slice ay A.length cy] 47))) := (by repeat (first | exact Below.refl _ _ | assumption | refine Below.drew ?_ | refine Below.alloc ?_ (by first | exact Nat.le_refl _ | omega | (simp; done) | (simp; omega)) _ | refine Below.setCell ?_ (by first | exact Nat.le_refl _ | omega | (simp; done) | (simp; omega)) _))
  have hG0 : (w9.alloc (.cells #[.int .i64 O, .slice ay A.length cy] 47)).heap[w9.heap.size]? = some (.cells #[.int .i64 O, .slice ay A.length cy] 47 (0, 0)) := heap_alloc_new _ _
  refine (eq_walk O ay ax A.length cy cx A _ (row_of_own (OY.out.below HA9.out)) (row_of_own (OX.out.below HA9.out))).mono ?_
  rintro e' w10 ⟨rfl, hb10⟩
  have hb : Below w9.heap.size w9 w10 := HA9.out.trans (hb10.mono (by simp))
  have G0 : Hid (w10.heap[w9.heap.size]? = some (.cells #[.int .i64 O, .slice ay A.length cy] 47 (0, 0))) := (hb10.block _ (by simp)).trans hG0
  clear u0 u1 u2
  have HB := hid (HB.out.trans (hb.mono HB.out.size))
  have OX := hid (OX.out.below hb)
  have CB := hid (CB.out.below hb)
  have W0 := hid ((hb.block _ (Array.getElem?_eq_some_iff.1 W0.out).1).trans W0.out)
  have RB := hid (RB.out.below hb)
  have RW := hid (RW.out.of_block (hb.block _ RW.out.lt))
  have XK := hid (fun o v (h : w7.cell? ⟨w6.heap.size, o, none⟩ = some v) => keep hb (XK.out o v h))
  have TB := hid (TB.out.below hb)
  have OY := hid (OY.out.below hb)
  clear q0 q1 q2 q3 q4 q5 hz NW DW TW
  obtain ⟨⟨q0, q1, q2, q3, q4, q5⟩, hn, hd, ht, -, hz⟩ := HC1.out w10 HB.out
  have NW := hid hn
  have DW := hid hd
  have TW := hid ht
  clear hn hd ht
  have Z10 := hid (Nat.lt_of_lt_of_le Z69.out hb.size)
  clear hb hb10 hG0 HA9
  obtain ⟨x0, x1, x2, x3, x4, x5⟩ := XC.out w10 XK.out
  have zz := Z10.out
  have CN := hid (CB.out.net HM.out HS.out HO.out HE.out)
  go_wp2_with fail
  go_region_with (first
    | (go_at_call 7; refine (toNet p l c s g o e x f _ (NW.out.below (Below.refl _ w10).drew) HL.out).mono ?_; rintro e' w11 ⟨N9, rfl, hb9, hc9⟩; have hb9' : Below w10.heap.size w10 w11 := ((Below.refl _ w10).drew).trans hb9; obtain ⟨x0, x1, x2, x3, x4, x5⟩ := XC.out w11 (fun o v h => keep hb9' (XK.out o v h)); clear hb9)
    | (go_at_call 10; refine (eqNet (fun i => some ⟨Nb i, 0, none⟩) (fun i => some ⟨N9 i, 0, none⟩) l l l s g o e x f _ (CN.out.below hb9') (hc9.net HM.out HS.out HO.out HE.out)).mono ?_; rintro e' w12 ⟨rfl, hb12⟩))
  all_goals
    have hb : Below w10.heap.size w10 w12 := hb9'.trans (hb12.mono hb9'.size)
    clear hb9' hb12 hc9 CN x0 x1 x2 x3 x4 x5 zz
    have HB := hid (HB.out.trans (hb.mono HB.out.size))
    have OX := hid (OX.out.below hb)
    have CB := hid (CB.out.below hb)
    have W0 := hid ((hb.block _ (Array.getElem?_eq_some_iff.1 W0.out).1).trans W0.out)
    have RB := hid (RB.out.below hb)
    have RW := hid (RW.out.of_block (hb.block _ RW.out.lt))
    have XK := hid (fun o v (h : w7.cell? ⟨w6.heap.size, o, none⟩ = some v) => keep hb (XK.out o v h))
    have TB := hid (TB.out.below hb)
    have OY := hid (OY.out.below hb)
    have G0 := hid ((hb.block _ (Array.getElem?_eq_some_iff.1 G0.out).1).trans G0.out)
    clear q0 q1 q2 q3 q4 q5 hz NW DW TW
    obtain ⟨⟨q0, q1, q2, q3, q4, q5⟩, hn, hd, ht, -, hz⟩ := HC1.out w12 HB.out
    have NW := hid hn
    have DW := hid hd
    have TW := hid ht
    clear hn hd ht
    have Z12 := hid (Nat.lt_of_lt_of_le Z10.out hb.size)
    clear hb
    go_wp2_with fail
    refine (toBoolN da dl dc ds _ DW.out hdl).mono ?_
    rintro e' w13 ⟨Mc, rfl, -, hb, -, hr⟩
    have HB := hid (HB.out.trans (hb.mono HB.out.size))
    have OX := hid (OX.out.below hb)
    have CB := hid (CB.out.below hb)
    have W0 := hid ((hb.block _ (Array.getElem?_eq_some_iff.1 W0.out).1).trans W0.out)
    have RB := hid (RB.out.below hb)
    have RW := hid (RW.out.of_block (hb.block _ RW.out.lt))
    have XK := hid (fun o v (h : w7.cell? ⟨w6.heap.size, o, none⟩ = some v) => keep hb (XK.out o v h))
    have TB := hid (TB.out.below hb)
    have OY := hid (OY.out.below hb)
    have G0 := hid ((hb.block _ (Array.getElem?_eq_some_iff.1 G0.out).1).trans G0.out)
    clear q0 q1 q2 q3 q4 q5 hz NW DW TW
    obtain ⟨⟨q0, q1, q2, q3, q4, q5⟩, hn, hd, ht, -, hz⟩ := HC1.out w13 HB.out
    have NW := hid hn
    have DW := hid hd
    have TW := hid ht
    clear hn hd ht
    have RC := hid hr
    have Z13 := hid (Nat.lt_of_lt_of_le Z12.out hb.size)
    clear hr hb
    go_wp2_with fail
    refine (eqBoolS _ _ _ _ _ _ ds ds _ RB.out RC.out).mono ?_
    rintro e' w14 ⟨rfl, n14, rfl⟩
    have hb : Below w13.heap.size w13 (w13.drewN n14) := below_drewN _ _
    generalize w13.drewN n14 = w14 at *
    have HB := hid (HB.out.trans (hb.mono HB.out.size))
    have OX := hid (OX.out.below hb)
    have CB := hid (CB.out.below hb)
    have W0 := hid ((hb.block _ (Array.getElem?_eq_some_iff.1 W0.out).1).trans W0.out)
    have RB := hid (RB.out.below hb)
    have RW := hid (RW.out.of_block (hb.block _ RW.out.lt))
    have XK := hid (fun o v (h : w7.cell? ⟨w6.heap.size, o, none⟩ = some v) => keep hb (XK.out o v h))
    have TB := hid (TB.out.below hb)
    have OY := hid (OY.out.below hb)
    have G0 := hid ((hb.block _ (Array.getElem?_eq_some_iff.1 G0.out).1).trans G0.out)
    clear q0 q1 q2 q3 q4 q5 hz NW DW TW
    obtain ⟨⟨q0, q1, q2, q3, q4, q5⟩, hn, hd, ht, -, hz⟩ := HC1.out w14 HB.out
    have NW := hid hn
    have DW := hid hd
    have TW := hid ht
    clear hn hd ht
    have Z14 := hid (Nat.lt_of_lt_of_le Z13.out hb.size)
    clear hb RC
    go_wp2_with fail
    refine (toRouteS ra rl rc rs _ TW.out hrl).mono ?_
    rintro e' w15 ⟨Tc, rfl, -, hb, hr⟩
    have HB := hid (HB.out.trans (hb.mono HB.out.size))
    have OX := hid (OX.out.below hb)
    have CB := hid (CB.out.below hb)
    have W0 := hid ((hb.block _ (Array.getElem?_eq_some_iff.1 W0.out).1).trans W0.out)
    have RB := hid (RB.out.below hb)
    have RW := hid (RW.out.of_block (hb.block _ RW.out.lt))
    have XK := hid (fun o v (h : w7.cell? ⟨w6.heap.size, o, none⟩ = some v) => keep hb (XK.out o v h))
    have TB := hid (TB.out.below hb)
    have OY := hid (OY.out.below hb)
    have G0 := hid ((hb.block _ (Array.getElem?_eq_some_iff.1 G0.out).1).trans G0.out)
    clear q0 q1 q2 q3 q4 q5 hz NW DW TW
    obtain ⟨⟨q0, q1, q2, q3, q4, q5⟩, hn, hd, ht, -, hz⟩ := HC1.out w15 HB.out
    have NW := hid hn
    have DW := hid hd
    have TW := hid ht
    clear hn hd ht
    have TC := hid (hr.is MR.out)
    have Z15 := hid (Nat.lt_of_lt_of_le Z14.out hb.size)
    clear hr hb
    have TN := hid (TB.out.is MR.out)
    go_wp2_with fail
    refine (eqRouteS _ _ rl rl rl rs _ TN.out TC.out).mono ?_
    rintro e' w16 ⟨rfl, hb⟩
    have HB := hid (HB.out.trans (hb.mono HB.out.size))
    have OX := hid (OX.out.below hb)
    have CB := hid (CB.out.below hb)
    have W0 := hid ((hb.block _ (Array.getElem?_eq_some_iff.1 W0.out).1).trans W0.out)
    have RB := hid (RB.out.below hb)
    have RW := hid (RW.out.of_block (hb.block _ RW.out.lt))
    have XK := hid (fun o v (h : w7.cell? ⟨w6.heap.size, o, none⟩ = some v) => keep hb (XK.out o v h))
    have TB := hid (TB.out.below hb)
    have OY := hid (OY.out.below hb)
    have G0 := hid ((hb.block _ (Array.getElem?_eq_some_iff.1 G0.out).1).trans G0.out)
    clear q0 q1 q2 q3 q4 q5 hz NW DW TW
    obtain ⟨⟨q0, q1, q2, q3, q4, q5⟩, hn, hd, ht, -, hz⟩ := HC1.out w16 HB.out
    have NW := hid hn
    have DW := hid hd
    have TW := hid ht
    clear hn hd ht
    have Z16 := hid (Nat.lt_of_lt_of_le Z15.out hb.size)
    clear hb TC TN
    obtain ⟨x0, x1, x2, x3, x4, x5⟩ := XC.out w16 XK.out
    have zz := Z16.out
    have OYs := hid (fun g (hg : (Value.slice ay A.length cy).ownBlock = some g) => own_lt OY.out hg)
    go_wp2_with fail
    refine (mark_net _ Nb l s g o e x f _ CB.out HL.out).mono ?_
    rintro e' w17 ⟨r17, rfl, hr17, hr17', hch⟩
    clear x0 x1 x2 x3 x4 x5 zz
    have nX : Hid (∀ g, (Value.slice ax A.length cx).ownBlock = some g → ¬ Ns Nb g) := fun g hg => nil_ns (a := 0) (b := 0) NL.out.2.1 (.inl (by have := LX.out g hg; have := NL.out; omega))
    have nY : Hid (∀ g, (Value.slice ay A.length cy).ownBlock = some g → ¬ Ns Nb g) := fun g hg => nil_ns (a := 0) (b := 0) NL.out.2.1 (.inr (by have := GY.out g hg; have := NL.out; have := ML.out; have := TL.out; omega))
    have nM : Hid (¬ Ns Nb Mb) := nil_ns (a := 0) (b := 0) NL.out.2.1 (.inr (by have := NL.out; have := ML.out; omega))
    have nT : Hid (¬ Ns Nb Tb) := nil_ns (a := 0) (b := 0) NL.out.2.1 (.inr (by have := NL.out; have := ML.out; have := TL.out; omega))
    have nW : Hid (¬ Ns Nb w5.heap.size) := nil_ns (a := 0) (b := 0) NL.out.2.1 (.inl (by have := NL.out; omega))
    have nG : Hid (¬ Ns Nb w9.heap.size) := nil_ns (a := 0) (b := 0) NL.out.2.1 (.inr (by have := NL.out; have := Z69.out; omega))
    have HB := hid (Ch.below HB.out hch (fun b hb => Nat.le_trans HB5s.out (ns_low NL.out.2.1 (by have := NL.out; omega) hb)))
    have OX := hid (hch.own OX.out nX.out)
    have OY := hid (hch.own OY.out nY.out)
    have RW := hid (RW.out.of_block (hch.block _ RW.out.lt nM.out))
    have TR : Hid (∃ f, w17.rowIs Tb 82 (rl * 4) f) := by
      obtain ⟨f, hf, -⟩ := TB.out.row
      exact ⟨f, hf.of_block (hch.block _ hf.lt nT.out)⟩
    have W0 := hid ((hch.block _ (Array.getElem?_eq_some_iff.1 W0.out).1 nW.out).trans W0.out)
    have G0 := hid ((hch.block _ (Array.getElem?_eq_some_iff.1 G0.out).1 nG.out).trans G0.out)
    clear CB RB XK TB hch nM nT nW nG nX nY
    clear q0 q1 q2 q3 q4 q5 hz NW DW TW
    obtain ⟨⟨q0, q1, q2, q3, q4, q5⟩, hn, hd, ht, -, hz⟩ := HC1.out w17 HB.out
    have NW := hid hn
    have DW := hid hd
    have TW := hid ht
    clear hn hd ht
    go_wp2_with fail
    refine (mark_bool Mb dl r17 _ ⟨_, RW.out⟩ (by omega) (by omega) hdl).mono ?_
    rintro e' w18 ⟨rfl, hg⟩
    have HB : Hid (Below (w.alloc (.cells #[.slice (p 0) (l 0) (c 0), .slice (p 1) (l 1) (c 1), .slice (p 2) (l 2) (c 2), .slice (p 3) (l 3) (c 3), .slice (p 4) (l 4) (c 4), .slice (p 5) (l 5) (c 5)] 28)).heap.size (w.alloc (.cells #[.slice (p 0) (l 0) (c 0), .slice (p 1) (l 1) (c 1), .slice (p 2) (l 2) (c 2), .slice (p 3) (l 3) (c 3), .slice (p 4) (l 4) (c 4), .slice (p 5) (l 5) (c 5)] 28)) w18) := HB.out.grown hg HB.out.size (fun k hk => by injection hk with hk; subst hk; have := HB5s.out; have := NL.out; have := ML.out; omega)
    have OX := hid (own_grown OX.out hg (fun g hg' e => by injection e with e; subst e; have := LX.out _ hg'; have := ML.out; have := NL.out; omega))
    have OY := hid (own_grown OY.out hg (fun g hg' e => by injection e with e; subst e; have := GY.out _ hg'; have := ML.out; have := TL.out; omega))
    have TR : Hid (∃ f, w18.rowIs Tb 82 (rl * 4) f) := by
      obtain ⟨f, hf⟩ := TR.out
      exact ⟨f, hf.of_block (hg.block _ hf.lt (fun e => by injection e with e; have := ML.out; have := TL.out; omega))⟩
    have W0 := hid ((hg.block _ (Array.getElem?_eq_some_iff.1 W0.out).1 (fun e => by injection e with e; have := ML.out; have := NL.out; omega)).trans W0.out)
    have G0 := hid ((hg.block _ (Array.getElem?_eq_some_iff.1 G0.out).1 (fun e => by injection e with e; have := ML.out; have := TL.out; have := Z89.out; omega)).trans G0.out)
    clear RW hg
    clear q0 q1 q2 q3 q4 q5 hz NW DW TW
    obtain ⟨⟨q0, q1, q2, q3, q4, q5⟩, hn, hd, ht, -, hz⟩ := HC1.out w18 HB.out
    have NW := hid hn
    have DW := hid hd
    have TW := hid ht
    clear hn hd ht
    go_wp2_with fail
    refine (mark_rts Tb rl (r17 + dl) _ TR.out (by omega) (by omega) hrl).mono ?_
    rintro e' w19 ⟨rfl, hg⟩
    have HB : Hid (Below (w.alloc (.cells #[.slice (p 0) (l 0) (c 0), .slice (p 1) (l 1) (c 1), .slice (p 2) (l 2) (c 2), .slice (p 3) (l 3) (c 3), .slice (p 4) (l 4) (c 4), .slice (p 5) (l 5) (c 5)] 28)).heap.size (w.alloc (.cells #[.slice (p 0) (l 0) (c 0), .slice (p 1) (l 1) (c 1), .slice (p 2) (l 2) (c 2), .slice (p 3) (l 3) (c 3), .slice (p 4) (l 4) (c 4), .slice (p 5) (l 5) (c 5)] 28)) w19) := HB.out.grown hg HB.out.size (fun k hk => by injection hk with hk; subst hk; have := HB5s.out; have := NL.out; have := ML.out; have := TL.out; omega)
    have OX := hid (own_grown OX.out hg (fun g hg' e => by injection e with e; subst e; have := LX.out _ hg'; have := ML.out; have := TL.out; have := NL.out; omega))
    have OY := hid (own_grown OY.out hg (fun g hg' e => by injection e with e; subst e; have := GY.out _ hg'; have := TL.out; omega))
    have W0 := hid ((hg.block _ (Array.getElem?_eq_some_iff.1 W0.out).1 (fun e => by injection e with e; have := ML.out; have := TL.out; have := NL.out; omega)).trans W0.out)
    have G0 := hid ((hg.block _ (Array.getElem?_eq_some_iff.1 G0.out).1 (fun e => by injection e with e; have := TL.out; have := Z89.out; omega)).trans G0.out)
    clear TR hg
    clear q0 q1 q2 q3 q4 q5 hz NW DW TW
    obtain ⟨⟨q0, q1, q2, q3, q4, q5⟩, hn, hd, ht, -, hz⟩ := HC1.out w19 HB.out
    have NW := hid hn
    have DW := hid hd
    have TW := hid ht
    clear hn hd ht
    have k0 : decide (r17 + (dl : Int) + 4 * (rl : Int) < 0) = false := decide_eq_false (by omega)
    obtain ⟨u0, u1, u2⟩ := box_of W0.out
    obtain ⟨v0, v1, v2⟩ := box_of G0.out
    go_wp2_with fail
    refine (eq_walk O ay ax A.length cy cx A _ (row_of_own OY.out) (row_of_own OX.out)).mono ?_
    rintro e' w20 ⟨rfl, hb⟩
    clear u0 u1 u2 v0 v1 v2 k0
    have HB := hid (HB.out.trans (hb.mono HB.out.size))
    have OX := hid (OX.out.below hb)
    have OY := hid (OY.out.below hb)
    have W0 := hid ((hb.block _ (Array.getElem?_eq_some_iff.1 W0.out).1).trans W0.out)
    have G0 := hid ((hb.block _ (Array.getElem?_eq_some_iff.1 G0.out).1).trans G0.out)
    clear q0 q1 q2 q3 q4 q5 hz NW DW TW
    obtain ⟨⟨q0, q1, q2, q3, q4, q5⟩, hn, hd, ht, -, hz⟩ := HC1.out w20 HB.out
    have NW := hid hn
    have DW := hid hd
    have TW := hid ht
    clear hn hd ht
    clear hb
    obtain ⟨v0, v1, v2⟩ := box_of G0.out
    go_wp2_with fail
    refine (mark_walk w8.heap.size O (.slice ay A.length cy) A 1 _ OY.out (by omega) (by omega) hA0).mono ?_
    rintro e' w21 ⟨rfl, om, hg⟩
    clear v0 v1 v2
    have HB : Hid (Below (w.alloc (.cells #[.slice (p 0) (l 0) (c 0), .slice (p 1) (l 1) (c 1), .slice (p 2) (l 2) (c 2), .slice (p 3) (l 3) (c 3), .slice (p 4) (l 4) (c 4), .slice (p 5) (l 5) (c 5)] 28)).heap.size (w.alloc (.cells #[.slice (p 0) (l 0) (c 0), .slice (p 1) (l 1) (c 1), .slice (p 2) (l 2) (c 2), .slice (p 3) (l 3) (c 3), .slice (p 4) (l 4) (c 4), .slice (p 5) (l 5) (c 5)] 28)) w21) := HB.out.grown hg HB.out.size (fun k hk => by have := GY.out _ hk; have := HB5s.out; have := NL.out; have := ML.out; have := TL.out; omega)
    have OX := hid (own_grown OX.out hg (fun g hg' e => by have := LX.out _ hg'; have := GY.out _ e.symm; have := NL.out; have := ML.out; have := TL.out; omega))
    have RM := hid (row_of_own om)
    have W0 := hid ((hg.block _ (Array.getElem?_eq_some_iff.1 W0.out).1 (fun e => by have := GY.out _ e.symm; have := NL.out; have := ML.out; have := TL.out; omega)).trans W0.out)
    have G0 := hid ((hg.block _ (Array.getElem?_eq_some_iff.1 G0.out).1 (fun e => by have := GY.out _ e.symm; omega)).trans G0.out)
    clear OY hg om
    clear q0 q1 q2 q3 q4 q5 hz NW DW TW
    obtain ⟨⟨q0, q1, q2, q3, q4, q5⟩, hn, hd, ht, -, hz⟩ := HC1.out w21 HB.out
    have NW := hid hn
    have DW := hid hd
    have TW := hid ht
    clear hn hd ht
    have hq1 : ((1 : Int) + (A.length : Int) != 1 + (A.length : Int)) = false := by simp
    have hq2 : decide ((1 : Int) + (A.length : Int) < 0) = false := decide_eq_false (by omega)
    obtain ⟨v0, v1, v2⟩ := box_of G0.out
    go_wp2_with fail
    refine (held_walk O ay A.length cy 1 _ RM.out (by omega) (by omega) hA0).mono ?_
    rintro e' w22 ⟨rfl, hb⟩
    clear v0 v1 v2
    have HB := hid (HB.out.trans (hb.mono HB.out.size))
    have OX := hid (OX.out.below hb)
    have RM := hid (RM.out.below hb)
    have W0 := hid ((hb.block _ (Array.getElem?_eq_some_iff.1 W0.out).1).trans W0.out)
    have G0 := hid ((hb.block _ (Array.getElem?_eq_some_iff.1 G0.out).1).trans G0.out)
    clear q0 q1 q2 q3 q4 q5 hz NW DW TW
    obtain ⟨⟨q0, q1, q2, q3, q4, q5⟩, hn, hd, ht, -, hz⟩ := HC1.out w22 HB.out
    have NW := hid hn
    have DW := hid hd
    have TW := hid ht
    clear hn hd ht
    clear hb
    go_wp2_with fail
    refine (toNet p l c s g o e x f _ NW.out HL.out).mono ?_
    rintro e' w23 ⟨Nd, rfl, hb, hc⟩
    have HB := hid (HB.out.trans (hb.mono HB.out.size))
    have OX := hid (OX.out.below hb)
    have RM := hid (RM.out.below hb)
    have W0 := hid ((hb.block _ (Array.getElem?_eq_some_iff.1 W0.out).1).trans W0.out)
    have G0 := hid ((hb.block _ (Array.getElem?_eq_some_iff.1 G0.out).1).trans G0.out)
    clear q0 q1 q2 q3 q4 q5 hz NW DW TW
    obtain ⟨⟨q0, q1, q2, q3, q4, q5⟩, hn, hd, ht, -, hz⟩ := HC1.out w23 HB.out
    have NW := hid hn
    have DW := hid hd
    have TW := hid ht
    clear hn hd ht
    have CD := hid (hc.net HM.out HS.out HO.out HE.out)
    clear hc hb
    unfold netV
    go_wp2_with fail
    refine (toBoolN da dl dc ds _ DW.out hdl).mono ?_
    rintro e' w24 ⟨Md, rfl, -, hb, -, hr⟩
    have HB := hid (HB.out.trans (hb.mono HB.out.size))
    have OX := hid (OX.out.below hb)
    have RM := hid (RM.out.below hb)
    have W0 := hid ((hb.block _ (Array.getElem?_eq_some_iff.1 W0.out).1).trans W0.out)
    have G0 := hid ((hb.block _ (Array.getElem?_eq_some_iff.1 G0.out).1).trans G0.out)
    have CD := hid (CD.out.below hb)
    clear q0 q1 q2 q3 q4 q5 hz NW DW TW
    obtain ⟨⟨q0, q1, q2, q3, q4, q5⟩, hn, hd, ht, -, hz⟩ := HC1.out w24 HB.out
    have NW := hid hn
    have DW := hid hd
    have TW := hid ht
    clear hn hd ht
    have RD := hid hr
    clear hr hb
    go_wp2_with fail
    refine (toRouteS ra rl rc rs _ TW.out hrl).mono ?_
    rintro e' w25 ⟨Td, rfl, -, hb, hr⟩
    have HB := hid (HB.out.trans (hb.mono HB.out.size))
    have OX := hid (OX.out.below hb)
    have RM := hid (RM.out.below hb)
    have W0 := hid ((hb.block _ (Array.getElem?_eq_some_iff.1 W0.out).1).trans W0.out)
    have G0 := hid ((hb.block _ (Array.getElem?_eq_some_iff.1 G0.out).1).trans G0.out)
    have CD := hid (CD.out.below hb)
    have RD := hid (RD.out.below hb)
    clear q0 q1 q2 q3 q4 q5 hz NW DW TW
    obtain ⟨⟨q0, q1, q2, q3, q4, q5⟩, hn, hd, ht, -, hz⟩ := HC1.out w25 HB.out
    have NW := hid hn
    have DW := hid hd
    have TW := hid ht
    clear hn hd ht
    have TD := hid (hr.is MR.out)
    clear hr hb
    go_wp2_with fail
    refine (forward_impl (fun i => some ⟨Nd i, 0, none⟩) l l s g o e x f (some ⟨Md, 0, none⟩) (some ⟨Td, 0, none⟩) dl dl rl rl ds rs fr port _ CD.out (Nat.le_refl _) (Nat.le_refl _) RD.out TD.out).mono ?_
    rintro e' w26 ⟨Z, rfl, ho, hb⟩
    rw [EC.out, EO.out]
    rw [EC.out, EA.out] at ho
    have HB := hid (HB.out.trans (hb.mono HB.out.size))
    have OX := hid (OX.out.below hb)
    have RM := hid (RM.out.below hb)
    have W0 := hid ((hb.block _ (Array.getElem?_eq_some_iff.1 W0.out).1).trans W0.out)
    have G0 := hid ((hb.block _ (Array.getElem?_eq_some_iff.1 G0.out).1).trans G0.out)
    clear q0 q1 q2 q3 q4 q5 hz NW DW TW
    obtain ⟨⟨q0, q1, q2, q3, q4, q5⟩, hn, hd, ht, -, hz⟩ := HC1.out w26 HB.out
    have NW := hid hn
    have DW := hid hd
    have TW := hid ht
    clear hn hd ht
    obtain ⟨az, cz, rfl, rz⟩ := ho.form
    have RZ := hid rz
    clear ho hb rz CD RD TD
    obtain ⟨u0, u1, u2⟩ := box_of W0.out
    go_wp2_with fail
    have HA26 : Hid (Below w26.heap.size w26 (w26.alloc (.cells #[.int .i64 O, .slice az A.length cz] 47))) := (by repeat (first | exact Below.refl _ _ | assumption | refine Below.drew ?_ | refine Below.alloc ?_ (by first | exact Nat.le_refl _ | omega | (simp; done) | (simp; omega)) _ | refine Below.setCell ?_ (by first | exact Nat.le_refl _ | omega | (simp; done) | (simp; omega)) _))
    refine (eq_walk O az ax A.length cz cx A _ (RZ.out.below HA26.out) (row_of_own (OX.out.below HA26.out))).mono ?_
    rintro e' w27 ⟨rfl, hb27⟩
    have hb : Below w26.heap.size w26 w27 := HA26.out.trans (hb27.mono (by simp))
    clear u0 u1 u2
    have HB := hid (HB.out.trans (hb.mono HB.out.size))
    have OX := hid (OX.out.below hb)
    have RM := hid (RM.out.below hb)
    have W0 := hid ((hb.block _ (Array.getElem?_eq_some_iff.1 W0.out).1).trans W0.out)
    have G0 := hid ((hb.block _ (Array.getElem?_eq_some_iff.1 G0.out).1).trans G0.out)
    clear q0 q1 q2 q3 q4 q5 hz NW DW TW
    obtain ⟨⟨q0, q1, q2, q3, q4, q5⟩, hn, hd, ht, -, hz⟩ := HC1.out w27 HB.out
    have NW := hid hn
    have DW := hid hd
    have TW := hid ht
    clear hn hd ht
    clear hb hb27 HA26 RZ
    obtain ⟨v0, v1, v2⟩ := box_of G0.out
    go_wp2_with fail
    refine (held_walk O ay A.length cy 1 _ RM.out (by omega) (by omega) hA0).mono ?_
    rintro e' w28 ⟨rfl, hb⟩
    clear v0 v1 v2
    have HB := hid (HB.out.trans (hb.mono HB.out.size))
    clear hb
    go_wp2
    go_ret
    exact ⟨rfl, (HC1.out _ HB.out).2.2.2.2.1⟩


theorem own : ownKnob Try.prog.godebug = none := by kernel_rfl
theorem laidOut : laidOutB Try.prog = true := by kernel_rfl

set_option maxRecDepth 100000 in
theorem lifted (os : Os) (started : os.Started) (H : Type) (enc : TypeId × Value → H) :
    ReturnsInHanded {} Try.checked os 4 .any (Rows.fnExactForwardSpec.pre6 enc Try.prog Try.f4 Rows.fnExactForwardRow.domain false) (Rows.fnExactForwardSpec.post enc Try.prog Try.f4 false true false false) := by
  refine returnsInHanded_of_change (C := Try.checked) own started (by kernel_rfl) Try.func4
    (ChangeSpec.witness6 (enc := enc) (C := Try.checked) false ⟨#[], #[.agg #[.slice none 0 0, .slice none 0 0, .slice none 0 0, .slice none 0 0, .slice none 0 0, .slice none 0 0], .slice none 0 0, .slice none 0 0, .int .i64 0, .int .i64 0], []⟩ 8 (by kernel_rfl) (by kernel_rfl) (by kernel_rfl) (by kernel_rfl)) ?_
  intro W base args ds gs before hval0 hW hcnd _
  have hval : ∀ (j : Nat) t v, Try.f4.params[j]? = some t → args[j]? = some v → Value.okWide Try.prog W .any base t v := hval0
  have hW' := hW
  obtain ⟨p, q, hA0, hV, rfl, hfz, hnd⟩ := hW
  have hA : DataW.TrodAll enc Try.prog W 0 (fun _ => true) true Try.f4.params.toList args.toList ds p := hA0
  rw [Try.params4] at hA hval
  obtain ⟨v0, vs0, d0, ds0, p0, q0, hargs, rfl, rfl, h0, r0⟩ := trodAll_cons hA
  obtain ⟨v1, vs1, d1, ds1, p1, q1, rfl, rfl, rfl, h1, r1⟩ := trodAll_cons r0
  obtain ⟨v2, vs2, d2, ds2, p2, q2, rfl, rfl, rfl, h2, r2⟩ := trodAll_cons r1
  obtain ⟨v3, vs3, d3, ds3, p3, q3, rfl, rfl, rfl, h3, r3⟩ := trodAll_cons r2
  obtain ⟨v4, vs4, d4, ds4, p4, q4, rfl, rfl, rfl, h4, r4⟩ := trodAll_cons r3
  obtain ⟨rfl, rfl, rfl⟩ := trodAll_nil r4
  obtain rfl : args = #[v0, v1, v2, v3, v4] := by cases args; simp_all
  obtain ⟨rfl, rfl⟩ := trodVars_none hV
  have k0 := h0
  have lt0 : ∀ x ∈ p0, x.block < W.heap.size := by obtain ⟨m, hm⟩ := k0; exact DataW.trod_lt m _ _ _ hm
  have k1 := h1
  have lt1 : ∀ x ∈ p1, x.block < W.heap.size := by obtain ⟨m, hm⟩ := k1; exact DataW.trod_lt m _ _ _ hm
  have k2 := h2
  have lt2 : ∀ x ∈ p2, x.block < W.heap.size := by obtain ⟨m, hm⟩ := k2; exact DataW.trod_lt m _ _ _ hm
  have k3 := h3
  have lt3 : ∀ x ∈ p3, x.block < W.heap.size := by obtain ⟨m, hm⟩ := k3; exact DataW.trod_lt m _ _ _ hm
  have k4 := h4
  have lt4 : ∀ x ∈ p4, x.block < W.heap.size := by obtain ⟨m, hm⟩ := k4; exact DataW.trod_lt m _ _ _ hm
  obtain ⟨p, l, c, s, g, o, e, x, f, rfl, hnet⟩ := net_of_trod (hval 0 28 v0 rfl rfl) h0
  obtain ⟨fr, rfl⟩ := okWide_int Try.underlying3 (hval 3 3 v3 rfl rfl)
  obtain ⟨port, rfl⟩ := okWide_int Try.underlying3 (hval 4 3 v4 rfl rfl)
  obtain ⟨da, dl, dc, rfl⟩ := okWide_slice Try.underlying43 (hval 1 43 v1 rfl rfl)
  obtain ⟨ra, rl, rc, rfl⟩ := okWide_slice Try.underlying44 (hval 2 44 v2 rfl rfl)
  obtain ⟨zd, hzd⟩ : ∃ zs, BoolRow W da dl zs := by
    obtain ⟨fuel, hf⟩ := h1
    obtain ⟨a', l', c', zs, e, hb⟩ := bools_of_trod Try.underlying43 Try.underlying4 (by kernel_rfl) (by simpa [Value.cells] using hf)
    cases e
    exact ⟨zs, hb⟩
  obtain ⟨zr, hzr⟩ : ∃ zs, RtRow W ra rl zs := by
    obtain ⟨fuel, hf⟩ := h2
    obtain ⟨a', l', c', zs, e, hb⟩ := routeArgs.routes_of_trod (by simpa [Value.cells] using hf)
    cases e
    exact ⟨zs, hb⟩
  clear hA0 hval0
  refine (walk p l c s g o e x f da ra dl dc rl rc zd zr fr port W hnet hzd hzr).mono fun e W' ⟨he, bel⟩ => ?_
  subst he
  exact ⟨_, rfl, _, _, _, [], _, [], hW', trodAll_mk1 (shut_bool Try.underlying4 _), (trodAll_cons_mk (Below.trod laidOut (by kernel_rfl) (of_decide_eq_true (by kernel_rfl)) k0 bel lt0) (trodAll_cons_mk (Below.trod laidOut (by kernel_rfl) (of_decide_eq_true (by kernel_rfl)) k1 bel lt1) (trodAll_cons_mk (Below.trod laidOut (by kernel_rfl) (of_decide_eq_true (by kernel_rfl)) k2 bel lt2) (trodAll_cons_mk (Below.trod laidOut (by kernel_rfl) (of_decide_eq_true (by kernel_rfl)) k3 bel lt3) (trodAll_cons_mk (Below.trod laidOut (by kernel_rfl) (of_decide_eq_true (by kernel_rfl)) k4 bel lt4) trodAll_mk0))))), rfl, bel.frame _, fun h => by cases h⟩

theorem over : Rows.fnExactForwardRow.holds Try.pinned (OpenSpec.ofChange Rows.fnExactForwardSpec) :=
  OpenClaim.holds_of_wide 4 Try.f4 rfl rfl rfl rfl rfl rfl rfl ⟨rfl, rfl, rfl, rfl, rfl⟩ rfl rfl rfl rfl rfl (by kernel_rfl) Try.func4 (by kernel_rfl)
    (of_decide_eq_true (by kernel_rfl)) (by unfold Func.isWrapper; first | (rw [if_pos (by decide +kernel)]; kernel_rfl) | (rw [if_neg (by decide +kernel)]; exact ⟨rfl, rfl⟩))
    (fun os started H enc _ => lifted os started H enc)
end Go.Proofs.Ytbfpbfifhcfehaa.fnExactForward
namespace Go.Proofs.Ytbfpbfifhcfehaa
theorem fnExactForward_holds : Rows.FnExactForwardSaid := fnExactForward.over
end Go.Proofs.Ytbfpbfifhcfehaa
