/- For every network, router and flags Neighbours answers as its specification (the routers and the code); the arguments are as they were, and the answer owns its memory; conditions: none. -/
import Derived.Test.YtmnflgicckjhnaaNbImpl
import Derived.Test.YtmnflgicckjhnaaNbSpec
import Derived.Test.YtmnflgicckjhnaaNetMarks
import Derived.Test.YtmnflgicckjhnaaNetArgs
namespace Go.Proofs.Ytmnflgicckjhnaa.fnExactNeighbours
open Go.ChangeShapes Go.WideShapes Go.ChangeAt Go.RowKit Go.Deep Go.Joins base copy names netSem netCopy netWhole netOKImpl netOKSpec netArgs args intsOwn nbSem nbImpl nbSpec netMark
set_option linter.unusedVariables false

set_option maxHeartbeats 800000 in
theorem mark_bool (N len : Nat) (n : Int) (w : World) (h : ∃ f, w.rowIs N 4 len f) (hn0 : 0 ≤ n) (hn : n ≤ 100000000) (hl : len ≤ 1048576) :
    Calls Try.prog 16 #[.slice (some ⟨N, 0, none⟩) len len, .int .i64 n] w fun e w' => e = .returned (.int .i64 (n + len)) ∧ w.grownBy w' (some N) := by
  have HO := hid h
  clear h
  go_enter Try.func16, Try.ntmps16
  go_wp2
  go_loopw [5, 1] (fun i t wr => ∃ k : Nat, k ≤ len ∧ i = .int .i64 k ∧ t = .int .i64 (n + k) ∧ w.grownBy wr (some N) ∧ ∃ f, wr.rowIs N 4 len f) (fun i _ _ => len - (intOf i).toNat)
  case atStart => exact ⟨0, Nat.zero_le _, rfl, by simp, grown_refl _ _, HO.out⟩
  case round =>
    obtain ⟨k, hk, rfl, rfl, hot, f, hf⟩ := hrel
    have HT := hid hot
    have HF := hid hf
    clear hot
    by_cases hlt : k < len
    · have g0 := hf.cell (i := k) (by omega)
      have z0 := hf.frozen k
      clear hf
      go_wp2
      all_goals
        go_roundw
        case rel => exact ⟨k + 1, by omega, by go_num, by congr 1; omega, grown_set HT.out, _, HF.out.set k _⟩
        case measure => simp [intOf]; omega
    · have e : k = len := by omega
      subst e
      clear hf
      go_wp2
      go_ret
      exact ⟨rfl, HT.out⟩
theorem nil_ns {N : Nat → Nat} {a b g : Nat} (hu : N 0 < N 1 ∧ N 1 < N 2 ∧ N 2 < N 3 ∧ N 3 < N 4 ∧ N 4 < N 5) (h : g < N 0 ∨ N 5 < g) : ¬ Ns N g := by
  rintro ⟨i, hi, rfl⟩
  match i, hi with
  | 0, _ => omega
  | 1, _ => omega
  | 2, _ => omega
  | 3, _ => omega
  | 4, _ => omega
  | 5, _ => omega
  | i + 6, hi => omega
theorem ns_low {N : Nat → Nat} {M g : Nat} (hu : N 0 < N 1 ∧ N 1 < N 2 ∧ N 2 < N 3 ∧ N 3 < N 4 ∧ N 4 < N 5) (h : M ≤ N 0) (hg : Ns N g) : M ≤ g := by
  obtain ⟨i, hi, rfl⟩ := hg
  match i, hi with
  | 0, _ => omega
  | 1, _ => omega
  | 2, _ => omega
  | 3, _ => omega
  | 4, _ => omega
  | 5, _ => omega
  | i + 6, hi => omega

set_option maxHeartbeats 6400000 in
theorem walk (p : Nat → Option Addr) (l c : Nat → Nat) (s : Ss) (g : R) (o e : List Int) (x f : R) (router : Int) (da : Option Addr) (dl dc : Nat) (ds : List Bool) (w : World) (h : NetIs w p l s g o e x f) (hd : BoolRow w da dl ds) :
    Calls Try.prog 4 #[netV p l c, .int .i64 router, .slice da dl dc] w fun e' w' => e' = .returned (.bool true) ∧ Below w.heap.size w w' := by
  have HN := hid h
  have HD := hid hd
  have HDn := hid hd.length
  have md := hd.most
  unfold maxLen at md
  have HM : Hid (∀ i, i < 6 → l i ≤ maxLen) := fun i hi => by
    match i, hi with
    | 0, _ => exact h.routers.most
    | 1, _ => exact h.links.most
    | 2, _ => exact h.origins.most
    | 3, _ => exact h.externals.most
    | 4, _ => exact h.imports.most
    | 5, _ => exact h.filters.most
    | i + 6, hi => exact absurd hi (by omega)
  have HS := hid h.routers.size
  have HO := hid h.origins.length
  have HE := hid h.externals.length
  clear h hd
  have C1 : ∀ w8 : World, Below ((w.alloc (.cells #[.slice (p 0) (l 0) (c 0), .slice (p 1) (l 1) (c 1), .slice (p 2) (l 2) (c 2), .slice (p 3) (l 3) (c 3), .slice (p 4) (l 4) (c 4), .slice (p 5) (l 5) (c 5)] 28))).heap.size (w.alloc (.cells #[.slice (p 0) (l 0) (c 0), .slice (p 1) (l 1) (c 1), .slice (p 2) (l 2) (c 2), .slice (p 3) (l 3) (c 3), .slice (p 4) (l 4) (c 4), .slice (p 5) (l 5) (c 5)] 28)) w8 → (w8.cell? ⟨w.heap.size, 0, none⟩ = some (.slice (p 0) (l 0) (c 0)) ∧ w8.cell? ⟨w.heap.size, 1, none⟩ = some (.slice (p 1) (l 1) (c 1)) ∧ w8.cell? ⟨w.heap.size, 2, none⟩ = some (.slice (p 2) (l 2) (c 2)) ∧ w8.cell? ⟨w.heap.size, 3, none⟩ = some (.slice (p 3) (l 3) (c 3)) ∧ w8.cell? ⟨w.heap.size, 4, none⟩ = some (.slice (p 4) (l 4) (c 4)) ∧ w8.cell? ⟨w.heap.size, 5, none⟩ = some (.slice (p 5) (l 5) (c 5))) ∧ NetIs w8 p l s g o e x f ∧ BoolRow w8 da dl ds ∧ Below w.heap.size w w8 ∧ w.heap.size < w8.heap.size :=
    fun w8 hb => ⟨⟨keep hb (by simp [go_sem]), keep hb (by simp [go_sem]), keep hb (by simp [go_sem]), keep hb (by simp [go_sem]), keep hb (by simp [go_sem]), keep hb (by simp [go_sem])⟩, (HN.out.below (by repeat (first | exact Below.refl _ _ | assumption | refine Below.drew ?_ | refine Below.alloc ?_ (by first | exact Nat.le_refl _ | omega | (simp; done) | (simp; omega)) _ | refine Below.setCell ?_ (by first | exact Nat.le_refl _ | omega | (simp; done) | (simp; omega)) _))).below hb, (HD.out.below (by repeat (first | exact Below.refl _ _ | assumption | refine Below.drew ?_ | refine Below.alloc ?_ (by first | exact Nat.le_refl _ | omega | (simp; done) | (simp; omega)) _ | refine Below.setCell ?_ (by first | exact Nat.le_refl _ | omega | (simp; done) | (simp; omega)) _))).below hb, (show Below w.heap.size w _ from (by repeat (first | exact Below.refl _ _ | assumption | refine Below.drew ?_ | refine Below.alloc ?_ (by first | exact Nat.le_refl _ | omega | (simp; done) | (simp; omega)) _ | refine Below.setCell ?_ (by first | exact Nat.le_refl _ | omega | (simp; done) | (simp; omega)) _))).trans (hb.mono (by simp)), Nat.lt_of_lt_of_le (by simp) hb.size⟩
  have HC1 := hid C1
  clear C1
  obtain ⟨C, hC⟩ : ∃ C, nbC (netB l s g o e x f) (l 0) (l 1) dl router = C := ⟨_, rfl⟩
  obtain ⟨A, hA⟩ : ∃ A, nbA (netB l s g o e x f) (l 0) (l 1) dl router g ds = A := ⟨_, rfl⟩
  have EC := hid hC
  have EA := hid hA
  have hAl : A.length ≤ l 0 := by rw [← hA]; exact nbA_len _ _ _ _ _ _ _
  have HAl := hid hAl
  have hdA : decide (A = A) = true := decide_eq_true rfl
  have hdD : decide (ds = ds) = true := decide_eq_true rfl
  have hqC : (C != C) = false := by simp
  clear hC hA hAl
  unfold netV
  by_cases hbig : 1048576 < dl
  · have d1 : decide ((1048576 : Int) < (dl : Int)) = true := decide_eq_true (by omega)
    go_enter Try.func4, Try.ntmps4
    go_wp2
    go_ret
    exact ⟨rfl, (by repeat (first | exact Below.refl _ _ | assumption | refine Below.drew ?_ | refine Below.alloc ?_ (by first | exact Nat.le_refl _ | omega | (simp; done) | (simp; omega)) _ | refine Below.setCell ?_ (by first | exact Nat.le_refl _ | omega | (simp; done) | (simp; omega)) _))⟩
  have d1 : decide ((1048576 : Int) < (dl : Int)) = false := decide_eq_false (by omega)
  have hdl : dl ≤ 1048576 := by omega
  go_enter Try.func4, Try.ntmps4
  go_wp2_with fail
  refine (szNet p l c s g o e x f 1048576 _ (HN.out.below (by repeat (first | exact Below.refl _ _ | assumption | refine Below.drew ?_ | refine Below.alloc ?_ (by first | exact Nat.le_refl _ | omega | (simp; done) | (simp; omega)) _ | refine Below.setCell ?_ (by first | exact Nat.le_refl _ | omega | (simp; done) | (simp; omega)) _))) (by omega) (by omega)).mono ?_
  rintro e' w1 ⟨r, rfl, hb, hr1, hr2, hr3⟩
  have H3 := hid hr3
  have HB := hid hb
  obtain ⟨⟨q0, q1, q2, q3, q4, q5⟩, hn, hd, hB, hz⟩ := HC1.out w1 hb
  have NW := hid hn
  have DW := hid hd
  clear hr3 hn hd
  by_cases hneg : r < 0
  · clear hb
    go_wp2
    go_ret
    exact ⟨rfl, hB⟩
  clear hb hB
  have HL := hid (H3.out (by omega))
  have hA0 : A.length ≤ 1048576 := Nat.le_trans HAl.out (HL.out 0 (by decide))

  go_wp2_with fail
  refine (toNet p l c s g o e x f _ NW.out HL.out).mono ?_
  rintro e' w2 ⟨Na, rfl, hb, hc⟩
  have HB := hid (HB.out.trans (hb.mono HB.out.size))
  clear q0 q1 q2 q3 q4 q5 hz NW DW
  obtain ⟨⟨q0, q1, q2, q3, q4, q5⟩, hn, hd, -, hz⟩ := HC1.out w2 HB.out
  have NW := hid hn
  have DW := hid hd
  clear hn hd
  have CA := hid (hc.net HM.out HS.out HO.out HE.out)
  clear hc hb
  unfold netV
  go_wp2_with fail
  refine (toBoolN da dl dc ds _ DW.out hdl).mono ?_
  rintro e' w3 ⟨Ma, rfl, -, hb, -, hr⟩
  have HB := hid (HB.out.trans (hb.mono HB.out.size))
  have CA := hid (CA.out.below hb)
  clear q0 q1 q2 q3 q4 q5 hz NW DW
  obtain ⟨⟨q0, q1, q2, q3, q4, q5⟩, hn, hd, -, hz⟩ := HC1.out w3 HB.out
  have NW := hid hn
  have DW := hid hd
  clear hn hd
  have RA := hid hr
  clear hr hb
  go_wp2_with fail
  refine (neighbours_spec (fun i => some ⟨Na i, 0, none⟩) l l s g o e x f router (some ⟨Ma, 0, none⟩) dl dl ds _ CA.out (Nat.le_refl _) (Nat.le_refl _) RA.out).mono ?_
  rintro e' w4 ⟨X, rfl, ho, hb⟩
  rw [EC.out]
  rw [EA.out] at ho
  have HB := hid (HB.out.trans (hb.mono HB.out.size))
  clear q0 q1 q2 q3 q4 q5 hz NW DW
  obtain ⟨⟨q0, q1, q2, q3, q4, q5⟩, hn, hd, -, hz⟩ := HC1.out w4 HB.out
  have NW := hid hn
  have DW := hid hd
  clear hn hd
  have HB4s := hid HB.out.size
  have OX := hid ho
  have LX := hid (fun g (hg : X.ownBlock = some g) => (own_lt ho hg).2)
  obtain ⟨ax, cx, rfl, -⟩ := ho.form
  clear ho hb CA RA
  go_wp2_with fail
  refine (toNet p l c s g o e x f _ NW.out HL.out).mono ?_
  rintro e' w5 ⟨Nb, rfl, hb, hc⟩
  have HB := hid (HB.out.trans (hb.mono HB.out.size))
  have OX := hid (OX.out.below hb)
  clear q0 q1 q2 q3 q4 q5 hz NW DW
  obtain ⟨⟨q0, q1, q2, q3, q4, q5⟩, hn, hd, -, hz⟩ := HC1.out w5 HB.out
  have NW := hid hn
  have DW := hid hd
  clear hn hd
  have CB := hid hc
  have NL := hid (And.intro hc.low (And.intro hc.up hc.lt))
  clear hc hb
  unfold netV
  go_wp2_with fail
  have HA5 : Hid (Below w5.heap.size w5 (w5.alloc (.cells #[.slice (some ⟨Nb 0, 0, none⟩) (l 0) (l 0), .slice (some ⟨Nb 1, 0, none⟩) (l 1) (l 1), .slice (some ⟨Nb 2, 0, none⟩) (l 2) (l 2), .slice (some ⟨Nb 3, 0, none⟩) (l 3) (l 3), .slice (some ⟨Nb 4, 0, none⟩) (l 4) (l 4), .slice (some ⟨Nb 5, 0, none⟩) (l 5) (l 5)] 35))) := (by repeat (first | exact Below.refl _ _ | assumption | refine Below.drew ?_ | refine Below.alloc ?_ (by first | exact Nat.le_refl _ | omega | (simp; done) | (simp; omega)) _ | refine Below.setCell ?_ (by first | exact Nat.le_refl _ | omega | (simp; done) | (simp; omega)) _))
  refine (toBoolN da dl dc ds _ (DW.out.below HA5.out) hdl).mono ?_
  rintro e' w6 ⟨Mb, rfl, hMb, hb6, hrow, hr⟩
  have hb : Below w5.heap.size w5 w6 := HA5.out.trans (hb6.mono (by simp))
  have ML : Hid (w5.heap.size < Mb ∧ Mb < w6.heap.size) := ⟨by simp at hMb; omega, hrow.lt⟩
  have XC : Hid (∀ w8 : World, (∀ o v, w6.cell? ⟨w5.heap.size, o, none⟩ = some v → w8.cell? ⟨w5.heap.size, o, none⟩ = some v) → (w8.cell? ⟨w5.heap.size, 0, none⟩ = some (.slice (some ⟨Nb 0, 0, none⟩) (l 0) (l 0)) ∧ w8.cell? ⟨w5.heap.size, 1, none⟩ = some (.slice (some ⟨Nb 1, 0, none⟩) (l 1) (l 1)) ∧ w8.cell? ⟨w5.heap.size, 2, none⟩ = some (.slice (some ⟨Nb 2, 0, none⟩) (l 2) (l 2)) ∧ w8.cell? ⟨w5.heap.size, 3, none⟩ = some (.slice (some ⟨Nb 3, 0, none⟩) (l 3) (l 3)) ∧ w8.cell? ⟨w5.heap.size, 4, none⟩ = some (.slice (some ⟨Nb 4, 0, none⟩) (l 4) (l 4)) ∧ w8.cell? ⟨w5.heap.size, 5, none⟩ = some (.slice (some ⟨Nb 5, 0, none⟩) (l 5) (l 5)))) :=
    fun w8 hk => ⟨hk _ _ (keep hb6 (by simp [go_sem])), hk _ _ (keep hb6 (by simp [go_sem])), hk _ _ (keep hb6 (by simp [go_sem])), hk _ _ (keep hb6 (by simp [go_sem])), hk _ _ (keep hb6 (by simp [go_sem])), hk _ _ (keep hb6 (by simp [go_sem]))⟩
  have HB := hid (HB.out.trans (hb.mono HB.out.size))
  have OX := hid (OX.out.below hb)
  have CB := hid (CB.out.below hb)
  clear q0 q1 q2 q3 q4 q5 hz NW DW
  obtain ⟨⟨q0, q1, q2, q3, q4, q5⟩, hn, hd, -, hz⟩ := HC1.out w6 HB.out
  have NW := hid hn
  have DW := hid hd
  clear hn hd
  have RB := hid hr
  have RW := hid hrow
  clear hr hrow hb6 hMb hb HA5
  obtain ⟨x0, x1, x2, x3, x4, x5⟩ := XC.out w6 (fun _ _ h => h)
  have XK : Hid (∀ o v, w6.cell? ⟨w5.heap.size, o, none⟩ = some v → w6.cell? ⟨w5.heap.size, o, none⟩ = some v) := fun _ _ h => h
  have z56 : w5.heap.size < w6.heap.size := by have := ML.out; omega
  have CN := hid (CB.out.net HM.out HS.out HO.out HE.out)
  go_wp2_with fail
  refine (neighbours_impl (fun i => some ⟨Nb i, 0, none⟩) l l s g o e x f router (some ⟨Mb, 0, none⟩) dl dl ds _ CN.out (Nat.le_refl _) (Nat.le_refl _) RB.out).mono ?_
  rintro e' w7 ⟨Y, rfl, ho, hb⟩
  rw [EC.out]
  rw [EA.out] at ho
  clear CN x0 x1 x2 x3 x4 x5
  have HB := hid (HB.out.trans (hb.mono HB.out.size))
  have OX := hid (OX.out.below hb)
  have CB := hid (CB.out.below hb)
  have RB := hid (RB.out.below hb)
  have RW := hid (RW.out.of_block (hb.block _ RW.out.lt))
  have XK := hid (fun o v (h : w6.cell? ⟨w5.heap.size, o, none⟩ = some v) => keep hb (XK.out o v h))
  clear q0 q1 q2 q3 q4 q5 hz NW DW
  obtain ⟨⟨q0, q1, q2, q3, q4, q5⟩, hn, hd, -, hz⟩ := HC1.out w7 HB.out
  have NW := hid hn
  have DW := hid hd
  clear hn hd
  have OY := hid ho
  have GY := hid (fun g (hg : Y.ownBlock = some g) => (own_lt ho hg).1)
  obtain ⟨ay, cy, rfl, -⟩ := ho.form
  have z57 := hid (Nat.lt_of_lt_of_le z56 hb.size)
  clear ho hb
  have RX := hid (row_of_own OX.out)
  have RY := hid (row_of_own OY.out)
  go_wp2_with fail
  refine (eqIntS _ _ _ _ _ _ A A _ RY.out RX.out).mono ?_
  rintro e' w8 ⟨rfl, n8, rfl⟩
  have hb : Below w7.heap.size w7 (w7.drewN n8) := below_drewN _ _
  generalize w7.drewN n8 = w8 at *
  clear RX RY
  have HB := hid (HB.out.trans (hb.mono HB.out.size))
  have OX := hid (OX.out.below hb)
  have CB := hid (CB.out.below hb)
  have RB := hid (RB.out.below hb)
  have RW := hid (RW.out.of_block (hb.block _ RW.out.lt))
  have XK := hid (fun o v (h : w6.cell? ⟨w5.heap.size, o, none⟩ = some v) => keep hb (XK.out o v h))
  have OY := hid (OY.out.below hb)
  clear q0 q1 q2 q3 q4 q5 hz NW DW
  obtain ⟨⟨q0, q1, q2, q3, q4, q5⟩, hn, hd, -, hz⟩ := HC1.out w8 HB.out
  have NW := hid hn
  have DW := hid hd
  clear hn hd
  have z58 := hid (Nat.lt_of_lt_of_le z57.out hb.size)
  have S78 := hid hb.size
  clear hb
  obtain ⟨x0, x1, x2, x3, x4, x5⟩ := XC.out w8 XK.out
  have zz := z58.out
  have CN := hid (CB.out.net HM.out HS.out HO.out HE.out)
  go_wp2_with fail
  go_region_with (first
    | (go_at_call 7; refine (toNet p l c s g o e x f _ (NW.out.below (Below.refl _ w8).drew) HL.out).mono ?_; rintro e' w9 ⟨N9, rfl, hb9, hc9⟩; have hb9' : Below w8.heap.size w8 w9 := ((Below.refl _ w8).drew).trans hb9; obtain ⟨x0, x1, x2, x3, x4, x5⟩ := XC.out w9 (fun o v h => keep hb9' (XK.out o v h)); clear hb9)
    | (go_at_call 9; refine (eqNet (fun i => some ⟨Nb i, 0, none⟩) (fun i => some ⟨N9 i, 0, none⟩) l l l s g o e x f _ (CN.out.below hb9') (hc9.net HM.out HS.out HO.out HE.out)).mono ?_; rintro e' w10 ⟨rfl, hb10⟩))
  all_goals
    have hb : Below w8.heap.size w8 w10 := hb9'.trans (hb10.mono hb9'.size)
    clear hb9' hb10 hc9 CN x0 x1 x2 x3 x4 x5 zz
    have HB := hid (HB.out.trans (hb.mono HB.out.size))
    have OX := hid (OX.out.below hb)
    have CB := hid (CB.out.below hb)
    have RB := hid (RB.out.below hb)
    have RW := hid (RW.out.of_block (hb.block _ RW.out.lt))
    have XK := hid (fun o v (h : w6.cell? ⟨w5.heap.size, o, none⟩ = some v) => keep hb (XK.out o v h))
    have OY := hid (OY.out.below hb)
    clear q0 q1 q2 q3 q4 q5 hz NW DW
    obtain ⟨⟨q0, q1, q2, q3, q4, q5⟩, hn, hd, -, hz⟩ := HC1.out w10 HB.out
    have NW := hid hn
    have DW := hid hd
    clear hn hd
    have S710 := hid (Nat.le_trans S78.out hb.size)
    clear hb
    go_wp2_with fail
    refine (toBoolN da dl dc ds _ DW.out hdl).mono ?_
    rintro e' w11 ⟨Mc, rfl, -, hb, -, hr⟩
    have HB := hid (HB.out.trans (hb.mono HB.out.size))
    have OX := hid (OX.out.below hb)
    have CB := hid (CB.out.below hb)
    have RB := hid (RB.out.below hb)
    have RW := hid (RW.out.of_block (hb.block _ RW.out.lt))
    have XK := hid (fun o v (h : w6.cell? ⟨w5.heap.size, o, none⟩ = some v) => keep hb (XK.out o v h))
    have OY := hid (OY.out.below hb)
    clear q0 q1 q2 q3 q4 q5 hz NW DW
    obtain ⟨⟨q0, q1, q2, q3, q4, q5⟩, hn, hd, -, hz⟩ := HC1.out w11 HB.out
    have NW := hid hn
    have DW := hid hd
    clear hn hd
    have RC := hid hr
    have S711 := hid (Nat.le_trans S710.out hb.size)
    clear hr hb
    go_wp2_with fail
    refine (eqBoolS _ _ _ _ _ _ ds ds _ RB.out RC.out).mono ?_
    rintro e' w12 ⟨rfl, n12, rfl⟩
    have hb : Below w11.heap.size w11 (w11.drewN n12) := below_drewN _ _
    generalize w11.drewN n12 = w12 at *
    have HB := hid (HB.out.trans (hb.mono HB.out.size))
    have OX := hid (OX.out.below hb)
    have CB := hid (CB.out.below hb)
    have RB := hid (RB.out.below hb)
    have RW := hid (RW.out.of_block (hb.block _ RW.out.lt))
    have XK := hid (fun o v (h : w6.cell? ⟨w5.heap.size, o, none⟩ = some v) => keep hb (XK.out o v h))
    have OY := hid (OY.out.below hb)
    clear q0 q1 q2 q3 q4 q5 hz NW DW
    obtain ⟨⟨q0, q1, q2, q3, q4, q5⟩, hn, hd, -, hz⟩ := HC1.out w12 HB.out
    have NW := hid hn
    have DW := hid hd
    clear hn hd
    have S712 := hid (Nat.le_trans S711.out hb.size)
    clear hb RC
    obtain ⟨x0, x1, x2, x3, x4, x5⟩ := XC.out w12 XK.out
    go_wp2_with fail
    refine (mark_net w4.heap.size Nb l s g o e x f _ CB.out HL.out).mono ?_
    rintro e' w13 ⟨r13, rfl, hr13, hr13', hch⟩
    clear x0 x1 x2 x3 x4 x5
    have s45 : Hid (w4.heap.size ≤ w5.heap.size) := by have := NL.out; show _ ≤ _; omega
    have HB4 := hid HB4s.out
    have nX : Hid (∀ g, (Value.slice ax A.length cx).ownBlock = some g → ¬ Ns Nb g) := fun g hg => nil_ns (a := 0) (b := 0) NL.out.2.1 (.inl (by have := LX.out g hg; have := NL.out; omega))
    have nY : Hid (∀ g, (Value.slice ay A.length cy).ownBlock = some g → ¬ Ns Nb g) := fun g hg => nil_ns (a := 0) (b := 0) NL.out.2.1 (.inr (by have := GY.out g hg; have := NL.out; have := ML.out; omega))
    have nM : Hid (¬ Ns Nb Mb) := nil_ns (a := 0) (b := 0) NL.out.2.1 (.inr (by have := NL.out; have := ML.out; omega))
    have HB := hid (Ch.below HB.out hch (fun b hb => Nat.le_trans HB4.out (ns_low NL.out.2.1 NL.out.1 hb)))
    have OX := hid (hch.own OX.out nX.out)
    have OY := hid (hch.own OY.out nY.out)
    have RW := hid (RW.out.of_block (hch.block _ RW.out.lt nM.out))
    have S713 := hid (Nat.le_trans S712.out hch.size)
    clear q0 q1 q2 q3 q4 q5 hz NW DW CB RB XK hch nM
    obtain ⟨⟨q0, q1, q2, q3, q4, q5⟩, hn, hd, -, hz⟩ := HC1.out w13 HB.out
    have NW := hid hn
    have DW := hid hd
    clear hn hd
    go_wp2_with fail
    refine (mark_bool Mb dl r13 _ ⟨_, RW.out⟩ (by omega) (by omega) hdl).mono ?_
    rintro e' w14 ⟨rfl, hg⟩
    have HB : Hid (Below ((w.alloc (.cells #[.slice (p 0) (l 0) (c 0), .slice (p 1) (l 1) (c 1), .slice (p 2) (l 2) (c 2), .slice (p 3) (l 3) (c 3), .slice (p 4) (l 4) (c 4), .slice (p 5) (l 5) (c 5)] 28))).heap.size (w.alloc (.cells #[.slice (p 0) (l 0) (c 0), .slice (p 1) (l 1) (c 1), .slice (p 2) (l 2) (c 2), .slice (p 3) (l 3) (c 3), .slice (p 4) (l 4) (c 4), .slice (p 5) (l 5) (c 5)] 28)) w14) := HB.out.grown hg HB.out.size (fun k hk => by injection hk with hk; subst hk; have := HB4.out; have := s45.out; have := ML.out; omega)
    have OX := hid (own_grown OX.out hg (fun g hg' e => by injection e with e; subst e; have := LX.out _ hg'; have := ML.out; have := s45.out; omega))
    have OY := hid (own_grown OY.out hg (fun g hg' e => by injection e with e; subst e; have := GY.out _ hg'; have := ML.out; omega))
    have S714 := hid (Nat.le_trans S713.out hg.size)
    clear q0 q1 q2 q3 q4 q5 hz NW DW RW hg
    obtain ⟨⟨q0, q1, q2, q3, q4, q5⟩, hn, hd, -, hz⟩ := HC1.out w14 HB.out
    have NW := hid hn
    have DW := hid hd
    clear hn hd
    have k0 : decide (r13 + (dl : Int) < 0) = false := decide_eq_false (by omega)
    have RX := hid (row_of_own OX.out)
    have RY := hid (row_of_own OY.out)
    go_wp2_with fail
    refine (eqIntS _ _ _ _ _ _ A A _ RY.out RX.out).mono ?_
    rintro e' w15 ⟨rfl, n15, rfl⟩
    have hb : Below w14.heap.size w14 (w14.drewN n15) := below_drewN _ _
    generalize w14.drewN n15 = w15 at *
    clear RX RY k0
    have HB := hid (HB.out.trans (hb.mono HB.out.size))
    have OX := hid (OX.out.below hb)
    have OY := hid (OY.out.below hb)
    clear q0 q1 q2 q3 q4 q5 hz NW DW
    obtain ⟨⟨q0, q1, q2, q3, q4, q5⟩, hn, hd, -, hz⟩ := HC1.out w15 HB.out
    have NW := hid hn
    have DW := hid hd
    clear hn hd
    clear hb
    go_wp2_with fail
    refine (mark_any w6.heap.size (.slice ay A.length cy) A 1 _ OY.out (by omega) (by omega) hA0).mono ?_
    rintro e' w16 ⟨rfl, om, hg⟩
    have HB : Hid (Below ((w.alloc (.cells #[.slice (p 0) (l 0) (c 0), .slice (p 1) (l 1) (c 1), .slice (p 2) (l 2) (c 2), .slice (p 3) (l 3) (c 3), .slice (p 4) (l 4) (c 4), .slice (p 5) (l 5) (c 5)] 28))).heap.size (w.alloc (.cells #[.slice (p 0) (l 0) (c 0), .slice (p 1) (l 1) (c 1), .slice (p 2) (l 2) (c 2), .slice (p 3) (l 3) (c 3), .slice (p 4) (l 4) (c 4), .slice (p 5) (l 5) (c 5)] 28)) w16) := HB.out.grown hg HB.out.size (fun k hk => by have := GY.out _ hk; have := HB4.out; have := s45.out; have := z56; omega)
    have OX := hid (own_grown OX.out hg (fun g hg' e => by have := LX.out _ hg'; have := GY.out _ e.symm; have := s45.out; have := z56; omega))
    have RM := hid (row_of_own om)
    clear q0 q1 q2 q3 q4 q5 hz NW DW OY hg om
    obtain ⟨⟨q0, q1, q2, q3, q4, q5⟩, hn, hd, -, hz⟩ := HC1.out w16 HB.out
    have NW := hid hn
    have DW := hid hd
    clear hn hd
    have hq1 : ((1 : Int) + (A.length : Int) != 1 + (A.length : Int)) = false := by simp
    go_wp2_with fail
    refine (held_ints _ A.length cy 1 _ RM.out (by omega) (by omega) hA0).mono ?_
    rintro e' w17 ⟨rfl, hw⟩
    have hw := hw.symm
    subst hw
    go_wp2_with fail
    refine (toNet p l c s g o e x f _ NW.out HL.out).mono ?_
    rintro e' w18 ⟨Nd, rfl, hb, hc⟩
    have HB := hid (HB.out.trans (hb.mono HB.out.size))
    have OX := hid (OX.out.below hb)
    have RM := hid (RM.out.below hb)
    clear q0 q1 q2 q3 q4 q5 hz NW DW
    obtain ⟨⟨q0, q1, q2, q3, q4, q5⟩, hn, hd, -, hz⟩ := HC1.out w18 HB.out
    have NW := hid hn
    have DW := hid hd
    clear hn hd
    have CD := hid (hc.net HM.out HS.out HO.out HE.out)
    clear hc hb
    unfold netV
    go_wp2_with fail
    refine (toBoolN da dl dc ds _ DW.out hdl).mono ?_
    rintro e' w19 ⟨Md, rfl, -, hb, -, hr⟩
    have HB := hid (HB.out.trans (hb.mono HB.out.size))
    have OX := hid (OX.out.below hb)
    have RM := hid (RM.out.below hb)
    have CD := hid (CD.out.below hb)
    clear q0 q1 q2 q3 q4 q5 hz NW DW
    obtain ⟨⟨q0, q1, q2, q3, q4, q5⟩, hn, hd, -, hz⟩ := HC1.out w19 HB.out
    have NW := hid hn
    have DW := hid hd
    clear hn hd
    have RD := hid hr
    clear hr hb
    go_wp2_with fail
    refine (neighbours_impl (fun i => some ⟨Nd i, 0, none⟩) l l s g o e x f router (some ⟨Md, 0, none⟩) dl dl ds _ CD.out (Nat.le_refl _) (Nat.le_refl _) RD.out).mono ?_
    rintro e' w20 ⟨Z, rfl, ho, hb⟩
    rw [EC.out]
    rw [EA.out] at ho
    have HB := hid (HB.out.trans (hb.mono HB.out.size))
    have OX := hid (OX.out.below hb)
    have RM := hid (RM.out.below hb)
    clear q0 q1 q2 q3 q4 q5 hz NW DW
    obtain ⟨⟨q0, q1, q2, q3, q4, q5⟩, hn, hd, -, hz⟩ := HC1.out w20 HB.out
    have NW := hid hn
    have DW := hid hd
    clear hn hd
    obtain ⟨az, cz, rfl, rz⟩ := ho.form
    have RZ := hid rz
    have RX := hid (row_of_own OX.out)
    clear ho hb rz CD RD
    go_wp2_with fail
    refine (eqIntS _ _ _ _ _ _ A A _ RZ.out RX.out).mono ?_
    rintro e' w21 ⟨rfl, n21, rfl⟩
    have hb : Below w20.heap.size w20 (w20.drewN n21) := below_drewN _ _
    generalize w20.drewN n21 = w21 at *
    have HB := hid (HB.out.trans (hb.mono HB.out.size))
    have OX := hid (OX.out.below hb)
    have RM := hid (RM.out.below hb)
    clear q0 q1 q2 q3 q4 q5 hz NW DW
    obtain ⟨⟨q0, q1, q2, q3, q4, q5⟩, hn, hd, -, hz⟩ := HC1.out w21 HB.out
    have NW := hid hn
    have DW := hid hd
    clear hn hd
    clear hb RZ RX
    go_wp2_with fail
    refine (held_ints _ A.length cy 1 _ RM.out (by omega) (by omega) hA0).mono ?_
    rintro e' w22 ⟨rfl, hw⟩
    have hw := hw.symm
    subst hw
    go_wp2
    go_ret
    exact ⟨rfl, (HC1.out _ HB.out).2.2.2.1⟩


theorem own : ownKnob Try.prog.godebug = none := by kernel_rfl
theorem laidOut : laidOutB Try.prog = true := by kernel_rfl

set_option maxRecDepth 100000 in
theorem lifted (os : Os) (started : os.Started) (H : Type) (enc : TypeId × Value → H) :
    ReturnsInHanded {} Try.checked os 4 .any (Rows.fnExactNeighboursSpec.pre6 enc Try.prog Try.f4 Rows.fnExactNeighboursRow.domain false) (Rows.fnExactNeighboursSpec.post enc Try.prog Try.f4 false true false false) := by
  refine returnsInHanded_of_change (C := Try.checked) own started (by kernel_rfl) Try.func4
    (ChangeSpec.witness6 (enc := enc) (C := Try.checked) false ⟨#[], #[.agg #[.slice none 0 0, .slice none 0 0, .slice none 0 0, .slice none 0 0, .slice none 0 0, .slice none 0 0], .int .i64 0, .slice none 0 0], []⟩ 8 (by kernel_rfl) (by kernel_rfl) (by kernel_rfl) (by kernel_rfl)) ?_
  intro W base args ds gs before hval0 hW hcnd _
  have hval : ∀ (j : Nat) t v, Try.f4.params[j]? = some t → args[j]? = some v → Value.okWide Try.prog W .any base t v := hval0
  have hW' := hW
  obtain ⟨p, q, hA0, hV, rfl, hfz, hnd⟩ := hW
  have hA : DataW.TrodAll enc Try.prog W 0 (fun _ => true) true Try.f4.params.toList args.toList ds p := hA0
  rw [Try.params4] at hA hval
  obtain ⟨v0, vs0, d0, ds0, p0, q0, hargs, rfl, rfl, h0, r0⟩ := trodAll_cons hA
  obtain ⟨v1, vs1, d1, ds1, p1, q1, rfl, rfl, rfl, h1, r1⟩ := trodAll_cons r0
  obtain ⟨v2, vs2, d2, ds2, p2, q2, rfl, rfl, rfl, h2, r2⟩ := trodAll_cons r1
  obtain ⟨rfl, rfl, rfl⟩ := trodAll_nil r2
  obtain rfl : args = #[v0, v1, v2] := by cases args; simp_all
  obtain ⟨rfl, rfl⟩ := trodVars_none hV
  have k0 := h0
  have lt0 : ∀ x ∈ p0, x.block < W.heap.size := by obtain ⟨m, hm⟩ := k0; exact DataW.trod_lt m _ _ _ hm
  have k1 := h1
  have lt1 : ∀ x ∈ p1, x.block < W.heap.size := by obtain ⟨m, hm⟩ := k1; exact DataW.trod_lt m _ _ _ hm
  have k2 := h2
  have lt2 : ∀ x ∈ p2, x.block < W.heap.size := by obtain ⟨m, hm⟩ := k2; exact DataW.trod_lt m _ _ _ hm
  obtain ⟨p, l, c, s, g, o, e, x, f, rfl, hnet⟩ := net_of_trod (hval 0 28 v0 rfl rfl) h0
  obtain ⟨router, rfl⟩ := okWide_int Try.underlying3 (hval 1 3 v1 rfl rfl)
  obtain ⟨da, dl, dc, rfl⟩ := okWide_slice Try.underlying39 (hval 2 39 v2 rfl rfl)
  obtain ⟨zd, hzd⟩ : ∃ zs, BoolRow W da dl zs := by
    obtain ⟨fuel, hf⟩ := h2
    obtain ⟨a', l', c', zs, e, hb⟩ := bools_of_trod Try.underlying39 Try.underlying4 (by kernel_rfl) (by simpa [Value.cells] using hf)
    cases e
    exact ⟨zs, hb⟩
  clear hA0 hval0
  refine (walk p l c s g o e x f router da dl dc zd W hnet hzd).mono fun e W' ⟨he, bel⟩ => ?_
  subst he
  exact ⟨_, rfl, _, _, _, [], _, [], hW', trodAll_mk1 (shut_bool Try.underlying4 _), (trodAll_cons_mk (Below.trod laidOut (by kernel_rfl) (of_decide_eq_true (by kernel_rfl)) k0 bel lt0) (trodAll_cons_mk (Below.trod laidOut (by kernel_rfl) (of_decide_eq_true (by kernel_rfl)) k1 bel lt1) (trodAll_cons_mk (Below.trod laidOut (by kernel_rfl) (of_decide_eq_true (by kernel_rfl)) k2 bel lt2) trodAll_mk0))), rfl, bel.frame _, fun h => by cases h⟩

theorem over : Rows.fnExactNeighboursRow.holds Try.pinned (OpenSpec.ofChange Rows.fnExactNeighboursSpec) :=
  OpenClaim.holds_of_wide 4 Try.f4 rfl rfl rfl rfl rfl rfl rfl ⟨rfl, rfl, rfl, rfl, rfl⟩ rfl rfl rfl rfl rfl (by kernel_rfl) Try.func4 (by kernel_rfl)
    (of_decide_eq_true (by kernel_rfl)) (by unfold Func.isWrapper; first | (rw [if_pos (by decide +kernel)]; kernel_rfl) | (rw [if_neg (by decide +kernel)]; exact ⟨rfl, rfl⟩))
    (fun os started H enc _ => lifted os started H enc)
end Go.Proofs.Ytmnflgicckjhnaa.fnExactNeighbours
namespace Go.Proofs.Ytmnflgicckjhnaa
theorem fnExactNeighbours_holds : Rows.FnExactNeighboursSaid := fnExactNeighbours.over
end Go.Proofs.Ytmnflgicckjhnaa
