/- For every network, announcements and flags StableStates answers as its specification (the states and the code); the arguments are as they were, and the answer owns its memory; conditions: none. -/
import Derived.Test.YtoaeieehbplggaaGreatStaAll
import Derived.Test.YtoaeieehbplggaaGreatRrAll
import Derived.Test.YtoaeieehbplggaaGreatRtsHeld
import Derived.Test.YtoaeieehbplggaaGreatMarkAll
import Derived.Test.YtoaeieehbplggaaGreatArgsAll
namespace Go.Proofs.YtoaeieehbplggaaGreat.fnExactStableStates
open Go.ChangeShapes Go.WideShapes Go.ChangeAt Go.RowKit Go.Deep Go.Joins base copy names netSem netCopy netWhole netOKImpl netOKSpec netArgs args intsOwn nbSem netMark routeRow walkSem routesB walkMark candSem candEnv rtsRow rtsHeld ssSem prodSem choSpec rRows rrMark staFace drawnLin
set_option linter.unusedVariables false

theorem nil_ns {N : Nat → Nat} {a b g : Nat} (hu : N 0 < N 1 ∧ N 1 < N 2 ∧ N 2 < N 3 ∧ N 3 < N 4 ∧ N 4 < N 5) (h : g < N 0 ∨ N 5 < g) : ¬ Ns N g := by
  rintro ⟨i, hi, rfl⟩
  match i, hi with
  | 0, _ => omega
  | 1, _ => omega
  | 2, _ => omega
  | 3, _ => omega
  | 4, _ => omega
  | 5, _ => omega
  | i + 6, hi => omega
theorem ns_low {N : Nat → Nat} {M g : Nat} (hu : N 0 < N 1 ∧ N 1 < N 2 ∧ N 2 < N 3 ∧ N 3 < N 4 ∧ N 4 < N 5) (h : M ≤ N 0) (hg : Ns N g) : M ≤ g := by
  obtain ⟨i, hi, rfl⟩ := hg
  match i, hi with
  | 0, _ => omega
  | 1, _ => omega
  | 2, _ => omega
  | 3, _ => omega
  | 4, _ => omega
  | 5, _ => omega
  | i + 6, hi => omega

theorem ss_most (D : Int) (l : Nat → Nat) (g : R) (nl : Nat) (o e : List Int) (x : R) (nx : Nat) (env : List Int) (ds : List Bool) (hb : D = 0 → l 0 ≤ 4) : (ssL D g nl o e x nx env ds (l 0)).length ≤ 2401 ∧ ∃ L, L ≤ 4 ∧ ∀ z ∈ ssL D g nl o e x nx env ds (l 0), z.length = L := by
  unfold ssL
  split
  · rename_i h
    have h4 := hb h
    refine ⟨?_, l 0, h4, fun z hz => ?_⟩
    · unfold statesL
      rw [List.length_map]
      refine Nat.le_trans (List.length_filter_le _ _) ?_
      have h1 := prod_size (A := fun i : Nat => optL g nl o e env ds (l 0) (i : Int)) (M := 7) (l 0) (fun i _ => Nat.le_trans (opt_len _ _ _ _ _ _ _ _) (by omega))
      have h2 : 7 ^ (l 0) ≤ 7 ^ 4 := Nat.pow_le_pow_right (by decide) h4
      omega
    · unfold statesL at hz
      obtain ⟨c, _, rfl⟩ := List.mem_map.1 hz
      unfold stateOf
      simp
  · exact ⟨by simp, 0, by omega, fun z hz => (by cases hz)⟩
set_option maxHeartbeats 12800000 in
set_option maxRecDepth 8000 in
theorem walk (p : Nat → Option Addr) (l c : Nat → Nat) (s : Ss) (g : R) (o e : List Int) (x f : R) (ea da : Option Addr) (el ec dl dc : Nat) (env : List Int) (ds : List Bool) (w : World) (h : NetIs w p l s g o e x f) (he : IntRow w ea el env) (hd : BoolRow w da dl ds) :
    Calls Tryz.prog 3 #[netV p l c, .slice ea el ec, .slice da dl dc] w fun e' w' => e' = .returned (.bool true) ∧ Below w.heap.size w w' := by
  have HN := hid h
  have HV := hid he
  have HD := hid hd
  have HVn := hid he.length
  have HDn := hid hd.length
  have me := he.most
  have md := hd.most
  unfold maxLen at me md
  have HM : Hid (∀ i, i < 6 → l i ≤ maxLen) := fun i hi => by
    match i, hi with
    | 0, _ => exact h.routers.most
    | 1, _ => exact h.links.most
    | 2, _ => exact h.origins.most
    | 3, _ => exact h.externals.most
    | 4, _ => exact h.imports.most
    | 5, _ => exact h.filters.most
    | i + 6, hi => exact absurd hi (by omega)
  have HS := hid h.routers.size
  have HO := hid h.origins.length
  have HE := hid h.externals.length
  clear h he hd
  have C1 : ∀ w8 : World, Below ((w.alloc (.cells #[.slice (p 0) (l 0) (c 0), .slice (p 1) (l 1) (c 1), .slice (p 2) (l 2) (c 2), .slice (p 3) (l 3) (c 3), .slice (p 4) (l 4) (c 4), .slice (p 5) (l 5) (c 5)] 28))).heap.size (w.alloc (.cells #[.slice (p 0) (l 0) (c 0), .slice (p 1) (l 1) (c 1), .slice (p 2) (l 2) (c 2), .slice (p 3) (l 3) (c 3), .slice (p 4) (l 4) (c 4), .slice (p 5) (l 5) (c 5)] 28)) w8 → (w8.cell? ⟨w.heap.size, 0, none⟩ = some (.slice (p 0) (l 0) (c 0)) ∧ w8.cell? ⟨w.heap.size, 1, none⟩ = some (.slice (p 1) (l 1) (c 1)) ∧ w8.cell? ⟨w.heap.size, 2, none⟩ = some (.slice (p 2) (l 2) (c 2)) ∧ w8.cell? ⟨w.heap.size, 3, none⟩ = some (.slice (p 3) (l 3) (c 3)) ∧ w8.cell? ⟨w.heap.size, 4, none⟩ = some (.slice (p 4) (l 4) (c 4)) ∧ w8.cell? ⟨w.heap.size, 5, none⟩ = some (.slice (p 5) (l 5) (c 5))) ∧ NetIs w8 p l s g o e x f ∧ IntRow w8 ea el env ∧ BoolRow w8 da dl ds ∧ Below w.heap.size w w8 ∧ w.heap.size < w8.heap.size :=
    fun w8 hb => ⟨⟨keep hb (by simp [go_sem]), keep hb (by simp [go_sem]), keep hb (by simp [go_sem]), keep hb (by simp [go_sem]), keep hb (by simp [go_sem]), keep hb (by simp [go_sem])⟩, (HN.out.below (by repeat (first | exact Below.refl _ _ | assumption | refine Below.drew ?_ | refine Below.alloc ?_ (by first | exact Nat.le_refl _ | omega | (simp; done) | (simp; omega)) _ | refine Below.setCell ?_ (by first | exact Nat.le_refl _ | omega | (simp; done) | (simp; omega)) _))).below hb, (HV.out.below (by repeat (first | exact Below.refl _ _ | assumption | refine Below.drew ?_ | refine Below.alloc ?_ (by first | exact Nat.le_refl _ | omega | (simp; done) | (simp; omega)) _ | refine Below.setCell ?_ (by first | exact Nat.le_refl _ | omega | (simp; done) | (simp; omega)) _))).below hb, (HD.out.below (by repeat (first | exact Below.refl _ _ | assumption | refine Below.drew ?_ | refine Below.alloc ?_ (by first | exact Nat.le_refl _ | omega | (simp; done) | (simp; omega)) _ | refine Below.setCell ?_ (by first | exact Nat.le_refl _ | omega | (simp; done) | (simp; omega)) _))).below hb, (show Below w.heap.size w _ from (by repeat (first | exact Below.refl _ _ | assumption | refine Below.drew ?_ | refine Below.alloc ?_ (by first | exact Nat.le_refl _ | omega | (simp; done) | (simp; omega)) _ | refine Below.setCell ?_ (by first | exact Nat.le_refl _ | omega | (simp; done) | (simp; omega)) _))).trans (hb.mono (by simp)), Nat.lt_of_lt_of_le (by simp) hb.size⟩
  have HC1 := hid C1
  clear C1
  have HAl := hid (ss_most (envC (netB l s g o e x f) el dl (l 3) (l 1) env) l g (l 1) o e x (l 4) env ds (fun h0 => (sceneFace.net_links (env_zero h0).1).1))
  obtain ⟨A, hA⟩ : ∃ A, (ssL (envC (netB l s g o e x f) el dl (l 3) (l 1) env) g (l 1) o e x (l 4) env ds (l 0)) = A := ⟨_, rfl⟩
  have EA := hid hA
  rw [hA] at HAl
  obtain ⟨C, hC⟩ : ∃ C, envC (netB l s g o e x f) el dl (l 3) (l 1) env = C := ⟨_, rfl⟩
  have EC := hid hC
  rw [hC] at EA
  have hdV : decide (env = env) = true := decide_eq_true rfl
  have hdD : decide (ds = ds) = true := decide_eq_true rfl
  have hqC : (C != C) = false := by simp
  clear hC hA
  unfold netV
  by_cases hbig0 : 1048576 < el
  · have d0 : decide ((1048576 : Int) < (el : Int)) = true := decide_eq_true (by omega)
    go_enter Tryz.func3, Tryz.ntmps3
    go_wp2
    go_ret
    exact ⟨rfl, (by repeat (first | exact Below.refl _ _ | assumption | refine Below.drew ?_ | refine Below.alloc ?_ (by first | exact Nat.le_refl _ | omega | (simp; done) | (simp; omega)) _ | refine Below.setCell ?_ (by first | exact Nat.le_refl _ | omega | (simp; done) | (simp; omega)) _))⟩
  have d0 : decide ((1048576 : Int) < (el : Int)) = false := decide_eq_false (by omega)
  by_cases hbig : 1048576 < dl
  · have d1 : decide ((1048576 : Int) < (dl : Int)) = true := decide_eq_true (by omega)
    go_enter Tryz.func3, Tryz.ntmps3
    go_wp2
    go_ret
    exact ⟨rfl, (by repeat (first | exact Below.refl _ _ | assumption | refine Below.drew ?_ | refine Below.alloc ?_ (by first | exact Nat.le_refl _ | omega | (simp; done) | (simp; omega)) _ | refine Below.setCell ?_ (by first | exact Nat.le_refl _ | omega | (simp; done) | (simp; omega)) _))⟩
  have d1 : decide ((1048576 : Int) < (dl : Int)) = false := decide_eq_false (by omega)
  have hel : el ≤ 1048576 := by omega
  have hdl : dl ≤ 1048576 := by omega
  go_enter Tryz.func3, Tryz.ntmps3
  go_wp2_with fail
  refine (szNet p l c s g o e x f 1048576 _ (HN.out.below (by repeat (first | exact Below.refl _ _ | assumption | refine Below.drew ?_ | refine Below.alloc ?_ (by first | exact Nat.le_refl _ | omega | (simp; done) | (simp; omega)) _ | refine Below.setCell ?_ (by first | exact Nat.le_refl _ | omega | (simp; done) | (simp; omega)) _))) (by omega) (by omega)).mono ?_
  rintro e' w1 ⟨r, rfl, hb, hr1, hr2, hr3⟩
  have H3 := hid hr3
  have HB := hid hb
  obtain ⟨⟨q0, q1, q2, q3, q4, q5⟩, hn, hv, hd, hB, hz⟩ := HC1.out w1 hb
  have NW := hid hn
  have VW := hid hv
  have DW := hid hd
  clear hr3 hn hv hd
  by_cases hneg : r < 0
  · clear hb
    go_wp2
    go_ret
    exact ⟨rfl, hB⟩
  have HL := hid (H3.out (by omega))
  have hneg0 : decide (r < 0) = false := decide_eq_false hneg
  have hA0 : A.length ≤ 2401 := HAl.out.1
  obtain ⟨Ln, hLn, hLz⟩ := HAl.out.2
  have HLz := hid hLz
  obtain ⟨T, hT⟩ : ∃ T, Ln * A.length = T := ⟨_, rfl⟩
  have HTT := hid hT
  clear hT hLz
  clear hb hB

  go_wp2_with fail
  refine (toNet p l c s g o e x f _ NW.out HL.out).mono ?_
  rintro e' w2 ⟨Na, rfl, hb, hc⟩
  have HB := hid (HB.out.trans (hb.mono HB.out.size))
  clear q0 q1 q2 q3 q4 q5 hz NW VW DW
  obtain ⟨⟨q0, q1, q2, q3, q4, q5⟩, hn, hv, hd, -, hz⟩ := HC1.out w2 HB.out
  have NW := hid hn
  have VW := hid hv
  have DW := hid hd
  clear hn hv hd
  have CA := hid (hc.net HM.out HS.out HO.out HE.out)
  clear hc hb
  unfold netV
  go_wp2_with fail
  refine (toIntN ea el ec env _ VW.out hel).mono ?_
  rintro e' w3 ⟨Ia, rfl, -, hb, -, hr⟩
  have HB := hid (HB.out.trans (hb.mono HB.out.size))
  have CA := hid (CA.out.below hb)
  clear q0 q1 q2 q3 q4 q5 hz NW VW DW
  obtain ⟨⟨q0, q1, q2, q3, q4, q5⟩, hn, hv, hd, -, hz⟩ := HC1.out w3 HB.out
  have NW := hid hn
  have VW := hid hv
  have DW := hid hd
  clear hn hv hd
  have IA := hid hr
  clear hr hb
  go_wp2_with fail
  refine (toBoolN da dl dc ds _ DW.out hdl).mono ?_
  rintro e' w4 ⟨Ma, rfl, -, hb, -, hr⟩
  have HB := hid (HB.out.trans (hb.mono HB.out.size))
  have CA := hid (CA.out.below hb)
  have IA := hid (IA.out.below hb)
  clear q0 q1 q2 q3 q4 q5 hz NW VW DW
  obtain ⟨⟨q0, q1, q2, q3, q4, q5⟩, hn, hv, hd, -, hz⟩ := HC1.out w4 HB.out
  have NW := hid hn
  have VW := hid hv
  have DW := hid hd
  clear hn hv hd
  have RA := hid hr
  clear hr hb
  go_wp2_with fail
  refine (ss_spec (fun i => some ⟨Na i, 0, none⟩) l l s g o e x f (some ⟨Ia, 0, none⟩) (some ⟨Ma, 0, none⟩) el el dl dl env ds _ CA.out (Nat.le_refl _) (Nat.le_refl _) IA.out RA.out).mono ?_
  rintro e' w6 ⟨X, px, rfl, ho, hps, hb⟩
  rw [EC.out]
  rw [EC.out, EA.out] at hps
  have HB := hid (HB.out.trans (hb.mono HB.out.size))
  clear q0 q1 q2 q3 q4 q5 hz NW VW DW
  obtain ⟨⟨q0, q1, q2, q3, q4, q5⟩, hn, hv, hd, -, hz⟩ := HC1.out w6 HB.out
  have NW := hid hn
  have VW := hid hv
  have DW := hid hd
  clear hn hv hd
  have OX := hid ho
  have LX := hid (fun g (hg : inR X px g) => (rr_in ho hg).2)
  have PX := hid hps
  obtain ⟨ax, cx, hX⟩ := ho.form
  rw [show px.length = A.length by rw [← hps, List.length_map]] at hX
  subst hX
  clear ho hps hb CA IA RA
  have HB6s := hid HB.out.size
  go_wp2_with fail
  refine (toNet p l c s g o e x f _ NW.out HL.out).mono ?_
  rintro e' w7 ⟨Nb, rfl, hb, hc⟩
  have HB := hid (HB.out.trans (hb.mono HB.out.size))
  have OX := hid (OX.out.below hb)
  clear q0 q1 q2 q3 q4 q5 hz NW VW DW
  obtain ⟨⟨q0, q1, q2, q3, q4, q5⟩, hn, hv, hd, -, hz⟩ := HC1.out w7 HB.out
  have NW := hid hn
  have VW := hid hv
  have DW := hid hd
  clear hn hv hd
  have CB := hid hc
  have NL := hid (And.intro (show w6.heap.size ≤ Nb 0 from hc.low) (And.intro hc.up hc.lt))
  clear hc hb
  unfold netV
  go_wp2_with fail
  have HA7 : Hid (Below w7.heap.size w7 (w7.alloc (.cells #[.slice (some ⟨Nb 0, 0, none⟩) (l 0) (l 0), .slice (some ⟨Nb 1, 0, none⟩) (l 1) (l 1), .slice (some ⟨Nb 2, 0, none⟩) (l 2) (l 2), .slice (some ⟨Nb 3, 0, none⟩) (l 3) (l 3), .slice (some ⟨Nb 4, 0, none⟩) (l 4) (l 4), .slice (some ⟨Nb 5, 0, none⟩) (l 5) (l 5)] 38))) := (by repeat (first | exact Below.refl _ _ | assumption | refine Below.drew ?_ | refine Below.alloc ?_ (by first | exact Nat.le_refl _ | omega | (simp; done) | (simp; omega)) _ | refine Below.setCell ?_ (by first | exact Nat.le_refl _ | omega | (simp; done) | (simp; omega)) _))
  refine (toIntN ea el ec env _ (VW.out.below HA7.out) hel).mono ?_
  rintro e' w8 ⟨Ib, rfl, hIb, hb8, hrow, hr⟩
  have hb : Below w7.heap.size w7 w8 := HA7.out.trans (hb8.mono (by simp))
  have IL : Hid (w7.heap.size < Ib ∧ Ib < w8.heap.size) := ⟨by simp at hIb; omega, hrow.lt⟩
  have XC : Hid (∀ w9 : World, (∀ o v, w8.cell? ⟨w7.heap.size, o, none⟩ = some v → w9.cell? ⟨w7.heap.size, o, none⟩ = some v) → (w9.cell? ⟨w7.heap.size, 0, none⟩ = some (.slice (some ⟨Nb 0, 0, none⟩) (l 0) (l 0)) ∧ w9.cell? ⟨w7.heap.size, 1, none⟩ = some (.slice (some ⟨Nb 1, 0, none⟩) (l 1) (l 1)) ∧ w9.cell? ⟨w7.heap.size, 2, none⟩ = some (.slice (some ⟨Nb 2, 0, none⟩) (l 2) (l 2)) ∧ w9.cell? ⟨w7.heap.size, 3, none⟩ = some (.slice (some ⟨Nb 3, 0, none⟩) (l 3) (l 3)) ∧ w9.cell? ⟨w7.heap.size, 4, none⟩ = some (.slice (some ⟨Nb 4, 0, none⟩) (l 4) (l 4)) ∧ w9.cell? ⟨w7.heap.size, 5, none⟩ = some (.slice (some ⟨Nb 5, 0, none⟩) (l 5) (l 5)))) :=
    fun w9 hk => ⟨hk _ _ (keep hb8 (by simp [go_sem])), hk _ _ (keep hb8 (by simp [go_sem])), hk _ _ (keep hb8 (by simp [go_sem])), hk _ _ (keep hb8 (by simp [go_sem])), hk _ _ (keep hb8 (by simp [go_sem])), hk _ _ (keep hb8 (by simp [go_sem]))⟩
  have HB := hid (HB.out.trans (hb.mono HB.out.size))
  have OX := hid (OX.out.below hb)
  have CB := hid (CB.out.below hb)
  clear q0 q1 q2 q3 q4 q5 hz NW VW DW
  obtain ⟨⟨q0, q1, q2, q3, q4, q5⟩, hn, hv, hd, -, hz⟩ := HC1.out w8 HB.out
  have NW := hid hn
  have VW := hid hv
  have DW := hid hd
  clear hn hv hd
  have IB := hid hr
  have IW := hid hrow
  clear hr hrow hb8 hIb hb HA7
  have XK : Hid (∀ o v, w8.cell? ⟨w7.heap.size, o, none⟩ = some v → w8.cell? ⟨w7.heap.size, o, none⟩ = some v) := fun _ _ h => h
  go_wp2_with fail
  refine (toBoolN da dl dc ds _ DW.out hdl).mono ?_
  rintro e' w9 ⟨Mb, rfl, hMb, hb, hrow, hr⟩
  have ML : Hid (w8.heap.size ≤ Mb ∧ Mb < w9.heap.size) := ⟨hMb, hrow.lt⟩
  have HB := hid (HB.out.trans (hb.mono HB.out.size))
  have OX := hid (OX.out.below hb)
  have CB := hid (CB.out.below hb)
  have IB := hid (IB.out.below hb)
  have IW := hid (IW.out.of_block (hb.block _ IW.out.lt))
  have XK := hid (fun o v (h : w8.cell? ⟨w7.heap.size, o, none⟩ = some v) => keep hb (XK.out o v h))
  clear q0 q1 q2 q3 q4 q5 hz NW VW DW
  obtain ⟨⟨q0, q1, q2, q3, q4, q5⟩, hn, hv, hd, -, hz⟩ := HC1.out w9 HB.out
  have NW := hid hn
  have VW := hid hv
  have DW := hid hd
  clear hn hv hd
  have RB := hid hr
  have RW := hid hrow
  clear hr hrow hMb hb
  obtain ⟨x0, x1, x2, x3, x4, x5⟩ := XC.out w9 XK.out
  have z := And.intro IL.out ML.out
  have z7 : w7.heap.size < w9.heap.size := by omega
  clear z
  have CN := hid (CB.out.net HM.out HS.out HO.out HE.out)
  go_wp2_with fail
  refine (ss_impl (fun i => some ⟨Nb i, 0, none⟩) l l s g o e x f (some ⟨Ib, 0, none⟩) (some ⟨Mb, 0, none⟩) el el dl dl env ds _ CN.out (Nat.le_refl _) (Nat.le_refl _) IB.out RB.out).mono ?_
  rintro e' w11 ⟨Y, py, rfl, ho, hps, hb⟩
  rw [EC.out]
  rw [EC.out, EA.out] at hps
  clear CN x0 x1 x2 x3 x4 x5
  have Z := hid (Nat.lt_of_lt_of_le z7 hb.size)
  have HB := hid (HB.out.trans (hb.mono HB.out.size))
  have OX := hid (OX.out.below hb)
  have CB := hid (CB.out.below hb)
  have IB := hid (IB.out.below hb)
  have IW := hid (IW.out.of_block (hb.block _ IW.out.lt))
  have XK := hid (fun o v (h : w8.cell? ⟨w7.heap.size, o, none⟩ = some v) => keep hb (XK.out o v h))
  have RB := hid (RB.out.below hb)
  have RW := hid (RW.out.of_block (hb.block _ RW.out.lt))
  clear q0 q1 q2 q3 q4 q5 hz NW VW DW
  obtain ⟨⟨q0, q1, q2, q3, q4, q5⟩, hn, hv, hd, -, hz⟩ := HC1.out w11 HB.out
  have NW := hid hn
  have VW := hid hv
  have DW := hid hd
  clear hn hv hd
  have OY := hid ho
  have GY := hid (fun g (hg : inR Y py g) => rr_in ho hg)
  have PY := hid hps
  obtain ⟨ay, cy, hY⟩ := ho.form
  rw [show py.length = A.length by rw [← hps, List.length_map]] at hY
  subst hY
  clear ho hps hb z7
  go_wp2_with fail
  refine (eq_rr OY.out OX.out (PY.out.trans PX.out.symm) (by omega)).mono ?_
  rintro e' w12 ⟨rfl, hb⟩
  have HB := hid (HB.out.trans (hb.mono HB.out.size))
  have OX := hid (OX.out.below hb)
  have CB := hid (CB.out.below hb)
  have IB := hid (IB.out.below hb)
  have IW := hid (IW.out.of_block (hb.block _ IW.out.lt))
  have XK := hid (fun o v (h : w8.cell? ⟨w7.heap.size, o, none⟩ = some v) => keep hb (XK.out o v h))
  have RB := hid (RB.out.below hb)
  have RW := hid (RW.out.of_block (hb.block _ RW.out.lt))
  have OY := hid (OY.out.below hb)
  have Z := hid (Nat.lt_of_lt_of_le Z.out hb.size)
  clear q0 q1 q2 q3 q4 q5 hz NW VW DW
  obtain ⟨⟨q0, q1, q2, q3, q4, q5⟩, hn, hv, hd, -, hz⟩ := HC1.out w12 HB.out
  have NW := hid hn
  have VW := hid hv
  have DW := hid hd
  clear hn hv hd
  clear hb
  obtain ⟨x0, x1, x2, x3, x4, x5⟩ := XC.out w12 XK.out
  have zz := Z.out
  have CN := hid (CB.out.net HM.out HS.out HO.out HE.out)
  go_wp2_with fail
  go_region_with (first
    | (go_at_call 6; refine (toNet p l c s g o e x f _ (NW.out.below (Below.refl _ w12).drew) HL.out).mono ?_; rintro e' w13 ⟨N9, rfl, hb9, hc9⟩; have hb9' : Below w12.heap.size w12 w13 := ((Below.refl _ w12).drew).trans hb9; obtain ⟨x0, x1, x2, x3, x4, x5⟩ := XC.out w13 (fun o v h => keep hb9' (XK.out o v h)); clear hb9)
    | (go_at_call 11; refine (eqNet (fun i => some ⟨Nb i, 0, none⟩) (fun i => some ⟨N9 i, 0, none⟩) l l l s g o e x f _ (CN.out.below hb9') (hc9.net HM.out HS.out HO.out HE.out)).mono ?_; rintro e' w14 ⟨rfl, hb14⟩))
  all_goals
    have hb : Below w12.heap.size w12 w14 := hb9'.trans (hb14.mono hb9'.size)
    clear hb9' hb14 hc9 CN x0 x1 x2 x3 x4 x5 zz
    have HB := hid (HB.out.trans (hb.mono HB.out.size))
    have OX := hid (OX.out.below hb)
    have CB := hid (CB.out.below hb)
    have IB := hid (IB.out.below hb)
    have IW := hid (IW.out.of_block (hb.block _ IW.out.lt))
    have XK := hid (fun o v (h : w8.cell? ⟨w7.heap.size, o, none⟩ = some v) => keep hb (XK.out o v h))
    have RB := hid (RB.out.below hb)
    have RW := hid (RW.out.of_block (hb.block _ RW.out.lt))
    have OY := hid (OY.out.below hb)
    have Z := hid (Nat.lt_of_lt_of_le Z.out hb.size)
    clear q0 q1 q2 q3 q4 q5 hz NW VW DW
    obtain ⟨⟨q0, q1, q2, q3, q4, q5⟩, hn, hv, hd, -, hz⟩ := HC1.out w14 HB.out
    have NW := hid hn
    have VW := hid hv
    have DW := hid hd
    clear hn hv hd
    clear hb
    go_wp2_with fail
    refine (toIntN ea el ec env _ VW.out hel).mono ?_
    rintro e' w15 ⟨Ic, rfl, -, hb, -, hr⟩
    have HB := hid (HB.out.trans (hb.mono HB.out.size))
    have OX := hid (OX.out.below hb)
    have CB := hid (CB.out.below hb)
    have IB := hid (IB.out.below hb)
    have IW := hid (IW.out.of_block (hb.block _ IW.out.lt))
    have XK := hid (fun o v (h : w8.cell? ⟨w7.heap.size, o, none⟩ = some v) => keep hb (XK.out o v h))
    have RB := hid (RB.out.below hb)
    have RW := hid (RW.out.of_block (hb.block _ RW.out.lt))
    have OY := hid (OY.out.below hb)
    have Z := hid (Nat.lt_of_lt_of_le Z.out hb.size)
    clear q0 q1 q2 q3 q4 q5 hz NW VW DW
    obtain ⟨⟨q0, q1, q2, q3, q4, q5⟩, hn, hv, hd, -, hz⟩ := HC1.out w15 HB.out
    have NW := hid hn
    have VW := hid hv
    have DW := hid hd
    clear hn hv hd
    have IC := hid hr
    clear hr hb
    go_wp2_with fail
    refine (eqIntS _ _ _ _ _ _ env env _ IB.out IC.out).mono ?_
    rintro e' w16 ⟨rfl, n16, rfl⟩
    have hb : Below w15.heap.size w15 (w15.drewN n16) := below_drewN _ _
    generalize w15.drewN n16 = w16 at *
    have HB := hid (HB.out.trans (hb.mono HB.out.size))
    have OX := hid (OX.out.below hb)
    have CB := hid (CB.out.below hb)
    have IB := hid (IB.out.below hb)
    have IW := hid (IW.out.of_block (hb.block _ IW.out.lt))
    have XK := hid (fun o v (h : w8.cell? ⟨w7.heap.size, o, none⟩ = some v) => keep hb (XK.out o v h))
    have RB := hid (RB.out.below hb)
    have RW := hid (RW.out.of_block (hb.block _ RW.out.lt))
    have OY := hid (OY.out.below hb)
    have Z := hid (Nat.lt_of_lt_of_le Z.out hb.size)
    clear q0 q1 q2 q3 q4 q5 hz NW VW DW
    obtain ⟨⟨q0, q1, q2, q3, q4, q5⟩, hn, hv, hd, -, hz⟩ := HC1.out w16 HB.out
    have NW := hid hn
    have VW := hid hv
    have DW := hid hd
    clear hn hv hd
    clear hb IC
    go_wp2_with fail
    refine (toBoolN da dl dc ds _ DW.out hdl).mono ?_
    rintro e' w17 ⟨Mc, rfl, -, hb, -, hr⟩
    have HB := hid (HB.out.trans (hb.mono HB.out.size))
    have OX := hid (OX.out.below hb)
    have CB := hid (CB.out.below hb)
    have IB := hid (IB.out.below hb)
    have IW := hid (IW.out.of_block (hb.block _ IW.out.lt))
    have XK := hid (fun o v (h : w8.cell? ⟨w7.heap.size, o, none⟩ = some v) => keep hb (XK.out o v h))
    have RB := hid (RB.out.below hb)
    have RW := hid (RW.out.of_block (hb.block _ RW.out.lt))
    have OY := hid (OY.out.below hb)
    have Z := hid (Nat.lt_of_lt_of_le Z.out hb.size)
    clear q0 q1 q2 q3 q4 q5 hz NW VW DW
    obtain ⟨⟨q0, q1, q2, q3, q4, q5⟩, hn, hv, hd, -, hz⟩ := HC1.out w17 HB.out
    have NW := hid hn
    have VW := hid hv
    have DW := hid hd
    clear hn hv hd
    have RC := hid hr
    clear hr hb
    go_wp2_with fail
    refine (eqBoolS _ _ _ _ _ _ ds ds _ RB.out RC.out).mono ?_
    rintro e' w18 ⟨rfl, n18, rfl⟩
    have hb : Below w17.heap.size w17 (w17.drewN n18) := below_drewN _ _
    generalize w17.drewN n18 = w18 at *
    have HB := hid (HB.out.trans (hb.mono HB.out.size))
    have OX := hid (OX.out.below hb)
    have CB := hid (CB.out.below hb)
    have IB := hid (IB.out.below hb)
    have IW := hid (IW.out.of_block (hb.block _ IW.out.lt))
    have XK := hid (fun o v (h : w8.cell? ⟨w7.heap.size, o, none⟩ = some v) => keep hb (XK.out o v h))
    have RB := hid (RB.out.below hb)
    have RW := hid (RW.out.of_block (hb.block _ RW.out.lt))
    have OY := hid (OY.out.below hb)
    have Z := hid (Nat.lt_of_lt_of_le Z.out hb.size)
    clear q0 q1 q2 q3 q4 q5 hz NW VW DW
    obtain ⟨⟨q0, q1, q2, q3, q4, q5⟩, hn, hv, hd, -, hz⟩ := HC1.out w18 HB.out
    have NW := hid hn
    have VW := hid hv
    have DW := hid hd
    clear hn hv hd
    clear hb RC
    obtain ⟨x0, x1, x2, x3, x4, x5⟩ := XC.out w18 XK.out
    have zz := Z.out
    go_wp2_with fail
    refine (mark_net _ Nb l s g o e x f _ CB.out HL.out).mono ?_
    rintro e' w21 ⟨r21, rfl, hr21, hr21', hch⟩
    clear x0 x1 x2 x3 x4 x5 zz
    have nX : Hid (∀ g, inR (.slice ax A.length cx) px g → ¬ Ns Nb g) := fun g hg => nil_ns (a := 0) (b := 0) NL.out.2.1 (.inl (by have := LX.out g hg; have := NL.out; have := IL.out; have := ML.out; have := HB6s.out; omega))
    have nY : Hid (∀ g, inR (.slice ay A.length cy) py g → ¬ Ns Nb g) := fun g hg => nil_ns (a := 0) (b := 0) NL.out.2.1 (.inr (by have := GY.out g hg; have := NL.out; have := IL.out; have := ML.out; have := HB6s.out; omega))
    have nI : Hid (¬ Ns Nb Ib) := nil_ns (a := 0) (b := 0) NL.out.2.1 (.inr (by have := NL.out; have := IL.out; have := ML.out; have := HB6s.out; omega))
    have nM : Hid (¬ Ns Nb Mb) := nil_ns (a := 0) (b := 0) NL.out.2.1 (.inr (by have := NL.out; have := IL.out; have := ML.out; have := HB6s.out; omega))
    have HB := hid (Ch.below HB.out hch (fun b hb => Nat.le_trans HB6s.out (ns_low NL.out.2.1 (by have := NL.out; omega) hb)))
    have OX := hid (rr_blocks OX.out (fun g hg hl => hch.block g hl (nX.out g hg)))
    have OY := hid (rr_blocks OY.out (fun g hg hl => hch.block g hl (nY.out g hg)))
    have IW := hid (IW.out.of_block (hch.block _ IW.out.lt nI.out))
    have RW := hid (RW.out.of_block (hch.block _ RW.out.lt nM.out))
    clear CB IB RB XK Z hch nI nM nX nY
    clear q0 q1 q2 q3 q4 q5 hz NW VW DW
    obtain ⟨⟨q0, q1, q2, q3, q4, q5⟩, hn, hv, hd, -, hz⟩ := HC1.out w21 HB.out
    have NW := hid hn
    have VW := hid hv
    have DW := hid hd
    clear hn hv hd
    have IW1 : Hid (∃ f, w21.rowIs Ib 3 (el * 1) f) := ⟨_, by rw [Nat.mul_one]; exact IW.out⟩
    go_wp2_with fail
    refine (mark_int Ib el r21 _ IW1.out (by omega) (by omega) hel).mono ?_
    rintro e' w22 ⟨rfl, hg⟩
    have HB : Hid (Below (w.alloc (.cells #[.slice (p 0) (l 0) (c 0), .slice (p 1) (l 1) (c 1), .slice (p 2) (l 2) (c 2), .slice (p 3) (l 3) (c 3), .slice (p 4) (l 4) (c 4), .slice (p 5) (l 5) (c 5)] 28)).heap.size (w.alloc (.cells #[.slice (p 0) (l 0) (c 0), .slice (p 1) (l 1) (c 1), .slice (p 2) (l 2) (c 2), .slice (p 3) (l 3) (c 3), .slice (p 4) (l 4) (c 4), .slice (p 5) (l 5) (c 5)] 28)) w22) := HB.out.grown hg HB.out.size (fun k hk => by injection hk with hk; subst hk; have := NL.out; have := IL.out; have := ML.out; have := HB6s.out; omega)
    have OX := hid (rr_keeps OX.out hg (fun g hg' e => by injection e with e; subst e; have := LX.out _ hg'; have := NL.out; have := IL.out; have := ML.out; have := HB6s.out; omega))
    have OY := hid (rr_keeps OY.out hg (fun g hg' e => by injection e with e; subst e; have := GY.out _ hg'; have := NL.out; have := IL.out; have := ML.out; have := HB6s.out; omega))
    have RW := hid (RW.out.of_block (hg.block _ RW.out.lt (fun e => by injection e with e; have := NL.out; have := IL.out; have := ML.out; have := HB6s.out; omega)))
    have r22 : ∃ q : Int, r21 + 1 * (el : Int) = q ∧ 1 ≤ q ∧ q ≤ 30000000 := ⟨_, rfl, by omega, by omega⟩
    obtain ⟨q22, hq22, hq22a, hq22b⟩ := r22
    rw [hq22]
    clear IW IW1 hg hq22
    clear q0 q1 q2 q3 q4 q5 hz NW VW DW
    obtain ⟨⟨q0, q1, q2, q3, q4, q5⟩, hn, hv, hd, -, hz⟩ := HC1.out w22 HB.out
    have NW := hid hn
    have VW := hid hv
    have DW := hid hd
    clear hn hv hd
    go_wp2_with fail
    refine (mark_bool Mb dl q22 _ ⟨_, RW.out⟩ (by omega) (by omega) hdl).mono ?_
    rintro e' w23 ⟨rfl, hg⟩
    have HB : Hid (Below (w.alloc (.cells #[.slice (p 0) (l 0) (c 0), .slice (p 1) (l 1) (c 1), .slice (p 2) (l 2) (c 2), .slice (p 3) (l 3) (c 3), .slice (p 4) (l 4) (c 4), .slice (p 5) (l 5) (c 5)] 28)).heap.size (w.alloc (.cells #[.slice (p 0) (l 0) (c 0), .slice (p 1) (l 1) (c 1), .slice (p 2) (l 2) (c 2), .slice (p 3) (l 3) (c 3), .slice (p 4) (l 4) (c 4), .slice (p 5) (l 5) (c 5)] 28)) w23) := HB.out.grown hg HB.out.size (fun k hk => by injection hk with hk; subst hk; have := NL.out; have := IL.out; have := ML.out; have := HB6s.out; omega)
    have OX := hid (rr_keeps OX.out hg (fun g hg' e => by injection e with e; subst e; have := LX.out _ hg'; have := NL.out; have := IL.out; have := ML.out; have := HB6s.out; omega))
    have OY := hid (rr_keeps OY.out hg (fun g hg' e => by injection e with e; subst e; have := GY.out _ hg'; have := NL.out; have := IL.out; have := ML.out; have := HB6s.out; omega))
    clear RW hg
    clear q0 q1 q2 q3 q4 q5 hz NW VW DW
    obtain ⟨⟨q0, q1, q2, q3, q4, q5⟩, hn, hv, hd, -, hz⟩ := HC1.out w23 HB.out
    have NW := hid hn
    have VW := hid hv
    have DW := hid hd
    clear hn hv hd
    have k0 : decide (q22 + (dl : Int) < 0) = false := decide_eq_false (by omega)
    go_wp2_with fail
    refine (eq_rr OY.out OX.out (PY.out.trans PX.out.symm) (by omega)).mono ?_
    rintro e' w25 ⟨rfl, hb⟩
    clear k0
    have HB := hid (HB.out.trans (hb.mono HB.out.size))
    have OX := hid (OX.out.below hb)
    have OY := hid (OY.out.below hb)
    clear q0 q1 q2 q3 q4 q5 hz NW VW DW
    obtain ⟨⟨q0, q1, q2, q3, q4, q5⟩, hn, hv, hd, -, hz⟩ := HC1.out w25 HB.out
    have NW := hid hn
    have VW := hid hv
    have DW := hid hd
    clear hn hv hd
    clear hb
    go_wp2_with fail
    refine (mark_rr (L := Ln) (m := 1) OY.out (fun p hp => HLz.out p.2 (by rw [← PY.out]; exact List.mem_map.2 ⟨p, hp, rfl⟩)) (by omega) (by omega) hLn hA0).mono ?_
    rintro e' w26 ⟨rfl, hmk, hcg⟩
    rw [HTT.out]
    have HB : Hid (Below (w.alloc (.cells #[.slice (p 0) (l 0) (c 0), .slice (p 1) (l 1) (c 1), .slice (p 2) (l 2) (c 2), .slice (p 3) (l 3) (c 3), .slice (p 4) (l 4) (c 4), .slice (p 5) (l 5) (c 5)] 28)).heap.size (w.alloc (.cells #[.slice (p 0) (l 0) (c 0), .slice (p 1) (l 1) (c 1), .slice (p 2) (l 2) (c 2), .slice (p 3) (l 3) (c 3), .slice (p 4) (l 4) (c 4), .slice (p 5) (l 5) (c 5)] 28)) w26) := chg_below HB.out hcg HB.out.size (fun b hb => by have := GY.out b (.inr hb); have := NL.out; have := IL.out; have := ML.out; have := HB6s.out; omega)
    have OX := hid (rr_blocks OX.out (fun g hg hl => hcg.block g hl (fun hx => by have := GY.out g (.inr hx); have := LX.out g hg; have := NL.out; have := IL.out; have := ML.out; have := HB6s.out; omega)))
    have RM := hid hmk
    clear OY hmk hcg
    clear q0 q1 q2 q3 q4 q5 hz NW VW DW
    obtain ⟨⟨q0, q1, q2, q3, q4, q5⟩, hn, hv, hd, -, hz⟩ := HC1.out w26 HB.out
    have NW := hid hn
    have VW := hid hv
    have DW := hid hd
    clear hn hv hd
    have hq1 : ((1 : Int) + 4 * (T : Int) != 1 + 4 * (T : Int)) = false := by simp
    have hq2 : decide ((1 : Int) + 4 * (T : Int) < 0) = false := decide_eq_false (by omega)
    go_wp2_with fail
    refine (held_rr (c := cy) RM.out (by omega) (by omega) hLn hA0).mono ?_
    rintro e' w27 ⟨rfl, hw⟩
    have hw := hw.symm
    subst hw
    rw [HTT.out]
    go_wp2_with fail
    refine (toNet p l c s g o e x f _ NW.out HL.out).mono ?_
    rintro e' w28 ⟨Nd, rfl, hb, hc⟩
    have HB := hid (HB.out.trans (hb.mono HB.out.size))
    have OX := hid (OX.out.below hb)
    have RM := hid (RM.out.below hb)
    clear q0 q1 q2 q3 q4 q5 hz NW VW DW
    obtain ⟨⟨q0, q1, q2, q3, q4, q5⟩, hn, hv, hd, -, hz⟩ := HC1.out w28 HB.out
    have NW := hid hn
    have VW := hid hv
    have DW := hid hd
    clear hn hv hd
    have CA := hid (hc.net HM.out HS.out HO.out HE.out)
    clear hc hb
    unfold netV
    go_wp2_with fail
    refine (toIntN ea el ec env _ VW.out hel).mono ?_
    rintro e' w29 ⟨Id, rfl, -, hb, -, hr⟩
    have HB := hid (HB.out.trans (hb.mono HB.out.size))
    have OX := hid (OX.out.below hb)
    have RM := hid (RM.out.below hb)
    have CA := hid (CA.out.below hb)
    clear q0 q1 q2 q3 q4 q5 hz NW VW DW
    obtain ⟨⟨q0, q1, q2, q3, q4, q5⟩, hn, hv, hd, -, hz⟩ := HC1.out w29 HB.out
    have NW := hid hn
    have VW := hid hv
    have DW := hid hd
    clear hn hv hd
    have IA := hid hr
    clear hr hb
    go_wp2_with fail
    refine (toBoolN da dl dc ds _ DW.out hdl).mono ?_
    rintro e' w30 ⟨Md, rfl, -, hb, -, hr⟩
    have HB := hid (HB.out.trans (hb.mono HB.out.size))
    have OX := hid (OX.out.below hb)
    have RM := hid (RM.out.below hb)
    have CA := hid (CA.out.below hb)
    have IA := hid (IA.out.below hb)
    clear q0 q1 q2 q3 q4 q5 hz NW VW DW
    obtain ⟨⟨q0, q1, q2, q3, q4, q5⟩, hn, hv, hd, -, hz⟩ := HC1.out w30 HB.out
    have NW := hid hn
    have VW := hid hv
    have DW := hid hd
    clear hn hv hd
    have RA := hid hr
    clear hr hb
    go_wp2_with fail
    refine (ss_impl (fun i => some ⟨Nd i, 0, none⟩) l l s g o e x f (some ⟨Id, 0, none⟩) (some ⟨Md, 0, none⟩) el el dl dl env ds _ CA.out (Nat.le_refl _) (Nat.le_refl _) IA.out RA.out).mono ?_
    rintro e' w32 ⟨Z, pz, rfl, ho, hps, hb⟩
    rw [EC.out]
    rw [EC.out, EA.out] at hps
    have HB := hid (HB.out.trans (hb.mono HB.out.size))
    have OX := hid (OX.out.below hb)
    have RM := hid (RM.out.below hb)
    clear q0 q1 q2 q3 q4 q5 hz NW VW DW
    obtain ⟨⟨q0, q1, q2, q3, q4, q5⟩, hn, hv, hd, -, hz⟩ := HC1.out w32 HB.out
    have NW := hid hn
    have VW := hid hv
    have DW := hid hd
    clear hn hv hd
    have PZ := hid hps
    obtain ⟨az, cz, hZ⟩ := ho.form
    rw [show pz.length = A.length by rw [← hps, List.length_map]] at hZ
    subst hZ
    have RZ := hid ho
    clear ho hps hb CA IA RA
    go_wp2_with fail
    refine (eq_rr RZ.out OX.out (PZ.out.trans PX.out.symm) (by omega)).mono ?_
    rintro e' w33 ⟨rfl, hb⟩
    have HB := hid (HB.out.trans (hb.mono HB.out.size))
    have OX := hid (OX.out.below hb)
    have RM := hid (RM.out.below hb)
    clear q0 q1 q2 q3 q4 q5 hz NW VW DW
    obtain ⟨⟨q0, q1, q2, q3, q4, q5⟩, hn, hv, hd, -, hz⟩ := HC1.out w33 HB.out
    have NW := hid hn
    have VW := hid hv
    have DW := hid hd
    clear hn hv hd
    clear hb RZ
    go_wp2_with fail
    refine (held_rr (c := cy) RM.out (by omega) (by omega) hLn hA0).mono ?_
    rintro e' w34 ⟨rfl, hw⟩
    have hw := hw.symm
    subst hw
    rw [HTT.out]
    go_wp2
    go_ret
    exact ⟨rfl, (HC1.out _ HB.out).2.2.2.2.1⟩


theorem own : ownKnob Tryz.prog.godebug = none := by kernel_rfl
theorem laidOut : laidOutB Tryz.prog = true := by kernel_rfl

set_option maxRecDepth 100000 in
theorem lifted (os : Os) (started : os.Started) (H : Type) (enc : TypeId × Value → H) :
    ReturnsInHanded {} Tryz.checked os 3 .any (Rows.fnExactStableStatesSpec.pre6 enc Tryz.prog Tryz.f3 Rows.fnExactStableStatesRow.domain false) (Rows.fnExactStableStatesSpec.post enc Tryz.prog Tryz.f3 false true false false) := by
  refine returnsInHanded_of_change (C := Tryz.checked) own started (by kernel_rfl) Tryz.func3
    (ChangeSpec.witness6 (enc := enc) (C := Tryz.checked) false ⟨#[], #[.agg #[.slice none 0 0, .slice none 0 0, .slice none 0 0, .slice none 0 0, .slice none 0 0, .slice none 0 0], .slice none 0 0, .slice none 0 0], []⟩ 8 (by kernel_rfl) (by kernel_rfl) (by kernel_rfl) (by kernel_rfl)) ?_
  intro W base args ds gs before hval0 hW hcnd _
  have hval : ∀ (j : Nat) t v, Tryz.f3.params[j]? = some t → args[j]? = some v → Value.okWide Tryz.prog W .any base t v := hval0
  have hW' := hW
  obtain ⟨p, q, hA0, hV, rfl, hfz, hnd⟩ := hW
  have hA : DataW.TrodAll enc Tryz.prog W 0 (fun _ => true) true Tryz.f3.params.toList args.toList ds p := hA0
  rw [Tryz.params3] at hA hval
  obtain ⟨v0, vs0, d0, ds0, p0, q0, hargs, rfl, rfl, h0, r0⟩ := trodAll_cons hA
  obtain ⟨v1, vs1, d1, ds1, p1, q1, rfl, rfl, rfl, h1, r1⟩ := trodAll_cons r0
  obtain ⟨v2, vs2, d2, ds2, p2, q2, rfl, rfl, rfl, h2, r2⟩ := trodAll_cons r1
  obtain ⟨rfl, rfl, rfl⟩ := trodAll_nil r2
  obtain rfl : args = #[v0, v1, v2] := by cases args; simp_all
  obtain ⟨rfl, rfl⟩ := trodVars_none hV
  have k0 := h0
  have lt0 : ∀ x ∈ p0, x.block < W.heap.size := by obtain ⟨m, hm⟩ := k0; exact DataW.trod_lt m _ _ _ hm
  have k1 := h1
  have lt1 : ∀ x ∈ p1, x.block < W.heap.size := by obtain ⟨m, hm⟩ := k1; exact DataW.trod_lt m _ _ _ hm
  have k2 := h2
  have lt2 : ∀ x ∈ p2, x.block < W.heap.size := by obtain ⟨m, hm⟩ := k2; exact DataW.trod_lt m _ _ _ hm
  obtain ⟨p, l, c, s, g, o, e, x, f, rfl, hnet⟩ := net_of_trod (hval 0 28 v0 rfl rfl) h0
  obtain ⟨ea, el, ec, rfl⟩ := okWide_slice Tryz.underlying24 (hval 1 24 v1 rfl rfl)
  obtain ⟨da, dl, dc, rfl⟩ := okWide_slice Tryz.underlying29 (hval 2 29 v2 rfl rfl)
  obtain ⟨ze, hze⟩ : ∃ zs, IntRow W ea el zs := by
    obtain ⟨fuel, hf⟩ := h1
    obtain ⟨a', l', c', zs, e, hb, _⟩ := row_of_trod Tryz.underlying24 Tryz.underlying3 (by kernel_rfl) (by simpa [Value.cells] using hf)
    cases e
    exact ⟨zs, hb⟩
  obtain ⟨zd, hzd⟩ : ∃ zs, BoolRow W da dl zs := by
    obtain ⟨fuel, hf⟩ := h2
    obtain ⟨a', l', c', zs, e, hb⟩ := bools_of_trod Tryz.underlying29 Tryz.underlying4 (by kernel_rfl) (by simpa [Value.cells] using hf)
    cases e
    exact ⟨zs, hb⟩
  clear hA0 hval0
  refine (walk p l c s g o e x f ea da el ec dl dc ze zd W hnet hze hzd).mono fun e W' ⟨he, bel⟩ => ?_
  subst he
  exact ⟨_, rfl, _, _, _, [], _, [], hW', trodAll_mk1 (shut_bool Tryz.underlying4 _), (trodAll_cons_mk (Below.trod laidOut (by kernel_rfl) (of_decide_eq_true (by kernel_rfl)) k0 bel lt0) (trodAll_cons_mk (Below.trod laidOut (by kernel_rfl) (of_decide_eq_true (by kernel_rfl)) k1 bel lt1) (trodAll_cons_mk (Below.trod laidOut (by kernel_rfl) (of_decide_eq_true (by kernel_rfl)) k2 bel lt2) trodAll_mk0))), rfl, bel.frame _, fun h => by cases h⟩

theorem over : Rows.fnExactStableStatesRow.holds Tryz.pinned (OpenSpec.ofChange Rows.fnExactStableStatesSpec) :=
  OpenClaim.holds_of_wide 3 Tryz.f3 rfl rfl rfl rfl rfl rfl rfl ⟨rfl, rfl, rfl, rfl, rfl⟩ rfl rfl rfl rfl rfl (by kernel_rfl) Tryz.func3 (by kernel_rfl)
    (of_decide_eq_true (by kernel_rfl)) (by unfold Func.isWrapper; first | (rw [if_pos (by decide +kernel)]; kernel_rfl) | (rw [if_neg (by decide +kernel)]; exact ⟨rfl, rfl⟩))
    (fun os started H enc _ => lifted os started H enc)
end Go.Proofs.YtoaeieehbplggaaGreat.fnExactStableStates
namespace Go.Proofs.YtoaeieehbplggaaGreat
theorem fnExactStableStates_holds : Rows.FnExactStableStatesSaid := fnExactStableStates.over
end Go.Proofs.YtoaeieehbplggaaGreat
