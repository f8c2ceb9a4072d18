/- ChkRup; As: one text, so that the claim has fewer files. -/
import Derived.Test.YtpfecijahiikhaaGreatDoorPart34
import Derived.Test.YtpfecijahiikhaaGreatDoorSolSupI
import Derived.Test.YtpfecijahiikhaaGreatDoorPart35
import Derived.Test.YtpfecijahiikhaaGreatDoorPart1
import Derived.Test.YtpfecijahiikhaaGreatDoorTie
import Derived.WalkKit
import Derived.LaidEql
import Derived.Stop.Asserts
import Derived.RowKitTokens
/- A checker of the program tells whether a clause is RUP (isRup); conditions: clauses of at most 40 variables, lengths that fit. -/
namespace Go.Proofs.YtpfecijahiikhaaGreatDoor.chkRup
open Go.RowKit Go.Deep Go.Maps Go base sets setsOf solSets solOps solMath solHold solMem solAddI solClose solTrail solBackI solSupI chkNew chkMath
set_option linter.unusedVariables false
set_option linter.unusedSimpArgs false

theorem always_impl (a b : Nat) (w : World) (ha : a < 18446744073709551616) (hb : b < 18446744073709551616) :
    Calls Tryz.prog 42 #[.agg #[.int .u64 a, .int .u64 b]] w fun e w' => e = .returned (.bool (meetL (a, b) (turnL (a, b)))) ∧ Below w.heap.size w w' := by
  have HT := hid (fun w : World => turned_impl a b w)
  have HM : Hid (∀ w : World, Calls Tryz.prog 48 #[.agg #[.int .u64 a, .int .u64 b], .agg #[.int .u64 b, .int .u64 a]] w fun e w' => e = .returned (.bool (meetL (a, b) (turnL (a, b)))) ∧ Below w.heap.size w w') := hid (fun w => meets_impl a b b a w ha hb hb ha)
  generalize meetL (a, b) (turnL (a, b)) = m at *
  go_enter Tryz.func42, Tryz.ntmps42
  go_wp2_with fail
  go_region_with (first
    | (go_at_call 44; refine (HT.out _).mono ?_; rintro e1 w1 ⟨rfl, hb1⟩; have HB1 := hid ((show Below w.heap.size w _ from (by repeat (first | exact Below.refl _ _ | assumption | refine netSem.bdn ?_ _ | refine Below.drew ?_ | refine Below.alloc ?_ (by first | exact Nat.le_refl _ | omega | (simp; done) | (simp; omega)) _))).trans (hb1.mono (by simp))); have c0 : w1.cell? ⟨w.heap.size, 0, none⟩ = some (.int .u64 a) := keep hb1 (by simp [go_sem]); have c1 : w1.cell? ⟨w.heap.size, 1, none⟩ = some (.int .u64 b) := keep hb1 (by simp [go_sem]); clear hb1)
    | (go_at_call 48; refine (HM.out _).mono ?_; rintro e2 w2 ⟨rfl, hb2⟩; have HB2 := hid (HB1.out.trans (hb2.mono HB1.out.size)); clear hb2))
  all_goals
    go_wp2
    go_ret
    exact ⟨rfl, HB2.out⟩
set_option maxHeartbeats 3200000 in
set_option maxRecDepth 8000 in
theorem isRup_impl (M mb : Nat) (F : Nat → Value) (V : Int → Value) (cs : List LS) (s : Sv) (w : World) (h : Sol 0 M mb F V s w) (hv0 : V 0 = nilV) (hk : Chk cs s) (hlen : cs.length ≤ 8000000000000) (C1 C2 : Nat) (hc : Wf (C1, C2)) :
    Calls Tryz.prog 21 #[.pointer (some ⟨M, 0, none⟩), .agg #[.int .u64 C1, .int .u64 C2]] w fun e w' => e = .returned (.bool (rupS s (C1, C2)).2) ∧ ∃ F' V', Sol 0 M mb F' V' (rupS s (C1, C2)).1 w' ∧ V' 0 = nilV ∧ Chg M mb (blk 0 F V) (blk 0 F' V') w w' ∧ F' 2 = F 2 := by
  have HS := hid h
  have HV0 := hid hv0
  have HK := hid hk
  have hcl := hc.lt
  dsimp only at hcl
  have HAl := hid (fun w : World => always_impl C1 C2 w hcl.1 hcl.2)
  have HTu := hid (fun w : World => turned_impl C1 C2 w)
  obtain ⟨m, hm⟩ : ∃ m, meetL (C1, C2) (turnL (C1, C2)) = m := ⟨_, rfl⟩
  rw [hm] at HAl
  have HM := hid hm
  have hMl := h.lt.1
  have k10 := h.cell (i := 10) (by omega)
  rw [h.f10] at k10
  obtain ⟨f, hf⟩ : ∃ f, s.F = f := ⟨_, rfl⟩
  rw [hf] at k10
  have HF := hid hf
  have hCl : s.C.length ≤ 8000000000000 := by rw [hk.C]; exact hlen
  have HWc := hid hc
  clear h hv0 hk hcl hm hf hc
  by_cases hF : f = -1
  · have d1 : (f == -1) = true := by simp [hF]
    have d2 : (f != -1) = false := by simp [hF]
    cases m with
    | true =>
      have HR : Hid (rupS s (C1, C2) = (s, true)) := hid (by unfold rupS; rw [if_pos (.inr HM.out)])
      clear hF
      go_enter Tryz.func21, Tryz.ntmps21
      go_wp2_with fail
      refine (HAl.out _).mono ?_
      rintro e w1 ⟨rfl, hb1⟩
      have HB1 := hid ((show Below w.heap.size w _ from (by repeat (first | exact Below.refl _ _ | assumption | refine Below.drew ?_ | refine Below.alloc ?_ (by first | exact Nat.le_refl _ | omega | (simp; done) | (simp; omega)) _ | refine Below.setCell ?_ (by first | exact Nat.le_refl _ | omega | (simp; done) | (simp; omega)) _))).trans (hb1.mono (by simp)))
      clear hb1
      go_wp2_with fail
      go_ret
      rw [HR.out]
      exact ⟨rfl, F, V, HS.out.below HB1.out, HV0.out, Chg.below HB1.out, rfl⟩
    | false =>
      have hsF : s.F = -1 := HF.out.trans hF
      have hsD : s.D = [] := HK.out.still.resolve_left (fun e => e hsF)
      have hmm : ¬ meetL (C1, C2) (turnL (C1, C2)) = true := by rw [HM.out]; decide
      have HSu := hid (fun (W : World) (h : Sol 0 M mb F V s W) => suppose_impl (0, 0) M mb F V s W h HV0.out HK.out.full hsF hsD HK.out.stk C2 C1 (wf_turn HWc.out) (turn_cons HWc.out hmm) hCl (by rw [HK.out.K]; simp))
      obtain ⟨a1, a2, a3, a4, a5, ⟨T', a6⟩, a7, _⟩ := sup_spec HK.out.full hsF hsD HK.out.stk (wf_turn HWc.out) (turn_cons HWc.out hmm)
      have HR : Hid (rupS s (C1, C2) = (backS (supS s (C2, C1)).1 0, (supS s (C2, C1)).2)) := hid (by unfold rupS; rw [if_neg (by rintro (e | e); exact e hsF; exact hmm e)]; rfl)
      have e12 : turnL (C1, C2) = (C2, C1) := rfl
      rw [e12] at a1 a2 a3 a4 a5 a6 a7
      obtain ⟨⟨s2, b2⟩, hs2⟩ : ∃ q, supS s (C2, C1) = q := ⟨_, rfl⟩
      rw [hs2] at a1 a2 a5 a6 HSu HR
      dsimp only at a1 a2 a5 a6 HSu HR
      rw [HK.out.K, List.nil_append] at a5
      have hfr := fresh_range _ _ a2.tr.fresh
      have hfm := fresh_most a2.tr.fresh
      have HBk := hid (fun (W : World) F' V' (h : Sol 0 M mb F' V' s2 W) => back_impl M mb F' V' s2 W h a1.ok.wfH 0 (Nat.zero_le _) (fun _ => by
        have hkm : s2.K[0]?.getD 0 = s.T.length := by rw [a5]; rfl
        rw [hkm, a6]; simp) hfr (by omega) (by rw [a5]; simp))
      clear hF hsF hsD hmm a1 a2 a3 a4 a5 a6 a7 e12 hs2 hfr hfm
      go_enter Tryz.func21, Tryz.ntmps21
      go_wp2_with fail
      refine (HAl.out _).mono ?_
      rintro e w1 ⟨rfl, hb1⟩
      have HB1 := hid ((show Below w.heap.size w _ from (by repeat (first | exact Below.refl _ _ | assumption | refine Below.drew ?_ | refine Below.alloc ?_ (by first | exact Nat.le_refl _ | omega | (simp; done) | (simp; omega)) _ | refine Below.setCell ?_ (by first | exact Nat.le_refl _ | omega | (simp; done) | (simp; omega)) _))).trans (hb1.mono (by simp)))
      have c0 : w1.cell? ⟨w.heap.size, 0, none⟩ = some (.int .u64 C1) := keep hb1 (by simp [go_sem])
      have c1 : w1.cell? ⟨w.heap.size, 1, none⟩ = some (.int .u64 C2) := keep hb1 (by simp [go_sem])
      clear hb1
      go_wp2_with fail
      refine (HTu.out _).mono ?_
      rintro e w2 ⟨rfl, hb2⟩
      have HB2 := hid (HB1.out.trans (hb2.mono HB1.out.size))
      clear hb2 c0 c1
      go_wp2_with fail
      refine (HSu.out _ (HS.out.below HB2.out)).mono ?_
      rintro e w3 ⟨rfl, F3, V3, q1, qv, q2, qf⟩
      have HF3 := hid qf
      clear qf
      have HQ3 := hid q1
      have HV3 := hid qv
      have HC3 := hid ((Chg.below HB2.out).trans q2)
      clear q1 qv q2
      go_wp2_with fail
      refine (HBk.out _ F3 V3 HQ3.out).mono ?_
      rintro e w4 ⟨rfl, F4, q1, q2, qf⟩
      have HF4 := hid (qf.trans HF3.out)
      clear qf
      have HQ4 := hid q1
      have HC4 := hid (HC3.out.trans q2)
      clear q1 q2
      go_wp2_with fail
      go_ret
      rw [HR.out]
      exact ⟨rfl, F4, V3, HQ4.out, HV3.out, HC4.out, HF4.out⟩
  · have d1 : (f == -1) = false := by simp [hF]
    have d2 : (f != -1) = true := by simp [hF]
    have HR : Hid (rupS s (C1, C2) = (s, true)) := hid (by unfold rupS; rw [if_pos (.inl (by rw [HF.out]; exact hF))])
    go_enter Tryz.func21, Tryz.ntmps21
    go_wp2_with fail
    go_ret
    rw [HR.out]
    exact ⟨rfl, F, V, HS.out.below (by repeat (first | exact Below.refl _ _ | assumption | refine netSem.bdn ?_ _ | refine Below.drew ?_ | refine Below.alloc ?_ (by first | exact Nat.le_refl _ | omega | (simp; done) | (simp; omega)) _)), HV0.out, Chg.below (by repeat (first | exact Below.refl _ _ | assumption | refine netSem.bdn ?_ _ | refine Below.drew ?_ | refine Below.alloc ?_ (by first | exact Nat.le_refl _ | omega | (simp; done) | (simp; omega)) _)), rfl⟩
end Go.Proofs.YtpfecijahiikhaaGreatDoor.chkRup

/- errors.As where the error is a proofFault and the target a variable of that type: true, and the variable holds the fault. -/
namespace Go.Proofs.YtpfecijahiikhaaGreatDoor.asHit
open Go.RowKit Go.Extern.Stop Go.Stop Go.Extern base
set_option linter.unusedVariables false

theorem valueOfP (t : Addr) (w : World) : (ReflectliteValue.unpack (.iface 87 (.pointer (some t)))).run Tryz.prog w
    = .ok (.agg #[.pointer (some ⟨2, 87, none⟩), .pointer (some ⟨w.heap.size, 0, none⟩), .int .u64 150]) (w.alloc (.cells #[.pointer (some t)] 87)) := by kernel_rfl
theorem typeP (a : Addr) (w : World) : (ReflectliteValue.methodAny (ReflectliteValue.valueError "reflectlite.Value.Type" 0) (fun t _ _ _ => ReflectliteType.toType t) #[.agg #[.pointer (some ⟨2, 87, none⟩), .pointer (some a), .int .u64 150]]).run Tryz.prog w
    = .ok (.iface 117 (.agg #[.pointer (some ⟨2, 87, none⟩)])) w := by kernel_rfl
theorem methodKind (h : Value) (w : World) : (Go.method 264 117 (.agg #[h]) "Kind").run Tryz.prog w = .ok (100, h) w := by kernel_rfl
theorem kindP (w : World) : ((ReflectliteType.abiMethod fun t => (fun a : Nat => Value.int IntKind.u8 (a : Int)) <$> Rtype.kind t) #[.pointer (some ⟨2, 87, none⟩)]).run Tryz.prog w = .ok (.int .u8 22) w := by kernel_rfl
theorem kindF (w : World) : ((ReflectliteType.abiMethod fun t => (fun a : Nat => Value.int IntKind.u8 (a : Int)) <$> Rtype.kind t) #[.pointer (some ⟨2, 41, none⟩)]).run Tryz.prog w = .ok (.int .u8 25) w := by kernel_rfl
theorem rlm (z : Sem Value) (f : TypeId → Addr → Nat → Nat → Sem Value) (v : Value) :
    ReflectliteValue.method z f #[v] = (do match ← ReflectliteValue.parts v with | none => z | some (t, a, fl) => f t a fl (fl % 32)) := rfl
theorem partsP (a : Addr) (w : World) : (ReflectliteValue.parts (.agg #[.pointer (some ⟨2, 87, none⟩), .pointer (some a), .int .u64 150])).run Tryz.prog w = .ok (some (87, a, 150)) w := by kernel_rfl
theorem methodElem (h : Value) (w : World) : (Go.method 264 117 (.agg #[h]) "Elem").run Tryz.prog w = .ok (113, .agg #[h]) w := by kernel_rfl
theorem methodImplements (h : Value) (w : World) : (Go.method 264 117 (.agg #[h]) "Implements").run Tryz.prog w = .ok (114, .agg #[h]) w := by kernel_rfl
theorem methodAssignableTo (h : Value) (w : World) : (Go.method 264 117 (.agg #[h]) "AssignableTo").run Tryz.prog w = .ok (111, .agg #[h]) w := by kernel_rfl
theorem elemTP (w : World) : (ReflectliteType.method ReflectliteType.elem #[.agg #[.pointer (some ⟨2, 87, none⟩)]]).run Tryz.prog w = .ok (.iface 117 (.agg #[.pointer (some ⟨2, 41, none⟩)])) w := by kernel_rfl
theorem implementsF (w : World) : (ReflectliteType.relation "Implements" ReflectliteType.implements_ #[.agg #[.pointer (some ⟨2, 41, none⟩)], .iface 117 (.agg #[.pointer (some ⟨2, 84, none⟩)])]).run Tryz.prog w = .ok (.bool true) w := by kernel_rfl
theorem typeOfF (v : Value) (w : World) : (ReflectliteType.typeOf #[.iface 41 v]).run Tryz.prog w = .ok (.iface 117 (.agg #[.pointer (some ⟨2, 41, none⟩)])) w := by kernel_rfl
theorem assignableF (w : World) : (ReflectliteType.relation "AssignableTo" ReflectliteType.assignableTo #[.agg #[.pointer (some ⟨2, 41, none⟩)], .iface 117 (.agg #[.pointer (some ⟨2, 41, none⟩)])]).run Tryz.prog w = .ok (.bool true) w := by kernel_rfl
theorem valueOfF (x y : Value) (w : World) : (ReflectliteValue.unpack (.iface 41 (.agg #[x, y]))).run Tryz.prog w
    = .ok (.agg #[.pointer (some ⟨2, 41, none⟩), .pointer (some ⟨w.heap.size, 0, none⟩), .int .u64 153]) (w.alloc (.cells #[x, y] 41)) := by kernel_rfl
theorem elemOfP (w : World) : (Rtype.elem? 87).run Tryz.prog w = .ok (some 41) w := by kernel_rfl
theorem mkF (p : Addr) (w : World) : (ReflectliteValue.mk 41 p ReflectliteValue.flagAddr).run Tryz.prog w = .ok (.agg #[.pointer (some ⟨2, 41, none⟩), .pointer (some p), .int .u64 409]) w := by kernel_rfl
theorem partsFa (a : Addr) (w : World) : (ReflectliteValue.parts (.agg #[.pointer (some ⟨2, 41, none⟩), .pointer (some a), .int .u64 409])).run Tryz.prog w = .ok (some (41, a, 409)) w := by kernel_rfl
theorem partsF (a : Addr) (w : World) : (ReflectliteValue.parts (.agg #[.pointer (some ⟨2, 41, none⟩), .pointer (some a), .int .u64 153])).run Tryz.prog w = .ok (some (41, a, 153)) w := by kernel_rfl
theorem directF (w : World) : (Rtype.directlyAssignable 41 41).run Tryz.prog w = .ok true w := by kernel_rfl
theorem isNilP (a p : Addr) (W : World) (ha : W.cell? a = some (.pointer (some p))) :
    (ReflectliteValue.method (ReflectliteValue.valueError "reflectlite.Value.IsNil" 0) ReflectliteValue.isNil #[.agg #[.pointer (some ⟨2, 87, none⟩), .pointer (some a), .int .u64 150]]).run Tryz.prog W = .ok (.bool false) W := by
  rw [rlm]
  simp only [Sem.run_bind, partsP, Result.andThen]
  simp [ReflectliteValue.isNil, loadVar, isAgg, underlying, Tryz.underlying87, ha, Result.andThen]
theorem elemVP (a p : Addr) (W : World) (ha : W.cell? a = some (.pointer (some p))) :
    (ReflectliteValue.method (ReflectliteValue.valueError "reflectlite.Value.Elem" 0) ReflectliteValue.elem #[.agg #[.pointer (some ⟨2, 87, none⟩), .pointer (some a), .int .u64 150]]).run Tryz.prog W
      = .ok (.agg #[.pointer (some ⟨2, 41, none⟩), .pointer (some p), .int .u64 409]) W := by
  rw [rlm]
  simp only [Sem.run_bind, partsP, Result.andThen]
  simp [ReflectliteValue.elem, loadVar, isAgg, underlying, Tryz.underlying87, ha, Result.andThen, elemOfP, mkF]
theorem rls (v x : Value) : ReflectliteValue.set #[v, x] = (do
    let (some (dst, a, fl), some (src, b, _)) := (← ReflectliteValue.parts v, ← ReflectliteValue.parts x)
      | unsupported (.noEntry "extern/(internal/reflectlite.Value).Set.zeroValue")
    if fl / ReflectliteValue.flagAddr % 2 == 0 then unsupported (.noEntry "extern/(internal/reflectlite.Value).Set.unaddressable")
    let val ← loadVar src b
    if ← Rtype.directlyAssignable dst src then storeVar dst a val
    else if ← Rtype.implements dst src then
      if (← Rtype.kind src) == 20 then
        match val with
        | .nilIface => unsupported (.noEntry "extern/reflectlite: a nil value of one interface type handed on as a value of another")
        | _ => storeVar dst a val
      else storeVar dst a (.iface src val)
    else panicString ("reflectlite.Set: value of type " ++ (← Rtype.spelt src) ++ " is not assignable to type " ++ (← Rtype.spelt dst))
    pure (.tuple #[])) := rfl
theorem setF (N b : Nat) (x y : Int) (o1 o2 : Value) (W : World) (hb : W.cell? ⟨b, 0, none⟩ = some (.int .i64 x)) (hb2 : W.cell? ⟨b, 1, none⟩ = some (.int .i64 y)) (ht : W.cell? ⟨N, 0, none⟩ = some o1) (ht2 : W.cell? ⟨N, 1, none⟩ = some o2)
    (hf : W.frozen? ⟨N, 0, none⟩ = false) (hf2 : W.frozen? ⟨N, 1, none⟩ = false) :
    (ReflectliteValue.set #[.agg #[.pointer (some ⟨2, 41, none⟩), .pointer (some ⟨N, 0, none⟩), .int .u64 409], .agg #[.pointer (some ⟨2, 41, none⟩), .pointer (some ⟨b, 0, none⟩), .int .u64 153]]).run Tryz.prog W
      = .ok (.tuple #[]) ((W.setCell ⟨N, 0, none⟩ (.int .i64 x)).setCell ⟨N, 1, none⟩ (.int .i64 y)) := by
  have hl : (loadCells ⟨b, 0, none⟩ 2).run Tryz.prog W = .ok #[.int .i64 x, .int .i64 y] W := by
    have h := run_loadCells_list (P := Tryz.prog) (w := W) ⟨b, 0, none⟩ [.int .i64 x, .int .i64 y] (by
      intro j v hv
      match j, hv with
      | 0, hv => simp at hv; subst hv; simpa [Addr.add] using hb
      | 1, hv => simp at hv; subst hv; simpa [Addr.add] using hb2
      | j + 2, hv => simp at hv)
    simpa using h
  have hs : (storeCells ⟨N, 0, none⟩ [.int .i64 x, .int .i64 y]).run Tryz.prog W = .ok () ((W.setCell ⟨N, 0, none⟩ (.int .i64 x)).setCell ⟨N, 1, none⟩ (.int .i64 y)) := by
    simp only [storeCells, Sem.run_bind, Addr.add]
    rw [run_store Tryz.prog W _ _ _ (by rfl)]
    have hc2 : (W.setCell ⟨N, 0, none⟩ (.int .i64 x)).cell? ⟨N, 1, none⟩ = some o2 := (World.cell?_setCell_other _ _ _ _ (by intro h; injection h; omega)).trans ht2
    simp [ht, hf, Result.andThen, run_store Tryz.prog _ _ (Value.int .i64 y) _ rfl, hc2, hf2]
  rw [rls]
  simp only [Sem.run_bind, partsFa, partsF, Result.andThen]
  simp [ReflectliteValue.flagAddr, loadVar, isAgg, underlying, Tryz.underlying41, Result.andThen, directF, storeVar, Value.cells, hl, hs]

theorem lt_of_cell {w : World} {a : Addr} {v : Value} (h : w.cell? a = some v) : a.block < w.heap.size := by
  rcases Nat.lt_or_ge a.block w.heap.size with h' | h'
  · exact h'
  · simp [World.cell?, Array.getElem?_eq_none h'] at h
theorem keep_alloc {w : World} {a : Addr} {v : Value} (h : w.cell? a = some v) (o : Obj) : (w.alloc o).cell? a = some v := by
  rw [World.cell?_alloc_lt _ _ a (lt_of_cell h)]; exact h
theorem keep_frozen {w : World} {a : Addr} {v : Value} (h : w.cell? a = some v) (hf : w.frozen? a = false) (o : Obj) : (w.alloc o).frozen? a = false := by
  rw [World.frozen?_alloc_old _ _ a (Nat.ne_of_lt (lt_of_cell h))]; exact hf

set_option maxHeartbeats 4000000 in
/-- errors.As at a proofFault: true; the target holds the fault. -/
theorem as_hit (x y : Int) (N : Nat) (o1 o2 : Value) (w : World) (hg : w.cell? ⟨0, 0, none⟩ = some (.iface 117 (.agg #[.pointer (some ⟨2, 84, none⟩)])))
    (ht0 : w.cell? ⟨N, 0, none⟩ = some o1) (hf0 : w.frozen? ⟨N, 0, none⟩ = false) (ht1 : w.cell? ⟨N, 1, none⟩ = some o2) (hf1 : w.frozen? ⟨N, 1, none⟩ = false) :
    Calls Tryz.prog 55 #[.iface 41 (.agg #[.int .i64 x, .int .i64 y]), .iface 87 (.pointer (some ⟨N, 0, none⟩))] w fun ev w' => ev = .returned (.bool true) ∧
      w' = (((((w.alloc (.cells #[.pointer (some ⟨N, 0, none⟩)] 87)).alloc (.cells #[.pointer (some ⟨2, 87, none⟩), .pointer (some ⟨w.heap.size, 0, none⟩), .int .u64 150] 100)).alloc (.cells #[.pointer (some ⟨2, 87, none⟩), .pointer (some ⟨w.heap.size, 0, none⟩), .int .u64 150] 100)).alloc (.cells #[.int .i64 x, .int .i64 y] 41)).setCell ⟨N, 0, none⟩ (.int .i64 x)).setCell ⟨N, 1, none⟩ (.int .i64 y) := by
  have h6 := @run_callFunc_extern Tryz.prog 65 _ (fun args => ReflectliteValue.unpack (args.getD 0 (.tuple #[]))) Tryz.func65 (by kernel_rfl) (by kernel_rfl) (by kernel_rfl) (by kernel_rfl)
  have h7 := @run_callFunc_extern Tryz.prog 66 _ (ReflectliteValue.methodAny (ReflectliteValue.valueError "reflectlite.Value.Type" 0) (fun t _ _ _ => ReflectliteType.toType t)) Tryz.func66 (by kernel_rfl) (by kernel_rfl) (by kernel_rfl) (by kernel_rfl)
  have h8 := @run_callFunc_extern Tryz.prog 67 _ (ReflectliteValue.method (ReflectliteValue.valueError "reflectlite.Value.IsNil" 0) ReflectliteValue.isNil) Tryz.func67 (by kernel_rfl) (by kernel_rfl) (by kernel_rfl) (by kernel_rfl)
  have h27 := @run_callFunc_extern Tryz.prog 100 _ (ReflectliteType.abiMethod fun t => do pure (.int .u8 (← Rtype.kind t))) Tryz.func100 (by kernel_rfl) (by kernel_rfl) (by kernel_rfl) (by kernel_rfl)
  have h37 := @run_callFunc_extern Tryz.prog 113 _ (ReflectliteType.method ReflectliteType.elem) Tryz.func113 (by kernel_rfl) (by kernel_rfl) (by kernel_rfl) (by kernel_rfl)
  have h38 := @run_callFunc_extern Tryz.prog 114 _ (ReflectliteType.relation "Implements" ReflectliteType.implements_) Tryz.func114 (by kernel_rfl) (by kernel_rfl) (by kernel_rfl) (by kernel_rfl)
  have h10 := @run_callFunc_extern Tryz.prog 75 _ ReflectliteType.typeOf Tryz.func75 (by kernel_rfl) (by kernel_rfl) (by kernel_rfl) (by kernel_rfl)
  have h35 := @run_callFunc_extern Tryz.prog 111 _ (ReflectliteType.relation "AssignableTo" ReflectliteType.assignableTo) Tryz.func111 (by kernel_rfl) (by kernel_rfl) (by kernel_rfl) (by kernel_rfl)
  have h11 := @run_callFunc_extern Tryz.prog 76 _ (ReflectliteValue.method (ReflectliteValue.valueError "reflectlite.Value.Elem" 0) ReflectliteValue.elem) Tryz.func76 (by kernel_rfl) (by kernel_rfl) (by kernel_rfl) (by kernel_rfl)
  have h12 := @run_callFunc_extern Tryz.prog 77 _ ReflectliteValue.set Tryz.func77 (by kernel_rfl) (by kernel_rfl) (by kernel_rfl) (by kernel_rfl)
  have tO := typeOfF
  have mA := methodAssignableTo
  have a25 := assignableF
  have v25 := valueOfF
  have f6 := valueOfP
  have f7 := typeP
  have mK := methodKind
  have mE := methodElem
  have mI := methodImplements
  have k27 := kindP
  have k25 := kindF
  have e27 := elemTP
  have i25 := implementsF
  have n8 := isNilP ⟨w.heap.size, 0, none⟩ ⟨N, 0, none⟩ ((w.alloc (.cells #[.pointer (some ⟨N, 0, none⟩)] 87)).alloc (.cells #[.pointer (some ⟨2, 87, none⟩), .pointer (some ⟨w.heap.size, 0, none⟩), .int .u64 150] 100)) (by simp)
  have hg2 : ((w.alloc (.cells #[.pointer (some ⟨N, 0, none⟩)] 87)).alloc (.cells #[.pointer (some ⟨2, 87, none⟩), .pointer (some ⟨w.heap.size, 0, none⟩), .int .u64 150] 100)).cell? ⟨0, 0, none⟩ = some (.iface 117 (.agg #[.pointer (some ⟨2, 84, none⟩)])) :=
    keep_alloc (keep_alloc hg _) _
  have el := elemVP ⟨w.heap.size, 0, none⟩ ⟨N, 0, none⟩ (((w.alloc (.cells #[.pointer (some ⟨N, 0, none⟩)] 87)).alloc (.cells #[.pointer (some ⟨2, 87, none⟩), .pointer (some ⟨w.heap.size, 0, none⟩), .int .u64 150] 100)).alloc (.cells #[.pointer (some ⟨2, 87, none⟩), .pointer (some ⟨w.heap.size, 0, none⟩), .int .u64 150] 100)) (by rw [World.cell?_alloc_lt _ _ ⟨w.heap.size, 0, none⟩ (by simp; omega)]; simp)
  have st := setF N (w.heap.size + 1 + 1 + 1) x y o1 o2 ((((w.alloc (.cells #[.pointer (some ⟨N, 0, none⟩)] 87)).alloc (.cells #[.pointer (some ⟨2, 87, none⟩), .pointer (some ⟨w.heap.size, 0, none⟩), .int .u64 150] 100)).alloc (.cells #[.pointer (some ⟨2, 87, none⟩), .pointer (some ⟨w.heap.size, 0, none⟩), .int .u64 150] 100)).alloc (.cells #[.int .i64 x, .int .i64 y] 41))
    (by rw [World.cell?_alloc_at _ _ _ _ (by simp)]; rfl) (by rw [World.cell?_alloc_at _ _ _ _ (by simp)]; rfl)
    (keep_alloc (keep_alloc (keep_alloc (keep_alloc ht0 _) _) _) _) (keep_alloc (keep_alloc (keep_alloc (keep_alloc ht1 _) _) _) _)
    (keep_frozen (keep_alloc (keep_alloc (keep_alloc ht0 _) _) _) (keep_frozen (keep_alloc (keep_alloc ht0 _) _) (keep_frozen (keep_alloc ht0 _) (keep_frozen ht0 hf0 _) _) _) _)
    (keep_frozen (keep_alloc (keep_alloc (keep_alloc ht1 _) _) _) (keep_frozen (keep_alloc (keep_alloc ht1 _) _) (keep_frozen (keep_alloc ht1 _) (keep_frozen ht1 hf1 _) _) _) _)
  go_enter Tryz.func55, Tryz.ntmps55
  go_wp2
  refine wp_loop_rounds 1 ?_
  rw [rounds_succ]
  go_wp2
  go_ret
  exact ⟨rfl, rfl⟩
/-- The same, told by what is wanted behind it. -/
theorem as_some (x y : Int) (N : Nat) (o1 o2 : Value) (w : World) (hg : w.cell? ⟨0, 0, none⟩ = some (.iface 117 (.agg #[.pointer (some ⟨2, 84, none⟩)])))
    (ht0 : w.cell? ⟨N, 0, none⟩ = some o1) (hf0 : w.frozen? ⟨N, 0, none⟩ = false) (ht1 : w.cell? ⟨N, 1, none⟩ = some o2) (hf1 : w.frozen? ⟨N, 1, none⟩ = false) :
    Calls Tryz.prog 55 #[.iface 41 (.agg #[.int .i64 x, .int .i64 y]), .iface 87 (.pointer (some ⟨N, 0, none⟩))] w fun ev w' => ev = .returned (.bool true) ∧
      Below N w w' ∧ w'.cell? ⟨N, 0, none⟩ = some (.int .i64 x) ∧ w'.cell? ⟨N, 1, none⟩ = some (.int .i64 y) := by
  refine (as_hit x y N o1 o2 w hg ht0 hf0 ht1 hf1).mono ?_
  rintro e w' ⟨rfl, rfl⟩
  have hN : N < w.heap.size := lt_of_cell ht0
  refine ⟨rfl, ?_, ?_, ?_⟩
  · refine Below.setCell (Below.setCell (Below.alloc (Below.alloc (Below.alloc (Below.alloc (Below.refl _ _) ?_ _) ?_ _) ?_ _) ?_ _) ?_ _) ?_ _
    · exact Nat.le_of_lt hN
    · simp; omega
    · simp; omega
    · simp; omega
    · exact Nat.le_refl _
    · exact Nat.le_refl _
  · rw [World.cell?_setCell_other _ _ _ _ (by intro h; injection h; omega)]
    exact World.cell?_setCell_same _ _ _ (keep_alloc (keep_alloc (keep_alloc (keep_alloc ht0 _) _) _) _)
  · exact World.cell?_setCell_same _ _ _ ((World.cell?_setCell_other _ _ _ _ (by intro h; injection h; omega)).trans (keep_alloc (keep_alloc (keep_alloc (keep_alloc ht1 _) _) _) _))
end Go.Proofs.YtpfecijahiikhaaGreatDoor.asHit
