/- FaultW; RefAnsI; RefSpecF; RefFaceI; StepsEq: one text, so that the claim has fewer files. -/
import Derived.Test.YtolejaegnkcjjaaGreatDoorPart45
import Derived.Test.YtolejaegnkcjjaaGreatDoorPart6
import Derived.Defers
import Derived.Recover
import Derived.WalkSmall
import Derived.BigRegion
import Derived.Laws.ResultCell
import Derived.Laws.Pointers
import Derived.Test.YtolejaegnkcjjaaGreatDoorPart48
import Derived.Test.YtolejaegnkcjjaaGreatDoorPart9
import Derived.Test.YtolejaegnkcjjaaGreatDoorPart4
import Derived.Deep.RegionHeld3
/- A fault that is thrown and caught: must, faultOf, the deferred closure of answerOf (where the call panics, where it returns). -/
namespace Go.Proofs.YtolejaegnkcjjaaGreatDoor.faultW
open Go.RowKit Go.Deep base asHit readSpecP
set_option linter.unusedVariables false

/-- errors.errorType is as its initialiser lays it. -/
def ErrW (w : World) : Prop := w.cell? ⟨0, 0, none⟩ = some (.iface 149 (.agg #[.pointer (some ⟨2, 106, none⟩)]))
theorem ErrW.below {w w' : World} (h : ErrW w) (hb : Below w.heap.size w w') : ErrW w' := keep hb h

theorem results_one {fn : Func} {p : Tmp} {ty : TypeId} (h : fn.results = #[.cell p ty]) (tmps : Array Value) (P : Program) (w : World) :
    (results fn tmps).run P w = ((asAddr (tmps.getD p undef)).run P w).andThen fun a w₁ => (loadVar ty a).run P w₁ := by
  simp only [results, h]
  simp [Sem.run_bind, Result.andThen]
theorem results_two {fn : Func} {p u : Tmp} {ty : TypeId} (h : fn.results = #[.tmp u, .cell p ty]) (tmps : Array Value) (P : Program) (w : World) :
    (results fn tmps).run P w =
      ((asAddr (tmps.getD p undef)).run P w).andThen fun a w₁ => ((loadVar ty a).run P w₁).andThen fun v w₂ => .ok (.tuple #[tmps.getD u undef, v]) w₂ := by
  simp only [results, h]
  simp [Sem.run_bind, Result.andThen]

theorem must_so (code : Int) (w : World) : Calls Tryz.prog 27 #[.bool true, .int .i64 code] w fun e w' => e = .returned (.tuple #[]) ∧ w' = w := by
  go_enter Tryz.func27, Tryz.ntmps27
  go_wp2
  go_end0
  exact ⟨rfl, rfl⟩
theorem must_not (code : Int) (w : World) : Calls Tryz.prog 27 #[.bool false, .int .i64 code] w fun e w' => e = .panicked [{ v := .iface 53 (.agg #[.int .i64 code, .int .i64 0]), recovered := false }] ∧ w' = w := by
  go_enter Tryz.func27, Tryz.ntmps27
  go_wp2
  exact ⟨rfl, rfl, rfl⟩

theorem assertF (v : Value) (w : World) : (Instr.typeAssert (.iface 53 v) 20 106 true).run Tryz.prog w = .ok (.tuple #[.iface 53 v, .bool true]) w := by kernel_rfl

set_option maxRecDepth 8000 in
theorem faultOf_ok (x y : Int) (w : World) (he : ErrW w) : Calls Tryz.prog 50 #[(.iface 53 (.agg #[.int .i64 x, .int .i64 y]))] w fun e w' => e = .returned (.agg #[.int .i64 x, .int .i64 y]) ∧ Below w.heap.size w w' := by
  have hA := assertF (.agg #[.int .i64 x, .int .i64 y])
  have HE := hid he
  clear he
  go_enter Tryz.func50, Tryz.ntmps50
  go_wp2_with fail
  refine (as_some x y _ (.int .i64 0) (.int .i64 0) _ (ErrW.below HE.out (by repeat (first | exact Below.refl _ _ | assumption | refine Below.drew ?_ | refine Below.alloc ?_ (by first | exact Nat.le_refl _ | omega | (simp; done) | (simp; omega)) _ | refine Below.setCell ?_ (by first | exact Nat.le_refl _ | omega | (simp; done) | (simp; omega)) _))) (by simp) (by simp) (by simp) (by simp)).mono ?_
  rintro e w1 ⟨rfl, hb1, hc1, hc2⟩
  have h0 : w1.cell? ⟨w.heap.size, 0, none⟩ = some (.int .i64 0) := by
    rw [hb1.cell (by simp)]; simp
  have h1 : w1.cell? ⟨w.heap.size, 1, none⟩ = some (.int .i64 0) := by
    rw [hb1.cell (by simp)]; simp
  have hz0 : w1.frozen? ⟨w.heap.size, 0, none⟩ = false := by
    rw [hb1.frozen (by simp)]; simp
  have hz1 : w1.frozen? ⟨w.heap.size, 1, none⟩ = false := by
    rw [hb1.frozen (by simp)]; simp
  have HB := hid (show Below w.heap.size w w1 from (show Below w.heap.size w _ from (by repeat (first | exact Below.refl _ _ | assumption | refine Below.drew ?_ | refine Below.alloc ?_ (by first | exact Nat.le_refl _ | omega | (simp; done) | (simp; omega)) _ | refine Below.setCell ?_ (by first | exact Nat.le_refl _ | omega | (simp; done) | (simp; omega)) _))).trans (hb1.mono (by omega)))
  clear hb1
  go_wp2
  refine bodyPost_ret (v := .agg #[.int .i64 x, .int .i64 y]) (by rw [results_one rfl]; go_simp) rfl ?_
  exact ⟨rfl, Below.setCell (Below.setCell HB.out (Nat.le_refl _) _) (Nat.le_refl _) _⟩

set_option maxRecDepth 8000 in
theorem catch_panicking (N : Nat) (x y : Int) (o1 o2 : Value) (older : List PanicEntry) (w : World) (he : ErrW w) (h0 : w.cell? ⟨N, 0, none⟩ = some o1) (h1 : w.cell? ⟨N, 1, none⟩ = some o2) (hz0 : w.frozen? ⟨N, 0, none⟩ = false) (hz1 : w.frozen? ⟨N, 1, none⟩ = false) :
    CallsD Tryz.prog 61 #[.pointer (some ⟨N, 0, none⟩)] (.panicking ({ v := .iface 53 (.agg #[.int .i64 x, .int .i64 y]), recovered := false } :: older)) w fun e u' w' =>
      e = .returned (.tuple #[]) ∧ u' = .panicking ({ v := .iface 53 (.agg #[.int .i64 x, .int .i64 y]), recovered := true } :: older) ∧ Below N w w' ∧ w'.cell? ⟨N, 0, none⟩ = some (.int .i64 x) ∧ w'.cell? ⟨N, 1, none⟩ = some (.int .i64 y) := by
  refine callsD_of_wpS Tryz.func61 rfl fun c₀ cs hu => ?_
  apply wpS_seq
  apply wpS_region
  simp [wpOpsS, go_sem, recoverD, hu, Tryz.ntmps61, Exit.thenS]
  refine wpS_of_wp ?_
  change Code.wp _ _ _ { tmps := #[.pointer (some ⟨N, 0, none⟩), .iface 53 (.agg #[.int .i64 x, .int .i64 y]), .iface 53 (.agg #[.int .i64 x, .int .i64 y]), undef, undef, undef, undef], defers := [] } _
  have HE := hid he
  clear he
  go_wp2_with fail
  refine (faultOf_ok x y _ HE.out).mono ?_
  rintro e w1 ⟨rfl, hb1⟩
  have hN : N < w.heap.size := lt_of_cell h0
  have g0 : w1.cell? ⟨N, 0, none⟩ = some o1 := keep hb1 h0
  have g1 : w1.cell? ⟨N, 1, none⟩ = some o2 := keep hb1 h1
  have z0 : w1.frozen? ⟨N, 0, none⟩ = false := by rw [hb1.frozen hN]; exact hz0
  have z1 : w1.frozen? ⟨N, 1, none⟩ = false := by rw [hb1.frozen hN]; exact hz1
  have HB := hid hb1
  clear hb1
  go_wp2
  refine ⟨rfl, _, rfl, _, results_none rfl _ _ _, rfl, rfl, ?_, ?_, ?_⟩
  · exact Below.setCell (Below.setCell (HB.out.mono (Nat.le_of_lt hN)) (p := ⟨N, 0, none⟩) (Nat.le_refl _) _) (p := ⟨N, 1, none⟩) (Nat.le_refl _) _
  · rw [World.cell?_setCell_other _ _ _ _ (by intro h; injection h; omega)]
    exact World.cell?_setCell_same _ _ _ g0
  · exact World.cell?_setCell_same _ _ _ ((World.cell?_setCell_other _ _ _ _ (by intro h; injection h; omega)).trans g1)

theorem catch_idle (N : Nat) (w : World) :
    CallsD Tryz.prog 61 #[.pointer (some ⟨N, 0, none⟩)] .returning w fun e u' w' => e = .returned (.tuple #[]) ∧ u' = .returning ∧ w' = w := by
  refine callsD_of_wpS Tryz.func61 rfl fun c₀ cs hu => ?_
  apply wpS_seq
  apply wpS_region
  simp [wpOpsS, go_sem, recoverD, hu, Tryz.ntmps61, Exit.thenS]
  refine wpS_of_wp ?_
  change Code.wp _ _ _ { tmps := #[.pointer (some ⟨N, 0, none⟩), .nilIface, .nilIface, undef, undef, undef, undef], defers := [] } _
  go_wp2
  refine ⟨rfl, .returning, ?_, _, results_none rfl _ _ _, rfl, rfl, rfl⟩
  cases c₀
  simp_all

theorem own_ahead {B n b o sz : Nat} {t : TypeId} {w : World} {v x : Value} {xs : List Value} (h : w.ownsRow B t sz v n xs) (hb : b < B) : (w.setCell ⟨b, o, none⟩ x).ownsRow B t sz v n xs := by
  obtain ⟨h1, h2⟩ := h
  refine ⟨h1, ?_⟩
  rcases h2 with h2 | ⟨g, cap, cur, e, hg, hh, hn⟩
  · exact .inl h2
  · exact .inr ⟨g, cap, cur, e, hg, by rw [Below.heap_setCell _ _ _ _ (by show g ≠ b; omega)]; exact hh, hn⟩
theorem steps_ahead {B b o : Nat} {w : World} {v x : Value} {ps : List Pt} (h : OwnSteps B w v ps) (hb : b < B) : OwnSteps B (w.setCell ⟨b, o, none⟩ x) v ps := ⟨own_ahead h.outer hb, fun p hp => own_ahead (h.inner p hp) hb⟩
set_option maxRecDepth 8000 in
theorem answerOf_ret (f : FuncId) (cap : Value) (ss : List (Bool × List Int)) (w : World) (hcf : ∀ w, (callFunc f #[cap]).run Tryz.prog w = .ok (.enter f #[cap]) w)
    (hf : ∀ w0, w0 = w.alloc (.cells #[.int .i64 0, .int .i64 0] 53) → Calls Tryz.prog f #[cap] w0 fun e w' => ∃ v ps, e = .returned v ∧ OwnSteps (w.heap.size + 1) w' v ps ∧ Lone ps ∧ ps.map strip = ss ∧ Below (w.heap.size + 1) w0 w') :
    Calls Tryz.prog 34 #[.func (.func f) #[] #[cap]] w fun e w' => ∃ v ps, e = .returned (.tuple #[v, .agg #[.int .i64 0, .int .i64 0]]) ∧ OwnSteps (w.heap.size + 1) w' v ps ∧ Lone ps ∧ ps.map strip = ss ∧ Below w.heap.size w w' := by
  have hmf : ∀ (fn : Fn) (first cap : Array Value) (w : World), (Instr.makeFunc fn first cap).run Tryz.prog w = .ok (.func fn first cap) w := fun _ _ _ _ => rfl
  go_enter_defers Tryz.func34, Tryz.ntmps34
  go_wp2_with fail
  refine (hf _ rfl).mono ?_
  rintro e w1 ⟨v, ps, rfl, hos, hlo, hst, hb1⟩
  obtain ⟨va, vc, hva⟩ : ∃ va vc, v = .slice va ps.length vc := by
    rcases hos.outer.2 with ⟨e, h0⟩ | ⟨g, cp, cur, e, _⟩
    · rw [h0]; exact ⟨_, _, e⟩
    · exact ⟨_, _, e⟩
  subst hva
  have HOs := hid hos
  have HLo := hid hlo
  have HSt := hid hst
  clear hos hlo hst
  have h0 : w1.cell? ⟨w.heap.size, 0, none⟩ = some (.int .i64 0) := by
    rw [hb1.cell (by simp)]; simp
  have h1 : w1.cell? ⟨w.heap.size, 1, none⟩ = some (.int .i64 0) := by
    rw [hb1.cell (by simp)]; simp
  have z0 : w1.frozen? ⟨w.heap.size, 0, none⟩ = false := by
    rw [hb1.frozen (by simp)]; simp
  have z1 : w1.frozen? ⟨w.heap.size, 1, none⟩ = false := by
    rw [hb1.frozen (by simp)]; simp
  have HB := hid (show Below w.heap.size w w1 from (show Below w.heap.size w _ from (by repeat (first | exact Below.refl _ _ | assumption | refine Below.drew ?_ | refine Below.alloc ?_ (by first | exact Nat.le_refl _ | omega | (simp; done) | (simp; omega)) _ | refine Below.setCell ?_ (by first | exact Nat.le_refl _ | omega | (simp; done) | (simp; omega)) _))).trans (hb1.mono (by omega)))
  clear hb1
  go_wp2
  go_region
  go_wp2
  refine leaves_cons (f := 61) (args := #[.pointer (some ⟨w.heap.size, 0, none⟩)]) (by simp) (by simp [go_sem]) ?_
  refine (catch_idle w.heap.size _).mono ?_
  rintro e u' w'' ⟨rfl, rfl, rfl⟩
  refine ⟨.tuple #[.slice va ps.length vc, .agg #[.int .i64 0, .int .i64 0]], (by rw [results_two rfl]; go_simp), _, ps, rfl, ?_, HLo.out, HSt.out, ?_⟩
  · exact OwnSteps.below (steps_ahead (steps_ahead HOs.out (Nat.lt_succ_self _)) (Nat.lt_succ_self _)) (by repeat (first | exact Below.refl _ _ | assumption | refine Below.drew ?_ | refine Below.alloc ?_ (by first | exact Nat.le_refl _ | omega | (simp; done) | (simp; omega)) _ | refine Below.setCell ?_ (by first | exact Nat.le_refl _ | omega | (simp; done) | (simp; omega)) _))
  exact Below.drew (Below.setCell (Below.setCell HB.out (p := ⟨w.heap.size, 0, none⟩) (Nat.le_refl _) _) (p := ⟨w.heap.size, 1, none⟩) (Nat.le_refl _) _)

set_option maxRecDepth 8000 in
theorem answerOf_fault (f : FuncId) (cap : Value) (x y : Int) (w : World) (he : ErrW w) (hcf : ∀ w, (callFunc f #[cap]).run Tryz.prog w = .ok (.enter f #[cap]) w)
    (hf : ∀ w0, w0 = w.alloc (.cells #[.int .i64 0, .int .i64 0] 53) → Calls Tryz.prog f #[cap] w0 fun e w' => e = .panicked [{ v := .iface 53 (.agg #[.int .i64 x, .int .i64 y]), recovered := false }] ∧ Below (w.heap.size + 1) w0 w') :
    Calls Tryz.prog 34 #[.func (.func f) #[] #[cap]] w fun e w' => e = .returned (.tuple #[.slice none 0 0, .agg #[.int .i64 x, .int .i64 y]]) ∧ Below w.heap.size w w' := by
  have hmf : ∀ (fn : Fn) (first cap : Array Value) (w : World), (Instr.makeFunc fn first cap).run Tryz.prog w = .ok (.func fn first cap) w := fun _ _ _ _ => rfl
  have HE := hid he
  clear he
  go_enter_defers Tryz.func34, Tryz.ntmps34
  go_wp2_with fail
  refine (hf _ rfl).mono ?_
  rintro e w1 ⟨rfl, hb1⟩
  have h0 : w1.cell? ⟨w.heap.size, 0, none⟩ = some (.int .i64 0) := by
    rw [hb1.cell (by simp)]; simp
  have h1 : w1.cell? ⟨w.heap.size, 1, none⟩ = some (.int .i64 0) := by
    rw [hb1.cell (by simp)]; simp
  have z0 : w1.frozen? ⟨w.heap.size, 0, none⟩ = false := by
    rw [hb1.frozen (by simp)]; simp
  have z1 : w1.frozen? ⟨w.heap.size, 1, none⟩ = false := by
    rw [hb1.frozen (by simp)]; simp
  have hb : Below w.heap.size w w1 := (show Below w.heap.size w _ from (by repeat (first | exact Below.refl _ _ | assumption | refine Below.drew ?_ | refine Below.alloc ?_ (by first | exact Nat.le_refl _ | omega | (simp; done) | (simp; omega)) _ | refine Below.setCell ?_ (by first | exact Nat.le_refl _ | omega | (simp; done) | (simp; omega)) _))).trans (hb1.mono (by omega))
  clear hb1
  have he1 : ErrW w1 := HE.out.below hb
  have HB := hid hb
  clear hb
  refine leaves_cons (f := 61) (args := #[.pointer (some ⟨w.heap.size, 0, none⟩)]) (by simp) (by simp [go_sem]) ?_
  refine (catch_panicking w.heap.size x y _ _ [] _ he1 h0 h1 z0 z1).mono ?_
  rintro e u' w'' ⟨rfl, rfl, hb2, g0, g1⟩
  refine ⟨.tuple #[.slice none 0 0, .agg #[.int .i64 x, .int .i64 y]], (by rw [results_two rfl]; go_simp), rfl, ?_⟩
  exact HB.out.trans hb2
end Go.Proofs.YtolejaegnkcjjaaGreatDoor.faultW

/- Refutation of the program throws and catches its code (answerOf); conditions: as RefOk. -/
namespace Go.Proofs.YtolejaegnkcjjaaGreatDoor.refAnsI
open Go.RowKit Go.Deep Go base copy cnf sets setsOf solOps rowsOwn withoutI refImpl faultW refConc refDo refOk
open readSpecP (Pt pcs OwnSteps Lone strip)
open refFace (codeK)
open faultI (ErrW)
set_option linter.unusedVariables false
set_option linter.unusedSimpArgs false

theorem strip_cls {ps : List Pt} (h : ∀ p ∈ ps, p.1 = false) : ps.map strip = (cls ps).map fun z => (false, z) := by
  unfold cls
  rw [List.map_map]
  exact List.map_congr_left fun p hp => by show (p.1, p.2.2) = (false, p.2.2); rw [h p hp]
def ansC (vars : Int) (zss : List (List Int)) (k : Nat) : Int := if cnfB vars zss = true then codeK k else 1
def ansS (vars : Int) (zss : List (List Int)) (k : Nat) (p' : List (List Int)) : List (Bool × List Int) := if cnfB vars zss = true ∧ k = 0 then p'.map fun z => (false, z) else []
theorem answer (N1 : Nat) (vars : Int) (a : Option Addr) (len cap : Nat) (zss : List (List Int)) (w : World) (hr : IntRows w a len zss) (c0 : w.cell? ⟨N1, 0, none⟩ = some (.int .i64 vars)) (c1 : w.cell? ⟨N1, 1, none⟩ = some (.slice a len cap)) (ht : Tab w) (he : faultW.ErrW w) (k : Nat) (p' : List (List Int)) (hg : cnfB vars zss = true → ∃ nv : Nat, vars = (nv : Int) ∧ Goes zss nv [] [] k p') :
    Calls Tryz.prog 34 #[.func (.func 35) #[] #[.pointer (some ⟨N1, 0, none⟩)]] w fun e w' => ∃ v ps, e = .returned (.tuple #[v, .agg #[.int .i64 (ansC vars zss k), .int .i64 0]]) ∧ OwnSteps w.heap.size w' v ps ∧ Lone ps ∧ ps.map strip = ansS vars zss k p' ∧ Below w.heap.size w w' := by
  have hcf : ∀ w, (callFunc 35 #[.pointer (some ⟨N1, 0, none⟩)]).run Tryz.prog w = .ok (.enter 35 #[.pointer (some ⟨N1, 0, none⟩)]) w := fun w => enters_of Tryz.func35 (by kernel_rfl) rfl _ w
  have hb0 : Below w.heap.size w (w.alloc (.cells #[.int .i64 0, .int .i64 0] 53)) := (Below.refl _ _).alloc (Nat.le_refl _) _
  have hz : (w.alloc (.cells #[.int .i64 0, .int .i64 0] 53)).heap.size = w.heap.size + 1 := by simp
  unfold ansC ansS
  by_cases hc : cnfB vars zss = true
  · obtain ⟨nv, rfl, hgo⟩ := hg hc
    have hd := do_ok N1 nv a len cap zss _ (hr.below hb0) (keep hb0 c0) (keep hb0 c1) hc (tab_below ht hb0) hgo
    rw [hz] at hd
    by_cases hk : k = 0
    · subst hk
      rw [if_pos hc, if_pos ⟨hc, rfl⟩]
      refine (answerOf_ret 35 _ (p'.map fun z => (false, z)) w hcf ?_).mono ?_
      · rintro w0 rfl
        refine hd.mono ?_
        rintro e w' ⟨h1, -, h3⟩
        obtain ⟨v, ps, rfl, q1, q2, q3, q4, q5⟩ := h1 rfl
        exact ⟨v, ps, rfl, q1, q2, by rw [strip_cls q4, q3], h3⟩
      · rintro e w' ⟨v, ps, rfl, q1, q2, q3, hb9⟩
        exact ⟨v, ps, rfl, q1.mono (by omega), q2, q3, hb9⟩
    · rw [if_pos hc, if_neg (fun h => hk h.2)]
      refine (answerOf_fault 35 _ (codeK k) 0 w he hcf ?_).mono ?_
      · rintro w0 rfl
        refine hd.mono ?_
        rintro e w' ⟨-, h2, h3⟩
        exact ⟨h2 hk, h3⟩
      · rintro e w' ⟨rfl, hb9⟩
        exact ⟨_, [], rfl, ⟨⟨rfl, .inl ⟨rfl, rfl⟩⟩, fun p hp => by cases hp⟩, List.Pairwise.nil, rfl, hb9⟩
  · have hd := do_bad N1 vars a len cap zss _ (hr.below hb0) (keep hb0 c0) (keep hb0 c1) (by simpa using hc)
    rw [hz] at hd
    rw [if_neg hc, if_neg (fun h => hc h.1)]
    refine (answerOf_fault 35 _ 1 0 w he hcf ?_).mono ?_
    · rintro w0 rfl
      exact hd
    · rintro e w' ⟨rfl, hb9⟩
      exact ⟨_, [], rfl, ⟨⟨rfl, .inl ⟨rfl, rfl⟩⟩, fun p hp => by cases hp⟩, List.Pairwise.nil, rfl, hb9⟩
end Go.Proofs.YtolejaegnkcjjaaGreatDoor.refAnsI

/- Refutation of the specification at every formula, told as the program's is: its code and its steps, and how it goes; conditions: rows that a call owns. -/
namespace Go.Proofs.YtolejaegnkcjjaaGreatDoor.refSpecF
open Go.RowKit Go.Deep base copy rowsOwn refImpl refFace refAnsI refBad
open readSpecP (Pt pcs OwnSteps strip)
set_option linter.unusedVariables false

theorem ref_spec (B : Nat) (vars : Int) (zn zc : Nat) (zp : Option Addr) (zss : List (List Int)) (psZ : List (Value × List Int)) (w : World) (hr : OwnRows B w (.slice zp zn zc) psZ) (hz : psZ.map (·.2) = zss) :
    Calls Tryz.prog 13 #[.agg #[.int .i64 vars, .slice zp zn zc]] w fun e w' => ∃ v ps k sts, e = .returned (.tuple #[v, .int .i64 (ansC vars zss k)]) ∧ OwnSteps w.heap.size w' v ps ∧ ps.map strip = ansS vars zss k sts ∧ (ansS vars zss k sts).length ≤ 200 ∧ (∀ x ∈ ansS vars zss k sts, x.2.length ≤ 12) ∧ (cnf.cnfB vars zss = true → ∃ nv : Nat, vars = (nv : Int) ∧ Goes zss nv [] [] k sts) ∧ Below w.heap.size w w' := by
  by_cases hc : cnf.cnfB vars zss = true
  · have hc' := hc
    rw [← hz] at hc'
    obtain ⟨hv0, hv40, hlits⟩ := cnf_lits hc'
    obtain ⟨nv, rfl⟩ : ∃ nv : Nat, vars = (nv : Int) := ⟨vars.toNat, by omega⟩
    refine (refutation_spec B nv zn zc zp psZ w hr hc').mono ?_
    rintro e w' ⟨g, c, code, ps, rfl, ho, hri, hfe, hb, hdel, k, sts, hgo, rfl, hcl⟩
    rw [hz] at hgo
    have e1 : ansC (nv : Int) zss k = codeK k := by unfold ansC; rw [if_pos hc]
    have e2 : ansS (nv : Int) zss k sts = (if k = 0 then sts else []).map fun z => (false, z) := by
      unfold ansS
      by_cases hk : k = 0
      · rw [if_pos ⟨hc, hk⟩, if_pos hk]
      · rw [if_neg (fun h => hk h.2), if_neg hk]; rfl
    have e3 : ps.map strip = ansS (nv : Int) zss k sts := by rw [strip_cls hdel, hcl, e2]
    refine ⟨_, ps, k, sts, by rw [e1], ho, e3, ?_, ?_, fun _ => ⟨nv, rfl, hgo⟩, hb⟩
    · rw [← e3, List.length_map]; exact hfe
    · rw [← e3]
      intro x hx
      obtain ⟨p, hp, rfl⟩ := List.mem_map.1 hx
      exact (hri p hp).1
  · refine (refutation_bad vars zp zn zc zss w (hz ▸ rows_of_own hr) (by simpa using hc)).mono ?_
    rintro e w' ⟨v, rfl, ho, hb⟩
    have e1 : ansC vars zss 0 = 1 := by unfold ansC; rw [if_neg hc]
    have e2 : ansS vars zss 0 [] = [] := by unfold ansS; rw [if_neg (fun h => hc h.1)]
    refine ⟨v, [], 0, [], by rw [e1], ho, by rw [e2]; rfl, by rw [e2]; exact Nat.zero_le _, (by rw [e2]; intro x hx; cases hx), fun h => absurd h hc, hb⟩
end Go.Proofs.YtolejaegnkcjjaaGreatDoor.refSpecF

/- Refutation of the program: its code, its steps; conditions: as RefOk. -/
namespace Go.Proofs.YtolejaegnkcjjaaGreatDoor.refFaceI
open Go.RowKit Go.Deep Go base copy cnf sets setsOf solOps rowsOwn withoutI refImpl faultW refConc refDo refOk refAnsI
open readSpecP (Pt pcs OwnSteps Lone strip)
set_option linter.unusedVariables false
set_option linter.unusedSimpArgs false
set_option maxHeartbeats 1600000 in
set_option maxRecDepth 8000 in
theorem ref_impl (vars : Int) (a : Option Addr) (len cap : Nat) (zss : List (List Int)) (w : World) (hr : IntRows w a len zss) (ht : Tab w) (he : faultW.ErrW w) (k : Nat) (p' : List (List Int)) (hg : cnfB vars zss = true → ∃ nv : Nat, vars = (nv : Int) ∧ Goes zss nv [] [] k p') :
    Calls Tryz.prog 14 #[.agg #[.int .i64 vars, .slice a len cap]] w fun e w' => ∃ v ps, e = .returned (.tuple #[v, .int .i64 (ansC vars zss k)]) ∧ OwnSteps w.heap.size w' v ps ∧ Lone ps ∧ ps.map strip = ansS vars zss k p' ∧ Below w.heap.size w w' := by
  have hmf : ∀ (fn : Fn) (first cap : Array Value) (w : World), (Instr.makeFunc fn first cap).run Tryz.prog w = .ok (.func fn first cap) w := fun _ _ _ _ => rfl
  have HA := hid (fun N1 W (hW : Below w.heap.size w W) c0 c1 => answer N1 vars a len cap zss W (hr.below hW) c0 c1 (tab_below ht hW) (he.below hW) k p' hg)
  clear hr ht he hg
  go_enter Tryz.func14, Tryz.ntmps14
  go_wp2_with fail
  refine (HA.out _ _ (by repeat (first | exact Below.refl _ _ | assumption | refine Below.drew ?_ | refine Below.alloc ?_ (by first | exact Nat.le_refl _ | omega | (simp; done) | (simp; omega)) _ | refine Below.setCell ?_ (by first | exact Nat.le_refl _ | omega | (simp; done) | (simp; omega)) _)) ?_ ?_).mono ?_
  · simp [go_sem]
  · simp [go_sem]
  rintro e w1 ⟨v, ps, rfl, q1, q2, q3, hb1⟩
  have HB := hid ((show Below w.heap.size w _ from (by repeat (first | exact Below.refl _ _ | assumption | refine Below.drew ?_ | refine Below.alloc ?_ (by first | exact Nat.le_refl _ | omega | (simp; done) | (simp; omega)) _ | refine Below.setCell ?_ (by first | exact Nat.le_refl _ | omega | (simp; done) | (simp; omega)) _))).trans (hb1.mono (by first | (simp; done) | (simp; omega))))
  obtain ⟨sa, sc, rfl⟩ := refSem.steps_form q1
  have HX := hid (And.intro (q1.mono (show w.heap.size ≤ _ by simp)) (And.intro q2 q3))
  clear q1 q2 q3 hb1
  go_wp2
  go_region
  all_goals
    go_wp2
    go_ret2
    exact ⟨.slice sa ps.length sc, ps, rfl, HX.out.1.below (Below.drew (Below.alloc (Below.refl _ _) (Nat.le_refl _) _)), HX.out.2.1, HX.out.2.2, Below.drew (Below.alloc HB.out HB.out.size _)⟩
end Go.Proofs.YtolejaegnkcjjaaGreatDoor.refFaceI

/- Rows of steps of a proof, compared, out of rows that a call owns; conditions: lengths that fit. -/
namespace Go.Proofs.YtolejaegnkcjjaaGreatDoor.stepsEq
open Go.RowKit Go.Deep base copy intsOwn
open readSpecP (Pt pcs OwnSteps Lone strip)
set_option linter.unusedVariables false

theorem bdn {B : Nat} {w w1 : World} (h : Below B w w1) (n : Nat) : Below B w (w1.drewN n) := ⟨h.1, h.2, h.3, h.4, h.5⟩
abbrev St := Bool × List Int
/-- A slice of steps. -/
structure StepRow (w : World) (a : Option Addr) (len : Nat) (ss : List St) : Prop where
  length : ss.length = len
  most : len ≤ maxLen
  cell : ∀ i, i < len → ∃ b off, a = some ⟨b, off, none⟩ ∧ w.cell? ⟨b, off + i * 2, none⟩ = some (.bool (ss[i]?.getD (false, [])).1) ∧
    ∃ a' l' c', w.cell? ⟨b, off + i * 2 + 1, none⟩ = some (.slice a' l' c') ∧ IntRow w a' l' (ss[i]?.getD (false, [])).2
theorem StepRow.below {W w1 : World} {a : Option Addr} {len : Nat} {ss : List St} (h : StepRow W a len ss) (hb : Below W.heap.size W w1) : StepRow w1 a len ss :=
  ⟨h.length, h.most, fun i hi => by
    obtain ⟨b, off, e, h1, a', l', c', hc, hr⟩ := h.cell i hi
    exact ⟨b, off, e, keep hb h1, a', l', c', keep hb hc, hr.below hb⟩⟩

set_option maxHeartbeats 400000 in
theorem eqStep (d d' : Bool) (a a' : Option Addr) (len len' cap cap' : Nat) (zs ys : List Int) (w : World) (hr : IntRow w a len zs) (hr' : IntRow w a' len' ys) :
    Calls Tryz.prog 32 #[.agg #[.bool d, .slice a len cap], .agg #[.bool d', .slice a' len' cap']] w fun e w' => e = .returned (.bool (decide (d = d' ∧ zs = ys))) ∧ Below w.heap.size w w' := by
  by_cases hv : d = d'
  · have hb : (d == d') = true := by simp [hv]
    have HV := hid hv
    clear hv
    go_enter Tryz.func32, Tryz.ntmps32
    go_wp2_with fail
    refine (eqIntS a a' len len' cap cap' zs ys _ (hr.below (by repeat (first | exact Below.refl _ _ | assumption | refine Below.drew ?_ | refine Below.alloc ?_ (by first | exact Nat.le_refl _ | omega | (simp; done) | (simp; omega)) _ | refine Below.setCell ?_ (by first | exact Nat.le_refl _ | omega | (simp; done) | (simp; omega)) _))) (hr'.below (by repeat (first | exact Below.refl _ _ | assumption | refine Below.drew ?_ | refine Below.alloc ?_ (by first | exact Nat.le_refl _ | omega | (simp; done) | (simp; omega)) _ | refine Below.setCell ?_ (by first | exact Nat.le_refl _ | omega | (simp; done) | (simp; omega)) _)))).mono ?_
    rintro e w1 ⟨rfl, n, rfl⟩
    by_cases he : zs = ys
    · have hd : decide (zs = ys) = true := decide_eq_true he
      have HE := hid he
      clear he
      go_wp2
      go_ret
      exact ⟨ret_bool (decide_eq_true ⟨HV.out, HE.out⟩).symm, bdn (by repeat (first | exact Below.refl _ _ | assumption | refine Below.drew ?_ | refine Below.alloc ?_ (by first | exact Nat.le_refl _ | omega | (simp; done) | (simp; omega)) _ | refine Below.setCell ?_ (by first | exact Nat.le_refl _ | omega | (simp; done) | (simp; omega)) _)) n⟩
    · have hd : decide (zs = ys) = false := decide_eq_false he
      have HE := hid he
      clear he
      go_wp2
      go_ret
      exact ⟨ret_bool (decide_eq_false (fun h => HE.out h.2)).symm, bdn (by repeat (first | exact Below.refl _ _ | assumption | refine Below.drew ?_ | refine Below.alloc ?_ (by first | exact Nat.le_refl _ | omega | (simp; done) | (simp; omega)) _ | refine Below.setCell ?_ (by first | exact Nat.le_refl _ | omega | (simp; done) | (simp; omega)) _)) n⟩
  · have hb : (d == d') = false := by simp [hv]
    have HV := hid hv
    clear hv
    go_enter Tryz.func32, Tryz.ntmps32
    go_wp2
    go_ret
    exact ⟨ret_bool (decide_eq_false (fun h => HV.out h.1)).symm, (by repeat (first | exact Below.refl _ _ | assumption | refine Below.drew ?_ | refine Below.alloc ?_ (by first | exact Nat.le_refl _ | omega | (simp; done) | (simp; omega)) _ | refine Below.setCell ?_ (by first | exact Nat.le_refl _ | omega | (simp; done) | (simp; omega)) _))⟩

set_option maxHeartbeats 1600000 in
set_option maxRecDepth 8000 in
theorem eqStepS (a a' : Option Addr) (len cap cap' : Nat) (ss : List St) (w : World) (hr : StepRow w a len ss) (hr' : StepRow w a' len ss) :
    Calls Tryz.prog 12 #[.slice a len cap, .slice a' len cap'] w fun e w' => e = .returned (.bool true) ∧ Below w.heap.size w w' := by
  obtain ⟨hlen, hmost, hcell⟩ := hr
  obtain ⟨hlen', hmost', hcell'⟩ := hr'
  unfold maxLen at hmost hmost'
  have HC := hid hcell
  have HC' := hid hcell'
  clear hcell hcell' hlen hlen' hmost'
  have hb : ((len : Int) != (len : Int)) = false := by simp
  go_enter Tryz.func12, Tryz.ntmps12
  go_wp2
  go_loopw [5] (fun i wr => ∃ k : Nat, k ≤ len ∧ i = .int .i64 k ∧ Below w.heap.size w wr) (fun i _ => len - (intOf i).toNat)
  case atStart => exact ⟨0, Nat.zero_le _, rfl, Below.refl _ _⟩
  case round =>
    obtain ⟨k, hk, rfl, hbel⟩ := hrel
    have HB := hid hbel
    by_cases hlt : k < len
    · obtain ⟨b, off, rfl, hd, x, l, c, hc, hx⟩ := HC.out k hlt
      obtain ⟨b', off', rfl, hd', x', l', c', hc', hx'⟩ := HC'.out k hlt
      replace hd := keep hbel hd
      replace hc := keep hbel hc
      replace hd' := keep hbel hd'
      replace hc' := keep hbel hc'
      have HX := hid (hx.below hbel)
      have HX' := hid (hx'.below hbel)
      clear hx hx' hbel
      generalize (ss[k]?.getD (false, [])).1 = d at *
      generalize (ss[k]?.getD (false, [])).2 = zs at *
      go_wp2_with fail
      have HK : Hid (∀ w8 : World, Below wr.heap.size wr w8 → w8.cell? ⟨b, off + k * 2, none⟩ = some (.bool d) ∧ w8.cell? ⟨b, off + k * 2 + 1, none⟩ = some (.slice x l c) ∧ w8.cell? ⟨b', off' + k * 2, none⟩ = some (.bool d) ∧ w8.cell? ⟨b', off' + k * 2 + 1, none⟩ = some (.slice x' l' c') ∧ Below wr.heap.size wr w8) :=
        fun w8 h => ⟨keep h hd, keep h hc, keep h hd', keep h hc', h⟩
      clear hd hc hd' hc'
      go_region_held3 (fun w8 => w8.cell? ⟨b, off + k * 2, none⟩ = some (.bool d) ∧ w8.cell? ⟨b, off + k * 2 + 1, none⟩ = some (.slice x l c) ∧ w8.cell? ⟨b', off' + k * 2, none⟩ = some (.bool d) ∧ w8.cell? ⟨b', off' + k * 2 + 1, none⟩ = some (.slice x' l' c') ∧ Below wr.heap.size wr w8)
        (refine HK.out _ (by first | assumption | exact (Below.refl _ wr).drew | exact hb57))
        ((go_at_call 32; refine (eqStep d d _ _ _ _ _ _ zs zs _ (HX.out.below (Below.refl _ wr).drew) (HX'.out.below (Below.refl _ wr).drew)).mono ?_; rintro e w7 ⟨rfl, hb7⟩; have hb57 : Below wr.heap.size wr w7 := ((Below.refl _ wr).drew).trans hb7; clear hb7))
      all_goals
        have hd : decide (d = d ∧ zs = zs) = true := decide_eq_true ⟨rfl, rfl⟩
        have HB5 := hid hb57
        clear hb57
        go_wp2
        go_roundw
        case rel => exact ⟨k + 1, by omega, by go_num, HB.out.trans (HB5.out.mono HB.out.size)⟩
        case measure => simp [intOf]; omega
    · have e : k = len := by omega
      subst e
      clear hbel
      go_wp2
      go_ret
      exact ⟨rfl, HB.out⟩

theorem flat_get : ∀ (ps : List Pt) (k : Nat) (p : Pt), ps[k]? = some p → (ps.flatMap pcs)[k * 2]? = some (.bool p.1) ∧ (ps.flatMap pcs)[k * 2 + 1]? = some p.2.1
  | [], k, p, h => by simp at h
  | q :: ps, 0, p, h => by
    simp at h
    subst h
    simp [pcs]
  | q :: ps, k + 1, p, h => by
    have ih := flat_get ps k p (by simpa using h)
    rw [show (k + 1) * 2 = k * 2 + 2 by omega, show k * 2 + 2 + 1 = k * 2 + 1 + 2 by omega]
    simpa [pcs] using ih
theorem flat_set : ∀ (ps : List Pt) (k : Nat) (p : Pt) (d : Bool) (ys : List Int), ps[k]? = some p → (ps.set k (d, p.2.1, ys)).flatMap pcs = (ps.flatMap pcs).set (k * 2) (.bool d)
  | [], k, p, d, ys, h => by simp at h
  | q :: ps, 0, p, d, ys, h => by
    simp at h
    subst h
    simp [pcs]
  | q :: ps, k + 1, p, d, ys, h => by
    have ih := flat_set ps k p d ys (by simpa using h)
    rw [show (k + 1) * 2 = k * 2 + 1 + 1 by omega]
    simp [pcs, ih]
theorem steps_len {B n c : Nat} {w : World} {a : Option Addr} {ps : List Pt} (h : OwnSteps B w (.slice a n c) ps) : ps.length = n := by
  rcases h.outer.2 with ⟨e, h0⟩ | ⟨g', c', cur, e, _⟩
  · injection e with _ e _; omega
  · injection e with _ e _; exact e.symm
theorem steps_cell {B g n c j : Nat} {w : World} {ps : List Pt} (h : OwnSteps B w (.slice (some ⟨g, 0, none⟩) n c) ps) (hj : j < n) : ∃ p, ps[j]? = some p ∧ w.cell? ⟨g, j * 2, none⟩ = some (.bool p.1) ∧ w.cell? ⟨g, j * 2 + 1, none⟩ = some p.2.1 ∧ w.frozen? ⟨g, j * 2, none⟩ = false ∧ OwnInts B w p.2.1 p.2.2 := by
  have hl := steps_len h
  have hjc : j < ps.length := by omega
  refine ⟨ps[j], List.getElem?_eq_getElem hjc, ?_⟩
  obtain ⟨f1, f2⟩ := flat_get ps j ps[j] (List.getElem?_eq_getElem hjc)
  rcases h.outer.2 with ⟨e, _⟩ | ⟨g', cap, cur, e, _, hh, _, _, hs, ht⟩
  · cases e
  · have eg : g = g' := by injection e with e; injection e with e; injection e
    subst eg
    have h3 : ∀ i, i < ps.length * 2 → cur[i]? = (ps.flatMap pcs)[i]? := fun i hi => by
      rw [← ht, List.getElem?_take, if_pos hi, Array.getElem?_toList]
    exact ⟨by simp [World.cell?, hh, h3 (j * 2) (by omega), f1], by simp [World.cell?, hh, h3 (j * 2 + 1) (by omega), f2], by simp [World.frozen?, hh], h.inner _ (List.getElem_mem hjc)⟩
/-- Such a row, read by its cells. -/
theorem row_of_steps {B : Nat} {w : World} {v : Value} {ps : List Pt} {ss : List St} (h : OwnSteps B w v ps) (hs : ps.map strip = ss) : ∃ a c, v = .slice a ss.length c ∧ StepRow w a ss.length ss := by
  have hl : ss.length = ps.length := by rw [← hs, List.length_map]
  rcases h.outer.2 with ⟨e, h0⟩ | ⟨g, cap, cur, e, _, hh, hn, hm, _⟩
  · rw [hl, h0]
    exact ⟨none, 0, e, ⟨by omega, by unfold maxLen; omega, fun i hi => absurd hi (Nat.not_lt_zero _)⟩⟩
  · subst e
    rw [hl]
    refine ⟨_, cap, rfl, ⟨hl, Nat.le_trans hn hm, fun i hi => ?_⟩⟩
    obtain ⟨p, hp, c0, c1, _, hi2⟩ := steps_cell h hi
    obtain ⟨a', c', e', hr⟩ := hi2.form
    have hsi : ss[i]?.getD (false, []) = (p.1, p.2.2) := by rw [← hs, List.getElem?_map, hp]; rfl
    refine ⟨g, 0, rfl, ?_, a', p.2.2.length, c', ?_, ?_⟩
    · rw [hsi]; simpa using c0
    · rw [← e']; simpa using c1
    · rw [hsi]; exact hr
end Go.Proofs.YtolejaegnkcjjaaGreatDoor.stepsEq
