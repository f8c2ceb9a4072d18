import Derived.Test.YtmkhoocokpkojaaGreatDoorPart44
import Derived.Test.YtmkhoocokpkojaaGreatDoorPart6
import Derived.Defers
import Derived.Recover
import Derived.WalkSmall
import Derived.BigRegion
import Derived.Laws.ResultCell
import Derived.Laws.Pointers
import Derived.Test.YtmkhoocokpkojaaGreatDoorPart48
import Derived.Test.YtmkhoocokpkojaaGreatDoorRefImpl
import Derived.Test.YtmkhoocokpkojaaGreatDoorPart31
import Derived.Test.YtmkhoocokpkojaaGreatDoorPart33
import Derived.Test.YtmkhoocokpkojaaGreatDoorPart32
namespace Go.Proofs.YtmkhoocokpkojaaGreatDoor.faultW
open Go.RowKit Go.Deep base asHit readSpecP
set_option linter.unusedVariables false
def ErrW (w : World) : Prop := w.cell? ⟨0, 0, none⟩ = some (.iface 145 (.agg #[.pointer (some ⟨2, 102, none⟩)]))
theorem ErrW.below {w w' : World} (h : ErrW w) (hb : Below w.heap.size w w') : ErrW w' := keep hb h
theorem results_one {fn : Func} {p : Tmp} {ty : TypeId} (h : fn.results = #[.cell p ty]) (tmps : Array Value) (P : Program) (w : World) :
  (results fn tmps).run P w = ((asAddr (tmps.getD p undef)).run P w).andThen fun a w₁ => (loadVar ty a).run P w₁ := by
 simp only [results, h]
 simp [Sem.run_bind, Result.andThen]
theorem results_two {fn : Func} {p u : Tmp} {ty : TypeId} (h : fn.results = #[.tmp u, .cell p ty]) (tmps : Array Value) (P : Program) (w : World) :
  (results fn tmps).run P w =
   ((asAddr (tmps.getD p undef)).run P w).andThen fun a w₁ => ((loadVar ty a).run P w₁).andThen fun v w₂ => .ok (.tuple #[tmps.getD u undef, v]) w₂ := by
 simp only [results, h]
 simp [Sem.run_bind, Result.andThen]
theorem must_so (code : Int) (w : World) : Calls Tryz.prog 20 #[.bool true, .int .i64 code] w fun e w' => e = .returned (.tuple #[]) ∧ w' = w := by
 go_enter Tryz.func20, Tryz.ntmps20
 go_wp2
 go_end0
 exact ⟨rfl, rfl⟩
theorem must_not (code : Int) (w : World) : Calls Tryz.prog 20 #[.bool false, .int .i64 code] w fun e w' => e = .panicked [{ v := .iface 44 (.agg #[.int .i64 code, .int .i64 0]), recovered := false }] ∧ w' = w := by
 go_enter Tryz.func20, Tryz.ntmps20
 go_wp2
 exact ⟨rfl, rfl, rfl⟩
theorem assertF (v : Value) (w : World) : (Instr.typeAssert (.iface 44 v) 20 102 true).run Tryz.prog w = .ok (.tuple #[.iface 44 v, .bool true]) w := by kernel_rfl
set_option maxRecDepth 8000 in
theorem faultOf_ok (x y : Int) (w : World) (he : ErrW w) : Calls Tryz.prog 40 #[(.iface 44 (.agg #[.int .i64 x, .int .i64 y]))] w fun e w' => e = .returned (.agg #[.int .i64 x, .int .i64 y]) ∧ Below w.heap.size w w' := by
 have hA := assertF (.agg #[.int .i64 x, .int .i64 y])
 have HE := hid he
 clear he
 go_enter Tryz.func40, Tryz.ntmps40
 go_wp2_with fail
 refine (as_some x y _ (.int .i64 0) (.int .i64 0) _ (ErrW.below HE.out (by repeat (first | exact Below.refl _ _ | assumption | refine Below.drew ?_ | refine Below.alloc ?_ (by first | exact Nat.le_refl _ | omega | (simp; done) | (simp; omega)) _ | refine Below.setCell ?_ (by first | exact Nat.le_refl _ | omega | (simp; done) | (simp; omega)) _))) (by simp) (by simp) (by simp) (by simp)).mono ?_
 rintro e w1 ⟨rfl, hb1, hc1, hc2⟩
 have h0 : w1.cell? ⟨w.heap.size, 0, none⟩ = some (.int .i64 0) := by
  rw [hb1.cell (by simp)]; simp
 have h1 : w1.cell? ⟨w.heap.size, 1, none⟩ = some (.int .i64 0) := by
  rw [hb1.cell (by simp)]; simp
 have hz0 : w1.frozen? ⟨w.heap.size, 0, none⟩ = false := by
  rw [hb1.frozen (by simp)]; simp
 have hz1 : w1.frozen? ⟨w.heap.size, 1, none⟩ = false := by
  rw [hb1.frozen (by simp)]; simp
 have HB := hid (show Below w.heap.size w w1 from (show Below w.heap.size w _ from (by repeat (first | exact Below.refl _ _ | assumption | refine Below.drew ?_ | refine Below.alloc ?_ (by first | exact Nat.le_refl _ | omega | (simp; done) | (simp; omega)) _ | refine Below.setCell ?_ (by first | exact Nat.le_refl _ | omega | (simp; done) | (simp; omega)) _))).trans (hb1.mono (by omega)))
 clear hb1
 go_wp2
 refine bodyPost_ret (v := .agg #[.int .i64 x, .int .i64 y]) (by rw [results_one rfl]; go_simp) rfl ?_
 exact ⟨rfl, Below.setCell (Below.setCell HB.out (Nat.le_refl _) _) (Nat.le_refl _) _⟩
set_option maxRecDepth 8000 in
theorem catch_panicking (N : Nat) (x y : Int) (o1 o2 : Value) (older : List PanicEntry) (w : World) (he : ErrW w) (h0 : w.cell? ⟨N, 0, none⟩ = some o1) (h1 : w.cell? ⟨N, 1, none⟩ = some o2) (hz0 : w.frozen? ⟨N, 0, none⟩ = false) (hz1 : w.frozen? ⟨N, 1, none⟩ = false) :
  CallsD Tryz.prog 54 #[.pointer (some ⟨N, 0, none⟩)] (.panicking ({ v := .iface 44 (.agg #[.int .i64 x, .int .i64 y]), recovered := false } :: older)) w fun e u' w' =>
   e = .returned (.tuple #[]) ∧ u' = .panicking ({ v := .iface 44 (.agg #[.int .i64 x, .int .i64 y]), recovered := true } :: older) ∧ Below N w w' ∧ w'.cell? ⟨N, 0, none⟩ = some (.int .i64 x) ∧ w'.cell? ⟨N, 1, none⟩ = some (.int .i64 y) := by
 refine callsD_of_wpS Tryz.func54 rfl fun c₀ cs hu => ?_
 apply wpS_seq
 apply wpS_region
 simp [wpOpsS, go_sem, recoverD, hu, Tryz.ntmps54, Exit.thenS]
 refine wpS_of_wp ?_
 change Code.wp _ _ _ { tmps := #[.pointer (some ⟨N, 0, none⟩), .iface 44 (.agg #[.int .i64 x, .int .i64 y]), .iface 44 (.agg #[.int .i64 x, .int .i64 y]), undef, undef, undef, undef], defers := [] } _
 have HE := hid he
 clear he
 go_wp2_with fail
 refine (faultOf_ok x y _ HE.out).mono ?_
 rintro e w1 ⟨rfl, hb1⟩
 have hN : N < w.heap.size := lt_of_cell h0
 have g0 : w1.cell? ⟨N, 0, none⟩ = some o1 := keep hb1 h0
 have g1 : w1.cell? ⟨N, 1, none⟩ = some o2 := keep hb1 h1
 have z0 : w1.frozen? ⟨N, 0, none⟩ = false := by rw [hb1.frozen hN]; exact hz0
 have z1 : w1.frozen? ⟨N, 1, none⟩ = false := by rw [hb1.frozen hN]; exact hz1
 have HB := hid hb1
 clear hb1
 go_wp2
 refine ⟨rfl, _, rfl, _, results_none rfl _ _ _, rfl, rfl, ?_, ?_, ?_⟩
 · exact Below.setCell (Below.setCell (HB.out.mono (Nat.le_of_lt hN)) (p := ⟨N, 0, none⟩) (Nat.le_refl _) _) (p := ⟨N, 1, none⟩) (Nat.le_refl _) _
 · rw [World.cell?_setCell_other _ _ _ _ (by intro h; injection h; omega)]
   exact World.cell?_setCell_same _ _ _ g0
 · exact World.cell?_setCell_same _ _ _ ((World.cell?_setCell_other _ _ _ _ (by intro h; injection h; omega)).trans g1)
theorem catch_idle (N : Nat) (w : World) :
  CallsD Tryz.prog 54 #[.pointer (some ⟨N, 0, none⟩)] .returning w fun e u' w' => e = .returned (.tuple #[]) ∧ u' = .returning ∧ w' = w := by
 refine callsD_of_wpS Tryz.func54 rfl fun c₀ cs hu => ?_
 apply wpS_seq
 apply wpS_region
 simp [wpOpsS, go_sem, recoverD, hu, Tryz.ntmps54, Exit.thenS]
 refine wpS_of_wp ?_
 change Code.wp _ _ _ { tmps := #[.pointer (some ⟨N, 0, none⟩), .nilIface, .nilIface, undef, undef, undef, undef], defers := [] } _
 go_wp2
 refine ⟨rfl, .returning, ?_, _, results_none rfl _ _ _, rfl, rfl, rfl⟩
 cases c₀
 simp_all
theorem own_ahead {B n b o sz : Nat} {t : TypeId} {w : World} {v x : Value} {xs : List Value} (h : w.ownsRow B t sz v n xs) (hb : b < B) : (w.setCell ⟨b, o, none⟩ x).ownsRow B t sz v n xs := by
 obtain ⟨h1, h2⟩ := h
 refine ⟨h1, ?_⟩
 rcases h2 with h2 | ⟨g, cap, cur, e, hg, hh, hn⟩
 · exact .inl h2
 · exact .inr ⟨g, cap, cur, e, hg, by rw [Below.heap_setCell _ _ _ _ (by show g ≠ b; omega)]; exact hh, hn⟩
theorem steps_ahead {B b o : Nat} {w : World} {v x : Value} {ps : List Pt} (h : OwnSteps B w v ps) (hb : b < B) : OwnSteps B (w.setCell ⟨b, o, none⟩ x) v ps := ⟨own_ahead h.outer hb, fun p hp => own_ahead (h.inner p hp) hb⟩
set_option maxRecDepth 8000 in
theorem answerOf_ret (f : FuncId) (cap : Value) (ss : List (Bool × List Int)) (w : World) (hcf : ∀ w, (callFunc f #[cap]).run Tryz.prog w = .ok (.enter f #[cap]) w)
  (hf : ∀ w0, w0 = w.alloc (.cells #[.int .i64 0, .int .i64 0] 44) → Calls Tryz.prog f #[cap] w0 fun e w' => ∃ v ps, e = .returned v ∧ OwnSteps (w.heap.size + 1) w' v ps ∧ Lone ps ∧ ps.map strip = ss ∧ Below (w.heap.size + 1) w0 w') :
  Calls Tryz.prog 28 #[.func (.func f) #[] #[cap]] w fun e w' => ∃ v ps, e = .returned (.tuple #[v, .agg #[.int .i64 0, .int .i64 0]]) ∧ OwnSteps (w.heap.size + 1) w' v ps ∧ Lone ps ∧ ps.map strip = ss ∧ Below w.heap.size w w' := by
 have hmf : ∀ (fn : Fn) (first cap : Array Value) (w : World), (Instr.makeFunc fn first cap).run Tryz.prog w = .ok (.func fn first cap) w := fun _ _ _ _ => rfl
 go_enter_defers Tryz.func28, Tryz.ntmps28
 go_wp2_with fail
 refine (hf _ rfl).mono ?_
 rintro e w1 ⟨v, ps, rfl, hos, hlo, hst, hb1⟩
 obtain ⟨va, vc, hva⟩ : ∃ va vc, v = .slice va ps.length vc := by
  rcases hos.outer.2 with ⟨e, h0⟩ | ⟨g, cp, cur, e, _⟩
  · rw [h0]; exact ⟨_, _, e⟩
  · exact ⟨_, _, e⟩
 subst hva
 have HOs := hid hos
 have HLo := hid hlo
 have HSt := hid hst
 clear hos hlo hst
 have h0 : w1.cell? ⟨w.heap.size, 0, none⟩ = some (.int .i64 0) := by
  rw [hb1.cell (by simp)]; simp
 have h1 : w1.cell? ⟨w.heap.size, 1, none⟩ = some (.int .i64 0) := by
  rw [hb1.cell (by simp)]; simp
 have z0 : w1.frozen? ⟨w.heap.size, 0, none⟩ = false := by
  rw [hb1.frozen (by simp)]; simp
 have z1 : w1.frozen? ⟨w.heap.size, 1, none⟩ = false := by
  rw [hb1.frozen (by simp)]; simp
 have HB := hid (show Below w.heap.size w w1 from (show Below w.heap.size w _ from (by repeat (first | exact Below.refl _ _ | assumption | refine Below.drew ?_ | refine Below.alloc ?_ (by first | exact Nat.le_refl _ | omega | (simp; done) | (simp; omega)) _ | refine Below.setCell ?_ (by first | exact Nat.le_refl _ | omega | (simp; done) | (simp; omega)) _))).trans (hb1.mono (by omega)))
 clear hb1
 go_wp2
 go_region
 go_wp2
 refine leaves_cons (f := 54) (args := #[.pointer (some ⟨w.heap.size, 0, none⟩)]) (by simp) (by simp [go_sem]) ?_
 refine (catch_idle w.heap.size _).mono ?_
 rintro e u' w'' ⟨rfl, rfl, rfl⟩
 refine ⟨.tuple #[.slice va ps.length vc, .agg #[.int .i64 0, .int .i64 0]], (by rw [results_two rfl]; go_simp), _, ps, rfl, ?_, HLo.out, HSt.out, ?_⟩
 · exact OwnSteps.below (steps_ahead (steps_ahead HOs.out (Nat.lt_succ_self _)) (Nat.lt_succ_self _)) (by repeat (first | exact Below.refl _ _ | assumption | refine Below.drew ?_ | refine Below.alloc ?_ (by first | exact Nat.le_refl _ | omega | (simp; done) | (simp; omega)) _ | refine Below.setCell ?_ (by first | exact Nat.le_refl _ | omega | (simp; done) | (simp; omega)) _))
 exact Below.drew (Below.setCell (Below.setCell HB.out (p := ⟨w.heap.size, 0, none⟩) (Nat.le_refl _) _) (p := ⟨w.heap.size, 1, none⟩) (Nat.le_refl _) _)
set_option maxRecDepth 8000 in
theorem answerOf_fault (f : FuncId) (cap : Value) (x y : Int) (w : World) (he : ErrW w) (hcf : ∀ w, (callFunc f #[cap]).run Tryz.prog w = .ok (.enter f #[cap]) w)
  (hf : ∀ w0, w0 = w.alloc (.cells #[.int .i64 0, .int .i64 0] 44) → Calls Tryz.prog f #[cap] w0 fun e w' => e = .panicked [{ v := .iface 44 (.agg #[.int .i64 x, .int .i64 y]), recovered := false }] ∧ Below (w.heap.size + 1) w0 w') :
  Calls Tryz.prog 28 #[.func (.func f) #[] #[cap]] w fun e w' => e = .returned (.tuple #[.slice none 0 0, .agg #[.int .i64 x, .int .i64 y]]) ∧ Below w.heap.size w w' := by
 have hmf : ∀ (fn : Fn) (first cap : Array Value) (w : World), (Instr.makeFunc fn first cap).run Tryz.prog w = .ok (.func fn first cap) w := fun _ _ _ _ => rfl
 have HE := hid he
 clear he
 go_enter_defers Tryz.func28, Tryz.ntmps28
 go_wp2_with fail
 refine (hf _ rfl).mono ?_
 rintro e w1 ⟨rfl, hb1⟩
 have h0 : w1.cell? ⟨w.heap.size, 0, none⟩ = some (.int .i64 0) := by
  rw [hb1.cell (by simp)]; simp
 have h1 : w1.cell? ⟨w.heap.size, 1, none⟩ = some (.int .i64 0) := by
  rw [hb1.cell (by simp)]; simp
 have z0 : w1.frozen? ⟨w.heap.size, 0, none⟩ = false := by
  rw [hb1.frozen (by simp)]; simp
 have z1 : w1.frozen? ⟨w.heap.size, 1, none⟩ = false := by
  rw [hb1.frozen (by simp)]; simp
 have hb : Below w.heap.size w w1 := (show Below w.heap.size w _ from (by repeat (first | exact Below.refl _ _ | assumption | refine Below.drew ?_ | refine Below.alloc ?_ (by first | exact Nat.le_refl _ | omega | (simp; done) | (simp; omega)) _ | refine Below.setCell ?_ (by first | exact Nat.le_refl _ | omega | (simp; done) | (simp; omega)) _))).trans (hb1.mono (by omega))
 clear hb1
 have he1 : ErrW w1 := HE.out.below hb
 have HB := hid hb
 clear hb
 refine leaves_cons (f := 54) (args := #[.pointer (some ⟨w.heap.size, 0, none⟩)]) (by simp) (by simp [go_sem]) ?_
 refine (catch_panicking w.heap.size x y _ _ [] _ he1 h0 h1 z0 z1).mono ?_
 rintro e u' w'' ⟨rfl, rfl, hb2, g0, g1⟩
 refine ⟨.tuple #[.slice none 0 0, .agg #[.int .i64 x, .int .i64 y]], (by rw [results_two rfl]; go_simp), rfl, ?_⟩
 exact HB.out.trans hb2
end Go.Proofs.YtmkhoocokpkojaaGreatDoor.faultW
namespace Go.Proofs.YtmkhoocokpkojaaGreatDoor.refAnsI
open Go.RowKit Go.Deep Go base copy cnf sets setsOf solOps rowsOwn withoutI refImpl faultW refConc refDo refOk
open readSpecP (Pt pcs OwnSteps Lone strip)
open refFace (codeK)
open faultI (ErrW)
set_option linter.unusedVariables false
set_option linter.unusedSimpArgs false
theorem strip_cls {ps : List Pt} (h : ∀ p ∈ ps, p.1 = false) : ps.map strip = (cls ps).map fun z => (false, z) := by
 unfold cls
 rw [List.map_map]
 exact List.map_congr_left fun p hp => by show (p.1, p.2.2) = (false, p.2.2); rw [h p hp]
def ansC (vars : Int) (zss : List (List Int)) (k : Nat) : Int := if cnfB vars zss = true then codeK k else 1
def ansS (vars : Int) (zss : List (List Int)) (k : Nat) (p' : List (List Int)) : List (Bool × List Int) := if cnfB vars zss = true ∧ k = 0 then p'.map fun z => (false, z) else []
theorem answer (N1 : Nat) (vars : Int) (a : Option Addr) (len cap : Nat) (zss : List (List Int)) (w : World) (hr : IntRows w a len zss) (c0 : w.cell? ⟨N1, 0, none⟩ = some (.int .i64 vars)) (c1 : w.cell? ⟨N1, 1, none⟩ = some (.slice a len cap)) (ht : Tab w) (he : faultW.ErrW w) (k : Nat) (p' : List (List Int)) (hg : cnfB vars zss = true → ∃ nv : Nat, vars = (nv : Int) ∧ Goes zss nv [] [] k p') :
  Calls Tryz.prog 28 #[.func (.func 29) #[] #[.pointer (some ⟨N1, 0, none⟩)]] w fun e w' => ∃ v ps, e = .returned (.tuple #[v, .agg #[.int .i64 (ansC vars zss k), .int .i64 0]]) ∧ OwnSteps w.heap.size w' v ps ∧ Lone ps ∧ ps.map strip = ansS vars zss k p' ∧ Below w.heap.size w w' := by
 have hcf : ∀ w, (callFunc 29 #[.pointer (some ⟨N1, 0, none⟩)]).run Tryz.prog w = .ok (.enter 29 #[.pointer (some ⟨N1, 0, none⟩)]) w := fun w => enters_of Tryz.func29 (by kernel_rfl) rfl _ w
 have hb0 : Below w.heap.size w (w.alloc (.cells #[.int .i64 0, .int .i64 0] 44)) := (Below.refl _ _).alloc (Nat.le_refl _) _
 have hz : (w.alloc (.cells #[.int .i64 0, .int .i64 0] 44)).heap.size = w.heap.size + 1 := by simp
 unfold ansC ansS
 by_cases hc : cnfB vars zss = true
 · obtain ⟨nv, rfl, hgo⟩ := hg hc
   have hd := do_ok N1 nv a len cap zss _ (hr.below hb0) (keep hb0 c0) (keep hb0 c1) hc (tab_below ht hb0) hgo
   rw [hz] at hd
   by_cases hk : k = 0
   · subst hk
     rw [if_pos hc, if_pos ⟨hc, rfl⟩]
     refine (answerOf_ret 29 _ (p'.map fun z => (false, z)) w hcf ?_).mono ?_
     · rintro w0 rfl
       refine hd.mono ?_
       rintro e w' ⟨h1, -, h3⟩
       obtain ⟨v, ps, rfl, q1, q2, q3, q4, q5⟩ := h1 rfl
       exact ⟨v, ps, rfl, q1, q2, by rw [strip_cls q4, q3], h3⟩
     · rintro e w' ⟨v, ps, rfl, q1, q2, q3, hb9⟩
       exact ⟨v, ps, rfl, q1.mono (by omega), q2, q3, hb9⟩
   · rw [if_pos hc, if_neg (fun h => hk h.2)]
     refine (answerOf_fault 29 _ (codeK k) 0 w he hcf ?_).mono ?_
     · rintro w0 rfl
       refine hd.mono ?_
       rintro e w' ⟨-, h2, h3⟩
       exact ⟨h2 hk, h3⟩
     · rintro e w' ⟨rfl, hb9⟩
       exact ⟨_, [], rfl, ⟨⟨rfl, .inl ⟨rfl, rfl⟩⟩, fun p hp => by cases hp⟩, List.Pairwise.nil, rfl, hb9⟩
 · have hd := do_bad N1 vars a len cap zss _ (hr.below hb0) (keep hb0 c0) (keep hb0 c1) (by simpa using hc)
   rw [hz] at hd
   rw [if_neg hc, if_neg (fun h => hc h.1)]
   refine (answerOf_fault 29 _ 1 0 w he hcf ?_).mono ?_
   · rintro w0 rfl
     exact hd
   · rintro e w' ⟨rfl, hb9⟩
     exact ⟨_, [], rfl, ⟨⟨rfl, .inl ⟨rfl, rfl⟩⟩, fun p hp => by cases hp⟩, List.Pairwise.nil, rfl, hb9⟩
end Go.Proofs.YtmkhoocokpkojaaGreatDoor.refAnsI
namespace Go.Proofs.YtmkhoocokpkojaaGreatDoor.refFaceI
open Go.RowKit Go.Deep Go base copy cnf sets setsOf solOps rowsOwn withoutI refImpl faultW refConc refDo refOk refAnsI
open readSpecP (Pt pcs OwnSteps Lone strip)
set_option linter.unusedVariables false
set_option linter.unusedSimpArgs false
set_option maxHeartbeats 1600000 in
set_option maxRecDepth 8000 in
theorem ref_impl (vars : Int) (a : Option Addr) (len cap : Nat) (zss : List (List Int)) (w : World) (hr : IntRows w a len zss) (ht : Tab w) (he : faultW.ErrW w) (k : Nat) (p' : List (List Int)) (hg : cnfB vars zss = true → ∃ nv : Nat, vars = (nv : Int) ∧ Goes zss nv [] [] k p') :
  Calls Tryz.prog 11 #[.agg #[.int .i64 vars, .slice a len cap]] w fun e w' => ∃ v ps, e = .returned (.tuple #[v, .int .i64 (ansC vars zss k)]) ∧ OwnSteps w.heap.size w' v ps ∧ Lone ps ∧ ps.map strip = ansS vars zss k p' ∧ Below w.heap.size w w' := by
 have hmf : ∀ (fn : Fn) (first cap : Array Value) (w : World), (Instr.makeFunc fn first cap).run Tryz.prog w = .ok (.func fn first cap) w := fun _ _ _ _ => rfl
 have HA := hid (fun N1 W (hW : Below w.heap.size w W) c0 c1 => answer N1 vars a len cap zss W (hr.below hW) c0 c1 (tab_below ht hW) (he.below hW) k p' hg)
 clear hr ht he hg
 go_enter Tryz.func11, Tryz.ntmps11
 go_wp2_with fail
 refine (HA.out _ _ (by repeat (first | exact Below.refl _ _ | assumption | refine Below.drew ?_ | refine Below.alloc ?_ (by first | exact Nat.le_refl _ | omega | (simp; done) | (simp; omega)) _ | refine Below.setCell ?_ (by first | exact Nat.le_refl _ | omega | (simp; done) | (simp; omega)) _)) ?_ ?_).mono ?_
 · simp [go_sem]
 · simp [go_sem]
 rintro e w1 ⟨v, ps, rfl, q1, q2, q3, hb1⟩
 have HB := hid ((show Below w.heap.size w _ from (by repeat (first | exact Below.refl _ _ | assumption | refine Below.drew ?_ | refine Below.alloc ?_ (by first | exact Nat.le_refl _ | omega | (simp; done) | (simp; omega)) _ | refine Below.setCell ?_ (by first | exact Nat.le_refl _ | omega | (simp; done) | (simp; omega)) _))).trans (hb1.mono (by first | (simp; done) | (simp; omega))))
 obtain ⟨sa, sc, rfl⟩ := refSem.steps_form q1
 have HX := hid (And.intro (q1.mono (show w.heap.size ≤ _ by simp)) (And.intro q2 q3))
 clear q1 q2 q3 hb1
 go_wp2
 go_region
 all_goals
  go_wp2
  go_ret2
  exact ⟨.slice sa ps.length sc, ps, rfl, HX.out.1.below (Below.drew (Below.alloc (Below.refl _ _) (Nat.le_refl _) _)), HX.out.2.1, HX.out.2.2, Below.drew (Below.alloc HB.out HB.out.size _)⟩
end Go.Proofs.YtmkhoocokpkojaaGreatDoor.refFaceI
namespace Go.Proofs.YtmkhoocokpkojaaGreatDoor.refUniq
open Go refImpl
set_option linter.unusedVariables false
theorem opens_uniq {V : Nat → Int} {nv q q' : Nat} (h : Opens V nv q) (h' : Opens V nv q') : q = q' := by
 obtain ⟨a1, a2, a3, a4⟩ := h
 obtain ⟨b1, b2, b3, b4⟩ := h'
 rcases Nat.lt_trichotomy q q' with h | h | h
 · exact absurd a3 (b4 q a1 h)
 · exact h
 · exact absurd b3 (a4 q' b1 h)
theorem no_opens {V : Nat → Int} {nv q : Nat} (h : Opens V nv q) (hall : ∀ i, 1 ≤ i → i ≤ nv → V i ≠ 0) : False := hall q h.1 h.2.1 h.2.2.1
theorem goes_uniq {Z : List (List Int)} {nv : Nat} {zs : List Int} {p p' : List (List Int)} {c : Nat} (h : Goes Z nv zs p c p') : ∀ {c2 : Nat} {p2 : List (List Int)}, Goes Z nv zs p c2 p2 → c = c2 ∧ p' = p2 := by
 induction h with
 | shut h1 h2 h3 =>
  intro c2 p2 g
  cases g with
  | shut => exact ⟨rfl, rfl⟩
  | shutM _ h => omega
  | model h => omega
  | left h => omega
  | right h => omega
  | both h => omega
  | bothM h => omega
 | shutM h1 h2 =>
  intro c2 p2 g
  cases g with
  | shut => omega
  | shutM => exact ⟨rfl, rfl⟩
  | model h => omega
  | left h => omega
  | right h => omega
  | both h => omega
  | bothM h => omega
 | model h1 h2 =>
  intro c2 p2 g
  cases g with
  | shut h => omega
  | shutM h => omega
  | model => exact ⟨rfl, rfl⟩
  | left _ h => exact (no_opens h h2).elim
  | right _ h => exact (no_opens h h2).elim
  | both _ h => exact (no_opens h h2).elim
  | bothM _ h => exact (no_opens h h2).elim
 | left h1 h2 h3 h4 ih =>
  intro c2 p2 g
  cases g with
  | shut h => omega
  | shutM h => omega
  | model _ h => exact (no_opens h2 h).elim
  | left _ h g1 => cases opens_uniq h2 h; exact ih g1
  | right _ h g1 => cases opens_uniq h2 h; exact absurd (ih g1).1 h4
  | both _ h g1 => cases opens_uniq h2 h; exact absurd (ih g1).1 h4
  | bothM _ h g1 => cases opens_uniq h2 h; exact absurd (ih g1).1 h4
 | right h1 h2 h3 h4 h5 ih1 ih2 =>
  intro c2 p2 g
  cases g with
  | shut h => omega
  | shutM h => omega
  | model _ h => exact (no_opens h2 h).elim
  | left _ h g1 g2 => cases opens_uniq h2 h; exact absurd (ih1 g1).1.symm g2
  | right _ h g1 g2 => cases opens_uniq h2 h; cases (ih1 g1).2; exact ih2 g2
  | both _ h g1 g2 => cases opens_uniq h2 h; cases (ih1 g1).2; exact absurd (ih2 g2).1 h5
  | bothM _ h g1 g2 => cases opens_uniq h2 h; cases (ih1 g1).2; exact absurd (ih2 g2).1 h5
 | both h1 h2 h3 h4 h5 h6 ih1 ih2 =>
  intro c2 p2 g
  cases g with
  | shut h => omega
  | shutM h => omega
  | model _ h => exact (no_opens h2 h).elim
  | left _ h g1 g2 => cases opens_uniq h2 h; exact absurd (ih1 g1).1.symm g2
  | right _ h g1 g2 g3 => cases opens_uniq h2 h; cases (ih1 g1).2; exact absurd (ih2 g2).1.symm g3
  | both _ h g1 g2 => cases opens_uniq h2 h; cases (ih1 g1).2; cases (ih2 g2).2; exact ⟨rfl, rfl⟩
  | bothM _ h g1 g2 g3 => cases opens_uniq h2 h; cases (ih1 g1).2; cases (ih2 g2).2; omega
 | bothM h1 h2 h3 h4 h5 ih1 ih2 =>
  intro c2 p2 g
  cases g with
  | shut h => omega
  | shutM h => omega
  | model _ h => exact (no_opens h2 h).elim
  | left _ h g1 g2 => cases opens_uniq h2 h; exact absurd (ih1 g1).1.symm g2
  | right _ h g1 g2 g3 => cases opens_uniq h2 h; cases (ih1 g1).2; exact absurd (ih2 g2).1.symm g3
  | both _ h g1 g2 g3 => cases opens_uniq h2 h; cases (ih1 g1).2; cases (ih2 g2).2; omega
  | bothM _ h g1 g2 => cases opens_uniq h2 h; cases (ih1 g1).2; cases (ih2 g2).2; exact ⟨rfl, rfl⟩
end Go.Proofs.YtmkhoocokpkojaaGreatDoor.refUniq
namespace Go.Proofs.YtmkhoocokpkojaaGreatDoor.satMath
open sets solSets solMath solHold solProp solNew solClose solTrail chkNew chkMath ratMath chkSem runS leastSem
open rupSpec (LitsIn)
set_option linter.unusedVariables false
set_option linter.unusedSimpArgs false
def litsM (M : Nat → Int) (k : Nat) : List Int := (List.range k).map fun i => if M (i + 1) = 1 then ((i + 1 : Nat) : Int) else -((i + 1 : Nat) : Int)
def setM (M : Nat → Int) (k : Nat) : LS := setL (litsM M k)
theorem litsM_in {M : Nat → Int} {k : Nat} : ∀ z ∈ litsM M k, z ≠ 0 ∧ z.natAbs ≤ k := fun z hz => by
 unfold litsM at hz
 obtain ⟨i, hi, rfl⟩ := List.mem_map.1 hz
 have := List.mem_range.1 hi
 split <;> omega
theorem wf_setM {M : Nat → Int} {k : Nat} (hk : k ≤ 40) : Wf (setM M k) := wf_set fun z hz => by
 have := litsM_in z hz
 exact ⟨this.1, by omega⟩
theorem val_pos (M : Nat → Int) {l : Int} (h : 0 < l) : runS.valOf M l = M l.natAbs := by unfold runS.valOf; rw [if_neg (by omega)]
theorem val_neg (M : Nat → Int) {l : Int} (h : l < 0) : runS.valOf M l = -M l.natAbs := by unfold runS.valOf; rw [if_pos h]
theorem val_turn (M : Nat → Int) {l : Int} (h : l ≠ 0) : runS.valOf M (-l) = -runS.valOf M l := by
 unfold runS.valOf
 rw [Int.natAbs_neg]
 by_cases h1 : l < 0
 · rw [if_pos h1, if_neg (by omega)]; omega
 · rw [if_neg h1, if_pos (by omega)]
theorem mem_setM {M : Nat → Int} {k : Nat} (hT : Tot M (k + 1)) (l : Int) : mem (setM M k) l = true ↔ (l ≠ 0 ∧ l.natAbs ≤ k ∧ runS.valOf M l = 1) := by
 unfold setM
 rw [mem_set (fun z hz => (litsM_in z hz).1), List.contains_iff_mem]
 constructor
 · intro h
   obtain ⟨h1, h2⟩ := litsM_in l h
   refine ⟨h1, h2, ?_⟩
   unfold litsM at h
   obtain ⟨i, hi, e⟩ := List.mem_map.1 h
   have hik := List.mem_range.1 hi
   by_cases hM : M (i + 1) = 1
   · rw [if_pos hM] at e
     rw [val_pos M (by omega), show l.natAbs = i + 1 by omega, hM]
   · rw [if_neg hM] at e
     have := (hT (i + 1) (by omega) (by omega)).resolve_left hM
     rw [val_neg M (by omega), show l.natAbs = i + 1 by omega, this]; rfl
 · rintro ⟨h1, h2, h3⟩
   unfold litsM
   refine List.mem_map.2 ⟨l.natAbs - 1, List.mem_range.2 (by omega), ?_⟩
   rw [show l.natAbs - 1 + 1 = l.natAbs by omega]
   by_cases h0 : 0 < l
   · rw [val_pos M h0] at h3
     rw [if_pos h3]; omega
   · rw [val_neg M (by omega)] at h3
     rw [if_neg (by omega)]; omega
theorem tot_val {M : Nat → Int} {k : Nat} (hT : Tot M (k + 1)) {l : Int} (h : l ≠ 0) (hl : l.natAbs ≤ k) : runS.valOf M l = 1 ∨ runS.valOf M l = -1 := by
 have := hT l.natAbs (by omega) (by omega)
 unfold runS.valOf
 split <;> omega
theorem cons_setM {M : Nat → Int} {k : Nat} (hT : Tot M (k + 1)) : Cons (setM M k) := fun l hl => by
 obtain ⟨h1, h2, h3⟩ := (mem_setM hT l).1 hl
 cases h : mem (setM M k) (-l) with
 | false => rfl
 | true =>
  obtain ⟨_, _, h4⟩ := (mem_setM hT (-l)).1 h
  rw [val_turn M h1, h3] at h4
  cases h4
theorem lit41 {k : Nat} {Z : List (List Int)} (hk : k ≤ 40) (hl : LitsIn (k + 1) Z) {c : List Int} (hc : c ∈ Z) : ∀ z ∈ c, z ≠ 0 ∧ z.natAbs < 41 := fun z hz => by
 have := hl c hc z hz
 exact ⟨this.1, by omega⟩
theorem mod_closed {M : Nat → Int} {k : Nat} {Z : List (List Int)} (hk : k ≤ 40) (hl : LitsIn (k + 1) Z) (hm : Mod Z (k + 1) M) : Closed (Z.map setL) (setM M k) :=
 ⟨wf_setM hk, cons_setM hm.1, fun c hc => by
  obtain ⟨ys, hy, rfl⟩ := List.mem_map.1 hc
  obtain ⟨z, hz, hv⟩ := hm.2 ys hy
  have h1 := hl ys hy z hz
  exact .inl ((meet_iff (wf_set (lit41 hk hl hy))).2 ⟨z, by rw [mem_set (fun z hz => (hl ys hy z hz).1), List.contains_iff_mem]; exact hz, (mem_setM hm.1 z).2 ⟨h1.1, by omega, hv⟩⟩)⟩
theorem rup_meet {cs : List LS} {c H : LS} (hw : Wf c) (h : rupP cs c) (hcl : Closed cs H) (ht : ∀ l, mem c l = true → mem H l = true ∨ mem H (-l) = true) : ∃ l, mem c l = true ∧ mem H l = true := by
 refine Classical.byContradiction fun hno => ?_
 have hall : ∀ l, mem c l = true → mem H (-l) = true := fun l hl => (ht l hl).resolve_left (fun e => hno ⟨l, hl, e⟩)
 rcases h with h | h
 · obtain ⟨l, h1, h2⟩ := (meet_iff hw).1 h
   have hr := (hw.range h1).1
   rw [mem_turn hr] at h2
   have h3 := hall _ h2
   rw [Int.neg_neg] at h3
   have h4 := hcl.cons _ h3
   rw [hall l h1] at h4
   cases h4
 · refine h ⟨H, hcl, fun l hl => ?_⟩
   have hr := ((wf_turn hw).range hl).1
   rw [mem_turn hr] at hl
   have := hall _ hl
   rwa [Int.neg_neg] at this
theorem tot_mem {M : Nat → Int} {k : Nat} (hT : Tot M (k + 1)) {l : Int} (h : l ≠ 0) (hl : l.natAbs ≤ k) : mem (setM M k) l = true ∨ mem (setM M k) (-l) = true := by
 rcases tot_val hT h hl with e | e
 · exact .inl ((mem_setM hT l).2 ⟨h, hl, e⟩)
 · exact .inr ((mem_setM hT (-l)).2 ⟨by omega, by omega, by rw [val_turn M h, e]; rfl⟩)
theorem rup_model {M : Nat → Int} {k : Nat} {Z : List (List Int)} {zs : List Int} (hk : k ≤ 40) (hl : LitsIn (k + 1) Z) (hz : ∀ z ∈ zs, z ≠ 0 ∧ z.natAbs < k + 1) (h : rupP (Z.map setL) (setL zs)) (hm : Mod Z (k + 1) M) : ∃ z ∈ zs, runS.valOf M z = 1 := by
 have hw : Wf (setL zs) := wf_set fun z h9 => by have := hz z h9; exact ⟨this.1, by omega⟩
 have hms : ∀ l, mem (setL zs) l = true → l ∈ zs := fun l h9 => by rwa [mem_set (fun z hz9 => (hz z hz9).1), List.contains_iff_mem] at h9
 obtain ⟨l, h1, h2⟩ := rup_meet hw h (mod_closed hk hl hm) (fun l h9 => by
  have := hz l (hms l h9)
  exact tot_mem hm.1 this.1 (by omega))
 exact ⟨l, hms l h1, ((mem_setM hm.1 l).1 h2).2.2⟩
theorem set_turn (M : Nat → Int) {l z : Int} (hl : l ≠ 0) (hz : z ≠ 0) : runS.valOf (setV M l) z = if z = l then 1 else if z = -l then -1 else runS.valOf M z := by
 by_cases h1 : z.natAbs = l.natAbs
 · have h2 : setV M l z.natAbs = if 0 < l then 1 else -1 := by unfold setV; rw [if_pos h1]
   unfold runS.valOf
   rw [h2]
   rcases Int.lt_or_gt_of_ne hl with h3 | h3 <;> rcases Int.lt_or_gt_of_ne hz with h4 | h4
   · rw [if_pos h4, if_neg (by omega), if_pos (by omega)]; rfl
   · rw [if_neg (by omega), if_neg (by omega), if_neg (by omega), if_pos (by omega)]
   · rw [if_pos h4, if_pos h3, if_neg (by omega), if_pos (by omega)]
   · rw [if_neg (by omega), if_pos h3, if_pos (by omega)]
 · have h2 : setV M l z.natAbs = M z.natAbs := by unfold setV; rw [if_neg h1]
   rw [if_neg (by omega), if_neg (by omega)]
   unfold runS.valOf
   rw [h2]
theorem rat_model {M : Nat → Int} {k : Nat} {Z : List (List Int)} {zs : List Int} (hk : k ≤ 40) (hl : LitsIn (k + 1) Z) (hz : ∀ z ∈ zs, z ≠ 0 ∧ z.natAbs < k + 1) (h : ratP (Z.map setL) zs) (hm : Mod Z (k + 1) M) : ∃ M', Mod (Z ++ [zs]) (k + 1) M' := by
 by_cases hs : ∃ z ∈ zs, runS.valOf M z = 1
 · exact ⟨M, hm.1, fun c hc => by
    rcases List.mem_append.1 hc with hc | hc
    · exact hm.2 c hc
    · rw [List.mem_singleton.1 hc]; exact hs⟩
 obtain ⟨l, r, rfl, hat⟩ := h
 have hl0 := hz l (by simp)
 have hT : Tot (setV M l) (k + 1) := fun i h1 h2 => by
  unfold setV
  by_cases e : i = l.natAbs
  · rw [if_pos e]; split <;> simp
  · rw [if_neg e]; exact hm.1 i h1 h2
 refine ⟨setV M l, hT, fun c hc => ?_⟩
 rcases List.mem_append.1 hc with hc | hc
 · by_cases hq : ∃ z ∈ c, runS.valOf M z = 1 ∧ z ≠ -l
   · obtain ⟨z, h1, h2, h3⟩ := hq
     refine ⟨z, h1, ?_⟩
     rw [set_turn M hl0.1 (hl c hc z h1).1]
     by_cases e : z = l
     · rw [if_pos e]
     · rw [if_neg e, if_neg h3]; exact h2
   · obtain ⟨z, h1, h2⟩ := hm.2 c hc
     obtain rfl : z = -l := Classical.byContradiction fun e => hq ⟨z, h1, h2, e⟩
     have hcw : Wf (setL c) := wf_set (lit41 hk hl hc)
     have hzw : Wf (setL (l :: r)) := wf_set fun z h9 => by have := hz z h9; exact ⟨this.1, by omega⟩
     have hmc : ∀ x, mem (setL c) x = true → x ∈ c := fun x h9 => by rwa [mem_set (fun z hz9 => (hl c hc z hz9).1), List.contains_iff_mem] at h9
     have hmz : ∀ x, mem (setL (l :: r)) x = true → x ∈ l :: r := fun x h9 => by rwa [mem_set (fun z hz9 => (hz z hz9).1), List.contains_iff_mem] at h9
     have hrup := hat (setL c) (List.mem_map.2 ⟨c, hc, rfl⟩) (by rw [mem_set (fun z hz9 => (hl c hc z hz9).1), List.contains_iff_mem]; exact h1)
     have hin : ∀ x, mem (resL (setL (l :: r)) (setL c) l) x = true → x ∈ l :: r ∨ (x ∈ c ∧ x ≠ -l) := fun x hx => by
      unfold resL at hx
      rw [mem_with, mem_wo hcw (wf_only (by omega) (by omega) (by omega)), mem_only (by omega), Bool.or_eq_true] at hx
      rcases hx with hx | hx
      · exact .inl (hmz x hx)
      · rw [Bool.and_eq_true] at hx
        refine .inr ⟨hmc x hx.1, fun e => ?_⟩
        have := hx.2
        rw [e] at this
        simp at this
     obtain ⟨x, h3, h4⟩ := rup_meet (wf_res hzw hcw l) hrup (mod_closed hk hl hm) (fun x hx => by
      rcases hin x hx with h9 | h9
      · have := hz x h9; exact tot_mem hm.1 this.1 (by omega)
      · have := hl c hc x h9.1; exact tot_mem hm.1 this.1 (by omega))
     have hv := ((mem_setM hm.1 x).1 h4).2.2
     rcases hin x h3 with h9 | h9
     · exact absurd ⟨x, h9, hv⟩ hs
     · exact absurd ⟨x, h9.1, hv, h9.2⟩ hq
 · rw [List.mem_singleton.1 hc]
   exact ⟨l, by simp, by rw [set_turn M hl0.1 hl0.1, if_pos rfl]⟩
theorem ok_model {M : Nat → Int} {k : Nat} {Z : List (List Int)} {zs : List Int} (hk : k ≤ 40) (hl : LitsIn (k + 1) Z) (hz : ∀ z ∈ zs, z ≠ 0 ∧ z.natAbs < k + 1) (h : okR Z zs) (hm : Mod Z (k + 1) M) : ∃ M', Mod (Z ++ [zs]) (k + 1) M' := by
 rcases h with h | h
 · exact ⟨M, hm.1, fun c hc => by
    rcases List.mem_append.1 hc with hc | hc
    · exact hm.2 c hc
    · rw [List.mem_singleton.1 hc]; exact rup_model hk hl hz h hm⟩
 · exact rat_model hk hl hz h hm
theorem chk_none {k : Nat} (hk : k ≤ 40) : ∀ (r : List Sp) (Z : List (List Int)) (i : Nat) (p : Int), LitsIn (k + 1) Z → (∀ x ∈ r, ∀ z ∈ x.2, z ≠ 0 ∧ z.natAbs < k + 1) → ChkR Z r i p 0 → ¬ ∃ M, Mod Z (k + 1) M
 | [], Z, i, p, hl, hr, h => by have := h.2; omega
 | (d, zs) :: r, Z, i, p, hl, hr, h => by
  rintro ⟨M, hm⟩
  unfold ChkR at h
  have hr' : ∀ x ∈ r, ∀ z ∈ x.2, z ≠ 0 ∧ z.natAbs < k + 1 := fun x hx => hr x (by simp [hx])
  have hz : ∀ z ∈ zs, z ≠ 0 ∧ z.natAbs < k + 1 := hr (d, zs) (by simp)
  split at h
  · rcases h with ⟨_, _, h3⟩ | ⟨j, _, h2⟩
    · omega
    · exact chk_none hk r _ _ _ (fun c hc => hl c (List.mem_of_mem_eraseIdx hc)) hr' h2 ⟨M, hm.1, fun c hc => hm.2 c (List.mem_of_mem_eraseIdx hc)⟩
  · rcases h with ⟨_, _, h3⟩ | ⟨h1, h2, _, _⟩ | ⟨h1, _, h3⟩
    · omega
    · obtain ⟨M', _, hm'⟩ := ok_model hk hl hz h1 hm
      obtain ⟨z, hzz, _⟩ := hm' zs (by simp)
      rw [h2] at hzz
      cases hzz
    · exact chk_none hk r _ _ _ (fun c hc => by
       rcases List.mem_append.1 hc with hc | hc
       · exact hl c hc
       · rw [List.mem_singleton.1 hc]; exact hz) hr' h3 (ok_model hk hl hz h1 hm)
end Go.Proofs.YtmkhoocokpkojaaGreatDoor.satMath
