/- A fault that is thrown and caught: must, faultOf, the deferred closure of answerOf (where the call panics, where it returns). -/
import Derived.Test.YtpfecijahiikhaaGreatDoorPart37
import Derived.Defers
import Derived.Recover
import Derived.WalkSmall
import Derived.BigRegion
import Derived.Laws.ResultCell
import Derived.Laws.Pointers
namespace Go.Proofs.YtpfecijahiikhaaGreatDoor.faultB
open Go.RowKit base asHit
set_option linter.unusedVariables false

/-- errors.errorType is as its initialiser lays it. -/
def ErrW (w : World) : Prop := w.cell? ⟨0, 0, none⟩ = some (.iface 117 (.agg #[.pointer (some ⟨2, 84, none⟩)]))
theorem ErrW.below {w w' : World} (h : ErrW w) (hb : Below w.heap.size w w') : ErrW w' := keep hb h

theorem results_one {fn : Func} {p : Tmp} {ty : TypeId} (h : fn.results = #[.cell p ty]) (tmps : Array Value) (P : Program) (w : World) :
    (results fn tmps).run P w = ((asAddr (tmps.getD p undef)).run P w).andThen fun a w₁ => (loadVar ty a).run P w₁ := by
  simp only [results, h]
  simp [Sem.run_bind, Result.andThen]
theorem results_two {fn : Func} {p u : Tmp} {ty : TypeId} (h : fn.results = #[.tmp u, .cell p ty]) (tmps : Array Value) (P : Program) (w : World) :
    (results fn tmps).run P w =
      ((asAddr (tmps.getD p undef)).run P w).andThen fun a w₁ => ((loadVar ty a).run P w₁).andThen fun v w₂ => .ok (.tuple #[tmps.getD u undef, v]) w₂ := by
  simp only [results, h]
  simp [Sem.run_bind, Result.andThen]

theorem must_so (code : Int) (w : World) : Calls Tryz.prog 36 #[.bool true, .int .i64 code] w fun e w' => e = .returned (.tuple #[]) ∧ w' = w := by
  go_enter Tryz.func36, Tryz.ntmps36
  go_wp2
  go_end0
  exact ⟨rfl, rfl⟩
theorem must_not (code : Int) (w : World) : Calls Tryz.prog 36 #[.bool false, .int .i64 code] w fun e w' => e = .panicked [{ v := .iface 41 (.agg #[.int .i64 code, .int .i64 0]), recovered := false }] ∧ w' = w := by
  go_enter Tryz.func36, Tryz.ntmps36
  go_wp2
  exact ⟨rfl, rfl, rfl⟩

theorem assertF (v : Value) (w : World) : (Instr.typeAssert (.iface 41 v) 20 84 true).run Tryz.prog w = .ok (.tuple #[.iface 41 v, .bool true]) w := by kernel_rfl

set_option maxRecDepth 8000 in
theorem faultOf_ok (x y : Int) (w : World) (he : ErrW w) : Calls Tryz.prog 35 #[(.iface 41 (.agg #[.int .i64 x, .int .i64 y]))] w fun e w' => e = .returned (.agg #[.int .i64 x, .int .i64 y]) ∧ Below w.heap.size w w' := by
  have hA := assertF (.agg #[.int .i64 x, .int .i64 y])
  have HE := hid he
  clear he
  go_enter Tryz.func35, Tryz.ntmps35
  go_wp2_with fail
  refine (as_some x y _ (.int .i64 0) (.int .i64 0) _ (ErrW.below HE.out (by repeat (first | exact Below.refl _ _ | assumption | refine Below.drew ?_ | refine Below.alloc ?_ (by first | exact Nat.le_refl _ | omega | (simp; done) | (simp; omega)) _ | refine Below.setCell ?_ (by first | exact Nat.le_refl _ | omega | (simp; done) | (simp; omega)) _))) (by simp) (by simp) (by simp) (by simp)).mono ?_
  rintro e w1 ⟨rfl, hb1, hc1, hc2⟩
  have h0 : w1.cell? ⟨w.heap.size, 0, none⟩ = some (.int .i64 0) := by
    rw [hb1.cell (by simp)]; simp
  have h1 : w1.cell? ⟨w.heap.size, 1, none⟩ = some (.int .i64 0) := by
    rw [hb1.cell (by simp)]; simp
  have hz0 : w1.frozen? ⟨w.heap.size, 0, none⟩ = false := by
    rw [hb1.frozen (by simp)]; simp
  have hz1 : w1.frozen? ⟨w.heap.size, 1, none⟩ = false := by
    rw [hb1.frozen (by simp)]; simp
  have HB := hid (show Below w.heap.size w w1 from (show Below w.heap.size w _ from (by repeat (first | exact Below.refl _ _ | assumption | refine Below.drew ?_ | refine Below.alloc ?_ (by first | exact Nat.le_refl _ | omega | (simp; done) | (simp; omega)) _ | refine Below.setCell ?_ (by first | exact Nat.le_refl _ | omega | (simp; done) | (simp; omega)) _))).trans (hb1.mono (by omega)))
  clear hb1
  go_wp2
  refine bodyPost_ret (v := .agg #[.int .i64 x, .int .i64 y]) (by rw [results_one rfl]; go_simp) rfl ?_
  exact ⟨rfl, Below.setCell (Below.setCell HB.out (Nat.le_refl _) _) (Nat.le_refl _) _⟩

set_option maxRecDepth 8000 in
theorem catch_panicking (N : Nat) (x y : Int) (o1 o2 : Value) (older : List PanicEntry) (w : World) (he : ErrW w) (h0 : w.cell? ⟨N, 0, none⟩ = some o1) (h1 : w.cell? ⟨N, 1, none⟩ = some o2) (hz0 : w.frozen? ⟨N, 0, none⟩ = false) (hz1 : w.frozen? ⟨N, 1, none⟩ = false) :
    CallsD Tryz.prog 34 #[.pointer (some ⟨N, 0, none⟩)] (.panicking ({ v := .iface 41 (.agg #[.int .i64 x, .int .i64 y]), recovered := false } :: older)) w fun e u' w' =>
      e = .returned (.tuple #[]) ∧ u' = .panicking ({ v := .iface 41 (.agg #[.int .i64 x, .int .i64 y]), recovered := true } :: older) ∧ Below N w w' ∧ w'.cell? ⟨N, 0, none⟩ = some (.int .i64 x) ∧ w'.cell? ⟨N, 1, none⟩ = some (.int .i64 y) := by
  refine callsD_of_wpS Tryz.func34 rfl fun c₀ cs hu => ?_
  apply wpS_seq
  apply wpS_region
  simp [wpOpsS, go_sem, recoverD, hu, Tryz.ntmps34, Exit.thenS]
  refine wpS_of_wp ?_
  change Code.wp _ _ _ { tmps := #[.pointer (some ⟨N, 0, none⟩), .iface 41 (.agg #[.int .i64 x, .int .i64 y]), .iface 41 (.agg #[.int .i64 x, .int .i64 y]), undef, undef, undef, undef], defers := [] } _
  have HE := hid he
  clear he
  go_wp2_with fail
  refine (faultOf_ok x y _ HE.out).mono ?_
  rintro e w1 ⟨rfl, hb1⟩
  have hN : N < w.heap.size := lt_of_cell h0
  have g0 : w1.cell? ⟨N, 0, none⟩ = some o1 := keep hb1 h0
  have g1 : w1.cell? ⟨N, 1, none⟩ = some o2 := keep hb1 h1
  have z0 : w1.frozen? ⟨N, 0, none⟩ = false := by rw [hb1.frozen hN]; exact hz0
  have z1 : w1.frozen? ⟨N, 1, none⟩ = false := by rw [hb1.frozen hN]; exact hz1
  have HB := hid hb1
  clear hb1
  go_wp2
  refine ⟨rfl, _, rfl, _, results_none rfl _ _ _, rfl, rfl, ?_, ?_, ?_⟩
  · exact Below.setCell (Below.setCell (HB.out.mono (Nat.le_of_lt hN)) (p := ⟨N, 0, none⟩) (Nat.le_refl _) _) (p := ⟨N, 1, none⟩) (Nat.le_refl _) _
  · rw [World.cell?_setCell_other _ _ _ _ (by intro h; injection h; omega)]
    exact World.cell?_setCell_same _ _ _ g0
  · exact World.cell?_setCell_same _ _ _ ((World.cell?_setCell_other _ _ _ _ (by intro h; injection h; omega)).trans g1)

theorem catch_idle (N : Nat) (w : World) :
    CallsD Tryz.prog 34 #[.pointer (some ⟨N, 0, none⟩)] .returning w fun e u' w' => e = .returned (.tuple #[]) ∧ u' = .returning ∧ w' = w := by
  refine callsD_of_wpS Tryz.func34 rfl fun c₀ cs hu => ?_
  apply wpS_seq
  apply wpS_region
  simp [wpOpsS, go_sem, recoverD, hu, Tryz.ntmps34, Exit.thenS]
  refine wpS_of_wp ?_
  change Code.wp _ _ _ { tmps := #[.pointer (some ⟨N, 0, none⟩), .nilIface, .nilIface, undef, undef, undef, undef], defers := [] } _
  go_wp2
  refine ⟨rfl, .returning, ?_, _, results_none rfl _ _ _, rfl, rfl, rfl⟩
  cases c₀
  simp_all

set_option maxRecDepth 8000 in
theorem answerOf_ret (f : FuncId) (caps : Array Value) (s : Bool) (w : World) (hcf : ∀ w, (callFunc f caps).run Tryz.prog w = .ok (.enter f caps) w)
    (hf : ∀ w0, w0 = w.alloc (.cells #[.int .i64 0, .int .i64 0] 41) → Calls Tryz.prog f caps w0 fun e w' => e = .returned (.bool s) ∧ Below (w.heap.size + 1) w0 w') :
    Calls Tryz.prog 16 #[.func (.func f) #[] caps] w fun e w' => e = .returned (.tuple #[.bool s, .agg #[.int .i64 0, .int .i64 0]]) ∧ Below w.heap.size w w' := by
  have hmf : ∀ (fn : Fn) (first cap : Array Value) (w : World), (Instr.makeFunc fn first cap).run Tryz.prog w = .ok (.func fn first cap) w := fun _ _ _ _ => rfl
  go_enter_defers Tryz.func16, Tryz.ntmps16
  go_wp2_with fail
  refine (hf _ rfl).mono ?_
  rintro e w1 ⟨rfl, hb1⟩
  have h0 : w1.cell? ⟨w.heap.size, 0, none⟩ = some (.int .i64 0) := by
    rw [hb1.cell (by simp)]; simp
  have h1 : w1.cell? ⟨w.heap.size, 1, none⟩ = some (.int .i64 0) := by
    rw [hb1.cell (by simp)]; simp
  have z0 : w1.frozen? ⟨w.heap.size, 0, none⟩ = false := by
    rw [hb1.frozen (by simp)]; simp
  have z1 : w1.frozen? ⟨w.heap.size, 1, none⟩ = false := by
    rw [hb1.frozen (by simp)]; simp
  have HB := hid (show Below w.heap.size w w1 from (show Below w.heap.size w _ from (by repeat (first | exact Below.refl _ _ | assumption | refine Below.drew ?_ | refine Below.alloc ?_ (by first | exact Nat.le_refl _ | omega | (simp; done) | (simp; omega)) _ | refine Below.setCell ?_ (by first | exact Nat.le_refl _ | omega | (simp; done) | (simp; omega)) _))).trans (hb1.mono (by omega)))
  clear hb1
  go_wp2
  go_region
  go_wp2
  refine leaves_cons (f := 34) (args := #[.pointer (some ⟨w.heap.size, 0, none⟩)]) (by simp) (by simp [go_sem]) ?_
  refine (catch_idle w.heap.size _).mono ?_
  rintro e u' w'' ⟨rfl, rfl, rfl⟩
  refine ⟨.tuple #[.bool s, .agg #[.int .i64 0, .int .i64 0]], (by rw [results_two rfl]; go_simp), rfl, ?_⟩
  exact Below.drew (Below.setCell (Below.setCell HB.out (p := ⟨w.heap.size, 0, none⟩) (Nat.le_refl _) _) (p := ⟨w.heap.size, 1, none⟩) (Nat.le_refl _) _)

set_option maxRecDepth 8000 in
theorem answerOf_fault (f : FuncId) (caps : Array Value) (x y : Int) (w : World) (he : ErrW w) (hcf : ∀ w, (callFunc f caps).run Tryz.prog w = .ok (.enter f caps) w)
    (hf : ∀ w0, w0 = w.alloc (.cells #[.int .i64 0, .int .i64 0] 41) → Calls Tryz.prog f caps w0 fun e w' => e = .panicked [{ v := .iface 41 (.agg #[.int .i64 x, .int .i64 y]), recovered := false }] ∧ Below (w.heap.size + 1) w0 w') :
    Calls Tryz.prog 16 #[.func (.func f) #[] caps] w fun e w' => e = .returned (.tuple #[.bool false, .agg #[.int .i64 x, .int .i64 y]]) ∧ Below w.heap.size w w' := by
  have hmf : ∀ (fn : Fn) (first cap : Array Value) (w : World), (Instr.makeFunc fn first cap).run Tryz.prog w = .ok (.func fn first cap) w := fun _ _ _ _ => rfl
  have HE := hid he
  clear he
  go_enter_defers Tryz.func16, Tryz.ntmps16
  go_wp2_with fail
  refine (hf _ rfl).mono ?_
  rintro e w1 ⟨rfl, hb1⟩
  have h0 : w1.cell? ⟨w.heap.size, 0, none⟩ = some (.int .i64 0) := by
    rw [hb1.cell (by simp)]; simp
  have h1 : w1.cell? ⟨w.heap.size, 1, none⟩ = some (.int .i64 0) := by
    rw [hb1.cell (by simp)]; simp
  have z0 : w1.frozen? ⟨w.heap.size, 0, none⟩ = false := by
    rw [hb1.frozen (by simp)]; simp
  have z1 : w1.frozen? ⟨w.heap.size, 1, none⟩ = false := by
    rw [hb1.frozen (by simp)]; simp
  have hb : Below w.heap.size w w1 := (show Below w.heap.size w _ from (by repeat (first | exact Below.refl _ _ | assumption | refine Below.drew ?_ | refine Below.alloc ?_ (by first | exact Nat.le_refl _ | omega | (simp; done) | (simp; omega)) _ | refine Below.setCell ?_ (by first | exact Nat.le_refl _ | omega | (simp; done) | (simp; omega)) _))).trans (hb1.mono (by omega))
  clear hb1
  have he1 : ErrW w1 := HE.out.below hb
  have HB := hid hb
  clear hb
  refine leaves_cons (f := 34) (args := #[.pointer (some ⟨w.heap.size, 0, none⟩)]) (by simp) (by simp [go_sem]) ?_
  refine (catch_panicking w.heap.size x y _ _ [] _ he1 h0 h1 z0 z1).mono ?_
  rintro e u' w'' ⟨rfl, rfl, hb2, g0, g1⟩
  refine ⟨.tuple #[.bool false, .agg #[.int .i64 x, .int .i64 y]], (by rw [results_two rfl]; go_simp), rfl, ?_⟩
  exact HB.out.trans hb2
end Go.Proofs.YtpfecijahiikhaaGreatDoor.faultB
