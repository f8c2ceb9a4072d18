import Derived.Test.YtmkhoocokpkojaaGreatDoorPart1
import Derived.Test.YtmkhoocokpkojaaGreatDoorTie
import Derived.WalkKit
import Derived.LaidEql
import Derived.Stop.Asserts
import Derived.RowKitTokens
import Derived.Defers
import Derived.Recover
import Derived.WalkSmall
import Derived.BigRegion
import Derived.Laws.ResultCell
import Derived.Laws.Pointers
namespace Go.Proofs.YtmkhoocokpkojaaGreatDoor.asHit
open Go.RowKit Go.Extern.Stop Go.Stop Go.Extern base
set_option linter.unusedVariables false
theorem valueOfP (t : Addr) (w : World) : (ReflectliteValue.unpack (.iface 105 (.pointer (some t)))).run Tryz.prog w
  = .ok (.agg #[.pointer (some ⟨2, 105, none⟩), .pointer (some ⟨w.heap.size, 0, none⟩), .int .u64 150]) (w.alloc (.cells #[.pointer (some t)] 105)) := by kernel_rfl
theorem typeP (a : Addr) (w : World) : (ReflectliteValue.methodAny (ReflectliteValue.valueError "reflectlite.Value.Type" 0) (fun t _ _ _ => ReflectliteType.toType t) #[.agg #[.pointer (some ⟨2, 105, none⟩), .pointer (some a), .int .u64 150]]).run Tryz.prog w
  = .ok (.iface 145 (.agg #[.pointer (some ⟨2, 105, none⟩)])) w := by kernel_rfl
theorem methodKind (h : Value) (w : World) : (Go.method 291 145 (.agg #[h]) "Kind").run Tryz.prog w = .ok (122, h) w := by kernel_rfl
theorem kindP (w : World) : ((ReflectliteType.abiMethod fun t => (fun a : Nat => Value.int IntKind.u8 (a : Int)) <$> Rtype.kind t) #[.pointer (some ⟨2, 105, none⟩)]).run Tryz.prog w = .ok (.int .u8 22) w := by kernel_rfl
theorem kindF (w : World) : ((ReflectliteType.abiMethod fun t => (fun a : Nat => Value.int IntKind.u8 (a : Int)) <$> Rtype.kind t) #[.pointer (some ⟨2, 44, none⟩)]).run Tryz.prog w = .ok (.int .u8 25) w := by kernel_rfl
theorem rlm (z : Sem Value) (f : TypeId → Addr → Nat → Nat → Sem Value) (v : Value) :
  ReflectliteValue.method z f #[v] = (do match ← ReflectliteValue.parts v with | none => z | some (t, a, fl) => f t a fl (fl % 32)) := rfl
theorem partsP (a : Addr) (w : World) : (ReflectliteValue.parts (.agg #[.pointer (some ⟨2, 105, none⟩), .pointer (some a), .int .u64 150])).run Tryz.prog w = .ok (some (105, a, 150)) w := by kernel_rfl
theorem methodElem (h : Value) (w : World) : (Go.method 291 145 (.agg #[h]) "Elem").run Tryz.prog w = .ok (135, .agg #[h]) w := by kernel_rfl
theorem methodImplements (h : Value) (w : World) : (Go.method 291 145 (.agg #[h]) "Implements").run Tryz.prog w = .ok (136, .agg #[h]) w := by kernel_rfl
theorem methodAssignableTo (h : Value) (w : World) : (Go.method 291 145 (.agg #[h]) "AssignableTo").run Tryz.prog w = .ok (133, .agg #[h]) w := by kernel_rfl
theorem elemTP (w : World) : (ReflectliteType.method ReflectliteType.elem #[.agg #[.pointer (some ⟨2, 105, none⟩)]]).run Tryz.prog w = .ok (.iface 145 (.agg #[.pointer (some ⟨2, 44, none⟩)])) w := by kernel_rfl
theorem implementsF (w : World) : (ReflectliteType.relation "Implements" ReflectliteType.implements_ #[.agg #[.pointer (some ⟨2, 44, none⟩)], .iface 145 (.agg #[.pointer (some ⟨2, 102, none⟩)])]).run Tryz.prog w = .ok (.bool true) w := by kernel_rfl
theorem typeOfF (v : Value) (w : World) : (ReflectliteType.typeOf #[.iface 44 v]).run Tryz.prog w = .ok (.iface 145 (.agg #[.pointer (some ⟨2, 44, none⟩)])) w := by kernel_rfl
theorem assignableF (w : World) : (ReflectliteType.relation "AssignableTo" ReflectliteType.assignableTo #[.agg #[.pointer (some ⟨2, 44, none⟩)], .iface 145 (.agg #[.pointer (some ⟨2, 44, none⟩)])]).run Tryz.prog w = .ok (.bool true) w := by kernel_rfl
theorem valueOfF (x y : Value) (w : World) : (ReflectliteValue.unpack (.iface 44 (.agg #[x, y]))).run Tryz.prog w
  = .ok (.agg #[.pointer (some ⟨2, 44, none⟩), .pointer (some ⟨w.heap.size, 0, none⟩), .int .u64 153]) (w.alloc (.cells #[x, y] 44)) := by kernel_rfl
theorem elemOfP (w : World) : (Rtype.elem? 105).run Tryz.prog w = .ok (some 44) w := by kernel_rfl
theorem mkF (p : Addr) (w : World) : (ReflectliteValue.mk 44 p ReflectliteValue.flagAddr).run Tryz.prog w = .ok (.agg #[.pointer (some ⟨2, 44, none⟩), .pointer (some p), .int .u64 409]) w := by kernel_rfl
theorem partsFa (a : Addr) (w : World) : (ReflectliteValue.parts (.agg #[.pointer (some ⟨2, 44, none⟩), .pointer (some a), .int .u64 409])).run Tryz.prog w = .ok (some (44, a, 409)) w := by kernel_rfl
theorem partsF (a : Addr) (w : World) : (ReflectliteValue.parts (.agg #[.pointer (some ⟨2, 44, none⟩), .pointer (some a), .int .u64 153])).run Tryz.prog w = .ok (some (44, a, 153)) w := by kernel_rfl
theorem directF (w : World) : (Rtype.directlyAssignable 44 44).run Tryz.prog w = .ok true w := by kernel_rfl
theorem isNilP (a p : Addr) (W : World) (ha : W.cell? a = some (.pointer (some p))) :
  (ReflectliteValue.method (ReflectliteValue.valueError "reflectlite.Value.IsNil" 0) ReflectliteValue.isNil #[.agg #[.pointer (some ⟨2, 105, none⟩), .pointer (some a), .int .u64 150]]).run Tryz.prog W = .ok (.bool false) W := by
 rw [rlm]
 simp only [Sem.run_bind, partsP, Result.andThen]
 simp [ReflectliteValue.isNil, loadVar, isAgg, underlying, Tryz.underlying105, ha, Result.andThen]
theorem elemVP (a p : Addr) (W : World) (ha : W.cell? a = some (.pointer (some p))) :
  (ReflectliteValue.method (ReflectliteValue.valueError "reflectlite.Value.Elem" 0) ReflectliteValue.elem #[.agg #[.pointer (some ⟨2, 105, none⟩), .pointer (some a), .int .u64 150]]).run Tryz.prog W
   = .ok (.agg #[.pointer (some ⟨2, 44, none⟩), .pointer (some p), .int .u64 409]) W := by
 rw [rlm]
 simp only [Sem.run_bind, partsP, Result.andThen]
 simp [ReflectliteValue.elem, loadVar, isAgg, underlying, Tryz.underlying105, ha, Result.andThen, elemOfP, mkF]
theorem rls (v x : Value) : ReflectliteValue.set #[v, x] = (do
  let (some (dst, a, fl), some (src, b, _)) := (← ReflectliteValue.parts v, ← ReflectliteValue.parts x)
   | unsupported (.noEntry "extern/(internal/reflectlite.Value).Set.zeroValue")
  if fl / ReflectliteValue.flagAddr % 2 == 0 then unsupported (.noEntry "extern/(internal/reflectlite.Value).Set.unaddressable")
  let val ← loadVar src b
  if ← Rtype.directlyAssignable dst src then storeVar dst a val
  else if ← Rtype.implements dst src then
   if (← Rtype.kind src) == 20 then
    match val with
    | .nilIface => unsupported (.noEntry "extern/reflectlite: a nil value of one interface type handed on as a value of another")
    | _ => storeVar dst a val
   else storeVar dst a (.iface src val)
  else panicString ("reflectlite.Set: value of type " ++ (← Rtype.spelt src) ++ " is not assignable to type " ++ (← Rtype.spelt dst))
  pure (.tuple #[])) := rfl
theorem setF (N b : Nat) (x y : Int) (o1 o2 : Value) (W : World) (hb : W.cell? ⟨b, 0, none⟩ = some (.int .i64 x)) (hb2 : W.cell? ⟨b, 1, none⟩ = some (.int .i64 y)) (ht : W.cell? ⟨N, 0, none⟩ = some o1) (ht2 : W.cell? ⟨N, 1, none⟩ = some o2)
  (hf : W.frozen? ⟨N, 0, none⟩ = false) (hf2 : W.frozen? ⟨N, 1, none⟩ = false) :
  (ReflectliteValue.set #[.agg #[.pointer (some ⟨2, 44, none⟩), .pointer (some ⟨N, 0, none⟩), .int .u64 409], .agg #[.pointer (some ⟨2, 44, none⟩), .pointer (some ⟨b, 0, none⟩), .int .u64 153]]).run Tryz.prog W
   = .ok (.tuple #[]) ((W.setCell ⟨N, 0, none⟩ (.int .i64 x)).setCell ⟨N, 1, none⟩ (.int .i64 y)) := by
 have hl : (loadCells ⟨b, 0, none⟩ 2).run Tryz.prog W = .ok #[.int .i64 x, .int .i64 y] W := by
  have h := run_loadCells_list (P := Tryz.prog) (w := W) ⟨b, 0, none⟩ [.int .i64 x, .int .i64 y] (by
   intro j v hv
   match j, hv with
   | 0, hv => simp at hv; subst hv; simpa [Addr.add] using hb
   | 1, hv => simp at hv; subst hv; simpa [Addr.add] using hb2
   | j + 2, hv => simp at hv)
  simpa using h
 have hs : (storeCells ⟨N, 0, none⟩ [.int .i64 x, .int .i64 y]).run Tryz.prog W = .ok () ((W.setCell ⟨N, 0, none⟩ (.int .i64 x)).setCell ⟨N, 1, none⟩ (.int .i64 y)) := by
  simp only [storeCells, Sem.run_bind, Addr.add]
  rw [run_store Tryz.prog W _ _ _ (by rfl)]
  have hc2 : (W.setCell ⟨N, 0, none⟩ (.int .i64 x)).cell? ⟨N, 1, none⟩ = some o2 := (World.cell?_setCell_other _ _ _ _ (by intro h; injection h; omega)).trans ht2
  simp [ht, hf, Result.andThen, run_store Tryz.prog _ _ (Value.int .i64 y) _ rfl, hc2, hf2]
 rw [rls]
 simp only [Sem.run_bind, partsFa, partsF, Result.andThen]
 simp [ReflectliteValue.flagAddr, loadVar, isAgg, underlying, Tryz.underlying44, Result.andThen, directF, storeVar, Value.cells, hl, hs]
theorem lt_of_cell {w : World} {a : Addr} {v : Value} (h : w.cell? a = some v) : a.block < w.heap.size := by
 rcases Nat.lt_or_ge a.block w.heap.size with h' | h'
 · exact h'
 · simp [World.cell?, Array.getElem?_eq_none h'] at h
theorem keep_alloc {w : World} {a : Addr} {v : Value} (h : w.cell? a = some v) (o : Obj) : (w.alloc o).cell? a = some v := by
 rw [World.cell?_alloc_lt _ _ a (lt_of_cell h)]; exact h
theorem keep_frozen {w : World} {a : Addr} {v : Value} (h : w.cell? a = some v) (hf : w.frozen? a = false) (o : Obj) : (w.alloc o).frozen? a = false := by
 rw [World.frozen?_alloc_old _ _ a (Nat.ne_of_lt (lt_of_cell h))]; exact hf
set_option maxHeartbeats 4000000 in
theorem as_hit (x y : Int) (N : Nat) (o1 o2 : Value) (w : World) (hg : w.cell? ⟨0, 0, none⟩ = some (.iface 145 (.agg #[.pointer (some ⟨2, 102, none⟩)])))
  (ht0 : w.cell? ⟨N, 0, none⟩ = some o1) (hf0 : w.frozen? ⟨N, 0, none⟩ = false) (ht1 : w.cell? ⟨N, 1, none⟩ = some o2) (hf1 : w.frozen? ⟨N, 1, none⟩ = false) :
  Calls Tryz.prog 61 #[.iface 44 (.agg #[.int .i64 x, .int .i64 y]), .iface 105 (.pointer (some ⟨N, 0, none⟩))] w fun ev w' => ev = .returned (.bool true) ∧
   w' = (((((w.alloc (.cells #[.pointer (some ⟨N, 0, none⟩)] 105)).alloc (.cells #[.pointer (some ⟨2, 105, none⟩), .pointer (some ⟨w.heap.size, 0, none⟩), .int .u64 150] 125)).alloc (.cells #[.pointer (some ⟨2, 105, none⟩), .pointer (some ⟨w.heap.size, 0, none⟩), .int .u64 150] 125)).alloc (.cells #[.int .i64 x, .int .i64 y] 44)).setCell ⟨N, 0, none⟩ (.int .i64 x)).setCell ⟨N, 1, none⟩ (.int .i64 y) := by
 have h6 := @run_callFunc_extern Tryz.prog 85 _ (fun args => ReflectliteValue.unpack (args.getD 0 (.tuple #[]))) Tryz.func85 (by kernel_rfl) (by kernel_rfl) (by kernel_rfl) (by kernel_rfl)
 have h7 := @run_callFunc_extern Tryz.prog 86 _ (ReflectliteValue.methodAny (ReflectliteValue.valueError "reflectlite.Value.Type" 0) (fun t _ _ _ => ReflectliteType.toType t)) Tryz.func86 (by kernel_rfl) (by kernel_rfl) (by kernel_rfl) (by kernel_rfl)
 have h8 := @run_callFunc_extern Tryz.prog 87 _ (ReflectliteValue.method (ReflectliteValue.valueError "reflectlite.Value.IsNil" 0) ReflectliteValue.isNil) Tryz.func87 (by kernel_rfl) (by kernel_rfl) (by kernel_rfl) (by kernel_rfl)
 have h27 := @run_callFunc_extern Tryz.prog 122 _ (ReflectliteType.abiMethod fun t => do pure (.int .u8 (← Rtype.kind t))) Tryz.func122 (by kernel_rfl) (by kernel_rfl) (by kernel_rfl) (by kernel_rfl)
 have h37 := @run_callFunc_extern Tryz.prog 135 _ (ReflectliteType.method ReflectliteType.elem) Tryz.func135 (by kernel_rfl) (by kernel_rfl) (by kernel_rfl) (by kernel_rfl)
 have h38 := @run_callFunc_extern Tryz.prog 136 _ (ReflectliteType.relation "Implements" ReflectliteType.implements_) Tryz.func136 (by kernel_rfl) (by kernel_rfl) (by kernel_rfl) (by kernel_rfl)
 have h10 := @run_callFunc_extern Tryz.prog 97 _ ReflectliteType.typeOf Tryz.func97 (by kernel_rfl) (by kernel_rfl) (by kernel_rfl) (by kernel_rfl)
 have h35 := @run_callFunc_extern Tryz.prog 133 _ (ReflectliteType.relation "AssignableTo" ReflectliteType.assignableTo) Tryz.func133 (by kernel_rfl) (by kernel_rfl) (by kernel_rfl) (by kernel_rfl)
 have h11 := @run_callFunc_extern Tryz.prog 98 _ (ReflectliteValue.method (ReflectliteValue.valueError "reflectlite.Value.Elem" 0) ReflectliteValue.elem) Tryz.func98 (by kernel_rfl) (by kernel_rfl) (by kernel_rfl) (by kernel_rfl)
 have h12 := @run_callFunc_extern Tryz.prog 99 _ ReflectliteValue.set Tryz.func99 (by kernel_rfl) (by kernel_rfl) (by kernel_rfl) (by kernel_rfl)
 have tO := typeOfF
 have mA := methodAssignableTo
 have a25 := assignableF
 have v25 := valueOfF
 have f6 := valueOfP
 have f7 := typeP
 have mK := methodKind
 have mE := methodElem
 have mI := methodImplements
 have k27 := kindP
 have k25 := kindF
 have e27 := elemTP
 have i25 := implementsF
 have n8 := isNilP ⟨w.heap.size, 0, none⟩ ⟨N, 0, none⟩ ((w.alloc (.cells #[.pointer (some ⟨N, 0, none⟩)] 105)).alloc (.cells #[.pointer (some ⟨2, 105, none⟩), .pointer (some ⟨w.heap.size, 0, none⟩), .int .u64 150] 125)) (by simp)
 have hg2 : ((w.alloc (.cells #[.pointer (some ⟨N, 0, none⟩)] 105)).alloc (.cells #[.pointer (some ⟨2, 105, none⟩), .pointer (some ⟨w.heap.size, 0, none⟩), .int .u64 150] 125)).cell? ⟨0, 0, none⟩ = some (.iface 145 (.agg #[.pointer (some ⟨2, 102, none⟩)])) :=
  keep_alloc (keep_alloc hg _) _
 have el := elemVP ⟨w.heap.size, 0, none⟩ ⟨N, 0, none⟩ (((w.alloc (.cells #[.pointer (some ⟨N, 0, none⟩)] 105)).alloc (.cells #[.pointer (some ⟨2, 105, none⟩), .pointer (some ⟨w.heap.size, 0, none⟩), .int .u64 150] 125)).alloc (.cells #[.pointer (some ⟨2, 105, none⟩), .pointer (some ⟨w.heap.size, 0, none⟩), .int .u64 150] 125)) (by rw [World.cell?_alloc_lt _ _ ⟨w.heap.size, 0, none⟩ (by simp; omega)]; simp)
 have st := setF N (w.heap.size + 1 + 1 + 1) x y o1 o2 ((((w.alloc (.cells #[.pointer (some ⟨N, 0, none⟩)] 105)).alloc (.cells #[.pointer (some ⟨2, 105, none⟩), .pointer (some ⟨w.heap.size, 0, none⟩), .int .u64 150] 125)).alloc (.cells #[.pointer (some ⟨2, 105, none⟩), .pointer (some ⟨w.heap.size, 0, none⟩), .int .u64 150] 125)).alloc (.cells #[.int .i64 x, .int .i64 y] 44))
  (by rw [World.cell?_alloc_at _ _ _ _ (by simp)]; rfl) (by rw [World.cell?_alloc_at _ _ _ _ (by simp)]; rfl)
  (keep_alloc (keep_alloc (keep_alloc (keep_alloc ht0 _) _) _) _) (keep_alloc (keep_alloc (keep_alloc (keep_alloc ht1 _) _) _) _)
  (keep_frozen (keep_alloc (keep_alloc (keep_alloc ht0 _) _) _) (keep_frozen (keep_alloc (keep_alloc ht0 _) _) (keep_frozen (keep_alloc ht0 _) (keep_frozen ht0 hf0 _) _) _) _)
  (keep_frozen (keep_alloc (keep_alloc (keep_alloc ht1 _) _) _) (keep_frozen (keep_alloc (keep_alloc ht1 _) _) (keep_frozen (keep_alloc ht1 _) (keep_frozen ht1 hf1 _) _) _) _)
 go_enter Tryz.func61, Tryz.ntmps61
 go_wp2
 refine wp_loop_rounds 1 ?_
 rw [rounds_succ]
 go_wp2
 go_ret
 exact ⟨rfl, rfl⟩
theorem as_some (x y : Int) (N : Nat) (o1 o2 : Value) (w : World) (hg : w.cell? ⟨0, 0, none⟩ = some (.iface 145 (.agg #[.pointer (some ⟨2, 102, none⟩)])))
  (ht0 : w.cell? ⟨N, 0, none⟩ = some o1) (hf0 : w.frozen? ⟨N, 0, none⟩ = false) (ht1 : w.cell? ⟨N, 1, none⟩ = some o2) (hf1 : w.frozen? ⟨N, 1, none⟩ = false) :
  Calls Tryz.prog 61 #[.iface 44 (.agg #[.int .i64 x, .int .i64 y]), .iface 105 (.pointer (some ⟨N, 0, none⟩))] w fun ev w' => ev = .returned (.bool true) ∧
   Below N w w' ∧ w'.cell? ⟨N, 0, none⟩ = some (.int .i64 x) ∧ w'.cell? ⟨N, 1, none⟩ = some (.int .i64 y) := by
 refine (as_hit x y N o1 o2 w hg ht0 hf0 ht1 hf1).mono ?_
 rintro e w' ⟨rfl, rfl⟩
 have hN : N < w.heap.size := lt_of_cell ht0
 refine ⟨rfl, ?_, ?_, ?_⟩
 · refine Below.setCell (Below.setCell (Below.alloc (Below.alloc (Below.alloc (Below.alloc (Below.refl _ _) ?_ _) ?_ _) ?_ _) ?_ _) ?_ _) ?_ _
   · exact Nat.le_of_lt hN
   · simp; omega
   · simp; omega
   · simp; omega
   · exact Nat.le_refl _
   · exact Nat.le_refl _
 · rw [World.cell?_setCell_other _ _ _ _ (by intro h; injection h; omega)]
   exact World.cell?_setCell_same _ _ _ (keep_alloc (keep_alloc (keep_alloc (keep_alloc ht0 _) _) _) _)
 · exact World.cell?_setCell_same _ _ _ ((World.cell?_setCell_other _ _ _ _ (by intro h; injection h; omega)).trans (keep_alloc (keep_alloc (keep_alloc (keep_alloc ht1 _) _) _) _))
end Go.Proofs.YtmkhoocokpkojaaGreatDoor.asHit
namespace Go.Proofs.YtmkhoocokpkojaaGreatDoor.faultI
open Go.RowKit base asHit
set_option linter.unusedVariables false
def ErrW (w : World) : Prop := w.cell? ⟨0, 0, none⟩ = some (.iface 145 (.agg #[.pointer (some ⟨2, 102, none⟩)]))
theorem ErrW.below {w w' : World} (h : ErrW w) (hb : Below w.heap.size w w') : ErrW w' := keep hb h
theorem results_one {fn : Func} {p : Tmp} {ty : TypeId} (h : fn.results = #[.cell p ty]) (tmps : Array Value) (P : Program) (w : World) :
  (results fn tmps).run P w = ((asAddr (tmps.getD p undef)).run P w).andThen fun a w₁ => (loadVar ty a).run P w₁ := by
 simp only [results, h]
 simp [Sem.run_bind, Result.andThen]
theorem results_two {fn : Func} {p u : Tmp} {ty : TypeId} (h : fn.results = #[.tmp u, .cell p ty]) (tmps : Array Value) (P : Program) (w : World) :
  (results fn tmps).run P w =
   ((asAddr (tmps.getD p undef)).run P w).andThen fun a w₁ => ((loadVar ty a).run P w₁).andThen fun v w₂ => .ok (.tuple #[tmps.getD u undef, v]) w₂ := by
 simp only [results, h]
 simp [Sem.run_bind, Result.andThen]
theorem must_so (code : Int) (w : World) : Calls Tryz.prog 20 #[.bool true, .int .i64 code] w fun e w' => e = .returned (.tuple #[]) ∧ w' = w := by
 go_enter Tryz.func20, Tryz.ntmps20
 go_wp2
 go_end0
 exact ⟨rfl, rfl⟩
theorem must_not (code : Int) (w : World) : Calls Tryz.prog 20 #[.bool false, .int .i64 code] w fun e w' => e = .panicked [{ v := .iface 44 (.agg #[.int .i64 code, .int .i64 0]), recovered := false }] ∧ w' = w := by
 go_enter Tryz.func20, Tryz.ntmps20
 go_wp2
 exact ⟨rfl, rfl, rfl⟩
theorem assertF (v : Value) (w : World) : (Instr.typeAssert (.iface 44 v) 20 102 true).run Tryz.prog w = .ok (.tuple #[.iface 44 v, .bool true]) w := by kernel_rfl
set_option maxRecDepth 8000 in
theorem faultOf_ok (x y : Int) (w : World) (he : ErrW w) : Calls Tryz.prog 40 #[(.iface 44 (.agg #[.int .i64 x, .int .i64 y]))] w fun e w' => e = .returned (.agg #[.int .i64 x, .int .i64 y]) ∧ Below w.heap.size w w' := by
 have hA := assertF (.agg #[.int .i64 x, .int .i64 y])
 have HE := hid he
 clear he
 go_enter Tryz.func40, Tryz.ntmps40
 go_wp2_with fail
 refine (as_some x y _ (.int .i64 0) (.int .i64 0) _ (ErrW.below HE.out (by repeat (first | exact Below.refl _ _ | assumption | refine Below.drew ?_ | refine Below.alloc ?_ (by first | exact Nat.le_refl _ | omega | (simp; done) | (simp; omega)) _ | refine Below.setCell ?_ (by first | exact Nat.le_refl _ | omega | (simp; done) | (simp; omega)) _))) (by simp) (by simp) (by simp) (by simp)).mono ?_
 rintro e w1 ⟨rfl, hb1, hc1, hc2⟩
 have h0 : w1.cell? ⟨w.heap.size, 0, none⟩ = some (.int .i64 0) := by
  rw [hb1.cell (by simp)]; simp
 have h1 : w1.cell? ⟨w.heap.size, 1, none⟩ = some (.int .i64 0) := by
  rw [hb1.cell (by simp)]; simp
 have hz0 : w1.frozen? ⟨w.heap.size, 0, none⟩ = false := by
  rw [hb1.frozen (by simp)]; simp
 have hz1 : w1.frozen? ⟨w.heap.size, 1, none⟩ = false := by
  rw [hb1.frozen (by simp)]; simp
 have HB := hid (show Below w.heap.size w w1 from (show Below w.heap.size w _ from (by repeat (first | exact Below.refl _ _ | assumption | refine Below.drew ?_ | refine Below.alloc ?_ (by first | exact Nat.le_refl _ | omega | (simp; done) | (simp; omega)) _ | refine Below.setCell ?_ (by first | exact Nat.le_refl _ | omega | (simp; done) | (simp; omega)) _))).trans (hb1.mono (by omega)))
 clear hb1
 go_wp2
 refine bodyPost_ret (v := .agg #[.int .i64 x, .int .i64 y]) (by rw [results_one rfl]; go_simp) rfl ?_
 exact ⟨rfl, Below.setCell (Below.setCell HB.out (Nat.le_refl _) _) (Nat.le_refl _) _⟩
set_option maxRecDepth 8000 in
theorem catch_panicking (N : Nat) (x y : Int) (o1 o2 : Value) (older : List PanicEntry) (w : World) (he : ErrW w) (h0 : w.cell? ⟨N, 0, none⟩ = some o1) (h1 : w.cell? ⟨N, 1, none⟩ = some o2) (hz0 : w.frozen? ⟨N, 0, none⟩ = false) (hz1 : w.frozen? ⟨N, 1, none⟩ = false) :
  CallsD Tryz.prog 39 #[.pointer (some ⟨N, 0, none⟩)] (.panicking ({ v := .iface 44 (.agg #[.int .i64 x, .int .i64 y]), recovered := false } :: older)) w fun e u' w' =>
   e = .returned (.tuple #[]) ∧ u' = .panicking ({ v := .iface 44 (.agg #[.int .i64 x, .int .i64 y]), recovered := true } :: older) ∧ Below N w w' ∧ w'.cell? ⟨N, 0, none⟩ = some (.int .i64 x) ∧ w'.cell? ⟨N, 1, none⟩ = some (.int .i64 y) := by
 refine callsD_of_wpS Tryz.func39 rfl fun c₀ cs hu => ?_
 apply wpS_seq
 apply wpS_region
 simp [wpOpsS, go_sem, recoverD, hu, Tryz.ntmps39, Exit.thenS]
 refine wpS_of_wp ?_
 change Code.wp _ _ _ { tmps := #[.pointer (some ⟨N, 0, none⟩), .iface 44 (.agg #[.int .i64 x, .int .i64 y]), .iface 44 (.agg #[.int .i64 x, .int .i64 y]), undef, undef, undef, undef], defers := [] } _
 have HE := hid he
 clear he
 go_wp2_with fail
 refine (faultOf_ok x y _ HE.out).mono ?_
 rintro e w1 ⟨rfl, hb1⟩
 have hN : N < w.heap.size := lt_of_cell h0
 have g0 : w1.cell? ⟨N, 0, none⟩ = some o1 := keep hb1 h0
 have g1 : w1.cell? ⟨N, 1, none⟩ = some o2 := keep hb1 h1
 have z0 : w1.frozen? ⟨N, 0, none⟩ = false := by rw [hb1.frozen hN]; exact hz0
 have z1 : w1.frozen? ⟨N, 1, none⟩ = false := by rw [hb1.frozen hN]; exact hz1
 have HB := hid hb1
 clear hb1
 go_wp2
 refine ⟨rfl, _, rfl, _, results_none rfl _ _ _, rfl, rfl, ?_, ?_, ?_⟩
 · exact Below.setCell (Below.setCell (HB.out.mono (Nat.le_of_lt hN)) (p := ⟨N, 0, none⟩) (Nat.le_refl _) _) (p := ⟨N, 1, none⟩) (Nat.le_refl _) _
 · rw [World.cell?_setCell_other _ _ _ _ (by intro h; injection h; omega)]
   exact World.cell?_setCell_same _ _ _ g0
 · exact World.cell?_setCell_same _ _ _ ((World.cell?_setCell_other _ _ _ _ (by intro h; injection h; omega)).trans g1)
theorem catch_idle (N : Nat) (w : World) :
  CallsD Tryz.prog 39 #[.pointer (some ⟨N, 0, none⟩)] .returning w fun e u' w' => e = .returned (.tuple #[]) ∧ u' = .returning ∧ w' = w := by
 refine callsD_of_wpS Tryz.func39 rfl fun c₀ cs hu => ?_
 apply wpS_seq
 apply wpS_region
 simp [wpOpsS, go_sem, recoverD, hu, Tryz.ntmps39, Exit.thenS]
 refine wpS_of_wp ?_
 change Code.wp _ _ _ { tmps := #[.pointer (some ⟨N, 0, none⟩), .nilIface, .nilIface, undef, undef, undef, undef], defers := [] } _
 go_wp2
 refine ⟨rfl, .returning, ?_, _, results_none rfl _ _ _, rfl, rfl, rfl⟩
 cases c₀
 simp_all
set_option maxRecDepth 8000 in
theorem answerOf_ret (f : FuncId) (caps : Array Value) (s : Int) (w : World) (hcf : ∀ w, (callFunc f caps).run Tryz.prog w = .ok (.enter f caps) w)
  (hf : ∀ w0, w0 = w.alloc (.cells #[.int .i64 0, .int .i64 0] 44) → Calls Tryz.prog f caps w0 fun e w' => e = .returned (.int .i64 s) ∧ Below (w.heap.size + 1) w0 w') :
  Calls Tryz.prog 18 #[.func (.func f) #[] caps] w fun e w' => e = .returned (.tuple #[.int .i64 s, .agg #[.int .i64 0, .int .i64 0]]) ∧ Below w.heap.size w w' := by
 have hmf : ∀ (fn : Fn) (first cap : Array Value) (w : World), (Instr.makeFunc fn first cap).run Tryz.prog w = .ok (.func fn first cap) w := fun _ _ _ _ => rfl
 go_enter_defers Tryz.func18, Tryz.ntmps18
 go_wp2_with fail
 refine (hf _ rfl).mono ?_
 rintro e w1 ⟨rfl, hb1⟩
 have h0 : w1.cell? ⟨w.heap.size, 0, none⟩ = some (.int .i64 0) := by
  rw [hb1.cell (by simp)]; simp
 have h1 : w1.cell? ⟨w.heap.size, 1, none⟩ = some (.int .i64 0) := by
  rw [hb1.cell (by simp)]; simp
 have z0 : w1.frozen? ⟨w.heap.size, 0, none⟩ = false := by
  rw [hb1.frozen (by simp)]; simp
 have z1 : w1.frozen? ⟨w.heap.size, 1, none⟩ = false := by
  rw [hb1.frozen (by simp)]; simp
 have HB := hid (show Below w.heap.size w w1 from (show Below w.heap.size w _ from (by repeat (first | exact Below.refl _ _ | assumption | refine Below.drew ?_ | refine Below.alloc ?_ (by first | exact Nat.le_refl _ | omega | (simp; done) | (simp; omega)) _ | refine Below.setCell ?_ (by first | exact Nat.le_refl _ | omega | (simp; done) | (simp; omega)) _))).trans (hb1.mono (by omega)))
 clear hb1
 go_wp2
 go_region
 go_wp2
 refine leaves_cons (f := 39) (args := #[.pointer (some ⟨w.heap.size, 0, none⟩)]) (by simp) (by simp [go_sem]) ?_
 refine (catch_idle w.heap.size _).mono ?_
 rintro e u' w'' ⟨rfl, rfl, rfl⟩
 refine ⟨.tuple #[.int .i64 s, .agg #[.int .i64 0, .int .i64 0]], (by rw [results_two rfl]; go_simp), rfl, ?_⟩
 exact Below.drew (Below.setCell (Below.setCell HB.out (p := ⟨w.heap.size, 0, none⟩) (Nat.le_refl _) _) (p := ⟨w.heap.size, 1, none⟩) (Nat.le_refl _) _)
set_option maxRecDepth 8000 in
theorem answerOf_fault (f : FuncId) (caps : Array Value) (x y : Int) (w : World) (he : ErrW w) (hcf : ∀ w, (callFunc f caps).run Tryz.prog w = .ok (.enter f caps) w)
  (hf : ∀ w0, w0 = w.alloc (.cells #[.int .i64 0, .int .i64 0] 44) → Calls Tryz.prog f caps w0 fun e w' => e = .panicked [{ v := .iface 44 (.agg #[.int .i64 x, .int .i64 y]), recovered := false }] ∧ Below (w.heap.size + 1) w0 w') :
  Calls Tryz.prog 18 #[.func (.func f) #[] caps] w fun e w' => e = .returned (.tuple #[.int .i64 0, .agg #[.int .i64 x, .int .i64 y]]) ∧ Below w.heap.size w w' := by
 have hmf : ∀ (fn : Fn) (first cap : Array Value) (w : World), (Instr.makeFunc fn first cap).run Tryz.prog w = .ok (.func fn first cap) w := fun _ _ _ _ => rfl
 have HE := hid he
 clear he
 go_enter_defers Tryz.func18, Tryz.ntmps18
 go_wp2_with fail
 refine (hf _ rfl).mono ?_
 rintro e w1 ⟨rfl, hb1⟩
 have h0 : w1.cell? ⟨w.heap.size, 0, none⟩ = some (.int .i64 0) := by
  rw [hb1.cell (by simp)]; simp
 have h1 : w1.cell? ⟨w.heap.size, 1, none⟩ = some (.int .i64 0) := by
  rw [hb1.cell (by simp)]; simp
 have z0 : w1.frozen? ⟨w.heap.size, 0, none⟩ = false := by
  rw [hb1.frozen (by simp)]; simp
 have z1 : w1.frozen? ⟨w.heap.size, 1, none⟩ = false := by
  rw [hb1.frozen (by simp)]; simp
 have hb : Below w.heap.size w w1 := (show Below w.heap.size w _ from (by repeat (first | exact Below.refl _ _ | assumption | refine Below.drew ?_ | refine Below.alloc ?_ (by first | exact Nat.le_refl _ | omega | (simp; done) | (simp; omega)) _ | refine Below.setCell ?_ (by first | exact Nat.le_refl _ | omega | (simp; done) | (simp; omega)) _))).trans (hb1.mono (by omega))
 clear hb1
 have he1 : ErrW w1 := HE.out.below hb
 have HB := hid hb
 clear hb
 refine leaves_cons (f := 39) (args := #[.pointer (some ⟨w.heap.size, 0, none⟩)]) (by simp) (by simp [go_sem]) ?_
 refine (catch_panicking w.heap.size x y _ _ [] _ he1 h0 h1 z0 z1).mono ?_
 rintro e u' w'' ⟨rfl, rfl, hb2, g0, g1⟩
 refine ⟨.tuple #[.int .i64 0, .agg #[.int .i64 x, .int .i64 y]], (by rw [results_two rfl]; go_simp), rfl, ?_⟩
 exact HB.out.trans hb2
end Go.Proofs.YtmkhoocokpkojaaGreatDoor.faultI
