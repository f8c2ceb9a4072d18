/- For all bytes: a circuit tells of all values what the expressions that it was built of tell, and no gate of it is there twice; conditions: none. -/
import Derived.Test.YtgjfgkdmfahkaaaExOf
import Derived.Test.YtgjfgkdmfahkaaaBuildFace
import Derived.Test.YtgjfgkdmfahkaaaAigOwn
import Derived.Test.YtgjfgkdmfahkaaaSame
import Derived.Test.YtgjfgkdmfahkaaaValues
import Derived.Test.YtgjfgkdmfahkaaaTreeVars
import Derived.Test.YtgjfgkdmfahkaaaDrawn
namespace Go.Proofs.Ytgjfgkdmfahkaaa.fnBuilds
open Go.ChangeShapes Go.WideShapes Go.ChangeAt Go.RowKit Go.Deep Go.Joins Go base trees treeEval treeVars treeImpl heldStore drawn gates aigImpl nodes evalAig intsOwn buildSem buildTree buildList buildFacts exOf args
open Go.Proofs.Ytgjfgkdmfahkaaa.buildFace (AnsI build_aig)
open Go.Proofs.Ytgjfgkdmfahkaaa.buildSpec (Ans build_spec GateL)
open Go.Proofs.Ytgjfgkdmfahkaaa.values (valsOf values_laws bytes_of_trod)
open Go.Proofs.Ytgjfgkdmfahkaaa.aigOwn (gates_of_own)
open Go.Proofs.Ytgjfgkdmfahkaaa.buildEval (gf)
set_option linter.unusedVariables false

theorem rd3 (w : World) (e g : T) (a1 a3 : Option Addr) (l1 c1 l3 c3 : Nat) (he : Rd (fun _ => True) 1048576 w 4 e a1 l1) (hg : Rd (fun _ => True) 1048576 w 4 g a3 l3) :
    Rd (fun _ => True) 1048576 (w.alloc (.cells #[.int .i64 (kd e), .int .i64 (nn e), .slice a1 l1 c1, .int .i64 (kd g), .int .i64 (nn g), .slice a3 l3 c3, .int .i64 (kd e), .int .i64 (nn e), .slice a1 l1 c1] 25)) 5 (T3 e g) (some ⟨w.heap.size, 0, none⟩) 3 := by
  have hb : Below w.heap.size w (w.alloc (.cells #[.int .i64 (kd e), .int .i64 (nn e), .slice a1 l1 c1, .int .i64 (kd g), .int .i64 (nn g), .slice a3 l3 c3, .int .i64 (kd e), .int .i64 (nn e), .slice a1 l1 c1] 25)) := (by repeat (first | exact Below.refl _ _ | assumption | refine Below.drew ?_ | refine Below.alloc ?_ (by first | exact Nat.le_refl _ | omega | (simp; done) | (simp; omega)) _ | refine Below.setCell ?_ (by first | exact Nat.le_refl _ | omega | (simp; done) | (simp; omega)) _))
  refine ⟨rfl, by omega, fun i hi => ⟨w.heap.size, 0, rfl, trivial, ?_⟩⟩
  obtain rfl | rfl | rfl : i = 0 ∨ i = 1 ∨ i = 2 := by omega
  · exact ⟨by simp [go_sem]; rfl, by simp [go_sem]; rfl, a1, l1, c1, by simp [go_sem], he.below hb⟩
  · exact ⟨by simp [go_sem]; rfl, by simp [go_sem]; rfl, a3, l3, c3, by simp [go_sem], hg.below hb⟩
  · exact ⟨by simp [go_sem]; rfl, by simp [go_sem]; rfl, a1, l1, c1, by simp [go_sem], he.below hb⟩

theorem vals4 (k : Nat) (hk : k < 16) (w : World) :
    Calls Try.prog 10 #[.int .i64 (k : Int), .int .i64 4] w fun e w' => ∃ NV vc, e = .returned (.slice (some ⟨NV, 0, none⟩) 4 vc) ∧ BoolRow w' (some ⟨NV, 0, none⟩) 4 (valsOf k 4) ∧ Below w.heap.size w w' := by
  refine (values_laws k 4 w (by omega) (by omega)).mono ?_
  rintro e w' ⟨v, rfl, ho, hb⟩
  have hl : (valsOf k 4).length = 4 := by simp [valsOf]
  obtain ⟨a, c, hv, hr⟩ := ho.form
  obtain ⟨h1, h2⟩ := ho
  rcases h2 with ⟨e, hn⟩ | ⟨g, cap, cur, e, _⟩
  · omega
  · rw [hv] at e
    rw [hl] at e hr
    injection e with e1 e2 e3
    subst e1
    rw [hv, hl]
    exact ⟨g, c, rfl, hr, hb⟩

theorem row3b (w : World) (x y : Bool) : BoolRow (w.alloc (.cells #[.bool x, .bool y, .bool x] 4)) (some ⟨w.heap.size, 0, none⟩) 3 [x, y, x] := by
  refine ⟨rfl, by unfold maxLen; omega, fun i hi => ⟨w.heap.size, 0, rfl, ?_⟩⟩
  obtain rfl | rfl | rfl : i = 0 ∨ i = 1 ∨ i = 2 := by omega
  · simp [go_sem]
  · simp [go_sem]
  · simp [go_sem]

set_option maxHeartbeats 6400000 in
set_option maxRecDepth 8000 in
theorem walk (aC aM : Option Addr) (lC cC lM cM : Nat) (w : World) (hC : source.Bytes w aC lC) (hM : source.Bytes w aM lM) (hlC : lC ≤ maxLen) (hlM : lM ≤ maxLen) :
    Calls Try.prog 3 #[.slice aC lC cC, .slice aM lM cM] w fun e w' => e = .returned (.bool true) ∧ Below w.heap.size w w' := by
  have HC := hid hC
  have HM := hid hM
  unfold maxLen at hlC hlM
  clear hC hM
  by_cases h1 : 1048576 < lC
  · have i1 : decide ((1048576 : Int) < (lC : Int)) = true := decide_eq_true (by omega)
    go_enter Try.func3, Try.ntmps3
    go_wp2
    go_ret
    exact ⟨rfl, (by repeat (first | exact Below.refl _ _ | assumption | refine Below.drew ?_ | refine Below.alloc ?_ (by first | exact Nat.le_refl _ | omega | (simp; done) | (simp; omega)) _ | refine Below.setCell ?_ (by first | exact Nat.le_refl _ | omega | (simp; done) | (simp; omega)) _))⟩
  have i1 : decide ((1048576 : Int) < (lC : Int)) = false := decide_eq_false (by omega)
  by_cases h2 : 1048576 < lM
  · have i2 : decide ((1048576 : Int) < (lM : Int)) = true := decide_eq_true (by omega)
    go_enter Try.func3, Try.ntmps3
    go_wp2
    go_ret
    exact ⟨rfl, (by repeat (first | exact Below.refl _ _ | assumption | refine Below.drew ?_ | refine Below.alloc ?_ (by first | exact Nat.le_refl _ | omega | (simp; done) | (simp; omega)) _ | refine Below.setCell ?_ (by first | exact Nat.le_refl _ | omega | (simp; done) | (simp; omega)) _))⟩
  have i2 : decide ((1048576 : Int) < (lM : Int)) = false := decide_eq_false (by omega)
  go_enter Try.func3, Try.ntmps3
  go_wp2_with fail
  refine (exOf_spec aC lC cC _ HC.out (by omega)).mono ?_
  rintro e w1 ⟨te, a1, l1, c1, rfl, hr1, hn1, hb1⟩
  have H1 := hid hb1
  have NE := hid hn1
  have R1 : Hid (Rd (fun _ => True) 1048576 w1 4 te a1 l1) := hid (hr1.imp fun _ _ => trivial)
  have V1 : Hid (Below w1.heap.size w1 (w1.alloc (.cells #[.int .i64 (kd te), .int .i64 (nn te), .slice a1 l1 c1] 25))) := hid (by repeat (first | exact Below.refl _ _ | assumption | refine Below.drew ?_ | refine Below.alloc ?_ (by first | exact Nat.le_refl _ | omega | (simp; done) | (simp; omega)) _ | refine Below.setCell ?_ (by first | exact Nat.le_refl _ | omega | (simp; done) | (simp; omega)) _))
  obtain ⟨X, hX⟩ : ∃ X, w1.heap.size = X := ⟨_, rfl⟩
  have C1 : Hid ((w1.alloc (.cells #[.int .i64 (kd te), .int .i64 (nn te), .slice a1 l1 c1] 25)).cell? ⟨X, 0, none⟩ = some (.int .i64 (kd te)) ∧ (w1.alloc (.cells #[.int .i64 (kd te), .int .i64 (nn te), .slice a1 l1 c1] 25)).cell? ⟨X, 1, none⟩ = some (.int .i64 (nn te)) ∧ (w1.alloc (.cells #[.int .i64 (kd te), .int .i64 (nn te), .slice a1 l1 c1] 25)).cell? ⟨X, 2, none⟩ = some (.slice a1 l1 c1)) := hid (by rw [← hX]; exact ⟨by simp [go_sem], by simp [go_sem], by simp [go_sem]⟩)
  clear hr1 hn1 hb1
  go_wp2_with fail
  generalize w1.alloc (.cells #[.int .i64 (kd te), .int .i64 (nn te), .slice a1 l1 c1] 25) = w2 at *
  have H2 := hid (H1.out.trans (V1.out.mono H1.out.size))
  have R2 := hid (R1.out.below V1.out)
  have hX2 : X < w2.heap.size := World.block_lt_of_cell? _ _ C1.out.1
  clear hX V1 R1 H1
  refine (exOf_spec aM lM cM _ (fun i hi => by
    obtain ⟨bb, off, e, x, hx, hc⟩ := HM.out i hi
    exact ⟨bb, off, e, x, hx, keep H2.out hc⟩) (by omega)).mono ?_
  rintro e w3 ⟨tg, a3, l3, c3, rfl, hr3, hn3, hb3⟩
  have H3 := hid (H2.out.trans (hb3.mono H2.out.size))
  have NG := hid hn3
  have R3 : Hid (Rd (fun _ => True) 1048576 w3 4 tg a3 l3) := hid (hr3.imp fun _ _ => trivial)
  have R3e := hid (R2.out.below hb3)
  have C3 := hid (show _ ∧ _ ∧ _ from ⟨keep hb3 C1.out.1, keep hb3 C1.out.2.1, keep hb3 C1.out.2.2⟩)
  have hX3 : X < w3.heap.size := World.block_lt_of_cell? _ _ C3.out.1
  have V3 : Hid (Below w3.heap.size w3 (w3.alloc (.cells #[.int .i64 (kd tg), .int .i64 (nn tg), .slice a3 l3 c3] 25))) := hid (by repeat (first | exact Below.refl _ _ | assumption | refine Below.drew ?_ | refine Below.alloc ?_ (by first | exact Nat.le_refl _ | omega | (simp; done) | (simp; omega)) _ | refine Below.setCell ?_ (by first | exact Nat.le_refl _ | omega | (simp; done) | (simp; omega)) _))
  obtain ⟨Y, hY⟩ : ∃ Y, w3.heap.size = Y := ⟨_, rfl⟩
  have C4 : Hid ((w3.alloc (.cells #[.int .i64 (kd tg), .int .i64 (nn tg), .slice a3 l3 c3] 25)).cell? ⟨Y, 0, none⟩ = some (.int .i64 (kd tg)) ∧ (w3.alloc (.cells #[.int .i64 (kd tg), .int .i64 (nn tg), .slice a3 l3 c3] 25)).cell? ⟨Y, 1, none⟩ = some (.int .i64 (nn tg)) ∧ (w3.alloc (.cells #[.int .i64 (kd tg), .int .i64 (nn tg), .slice a3 l3 c3] 25)).cell? ⟨Y, 2, none⟩ = some (.slice a3 l3 c3)) := hid (by rw [← hY]; exact ⟨by simp [go_sem], by simp [go_sem], by simp [go_sem]⟩)
  have hXY : X < Y := by omega
  obtain ⟨x0, x1, x2⟩ := C3.out
  have HD : Hid (∀ w8, Below (Y + 1) (w3.alloc (.cells #[.int .i64 (kd tg), .int .i64 (nn tg), .slice a3 l3 c3] 25)) w8 → ((w8.cell? ⟨X, 0, none⟩ = some (.int .i64 (kd te)) ∧ w8.cell? ⟨X, 1, none⟩ = some (.int .i64 (nn te)) ∧ w8.cell? ⟨X, 2, none⟩ = some (.slice a1 l1 c1)) ∧ (w8.cell? ⟨Y, 0, none⟩ = some (.int .i64 (kd tg)) ∧ w8.cell? ⟨Y, 1, none⟩ = some (.int .i64 (nn tg)) ∧ w8.cell? ⟨Y, 2, none⟩ = some (.slice a3 l3 c3))) ∧ Rd (fun _ => True) 1048576 w8 4 te a1 l1 ∧ Rd (fun _ => True) 1048576 w8 4 tg a3 l3 ∧ Below w.heap.size w w8) := hid (fun w8 hb => by
    have hz : (w3.alloc (.cells #[.int .i64 (kd tg), .int .i64 (nn tg), .slice a3 l3 c3] 25)).heap.size = Y + 1 := by rw [← hY]; simp
    rw [← hz] at hb
    have hb3 := V3.out.trans (hb.mono V3.out.size)
    exact ⟨⟨⟨keep hb3 x0, keep hb3 x1, keep hb3 x2⟩, ⟨keep hb C4.out.1, keep hb C4.out.2.1, keep hb C4.out.2.2⟩⟩, R3e.out.below hb3, R3.out.below hb3, H3.out.trans (hb3.mono H3.out.size)⟩)
  clear hr3 hn3 hb3 C1 R2 H2
  obtain ⟨q1, q2, q3⟩ := ans3 NE.out NG.out
  have hc0 := code3 NE.out NG.out
  have hl0 := len2 NE.out NG.out
  obtain ⟨gs, hgs⟩ : ∃ gs, gs2 te tg = gs := ⟨_, rfl⟩
  obtain ⟨z0, hz0⟩ : ∃ z, ze te = z := ⟨_, rfl⟩
  obtain ⟨z1, hz1⟩ : ∃ z, zg te tg = z := ⟨_, rfl⟩
  obtain ⟨gl, hgl⟩ : ∃ z, gs.length = z := ⟨_, rfl⟩
  have HAig : Hid (aigB 4 gl (gf gs) = true ∧ (∀ i, i < gl → I64 (gf gs i).1 ∧ I64 (gf gs i).2) ∧ I64 z0 ∧ I64 z1 ∧ ∀ vs : List Bool, vs.length = 4 → evCode 4 gl (gf gs) [z0, z1, z0] vs.length = 0 ∧ evList 4 gl (gf gs) [z0, z1, z0] vs = [evalT vs 4 te, evalT vs 4 tg, evalT vs 4 te]) := hid (by
    obtain ⟨n1, n2⟩ := in3 NE.out NG.out
    have h1 := aig3 NE.out NG.out
    have h2 := gate64 NE.out NG.out
    have h3 := fun vs hv => vals3 NE.out NG.out (vs := vs) hv
    rw [hgs] at n1 n2 h1 h2 hl0
    rw [hz0] at n1
    rw [hz1] at n2
    simp only [hgs, hz0, hz1, hgl] at h1 h2 h3
    refine ⟨h1, h2, ⟨?_, ?_⟩, ⟨?_, ?_⟩, h3⟩
    · have := n1.1; omega
    · have := n1.2; omega
    · have := n2.1; omega
    · have := n2.2; omega)
  rw [hgs] at q1 hl0
  rw [hz0, hz1] at q2
  rw [hgl] at hl0
  have HImpl : Hid (∀ (x : Option Addr) (cx : Nat) (w' : World), Rd (fun _ => True) 1048576 w' 5 (T3 te tg) x 3 → Calls Try.prog 5 #[.int .i64 4, .slice x 3 cx] w' fun e w'' => ∃ ga gc la lc, e = .returned (.tuple #[.agg #[.int .i64 4, .slice ga gl gc], .slice la 3 lc, .int .i64 0]) ∧ GateRow w'' ga gl (gf gs) ∧ IntRow w'' la 3 [z0, z1, z0] ∧ Below w'.heap.size w' w'') := hid (by
    intro x cx w' h1
    refine (build_aig 5 (T3 te tg) x 3 cx 4 w' h1).mono ?_
    rintro e w'' ⟨gv, lv, rfl, hg, hi, hap, hb⟩
    rw [q1] at hg
    rw [q2] at hi
    rw [q3, hc0]
    obtain ⟨ga, gc, rfl⟩ : ∃ a c, gv = .slice a gl c := by
      rcases hg.2 with ⟨e, h0⟩ | ⟨g, cap, cur, e, _⟩
      · exact ⟨none, 0, by rw [e, ← hgl, h0]⟩
      · exact ⟨_, _, by rw [e, hgl]⟩
    obtain ⟨la, lc, rfl, hri⟩ := hi.form
    exact ⟨ga, gc, la, lc, rfl, gates_of_own hg (by unfold maxLen; omega), hri, hb⟩)
  have HSpec : Hid (∀ (x : Option Addr) (cx : Nat) (w' : World), Rd (fun _ => True) 1048576 w' 5 (T3 te tg) x 3 → Calls Try.prog 6 #[.int .i64 4, .slice x 3 cx] w' fun e w'' => ∃ ga gc la lc, e = .returned (.tuple #[.agg #[.int .i64 4, .slice ga gl gc], .slice la 3 lc, .int .i64 0]) ∧ IntRow w'' la 3 [z0, z1, z0] ∧ Below w'.heap.size w' w'') := hid (by
    intro x cx w' h1
    refine (build_spec 5 (T3 te tg) x 3 cx 4 w' h1).mono ?_
    rintro e w'' ⟨ga, gc, la, lc, rfl, hg, hi, hb⟩
    rw [q1, q2, q3, hc0, hgl]
    rw [q2] at hi
    exact ⟨ga, gc, la, lc, rfl, hi, hb⟩)
  have hok := nice_ok NE.out
  have HOk := hid hok
  have HEv1 : Hid (∀ (vs : List Bool), evC 4 te 4 = 0 ∧ evB 4 te 4 vs = evalT vs 4 te ∧ evC 4 tg 4 = 0 ∧ evB 4 tg 4 vs = evalT vs 4 tg) := hid (fun vs => by
    have h1 : evC 4 te 4 = 0 := by unfold evC; rw [if_neg (by omega), nice_ok NE.out, if_neg (by simp), if_neg (by have := NE.out.2.1; omega)]
    have h2 : evC 4 tg 4 = 0 := by unfold evC; rw [if_neg (by omega), nice_ok NG.out, if_neg (by simp), if_neg (by have := NG.out.2.1; omega)]
    exact ⟨h1, by unfold evB; rw [if_pos h1], h2, by unfold evB; rw [if_pos h2]⟩)
  clear q1 q2 q3 hc0 hgs hz0 hz1 hgl hok
  have hz4 : (w3.alloc (.cells #[.int .i64 (kd tg), .int .i64 (nn tg), .slice a3 l3 c3] 25)).heap.size = Y + 1 := by rw [← hY]; simp
  have h4 := HD.out _ (Below.refl _ _)
  have HRd := hid (rd3 _ te tg a1 a3 l1 c1 l3 c3 h4.2.1 h4.2.2.1)
  go_wp2_with fail
  generalize w3.alloc (.cells #[.int .i64 (kd tg), .int .i64 (nn tg), .slice a3 l3 c3] 25) = w4 at *
  rw [hz4] at HRd
  have V5 : Hid (Below w4.heap.size w4 (w4.alloc (.cells #[.int .i64 (kd te), .int .i64 (nn te), .slice a1 l1 c1, .int .i64 (kd tg), .int .i64 (nn tg), .slice a3 l3 c3, .int .i64 (kd te), .int .i64 (nn te), .slice a1 l1 c1] 25))) := hid (by repeat (first | exact Below.refl _ _ | assumption | refine Below.drew ?_ | refine Below.alloc ?_ (by first | exact Nat.le_refl _ | omega | (simp; done) | (simp; omega)) _ | refine Below.setCell ?_ (by first | exact Nat.le_refl _ | omega | (simp; done) | (simp; omega)) _))
  generalize w4.alloc (.cells #[.int .i64 (kd te), .int .i64 (nn te), .slice a1 l1 c1, .int .i64 (kd tg), .int .i64 (nn tg), .slice a3 l3 c3, .int .i64 (kd te), .int .i64 (nn te), .slice a1 l1 c1] 25) = w5 at *
  clear h4 x0 x1 x2 hY V3 C3 C4 R3 R3e
  refine (HImpl.out _ _ _ HRd.out).mono ?_
  rintro e w6 ⟨ga, gc, la, lc, rfl, hg6, hi6, hb6⟩
  have B6 : Hid (Below (Y + 1) w4 w6) := hid (by rw [← hz4]; exact V5.out.trans (hb6.mono V5.out.size))
  have s6 : Y + 1 ≤ w6.heap.size := by have := V5.out.size; have := hb6.size; omega
  have HG6 := hid hg6
  have HI6 := hid hi6
  have V7 : Hid (Below w6.heap.size w6 (w6.alloc (.cells #[.int .i64 4, .slice ga gl gc] 29))) := hid (by repeat (first | exact Below.refl _ _ | assumption | refine Below.drew ?_ | refine Below.alloc ?_ (by first | exact Nat.le_refl _ | omega | (simp; done) | (simp; omega)) _ | refine Below.setCell ?_ (by first | exact Nat.le_refl _ | omega | (simp; done) | (simp; omega)) _))
  obtain ⟨A, hA⟩ : ∃ A, w6.heap.size = A := ⟨_, rfl⟩
  have C7 : Hid ((w6.alloc (.cells #[.int .i64 4, .slice ga gl gc] 29)).cell? ⟨A, 0, none⟩ = some (.int .i64 4) ∧ (w6.alloc (.cells #[.int .i64 4, .slice ga gl gc] 29)).cell? ⟨A, 1, none⟩ = some (.slice ga gl gc)) := hid (by rw [← hA]; exact ⟨by simp [go_sem], by simp [go_sem]⟩)
  have hz7 : (w6.alloc (.cells #[.int .i64 4, .slice ga gl gc] 29)).heap.size = A + 1 := by rw [← hA]; simp
  obtain ⟨⟨⟨x0, x1, x2⟩, ⟨y0, y1, y2⟩⟩, -, -, -⟩ := HD.out w6 B6.out
  have hXA : X < A := by omega
  have hYA : Y < A := by omega
  have B7 : Hid (Below (Y + 1) w4 (w6.alloc (.cells #[.int .i64 4, .slice ga gl gc] 29))) := hid (B6.out.trans (V7.out.mono (by omega)))
  have h7 := HD.out _ B7.out
  have HRd7 := hid (rd3 _ te tg a1 a3 l1 c1 l3 c3 h7.2.1 h7.2.2.1)
  clear hg6 hi6 hb6 h7
  go_wp2_with fail
  generalize w6.alloc (.cells #[.int .i64 4, .slice ga gl gc] 29) = w7 at *
  rw [hz7] at HRd7
  have V8 : Hid (Below w7.heap.size w7 (w7.alloc (.cells #[.int .i64 (kd te), .int .i64 (nn te), .slice a1 l1 c1, .int .i64 (kd tg), .int .i64 (nn tg), .slice a3 l3 c3, .int .i64 (kd te), .int .i64 (nn te), .slice a1 l1 c1] 25))) := hid (by repeat (first | exact Below.refl _ _ | assumption | refine Below.drew ?_ | refine Below.alloc ?_ (by first | exact Nat.le_refl _ | omega | (simp; done) | (simp; omega)) _ | refine Below.setCell ?_ (by first | exact Nat.le_refl _ | omega | (simp; done) | (simp; omega)) _))
  generalize w7.alloc (.cells #[.int .i64 (kd te), .int .i64 (nn te), .slice a1 l1 c1, .int .i64 (kd tg), .int .i64 (nn tg), .slice a3 l3 c3, .int .i64 (kd te), .int .i64 (nn te), .slice a1 l1 c1] 25) = w8 at *
  refine (HSpec.out _ _ _ HRd7.out).mono ?_
  rintro e w9 ⟨gb, gd, lb, ld, rfl, hi9, hb9⟩
  have B79 : Hid (Below w7.heap.size w7 w9) := hid (V8.out.trans (hb9.mono V8.out.size))
  have HI9 := hid hi9
  have s9 := B79.out.size
  have V10 : Hid (Below w9.heap.size w9 (w9.alloc (.cells #[.int .i64 4, .slice gb gl gd] 29))) := hid (by repeat (first | exact Below.refl _ _ | assumption | refine Below.drew ?_ | refine Below.alloc ?_ (by first | exact Nat.le_refl _ | omega | (simp; done) | (simp; omega)) _ | refine Below.setCell ?_ (by first | exact Nat.le_refl _ | omega | (simp; done) | (simp; omega)) _))
  obtain ⟨U, hU⟩ : ∃ U, w9.heap.size = U := ⟨_, rfl⟩
  have C10 : Hid ((w9.alloc (.cells #[.int .i64 4, .slice gb gl gd] 29)).cell? ⟨U, 0, none⟩ = some (.int .i64 4) ∧ (w9.alloc (.cells #[.int .i64 4, .slice gb gl gd] 29)).cell? ⟨U, 1, none⟩ = some (.slice gb gl gd)) := hid (by rw [← hU]; exact ⟨by simp [go_sem], by simp [go_sem]⟩)
  have hz10 : (w9.alloc (.cells #[.int .i64 4, .slice gb gl gd] 29)).heap.size = U + 1 := by rw [← hU]; simp
  have HF : Hid (∀ w8, Below (U + 1) (w9.alloc (.cells #[.int .i64 4, .slice gb gl gd] 29)) w8 → (((w8.cell? ⟨X, 0, none⟩ = some (.int .i64 (kd te)) ∧ w8.cell? ⟨X, 1, none⟩ = some (.int .i64 (nn te)) ∧ w8.cell? ⟨X, 2, none⟩ = some (.slice a1 l1 c1)) ∧ (w8.cell? ⟨Y, 0, none⟩ = some (.int .i64 (kd tg)) ∧ w8.cell? ⟨Y, 1, none⟩ = some (.int .i64 (nn tg)) ∧ w8.cell? ⟨Y, 2, none⟩ = some (.slice a3 l3 c3))) ∧ (w8.cell? ⟨A, 0, none⟩ = some (.int .i64 4) ∧ w8.cell? ⟨A, 1, none⟩ = some (.slice ga gl gc)) ∧ (w8.cell? ⟨U, 0, none⟩ = some (.int .i64 4) ∧ w8.cell? ⟨U, 1, none⟩ = some (.slice gb gl gd))) ∧ Rd (fun _ => True) 1048576 w8 4 te a1 l1 ∧ Rd (fun _ => True) 1048576 w8 4 tg a3 l3 ∧ GateRow w8 ga gl (gf gs) ∧ IntRow w8 la 3 [z0, z1, z0] ∧ IntRow w8 lb 3 [z0, z1, z0] ∧ Below w.heap.size w w8) := hid (fun wz hb => by
    have hb' : Below (w9.alloc (.cells #[.int .i64 4, .slice gb gl gd] 29)).heap.size (w9.alloc (.cells #[.int .i64 4, .slice gb gl gd] 29)) wz := by rw [hz10]; exact hb
    have hb9 : Below w9.heap.size w9 wz := V10.out.trans (hb'.mono V10.out.size)
    have hb7 : Below w7.heap.size w7 wz := B79.out.trans (hb9.mono B79.out.size)
    have hb6 : Below w6.heap.size w6 wz := V7.out.trans (hb7.mono V7.out.size)
    have hb4 : Below (Y + 1) w4 wz := B6.out.trans (hb6.mono s6)
    obtain ⟨d1, d2, d3, d4⟩ := HD.out wz hb4
    exact ⟨⟨d1, ⟨keep hb7 C7.out.1, keep hb7 C7.out.2⟩, ⟨keep hb' C10.out.1, keep hb' C10.out.2⟩⟩, d2, d3, HG6.out.below hb6, HI6.out.below hb6, HI9.out.below hb9, d4⟩)
  clear hi9 hb9 x0 x1 x2 y0 y1 y2
  obtain ⟨⟨⟨⟨x0, x1, x2⟩, ⟨y0, y1, y2⟩⟩, ⟨g0, g1⟩, ⟨u0, u1⟩⟩, r1, r2, r3, r4, r5, r6⟩ := HF.out _ (Below.refl _ _)
  have RE := hid r1
  have RG := hid r3
  have RI := hid r4
  have RJ := hid r5
  clear r1 r2 r3 r4 r5 r6
  obtain ⟨lab, lao, hla, hl0c⟩ := RI.out.cell 0 (by omega)
  obtain ⟨lab', lao', hla', hl2c⟩ := RI.out.cell 2 (by omega)
  rw [hla] at hla'
  injection hla' with hla'
  injection hla' with e1 e2
  subst e1
  subst e2
  subst hla
  clear hl0c hl2c
  go_wp2_with fail
  generalize w9.alloc (.cells #[.int .i64 4, .slice gb gl gd] 29) = w10 at *
  -- the first region
  have HB10 : Hid (∀ w8 : World, Below w10.heap.size w10 w8 → Below (U + 1) w10 w8) := hid (fun w8 h => by rw [hz10] at h; exact h)
  refine region_below (fun u => ⟨#[.slice aC lC cC, .slice aM lM cM, undef, undef, .bool false, .pointer (some { block := X, off := 0 }), .pointer (some { block := Y, off := 0 }), .pointer (some { block := A, off := 0 }), .slice (some { block := lab, off := lao }) 3 lc, .int .i64 0, .pointer (some { block := U, off := 0 }), .slice lb 3 ld, .int .i64 0, undef, undef, undef, undef, undef, undef, undef, undef, undef, undef, .slice aC lC cC, .int .i64 ↑lC, .bool false, .bool false, .slice aM lM cM, .int .i64 ↑lM, .bool false, .bool false, .slice aC lC cC, .agg #[.int .i64 (kd te), .int .i64 (nn te), .slice a1 l1 c1], .slice aM lM cM, .agg #[.int .i64 (kd tg), .int .i64 (nn tg), .slice a3 l3 c3], .tuple #[.agg #[.int .i64 4, .slice ga gl gc], .slice (some { block := lab, off := lao }) 3 lc, .int .i64 0], .agg #[.int .i64 (kd te), .int .i64 (nn te), .slice a1 l1 c1], .agg #[.int .i64 (kd tg), .int .i64 (nn tg), .slice a3 l3 c3], .agg #[.int .i64 (kd te), .int .i64 (nn te), .slice a1 l1 c1], .slice (some { block := Y + 1, off := 0 }) 3 3, .tuple #[.agg #[.int .i64 4, .slice ga gl gc], .slice (some { block := lab, off := lao }) 3 lc, .int .i64 0], .agg #[.int .i64 4, .slice ga gl gc], .slice (some { block := lab, off := lao }) 3 lc, .int .i64 0, .tuple #[.agg #[.int .i64 4, .slice gb gl gd], .slice lb 3 ld, .int .i64 0], .agg #[.int .i64 (kd te), .int .i64 (nn te), .slice a1 l1 c1], .agg #[.int .i64 (kd tg), .int .i64 (nn tg), .slice a3 l3 c3], .agg #[.int .i64 (kd te), .int .i64 (nn te), .slice a1 l1 c1], .slice (some { block := A + 1, off := 0 }) 3 3, .tuple #[.agg #[.int .i64 4, .slice gb gl gd], .slice lb 3 ld, .int .i64 0], .agg #[.int .i64 4, .slice gb gl gd], .slice lb 3 ld, .int .i64 0, u 53, u 54, u 55, u 56, u 57, u 58, u 59, u 60, u 61, u 62, u 63, u 64, u 65, u 66, u 67, u 68, u 69, u 70, u 71, u 72, u 73, u 74, u 75, u 76, u 77, u 78, u 79, u 80, u 81, u 82, u 83, u 84, u 85, u 86, u 87, u 88, u 89, u 90, u 91, u 92, undef, undef, undef, undef, undef, undef, undef, undef, undef, undef, undef, undef, undef, undef, undef, undef, undef, undef, undef, undef, undef, undef, undef, undef, undef, undef, undef, undef, undef, undef, undef, undef, undef, undef, undef, undef, undef, undef, undef, undef, undef, undef, undef, undef, undef, undef, undef, undef, undef, undef, undef, undef, undef, undef, undef, undef], []⟩) (fun i => [53, 54, 55, 56, 57, 58, 59, 60, 61, 62, 63, 64, 65, 66, 67, 68, 69, 70, 71, 72, 73, 74, 75, 76, 77, 78, 79, 80, 81, 82, 83, 84, 85, 86, 87, 88, 89, 90, 91, 92].getD i 0) (fun i v w8 => match i with | 0 => v = .int .i64 0 | 1 => v = .bool false | 2 => v = .bool false | 3 => v = .slice (some ⟨lab, lao, none⟩) 3 lc | 4 => v = .int .i64 3 | 5 => v = .bool false | 6 => v = .bool false | 7 => v = .bool false | 8 => v = .slice (some ⟨lab, lao, none⟩) 3 lc | 9 => v = .slice lb 3 ld | 10 => v = .bool true | 11 => v = .bool false | 12 => v = .bool false | 13 => v = .bool false | 14 => v = .pointer (some ⟨A, 1, none⟩) | 15 => v = .slice ga gl gc | 16 => v = .int .i64 (gl : Int) | 17 => v = .pointer (some ⟨U, 1, none⟩) | 18 => v = .slice gb gl gd | 19 => v = .int .i64 (gl : Int) | 20 => v = .bool false | 21 => v = .bool false | 22 => v = .bool false | 23 => v = .agg #[.int .i64 4, .slice ga gl gc] | 24 => v = .bool true | 25 => v = .bool false | 26 => v = .bool false | 27 => v = .bool false | 28 => v = .slice (some ⟨lab, lao, none⟩) 3 lc | 29 => v = .pointer (some ⟨lab, lao, none⟩) | 30 => v = .int .i64 z0 | 31 => v = .slice (some ⟨lab, lao, none⟩) 3 lc | 32 => v = .pointer (some ⟨lab, lao + 2, none⟩) | 33 => v = .int .i64 z0 | 34 => v = .bool false | 35 => v = .bool false | 36 => v = .bool false | 37 => v = .agg #[.int .i64 (kd te), .int .i64 (nn te), .slice a1 l1 c1] | 38 => v = .bool true | 39 => v = .bool false | _ => True) w10 40 (fun k => match k with | 53 => undef | 54 => undef | 55 => undef | 56 => undef | 57 => undef | 58 => undef | 59 => undef | 60 => undef | 61 => undef | 62 => undef | 63 => undef | 64 => undef | 65 => undef | 66 => undef | 67 => undef | 68 => undef | 69 => undef | 70 => undef | 71 => undef | 72 => undef | 73 => undef | 74 => undef | 75 => undef | 76 => undef | 77 => undef | 78 => undef | 79 => undef | 80 => undef | 81 => undef | 82 => undef | 83 => undef | 84 => undef | 85 => undef | 86 => undef | 87 => undef | 88 => undef | 89 => undef | 90 => undef | 91 => undef | 92 => undef | _ => undef) (by rfl) (by kernel_rfl) (by rfl) ⟨by kernel_rfl, by kernel_rfl, by kernel_rfl, by decide⟩ (by kernel_rfl) (Below.refl _ _) ?hput ?hinj ?stable ?step ?last
  case hput =>
    intro i hi u v
    match i, hi with
    | 0, _ => rfl
    | 1, _ => rfl
    | 2, _ => rfl
    | 3, _ => rfl
    | 4, _ => rfl
    | 5, _ => rfl
    | 6, _ => rfl
    | 7, _ => rfl
    | 8, _ => rfl
    | 9, _ => rfl
    | 10, _ => rfl
    | 11, _ => rfl
    | 12, _ => rfl
    | 13, _ => rfl
    | 14, _ => rfl
    | 15, _ => rfl
    | 16, _ => rfl
    | 17, _ => rfl
    | 18, _ => rfl
    | 19, _ => rfl
    | 20, _ => rfl
    | 21, _ => rfl
    | 22, _ => rfl
    | 23, _ => rfl
    | 24, _ => rfl
    | 25, _ => rfl
    | 26, _ => rfl
    | 27, _ => rfl
    | 28, _ => rfl
    | 29, _ => rfl
    | 30, _ => rfl
    | 31, _ => rfl
    | 32, _ => rfl
    | 33, _ => rfl
    | 34, _ => rfl
    | 35, _ => rfl
    | 36, _ => rfl
    | 37, _ => rfl
    | 38, _ => rfl
    | 39, _ => rfl
    | i + 40, hi => exact absurd hi (by omega)
  case hinj =>
    intro i j hi hj h
    exact slots_inj [53, 54, 55, 56, 57, 58, 59, 60, 61, 62, 63, 64, 65, 66, 67, 68, 69, 70, 71, 72, 73, 74, 75, 76, 77, 78, 79, 80, 81, 82, 83, 84, 85, 86, 87, 88, 89, 90, 91, 92] (by decide) hi hj h
  case stable =>
    intro i v w8 w9 hb h
    match i, h with
    | 0, h => exact h
    | 1, h => exact h
    | 2, h => exact h
    | 3, h => exact h
    | 4, h => exact h
    | 5, h => exact h
    | 6, h => exact h
    | 7, h => exact h
    | 8, h => exact h
    | 9, h => exact h
    | 10, h => exact h
    | 11, h => exact h
    | 12, h => exact h
    | 13, h => exact h
    | 14, h => exact h
    | 15, h => exact h
    | 16, h => exact h
    | 17, h => exact h
    | 18, h => exact h
    | 19, h => exact h
    | 20, h => exact h
    | 21, h => exact h
    | 22, h => exact h
    | 23, h => exact h
    | 24, h => exact h
    | 25, h => exact h
    | 26, h => exact h
    | 27, h => exact h
    | 28, h => exact h
    | 29, h => exact h
    | 30, h => exact h
    | 31, h => exact h
    | 32, h => exact h
    | 33, h => exact h
    | 34, h => exact h
    | 35, h => exact h
    | 36, h => exact h
    | 37, h => exact h
    | 38, h => exact h
    | 39, h => exact h
    | _ + 40, h => trivial
  case step =>
    intro i hi u w8 S8 hdep
    match i, hi with
    | 0, _ =>
      clear hdep
      refine ⟨_, rfl, fun K' hK => ?_⟩
      go_simp
      exact hK.out _ _ (Below.refl _ _) rfl
    | 1, _ =>
      have h0 : (u 53) = .int .i64 0 := hdep 0 (by kernel_rfl)
      clear hdep
      refine ⟨_, rfl, fun K' hK => ?_⟩
      simp only [h0] at hK ⊢
      go_simp
      exact hK.out _ _ (Below.refl _ _) rfl
    | 2, _ =>
      have h1 : (u 54) = .bool false := hdep 1 (by kernel_rfl)
      clear hdep
      refine ⟨_, rfl, fun K' hK => ?_⟩
      simp only [h1] at hK ⊢
      go_simp
      exact hK.out _ _ (Below.refl _ _) rfl
    | 3, _ =>
      have h2 : (u 55) = .bool false := hdep 2 (by kernel_rfl)
      clear hdep
      refine ⟨_, rfl, fun K' hK => ?_⟩
      simp only [h2] at hK ⊢
      go_simp
      exact hK.out _ _ (Below.refl _ _) rfl
    | 4, _ =>
      have h2 : (u 55) = .bool false := hdep 2 (by kernel_rfl)
      have h3 : (u 56) = .slice (some ⟨lab, lao, none⟩) 3 lc := hdep 3 (by kernel_rfl)
      clear hdep
      refine ⟨_, rfl, fun K' hK => ?_⟩
      simp only [h2, h3] at hK ⊢
      go_simp
      exact hK.out _ _ (Below.refl _ _) rfl
    | 5, _ =>
      have h2 : (u 55) = .bool false := hdep 2 (by kernel_rfl)
      have h4 : (u 57) = .int .i64 3 := hdep 4 (by kernel_rfl)
      clear hdep
      refine ⟨_, rfl, fun K' hK => ?_⟩
      simp only [h2, h4] at hK ⊢
      go_simp
      exact hK.out _ _ (Below.refl _ _) rfl
    | 6, _ =>
      have h2 : (u 55) = .bool false := hdep 2 (by kernel_rfl)
      have h5 : (u 58) = .bool false := hdep 5 (by kernel_rfl)
      clear hdep
      refine ⟨_, rfl, fun K' hK => ?_⟩
      simp only [h2, h5] at hK ⊢
      go_simp
      exact hK.out _ _ (Below.refl _ _) rfl
    | 7, _ =>
      have h2 : (u 55) = .bool false := hdep 2 (by kernel_rfl)
      have h6 : (u 59) = .bool false := hdep 6 (by kernel_rfl)
      clear hdep
      refine ⟨_, rfl, fun K' hK => ?_⟩
      simp only [h2, h6] at hK ⊢
      go_simp
      exact hK.out _ _ (Below.refl _ _) rfl
    | 8, _ =>
      have h7 : (u 60) = .bool false := hdep 7 (by kernel_rfl)
      clear hdep
      refine ⟨_, rfl, fun K' hK => ?_⟩
      simp only [h7] at hK ⊢
      go_simp
      exact hK.out _ _ (Below.refl _ _) rfl
    | 9, _ =>
      have h7 : (u 60) = .bool false := hdep 7 (by kernel_rfl)
      clear hdep
      refine ⟨_, rfl, fun K' hK => ?_⟩
      simp only [h7] at hK ⊢
      go_simp
      exact hK.out _ _ (Below.refl _ _) rfl
    | 10, _ =>
      have h7 : (u 60) = .bool false := hdep 7 (by kernel_rfl)
      have h8 : (u 61) = .slice (some ⟨lab, lao, none⟩) 3 lc := hdep 8 (by kernel_rfl)
      have h9 : (u 62) = .slice lb 3 ld := hdep 9 (by kernel_rfl)
      clear hdep
      refine ⟨_, rfl, fun K' hK => ?_⟩
      simp only [h7, h8, h9] at hK ⊢
      go_simp
      refine (same.sameInts (some ⟨lab, lao, none⟩) lb 3 lc ld [z0, z1, z0] _ (HF.out w8 (HB10.out _ S8)).2.2.2.2.1 (HF.out w8 (HB10.out _ S8)).2.2.2.2.2.1).mono ?_
      rintro e w9q ⟨rfl, hb9⟩
      exact hK.out _ _ hb9 rfl
    | 11, _ =>
      have h7 : (u 60) = .bool false := hdep 7 (by kernel_rfl)
      have h10 : (u 63) = .bool true := hdep 10 (by kernel_rfl)
      clear hdep
      refine ⟨_, rfl, fun K' hK => ?_⟩
      simp only [h7, h10] at hK ⊢
      go_simp
      exact hK.out _ _ (Below.refl _ _) rfl
    | 12, _ =>
      have h7 : (u 60) = .bool false := hdep 7 (by kernel_rfl)
      have h11 : (u 64) = .bool false := hdep 11 (by kernel_rfl)
      clear hdep
      refine ⟨_, rfl, fun K' hK => ?_⟩
      simp only [h7, h11] at hK ⊢
      go_simp
      exact hK.out _ _ (Below.refl _ _) rfl
    | 13, _ =>
      have h10 : (u 63) = .bool true := hdep 10 (by kernel_rfl)
      have h12 : (u 65) = .bool false := hdep 12 (by kernel_rfl)
      clear hdep
      refine ⟨_, rfl, fun K' hK => ?_⟩
      simp only [h10, h12] at hK ⊢
      go_simp
      exact hK.out _ _ (Below.refl _ _) rfl
    | 14, _ =>
      have h13 : (u 66) = .bool false := hdep 13 (by kernel_rfl)
      clear hdep
      refine ⟨_, rfl, fun K' hK => ?_⟩
      simp only [h13] at hK ⊢
      go_simp
      exact hK.out _ _ (Below.refl _ _) rfl
    | 15, _ =>
      have h13 : (u 66) = .bool false := hdep 13 (by kernel_rfl)
      have h14 : (u 67) = .pointer (some ⟨A, 1, none⟩) := hdep 14 (by kernel_rfl)
      clear hdep
      refine ⟨_, rfl, fun K' hK => ?_⟩
      have hq := (HF.out w8 (HB10.out _ S8)).1
      obtain ⟨⟨⟨x0, x1, x2⟩, ⟨y0, y1, y2⟩⟩, ⟨g0, g1⟩, ⟨u0, u1⟩⟩ := hq
      simp only [h13, h14] at hK ⊢
      go_simp
      exact hK.out _ _ (Below.refl _ _) rfl
    | 16, _ =>
      have h13 : (u 66) = .bool false := hdep 13 (by kernel_rfl)
      have h15 : (u 68) = .slice ga gl gc := hdep 15 (by kernel_rfl)
      clear hdep
      refine ⟨_, rfl, fun K' hK => ?_⟩
      simp only [h13, h15] at hK ⊢
      go_simp
      exact hK.out _ _ (Below.refl _ _) rfl
    | 17, _ =>
      have h13 : (u 66) = .bool false := hdep 13 (by kernel_rfl)
      clear hdep
      refine ⟨_, rfl, fun K' hK => ?_⟩
      simp only [h13] at hK ⊢
      go_simp
      exact hK.out _ _ (Below.refl _ _) rfl
    | 18, _ =>
      have h13 : (u 66) = .bool false := hdep 13 (by kernel_rfl)
      have h17 : (u 70) = .pointer (some ⟨U, 1, none⟩) := hdep 17 (by kernel_rfl)
      clear hdep
      refine ⟨_, rfl, fun K' hK => ?_⟩
      have hq := (HF.out w8 (HB10.out _ S8)).1
      obtain ⟨⟨⟨x0, x1, x2⟩, ⟨y0, y1, y2⟩⟩, ⟨g0, g1⟩, ⟨u0, u1⟩⟩ := hq
      simp only [h13, h17] at hK ⊢
      go_simp
      exact hK.out _ _ (Below.refl _ _) rfl
    | 19, _ =>
      have h13 : (u 66) = .bool false := hdep 13 (by kernel_rfl)
      have h18 : (u 71) = .slice gb gl gd := hdep 18 (by kernel_rfl)
      clear hdep
      refine ⟨_, rfl, fun K' hK => ?_⟩
      simp only [h13, h18] at hK ⊢
      go_simp
      exact hK.out _ _ (Below.refl _ _) rfl
    | 20, _ =>
      have h13 : (u 66) = .bool false := hdep 13 (by kernel_rfl)
      have h16 : (u 69) = .int .i64 (gl : Int) := hdep 16 (by kernel_rfl)
      have h19 : (u 72) = .int .i64 (gl : Int) := hdep 19 (by kernel_rfl)
      clear hdep
      refine ⟨_, rfl, fun K' hK => ?_⟩
      have hqq : ((gl : Int) != (gl : Int)) = false := by simp
      simp only [h13, h16, h19] at hK ⊢
      go_simp
      exact hK.out _ _ (Below.refl _ _) rfl
    | 21, _ =>
      have h13 : (u 66) = .bool false := hdep 13 (by kernel_rfl)
      have h20 : (u 73) = .bool false := hdep 20 (by kernel_rfl)
      clear hdep
      refine ⟨_, rfl, fun K' hK => ?_⟩
      simp only [h13, h20] at hK ⊢
      go_simp
      exact hK.out _ _ (Below.refl _ _) rfl
    | 22, _ =>
      have h13 : (u 66) = .bool false := hdep 13 (by kernel_rfl)
      have h21 : (u 74) = .bool false := hdep 21 (by kernel_rfl)
      clear hdep
      refine ⟨_, rfl, fun K' hK => ?_⟩
      simp only [h13, h21] at hK ⊢
      go_simp
      exact hK.out _ _ (Below.refl _ _) rfl
    | 23, _ =>
      have h22 : (u 75) = .bool false := hdep 22 (by kernel_rfl)
      clear hdep
      refine ⟨_, rfl, fun K' hK => ?_⟩
      have hq := (HF.out w8 (HB10.out _ S8)).1
      obtain ⟨⟨⟨x0, x1, x2⟩, ⟨y0, y1, y2⟩⟩, ⟨g0, g1⟩, ⟨u0, u1⟩⟩ := hq
      simp only [h22] at hK ⊢
      go_simp
      exact hK.out _ _ (Below.refl _ _) rfl
    | 24, _ =>
      have h22 : (u 75) = .bool false := hdep 22 (by kernel_rfl)
      have h23 : (u 76) = .agg #[.int .i64 4, .slice ga gl gc] := hdep 23 (by kernel_rfl)
      clear hdep
      refine ⟨_, rfl, fun K' hK => ?_⟩
      simp only [h22, h23] at hK ⊢
      go_simp
      refine (aigOK_impl 4 ga gl gc (gf gs) _ (HF.out w8 (HB10.out _ S8)).2.2.2.1 HAig.out.2.1).mono ?_
      rintro e w9q ⟨rfl, hb9⟩
      rw [HAig.out.1]
      exact hK.out _ _ hb9 rfl
    | 25, _ =>
      have h22 : (u 75) = .bool false := hdep 22 (by kernel_rfl)
      have h24 : (u 77) = .bool true := hdep 24 (by kernel_rfl)
      clear hdep
      refine ⟨_, rfl, fun K' hK => ?_⟩
      simp only [h22, h24] at hK ⊢
      go_simp
      exact hK.out _ _ (Below.refl _ _) rfl
    | 26, _ =>
      have h22 : (u 75) = .bool false := hdep 22 (by kernel_rfl)
      have h25 : (u 78) = .bool false := hdep 25 (by kernel_rfl)
      clear hdep
      refine ⟨_, rfl, fun K' hK => ?_⟩
      simp only [h22, h25] at hK ⊢
      go_simp
      exact hK.out _ _ (Below.refl _ _) rfl
    | 27, _ =>
      have h24 : (u 77) = .bool true := hdep 24 (by kernel_rfl)
      have h26 : (u 79) = .bool false := hdep 26 (by kernel_rfl)
      clear hdep
      refine ⟨_, rfl, fun K' hK => ?_⟩
      simp only [h24, h26] at hK ⊢
      go_simp
      exact hK.out _ _ (Below.refl _ _) rfl
    | 28, _ =>
      have h27 : (u 80) = .bool false := hdep 27 (by kernel_rfl)
      clear hdep
      refine ⟨_, rfl, fun K' hK => ?_⟩
      simp only [h27] at hK ⊢
      go_simp
      exact hK.out _ _ (Below.refl _ _) rfl
    | 29, _ =>
      have h27 : (u 80) = .bool false := hdep 27 (by kernel_rfl)
      have h28 : (u 81) = .slice (some ⟨lab, lao, none⟩) 3 lc := hdep 28 (by kernel_rfl)
      clear hdep
      refine ⟨_, rfl, fun K' hK => ?_⟩
      simp only [h27, h28] at hK ⊢
      go_simp
      exact hK.out _ _ (Below.refl _ _) rfl
    | 30, _ =>
      have h27 : (u 80) = .bool false := hdep 27 (by kernel_rfl)
      have h29 : (u 82) = .pointer (some ⟨lab, lao, none⟩) := hdep 29 (by kernel_rfl)
      clear hdep
      refine ⟨_, rfl, fun K' hK => ?_⟩
      have hq := (HF.out w8 (HB10.out _ S8)).2.2.2.2.1
      obtain ⟨bq, oq, eq, hcq⟩ := hq.cell 0 (by omega)
      cases eq
      have hcq2 : w8.cell? ⟨lab, lao, none⟩ = some (.int .i64 z0) := hcq
      simp only [h27, h29] at hK ⊢
      go_simp
      exact hK.out _ _ (Below.refl _ _) rfl
    | 31, _ =>
      have h27 : (u 80) = .bool false := hdep 27 (by kernel_rfl)
      clear hdep
      refine ⟨_, rfl, fun K' hK => ?_⟩
      simp only [h27] at hK ⊢
      go_simp
      exact hK.out _ _ (Below.refl _ _) rfl
    | 32, _ =>
      have h27 : (u 80) = .bool false := hdep 27 (by kernel_rfl)
      have h31 : (u 84) = .slice (some ⟨lab, lao, none⟩) 3 lc := hdep 31 (by kernel_rfl)
      clear hdep
      refine ⟨_, rfl, fun K' hK => ?_⟩
      simp only [h27, h31] at hK ⊢
      go_simp
      exact hK.out _ _ (Below.refl _ _) rfl
    | 33, _ =>
      have h27 : (u 80) = .bool false := hdep 27 (by kernel_rfl)
      have h32 : (u 85) = .pointer (some ⟨lab, lao + 2, none⟩) := hdep 32 (by kernel_rfl)
      clear hdep
      refine ⟨_, rfl, fun K' hK => ?_⟩
      have hq := (HF.out w8 (HB10.out _ S8)).2.2.2.2.1
      obtain ⟨bq, oq, eq, hcq⟩ := hq.cell 2 (by omega)
      cases eq
      have hcq2 : w8.cell? ⟨lab, lao + 2, none⟩ = some (.int .i64 z0) := hcq
      simp only [h27, h32] at hK ⊢
      go_simp
      exact hK.out _ _ (Below.refl _ _) rfl
    | 34, _ =>
      have h27 : (u 80) = .bool false := hdep 27 (by kernel_rfl)
      have h30 : (u 83) = .int .i64 z0 := hdep 30 (by kernel_rfl)
      have h33 : (u 86) = .int .i64 z0 := hdep 33 (by kernel_rfl)
      clear hdep
      refine ⟨_, rfl, fun K' hK => ?_⟩
      have hqq : (z0 != z0) = false := by simp
      simp only [h27, h30, h33] at hK ⊢
      go_simp
      exact hK.out _ _ (Below.refl _ _) rfl
    | 35, _ =>
      have h27 : (u 80) = .bool false := hdep 27 (by kernel_rfl)
      have h34 : (u 87) = .bool false := hdep 34 (by kernel_rfl)
      clear hdep
      refine ⟨_, rfl, fun K' hK => ?_⟩
      simp only [h27, h34] at hK ⊢
      go_simp
      exact hK.out _ _ (Below.refl _ _) rfl
    | 36, _ =>
      have h27 : (u 80) = .bool false := hdep 27 (by kernel_rfl)
      have h35 : (u 88) = .bool false := hdep 35 (by kernel_rfl)
      clear hdep
      refine ⟨_, rfl, fun K' hK => ?_⟩
      simp only [h27, h35] at hK ⊢
      go_simp
      exact hK.out _ _ (Below.refl _ _) rfl
    | 37, _ =>
      have h36 : (u 89) = .bool false := hdep 36 (by kernel_rfl)
      clear hdep
      refine ⟨_, rfl, fun K' hK => ?_⟩
      have hq := (HF.out w8 (HB10.out _ S8)).1
      obtain ⟨⟨⟨x0, x1, x2⟩, ⟨y0, y1, y2⟩⟩, ⟨g0, g1⟩, ⟨u0, u1⟩⟩ := hq
      simp only [h36] at hK ⊢
      go_simp
      exact hK.out _ _ (Below.refl _ _) rfl
    | 38, _ =>
      have h36 : (u 89) = .bool false := hdep 36 (by kernel_rfl)
      have h37 : (u 90) = .agg #[.int .i64 (kd te), .int .i64 (nn te), .slice a1 l1 c1] := hdep 37 (by kernel_rfl)
      clear hdep
      refine ⟨_, rfl, fun K' hK => ?_⟩
      simp only [h36, h37] at hK ⊢
      go_simp
      refine (exOK_impl 4 te a1 l1 c1 _ (HF.out w8 (HB10.out _ S8)).2.1).mono ?_
      rintro e w9q ⟨rfl, hb9⟩
      rw [HOk.out]
      exact hK.out _ _ hb9 rfl
    | 39, _ =>
      have h36 : (u 89) = .bool false := hdep 36 (by kernel_rfl)
      have h38 : (u 91) = .bool true := hdep 38 (by kernel_rfl)
      clear hdep
      refine ⟨_, rfl, fun K' hK => ?_⟩
      simp only [h36, h38] at hK ⊢
      go_simp
      exact hK.out _ _ (Below.refl _ _) rfl
    | i + 40, hi => exact absurd hi (by omega)
  case last =>
    intro u w8 S8 hall
    have h36 : (u 89) = .bool false := hall 36 (by decide)
    have h39 : (u 92) = .bool false := hall 39 (by decide)
    clear hall
    refine ⟨_, rfl, fun K' hK => ?_⟩
    simp only [h36, h39] at hK ⊢
    go_simp
    refine hK.out _ _ ?_
    have B11 := hid (HB10.out _ S8)
    clear S8 hK K' h36 h39
    (try simp only [Exit.then])
    go_wp2
    have hz10w : U + 1 ≤ w8.heap.size := by have h := B11.out.size; rw [hz10] at h; exact h
    go_loopw [13] (fun i wr => ∃ k : Nat, k ≤ 16 ∧ i = .int .i64 k ∧ Below (U + 1) w10 wr) (fun i _ => 16 - (intOf i).toNat)
    case atStart => exact ⟨0, Nat.zero_le _, rfl, B11.out⟩
    case round =>
      obtain ⟨k, hk, rfl, hb⟩ := hrel
      have HB := hid hb
      clear hb
      by_cases hlt : k < 16
      · have hsU : U + 1 ≤ wr.heap.size := by have h := HB.out.size; rw [hz10] at h; exact h
        obtain ⟨v1, v2, v3, v4⟩ := HEv1.out (valsOf k 4)
        have hl4 : (valsOf k 4).length = 4 := by simp [valsOf]
        obtain ⟨v5, v6⟩ := HAig.out.2.2.2.2 (valsOf k 4) hl4
        rw [hl4] at v5
        have HVal := hid (fun w9 => vals4 k hlt w9)
        have HX1 := hid (fun a l c va vc w9 h9 => evalEx_impl 4 te a l c va 4 vc (valsOf k 4) w9 h9)
        have HX2 := hid (fun a l c va vc w9 h9 => evalEx_impl 4 tg a l c va 4 vc (valsOf k 4) w9 h9)
        have HX3 := hid (fun a l c va vc w9 h9 => evalEx_spec 4 te a l c va 4 vc (valsOf k 4) w9 h9)
        have H64 : ∀ j, j < 3 → I64 ([z0, z1, z0][j]?.getD 0) := by
          intro j hj
          obtain rfl | rfl | rfl : j = 0 ∨ j = 1 ∨ j = 2 := by omega
          · exact HAig.out.2.2.1
          · exact HAig.out.2.2.2.1
          · exact HAig.out.2.2.1
        have HX4 := hid (fun NV vc w9 h1 h2 h3 => evalAig_impl 4 ga gl gc (gf gs) (some ⟨lab, lao, none⟩) 3 lc [z0, z1, z0] NV 4 vc (valsOf k 4) w9 h1 HAig.out.2.1 h2 H64 h3)
        clear H64
        rw [v1, v2] at HX1 HX3
        rw [v3, v4] at HX2
        rw [hl4, v5, v6] at HX4
        obtain ⟨x, hx⟩ : ∃ b, evalT (valsOf k 4) 4 te = b := ⟨_, rfl⟩
        obtain ⟨y, hy⟩ : ∃ b, evalT (valsOf k 4) 4 tg = b := ⟨_, rfl⟩
        rw [hx] at HX1 HX3 HX4
        rw [hy] at HX2 HX4
        clear v1 v2 v3 v4 v5 v6 hx hy
        go_wp2_with fail
        refine (HVal.out _).mono ?_
        rintro e wv ⟨NV, vc, rfl, hv, hbv⟩
        have HV := hid hv
        have B1 : Hid (Below (U + 1) w10 wv) := hid (HB.out.trans (hbv.mono (by omega)))
        have s1 : U + 1 ≤ wv.heap.size := by have := hbv.size; omega
        clear hv hbv HVal
        obtain ⟨⟨⟨⟨x0, x1, x2⟩, ⟨y0, y1, y2⟩⟩, ⟨g0, g1⟩, ⟨u0, u1⟩⟩, r1, r2, r3, r4, r5, r6⟩ := HF.out wv B1.out
        have RE := hid r1
        clear r1 r2 r3 r4 r5 r6
        go_wp2_with fail
        refine (HX1.out a1 l1 c1 _ _ _ RE.out HV.out).mono ?_
        rintro e wx ⟨rfl, hbx⟩
        have HV2 := hid (HV.out.below hbx)
        have B2 : Hid (Below (U + 1) w10 wx) := hid (B1.out.trans (hbx.mono (by omega)))
        have s2 : U + 1 ≤ wx.heap.size := by have := hbx.size; omega
        clear hbx x0 x1 x2 y0 y1 y2 g0 g1 u0 u1 HV RE HX1
        obtain ⟨⟨⟨⟨x0, x1, x2⟩, ⟨y0, y1, y2⟩⟩, ⟨g0, g1⟩, ⟨u0, u1⟩⟩, r1, r2, r3, r4, r5, r6⟩ := HF.out wx B2.out
        have RE := hid r2
        clear r1 r2 r3 r4 r5 r6
        go_wp2_with fail
        refine (HX2.out a3 l3 c3 _ _ _ RE.out HV2.out).mono ?_
        rintro e wy ⟨rfl, hbx⟩
        have HV3 := hid (HV2.out.below hbx)
        have B3 : Hid (Below (U + 1) w10 wy) := hid (B2.out.trans (hbx.mono (by omega)))
        have s3 : U + 1 ≤ wy.heap.size := by have := hbx.size; omega
        clear hbx x0 x1 x2 y0 y1 y2 g0 g1 u0 u1 HV2 RE HX2
        obtain ⟨⟨⟨⟨x0, x1, x2⟩, ⟨y0, y1, y2⟩⟩, ⟨g0, g1⟩, ⟨u0, u1⟩⟩, r1, r2, r3, r4, r5, r6⟩ := HF.out wy B3.out
        have RGa := hid r3
        have RIa := hid r4
        clear r1 r2 r3 r4 r5 r6
        go_wp2_with fail
        refine (HX4.out NV vc _ RGa.out RIa.out HV3.out).mono ?_
        rintro e wz ⟨zv, rfl, hz, hbx⟩
        obtain ⟨za, zc, rfl, hzr⟩ := hz.form (show [x, y, x].length = 3 from rfl)
        have HV4 := hid (HV3.out.below hbx)
        have HZR := hid hzr
        have B4 : Hid (Below (U + 1) w10 wz) := hid (B3.out.trans (hbx.mono (by omega)))
        have s4 : U + 1 ≤ wz.heap.size := by have := hbx.size; omega
        clear hbx hz hzr x0 x1 x2 y0 y1 y2 g0 g1 u0 u1 HV3 RGa RIa HX4
        obtain ⟨⟨⟨⟨x0, x1, x2⟩, ⟨y0, y1, y2⟩⟩, ⟨g0, g1⟩, ⟨u0, u1⟩⟩, r1, r2, r3, r4, r5, r6⟩ := HF.out wz B4.out
        have RE := hid r1
        clear r1 r2 r3 r4 r5 r6
        go_wp2_with fail
        refine (HX3.out a1 l1 c1 _ _ _ RE.out HV4.out).mono ?_
        rintro e wq ⟨rfl, hbx⟩
        have HZ5 := hid (HZR.out.below hbx)
        have B5 : Hid (Below (U + 1) w10 wq) := hid (B4.out.trans (hbx.mono (by omega)))
        have s5 : U + 1 ≤ wq.heap.size := by have := hbx.size; omega
        clear hbx x0 x1 x2 y0 y1 y2 g0 g1 u0 u1 HV4 HZR RE HX3
        have hxx : (x != x) = false := by simp
        have V6 : Hid (Below wq.heap.size wq (wq.alloc (.cells #[.bool x, .bool y, .bool x] 4))) := hid (by repeat (first | exact Below.refl _ _ | assumption | refine Below.drew ?_ | refine Below.alloc ?_ (by first | exact Nat.le_refl _ | omega | (simp; done) | (simp; omega)) _ | refine Below.setCell ?_ (by first | exact Nat.le_refl _ | omega | (simp; done) | (simp; omega)) _))
        have R6 := hid (row3b wq x y)
        go_wp2_with fail
        refine (same.sameBools za _ 3 zc 3 [x, y, x] _ (HZ5.out.below V6.out) R6.out).mono ?_
        rintro e wl ⟨rfl, hbx⟩
        have B6 : Hid (Below (U + 1) w10 wl) := hid (B5.out.trans ((V6.out.trans (hbx.mono V6.out.size)).mono (by omega)))
        clear hbx V6 R6 HZ5
        go_wp2
        go_roundw
        case rel => exact ⟨k + 1, by omega, by go_num, B6.out⟩
        case measure => simp [intOf]; omega
      · obtain rfl : k = 16 := by omega
        go_wp2
        go_ret
        exact ⟨rfl, (HF.out _ HB.out).2.2.2.2.2.2⟩

theorem own : ownKnob Try.prog.godebug = none := by kernel_rfl
theorem laidOut : laidOutB Try.prog = true := by kernel_rfl

set_option maxRecDepth 100000 in
theorem lifted (os : Os) (started : os.Started) (H : Type) (enc : TypeId × Value → H) :
    ReturnsInHanded {} Try.checked os 3 .any (Rows.fnBuildsSpec.pre6 enc Try.prog Try.f3 Rows.fnBuildsRow.domain false) (Rows.fnBuildsSpec.post enc Try.prog Try.f3 false true false false) := by
  refine returnsInHanded_of_change (C := Try.checked) own started (by kernel_rfl) Try.func3
    (ChangeSpec.witness6 (enc := enc) (C := Try.checked) false ⟨#[], #[.slice none 0 0, .slice none 0 0], []⟩ 8 (by kernel_rfl) (by kernel_rfl) (by kernel_rfl) (by kernel_rfl)) ?_
  intro W base args ds gs before hval0 hW hcnd _
  have hval : ∀ (j : Nat) t v, Try.f3.params[j]? = some t → args[j]? = some v → Value.okWide Try.prog W .any base t v := hval0
  have hW' := hW
  obtain ⟨p, q, hA0, hV, rfl, hfz, hnd⟩ := hW
  have hA : DataW.TrodAll enc Try.prog W 0 (fun _ => true) true Try.f3.params.toList args.toList ds p := hA0
  rw [Try.params3] at hA hval
  obtain ⟨v0, vs0, d0, ds0, p0, q0, hargs, rfl, rfl, h0, r0⟩ := trodAll_cons hA
  obtain ⟨v1, vs1, d1, ds1, p1, q1, rfl, rfl, rfl, h1, r1⟩ := trodAll_cons r0
  obtain ⟨rfl, rfl, rfl⟩ := trodAll_nil r1
  obtain rfl : args = #[v0, v1] := by cases args; simp_all
  obtain ⟨rfl, rfl⟩ := trodVars_none hV
  have k0 := h0
  have lt0 : ∀ x ∈ p0, x.block < W.heap.size := by obtain ⟨m, hm⟩ := k0; exact DataW.trod_lt m _ _ _ hm
  have k1 := h1
  have lt1 : ∀ x ∈ p1, x.block < W.heap.size := by obtain ⟨m, hm⟩ := k1; exact DataW.trod_lt m _ _ _ hm
  obtain ⟨aA, la, cA, rfl⟩ := okWide_slice Try.underlying22 (hval 0 22 v0 rfl rfl)
  obtain ⟨aB, lb, cB, rfl⟩ := okWide_slice Try.underlying22 (hval 1 22 v1 rfl rfl)
  obtain ⟨hA1, hA2⟩ : source.Bytes W aA la ∧ la ≤ maxLen := by
    obtain ⟨fuel, hf⟩ := h0
    obtain ⟨a', l', c', e, hb, hl⟩ := bytes_of_trod Try.underlying22 Try.underlying5 (by kernel_rfl) (by simpa [Value.cells] using hf)
    cases e
    exact ⟨hb, hl⟩
  obtain ⟨hB1, hB2⟩ : source.Bytes W aB lb ∧ lb ≤ maxLen := by
    obtain ⟨fuel, hf⟩ := h1
    obtain ⟨a', l', c', e, hb, hl⟩ := bytes_of_trod Try.underlying22 Try.underlying5 (by kernel_rfl) (by simpa [Value.cells] using hf)
    cases e
    exact ⟨hb, hl⟩
  clear hA0 hval0
  refine (walk aA aB la cA lb cB W hA1 hB1 hA2 hB2).mono fun e W' ⟨he, bel⟩ => ?_
  subst he
  exact ⟨_, rfl, _, _, _, [], _, [], hW', trodAll_mk1 (shut_bool Try.underlying4 _), (trodAll_cons_mk (Below.trod laidOut (by kernel_rfl) (of_decide_eq_true (by kernel_rfl)) k0 bel lt0) (trodAll_cons_mk (Below.trod laidOut (by kernel_rfl) (of_decide_eq_true (by kernel_rfl)) k1 bel lt1) trodAll_mk0)), rfl, bel.frame _, fun h => by cases h⟩

theorem over : Rows.fnBuildsRow.holds Try.pinned (OpenSpec.ofChange Rows.fnBuildsSpec) :=
  OpenClaim.holds_of_wide 3 Try.f3 rfl rfl rfl rfl rfl rfl rfl ⟨rfl, rfl, rfl, rfl, rfl⟩ rfl rfl rfl rfl rfl (by kernel_rfl) Try.func3 (by kernel_rfl)
    (of_decide_eq_true (by kernel_rfl)) (by unfold Func.isWrapper; first | (rw [if_pos (by decide +kernel)]; kernel_rfl) | (rw [if_neg (by decide +kernel)]; exact ⟨rfl, rfl⟩))
    (fun os started H enc _ => lifted os started H enc)
end Go.Proofs.Ytgjfgkdmfahkaaa.fnBuilds
namespace Go.Proofs.Ytgjfgkdmfahkaaa
theorem fnBuilds_holds : Rows.FnBuildsSaid := fnBuilds.over
end Go.Proofs.Ytgjfgkdmfahkaaa
