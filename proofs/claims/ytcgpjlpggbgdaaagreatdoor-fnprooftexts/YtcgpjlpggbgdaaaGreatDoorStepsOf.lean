/- StepsOf of the specification; conditions: a right formula of few clauses, bytes that fit. -/
import Derived.Test.YtcgpjlpggbgdaaaGreatDoorStepsDraw
import Derived.Deep.RegionHeld3
namespace Go.Proofs.YtcgpjlpggbgdaaaGreatDoor.stepsOf
open Go.RowKit Go.Deep Go base copy rowsOwn source refFace stepsDraw
open readSpecP (Pt pcs OwnSteps strip)
set_option linter.unusedVariables false

set_option maxHeartbeats 1600000 in
set_option maxRecDepth 8000 in
theorem stepsOf_spec (a : Option Addr) (len cap B nv zn zc : Nat) (zp : Option Addr) (psZ : List (Value × List Int)) (w : World) (h : Bytes w a len) (hlen : len ≤ 1048576) (hr : OwnRows B w (.slice zp zn zc) psZ) (hcnf : cnf.cnfB (nv : Int) (psZ.map (·.2)) = true) (hnv : 1 ≤ nv) (hB : B ≤ w.heap.size) (hzn : zn ≤ 16) :
    Calls Tryz.prog 4 #[.slice a len cap, .agg #[.int .i64 (nv : Int), .slice zp zn zc]] w fun e' w' => ∃ g c ps, e' = .returned (.slice (some ⟨g, 0, none⟩) (List.length ps) c) ∧ OwnSteps B w' (.slice (some ⟨g, 0, none⟩) (List.length ps) c) ps ∧ Right nv ps ∧ ps.length ≤ 202 ∧ Below w.heap.size w w' := by
  have HS : Hid (∀ W : World, Below w.heap.size w W → Calls Tryz.prog 10 #[.slice a len cap] W fun e w' => ∃ b, e = .returned (.pointer (some ⟨b, 0, none⟩)) ∧ b = W.heap.size ∧ b < w'.heap.size ∧ Src w' b a len cap 0 ∧ Below W.heap.size W w') := hid (fun W hb => source_spec a len cap W (fun i hi => by obtain ⟨bb, off, e, x, hx, hc⟩ := h i hi; exact ⟨bb, off, e, x, hx, keep hb hc⟩) hlen)
  have HE : Hid (∀ (W : World) (b : Nat), Below w.heap.size w W → Src W b a len cap 0 → b < W.heap.size → Calls Tryz.prog 11 #[.pointer (some ⟨b, 0, none⟩), .agg #[.int .i64 (nv : Int), .slice zp zn zc]] W fun e' w' => ∃ g c ps, e' = .returned (.slice (some ⟨g, 0, none⟩) (List.length ps) c) ∧ OwnSteps B w' (.slice (some ⟨g, 0, none⟩) (List.length ps) c) ps ∧ Right nv ps ∧ ps.length ≤ 202 ∧ W.grownBy w' (some b)) := hid (fun W b hb hs hl => steps_src b a len cap B nv zn zc zp psZ W hs hl (hr.below hb) hcnf hnv (Nat.le_trans hB hb.size) hzn)
  clear h hr hcnf
  go_enter Tryz.func4, Tryz.ntmps4
  go_wp2_with fail
  obtain ⟨W1, hW1⟩ : ∃ W1, w.alloc (.cells #[.int .i64 (nv : Int), .slice zp zn zc] 27) = W1 := ⟨_, rfl⟩
  have HBx : Hid (Below w.heap.size w W1) := hid (by rw [← hW1]; exact (by repeat (first | exact Below.refl _ _ | assumption | refine Below.drew ?_ | refine Below.alloc ?_ (by first | exact Nat.le_refl _ | omega | (simp; done) | (simp; omega)) _ | refine Below.setCell ?_ (by first | exact Nat.le_refl _ | omega | (simp; done) | (simp; omega)) _)))
  have HSz : Hid (W1.heap.size = w.heap.size + 1) := hid (by rw [← hW1]; simp)
  have HKc : Hid (∀ w8 : World, w8.heap[w.heap.size]? = W1.heap[w.heap.size]? → w8.cell? ⟨w.heap.size, 0, none⟩ = some (.int .i64 (nv : Int)) ∧ w8.cell? ⟨w.heap.size, 1, none⟩ = some (.slice zp zn zc)) := hid (fun w8 hb => by
    have h : ∀ o, w8.cell? ⟨w.heap.size, o, none⟩ = W1.cell? ⟨w.heap.size, o, none⟩ := fun o => World.cell?_of_block hb
    rw [h, h, ← hW1]
    exact ⟨by simp [go_sem], by simp [go_sem]⟩)
  rw [hW1]
  clear hW1
  obtain ⟨q0, q1⟩ := HKc.out W1 rfl
  have hk0 : W1.drew.heap[w.heap.size]? = W1.heap[w.heap.size]? := rfl
  go_region_with (first
      | (go_at_call 10; refine (HS.out _ HBx.out.drew).mono ?_; rintro e' w2 ⟨b, rfl, hbe, hbl, hsrc, hb1⟩; have HBe := hid hbe; clear hbe; have hk1 : w2.heap[w.heap.size]? = W1.heap[w.heap.size]? := hb1.block _ (by have := HSz.out; show _ < W1.heap.size; omega); obtain ⟨x0, x1⟩ := HKc.out w2 hk1; have HB12 : Hid (Below w.heap.size w w2) := hid (HBx.out.trans ((((Below.refl _ W1).drew).trans hb1).mono HBx.out.size)))
      | (go_at_call 11; refine (HE.out _ b HB12.out hsrc hbl).mono ?_; rintro e' w3 ⟨g3, c3, ps3, rfl, hown, hri, hfe, hg⟩))
  all_goals
    have hbw : w.heap.size ≤ b := by have := HBe.out; have := HSz.out; have e9 : W1.drew.heap.size = W1.heap.size := rfl; omega
    have HOw := hid hown
    have HRi := hid hri
    have HB2 : Hid (Below w.heap.size w w3) := hid (HB12.out.grown hg HB12.out.size (fun k hk => by injection hk with hk; omega))
    clear hown hri hg hb1 hsrc hk1
    go_wp2
    go_ret
    exact ⟨g3, c3, ps3, rfl, HOw.out, HRi.out, hfe, HB2.out⟩
end Go.Proofs.YtcgpjlpggbgdaaaGreatDoor.stepsOf
