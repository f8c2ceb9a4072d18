/- The expression that bytes draw: right, new, of depth 4, its variables below 4; conditions: lengths that fit. -/
import Derived.Test.YtaileckcflnbdaaExDraw
import Derived.Test.YtaileckcflnbdaaBuildFactsJ
namespace Go.Proofs.Ytaileckcflnbdaa.exOf
open Go.RowKit Go.Deep Go.Sort Go base trees treeEval intsOwn source exDraw buildTree buildList buildFacts
set_option linter.unusedVariables false

set_option maxHeartbeats 1600000 in
theorem exOf_spec (a : Option Addr) (len cap : Nat) (w : World) (hb : source.Bytes w a len) (hl : len ≤ 1048576) :
    Calls Try.prog 4 #[.slice a len cap] w fun e w' => ∃ t a' l c, e = .returned (.agg #[.int .i64 (kd t), .int .i64 (nn t), .slice a' l c]) ∧ Rd (fun x => w.heap.size ≤ x) 1048576 w' 4 t a' l ∧ Nice t ∧ Below w.heap.size w w' := by
  have HBy := hid hb
  clear hb
  have hask : asks 4 = 484 := rfl
  have HB0 : Hid (Below w.heap.size w (w.alloc (.cells #[.int .i64 0, .int .i64 0, .slice none 0 0] 25))) := hid (by repeat (first | exact Below.refl _ _ | assumption | refine Below.drew ?_ | refine Below.alloc ?_ (by first | exact Nat.le_refl _ | omega | (simp; done) | (simp; omega)) _ | refine Below.setCell ?_ (by first | exact Nat.le_refl _ | omega | (simp; done) | (simp; omega)) _))
  go_enter Try.func4, Try.ntmps4
  go_wp2_with fail
  refine (source_spec a len cap _ (fun i hi => by
    obtain ⟨bb, off, e, x, hx, hc⟩ := HBy.out i hi
    exact ⟨bb, off, e, x, hx, keep HB0.out hc⟩) hl).mono ?_
  rintro e w1 ⟨b, rfl, hbe, hbs, hs1, hb1⟩
  have HS1 := hid hs1
  have hbb : w.heap.size + 1 ≤ b := by rw [hbe]; simp
  have HB1 := hid hb1
  have hz1 := hb1.size
  rw [World.size_alloc] at hz1
  clear hs1 hb1 hbe
  go_wp2_with fail
  refine (next_src b a len cap 0 4 _ HS1.out (by omega) (by omega) (by omega)).mono ?_
  rintro e w2 ⟨r, rfl, hr0, hr1, hs2, hg2⟩
  have HS2 := hid hs2
  have HG2 := hid hg2
  obtain ⟨ρ, rfl⟩ : ∃ ρ : Nat, r = (ρ : Int) := ⟨r.toNat, by omega⟩
  have hz2 := hg2.size
  clear hs2 hg2
  have HEx := hid (fun w8 h8 => ex_src 4 (1 + ρ) b a len cap (0 + 1) w8 (by omega) h8 (by omega))
  go_wp2_with fail
  have hcast : (1 : Int) + (ρ : Int) = ((1 + ρ : Nat) : Int) := by omega
  (try rw [hcast])
  refine (HEx.out _ HS2.out).mono ?_
  rintro e w3 ⟨t, a3, l3, c3, rfl, hrd, hfi, hs3, hg3⟩
  have hz3 := hg3.size
  have hg13 : w1.grownBy w3 (some b) := grown_trans HG2.out hg3
  have HBl : Hid (Below w.heap.size w w3) := hid ⟨hg13.os.trans (HB1.out.os.trans HB0.out.os), hg13.tape.trans (HB1.out.tape.trans HB0.out.tape), hg13.output.trans (HB1.out.output.trans HB0.out.output), by omega, fun j hj => (hg13.block j (by omega) (fun e => by injection e with e; omega)).trans ((HB1.out.block j (by simp; omega)).trans (HB0.out.block j hj))⟩
  have hR := (hg13.block w.heap.size (by omega) (fun e => by injection e with e; omega)).trans (HB1.out.block w.heap.size (by simp))
  have hrow := World.rowIs.of_block (World.rowIs_alloc w #[.int .i64 0, .int .i64 0, .slice none 0 0] 25 (fun i => if i = 0 then .int .i64 0 else if i = 1 then .int .i64 0 else .slice none 0 0) (fun i hi => by
    match i, hi with
    | 0, _ => rfl
    | 1, _ => rfl
    | 2, _ => rfl
    | i + 3, hi => exact absurd hi (by simp))) hR
  have q0 : w3.cell? ⟨w.heap.size, 0, none⟩ = some (.int .i64 0) := hrow.cell (i := 0) (by simp)
  have q1 : w3.cell? ⟨w.heap.size, 1, none⟩ = some (.int .i64 0) := hrow.cell (i := 1) (by simp)
  have q2 : w3.cell? ⟨w.heap.size, 2, none⟩ = some (.slice none 0 0) := hrow.cell (i := 2) (by simp)
  have z0 := hrow.frozen 0
  have z1 := hrow.frozen 1
  have z2 := hrow.frozen 2
  have HRd := hid hrd
  have HFi := hid hfi
  have HNice : Hid (Nice t) := hid ⟨hfi.1, hfi.2, ok_of 4 t a3 l3 hrd hfi.1 hfi.2⟩
  clear hrd hfi hs3 hg3 hg13 hrow hR hcast hask
  go_wp2
  refine bodyPost_ret (v := .agg #[.int .i64 (kd t), .int .i64 (nn t), .slice a3 l3 c3]) (by first | (rw [results_cell rfl]; go_simp; done) | (simp [results, Try.results4]; go_simp; done)) rfl ?_
  refine ⟨t, a3, l3, c3, rfl, ?_, HNice.out, ((HBl.out.setCell (Nat.le_refl _) _).setCell (Nat.le_refl _) _).setCell (Nat.le_refl _) _⟩
  refine HRd.out.kept fun q o u hq hu => ⟨?_, by omega⟩
  rw [World.cell?_setCell_other _ _ _ _ (by simp <;> omega), World.cell?_setCell_other _ _ _ _ (by simp <;> omega), World.cell?_setCell_other _ _ _ _ (by simp <;> omega)]
  exact hu
end Go.Proofs.Ytaileckcflnbdaa.exOf
