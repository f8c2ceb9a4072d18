/- A drawn clause (ClauseOf), without what sorts; conditions: at most 40 variables. -/
import Derived.Test.YtkboijdcjechdaaDoorCnfDraw
namespace Go.Proofs.YtkboijdcjechdaaDoor.clauseOfI
open Go.RowKit Go.Deep base copy cnf rowsOwn source cnfDraw
theorem clauseOf_spec (a : Option Addr) (len cap : Nat) (vars : Int) (w : World) (hb : Bytes w a len) (hl : len ≤ 1048576) (hv : 1 ≤ vars) (hv' : vars ≤ 40) :
    Calls Tryd.prog 5 #[.slice a len cap, .int .i64 vars] w fun e w' => ∃ x zs, e = .returned x ∧ OwnInts w.heap.size w' x zs ∧ zs.length ≤ 3 ∧ (∀ z ∈ zs, litB vars z = true) ∧ Below w.heap.size w w' := by
  have HB := hid hb
  clear hb
  go_enter Tryd.func5, Tryd.ntmps5
  go_wp2_with fail
  refine (source_spec a len cap _ HB.out hl).mono ?_
  rintro e w1 ⟨b, rfl, hbe, hbl, hs1, hb1⟩
  have HS1 := hid hs1
  have HB1 := hid hb1
  have HBe := hid (Nat.le_of_eq hbe.symm)
  clear hs1 hb1 hbe
  go_wp2_with fail
  refine (next_src b a len cap 0 4 _ HS1.out (by omega) (by omega) (by omega)).mono ?_
  rintro e w2 ⟨r, rfl, r0, r1, hs2, hg2⟩
  have HS2 := hid hs2
  have HB2 : Hid (Below w.heap.size w w2) := HB1.out.grown hg2 HB1.out.size (fun g e => by injection e with e; have := HBe.out; omega)
  have hbl2 : b < w2.heap.size := Nat.lt_of_lt_of_le hbl hg2.size
  clear hs2 hg2
  go_wp2_with fail
  refine (clause_src b a len cap 1 vars r _ HS2.out hbl2 (by omega) (by omega) hv' r0 (by omega)).mono ?_
  rintro e w3 ⟨x, zs, rfl, ho3, hz3, hl3, hg3, _⟩
  have HB3 : Hid (Below w.heap.size w w3) := HB2.out.grown hg3 HB2.out.size (fun g e => by injection e with e; have := HBe.out; omega)
  have HO3 := hid (ho3.mono HB2.out.size)
  have HL3 := hid hl3
  have HZ3 : Hid (zs.length ≤ 3) := by show _ ≤ _; omega
  clear ho3 hl3 hg3 hz3
  go_wp2
  go_ret
  exact ⟨x, zs, rfl, HO3.out, HZ3.out, HL3.out, HB3.out⟩
end Go.Proofs.YtkboijdcjechdaaDoor.clauseOfI
