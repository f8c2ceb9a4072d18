/- A drawn clause: whatever the bytes, a few literals of the variables, in memory of the call's own; conditions: lengths that fit. -/
import Derived.Test.YtiiigdcfnnjkcaaSource
import Derived.Test.YtiiigdcfnnjkcaaMark
namespace Go.Proofs.Ytiiigdcfnnjkcaa.clauseOf
open Go.RowKit Go.Deep base copy cnf own sorted inOrder mark source

theorem farRow {w w1 : World} {b len cap k M : Nat} {a : Option Addr} {row : Option Nat} (h : source.Src w b a len cap k) (hg : w.grownBy w1 row) (hr : ∀ g, row = some g → M ≤ g) (hM : b < M) : source.Src w1 b a len cap k := by
  obtain ⟨h1, ⟨n, s, p1, p2, p3, p4, hrow⟩, h3⟩ := h
  exact ⟨h1, ⟨n, s, p1, p2, p3, p4, hrow.of_block (hg.block b hrow.lt (fun e => by have := hr b e.symm; omega))⟩, fun i hi => by
    obtain ⟨bb, off, e, hne, x, hx, hc⟩ := h3 i hi
    refine ⟨bb, off, e, hne, x, hx, ?_⟩
    rw [World.cell?_of_block (a := ⟨bb, off + i, none⟩) (hg.block bb (World.block_lt_of_cell? _ _ hc) (fun e => by have := hr bb e.symm; omega))]
    exact hc⟩
/-- Only block b, and what is new, has turned. -/
theorem grown_own {w w1 w2 : World} {b : Nat} {row : Option Nat} (h : w.grownBy w1 (some b)) (hg : w1.grownBy w2 row) (hr : ∀ g, row = some g → w.heap.size ≤ g) : w.grownBy w2 (some b) :=
  ⟨hg.os.trans h.os, hg.tape.trans h.tape, hg.output.trans h.output, Nat.le_trans h.size hg.size, fun k hk hne => by
    rw [hg.block k (Nat.lt_of_lt_of_le hk h.size) (fun e => by have := hr k e.symm; omega), h.block k hk hne]⟩
theorem below_grown {w w1 : World} (h : Below w.heap.size w w1) : w.grownBy w1 none := ⟨h.os, h.tape, h.output, h.size, fun k hk _ => h.block k hk⟩
theorem own_far {B b : Nat} {w w1 : World} {v : Value} {zs : List Int} (h : OwnInts B w v zs) (hg : w.grownBy w1 (some b)) (hb : b < B) : OwnInts B w1 v zs :=
  own_grown h hg (fun g hgv e => by injection e with e; have := (own_lt h hgv).1; omega)

set_option maxHeartbeats 1600000 in
theorem clause_src (b : Nat) (a : Option Addr) (len cap k : Nat) (vars n : Int) (w : World) (h : source.Src w b a len cap k) (hbw : b < w.heap.size) (hk : k ≤ 524288) (hv : 1 ≤ vars) (hv' : vars ≤ 40) (hn0 : 0 ≤ n) (hn : n ≤ 16) :
    Calls Try.prog 42 #[.pointer (some ⟨b, 0, none⟩), .int .i64 vars, .int .i64 n] w fun e w' => ∃ x zs, e = .returned x ∧ OwnInts w.heap.size w' x zs ∧ (zs.length : Int) = n ∧ (∀ z ∈ zs, litB vars z = true) ∧ w.grownBy w' (some b) ∧ source.Src w' b a len cap (k + 32) := by
  obtain ⟨N, rfl⟩ := Int.eq_ofNat_of_zero_le hn0
  have HS := hid h
  clear h
  obtain ⟨i0, hi, hzz⟩ := Option.map_eq_some_iff.1 Try.info_int
  simp only [Prod.mk.injEq] at hzz
  obtain ⟨hz0, hz1, hz2⟩ := hzz
  have HI := hid hi
  have HZ0 := hid hz0
  have HZ1 := hid hz1
  have HZ2 := hid hz2
  clear hi hz0 hz1 hz2
  go_enter Try.func42, Try.ntmps42
  go_wp2
  go_loopw [8, 7] (fun i x wr => ∃ (m : Nat) (zs : List Int), m ≤ N ∧ i = .int .i64 m ∧ OwnInts w.heap.size wr x zs ∧ zs.length = m ∧ (∀ z ∈ zs, litB vars z = true) ∧ w.grownBy wr (some b) ∧ source.Src wr b a len cap (k + 2 * m)) (fun i _ _ => N - (intOf i).toNat)
  case atStart =>
    have hba : Below w.heap.size w (w.alloc (.cells #[] 3)) := (by repeat (first | exact Below.refl _ _ | assumption | refine Below.drew ?_ | refine Below.alloc ?_ (by first | exact Nat.le_refl _ | omega | (simp; done) | (simp; omega)) _ | refine Below.setCell ?_ (by first | exact Nat.le_refl _ | omega | (simp; done) | (simp; omega)) _))
    exact ⟨0, [], Nat.zero_le _, rfl, own_new w rfl (Nat.le_refl _), rfl, by simp, grown_own (grown_refl _ _) (below_grown hba) (fun g e => by cases e), HS.out.below hba⟩
  case round =>
    obtain ⟨m, zs, hm, rfl, hown, hzl, hzs, hgr, hsrc⟩ := hrel
    have HO := hid hown
    have HG := hid hgr
    have HSr := hid hsrc
    have HZs := hid hzs
    have HZl := hid hzl
    clear hown hgr hsrc hzs hzl
    have hv0 : 0 < vars := by omega
    by_cases hlt : m < N
    · have hlt' : (m : Int) < (N : Int) := by omega
      go_wp2_with fail
      refine (next_src b a len cap (k + 2 * m) vars _ HSr.out (by omega) hv (by omega)).mono ?_
      rintro e w1 ⟨r, rfl, r0, r1, hs1, hg1⟩
      have HS1 := hid hs1
      have HG1 := hid (grown_trans HG.out hg1)
      have HO1 := hid (own_far HO.out hg1 hbw)
      clear hs1 hg1
      go_wp2_with fail
      refine (chance_src b a len cap (k + 2 * m + 1) 2 _ HS1.out (by omega) (by omega) (by omega)).mono ?_
      rintro e w2 ⟨t, rfl, hs2, hg2⟩
      have HS2 := hid hs2
      have HG2 := hid (grown_trans HG1.out hg2)
      have HO2 := hid (own_far HO1.out hg2 hbw)
      have HSz := hid HG2.out.size
      clear hs2 hg2 HS1 HG1 HO1 HSr HG HO
      cases t
      · go_wp2_with (at_builtin; (refine wpList_append_own _ rfl _ _ 37 rfl w.heap.size 3 i0 (.int .i64 0) 1 8 Try.underlying37 HI.out HZ0.out HZ1.out HZ2.out rfl (by decide) _ _ _ rfl (World.ownsRow.alloc HO2.out _) ⟨w2.heap.size, 0, none⟩ 1 1 [.int .i64 (1 + r)] rfl rfl (cell_one_new _ _ _) (fun x hx => by simp at hx; subst hx; rfl) (by have := HZl.out; unfold maxLen; omega) (by have := HZl.out; omega) (by have := HSz.out; simp; omega) ?_); intro v' w3 hown' hgrow3 hnil3)
        have hrow : ∀ g, _ = some g → w.heap.size ≤ g := fun g e => (own_lt HO2.out e).1
        have hba : ∀ o, Below w2.heap.size w2 (w2.alloc o) := fun o => (Below.refl _ _).alloc (Nat.le_refl _) _
        have HG3 : Hid (w.grownBy w3 (some b)) := grown_own (grown_own HG2.out (below_grown (hba _)) (fun g e => by cases e)) hgrow3 hrow
        have HS3 : Hid (source.Src w3 b a len cap (k + 2 * (m + 1))) := farRow (HS2.out.below (hba _)) hgrow3 hrow hbw
        have HO3 : Hid (OwnInts w.heap.size w3 v' (zs ++ [(1 + r)])) := by
          show OwnInts _ _ _ _
          unfold OwnInts
          rw [List.length_append, List.map_append]
          exact hown'
        clear hown' hgrow3 hnil3 hrow hba
        go_wp2
        go_roundw
        case rel =>
          refine ⟨m + 1, zs ++ [(1 + r)], by omega, by go_num, HO3.out, by rw [List.length_append, HZl.out]; rfl, fun z hz => ?_, HG3.out, HS3.out⟩
          rcases List.mem_append.1 hz with h | h
          · exact HZs.out z h
          · rw [List.mem_singleton] at h
            subst h
            simp [litB]; omega
        case measure => simp [intOf]; omega
      · go_wp2_with (at_builtin; (refine wpList_append_own _ rfl _ _ 37 rfl w.heap.size 3 i0 (.int .i64 0) 1 8 Try.underlying37 HI.out HZ0.out HZ1.out HZ2.out rfl (by decide) _ _ _ rfl (World.ownsRow.alloc HO2.out _) ⟨w2.heap.size, 0, none⟩ 1 1 [.int .i64 (-(1 + r))] rfl rfl (cell_one_new _ _ _) (fun x hx => by simp at hx; subst hx; rfl) (by have := HZl.out; unfold maxLen; omega) (by have := HZl.out; omega) (by have := HSz.out; simp; omega) ?_); intro v' w3 hown' hgrow3 hnil3)
        have hrow : ∀ g, _ = some g → w.heap.size ≤ g := fun g e => (own_lt HO2.out e).1
        have hba : ∀ o, Below w2.heap.size w2 (w2.alloc o) := fun o => (Below.refl _ _).alloc (Nat.le_refl _) _
        have HG3 : Hid (w.grownBy w3 (some b)) := grown_own (grown_own HG2.out (below_grown (hba _)) (fun g e => by cases e)) hgrow3 hrow
        have HS3 : Hid (source.Src w3 b a len cap (k + 2 * (m + 1))) := farRow (HS2.out.below (hba _)) hgrow3 hrow hbw
        have HO3 : Hid (OwnInts w.heap.size w3 v' (zs ++ [(-(1 + r))])) := by
          show OwnInts _ _ _ _
          unfold OwnInts
          rw [List.length_append, List.map_append]
          exact hown'
        clear hown' hgrow3 hnil3 hrow hba
        go_wp2
        go_roundw
        case rel =>
          refine ⟨m + 1, zs ++ [(-(1 + r))], by omega, by go_num, HO3.out, by rw [List.length_append, HZl.out]; rfl, fun z hz => ?_, HG3.out, HS3.out⟩
          rcases List.mem_append.1 hz with h | h
          · exact HZs.out z h
          · rw [List.mem_singleton] at h
            subst h
            simp [litB]; omega
        case measure => simp [intOf]; omega
    · have e : m = N := by omega
      subst e
      go_wp2
      go_ret
      exact ⟨_, zs, rfl, HO.out, by rw [HZl.out], HZs.out, HG.out, HSr.out.mono (by omega)⟩
set_option maxHeartbeats 800000 in
theorem clauseOf_spec (a : Option Addr) (len cap : Nat) (vars : Int) (w : World) (hb : Bytes w a len) (hl : len ≤ 1048576) (hv : 1 < vars) (hv' : vars ≤ 40) :
    Calls Try.prog 14 #[.slice a len cap, .int .i64 vars] w fun e w' => ∃ x zs, e = .returned x ∧ OwnInts w.heap.size w' x zs ∧ zs.length ≤ 3 ∧ (∀ z ∈ zs, litB vars z = true) ∧ Below w.heap.size w w' := by
  have HB := hid hb
  clear hb
  go_enter Try.func14, Try.ntmps14
  go_wp2_with fail
  refine (source_spec a len cap _ HB.out hl).mono ?_
  rintro e w1 ⟨b, rfl, hbe, hbl, hs1, hb1⟩
  have HS1 := hid hs1
  have HB1 := hid hb1
  have HBe := hid (Nat.le_of_eq hbe.symm)
  clear hs1 hb1 hbe
  go_wp2_with fail
  refine (next_src b a len cap 0 4 _ HS1.out (by omega) (by omega) (by omega)).mono ?_
  rintro e w2 ⟨r, rfl, r0, r1, hs2, hg2⟩
  have HS2 := hid hs2
  have HB2 : Hid (Below w.heap.size w w2) := HB1.out.grown hg2 HB1.out.size (fun g e => by injection e with e; have := HBe.out; omega)
  have hbl2 : b < w2.heap.size := Nat.lt_of_lt_of_le hbl hg2.size
  clear hs2 hg2
  go_wp2_with fail
  refine (clause_src b a len cap 1 vars r _ HS2.out hbl2 (by omega) (by omega) hv' r0 (by omega)).mono ?_
  rintro e w3 ⟨x, zs, rfl, ho3, hz3, hl3, hg3, _⟩
  have HB3 : Hid (Below w.heap.size w w3) := HB2.out.grown hg3 HB2.out.size (fun g e => by injection e with e; have := HBe.out; omega)
  have HO3 := hid (ho3.mono HB2.out.size)
  have HL3 := hid hl3
  have HZ3 : Hid (zs.length ≤ 3) := by show _ ≤ _; omega
  clear ho3 hl3 hg3 hz3
  go_wp2
  go_ret
  exact ⟨x, zs, rfl, HO3.out, HZ3.out, HL3.out, HB3.out⟩
end Go.Proofs.Ytiiigdcfnnjkcaa.clauseOf
