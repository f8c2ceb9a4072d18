/- The specification's source of choices: a number is told out of a code's bytes; whatever the bytes, it is in its bounds, and only the source's own block is written; conditions: lengths that fit. -/
import Derived.Test.YtffacjebnbplaaaGreatDoorIntsOwn
import Derived.BigRegion
namespace Go.Proofs.YtffacjebnbplaaaGreatDoor.source
open Go.RowKit Go.Deep Go.Sort base intsOwn

/-- A slice of bytes that reads. -/
def Bytes (w : World) (a : Option Addr) (len : Nat) : Prop := ∀ i, i < len → ∃ bb off, a = some ⟨bb, off, none⟩ ∧ ∃ x : Nat, x < 256 ∧ w.cell? ⟨bb, off + i, none⟩ = some (.int .u8 x)
/-- A source in block b: its code, and how often at most it has been asked. -/
structure Src (w : World) (b : Nat) (a : Option Addr) (len cap k : Nat) : Prop where
  long : len ≤ 1048576
  cells : ∃ n s : Int, 0 ≤ n ∧ n ≤ k ∧ 0 ≤ s ∧ s < 2147483648 ∧ w.rowIs b 57 3 (fun i => if i = 0 then .slice a len cap else if i = 1 then .int .i64 n else .int .i64 s)
  bytes : ∀ i, i < len → ∃ bb off, a = some ⟨bb, off, none⟩ ∧ bb < b ∧ ∃ x : Nat, x < 256 ∧ w.cell? ⟨bb, off + i, none⟩ = some (.int .u8 x)
theorem Src.below {w w1 : World} {b len cap k : Nat} {a : Option Addr} (h : Src w b a len cap k) (hb : Below w.heap.size w w1) : Src w1 b a len cap k := by
  obtain ⟨h1, ⟨n, s, p1, p2, p3, p4, hr⟩, h3⟩ := h
  exact ⟨h1, ⟨n, s, p1, p2, p3, p4, hr.of_block (hb.block _ hr.lt)⟩, fun i hi => by
    obtain ⟨bb, off, e, hne, x, hx, hc⟩ := h3 i hi
    exact ⟨bb, off, e, hne, x, hx, keep hb hc⟩⟩
theorem Src.mono {w : World} {b len cap k k' : Nat} {a : Option Addr} (h : Src w b a len cap k) (hk : k ≤ k') : Src w b a len cap k' := by
  obtain ⟨h1, ⟨n, s, p1, p2, p3, p4, hr⟩, h3⟩ := h
  exact ⟨h1, ⟨n, s, p1, by omega, p3, p4, hr⟩, h3⟩
theorem rem_range (x m : Int) (h : 0 ≤ x) (hm : 0 < m) : 0 ≤ x.tmod m ∧ x.tmod m < m := by
  rw [Int.tmod_eq_emod_of_nonneg h]
  exact ⟨Int.emod_nonneg _ (by omega), Int.emod_lt_of_pos _ hm⟩
theorem row_facts {w : World} {b : Nat} {x y z : Value} (h : w.rowIs b 57 3 (fun i => if i = 0 then x else if i = 1 then y else z)) :
    w.cell? ⟨b, 0, none⟩ = some x ∧ w.cell? ⟨b, 1, none⟩ = some y ∧ w.cell? ⟨b, 2, none⟩ = some z ∧ w.frozen? ⟨b, 1, none⟩ = false ∧ w.frozen? ⟨b, 2, none⟩ = false :=
  ⟨by simpa using h.cell (i := 0) (by omega), by simpa using h.cell (i := 1) (by omega), by simpa using h.cell (i := 2) (by omega), h.frozen 1, h.frozen 2⟩
theorem row_set1 {w : World} {b : Nat} {x y z : Value} (h : w.rowIs b 57 3 (fun i => if i = 0 then x else if i = 1 then y else z)) (v : Value) : (w.setCell ⟨b, 1, none⟩ v).rowIs b 57 3 (fun i => if i = 0 then x else if i = 1 then v else z) :=
  (h.set 1 v).congr (fun i hi => by rcases (show i = 0 ∨ i = 1 ∨ i = 2 by omega) with rfl | rfl | rfl <;> simp)
theorem row_set2 {w : World} {b : Nat} {x y z : Value} (h : w.rowIs b 57 3 (fun i => if i = 0 then x else if i = 1 then y else z)) (v : Value) : (w.setCell ⟨b, 2, none⟩ v).rowIs b 57 3 (fun i => if i = 0 then x else if i = 1 then y else v) :=
  (h.set 2 v).congr (fun i hi => by rcases (show i = 0 ∨ i = 1 ∨ i = 2 by omega) with rfl | rfl | rfl <;> simp)
theorem grown_drewN {w w1 : World} {row : Option Nat} (h : w.grownBy w1 row) (n : Nat) : w.grownBy (w1.drewN n) row := ⟨h.os, h.tape, h.output, h.size, h.block⟩
theorem far {w w1 : World} {b bb o : Nat} {v : Value} (h : w.grownBy w1 (some b)) (hne : bb < b) (hc : w.cell? ⟨bb, o, none⟩ = some v) : w1.cell? ⟨bb, o, none⟩ = some v := by
  rw [World.cell?_of_block (a := ⟨bb, o, none⟩) (h.block bb (World.block_lt_of_cell? _ _ hc) (fun e => Nat.ne_of_lt hne (by injection e)))]
  exact hc

set_option maxHeartbeats 1600000 in
theorem byte_src (b : Nat) (a : Option Addr) (len cap k : Nat) (w : World) (h : Src w b a len cap k) (hk : k ≤ 1048576) :
    Calls Tryz.prog 56 #[.pointer (some ⟨b, 0, none⟩)] w fun e w' => ∃ r : Int, e = .returned (.int .i64 r) ∧ 0 ≤ r ∧ r < 256 ∧ Src w' b a len cap (k + 1) ∧ w.grownBy w' (some b) := by
  obtain ⟨hlong, ⟨n, s, p1, p2, p3, p4, hr⟩, hbytes⟩ := h
  obtain ⟨c0, c1, c2, f1, f2⟩ := row_facts hr
  have HR1 := hid (row_set1 hr (.int .i64 (n + 1)))
  have HBy := hid hbytes
  have HG1 : Hid (w.grownBy (w.setCell ⟨b, 1, none⟩ (.int .i64 (n + 1))) (some b)) := grown_set (grown_refl _ _)
  clear hbytes hr
  go_enter Tryz.func56, Tryz.ntmps56
  go_wp2
  generalize w.setCell ⟨b, 1, none⟩ (.int .i64 (n + 1)) = W1 at HR1 HG1 ⊢
  obtain ⟨d0, d1, d2, g1, g2⟩ := row_facts HR1.out
  clear c0 c1 c2 f1 f2
  obtain ⟨m, rfl⟩ := Int.eq_ofNat_of_zero_le p1
  by_cases hle : (m : Int) + 1 ≤ (len : Int)
  · obtain ⟨bb, off, rfl, hne, x, hx, hc⟩ := HBy.out m (by omega)
    have hcx := far HG1.out hne hc
    clear hc
    go_quiet (fail)
    have e0 : (W1.drewN nq).cell? ⟨b, 0, none⟩ = some (.slice (some ⟨bb, off, none⟩) len cap) := d0
    have e1 : (W1.drewN nq).cell? ⟨b, 1, none⟩ = some (.int .i64 ((m : Int) + 1)) := d1
    have e2 : (W1.drewN nq).cell? ⟨b, 2, none⟩ = some (.int .i64 s) := d2
    have e3 : (W1.drewN nq).cell? ⟨bb, off + m, none⟩ = some (.int .u8 x) := hcx
    have e4 : (W1.drewN nq).frozen? ⟨b, 2, none⟩ = false := g2
    have HR2 : Hid ((W1.drewN nq).rowIs b 57 3 (fun i => if i = 0 then .slice (some ⟨bb, off, none⟩) len cap else if i = 1 then .int .i64 ((m : Int) + 1) else .int .i64 s)) := HR1.out
    have HG2 := hid (grown_drewN HG1.out nq)
    clear d0 d1 d2 g1 g2 hcx HR1 HG1
    generalize W1.drewN nq = W2 at *
    have hrem := rem_range (s * 31 + x + 7) 2147483648 (by omega) (by omega)
    go_wp2
    go_region
    have hs2 : 0 ≤ (s * 31 + x + 7) % 2147483648 ∧ (s * 31 + x + 7) % 2147483648 < 2147483648 := ⟨Int.emod_nonneg _ (by omega), Int.emod_lt_of_pos _ (by omega)⟩
    generalize (s * 31 + x + 7) % 2147483648 = s2 at *
    have HR3 : Hid ((W2.setCell ⟨b, 2, none⟩ (.int .i64 s2)).drew.rowIs b 57 3 (fun i => if i = 0 then .slice (some ⟨bb, off, none⟩) len cap else if i = 1 then .int .i64 ((m : Int) + 1) else .int .i64 s2)) := row_set2 HR2.out _
    have HG3 : Hid (w.grownBy (W2.setCell ⟨b, 2, none⟩ (.int .i64 s2)).drew (some b)) := grown_drewN (grown_set HG2.out) 1
    have e3' : (W2.setCell ⟨b, 2, none⟩ (.int .i64 s2)).drew.cell? ⟨bb, off + m, none⟩ = some (.int .u8 x) := far (w := W2) (b := b) (grown_drewN (grown_set (grown_refl _ _)) 1) hne e3
    clear e0 e1 e2 e3 e4 HR2 HG2
    generalize (W2.setCell ⟨b, 2, none⟩ (.int .i64 s2)).drew = W3 at *
    obtain ⟨e0, e1, e2, _, _⟩ := row_facts HR3.out
    go_wp2
    go_quiet (fail)
    go_wp2
    go_ret
    refine ⟨x, rfl, by omega, by omega, ⟨hlong, ⟨(m : Int) + 1, s2, by omega, by omega, hs2.1, hs2.2, HR3.out⟩, fun i hi => ?_⟩, grown_drewN HG3.out _⟩
    obtain ⟨bb', off', e, hne', x', hx', hc'⟩ := HBy.out i hi
    exact ⟨bb', off', e, hne', x', hx', far (grown_drewN HG3.out _) hne' hc'⟩
  · have HRest : Hid (∀ i, i < len → ∃ bb off, a = some ⟨bb, off, none⟩ ∧ bb < b ∧ ∃ x : Nat, x < 256 ∧ W1.cell? ⟨bb, off + i, none⟩ = some (.int .u8 x)) := fun i hi => by
      obtain ⟨bb', off', e, hne', x', hx', hc'⟩ := HBy.out i hi
      exact ⟨bb', off', e, hne', x', hx', far HG1.out hne' hc'⟩
    go_quiet (fail)
    have e1 : (W1.drewN nq).cell? ⟨b, 1, none⟩ = some (.int .i64 ((m : Int) + 1)) := d1
    have e2 : (W1.drewN nq).cell? ⟨b, 2, none⟩ = some (.int .i64 s) := d2
    have e4 : (W1.drewN nq).frozen? ⟨b, 2, none⟩ = false := g2
    have HR2 : Hid ((W1.drewN nq).rowIs b 57 3 (fun i => if i = 0 then .slice a len cap else if i = 1 then .int .i64 ((m : Int) + 1) else .int .i64 s)) := HR1.out
    have HG2 := hid (grown_drewN HG1.out nq)
    have HRest2 : Hid (∀ i, i < len → ∃ bb off, a = some ⟨bb, off, none⟩ ∧ bb < b ∧ ∃ x : Nat, x < 256 ∧ (W1.drewN nq).cell? ⟨bb, off + i, none⟩ = some (.int .u8 x)) := HRest.out
    clear d0 d1 d2 g1 g2 HR1 HG1 HBy HRest
    generalize W1.drewN nq = W2 at *
    by_cases h3 : 3000 < (m : Int) + 1
    · go_wp2
      go_ret
      exact ⟨0, rfl, by omega, by omega, ⟨hlong, ⟨(m : Int) + 1, s, by omega, by omega, p3, p4, HR2.out⟩, HRest2.out⟩, HG2.out⟩
    · have hs2 : 0 ≤ (s * 1103515245 + 12345) % 2147483648 ∧ (s * 1103515245 + 12345) % 2147483648 < 2147483648 := ⟨Int.emod_nonneg _ (by omega), Int.emod_lt_of_pos _ (by omega)⟩
      have HR3 := hid (row_set2 HR2.out (.int .i64 ((s * 1103515245 + 12345) % 2147483648)))
      obtain ⟨_, _, t2, _, _⟩ := row_facts HR3.out
      have HS2 := hid hs2
      clear hs2
      go_wp2
      go_ret
      refine ⟨_, rfl, Int.emod_nonneg _ (by omega), Int.emod_lt_of_pos _ (by omega), ⟨hlong, ⟨(m : Int) + 1, _, by omega, by omega, HS2.out.1, HS2.out.2, HR3.out⟩, fun i hi => ?_⟩, grown_set HG2.out⟩
      obtain ⟨bb', off', e, hne', x', hx', hc'⟩ := HRest2.out i hi
      exact ⟨bb', off', e, hne', x', hx', far (grown_set (grown_refl _ _)) hne' hc'⟩

set_option maxHeartbeats 800000 in
theorem next_src (b : Nat) (a : Option Addr) (len cap k : Nat) (n : Int) (w : World) (h : Src w b a len cap k) (hk : k ≤ 1048576) (hn : 1 ≤ n) (hn' : n ≤ 256) :
    Calls Tryz.prog 24 #[.pointer (some ⟨b, 0, none⟩), .int .i64 n] w fun e w' => ∃ r : Int, e = .returned (.int .i64 r) ∧ 0 ≤ r ∧ r < n ∧ Src w' b a len cap (k + 1) ∧ w.grownBy w' (some b) := by
  have HS := hid h
  clear h
  by_cases h1n : n = 1
  · subst h1n
    go_enter Tryz.func24, Tryz.ntmps24
    go_wp2
    go_ret
    exact ⟨0, rfl, by omega, by omega, HS.out.mono (by omega), grown_refl _ _⟩
  have hgt : 1 < n := by omega
  go_enter Tryz.func24, Tryz.ntmps24
  go_wp2_with fail
  refine (byte_src b a len cap k _ HS.out hk).mono ?_
  rintro e w1 ⟨r, rfl, h0, h1, hs1, hg1⟩
  have HS1 := hid hs1
  have HG1 := hid hg1
  clear hs1 hg1
  have hr := rem_range r n h0 (by omega)
  have HRm := hid hr
  clear hr
  go_wp2
  go_ret
  exact ⟨r % n, rfl, Int.emod_nonneg _ (by omega), Int.emod_lt_of_pos _ (by omega), HS1.out, HG1.out⟩

set_option maxHeartbeats 800000 in
theorem chance_src (b : Nat) (a : Option Addr) (len cap k : Nat) (n : Int) (w : World) (h : Src w b a len cap k) (hk : k ≤ 1048576) (hn : 1 < n) (hn' : n ≤ 256) :
    Calls Tryz.prog 27 #[.pointer (some ⟨b, 0, none⟩), .int .i64 n] w fun e w' => ∃ t : Bool, e = .returned (.bool t) ∧ Src w' b a len cap (k + 1) ∧ w.grownBy w' (some b) := by
  have HS := hid h
  clear h
  go_enter Tryz.func27, Tryz.ntmps27
  go_wp2_with fail
  refine (next_src b a len cap k n _ HS.out hk (by omega) hn').mono ?_
  rintro e w1 ⟨r, rfl, h0, h1, hs1, hg1⟩
  have HS1 := hid hs1
  have HG1 := hid hg1
  clear hs1 hg1
  go_wp2
  go_ret
  exact ⟨_, rfl, HS1.out, HG1.out⟩

set_option maxHeartbeats 800000 in
theorem source_spec (a : Option Addr) (len cap : Nat) (w : World) (hb : Bytes w a len) (hl : len ≤ 1048576) :
    Calls Tryz.prog 9 #[.slice a len cap] w fun e w' => ∃ b, e = .returned (.pointer (some ⟨b, 0, none⟩)) ∧ b = w.heap.size ∧ b < w'.heap.size ∧ Src w' b a len cap 0 ∧ Below w.heap.size w w' := by
  have HB := hid hb
  clear hb
  go_enter Tryz.func9, Tryz.ntmps9
  go_wp2
  go_ret
  refine ⟨w.heap.size, rfl, rfl, by simp, ⟨hl, ⟨0, (len : Int) % 1000, by omega, by omega, Int.emod_nonneg _ (by omega), ?_, ?_⟩, fun i hi => ?_⟩, (by repeat (first | exact Below.refl _ _ | assumption | refine Below.drew ?_ | refine Below.alloc ?_ (by first | exact Nat.le_refl _ | omega | (simp; done) | (simp; omega)) _ | refine Below.setCell ?_ (by first | exact Nat.le_refl _ | omega | (simp; done) | (simp; omega)) _))⟩
  · have := Int.emod_lt_of_pos (len : Int) (show (0 : Int) < 1000 by omega)
    omega
  · exact World.rowIs_alloc w #[.slice a len cap, .int .i64 0, .int .i64 ((len : Int) % 1000)] _ _ (fun i hi => by
      have h3 : i < 3 := hi
      rcases (show i = 0 ∨ i = 1 ∨ i = 2 by omega) with rfl | rfl | rfl <;> rfl)
  · obtain ⟨bb, off, e, x, hx, hc⟩ := HB.out i hi
    exact ⟨bb, off, e, World.block_lt_of_cell? _ _ hc, x, hx, keep (by repeat (first | exact Below.refl _ _ | assumption | refine Below.drew ?_ | refine Below.alloc ?_ (by first | exact Nat.le_refl _ | omega | (simp; done) | (simp; omega)) _ | refine Below.setCell ?_ (by first | exact Nat.le_refl _ | omega | (simp; done) | (simp; omega)) _)) hc⟩
end Go.Proofs.YtffacjebnbplaaaGreatDoor.source
