/- IntsOwn; SourceI: one text, so that the claim has fewer files. -/
import Derived.Test.YtjdcndkgodpnlaaDoorPart1
import Derived.OwnWalk
import Derived.WalkSpells
import Derived.Sort.Row
import Derived.BigRegion
/- Rows of integers that a call makes for itself, their marks, and that they are held; conditions: lengths that fit. -/
namespace Go.Proofs.YtjdcndkgodpnlaaDoor.intsOwn
open Go.RowKit Go.Deep Go.Sort base copy
set_option linter.unusedVariables false

/-- A slice of the call's own (blocks from B on) that holds a list of integers. -/
def OwnInts (B : Nat) (w : World) (v : Value) (zs : List Int) : Prop := w.ownsRow B 3 1 v zs.length (zs.map (Value.int .i64))
theorem OwnInts.nil (B : Nat) (w : World) : OwnInts B w (.slice none 0 0) [] := World.ownsRow_nil w B 3 1
theorem OwnInts.form {B : Nat} {w : World} {v : Value} {zs : List Int} (h : OwnInts B w v zs) : ∃ a cap, v = .slice a zs.length cap ∧ IntRow w a zs.length zs := by
  obtain ⟨h1, h2⟩ := h
  rcases h2 with ⟨rfl, hn⟩ | ⟨g, cap, cur, rfl, hb, hh, hn, hm, hs, ht⟩
  · exact ⟨none, 0, by rw [hn], ⟨rfl, by rw [hn]; exact Nat.zero_le _, fun i hi => by omega⟩⟩
  · refine ⟨some ⟨g, 0, none⟩, cap, rfl, ⟨rfl, Nat.le_trans hn hm, fun i hi => ⟨g, 0, rfl, ?_⟩⟩⟩
    have h3 : cur[i]? = some (.int .i64 (zs[i]?.getD 0)) := by
      have : (cur.toList.take (zs.length * 1))[i]? = (zs.map (Value.int .i64))[i]? := by rw [ht]
      rw [List.getElem?_take, if_pos (by omega)] at this
      rw [← Array.getElem?_toList, this, List.getElem?_map, List.getElem?_eq_getElem hi]
      rfl
    simp [World.cell?, hh, h3]
theorem OwnInts.below {B : Nat} {W w1 : World} {v : Value} {zs : List Int} (h : OwnInts B W v zs) (hb : Below W.heap.size W w1) : OwnInts B w1 v zs := by
  obtain ⟨h1, h2⟩ := h
  refine ⟨h1, ?_⟩
  rcases h2 with h2 | ⟨g, cap, cur, e, hg, hh, hn, hm, hs, ht⟩
  · exact .inl h2
  · exact .inr ⟨g, cap, cur, e, hg, by rw [hb.block g (Array.getElem?_eq_some_iff.1 hh).1]; exact hh, hn, hm, hs, ht⟩
theorem OwnInts.mono {B B' : Nat} {w : World} {v : Value} {zs : List Int} (h : OwnInts B w v zs) (hb : B' ≤ B) : OwnInts B' w v zs := by
  obtain ⟨h1, h2⟩ := h
  refine ⟨h1, ?_⟩
  rcases h2 with h2 | ⟨g, cap, cur, e, hg, hh, hn, hm, hs, ht⟩
  · exact .inl h2
  · exact .inr ⟨g, cap, cur, e, Nat.le_trans hb hg, hh, hn, hm, hs, ht⟩
theorem grown_below {B : Nat} {w w1 w2 : World} {v : Value} {zs : List Int} (h : OwnInts B w1 v zs) (hb : Below B w w1) (hB : B ≤ w1.heap.size) (hg : w1.grownBy w2 v.ownBlock) : Below B w w2 :=
  hb.grown hg hB (fun k hk => (World.ownsRow.lt h k hk).1)
theorem own_pass {B n : Nat} {w w1 : World} {v : Value} {t : TypeId} {s : Nat} {xs : List Value} (h : w.ownsRow B t s v n xs) (hb : Below w.heap.size w w1) : w1.ownsRow B t s v n xs := by
  obtain ⟨h1, h2⟩ := h
  refine ⟨h1, ?_⟩
  rcases h2 with h2 | ⟨g, cap, cur, e, hg, hh, hn, hm, hs, ht⟩
  · exact .inl h2
  · exact .inr ⟨g, cap, cur, e, hg, by rw [hb.block g (Array.getElem?_eq_some_iff.1 hh).1]; exact hh, hn, hm, hs, ht⟩
theorem own_lt {B g : Nat} {w : World} {v : Value} {zs : List Int} (h : OwnInts B w v zs) (hg : v.ownBlock = some g) : B ≤ g ∧ g < w.heap.size := World.ownsRow.lt h g hg
theorem own_grown {B : Nat} {w w1 : World} {v : Value} {zs : List Int} {row : Option Nat} (h : OwnInts B w v zs) (hg : w.grownBy w1 row) (hne : ∀ g, v.ownBlock = some g → some g ≠ row) : OwnInts B w1 v zs := by
  obtain ⟨h1, h2⟩ := h
  refine ⟨h1, ?_⟩
  rcases h2 with h2 | ⟨g, cap, cur, rfl, hgB, hh, hn, hm, hs, ht⟩
  · exact .inl h2
  · exact .inr ⟨g, cap, cur, rfl, hgB, by rw [hg.block g (Array.getElem?_eq_some_iff.1 hh).1 (hne g rfl)]; exact hh, hn, hm, hs, ht⟩
theorem grown_refl (w : World) (row : Option Nat) : w.grownBy w row := ⟨rfl, rfl, rfl, Nat.le_refl _, fun _ _ _ => rfl⟩
theorem grown_set {w w1 : World} {g k : Nat} {v : Value} (h : w.grownBy w1 (some g)) : w.grownBy (w1.setCell ⟨g, k, none⟩ v) (some g) := by
  rw [setCell_eq]
  refine ⟨h.os, h.tape, h.output, ?_, fun j hj hne => ?_⟩
  · show _ ≤ (w1.heap.modify g _).size
    rw [Array.size_modify]; exact h.size
  · show (w1.heap.modify g _)[j]? = _
    rw [Array.getElem?_modify, if_neg (fun e => hne (by rw [e]))]
    exact h.block j hj hne
def marks (n : Int) (len : Nat) : List Int := (List.range len).map (fun i : Nat => n + (i : Int))
end Go.Proofs.YtjdcndkgodpnlaaDoor.intsOwn

/- The specification's source of choices: a number is told out of a code's bytes; whatever the bytes, it is in its bounds, and only the source's own block is written; conditions: lengths that fit. -/
namespace Go.Proofs.YtjdcndkgodpnlaaDoor.source
open Go.RowKit Go.Deep Go.Sort base intsOwn

/-- A slice of bytes that reads. -/
def Bytes (w : World) (a : Option Addr) (len : Nat) : Prop := ∀ i, i < len → ∃ bb off, a = some ⟨bb, off, none⟩ ∧ ∃ x : Nat, x < 256 ∧ w.cell? ⟨bb, off + i, none⟩ = some (.int .u8 x)
/-- A source in block b: its code, and how often at most it has been asked. -/
structure Src (w : World) (b : Nat) (a : Option Addr) (len cap k : Nat) : Prop where
  long : len ≤ 1048576
  cells : ∃ n s : Int, 0 ≤ n ∧ n ≤ k ∧ 0 ≤ s ∧ s < 2147483648 ∧ w.rowIs b 53 3 (fun i => if i = 0 then .slice a len cap else if i = 1 then .int .i64 n else .int .i64 s)
  bytes : ∀ i, i < len → ∃ bb off, a = some ⟨bb, off, none⟩ ∧ bb < b ∧ ∃ x : Nat, x < 256 ∧ w.cell? ⟨bb, off + i, none⟩ = some (.int .u8 x)
theorem Src.below {w w1 : World} {b len cap k : Nat} {a : Option Addr} (h : Src w b a len cap k) (hb : Below w.heap.size w w1) : Src w1 b a len cap k := by
  obtain ⟨h1, ⟨n, s, p1, p2, p3, p4, hr⟩, h3⟩ := h
  exact ⟨h1, ⟨n, s, p1, p2, p3, p4, hr.of_block (hb.block _ hr.lt)⟩, fun i hi => by
    obtain ⟨bb, off, e, hne, x, hx, hc⟩ := h3 i hi
    exact ⟨bb, off, e, hne, x, hx, keep hb hc⟩⟩
theorem Src.mono {w : World} {b len cap k k' : Nat} {a : Option Addr} (h : Src w b a len cap k) (hk : k ≤ k') : Src w b a len cap k' := by
  obtain ⟨h1, ⟨n, s, p1, p2, p3, p4, hr⟩, h3⟩ := h
  exact ⟨h1, ⟨n, s, p1, by omega, p3, p4, hr⟩, h3⟩
theorem rem_range (x m : Int) (h : 0 ≤ x) (hm : 0 < m) : 0 ≤ x.tmod m ∧ x.tmod m < m := by
  rw [Int.tmod_eq_emod_of_nonneg h]
  exact ⟨Int.emod_nonneg _ (by omega), Int.emod_lt_of_pos _ hm⟩
theorem row_facts {w : World} {b : Nat} {x y z : Value} (h : w.rowIs b 53 3 (fun i => if i = 0 then x else if i = 1 then y else z)) :
    w.cell? ⟨b, 0, none⟩ = some x ∧ w.cell? ⟨b, 1, none⟩ = some y ∧ w.cell? ⟨b, 2, none⟩ = some z ∧ w.frozen? ⟨b, 1, none⟩ = false ∧ w.frozen? ⟨b, 2, none⟩ = false :=
  ⟨by simpa using h.cell (i := 0) (by omega), by simpa using h.cell (i := 1) (by omega), by simpa using h.cell (i := 2) (by omega), h.frozen 1, h.frozen 2⟩
theorem row_set1 {w : World} {b : Nat} {x y z : Value} (h : w.rowIs b 53 3 (fun i => if i = 0 then x else if i = 1 then y else z)) (v : Value) : (w.setCell ⟨b, 1, none⟩ v).rowIs b 53 3 (fun i => if i = 0 then x else if i = 1 then v else z) :=
  (h.set 1 v).congr (fun i hi => by rcases (show i = 0 ∨ i = 1 ∨ i = 2 by omega) with rfl | rfl | rfl <;> simp)
theorem row_set2 {w : World} {b : Nat} {x y z : Value} (h : w.rowIs b 53 3 (fun i => if i = 0 then x else if i = 1 then y else z)) (v : Value) : (w.setCell ⟨b, 2, none⟩ v).rowIs b 53 3 (fun i => if i = 0 then x else if i = 1 then y else v) :=
  (h.set 2 v).congr (fun i hi => by rcases (show i = 0 ∨ i = 1 ∨ i = 2 by omega) with rfl | rfl | rfl <;> simp)
theorem grown_drewN {w w1 : World} {row : Option Nat} (h : w.grownBy w1 row) (n : Nat) : w.grownBy (w1.drewN n) row := ⟨h.os, h.tape, h.output, h.size, h.block⟩
theorem grown_trans {w w1 w2 : World} {row : Option Nat} (h : w.grownBy w1 row) (h' : w1.grownBy w2 row) : w.grownBy w2 row :=
  ⟨h'.os.trans h.os, h'.tape.trans h.tape, h'.output.trans h.output, Nat.le_trans h.size h'.size, fun k hk hne => by rw [h'.block k (Nat.lt_of_lt_of_le hk h.size) hne, h.block k hk hne]⟩
theorem far {w w1 : World} {b bb o : Nat} {v : Value} (h : w.grownBy w1 (some b)) (hne : bb < b) (hc : w.cell? ⟨bb, o, none⟩ = some v) : w1.cell? ⟨bb, o, none⟩ = some v := by
  rw [World.cell?_of_block (a := ⟨bb, o, none⟩) (h.block bb (World.block_lt_of_cell? _ _ hc) (fun e => Nat.ne_of_lt hne (by injection e)))]
  exact hc

set_option maxHeartbeats 1600000 in
theorem byte_src (b : Nat) (a : Option Addr) (len cap k : Nat) (w : World) (h : Src w b a len cap k) (hk : k ≤ 1048576) :
    Calls Tryd.prog 39 #[.pointer (some ⟨b, 0, none⟩)] w fun e w' => ∃ r : Int, e = .returned (.int .i64 r) ∧ 0 ≤ r ∧ r < 256 ∧ Src w' b a len cap (k + 1) ∧ w.grownBy w' (some b) := by
  obtain ⟨hlong, ⟨n, s, p1, p2, p3, p4, hr⟩, hbytes⟩ := h
  obtain ⟨c0, c1, c2, f1, f2⟩ := row_facts hr
  have HR1 := hid (row_set1 hr (.int .i64 (n + 1)))
  have HBy := hid hbytes
  have HG1 : Hid (w.grownBy (w.setCell ⟨b, 1, none⟩ (.int .i64 (n + 1))) (some b)) := grown_set (grown_refl _ _)
  clear hbytes hr
  go_enter Tryd.func39, Tryd.ntmps39
  go_wp2
  generalize w.setCell ⟨b, 1, none⟩ (.int .i64 (n + 1)) = W1 at HR1 HG1 ⊢
  obtain ⟨d0, d1, d2, g1, g2⟩ := row_facts HR1.out
  clear c0 c1 c2 f1 f2
  obtain ⟨m, rfl⟩ := Int.eq_ofNat_of_zero_le p1
  by_cases hle : (m : Int) + 1 ≤ (len : Int)
  · obtain ⟨bb, off, rfl, hne, x, hx, hc⟩ := HBy.out m (by omega)
    have hcx := far HG1.out hne hc
    clear hc
    go_quiet (fail)
    have e0 : (W1.drewN nq).cell? ⟨b, 0, none⟩ = some (.slice (some ⟨bb, off, none⟩) len cap) := d0
    have e1 : (W1.drewN nq).cell? ⟨b, 1, none⟩ = some (.int .i64 ((m : Int) + 1)) := d1
    have e2 : (W1.drewN nq).cell? ⟨b, 2, none⟩ = some (.int .i64 s) := d2
    have e3 : (W1.drewN nq).cell? ⟨bb, off + m, none⟩ = some (.int .u8 x) := hcx
    have e4 : (W1.drewN nq).frozen? ⟨b, 2, none⟩ = false := g2
    have HR2 : Hid ((W1.drewN nq).rowIs b 53 3 (fun i => if i = 0 then .slice (some ⟨bb, off, none⟩) len cap else if i = 1 then .int .i64 ((m : Int) + 1) else .int .i64 s)) := HR1.out
    have HG2 := hid (grown_drewN HG1.out nq)
    clear d0 d1 d2 g1 g2 hcx HR1 HG1
    generalize W1.drewN nq = W2 at *
    have hrem := rem_range (s * 31 + x + 7) 2147483648 (by omega) (by omega)
    go_wp2
    go_region
    have hs2 : 0 ≤ (s * 31 + x + 7) % 2147483648 ∧ (s * 31 + x + 7) % 2147483648 < 2147483648 := ⟨Int.emod_nonneg _ (by omega), Int.emod_lt_of_pos _ (by omega)⟩
    generalize (s * 31 + x + 7) % 2147483648 = s2 at *
    have HR3 : Hid ((W2.setCell ⟨b, 2, none⟩ (.int .i64 s2)).drew.rowIs b 53 3 (fun i => if i = 0 then .slice (some ⟨bb, off, none⟩) len cap else if i = 1 then .int .i64 ((m : Int) + 1) else .int .i64 s2)) := row_set2 HR2.out _
    have HG3 : Hid (w.grownBy (W2.setCell ⟨b, 2, none⟩ (.int .i64 s2)).drew (some b)) := grown_drewN (grown_set HG2.out) 1
    have e3' : (W2.setCell ⟨b, 2, none⟩ (.int .i64 s2)).drew.cell? ⟨bb, off + m, none⟩ = some (.int .u8 x) := far (w := W2) (b := b) (grown_drewN (grown_set (grown_refl _ _)) 1) hne e3
    clear e0 e1 e2 e3 e4 HR2 HG2
    generalize (W2.setCell ⟨b, 2, none⟩ (.int .i64 s2)).drew = W3 at *
    obtain ⟨e0, e1, e2, _, _⟩ := row_facts HR3.out
    go_wp2
    go_quiet (fail)
    go_wp2
    go_ret
    refine ⟨x, rfl, by omega, by omega, ⟨hlong, ⟨(m : Int) + 1, s2, by omega, by omega, hs2.1, hs2.2, HR3.out⟩, fun i hi => ?_⟩, grown_drewN HG3.out _⟩
    obtain ⟨bb', off', e, hne', x', hx', hc'⟩ := HBy.out i hi
    exact ⟨bb', off', e, hne', x', hx', far (grown_drewN HG3.out _) hne' hc'⟩
  · have HRest : Hid (∀ i, i < len → ∃ bb off, a = some ⟨bb, off, none⟩ ∧ bb < b ∧ ∃ x : Nat, x < 256 ∧ W1.cell? ⟨bb, off + i, none⟩ = some (.int .u8 x)) := fun i hi => by
      obtain ⟨bb', off', e, hne', x', hx', hc'⟩ := HBy.out i hi
      exact ⟨bb', off', e, hne', x', hx', far HG1.out hne' hc'⟩
    go_quiet (fail)
    have e1 : (W1.drewN nq).cell? ⟨b, 1, none⟩ = some (.int .i64 ((m : Int) + 1)) := d1
    have e2 : (W1.drewN nq).cell? ⟨b, 2, none⟩ = some (.int .i64 s) := d2
    have e4 : (W1.drewN nq).frozen? ⟨b, 2, none⟩ = false := g2
    have HR2 : Hid ((W1.drewN nq).rowIs b 53 3 (fun i => if i = 0 then .slice a len cap else if i = 1 then .int .i64 ((m : Int) + 1) else .int .i64 s)) := HR1.out
    have HG2 := hid (grown_drewN HG1.out nq)
    have HRest2 : Hid (∀ i, i < len → ∃ bb off, a = some ⟨bb, off, none⟩ ∧ bb < b ∧ ∃ x : Nat, x < 256 ∧ (W1.drewN nq).cell? ⟨bb, off + i, none⟩ = some (.int .u8 x)) := HRest.out
    clear d0 d1 d2 g1 g2 HR1 HG1 HBy HRest
    generalize W1.drewN nq = W2 at *
    by_cases h3 : 3000 < (m : Int) + 1
    · go_wp2
      go_ret
      exact ⟨0, rfl, by omega, by omega, ⟨hlong, ⟨(m : Int) + 1, s, by omega, by omega, p3, p4, HR2.out⟩, HRest2.out⟩, HG2.out⟩
    · have hs2 : 0 ≤ (s * 1103515245 + 12345) % 2147483648 ∧ (s * 1103515245 + 12345) % 2147483648 < 2147483648 := ⟨Int.emod_nonneg _ (by omega), Int.emod_lt_of_pos _ (by omega)⟩
      have HR3 := hid (row_set2 HR2.out (.int .i64 ((s * 1103515245 + 12345) % 2147483648)))
      obtain ⟨_, _, t2, _, _⟩ := row_facts HR3.out
      have HS2 := hid hs2
      clear hs2
      go_wp2
      go_ret
      refine ⟨_, rfl, Int.emod_nonneg _ (by omega), Int.emod_lt_of_pos _ (by omega), ⟨hlong, ⟨(m : Int) + 1, _, by omega, by omega, HS2.out.1, HS2.out.2, HR3.out⟩, fun i hi => ?_⟩, grown_set HG2.out⟩
      obtain ⟨bb', off', e, hne', x', hx', hc'⟩ := HRest2.out i hi
      exact ⟨bb', off', e, hne', x', hx', far (grown_set (grown_refl _ _)) hne' hc'⟩

set_option maxHeartbeats 800000 in
theorem next_src (b : Nat) (a : Option Addr) (len cap k : Nat) (n : Int) (w : World) (h : Src w b a len cap k) (hk : k ≤ 1048576) (hn : 1 ≤ n) (hn' : n ≤ 256) :
    Calls Tryd.prog 20 #[.pointer (some ⟨b, 0, none⟩), .int .i64 n] w fun e w' => ∃ r : Int, e = .returned (.int .i64 r) ∧ 0 ≤ r ∧ r < n ∧ Src w' b a len cap (k + 1) ∧ w.grownBy w' (some b) := by
  have HS := hid h
  clear h
  by_cases h1n : n = 1
  · subst h1n
    go_enter Tryd.func20, Tryd.ntmps20
    go_wp2
    go_ret
    exact ⟨0, rfl, by omega, by omega, HS.out.mono (by omega), grown_refl _ _⟩
  have hgt : 1 < n := by omega
  go_enter Tryd.func20, Tryd.ntmps20
  go_wp2_with fail
  refine (byte_src b a len cap k _ HS.out hk).mono ?_
  rintro e w1 ⟨r, rfl, h0, h1, hs1, hg1⟩
  have HS1 := hid hs1
  have HG1 := hid hg1
  clear hs1 hg1
  have hr := rem_range r n h0 (by omega)
  have HRm := hid hr
  clear hr
  go_wp2
  go_ret
  exact ⟨r % n, rfl, Int.emod_nonneg _ (by omega), Int.emod_lt_of_pos _ (by omega), HS1.out, HG1.out⟩

set_option maxHeartbeats 800000 in
theorem chance_src (b : Nat) (a : Option Addr) (len cap k : Nat) (n : Int) (w : World) (h : Src w b a len cap k) (hk : k ≤ 1048576) (hn : 1 < n) (hn' : n ≤ 256) :
    Calls Tryd.prog 40 #[.pointer (some ⟨b, 0, none⟩), .int .i64 n] w fun e w' => ∃ t : Bool, e = .returned (.bool t) ∧ Src w' b a len cap (k + 1) ∧ w.grownBy w' (some b) := by
  have HS := hid h
  clear h
  go_enter Tryd.func40, Tryd.ntmps40
  go_wp2_with fail
  refine (next_src b a len cap k n _ HS.out hk (by omega) hn').mono ?_
  rintro e w1 ⟨r, rfl, h0, h1, hs1, hg1⟩
  have HS1 := hid hs1
  have HG1 := hid hg1
  clear hs1 hg1
  go_wp2
  go_ret
  exact ⟨_, rfl, HS1.out, HG1.out⟩

set_option maxHeartbeats 800000 in
theorem source_spec (a : Option Addr) (len cap : Nat) (w : World) (hb : Bytes w a len) (hl : len ≤ 1048576) :
    Calls Tryd.prog 9 #[.slice a len cap] w fun e w' => ∃ b, e = .returned (.pointer (some ⟨b, 0, none⟩)) ∧ b = w.heap.size ∧ b < w'.heap.size ∧ Src w' b a len cap 0 ∧ Below w.heap.size w w' := by
  have HB := hid hb
  clear hb
  go_enter Tryd.func9, Tryd.ntmps9
  go_wp2
  go_ret
  refine ⟨w.heap.size, rfl, rfl, by simp, ⟨hl, ⟨0, (len : Int) % 1000, by omega, by omega, Int.emod_nonneg _ (by omega), ?_, ?_⟩, fun i hi => ?_⟩, (by repeat (first | exact Below.refl _ _ | assumption | refine Below.drew ?_ | refine Below.alloc ?_ (by first | exact Nat.le_refl _ | omega | (simp; done) | (simp; omega)) _ | refine Below.setCell ?_ (by first | exact Nat.le_refl _ | omega | (simp; done) | (simp; omega)) _))⟩
  · have := Int.emod_lt_of_pos (len : Int) (show (0 : Int) < 1000 by omega)
    omega
  · exact World.rowIs_alloc w #[.slice a len cap, .int .i64 0, .int .i64 ((len : Int) % 1000)] _ _ (fun i hi => by
      have h3 : i < 3 := hi
      rcases (show i = 0 ∨ i = 1 ∨ i = 2 by omega) with rfl | rfl | rfl <;> rfl)
  · obtain ⟨bb, off, e, x, hx, hc⟩ := HB.out i hi
    exact ⟨bb, off, e, World.block_lt_of_cell? _ _ hc, x, hx, keep (by repeat (first | exact Below.refl _ _ | assumption | refine Below.drew ?_ | refine Below.alloc ?_ (by first | exact Nat.le_refl _ | omega | (simp; done) | (simp; omega)) _ | refine Below.setCell ?_ (by first | exact Nat.le_refl _ | omega | (simp; done) | (simp; omega)) _)) hc⟩
end Go.Proofs.YtjdcndkgodpnlaaDoor.source
