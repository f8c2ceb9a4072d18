/- A solver in memory: a number is put behind the row of a literal, in its map; a clause's two watched literals are written; conditions: lengths that fit. -/
import Derived.Test.YtolejaegnkcjjaaDoorPart22
import Derived.Test.YtolejaegnkcjjaaDoorPart25
namespace Go.Proofs.YtolejaegnkcjjaaDoor.solPush
open Go.RowKit Go.Deep Go.Maps Go base sets setsOf solSets solOps solMath solHold solMem solFail solDue solExpect
set_option linter.unusedVariables false
set_option linter.unusedSimpArgs false

theorem info_i : (Tryd.prog.info? 3).map (fun i => (i.zero, i.size, i.bytes)) = some (some (.int .i64 0), 1, 8) := by kernel_rfl
theorem keyed : Keyed Tryd.prog 3 := int_keyed Tryd.underlying3
theorem key_of {l : Int} (h0 : -40 ≤ l) (h1 : l ≤ 40) : keyOf Tryd.prog 3 (.int .i64 l) = some (key l) := by
  have hw : (Lit.int .i64 l).wf = true := WalkArith.wf_i64 ⟨by omega, by omega⟩
  simp [keyOf, mapKey, Tryd.underlying3, hw, key]
theorem zeroS (w : World) : (zeroValue 25).run Tryd.prog w = .ok nilV w := by kernel_rfl
def updV (V : Int → Value) (x : Int) (v : Value) : Int → Value := fun m => if m = x then v else V m
section
variable {z : Int} {M mb : Nat} {F : Nat → Value} {V : Int → Value} {s : Sv} {w : World}
theorem look_of {D : DataW Value} (hD : w.ownsMap Tryd.prog 3 hE mb 81 D) (hV : MapV D V) {x : Int} (h0 : -40 ≤ x) (h1 : x ≤ 40) : (Instr.lookup 68 (.map (some mb)) (.int .i64 x) false).run Tryd.prog w = .ok (V x) w := by
  obtain ⟨v, ps, hr, hv⟩ := hD.lookup keyed Tryd.underlying68 (zeroS w) (zd := .held nilV) (zp := []) rfl (key_of h0 h1)
  rw [hV.at_ x h0 h1] at hv
  unfold hE at hv
  simp only [Option.some.injEq, Prod.mk.injEq, DataW.held.injEq] at hv
  rw [hr, hv.1]
theorem valV {x : Int} (h1 : x ≤ 40) : valA F V x = V x := by
  unfold valA
  rw [if_neg (by omega), if_neg (by omega), if_neg (by omega), if_neg (by omega), if_neg (by omega)]
theorem rowV {x : Int} {v : Value} (h0 : -40 ≤ x) (h1 : x ≤ 40) (hx : x ≠ 0) : RowA s x v w = w.ownsRow 0 3 1 v (s.L x).length (intsN (s.L x)) := by
  unfold RowA
  rw [if_neg (by omega), if_neg (by omega), if_neg (by omega), if_neg (by omega), if_neg (by omega), if_pos ⟨h0, h1, hx⟩]
theorem Sol.rowOf (h : Sol z M mb F V s w) {x : Int} (h0 : -40 ≤ x) (h1 : x ≤ 40) (hx : x ≠ 0) (hz : x ≠ z) : w.ownsRow 0 3 1 (V x) (s.L x).length (intsN (s.L x)) := by
  have := h.rows x hz
  rw [valV h1, rowV h0 h1 hx] at this
  exact this
theorem Sol.lookAt (h : Sol z M mb F V s w) {x : Int} (h0 : -40 ≤ x) (h1 : x ≤ 40) {row : Option Nat} {w8 : World} (hg : w.grownBy w8 row) (hr : some mb ≠ row) : (Instr.lookup 68 (.map (some mb)) (.int .i64 x) false).run Tryd.prog w8 = .ok (V x) w8 := by
  obtain ⟨D, hD, hV⟩ := h.map
  exact look_of (hD.kept hg hr) hV h0 h1
theorem Sol.offV (h : Sol z M mb F V s w) {x : Int} (h1 : x ≤ 40) (hz : x ≠ z) : some M ≠ (V x).ownBlock ∧ some mb ≠ (V x).ownBlock := by
  have : ∀ g, (V x).ownBlock = some g → g ≠ M ∧ g ≠ mb := fun g hg => h.off x g (by rw [blk_ne hz, valV h1]; exact hg)
  exact ⟨fun e => (this M e.symm).1 rfl, fun e => (this mb e.symm).2 rfl⟩
/-- The grown row takes its place in the map. -/
theorem Sol.mapPut (h : Sol z M mb F V s w) {x : Int} (h0 : -40 ≤ x) (h1 : x ≤ 40) (hx : x ≠ 0) {v' : Value} {w1 : World} (r : List Nat) (hz : x ≠ z) (hg : w.grownBy w1 (V x).ownBlock) (ho : w1.ownsRow 0 3 1 v' r.length (intsN r))
    (loc : v'.ownBlock = (V x).ownBlock ∨ v'.ownBlock = none ∨ ∃ g, w.heap.size ≤ g ∧ v'.ownBlock = some g) :
    ∃ w2, (Instr.mapUpdate 68 (.map (some mb)) (.int .i64 x) v').run Tryd.prog w1 = .ok () w2 ∧ Sol z M mb F (updV V x v') { s with L := upd s.L x r } w2 ∧ Chg M mb (blk z F V) (blk z F (updV V x v')) w w2 := by
  obtain ⟨hM, hm⟩ := Sol.offV h h1 hz
  obtain ⟨D, hD, hV⟩ := h.map
  obtain ⟨w2, hr, hD2, hg2⟩ := (hD.kept hg hm).update keyed Tryd.underlying68 (by unfold maxLen; omega) (key_of h0 h1) (show hE v' = some (.held v', []) from rfl)
  have hV2 := mapV_put hV h0 h1 v'
  have hoff : ∀ g, v'.ownBlock = some g → g ≠ mb := fun g hg' => by
    rcases loc with l | l | ⟨g', l1, l2⟩
    · exact fun e => hm (by rw [← e, ← hg', l])
    · rw [l] at hg'; cases hg'
    · rw [l2] at hg'; injection hg' with hg'; have := h.lt; omega
  refine ⟨w2, hr, ?_⟩
  refine h.step x hz (World.rowIs.of_block h.cells ?_) h.f0 h.f4 h.f5 h.f6 h.f10 h.fx ⟨_, (map_tight hD2).mono (map_few hV2), hV2⟩ (fun a ha hza => ⟨?_, fun v w hq => ?_⟩) (fun j hj j1 j2 j3 => ?_) ?_ ?_ (hg2.os.trans hg.os) (hg2.tape.trans hg.tape) (hg2.output.trans hg.output) (Nat.le_trans hg.size hg2.size)
  · exact (hg2.block M (Nat.lt_of_lt_of_le h.lt.1 hg.size) (by simpa using h.ne)).trans (hg.block M h.lt.1 hM)
  · unfold valA updV
    by_cases e1 : a = 1001
    · subst e1; simp
    by_cases e2 : a = 1002
    · subst e2; simp
    by_cases e3 : a = 1003
    · subst e3; simp
    by_cases e4 : a = 1004
    · subst e4; simp
    by_cases e5 : a = 1005
    · subst e5; simp
    simp [e1, e2, e3, e4, e5, ha]
  · unfold RowA at hq ⊢
    simpa [upd, ha] using hq
  · rw [valV h1] at j3
    exact (hg2.block j (Nat.lt_of_lt_of_le hj hg.size) (by simpa using j2)).trans (hg.block j hj j3)
  · rw [valV h1, rowV h0 h1 hx]
    unfold updV upd
    simp only [if_pos]
    exact own_kept ho fun g hg' => hg2.block g (World.ownsRow.lt ho g hg').2 (by simpa using hoff g hg')
  · rw [valV h1, valV h1]
    unfold updV
    simpa using loc
/-- The cells of a clause. -/
theorem row_cells {t : TypeId} {v : Value} {n : Nat} {xs : List Value} (h : w.ownsRow 0 t 2 v n xs) {i : Nat} (hi : i < n) : ∃ g cap, v = .slice (some ⟨g, 0, none⟩) n cap ∧ n ≤ maxLen ∧ (∀ u, xs[i * 2]? = some u → w.cell? ⟨g, i * 2, none⟩ = some u) ∧ (∀ u, xs[i * 2 + 1]? = some u → w.cell? ⟨g, i * 2 + 1, none⟩ = some u) ∧ (∀ j, w.frozen? ⟨g, j, none⟩ = false) := by
  rcases h.2 with ⟨_, h0⟩ | ⟨g, cap, cur, rfl, _, hh, hn, hm, hs, ht⟩
  · omega
  · have h3 : ∀ j, j < n * 2 → cur[j]? = xs[j]? := fun j hj => by
      have : (cur.toList.take (n * 2))[j]? = xs[j]? := by rw [ht]
      rw [List.getElem?_take, if_pos hj] at this
      rw [← Array.getElem?_toList, this]
    refine ⟨g, cap, rfl, Nat.le_trans hn hm, fun u hu => ?_, fun u hu => ?_, fun j => ?_⟩
    · simp [World.cell?, hh, h3 (i * 2) (by omega), hu]
    · simp [World.cell?, hh, h3 (i * 2 + 1) (by omega), hu]
    · simp [World.frozen?, hh]
theorem Sol.clause (h : Sol z M mb F V s w) (hz : z ≤ 40) {i : Nat} (hi : i < s.C.length) : ∃ g cap, F 2 = .slice (some ⟨g, 0, none⟩) s.C.length cap ∧ s.C.length ≤ maxLen ∧ w.cell? ⟨g, i * 2, none⟩ = some (.int .u64 (s.cl i).1) ∧ w.cell? ⟨g, i * 2 + 1, none⟩ = some (.int .u64 (s.cl i).2) := by
  have hr : w.ownsRow 0 52 2 (F 2) s.C.length (flatC s.C) := h.rows 1001 (by omega)
  obtain ⟨g, cap, e, hm, h1, h2, _⟩ := row_cells hr hi
  obtain ⟨g1, g2⟩ := flatC_get s.C i hi
  exact ⟨g, cap, e, hm, h1 _ g1, h2 _ g2⟩
theorem Sol.watch (h : Sol z M mb F V s w) (hz : z ≤ 40) {i : Nat} (hi : i < s.W.length) : ∃ g cap, F 3 = .slice (some ⟨g, 0, none⟩) s.W.length cap ∧ s.W.length ≤ maxLen ∧ w.cell? ⟨g, i * 2, none⟩ = some (.int .i64 (s.wt i).1) ∧ w.cell? ⟨g, i * 2 + 1, none⟩ = some (.int .i64 (s.wt i).2) ∧ (∀ j, w.frozen? ⟨g, j, none⟩ = false) := by
  have hr : w.ownsRow 0 85 2 (F 3) s.W.length (flatP s.W) := h.rows 1002 (by omega)
  obtain ⟨g, cap, e, hm, h1, h2, h3⟩ := row_cells hr hi
  obtain ⟨g1, g2⟩ := flatP_get s.W i hi
  exact ⟨g, cap, e, hm, h1 _ g1, h2 _ g2, h3⟩
theorem Sol.setWatch (h : Sol z M mb F V s w) (hz : z ≤ 40) {i : Nat} (hi : i < s.W.length) {g cap : Nat} (hv : F 3 = .slice (some ⟨g, 0, none⟩) s.W.length cap) (p : Int × Int) :
    Sol z M mb F V { s with W := s.W.set i p } ((w.setCell ⟨g, i * 2, none⟩ (.int .i64 p.1)).setCell ⟨g, i * 2 + 1, none⟩ (.int .i64 p.2)) ∧ Chg M mb (blk z F V) (blk z F V) w ((w.setCell ⟨g, i * 2, none⟩ (.int .i64 p.1)).setCell ⟨g, i * 2 + 1, none⟩ (.int .i64 p.2)) := by
  have h2 : (1002 : Int) ≠ z := by omega
  have hr : w.ownsRow 0 85 2 (F 3) s.W.length (flatP s.W) := h.rows 1002 h2
  have hbk : blk z F V 1002 = some g := by rw [blk_ne h2]; show (F 3).ownBlock = _; rw [hv]; rfl
  obtain ⟨hgM, hgm⟩ := h.off 1002 g hbk
  obtain ⟨e1, e2, e3, e4⟩ := setCell_os w ⟨g, i * 2, none⟩ (.int .i64 p.1)
  obtain ⟨g1, g2, g3, g4⟩ := setCell_os (w.setCell ⟨g, i * 2, none⟩ (.int .i64 p.1)) ⟨g, i * 2 + 1, none⟩ (.int .i64 p.2)
  have hblk : ∀ j, j ≠ g → ((w.setCell ⟨g, i * 2, none⟩ (.int .i64 p.1)).setCell ⟨g, i * 2 + 1, none⟩ (.int .i64 p.2)).heap[j]? = w.heap[j]? := fun j hj => (Below.heap_setCell _ _ _ _ (by simpa using hj)).trans (Below.heap_setCell _ _ _ _ (by simpa using hj))
  obtain ⟨D, hD, hV⟩ := h.map
  refine h.step 1002 h2 (World.rowIs.of_block h.cells (hblk M (fun e => hgM e.symm))) h.f0 h.f4 h.f5 h.f6 h.f10 h.fx ⟨D, ?_, hV⟩ (fun a ha hza => ⟨rfl, fun v w hq => ?_⟩) (fun j hj j1 j2 j3 => hblk j (fun e => j3 (by show some j = (F 3).ownBlock; rw [hv, e]; rfl))) ?_ (.inl rfl) (g1.trans e1) (g2.trans e2) (g3.trans e3) (by rw [g4, e4]; exact Nat.le_refl _)
  · obtain ⟨es, clock, q1, q2⟩ := hD
    exact ⟨es, clock, by rw [hblk mb (fun e => hgm e.symm)]; exact q1, q2⟩
  · unfold RowA at hq ⊢
    simpa [ha] using hq
  · show World.ownsRow _ 0 85 2 (F 3) (s.W.set i p).length (flatP (s.W.set i p))
    rw [hv] at hr ⊢
    rw [List.length_set]
    rcases hr.2 with ⟨q, _⟩ | ⟨g', cap', cur, q, q1, q2, q3, q4, q5, q6⟩
    · cases q
    · injection q with qa qb qc
      injection qa with qa
      injection qa with qa
      subst qa qc
      refine ⟨by rw [flatP_len, List.length_set], .inr ⟨g, cap, (cur.setIfInBounds (i * 2) (.int .i64 p.1)).setIfInBounds (i * 2 + 1) (.int .i64 p.2), rfl, Nat.zero_le _, ?_, q3, q4, by simpa using q5, ?_⟩⟩
      · have := heap_setCell_same w g (i * 2) cur 85 (.int .i64 p.1) q2
        exact heap_setCell_same _ g (i * 2 + 1) _ 85 (.int .i64 p.2) this
      · rw [flatP_set, ← q6]
        simp only [Array.toList_setIfInBounds]
        rw [List.take_set, List.take_set]
end
end Go.Proofs.YtolejaegnkcjjaaDoor.solPush
