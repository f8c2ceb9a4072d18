/- SolPush; SolLoop: one text, so that the claim has fewer files. -/
import Derived.Test.YtbahjpheaaiamaaDoorPart9
import Derived.Test.YtbahjpheaaiamaaDoorPart10
/- A solver in memory: a number is put behind the row of a literal, in its map; a clause's two watched literals are written; conditions: lengths that fit. -/
namespace Go.Proofs.YtbahjpheaaiamaaDoor.solPush
open Go.RowKit Go.Deep Go.Maps Go base sets setsOf solSets solOps solMath solHold solMem solFail solDue solExpect
set_option linter.unusedVariables false
set_option linter.unusedSimpArgs false

theorem info_i : (Tryd.prog.info? 3).map (fun i => (i.zero, i.size, i.bytes)) = some (some (.int .i64 0), 1, 8) := by kernel_rfl
theorem keyed : Keyed Tryd.prog 3 := int_keyed Tryd.underlying3
theorem key_of {l : Int} (h0 : -40 ≤ l) (h1 : l ≤ 40) : keyOf Tryd.prog 3 (.int .i64 l) = some (key l) := by
  have hw : (Lit.int .i64 l).wf = true := WalkArith.wf_i64 ⟨by omega, by omega⟩
  simp [keyOf, mapKey, Tryd.underlying3, hw, key]
theorem zeroS (w : World) : (zeroValue 36).run Tryd.prog w = .ok nilV w := by kernel_rfl
def updV (V : Int → Value) (x : Int) (v : Value) : Int → Value := fun m => if m = x then v else V m
section
variable {z : Int} {M mb : Nat} {F : Nat → Value} {V : Int → Value} {s : Sv} {w : World}
theorem look_of {D : DataW Value} (hD : w.ownsMap Tryd.prog 3 hE mb 81 D) (hV : MapV D V) {x : Int} (h0 : -40 ≤ x) (h1 : x ≤ 40) : (Instr.lookup 63 (.map (some mb)) (.int .i64 x) false).run Tryd.prog w = .ok (V x) w := by
  obtain ⟨v, ps, hr, hv⟩ := hD.lookup keyed Tryd.underlying63 (zeroS w) (zd := .held nilV) (zp := []) rfl (key_of h0 h1)
  rw [hV.at_ x h0 h1] at hv
  unfold hE at hv
  simp only [Option.some.injEq, Prod.mk.injEq, DataW.held.injEq] at hv
  rw [hr, hv.1]
theorem valV {x : Int} (h1 : x ≤ 40) : valA F V x = V x := by
  unfold valA
  rw [if_neg (by omega), if_neg (by omega), if_neg (by omega), if_neg (by omega), if_neg (by omega)]
theorem rowV {x : Int} {v : Value} (h0 : -40 ≤ x) (h1 : x ≤ 40) (hx : x ≠ 0) : RowA s x v w = w.ownsRow 0 3 1 v (s.L x).length (intsN (s.L x)) := by
  unfold RowA
  rw [if_neg (by omega), if_neg (by omega), if_neg (by omega), if_neg (by omega), if_neg (by omega), if_pos ⟨h0, h1, hx⟩]
theorem Sol.rowOf (h : Sol z M mb F V s w) {x : Int} (h0 : -40 ≤ x) (h1 : x ≤ 40) (hx : x ≠ 0) (hz : x ≠ z) : w.ownsRow 0 3 1 (V x) (s.L x).length (intsN (s.L x)) := by
  have := h.rows x hz
  rw [valV h1, rowV h0 h1 hx] at this
  exact this
theorem Sol.lookAt (h : Sol z M mb F V s w) {x : Int} (h0 : -40 ≤ x) (h1 : x ≤ 40) {row : Option Nat} {w8 : World} (hg : w.grownBy w8 row) (hr : some mb ≠ row) : (Instr.lookup 63 (.map (some mb)) (.int .i64 x) false).run Tryd.prog w8 = .ok (V x) w8 := by
  obtain ⟨D, hD, hV⟩ := h.map
  exact look_of (hD.kept hg hr) hV h0 h1
theorem Sol.offV (h : Sol z M mb F V s w) {x : Int} (h1 : x ≤ 40) (hz : x ≠ z) : some M ≠ (V x).ownBlock ∧ some mb ≠ (V x).ownBlock := by
  have : ∀ g, (V x).ownBlock = some g → g ≠ M ∧ g ≠ mb := fun g hg => h.off x g (by rw [blk_ne hz, valV h1]; exact hg)
  exact ⟨fun e => (this M e.symm).1 rfl, fun e => (this mb e.symm).2 rfl⟩
/-- The grown row takes its place in the map. -/
theorem Sol.mapPut (h : Sol z M mb F V s w) {x : Int} (h0 : -40 ≤ x) (h1 : x ≤ 40) (hx : x ≠ 0) {v' : Value} {w1 : World} (r : List Nat) (hz : x ≠ z) (hg : w.grownBy w1 (V x).ownBlock) (ho : w1.ownsRow 0 3 1 v' r.length (intsN r))
    (loc : v'.ownBlock = (V x).ownBlock ∨ v'.ownBlock = none ∨ ∃ g, w.heap.size ≤ g ∧ v'.ownBlock = some g) :
    ∃ w2, (Instr.mapUpdate 63 (.map (some mb)) (.int .i64 x) v').run Tryd.prog w1 = .ok () w2 ∧ Sol z M mb F (updV V x v') { s with L := upd s.L x r } w2 ∧ Chg M mb (blk z F V) (blk z F (updV V x v')) w w2 := by
  obtain ⟨hM, hm⟩ := Sol.offV h h1 hz
  obtain ⟨D, hD, hV⟩ := h.map
  obtain ⟨w2, hr, hD2, hg2⟩ := (hD.kept hg hm).update keyed Tryd.underlying63 (by unfold maxLen; omega) (key_of h0 h1) (show hE v' = some (.held v', []) from rfl)
  have hV2 := mapV_put hV h0 h1 v'
  have hoff : ∀ g, v'.ownBlock = some g → g ≠ mb := fun g hg' => by
    rcases loc with l | l | ⟨g', l1, l2⟩
    · exact fun e => hm (by rw [← e, ← hg', l])
    · rw [l] at hg'; cases hg'
    · rw [l2] at hg'; injection hg' with hg'; have := h.lt; omega
  refine ⟨w2, hr, ?_⟩
  refine h.step x hz (World.rowIs.of_block h.cells ?_) h.f0 h.f4 h.f5 h.f6 h.f10 h.fx ⟨_, (map_tight hD2).mono (map_few hV2), hV2⟩ (fun a ha hza => ⟨?_, fun v w hq => ?_⟩) (fun j hj j1 j2 j3 => ?_) ?_ ?_ (hg2.os.trans hg.os) (hg2.tape.trans hg.tape) (hg2.output.trans hg.output) (Nat.le_trans hg.size hg2.size)
  · exact (hg2.block M (Nat.lt_of_lt_of_le h.lt.1 hg.size) (by simpa using h.ne)).trans (hg.block M h.lt.1 hM)
  · unfold valA updV
    by_cases e1 : a = 1001
    · subst e1; simp
    by_cases e2 : a = 1002
    · subst e2; simp
    by_cases e3 : a = 1003
    · subst e3; simp
    by_cases e4 : a = 1004
    · subst e4; simp
    by_cases e5 : a = 1005
    · subst e5; simp
    simp [e1, e2, e3, e4, e5, ha]
  · unfold RowA at hq ⊢
    simpa [upd, ha] using hq
  · rw [valV h1] at j3
    exact (hg2.block j (Nat.lt_of_lt_of_le hj hg.size) (by simpa using j2)).trans (hg.block j hj j3)
  · rw [valV h1, rowV h0 h1 hx]
    unfold updV upd
    simp only [if_pos]
    exact own_kept ho fun g hg' => hg2.block g (World.ownsRow.lt ho g hg').2 (by simpa using hoff g hg')
  · rw [valV h1, valV h1]
    unfold updV
    simpa using loc
/-- The cells of a clause. -/
theorem row_cells {t : TypeId} {v : Value} {n : Nat} {xs : List Value} (h : w.ownsRow 0 t 2 v n xs) {i : Nat} (hi : i < n) : ∃ g cap, v = .slice (some ⟨g, 0, none⟩) n cap ∧ n ≤ maxLen ∧ (∀ u, xs[i * 2]? = some u → w.cell? ⟨g, i * 2, none⟩ = some u) ∧ (∀ u, xs[i * 2 + 1]? = some u → w.cell? ⟨g, i * 2 + 1, none⟩ = some u) ∧ (∀ j, w.frozen? ⟨g, j, none⟩ = false) := by
  rcases h.2 with ⟨_, h0⟩ | ⟨g, cap, cur, rfl, _, hh, hn, hm, hs, ht⟩
  · omega
  · have h3 : ∀ j, j < n * 2 → cur[j]? = xs[j]? := fun j hj => by
      have : (cur.toList.take (n * 2))[j]? = xs[j]? := by rw [ht]
      rw [List.getElem?_take, if_pos hj] at this
      rw [← Array.getElem?_toList, this]
    refine ⟨g, cap, rfl, Nat.le_trans hn hm, fun u hu => ?_, fun u hu => ?_, fun j => ?_⟩
    · simp [World.cell?, hh, h3 (i * 2) (by omega), hu]
    · simp [World.cell?, hh, h3 (i * 2 + 1) (by omega), hu]
    · simp [World.frozen?, hh]
theorem Sol.clause (h : Sol z M mb F V s w) (hz : z ≤ 40) {i : Nat} (hi : i < s.C.length) : ∃ g cap, F 2 = .slice (some ⟨g, 0, none⟩) s.C.length cap ∧ s.C.length ≤ maxLen ∧ w.cell? ⟨g, i * 2, none⟩ = some (.int .u64 (s.cl i).1) ∧ w.cell? ⟨g, i * 2 + 1, none⟩ = some (.int .u64 (s.cl i).2) := by
  have hr : w.ownsRow 0 51 2 (F 2) s.C.length (flatC s.C) := h.rows 1001 (by omega)
  obtain ⟨g, cap, e, hm, h1, h2, _⟩ := row_cells hr hi
  obtain ⟨g1, g2⟩ := flatC_get s.C i hi
  exact ⟨g, cap, e, hm, h1 _ g1, h2 _ g2⟩
theorem Sol.watch (h : Sol z M mb F V s w) (hz : z ≤ 40) {i : Nat} (hi : i < s.W.length) : ∃ g cap, F 3 = .slice (some ⟨g, 0, none⟩) s.W.length cap ∧ s.W.length ≤ maxLen ∧ w.cell? ⟨g, i * 2, none⟩ = some (.int .i64 (s.wt i).1) ∧ w.cell? ⟨g, i * 2 + 1, none⟩ = some (.int .i64 (s.wt i).2) ∧ (∀ j, w.frozen? ⟨g, j, none⟩ = false) := by
  have hr : w.ownsRow 0 83 2 (F 3) s.W.length (flatP s.W) := h.rows 1002 (by omega)
  obtain ⟨g, cap, e, hm, h1, h2, h3⟩ := row_cells hr hi
  obtain ⟨g1, g2⟩ := flatP_get s.W i hi
  exact ⟨g, cap, e, hm, h1 _ g1, h2 _ g2, h3⟩
theorem Sol.setWatch (h : Sol z M mb F V s w) (hz : z ≤ 40) {i : Nat} (hi : i < s.W.length) {g cap : Nat} (hv : F 3 = .slice (some ⟨g, 0, none⟩) s.W.length cap) (p : Int × Int) :
    Sol z M mb F V { s with W := s.W.set i p } ((w.setCell ⟨g, i * 2, none⟩ (.int .i64 p.1)).setCell ⟨g, i * 2 + 1, none⟩ (.int .i64 p.2)) ∧ Chg M mb (blk z F V) (blk z F V) w ((w.setCell ⟨g, i * 2, none⟩ (.int .i64 p.1)).setCell ⟨g, i * 2 + 1, none⟩ (.int .i64 p.2)) := by
  have h2 : (1002 : Int) ≠ z := by omega
  have hr : w.ownsRow 0 83 2 (F 3) s.W.length (flatP s.W) := h.rows 1002 h2
  have hbk : blk z F V 1002 = some g := by rw [blk_ne h2]; show (F 3).ownBlock = _; rw [hv]; rfl
  obtain ⟨hgM, hgm⟩ := h.off 1002 g hbk
  obtain ⟨e1, e2, e3, e4⟩ := setCell_os w ⟨g, i * 2, none⟩ (.int .i64 p.1)
  obtain ⟨g1, g2, g3, g4⟩ := setCell_os (w.setCell ⟨g, i * 2, none⟩ (.int .i64 p.1)) ⟨g, i * 2 + 1, none⟩ (.int .i64 p.2)
  have hblk : ∀ j, j ≠ g → ((w.setCell ⟨g, i * 2, none⟩ (.int .i64 p.1)).setCell ⟨g, i * 2 + 1, none⟩ (.int .i64 p.2)).heap[j]? = w.heap[j]? := fun j hj => (Below.heap_setCell _ _ _ _ (by simpa using hj)).trans (Below.heap_setCell _ _ _ _ (by simpa using hj))
  obtain ⟨D, hD, hV⟩ := h.map
  refine h.step 1002 h2 (World.rowIs.of_block h.cells (hblk M (fun e => hgM e.symm))) h.f0 h.f4 h.f5 h.f6 h.f10 h.fx ⟨D, ?_, hV⟩ (fun a ha hza => ⟨rfl, fun v w hq => ?_⟩) (fun j hj j1 j2 j3 => hblk j (fun e => j3 (by show some j = (F 3).ownBlock; rw [hv, e]; rfl))) ?_ (.inl rfl) (g1.trans e1) (g2.trans e2) (g3.trans e3) (by rw [g4, e4]; exact Nat.le_refl _)
  · obtain ⟨es, clock, q1, q2⟩ := hD
    exact ⟨es, clock, by rw [hblk mb (fun e => hgm e.symm)]; exact q1, q2⟩
  · unfold RowA at hq ⊢
    simpa [ha] using hq
  · show World.ownsRow _ 0 83 2 (F 3) (s.W.set i p).length (flatP (s.W.set i p))
    rw [hv] at hr ⊢
    rw [List.length_set]
    rcases hr.2 with ⟨q, _⟩ | ⟨g', cap', cur, q, q1, q2, q3, q4, q5, q6⟩
    · cases q
    · injection q with qa qb qc
      injection qa with qa
      injection qa with qa
      subst qa qc
      refine ⟨by rw [flatP_len, List.length_set], .inr ⟨g, cap, (cur.setIfInBounds (i * 2) (.int .i64 p.1)).setIfInBounds (i * 2 + 1) (.int .i64 p.2), rfl, Nat.zero_le _, ?_, q3, q4, by simpa using q5, ?_⟩⟩
      · have := heap_setCell_same w g (i * 2) cur 83 (.int .i64 p.1) q2
        exact heap_setCell_same _ g (i * 2 + 1) _ 83 (.int .i64 p.2) this
      · rw [flatP_set, ← q6]
        simp only [Array.toList_setIfInBounds]
        rw [List.take_set, List.take_set]
end
end Go.Proofs.YtbahjpheaaiamaaDoor.solPush

/- A solver in memory while the row of one literal is gone through and written; conditions: none. -/
namespace Go.Proofs.YtbahjpheaaiamaaDoor.solLoop
open Go.RowKit Go.Deep Go.Maps Go base sets setsOf solSets solOps solMath solHold solMem solFail solDue solExpect solPush
set_option linter.unusedVariables false
set_option linter.unusedSimpArgs false

section
variable {z : Int} {M mb : Nat} {F : Nat → Value} {V : Int → Value} {s : Sv} {w : World}
theorem blk_lift {x a : Int} {g : Nat} (h : blk x F V a = some g) (hx : a ≠ 0) : blk 0 F V a = some g := by
  obtain ⟨h1, h2⟩ := blk_val h
  rw [blk_ne hx]; exact h2
theorem nil_zero (h : Sol 0 M mb F V s w) (hv : V 0 = nilV) {x : Int} {g : Nat} : blk x F V 0 ≠ some g := fun e => by
  obtain ⟨_, h2⟩ := blk_val e
  rw [valV (by omega), hv] at h2
  cases h2
theorem Sol.part (h : Sol 0 M mb F V s w) (hv : V 0 = nilV) (x : Int) : Sol x M mb F V s w := by
  have up : ∀ a g, blk x F V a = some g → blk 0 F V a = some g := fun a g hb => by
    by_cases e : a = 0
    · subst e; exact absurd hb (nil_zero h hv)
    · exact blk_lift hb e
  refine ⟨h.cells, h.f0, h.f4, h.f5, h.f6, h.f10, h.fx, h.map, fun a ha => ?_, fun a b g hab h1 h2 => h.apart a b g hab (up a g h1) (up b g h2), fun a g hb => h.off a g (up a g hb), h.ne, h.tab, ⟨h.tabo.1, h.tabo.2.1, fun a e => h.tabo.2.2 a (up a _ e)⟩⟩
  by_cases e : a = 0
  · subst e
    rw [valV (by omega), hv]
    unfold RowA
    simp
  · exact h.rows a e
/-- The blocks of a solver of which x's row is told apart. -/
def beta (x : Int) (bx : Option Nat) (F : Nat → Value) (V : Int → Value) (a : Int) : Option Nat := if a = x then bx else blk x F V a
theorem chg_beta {x : Int} {bx : Option Nat} {F' : Nat → Value} {V' : Int → Value} {w' : World} (h : Chg M mb (blk x F V) (blk x F' V') w w') : Chg M mb (beta x bx F V) (beta x bx F' V') w w' := by
  refine ⟨h.os, h.tape, h.output, h.size, fun j hj h1 h2 h3 => h.block j hj h1 h2 fun a e => ?_, fun a j hb => ?_⟩
  · have ha := (blk_val e).1
    exact h3 a (by unfold beta; rw [if_neg ha]; exact e)
  · unfold beta at hb ⊢
    by_cases e : a = x
    · rw [if_pos e] at hb ⊢; exact .inl hb
    · rw [if_neg e] at hb ⊢; exact h.news a j hb
/-- The row of x is put back. -/
theorem Sol.back {x : Int} (h : Sol x M mb F V s w) (h0 : -40 ≤ x) (h1 : x ≤ 40) (hx : x ≠ 0) {v' : Value} (r : List Nat) (ho : w.ownsRow 0 3 1 v' r.length (intsN r)) (hap : ∀ g, v'.ownBlock = some g → g ≠ M ∧ g ≠ mb ∧ g ≠ 0 ∧ ∀ a, blk x F V a ≠ some g) (hv0 : V 0 = nilV) :
    ∃ w2, (Instr.mapUpdate 63 (.map (some mb)) (.int .i64 x) v').run Tryd.prog w = .ok () w2 ∧ Sol 0 M mb F (updV V x v') { s with L := solMath.upd s.L x r } w2 ∧ Chg M mb (beta x v'.ownBlock F V) (blk 0 F (updV V x v')) w w2 := by
  obtain ⟨D, hD, hV⟩ := h.map
  obtain ⟨w2, hr, hD2, hg2⟩ := hD.update keyed Tryd.underlying63 (by unfold maxLen; omega) (key_of h0 h1) (show hE v' = some (.held v', []) from rfl)
  have hV2 := mapV_put hV h0 h1 v'
  have hval : ∀ a, valA F (updV V x v') a = if a = x then v' else valA F V a := fun a => by
    unfold valA updV
    by_cases e1 : a = 1001
    · subst e1; simp; omega
    by_cases e2 : a = 1002
    · subst e2; simp; omega
    by_cases e3 : a = 1003
    · subst e3; simp; omega
    by_cases e4 : a = 1004
    · subst e4; simp; omega
    by_cases e5 : a = 1005
    · subst e5; simp; omega
    simp [e1, e2, e3, e4, e5]
  have hbk : ∀ a g, blk 0 F (updV V x v') a = some g → beta x v'.ownBlock F V a = some g := fun a g hb => by
    obtain ⟨q1, q2⟩ := blk_val hb
    rw [hval] at q2
    unfold beta
    by_cases e : a = x
    · rw [if_pos e] at q2 ⊢; exact q2
    · rw [if_neg e] at q2 ⊢; rw [blk_ne e]; exact q2
  have hbeta : ∀ a g, beta x v'.ownBlock F V a = some g → g ≠ M ∧ g ≠ mb ∧ g ≠ 0 := fun a g hb => by
    unfold beta at hb
    by_cases e : a = x
    · rw [if_pos e] at hb; have := hap g hb; exact ⟨this.1, this.2.1, this.2.2.1⟩
    · rw [if_neg e] at hb
      exact ⟨(h.off a g hb).1, (h.off a g hb).2, fun e2 => h.tabo.2.2 a (by rw [← e2]; exact hb)⟩
  have hblock : ∀ j, j < w.heap.size → j ≠ mb → w2.heap[j]? = w.heap[j]? := fun j hj hne => hg2.block j hj (by simpa using hne)
  refine ⟨w2, hr, ⟨World.rowIs.of_block h.cells (hblock M h.lt.1 h.ne), h.f0, h.f4, h.f5, h.f6, h.f10, h.fx, ⟨_, (map_tight hD2).mono (map_few hV2), hV2⟩, fun a ha => ?_, fun a b g hab q1 q2 => ?_, fun a g hb => ⟨(hbeta a g (hbk a g hb)).1, (hbeta a g (hbk a g hb)).2.1⟩, h.ne, fun j hj => ?_, ⟨h.tabo.1, h.tabo.2.1, fun a e => (hbeta a _ (hbk a _ e)).2.2 rfl⟩⟩, ⟨hg2.os, hg2.tape, hg2.output, hg2.size, fun j hj _ q2 _ => hblock j hj q2, fun a j hb => .inl (hbk a j hb)⟩⟩
  · rw [hval]
    by_cases e : a = x
    · subst e
      rw [if_pos rfl, rowV h0 h1 hx]
      show w2.ownsRow 0 3 1 v' (solMath.upd s.L a r a).length (intsN (solMath.upd s.L a r a))
      unfold solMath.upd
      rw [if_pos rfl]
      exact own_kept ho fun g hg => hblock g (World.ownsRow.lt ho g hg).2 (hap g hg).2.1
    · rw [if_neg e]
      have hrow := h.rows a e
      have h9 : RowA { s with L := solMath.upd s.L x r } a (valA F V a) w := by
        unfold RowA at hrow ⊢
        simpa [solMath.upd, e] using hrow
      refine row_kept h9 fun g hg => hblock g (row_lt hrow g hg) ?_
      exact (h.off a g (by rw [blk_ne e]; exact hg)).2
  · have q1' := hbk a g q1
    have q2' := hbk b g q2
    unfold beta at q1' q2'
    by_cases ea : a = x
    · rw [if_pos ea] at q1'
      rw [if_neg (fun e => hab (ea.trans e.symm))] at q2'
      exact (hap g q1').2.2.2 b q2'
    · rw [if_neg ea] at q1'
      by_cases eb : b = x
      · rw [if_pos eb] at q2'
        exact (hap g q2').2.2.2 a q1'
      · rw [if_neg eb] at q2'
        exact h.apart a b g hab q1' q2'
  · have hc := h.tab j hj
    have hlt := World.block_lt_of_cell? _ _ hc
    rw [World.cell?_of_block (a := ⟨0, j, none⟩) (hblock _ hlt h.tabo.2.1)]
    exact hc
end
theorem mvs_append (x : Int) : ∀ (A B : List Nat) (s : Sv) (k : List Nat), mvs x (A ++ B) s k = mvs x B (mvs x A s k).1 (mvs x A s k).2
  | [], B, s, k => rfl
  | a :: A, B, s, k => by rw [List.cons_append, mvs, mvs, mvs_append x A B]
theorem mvs_pre {H0 : LS} {l : Int} : ∀ (A B : List Nat) (s : Sv) (k : List Nat), Mid s H0 l k (A ++ B) → Mid (mvs (-l) A s k).1 H0 l (mvs (-l) A s k).2 B
  | [], B, s, k, h => h
  | a :: A, B, s, k, h => mvs_pre A B _ _ (mv_mid h)
/-- The row of which what is kept is written from its beginning on. -/
def Kp (w : World) (na : Option Addr) (n nc : Nat) (R kept : List Nat) (j : Nat) : Prop :=
  (na = none ∧ n = 0 ∧ nc = 0 ∧ kept = []) ∨ ∃ g cur, na = some ⟨g, 0, none⟩ ∧ n ≤ nc ∧ nc ≤ maxLen ∧ kept.length ≤ j ∧ w.heap[g]? = some (.cells cur 3 (0, 0)) ∧ cur.size = nc ∧ (∀ i, i < kept.length → cur[i]? = some (.int .i64 ((kept[i]?.getD 0 : Nat) : Int))) ∧ (∀ i, j ≤ i → i < n → cur[i]? = some (.int .i64 ((R[i]?.getD 0 : Nat) : Int)))
theorem ints_get {D : List Nat} {i : Nat} (h : i < D.length) : (intsN D)[i]? = some (.int .i64 ((D[i]?.getD 0 : Nat) : Int)) := by
  unfold intsN
  rw [List.getElem?_map, List.getElem?_eq_getElem h]
  rfl
theorem kp_start {w : World} {v : Value} {R : List Nat} (h : w.ownsRow 0 3 1 v R.length (intsN R)) : ∃ na nc, v = .slice na R.length nc ∧ Kp w na R.length nc R [] 0 := by
  rcases h.2 with ⟨rfl, h0⟩ | ⟨g, cap, cur, rfl, _, hh, hn, hm, hs, ht⟩
  · exact ⟨none, 0, by rw [h0], .inl ⟨rfl, h0, rfl, rfl⟩⟩
  · refine ⟨_, cap, rfl, .inr ⟨g, cur, rfl, hn, hm, Nat.zero_le _, hh, by simpa using hs, fun i hi => (by simp at hi), fun i _ hi => ?_⟩⟩
    have : (cur.toList.take (R.length * 1))[i]? = (intsN R)[i]? := by rw [ht]
    rw [List.getElem?_take, if_pos (by omega), ints_get hi] at this
    rw [← Array.getElem?_toList, this]
theorem kp_keep {w w1 : World} {na : Option Addr} {n nc j : Nat} {R kept : List Nat} (h : Kp w na n nc R kept j) (hb : ∀ g, na = some ⟨g, 0, none⟩ → w1.heap[g]? = w.heap[g]?) : Kp w1 na n nc R kept j := by
  rcases h with h | ⟨g, cur, e, h1, h2, h3, h4, h5⟩
  · exact .inl h
  · exact .inr ⟨g, cur, e, h1, h2, h3, by rw [hb g e]; exact h4, h5⟩
theorem kp_skip {w : World} {na : Option Addr} {n nc j : Nat} {R kept : List Nat} (h : Kp w na n nc R kept j) : Kp w na n nc R kept (j + 1) := by
  rcases h with h | ⟨g, cur, e, h1, h2, h3, h4, h5, h6, h7⟩
  · exact .inl h
  · exact .inr ⟨g, cur, e, h1, h2, by omega, h4, h5, h6, fun i hi => h7 i (by omega)⟩
theorem kp_put {w : World} {g n nc j i : Nat} {R kept : List Nat} (h : Kp w (some ⟨g, 0, none⟩) n nc R kept j) (hj : j < n) : Kp (w.setCell ⟨g, kept.length, none⟩ (.int .i64 (i : Int))) (some ⟨g, 0, none⟩) n nc R (kept ++ [i]) (j + 1) := by
  rcases h with ⟨h, _⟩ | ⟨g', cur, e, h1, h2, h3, h4, h5, h6, h7⟩
  · cases h
  · injection e with e
    injection e with e
    subst e
    refine .inr ⟨g, cur.setIfInBounds kept.length (.int .i64 i), rfl, h1, h2, by simp; omega, heap_setCell_same w g kept.length cur 3 (.int .i64 i) h4, by simpa using h5, fun q hq => ?_, fun q hq1 hq2 => ?_⟩
    · rw [Array.getElem?_setIfInBounds]
      by_cases e : kept.length = q
      · subst e
        rw [if_pos rfl, if_pos (by omega)]
        simp
      · rw [if_neg e]
        simp at hq
        rw [h6 q (by omega), List.getElem?_append_left (by omega)]
    · rw [Array.getElem?_setIfInBounds, if_neg (by omega)]
      exact h7 q (by omega) hq2
theorem kp_own {w : World} {na : Option Addr} {n nc j : Nat} {R kept : List Nat} (h : Kp w na n nc R kept j) (hj : j ≤ n) : w.ownsRow 0 3 1 (.slice na kept.length nc) kept.length (intsN kept) := by
  rcases h with ⟨rfl, _, rfl, rfl⟩ | ⟨g, cur, rfl, h1, h2, h3, h4, h5, h6, h7⟩
  · exact World.ownsRow_nil _ _ _ _
  · refine ⟨by simp [intsN], .inr ⟨g, nc, cur, rfl, Nat.zero_le _, h4, by omega, h2, by omega, ?_⟩⟩
    apply List.ext_getElem?
    intro i
    rw [List.getElem?_take]
    by_cases hi : i < kept.length
    · rw [if_pos (by omega), Array.getElem?_toList, h6 i hi, ints_get hi]
    · rw [if_neg (by omega), List.getElem?_eq_none (by simp [intsN]; omega)]
theorem kp_cell {w : World} {na : Option Addr} {n nc j : Nat} {R kept : List Nat} (h : Kp w na n nc R kept j) (hj : j < n) : ∃ g, na = some ⟨g, 0, none⟩ ∧ w.cell? ⟨g, j, none⟩ = some (.int .i64 ((R[j]?.getD 0 : Nat) : Int)) ∧ kept.length ≤ j ∧ n ≤ nc ∧ nc ≤ maxLen ∧ (∀ i, i < nc → (w.cell? ⟨g, i, none⟩).isSome = true) ∧ (∀ i, w.frozen? ⟨g, i, none⟩ = false) ∧ g < w.heap.size := by
  rcases h with ⟨_, h, _⟩ | ⟨g, cur, rfl, h1, h2, h3, h4, h5, h6, h7⟩
  · omega
  · refine ⟨g, rfl, by simp [World.cell?, h4, h7 j (Nat.le_refl _) hj], h3, h1, h2, fun i hi => by simp [World.cell?, h4, Array.getElem?_eq_getElem (show i < cur.size by omega)], fun i => by simp [World.frozen?, h4], (Array.getElem?_eq_some_iff.1 h4).1⟩
theorem wpList_put {P : Program} (w w' : World) {ops : Array Oper} {rest : List Oper} {o : Oper} {a : Act} {Q : Exit → Act → World → Prop} (hg : o.guard = none) (m x v : Operand) (t : TypeId) (hop : o.op = Op.mapUpdate t m x v) (mv kv vv : Value) (hm : a.eval m = mv) (hx : a.eval x = kv) (hv : a.eval v = vv) (hr : (Instr.mapUpdate t mv kv vv).run P w = .ok () w') (h : wpList P ops Q rest (a.put o.dst undef) w') : wpList P ops Q (o :: rest) a w := by
  refine wpList_plain hg fun K' hK' => ?_
  unfold Oper.wp
  simp [execOp, hop, hm, hx, hv, hr, Result.andThen]
  exact hK' _ _ h
end Go.Proofs.YtbahjpheaaiamaaDoor.solLoop
