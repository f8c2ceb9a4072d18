/- SolFail; SolExpect: one text, so that the claim has fewer files. -/
import Derived.Test.YtolejaegnkcjjaaDoorSolMem
import Derived.Test.YtolejaegnkcjjaaDoorSolDue
/- A solver of the program: it notes that a clause is false (fail); its cells are written; conditions: none. -/
namespace Go.Proofs.YtolejaegnkcjjaaDoor.solFail
open Go.RowKit Go.Deep Go.Maps Go base sets setsOf solSets solOps solMath solHold solMem
set_option linter.unusedVariables false
set_option linter.unusedSimpArgs false

section
variable {z : Int} {M mb : Nat} {F : Nat → Value} {V : Int → Value} {s : Sv} {w : World}
/-- The solver's own cells alone are written. -/
theorem Sol.cellsM (h : Sol z M mb F V s w) (hz : z ≤ 40) {F' : Nat → Value} {s' : Sv} {w' : World} (cells : w'.rowIs M 72 56 F') (f0 : F' 0 = .int .i64 s'.n) (f4 : F' 4 = .map (some mb)) (f5 : F' 5 = .int .u64 s'.H.1) (f6 : F' 6 = .int .u64 s'.H.2) (f10 : F' 10 = .int .i64 s'.F) (fx : ∀ j, (j = 1 ∨ 11 ≤ j) → F' j = s'.X j)
    (same : ∀ a, valA F' V a = valA F V a ∧ (∀ v w, RowA s a v w → RowA s' a v w)) (blocks : ∀ j, j ≠ M → w'.heap[j]? = w.heap[j]?) (os : w'.os = w.os) (tape : w'.tape = w.tape) (output : w'.output = w.output) (size : w.heap.size ≤ w'.heap.size) :
    Sol z M mb F' V s' w' ∧ Chg M mb (blk z F V) (blk z F' V) w w' := by
  have h0 : (1001 : Int) ≠ z := by omega
  obtain ⟨D, hD, hV⟩ := h.map
  refine h.step 1001 h0 cells f0 f4 f5 f6 f10 fx ⟨D, by
    obtain ⟨es, clock, h1, h2⟩ := hD
    exact ⟨es, clock, by rw [blocks mb (fun e => h.ne e.symm)]; exact h1, h2⟩, hV⟩ (fun a _ _ => same a) (fun j _ h1 _ _ => blocks j h1) ?_ (.inl (by rw [(same 1001).1])) os tape output size
  rw [(same 1001).1]
  refine row_kept ((same 1001).2 _ _ (h.rows 1001 h0)) fun g hg => blocks g ?_
  have hb : blk z F V 1001 = some g := by rw [blk_ne h0]; exact hg
  exact (h.off _ g hb).1
theorem setCell_os (w : World) (a : Addr) (v : Value) : (w.setCell a v).os = w.os ∧ (w.setCell a v).tape = w.tape ∧ (w.setCell a v).output = w.output ∧ (w.setCell a v).heap.size = w.heap.size := by
  refine ⟨?_, ?_, ?_, ?_⟩ <;> simp [World.setCell]
theorem Sol.setFail (h : Sol z M mb F V s w) (hz : z ≤ 40) (f : Int) :
    Sol z M mb (fun j => if j = 10 then .int .i64 f else F j) V { s with F := f } (w.setCell ⟨M, 10, none⟩ (.int .i64 f)) ∧ Chg M mb (blk z F V) (blk z (fun j => if j = 10 then .int .i64 f else F j) V) w (w.setCell ⟨M, 10, none⟩ (.int .i64 f)) := by
  obtain ⟨e1, e2, e3, e4⟩ := setCell_os w ⟨M, 10, none⟩ (.int .i64 f)
  exact Sol.cellsM h hz (World.rowIs.set h.cells 10 _) h.f0 h.f4 h.f5 h.f6 rfl (fun j hj => by dsimp only; rw [if_neg (by omega)]; exact h.fx j hj) (fun a => ⟨rfl, fun v w hr => hr⟩) (fun j hj => Below.heap_setCell _ _ _ _ (by simpa using hj)) e1 e2 e3 (by omega)
theorem Sol.setHeld (h : Sol z M mb F V s w) (hz : z ≤ 40) (H : LS) :
    Sol z M mb (fun j => if j = 6 then .int .u64 H.2 else if j = 5 then .int .u64 H.1 else F j) V { s with H := H } ((w.setCell ⟨M, 5, none⟩ (.int .u64 H.1)).setCell ⟨M, 6, none⟩ (.int .u64 H.2)) ∧ Chg M mb (blk z F V) (blk z (fun j => if j = 6 then .int .u64 H.2 else if j = 5 then .int .u64 H.1 else F j) V) w ((w.setCell ⟨M, 5, none⟩ (.int .u64 H.1)).setCell ⟨M, 6, none⟩ (.int .u64 H.2)) := by
  obtain ⟨e1, e2, e3, e4⟩ := setCell_os w ⟨M, 5, none⟩ (.int .u64 H.1)
  obtain ⟨g1, g2, g3, g4⟩ := setCell_os (w.setCell ⟨M, 5, none⟩ (.int .u64 H.1)) ⟨M, 6, none⟩ (.int .u64 H.2)
  exact Sol.cellsM h hz (World.rowIs.set (World.rowIs.set h.cells 5 _) 6 _) h.f0 h.f4 rfl rfl h.f10 (fun j hj => by dsimp only; rw [if_neg (by omega), if_neg (by omega)]; exact h.fx j hj) (fun a => ⟨rfl, fun v w hr => hr⟩) (fun j hj => (Below.heap_setCell _ _ _ _ (by simpa using hj)).trans (Below.heap_setCell _ _ _ _ (by simpa using hj))) (g1.trans e1) (g2.trans e2) (g3.trans e3) (by omega)
end
set_option maxHeartbeats 800000 in
theorem fail_impl (z : Int) (M mb : Nat) (F : Nat → Value) (V : Int → Value) (s : Sv) (w : World) (h : Sol z M mb F V s w) (hz : z ≤ 40) (i : Nat) (hi : i ≤ 1000000) (hf : -1 ≤ s.F ∧ s.F ≤ 1000000) :
    Calls Tryd.prog 56 #[.pointer (some ⟨M, 0, none⟩), .int .i64 i] w fun e w' => e = .returned (.tuple #[]) ∧ ∃ F', Sol z M mb F' V { s with F := failF s.F i } w' ∧ Chg M mb (blk z F V) (blk z F' V) w w' ∧ F' 2 = F 2 := by
  have c := h.cell (i := 10) (by omega)
  rw [h.f10] at c
  have fr := h.frozen 10
  have HS := hid h
  obtain ⟨f, hf9⟩ : ∃ f, s.F = f := ⟨_, rfl⟩
  rw [hf9] at c hf
  have HF := hid hf9
  clear h hf9
  have e0 : (if s.F = -1 ∨ (i : Int) < s.F then (i : Int) else s.F) = failF s.F i := rfl
  by_cases h1 : f = -1
  · have HR : Hid (failF s.F i = i) := hid (by unfold failF; rw [HF.out, if_pos (.inl h1)])
    have d1 : (f == -1) = true := by simp [h1]
    clear h1
    go_enter Tryd.func56, Tryd.ntmps56
    go_wp2
    go_end0
    obtain ⟨h2, h3⟩ := Sol.setFail HS.out hz i
    exact ⟨rfl, _, by rw [HR.out]; exact h2, h3, rfl⟩
  · have d1 : (f == -1) = false := by simp [h1]
    by_cases h2 : (i : Int) < f
    · have HR : Hid (failF s.F i = i) := hid (by unfold failF; rw [HF.out, if_pos (.inr h2)])
      clear h1
      go_enter Tryd.func56, Tryd.ntmps56
      go_wp2
      go_end0
      obtain ⟨h2, h3⟩ := Sol.setFail HS.out hz i
      exact ⟨rfl, _, by rw [HR.out]; exact h2, h3, rfl⟩
    · have HR : Hid (failF s.F i = s.F) := hid (by unfold failF; rw [HF.out, if_neg (by omega)])
      clear h1
      go_enter Tryd.func56, Tryd.ntmps56
      go_wp2
      go_end0
      exact ⟨rfl, F, by rw [HR.out]; exact HS.out.below (by repeat (first | exact Below.refl _ _ | assumption | refine netSem.bdn ?_ _ | refine Below.drew ?_ | refine Below.alloc ?_ (by first | exact Nat.le_refl _ | omega | (simp; done) | (simp; omega)) _)), Chg.below (by repeat (first | exact Below.refl _ _ | assumption | refine netSem.bdn ?_ _ | refine Below.drew ?_ | refine Below.alloc ?_ (by first | exact Nat.le_refl _ | omega | (simp; done) | (simp; omega)) _)), rfl⟩
end Go.Proofs.YtolejaegnkcjjaaDoor.solFail

/- A solver of the program: it notes that a clause is due (expect); a row of it is stored anew; conditions: lengths that fit. -/
namespace Go.Proofs.YtolejaegnkcjjaaDoor.solExpect
open Go.RowKit Go.Deep Go.Maps Go base sets setsOf solSets solOps solMath solHold solMem solFail solDue
set_option linter.unusedVariables false
set_option linter.unusedSimpArgs false

theorem grown_of_below {w w1 : World} {row : Option Nat} (h : Below w.heap.size w w1) : w.grownBy w1 row := ⟨h.os, h.tape, h.output, h.size, fun k hk _ => h.block k hk⟩
theorem valA_set {F : Nat → Value} {V : Int → Value} {v' : Value} {a0 : Int} {c : Nat} (hc : (a0, c) ∈ [((1001 : Int), 2), (1002, 3), (1003, 7), (1004, 8), (1005, 9)]) (a : Int) : valA (fun j => if j = c then v' else F j) V a = if a = a0 then v' else valA F V a := by
  simp only [List.mem_cons, Prod.mk.injEq, List.not_mem_nil, or_false] at hc
  unfold valA
  rcases hc with ⟨rfl, rfl⟩ | ⟨rfl, rfl⟩ | ⟨rfl, rfl⟩ | ⟨rfl, rfl⟩ | ⟨rfl, rfl⟩
  all_goals
    by_cases e1 : a = 1001
    · subst e1; simp
    by_cases e2 : a = 1002
    · subst e2; simp
    by_cases e3 : a = 1003
    · subst e3; simp
    by_cases e4 : a = 1004
    · subst e4; simp
    by_cases e5 : a = 1005
    · subst e5; simp
    simp [e1, e2, e3, e4, e5]
section
variable {z : Int} {M mb : Nat} {F : Nat → Value} {V : Int → Value} {s : Sv} {w : World}
/-- A row has grown, and is stored in the solver's cell. -/
theorem Sol.store (h : Sol z M mb F V s w) (hz : z ≤ 40) {a0 : Int} {c : Nat} (hc : (a0, c) ∈ [((1001 : Int), 2), (1002, 3), (1003, 7), (1004, 8), (1005, 9)]) {v' : Value} {s' : Sv} {w1 : World} (hg : w.grownBy w1 (valA F V a0).ownBlock) (row : RowA s' a0 v' w1)
    (loc : v'.ownBlock = (valA F V a0).ownBlock ∨ v'.ownBlock = none ∨ ∃ g, w.heap.size ≤ g ∧ v'.ownBlock = some g) (same : ∀ a, a ≠ a0 → ∀ v w, RowA s a v w → RowA s' a v w) (hn : s'.n = s.n) (hH : s'.H = s.H) (hF : s'.F = s.F) (hX : s'.X = s.X := by rfl) :
    Sol z M mb (fun j => if j = c then v' else F j) V s' (w1.setCell ⟨M, c, none⟩ v') ∧ Chg M mb (blk z F V) (blk z (fun j => if j = c then v' else F j) V) w (w1.setCell ⟨M, c, none⟩ v') := by
  have ha0 : a0 ≠ z := by simp only [List.mem_cons, Prod.mk.injEq, List.not_mem_nil, or_false] at hc; omega
  have hcc : c ≠ 0 ∧ c ≠ 4 ∧ c ≠ 5 ∧ c ≠ 6 ∧ c ≠ 10 := by simp only [List.mem_cons, Prod.mk.injEq, List.not_mem_nil, or_false] at hc; omega
  have hva : valA (fun j => if j = c then v' else F j) V a0 = v' := by rw [valA_set hc, if_pos rfl]
  have hMb : some M ≠ (valA F V a0).ownBlock := fun e => (h.off a0 M (by rw [blk_ne ha0]; exact e.symm)).1 rfl
  have hmb : some mb ≠ (valA F V a0).ownBlock := fun e => (h.off a0 mb (by rw [blk_ne ha0]; exact e.symm)).2 rfl
  obtain ⟨e1, e2, e3, e4⟩ := setCell_os w1 ⟨M, c, none⟩ v'
  have hoff : ∀ g, v'.ownBlock = some g → g ≠ M := fun g hg' => by
    rcases loc with l | l | ⟨g', l1, l2⟩
    · exact (h.off a0 g (by rw [blk_ne ha0, ← l]; exact hg')).1
    · rw [l] at hg'; cases hg'
    · rw [l2] at hg'; injection hg' with hg'; have := h.lt; omega
  obtain ⟨D, hD, hV⟩ := h.map
  refine h.step a0 ha0 (World.rowIs.set (World.rowIs.of_block h.cells (hg.block M h.lt.1 hMb)) c v') ?_ ?_ ?_ ?_ ?_ ?_ ⟨D, ?_, hV⟩ (fun a ha hza => ⟨by rw [valA_set hc, if_neg ha], same a ha⟩) (fun j hj h1 h2 h3 => ?_) ?_ ?_ (e1.trans hg.os) (e2.trans hg.tape) (e3.trans hg.output) (by rw [e4]; exact hg.size)
  · simp [hcc.1.symm, hn, h.f0]
  · simp [hcc.2.1.symm, h.f4]
  · simp [hcc.2.2.1.symm, hH, h.f5]
  · simp [hcc.2.2.2.1.symm, hH, h.f6]
  · simp [hcc.2.2.2.2.symm, hF, h.f10]
  · intro j hj
    rw [hX, ← h.fx j hj]
    simp only [List.mem_cons, Prod.mk.injEq, List.not_mem_nil, or_false] at hc
    exact if_neg (by omega)
  · obtain ⟨es, clock, h1, h2⟩ := hD
    exact ⟨es, clock, by rw [Below.heap_setCell _ _ _ _ (by simpa using fun e => h.ne e.symm), hg.block mb h.lt.2 hmb]; exact h1, h2⟩
  · rw [Below.heap_setCell _ _ _ _ (by simpa using h1)]
    exact hg.block j hj h3
  · rw [hva]
    exact row_kept row fun g hg' => Below.heap_setCell _ _ _ _ (by simpa using hoff g hg')
  · rw [hva]; exact loc
end
theorem due_form {w : World} {v : Value} {D : List Nat} (h : DueRow w v D) : ∃ a n c, v = .slice a n c := by
  rcases h with ⟨rfl, _⟩ | ⟨g, off, n, cap, rfl, _⟩
  · exact ⟨_, _, _, rfl⟩
  · exact ⟨_, _, _, rfl⟩
theorem search_impl (w : World) (v : Value) (D : List Nat) (i : Nat) (h : DueRow w v D) (hl : D.length ≤ 1000000) (hs : D.Pairwise (· < ·)) :
    Calls Tryd.prog 68 #[v, .int .i64 i] w fun e w' => ∃ b, e = .returned (.tuple #[.int .i64 ((D.countP (· < i) : Nat) : Int), .bool b]) ∧ Below w.heap.size w w' := by
  rcases h with ⟨rfl, rfl⟩ | ⟨g, off, n, cap, rfl, hd⟩
  · refine (Any.slices_BinarySearch_int_empty Tryd.lays2_25 none 0 i w).mono ?_
    rintro e w' ⟨rfl, rfl⟩
    exact ⟨false, rfl, Below.refl _ _⟩
  · have hlen := hd.len
    subst hlen
    refine (Any.slices_BinarySearch_int Tryd.lays2_25 g off D.length cap (D.map (fun x : Nat => (x : Int))) i w (by simp) (by omega) (fun j hj => ?_) ?_).mono ?_
    · have hj : j < D.length := by simpa using hj
      rw [hd.cell j hj]
      simp [List.getD, List.getElem?_eq_getElem hj]
    · rw [List.take_of_length_le (by simp), List.pairwise_map]
      exact hs.imp fun h => by omega
    · rintro e w' ⟨rfl, q, rfl⟩
      refine ⟨(List.take D.length (D.map (fun x : Nat => (x : Int)))).contains (i : Int), ?_, below_drewN w q⟩
      have : List.countP (fun x => decide (x < (i : Int))) (List.take D.length (D.map (fun x : Nat => (x : Int)))) = D.countP (· < i) := by
        rw [List.take_of_length_le (by simp), List.countP_map]
        congr 1
        funext x
        simp
      rw [this]
set_option maxHeartbeats 1600000 in
set_option maxRecDepth 8000 in
theorem expect_impl (z : Int) (M mb : Nat) (F : Nat → Value) (V : Int → Value) (s : Sv) (w : World) (h : Sol z M mb F V s w) (hz : z ≤ 40) (i : Nat) (hi : i ≤ 1000000) (hl : s.D.length ≤ 1000000) (hs : s.D.Pairwise (· < ·)) :
    Calls Tryd.prog 57 #[.pointer (some ⟨M, 0, none⟩), .int .i64 i] w fun e w' => e = .returned (.tuple #[]) ∧ ∃ F', Sol z M mb F' V { s with D := insS i s.D } w' ∧ Chg M mb (blk z F V) (blk z F' V) w w' ∧ F' 2 = F 2 := by
  have hrow : DueRow w (F 9) s.D := h.rows 1005 (by omega)
  have c9 := h.cell (i := 9) (by omega)
  have f9 := h.frozen 9
  have hMlt := h.lt.1
  obtain ⟨k, hk⟩ : ∃ k, s.D.countP (· < i) = k := ⟨_, rfl⟩
  have hkl : k ≤ s.D.length := by rw [← hk]; exact List.countP_le_length
  have hkm : k ≤ 1000000 := by omega
  obtain ⟨v, hv⟩ : ∃ v, F 9 = v := ⟨_, rfl⟩
  have HB := hid (search_impl w (F 9) s.D i hrow hl hs)
  rw [hk, hv] at HB
  have HR : Hid (∀ (W : World), Below w.heap.size w W → Calls Tryd.prog 69 #[v, .int .i64 k, .slice (some ⟨W.heap.size, 0, none⟩) 1 1] (W.alloc (.cells #[.int .i64 i] 3)) fun e w' => ∃ v', e = .returned v' ∧ DueRow w' v' (put1 k i s.D) ∧ w.grownBy w' v.ownBlock ∧ (v'.ownBlock = v.ownBlock ∨ v'.ownBlock = none ∨ ∃ g, w.heap.size ≤ g ∧ v'.ownBlock = some g)) := hid (fun W hb => by
    have hbb : Below w.heap.size w (W.alloc (.cells #[.int .i64 i] 3)) := hb.alloc hb.size _
    have hr : DueRow (W.alloc (.cells #[.int .i64 i] 3)) v s.D := by rw [← hv]; exact due_kept hrow fun g hg => hbb.block g (due_lt hrow g hg)
    refine (insert_impl _ v s.D k i W.heap.size hr hkl hl (fun e => ?_) (Go.heap_alloc_new W _)).mono ?_
    · have := due_lt hrow W.heap.size (by rw [hv]; exact e)
      have := hb.size
      omega
    · rintro e w' ⟨v', rfl, h1, h2, h3⟩
      refine ⟨v', rfl, h1, (grown_of_below hbb).trans h2, ?_⟩
      rcases h3 with h3 | h3
      · exact .inl h3
      · exact .inr (.inr ⟨_, hbb.size, h3⟩))
  have HS := hid h
  have HV := hid hv
  have HK := hid hk
  rw [hv] at c9
  have HM : Hid (∀ W : World, Below w.heap.size w W → W.cell? ⟨M, 9, none⟩ = some v) := hid (fun W hb => keep hb c9)
  have HF : Hid (∀ W : World, w.grownBy W v.ownBlock → W.frozen? ⟨M, 9, none⟩ = false ∧ (W.cell? ⟨M, 9, none⟩).isSome = true) := hid (fun W hg => by
    have hne : some M ≠ v.ownBlock := fun e => (h.off 1005 M (by rw [blk_ne (by omega)]; show (F 9).ownBlock = _; rw [hv]; exact e.symm)).1 rfl
    have hb := hg.block M hMlt hne
    exact ⟨(World.frozen?_of_block (a := ⟨M, 9, none⟩) hb).trans f9, by rw [World.cell?_of_block (a := ⟨M, 9, none⟩) hb, c9]; rfl⟩)
  clear h hrow hv hk hkl hs hl
  go_enter Tryd.func57, Tryd.ntmps57
  go_wp2_with fail
  refine HB.out.mono ?_
  rintro e w1 ⟨b, rfl, hb1⟩
  have H1 := hid hb1
  have c91 := HM.out w1 hb1
  have hz1 : M < w1.heap.size := by have := hb1.size; omega
  clear c9 f9 hb1
  go_wp2_with fail
  refine (HR.out w1 H1.out).mono ?_
  rintro e w2 ⟨v', rfl, h1, h2, h3⟩
  obtain ⟨f2, s2⟩ := HF.out w2 h2
  obtain ⟨y, hy⟩ := Option.isSome_iff_exists.1 s2
  have G1 := hid h1
  have G2 := hid h2
  have G3 := hid h3
  clear h2 h3 c91 hz1 s2
  obtain ⟨va, vn, vc, rfl⟩ := due_form h1
  clear h1
  go_wp2
  go_end0
  obtain ⟨q1, q2⟩ := Sol.store HS.out hz (a0 := 1005) (c := 9) (by simp) (s' := { s with D := insS i s.D }) (w1 := w2) (by show w.grownBy w2 (F 9).ownBlock; rw [HV.out]; exact G2.out) (by show DueRow w2 _ (insS i s.D); unfold insS; rw [HK.out]; exact G1.out) (by show _ = (F 9).ownBlock ∨ _; rw [HV.out]; exact G3.out) (fun a ha v w hr => by unfold RowA at hr ⊢; simpa [ha] using hr) rfl rfl rfl
  exact ⟨rfl, _, q1, q2, rfl⟩
end Go.Proofs.YtolejaegnkcjjaaDoor.solExpect
