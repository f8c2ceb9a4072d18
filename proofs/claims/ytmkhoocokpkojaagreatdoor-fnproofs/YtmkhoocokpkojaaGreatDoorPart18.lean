import Derived.Test.YtmkhoocokpkojaaGreatDoorPart17
import Derived.Test.YtmkhoocokpkojaaGreatDoorPart9
import Derived.Test.YtmkhoocokpkojaaGreatDoorPart10
import Derived.Maps.Own
namespace Go.Proofs.YtmkhoocokpkojaaGreatDoor.solFail
open Go.RowKit Go.Deep Go.Maps Go base sets setsOf solSets solOps solMath solHold solMem
set_option linter.unusedVariables false
set_option linter.unusedSimpArgs false
section
variable {z : Int} {M mb : Nat} {F : Nat → Value} {V : Int → Value} {s : Sv} {w : World}
theorem Sol.cellsM (h : Sol z M mb F V s w) (hz : z ≤ 40) {F' : Nat → Value} {s' : Sv} {w' : World} (cells : w'.rowIs M 72 56 F') (f0 : F' 0 = .int .i64 s'.n) (f4 : F' 4 = .map (some mb)) (f5 : F' 5 = .int .u64 s'.H.1) (f6 : F' 6 = .int .u64 s'.H.2) (f10 : F' 10 = .int .i64 s'.F) (fx : ∀ j, (j = 1 ∨ 11 ≤ j) → F' j = s'.X j)
  (same : ∀ a, valA F' V a = valA F V a ∧ (∀ v w, RowA s a v w → RowA s' a v w)) (blocks : ∀ j, j ≠ M → w'.heap[j]? = w.heap[j]?) (os : w'.os = w.os) (tape : w'.tape = w.tape) (output : w'.output = w.output) (size : w.heap.size ≤ w'.heap.size) :
  Sol z M mb F' V s' w' ∧ Chg M mb (blk z F V) (blk z F' V) w w' := by
 have h0 : (1001 : Int) ≠ z := by omega
 obtain ⟨D, hD, hV⟩ := h.map
 refine h.step 1001 h0 cells f0 f4 f5 f6 f10 fx ⟨D, by
  obtain ⟨es, clock, h1, h2⟩ := hD
  exact ⟨es, clock, by rw [blocks mb (fun e => h.ne e.symm)]; exact h1, h2⟩, hV⟩ (fun a _ _ => same a) (fun j _ h1 _ _ => blocks j h1) ?_ (.inl (by rw [(same 1001).1])) os tape output size
 rw [(same 1001).1]
 refine row_kept ((same 1001).2 _ _ (h.rows 1001 h0)) fun g hg => blocks g ?_
 have hb : blk z F V 1001 = some g := by rw [blk_ne h0]; exact hg
 exact (h.off _ g hb).1
theorem setCell_os (w : World) (a : Addr) (v : Value) : (w.setCell a v).os = w.os ∧ (w.setCell a v).tape = w.tape ∧ (w.setCell a v).output = w.output ∧ (w.setCell a v).heap.size = w.heap.size := by
 refine ⟨?_, ?_, ?_, ?_⟩ <;> simp [World.setCell]
theorem Sol.setFail (h : Sol z M mb F V s w) (hz : z ≤ 40) (f : Int) :
  Sol z M mb (fun j => if j = 10 then .int .i64 f else F j) V { s with F := f } (w.setCell ⟨M, 10, none⟩ (.int .i64 f)) ∧ Chg M mb (blk z F V) (blk z (fun j => if j = 10 then .int .i64 f else F j) V) w (w.setCell ⟨M, 10, none⟩ (.int .i64 f)) := by
 obtain ⟨e1, e2, e3, e4⟩ := setCell_os w ⟨M, 10, none⟩ (.int .i64 f)
 exact Sol.cellsM h hz (World.rowIs.set h.cells 10 _) h.f0 h.f4 h.f5 h.f6 rfl (fun j hj => by dsimp only; rw [if_neg (by omega)]; exact h.fx j hj) (fun a => ⟨rfl, fun v w hr => hr⟩) (fun j hj => Below.heap_setCell _ _ _ _ (by simpa using hj)) e1 e2 e3 (by omega)
theorem Sol.setHeld (h : Sol z M mb F V s w) (hz : z ≤ 40) (H : LS) :
  Sol z M mb (fun j => if j = 6 then .int .u64 H.2 else if j = 5 then .int .u64 H.1 else F j) V { s with H := H } ((w.setCell ⟨M, 5, none⟩ (.int .u64 H.1)).setCell ⟨M, 6, none⟩ (.int .u64 H.2)) ∧ Chg M mb (blk z F V) (blk z (fun j => if j = 6 then .int .u64 H.2 else if j = 5 then .int .u64 H.1 else F j) V) w ((w.setCell ⟨M, 5, none⟩ (.int .u64 H.1)).setCell ⟨M, 6, none⟩ (.int .u64 H.2)) := by
 obtain ⟨e1, e2, e3, e4⟩ := setCell_os w ⟨M, 5, none⟩ (.int .u64 H.1)
 obtain ⟨g1, g2, g3, g4⟩ := setCell_os (w.setCell ⟨M, 5, none⟩ (.int .u64 H.1)) ⟨M, 6, none⟩ (.int .u64 H.2)
 exact Sol.cellsM h hz (World.rowIs.set (World.rowIs.set h.cells 5 _) 6 _) h.f0 h.f4 rfl rfl h.f10 (fun j hj => by dsimp only; rw [if_neg (by omega), if_neg (by omega)]; exact h.fx j hj) (fun a => ⟨rfl, fun v w hr => hr⟩) (fun j hj => (Below.heap_setCell _ _ _ _ (by simpa using hj)).trans (Below.heap_setCell _ _ _ _ (by simpa using hj))) (g1.trans e1) (g2.trans e2) (g3.trans e3) (by omega)
end
set_option maxHeartbeats 800000 in
theorem fail_impl (z : Int) (M mb : Nat) (F : Nat → Value) (V : Int → Value) (s : Sv) (w : World) (h : Sol z M mb F V s w) (hz : z ≤ 40) (i : Nat) (hi : i ≤ 8400000000000) (hf : -1 ≤ s.F ∧ s.F ≤ 8400000000000) :
  Calls Tryz.prog 74 #[.pointer (some ⟨M, 0, none⟩), .int .i64 i] w fun e w' => e = .returned (.tuple #[]) ∧ ∃ F', Sol z M mb F' V { s with F := failF s.F i } w' ∧ Chg M mb (blk z F V) (blk z F' V) w w' ∧ F' 2 = F 2 := by
 have c := h.cell (i := 10) (by omega)
 rw [h.f10] at c
 have fr := h.frozen 10
 have HS := hid h
 obtain ⟨f, hf9⟩ : ∃ f, s.F = f := ⟨_, rfl⟩
 rw [hf9] at c hf
 have HF := hid hf9
 clear h hf9
 have e0 : (if s.F = -1 ∨ (i : Int) < s.F then (i : Int) else s.F) = failF s.F i := rfl
 by_cases h1 : f = -1
 · have HR : Hid (failF s.F i = i) := hid (by unfold failF; rw [HF.out, if_pos (.inl h1)])
   have d1 : (f == -1) = true := by simp [h1]
   clear h1
   go_enter Tryz.func74, Tryz.ntmps74
   go_wp2
   go_end0
   obtain ⟨h2, h3⟩ := Sol.setFail HS.out hz i
   exact ⟨rfl, _, by rw [HR.out]; exact h2, h3, rfl⟩
 · have d1 : (f == -1) = false := by simp [h1]
   by_cases h2 : (i : Int) < f
   · have HR : Hid (failF s.F i = i) := hid (by unfold failF; rw [HF.out, if_pos (.inr h2)])
     clear h1
     go_enter Tryz.func74, Tryz.ntmps74
     go_wp2
     go_end0
     obtain ⟨h2, h3⟩ := Sol.setFail HS.out hz i
     exact ⟨rfl, _, by rw [HR.out]; exact h2, h3, rfl⟩
   · have HR : Hid (failF s.F i = s.F) := hid (by unfold failF; rw [HF.out, if_neg (by omega)])
     clear h1
     go_enter Tryz.func74, Tryz.ntmps74
     go_wp2
     go_end0
     exact ⟨rfl, F, by rw [HR.out]; exact HS.out.below (by repeat (first | exact Below.refl _ _ | assumption | refine netSem.bdn ?_ _ | refine Below.drew ?_ | refine Below.alloc ?_ (by first | exact Nat.le_refl _ | omega | (simp; done) | (simp; omega)) _)), Chg.below (by repeat (first | exact Below.refl _ _ | assumption | refine netSem.bdn ?_ _ | refine Below.drew ?_ | refine Below.alloc ?_ (by first | exact Nat.le_refl _ | omega | (simp; done) | (simp; omega)) _)), rfl⟩
end Go.Proofs.YtmkhoocokpkojaaGreatDoor.solFail
namespace Go.Proofs.YtmkhoocokpkojaaGreatDoor.solExpect
open Go.RowKit Go.Deep Go.Maps Go base sets setsOf solSets solOps solMath solHold solMem solFail solDue
set_option linter.unusedVariables false
set_option linter.unusedSimpArgs false
theorem grown_of_below {w w1 : World} {row : Option Nat} (h : Below w.heap.size w w1) : w.grownBy w1 row := ⟨h.os, h.tape, h.output, h.size, fun k hk _ => h.block k hk⟩
theorem grown_trans {a b c : World} {row : Option Nat} (h : a.grownBy b row) (k : b.grownBy c row) : a.grownBy c row := h.trans k
theorem valA_set {F : Nat → Value} {V : Int → Value} {v' : Value} {a0 : Int} {c : Nat} (hc : (a0, c) ∈ [((1001 : Int), 2), (1002, 3), (1003, 7), (1004, 8), (1005, 9)]) (a : Int) : valA (fun j => if j = c then v' else F j) V a = if a = a0 then v' else valA F V a := by
 simp only [List.mem_cons, Prod.mk.injEq, List.not_mem_nil, or_false] at hc
 unfold valA
 rcases hc with ⟨rfl, rfl⟩ | ⟨rfl, rfl⟩ | ⟨rfl, rfl⟩ | ⟨rfl, rfl⟩ | ⟨rfl, rfl⟩
 all_goals
  by_cases e1 : a = 1001
  · subst e1; simp
  by_cases e2 : a = 1002
  · subst e2; simp
  by_cases e3 : a = 1003
  · subst e3; simp
  by_cases e4 : a = 1004
  · subst e4; simp
  by_cases e5 : a = 1005
  · subst e5; simp
  simp [e1, e2, e3, e4, e5]
section
variable {z : Int} {M mb : Nat} {F : Nat → Value} {V : Int → Value} {s : Sv} {w : World}
theorem Sol.store (h : Sol z M mb F V s w) (hz : z ≤ 40) {a0 : Int} {c : Nat} (hc : (a0, c) ∈ [((1001 : Int), 2), (1002, 3), (1003, 7), (1004, 8), (1005, 9)]) {v' : Value} {s' : Sv} {w1 : World} (hg : w.grownBy w1 (valA F V a0).ownBlock) (row : RowA s' a0 v' w1)
  (loc : v'.ownBlock = (valA F V a0).ownBlock ∨ v'.ownBlock = none ∨ ∃ g, w.heap.size ≤ g ∧ v'.ownBlock = some g) (same : ∀ a, a ≠ a0 → ∀ v w, RowA s a v w → RowA s' a v w) (hn : s'.n = s.n) (hH : s'.H = s.H) (hF : s'.F = s.F) (hX : s'.X = s.X := by rfl) :
  Sol z M mb (fun j => if j = c then v' else F j) V s' (w1.setCell ⟨M, c, none⟩ v') ∧ Chg M mb (blk z F V) (blk z (fun j => if j = c then v' else F j) V) w (w1.setCell ⟨M, c, none⟩ v') := by
 have ha0 : a0 ≠ z := by simp only [List.mem_cons, Prod.mk.injEq, List.not_mem_nil, or_false] at hc; omega
 have hcc : c ≠ 0 ∧ c ≠ 4 ∧ c ≠ 5 ∧ c ≠ 6 ∧ c ≠ 10 := by simp only [List.mem_cons, Prod.mk.injEq, List.not_mem_nil, or_false] at hc; omega
 have hva : valA (fun j => if j = c then v' else F j) V a0 = v' := by rw [valA_set hc, if_pos rfl]
 have hMb : some M ≠ (valA F V a0).ownBlock := fun e => (h.off a0 M (by rw [blk_ne ha0]; exact e.symm)).1 rfl
 have hmb : some mb ≠ (valA F V a0).ownBlock := fun e => (h.off a0 mb (by rw [blk_ne ha0]; exact e.symm)).2 rfl
 obtain ⟨e1, e2, e3, e4⟩ := setCell_os w1 ⟨M, c, none⟩ v'
 have hoff : ∀ g, v'.ownBlock = some g → g ≠ M := fun g hg' => by
  rcases loc with l | l | ⟨g', l1, l2⟩
  · exact (h.off a0 g (by rw [blk_ne ha0, ← l]; exact hg')).1
  · rw [l] at hg'; cases hg'
  · rw [l2] at hg'; injection hg' with hg'; have := h.lt; omega
 obtain ⟨D, hD, hV⟩ := h.map
 refine h.step a0 ha0 (World.rowIs.set (World.rowIs.of_block h.cells (hg.block M h.lt.1 hMb)) c v') ?_ ?_ ?_ ?_ ?_ ?_ ⟨D, ?_, hV⟩ (fun a ha hza => ⟨by rw [valA_set hc, if_neg ha], same a ha⟩) (fun j hj h1 h2 h3 => ?_) ?_ ?_ (e1.trans hg.os) (e2.trans hg.tape) (e3.trans hg.output) (by rw [e4]; exact hg.size)
 · simp [hcc.1.symm, hn, h.f0]
 · simp [hcc.2.1.symm, h.f4]
 · simp [hcc.2.2.1.symm, hH, h.f5]
 · simp [hcc.2.2.2.1.symm, hH, h.f6]
 · simp [hcc.2.2.2.2.symm, hF, h.f10]
 · intro j hj
   rw [hX, ← h.fx j hj]
   simp only [List.mem_cons, Prod.mk.injEq, List.not_mem_nil, or_false] at hc
   exact if_neg (by omega)
 · obtain ⟨es, clock, h1, h2⟩ := hD
   exact ⟨es, clock, by rw [Below.heap_setCell _ _ _ _ (by simpa using fun e => h.ne e.symm), hg.block mb h.lt.2 hmb]; exact h1, h2⟩
 · rw [Below.heap_setCell _ _ _ _ (by simpa using h1)]
   exact hg.block j hj h3
 · rw [hva]
   exact row_kept row fun g hg' => Below.heap_setCell _ _ _ _ (by simpa using hoff g hg')
 · rw [hva]; exact loc
end
theorem due_form {w : World} {v : Value} {D : List Nat} (h : DueRow w v D) : ∃ a n c, v = .slice a n c := by
 rcases h with ⟨rfl, _⟩ | ⟨g, off, n, cap, rfl, _⟩
 · exact ⟨_, _, _, rfl⟩
 · exact ⟨_, _, _, rfl⟩
theorem search_impl (w : World) (v : Value) (D : List Nat) (i : Nat) (h : DueRow w v D) (hl : D.length ≤ 8400000000000) (hs : D.Pairwise (· < ·)) :
  Calls Tryz.prog 92 #[v, .int .i64 i] w fun e w' => ∃ b, e = .returned (.tuple #[.int .i64 ((D.countP (· < i) : Nat) : Int), .bool b]) ∧ Below w.heap.size w w' := by
 rcases h with ⟨rfl, rfl⟩ | ⟨g, off, n, cap, rfl, hd⟩
 · refine (Any.slices_BinarySearch_int_empty Tryz.lays2_25 none 0 i w).mono ?_
   rintro e w' ⟨rfl, rfl⟩
   exact ⟨false, rfl, Below.refl _ _⟩
 · have hlen := hd.len
   subst hlen
   refine (Any.slices_BinarySearch_int Tryz.lays2_25 g off D.length cap (D.map (fun x : Nat => (x : Int))) i w (by simp) (by omega) (fun j hj => ?_) ?_).mono ?_
   · have hj : j < D.length := by simpa using hj
     rw [hd.cell j hj]
     simp [List.getD, List.getElem?_eq_getElem hj]
   · rw [List.take_of_length_le (by simp), List.pairwise_map]
     exact hs.imp fun h => by omega
   · rintro e w' ⟨rfl, q, rfl⟩
     refine ⟨(List.take D.length (D.map (fun x : Nat => (x : Int)))).contains (i : Int), ?_, below_drewN w q⟩
     have : List.countP (fun x => decide (x < (i : Int))) (List.take D.length (D.map (fun x : Nat => (x : Int)))) = D.countP (· < i) := by
      rw [List.take_of_length_le (by simp), List.countP_map]
      congr 1
      funext x
      simp
     rw [this]
set_option maxHeartbeats 1600000 in
set_option maxRecDepth 8000 in
theorem expect_impl (z : Int) (M mb : Nat) (F : Nat → Value) (V : Int → Value) (s : Sv) (w : World) (h : Sol z M mb F V s w) (hz : z ≤ 40) (i : Nat) (hi : i ≤ 8400000000000) (hl : s.D.length ≤ 8400000000000) (hs : s.D.Pairwise (· < ·)) :
  Calls Tryz.prog 75 #[.pointer (some ⟨M, 0, none⟩), .int .i64 i] w fun e w' => e = .returned (.tuple #[]) ∧ ∃ F', Sol z M mb F' V { s with D := insS i s.D } w' ∧ Chg M mb (blk z F V) (blk z F' V) w w' ∧ F' 2 = F 2 := by
 have hrow : DueRow w (F 9) s.D := h.rows 1005 (by omega)
 have c9 := h.cell (i := 9) (by omega)
 have f9 := h.frozen 9
 have hMlt := h.lt.1
 obtain ⟨k, hk⟩ : ∃ k, s.D.countP (· < i) = k := ⟨_, rfl⟩
 have hkl : k ≤ s.D.length := by rw [← hk]; exact List.countP_le_length
 have hkm : k ≤ 8400000000000 := by omega
 obtain ⟨v, hv⟩ : ∃ v, F 9 = v := ⟨_, rfl⟩
 have HB := hid (search_impl w (F 9) s.D i hrow hl hs)
 rw [hk, hv] at HB
 have HR : Hid (∀ (W : World), Below w.heap.size w W → Calls Tryz.prog 93 #[v, .int .i64 k, .slice (some ⟨W.heap.size, 0, none⟩) 1 1] (W.alloc (.cells #[.int .i64 i] 3)) fun e w' => ∃ v', e = .returned v' ∧ DueRow w' v' (put1 k i s.D) ∧ w.grownBy w' v.ownBlock ∧ (v'.ownBlock = v.ownBlock ∨ v'.ownBlock = none ∨ ∃ g, w.heap.size ≤ g ∧ v'.ownBlock = some g)) := hid (fun W hb => by
  have hbb : Below w.heap.size w (W.alloc (.cells #[.int .i64 i] 3)) := hb.alloc hb.size _
  have hr : DueRow (W.alloc (.cells #[.int .i64 i] 3)) v s.D := by rw [← hv]; exact due_kept hrow fun g hg => hbb.block g (due_lt hrow g hg)
  refine (insert_impl _ v s.D k i W.heap.size hr hkl hl (fun e => ?_) (Go.heap_alloc_new W _)).mono ?_
  · have := due_lt hrow W.heap.size (by rw [hv]; exact e)
    have := hb.size
    omega
  · rintro e w' ⟨v', rfl, h1, h2, h3⟩
    refine ⟨v', rfl, h1, (grown_of_below hbb).trans h2, ?_⟩
    rcases h3 with h3 | h3
    · exact .inl h3
    · exact .inr (.inr ⟨_, hbb.size, h3⟩))
 have HS := hid h
 have HV := hid hv
 have HK := hid hk
 rw [hv] at c9
 have HM : Hid (∀ W : World, Below w.heap.size w W → W.cell? ⟨M, 9, none⟩ = some v) := hid (fun W hb => keep hb c9)
 have HF : Hid (∀ W : World, w.grownBy W v.ownBlock → W.frozen? ⟨M, 9, none⟩ = false ∧ (W.cell? ⟨M, 9, none⟩).isSome = true) := hid (fun W hg => by
  have hne : some M ≠ v.ownBlock := fun e => (h.off 1005 M (by rw [blk_ne (by omega)]; show (F 9).ownBlock = _; rw [hv]; exact e.symm)).1 rfl
  have hb := hg.block M hMlt hne
  exact ⟨(World.frozen?_of_block (a := ⟨M, 9, none⟩) hb).trans f9, by rw [World.cell?_of_block (a := ⟨M, 9, none⟩) hb, c9]; rfl⟩)
 clear h hrow hv hk hkl hs hl
 go_enter Tryz.func75, Tryz.ntmps75
 go_wp2_with fail
 refine HB.out.mono ?_
 rintro e w1 ⟨b, rfl, hb1⟩
 have H1 := hid hb1
 have c91 := HM.out w1 hb1
 have hz1 : M < w1.heap.size := by have := hb1.size; omega
 clear c9 f9 hb1
 go_wp2_with fail
 refine (HR.out w1 H1.out).mono ?_
 rintro e w2 ⟨v', rfl, h1, h2, h3⟩
 obtain ⟨f2, s2⟩ := HF.out w2 h2
 obtain ⟨y, hy⟩ := Option.isSome_iff_exists.1 s2
 have G1 := hid h1
 have G2 := hid h2
 have G3 := hid h3
 clear h2 h3 c91 hz1 s2
 obtain ⟨va, vn, vc, rfl⟩ := due_form h1
 clear h1
 go_wp2
 go_end0
 obtain ⟨q1, q2⟩ := Sol.store HS.out hz (a0 := 1005) (c := 9) (by simp) (s' := { s with D := insS i s.D }) (w1 := w2) (by show w.grownBy w2 (F 9).ownBlock; rw [HV.out]; exact G2.out) (by show DueRow w2 _ (insS i s.D); unfold insS; rw [HK.out]; exact G1.out) (by show _ = (F 9).ownBlock ∨ _; rw [HV.out]; exact G3.out) (fun a ha v w hr => by unfold RowA at hr ⊢; simpa [ha] using hr) rfl rfl rfl
 exact ⟨rfl, _, q1, q2, rfl⟩
end Go.Proofs.YtmkhoocokpkojaaGreatDoor.solExpect
namespace Go.Proofs.YtmkhoocokpkojaaGreatDoor.drawnApp
open Go Go.RowKit heldStore drawn drawnLin
set_option linter.unusedVariables false
variable {P : Program} {ops : Array Oper} {Q : Exit → Act → World → Prop}
theorem grown_refl (w : World) (row : Option Nat) : w.grownBy w row := ⟨rfl, rfl, rfl, Nat.le_refl _, fun _ _ _ => rfl⟩
theorem grown_below {w w1 : World} {row : Option Nat} (h : Below w.heap.size w w1) : w.grownBy w1 row := ⟨h.os, h.tape, h.output, h.size, fun k hk _ => h.block k hk⟩
theorem region_app {id : Nat} {a : Act} {w : World} (A : (Nat → Value) → Act) (s : Nat → Nat) (φ : Nat → Value → World → Prop) (W : World) (row : Option Nat) (ia n : Nat) (u0 : Nat → Value) (ha : a = A u0)
  (hm : P.follows .mixedOrders = true) (hz : ops.size = n + 1) (hE : LastOf ops n) (hup : upB ops = true) (hW : Below W.heap.size W w)
  (hput : ∀ i, i < n → ∀ u v, (A u).put (some (s i)) v = A (upd u (s i) v)) (hinj : ∀ i j, i < n → j < n → s i = s j → i = j)
  (stB : ∀ i v w1 w2, Below w1.heap.size w1 w2 → φ i v w1 → φ i v w2)
  (stA : ∀ i v w1 w2, i ≠ ia → Below W.heap.size W w1 → w1.grownBy w2 row → φ i v w1 → φ i v w2)
  (step : ∀ i, i < n → ∀ u w1, W.grownBy w1 row → (i = ia → Below W.heap.size W w1) → (∀ j, Region.waitsFor .any ops i j = true → φ j (u (s j)) w1) → ∃ o, ops[i]? = some o ∧ ∀ K' : Act → World → Prop, Shut (∀ v w', w1.grownBy w' row → (i ≠ ia → Below w1.heap.size w1 w') → φ i v w' → K' ((A u).put (some (s i)) v) w') → if Region.wanted o (yielded ops (A u).tmps) = true then Oper.wp P o (A u) w1 K' Q else K' ((A u).put o.dst undef) w1)
  (last : ∀ u w1, W.grownBy w1 row → (∀ j, j < n → φ j (u (s j)) w1) → ∃ o, ops[n]? = some o ∧ ∀ K' : Act → World → Prop, Shut (∀ a w, Q .normal a w → K' a w) → if Region.wanted o (yielded ops (A u).tmps) = true then Oper.wp P o (A u) w1 K' Q else K' ((A u).put o.dst undef) w1) :
  (Code.region id ops true).wp P Q a w := by
 have lt : ∀ i j, Region.waitsFor .any ops i j = true → j < i := fun i j hj => by
  obtain ⟨oj, hoj, e, he, hb, hon⟩ := Region.waitsFor_spec hj
  have h5 := upB_spec hup hoj e he
  rw [hon] at h5
  exact h5
 refine region_all A s (fun L u w8 => W.grownBy w8 row ∧ (L ia = false → Below W.heap.size W w8) ∧ ∀ j, j < n → L j = true → φ j (u (s j)) w8) n u0 ha hm hz hE hup ⟨grown_below (hW.drew), fun _ => hW.drew, fun j _ h => (by cases h)⟩ hput ?_ ?_
 · intro i hi L u w8 hLi hwt hI
   obtain ⟨h1, h2, h3⟩ := hI
   obtain ⟨o, ho, h⟩ := step i hi u w8 h1 (fun e => h2 (by rw [← e]; exact hLi)) (fun j hj => h3 j (by have := lt i j hj; omega) (hwt j hj))
   refine ⟨o, ho, fun K' hK => h K' fun v w' hg hb hv => hK.out v w' ⟨h1.trans hg, fun hl => ?_, fun j hj hl => ?_⟩⟩
   · by_cases e : ia = i
     · rw [e, come_same] at hl; cases hl
     · rw [come_ne e] at hl
       exact (h2 hl).trans ((hb (fun e' => e e'.symm)).mono h1.size)
   · by_cases e : j = i
     · subst e; rw [upd_same]; exact hv
     · rw [come_ne e] at hl
       rw [upd_ne _ _ (fun e' => e (hinj j i hj hi e'))]
       by_cases ei : i = ia
       · exact stA j _ _ _ (fun e' => e (e'.trans ei.symm)) (h2 (by rw [← ei]; exact hLi)) hg (h3 j hj hl)
       · exact stB j _ _ _ (hb ei) (h3 j hj hl)
 · intro L u w8 hall hI
   exact last u w8 hI.1 (fun j hj => hI.2.2 j hj (hall j hj))
theorem step_look (w : World) {o : Oper} {a : Act} {K : Act → World → Prop} {E : Prop} (hgd : o.guard = none) (m x : Operand) (t : TypeId) (hop : o.op = Op.lookup t m x false) (dd : Option Tmp) (hd : o.dst = dd) (mv kv v : Value) (hm : a.eval m = mv) (hx : a.eval x = kv) (hr : (Instr.lookup t mv kv false).run P w = .ok v w) (h : K (a.put dd v) w) :
  if Region.wanted o (yielded ops a.tmps) = true then Oper.wp P o a w K Q else E := by
 subst hd
 have hw : Region.wanted o (yielded ops a.tmps) = true := by simp [Region.wanted, hgd]
 rw [if_pos hw]
 unfold Oper.wp
 simp [execOp, hop, hm, hx, hr, Result.andThen]
 exact h
theorem step_put (w w' : World) {o : Oper} {a : Act} {K : Act → World → Prop} {E : Prop} (hgd : o.guard = none) (m x y : Operand) (t : TypeId) (hop : o.op = Op.mapUpdate t m x y) (dd : Option Tmp) (hd : o.dst = dd) (mv kv v : Value) (hm : a.eval m = mv) (hx : a.eval x = kv) (hy : a.eval y = v) (hr : (Instr.mapUpdate t mv kv v).run P w = .ok () w') (h : K (a.put dd undef) w') :
  if Region.wanted o (yielded ops a.tmps) = true then Oper.wp P o a w K Q else E := by
 subst hd
 have hw : Region.wanted o (yielded ops a.tmps) = true := by simp [Region.wanted, hgd]
 rw [if_pos hw]
 unfold Oper.wp
 simp [execOp, hop, hm, hx, hy, hr, Result.andThen]
 exact h
end Go.Proofs.YtmkhoocokpkojaaGreatDoor.drawnApp
namespace Go.Proofs.YtmkhoocokpkojaaGreatDoor.solPush
open Go.RowKit Go.Deep Go.Maps Go base sets setsOf solSets solOps solMath solHold solMem solFail solDue solExpect
set_option linter.unusedVariables false
set_option linter.unusedSimpArgs false
theorem info_i : (Tryz.prog.info? 3).map (fun i => (i.zero, i.size, i.bytes)) = some (some (.int .i64 0), 1, 8) := by kernel_rfl
theorem keyed : Keyed Tryz.prog 3 := int_keyed Tryz.underlying3
theorem key_of {l : Int} (h0 : -40 ≤ l) (h1 : l ≤ 40) : keyOf Tryz.prog 3 (.int .i64 l) = some (key l) := by
 have hw : (Lit.int .i64 l).wf = true := WalkArith.wf_i64 ⟨by omega, by omega⟩
 simp [keyOf, mapKey, Tryz.underlying3, hw, key]
theorem zeroS (w : World) : (zeroValue 52).run Tryz.prog w = .ok nilV w := by kernel_rfl
def updV (V : Int → Value) (x : Int) (v : Value) : Int → Value := fun m => if m = x then v else V m
section
variable {z : Int} {M mb : Nat} {F : Nat → Value} {V : Int → Value} {s : Sv} {w : World}
theorem look_of {D : DataW Value} (hD : w.ownsMap Tryz.prog 3 hE mb 81 D) (hV : MapV D V) {x : Int} (h0 : -40 ≤ x) (h1 : x ≤ 40) : (Instr.lookup 65 (.map (some mb)) (.int .i64 x) false).run Tryz.prog w = .ok (V x) w := by
 obtain ⟨v, ps, hr, hv⟩ := hD.lookup keyed Tryz.underlying65 (zeroS w) (zd := .held nilV) (zp := []) rfl (key_of h0 h1)
 rw [hV.at_ x h0 h1] at hv
 unfold hE at hv
 simp only [Option.some.injEq, Prod.mk.injEq, DataW.held.injEq] at hv
 rw [hr, hv.1]
theorem valV {x : Int} (h1 : x ≤ 40) : valA F V x = V x := by
 unfold valA
 rw [if_neg (by omega), if_neg (by omega), if_neg (by omega), if_neg (by omega), if_neg (by omega)]
theorem rowV {x : Int} {v : Value} (h0 : -40 ≤ x) (h1 : x ≤ 40) (hx : x ≠ 0) : RowA s x v w = w.ownsRow 0 3 1 v (s.L x).length (intsN (s.L x)) := by
 unfold RowA
 rw [if_neg (by omega), if_neg (by omega), if_neg (by omega), if_neg (by omega), if_neg (by omega), if_pos ⟨h0, h1, hx⟩]
theorem Sol.rowOf (h : Sol z M mb F V s w) {x : Int} (h0 : -40 ≤ x) (h1 : x ≤ 40) (hx : x ≠ 0) (hz : x ≠ z) : w.ownsRow 0 3 1 (V x) (s.L x).length (intsN (s.L x)) := by
 have := h.rows x hz
 rw [valV h1, rowV h0 h1 hx] at this
 exact this
theorem Sol.lookAt (h : Sol z M mb F V s w) {x : Int} (h0 : -40 ≤ x) (h1 : x ≤ 40) {row : Option Nat} {w8 : World} (hg : w.grownBy w8 row) (hr : some mb ≠ row) : (Instr.lookup 65 (.map (some mb)) (.int .i64 x) false).run Tryz.prog w8 = .ok (V x) w8 := by
 obtain ⟨D, hD, hV⟩ := h.map
 exact look_of (hD.kept hg hr) hV h0 h1
theorem Sol.offV (h : Sol z M mb F V s w) {x : Int} (h1 : x ≤ 40) (hz : x ≠ z) : some M ≠ (V x).ownBlock ∧ some mb ≠ (V x).ownBlock := by
 have : ∀ g, (V x).ownBlock = some g → g ≠ M ∧ g ≠ mb := fun g hg => h.off x g (by rw [blk_ne hz, valV h1]; exact hg)
 exact ⟨fun e => (this M e.symm).1 rfl, fun e => (this mb e.symm).2 rfl⟩
theorem Sol.mapPut (h : Sol z M mb F V s w) {x : Int} (h0 : -40 ≤ x) (h1 : x ≤ 40) (hx : x ≠ 0) {v' : Value} {w1 : World} (r : List Nat) (hz : x ≠ z) (hg : w.grownBy w1 (V x).ownBlock) (ho : w1.ownsRow 0 3 1 v' r.length (intsN r))
  (loc : v'.ownBlock = (V x).ownBlock ∨ v'.ownBlock = none ∨ ∃ g, w.heap.size ≤ g ∧ v'.ownBlock = some g) :
  ∃ w2, (Instr.mapUpdate 65 (.map (some mb)) (.int .i64 x) v').run Tryz.prog w1 = .ok () w2 ∧ Sol z M mb F (updV V x v') { s with L := upd s.L x r } w2 ∧ Chg M mb (blk z F V) (blk z F (updV V x v')) w w2 := by
 obtain ⟨hM, hm⟩ := Sol.offV h h1 hz
 obtain ⟨D, hD, hV⟩ := h.map
 obtain ⟨w2, hr, hD2, hg2⟩ := (hD.kept hg hm).update keyed Tryz.underlying65 (by unfold maxLen; omega) (key_of h0 h1) (show hE v' = some (.held v', []) from rfl)
 have hV2 := mapV_put hV h0 h1 v'
 have hoff : ∀ g, v'.ownBlock = some g → g ≠ mb := fun g hg' => by
  rcases loc with l | l | ⟨g', l1, l2⟩
  · exact fun e => hm (by rw [← e, ← hg', l])
  · rw [l] at hg'; cases hg'
  · rw [l2] at hg'; injection hg' with hg'; have := h.lt; omega
 refine ⟨w2, hr, ?_⟩
 refine h.step x hz (World.rowIs.of_block h.cells ?_) h.f0 h.f4 h.f5 h.f6 h.f10 h.fx ⟨_, (map_tight hD2).mono (map_few hV2), hV2⟩ (fun a ha hza => ⟨?_, fun v w hq => ?_⟩) (fun j hj j1 j2 j3 => ?_) ?_ ?_ (hg2.os.trans hg.os) (hg2.tape.trans hg.tape) (hg2.output.trans hg.output) (Nat.le_trans hg.size hg2.size)
 · exact (hg2.block M (Nat.lt_of_lt_of_le h.lt.1 hg.size) (by simpa using h.ne)).trans (hg.block M h.lt.1 hM)
 · unfold valA updV
   by_cases e1 : a = 1001
   · subst e1; simp
   by_cases e2 : a = 1002
   · subst e2; simp
   by_cases e3 : a = 1003
   · subst e3; simp
   by_cases e4 : a = 1004
   · subst e4; simp
   by_cases e5 : a = 1005
   · subst e5; simp
   simp [e1, e2, e3, e4, e5, ha]
 · unfold RowA at hq ⊢
   simpa [upd, ha] using hq
 · rw [valV h1] at j3
   exact (hg2.block j (Nat.lt_of_lt_of_le hj hg.size) (by simpa using j2)).trans (hg.block j hj j3)
 · rw [valV h1, rowV h0 h1 hx]
   unfold updV upd
   simp only [if_pos]
   exact own_kept ho fun g hg' => hg2.block g (World.ownsRow.lt ho g hg').2 (by simpa using hoff g hg')
 · rw [valV h1, valV h1]
   unfold updV
   simpa using loc
theorem row_cells {t : TypeId} {v : Value} {n : Nat} {xs : List Value} (h : w.ownsRow 0 t 2 v n xs) {i : Nat} (hi : i < n) : ∃ g cap, v = .slice (some ⟨g, 0, none⟩) n cap ∧ n ≤ maxLen ∧ (∀ u, xs[i * 2]? = some u → w.cell? ⟨g, i * 2, none⟩ = some u) ∧ (∀ u, xs[i * 2 + 1]? = some u → w.cell? ⟨g, i * 2 + 1, none⟩ = some u) ∧ (∀ j, w.frozen? ⟨g, j, none⟩ = false) := by
 rcases h.2 with ⟨_, h0⟩ | ⟨g, cap, cur, rfl, _, hh, hn, hm, hs, ht⟩
 · omega
 · have h3 : ∀ j, j < n * 2 → cur[j]? = xs[j]? := fun j hj => by
    have : (cur.toList.take (n * 2))[j]? = xs[j]? := by rw [ht]
    rw [List.getElem?_take, if_pos hj] at this
    rw [← Array.getElem?_toList, this]
   refine ⟨g, cap, rfl, Nat.le_trans hn hm, fun u hu => ?_, fun u hu => ?_, fun j => ?_⟩
   · simp [World.cell?, hh, h3 (i * 2) (by omega), hu]
   · simp [World.cell?, hh, h3 (i * 2 + 1) (by omega), hu]
   · simp [World.frozen?, hh]
theorem Sol.clause (h : Sol z M mb F V s w) (hz : z ≤ 40) {i : Nat} (hi : i < s.C.length) : ∃ g cap, F 2 = .slice (some ⟨g, 0, none⟩) s.C.length cap ∧ s.C.length ≤ maxLen ∧ w.cell? ⟨g, i * 2, none⟩ = some (.int .u64 (s.cl i).1) ∧ w.cell? ⟨g, i * 2 + 1, none⟩ = some (.int .u64 (s.cl i).2) := by
 have hr : w.ownsRow 0 68 2 (F 2) s.C.length (flatC s.C) := h.rows 1001 (by omega)
 obtain ⟨g, cap, e, hm, h1, h2, _⟩ := row_cells hr hi
 obtain ⟨g1, g2⟩ := flatC_get s.C i hi
 exact ⟨g, cap, e, hm, h1 _ g1, h2 _ g2⟩
theorem Sol.watch (h : Sol z M mb F V s w) (hz : z ≤ 40) {i : Nat} (hi : i < s.W.length) : ∃ g cap, F 3 = .slice (some ⟨g, 0, none⟩) s.W.length cap ∧ s.W.length ≤ maxLen ∧ w.cell? ⟨g, i * 2, none⟩ = some (.int .i64 (s.wt i).1) ∧ w.cell? ⟨g, i * 2 + 1, none⟩ = some (.int .i64 (s.wt i).2) ∧ (∀ j, w.frozen? ⟨g, j, none⟩ = false) := by
 have hr : w.ownsRow 0 115 2 (F 3) s.W.length (flatP s.W) := h.rows 1002 (by omega)
 obtain ⟨g, cap, e, hm, h1, h2, h3⟩ := row_cells hr hi
 obtain ⟨g1, g2⟩ := flatP_get s.W i hi
 exact ⟨g, cap, e, hm, h1 _ g1, h2 _ g2, h3⟩
theorem Sol.setWatch (h : Sol z M mb F V s w) (hz : z ≤ 40) {i : Nat} (hi : i < s.W.length) {g cap : Nat} (hv : F 3 = .slice (some ⟨g, 0, none⟩) s.W.length cap) (p : Int × Int) :
  Sol z M mb F V { s with W := s.W.set i p } ((w.setCell ⟨g, i * 2, none⟩ (.int .i64 p.1)).setCell ⟨g, i * 2 + 1, none⟩ (.int .i64 p.2)) ∧ Chg M mb (blk z F V) (blk z F V) w ((w.setCell ⟨g, i * 2, none⟩ (.int .i64 p.1)).setCell ⟨g, i * 2 + 1, none⟩ (.int .i64 p.2)) := by
 have h2 : (1002 : Int) ≠ z := by omega
 have hr : w.ownsRow 0 115 2 (F 3) s.W.length (flatP s.W) := h.rows 1002 h2
 have hbk : blk z F V 1002 = some g := by rw [blk_ne h2]; show (F 3).ownBlock = _; rw [hv]; rfl
 obtain ⟨hgM, hgm⟩ := h.off 1002 g hbk
 obtain ⟨e1, e2, e3, e4⟩ := setCell_os w ⟨g, i * 2, none⟩ (.int .i64 p.1)
 obtain ⟨g1, g2, g3, g4⟩ := setCell_os (w.setCell ⟨g, i * 2, none⟩ (.int .i64 p.1)) ⟨g, i * 2 + 1, none⟩ (.int .i64 p.2)
 have hblk : ∀ j, j ≠ g → ((w.setCell ⟨g, i * 2, none⟩ (.int .i64 p.1)).setCell ⟨g, i * 2 + 1, none⟩ (.int .i64 p.2)).heap[j]? = w.heap[j]? := fun j hj => (Below.heap_setCell _ _ _ _ (by simpa using hj)).trans (Below.heap_setCell _ _ _ _ (by simpa using hj))
 obtain ⟨D, hD, hV⟩ := h.map
 refine h.step 1002 h2 (World.rowIs.of_block h.cells (hblk M (fun e => hgM e.symm))) h.f0 h.f4 h.f5 h.f6 h.f10 h.fx ⟨D, ?_, hV⟩ (fun a ha hza => ⟨rfl, fun v w hq => ?_⟩) (fun j hj j1 j2 j3 => hblk j (fun e => j3 (by show some j = (F 3).ownBlock; rw [hv, e]; rfl))) ?_ (.inl rfl) (g1.trans e1) (g2.trans e2) (g3.trans e3) (by rw [g4, e4]; exact Nat.le_refl _)
 · obtain ⟨es, clock, q1, q2⟩ := hD
   exact ⟨es, clock, by rw [hblk mb (fun e => hgm e.symm)]; exact q1, q2⟩
 · unfold RowA at hq ⊢
   simpa [ha] using hq
 · show World.ownsRow _ 0 115 2 (F 3) (s.W.set i p).length (flatP (s.W.set i p))
   rw [hv] at hr ⊢
   rw [List.length_set]
   rcases hr.2 with ⟨q, _⟩ | ⟨g', cap', cur, q, q1, q2, q3, q4, q5, q6⟩
   · cases q
   · injection q with qa qb qc
     injection qa with qa
     injection qa with qa
     subst qa qc
     refine ⟨by rw [flatP_len, List.length_set], .inr ⟨g, cap, (cur.setIfInBounds (i * 2) (.int .i64 p.1)).setIfInBounds (i * 2 + 1) (.int .i64 p.2), rfl, Nat.zero_le _, ?_, q3, q4, by simpa using q5, ?_⟩⟩
     · have := heap_setCell_same w g (i * 2) cur 115 (.int .i64 p.1) q2
       exact heap_setCell_same _ g (i * 2 + 1) _ 115 (.int .i64 p.2) this
     · rw [flatP_set, ← q6]
       simp only [Array.toList_setIfInBounds]
       rw [List.take_set, List.take_set]
end
end Go.Proofs.YtmkhoocokpkojaaGreatDoor.solPush
