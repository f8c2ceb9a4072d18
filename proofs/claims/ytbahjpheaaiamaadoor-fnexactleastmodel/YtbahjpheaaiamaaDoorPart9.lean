/- SolExpect; HeldStore; Drawn: one text, so that the claim has fewer files. -/
import Derived.Test.YtbahjpheaaiamaaDoorPart8
import Derived.Test.YtbahjpheaaiamaaDoorPart1
import Derived.StillTail
import Derived.Deep.RegionHeld3
/- A solver of the program: it notes that a clause is due (expect); a row of it is stored anew; conditions: lengths that fit. -/
namespace Go.Proofs.YtbahjpheaaiamaaDoor.solExpect
open Go.RowKit Go.Deep Go.Maps Go base sets setsOf solSets solOps solMath solHold solMem solFail solDue
set_option linter.unusedVariables false
set_option linter.unusedSimpArgs false

theorem grown_of_below {w w1 : World} {row : Option Nat} (h : Below w.heap.size w w1) : w.grownBy w1 row := ⟨h.os, h.tape, h.output, h.size, fun k hk _ => h.block k hk⟩
theorem valA_set {F : Nat → Value} {V : Int → Value} {v' : Value} {a0 : Int} {c : Nat} (hc : (a0, c) ∈ [((1001 : Int), 2), (1002, 3), (1003, 7), (1004, 8), (1005, 9)]) (a : Int) : valA (fun j => if j = c then v' else F j) V a = if a = a0 then v' else valA F V a := by
  simp only [List.mem_cons, Prod.mk.injEq, List.not_mem_nil, or_false] at hc
  unfold valA
  rcases hc with ⟨rfl, rfl⟩ | ⟨rfl, rfl⟩ | ⟨rfl, rfl⟩ | ⟨rfl, rfl⟩ | ⟨rfl, rfl⟩
  all_goals
    by_cases e1 : a = 1001
    · subst e1; simp
    by_cases e2 : a = 1002
    · subst e2; simp
    by_cases e3 : a = 1003
    · subst e3; simp
    by_cases e4 : a = 1004
    · subst e4; simp
    by_cases e5 : a = 1005
    · subst e5; simp
    simp [e1, e2, e3, e4, e5]
section
variable {z : Int} {M mb : Nat} {F : Nat → Value} {V : Int → Value} {s : Sv} {w : World}
/-- A row has grown, and is stored in the solver's cell. -/
theorem Sol.store (h : Sol z M mb F V s w) (hz : z ≤ 40) {a0 : Int} {c : Nat} (hc : (a0, c) ∈ [((1001 : Int), 2), (1002, 3), (1003, 7), (1004, 8), (1005, 9)]) {v' : Value} {s' : Sv} {w1 : World} (hg : w.grownBy w1 (valA F V a0).ownBlock) (row : RowA s' a0 v' w1)
    (loc : v'.ownBlock = (valA F V a0).ownBlock ∨ v'.ownBlock = none ∨ ∃ g, w.heap.size ≤ g ∧ v'.ownBlock = some g) (same : ∀ a, a ≠ a0 → ∀ v w, RowA s a v w → RowA s' a v w) (hn : s'.n = s.n) (hH : s'.H = s.H) (hF : s'.F = s.F) (hX : s'.X = s.X := by rfl) :
    Sol z M mb (fun j => if j = c then v' else F j) V s' (w1.setCell ⟨M, c, none⟩ v') ∧ Chg M mb (blk z F V) (blk z (fun j => if j = c then v' else F j) V) w (w1.setCell ⟨M, c, none⟩ v') := by
  have ha0 : a0 ≠ z := by simp only [List.mem_cons, Prod.mk.injEq, List.not_mem_nil, or_false] at hc; omega
  have hcc : c ≠ 0 ∧ c ≠ 4 ∧ c ≠ 5 ∧ c ≠ 6 ∧ c ≠ 10 := by simp only [List.mem_cons, Prod.mk.injEq, List.not_mem_nil, or_false] at hc; omega
  have hva : valA (fun j => if j = c then v' else F j) V a0 = v' := by rw [valA_set hc, if_pos rfl]
  have hMb : some M ≠ (valA F V a0).ownBlock := fun e => (h.off a0 M (by rw [blk_ne ha0]; exact e.symm)).1 rfl
  have hmb : some mb ≠ (valA F V a0).ownBlock := fun e => (h.off a0 mb (by rw [blk_ne ha0]; exact e.symm)).2 rfl
  obtain ⟨e1, e2, e3, e4⟩ := setCell_os w1 ⟨M, c, none⟩ v'
  have hoff : ∀ g, v'.ownBlock = some g → g ≠ M := fun g hg' => by
    rcases loc with l | l | ⟨g', l1, l2⟩
    · exact (h.off a0 g (by rw [blk_ne ha0, ← l]; exact hg')).1
    · rw [l] at hg'; cases hg'
    · rw [l2] at hg'; injection hg' with hg'; have := h.lt; omega
  obtain ⟨D, hD, hV⟩ := h.map
  refine h.step a0 ha0 (World.rowIs.set (World.rowIs.of_block h.cells (hg.block M h.lt.1 hMb)) c v') ?_ ?_ ?_ ?_ ?_ ?_ ⟨D, ?_, hV⟩ (fun a ha hza => ⟨by rw [valA_set hc, if_neg ha], same a ha⟩) (fun j hj h1 h2 h3 => ?_) ?_ ?_ (e1.trans hg.os) (e2.trans hg.tape) (e3.trans hg.output) (by rw [e4]; exact hg.size)
  · simp [hcc.1.symm, hn, h.f0]
  · simp [hcc.2.1.symm, h.f4]
  · simp [hcc.2.2.1.symm, hH, h.f5]
  · simp [hcc.2.2.2.1.symm, hH, h.f6]
  · simp [hcc.2.2.2.2.symm, hF, h.f10]
  · intro j hj
    rw [hX, ← h.fx j hj]
    simp only [List.mem_cons, Prod.mk.injEq, List.not_mem_nil, or_false] at hc
    exact if_neg (by omega)
  · obtain ⟨es, clock, h1, h2⟩ := hD
    exact ⟨es, clock, by rw [Below.heap_setCell _ _ _ _ (by simpa using fun e => h.ne e.symm), hg.block mb h.lt.2 hmb]; exact h1, h2⟩
  · rw [Below.heap_setCell _ _ _ _ (by simpa using h1)]
    exact hg.block j hj h3
  · rw [hva]
    exact row_kept row fun g hg' => Below.heap_setCell _ _ _ _ (by simpa using hoff g hg')
  · rw [hva]; exact loc
end
theorem due_form {w : World} {v : Value} {D : List Nat} (h : DueRow w v D) : ∃ a n c, v = .slice a n c := by
  rcases h with ⟨rfl, _⟩ | ⟨g, off, n, cap, rfl, _⟩
  · exact ⟨_, _, _, rfl⟩
  · exact ⟨_, _, _, rfl⟩
theorem search_impl (w : World) (v : Value) (D : List Nat) (i : Nat) (h : DueRow w v D) (hl : D.length ≤ 8400000000000) (hs : D.Pairwise (· < ·)) :
    Calls Tryd.prog 66 #[v, .int .i64 i] w fun e w' => ∃ b, e = .returned (.tuple #[.int .i64 ((D.countP (· < i) : Nat) : Int), .bool b]) ∧ Below w.heap.size w w' := by
  rcases h with ⟨rfl, rfl⟩ | ⟨g, off, n, cap, rfl, hd⟩
  · refine (Any.slices_BinarySearch_int_empty Tryd.lays2_25 none 0 i w).mono ?_
    rintro e w' ⟨rfl, rfl⟩
    exact ⟨false, rfl, Below.refl _ _⟩
  · have hlen := hd.len
    subst hlen
    refine (Any.slices_BinarySearch_int Tryd.lays2_25 g off D.length cap (D.map (fun x : Nat => (x : Int))) i w (by simp) (by omega) (fun j hj => ?_) ?_).mono ?_
    · have hj : j < D.length := by simpa using hj
      rw [hd.cell j hj]
      simp [List.getD, List.getElem?_eq_getElem hj]
    · rw [List.take_of_length_le (by simp), List.pairwise_map]
      exact hs.imp fun h => by omega
    · rintro e w' ⟨rfl, q, rfl⟩
      refine ⟨(List.take D.length (D.map (fun x : Nat => (x : Int)))).contains (i : Int), ?_, below_drewN w q⟩
      have : List.countP (fun x => decide (x < (i : Int))) (List.take D.length (D.map (fun x : Nat => (x : Int)))) = D.countP (· < i) := by
        rw [List.take_of_length_le (by simp), List.countP_map]
        congr 1
        funext x
        simp
      rw [this]
set_option maxHeartbeats 1600000 in
set_option maxRecDepth 8000 in
theorem expect_impl (z : Int) (M mb : Nat) (F : Nat → Value) (V : Int → Value) (s : Sv) (w : World) (h : Sol z M mb F V s w) (hz : z ≤ 40) (i : Nat) (hi : i ≤ 8400000000000) (hl : s.D.length ≤ 8400000000000) (hs : s.D.Pairwise (· < ·)) :
    Calls Tryd.prog 57 #[.pointer (some ⟨M, 0, none⟩), .int .i64 i] w fun e w' => e = .returned (.tuple #[]) ∧ ∃ F', Sol z M mb F' V { s with D := insS i s.D } w' ∧ Chg M mb (blk z F V) (blk z F' V) w w' ∧ F' 2 = F 2 := by
  have hrow : DueRow w (F 9) s.D := h.rows 1005 (by omega)
  have c9 := h.cell (i := 9) (by omega)
  have f9 := h.frozen 9
  have hMlt := h.lt.1
  obtain ⟨k, hk⟩ : ∃ k, s.D.countP (· < i) = k := ⟨_, rfl⟩
  have hkl : k ≤ s.D.length := by rw [← hk]; exact List.countP_le_length
  have hkm : k ≤ 8400000000000 := by omega
  obtain ⟨v, hv⟩ : ∃ v, F 9 = v := ⟨_, rfl⟩
  have HB := hid (search_impl w (F 9) s.D i hrow hl hs)
  rw [hk, hv] at HB
  have HR : Hid (∀ (W : World), Below w.heap.size w W → Calls Tryd.prog 67 #[v, .int .i64 k, .slice (some ⟨W.heap.size, 0, none⟩) 1 1] (W.alloc (.cells #[.int .i64 i] 3)) fun e w' => ∃ v', e = .returned v' ∧ DueRow w' v' (put1 k i s.D) ∧ w.grownBy w' v.ownBlock ∧ (v'.ownBlock = v.ownBlock ∨ v'.ownBlock = none ∨ ∃ g, w.heap.size ≤ g ∧ v'.ownBlock = some g)) := hid (fun W hb => by
    have hbb : Below w.heap.size w (W.alloc (.cells #[.int .i64 i] 3)) := hb.alloc hb.size _
    have hr : DueRow (W.alloc (.cells #[.int .i64 i] 3)) v s.D := by rw [← hv]; exact due_kept hrow fun g hg => hbb.block g (due_lt hrow g hg)
    refine (insert_impl _ v s.D k i W.heap.size hr hkl hl (fun e => ?_) (Go.heap_alloc_new W _)).mono ?_
    · have := due_lt hrow W.heap.size (by rw [hv]; exact e)
      have := hb.size
      omega
    · rintro e w' ⟨v', rfl, h1, h2, h3⟩
      refine ⟨v', rfl, h1, (grown_of_below hbb).trans h2, ?_⟩
      rcases h3 with h3 | h3
      · exact .inl h3
      · exact .inr (.inr ⟨_, hbb.size, h3⟩))
  have HS := hid h
  have HV := hid hv
  have HK := hid hk
  rw [hv] at c9
  have HM : Hid (∀ W : World, Below w.heap.size w W → W.cell? ⟨M, 9, none⟩ = some v) := hid (fun W hb => keep hb c9)
  have HF : Hid (∀ W : World, w.grownBy W v.ownBlock → W.frozen? ⟨M, 9, none⟩ = false ∧ (W.cell? ⟨M, 9, none⟩).isSome = true) := hid (fun W hg => by
    have hne : some M ≠ v.ownBlock := fun e => (h.off 1005 M (by rw [blk_ne (by omega)]; show (F 9).ownBlock = _; rw [hv]; exact e.symm)).1 rfl
    have hb := hg.block M hMlt hne
    exact ⟨(World.frozen?_of_block (a := ⟨M, 9, none⟩) hb).trans f9, by rw [World.cell?_of_block (a := ⟨M, 9, none⟩) hb, c9]; rfl⟩)
  clear h hrow hv hk hkl hs hl
  go_enter Tryd.func57, Tryd.ntmps57
  go_wp2_with fail
  refine HB.out.mono ?_
  rintro e w1 ⟨b, rfl, hb1⟩
  have H1 := hid hb1
  have c91 := HM.out w1 hb1
  have hz1 : M < w1.heap.size := by have := hb1.size; omega
  clear c9 f9 hb1
  go_wp2_with fail
  refine (HR.out w1 H1.out).mono ?_
  rintro e w2 ⟨v', rfl, h1, h2, h3⟩
  obtain ⟨f2, s2⟩ := HF.out w2 h2
  obtain ⟨y, hy⟩ := Option.isSome_iff_exists.1 s2
  have G1 := hid h1
  have G2 := hid h2
  have G3 := hid h3
  clear h2 h3 c91 hz1 s2
  obtain ⟨va, vn, vc, rfl⟩ := due_form h1
  clear h1
  go_wp2
  go_end0
  obtain ⟨q1, q2⟩ := Sol.store HS.out hz (a0 := 1005) (c := 9) (by simp) (s' := { s with D := insS i s.D }) (w1 := w2) (by show w.grownBy w2 (F 9).ownBlock; rw [HV.out]; exact G2.out) (by show DueRow w2 _ (insS i s.D); unfold insS; rw [HK.out]; exact G1.out) (by show _ = (F 9).ownBlock ∨ _; rw [HV.out]; exact G3.out) (fun a ha v w hr => by unfold RowA at hr ⊢; simpa [ha] using hr) rfl rfl rfl
  exact ⟨rfl, _, q1, q2, rfl⟩
end Go.Proofs.YtbahjpheaaiamaaDoor.solExpect

/- A region that draws its order, whose last operation waits for all others: what the others leave as it is may be read first, and only the last one need not leave it so; of no program; conditions: none. -/
namespace Go.Proofs.YtbahjpheaaiamaaDoor.heldStore
open Go

variable {P : Program} {ops : Array Oper} {Q : Exit → Act → World → Prop} {S : World → Prop} {n : Nat}

/-- Whatever comes up next: behind each operation but the last S holds. -/
def Goes (P : Program) (ops : Array Oper) (Q : Exit → Act → World → Prop) (S : World → Prop) (n : Nat) : Nat → Array Bool → Act → World → Prop
  | 0, listed, a, w => Region.ready .any ops listed = [] ∧ Q .normal a w
  | fuel + 1, listed, a, w => (Region.ready .any ops listed = [] → Q .normal a w) ∧
      ∀ i ∈ Region.ready .any ops listed, wpOp P ops Q i (fun a' w' => (i < n → S w') ∧ Goes P ops Q S n fuel (listed.setIfInBounds i true) a' w') a w

theorem Goes.any : ∀ (fuel : Nat) (listed : Array Bool) (a : Act) (w : World), Goes P ops Q S n fuel listed a w → wpAny P .any ops Q fuel listed a w
  | 0, _, _, _, h => h
  | fuel + 1, _, _, _, h => ⟨h.1, fun i hi => wpOp_mono (fun a' w' h' => Goes.any fuel _ a' w' h'.2) (h.2 i hi)⟩

theorem Goes.first {i : Nat} {oi : Oper} {v : Value} (hi : ops[i]? = some oi) (hsel : ∀ (j : Nat) (o : Oper) cs b, ops[j]? = some o → o.op ≠ .select cs b)
    (hs : Region.sinkB .any ops n = true) (hc : Region.chainB .any ops n = true) (hn : n < ops.size) (hin : i < n)
    (hQ : ∀ c a w, Q (.panic c) (a.put oi.dst v) w → Q (.panic c) a w) (fuel : Nat) : ∀ (listed : Array Bool) (a : Act) (w : World), HeadInv .any ops n listed →
      (∀ j oj, ops[j]? = some oj → j ≠ i → listed.getD j true = false → (∀ e ∈ oj.after, Region.binds .any e = true → e.on ≠ i) → oi.apart ops oj = true) →
      i ∈ Region.ready .any ops listed → YieldsIf P ops S oi v a → S w →
      Goes P ops Q S n fuel (listed.setIfInBounds i true) (a.put oi.dst v) w → Goes P ops Q S n (fuel + 1) listed a w := by
  induction fuel with
  | zero =>
    intro listed a w inv _ hr hy hS H
    refine ⟨fun h => absurd hr (by rw [h]; exact List.not_mem_nil), fun j hj => ?_⟩
    by_cases hji : j = i
    · subst hji
      exact hy.wpOp hi hS ⟨fun _ => hS, H⟩
    · have h1 := ready_mono hj hji
      rw [H.1] at h1
      cases h1
  | succ fuel ih =>
    intro listed a w inv hfree hr hy hS H
    have hun := (mem_ready.1 hr).1
    refine ⟨fun h => absurd hr (by rw [h]; exact List.not_mem_nil), fun j hj => ?_⟩
    by_cases hji : j = i
    · subst hji
      exact hy.wpOp hi hS ⟨fun _ => hS, H⟩
    · have hjn : j < n := by
        rcases Nat.lt_or_ge j n with h | h
        · exact h
        · exact absurd hj (tail_waits hs hc hn inv _ i rfl hin hun j h)
      obtain ⟨hjun, oj, hoj, hall⟩ := mem_ready.1 hj
      have hnot : ∀ e ∈ oj.after, Region.binds .any e = true → e.on ≠ i := fun e he hb heq => by
        have h1 := hall e he hb
        rw [heq, getD_both hun] at h1
        cases h1
      have hfree' : ∀ k ok, ops[k]? = some ok → k ≠ i → (listed.setIfInBounds j true).getD k true = false → (∀ e ∈ ok.after, Region.binds .any e = true → e.on ≠ i) → oi.apart ops ok = true := fun k ok hk hki hu hno => by
        refine hfree k ok hk hki ?_ hno
        by_cases hjk : j = k
        · rw [← hjk]; exact hjun
        · rw [getD_set_ne true hjk] at hu; exact hu
      have h1 := wpOp_putIf hoj (hfree j oj hoj hji hjun hnot) (fun cs b => hsel i oi cs b hi) (fun cs b => hsel j oj cs b hoj) hQ hy (H.2 j (ready_mono hj hji))
      refine wpOp_mono (fun a' w' h3 => ⟨fun _ => h3.2.1 hjn, ih _ a' w' (inv.set hj hjn) hfree' (ready_mono hr (Ne.symm hji)) h3.1 (h3.2.1 hjn) ?_⟩) h1
      rw [Array.setIfInBounds_comm _ _ hji]
      exact h3.2.2

/-- The facts of a region that a run of the kernel shows. -/
structure LastOf (ops : Array Oper) (n : Nat) : Prop where
  sel : Region.noSelect ops = true
  sink : Region.sinkB .any ops n = true
  chain : Region.chainB .any ops n = true
  lt : n < ops.size

/-- Operation number i is read first. -/
theorem Goes.take {i : Nat} {oi : Oper} {v : Value} {fuel : Nat} {listed : Array Bool} {a : Act} {w : World} (d : Option Tmp) (hE : LastOf ops n) (hi : ops[i]? = some oi) (hd : oi.dst = d) (inv : HeadInv .any ops n listed)
    (hf : Region.free .any ops listed i = true) (hr : (Region.ready .any ops listed).contains i = true) (hin : i < n)
    (hQ : ∀ c a w, Q (.panic c) (a.put d v) w → Q (.panic c) a w) (hy : YieldsIf P ops S oi v a) (hS : S w)
    (h : HeadInv .any ops n (listed.setIfInBounds i true) → Goes P ops Q S n fuel (listed.setIfInBounds i true) (a.put d v) w) : Goes P ops Q S n (fuel + 1) listed a w := by
  subst hd
  have hr' : i ∈ Region.ready .any ops listed := by simpa using hr
  exact Goes.first hi (Region.noSelect_spec hE.sel) hE.sink hE.chain hE.lt hin hQ fuel listed a w inv (Region.free_spec hi hf) hr' hy hS (h (inv.set hr' hin))
/-- One operation may come up. -/
theorem Goes.one {i : Nat} {o : Oper} {fuel : Nat} {listed : Array Bool} {a : Act} {w : World} (inv : HeadInv .any ops n listed) (hr : Region.ready .any ops listed = [i]) (hin : i < n) (ho : ops[i]? = some o)
    (h : HeadInv .any ops n (listed.setIfInBounds i true) → ∀ K' : Act → World → Prop, Shut (∀ a w, S w → (S w → Goes P ops Q S n fuel (listed.setIfInBounds i true) a w) → K' a w) → if Region.wanted o (yielded ops a.tmps) = true then Oper.wp P o a w K' Q else K' (a.put o.dst undef) w) :
    Goes P ops Q S n (fuel + 1) listed a w :=
  ⟨fun h0 => (by rw [hr] at h0; cases h0), fun j hj => by
    have hj' := hj
    rw [hr] at hj
    have e : j = i := by simpa using hj
    subst e
    exact wpOp_step ho fun K' hK => h (inv.set hj' hin) K' fun a w hS hW => hK a w ⟨fun _ => hS, hW hS⟩⟩
/-- Two may. -/
theorem Goes.two {i j : Nat} {o p : Oper} {fuel : Nat} {listed : Array Bool} {a : Act} {w : World} (inv : HeadInv .any ops n listed) (hr : Region.ready .any ops listed = [i, j]) (hin : i < n) (hjn : j < n) (ho : ops[i]? = some o) (hp : ops[j]? = some p)
    (h : HeadInv .any ops n (listed.setIfInBounds i true) → ∀ K' : Act → World → Prop, Shut (∀ a w, S w → (S w → Goes P ops Q S n fuel (listed.setIfInBounds i true) a w) → K' a w) → if Region.wanted o (yielded ops a.tmps) = true then Oper.wp P o a w K' Q else K' (a.put o.dst undef) w)
    (h' : HeadInv .any ops n (listed.setIfInBounds j true) → ∀ K' : Act → World → Prop, Shut (∀ a w, S w → (S w → Goes P ops Q S n fuel (listed.setIfInBounds j true) a w) → K' a w) → if Region.wanted p (yielded ops a.tmps) = true then Oper.wp P p a w K' Q else K' (a.put p.dst undef) w) :
    Goes P ops Q S n (fuel + 1) listed a w :=
  ⟨fun h0 => (by rw [hr] at h0; cases h0), fun k hk => by
    have hk' := hk
    rw [hr] at hk
    rcases List.mem_cons.1 hk with e | e
    · subst e
      exact wpOp_step ho fun K' hK => h (inv.set hk' hin) K' fun a w hS hW => hK a w ⟨fun _ => hS, hW hS⟩
    · have e : k = j := by simpa using e
      subst e
      exact wpOp_step hp fun K' hK => h' (inv.set hk' hjn) K' fun a w hS hW => hK a w ⟨fun _ => hS, hW hS⟩⟩
/-- The last one. -/
theorem Goes.last {o : Oper} {listed : Array Bool} {a : Act} {w : World} (hr : Region.ready .any ops listed = [n]) (hd : Region.ready .any ops (listed.setIfInBounds n true) = []) (ho : ops[n]? = some o)
    (h : ∀ K' : Act → World → Prop, Shut (∀ a w, Q .normal a w → K' a w) → if Region.wanted o (yielded ops a.tmps) = true then Oper.wp P o a w K' Q else K' (a.put o.dst undef) w) :
    Goes P ops Q S n 1 listed a w :=
  ⟨fun h0 => (by rw [hr] at h0; cases h0), fun j hj => by
    rw [hr] at hj
    have e : j = n := by simpa using hj
    subst e
    exact wpOp_step ho fun K' hK => h K' fun a w hq => hK a w ⟨fun hlt => absurd hlt (Nat.lt_irrefl _), hd, hq⟩⟩
end Go.Proofs.YtbahjpheaaiamaaDoor.heldStore

/- A region that draws its order, whose operations each answer what is told of them in whatever order they come up: one proof an operation, not one an order; of no program; conditions: none. -/
namespace Go.Proofs.YtbahjpheaaiamaaDoor.drawn
open Go heldStore

variable {P : Program} {ops : Array Oper} {Q : Exit → Act → World → Prop}

/-- How many are not listed yet. -/
def falses : List Bool → Nat
  | [] => 0
  | true :: l => falses l
  | false :: l => falses l + 1
theorem falses_set : ∀ (l : List Bool) (i : Nat), l[i]? = some false → falses (l.set i true) + 1 = falses l
  | [], i, h => by simp at h
  | b :: l, 0, h => by
    simp only [List.getElem?_cons_zero, Option.some.injEq] at h
    subst h; rfl
  | b :: l, i + 1, h => by
    simp only [List.getElem?_cons_succ] at h
    have ih := falses_set l i h
    cases b <;> simp only [List.set_cons_succ, falses] <;> omega
theorem falses_pos : ∀ (l : List Bool) (i : Nat), l[i]? = some false → 0 < falses l
  | [], i, h => by simp at h
  | b :: l, 0, h => by
    simp only [List.getElem?_cons_zero, Option.some.injEq] at h
    subst h; simp [falses]
  | b :: l, i + 1, h => by
    simp only [List.getElem?_cons_succ] at h
    have ih := falses_pos l i h
    cases b <;> simp only [falses] <;> omega
theorem falses_replicate (m : Nat) : falses (List.replicate m false) = m := by
  induction m with
  | zero => rfl
  | succ m ih => rw [List.replicate_succ]; simp [falses, ih]
theorem at_false {listed : Array Bool} {i : Nat} (h : listed.getD i true = false) : listed.toList[i]? = some false := by
  rcases Nat.lt_or_ge i listed.size with h' | h'
  · simp [h'] at h ⊢; exact h
  · simp [Array.getElem?_eq_none h'] at h

/-- Operations wait for earlier ones alone. -/
def upB (ops : Array Oper) : Bool := (List.range ops.size).all fun i => ((ops[i]?).map (·.after.all fun e => decide (e.on < i))).getD true
theorem upB_spec (h : upB ops = true) {i : Nat} {o : Oper} (ho : ops[i]? = some o) : ∀ e ∈ o.after, e.on < i := by
  have hlt : i < ops.size := (Array.getElem?_eq_some_iff.1 ho).1
  have h1 := List.all_eq_true.1 h i (List.mem_range.2 hlt)
  rw [ho] at h1
  simp only [Option.map_some, Option.getD_some, Array.all_eq_true_iff_forall_mem, decide_eq_true_eq] at h1
  exact h1
/-- As long as one is not listed, one may come up. -/
theorem ready_ne (h : upB ops = true) {listed : Array Bool} (hs : listed.size = ops.size) : ∀ n, listed.getD n true = false → Region.ready .any ops listed ≠ [] := by
  intro n
  induction n using Nat.strongRecOn with
  | _ n ih =>
    intro hn he
    have hlt : n < ops.size := by
      rcases Nat.lt_or_ge n listed.size with h' | h'
      · omega
      · simp [Array.getElem?_eq_none h'] at hn
    by_cases hall : ∀ e ∈ (ops[n]).after, Region.binds .any e = true → listed.getD e.on false = true
    · have : n ∈ Region.ready .any ops listed := mem_ready.2 ⟨hn, ops[n], by simp [hlt], hall⟩
      rw [he] at this
      cases this
    · have hx : ∃ e ∈ (ops[n]).after, listed.getD e.on false = false := by
        apply Classical.byContradiction
        intro hno
        refine hall fun e he' _ => ?_
        cases hb : listed.getD e.on false with
        | true => rfl
        | false => exact absurd ⟨e, he', hb⟩ hno
      obtain ⟨e, he', hb⟩ := hx
      have hlt' := upB_spec h (i := n) (o := ops[n]) (by simp [hlt]) e he'
      exact ih e.on hlt' (getD_in (by omega) hb) he

def upd (u : Nat → Value) (k : Nat) (v : Value) : Nat → Value := fun j => if j = k then v else u j
theorem upd_same (u : Nat → Value) (k : Nat) (v : Value) : upd u k v k = v := if_pos rfl
theorem upd_ne (u : Nat → Value) {k j : Nat} (v : Value) (h : j ≠ k) : upd u k v j = u j := if_neg h

variable {A : (Nat → Value) → Act} {s : Nat → Nat} {φ : Nat → Value → World → Prop} {S : World → Prop} {n : Nat}

theorem any_inv (hz : ops.size = n + 1) (hE : LastOf ops n) (hup : upB ops = true)
    (hput : ∀ i, i < n → ∀ u v, (A u).put (some (s i)) v = A (upd u (s i) v)) (hinj : ∀ i j, i < n → j < n → s i = s j → i = j)
    (step : ∀ i, i < n → ∀ u w, S w → (∀ j, Region.waitsFor .any ops i j = true → φ j (u (s j)) w) → ∃ o, ops[i]? = some o ∧ ∀ K' : Act → World → Prop, Shut (∀ v w', S w' → (∀ j v', φ j v' w → φ j v' w') → φ i v w' → K' ((A u).put (some (s i)) v) w') → if Region.wanted o (yielded ops (A u).tmps) = true then Oper.wp P o (A u) w K' Q else K' ((A u).put o.dst undef) w)
    (last : ∀ u w, S w → (∀ j, j < n → φ j (u (s j)) w) → ∃ o, ops[n]? = some o ∧ ∀ K' : Act → World → Prop, Shut (∀ a w, Q .normal a w → K' a w) → if Region.wanted o (yielded ops (A u).tmps) = true then Oper.wp P o (A u) w K' Q else K' ((A u).put o.dst undef) w) :
    ∀ (fuel : Nat) (listed : Array Bool) (u : Nat → Value) (w : World), falses listed.toList ≤ fuel → HeadInv .any ops n listed → S w → (∀ j, j < n → listed.getD j false = true → φ j (u (s j)) w) →
      wpAny P .any ops Q fuel listed (A u) w := by
  intro fuel
  induction fuel with
  | zero =>
    intro listed u w hf inv _ _
    have := falses_pos _ _ (at_false (inv.tail n (Nat.le_refl _) (by omega)))
    omega
  | succ fuel ih =>
    intro listed u w hf inv hS hφ
    have hn := inv.tail n (Nat.le_refl _) (by omega)
    refine ⟨fun h => absurd h (ready_ne hup inv.size n hn), fun i hi => ?_⟩
    have hi' := mem_ready.1 hi
    obtain ⟨hun, oi, hoi, hall⟩ := hi'
    have hisz : i < n + 1 := by rw [← hz]; exact (Array.getElem?_eq_some_iff.1 hoi).1
    by_cases hin : i < n
    · obtain ⟨o, ho, h⟩ := step i hin u w hS (fun j hj => by
        obtain ⟨oj, hoj, e, he, hb, hon⟩ := Region.waitsFor_spec hj
        have e1 : oj = oi := Option.some.inj (hoj.symm.trans hoi)
        subst e1
        have h1 := hall e he hb
        have h2 := upB_spec hup hoj e he
        rw [hon] at h1 h2
        exact hφ j (by omega) h1)
      refine wpOp_step ho fun K' hK => h K' fun v w' hS' hst hv => hK _ _ ?_
      rw [hput i hin]
      refine ih _ _ _ ?_ (inv.set hi hin) hS' fun j hj hl => ?_
      · have := falses_set _ _ (at_false hun)
        simp only [Array.toList_setIfInBounds]
        omega
      · by_cases e : i = j
        · subst e; rw [upd_same]; exact hv
        · rw [getD_set_ne false e] at hl
          rw [upd_ne _ _ (fun e' => e (hinj i j hin hj e'.symm))]
          exact hst j _ (hφ j hj hl)
    · have e : i = n := by omega
      subst e
      have hlall : ∀ j, j < i → listed.getD j false = true := by
        intro j hj
        cases hb : listed.getD j false with
        | true => rfl
        | false => exact absurd hi (tail_waits hE.sink hE.chain hE.lt inv _ j rfl hj (getD_in (by rw [inv.size]; omega) hb) i (Nat.le_refl _))
      obtain ⟨o, ho, h⟩ := last u w hS (fun j hj => hφ j hj (hlall j hj))
      refine wpOp_step ho fun K' hK => h K' fun a' w' hq => hK _ _ ?_
      have hd : Region.ready .any ops (listed.setIfInBounds i true) = [] := by
        cases hr : Region.ready .any ops (listed.setIfInBounds i true) with
        | nil => rfl
        | cons k l =>
          have hk : k ∈ Region.ready .any ops (listed.setIfInBounds i true) := by rw [hr]; exact List.mem_cons_self
          obtain ⟨h1, ok, hok, _⟩ := mem_ready.1 hk
          have hklt : k < i + 1 := by rw [← hz]; exact (Array.getElem?_eq_some_iff.1 hok).1
          by_cases e : k = i
          · subst e
            have : k < listed.size := by rw [inv.size]; omega
            simp [this] at h1
          · rw [getD_set_ne true (Ne.symm e)] at h1
            have h2 := hlall k (by omega)
            rw [getD_both h1] at h2
            cases h2
      cases fuel with
      | zero => exact ⟨hd, hq⟩
      | succ f => exact ⟨fun _ => hq, fun k hk => by rw [hd] at hk; cases hk⟩

theorem region_inv {id : Nat} {a : Act} {w : World} (A : (Nat → Value) → Act) (s : Nat → Nat) (φ : Nat → Value → World → Prop) (S : World → Prop) (n : Nat) (u0 : Nat → Value) (ha : a = A u0)
    (hm : P.follows .mixedOrders = true) (hz : ops.size = n + 1) (hE : LastOf ops n) (hup : upB ops = true) (hS : S w.drew)
    (hput : ∀ i, i < n → ∀ u v, (A u).put (some (s i)) v = A (upd u (s i) v)) (hinj : ∀ i j, i < n → j < n → s i = s j → i = j)
    (step : ∀ i, i < n → ∀ u w, S w → (∀ j, Region.waitsFor .any ops i j = true → φ j (u (s j)) w) → ∃ o, ops[i]? = some o ∧ ∀ K' : Act → World → Prop, Shut (∀ v w', S w' → (∀ j v', φ j v' w → φ j v' w') → φ i v w' → K' ((A u).put (some (s i)) v) w') → if Region.wanted o (yielded ops (A u).tmps) = true then Oper.wp P o (A u) w K' Q else K' ((A u).put o.dst undef) w)
    (last : ∀ u w, S w → (∀ j, j < n → φ j (u (s j)) w) → ∃ o, ops[n]? = some o ∧ ∀ K' : Act → World → Prop, Shut (∀ a w, Q .normal a w → K' a w) → if Region.wanted o (yielded ops (A u).tmps) = true then Oper.wp P o (A u) w K' Q else K' ((A u).put o.dst undef) w) :
    (Code.region id ops true).wp P Q a w := by
  subst ha
  refine wp_region_any hm ?_
  rw [hz]
  refine any_inv hz hE hup hput hinj step last _ _ _ _ ?_ ⟨by simp [hz], fun j oj _ hl => (by rw [getD_replicate_false] at hl; cases hl), fun t _ ht => getD_in (by simp; omega) (getD_replicate_false _ _)⟩ hS (fun j _ hl => (by rw [getD_replicate_false] at hl; cases hl))
  simp [falses_replicate]
open Go.RowKit in
/-- The same, where each operation but the last writes new memory alone, and what is told of a value goes on being so. -/
theorem region_below {id : Nat} {a : Act} {w : World} (A : (Nat → Value) → Act) (s : Nat → Nat) (φ : Nat → Value → World → Prop) (W : World) (n : Nat) (u0 : Nat → Value) (ha : a = A u0)
    (hm : P.follows .mixedOrders = true) (hz : ops.size = n + 1) (hE : LastOf ops n) (hup : upB ops = true) (hW : Below W.heap.size W w)
    (hput : ∀ i, i < n → ∀ u v, (A u).put (some (s i)) v = A (upd u (s i) v)) (hinj : ∀ i j, i < n → j < n → s i = s j → i = j)
    (stable : ∀ i v w w', Below w.heap.size w w' → φ i v w → φ i v w')
    (step : ∀ i, i < n → ∀ u w, Below W.heap.size W w → (∀ j, Region.waitsFor .any ops i j = true → φ j (u (s j)) w) → ∃ o, ops[i]? = some o ∧ ∀ K' : Act → World → Prop, Shut (∀ v w', Below w.heap.size w w' → φ i v w' → K' ((A u).put (some (s i)) v) w') → if Region.wanted o (yielded ops (A u).tmps) = true then Oper.wp P o (A u) w K' Q else K' ((A u).put o.dst undef) w)
    (last : ∀ u w, Below W.heap.size W w → (∀ j, j < n → φ j (u (s j)) w) → ∃ o, ops[n]? = some o ∧ ∀ K' : Act → World → Prop, Shut (∀ a w, Q .normal a w → K' a w) → if Region.wanted o (yielded ops (A u).tmps) = true then Oper.wp P o (A u) w K' Q else K' ((A u).put o.dst undef) w) :
    (Code.region id ops true).wp P Q a w := by
  refine region_inv A s φ (fun w => Below W.heap.size W w) n u0 ha hm hz hE hup hW.drew hput hinj ?_ last
  intro i hi u w8 hS8 hdep
  obtain ⟨o, ho, h⟩ := step i hi u w8 hS8 hdep
  refine ⟨o, ho, fun K' hK => h K' fun v w' hb hv => hK.out v w' (hS8.trans (hb.mono hS8.size)) (fun j v' h' => stable j v' _ _ hb h') hv⟩
theorem slots_inj (l : List Nat) (h : l.Nodup) {i j : Nat} (hi : i < l.length) (hj : j < l.length) (e : l.getD i 0 = l.getD j 0) : i = j := by
  rw [List.getD_eq_getElem?_getD, List.getD_eq_getElem?_getD, List.getElem?_eq_getElem hi, List.getElem?_eq_getElem hj] at e
  exact (List.getElem_inj h).1 e
end Go.Proofs.YtbahjpheaaiamaaDoor.drawn
