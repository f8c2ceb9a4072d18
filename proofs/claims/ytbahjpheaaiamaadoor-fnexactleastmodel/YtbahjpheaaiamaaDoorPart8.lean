/- SolDue; SolFail: one text, so that the claim has fewer files. -/
import Derived.Test.YtbahjpheaaiamaaDoorSolMem
import Derived.Shelf.Spec.SlicesInsertGrow
import Derived.Shelf.Slices.SearchI
import Derived.Shelf.Slices.Empties
/- What is due, a row of numbers that rises: slices.Insert of one, of the program; conditions: lengths that fit. -/
namespace Go.Proofs.YtbahjpheaaiamaaDoor.solDue
open Go.RowKit Go.Deep Go.Maps Go base sets setsOf solSets solOps solMath solHold solMem
set_option linter.unusedVariables false
set_option linter.unusedSimpArgs false

theorem setCells_facts (b : Nat) : ∀ (vs : List Value) (o : Nat) (w : World), (w.setCells b o vs).os = w.os ∧ (w.setCells b o vs).tape = w.tape ∧ (w.setCells b o vs).output = w.output ∧ (w.setCells b o vs).heap.size = w.heap.size ∧ (∀ j, j ≠ b → (w.setCells b o vs).heap[j]? = w.heap[j]?) ∧ (∀ g, (w.setCells b o vs).shape? g = w.shape? g)
  | [], o, w => ⟨rfl, rfl, rfl, rfl, fun _ _ => rfl, fun _ => rfl⟩
  | v :: r, o, w => by
    obtain ⟨h1, h2, h3, h4, h5, h6⟩ := setCells_facts b r (o + 1) (w.setCell ⟨b, o, none⟩ v)
    have hs : ∀ g, (w.setCell ⟨b, o, none⟩ v).shape? g = w.shape? g := fun g => by
      by_cases e : g = b
      · subst e
        unfold World.shape? World.setCell
        simp only [Array.getElem?_modify]
        cases hx : w.heap[g]? with
        | none => simp
        | some ob => cases ob <;> simp
      · exact shape_of (Below.heap_setCell _ _ _ _ (by simpa using e))
    refine ⟨?_, ?_, ?_, ?_, fun j hj => ?_, fun g => ?_⟩
    · rw [World.setCells]; exact h1.trans (by simp [World.setCell])
    · rw [World.setCells]; exact h2.trans (by simp [World.setCell])
    · rw [World.setCells]; exact h3.trans (by simp [World.setCell])
    · rw [World.setCells]; exact h4.trans (by simp [World.setCell])
    · rw [World.setCells]; exact (h5 j hj).trans (Below.heap_setCell _ _ _ _ (by simpa using hj))
    · rw [World.setCells]; exact (h6 g).trans (hs g)
def put1 (k i : Nat) (D : List Nat) : List Nat := D.take k ++ i :: D.drop k
theorem put1_len {k i : Nat} {D : List Nat} (h : k ≤ D.length) : (put1 k i D).length = D.length + 1 := by unfold put1; simp; omega
theorem put1_lo {k i j : Nat} {D : List Nat} (h : k ≤ D.length) (hj : j < k) : (put1 k i D)[j]?.getD 0 = D[j]?.getD 0 := by
  unfold put1
  rw [List.getElem?_append_left (by simp; omega), List.getElem?_take, if_pos hj]
theorem put1_at {k i : Nat} {D : List Nat} (h : k ≤ D.length) : (put1 k i D)[k]?.getD 0 = i := by
  unfold put1
  rw [List.getElem?_append_right (by simp; omega)]
  have : k - (D.take k).length = 0 := by simp; omega
  rw [this]; rfl
theorem put1_hi {k i j : Nat} {D : List Nat} (h : k ≤ D.length) (hj : k < j) : (put1 k i D)[j]?.getD 0 = D[j - 1]?.getD 0 := by
  unfold put1
  rw [List.getElem?_append_right (by simp; omega)]
  have : j - (D.take k).length = (j - 1 - k) + 1 := by simp; omega
  rw [this, List.getElem?_cons_succ, List.getElem?_drop]
  congr 2; omega
theorem intsN_get {D : List Nat} {j : Nat} {v : Value} (h : (intsN D)[j]? = some v) : j < D.length ∧ v = .int .i64 ((D[j]?.getD 0 : Nat) : Int) := by
  unfold intsN at h
  rw [List.getElem?_map] at h
  cases hd : D[j]? with
  | none => rw [hd] at h; cases h
  | some d => rw [hd] at h; injection h with h; exact ⟨(List.getElem?_eq_some_iff.1 hd).1, h.symm⟩
theorem intsN_one {D : List Nat} : ∀ v ∈ intsN D, v.oneCell' = true := fun v hv => by
  unfold intsN at hv
  obtain ⟨d, _, rfl⟩ := List.mem_map.1 hv
  rfl
section
variable {w : World}
theorem due_grown {g cap n : Nat} {cs : List Value} {E : List Nat} (w' : World) (hlen : E.length = n) (hc : n ≤ cap) (hm : cap ≤ maxLen) (arr : Array Value) (hh : w'.heap[g]? = some (.cells arr 3 (0, 0))) (hs : arr.size = cap) (h0 : 0 < cap) (hcell : ∀ j, j < n → arr[j]? = some (.int .i64 ((E[j]?.getD 0 : Nat) : Int))) : DueRow w' (.slice (some ⟨g, 0, none⟩) n cap) E := by
  refine .inr ⟨g, 0, n, cap, rfl, ⟨hlen, hc, hm, fun j hj => ?_, fun j hj => ?_, fun j => ?_, ⟨_, _, by unfold World.shape?; rw [hh], by omega⟩⟩⟩
  · simp [World.cell?, hh, hcell j hj]
  · simp [World.cell?, hh, Array.getElem?_eq_getElem (show j < arr.size by omega)]
  · simp [World.frozen?, hh]
end
theorem insert_impl (w : World) (v : Value) (D : List Nat) (k i vb : Nat) (h : DueRow w v D) (hk : k ≤ D.length) (hl : D.length ≤ 8400000000000) (hvb : v.ownBlock ≠ some vb) (hv : w.heap[vb]? = some (.cells #[.int .i64 i] 3 (0, 0))) :
    Calls Tryd.prog 67 #[v, .int .i64 k, .slice (some ⟨vb, 0, none⟩) 1 1] w fun e w' => ∃ v', e = .returned v' ∧ DueRow w' v' (put1 k i D) ∧ w.grownBy w' v.ownBlock ∧ (v'.ownBlock = v.ownBlock ∨ v'.ownBlock = some w.heap.size) := by
  have hvs : ∀ j u, [Value.int .i64 i][j]? = some u → w.cell? ⟨vb, 0 + j, none⟩ = some u := fun j u hj => by
    match j, hj with
    | 0, hj => simp at hj; subst hj; simp [World.cell?, hv]
  have h1v : ∀ u ∈ [Value.int .i64 (i : Int)], u.oneCell' = true := fun u hu => by simp at hu; subst hu; rfl
  have gsz : ∀ c : Nat, ((((intsN D) ++ [Value.int .i64 (i : Int)]).toArray ++ Builtin.zeroCells (Value.int .i64 0).cells (grownCap w (D.length + 1) c 3 - (D.length + 1)))).size = grownCap w (D.length + 1) c 3 := fun c => by
    have := grownCap_ge w (D.length + 1) c 3
    simp [intsN, Builtin.zeroCells, Value.cells]
    omega
  rcases h with ⟨rfl, rfl⟩ | ⟨g, off, n, cap, rfl, hd⟩
  · have e0 : k = 0 := by simpa using hk
    subst e0
    refine (Any2.slices_Insert_int_end_grow Tryd.lays2_21 none 0 0 vb 0 1 1 [] [.int .i64 i] w (by omega) (by omega) (by omega) (by omega) rfl rfl (fun _ => rfl) (fun a e => by cases e) hvs h1v).mono ?_
    rintro e w' ⟨rfl, rfl⟩
    simp only [show Tryd.lays2_21_ren.t 3 = 3 from rfl]
    have hge := grownCap_ge w 1 0 3
    have hle := grownCap_le_maxLen w 1 0 3 (by unfold maxLen; omega)
    have hsz : (([Value.int .i64 (i : Int)]).toArray ++ Builtin.zeroCells (Value.int .i64 0).cells (grownCap w 1 0 3 - 1)).size = grownCap w 1 0 3 := by
      simp [Builtin.zeroCells, Value.cells]
      omega
    refine ⟨_, rfl, due_grown (cs := []) _ rfl hge hle _ (Go.heap_alloc_new w.drew _) hsz (Nat.lt_of_lt_of_le (Nat.succ_pos _) hge) (fun j hj => ?_), ⟨rfl, rfl, rfl, by simp, fun q hq _ => Go.heap_alloc_old w.drew _ hq⟩, .inr rfl⟩
    have : j = 0 := by omega
    subst this
    rw [Array.getElem?_append_left (by simp)]
    simp [put1]
  · obtain ⟨hlen, hle, hmost, hcell, hsome, hfroz, t, kk, hsh, hkk⟩ := hd
    subst hlen
    have hcs : ∀ j u, (intsN D)[j]? = some u → w.cell? ⟨g, off + j, none⟩ = some u := fun j u hj => by
      obtain ⟨h1, rfl⟩ := intsN_get hj
      exact hcell j h1
    have hil : (intsN D).length = D.length := by unfold intsN; simp
    have hne : vb ≠ g := fun e => hvb (by simp [Value.ownBlock, e])
    by_cases hroom : D.length + 1 ≤ cap
    · by_cases hkn : k < D.length
      · refine (Any2.slices_Insert_int_shift Tryd.lays2_21 g off D.length cap k vb 0 1 1 (intsN D) [.int .i64 i] w hkn (by omega) hroom (by unfold maxLen at hmost; omega) hne hil rfl hcs (fun j hj => hsome j (by omega)) (fun j _ => hfroz _) hvs intsN_one h1v 3 t 1 kk (by unfold World.shape?; rw [hv]; rfl) hsh hkk (by simp [World.frozen?, hv]) (by simp [World.frozen?, hv])).mono ?_
        rintro e w' ⟨rfl, rfl⟩
        obtain ⟨a1, a2, a3, a4, a5, a6⟩ := setCells_facts g ((intsN D).drop k) (off + (k + 1)) w.drew
        obtain ⟨b1, b2, b3, b4, b5, b6⟩ := setCells_facts g [Value.int .i64 i] (off + k) (w.drew.setCells g (off + (k + 1)) ((intsN D).drop k))
        have hsm : ∀ j, j < cap → ((w.drew.setCells g (off + (k + 1)) ((intsN D).drop k)).cell? ⟨g, off + j, none⟩).isSome = true := fun j hj =>
          isSome_setCells g _ _ _ (fun q hq => by rw [Nat.add_assoc]; exact hsome _ (by simp [intsN] at hq; omega)) _ (hsome j hj)
        refine ⟨_, rfl, .inr ⟨g, off, D.length + 1, cap, rfl, ⟨put1_len hk, hroom, hmost, fun j hj => ?_, fun j hj => ?_, fun j => ?_, ⟨t, kk, (b6 g).trans ((a6 g).trans hsh), hkk⟩⟩⟩, ⟨b1.trans a1, b2.trans a2, b3.trans a3, by rw [b4, a4]; exact Nat.le_refl _, fun q hq hqn => (b5 q (fun e => hqn (by rw [e]; rfl))).trans (a5 q (fun e => hqn (by rw [e]; rfl)))⟩, .inl rfl⟩
        · rcases Nat.lt_trichotomy j k with hjk | hjk | hjk
          · rw [World.cell?_setCells_out g _ _ _ _ (fun _ _ => by simp; omega), World.cell?_setCells_out g _ _ _ _ (fun _ _ => by show off + j < off + (k + 1) ∨ _; omega), put1_lo hk hjk]
            exact hcell j (by omega)
          · subst hjk
            have := World.cell?_setCells_in g [Value.int .i64 i] (off + j) _ (fun q hq => by obtain rfl : q = 0 := (by simpa using hq); exact hsm j (by omega)) 0 (by simp)
            rw [put1_at hk]
            simpa using this
          · rw [World.cell?_setCells_out g _ _ _ _ (fun _ _ => by simp; omega), put1_hi hk hjk]
            have := World.cell?_setCells_in g ((intsN D).drop k) (off + (k + 1)) w.drew (fun q hq => by rw [Nat.add_assoc]; exact hsome _ (by simp [intsN] at hq; omega)) (j - (k + 1)) (by simp [intsN]; omega)
            rw [show off + (k + 1) + (j - (k + 1)) = off + j by omega] at this
            rw [this, List.getElem_drop]
            congr 1
            have hq := intsN_get (D := D) (j := k + (j - (k + 1))) (List.getElem?_eq_getElem (by simp [intsN]; omega))
            rw [hq.2]
            congr 4; omega
        · exact isSome_setCells g _ _ _ (fun q hq => by obtain rfl : q = 0 := (by simpa using hq); exact hsm k (by omega)) _ (hsm j hj)
        · rw [World.frozen?_setCells, World.frozen?_setCells]; exact hfroz j
      · have e : k = D.length := by omega
        subst e
        refine (Any2.slices_Insert_int_end_room Tryd.lays2_21 g off D.length cap vb 0 1 1 [.int .i64 i] w (by omega) hroom (by unfold maxLen at hmost; omega) rfl (fun j hj => by rw [Nat.add_assoc]; exact hsome _ (by omega)) (fun j _ => hfroz _) hvs h1v).mono ?_
        rintro e w' ⟨rfl, rfl⟩
        obtain ⟨b1, b2, b3, b4, b5, b6⟩ := setCells_facts g [Value.int .i64 i] (off + D.length) w
        refine ⟨_, rfl, .inr ⟨g, off, D.length + 1, cap, rfl, ⟨put1_len hk, hroom, hmost, fun j hj => ?_, fun j hj => ?_, fun j => ?_, ⟨t, kk, (b6 g).trans hsh, hkk⟩⟩⟩, ⟨b1, b2, b3, by rw [b4]; exact Nat.le_refl _, fun q hq hqn => b5 q (fun e => hqn (by rw [e]; rfl))⟩, .inl rfl⟩
        · by_cases hjk : j < D.length
          · rw [World.cell?_setCells_out g _ _ _ _ (fun _ _ => by simp; omega), put1_lo hk hjk]
            exact hcell j hjk
          · have e : j = D.length := by omega
            subst e
            have := World.cell?_setCells_in g [Value.int .i64 i] (off + D.length) w (fun q hq => by rw [Nat.add_assoc]; exact hsome _ (by simp at hq; omega)) 0 (by simp)
            rw [put1_at hk]
            simpa using this
        · exact isSome_setCells g _ _ _ (fun q hq => by rw [Nat.add_assoc]; exact hsome _ (by simp at hq; omega)) _ (hsome j hj)
        · rw [World.frozen?_setCells]; exact hfroz j
    · have hge := grownCap_ge w (D.length + 1) cap 3
      have hgm := grownCap_le_maxLen w (D.length + 1) cap 3 (by unfold maxLen; omega)
      by_cases hkn : k < D.length
      · refine (Any2.slices_Insert_int_grow Tryd.lays2_21 g off D.length cap k vb 0 1 1 (intsN D) [.int .i64 i] w hkn (by omega) hle (by omega) (by omega) hil rfl hcs hvs intsN_one h1v).mono ?_
        rintro e w' ⟨rfl, rfl⟩
        simp only [show Tryd.lays2_21_ren.t 3 = 3 from rfl]
        obtain ⟨G, hG⟩ : ∃ G, grownCap w (D.length + 1) cap 3 = G := ⟨_, rfl⟩
        rw [hG] at hge hgm ⊢
        obtain ⟨arr, harr⟩ : ∃ arr : Array Value, ((intsN D).take k).toArray ++ Builtin.zeroCells (Value.int .i64 0).cells (D.length + 1 - k) ++ Builtin.zeroCells (Value.int .i64 0).cells (G - (D.length + 1)) = arr := ⟨_, rfl⟩
        rw [harr]
        have hasz : arr.size = G := by rw [← harr]; simp [intsN, Builtin.zeroCells, Value.cells]; omega
        obtain ⟨W1, hW1⟩ : ∃ W1, (w.alloc (.cells arr 3)).drew = W1 := ⟨_, rfl⟩
        rw [hW1]
        have c1 : ∀ j, W1.cell? ⟨w.heap.size, j, none⟩ = arr[j]? := fun j => by rw [← hW1]; exact World.cell?_alloc_at (w := w) arr _ w.heap.size j rfl
        have z1 : W1.heap.size = w.heap.size + 1 := by rw [← hW1]; simp
        have o1 : ∀ j, j < w.heap.size → W1.heap[j]? = w.heap[j]? := fun j hj => by rw [← hW1]; exact Go.heap_alloc_old w _ hj
        have f1 : ∀ j, W1.frozen? ⟨w.heap.size, j, none⟩ = false := fun j => by rw [← hW1]; have := Go.heap_alloc_new w (.cells arr 3); show (w.alloc (.cells arr 3)).frozen? _ = _; unfold World.frozen?; dsimp only; rw [this]; simp
        have p1 : W1.shape? w.heap.size = some (3, G) := by rw [← hW1, ← hasz]; have := Go.heap_alloc_new w (.cells arr 3); show (w.alloc (.cells arr 3)).shape? _ = _; unfold World.shape?; rw [this]
        have q1 : W1.os = w.os ∧ W1.tape = w.tape ∧ W1.output = w.output := by rw [← hW1]; exact ⟨rfl, rfl, rfl⟩
        have m1 : ∀ j, j < G → (W1.cell? ⟨w.heap.size, 0 + j, none⟩).isSome = true := fun j hj => by rw [c1, Array.getElem?_eq_getElem (by omega)]; rfl
        clear hW1
        obtain ⟨a1, a2, a3, a4, a5, a6⟩ := setCells_facts w.heap.size [Value.int .i64 i] k W1
        obtain ⟨W2, hW2⟩ : ∃ W2, (W1.setCells w.heap.size k [Value.int .i64 i]).drew = W2 := ⟨_, rfl⟩
        have c2 : ∀ j, W2.cell? ⟨w.heap.size, j, none⟩ = if j = k then some (.int .i64 i) else arr[j]? := fun j => by
          rw [← hW2]
          show (W1.setCells w.heap.size k [Value.int .i64 i]).cell? _ = _
          by_cases e : j = k
          · subst e
            rw [if_pos rfl]
            have := World.cell?_setCells_in w.heap.size [Value.int .i64 i] j W1 (fun q hq => by obtain rfl : q = 0 := (by simpa using hq); have := m1 j (by omega); simpa using this) 0 (by simp)
            simpa using this
          · rw [if_neg e, World.cell?_setCells_out w.heap.size _ _ _ _ (fun _ _ => by simp; omega), c1]
        have a1' : W2.os = W1.os ∧ W2.tape = W1.tape ∧ W2.output = W1.output ∧ W2.heap.size = W1.heap.size := by rw [← hW2]; exact ⟨a1, a2, a3, a4⟩
        have a5' : ∀ j, j ≠ w.heap.size → W2.heap[j]? = W1.heap[j]? := by rw [← hW2]; exact a5
        have a6' : ∀ g, W2.shape? g = W1.shape? g := by rw [← hW2]; exact a6
        have f2 : ∀ j, W2.frozen? ⟨w.heap.size, j, none⟩ = false := fun j => by
          rw [← hW2]
          show (W1.setCells w.heap.size k [Value.int .i64 i]).frozen? _ = _
          rw [World.frozen?_setCells]; exact f1 j
        have m2 : ∀ j, j < G → (W2.cell? ⟨w.heap.size, j, none⟩).isSome = true := fun j hj => by
          rw [c2]
          split
          · rfl
          · rw [Array.getElem?_eq_getElem (by omega)]; rfl
        rw [hW2]
        clear hW2
        obtain ⟨b1, b2, b3, b4, b5, b6⟩ := setCells_facts w.heap.size ((intsN D).drop k) (k + 1) W2
        refine ⟨_, rfl, .inr ⟨w.heap.size, 0, D.length + 1, G, rfl, ⟨put1_len hk, hge, hgm, fun j hj => ?_, fun j hj => ?_, fun j => ?_, ⟨3, G, (b6 _).trans ((a6' _).trans p1), by omega⟩⟩⟩, ⟨b1.trans (a1'.1.trans q1.1), b2.trans (a1'.2.1.trans q1.2.1), b3.trans (a1'.2.2.1.trans q1.2.2), by rw [b4, a1'.2.2.2, z1]; omega, fun q hq _ => (b5 q (by omega)).trans ((a5' q (by omega)).trans (o1 q hq))⟩, .inr rfl⟩
        · rw [Nat.zero_add]
          rcases Nat.lt_trichotomy j k with hjk | hjk | hjk
          · rw [World.cell?_setCells_out w.heap.size _ _ _ _ (fun _ _ => by show j < k + 1 ∨ _; omega), c2, if_neg (by omega), put1_lo hk hjk, ← harr]
            rw [Array.getElem?_append_left (by simp [intsN, Builtin.zeroCells, Value.cells]; omega), Array.getElem?_append_left (by simp [intsN]; omega)]
            simp only [List.getElem?_toArray]
            rw [List.getElem?_take, if_pos hjk]
            have hq := intsN_get (D := D) (j := j) (List.getElem?_eq_getElem (by rw [hil]; omega))
            rw [List.getElem?_eq_getElem (by rw [hil]; omega), hq.2]
          · subst hjk
            rw [World.cell?_setCells_out w.heap.size _ _ _ _ (fun _ _ => by show j < j + 1 ∨ _; omega), c2, if_pos rfl, put1_at hk]
          · rw [put1_hi hk hjk]
            have := World.cell?_setCells_in w.heap.size ((intsN D).drop k) (k + 1) W2 (fun q hq => m2 _ (by simp [intsN] at hq; omega)) (j - (k + 1)) (by simp [intsN]; omega)
            rw [show k + 1 + (j - (k + 1)) = j by omega] at this
            rw [this, List.getElem_drop]
            congr 1
            have hq := intsN_get (D := D) (j := k + (j - (k + 1))) (List.getElem?_eq_getElem (by simp [intsN]; omega))
            rw [hq.2]
            congr 4; omega
        · rw [Nat.zero_add]
          exact isSome_setCells w.heap.size _ _ _ (fun q hq => m2 _ (by simp [intsN] at hq; omega)) _ (m2 j hj)
        · rw [World.frozen?_setCells]; exact f2 j
      · have e : k = D.length := by omega
        subst e
        refine (Any2.slices_Insert_int_end_grow Tryd.lays2_21 (some ⟨g, off, none⟩) D.length cap vb 0 1 1 (intsN D) [.int .i64 i] w (by omega) hle (by omega) (by omega) hil rfl (fun e => by cases e) (fun a e j u hj => by injection e with e; subst e; rw [Addr.add_lit]; exact hcs j u hj) hvs h1v).mono ?_
        rintro e w' ⟨rfl, rfl⟩
        simp only [show Tryd.lays2_21_ren.t 3 = 3 from rfl]
        have hsz := gsz cap
        refine ⟨_, rfl, due_grown (cs := []) _ (put1_len hk) hge hgm _ (Go.heap_alloc_new w.drew _) hsz (Nat.lt_of_lt_of_le (Nat.succ_pos _) hge) (fun j hj => ?_), ⟨rfl, rfl, rfl, by simp, fun q hq _ => Go.heap_alloc_old w.drew _ hq⟩, .inr rfl⟩
        rw [Array.getElem?_append_left (by simp [intsN]; omega)]
        by_cases hjk : j < D.length
        · rw [put1_lo hk hjk]
          simp only [List.getElem?_toArray]
          rw [List.getElem?_append_left (by rw [hil]; exact hjk)]
          have hq := intsN_get (D := D) (j := j) (List.getElem?_eq_getElem (by rw [hil]; exact hjk))
          rw [List.getElem?_eq_getElem (by rw [hil]; exact hjk), hq.2]
        · have e : j = D.length := by omega
          subst e
          rw [put1_at hk]
          simp only [List.getElem?_toArray]
          rw [List.getElem?_append_right (by rw [hil]; exact Nat.le_refl _), hil]
          simp
end Go.Proofs.YtbahjpheaaiamaaDoor.solDue

/- A solver of the program: it notes that a clause is false (fail); its cells are written; conditions: none. -/
namespace Go.Proofs.YtbahjpheaaiamaaDoor.solFail
open Go.RowKit Go.Deep Go.Maps Go base sets setsOf solSets solOps solMath solHold solMem
set_option linter.unusedVariables false
set_option linter.unusedSimpArgs false

section
variable {z : Int} {M mb : Nat} {F : Nat → Value} {V : Int → Value} {s : Sv} {w : World}
/-- The solver's own cells alone are written. -/
theorem Sol.cellsM (h : Sol z M mb F V s w) (hz : z ≤ 40) {F' : Nat → Value} {s' : Sv} {w' : World} (cells : w'.rowIs M 69 56 F') (f0 : F' 0 = .int .i64 s'.n) (f4 : F' 4 = .map (some mb)) (f5 : F' 5 = .int .u64 s'.H.1) (f6 : F' 6 = .int .u64 s'.H.2) (f10 : F' 10 = .int .i64 s'.F) (fx : ∀ j, (j = 1 ∨ 11 ≤ j) → F' j = s'.X j)
    (same : ∀ a, valA F' V a = valA F V a ∧ (∀ v w, RowA s a v w → RowA s' a v w)) (blocks : ∀ j, j ≠ M → w'.heap[j]? = w.heap[j]?) (os : w'.os = w.os) (tape : w'.tape = w.tape) (output : w'.output = w.output) (size : w.heap.size ≤ w'.heap.size) :
    Sol z M mb F' V s' w' ∧ Chg M mb (blk z F V) (blk z F' V) w w' := by
  have h0 : (1001 : Int) ≠ z := by omega
  obtain ⟨D, hD, hV⟩ := h.map
  refine h.step 1001 h0 cells f0 f4 f5 f6 f10 fx ⟨D, by
    obtain ⟨es, clock, h1, h2⟩ := hD
    exact ⟨es, clock, by rw [blocks mb (fun e => h.ne e.symm)]; exact h1, h2⟩, hV⟩ (fun a _ _ => same a) (fun j _ h1 _ _ => blocks j h1) ?_ (.inl (by rw [(same 1001).1])) os tape output size
  rw [(same 1001).1]
  refine row_kept ((same 1001).2 _ _ (h.rows 1001 h0)) fun g hg => blocks g ?_
  have hb : blk z F V 1001 = some g := by rw [blk_ne h0]; exact hg
  exact (h.off _ g hb).1
theorem setCell_os (w : World) (a : Addr) (v : Value) : (w.setCell a v).os = w.os ∧ (w.setCell a v).tape = w.tape ∧ (w.setCell a v).output = w.output ∧ (w.setCell a v).heap.size = w.heap.size := by
  refine ⟨?_, ?_, ?_, ?_⟩ <;> simp [World.setCell]
theorem Sol.setFail (h : Sol z M mb F V s w) (hz : z ≤ 40) (f : Int) :
    Sol z M mb (fun j => if j = 10 then .int .i64 f else F j) V { s with F := f } (w.setCell ⟨M, 10, none⟩ (.int .i64 f)) ∧ Chg M mb (blk z F V) (blk z (fun j => if j = 10 then .int .i64 f else F j) V) w (w.setCell ⟨M, 10, none⟩ (.int .i64 f)) := by
  obtain ⟨e1, e2, e3, e4⟩ := setCell_os w ⟨M, 10, none⟩ (.int .i64 f)
  exact Sol.cellsM h hz (World.rowIs.set h.cells 10 _) h.f0 h.f4 h.f5 h.f6 rfl (fun j hj => by dsimp only; rw [if_neg (by omega)]; exact h.fx j hj) (fun a => ⟨rfl, fun v w hr => hr⟩) (fun j hj => Below.heap_setCell _ _ _ _ (by simpa using hj)) e1 e2 e3 (by omega)
theorem Sol.setHeld (h : Sol z M mb F V s w) (hz : z ≤ 40) (H : LS) :
    Sol z M mb (fun j => if j = 6 then .int .u64 H.2 else if j = 5 then .int .u64 H.1 else F j) V { s with H := H } ((w.setCell ⟨M, 5, none⟩ (.int .u64 H.1)).setCell ⟨M, 6, none⟩ (.int .u64 H.2)) ∧ Chg M mb (blk z F V) (blk z (fun j => if j = 6 then .int .u64 H.2 else if j = 5 then .int .u64 H.1 else F j) V) w ((w.setCell ⟨M, 5, none⟩ (.int .u64 H.1)).setCell ⟨M, 6, none⟩ (.int .u64 H.2)) := by
  obtain ⟨e1, e2, e3, e4⟩ := setCell_os w ⟨M, 5, none⟩ (.int .u64 H.1)
  obtain ⟨g1, g2, g3, g4⟩ := setCell_os (w.setCell ⟨M, 5, none⟩ (.int .u64 H.1)) ⟨M, 6, none⟩ (.int .u64 H.2)
  exact Sol.cellsM h hz (World.rowIs.set (World.rowIs.set h.cells 5 _) 6 _) h.f0 h.f4 rfl rfl h.f10 (fun j hj => by dsimp only; rw [if_neg (by omega), if_neg (by omega)]; exact h.fx j hj) (fun a => ⟨rfl, fun v w hr => hr⟩) (fun j hj => (Below.heap_setCell _ _ _ _ (by simpa using hj)).trans (Below.heap_setCell _ _ _ _ (by simpa using hj))) (g1.trans e1) (g2.trans e2) (g3.trans e3) (by omega)
end
set_option maxHeartbeats 800000 in
theorem fail_impl (z : Int) (M mb : Nat) (F : Nat → Value) (V : Int → Value) (s : Sv) (w : World) (h : Sol z M mb F V s w) (hz : z ≤ 40) (i : Nat) (hi : i ≤ 8400000000000) (hf : -1 ≤ s.F ∧ s.F ≤ 8400000000000) :
    Calls Tryd.prog 56 #[.pointer (some ⟨M, 0, none⟩), .int .i64 i] w fun e w' => e = .returned (.tuple #[]) ∧ ∃ F', Sol z M mb F' V { s with F := failF s.F i } w' ∧ Chg M mb (blk z F V) (blk z F' V) w w' ∧ F' 2 = F 2 := by
  have c := h.cell (i := 10) (by omega)
  rw [h.f10] at c
  have fr := h.frozen 10
  have HS := hid h
  obtain ⟨f, hf9⟩ : ∃ f, s.F = f := ⟨_, rfl⟩
  rw [hf9] at c hf
  have HF := hid hf9
  clear h hf9
  have e0 : (if s.F = -1 ∨ (i : Int) < s.F then (i : Int) else s.F) = failF s.F i := rfl
  by_cases h1 : f = -1
  · have HR : Hid (failF s.F i = i) := hid (by unfold failF; rw [HF.out, if_pos (.inl h1)])
    have d1 : (f == -1) = true := by simp [h1]
    clear h1
    go_enter Tryd.func56, Tryd.ntmps56
    go_wp2
    go_end0
    obtain ⟨h2, h3⟩ := Sol.setFail HS.out hz i
    exact ⟨rfl, _, by rw [HR.out]; exact h2, h3, rfl⟩
  · have d1 : (f == -1) = false := by simp [h1]
    by_cases h2 : (i : Int) < f
    · have HR : Hid (failF s.F i = i) := hid (by unfold failF; rw [HF.out, if_pos (.inr h2)])
      clear h1
      go_enter Tryd.func56, Tryd.ntmps56
      go_wp2
      go_end0
      obtain ⟨h2, h3⟩ := Sol.setFail HS.out hz i
      exact ⟨rfl, _, by rw [HR.out]; exact h2, h3, rfl⟩
    · have HR : Hid (failF s.F i = s.F) := hid (by unfold failF; rw [HF.out, if_neg (by omega)])
      clear h1
      go_enter Tryd.func56, Tryd.ntmps56
      go_wp2
      go_end0
      exact ⟨rfl, F, by rw [HR.out]; exact HS.out.below (by repeat (first | exact Below.refl _ _ | assumption | refine netSem.bdn ?_ _ | refine Below.drew ?_ | refine Below.alloc ?_ (by first | exact Nat.le_refl _ | omega | (simp; done) | (simp; omega)) _)), Chg.below (by repeat (first | exact Below.refl _ _ | assumption | refine netSem.bdn ?_ _ | refine Below.drew ?_ | refine Below.alloc ?_ (by first | exact Nat.le_refl _ | omega | (simp; done) | (simp; omega)) _)), rfl⟩
end Go.Proofs.YtbahjpheaaiamaaDoor.solFail
