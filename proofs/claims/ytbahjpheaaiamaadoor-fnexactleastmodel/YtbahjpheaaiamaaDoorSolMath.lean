/- A solver's state: clauses, two watched literals of each, what is true, what is due, what has failed; and what making a literal true does to it; conditions: none. -/
import Derived.Test.YtbahjpheaaiamaaDoorSolSets
namespace Go.Proofs.YtbahjpheaaiamaaDoor.solMath
open sets solSets
set_option linter.unusedVariables false
set_option linter.unusedSimpArgs false

structure Sv where
  n : Int
  C : List LS
  W : List (Int × Int)
  L : Int → List Nat
  H : LS
  T : List (Int × Int)
  K : List Nat
  D : List Nat
  F : Int
  X : Nat → Value
def Sv.cl (s : Sv) (i : Nat) : LS := s.C[i]?.getD (0, 0)
def Sv.wt (s : Sv) (i : Nat) : Int × Int := s.W[i]?.getD (0, 0)
def upd (L : Int → List Nat) (x : Int) (r : List Nat) : Int → List Nat := fun y => if y = x then r else L y
def insS (i : Nat) (D : List Nat) : List Nat := D.take (D.countP (· < i)) ++ i :: D.drop (D.countP (· < i))
def failF (F : Int) (i : Nat) : Int := if F = -1 ∨ (i : Int) < F then i else F
def stay (s : Sv) (i : Nat) (x : Int) : Int := if (s.wt i).1 = x then (s.wt i).2 else (s.wt i).1
def toL (s : Sv) (i : Nat) (x : Int) : Int := firstL (woL (restL (s.cl i) s.H) (onlyL (stay s i x)))
/-- What a clause does whose watched literal x has become false. -/
def mv (s : Sv) (i : Nat) (x : Int) : Sv × Bool :=
  if meetL (s.cl i) s.H = true then (s, false)
  else if restL (s.cl i) s.H = (0, 0) then ({ s with F := failF s.F i }, false)
  else if restL (s.cl i) s.H = onlyL (stay s i x) then ({ s with D := insS i s.D }, false)
  else ({ s with W := s.W.set i (stay s i x, toL s i x), L := upd s.L (toL s i x) (s.L (toL s i x) ++ [i]) }, true)
def mvs (x : Int) : List Nat → Sv → List Nat → Sv × List Nat
  | [], s, kept => (s, kept)
  | i :: r, s, kept => mvs x r (mv s i x).1 (if (mv s i x).2 = true then kept else kept ++ [i])
def held1 (s : Sv) (l r : Int) : Sv := { s with H := withL s.H (onlyL l), T := s.T ++ [(l, r)] }
def holdS (s : Sv) (l r : Int) : Sv := { (mvs (-l) (s.L (-l)) (held1 s l r) []).1 with L := upd (mvs (-l) (s.L (-l)) (held1 s l r) []).1.L (-l) (mvs (-l) (s.L (-l)) (held1 s l r) []).2 }

theorem ins_parts {i : Nat} : ∀ {D : List Nat}, D.Pairwise (· < ·) → (∀ x ∈ D.take (D.countP (· < i)), x < i) ∧ (∀ x ∈ D.drop (D.countP (· < i)), ¬ x < i)
  | [], _ => by simp
  | d :: D, h => by
    rw [List.pairwise_cons] at h
    by_cases hd : d < i
    · obtain ⟨h1, h2⟩ := ins_parts (i := i) h.2
      rw [List.countP_cons_of_pos (by simpa using hd), List.take_succ_cons, List.drop_succ_cons]
      refine ⟨fun x hx => ?_, h2⟩
      rcases List.mem_cons.1 hx with rfl | hx
      · exact hd
      · exact h1 x hx
    · have h0 : (d :: D).countP (· < i) = 0 := by
        rw [List.countP_eq_zero]
        intro x hx
        rcases List.mem_cons.1 hx with rfl | hx
        · simpa using hd
        · have := h.1 x hx
          simp; omega
      rw [h0]
      refine ⟨by simp, fun x hx => ?_⟩
      rcases List.mem_cons.1 hx with rfl | hx
      · exact hd
      · have := h.1 x hx
        omega
theorem mem_ins {i x : Nat} {D : List Nat} : x ∈ insS i D ↔ x = i ∨ x ∈ D := by
  unfold insS
  rw [List.mem_append, List.mem_cons]
  constructor
  · rintro (h | h | h)
    · exact .inr (List.mem_of_mem_take h)
    · exact .inl h
    · exact .inr (List.mem_of_mem_drop h)
  · rintro (h | h)
    · exact .inr (.inl h)
    · rw [← List.take_append_drop (D.countP (· < i)) D, List.mem_append] at h
      rcases h with h | h
      · exact .inl h
      · exact .inr (.inr h)
theorem ins_sorted {i : Nat} {D : List Nat} (h : D.Pairwise (· < ·)) (hi : i ∉ D) : (insS i D).Pairwise (· < ·) := by
  obtain ⟨h1, h2⟩ := ins_parts (i := i) h
  unfold insS
  have hd := h
  rw [← List.take_append_drop (D.countP (· < i)) D, List.pairwise_append] at hd
  rw [List.pairwise_append, List.pairwise_cons]
  refine ⟨hd.1, ⟨fun x hx => ?_, hd.2.1⟩, fun x hx y hy => ?_⟩
  · have := h2 x hx
    have hne : x ≠ i := fun e => hi (by rw [← e]; exact List.mem_of_mem_drop hx)
    omega
  · rcases List.mem_cons.1 hy with rfl | hy
    · exact h1 x hx
    · exact hd.2.2 x hx y hy
theorem sorted_len : ∀ {D : List Nat} {a n : Nat}, D.Pairwise (· < ·) → (∀ x ∈ D, a ≤ x ∧ x < n) → D.length + a ≤ n ∨ D = []
  | [], _, _, _, _ => .inr rfl
  | d :: D, a, n, h, hx => by
    rw [List.pairwise_cons] at h
    have hd := hx d (by simp)
    rcases sorted_len (a := d + 1) (n := n) h.2 (fun x hm => ⟨h.1 x hm, (hx x (by simp [hm])).2⟩) with h1 | h1
    · exact .inl (by simp; omega)
    · exact .inl (by rw [h1]; simp; omega)
theorem sorted_most {D : List Nat} {n : Nat} (h : D.Pairwise (· < ·)) (hx : ∀ x ∈ D, x < n) : D.length ≤ n := by
  rcases sorted_len (a := 0) (n := n) h (fun x hm => ⟨Nat.zero_le _, hx x hm⟩) with h1 | h1
  · omega
  · rw [h1]; simp
theorem nodup_most : ∀ {n : Nat} {D : List Nat}, D.Nodup → (∀ x ∈ D, x < n) → D.length ≤ n
  | 0, [], _, _ => by simp
  | 0, d :: D, _, h => absurd (h d (by simp)) (by omega)
  | n + 1, D, h, hx => by
    have h1 := nodup_most (n := n) (D := D.filter (· ≠ n)) (h.filter _) (fun x hm => by
      rw [List.mem_filter] at hm
      have := hx x hm.1
      have := hm.2
      simp at this
      omega)
    have h2 : D.length = (D.filter (· ≠ n)).length + (D.filter (fun x => !decide (x ≠ n))).length := by
      have := List.length_eq_countP_add_countP (p := fun x => decide (x ≠ n)) (l := D)
      rw [List.countP_eq_length_filter, List.countP_eq_length_filter] at this
      rw [this]
      congr 3
      funext x
      simp
    have h3 : (D.filter (fun x => !decide (x ≠ n))).length ≤ 1 := by
      have hn : (D.filter (fun x => !decide (x ≠ n))).Nodup := h.filter _
      have hal : ∀ x ∈ D.filter (fun x => !decide (x ≠ n)), x = n := fun x hm => by
        rw [List.mem_filter] at hm
        simpa using hm.2
      match hL : D.filter (fun x => !decide (x ≠ n)), hn, hal with
      | [], _, _ => simp
      | [a], _, _ => simp
      | a :: b :: r, hn, hal =>
        rw [List.nodup_cons] at hn
        have e1 := hal a (by simp)
        have e2 := hal b (by simp)
        exact absurd (by rw [e1, e2]; simp) hn.1
    omega

def StH (s : Sv) (H : LS) (i : Nat) : Prop :=
  meetL (s.cl i) H = true ∨ (restL (s.cl i) H = (0, 0) ∧ s.F ≠ -1 ∧ s.F ≤ i) ∨
  (∃ x, restL (s.cl i) H = onlyL x ∧ x ≠ 0 ∧ (x = (s.wt i).1 ∨ x = (s.wt i).2) ∧ i ∈ s.D) ∨
  (mem (restL (s.cl i) H) (s.wt i).1 = true ∧ mem (restL (s.cl i) H) (s.wt i).2 = true ∧ (s.wt i).1 ≠ (s.wt i).2)
/-- Few: the clause is true, or at most one literal of it is not false. -/
def Few (c H : LS) : Prop := meetL c H = true ∨ ∃ x, ∀ y, mem (restL c H) y = true → y = x
structure Okay (s : Sv) : Prop where
  wfH : Wf s.H
  cons : ∀ l, mem s.H l = true → mem s.H (-l) = false
  wfC : ∀ i, Wf (s.cl i)
  len : s.W.length = s.C.length
  w1 : ∀ i, (s.wt i).1 ≠ 0 → mem (s.cl i) (s.wt i).1 = true
  w2 : ∀ i, (s.wt i).2 ≠ 0 → mem (s.cl i) (s.wt i).2 = true ∧ (s.wt i).1 ≠ (s.wt i).2
  nodup : ∀ x, x ≠ 0 → (s.L x).Nodup
  lists : ∀ x i, x ≠ 0 → (i ∈ s.L x ↔ ((s.wt i).1 = x ∨ (s.wt i).2 = x))
  dsort : s.D.Pairwise (· < ·)
  dlt : ∀ i ∈ s.D, i < s.C.length
  dfew : ∀ i ∈ s.D, Few (s.cl i) s.H
  fin : s.F = -1 ∨ ∃ f : Nat, f < s.C.length ∧ s.F = f ∧ restL (s.cl f) s.H = (0, 0)
structure Mid (s : Sv) (H0 : LS) (l : Int) (kept R : List Nat) : Prop where
  ok : Okay { s with L := upd s.L (-l) (kept ++ R) }
  hH : s.H = withL H0 (onlyL l)
  wf0 : Wf H0
  l0 : l ≠ 0
  lo : -40 ≤ l ∧ l ≤ 40
  no : mem H0 l = false ∧ mem H0 (-l) = false
  old : ∀ i ∈ R, StH s H0 i ∨ mem (s.cl i) l = true
  oldD : ∀ i ∈ R, i ∈ s.D → Few (s.cl i) H0
  new : ∀ i, i < s.C.length → i ∉ R → StH s s.H i

theorem Okay.lt {s : Sv} (h : Okay s) {x : Int} {i : Nat} (hx : x ≠ 0) (hi : i ∈ s.L x) : i < s.C.length := by
  rw [h.lists x i hx] at hi
  refine Classical.byContradiction fun hn => ?_
  have : s.wt i = (0, 0) := by
    unfold Sv.wt
    rw [List.getElem?_eq_none (by rw [h.len]; omega)]; rfl
  rw [this] at hi
  rcases hi with e | e <;> exact hx e.symm
theorem Okay.most {s : Sv} (h : Okay s) {x : Int} (hx : x ≠ 0) : (s.L x).length ≤ s.C.length := nodup_most (h.nodup x hx) fun i hi => h.lt hx hi
theorem Okay.dmost {s : Sv} (h : Okay s) : s.D.length ≤ s.C.length := sorted_most h.dsort h.dlt
theorem mem_held {H0 : LS} {l : Int} (hl : l ≠ 0) (y : Int) : mem (withL H0 (onlyL l)) y = (mem H0 y || decide (l = y)) := by rw [mem_with, mem_only hl]
theorem meet_mono {c H0 H : LS} (hc : Wf c) (h : ∀ y, mem H0 y = true → mem H y = true) (hm : meetL c H0 = true) : meetL c H = true := by
  obtain ⟨y, h1, h2⟩ := (meet_iff hc).1 hm
  exact (meet_iff hc).2 ⟨y, h1, h y h2⟩
theorem rest_mono {c H0 H : LS} (hc : Wf c) (h0 : Wf H0) (hH : Wf H) (h : ∀ y, mem H0 y = true → mem H y = true) {y : Int} (hm : mem (restL c H) y = true) : mem (restL c H0) y = true := by
  rw [mem_rest hc hH] at hm
  rw [mem_rest hc h0]
  rw [Bool.and_eq_true] at hm ⊢
  refine ⟨hm.1, ?_⟩
  cases hx : mem H0 (-y)
  · rfl
  · rw [h _ hx] at hm; simp at hm
theorem few_mono {c H0 H : LS} (hc : Wf c) (h0 : Wf H0) (hH : Wf H) (h : ∀ y, mem H0 y = true → mem H y = true) (hf : Few c H0) : Few c H := by
  rcases hf with hf | ⟨x, hx⟩
  · exact .inl (meet_mono hc h hf)
  · exact .inr ⟨x, fun y hy => hx y (rest_mono hc h0 hH h hy)⟩
theorem none_mono {c H0 H : LS} (hc : Wf c) (h0 : Wf H0) (hH : Wf H) (h : ∀ y, mem H0 y = true → mem H y = true) (hf : restL c H0 = (0, 0)) : restL c H = (0, 0) := by
  rw [zero_iff (wf_rest hc _)] at hf ⊢
  intro y
  cases hx : mem (restL c H) y
  · rfl
  · rw [← hf y, rest_mono hc h0 hH h hx]
theorem fail_ne (F : Int) (i : Nat) : failF F i ≠ -1 ∧ failF F i ≤ i := by
  unfold failF
  split
  · omega
  · rename_i h
    omega
theorem fail_keep {F : Int} {i j : Nat} (h : F ≠ -1 ∧ F ≤ j) : failF F i ≠ -1 ∧ failF F i ≤ j := by
  unfold failF
  split <;> omega
/-- A clause of which x is watched, and false now. -/
theorem Mid.head {s : Sv} {H0 : LS} {l : Int} {kept R : List Nat} {i : Nat} (h : Mid s H0 l kept (i :: R)) : i ∉ kept ∧ i ∉ R ∧ ((s.wt i).1 = -l ∨ (s.wt i).2 = -l) ∧ mem (s.cl i) (-l) = true ∧ i < s.C.length := by
  have hl : -l ≠ 0 := by have := h.l0; omega
  have hn := h.ok.nodup (-l) hl
  have hi := h.ok.lists (-l) i hl
  have hlt := h.ok.lt (x := -l) (i := i) hl
  have e : (upd s.L (-l) (kept ++ i :: R)) (-l) = kept ++ i :: R := by unfold upd; rw [if_pos rfl]
  dsimp only at hn hi hlt
  rw [e] at hn hi hlt
  have hw := hi.1 (by simp)
  rw [List.nodup_append] at hn
  obtain ⟨-, n2, n3⟩ := hn
  rw [List.nodup_cons] at n2
  refine ⟨fun hk => n3 i hk i (by simp) rfl, n2.1, hw, ?_, hlt (by simp)⟩
  rcases hw with hw | hw
  · have := h.ok.w1 i (by dsimp only [Sv.wt] at hw ⊢; rw [hw]; exact hl)
    dsimp only [Sv.wt, Sv.cl] at this hw ⊢
    rw [hw] at this
    exact this
  · have := (h.ok.w2 i (by dsimp only [Sv.wt] at hw ⊢; rw [hw]; exact hl)).1
    dsimp only [Sv.wt, Sv.cl] at this hw ⊢
    rw [hw] at this
    exact this
theorem Mid.sub {s : Sv} {H0 : LS} {l : Int} {kept R : List Nat} (h : Mid s H0 l kept R) : ∀ y, mem H0 y = true → mem s.H y = true := fun y hy => by rw [h.hH, mem_held h.l0, hy]; rfl
theorem Mid.wfH {s : Sv} {H0 : LS} {l : Int} {kept R : List Nat} (h : Mid s H0 l kept R) : Wf s.H := h.ok.wfH
theorem Mid.wfc {s : Sv} {H0 : LS} {l : Int} {kept R : List Nat} (h : Mid s H0 l kept R) (i : Nat) : Wf (s.cl i) := h.ok.wfC i
/-- Both watched literals were not false ahead of it. -/
theorem Mid.both {s : Sv} {H0 : LS} {l : Int} {kept R : List Nat} {i : Nat} (h : Mid s H0 l kept (i :: R)) (hm : ¬ meetL (s.cl i) s.H = true) (hr : ¬ restL (s.cl i) s.H = (0, 0)) :
    mem (restL (s.cl i) H0) (s.wt i).1 = true ∧ mem (restL (s.cl i) H0) (s.wt i).2 = true ∧ (s.wt i).1 ≠ (s.wt i).2 := by
  have hc := h.wfc i
  obtain ⟨_, _, _, hml, _⟩ := h.head
  rcases h.old i (by simp) with ho | ho
  · rcases ho with ho | ⟨ho, _⟩ | ⟨x, ho, hx, _⟩ | ho
    · exact absurd (meet_mono hc h.sub ho) hm
    · exact absurd (none_mono hc h.wf0 h.wfH h.sub ho) hr
    · exfalso
      refine hr ((zero_iff (wf_rest hc _)).2 fun y => ?_)
      cases hy : mem (restL (s.cl i) s.H) y
      · rfl
      · have h1 : mem (restL (s.cl i) H0) (-l) = true := by
          rw [mem_rest hc h.wf0, hml, Int.neg_neg, h.no.1]; rfl
        have h2 := rest_mono hc h.wf0 h.wfH h.sub hy
        rw [ho, mem_only hx, decide_eq_true_eq] at h1 h2
        rw [mem_rest hc h.wfH, h.hH, mem_held h.l0, ← h2, h1, Int.neg_neg] at hy
        simp at hy
    · exact ho
  · exact absurd ((meet_iff hc).2 ⟨l, ho, by rw [h.hH, mem_held h.l0]; simp⟩) hm
theorem Mid.stays {s : Sv} {H0 : LS} {l : Int} {kept R : List Nat} {i : Nat} (h : Mid s H0 l kept (i :: R)) (hm : ¬ meetL (s.cl i) s.H = true) (hr : ¬ restL (s.cl i) s.H = (0, 0)) :
    mem (restL (s.cl i) s.H) (stay s i (-l)) = true ∧ stay s i (-l) ≠ -l ∧ (stay s i (-l) = (s.wt i).1 ∨ stay s i (-l) = (s.wt i).2) ∧ stay s i (-l) ≠ 0 := by
  obtain ⟨h1, h2, h3⟩ := h.both hm hr
  obtain ⟨_, _, hw, _, _⟩ := h.head
  have hc := h.wfc i
  have key : ∀ y, mem (restL (s.cl i) H0) y = true → y ≠ -l → mem (restL (s.cl i) s.H) y = true := fun y hy hn => by
    rw [mem_rest hc h.wf0, Bool.and_eq_true] at hy
    rw [mem_rest hc h.wfH, h.hH, mem_held h.l0, hy.1]
    have : mem H0 (-y) = false := by have := hy.2; simpa using this
    rw [this]
    simp
    omega
  have hst : mem (restL (s.cl i) s.H) (stay s i (-l)) = true ∧ stay s i (-l) ≠ -l ∧ (stay s i (-l) = (s.wt i).1 ∨ stay s i (-l) = (s.wt i).2) := by
    unfold stay
    split
    · rename_i e
      have hne : (s.wt i).2 ≠ -l := fun e2 => h3 (e.trans e2.symm)
      exact ⟨key _ h2 hne, hne, .inr rfl⟩
    · rename_i e
      exact ⟨key _ h1 e, e, .inl rfl⟩
  exact ⟨hst.1, hst.2.1, hst.2.2, ((wf_rest hc _).range hst.1).1⟩
theorem Mid.to {s : Sv} {H0 : LS} {l : Int} {kept R : List Nat} {i : Nat} (h : Mid s H0 l kept (i :: R)) (hm : ¬ meetL (s.cl i) s.H = true) (hr : ¬ restL (s.cl i) s.H = (0, 0)) (ho : ¬ restL (s.cl i) s.H = onlyL (stay s i (-l))) :
    mem (restL (s.cl i) s.H) (toL s i (-l)) = true ∧ toL s i (-l) ≠ -l ∧ toL s i (-l) ≠ stay s i (-l) ∧ toL s i (-l) ≠ 0 := by
  obtain ⟨s1, s2, s3, s4⟩ := h.stays hm hr
  have hc := h.wfc i
  have hwr := wf_rest hc s.H
  obtain ⟨_, lo, hi⟩ := hwr.range s1
  have hwo : Wf (onlyL (stay s i (-l))) := wf_only s4 lo hi
  have hne : woL (restL (s.cl i) s.H) (onlyL (stay s i (-l))) ≠ (0, 0) := fun e => ho (ls_ext hwr hwo fun y => by
    have := (zero_iff (wf_wo hwr _)).1 e y
    rw [mem_wo hwr hwo, mem_only s4] at this
    rw [mem_only s4]
    by_cases hy : stay s i (-l) = y
    · rw [← hy, s1]; simp
    · simp [hy] at this
      simp [hy, this])
  obtain ⟨f1, f2, _⟩ := first_spec (wf_wo hwr _) hne
  unfold toL
  rw [mem_wo hwr hwo, mem_only s4, Bool.and_eq_true] at f1
  have hm2 := f1.1
  refine ⟨hm2, fun e => ?_, fun e => ?_, f2⟩
  · rw [e, mem_rest hc h.wfH, h.hH, mem_held h.l0, Int.neg_neg] at hm2
    simp at hm2
  · have := f1.2
    rw [e] at this
    simp at this
theorem wt_set {s : Sv} {i j : Nat} {p : Int × Int} (hi : i < s.W.length) : (s.W.set i p)[j]?.getD (0, 0) = if j = i then p else s.wt j := by
  unfold Sv.wt
  rw [List.getElem?_set]
  by_cases e : i = j
  · subst e; rw [if_pos rfl, if_pos hi, if_pos rfl]; rfl
  · rw [if_neg e, if_neg (fun h => e h.symm)]
theorem st_keep {s s' : Sv} {H : LS} {i : Nat} (hc : s'.C = s.C) (hw : s'.wt i = s.wt i) (hD : i ∈ s.D → i ∈ s'.D) (hF : s.F ≠ -1 ∧ s.F ≤ i → s'.F ≠ -1 ∧ s'.F ≤ i) (h : StH s H i) : StH s' H i := by
  have e : s'.cl i = s.cl i := by unfold Sv.cl; rw [hc]
  unfold StH at h ⊢
  rw [e, hw]
  rcases h with h | ⟨h1, h2⟩ | ⟨x, h1, h2, h3, h4⟩ | h
  · exact .inl h
  · exact .inr (.inl ⟨h1, hF h2⟩)
  · exact .inr (.inr (.inl ⟨x, h1, h2, h3, hD h4⟩))
  · exact .inr (.inr (.inr h))
theorem perm_mid {kept R : List Nat} {i : Nat} : kept ++ i :: R = (kept ++ [i]) ++ R := by simp
theorem mv_mid {s : Sv} {H0 : LS} {l : Int} {kept R : List Nat} {i : Nat} (h : Mid s H0 l kept (i :: R)) :
    Mid (mv s i (-l)).1 H0 l (if (mv s i (-l)).2 = true then kept else kept ++ [i]) R := by
  obtain ⟨hk, hR, hw, hml, hlt⟩ := h.head
  have hc := h.wfc i
  have hl : -l ≠ 0 := by have := h.l0; omega
  by_cases hm : meetL (s.cl i) s.H = true
  · unfold mv
    rw [if_pos hm]
    dsimp only
    rw [if_neg Bool.false_ne_true]
    exact ⟨by rw [← perm_mid]; exact h.ok, h.hH, h.wf0, h.l0, h.lo, h.no, fun j hj => h.old j (by simp [hj]), fun j hj => h.oldD j (by simp [hj]), fun j hj hn => by
      by_cases e : j = i
      · subst e; exact .inl hm
      · exact h.new j hj (by simp [e, hn])⟩
  · by_cases hr : restL (s.cl i) s.H = (0, 0)
    · unfold mv
      rw [if_neg hm, if_pos hr]
      dsimp only
      rw [if_neg Bool.false_ne_true]
      refine ⟨by
        rw [← perm_mid]
        exact ⟨h.ok.wfH, h.ok.cons, h.ok.wfC, h.ok.len, h.ok.w1, h.ok.w2, h.ok.nodup, h.ok.lists, h.ok.dsort, h.ok.dlt, h.ok.dfew, by
          show failF s.F i = -1 ∨ _
          by_cases e : s.F = -1 ∨ (i : Int) < s.F
          · exact .inr ⟨i, hlt, by show failF s.F i = _; unfold failF; rw [if_pos e], hr⟩
          · have e2 : failF s.F i = s.F := by unfold failF; rw [if_neg e]
            rw [e2]; exact h.ok.fin⟩, h.hH, h.wf0, h.l0, h.lo, h.no, fun j hj => ?_, fun j hj => h.oldD j (by simp [hj]), fun j hj hn => ?_⟩
      · rcases h.old j (by simp [hj]) with ho | ho
        · exact .inl (st_keep (s := s) rfl rfl id fail_keep ho)
        · exact .inr ho
      · by_cases e : j = i
        · subst e; exact .inr (.inl ⟨hr, fail_ne _ _⟩)
        · exact st_keep (s := s) rfl rfl id fail_keep (h.new j hj (by simp [e, hn]))
    · obtain ⟨s1, s2, s3, s4⟩ := h.stays hm hr
      obtain ⟨b1, b2, b3⟩ := h.both hm hr
      by_cases ho : restL (s.cl i) s.H = onlyL (stay s i (-l))
      · have hni : i ∉ s.D := fun hd => by
          rcases h.oldD i (by simp) hd with hf | ⟨x, hx⟩
          · exact hm (meet_mono hc h.sub hf)
          · exact b3 ((hx _ b1).trans (hx _ b2).symm)
        unfold mv
        rw [if_neg hm, if_neg hr, if_pos ho]
        dsimp only
        rw [if_neg Bool.false_ne_true]
        refine ⟨by
          rw [← perm_mid]
          refine ⟨h.ok.wfH, h.ok.cons, h.ok.wfC, h.ok.len, h.ok.w1, h.ok.w2, h.ok.nodup, h.ok.lists, ins_sorted h.ok.dsort hni, fun j hj => ?_, fun j hj => ?_, h.ok.fin⟩
          · rcases mem_ins.1 hj with rfl | hj
            · exact hlt
            · exact h.ok.dlt j hj
          · rcases mem_ins.1 hj with rfl | hj
            · refine .inr ⟨stay s j (-l), fun y hy => ?_⟩
              have hy : mem (restL (s.cl j) s.H) y = true := hy
              rw [ho, mem_only s4, decide_eq_true_eq] at hy
              exact hy.symm
            · exact h.ok.dfew j hj, h.hH, h.wf0, h.l0, h.lo, h.no, fun j hj => ?_, fun j hj hd => ?_, fun j hj hn => ?_⟩
        · rcases h.old j (by simp [hj]) with hq | hq
          · exact .inl (st_keep (s := s) rfl rfl (fun hd => mem_ins.2 (.inr hd)) id hq)
          · exact .inr hq
        · rcases mem_ins.1 hd with rfl | hd
          · exact absurd hj hR
          · exact h.oldD j (by simp [hj]) hd
        · by_cases e : j = i
          · subst e; exact .inr (.inr (.inl ⟨_, ho, s4, s3, mem_ins.2 (.inl rfl)⟩))
          · exact st_keep (s := s) rfl rfl (fun hd => mem_ins.2 (.inr hd)) id (h.new j hj (by simp [e, hn]))
      · obtain ⟨t1, t2, t3, t4⟩ := h.to hm hr ho
        have hlw : i < s.W.length := by have := h.ok.len; dsimp only at this; omega
        have hm1 : mem (s.cl i) (stay s i (-l)) = true := by rw [mem_rest hc h.wfH, Bool.and_eq_true] at s1; exact s1.1
        have hm2 : mem (s.cl i) (toL s i (-l)) = true := by rw [mem_rest hc h.wfH, Bool.and_eq_true] at t1; exact t1.1
        -- what the clause watched
        have hwi : ∀ x, ((s.wt i).1 = x ∨ (s.wt i).2 = x) ↔ (x = -l ∨ x = stay s i (-l)) := fun x => by
          unfold stay
          rcases hw with e | e
          · rw [if_pos e, e]; constructor <;> rintro (h | h) <;> simp [h]
          · have : ¬ (s.wt i).1 = -l := fun e2 => b3 (e2.trans e.symm)
            rw [if_neg this, e]; constructor <;> rintro (h | h) <;> simp [h]
        unfold mv
        rw [if_neg hm, if_neg hr, if_neg ho]
        dsimp only
        rw [if_pos rfl]
        generalize stay s i (-l) = st at *
        generalize toL s i (-l) = t at *
        have hwt : ∀ j, (s.W.set i (st, t))[j]?.getD (0, 0) = if j = i then (st, t) else s.wt j := fun j => wt_set hlw
        have hli : ∀ x j, x ≠ 0 → (j ∈ upd s.L (-l) (kept ++ i :: R) x ↔ ((s.wt j).1 = x ∨ (s.wt j).2 = x)) := h.ok.lists
        refine ⟨⟨h.ok.wfH, h.ok.cons, h.ok.wfC, ?_, fun j => ?_, fun j => ?_, fun x hx => ?_, fun x j hx => ?_, h.ok.dsort, h.ok.dlt, h.ok.dfew, h.ok.fin⟩, h.hH, h.wf0, h.l0, h.lo, h.no, fun j hj => ?_, fun j hj => h.oldD j (by simp [hj]), fun j hj hn => ?_⟩
        · show (s.W.set i (st, t)).length = _
          rw [List.length_set]; exact h.ok.len
        · show ((s.W.set i (st, t))[j]?.getD (0, 0)).1 ≠ 0 → mem (s.cl j) ((s.W.set i (st, t))[j]?.getD (0, 0)).1 = true
          rw [hwt]
          by_cases e : j = i
          · subst e; rw [if_pos rfl]; exact fun _ => hm1
          · rw [if_neg e]; exact h.ok.w1 j
        · show ((s.W.set i (st, t))[j]?.getD (0, 0)).2 ≠ 0 → mem (s.cl j) ((s.W.set i (st, t))[j]?.getD (0, 0)).2 = true ∧ ((s.W.set i (st, t))[j]?.getD (0, 0)).1 ≠ ((s.W.set i (st, t))[j]?.getD (0, 0)).2
          rw [hwt]
          by_cases e : j = i
          · subst e; rw [if_pos rfl]; exact fun _ => ⟨hm2, fun e => t3 e.symm⟩
          · rw [if_neg e]; exact h.ok.w2 j
        · show (upd (upd s.L t (s.L t ++ [i])) (-l) (kept ++ R) x).Nodup
          unfold upd
          by_cases e1 : x = -l
          · rw [if_pos e1]
            have := h.ok.nodup (-l) hl
            have e : (upd s.L (-l) (kept ++ i :: R)) (-l) = kept ++ i :: R := by unfold upd; rw [if_pos rfl]
            dsimp only at this
            rw [e] at this
            rw [List.nodup_append] at this ⊢
            exact ⟨this.1, (List.nodup_cons.1 this.2.1).2, fun a ha b hb => this.2.2 a ha b (by simp [hb])⟩
          · rw [if_neg e1]
            by_cases e2 : x = t
            · rw [if_pos e2]
              have h1 := h.ok.nodup t t4
              dsimp only at h1
              unfold upd at h1
              rw [if_neg t2] at h1
              rw [List.nodup_append]
              refine ⟨h1, by simp, fun a ha b hb => ?_⟩
              have hb : b = i := by simpa using hb
              subst hb
              rintro rfl
              have := (hli t a t4).1 (by unfold upd; rw [if_neg t2]; exact ha)
              rw [hwi] at this
              rcases this with e | e
              · exact t2 e
              · exact t3 e
            · rw [if_neg e2]
              have h1 := h.ok.nodup x hx
              dsimp only at h1
              unfold upd at h1
              rw [if_neg e1] at h1
              exact h1
        · show j ∈ upd (upd s.L t (s.L t ++ [i])) (-l) (kept ++ R) x ↔ (((s.W.set i (st, t))[j]?.getD (0, 0)).1 = x ∨ ((s.W.set i (st, t))[j]?.getD (0, 0)).2 = x)
          rw [hwt]
          have hq := hli x j hx
          unfold upd at hq ⊢
          by_cases e : j = i
          · subst e
            rw [if_pos rfl]
            rw [hwi] at hq
            by_cases e1 : x = -l
            · rw [if_pos e1]
              constructor
              · intro hj
                rcases List.mem_append.1 hj with hj | hj
                · exact absurd hj hk
                · exact absurd hj hR
              · rintro (e | e)
                · exact absurd (e.trans e1) s2
                · exact absurd (e.trans e1) t2
            · rw [if_neg e1] at hq ⊢
              by_cases e2 : x = t
              · rw [if_pos e2]
                exact ⟨fun _ => .inr e2.symm, fun _ => by simp⟩
              · rw [if_neg e2, hq]
                constructor
                · rintro (e | e)
                  · exact absurd e e1
                  · exact .inl e.symm
                · rintro (e | e)
                  · exact .inr e.symm
                  · exact absurd e.symm e2
          · rw [if_neg e]
            by_cases e1 : x = -l
            · rw [if_pos e1] at hq ⊢
              rw [← hq]
              simp [e]
            · rw [if_neg e1] at hq ⊢
              by_cases e2 : x = t
              · rw [if_pos e2, ← hq, e2]
                simp [e]
              · rw [if_neg e2]; exact hq
        · have e : j ≠ i := fun e => hR (e ▸ hj)
          have hwj : Sv.wt { s with W := s.W.set i (st, t), L := upd s.L t (s.L t ++ [i]) } j = s.wt j := by
            show (s.W.set i (st, t))[j]?.getD (0, 0) = _
            rw [hwt, if_neg e]
          rcases h.old j (by simp [hj]) with hq | hq
          · exact .inl (st_keep (s := s) rfl hwj id id hq)
          · exact .inr hq
        · by_cases e : j = i
          · subst e
            have hwj : Sv.wt { s with W := s.W.set j (st, t), L := upd s.L t (s.L t ++ [j]) } j = (st, t) := by
              show (s.W.set j (st, t))[j]?.getD (0, 0) = _
              rw [hwt, if_pos rfl]
            refine .inr (.inr (.inr ?_))
            rw [hwj]
            exact ⟨s1, t1, fun e => t3 e.symm⟩
          · have hwj : Sv.wt { s with W := s.W.set i (st, t), L := upd s.L t (s.L t ++ [i]) } j = s.wt j := by
              show (s.W.set i (st, t))[j]?.getD (0, 0) = _
              rw [hwt, if_neg e]
            exact st_keep (s := s) rfl hwj id id (h.new j hj (by simp [e, hn]))
end Go.Proofs.YtbahjpheaaiamaaDoor.solMath
