/- Marks in rows of rows, and that they are held; conditions: lengths that fit. -/
import Derived.Test.YtiiigdcfnnjkcaaNormal
namespace Go.Proofs.Ytiiigdcfnnjkcaa.markRows
open Go.RowKit Go.Deep base copy own order sorted concat inOrder mark clauseOrder sortClauses compactClauses rises normal

/-- The marks of rows of these lengths, one behind the other. -/
def rowMarks (n : Int) : List Nat → List (List Int)
  | [] => []
  | l :: ls => marks n l :: rowMarks (n + l) ls
theorem rowMarks_length : ∀ (ls : List Nat) (n : Int), (rowMarks n ls).length = ls.length
  | [], _ => rfl
  | _ :: ls, n => by unfold rowMarks; rw [List.length_cons, rowMarks_length ls, List.length_cons]
theorem rowMarks_get : ∀ (ls : List Nat) (n : Int) (k : Nat), k < ls.length → (rowMarks n ls)[k]?.getD [] = marks (n + ((ls.take k).sum : Nat)) (ls[k]?.getD 0)
  | [], _, k, h => absurd h (Nat.not_lt_zero _)
  | l :: ls, n, 0, _ => by simp [rowMarks]
  | l :: ls, n, k + 1, h => by
    unfold rowMarks
    rw [List.getElem?_cons_succ, rowMarks_get ls (n + l) k (by simpa using h), List.getElem?_cons_succ, List.take_succ_cons, List.sum_cons]
    congr 1
    omega
theorem sum_succ {ls : List Nat} {k : Nat} (h : k < ls.length) : (ls.take (k + 1)).sum = (ls.take k).sum + ls[k]?.getD 0 := by
  rw [List.take_succ_eq_append_getElem h, List.getElem?_eq_getElem h, List.sum_append]
  simp
theorem sum_le : ∀ (ls : List Nat) (k : Nat), (ls.take k).sum ≤ ls.sum
  | [], k => by simp
  | l :: ls, 0 => by simp
  | l :: ls, k + 1 => by
    rw [List.take_succ_cons, List.sum_cons, List.sum_cons]
    have := sum_le ls k
    omega

set_option maxHeartbeats 400000 in
theorem held_rows (a : Option Addr) (len cap : Nat) (ls : List Nat) (n : Int) (w : World) (hr : IntRows w a len (rowMarks n ls)) (hn0 : 0 ≤ n) (hn : n + (ls.sum : Nat) ≤ 1048576) :
    Calls Try.prog 56 #[.slice a len cap, .int .i64 n] w fun e w' => e = .returned (.int .i64 (n + (ls.sum : Nat))) ∧ w' = w := by
  have hmost := hr.most
  unfold maxLen at hmost
  have hls : ls.length = len := by rw [← hr.length, rowMarks_length]
  have HR := hid hr
  have HLS := hid hls
  clear hr hls
  go_enter Try.func56, Try.ntmps56
  go_wp2
  go_loop [5, 1] (fun i t => ∃ k s : Nat, k ≤ len ∧ i = .int .i64 k ∧ t = .int .i64 (n + s) ∧ s = (ls.take k).sum) (fun i _ => len - (intOf i).toNat)
  case atStart => exact ⟨0, 0, Nat.zero_le _, rfl, by simp, by simp⟩
  case round =>
    obtain ⟨k, s, hk, rfl, rfl, hs⟩ := hrel
    have hs1 : s ≤ ls.sum := by rw [hs]; exact sum_le ls k
    by_cases hlt : k < len
    · obtain ⟨b, off, rfl, x, l, c, hc, hx⟩ := HR.out.cell k hlt
      rw [rowMarks_get ls n k (by rw [HLS.out]; exact hlt), ← hs] at hx
      have hl := hx.length
      have hl2 : l = ls[k]?.getD 0 := by rw [← hl]; simp [marks]
      have hsum := sum_succ (ls := ls) (k := k) (by rw [HLS.out]; exact hlt)
      have hle := sum_le ls (k + 1)
      rw [← hs, ← hl2] at hsum
      rw [← hl2] at hx
      have HX := hid hx
      have HSum := hid hsum
      have hb2 : s + l ≤ ls.sum := by omega
      have hng : ¬ (n + (s : Int) + (l : Int) < 0) := by omega
      clear hx hl hl2 hsum hle hs
      go_wp2_with (go_at_call 27; refine (held_ints _ _ _ _ _ HX.out (by omega) (by omega) (by omega)).mono ?_; rintro e w' ⟨rfl, rfl⟩)
      go_round
      case rel => exact ⟨k + 1, s + l, by omega, by go_num, by congr 1; omega, HSum.out.symm⟩
      case measure => simp [intOf]; omega
    · have e : k = len := by omega
      subst e
      have HE : Hid (s = ls.sum) := by
        show _ = _
        rw [hs, List.take_of_length_le (by rw [HLS.out]; omega)]
      clear hs
      go_wp2
      go_ret
      exact ⟨by rw [← HE.out]; rfl, rfl⟩
theorem outer_grown {B : Nat} {w w1 : World} {v : Value} {ps : List (Value × List Int)} {row : Option Nat} (h : OwnRows B w v ps) (hg : w.grownBy w1 row) (hne : ∀ g, v.ownBlock = some g → some g ≠ row) : w1.ownsRow B 37 1 v ps.length (ps.map Prod.fst) := by
  obtain ⟨h1, h2⟩ := h.outer
  refine ⟨h1, ?_⟩
  rcases h2 with h2 | ⟨g, cap, cur, rfl, hgB, hh, hn, hm, hs, ht⟩
  · exact .inl h2
  · exact .inr ⟨g, cap, cur, rfl, hgB, by rw [hg.block g (Array.getElem?_eq_some_iff.1 hh).1 (hne g rfl)]; exact hh, hn, hm, hs, ht⟩
/-- Marking one row of rows that lie apart: the others and the row of rows are as they were. -/
theorem rows_marked {B k : Nat} {w w1 : World} {v : Value} {ps : List (Value × List Int)} {p : Value × List Int} {ys : List Int} (h : OwnRows B w v ps) (hl : Lone ps) (hk : ps[k]? = some p) (ho : OwnInts B w1 p.1 ys) (hg : w.grownBy w1 p.1.ownBlock) : OwnRows B w1 v (ps.set k (p.1, ys)) ∧ Lone (ps.set k (p.1, ys)) ∧ (ps.set k (p.1, ys)).map Prod.fst = ps.map Prod.fst := by
  have hkl : k < ps.length := (List.getElem?_eq_some_iff.1 hk).1
  have hke : ps[k] = p := (List.getElem?_eq_some_iff.1 hk).2
  have hmap : (ps.set k (p.1, ys)).map Prod.fst = ps.map Prod.fst := by
    rw [List.map_set]
    apply List.ext_getElem?
    intro i
    rw [List.getElem?_set]
    by_cases e : k = i
    · subst e
      rw [if_pos rfl, if_pos (by simpa using hkl), List.getElem?_map, hk]
      rfl
    · rw [if_neg e]
  have hpw := List.pairwise_iff_getElem.1 hl
  refine ⟨⟨?_, fun q hq => ?_⟩, ?_, hmap⟩
  · rw [hmap, List.length_set]
    refine outer_grown h hg fun g hv e => ?_
    rcases h.outer.2 with ⟨e', _⟩ | ⟨g', c', cur, e', _⟩
    · rw [e'] at hv; cases hv
    · subst e'
      have hv' : some g' = some g := hv
      injection hv' with hv'
      subst hv'
      exact OwnRows.apart h (h.inner p (hke ▸ List.getElem_mem hkl)) e.symm rfl
  · obtain ⟨i, hi, e⟩ := List.mem_iff_getElem.1 hq
    rw [List.getElem_set] at e
    by_cases eq : k = i
    · rw [if_pos eq] at e
      rw [← e]
      exact ho
    · rw [if_neg eq] at e
      have hi' : i < ps.length := by simpa using hi
      rw [← e]
      refine own_grown (h.inner _ (List.getElem_mem hi')) hg fun g hv e2 => ?_
      rcases Nat.lt_or_gt_of_ne eq with h1 | h1
      · exact hpw k i hkl hi' h1 g (by rw [hke]; exact e2.symm) hv
      · exact hpw i k hi' hkl h1 g hv (by rw [hke]; exact e2.symm)
  · have e1 : ∀ l : List (Value × List Int), Lone l ↔ (l.map Prod.fst).Pairwise fun x y => ∀ g, x.ownBlock = some g → y.ownBlock = some g → False := fun l => by unfold Lone; rw [List.pairwise_map]
    rw [e1, hmap, ← e1]
    exact hl

/-- Of what was there only the blocks of these values may have turned. -/
def OnlyIn (w w' : World) (vs : List Value) : Prop := w.heap.size ≤ w'.heap.size ∧ ∀ g, g < w.heap.size → (∀ v ∈ vs, v.ownBlock ≠ some g) → w'.heap[g]? = w.heap[g]?
theorem OnlyIn.refl (w : World) (vs : List Value) : OnlyIn w w vs := ⟨Nat.le_refl _, fun _ _ _ => rfl⟩
theorem OnlyIn.grown {w w1 w2 : World} {vs : List Value} {v : Value} (h : OnlyIn w w1 vs) (hv : v ∈ vs) (hg : w1.grownBy w2 v.ownBlock) : OnlyIn w w2 vs :=
  ⟨Nat.le_trans h.1 hg.size, fun g hlt hne => by rw [hg.block g (Nat.lt_of_lt_of_le hlt h.1) (fun e => hne v hv e.symm)]; exact h.2 g hlt hne⟩
theorem OnlyIn.after {w w1 w2 : World} {vs : List Value} (hb : Below w.heap.size w w1) (h : OnlyIn w1 w2 vs) : OnlyIn w w2 vs :=
  ⟨Nat.le_trans hb.size h.1, fun g hlt hne => by rw [h.2 g (Nat.lt_of_lt_of_le hlt hb.size) hne]; exact hb.block g hlt⟩
theorem own_only {B : Nat} {w w1 : World} {v : Value} {t : TypeId} {n : Nat} {xs : List Value} {vs : List Value} (h : w.ownsRow B t 1 v n xs) (ho : OnlyIn w w1 vs) (hne : ∀ u ∈ vs, ∀ g, u.ownBlock = some g → g < B) : w1.ownsRow B t 1 v n xs := by
  obtain ⟨h1, h2⟩ := h
  refine ⟨h1, ?_⟩
  rcases h2 with h2 | ⟨g, cap, cur, rfl, hgB, hh, hn, hm, hs, ht⟩
  · exact .inl h2
  · exact .inr ⟨g, cap, cur, rfl, hgB, by rw [ho.2 g (Array.getElem?_eq_some_iff.1 hh).1 (fun u hu e => by have := hne u hu g e; omega)]; exact hh, hn, hm, hs, ht⟩
theorem rows_only {B : Nat} {w w1 : World} {v : Value} {ps : List (Value × List Int)} {vs : List Value} (h : OwnRows B w v ps) (ho : OnlyIn w w1 vs) (hne : ∀ u ∈ vs, ∀ g, u.ownBlock = some g → g < B) : OwnRows B w1 v ps :=
  ⟨own_only h.outer ho hne, fun p hp => own_only (h.inner p hp) ho hne⟩
theorem cell_only {b o : Nat} {w w1 : World} {x : Value} {vs : List Value} (h : w.cell? ⟨b, o, none⟩ = some x) (ho : OnlyIn w w1 vs) (hne : ∀ u ∈ vs, u.ownBlock ≠ some b) : w1.cell? ⟨b, o, none⟩ = some x := by
  have hb := World.block_lt_of_cell? _ _ h
  unfold World.cell? at h ⊢
  rw [ho.2 b hb hne]
  exact h

theorem lens_set {qs : List (Value × List Int)} {ls : List Nat} {k : Nat} {pv : Value} {pz ys : List Int} (h : qs.map (fun p => p.2.length) = ls) (hp : qs[k]? = some (pv, pz)) (hy : ys.length = pz.length) : (qs.set k (pv, ys)).map (fun p => p.2.length) = ls := by
  have hkl : k < qs.length := (List.getElem?_eq_some_iff.1 hp).1
  rw [List.map_set, ← h]
  apply List.ext_getElem?
  intro i
  rw [List.getElem?_set]
  by_cases e : k = i
  · subst e
    rw [if_pos rfl, if_pos (by simpa using hkl), List.getElem?_map, hp]
    show some ys.length = some pz.length
    rw [hy]
  · rw [if_neg e]
theorem marks_set {qs : List (Value × List Int)} {M : List (List Int)} {k : Nat} {pv : Value} {ys : List Int} (h : ∀ j, j < k → (qs.map (·.2))[j]? = M[j]?) (hk : k < qs.length) (hM : M[k]? = some ys) : ∀ j, j < k + 1 → ((qs.set k (pv, ys)).map (·.2))[j]? = M[j]? := fun j hj => by
  rw [List.map_set, List.getElem?_set]
  by_cases e : k = j
  · subst e
    rw [if_pos rfl, if_pos (by simpa using hk), hM]
  · rw [if_neg e]
    exact h j (by omega)

set_option maxHeartbeats 800000 in
theorem mark_rows (B g len c : Nat) (ps : List (Value × List Int)) (n : Int) (w : World) (h : OwnRows B w (.slice (some ⟨g, 0, none⟩) len c) ps) (hlo : Lone ps) (hn0 : 0 ≤ n) (hn : n + ((ps.map (fun p => p.2.length)).sum : Nat) ≤ 1048576) (hlen : len ≤ 1048576) :
    Calls Try.prog 55 #[.slice (some ⟨g, 0, none⟩) len c, .int .i64 n] w fun e w' => e = .returned (.int .i64 (n + ((ps.map (fun p => p.2.length)).sum : Nat))) ∧ ∃ qs, OwnRows B w' (.slice (some ⟨g, 0, none⟩) len c) qs ∧ qs.map (·.2) = rowMarks n (ps.map (fun p => p.2.length)) ∧ Below B w w' ∧ OnlyIn w w' (ps.map Prod.fst) := by
  obtain ⟨ls, hls⟩ : ∃ ls, ps.map (fun p => p.2.length) = ls := ⟨_, rfl⟩
  rw [hls] at hn ⊢
  have hpl : ps.length = len := by
    rcases h.outer.2 with ⟨e, _⟩ | ⟨g', c', cur, e, _⟩
    · cases e
    · injection e with _ e _; exact e.symm
  have hll : ls.length = len := by rw [← hls, List.length_map, hpl]
  have HLL := hid hll
  have HO := hid h
  have HLo := hid hlo
  have HLS := hid hls
  clear h hlo hls hpl hll
  go_enter Try.func55, Try.ntmps55
  go_wp2
  go_loopw [5, 1] (fun i t wr => ∃ (k s : Nat) (qs : List (Value × List Int)), k ≤ len ∧ i = .int .i64 k ∧ t = .int .i64 (n + s) ∧ s = (ls.take k).sum ∧ OwnRows B wr (.slice (some ⟨g, 0, none⟩) len c) qs ∧ Lone qs ∧ qs.map (fun p => p.2.length) = ls ∧ (∀ j, j < k → (qs.map (·.2))[j]? = (rowMarks n ls)[j]?) ∧ Below B w wr ∧ qs.map Prod.fst = ps.map Prod.fst ∧ OnlyIn w wr (ps.map Prod.fst)) (fun i _ _ => len - (intOf i).toNat)
  case atStart => exact ⟨0, 0, ps, Nat.zero_le _, rfl, by simp, by simp, HO.out, HLo.out, HLS.out, fun j hj => absurd hj (Nat.not_lt_zero _), Below.refl _ _, rfl, OnlyIn.refl _ _⟩
  case round =>
    obtain ⟨k, s, qs, hk, rfl, rfl, hs, hown, hlone, hql, hqm, hbel, hfst, honly⟩ := hrel
    have HF := hid hfst
    have HOn := hid honly
    clear hfst honly
    have hs1 : s ≤ ls.sum := by rw [hs]; exact sum_le ls k
    have HOw := hid hown
    have HLn := hid hlone
    have HQL := hid hql
    have HQM := hid hqm
    have HB := hid hbel
    by_cases hlt : k < len
    · obtain ⟨hqlen, ⟨pv, pz⟩, hp, hcell, _, hpo⟩ := rows_cell hown hlt
      dsimp only at hcell hpo
      have hpl : pz.length = ls[k]?.getD 0 := by rw [← hql, List.getElem?_map, hp]; rfl
      have hkl : k < ls.length := by rw [HLL.out]; exact hlt
      have hsum := sum_succ (ls := ls) (k := k) hkl
      have hle := sum_le ls (k + 1)
      have hget := rowMarks_get ls n k hkl
      rw [← hs, ← hpl] at hsum hget
      have HGet : Hid ((rowMarks n ls)[k]? = some (marks (n + (s : Int)) pz.length)) := by
        show _ = _
        rw [List.getElem?_eq_getElem (by rw [rowMarks_length]; exact hkl)] at hget ⊢
        exact congrArg some hget
      have hBs : B ≤ wr.heap.size := by have := World.ownsRow.lt hown.outer g rfl; omega
      have HPo := hid hpo
      have HSum := hid hsum
      have HP := hid hp
      have HBs := hid hBs
      have HQn := hid hqlen
      have hb2 : s + pz.length ≤ ls.sum := by omega
      clear hown hlone hql hqm hbel hp hpo hsum hle hs hpl hBs hget hkl hqlen
      go_wp2_with fail
      refine (mark_any B pv pz (n + s) _ HPo.out (by omega) (by omega) (by omega)).mono ?_
      rintro e w2 ⟨rfl, ho2, hg2⟩
      have HM := hid (rows_marked HOw.out HLn.out HP.out ho2 hg2)
      have HB2 := hid (HB.out.grown hg2 HBs.out (fun k hk => (World.ownsRow.lt HPo.out k hk).1))
      have HOn2 : Hid (OnlyIn w w2 (ps.map Prod.fst)) := HOn.out.grown (by rw [← HF.out]; exact List.mem_map.2 ⟨(pv, pz), List.mem_of_getElem? HP.out, rfl⟩) hg2
      clear ho2 hg2
      go_wp2
      go_roundw
      case rel => exact ⟨k + 1, s + pz.length, _, by omega, by go_num, by congr 1; omega, HSum.out.symm, HM.out.1, HM.out.2.1, lens_set HQL.out HP.out (by simp [marks]), marks_set HQM.out (by rw [HQn.out]; exact hlt) HGet.out, HB2.out, by rw [HM.out.2.2, HF.out], HOn2.out⟩
      case measure => simp [intOf]; omega
    · have e : k = len := by omega
      subst e
      have HE : Hid (s = ls.sum) := by
        show _ = _
        rw [hs, List.take_of_length_le (by rw [HLL.out]; omega)]
      have HA : Hid (qs.map (·.2) = rowMarks n ls) := by
        show _ = _
        apply List.ext_getElem?
        intro i
        by_cases hi : i < k
        · exact HQM.out i hi
        · have e1 : qs.length = k := by rw [← HLL.out, ← HQL.out, List.length_map]
          rw [List.getElem?_eq_none (by rw [List.length_map]; omega), List.getElem?_eq_none (by rw [rowMarks_length, HLL.out]; omega)]
      clear hs hown hlone hql hqm hbel
      go_wp2
      go_ret
      exact ⟨by rw [← HE.out]; rfl, qs, HOw.out, HA.out, HB.out, HOn.out⟩
end Go.Proofs.Ytiiigdcfnnjkcaa.markRows
