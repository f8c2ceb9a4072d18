/- ClsRow; DrawnFree; DrawnEnd: one text, so that the claim has fewer files. -/
import Derived.Test.YtpfecijahiikhaaGreatDoorPart1
import Derived.OwnWalk
import Derived.WalkSpells
import Derived.Maps.AppendAt
import Derived.Laws.AppendOwnNone
import Derived.Deep.Slices
import Derived.Test.YtpfecijahiikhaaGreatDoorDrawnMk
/- Rows of clauses that a call makes for itself, of clauses that were there ahead of it; conditions: none. -/
namespace Go.Proofs.YtpfecijahiikhaaGreatDoor.clsRow
open Go.RowKit Go.Deep Go base copy
set_option linter.unusedVariables false
set_option linter.unusedSimpArgs false

/-- Slices that lay in memory ahead of the call. -/
structure Inner (w0 : World) (vals : List Value) (zss : List (List Int)) : Prop where
  len : vals.length = zss.length
  each : ∀ i, i < zss.length → ∃ a l c, vals[i]? = some (.slice a l c) ∧ IntRow w0 a l (zss[i]?.getD [])
theorem Inner.nil (w0 : World) : Inner w0 [] [] := ⟨rfl, fun i hi => absurd hi (Nat.not_lt_zero _)⟩
theorem Inner.one {w0 : World} {vals : List Value} {zss : List (List Int)} (h : Inner w0 vals zss) : ∀ u ∈ vals, u.oneCell' = true := fun u hu => by
  obtain ⟨i, hi, rfl⟩ := List.getElem_of_mem hu
  obtain ⟨a, l, c, e, _⟩ := h.each i (by rw [← h.len]; exact hi)
  rw [List.getElem?_eq_getElem hi] at e
  injection e with e
  rw [e]; rfl
theorem Inner.add {w0 : World} {vals : List Value} {zss : List (List Int)} (h : Inner w0 vals zss) {a : Option Addr} {l c : Nat} {zs : List Int} (hr : IntRow w0 a l zs) : Inner w0 (vals ++ [.slice a l c]) (zss ++ [zs]) := by
  refine ⟨by simp [h.len], fun i hi => ?_⟩
  by_cases e : i < zss.length
  · obtain ⟨a', l', c', e1, e2⟩ := h.each i e
    refine ⟨a', l', c', ?_, ?_⟩
    · rw [List.getElem?_append_left (by rw [h.len]; exact e)]; exact e1
    · rw [List.getElem?_append_left e]; exact e2
  · have : i = zss.length := by simp at hi; omega
    subst this
    refine ⟨a, l, c, ?_, ?_⟩
    · rw [List.getElem?_append_right (by rw [h.len]; exact Nat.le_refl _), h.len]; simp
    · rw [List.getElem?_append_right (Nat.le_refl _)]; simpa using hr
theorem cells_of {w : World} {B n cap g : Nat} {vals : List Value} (ho : w.ownsRow B 27 1 (.slice (some ⟨g, 0, none⟩) n cap) n vals) : ∀ i u, vals[i]? = some u → w.cell? ⟨g, i, none⟩ = some u := fun i u hu => by
  obtain ⟨h1, h2⟩ := ho
  rcases h2 with ⟨e, e2⟩ | ⟨g', c, cur, e, hg, hh, hn, hm, hs, ht⟩
  · cases e
  · injection e with e3 e4 e5
    injection e3 with e3
    injection e3 with e3
    subst e3
    have hil : i < vals.length := (List.getElem?_eq_some_iff.1 hu).1
    rw [← ht, List.getElem?_take, if_pos (by omega), Array.getElem?_toList] at hu
    simp [World.cell?, hh, hu]
theorem form_of {w : World} {B n : Nat} {v : Value} {vals : List Value} (ho : w.ownsRow B 27 1 v n vals) : ∃ a cap, v = .slice a n cap ∧ n ≤ cap ∧ cap ≤ maxLen ∧ (0 < n → ∃ g, a = some ⟨g, 0, none⟩) := by
  rcases ho.2 with ⟨e, e2⟩ | ⟨g, c, cur, e, hg, hh, hn, hm, hs, ht⟩
  · exact ⟨none, 0, by rw [e, e2], by omega, Nat.zero_le _, fun h => by omega⟩
  · exact ⟨_, c, e, hn, hm, fun _ => ⟨g, rfl⟩⟩
theorem own_same {B n : Nat} {w w1 : World} {v : Value} {vals : List Value} (h : w.ownsRow B 27 1 v n vals) (hb : ∀ k, v.ownBlock = some k → w1.heap[k]? = w.heap[k]?) : w1.ownsRow B 27 1 v n vals := by
  obtain ⟨h1, h2⟩ := h
  refine ⟨h1, ?_⟩
  rcases h2 with h2 | ⟨g, cap, cur, rfl, hg, hh, rest⟩
  · exact .inl h2
  · exact .inr ⟨g, cap, cur, rfl, hg, by rw [hb g rfl]; exact hh, rest⟩
theorem own_at {N n c k : Nat} (h : (Value.slice (some ⟨N, 0, none⟩) n c).ownBlock = some k) : k = N := by
  have h' : some N = some k := h
  injection h' with h'
  exact h'.symm
theorem add_at (g off j : Nat) : (⟨g, off, none⟩ : Addr).add j = ⟨g, off + j, none⟩ := by
  by_cases h : j = 0 <;> simp [Addr.add, h]
theorem rows_empty (B N : Nat) (w : World) (hB : B ≤ w.heap.size) (hN : w.heap.size = N) : (w.alloc (.cells #[] 27)).ownsRow B 27 1 (.slice (some ⟨N, 0, none⟩) 0 0) 0 [] := by
  subst hN
  exact ⟨rfl, .inr ⟨w.heap.size, 0, #[], rfl, hB, heap_alloc_new w _, Nat.le_refl _, Nat.zero_le _, rfl, rfl⟩⟩
end Go.Proofs.YtpfecijahiikhaaGreatDoor.clsRow

/- A region that draws its order, by an invariant over what has been done; conditions: none. -/
namespace Go.Proofs.YtpfecijahiikhaaGreatDoor.drawnFree
open Go Go.RowKit base heldStore drawn drawnLin drawnSrc drawnMk
set_option linter.unusedVariables false
variable {P : Program} {ops : Array Oper} {Q : Exit → Act → World → Prop}

theorem region_free {id : Nat} {a : Act} {w : World} (A : (Nat → Value) → Act) (s : Nat → Option Nat) (Inv : (Nat → Bool) → (Nat → Value) → World → Prop) (n : Nat) (u0 : Nat → Value) (ha : a = A u0)
    (hm : P.follows .mixedOrders = true) (hz : ops.size = n) (hup : upC ops = true) (hS : Inv (fun _ => false) u0 w.drew)
    (hput : ∀ i, i < n → ∀ u v, (A u).put (s i) v = A (updO u (s i) v))
    (step : ∀ i, i < n → ∀ L u w, L i = false → (∀ j, Region.waitsFor .any ops i j = true → L j = true) → Inv L u w → ∃ o, ops[i]? = some o ∧ ∀ K' : Act → World → Prop, Shut (∀ v w', Inv (come L i) (updO u (s i) v) w' → K' ((A u).put (s i) v) w') → if Region.wanted o (yielded ops (A u).tmps) = true then Oper.wp P o (A u) w K' Q else K' ((A u).put o.dst undef) w)
    (fin : ∀ L u w, (∀ j, j < n → L j = true) → Inv L u w → Q .normal (A u) w) :
    (Code.region id ops true).wp P Q a w := by
  subst ha
  refine wp_region_any hm ?_
  rw [hz]
  refine any_free (Inv := Inv) hz hup hput ?_ ?_ _ _ _ _ ?_ (by simp) ?_
  · exact step
  · exact fin
  · simp [falses_replicate]
  · have : (fun j => (Array.replicate n false).getD j false) = fun _ => false := by funext j; exact getD_replicate_false _ _
    rw [this]
    exact hS
end Go.Proofs.YtpfecijahiikhaaGreatDoor.drawnFree

/- A region that draws its order: each value is used once, operations may write the blocks of the values that they use, and the last one, behind them all, has no value; conditions: none. -/
namespace Go.Proofs.YtpfecijahiikhaaGreatDoor.drawnEnd
open Go Go.RowKit base heldStore drawn drawnLin drawnSrc drawnMk drawnFree
set_option linter.unusedVariables false
variable {P : Program} {ops : Array Oper} {Q : Exit → Act → World → Prop}

/-- Each of the first n operations is used by one later one (con); what is told of its value (φ) hangs on old memory and on some blocks (fp), and an operation may change the blocks of the values that it uses, and make new ones. The n-th operation, the last, may write whatever. -/
theorem region_end {id : Nat} {a : Act} {w : World} (A : (Nat → Value) → Act) (s : Nat → Nat) (φ : Nat → Value → World → Prop) (fp : Nat → Value → World → Nat → Prop) (W : World) (n : Nat) (con : List Nat) (u0 : Nat → Value) (ha : a = A u0)
    (hm : P.follows .mixedOrders = true) (hz : ops.size = n + 1) (hup : upC ops = true) (hch : chainB ops con n = true) (hW : Below W.heap.size W w)
    (hput : ∀ i, i < n → ∀ u v, (A u).put (some (s i)) v = A (upd u (s i) v)) (hputN : ∀ u v, (A u).put none v = A u) (hinj : ∀ i j, i < n → j < n → s i = s j → i = j)
    (stable : ∀ i v w w', Below W.heap.size w w' → (∀ k, fp i v w k → k < w.heap.size ∧ w'.heap[k]? = w.heap[k]?) → φ i v w → φ i v w' ∧ ∀ k, fp i v w' k → fp i v w k)
    (step : ∀ i, i < n → ∀ u w, Below W.heap.size W w → (∀ j, con.getD j 0 = i → j < i → φ j (u (s j)) w ∧ ∀ k, fp j (u (s j)) w k → W.heap.size ≤ k ∧ k < w.heap.size) → ∃ o, ops[i]? = some o ∧ ∀ K' : Act → World → Prop, Shut (∀ v w', Chg (fun k => ∃ j, con.getD j 0 = i ∧ j < i ∧ fp j (u (s j)) w k) w w' → φ i v w' → (∀ k, fp i v w' k → k < w'.heap.size ∧ ((∃ j, con.getD j 0 = i ∧ j < i ∧ fp j (u (s j)) w k) ∨ w.heap.size ≤ k)) → K' ((A u).put (some (s i)) v) w') → if Region.wanted o (yielded ops (A u).tmps) = true then Oper.wp P o (A u) w K' Q else K' ((A u).put o.dst undef) w)
    (last : ∀ u w, Below W.heap.size W w → (∀ j, con.getD j 0 = n → j < n → φ j (u (s j)) w ∧ ∀ k, fp j (u (s j)) w k → W.heap.size ≤ k ∧ k < w.heap.size) → ∃ o, ops[n]? = some o ∧ ∀ K' : Act → World → Prop, Shut (∀ v w', Q .normal (A u) w' → K' ((A u).put none v) w') → if Region.wanted o (yielded ops (A u).tmps) = true then Oper.wp P o (A u) w K' Q else K' ((A u).put o.dst undef) w) :
    (Code.region id ops true).wp P Q a w := by
  have hcon : ∀ j, j < n → j < con.getD j 0 ∧ con.getD j 0 ≤ n ∧ Region.waitsFor .any ops (con.getD j 0) j = true := fun j hj => by
    have h3 := List.all_eq_true.1 hch j (List.mem_range.2 hj)
    simp only [Bool.and_eq_true, decide_eq_true_eq] at h3
    exact ⟨h3.1.1, h3.1.2, h3.2⟩
  refine region_free A (fun i => if i < n then some (s i) else none) (fun L u w => (∀ j k, L j = true → Region.waitsFor .any ops j k = true → L k = true) ∧ (L n = true → Q .normal (A u) w) ∧ (L n = false → Below W.heap.size W w ∧ (∀ j, j < n → L j = true → L (con.getD j 0) = false → φ j (u (s j)) w ∧ ∀ k, fp j (u (s j)) w k → W.heap.size ≤ k ∧ k < w.heap.size) ∧ ∀ j j', j < n → j' < n → j ≠ j' → L j = true → L (con.getD j 0) = false → L j' = true → L (con.getD j' 0) = false → ∀ k, fp j (u (s j)) w k → ¬ fp j' (u (s j')) w k)) (n + 1) u0 ha hm hz hup ⟨fun j k h => (by cases h), fun h => (by cases h), fun _ => ⟨hW.drew, fun j _ h => (by cases h), fun j j' _ _ _ h => (by cases h)⟩⟩ ?_ ?_ ?_
  · intro i hi u v
    by_cases h : i < n
    · simp only [if_pos h]; exact hput i h u v
    · simp only [if_neg h]; exact hputN u v
  · intro i hi L u w8 hLi hwait hI
    obtain ⟨hcl, hdone, hopen⟩ := hI
    have hcl' : ∀ j k, come L i j = true → Region.waitsFor .any ops j k = true → come L i k = true := by
      intro j k hj hw
      by_cases e : j = i
      · subst e; exact come_old (hwait k hw)
      · rw [come_ne e] at hj
        exact come_old (hcl j k hj hw)
    have hLn : L n = false := by
      by_cases hin : i < n
      · cases hb : L n with
        | false => rfl
        | true => rw [chain_all hch hcl hb (n - i) i (Nat.le_refl _) hin] at hLi; cases hLi
      · have e : i = n := by omega
        rw [← e]; exact hLi
    obtain ⟨hS8, hφ, hdis⟩ := hopen hLn
    have used : ∀ j, con.getD j 0 = i → j < i → L j = true := fun j hj hji => hwait j (by
      have := (hcon j (by omega)).2.2
      rw [hj] at this
      exact this)
    by_cases hin : i < n
    · simp only [if_pos hin]
      obtain ⟨o, ho, h⟩ := step i hin u w8 hS8 (fun j hj hji => hφ j (by omega) (used j hj hji) (by rw [hj]; exact hLi))
      refine ⟨o, ho, fun K' hK => h K' fun v w' hc hv hf => hK.out v w' ⟨hcl', fun h1 => ?_, fun _ => ?_⟩⟩
      · rw [come_ne (by omega), hLn] at h1; cases h1
      · rw [show updO u (some (s i)) v = upd u (s i) v from rfl]
        have hXW : ∀ k, (∃ j, con.getD j 0 = i ∧ j < i ∧ fp j (u (s j)) w8 k) → W.heap.size ≤ k := fun k hk => by
          obtain ⟨j, hj, hji, hk⟩ := hk
          exact ((hφ j (by omega) (used j hj hji) (by rw [hj]; exact hLi)).2 k hk).1
        have hb : Below W.heap.size w8 w' := ⟨hc.os, hc.tape, hc.output, hc.size, fun k hk => hc.block k (Nat.lt_of_lt_of_le hk hS8.size) (fun hx => by have := hXW k hx; omega)⟩
        -- an older operation that is still to be used
        have alive : ∀ j, j < n → j ≠ i → come L i j = true → come L i (con.getD j 0) = false → L j = true ∧ L (con.getD j 0) = false ∧ con.getD j 0 ≠ i := fun j hj e h1 h2 => by
          rw [come_ne e] at h1
          have h3 : con.getD j 0 ≠ i := fun e' => by rw [e', come_same] at h2; cases h2
          rw [come_ne h3] at h2
          exact ⟨h1, h2, h3⟩
        have apart : ∀ j, j < n → L j = true → L (con.getD j 0) = false → con.getD j 0 ≠ i → ∀ k, fp j (u (s j)) w8 k → ¬ ∃ j', con.getD j' 0 = i ∧ j' < i ∧ fp j' (u (s j')) w8 k := fun j hj h1 h2 h3 k hk hx => by
          obtain ⟨j', hj', hji, hk'⟩ := hx
          exact hdis j j' hj (by omega) (fun e => h3 (by rw [e]; exact hj')) h1 h2 (used j' hj' hji) (by rw [hj']; exact hLi) k hk hk'
        have sub : ∀ j, j < n → L j = true → L (con.getD j 0) = false → con.getD j 0 ≠ i → ∀ k, fp j (u (s j)) w' k → fp j (u (s j)) w8 k := fun j hj h1 h2 h3 => by
          obtain ⟨hp, hk⟩ := hφ j hj h1 h2
          exact (stable j _ _ _ hb (fun k hk' => ⟨(hk k hk').2, hc.block k (hk k hk').2 (apart j hj h1 h2 h3 k hk')⟩) hp).2
        refine ⟨hS8.trans hb, fun j hj h1 h2 => ?_, fun j j' hj hj' hne h1 h2 h1' h2' k hk => ?_⟩
        · by_cases e : j = i
          · subst e
            rw [upd_same]
            refine ⟨hv, fun k hk => ⟨?_, (hf k hk).1⟩⟩
            rcases (hf k hk).2 with hx | hx
            · exact hXW k hx
            · exact Nat.le_trans hS8.size hx
          · obtain ⟨h1, h2, h3⟩ := alive j hj e h1 h2
            rw [upd_ne _ _ (fun e' => e (hinj j i (by omega) hin e'))]
            obtain ⟨hp, hk⟩ := hφ j hj h1 h2
            obtain ⟨hp', hsub⟩ := stable j _ _ _ hb (fun k hk' => ⟨(hk k hk').2, hc.block k (hk k hk').2 (apart j hj h1 h2 h3 k hk')⟩) hp
            exact ⟨hp', fun k hk' => ⟨(hk k (hsub k hk')).1, Nat.lt_of_lt_of_le (hk k (hsub k hk')).2 hc.size⟩⟩
        · by_cases e : j = i
          · subst e
            have e' : j' ≠ j := fun e => hne e.symm
            obtain ⟨h1', h2', h3'⟩ := alive j' hj' e' h1' h2'
            rw [upd_same] at hk
            rw [upd_ne _ _ (fun e'' => e' (hinj j' j (by omega) hin e''))]
            intro hk'
            have hk' := sub j' hj' h1' h2' h3' k hk'
            rcases (hf k hk).2 with hx | hx
            · exact apart j' hj' h1' h2' h3' k hk' hx
            · have := ((hφ j' hj' h1' h2').2 k hk').2
              omega
          · obtain ⟨g1, g2, g3⟩ := alive j hj e h1 h2
            rw [upd_ne _ _ (fun e'' => e (hinj j i (by omega) hin e''))] at hk
            have hk := sub j hj g1 g2 g3 k hk
            by_cases e' : j' = i
            · subst e'
              rw [upd_same]
              intro hk'
              rcases (hf k hk').2 with hx | hx
              · exact apart j hj g1 g2 g3 k hk hx
              · have := ((hφ j hj g1 g2).2 k hk).2
                omega
            · obtain ⟨h1', h2', h3'⟩ := alive j' hj' e' h1' h2'
              rw [upd_ne _ _ (fun e'' => e' (hinj j' i (by omega) hin e''))]
              exact fun hk' => hdis j j' hj hj' hne g1 g2 h1' h2' k hk (sub j' hj' h1' h2' h3' k hk')
    · have e : i = n := by omega
      subst e
      simp only [if_neg hin]
      obtain ⟨o, ho, h⟩ := last u w8 hS8 (fun j hj hji => hφ j hji (used j hj hji) (by rw [hj]; exact hLi))
      refine ⟨o, ho, fun K' hK => h K' fun v w' hq => hK.out v w' ⟨hcl', fun _ => hq, fun h1 => ?_⟩⟩
      rw [come_same] at h1; cases h1
  · intro L u w8 hall hI
    exact hI.2.1 (hall n (by omega))
end Go.Proofs.YtpfecijahiikhaaGreatDoor.drawnEnd
