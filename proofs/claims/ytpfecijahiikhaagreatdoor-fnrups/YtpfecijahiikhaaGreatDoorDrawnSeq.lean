/- A region that draws its order, of which the last operation but one (a call that all others lead to) may write what it likes, the others only make new memory: one proof an operation; of no program; conditions: none. -/
import Derived.Test.YtpfecijahiikhaaGreatDoorPart18
namespace Go.Proofs.YtpfecijahiikhaaGreatDoor.drawnSeq
open Go Go.RowKit heldStore drawn drawnLin
set_option linter.unusedVariables false

variable {P : Program} {ops : Array Oper} {Q : Exit → Act → World → Prop}
theorem region_seq {id : Nat} {a : Act} {w : World} (A : (Nat → Value) → Act) (s : Nat → Nat) (φ : Nat → Value → World → Prop) (ψ : Value → World → Prop) (W : World) (n : Nat) (con : List Nat) (u0 : Nat → Value) (ha : a = A u0)
    (hm : P.follows .mixedOrders = true) (hz : ops.size = n + 2) (hE : LastOf ops (n + 1)) (hup : upB ops = true) (hch : chainB ops con n = true) (hW : Below W.heap.size W w)
    (hput : ∀ i, i < n + 1 → ∀ u v, (A u).put (some (s i)) v = A (upd u (s i) v)) (hinj : ∀ i j, i < n + 1 → j < n + 1 → s i = s j → i = j)
    (stable : ∀ i v w w', Below w.heap.size w w' → φ i v w → φ i v w')
    (step : ∀ i, i < n → ∀ u w, Below W.heap.size W w → (∀ j, Region.waitsFor .any ops i j = true → φ j (u (s j)) w) → ∃ o, ops[i]? = some o ∧ ∀ K' : Act → World → Prop, Shut (∀ v w', Below w.heap.size w w' → φ i v w' → K' ((A u).put (some (s i)) v) w') → if Region.wanted o (yielded ops (A u).tmps) = true then Oper.wp P o (A u) w K' Q else K' ((A u).put o.dst undef) w)
    (pre : ∀ u w, Below W.heap.size W w → (∀ j, j < n → φ j (u (s j)) w) → ∃ o, ops[n]? = some o ∧ ∀ K' : Act → World → Prop, Shut (∀ v w', ψ v w' → K' ((A u).put (some (s n)) v) w') → if Region.wanted o (yielded ops (A u).tmps) = true then Oper.wp P o (A u) w K' Q else K' ((A u).put o.dst undef) w)
    (last : ∀ u w, ψ (u (s n)) w → ∃ o, ops[n + 1]? = some o ∧ ∀ K' : Act → World → Prop, Shut (∀ a w, Q .normal a w → K' a w) → if Region.wanted o (yielded ops (A u).tmps) = true then Oper.wp P o (A u) w K' Q else K' ((A u).put o.dst undef) w) :
    (Code.region id ops true).wp P Q a w := by
  have lt : ∀ i j, Region.waitsFor .any ops i j = true → j < i := fun i j hj => by
    obtain ⟨oj, hoj, e, he, hb, hon⟩ := Region.waitsFor_spec hj
    have h5 := upB_spec hup hoj e he
    rw [hon] at h5
    exact h5
  have hcon : ∀ j, j < n → j < con.getD j 0 ∧ con.getD j 0 ≤ n ∧ Region.waitsFor .any ops (con.getD j 0) j = true := fun j hj => by
    have h3 := List.all_eq_true.1 hch j (List.mem_range.2 hj)
    simp only [Bool.and_eq_true, decide_eq_true_eq] at h3
    exact ⟨h3.1.1, h3.1.2, h3.2⟩
  refine region_all A s (fun L u w => (∀ j k, L j = true → Region.waitsFor .any ops j k = true → L k = true) ∧ (L n = true → ψ (u (s n)) w) ∧ (L n = false → Below W.heap.size W w ∧ ∀ j, j < n → L j = true → φ j (u (s j)) w)) (n + 1) u0 ha hm hz hE hup ⟨fun j k h => (by cases h), fun h => (by cases h), fun _ => ⟨hW.drew, fun j _ h => (by cases h)⟩⟩ hput ?_ ?_
  · intro i hi L u w8 hLi hwait hI
    obtain ⟨hcl, hdone, hopen⟩ := hI
    have hcl' : ∀ j k, come L i j = true → Region.waitsFor .any ops j k = true → come L i k = true := by
      intro j k hj hw
      by_cases e : j = i
      · subst e; exact come_old (hwait k hw)
      · rw [come_ne e] at hj
        exact come_old (hcl j k hj hw)
    have hLn : L n = false := by
      by_cases hin : i < n
      · cases hb : L n with
        | false => rfl
        | true => rw [chain_all hch hcl hb (n - i) i (Nat.le_refl _) hin] at hLi; cases hLi
      · have e : i = n := by omega
        rw [← e]; exact hLi
    obtain ⟨hS8, hφ⟩ := hopen hLn
    by_cases hin : i < n
    · obtain ⟨o, ho, h⟩ := step i hin u w8 hS8 (fun j hj => hφ j (by have := lt i j hj; omega) (hwait j hj))
      refine ⟨o, ho, fun K' hK => h K' fun v w' hb hv => hK.out v w' ⟨hcl', fun h1 => ?_, fun _ => ⟨hS8.trans (hb.mono hS8.size), fun j hj hl => ?_⟩⟩⟩
      · rw [come_ne (by omega), hLn] at h1; cases h1
      · by_cases e : j = i
        · subst e; rw [upd_same]; exact hv
        · rw [come_ne e] at hl
          rw [upd_ne _ _ (fun e' => e (hinj j i (by omega) hi e'))]
          exact stable j _ _ _ hb (hφ j hj hl)
    · have e : i = n := by omega
      subst e
      have hall : ∀ j, j < i → L j = true := by
        have : ∀ d j, i - j ≤ d → j < i → L j = true := by
          intro d
          induction d with
          | zero => intro j h1 h2; omega
          | succ d ih =>
            intro j h1 h2
            obtain ⟨c1, c2, c3⟩ := hcon j h2
            by_cases ec : con.getD j 0 = i
            · rw [ec] at c3; exact hwait j c3
            · exact hcl _ _ (ih (con.getD j 0) (by omega) (by omega)) c3
        exact fun j hj => this (i - j) j (Nat.le_refl _) hj
      obtain ⟨o, ho, h⟩ := pre u w8 hS8 (fun j hj => hφ j hj (hall j hj))
      refine ⟨o, ho, fun K' hK => h K' fun v w' hv => hK.out v w' ⟨hcl', fun _ => ?_, fun h1 => ?_⟩⟩
      · rw [upd_same]; exact hv
      · rw [come_same] at h1; cases h1
  · intro L u w8 hall hI
    exact last u w8 (hI.2.1 (hall n (by omega)))
/-- As region_seq; what the last but one leaves is told of all values. -/
theorem region_two {id : Nat} {a : Act} {w : World} (A : (Nat → Value) → Act) (s : Nat → Nat) (φ : Nat → Value → World → Prop) (ψ : (Nat → Value) → World → Prop) (W : World) (n : Nat) (con : List Nat) (u0 : Nat → Value) (ha : a = A u0)
    (hm : P.follows .mixedOrders = true) (hz : ops.size = n + 2) (hE : LastOf ops (n + 1)) (hup : upB ops = true) (hch : chainB ops con n = true) (hW : Below W.heap.size W w)
    (hput : ∀ i, i < n + 1 → ∀ u v, (A u).put (some (s i)) v = A (upd u (s i) v)) (hinj : ∀ i j, i < n + 1 → j < n + 1 → s i = s j → i = j)
    (stable : ∀ i v w w', Below w.heap.size w w' → φ i v w → φ i v w')
    (step : ∀ i, i < n → ∀ u w, Below W.heap.size W w → (∀ j, Region.waitsFor .any ops i j = true → φ j (u (s j)) w) → ∃ o, ops[i]? = some o ∧ ∀ K' : Act → World → Prop, Shut (∀ v w', Below w.heap.size w w' → φ i v w' → K' ((A u).put (some (s i)) v) w') → if Region.wanted o (yielded ops (A u).tmps) = true then Oper.wp P o (A u) w K' Q else K' ((A u).put o.dst undef) w)
    (pre : ∀ u w, Below W.heap.size W w → (∀ j, j < n → φ j (u (s j)) w) → ∃ o, ops[n]? = some o ∧ ∀ K' : Act → World → Prop, Shut (∀ v w', ψ (upd u (s n) v) w' → K' ((A u).put (some (s n)) v) w') → if Region.wanted o (yielded ops (A u).tmps) = true then Oper.wp P o (A u) w K' Q else K' ((A u).put o.dst undef) w)
    (last : ∀ u w, ψ u w → ∃ o, ops[n + 1]? = some o ∧ ∀ K' : Act → World → Prop, Shut (∀ a w, Q .normal a w → K' a w) → if Region.wanted o (yielded ops (A u).tmps) = true then Oper.wp P o (A u) w K' Q else K' ((A u).put o.dst undef) w) :
    (Code.region id ops true).wp P Q a w := by
  have lt : ∀ i j, Region.waitsFor .any ops i j = true → j < i := fun i j hj => by
    obtain ⟨oj, hoj, e, he, hb, hon⟩ := Region.waitsFor_spec hj
    have h5 := upB_spec hup hoj e he
    rw [hon] at h5
    exact h5
  have hcon : ∀ j, j < n → j < con.getD j 0 ∧ con.getD j 0 ≤ n ∧ Region.waitsFor .any ops (con.getD j 0) j = true := fun j hj => by
    have h3 := List.all_eq_true.1 hch j (List.mem_range.2 hj)
    simp only [Bool.and_eq_true, decide_eq_true_eq] at h3
    exact ⟨h3.1.1, h3.1.2, h3.2⟩
  refine region_all A s (fun L u w => (∀ j k, L j = true → Region.waitsFor .any ops j k = true → L k = true) ∧ (L n = true → ψ u w) ∧ (L n = false → Below W.heap.size W w ∧ ∀ j, j < n → L j = true → φ j (u (s j)) w)) (n + 1) u0 ha hm hz hE hup ⟨fun j k h => (by cases h), fun h => (by cases h), fun _ => ⟨hW.drew, fun j _ h => (by cases h)⟩⟩ hput ?_ ?_
  · intro i hi L u w8 hLi hwait hI
    obtain ⟨hcl, hdone, hopen⟩ := hI
    have hcl' : ∀ j k, come L i j = true → Region.waitsFor .any ops j k = true → come L i k = true := by
      intro j k hj hw
      by_cases e : j = i
      · subst e; exact come_old (hwait k hw)
      · rw [come_ne e] at hj
        exact come_old (hcl j k hj hw)
    have hLn : L n = false := by
      by_cases hin : i < n
      · cases hb : L n with
        | false => rfl
        | true => rw [chain_all hch hcl hb (n - i) i (Nat.le_refl _) hin] at hLi; cases hLi
      · have e : i = n := by omega
        rw [← e]; exact hLi
    obtain ⟨hS8, hφ⟩ := hopen hLn
    by_cases hin : i < n
    · obtain ⟨o, ho, h⟩ := step i hin u w8 hS8 (fun j hj => hφ j (by have := lt i j hj; omega) (hwait j hj))
      refine ⟨o, ho, fun K' hK => h K' fun v w' hb hv => hK.out v w' ⟨hcl', fun h1 => ?_, fun _ => ⟨hS8.trans (hb.mono hS8.size), fun j hj hl => ?_⟩⟩⟩
      · rw [come_ne (by omega), hLn] at h1; cases h1
      · by_cases e : j = i
        · subst e; rw [upd_same]; exact hv
        · rw [come_ne e] at hl
          rw [upd_ne _ _ (fun e' => e (hinj j i (by omega) hi e'))]
          exact stable j _ _ _ hb (hφ j hj hl)
    · have e : i = n := by omega
      subst e
      have hall : ∀ j, j < i → L j = true := by
        have : ∀ d j, i - j ≤ d → j < i → L j = true := by
          intro d
          induction d with
          | zero => intro j h1 h2; omega
          | succ d ih =>
            intro j h1 h2
            obtain ⟨c1, c2, c3⟩ := hcon j h2
            by_cases ec : con.getD j 0 = i
            · rw [ec] at c3; exact hwait j c3
            · exact hcl _ _ (ih (con.getD j 0) (by omega) (by omega)) c3
        exact fun j hj => this (i - j) j (Nat.le_refl _) hj
      obtain ⟨o, ho, h⟩ := pre u w8 hS8 (fun j hj => hφ j hj (hall j hj))
      refine ⟨o, ho, fun K' hK => h K' fun v w' hv => hK.out v w' ⟨hcl', fun _ => ?_, fun h1 => ?_⟩⟩
      · exact hv
      · rw [come_same] at h1; cases h1
  · intro L u w8 hall hI
    exact last u w8 (hI.2.1 (hall n (by omega)))
/-- As region_two; J tells of what has come besides. -/
theorem region_duo {id : Nat} {a : Act} {w : World} (A : (Nat → Value) → Act) (s : Nat → Nat) (φ : Nat → Value → World → Prop) (J : (Nat → Bool) → (Nat → Value) → World → Prop) (ψ : (Nat → Value) → World → Prop) (W : World) (n : Nat) (con : List Nat) (u0 : Nat → Value) (ha : a = A u0)
    (hm : P.follows .mixedOrders = true) (hz : ops.size = n + 2) (hE : LastOf ops (n + 1)) (hup : upB ops = true) (hch : chainB ops con n = true) (hW : Below W.heap.size W w) (hJ : J (fun _ => false) u0 w.drew)
    (hput : ∀ i, i < n + 1 → ∀ u v, (A u).put (some (s i)) v = A (upd u (s i) v)) (hinj : ∀ i j, i < n + 1 → j < n + 1 → s i = s j → i = j)
    (stable : ∀ i v w w', Below w.heap.size w w' → φ i v w → φ i v w')
    (step : ∀ i, i < n → ∀ L u w, L i = false → J L u w → Below W.heap.size W w → (∀ j, Region.waitsFor .any ops i j = true → φ j (u (s j)) w) → ∃ o, ops[i]? = some o ∧ ∀ K' : Act → World → Prop, Shut (∀ v w', Below w.heap.size w w' → φ i v w' → J (come L i) (upd u (s i) v) w' → K' ((A u).put (some (s i)) v) w') → if Region.wanted o (yielded ops (A u).tmps) = true then Oper.wp P o (A u) w K' Q else K' ((A u).put o.dst undef) w)
    (pre : ∀ L u w, (∀ j, j < n → L j = true) → J L u w → Below W.heap.size W w → (∀ j, j < n → φ j (u (s j)) w) → ∃ o, ops[n]? = some o ∧ ∀ K' : Act → World → Prop, Shut (∀ v w', ψ (upd u (s n) v) w' → K' ((A u).put (some (s n)) v) w') → if Region.wanted o (yielded ops (A u).tmps) = true then Oper.wp P o (A u) w K' Q else K' ((A u).put o.dst undef) w)
    (last : ∀ u w, ψ u w → ∃ o, ops[n + 1]? = some o ∧ ∀ K' : Act → World → Prop, Shut (∀ a w, Q .normal a w → K' a w) → if Region.wanted o (yielded ops (A u).tmps) = true then Oper.wp P o (A u) w K' Q else K' ((A u).put o.dst undef) w) :
    (Code.region id ops true).wp P Q a w := by
  have lt : ∀ i j, Region.waitsFor .any ops i j = true → j < i := fun i j hj => by
    obtain ⟨oj, hoj, e, he, hb, hon⟩ := Region.waitsFor_spec hj
    have h5 := upB_spec hup hoj e he
    rw [hon] at h5
    exact h5
  have hcon : ∀ j, j < n → j < con.getD j 0 ∧ con.getD j 0 ≤ n ∧ Region.waitsFor .any ops (con.getD j 0) j = true := fun j hj => by
    have h3 := List.all_eq_true.1 hch j (List.mem_range.2 hj)
    simp only [Bool.and_eq_true, decide_eq_true_eq] at h3
    exact ⟨h3.1.1, h3.1.2, h3.2⟩
  refine region_all A s (fun L u w => (∀ j k, L j = true → Region.waitsFor .any ops j k = true → L k = true) ∧ (L n = true → ψ u w) ∧ (L n = false → Below W.heap.size W w ∧ J L u w ∧ ∀ j, j < n → L j = true → φ j (u (s j)) w)) (n + 1) u0 ha hm hz hE hup ⟨fun j k h => (by cases h), fun h => (by cases h), fun _ => ⟨hW.drew, hJ, fun j _ h => (by cases h)⟩⟩ hput ?_ ?_
  · intro i hi L u w8 hLi hwait hI
    obtain ⟨hcl, hdone, hopen⟩ := hI
    have hcl' : ∀ j k, come L i j = true → Region.waitsFor .any ops j k = true → come L i k = true := by
      intro j k hj hw
      by_cases e : j = i
      · subst e; exact come_old (hwait k hw)
      · rw [come_ne e] at hj
        exact come_old (hcl j k hj hw)
    have hLn : L n = false := by
      by_cases hin : i < n
      · cases hb : L n with
        | false => rfl
        | true => rw [chain_all hch hcl hb (n - i) i (Nat.le_refl _) hin] at hLi; cases hLi
      · have e : i = n := by omega
        rw [← e]; exact hLi
    obtain ⟨hS8, hJ8, hφ⟩ := hopen hLn
    by_cases hin : i < n
    · obtain ⟨o, ho, h⟩ := step i hin L u w8 hLi hJ8 hS8 (fun j hj => hφ j (by have := lt i j hj; omega) (hwait j hj))
      refine ⟨o, ho, fun K' hK => h K' fun v w' hb hv hj9 => hK.out v w' ⟨hcl', fun h1 => ?_, fun _ => ⟨hS8.trans (hb.mono hS8.size), hj9, fun j hj hl => ?_⟩⟩⟩
      · rw [come_ne (by omega), hLn] at h1; cases h1
      · by_cases e : j = i
        · subst e; rw [upd_same]; exact hv
        · rw [come_ne e] at hl
          rw [upd_ne _ _ (fun e' => e (hinj j i (by omega) hi e'))]
          exact stable j _ _ _ hb (hφ j hj hl)
    · have e : i = n := by omega
      subst e
      have hall : ∀ j, j < i → L j = true := by
        have : ∀ d j, i - j ≤ d → j < i → L j = true := by
          intro d
          induction d with
          | zero => intro j h1 h2; omega
          | succ d ih =>
            intro j h1 h2
            obtain ⟨c1, c2, c3⟩ := hcon j h2
            by_cases ec : con.getD j 0 = i
            · rw [ec] at c3; exact hwait j c3
            · exact hcl _ _ (ih (con.getD j 0) (by omega) (by omega)) c3
        exact fun j hj => this (i - j) j (Nat.le_refl _) hj
      obtain ⟨o, ho, h⟩ := pre L u w8 hall hJ8 hS8 (fun j hj => hφ j hj (hall j hj))
      refine ⟨o, ho, fun K' hK => h K' fun v w' hv => hK.out v w' ⟨hcl', fun _ => ?_, fun h1 => ?_⟩⟩
      · exact hv
      · rw [come_same] at h1; cases h1
  · intro L u w8 hall hI
    exact last u w8 (hI.2.1 (hall n (by omega)))
/-- As region_two; two operations come behind the one that may write all. -/
theorem region_tri {id : Nat} {a : Act} {w : World} (A : (Nat → Value) → Act) (s : Nat → Nat) (φ : Nat → Value → World → Prop) (ψ ψ2 : (Nat → Value) → World → Prop) (W : World) (n : Nat) (con : List Nat) (u0 : Nat → Value) (ha : a = A u0)
    (hm : P.follows .mixedOrders = true) (hz : ops.size = n + 3) (hE : LastOf ops (n + 2)) (hup : upB ops = true) (hmid : Region.waitsFor .any ops (n + 1) n = true) (hch : chainB ops con n = true) (hW : Below W.heap.size W w)
    (hput : ∀ i, i < n + 2 → ∀ u v, (A u).put (some (s i)) v = A (upd u (s i) v)) (hinj : ∀ i j, i < n + 2 → j < n + 2 → s i = s j → i = j)
    (stable : ∀ i v w w', Below w.heap.size w w' → φ i v w → φ i v w')
    (step : ∀ i, i < n → ∀ u w, Below W.heap.size W w → (∀ j, Region.waitsFor .any ops i j = true → φ j (u (s j)) w) → ∃ o, ops[i]? = some o ∧ ∀ K' : Act → World → Prop, Shut (∀ v w', Below w.heap.size w w' → φ i v w' → K' ((A u).put (some (s i)) v) w') → if Region.wanted o (yielded ops (A u).tmps) = true then Oper.wp P o (A u) w K' Q else K' ((A u).put o.dst undef) w)
    (pre : ∀ u w, Below W.heap.size W w → (∀ j, j < n → φ j (u (s j)) w) → ∃ o, ops[n]? = some o ∧ ∀ K' : Act → World → Prop, Shut (∀ v w', ψ (upd u (s n) v) w' → K' ((A u).put (some (s n)) v) w') → if Region.wanted o (yielded ops (A u).tmps) = true then Oper.wp P o (A u) w K' Q else K' ((A u).put o.dst undef) w)
    (mid : ∀ u w, ψ u w → ∃ o, ops[n + 1]? = some o ∧ ∀ K' : Act → World → Prop, Shut (∀ v w', ψ2 (upd u (s (n + 1)) v) w' → K' ((A u).put (some (s (n + 1))) v) w') → if Region.wanted o (yielded ops (A u).tmps) = true then Oper.wp P o (A u) w K' Q else K' ((A u).put o.dst undef) w)
    (last : ∀ u w, ψ2 u w → ∃ o, ops[n + 2]? = some o ∧ ∀ K' : Act → World → Prop, Shut (∀ a w, Q .normal a w → K' a w) → if Region.wanted o (yielded ops (A u).tmps) = true then Oper.wp P o (A u) w K' Q else K' ((A u).put o.dst undef) w) :
    (Code.region id ops true).wp P Q a w := by
  have lt : ∀ i j, Region.waitsFor .any ops i j = true → j < i := fun i j hj => by
    obtain ⟨oj, hoj, e, he, hb, hon⟩ := Region.waitsFor_spec hj
    have h5 := upB_spec hup hoj e he
    rw [hon] at h5
    exact h5
  have hcon : ∀ j, j < n → j < con.getD j 0 ∧ con.getD j 0 ≤ n ∧ Region.waitsFor .any ops (con.getD j 0) j = true := fun j hj => by
    have h3 := List.all_eq_true.1 hch j (List.mem_range.2 hj)
    simp only [Bool.and_eq_true, decide_eq_true_eq] at h3
    exact ⟨h3.1.1, h3.1.2, h3.2⟩
  refine region_all A s (fun L u w => (∀ j k, L j = true → Region.waitsFor .any ops j k = true → L k = true) ∧ (L (n + 1) = true → ψ2 u w) ∧ (L n = true → L (n + 1) = false → ψ u w) ∧ (L n = false → Below W.heap.size W w ∧ ∀ j, j < n → L j = true → φ j (u (s j)) w)) (n + 2) u0 ha hm hz hE hup ⟨fun j k h => (by cases h), fun h => (by cases h), fun h => (by cases h), fun _ => ⟨hW.drew, fun j _ h => (by cases h)⟩⟩ hput ?_ ?_
  · intro i hi L u w8 hLi hwait hI
    obtain ⟨hcl, hend, hdone, hopen⟩ := hI
    have hcl' : ∀ j k, come L i j = true → Region.waitsFor .any ops j k = true → come L i k = true := by
      intro j k hj hw
      by_cases e : j = i
      · subst e; exact come_old (hwait k hw)
      · rw [come_ne e] at hj
        exact come_old (hcl j k hj hw)
    by_cases him : i = n + 1
    · subst him
      have hLn : L n = true := hwait n hmid
      obtain ⟨o, ho, h⟩ := mid u w8 (hdone hLn hLi)
      refine ⟨o, ho, fun K' hK => h K' fun v w' hv => hK.out v w' ⟨hcl', fun _ => hv, fun _ h1 => ?_, fun h1 => ?_⟩⟩
      · rw [come_same] at h1; cases h1
      · rw [come_ne (by omega), hLn] at h1; cases h1
    replace hi : i < n + 1 := by omega
    have hLn : L n = false := by
      by_cases hin : i < n
      · cases hb : L n with
        | false => rfl
        | true => rw [chain_all hch hcl hb (n - i) i (Nat.le_refl _) hin] at hLi; cases hLi
      · have e : i = n := by omega
        rw [← e]; exact hLi
    have hLm : L (n + 1) = false := by
      cases hb : L (n + 1) with
      | false => rfl
      | true => rw [hcl _ _ hb hmid] at hLn; cases hLn
    obtain ⟨hS8, hφ⟩ := hopen hLn
    by_cases hin : i < n
    · obtain ⟨o, ho, h⟩ := step i hin u w8 hS8 (fun j hj => hφ j (by have := lt i j hj; omega) (hwait j hj))
      refine ⟨o, ho, fun K' hK => h K' fun v w' hb hv => hK.out v w' ⟨hcl', fun h1 => ?_, fun h1 => ?_, fun _ => ⟨hS8.trans (hb.mono hS8.size), fun j hj hl => ?_⟩⟩⟩
      · rw [come_ne (by omega), hLm] at h1; cases h1
      · rw [come_ne (by omega), hLn] at h1; cases h1
      · by_cases e : j = i
        · subst e; rw [upd_same]; exact hv
        · rw [come_ne e] at hl
          rw [upd_ne _ _ (fun e' => e (hinj j i (by omega) (by omega) e'))]
          exact stable j _ _ _ hb (hφ j hj hl)
    · have e : i = n := by omega
      subst e
      have hall : ∀ j, j < i → L j = true := by
        have : ∀ d j, i - j ≤ d → j < i → L j = true := by
          intro d
          induction d with
          | zero => intro j h1 h2; omega
          | succ d ih =>
            intro j h1 h2
            obtain ⟨c1, c2, c3⟩ := hcon j h2
            by_cases ec : con.getD j 0 = i
            · rw [ec] at c3; exact hwait j c3
            · exact hcl _ _ (ih (con.getD j 0) (by omega) (by omega)) c3
        exact fun j hj => this (i - j) j (Nat.le_refl _) hj
      obtain ⟨o, ho, h⟩ := pre u w8 hS8 (fun j hj => hφ j hj (hall j hj))
      refine ⟨o, ho, fun K' hK => h K' fun v w' hv => hK.out v w' ⟨hcl', fun h1 => ?_, fun _ _ => hv, fun h1 => ?_⟩⟩
      · rw [come_ne (by omega), hLm] at h1; cases h1
      · rw [come_same] at h1; cases h1
  · intro L u w8 hall hI
    exact last u w8 (hI.2.1 (hall (n + 1) (by omega)))
end Go.Proofs.YtpfecijahiikhaaGreatDoor.drawnSeq
