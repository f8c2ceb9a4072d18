/- DrawnFree; DrawnEnd; DrawnIn; DrawnCalmIn: one text, so that the claim has fewer files. -/
import Derived.Test.YtbahjpheaaiamaaDoorPart13
import Derived.Test.YtbahjpheaaiamaaDoorPart9
import Derived.OrdersIn
import Derived.ControlIn
import Derived.RangeFuncCalls
/- A region that draws its order, by an invariant over what has been done; conditions: none. -/
namespace Go.Proofs.YtbahjpheaaiamaaDoor.drawnFree
open Go Go.RowKit base heldStore drawn drawnLin drawnSrc drawnMk
set_option linter.unusedVariables false
variable {P : Program} {ops : Array Oper} {Q : Exit → Act → World → Prop}

theorem region_free {id : Nat} {a : Act} {w : World} (A : (Nat → Value) → Act) (s : Nat → Option Nat) (Inv : (Nat → Bool) → (Nat → Value) → World → Prop) (n : Nat) (u0 : Nat → Value) (ha : a = A u0)
    (hm : P.follows .mixedOrders = true) (hz : ops.size = n) (hup : upC ops = true) (hS : Inv (fun _ => false) u0 w.drew)
    (hput : ∀ i, i < n → ∀ u v, (A u).put (s i) v = A (updO u (s i) v))
    (step : ∀ i, i < n → ∀ L u w, L i = false → (∀ j, Region.waitsFor .any ops i j = true → L j = true) → Inv L u w → ∃ o, ops[i]? = some o ∧ ∀ K' : Act → World → Prop, Shut (∀ v w', Inv (come L i) (updO u (s i) v) w' → K' ((A u).put (s i) v) w') → if Region.wanted o (yielded ops (A u).tmps) = true then Oper.wp P o (A u) w K' Q else K' ((A u).put o.dst undef) w)
    (fin : ∀ L u w, (∀ j, j < n → L j = true) → Inv L u w → Q .normal (A u) w) :
    (Code.region id ops true).wp P Q a w := by
  subst ha
  refine wp_region_any hm ?_
  rw [hz]
  refine any_free (Inv := Inv) hz hup hput ?_ ?_ _ _ _ _ ?_ (by simp) ?_
  · exact step
  · exact fin
  · simp [falses_replicate]
  · have : (fun j => (Array.replicate n false).getD j false) = fun _ => false := by funext j; exact getD_replicate_false _ _
    rw [this]
    exact hS
end Go.Proofs.YtbahjpheaaiamaaDoor.drawnFree

/- A region that draws its order: each value is used once, operations may write the blocks of the values that they use, and the last one, behind them all, has no value; conditions: none. -/
namespace Go.Proofs.YtbahjpheaaiamaaDoor.drawnEnd
open Go Go.RowKit base heldStore drawn drawnLin drawnSrc drawnMk drawnFree
set_option linter.unusedVariables false
variable {P : Program} {ops : Array Oper} {Q : Exit → Act → World → Prop}

/-- Each of the first n operations is used by one later one (con); what is told of its value (φ) hangs on old memory and on some blocks (fp), and an operation may change the blocks of the values that it uses, and make new ones. The n-th operation, the last, may write whatever. -/
theorem region_end {id : Nat} {a : Act} {w : World} (A : (Nat → Value) → Act) (s : Nat → Nat) (φ : Nat → Value → World → Prop) (fp : Nat → Value → World → Nat → Prop) (W : World) (n : Nat) (con : List Nat) (u0 : Nat → Value) (ha : a = A u0)
    (hm : P.follows .mixedOrders = true) (hz : ops.size = n + 1) (hup : upC ops = true) (hch : chainB ops con n = true) (hW : Below W.heap.size W w)
    (hput : ∀ i, i < n → ∀ u v, (A u).put (some (s i)) v = A (upd u (s i) v)) (hputN : ∀ u v, (A u).put none v = A u) (hinj : ∀ i j, i < n → j < n → s i = s j → i = j)
    (stable : ∀ i v w w', Below W.heap.size w w' → (∀ k, fp i v w k → k < w.heap.size ∧ w'.heap[k]? = w.heap[k]?) → φ i v w → φ i v w' ∧ ∀ k, fp i v w' k → fp i v w k)
    (step : ∀ i, i < n → ∀ u w, Below W.heap.size W w → (∀ j, con.getD j 0 = i → j < i → φ j (u (s j)) w ∧ ∀ k, fp j (u (s j)) w k → W.heap.size ≤ k ∧ k < w.heap.size) → ∃ o, ops[i]? = some o ∧ ∀ K' : Act → World → Prop, Shut (∀ v w', Chg (fun k => ∃ j, con.getD j 0 = i ∧ j < i ∧ fp j (u (s j)) w k) w w' → φ i v w' → (∀ k, fp i v w' k → k < w'.heap.size ∧ ((∃ j, con.getD j 0 = i ∧ j < i ∧ fp j (u (s j)) w k) ∨ w.heap.size ≤ k)) → K' ((A u).put (some (s i)) v) w') → if Region.wanted o (yielded ops (A u).tmps) = true then Oper.wp P o (A u) w K' Q else K' ((A u).put o.dst undef) w)
    (last : ∀ u w, Below W.heap.size W w → (∀ j, con.getD j 0 = n → j < n → φ j (u (s j)) w ∧ ∀ k, fp j (u (s j)) w k → W.heap.size ≤ k ∧ k < w.heap.size) → ∃ o, ops[n]? = some o ∧ ∀ K' : Act → World → Prop, Shut (∀ v w', Q .normal (A u) w' → K' ((A u).put none v) w') → if Region.wanted o (yielded ops (A u).tmps) = true then Oper.wp P o (A u) w K' Q else K' ((A u).put o.dst undef) w) :
    (Code.region id ops true).wp P Q a w := by
  have hcon : ∀ j, j < n → j < con.getD j 0 ∧ con.getD j 0 ≤ n ∧ Region.waitsFor .any ops (con.getD j 0) j = true := fun j hj => by
    have h3 := List.all_eq_true.1 hch j (List.mem_range.2 hj)
    simp only [Bool.and_eq_true, decide_eq_true_eq] at h3
    exact ⟨h3.1.1, h3.1.2, h3.2⟩
  refine region_free A (fun i => if i < n then some (s i) else none) (fun L u w => (∀ j k, L j = true → Region.waitsFor .any ops j k = true → L k = true) ∧ (L n = true → Q .normal (A u) w) ∧ (L n = false → Below W.heap.size W w ∧ (∀ j, j < n → L j = true → L (con.getD j 0) = false → φ j (u (s j)) w ∧ ∀ k, fp j (u (s j)) w k → W.heap.size ≤ k ∧ k < w.heap.size) ∧ ∀ j j', j < n → j' < n → j ≠ j' → L j = true → L (con.getD j 0) = false → L j' = true → L (con.getD j' 0) = false → ∀ k, fp j (u (s j)) w k → ¬ fp j' (u (s j')) w k)) (n + 1) u0 ha hm hz hup ⟨fun j k h => (by cases h), fun h => (by cases h), fun _ => ⟨hW.drew, fun j _ h => (by cases h), fun j j' _ _ _ h => (by cases h)⟩⟩ ?_ ?_ ?_
  · intro i hi u v
    by_cases h : i < n
    · simp only [if_pos h]; exact hput i h u v
    · simp only [if_neg h]; exact hputN u v
  · intro i hi L u w8 hLi hwait hI
    obtain ⟨hcl, hdone, hopen⟩ := hI
    have hcl' : ∀ j k, come L i j = true → Region.waitsFor .any ops j k = true → come L i k = true := by
      intro j k hj hw
      by_cases e : j = i
      · subst e; exact come_old (hwait k hw)
      · rw [come_ne e] at hj
        exact come_old (hcl j k hj hw)
    have hLn : L n = false := by
      by_cases hin : i < n
      · cases hb : L n with
        | false => rfl
        | true => rw [chain_all hch hcl hb (n - i) i (Nat.le_refl _) hin] at hLi; cases hLi
      · have e : i = n := by omega
        rw [← e]; exact hLi
    obtain ⟨hS8, hφ, hdis⟩ := hopen hLn
    have used : ∀ j, con.getD j 0 = i → j < i → L j = true := fun j hj hji => hwait j (by
      have := (hcon j (by omega)).2.2
      rw [hj] at this
      exact this)
    by_cases hin : i < n
    · simp only [if_pos hin]
      obtain ⟨o, ho, h⟩ := step i hin u w8 hS8 (fun j hj hji => hφ j (by omega) (used j hj hji) (by rw [hj]; exact hLi))
      refine ⟨o, ho, fun K' hK => h K' fun v w' hc hv hf => hK.out v w' ⟨hcl', fun h1 => ?_, fun _ => ?_⟩⟩
      · rw [come_ne (by omega), hLn] at h1; cases h1
      · rw [show updO u (some (s i)) v = upd u (s i) v from rfl]
        have hXW : ∀ k, (∃ j, con.getD j 0 = i ∧ j < i ∧ fp j (u (s j)) w8 k) → W.heap.size ≤ k := fun k hk => by
          obtain ⟨j, hj, hji, hk⟩ := hk
          exact ((hφ j (by omega) (used j hj hji) (by rw [hj]; exact hLi)).2 k hk).1
        have hb : Below W.heap.size w8 w' := ⟨hc.os, hc.tape, hc.output, hc.size, fun k hk => hc.block k (Nat.lt_of_lt_of_le hk hS8.size) (fun hx => by have := hXW k hx; omega)⟩
        -- an older operation that is still to be used
        have alive : ∀ j, j < n → j ≠ i → come L i j = true → come L i (con.getD j 0) = false → L j = true ∧ L (con.getD j 0) = false ∧ con.getD j 0 ≠ i := fun j hj e h1 h2 => by
          rw [come_ne e] at h1
          have h3 : con.getD j 0 ≠ i := fun e' => by rw [e', come_same] at h2; cases h2
          rw [come_ne h3] at h2
          exact ⟨h1, h2, h3⟩
        have apart : ∀ j, j < n → L j = true → L (con.getD j 0) = false → con.getD j 0 ≠ i → ∀ k, fp j (u (s j)) w8 k → ¬ ∃ j', con.getD j' 0 = i ∧ j' < i ∧ fp j' (u (s j')) w8 k := fun j hj h1 h2 h3 k hk hx => by
          obtain ⟨j', hj', hji, hk'⟩ := hx
          exact hdis j j' hj (by omega) (fun e => h3 (by rw [e]; exact hj')) h1 h2 (used j' hj' hji) (by rw [hj']; exact hLi) k hk hk'
        have sub : ∀ j, j < n → L j = true → L (con.getD j 0) = false → con.getD j 0 ≠ i → ∀ k, fp j (u (s j)) w' k → fp j (u (s j)) w8 k := fun j hj h1 h2 h3 => by
          obtain ⟨hp, hk⟩ := hφ j hj h1 h2
          exact (stable j _ _ _ hb (fun k hk' => ⟨(hk k hk').2, hc.block k (hk k hk').2 (apart j hj h1 h2 h3 k hk')⟩) hp).2
        refine ⟨hS8.trans hb, fun j hj h1 h2 => ?_, fun j j' hj hj' hne h1 h2 h1' h2' k hk => ?_⟩
        · by_cases e : j = i
          · subst e
            rw [upd_same]
            refine ⟨hv, fun k hk => ⟨?_, (hf k hk).1⟩⟩
            rcases (hf k hk).2 with hx | hx
            · exact hXW k hx
            · exact Nat.le_trans hS8.size hx
          · obtain ⟨h1, h2, h3⟩ := alive j hj e h1 h2
            rw [upd_ne _ _ (fun e' => e (hinj j i (by omega) hin e'))]
            obtain ⟨hp, hk⟩ := hφ j hj h1 h2
            obtain ⟨hp', hsub⟩ := stable j _ _ _ hb (fun k hk' => ⟨(hk k hk').2, hc.block k (hk k hk').2 (apart j hj h1 h2 h3 k hk')⟩) hp
            exact ⟨hp', fun k hk' => ⟨(hk k (hsub k hk')).1, Nat.lt_of_lt_of_le (hk k (hsub k hk')).2 hc.size⟩⟩
        · by_cases e : j = i
          · subst e
            have e' : j' ≠ j := fun e => hne e.symm
            obtain ⟨h1', h2', h3'⟩ := alive j' hj' e' h1' h2'
            rw [upd_same] at hk
            rw [upd_ne _ _ (fun e'' => e' (hinj j' j (by omega) hin e''))]
            intro hk'
            have hk' := sub j' hj' h1' h2' h3' k hk'
            rcases (hf k hk).2 with hx | hx
            · exact apart j' hj' h1' h2' h3' k hk' hx
            · have := ((hφ j' hj' h1' h2').2 k hk').2
              omega
          · obtain ⟨g1, g2, g3⟩ := alive j hj e h1 h2
            rw [upd_ne _ _ (fun e'' => e (hinj j i (by omega) hin e''))] at hk
            have hk := sub j hj g1 g2 g3 k hk
            by_cases e' : j' = i
            · subst e'
              rw [upd_same]
              intro hk'
              rcases (hf k hk').2 with hx | hx
              · exact apart j hj g1 g2 g3 k hk hx
              · have := ((hφ j hj g1 g2).2 k hk).2
                omega
            · obtain ⟨h1', h2', h3'⟩ := alive j' hj' e' h1' h2'
              rw [upd_ne _ _ (fun e'' => e' (hinj j' i (by omega) hin e''))]
              exact fun hk' => hdis j j' hj hj' hne g1 g2 h1' h2' k hk (sub j' hj' h1' h2' h3' k hk')
    · have e : i = n := by omega
      subst e
      simp only [if_neg hin]
      obtain ⟨o, ho, h⟩ := last u w8 hS8 (fun j hj hji => hφ j hji (used j hj hji) (by rw [hj]; exact hLi))
      refine ⟨o, ho, fun K' hK => h K' fun v w' hq => hK.out v w' ⟨hcl', fun _ => hq, fun h1 => ?_⟩⟩
      rw [come_same] at h1; cases h1
  · intro L u w8 hall hI
    exact hI.2.1 (hall n (by omega))
end Go.Proofs.YtbahjpheaaiamaaDoor.drawnEnd

/- A region that draws its order, in a round of a range over a function: one proof an operation; what is told of the values and of the world may hang on which operations have come up; of no program; conditions: no operation defers. -/
namespace Go.Proofs.YtbahjpheaaiamaaDoor.drawnIn
open Go heldStore drawn

variable {P : Program} {ops : Array Oper} {Q : Exit → Act → World → Prop} {l m : Nat}

theorem rows_in {row : String} {args : Array Value} {w : World} {R : Value → World → Prop} (h : Rows P row args w R) : RowsIn (Fence.wide.inRound l) m P row args w R :=
  fun c cs _ => let ⟨v, w', r, s⟩ := h c cs; ⟨v, w', r, stepsIn_wide.2 s⟩
theorem oper_in {o : Oper} {a : Act} {w : World} {K : Act → World → Prop} (hd : ∀ c, o.op ≠ .defer c) (h : o.wp P a w K Q) : o.wpIn (Fence.wide.inRound l) m P a w K Q := by
  refine ⟨fun _ _ => trivial, ?_⟩
  rw [Oper.semAt_eq _ _ _ hd]
  unfold Oper.wp at h
  generalize (execOp a.eval o).run P w = r at h ⊢
  cases r with
  | ok x w' =>
    cases x with
    | value v => exact h
    | skip => exact h
    | defer d => exact h
    | enter f args => exact ⟨fun e => (by cases e), CallsIn.inRound l (callsIn_wide.2 h)⟩
    | row r args => exact ⟨fun e => (by cases e), rows_in h⟩
    | _ => exact h.elim
  | halt x w' => cases x <;> exact h

def nodef (ops : Array Oper) : Bool := ops.all fun o => match o.op with | .defer _ => false | _ => true
theorem nodef_spec (h : nodef ops = true) {i : Nat} {o : Oper} (ho : ops[i]? = some o) : ∀ c, o.op ≠ .defer c := by
  obtain ⟨hi, e⟩ := Array.getElem?_eq_some_iff.1 ho
  have h1 := (Array.all_eq_true.1 h) i hi
  rw [e] at h1
  intro c hc
  rw [hc] at h1
  cases h1

/-- Operations wait for earlier ones alone, where they wait in whatever order. -/
def upA (ops : Array Oper) : Bool := (List.range ops.size).all fun i => ((ops[i]?).map (·.after.all fun e => decide (e.on < i) || !Region.binds .any e)).getD true
theorem upA_spec (h : upA ops = true) {i : Nat} {o : Oper} (ho : ops[i]? = some o) : ∀ e ∈ o.after, Region.binds .any e = true → e.on < i := by
  have hlt : i < ops.size := (Array.getElem?_eq_some_iff.1 ho).1
  have h1 := List.all_eq_true.1 h i (List.mem_range.2 hlt)
  rw [ho] at h1
  simp only [Option.map_some, Option.getD_some, Array.all_eq_true_iff_forall_mem] at h1
  intro e he hb
  have := h1 e he
  rw [hb] at this
  simpa using this
theorem ready_some (h : upA ops = true) {listed : Array Bool} (hs : listed.size = ops.size) : ∀ n, listed.getD n true = false → Region.ready .any ops listed ≠ [] := by
  intro n
  induction n using Nat.strongRecOn with
  | _ n ih =>
    intro hn he
    have hlt : n < ops.size := by
      rcases Nat.lt_or_ge n listed.size with h' | h'
      · omega
      · simp [Array.getElem?_eq_none h'] at hn
    by_cases hall : ∀ e ∈ (ops[n]).after, Region.binds .any e = true → listed.getD e.on false = true
    · have : n ∈ Region.ready .any ops listed := mem_ready.2 ⟨hn, ops[n], by simp [hlt], hall⟩
      rw [he] at this
      cases this
    · have hx : ∃ e ∈ (ops[n]).after, Region.binds .any e = true ∧ listed.getD e.on false = false := by
        apply Classical.byContradiction
        intro hno
        refine hall fun e he' hb' => ?_
        cases hb : listed.getD e.on false with
        | true => rfl
        | false => exact absurd ⟨e, he', hb', hb⟩ hno
      obtain ⟨e, he', hb', hb⟩ := hx
      have hlt' := upA_spec h (i := n) (o := ops[n]) (by simp [hlt]) e he' hb'
      exact ih e.on hlt' (getD_in (by omega) hb) he

variable {A : (Nat → Value) → Act} {s : Nat → Nat} {Inv : (Nat → Bool) → (Nat → Value) → World → Prop} {n : Nat}
def come (L : Nat → Bool) (i : Nat) : Nat → Bool := fun j => if j = i then true else L j

/-- The first m operations answer what is known. -/
def Known (m : Nat) (sl : Nat → Nat) (val : Nat → Value) (L : Nat → Bool) (u : Nat → Value) : Prop := ∀ j, j < m → L j = true → u (sl j) = val j
theorem Known.none (m : Nat) (sl : Nat → Nat) (val : Nat → Value) (u : Nat → Value) : Known m sl val (fun _ => false) u := fun _ _ h => (by cases h)
theorem Known.put {m : Nat} {sl : Nat → Nat} {val : Nat → Value} {L : Nat → Bool} {u : Nat → Value} (h : Known m sl val L u) (hinj : ∀ a b, a < m → b < m → sl a = sl b → a = b) {i : Nat} (hi : i < m) {v : Value} (hv : v = val i) : Known m sl val (come L i) (upd u (sl i) v) := fun j hj hL => by
  by_cases e : j = i
  · subst e; rw [upd_same, hv]
  · rw [upd_ne _ _ (fun e' => e (hinj j i hj hi e'))]
    unfold come at hL
    rw [if_neg e] at hL
    exact h j hj hL
theorem Known.other {m : Nat} {sl : Nat → Nat} {val : Nat → Value} {L : Nat → Bool} {u : Nat → Value} (h : Known m sl val L u) {i k : Nat} (hi : m ≤ i) (hk : ∀ j, j < m → sl j ≠ k) (v : Value) : Known m sl val (come L i) (upd u k v) := fun j hj hL => by
  rw [upd_ne _ _ (hk j hj)]
  unfold come at hL
  rw [if_neg (by omega)] at hL
  exact h j hj hL

theorem any_all (hd : nodef ops = true) (hz : ops.size = n + 1) (hE : LastOf ops n) (hup : upA ops = true)
    (hput : ∀ i, i < n → ∀ u v, (A u).put (some (s i)) v = A (upd u (s i) v))
    (step : ∀ i, i < n → ∀ L u w, L i = false → (∀ j, Region.waitsFor .any ops i j = true → L j = true) → Inv L u w → ∃ o, ops[i]? = some o ∧ ∀ K' : Act → World → Prop, Shut (∀ v w', Inv (come L i) (upd u (s i) v) w' → K' ((A u).put (some (s i)) v) w') → if Region.wanted o (yielded ops (A u).tmps) = true then Oper.wp P o (A u) w K' Q else K' ((A u).put o.dst undef) w)
    (last : ∀ L u w, (∀ j, j < n → L j = true) → Inv L u w → ∃ o, ops[n]? = some o ∧ ∀ K' : Act → World → Prop, Shut (∀ a w, Q .normal a w → K' a w) → if Region.wanted o (yielded ops (A u).tmps) = true then Oper.wp P o (A u) w K' Q else K' ((A u).put o.dst undef) w) :
    ∀ (fuel : Nat) (listed : Array Bool) (u : Nat → Value) (w : World), falses listed.toList ≤ fuel → HeadInv .any ops n listed → Inv (fun j => listed.getD j false) u w →
      wpAnyIn (Fence.wide.inRound l) m P .any ops Q fuel listed (A u) w := by
  intro fuel
  induction fuel with
  | zero =>
    intro listed u w hf inv _
    have := falses_pos _ _ (at_false (inv.tail n (Nat.le_refl _) (by omega)))
    omega
  | succ fuel ih =>
    intro listed u w hf inv hI
    have hn := inv.tail n (Nat.le_refl _) (by omega)
    refine ⟨fun h => absurd h (ready_some hup inv.size n hn), fun i hi => ?_⟩
    have hi' := mem_ready.1 hi
    obtain ⟨hun, oi, hoi, hall⟩ := hi'
    have hisz : i < n + 1 := by rw [← hz]; exact (Array.getElem?_eq_some_iff.1 hoi).1
    have go : ∀ {o : Oper} {K K' : Act → World → Prop}, ops[i]? = some o → (∀ a w, K' a w → K a w) → (if Region.wanted o (yielded ops (A u).tmps) = true then Oper.wp P o (A u) w K' Q else K' ((A u).put o.dst undef) w) → wpOpIn (Fence.wide.inRound l) m P ops Q i K (A u) w := by
      intro o K K' ho hK h
      unfold wpOpIn
      rw [ho]
      simp only
      split
      · next hw => rw [if_pos hw] at h; exact Oper.wpIn_mono hK (oper_in (nodef_spec hd ho) h)
      · next hw => rw [if_neg hw] at h; exact ⟨fun _ _ => trivial, hK _ _ h⟩
    by_cases hin : i < n
    · obtain ⟨o, ho, h⟩ := step i hin (fun j => listed.getD j false) u w (getD_both hun) (fun j hj => by
        obtain ⟨oj, hoj, e, he, hb, hon⟩ := Region.waitsFor_spec hj
        have e1 : oj = oi := Option.some.inj (hoj.symm.trans hoi)
        subst e1
        have h1 := hall e he hb
        rw [hon] at h1
        exact h1) hI
      refine go ho (K' := wpAnyIn (Fence.wide.inRound l) m P .any ops Q fuel (listed.setIfInBounds i true)) (fun _ _ h => h) (h _ fun v w' hI' => ?_)
      rw [hput i hin]
      refine ih _ _ _ ?_ (inv.set hi hin) ?_
      · have := falses_set _ _ (at_false hun)
        simp only [Array.toList_setIfInBounds]
        omega
      · have : (fun j => (listed.setIfInBounds i true).getD j false) = come (fun j => listed.getD j false) i := by
          funext j
          unfold come
          by_cases e : j = i
          · subst e
            rw [if_pos rfl]
            have : j < listed.size := by rw [inv.size, hz]; omega
            simp [this]
          · rw [if_neg e, getD_set_ne false (Ne.symm e)]
        rw [this]
        exact hI'
    · have e : i = n := by omega
      subst e
      have hlall : ∀ j, j < i → listed.getD j false = true := by
        intro j hj
        cases hb : listed.getD j false with
        | true => rfl
        | false => exact absurd hi (tail_waits hE.sink hE.chain hE.lt inv _ j rfl hj (getD_in (by rw [inv.size]; omega) hb) i (Nat.le_refl _))
      obtain ⟨o, ho, h⟩ := last _ u w hlall hI
      refine go ho (K' := wpAnyIn (Fence.wide.inRound l) m P .any ops Q fuel (listed.setIfInBounds i true)) (fun _ _ h => h) (h _ fun a' w' hq => ?_)
      have hdn : Region.ready .any ops (listed.setIfInBounds i true) = [] := by
        cases hr : Region.ready .any ops (listed.setIfInBounds i true) with
        | nil => rfl
        | cons k l =>
          have hk : k ∈ Region.ready .any ops (listed.setIfInBounds i true) := by rw [hr]; exact List.mem_cons_self
          obtain ⟨h1, ok, hok, _⟩ := mem_ready.1 hk
          have hklt : k < i + 1 := by rw [← hz]; exact (Array.getElem?_eq_some_iff.1 hok).1
          by_cases e : k = i
          · subst e
            have : k < listed.size := by rw [inv.size]; omega
            simp [this] at h1
          · rw [getD_set_ne true (Ne.symm e)] at h1
            have h2 := hlall k (by omega)
            rw [getD_both h1] at h2
            cases h2
      cases fuel with
      | zero => exact ⟨hdn, hq⟩
      | succ f => exact ⟨fun _ => hq, fun k hk => by rw [hdn] at hk; cases hk⟩

theorem region_all {id : Nat} {a : Act} {w : World} (A : (Nat → Value) → Act) (s : Nat → Nat) (Inv : (Nat → Bool) → (Nat → Value) → World → Prop) (n : Nat) (u0 : Nat → Value) (ha : a = A u0)
    (hm : P.follows .mixedOrders = true) (hd : nodef ops = true) (hz : ops.size = n + 1) (hE : LastOf ops n) (hup : upA ops = true) (hS : Inv (fun _ => false) u0 w.drew)
    (hput : ∀ i, i < n → ∀ u v, (A u).put (some (s i)) v = A (upd u (s i) v))
    (step : ∀ i, i < n → ∀ L u w, L i = false → (∀ j, Region.waitsFor .any ops i j = true → L j = true) → Inv L u w → ∃ o, ops[i]? = some o ∧ ∀ K' : Act → World → Prop, Shut (∀ v w', Inv (come L i) (upd u (s i) v) w' → K' ((A u).put (some (s i)) v) w') → if Region.wanted o (yielded ops (A u).tmps) = true then Oper.wp P o (A u) w K' Q else K' ((A u).put o.dst undef) w)
    (last : ∀ L u w, (∀ j, j < n → L j = true) → Inv L u w → ∃ o, ops[n]? = some o ∧ ∀ K' : Act → World → Prop, Shut (∀ a w, Q .normal a w → K' a w) → if Region.wanted o (yielded ops (A u).tmps) = true then Oper.wp P o (A u) w K' Q else K' ((A u).put o.dst undef) w) :
    (Code.region id ops true).wpIn (Fence.wide.inRound l) m P Q a w := by
  subst ha
  refine wpIn_region_any hm ?_
  rw [hz]
  have he : (fun j => (Array.replicate (n + 1) false).getD j false) = fun _ => false := by funext j; exact getD_replicate_false _ _
  refine any_all hd hz hE hup hput step last _ _ _ _ ?_ ⟨by simp [hz], fun j oj _ hl => (by rw [getD_replicate_false] at hl; cases hl), fun t _ ht => getD_in (by simp; omega) (getD_replicate_false _ _)⟩ (by rw [he]; exact hS)
  simp [falses_replicate]
end Go.Proofs.YtbahjpheaaiamaaDoor.drawnIn

/- A region that draws its order, in a round of a range over a function, whose operations but the last make new memory alone (as DrawnBelowIn, of no two operations); of no program; conditions: no operation defers. -/
namespace Go.Proofs.YtbahjpheaaiamaaDoor.drawnCalmIn
open Go Go.RowKit heldStore drawn drawnIn
set_option linter.unusedVariables false

variable {P : Program} {ops : Array Oper} {Q : Exit → Act → World → Prop} {l m : Nat}
theorem region_calmIn {id : Nat} {a : Act} {w : World} (A : (Nat → Value) → Act) (s : Nat → Nat) (φ : Nat → Value → World → Prop) (W : World) (n : Nat) (u0 : Nat → Value) (ha : a = A u0)
    (hm : P.follows .mixedOrders = true) (hz : ops.size = n + 1) (hE : LastOf ops n) (hup : upB ops = true) (hW : Below W.heap.size W w)
    (hput : ∀ i, i < n → ∀ u v, (A u).put (some (s i)) v = A (upd u (s i) v)) (hinj : ∀ i j, i < n → j < n → s i = s j → i = j)
    (stable : ∀ i v w w', Below w.heap.size w w' → φ i v w → φ i v w')
    (step : ∀ i, i < n → ∀ u w, Below W.heap.size W w → (∀ j, Region.waitsFor .any ops i j = true → φ j (u (s j)) w) → ∃ o, ops[i]? = some o ∧ ∀ K' : Act → World → Prop, Shut (∀ v w', Below w.heap.size w w' → φ i v w' → K' ((A u).put (some (s i)) v) w') → if Region.wanted o (yielded ops (A u).tmps) = true then Oper.wp P o (A u) w K' Q else K' ((A u).put o.dst undef) w)
    (last : ∀ u w, Below W.heap.size W w → (∀ j, j < n → φ j (u (s j)) w) → ∃ o, ops[n]? = some o ∧ ∀ K' : Act → World → Prop, Shut (∀ a w, Q .normal a w → K' a w) → if Region.wanted o (yielded ops (A u).tmps) = true then Oper.wp P o (A u) w K' Q else K' ((A u).put o.dst undef) w)
    (hd : nodef ops = true := by kernel_rfl) (hua : upA ops = true := by kernel_rfl) :
    (Code.region id ops true).wpIn (Fence.wide.inRound l) m P Q a w := by
  refine region_all A s (fun L u w8 => Below W.heap.size W w8 ∧ ∀ j, j < n → L j = true → φ j (u (s j)) w8) n u0 ha hm hd hz hE hua ⟨hW.drew, fun j _ h => (by cases h)⟩ hput ?_ ?_
  · rintro i hi L u w8 hL hdep ⟨hb, hφ⟩
    obtain ⟨o, ho, h⟩ := step i hi u w8 hb (fun j hj => hφ j (by
      obtain ⟨oj, hoj, e, he, _, hon⟩ := Region.waitsFor_spec hj
      have := upB_spec hup hoj e he
      omega) (hdep j hj))
    refine ⟨o, ho, fun K' hK => h K' fun v w' hb' hv => hK.out v w' ⟨hb.trans (hb'.mono hb.size), fun j hj hL' => ?_⟩⟩
    by_cases e1 : j = i
    · subst e1
      rw [upd_same]
      exact hv
    · rw [upd_ne _ _ (fun e' => e1 (hinj j i hj hi e'))]
      unfold come at hL'
      rw [if_neg e1] at hL'
      exact stable j _ _ _ hb' (hφ j hj hL')
  · rintro L u w8 hall ⟨hb, hφ⟩
    obtain ⟨o, ho, h⟩ := last u w8 hb (fun j hj => hφ j hj (hall j hj))
    exact ⟨o, ho, fun K' hK => h K' hK⟩
end Go.Proofs.YtbahjpheaaiamaaDoor.drawnCalmIn
