/- DrawnLin; StepAppend; DrawnApp: one text, so that the claim has fewer files. -/
import Derived.Test.YtbahjpheaaiamaaDoorPart9
import Derived.Maps.AppendAt
import Derived.Maps.Own
/- A region that draws its order and whose values are each used once: one proof an operation, each may write the memory of the values that it uses; the last but one may write old memory (an append), the last one is an assignment; of no program; conditions: none. -/
namespace Go.Proofs.YtbahjpheaaiamaaDoor.drawnLin
open Go heldStore drawn

variable {P : Program} {ops : Array Oper} {Q : Exit → Act → World → Prop}
variable {A : (Nat → Value) → Act} {s : Nat → Nat} {Inv : (Nat → Bool) → (Nat → Value) → World → Prop} {n : Nat}
def come (L : Nat → Bool) (i : Nat) : Nat → Bool := fun j => if j = i then true else L j
theorem come_same (L : Nat → Bool) (i : Nat) : come L i i = true := if_pos rfl
theorem come_old {L : Nat → Bool} {i j : Nat} (h : L j = true) : come L i j = true := by
  unfold come; split <;> first | rfl | exact h
theorem come_ne {L : Nat → Bool} {i j : Nat} (e : j ≠ i) : come L i j = L j := if_neg e

theorem any_all (hz : ops.size = n + 1) (hE : LastOf ops n) (hup : upB ops = true)
    (hput : ∀ i, i < n → ∀ u v, (A u).put (some (s i)) v = A (upd u (s i) v))
    (step : ∀ i, i < n → ∀ L u w, L i = false → (∀ j, Region.waitsFor .any ops i j = true → L j = true) → Inv L u w → ∃ o, ops[i]? = some o ∧ ∀ K' : Act → World → Prop, Shut (∀ v w', Inv (come L i) (upd u (s i) v) w' → K' ((A u).put (some (s i)) v) w') → if Region.wanted o (yielded ops (A u).tmps) = true then Oper.wp P o (A u) w K' Q else K' ((A u).put o.dst undef) w)
    (last : ∀ L u w, (∀ j, j < n → L j = true) → Inv L u w → ∃ o, ops[n]? = some o ∧ ∀ K' : Act → World → Prop, Shut (∀ a w, Q .normal a w → K' a w) → if Region.wanted o (yielded ops (A u).tmps) = true then Oper.wp P o (A u) w K' Q else K' ((A u).put o.dst undef) w) :
    ∀ (fuel : Nat) (listed : Array Bool) (u : Nat → Value) (w : World), falses listed.toList ≤ fuel → HeadInv .any ops n listed → Inv (fun j => listed.getD j false) u w →
      wpAny P .any ops Q fuel listed (A u) w := by
  intro fuel
  induction fuel with
  | zero =>
    intro listed u w hf inv _
    have := falses_pos _ _ (at_false (inv.tail n (Nat.le_refl _) (by omega)))
    omega
  | succ fuel ih =>
    intro listed u w hf inv hI
    have hn := inv.tail n (Nat.le_refl _) (by omega)
    refine ⟨fun h => absurd h (ready_ne hup inv.size n hn), fun i hi => ?_⟩
    have hi' := mem_ready.1 hi
    obtain ⟨hun, oi, hoi, hall⟩ := hi'
    have hisz : i < n + 1 := by rw [← hz]; exact (Array.getElem?_eq_some_iff.1 hoi).1
    by_cases hin : i < n
    · obtain ⟨o, ho, h⟩ := step i hin (fun j => listed.getD j false) u w (getD_both hun) (fun j hj => by
        obtain ⟨oj, hoj, e, he, hb, hon⟩ := Region.waitsFor_spec hj
        have e1 : oj = oi := Option.some.inj (hoj.symm.trans hoi)
        subst e1
        have h1 := hall e he hb
        rw [hon] at h1
        exact h1) hI
      refine wpOp_step ho fun K' hK => h K' fun v w' hI' => hK _ _ ?_
      rw [hput i hin]
      refine ih _ _ _ ?_ (inv.set hi hin) ?_
      · have := falses_set _ _ (at_false hun)
        simp only [Array.toList_setIfInBounds]
        omega
      · have : (fun j => (listed.setIfInBounds i true).getD j false) = come (fun j => listed.getD j false) i := by
          funext j
          unfold come
          by_cases e : j = i
          · subst e
            rw [if_pos rfl]
            have : j < listed.size := by rw [inv.size, hz]; omega
            simp [this]
          · rw [if_neg e, getD_set_ne false (Ne.symm e)]
        rw [this]
        exact hI'
    · have e : i = n := by omega
      subst e
      have hlall : ∀ j, j < i → listed.getD j false = true := by
        intro j hj
        cases hb : listed.getD j false with
        | true => rfl
        | false => exact absurd hi (tail_waits hE.sink hE.chain hE.lt inv _ j rfl hj (getD_in (by rw [inv.size]; omega) hb) i (Nat.le_refl _))
      obtain ⟨o, ho, h⟩ := last _ u w hlall hI
      refine wpOp_step ho fun K' hK => h K' fun a' w' hq => hK _ _ ?_
      have hd : Region.ready .any ops (listed.setIfInBounds i true) = [] := by
        cases hr : Region.ready .any ops (listed.setIfInBounds i true) with
        | nil => rfl
        | cons k l =>
          have hk : k ∈ Region.ready .any ops (listed.setIfInBounds i true) := by rw [hr]; exact List.mem_cons_self
          obtain ⟨h1, ok, hok, _⟩ := mem_ready.1 hk
          have hklt : k < i + 1 := by rw [← hz]; exact (Array.getElem?_eq_some_iff.1 hok).1
          by_cases e : k = i
          · subst e
            have : k < listed.size := by rw [inv.size]; omega
            simp [this] at h1
          · rw [getD_set_ne true (Ne.symm e)] at h1
            have h2 := hlall k (by omega)
            rw [getD_both h1] at h2
            cases h2
      cases fuel with
      | zero => exact ⟨hd, hq⟩
      | succ f => exact ⟨fun _ => hq, fun k hk => by rw [hd] at hk; cases hk⟩
theorem region_all {id : Nat} {a : Act} {w : World} (A : (Nat → Value) → Act) (s : Nat → Nat) (Inv : (Nat → Bool) → (Nat → Value) → World → Prop) (n : Nat) (u0 : Nat → Value) (ha : a = A u0)
    (hm : P.follows .mixedOrders = true) (hz : ops.size = n + 1) (hE : LastOf ops n) (hup : upB ops = true) (hS : Inv (fun _ => false) u0 w.drew)
    (hput : ∀ i, i < n → ∀ u v, (A u).put (some (s i)) v = A (upd u (s i) v))
    (step : ∀ i, i < n → ∀ L u w, L i = false → (∀ j, Region.waitsFor .any ops i j = true → L j = true) → Inv L u w → ∃ o, ops[i]? = some o ∧ ∀ K' : Act → World → Prop, Shut (∀ v w', Inv (come L i) (upd u (s i) v) w' → K' ((A u).put (some (s i)) v) w') → if Region.wanted o (yielded ops (A u).tmps) = true then Oper.wp P o (A u) w K' Q else K' ((A u).put o.dst undef) w)
    (last : ∀ L u w, (∀ j, j < n → L j = true) → Inv L u w → ∃ o, ops[n]? = some o ∧ ∀ K' : Act → World → Prop, Shut (∀ a w, Q .normal a w → K' a w) → if Region.wanted o (yielded ops (A u).tmps) = true then Oper.wp P o (A u) w K' Q else K' ((A u).put o.dst undef) w) :
    (Code.region id ops true).wp P Q a w := by
  subst ha
  refine wp_region_any hm ?_
  rw [hz]
  refine any_all hz hE hup hput step last _ _ _ _ ?_ ⟨by simp [hz], fun j oj _ hl => (by rw [getD_replicate_false] at hl; cases hl), fun t _ ht => getD_in (by simp; omega) (getD_replicate_false _ _)⟩ ?_
  · simp [falses_replicate]
  · have : (fun j => (Array.replicate (n + 1) false).getD j false) = fun _ => false := by funext j; exact getD_replicate_false _ _
    rw [this]
    exact hS

/-- Each of the first n operations is awaited by a later one, up to the n-th. -/
def chainB (ops : Array Oper) (nx : List Nat) (n : Nat) : Bool := (List.range n).all fun j => decide (j < nx.getD j 0) && decide (nx.getD j 0 ≤ n) && Region.waitsFor .any ops (nx.getD j 0) j
theorem chain_all {nx : List Nat} (h : chainB ops nx n = true) {L : Nat → Bool} (hc : ∀ j k, L j = true → Region.waitsFor .any ops j k = true → L k = true) (hn : L n = true) : ∀ d j, n - j ≤ d → j < n → L j = true := by
  intro d
  induction d with
  | zero => intro j h1 h2; omega
  | succ d ih =>
    intro j h1 h2
    have h3 := List.all_eq_true.1 h j (List.mem_range.2 h2)
    simp only [Bool.and_eq_true, decide_eq_true_eq] at h3
    obtain ⟨⟨h4, h5⟩, h6⟩ := h3
    refine hc _ _ ?_ h6
    by_cases e : nx.getD j 0 = n
    · rw [e]; exact hn
    · exact ih _ (by omega) (by omega)
open Go.RowKit in
/-- Only blocks of X, and new ones, have changed. -/
structure Chg (X : Nat → Prop) (w w' : World) : Prop where
  os : w'.os = w.os
  tape : w'.tape = w.tape
  output : w'.output = w.output
  size : w.heap.size ≤ w'.heap.size
  block : ∀ k, k < w.heap.size → ¬ X k → w'.heap[k]? = w.heap[k]?
theorem Chg.refl (X : Nat → Prop) (w : World) : Chg X w w := ⟨rfl, rfl, rfl, Nat.le_refl _, fun _ _ _ => rfl⟩
open Go.RowKit in
theorem Chg.of_below {X : Nat → Prop} {w w' : World} (h : Below w.heap.size w w') : Chg X w w' := ⟨h.os, h.tape, h.output, h.size, fun k hk _ => h.block k hk⟩
theorem Chg.of_grown {X : Nat → Prop} {w w' : World} {row : Option Nat} (h : w.grownBy w' row) (hX : ∀ k, row = some k → X k) : Chg X w w' := ⟨h.os, h.tape, h.output, h.size, fun k hk hn => h.block k hk (fun e => hn (hX k e.symm))⟩
end Go.Proofs.YtbahjpheaaiamaaDoor.drawnLin

/- An append that a drawn region does: where the grown row lies; of no program; conditions: none. -/
namespace Go.Proofs.YtbahjpheaaiamaaDoor.stepAppend
open Go heldStore

theorem step_append_at {P : Program} (w : World) {ops : Array Oper} {o : Oper} {a : Act} {K : Act → World → Prop} {Q : Exit → Act → World → Prop} {E : Prop} (hgd : o.guard = none) (s x : Operand) (t : TypeId)
    (ho : o.op = .call { callee := .builtin .append, args := #[s, x], argTypes := #[t, t] }) (dd : Option Tmp) (hd : o.dst = dd)
    (base : Nat) (e : TypeId) (i : TypeInfo) (z : Value) (size bytes : Nat) (ht : P.underlying t = some (.slice e)) (hi : P.info? e = some i) (hz : i.zero = some z)
    (hsize : i.size = size) (hby : i.bytes = bytes) (hzs : z.cells.size = size) (hsz : 0 < size)
    (v : Value) (n : Nat) (xs : List Value) (hs : a.eval s = v) (hown : w.ownsRow base e size v n xs)
    (ad : Addr) (m c : Nat) (news : List Value) (hx : a.eval x = .slice (some ad) m c) (hl : news.length = m * size) (hnews : ∀ j u, news[j]? = some u → w.cell? (ad.add j) = some u) (h1 : ∀ u ∈ news, u.oneCell' = true)
    (h63 : n + m ≤ maxLen) (hbytes : (n + m) * bytes ≤ 140737488355328) (hbase : base ≤ w.heap.size)
    (h : ∀ v' w', w'.ownsRow base e size v' (n + m) (xs ++ news) → w.grownBy w' v.ownBlock → (v'.ownBlock = v.ownBlock ∨ v'.ownBlock = some w.heap.size) → K (a.put dd v') w') :
    if Region.wanted o (yielded ops a.tmps) = true then Oper.wp P o a w K Q else E := by
  subst hd
  have hw : Region.wanted o (yielded ops a.tmps) = true := by simp [Region.wanted, hgd]
  rw [if_pos hw]
  obtain ⟨v', w', hr, h2, h3, h4, h5⟩ := run_append_own_at (P := P) w base t o.type e i z size bytes ht hi hz hsize hby hzs hsz v n xs hown ad m c news hl hnews h1 h63 hbytes hbase
  have := h v' w' h2 h3 h5
  unfold Oper.wp execOp
  simp only [ho, resolve, invoke, builtin, Sem.run_bind, Sem.run_pure, Result.andThen_ok, List.map_toArray, List.map_cons, List.map_nil, hs, hx, hr]
  exact this
end Go.Proofs.YtbahjpheaaiamaaDoor.stepAppend

/- A region that draws its order, of which one operation (an append) may write one old row, and the last one what it likes: one proof an operation; of no program; conditions: none. -/
namespace Go.Proofs.YtbahjpheaaiamaaDoor.drawnApp
open Go Go.RowKit heldStore drawn drawnLin
set_option linter.unusedVariables false

variable {P : Program} {ops : Array Oper} {Q : Exit → Act → World → Prop}
theorem grown_refl (w : World) (row : Option Nat) : w.grownBy w row := ⟨rfl, rfl, rfl, Nat.le_refl _, fun _ _ _ => rfl⟩
theorem grown_below {w w1 : World} {row : Option Nat} (h : Below w.heap.size w w1) : w.grownBy w1 row := ⟨h.os, h.tape, h.output, h.size, fun k hk _ => h.block k hk⟩
theorem region_app {id : Nat} {a : Act} {w : World} (A : (Nat → Value) → Act) (s : Nat → Nat) (φ : Nat → Value → World → Prop) (W : World) (row : Option Nat) (ia n : Nat) (u0 : Nat → Value) (ha : a = A u0)
    (hm : P.follows .mixedOrders = true) (hz : ops.size = n + 1) (hE : LastOf ops n) (hup : upB ops = true) (hW : Below W.heap.size W w)
    (hput : ∀ i, i < n → ∀ u v, (A u).put (some (s i)) v = A (upd u (s i) v)) (hinj : ∀ i j, i < n → j < n → s i = s j → i = j)
    (stB : ∀ i v w1 w2, Below w1.heap.size w1 w2 → φ i v w1 → φ i v w2)
    (stA : ∀ i v w1 w2, i ≠ ia → Below W.heap.size W w1 → w1.grownBy w2 row → φ i v w1 → φ i v w2)
    (step : ∀ i, i < n → ∀ u w1, W.grownBy w1 row → (i = ia → Below W.heap.size W w1) → (∀ j, Region.waitsFor .any ops i j = true → φ j (u (s j)) w1) → ∃ o, ops[i]? = some o ∧ ∀ K' : Act → World → Prop, Shut (∀ v w', w1.grownBy w' row → (i ≠ ia → Below w1.heap.size w1 w') → φ i v w' → K' ((A u).put (some (s i)) v) w') → if Region.wanted o (yielded ops (A u).tmps) = true then Oper.wp P o (A u) w1 K' Q else K' ((A u).put o.dst undef) w1)
    (last : ∀ u w1, W.grownBy w1 row → (∀ j, j < n → φ j (u (s j)) w1) → ∃ o, ops[n]? = some o ∧ ∀ K' : Act → World → Prop, Shut (∀ a w, Q .normal a w → K' a w) → if Region.wanted o (yielded ops (A u).tmps) = true then Oper.wp P o (A u) w1 K' Q else K' ((A u).put o.dst undef) w1) :
    (Code.region id ops true).wp P Q a w := by
  have lt : ∀ i j, Region.waitsFor .any ops i j = true → j < i := fun i j hj => by
    obtain ⟨oj, hoj, e, he, hb, hon⟩ := Region.waitsFor_spec hj
    have h5 := upB_spec hup hoj e he
    rw [hon] at h5
    exact h5
  refine region_all A s (fun L u w8 => W.grownBy w8 row ∧ (L ia = false → Below W.heap.size W w8) ∧ ∀ j, j < n → L j = true → φ j (u (s j)) w8) n u0 ha hm hz hE hup ⟨grown_below (hW.drew), fun _ => hW.drew, fun j _ h => (by cases h)⟩ hput ?_ ?_
  · intro i hi L u w8 hLi hwt hI
    obtain ⟨h1, h2, h3⟩ := hI
    obtain ⟨o, ho, h⟩ := step i hi u w8 h1 (fun e => h2 (by rw [← e]; exact hLi)) (fun j hj => h3 j (by have := lt i j hj; omega) (hwt j hj))
    refine ⟨o, ho, fun K' hK => h K' fun v w' hg hb hv => hK.out v w' ⟨h1.trans hg, fun hl => ?_, fun j hj hl => ?_⟩⟩
    · by_cases e : ia = i
      · rw [e, come_same] at hl; cases hl
      · rw [come_ne e] at hl
        exact (h2 hl).trans ((hb (fun e' => e e'.symm)).mono h1.size)
    · by_cases e : j = i
      · subst e; rw [upd_same]; exact hv
      · rw [come_ne e] at hl
        rw [upd_ne _ _ (fun e' => e (hinj j i hj hi e'))]
        by_cases ei : i = ia
        · exact stA j _ _ _ (fun e' => e (e'.trans ei.symm)) (h2 (by rw [← ei]; exact hLi)) hg (h3 j hj hl)
        · exact stB j _ _ _ (hb ei) (h3 j hj hl)
  · intro L u w8 hall hI
    exact last u w8 hI.1 (fun j hj => hI.2.2 j hj (hall j hj))
theorem step_look (w : World) {o : Oper} {a : Act} {K : Act → World → Prop} {E : Prop} (hgd : o.guard = none) (m x : Operand) (t : TypeId) (hop : o.op = Op.lookup t m x false) (dd : Option Tmp) (hd : o.dst = dd) (mv kv v : Value) (hm : a.eval m = mv) (hx : a.eval x = kv) (hr : (Instr.lookup t mv kv false).run P w = .ok v w) (h : K (a.put dd v) w) :
    if Region.wanted o (yielded ops a.tmps) = true then Oper.wp P o a w K Q else E := by
  subst hd
  have hw : Region.wanted o (yielded ops a.tmps) = true := by simp [Region.wanted, hgd]
  rw [if_pos hw]
  unfold Oper.wp
  simp [execOp, hop, hm, hx, hr, Result.andThen]
  exact h
theorem step_put (w w' : World) {o : Oper} {a : Act} {K : Act → World → Prop} {E : Prop} (hgd : o.guard = none) (m x y : Operand) (t : TypeId) (hop : o.op = Op.mapUpdate t m x y) (dd : Option Tmp) (hd : o.dst = dd) (mv kv v : Value) (hm : a.eval m = mv) (hx : a.eval x = kv) (hy : a.eval y = v) (hr : (Instr.mapUpdate t mv kv v).run P w = .ok () w') (h : K (a.put dd undef) w') :
    if Region.wanted o (yielded ops a.tmps) = true then Oper.wp P o a w K Q else E := by
  subst hd
  have hw : Region.wanted o (yielded ops a.tmps) = true := by simp [Region.wanted, hgd]
  rw [if_pos hw]
  unfold Oper.wp
  simp [execOp, hop, hm, hx, hy, hr, Result.andThen]
  exact h
end Go.Proofs.YtbahjpheaaiamaaDoor.drawnApp
