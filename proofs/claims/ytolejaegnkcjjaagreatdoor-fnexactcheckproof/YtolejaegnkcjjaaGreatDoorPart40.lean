/- BackSet; DrawnIn: one text, so that the claim has fewer files. -/
import Derived.RangeFuncNested
import Derived.RangeFuncBound
import Derived.RangeFuncCalls
import Derived.RangeFuncLeaves
import Derived.Shelf.Abstract
import Derived.Shelf.RegionOpen
import Derived.WalkKit
import Derived.OwnWalkIn
import Derived.TacticsInMore
import Derived.LoopNIn
import Derived.LoopIn
import Derived.Test.YtolejaegnkcjjaaGreatDoorPart1
import Derived.Test.YtolejaegnkcjjaaGreatDoorPart24
import Derived.Test.YtolejaegnkcjjaaGreatDoorDrawn
import Derived.OrdersIn
import Derived.ControlIn
/- slices.Backward of rows of two-cell elements (sets of literals): an iterator that hands a row's elements out from the last to the first; conditions: the loop's body leaves the row as it is. -/
namespace Go.Proofs.YtolejaegnkcjjaaGreatDoor.backSet
open Go.RowKit Go.Deep Go.Shelf Go base rangeAt rangeTwo rangeNo
set_option linter.unusedVariables false
attribute [local go_sem] Oper.semAt_some

/-- A row of two-cell elements. -/
structure Row2 (W : World) (a : Option Addr) (len : Nat) (zs : List (Nat × Nat)) : Prop where
  length : zs.length = len
  most : len ≤ maxLen
  cell : ∀ i, i < len → ∃ b off, a = some ⟨b, off, none⟩ ∧ W.cell? ⟨b, off + i * 2, none⟩ = some (.int .u64 (zs[i]?.getD (0, 0)).1) ∧ W.cell? ⟨b, off + i * 2 + 1, none⟩ = some (.int .u64 (zs[i]?.getD (0, 0)).2)
theorem Row2.below {W W' : World} {a : Option Addr} {len : Nat} {zs : List (Nat × Nat)} (h : Row2 W a len zs) (hb : Below W.heap.size W W') : Row2 W' a len zs := ⟨h.length, h.most, fun i hi => by
  obtain ⟨b, off, e, h1, h2⟩ := h.cell i hi
  exact ⟨b, off, e, keep hb h1, keep hb h2⟩⟩
theorem Row2.same {W W' : World} {a : Option Addr} {len : Nat} {zs : List (Nat × Nat)} (h : Row2 W a len zs) (hb : ∀ b off, a = some ⟨b, off, none⟩ → W'.heap[b]? = W.heap[b]?) : Row2 W' a len zs := ⟨h.length, h.most, fun i hi => by
  obtain ⟨b, off, e, h1, h2⟩ := h.cell i hi
  exact ⟨b, off, e, (World.cell?_of_block (a := ⟨b, off + i * 2, none⟩) (hb b off e)).trans h1, (World.cell?_of_block (a := ⟨b, off + i * 2 + 1, none⟩) (hb b off e)).trans h2⟩⟩
/-- What has come when k rounds are over. -/
def upto {α : Type} (f : Nat → α) (k : Nat) : List α := (List.range k).map f
theorem upto_succ {α : Type} (f : Nat → α) (k : Nat) : upto f (k + 1) = upto f k ++ [f k] := by simp [upto, List.range_succ]
theorem upto_length {α : Type} (f : Nat → α) (k : Nat) : (upto f k).length = k := by simp [upto]
/-- What an iterator reads: the box of the slice, and the row. -/
def Held (Bs : Nat) (a : Option Addr) (len cap : Nat) (zs : List (Nat × Nat)) (W : World) : Prop := W.cell? ⟨Bs, 0, none⟩ = some (.slice a len cap) ∧ Row2 W a len zs

set_option maxRecDepth 100000 in
set_option maxHeartbeats 2000000 in
theorem back_no {α : Type} (encs : α → Array Value) (f : Nat → α) (Bs len cap : Nat) (a : Option Addr) (zs : List (Nat × Nat)) (he : ∀ k : Nat, k < len → encs (f k) = #[.int .i64 ((len : Int) - 1 - k), .agg #[.int .u64 (zs[len - 1 - k]?.getD (0, 0)).1, .int .u64 (zs[len - 1 - k]?.getD (0, 0)).2]]) :
    SeqNo Tryz.prog 95 #[.pointer (some ⟨Bs, 0, none⟩)] encs (fun pre x => ∃ k, k < len ∧ pre = upto f k ∧ x = f k) (fun A B => Held Bs a len cap zs A → Held Bs a len cap zs B) (fun xs => xs = upto f len) (Held Bs a len cap zs) := by
  intro l J Jx W hG hY h0
  have hmost := hG.2.most
  unfold maxLen at hmost
  have HG := hid hG
  have hBs := hG.1
  have HE := hid he
  clear hG he
  refine callsIn_of_wp Tryz.func95 rfl trivial ?_ rfl
  simp only [Tryz.ntmps95, List.size_toArray, List.length_cons, List.length_nil, Nat.reduceAdd, Nat.reduceSub, Array.replicate_succ, Array.replicate_zero, List.push_toArray, List.append_toArray, List.nil_append, List.cons_append]
  gi_wp2
  clear hBs
  gi_loopw [3] (fun i wr => ∃ k : Nat, k ≤ len ∧ i = .int .i64 ((len : Int) - 1 - k) ∧ J (upto f k) wr ∧ Held Bs a len cap zs wr)
    (fun i _ => ((intOf i) + 1).toNat)
  case atStart => exact ⟨0, Nat.zero_le _, by simp, h0, HG.out⟩
  case round =>
    obtain ⟨k, hk, rfl, hJs, hc, hr⟩ := hrel
    have HR := hid hr
    have HC := hid hc
    clear hr
    by_cases hlt : k < len
    · obtain ⟨fn, tmps, assign, body, hy, hR⟩ := yield_any (m' := 8) (hY _ (f k) wr hJs ⟨k, hlt, rfl, rfl⟩)
      rw [HE.out k hlt] at hy
      obtain ⟨b, off, ha, hcx, hcy⟩ := HR.out.cell (len - 1 - k) (by omega)
      obtain ⟨t, ht⟩ : ∃ t : Nat, (len : Int) - 1 - k = (t : Int) := ⟨len - 1 - k, by omega⟩
      have ht2 : len - 1 - k = t := by omega
      rw [ht2] at hy hcx hcy
      rw [ht] at hy ⊢
      have HT := hid ht
      have htl : (t : Int) < (len : Int) := by omega
      have hg0 : decide ((0 : Int) ≤ (t : Int)) = true := decide_eq_true (by omega)
      clear ht ht2
      subst ha
      gi_wp2
      refine hR.mono ?_
      rintro e W3 (⟨rfl, hJ3, hk3⟩ | ⟨rfl, hJx3⟩)
      · have HG3 := hid (hk3 ⟨HC.out, HR.out⟩)
        gi_wp2
        go_roundw
        case rel => exact ⟨k + 1, by omega, by rw [show (len : Int) - 1 - (k + 1 : Nat) = (t : Int) - 1 by have := HT.out; omega], by rw [upto_succ]; exact hJ3, HG3.out⟩
        case measure => simp [intOf]
      · gi_wp2
        refine bodyPost_ret (results_none rfl _ _ _) rfl ?_
        exact ⟨⟨_, rfl⟩, .inr hJx3⟩
    · obtain rfl : k = len := by omega
      have hg0 : decide ((0 : Int) ≤ (k : Int) - 1 - k) = false := decide_eq_false (by omega)
      rw [show (k : Int) - 1 - k = -1 by omega]
      gi_wp2
      go_end0
      exact ⟨⟨_, rfl⟩, .inl ⟨_, rfl, hJs⟩⟩

theorem back_two {α : Type} (encs : α → Array Value) (f : Nat → α) (Bs len cap : Nat) (a : Option Addr) (zs : List (Nat × Nat)) (he : ∀ k : Nat, k < len → encs (f k) = #[.int .i64 ((len : Int) - 1 - k), .agg #[.int .u64 (zs[len - 1 - k]?.getD (0, 0)).1, .int .u64 (zs[len - 1 - k]?.getD (0, 0)).2]]) :
    SeqTwo Tryz.prog 95 #[.pointer (some ⟨Bs, 0, none⟩)] encs (fun pre x _ => ∃ k, k < len ∧ pre = upto f k ∧ x = f k) (fun _ A B => Held Bs a len cap zs A → Held Bs a len cap zs B) (fun _ => False) (fun xs => xs = upto f len) (Held Bs a len cap zs) (fun _ => True) :=
  fun l J Jx W hG _ _ hY h0 => (back_no encs f Bs len cap a zs he l J Jx W hG (fun pre x W1 h1 h2 => by
    obtain ⟨f1, t1, a1, b1, h3, h4⟩ := hY pre x W1 h1 h2
    exact ⟨f1, t1, a1, b1, h3, h4.mono fun e W' h5 => h5.elim .inl (fun h6 => .inr ⟨h6.1, h6.2.1⟩)⟩) h0).mono fun e W' h => ⟨h.1, h.2.elim (fun ⟨xs, h1, h2⟩ => .inl ⟨xs, h1, h2, trivial⟩) .inr⟩
theorem back_impl (a : Option Addr) (len cap : Nat) (w : World) :
    Calls Tryz.prog 74 #[.slice a len cap] w fun e w' => e = .returned (.func (.func 95) #[] #[.pointer (some ⟨w.heap.size, 0, none⟩)]) ∧ w' = w.alloc (.cells #[.slice a len cap] 69) := by
  go_enter Tryz.func74, Tryz.ntmps74
  go_wp2
  go_ret
  exact ⟨rfl, rfl⟩
end Go.Proofs.YtolejaegnkcjjaaGreatDoor.backSet

/- A region that draws its order, in a round of a range over a function: one proof an operation; what is told of the values and of the world may hang on which operations have come up; of no program; conditions: no operation defers. -/
namespace Go.Proofs.YtolejaegnkcjjaaGreatDoor.drawnIn
open Go heldStore drawn

variable {P : Program} {ops : Array Oper} {Q : Exit → Act → World → Prop} {l m : Nat}

theorem rows_in {row : String} {args : Array Value} {w : World} {R : Value → World → Prop} (h : Rows P row args w R) : RowsIn (Fence.wide.inRound l) m P row args w R :=
  fun c cs _ => let ⟨v, w', r, s⟩ := h c cs; ⟨v, w', r, stepsIn_wide.2 s⟩
theorem oper_in {o : Oper} {a : Act} {w : World} {K : Act → World → Prop} (hd : ∀ c, o.op ≠ .defer c) (h : o.wp P a w K Q) : o.wpIn (Fence.wide.inRound l) m P a w K Q := by
  refine ⟨fun _ _ => trivial, ?_⟩
  rw [Oper.semAt_eq _ _ _ hd]
  unfold Oper.wp at h
  generalize (execOp a.eval o).run P w = r at h ⊢
  cases r with
  | ok x w' =>
    cases x with
    | value v => exact h
    | skip => exact h
    | defer d => exact h
    | enter f args => exact ⟨fun e => (by cases e), CallsIn.inRound l (callsIn_wide.2 h)⟩
    | row r args => exact ⟨fun e => (by cases e), rows_in h⟩
    | _ => exact h.elim
  | halt x w' => cases x <;> exact h

def nodef (ops : Array Oper) : Bool := ops.all fun o => match o.op with | .defer _ => false | _ => true
theorem nodef_spec (h : nodef ops = true) {i : Nat} {o : Oper} (ho : ops[i]? = some o) : ∀ c, o.op ≠ .defer c := by
  obtain ⟨hi, e⟩ := Array.getElem?_eq_some_iff.1 ho
  have h1 := (Array.all_eq_true.1 h) i hi
  rw [e] at h1
  intro c hc
  rw [hc] at h1
  cases h1

/-- Operations wait for earlier ones alone, where they wait in whatever order. -/
def upA (ops : Array Oper) : Bool := (List.range ops.size).all fun i => ((ops[i]?).map (·.after.all fun e => decide (e.on < i) || !Region.binds .any e)).getD true
theorem upA_spec (h : upA ops = true) {i : Nat} {o : Oper} (ho : ops[i]? = some o) : ∀ e ∈ o.after, Region.binds .any e = true → e.on < i := by
  have hlt : i < ops.size := (Array.getElem?_eq_some_iff.1 ho).1
  have h1 := List.all_eq_true.1 h i (List.mem_range.2 hlt)
  rw [ho] at h1
  simp only [Option.map_some, Option.getD_some, Array.all_eq_true_iff_forall_mem] at h1
  intro e he hb
  have := h1 e he
  rw [hb] at this
  simpa using this
theorem ready_some (h : upA ops = true) {listed : Array Bool} (hs : listed.size = ops.size) : ∀ n, listed.getD n true = false → Region.ready .any ops listed ≠ [] := by
  intro n
  induction n using Nat.strongRecOn with
  | _ n ih =>
    intro hn he
    have hlt : n < ops.size := by
      rcases Nat.lt_or_ge n listed.size with h' | h'
      · omega
      · simp [Array.getElem?_eq_none h'] at hn
    by_cases hall : ∀ e ∈ (ops[n]).after, Region.binds .any e = true → listed.getD e.on false = true
    · have : n ∈ Region.ready .any ops listed := mem_ready.2 ⟨hn, ops[n], by simp [hlt], hall⟩
      rw [he] at this
      cases this
    · have hx : ∃ e ∈ (ops[n]).after, Region.binds .any e = true ∧ listed.getD e.on false = false := by
        apply Classical.byContradiction
        intro hno
        refine hall fun e he' hb' => ?_
        cases hb : listed.getD e.on false with
        | true => rfl
        | false => exact absurd ⟨e, he', hb', hb⟩ hno
      obtain ⟨e, he', hb', hb⟩ := hx
      have hlt' := upA_spec h (i := n) (o := ops[n]) (by simp [hlt]) e he' hb'
      exact ih e.on hlt' (getD_in (by omega) hb) he

variable {A : (Nat → Value) → Act} {s : Nat → Nat} {Inv : (Nat → Bool) → (Nat → Value) → World → Prop} {n : Nat}
def come (L : Nat → Bool) (i : Nat) : Nat → Bool := fun j => if j = i then true else L j

/-- The first m operations answer what is known. -/
def Known (m : Nat) (sl : Nat → Nat) (val : Nat → Value) (L : Nat → Bool) (u : Nat → Value) : Prop := ∀ j, j < m → L j = true → u (sl j) = val j
theorem Known.none (m : Nat) (sl : Nat → Nat) (val : Nat → Value) (u : Nat → Value) : Known m sl val (fun _ => false) u := fun _ _ h => (by cases h)
theorem Known.put {m : Nat} {sl : Nat → Nat} {val : Nat → Value} {L : Nat → Bool} {u : Nat → Value} (h : Known m sl val L u) (hinj : ∀ a b, a < m → b < m → sl a = sl b → a = b) {i : Nat} (hi : i < m) {v : Value} (hv : v = val i) : Known m sl val (come L i) (upd u (sl i) v) := fun j hj hL => by
  by_cases e : j = i
  · subst e; rw [upd_same, hv]
  · rw [upd_ne _ _ (fun e' => e (hinj j i hj hi e'))]
    unfold come at hL
    rw [if_neg e] at hL
    exact h j hj hL
theorem Known.other {m : Nat} {sl : Nat → Nat} {val : Nat → Value} {L : Nat → Bool} {u : Nat → Value} (h : Known m sl val L u) {i k : Nat} (hi : m ≤ i) (hk : ∀ j, j < m → sl j ≠ k) (v : Value) : Known m sl val (come L i) (upd u k v) := fun j hj hL => by
  rw [upd_ne _ _ (hk j hj)]
  unfold come at hL
  rw [if_neg (by omega)] at hL
  exact h j hj hL

theorem any_all (hd : nodef ops = true) (hz : ops.size = n + 1) (hE : LastOf ops n) (hup : upA ops = true)
    (hput : ∀ i, i < n → ∀ u v, (A u).put (some (s i)) v = A (upd u (s i) v))
    (step : ∀ i, i < n → ∀ L u w, L i = false → (∀ j, Region.waitsFor .any ops i j = true → L j = true) → Inv L u w → ∃ o, ops[i]? = some o ∧ ∀ K' : Act → World → Prop, Shut (∀ v w', Inv (come L i) (upd u (s i) v) w' → K' ((A u).put (some (s i)) v) w') → if Region.wanted o (yielded ops (A u).tmps) = true then Oper.wp P o (A u) w K' Q else K' ((A u).put o.dst undef) w)
    (last : ∀ L u w, (∀ j, j < n → L j = true) → Inv L u w → ∃ o, ops[n]? = some o ∧ ∀ K' : Act → World → Prop, Shut (∀ a w, Q .normal a w → K' a w) → if Region.wanted o (yielded ops (A u).tmps) = true then Oper.wp P o (A u) w K' Q else K' ((A u).put o.dst undef) w) :
    ∀ (fuel : Nat) (listed : Array Bool) (u : Nat → Value) (w : World), falses listed.toList ≤ fuel → HeadInv .any ops n listed → Inv (fun j => listed.getD j false) u w →
      wpAnyIn (Fence.wide.inRound l) m P .any ops Q fuel listed (A u) w := by
  intro fuel
  induction fuel with
  | zero =>
    intro listed u w hf inv _
    have := falses_pos _ _ (at_false (inv.tail n (Nat.le_refl _) (by omega)))
    omega
  | succ fuel ih =>
    intro listed u w hf inv hI
    have hn := inv.tail n (Nat.le_refl _) (by omega)
    refine ⟨fun h => absurd h (ready_some hup inv.size n hn), fun i hi => ?_⟩
    have hi' := mem_ready.1 hi
    obtain ⟨hun, oi, hoi, hall⟩ := hi'
    have hisz : i < n + 1 := by rw [← hz]; exact (Array.getElem?_eq_some_iff.1 hoi).1
    have go : ∀ {o : Oper} {K K' : Act → World → Prop}, ops[i]? = some o → (∀ a w, K' a w → K a w) → (if Region.wanted o (yielded ops (A u).tmps) = true then Oper.wp P o (A u) w K' Q else K' ((A u).put o.dst undef) w) → wpOpIn (Fence.wide.inRound l) m P ops Q i K (A u) w := by
      intro o K K' ho hK h
      unfold wpOpIn
      rw [ho]
      simp only
      split
      · next hw => rw [if_pos hw] at h; exact Oper.wpIn_mono hK (oper_in (nodef_spec hd ho) h)
      · next hw => rw [if_neg hw] at h; exact ⟨fun _ _ => trivial, hK _ _ h⟩
    by_cases hin : i < n
    · obtain ⟨o, ho, h⟩ := step i hin (fun j => listed.getD j false) u w (getD_both hun) (fun j hj => by
        obtain ⟨oj, hoj, e, he, hb, hon⟩ := Region.waitsFor_spec hj
        have e1 : oj = oi := Option.some.inj (hoj.symm.trans hoi)
        subst e1
        have h1 := hall e he hb
        rw [hon] at h1
        exact h1) hI
      refine go ho (K' := wpAnyIn (Fence.wide.inRound l) m P .any ops Q fuel (listed.setIfInBounds i true)) (fun _ _ h => h) (h _ fun v w' hI' => ?_)
      rw [hput i hin]
      refine ih _ _ _ ?_ (inv.set hi hin) ?_
      · have := falses_set _ _ (at_false hun)
        simp only [Array.toList_setIfInBounds]
        omega
      · have : (fun j => (listed.setIfInBounds i true).getD j false) = come (fun j => listed.getD j false) i := by
          funext j
          unfold come
          by_cases e : j = i
          · subst e
            rw [if_pos rfl]
            have : j < listed.size := by rw [inv.size, hz]; omega
            simp [this]
          · rw [if_neg e, getD_set_ne false (Ne.symm e)]
        rw [this]
        exact hI'
    · have e : i = n := by omega
      subst e
      have hlall : ∀ j, j < i → listed.getD j false = true := by
        intro j hj
        cases hb : listed.getD j false with
        | true => rfl
        | false => exact absurd hi (tail_waits hE.sink hE.chain hE.lt inv _ j rfl hj (getD_in (by rw [inv.size]; omega) hb) i (Nat.le_refl _))
      obtain ⟨o, ho, h⟩ := last _ u w hlall hI
      refine go ho (K' := wpAnyIn (Fence.wide.inRound l) m P .any ops Q fuel (listed.setIfInBounds i true)) (fun _ _ h => h) (h _ fun a' w' hq => ?_)
      have hdn : Region.ready .any ops (listed.setIfInBounds i true) = [] := by
        cases hr : Region.ready .any ops (listed.setIfInBounds i true) with
        | nil => rfl
        | cons k l =>
          have hk : k ∈ Region.ready .any ops (listed.setIfInBounds i true) := by rw [hr]; exact List.mem_cons_self
          obtain ⟨h1, ok, hok, _⟩ := mem_ready.1 hk
          have hklt : k < i + 1 := by rw [← hz]; exact (Array.getElem?_eq_some_iff.1 hok).1
          by_cases e : k = i
          · subst e
            have : k < listed.size := by rw [inv.size]; omega
            simp [this] at h1
          · rw [getD_set_ne true (Ne.symm e)] at h1
            have h2 := hlall k (by omega)
            rw [getD_both h1] at h2
            cases h2
      cases fuel with
      | zero => exact ⟨hdn, hq⟩
      | succ f => exact ⟨fun _ => hq, fun k hk => by rw [hdn] at hk; cases hk⟩

theorem region_all {id : Nat} {a : Act} {w : World} (A : (Nat → Value) → Act) (s : Nat → Nat) (Inv : (Nat → Bool) → (Nat → Value) → World → Prop) (n : Nat) (u0 : Nat → Value) (ha : a = A u0)
    (hm : P.follows .mixedOrders = true) (hd : nodef ops = true) (hz : ops.size = n + 1) (hE : LastOf ops n) (hup : upA ops = true) (hS : Inv (fun _ => false) u0 w.drew)
    (hput : ∀ i, i < n → ∀ u v, (A u).put (some (s i)) v = A (upd u (s i) v))
    (step : ∀ i, i < n → ∀ L u w, L i = false → (∀ j, Region.waitsFor .any ops i j = true → L j = true) → Inv L u w → ∃ o, ops[i]? = some o ∧ ∀ K' : Act → World → Prop, Shut (∀ v w', Inv (come L i) (upd u (s i) v) w' → K' ((A u).put (some (s i)) v) w') → if Region.wanted o (yielded ops (A u).tmps) = true then Oper.wp P o (A u) w K' Q else K' ((A u).put o.dst undef) w)
    (last : ∀ L u w, (∀ j, j < n → L j = true) → Inv L u w → ∃ o, ops[n]? = some o ∧ ∀ K' : Act → World → Prop, Shut (∀ a w, Q .normal a w → K' a w) → if Region.wanted o (yielded ops (A u).tmps) = true then Oper.wp P o (A u) w K' Q else K' ((A u).put o.dst undef) w) :
    (Code.region id ops true).wpIn (Fence.wide.inRound l) m P Q a w := by
  subst ha
  refine wpIn_region_any hm ?_
  rw [hz]
  have he : (fun j => (Array.replicate (n + 1) false).getD j false) = fun _ => false := by funext j; exact getD_replicate_false _ _
  refine any_all hd hz hE hup hput step last _ _ _ _ ?_ ⟨by simp [hz], fun j oj _ hl => (by rw [getD_replicate_false] at hl; cases hl), fun t _ ht => getD_in (by simp; omega) (getD_replicate_false _ _)⟩ (by rw [he]; exact hS)
  simp [falses_replicate]
end Go.Proofs.YtolejaegnkcjjaaGreatDoor.drawnIn
