/- Base; Args; HeldStore: one text, so that the claim has fewer files. -/
import Derived.Test.YtjdeoiohbbnmeaaRows
import Derived.WalkKit
import Derived.Below
import Derived.Deep.OwnRows
import Derived.Deep.QuietTactic
import Derived.BigQuiet
import Derived.Deep.RegionWith
import Derived.ProofKit
import Derived.OpenShut
import Derived.ShutString
import Derived.ChangeOld
import Derived.Lib.SmallJoins
import Derived.Deep.Slices
import Derived.StillTail
import Derived.Deep.RegionHeld3
/- What the contracts are stated in: rows of cells that read as lists, and how they are kept where only new memory is written; of no program; conditions: none. -/
namespace Go.Proofs.Ytjdeoiohbbnmeaa.base
open Go.RowKit Go.Deep

theorem ret_bool {a b : Bool} (h : a = b) : Ending.returned (.bool a) = .returned (.bool b) := by rw [h]
theorem ret_int {k : IntKind} {a b : Int} (h : a = b) : Ending.returned (.int k a) = .returned (.int k b) := by rw [h]

theorem hid {p : Prop} (h : p) : Hid p := h
theorem below_drewN (w : World) (n : Nat) : Below w.heap.size w (w.drewN n) := ⟨rfl, rfl, rfl, Nat.le_refl _, fun _ _ => rfl⟩
theorem bcell {W w1 : World} (hb : Below W.heap.size W w1) : (∀ b o, b < W.heap.size → w1.cell? ⟨b, o, none⟩ = W.cell? ⟨b, o, none⟩) ∧ (∀ b o, b < W.heap.size → w1.frozen? ⟨b, o, none⟩ = W.frozen? ⟨b, o, none⟩) :=
  ⟨fun b o h => hb.cell (p := ⟨b, o, none⟩) h, fun b o h => hb.frozen (p := ⟨b, o, none⟩) h⟩
theorem keep {W w1 : World} (hb : Below W.heap.size W w1) {b o : Nat} {v : Value} (h : W.cell? ⟨b, o, none⟩ = some v) : w1.cell? ⟨b, o, none⟩ = some v := by
  rw [hb.cell (p := ⟨b, o, none⟩) (World.block_lt_of_cell? _ _ h)]; exact h

/-- A slice reads as a list of integers: its length, and each of its cells. -/
structure IntRow (w : World) (a : Option Addr) (len : Nat) (zs : List Int) : Prop where
  length : zs.length = len
  most : len ≤ maxLen
  cell : ∀ i, i < len → ∃ b off, a = some ⟨b, off, none⟩ ∧ w.cell? ⟨b, off + i, none⟩ = some (.int .i64 (zs[i]?.getD 0))
theorem IntRow.below {W w1 : World} {a : Option Addr} {len : Nat} {zs : List Int} (h : IntRow W a len zs) (hb : Below W.heap.size W w1) : IntRow w1 a len zs :=
  ⟨h.length, h.most, fun i hi => by
    obtain ⟨b, off, e, hc⟩ := h.cell i hi
    exact ⟨b, off, e, keep hb hc⟩⟩
theorem IntRow.drewN {W : World} {a : Option Addr} {len : Nat} {zs : List Int} (h : IntRow W a len zs) (n : Nat) : IntRow (W.drewN n) a len zs := h.below (below_drewN _ _)
/-- A slice of slices of integers. -/
structure IntRows (w : World) (a : Option Addr) (len : Nat) (zss : List (List Int)) : Prop where
  length : zss.length = len
  most : len ≤ maxLen
  cell : ∀ i, i < len → ∃ b off, a = some ⟨b, off, none⟩ ∧ ∃ a' l' c', w.cell? ⟨b, off + i, none⟩ = some (.slice a' l' c') ∧ IntRow w a' l' (zss[i]?.getD [])
theorem IntRows.below {W w1 : World} {a : Option Addr} {len : Nat} {zss : List (List Int)} (h : IntRows W a len zss) (hb : Below W.heap.size W w1) : IntRows w1 a len zss :=
  ⟨h.length, h.most, fun i hi => by
    obtain ⟨b, off, e, a', l', c', hc, hr⟩ := h.cell i hi
    exact ⟨b, off, e, a', l', c', keep hb hc, hr.below hb⟩⟩
/-- A slice of bools. -/
structure BoolRow (w : World) (a : Option Addr) (len : Nat) (zs : List Bool) : Prop where
  length : zs.length = len
  most : len ≤ maxLen
  cell : ∀ i, i < len → ∃ b off, a = some ⟨b, off, none⟩ ∧ w.cell? ⟨b, off + i, none⟩ = some (.bool (zs[i]?.getD false))
theorem BoolRow.below {W w1 : World} {a : Option Addr} {len : Nat} {zs : List Bool} (h : BoolRow W a len zs) (hb : Below W.heap.size W w1) : BoolRow w1 a len zs :=
  ⟨h.length, h.most, fun i hi => by
    obtain ⟨b, off, e, hc⟩ := h.cell i hi
    exact ⟨b, off, e, keep hb hc⟩⟩

theorem all_take_succ {α : Type} {p : α → Bool} {zs : List α} {d : α} {k : Nat} (h : k < zs.length) : (zs.take (k + 1)).all p = ((zs.take k).all p && p (zs[k]?.getD d)) := by
  rw [List.take_succ_eq_append_getElem h, List.all_append, List.getElem?_eq_getElem h]; simp
theorem all_false {α : Type} {p : α → Bool} {zs : List α} {d : α} {k : Nat} (h : k < zs.length) (hp : p (zs[k]?.getD d) = false) : zs.all p = false := by
  rw [List.all_eq_false]
  refine ⟨zs[k], List.getElem_mem h, ?_⟩
  rw [List.getElem?_eq_getElem h] at hp
  simpa using hp
theorem any_take_succ {α : Type} {p : α → Bool} {zs : List α} {d : α} {k : Nat} (h : k < zs.length) : (zs.take (k + 1)).any p = ((zs.take k).any p || p (zs[k]?.getD d)) := by
  rw [List.take_succ_eq_append_getElem h, List.any_append, List.getElem?_eq_getElem h]; simp
theorem any_true {α : Type} {p : α → Bool} {zs : List α} {d : α} {k : Nat} (h : k < zs.length) (hp : p (zs[k]?.getD d) = true) : zs.any p = true := by
  rw [List.any_eq_true]
  refine ⟨zs[k], List.getElem_mem h, ?_⟩
  rw [List.getElem?_eq_getElem h] at hp
  simpa using hp
end Go.Proofs.Ytjdeoiohbbnmeaa.base

/- From the form's readings of arguments to the rows that the contracts speak of; of no program; conditions: none. -/
namespace Go.Proofs.Ytjdeoiohbbnmeaa.args
open Go.ChangeShapes Go.WideShapes Go.ChangeAt Go.RowKit Go.Deep Go.Joins base

variable {H : Type} {enc : TypeId × Value → H} {P : Program} {w : World} {base : Nat} {held : Bool}

theorem getD_take {α : Type} {zs : List α} {d : α} {n i : Nat} (h : i < n) : (zs.take n)[i]?.getD d = zs[i]?.getD d := by
  rw [List.getElem?_take, if_pos h]
theorem at_none {x : Addr} {i : Nat} {v v0 : Value} (h0 : w.cell? (x.add 0) = some v0) (h : w.cell? (x.add i) = some v) : x = ⟨x.block, x.off, none⟩ ∧ w.cell? ⟨x.block, x.off + i, none⟩ = some v := by
  have hs := World.cell?_spot h0
  obtain ⟨b, o, s⟩ := x
  have hs' : s = none := by simpa [Addr.add] using hs
  subst hs'
  refine ⟨rfl, ?_⟩
  by_cases e : i = 0
  · subst e; simpa [Addr.add] using h
  · simpa [Addr.add, e] using h

theorem int_of_trod {e : TypeId} {k : IntKind} {fuel : Nat} {v : Value} {x : DataW H × List MemPlace} (he : P.underlying e = some (.int k)) (h : DataW.trod enc P w base (fun _ => true) held fuel e [v] = some x) :
    ∃ n, v = .int k n ∧ (Lit.int k n).wf = true := by
  obtain ⟨n, e0, _, hw⟩ := DataW.trod_int he h
  exact ⟨n, by simpa using e0, hw⟩

theorem row_of_trod {t e : TypeId} {fuel : Nat} {v : Value} {x : DataW H × List MemPlace} (ht : P.underlying t = some (.slice e)) (he : P.underlying e = some (.int .i64)) (ce : P.cellsOf e = 1)
    (h : DataW.trod enc P w base (fun _ => true) held fuel t [v] = some x) : ∃ a len cap zs, v = .slice a len cap ∧ IntRow w a len zs ∧ ∀ n ∈ zs, (Lit.int .i64 n).wf = true := by
  rcases open_ints ht he ce h with ⟨hcs, _⟩ | ⟨x, l, c, zs, hcs, _, hl, hm, hz, _, hcell, hwz⟩
  · exact ⟨none, 0, 0, [], by simpa using hcs, ⟨rfl, Nat.zero_le _, fun i hi => absurd hi (Nat.not_lt_zero _)⟩, by simp⟩
  · simp only [if_true] at hz
    refine ⟨some x, l, c, zs.take l, by simpa using hcs, ⟨by simp [hz, hl], Nat.le_trans hl hm, fun i hi => ?_⟩, fun n hn => hwz n (List.mem_of_mem_take hn)⟩
    obtain ⟨e1, e2⟩ := at_none (hcell 0 (by omega)) (hcell i (by omega))
    exact ⟨x.block, x.off, by rw [← e1], by rw [e2, getD_take hi, List.getD_eq_getElem?_getD]⟩

theorem bools_of_trod {t e : TypeId} {fuel : Nat} {v : Value} {x : DataW H × List MemPlace} (ht : P.underlying t = some (.slice e)) (he : P.underlying e = some .bool) (ce : P.cellsOf e = 1)
    (h : DataW.trod enc P w base (fun _ => true) held fuel t [v] = some x) : ∃ a len cap zs, v = .slice a len cap ∧ BoolRow w a len zs := by
  rcases open_slice1 ht ce h with ⟨hcs, _⟩ | ⟨a, len, cap, m, n, V, D, Pl, hcs, hb, hl, hm, hmm, rfl, hx⟩
  · exact ⟨none, 0, 0, [], by simpa using hcs, ⟨rfl, Nat.zero_le _, fun i hi => absurd hi (Nat.not_lt_zero _)⟩⟩
  · simp only [if_true] at hmm
    subst hmm
    have each : ∀ i, i < m → ∃ b : Bool, V i = .bool b := fun i hi => by
      obtain ⟨b, e0, _⟩ := DataW.trod_bool he (hx i hi).2
      exact ⟨b, by simpa using e0⟩
    obtain ⟨f, hf⟩ := choose_lt each
    refine ⟨some a, len, m, (List.range len).map f, by simpa using hcs, ⟨by simp, Nat.le_trans hl hm, fun i hi => ?_⟩⟩
    obtain ⟨e1, e2⟩ := at_none (hx 0 (by omega)).1 (hx i (by omega)).1
    exact ⟨a.block, a.off, by rw [← e1], by rw [e2, hf i (by omega)]; simp [hi]⟩

theorem rows_of_trod {t e q : TypeId} {fuel : Nat} {v : Value} {x : DataW H × List MemPlace} (ht : P.underlying t = some (.slice e)) (he : P.underlying e = some (.slice q)) (hq : P.underlying q = some (.int .i64)) (ce : P.cellsOf e = 1) (cq : P.cellsOf q = 1)
    (h : DataW.trod enc P w base (fun _ => true) held fuel t [v] = some x) : ∃ a len cap zss, v = .slice a len cap ∧ IntRows w a len zss ∧ ∀ zs ∈ zss, ∀ n ∈ zs, (Lit.int .i64 n).wf = true := by
  rcases open_slice1 ht ce h with ⟨hcs, _⟩ | ⟨a, len, cap, m, n, V, D, Pl, hcs, hb, hl, hm, hmm, rfl, hx⟩
  · exact ⟨none, 0, 0, [], by simpa using hcs, ⟨rfl, Nat.zero_le _, fun i hi => absurd hi (Nat.not_lt_zero _)⟩, by simp⟩
  · simp only [if_true] at hmm
    subst hmm
    have each : ∀ i, i < m → ∃ zs : List Int, ∃ a' l' c', V i = .slice a' l' c' ∧ IntRow w a' l' zs ∧ ∀ n ∈ zs, (Lit.int .i64 n).wf = true := fun i hi => by
      obtain ⟨a', l', c', zs, e0, h1, h2⟩ := row_of_trod he hq cq (hx i hi).2
      exact ⟨zs, a', l', c', e0, h1, h2⟩
    obtain ⟨f, hf⟩ := choose_lt each
    refine ⟨some a, len, m, (List.range len).map f, by simpa using hcs, ⟨by simp, Nat.le_trans hl hm, fun i hi => ?_⟩, ?_⟩
    · obtain ⟨a', l', c', e0, h1, _⟩ := hf i (by omega)
      obtain ⟨e1, e2⟩ := at_none (hx 0 (by omega)).1 (hx i (by omega)).1
      refine ⟨a.block, a.off, by rw [← e1], a', l', c', by rw [e2, e0], ?_⟩
      simpa [hi] using h1
    · intro zs hz
      obtain ⟨i, hi, rfl⟩ := List.mem_map.1 hz
      obtain ⟨_, _, _, _, _, h2⟩ := hf i (by have := List.mem_range.1 hi; omega)
      exact h2
end Go.Proofs.Ytjdeoiohbbnmeaa.args

/- A region that draws its order, whose last operation waits for all others: what the others leave as it is may be read first, and only the last one need not leave it so; of no program; conditions: none. -/
namespace Go.Proofs.Ytjdeoiohbbnmeaa.heldStore
open Go

variable {P : Program} {ops : Array Oper} {Q : Exit → Act → World → Prop} {S : World → Prop} {n : Nat}

/-- Whatever comes up next: behind each operation but the last S holds. -/
def Goes (P : Program) (ops : Array Oper) (Q : Exit → Act → World → Prop) (S : World → Prop) (n : Nat) : Nat → Array Bool → Act → World → Prop
  | 0, listed, a, w => Region.ready .any ops listed = [] ∧ Q .normal a w
  | fuel + 1, listed, a, w => (Region.ready .any ops listed = [] → Q .normal a w) ∧
      ∀ i ∈ Region.ready .any ops listed, wpOp P ops Q i (fun a' w' => (i < n → S w') ∧ Goes P ops Q S n fuel (listed.setIfInBounds i true) a' w') a w

theorem Goes.any : ∀ (fuel : Nat) (listed : Array Bool) (a : Act) (w : World), Goes P ops Q S n fuel listed a w → wpAny P .any ops Q fuel listed a w
  | 0, _, _, _, h => h
  | fuel + 1, _, _, _, h => ⟨h.1, fun i hi => wpOp_mono (fun a' w' h' => Goes.any fuel _ a' w' h'.2) (h.2 i hi)⟩

theorem Goes.first {i : Nat} {oi : Oper} {v : Value} (hi : ops[i]? = some oi) (hsel : ∀ (j : Nat) (o : Oper) cs b, ops[j]? = some o → o.op ≠ .select cs b)
    (hs : Region.sinkB .any ops n = true) (hc : Region.chainB .any ops n = true) (hn : n < ops.size) (hin : i < n)
    (hQ : ∀ c a w, Q (.panic c) (a.put oi.dst v) w → Q (.panic c) a w) (fuel : Nat) : ∀ (listed : Array Bool) (a : Act) (w : World), HeadInv .any ops n listed →
      (∀ j oj, ops[j]? = some oj → j ≠ i → listed.getD j true = false → (∀ e ∈ oj.after, Region.binds .any e = true → e.on ≠ i) → oi.apart ops oj = true) →
      i ∈ Region.ready .any ops listed → YieldsIf P ops S oi v a → S w →
      Goes P ops Q S n fuel (listed.setIfInBounds i true) (a.put oi.dst v) w → Goes P ops Q S n (fuel + 1) listed a w := by
  induction fuel with
  | zero =>
    intro listed a w inv _ hr hy hS H
    refine ⟨fun h => absurd hr (by rw [h]; exact List.not_mem_nil), fun j hj => ?_⟩
    by_cases hji : j = i
    · subst hji
      exact hy.wpOp hi hS ⟨fun _ => hS, H⟩
    · have h1 := ready_mono hj hji
      rw [H.1] at h1
      cases h1
  | succ fuel ih =>
    intro listed a w inv hfree hr hy hS H
    have hun := (mem_ready.1 hr).1
    refine ⟨fun h => absurd hr (by rw [h]; exact List.not_mem_nil), fun j hj => ?_⟩
    by_cases hji : j = i
    · subst hji
      exact hy.wpOp hi hS ⟨fun _ => hS, H⟩
    · have hjn : j < n := by
        rcases Nat.lt_or_ge j n with h | h
        · exact h
        · exact absurd hj (tail_waits hs hc hn inv _ i rfl hin hun j h)
      obtain ⟨hjun, oj, hoj, hall⟩ := mem_ready.1 hj
      have hnot : ∀ e ∈ oj.after, Region.binds .any e = true → e.on ≠ i := fun e he hb heq => by
        have h1 := hall e he hb
        rw [heq, getD_both hun] at h1
        cases h1
      have hfree' : ∀ k ok, ops[k]? = some ok → k ≠ i → (listed.setIfInBounds j true).getD k true = false → (∀ e ∈ ok.after, Region.binds .any e = true → e.on ≠ i) → oi.apart ops ok = true := fun k ok hk hki hu hno => by
        refine hfree k ok hk hki ?_ hno
        by_cases hjk : j = k
        · rw [← hjk]; exact hjun
        · rw [getD_set_ne true hjk] at hu; exact hu
      have h1 := wpOp_putIf hoj (hfree j oj hoj hji hjun hnot) (fun cs b => hsel i oi cs b hi) (fun cs b => hsel j oj cs b hoj) hQ hy (H.2 j (ready_mono hj hji))
      refine wpOp_mono (fun a' w' h3 => ⟨fun _ => h3.2.1 hjn, ih _ a' w' (inv.set hj hjn) hfree' (ready_mono hr (Ne.symm hji)) h3.1 (h3.2.1 hjn) ?_⟩) h1
      rw [Array.setIfInBounds_comm _ _ hji]
      exact h3.2.2

/-- The facts of a region that a run of the kernel shows. -/
structure LastOf (ops : Array Oper) (n : Nat) : Prop where
  sel : Region.noSelect ops = true
  sink : Region.sinkB .any ops n = true
  chain : Region.chainB .any ops n = true
  lt : n < ops.size

/-- Operation number i is read first. -/
theorem Goes.take {i : Nat} {oi : Oper} {v : Value} {fuel : Nat} {listed : Array Bool} {a : Act} {w : World} (d : Option Tmp) (hE : LastOf ops n) (hi : ops[i]? = some oi) (hd : oi.dst = d) (inv : HeadInv .any ops n listed)
    (hf : Region.free .any ops listed i = true) (hr : (Region.ready .any ops listed).contains i = true) (hin : i < n)
    (hQ : ∀ c a w, Q (.panic c) (a.put d v) w → Q (.panic c) a w) (hy : YieldsIf P ops S oi v a) (hS : S w)
    (h : HeadInv .any ops n (listed.setIfInBounds i true) → Goes P ops Q S n fuel (listed.setIfInBounds i true) (a.put d v) w) : Goes P ops Q S n (fuel + 1) listed a w := by
  subst hd
  have hr' : i ∈ Region.ready .any ops listed := by simpa using hr
  exact Goes.first hi (Region.noSelect_spec hE.sel) hE.sink hE.chain hE.lt hin hQ fuel listed a w inv (Region.free_spec hi hf) hr' hy hS (h (inv.set hr' hin))
/-- One operation may come up. -/
theorem Goes.one {i : Nat} {o : Oper} {fuel : Nat} {listed : Array Bool} {a : Act} {w : World} (inv : HeadInv .any ops n listed) (hr : Region.ready .any ops listed = [i]) (hin : i < n) (ho : ops[i]? = some o)
    (h : HeadInv .any ops n (listed.setIfInBounds i true) → ∀ K' : Act → World → Prop, Shut (∀ a w, S w → (S w → Goes P ops Q S n fuel (listed.setIfInBounds i true) a w) → K' a w) → if Region.wanted o (yielded ops a.tmps) = true then Oper.wp P o a w K' Q else K' (a.put o.dst undef) w) :
    Goes P ops Q S n (fuel + 1) listed a w :=
  ⟨fun h0 => (by rw [hr] at h0; cases h0), fun j hj => by
    have hj' := hj
    rw [hr] at hj
    have e : j = i := by simpa using hj
    subst e
    exact wpOp_step ho fun K' hK => h (inv.set hj' hin) K' fun a w hS hW => hK a w ⟨fun _ => hS, hW hS⟩⟩
/-- Two may. -/
theorem Goes.two {i j : Nat} {o p : Oper} {fuel : Nat} {listed : Array Bool} {a : Act} {w : World} (inv : HeadInv .any ops n listed) (hr : Region.ready .any ops listed = [i, j]) (hin : i < n) (hjn : j < n) (ho : ops[i]? = some o) (hp : ops[j]? = some p)
    (h : HeadInv .any ops n (listed.setIfInBounds i true) → ∀ K' : Act → World → Prop, Shut (∀ a w, S w → (S w → Goes P ops Q S n fuel (listed.setIfInBounds i true) a w) → K' a w) → if Region.wanted o (yielded ops a.tmps) = true then Oper.wp P o a w K' Q else K' (a.put o.dst undef) w)
    (h' : HeadInv .any ops n (listed.setIfInBounds j true) → ∀ K' : Act → World → Prop, Shut (∀ a w, S w → (S w → Goes P ops Q S n fuel (listed.setIfInBounds j true) a w) → K' a w) → if Region.wanted p (yielded ops a.tmps) = true then Oper.wp P p a w K' Q else K' (a.put p.dst undef) w) :
    Goes P ops Q S n (fuel + 1) listed a w :=
  ⟨fun h0 => (by rw [hr] at h0; cases h0), fun k hk => by
    have hk' := hk
    rw [hr] at hk
    rcases List.mem_cons.1 hk with e | e
    · subst e
      exact wpOp_step ho fun K' hK => h (inv.set hk' hin) K' fun a w hS hW => hK a w ⟨fun _ => hS, hW hS⟩
    · have e : k = j := by simpa using e
      subst e
      exact wpOp_step hp fun K' hK => h' (inv.set hk' hjn) K' fun a w hS hW => hK a w ⟨fun _ => hS, hW hS⟩⟩
/-- The last one. -/
theorem Goes.last {o : Oper} {listed : Array Bool} {a : Act} {w : World} (hr : Region.ready .any ops listed = [n]) (hd : Region.ready .any ops (listed.setIfInBounds n true) = []) (ho : ops[n]? = some o)
    (h : ∀ K' : Act → World → Prop, Shut (∀ a w, Q .normal a w → K' a w) → if Region.wanted o (yielded ops a.tmps) = true then Oper.wp P o a w K' Q else K' (a.put o.dst undef) w) :
    Goes P ops Q S n 1 listed a w :=
  ⟨fun h0 => (by rw [hr] at h0; cases h0), fun j hj => by
    rw [hr] at hj
    have e : j = n := by simpa using hj
    subst e
    exact wpOp_step ho fun K' hK => h K' fun a w hq => hK a w ⟨fun hlt => absurd hlt (Nat.lt_irrefl _), hd, hq⟩⟩
/-- The region's beginning. -/
theorem region_goes {id : Nat} {a : Act} {w : World} (n m : Nat) (S : World → Prop) (hm : P.follows .mixedOrders = true) (hz : ops.size = m) (hE : LastOf ops n) (hS : S w.drew)
    (h : LastOf ops n → HeadInv .any ops n (Array.replicate m false) → S w.drew → Goes P ops Q S n m (Array.replicate m false) a w.drew) : (Code.region id ops true).wp P Q a w := by
  subst hz
  exact wp_region_any hm (Goes.any _ _ _ _ (h hE ⟨by simp, fun j oj _ hl => (by rw [getD_replicate_false] at hl; cases hl), fun t _ ht => getD_in (by simpa using ht) (getD_replicate_false _ _)⟩ hS))
end Go.Proofs.Ytjdeoiohbbnmeaa.heldStore
