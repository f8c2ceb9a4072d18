/- HopSem; HopMake; HopBetween; CandWay: one text, so that the claim has fewer files. -/
import Derived.Test.YtjdeoiohbbnmeaaPart11
import Derived.Maps.AppendAt
import Derived.Test.YtjdeoiohbbnmeaaPart7
import Derived.BigRegion
import Derived.Tactics
import Derived.Tactics2
import Derived.Defers
import Derived.Laws.Pointers
import Derived.Laws.LoneSync
import Derived.RegionTactic
import Derived.RegionCalls
import Derived.ChangeAlike
import Derived.Laws.NewBlocks
/- The hops between routers, as plain functions and as they lie in memory; of no program; conditions: none. -/
namespace Go.Proofs.Ytjdeoiohbbnmeaa.hopSem
open Go.RowKit Go.Deep Go base netSem routeRow nbSem candSem
set_option linter.unusedVariables false

/-- Where the hop between two routers lies in a routing. -/
def hopO (p q : Nat) : Nat := 9 + p * 12 + q * 3
/-- The last of the first k links between two routers, and its cost. -/
def lkT (g : R) (p q : Int) : Nat → Int
  | 0 => -1
  | k + 1 => if hit g p q k = true then (k : Int) else lkT g p q k
def ckT (g : R) (p q : Int) : Nat → Int
  | 0 => 0
  | k + 1 => if hit g p q k = true then g k 2 else ckT g p q k
/-- Those of the first k imports that are of a pair. -/
def ofPair (x : R) (p q : Int) (i : Nat) : Bool := decide (x i 0 = p) && decide (x i 1 = q)
def jsT (x : R) (p q : Int) (k : Nat) : List Nat := (List.range k).filter (ofPair x p q)
theorem js_succ (x : R) (p q : Int) (k : Nat) : jsT x p q (k + 1) = jsT x p q k ++ (if ofPair x p q k = true then [k] else []) := by
  unfold jsT
  rw [List.range_succ, List.filter_append]
  by_cases h : ofPair x p q k = true
  · simp [h]
  · simp [h]
theorem js_len (x : R) (p q : Int) (k : Nat) : (jsT x p q k).length ≤ k := by
  unfold jsT
  exact Nat.le_trans (List.length_filter_le _ _) (by simp)
theorem js_mem {x : R} {p q : Int} {k i : Nat} (h : i ∈ jsT x p q k) : x i 0 = p ∧ x i 1 = q := by
  unfold jsT at h
  have := (List.mem_filter.1 h).2
  unfold ofPair at this
  simpa using this
/-- The imports at some places. -/
def rowAt (x : R) (js : List Nat) : R := fun i => x (js[i]?.getD 0)
theorem step_pair {x : R} {p q : Int} {i : Nat} {r : Rt} (h : ofPair x p q i = false) : stepI x p q i r = some r := by
  unfold stepI
  rw [if_pos]
  unfold skipB
  unfold ofPair at h
  by_cases h0 : x i 0 = p
  · have h1 : ¬ x i 1 = q := by simpa [h0] using h
    simp [h1]
  · simp [h0]
theorem step_at {x y : R} {p q : Int} {i j : Nat} {r : Rt} (h : ∀ m, x i m = y j m) : stepI x p q i r = stepI y p q j r := by
  unfold stepI skipB
  rw [h 0, h 1, h 2, h 3, h 4]
theorem impK_congr {x y : R} {p q : Int} {r : Rt} : ∀ n, (∀ i, i < n → ∀ m, x i m = y i m) → impK x p q r n = impK y p q r n
  | 0, _ => rfl
  | n + 1, h => by
    have ih := impK_congr (x := x) (y := y) (p := p) (q := q) (r := r) n (fun i hi => h i (by omega))
    show (impK x p q r n).bind _ = (impK y p q r n).bind _
    rw [ih]
    congr 1
    funext r'
    exact step_at (h n (by omega))
/-- What the imports of a pair make of a route is what all make of it. -/
theorem impK_pair (x : R) (p q : Int) (r : Rt) : ∀ k, impK (rowAt x (jsT x p q k)) p q r (jsT x p q k).length = impK x p q r k
  | 0 => rfl
  | k + 1 => by
    have ih := impK_pair x p q r k
    show _ = (impK x p q r k).bind (stepI x p q k)
    rw [js_succ]
    by_cases h : ofPair x p q k = true
    · rw [if_pos h, List.length_append]
      have hc : impK (rowAt x (jsT x p q k ++ [k])) p q r (jsT x p q k).length = impK (rowAt x (jsT x p q k)) p q r (jsT x p q k).length :=
        impK_congr _ (fun i hi m => by unfold rowAt; rw [List.getElem?_append_left hi])
      show (impK (rowAt x (jsT x p q k ++ [k])) p q r (jsT x p q k).length).bind (stepI (rowAt x (jsT x p q k ++ [k])) p q (jsT x p q k).length) = _
      rw [hc, ih]
      congr 1
      funext r'
      exact step_at (fun m => by unfold rowAt; simp)
    · rw [if_neg h, List.append_nil, ih]
      cases hq : impK x p q r k with
      | none => rfl
      | some r' => exact (step_pair (by simpa using h)).symm
/-- In a network without a pair that is linked twice the last link is the first. -/
theorem lk_first {g : R} {p q : Int} : ∀ n, (∀ i, i < n → linkAt g i (g i 0) (g i 1) < 0) → lkT g p q n = linkAt g n p q ∧ (0 ≤ lkT g p q n → ckT g p q n = g (lkT g p q n).toNat 2)
  | 0, _ => ⟨rfl, fun h => by simp [lkT] at h⟩
  | n + 1, h => by
    obtain ⟨ih1, ih2⟩ := lk_first (g := g) (p := p) (q := q) n (fun i hi => h i (by omega))
    simp only [lkT, ckT]
    by_cases hh : hit g p q n = true
    · rw [if_pos hh, if_pos hh]
      have hn : ∀ i, i < n → hit g p q i = false := fun i hi => by
        cases e : hit g p q i with
        | false => rfl
        | true =>
          exfalso
          have h0 : 0 ≤ linkAt g n (g n 0) (g n 1) := firstAt_spec.2 ⟨i, hi, by
            unfold hit at e hh ⊢
            rw [decide_eq_true_eq] at e hh ⊢
            omega⟩
          have := h n (by omega)
          omega
      exact ⟨(firstAt_hit (by omega) hh hn).symm, fun _ => by simp⟩
    · rw [if_neg hh, if_neg hh]
      refine ⟨?_, ih2⟩
      rw [ih1]
      unfold linkAt
      by_cases h0 : 0 ≤ firstAt (hit g p q) n
      · obtain ⟨i, hi, hp⟩ := firstAt_spec.1 h0
        have hb := firstAt_bounds (hit g p q) n
        obtain ⟨m, hm⟩ : ∃ m : Nat, firstAt (hit g p q) n = (m : Int) := ⟨(firstAt (hit g p q) n).toNat, by omega⟩
        have hmf : hit g p q m = true ∧ ∀ i, i < m → hit g p q i = false := first_is hm
        rw [hm]
        exact (firstAt_hit (by omega) hmf.1 hmf.2).symm
      · have hne : ∀ i, i < n → hit g p q i = false := fun i hi => by
          cases e : hit g p q i with
          | false => rfl
          | true => exact absurd (firstAt_spec.2 ⟨i, hi, e⟩) h0
        rw [firstAt_none hne, firstAt_none]
        intro i hi
        by_cases e : i = n
        · subst e; simpa using hh
        · exact hne i (by omega)
where
  first_is {g : R} {p q : Int} {n m : Nat} (h : firstAt (hit g p q) n = (m : Int)) : hit g p q m = true ∧ ∀ i, i < m → hit g p q i = false := by
    unfold firstAt at h
    cases e : (List.range n).find? (hit g p q) with
    | none => rw [e] at h; simp only [] at h; omega
    | some k =>
      rw [e] at h
      simp only [] at h
      have hk : k = m := by omega
      subst hk
      rw [List.find?_range_eq_some] at e
      exact ⟨e.1, fun i hi => by simpa using e.2.2 i hi⟩

def impCells (x : R) (js : List Nat) : List Value := js.flatMap fun i => [.int .i64 (x i 0), .int .i64 (x i 1), .int .i64 (x i 2), .int .i64 (x i 3), .int .i64 (x i 4)]
/-- A row of imports of the call's own. -/
def OwnImp (B : Nat) (w : World) (v : Value) (x : R) (js : List Nat) : Prop := w.ownsRow B 76 5 v js.length (impCells x js)
theorem imp_at (x : R) : ∀ (js : List Nat) (i j : Nat), i < js.length → j < 5 → (impCells x js)[i * 5 + j]? = some (.int .i64 (x (js[i]?.getD 0) j))
  | [], i, j, hi, _ => absurd hi (Nat.not_lt_zero _)
  | k :: js, 0, j, _, hj => by
    match j, hj with
    | 0, _ => rfl
    | 1, _ => rfl
    | 2, _ => rfl
    | 3, _ => rfl
    | 4, _ => rfl
    | j + 5, hj => exact absurd hj (by omega)
  | k :: js, i + 1, j, hi, hj => by
    have ih := imp_at x js i j (by simpa using hi) hj
    have e : (i + 1) * 5 + j = (i * 5 + j) + 5 := by omega
    rw [e]
    simpa [impCells] using ih
theorem OwnImp.row {B : Nat} {w : World} {a : Option Addr} {n c : Nat} {x : R} {js : List Nat} (h : OwnImp B w (.slice a n c) x js) : n = js.length ∧ Row 5 w a n (rowAt x js) := by
  obtain ⟨h1, h2⟩ := h
  rcases h2 with ⟨e, hn⟩ | ⟨g, cap, cur, e, hb, hh, hn, hm, hs, ht⟩
  · injection e with e1 e2 e3
    subst e1 e2
    exact ⟨hn.symm, ⟨Nat.zero_le _, fun i hi => absurd hi (Nat.not_lt_zero _)⟩⟩
  · injection e with e1 e2 e3
    subst e1 e2
    refine ⟨rfl, ⟨Nat.le_trans hn hm, fun i hi => ⟨g, 0, rfl, fun j hj => ?_⟩⟩⟩
    have h3 : cur[i * 5 + j]? = some (.int .i64 (rowAt x js i j)) := by
      have : (cur.toList.take (js.length * 5))[i * 5 + j]? = (impCells x js)[i * 5 + j]? := by rw [ht]
      rw [List.getElem?_take, if_pos (by omega), imp_at x js i j hi hj] at this
      rw [← Array.getElem?_toList, this]
      rfl
    simp [World.cell?, hh, h3]
/-- The hops of a routing in block b, their rows of imports in blocks of their own from B on. -/
structure HopsAt (b B : Nat) (w : World) (x : R) (L K : Nat → Nat → Int) (I : Nat → Nat → List Nat) (V : Nat → Nat → Value) : Prop where
  link : ∀ p q, p < 4 → q < 4 → w.cell? ⟨b, hopO p q, none⟩ = some (.int .i64 (L p q))
  cost : ∀ p q, p < 4 → q < 4 → w.cell? ⟨b, hopO p q + 1, none⟩ = some (.int .i64 (K p q))
  imps : ∀ p q, p < 4 → q < 4 → w.cell? ⟨b, hopO p q + 2, none⟩ = some (V p q)
  own : ∀ p q, p < 4 → q < 4 → OwnImp B w (V p q) x (I p q)
  apart : ∀ p q p' q', p < 4 → q < 4 → p' < 4 → q' < 4 → ¬ (p = p' ∧ q = q') → ∀ g, (V p q).ownBlock = some g → (V p' q').ownBlock ≠ some g
end Go.Proofs.Ytjdeoiohbbnmeaa.hopSem

/- Of the program: the memo of hops is made; conditions: links and imports between routers that there are. -/
namespace Go.Proofs.Ytjdeoiohbbnmeaa.hopMake
open Go.RowKit Go.Deep Go base netSem routeRow nbSem candSem hopSem intsOwn heldStore stepAppend
set_option linter.unusedVariables false

def upd {α : Type} (L : Nat → Nat → α) (P Q : Nat) (l : α) : Nat → Nat → α := fun p q => if p = P ∧ q = Q then l else L p q
theorem upd_same {α : Type} (L : Nat → Nat → α) (P Q : Nat) (l : α) : upd L P Q l P Q = l := if_pos ⟨rfl, rfl⟩
theorem upd_other {α : Type} (L : Nat → Nat → α) {P Q p q : Nat} (l : α) (h : ¬ (p = P ∧ q = Q)) : upd L P Q l p q = L p q := if_neg h
/-- The cells of a routing tell its hops. -/
def Hf (F : Nat → Value) (L K : Nat → Nat → Int) (V : Nat → Nat → Value) : Prop := ∀ p q, p < 4 → q < 4 → F (hopO p q) = .int .i64 (L p q) ∧ F (hopO p q + 1) = .int .i64 (K p q) ∧ F (hopO p q + 2) = V p q
theorem Hf.set {F : Nat → Value} {L K : Nat → Nat → Int} {V : Nat → Nat → Value} (h : Hf F L K V) {P Q : Nat} (hP : P < 4) (hQ : Q < 4) (l k : Int) (v : Value) : Hf (fun o => if o = hopO P Q + 2 then v else if o = hopO P Q + 1 then .int .i64 k else if o = hopO P Q then .int .i64 l else F o) (upd L P Q l) (upd K P Q k) (upd V P Q v) := by
  intro p q hp hq
  by_cases e : p = P ∧ q = Q
  · obtain ⟨rfl, rfl⟩ := e
    rw [upd_same, upd_same, upd_same]
    dsimp only
    refine ⟨?_, ?_, ?_⟩
    · rw [if_neg (by omega), if_neg (by omega), if_pos rfl]
    · rw [if_neg (by omega), if_pos rfl]
    · rw [if_pos rfl]
  · rw [upd_other _ _ e, upd_other _ _ e, upd_other _ _ e]
    obtain ⟨h0, h1, h2⟩ := h p q hp hq
    unfold hopO at *
    dsimp only
    refine ⟨?_, ?_, ?_⟩
    · rw [if_neg (by omega), if_neg (by omega), if_neg (by omega)]; exact h0
    · rw [if_neg (by omega), if_neg (by omega), if_neg (by omega)]; exact h1
    · rw [if_neg (by omega), if_neg (by omega), if_neg (by omega)]; exact h2

theorem Hf.setV {F : Nat → Value} {L K : Nat → Nat → Int} {V : Nat → Nat → Value} (h : Hf F L K V) {P Q : Nat} (hP : P < 4) (hQ : Q < 4) (v : Value) : Hf (fun o => if o = 9 + P * 12 + Q * 3 + 2 then v else F o) L K (upd V P Q v) := by
  intro p q hp hq
  obtain ⟨h0, h1, h2⟩ := h p q hp hq
  unfold hopO at *
  dsimp only
  refine ⟨?_, ?_, ?_⟩
  · rw [if_neg (by omega)]; exact h0
  · rw [if_neg (by omega)]; exact h1
  · by_cases e : p = P ∧ q = Q
    · obtain ⟨rfl, rfl⟩ := e
      rw [if_pos rfl, upd_same]
    · rw [if_neg (by omega), upd_other _ _ e]; exact h2
theorem grown_far {w W W2 : World} {row r2 : Option Nat} (h : w.grownBy W row) (k : W.grownBy W2 r2) (hr : ∀ g, r2 = some g → w.heap.size ≤ g) : w.grownBy W2 row :=
  ⟨k.os.trans h.os, k.tape.trans h.tape, k.output.trans h.output, Nat.le_trans h.size k.size, fun j hj hne => (k.block j (Nat.lt_of_lt_of_le hj h.size) (fun e => by have := hr j e.symm; omega)).trans (h.block j hj hne)⟩
theorem own_form {B n : Nat} {w : World} {v : Value} {t : TypeId} {s : Nat} {xs : List Value} (h : w.ownsRow B t s v n xs) : ∃ a c, v = .slice a n c := by
  rcases h.2 with ⟨rfl, h0⟩ | ⟨g, cap, cur, rfl, _⟩
  · exact ⟨none, 0, by rw [h0]⟩
  · exact ⟨_, _, rfl⟩
theorem own_keep {B n : Nat} {w w1 : World} {v : Value} {t : TypeId} {s : Nat} {xs : List Value} (h : w.ownsRow B t s v n xs) (hk : ∀ g, v.ownBlock = some g → w1.heap[g]? = w.heap[g]?) : w1.ownsRow B t s v n xs := by
  obtain ⟨h1, h2⟩ := h
  refine ⟨h1, ?_⟩
  rcases h2 with h2 | ⟨g, cap, cur, rfl, hg, hh, hn⟩
  · exact .inl h2
  · exact .inr ⟨g, cap, cur, rfl, hg, by rw [hk g rfl]; exact hh, hn⟩
theorem info_imp : (Try.prog.info? 76).map (fun i => (i.zero, i.size, i.bytes)) = some (some (.agg #[.int .i64 0, .int .i64 0, .int .i64 0, .int .i64 0, .int .i64 0]), 5, 40) := by kernel_rfl
theorem cell_five (w : World) (y0 y1 y2 y3 y4 : Value) (t : TypeId) : ∀ (j : Nat) (u : Value), [y0, y1, y2, y3, y4][j]? = some u → (w.alloc (.cells #[y0, y1, y2, y3, y4] t)).cell? ((⟨w.heap.size, 0, none⟩ : Addr).add j) = some u := by
  intro j u h
  match j, h with
  | 0, h => cases h; simp [Addr.add, go_sem]
  | 1, h => cases h; simp [Addr.add, go_sem]
  | 2, h => cases h; simp [Addr.add, go_sem]
  | 3, h => cases h; simp [Addr.add, go_sem]
  | 4, h => cases h; simp [Addr.add, go_sem]
  | _ + 5, h => simp at h
theorem grown_trans {w w1 w2 : World} {row : Option Nat} (h : w.grownBy w1 row) (h' : w1.grownBy w2 row) : w.grownBy w2 row :=
  ⟨h'.os.trans h.os, h'.tape.trans h.tape, h'.output.trans h.output, Nat.le_trans h.size h'.size, fun j hj hne => (h'.block j (Nat.lt_of_lt_of_le hj h.size) hne).trans (h.block j hj hne)⟩
end Go.Proofs.Ytjdeoiohbbnmeaa.hopMake

/- Of the program: the hop between two routers, by a memo that is made once; conditions: what make_hops wants. -/
namespace Go.Proofs.Ytjdeoiohbbnmeaa.hopBetween
open Go.RowKit Go.Deep Go base netSem routeRow nbSem candSem hopSem intsOwn hopMake
set_option linter.unusedVariables false

/-- What a memo wants of the network that it is made of. -/
structure Fit (b : Nat) (F : Nat → Value) (w : World) (p1 p4 : Option Addr) (l1 l4 c1 c4 : Nat) (g x : R) : Prop where
  f1 : F 1 = .slice p1 l1 c1
  f4 : F 4 = .slice p4 l4 c4
  links : Row 3 w p1 l1 g
  imports : Row 5 w p4 l4 x
  gi : ∀ i, i < l1 → 0 ≤ g i 0 ∧ g i 0 < 4 ∧ 0 ≤ g i 1 ∧ g i 1 < 4 ∧ g i 0 ≠ g i 1
  xi : ∀ i, i < l4 → 0 ≤ x i 0 ∧ x i 0 < 4 ∧ 0 ≤ x i 1 ∧ x i 1 < 4
  few : l4 ≤ 12
  n1 : ∀ a o, 0 < l1 → p1 = some ⟨a, o, none⟩ → a ≠ b
  n4 : ∀ a o, 0 < l4 → p4 = some ⟨a, o, none⟩ → a ≠ b
theorem row_off {m : Nat} {w : World} {p : Option Addr} {l b o : Nat} {g : R} {v : Value} (h : Row m w p l g) (hn : ∀ a o, 0 < l → p = some ⟨a, o, none⟩ → a ≠ b) : Row m (w.setCell ⟨b, o, none⟩ v) p l g :=
  ⟨h.most, fun i hi => by
    obtain ⟨a, off, e, hc⟩ := h.cell i hi
    exact ⟨a, off, e, fun j hj => (World.cell?_of_block (a := ⟨a, off + i * m + j, none⟩) (Below.heap_setCell _ _ _ _ (by dsimp only; exact hn a off (by omega) e))).trans (hc j hj)⟩⟩

end Go.Proofs.Ytjdeoiohbbnmeaa.hopBetween

/- Of the specification: where a number is in a list, whether a way by Vias comes to a router; conditions: none. -/
namespace Go.Proofs.Ytjdeoiohbbnmeaa.candWay
open Go.RowKit Go.Deep Go base names netSem netSpec nbSem routeRow candSem
set_option linter.unusedVariables false

set_option maxHeartbeats 800000 in
theorem has_spec (a : Option Addr) (len cap : Nat) (z : List Int) (v : Int) (w : World) (hr : IntRow w a len z) :
    Calls Try.prog 72 #[.slice a len cap, .int .i64 v] w fun e w' => e = .returned (.int .i64 (hasAt z v)) ∧ w' = w := by
  obtain ⟨hlen, hmost, hcell⟩ := hr
  unfold maxLen at hmost
  have HC := hid hcell
  have HL := hid hlen
  clear hcell hlen
  go_enter Try.func72, Try.ntmps72
  go_wp2
  go_loop [5] (fun i => ∃ k : Nat, k ≤ len ∧ i = .int .i64 k ∧ ∀ j, j < k → decide (zAt z j = v) = false) (fun i => len - (intOf i).toNat)
  case atStart => exact ⟨0, Nat.zero_le _, rfl, fun j hj => absurd hj (Nat.not_lt_zero _)⟩
  case round =>
    obtain ⟨k, hk, rfl, ha⟩ := hrel
    have HA := hid ha
    clear ha
    by_cases hlt : k < len
    · obtain ⟨b0, off, rfl, c0⟩ := HC.out k hlt
      have HZ : Hid (zAt z k = z[k]?.getD 0) := hid rfl
      generalize z[k]?.getD 0 = y at *
      obtain ⟨p1, e1⟩ : ∃ p, (y == v) = p := ⟨_, rfl⟩
      cases p1 with
      | true =>
        have HQ := hid (show decide (zAt z k = v) = true by rw [HZ.out]; simpa using e1)
        go_wp2
        go_ret
        exact ⟨ret_int (firstAt_hit (by rw [HL.out]; exact hlt) HQ.out HA.out).symm, rfl⟩
      | false =>
        have HQ := hid (show decide (zAt z k = v) = false by rw [HZ.out]; simpa using e1)
        go_wp2
        go_round
        case rel =>
          refine ⟨k + 1, by omega, by go_num, fun j hj => ?_⟩
          by_cases e : j = k
          · subst e; exact HQ.out
          · exact HA.out j (by omega)
        case measure => simp [intOf]; omega
    · have e : k = len := by omega
      have HA2 := hid (firstAt_none (p := fun i => decide (zAt z i = v)) (n := z.length) (fun i hi => HA.out i (by rw [e, ← HL.out]; exact hi)))
      subst e
      go_wp2
      go_ret
      exact ⟨ret_int HA2.out.symm, rfl⟩

set_option maxHeartbeats 1600000 in
theorem thru_spec (a : Option Addr) (n cap : Nat) (rs : Rs) (fr router : Int) (w : World) (hr : RtRow w a n rs) (hn : n ≤ 4) (hv : ∀ i, i < n → (rs i).via < n) (hf : 0 ≤ fr) (hf2 : fr < n) :
    Calls Try.prog 74 #[.slice a n cap, .int .i64 fr, .int .i64 router] w fun e w' => e = .returned (.bool (thru rs router (n + 1) fr)) ∧ Below w.heap.size w w' := by
  have HR := hid hr
  have HV := hid hv
  clear hr hv
  obtain ⟨m0, rfl⟩ : ∃ m : Nat, fr = (m : Int) := ⟨fr.toNat, by omega⟩
  obtain ⟨T, hT⟩ : ∃ T, thru rs router (n + 1) (m0 : Int) = T := ⟨_, rfl⟩
  have HT := hid hT
  rw [hT]
  clear hT
  go_enter Try.func74, Try.ntmps74
  go_wp2
  go_loopw [8, 7] (fun i v wr => ∃ k m : Nat, k ≤ n + 1 ∧ m < n ∧ i = .int .i64 k ∧ v = .int .i64 m ∧ Below w.heap.size w wr ∧ thru rs router (n + 1 - k) (m : Int) = T) (fun i _ _ => n + 1 - (intOf i).toNat)
  case atStart => exact ⟨0, m0, Nat.zero_le _, by omega, rfl, rfl, (by repeat (first | exact Below.refl _ _ | assumption | refine Below.drew ?_ | refine Below.alloc ?_ (by first | exact Nat.le_refl _ | omega | (simp; done) | (simp; omega)) _ | refine Below.setCell ?_ (by first | exact Nat.le_refl _ | omega | (simp; done) | (simp; omega)) _)), HT.out⟩
  case round =>
    obtain ⟨k, m, hk, hm, rfl, rfl, hb, ht⟩ := hrel
    have HB := hid hb
    have HU := hid ht
    clear hb ht HT
    by_cases hlt : k ≤ n
    · have HU2 : Hid ((if (m : Int) = router then true else if (m : Int) < 0 then false else if (rs m).via < 0 then false else thru rs router (n - k) (rs m).via) = T) := hid (by
        have h := HU.out
        rw [show n + 1 - k = n - k + 1 from by omega] at h
        exact h)
      have HVm := hid (HV.out m hm)
      obtain ⟨b0, off, rfl, c0, c1, c2, c3⟩ := HR.out.at4 hm
      replace c0 := keep HB.out c0
      replace c1 := keep HB.out c1
      replace c2 := keep HB.out c2
      replace c3 := keep HB.out c3
      generalize (rs m).via = y at *
      generalize (rs m).pref = y1 at *
      generalize (rs m).len = y2 at *
      generalize (rs m).mark = y3 at *
      clear HU
      by_cases h1 : (m : Int) = router
      · have e1 : ((m : Int) == router) = true := by simp [h1]
        have HT2 := HU2.out
        rw [if_pos h1] at HT2
        subst HT2
        clear h1 HU2
        go_wp2
        go_ret
        exact ⟨rfl, (by repeat (first | exact Below.refl _ _ | assumption | refine Below.drew ?_ | refine Below.alloc ?_ (by first | exact Nat.le_refl _ | omega | (simp; done) | (simp; omega)) _ | refine Below.setCell ?_ (by first | exact Nat.le_refl _ | omega | (simp; done) | (simp; omega)) _))⟩
      have e1 : ((m : Int) == router) = false := by simp [h1]
      have e2 : decide ((m : Int) < 0) = false := decide_eq_false (by omega)
      have HU3 := HU2.out
      rw [if_neg h1, if_neg (by omega)] at HU3
      clear h1 HU2
      by_cases h2 : y < 0
      · have e3 : decide (y < 0) = true := decide_eq_true h2
        rw [if_pos h2] at HU3
        subst HU3
        clear h2
        go_wp2
        go_ret
        exact ⟨rfl, HB.out.trans (by first | exact Below.refl _ _ | exact (by repeat (first | exact Below.refl _ _ | assumption | refine Below.drew ?_ | refine Below.alloc ?_ (by first | exact Nat.le_refl _ | omega | (simp; done) | (simp; omega)) _ | refine Below.setCell ?_ (by first | exact Nat.le_refl _ | omega | (simp; done) | (simp; omega)) _)))⟩
      · have e3 : decide (y < 0) = false := decide_eq_false h2
        rw [if_neg h2] at HU3
        have HU4 := hid HU3
        clear HU3
        obtain ⟨m1, rfl⟩ : ∃ q : Nat, y = (q : Int) := ⟨y.toNat, by omega⟩
        clear h2
        go_wp2
        go_roundw
        case rel => exact ⟨k + 1, m1, by omega, by have := HVm.out; omega, by go_num, rfl, (by repeat (first | exact Below.refl _ _ | assumption | refine Below.drew ?_ | refine Below.alloc ?_ (by first | exact Nat.le_refl _ | omega | (simp; done) | (simp; omega)) _ | refine Below.setCell ?_ (by first | exact Nat.le_refl _ | omega | (simp; done) | (simp; omega)) _)), by rw [show n + 1 - (k + 1) = n - k from by omega]; exact HU4.out⟩
        case measure => simp [intOf]; omega
    · have e : k = n + 1 := by omega
      subst e
      have HT2 := HU.out
      rw [Nat.sub_self] at HT2
      have HT3 : true = T := HT2
      subst HT3
      have e1 : decide (((n + 1 : Nat) : Int) ≤ (n : Int)) = false := decide_eq_false (by omega)
      clear HT2 HU hlt
      go_wp2
      go_ret
      exact ⟨rfl, HB.out⟩
end Go.Proofs.Ytjdeoiohbbnmeaa.candWay
