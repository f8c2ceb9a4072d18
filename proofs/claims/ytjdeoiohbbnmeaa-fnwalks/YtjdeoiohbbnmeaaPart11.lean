/- EnvOf; NbSem; RouteRow; CandSem: one text, so that the claim has fewer files. -/
import Derived.Test.YtjdeoiohbbnmeaaPart10
import Derived.Deep.RegionHeld3
import Derived.Test.YtjdeoiohbbnmeaaPart6
import Derived.Test.YtjdeoiohbbnmeaaPart4
import Derived.Test.YtjdeoiohbbnmeaaPart1
import Derived.Laws.ResultCell
/- EnvOf and DownOf of the specification; conditions: short rows. -/
namespace Go.Proofs.Ytjdeoiohbbnmeaa.envOf
open Go.RowKit Go.Deep Go base copy netSem netSpec source intsOwn envDraw
set_option linter.unusedVariables false

set_option maxHeartbeats 1600000 in
set_option maxRecDepth 8000 in
theorem envOf_spec (a : Option Addr) (len cap : Nat) (p : Nat → Option Addr) (l c : Nat → Nat) (w : World) (h : Bytes w a len) (hlen : len ≤ 1048576) (hl : l 3 ≤ 100) :
    Calls Try.prog 5 #[.slice a len cap, netV p l c] w fun e' w' => ∃ (v : Value) (zs : List Int), e' = .returned v ∧ w'.ownsRow w.heap.size 3 1 v zs.length (zs.map (Value.int .i64)) ∧ zs.length = l 3 ∧ (∀ z ∈ zs, 0 ≤ z ∧ z < 3) ∧ Below w.heap.size w w' := by
  have HS : Hid (∀ W : World, Below w.heap.size w W → Calls Try.prog 13 #[.slice a len cap] W fun e w' => ∃ b, e = .returned (.pointer (some ⟨b, 0, none⟩)) ∧ b = W.heap.size ∧ b < w'.heap.size ∧ Src w' b a len cap 0 ∧ Below W.heap.size W w') := hid (fun W hb => source_spec a len cap W (fun i hi => by obtain ⟨bb, off, e, x, hx, hc⟩ := h i hi; exact ⟨bb, off, e, x, hx, keep hb hc⟩) hlen)
  have HE : Hid (∀ (W : World) (b : Nat), Src W b a len cap 0 → b < W.heap.size → Calls Try.prog 15 #[.pointer (some ⟨b, 0, none⟩), netV p l c] W fun e' w' => ∃ (v : Value) (zs : List Int), e' = .returned v ∧ w'.ownsRow W.heap.size 3 1 v zs.length (zs.map (Value.int .i64)) ∧ zs.length = l 3 ∧ (∀ z ∈ zs, 0 ≤ z ∧ z < 3) ∧ Src w' b a len cap (0 + l 3) ∧ W.grownBy w' (some b)) := hid (fun W b hs hb => env_src b a len cap 0 p l c W hs hb (by omega) hl)
  clear h
  unfold netV at HE ⊢
  go_enter Try.func5, Try.ntmps5
  go_wp2_with fail
  obtain ⟨W1, hW1⟩ : ∃ W1, (w.alloc (.cells #[.slice (p 0) (l 0) (c 0), .slice (p 1) (l 1) (c 1), .slice (p 2) (l 2) (c 2), .slice (p 3) (l 3) (c 3), .slice (p 4) (l 4) (c 4), .slice (p 5) (l 5) (c 5)] 29)) = W1 := ⟨_, rfl⟩
  have HBx : Hid (Below w.heap.size w W1) := hid (by rw [← hW1]; exact (by repeat (first | exact Below.refl _ _ | assumption | refine Below.drew ?_ | refine Below.alloc ?_ (by first | exact Nat.le_refl _ | omega | (simp; done) | (simp; omega)) _ | refine Below.setCell ?_ (by first | exact Nat.le_refl _ | omega | (simp; done) | (simp; omega)) _)))
  have HSz : Hid (W1.heap.size = w.heap.size + 1) := hid (by rw [← hW1]; simp)
  have HKc : Hid (∀ w8 : World, w8.heap[w.heap.size]? = W1.heap[w.heap.size]? → w8.cell? ⟨w.heap.size, 0, none⟩ = some (.slice (p 0) (l 0) (c 0)) ∧ w8.cell? ⟨w.heap.size, 1, none⟩ = some (.slice (p 1) (l 1) (c 1)) ∧ w8.cell? ⟨w.heap.size, 2, none⟩ = some (.slice (p 2) (l 2) (c 2)) ∧ w8.cell? ⟨w.heap.size, 3, none⟩ = some (.slice (p 3) (l 3) (c 3)) ∧ w8.cell? ⟨w.heap.size, 4, none⟩ = some (.slice (p 4) (l 4) (c 4)) ∧ w8.cell? ⟨w.heap.size, 5, none⟩ = some (.slice (p 5) (l 5) (c 5))) := hid (fun w8 hb => by
    have h : ∀ o, w8.cell? ⟨w.heap.size, o, none⟩ = W1.cell? ⟨w.heap.size, o, none⟩ := fun o => World.cell?_of_block hb
    rw [h, h, h, h, h, h, ← hW1]
    exact ⟨by simp [go_sem], by simp [go_sem], by simp [go_sem], by simp [go_sem], by simp [go_sem], by simp [go_sem]⟩)
  rw [hW1]
  clear hW1
  obtain ⟨q0, q1, q2, q3, q4, q5⟩ := HKc.out W1 rfl
  have hk0 : W1.drew.heap[w.heap.size]? = W1.heap[w.heap.size]? := rfl
  go_region_with (first
      | (go_at_call 13; refine (HS.out _ HBx.out.drew).mono ?_; rintro e' w2 ⟨b, rfl, hbe, hbl, hsrc, hb1⟩; have HBe := hid hbe; clear hbe; have hk1 : w2.heap[w.heap.size]? = W1.heap[w.heap.size]? := hb1.block _ (by have := HSz.out; show _ < W1.heap.size; omega); obtain ⟨x0, x1, x2, x3, x4, x5⟩ := HKc.out w2 hk1)
      | (go_at_call 15; refine (HE.out _ b hsrc hbl).mono ?_; rintro e' w3 ⟨v, zs, rfl, hown, hz, hf, -, hg⟩))
  all_goals
    have hb1' : Below W1.heap.size W1 w2 := ((Below.refl _ W1).drew).trans hb1
    have hB1 : Below w.heap.size w w2 := HBx.out.trans (hb1'.mono HBx.out.size)
    have hbw : w.heap.size ≤ b := by have := HBe.out; have := HSz.out; have e9 : W1.drew.heap.size = W1.heap.size := rfl; omega
    have HOw := hid hown
    have HF := hid hf
    have HZ := hid hz
    have HB1 := hid hB1
    have HB2 : Hid (Below w.heap.size w w3) := hid (hB1.grown hg hB1.size (fun k hk => by injection hk with hk; omega))
    clear hown hf hg hz hb1 hb1' hsrc hk1 hB1
    go_wp2
    go_ret
    refine ⟨_, zs, rfl, ?_, HZ.out, HF.out, HB2.out⟩
    refine ⟨HOw.out.1, ?_⟩
    rcases HOw.out.2 with h2 | ⟨g, cp, cur, e, hg, rest⟩
    · exact .inl h2
    · exact .inr ⟨g, cp, cur, e, Nat.le_trans HB1.out.size hg, rest⟩

set_option maxHeartbeats 1600000 in
set_option maxRecDepth 8000 in
theorem downOf_spec (a : Option Addr) (len cap : Nat) (p : Nat → Option Addr) (l c : Nat → Nat) (w : World) (h : Bytes w a len) (hlen : len ≤ 1048576) (hl : l 1 ≤ 100) :
    Calls Try.prog 6 #[.slice a len cap, netV p l c] w fun e' w' => ∃ (v : Value) (zs : List Bool), e' = .returned v ∧ w'.ownsRow w.heap.size 4 1 v zs.length (zs.map Value.bool) ∧ zs.length = l 1 ∧ True ∧ Below w.heap.size w w' := by
  have HS : Hid (∀ W : World, Below w.heap.size w W → Calls Try.prog 13 #[.slice a len cap] W fun e w' => ∃ b, e = .returned (.pointer (some ⟨b, 0, none⟩)) ∧ b = W.heap.size ∧ b < w'.heap.size ∧ Src w' b a len cap 0 ∧ Below W.heap.size W w') := hid (fun W hb => source_spec a len cap W (fun i hi => by obtain ⟨bb, off, e, x, hx, hc⟩ := h i hi; exact ⟨bb, off, e, x, hx, keep hb hc⟩) hlen)
  have HE : Hid (∀ (W : World) (b : Nat), Src W b a len cap 0 → b < W.heap.size → Calls Try.prog 16 #[.pointer (some ⟨b, 0, none⟩), netV p l c] W fun e' w' => ∃ (v : Value) (zs : List Bool), e' = .returned v ∧ w'.ownsRow W.heap.size 4 1 v zs.length (zs.map Value.bool) ∧ zs.length = l 1 ∧ True ∧ Src w' b a len cap (0 + l 1) ∧ W.grownBy w' (some b)) := hid (fun W b hs hb => down_src b a len cap 0 p l c W hs hb (by omega) hl)
  clear h
  unfold netV at HE ⊢
  go_enter Try.func6, Try.ntmps6
  go_wp2_with fail
  obtain ⟨W1, hW1⟩ : ∃ W1, (w.alloc (.cells #[.slice (p 0) (l 0) (c 0), .slice (p 1) (l 1) (c 1), .slice (p 2) (l 2) (c 2), .slice (p 3) (l 3) (c 3), .slice (p 4) (l 4) (c 4), .slice (p 5) (l 5) (c 5)] 29)) = W1 := ⟨_, rfl⟩
  have HBx : Hid (Below w.heap.size w W1) := hid (by rw [← hW1]; exact (by repeat (first | exact Below.refl _ _ | assumption | refine Below.drew ?_ | refine Below.alloc ?_ (by first | exact Nat.le_refl _ | omega | (simp; done) | (simp; omega)) _ | refine Below.setCell ?_ (by first | exact Nat.le_refl _ | omega | (simp; done) | (simp; omega)) _)))
  have HSz : Hid (W1.heap.size = w.heap.size + 1) := hid (by rw [← hW1]; simp)
  have HKc : Hid (∀ w8 : World, w8.heap[w.heap.size]? = W1.heap[w.heap.size]? → w8.cell? ⟨w.heap.size, 0, none⟩ = some (.slice (p 0) (l 0) (c 0)) ∧ w8.cell? ⟨w.heap.size, 1, none⟩ = some (.slice (p 1) (l 1) (c 1)) ∧ w8.cell? ⟨w.heap.size, 2, none⟩ = some (.slice (p 2) (l 2) (c 2)) ∧ w8.cell? ⟨w.heap.size, 3, none⟩ = some (.slice (p 3) (l 3) (c 3)) ∧ w8.cell? ⟨w.heap.size, 4, none⟩ = some (.slice (p 4) (l 4) (c 4)) ∧ w8.cell? ⟨w.heap.size, 5, none⟩ = some (.slice (p 5) (l 5) (c 5))) := hid (fun w8 hb => by
    have h : ∀ o, w8.cell? ⟨w.heap.size, o, none⟩ = W1.cell? ⟨w.heap.size, o, none⟩ := fun o => World.cell?_of_block hb
    rw [h, h, h, h, h, h, ← hW1]
    exact ⟨by simp [go_sem], by simp [go_sem], by simp [go_sem], by simp [go_sem], by simp [go_sem], by simp [go_sem]⟩)
  rw [hW1]
  clear hW1
  obtain ⟨q0, q1, q2, q3, q4, q5⟩ := HKc.out W1 rfl
  have hk0 : W1.drew.heap[w.heap.size]? = W1.heap[w.heap.size]? := rfl
  go_region_with (first
      | (go_at_call 13; refine (HS.out _ HBx.out.drew).mono ?_; rintro e' w2 ⟨b, rfl, hbe, hbl, hsrc, hb1⟩; have HBe := hid hbe; clear hbe; have hk1 : w2.heap[w.heap.size]? = W1.heap[w.heap.size]? := hb1.block _ (by have := HSz.out; show _ < W1.heap.size; omega); obtain ⟨x0, x1, x2, x3, x4, x5⟩ := HKc.out w2 hk1)
      | (go_at_call 16; refine (HE.out _ b hsrc hbl).mono ?_; rintro e' w3 ⟨v, zs, rfl, hown, hz, hf, -, hg⟩))
  all_goals
    have hb1' : Below W1.heap.size W1 w2 := ((Below.refl _ W1).drew).trans hb1
    have hB1 : Below w.heap.size w w2 := HBx.out.trans (hb1'.mono HBx.out.size)
    have hbw : w.heap.size ≤ b := by have := HBe.out; have := HSz.out; have e9 : W1.drew.heap.size = W1.heap.size := rfl; omega
    have HOw := hid hown
    have HF := hid hf
    have HZ := hid hz
    have HB1 := hid hB1
    have HB2 : Hid (Below w.heap.size w w3) := hid (hB1.grown hg hB1.size (fun k hk => by injection hk with hk; omega))
    clear hown hf hg hz hb1 hb1' hsrc hk1 hB1
    go_wp2
    go_ret
    refine ⟨_, zs, rfl, ?_, HZ.out, HF.out, HB2.out⟩
    refine ⟨HOw.out.1, ?_⟩
    rcases HOw.out.2 with h2 | ⟨g, cp, cur, e, hg, rest⟩
    · exact .inl h2
    · exact .inr ⟨g, cp, cur, e, Nat.le_trans HB1.out.size hg, rest⟩
end Go.Proofs.Ytjdeoiohbbnmeaa.envOf

/- The neighbours of a router, as a list; of no program; conditions: none. -/
namespace Go.Proofs.Ytjdeoiohbbnmeaa.nbSem
open Go.RowKit Go.Deep base netSem intsOwn
set_option linter.unusedVariables false

def nbB (g : R) (nl : Nat) (down : List Bool) (router : Int) (k : Nat) : Bool := decide (0 ≤ linkAt g nl router k) && !(down[(linkAt g nl router k).toNat]?.getD false)
def nbL (g : R) (nl : Nat) (down : List Bool) (router : Int) (n : Nat) : List Int := ((List.range n).filter (nbB g nl down router)).map (fun k : Nat => (k : Int))
theorem nbL_succ (g : R) (nl : Nat) (down : List Bool) (router : Int) (k : Nat) : nbL g nl down router (k + 1) = nbL g nl down router k ++ (if nbB g nl down router k then [(k : Int)] else []) := by
  unfold nbL
  rw [List.range_succ, List.filter_append, List.map_append]
  by_cases h : nbB g nl down router k = true
  · simp [h]
  · simp [h]
theorem nbL_len (g : R) (nl : Nat) (down : List Bool) (router : Int) (n : Nat) : (nbL g nl down router n).length ≤ n := by
  unfold nbL
  rw [List.length_map]
  exact Nat.le_trans (List.length_filter_le _ _) (by simp)
def nbC (ok : Bool) (r nl dl : Nat) (router : Int) : Int := if 4096 < dl then 2 else if ok = false then 1 else if inB router 0 (r - 1) = false ∨ dl ≠ nl then 5 else 0
def nbA (ok : Bool) (r nl dl : Nat) (router : Int) (g : R) (down : List Bool) : List Int := if nbC ok r nl dl router = 0 then nbL g nl down router r else []
theorem nbA_len (ok : Bool) (r nl dl : Nat) (router : Int) (g : R) (down : List Bool) : (nbA ok r nl dl router g down).length ≤ r := by
  unfold nbA
  split
  · exact nbL_len _ _ _ _ _
  · exact Nat.zero_le _
theorem nb_no {ok : Bool} {r nl dl : Nat} {router : Int} {g : R} {down : List Bool} {c : Int} (h : nbC ok r nl dl router = c) (hc : c ≠ 0) : nbA ok r nl dl router g down = [] := by
  unfold nbA; rw [if_neg (by rw [h]; exact hc)]
theorem own_empty (B N : Nat) (w : World) (hB : B ≤ w.heap.size) (hN : w.heap.size = N) : OwnInts B (w.alloc (.cells #[] 3)) (.slice (some ⟨N, 0, none⟩) 0 0) [] := by
  subst hN
  exact ⟨rfl, .inr ⟨w.heap.size, 0, #[], rfl, hB, heap_alloc_new w _, Nat.le_refl _, Nat.zero_le _, rfl, rfl⟩⟩
end Go.Proofs.Ytjdeoiohbbnmeaa.nbSem

/- Routes: rows of them in memory, and which is the best, as plain functions; of no program but its types; conditions: none. -/
namespace Go.Proofs.Ytjdeoiohbbnmeaa.routeRow
open Go.RowKit Go.Deep base
set_option linter.unusedVariables false

structure Rt where
  via : Int
  pref : Int
  len : Int
  mark : Bool
def rtV (r : Rt) : Value := .agg #[.int .i64 r.via, .int .i64 r.pref, .int .i64 r.len, .bool r.mark]
def rc (r : Rt) : Nat → Value
  | 0 => .int .i64 r.via
  | 1 => .int .i64 r.pref
  | 2 => .int .i64 r.len
  | _ => .bool r.mark
abbrev Rs := Nat → Rt
/-- A slice of routes. -/
structure RtRow (w : World) (a : Option Addr) (len : Nat) (g : Rs) : Prop where
  most : len ≤ maxLen
  cell : ∀ i, i < len → ∃ b off, a = some ⟨b, off, none⟩ ∧ ∀ j, j < 4 → w.cell? ⟨b, off + i * 4 + j, none⟩ = some (rc (g i) j)
theorem RtRow.kept {W w1 : World} {a : Option Addr} {len : Nat} {g : Rs} (h : RtRow W a len g) (hk : ∀ b o v, W.cell? ⟨b, o, none⟩ = some v → w1.cell? ⟨b, o, none⟩ = some v) : RtRow w1 a len g :=
  ⟨h.most, fun i hi => by
    obtain ⟨b, off, e, h0⟩ := h.cell i hi
    exact ⟨b, off, e, fun j hj => hk _ _ _ (h0 j hj)⟩⟩
theorem RtRow.below {W w1 : World} {a : Option Addr} {len : Nat} {g : Rs} (h : RtRow W a len g) (hb : Below W.heap.size W w1) : RtRow w1 a len g := h.kept fun b o v hv => keep hb hv
theorem RtRow.at4 {w : World} {a : Option Addr} {len i : Nat} {g : Rs} (h : RtRow w a len g) (hi : i < len) : ∃ b off, a = some ⟨b, off, none⟩ ∧ w.cell? ⟨b, off + i * 4, none⟩ = some (.int .i64 (g i).via) ∧ w.cell? ⟨b, off + i * 4 + 1, none⟩ = some (.int .i64 (g i).pref) ∧ w.cell? ⟨b, off + i * 4 + 2, none⟩ = some (.int .i64 (g i).len) ∧ w.cell? ⟨b, off + i * 4 + 3, none⟩ = some (.bool (g i).mark) := by
  obtain ⟨b, off, e, hc⟩ := h.cell i hi
  exact ⟨b, off, e, hc 0 (by omega), hc 1 (by omega), hc 2 (by omega), hc 3 (by omega)⟩
theorem RtRow.at0 {w : World} {a : Option Addr} {len : Nat} {g : Rs} (h : RtRow w a len g) (hi : 0 < len) : ∃ b off, a = some ⟨b, off, none⟩ ∧ w.cell? ⟨b, off, none⟩ = some (.int .i64 (g 0).via) ∧ w.cell? ⟨b, off + 1, none⟩ = some (.int .i64 (g 0).pref) ∧ w.cell? ⟨b, off + 2, none⟩ = some (.int .i64 (g 0).len) ∧ w.cell? ⟨b, off + 3, none⟩ = some (.bool (g 0).mark) := by
  obtain ⟨b, off, e, h0, h1, h2, h3⟩ := h.at4 hi
  exact ⟨b, off, e, by simpa using h0, by simpa using h1, by simpa using h2, by simpa using h3⟩

/-- A route is better than another one. -/
def better (a b : Rt) : Bool := if a.pref = b.pref then (if a.len = b.len then decide (a.via < b.via) else decide (a.len < b.len)) else decide (b.pref < a.pref)
/-- The first of the best of the first k + 1. -/
def bestTo (g : Rs) : Nat → Rt
  | 0 => g 0
  | k + 1 => if better (g (k + 1)) (bestTo g k) = true then g (k + 1) else bestTo g k
theorem best_yes {g : Rs} {k : Nat} (h : better (g (k + 1)) (bestTo g k) = true) : bestTo g (k + 1) = g (k + 1) := by simp only [bestTo]; rw [if_pos h]
theorem best_no {g : Rs} {k : Nat} (h : better (g (k + 1)) (bestTo g k) = false) : bestTo g (k + 1) = bestTo g k := by simp only [bestTo]; rw [if_neg (by rw [h]; exact Bool.false_ne_true)]

/-- A row of routes in block N of its own, of which the first k are laid. -/
structure RtLaid (w : World) (N len k : Nat) (g : Rs) : Prop where
  row : ∃ f, w.rowIs N 45 (len * 4) f ∧ ∀ i, i < k → ∀ j, j < 4 → f (i * 4 + j) = rc (g i) j
theorem RtLaid.is {w : World} {N len : Nat} {g : Rs} (h : RtLaid w N len len g) (hm : len ≤ maxLen) : RtRow w (some ⟨N, 0, none⟩) len g := by
  obtain ⟨f, hf, hc⟩ := h.row
  refine ⟨hm, fun i hi => ⟨N, 0, rfl, fun j hj => ?_⟩⟩
  rw [← hc i hi j hj]
  simpa using hf.cell (i := i * 4 + j) (by omega)
theorem RtLaid.below {w w1 : World} {N len k : Nat} {g : Rs} (h : RtLaid w N len k g) (hb : Below w.heap.size w w1) : RtLaid w1 N len k g := by
  obtain ⟨f, hf, hc⟩ := h.row
  exact ⟨f, hf.of_block (hb.block _ hf.lt), hc⟩
theorem RtLaid.next {w : World} {N len k : Nat} {g : Rs} (h : RtLaid w N len k g) (hk : k < len) : RtLaid ((((w.setCell ⟨N, k * 4, none⟩ (.int .i64 (g k).via)).setCell ⟨N, k * 4 + 1, none⟩ (.int .i64 (g k).pref)).setCell ⟨N, k * 4 + 2, none⟩ (.int .i64 (g k).len)).setCell ⟨N, k * 4 + 3, none⟩ (.bool (g k).mark)) N len (k + 1) g := by
  obtain ⟨f, hf, hc⟩ := h.row
  refine ⟨_, ((((hf.set (k * 4) _).set (k * 4 + 1) _).set (k * 4 + 2) _).set (k * 4 + 3) _), fun i hi j hj => ?_⟩
  by_cases e : i = k
  · subst e
    match j, hj with
    | 0, _ => rw [if_neg (by omega), if_neg (by omega), if_neg (by omega), if_pos (by omega)]; rfl
    | 1, _ => rw [if_neg (by omega), if_neg (by omega), if_pos rfl]; rfl
    | 2, _ => rw [if_neg (by omega), if_pos rfl]; rfl
    | 3, _ => rw [if_pos rfl]; rfl
    | j + 4, hj => exact absurd hj (by omega)
  · rw [if_neg (by omega), if_neg (by omega), if_neg (by omega), if_neg (by omega)]
    exact hc i (by omega) j hj

theorem info_Route : (Try.prog.info? 45).map (fun i => (i.zero, i.size, i.bytes)) = some (some (.agg #[.int .i64 0, .int .i64 0, .int .i64 0, .bool false]), 4, 32) := by kernel_rfl
theorem run_make_Route (n : Nat) (h : n ≤ 1048576) (w : World) :
    (Instr.makeSlice 42 (.int .i64 (n : Int)) (.int .i64 (n : Int))).run Try.prog w = .ok (.slice (some ⟨w.heap.size, 0, none⟩) n n) (w.alloc (.cells (madeCells #[.int .i64 0, .int .i64 0, .int .i64 0, .bool false] (n * 4)) 45)) := by
  obtain ⟨i, hi, hzz⟩ := Option.map_eq_some_iff.1 info_Route
  simp only [Prod.mk.injEq] at hzz
  obtain ⟨hz, hs, hb⟩ := hzz
  have hr := run_make (P := Try.prog) w 42 45 i _ Try.underlying42 hi hz .i64 .i64 n n (by omega) (Int.le_refl _) (by rw [hb]; omega) (by omega)
  simp only [Int.toNat_natCast, hs] at hr
  exact hr

end Go.Proofs.Ytjdeoiohbbnmeaa.routeRow

/- What a router could have, as plain functions; of no program; conditions: none. -/
namespace Go.Proofs.Ytjdeoiohbbnmeaa.candSem
open Go.RowKit Go.Deep base netSem nbSem intsOwn routeRow
set_option linter.unusedVariables false

def hasAt (z : List Int) (v : Int) : Int := firstAt (fun i => decide (zAt z i = v)) z.length
/-- A way by Vias comes to a router, or goes round. -/
def thru (rs : Rs) (router : Int) : Nat → Int → Bool
  | 0, _ => true
  | f + 1, k => if k = router then true else if k < 0 then false else if (rs k.toNat).via < 0 then false else thru rs router f (rs k.toNat).via
def skipB (x : R) (router fr : Int) (i : Nat) (mark : Bool) : Bool := decide (x i 0 ≠ router) || decide (x i 1 ≠ fr) || (decide (x i 2 = 1) && !mark) || (decide (x i 2 = 2) && mark)
def stepI (x : R) (router fr : Int) (i : Nat) (r : Rt) : Option Rt :=
  if skipB x router fr i r.mark = true then some r
  else if x i 3 = 1 then none else if x i 3 = 2 then some { r with pref := x i 4 } else some { r with mark := decide (x i 3 = 3) }
def impK (x : R) (router fr : Int) (r0 : Rt) : Nat → Option Rt
  | 0 => some r0
  | k + 1 => (impK x router fr r0 k).bind (stepI x router fr k)
def noRt : Rt := ⟨-3, 0, 0, false⟩
theorem impK_none {x : R} {router fr : Int} {r0 : Rt} {k m : Nat} (h : impK x router fr r0 k = none) (hkm : k ≤ m) : impK x router fr r0 m = none := by
  induction m with
  | zero => rwa [Nat.le_zero.1 hkm] at h
  | succ m ih =>
    by_cases e : k = m + 1
    · rwa [← e]
    · simp only [impK]
      rw [ih (by omega)]
      rfl
theorem impK_via {x : R} {router fr : Int} {r0 r : Rt} {k : Nat} (h : impK x router fr r0 k = some r) : r.via = r0.via ∧ r.len = r0.len := by
  induction k generalizing r with
  | zero => simp only [impK, Option.some.injEq] at h; subst h; exact ⟨rfl, rfl⟩
  | succ k ih =>
    simp only [impK] at h
    cases e : impK x router fr r0 k with
    | none => rw [e] at h; cases h
    | some q =>
      rw [e] at h
      obtain ⟨h1, h2⟩ := ih e
      simp only [Option.bind_some, stepI] at h
      split at h
      · injection h with h; subst h; exact ⟨h1, h2⟩
      · split at h
        · cases h
        · split at h
          · injection h with h; subst h; exact ⟨h1, h2⟩
          · injection h with h; subst h; exact ⟨h1, h2⟩
def startI (fr cost : Int) (r : Rt) : Rt := ⟨fr, 100, r.len + cost, r.mark⟩
/-- What a router makes of a neighbour's route. -/
def impR (g : R) (nl : Nat) (x : R) (nx : Nat) (router fr : Int) (r : Rt) : Option Rt := impK x router fr (startI fr (g (linkAt g nl router fr).toNat 2) r) nx
/-- What a router could have by a neighbour. -/
def candOf (g : R) (nl : Nat) (x : R) (nx : Nat) (rs : Rs) (n : Nat) (router j : Int) : List Rt :=
  if (rs j.toNat).via = -3 then [] else if thru rs router (n + 1) j = true then [] else match impR g nl x nx router j (rs j.toNat) with
    | some r => [r]
    | none => []
def ownC (o : List Int) (router : Int) : List Rt := if 0 ≤ hasAt o router then [⟨-2, 200, 0, false⟩] else []
def extC (e env : List Int) (router : Int) : List Rt := if 0 ≤ hasAt e router ∧ 0 < zAt env (hasAt e router).toNat then [⟨-1, 100, 2, decide (zAt env (hasAt e router).toNat = 2)⟩] else []
def candL (g : R) (nl : Nat) (o e : List Int) (x : R) (nx : Nat) (env : List Int) (ds : List Bool) (rs : Rs) (n : Nat) (router : Int) : List Rt :=
  ownC o router ++ extC e env router ++ (nbL g nl ds router n).flatMap (candOf g nl x nx rs n router)
theorem ownC_len (o : List Int) (router : Int) : (ownC o router).length ≤ 1 := by unfold ownC; split <;> simp
theorem extC_len (e env : List Int) (router : Int) : (extC e env router).length ≤ 1 := by unfold extC; split <;> simp
theorem candOf_len (g : R) (nl : Nat) (x : R) (nx : Nat) (rs : Rs) (n : Nat) (router j : Int) : (candOf g nl x nx rs n router j).length ≤ 1 := by
  unfold candOf
  split
  · simp
  · split
    · simp
    · split <;> simp
theorem flat_len {f : Int → List Rt} (h : ∀ j, (f j).length ≤ 1) (z : List Int) : (z.flatMap f).length ≤ z.length := by
  induction z with
  | nil => simp
  | cons a z ih => simp only [List.flatMap_cons, List.length_append, List.length_cons]; have := h a; omega

/-- An owned slice of routes. -/
def rcs (r : Rt) : List Value := [.int .i64 r.via, .int .i64 r.pref, .int .i64 r.len, .bool r.mark]
def OwnRts (B : Nat) (w : World) (v : Value) (zs : List Rt) : Prop := w.ownsRow B 45 4 v zs.length (zs.flatMap rcs)
theorem OwnRts.mono {B B' : Nat} {w : World} {v : Value} {zs : List Rt} (h : OwnRts B w v zs) (hB : B' ≤ B) : OwnRts B' w v zs := by
  obtain ⟨h1, h2⟩ := h
  refine ⟨h1, ?_⟩
  rcases h2 with h | ⟨g, cap, cur, e, hb, hr⟩
  · exact .inl h
  · exact .inr ⟨g, cap, cur, e, Nat.le_trans hB hb, hr⟩
theorem rts_empty (B N : Nat) (w : World) (hB : B ≤ w.heap.size) (hN : w.heap.size = N) : OwnRts B (w.alloc (.cells #[] 45)) (.slice (some ⟨N, 0, none⟩) 0 0) [] := by
  subst hN
  exact ⟨rfl, .inr ⟨w.heap.size, 0, #[], rfl, hB, heap_alloc_new w _, Nat.le_refl _, Nat.zero_le _, rfl, rfl⟩⟩
end Go.Proofs.Ytjdeoiohbbnmeaa.candSem
