/- RtsHeld; NoRts; RtsRow; Order; Compare; BestRoute: one text, so that the claim has fewer files. -/
import Derived.Test.YtjdeoiohbbnmeaaPart11
import Derived.Test.YtjdeoiohbbnmeaaPart4
import Derived.Test.YtjdeoiohbbnmeaaPart20
import Derived.Laws.CopyOwn
import Derived.BigRegion
import Derived.Test.YtjdeoiohbbnmeaaPart1
import Derived.Lib.SlicesCompact
import Derived.Test.YtjdeoiohbbnmeaaDrawn
/- Routes that hold the marks of a count; of the laws; conditions: the count is small. -/
namespace Go.Proofs.Ytjdeoiohbbnmeaa.rtsHeld
open Go.RowKit Go.Deep Go base routeRow intsOwn candSem
set_option linter.unusedVariables false

/-- What a marked row of routes holds. -/
def markR (n : Int) (i : Nat) : Rt := ⟨n + 4 * i, n + 4 * i + 1, n + 4 * i + 2, (n + 4 * i + 3).tmod 3 == 0⟩

end Go.Proofs.Ytjdeoiohbbnmeaa.rtsHeld

/- Rows of no routes: slices.Repeat of one, of the program; conditions: one to four routers. -/
namespace Go.Proofs.Ytjdeoiohbbnmeaa.noRts
open Go.RowKit Go.Deep Go base routeRow intsOwn candSem rtsHeld
set_option linter.unusedVariables false

def noRs : Rs := fun _ => noRt
/-- The cells of m routes that are none. -/
def noCs (m : Nat) : List Value := (List.range (m * 4)).map fun j => rc noRt (j % 4)
theorem noCs_len (m : Nat) : (noCs m).length = m * 4 := by simp [noCs]
theorem noCs_at {m j : Nat} (h : j < m * 4) : (noCs m)[j]? = some (rc noRt (j % 4)) := by simp [noCs, h]
theorem add0 (X j : Nat) : (⟨X, 0, none⟩ : Addr).add j = ⟨X, j, none⟩ := by
  simp only [Addr.add]
  split
  · rename_i h; rw [h]
  · simp
theorem rc_one (r : Rt) (j : Nat) (h : j < 4) : (rc r j).oneCell' = true := by
  match j, h with
  | 0, _ => rfl
  | 1, _ => rfl
  | 2, _ => rfl
  | 3, _ => rfl
  | j + 4, h => omega
theorem run_copy4 {P : Program} (w : World) (dT sT ty elem : TypeId) (g o dLen dCap : Nat) (a : Addr) (sLen sCap : Nat) (cur : Array Value) (t : TypeId) (cs : List Value)
    (hu : P.underlying dT = some (.slice elem)) (hs : (P.info? elem).map (·.size) = some 4)
    (hg : w.heap[g]? = some (.cells cur t (0, 0))) (hn : cs.length = Nat.min sLen dLen * 4)
    (hsrc : ∀ j v, cs[j]? = some v → w.cell? (a.add j) = some v) (hfit : o + cs.length ≤ cur.size) (h1 : ∀ v ∈ cs, v.oneCell' = true) :
    (Builtin.copy_ #[dT, sT] ty #[.slice (some ⟨g, o, none⟩) dLen dCap, .slice (some a) sLen sCap]).run P w =
      .ok (goInt (Nat.min sLen dLen)) (w.setRow g (cur.toList.take o ++ cs ++ cur.toList.drop (o + cs.length)).toArray) := by
  have hl := run_loadCells_list (P := P) w a cs hsrc
  have hst := run_storeCells_at P g o t cs 0 cur w hg (by simpa using hfit) h1
  cases hq : P.info? elem with
  | none => simp [hq] at hs
  | some i =>
    have hi : i.size = 4 := by simpa [hq] using hs
    simp [Builtin.copy_, run_underlying hu, Builtin.lenOf, Builtin.firstCells, sizeOf, typeInfo, hq, hi, ← hn, hl, hst]
theorem laid_copied {w : World} {N len k m : Nat} {cur : Array Value} (h : RtLaid w N len k noRs) (hg : w.heap[N]? = some (.cells cur 45 (0, 0))) (hk : k + m ≤ len) :
    RtLaid (w.setRow N (cur.toList.take (k * 4) ++ noCs m ++ cur.toList.drop (k * 4 + (noCs m).length)).toArray) N len (k + m) noRs := by
  obtain ⟨f, ⟨cur', h1, h2, h3⟩, hc⟩ := h.row
  rw [hg] at h1
  injection h1 with h1
  injection h1 with h1
  subst h1
  have hl := noCs_len m
  refine ⟨fun i => (cur.toList.take (k * 4) ++ noCs m ++ cur.toList.drop (k * 4 + (noCs m).length))[i]?.getD undef, ⟨_, setRow_heap w N cur _ _ _ hg, by simp [hl]; omega, fun i hi => ?_⟩, fun i hi j hj => ?_⟩
  · have h9 : i < (cur.toList.take (k * 4) ++ noCs m ++ cur.toList.drop (k * 4 + (noCs m).length)).length := by simp [hl]; omega
    simp only [List.getElem?_toArray]
    rw [List.getElem?_eq_getElem h9, Option.getD_some]
  · show (cur.toList.take (k * 4) ++ noCs m ++ cur.toList.drop (k * 4 + (noCs m).length))[i * 4 + j]?.getD undef = _
    by_cases hik : i < k
    · rw [List.append_assoc, List.getElem?_append_left (by simp; omega), List.getElem?_take_of_lt (by omega), Array.getElem?_toList, h3 (i * 4 + j) (by omega)]
      exact hc i hik j hj
    · rw [List.getElem?_append_left (by simp [hl]; omega), List.getElem?_append_right (by simp; omega)]
      rw [show i * 4 + j - (cur.toList.take (k * 4)).length = (i - k) * 4 + j by simp; omega, noCs_at (by omega)]
      simp only [Option.getD_some, noRs]
      rw [show ((i - k) * 4 + j) % 4 = j by omega]
open Go.RowKit in
theorem wpList_copy_laid {P : Program} {w : World} {ops : Array Oper} {rest : List Oper} {o : Oper} {a : Act} {Q : Exit → Act → World → Prop} (hgd : o.guard = none) (d s : Operand) (dT sT : TypeId)
    (ho : o.op = .call { callee := .builtin .copy, args := #[d, s], argTypes := #[dT, sT] }) (elem : TypeId) (hu : P.underlying dT = some (.slice elem)) (hsz : (P.info? elem).map (·.size) = some 4)
    (N len k m dLen dCap : Nat) (ad : Addr) (sLen sCap : Nat) (hd : a.eval d = .slice (some ⟨N, k * 4, none⟩) dLen dCap) (hs : a.eval s = .slice (some ad) sLen sCap)
    (hl : RtLaid w N len k noRs) (hm : m = Nat.min sLen dLen) (hk : k + m ≤ len) (hsrc : ∀ j, j < m * 4 → w.cell? (ad.add j) = some (rc noRt (j % 4)))
    (B : Nat) (w0 : World) (hb : Below B w0 w) (hBg : B ≤ N)
    (h : ∀ w', Hid (RtLaid w' N len (k + m) noRs) → Hid (Below B w0 w') → wpList P ops Q rest (a.put o.dst (goInt m)) w') :
    wpList P ops Q (o :: rest) a w := by
  obtain ⟨f, ⟨cur, h1, h2, h3⟩, hc⟩ := hl.row
  have hrun := run_copy4 (P := P) w dT sT o.type elem N (k * 4) dLen dCap ad sLen sCap cur _ (noCs m) hu hsz h1 (by rw [noCs_len, hm]) (fun j v hv => by
    by_cases hj : j < m * 4
    · rw [noCs_at hj] at hv
      injection hv with hv
      rw [← hv]
      exact hsrc j hj
    · rw [List.getElem?_eq_none (by rw [noCs_len]; omega)] at hv
      cases hv) (by rw [noCs_len, h2]; omega) (fun v hv => by
    obtain ⟨j, _, rfl⟩ := List.mem_map.1 hv
    exact rc_one _ _ (Nat.mod_lt _ (by decide)))
  refine wpList_plain hgd fun K hK => ?_
  unfold Oper.wp
  simp [execOp, ho, resolve, invoke, builtin, hd, hs, hrun, Result.andThen]
  rw [← hm]
  exact hK _ _ (h _ (show RtLaid _ _ _ _ _ by simpa using laid_copied hl h1 hk) (below_setRow hb hBg _))
open Go.RowKit in
theorem run_copy_laid {P : Program} {w : World} (dT sT ty elem : TypeId) (hu : P.underlying dT = some (.slice elem)) (hsz : (P.info? elem).map (·.size) = some 4)
    (N len k m dLen dCap : Nat) (ad : Addr) (sLen sCap : Nat) (hl : RtLaid w N len k noRs) (hm : m = Nat.min sLen dLen) (hk : k + m ≤ len) (hsrc : ∀ j, j < m * 4 → w.cell? (ad.add j) = some (rc noRt (j % 4)))
    (B : Nat) (w0 : World) (hb : Below B w0 w) (hBg : B ≤ N) :
    ∃ w', (Builtin.copy_ #[dT, sT] ty #[.slice (some ⟨N, k * 4, none⟩) dLen dCap, .slice (some ad) sLen sCap]).run P w = .ok (.int .i64 (m : Int)) w' ∧ RtLaid w' N len (k + m) noRs ∧ Below B w0 w' := by
  obtain ⟨f, ⟨cur, h1, h2, h3⟩, hc⟩ := hl.row
  have hrun := run_copy4 (P := P) w dT sT ty elem N (k * 4) dLen dCap ad sLen sCap cur _ (noCs m) hu hsz h1 (by rw [noCs_len, hm]) (fun j v hv => by
    by_cases hj : j < m * 4
    · rw [noCs_at hj] at hv
      injection hv with hv
      rw [← hv]
      exact hsrc j hj
    · rw [List.getElem?_eq_none (by rw [noCs_len]; omega)] at hv
      cases hv) (by rw [noCs_len, h2]; omega) (fun v hv => by
    obtain ⟨j, _, rfl⟩ := List.mem_map.1 hv
    exact rc_one _ _ (Nat.mod_lt _ (by decide)))
  rw [← hm] at hrun
  exact ⟨_, hrun, laid_copied hl h1 hk, below_setRow hb hBg _⟩
theorem size4 : (Try.prog.info? 45).map (·.size) = some 4 := by kernel_rfl

end Go.Proofs.Ytjdeoiohbbnmeaa.noRts

/- Owned rows of routes, told by their cells; conditions: none. -/
namespace Go.Proofs.Ytjdeoiohbbnmeaa.rtsRow
open Go.RowKit Go.Deep Go base netSem nbSem intsOwn routeRow candSem
set_option linter.unusedVariables false

/-- Routes of a list, as a function. -/
def rF (zs : List Rt) (i : Nat) : Rt := zs[i]?.getD noRt
theorem flat_at (zs : List Rt) (i j : Nat) (hi : i < zs.length) (hj : j < 4) : (zs.flatMap rcs)[i * 4 + j]? = some (rc (rF zs i) j) := by
  induction zs generalizing i with
  | nil => exact absurd hi (Nat.not_lt_zero _)
  | cons a zs ih =>
    simp only [List.flatMap_cons]
    match i with
    | 0 =>
      rw [List.getElem?_append_left (by simp [rcs]; omega)]
      match j, hj with
      | 0, _ => simp [rcs, rc, rF]
      | 1, _ => simp [rcs, rc, rF]
      | 2, _ => simp [rcs, rc, rF]
      | 3, _ => simp [rcs, rc, rF]
      | j + 4, hj => exact absurd hj (by omega)
    | i + 1 =>
      rw [List.getElem?_append_right (by simp [rcs]; omega), show (i + 1) * 4 + j - (rcs a).length = i * 4 + j by simp [rcs]; omega]
      rw [ih i (by simp only [List.length_cons] at hi; omega)]
      simp [rF]
theorem rts_form {B : Nat} {w : World} {v : Value} {zs : List Rt} (h : OwnRts B w v zs) : ∃ a c, v = .slice a zs.length c ∧ RtRow w a zs.length (rF zs) := by
  obtain ⟨h1, h2⟩ := h
  rcases h2 with ⟨rfl, h0⟩ | ⟨g, cap, cur, rfl, hb, hh, hc, hm, hs, ht⟩
  · rw [h0]
    exact ⟨none, 0, rfl, by unfold maxLen; omega, fun i hi => absurd hi (Nat.not_lt_zero _)⟩
  · refine ⟨some ⟨g, 0, none⟩, cap, rfl, Nat.le_trans hc hm, fun i hi => ⟨g, 0, rfl, fun j hj => ?_⟩⟩
    have h7 := flat_at zs i j hi hj
    rw [← ht, List.getElem?_take_of_lt (by omega)] at h7
    rw [Nat.zero_add]
    simp only [World.cell?, hh]
    simpa using h7
theorem rts_row {B : Nat} {w : World} {a : Option Addr} {n c : Nat} {zs : List Rt} (h : OwnRts B w (.slice a n c) zs) : RtRow w a n (rF zs) := by
  obtain ⟨a', c', e, hr⟩ := rts_form h
  have e1 : a = a' := by injection e
  have e2 : n = zs.length := by injection e
  subst e1 e2
  exact hr
theorem rts_blocks {B : Nat} {w w1 : World} {v : Value} {zs : List Rt} (h : OwnRts B w v zs) (hb : ∀ g, v.ownBlock = some g → g < w.heap.size → w1.heap[g]? = w.heap[g]?) : OwnRts B w1 v zs := by
  obtain ⟨h1, h2⟩ := h
  refine ⟨h1, ?_⟩
  rcases h2 with h2 | ⟨g, cap, cur, rfl, hgB, hh, hn⟩
  · exact .inl h2
  · exact .inr ⟨g, cap, cur, rfl, hgB, (hb g rfl (Array.getElem?_eq_some_iff.1 hh).1).trans hh, hn⟩
theorem rts_low {B : Nat} {w w1 : World} {v : Value} {zs : List Rt} (h : OwnRts B w v zs) (hb : Below w.heap.size w w1) : OwnRts B w1 v zs := rts_blocks h fun g _ hg => hb.block g hg
theorem rts_keeps {B : Nat} {w w1 : World} {v : Value} {zs : List Rt} {row : Option Nat} (h : OwnRts B w v zs) (hg : w.grownBy w1 row) (hne : ∀ g, v.ownBlock = some g → some g ≠ row) : OwnRts B w1 v zs := rts_blocks h fun g e hgl => hg.block g hgl (hne g e)
theorem rts_lt {B g : Nat} {w : World} {v : Value} {zs : List Rt} (h : OwnRts B w v zs) (hg : v.ownBlock = some g) : B ≤ g ∧ g < w.heap.size := World.ownsRow.lt h g hg
/-- The best of a list, or none. -/
def bst (zs : List Rt) : Rt := if zs.length = 0 then noRt else bestTo (rF zs) (zs.length - 1)
theorem bst_nil {zs : List Rt} (h : zs.length = 0) : bst zs = noRt := by unfold bst; rw [if_pos h]
theorem bst_some {zs : List Rt} (h : 0 < zs.length) : bst zs = bestTo (rF zs) (zs.length - 1) := by unfold bst; rw [if_neg (by omega)]
end Go.Proofs.Ytjdeoiohbbnmeaa.rtsRow

/- Literals in order: lists that rise by the order of literals, what is put into them, and what sorting and striking repeats comes to; of no program; conditions: none. -/
namespace Go.Proofs.Ytjdeoiohbbnmeaa.order
open Go.Lib

/-- The place of a literal in the order. -/
def rk (l : Int) : Int := if l < 0 then -2 * l + 1 else 2 * l
theorem rk_inj {a b : Int} (h : rk a = rk b) : a = b := by
  unfold rk at h
  split at h <;> split at h <;> omega
def SS (r : List Int) : Prop := r.Pairwise (fun x y => rk x < rk y)
theorem SS.uniq : ∀ {a b : List Int}, SS a → SS b → (∀ x, x ∈ a ↔ x ∈ b) → a = b
  | [], [], _, _, _ => rfl
  | [], y :: b, _, _, h => absurd ((h y).2 (List.mem_cons_self ..)) (by simp)
  | x :: a, [], _, _, h => absurd ((h x).1 (List.mem_cons_self ..)) (by simp)
  | x :: a, y :: b, ha, hb, h => by
    have ha' := List.pairwise_cons.1 ha
    have hb' := List.pairwise_cons.1 hb
    have e : x = y := by
      rcases List.mem_cons.1 ((h x).1 (List.mem_cons_self ..)) with e | hx
      · exact e
      · rcases List.mem_cons.1 ((h y).2 (List.mem_cons_self ..)) with e | hy
        · exact e.symm
        · have h1 := hb'.1 x hx
          have h2 := ha'.1 y hy
          omega
    subst e
    have ht : a = b := SS.uniq ha'.2 hb'.2 (fun z => by
      have hz := h z
      simp only [List.mem_cons] at hz
      constructor
      · intro hm
        rcases hz.1 (.inr hm) with rfl | h2
        · have := ha'.1 z hm; omega
        · exact h2
      · intro hm
        rcases hz.2 (.inr hm) with rfl | h2
        · have := hb'.1 z hm; omega
        · exact h2)
    rw [ht]
/-- A literal put into a list in order, at the place that a loop has found. -/
def insAt (k : Nat) (c : Int) (out : List Int) : List Int := out.take k ++ [c] ++ out.drop k
theorem SS.insAt {out : List Int} {c : Int} {k : Nat} (hs : SS out) (hk : k ≤ out.length) (hb : ∀ i (h : i < k), rk (out[i]'(Nat.lt_of_lt_of_le h hk)) < rk c) (hn : ∀ (h : k < out.length), rk c < rk out[k]) : SS (insAt k c out) := by
  have h1 : (out.take k ++ out.drop k).Pairwise (fun x y => rk x < rk y) := by rw [List.take_append_drop]; exact hs
  rw [List.pairwise_append] at h1
  obtain ⟨p1, p2, p3⟩ := h1
  have hlow : ∀ x ∈ out.take k, rk x < rk c := fun x hx => by
    obtain ⟨i, hi, rfl⟩ := List.getElem_of_mem hx
    rw [List.getElem_take]
    exact hb i (by rw [List.length_take] at hi; omega)
  have hhigh : ∀ y ∈ out.drop k, rk c < rk y := fun y hy => by
    have hlt : k < out.length := by
      rcases Nat.lt_or_ge k out.length with h | h
      · exact h
      · rw [List.drop_of_length_le h] at hy; cases hy
    rw [List.drop_eq_getElem_cons hlt] at hy p2
    rcases List.mem_cons.1 hy with rfl | hy
    · exact hn hlt
    · have := (List.pairwise_cons.1 p2).1 y hy
      have := hn hlt
      omega
  unfold order.insAt SS
  rw [List.append_assoc, List.pairwise_append]
  refine ⟨p1, ?_, ?_⟩
  · rw [List.singleton_append, List.pairwise_cons]
    exact ⟨hhigh, p2⟩
  · intro x hx y hy
    rw [List.singleton_append] at hy
    rcases List.mem_cons.1 hy with rfl | hy
    · exact hlow x hx
    · exact p3 x hx y hy
theorem mem_insAt {out : List Int} {c x : Int} {k : Nat} : x ∈ insAt k c out ↔ x = c ∨ x ∈ out := by
  unfold insAt
  have : x ∈ out ↔ x ∈ out.take k ∨ x ∈ out.drop k := by rw [← List.mem_append, List.take_append_drop]
  rw [this]
  simp only [List.mem_append, List.mem_singleton]
  constructor
  · rintro ((h | h) | h)
    · exact .inr (.inl h)
    · exact .inl h
    · exact .inr (.inr h)
  · rintro (h | h | h)
    · exact .inl (.inr h)
    · exact .inl (.inl h)
    · exact .inr h
theorem length_insAt {out : List Int} {c : Int} {k : Nat} (hk : k ≤ out.length) : (insAt k c out).length = out.length + 1 := by
  unfold insAt
  simp only [List.length_append, List.length_take, List.length_drop, List.length_cons, List.length_nil]
  omega

theorem rk_le_of_sorted {d : Array Int} (hd : ∀ i j, i < j → j < d.size → rk d[i]! ≤ rk d[j]!) {i j : Nat} (h : i ≤ j) (hj : j < d.size) : rk d[i]! ≤ rk d[j]! := by
  rcases Nat.lt_or_eq_of_le h with h | rfl
  · exact hd i j h hj
  · exact Int.le_refl _
/-- Striking repeats of a list that does not fall: it rises, and holds the same. -/
theorem compactUpTo_rises (d : Array Int) (hd : ∀ i j, i < j → j < d.size → rk d[i]! ≤ rk d[j]!) : ∀ m, m ≤ d.size → SS (compactUpTo d m) ∧ (∀ x, x ∈ compactUpTo d m ↔ ∃ j, j < m ∧ d[j]! = x)
  | 0, _ => ⟨by simp [compactUpTo, SS], fun x => by simp [compactUpTo]⟩
  | m + 1, hm => by
    obtain ⟨h1, h2⟩ := compactUpTo_rises d hd m (by omega)
    rw [compactUpTo_succ]
    by_cases hk : keeps d m = true
    · rw [if_pos hk]
      refine ⟨?_, fun x => ?_⟩
      · unfold SS
        rw [List.pairwise_append]
        refine ⟨h1, by simp, fun x hx y hy => ?_⟩
        obtain ⟨j, hj, rfl⟩ := (h2 x).1 hx
        rw [List.mem_singleton] at hy
        subst hy
        have hne : d[m]! ≠ d[m - 1]! := by
          simp only [keeps, decide_eq_true_eq] at hk
          rcases hk with h | h
          · omega
          · exact h
        have ha : rk d[j]! ≤ rk d[m - 1]! := rk_le_of_sorted hd (by omega) (by omega)
        have hb : rk d[m - 1]! ≤ rk d[m]! := rk_le_of_sorted hd (by omega) (by omega)
        have hc : rk d[m - 1]! ≠ rk d[m]! := fun h => hne (rk_inj h).symm
        omega
      · rw [List.mem_append, List.mem_singleton, h2 x]
        constructor
        · rintro (⟨j, hj, e⟩ | rfl)
          · exact ⟨j, by omega, e⟩
          · exact ⟨m, by omega, rfl⟩
        · rintro ⟨j, hj, e⟩
          rcases Nat.lt_or_ge j m with h | h
          · exact .inl ⟨j, h, e⟩
          · exact .inr (by rw [← e, show j = m by omega])
    · rw [if_neg hk, List.append_nil]
      refine ⟨h1, fun x => ?_⟩
      rw [h2 x]
      have hk' : m ≠ 0 ∧ d[m]! = d[m - 1]! := by
        have : ¬ (m = 0 ∨ d[m]! ≠ d[m - 1]!) := by simpa [keeps] using hk
        exact ⟨fun h => this (.inl h), Classical.byContradiction fun h => this (.inr h)⟩
      constructor
      · rintro ⟨j, hj, e⟩
        exact ⟨j, by omega, e⟩
      · rintro ⟨j, hj, e⟩
        rcases Nat.lt_or_ge j m with h | h
        · exact ⟨j, h, e⟩
        · exact ⟨m - 1, by omega, by rw [← hk'.2, ← e, show j = m by omega]⟩
def rkLe (x y : Int) : Bool := decide (rk x ≤ rk y)
/-- The literals of a list in order, each once. -/
def ord (zs : List Int) : List Int := compact (zs.mergeSort rkLe)
theorem ord_rises (zs : List Int) : SS (ord zs) ∧ (∀ x, x ∈ ord zs ↔ x ∈ zs) := by
  have hs : (zs.mergeSort rkLe).Pairwise (fun a b => rkLe a b = true) := List.pairwise_mergeSort (fun a b c h1 h2 => by simp only [rkLe, decide_eq_true_eq] at *; omega) (fun a b => by simp only [rkLe, Bool.or_eq_true, decide_eq_true_eq]; omega) zs
  have hp : (zs.mergeSort rkLe).Perm zs := List.mergeSort_perm _ _
  have e0 : ord zs = compact (zs.mergeSort rkLe) := rfl
  rw [e0]
  clear e0
  generalize zs.mergeSort rkLe = ms at *
  have hd : ∀ i j, i < j → j < ms.toArray.size → rk ms.toArray[i]! ≤ rk ms.toArray[j]! := fun i j h1 h2 => by
    have h2' : j < ms.length := by simpa using h2
    have := (List.pairwise_iff_getElem.1 hs) i j (by omega) h2' h1
    simp only [rkLe, decide_eq_true_eq] at this
    simpa [getElem!_pos, h2', show i < ms.length by omega] using this
  have h := compactUpTo_rises ms.toArray hd ms.length (by simp)
  refine ⟨h.1, fun x => ?_⟩
  have h2 := h.2 x
  show x ∈ compactUpTo ms.toArray ms.length ↔ _
  rw [h2, ← hp.mem_iff]
  constructor
  · rintro ⟨j, hj, e⟩
    rw [← e]
    simp [getElem!_pos, hj]
  · intro hx
    obtain ⟨j, hj, e⟩ := List.getElem_of_mem hx
    exact ⟨j, hj, by simp [getElem!_pos, hj, e]⟩
theorem ord_eq {zs r : List Int} (hs : SS r) (hm : ∀ x, x ∈ r ↔ x ∈ zs) : ord zs = r :=
  SS.uniq (ord_rises zs).1 hs (fun x => by rw [(ord_rises zs).2 x, hm x])
end Go.Proofs.Ytjdeoiohbbnmeaa.order

/- How the program compares literals; conditions: literals of at most 40 variables. -/
namespace Go.Proofs.Ytjdeoiohbbnmeaa.compare
open Go.RowKit Go.Deep base order

/-- Below nought, nought, above. -/
def sgn (x y : Int) : Int := if x < y then -1 else if y < x then 1 else 0
end Go.Proofs.Ytjdeoiohbbnmeaa.compare

/- The first of the best of a list of routes, of the program and of its specification; conditions: none. -/
namespace Go.Proofs.Ytjdeoiohbbnmeaa.bestRoute
open Go.RowKit Go.Deep base routeRow compare drawn heldStore
set_option linter.unusedVariables false

def bestCode (len : Nat) : Int := if 4096 < len then 2 else if len = 0 then 6 else 0
def zeroRt : Rt := ⟨0, 0, 0, false⟩
def bestOf (len : Nat) (g : Rs) : Rt := if bestCode len = 0 then bestTo g (len - 1) else zeroRt

set_option maxHeartbeats 400000 in
theorem better_spec (x0 x1 x2 y0 y1 y2 : Int) (x3 y3 : Bool) (w : World) :
    Calls Try.prog 76 #[.agg #[.int .i64 x0, .int .i64 x1, .int .i64 x2, .bool x3], .agg #[.int .i64 y0, .int .i64 y1, .int .i64 y2, .bool y3]] w fun e w' => e = .returned (.bool (better ⟨x0, x1, x2, x3⟩ ⟨y0, y1, y2, y3⟩)) ∧ Below w.heap.size w w' := by
  obtain ⟨r, hr⟩ : ∃ r, better ⟨x0, x1, x2, x3⟩ ⟨y0, y1, y2, y3⟩ = r := ⟨_, rfl⟩
  rw [hr]
  unfold better at hr
  simp only at hr
  by_cases h1 : x1 = y1
  · rw [if_pos h1] at hr
    by_cases h2 : x2 = y2
    · rw [if_pos h2] at hr
      have n1 : (x1 != y1) = false := by simp [h1]
      have n2 : (x2 != y2) = false := by simp [h2]
      clear h1 h2
      go_enter Try.func76, Try.ntmps76
      go_wp2
      go_ret
      first | exact ⟨ret_bool hr, (by repeat (first | exact Below.refl _ _ | assumption | refine Below.drew ?_ | refine Below.alloc ?_ (by first | exact Nat.le_refl _ | omega | (simp; done) | (simp; omega)) _ | refine Below.setCell ?_ (by first | exact Nat.le_refl _ | omega | (simp; done) | (simp; omega)) _))⟩ | exact ⟨rfl, (by repeat (first | exact Below.refl _ _ | assumption | refine Below.drew ?_ | refine Below.alloc ?_ (by first | exact Nat.le_refl _ | omega | (simp; done) | (simp; omega)) _ | refine Below.setCell ?_ (by first | exact Nat.le_refl _ | omega | (simp; done) | (simp; omega)) _))⟩
    · rw [if_neg h2] at hr
      have n1 : (x1 != y1) = false := by simp [h1]
      have n2 : (x2 != y2) = true := by simp [h2]
      clear h1 h2
      go_enter Try.func76, Try.ntmps76
      go_wp2
      go_ret
      first | exact ⟨ret_bool hr, (by repeat (first | exact Below.refl _ _ | assumption | refine Below.drew ?_ | refine Below.alloc ?_ (by first | exact Nat.le_refl _ | omega | (simp; done) | (simp; omega)) _ | refine Below.setCell ?_ (by first | exact Nat.le_refl _ | omega | (simp; done) | (simp; omega)) _))⟩ | exact ⟨rfl, (by repeat (first | exact Below.refl _ _ | assumption | refine Below.drew ?_ | refine Below.alloc ?_ (by first | exact Nat.le_refl _ | omega | (simp; done) | (simp; omega)) _ | refine Below.setCell ?_ (by first | exact Nat.le_refl _ | omega | (simp; done) | (simp; omega)) _))⟩
  · rw [if_neg h1] at hr
    have n1 : (x1 != y1) = true := by simp [h1]
    clear h1
    go_enter Try.func76, Try.ntmps76
    go_wp2
    go_ret
    first | exact ⟨ret_bool hr, (by repeat (first | exact Below.refl _ _ | assumption | refine Below.drew ?_ | refine Below.alloc ?_ (by first | exact Nat.le_refl _ | omega | (simp; done) | (simp; omega)) _ | refine Below.setCell ?_ (by first | exact Nat.le_refl _ | omega | (simp; done) | (simp; omega)) _))⟩ | exact ⟨rfl, (by repeat (first | exact Below.refl _ _ | assumption | refine Below.drew ?_ | refine Below.alloc ?_ (by first | exact Nat.le_refl _ | omega | (simp; done) | (simp; omega)) _ | refine Below.setCell ?_ (by first | exact Nat.le_refl _ | omega | (simp; done) | (simp; omega)) _))⟩

/-- What the program holds two routes against each other by. -/
def first (a b : Rt) : Int := if sgn b.pref a.pref = 0 then (if sgn a.len b.len = 0 then sgn a.via b.via else sgn a.len b.len) else sgn b.pref a.pref
theorem sgn_zero {x y : Int} : sgn x y = 0 ↔ x = y := by
  unfold sgn
  split
  · omega
  · split <;> omega
theorem sgn_neg {x y : Int} : sgn x y < 0 ↔ x < y := by
  unfold sgn
  split
  · omega
  · split <;> omega
theorem first_neg (a b : Rt) : decide (first a b < 0) = better a b := by
  unfold first better
  by_cases h1 : a.pref = b.pref
  · rw [if_pos (sgn_zero.2 h1.symm), if_pos h1]
    by_cases h2 : a.len = b.len
    · rw [if_pos (sgn_zero.2 h2), if_pos h2, decide_eq_decide]; exact sgn_neg
    · rw [if_neg (fun e => h2 (sgn_zero.1 e)), if_neg h2, decide_eq_decide]; exact sgn_neg
  · rw [if_neg (fun e => h1 (sgn_zero.1 e).symm), if_neg h1, decide_eq_decide]; exact sgn_neg
end Go.Proofs.Ytjdeoiohbbnmeaa.bestRoute
