/- Tseitin, of the program and of the specification: the clauses that it makes are rows of its own that lie apart; conditions: the literal fits. -/
import Derived.Test.YtaileckcflnbdaaEvalAigJ
import Derived.Test.YtaileckcflnbdaaRowsOwn
import Derived.Test.YtaileckcflnbdaaCnf
namespace Go.Proofs.Ytaileckcflnbdaa.tseitin
open Go.RowKit Go.Deep base gates trees aigImpl evalAig rowsOwn cnf
set_option linter.unusedVariables false

def flit (l : Int) : Int := if l % 2 = 1 then -(l / 2) else l / 2
def gateC (n : Int) (g : Gs) (i : Nat) : List (List Int) := [[-(n + 1 + i), flit (g i).1], [-(n + 1 + i), flit (g i).2], [n + 1 + i, -(flit (g i).1), -(flit (g i).2)]]
def clausesTo (n : Int) (g : Gs) : Nat → List (List Int)
  | 0 => []
  | k + 1 => clausesTo n g k ++ gateC n g k
theorem clauses_len (n : Int) (g : Gs) (k : Nat) : (clausesTo n g k).length = 3 * k := by
  induction k with
  | zero => rfl
  | succ k ih => simp [clausesTo, ih, gateC]; omega
def lastC (l : Int) : List (List Int) := if l = 0 then [[]] else if l = 1 then [] else [[flit l]]
def tsC (n : Int) (len : Nat) (g : Gs) (l : Int) : List (List Int) := clausesTo n g len ++ lastC l
def tsCode (n : Int) (len : Nat) (g : Gs) (l : Int) : Int := if aigB n len g = false then 1 else if inL n len l = false then 5 else if cnfB (n + len) (tsC n len g l) = false then 11 else 0
def tsVars (n : Int) (len : Nat) (g : Gs) (l : Int) : Int := if tsCode n len g l = 0 then n + len else 0
def tsList (n : Int) (len : Nat) (g : Gs) (l : Int) : List (List Int) := if tsCode n len g l = 0 then tsC n len g l else []
theorem ts_bad {n : Int} {len : Nat} {g : Gs} {l : Int} (h : aigB n len g = false) : tsCode n len g l = 1 ∧ tsVars n len g l = 0 ∧ tsList n len g l = [] := by
  have e : tsCode n len g l = 1 := if_pos h
  exact ⟨e, by unfold tsVars; rw [e]; rfl, by unfold tsList; rw [e]; rfl⟩
theorem ts_range {n : Int} {len : Nat} {g : Gs} {l : Int} (h : aigB n len g = true) (h1 : inL n len l = false) : tsCode n len g l = 5 ∧ tsVars n len g l = 0 ∧ tsList n len g l = [] := by
  have e : tsCode n len g l = 5 := by unfold tsCode; rw [if_neg (by rw [h]; decide), if_pos h1]
  exact ⟨e, by unfold tsVars; rw [e]; rfl, by unfold tsList; rw [e]; rfl⟩
theorem ts_size {n : Int} {len : Nat} {g : Gs} {l : Int} (h : aigB n len g = true) (h1 : inL n len l = true) (h2 : cnfB (n + len) (tsC n len g l) = false) : tsCode n len g l = 11 ∧ tsVars n len g l = 0 ∧ tsList n len g l = [] := by
  have e : tsCode n len g l = 11 := by unfold tsCode; rw [if_neg (by rw [h]; decide), if_neg (by rw [h1]; decide), if_pos h2]
  exact ⟨e, by unfold tsVars; rw [e]; rfl, by unfold tsList; rw [e]; rfl⟩
theorem ts_ok {n : Int} {len : Nat} {g : Gs} {l : Int} (h : aigB n len g = true) (h1 : inL n len l = true) (h2 : cnfB (n + len) (tsC n len g l) = true) : tsCode n len g l = 0 ∧ tsVars n len g l = n + len ∧ tsList n len g l = tsC n len g l := by
  have e : tsCode n len g l = 0 := by unfold tsCode; rw [if_neg (by rw [h]; decide), if_neg (by rw [h1]; decide), if_neg (by rw [h2]; decide)]
  exact ⟨e, by unfold tsVars; rw [e]; rfl, by unfold tsList; rw [e]; rfl⟩
/-- What a call answers: a formula whose clauses are its own. -/
def Ts (w w' : World) (e : Ending) (n : Int) (len : Nat) (g : Gs) (l : Int) : Prop :=
  ∃ (a : Option Addr) (L c : Nat) (ps : List (Value × List Int)), e = .returned (.tuple #[.agg #[.int .i64 (tsVars n len g l), .slice a L c], .int .i64 (tsCode n len g l)]) ∧ OwnRows w.heap.size w' (.slice a L c) ps ∧ Lone ps ∧ ps.map (·.2) = tsList n len g l ∧ Below w.heap.size w w'
theorem ts_nil {w w' : World} {n : Int} {len : Nat} {g : Gs} {l code : Int} (h : tsCode n len g l = code ∧ tsVars n len g l = 0 ∧ tsList n len g l = []) (hb : Below w.heap.size w w') :
    Ts w w' (.returned (.tuple #[.agg #[.int .i64 0, .slice none 0 0], .int .i64 code])) n len g l :=
  ⟨none, 0, 0, [], by rw [h.1, h.2.1], OwnRows.nil _ _, List.Pairwise.nil, by rw [h.2.2]; rfl, hb⟩
theorem rows_form {B : Nat} {w : World} {v : Value} {ps : List (Value × List Int)} (h : OwnRows B w v ps) : ∃ a c, v = .slice a ps.length c := by
  rcases h.outer.2 with ⟨e, h0⟩ | ⟨g, cap, cur, e, _⟩
  · exact ⟨none, 0, by rw [e, h0]⟩
  · exact ⟨_, _, e⟩

set_option maxHeartbeats 400000 in
theorem flit_impl (l : Int) (w : World) (h0 : 0 ≤ l) (h1 : l ≤ 100000) :
    Calls Try.prog 21 #[.int .i64 l] w fun e w' => e = .returned (.int .i64 (flit l)) ∧ w' = w := by
  by_cases h2 : l % 2 = 1
  · have d2 : (l % 2 == 1) = true := by simp [h2]
    rw [show flit l = -(l / 2) from if_pos h2]
    clear h2
    go_enter Try.func21, Try.ntmps21
    go_wp2
    go_ret
    exact ⟨rfl, rfl⟩
  · have d2 : (l % 2 == 1) = false := by simp [h2]
    rw [show flit l = l / 2 from if_neg h2]
    clear h2
    go_enter Try.func21, Try.ntmps21
    go_wp2
    go_ret
    exact ⟨rfl, rfl⟩
set_option maxHeartbeats 400000 in
theorem flit_spec (l : Int) (w : World) (h0 : 0 ≤ l) (h1 : l ≤ 100000) :
    Calls Try.prog 25 #[.int .i64 l] w fun e w' => e = .returned (.int .i64 (flit l)) ∧ w' = w := by
  by_cases h2 : l % 2 = 1
  · have d2 : (l % 2 == 1) = true := by simp [h2]
    rw [show flit l = -(l / 2) from if_pos h2]
    clear h2
    go_enter Try.func25, Try.ntmps25
    go_wp2
    go_ret
    exact ⟨rfl, rfl⟩
  · have d2 : (l % 2 == 1) = false := by simp [h2]
    rw [show flit l = l / 2 from if_neg h2]
    clear h2
    go_enter Try.func25, Try.ntmps25
    go_wp2
    go_ret
    exact ⟨rfl, rfl⟩

/-- Three rows made one behind the other, and a row of them. -/
theorem made3 {B : Nat} (W : World) (x p x' q y p' q' : Int) (hB : B ≤ W.heap.size) :
    OwnInts B ((((W.alloc (.cells #[.int .i64 x, .int .i64 p] 3)).alloc (.cells #[.int .i64 x', .int .i64 q] 3)).alloc (.cells #[.int .i64 y, .int .i64 p', .int .i64 q'] 3)).alloc (.cells #[.slice (some ⟨W.heap.size, 0, none⟩) 2 2, .slice (some ⟨W.heap.size + 1, 0, none⟩) 2 2, .slice (some ⟨W.heap.size + 2, 0, none⟩) 3 3] 30)) (.slice (some ⟨W.heap.size, 0, none⟩) 2 2) [x, p] ∧
    OwnInts B ((((W.alloc (.cells #[.int .i64 x, .int .i64 p] 3)).alloc (.cells #[.int .i64 x', .int .i64 q] 3)).alloc (.cells #[.int .i64 y, .int .i64 p', .int .i64 q'] 3)).alloc (.cells #[.slice (some ⟨W.heap.size, 0, none⟩) 2 2, .slice (some ⟨W.heap.size + 1, 0, none⟩) 2 2, .slice (some ⟨W.heap.size + 2, 0, none⟩) 3 3] 30)) (.slice (some ⟨W.heap.size + 1, 0, none⟩) 2 2) [x', q] ∧
    OwnInts B ((((W.alloc (.cells #[.int .i64 x, .int .i64 p] 3)).alloc (.cells #[.int .i64 x', .int .i64 q] 3)).alloc (.cells #[.int .i64 y, .int .i64 p', .int .i64 q'] 3)).alloc (.cells #[.slice (some ⟨W.heap.size, 0, none⟩) 2 2, .slice (some ⟨W.heap.size + 1, 0, none⟩) 2 2, .slice (some ⟨W.heap.size + 2, 0, none⟩) 3 3] 30)) (.slice (some ⟨W.heap.size + 2, 0, none⟩) 3 3) [y, p', q'] := by
  have h1 := row_made (B := B) W [x, p] hB (by simp [maxLen])
  have h2 := row_made (B := B) (W.alloc (.cells #[.int .i64 x, .int .i64 p] 3)) [x', q] (by simp; omega) (by simp [maxLen])
  have h3 := row_made (B := B) ((W.alloc (.cells #[.int .i64 x, .int .i64 p] 3)).alloc (.cells #[.int .i64 x', .int .i64 q] 3)) [y, p', q'] (by simp; omega) (by simp [maxLen])
  simp at h1 h2 h3
  refine ⟨h1.below ?_, h2.below ?_, h3.below ?_⟩
  · exact ((((Below.refl _ _).alloc (Nat.le_refl _) _).alloc (by simp) _).alloc (by simp) _)
  · exact (((Below.refl _ _).alloc (Nat.le_refl _) _).alloc (by simp) _)
  · exact ((Below.refl _ _).alloc (Nat.le_refl _) _)
theorem cells3 (W : World) (a b c : Value) (t : TypeId) {n : Nat} (hn : n = W.heap.size) : ∀ j u, [a, b, c][j]? = some u → (W.alloc (.cells #[a, b, c] t)).cell? ((⟨n, 0, none⟩ : Addr).add j) = some u := by
  intro j u hj
  subst hn
  match j, hj with
  | 0, hj => simp at hj; subst hj; simp [Addr.add]
  | 1, hj => simp at hj; subst hj; simp [Addr.add]
  | 2, hj => simp at hj; subst hj; simp [Addr.add]
  | j + 3, hj => simp at hj
theorem lone3 {W : Nat} {z1 z2 z3 : List Int} : Lone [(.slice (some ⟨W, 0, none⟩) 2 2, z1), (.slice (some ⟨W + 1, 0, none⟩) 2 2, z2), (.slice (some ⟨W + 2, 0, none⟩) 3 3, z3)] := by
  unfold Lone
  simp [Value.ownBlock]

/-- A block of two cells. -/
def Two (w : World) (b : Nat) (x y : Value) : Prop := w.rowIs b 35 2 (fun i => if i = 0 then x else y)
theorem Two.made (w : World) (x y : Value) {b : Nat} (hb : b = w.heap.size) : Two (w.alloc (.cells #[x, y] 35)) b x y := by
  subst hb
  exact World.rowIs_alloc w #[x, y] 35 (fun i => if i = 0 then x else y) (fun i hi => by
    have : i < 2 := hi
    match i, this with
    | 0, _ => rfl
    | 1, _ => rfl)
theorem Two.below {w w1 : World} {b : Nat} {x y : Value} (h : Two w b x y) (hb : Below w.heap.size w w1) : Two w1 b x y := World.rowIs.of_block h (hb.block _ (World.rowIs.lt h))
theorem Two.grown {w w1 : World} {b : Nat} {x y : Value} {row : Option Nat} (h : Two w b x y) (hg : w.grownBy w1 row) (hne : some b ≠ row) : Two w1 b x y := World.rowIs.of_block h (hg.block _ (World.rowIs.lt h) hne)
theorem Two.c0 {w : World} {b : Nat} {x y : Value} (h : Two w b x y) : w.cell? ⟨b, 0, none⟩ = some x := World.rowIs.cell h (by omega)
theorem Two.c1 {w : World} {b : Nat} {x y : Value} (h : Two w b x y) : w.cell? ⟨b, 1, none⟩ = some y := World.rowIs.cell h (by omega)
theorem Two.z {w : World} {b : Nat} {x y : Value} (h : Two w b x y) (i : Nat) : w.frozen? ⟨b, i, none⟩ = false := World.rowIs.frozen h i
theorem Two.set1 {w : World} {b : Nat} {x y : Value} (h : Two w b x y) (z : Value) : Two (w.setCell ⟨b, 1, none⟩ z) b x z := by
  have := World.rowIs.set h 1 z
  refine World.rowIs.congr this fun i hi => ?_
  match i, hi with
  | 0, _ => rfl
  | 1, _ => rfl
theorem Two.other {w : World} {b : Nat} {x y : Value} (h : Two w b x y) {p : Addr} (hp : b ≠ p.block) (z : Value) : Two (w.setCell p z) b x y := World.rowIs.setOther h hp z
theorem Two.lt {w : World} {b : Nat} {x y : Value} (h : Two w b x y) : b < w.heap.size := World.rowIs.lt h
/-- The formula that is built: its block F, and the answer's block R. -/
structure Fm (w wr : World) (R F : Nat) (n : Int) (len : Nat) (v : Value) (ps : List (Value × List Int)) : Prop where
  bel : Below w.heap.size w wr
  ans : Two wr R (.int .i64 0) (.slice none 0 0)
  frm : Two wr F (.int .i64 (n + len)) v
  own : OwnRows (F + 1) wr v ps
  lone : Lone ps
  size : F + 1 ≤ wr.heap.size
  ahead : w.heap.size ≤ R ∧ R < F
theorem Fm.below {w wr w1 : World} {R F : Nat} {n : Int} {len : Nat} {v : Value} {ps : List (Value × List Int)} (h : Fm w wr R F n len v ps) (hb : Below wr.heap.size wr w1) : Fm w w1 R F n len v ps :=
  ⟨h.bel.trans (hb.mono h.bel.size), h.ans.below hb, h.frm.below hb, h.own.below hb, h.lone, Nat.le_trans h.size hb.size, h.ahead⟩
/-- Rows are appended, and the grown row of rows is stored. -/
theorem Fm.add {w wr Y w5 : World} {R F : Nat} {n : Int} {len M : Nat} {v v5 : Value} {ps qs : List (Value × List Int)} (h : Fm w wr R F n len v ps) (hb : Below wr.heap.size wr Y) (hq : ∀ q ∈ qs, OwnInts (F + 1) Y q.1 q.2) (hl : Lone qs) (hM : ∀ q ∈ qs, ∀ g, q.1.ownBlock = some g → wr.heap.size ≤ g)
    (ho : w5.ownsRow (F + 1) 30 1 v5 (ps.length + M) (ps.map Prod.fst ++ qs.map Prod.fst)) (hMl : qs.length = M) (hg : Y.grownBy w5 v.ownBlock) :
    (w5.cell? ⟨F, 0, none⟩ = some (.int .i64 (n + len)) ∧ w5.cell? ⟨F, 1, none⟩ = some v ∧ w5.frozen? ⟨F, 1, none⟩ = false) ∧ Fm w (w5.setCell ⟨F, 1, none⟩ v5) R F n len v5 (ps ++ qs) := by
  have hY := h.below hb
  have hF : some F ≠ v.ownBlock := rows_apart h.own
  have hR : some R ≠ v.ownBlock := fun e => by
    have := (World.ownsRow.lt h.own.outer _ e.symm).1
    have := h.ahead
    omega
  have hfrm := hY.frm.grown hg hF
  subst hMl
  have hadd := rows_add hY.own hq ho hg
  have ha := h.ahead
  refine ⟨⟨hfrm.c0, hfrm.c1, hfrm.z 1⟩, ?_, (hY.ans.grown hg hR).other (by dsimp only; omega) _, hfrm.set1 v5, rows_ahead hadd (by omega), ?_, ?_, ha⟩
  · exact (rows_below hY.own hY.bel (by omega) hY.size hg).setCell (by dsimp only; omega) _
  · exact lone_more h.lone hl (rows_lt h.own) hM
  · have h1 := hg.size
    have h2 := hY.size
    simp [World.setCell]
    omega

theorem own_form {B n : Nat} {t : TypeId} {w : World} {v : Value} {xs : List Value} (h : w.ownsRow B t 1 v n xs) : ∃ a c, v = .slice a n c := by
  rcases h.2 with ⟨e, h0⟩ | ⟨g, cap, cur, e, _⟩
  · exact ⟨none, 0, by rw [e, h0]⟩
  · exact ⟨_, _, e⟩
theorem add3 {w W2 w5 : World} {R F : Nat} {n : Int} {len : Nat} {v v5 : Value} {ps : List (Value × List Int)} {x p x' q y p' q' : Int} (h : Fm w W2 R F n len v ps)
    (ho : w5.ownsRow (F + 1) 30 1 v5 (ps.length + 3) (ps.map Prod.fst ++ [.slice (some ⟨W2.heap.size, 0, none⟩) 2 2, .slice (some ⟨W2.heap.size + 1, 0, none⟩) 2 2, .slice (some ⟨W2.heap.size + 2, 0, none⟩) 3 3]))
    (hg : ((((W2.alloc (.cells #[.int .i64 x, .int .i64 p] 3)).alloc (.cells #[.int .i64 x', .int .i64 q] 3)).alloc (.cells #[.int .i64 y, .int .i64 p', .int .i64 q'] 3)).alloc (.cells #[.slice (some ⟨W2.heap.size, 0, none⟩) 2 2, .slice (some ⟨W2.heap.size + 1, 0, none⟩) 2 2, .slice (some ⟨W2.heap.size + 2, 0, none⟩) 3 3] 30)).grownBy w5 v.ownBlock) :
    (w5.cell? ⟨F, 0, none⟩ = some (.int .i64 (n + len)) ∧ w5.cell? ⟨F, 1, none⟩ = some v ∧ w5.frozen? ⟨F, 1, none⟩ = false) ∧ Fm w (w5.setCell ⟨F, 1, none⟩ v5) R F n len v5 (ps ++ [(.slice (some ⟨W2.heap.size, 0, none⟩) 2 2, [x, p]), (.slice (some ⟨W2.heap.size + 1, 0, none⟩) 2 2, [x', q]), (.slice (some ⟨W2.heap.size + 2, 0, none⟩) 3 3, [y, p', q'])]) := by
  obtain ⟨m1, m2, m3⟩ := made3 W2 x p x' q y p' q' h.size
  refine Fm.add h (by repeat (first | exact Below.refl _ _ | assumption | refine Below.drew ?_ | refine Below.alloc ?_ (by first | exact Nat.le_refl _ | omega | (simp; done) | (simp; omega)) _ | refine Below.setCell ?_ (by first | exact Nat.le_refl _ | omega | (simp; done) | (simp; omega)) _)) (fun z hz => ?_) lone3 (fun z hz => ?_) ho rfl hg
  · simp only [List.mem_cons, List.not_mem_nil, or_false] at hz
    rcases hz with rfl | rfl | rfl
    · exact m1
    · exact m2
    · exact m3
  · simp only [List.mem_cons, List.not_mem_nil, or_false] at hz
    intro b e
    rcases hz with rfl | rfl | rfl
    all_goals
      simp [Value.ownBlock] at e
      omega
theorem flit_in {l : Int} (h0 : 0 ≤ l) (h1 : l ≤ 100000) : -100000 ≤ flit l ∧ flit l ≤ 100000 := by
  unfold flit
  split <;> omega
theorem fm_ne {w wr : World} {R F : Nat} {n : Int} {len : Nat} {v : Value} {ps : List (Value × List Int)} (h : Fm w wr R F n len v ps) : some w.heap.size ≠ v.ownBlock := fun e => by
  have := (World.ownsRow.lt h.own.outer _ e.symm).1
  have := h.ahead
  omega

theorem made1 {B : Nat} (W : World) (x : Int) (hB : B ≤ W.heap.size) : OwnInts B ((W.alloc (.cells #[.int .i64 x] 3)).alloc (.cells #[.slice (some ⟨W.heap.size, 0, none⟩) 1 1] 30)) (.slice (some ⟨W.heap.size, 0, none⟩) 1 1) [x] := by
  have h1 := row_made (B := B) W [x] hB (by simp [maxLen])
  simp at h1
  exact h1.below ((Below.refl _ _).alloc (Nat.le_refl _) _)
theorem one_new (W : World) (x : Value) (t : TypeId) {n : Nat} (hn : n = W.heap.size) : ∀ j u, [x][j]? = some u → (W.alloc (.cells #[x] t)).cell? ((⟨n, 0, none⟩ : Addr).add j) = some u := by
  subst hn
  exact cell_one_new W x t
theorem step_append_own {P : Program} (w : World) {ops : Array Oper} {o : Oper} {a : Act} {K : Act → World → Prop} {Q : Exit → Act → World → Prop} {E : Prop} (hgd : o.guard = none) (s x : Operand) (t : TypeId)
    (ho : o.op = .call { callee := .builtin .append, args := #[s, x], argTypes := #[t, t] })
    (base : Nat) (e : TypeId) (i : TypeInfo) (z : Value) (size bytes : Nat) (ht : P.underlying t = some (.slice e)) (hi : P.info? e = some i) (hz : i.zero = some z)
    (hsize : i.size = size) (hby : i.bytes = bytes) (hzs : z.cells.size = size) (hsz : 0 < size)
    (v : Value) (n : Nat) (xs : List Value) (hs : a.eval s = v) (hown : w.ownsRow base e size v n xs)
    (ad : Addr) (m c : Nat) (news : List Value) (hx : a.eval x = .slice (some ad) m c) (hl : news.length = m * size) (hnews : ∀ j u, news[j]? = some u → w.cell? (ad.add j) = some u) (h1 : ∀ u ∈ news, u.oneCell' = true)
    (h63 : n + m ≤ maxLen) (hbytes : (n + m) * bytes ≤ 140737488355328) (hbase : base ≤ w.heap.size)
    (h : ∀ v' w', w'.ownsRow base e size v' (n + m) (xs ++ news) → w.grownBy w' v.ownBlock → (v' = .slice none 0 0 ↔ v = .slice none 0 0 ∧ m = 0) → K (a.put o.dst v') w') :
    if Region.wanted o (yielded ops a.tmps) = true then Oper.wp P o a w K Q else E := by
  have hw : Region.wanted o (yielded ops a.tmps) = true := by simp [Region.wanted, hgd]
  rw [if_pos hw]
  exact wp_append_own w s x t ho base e i z size bytes ht hi hz hsize hby hzs hsz v n xs hs hown ad m c news hx hl hnews h1 h63 hbytes hbase h
theorem addOne {w wr Y w5 : World} {R F : Nat} {n : Int} {len : Nat} {v v5 x : Value} {zs : List Int} {ps : List (Value × List Int)} (h : Fm w wr R F n len v ps) (hb : Below wr.heap.size wr Y) (hx : OwnInts (F + 1) Y x zs) (hM : ∀ g, x.ownBlock = some g → wr.heap.size ≤ g)
    (ho : w5.ownsRow (F + 1) 30 1 v5 (ps.length + 1) (ps.map Prod.fst ++ [x])) (hg : Y.grownBy w5 v.ownBlock) :
    (w5.cell? ⟨F, 0, none⟩ = some (.int .i64 (n + len)) ∧ w5.cell? ⟨F, 1, none⟩ = some v ∧ w5.frozen? ⟨F, 1, none⟩ = false) ∧ Fm w (w5.setCell ⟨F, 1, none⟩ v5) R F n len v5 (ps ++ [(x, zs)]) :=
  Fm.add (qs := [(x, zs)]) h hb (fun z hz => by simp at hz; subst hz; exact hx) (by unfold Lone; simp) (fun z hz => by simp at hz; subst hz; exact hM) ho rfl hg
theorem ts_zero (n : Int) (len : Nat) (g : Gs) : tsC n len g 0 = clausesTo n g len ++ [[]] := rfl
theorem ts_one (n : Int) (len : Nat) (g : Gs) : tsC n len g 1 = clausesTo n g len := by unfold tsC lastC; simp
theorem ts_lit (n : Int) (len : Nat) (g : Gs) {l : Int} (h0 : l ≠ 0) (h1 : l ≠ 1) : tsC n len g l = clausesTo n g len ++ [[flit l]] := by unfold tsC lastC; rw [if_neg h0, if_neg h1]

theorem made0 {B : Nat} (W : World) (hB : B ≤ W.heap.size) : OwnInts B ((W.alloc (.cells #[] 3)).alloc (.cells #[.slice (some ⟨W.heap.size, 0, none⟩) 0 0] 30)) (.slice (some ⟨W.heap.size, 0, none⟩) 0 0) [] := by
  have h1 := row_made (B := B) W [] hB (by simp [maxLen])
  simp at h1
  exact h1.below ((Below.refl _ _).alloc (Nat.le_refl _) _)
theorem lit_row (W : World) (l : Int) : IntRow (W.alloc (.cells #[.int .i64 l] 3)) (some ⟨W.heap.size, 0, none⟩) 1 [l] := by
  have h1 := row_made (B := 0) W [l] (Nat.zero_le _) (by simp [maxLen])
  simp at h1
  exact row_of_own h1
end Go.Proofs.Ytaileckcflnbdaa.tseitin
