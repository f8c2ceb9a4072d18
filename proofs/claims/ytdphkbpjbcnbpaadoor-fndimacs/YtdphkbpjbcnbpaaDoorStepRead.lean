/- A line of a proof's text, of the program: what is answered or thrown; conditions: lengths that fit. -/
import Derived.Test.YtdphkbpjbcnbpaaDoorCuts
import Derived.WalkSmall
namespace Go.Proofs.YtdphkbpjbcnbpaaDoor.stepRead
open Go.RowKit Go.Deep base numbers words cuts
set_option linter.unusedVariables false

abbrev Wd := ByteArray × Int
/-- A row of words. -/
structure WordRow (w : World) (a : Option Addr) (len : Nat) (l : List Wd) : Prop where
  length : l.length = len
  most : len ≤ maxLen
  cell : ∀ i, i < len → ∃ b off, a = some ⟨b, off, none⟩ ∧ w.cell? ⟨b, off + i * 2, none⟩ = some (.string (l[i]?.getD (⟨#[]⟩, 0)).1) ∧ w.cell? ⟨b, off + i * 2 + 1, none⟩ = some (.int .i64 (l[i]?.getD (⟨#[]⟩, 0)).2)
theorem WordRow.below {W w1 : World} {a : Option Addr} {len : Nat} {l : List Wd} (h : WordRow W a len l) (hb : Below W.heap.size W w1) : WordRow w1 a len l :=
  ⟨h.length, h.most, fun i hi => by
    obtain ⟨b, off, e, h1, h2⟩ := h.cell i hi
    exact ⟨b, off, e, keep hb h1, keep hb h2⟩⟩
def litB (vars n : Int) : Bool := decide (n ≠ 0 ∧ -vars ≤ n ∧ n ≤ vars)
set_option maxHeartbeats 400000 in
theorem lit_impl (n vars : Int) (w : World) (h0 : 0 ≤ vars) (h1 : vars ≤ 40) :
    Calls Tryd.prog 35 #[.int .i64 n, .int .i64 vars] w fun e w' => e = .returned (.bool (litB vars n)) ∧ w' = w := by
  go_enter Tryd.func35, Tryd.ntmps35
  go_wp2
  all_goals
    go_ret
    refine ⟨ret_bool ?_, rfl⟩
    rw [Bool.eq_iff_iff]; simp [litB, *]; try omega

/-- The place where the line of a place ends. -/
def endOf (s : ByteArray) (place : Nat) : Int := if Lib.indexByte (s.data.toList.drop place) 10 < 0 then s.size else place + Lib.indexByte (s.data.toList.drop place) 10
theorem index_lt (l : List UInt8) : Lib.indexByte l 10 ≤ l.length := by
  induction l with
  | nil => simp [Lib.indexByte]
  | cons b l ih =>
    unfold Lib.indexByte
    split
    · simp; omega
    · split
      · simp; omega
      · simp; omega
/-- What is thrown, or the clause, by the words that are left. -/
def stepOf (fin : Int) : List Wd → Bool → List Int → Except (Int × Int) (List Int)
  | [], ended, acc => if ended then .ok acc else .error (4, fin)
  | x :: r, ended, acc =>
    if ended || !isNum x.1 then .error (4, x.2)
    else if numS x.1 = 0 then stepOf fin r true acc
    else if litB 40 (numS x.1) = false then .error (5, x.2)
    else if acc.length = 12 then .error (11, x.2)
    else stepOf fin r ended (acc ++ [numS x.1])
theorem drop_at {l : List Wd} {k : Nat} (h : k < l.length) : l.drop k = (l[k]?.getD (⟨#[]⟩, 0)) :: l.drop (k + 1) := by
  rw [List.drop_eq_getElem_cons h, List.getElem?_eq_getElem h]; rfl
/-- Whether a line takes a clause away. -/
def isDel (l : List Wd) : Bool := (l[0]?.getD ((⟨#[]⟩, 0) : Wd)).1.toList == [100]
def restOf (l : List Wd) : List Wd := if isDel l then l.drop 1 else l
theorem results_one {fn : Func} {p : Tmp} {ty : TypeId} (h : fn.results = #[.cell p ty]) (tmps : Array Value) (P : Program) (w : World) :
    (results fn tmps).run P w = ((asAddr (tmps.getD p undef)).run P w).andThen fun a w₁ => (loadVar ty a).run P w₁ := by
  simp only [results, h]
  simp [Sem.run_bind, Result.andThen]
theorem set_blk {w : World} {b : Nat} {x y v : Value} {t : TypeId} (h : w.heap[b]? = some (.cells #[x, y] t (0, 0))) : (w.setCell ⟨b, 1, none⟩ v).heap[b]? = some (.cells #[x, v] t (0, 0)) := by
  simp [World.setCell, Array.getElem?_modify, h]
theorem own_blk {B n : Nat} {w w1 : World} {v : Value} {t : TypeId} {s : Nat} {xs : List Value} (h : w.ownsRow B t s v n xs) (hb : ∀ g, B ≤ g → w1.heap[g]? = w.heap[g]?) : w1.ownsRow B t s v n xs := by
  obtain ⟨h1, h2⟩ := h
  refine ⟨h1, ?_⟩
  rcases h2 with h2 | ⟨g, cap, cur, e, hg, hh, hn⟩
  · exact .inl h2
  · exact .inr ⟨g, cap, cur, e, hg, by rw [hb g hg]; exact hh, hn⟩
theorem own_base {B B' n : Nat} {w : World} {v : Value} {t : TypeId} {s : Nat} {xs : List Value} (h : w.ownsRow B t s v n xs) (hB : B' ≤ B) : w.ownsRow B' t s v n xs := by
  obtain ⟨h1, h2⟩ := h
  refine ⟨h1, ?_⟩
  rcases h2 with h2 | ⟨g, cap, cur, e, hg, hn⟩
  · exact .inl h2
  · exact .inr ⟨g, cap, cur, e, Nat.le_trans hB hg, hn⟩
theorem info_int : (Tryd.prog.info? 3).map (fun i => (i.zero, i.size, i.bytes)) = some (some (.int .i64 0), 1, 8) := by kernel_rfl
theorem word_tail {w : World} {b off m : Nat} {l : List Wd} (h : WordRow w (some ⟨b, off, none⟩) (m + 1) l) : WordRow w (some ⟨b, off + 2, none⟩) m (l.drop 1) := by
  refine ⟨by rw [List.length_drop, h.length]; rfl, Nat.le_trans (Nat.le_succ _) h.most, fun i hi => ?_⟩
  obtain ⟨b', off', e, h1, h2⟩ := h.cell (i + 1) (by omega)
  simp only [Option.some.injEq, Addr.mk.injEq, and_true] at e
  obtain ⟨rfl, rfl⟩ := e
  have e1 : off + (i + 1) * 2 = off + 2 + i * 2 := by omega
  rw [e1] at h1 h2
  have e2 : (l.drop 1)[i]? = l[i + 1]? := by rw [List.getElem?_drop, Nat.add_comm]
  exact ⟨b, off + 2, rfl, by rw [e2]; exact h1, by rw [e2]; exact h2⟩
theorem grow_facts {wr w1 w2 : World} {N n c : Nat} {p : Option Addr} {d : Bool} {v2 : Value} {xs ys : List Value} {t u : TypeId} (hw1 : Below (N + 2) wr w1) (hsz : N + 2 ≤ w1.heap.size) (hown : wr.ownsRow (N + 2) t 1 (.slice p n c) n ys)
    (hg2 : w1.grownBy w2 (Value.slice p n c).ownBlock) (hown2 : w2.ownsRow (N + 2) t 1 v2 (n + 1) xs) (hb1 : wr.heap[N + 1]? = some (.cells #[.bool d, .slice p n c] u (0, 0))) :
    ∃ g2 c2, v2 = .slice (some ⟨g2, 0, none⟩) (n + 1) c2 ∧ Below (N + 2) wr w2 ∧ w2.cell? ⟨N + 1, 1, none⟩ = some (.slice p n c) ∧ w2.frozen? ⟨N + 1, 1, none⟩ = false := by
  have hb2 : Below (N + 2) wr w2 := hw1.grown hg2 hsz (fun j hj => (hown.lt j hj).1)
  have hk1 : w2.heap[N + 1]? = some (.cells #[.bool d, .slice p n c] u (0, 0)) := by rw [hb2.block _ (by omega)]; exact hb1
  obtain ⟨g2, c2, rfl⟩ : ∃ g2 c2, v2 = .slice (some ⟨g2, 0, none⟩) (n + 1) c2 := by
    rcases hown2.2 with ⟨_, h0⟩ | ⟨g, cp, cur, hv, _⟩
    · omega
    · exact ⟨g, cp, hv⟩
  exact ⟨g2, c2, rfl, hb2, by rw [Lib.cell_of_heap hk1]; rfl, Lib.frozen_of_heap hk1 1⟩
end Go.Proofs.YtdphkbpjbcnbpaaDoor.stepRead
