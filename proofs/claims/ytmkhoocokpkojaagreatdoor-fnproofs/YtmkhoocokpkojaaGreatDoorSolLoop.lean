import Derived.Test.YtmkhoocokpkojaaGreatDoorPart18
namespace Go.Proofs.YtmkhoocokpkojaaGreatDoor.solLoop
open Go.RowKit Go.Deep Go.Maps Go base sets setsOf solSets solOps solMath solHold solMem solFail solDue solExpect solPush
set_option linter.unusedVariables false
set_option linter.unusedSimpArgs false
section
variable {z : Int} {M mb : Nat} {F : Nat → Value} {V : Int → Value} {s : Sv} {w : World}
theorem blk_lift {x a : Int} {g : Nat} (h : blk x F V a = some g) (hx : a ≠ 0) : blk 0 F V a = some g := by
 obtain ⟨h1, h2⟩ := blk_val h
 rw [blk_ne hx]; exact h2
theorem nil_zero (h : Sol 0 M mb F V s w) (hv : V 0 = nilV) {x : Int} {g : Nat} : blk x F V 0 ≠ some g := fun e => by
 obtain ⟨_, h2⟩ := blk_val e
 rw [valV (by omega), hv] at h2
 cases h2
theorem Sol.part (h : Sol 0 M mb F V s w) (hv : V 0 = nilV) (x : Int) : Sol x M mb F V s w := by
 have up : ∀ a g, blk x F V a = some g → blk 0 F V a = some g := fun a g hb => by
  by_cases e : a = 0
  · subst e; exact absurd hb (nil_zero h hv)
  · exact blk_lift hb e
 refine ⟨h.cells, h.f0, h.f4, h.f5, h.f6, h.f10, h.fx, h.map, fun a ha => ?_, fun a b g hab h1 h2 => h.apart a b g hab (up a g h1) (up b g h2), fun a g hb => h.off a g (up a g hb), h.ne, h.tab, ⟨h.tabo.1, h.tabo.2.1, fun a e => h.tabo.2.2 a (up a _ e)⟩⟩
 by_cases e : a = 0
 · subst e
   rw [valV (by omega), hv]
   unfold RowA
   simp
 · exact h.rows a e
def beta (x : Int) (bx : Option Nat) (F : Nat → Value) (V : Int → Value) (a : Int) : Option Nat := if a = x then bx else blk x F V a
theorem chg_beta {x : Int} {bx : Option Nat} {F' : Nat → Value} {V' : Int → Value} {w' : World} (h : Chg M mb (blk x F V) (blk x F' V') w w') : Chg M mb (beta x bx F V) (beta x bx F' V') w w' := by
 refine ⟨h.os, h.tape, h.output, h.size, fun j hj h1 h2 h3 => h.block j hj h1 h2 fun a e => ?_, fun a j hb => ?_⟩
 · have ha := (blk_val e).1
   exact h3 a (by unfold beta; rw [if_neg ha]; exact e)
 · unfold beta at hb ⊢
   by_cases e : a = x
   · rw [if_pos e] at hb ⊢; exact .inl hb
   · rw [if_neg e] at hb ⊢; exact h.news a j hb
theorem Sol.back {x : Int} (h : Sol x M mb F V s w) (h0 : -40 ≤ x) (h1 : x ≤ 40) (hx : x ≠ 0) {v' : Value} (r : List Nat) (ho : w.ownsRow 0 3 1 v' r.length (intsN r)) (hap : ∀ g, v'.ownBlock = some g → g ≠ M ∧ g ≠ mb ∧ g ≠ 1 ∧ ∀ a, blk x F V a ≠ some g) (hv0 : V 0 = nilV) :
  ∃ w2, (Instr.mapUpdate 65 (.map (some mb)) (.int .i64 x) v').run Tryz.prog w = .ok () w2 ∧ Sol 0 M mb F (updV V x v') { s with L := solMath.upd s.L x r } w2 ∧ Chg M mb (beta x v'.ownBlock F V) (blk 0 F (updV V x v')) w w2 := by
 obtain ⟨D, hD, hV⟩ := h.map
 obtain ⟨w2, hr, hD2, hg2⟩ := hD.update keyed Tryz.underlying65 (by unfold maxLen; omega) (key_of h0 h1) (show hE v' = some (.held v', []) from rfl)
 have hV2 := mapV_put hV h0 h1 v'
 have hval : ∀ a, valA F (updV V x v') a = if a = x then v' else valA F V a := fun a => by
  unfold valA updV
  by_cases e1 : a = 1001
  · subst e1; simp; omega
  by_cases e2 : a = 1002
  · subst e2; simp; omega
  by_cases e3 : a = 1003
  · subst e3; simp; omega
  by_cases e4 : a = 1004
  · subst e4; simp; omega
  by_cases e5 : a = 1005
  · subst e5; simp; omega
  simp [e1, e2, e3, e4, e5]
 have hbk : ∀ a g, blk 0 F (updV V x v') a = some g → beta x v'.ownBlock F V a = some g := fun a g hb => by
  obtain ⟨q1, q2⟩ := blk_val hb
  rw [hval] at q2
  unfold beta
  by_cases e : a = x
  · rw [if_pos e] at q2 ⊢; exact q2
  · rw [if_neg e] at q2 ⊢; rw [blk_ne e]; exact q2
 have hbeta : ∀ a g, beta x v'.ownBlock F V a = some g → g ≠ M ∧ g ≠ mb ∧ g ≠ 1 := fun a g hb => by
  unfold beta at hb
  by_cases e : a = x
  · rw [if_pos e] at hb; have := hap g hb; exact ⟨this.1, this.2.1, this.2.2.1⟩
  · rw [if_neg e] at hb
    exact ⟨(h.off a g hb).1, (h.off a g hb).2, fun e2 => h.tabo.2.2 a (by rw [← e2]; exact hb)⟩
 have hblock : ∀ j, j < w.heap.size → j ≠ mb → w2.heap[j]? = w.heap[j]? := fun j hj hne => hg2.block j hj (by simpa using hne)
 refine ⟨w2, hr, ⟨World.rowIs.of_block h.cells (hblock M h.lt.1 h.ne), h.f0, h.f4, h.f5, h.f6, h.f10, h.fx, ⟨_, (map_tight hD2).mono (map_few hV2), hV2⟩, fun a ha => ?_, fun a b g hab q1 q2 => ?_, fun a g hb => ⟨(hbeta a g (hbk a g hb)).1, (hbeta a g (hbk a g hb)).2.1⟩, h.ne, fun j hj => ?_, ⟨h.tabo.1, h.tabo.2.1, fun a e => (hbeta a _ (hbk a _ e)).2.2 rfl⟩⟩, ⟨hg2.os, hg2.tape, hg2.output, hg2.size, fun j hj _ q2 _ => hblock j hj q2, fun a j hb => .inl (hbk a j hb)⟩⟩
 · rw [hval]
   by_cases e : a = x
   · subst e
     rw [if_pos rfl, rowV h0 h1 hx]
     show w2.ownsRow 0 3 1 v' (solMath.upd s.L a r a).length (intsN (solMath.upd s.L a r a))
     unfold solMath.upd
     rw [if_pos rfl]
     exact own_kept ho fun g hg => hblock g (World.ownsRow.lt ho g hg).2 (hap g hg).2.1
   · rw [if_neg e]
     have hrow := h.rows a e
     have h9 : RowA { s with L := solMath.upd s.L x r } a (valA F V a) w := by
      unfold RowA at hrow ⊢
      simpa [solMath.upd, e] using hrow
     refine row_kept h9 fun g hg => hblock g (row_lt hrow g hg) ?_
     exact (h.off a g (by rw [blk_ne e]; exact hg)).2
 · have q1' := hbk a g q1
   have q2' := hbk b g q2
   unfold beta at q1' q2'
   by_cases ea : a = x
   · rw [if_pos ea] at q1'
     rw [if_neg (fun e => hab (ea.trans e.symm))] at q2'
     exact (hap g q1').2.2.2 b q2'
   · rw [if_neg ea] at q1'
     by_cases eb : b = x
     · rw [if_pos eb] at q2'
       exact (hap g q2').2.2.2 a q1'
     · rw [if_neg eb] at q2'
       exact h.apart a b g hab q1' q2'
 · have hc := h.tab j hj
   have hlt := World.block_lt_of_cell? _ _ hc
   rw [World.cell?_of_block (a := ⟨1, j, none⟩) (hblock _ hlt h.tabo.2.1)]
   exact hc
end
theorem mvs_append (x : Int) : ∀ (A B : List Nat) (s : Sv) (k : List Nat), mvs x (A ++ B) s k = mvs x B (mvs x A s k).1 (mvs x A s k).2
 | [], B, s, k => rfl
 | a :: A, B, s, k => by rw [List.cons_append, mvs, mvs, mvs_append x A B]
theorem mvs_pre {H0 : LS} {l : Int} : ∀ (A B : List Nat) (s : Sv) (k : List Nat), Mid s H0 l k (A ++ B) → Mid (mvs (-l) A s k).1 H0 l (mvs (-l) A s k).2 B
 | [], B, s, k, h => h
 | a :: A, B, s, k, h => mvs_pre A B _ _ (mv_mid h)
def Kp (w : World) (na : Option Addr) (n nc : Nat) (R kept : List Nat) (j : Nat) : Prop :=
 (na = none ∧ n = 0 ∧ nc = 0 ∧ kept = []) ∨ ∃ g cur, na = some ⟨g, 0, none⟩ ∧ n ≤ nc ∧ nc ≤ maxLen ∧ kept.length ≤ j ∧ w.heap[g]? = some (.cells cur 3 (0, 0)) ∧ cur.size = nc ∧ (∀ i, i < kept.length → cur[i]? = some (.int .i64 ((kept[i]?.getD 0 : Nat) : Int))) ∧ (∀ i, j ≤ i → i < n → cur[i]? = some (.int .i64 ((R[i]?.getD 0 : Nat) : Int)))
theorem ints_get {D : List Nat} {i : Nat} (h : i < D.length) : (intsN D)[i]? = some (.int .i64 ((D[i]?.getD 0 : Nat) : Int)) := by
 unfold intsN
 rw [List.getElem?_map, List.getElem?_eq_getElem h]
 rfl
theorem kp_start {w : World} {v : Value} {R : List Nat} (h : w.ownsRow 0 3 1 v R.length (intsN R)) : ∃ na nc, v = .slice na R.length nc ∧ Kp w na R.length nc R [] 0 := by
 rcases h.2 with ⟨rfl, h0⟩ | ⟨g, cap, cur, rfl, _, hh, hn, hm, hs, ht⟩
 · exact ⟨none, 0, by rw [h0], .inl ⟨rfl, h0, rfl, rfl⟩⟩
 · refine ⟨_, cap, rfl, .inr ⟨g, cur, rfl, hn, hm, Nat.zero_le _, hh, by simpa using hs, fun i hi => (by simp at hi), fun i _ hi => ?_⟩⟩
   have : (cur.toList.take (R.length * 1))[i]? = (intsN R)[i]? := by rw [ht]
   rw [List.getElem?_take, if_pos (by omega), ints_get hi] at this
   rw [← Array.getElem?_toList, this]
theorem kp_keep {w w1 : World} {na : Option Addr} {n nc j : Nat} {R kept : List Nat} (h : Kp w na n nc R kept j) (hb : ∀ g, na = some ⟨g, 0, none⟩ → w1.heap[g]? = w.heap[g]?) : Kp w1 na n nc R kept j := by
 rcases h with h | ⟨g, cur, e, h1, h2, h3, h4, h5⟩
 · exact .inl h
 · exact .inr ⟨g, cur, e, h1, h2, h3, by rw [hb g e]; exact h4, h5⟩
theorem kp_skip {w : World} {na : Option Addr} {n nc j : Nat} {R kept : List Nat} (h : Kp w na n nc R kept j) : Kp w na n nc R kept (j + 1) := by
 rcases h with h | ⟨g, cur, e, h1, h2, h3, h4, h5, h6, h7⟩
 · exact .inl h
 · exact .inr ⟨g, cur, e, h1, h2, by omega, h4, h5, h6, fun i hi => h7 i (by omega)⟩
theorem kp_put {w : World} {g n nc j i : Nat} {R kept : List Nat} (h : Kp w (some ⟨g, 0, none⟩) n nc R kept j) (hj : j < n) : Kp (w.setCell ⟨g, kept.length, none⟩ (.int .i64 (i : Int))) (some ⟨g, 0, none⟩) n nc R (kept ++ [i]) (j + 1) := by
 rcases h with ⟨h, _⟩ | ⟨g', cur, e, h1, h2, h3, h4, h5, h6, h7⟩
 · cases h
 · injection e with e
   injection e with e
   subst e
   refine .inr ⟨g, cur.setIfInBounds kept.length (.int .i64 i), rfl, h1, h2, by simp; omega, heap_setCell_same w g kept.length cur 3 (.int .i64 i) h4, by simpa using h5, fun q hq => ?_, fun q hq1 hq2 => ?_⟩
   · rw [Array.getElem?_setIfInBounds]
     by_cases e : kept.length = q
     · subst e
       rw [if_pos rfl, if_pos (by omega)]
       simp
     · rw [if_neg e]
       simp at hq
       rw [h6 q (by omega), List.getElem?_append_left (by omega)]
   · rw [Array.getElem?_setIfInBounds, if_neg (by omega)]
     exact h7 q (by omega) hq2
theorem kp_own {w : World} {na : Option Addr} {n nc j : Nat} {R kept : List Nat} (h : Kp w na n nc R kept j) (hj : j ≤ n) : w.ownsRow 0 3 1 (.slice na kept.length nc) kept.length (intsN kept) := by
 rcases h with ⟨rfl, _, rfl, rfl⟩ | ⟨g, cur, rfl, h1, h2, h3, h4, h5, h6, h7⟩
 · exact World.ownsRow_nil _ _ _ _
 · refine ⟨by simp [intsN], .inr ⟨g, nc, cur, rfl, Nat.zero_le _, h4, by omega, h2, by omega, ?_⟩⟩
   apply List.ext_getElem?
   intro i
   rw [List.getElem?_take]
   by_cases hi : i < kept.length
   · rw [if_pos (by omega), Array.getElem?_toList, h6 i hi, ints_get hi]
   · rw [if_neg (by omega), List.getElem?_eq_none (by simp [intsN]; omega)]
theorem kp_cell {w : World} {na : Option Addr} {n nc j : Nat} {R kept : List Nat} (h : Kp w na n nc R kept j) (hj : j < n) : ∃ g, na = some ⟨g, 0, none⟩ ∧ w.cell? ⟨g, j, none⟩ = some (.int .i64 ((R[j]?.getD 0 : Nat) : Int)) ∧ kept.length ≤ j ∧ n ≤ nc ∧ nc ≤ maxLen ∧ (∀ i, i < nc → (w.cell? ⟨g, i, none⟩).isSome = true) ∧ (∀ i, w.frozen? ⟨g, i, none⟩ = false) ∧ g < w.heap.size := by
 rcases h with ⟨_, h, _⟩ | ⟨g, cur, rfl, h1, h2, h3, h4, h5, h6, h7⟩
 · omega
 · refine ⟨g, rfl, by simp [World.cell?, h4, h7 j (Nat.le_refl _) hj], h3, h1, h2, fun i hi => by simp [World.cell?, h4, Array.getElem?_eq_getElem (show i < cur.size by omega)], fun i => by simp [World.frozen?, h4], (Array.getElem?_eq_some_iff.1 h4).1⟩
theorem wpList_put {P : Program} (w w' : World) {ops : Array Oper} {rest : List Oper} {o : Oper} {a : Act} {Q : Exit → Act → World → Prop} (hg : o.guard = none) (m x v : Operand) (t : TypeId) (hop : o.op = Op.mapUpdate t m x v) (mv kv vv : Value) (hm : a.eval m = mv) (hx : a.eval x = kv) (hv : a.eval v = vv) (hr : (Instr.mapUpdate t mv kv vv).run P w = .ok () w') (h : wpList P ops Q rest (a.put o.dst undef) w') : wpList P ops Q (o :: rest) a w := by
 refine wpList_plain hg fun K' hK' => ?_
 unfold Oper.wp
 simp [execOp, hop, hm, hx, hv, hr, Result.andThen]
 exact hK' _ _ h
end Go.Proofs.YtmkhoocokpkojaaGreatDoor.solLoop
