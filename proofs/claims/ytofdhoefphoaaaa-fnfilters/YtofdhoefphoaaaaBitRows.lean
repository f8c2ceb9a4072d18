/- Rows of bits that the program begins with: constants and variables; conditions: none. -/
import Derived.Test.YtofdhoefphoaaaaOwnEx
import Derived.Test.YtofdhoefphoaaaaWordTrees
import Derived.Laws.ShiftsVarLaws
namespace Go.Proofs.Ytofdhoefphoaaaa.bitRows
open Go.RowKit Go.Deep Go base trees built heldStore drawn ownTree ownEx wordTrees
set_option linter.unusedVariables false

def vT (n : Int) : T := mkT 1 n 0 fun _ _ => (0, 0, 0)
theorem rd_leaf (q : Nat → Prop) (w : World) (D : Nat) {t : T} (h : ln t = 0) (a : Option Addr) : Rd q 1048576 w D t a 0 := by
  cases D with
  | zero => exact ⟨h, rfl⟩
  | succ D => exact ⟨h, by omega, fun i hi => by omega⟩
/-- A row that grows, of expressions which may lie anywhere but in it. -/
def GrowR (w : World) (B : Nat) (Q : Nat → Prop) (v : Value) (k D : Nat) (t : T) : Prop := ∃ f : Nat → Option Addr × Nat × Nat, w.ownsRow B 33 3 v k (cellsOf f t k) ∧
    ∀ i, i < k → Rd (fun b => (Q b ∧ b < B) ∨ (B ≤ b ∧ b < w.heap.size ∧ v.ownBlock ≠ some b)) 1048576 w D (kid t i) (f i).1 (f i).2.1
theorem GrowR.nil (w : World) (B : Nat) (Q : Nat → Prop) (D : Nat) (t : T) : GrowR w B Q (.slice none 0 0) 0 D t :=
  ⟨fun _ => (none, 0, 0), World.ownsRow_nil w B 33 3, fun i hi => by omega⟩
variable {w w' : World} {B k D : Nat} {Q : Nat → Prop} {v : Value} {t : T}
theorem GrowR.kept (h : GrowR w B Q v k D t) (hb : ∀ b, b < w.heap.size → w'.heap[b]? = w.heap[b]?) (hs : w.heap.size ≤ w'.heap.size) : GrowR w' B Q v k D t := by
  obtain ⟨f, ho, hc⟩ := h
  refine ⟨f, owns_kept ho fun g e => hb g (World.ownsRow.lt ho g e).2, fun i hi => (hc i hi).kept fun b o x hq hx => ?_⟩
  have hlt := World.block_lt_of_cell? _ _ hx
  exact ⟨(World.cell?_of_block (a := ⟨b, o, none⟩) (hb b hlt)).trans hx, hq.imp id fun ⟨h1, h2, h3⟩ => ⟨h1, by omega, h3⟩⟩
theorem GrowR.below (h : GrowR w B Q v k D t) (hb : Below w.heap.size w w') : GrowR w' B Q v k D t := h.kept (fun b h => hb.block b h) hb.size
theorem GrowR.owns (h : GrowR w B Q v k D t) : ∃ xs, w.ownsRow B 33 3 v k xs := by
  obtain ⟨f, ho, _⟩ := h
  exact ⟨_, ho⟩
theorem GrowR.form (h : GrowR w B Q v k D t) : (∃ a c, v = .slice a k c) ∧ ∀ g, v.ownBlock = some g → B ≤ g ∧ g < w.heap.size := by
  obtain ⟨f, ho, _⟩ := h
  refine ⟨?_, World.ownsRow.lt ho⟩
  rcases ho.2 with ⟨e1, e2⟩ | ⟨g, cap, cur, e, _⟩
  · subst e2; exact ⟨_, _, e1⟩
  · exact ⟨_, _, e⟩
/-- One more, whose tree lies in old blocks of Q or in blocks that were there ahead of the append. -/
theorem GrowR.next {w1 w2 : World} {v' : Value} {a' : Option Addr} {l' c' : Nat} {xs : List Value} (h : GrowR w1 B Q v k D t) (hB : B ≤ w1.heap.size) (ho : Rd (fun b => (Q b ∧ b < B) ∨ (B ≤ b ∧ b < w1.heap.size ∧ v.ownBlock ≠ some b)) 1048576 w1 D (kid t k) a' l')
    (hx : w1.ownsRow B 33 3 v k xs)
    (hv : w2.ownsRow B 33 3 v' (k + 1) (xs ++ [.int .i64 (kd (kid t k)), .int .i64 (nn (kid t k)), .slice a' l' c'])) (hg : w1.grownBy w2 v.ownBlock) (hat : v'.ownBlock = v.ownBlock ∨ v'.ownBlock = some w1.heap.size) : GrowR w2 B Q v' (k + 1) D t := by
  obtain ⟨f, ho0, hc⟩ := h
  have exs : xs = cellsOf f t k := by
    rcases hx.2 with ⟨e1, e2⟩ | ⟨g, cap, cur, e, _, hh, _, _, _, h4⟩
    · subst e2
      have h0 := hx.1
      have h1 := ho0.1
      rw [Nat.zero_mul] at h0 h1
      rw [List.eq_nil_of_length_eq_zero h0, List.eq_nil_of_length_eq_zero h1]
    · rcases ho0.2 with ⟨e1, _⟩ | ⟨g', cap', cur', e', _, hh', _, _, _, h4'⟩
      · rw [e] at e1; cases e1
      · rw [e] at e'
        cases e'
        rw [hh] at hh'
        cases hh'
        rw [← h4, ← h4']
  subst exs
  have hrow : ∀ g, v.ownBlock = some g → B ≤ g := fun g e => (World.ownsRow.lt ho0 g e).1
  have hup : ∀ (t' : T) (a : Option Addr) (l : Nat), Rd (fun b => (Q b ∧ b < B) ∨ (B ≤ b ∧ b < w1.heap.size ∧ v.ownBlock ≠ some b)) 1048576 w1 D t' a l → Rd (fun b => (Q b ∧ b < B) ∨ (B ≤ b ∧ b < w2.heap.size ∧ v'.ownBlock ≠ some b)) 1048576 w2 D t' a l := fun t' a l hr =>
    hr.kept fun b o x hq hx => by
      have hlt := World.block_lt_of_cell? _ _ hx
      have hne : some b ≠ v.ownBlock := by
        rcases hq with hq | hq
        · intro e; have := hrow b e.symm; omega
        · exact Ne.symm hq.2.2
      refine ⟨(World.cell?_of_block (a := ⟨b, o, none⟩) (hg.block b hlt hne)).trans hx, hq.imp id fun ⟨h1, h2, h3⟩ => ⟨h1, Nat.lt_of_lt_of_le h2 hg.size, ?_⟩⟩
      rcases hat with e | e
      · rw [e]; exact h3
      · rw [e]; intro e'; injection e' with e'; omega
  refine ⟨fun i => if i = k then (a', l', c') else f i, ?_, fun i hik => ?_⟩
  · have e1 : cellsOf (fun i => if i = k then (a', l', c') else f i) t (k + 1) = cellsOf f t k ++ [.int .i64 (kd (kid t k)), .int .i64 (nn (kid t k)), .slice a' l' c'] := by
      simp only [cellsOf, if_true]
      rw [cellsOf_congr t (f' := f) (fun i hi => if_neg (by omega))]
    rw [e1]; exact hv
  · by_cases e : i = k
    · subst e; simp only [if_true]; exact hup _ _ _ ho
    · simp only [if_neg e]; exact hup _ _ _ (hc i (by omega))
theorem GrowR.done {l : Nat} (h : GrowR w B Q v l D t) (hl : ln t = l) (hm : l ≤ 1048576) : ∃ a c, v = .slice a l c ∧ l ≤ c ∧ Rd (fun b => (Q b ∧ b < B) ∨ B ≤ b) 1048576 w (D + 1) t a l := by
  obtain ⟨f, ho, hc⟩ := h
  rcases ho.2 with ⟨e1, e2⟩ | ⟨g, cap, cur, e, hb, hh, h1, h2, h3, h4⟩
  · subst e2
    exact ⟨_, _, e1, Nat.zero_le _, rd_leaf _ _ _ hl _⟩
  · subst e
    refine ⟨_, _, rfl, h1, hl, hm, fun i hi => ?_⟩
    obtain ⟨c0, c1, c2⟩ := cellsOf_at f t hi
    refine ⟨g, 0, rfl, .inr hb, ?_, ?_, (f i).1, (f i).2.1, (f i).2.2, ?_, (hc i hi).imp fun b hb => hb.imp id fun h => h.1⟩
    · simpa using (World.ownsRow.cellAt ho (i * 3) (by omega)).trans c0
    · simpa using (World.ownsRow.cellAt ho (i * 3 + 1) (by omega)).trans c1
    · simpa using (World.ownsRow.cellAt ho (i * 3 + 2) (by omega)).trans c2

/-- The row of all variables. -/
def varsT : T := mkT 0 0 12 fun i => vT i
set_option maxHeartbeats 800000 in
set_option maxRecDepth 8000 in
theorem variables_impl (w : World) : Calls Try.prog 35 #[] w fun e w' => ∃ a c, e = .returned (.slice a 12 c) ∧ 12 ≤ c ∧ Below w.heap.size w w' ∧ Rd (fun b => w.heap.size ≤ b) 1048576 w' 1 varsT a 12 := by
  obtain ⟨i0, hi0, hz0, hz1, hz2⟩ := info_parts info_ex
  have HI := hid hi0
  have HZ0 := hid hz0
  have HZ1 := hid hz1
  have HZ2 := hid hz2
  clear hi0 hz0 hz1 hz2
  go_enter Try.func35, Try.ntmps35
  go_wp2
  go_loopw [3, 1] (fun i v wr => ∃ k : Nat, k ≤ 12 ∧ i = .int .i64 k ∧ Below w.heap.size w wr ∧ GrowR wr w.heap.size (fun _ => False) v k 0 varsT) (fun i _ _ => 12 - (intOf i).toNat)
  case atStart => exact ⟨0, Nat.zero_le _, rfl, Below.refl _ _, GrowR.nil _ _ _ _ _⟩
  case round =>
    obtain ⟨k, hk, rfl, hb, hgr⟩ := hrel
    have HB := hid hb
    have HG := hid hgr
    clear hb hgr
    by_cases hlt : k < 12
    · have HA1 : Hid (Below wr.heap.size wr (wr.alloc (.cells #[.int .i64 1, .int .i64 (k : Int), .slice none 0 0] 33))) := (by repeat (first | exact Below.refl _ _ | assumption | refine Below.drew ?_ | refine Below.alloc ?_ (by first | exact Nat.le_refl _ | omega | (simp; done) | (simp; omega)) _ | refine Below.setCell ?_ (by first | exact Nat.le_refl _ | omega | (simp; done) | (simp; omega)) _))
      obtain ⟨xs, hxs⟩ := (HG.out.below HA1.out).owns
      have HX1 := hid hxs
      have hsz := HB.out.size
      clear hxs
      go_wp2_with (at_builtin; (refine wpList_append_own_at _ rfl _ _ 31 rfl w.heap.size 33 i0 _ 3 40 Try.underlying31 HI.out HZ0.out HZ1.out HZ2.out rfl (by decide) _ _ _ rfl HX1.out ⟨wr.heap.size, 0, none⟩ 1 1 [.int .i64 1, .int .i64 (k : Int), .slice none 0 0] rfl rfl (three_at (by simp [go_sem]) (by simp [go_sem]) (by simp [go_sem])) (fun u hu => by simp at hu; rcases hu with rfl | rfl | rfl <;> rfl) (by unfold maxLen; omega) (by omega) (by simp; omega) ?_); intro v2 w2 hown2 hg2 hnil2 hat2)
      have HG2 := hid ((HG.out.below HA1.out).next (a' := none) (l' := 0) (c' := 0) (by simp; omega) (rd_leaf _ _ _ rfl _) HX1.out hown2 hg2 hat2)
      have HB2 : Hid (Below w.heap.size w w2) := (HB.out.trans (HA1.out.mono HB.out.size)).grown hg2 (by simp; omega) (fun j hj => (World.ownsRow.lt HX1.out j hj).1)
      clear hown2 hg2 hnil2 hat2
      go_wp2
      exact ⟨⟨k + 1, by omega, by go_num, HB2.out, HG2.out⟩, by simp [intOf]; omega⟩
    · have e : k = 12 := by omega
      subst e
      obtain ⟨a2, c2, e2, hc2, ho2⟩ := HG.out.done rfl (by omega)
      subst e2
      have HO2 := hid ho2
      clear ho2
      go_wp2
      go_ret
      exact ⟨a2, c2, rfl, hc2, HB.out, HO2.out.imp fun b hb => by rcases hb with hb | hb; exact hb.1.elim; exact hb⟩

/-- A bit of a number, as the program and the specification reckon it. -/
def cbit (n : Int) (k : Nat) : Int := bits .and .i64 (n / 2 ^ k) 1
def constT (n : Int) (b : Nat) : T := mkT 0 0 b fun i => cT (cbit n i)
set_option maxHeartbeats 800000 in
set_option maxRecDepth 8000 in
theorem constants_impl (n : Int) (b : Nat) (hb2 : b ≤ 6) (hn0 : 0 ≤ n) (hn1 : n < 64) (w : World) : Calls Try.prog 37 #[.int .i64 n, .int .i64 (b : Int)] w fun e w' => ∃ a c, e = .returned (.slice a b c) ∧ Below w.heap.size w w' ∧ Rd (fun x => w.heap.size ≤ x) 1048576 w' 1 (constT n b) a b := by
  obtain ⟨i0, hi0, hz0, hz1, hz2⟩ := info_parts info_ex
  have HI := hid hi0
  have HZ0 := hid hz0
  have HZ1 := hid hz1
  have HZ2 := hid hz2
  clear hi0 hz0 hz1 hz2
  go_enter Try.func37, Try.ntmps37
  go_wp2
  go_loopw [8, 5] (fun i v wr => ∃ k : Nat, k ≤ b ∧ i = .int .i64 k ∧ Below w.heap.size w wr ∧ GrowR wr w.heap.size (fun _ => False) v k 0 (constT n b)) (fun i _ _ => b - (intOf i).toNat)
  case atStart => exact ⟨0, Nat.zero_le _, rfl, Below.refl _ _, GrowR.nil _ _ _ _ _⟩
  case round =>
    obtain ⟨k, hk, rfl, hb, hgr⟩ := hrel
    have HB := hid hb
    have HG := hid hgr
    clear hb hgr
    by_cases hlt : k < b
    · have hk6 : k ≤ 5 := by omega
      go_wp2_with fail
      refine (const_impl _ _).mono ?_
      rintro e w1 ⟨rfl, hb1⟩
      have HG1 := hid (HG.out.below hb1)
      have HB1 := hid (HB.out.trans (hb1.mono HB.out.size))
      obtain ⟨m, hm⟩ : ∃ m, bits .and .i64 (n / 2 ^ k) 1 = m := ⟨_, rfl⟩
      rw [hm]
      have HM : Hid (cbit n k = m) := hm
      clear hb1 hm
      have HA1 : Hid (Below w1.heap.size w1 (w1.alloc (.cells #[.int .i64 2, .int .i64 m, .slice none 0 0] 33))) := (by repeat (first | exact Below.refl _ _ | assumption | refine Below.drew ?_ | refine Below.alloc ?_ (by first | exact Nat.le_refl _ | omega | (simp; done) | (simp; omega)) _ | refine Below.setCell ?_ (by first | exact Nat.le_refl _ | omega | (simp; done) | (simp; omega)) _))
      obtain ⟨xs, hxs⟩ := (HG1.out.below HA1.out).owns
      have HX1 := hid hxs
      have hsz := HB1.out.size
      clear hxs
      go_wp2_with (at_builtin; (refine wpList_append_own_at _ rfl _ _ 31 rfl w.heap.size 33 i0 _ 3 40 Try.underlying31 HI.out HZ0.out HZ1.out HZ2.out rfl (by decide) _ _ _ rfl HX1.out ⟨w1.heap.size, 0, none⟩ 1 1 [.int .i64 2, .int .i64 m, .slice none 0 0] rfl rfl (three_at (by simp [go_sem]) (by simp [go_sem]) (by simp [go_sem])) (fun u hu => by simp at hu; rcases hu with rfl | rfl | rfl <;> rfl) (by unfold maxLen; omega) (by omega) (by simp; omega) ?_); intro v2 w2 hown2 hg2 hnil2 hat2)
      have HG2 := hid ((HG1.out.below HA1.out).next (a' := none) (l' := 0) (c' := 0) (by simp; omega) (rd_leaf _ _ _ rfl _) HX1.out (by
        have e1 : nn (kid (constT n b) k) = m := HM.out
        rw [e1]; exact hown2) hg2 hat2)
      have HB2 : Hid (Below w.heap.size w w2) := (HB1.out.trans (HA1.out.mono HB1.out.size)).grown hg2 (by simp; omega) (fun j hj => (World.ownsRow.lt HX1.out j hj).1)
      clear hown2 hg2 hnil2 hat2
      go_wp2
      exact ⟨⟨k + 1, by omega, by go_num, HB2.out, HG2.out⟩, by simp [intOf]; omega⟩
    · have e : k = b := by omega
      subst e
      obtain ⟨a2, c2, e2, hc2, ho2⟩ := HG.out.done rfl (by omega)
      subst e2
      have HO2 := hid ho2
      clear ho2
      go_wp2
      go_ret
      exact ⟨a2, c2, rfl, HB.out, HO2.out.imp fun b hb => by rcases hb with hb | hb; exact hb.1.elim; exact hb⟩

/-- The row of one variable's bits. -/
def varT (n b : Nat) : T := mkT 0 0 b fun i => vT ((n * b + i : Nat) : Int)
theorem sub_rd {q : Nat → Prop} {M D : Nat} {w : World} {g off n b : Nat} (h : Rd q M w (D + 1) varsT (some ⟨g, off, none⟩) 12) (hn : n * b + b ≤ 12) : Rd q M w (D + 1) (varT n b) (some ⟨g, off + n * b * 3, none⟩) b := by
  refine ⟨rfl, by have := h.2.1; omega, fun i hi => ?_⟩
  obtain ⟨g', off', e, hq, c0, c1, a', l', c', c2, hr⟩ := h.2.2 (n * b + i) (by omega)
  cases e
  refine ⟨g, off + n * b * 3, rfl, hq, ?_, ?_, a', l', c', ?_, hr⟩
  · rw [show off + n * b * 3 + i * 3 = off + (n * b + i) * 3 by omega]; exact c0
  · rw [show off + n * b * 3 + i * 3 + 1 = off + (n * b + i) * 3 + 1 by omega]; exact c1
  · rw [show off + n * b * 3 + i * 3 + 2 = off + (n * b + i) * 3 + 2 by omega]; exact c2
end Go.Proofs.Ytofdhoefphoaaaa.bitRows
