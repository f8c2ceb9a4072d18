/- The laws' own helpers over trees of expressions, with what they own: how many nodes are counted, copies, marks; conditions: lengths that fit. -/
import Derived.Test.YtnafjgbikgfppaaOwnTree
import Derived.Test.YtnafjgbikgfppaaTreeCopy
namespace Go.Proofs.Ytnafjgbikgfppaa.treeOwn
open Go.RowKit Go.Deep base trees ownTree
set_option linter.unusedVariables false

/-- How many nodes a row of trees has. -/
def rowN (d : Nat) (t : T) : Nat := sumTo (fun i => size (d - 1) (kid t i)) (ln t)
theorem size_rowN {d : Nat} {t : T} (h0 : d = 0 → ln t = 0) : size d t = 1 + rowN d t := size_eq h0

def SzS (d : Nat) : Prop := ∀ (t : T) (a : Option Addr) (l c : Nat) (left : Int) (w : World), Rd (fun _ => True) maxLen w d t a l → 0 ≤ left → left ≤ 1048576 →
    Calls Try.prog 4 #[.slice a l c, .int .i64 left] w fun e w' => ∃ r : Int, e = .returned (.int .i64 r) ∧ Below w.heap.size w w' ∧ -1 ≤ r ∧ r ≤ left ∧ (0 ≤ r → small d t ∧ r = left - (rowN d t : Int))
def SzE (d : Nat) : Prop := ∀ (k n : Int) (t : T) (a : Option Addr) (l c : Nat) (left : Int) (w : World), Rd (fun _ => True) maxLen w d t a l → 0 ≤ left → left ≤ 1048576 →
    Calls Try.prog 16 #[.agg #[.int .i64 k, .int .i64 n, .slice a l c], .int .i64 left] w fun e w' => ∃ r : Int, e = .returned (.int .i64 r) ∧ Below w.heap.size w w' ∧ -1 ≤ r ∧ r ≤ left ∧ (0 ≤ r → small d t ∧ r = left - (rowN d t : Int))

set_option maxHeartbeats 400000 in
theorem szE_of (d : Nat) (h : SzS d) : SzE d := by
  intro k n t a l c left w hr h0 h1
  have HS := hid h
  have HR := hid hr
  clear h hr
  go_enter Try.func16, Try.ntmps16
  go_wp2_with fail
  refine (HS.out t a l c left _ (HR.out.below (by repeat (first | exact Below.refl _ _ | assumption | refine Below.drew ?_ | refine Below.alloc ?_ (by first | exact Nat.le_refl _ | omega | (simp; done) | (simp; omega)) _ | refine Below.setCell ?_ (by first | exact Nat.le_refl _ | omega | (simp; done) | (simp; omega)) _))) h0 h1).mono ?_
  rintro e w1 ⟨r, rfl, hb1, hr1, hr2, hr3⟩
  have H3 := hid hr3
  have HB := hid ((show Below w.heap.size w _ from (by repeat (first | exact Below.refl _ _ | assumption | refine Below.drew ?_ | refine Below.alloc ?_ (by first | exact Nat.le_refl _ | omega | (simp; done) | (simp; omega)) _ | refine Below.setCell ?_ (by first | exact Nat.le_refl _ | omega | (simp; done) | (simp; omega)) _))).trans (hb1.mono (by simp)))
  clear hr3 hb1
  go_wp2
  · go_ret
    exact ⟨_, rfl, HB.out, by omega, by omega, by omega⟩
  · go_ret
    exact ⟨r, rfl, HB.out, by omega, by omega, H3.out⟩

set_option maxHeartbeats 800000 in
theorem szS (d : Nat) : SzS d := by
  induction d using Nat.strongRecOn with
  | _ d ih =>
  intro t a l c left w hr h0 h1
  have hmost := hr.most
  have HL := hid hr.len
  have HZ := hid hr.zero
  unfold maxLen at hmost
  have HR := hid hr
  have HI := hid ih
  clear hr ih
  by_cases h : left < (l : Int)
  · go_enter Try.func4, Try.ntmps4
    go_wp2
    go_ret
    exact ⟨_, rfl, Below.refl _ _, by omega, by omega, by omega⟩
  · go_enter Try.func4, Try.ntmps4
    go_wp2
    go_loopw [5, 1] (fun i t' wr => ∃ (k : Nat) (r : Int), k ≤ l ∧ i = .int .i64 k ∧ t' = .int .i64 r ∧ 0 ≤ r ∧ r ≤ left ∧ Below w.heap.size w wr ∧ (∀ j, j < k → small (d - 1) (kid t j)) ∧ r = left - l + k - (sumTo (fun i => size (d - 1) (kid t i)) k : Int)) (fun i _ _ => l - (intOf i).toNat)
    case atStart => exact ⟨0, left - l, Nat.zero_le _, rfl, rfl, by omega, by omega, Below.refl _ _, by omega, by simp [sumTo]⟩
    case round =>
      obtain ⟨k, r, hk, rfl, rfl, hl0, hl1, hbel, ha, hcn⟩ := hrel
      have HA := hid ha
      have HB := hid hbel
      have HCn := hid hcn
      clear ha hbel hcn
      by_cases hlt : k < l
      · obtain ⟨hd0, b, off, rfl, -, hc0, hc1, a', l', c', hc2, hrow⟩ := HR.out.cell hlt
        replace hc0 := keep HB.out hc0
        replace hc1 := keep HB.out hc1
        replace hc2 := keep HB.out hc2
        have HX := hid (hrow.below HB.out)
        have HSz := hid (size_rowN hrow.zero)
        clear hrow
        go_wp2_with fail
        refine (szE_of _ (HI.out (d - 1) (by omega)) _ _ (kid t k) _ _ _ _ _ HX.out hl0 (by omega)).mono ?_
        rintro e w1 ⟨r1, rfl, hb1, hr1, hr2, hr3⟩
        have H3 := hid hr3
        have HB1 := hid (HB.out.trans (hb1.mono HB.out.size))
        clear hb1 hr3
        by_cases hs : r1 < 0
        · go_wp2
          go_ret
          exact ⟨_, rfl, HB1.out, by omega, by omega, by omega⟩
        · go_wp2
          go_roundw
          case rel =>
            refine ⟨k + 1, r1, by omega, by go_num, rfl, by omega, by omega, HB1.out, ?_, ?_⟩
            · intro j hj
              by_cases e : j = k
              · subst e; exact (H3.out (by omega)).1
              · exact HA.out j (by omega)
            · have h1 := (H3.out (by omega)).2
              have h2 := HSz.out
              have h3 := HCn.out
              rw [sumTo_succ]
              omega
          case measure => simp [intOf]; omega
      · have e : k = l := by omega
        subst e
        go_wp2
        go_ret
        refine ⟨r, rfl, HB.out, by omega, by omega, fun _ => ⟨small_of HZ.out ?_ ?_, ?_⟩⟩
        · rw [HL.out]; omega
        · rw [HL.out]; exact HA.out
        · have := HCn.out
          unfold rowN
          rw [HL.out]
          omega

def ToS (d : Nat) : Prop := ∀ (t : T) (a : Option Addr) (l c : Nat) (w : World), Rd (fun _ => True) maxLen w d t a l → small d t →
    Calls Try.prog 6 #[.slice a l c] w fun e w' => ∃ N, e = .returned (.slice (some ⟨N, 0, none⟩) l l) ∧ Below w.heap.size w w' ∧ Ow w' d t (some ⟨N, 0, none⟩) l (fun b => w.heap.size ≤ b ∧ b < w'.heap.size)
def ToE (d : Nat) : Prop := ∀ (k n : Int) (t : T) (a : Option Addr) (l c : Nat) (w : World), Rd (fun _ => True) maxLen w d t a l → small d t →
    Calls Try.prog 21 #[.agg #[.int .i64 k, .int .i64 n, .slice a l c]] w fun e w' => ∃ N, e = .returned (.agg #[.int .i64 k, .int .i64 n, .slice (some ⟨N, 0, none⟩) l l]) ∧ Below w.heap.size w w' ∧ Ow w' d t (some ⟨N, 0, none⟩) l (fun b => w.heap.size + 3 ≤ b ∧ b < w'.heap.size)
theorem ow_set {w : World} {d l : Nat} {t : T} {a : Option Addr} {S : Nat → Prop} (h : Ow w d t a l S) {x : Addr} (hx : ¬ S x.block) (v : Value) : Ow (w.setCell x v) d t a l S :=
  h.kept fun b hb _ => Below.heap_setCell _ _ _ _ (fun e => hx (e ▸ hb))
theorem size_set (w : World) (x : Addr) (v : Value) : (w.setCell x v).heap.size = w.heap.size := by simp [World.setCell]

set_option maxHeartbeats 800000 in
theorem toE_of (d : Nat) (h : ToS d) : ToE d := by
  intro k n t a l c w hr hs
  have HS := hid h
  have HR := hid hr
  clear h hr
  go_enter Try.func21, Try.ntmps21
  go_wp2_with fail
  refine (HS.out t a l c _ (HR.out.below (by repeat (first | exact Below.refl _ _ | assumption | refine Below.drew ?_ | refine Below.alloc ?_ (by first | exact Nat.le_refl _ | omega | (simp; done) | (simp; omega)) _ | refine Below.setCell ?_ (by first | exact Nat.le_refl _ | omega | (simp; done) | (simp; omega)) _))) hs).mono ?_
  rintro e w1 ⟨N, rfl, hb1, hx⟩
  obtain ⟨hc, hf⟩ := bcell hb1
  have hz : w.heap.size + 2 < w1.heap.size := by
    obtain h := hb1.size
    simp at h
    have hx0 : (w.heap.size + 3) ≤ w1.heap.size := by simpa using h
    omega
  have hw0 : Below w.heap.size w w1 := (show Below _ _ _ from (by repeat (first | exact Below.refl _ _ | assumption | refine Below.drew ?_ | refine Below.alloc ?_ (by first | exact Nat.le_refl _ | omega | (simp; done) | (simp; omega)) _ | refine Below.setCell ?_ (by first | exact Nat.le_refl _ | omega | (simp; done) | (simp; omega)) _))).trans (hb1.mono (by simp; omega))
  have HX : Hid (Ow w1 d t (some ⟨N, 0, none⟩) l (fun b => w.heap.size + 3 ≤ b ∧ b < w1.heap.size)) := hx.sub fun b hb => ⟨by have := hb.1; simp at this; omega, hb.2⟩
  have H0 := hid hw0
  clear hb1 hx hw0
  go_wp2
  refine bodyPost_ret (v := .agg #[.int .i64 k, .int .i64 n, .slice (some ⟨N, 0, none⟩) l l]) (by simp [results, Try.results21, go_sem, hc]) rfl ⟨N, rfl, ?_, ?_⟩
  · exact (((H0.out.setCell (by simp; omega) _).setCell (by simp) _).setCell (by simp) _).setCell (by simp) _
  · refine Ow.sub (S := fun b => w.heap.size + 3 ≤ b ∧ b < w1.heap.size) ?_ (fun b hb => ⟨hb.1, by simpa [size_set] using hb.2⟩)
    exact ow_set (ow_set (ow_set (ow_set HX.out (by first | (simp; done) | (simp; omega)) _) (by first | (simp; done) | (simp; omega)) _) (by first | (simp; done) | (simp; omega)) _) (by first | (simp; done) | (simp; omega)) _

/-- A row of trees in block N of its own, of which the first k are laid, each between two marks of its own. -/
def Laid (w : World) (N len k d : Nat) (t : T) : Prop := ∃ (F : Nat → Value) (f : Nat → Option Addr × Nat × Nat) (lo hi : Nat → Nat), w.rowIs N 45 (len * 3) F ∧
    (∀ i, i < k → F (i * 3) = .int .i64 (kd (kid t i)) ∧ F (i * 3 + 1) = .int .i64 (nn (kid t i)) ∧ F (i * 3 + 2) = .slice (f i).1 (f i).2.1 (f i).2.2 ∧ N < lo i ∧ hi i ≤ w.heap.size ∧ Ow w (d - 1) (kid t i) (f i).1 (f i).2.1 (fun b => lo i ≤ b ∧ b < hi i)) ∧ ∀ i j, i < j → j < k → hi i ≤ lo j
theorem Laid.ow {w : World} {B N len d : Nat} {t : T} (h : Laid w N len len d t) (hl : ln t = len) (hz : d = 0 → ln t = 0) (hm : len ≤ 1048576) (hB : B ≤ N) : Ow w d t (some ⟨N, 0, none⟩) len (fun b => B ≤ b ∧ b < w.heap.size) := by
  obtain ⟨F, f, lo, hi, hF, hc, hlt⟩ := h
  cases d with
  | zero => exact ⟨hl, by rw [← hl]; exact hz rfl⟩
  | succ d =>
    refine ⟨hl, hm, fun hl0 => ⟨N, f, fun i b => lo i ≤ b ∧ b < hi i, rfl, ⟨hB, hF.lt⟩, fun x => hF.frozen x, fun i b hi' hb' => ?_, fun i j b hi' hj' h1 h2 => ?_, fun i hi' => ?_⟩⟩
    · obtain ⟨_, _, _, q1, q2, _⟩ := hc i hi'
      exact ⟨⟨by omega, by omega⟩, by omega⟩
    · rcases Nat.lt_trichotomy i j with h | h | h
      · have := hlt i j h hj'; omega
      · exact h
      · have := hlt j i h hi'; omega
    · obtain ⟨e0, e1, e2, _, _, q⟩ := hc i hi'
      refine ⟨⟨?_, ?_, ?_⟩, by simpa using q⟩
      · rw [← e0]; exact hF.cell (by omega)
      · rw [← e1]; exact hF.cell (by omega)
      · rw [← e2]; exact hF.cell (by omega)
theorem Laid.below {w w1 : World} {N len k d : Nat} {t : T} (h : Laid w N len k d t) (hb : Below w.heap.size w w1) : Laid w1 N len k d t := by
  obtain ⟨F, f, lo, hi, hF, hc, hlt⟩ := h
  refine ⟨F, f, lo, hi, hF.of_block (hb.block _ hF.lt), fun i hi' => ?_, hlt⟩
  obtain ⟨e0, e1, e2, q1, q2, q⟩ := hc i hi'
  exact ⟨e0, e1, e2, q1, Nat.le_trans q2 hb.size, q.below hb⟩
/-- One more: W is the world ahead of the call that made it. -/
theorem Laid.next {W w : World} {N len k d M l : Nat} {t : T} (h : Laid W N len k d t) (hb : Below W.heap.size W w) (hk : k < len) (hr : Ow w (d - 1) (kid t k) (some ⟨M, 0, none⟩) l (fun b => W.heap.size ≤ b ∧ b < w.heap.size)) :
    Laid (((w.setCell ⟨N, k * 3, none⟩ (.int .i64 (kd (kid t k)))).setCell ⟨N, k * 3 + 1, none⟩ (.int .i64 (nn (kid t k)))).setCell ⟨N, k * 3 + 2, none⟩ (.slice (some ⟨M, 0, none⟩) l l)) N len (k + 1) d t := by
  obtain ⟨F, f, lo, hi, hF0, hc0, hlt⟩ := h
  have hN : N < W.heap.size := hF0.lt
  have hF := hF0.of_block (hb.block _ hF0.lt)
  refine ⟨_, fun i => if i = k then (some ⟨M, 0, none⟩, l, l) else f i, fun i => if i = k then W.heap.size else lo i, fun i => if i = k then w.heap.size else hi i, ((hF.set (k * 3) _).set (k * 3 + 1) _).set (k * 3 + 2) _, fun i hik => ?_, fun i j hij hj => ?_⟩
  · by_cases e : i = k
    · subst e
      refine ⟨by rw [if_neg (by omega), if_neg (by omega), if_pos rfl], by rw [if_neg (by omega), if_pos rfl], by rw [if_pos rfl]; simp, by simp only [if_true]; exact hN, by simp, ?_⟩
      simp only [if_true]
      exact ow_set (ow_set (ow_set hr (by simp; omega) _) (by simp; omega) _) (by simp; omega) _
    · obtain ⟨e0, e1, e2, q1, q2, q0⟩ := hc0 i (by omega)
      have q := q0.below hb
      have hbs := hb.size
      simp only [if_neg e]
      refine ⟨by rw [if_neg (by omega), if_neg (by omega), if_neg (by omega)]; exact e0, by rw [if_neg (by omega), if_neg (by omega), if_neg (by omega)]; exact e1, by rw [if_neg (by omega), if_neg (by omega), if_neg (by omega)]; exact e2, q1, by simp only [size_set]; omega, ?_⟩
      exact ow_set (ow_set (ow_set q (by simp; omega) _) (by simp; omega) _) (by simp; omega) _
  · by_cases e : j = k
    · subst e
      simp only [if_neg (show i ≠ j by omega), if_true]
      exact (hc0 i hij).2.2.2.2.1
    · simp only [if_neg (show i ≠ k by omega), if_neg e]
      exact hlt i j hij (by omega)

set_option maxHeartbeats 800000 in
theorem toS (d : Nat) : ToS d := by
  induction d using Nat.strongRecOn with
  | _ d ih =>
  intro t a l c w hr hs
  have HL := hid hr.len
  have HZ := hid hr.zero
  have HR := hid hr
  have HI := hid ih
  have HS := hid hs
  have hb : l ≤ 1048576 := by rw [← hr.len]; exact small_len hr.zero hs
  clear hr ih hs
  have hmk := treeCopy.run_make_exs l hb
  go_enter Try.func6, Try.ntmps6
  go_wp2
  go_loopw [4] (fun i wr => ∃ k : Nat, k ≤ l ∧ i = .int .i64 k ∧ Below w.heap.size w wr ∧ Laid wr w.heap.size l k d t) (fun i _ => l - (intOf i).toNat)
  case atStart => exact ⟨0, Nat.zero_le _, rfl, (Below.refl _ _).alloc (Nat.le_refl _) _, fun i => (madeCells #[.int .i64 0, .int .i64 0, .slice none 0 0] (l * 3))[i]?.getD undef, fun _ => (none, 0, 0), fun _ => 0, fun _ => 0, by
      have := World.rowIs_alloc w (madeCells #[.int .i64 0, .int .i64 0, .slice none 0 0] (l * 3)) 45 (fun i => (madeCells #[.int .i64 0, .int .i64 0, .slice none 0 0] (l * 3))[i]?.getD undef) (fun i hi => by rw [Array.getElem?_eq_getElem hi]; rfl)
      rwa [size_madeCells] at this, fun i hi => absurd hi (Nat.not_lt_zero _), fun i j _ hj => absurd hj (Nat.not_lt_zero _)⟩
  case round =>
    obtain ⟨k, hk, rfl, hbel, hlaid⟩ := hrel
    have HB := hid hbel
    have HD := hid hlaid
    by_cases hlt : k < l
    · obtain ⟨hd0, b, off, rfl, -, hc0, hc1, a', l', c', hc2, hrow'⟩ := HR.out.cell hlt
      replace hc0 := keep hbel hc0
      replace hc1 := keep hbel hc1
      replace hc2 := keep hbel hc2
      have HR' := hid (hrow'.below hbel)
      clear hbel hlaid hmk hrow'
      go_wp2_with fail
      refine (toE_of _ (HI.out (d - 1) (by omega)) _ _ (kid t k) a' l' c' _ HR'.out (small_kid HZ.out HS.out (by rw [HL.out]; exact hlt))).mono ?_
      rintro e w2 ⟨M, rfl, hb2, hx⟩
      have hL2 := HD.out.below hb2
      obtain ⟨F, _, _, _, hf, -⟩ := hL2
      have g0 := hf.cell (i := k * 3) (by omega)
      have g1 := hf.cell (i := k * 3 + 1) (by omega)
      have g2 := hf.cell (i := k * 3 + 2) (by omega)
      have z0 := hf.frozen (k * 3)
      have z1 := hf.frozen (k * 3 + 1)
      have z2 := hf.frozen (k * 3 + 2)
      have HX : Hid (Ow w2 (d - 1) (kid t k) (some ⟨M, 0, none⟩) l' (fun b => wr.heap.size ≤ b ∧ b < w2.heap.size)) := hx.sub fun b hb => ⟨by omega, hb.2⟩
      have HW2 := hid hb2
      have HB2 := hid (HB.out.trans (hb2.mono HB.out.size))
      clear hb2 hx hf
      go_wp2
      go_roundw
      case rel => exact ⟨k + 1, by omega, by go_num, ((HB2.out.setCell (Nat.le_refl _) _).setCell (Nat.le_refl _) _).setCell (Nat.le_refl _) _, HD.out.next HW2.out hlt HX.out⟩
      case measure => simp [intOf]; omega
    · have e : k = l := by omega
      subst e
      clear hbel hlaid hmk
      go_wp2
      go_ret
      exact ⟨_, rfl, HB.out, HD.out.ow HL.out HZ.out hb (Nat.le_refl _)⟩
end Go.Proofs.Ytnafjgbikgfppaa.treeOwn
