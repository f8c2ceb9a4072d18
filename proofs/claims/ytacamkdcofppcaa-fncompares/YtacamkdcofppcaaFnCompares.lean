/- For all bytes: two words' bits tell whether the words are the same, which is less, and how many are set; conditions: none. -/
import Derived.Test.YtacamkdcofppcaaFaceImpl
import Derived.Test.YtacamkdcofppcaaAtFaceI
import Derived.Test.YtacamkdcofppcaaTreeVarsI
import Derived.Test.YtacamkdcofppcaaValues
namespace Go.Proofs.Ytacamkdcofppcaa.fnCompares
open Go.ChangeShapes Go.WideShapes Go.ChangeAt Go.RowKit Go.Deep Go.Joins Go base trees heldStore treeEval treeVars built ownTree ownEx ownExE rowsImpl faceImpl equalImpl lessImpl atMost atFace values args
set_option linter.unusedVariables false

def vT (n : Int) : T := mkT 1 n 0 fun _ _ => (0, 0, 0)
/-- The bits of a number as constants, and four variables. -/
def cRow (n : Nat) : T := mkT 0 0 4 fun i => cT (if n.testBit i then 1 else 0)
def vRow : T := mkT 0 0 4 fun i => vT i
def okAll : Bool := (List.range 16).all fun n => decide (equalC 0 (cRow n) vRow 4 4 = 0) && decide (lessC 0 (cRow n) vRow 4 4 = 0) && (List.range 16).all fun m =>
  decide (evC 12 (equalAns 0 (cRow n) vRow 4 4) 4 = 0) && decide (evC 16 (lessAns 0 (cRow n) vRow 4 4) 4 = 0) && (evB 12 (equalAns 0 (cRow n) vRow 4 4) 4 (valsOf m 4) == decide (n = m)) && (evB 16 (lessAns 0 (cRow n) vRow 4 4) 4 (valsOf m 4) == decide (n < m))
theorem all_ok : okAll = true := by decide +kernel
def atAll : Bool := (List.range 16).all fun m => (List.range 6).all fun k => decide (amC 0 vRow 4 ((k : Int) - 1) = 0) && decide (evC 4 (amAns 0 vRow 4 ((k : Int) - 1)) 4 = 0) && (evB 4 (amAns 0 vRow 4 ((k : Int) - 1)) 4 (valsOf m 4) == decide (((m % 2 + m / 2 % 2 + m / 4 % 2 + m / 8 : Nat) : Int) ≤ (k : Int) - 1))
theorem at_ok : atAll = true := by decide +kernel
theorem facts {n m : Nat} (hn : n < 16) (hm : m < 16) : equalC 0 (cRow n) vRow 4 4 = 0 ∧ lessC 0 (cRow n) vRow 4 4 = 0 ∧ evC 12 (equalAns 0 (cRow n) vRow 4 4) 4 = 0 ∧ evC 16 (lessAns 0 (cRow n) vRow 4 4) 4 = 0 ∧ evB 12 (equalAns 0 (cRow n) vRow 4 4) 4 (valsOf m 4) = decide (n = m) ∧ evB 16 (lessAns 0 (cRow n) vRow 4 4) 4 (valsOf m 4) = decide (n < m) := by
  have h := List.all_eq_true.1 all_ok n (List.mem_range.2 hn)
  simp only [Bool.and_eq_true] at h
  obtain ⟨⟨h1, h2⟩, h3⟩ := h
  have h4 := List.all_eq_true.1 h3 m (List.mem_range.2 hm)
  simp only [Bool.and_eq_true] at h4
  obtain ⟨⟨⟨h5, h6⟩, h7⟩, h8⟩ := h4
  exact ⟨of_decide_eq_true h1, of_decide_eq_true h2, of_decide_eq_true h5, of_decide_eq_true h6, beq_iff_eq.1 h7, beq_iff_eq.1 h8⟩
theorem facts_at {m k : Nat} (hm : m < 16) (hk : k < 6) : amC 0 vRow 4 ((k : Int) - 1) = 0 ∧ evC 4 (amAns 0 vRow 4 ((k : Int) - 1)) 4 = 0 ∧ evB 4 (amAns 0 vRow 4 ((k : Int) - 1)) 4 (valsOf m 4) = decide (((m % 2 + m / 2 % 2 + m / 4 % 2 + m / 8 : Nat) : Int) ≤ (k : Int) - 1) := by
  have h := List.all_eq_true.1 at_ok m (List.mem_range.2 hm)
  have h2 := List.all_eq_true.1 h k (List.mem_range.2 hk)
  simp only [Bool.and_eq_true] at h2
  obtain ⟨⟨h3, h4⟩, h5⟩ := h2
  exact ⟨of_decide_eq_true h3, of_decide_eq_true h4, beq_iff_eq.1 h5⟩
theorem cell_three (w : World) (x y z : Value) (t : TypeId) : ∀ (j : Nat) (u : Value), [x, y, z][j]? = some u → (w.alloc (.cells #[x, y, z] t)).cell? ((⟨w.heap.size, 0, none⟩ : Addr).add j) = some u := by
  intro j u h
  match j, h with
  | 0, h => cases h; simp [Addr.add, go_sem]
  | 1, h => cases h; simp [Addr.add, go_sem]
  | 2, h => cases h; simp [Addr.add, go_sem]
  | _ + 3, h => simp at h
/-- A row of expressions without kids, by its cells. -/
def flat (kn : Nat → Int × Int) (k : Nat) : List Value := (List.range k).flatMap fun i => [.int .i64 (kn i).1, .int .i64 (kn i).2, .slice none 0 0]
theorem flat_succ (kn : Nat → Int × Int) (k : Nat) : flat kn (k + 1) = flat kn k ++ [.int .i64 (kn k).1, .int .i64 (kn k).2, .slice none 0 0] := by
  unfold flat
  rw [List.range_succ, List.flatMap_append]; simp

theorem flat_len (kn : Nat → Int × Int) (k : Nat) : (flat kn k).length = k * 3 := by
  induction k with
  | zero => rfl
  | succ k ih => rw [flat_succ, List.length_append, ih]; simp; omega
theorem flat_at (kn : Nat → Int × Int) {k i : Nat} (h : i < k) : (flat kn k)[i * 3]? = some (.int .i64 (kn i).1) ∧ (flat kn k)[i * 3 + 1]? = some (.int .i64 (kn i).2) ∧ (flat kn k)[i * 3 + 2]? = some (.slice none 0 0) := by
  induction k with
  | zero => omega
  | succ k ih =>
    rw [flat_succ]
    have hl := flat_len kn k
    by_cases e : i = k
    · subst e
      refine ⟨?_, ?_, ?_⟩
      · rw [List.getElem?_append_right (by omega), hl, Nat.sub_self]; rfl
      · rw [List.getElem?_append_right (by omega), hl, show i * 3 + 1 - i * 3 = 1 by omega]; rfl
      · rw [List.getElem?_append_right (by omega), hl, show i * 3 + 2 - i * 3 = 2 by omega]; rfl
    · obtain ⟨h0, h1, h2⟩ := ih (by omega)
      exact ⟨by rw [List.getElem?_append_left (by omega)]; exact h0, by rw [List.getElem?_append_left (by omega)]; exact h1, by rw [List.getElem?_append_left (by omega)]; exact h2⟩
def leaf (kn : Int × Int) : T := mkT kn.1 kn.2 0 fun _ _ => (0, 0, 0)
theorem rd_of_own {B k : Nat} {w : World} {a : Option Addr} {c : Nat} {kn : Nat → Int × Int} (h : w.ownsRow B 27 3 (.slice a k c) k (flat kn k)) (hk : k ≤ 100) : Rd (fun _ => True) 1048576 w (0 + 1) (mkT 0 0 k fun i => leaf (kn i)) a k := by
  refine ⟨rfl, by omega, fun i hi => ?_⟩
  rcases h.2 with ⟨e, h0⟩ | ⟨g, cap, cur, e, hb, hh, hn, hm, hs, ht⟩
  · omega
  · injection e with e1 e2 e3
    subst e1
    obtain ⟨f0, f1, f2⟩ := flat_at kn hi
    rw [← ht, List.getElem?_take, if_pos (by omega), Array.getElem?_toList] at f0 f1 f2
    refine ⟨g, 0, rfl, trivial, ?_, ?_, none, 0, 0, ?_, rfl, rfl⟩
    · simp [World.cell?, hh, f0]; rfl
    · simp [World.cell?, hh, f1]; rfl
    · simp [World.cell?, hh, f2]
theorem bit_int (n k : Nat) (hn : n < 4096) : bits .and .i64 ((n : Int) / 2 ^ k) 1 = if n.testBit k then 1 else 0 := by
  have e : ((n : Int) / 2 ^ k) = ((n / 2 ^ k : Nat) : Int) := by simp
  have hl : n / 2 ^ k < 4096 := Nat.lt_of_le_of_lt (Nat.div_le_self _ _) hn
  rw [e, Nat.testBit_eq_decide_div_mod_eq]
  generalize n / 2 ^ k = m at *
  have h := bits_mask .i64 40 (by decide) (fun m h0 h1 => by rw [IntKind.wrap_i64]; omega) 1 (by decide) (m : Int) (by omega) (by omega)
  simp only [Int.reducePow, Int.reduceSub] at h
  rw [h]
  by_cases e1 : m % 2 = 1
  · simp [e1]; omega
  · simp [e1]; omega
theorem info_ex : (Try.prog.info? 27).map (fun i => (i.zero, i.size, i.bytes)) = some (some (.agg #[.int .i64 0, .int .i64 0, .slice none 0 0]), 3, 40) := by kernel_rfl
theorem own_none {B H : Nat} (w : World) (h : w.heap.size = H) (hB : B ≤ H) : (w.alloc (.cells #[] 27)).ownsRow B 27 3 (.slice (some ⟨H, 0, none⟩) 0 0) 0 [] := ⟨rfl, .inr ⟨H, 0, #[], rfl, hB, by subst h; exact heap_alloc_new w _, Nat.le_refl _, Nat.zero_le _, rfl, rfl⟩⟩
theorem own_keep {B n : Nat} {w w1 : World} {v : Value} {t : TypeId} {s : Nat} {xs : List Value} (h : w.ownsRow B t s v n xs) (hb : ∀ g, v.ownBlock = some g → w1.heap[g]? = w.heap[g]?) : w1.ownsRow B t s v n xs := by
  obtain ⟨h1, h2⟩ := h
  refine ⟨h1, ?_⟩
  rcases h2 with h2 | ⟨g, cap, cur, rfl, hg, hh, hn, hm, hs, ht⟩
  · exact .inl h2
  · exact .inr ⟨g, cap, cur, rfl, hg, by rw [hb g rfl]; exact hh, hn, hm, hs, ht⟩
theorem own_form {B n : Nat} {w : World} {v : Value} {t : TypeId} {s : Nat} {xs : List Value} (h : w.ownsRow B t s v n xs) : ∃ a c, v = .slice a n c := by
  rcases h.2 with ⟨e, h0⟩ | ⟨g, cap, cur, e, _⟩
  · exact ⟨none, 0, by rw [e, h0]⟩
  · exact ⟨_, _, e⟩
def aN (n : Nat) (i : Nat) : Int × Int := (2, if n.testBit i then 1 else 0)
def bN (i : Nat) : Int × Int := (1, (i : Int))

set_option maxHeartbeats 6400000 in
set_option maxRecDepth 8000 in
theorem walk (aC aM : Option Addr) (lC cC lM cM : Nat) (w : World) (hC : Bytes w aC lC) (hM : Bytes w aM lM) (hlC : lC ≤ maxLen) (hlM : lM ≤ maxLen) :
    Calls Try.prog 3 #[.slice aC lC cC, .slice aM lM cM] w fun e w' => e = .returned (.bool true) ∧ Below w.heap.size w w' := by
  have HC := hid hC
  have HM := hid hM
  unfold maxLen at hlC hlM
  clear hC hM
  by_cases h1 : 1048576 < lC
  · have i1 : decide ((1048576 : Int) < (lC : Int)) = true := decide_eq_true (by omega)
    go_enter Try.func3, Try.ntmps3
    go_wp2
    go_ret
    exact ⟨rfl, (by repeat (first | exact Below.refl _ _ | assumption | refine Below.drew ?_ | refine Below.alloc ?_ (by first | exact Nat.le_refl _ | omega | (simp; done) | (simp; omega)) _ | refine Below.setCell ?_ (by first | exact Nat.le_refl _ | omega | (simp; done) | (simp; omega)) _))⟩
  have i1 : decide ((1048576 : Int) < (lC : Int)) = false := decide_eq_false (by omega)
  by_cases h2 : 1048576 < lM
  · have i2 : decide ((1048576 : Int) < (lM : Int)) = true := decide_eq_true (by omega)
    go_enter Try.func3, Try.ntmps3
    go_wp2
    go_ret
    exact ⟨rfl, (by repeat (first | exact Below.refl _ _ | assumption | refine Below.drew ?_ | refine Below.alloc ?_ (by first | exact Nat.le_refl _ | omega | (simp; done) | (simp; omega)) _ | refine Below.setCell ?_ (by first | exact Nat.le_refl _ | omega | (simp; done) | (simp; omega)) _))⟩
  have i2 : decide ((1048576 : Int) < (lM : Int)) = false := decide_eq_false (by omega)
  go_enter Try.func3, Try.ntmps3
  go_wp2_with fail
  refine (at_0_16 aM lM cM _ HM.out (by omega)).mono ?_
  rintro e w1 ⟨n, rfl, hn, hb1⟩
  have H1 := hid hb1
  clear hb1
  go_wp2_with fail
  refine (at_1_16 aC lC cC _ (HC.out.below H1.out) (by omega)).mono ?_
  rintro e w2 ⟨m, rfl, hm, hb2⟩
  have H2 := hid (H1.out.trans (hb2.mono H1.out.size))
  clear hb2
  obtain ⟨i0, hi0, hzz⟩ := Option.map_eq_some_iff.1 info_ex
  simp only [Prod.mk.injEq] at hzz
  obtain ⟨hz0, hz1, hz2⟩ := hzz
  have HI := hid hi0
  have HZ0 := hid hz0
  have HZ1 := hid hz1
  have HZ2 := hid hz2
  clear hi0 hz0 hz1 hz2
  go_wp2
  go_loopw [9, 7, 8] (fun i va vb wr => ∃ (k : Nat) (aa : Option Addr) (ca : Nat) (ab : Option Addr) (cb : Nat), k ≤ 4 ∧ i = .int .i64 k ∧ va = .slice aa k ca ∧ vb = .slice ab k cb ∧ wr.ownsRow w2.heap.size 27 3 va k (flat (aN n) k) ∧ wr.ownsRow w2.heap.size 27 3 vb k (flat bN k) ∧ (∀ g, va.ownBlock = some g → some g ≠ vb.ownBlock) ∧ Below w2.heap.size w2 wr) (fun i _ _ _ => 4 - (intOf i).toNat)
  case atStart =>
    refine ⟨0, _, _, _, _, by omega, rfl, rfl, rfl, own_keep (own_none w2 rfl (Nat.le_refl _)) fun g hg => ?_, own_none _ (by simp) (by omega), fun g hg e => ?_, (by repeat (first | exact Below.refl _ _ | assumption | refine Below.drew ?_ | refine Below.alloc ?_ (by first | exact Nat.le_refl _ | omega | (simp; done) | (simp; omega)) _ | refine Below.setCell ?_ (by first | exact Nat.le_refl _ | omega | (simp; done) | (simp; omega)) _))⟩
    · have hg' : some w2.heap.size = some g := hg
      injection hg' with hg'
      subst hg'
      exact Below.block (B := w2.heap.size + 1) ((Below.refl _ _).alloc (by first | exact Nat.le_refl _ | (rw [World.size_alloc]; exact Nat.le_refl _)) _) _ (by omega)
    · have hg' : some w2.heap.size = some g := hg
      have he' : some g = some (w2.heap.size + 1) := e
      injection hg' with hg'
      injection he' with he'
      omega
  case round =>
    obtain ⟨k, aa, ca, ab, cb, hk, rfl, rfl, rfl, hoa, hob, hap, hbel⟩ := hrel
    have HA := hid hoa
    have HBo := hid hob
    have HAp := hid hap
    have HB := hid hbel
    have hsz := hbel.size
    clear hoa hob hap hbel
    by_cases hlt : k < 4
    · have hbit := bit_int n k (by omega)
      obtain ⟨z, hz⟩ : ∃ z, bits .and .i64 ((n : Int) / 2 ^ k) 1 = z := ⟨_, rfl⟩
      have HZ := hid (hz.symm.trans hbit)
      have HQ := hid (flat_succ (aN n) k)
      have HQ2 := hid (flat_succ bN k)
      have HW1 : Hid (Below wr.heap.size wr (wr.alloc (.cells #[.int .i64 2, .int .i64 z, .slice none 0 0] 27))) := hid (by repeat (first | exact Below.refl _ _ | assumption | refine Below.drew ?_ | refine Below.alloc ?_ (by first | exact Nat.le_refl _ | omega | (simp; done) | (simp; omega)) _ | refine Below.setCell ?_ (by first | exact Nat.le_refl _ | omega | (simp; done) | (simp; omega)) _))
      have HA1 := hid (own_keep HA.out fun g hg => HW1.out.block g (World.ownsRow.lt HA.out g hg).2)
      clear hbit
      go_wp2_with
        (first
         | (at_builtin
            refine wpList_append_own_at _ rfl _ _ 24 rfl w2.heap.size 27 i0 _ 3 40 Try.underlying24 HI.out HZ0.out HZ1.out HZ2.out rfl (by decide) _ _ _ rfl HA1.out ⟨wr.heap.size, 0, none⟩ 1 1 [.int .i64 2, .int .i64 z, .slice none 0 0] rfl rfl (cell_three _ _ _ _ _) (fun u hu => by simp at hu; rcases hu with rfl | rfl | rfl <;> rfl) (by unfold maxLen; omega) (by omega) (by simp; omega) ?_
            intro v3 w3 hown3 hg3 hnil3 hat3
            have HA3 : Hid (w3.ownsRow w2.heap.size 27 3 v3 (k + 1) (flat (aN n) (k + 1))) := hid (by rw [HQ.out]; unfold aN; rw [← HZ.out]; exact hown3)
            have HB3 : Hid (w3.ownsRow w2.heap.size 27 3 (.slice ab k cb) k (flat bN k)) := hid (own_keep HBo.out fun g hg => (hg3.block g (Nat.lt_of_lt_of_le (World.ownsRow.lt HBo.out g hg).2 HW1.out.size) (fun e => HAp.out g e.symm hg.symm)).trans (HW1.out.block g (World.ownsRow.lt HBo.out g hg).2))
            have HAp3 : Hid (∀ g, v3.ownBlock = some g → some g ≠ (Value.slice ab k cb).ownBlock) := hid (fun g hg => by
              rcases hat3 with e | e
              · exact HAp.out g (e.symm.trans hg)
              · intro e2
                rw [e] at hg
                injection hg with hg
                have := (World.ownsRow.lt HBo.out g e2.symm).2
                simp at hg
                omega)
            have HBl3 : Hid (Below w2.heap.size w2 w3) := hid ((HB.out.trans (HW1.out.mono HB.out.size)).grown hg3 (by simp; omega) (fun g hg => (World.ownsRow.lt HA.out g hg).1))
            have hsz3 := HBl3.out.size
            have HW2 : Hid (Below w3.heap.size w3 (w3.alloc (.cells #[.int .i64 1, .int .i64 (k : Int), .slice none 0 0] 27))) := hid (by repeat (first | exact Below.refl _ _ | assumption | refine Below.drew ?_ | refine Below.alloc ?_ (by first | exact Nat.le_refl _ | omega | (simp; done) | (simp; omega)) _ | refine Below.setCell ?_ (by first | exact Nat.le_refl _ | omega | (simp; done) | (simp; omega)) _))
            have HB2 := hid (own_keep HB3.out fun g hg => HW2.out.block g (World.ownsRow.lt HB3.out g hg).2)
            clear hown3 hg3 hnil3 hat3 HA1 HA HBo HAp
            obtain ⟨a3, c3, e3⟩ := own_form HA3.out
            subst e3)
         | (at_builtin
            refine wpList_append_own_at _ rfl _ _ 24 rfl w2.heap.size 27 i0 _ 3 40 Try.underlying24 HI.out HZ0.out HZ1.out HZ2.out rfl (by decide) _ _ _ rfl HB2.out ⟨w3.heap.size, 0, none⟩ 1 1 [.int .i64 1, .int .i64 (k : Int), .slice none 0 0] rfl rfl (cell_three _ _ _ _ _) (fun u hu => by simp at hu; rcases hu with rfl | rfl | rfl <;> rfl) (by unfold maxLen; omega) (by omega) (by simp; omega) ?_
            intro v4 w4 hown4 hg4 hnil4 hat4
            have HB4 : Hid (w4.ownsRow w2.heap.size 27 3 v4 (k + 1) (flat bN (k + 1))) := hid (by rw [HQ2.out]; exact hown4)
            have HA4 : Hid (w4.ownsRow w2.heap.size 27 3 (.slice a3 (k + 1) c3) (k + 1) (flat (aN n) (k + 1))) := hid (own_keep HA3.out fun g hg => (hg4.block g (Nat.lt_of_lt_of_le (World.ownsRow.lt HA3.out g hg).2 HW2.out.size) (HAp3.out g hg)).trans (HW2.out.block g (World.ownsRow.lt HA3.out g hg).2))
            have HAp4 : Hid (∀ g, (Value.slice a3 (k + 1) c3).ownBlock = some g → some g ≠ v4.ownBlock) := hid (fun g hg => by
              rcases hat4 with e | e
              · rw [e]; exact HAp3.out g hg
              · rw [e]
                intro e2
                injection e2 with e2
                have := (World.ownsRow.lt HA3.out g hg).2
                simp at e2
                omega)
            have HBl4 : Hid (Below w2.heap.size w2 w4) := hid ((HBl3.out.trans (HW2.out.mono HBl3.out.size)).grown hg4 (by simp; omega) (fun g hg => (World.ownsRow.lt HB3.out g hg).1))
            clear hown4 hg4 hnil4 hat4 HB2 HB3 HA3 HAp3
            obtain ⟨a4, c4, e4⟩ := own_form HB4.out
            subst e4))
      go_roundw
      case rel => exact ⟨k + 1, a3, c3, a4, c4, by omega, by go_num, rfl, rfl, HA4.out, HB4.out, HAp4.out, HBl4.out⟩
      case measure => simp [intOf]; omega
    · obtain rfl : k = 4 := by omega
      have RA : Hid (Rd (fun _ => True) 1048576 wr (0 + 1) (cRow n) aa 4) := hid (rd_of_own HA.out (by omega))
      have RB : Hid (Rd (fun _ => True) 1048576 wr (0 + 1) vRow ab 4) := hid (rd_of_own HBo.out (by omega))
      have HLc : Hid (4 ≤ cb) := hid (by
        rcases HBo.out.2 with ⟨e, h0⟩ | ⟨g, cap, cur, e, hb, hh, hn, _⟩
        · omega
        · injection e with e1 e2 e3
          omega)
      have H3 := hid (H2.out.trans (HB.out.mono H2.out.size))
      clear HA HBo HAp HB hlt
      obtain ⟨e1, e2, e3, e4, e5, e6⟩ := facts hn hm
      have HEq := hid (equal_impl 0 (cRow n) vRow aa ab 4 4 ca cb)
      have HLs := hid (less_impl 0 (cRow n) vRow aa ab 4 4 ca cb)
      have HV1 := hid (fun a l c va vc w8 h8 => evalEx_impl 12 (equalAns 0 (cRow n) vRow 4 4) a l c va 4 vc (valsOf m 4) w8 h8)
      have HV2 := hid (fun a l c va vc w8 h8 => evalEx_impl 16 (lessAns 0 (cRow n) vRow 4 4) a l c va 4 vc (valsOf m 4) w8 h8)
      rw [e1] at HEq
      rw [e2] at HLs
      rw [e3, e5] at HV1
      rw [e4, e6] at HV2
      obtain ⟨x, hx⟩ : ∃ t, equalAns 0 (cRow n) vRow 4 4 = t := ⟨_, rfl⟩
      obtain ⟨y, hy⟩ : ∃ t, lessAns 0 (cRow n) vRow 4 4 = t := ⟨_, rfl⟩
      rw [hx] at HEq HV1
      rw [hy] at HLs HV2
      clear e1 e2 e3 e4 e5 e6 hx hy
      go_wp2_with fail
      refine (HEq.out _ RA.out RB.out).mono ?_
      rintro e w5 ⟨ax, lx, cx, rfl, hb5, ho5⟩
      have RX : Hid (Rd (fun _ => True) 1048576 w5 12 x ax lx) := hid (ho5.rd.imp fun _ _ => trivial)
      have H5 := hid (H3.out.trans (hb5.mono H3.out.size))
      have V6 : Hid (Below w5.heap.size w5 (w5.alloc (.cells #[.int .i64 (kd x), .int .i64 (nn x), .slice ax lx cx] 27))) := hid (by repeat (first | exact Below.refl _ _ | assumption | refine Below.drew ?_ | refine Below.alloc ?_ (by first | exact Nat.le_refl _ | omega | (simp; done) | (simp; omega)) _ | refine Below.setCell ?_ (by first | exact Nat.le_refl _ | omega | (simp; done) | (simp; omega)) _))
      have HX : Hid (∀ w8, Below (w5.heap.size + 1) (w5.alloc (.cells #[.int .i64 (kd x), .int .i64 (nn x), .slice ax lx cx] 27)) w8 → (w8.cell? ⟨w5.heap.size, 0, none⟩ = some (.int .i64 (kd x)) ∧ w8.cell? ⟨w5.heap.size, 1, none⟩ = some (.int .i64 (nn x)) ∧ w8.cell? ⟨w5.heap.size, 2, none⟩ = some (.slice ax lx cx)) ∧ Rd (fun _ => True) 1048576 w8 12 x ax lx ∧ Rd (fun _ => True) 1048576 w8 (0 + 1) (cRow n) aa 4 ∧ Rd (fun _ => True) 1048576 w8 (0 + 1) vRow ab 4 ∧ Below w.heap.size w w8) := hid (fun w8 hb => by
        have hb' : Below (w5.alloc (.cells #[.int .i64 (kd x), .int .i64 (nn x), .slice ax lx cx] 27)).heap.size (w5.alloc (.cells #[.int .i64 (kd x), .int .i64 (nn x), .slice ax lx cx] 27)) w8 := by rw [World.size_alloc]; exact hb
        have hb2 : Below w5.heap.size w5 w8 := V6.out.trans (hb'.mono (by simp))
        exact ⟨⟨keep hb' (by simp [go_sem]), keep hb' (by simp [go_sem]), keep hb' (by simp [go_sem])⟩, RX.out.below hb2, RA.out.below (hb5.trans (hb2.mono hb5.size)), RB.out.below (hb5.trans (hb2.mono hb5.size)), H5.out.trans (hb2.mono H5.out.size)⟩)
      have HXr := HX.out _ (Below.refl _ _)
      have RA6 := hid HXr.2.2.1
      have RB6 := hid HXr.2.2.2.1
      clear HXr hb5 ho5
      go_wp2_with fail
      refine (HLs.out _ RA6.out RB6.out).mono ?_
      rintro e w7 ⟨ay, ly, cy, rfl, hb7, ho7⟩
      have B7 : Hid (Below (w5.heap.size + 1) (w5.alloc (.cells #[.int .i64 (kd x), .int .i64 (nn x), .slice ax lx cx] 27)) w7) := hid (by rw [World.size_alloc] at hb7; exact hb7)
      have RY : Hid (Rd (fun _ => True) 1048576 w7 16 y ay ly) := hid (ho7.rd.imp fun _ _ => trivial)
      have V8 : Hid (Below w7.heap.size w7 (w7.alloc (.cells #[.int .i64 (kd y), .int .i64 (nn y), .slice ay ly cy] 27))) := hid (by repeat (first | exact Below.refl _ _ | assumption | refine Below.drew ?_ | refine Below.alloc ?_ (by first | exact Nat.le_refl _ | omega | (simp; done) | (simp; omega)) _ | refine Below.setCell ?_ (by first | exact Nat.le_refl _ | omega | (simp; done) | (simp; omega)) _))
      have hs7 := hb7.size
      rw [World.size_alloc] at hs7
      have HY : Hid (∀ w8, Below (w7.heap.size + 1) (w7.alloc (.cells #[.int .i64 (kd y), .int .i64 (nn y), .slice ay ly cy] 27)) w8 → (w8.cell? ⟨w7.heap.size, 0, none⟩ = some (.int .i64 (kd y)) ∧ w8.cell? ⟨w7.heap.size, 1, none⟩ = some (.int .i64 (nn y)) ∧ w8.cell? ⟨w7.heap.size, 2, none⟩ = some (.slice ay ly cy)) ∧ Rd (fun _ => True) 1048576 w8 16 y ay ly ∧ Below (w5.heap.size + 1) (w5.alloc (.cells #[.int .i64 (kd x), .int .i64 (nn x), .slice ax lx cx] 27)) w8) := hid (fun w8 hb => by
        have hb' : Below (w7.alloc (.cells #[.int .i64 (kd y), .int .i64 (nn y), .slice ay ly cy] 27)).heap.size (w7.alloc (.cells #[.int .i64 (kd y), .int .i64 (nn y), .slice ay ly cy] 27)) w8 := by rw [World.size_alloc]; exact hb
        have hb2 : Below w7.heap.size w7 w8 := V8.out.trans (hb'.mono (by simp))
        exact ⟨⟨keep hb' (by simp [go_sem]), keep hb' (by simp [go_sem]), keep hb' (by simp [go_sem])⟩, RY.out.below hb2, B7.out.trans (hb2.mono hs7)⟩)
      obtain ⟨X0, hX0⟩ : ∃ z, w5.heap.size = z := ⟨_, rfl⟩
      obtain ⟨Y0, hY0⟩ : ∃ z, w7.heap.size = z := ⟨_, rfl⟩
      have h8 := HY.out _ (Below.refl _ _)
      have h8x := HX.out _ h8.2.2
      clear hb7 ho7
      go_wp2_with fail
      -- the last regions
      have HVal : Hid (∀ w9 : World, Calls Try.prog 8 #[.int .i64 (m : Int), .int .i64 4] w9 fun e w' => ∃ va vc, e = .returned (.slice va 4 vc) ∧ BoolRow w' va 4 (valsOf m 4) ∧ Below w9.heap.size w9 w') := hid (fun w9 => by
        refine (values_laws m 4 w9 (by omega) (by omega)).mono ?_
        rintro e w' ⟨v, rfl, ho, hb⟩
        obtain ⟨va, vc, rfl, hr⟩ := ho.form
        have hl : (valsOf m 4).length = 4 := by simp [valsOf]
        rw [hl] at hr ⊢
        exact ⟨va, vc, rfl, hr, hb⟩)
      have Z8 : Hid ((w7.alloc (.cells #[.int .i64 (kd y), .int .i64 (nn y), .slice ay ly cy] 27)).heap.size = Y0 + 1) := hid (by rw [← hY0]; simp)
      rw [hY0] at HY
      rw [hX0] at HX HY
      clear hX0 hY0 h8 h8x V6 V8 B7 RX RY H5
      generalize w7.alloc (.cells #[.int .i64 (kd y), .int .i64 (nn y), .slice ay ly cy] 27) = w8q at *
      have h8 := HY.out w8q (Below.refl _ _)
      have Ca := hid (HX.out _ h8.2.2).1
      have RXa := hid (HX.out _ h8.2.2).2.1
      clear h8
      have HKa : Hid (∀ w8 : World, Below w8q.heap.size w8q w8 → (w8.cell? ⟨X0, 0, none⟩ = some (.int .i64 (kd x)) ∧ w8.cell? ⟨X0, 1, none⟩ = some (.int .i64 (nn x)) ∧ w8.cell? ⟨X0, 2, none⟩ = some (.slice ax lx cx)) ∧ Rd (fun _ => True) 1048576 w8 12 x ax lx) := hid (fun w8 hb => ⟨⟨keep hb Ca.out.1, keep hb Ca.out.2.1, keep hb Ca.out.2.2⟩, RXa.out.below hb⟩)
      refine region_goes 8 9 (fun w' => w'.cell? ⟨X0, 0, none⟩ = some (.int .i64 (kd x)) ∧ w'.cell? ⟨X0, 1, none⟩ = some (.int .i64 (nn x)) ∧ w'.cell? ⟨X0, 2, none⟩ = some (.slice ax lx cx)) (by kernel_rfl) (by rfl) ⟨by kernel_rfl, by kernel_rfl, by kernel_rfl, by decide⟩ (HKa.out _ (below_drewN _ 1)).1 (fun hE inv hHeld => ?_)
      refine Goes.take (i := 0) (v := ?vua0) (some 75) hE rfl rfl inv (by kernel_rfl) (by kernel_rfl) (by decide) (fun _ _ _ h => h) (Or.inl ⟨by rfl, ?yua0⟩) (by assumption) (fun inv => ?rua0)
      case yua0 => (intro w' hSw; (try dsimp only at hSw); obtain ⟨s0, s1, s2⟩ := hSw; go_simp; (try with_reducible rfl))
      simp only [Act.put, List.setIfInBounds_toArray, List.set_cons_zero, List.set_cons_succ]
      refine Goes.take (i := 1) (v := ?vua1) (some 76) hE rfl rfl inv (by kernel_rfl) (by kernel_rfl) (by decide) (fun _ _ _ h => h) (Or.inl ⟨by rfl, ?yua1⟩) (by assumption) (fun inv => ?rua1)
      case yua1 => (intro w' hSw; (try dsimp only at hSw); obtain ⟨s0, s1, s2⟩ := hSw; go_simp; (try with_reducible rfl))
      simp only [Act.put, List.setIfInBounds_toArray, List.set_cons_zero, List.set_cons_succ]
      refine Goes.one (i := 2) inv (by kernel_rfl) (by decide) rfl (fun inv K' hK => ?_)
      go_simp
      refine (HVal.out _).mono ?_
      rintro e wa1 ⟨vaa, vca, rfl, hva, hba1⟩
      have hbba1 : Below w8q.heap.size w8q wa1 := (below_drewN _ 1).trans (hba1.mono (Nat.le_refl _))
      (try go_wp2_with fail)
      refine hK.out _ _ (HKa.out _ hbba1).1 (fun hHeld => ?_)
      clear hK K'
      (try simp only [Act.put, List.setIfInBounds_toArray, List.set_cons_zero, List.set_cons_succ])
      refine Goes.one (i := 3) inv (by kernel_rfl) (by decide) rfl (fun inv K' hK => ?_)
      go_simp
      refine (HV1.out ax lx cx vaa vca _ (HKa.out _ hbba1).2 hva).mono ?_
      rintro e w10 ⟨rfl, hba2⟩
      have hbba2 : Below w8q.heap.size w8q w10 := hbba1.trans (hba2.mono hbba1.size)
      (try go_wp2_with fail)
      refine hK.out _ _ (HKa.out _ hbba2).1 (fun hHeld => ?_)
      clear hK K'
      (try simp only [Act.put, List.setIfInBounds_toArray, List.set_cons_zero, List.set_cons_succ])
      refine Goes.take (i := 4) (v := ?vua4) (some 74) hE rfl rfl inv (by kernel_rfl) (by kernel_rfl) (by decide) (fun _ _ _ h => h) (Or.inl ⟨by rfl, ?yua4⟩) (by assumption) (fun inv => ?rua4)
      case yua4 => (intro w' hSw; (try dsimp only at hSw); obtain ⟨s0, s1, s2⟩ := hSw; go_simp; (try with_reducible rfl))
      simp only [Act.put, List.setIfInBounds_toArray, List.set_cons_zero, List.set_cons_succ]
      refine Goes.take (i := 5) (v := ?vua5) (some 79) hE rfl rfl inv (by kernel_rfl) (by kernel_rfl) (by decide) (fun _ _ _ h => h) (Or.inl ⟨by rfl, ?yua5⟩) (by assumption) (fun inv => ?rua5)
      case yua5 => (intro w' hSw; (try dsimp only at hSw); obtain ⟨s0, s1, s2⟩ := hSw; go_simp; (try with_reducible rfl))
      simp only [Act.put, List.setIfInBounds_toArray, List.set_cons_zero, List.set_cons_succ]
      refine Goes.take (i := 6) (v := ?vua6) (some 80) hE rfl rfl inv (by kernel_rfl) (by kernel_rfl) (by decide) (fun _ _ _ h => h) (Or.inl ⟨by rfl, ?yua6⟩) (by assumption) (fun inv => ?rua6)
      case yua6 => (intro w' hSw; (try dsimp only at hSw); obtain ⟨s0, s1, s2⟩ := hSw; go_simp; (try with_reducible rfl))
      simp only [Act.put, List.setIfInBounds_toArray, List.set_cons_zero, List.set_cons_succ]
      refine Goes.one (i := 7) inv (by kernel_rfl) (by decide) rfl (fun inv K' hK => ?_)
      go_simp
      refine hK.out _ _ (HKa.out _ hbba2).1 (fun hHeld => ?_)
      clear hK K'
      (try simp only [Act.put, List.setIfInBounds_toArray, List.set_cons_zero, List.set_cons_succ])
      refine Goes.last (by kernel_rfl) (by kernel_rfl) rfl (fun K' hK => ?_)
      go_simp
      refine hK.out _ _ ?_
      clear hK K' hHeld
      (try simp only [Exit.then])
      have BBa := hid hbba2
      clear hbba2 hbba1 hba2 hba1 hva
      have B10 : Hid (Below (Y0 + 1) w8q w10) := hid (by have h := BBa.out; rw [Z8.out] at h; exact h)
      have hs10 : Y0 < w10.heap.size := by have h := BBa.out.size; have := Z8.out; omega
      clear BBa
      go_wp2_with fail
      have h10 := HY.out w10 B10.out
      have Cb := hid h10.1
      have RYb := hid h10.2.1
      clear h10
      have HKb : Hid (∀ w8 : World, Below w10.heap.size w10 w8 → (w8.cell? ⟨Y0, 0, none⟩ = some (.int .i64 (kd y)) ∧ w8.cell? ⟨Y0, 1, none⟩ = some (.int .i64 (nn y)) ∧ w8.cell? ⟨Y0, 2, none⟩ = some (.slice ay ly cy)) ∧ Rd (fun _ => True) 1048576 w8 16 y ay ly) := hid (fun w8 hb => ⟨⟨keep hb Cb.out.1, keep hb Cb.out.2.1, keep hb Cb.out.2.2⟩, RYb.out.below hb⟩)
      refine region_goes 8 9 (fun w' => w'.cell? ⟨Y0, 0, none⟩ = some (.int .i64 (kd y)) ∧ w'.cell? ⟨Y0, 1, none⟩ = some (.int .i64 (nn y)) ∧ w'.cell? ⟨Y0, 2, none⟩ = some (.slice ay ly cy)) (by kernel_rfl) (by rfl) ⟨by kernel_rfl, by kernel_rfl, by kernel_rfl, by decide⟩ (HKb.out _ (below_drewN _ 1)).1 (fun hE inv hHeld => ?_)
      refine Goes.take (i := 0) (v := ?vub0) (some 82) hE rfl rfl inv (by kernel_rfl) (by kernel_rfl) (by decide) (fun _ _ _ h => h) (Or.inl ⟨by rfl, ?yub0⟩) (by assumption) (fun inv => ?rub0)
      case yub0 => (intro w' hSw; (try dsimp only at hSw); obtain ⟨s0, s1, s2⟩ := hSw; go_simp; (try with_reducible rfl))
      simp only [Act.put, List.setIfInBounds_toArray, List.set_cons_zero, List.set_cons_succ]
      refine Goes.take (i := 1) (v := ?vub1) (some 83) hE rfl rfl inv (by kernel_rfl) (by kernel_rfl) (by decide) (fun _ _ _ h => h) (Or.inl ⟨by rfl, ?yub1⟩) (by assumption) (fun inv => ?rub1)
      case yub1 => (intro w' hSw; (try dsimp only at hSw); obtain ⟨s0, s1, s2⟩ := hSw; go_simp; (try with_reducible rfl))
      simp only [Act.put, List.setIfInBounds_toArray, List.set_cons_zero, List.set_cons_succ]
      refine Goes.one (i := 2) inv (by kernel_rfl) (by decide) rfl (fun inv K' hK => ?_)
      go_simp
      refine (HVal.out _).mono ?_
      rintro e wb1 ⟨vab, vcb, rfl, hvb, hbb1⟩
      have hbbb1 : Below w10.heap.size w10 wb1 := (below_drewN _ 1).trans (hbb1.mono (Nat.le_refl _))
      (try go_wp2_with fail)
      refine hK.out _ _ (HKb.out _ hbbb1).1 (fun hHeld => ?_)
      clear hK K'
      (try simp only [Act.put, List.setIfInBounds_toArray, List.set_cons_zero, List.set_cons_succ])
      refine Goes.one (i := 3) inv (by kernel_rfl) (by decide) rfl (fun inv K' hK => ?_)
      go_simp
      refine (HV2.out ay ly cy vab vcb _ (HKb.out _ hbbb1).2 hvb).mono ?_
      rintro e w11 ⟨rfl, hbb2⟩
      have hbbb2 : Below w10.heap.size w10 w11 := hbbb1.trans (hbb2.mono hbbb1.size)
      (try go_wp2_with fail)
      refine hK.out _ _ (HKb.out _ hbbb2).1 (fun hHeld => ?_)
      clear hK K'
      (try simp only [Act.put, List.setIfInBounds_toArray, List.set_cons_zero, List.set_cons_succ])
      refine Goes.take (i := 4) (v := ?vub4) (some 81) hE rfl rfl inv (by kernel_rfl) (by kernel_rfl) (by decide) (fun _ _ _ h => h) (Or.inl ⟨by rfl, ?yub4⟩) (by assumption) (fun inv => ?rub4)
      case yub4 => (intro w' hSw; (try dsimp only at hSw); obtain ⟨s0, s1, s2⟩ := hSw; go_simp; (try with_reducible rfl))
      simp only [Act.put, List.setIfInBounds_toArray, List.set_cons_zero, List.set_cons_succ]
      refine Goes.take (i := 5) (v := ?vub5) (some 86) hE rfl rfl inv (by kernel_rfl) (by kernel_rfl) (by decide) (fun _ _ _ h => h) (Or.inl ⟨by rfl, ?yub5⟩) (by assumption) (fun inv => ?rub5)
      case yub5 => (intro w' hSw; (try dsimp only at hSw); obtain ⟨s0, s1, s2⟩ := hSw; go_simp; (try with_reducible rfl))
      simp only [Act.put, List.setIfInBounds_toArray, List.set_cons_zero, List.set_cons_succ]
      refine Goes.take (i := 6) (v := ?vub6) (some 87) hE rfl rfl inv (by kernel_rfl) (by kernel_rfl) (by decide) (fun _ _ _ h => h) (Or.inl ⟨by rfl, ?yub6⟩) (by assumption) (fun inv => ?rub6)
      case yub6 => (intro w' hSw; (try dsimp only at hSw); obtain ⟨s0, s1, s2⟩ := hSw; go_simp; (try with_reducible rfl))
      simp only [Act.put, List.setIfInBounds_toArray, List.set_cons_zero, List.set_cons_succ]
      refine Goes.one (i := 7) inv (by kernel_rfl) (by decide) rfl (fun inv K' hK => ?_)
      go_simp
      refine hK.out _ _ (HKb.out _ hbbb2).1 (fun hHeld => ?_)
      clear hK K'
      (try simp only [Act.put, List.setIfInBounds_toArray, List.set_cons_zero, List.set_cons_succ])
      refine Goes.last (by kernel_rfl) (by kernel_rfl) rfl (fun K' hK => ?_)
      go_simp
      refine hK.out _ _ ?_
      clear hK K' hHeld
      (try simp only [Exit.then])
      have BBb := hid hbbb2
      clear hbbb2 hbbb1 hbb2 hbb1 hvb
      have B11 : Hid (Below (Y0 + 1) w8q w11) := hid (B10.out.trans (BBb.out.mono (by omega)))
      have hs11 : Y0 < w11.heap.size := by have h := BBb.out.size; omega
      clear BBb
      go_wp2_with fail
      have hW11 := (HX.out _ (HY.out w11 B11.out).2.2).2.2.2.2
      have HW11 := hid hW11
      have RB11 := hid (HX.out _ (HY.out w11 B11.out).2.2).2.2.2.1
      clear hW11
      refine (at_2_6 aM lM cM _ (HM.out.below HW11.out) (by omega)).mono ?_
      rintro e w12 ⟨kk, rfl, hkk, hb12⟩
      have B12 := hid (B11.out.trans (hb12.mono (by omega)))
      have RB12 := hid (RB11.out.below hb12)
      have hs12 : Y0 < w12.heap.size := by have h := hb12.size; omega
      clear hb12
      obtain ⟨f1, f2, f3⟩ := facts_at hm hkk
      have HAm := hid (am_impl 0 vRow ab 4 cb ((kk : Int) - 1))
      have HV3 := hid (fun a l c va vc w8 h8 => evalEx_impl 4 (amAns 0 vRow 4 ((kk : Int) - 1)) a l c va 4 vc (valsOf m 4) w8 h8)
      rw [f1] at HAm
      rw [f2, f3] at HV3
      obtain ⟨z, hz⟩ : ∃ t, amAns 0 vRow 4 ((kk : Int) - 1) = t := ⟨_, rfl⟩
      rw [hz] at HAm HV3
      obtain ⟨few, hfew⟩ : ∃ t, decide (((m % 2 + m / 2 % 2 + m / 4 % 2 + m / 8 : Nat) : Int) ≤ (kk : Int) - 1) = t := ⟨_, rfl⟩
      rw [hfew] at HV3
      have HFew := hid hfew
      clear f1 f2 f3 hz hfew
      go_wp2_with fail
      refine (HAm.out _ RB12.out HLc.out).mono ?_
      rintro e w13 ⟨az, lz, cz, rfl, hb13, ho13⟩
      have RZ : Hid (Rd (fun _ => True) 1048576 w13 4 z az lz) := hid (ho13.rd.imp fun _ _ => trivial)
      have B13 := hid (B12.out.trans (hb13.mono (by omega)))
      have V14 : Hid (Below w13.heap.size w13 (w13.alloc (.cells #[.int .i64 (kd z), .int .i64 (nn z), .slice az lz cz] 27))) := hid (by repeat (first | exact Below.refl _ _ | assumption | refine Below.drew ?_ | refine Below.alloc ?_ (by first | exact Nat.le_refl _ | omega | (simp; done) | (simp; omega)) _ | refine Below.setCell ?_ (by first | exact Nat.le_refl _ | omega | (simp; done) | (simp; omega)) _))
      have hs13 : Y0 < w13.heap.size := by have h := hb13.size; omega
      obtain ⟨Z0, hZ0⟩ : ∃ q, w13.heap.size = q := ⟨_, rfl⟩
      have Cc : Hid ((w13.alloc (.cells #[.int .i64 (kd z), .int .i64 (nn z), .slice az lz cz] 27)).cell? ⟨Z0, 0, none⟩ = some (.int .i64 (kd z)) ∧ (w13.alloc (.cells #[.int .i64 (kd z), .int .i64 (nn z), .slice az lz cz] 27)).cell? ⟨Z0, 1, none⟩ = some (.int .i64 (nn z)) ∧ (w13.alloc (.cells #[.int .i64 (kd z), .int .i64 (nn z), .slice az lz cz] 27)).cell? ⟨Z0, 2, none⟩ = some (.slice az lz cz)) := hid (by rw [← hZ0]; exact ⟨by simp [go_sem], by simp [go_sem], by simp [go_sem]⟩)
      clear hb13 ho13
      go_wp2_with fail
      have RZc := hid (RZ.out.below V14.out)
      have B14 := hid (B13.out.trans (V14.out.mono (by omega)))
      generalize w13.alloc (.cells #[.int .i64 (kd z), .int .i64 (nn z), .slice az lz cz] 27) = w14 at *
      have hs14 : Y0 < w14.heap.size := by have h := V14.out.size; omega
      clear hZ0 V14 RZ
      have HKc : Hid (∀ w8 : World, Below w14.heap.size w14 w8 → (w8.cell? ⟨Z0, 0, none⟩ = some (.int .i64 (kd z)) ∧ w8.cell? ⟨Z0, 1, none⟩ = some (.int .i64 (nn z)) ∧ w8.cell? ⟨Z0, 2, none⟩ = some (.slice az lz cz)) ∧ Rd (fun _ => True) 1048576 w8 4 z az lz) := hid (fun w8 hb => ⟨⟨keep hb Cc.out.1, keep hb Cc.out.2.1, keep hb Cc.out.2.2⟩, RZc.out.below hb⟩)
      refine region_goes 8 9 (fun w' => w'.cell? ⟨Z0, 0, none⟩ = some (.int .i64 (kd z)) ∧ w'.cell? ⟨Z0, 1, none⟩ = some (.int .i64 (nn z)) ∧ w'.cell? ⟨Z0, 2, none⟩ = some (.slice az lz cz)) (by kernel_rfl) (by rfl) ⟨by kernel_rfl, by kernel_rfl, by kernel_rfl, by decide⟩ (HKc.out _ (below_drewN _ 1)).1 (fun hE inv hHeld => ?_)
      refine Goes.take (i := 0) (v := ?vuc0) (some 98) hE rfl rfl inv (by kernel_rfl) (by kernel_rfl) (by decide) (fun _ _ _ h => h) (Or.inl ⟨by rfl, ?yuc0⟩) (by assumption) (fun inv => ?ruc0)
      case yuc0 => (intro w' hSw; (try dsimp only at hSw); obtain ⟨s0, s1, s2⟩ := hSw; go_simp; (try with_reducible rfl))
      simp only [Act.put, List.setIfInBounds_toArray, List.set_cons_zero, List.set_cons_succ]
      refine Goes.take (i := 1) (v := ?vuc1) (some 99) hE rfl rfl inv (by kernel_rfl) (by kernel_rfl) (by decide) (fun _ _ _ h => h) (Or.inl ⟨by rfl, ?yuc1⟩) (by assumption) (fun inv => ?ruc1)
      case yuc1 => (intro w' hSw; (try dsimp only at hSw); obtain ⟨s0, s1, s2⟩ := hSw; go_simp; (try with_reducible rfl))
      simp only [Act.put, List.setIfInBounds_toArray, List.set_cons_zero, List.set_cons_succ]
      refine Goes.one (i := 2) inv (by kernel_rfl) (by decide) rfl (fun inv K' hK => ?_)
      go_simp
      refine (HVal.out _).mono ?_
      rintro e wc1 ⟨vac, vcc, rfl, hvc, hbc1⟩
      have hbbc1 : Below w14.heap.size w14 wc1 := (below_drewN _ 1).trans (hbc1.mono (Nat.le_refl _))
      (try go_wp2_with fail)
      refine hK.out _ _ (HKc.out _ hbbc1).1 (fun hHeld => ?_)
      clear hK K'
      (try simp only [Act.put, List.setIfInBounds_toArray, List.set_cons_zero, List.set_cons_succ])
      refine Goes.one (i := 3) inv (by kernel_rfl) (by decide) rfl (fun inv K' hK => ?_)
      go_simp
      refine (HV3.out az lz cz vac vcc _ (HKc.out _ hbbc1).2 hvc).mono ?_
      rintro e w15 ⟨rfl, hbc2⟩
      have hbbc2 : Below w14.heap.size w14 w15 := hbbc1.trans (hbc2.mono hbbc1.size)
      (try go_wp2_with fail)
      refine hK.out _ _ (HKc.out _ hbbc2).1 (fun hHeld => ?_)
      clear hK K'
      (try simp only [Act.put, List.setIfInBounds_toArray, List.set_cons_zero, List.set_cons_succ])
      refine Goes.take (i := 4) (v := ?vuc4) (some 97) hE rfl rfl inv (by kernel_rfl) (by kernel_rfl) (by decide) (fun _ _ _ h => h) (Or.inl ⟨by rfl, ?yuc4⟩) (by assumption) (fun inv => ?ruc4)
      case yuc4 => (intro w' hSw; (try dsimp only at hSw); obtain ⟨s0, s1, s2⟩ := hSw; go_simp; (try with_reducible rfl))
      simp only [Act.put, List.setIfInBounds_toArray, List.set_cons_zero, List.set_cons_succ]
      refine Goes.take (i := 5) (v := ?vuc5) (some 102) hE rfl rfl inv (by kernel_rfl) (by kernel_rfl) (by decide) (fun _ _ _ h => h) (Or.inl ⟨by rfl, ?yuc5⟩) (by assumption) (fun inv => ?ruc5)
      case yuc5 => (intro w' hSw; (try dsimp only at hSw); obtain ⟨s0, s1, s2⟩ := hSw; go_simp; (try with_reducible rfl))
      simp only [Act.put, List.setIfInBounds_toArray, List.set_cons_zero, List.set_cons_succ]
      refine Goes.take (i := 6) (v := ?vuc6) (some 103) hE rfl rfl inv (by kernel_rfl) (by kernel_rfl) (by decide) (fun _ _ _ h => h) (Or.inl ⟨by rfl, ?yuc6⟩) (by assumption) (fun inv => ?ruc6)
      case yuc6 => (intro w' hSw; (try dsimp only at hSw); obtain ⟨s0, s1, s2⟩ := hSw; go_simp; (try with_reducible rfl))
      simp only [Act.put, List.setIfInBounds_toArray, List.set_cons_zero, List.set_cons_succ]
      refine Goes.one (i := 7) inv (by kernel_rfl) (by decide) rfl (fun inv K' hK => ?_)
      go_simp
      refine hK.out _ _ (HKc.out _ hbbc2).1 (fun hHeld => ?_)
      clear hK K'
      (try simp only [Act.put, List.setIfInBounds_toArray, List.set_cons_zero, List.set_cons_succ])
      refine Goes.last (by kernel_rfl) (by kernel_rfl) rfl (fun K' hK => ?_)
      go_simp
      refine hK.out _ _ ?_
      clear hK K' hHeld
      (try simp only [Exit.then])
      have BBc := hid hbbc2
      clear hbbc2 hbbc1 hbc2 hbc1 hvc
      have B15 := hid (B14.out.trans (BBc.out.mono (by omega)))
      have HEnd := hid (HX.out _ (HY.out w15 B15.out).2.2).2.2.2.2
      clear BBc
      obtain ⟨sm, hsm⟩ : ∃ b, decide (n = m) = b := ⟨_, rfl⟩
      obtain ⟨ls, hls⟩ : ∃ b, decide (n < m) = b := ⟨_, rfl⟩
      have hne : ((n : Int) == (m : Int)) = sm := by
        rw [← hsm]
        by_cases e : n = m
        · simp [e]
        · simp [e]; omega
      have hlt2 : decide ((n : Int) < (m : Int)) = ls := by
        rw [← hls]
        by_cases e : n < m
        · simp [e]
        · simp [e]
      have hfw : decide (((m : Int) % 2 + (m : Int) / 2 % 2 + (m : Int) / 4 % 2 + (m : Int) / 8) ≤ (kk : Int) - 1) = few := by
        rw [← HFew.out]
        push_cast
        rfl
      have q1 : (sm == sm) = true := by simp
      have q2 : (ls == ls) = true := by simp
      have q3 : (few == few) = true := by simp
      simp only [hsm, hls]
      go_wp2
      go_ret
      exact ⟨rfl, HEnd.out⟩

theorem own : ownKnob Try.prog.godebug = none := by kernel_rfl
theorem laidOut : laidOutB Try.prog = true := by kernel_rfl

set_option maxRecDepth 100000 in
theorem lifted (os : Os) (started : os.Started) (H : Type) (enc : TypeId × Value → H) :
    ReturnsInHanded {} Try.checked os 3 .any (Rows.fnComparesSpec.pre6 enc Try.prog Try.f3 Rows.fnComparesRow.domain false) (Rows.fnComparesSpec.post enc Try.prog Try.f3 false true false false) := by
  refine returnsInHanded_of_change (C := Try.checked) own started (by kernel_rfl) Try.func3
    (ChangeSpec.witness6 (enc := enc) (C := Try.checked) false ⟨#[], #[.slice none 0 0, .slice none 0 0], []⟩ 8 (by kernel_rfl) (by kernel_rfl) (by kernel_rfl) (by kernel_rfl)) ?_
  intro W base args ds gs before hval0 hW hcnd _
  have hval : ∀ (j : Nat) t v, Try.f3.params[j]? = some t → args[j]? = some v → Value.okWide Try.prog W .any base t v := hval0
  have hW' := hW
  obtain ⟨p, q, hA0, hV, rfl, hfz, hnd⟩ := hW
  have hA : DataW.TrodAll enc Try.prog W 0 (fun _ => true) true Try.f3.params.toList args.toList ds p := hA0
  rw [Try.params3] at hA hval
  obtain ⟨v0, vs0, d0, ds0, p0, q0, hargs, rfl, rfl, h0, r0⟩ := trodAll_cons hA
  obtain ⟨v1, vs1, d1, ds1, p1, q1, rfl, rfl, rfl, h1, r1⟩ := trodAll_cons r0
  obtain ⟨rfl, rfl, rfl⟩ := trodAll_nil r1
  obtain rfl : args = #[v0, v1] := by cases args; simp_all
  obtain ⟨rfl, rfl⟩ := trodVars_none hV
  have k0 := h0
  have lt0 : ∀ x ∈ p0, x.block < W.heap.size := by obtain ⟨m, hm⟩ := k0; exact DataW.trod_lt m _ _ _ hm
  have k1 := h1
  have lt1 : ∀ x ∈ p1, x.block < W.heap.size := by obtain ⟨m, hm⟩ := k1; exact DataW.trod_lt m _ _ _ hm
  obtain ⟨aA, la, cA, rfl⟩ := okWide_slice Try.underlying22 (hval 0 22 v0 rfl rfl)
  obtain ⟨aB, lb, cB, rfl⟩ := okWide_slice Try.underlying22 (hval 1 22 v1 rfl rfl)
  obtain ⟨hA1, hA2⟩ : Bytes W aA la ∧ la ≤ maxLen := by
    obtain ⟨fuel, hf⟩ := h0
    obtain ⟨a', l', c', e, hb, hl⟩ := bytes_of_trod Try.underlying22 Try.underlying5 (by kernel_rfl) (by simpa [Value.cells] using hf)
    cases e
    exact ⟨hb, hl⟩
  obtain ⟨hB1, hB2⟩ : Bytes W aB lb ∧ lb ≤ maxLen := by
    obtain ⟨fuel, hf⟩ := h1
    obtain ⟨a', l', c', e, hb, hl⟩ := bytes_of_trod Try.underlying22 Try.underlying5 (by kernel_rfl) (by simpa [Value.cells] using hf)
    cases e
    exact ⟨hb, hl⟩
  clear hA0 hval0
  refine (walk aA aB la cA lb cB W hA1 hB1 hA2 hB2).mono fun e W' ⟨he, bel⟩ => ?_
  subst he
  exact ⟨_, rfl, _, _, _, [], _, [], hW', trodAll_mk1 (shut_bool Try.underlying4 _), (trodAll_cons_mk (Below.trod laidOut (by kernel_rfl) (of_decide_eq_true (by kernel_rfl)) k0 bel lt0) (trodAll_cons_mk (Below.trod laidOut (by kernel_rfl) (of_decide_eq_true (by kernel_rfl)) k1 bel lt1) trodAll_mk0)), rfl, bel.frame _, fun h => by cases h⟩

theorem over : Rows.fnComparesRow.holds Try.pinned (OpenSpec.ofChange Rows.fnComparesSpec) :=
  OpenClaim.holds_of_wide 3 Try.f3 rfl rfl rfl rfl rfl rfl rfl ⟨rfl, rfl, rfl, rfl, rfl⟩ rfl rfl rfl rfl rfl (by kernel_rfl) Try.func3 (by kernel_rfl)
    (of_decide_eq_true (by kernel_rfl)) (by unfold Func.isWrapper; first | (rw [if_pos (by decide +kernel)]; kernel_rfl) | (rw [if_neg (by decide +kernel)]; exact ⟨rfl, rfl⟩))
    (fun os started H enc _ => lifted os started H enc)
end Go.Proofs.Ytacamkdcofppcaa.fnCompares
namespace Go.Proofs.Ytacamkdcofppcaa
theorem fnCompares_holds : Rows.FnComparesSaid := fnCompares.over
end Go.Proofs.Ytacamkdcofppcaa
