/- Whatever the bytes, the bits of the word that they draw tell its value: FnWords answers true and changes nothing that was there; conditions: none. -/
import Derived.Test.YtikdadpapdkfiaaWordsMath
import Derived.Test.YtikdadpapdkfiaaWordValue
import Derived.Test.YtikdadpapdkfiaaBitFace
import Derived.Test.YtikdadpapdkfiaaBitSpecFace
import Derived.Test.YtikdadpapdkfiaaTreeVarsI
import Derived.Test.YtikdadpapdkfiaaAtEight
import Derived.Test.YtikdadpapdkfiaaWordOfS
namespace Go.Proofs.Ytikdadpapdkfiaa.fnWords
open Go.ChangeShapes Go.WideShapes Go.ChangeAt Go.RowKit Go.Deep Go.Joins Go base args trees wordTrees wordsMath values atEight wordOfS
set_option linter.unusedVariables false

theorem info_int : (Try.prog.info? 3).map (fun i => (i.zero, i.size, i.bytes)) = some (some (.int .i64 0), 1, 8) := by kernel_rfl
/-- The values' bits, three each. -/
def bits3 (E : List Int) : List Bool := E.flatMap fun r => [bt r 0, bt r 1, bt r 2]
theorem bits3_len (E : List Int) : (bits3 E).length = E.length * 3 := by
  induction E with
  | nil => rfl
  | cons r E ih => simp [bits3] at ih ⊢; omega
theorem bits3_add (E : List Int) (r : Int) : bits3 (E ++ [r]) = bits3 E ++ [bt r 0, bt r 1, bt r 2] := by simp [bits3]
theorem bits3_at : ∀ (E : List Int) (j i : Nat), j < E.length → i < 3 → (bits3 E)[j * 3 + i]?.getD false = bt (E[j]?.getD 0) i
  | [], j, i, hj, _ => absurd hj (Nat.not_lt_zero _)
  | r :: E, 0, i, _, hi => by
    match i, hi with
    | 0, _ => rfl
    | 1, _ => rfl
    | 2, _ => rfl
    | i + 3, hi => exact absurd hi (by omega)
  | r :: E, j + 1, i, hj, hi => by
    have ih := bits3_at E j i (by simpa using hj) hi
    have e : (j + 1) * 3 + i = (j * 3 + i) + 3 := by omega
    rw [e]
    simpa [bits3] using ih
def OwnI (B : Nat) (w : World) (v : Value) (zs : List Int) : Prop := w.ownsRow B 3 1 v zs.length (zs.map (Value.int .i64))
theorem own_keep {B n : Nat} {w w1 : World} {v : Value} {t : TypeId} {s : Nat} {xs : List Value} (h : w.ownsRow B t s v n xs) (hk : ∀ g, v.ownBlock = some g → w1.heap[g]? = w.heap[g]?) : w1.ownsRow B t s v n xs := by
  obtain ⟨h1, h2⟩ := h
  refine ⟨h1, ?_⟩
  rcases h2 with h2 | ⟨g, cap, cur, rfl, hg, hh, hn⟩
  · exact .inl h2
  · exact .inr ⟨g, cap, cur, rfl, hg, by rw [hk g rfl]; exact hh, hn⟩
theorem own_form {B n : Nat} {w : World} {v : Value} {t : TypeId} {s : Nat} {xs : List Value} (h : w.ownsRow B t s v n xs) : ∃ a c, v = .slice a n c := by
  rcases h.2 with ⟨rfl, h0⟩ | ⟨g, cap, cur, rfl, _⟩
  · exact ⟨none, 0, by rw [h0]⟩
  · exact ⟨_, _, rfl⟩
theorem own_none (w : World) {B N : Nat} (t : TypeId) (hN : w.heap.size = N) (hB : B ≤ N) : (w.alloc (.cells #[] t)).ownsRow B t 1 (.slice (some ⟨N, 0, none⟩) 0 0) 0 [] := by
  subst hN
  exact ⟨rfl, .inr ⟨w.heap.size, 0, #[], rfl, hB, heap_alloc_new w _, Nat.le_refl _, Nat.zero_le _, rfl, rfl⟩⟩
theorem ints_row {B : Nat} {w : World} {a : Option Addr} {n c : Nat} {zs : List Int} (h : OwnI B w (.slice a n c) zs) : IntRow w a n zs := by
  obtain ⟨h1, h2⟩ := h
  rcases h2 with ⟨e, hn⟩ | ⟨g, cap, cur, e, hb, hh, hn, hm, hs, ht⟩
  · injection e with e1 e2 e3
    subst e1 e2
    exact ⟨by omega, Nat.zero_le _, fun i hi => absurd hi (Nat.not_lt_zero _)⟩
  · injection e with e1 e2 e3
    subst e1 e2
    refine ⟨rfl, Nat.le_trans hn hm, fun i hi => ⟨g, 0, rfl, ?_⟩⟩
    have h3 : cur[i]? = some (.int .i64 (zs[i]?.getD 0)) := by
      have : (cur.toList.take (zs.length * 1))[i]? = (zs.map (Value.int .i64))[i]? := by rw [ht]
      rw [List.getElem?_take, if_pos (by omega)] at this
      rw [← Array.getElem?_toList, this, List.getElem?_map, List.getElem?_eq_getElem hi]
      rfl
    simp [World.cell?, hh, h3]
theorem bools_row {B : Nat} {w : World} {a : Option Addr} {n c : Nat} {zs : List Bool} (h : OwnBools B w (.slice a n c) zs) : BoolRow w a n zs := by
  obtain ⟨a', c', e, hr⟩ := h.form
  injection e with e1 e2 e3
  subst e1 e2
  exact hr
theorem cell_three (w : World) (x y z : Value) (t : TypeId) : ∀ (j : Nat) (u : Value), [x, y, z][j]? = some u → (w.alloc (.cells #[x, y, z] t)).cell? ((⟨w.heap.size, 0, none⟩ : Addr).add j) = some u := by
  intro j u h
  match j, h with
  | 0, h => cases h; simp [Addr.add, go_sem]
  | 1, h => cases h; simp [Addr.add, go_sem]
  | 2, h => cases h; simp [Addr.add, go_sem]
  | _ + 3, h => simp at h
theorem row_right {w : World} {t : T} {ta : Option Addr} {tl : Nat} (D : Nat) (hr : Rd (fun _ => True) 1048576 w 2 t ta tl) (hR : rightW 3 2 t = true) (i : Nat) (hi : i < 3) : right D (kid (bitWord.rowW 3 2 t) i) = true := bitRight.row_allR 3 (by decide) (by decide) 2 t ta tl w hr hR i hi D
theorem bt_steps : ∀ x : Fin 8, ∀ k : Fin 3, ((x.val : Nat) : Int) / 2 ^ (k.val + 1) * 2 + (if bt ((x.val : Nat) : Int) k.val then 1 else 0) = ((x.val : Nat) : Int) / 2 ^ k.val := by decide +kernel
theorem bt_step {x : Int} (h0 : 0 ≤ x) (h1 : x < 8) (k : Nat) (hk : k < 3) : x / 2 ^ (k + 1) * 2 + (if bt x k then 1 else 0) = x / 2 ^ k := by
  obtain ⟨f, rfl⟩ := fin8 h0 h1
  exact bt_steps f ⟨k, hk⟩
theorem bt_small {x : Int} (h0 : 0 ≤ x) (h1 : x < 8) (k : Nat) : 0 ≤ x / 2 ^ k ∧ x / 2 ^ k < 8 := by
  have hp : (0 : Int) < 2 ^ k := Int.pow_pos (by decide)
  exact ⟨Int.ediv_nonneg h0 (by omega), Int.lt_of_le_of_lt (Int.ediv_le_self _ h0) h1⟩
theorem bt_mod : ∀ x : Fin 8, (((x.val : Nat) : Int) % 2 == 1) = bt ((x.val : Nat) : Int) 0 ∧ (((x.val : Nat) : Int) / 2 % 2 == 1) = bt ((x.val : Nat) : Int) 1 ∧ (((x.val : Nat) : Int) / 4 == 1) = bt ((x.val : Nat) : Int) 2 := by decide +kernel

set_option maxHeartbeats 12800000 in
set_option maxRecDepth 8000 in
theorem walk (aC aM : Option Addr) (lC cC lM cM : Nat) (w : World) (hC : Bytes w aC lC) (hM : Bytes w aM lM) (hlC : lC ≤ maxLen) (hlM : lM ≤ maxLen) :
    Calls Try.prog 3 #[.slice aC lC cC, .slice aM lM cM] w fun e w' => e = .returned (.bool true) ∧ Below w.heap.size w w' := by
  have HC := hid hC
  have HM := hid hM
  unfold maxLen at hlC hlM
  clear hC hM
  by_cases h1 : 1048576 < lC
  · have i1 : decide ((1048576 : Int) < (lC : Int)) = true := decide_eq_true (by omega)
    go_enter Try.func3, Try.ntmps3
    go_wp2
    go_ret
    exact ⟨rfl, (by repeat (first | exact Below.refl _ _ | assumption | refine Below.drew ?_ | refine Below.alloc ?_ (by first | exact Nat.le_refl _ | omega | (simp; done) | (simp; omega)) _ | refine Below.setCell ?_ (by first | exact Nat.le_refl _ | omega | (simp; done) | (simp; omega)) _))⟩
  have i1 : decide ((1048576 : Int) < (lC : Int)) = false := decide_eq_false (by omega)
  by_cases h2 : 1048576 < lM
  · have i2 : decide ((1048576 : Int) < (lM : Int)) = true := decide_eq_true (by omega)
    go_enter Try.func3, Try.ntmps3
    go_wp2
    go_ret
    exact ⟨rfl, (by repeat (first | exact Below.refl _ _ | assumption | refine Below.drew ?_ | refine Below.alloc ?_ (by first | exact Nat.le_refl _ | omega | (simp; done) | (simp; omega)) _ | refine Below.setCell ?_ (by first | exact Nat.le_refl _ | omega | (simp; done) | (simp; omega)) _))⟩
  have i2 : decide ((1048576 : Int) < (lM : Int)) = false := decide_eq_false (by omega)
  go_enter Try.func3, Try.ntmps3
  go_wp2_with fail
  refine (wordOf_spec aC lC cC _ HC.out (by omega)).mono ?_
  rintro e w1 ⟨t, ta, tl, tc, rfl, hrd, hfi, hb1⟩
  have H1 := hid hb1
  have HR := hid hrd
  have HF := hid hfi
  clear hb1 hrd hfi
  obtain ⟨i0, hi0, hzz⟩ := Option.map_eq_some_iff.1 info_int
  simp only [Prod.mk.injEq] at hzz
  obtain ⟨hz0, hz1, hz2⟩ := hzz
  have HI := hid hi0
  have HZ0 := hid hz0
  have HZ1 := hid hz1
  have HZ2 := hid hz2
  clear hi0 hz0 hz1 hz2
  obtain ⟨j0, hj0, hyy⟩ := Option.map_eq_some_iff.1 info_bool
  simp only [Prod.mk.injEq] at hyy
  obtain ⟨hy0, hy1, hy2⟩ := hyy
  have HJ := hid hj0
  have HY0 := hid hy0
  have HY1 := hid hy1
  have HY2 := hid hy2
  clear hj0 hy0 hy1 hy2
  go_wp2
  have HMw : Hid (∀ w8 : World, Below (w1.alloc (.cells #[.int .i64 (kd t), .int .i64 (nn t), .slice ta tl tc] 25)).heap.size (w1.alloc (.cells #[.int .i64 (kd t), .int .i64 (nn t), .slice ta tl tc] 25)) w8 → Bytes w8 aM lM ∧ (w8.cell? ⟨w1.heap.size, 0, none⟩ = some (.int .i64 (kd t)) ∧ w8.cell? ⟨w1.heap.size, 1, none⟩ = some (.int .i64 (nn t)) ∧ w8.cell? ⟨w1.heap.size, 2, none⟩ = some (.slice ta tl tc)) ∧ Rd (fun _ => True) 1048576 w8 2 t ta tl ∧ Below w.heap.size w w8 ∧ w1.heap.size < w8.heap.size) := hid (fun w8 hb => by
    have h0 : Below w1.heap.size w1 (w1.alloc (.cells #[.int .i64 (kd t), .int .i64 (nn t), .slice ta tl tc] 25)) := (by repeat (first | exact Below.refl _ _ | assumption | refine Below.drew ?_ | refine Below.alloc ?_ (by first | exact Nat.le_refl _ | omega | (simp; done) | (simp; omega)) _ | refine Below.setCell ?_ (by first | exact Nat.le_refl _ | omega | (simp; done) | (simp; omega)) _))
    have h1 := h0.trans (hb.mono (by simp))
    have hz := hb.size
    simp at hz
    exact ⟨(HM.out.below H1.out).below h1, ⟨keep hb (by simp [go_sem]), keep hb (by simp [go_sem]), keep hb (by simp [go_sem])⟩, (HR.out.below h1).imp fun _ _ => trivial, H1.out.trans (h1.mono H1.out.size), by omega⟩)
  go_loopw [8, 6, 7] (fun i ve vb wr => ∃ (k : Nat) (E : List Int), k ≤ 4 ∧ i = .int .i64 k ∧ E.length = k ∧ (∀ j, j < k → 0 ≤ E[j]?.getD 0 ∧ E[j]?.getD 0 < 8) ∧ OwnI (w1.heap.size + 1) wr ve E ∧ OwnBools (w1.heap.size + 1) wr vb (bits3 E) ∧ (∀ g, ve.ownBlock = some g → some g ≠ vb.ownBlock) ∧ Below (w1.alloc (.cells #[.int .i64 (kd t), .int .i64 (nn t), .slice ta tl tc] 25)).heap.size (w1.alloc (.cells #[.int .i64 (kd t), .int .i64 (nn t), .slice ta tl tc] 25)) wr) (fun i _ _ _ => 4 - (intOf i).toNat)
  case atStart =>
    refine ⟨0, [], by omega, rfl, rfl, fun j hj => absurd hj (Nat.not_lt_zero _), own_keep (own_none (w1.alloc (.cells #[.int .i64 (kd t), .int .i64 (nn t), .slice ta tl tc] 25)) 3 (by simp) (by omega)) fun g hg => ?_, own_none _ 4 (by simp) (by omega), fun g hg e => ?_, (by repeat (first | exact Below.refl _ _ | assumption | refine Below.drew ?_ | refine Below.alloc ?_ (by first | exact Nat.le_refl _ | omega | (simp; done) | (simp; omega)) _ | refine Below.setCell ?_ (by first | exact Nat.le_refl _ | omega | (simp; done) | (simp; omega)) _))⟩
    · have hg' : some (w1.heap.size + 1) = some g := hg
      injection hg' with hg'
      subst hg'
      exact Below.block (B := w1.heap.size + 1 + 1) ((Below.refl _ _).alloc (by simp) _) _ (by omega)
    · have hg' : some (w1.heap.size + 1) = some g := hg
      have he' : some g = some (w1.heap.size + 1 + 1) := e
      injection hg' with hg'
      injection he' with he'
      omega
  case round =>
    obtain ⟨k, E, hk, rfl, hEl, hEb, hoa, hob, hap, hbel⟩ := hrel
    subst hEl
    have HEb := hid hEb
    have HAp := hid hap
    have HB := hid hbel
    obtain ⟨hbm, hcells, hrdw, hbw, hzw⟩ := HMw.out _ hbel
    have HBm := hid hbm
    obtain ⟨ea, ec, ee⟩ := own_form hoa
    subst ee
    obtain ⟨ba, bc, be⟩ := own_form hob
    subst be
    have HBl := hid (bits3_len E)
    clear hEb hap hbel hbm
    by_cases hlt : E.length < 4
    · go_wp2_with fail
      refine (at_8 E.length hlt aM lM cM _ HBm.out (by omega)).mono ?_
      rintro e w2 ⟨r, rfl, hr8, hb2⟩
      have HA := hid (own_keep hoa fun g hg => hb2.block g (World.ownsRow.lt hoa g hg).2)
      have HBo := hid (own_keep hob fun g hg => hb2.block g (World.ownsRow.lt hob g hg).2)
      have HB2 := hid (HB.out.trans (hb2.mono HB.out.size))
      have hz2 : w1.heap.size < w2.heap.size := Nat.lt_of_lt_of_le hzw hb2.size
      obtain ⟨e0, e1, e2⟩ := bt_mod ⟨r, hr8⟩
      have HN3 : Hid ((bits3 E).length ≤ 12) := hid (by have := HBl.out; omega)
      have HAdd := hid (bits3_add E (r : Int))
      have HW1 : Hid (Below w2.heap.size w2 (w2.alloc (.cells #[.int .i64 (r : Int)] 3))) := hid (by repeat (first | exact Below.refl _ _ | assumption | refine Below.drew ?_ | refine Below.alloc ?_ (by first | exact Nat.le_refl _ | omega | (simp; done) | (simp; omega)) _ | refine Below.setCell ?_ (by first | exact Nat.le_refl _ | omega | (simp; done) | (simp; omega)) _))
      have HA1 := hid (own_keep HA.out fun g hg => HW1.out.block g (World.ownsRow.lt HA.out g hg).2)
      clear hoa hob hb2 hcells hrdw hbw
      go_wp2_with
        (first
         | (at_builtin
            refine wpList_append_own_at _ rfl _ _ 27 rfl (w1.heap.size + 1) 3 i0 _ 1 8 Try.underlying27 HI.out HZ0.out HZ1.out HZ2.out rfl (by decide) _ _ _ rfl HA1.out ⟨w2.heap.size, 0, none⟩ 1 1 [.int .i64 (r : Int)] rfl rfl (cell_one_new _ _ _) (fun u hu => by simp at hu; subst hu; rfl) (by unfold maxLen; omega) (by omega) (by simp; omega) ?_
            intro v3 w3 hown3 hg3 hnil3 hat3
            have HA3 : Hid (OwnI (w1.heap.size + 1) w3 v3 (E ++ [(r : Int)])) := hid (by unfold OwnI; rw [List.length_append, List.map_append]; exact hown3)
            have HB3 := hid (own_keep HBo.out fun g hg => (hg3.block g (Nat.lt_of_lt_of_le (World.ownsRow.lt HBo.out g hg).2 HW1.out.size) (fun e => HAp.out g e.symm hg.symm)).trans (HW1.out.block g (World.ownsRow.lt HBo.out g hg).2))
            have HAp3 : Hid (∀ g, v3.ownBlock = some g → some g ≠ (Value.slice ba (bits3 E).length bc).ownBlock) := hid (fun g hg => by
              rcases hat3 with e | e
              · exact HAp.out g (e.symm.trans hg)
              · intro e2
                rw [e] at hg
                injection hg with hg
                have := (World.ownsRow.lt HBo.out g e2.symm).2
                simp at hg
                omega)
            have HBl3 : Hid (Below (w1.alloc (.cells #[.int .i64 (kd t), .int .i64 (nn t), .slice ta tl tc] 25)).heap.size (w1.alloc (.cells #[.int .i64 (kd t), .int .i64 (nn t), .slice ta tl tc] 25)) w3) := hid ((HB2.out.trans (HW1.out.mono HB2.out.size)).grown hg3 (by simp; omega) (fun g hg => by have := (World.ownsRow.lt HA.out g hg).1; simp; omega))
            have hsz3 := HBl3.out.size
            rw [World.size_alloc] at hsz3
            have HW2 : Hid (Below w3.heap.size w3 (w3.alloc (.cells #[.bool (bt (r : Int) 0), .bool (bt (r : Int) 1), .bool (bt (r : Int) 2)] 4))) := hid (by repeat (first | exact Below.refl _ _ | assumption | refine Below.drew ?_ | refine Below.alloc ?_ (by first | exact Nat.le_refl _ | omega | (simp; done) | (simp; omega)) _ | refine Below.setCell ?_ (by first | exact Nat.le_refl _ | omega | (simp; done) | (simp; omega)) _))
            have HB4 := hid (own_keep HB3.out fun g hg => HW2.out.block g (World.ownsRow.lt HB3.out g hg).2)
            clear hown3 hg3 hnil3 hat3 HA1 HA HBo HAp
            obtain ⟨a3, c3, e3⟩ := own_form HA3.out
            subst e3)
         | (at_builtin
            refine wpList_append_own_at _ rfl _ _ 28 rfl (w1.heap.size + 1) 4 j0 _ 1 1 Try.underlying28 HJ.out HY0.out HY1.out HY2.out rfl (by decide) _ _ _ rfl HB4.out ⟨w3.heap.size, 0, none⟩ 3 3 [.bool (bt (r : Int) 0), .bool (bt (r : Int) 1), .bool (bt (r : Int) 2)] rfl rfl (cell_three _ _ _ _ _) (fun u hu => by simp at hu; rcases hu with rfl | rfl | rfl <;> rfl) (by have := HN3.out; unfold maxLen; omega) (by have := HN3.out; omega) (by simp; omega) ?_
            intro v4 w4 hown4 hg4 hnil4 hat4
            have HB5 : Hid (OwnBools (w1.heap.size + 1) w4 v4 (bits3 (E ++ [(r : Int)]))) := hid (by rw [HAdd.out]; unfold OwnBools; rw [List.length_append, List.map_append]; exact hown4)
            have HA5 : Hid (OwnI (w1.heap.size + 1) w4 (.slice a3 (E ++ [(r : Int)]).length c3) (E ++ [(r : Int)])) := hid (own_keep HA3.out fun g hg => (hg4.block g (Nat.lt_of_lt_of_le (World.ownsRow.lt HA3.out g hg).2 HW2.out.size) (HAp3.out g hg)).trans (HW2.out.block g (World.ownsRow.lt HA3.out g hg).2))
            have HAp5 : Hid (∀ g, (Value.slice a3 (E ++ [(r : Int)]).length c3).ownBlock = some g → some g ≠ v4.ownBlock) := hid (fun g hg => by
              rcases hat4 with e | e
              · rw [e]; exact HAp3.out g hg
              · rw [e]
                intro e2
                injection e2 with e2
                have := (World.ownsRow.lt HA3.out g hg).2
                simp at e2
                omega)
            have HBl5 : Hid (Below (w1.alloc (.cells #[.int .i64 (kd t), .int .i64 (nn t), .slice ta tl tc] 25)).heap.size (w1.alloc (.cells #[.int .i64 (kd t), .int .i64 (nn t), .slice ta tl tc] 25)) w4) := hid ((HBl3.out.trans (HW2.out.mono HBl3.out.size)).grown hg4 (by simp; omega) (fun g hg => by have := (World.ownsRow.lt HB3.out g hg).1; simp; omega))
            clear hown4 hg4 hnil4 hat4 HB4 HB3 HA3 HAp3
            obtain ⟨a4, c4, e4⟩ := own_form HB5.out
            subst e4))
      go_roundw
      case rel =>
        refine ⟨E.length + 1, E ++ [(r : Int)], by omega, by go_num, by simp, fun j hj => ?_, by have h := HA5.out; rw [show (E ++ [(r : Int)]).length = E.length + 1 by simp] at h; exact h, HB5.out, by have h := HAp5.out; rw [show (E ++ [(r : Int)]).length = E.length + 1 by simp] at h; exact h, HBl5.out⟩
        by_cases e : j < E.length
        · rw [List.getElem?_append_left e]; exact HEb.out j e
        · have e' : j = E.length := by omega
          subst e'
          simp
          omega
      case measure => simp [intOf]; omega
    · have hE4 : E.length = 4 := by omega
      have hB12 : (bits3 E).length = 12 := by rw [HBl.out, hE4]
      have HRE := hid (ints_row hoa)
      have HRB := hid (bools_row hob)
      rw [hB12] at HRB
      rw [hE4] at HRE
      have HE4 := hid hE4
      rw [hE4, hB12]
      have HFit : Hid (wordVal.Fit 3 E) := hid ⟨hE4, fun i hi => HEb.out i hi⟩
      have HBt := hid (fun j i (hj : j < 4) hi => bits3_at E j i (by omega) hi)
      have hWok : wordIs.wordB 2 t 3 = true := by
        have h1 := HF.out.1
        have h2 : size 2 t ≤ 7 := HF.out.2
        show (decide ((1 : Int) ≤ 3 ∧ (3 : Int) ≤ 6) && okW 3 2 t 0) = true
        rw [okW_iff.2 ⟨by omega, h1⟩]; rfl
      have hwC : wordValue.wvC 2 t 3 E = 0 := by
        have hf : wordValue.fitB 3 E = true := by
          unfold wordValue.fitB
          rw [Bool.and_eq_true]
          refine ⟨decide_eq_true hE4, List.all_eq_true.2 fun z hz => ?_⟩
          obtain ⟨i, hi, rfl⟩ := List.getElem_of_mem hz
          have h := HEb.out i hi
          rw [List.getElem?_eq_getElem hi] at h
          exact decide_eq_true h
        unfold wordValue.wvC
        rw [if_neg (by omega), if_neg (by rw [hWok]; decide), if_neg (by show ¬ wordValue.fitB 3 E = false; rw [hf]; decide)]
      have hwV : wordValue.wvV 2 t 3 E = wordVal.valW 3 E 2 t := by unfold wordValue.wvV; rw [if_pos hwC]; rfl
      have hNb := wordVal.val_bounds (by decide) (by decide) HFit.out hrdw HF.out.1
      have h8 : wordVal.modOf 3 = 8 := rfl
      rw [h8] at hNb
      have HTell := hid (bits_tell (vs := bits3 E) HFit.out HBt.out 2 t ta tl hrdw HF.out.1)
      have HRdw := hid hrdw
      have HRight := hid (fun D => row_right D hrdw HF.out.1)
      obtain ⟨N, hN⟩ : ∃ N, wordVal.valW 3 E 2 t = N := ⟨_, rfl⟩
      rw [hN] at hwV hNb HTell
      have HwC := hid hwC
      have HwV := hid hwV
      have HNb := hid hNb
      have HWok := hid hWok
      obtain ⟨C, hC⟩ : ∃ C, bitFace.wbC 2 t 3 = C := ⟨_, rfl⟩
      obtain ⟨Ln, hLn⟩ : ∃ Ln, bitFace.wbL 2 t 3 = Ln := ⟨_, rfl⟩
      have HCC := hid hC
      have HLL := hid hLn
      have HC2 : Hid (C = 0 ∨ C = 11) := hid (by
        rw [← hC]; unfold bitFace.wbC
        rw [if_neg (by rw [hWok]; decide)]
        split
        · exact .inr rfl
        · exact .inl rfl)
      obtain ⟨k0, k1, k2⟩ := hcells
      have hNN : (N != N) = false := by simp
      have hCC : (C != C) = false := by simp
      have hLL : ((Ln : Int) != (Ln : Int)) = false := by simp
      clear hwC hwV hNb hWok hC hLn hrdw hN h8 hoa hob hE4 hB12 hlt hk
      go_wp2_with fail
      refine (wordValue.wordValue_impl 2 t ta tl tc 3 ea 4 ec E _ HRdw.out HRE.out).mono ?_
      rintro e w2 ⟨rfl, hb2⟩
      rw [HwV.out, HwC.out]
      have B2 := hid (HB.out.trans (hb2.mono HB.out.size))
      have RE2 := hid (HRE.out.below hb2)
      have RB2 := hid (HRB.out.below hb2)
      clear hb2 k0 k1 k2 hzw hbw
      obtain ⟨-, ⟨k0, k1, k2⟩, hrd2, hbw, hzw⟩ := HMw.out _ B2.out
      have RW2 := hid hrd2
      clear hrd2
      go_wp2_with fail
      refine (wordValue.wordValue_spec 2 t ta tl tc 3 ea 4 ec E _ RW2.out RE2.out).mono ?_
      rintro e w3 ⟨rfl, hb3⟩
      rw [HwV.out, HwC.out]
      have B3 := hid (B2.out.trans (hb3.mono B2.out.size))
      have RB3 := hid (RB2.out.below hb3)
      clear hb3 k0 k1 k2 hzw hbw
      obtain ⟨-, ⟨k0, k1, k2⟩, hrd2, hbw, hzw⟩ := HMw.out _ B3.out
      have RW3 := hid hrd2
      clear hrd2
      go_wp2_with fail
      refine (bitFace.wordBits_impl 2 t ta tl tc 3 _ RW3.out).mono ?_
      rintro e w4 ⟨pa, pc, rfl, hb4, how⟩
      rw [HCC.out, HLL.out]
      rw [HLL.out] at how
      have B4 := hid (B3.out.trans (hb4.mono B3.out.size))
      have RB4 := hid (RB3.out.below hb4)
      have RO4 := hid (how.rd.imp (q' := fun _ => True) fun _ _ => trivial)
      clear hb4 how k0 k1 k2 hzw hbw
      obtain ⟨-, ⟨k0, k1, k2⟩, hrd2, hbw, hzw⟩ := HMw.out _ B4.out
      have RW4 := hid hrd2
      clear hrd2
      go_wp2_with fail
      refine (bitSpecFace.wordBits_spec 2 t ta tl tc 3 _ RW4.out).mono ?_
      rintro e w5 ⟨qa, qc, rfl, hb5, -⟩
      rw [HCC.out, HLL.out]
      have B5 := hid (B4.out.trans (hb5.mono B4.out.size))
      have RB5 := hid (RB4.out.below hb5)
      have RO5 := hid (RO4.out.below hb5)
      clear hb5 k0 k1 k2 hzw hbw
      obtain ⟨-, ⟨k0, k1, k2⟩, hrd2, hbw, hzw⟩ := HMw.out _ B5.out
      have RW5 := hid hrd2
      have BW5 := hid hbw
      clear hrd2 hbw
      go_wp2_with fail
      refine (wordIs.wordOK_impl 2 t ta tl tc 3 _ RW5.out).mono ?_
      rintro e w6 ⟨rfl, hb6⟩
      rw [HWok.out]
      have B6 := hid (B5.out.trans (hb6.mono B5.out.size))
      have RB6 := hid (RB5.out.below hb6)
      have RO6 := hid (RO5.out.below hb6)
      clear hb6 k0 k1 k2 hzw
      obtain ⟨-, -, -, hbw, hzw⟩ := HMw.out _ B6.out
      have BW6 := hid hbw
      clear hbw
      rcases HC2.out with hC0 | hC11
      case inr =>
        subst hC11
        go_wp2
        go_ret
        exact ⟨rfl, BW6.out⟩
      subst hC0
      have hL3 : Ln = 3 := by rw [← HLL.out]; unfold bitFace.wbL; rw [if_pos HCC.out]; rfl
      have hT : bitFace.wbT 2 t 3 = bitWord.rowW 3 2 t := by unfold bitFace.wbT; rw [if_pos HCC.out]; rfl
      have hAll : rowsImpl.allOk 60 (bitWord.rowW 3 2 t) 3 = true := by
        have h := HCC.out
        unfold bitFace.wbC at h
        rw [if_neg (by rw [HWok.out]; decide)] at h
        cases hq : rowsImpl.allOk 60 (bitWord.rowW 3 2 t) 3 with
        | true => rfl
        | false =>
          rw [if_pos (show rowsImpl.allOk (30 * 2) (bitWord.rowW (3 : Int).toNat 2 t) (3 : Int).toNat = false from hq)] at h
          exact absurd h (by decide)
      rw [hT] at RO6
      subst hL3
      have HAll := hid hAll
      clear hT hAll hLL hCC
      go_wp2
      go_loopw [18, 19] (fun got i wr => ∃ k : Nat, k ≤ 3 ∧ i = .int .i64 ((k : Int) - 1) ∧ got = .int .i64 (N / 2 ^ k) ∧ Below w6.heap.size w6 wr) (fun _ i _ => (intOf i + 1).toNat)
      case atStart => exact ⟨3, by omega, rfl, by have := HNb.out; simp; omega, Below.refl _ _⟩
      case round =>
        obtain ⟨k, hk, rfl, rfl, hbel⟩ := hrel
        have HB7 := hid hbel
        have RO7 := hid (RO6.out.below hbel)
        have RB7 := hid (RB6.out.below hbel)
        clear hbel
        match k, hk with
        | 0, _ =>
          have hN1 : N / 2 ^ 0 = N := by simp
          rw [hN1]
          have hm1 : decide ((0 : Int) ≤ ((0 : Nat) : Int) - 1) = false := by decide
          go_wp2
          go_ret
          exact ⟨by simp, BW6.out.trans (HB7.out.mono BW6.out.size)⟩
        | k + 1, hk =>
          obtain ⟨-, b, off, hpa, -, c0, c1, a', l', c', c2, hrk⟩ := RO7.out.cell (i := k) (by omega)
          subst hpa
          have HRk := hid hrk
          have hok := allTo_true HAll.out (show k < 3 by omega)
          have hec : treeVars.evC 60 (kid (bitWord.rowW 3 2 t) k) 12 = 0 := by
            unfold treeVars.evC
            rw [if_neg (by omega), if_neg (by rw [hok]; decide), if_neg]
            have := most_right 60 _ _ _ hrk (HRight.out 60 k (by omega))
            omega
          have hev : treeVars.evB 60 (kid (bitWord.rowW 3 2 t) k) 12 (bits3 E) = bt N k := by
            unfold treeVars.evB
            rw [if_pos hec]
            exact HTell.out k (by omega) 60 (by omega)
          have HEc := hid hec
          have HEv := hid hev
          have hst := bt_step HNb.out.1 HNb.out.2 k (by omega)
          have hk1 : ((k + 1 : Nat) : Int) - 1 = (k : Int) := by omega
          have hk3 : (k : Int) < 3 := by omega
          obtain ⟨X, hX⟩ : ∃ X, N / 2 ^ (k + 1) = X := ⟨_, rfl⟩
          obtain ⟨Y, hY⟩ : ∃ Y, N / 2 ^ k = Y := ⟨_, rfl⟩
          rw [hX, hY] at hst
          rw [hX]
          have HX : Hid (0 ≤ X ∧ X < 8) := hid (by rw [← hX]; exact bt_small HNb.out.1 HNb.out.2 (k + 1))
          have HY := hid hY
          have HSt := hid hst
          rw [hk1]
          have HK := hid hk
          clear hrk hok hec hev hst hk1 hX hY hk
          have hx0 := HX.out.1
          have hx1 := HX.out.2
          go_wp2_with fail
          refine (treeVars.evalEx_impl 60 (kid (bitWord.rowW 3 2 t) k) a' l' c' ba 12 bc (bits3 E) _ HRk.out RB7.out).mono ?_
          rintro e w8 ⟨rfl, hb8⟩
          rw [HEv.out, HEc.out]
          have HB8 := hid (HB7.out.trans (hb8.mono HB7.out.size))
          clear hb8 c0 c1 c2
          obtain ⟨yb, hyb⟩ : ∃ b, bt N k = b := ⟨_, rfl⟩
          rw [hyb] at HSt ⊢
          clear hyb
          cases yb with
          | true =>
            have HE : Hid (X * 2 + 1 = Y) := hid HSt.out
            go_wp2
            go_roundw
            case rel => exact ⟨k, by have := HK.out; omega, by go_num, by rw [HY.out, ← HE.out], HB8.out⟩
            case measure => first | (simp [intOf]; done) | (simp [intOf]; omega)
          | false =>
            have HE : Hid (X * 2 + 0 = Y) := hid HSt.out
            go_wp2
            go_roundw
            case rel => exact ⟨k, by have := HK.out; omega, by go_num, by rw [HY.out, ← HE.out, Int.add_zero], HB8.out⟩
            case measure => first | (simp [intOf]; done) | (simp [intOf]; omega)

theorem own : ownKnob Try.prog.godebug = none := by kernel_rfl
theorem laidOut : laidOutB Try.prog = true := by kernel_rfl

set_option maxRecDepth 100000 in
theorem lifted (os : Os) (started : os.Started) (H : Type) (enc : TypeId × Value → H) :
    ReturnsInHanded {} Try.checked os 3 .any (Rows.fnWordsSpec.pre6 enc Try.prog Try.f3 Rows.fnWordsRow.domain false) (Rows.fnWordsSpec.post enc Try.prog Try.f3 false true false false) := by
  refine returnsInHanded_of_change (C := Try.checked) own started (by kernel_rfl) Try.func3
    (ChangeSpec.witness6 (enc := enc) (C := Try.checked) false ⟨#[], #[.slice none 0 0, .slice none 0 0], []⟩ 8 (by kernel_rfl) (by kernel_rfl) (by kernel_rfl) (by kernel_rfl)) ?_
  intro W base args ds gs before hval0 hW hcnd _
  have hval : ∀ (j : Nat) t v, Try.f3.params[j]? = some t → args[j]? = some v → Value.okWide Try.prog W .any base t v := hval0
  have hW' := hW
  obtain ⟨p, q, hA0, hV, rfl, hfz, hnd⟩ := hW
  have hA : DataW.TrodAll enc Try.prog W 0 (fun _ => true) true Try.f3.params.toList args.toList ds p := hA0
  rw [Try.params3] at hA hval
  obtain ⟨v0, vs0, d0, ds0, p0, q0, hargs, rfl, rfl, h0, r0⟩ := trodAll_cons hA
  obtain ⟨v1, vs1, d1, ds1, p1, q1, rfl, rfl, rfl, h1, r1⟩ := trodAll_cons r0
  obtain ⟨rfl, rfl, rfl⟩ := trodAll_nil r1
  obtain rfl : args = #[v0, v1] := by cases args; simp_all
  obtain ⟨rfl, rfl⟩ := trodVars_none hV
  have k0 := h0
  have lt0 : ∀ x ∈ p0, x.block < W.heap.size := by obtain ⟨m, hm⟩ := k0; exact DataW.trod_lt m _ _ _ hm
  have k1 := h1
  have lt1 : ∀ x ∈ p1, x.block < W.heap.size := by obtain ⟨m, hm⟩ := k1; exact DataW.trod_lt m _ _ _ hm
  obtain ⟨aA, la, cA, rfl⟩ := okWide_slice Try.underlying22 (hval 0 22 v0 rfl rfl)
  obtain ⟨aB, lb, cB, rfl⟩ := okWide_slice Try.underlying22 (hval 1 22 v1 rfl rfl)
  obtain ⟨hA1, hA2⟩ : Bytes W aA la ∧ la ≤ maxLen := by
    obtain ⟨fuel, hf⟩ := h0
    obtain ⟨a', l', c', e, hb, hl⟩ := bytes_of_trod Try.underlying22 Try.underlying5 (by kernel_rfl) (by simpa [Value.cells] using hf)
    cases e
    exact ⟨hb, hl⟩
  obtain ⟨hB1, hB2⟩ : Bytes W aB lb ∧ lb ≤ maxLen := by
    obtain ⟨fuel, hf⟩ := h1
    obtain ⟨a', l', c', e, hb, hl⟩ := bytes_of_trod Try.underlying22 Try.underlying5 (by kernel_rfl) (by simpa [Value.cells] using hf)
    cases e
    exact ⟨hb, hl⟩
  clear hA0 hval0
  refine (walk aA aB la cA lb cB W hA1 hB1 hA2 hB2).mono fun e W' ⟨he, bel⟩ => ?_
  subst he
  exact ⟨_, rfl, _, _, _, [], _, [], hW', trodAll_mk1 (shut_bool Try.underlying4 _), (trodAll_cons_mk (Below.trod laidOut (by kernel_rfl) (of_decide_eq_true (by kernel_rfl)) k0 bel lt0) (trodAll_cons_mk (Below.trod laidOut (by kernel_rfl) (of_decide_eq_true (by kernel_rfl)) k1 bel lt1) trodAll_mk0)), rfl, bel.frame _, fun h => by cases h⟩

theorem over : Rows.fnWordsRow.holds Try.pinned (OpenSpec.ofChange Rows.fnWordsSpec) :=
  OpenClaim.holds_of_wide 3 Try.f3 rfl rfl rfl rfl rfl rfl rfl ⟨rfl, rfl, rfl, rfl, rfl⟩ rfl rfl rfl rfl rfl (by kernel_rfl) Try.func3 (by kernel_rfl)
    (of_decide_eq_true (by kernel_rfl)) (by unfold Func.isWrapper; first | (rw [if_pos (by decide +kernel)]; kernel_rfl) | (rw [if_neg (by decide +kernel)]; exact ⟨rfl, rfl⟩))
    (fun os started H enc _ => lifted os started H enc)
end Go.Proofs.Ytikdadpapdkfiaa.fnWords
namespace Go.Proofs.Ytikdadpapdkfiaa
theorem fnWords_holds : Rows.FnWordsSaid := fnWords.over
end Go.Proofs.Ytikdadpapdkfiaa
