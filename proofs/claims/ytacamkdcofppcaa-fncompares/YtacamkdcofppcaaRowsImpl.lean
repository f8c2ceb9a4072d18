/- EqualEx and LessEx of the program: for all rows of expressions that lie in memory; conditions: none. -/
import Derived.Test.YtacamkdcofppcaaLessImpl
import Derived.Test.YtacamkdcofppcaaOwnExE
import Derived.Test.YtacamkdcofppcaaTreeImpl
namespace Go.Proofs.Ytacamkdcofppcaa.rowsImpl
open Go.RowKit Go.Deep Go base trees built heldStore drawn ownTree ownEx ownExE equalImpl lessImpl treeImpl
set_option linter.unusedVariables false

/-- All expressions of a row are right. -/
def allOk (d : Nat) (t : T) (l : Nat) : Bool := allTo (fun i => okB d (kid t i) 1 0) l
theorem ok_kind {d : Nat} {t : T} (h0 : d = 0 → ln t = 0) (h : okB d t 1 0 = true) : kd t ≠ 0 := by
  intro e
  have h1 := (okB_iff.1 h).2.2
  rw [right_eq h0, Bool.and_eq_true] at h1
  have h2 := of_decide_eq_true h1.1
  rw [e] at h2
  have h3 : kidsOf 0 = -1 := by decide
  omega
theorem allOk_kind {q : Nat → Prop} {M d l : Nat} {w : World} {t : T} {a : Option Addr} (hr : Rd q M w (d + 1) t a l) (h : allOk d t l = true) : ∀ i, i < l → kd (kid t i) ≠ 0 := by
  intro i hi
  obtain ⟨_, _, _, _, _, _, _, _, _, _, _, hx⟩ := hr.cell hi
  exact ok_kind hx.zero (allTo_true h hi)
set_option maxHeartbeats 800000 in
theorem all_impl (d : Nat) (t : T) (a : Option Addr) (l c : Nat) (w : World) (hr : Rd (fun _ => True) 1048576 w (d + 1) t a l) :
    Calls Try.prog 17 #[.slice a l c, .func (.func 14) #[] #[]] w fun e w' => e = .returned (.bool (allOk d t l)) ∧ Below w.heap.size w w' := by
  have hmost := hr.most
  have HR := hid hr
  clear hr
  go_enter Try.func17, Try.ntmps17
  go_wp2
  go_loopw [9] (fun i wr => ∃ k : Nat, k ≤ l ∧ i = .int .i64 k ∧ Below w.heap.size w wr ∧ ∀ x, x < k → okB d (kid t x) 1 0 = true) (fun i _ => l - (intOf i).toNat)
  case atStart => exact ⟨0, Nat.zero_le _, rfl, Below.refl _ _, fun x hx => absurd hx (Nat.not_lt_zero _)⟩
  case round =>
    obtain ⟨k, hk, rfl, hb, ha⟩ := hrel
    have HA := hid ha
    have HB := hid hb
    clear ha hb
    by_cases hlt : k < l
    · obtain ⟨hd0, bb, off, rfl, hq, hc0, hc1, a', l', c', hc2, hrow⟩ := HR.out.cell hlt
      replace hc0 := keep HB.out hc0
      replace hc1 := keep HB.out hc1
      replace hc2 := keep HB.out hc2
      have HX := hid (hrow.below HB.out)
      clear hrow
      cases hok : okB d (kid t k) 1 0 with
      | false =>
        go_wp2_with fail
        refine (exOK_impl d (kid t k) a' l' c' _ (HX.out.below (by repeat (first | exact Below.refl _ _ | assumption | refine Below.drew ?_ | refine Below.alloc ?_ (by first | exact Nat.le_refl _ | omega | (simp; done) | (simp; omega)) _ | refine Below.setCell ?_ (by first | exact Nat.le_refl _ | omega | (simp; done) | (simp; omega)) _)))).mono ?_
        rintro e w1 ⟨rfl, hb1⟩
        have HB1 := hid (HB.out.trans (((show Below wr.heap.size wr _ from (by repeat (first | exact Below.refl _ _ | assumption | refine Below.drew ?_ | refine Below.alloc ?_ (by first | exact Nat.le_refl _ | omega | (simp; done) | (simp; omega)) _ | refine Below.setCell ?_ (by first | exact Nat.le_refl _ | omega | (simp; done) | (simp; omega)) _))).trans (hb1.mono (by simp))).mono HB.out.size))
        clear hb1
        rw [hok]
        go_wp2
        go_ret
        exact ⟨ret_bool (allTo_false (f := fun i => okB d (kid t i) 1 0) hlt hok).symm, HB1.out⟩
      | true =>
        go_wp2_with fail
        refine (exOK_impl d (kid t k) a' l' c' _ (HX.out.below (by repeat (first | exact Below.refl _ _ | assumption | refine Below.drew ?_ | refine Below.alloc ?_ (by first | exact Nat.le_refl _ | omega | (simp; done) | (simp; omega)) _ | refine Below.setCell ?_ (by first | exact Nat.le_refl _ | omega | (simp; done) | (simp; omega)) _)))).mono ?_
        rintro e w1 ⟨rfl, hb1⟩
        have HB1 := hid (HB.out.trans (((show Below wr.heap.size wr _ from (by repeat (first | exact Below.refl _ _ | assumption | refine Below.drew ?_ | refine Below.alloc ?_ (by first | exact Nat.le_refl _ | omega | (simp; done) | (simp; omega)) _ | refine Below.setCell ?_ (by first | exact Nat.le_refl _ | omega | (simp; done) | (simp; omega)) _))).trans (hb1.mono (by simp))).mono HB.out.size))
        clear hb1
        rw [hok]
        go_wp2
        go_roundw
        case rel =>
          refine ⟨k + 1, by omega, by go_num, HB1.out, fun x hx => ?_⟩
          by_cases e : x = k
          · subst e; exact hok
          · exact HA.out x (by omega)
        case measure => simp [intOf]; omega
    · have e : k = l := by omega
      subst e
      go_wp2
      go_ret
      exact ⟨ret_bool (allTo_of (f := fun i => okB d (kid t i) 1 0) HA.out).symm, HB.out⟩

/-- The code of two rows of expressions that are held against each other. -/
def rowsC (d : Nat) (A B : T) (la lb : Nat) : Int := if 4096 < la ∨ 4096 < lb then 2 else if la ≠ lb ∨ 6 < la then 5 else if allOk d A la = false ∨ allOk d B lb = false then 1 else 0
set_option maxHeartbeats 1600000 in
theorem fault_impl (d : Nat) (A B : T) (aA aB : Option Addr) (la lb cA cB : Nat) (w : World) (hA : Rd (fun _ => True) 1048576 w (d + 1) A aA la) (hB : Rd (fun _ => True) 1048576 w (d + 1) B aB lb) :
    Calls Try.prog 10 #[.slice aA la cA, .slice aB lb cB] w fun e w' => e = .returned (.int .i64 (rowsC d A B la lb)) ∧ Below w.heap.size w w' := by
  have hmA := hA.most
  have hmB := hB.most
  have HA := hid hA
  have HB := hid hB
  clear hA hB
  by_cases h1 : 4096 < la ∨ 4096 < lb
  · have e : rowsC d A B la lb = 2 := if_pos h1
    rw [e]
    by_cases h2 : 4096 < la
    · go_enter Try.func10, Try.ntmps10
      go_wp2
      go_ret
      exact ⟨rfl, (by repeat (first | exact Below.refl _ _ | assumption | refine Below.drew ?_ | refine Below.alloc ?_ (by first | exact Nat.le_refl _ | omega | (simp; done) | (simp; omega)) _ | refine Below.setCell ?_ (by first | exact Nat.le_refl _ | omega | (simp; done) | (simp; omega)) _))⟩
    · have h3 : 4096 < lb := by omega
      go_enter Try.func10, Try.ntmps10
      go_wp2
      go_ret
      exact ⟨rfl, (by repeat (first | exact Below.refl _ _ | assumption | refine Below.drew ?_ | refine Below.alloc ?_ (by first | exact Nat.le_refl _ | omega | (simp; done) | (simp; omega)) _ | refine Below.setCell ?_ (by first | exact Nat.le_refl _ | omega | (simp; done) | (simp; omega)) _))⟩
  · by_cases h2 : la ≠ lb ∨ 6 < la
    · have e : rowsC d A B la lb = 5 := by unfold rowsC; rw [if_neg h1, if_pos h2]
      rw [e]
      have h4 : la ≤ 4096 := by omega
      have h5 : lb ≤ 4096 := by omega
      by_cases h3 : la = lb
      · subst h3
        have h6 : 6 < la := by omega
        have dn : ((la : Int) != (la : Int)) = false := by simp
        clear h1 h2 e
        go_enter Try.func10, Try.ntmps10
        go_wp2
        go_ret
        exact ⟨rfl, (by repeat (first | exact Below.refl _ _ | assumption | refine Below.drew ?_ | refine Below.alloc ?_ (by first | exact Nat.le_refl _ | omega | (simp; done) | (simp; omega)) _ | refine Below.setCell ?_ (by first | exact Nat.le_refl _ | omega | (simp; done) | (simp; omega)) _))⟩
      · have dn : ((la : Int) != (lb : Int)) = true := by simp; omega
        clear h1 h2 e h3
        go_enter Try.func10, Try.ntmps10
        go_wp2
        go_ret
        exact ⟨rfl, (by repeat (first | exact Below.refl _ _ | assumption | refine Below.drew ?_ | refine Below.alloc ?_ (by first | exact Nat.le_refl _ | omega | (simp; done) | (simp; omega)) _ | refine Below.setCell ?_ (by first | exact Nat.le_refl _ | omega | (simp; done) | (simp; omega)) _))⟩
    · obtain rfl : la = lb := by omega
      have h6 : la ≤ 6 := by omega
      have dn : ((la : Int) != (la : Int)) = false := by simp
      cases oA : allOk d A la with
      | false =>
        have e : rowsC d A B la la = 1 := by unfold rowsC; rw [if_neg h1, if_neg h2, if_pos (.inl oA)]
        rw [e]
        clear h1 h2 e
        go_enter Try.func10, Try.ntmps10
        go_wp2_with fail
        refine (all_impl d A aA la cA _ HA.out).mono ?_
        rintro e w1 ⟨rfl, hb1⟩
        have HB1 := hid hb1
        clear hb1
        rw [oA]
        go_wp2
        go_ret
        exact ⟨rfl, HB1.out⟩
      | true =>
        cases oB : allOk d B la with
        | false =>
          have e : rowsC d A B la la = 1 := by unfold rowsC; rw [if_neg h1, if_neg h2, if_pos (.inr oB)]
          rw [e]
          clear h1 h2 e
          go_enter Try.func10, Try.ntmps10
          go_wp2_with fail
          refine (all_impl d A aA la cA _ HA.out).mono ?_
          rintro e w1 ⟨rfl, hb1⟩
          have HB1 := hid hb1
          clear hb1
          rw [oA]
          go_wp2_with fail
          refine (all_impl d B aB la cB _ (HB.out.below HB1.out)).mono ?_
          rintro e w2 ⟨rfl, hb2⟩
          have HB2 := hid (HB1.out.trans (hb2.mono HB1.out.size))
          clear hb2
          rw [oB]
          go_wp2
          go_ret
          exact ⟨rfl, HB2.out⟩
        | true =>
          have e : rowsC d A B la la = 0 := by unfold rowsC; rw [if_neg h1, if_neg h2, if_neg (by rw [oA, oB]; simp)]
          rw [e]
          clear h1 h2 e
          go_enter Try.func10, Try.ntmps10
          go_wp2_with fail
          refine (all_impl d A aA la cA _ HA.out).mono ?_
          rintro e w1 ⟨rfl, hb1⟩
          have HB1 := hid hb1
          clear hb1
          rw [oA]
          go_wp2_with fail
          refine (all_impl d B aB la cB _ (HB.out.below HB1.out)).mono ?_
          rintro e w2 ⟨rfl, hb2⟩
          have HB2 := hid (HB1.out.trans (hb2.mono HB1.out.size))
          clear hb2
          rw [oB]
          go_wp2
          go_ret
          exact ⟨rfl, HB2.out⟩

/-- What is answered where there is a fault. -/
def zT : T := mkT 0 0 0 fun _ _ => (0, 0, 0)
def ansT (ok : Bool) (t : T) : T := if ok = true then t else zT
def ansC (ok : Bool) : Int := if ok = true then 0 else 11
set_option maxHeartbeats 800000 in
theorem answered_impl (D : Nat) (t : T) (a : Option Addr) (l c : Nat) (w : World) (hr : Rd (fun _ => True) 1048576 w D t a l) :
    Calls Try.prog 11 #[.agg #[.int .i64 (kd t), .int .i64 (nn t), .slice a l c]] w fun e w' => ∃ a' l' c', e = .returned (.tuple #[.agg #[.int .i64 (kd (ansT (okB D t 1 0) t)), .int .i64 (nn (ansT (okB D t 1 0) t)), .slice a' l' c'], .int .i64 (ansC (okB D t 1 0))]) ∧ Below w.heap.size w w' ∧
      Ow w' D (ansT (okB D t 1 0) t) a' l' (fun b => w.heap.size ≤ b ∧ b < w'.heap.size) := by
  have HR := hid hr
  clear hr
  cases ho : okB D t 1 0 with
  | false =>
    have e1 : ansT false t = zT := rfl
    have e2 : ansC false = 11 := rfl
    rw [e1, e2]
    go_enter Try.func11, Try.ntmps11
    go_wp2_with fail
    refine (exOK_impl D t a l c _ (HR.out.below (by repeat (first | exact Below.refl _ _ | assumption | refine Below.drew ?_ | refine Below.alloc ?_ (by first | exact Nat.le_refl _ | omega | (simp; done) | (simp; omega)) _ | refine Below.setCell ?_ (by first | exact Nat.le_refl _ | omega | (simp; done) | (simp; omega)) _)))).mono ?_
    rintro e w1 ⟨rfl, hb1⟩
    have z0 : w1.cell? ⟨w.heap.size + 1, 0, none⟩ = some (.int .i64 0) := keep hb1 (by simp [go_sem])
    have z1 : w1.cell? ⟨w.heap.size + 1, 1, none⟩ = some (.int .i64 0) := keep hb1 (by simp [go_sem])
    have z2 : w1.cell? ⟨w.heap.size + 1, 2, none⟩ = some (.slice none 0 0) := keep hb1 (by simp [go_sem])
    have y0 : w1.frozen? ⟨w.heap.size + 1, 0, none⟩ = false := (hb1.frozen (p := ⟨w.heap.size + 1, 0, none⟩) (by simp)).trans (by simp [go_sem])
    have y1 : w1.frozen? ⟨w.heap.size + 1, 1, none⟩ = false := (hb1.frozen (p := ⟨w.heap.size + 1, 1, none⟩) (by simp)).trans (by simp [go_sem])
    have y2 : w1.frozen? ⟨w.heap.size + 1, 2, none⟩ = false := (hb1.frozen (p := ⟨w.heap.size + 1, 2, none⟩) (by simp)).trans (by simp [go_sem])
    have HB1 := hid ((show Below w.heap.size w _ from (by repeat (first | exact Below.refl _ _ | assumption | refine Below.drew ?_ | refine Below.alloc ?_ (by first | exact Nat.le_refl _ | omega | (simp; done) | (simp; omega)) _ | refine Below.setCell ?_ (by first | exact Nat.le_refl _ | omega | (simp; done) | (simp; omega)) _))).trans (hb1.mono (by simp; omega)))
    clear hb1
    rw [ho]
    have HB3 := hid (below_set3 HB1.out (R := w.heap.size + 1) (by omega) (.int .i64 0) (.int .i64 0) (.slice none 0 0))
    go_wp2
    refine bodyPost_ret (v := .tuple #[.agg #[.int .i64 0, .int .i64 0, .slice none 0 0], .int .i64 11]) (by simp [results, Try.results11, go_sem, z0, z1, z2]) rfl ⟨none, 0, 0, rfl, HB3.out, Ow.none _ _ rfl _ _⟩
  | true =>
    have e1 : ansT true t = t := rfl
    have e2 : ansC true = 0 := rfl
    rw [e1, e2]
    go_enter Try.func11, Try.ntmps11
    go_wp2_with fail
    refine (exOK_impl D t a l c _ (HR.out.below (by repeat (first | exact Below.refl _ _ | assumption | refine Below.drew ?_ | refine Below.alloc ?_ (by first | exact Nat.le_refl _ | omega | (simp; done) | (simp; omega)) _ | refine Below.setCell ?_ (by first | exact Nat.le_refl _ | omega | (simp; done) | (simp; omega)) _)))).mono ?_
    rintro e w1 ⟨rfl, hb1⟩
    have x0 : w1.cell? ⟨w.heap.size, 0, none⟩ = some (.int .i64 (kd t)) := keep hb1 (by simp [go_sem])
    have x1 : w1.cell? ⟨w.heap.size, 1, none⟩ = some (.int .i64 (nn t)) := keep hb1 (by simp [go_sem])
    have x2 : w1.cell? ⟨w.heap.size, 2, none⟩ = some (.slice a l c) := keep hb1 (by simp [go_sem])
    have z0 : w1.cell? ⟨w.heap.size + 1, 0, none⟩ = some (.int .i64 0) := keep hb1 (by simp [go_sem])
    have z1 : w1.cell? ⟨w.heap.size + 1, 1, none⟩ = some (.int .i64 0) := keep hb1 (by simp [go_sem])
    have z2 : w1.cell? ⟨w.heap.size + 1, 2, none⟩ = some (.slice none 0 0) := keep hb1 (by simp [go_sem])
    have y0 : w1.frozen? ⟨w.heap.size + 1, 0, none⟩ = false := (hb1.frozen (p := ⟨w.heap.size + 1, 0, none⟩) (by simp)).trans (by simp [go_sem])
    have y1 : w1.frozen? ⟨w.heap.size + 1, 1, none⟩ = false := (hb1.frozen (p := ⟨w.heap.size + 1, 1, none⟩) (by simp)).trans (by simp [go_sem])
    have y2 : w1.frozen? ⟨w.heap.size + 1, 2, none⟩ = false := (hb1.frozen (p := ⟨w.heap.size + 1, 2, none⟩) (by simp)).trans (by simp [go_sem])
    have HB1 := hid ((show Below w.heap.size w _ from (by repeat (first | exact Below.refl _ _ | assumption | refine Below.drew ?_ | refine Below.alloc ?_ (by first | exact Nat.le_refl _ | omega | (simp; done) | (simp; omega)) _ | refine Below.setCell ?_ (by first | exact Nat.le_refl _ | omega | (simp; done) | (simp; omega)) _))).trans (hb1.mono (by simp; omega)))
    have hsz : w.heap.size + 1 < w1.heap.size := World.block_lt_of_cell? _ _ z0
    clear hb1
    rw [ho]
    go_wp2_with fail
    refine (ownE D t a l c _ (HR.out.below HB1.out)).mono ?_
    rintro e w2 ⟨a', c', rfl, hb2, ho2⟩
    replace z0 := keep hb2 z0
    replace z1 := keep hb2 z1
    replace z2 := keep hb2 z2
    replace y0 := (hb2.frozen (p := ⟨w.heap.size + 1, 0, none⟩) hsz).trans y0
    replace y1 := (hb2.frozen (p := ⟨w.heap.size + 1, 1, none⟩) hsz).trans y1
    replace y2 := (hb2.frozen (p := ⟨w.heap.size + 1, 2, none⟩) hsz).trans y2
    have HO := hid (ho2.kept fun b hb _ => set3_heap w2 (R := w.heap.size + 1) (b := b) (by omega) (.int .i64 (kd t)) (.int .i64 (nn t)) (.slice a' l c'))
    have HB3 := hid (below_set3 (HB1.out.trans (hb2.mono HB1.out.size)) (R := w.heap.size + 1) (by omega) (.int .i64 (kd t)) (.int .i64 (nn t)) (.slice a' l c'))
    clear hb2 ho2
    go_wp2
    refine bodyPost_ret (v := .tuple #[.agg #[.int .i64 (kd t), .int .i64 (nn t), .slice a' l c'], .int .i64 0]) (by simp [results, Try.results11, go_sem, z0, z1, z2]) rfl ⟨a', l, c', rfl, HB3.out, HO.out.sub fun b hb => ⟨by omega, by simpa [World.setCell] using hb.2⟩⟩
end Go.Proofs.Ytacamkdcofppcaa.rowsImpl
