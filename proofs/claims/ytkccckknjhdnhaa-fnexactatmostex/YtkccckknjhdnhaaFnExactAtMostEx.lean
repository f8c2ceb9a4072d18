/- For all numbers and rows of expressions AtMostEx answers as its specification, the row is as it was, and what is answered owns its memory; conditions: none. -/
import Derived.Test.YtkccckknjhdnhaaAtFace
import Derived.Test.YtkccckknjhdnhaaTreeMark
import Derived.Test.YtkccckknjhdnhaaTreeEq
import Derived.Test.YtkccckknjhdnhaaTreeArgs
namespace Go.Proofs.Ytkccckknjhdnhaa.fnExactAtMostEx
open Go.ChangeShapes Go.WideShapes Go.ChangeAt Go.RowKit Go.Deep Go.Joins Go base trees built ownTree ownEx ownExE rowsImpl atMost atFace treeOwn treeMark treeEq treeArgs args
set_option linter.unusedVariables false

theorem ans_small (ok : Bool) (F : Nat) (t : T) (hz : F = 0 → ln t = 0) (h : ok = okB F t 1 0) : rowN F (ansT ok t) ≤ 400 := by
  cases ok with
  | false => exact Nat.zero_le _
  | true =>
    have h1 := (okB_iff.1 h.symm).1
    have h2 := size_rowN hz
    show rowN F t ≤ 400
    omega
theorem zT_row (F : Nat) : rowN F zT ≤ 400 := Nat.zero_le _

set_option maxHeartbeats 400000 in
theorem markE (F : Nat) (k n : Int) (t : T) (a : Option Addr) (l c : Nat) (S : Nat → Prop) (w : World) (ho : Ow w F t a l S) (hS : ∀ b, S b → b < w.heap.size) (hm : rowN F t ≤ 400) :
    Calls Try.prog 13 #[.agg #[.int .i64 k, .int .i64 n, .slice a l c], .int .i64 1] w fun e w' => e = .returned (.int .i64 (1 + 2 * (rowN F t : Int))) ∧ Ow w' F (markT F 1 t) a l S ∧ ∃ w1, Below w.heap.size w w1 ∧ Fr S w1 w' := by
  have HO := hid ho
  clear ho
  go_enter Try.func13, Try.ntmps13
  go_wp2_with fail
  refine (markS F t a l c 1 S _ (HO.out.below (by repeat (first | exact Below.refl _ _ | assumption | refine Below.drew ?_ | refine Below.alloc ?_ (by first | exact Nat.le_refl _ | omega | (simp; done) | (simp; omega)) _ | refine Below.setCell ?_ (by first | exact Nat.le_refl _ | omega | (simp; done) | (simp; omega)) _))) (by omega) (by omega)).mono ?_
  rintro e w1 ⟨rfl, ho1, hf1⟩
  have HO1 := hid ho1
  have HF1 := hid hf1
  clear ho1 hf1
  have HB1 : Hid (Below w.heap.size w (w.alloc (.cells #[.int .i64 k, .int .i64 n, .slice a l c] 26))) := (by repeat (first | exact Below.refl _ _ | assumption | refine Below.drew ?_ | refine Below.alloc ?_ (by first | exact Nat.le_refl _ | omega | (simp; done) | (simp; omega)) _ | refine Below.setCell ?_ (by first | exact Nat.le_refl _ | omega | (simp; done) | (simp; omega)) _))
  go_wp2
  go_ret
  exact ⟨rfl, HO1.out, _, HB1.out, HF1.out⟩
set_option maxHeartbeats 400000 in
theorem heldE (F : Nat) (k n : Int) (t : T) (a : Option Addr) (l c : Nat) (w : World) (hr : Rd (fun _ => True) 1048576 w F (markT F 1 t) a l) (hm : rowN F t ≤ 400) :
    Calls Try.prog 14 #[.agg #[.int .i64 k, .int .i64 n, .slice a l c], .int .i64 1] w fun e w' => e = .returned (.int .i64 (1 + 2 * (rowN F t : Int))) ∧ Below w.heap.size w w' := by
  have HR := hid hr
  clear hr
  obtain ⟨m, hmm⟩ : ∃ m, 1 + 2 * (rowN F t : Int) = m := ⟨_, rfl⟩
  have hp : 0 ≤ m := by omega
  rw [hmm]
  have HM := hid hmm
  clear hmm
  go_enter Try.func14, Try.ntmps14
  go_wp2_with fail
  refine (heldS F t a l c 1 _ (HR.out.below (by repeat (first | exact Below.refl _ _ | assumption | refine Below.drew ?_ | refine Below.alloc ?_ (by first | exact Nat.le_refl _ | omega | (simp; done) | (simp; omega)) _ | refine Below.setCell ?_ (by first | exact Nat.le_refl _ | omega | (simp; done) | (simp; omega)) _))) (by omega) (by omega)).mono ?_
  rintro e w1 ⟨rfl, hb1⟩
  have HB1 := hid ((show Below w.heap.size w _ from (by repeat (first | exact Below.refl _ _ | assumption | refine Below.drew ?_ | refine Below.alloc ?_ (by first | exact Nat.le_refl _ | omega | (simp; done) | (simp; omega)) _ | refine Below.setCell ?_ (by first | exact Nat.le_refl _ | omega | (simp; done) | (simp; omega)) _))).trans (hb1.mono (by simp)))
  clear hb1
  rw [HM.out]
  go_wp2
  go_ret
  exact ⟨rfl, HB1.out⟩

/-- The law's own variables: what the specification answered, and what the program did. -/
def Vr (w : World) (Y G : Nat) (t : T) (a0 a1 : Option Addr) (c0 c1 : Nat) : Prop := (w.cell? ⟨Y, 0, none⟩ = some (.int .i64 (kd t)) ∧ w.cell? ⟨Y, 1, none⟩ = some (.int .i64 (nn t)) ∧ w.cell? ⟨Y, 2, none⟩ = some (.slice a0 (ln t) c0)) ∧
    (w.cell? ⟨G, 0, none⟩ = some (.int .i64 (kd t)) ∧ w.cell? ⟨G, 1, none⟩ = some (.int .i64 (nn t)) ∧ w.cell? ⟨G, 2, none⟩ = some (.slice a1 (ln t) c1))
theorem Vr.below {w w' : World} {Y G : Nat} {t : T} {a0 a1 : Option Addr} {c0 c1 : Nat} (h : Vr w Y G t a0 a1 c0 c1) (hb : Below w.heap.size w w') : Vr w' Y G t a0 a1 c0 c1 :=
  ⟨⟨keep hb h.1.1, keep hb h.1.2.1, keep hb h.1.2.2⟩, ⟨keep hb h.2.1, keep hb h.2.2.1, keep hb h.2.2.2⟩⟩
theorem Vr.fr {S : Nat → Prop} {w w' : World} {Y G : Nat} {t : T} {a0 a1 : Option Addr} {c0 c1 : Nat} (h : Vr w Y G t a0 a1 c0 c1) (hf : Fr S w w') (h1 : ¬ S Y) (h2 : ¬ S G) : Vr w' Y G t a0 a1 c0 c1 :=
  ⟨⟨(hf.cell h1).trans h.1.1, (hf.cell h1).trans h.1.2.1, (hf.cell h1).trans h.1.2.2⟩, ⟨(hf.cell h2).trans h.2.1, (hf.cell h2).trans h.2.2.1, (hf.cell h2).trans h.2.2.2⟩⟩
theorem rd_fr {q S : Nat → Prop} {M D : Nat} {w w' : World} {t : T} {a : Option Addr} {l : Nat} (h : Rd q M w D t a l) (hf : Fr S w w') (hq : ∀ b, q b → ¬ S b) : Rd q M w' D t a l :=
  h.kept fun b o v hb hc => ⟨(hf.cell (hq b hb)).trans hc, hb⟩
theorem ow_fr {S S' : Nat → Prop} {D : Nat} {w w' : World} {t : T} {a : Option Addr} {l : Nat} (h : Ow w D t a l S') (hf : Fr S w w') (hq : ∀ b, S' b → ¬ S b) : Ow w' D t a l S' :=
  h.kept fun b hb _ => hf.block b (hq b hb)

set_option maxHeartbeats 6400000 in
set_option maxRecDepth 8000 in
theorem walk (d : Nat) (A : T) (aA : Option Addr) (la cA : Nat) (kk : Int) (w : World) (hA : Rd (fun _ => True) maxLen w (d + 1) A aA la) :
    Calls Try.prog 5 #[.int .i64 kk, .slice aA la cA] w fun e w' => e = .returned (.bool true) ∧ Below w.heap.size w w' := by
  have HA := hid hA
  clear hA
  obtain ⟨t, hT⟩ : ∃ t, amAns d A la kk = t := ⟨_, rfl⟩
  obtain ⟨code, hC⟩ : ∃ code, amC d A la kk = code := ⟨_, rfl⟩
  obtain ⟨F, hF⟩ : ∃ F, d + la = F := ⟨_, rfl⟩
  have HSpec : Hid (∀ (x : Option Addr) (w' : World), Rd (fun _ => True) 1048576 w' (d + 1) A x la → Calls Try.prog 17 #[.int .i64 kk, .slice x la la] w' fun e w'' => ∃ a c, e = .returned (.tuple #[.agg #[.int .i64 (kd t), .int .i64 (nn t), .slice a (ln t) c], .int .i64 code]) ∧ Below w'.heap.size w' w'' ∧ Rd (fun _ => True) 1048576 w'' F t a (ln t)) := by
    intro x w' h1
    refine (am_spec d A x la la kk w' h1 (Nat.le_refl _)).mono ?_
    rintro e w'' ⟨a, l, c, rfl, hb, hr⟩
    rw [hT, hF] at hr
    rw [hT, hC]
    obtain rfl := hr.len
    exact ⟨a, c, rfl, hb, hr⟩
  have HImpl : Hid (∀ (x : Option Addr) (w' : World), Rd (fun _ => True) 1048576 w' (d + 1) A x la → Calls Try.prog 18 #[.int .i64 kk, .slice x la la] w' fun e w'' => ∃ a c, e = .returned (.tuple #[.agg #[.int .i64 (kd t), .int .i64 (nn t), .slice a (ln t) c], .int .i64 code]) ∧ Below w'.heap.size w' w'' ∧ Ow w'' F t a (ln t) (fun b => w'.heap.size ≤ b ∧ b < w''.heap.size)) := by
    intro x w' h1
    refine (am_impl d A x la la kk w' h1 (Nat.le_refl _)).mono ?_
    rintro e w'' ⟨a, l, c, rfl, hb, ho⟩
    rw [hT, hF] at ho
    rw [hT, hC]
    obtain rfl := ho.len
    exact ⟨a, c, rfl, hb, ho⟩
  have HSm : Hid ((F = 0 → ln t = 0) → rowN F t ≤ 400) := by
    intro hz
    rw [← hT, ← hF]
    unfold amAns
    split
    · exact zT_row _
    · cases hok : okB (d + la) (amT la A kk) 1 0 with
      | false => exact zT_row _
      | true =>
        have h1 := (okB_iff.1 hok).1
        have hz' : d + la = 0 → ln (amT la A kk) = 0 := fun e => by
          have h2 := hz (by rw [← hF]; exact e)
          rw [← hT] at h2
          unfold amAns at h2
          rw [if_neg (by assumption), hok] at h2
          exact h2
        have h2 := size_rowN hz'
        show rowN (d + la) (amT la A kk) ≤ 400
        omega
  clear hT hC hF
  have dc : (code != code) = false := by simp
  go_enter Try.func5, Try.ntmps5
  go_wp2_with fail
  refine (szS (d + 1) A aA la cA 1048576 _ HA.out (by omega) (by omega)).mono ?_
  rintro e w1 ⟨r1, rfl, hb1, hr1, hr2, hr3⟩
  have H1 := hid hb1
  have R1 := hid hr3
  clear hb1 hr3
  by_cases hneg : r1 < 0
  · go_wp2
    go_ret
    exact ⟨rfl, H1.out⟩
  have S1 := hid (R1.out (by omega))
  have H2 := H1
  have HN : Hid ((rowN (d + 1) A : Int) ≤ 1048576) := by have := S1.out.2; show _ ≤ _; omega
  go_wp2_with fail
  refine (toS (d + 1) A aA la cA _ (HA.out.below H2.out) S1.out.1).mono ?_
  rintro e w3 ⟨N3, rfl, hb3, ho3⟩
  have H3 := hid (H2.out.trans (hb3.mono H2.out.size))
  have O3 := hid (ho3.rd.imp (q' := fun _ => True) fun _ _ => trivial)
  clear hb3 ho3
  go_wp2_with fail
  refine (HSpec.out _ _ O3.out).mono ?_
  rintro e w5 ⟨a0, c0, rfl, hb5, hr5⟩
  have H5 := hid (H3.out.trans (hb5.mono H3.out.size))
  have T5 := hid (rd_old hr5)
  have hs5 := H5.out.size
  clear hb5 hr5 O3
  go_wp2_with fail
  have V6 : Hid (Below w5.heap.size w5 (w5.alloc (.cells #[.int .i64 (kd t), .int .i64 (nn t), .slice a0 (ln t) c0] 26))) := (by repeat (first | exact Below.refl _ _ | assumption | refine Below.drew ?_ | refine Below.alloc ?_ (by first | exact Nat.le_refl _ | omega | (simp; done) | (simp; omega)) _ | refine Below.setCell ?_ (by first | exact Nat.le_refl _ | omega | (simp; done) | (simp; omega)) _))
  have v0 := cell_new w5 #[.int .i64 (kd t), .int .i64 (nn t), .slice a0 (ln t) c0] 26 (i := 0) rfl
  have v1 := cell_new w5 #[.int .i64 (kd t), .int .i64 (nn t), .slice a0 (ln t) c0] 26 (i := 1) rfl
  have v2 := cell_new w5 #[.int .i64 (kd t), .int .i64 (nn t), .slice a0 (ln t) c0] 26 (i := 2) rfl
  have Z6 : Hid ((w5.alloc (.cells #[.int .i64 (kd t), .int .i64 (nn t), .slice a0 (ln t) c0] 26)).heap.size = w5.heap.size + 1) := by show _ = _; simp
  obtain ⟨Y, hY⟩ : ∃ Y, w5.heap.size = Y := ⟨_, rfl⟩
  have HY := hid hY
  rw [hY] at v0 v1 v2 Z6 hs5
  generalize hW6 : w5.alloc (.cells #[.int .i64 (kd t), .int .i64 (nn t), .slice a0 (ln t) c0] 26) = w6 at *
  rw [hY]
  have H6 := hid (H5.out.trans (V6.out.mono H5.out.size))
  have T6 : Hid (Rd (fun b => b < Y) 1048576 w6 F t a0 (ln t)) := (T5.out.imp fun b hb => by have := HY.out; omega).below V6.out
  have C6 : Hid (w6.cell? ⟨Y, 0, none⟩ = some (.int .i64 (kd t)) ∧ w6.cell? ⟨Y, 1, none⟩ = some (.int .i64 (nn t)) ∧ w6.cell? ⟨Y, 2, none⟩ = some (.slice a0 (ln t) c0)) := ⟨v0, v1, v2⟩
  clear hY hW6 V6 T5 v0 v1 v2
  refine (toS (d + 1) A aA la cA _ (HA.out.below H6.out) S1.out.1).mono ?_
  rintro e w7 ⟨N7, rfl, hb7, ho7⟩
  have H7 := hid (H6.out.trans (hb7.mono H6.out.size))
  have B67 := hid hb7
  have O7 := hid ho7
  clear hb7 ho7
  go_wp2_with fail
  refine (HImpl.out _ _ (O7.out.rd.imp fun _ _ => trivial)).mono ?_
  rintro e w9 ⟨a1, c1, rfl, hb9, ho9⟩
  have H9 := hid (H7.out.trans (hb9.mono H7.out.size))
  have B89 := hid hb9
  have O9 := hid ho9
  have hm := HSm.out ho9.zero
  have B69 := hid (B67.out.trans (hb9.mono B67.out.size))
  have y0 := keep B69.out C6.out.1
  have y1 := keep B69.out C6.out.2.1
  have y2 := keep B69.out C6.out.2.2
  have hYl : Y < w9.heap.size := World.block_lt_of_cell? _ _ y0
  have T9 := hid (T6.out.below B69.out)
  have s67 := B67.out.size
  have s89 := hb9.size
  have s6 : w6.heap.size = Y + 1 := Z6.out
  have P9 := hid (O7.out.below hb9)
  clear hb9 ho9
  go_wp2_with fail
  have V10 : Hid (Below w9.heap.size w9 (w9.alloc (.cells #[.int .i64 (kd t), .int .i64 (nn t), .slice a1 (ln t) c1] 26))) := (by repeat (first | exact Below.refl _ _ | assumption | refine Below.drew ?_ | refine Below.alloc ?_ (by first | exact Nat.le_refl _ | omega | (simp; done) | (simp; omega)) _ | refine Below.setCell ?_ (by first | exact Nat.le_refl _ | omega | (simp; done) | (simp; omega)) _))
  have R10 : Hid (Vr (w9.alloc (.cells #[.int .i64 (kd t), .int .i64 (nn t), .slice a1 (ln t) c1] 26)) Y w9.heap.size t a0 a1 c0 c1) := ⟨⟨keep V10.out y0, keep V10.out y1, keep V10.out y2⟩, ⟨cell_new _ _ _ rfl, cell_new _ _ _ rfl, cell_new _ _ _ rfl⟩⟩
  generalize w9.alloc (.cells #[.int .i64 (kd t), .int .i64 (nn t), .slice a1 (ln t) c1] 26) = w10 at *
  have H10 := hid (H9.out.trans (V10.out.mono H9.out.size))
  have T10 := hid (T9.out.below V10.out)
  have O10 := hid (O9.out.below V10.out)
  have P10 := hid (P9.out.below V10.out)
  obtain ⟨G, hG⟩ : ∃ G, w9.heap.size = G := ⟨_, rfl⟩
  rw [hG] at R10 O10 hYl s89 ⊢
  clear hG V10 y0 y1 y2 T9 O9 P9 B89 B69 C6 T6 O7 B67
  refine (eqE_of F (eqS F) _ _ t a1 a0 (ln t) c1 c0 _ ((O10.out.rd.imp fun _ _ => trivial).wide (by unfold maxLen; omega)) ((T10.out.imp fun _ _ => trivial).wide (by unfold maxLen; omega))).mono ?_
  rintro e w11 ⟨rfl, hb11⟩
  have H11 := hid (H10.out.trans (hb11.mono H10.out.size))
  have R11 := hid (R10.out.below hb11)
  have T11 := hid (T10.out.below hb11)
  have O11 := hid (O10.out.below hb11)
  have P11 := hid (P10.out.below hb11)
  clear hb11 R10 T10 O10 P10 H10
  go_wp2_with fail
  refine (toS (d + 1) A aA la cA _ (HA.out.below H11.out) S1.out.1).mono ?_
  rintro e w12 ⟨N12, rfl, hb12, ho12⟩
  have H12 := hid (H11.out.trans (hb12.mono H11.out.size))
  have R12 := hid (R11.out.below hb12)
  have T12 := hid (T11.out.below hb12)
  have O12 := hid (O11.out.below hb12)
  have P12 := hid (P11.out.below hb12)
  have X12 := hid ho12
  clear hb12 ho12 R11 T11 O11 P11 H11
  go_wp2_with fail
  refine (eqS (d + 1) A _ _ la la la _ ((P12.out.rd.imp fun _ _ => trivial).wide (by unfold maxLen; omega)) ((X12.out.rd.imp fun _ _ => trivial).wide (by unfold maxLen; omega))).mono ?_
  rintro e w13 ⟨rfl, hb13⟩
  have H13 := hid (H12.out.trans (hb13.mono H12.out.size))
  have R13 := hid (R12.out.below hb13)
  have T13 := hid (T12.out.below hb13)
  have O13 := hid (O12.out.below hb13)
  have P13 := hid (P12.out.below hb13)
  clear hb13 R12 T12 O12 P12 H12 X12
  go_wp2_with fail
  refine (markS (d + 1) A _ la la 1 _ _ P13.out (by omega) (by have := HN.out; omega)).mono ?_
  rintro e w16 ⟨rfl, ho16, hf16⟩
  have H16 := hid (H13.out.trans (hf16.below fun b hb => by omega))
  have R16 := hid (R13.out.fr hf16 (by omega) (by omega))
  have T16 := hid (rd_fr T13.out hf16 fun b hb => by omega)
  have O16 := hid (ow_fr O13.out hf16 fun b hb => by omega)
  clear ho16 hf16 R13 T13 O13 P13 H13
  obtain ⟨k1, hk1⟩ : ∃ k1, 1 + 2 * (rowN (d + 1) A : Int) = k1 := ⟨_, rfl⟩
  have hk1' : 0 ≤ k1 := by omega
  have H17 := H16
  have R17 := R16
  have T17 := T16
  have O17 := O16
  clear H16 R16 T16 O16
  rw [hk1]
  clear hk1
  have r17 := R17.out
  obtain ⟨⟨p0, p1, p2⟩, ⟨g0, g1, g2⟩⟩ := r17
  go_wp2_with fail
  refine (eqE_of F (eqS F) _ _ t a1 a0 (ln t) c1 c0 _ ((O17.out.rd.imp fun _ _ => trivial).wide (by unfold maxLen; omega)) ((T17.out.imp fun _ _ => trivial).wide (by unfold maxLen; omega))).mono ?_
  rintro e w18 ⟨rfl, hb18⟩
  have H18 := hid (H17.out.trans (hb18.mono H17.out.size))
  have R18 := hid (R17.out.below hb18)
  have T18 := hid (T17.out.below hb18)
  have O18 := hid (O17.out.below hb18)
  clear hb18 R17 T17 O17 H17 p0 p1 p2 g0 g1 g2
  have r18 := R18.out
  obtain ⟨⟨p0, p1, p2⟩, ⟨g0, g1, g2⟩⟩ := r18
  have hG18 : G < w18.heap.size := World.block_lt_of_cell? _ _ g0
  go_wp2_with fail
  refine (markE F _ _ t a1 (ln t) c1 _ _ O18.out (fun b hb => by omega) hm).mono ?_
  rintro e w19 ⟨rfl, ho19, w18', hb19, hf19⟩
  have H19 := hid ((H18.out.trans (hb19.mono H18.out.size)).trans (hf19.below fun b hb => by omega))
  have R19 := hid ((R18.out.below hb19).fr hf19 (by omega) (by omega))
  have T19 := hid (rd_fr (T18.out.below hb19) hf19 fun b hb => by omega)
  have O19 := hid (ho19.rd.imp (q' := fun _ => True) fun _ _ => trivial)
  clear ho19 hb19 hf19 R18 T18 O18 H18 p0 p1 p2 g0 g1 g2
  obtain ⟨m, hmm⟩ : ∃ m, 1 + 2 * (rowN F t : Int) = m := ⟨_, rfl⟩
  have hm0 : 0 ≤ m := by omega
  have dm : (m != m) = false := by simp
  have HM := hid hmm
  rw [hmm]
  clear hmm
  have r19 := R19.out
  obtain ⟨⟨p0, p1, p2⟩, ⟨g0, g1, g2⟩⟩ := r19
  go_wp2_with fail
  refine (heldE F _ _ t a1 (ln t) c1 _ O19.out hm).mono ?_
  rintro e w20 ⟨rfl, hb20⟩
  have H20 := hid (H19.out.trans (hb20.mono H19.out.size))
  have R20 := hid (R19.out.below hb20)
  have T20 := hid (T19.out.below hb20)
  have O20 := hid (O19.out.below hb20)
  rw [HM.out]
  clear hb20 R19 T19 O19 H19 p0 p1 p2 g0 g1 g2
  go_wp2_with fail
  refine (toS (d + 1) A aA la cA _ (HA.out.below H20.out) S1.out.1).mono ?_
  rintro e w21 ⟨N21, rfl, hb21, ho21⟩
  have H21 := hid (H20.out.trans (hb21.mono H20.out.size))
  have R21 := hid (R20.out.below hb21)
  have T21 := hid (T20.out.below hb21)
  have O21 := hid (O20.out.below hb21)
  have X21 := hid (ho21.rd.imp (q' := fun _ => True) fun _ _ => trivial)
  clear hb21 ho21 R20 T20 O20 H20
  go_wp2_with fail
  refine (HImpl.out _ _ X21.out).mono ?_
  rintro e w23 ⟨a3, c3, rfl, hb23, ho23⟩
  have H23 := hid (H21.out.trans (hb23.mono H21.out.size))
  have R23 := hid (R21.out.below hb23)
  have T23 := hid (T21.out.below hb23)
  have O23 := hid (O21.out.below hb23)
  have X23 := hid (ho23.rd.imp (q' := fun _ => True) fun _ _ => trivial)
  clear hb23 ho23 R21 T21 O21 H21 X21
  have r23 := R23.out
  obtain ⟨⟨p0, p1, p2⟩, ⟨g0, g1, g2⟩⟩ := r23
  have hY23 : Y < w23.heap.size := World.block_lt_of_cell? _ _ p0
  have hG23 : G < w23.heap.size := World.block_lt_of_cell? _ _ g0
  go_wp2_with fail
  have V24 : Hid (Below w23.heap.size w23 (w23.alloc (.cells #[.int .i64 (kd t), .int .i64 (nn t), .slice a3 (ln t) c3] 26))) := (by repeat (first | exact Below.refl _ _ | assumption | refine Below.drew ?_ | refine Below.alloc ?_ (by first | exact Nat.le_refl _ | omega | (simp; done) | (simp; omega)) _ | refine Below.setCell ?_ (by first | exact Nat.le_refl _ | omega | (simp; done) | (simp; omega)) _))
  generalize w23.alloc (.cells #[.int .i64 (kd t), .int .i64 (nn t), .slice a3 (ln t) c3] 26) = w24 at *
  refine (eqE_of F (eqS F) _ _ t a3 a0 (ln t) c3 c0 _ (((X23.out.below V24.out)).wide (by unfold maxLen; omega)) (((T23.out.below V24.out).imp fun _ _ => trivial).wide (by unfold maxLen; omega))).mono ?_
  rintro e w25 ⟨rfl, hb25⟩
  have H25 := hid ((H23.out.trans (V24.out.mono H23.out.size)).trans (hb25.mono (Nat.le_trans H23.out.size V24.out.size)))
  have R25 := hid ((R23.out.below V24.out).below hb25)
  have O25 := hid ((O23.out.below V24.out).below hb25)
  clear hb25 R23 T23 O23 H23 X23 V24 p0 p1 p2 g0 g1 g2
  have r25 := R25.out
  obtain ⟨⟨p0, p1, p2⟩, ⟨g0, g1, g2⟩⟩ := r25
  go_wp2_with fail
  refine (heldE F _ _ t a1 (ln t) c1 _ O25.out hm).mono ?_
  rintro e w26 ⟨rfl, hb26⟩
  have H26 := hid (H25.out.trans (hb26.mono H25.out.size))
  rw [HM.out]
  clear hb26 R25 O25 H25 p0 p1 p2 g0 g1 g2
  go_wp2
  go_ret
  exact ⟨rfl, H26.out⟩

theorem own : ownKnob Try.prog.godebug = none := by kernel_rfl
theorem laidOut : laidOutB Try.prog = true := by kernel_rfl

set_option maxRecDepth 100000 in
theorem lifted (os : Os) (started : os.Started) (H : Type) (enc : TypeId × Value → H) :
    ReturnsInHanded {} Try.checked os 5 .any (Rows.fnExactAtMostExSpec.pre6 enc Try.prog Try.f5 Rows.fnExactAtMostExRow.domain false) (Rows.fnExactAtMostExSpec.post enc Try.prog Try.f5 false true false false) := by
  refine returnsInHanded_of_change (C := Try.checked) own started (by kernel_rfl) Try.func5
    (ChangeSpec.witness6 (enc := enc) (C := Try.checked) false ⟨#[], #[.int .i64 0, .slice none 0 0], []⟩ 8 (by kernel_rfl) (by kernel_rfl) (by kernel_rfl) (by kernel_rfl)) ?_
  intro W base args ds gs before hval0 hW hcnd _
  have hval : ∀ (j : Nat) t v, Try.f5.params[j]? = some t → args[j]? = some v → Value.okWide Try.prog W .any base t v := hval0
  have hW' := hW
  obtain ⟨p, q, hA0, hV, rfl, hfz, hnd⟩ := hW
  have hA : DataW.TrodAll enc Try.prog W 0 (fun _ => true) true Try.f5.params.toList args.toList ds p := hA0
  rw [Try.params5] at hA hval
  obtain ⟨v0, vs0, d0, ds0, p0, q0, hargs, rfl, rfl, h0, r0⟩ := trodAll_cons hA
  obtain ⟨v1, vs1, d1, ds1, p1, q1, rfl, rfl, rfl, h1, r1⟩ := trodAll_cons r0
  obtain ⟨rfl, rfl, rfl⟩ := trodAll_nil r1
  obtain rfl : args = #[v0, v1] := by cases args; simp_all
  obtain ⟨rfl, rfl⟩ := trodVars_none hV
  have k0 := h0
  have lt0 : ∀ x ∈ p0, x.block < W.heap.size := by obtain ⟨m, hm⟩ := k0; exact DataW.trod_lt m _ _ _ hm
  have k1 := h1
  have lt1 : ∀ x ∈ p1, x.block < W.heap.size := by obtain ⟨m, hm⟩ := k1; exact DataW.trod_lt m _ _ _ hm
  obtain ⟨kk, rfl⟩ := okWide_int Try.underlying3 (hval 0 3 v0 rfl rfl)
  obtain ⟨aA, la, cA, rfl⟩ := okWide_slice Try.underlying22 (hval 1 22 v1 rfl rfl)
  obtain ⟨mA, fA, hRA⟩ : ∃ (m : Nat) (f : Nat → T), Rd (fun _ => True) maxLen W m (mkT 0 0 la f) aA la := by
    obtain ⟨fuel, hf⟩ := h1
    obtain ⟨a', l', c', e, f, hb⟩ := exs_of_trod fuel _ _ (by simpa [Value.cells] using hf)
    cases e
    exact ⟨fuel, f, hb 0 0⟩
  clear hA0 hval0
  refine (walk mA (mkT 0 0 la fA) aA la cA kk W (hRA.more (by omega))).mono fun e W' ⟨he, bel⟩ => ?_
  subst he
  exact ⟨_, rfl, _, _, _, [], _, [], hW', trodAll_mk1 (shut_bool Try.underlying4 _), (trodAll_cons_mk (Below.trod laidOut (by kernel_rfl) (of_decide_eq_true (by kernel_rfl)) k0 bel lt0) (trodAll_cons_mk (Below.trod laidOut (by kernel_rfl) (of_decide_eq_true (by kernel_rfl)) k1 bel lt1) trodAll_mk0)), rfl, bel.frame _, fun h => by cases h⟩

theorem over : Rows.fnExactAtMostExRow.holds Try.pinned (OpenSpec.ofChange Rows.fnExactAtMostExSpec) :=
  OpenClaim.holds_of_wide 5 Try.f5 rfl rfl rfl rfl rfl rfl rfl ⟨rfl, rfl, rfl, rfl, rfl⟩ rfl rfl rfl rfl rfl (by kernel_rfl) Try.func5 (by kernel_rfl)
    (of_decide_eq_true (by kernel_rfl)) (by unfold Func.isWrapper; first | (rw [if_pos (by decide +kernel)]; kernel_rfl) | (rw [if_neg (by decide +kernel)]; exact ⟨rfl, rfl⟩))
    (fun os started H enc _ => lifted os started H enc)
end Go.Proofs.Ytkccckknjhdnhaa.fnExactAtMostEx
namespace Go.Proofs.Ytkccckknjhdnhaa
theorem fnExactAtMostEx_holds : Rows.FnExactAtMostExSaid := fnExactAtMostEx.over
end Go.Proofs.Ytkccckknjhdnhaa
