/- For every word and every number of bits WordBits answers as its specification (the expressions and the code); the word is as it was, and what is answered owns its memory; conditions: none. -/
import Derived.Test.YtmhokchnphjpdaaBitSpecFace
import Derived.Test.YtmhokchnphjpdaaWordMark
import Derived.Test.YtmhokchnphjpdaaTreeEq
import Derived.Test.YtmhokchnphjpdaaWordEq
import Derived.Test.YtmhokchnphjpdaaWordArgs
namespace Go.Proofs.Ytmhokchnphjpdaa.fnExactWordBits
open Go.ChangeShapes Go.WideShapes Go.ChangeAt Go.RowKit Go.Deep Go.Joins Go base trees built ownTree ownEx wordTrees rowsImpl faceImpl wordIs bitWord bitFace bitSpecFace treeOwn treeMark wordArgs args
set_option linter.unusedVariables false

theorem sum_small {f : Nat → Nat} {n m : Nat} (h : ∀ i, i < n → f i ≤ m) : sumTo f n ≤ n * m := by
  induction n with
  | zero => exact Nat.zero_le _
  | succ n ih =>
    rw [sumTo_succ, Nat.succ_mul]
    have := ih fun i hi => h i (by omega)
    have := h n (by omega)
    omega
theorem wb_small (d : Nat) (t : T) (bits : Int) (hl : ln (wbT d t bits) = wbL d t bits) : rowN (30 * d + 1) (wbT d t bits) ≤ 2400 := by
  by_cases h0 : wbC d t bits = 0
  · have e2 : wbT d t bits = rowW bits.toNat d t := if_pos h0
    have e1 : wbL d t bits = bits.toNat := if_pos h0
    have hB : wordB d t bits = true := by
      cases h : wordB d t bits with
      | true => rfl
      | false => unfold wbC at h0; rw [if_pos h] at h0; cases h0
    obtain ⟨b, rfl, _, hb2, _⟩ := word_bits hB
    have hok : allOk (30 * d) (rowW b d t) b = true := by
      cases h : allOk (30 * d) (rowW b d t) b with
      | true => rfl
      | false =>
        unfold wbC at h0
        rw [if_neg (by rw [hB]; decide), Int.toNat_natCast, if_pos h] at h0
        cases h0
    rw [e1, e2] at hl
    rw [e2]
    rw [Int.toNat_natCast] at hl ⊢
    unfold rowN
    rw [hl]
    have h1 : sumTo (fun i => size (30 * d + 1 - 1) (kid (rowW b d t) i)) b ≤ b * 400 := sum_small fun i hi => by
      have h2 := (okB_iff.1 (allTo_true hok hi)).1
      show size (30 * d + 1 - 1) _ ≤ 400
      rw [Nat.add_sub_cancel]
      omega
    omega
  · have e2 : wbT d t bits = zT := if_neg h0
    rw [e2]
    exact Nat.zero_le _

set_option maxHeartbeats 400000 in
theorem markW (d : Nat) (k n : Int) (t : T) (a : Option Addr) (l c : Nat) (S : Nat → Prop) (w : World) (ho : Ow w d t a l S) (hm : rowN d t ≤ 1048576) :
    Calls Try.prog 10 #[.agg #[.int .i64 k, .int .i64 n, .slice a l c], .int .i64 1] w fun e w' => e = .returned (.int .i64 (1 + 2 * (rowN d t : Int))) ∧ ∃ w1, Below w.heap.size w w1 ∧ Fr S w1 w' := by
  have HO := hid ho
  clear ho
  go_enter Try.func10, Try.ntmps10
  go_wp2_with fail
  refine (wordMark.markS d t a l c 1 S _ (HO.out.below (by repeat (first | exact Below.refl _ _ | assumption | refine Below.drew ?_ | refine Below.alloc ?_ (by first | exact Nat.le_refl _ | omega | (simp; done) | (simp; omega)) _ | refine Below.setCell ?_ (by first | exact Nat.le_refl _ | omega | (simp; done) | (simp; omega)) _))) (by omega) (by omega)).mono ?_
  rintro e w1 ⟨rfl, ho1, hf1⟩
  have HF1 := hid hf1
  clear ho1 hf1
  have HB1 : Hid (Below w.heap.size w (w.alloc (.cells #[.int .i64 k, .int .i64 n, .slice a l c] 31))) := (by repeat (first | exact Below.refl _ _ | assumption | refine Below.drew ?_ | refine Below.alloc ?_ (by first | exact Nat.le_refl _ | omega | (simp; done) | (simp; omega)) _ | refine Below.setCell ?_ (by first | exact Nat.le_refl _ | omega | (simp; done) | (simp; omega)) _))
  go_wp2
  go_ret
  exact ⟨rfl, _, HB1.out, HF1.out⟩
theorem rd_fr {q S : Nat → Prop} {M D : Nat} {w w' : World} {t : T} {a : Option Addr} {l : Nat} (h : Rd q M w D t a l) (hf : Fr S w w') (hq : ∀ b, q b → ¬ S b) : Rd q M w' D t a l :=
  h.kept fun b o v hb hc => ⟨(hf.cell (hq b hb)).trans hc, hb⟩
theorem ow_fr {S S' : Nat → Prop} {D : Nat} {w w' : World} {t : T} {a : Option Addr} {l : Nat} (h : Ow w D t a l S') (hf : Fr S w w') (hq : ∀ b, S' b → ¬ S b) : Ow w' D t a l S' :=
  h.kept fun b hb _ => hf.block b (hq b hb)

set_option maxHeartbeats 6400000 in
set_option maxRecDepth 8000 in
theorem walk (d : Nat) (t : T) (a : Option Addr) (l c : Nat) (bits : Int) (w : World) (hr : Rd (fun _ => True) maxLen w d t a l) :
    Calls Try.prog 3 #[.agg #[.int .i64 (kd t), .int .i64 (nn t), .slice a l c], .int .i64 bits] w fun e' w' => e' = .returned (.bool true) ∧ Below w.heap.size w w' := by
  have HR := hid hr
  clear hr
  have C1 : ∀ w8 : World, Below (w.alloc (.cells #[.int .i64 (kd t), .int .i64 (nn t), .slice a l c] 24)).heap.size (w.alloc (.cells #[.int .i64 (kd t), .int .i64 (nn t), .slice a l c] 24)) w8 → (w8.cell? ⟨w.heap.size, 0, none⟩ = some (.int .i64 (kd t)) ∧ w8.cell? ⟨w.heap.size, 1, none⟩ = some (.int .i64 (nn t)) ∧ w8.cell? ⟨w.heap.size, 2, none⟩ = some (.slice a l c)) ∧ Rd (fun _ => True) maxLen w8 d t a l ∧ Below w.heap.size w w8 ∧ w.heap.size < w8.heap.size :=
    fun w8 hb => ⟨⟨keep hb (by simp [go_sem]), keep hb (by simp [go_sem]), keep hb (by simp [go_sem])⟩, (HR.out.below (by repeat (first | exact Below.refl _ _ | assumption | refine Below.drew ?_ | refine Below.alloc ?_ (by first | exact Nat.le_refl _ | omega | (simp; done) | (simp; omega)) _ | refine Below.setCell ?_ (by first | exact Nat.le_refl _ | omega | (simp; done) | (simp; omega)) _))).below hb, (show Below w.heap.size w _ from (by repeat (first | exact Below.refl _ _ | assumption | refine Below.drew ?_ | refine Below.alloc ?_ (by first | exact Nat.le_refl _ | omega | (simp; done) | (simp; omega)) _ | refine Below.setCell ?_ (by first | exact Nat.le_refl _ | omega | (simp; done) | (simp; omega)) _))).trans (hb.mono (by simp)), Nat.lt_of_lt_of_le (by simp) hb.size⟩
  have HC1 := hid C1
  clear C1
  obtain ⟨C, hC⟩ : ∃ C, wbC d t bits = C := ⟨_, rfl⟩
  obtain ⟨N, hN⟩ : ∃ N, wbL d t bits = N := ⟨_, rfl⟩
  obtain ⟨A, hA⟩ : ∃ A, wbT d t bits = A := ⟨_, rfl⟩
  obtain ⟨F, hF⟩ : ∃ F, 30 * d + 1 = F := ⟨_, rfl⟩
  have HSpec : Hid (∀ (x : Option Addr) (cx : Nat) (w' : World), Rd (fun _ => True) 1048576 w' d t x l → Calls Try.prog 5 #[.agg #[.int .i64 (kd t), .int .i64 (nn t), .slice x l cx], .int .i64 bits] w' fun e w'' => ∃ a' c', e = .returned (.tuple #[.slice a' N c', .int .i64 C]) ∧ Below w'.heap.size w' w'' ∧ Rd (fun _ => True) 1048576 w'' F A a' N) := by
    intro x cx w' h1
    have h := wordBits_spec d t x l cx bits w' h1
    rw [hC, hN, hA, hF] at h
    exact h
  have HImpl : Hid (∀ (x : Option Addr) (cx : Nat) (w' : World), Rd (fun _ => True) 1048576 w' d t x l → Calls Try.prog 7 #[.agg #[.int .i64 (kd t), .int .i64 (nn t), .slice x l cx], .int .i64 bits] w' fun e w'' => ∃ a' c', e = .returned (.tuple #[.slice a' N c', .int .i64 C]) ∧ Below w'.heap.size w' w'' ∧ Ow w'' F A a' N (fun b => w'.heap.size ≤ b ∧ b < w''.heap.size)) := by
    intro x cx w' h1
    have h := wordBits_impl d t x l cx bits w' h1
    rw [hC, hN, hA, hF] at h
    exact h
  have HSm : Hid (ln A = N → rowN F A ≤ 2400) := by
    intro hl
    rw [← hA, ← hN] at hl
    rw [← hA, ← hF]
    exact wb_small d t bits hl
  clear hC hN hA hF
  have dc : (C != C) = false := by simp
  go_enter Try.func3, Try.ntmps3
  go_wp2_with fail
  refine (wordOwn.szE_of d (wordOwn.szS d) _ _ t a l c 1048576 _ (HR.out.below (by repeat (first | exact Below.refl _ _ | assumption | refine Below.drew ?_ | refine Below.alloc ?_ (by first | exact Nat.le_refl _ | omega | (simp; done) | (simp; omega)) _ | refine Below.setCell ?_ (by first | exact Nat.le_refl _ | omega | (simp; done) | (simp; omega)) _))) (by omega) (by omega)).mono ?_
  rintro e' w1 ⟨r, rfl, hb, hr1, hr2, hr3⟩
  have H3 := hid hr3
  have HB := hid hb
  obtain ⟨⟨q0, q1, q2⟩, hn, hB, hz⟩ := HC1.out w1 hb
  have NW := hid hn
  clear hr3 hn
  by_cases hneg : r < 0
  · clear hb
    go_wp2
    go_ret
    exact ⟨rfl, hB⟩
  clear hb hB
  have HL := hid (H3.out (by omega)).1
  have HNn : Hid (rowN d t ≤ 1048576) := by
    have h1 := (H3.out (by omega)).2
    have h2 : (rowN d t : Int) = (wordOwn.rowN d t : Int) := rfl
    show rowN d t ≤ 1048576
    omega

  go_wp2_with fail
  refine (wordOwn.toE_of d (wordOwn.toS d) _ _ t a l c _ NW.out HL.out).mono ?_
  rintro e' w2 ⟨Na, rfl, hb, ho⟩
  have HB := hid (HB.out.trans (hb.mono HB.out.size))
  clear q0 q1 q2 hz NW
  obtain ⟨⟨q0, q1, q2⟩, hn, -, hz⟩ := HC1.out w2 HB.out
  have NW := hid hn
  clear hn
  have OA := hid (ho.rd.imp (q' := fun _ => True) fun _ _ => trivial)
  clear ho hb
  go_wp2_with fail
  refine (HSpec.out _ _ _ OA.out).mono ?_
  rintro e' w3 ⟨a0, c0, rfl, hb, hr⟩
  have HB := hid (HB.out.trans (hb.mono HB.out.size))
  clear q0 q1 q2 hz NW
  obtain ⟨⟨q0, q1, q2⟩, hn, -, hz⟩ := HC1.out w3 HB.out
  have NW := hid hn
  clear hn
  have hN6 : N ≤ 1048576 := hr.most
  have TX : Hid (Rd (fun b => b < w3.heap.size) 1048576 w3 F A a0 N) := (rd_old hr).imp fun b hb => hb.2
  have S3 := hid HB.out.size
  clear hr hb OA
  go_wp2_with fail
  refine (wordOwn.toE_of d (wordOwn.toS d) _ _ t a l c _ NW.out HL.out).mono ?_
  rintro e' w4 ⟨Nb, rfl, hb, ho⟩
  have HB := hid (HB.out.trans (hb.mono HB.out.size))
  have TX := hid (TX.out.below hb)
  clear q0 q1 q2 hz NW
  obtain ⟨⟨q0, q1, q2⟩, hn, -, hz⟩ := HC1.out w4 HB.out
  have NW := hid hn
  clear hn
  have OB := hid ho
  have s34 := hb.size
  clear ho hb
  go_wp2_with fail
  have HA4 : Hid (Below w4.heap.size w4 (w4.alloc (.cells #[.int .i64 (kd t), .int .i64 (nn t), .slice (some ⟨Nb, 0, none⟩) l l] 31))) := (by repeat (first | exact Below.refl _ _ | assumption | refine Below.drew ?_ | refine Below.alloc ?_ (by first | exact Nat.le_refl _ | omega | (simp; done) | (simp; omega)) _ | refine Below.setCell ?_ (by first | exact Nat.le_refl _ | omega | (simp; done) | (simp; omega)) _))
  refine (HImpl.out _ _ _ ((OB.out.rd.imp (q' := fun _ => True) fun _ _ => trivial).below HA4.out)).mono ?_
  rintro e' w5 ⟨a1, c1, rfl, hb5, ho5⟩
  have hb : Below w4.heap.size w4 w5 := HA4.out.trans (hb5.mono (by simp))
  have s45 : w4.heap.size < w5.heap.size := by have := hb5.size; simp at this; omega
  have XC : Hid (∀ w8 : World, (∀ o v, w5.cell? ⟨w4.heap.size, o, none⟩ = some v → w8.cell? ⟨w4.heap.size, o, none⟩ = some v) → (w8.cell? ⟨w4.heap.size, 0, none⟩ = some (.int .i64 (kd t)) ∧ w8.cell? ⟨w4.heap.size, 1, none⟩ = some (.int .i64 (nn t)) ∧ w8.cell? ⟨w4.heap.size, 2, none⟩ = some (.slice (some ⟨Nb, 0, none⟩) l l))) :=
    fun w8 hk => ⟨hk _ _ (keep hb5 (by simp [go_sem])), hk _ _ (keep hb5 (by simp [go_sem])), hk _ _ (keep hb5 (by simp [go_sem]))⟩
  have HB := hid (HB.out.trans (hb.mono HB.out.size))
  have TX := hid (TX.out.below hb)
  have OB := hid (OB.out.below hb)
  clear q0 q1 q2 hz NW
  obtain ⟨⟨q0, q1, q2⟩, hn, -, hz⟩ := HC1.out w5 HB.out
  have NW := hid hn
  clear hn
  have OY : Hid (Ow w5 F A a1 N (fun b => w4.heap.size < b ∧ b < w5.heap.size)) := ho5.sub fun b hb => ⟨by have := hb.1; simp at this; omega, hb.2⟩
  have hm := HSm.out ho5.len
  have XK : Hid (∀ o v, w5.cell? ⟨w4.heap.size, o, none⟩ = some v → w5.cell? ⟨w4.heap.size, o, none⟩ = some v) := fun _ _ h => h
  clear ho5 hb5 hb HA4
  go_wp2_with fail
  refine (treeEq.eqS F A a1 a0 N c1 c0 _ ((OY.out.rd.imp fun _ _ => trivial).wide (by unfold maxLen; omega)) ((TX.out.imp fun _ _ => trivial).wide (by unfold maxLen; omega))).mono ?_
  rintro e' w6 ⟨rfl, hb⟩
  have HB := hid (HB.out.trans (hb.mono HB.out.size))
  have TX := hid (TX.out.below hb)
  have OB := hid (OB.out.below hb)
  have OY := hid (OY.out.below hb)
  have XK := hid (fun o v (h : w5.cell? ⟨w4.heap.size, o, none⟩ = some v) => keep hb (XK.out o v h))
  clear q0 q1 q2 hz NW
  obtain ⟨⟨q0, q1, q2⟩, hn, -, hz⟩ := HC1.out w6 HB.out
  have NW := hid hn
  clear hn
  have s56 := hb.size
  clear hb
  obtain ⟨x0, x1, x2⟩ := XC.out w6 XK.out
  go_wp2_with fail
  go_region_with (first
    | (go_at_call 6; refine (wordOwn.toE_of d (wordOwn.toS d) _ _ t a l c _ (NW.out.below (Below.refl _ w6).drew) HL.out).mono ?_; rintro e' w7 ⟨N7, rfl, hb7, ho7⟩; have hb7' : Below w6.heap.size w6 w7 := ((Below.refl _ w6).drew).trans hb7; obtain ⟨x0, x1, x2⟩ := XC.out w7 (fun o v h => keep hb7' (XK.out o v h)); clear hb7)
    | (go_at_call 9; refine (wordEq.eqE_of d (wordEq.eqS d) _ _ t _ _ l l l _ ((((OB.out.below hb7').rd.imp (q' := fun _ => True) fun _ _ => trivial)).wide (by unfold maxLen; omega)) ((ho7.rd.imp (q' := fun _ => True) fun _ _ => trivial).wide (by unfold maxLen; omega))).mono ?_; rintro e' w8 ⟨rfl, hb8⟩))
  all_goals
    have hb : Below w6.heap.size w6 w8 := hb7'.trans (hb8.mono hb7'.size)
    clear hb7' hb8 ho7 x0 x1 x2
    have HB := hid (HB.out.trans (hb.mono HB.out.size))
    have TX := hid (TX.out.below hb)
    have OB := hid (OB.out.below hb)
    have OY := hid (OY.out.below hb)
    have XK := hid (fun o v (h : w5.cell? ⟨w4.heap.size, o, none⟩ = some v) => keep hb (XK.out o v h))
    clear q0 q1 q2 hz NW
    obtain ⟨⟨q0, q1, q2⟩, hn, -, hz⟩ := HC1.out w8 HB.out
    have NW := hid hn
    clear hn
    have s68 := hb.size
    clear hb
    obtain ⟨x0, x1, x2⟩ := XC.out w8 XK.out
    go_wp2_with fail
    refine (markW d _ _ t _ l l _ _ OB.out HNn.out).mono ?_
    rintro e' w9 ⟨rfl, w9', hb, hf⟩
    have HB := hid ((HB.out.trans (hb.mono HB.out.size)).trans (hf.below fun b hb => by have := S3.out; omega))
    have TX := hid (rd_fr (TX.out.below hb) hf fun b hb => by omega)
    have OY := hid (ow_fr (OY.out.below hb) hf fun b hb => by omega)
    clear x0 x1 x2 hb hf OB XK
    obtain ⟨k1, hk1⟩ : ∃ k1, 1 + 2 * (rowN d t : Int) = k1 := ⟨_, rfl⟩
    have hk0 : decide (k1 < 0) = false := decide_eq_false (by omega)
    have hk1' : 0 ≤ k1 := by omega
    rw [hk1]
    clear hk1
    clear q0 q1 q2 hz NW
    obtain ⟨⟨q0, q1, q2⟩, hn, -, hz⟩ := HC1.out w9 HB.out
    have NW := hid hn
    clear hn
    go_wp2_with fail
    refine (treeEq.eqS F A a1 a0 N c1 c0 _ ((OY.out.rd.imp fun _ _ => trivial).wide (by unfold maxLen; omega)) ((TX.out.imp fun _ _ => trivial).wide (by unfold maxLen; omega))).mono ?_
    rintro e' w10 ⟨rfl, hb⟩
    have HB := hid (HB.out.trans (hb.mono HB.out.size))
    have TX := hid (TX.out.below hb)
    have OY := hid (OY.out.below hb)
    clear q0 q1 q2 hz NW
    obtain ⟨⟨q0, q1, q2⟩, hn, -, hz⟩ := HC1.out w10 HB.out
    have NW := hid hn
    clear hn
    clear hb hk0
    go_wp2_with fail
    refine (markS F A a1 N c1 1 _ _ OY.out (by omega) (by omega)).mono ?_
    rintro e' w11 ⟨rfl, ho, hf⟩
    have HB := hid (HB.out.trans (hf.below fun b hb => by have := S3.out; omega))
    have TX := hid (rd_fr TX.out hf fun b hb => by omega)
    have RM := hid (ho.rd.imp (q' := fun _ => True) fun _ _ => trivial)
    clear ho hf OY
    obtain ⟨m, hmm⟩ : ∃ m, 1 + 2 * (rowN F A : Int) = m := ⟨_, rfl⟩
    have hm0 : 0 ≤ m := by omega
    have dm : (m != m) = false := by simp
    have HM := hid hmm
    rw [hmm]
    clear hmm
    clear q0 q1 q2 hz NW
    obtain ⟨⟨q0, q1, q2⟩, hn, -, hz⟩ := HC1.out w11 HB.out
    have NW := hid hn
    clear hn
    go_wp2_with fail
    refine (heldS F A a1 N c1 1 _ RM.out (by omega) (by omega)).mono ?_
    rintro e' w12 ⟨rfl, hb⟩
    rw [HM.out]
    have HB := hid (HB.out.trans (hb.mono HB.out.size))
    have TX := hid (TX.out.below hb)
    have RM := hid (RM.out.below hb)
    clear q0 q1 q2 hz NW
    obtain ⟨⟨q0, q1, q2⟩, hn, -, hz⟩ := HC1.out w12 HB.out
    have NW := hid hn
    clear hn
    clear hb
    go_wp2_with fail
    refine (wordOwn.toE_of d (wordOwn.toS d) _ _ t a l c _ NW.out HL.out).mono ?_
    rintro e' w13 ⟨Nd, rfl, hb, ho⟩
    have HB := hid (HB.out.trans (hb.mono HB.out.size))
    have TX := hid (TX.out.below hb)
    have RM := hid (RM.out.below hb)
    clear q0 q1 q2 hz NW
    obtain ⟨⟨q0, q1, q2⟩, hn, -, hz⟩ := HC1.out w13 HB.out
    have NW := hid hn
    clear hn
    have OD := hid (ho.rd.imp (q' := fun _ => True) fun _ _ => trivial)
    clear ho hb
    go_wp2_with fail
    refine (HImpl.out _ _ _ OD.out).mono ?_
    rintro e' w14 ⟨a2, c2, rfl, hb, ho⟩
    have HB := hid (HB.out.trans (hb.mono HB.out.size))
    have TX := hid (TX.out.below hb)
    have RM := hid (RM.out.below hb)
    clear q0 q1 q2 hz NW
    obtain ⟨⟨q0, q1, q2⟩, hn, -, hz⟩ := HC1.out w14 HB.out
    have NW := hid hn
    clear hn
    have RZ : Hid (Rd (fun _ => True) maxLen w14 F A a2 N) := (ho.rd.imp (q' := fun _ => True) fun _ _ => trivial).wide (by unfold maxLen; omega)
    clear ho hb OD
    go_wp2_with fail
    refine (treeEq.eqS F A a2 a0 N c2 c0 _ RZ.out ((TX.out.imp fun _ _ => trivial).wide (by unfold maxLen; omega))).mono ?_
    rintro e' w15 ⟨rfl, hb⟩
    have HB := hid (HB.out.trans (hb.mono HB.out.size))
    have TX := hid (TX.out.below hb)
    have RM := hid (RM.out.below hb)
    clear q0 q1 q2 hz NW
    obtain ⟨⟨q0, q1, q2⟩, hn, -, hz⟩ := HC1.out w15 HB.out
    have NW := hid hn
    clear hn
    clear hb RZ
    go_wp2_with fail
    refine (heldS F A a1 N c1 1 _ RM.out (by omega) (by omega)).mono ?_
    rintro e' w16 ⟨rfl, hb⟩
    rw [HM.out]
    have HB := hid (HB.out.trans (hb.mono HB.out.size))
    have TX := hid (TX.out.below hb)
    have RM := hid (RM.out.below hb)
    clear q0 q1 q2 hz NW
    obtain ⟨⟨q0, q1, q2⟩, hn, -, hz⟩ := HC1.out w16 HB.out
    have NW := hid hn
    clear hn
    clear hb
    go_wp2
    go_ret
    exact ⟨rfl, (HC1.out _ HB.out).2.2.1⟩

theorem own : ownKnob Try.prog.godebug = none := by kernel_rfl
theorem laidOut : laidOutB Try.prog = true := by kernel_rfl

set_option maxRecDepth 100000 in
theorem lifted (os : Os) (started : os.Started) (H : Type) (enc : TypeId × Value → H) :
    ReturnsInHanded {} Try.checked os 3 .any (Rows.fnExactWordBitsSpec.pre6 enc Try.prog Try.f3 Rows.fnExactWordBitsRow.domain false) (Rows.fnExactWordBitsSpec.post enc Try.prog Try.f3 false true false false) := by
  refine returnsInHanded_of_change (C := Try.checked) own started (by kernel_rfl) Try.func3
    (ChangeSpec.witness6 (enc := enc) (C := Try.checked) false ⟨#[], #[.agg #[.int .i64 0, .int .i64 0, .slice none 0 0], .int .i64 0], []⟩ 8 (by kernel_rfl) (by kernel_rfl) (by kernel_rfl) (by kernel_rfl)) ?_
  intro W base args ds gs before hval0 hW hcnd _
  have hval : ∀ (j : Nat) t v, Try.f3.params[j]? = some t → args[j]? = some v → Value.okWide Try.prog W .any base t v := hval0
  have hW' := hW
  obtain ⟨p, q, hA0, hV, rfl, hfz, hnd⟩ := hW
  have hA : DataW.TrodAll enc Try.prog W 0 (fun _ => true) true Try.f3.params.toList args.toList ds p := hA0
  rw [Try.params3] at hA hval
  obtain ⟨v0, vs0, d0, ds0, p0, q0, hargs, rfl, rfl, h0, r0⟩ := trodAll_cons hA
  obtain ⟨v1, vs1, d1, ds1, p1, q1, rfl, rfl, rfl, h1, r1⟩ := trodAll_cons r0
  obtain ⟨rfl, rfl, rfl⟩ := trodAll_nil r1
  obtain rfl : args = #[v0, v1] := by cases args; simp_all
  obtain ⟨rfl, rfl⟩ := trodVars_none hV
  have k0 := h0
  have lt0 : ∀ x ∈ p0, x.block < W.heap.size := by obtain ⟨m, hm⟩ := k0; exact DataW.trod_lt m _ _ _ hm
  have k1 := h1
  have lt1 : ∀ x ∈ p1, x.block < W.heap.size := by obtain ⟨m, hm⟩ := k1; exact DataW.trod_lt m _ _ _ hm
  obtain ⟨bits, rfl⟩ := okWide_int Try.underlying3 (hval 1 3 v1 rfl rfl)
  obtain ⟨c0, c1, c2, y0, y1, y2, m, rfl, hd0, hp0, hy0, hy1, hy2⟩ := open_agg3 Try.underlying24 (by kernel_rfl) cells_word (hval 0 24 v0 rfl rfl) h0
  obtain ⟨kk, rfl, _⟩ := int_of_trod Try.underlying3 hy0
  obtain ⟨nk, rfl, _⟩ := int_of_trod Try.underlying3 hy1
  obtain ⟨a, len, cap, rfl, f, hrow⟩ := words_of_trod m _ _ hy2
  clear hA0 hval0
  refine (walk m (mkT kk nk len f) a len cap bits W (hrow kk nk)).mono fun e W' ⟨he, bel⟩ => ?_
  subst he
  exact ⟨_, rfl, _, _, _, [], _, [], hW', trodAll_mk1 (shut_bool Try.underlying4 _), (trodAll_cons_mk (Below.trod laidOut (by kernel_rfl) (of_decide_eq_true (by kernel_rfl)) k0 bel lt0) (trodAll_cons_mk (Below.trod laidOut (by kernel_rfl) (of_decide_eq_true (by kernel_rfl)) k1 bel lt1) trodAll_mk0)), rfl, bel.frame _, fun h => by cases h⟩

theorem over : Rows.fnExactWordBitsRow.holds Try.pinned (OpenSpec.ofChange Rows.fnExactWordBitsSpec) :=
  OpenClaim.holds_of_wide 3 Try.f3 rfl rfl rfl rfl rfl rfl rfl ⟨rfl, rfl, rfl, rfl, rfl⟩ rfl rfl rfl rfl rfl (by kernel_rfl) Try.func3 (by kernel_rfl)
    (of_decide_eq_true (by kernel_rfl)) (by unfold Func.isWrapper; first | (rw [if_pos (by decide +kernel)]; kernel_rfl) | (rw [if_neg (by decide +kernel)]; exact ⟨rfl, rfl⟩))
    (fun os started H enc _ => lifted os started H enc)
end Go.Proofs.Ytmhokchnphjpdaa.fnExactWordBits
namespace Go.Proofs.Ytmhokchnphjpdaa
theorem fnExactWordBits_holds : Rows.FnExactWordBitsSaid := fnExactWordBits.over
end Go.Proofs.Ytmhokchnphjpdaa
