/- WordValue, of the program and of the specification: for every word, number of bits and values that lie in memory; conditions: none. -/
import Derived.Test.YtikdadpapdkfiaaWordVal
namespace Go.Proofs.Ytikdadpapdkfiaa.wordValue
open Go.RowKit Go.Deep base trees wordTrees wordIs wordSpec wordVal
set_option linter.unusedVariables false

def ofB (b : Nat) (n : Int) : Bool := decide (0 ≤ n ∧ n < modOf b)
def fitB (b : Nat) (vs : List Int) : Bool := decide (vs.length = 12 / b) && vs.all (ofB b)
theorem fit_of {b : Nat} {vs : List Int} (h : fitB b vs = true) : Fit b vs := by
  unfold fitB at h
  rw [Bool.and_eq_true] at h
  refine ⟨of_decide_eq_true h.1, fun i hi => ?_⟩
  have h2 := List.all_eq_true.1 h.2 vs[i] (List.getElem_mem hi)
  rw [List.getElem?_eq_getElem hi]
  exact of_decide_eq_true h2
theorem bits_all {b : Nat} (h1 : 1 ≤ b) (h2 : b ≤ 6) : (b = 1 ∧ modOf b = 2 ∧ 12 / b = 12) ∨ (b = 2 ∧ modOf b = 4 ∧ 12 / b = 6) ∨ (b = 3 ∧ modOf b = 8 ∧ 12 / b = 4) ∨ (b = 4 ∧ modOf b = 16 ∧ 12 / b = 3) ∨ (b = 5 ∧ modOf b = 32 ∧ 12 / b = 2) ∨ (b = 6 ∧ modOf b = 64 ∧ 12 / b = 2) := by
  rcases bits_cases h1 h2 with rfl | rfl | rfl | rfl | rfl | rfl <;> decide

set_option maxHeartbeats 800000 in
theorem isOf_impl (n : Int) (b : Nat) (hb1 : 1 ≤ b) (hb2 : b ≤ 6) (w : World) :
    Calls Try.prog 16 #[.int .i64 n, .int .i64 (b : Int)] w fun e w' => e = .returned (.bool (ofB b n)) ∧ w' = w := by
  rcases mod_cases hb1 hb2 with ⟨rfl, em⟩ | ⟨rfl, em⟩ | ⟨rfl, em⟩ | ⟨rfl, em⟩ | ⟨rfl, em⟩ | ⟨rfl, em⟩
  all_goals
    unfold ofB
    rw [em]
    clear em
    go_enter Try.func16, Try.ntmps16
    go_wp2
    all_goals
      go_ret
      refine ⟨ret_bool ?_, rfl⟩
      rw [Bool.eq_iff_iff]; simp [*]; try omega

set_option maxHeartbeats 400000 in
theorem cl_impl (n : Int) (b P : Nat) (hb1 : 1 ≤ b) (hb2 : b ≤ 6) (w : World) (hP : w.cell? ⟨P, 0, none⟩ = some (.int .i64 (b : Int))) :
    Calls Try.prog 15 #[.int .i64 n, .pointer (some ⟨P, 0, none⟩)] w fun e w' => e = .returned (.bool (ofB b n)) ∧ w' = w := by
  go_enter Try.func15, Try.ntmps15
  go_wp2_with fail
  refine (isOf_impl n b hb1 hb2 _).mono ?_
  rintro e w1 ⟨rfl, rfl⟩
  go_wp2
  go_ret
  exact ⟨rfl, rfl⟩

set_option maxHeartbeats 800000 in
theorem all_impl (a : Option Addr) (l c : Nat) (vs : List Int) (b P : Nat) (hb1 : 1 ≤ b) (hb2 : b ≤ 6) (w : World) (hv : IntRow w a l vs) (hP : w.cell? ⟨P, 0, none⟩ = some (.int .i64 (b : Int))) :
    Calls Try.prog 14 #[.slice a l c, .func (.func 15) #[] #[.pointer (some ⟨P, 0, none⟩)]] w fun e w' => e = .returned (.bool (vs.all (ofB b))) ∧ w' = w := by
  have hmost := hv.most
  unfold maxLen at hmost
  have HV := hid hv
  have HLen := hid hv.length
  clear hv
  go_enter Try.func14, Try.ntmps14
  go_wp2
  go_loopw [9] (fun i wr => ∃ k : Nat, k ≤ l ∧ i = .int .i64 k ∧ wr = w ∧ (vs.take k).all (ofB b) = true) (fun i _ => l - (intOf i).toNat)
  case atStart => exact ⟨0, Nat.zero_le _, rfl, rfl, by simp⟩
  case round =>
    obtain ⟨k, hk, rfl, rfl, ha⟩ := hrel
    have HA := hid ha
    clear ha
    by_cases hlt : k < l
    · obtain ⟨bb, off, rfl, hc⟩ := HV.out.cell k hlt
      have hkl : k < vs.length := by rw [HLen.out]; exact hlt
      cases ho : ofB b (vs[k]?.getD 0) with
      | false =>
        have HX := hid (all_false (p := ofB b) (d := (0 : Int)) hkl ho)
        clear hkl
        generalize vs[k]?.getD 0 = z at *
        go_wp2_with fail
        refine (cl_impl z b P hb1 hb2 _ (by simpa using hP)).mono ?_
        rintro e w1 ⟨rfl, rfl⟩
        rw [ho]
        go_wp2
        go_ret
        exact ⟨ret_bool HX.out.symm, rfl⟩
      | true =>
        have HX : Hid ((vs.take (k + 1)).all (ofB b) = true) := by rw [all_take_succ (d := (0 : Int)) hkl, HA.out, ho]; exact hid rfl
        clear hkl
        generalize vs[k]?.getD 0 = z at *
        go_wp2_with fail
        refine (cl_impl z b P hb1 hb2 _ (by simpa using hP)).mono ?_
        rintro e w1 ⟨rfl, rfl⟩
        rw [ho]
        go_wp2
        go_roundw
        case rel => exact ⟨k + 1, by omega, by go_num, by first | rfl | trivial, HX.out⟩
        case measure => simp [intOf]; omega
    · have e : k = l := by omega
      subst e
      have HX : Hid (vs.all (ofB b) = true) := by
        have := HA.out
        rw [List.take_of_length_le (by rw [HLen.out]; exact Nat.le_refl _)] at this
        exact hid this
      go_wp2
      go_ret
      exact ⟨ret_bool HX.out.symm, by first | rfl | trivial⟩

/-- WordValue's code, and its value. -/
def wvC (d : Nat) (t : T) (bits : Int) (vs : List Int) : Int := if 4096 < vs.length then 2 else if wordB d t bits = false then 1 else if fitB bits.toNat vs = false then 5 else 0
def wvV (d : Nat) (t : T) (bits : Int) (vs : List Int) : Int := if wvC d t bits vs = 0 then valW bits.toNat vs d t else 0
theorem word_bits {d : Nat} {t : T} {bits : Int} (h : wordB d t bits = true) : ∃ b : Nat, bits = (b : Int) ∧ 1 ≤ b ∧ b ≤ 6 ∧ rightW b d t = true := by
  unfold wordB at h
  rw [Bool.and_eq_true] at h
  have h1 := of_decide_eq_true h.1
  exact ⟨bits.toNat, by omega, by omega, by omega, (okW_iff.1 h.2).2⟩

set_option maxHeartbeats 1600000 in
theorem wordValue_impl (d : Nat) (t : T) (a : Option Addr) (l c : Nat) (bits : Int) (va : Option Addr) (vl vc : Nat) (vs : List Int) (w : World) (hr : Rd (fun _ => True) 1048576 w d t a l) (hv : IntRow w va vl vs) :
    Calls Try.prog 6 #[.agg #[.int .i64 (kd t), .int .i64 (nn t), .slice a l c], .int .i64 bits, .slice va vl vc] w fun e w' => e = .returned (.tuple #[.int .i64 (wvV d t bits vs), .int .i64 (wvC d t bits vs)]) ∧ Below w.heap.size w w' := by
  have hmv := hv.most
  unfold maxLen at hmv
  have hlen := hv.length
  have HR := hid hr
  have HV := hid hv
  have hmf : ∀ (fn : Fn) (first cap : Array Value) (w : World), (Instr.makeFunc fn first cap).run Try.prog w = .ok (.func fn first cap) w := fun _ _ _ _ => rfl
  clear hr hv
  by_cases h1 : 4096 < vl
  · have e2 : wvC d t bits vs = 2 := if_pos (by omega)
    have e1 : wvV d t bits vs = 0 := by unfold wvV; rw [e2]; rfl
    rw [e1, e2]
    clear e1 e2 hlen
    go_enter Try.func6, Try.ntmps6
    go_wp2
    go_ret2
    exact ⟨rfl, (by repeat (first | exact Below.refl _ _ | assumption | refine Below.drew ?_ | refine Below.alloc ?_ (by first | exact Nat.le_refl _ | omega | (simp; done) | (simp; omega)) _ | refine Below.setCell ?_ (by first | exact Nat.le_refl _ | omega | (simp; done) | (simp; omega)) _))⟩
  cases hb : wordB d t bits with
  | false =>
    have e2 : wvC d t bits vs = 1 := by unfold wvC; rw [if_neg (by omega), if_pos hb]
    have e1 : wvV d t bits vs = 0 := by unfold wvV; rw [e2]; rfl
    rw [e1, e2]
    clear e1 e2 hlen
    go_enter Try.func6, Try.ntmps6
    go_wp2_with fail
    refine (wordOK_impl d t a l c bits _ (HR.out.below (by repeat (first | exact Below.refl _ _ | assumption | refine Below.drew ?_ | refine Below.alloc ?_ (by first | exact Nat.le_refl _ | omega | (simp; done) | (simp; omega)) _ | refine Below.setCell ?_ (by first | exact Nat.le_refl _ | omega | (simp; done) | (simp; omega)) _)))).mono ?_
    rintro e w1 ⟨rfl, hb1⟩
    have HB := hid ((show Below w.heap.size w _ from (by repeat (first | exact Below.refl _ _ | assumption | refine Below.drew ?_ | refine Below.alloc ?_ (by first | exact Nat.le_refl _ | omega | (simp; done) | (simp; omega)) _ | refine Below.setCell ?_ (by first | exact Nat.le_refl _ | omega | (simp; done) | (simp; omega)) _))).trans (hb1.mono (by simp; omega)))
    clear hb1
    rw [hb]
    go_wp2
    go_ret2
    exact ⟨rfl, HB.out⟩
  | true =>
    obtain ⟨b, rfl, hb1, hb2, hR⟩ := word_bits hb
    have HK : Hid (∀ w' : World, Below w.heap.size w w' → Calls Try.prog 10 #[.agg #[.int .i64 (kd t), .int .i64 (nn t), .slice a l c], .int .i64 (b : Int)] w' fun e w'' => e = .returned (.bool true) ∧ Below w'.heap.size w' w'') :=
      fun w' h => (wordOK_impl d t a l c b w' (HR.out.below h)).mono (by rintro e w1 ⟨rfl, h1⟩; exact ⟨by rw [hb], h1⟩)
    have HA : Hid (∀ (w' : World) (P : Nat), Below w.heap.size w w' → w'.cell? ⟨P, 0, none⟩ = some (.int .i64 (b : Int)) → Calls Try.prog 14 #[.slice va vl vc, .func (.func 15) #[] #[.pointer (some ⟨P, 0, none⟩)]] w' fun e w'' => e = .returned (.bool (vs.all (ofB b))) ∧ w'' = w') :=
      fun w' P h hP => all_impl va vl vc vs b P hb1 hb2 w' (HV.out.below h) hP
    cases hf : fitB b vs with
    | false =>
      have e2 : wvC d t b vs = 5 := by unfold wvC; rw [if_neg (by omega), if_neg (by rw [hb]; decide), if_pos (by rw [Int.toNat_natCast]; exact hf)]
      have e1 : wvV d t b vs = 0 := by unfold wvV; rw [e2]; rfl
      rw [e1, e2]
      clear e1 e2 hb
      by_cases hq : vl = 12 / b
      · have hfa : vs.all (ofB b) = false := by
          unfold fitB at hf
          rw [decide_eq_true (by omega), Bool.true_and] at hf
          exact hf
        clear hf hlen
        generalize vs.all (ofB b) = res at *
        subst hfa
        rcases bits_all hb1 hb2 with ⟨rfl, em, ed⟩ | ⟨rfl, em, ed⟩ | ⟨rfl, em, ed⟩ | ⟨rfl, em, ed⟩ | ⟨rfl, em, ed⟩ | ⟨rfl, em, ed⟩
        all_goals
          rw [ed] at hq
          subst hq
          clear em ed
          go_enter Try.func6, Try.ntmps6
          go_wp2_with fail
          refine (HK.out _ (by repeat (first | exact Below.refl _ _ | assumption | refine Below.drew ?_ | refine Below.alloc ?_ (by first | exact Nat.le_refl _ | omega | (simp; done) | (simp; omega)) _ | refine Below.setCell ?_ (by first | exact Nat.le_refl _ | omega | (simp; done) | (simp; omega)) _))).mono ?_
          rintro e w1 ⟨rfl, hb1⟩
          have f3 := keep (b := w.heap.size + 1) (o := 0) hb1 (by simp [go_sem]; rfl)
          have HB := hid ((show Below w.heap.size w _ from (by repeat (first | exact Below.refl _ _ | assumption | refine Below.drew ?_ | refine Below.alloc ?_ (by first | exact Nat.le_refl _ | omega | (simp; done) | (simp; omega)) _ | refine Below.setCell ?_ (by first | exact Nat.le_refl _ | omega | (simp; done) | (simp; omega)) _))).trans (hb1.mono (by simp; omega)))
          clear hb1
          go_wp2_with fail
          refine (HA.out _ _ HB.out f3).mono ?_
          rintro e w2 ⟨rfl, rfl⟩
          go_wp2
          go_ret2
          exact ⟨rfl, HB.out⟩
      · have hq' : ((vl : Int) != ((12 / b : Nat) : Int)) = true := by
          have : ¬ (vl : Int) = ((12 / b : Nat) : Int) := fun h => hq (Int.ofNat.inj h)
          simp only [bne_iff_ne, ne_eq]
          exact this
        clear hf hlen hq
        rcases bits_all hb1 hb2 with ⟨rfl, em, ed⟩ | ⟨rfl, em, ed⟩ | ⟨rfl, em, ed⟩ | ⟨rfl, em, ed⟩ | ⟨rfl, em, ed⟩ | ⟨rfl, em, ed⟩
        all_goals
          rw [ed] at hq'
          simp only [Int.cast_ofNat_Int] at hq'
          clear em ed
          go_enter Try.func6, Try.ntmps6
          go_wp2_with fail
          refine (HK.out _ (by repeat (first | exact Below.refl _ _ | assumption | refine Below.drew ?_ | refine Below.alloc ?_ (by first | exact Nat.le_refl _ | omega | (simp; done) | (simp; omega)) _ | refine Below.setCell ?_ (by first | exact Nat.le_refl _ | omega | (simp; done) | (simp; omega)) _))).mono ?_
          rintro e w1 ⟨rfl, hb1⟩
          have f3 := keep (b := w.heap.size + 1) (o := 0) hb1 (by simp [go_sem]; rfl)
          have HB := hid ((show Below w.heap.size w _ from (by repeat (first | exact Below.refl _ _ | assumption | refine Below.drew ?_ | refine Below.alloc ?_ (by first | exact Nat.le_refl _ | omega | (simp; done) | (simp; omega)) _ | refine Below.setCell ?_ (by first | exact Nat.le_refl _ | omega | (simp; done) | (simp; omega)) _))).trans (hb1.mono (by simp; omega)))
          clear hb1
          go_wp2
          go_ret2
          exact ⟨rfl, HB.out⟩
    | true =>
      have e2 : wvC d t b vs = 0 := by unfold wvC; rw [if_neg (by omega), if_neg (by rw [hb]; decide), if_neg (by rw [Int.toNat_natCast, hf]; decide)]
      have e1 : wvV d t b vs = valW b vs d t := by unfold wvV; rw [e2, Int.toNat_natCast]; rfl
      rw [e1, e2]
      clear e1 e2 hb
      have HF := hid (fit_of hf)
      unfold fitB at hf
      rw [Bool.and_eq_true] at hf
      obtain ⟨hf1, hfa⟩ := hf
      have hq := of_decide_eq_true hf1
      rw [hlen] at hq
      have HN : Hid (∀ w' : World, Below w.heap.size w w' → Calls Try.prog 17 #[.agg #[.int .i64 (kd t), .int .i64 (nn t), .slice a l c], .int .i64 (b : Int), .slice va vl vc] w' fun e w'' => e = .returned (.int .i64 (valW b vs d t)) ∧ Below w'.heap.size w' w'') :=
        fun w' h => number_impl b hb1 hb2 d t a l c va vl vc vs w' (HR.out.below h) hR HF.out (HV.out.below h)
      clear hf1 hlen HF hR
      generalize vs.all (ofB b) = res at *
      generalize valW b vs d t = val at *
      subst hfa
      rcases bits_all hb1 hb2 with ⟨rfl, em, ed⟩ | ⟨rfl, em, ed⟩ | ⟨rfl, em, ed⟩ | ⟨rfl, em, ed⟩ | ⟨rfl, em, ed⟩ | ⟨rfl, em, ed⟩
      all_goals
        rw [ed] at hq
        subst hq
        clear em ed
        go_enter Try.func6, Try.ntmps6
        go_wp2_with fail
        refine (HK.out _ (by repeat (first | exact Below.refl _ _ | assumption | refine Below.drew ?_ | refine Below.alloc ?_ (by first | exact Nat.le_refl _ | omega | (simp; done) | (simp; omega)) _ | refine Below.setCell ?_ (by first | exact Nat.le_refl _ | omega | (simp; done) | (simp; omega)) _))).mono ?_
        rintro e w1 ⟨rfl, hb1⟩
        have f0 : w1.cell? ⟨w.heap.size, 0, none⟩ = some (.int .i64 (kd t)) := keep hb1 (by simp [go_sem])
        have f1 : w1.cell? ⟨w.heap.size, 1, none⟩ = some (.int .i64 (nn t)) := keep hb1 (by simp [go_sem])
        have f2 : w1.cell? ⟨w.heap.size, 2, none⟩ = some (.slice a l c) := keep hb1 (by simp [go_sem])
        have f3 := keep (b := w.heap.size + 1) (o := 0) hb1 (by simp [go_sem]; rfl)
        have HB := hid ((show Below w.heap.size w _ from (by repeat (first | exact Below.refl _ _ | assumption | refine Below.drew ?_ | refine Below.alloc ?_ (by first | exact Nat.le_refl _ | omega | (simp; done) | (simp; omega)) _ | refine Below.setCell ?_ (by first | exact Nat.le_refl _ | omega | (simp; done) | (simp; omega)) _))).trans (hb1.mono (by simp; omega)))
        clear hb1
        go_wp2_with fail
        refine (HA.out _ _ HB.out f3).mono ?_
        rintro e w2 ⟨rfl, rfl⟩
        go_wp2_with fail
        refine (HN.out _ HB.out).mono ?_
        rintro e w3 ⟨rfl, hb3⟩
        have HB3 := hid (HB.out.trans (hb3.mono HB.out.size))
        clear hb3
        go_wp2
        go_ret2
        exact ⟨rfl, HB3.out⟩

theorem in_of {b : Nat} {n m : Int} (h : modOf b = m + 1) : inB n 0 m = ofB b n := by
  unfold inB ofB
  rw [h, Bool.eq_iff_iff]
  simp; omega

set_option maxHeartbeats 1600000 in
theorem wordValue_spec (d : Nat) (t : T) (a : Option Addr) (l c : Nat) (bits : Int) (va : Option Addr) (vl vc : Nat) (vs : List Int) (w : World) (hr : Rd (fun _ => True) 1048576 w d t a l) (hv : IntRow w va vl vs) :
    Calls Try.prog 7 #[.agg #[.int .i64 (kd t), .int .i64 (nn t), .slice a l c], .int .i64 bits, .slice va vl vc] w fun e w' => e = .returned (.tuple #[.int .i64 (wvV d t bits vs), .int .i64 (wvC d t bits vs)]) ∧ Below w.heap.size w w' := by
  have hmv := hv.most
  unfold maxLen at hmv
  have hlen := hv.length
  have HR := hid hr
  have HV := hid hv
  clear hr hv
  by_cases h1 : 4096 < vl
  · have e2 : wvC d t bits vs = 2 := if_pos (by omega)
    have e1 : wvV d t bits vs = 0 := by unfold wvV; rw [e2]; rfl
    rw [e1, e2]
    clear e1 e2 hlen
    go_enter Try.func7, Try.ntmps7
    go_wp2
    go_ret2
    exact ⟨rfl, (by repeat (first | exact Below.refl _ _ | assumption | refine Below.drew ?_ | refine Below.alloc ?_ (by first | exact Nat.le_refl _ | omega | (simp; done) | (simp; omega)) _ | refine Below.setCell ?_ (by first | exact Nat.le_refl _ | omega | (simp; done) | (simp; omega)) _))⟩
  cases hb : wordB d t bits with
  | false =>
    have e2 : wvC d t bits vs = 1 := by unfold wvC; rw [if_neg (by omega), if_pos hb]
    have e1 : wvV d t bits vs = 0 := by unfold wvV; rw [e2]; rfl
    rw [e1, e2]
    clear e1 e2 hlen
    go_enter Try.func7, Try.ntmps7
    go_wp2_with fail
    refine (wordOK_spec d t a l c bits _ (HR.out.below (by repeat (first | exact Below.refl _ _ | assumption | refine Below.drew ?_ | refine Below.alloc ?_ (by first | exact Nat.le_refl _ | omega | (simp; done) | (simp; omega)) _ | refine Below.setCell ?_ (by first | exact Nat.le_refl _ | omega | (simp; done) | (simp; omega)) _)))).mono ?_
    rintro e w1 ⟨rfl, hb1⟩
    have HB := hid ((show Below w.heap.size w _ from (by repeat (first | exact Below.refl _ _ | assumption | refine Below.drew ?_ | refine Below.alloc ?_ (by first | exact Nat.le_refl _ | omega | (simp; done) | (simp; omega)) _ | refine Below.setCell ?_ (by first | exact Nat.le_refl _ | omega | (simp; done) | (simp; omega)) _))).trans (hb1.mono (by simp)))
    clear hb1
    rw [hb]
    go_wp2
    go_ret2
    exact ⟨rfl, HB.out⟩
  | true =>
    obtain ⟨b, rfl, hb1, hb2, hR⟩ := word_bits hb
    have HK : Hid (∀ w' : World, Below w.heap.size w w' → Calls Try.prog 18 #[.agg #[.int .i64 (kd t), .int .i64 (nn t), .slice a l c], .int .i64 (b : Int)] w' fun e w'' => e = .returned (.bool true) ∧ Below w'.heap.size w' w'') :=
      fun w' h => (wordOK_spec d t a l c b w' (HR.out.below h)).mono (by rintro e w1 ⟨rfl, h1⟩; exact ⟨by rw [hb], h1⟩)
    have HFalse : Hid (∀ k, k < vl → ofB b (vs[k]?.getD 0) = false → wvC d t b vs = 5 ∧ wvV d t b vs = 0) := by
      intro k hk ho
      have hf : fitB b vs = false := by
        unfold fitB
        rw [all_false (p := ofB b) (d := (0 : Int)) (by rw [hlen]; exact hk) ho, Bool.and_false]
      have e2 : wvC d t b vs = 5 := by unfold wvC; rw [if_neg (by omega), if_neg (by rw [hb]; decide), if_pos (by rw [Int.toNat_natCast]; exact hf)]
      exact ⟨e2, by unfold wvV; rw [e2]; rfl⟩
    have HTrue : Hid (vl = 12 / b → (vs.take vl).all (ofB b) = true → wvC d t b vs = 0 ∧ wvV d t b vs = valW b vs d t ∧ Fit b vs) := by
      intro hq ha
      rw [List.take_of_length_le (by rw [hlen]; exact Nat.le_refl _)] at ha
      have hf : fitB b vs = true := by
        unfold fitB
        rw [decide_eq_true (by omega), ha]; rfl
      have e2 : wvC d t b vs = 0 := by unfold wvC; rw [if_neg (by omega), if_neg (by rw [hb]; decide), if_neg (by rw [Int.toNat_natCast, hf]; decide)]
      exact ⟨e2, by unfold wvV; rw [e2, Int.toNat_natCast]; rfl, fit_of hf⟩
    by_cases hq : vl = 12 / b
    · have HTrue' := hid (HTrue.out hq)
      have HSucc : Hid (∀ k, k < vl → (vs.take k).all (ofB b) = true → ofB b (vs[k]?.getD 0) = true → (vs.take (k + 1)).all (ofB b) = true) := by
        intro k hk h1 h2
        rw [all_take_succ (d := (0 : Int)) (by rw [hlen]; exact hk), h1, h2]; rfl
      have HN : Hid (Fit b vs → ∀ w' : World, Below w.heap.size w w' → Calls Try.prog 20 #[.agg #[.int .i64 (kd t), .int .i64 (nn t), .slice a l c], .int .i64 (b : Int), .slice va vl vc] w' fun e w'' => e = .returned (.int .i64 (valW b vs d t)) ∧ Below w'.heap.size w' w'') :=
        fun hF w' h => value_spec b hb1 hb2 d t a l c va vl vc vs w' (HR.out.below h) hR hF (HV.out.below h)
      clear HTrue hlen hR hb
      rcases bits_all hb1 hb2 with ⟨rfl, em, ed⟩ | ⟨rfl, em, ed⟩ | ⟨rfl, em, ed⟩ | ⟨rfl, em, ed⟩ | ⟨rfl, em, ed⟩ | ⟨rfl, em, ed⟩
      · rw [ed] at hq
        subst hq
        have hin : ∀ n, inB n 0 1 = ofB 1 n := fun n => in_of em
        have HIn := hid hin
        clear em ed hin
        generalize wvV d t _ vs = val at *
        generalize wvC d t _ vs = code at *
        go_enter Try.func7, Try.ntmps7
        go_wp2_with fail
        refine (HK.out _ (by repeat (first | exact Below.refl _ _ | assumption | refine Below.drew ?_ | refine Below.alloc ?_ (by first | exact Nat.le_refl _ | omega | (simp; done) | (simp; omega)) _ | refine Below.setCell ?_ (by first | exact Nat.le_refl _ | omega | (simp; done) | (simp; omega)) _))).mono ?_
        rintro e w1 ⟨rfl, hb1⟩
        have f0 : w1.cell? ⟨w.heap.size, 0, none⟩ = some (.int .i64 (kd t)) := keep hb1 (by simp [go_sem])
        have f1 : w1.cell? ⟨w.heap.size, 1, none⟩ = some (.int .i64 (nn t)) := keep hb1 (by simp [go_sem])
        have f2 : w1.cell? ⟨w.heap.size, 2, none⟩ = some (.slice a l c) := keep hb1 (by simp [go_sem])
        have HB := hid ((show Below w.heap.size w _ from (by repeat (first | exact Below.refl _ _ | assumption | refine Below.drew ?_ | refine Below.alloc ?_ (by first | exact Nat.le_refl _ | omega | (simp; done) | (simp; omega)) _ | refine Below.setCell ?_ (by first | exact Nat.le_refl _ | omega | (simp; done) | (simp; omega)) _))).trans (hb1.mono (by simp)))
        clear hb1
        go_wp2
        go_loopw [8] (fun i wr => ∃ k : Nat, k ≤ 12 ∧ i = .int .i64 k ∧ wr = w1 ∧ (vs.take k).all (ofB 1) = true) (fun i _ => 12 - (intOf i).toNat)
        case atStart => exact ⟨0, Nat.zero_le _, rfl, rfl, by simp⟩
        case round =>
          obtain ⟨k, hk, rfl, rfl, ha⟩ := hrel
          have HAl := hid ha
          clear ha
          by_cases hlt : k < 12
          · obtain ⟨bb, off, rfl, hc⟩ := HV.out.cell k hlt
            replace hc := keep HB.out hc
            cases ho : ofB 1 (vs[k]?.getD 0) with
            | false =>
              have HE := hid (HFalse.out k hlt ho)
              rw [← HIn.out] at ho
              generalize vs[k]?.getD 0 = z at *
              go_wp2_with (go_at_call 19; refine (in_spec _ _ _ _).mono ?_; rintro e w' ⟨rfl, rfl⟩)
              go_ret2
              exact ⟨by rw [HE.out.1, HE.out.2]; rfl, HB.out⟩
            | true =>
              have HX := hid (HSucc.out k hlt HAl.out ho)
              rw [← HIn.out] at ho
              generalize vs[k]?.getD 0 = z at *
              go_wp2_with (go_at_call 19; refine (in_spec _ _ _ _).mono ?_; rintro e w' ⟨rfl, rfl⟩)
              go_roundw
              case rel => exact ⟨k + 1, by omega, by go_num, by first | rfl | trivial, HX.out⟩
              case measure => simp [intOf]; omega
          · have e : k = 12 := by omega
            subst e
            have HE := hid (HTrue'.out HAl.out)
            have HNN := hid (HN.out HE.out.2.2)
            go_wp2_with fail
            refine (HNN.out _ HB.out).mono ?_
            rintro e w3 ⟨rfl, hb3⟩
            have HB3 := hid (HB.out.trans (hb3.mono HB.out.size))
            clear hb3
            go_wp2
            go_ret2
            exact ⟨by rw [HE.out.1, HE.out.2.1]; rfl, HB3.out⟩
      · rw [ed] at hq
        subst hq
        have hin : ∀ n, inB n 0 3 = ofB 2 n := fun n => in_of em
        have HIn := hid hin
        clear em ed hin
        generalize wvV d t _ vs = val at *
        generalize wvC d t _ vs = code at *
        go_enter Try.func7, Try.ntmps7
        go_wp2_with fail
        refine (HK.out _ (by repeat (first | exact Below.refl _ _ | assumption | refine Below.drew ?_ | refine Below.alloc ?_ (by first | exact Nat.le_refl _ | omega | (simp; done) | (simp; omega)) _ | refine Below.setCell ?_ (by first | exact Nat.le_refl _ | omega | (simp; done) | (simp; omega)) _))).mono ?_
        rintro e w1 ⟨rfl, hb1⟩
        have f0 : w1.cell? ⟨w.heap.size, 0, none⟩ = some (.int .i64 (kd t)) := keep hb1 (by simp [go_sem])
        have f1 : w1.cell? ⟨w.heap.size, 1, none⟩ = some (.int .i64 (nn t)) := keep hb1 (by simp [go_sem])
        have f2 : w1.cell? ⟨w.heap.size, 2, none⟩ = some (.slice a l c) := keep hb1 (by simp [go_sem])
        have HB := hid ((show Below w.heap.size w _ from (by repeat (first | exact Below.refl _ _ | assumption | refine Below.drew ?_ | refine Below.alloc ?_ (by first | exact Nat.le_refl _ | omega | (simp; done) | (simp; omega)) _ | refine Below.setCell ?_ (by first | exact Nat.le_refl _ | omega | (simp; done) | (simp; omega)) _))).trans (hb1.mono (by simp)))
        clear hb1
        go_wp2
        go_loopw [8] (fun i wr => ∃ k : Nat, k ≤ 6 ∧ i = .int .i64 k ∧ wr = w1 ∧ (vs.take k).all (ofB 2) = true) (fun i _ => 6 - (intOf i).toNat)
        case atStart => exact ⟨0, Nat.zero_le _, rfl, rfl, by simp⟩
        case round =>
          obtain ⟨k, hk, rfl, rfl, ha⟩ := hrel
          have HAl := hid ha
          clear ha
          by_cases hlt : k < 6
          · obtain ⟨bb, off, rfl, hc⟩ := HV.out.cell k hlt
            replace hc := keep HB.out hc
            cases ho : ofB 2 (vs[k]?.getD 0) with
            | false =>
              have HE := hid (HFalse.out k hlt ho)
              rw [← HIn.out] at ho
              generalize vs[k]?.getD 0 = z at *
              go_wp2_with (go_at_call 19; refine (in_spec _ _ _ _).mono ?_; rintro e w' ⟨rfl, rfl⟩)
              go_ret2
              exact ⟨by rw [HE.out.1, HE.out.2]; rfl, HB.out⟩
            | true =>
              have HX := hid (HSucc.out k hlt HAl.out ho)
              rw [← HIn.out] at ho
              generalize vs[k]?.getD 0 = z at *
              go_wp2_with (go_at_call 19; refine (in_spec _ _ _ _).mono ?_; rintro e w' ⟨rfl, rfl⟩)
              go_roundw
              case rel => exact ⟨k + 1, by omega, by go_num, by first | rfl | trivial, HX.out⟩
              case measure => simp [intOf]; omega
          · have e : k = 6 := by omega
            subst e
            have HE := hid (HTrue'.out HAl.out)
            have HNN := hid (HN.out HE.out.2.2)
            go_wp2_with fail
            refine (HNN.out _ HB.out).mono ?_
            rintro e w3 ⟨rfl, hb3⟩
            have HB3 := hid (HB.out.trans (hb3.mono HB.out.size))
            clear hb3
            go_wp2
            go_ret2
            exact ⟨by rw [HE.out.1, HE.out.2.1]; rfl, HB3.out⟩
      · rw [ed] at hq
        subst hq
        have hin : ∀ n, inB n 0 7 = ofB 3 n := fun n => in_of em
        have HIn := hid hin
        clear em ed hin
        generalize wvV d t _ vs = val at *
        generalize wvC d t _ vs = code at *
        go_enter Try.func7, Try.ntmps7
        go_wp2_with fail
        refine (HK.out _ (by repeat (first | exact Below.refl _ _ | assumption | refine Below.drew ?_ | refine Below.alloc ?_ (by first | exact Nat.le_refl _ | omega | (simp; done) | (simp; omega)) _ | refine Below.setCell ?_ (by first | exact Nat.le_refl _ | omega | (simp; done) | (simp; omega)) _))).mono ?_
        rintro e w1 ⟨rfl, hb1⟩
        have f0 : w1.cell? ⟨w.heap.size, 0, none⟩ = some (.int .i64 (kd t)) := keep hb1 (by simp [go_sem])
        have f1 : w1.cell? ⟨w.heap.size, 1, none⟩ = some (.int .i64 (nn t)) := keep hb1 (by simp [go_sem])
        have f2 : w1.cell? ⟨w.heap.size, 2, none⟩ = some (.slice a l c) := keep hb1 (by simp [go_sem])
        have HB := hid ((show Below w.heap.size w _ from (by repeat (first | exact Below.refl _ _ | assumption | refine Below.drew ?_ | refine Below.alloc ?_ (by first | exact Nat.le_refl _ | omega | (simp; done) | (simp; omega)) _ | refine Below.setCell ?_ (by first | exact Nat.le_refl _ | omega | (simp; done) | (simp; omega)) _))).trans (hb1.mono (by simp)))
        clear hb1
        go_wp2
        go_loopw [8] (fun i wr => ∃ k : Nat, k ≤ 4 ∧ i = .int .i64 k ∧ wr = w1 ∧ (vs.take k).all (ofB 3) = true) (fun i _ => 4 - (intOf i).toNat)
        case atStart => exact ⟨0, Nat.zero_le _, rfl, rfl, by simp⟩
        case round =>
          obtain ⟨k, hk, rfl, rfl, ha⟩ := hrel
          have HAl := hid ha
          clear ha
          by_cases hlt : k < 4
          · obtain ⟨bb, off, rfl, hc⟩ := HV.out.cell k hlt
            replace hc := keep HB.out hc
            cases ho : ofB 3 (vs[k]?.getD 0) with
            | false =>
              have HE := hid (HFalse.out k hlt ho)
              rw [← HIn.out] at ho
              generalize vs[k]?.getD 0 = z at *
              go_wp2_with (go_at_call 19; refine (in_spec _ _ _ _).mono ?_; rintro e w' ⟨rfl, rfl⟩)
              go_ret2
              exact ⟨by rw [HE.out.1, HE.out.2]; rfl, HB.out⟩
            | true =>
              have HX := hid (HSucc.out k hlt HAl.out ho)
              rw [← HIn.out] at ho
              generalize vs[k]?.getD 0 = z at *
              go_wp2_with (go_at_call 19; refine (in_spec _ _ _ _).mono ?_; rintro e w' ⟨rfl, rfl⟩)
              go_roundw
              case rel => exact ⟨k + 1, by omega, by go_num, by first | rfl | trivial, HX.out⟩
              case measure => simp [intOf]; omega
          · have e : k = 4 := by omega
            subst e
            have HE := hid (HTrue'.out HAl.out)
            have HNN := hid (HN.out HE.out.2.2)
            go_wp2_with fail
            refine (HNN.out _ HB.out).mono ?_
            rintro e w3 ⟨rfl, hb3⟩
            have HB3 := hid (HB.out.trans (hb3.mono HB.out.size))
            clear hb3
            go_wp2
            go_ret2
            exact ⟨by rw [HE.out.1, HE.out.2.1]; rfl, HB3.out⟩
      · rw [ed] at hq
        subst hq
        have hin : ∀ n, inB n 0 15 = ofB 4 n := fun n => in_of em
        have HIn := hid hin
        clear em ed hin
        generalize wvV d t _ vs = val at *
        generalize wvC d t _ vs = code at *
        go_enter Try.func7, Try.ntmps7
        go_wp2_with fail
        refine (HK.out _ (by repeat (first | exact Below.refl _ _ | assumption | refine Below.drew ?_ | refine Below.alloc ?_ (by first | exact Nat.le_refl _ | omega | (simp; done) | (simp; omega)) _ | refine Below.setCell ?_ (by first | exact Nat.le_refl _ | omega | (simp; done) | (simp; omega)) _))).mono ?_
        rintro e w1 ⟨rfl, hb1⟩
        have f0 : w1.cell? ⟨w.heap.size, 0, none⟩ = some (.int .i64 (kd t)) := keep hb1 (by simp [go_sem])
        have f1 : w1.cell? ⟨w.heap.size, 1, none⟩ = some (.int .i64 (nn t)) := keep hb1 (by simp [go_sem])
        have f2 : w1.cell? ⟨w.heap.size, 2, none⟩ = some (.slice a l c) := keep hb1 (by simp [go_sem])
        have HB := hid ((show Below w.heap.size w _ from (by repeat (first | exact Below.refl _ _ | assumption | refine Below.drew ?_ | refine Below.alloc ?_ (by first | exact Nat.le_refl _ | omega | (simp; done) | (simp; omega)) _ | refine Below.setCell ?_ (by first | exact Nat.le_refl _ | omega | (simp; done) | (simp; omega)) _))).trans (hb1.mono (by simp)))
        clear hb1
        go_wp2
        go_loopw [8] (fun i wr => ∃ k : Nat, k ≤ 3 ∧ i = .int .i64 k ∧ wr = w1 ∧ (vs.take k).all (ofB 4) = true) (fun i _ => 3 - (intOf i).toNat)
        case atStart => exact ⟨0, Nat.zero_le _, rfl, rfl, by simp⟩
        case round =>
          obtain ⟨k, hk, rfl, rfl, ha⟩ := hrel
          have HAl := hid ha
          clear ha
          by_cases hlt : k < 3
          · obtain ⟨bb, off, rfl, hc⟩ := HV.out.cell k hlt
            replace hc := keep HB.out hc
            cases ho : ofB 4 (vs[k]?.getD 0) with
            | false =>
              have HE := hid (HFalse.out k hlt ho)
              rw [← HIn.out] at ho
              generalize vs[k]?.getD 0 = z at *
              go_wp2_with (go_at_call 19; refine (in_spec _ _ _ _).mono ?_; rintro e w' ⟨rfl, rfl⟩)
              go_ret2
              exact ⟨by rw [HE.out.1, HE.out.2]; rfl, HB.out⟩
            | true =>
              have HX := hid (HSucc.out k hlt HAl.out ho)
              rw [← HIn.out] at ho
              generalize vs[k]?.getD 0 = z at *
              go_wp2_with (go_at_call 19; refine (in_spec _ _ _ _).mono ?_; rintro e w' ⟨rfl, rfl⟩)
              go_roundw
              case rel => exact ⟨k + 1, by omega, by go_num, by first | rfl | trivial, HX.out⟩
              case measure => simp [intOf]; omega
          · have e : k = 3 := by omega
            subst e
            have HE := hid (HTrue'.out HAl.out)
            have HNN := hid (HN.out HE.out.2.2)
            go_wp2_with fail
            refine (HNN.out _ HB.out).mono ?_
            rintro e w3 ⟨rfl, hb3⟩
            have HB3 := hid (HB.out.trans (hb3.mono HB.out.size))
            clear hb3
            go_wp2
            go_ret2
            exact ⟨by rw [HE.out.1, HE.out.2.1]; rfl, HB3.out⟩
      · rw [ed] at hq
        subst hq
        have hin : ∀ n, inB n 0 31 = ofB 5 n := fun n => in_of em
        have HIn := hid hin
        clear em ed hin
        generalize wvV d t _ vs = val at *
        generalize wvC d t _ vs = code at *
        go_enter Try.func7, Try.ntmps7
        go_wp2_with fail
        refine (HK.out _ (by repeat (first | exact Below.refl _ _ | assumption | refine Below.drew ?_ | refine Below.alloc ?_ (by first | exact Nat.le_refl _ | omega | (simp; done) | (simp; omega)) _ | refine Below.setCell ?_ (by first | exact Nat.le_refl _ | omega | (simp; done) | (simp; omega)) _))).mono ?_
        rintro e w1 ⟨rfl, hb1⟩
        have f0 : w1.cell? ⟨w.heap.size, 0, none⟩ = some (.int .i64 (kd t)) := keep hb1 (by simp [go_sem])
        have f1 : w1.cell? ⟨w.heap.size, 1, none⟩ = some (.int .i64 (nn t)) := keep hb1 (by simp [go_sem])
        have f2 : w1.cell? ⟨w.heap.size, 2, none⟩ = some (.slice a l c) := keep hb1 (by simp [go_sem])
        have HB := hid ((show Below w.heap.size w _ from (by repeat (first | exact Below.refl _ _ | assumption | refine Below.drew ?_ | refine Below.alloc ?_ (by first | exact Nat.le_refl _ | omega | (simp; done) | (simp; omega)) _ | refine Below.setCell ?_ (by first | exact Nat.le_refl _ | omega | (simp; done) | (simp; omega)) _))).trans (hb1.mono (by simp)))
        clear hb1
        go_wp2
        go_loopw [8] (fun i wr => ∃ k : Nat, k ≤ 2 ∧ i = .int .i64 k ∧ wr = w1 ∧ (vs.take k).all (ofB 5) = true) (fun i _ => 2 - (intOf i).toNat)
        case atStart => exact ⟨0, Nat.zero_le _, rfl, rfl, by simp⟩
        case round =>
          obtain ⟨k, hk, rfl, rfl, ha⟩ := hrel
          have HAl := hid ha
          clear ha
          by_cases hlt : k < 2
          · obtain ⟨bb, off, rfl, hc⟩ := HV.out.cell k hlt
            replace hc := keep HB.out hc
            cases ho : ofB 5 (vs[k]?.getD 0) with
            | false =>
              have HE := hid (HFalse.out k hlt ho)
              rw [← HIn.out] at ho
              generalize vs[k]?.getD 0 = z at *
              go_wp2_with (go_at_call 19; refine (in_spec _ _ _ _).mono ?_; rintro e w' ⟨rfl, rfl⟩)
              go_ret2
              exact ⟨by rw [HE.out.1, HE.out.2]; rfl, HB.out⟩
            | true =>
              have HX := hid (HSucc.out k hlt HAl.out ho)
              rw [← HIn.out] at ho
              generalize vs[k]?.getD 0 = z at *
              go_wp2_with (go_at_call 19; refine (in_spec _ _ _ _).mono ?_; rintro e w' ⟨rfl, rfl⟩)
              go_roundw
              case rel => exact ⟨k + 1, by omega, by go_num, by first | rfl | trivial, HX.out⟩
              case measure => simp [intOf]; omega
          · have e : k = 2 := by omega
            subst e
            have HE := hid (HTrue'.out HAl.out)
            have HNN := hid (HN.out HE.out.2.2)
            go_wp2_with fail
            refine (HNN.out _ HB.out).mono ?_
            rintro e w3 ⟨rfl, hb3⟩
            have HB3 := hid (HB.out.trans (hb3.mono HB.out.size))
            clear hb3
            go_wp2
            go_ret2
            exact ⟨by rw [HE.out.1, HE.out.2.1]; rfl, HB3.out⟩
      · rw [ed] at hq
        subst hq
        have hin : ∀ n, inB n 0 63 = ofB 6 n := fun n => in_of em
        have HIn := hid hin
        clear em ed hin
        generalize wvV d t _ vs = val at *
        generalize wvC d t _ vs = code at *
        go_enter Try.func7, Try.ntmps7
        go_wp2_with fail
        refine (HK.out _ (by repeat (first | exact Below.refl _ _ | assumption | refine Below.drew ?_ | refine Below.alloc ?_ (by first | exact Nat.le_refl _ | omega | (simp; done) | (simp; omega)) _ | refine Below.setCell ?_ (by first | exact Nat.le_refl _ | omega | (simp; done) | (simp; omega)) _))).mono ?_
        rintro e w1 ⟨rfl, hb1⟩
        have f0 : w1.cell? ⟨w.heap.size, 0, none⟩ = some (.int .i64 (kd t)) := keep hb1 (by simp [go_sem])
        have f1 : w1.cell? ⟨w.heap.size, 1, none⟩ = some (.int .i64 (nn t)) := keep hb1 (by simp [go_sem])
        have f2 : w1.cell? ⟨w.heap.size, 2, none⟩ = some (.slice a l c) := keep hb1 (by simp [go_sem])
        have HB := hid ((show Below w.heap.size w _ from (by repeat (first | exact Below.refl _ _ | assumption | refine Below.drew ?_ | refine Below.alloc ?_ (by first | exact Nat.le_refl _ | omega | (simp; done) | (simp; omega)) _ | refine Below.setCell ?_ (by first | exact Nat.le_refl _ | omega | (simp; done) | (simp; omega)) _))).trans (hb1.mono (by simp)))
        clear hb1
        go_wp2
        go_loopw [8] (fun i wr => ∃ k : Nat, k ≤ 2 ∧ i = .int .i64 k ∧ wr = w1 ∧ (vs.take k).all (ofB 6) = true) (fun i _ => 2 - (intOf i).toNat)
        case atStart => exact ⟨0, Nat.zero_le _, rfl, rfl, by simp⟩
        case round =>
          obtain ⟨k, hk, rfl, rfl, ha⟩ := hrel
          have HAl := hid ha
          clear ha
          by_cases hlt : k < 2
          · obtain ⟨bb, off, rfl, hc⟩ := HV.out.cell k hlt
            replace hc := keep HB.out hc
            cases ho : ofB 6 (vs[k]?.getD 0) with
            | false =>
              have HE := hid (HFalse.out k hlt ho)
              rw [← HIn.out] at ho
              generalize vs[k]?.getD 0 = z at *
              go_wp2_with (go_at_call 19; refine (in_spec _ _ _ _).mono ?_; rintro e w' ⟨rfl, rfl⟩)
              go_ret2
              exact ⟨by rw [HE.out.1, HE.out.2]; rfl, HB.out⟩
            | true =>
              have HX := hid (HSucc.out k hlt HAl.out ho)
              rw [← HIn.out] at ho
              generalize vs[k]?.getD 0 = z at *
              go_wp2_with (go_at_call 19; refine (in_spec _ _ _ _).mono ?_; rintro e w' ⟨rfl, rfl⟩)
              go_roundw
              case rel => exact ⟨k + 1, by omega, by go_num, by first | rfl | trivial, HX.out⟩
              case measure => simp [intOf]; omega
          · have e : k = 2 := by omega
            subst e
            have HE := hid (HTrue'.out HAl.out)
            have HNN := hid (HN.out HE.out.2.2)
            go_wp2_with fail
            refine (HNN.out _ HB.out).mono ?_
            rintro e w3 ⟨rfl, hb3⟩
            have HB3 := hid (HB.out.trans (hb3.mono HB.out.size))
            clear hb3
            go_wp2
            go_ret2
            exact ⟨by rw [HE.out.1, HE.out.2.1]; rfl, HB3.out⟩
    · have hq' : ((vl : Int) != ((12 / b : Nat) : Int)) = true := by
        have : ¬ (vl : Int) = ((12 / b : Nat) : Int) := fun h => hq (Int.ofNat.inj h)
        simp only [bne_iff_ne, ne_eq]
        exact this
      have hf : fitB b vs = false := by unfold fitB; rw [decide_eq_false (by omega), Bool.false_and]
      have e2 : wvC d t b vs = 5 := by unfold wvC; rw [if_neg (by omega), if_neg (by rw [hb]; decide), if_pos (by rw [Int.toNat_natCast]; exact hf)]
      have e1 : wvV d t b vs = 0 := by unfold wvV; rw [e2]; rfl
      rw [e1, e2]
      clear hf hlen hq e1 e2 hb HFalse HTrue
      rcases bits_all hb1 hb2 with ⟨rfl, em, ed⟩ | ⟨rfl, em, ed⟩ | ⟨rfl, em, ed⟩ | ⟨rfl, em, ed⟩ | ⟨rfl, em, ed⟩ | ⟨rfl, em, ed⟩
      all_goals
        rw [ed] at hq'
        simp only [Int.cast_ofNat_Int] at hq'
        clear em ed
        go_enter Try.func7, Try.ntmps7
        go_wp2_with fail
        refine (HK.out _ (by repeat (first | exact Below.refl _ _ | assumption | refine Below.drew ?_ | refine Below.alloc ?_ (by first | exact Nat.le_refl _ | omega | (simp; done) | (simp; omega)) _ | refine Below.setCell ?_ (by first | exact Nat.le_refl _ | omega | (simp; done) | (simp; omega)) _))).mono ?_
        rintro e w1 ⟨rfl, hb1⟩
        have HB := hid ((show Below w.heap.size w _ from (by repeat (first | exact Below.refl _ _ | assumption | refine Below.drew ?_ | refine Below.alloc ?_ (by first | exact Nat.le_refl _ | omega | (simp; done) | (simp; omega)) _ | refine Below.setCell ?_ (by first | exact Nat.le_refl _ | omega | (simp; done) | (simp; omega)) _))).trans (hb1.mono (by simp)))
        clear hb1
        go_wp2
        go_ret2
        exact ⟨rfl, HB.out⟩
end Go.Proofs.Ytikdadpapdkfiaa.wordValue
