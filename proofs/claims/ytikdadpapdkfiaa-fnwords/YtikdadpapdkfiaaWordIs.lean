/- Whether a word is right, of the program, the whole of it; conditions: none. -/
import Derived.Test.YtikdadpapdkfiaaWordImpl
namespace Go.Proofs.Ytikdadpapdkfiaa.wordIs
open Go.RowKit Go.Deep base trees wordTrees wordImpl
set_option linter.unusedVariables false

set_option maxHeartbeats 800000 in
theorem isW (b : Nat) (hb1 : 1 ≤ b) (hb2 : b ≤ 6) (d : Nat) : IsW b d := by
  induction d using Nat.strongRecOn with
  | _ d ih =>
  intro t a l c k B w hr hk hB hfz
  have hBl : B < w.heap.size := World.block_lt_of_cell? _ _ hB
  have HL := hid hr.len
  have HZ := hid hr.zero
  have hmost := hr.most
  have HR := hid hr
  have HI := hid ih
  have hne : w.heap.size ≠ B := by omega
  have hne' : B ≠ w.heap.size := by omega
  have hne1 : w.heap.size + 1 ≠ B := by omega
  have hne2 : w.heap.size + 1 + 1 ≠ B := by omega
  have hne1' : B ≠ w.heap.size + 1 := by omega
  have hne2' : B ≠ w.heap.size + 1 + 1 := by omega
  have hBl1 : B < w.heap.size + 1 := by omega
  have hBl2 : B < w.heap.size + 1 + 1 := by omega
  clear hr ih
  have hset := set_facts (v := .int .i64 ((k : Int) + 1)) hB
  have hset' : (w.setCell ⟨B, 0, none⟩ (.int .i64 ((k : Int) + 1))).frozen? ⟨B, 0, none⟩ = false := by simpa [go_sem] using hfz
  have HO := hid (Oth.set B w 0 (.int .i64 ((k : Int) + 1)))
  have hmf : ∀ (fn : Fn) (first cap : Array Value) (w : World), (Instr.makeFunc fn first cap).run Try.prog w = .ok (.func fn first cap) w := fun _ _ _ _ => rfl
  have hE := keep (b := B) (o := 0) (show Below (w.setCell ⟨B, 0, none⟩ (.int .i64 ((k : Int) + 1))).heap.size (w.setCell ⟨B, 0, none⟩ (.int .i64 ((k : Int) + 1))) ((((w.setCell ⟨B, 0, none⟩ (.int .i64 ((k : Int) + 1))).alloc (.cells #[.int .i64 (kd t), .int .i64 (nn t), .slice a l c] 25)).alloc (.cells #[.int .i64 (b : Int)] 3)).alloc (.cells #[.pointer (some ⟨B, 0, none⟩)] 59)) from (by repeat (first | exact Below.refl _ _ | assumption | refine Below.drew ?_ | refine Below.alloc ?_ (by first | exact Nat.le_refl _ | omega | (simp; done) | (simp; omega)) _ | refine Below.setCell ?_ (by first | exact Nat.le_refl _ | omega | (simp; done) | (simp; omega)) _))) hset
  have HE := hid hE
  clear hE
  by_cases hlong : 9 ≤ k
  · rw [okW_long HZ.out hlong]
    have d1 : decide ((9 : Int) < (k : Int) + 1) = true := decide_eq_true (by omega)
    clear hmf
    go_enter Try.func29, Try.ntmps29
    go_wp2
    go_quiet (first | (go_at_call 50; exact Calls.quiet_of_same (kids_impl _ _)) | (go_at_call 51; exact Calls.quiet_of_same (most_impl _ _ hb1 hb2 _)))
    go_wp2
    go_ret
    exact ⟨k + 1, rfl, fun h => (by cases h), by omega, by simpa using HE.out, by simp [go_sem, hset', hBl, hBl1, hBl2], (HO.out.then (by repeat (first | exact Below.refl _ _ | assumption | refine Below.drew ?_ | refine Below.alloc ?_ (by first | exact Nat.le_refl _ | omega | (simp; done) | (simp; omega)) _ | refine Below.setCell ?_ (by first | exact Nat.le_refl _ | omega | (simp; done) | (simp; omega)) _))).then (below_drewN _ _)⟩
  have d1 : decide ((9 : Int) < (k : Int) + 1) = false := decide_eq_false (by omega)
  by_cases hs : shapeW b t = true
  · have hs' := of_decide_eq_true hs
    rw [HL.out] at hs'
    have d3 : ((l : Int) != kidsW (kd t)) = false := by simp [hs'.1]
    have d4 : decide (nn t < 0) = false := decide_eq_false (by omega)
    have d5 : decide (mostW b (kd t) < nn t) = false := decide_eq_false (by omega)
    have HSH := hid hs
    have HAll := hid (allW_of b d fun h0 => clW b (d - 1) (HI.out (d - 1) (by omega)))
    clear hs hs'
    generalize hkk : kd t = kk at *
    generalize hnk : nn t = nk at *
    have HKK := hid hkk
    have HNK := hid hnk
    clear hkk hnk
    go_enter Try.func29, Try.ntmps29
    go_wp2
    go_quiet (first | (go_at_call 50; exact Calls.quiet_of_same (kids_impl _ _)) | (go_at_call 51; exact Calls.quiet_of_same (most_impl _ _ hb1 hb2 _)))
    go_wp2_with fail
    refine (HAll.out t a l c (k + 1) B (w.heap.size + 1) (w.heap.size + 1 + 1) _ ?_ (by omega) ?_ ?_ ?_ ?_ hne1 hne2).mono ?_
    · exact HR.out.oth ((HO.out.then (by repeat (first | exact Below.refl _ _ | assumption | refine Below.drew ?_ | refine Below.alloc ?_ (by first | exact Nat.le_refl _ | omega | (simp; done) | (simp; omega)) _ | refine Below.setCell ?_ (by first | exact Nat.le_refl _ | omega | (simp; done) | (simp; omega)) _))).then (below_drewN _ _))
    · simpa [go_sem] using HE.out
    · simp [go_sem, hset', hBl, hBl1, hBl2]
    · simp [go_sem]
    · simp [go_sem]
    rintro e w1 ⟨k', rfl, h1, h2, h3, h4, h5⟩
    have HP := hid (And.intro h1 (And.intro h2 (And.intro h3 (And.intro h4 (((HO.out.then (by repeat (first | exact Below.refl _ _ | assumption | refine Below.drew ?_ | refine Below.alloc ?_ (by first | exact Nat.le_refl _ | omega | (simp; done) | (simp; omega)) _ | refine Below.setCell ?_ (by first | exact Nat.le_refl _ | omega | (simp; done) | (simp; omega)) _))).then (below_drewN _ _)).trans h5)))))
    clear h1 h2 h3 h4 h5
    go_wp2
    go_ret
    have e : okW b d t k = allW b (d - 1) t (k + 1) l := by
      rw [Bool.eq_iff_iff]
      constructor
      · intro h
        exact allTo_of fun i hi => okW_kid HZ.out h (by rw [HL.out]; exact hi)
      · intro h
        exact okW_of HZ.out HSH.out (by omega) fun i hi => allTo_true h (by rw [← HL.out]; exact hi)
    refine ⟨k', ret_bool e.symm, fun h => ?_, HP.out.2.1, HP.out.2.2.1, HP.out.2.2.2.1, HP.out.2.2.2.2⟩
    rw [e] at h
    rw [HP.out.1 h, size_eq HZ.out, HL.out]
    omega
  · have hs0 : shapeW b t = false := by simpa using hs
    rw [okW_shape HZ.out hs0]
    have hs1 : ¬ ((l : Int) = kidsW (kd t) ∧ 0 ≤ nn t ∧ nn t ≤ mostW b (kd t)) := by
      have := of_decide_eq_false hs0
      rwa [HL.out] at this
    clear hs hs0 hmf
    generalize hkk : kd t = kk at *
    generalize hnk : nn t = nk at *
    clear hkk hnk
    by_cases h3 : (l : Int) = kidsW kk
    · have d3 : ((l : Int) != kidsW kk) = false := by simp [h3]
      by_cases h4 : nk < 0
      · have d4 : decide (nk < 0) = true := decide_eq_true h4
        clear h3 hs1 h4
        go_enter Try.func29, Try.ntmps29
        go_wp2
        go_quiet (first | (go_at_call 50; exact Calls.quiet_of_same (kids_impl _ _)) | (go_at_call 51; exact Calls.quiet_of_same (most_impl _ _ hb1 hb2 _)))
        go_wp2
        go_ret
        exact ⟨k + 1, rfl, fun h => (by cases h), by omega, by simpa using HE.out, by simp [go_sem, hset', hBl, hBl1, hBl2], (HO.out.then (by repeat (first | exact Below.refl _ _ | assumption | refine Below.drew ?_ | refine Below.alloc ?_ (by first | exact Nat.le_refl _ | omega | (simp; done) | (simp; omega)) _ | refine Below.setCell ?_ (by first | exact Nat.le_refl _ | omega | (simp; done) | (simp; omega)) _))).then (below_drewN _ _)⟩
      · have d4 : decide (nk < 0) = false := decide_eq_false h4
        have d5 : decide (mostW b kk < nk) = true := decide_eq_true (by omega)
        clear h3 hs1 h4
        go_enter Try.func29, Try.ntmps29
        go_wp2
        go_quiet (first | (go_at_call 50; exact Calls.quiet_of_same (kids_impl _ _)) | (go_at_call 51; exact Calls.quiet_of_same (most_impl _ _ hb1 hb2 _)))
        go_wp2
        go_ret
        exact ⟨k + 1, rfl, fun h => (by cases h), by omega, by simpa using HE.out, by simp [go_sem, hset', hBl, hBl1, hBl2], (HO.out.then (by repeat (first | exact Below.refl _ _ | assumption | refine Below.drew ?_ | refine Below.alloc ?_ (by first | exact Nat.le_refl _ | omega | (simp; done) | (simp; omega)) _ | refine Below.setCell ?_ (by first | exact Nat.le_refl _ | omega | (simp; done) | (simp; omega)) _))).then (below_drewN _ _)⟩
    · have d3 : ((l : Int) != kidsW kk) = true := by simp [h3]
      clear h3 hs1
      go_enter Try.func29, Try.ntmps29
      go_wp2
      go_quiet (first | (go_at_call 50; exact Calls.quiet_of_same (kids_impl _ _)) | (go_at_call 51; exact Calls.quiet_of_same (most_impl _ _ hb1 hb2 _)))
      go_wp2
      go_ret
      exact ⟨k + 1, rfl, fun h => (by cases h), by omega, by simpa using HE.out, by simp [go_sem, hset', hBl, hBl1, hBl2], (HO.out.then (by repeat (first | exact Below.refl _ _ | assumption | refine Below.drew ?_ | refine Below.alloc ?_ (by first | exact Nat.le_refl _ | omega | (simp; done) | (simp; omega)) _ | refine Below.setCell ?_ (by first | exact Nat.le_refl _ | omega | (simp; done) | (simp; omega)) _))).then (below_drewN _ _)⟩

/-- Whether a word is right, by whatever number of bits. -/
def wordB (d : Nat) (t : T) (bits : Int) : Bool := decide (1 ≤ bits ∧ bits ≤ 6) && okW bits.toNat d t 0

set_option maxHeartbeats 400000 in
theorem wordOK_impl (d : Nat) (t : T) (a : Option Addr) (l c : Nat) (bits : Int) (w : World) (hr : Rd (fun _ => True) 1048576 w d t a l) :
    Calls Try.prog 10 #[.agg #[.int .i64 (kd t), .int .i64 (nn t), .slice a l c], .int .i64 bits] w fun e w' => e = .returned (.bool (wordB d t bits)) ∧ Below w.heap.size w w' := by
  have HR := hid hr.old
  clear hr
  by_cases h : 1 ≤ bits ∧ bits ≤ 6
  · have e : wordB d t bits = okW bits.toNat d t 0 := by unfold wordB; rw [decide_eq_true h, Bool.true_and]
    rw [e]
    obtain ⟨n, rfl⟩ : ∃ n : Nat, bits = (n : Int) := ⟨bits.toNat, by omega⟩
    rw [Int.toNat_natCast]
    have d1 : decide ((n : Int) < 1) = false := decide_eq_false (by omega)
    have d2 : decide ((6 : Int) < (n : Int)) = false := decide_eq_false (by omega)
    go_enter Try.func10, Try.ntmps10
    go_wp2_with fail
    refine (isW n (by omega) (by omega) d t a l c 0 (w.heap.size + 1) _ ((HR.out.imp fun b hb => (by omega : b ≠ w.heap.size + 1)).below (by repeat (first | exact Below.refl _ _ | assumption | refine Below.drew ?_ | refine Below.alloc ?_ (by first | exact Nat.le_refl _ | omega | (simp; done) | (simp; omega)) _ | refine Below.setCell ?_ (by first | exact Nat.le_refl _ | omega | (simp; done) | (simp; omega)) _))) (by omega) ?_ ?_).mono ?_
    · simp [go_sem]
    · simp [go_sem]
    rintro e w1 ⟨k', rfl, h1, h2, h3, h4, h5⟩
    have HB := hid ((show Below w.heap.size w _ from (by repeat (first | exact Below.refl _ _ | assumption | refine Below.drew ?_ | refine Below.alloc ?_ (by first | exact Nat.le_refl _ | omega | (simp; done) | (simp; omega)) _ | refine Below.setCell ?_ (by first | exact Nat.le_refl _ | omega | (simp; done) | (simp; omega)) _))).trans (h5.below (N := w.heap.size) (by simp; omega) (by omega)))
    clear h1 h2 h3 h4 h5
    go_wp2
    go_ret
    exact ⟨rfl, HB.out⟩
  · have e : wordB d t bits = false := by unfold wordB; rw [decide_eq_false h, Bool.false_and]
    rw [e]
    by_cases h1 : bits < 1
    · have d1 : decide (bits < 1) = true := decide_eq_true h1
      go_enter Try.func10, Try.ntmps10
      go_wp2
      go_ret
      exact ⟨rfl, (by repeat (first | exact Below.refl _ _ | assumption | refine Below.drew ?_ | refine Below.alloc ?_ (by first | exact Nat.le_refl _ | omega | (simp; done) | (simp; omega)) _ | refine Below.setCell ?_ (by first | exact Nat.le_refl _ | omega | (simp; done) | (simp; omega)) _))⟩
    · have d1 : decide (bits < 1) = false := decide_eq_false h1
      have d2 : decide (6 < bits) = true := decide_eq_true (by omega)
      go_enter Try.func10, Try.ntmps10
      go_wp2
      go_ret
      exact ⟨rfl, (by repeat (first | exact Below.refl _ _ | assumption | refine Below.drew ?_ | refine Below.alloc ?_ (by first | exact Nat.le_refl _ | omega | (simp; done) | (simp; omega)) _ | refine Below.setCell ?_ (by first | exact Nat.le_refl _ | omega | (simp; done) | (simp; omega)) _))⟩
end Go.Proofs.Ytikdadpapdkfiaa.wordIs
