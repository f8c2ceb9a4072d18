/- ReadProof, of the program; conditions: errors.errorType as it is laid. -/
import Derived.Test.YtcgpjlpggbgdaaaGreatDoorFaultS
import Derived.BigQuiet
namespace Go.Proofs.YtcgpjlpggbgdaaaGreatDoor.readFace
open Go.RowKit Go.Deep base numbers words cuts stepRead readSem readSpecP spokenImpl stepsRead faultS asHit
set_option linter.unusedVariables false

set_option maxHeartbeats 800000 in
set_option maxRecDepth 8000 in
theorem do_read (N : Nat) (s : ByteArray) (m : Int) (w : World) (hc : w.cell? ⟨N, 0, none⟩ = some (.string s)) (hs : s.size ≤ 1048576) (hm : w.cell? ⟨1, 0, none⟩ = some (.int .i64 m)) :
    Calls Tryz.prog 21 #[.pointer (some ⟨N, 0, none⟩)] w fun e w' => Below w.heap.size w w' ∧ AnsP w.heap.size (readR s) e w' := by
  unfold readR
  by_cases hbig : 65536 < s.size
  · rw [if_pos hbig]
    have d0 : decide ((s.size : Int) ≤ 65536) = false := decide_eq_false (by omega)
    go_enter Tryz.func21, Tryz.ntmps21
    go_wp2_with fail
    refine (must_not 2 _).mono ?_
    rintro e w1 ⟨rfl, hw1⟩
    have hw1 := hw1.symm
    subst hw1
    go_wp2
    exact ⟨rfl, Below.refl _ _, rfl⟩
  · rw [if_neg hbig]
    have d0 : decide ((s.size : Int) ≤ 65536) = true := decide_eq_true (by omega)
    have HS := hid (steps_impl s m w (by omega) hm)
    obtain ⟨R, hR⟩ : ∃ q, readS (sp (cutL s.data.toList) 0) [] = q := ⟨_, rfl⟩
    rw [hR] at HS ⊢
    clear hR hm
    go_enter Tryz.func21, Tryz.ntmps21
    go_wp2_with fail
    refine (must_so 2 _).mono ?_
    rintro e w1 ⟨rfl, hw1⟩
    have hw1 := hw1.symm
    subst hw1
    go_wp2_with fail
    refine HS.out.mono ?_
    rintro e w2 ⟨hb2, hans⟩
    have HB2 := hid hb2
    clear hb2
    cases R with
    | error x =>
      obtain ⟨c, q⟩ := x
      have hans' : e = .panicked [{ v := .iface 40 (.agg #[.int .i64 c, .int .i64 q]), recovered := false }] := hans
      subst hans'
      clear hans
      go_wp2
      exact ⟨rfl, HB2.out, rfl⟩
    | ok ss =>
      obtain ⟨v, ps, rfl, ho, hl, hst⟩ := hans
      have HO := hid ho
      have HL := hid hl
      have HSt := hid hst
      clear ho hl hst
      go_wp2
      go_ret
      exact ⟨HB2.out, _, ps, rfl, HO.out, HL.out, HSt.out⟩
theorem answer (N : Nat) (s : ByteArray) (m : Int) (w : World) (hc : w.cell? ⟨N, 0, none⟩ = some (.string s)) (hs : s.size ≤ 1048576) (hm : w.cell? ⟨1, 0, none⟩ = some (.int .i64 m)) (he : ErrW w) :
    Calls Tryz.prog 20 #[.func (.func 21) #[] #[.pointer (some ⟨N, 0, none⟩)]] w fun e w' => ∃ v ps, e = .returned (.tuple #[v, .agg #[.int .i64 (codeR (readR s)), .int .i64 (placeR (readR s))]]) ∧ OwnSteps w.heap.size w' v ps ∧ Lone ps ∧ ps.map strip = stepsR (readR s) ∧ Below w.heap.size w w' := by
  have hcf : ∀ w, (callFunc 21 #[.pointer (some ⟨N, 0, none⟩)]).run Tryz.prog w = .ok (.enter 21 #[.pointer (some ⟨N, 0, none⟩)]) w := fun w => enters_of Tryz.func21 (by kernel_rfl) rfl _ w
  have hb0 : Below w.heap.size w (w.alloc (.cells #[.int .i64 0, .int .i64 0] 40)) := (Below.refl _ _).alloc (Nat.le_refl _) _
  have hz : (w.alloc (.cells #[.int .i64 0, .int .i64 0] 40)).heap.size = w.heap.size + 1 := by simp
  have hd := do_read N s m _ (keep hb0 hc) hs (keep hb0 hm)
  rw [hz] at hd
  cases hR : readR s with
  | error x =>
    obtain ⟨c, q⟩ := x
    rw [hR] at hd
    refine (answerOf_fault 21 _ c q w he hcf ?_).mono ?_
    · rintro w0 rfl
      refine hd.mono ?_
      rintro e w' ⟨hb, ha⟩
      exact ⟨ha, hb⟩
    · rintro e w' ⟨rfl, hb⟩
      exact ⟨_, [], rfl, ⟨World.ownsRow_nil _ _ _ _, (fun p hp => by cases hp)⟩, List.Pairwise.nil, rfl, hb⟩
  | ok ss =>
    rw [hR] at hd
    refine (answerOf_ret 21 _ ss w hcf ?_).mono ?_
    · rintro w0 rfl
      refine hd.mono ?_
      rintro e w' ⟨hb, v, ps, rfl, ho, hl, hst⟩
      exact ⟨v, ps, rfl, ho, hl, hst, hb⟩
    · rintro e w' ⟨v, ps, rfl, ho, hl, hst, hb⟩
      exact ⟨v, ps, rfl, ho.mono (Nat.le_succ _), hl, hst, hb⟩
set_option maxHeartbeats 800000 in
set_option maxRecDepth 8000 in
theorem rp_impl (s : ByteArray) (m : Int) (w : World) (hs : s.size ≤ 1048576) (hm : w.cell? ⟨1, 0, none⟩ = some (.int .i64 m)) (he : ErrW w) :
    Calls Tryz.prog 8 #[.string s] w fun e w' => ∃ v ps, e = .returned (.tuple #[v, .int .i64 (codeR (readR s)), .int .i64 (placeR (readR s))]) ∧ OwnSteps w.heap.size w' v ps ∧ Lone ps ∧ ps.map strip = stepsR (readR s) ∧ Below w.heap.size w w' := by
  have hmf : ∀ (fn : Fn) (first cap : Array Value) (w : World), (Instr.makeFunc fn first cap).run Tryz.prog w = .ok (.func fn first cap) w := fun _ _ _ _ => rfl
  have HM := hid hm
  have HE := hid he
  clear hm he
  have HA := hid (fun N w hc hm he => answer N s m w hc hs hm he)
  generalize codeR (readR s) = C at *
  generalize placeR (readR s) = Q at *
  generalize stepsR (readR s) = SS at *
  go_enter Tryz.func8, Tryz.ntmps8
  go_wp2_with fail
  refine (HA.out _ _ ?_ (keep (by repeat (first | exact Below.refl _ _ | assumption | refine Below.drew ?_ | refine Below.alloc ?_ (by first | exact Nat.le_refl _ | omega | (simp; done) | (simp; omega)) _ | refine Below.setCell ?_ (by first | exact Nat.le_refl _ | omega | (simp; done) | (simp; omega)) _)) HM.out) (HE.out.below (by repeat (first | exact Below.refl _ _ | assumption | refine Below.drew ?_ | refine Below.alloc ?_ (by first | exact Nat.le_refl _ | omega | (simp; done) | (simp; omega)) _ | refine Below.setCell ?_ (by first | exact Nat.le_refl _ | omega | (simp; done) | (simp; omega)) _)))).mono ?_
  · simp [go_sem]
  rintro e w1 ⟨v, ps, rfl, ho, hl, hst, hb1⟩
  have HO := hid (readSpecP.OwnSteps.mono ho (show w.heap.size ≤ _ by simp))
  have HL := hid hl
  have HSt := hid hst
  have HB := hid ((show Below w.heap.size w _ from (by repeat (first | exact Below.refl _ _ | assumption | refine Below.drew ?_ | refine Below.alloc ?_ (by first | exact Nat.le_refl _ | omega | (simp; done) | (simp; omega)) _ | refine Below.setCell ?_ (by first | exact Nat.le_refl _ | omega | (simp; done) | (simp; omega)) _))).trans (hb1.mono (by simp)))
  clear hb1 ho hl hst
  go_wp2
  go_region
  all_goals
    go_wp2
    refine bodyPost_ret (results_three rfl _ _ _) rfl ?_
    exact ⟨_, ps, rfl, HO.out.below (by repeat (first | exact Below.refl _ _ | assumption | refine Below.drew ?_ | refine Below.alloc ?_ (by first | exact Nat.le_refl _ | omega | (simp; done) | (simp; omega)) _ | refine Below.setCell ?_ (by first | exact Nat.le_refl _ | omega | (simp; done) | (simp; omega)) _)), HL.out, HSt.out, Below.drew (Below.alloc HB.out HB.out.size _)⟩
end Go.Proofs.YtcgpjlpggbgdaaaGreatDoor.readFace
