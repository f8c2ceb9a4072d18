/- Of the program: whether a router could have a route of a Via at all; conditions: a right scene. -/
import Derived.Test.YtmipoghemfopaaaGreatSceneSem
namespace Go.Proofs.YtmipoghemfopaaaGreat.sceneOpen
open Go.RowKit Go.Deep Go base netSem routeRow nbSem candSem candImp hopSem intsOwn hopMake hopBetween sceneSem
set_option linter.unusedVariables false

set_option maxHeartbeats 3200000 in
theorem open_impl (sb b B : Nat) (F : Nat → Value) (p : Nat → Option Addr) (l c : Nat → Nat) (g : R) (o e : List Int) (x : R) (ea da : Option Addr) (el ec dl dc : Nat) (env : List Int) (ds : List Bool) (n r : Nat) (via : Int) (w : World) (h : Sc sb b B F p l c g o e x ea da el ec dl dc env ds w) (hu : ∀ i, i < l 1 → linkAt g i (g i 0) (g i 1) < 0) (hn : n ≤ 4) (hr : r < n) (hv0 : -3 ≤ via) (hv1 : via < n) :
    Calls Tryz.prog 66 #[.pointer (some ⟨sb, 0, none⟩), .int .i64 (r : Int), .int .i64 via] w fun e' w' => e' = .returned (.bool (openB g (l 1) o e env ds r via)) ∧ Sc sb b B F p l c g o e x ea da el ec dl dc env ds w' ∧ w.grownBy w' (some b) := by
  have HS := hid h
  have HU := hid hu
  obtain ⟨D, hD⟩ : ∃ D, openB g (l 1) o e env ds r via = D := ⟨_, rfl⟩
  have HD := hid hD
  rw [hD]
  clear hD h hu
  unfold openB at HD
  by_cases h3 : via = -3
  · subst h3
    rw [if_pos rfl] at HD
    have hD := HD.out.symm
    subst hD
    go_enter Tryz.func66, Tryz.ntmps66
    go_wp2
    go_ret
    exact ⟨rfl, HS.out, grown_refl _ _⟩
  rw [if_neg h3] at HD
  have e3 : (via == -3) = false := by simp [h3]
  by_cases h2 : via = -2
  · subst h2
    rw [if_pos rfl] at HD
    have s0 := HS.out.s0
    have q2 := HS.out.net 2 (by omega)
    rw [HS.out.f2] at q2
    have HO := hid HS.out.orig
    clear e3 h3
    go_enter Tryz.func66, Tryz.ntmps66
    go_wp2_with fail
    refine (contains_int _ _ _ o r _ HO.out).mono ?_
    rintro e' w1 ⟨rfl, hw⟩
    have hw := hw.symm
    subst hw
    rw [HD.out]
    go_wp2
    go_ret
    exact ⟨rfl, HS.out, grown_refl _ _⟩
  rw [if_neg h2] at HD
  have e2 : (via == -2) = false := by simp [h2]
  by_cases h1 : via = -1
  · subst h1
    rw [if_pos rfl] at HD
    clear e3 e2 h3 h2
    go_enter Tryz.func66, Tryz.ntmps66
    go_wp2_with fail
    refine (ann_impl sb b B F p l c g o e x ea da el ec dl dc env ds r _ HS.out).mono ?_
    rintro e' w1 ⟨rfl, hb1⟩
    have HS1 := hid (HS.out.below hb1)
    have HG1 := hid (grown_of_below hb1 (some b))
    clear hb1
    obtain ⟨A, hA⟩ : ∃ A, annA e env (r : Int) = A := ⟨_, rfl⟩
    rw [hA] at HD ⊢
    clear hA
    have hq := HD.out
    go_wp2
    go_ret
    exact ⟨by first | rfl | (rw [← HD.out]), HS1.out, HG1.out⟩
  rw [if_neg h1] at HD
  have e1 : (via == -1) = false := by simp [h1]
  obtain ⟨v, rfl⟩ : ∃ v : Nat, via = (v : Int) := ⟨via.toNat, by omega⟩
  rw [Int.toNat_natCast] at HD
  have hv4 : v < 4 := by omega
  have hr4 : r < 4 := by omega
  have HF := hid HS.out.fit
  have s0 := HS.out.s0
  clear h1 h2 h3
  go_enter Tryz.func66, Tryz.ntmps66
  go_wp2_with fail
  refine (hop_between b B F (p 1) (p 4) (l 1) (l 4) (c 1) (c 4) g x r v _ HS.out.ready HF.out HS.out.hB hr4 hv4).mono ?_
  rintro e' w1 ⟨rfl, V, F', hm, hg1⟩
  have HS1 := hid (HS.out.step hg1 (.inr ⟨V, F', hm⟩))
  have HG1 := hid hg1
  have hlk := (lk_first (g := g) (p := (r : Int)) (q := (v : Int)) (l 1) HU.out).1
  have hc0 : w1.cell? ⟨b, hopO r v, none⟩ = some (.int .i64 (linkAt g (l 1) (r : Int) (v : Int))) := by
    rw [hm.row.cell (i := hopO r v) (by unfold hopO; omega), (hm.hops r v hr4 hv4).1, ← hlk]
  have s2 := HS1.out.s2
  clear hg1 hm hlk s0
  have HLB := hid (firstAt_bounds (hit g (r : Int) (v : Int)) (l 1))
  unfold nbB at HD
  obtain ⟨L, hL⟩ : ∃ L, linkAt g (l 1) (r : Int) (v : Int) = L := ⟨_, rfl⟩
  have hLL : firstAt (hit g (r : Int) (v : Int)) (l 1) = L := hL
  rw [hLL] at HLB
  rw [hL] at HD hc0
  clear hL hLL
  have hld := HS1.out.ld
  have HLD := hid hld
  have HDn := hid HS1.out.downs
  clear hld
  generalize hopO r v = ho at *
  by_cases h0 : 0 ≤ L
  · obtain ⟨m, rfl⟩ : ∃ m : Nat, L = (m : Int) := ⟨L.toNat, by omega⟩
    have hm : m < dl := by have := HLB.out; have := HLD.out; omega
    obtain ⟨db, dof, hda, hc⟩ := HDn.out.cell m hm
    rw [Int.toNat_natCast] at HD
    generalize ds[m]?.getD false = dv at *
    have hD2 : (!dv) = D := by rw [← HD.out, decide_eq_true h0]; rfl
    have HD2 := hid hD2
    subst hda
    have g0 : ((m : Int) != -1) = true := by first | (simp; done) | (simp; omega)
    have hmi : (m : Int) < (dl : Int) := by omega
    clear h0 hD2
    go_wp2
    go_ret
    exact ⟨ret_bool HD2.out, HS1.out, HG1.out⟩
  · have hL1 : L = -1 := by have := HLB.out; omega
    subst hL1
    have hD2 : D = false := by rw [← HD.out]; rfl
    subst hD2
    clear h0
    go_wp2
    go_ret
    exact ⟨rfl, HS1.out, HG1.out⟩
end Go.Proofs.YtmipoghemfopaaaGreat.sceneOpen
