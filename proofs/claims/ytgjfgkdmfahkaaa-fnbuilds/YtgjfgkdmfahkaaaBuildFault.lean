/- The first fault of a list of expressions, of the program; conditions: lengths that fit. -/
import Derived.Test.YtgjfgkdmfahkaaaBuildList
import Derived.Test.YtgjfgkdmfahkaaaTreeImpl
import Derived.Test.YtgjfgkdmfahkaaaTreeVars
namespace Go.Proofs.Ytgjfgkdmfahkaaa.buildFault
open Go.RowKit Go.Deep Go base trees treeEval treeVars treeImpl buildSem buildTree buildList
set_option linter.unusedVariables false

set_option maxHeartbeats 1600000 in
theorem fault_impl (d : Nat) (t : T) (a : Option Addr) (l c m : Nat) (w : World) (hr : Rd (fun _ => True) 1048576 w d t a l) :
    Calls Try.prog 18 #[.int .i64 (m : Int), .slice a l c] w fun e w' => e = .returned (.int .i64 (faultL m d t l)) ∧ Below w.heap.size w w' := by
  have hm0 := hr.most
  have HR := hid hr
  clear hr
  go_enter Try.func18, Try.ntmps18
  go_wp2
  go_loopw [9] (fun i wr => ∃ k : Nat, k ≤ l ∧ i = .int .i64 k ∧ faultL m d t k = 0 ∧ Below w.heap.size w wr) (fun i _ => l - (intOf i).toNat)
  case atStart => exact ⟨0, Nat.zero_le _, rfl, rfl, Below.refl _ _⟩
  case round =>
    obtain ⟨k, hk, rfl, hfl, hbel⟩ := hrel
    have HF := hid hfl
    have HB := hid hbel
    have HRd := hid (HR.out.below hbel)
    clear hfl hbel
    by_cases hlt : k < l
    · obtain ⟨hd0, b, off, rfl, -, y0, y1, a', l', c', y2, hx⟩ := HRd.out.cell hlt
      have HX := hid hx
      have HNext := hid (fault_next (n := (m : Int)) HF.out)
      have HStop := hid (fun h => fault_stop (n := (m : Int)) hlt HF.out h)
      have HFA : Hid (faultAt m d t k = if okB (d - 1) (kid t k) 1 0 = false then 1 else if (m : Int) ≤ mostV (d - 1) (kid t k) then 5 else 0) := hid rfl
      have HX1 := hid (exOK_impl (d - 1) (kid t k) a' l' c')
      have HX2 := hid (hasE (d - 1) (kid t k) a' l' c' m)
      have hbr := World.block_lt_of_cell? _ _ y0
      have HA1 : Hid (Below wr.heap.size wr (wr.alloc (.cells #[.int .i64 (kd (kid t k)), .int .i64 (nn (kid t k)), .slice a' l' c'] 25))) := hid (by repeat (first | exact Below.refl _ _ | assumption | refine Below.drew ?_ | refine Below.alloc ?_ (by first | exact Nat.le_refl _ | omega | (simp; done) | (simp; omega)) _ | refine Below.setCell ?_ (by first | exact Nat.le_refl _ | omega | (simp; done) | (simp; omega)) _))
      obtain ⟨ok, hok⟩ : ∃ b, okB (d - 1) (kid t k) 1 0 = b := ⟨_, rfl⟩
      have HOK := hid hok
      rw [hok] at HFA HX1
      generalize mostV (d - 1) (kid t k) = mv at *
      have HX0 := hid (HX.out.below HA1.out)
      clear hx hok
      go_wp2_with fail
      refine (HX1.out _ HX0.out).mono ?_
      rintro e w2 ⟨rfl, hb2⟩
      have hb02 : Below wr.heap.size wr w2 := HA1.out.trans (hb2.mono HA1.out.size)
      have v0 : w2.cell? ⟨wr.heap.size, 0, none⟩ = some (.int .i64 (kd (kid t k))) := keep hb2 (by simp [go_sem])
      have v1 : w2.cell? ⟨wr.heap.size, 1, none⟩ = some (.int .i64 (nn (kid t k))) := keep hb2 (by simp [go_sem])
      have v2 : w2.cell? ⟨wr.heap.size, 2, none⟩ = some (.slice a' l' c') := keep hb2 (by simp [go_sem])
      have HB2 := hid (HB.out.trans (hb02.mono HB.out.size))
      have HXR := hid (HX.out.below hb02)
      clear hb2 hb02 y0 y1 y2
      cases ok with
      | false =>
        have HFA1 : Hid (faultAt m d t k = 1) := hid (by rw [HFA.out]; rfl)
        have HCC := hid (HStop.out (by rw [HFA1.out]; decide))
        rw [HFA1.out] at HCC
        go_wp2
        go_ret
        exact ⟨ret_int HCC.out.symm, HB2.out⟩
      | true =>
      have HRt := hid ((okB_iff.1 HOK.out).2.2)
      go_wp2_with fail
      refine (HX2.out _ HXR.out HRt.out).mono ?_
      rintro e w3 ⟨rfl, hb3⟩
      have HB3 := hid (HB2.out.trans (hb3.mono HB2.out.size))
      clear hb3
      by_cases hmv : (m : Int) ≤ mv
      · have em : decide ((m : Int) ≤ mv) = true := decide_eq_true hmv
        have HFA1 : Hid (faultAt m d t k = 5) := hid (by rw [HFA.out, if_neg (by simp), if_pos hmv])
        have HCC := hid (HStop.out (by rw [HFA1.out]; decide))
        rw [HFA1.out] at HCC
        clear hmv
        go_wp2
        go_ret
        exact ⟨ret_int HCC.out.symm, HB3.out⟩
      · have em : decide ((m : Int) ≤ mv) = false := decide_eq_false hmv
        have HFA1 : Hid (faultL m d t (k + 1) = 0) := hid (by rw [HNext.out, HFA.out, if_neg (by simp), if_neg hmv])
        clear hmv
        go_wp2
        go_roundw
        case rel => exact ⟨k + 1, by omega, by go_num, HFA1.out, HB3.out⟩
        case measure => simp [intOf]; omega
    · have ek : k = l := by omega
      subst ek
      go_wp2
      go_ret
      exact ⟨ret_int HF.out.symm, HB.out⟩
end Go.Proofs.Ytgjfgkdmfahkaaa.buildFault
