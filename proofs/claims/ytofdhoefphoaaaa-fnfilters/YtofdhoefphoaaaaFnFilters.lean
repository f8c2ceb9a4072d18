/- For all two drawn networks the expressions of their filters tell the same of each port up to the first one that FilterApart answers, and FilterEx and FilterApart answer as their specification; conditions: none. -/
import Derived.Test.YtofdhoefphoaaaaFiltNet
import Derived.Test.YtofdhoefphoaaaaFiltMath
import Derived.Test.YtofdhoefphoaaaaFexFace
import Derived.Test.YtofdhoefphoaaaaApartSpec
import Derived.Test.YtofdhoefphoaaaaApartImpl
import Derived.Test.YtofdhoefphoaaaaTreeVars
import Derived.Test.YtofdhoefphoaaaaArgs
namespace Go.Proofs.Ytofdhoefphoaaaa.fnFilters
open Go.ChangeShapes Go.WideShapes Go.ChangeAt Go.RowKit Go.Deep Go.Joins Go base copy names netSem args trees built heldStore ownTree rowsImpl treeEval treeVars values filtSem apartSem apartSpec apartImpl fexSem fexImpl fexSpec fexFace filtOf filtNet filtMath
set_option linter.unusedVariables false

/-- A drawn network, told by what the laws need of it. -/
theorem drawn_net (a : Option Addr) (len cap : Nat) (w : World) (hb : Bytes w a len) (hl : len ≤ 1048576) :
    Calls Try.prog 4 #[.slice a len cap] w fun e' w' => ∃ (p : Nat → Option Addr) (l c : Nat → Nat) (s : Ss) (g : R) (o e : List Int) (x f : R), e' = .returned (netV p l c) ∧ NetIs w' p l s g o e x f ∧ netB l s g o e x f = true ∧ (l 0 ≤ c 0 ∧ l 1 ≤ c 1) ∧ l 0 = 2 ∧ (∀ j, j < l 5 → (0 ≤ f j 2 ∧ f j 2 < 16) ∧ 0 ≤ f j 3 ∧ f j 3 < 16) ∧ Below w.heap.size w w' := by
  refine (filteredOf_spec a len cap w (fun i hi => hb i hi) hl).mono ?_
  rintro e' w' ⟨R, k, va, vc, f, rfl, hk, hf, hn, hbel⟩
  refine ⟨_, _, _, _, _, _, _, _, _, rfl, hn, net_right hk hf, ⟨Nat.le_refl _, Nat.le_refl _⟩, rfl, fun j hj => ?_, hbel⟩
  have h1 := hf j hj
  have e2 : fF f j 2 = (f j).1 := rfl
  have e3 : fF f j 3 = (f j).2 := rfl
  rw [e2, e3]
  omega
/-- What the expression of a right network's filters tells of a port. -/
theorem told {f : R} {k : Nat} (hf : ∀ j, j < k → (0 ≤ f j 2 ∧ f j 2 < 16) ∧ 0 ≤ f j 3 ∧ f j 3 < 16) (i : Nat) (hi : i < 16) (hok : okB (19 + k) (fexT f 0 1 k) 1 0 = true) : evB (19 + k) (fexT f 0 1 k) 4 (valsOf i 4) = filt f k 0 1 i := by
  obtain ⟨h1, h2⟩ := tells_fex f 0 1 i hi k hf (19 + k) (Nat.le_refl _)
  have hc : evC (19 + k) (fexT f 0 1 k) 4 = 0 := by
    unfold evC
    rw [if_neg (by decide), hok, if_neg (by decide), if_neg (by show ¬ ((4 : Nat) : Int) ≤ _; omega)]
  unfold evB
  rw [if_pos hc]
  exact h1
theorem ans_code (ok : Bool) : ansC ok = 0 ∧ ok = true ∨ ansC ok = 11 ∧ ok = false := by cases ok <;> simp [ansC]
theorem fx_both {ok i1 i2 : Bool} (h : ok = true) (h1 : i1 = true) (h2 : i2 = true) (Dp : Nat) (t : T) : fxC ok (i1 && i2) Dp t = ansC (okB Dp t 1 0) ∧ fxA ok (i1 && i2) Dp t = ansT (okB Dp t 1 0) t := by
  subst h h1 h2
  exact ⟨rfl, rfl⟩

set_option maxHeartbeats 6400000 in
set_option maxRecDepth 8000 in
theorem walk (aC aM : Option Addr) (lC cC lM cM : Nat) (w : World) (hC : Bytes w aC lC) (hM : Bytes w aM lM) (hlC : lC ≤ maxLen) (hlM : lM ≤ maxLen) :
    Calls Try.prog 3 #[.slice aC lC cC, .slice aM lM cM] w fun e w' => e = .returned (.bool true) ∧ Below w.heap.size w w' := by
  have HC := hid hC
  have HM := hid hM
  unfold maxLen at hlC hlM
  clear hC hM
  by_cases h1 : 1048576 < lC
  · have i1 : decide ((1048576 : Int) < (lC : Int)) = true := decide_eq_true (by omega)
    go_enter Try.func3, Try.ntmps3
    go_wp2
    go_ret
    exact ⟨rfl, (by repeat (first | exact Below.refl _ _ | assumption | refine Below.drew ?_ | refine Below.alloc ?_ (by first | exact Nat.le_refl _ | omega | (simp; done) | (simp; omega)) _ | refine Below.setCell ?_ (by first | exact Nat.le_refl _ | omega | (simp; done) | (simp; omega)) _))⟩
  have i1 : decide ((1048576 : Int) < (lC : Int)) = false := decide_eq_false (by omega)
  by_cases h2 : 1048576 < lM
  · have i2 : decide ((1048576 : Int) < (lM : Int)) = true := decide_eq_true (by omega)
    go_enter Try.func3, Try.ntmps3
    go_wp2
    go_ret
    exact ⟨rfl, (by repeat (first | exact Below.refl _ _ | assumption | refine Below.drew ?_ | refine Below.alloc ?_ (by first | exact Nat.le_refl _ | omega | (simp; done) | (simp; omega)) _ | refine Below.setCell ?_ (by first | exact Nat.le_refl _ | omega | (simp; done) | (simp; omega)) _))⟩
  have i2 : decide ((1048576 : Int) < (lM : Int)) = false := decide_eq_false (by omega)
  go_enter Try.func3, Try.ntmps3
  go_wp2_with fail
  refine (drawn_net aC lC cC _ HC.out (by omega)).mono ?_
  rintro e' w1 ⟨p, l, c, s, g, o, e, x, f, rfl, hn, hnr, hnc, hn2, hnf, hb⟩
  have HN1 := hid hn
  have HNr := hid hnr
  have HNc := hid hnc
  have HN2 := hid hn2
  have HNf := hid hnf
  have HB1 := hid hb
  clear hn hnr hnc hn2 hnf hb
  unfold netV
  go_wp2_with fail
  have HA1 : Hid (Below w1.heap.size w1 (w1.alloc (.cells #[.slice (p 0) (l 0) (c 0), .slice (p 1) (l 1) (c 1), .slice (p 2) (l 2) (c 2), .slice (p 3) (l 3) (c 3), .slice (p 4) (l 4) (c 4), .slice (p 5) (l 5) (c 5)] 29))) := (by repeat (first | exact Below.refl _ _ | assumption | refine Below.drew ?_ | refine Below.alloc ?_ (by first | exact Nat.le_refl _ | omega | (simp; done) | (simp; omega)) _ | refine Below.setCell ?_ (by first | exact Nat.le_refl _ | omega | (simp; done) | (simp; omega)) _))
  have hcn : (w1.alloc (.cells #[.slice (p 0) (l 0) (c 0), .slice (p 1) (l 1) (c 1), .slice (p 2) (l 2) (c 2), .slice (p 3) (l 3) (c 3), .slice (p 4) (l 4) (c 4), .slice (p 5) (l 5) (c 5)] 29)).cell? ⟨w1.heap.size, 0, none⟩ = some (.slice (p 0) (l 0) (c 0)) ∧ (w1.alloc (.cells #[.slice (p 0) (l 0) (c 0), .slice (p 1) (l 1) (c 1), .slice (p 2) (l 2) (c 2), .slice (p 3) (l 3) (c 3), .slice (p 4) (l 4) (c 4), .slice (p 5) (l 5) (c 5)] 29)).cell? ⟨w1.heap.size, 1, none⟩ = some (.slice (p 1) (l 1) (c 1)) ∧ (w1.alloc (.cells #[.slice (p 0) (l 0) (c 0), .slice (p 1) (l 1) (c 1), .slice (p 2) (l 2) (c 2), .slice (p 3) (l 3) (c 3), .slice (p 4) (l 4) (c 4), .slice (p 5) (l 5) (c 5)] 29)).cell? ⟨w1.heap.size, 2, none⟩ = some (.slice (p 2) (l 2) (c 2)) ∧ (w1.alloc (.cells #[.slice (p 0) (l 0) (c 0), .slice (p 1) (l 1) (c 1), .slice (p 2) (l 2) (c 2), .slice (p 3) (l 3) (c 3), .slice (p 4) (l 4) (c 4), .slice (p 5) (l 5) (c 5)] 29)).cell? ⟨w1.heap.size, 3, none⟩ = some (.slice (p 3) (l 3) (c 3)) ∧ (w1.alloc (.cells #[.slice (p 0) (l 0) (c 0), .slice (p 1) (l 1) (c 1), .slice (p 2) (l 2) (c 2), .slice (p 3) (l 3) (c 3), .slice (p 4) (l 4) (c 4), .slice (p 5) (l 5) (c 5)] 29)).cell? ⟨w1.heap.size, 4, none⟩ = some (.slice (p 4) (l 4) (c 4)) ∧ (w1.alloc (.cells #[.slice (p 0) (l 0) (c 0), .slice (p 1) (l 1) (c 1), .slice (p 2) (l 2) (c 2), .slice (p 3) (l 3) (c 3), .slice (p 4) (l 4) (c 4), .slice (p 5) (l 5) (c 5)] 29)).cell? ⟨w1.heap.size, 5, none⟩ = some (.slice (p 5) (l 5) (c 5)) := by refine ⟨?_, ?_, ?_, ?_, ?_, ?_⟩ <;> simp [go_sem]
  have hzn : w1.heap.size < (w1.alloc (.cells #[.slice (p 0) (l 0) (c 0), .slice (p 1) (l 1) (c 1), .slice (p 2) (l 2) (c 2), .slice (p 3) (l 3) (c 3), .slice (p 4) (l 4) (c 4), .slice (p 5) (l 5) (c 5)] 29)).heap.size := by simp
  generalize w1.alloc (.cells #[.slice (p 0) (l 0) (c 0), .slice (p 1) (l 1) (c 1), .slice (p 2) (l 2) (c 2), .slice (p 3) (l 3) (c 3), .slice (p 4) (l 4) (c 4), .slice (p 5) (l 5) (c 5)] 29) = w2 at *
  have HB2 := hid (HB1.out.trans (HA1.out.mono HB1.out.size))
  refine (drawn_net aM lM cM _ (HM.out.below HB2.out) (by omega)).mono ?_
  rintro e' w3 ⟨pp, ll, cc, ss, gg, oo, ee, xx, ff, rfl, hm, hmr, hmc, hm2, hmf, hb⟩
  have HM3 := hid hm
  have HMr := hid hmr
  have HMc := hid hmc
  have HM2 := hid hm2
  have HMf := hid hmf
  have HCn3 : Hid (w3.cell? ⟨w1.heap.size, 0, none⟩ = some (.slice (p 0) (l 0) (c 0)) ∧ w3.cell? ⟨w1.heap.size, 1, none⟩ = some (.slice (p 1) (l 1) (c 1)) ∧ w3.cell? ⟨w1.heap.size, 2, none⟩ = some (.slice (p 2) (l 2) (c 2)) ∧ w3.cell? ⟨w1.heap.size, 3, none⟩ = some (.slice (p 3) (l 3) (c 3)) ∧ w3.cell? ⟨w1.heap.size, 4, none⟩ = some (.slice (p 4) (l 4) (c 4)) ∧ w3.cell? ⟨w1.heap.size, 5, none⟩ = some (.slice (p 5) (l 5) (c 5))) := ⟨keep hb hcn.1, keep hb hcn.2.1, keep hb hcn.2.2.1, keep hb hcn.2.2.2.1, keep hb hcn.2.2.2.2.1, keep hb hcn.2.2.2.2.2⟩
  have HN3 := hid ((HN1.out.below HA1.out).below hb)
  have HB3 := hid (HB2.out.trans (hb.mono HB2.out.size))
  have hz3 : w1.heap.size < w3.heap.size := Nat.lt_of_lt_of_le hzn hb.size
  clear hm hmr hmc hm2 hmf hb hcn hzn HA1 HN1
  unfold netV
  obtain ⟨q0, q1, q2, q3, q4, q5⟩ := HCn3.out
  go_wp2_with fail
  have HA3 : Hid (Below w3.heap.size w3 (w3.alloc (.cells #[.slice (pp 0) (ll 0) (cc 0), .slice (pp 1) (ll 1) (cc 1), .slice (pp 2) (ll 2) (cc 2), .slice (pp 3) (ll 3) (cc 3), .slice (pp 4) (ll 4) (cc 4), .slice (pp 5) (ll 5) (cc 5)] 29))) := (by repeat (first | exact Below.refl _ _ | assumption | refine Below.drew ?_ | refine Below.alloc ?_ (by first | exact Nat.le_refl _ | omega | (simp; done) | (simp; omega)) _ | refine Below.setCell ?_ (by first | exact Nat.le_refl _ | omega | (simp; done) | (simp; omega)) _))
  have hcm : (w3.alloc (.cells #[.slice (pp 0) (ll 0) (cc 0), .slice (pp 1) (ll 1) (cc 1), .slice (pp 2) (ll 2) (cc 2), .slice (pp 3) (ll 3) (cc 3), .slice (pp 4) (ll 4) (cc 4), .slice (pp 5) (ll 5) (cc 5)] 29)).cell? ⟨w3.heap.size, 0, none⟩ = some (.slice (pp 0) (ll 0) (cc 0)) ∧ (w3.alloc (.cells #[.slice (pp 0) (ll 0) (cc 0), .slice (pp 1) (ll 1) (cc 1), .slice (pp 2) (ll 2) (cc 2), .slice (pp 3) (ll 3) (cc 3), .slice (pp 4) (ll 4) (cc 4), .slice (pp 5) (ll 5) (cc 5)] 29)).cell? ⟨w3.heap.size, 1, none⟩ = some (.slice (pp 1) (ll 1) (cc 1)) ∧ (w3.alloc (.cells #[.slice (pp 0) (ll 0) (cc 0), .slice (pp 1) (ll 1) (cc 1), .slice (pp 2) (ll 2) (cc 2), .slice (pp 3) (ll 3) (cc 3), .slice (pp 4) (ll 4) (cc 4), .slice (pp 5) (ll 5) (cc 5)] 29)).cell? ⟨w3.heap.size, 2, none⟩ = some (.slice (pp 2) (ll 2) (cc 2)) ∧ (w3.alloc (.cells #[.slice (pp 0) (ll 0) (cc 0), .slice (pp 1) (ll 1) (cc 1), .slice (pp 2) (ll 2) (cc 2), .slice (pp 3) (ll 3) (cc 3), .slice (pp 4) (ll 4) (cc 4), .slice (pp 5) (ll 5) (cc 5)] 29)).cell? ⟨w3.heap.size, 3, none⟩ = some (.slice (pp 3) (ll 3) (cc 3)) ∧ (w3.alloc (.cells #[.slice (pp 0) (ll 0) (cc 0), .slice (pp 1) (ll 1) (cc 1), .slice (pp 2) (ll 2) (cc 2), .slice (pp 3) (ll 3) (cc 3), .slice (pp 4) (ll 4) (cc 4), .slice (pp 5) (ll 5) (cc 5)] 29)).cell? ⟨w3.heap.size, 4, none⟩ = some (.slice (pp 4) (ll 4) (cc 4)) ∧ (w3.alloc (.cells #[.slice (pp 0) (ll 0) (cc 0), .slice (pp 1) (ll 1) (cc 1), .slice (pp 2) (ll 2) (cc 2), .slice (pp 3) (ll 3) (cc 3), .slice (pp 4) (ll 4) (cc 4), .slice (pp 5) (ll 5) (cc 5)] 29)).cell? ⟨w3.heap.size, 5, none⟩ = some (.slice (pp 5) (ll 5) (cc 5)) := by refine ⟨?_, ?_, ?_, ?_, ?_, ?_⟩ <;> simp [go_sem]
  have HC4 : Hid (((w3.alloc (.cells #[.slice (pp 0) (ll 0) (cc 0), .slice (pp 1) (ll 1) (cc 1), .slice (pp 2) (ll 2) (cc 2), .slice (pp 3) (ll 3) (cc 3), .slice (pp 4) (ll 4) (cc 4), .slice (pp 5) (ll 5) (cc 5)] 29)).cell? ⟨w1.heap.size, 0, none⟩ = some (.slice (p 0) (l 0) (c 0)) ∧ (w3.alloc (.cells #[.slice (pp 0) (ll 0) (cc 0), .slice (pp 1) (ll 1) (cc 1), .slice (pp 2) (ll 2) (cc 2), .slice (pp 3) (ll 3) (cc 3), .slice (pp 4) (ll 4) (cc 4), .slice (pp 5) (ll 5) (cc 5)] 29)).cell? ⟨w1.heap.size, 1, none⟩ = some (.slice (p 1) (l 1) (c 1)) ∧ (w3.alloc (.cells #[.slice (pp 0) (ll 0) (cc 0), .slice (pp 1) (ll 1) (cc 1), .slice (pp 2) (ll 2) (cc 2), .slice (pp 3) (ll 3) (cc 3), .slice (pp 4) (ll 4) (cc 4), .slice (pp 5) (ll 5) (cc 5)] 29)).cell? ⟨w1.heap.size, 2, none⟩ = some (.slice (p 2) (l 2) (c 2)) ∧ (w3.alloc (.cells #[.slice (pp 0) (ll 0) (cc 0), .slice (pp 1) (ll 1) (cc 1), .slice (pp 2) (ll 2) (cc 2), .slice (pp 3) (ll 3) (cc 3), .slice (pp 4) (ll 4) (cc 4), .slice (pp 5) (ll 5) (cc 5)] 29)).cell? ⟨w1.heap.size, 3, none⟩ = some (.slice (p 3) (l 3) (c 3)) ∧ (w3.alloc (.cells #[.slice (pp 0) (ll 0) (cc 0), .slice (pp 1) (ll 1) (cc 1), .slice (pp 2) (ll 2) (cc 2), .slice (pp 3) (ll 3) (cc 3), .slice (pp 4) (ll 4) (cc 4), .slice (pp 5) (ll 5) (cc 5)] 29)).cell? ⟨w1.heap.size, 4, none⟩ = some (.slice (p 4) (l 4) (c 4)) ∧ (w3.alloc (.cells #[.slice (pp 0) (ll 0) (cc 0), .slice (pp 1) (ll 1) (cc 1), .slice (pp 2) (ll 2) (cc 2), .slice (pp 3) (ll 3) (cc 3), .slice (pp 4) (ll 4) (cc 4), .slice (pp 5) (ll 5) (cc 5)] 29)).cell? ⟨w1.heap.size, 5, none⟩ = some (.slice (p 5) (l 5) (c 5))) ∧ ((w3.alloc (.cells #[.slice (pp 0) (ll 0) (cc 0), .slice (pp 1) (ll 1) (cc 1), .slice (pp 2) (ll 2) (cc 2), .slice (pp 3) (ll 3) (cc 3), .slice (pp 4) (ll 4) (cc 4), .slice (pp 5) (ll 5) (cc 5)] 29)).cell? ⟨w3.heap.size, 0, none⟩ = some (.slice (pp 0) (ll 0) (cc 0)) ∧ (w3.alloc (.cells #[.slice (pp 0) (ll 0) (cc 0), .slice (pp 1) (ll 1) (cc 1), .slice (pp 2) (ll 2) (cc 2), .slice (pp 3) (ll 3) (cc 3), .slice (pp 4) (ll 4) (cc 4), .slice (pp 5) (ll 5) (cc 5)] 29)).cell? ⟨w3.heap.size, 1, none⟩ = some (.slice (pp 1) (ll 1) (cc 1)) ∧ (w3.alloc (.cells #[.slice (pp 0) (ll 0) (cc 0), .slice (pp 1) (ll 1) (cc 1), .slice (pp 2) (ll 2) (cc 2), .slice (pp 3) (ll 3) (cc 3), .slice (pp 4) (ll 4) (cc 4), .slice (pp 5) (ll 5) (cc 5)] 29)).cell? ⟨w3.heap.size, 2, none⟩ = some (.slice (pp 2) (ll 2) (cc 2)) ∧ (w3.alloc (.cells #[.slice (pp 0) (ll 0) (cc 0), .slice (pp 1) (ll 1) (cc 1), .slice (pp 2) (ll 2) (cc 2), .slice (pp 3) (ll 3) (cc 3), .slice (pp 4) (ll 4) (cc 4), .slice (pp 5) (ll 5) (cc 5)] 29)).cell? ⟨w3.heap.size, 3, none⟩ = some (.slice (pp 3) (ll 3) (cc 3)) ∧ (w3.alloc (.cells #[.slice (pp 0) (ll 0) (cc 0), .slice (pp 1) (ll 1) (cc 1), .slice (pp 2) (ll 2) (cc 2), .slice (pp 3) (ll 3) (cc 3), .slice (pp 4) (ll 4) (cc 4), .slice (pp 5) (ll 5) (cc 5)] 29)).cell? ⟨w3.heap.size, 4, none⟩ = some (.slice (pp 4) (ll 4) (cc 4)) ∧ (w3.alloc (.cells #[.slice (pp 0) (ll 0) (cc 0), .slice (pp 1) (ll 1) (cc 1), .slice (pp 2) (ll 2) (cc 2), .slice (pp 3) (ll 3) (cc 3), .slice (pp 4) (ll 4) (cc 4), .slice (pp 5) (ll 5) (cc 5)] 29)).cell? ⟨w3.heap.size, 5, none⟩ = some (.slice (pp 5) (ll 5) (cc 5))) ∧ NetIs (w3.alloc (.cells #[.slice (pp 0) (ll 0) (cc 0), .slice (pp 1) (ll 1) (cc 1), .slice (pp 2) (ll 2) (cc 2), .slice (pp 3) (ll 3) (cc 3), .slice (pp 4) (ll 4) (cc 4), .slice (pp 5) (ll 5) (cc 5)] 29)) p l s g o e x f ∧ NetIs (w3.alloc (.cells #[.slice (pp 0) (ll 0) (cc 0), .slice (pp 1) (ll 1) (cc 1), .slice (pp 2) (ll 2) (cc 2), .slice (pp 3) (ll 3) (cc 3), .slice (pp 4) (ll 4) (cc 4), .slice (pp 5) (ll 5) (cc 5)] 29)) pp ll ss gg oo ee xx ff ∧ Below w.heap.size w (w3.alloc (.cells #[.slice (pp 0) (ll 0) (cc 0), .slice (pp 1) (ll 1) (cc 1), .slice (pp 2) (ll 2) (cc 2), .slice (pp 3) (ll 3) (cc 3), .slice (pp 4) (ll 4) (cc 4), .slice (pp 5) (ll 5) (cc 5)] 29)) ∧ w1.heap.size < w3.heap.size ∧ w3.heap.size < (w3.alloc (.cells #[.slice (pp 0) (ll 0) (cc 0), .slice (pp 1) (ll 1) (cc 1), .slice (pp 2) (ll 2) (cc 2), .slice (pp 3) (ll 3) (cc 3), .slice (pp 4) (ll 4) (cc 4), .slice (pp 5) (ll 5) (cc 5)] 29)).heap.size) :=
    ⟨⟨keep HA3.out q0, keep HA3.out q1, keep HA3.out q2, keep HA3.out q3, keep HA3.out q4, keep HA3.out q5⟩, hcm, HN3.out.below HA3.out, HM3.out.below HA3.out, HB3.out.trans (HA3.out.mono HB3.out.size), hz3, by simp⟩
  clear q0 q1 q2 q3 q4 q5 hcm HCn3 HN3 HM3 HB3 hz3 HA3
  generalize w3.alloc (.cells #[.slice (pp 0) (ll 0) (cc 0), .slice (pp 1) (ll 1) (cc 1), .slice (pp 2) (ll 2) (cc 2), .slice (pp 3) (ll 3) (cc 3), .slice (pp 4) (ll 4) (cc 4), .slice (pp 5) (ll 5) (cc 5)] 29) = w4 at *
  have HK4 : Hid (∀ w8 : World, Below w4.heap.size w4 w8 → (w8.cell? ⟨w1.heap.size, 0, none⟩ = some (.slice (p 0) (l 0) (c 0)) ∧ w8.cell? ⟨w1.heap.size, 1, none⟩ = some (.slice (p 1) (l 1) (c 1)) ∧ w8.cell? ⟨w1.heap.size, 2, none⟩ = some (.slice (p 2) (l 2) (c 2)) ∧ w8.cell? ⟨w1.heap.size, 3, none⟩ = some (.slice (p 3) (l 3) (c 3)) ∧ w8.cell? ⟨w1.heap.size, 4, none⟩ = some (.slice (p 4) (l 4) (c 4)) ∧ w8.cell? ⟨w1.heap.size, 5, none⟩ = some (.slice (p 5) (l 5) (c 5))) ∧ (w8.cell? ⟨w3.heap.size, 0, none⟩ = some (.slice (pp 0) (ll 0) (cc 0)) ∧ w8.cell? ⟨w3.heap.size, 1, none⟩ = some (.slice (pp 1) (ll 1) (cc 1)) ∧ w8.cell? ⟨w3.heap.size, 2, none⟩ = some (.slice (pp 2) (ll 2) (cc 2)) ∧ w8.cell? ⟨w3.heap.size, 3, none⟩ = some (.slice (pp 3) (ll 3) (cc 3)) ∧ w8.cell? ⟨w3.heap.size, 4, none⟩ = some (.slice (pp 4) (ll 4) (cc 4)) ∧ w8.cell? ⟨w3.heap.size, 5, none⟩ = some (.slice (pp 5) (ll 5) (cc 5))) ∧ NetIs w8 p l s g o e x f ∧ NetIs w8 pp ll ss gg oo ee xx ff ∧ Below w.heap.size w w8 ∧ w1.heap.size < w8.heap.size ∧ w3.heap.size < w8.heap.size) := fun w8 h => by
    obtain ⟨⟨a0, a1, a2, a3, a4, a5⟩, ⟨b0, b1, b2, b3, b4, b5⟩, i1, i2, hB, z1, z2⟩ := HC4.out
    exact ⟨⟨keep h a0, keep h a1, keep h a2, keep h a3, keep h a4, keep h a5⟩, ⟨keep h b0, keep h b1, keep h b2, keep h b3, keep h b4, keep h b5⟩, i1.below h, i2.below h, hB.trans (h.mono hB.size), by have := h.size; omega, by have := h.size; omega⟩
  clear HC4
  have e1 : inB 0 0 ((l 0 : Int) - 1) = true := by rw [HN2.out]; decide
  have e2 : inB 1 0 ((l 0 : Int) - 1) = true := by rw [HN2.out]; decide
  have e3 : inB 0 0 ((ll 0 : Int) - 1) = true := by rw [HM2.out]; decide
  have e4 : inB 1 0 ((ll 0 : Int) - 1) = true := by rw [HM2.out]; decide
  obtain ⟨fc1, fa1⟩ := fx_both HNr.out e1 e2 (19 + l 5) (fexT f 0 1 (l 5))
  obtain ⟨fc2, fa2⟩ := fx_both HMr.out e3 e4 (19 + ll 5) (fexT ff 0 1 (ll 5))
  have HFN := hid (fun W h => fex_impl p l c s g o e x f 0 1 W h HNc.out.1 HNc.out.2)
  have HFS := hid (fun W h => fex_spec p l c s g o e x f 0 1 W h HNc.out.1 HNc.out.2)
  have HFM := hid (fun W h => fex_impl pp ll cc ss gg oo ee xx ff 0 1 W h HMc.out.1 HMc.out.2)
  rw [fc1, fa1] at HFN HFS
  rw [fc2, fa2] at HFM
  have HAI := hid (fun W h h' => apart_impl p l c s g o e x f pp ll cc ss gg oo ee xx ff 0 1 0 1 W h h' HNc.out.1 HNc.out.2 HMc.out.1 HMc.out.2)
  have HAS := hid (fun W h h' => apart_spec p l c s g o e x f pp ll cc ss gg oo ee xx ff 0 1 0 1 W h h' HNc.out.1 HNc.out.2 HMc.out.1 HMc.out.2)
  have hI : apI (l 0) (ll 0) 0 1 0 1 = true := by unfold apI; rw [e1, e2, e3, e4]; rfl
  obtain ⟨AP, hAP⟩ : ∃ q, apA f (l 5) 0 1 ff (ll 5) 0 1 = q := ⟨_, rfl⟩
  have HAP := hid hAP
  rw [HNr.out, HMr.out, hI, hAP] at HAI HAS
  have HX : Hid (∀ i, i < 16 → okB (19 + l 5) (fexT f 0 1 (l 5)) 1 0 = true → evB (19 + l 5) (fexT f 0 1 (l 5)) 4 (valsOf i 4) = filt f (l 5) 0 1 i) := fun i hi hok => told HNf.out i hi hok
  have HY : Hid (∀ i, i < 16 → okB (19 + ll 5) (fexT ff 0 1 (ll 5)) 1 0 = true → evB (19 + ll 5) (fexT ff 0 1 (ll 5)) 4 (valsOf i 4) = filt ff (ll 5) 0 1 i) := fun i hi hok => told HMf.out i hi hok
  have HApB : Hid (firstAt (fun i => filt f (l 5) 0 1 i != filt ff (ll 5) 0 1 i) 16 = AP) := hAP
  clear e1 e2 e3 e4 fc1 fa1 fc2 fa2 hI hAP HAP HNf HMf HNr HMr HN2 HM2
  obtain ⟨D1, hD1⟩ : ∃ d, 19 + l 5 = d := ⟨_, rfl⟩
  obtain ⟨D2, hD2⟩ : ∃ d, 19 + ll 5 = d := ⟨_, rfl⟩
  obtain ⟨t1, hT1⟩ : ∃ t, fexT f 0 1 (l 5) = t := ⟨_, rfl⟩
  obtain ⟨t2, hT2⟩ : ∃ t, fexT ff 0 1 (ll 5) = t := ⟨_, rfl⟩
  rw [hD1, hT1] at HFN HFS HX
  rw [hD2, hT2] at HFM HY
  obtain ⟨ok1, hO1⟩ : ∃ b, okB D1 t1 1 0 = b := ⟨_, rfl⟩
  obtain ⟨ok2, hO2⟩ : ∃ b, okB D2 t2 1 0 = b := ⟨_, rfl⟩
  rw [hO1] at HFN HFS HX
  rw [hO2] at HFM HY
  clear hD1 hD2 hT1 hT2 hO1 hO2
  obtain ⟨X1, hX1⟩ : ∃ q : Nat → Bool, (fun i : Nat => filt f (l 5) 0 1 i) = q := ⟨_, rfl⟩
  obtain ⟨X2, hX2⟩ : ∃ q : Nat → Bool, (fun i : Nat => filt ff (ll 5) 0 1 i) = q := ⟨_, rfl⟩
  have HX1 : Hid (∀ i, i < 16 → ok1 = true → evB D1 t1 4 (valsOf i 4) = X1 i) := fun i hi h => by rw [← hX1]; exact HX.out i hi h
  have HX2 : Hid (∀ i, i < 16 → ok2 = true → evB D2 t2 4 (valsOf i 4) = X2 i) := fun i hi h => by rw [← hX2]; exact HY.out i hi h
  have HAp : Hid (firstAt (fun i => X1 i != X2 i) 16 = AP) := by rw [← hX1, ← hX2]; exact HApB
  clear hX1 hX2 HX HY HApB
  obtain ⟨PO, hPO⟩ : ∃ q, apP (apC true true true AP) AP = q := ⟨_, rfl⟩
  obtain ⟨EC, hEC⟩ : ∃ q, apC true true true AP = q := ⟨_, rfl⟩
  have HPE : Hid (PO = (if EC = 0 then AP else 0) ∧ EC = (if AP < 0 then 6 else 0)) := by
    rw [← hPO, ← hEC]
    refine ⟨rfl, ?_⟩
    simp [apC]
  rw [hPO, hEC] at HAI HAS
  clear hPO hEC
  obtain ⟨tA, hTA⟩ : ∃ t, ansT ok1 t1 = t := ⟨_, rfl⟩
  obtain ⟨tB, hTB⟩ : ∃ t, ansT ok2 t2 = t := ⟨_, rfl⟩
  have HTA := hid hTA
  have HTB := hid hTB
  rw [hTA] at HFN HFS
  rw [hTB] at HFM
  clear hTA hTB
  obtain ⟨cA, hcA⟩ : ∃ q, ansC ok1 = q := ⟨_, rfl⟩
  obtain ⟨cB, hcB⟩ : ∃ q, ansC ok2 = q := ⟨_, rfl⟩
  have HcA := hid hcA
  have HcB := hid hcB
  rw [hcA] at HFN HFS
  rw [hcB] at HFM
  clear hcA hcB
  unfold netV at HFN HFS HFM HAI HAS
  obtain ⟨⟨q0, q1, q2, q3, q4, q5⟩, ⟨r0, r1, r2, r3, r4, r5⟩, hn, hm, hB, z1, z2⟩ := HK4.out w4 (Below.refl _ _)
  have NW := hid hn
  clear hn hm hB
  go_wp2_with fail
  refine (HFN.out _ NW.out).mono ?_
  rintro e' w5 ⟨aa, la, ca, rfl, hb5, ho5⟩
  have HR5 : Hid (Rd (fun _ => True) 1048576 w5 D1 tA aa la) := ho5.rd.imp fun _ _ => trivial
  have H5 := hid hb5
  clear hb5 ho5 q0 q1 q2 q3 q4 q5 r0 r1 r2 r3 r4 r5 NW z1 z2
  obtain ⟨⟨q0, q1, q2, q3, q4, q5⟩, ⟨r0, r1, r2, r3, r4, r5⟩, hn, hm, hB, z1, z2⟩ := HK4.out w5 H5.out
  have MW := hid hm
  clear hn hm hB
  go_wp2_with fail
  have HA5 : Hid (Below w5.heap.size w5 (w5.alloc (.cells #[.int .i64 (kd tA), .int .i64 (nn tA), .slice aa la ca] 33))) := (by repeat (first | exact Below.refl _ _ | assumption | refine Below.drew ?_ | refine Below.alloc ?_ (by first | exact Nat.le_refl _ | omega | (simp; done) | (simp; omega)) _ | refine Below.setCell ?_ (by first | exact Nat.le_refl _ | omega | (simp; done) | (simp; omega)) _))
  have hca : ((w5.alloc (.cells #[.int .i64 (kd tA), .int .i64 (nn tA), .slice aa la ca] 33)).cell? ⟨w5.heap.size, 0, none⟩ = some (.int .i64 (kd tA)) ∧ (w5.alloc (.cells #[.int .i64 (kd tA), .int .i64 (nn tA), .slice aa la ca] 33)).cell? ⟨w5.heap.size, 1, none⟩ = some (.int .i64 (nn tA)) ∧ (w5.alloc (.cells #[.int .i64 (kd tA), .int .i64 (nn tA), .slice aa la ca] 33)).cell? ⟨w5.heap.size, 2, none⟩ = some (.slice aa la ca)) := by refine ⟨?_, ?_, ?_⟩ <;> simp [go_sem]
  have hz5 : w5.heap.size < (w5.alloc (.cells #[.int .i64 (kd tA), .int .i64 (nn tA), .slice aa la ca] 33)).heap.size := by simp
  generalize w5.alloc (.cells #[.int .i64 (kd tA), .int .i64 (nn tA), .slice aa la ca] 33) = w6 at *
  have H6 := hid (H5.out.trans (HA5.out.mono H5.out.size))
  refine (HFM.out _ (MW.out.below HA5.out)).mono ?_
  rintro e' w7 ⟨ab, lb, cb, rfl, hb7, ho7⟩
  have HR7 : Hid (Rd (fun _ => True) 1048576 w7 D2 tB ab lb) := ho7.rd.imp fun _ _ => trivial
  have H7 := hid (H6.out.trans (hb7.mono H6.out.size))
  have HCa7 : Hid ((w7.cell? ⟨w5.heap.size, 0, none⟩ = some (.int .i64 (kd tA)) ∧ w7.cell? ⟨w5.heap.size, 1, none⟩ = some (.int .i64 (nn tA)) ∧ w7.cell? ⟨w5.heap.size, 2, none⟩ = some (.slice aa la ca))) := ⟨keep hb7 hca.1, keep hb7 hca.2.1, keep hb7 hca.2.2⟩
  have HRa7 := hid ((HR5.out.below HA5.out).below hb7)
  have hz7 : w5.heap.size < w7.heap.size := Nat.lt_of_lt_of_le hz5 hb7.size
  clear hb7 ho7 q0 q1 q2 q3 q4 q5 r0 r1 r2 r3 r4 r5 MW z1 z2 hca hz5 HA5 HR5
  obtain ⟨⟨q0, q1, q2, q3, q4, q5⟩, ⟨r0, r1, r2, r3, r4, r5⟩, hn, hm, hB, z1, z2⟩ := HK4.out w7 H7.out
  have NW := hid hn
  clear hn hm hB
  go_wp2_with fail
  have HA7 : Hid (Below w7.heap.size w7 (w7.alloc (.cells #[.int .i64 (kd tB), .int .i64 (nn tB), .slice ab lb cb] 33))) := (by repeat (first | exact Below.refl _ _ | assumption | refine Below.drew ?_ | refine Below.alloc ?_ (by first | exact Nat.le_refl _ | omega | (simp; done) | (simp; omega)) _ | refine Below.setCell ?_ (by first | exact Nat.le_refl _ | omega | (simp; done) | (simp; omega)) _))
  have hcb : ((w7.alloc (.cells #[.int .i64 (kd tB), .int .i64 (nn tB), .slice ab lb cb] 33)).cell? ⟨w7.heap.size, 0, none⟩ = some (.int .i64 (kd tB)) ∧ (w7.alloc (.cells #[.int .i64 (kd tB), .int .i64 (nn tB), .slice ab lb cb] 33)).cell? ⟨w7.heap.size, 1, none⟩ = some (.int .i64 (nn tB)) ∧ (w7.alloc (.cells #[.int .i64 (kd tB), .int .i64 (nn tB), .slice ab lb cb] 33)).cell? ⟨w7.heap.size, 2, none⟩ = some (.slice ab lb cb)) := by refine ⟨?_, ?_, ?_⟩ <;> simp [go_sem]
  have hz7b : w7.heap.size < (w7.alloc (.cells #[.int .i64 (kd tB), .int .i64 (nn tB), .slice ab lb cb] 33)).heap.size := by simp
  generalize w7.alloc (.cells #[.int .i64 (kd tB), .int .i64 (nn tB), .slice ab lb cb] 33) = w8 at *
  have H8 := hid (H7.out.trans (HA7.out.mono H7.out.size))
  have HK8 : Hid (∀ w9 : World, Below w8.heap.size w8 w9 → (w9.cell? ⟨w1.heap.size, 0, none⟩ = some (.slice (p 0) (l 0) (c 0)) ∧ w9.cell? ⟨w1.heap.size, 1, none⟩ = some (.slice (p 1) (l 1) (c 1)) ∧ w9.cell? ⟨w1.heap.size, 2, none⟩ = some (.slice (p 2) (l 2) (c 2)) ∧ w9.cell? ⟨w1.heap.size, 3, none⟩ = some (.slice (p 3) (l 3) (c 3)) ∧ w9.cell? ⟨w1.heap.size, 4, none⟩ = some (.slice (p 4) (l 4) (c 4)) ∧ w9.cell? ⟨w1.heap.size, 5, none⟩ = some (.slice (p 5) (l 5) (c 5))) ∧ (w9.cell? ⟨w3.heap.size, 0, none⟩ = some (.slice (pp 0) (ll 0) (cc 0)) ∧ w9.cell? ⟨w3.heap.size, 1, none⟩ = some (.slice (pp 1) (ll 1) (cc 1)) ∧ w9.cell? ⟨w3.heap.size, 2, none⟩ = some (.slice (pp 2) (ll 2) (cc 2)) ∧ w9.cell? ⟨w3.heap.size, 3, none⟩ = some (.slice (pp 3) (ll 3) (cc 3)) ∧ w9.cell? ⟨w3.heap.size, 4, none⟩ = some (.slice (pp 4) (ll 4) (cc 4)) ∧ w9.cell? ⟨w3.heap.size, 5, none⟩ = some (.slice (pp 5) (ll 5) (cc 5))) ∧ (w9.cell? ⟨w5.heap.size, 0, none⟩ = some (.int .i64 (kd tA)) ∧ w9.cell? ⟨w5.heap.size, 1, none⟩ = some (.int .i64 (nn tA)) ∧ w9.cell? ⟨w5.heap.size, 2, none⟩ = some (.slice aa la ca)) ∧ (w9.cell? ⟨w7.heap.size, 0, none⟩ = some (.int .i64 (kd tB)) ∧ w9.cell? ⟨w7.heap.size, 1, none⟩ = some (.int .i64 (nn tB)) ∧ w9.cell? ⟨w7.heap.size, 2, none⟩ = some (.slice ab lb cb)) ∧ NetIs w9 p l s g o e x f ∧ NetIs w9 pp ll ss gg oo ee xx ff ∧ Rd (fun _ => True) 1048576 w9 D1 tA aa la ∧ Rd (fun _ => True) 1048576 w9 D2 tB ab lb ∧ Below w.heap.size w w9 ∧ w1.heap.size < w9.heap.size ∧ w3.heap.size < w9.heap.size ∧ w5.heap.size < w9.heap.size ∧ w7.heap.size < w9.heap.size) := fun w9 h => by
    obtain ⟨cn, cm, hn, hm, hB, z1, z2⟩ := HK4.out w9 (H8.out.trans (h.mono H8.out.size))
    have hb79 := HA7.out.trans (h.mono HA7.out.size)
    exact ⟨cn, cm, ⟨keep hb79 HCa7.out.1, keep hb79 HCa7.out.2.1, keep hb79 HCa7.out.2.2⟩, ⟨keep h hcb.1, keep h hcb.2.1, keep h hcb.2.2⟩, hn, hm, HRa7.out.below hb79, HR7.out.below hb79, hB, z1, z2, Nat.lt_of_lt_of_le hz7 hb79.size, Nat.lt_of_lt_of_le hz7b h.size⟩
  refine (HFS.out _ (NW.out.below HA7.out)).mono ?_
  rintro e' w9 ⟨a9, l9, c9, rfl, hb9, hr9⟩
  have H9 := hid hb9
  clear hb9 hr9 q0 q1 q2 q3 q4 q5 r0 r1 r2 r3 r4 r5 NW z1 z2 hcb hz7 hz7b HA7 HR7 HRa7 HCa7
  obtain ⟨⟨q0, q1, q2, q3, q4, q5⟩, ⟨r0, r1, r2, r3, r4, r5⟩, -, -, hn, hm, -, -, -, z1, z2, z3, z4⟩ := HK8.out w9 H9.out
  have NW := hid hn
  have MW := hid hm
  clear hn hm
  go_wp2_with fail
  have HA9 : Hid (Below w9.heap.size w9 (w9.alloc (.cells #[.int .i64 (kd tA), .int .i64 (nn tA), .slice a9 l9 c9] 33))) := (by repeat (first | exact Below.refl _ _ | assumption | refine Below.drew ?_ | refine Below.alloc ?_ (by first | exact Nat.le_refl _ | omega | (simp; done) | (simp; omega)) _ | refine Below.setCell ?_ (by first | exact Nat.le_refl _ | omega | (simp; done) | (simp; omega)) _))
  refine (HAI.out _ (NW.out.below HA9.out) (MW.out.below HA9.out)).mono ?_
  rintro e' w10 ⟨rfl, hb10⟩
  have hb9' : Below w9.heap.size w9 w10 := HA9.out.trans (hb10.mono (by simp))
  have H10 := hid (H9.out.trans (hb9'.mono H9.out.size))
  clear hb10 hb9' HA9 q0 q1 q2 q3 q4 q5 r0 r1 r2 r3 r4 r5 NW MW z1 z2 z3 z4
  obtain ⟨⟨q0, q1, q2, q3, q4, q5⟩, ⟨r0, r1, r2, r3, r4, r5⟩, -, -, hn, hm, -, -, -, z1, z2, z3, z4⟩ := HK8.out w10 H10.out
  have NW := hid hn
  have MW := hid hm
  clear hn hm
  go_wp2_with fail
  refine (HAS.out _ NW.out MW.out).mono ?_
  rintro e' w11 ⟨rfl, hb11⟩
  have H11 := hid (H10.out.trans (hb11.mono H10.out.size))
  have HB11 := hid (HK8.out w11 H11.out).2.2.2.2.2.2.2.2.1
  clear hb11 q0 q1 q2 q3 q4 q5 r0 r1 r2 r3 r4 r5 NW MW z1 z2 z3 z4
  have hq1 : (cA != cA) = false := by simp
  have hq2 : (EC != EC) = false := by simp
  have hq3 : (PO != PO) = false := by simp
  rcases ans_code ok1 with ⟨a1, b1⟩ | ⟨a1, b1⟩
  case inr =>
    rw [HcA.out] at a1
    subst a1
    go_wp2
    go_ret
    exact ⟨rfl, HB11.out⟩
  rw [HcA.out] at a1
  rcases ans_code ok2 with ⟨a2, b2⟩ | ⟨a2, b2⟩
  case inr =>
    rw [HcB.out] at a2
    subst a1 a2
    go_wp2
    go_ret
    exact ⟨rfl, HB11.out⟩
  rw [HcB.out] at a2
  have eA : tA = t1 := by rw [← HTA.out, b1]; rfl
  have eB : tB = t2 := by rw [← HTB.out, b2]; rfl
  have HE1 : Hid (∀ i, i < 16 → evB D1 tA 4 (valsOf i 4) = X1 i) := fun i hi => by rw [eA]; exact HX1.out i hi b1
  have HE2 : Hid (∀ i, i < 16 → evB D2 tB 4 (valsOf i 4) = X2 i) := fun i hi => by rw [eB]; exact HX2.out i hi b2
  subst a1 a2
  clear b1 b2 eA eB HTA HTB HcA HcB HX1 HX2 HFN HFS HFM HAI HAS
  have HVal : Hid (∀ (m : Nat) (w9 : World), m < 16 → Calls Try.prog 10 #[.int .i64 (m : Int), .int .i64 4] w9 fun e w' => ∃ va vc, e = .returned (.slice va 4 vc) ∧ BoolRow w' va 4 (valsOf m 4) ∧ Below w9.heap.size w9 w') := fun m w9 hm => by
    refine (values_laws m 4 w9 (by omega) (by omega)).mono ?_
    rintro e w' ⟨v, rfl, ho, hb⟩
    obtain ⟨va, vc, rfl, hr⟩ := ho.form
    have hl : (valsOf m 4).length = 4 := by simp [valsOf]
    rw [hl] at hr ⊢
    exact ⟨va, vc, rfl, hr, hb⟩
  go_wp2_with fail
  go_loopw [17] (fun i wr => ∃ k : Nat, k ≤ 16 ∧ i = .int .i64 k ∧ (∀ j, j < k → (X1 j != X2 j) = false) ∧ Below w8.heap.size w8 wr) (fun i _ => 16 - (intOf i).toNat)
  case atStart => exact ⟨0, Nat.zero_le _, rfl, fun j hj => absurd hj (Nat.not_lt_zero _), H11.out⟩
  case round =>
    obtain ⟨k, hk, rfl, ha, hbel⟩ := hrel
    have HA := hid ha
    have HB := hid hbel
    obtain ⟨-, -, -, -, -, -, -, -, hBw, -, -, z3, z4⟩ := HK8.out wr hbel
    have BW := hid hBw
    clear ha hbel hBw
    by_cases hlt : k < 16
    · have dk : decide ((k : Int) ≤ 15) = true := decide_eq_true (by omega)
      have EX1 := hid (HE1.out k hlt)
      have EX2 := hid (HE2.out k hlt)
      have HKua : Hid (∀ w9 : World, Below wr.heap.size wr w9 → (w9.cell? ⟨w5.heap.size, 0, none⟩ = some (.int .i64 (kd tA)) ∧ w9.cell? ⟨w5.heap.size, 1, none⟩ = some (.int .i64 (nn tA)) ∧ w9.cell? ⟨w5.heap.size, 2, none⟩ = some (.slice aa la ca)) ∧ Rd (fun _ => True) 1048576 w9 D1 tA aa la) := fun w9 h => by
        obtain ⟨-, -, ca9, cb9, -, -, ra9, rb9, -⟩ := HK8.out w9 (HB.out.trans (h.mono HB.out.size))
        exact ⟨ca9, ra9⟩
      go_wp2_with fail
      refine region_goes 8 9 (fun w' => (w'.cell? ⟨w5.heap.size, 0, none⟩ = some (.int .i64 (kd tA)) ∧ w'.cell? ⟨w5.heap.size, 1, none⟩ = some (.int .i64 (nn tA)) ∧ w'.cell? ⟨w5.heap.size, 2, none⟩ = some (.slice aa la ca))) (by kernel_rfl) (by rfl) ⟨by kernel_rfl, by kernel_rfl, by kernel_rfl, by decide⟩ (HKua.out _ (below_drewN _ 1)).1 (fun hE inv hHeld => ?_)
      refine Goes.take (i := 0) (v := ?vua0) (some 91) hE rfl rfl inv (by kernel_rfl) (by kernel_rfl) (by decide) (fun _ _ _ h => h) (Or.inl ⟨by rfl, ?yua0⟩) (by assumption) (fun inv => ?rua0)
      case yua0 => (intro w' hSw; (try dsimp only at hSw); obtain ⟨s0, s1, s2⟩ := hSw; go_simp; (try with_reducible rfl))
      simp only [Act.put, List.setIfInBounds_toArray, List.set_cons_zero, List.set_cons_succ]
      refine Goes.take (i := 1) (v := ?vua1) (some 92) hE rfl rfl inv (by kernel_rfl) (by kernel_rfl) (by decide) (fun _ _ _ h => h) (Or.inl ⟨by rfl, ?yua1⟩) (by assumption) (fun inv => ?rua1)
      case yua1 => (intro w' hSw; (try dsimp only at hSw); obtain ⟨s0, s1, s2⟩ := hSw; go_simp; (try with_reducible rfl))
      simp only [Act.put, List.setIfInBounds_toArray, List.set_cons_zero, List.set_cons_succ]
      refine Goes.one (i := 2) inv (by kernel_rfl) (by decide) rfl (fun inv K' hK => ?_)
      go_simp
      refine (HVal.out k _ hlt).mono ?_
      rintro e wq ⟨va, vc, rfl, hvb, hbq⟩
      have hbb : Below wr.heap.size wr wq := (below_drewN _ 1).trans (hbq.mono (Nat.le_refl _))
      (try go_wp2_with fail)
      refine hK.out _ _ (HKua.out _ hbb).1 (fun hHeld => ?_)
      clear hK K'
      (try simp only [Act.put, List.setIfInBounds_toArray, List.set_cons_zero, List.set_cons_succ])
      refine Goes.one (i := 3) inv (by kernel_rfl) (by decide) rfl (fun inv K' hK => ?_)
      go_simp
      refine (evalEx_spec D1 tA aa la ca va 4 vc (valsOf k 4) _ (HKua.out _ hbb).2 hvb).mono ?_
      rintro e w12 ⟨rfl, hbr⟩
      rw [EX1.out]
      have hbn : Below wr.heap.size wr w12 := hbb.trans (hbr.mono hbb.size)
      (try go_wp2_with fail)
      refine hK.out _ _ (HKua.out _ hbn).1 (fun hHeld => ?_)
      clear hK K'
      (try simp only [Act.put, List.setIfInBounds_toArray, List.set_cons_zero, List.set_cons_succ])
      refine Goes.take (i := 4) (v := ?vua4) (some 90) hE rfl rfl inv (by kernel_rfl) (by kernel_rfl) (by decide) (fun _ _ _ h => h) (Or.inl ⟨by rfl, ?yua4⟩) (by assumption) (fun inv => ?rua4)
      case yua4 => (intro w' hSw; (try dsimp only at hSw); obtain ⟨s0, s1, s2⟩ := hSw; go_simp; (try with_reducible rfl))
      simp only [Act.put, List.setIfInBounds_toArray, List.set_cons_zero, List.set_cons_succ]
      refine Goes.take (i := 5) (v := ?vua5) (some 95) hE rfl rfl inv (by kernel_rfl) (by kernel_rfl) (by decide) (fun _ _ _ h => h) (Or.inl ⟨by rfl, ?yua5⟩) (by assumption) (fun inv => ?rua5)
      case yua5 => (intro w' hSw; (try dsimp only at hSw); obtain ⟨s0, s1, s2⟩ := hSw; go_simp; (try with_reducible rfl))
      simp only [Act.put, List.setIfInBounds_toArray, List.set_cons_zero, List.set_cons_succ]
      refine Goes.take (i := 6) (v := ?vua6) (some 96) hE rfl rfl inv (by kernel_rfl) (by kernel_rfl) (by decide) (fun _ _ _ h => h) (Or.inl ⟨by rfl, ?yua6⟩) (by assumption) (fun inv => ?rua6)
      case yua6 => (intro w' hSw; (try dsimp only at hSw); obtain ⟨s0, s1, s2⟩ := hSw; go_simp; (try with_reducible rfl))
      simp only [Act.put, List.setIfInBounds_toArray, List.set_cons_zero, List.set_cons_succ]
      refine Goes.one (i := 7) inv (by kernel_rfl) (by decide) rfl (fun inv K' hK => ?_)
      go_simp
      refine hK.out _ _ (HKua.out _ hbn).1 (fun hHeld => ?_)
      clear hK K'
      (try simp only [Act.put, List.setIfInBounds_toArray, List.set_cons_zero, List.set_cons_succ])
      refine Goes.last (by kernel_rfl) (by kernel_rfl) rfl (fun K' hK => ?_)
      go_simp
      refine hK.out _ _ ?_
      clear hK K' hHeld
      (try simp only [Exit.then])
      have BA := hid hbn
      clear hbn hbb hbr hbq hvb
      have HB12 := hid (HB.out.trans (BA.out.mono HB.out.size))
      clear z3 z4
      obtain ⟨-, -, -, -, -, -, -, -, -, -, -, z3, z4⟩ := HK8.out w12 HB12.out
      have HKub : Hid (∀ w9 : World, Below w12.heap.size w12 w9 → (w9.cell? ⟨w7.heap.size, 0, none⟩ = some (.int .i64 (kd tB)) ∧ w9.cell? ⟨w7.heap.size, 1, none⟩ = some (.int .i64 (nn tB)) ∧ w9.cell? ⟨w7.heap.size, 2, none⟩ = some (.slice ab lb cb)) ∧ Rd (fun _ => True) 1048576 w9 D2 tB ab lb) := fun w9 h => by
        obtain ⟨-, -, ca9, cb9, -, -, ra9, rb9, -⟩ := HK8.out w9 (HB12.out.trans (h.mono HB12.out.size))
        exact ⟨cb9, rb9⟩
      go_wp2_with fail
      refine region_goes 8 9 (fun w' => (w'.cell? ⟨w7.heap.size, 0, none⟩ = some (.int .i64 (kd tB)) ∧ w'.cell? ⟨w7.heap.size, 1, none⟩ = some (.int .i64 (nn tB)) ∧ w'.cell? ⟨w7.heap.size, 2, none⟩ = some (.slice ab lb cb))) (by kernel_rfl) (by rfl) ⟨by kernel_rfl, by kernel_rfl, by kernel_rfl, by decide⟩ (HKub.out _ (below_drewN _ 1)).1 (fun hE inv hHeld => ?_)
      refine Goes.take (i := 0) (v := ?vub0) (some 98) hE rfl rfl inv (by kernel_rfl) (by kernel_rfl) (by decide) (fun _ _ _ h => h) (Or.inl ⟨by rfl, ?yub0⟩) (by assumption) (fun inv => ?rub0)
      case yub0 => (intro w' hSw; (try dsimp only at hSw); obtain ⟨s0, s1, s2⟩ := hSw; go_simp; (try with_reducible rfl))
      simp only [Act.put, List.setIfInBounds_toArray, List.set_cons_zero, List.set_cons_succ]
      refine Goes.take (i := 1) (v := ?vub1) (some 99) hE rfl rfl inv (by kernel_rfl) (by kernel_rfl) (by decide) (fun _ _ _ h => h) (Or.inl ⟨by rfl, ?yub1⟩) (by assumption) (fun inv => ?rub1)
      case yub1 => (intro w' hSw; (try dsimp only at hSw); obtain ⟨s0, s1, s2⟩ := hSw; go_simp; (try with_reducible rfl))
      simp only [Act.put, List.setIfInBounds_toArray, List.set_cons_zero, List.set_cons_succ]
      refine Goes.one (i := 2) inv (by kernel_rfl) (by decide) rfl (fun inv K' hK => ?_)
      go_simp
      refine (HVal.out k _ hlt).mono ?_
      rintro e wq ⟨va, vc, rfl, hvb, hbq⟩
      have hbb : Below w12.heap.size w12 wq := (below_drewN _ 1).trans (hbq.mono (Nat.le_refl _))
      (try go_wp2_with fail)
      refine hK.out _ _ (HKub.out _ hbb).1 (fun hHeld => ?_)
      clear hK K'
      (try simp only [Act.put, List.setIfInBounds_toArray, List.set_cons_zero, List.set_cons_succ])
      refine Goes.one (i := 3) inv (by kernel_rfl) (by decide) rfl (fun inv K' hK => ?_)
      go_simp
      refine (evalEx_spec D2 tB ab lb cb va 4 vc (valsOf k 4) _ (HKub.out _ hbb).2 hvb).mono ?_
      rintro e w13 ⟨rfl, hbr⟩
      rw [EX2.out]
      have hbn : Below w12.heap.size w12 w13 := hbb.trans (hbr.mono hbb.size)
      (try go_wp2_with fail)
      refine hK.out _ _ (HKub.out _ hbn).1 (fun hHeld => ?_)
      clear hK K'
      (try simp only [Act.put, List.setIfInBounds_toArray, List.set_cons_zero, List.set_cons_succ])
      refine Goes.take (i := 4) (v := ?vub4) (some 97) hE rfl rfl inv (by kernel_rfl) (by kernel_rfl) (by decide) (fun _ _ _ h => h) (Or.inl ⟨by rfl, ?yub4⟩) (by assumption) (fun inv => ?rub4)
      case yub4 => (intro w' hSw; (try dsimp only at hSw); obtain ⟨s0, s1, s2⟩ := hSw; go_simp; (try with_reducible rfl))
      simp only [Act.put, List.setIfInBounds_toArray, List.set_cons_zero, List.set_cons_succ]
      refine Goes.take (i := 5) (v := ?vub5) (some 102) hE rfl rfl inv (by kernel_rfl) (by kernel_rfl) (by decide) (fun _ _ _ h => h) (Or.inl ⟨by rfl, ?yub5⟩) (by assumption) (fun inv => ?rub5)
      case yub5 => (intro w' hSw; (try dsimp only at hSw); obtain ⟨s0, s1, s2⟩ := hSw; go_simp; (try with_reducible rfl))
      simp only [Act.put, List.setIfInBounds_toArray, List.set_cons_zero, List.set_cons_succ]
      refine Goes.take (i := 6) (v := ?vub6) (some 103) hE rfl rfl inv (by kernel_rfl) (by kernel_rfl) (by decide) (fun _ _ _ h => h) (Or.inl ⟨by rfl, ?yub6⟩) (by assumption) (fun inv => ?rub6)
      case yub6 => (intro w' hSw; (try dsimp only at hSw); obtain ⟨s0, s1, s2⟩ := hSw; go_simp; (try with_reducible rfl))
      simp only [Act.put, List.setIfInBounds_toArray, List.set_cons_zero, List.set_cons_succ]
      refine Goes.one (i := 7) inv (by kernel_rfl) (by decide) rfl (fun inv K' hK => ?_)
      go_simp
      refine hK.out _ _ (HKub.out _ hbn).1 (fun hHeld => ?_)
      clear hK K'
      (try simp only [Act.put, List.setIfInBounds_toArray, List.set_cons_zero, List.set_cons_succ])
      refine Goes.last (by kernel_rfl) (by kernel_rfl) rfl (fun K' hK => ?_)
      go_simp
      refine hK.out _ _ ?_
      clear hK K' hHeld
      (try simp only [Exit.then])
      have BB := hid hbn
      clear hbn hbb hbr hbq hvb
      have H14 := hid (HB.out.trans (BA.out.mono HB.out.size))
      have H15 := hid (H14.out.trans (BB.out.mono H14.out.size))
      have BW15 := hid (HK8.out w13 H15.out).2.2.2.2.2.2.2.2.1
      clear BA BB
      have HHit : Hid ((X1 k != X2 k) = true → AP = k) := fun h9 => by
        rw [← HAp.out]
        exact firstAt_hit hlt h9 HA.out
      have HNx : Hid ((X1 k != X2 k) = false → ∀ j, j < k + 1 → (X1 j != X2 j) = false) := fun h9 j hj => by
        by_cases e : j = k
        · subst e; exact h9
        · exact HA.out j (by omega)
      have HKp : Hid ((X1 k != X2 k) = true → EC = 0 ∧ PO = (k : Int)) := fun h9 => by
        have h := HHit.out h9
        obtain ⟨e1, e2⟩ := HPE.out
        rw [h, if_neg (by omega)] at e2
        rw [e2, if_pos rfl, h] at e1
        exact ⟨e2, e1⟩
      generalize X1 k = u at *
      generalize X2 k = v at *
      cases u <;> cases v
      · have hx := hid (HNx.out rfl)
        go_wp2
        go_roundw
        case rel => exact ⟨k + 1, by omega, by go_num, hx.out, H15.out⟩
        case measure => simp [intOf]; omega
      · obtain ⟨e1, e2⟩ := HKp.out rfl
        subst e1 e2
        have hkk : ((k : Int) == (k : Int)) = true := by simp
        go_wp2
        go_ret
        exact ⟨rfl, BW15.out⟩
      · obtain ⟨e1, e2⟩ := HKp.out rfl
        subst e1 e2
        have hkk : ((k : Int) == (k : Int)) = true := by simp
        go_wp2
        go_ret
        exact ⟨rfl, BW15.out⟩
      · have hx := hid (HNx.out rfl)
        go_wp2
        go_roundw
        case rel => exact ⟨k + 1, by omega, by go_num, hx.out, H15.out⟩
        case measure => simp [intOf]; omega
    · have dk : decide ((k : Int) ≤ 15) = false := decide_eq_false (by omega)
      have HEc : Hid (EC = 6) := by
        have h : AP = -1 := by
          rw [← HAp.out]
          exact firstAt_none (fun i hi => HA.out i (by omega))
        rw [HPE.out.2, h]
        rfl
      have e6 := HEc.out
      subst e6
      go_wp2
      go_ret
      exact ⟨rfl, BW.out⟩

theorem own : ownKnob Try.prog.godebug = none := by kernel_rfl
theorem laidOut : laidOutB Try.prog = true := by kernel_rfl

set_option maxRecDepth 100000 in
theorem lifted (os : Os) (started : os.Started) (H : Type) (enc : TypeId × Value → H) :
    ReturnsInHanded {} Try.checked os 3 .any (Rows.fnFiltersSpec.pre6 enc Try.prog Try.f3 Rows.fnFiltersRow.domain false) (Rows.fnFiltersSpec.post enc Try.prog Try.f3 false true false false) := by
  refine returnsInHanded_of_change (C := Try.checked) own started (by kernel_rfl) Try.func3
    (ChangeSpec.witness6 (enc := enc) (C := Try.checked) false ⟨#[], #[.slice none 0 0, .slice none 0 0], []⟩ 8 (by kernel_rfl) (by kernel_rfl) (by kernel_rfl) (by kernel_rfl)) ?_
  intro W base args ds gs before hval0 hW hcnd _
  have hval : ∀ (j : Nat) t v, Try.f3.params[j]? = some t → args[j]? = some v → Value.okWide Try.prog W .any base t v := hval0
  have hW' := hW
  obtain ⟨p, q, hA0, hV, rfl, hfz, hnd⟩ := hW
  have hA : DataW.TrodAll enc Try.prog W 0 (fun _ => true) true Try.f3.params.toList args.toList ds p := hA0
  rw [Try.params3] at hA hval
  obtain ⟨v0, vs0, d0, ds0, p0, q0, hargs, rfl, rfl, h0, r0⟩ := trodAll_cons hA
  obtain ⟨v1, vs1, d1, ds1, p1, q1, rfl, rfl, rfl, h1, r1⟩ := trodAll_cons r0
  obtain ⟨rfl, rfl, rfl⟩ := trodAll_nil r1
  obtain rfl : args = #[v0, v1] := by cases args; simp_all
  obtain ⟨rfl, rfl⟩ := trodVars_none hV
  have k0 := h0
  have lt0 : ∀ x ∈ p0, x.block < W.heap.size := by obtain ⟨m, hm⟩ := k0; exact DataW.trod_lt m _ _ _ hm
  have k1 := h1
  have lt1 : ∀ x ∈ p1, x.block < W.heap.size := by obtain ⟨m, hm⟩ := k1; exact DataW.trod_lt m _ _ _ hm
  obtain ⟨aA, la, cA, rfl⟩ := okWide_slice Try.underlying22 (hval 0 22 v0 rfl rfl)
  obtain ⟨aB, lb, cB, rfl⟩ := okWide_slice Try.underlying22 (hval 1 22 v1 rfl rfl)
  obtain ⟨hA1, hA2⟩ : Bytes W aA la ∧ la ≤ maxLen := by
    obtain ⟨fuel, hf⟩ := h0
    obtain ⟨a', l', c', e, hb, hl⟩ := bytes_of_trod Try.underlying22 Try.underlying5 (by kernel_rfl) (by simpa [Value.cells] using hf)
    cases e
    exact ⟨hb, hl⟩
  obtain ⟨hB1, hB2⟩ : Bytes W aB lb ∧ lb ≤ maxLen := by
    obtain ⟨fuel, hf⟩ := h1
    obtain ⟨a', l', c', e, hb, hl⟩ := bytes_of_trod Try.underlying22 Try.underlying5 (by kernel_rfl) (by simpa [Value.cells] using hf)
    cases e
    exact ⟨hb, hl⟩
  clear hA0 hval0
  refine (walk aA aB la cA lb cB W hA1 hB1 hA2 hB2).mono fun e W' ⟨he, bel⟩ => ?_
  subst he
  exact ⟨_, rfl, _, _, _, [], _, [], hW', trodAll_mk1 (shut_bool Try.underlying4 _), (trodAll_cons_mk (Below.trod laidOut (by kernel_rfl) (of_decide_eq_true (by kernel_rfl)) k0 bel lt0) (trodAll_cons_mk (Below.trod laidOut (by kernel_rfl) (of_decide_eq_true (by kernel_rfl)) k1 bel lt1) trodAll_mk0)), rfl, bel.frame _, fun h => by cases h⟩

theorem over : Rows.fnFiltersRow.holds Try.pinned (OpenSpec.ofChange Rows.fnFiltersSpec) :=
  OpenClaim.holds_of_wide 3 Try.f3 rfl rfl rfl rfl rfl rfl rfl ⟨rfl, rfl, rfl, rfl, rfl⟩ rfl rfl rfl rfl rfl (by kernel_rfl) Try.func3 (by kernel_rfl)
    (of_decide_eq_true (by kernel_rfl)) (by unfold Func.isWrapper; first | (rw [if_pos (by decide +kernel)]; kernel_rfl) | (rw [if_neg (by decide +kernel)]; exact ⟨rfl, rfl⟩))
    (fun os started H enc _ => lifted os started H enc)
end Go.Proofs.Ytofdhoefphoaaaa.fnFilters
namespace Go.Proofs.Ytofdhoefphoaaaa
theorem fnFilters_holds : Rows.FnFiltersSaid := fnFilters.over
end Go.Proofs.Ytofdhoefphoaaaa
