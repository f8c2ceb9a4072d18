/- IsStable, of the program; conditions: none. -/
import Derived.Test.YtahimnbagfcdfaaGreatStabImpl
import Derived.Test.YtahimnbagfcdfaaGreatSceneFace
namespace Go.Proofs.YtahimnbagfcdfaaGreat.stabFace
open Go.RowKit Go.Deep Go base names netSem routeRow nbSem candSem candImp hopSem intsOwn hopMake hopBetween sceneSem sceneOpen sceneBy candSpec sceneCand sceneList sceneFault sceneNew sceneFace walkSem routesB netImpl noRts rtsRow bestFace bestAll stabImpl
set_option linter.unusedVariables false

/-- Each router has the best of what it could have. -/
def stabB (g : R) (nl : Nat) (o e : List Int) (x : R) (nx : Nat) (env : List Int) (ds : List Bool) (rs : Rs) (n : Nat) : Bool := sameTo (fun r : Nat => bst (candL g nl o e x nx env ds rs n (r : Int))) rs n
def stabA (c : Int) (s : Bool) : Bool := if c = 0 then s else false
theorem bests_cand {g : R} {nl : Nat} {o e : List Int} {x : R} {nx : Nat} {env : List Int} {ds : List Bool} {rs : Rs} {n : Nat} (hn : n ≤ 4) (hv : ∀ i, i < n → (rs i).via < n) (he : ∀ i, 0 ≤ zAt env i) : bests g nl o e x nx env ds rs n = fun r : Nat => bst (candL g nl o e x nx env ds rs n (r : Int)) := by
  funext r
  unfold bests
  rw [lst_cand _ _ _ _ _ _ _ _ _ _ _ hn hv he]
theorem two_rets {a b : Bool} {x y : Int} (h : a = b) (h' : x = y) : Ending.returned (.tuple #[.bool a, .int .i64 x]) = .returned (.tuple #[.bool b, .int .i64 y]) := by rw [h, h']

theorem one_router {l : Nat → Nat} {s : Ss} {g x f : R} {o e : List Int} (h : netB l s g o e x f = true) : 1 ≤ l 0 := by
  unfold netB routersB inB at h
  simp only [Bool.and_eq_true, decide_eq_true_eq] at h
  obtain ⟨⟨⟨⟨⟨⟨⟨h1, _⟩, _⟩, _⟩, _⟩, _⟩, _⟩, _⟩ := h
  omega
set_option maxHeartbeats 3200000 in
set_option maxRecDepth 8000 in
theorem isStable_impl (p : Nat → Option Addr) (l c : Nat → Nat) (s : Ss) (g : R) (o e : List Int) (x f : R) (ea da ra : Option Addr) (el ec dl dc rl cr : Nat) (env : List Int) (ds : List Bool) (rs : Rs) (w : World) (h : NetIs w p l s g o e x f) (hc0 : l 0 ≤ c 0) (hc1 : l 1 ≤ c 1) (he : IntRow w ea el env) (hd : BoolRow w da dl ds) (hr : RtRow w ra rl rs) :
    Calls Tryz.prog 23 #[netV p l c, .slice ea el ec, .slice da dl dc, .slice ra rl cr] w fun e' w' => e' = .returned (.tuple #[.bool (stabA (rtC (netB l s g o e x f) (routesB g (l 1) (l 0) rl rs) el dl rl (l 3) (l 1) env) (stabB g (l 1) o e x (l 4) env ds rs (l 0))), .int .i64 (rtC (netB l s g o e x f) (routesB g (l 1) (l 0) rl rs) el dl rl (l 3) (l 1) env)]) ∧ Below w.heap.size w w' := by
  have HF := hid (fun (W : World) (hb : Below w.heap.size w W) => routes_fault p l c s g o e x f ea da ra el ec dl dc rl cr env rs W (h.below hb) hc0 hc1 (he.below hb) hd.most (hr.below hb) (fun hk => links_in hk))
  have HN := hid h
  have HE := hid he
  have HD := hid hd
  have HR := hid hr
  clear h he hd hr hc0 hc1
  obtain ⟨ok, hok⟩ : ∃ b, netB l s g o e x f = b := ⟨_, rfl⟩
  obtain ⟨rb, hrb⟩ : ∃ b, routesB g (l 1) (l 0) rl rs = b := ⟨_, rfl⟩
  have HOK := hid hok
  have HRB := hid hrb
  rw [hok, hrb]
  simp only [hok, hrb] at HF
  clear hok hrb
  obtain ⟨D, hD⟩ : ∃ D, rtC ok rb el dl rl (l 3) (l 1) env = D := ⟨_, rfl⟩
  have HDD := hid hD
  simp only [hD] at HF
  rw [hD]
  obtain ⟨S, hS⟩ : ∃ S, stabB g (l 1) o e x (l 4) env ds rs (l 0) = S := ⟨_, rfl⟩
  have HST := hid hS
  rw [hS]
  clear hD hS
  have C1 : ∀ w8 : World, Below ((w.alloc (.cells #[.slice (p 0) (l 0) (c 0), .slice (p 1) (l 1) (c 1), .slice (p 2) (l 2) (c 2), .slice (p 3) (l 3) (c 3), .slice (p 4) (l 4) (c 4), .slice (p 5) (l 5) (c 5)] 40))).heap.size (w.alloc (.cells #[.slice (p 0) (l 0) (c 0), .slice (p 1) (l 1) (c 1), .slice (p 2) (l 2) (c 2), .slice (p 3) (l 3) (c 3), .slice (p 4) (l 4) (c 4), .slice (p 5) (l 5) (c 5)] 40)) w8 → (w8.cell? ⟨w.heap.size, 0, none⟩ = some (.slice (p 0) (l 0) (c 0)) ∧ w8.cell? ⟨w.heap.size, 1, none⟩ = some (.slice (p 1) (l 1) (c 1)) ∧ w8.cell? ⟨w.heap.size, 2, none⟩ = some (.slice (p 2) (l 2) (c 2)) ∧ w8.cell? ⟨w.heap.size, 3, none⟩ = some (.slice (p 3) (l 3) (c 3)) ∧ w8.cell? ⟨w.heap.size, 4, none⟩ = some (.slice (p 4) (l 4) (c 4)) ∧ w8.cell? ⟨w.heap.size, 5, none⟩ = some (.slice (p 5) (l 5) (c 5))) ∧ Below w.heap.size w w8 :=
    fun w8 hb => ⟨⟨keep hb (by simp [go_sem]), keep hb (by simp [go_sem]), keep hb (by simp [go_sem]), keep hb (by simp [go_sem]), keep hb (by simp [go_sem]), keep hb (by simp [go_sem])⟩, (show Below w.heap.size w _ from (by repeat (first | exact Below.refl _ _ | assumption | refine Below.drew ?_ | refine Below.alloc ?_ (by first | exact Nat.le_refl _ | omega | (simp; done) | (simp; omega)) _ | refine Below.setCell ?_ (by first | exact Nat.le_refl _ | omega | (simp; done) | (simp; omega)) _))).trans (hb.mono (by simp))⟩
  have HC1 := hid C1
  clear C1
  unfold netV at HF ⊢
  go_enter Tryz.func23, Tryz.ntmps23
  go_wp2_with fail
  refine (HF.out _ (by repeat (first | exact Below.refl _ _ | assumption | refine Below.drew ?_ | refine Below.alloc ?_ (by first | exact Nat.le_refl _ | omega | (simp; done) | (simp; omega)) _ | refine Below.setCell ?_ (by first | exact Nat.le_refl _ | omega | (simp; done) | (simp; omega)) _))).mono ?_
  rintro e' w1 ⟨rfl, hb1⟩
  obtain ⟨⟨q0, q1, q2, q3, q4, q5⟩, hB⟩ := HC1.out _ hb1
  have B1 := hid hB
  clear hb1 hB
  by_cases h0 : D = 0
  case neg =>
    have d1 : (D != 0) = true := by simp [h0]
    have HA : Hid (stabA D S = false) := if_neg h0
    clear h0
    go_wp2
    go_ret2
    exact ⟨two_rets HA.out.symm rfl, B1.out⟩
  subst h0
  have HA : Hid (stabA 0 S = S) := if_pos rfl
  obtain ⟨f1, f2, f3, f4, f5⟩ := rt_zero HDD.out
  subst f1 f2
  obtain ⟨hrl, hgd⟩ := good_of HOK.out HRB.out
  obtain ⟨n4, n12, nl, ni⟩ := net_links HOK.out
  have hgi := fun j hj => (link_facts (nl j hj) n4).1
  have HNew := hid (new_impl p l c s g o e x f ea da el ec dl dc env ds w1 (HN.out.below B1.out) (HE.out.below B1.out) (HD.out.below B1.out) f3 f4 hgi (fun i h => (import_facts (ni i h) hgi).1) n12)
  have hn1 : 1 ≤ l 0 := one_router HOK.out
  have HGood := hid hgd
  have HEnv : Hid (∀ i, 0 ≤ zAt env i) := hid (fun i => by
    by_cases hi : i < el
    · exact f5 i hi
    · have hl := HE.out.length
      unfold zAt
      rw [List.getElem?_eq_none (by omega)]
      exact Int.le_refl _)
  have HRl := hid hrl
  clear f3 f4 f5 hgd n4 n12 nl ni hgi hrl HF
  unfold netV at HNew
  go_wp2_with fail
  refine HNew.out.mono ?_
  rintro e' w3 ⟨sb, b, F, rfl, hb3, hs3, hB3⟩
  have HS3 := hid hs3
  have HB3 := hid hB3
  have HR3 : Hid (RtRow w3 ra (l 0) rs) := hid (by rw [← HRl.out]; exact (HR.out.below B1.out).below hB3)
  have HNa : Hid (∀ a o, ra = some ⟨a, o, none⟩ → a ≠ b) := hid (fun a o ea => by
    obtain ⟨q', o', e', hc⟩ := (HR.out.below B1.out).cell 0 (by rw [HRl.out]; omega)
    rw [ea] at e'
    injection e' with e'
    injection e' with e1 e2
    subst e1
    have h8 : a < w1.heap.size := World.block_lt_of_cell? _ _ (hc 0 (by omega))
    omega)
  have HBb := hid hb3
  clear hs3 hB3 hb3
  have hrl : rl = l 0 := HRl.out
  subst hrl
  have HSt : Hid (sameTo (bests g (l 1) o e x (l 4) env ds rs (l 0)) rs (l 0) = S) := by
    show _ = _
    rw [← HST.out, bests_cand HGood.out.few (fun i hi => (HGood.out.via i hi).2) HEnv.out]
    rfl
  go_wp2_with fail
  refine (stable_impl ra (l 0) cr rs HS3.out HGood.out HR3.out HNa.out hn1).mono ?_
  rintro e' w4 ⟨rfl, hs4, hg4⟩
  rw [HSt.out]
  have HB4 : Hid (Below w.heap.size w w4) := hid (by
    have hA := B1.out.trans (HB3.out.mono B1.out.size)
    have h7 := hA.size
    have h6 := B1.out.size
    have h5 := HBb.out
    exact { os := hg4.os.trans hA.os, tape := hg4.tape.trans hA.tape, output := hg4.output.trans hA.output, size := Nat.le_trans hA.size hg4.size, block := fun j hj => (hg4.block j (by omega) (fun e => by injection e with e; omega)).trans (hA.block j hj) })
  clear hs4 hg4
  go_wp2
  go_ret2
  exact ⟨two_rets HA.out.symm rfl, HB4.out⟩
end Go.Proofs.YtahimnbagfcdfaaGreat.stabFace
