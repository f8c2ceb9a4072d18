/- StaFaceS; FiltImpl: one text, so that the claim has fewer files. -/
import Derived.Test.YtjdeoiohbbnmeaaStaSpec
import Derived.Test.YtjdeoiohbbnmeaaPart23
import Derived.Test.YtjdeoiohbbnmeaaPart25
import Derived.Test.YtjdeoiohbbnmeaaPart28
import Derived.Test.YtjdeoiohbbnmeaaPart14
import Derived.Test.YtjdeoiohbbnmeaaNetImpl
/- StableStates, of the specification; conditions: none. -/
namespace Go.Proofs.Ytjdeoiohbbnmeaa.staFaceS
open Go.RowKit Go.Deep Go base copy names netSem routeRow routesB nbSem candSem candImp hopSem intsOwn sceneSem sceneBy sceneNew sceneFault sceneFace candEnv candFace noRts bestAll stabImpl stabFace rtsRow prodSem rofSem rofSpec ssSem rRows staSpec
set_option linter.unusedVariables false

theorem scene_code {ok : Bool} {el dl l3 l1 : Nat} {env : List Int} : (if 4096 < el ∨ 4096 < dl ∨ 4096 < 0 then 2 else arC ok el dl l3 l1 env) = envC ok el dl l3 l1 env := by
  unfold envC arC
  by_cases h1 : 4096 < el ∨ 4096 < dl
  · rw [if_pos (by omega), if_pos h1]
  · rw [if_neg (by omega), if_neg h1]
theorem env_zero {ok : Bool} {el dl l3 l1 : Nat} {env : List Int} (h : envC ok el dl l3 l1 env = 0) : ok = true ∧ el = l3 ∧ dl = l1 ∧ ∀ i, i < el → 0 ≤ zAt env i := by
  obtain ⟨h1, _, h2⟩ := rt_zero (ok := ok) (rb := true) (el := el) (dl := dl) (rl := 0) (l3 := l3) (l1 := l1) (env := env) (by rw [env_code (by omega), h, if_pos rfl, if_pos rfl])
  exact ⟨h1, h2⟩
/-- The stable states that are answered: none where there is a fault. -/
def ssL (D : Int) (g : R) (nl : Nat) (o e : List Int) (x : R) (nx : Nat) (env : List Int) (ds : List Bool) (n : Nat) : List (List Rt) := if D = 0 then statesL g nl o e x nx env ds n (prod (fun i : Nat => optL g nl o e env ds n (i : Int)) n) else []
set_option maxHeartbeats 3200000 in
set_option maxRecDepth 8000 in
theorem ss_spec (p : Nat → Option Addr) (l c : Nat → Nat) (s : Ss) (g : R) (o e : List Int) (x f : R) (ea da : Option Addr) (el ec dl dc : Nat) (env : List Int) (ds : List Bool) (w : World) (h : NetIs w p l s g o e x f) (hc0 : l 0 ≤ c 0) (hc1 : l 1 ≤ c 1) (he : IntRow w ea el env) (hd : BoolRow w da dl ds) :
    Calls Try.prog 7 #[netV p l c, .slice ea el ec, .slice da dl dc] w fun e' w' => ∃ v ps, e' = .returned (.tuple #[v, .int .i64 (envC (netB l s g o e x f) el dl (l 3) (l 1) env)]) ∧ OwnRR w.heap.size w' v ps ∧ ps.map Prod.snd = ssL (envC (netB l s g o e x f) el dl (l 3) (l 1) env) g (l 1) o e x (l 4) env ds (l 0) ∧ Below w.heap.size w w' := by
  have HF := hid (fun (W : World) (hb : Below w.heap.size w W) => env_spec p l c s g o e x f ea da el ec dl dc env W (h.below hb) hc0 hc1 (he.below hb) hd.most)
  have HN := hid h
  have HE := hid he
  have HD := hid hd
  clear h he hd hc0 hc1
  obtain ⟨ok, hok⟩ : ∃ b, netB l s g o e x f = b := ⟨_, rfl⟩
  have HOK := hid hok
  rw [hok]
  simp only [hok] at HF
  clear hok
  obtain ⟨D, hD⟩ : ∃ D, envC ok el dl (l 3) (l 1) env = D := ⟨_, rfl⟩
  have HDD := hid hD
  simp only [hD] at HF
  rw [hD]
  clear hD
  have C1 : ∀ w8 : World, Below ((w.alloc (.cells #[.slice (p 0) (l 0) (c 0), .slice (p 1) (l 1) (c 1), .slice (p 2) (l 2) (c 2), .slice (p 3) (l 3) (c 3), .slice (p 4) (l 4) (c 4), .slice (p 5) (l 5) (c 5)] 29))).heap.size (w.alloc (.cells #[.slice (p 0) (l 0) (c 0), .slice (p 1) (l 1) (c 1), .slice (p 2) (l 2) (c 2), .slice (p 3) (l 3) (c 3), .slice (p 4) (l 4) (c 4), .slice (p 5) (l 5) (c 5)] 29)) w8 → (w8.cell? ⟨w.heap.size, 0, none⟩ = some (.slice (p 0) (l 0) (c 0)) ∧ w8.cell? ⟨w.heap.size, 1, none⟩ = some (.slice (p 1) (l 1) (c 1)) ∧ w8.cell? ⟨w.heap.size, 2, none⟩ = some (.slice (p 2) (l 2) (c 2)) ∧ w8.cell? ⟨w.heap.size, 3, none⟩ = some (.slice (p 3) (l 3) (c 3)) ∧ w8.cell? ⟨w.heap.size, 4, none⟩ = some (.slice (p 4) (l 4) (c 4)) ∧ w8.cell? ⟨w.heap.size, 5, none⟩ = some (.slice (p 5) (l 5) (c 5))) ∧ Below w.heap.size w w8 :=
    fun w8 hb => ⟨⟨keep hb (by simp [go_sem]), keep hb (by simp [go_sem]), keep hb (by simp [go_sem]), keep hb (by simp [go_sem]), keep hb (by simp [go_sem]), keep hb (by simp [go_sem])⟩, (show Below w.heap.size w _ from (by repeat (first | exact Below.refl _ _ | assumption | refine Below.drew ?_ | refine Below.alloc ?_ (by first | exact Nat.le_refl _ | omega | (simp; done) | (simp; omega)) _ | refine Below.setCell ?_ (by first | exact Nat.le_refl _ | omega | (simp; done) | (simp; omega)) _))).trans (hb.mono (by simp))⟩
  have HC1 := hid C1
  clear C1
  unfold netV at HF ⊢
  go_enter Try.func7, Try.ntmps7
  go_wp2_with fail
  refine (HF.out _ (by repeat (first | exact Below.refl _ _ | assumption | refine Below.drew ?_ | refine Below.alloc ?_ (by first | exact Nat.le_refl _ | omega | (simp; done) | (simp; omega)) _ | refine Below.setCell ?_ (by first | exact Nat.le_refl _ | omega | (simp; done) | (simp; omega)) _))).mono ?_
  rintro e' w1 ⟨rfl, hb1⟩
  obtain ⟨⟨q0, q1, q2, q3, q4, q5⟩, hB⟩ := HC1.out _ hb1
  have B1 := hid hB
  have hz1 : w.heap.size < w1.heap.size := by have := hb1.size; simp at this; omega
  clear hb1 hB
  by_cases h0 : D = 0
  case neg =>
    have d1 : (D != 0) = true := by simp [h0]
    have HSL : Hid ([] = ssL D g (l 1) o e x (l 4) env ds (l 0)) := hid (by unfold ssL; rw [if_neg h0])
    clear h0
    go_wp2
    go_ret2
    exact ⟨_, [], rfl, rr_empty _ _ _ B1.out.size rfl, HSL.out, B1.out.alloc B1.out.size _⟩
  have HSL : Hid (statesL g (l 1) o e x (l 4) env ds (l 0) (prod (fun i : Nat => optL g (l 1) o e env ds (l 0) (i : Int)) (l 0)) = ssL D g (l 1) o e x (l 4) env ds (l 0)) := hid (by unfold ssL; rw [if_pos h0])
  subst h0
  obtain ⟨f1, f3, f4, f5⟩ := env_zero HDD.out
  subst f1
  obtain ⟨n4, n12, nl, ni⟩ := net_links HOK.out
  have hgi := fun j hj => (link_facts (nl j hj) n4).1
  have hn1 : 1 ≤ l 0 := one_router HOK.out
  have HEn : Hid (∀ i, 0 ≤ zAt env i) := hid (fun i => by
    by_cases hi : i < el
    · exact f5 i hi
    · have hl := HE.out.length
      unfold zAt
      rw [List.getElem?_eq_none (by omega)]
      exact Int.le_refl _)
  subst f3
  subst f4
  have HSt := hid (states_spec p l c s g o e x f ea da ec dc env ds w1 (HN.out.below B1.out) (HE.out.below B1.out) (HD.out.below B1.out) n4 hn1 (fun i hi => (link_facts (nl i hi) n4).2.1) (fun i hi => (link_facts (nl i hi) n4).2.2) (fun i h => (import_facts (ni i h) hgi).2) HEn.out)
  clear f5 n12 nl ni hgi HF
  unfold netV at HSt
  go_wp2_with fail
  refine HSt.out.mono ?_
  rintro e' w3 ⟨v, ps, rfl, hor, hps, hb3⟩
  have HOw := hid (hor.mono B1.out.size)
  have HSe := hid (hps.trans HSL.out)
  have HB3 := hid (B1.out.trans (hb3.mono B1.out.size))
  clear hor hps hb3
  go_wp2
  go_ret2
  exact ⟨_, _, rfl, HOw.out, HSe.out, HB3.out⟩
end Go.Proofs.Ytjdeoiohbbnmeaa.staFaceS

/- Of the program: whether a filter stops a packet; conditions: none. -/
namespace Go.Proofs.Ytjdeoiohbbnmeaa.filtImpl
open Go.RowKit Go.Deep Go base names netSem netImpl routeRow walkSem
set_option linter.unusedVariables false

set_option maxHeartbeats 800000 in
theorem filtCl (x0 x1 x2 x3 a b port : Int) (B1 B2 B3 : Nat) (w : World) (h1 : w.cell? ⟨B1, 0, none⟩ = some (.int .i64 a)) (h2 : w.cell? ⟨B2, 0, none⟩ = some (.int .i64 b)) (h3 : w.cell? ⟨B3, 0, none⟩ = some (.int .i64 port)) :
    Calls Try.prog 81 #[.agg #[.int .i64 x0, .int .i64 x1, .int .i64 x2, .int .i64 x3], .pointer (some ⟨B1, 0, none⟩), .pointer (some ⟨B2, 0, none⟩), .pointer (some ⟨B3, 0, none⟩)] w fun e w' => e = .returned (.bool (x0 == a && x1 == b && inB port x2 x3)) ∧ Below w.heap.size w w' := by
  have g1 := keep (show Below w.heap.size w (w.alloc (.cells #[.int .i64 x0, .int .i64 x1, .int .i64 x2, .int .i64 x3] 78)) from (by repeat (first | exact Below.refl _ _ | assumption | refine Below.drew ?_ | refine Below.alloc ?_ (by first | exact Nat.le_refl _ | omega | (simp; done) | (simp; omega)) _ | refine Below.setCell ?_ (by first | exact Nat.le_refl _ | omega | (simp; done) | (simp; omega)) _))) h1
  have g2 := keep (show Below w.heap.size w (w.alloc (.cells #[.int .i64 x0, .int .i64 x1, .int .i64 x2, .int .i64 x3] 78)) from (by repeat (first | exact Below.refl _ _ | assumption | refine Below.drew ?_ | refine Below.alloc ?_ (by first | exact Nat.le_refl _ | omega | (simp; done) | (simp; omega)) _ | refine Below.setCell ?_ (by first | exact Nat.le_refl _ | omega | (simp; done) | (simp; omega)) _))) h2
  have g3 := keep (show Below w.heap.size w (w.alloc (.cells #[.int .i64 x0, .int .i64 x1, .int .i64 x2, .int .i64 x3] 78)) from (by repeat (first | exact Below.refl _ _ | assumption | refine Below.drew ?_ | refine Below.alloc ?_ (by first | exact Nat.le_refl _ | omega | (simp; done) | (simp; omega)) _ | refine Below.setCell ?_ (by first | exact Nat.le_refl _ | omega | (simp; done) | (simp; omega)) _))) h3
  obtain ⟨p1, e1⟩ : ∃ p, (x0 == a) = p := ⟨_, rfl⟩
  obtain ⟨p2, e2⟩ : ∃ p, (x1 == b) = p := ⟨_, rfl⟩
  obtain ⟨p3, e3⟩ : ∃ p, inB port x2 x3 = p := ⟨_, rfl⟩
  rw [e1, e2, e3]
  cases p1 <;> cases p2 <;> cases p3
  all_goals
    go_enter Try.func81, Try.ntmps81
    go_wp2_with (go_at_call 31; refine (within_impl _ _ _ _).mono ?_; rintro e w' ⟨rfl, rfl⟩)
    go_ret
    exact ⟨rfl, (by repeat (first | exact Below.refl _ _ | assumption | refine Below.drew ?_ | refine Below.alloc ?_ (by first | exact Nat.le_refl _ | omega | (simp; done) | (simp; omega)) _ | refine Below.setCell ?_ (by first | exact Nat.le_refl _ | omega | (simp; done) | (simp; omega)) _))⟩

set_option maxHeartbeats 800000 in
theorem indexFilt (p : Option Addr) (len cap : Nat) (g : R) (a b port : Int) (B1 B2 B3 : Nat) (w : World) (hr : Row 4 w p len g) (h1 : w.cell? ⟨B1, 0, none⟩ = some (.int .i64 a)) (h2 : w.cell? ⟨B2, 0, none⟩ = some (.int .i64 b)) (h3 : w.cell? ⟨B3, 0, none⟩ = some (.int .i64 port)) :
    Calls Try.prog 84 #[.slice p len cap, .func (.func 81) #[] #[.pointer (some ⟨B1, 0, none⟩), .pointer (some ⟨B2, 0, none⟩), .pointer (some ⟨B3, 0, none⟩)]] w fun e w' => e = .returned (.int .i64 (firstAt (filtB g a b port) len)) ∧ Below w.heap.size w w' := by
  have hmost := hr.most
  unfold maxLen at hmost
  have HR := hid hr
  have H1 := hid h1
  have H2 := hid h2
  have H3 := hid h3
  clear hr h1 h2 h3
  go_enter Try.func84, Try.ntmps84
  go_wp2
  go_loopw [8] (fun i wr => ∃ k : Nat, k ≤ len ∧ i = .int .i64 k ∧ (∀ j, j < k → filtB g a b port j = false) ∧ Below w.heap.size w wr) (fun i _ => len - (intOf i).toNat)
  case atStart => exact ⟨0, Nat.zero_le _, rfl, fun j hj => absurd hj (Nat.not_lt_zero _), Below.refl _ _⟩
  case round =>
    obtain ⟨k, hk, rfl, ha, hbel⟩ := hrel
    have HA := hid ha
    have HB := hid hbel
    clear ha
    by_cases hlt : k < len
    · obtain ⟨b0, off, rfl, c0, c1, c2, c3⟩ := HR.out.at4 hlt
      replace c0 := keep hbel c0
      replace c1 := keep hbel c1
      replace c2 := keep hbel c2
      replace c3 := keep hbel c3
      have g1 := hid (keep hbel H1.out)
      have g2 := hid (keep hbel H2.out)
      have g3 := hid (keep hbel H3.out)
      have HQ : Hid (filtB g a b port k = (g k 0 == a && g k 1 == b && inB port (g k 2) (g k 3))) := rfl
      clear hbel
      generalize hD : (g k 0 == a && g k 1 == b && inB port (g k 2) (g k 3)) = D at HQ
      have HD := hid hD
      clear hD
      generalize g k 0 = x at *
      generalize g k 1 = y at *
      generalize g k 2 = z at *
      generalize g k 3 = u at *
      cases D with
      | true =>
        go_wp2_with fail
        refine (filtCl x y z u a b port B1 B2 B3 _ g1.out g2.out g3.out).mono ?_
        rintro e w1 ⟨rfl, hb1⟩
        have HB1 := hid (HB.out.trans (hb1.mono HB.out.size))
        clear hb1
        rw [HD.out]
        go_wp2
        go_ret
        exact ⟨ret_int (firstAt_hit hlt HQ.out HA.out).symm, HB1.out⟩
      | false =>
        go_wp2_with fail
        refine (filtCl x y z u a b port B1 B2 B3 _ g1.out g2.out g3.out).mono ?_
        rintro e w1 ⟨rfl, hb1⟩
        have HB1 := hid (HB.out.trans (hb1.mono HB.out.size))
        clear hb1
        rw [HD.out]
        go_wp2
        go_roundw
        case rel =>
          refine ⟨k + 1, by omega, by go_num, fun j hj => ?_, HB1.out⟩
          by_cases e : j = k
          · subst e; exact HQ.out
          · exact HA.out j (by omega)
        case measure => simp [intOf]; omega
    · have e : k = len := by omega
      subst e
      clear hbel
      go_wp2
      go_ret
      exact ⟨ret_int (firstAt_none HA.out).symm, HB.out⟩

set_option maxHeartbeats 400000 in
theorem hasFilt (p : Option Addr) (len cap : Nat) (g : R) (a b port : Int) (B1 B2 B3 : Nat) (w : World) (hr : Row 4 w p len g) (h1 : w.cell? ⟨B1, 0, none⟩ = some (.int .i64 a)) (h2 : w.cell? ⟨B2, 0, none⟩ = some (.int .i64 b)) (h3 : w.cell? ⟨B3, 0, none⟩ = some (.int .i64 port)) :
    Calls Try.prog 80 #[.slice p len cap, .func (.func 81) #[] #[.pointer (some ⟨B1, 0, none⟩), .pointer (some ⟨B2, 0, none⟩), .pointer (some ⟨B3, 0, none⟩)]] w fun e w' => e = .returned (.bool (filt g len a b port)) ∧ Below w.heap.size w w' := by
  have HR := hid hr
  have H1 := hid h1
  have H2 := hid h2
  have H3 := hid h3
  clear hr h1 h2 h3
  unfold filt
  go_enter Try.func80, Try.ntmps80
  go_wp2_with fail
  refine (indexFilt p len cap g a b port B1 B2 B3 _ HR.out H1.out H2.out H3.out).mono ?_
  rintro e w1 ⟨rfl, hb1⟩
  have HB1 := hid hb1
  clear hb1
  go_wp2
  go_ret
  exact ⟨rfl, HB1.out⟩

set_option maxHeartbeats 800000 in
theorem filt_impl (p : Nat → Option Addr) (l c : Nat → Nat) (f : R) (a b port : Int) (w : World) (h : Row 4 w (p 5) (l 5) f) :
    Calls Try.prog 69 #[netV p l c, .int .i64 a, .int .i64 b, .int .i64 port] w fun e' w' => e' = .returned (.bool (filt f (l 5) a b port)) ∧ Below w.heap.size w w' := by
  have HR := hid h
  clear h
  have hmf := mkfunc
  unfold netV
  go_enter Try.func69, Try.ntmps69
  go_wp2_with fail
  refine (hasFilt (p 5) (l 5) (c 5) f a b port _ _ _ _ (HR.out.below (by repeat (first | exact Below.refl _ _ | assumption | refine Below.drew ?_ | refine Below.alloc ?_ (by first | exact Nat.le_refl _ | omega | (simp; done) | (simp; omega)) _ | refine Below.setCell ?_ (by first | exact Nat.le_refl _ | omega | (simp; done) | (simp; omega)) _))) ?_ ?_ ?_).mono ?_
  · simp [go_sem]
  · simp [go_sem]
  · simp [go_sem]
  rintro e w1 ⟨rfl, hb1⟩
  have HB1 := hid ((show Below w.heap.size w _ from (by repeat (first | exact Below.refl _ _ | assumption | refine Below.drew ?_ | refine Below.alloc ?_ (by first | exact Nat.le_refl _ | omega | (simp; done) | (simp; omega)) _ | refine Below.setCell ?_ (by first | exact Nat.le_refl _ | omega | (simp; done) | (simp; omega)) _))).trans (hb1.mono (by simp; omega)))
  clear hb1 hmf
  go_wp2
  go_ret
  exact ⟨rfl, HB1.out⟩

set_option maxHeartbeats 1600000 in
theorem out_impl (p : Nat → Option Addr) (l c : Nat → Nat) (f : R) (a via port : Int) (w : World) (h : Row 4 w (p 5) (l 5) f) :
    Calls Try.prog 46 #[netV p l c, .int .i64 a, .int .i64 via, .int .i64 port] w fun e' w' => e' = .returned (.int .i64 (outAt f (l 5) a via port)) ∧ Below w.heap.size w w' := by
  have HR := hid h
  clear h
  obtain ⟨D, hD⟩ : ∃ D, outAt f (l 5) a via port = D := ⟨_, rfl⟩
  rw [hD]
  have HD := hid hD
  clear hD
  unfold outAt at HD
  by_cases h1 : via = -2
  · have e : D = 1 := by rw [← HD.out, if_pos h1]
    subst e
    have e1 : (via == -2) = true := by simp [h1]
    clear h1
    unfold netV
    go_enter Try.func46, Try.ntmps46
    go_wp2
    go_ret
    exact ⟨rfl, (by repeat (first | exact Below.refl _ _ | assumption | refine Below.drew ?_ | refine Below.alloc ?_ (by first | exact Nat.le_refl _ | omega | (simp; done) | (simp; omega)) _ | refine Below.setCell ?_ (by first | exact Nat.le_refl _ | omega | (simp; done) | (simp; omega)) _))⟩
  rw [if_neg h1] at HD
  have e1 : (via == -2) = false := by simp [h1]
  by_cases h2 : via = -1
  · have e : D = 2 := by rw [← HD.out, if_pos h2]
    subst e
    have e2 : (via == -1) = true := by simp [h2]
    clear h1 h2
    unfold netV
    go_enter Try.func46, Try.ntmps46
    go_wp2
    go_ret
    exact ⟨rfl, (by repeat (first | exact Below.refl _ _ | assumption | refine Below.drew ?_ | refine Below.alloc ?_ (by first | exact Nat.le_refl _ | omega | (simp; done) | (simp; omega)) _ | refine Below.setCell ?_ (by first | exact Nat.le_refl _ | omega | (simp; done) | (simp; omega)) _))⟩
  rw [if_neg h2] at HD
  have e2 : (via == -1) = false := by simp [h2]
  by_cases h3 : via = -3
  · have e : D = 3 := by rw [← HD.out, if_pos h3]
    subst e
    have e3 : (via == -3) = true := by simp [h3]
    clear h1 h2 h3
    unfold netV
    go_enter Try.func46, Try.ntmps46
    go_wp2
    go_ret
    exact ⟨rfl, (by repeat (first | exact Below.refl _ _ | assumption | refine Below.drew ?_ | refine Below.alloc ?_ (by first | exact Nat.le_refl _ | omega | (simp; done) | (simp; omega)) _ | refine Below.setCell ?_ (by first | exact Nat.le_refl _ | omega | (simp; done) | (simp; omega)) _))⟩
  rw [if_neg h3] at HD
  have e3 : (via == -3) = false := by simp [h3]
  clear h1 h2 h3
  unfold netV
  go_enter Try.func46, Try.ntmps46
  go_wp2_with fail
  refine (filt_impl p l c f a via port _ (HR.out.below (by repeat (first | exact Below.refl _ _ | assumption | refine Below.drew ?_ | refine Below.alloc ?_ (by first | exact Nat.le_refl _ | omega | (simp; done) | (simp; omega)) _ | refine Below.setCell ?_ (by first | exact Nat.le_refl _ | omega | (simp; done) | (simp; omega)) _)))).mono ?_
  rintro e w1 ⟨rfl, hb1⟩
  have HB1 := hid ((show Below w.heap.size w _ from (by repeat (first | exact Below.refl _ _ | assumption | refine Below.drew ?_ | refine Below.alloc ?_ (by first | exact Nat.le_refl _ | omega | (simp; done) | (simp; omega)) _ | refine Below.setCell ?_ (by first | exact Nat.le_refl _ | omega | (simp; done) | (simp; omega)) _))).trans (hb1.mono (by simp)))
  clear hb1
  obtain ⟨b, hb⟩ : ∃ b, filt f (l 5) a via port = b := ⟨_, rfl⟩
  rw [hb] at HD ⊢
  clear hb
  cases b with
  | false =>
    have e : D = 0 := by rw [← HD.out, if_neg Bool.false_ne_true]
    subst e
    go_wp2
    go_ret
    exact ⟨rfl, HB1.out⟩
  | true =>
    have e : D = 4 := by rw [← HD.out, if_pos rfl]
    subst e
    go_wp2
    go_ret
    exact ⟨rfl, HB1.out⟩
end Go.Proofs.Ytjdeoiohbbnmeaa.filtImpl
