/- SatImpl; AtAny; Same; DrawnMk: one text, so that the claim has fewer files. -/
import Derived.Test.YtjdeoiohbbnmeaaPart40
import Derived.Test.YtjdeoiohbbnmeaaPart4
import Derived.Test.YtjdeoiohbbnmeaaPart1
import Derived.Test.YtjdeoiohbbnmeaaDrawnSrc
/- Satisfied, of the program, of the two properties that hang on a walk's outcome alone; conditions: a right property, an outcome. -/
namespace Go.Proofs.Ytjdeoiohbbnmeaa.satImpl
open Go.RowKit Go.Deep Go base names netSem propSem netImpl netParts netFace netOKImpl propImpl
set_option linter.unusedVariables false

theorem two_rets {a b : Bool} {x y : Int} (h : a = b) (h' : x = y) : Ending.returned (.tuple #[.bool a, .int .i64 x]) = .returned (.tuple #[.bool b, .int .i64 y]) := by rw [h, h']
set_option maxHeartbeats 1600000 in
theorem so_impl (k fr O : Int) (pa : Option Addr) (pn pc : Nat) (w : World) (hk : k = 1 ∨ k = 2) (hO : 1 ≤ O ∧ O ≤ 4) :
    Calls Try.prog 32 #[.agg #[.int .i64 k, .int .i64 fr, .int .i64 (-1), .int .i64 0], .agg #[.int .i64 O, .slice pa pn pc]] w fun e' w' => e' = .returned (.bool (if k = 1 then decide (O ≤ 2) else !decide (O ≤ 2))) ∧ Below w.heap.size w w' := by
  have hO4 : O = 1 ∨ O = 2 ∨ O = 3 ∨ O = 4 := by omega
  rcases hk with rfl | rfl <;> rcases hO4 with rfl | rfl | rfl | rfl
  all_goals
    clear hO
    go_enter Try.func32, Try.ntmps32
    go_wp2
    go_ret
    exact ⟨rfl, (by repeat (first | exact Below.refl _ _ | assumption | refine Below.drew ?_ | refine Below.alloc ?_ (by first | exact Nat.le_refl _ | omega | (simp; done) | (simp; omega)) _ | refine Below.setCell ?_ (by first | exact Nat.le_refl _ | omega | (simp; done) | (simp; omega)) _))⟩
set_option maxHeartbeats 1600000 in
theorem sat_impl (p : Nat → Option Addr) (l c : Nat → Nat) (s : Ss) (g : R) (o e : List Int) (x f : R) (k fr O : Int) (pa : Option Addr) (pn pc : Nat) (w : World) (h : NetIs w p l s g o e x f) (hc0 : l 0 ≤ c 0) (hc1 : l 1 ≤ c 1) (hp : propB (netB l s g o e x f) (l 0) k fr (-1) 0 = true) (hk : k = 1 ∨ k = 2) (hO : 1 ≤ O ∧ O ≤ 4) :
    Calls Try.prog 12 #[netV p l c, .agg #[.int .i64 k, .int .i64 fr, .int .i64 (-1), .int .i64 0], .agg #[.int .i64 O, .slice pa pn pc]] w fun e' w' => e' = .returned (.tuple #[.bool (if k = 1 then decide (O ≤ 2) else !decide (O ≤ 2)), .int .i64 0]) ∧ Below w.heap.size w w' := by
  have HP : Hid (∀ W : World, Below w.heap.size w W → Calls Try.prog 30 #[netV p l c, .agg #[.int .i64 k, .int .i64 fr, .int .i64 (-1), .int .i64 0]] W fun e' w' => e' = .returned (.bool true) ∧ Below W.heap.size W w') := hid (fun W hb => by
    have := prop_impl p l c s g o e x f k fr (-1) 0 W (h.below hb) hc0 hc1
    rw [hp] at this
    exact this)
  have HS := hid (fun W => so_impl k fr O pa pn pc W hk hO)
  have hin : inB O 1 4 = true := decide_eq_true hO
  have HIn := hid hin
  obtain ⟨B, hB⟩ : ∃ B, (if k = 1 then decide (O ≤ 2) else !decide (O ≤ 2)) = B := ⟨_, rfl⟩
  rw [hB] at HS ⊢
  clear h hc0 hc1 hp hk hO hin hB
  have C1 : ∀ w8 : World, Below (((w.alloc (.cells #[.slice (p 0) (l 0) (c 0), .slice (p 1) (l 1) (c 1), .slice (p 2) (l 2) (c 2), .slice (p 3) (l 3) (c 3), .slice (p 4) (l 4) (c 4), .slice (p 5) (l 5) (c 5)] 29)).alloc (.cells #[.int .i64 k, .int .i64 fr, .int .i64 (-1), .int .i64 0] 49)).alloc (.cells #[.int .i64 O, .slice pa pn pc] 39)).heap.size (((w.alloc (.cells #[.slice (p 0) (l 0) (c 0), .slice (p 1) (l 1) (c 1), .slice (p 2) (l 2) (c 2), .slice (p 3) (l 3) (c 3), .slice (p 4) (l 4) (c 4), .slice (p 5) (l 5) (c 5)] 29)).alloc (.cells #[.int .i64 k, .int .i64 fr, .int .i64 (-1), .int .i64 0] 49)).alloc (.cells #[.int .i64 O, .slice pa pn pc] 39)) w8 →
      w8.cell? ⟨w.heap.size + 1, 0, none⟩ = some (.int .i64 k) ∧ w8.cell? ⟨w.heap.size + 1, 1, none⟩ = some (.int .i64 fr) ∧ w8.cell? ⟨w.heap.size + 1, 2, none⟩ = some (.int .i64 (-1)) ∧ w8.cell? ⟨w.heap.size + 1, 3, none⟩ = some (.int .i64 0) ∧ w8.cell? ⟨w.heap.size + 1 + 1, 0, none⟩ = some (.int .i64 O) ∧ w8.cell? ⟨w.heap.size + 1 + 1, 1, none⟩ = some (.slice pa pn pc) ∧ Below w.heap.size w w8 :=
    fun w8 hb => ⟨keep hb (by simp [go_sem]), keep hb (by simp [go_sem]), keep hb (by simp [go_sem]), keep hb (by simp [go_sem]), keep hb (by simp [go_sem]), keep hb (by simp [go_sem]), (show Below w.heap.size w _ from (by repeat (first | exact Below.refl _ _ | assumption | refine Below.drew ?_ | refine Below.alloc ?_ (by first | exact Nat.le_refl _ | omega | (simp; done) | (simp; omega)) _ | refine Below.setCell ?_ (by first | exact Nat.le_refl _ | omega | (simp; done) | (simp; omega)) _))).trans (hb.mono (by simp; omega))⟩
  have HC1 := hid C1
  clear C1
  unfold netV at HP ⊢
  go_enter Try.func12, Try.ntmps12
  go_wp2_with fail
  refine (HP.out _ (by repeat (first | exact Below.refl _ _ | assumption | refine Below.drew ?_ | refine Below.alloc ?_ (by first | exact Nat.le_refl _ | omega | (simp; done) | (simp; omega)) _ | refine Below.setCell ?_ (by first | exact Nat.le_refl _ | omega | (simp; done) | (simp; omega)) _))).mono ?_
  rintro e' w1 ⟨rfl, hb1⟩
  obtain ⟨x0, x1, x2, x3, y0, y1, hB⟩ := HC1.out w1 hb1
  have B1 := hid hB
  clear hb1 hB HC1 HP
  go_wp2_with (go_at_call 31; refine (within_impl _ _ _ _).mono ?_; rintro e w' ⟨rfl, rfl⟩; rw [HIn.out])
  refine (HS.out _).mono ?_
  rintro e' w2 ⟨rfl, hb2⟩
  have B2 := hid (B1.out.trans (hb2.mono B1.out.size))
  clear hb2
  go_wp2
  go_ret2
  exact ⟨rfl, B2.out⟩
end Go.Proofs.Ytjdeoiohbbnmeaa.satImpl

/- The choice that some bytes make, of the laws: a number below n; conditions: a small place. -/
namespace Go.Proofs.Ytjdeoiohbbnmeaa.atAny
open Go.RowKit Go.Deep Go base source
set_option linter.unusedVariables false

theorem ret_int {a b : Int} (h : a = b) : Ending.returned (.int .i64 a) = .returned (.int .i64 b) := by rw [h]
set_option maxHeartbeats 1600000 in
theorem at_any (i n : Nat) (hi : i ≤ 1000000) (hn : 1 ≤ n) (hn' : n ≤ 256) (a : Option Addr) (len cap : Nat) (w : World) (hb : Bytes w a len) (hl : len ≤ 1048576) :
    Calls Try.prog 8 #[.slice a len cap, .int .i64 (i : Int), .int .i64 (n : Int)] w fun e w' => ∃ r : Nat, e = .returned (.int .i64 r) ∧ r < n ∧ Below w.heap.size w w' := by
  have HB := hid hb
  clear hb
  by_cases h1 : n = 1
  · subst h1
    go_enter Try.func8, Try.ntmps8
    go_wp2
    go_ret
    exact ⟨0, rfl, by omega, (by repeat (first | exact Below.refl _ _ | assumption | refine Below.drew ?_ | refine Below.alloc ?_ (by first | exact Nat.le_refl _ | omega | (simp; done) | (simp; omega)) _ | refine Below.setCell ?_ (by first | exact Nat.le_refl _ | omega | (simp; done) | (simp; omega)) _))⟩
  have hn1 : decide ((n : Int) ≤ 1) = false := decide_eq_false (by omega)
  have hn0 : ((n : Int) == 0) = false := by simp; omega
  have hn2 : (0 : Int) < (n : Int) := by omega
  have hfin : ∀ z : Int, 0 ≤ z % (n : Int) ∧ z % (n : Int) < n := fun z => ⟨Int.emod_nonneg _ (by omega), Int.emod_lt_of_pos _ (by omega)⟩
  have HFin := hid hfin
  clear hfin
  by_cases h0 : len = 0
  · subst h0
    go_enter Try.func8, Try.ntmps8
    go_wp2
    go_ret
    obtain ⟨f0, f1⟩ := HFin.out ((i : Int) * 7)
    exact ⟨((i : Int) * 7 % (n : Int)).toNat, ret_int (by omega), by omega, (by repeat (first | exact Below.refl _ _ | assumption | refine Below.drew ?_ | refine Below.alloc ?_ (by first | exact Nat.le_refl _ | omega | (simp; done) | (simp; omega)) _ | refine Below.setCell ?_ (by first | exact Nat.le_refl _ | omega | (simp; done) | (simp; omega)) _))⟩
  have hq0 : ((len : Int) == 0) = false := by simp; omega
  have hlp : (0 : Int) < (len : Int) := by omega
  obtain ⟨p, hp⟩ : ∃ p : Nat, i % len = p := ⟨_, rfl⟩
  obtain ⟨q, hq⟩ : ∃ q : Nat, (i + 1) % len = q := ⟨_, rfl⟩
  obtain ⟨r, hr⟩ : ∃ r : Nat, i / len = r := ⟨_, rfl⟩
  have hpl : p < len := by rw [← hp]; exact Nat.mod_lt _ (by omega)
  have hql : q < len := by rw [← hq]; exact Nat.mod_lt _ (by omega)
  have hrl : r ≤ 1000000 := by rw [← hr]; exact Nat.le_trans (Nat.div_le_self _ _) hi
  have hp' : (i : Int) % (len : Int) = (p : Int) := by rw [← hp]; simp
  have hq' : ((i : Int) + 1) % (len : Int) = (q : Int) := by rw [← hq]; simp
  have hr' : (i : Int) / (len : Int) = (r : Int) := by rw [← hr]; simp
  clear hp hq hr
  obtain ⟨bb, off, rfl, x, hx, hc⟩ := HB.out p hpl
  obtain ⟨bb', off', he, y, hy, hd⟩ := HB.out q hql
  cases he
  have ip : (p : Int) < (len : Int) := by omega
  have iq : (q : Int) < (len : Int) := by omega
  go_enter Try.func8, Try.ntmps8
  go_wp2
  go_quiet (fail)
  go_wp2
  go_ret
  obtain ⟨f0, f1⟩ := HFin.out ((x : Int) * 31 + (y : Int) + (r : Int))
  have hb := below_drewN w nq
  exact ⟨(((x : Int) * 31 + (y : Int) + (r : Int)) % (n : Int)).toNat, ret_int (by omega), by omega, hb⟩
end Go.Proofs.Ytjdeoiohbbnmeaa.atAny

/- The laws' own helpers that hold lists against each other, where they are the same; conditions: none. -/
namespace Go.Proofs.Ytjdeoiohbbnmeaa.same
open Go.RowKit Go.Deep base
set_option linter.unusedVariables false

set_option maxHeartbeats 400000 in
theorem sameInts (a a' : Option Addr) (len cap cap' : Nat) (zs : List Int) (w : World) (hr : IntRow w a len zs) (hr' : IntRow w a' len zs) :
    Calls Try.prog 11 #[.slice a len cap, .slice a' len cap'] w fun e w' => e = .returned (.bool true) ∧ Below w.heap.size w w' := by
  have hmost := hr.most
  unfold maxLen at hmost
  have HC := hid hr.cell
  have HC' := hid hr'.cell
  clear hr hr'
  have hb : ((len : Int) != (len : Int)) = false := by simp
  go_enter Try.func11, Try.ntmps11
  go_wp2
  go_loopw [5] (fun i wr => ∃ k : Nat, k ≤ len ∧ i = .int .i64 k ∧ ∃ n, wr = w.drewN n) (fun i _ => len - (intOf i).toNat)
  case atStart => exact ⟨0, Nat.zero_le _, rfl, 0, rfl⟩
  case round =>
    obtain ⟨k, hk, rfl, n, hw⟩ := hrel
    by_cases hlt : k < len
    · obtain ⟨b, off, rfl, hc0⟩ := HC.out k hlt
      obtain ⟨b', off', rfl, hc0'⟩ := HC'.out k hlt
      have hc : wr.cell? ⟨b, off + k, none⟩ = some (.int .i64 (zs[k]?.getD 0)) := by rw [hw]; simpa using hc0
      have hc' : wr.cell? ⟨b', off' + k, none⟩ = some (.int .i64 (zs[k]?.getD 0)) := by rw [hw]; simpa using hc0'
      have HW := hid hw
      clear hw hc0 hc0'
      generalize zs[k]?.getD 0 = z at *
      have hq : (z != z) = false := by simp
      go_wp2
      go_quiet (fail)
      go_wp2
      go_roundw
      case rel => exact ⟨k + 1, by omega, by go_num, n + nq, by rw [HW.out, World.drewN_drewN]⟩
      case measure => simp [intOf]; omega
    · have e : k = len := by omega
      subst e
      have HW := hid hw
      clear hw
      go_wp2
      go_ret
      exact ⟨rfl, by rw [HW.out]; exact below_drewN _ _⟩

end Go.Proofs.Ytjdeoiohbbnmeaa.same

/- A region that draws its order, with calls that make new memory and a store into a variable of its own; operations that only reckon may come late; of no program; conditions: none. -/
namespace Go.Proofs.Ytjdeoiohbbnmeaa.drawnMk
open Go Go.RowKit base heldStore drawn drawnLin drawnSrc
set_option linter.unusedVariables false

variable {P : Program} {ops : Array Oper} {Q : Exit → Act → World → Prop}
theorem region_mk {id : Nat} {a : Act} {w : World} (A : (Nat → Value) → Act) (s : Nat → Option Nat) (φ : Nat → Value → World → Prop) (ω : Nat → Value → Prop) (ψ : (Nat → Value) → World → Prop) (W : World) (n st : Nat) (late : Nat → Bool) (u0 : Nat → Value) (ha : a = A u0)
    (hm : P.follows .mixedOrders = true) (hz : ops.size = n) (hup : upC ops = true) (hst : st < n) (hsn : s st = none) (hwaitB : waitB ops st n late = true) (hW : Below W.heap.size W w)
    (hput : ∀ i, i < n → ∀ u v, (A u).put (s i) v = A (updO u (s i) v)) (hinj : ∀ i j, i < n → j < n → i ≠ st → s i = s j → i = j) (hsome : ∀ i, i < n → i ≠ st → s i ≠ none)
    (hω : ∀ i v w, late i = false → φ i v w → ω i v)
    (stable : ∀ i v w w', Below w.heap.size w w' → φ i v w → φ i v w')
    (hψ : ∀ i, i < n → late i = true → ∀ u v w, ψ u w → ψ (updO u (s i) v) w)
    (step : ∀ i, i < n → i ≠ st → late i = false → ∀ u w, Below W.heap.size W w → (∀ j, Region.waitsFor .any ops i j = true → late j = false → φ j (u ((s j).getD 0)) w) → ∃ o, ops[i]? = some o ∧ ∀ K' : Act → World → Prop, Shut (∀ v w', Below w.heap.size w w' → φ i v w' → K' ((A u).put (s i) v) w') → if Region.wanted o (yielded ops (A u).tmps) = true then Oper.wp P o (A u) w K' Q else K' ((A u).put o.dst undef) w)
    (stepL : ∀ i, i < n → i ≠ st → late i = true → ∀ u w, (∀ j, Region.waitsFor .any ops i j = true → j ≠ st → ω j (u ((s j).getD 0))) → ∃ o, ops[i]? = some o ∧ ∀ K' : Act → World → Prop, Shut (∀ v, ω i v → K' ((A u).put (s i) v) w) → if Region.wanted o (yielded ops (A u).tmps) = true then Oper.wp P o (A u) w K' Q else K' ((A u).put o.dst undef) w)
    (store : ∀ u w, Below W.heap.size W w → (∀ j, Region.waitsFor .any ops st j = true → late j = false → φ j (u ((s j).getD 0)) w) → ∃ o, ops[st]? = some o ∧ ∀ K' : Act → World → Prop, Shut (∀ v w', ψ u w' → K' ((A u).put none v) w') → if Region.wanted o (yielded ops (A u).tmps) = true then Oper.wp P o (A u) w K' Q else K' ((A u).put o.dst undef) w)
    (fin : ∀ u w, ψ u w → (∀ j, j < n → j ≠ st → ω j (u ((s j).getD 0))) → Q .normal (A u) w) :
    (Code.region id ops true).wp P Q a w := by
  have hwait := waitB_spec hwaitB
  subst ha
  refine wp_region_any hm ?_
  rw [hz]
  refine any_free (Inv := fun L u w8 => (L st = false → Below W.heap.size W w8 ∧ ∀ j, j < n → j ≠ st → late j = false → L j = true → φ j (u ((s j).getD 0)) w8) ∧ (L st = true → ψ u w8) ∧ (L st = true → ∀ j, Region.waitsFor .any ops st j = true → L j = true) ∧ ∀ j, j < n → j ≠ st → L j = true → ω j (u ((s j).getD 0))) hz hup hput ?_ ?_ _ _ _ _ ?_ (by simp) ?_
  · intro i hi L u w8 hLi hwt hI
    obtain ⟨h1, h2, h3, h4⟩ := hI
    have lt : ∀ j, Region.waitsFor .any ops i j = true → j < i := fun j hj => by
      obtain ⟨oj, hoj, e, he, hb, hon⟩ := Region.waitsFor_spec hj
      have h5 := upC_spec hup hoj e he hb
      rw [hon] at h5
      exact h5
    by_cases ei : i = st
    · subst ei
      obtain ⟨g1, g2⟩ := h1 hLi
      obtain ⟨o, ho, h⟩ := store u w8 g1 (fun j hj hl => g2 j (by have := lt j hj; omega) (by have := lt j hj; omega) hl (hwt j hj))
      refine ⟨o, ho, fun K' hK => h K' fun v w' hψ' => ?_⟩
      have := hK.out v w' ⟨fun hq => (by rw [come_same] at hq; cases hq), fun _ => (by rw [hsn]; exact hψ'), fun _ j hj => come_old (hwt j hj), fun j hj hne hl => (by
        rw [come_ne hne] at hl
        rw [hsn]
        exact h4 j hj hne hl)⟩
      rw [hsn] at this
      exact this
    · obtain ⟨k, hk⟩ : ∃ k, s i = some k := by
        cases hh : s i with
        | none => exact absurd hh (hsome i hi ei)
        | some k => exact ⟨k, rfl⟩
      have ne' : ∀ j, j < n → j ≠ st → j ≠ i → ((s j).getD 0) ≠ k := fun j hj hjs hji e => by
        cases hh : s j with
        | none => exact hsome j hj hjs hh
        | some k' =>
          rw [hh] at e
          have e2 : k' = k := e
          exact hji (hinj j i hj hi hjs (by rw [hh, hk, e2]))
      cases hl : late i with
      | false =>
        have hLs : L st = false := by
          cases hb : L st with
          | false => rfl
          | true => rw [h3 hb i (hwait i hi ei hl)] at hLi; cases hLi
        obtain ⟨g1, g2⟩ := h1 hLs
        obtain ⟨o, ho, h⟩ := step i hi ei hl u w8 g1 (fun j hj hlj => g2 j (by have := lt j hj; omega) (fun e => by rw [e] at hj; rw [hwt st hj] at hLs; cases hLs) hlj (hwt j hj))
        refine ⟨o, ho, fun K' hK => h K' fun v w' hc hv => hK.out v w' ⟨fun _ => ⟨g1.trans (hc.mono g1.size), fun j hj hne hlj hl' => ?_⟩, fun hq => (by rw [come_ne (Ne.symm ei), hLs] at hq; cases hq), fun hq => (by rw [come_ne (Ne.symm ei), hLs] at hq; cases hq), fun j hj hne hl' => ?_⟩⟩
        · by_cases e : j = i
          · subst e; rw [hk]; simp only [updO, Option.getD_some]; rw [upd_same]; exact hv
          · rw [come_ne e] at hl'
            rw [hk]; simp only [updO]; rw [upd_ne _ _ (ne' j hj hne e)]
            exact stable j _ _ _ hc (g2 j hj hne hlj hl')
        · by_cases e : j = i
          · subst e; rw [hk]; simp only [updO, Option.getD_some]; rw [upd_same]; exact hω j v w' hl hv
          · rw [come_ne e] at hl'
            rw [hk]; simp only [updO]; rw [upd_ne _ _ (ne' j hj hne e)]
            exact h4 j hj hne hl'
      | true =>
        obtain ⟨o, ho, h⟩ := stepL i hi ei hl u w8 (fun j hj hne => h4 j (by have := lt j hj; omega) hne (hwt j hj))
        refine ⟨o, ho, fun K' hK => h K' fun v hv => hK.out v w8 ⟨fun hq => ?_, fun hq => ?_, fun hq j hj => ?_, fun j hj hne hl' => ?_⟩⟩
        · rw [come_ne (Ne.symm ei)] at hq
          obtain ⟨g1, g2⟩ := h1 hq
          refine ⟨g1, fun j hj hne hlj hl' => ?_⟩
          have e : j ≠ i := fun e => by rw [e, hl] at hlj; cases hlj
          rw [come_ne e] at hl'
          rw [hk]; simp only [updO]; rw [upd_ne _ _ (ne' j hj hne e)]
          exact g2 j hj hne hlj hl'
        · rw [come_ne (Ne.symm ei)] at hq; exact hψ i hi hl u v w8 (h2 hq)
        · rw [come_ne (Ne.symm ei)] at hq; exact come_old (h3 hq j hj)
        · by_cases e : j = i
          · subst e; rw [hk]; simp only [updO, Option.getD_some]; rw [upd_same]; exact hv
          · rw [come_ne e] at hl'
            rw [hk]; simp only [updO]; rw [upd_ne _ _ (ne' j hj hne e)]
            exact h4 j hj hne hl'
  · intro L u w8 hall hI
    exact fin u w8 (hI.2.1 (hall st hst)) (fun j hj hne => hI.2.2.2 j hj hne (hall j hj))
  · simp [falses_replicate]
  · have : (fun j => (Array.replicate n false).getD j false) = fun _ => false := by funext j; exact getD_replicate_false _ _
    rw [this]
    exact ⟨fun _ => ⟨hW.drew, fun j _ _ _ h => (by cases h)⟩, fun h => (by cases h), fun h => (by cases h), fun j _ _ h => (by cases h)⟩
end Go.Proofs.Ytjdeoiohbbnmeaa.drawnMk
