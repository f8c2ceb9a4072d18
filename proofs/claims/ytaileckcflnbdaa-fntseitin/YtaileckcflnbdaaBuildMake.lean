/- The literal of an expression, of the specification's maker; conditions: a right expression, its variables inputs, not too many gates. -/
import Derived.Test.YtaileckcflnbdaaBuildAnd
import Derived.Test.YtaileckcflnbdaaBuildTree
import Derived.Test.YtaileckcflnbdaaIntsOwn
namespace Go.Proofs.Ytaileckcflnbdaa.buildMake
open Go.RowKit Go.Deep Go base copy trees buildSem buildTree buildAnd heldStore intsOwn
set_option linter.unusedVariables false

theorem own_empty (B N : Nat) (w : World) (hB : B ≤ w.heap.size) (hN : w.heap.size = N) : OwnInts B (w.alloc (.cells #[] 3)) (.slice (some ⟨N, 0, none⟩) 0 0) [] := by
  subst hN
  refine ⟨rfl, .inr ⟨w.heap.size, 0, #[], rfl, hB, ?_, Nat.le_refl _, Nat.zero_le _, rfl, rfl⟩⟩
  show (w.heap.push _)[w.heap.size]? = _
  simp
theorem cell_one (w : World) (x : Value) (t : TypeId) : ∀ (j : Nat) (u : Value), [x][j]? = some u → (w.alloc (.cells #[x] t)).cell? ((⟨w.heap.size, 0, none⟩ : Addr).add j) = some u := by
  intro j u h
  match j, h with
  | 0, h => cases h; simp [Addr.add, go_sem]
  | _ + 1, h => simp at h
theorem new_apart {w : World} {v v1 : Value} {g : Nat} (h : New w v v1) (hv : some g ≠ v.ownBlock) (hg : g < w.heap.size) : some g ≠ v1.ownBlock := by
  rcases h with h | ⟨g', hg', h⟩
  · rw [h]; exact hv
  · rw [h]; intro e; injection e with e; omega
theorem Mk.grown {ty : TypeId} {M B : Nat} {n : Int} {gs : Gl} {v : Value} {w w1 : World} {row : Option Nat} (h : Mk ty M B n gs v w) (hg : w.grownBy w1 row) (h1 : some M ≠ row) (h2 : ∀ g, v.ownBlock = some g → some g ≠ row) : Mk ty M B n gs v w1 :=
  ⟨World.rowIs.of_block h.two (hg.block _ (World.rowIs.lt h.two) h1), own_kept h.own fun g hgb => hg.block g (World.ownsRow.lt h.own g hgb).2 (h2 g hgb), h.lt, Nat.le_trans h.le hg.size⟩
theorem Chg.grown {M : Nat} {v : Value} {w w1 w2 : World} {row : Option Nat} (h : Chg M v w w1) (hg : w1.grownBy w2 row) (hr : ∀ g, row = some g → w.heap.size ≤ g) : Chg M v w w2 :=
  ⟨hg.os.trans h.os, hg.tape.trans h.tape, hg.output.trans h.output, Nat.le_trans h.size hg.size, fun j hj h1 h2 => (hg.block j (Nat.lt_of_lt_of_le hj h.size) (fun e => by have := hr j e.symm; omega)).trans (h.block j hj h1 h2)⟩

set_option maxHeartbeats 800000 in
theorem or_spec (M B : Nat) (n : Int) (gs : Gl) (v : Value) (a b : Int) (w : World) (hm : Mk 56 M B n gs v w) (hn0 : 0 ≤ n) (hn : n ≤ 12) (hl : gs.length ≤ 1000000) (ha : In n gs a) (hb : In n gs b) :
    Calls Try.prog 36 #[.pointer (some ⟨M, 0, none⟩), .int .i64 a, .int .i64 b] w fun e w' => ∃ v', e = .returned (.int .i64 (orL n gs a b).1) ∧ Mk 56 M B n (orL n gs a b).2 v' w' ∧ Chg M v w w' ∧ New w v v' := by
  have HM := hid hm
  have HA := hid ha
  have HB := hid hb
  have HR := hid (and_in n gs (notL a) (notL b) hn0 (not_in ha) (not_in hb))
  have a1 := ha.1
  have a2 := ha.2
  have b1 := hb.1
  have b2 := hb.2
  clear hm ha hb
  go_enter Try.func36, Try.ntmps36
  go_wp2_with fail
  refine (not_spec a _ (by omega) (by omega)).mono ?_
  rintro e w' ⟨rfl, hw'⟩
  have hw' := hw'.symm
  subst hw'
  go_wp2_with fail
  refine (not_spec b _ (by omega) (by omega)).mono ?_
  rintro e w' ⟨rfl, hw'⟩
  have hw' := hw'.symm
  subst hw'
  go_wp2_with fail
  refine (and_spec M B n gs v (notL a) (notL b) _ HM.out hn0 hn hl (not_in HA.out) (not_in HB.out)).mono ?_
  rintro e w2 ⟨v2, rfl, hmk, hch, hnw⟩
  have H1 := hid hmk
  have H2 := hid hch
  have H3 := hid hnw
  clear hmk hch hnw
  go_wp2_with fail
  refine (not_spec _ _ HR.out.1.1 (by have h1 := HR.out.1.2; have h2 := HR.out.2.2; omega)).mono ?_
  rintro e w' ⟨rfl, hw'⟩
  have hw' := hw'.symm
  subst hw'
  go_wp2
  go_ret
  exact ⟨v2, rfl, H1.out, H2.out, H3.out⟩

def MakeAt (M B : Nat) (n : Int) (d : Nat) : Prop := ∀ (t : T) (gs : Gl) (v : Value) (a : Option Addr) (l c : Nat) (w : World), Mk 56 M B n gs v w → Rd (fun b => b < M) 1048576 w d t a l → OkT n d t → gs.length + 3 * size d t ≤ 1000000 →
    Calls Try.prog 18 #[.pointer (some ⟨M, 0, none⟩), .agg #[.int .i64 (kd t), .int .i64 (nn t), .slice a l c]] w fun e w' => ∃ v', e = .returned (.int .i64 (makeT n d t gs).1) ∧ Mk 56 M B n (makeT n d t gs).2 v' w' ∧ Chg M v w w' ∧ New w v v'

set_option maxHeartbeats 6400000 in
set_option maxRecDepth 8000 in
theorem make_spec (M B : Nat) (n : Int) (hn0 : 0 ≤ n) (hn : n ≤ 12) (d : Nat) : MakeAt M B n d := by
  induction d using Nat.strongRecOn with
  | _ d ih =>
  intro t gs v a l c w hm hr hok hsz
  have HM := hid hm
  have HR := hid hr
  have HOk := hid hok
  have HIH := hid ih
  have HH := hok.here
  have hll := hr.len
  have hzz0 := size_sum (d := d) (t := t) (fun e => hok.zero e)
  have HSz := hid hzz0
  unfold Here at HH
  clear hm hr hok ih hzz0
  by_cases h1 : kd t = 1
  · have HRes : Hid (makeT n d t gs = (2 * (nn t + 1), gs)) := hid (makeT_var n d t gs h1)
    have d1 : (kd t == 1) = true := by simp [h1]
    have b0 : 0 ≤ nn t := by omega
    have b1 : nn t ≤ 12 := by omega
    clear HH h1
    go_enter Try.func18, Try.ntmps18
    go_wp2
    go_ret
    exact ⟨v, by rw [HRes.out]; rfl, by rw [HRes.out]; exact HM.out.below (by repeat (first | exact Below.refl _ _ | assumption | refine Below.drew ?_ | refine Below.alloc ?_ (by first | exact Nat.le_refl _ | omega | (simp; done) | (simp; omega)) _ | refine Below.setCell ?_ (by first | exact Nat.le_refl _ | omega | (simp; done) | (simp; omega)) _)), Chg.of_below (by repeat (first | exact Below.refl _ _ | assumption | refine Below.drew ?_ | refine Below.alloc ?_ (by first | exact Nat.le_refl _ | omega | (simp; done) | (simp; omega)) _ | refine Below.setCell ?_ (by first | exact Nat.le_refl _ | omega | (simp; done) | (simp; omega)) _)), New.refl _ _⟩
  have d1 : (kd t == 1) = false := by simp [h1]
  by_cases h2 : kd t = 2
  · have HRes : Hid (makeT n d t gs = (nn t, gs)) := hid (makeT_const n d t gs h2)
    have d2 : (kd t == 2) = true := by simp [h2]
    clear HH h1 h2
    go_enter Try.func18, Try.ntmps18
    go_wp2
    go_ret
    exact ⟨v, by rw [HRes.out]; rfl, by rw [HRes.out]; exact HM.out.below (by repeat (first | exact Below.refl _ _ | assumption | refine Below.drew ?_ | refine Below.alloc ?_ (by first | exact Nat.le_refl _ | omega | (simp; done) | (simp; omega)) _ | refine Below.setCell ?_ (by first | exact Nat.le_refl _ | omega | (simp; done) | (simp; omega)) _)), Chg.of_below (by repeat (first | exact Below.refl _ _ | assumption | refine Below.drew ?_ | refine Below.alloc ?_ (by first | exact Nat.le_refl _ | omega | (simp; done) | (simp; omega)) _ | refine Below.setCell ?_ (by first | exact Nat.le_refl _ | omega | (simp; done) | (simp; omega)) _)), New.refl _ _⟩
  have d2 : (kd t == 2) = false := by simp [h2]
  have HMake := hid (makeT_op n d t gs h1 h2 (fun e => HOk.out.zero e))
  have hd : 0 < d := by
    rcases Nat.eq_zero_or_pos d with e | e
    · have := HOk.out.zero e
      omega
    · exact e
  have hl3 : 1 ≤ l ∧ l ≤ 3 := by omega
  have HFine := hid (fun k (hk : k ≤ l) => row_fine (n := n) (makeT n (d - 1)) t (fun i => size (d - 1) (kid t i)) gs k (fun i hi gs' => make_fine hn0 (d - 1) (kid t i) gs' (HOk.out.kid (by omega))))
  have HSum : Hid (∀ k, k ≤ l → sumTo (fun i => size (d - 1) (kid t i)) k + 1 ≤ size d t) := hid (fun k hk => by
    have := sumTo_le (f := fun i => size (d - 1) (kid t i)) hk
    rw [HSz.out, hll]
    omega)
  obtain ⟨i0, hi0, hzz⟩ := Option.map_eq_some_iff.1 Try.info_int
  simp only [Prod.mk.injEq] at hzz
  obtain ⟨hz0, hz1, hz2⟩ := hzz
  have HI := hid hi0
  have HZ0 := hid hz0
  have HZ1 := hid hz1
  have HZ2 := hid hz2
  have HHh := hid HH
  clear hi0 hz0 hz1 hz2 h1 h2 HH
  have hMw : M < w.heap.size := by have := HM.out.lt; have := HM.out.le; omega
  have hvw : ∀ g, v.ownBlock = some g → B ≤ g ∧ g < w.heap.size := World.ownsRow.lt HM.out.own
  have HVW := hid hvw
  clear hvw
  go_enter Try.func18, Try.ntmps18
  go_wp2
  go_loopw [6, 5] (fun i kv0 wr => ∃ (k : Nat) (v1 : Value) (ka : Option Addr) (kc : Nat), k ≤ l ∧ i = .int .i64 k ∧ kv0 = .slice ka k kc ∧ Mk 56 M B n (makeRow (makeT n (d - 1)) t k gs).2 v1 wr ∧ Chg M v (w.alloc (.cells #[.int .i64 (kd t), .int .i64 (nn t), .slice a l c] 25)) wr ∧ New (w.alloc (.cells #[.int .i64 (kd t), .int .i64 (nn t), .slice a l c] 25)) v v1 ∧ OwnInts (w.heap.size + 1) wr (Value.slice ka k kc) (makeRow (makeT n (d - 1)) t k gs).1 ∧ (∀ g, (Value.slice ka k kc).ownBlock = some g → some g ≠ v1.ownBlock)) (fun i _ _ => l - (intOf i).toNat)
  case atStart =>
    refine ⟨0, v, _, _, Nat.zero_le _, rfl, rfl, HM.out.below (by repeat (first | exact Below.refl _ _ | assumption | refine Below.drew ?_ | refine Below.alloc ?_ (by first | exact Nat.le_refl _ | omega | (simp; done) | (simp; omega)) _ | refine Below.setCell ?_ (by first | exact Nat.le_refl _ | omega | (simp; done) | (simp; omega)) _)), Chg.of_below (by repeat (first | exact Below.refl _ _ | assumption | refine Below.drew ?_ | refine Below.alloc ?_ (by first | exact Nat.le_refl _ | omega | (simp; done) | (simp; omega)) _ | refine Below.setCell ?_ (by first | exact Nat.le_refl _ | omega | (simp; done) | (simp; omega)) _)), New.refl _ _, own_empty _ _ _ (by simp) (by simp), fun g hg e => ?_⟩
    have := (HVW.out g e.symm).2
    have hg' : some (w.heap.size + 1) = some g := hg
    injection hg' with hg'
    omega
  case round =>
    obtain ⟨k, v1, ka, kc, hk, rfl, rfl, hmk, hch, hnw, hown, hap⟩ := hrel
    have HMk := hid hmk
    have HCh := hid hch
    have HNw := hid hnw
    have HOw := hid hown
    have HAp := hid hap
    have hbw : some w.heap.size ≠ v.ownBlock := fun e => by have := (HVW.out _ e.symm).2; omega
    have x0 : wr.cell? ⟨w.heap.size, 0, none⟩ = some (.int .i64 (kd t)) := hch.cell (by omega) hbw (by simp [go_sem])
    have x2 : wr.cell? ⟨w.heap.size, 2, none⟩ = some (.slice a l c) := hch.cell (by omega) hbw (by simp [go_sem])
    have hszr := hch.size
    simp at hszr
    have hFk := HFine.out k hk
    have hSk := HSum.out k hk
    have HRowL := hid (row_len (makeT n (d - 1)) t gs k)
    clear hmk hch hnw hown hap
    by_cases hlt : k < l
    · obtain ⟨hd0, b, off, rfl, hbM, y0, y1, a', l', c', y2, hx⟩ := HR.out.cell hlt
      have HQ : Hid (∀ b' o u, b' < M → w.cell? ⟨b', o, none⟩ = some u → wr.cell? ⟨b', o, none⟩ = some u) := hid (fun b' o u hb' hu => HCh.out.cell (by omega) (fun e => by have := (HVW.out _ e.symm).1; have := HM.out.lt; omega) (keep (show Below w.heap.size w _ from (by repeat (first | exact Below.refl _ _ | assumption | refine Below.drew ?_ | refine Below.alloc ?_ (by first | exact Nat.le_refl _ | omega | (simp; done) | (simp; omega)) _ | refine Below.setCell ?_ (by first | exact Nat.le_refl _ | omega | (simp; done) | (simp; omega)) _))) hu))
      replace y0 := HQ.out _ _ _ hbM y0
      replace y1 := HQ.out _ _ _ hbM y1
      replace y2 := HQ.out _ _ _ hbM y2
      have HX : Hid (Rd (fun b => b < M) 1048576 wr (d - 1) (kid t k) a' l') := hid (hx.kept fun b' o u hq hu => ⟨HQ.out _ _ _ hq hu, hq⟩)
      have HOkk := hid (HOk.out.kid (i := k) (by omega))
      have hSk1 := HSum.out (k + 1) (by omega)
      have hbd : (makeRow (makeT n (d - 1)) t k gs).2.length + 3 * size (d - 1) (kid t k) ≤ 1000000 := by
        have h1 := hFk.2.1
        simp only [sumTo] at hSk1
        omega
      have HG1 : Hid ((makeRow (makeT n (d - 1)) t (k + 1) gs).1 = (makeRow (makeT n (d - 1)) t k gs).1 ++ [(makeT n (d - 1) (kid t k) (makeRow (makeT n (d - 1)) t k gs).2).1]) := hid rfl
      have HG2 : Hid ((makeRow (makeT n (d - 1)) t (k + 1) gs).2 = (makeT n (d - 1) (kid t k) (makeRow (makeT n (d - 1)) t k gs).2).2) := hid rfl
      have HCall := hid (fun w8 h1 h2 => HIH.out (d - 1) (by omega) (kid t k) (makeRow (makeT n (d - 1)) t k gs).2 v1 a' l' c' w8 h1 h2 HOkk.out hbd)
      clear hx hFk hSk hSk1 hbd
      go_wp2_with fail
      refine (HCall.out _ HMk.out HX.out).mono ?_
      rintro e w2 ⟨v2, rfl, hmk, hch, hnw⟩
      rw [← HG2.out] at hmk
      obtain ⟨z, hz⟩ : ∃ z, (makeT n (d - 1) (kid t k) (makeRow (makeT n (d - 1)) t k gs).2).1 = z := ⟨_, rfl⟩
      rw [hz] at HG1 ⊢
      have HM2 := hid hmk
      have hkM : ∀ g, (Value.slice ka k kc).ownBlock = some g → g ≠ M ∧ w.heap.size + 1 ≤ g ∧ g < wr.heap.size := fun g hg => by
        have := World.ownsRow.lt HOw.out g hg
        omega
      have HO2 : Hid (OwnInts (w.heap.size + 1) w2 (Value.slice ka k kc) (makeRow (makeT n (d - 1)) t k gs).1) := hid (own_kept HOw.out fun g hg => hch.block g (hkM g hg).2.2 (hkM g hg).1 (HAp.out g hg))
      have HC2 := hid (HCh.out.trans HNw.out hch)
      have HN2 := hid (HNw.out.trans hnw HCh.out.size)
      have HA2 : Hid (∀ g, (Value.slice ka k kc).ownBlock = some g → some g ≠ v2.ownBlock) := hid (fun g hg => new_apart hnw (HAp.out g hg) (hkM g hg).2.2)
      have HKM := hid hkM
      have hs2 := hch.size
      clear hmk hch hnw hz hkM HCall HX HQ y0 y1 y2 x0 x2
      have HA3 : Hid (Below w2.heap.size w2 (w2.alloc (.cells #[.int .i64 z] 3))) := hid (by repeat (first | exact Below.refl _ _ | assumption | refine Below.drew ?_ | refine Below.alloc ?_ (by first | exact Nat.le_refl _ | omega | (simp; done) | (simp; omega)) _ | refine Below.setCell ?_ (by first | exact Nat.le_refl _ | omega | (simp; done) | (simp; omega)) _))
      go_wp2_with (at_builtin; (refine wpList_append_own_at _ rfl _ _ 30 rfl (w.heap.size + 1) 3 i0 (.int .i64 0) 1 8 Try.underlying30 HI.out HZ0.out HZ1.out HZ2.out rfl (by decide) _ _ _ rfl (OwnInts.below HO2.out HA3.out) ⟨w2.heap.size, 0, none⟩ 1 1 [.int .i64 z] rfl rfl (cell_one _ _ _) (fun x hx => by simp at hx; subst hx; rfl) (by rw [HRowL.out]; unfold maxLen; omega) (by rw [HRowL.out]; omega) (by simp; omega) ?_); intro v3 w3 hown3 hg3 hnil3 hat3)
      have HM3 := hid (Mk.grown (HM2.out.below HA3.out) hg3 (fun e => (HKM.out M e.symm).1 rfl) (fun g hg e => HA2.out g e.symm hg.symm))
      have HC3 := hid (Chg.grown (HC2.out.trans HN2.out (Chg.of_below HA3.out)) hg3 (fun g hg => by have := (HKM.out g hg).2.1; simp; omega))
      have HO3 : Hid (OwnInts (w.heap.size + 1) w3 v3 (makeRow (makeT n (d - 1)) t (k + 1) gs).1) := hid (by
        rw [HG1.out]
        unfold OwnInts
        rw [List.length_append, List.map_append]
        exact hown3)
      have HA4 : Hid (∀ g, v3.ownBlock = some g → some g ≠ v2.ownBlock) := hid (fun g hg => by
        rcases hat3 with e | e
        · exact HA2.out g (e.symm.trans hg)
        · intro e2
          rw [e] at hg
          injection hg with hg
          have := (World.ownsRow.lt HM2.out.own g e2.symm).2
          simp at hg
          omega)
      clear hown3 hg3 hnil3 hat3
      obtain ⟨a3, c3, e3, -⟩ := HO3.out.form
      rw [row_len] at e3
      subst e3
      go_wp2
      go_roundw
      case rel => exact ⟨k + 1, v2, a3, c3, by omega, by go_num, rfl, HM3.out, HC3.out, HN2.out, HO3.out, HA4.out⟩
      case measure => simp [intOf]; omega
    · have ek : k = l := by omega
      subst ek
      have HMk0 : Hid (makeT n d t gs = opL n (kd t) (makeRow (makeT n (d - 1)) t k gs).2 (makeRow (makeT n (d - 1)) t k gs).1) := hid (by rw [HMake.out, hll])
      have hbd : (makeRow (makeT n (d - 1)) t k gs).2.length + 3 ≤ 1000000 := by
        have h1 := hFk.2.1
        omega
      have HIn0 := hid hFk.2.2
      clear HMake HIH HR HOk HFine HSum hFk hSk
      generalize (makeRow (makeT n (d - 1)) t k gs).2 = gs1 at *
      generalize (makeRow (makeT n (d - 1)) t k gs).1 = ks at *
      obtain ⟨gk, rfl⟩ : ∃ gk, ka = some ⟨gk, 0, none⟩ := by
        rcases HOw.out.2 with ⟨_, h0⟩ | ⟨g, cap, cur, e, _⟩
        · rw [HRowL.out] at h0; omega
        · injection e with e1 e2 e3
          exact ⟨g, e1⟩
      have hkl := World.ownsRow.lt HOw.out gk rfl
      have hap1 : some gk ≠ v1.ownBlock := HAp.out gk rfl
      have hgk1 : gk < wr.heap.size := hkl.2
      have hgM : gk ≠ M := by omega
      have hoh := own_holds HOw.out
      obtain ⟨z0, hz0⟩ : ∃ z, at0 ks 0 = z := ⟨_, rfl⟩
      obtain ⟨z1, hz1⟩ : ∃ z, at0 ks 1 = z := ⟨_, rfl⟩
      obtain ⟨z2, hz2⟩ : ∃ z, at0 ks 2 = z := ⟨_, rfl⟩
      have HC : Hid (∀ j, j < k → wr.cell? ⟨gk, j, none⟩ = some (.int .i64 (if j = 0 then z0 else if j = 1 then z1 else z2))) := hid (fun j hj => by
        have h1 := (hoh.2 j hj).1
        rw [Nat.zero_add] at h1
        rw [h1]
        obtain rfl | rfl | rfl : j = 0 ∨ j = 1 ∨ j = 2 := by omega
        · rw [← hz0]; rfl
        · rw [← hz1]; rfl
        · rw [← hz2]; rfl)
      have HIn : Hid (∀ j, j < k → In n gs1 (if j = 0 then z0 else if j = 1 then z1 else z2)) := hid (fun j hj => by
        have h1 := HIn0.out j hj
        obtain rfl | rfl | rfl : j = 0 ∨ j = 1 ∨ j = 2 := by omega
        · rw [← hz0]; exact h1
        · rw [← hz1]; exact h1
        · rw [← hz2]; exact h1)
      have HZe : Hid (at0 ks 0 = z0 ∧ at0 ks 1 = z1 ∧ at0 ks 2 = z2) := hid ⟨hz0, hz1, hz2⟩
      have HM1 := hid HMk.out
      have HCh1 := hid HCh.out
      have HNw1 := hid HNw.out
      have hlt' : decide (k < k) = false := decide_eq_false (by omega)
      clear hoh HOw HAp HMk HCh HNw HIn0 hkl hlt hz0 hz1 hz2
      by_cases hkd : kd t = 3
      · have hk1 : k = 1 := by have := HHh.out; omega
        have t3 : (kd t == 3) = true := by simp [hkd]
        have HRes : Hid (makeT n d t gs = (notL z0, gs1)) := hid (by rw [HMk0.out]; unfold opL; rw [if_pos hkd, HZe.out.1])
        have c0 : wr.cell? ⟨gk, 0, none⟩ = some (.int .i64 z0) := HC.out 0 (by omega)
        have I0 : Hid (In n gs1 z0) := hid (HIn.out 0 (by omega))
        clear hkd
        go_wp2_with fail
        refine (not_spec z0 _ I0.out.1 (by have := I0.out.2; omega)).mono ?_
        rintro e w' ⟨rfl, hw'⟩
        have hw' := hw'.symm
        subst hw'
        go_wp2
        go_ret
        exact ⟨_, by rw [HRes.out]; rfl, by rw [HRes.out]; exact HM1.out, (Chg.of_below (by repeat (first | exact Below.refl _ _ | assumption | refine Below.drew ?_ | refine Below.alloc ?_ (by first | exact Nat.le_refl _ | omega | (simp; done) | (simp; omega)) _ | refine Below.setCell ?_ (by first | exact Nat.le_refl _ | omega | (simp; done) | (simp; omega)) _))).trans (New.refl _ _) HCh1.out, (New.refl w v).trans HNw1.out (by simp)⟩
      by_cases hkd : kd t = 4
      · have hk1 : k = 2 := by have := HHh.out; omega
        have t3 : (kd t == 3) = false := by simp [hkd]
        have t4 : (kd t == 4) = true := by simp [hkd]
        have HRes : Hid (makeT n d t gs = andL n gs1 z0 z1) := hid (by rw [HMk0.out]; unfold opL; rw [if_neg (by omega), if_pos hkd, HZe.out.1, HZe.out.2.1])
        have I0 : Hid (In n gs1 z0) := hid (HIn.out 0 (by omega))
        have I1 : Hid (In n gs1 z1) := hid (HIn.out 1 (by omega))
        have HKC1 : Hid (∀ w8 : World, Below wr.heap.size wr w8 → w8.cell? ⟨gk, 0, none⟩ = some (.int .i64 z0) ∧ w8.cell? ⟨gk, 1, none⟩ = some (.int .i64 z1) ∧ True) := hid (fun w8 hb => ⟨keep hb (HC.out 0 (by omega)), keep hb (HC.out 1 (by omega)), trivial⟩)
        clear hkd
        go_wp2
        refine region_goes 8 9 (fun w' => w'.cell? ⟨gk, 0, none⟩ = some (.int .i64 z0) ∧ w'.cell? ⟨gk, 1, none⟩ = some (.int .i64 z1) ∧ True) (by kernel_rfl) (by rfl) ⟨by kernel_rfl, by kernel_rfl, by kernel_rfl, by decide⟩ (HKC1.out _ (below_drewN _ 1)) (fun hE inv hHeld => ?_)
        refine Goes.take (i := 0) (v := ?vuk40) (some 51) hE rfl rfl inv (by kernel_rfl) (by kernel_rfl) (by decide) (fun _ _ _ h => h) (Or.inl ⟨by rfl, ?yuk40⟩) (by assumption) (fun inv => ?ruk40)
        case yuk40 => (intro w' hSw; (try dsimp only at hSw); obtain ⟨s0, s1, s2⟩ := hSw; go_simp; (try with_reducible rfl))
        simp only [Act.put, List.setIfInBounds_toArray, List.set_cons_zero, List.set_cons_succ]
        refine Goes.take (i := 1) (v := ?vuk41) (some 52) hE rfl rfl inv (by kernel_rfl) (by kernel_rfl) (by decide) (fun _ _ _ h => h) (Or.inl ⟨by rfl, ?yuk41⟩) (by assumption) (fun inv => ?ruk41)
        case yuk41 => (intro w' hSw; (try dsimp only at hSw); obtain ⟨s0, s1, s2⟩ := hSw; go_simp; (try with_reducible rfl))
        simp only [Act.put, List.setIfInBounds_toArray, List.set_cons_zero, List.set_cons_succ]
        refine Goes.take (i := 2) (v := ?vuk42) (some 53) hE rfl rfl inv (by kernel_rfl) (by kernel_rfl) (by decide) (fun _ _ _ h => h) (Or.inl ⟨by rfl, ?yuk42⟩) (by assumption) (fun inv => ?ruk42)
        case yuk42 => (intro w' hSw; (try dsimp only at hSw); obtain ⟨s0, s1, s2⟩ := hSw; go_simp; (try with_reducible rfl))
        simp only [Act.put, List.setIfInBounds_toArray, List.set_cons_zero, List.set_cons_succ]
        refine Goes.take (i := 3) (v := ?vuk43) (some 54) hE rfl rfl inv (by kernel_rfl) (by kernel_rfl) (by decide) (fun _ _ _ h => h) (Or.inl ⟨by rfl, ?yuk43⟩) (by assumption) (fun inv => ?ruk43)
        case yuk43 => (intro w' hSw; (try dsimp only at hSw); obtain ⟨s0, s1, s2⟩ := hSw; go_simp; (try with_reducible rfl))
        simp only [Act.put, List.setIfInBounds_toArray, List.set_cons_zero, List.set_cons_succ]
        refine Goes.take (i := 4) (v := ?vuk44) (some 55) hE rfl rfl inv (by kernel_rfl) (by kernel_rfl) (by decide) (fun _ _ _ h => h) (Or.inl ⟨by rfl, ?yuk44⟩) (by assumption) (fun inv => ?ruk44)
        case yuk44 => (intro w' hSw; (try dsimp only at hSw); obtain ⟨s0, s1, s2⟩ := hSw; go_simp; (try with_reducible rfl))
        simp only [Act.put, List.setIfInBounds_toArray, List.set_cons_zero, List.set_cons_succ]
        refine Goes.take (i := 5) (v := ?vuk45) (some 56) hE rfl rfl inv (by kernel_rfl) (by kernel_rfl) (by decide) (fun _ _ _ h => h) (Or.inl ⟨by rfl, ?yuk45⟩) (by assumption) (fun inv => ?ruk45)
        case yuk45 => (intro w' hSw; (try dsimp only at hSw); obtain ⟨s0, s1, s2⟩ := hSw; go_simp; (try with_reducible rfl))
        simp only [Act.put, List.setIfInBounds_toArray, List.set_cons_zero, List.set_cons_succ]
        refine Goes.take (i := 6) (v := ?vuk46) (some 57) hE rfl rfl inv (by kernel_rfl) (by kernel_rfl) (by decide) (fun _ _ _ h => h) (Or.inl ⟨by rfl, ?yuk46⟩) (by assumption) (fun inv => ?ruk46)
        case yuk46 => (intro w' hSw; (try dsimp only at hSw); obtain ⟨s0, s1, s2⟩ := hSw; go_simp; (try with_reducible rfl))
        simp only [Act.put, List.setIfInBounds_toArray, List.set_cons_zero, List.set_cons_succ]
        refine Goes.one (i := 7) inv (by kernel_rfl) (by decide) rfl (fun inv K' hK => ?_)
        go_simp
        refine (and_spec M B n _ v1 z0 z1 _ (HM1.out.below (below_drewN _ 1)) hn0 hn (by omega) I0.out I1.out).mono ?_
        rintro e w2 ⟨v2, rfl, hmk, hch, hnw⟩
        have HM2 := hid hmk
        have HCh2 := hid (HCh1.out.trans HNw1.out ((Chg.of_below (below_drewN _ 1)).trans (New.refl _ _) hch))
        have HNw2 := hid (HNw1.out.trans (show New wr v1 v2 from hnw) HCh1.out.size)
        have hap2 : some gk ≠ v2.ownBlock := new_apart (show New wr v1 v2 from hnw) hap1 hgk1
        have hgk2 : gk < w2.heap.size := Nat.lt_of_lt_of_le hgk1 hch.size
        have HKC2 : Hid (∀ w8 : World, Below w2.heap.size w2 w8 → w8.cell? ⟨gk, 0, none⟩ = some (.int .i64 z0) ∧ w8.cell? ⟨gk, 1, none⟩ = some (.int .i64 z1) ∧ True) := hid (fun w8 hb => by
          obtain ⟨y0, y1, y2⟩ := HKC1.out _ (below_drewN _ 1)
          exact ⟨keep hb (hch.cell hgM hap1 y0), keep hb (hch.cell hgM hap1 y1), trivial⟩)
        clear hmk hch hnw
        (try go_wp2_with fail)
        refine hK.out _ _ (HKC2.out _ (Below.refl _ _)) (fun hHeld => ?_)
        clear hK K'
        (try simp only [Act.put, List.setIfInBounds_toArray, List.set_cons_zero, List.set_cons_succ])
        refine Goes.last (by kernel_rfl) (by kernel_rfl) rfl (fun K' hK => ?_)
        go_simp
        refine hK.out _ _ ?_
        clear hK K' hHeld
        (try simp only [Exit.then])
        go_wp2
        go_ret
        exact ⟨_, by rw [HRes.out]; rfl, by rw [HRes.out]; exact HM2.out, (Chg.of_below (by repeat (first | exact Below.refl _ _ | assumption | refine Below.drew ?_ | refine Below.alloc ?_ (by first | exact Nat.le_refl _ | omega | (simp; done) | (simp; omega)) _ | refine Below.setCell ?_ (by first | exact Nat.le_refl _ | omega | (simp; done) | (simp; omega)) _))).trans (New.refl _ _) HCh2.out, (New.refl w v).trans HNw2.out (by simp)⟩
      by_cases hkd : kd t = 5
      · have hk1 : k = 2 := by have := HHh.out; omega
        have t3 : (kd t == 3) = false := by simp [hkd]
        have t4 : (kd t == 4) = false := by simp [hkd]
        have t5 : (kd t == 5) = true := by simp [hkd]
        have HRes : Hid (makeT n d t gs = orL n gs1 z0 z1) := hid (by rw [HMk0.out]; unfold opL; rw [if_neg (by omega), if_neg (by omega), if_pos hkd, HZe.out.1, HZe.out.2.1])
        have I0 : Hid (In n gs1 z0) := hid (HIn.out 0 (by omega))
        have I1 : Hid (In n gs1 z1) := hid (HIn.out 1 (by omega))
        have HKC1 : Hid (∀ w8 : World, Below wr.heap.size wr w8 → w8.cell? ⟨gk, 0, none⟩ = some (.int .i64 z0) ∧ w8.cell? ⟨gk, 1, none⟩ = some (.int .i64 z1) ∧ True) := hid (fun w8 hb => ⟨keep hb (HC.out 0 (by omega)), keep hb (HC.out 1 (by omega)), trivial⟩)
        clear hkd
        go_wp2
        refine region_goes 8 9 (fun w' => w'.cell? ⟨gk, 0, none⟩ = some (.int .i64 z0) ∧ w'.cell? ⟨gk, 1, none⟩ = some (.int .i64 z1) ∧ True) (by kernel_rfl) (by rfl) ⟨by kernel_rfl, by kernel_rfl, by kernel_rfl, by decide⟩ (HKC1.out _ (below_drewN _ 1)) (fun hE inv hHeld => ?_)
        refine Goes.take (i := 0) (v := ?vuk50) (some 61) hE rfl rfl inv (by kernel_rfl) (by kernel_rfl) (by decide) (fun _ _ _ h => h) (Or.inl ⟨by rfl, ?yuk50⟩) (by assumption) (fun inv => ?ruk50)
        case yuk50 => (intro w' hSw; (try dsimp only at hSw); obtain ⟨s0, s1, s2⟩ := hSw; go_simp; (try with_reducible rfl))
        simp only [Act.put, List.setIfInBounds_toArray, List.set_cons_zero, List.set_cons_succ]
        refine Goes.take (i := 1) (v := ?vuk51) (some 62) hE rfl rfl inv (by kernel_rfl) (by kernel_rfl) (by decide) (fun _ _ _ h => h) (Or.inl ⟨by rfl, ?yuk51⟩) (by assumption) (fun inv => ?ruk51)
        case yuk51 => (intro w' hSw; (try dsimp only at hSw); obtain ⟨s0, s1, s2⟩ := hSw; go_simp; (try with_reducible rfl))
        simp only [Act.put, List.setIfInBounds_toArray, List.set_cons_zero, List.set_cons_succ]
        refine Goes.take (i := 2) (v := ?vuk52) (some 63) hE rfl rfl inv (by kernel_rfl) (by kernel_rfl) (by decide) (fun _ _ _ h => h) (Or.inl ⟨by rfl, ?yuk52⟩) (by assumption) (fun inv => ?ruk52)
        case yuk52 => (intro w' hSw; (try dsimp only at hSw); obtain ⟨s0, s1, s2⟩ := hSw; go_simp; (try with_reducible rfl))
        simp only [Act.put, List.setIfInBounds_toArray, List.set_cons_zero, List.set_cons_succ]
        refine Goes.take (i := 3) (v := ?vuk53) (some 64) hE rfl rfl inv (by kernel_rfl) (by kernel_rfl) (by decide) (fun _ _ _ h => h) (Or.inl ⟨by rfl, ?yuk53⟩) (by assumption) (fun inv => ?ruk53)
        case yuk53 => (intro w' hSw; (try dsimp only at hSw); obtain ⟨s0, s1, s2⟩ := hSw; go_simp; (try with_reducible rfl))
        simp only [Act.put, List.setIfInBounds_toArray, List.set_cons_zero, List.set_cons_succ]
        refine Goes.take (i := 4) (v := ?vuk54) (some 65) hE rfl rfl inv (by kernel_rfl) (by kernel_rfl) (by decide) (fun _ _ _ h => h) (Or.inl ⟨by rfl, ?yuk54⟩) (by assumption) (fun inv => ?ruk54)
        case yuk54 => (intro w' hSw; (try dsimp only at hSw); obtain ⟨s0, s1, s2⟩ := hSw; go_simp; (try with_reducible rfl))
        simp only [Act.put, List.setIfInBounds_toArray, List.set_cons_zero, List.set_cons_succ]
        refine Goes.take (i := 5) (v := ?vuk55) (some 66) hE rfl rfl inv (by kernel_rfl) (by kernel_rfl) (by decide) (fun _ _ _ h => h) (Or.inl ⟨by rfl, ?yuk55⟩) (by assumption) (fun inv => ?ruk55)
        case yuk55 => (intro w' hSw; (try dsimp only at hSw); obtain ⟨s0, s1, s2⟩ := hSw; go_simp; (try with_reducible rfl))
        simp only [Act.put, List.setIfInBounds_toArray, List.set_cons_zero, List.set_cons_succ]
        refine Goes.take (i := 6) (v := ?vuk56) (some 67) hE rfl rfl inv (by kernel_rfl) (by kernel_rfl) (by decide) (fun _ _ _ h => h) (Or.inl ⟨by rfl, ?yuk56⟩) (by assumption) (fun inv => ?ruk56)
        case yuk56 => (intro w' hSw; (try dsimp only at hSw); obtain ⟨s0, s1, s2⟩ := hSw; go_simp; (try with_reducible rfl))
        simp only [Act.put, List.setIfInBounds_toArray, List.set_cons_zero, List.set_cons_succ]
        refine Goes.one (i := 7) inv (by kernel_rfl) (by decide) rfl (fun inv K' hK => ?_)
        go_simp
        refine (or_spec M B n _ v1 z0 z1 _ (HM1.out.below (below_drewN _ 1)) hn0 hn (by omega) I0.out I1.out).mono ?_
        rintro e w2 ⟨v2, rfl, hmk, hch, hnw⟩
        have HM2 := hid hmk
        have HCh2 := hid (HCh1.out.trans HNw1.out ((Chg.of_below (below_drewN _ 1)).trans (New.refl _ _) hch))
        have HNw2 := hid (HNw1.out.trans (show New wr v1 v2 from hnw) HCh1.out.size)
        have hap2 : some gk ≠ v2.ownBlock := new_apart (show New wr v1 v2 from hnw) hap1 hgk1
        have hgk2 : gk < w2.heap.size := Nat.lt_of_lt_of_le hgk1 hch.size
        have HKC2 : Hid (∀ w8 : World, Below w2.heap.size w2 w8 → w8.cell? ⟨gk, 0, none⟩ = some (.int .i64 z0) ∧ w8.cell? ⟨gk, 1, none⟩ = some (.int .i64 z1) ∧ True) := hid (fun w8 hb => by
          obtain ⟨y0, y1, y2⟩ := HKC1.out _ (below_drewN _ 1)
          exact ⟨keep hb (hch.cell hgM hap1 y0), keep hb (hch.cell hgM hap1 y1), trivial⟩)
        clear hmk hch hnw
        (try go_wp2_with fail)
        refine hK.out _ _ (HKC2.out _ (Below.refl _ _)) (fun hHeld => ?_)
        clear hK K'
        (try simp only [Act.put, List.setIfInBounds_toArray, List.set_cons_zero, List.set_cons_succ])
        refine Goes.last (by kernel_rfl) (by kernel_rfl) rfl (fun K' hK => ?_)
        go_simp
        refine hK.out _ _ ?_
        clear hK K' hHeld
        (try simp only [Exit.then])
        go_wp2
        go_ret
        exact ⟨_, by rw [HRes.out]; rfl, by rw [HRes.out]; exact HM2.out, (Chg.of_below (by repeat (first | exact Below.refl _ _ | assumption | refine Below.drew ?_ | refine Below.alloc ?_ (by first | exact Nat.le_refl _ | omega | (simp; done) | (simp; omega)) _ | refine Below.setCell ?_ (by first | exact Nat.le_refl _ | omega | (simp; done) | (simp; omega)) _))).trans (New.refl _ _) HCh2.out, (New.refl w v).trans HNw2.out (by simp)⟩
      by_cases hkd : kd t = 6
      · have hk1 : k = 2 := by have := HHh.out; omega
        have t3 : (kd t == 3) = false := by simp [hkd]
        have t4 : (kd t == 4) = false := by simp [hkd]
        have t5 : (kd t == 5) = false := by simp [hkd]
        have t6 : (kd t == 6) = true := by simp [hkd]
        have HRes0 : Hid (makeT n d t gs = xorL n gs1 z0 z1) := hid (by rw [HMk0.out]; unfold opL; rw [if_neg (by omega), if_neg (by omega), if_neg (by omega), if_pos hkd, HZe.out.1, HZe.out.2.1])
        have I0 : Hid (In n gs1 z0) := hid (HIn.out 0 (by omega))
        have I1 : Hid (In n gs1 z1) := hid (HIn.out 1 (by omega))
        obtain ⟨r2, g2, h2e⟩ : ∃ r g, andL n gs1 z0 (notL z1) = (r, g) := ⟨_, _, rfl⟩
        obtain ⟨r3, g3, h3e⟩ : ∃ r g, andL n g2 (notL z0) z1 = (r, g) := ⟨_, _, rfl⟩
        have HE2 := hid h2e
        have HE3 := hid h3e
        have I2 := hid (and_in n gs1 z0 (notL z1) hn0 I0.out (not_in I1.out))
        rw [h2e] at I2
        have I3 := hid (and_in n g2 (notL z0) z1 hn0 ((not_in I0.out).more I2.out.2.1) (I1.out.more I2.out.2.1))
        rw [h3e] at I3
        have HRes : Hid (makeT n d t gs = orL n g3 r2 r3) := hid (by rw [HRes0.out]; simp only [xorL, HE2.out, HE3.out])
        have l2 := I2.out.2.2
        have l2' := I2.out.2.1
        have l3 := I3.out.2.2
        have l3' := I3.out.2.1
        simp only at l2 l2' l3 l3'
        clear h2e h3e
        have HKC1 : Hid (∀ w8 : World, Below wr.heap.size wr w8 → w8.cell? ⟨gk, 0, none⟩ = some (.int .i64 z0) ∧ w8.cell? ⟨gk, 1, none⟩ = some (.int .i64 z1) ∧ True) := hid (fun w8 hb => ⟨keep hb (HC.out 0 (by omega)), keep hb (HC.out 1 (by omega)), trivial⟩)
        clear hkd
        go_wp2
        refine region_goes 9 10 (fun w' => w'.cell? ⟨gk, 0, none⟩ = some (.int .i64 z0) ∧ w'.cell? ⟨gk, 1, none⟩ = some (.int .i64 z1) ∧ True) (by kernel_rfl) (by rfl) ⟨by kernel_rfl, by kernel_rfl, by kernel_rfl, by decide⟩ (HKC1.out _ (below_drewN _ 1)) (fun hE inv hHeld => ?_)
        refine Goes.take (i := 0) (v := ?vuk6a0) (some 71) hE rfl rfl inv (by kernel_rfl) (by kernel_rfl) (by decide) (fun _ _ _ h => h) (Or.inl ⟨by rfl, ?yuk6a0⟩) (by assumption) (fun inv => ?ruk6a0)
        case yuk6a0 => (intro w' hSw; (try dsimp only at hSw); obtain ⟨s0, s1, s2⟩ := hSw; go_simp; (try with_reducible rfl))
        simp only [Act.put, List.setIfInBounds_toArray, List.set_cons_zero, List.set_cons_succ]
        refine Goes.take (i := 1) (v := ?vuk6a1) (some 72) hE rfl rfl inv (by kernel_rfl) (by kernel_rfl) (by decide) (fun _ _ _ h => h) (Or.inl ⟨by rfl, ?yuk6a1⟩) (by assumption) (fun inv => ?ruk6a1)
        case yuk6a1 => (intro w' hSw; (try dsimp only at hSw); obtain ⟨s0, s1, s2⟩ := hSw; go_simp; (try with_reducible rfl))
        simp only [Act.put, List.setIfInBounds_toArray, List.set_cons_zero, List.set_cons_succ]
        refine Goes.take (i := 2) (v := ?vuk6a2) (some 73) hE rfl rfl inv (by kernel_rfl) (by kernel_rfl) (by decide) (fun _ _ _ h => h) (Or.inl ⟨by rfl, ?yuk6a2⟩) (by assumption) (fun inv => ?ruk6a2)
        case yuk6a2 => (intro w' hSw; (try dsimp only at hSw); obtain ⟨s0, s1, s2⟩ := hSw; go_simp; (try with_reducible rfl))
        simp only [Act.put, List.setIfInBounds_toArray, List.set_cons_zero, List.set_cons_succ]
        refine Goes.take (i := 3) (v := ?vuk6a3) (some 74) hE rfl rfl inv (by kernel_rfl) (by kernel_rfl) (by decide) (fun _ _ _ h => h) (Or.inl ⟨by rfl, ?yuk6a3⟩) (by assumption) (fun inv => ?ruk6a3)
        case yuk6a3 => (intro w' hSw; (try dsimp only at hSw); obtain ⟨s0, s1, s2⟩ := hSw; go_simp; (try with_reducible rfl))
        simp only [Act.put, List.setIfInBounds_toArray, List.set_cons_zero, List.set_cons_succ]
        refine Goes.take (i := 4) (v := ?vuk6a4) (some 75) hE rfl rfl inv (by kernel_rfl) (by kernel_rfl) (by decide) (fun _ _ _ h => h) (Or.inl ⟨by rfl, ?yuk6a4⟩) (by assumption) (fun inv => ?ruk6a4)
        case yuk6a4 => (intro w' hSw; (try dsimp only at hSw); obtain ⟨s0, s1, s2⟩ := hSw; go_simp; (try with_reducible rfl))
        simp only [Act.put, List.setIfInBounds_toArray, List.set_cons_zero, List.set_cons_succ]
        refine Goes.take (i := 5) (v := ?vuk6a5) (some 76) hE rfl rfl inv (by kernel_rfl) (by kernel_rfl) (by decide) (fun _ _ _ h => h) (Or.inl ⟨by rfl, ?yuk6a5⟩) (by assumption) (fun inv => ?ruk6a5)
        case yuk6a5 => (intro w' hSw; (try dsimp only at hSw); obtain ⟨s0, s1, s2⟩ := hSw; go_simp; (try with_reducible rfl))
        simp only [Act.put, List.setIfInBounds_toArray, List.set_cons_zero, List.set_cons_succ]
        refine Goes.take (i := 6) (v := ?vuk6a6) (some 77) hE rfl rfl inv (by kernel_rfl) (by kernel_rfl) (by decide) (fun _ _ _ h => h) (Or.inl ⟨by rfl, ?yuk6a6⟩) (by assumption) (fun inv => ?ruk6a6)
        case yuk6a6 => (intro w' hSw; (try dsimp only at hSw); obtain ⟨s0, s1, s2⟩ := hSw; go_simp; (try with_reducible rfl))
        simp only [Act.put, List.setIfInBounds_toArray, List.set_cons_zero, List.set_cons_succ]
        refine Goes.one (i := 7) inv (by kernel_rfl) (by decide) rfl (fun inv K' hK => ?_)
        go_simp
        refine (not_spec z1 _ (I1.out).1 (by have := (I1.out).2; omega)).mono ?_
        rintro e w' ⟨rfl, hw'⟩
        have hw' := hw'.symm
        subst hw'
        (try go_wp2_with fail)
        refine hK.out _ _ (HKC1.out _ (below_drewN _ 1)) (fun hHeld => ?_)
        clear hK K'
        (try simp only [Act.put, List.setIfInBounds_toArray, List.set_cons_zero, List.set_cons_succ])
        refine Goes.one (i := 8) inv (by kernel_rfl) (by decide) rfl (fun inv K' hK => ?_)
        go_simp
        refine (and_spec M B n _ v1 z0 (notL z1) _ (HM1.out.below (below_drewN _ 1)) hn0 hn (by omega) I0.out (not_in I1.out)).mono ?_
        rintro e w2 ⟨v2, rfl, hmk, hch, hnw⟩
        rw [HE2.out] at hmk ⊢
        have HM2 := hid hmk
        have HCh2 := hid (HCh1.out.trans HNw1.out ((Chg.of_below (below_drewN _ 1)).trans (New.refl _ _) hch))
        have HNw2 := hid (HNw1.out.trans (show New wr v1 v2 from hnw) HCh1.out.size)
        have hap2 : some gk ≠ v2.ownBlock := new_apart (show New wr v1 v2 from hnw) hap1 hgk1
        have hgk2 : gk < w2.heap.size := Nat.lt_of_lt_of_le hgk1 hch.size
        have HKC2 : Hid (∀ w8 : World, Below w2.heap.size w2 w8 → w8.cell? ⟨gk, 0, none⟩ = some (.int .i64 z0) ∧ w8.cell? ⟨gk, 1, none⟩ = some (.int .i64 z1) ∧ True) := hid (fun w8 hb => by
          obtain ⟨y0, y1, y2⟩ := HKC1.out _ (below_drewN _ 1)
          exact ⟨keep hb (hch.cell hgM hap1 y0), keep hb (hch.cell hgM hap1 y1), trivial⟩)
        clear hmk hch hnw
        (try go_wp2_with fail)
        refine hK.out _ _ (HKC2.out _ (Below.refl _ _)) (fun hHeld => ?_)
        clear hK K'
        (try simp only [Act.put, List.setIfInBounds_toArray, List.set_cons_zero, List.set_cons_succ])
        refine Goes.last (by kernel_rfl) (by kernel_rfl) rfl (fun K' hK => ?_)
        go_simp
        refine hK.out _ _ ?_
        clear hK K' hHeld
        (try simp only [Exit.then])
        go_wp2
        refine region_goes 9 10 (fun w' => w'.cell? ⟨gk, 0, none⟩ = some (.int .i64 z0) ∧ w'.cell? ⟨gk, 1, none⟩ = some (.int .i64 z1) ∧ True) (by kernel_rfl) (by rfl) ⟨by kernel_rfl, by kernel_rfl, by kernel_rfl, by decide⟩ (HKC2.out _ (below_drewN _ 1)) (fun hE inv hHeld => ?_)
        refine Goes.take (i := 0) (v := ?vuk6b0) (some 80) hE rfl rfl inv (by kernel_rfl) (by kernel_rfl) (by decide) (fun _ _ _ h => h) (Or.inl ⟨by rfl, ?yuk6b0⟩) (by assumption) (fun inv => ?ruk6b0)
        case yuk6b0 => (intro w' hSw; (try dsimp only at hSw); obtain ⟨s0, s1, s2⟩ := hSw; go_simp; (try with_reducible rfl))
        simp only [Act.put, List.setIfInBounds_toArray, List.set_cons_zero, List.set_cons_succ]
        refine Goes.take (i := 1) (v := ?vuk6b1) (some 81) hE rfl rfl inv (by kernel_rfl) (by kernel_rfl) (by decide) (fun _ _ _ h => h) (Or.inl ⟨by rfl, ?yuk6b1⟩) (by assumption) (fun inv => ?ruk6b1)
        case yuk6b1 => (intro w' hSw; (try dsimp only at hSw); obtain ⟨s0, s1, s2⟩ := hSw; go_simp; (try with_reducible rfl))
        simp only [Act.put, List.setIfInBounds_toArray, List.set_cons_zero, List.set_cons_succ]
        refine Goes.take (i := 2) (v := ?vuk6b2) (some 82) hE rfl rfl inv (by kernel_rfl) (by kernel_rfl) (by decide) (fun _ _ _ h => h) (Or.inl ⟨by rfl, ?yuk6b2⟩) (by assumption) (fun inv => ?ruk6b2)
        case yuk6b2 => (intro w' hSw; (try dsimp only at hSw); obtain ⟨s0, s1, s2⟩ := hSw; go_simp; (try with_reducible rfl))
        simp only [Act.put, List.setIfInBounds_toArray, List.set_cons_zero, List.set_cons_succ]
        refine Goes.take (i := 3) (v := ?vuk6b3) (some 83) hE rfl rfl inv (by kernel_rfl) (by kernel_rfl) (by decide) (fun _ _ _ h => h) (Or.inl ⟨by rfl, ?yuk6b3⟩) (by assumption) (fun inv => ?ruk6b3)
        case yuk6b3 => (intro w' hSw; (try dsimp only at hSw); obtain ⟨s0, s1, s2⟩ := hSw; go_simp; (try with_reducible rfl))
        simp only [Act.put, List.setIfInBounds_toArray, List.set_cons_zero, List.set_cons_succ]
        refine Goes.take (i := 5) (v := ?vuk6b5) (some 85) hE rfl rfl inv (by kernel_rfl) (by kernel_rfl) (by decide) (fun _ _ _ h => h) (Or.inl ⟨by rfl, ?yuk6b5⟩) (by assumption) (fun inv => ?ruk6b5)
        case yuk6b5 => (intro w' hSw; (try dsimp only at hSw); obtain ⟨s0, s1, s2⟩ := hSw; go_simp; (try with_reducible rfl))
        simp only [Act.put, List.setIfInBounds_toArray, List.set_cons_zero, List.set_cons_succ]
        refine Goes.take (i := 6) (v := ?vuk6b6) (some 86) hE rfl rfl inv (by kernel_rfl) (by kernel_rfl) (by decide) (fun _ _ _ h => h) (Or.inl ⟨by rfl, ?yuk6b6⟩) (by assumption) (fun inv => ?ruk6b6)
        case yuk6b6 => (intro w' hSw; (try dsimp only at hSw); obtain ⟨s0, s1, s2⟩ := hSw; go_simp; (try with_reducible rfl))
        simp only [Act.put, List.setIfInBounds_toArray, List.set_cons_zero, List.set_cons_succ]
        refine Goes.take (i := 7) (v := ?vuk6b7) (some 87) hE rfl rfl inv (by kernel_rfl) (by kernel_rfl) (by decide) (fun _ _ _ h => h) (Or.inl ⟨by rfl, ?yuk6b7⟩) (by assumption) (fun inv => ?ruk6b7)
        case yuk6b7 => (intro w' hSw; (try dsimp only at hSw); obtain ⟨s0, s1, s2⟩ := hSw; go_simp; (try with_reducible rfl))
        simp only [Act.put, List.setIfInBounds_toArray, List.set_cons_zero, List.set_cons_succ]
        refine Goes.one (i := 4) inv (by kernel_rfl) (by decide) rfl (fun inv K' hK => ?_)
        go_simp
        refine (not_spec z0 _ (I0.out).1 (by have := (I0.out).2; omega)).mono ?_
        rintro e w' ⟨rfl, hw'⟩
        have hw' := hw'.symm
        subst hw'
        (try go_wp2_with fail)
        refine hK.out _ _ (HKC2.out _ (below_drewN _ 1)) (fun hHeld => ?_)
        clear hK K'
        (try simp only [Act.put, List.setIfInBounds_toArray, List.set_cons_zero, List.set_cons_succ])
        refine Goes.one (i := 8) inv (by kernel_rfl) (by decide) rfl (fun inv K' hK => ?_)
        go_simp
        refine (and_spec M B n _ v2 (notL z0) z1 _ (HM2.out.below (below_drewN _ 1)) hn0 hn (by omega) ((not_in I0.out).more I2.out.2.1) (I1.out.more I2.out.2.1)).mono ?_
        rintro e w3 ⟨v3, rfl, hmk, hch, hnw⟩
        rw [HE3.out] at hmk ⊢
        have HM3 := hid hmk
        have HCh3 := hid (HCh2.out.trans HNw2.out ((Chg.of_below (below_drewN _ 1)).trans (New.refl _ _) hch))
        have HNw3 := hid (HNw2.out.trans (show New w2 v2 v3 from hnw) HCh2.out.size)
        have hap3 : some gk ≠ v3.ownBlock := new_apart (show New w2 v2 v3 from hnw) hap2 hgk2
        have hgk3 : gk < w3.heap.size := Nat.lt_of_lt_of_le hgk2 hch.size
        have HKC3 : Hid (∀ w8 : World, Below w3.heap.size w3 w8 → w8.cell? ⟨gk, 0, none⟩ = some (.int .i64 z0) ∧ w8.cell? ⟨gk, 1, none⟩ = some (.int .i64 z1) ∧ True) := hid (fun w8 hb => by
          obtain ⟨y0, y1, y2⟩ := HKC2.out _ (below_drewN _ 1)
          exact ⟨keep hb (hch.cell hgM hap2 y0), keep hb (hch.cell hgM hap2 y1), trivial⟩)
        clear hmk hch hnw
        (try go_wp2_with fail)
        refine hK.out _ _ (HKC3.out _ (Below.refl _ _)) (fun hHeld => ?_)
        clear hK K'
        (try simp only [Act.put, List.setIfInBounds_toArray, List.set_cons_zero, List.set_cons_succ])
        refine Goes.last (by kernel_rfl) (by kernel_rfl) rfl (fun K' hK => ?_)
        go_simp
        refine hK.out _ _ ?_
        clear hK K' hHeld
        (try simp only [Exit.then])
        go_wp2_with fail
        refine (or_spec M B n g3 v3 r2 r3 _ HM3.out hn0 hn (by omega) (I2.out.1.more (by omega)) I3.out.1).mono ?_
        rintro e w4 ⟨v4, rfl, hmk, hch, hnw⟩
        have HM4 := hid hmk
        have HCh4 := hid (HCh3.out.trans HNw3.out hch)
        have HNw4 := hid (HNw3.out.trans hnw HCh3.out.size)
        clear hmk hch hnw
        go_wp2
        go_ret
        exact ⟨_, by rw [HRes.out]; rfl, by rw [HRes.out]; exact HM4.out, (Chg.of_below (by repeat (first | exact Below.refl _ _ | assumption | refine Below.drew ?_ | refine Below.alloc ?_ (by first | exact Nat.le_refl _ | omega | (simp; done) | (simp; omega)) _ | refine Below.setCell ?_ (by first | exact Nat.le_refl _ | omega | (simp; done) | (simp; omega)) _))).trans (New.refl _ _) HCh4.out, (New.refl w v).trans HNw4.out (by simp)⟩
      have hkd : kd t = 7 := by have := HHh.out; omega
      have hk1 : k = 3 := by have := HHh.out; omega
      have t3 : (kd t == 3) = false := by simp [hkd]
      have t4 : (kd t == 4) = false := by simp [hkd]
      have t5 : (kd t == 5) = false := by simp [hkd]
      have t6 : (kd t == 6) = false := by simp [hkd]
      have HRes0 : Hid (makeT n d t gs = iteL n gs1 z0 z1 z2) := hid (by rw [HMk0.out]; unfold opL; rw [if_neg (by omega), if_neg (by omega), if_neg (by omega), if_neg (by omega), HZe.out.1, HZe.out.2.1, HZe.out.2.2])
      have I0 : Hid (In n gs1 z0) := hid (HIn.out 0 (by omega))
      have I1 : Hid (In n gs1 z1) := hid (HIn.out 1 (by omega))
      have IZ2 : Hid (In n gs1 z2) := hid (HIn.out 2 (by omega))
      obtain ⟨r2, g2, h2e⟩ : ∃ r g, andL n gs1 z0 z1 = (r, g) := ⟨_, _, rfl⟩
      obtain ⟨r3, g3, h3e⟩ : ∃ r g, andL n g2 (notL z0) z2 = (r, g) := ⟨_, _, rfl⟩
      have HE2 := hid h2e
      have HE3 := hid h3e
      have I2 := hid (and_in n gs1 z0 z1 hn0 I0.out I1.out)
      rw [h2e] at I2
      have I3 := hid (and_in n g2 (notL z0) z2 hn0 ((not_in I0.out).more I2.out.2.1) (IZ2.out.more I2.out.2.1))
      rw [h3e] at I3
      have HRes : Hid (makeT n d t gs = orL n g3 r2 r3) := hid (by rw [HRes0.out]; simp only [iteL, HE2.out, HE3.out])
      have l2 := I2.out.2.2
      have l2' := I2.out.2.1
      have l3 := I3.out.2.2
      have l3' := I3.out.2.1
      simp only at l2 l2' l3 l3'
      clear h2e h3e
      have HKC1 : Hid (∀ w8 : World, Below wr.heap.size wr w8 → w8.cell? ⟨gk, 0, none⟩ = some (.int .i64 z0) ∧ w8.cell? ⟨gk, 1, none⟩ = some (.int .i64 z1) ∧ w8.cell? ⟨gk, 2, none⟩ = some (.int .i64 z2)) := hid (fun w8 hb => ⟨keep hb (HC.out 0 (by omega)), keep hb (HC.out 1 (by omega)), keep hb (HC.out 2 (by omega))⟩)
      clear hkd
      go_wp2
      refine region_goes 8 9 (fun w' => w'.cell? ⟨gk, 0, none⟩ = some (.int .i64 z0) ∧ w'.cell? ⟨gk, 1, none⟩ = some (.int .i64 z1) ∧ w'.cell? ⟨gk, 2, none⟩ = some (.int .i64 z2)) (by kernel_rfl) (by rfl) ⟨by kernel_rfl, by kernel_rfl, by kernel_rfl, by decide⟩ (HKC1.out _ (below_drewN _ 1)) (fun hE inv hHeld => ?_)
      refine Goes.take (i := 0) (v := ?vuk7a0) (some 93) hE rfl rfl inv (by kernel_rfl) (by kernel_rfl) (by decide) (fun _ _ _ h => h) (Or.inl ⟨by rfl, ?yuk7a0⟩) (by assumption) (fun inv => ?ruk7a0)
      case yuk7a0 => (intro w' hSw; (try dsimp only at hSw); obtain ⟨s0, s1, s2⟩ := hSw; go_simp; (try with_reducible rfl))
      simp only [Act.put, List.setIfInBounds_toArray, List.set_cons_zero, List.set_cons_succ]
      refine Goes.take (i := 1) (v := ?vuk7a1) (some 94) hE rfl rfl inv (by kernel_rfl) (by kernel_rfl) (by decide) (fun _ _ _ h => h) (Or.inl ⟨by rfl, ?yuk7a1⟩) (by assumption) (fun inv => ?ruk7a1)
      case yuk7a1 => (intro w' hSw; (try dsimp only at hSw); obtain ⟨s0, s1, s2⟩ := hSw; go_simp; (try with_reducible rfl))
      simp only [Act.put, List.setIfInBounds_toArray, List.set_cons_zero, List.set_cons_succ]
      refine Goes.take (i := 2) (v := ?vuk7a2) (some 95) hE rfl rfl inv (by kernel_rfl) (by kernel_rfl) (by decide) (fun _ _ _ h => h) (Or.inl ⟨by rfl, ?yuk7a2⟩) (by assumption) (fun inv => ?ruk7a2)
      case yuk7a2 => (intro w' hSw; (try dsimp only at hSw); obtain ⟨s0, s1, s2⟩ := hSw; go_simp; (try with_reducible rfl))
      simp only [Act.put, List.setIfInBounds_toArray, List.set_cons_zero, List.set_cons_succ]
      refine Goes.take (i := 3) (v := ?vuk7a3) (some 96) hE rfl rfl inv (by kernel_rfl) (by kernel_rfl) (by decide) (fun _ _ _ h => h) (Or.inl ⟨by rfl, ?yuk7a3⟩) (by assumption) (fun inv => ?ruk7a3)
      case yuk7a3 => (intro w' hSw; (try dsimp only at hSw); obtain ⟨s0, s1, s2⟩ := hSw; go_simp; (try with_reducible rfl))
      simp only [Act.put, List.setIfInBounds_toArray, List.set_cons_zero, List.set_cons_succ]
      refine Goes.take (i := 4) (v := ?vuk7a4) (some 97) hE rfl rfl inv (by kernel_rfl) (by kernel_rfl) (by decide) (fun _ _ _ h => h) (Or.inl ⟨by rfl, ?yuk7a4⟩) (by assumption) (fun inv => ?ruk7a4)
      case yuk7a4 => (intro w' hSw; (try dsimp only at hSw); obtain ⟨s0, s1, s2⟩ := hSw; go_simp; (try with_reducible rfl))
      simp only [Act.put, List.setIfInBounds_toArray, List.set_cons_zero, List.set_cons_succ]
      refine Goes.take (i := 5) (v := ?vuk7a5) (some 98) hE rfl rfl inv (by kernel_rfl) (by kernel_rfl) (by decide) (fun _ _ _ h => h) (Or.inl ⟨by rfl, ?yuk7a5⟩) (by assumption) (fun inv => ?ruk7a5)
      case yuk7a5 => (intro w' hSw; (try dsimp only at hSw); obtain ⟨s0, s1, s2⟩ := hSw; go_simp; (try with_reducible rfl))
      simp only [Act.put, List.setIfInBounds_toArray, List.set_cons_zero, List.set_cons_succ]
      refine Goes.take (i := 6) (v := ?vuk7a6) (some 99) hE rfl rfl inv (by kernel_rfl) (by kernel_rfl) (by decide) (fun _ _ _ h => h) (Or.inl ⟨by rfl, ?yuk7a6⟩) (by assumption) (fun inv => ?ruk7a6)
      case yuk7a6 => (intro w' hSw; (try dsimp only at hSw); obtain ⟨s0, s1, s2⟩ := hSw; go_simp; (try with_reducible rfl))
      simp only [Act.put, List.setIfInBounds_toArray, List.set_cons_zero, List.set_cons_succ]
      refine Goes.one (i := 7) inv (by kernel_rfl) (by decide) rfl (fun inv K' hK => ?_)
      go_simp
      refine (and_spec M B n _ v1 z0 z1 _ (HM1.out.below (below_drewN _ 1)) hn0 hn (by omega) I0.out I1.out).mono ?_
      rintro e w2 ⟨v2, rfl, hmk, hch, hnw⟩
      rw [HE2.out] at hmk ⊢
      have HM2 := hid hmk
      have HCh2 := hid (HCh1.out.trans HNw1.out ((Chg.of_below (below_drewN _ 1)).trans (New.refl _ _) hch))
      have HNw2 := hid (HNw1.out.trans (show New wr v1 v2 from hnw) HCh1.out.size)
      have hap2 : some gk ≠ v2.ownBlock := new_apart (show New wr v1 v2 from hnw) hap1 hgk1
      have hgk2 : gk < w2.heap.size := Nat.lt_of_lt_of_le hgk1 hch.size
      have HKC2 : Hid (∀ w8 : World, Below w2.heap.size w2 w8 → w8.cell? ⟨gk, 0, none⟩ = some (.int .i64 z0) ∧ w8.cell? ⟨gk, 1, none⟩ = some (.int .i64 z1) ∧ w8.cell? ⟨gk, 2, none⟩ = some (.int .i64 z2)) := hid (fun w8 hb => by
        obtain ⟨y0, y1, y2⟩ := HKC1.out _ (below_drewN _ 1)
        exact ⟨keep hb (hch.cell hgM hap1 y0), keep hb (hch.cell hgM hap1 y1), keep hb (hch.cell hgM hap1 y2)⟩)
      clear hmk hch hnw
      (try go_wp2_with fail)
      refine hK.out _ _ (HKC2.out _ (Below.refl _ _)) (fun hHeld => ?_)
      clear hK K'
      (try simp only [Act.put, List.setIfInBounds_toArray, List.set_cons_zero, List.set_cons_succ])
      refine Goes.last (by kernel_rfl) (by kernel_rfl) rfl (fun K' hK => ?_)
      go_simp
      refine hK.out _ _ ?_
      clear hK K' hHeld
      (try simp only [Exit.then])
      go_wp2
      refine region_goes 9 10 (fun w' => w'.cell? ⟨gk, 0, none⟩ = some (.int .i64 z0) ∧ w'.cell? ⟨gk, 1, none⟩ = some (.int .i64 z1) ∧ w'.cell? ⟨gk, 2, none⟩ = some (.int .i64 z2)) (by kernel_rfl) (by rfl) ⟨by kernel_rfl, by kernel_rfl, by kernel_rfl, by decide⟩ (HKC2.out _ (below_drewN _ 1)) (fun hE inv hHeld => ?_)
      refine Goes.take (i := 0) (v := ?vuk7b0) (some 101) hE rfl rfl inv (by kernel_rfl) (by kernel_rfl) (by decide) (fun _ _ _ h => h) (Or.inl ⟨by rfl, ?yuk7b0⟩) (by assumption) (fun inv => ?ruk7b0)
      case yuk7b0 => (intro w' hSw; (try dsimp only at hSw); obtain ⟨s0, s1, s2⟩ := hSw; go_simp; (try with_reducible rfl))
      simp only [Act.put, List.setIfInBounds_toArray, List.set_cons_zero, List.set_cons_succ]
      refine Goes.take (i := 1) (v := ?vuk7b1) (some 102) hE rfl rfl inv (by kernel_rfl) (by kernel_rfl) (by decide) (fun _ _ _ h => h) (Or.inl ⟨by rfl, ?yuk7b1⟩) (by assumption) (fun inv => ?ruk7b1)
      case yuk7b1 => (intro w' hSw; (try dsimp only at hSw); obtain ⟨s0, s1, s2⟩ := hSw; go_simp; (try with_reducible rfl))
      simp only [Act.put, List.setIfInBounds_toArray, List.set_cons_zero, List.set_cons_succ]
      refine Goes.take (i := 2) (v := ?vuk7b2) (some 103) hE rfl rfl inv (by kernel_rfl) (by kernel_rfl) (by decide) (fun _ _ _ h => h) (Or.inl ⟨by rfl, ?yuk7b2⟩) (by assumption) (fun inv => ?ruk7b2)
      case yuk7b2 => (intro w' hSw; (try dsimp only at hSw); obtain ⟨s0, s1, s2⟩ := hSw; go_simp; (try with_reducible rfl))
      simp only [Act.put, List.setIfInBounds_toArray, List.set_cons_zero, List.set_cons_succ]
      refine Goes.take (i := 3) (v := ?vuk7b3) (some 104) hE rfl rfl inv (by kernel_rfl) (by kernel_rfl) (by decide) (fun _ _ _ h => h) (Or.inl ⟨by rfl, ?yuk7b3⟩) (by assumption) (fun inv => ?ruk7b3)
      case yuk7b3 => (intro w' hSw; (try dsimp only at hSw); obtain ⟨s0, s1, s2⟩ := hSw; go_simp; (try with_reducible rfl))
      simp only [Act.put, List.setIfInBounds_toArray, List.set_cons_zero, List.set_cons_succ]
      refine Goes.take (i := 5) (v := ?vuk7b5) (some 106) hE rfl rfl inv (by kernel_rfl) (by kernel_rfl) (by decide) (fun _ _ _ h => h) (Or.inl ⟨by rfl, ?yuk7b5⟩) (by assumption) (fun inv => ?ruk7b5)
      case yuk7b5 => (intro w' hSw; (try dsimp only at hSw); obtain ⟨s0, s1, s2⟩ := hSw; go_simp; (try with_reducible rfl))
      simp only [Act.put, List.setIfInBounds_toArray, List.set_cons_zero, List.set_cons_succ]
      refine Goes.take (i := 6) (v := ?vuk7b6) (some 107) hE rfl rfl inv (by kernel_rfl) (by kernel_rfl) (by decide) (fun _ _ _ h => h) (Or.inl ⟨by rfl, ?yuk7b6⟩) (by assumption) (fun inv => ?ruk7b6)
      case yuk7b6 => (intro w' hSw; (try dsimp only at hSw); obtain ⟨s0, s1, s2⟩ := hSw; go_simp; (try with_reducible rfl))
      simp only [Act.put, List.setIfInBounds_toArray, List.set_cons_zero, List.set_cons_succ]
      refine Goes.take (i := 7) (v := ?vuk7b7) (some 108) hE rfl rfl inv (by kernel_rfl) (by kernel_rfl) (by decide) (fun _ _ _ h => h) (Or.inl ⟨by rfl, ?yuk7b7⟩) (by assumption) (fun inv => ?ruk7b7)
      case yuk7b7 => (intro w' hSw; (try dsimp only at hSw); obtain ⟨s0, s1, s2⟩ := hSw; go_simp; (try with_reducible rfl))
      simp only [Act.put, List.setIfInBounds_toArray, List.set_cons_zero, List.set_cons_succ]
      refine Goes.one (i := 4) inv (by kernel_rfl) (by decide) rfl (fun inv K' hK => ?_)
      go_simp
      refine (not_spec z0 _ (I0.out).1 (by have := (I0.out).2; omega)).mono ?_
      rintro e w' ⟨rfl, hw'⟩
      have hw' := hw'.symm
      subst hw'
      (try go_wp2_with fail)
      refine hK.out _ _ (HKC2.out _ (below_drewN _ 1)) (fun hHeld => ?_)
      clear hK K'
      (try simp only [Act.put, List.setIfInBounds_toArray, List.set_cons_zero, List.set_cons_succ])
      refine Goes.one (i := 8) inv (by kernel_rfl) (by decide) rfl (fun inv K' hK => ?_)
      go_simp
      refine (and_spec M B n _ v2 (notL z0) z2 _ (HM2.out.below (below_drewN _ 1)) hn0 hn (by omega) ((not_in I0.out).more I2.out.2.1) (IZ2.out.more I2.out.2.1)).mono ?_
      rintro e w3 ⟨v3, rfl, hmk, hch, hnw⟩
      rw [HE3.out] at hmk ⊢
      have HM3 := hid hmk
      have HCh3 := hid (HCh2.out.trans HNw2.out ((Chg.of_below (below_drewN _ 1)).trans (New.refl _ _) hch))
      have HNw3 := hid (HNw2.out.trans (show New w2 v2 v3 from hnw) HCh2.out.size)
      have hap3 : some gk ≠ v3.ownBlock := new_apart (show New w2 v2 v3 from hnw) hap2 hgk2
      have hgk3 : gk < w3.heap.size := Nat.lt_of_lt_of_le hgk2 hch.size
      have HKC3 : Hid (∀ w8 : World, Below w3.heap.size w3 w8 → w8.cell? ⟨gk, 0, none⟩ = some (.int .i64 z0) ∧ w8.cell? ⟨gk, 1, none⟩ = some (.int .i64 z1) ∧ w8.cell? ⟨gk, 2, none⟩ = some (.int .i64 z2)) := hid (fun w8 hb => by
        obtain ⟨y0, y1, y2⟩ := HKC2.out _ (below_drewN _ 1)
        exact ⟨keep hb (hch.cell hgM hap2 y0), keep hb (hch.cell hgM hap2 y1), keep hb (hch.cell hgM hap2 y2)⟩)
      clear hmk hch hnw
      (try go_wp2_with fail)
      refine hK.out _ _ (HKC3.out _ (Below.refl _ _)) (fun hHeld => ?_)
      clear hK K'
      (try simp only [Act.put, List.setIfInBounds_toArray, List.set_cons_zero, List.set_cons_succ])
      refine Goes.last (by kernel_rfl) (by kernel_rfl) rfl (fun K' hK => ?_)
      go_simp
      refine hK.out _ _ ?_
      clear hK K' hHeld
      (try simp only [Exit.then])
      go_wp2_with fail
      refine (or_spec M B n g3 v3 r2 r3 _ HM3.out hn0 hn (by omega) (I2.out.1.more (by omega)) I3.out.1).mono ?_
      rintro e w4 ⟨v4, rfl, hmk, hch, hnw⟩
      have HM4 := hid hmk
      have HCh4 := hid (HCh3.out.trans HNw3.out hch)
      have HNw4 := hid (HNw3.out.trans hnw HCh3.out.size)
      clear hmk hch hnw
      go_wp2
      go_ret
      exact ⟨_, by rw [HRes.out]; rfl, by rw [HRes.out]; exact HM4.out, (Chg.of_below (by repeat (first | exact Below.refl _ _ | assumption | refine Below.drew ?_ | refine Below.alloc ?_ (by first | exact Nat.le_refl _ | omega | (simp; done) | (simp; omega)) _ | refine Below.setCell ?_ (by first | exact Nat.le_refl _ | omega | (simp; done) | (simp; omega)) _))).trans (New.refl _ _) HCh4.out, (New.refl w v).trans HNw4.out (by simp)⟩
end Go.Proofs.Ytaileckcflnbdaa.buildMake
