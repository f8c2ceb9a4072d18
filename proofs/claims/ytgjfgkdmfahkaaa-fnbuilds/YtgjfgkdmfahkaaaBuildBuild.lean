/- The literal of an expression, of the program's builder; conditions: a right expression, its variables inputs, not too many gates. -/
import Derived.Test.YtgjfgkdmfahkaaaBuildOpsX
import Derived.Test.YtgjfgkdmfahkaaaBuildOpsT
import Derived.Test.YtgjfgkdmfahkaaaBuildNew
import Derived.Test.YtgjfgkdmfahkaaaBuildTree
import Derived.Test.YtgjfgkdmfahkaaaIntsOwn
import Derived.Test.YtgjfgkdmfahkaaaBuildMake
namespace Go.Proofs.Ytgjfgkdmfahkaaa.buildBuild
open Go.RowKit Go.Deep Go.Maps Go.WideMaps Go base copy trees buildSem buildTree buildMap buildAnd buildAndI buildOps buildOpsX buildOpsT buildNew heldStore intsOwn drawn
set_option linter.unusedVariables false

theorem own_nil (B : Nat) (w : World) : OwnInts B w (.slice none 0 0) [] := ⟨rfl, .inl ⟨rfl, rfl⟩⟩
theorem cell_one (w : World) (x : Value) (t : TypeId) : ∀ (j : Nat) (u : Value), [x][j]? = some u → (w.alloc (.cells #[x] t)).cell? ((⟨w.heap.size, 0, none⟩ : Addr).add j) = some u := by
  intro j u h
  match j, h with
  | 0, h => cases h; simp [Addr.add, go_sem]
  | _ + 1, h => simp at h
theorem Bd.grown {M mb B : Nat} {n : Int} {gs : Gl} {v : Value} {F : Nat → Value} {w w1 : World} {row : Option Nat} (h : Bd M mb B n gs v F w) (hg : w.grownBy w1 row) (h1 : some M ≠ row) (h0 : some mb ≠ row) (h2 : ∀ g, v.ownBlock = some g → some g ≠ row) : Bd M mb B n gs v F w1 := by
  obtain ⟨D, hD, hG⟩ := h.map
  exact ⟨World.rowIs.of_block h.cells (hg.block _ (World.rowIs.lt h.cells) h1), own_kept h.own fun g hgb => hg.block g (World.ownsRow.lt h.own g hgb).2 (h2 g hgb), ⟨D, own_below hD (hg.block _ hD.lt h0), hG⟩, h.lt, h.mlt, h.ne, Nat.le_trans h.le hg.size⟩
theorem ChgB.grown {M mb : Nat} {v : Value} {w w1 w2 : World} {row : Option Nat} (h : ChgB M mb v w w1) (hg : w1.grownBy w2 row) (hr : ∀ g, row = some g → w.heap.size ≤ g) : ChgB M mb v w w2 :=
  ⟨hg.os.trans h.os, hg.tape.trans h.tape, hg.output.trans h.output, Nat.le_trans h.size hg.size, fun j hj h1 h0 h2 => (hg.block j (Nat.lt_of_lt_of_le hj h.size) (fun e => by have := hr j e.symm; omega)).trans (h.block j hj h1 h0 h2)⟩

def BuildAt (M mb B : Nat) (n : Int) (d : Nat) : Prop := ∀ (t : T) (gs : Gl) (v : Value) (a : Option Addr) (l c : Nat) (w : World), Bd M mb B n gs v (opsOf M) w → Rd (fun b => b < M ∧ b < mb) 1048576 w d t a l → OkT n d t → gs.length + 3 * size d t ≤ 1000000 →
    Calls Try.prog 20 #[.pointer (some ⟨M, 0, none⟩), .agg #[.int .i64 (kd t), .int .i64 (nn t), .slice a l c]] w fun e w' => ∃ v', e = .returned (.int .i64 (makeT n d t gs).1) ∧ Bd M mb B n (makeT n d t gs).2 v' (opsOf M) w' ∧ ChgB M mb v w w' ∧ New w v v'

set_option maxHeartbeats 6400000 in
set_option maxRecDepth 8000 in
theorem build_impl (M mb B : Nat) (n : Int) (hn0 : 0 ≤ n) (hn : n ≤ 12) (d : Nat) : BuildAt M mb B n d := by
  induction d using Nat.strongRecOn with
  | _ d ih =>
  intro t gs v a l c w hm hr hok hsz
  have HM := hid hm
  have HR := hid hr
  have HOk := hid hok
  have HIH := hid ih
  have HH := hok.here
  have hll := hr.len
  have hzz0 := size_sum (d := d) (t := t) (fun e => hok.zero e)
  have HSz := hid hzz0
  unfold Here at HH
  clear hm hr hok ih hzz0
  by_cases h1 : kd t = 1
  · have HRes : Hid (makeT n d t gs = (2 * (nn t + 1), gs)) := hid (makeT_var n d t gs h1)
    have d1 : (kd t == 1) = true := by simp [h1]
    have b0 : 0 ≤ nn t := by omega
    have b1 : nn t ≤ 12 := by omega
    clear HH h1
    go_enter Try.func20, Try.ntmps20
    go_wp2
    go_ret
    exact ⟨v, by rw [HRes.out]; exact congrArg Ending.returned (congrArg (Value.int .i64) (by simp only; omega)), by rw [HRes.out]; exact HM.out.below (by repeat (first | exact Below.refl _ _ | assumption | refine Below.drew ?_ | refine Below.alloc ?_ (by first | exact Nat.le_refl _ | omega | (simp; done) | (simp; omega)) _ | refine Below.setCell ?_ (by first | exact Nat.le_refl _ | omega | (simp; done) | (simp; omega)) _)), ChgB.of_below (by repeat (first | exact Below.refl _ _ | assumption | refine Below.drew ?_ | refine Below.alloc ?_ (by first | exact Nat.le_refl _ | omega | (simp; done) | (simp; omega)) _ | refine Below.setCell ?_ (by first | exact Nat.le_refl _ | omega | (simp; done) | (simp; omega)) _)), New.refl _ _⟩
  have d1 : (kd t == 1) = false := by simp [h1]
  by_cases h2 : kd t = 2
  · have HRes : Hid (makeT n d t gs = (nn t, gs)) := hid (makeT_const n d t gs h2)
    have d2 : (kd t == 2) = true := by simp [h2]
    clear HH h1 h2
    go_enter Try.func20, Try.ntmps20
    go_wp2
    go_ret
    exact ⟨v, by rw [HRes.out]; rfl, by rw [HRes.out]; exact HM.out.below (by repeat (first | exact Below.refl _ _ | assumption | refine Below.drew ?_ | refine Below.alloc ?_ (by first | exact Nat.le_refl _ | omega | (simp; done) | (simp; omega)) _ | refine Below.setCell ?_ (by first | exact Nat.le_refl _ | omega | (simp; done) | (simp; omega)) _)), ChgB.of_below (by repeat (first | exact Below.refl _ _ | assumption | refine Below.drew ?_ | refine Below.alloc ?_ (by first | exact Nat.le_refl _ | omega | (simp; done) | (simp; omega)) _ | refine Below.setCell ?_ (by first | exact Nat.le_refl _ | omega | (simp; done) | (simp; omega)) _)), New.refl _ _⟩
  have d2 : (kd t == 2) = false := by simp [h2]
  have HMake := hid (makeT_op n d t gs h1 h2 (fun e => HOk.out.zero e))
  have hd : 0 < d := by
    rcases Nat.eq_zero_or_pos d with e | e
    · have := HOk.out.zero e
      omega
    · exact e
  have hl3 : 1 ≤ l ∧ l ≤ 3 := by omega
  have HFine := hid (fun k (hk : k ≤ l) => row_fine (n := n) (makeT n (d - 1)) t (fun i => size (d - 1) (kid t i)) gs k (fun i hi gs' => make_fine hn0 (d - 1) (kid t i) gs' (HOk.out.kid (by omega))))
  have HSum : Hid (∀ k, k ≤ l → sumTo (fun i => size (d - 1) (kid t i)) k + 1 ≤ size d t) := hid (fun k hk => by
    have := sumTo_le (f := fun i => size (d - 1) (kid t i)) hk
    rw [HSz.out, hll]
    omega)
  obtain ⟨i0, hi0, hzz⟩ := Option.map_eq_some_iff.1 Try.info_int
  simp only [Prod.mk.injEq] at hzz
  obtain ⟨hz0, hz1, hz2⟩ := hzz
  have HI := hid hi0
  have HZ0 := hid hz0
  have HZ1 := hid hz1
  have HZ2 := hid hz2
  have HHh := hid HH
  clear hi0 hz0 hz1 hz2 h1 h2 HH
  have hMw : M < w.heap.size := by have := HM.out.lt; have := HM.out.le; omega
  have hmw : mb < w.heap.size := by have := HM.out.mlt; have := HM.out.le; omega
  have hvw : ∀ g, v.ownBlock = some g → B ≤ g ∧ g < w.heap.size := World.ownsRow.lt HM.out.own
  have HVW := hid hvw
  clear hvw
  go_enter Try.func20, Try.ntmps20
  go_wp2
  go_loopw [23, 5] (fun i kv0 wr => ∃ (k : Nat) (v1 : Value) (ka : Option Addr) (kc : Nat), k ≤ l ∧ i = .int .i64 k ∧ kv0 = .slice ka k kc ∧ Bd M mb B n (makeRow (makeT n (d - 1)) t k gs).2 v1 (opsOf M) wr ∧ ChgB M mb v (w.alloc (.cells #[.int .i64 (kd t), .int .i64 (nn t), .slice a l c] 25)) wr ∧ New (w.alloc (.cells #[.int .i64 (kd t), .int .i64 (nn t), .slice a l c] 25)) v v1 ∧ OwnInts (w.heap.size + 1) wr (Value.slice ka k kc) (makeRow (makeT n (d - 1)) t k gs).1 ∧ (∀ g, (Value.slice ka k kc).ownBlock = some g → some g ≠ v1.ownBlock)) (fun i _ _ => l - (intOf i).toNat)
  case atStart =>
    exact ⟨0, v, _, _, Nat.zero_le _, rfl, rfl, HM.out.below (by repeat (first | exact Below.refl _ _ | assumption | refine Below.drew ?_ | refine Below.alloc ?_ (by first | exact Nat.le_refl _ | omega | (simp; done) | (simp; omega)) _ | refine Below.setCell ?_ (by first | exact Nat.le_refl _ | omega | (simp; done) | (simp; omega)) _)), ChgB.of_below (by repeat (first | exact Below.refl _ _ | assumption | refine Below.drew ?_ | refine Below.alloc ?_ (by first | exact Nat.le_refl _ | omega | (simp; done) | (simp; omega)) _ | refine Below.setCell ?_ (by first | exact Nat.le_refl _ | omega | (simp; done) | (simp; omega)) _)), New.refl _ _, own_nil _ _, fun g hg => by cases hg⟩
  case round =>
    obtain ⟨k, v1, ka, kc, hk, rfl, rfl, hmk, hch, hnw, hown, hap⟩ := hrel
    have HMk := hid hmk
    have HCh := hid hch
    have HNw := hid hnw
    have HOw := hid hown
    have HAp := hid hap
    have hbw : some w.heap.size ≠ v.ownBlock := fun e => by have := (HVW.out _ e.symm).2; omega
    have x0 : wr.cell? ⟨w.heap.size, 0, none⟩ = some (.int .i64 (kd t)) := hch.cell (by omega) (by omega) hbw (by simp [go_sem])
    have x2 : wr.cell? ⟨w.heap.size, 2, none⟩ = some (.slice a l c) := hch.cell (by omega) (by omega) hbw (by simp [go_sem])
    have hszr := hch.size
    simp at hszr
    have hFk := HFine.out k hk
    have hSk := HSum.out k hk
    have HRowL := hid (row_len (makeT n (d - 1)) t gs k)
    clear hmk hch hnw hown hap
    by_cases hlt : k < l
    · obtain ⟨hd0, b, off, rfl, hbM, y0, y1, a', l', c', y2, hx⟩ := HR.out.cell hlt
      have HQ : Hid (∀ b' o u, (b' < M ∧ b' < mb) → w.cell? ⟨b', o, none⟩ = some u → wr.cell? ⟨b', o, none⟩ = some u) := hid (fun b' o u hb' hu => HCh.out.cell (by omega) (by omega) (fun e => by have := (HVW.out _ e.symm).1; have := HM.out.lt; omega) (keep (show Below w.heap.size w _ from (by repeat (first | exact Below.refl _ _ | assumption | refine Below.drew ?_ | refine Below.alloc ?_ (by first | exact Nat.le_refl _ | omega | (simp; done) | (simp; omega)) _ | refine Below.setCell ?_ (by first | exact Nat.le_refl _ | omega | (simp; done) | (simp; omega)) _))) hu))
      replace y0 := HQ.out _ _ _ hbM y0
      replace y1 := HQ.out _ _ _ hbM y1
      replace y2 := HQ.out _ _ _ hbM y2
      have HX : Hid (Rd (fun b => b < M ∧ b < mb) 1048576 wr (d - 1) (kid t k) a' l') := hid (hx.kept fun b' o u hq hu => ⟨HQ.out _ _ _ hq hu, hq⟩)
      have HOkk := hid (HOk.out.kid (i := k) (by omega))
      have hSk1 := HSum.out (k + 1) (by omega)
      have hbd : (makeRow (makeT n (d - 1)) t k gs).2.length + 3 * size (d - 1) (kid t k) ≤ 1000000 := by
        have h1 := hFk.2.1
        simp only [sumTo] at hSk1
        omega
      have HG1 : Hid ((makeRow (makeT n (d - 1)) t (k + 1) gs).1 = (makeRow (makeT n (d - 1)) t k gs).1 ++ [(makeT n (d - 1) (kid t k) (makeRow (makeT n (d - 1)) t k gs).2).1]) := hid rfl
      have HG2 : Hid ((makeRow (makeT n (d - 1)) t (k + 1) gs).2 = (makeT n (d - 1) (kid t k) (makeRow (makeT n (d - 1)) t k gs).2).2) := hid rfl
      have HCall := hid (fun w8 h1 h2 => HIH.out (d - 1) (by omega) (kid t k) (makeRow (makeT n (d - 1)) t k gs).2 v1 a' l' c' w8 h1 h2 HOkk.out hbd)
      have hbr := World.block_lt_of_cell? _ _ y0
      have HA1 : Hid (Below wr.heap.size wr (wr.alloc (.cells #[.int .i64 (kd (kid t k)), .int .i64 (nn (kid t k)), .slice a' l' c'] 25))) := hid (by repeat (first | exact Below.refl _ _ | assumption | refine Below.drew ?_ | refine Below.alloc ?_ (by first | exact Nat.le_refl _ | omega | (simp; done) | (simp; omega)) _ | refine Below.setCell ?_ (by first | exact Nat.le_refl _ | omega | (simp; done) | (simp; omega)) _))
      clear hx hFk hSk hSk1 hbd
      go_wp2_with fail
      refine (HCall.out _ (HMk.out.below HA1.out) (HX.out.kept fun b' o u hq hu => ⟨keep HA1.out hu, hq⟩)).mono ?_
      rintro e w2 ⟨v2, rfl, hmk, hch0, hnw0⟩
      have hch : ChgB M mb v1 wr w2 := (ChgB.of_below HA1.out).trans (New.refl _ _) hch0
      have hnw : New wr v1 v2 := (New.refl wr v1).trans hnw0 HA1.out.size
      rw [← HG2.out] at hmk
      obtain ⟨z, hz⟩ : ∃ z, (makeT n (d - 1) (kid t k) (makeRow (makeT n (d - 1)) t k gs).2).1 = z := ⟨_, rfl⟩
      rw [hz] at HG1 ⊢
      have HM2 := hid hmk
      have hkM : ∀ g, (Value.slice ka k kc).ownBlock = some g → g ≠ M ∧ g ≠ mb ∧ w.heap.size + 1 ≤ g ∧ g < wr.heap.size := fun g hg => by
        have := World.ownsRow.lt HOw.out g hg
        omega
      have HO2 : Hid (OwnInts (w.heap.size + 1) w2 (Value.slice ka k kc) (makeRow (makeT n (d - 1)) t k gs).1) := hid (own_kept HOw.out fun g hg => hch.block g (hkM g hg).2.2.2 (hkM g hg).1 (hkM g hg).2.1 (HAp.out g hg))
      have HC2 := hid (HCh.out.trans HNw.out hch)
      have HN2 := hid (HNw.out.trans hnw HCh.out.size)
      have HA2 : Hid (∀ g, (Value.slice ka k kc).ownBlock = some g → some g ≠ v2.ownBlock) := hid (fun g hg => new_apart hnw (HAp.out g hg) (hkM g hg).2.2.2)
      have HKM := hid hkM
      have hs2 := hch.size
      clear hmk hch hnw hz hkM HCall HX HQ y0 y1 y2 x0 x2 hch0 hnw0
      have HA3 : Hid (Below w2.heap.size w2 (w2.alloc (.cells #[.int .i64 z] 3))) := hid (by repeat (first | exact Below.refl _ _ | assumption | refine Below.drew ?_ | refine Below.alloc ?_ (by first | exact Nat.le_refl _ | omega | (simp; done) | (simp; omega)) _ | refine Below.setCell ?_ (by first | exact Nat.le_refl _ | omega | (simp; done) | (simp; omega)) _))
      go_wp2_with (at_builtin; (refine wpList_append_own_at _ rfl _ _ 30 rfl (w.heap.size + 1) 3 i0 (.int .i64 0) 1 8 Try.underlying30 HI.out HZ0.out HZ1.out HZ2.out rfl (by decide) _ _ _ rfl (OwnInts.below HO2.out HA3.out) ⟨w2.heap.size, 0, none⟩ 1 1 [.int .i64 z] rfl rfl (cell_one _ _ _) (fun x hx => by simp at hx; subst hx; rfl) (by rw [HRowL.out]; unfold maxLen; omega) (by rw [HRowL.out]; omega) (by simp; omega) ?_); intro v3 w3 hown3 hg3 hnil3 hat3)
      have HM3 := hid (Bd.grown (HM2.out.below HA3.out) hg3 (fun e => (HKM.out M e.symm).1 rfl) (fun e => (HKM.out mb e.symm).2.1 rfl) (fun g hg e => HA2.out g e.symm hg.symm))
      have HC3 := hid (ChgB.grown (HC2.out.trans HN2.out (ChgB.of_below HA3.out)) hg3 (fun g hg => by have := (HKM.out g hg).2.2.1; simp; omega))
      have HO3 : Hid (OwnInts (w.heap.size + 1) w3 v3 (makeRow (makeT n (d - 1)) t (k + 1) gs).1) := hid (by
        rw [HG1.out]
        unfold OwnInts
        rw [List.length_append, List.map_append]
        exact hown3)
      have HA4 : Hid (∀ g, v3.ownBlock = some g → some g ≠ v2.ownBlock) := hid (fun g hg => by
        rcases hat3 with e | e
        · exact HA2.out g (e.symm.trans hg)
        · intro e2
          rw [e] at hg
          injection hg with hg
          have := (World.ownsRow.lt HM2.out.own g e2.symm).2
          simp at hg
          omega)
      clear hown3 hg3 hnil3 hat3
      obtain ⟨a3, c3, e3, -⟩ := HO3.out.form
      rw [row_len] at e3
      subst e3
      go_wp2
      go_roundw
      case rel => exact ⟨k + 1, v2, a3, c3, by omega, by go_num, rfl, HM3.out, HC3.out, HN2.out, HO3.out, HA4.out⟩
      case measure => simp [intOf]; omega
    · have ek : k = l := by omega
      subst ek
      have hlt' : decide (k < k) = false := decide_eq_false (by omega)
      -- the last region
      have HMk0 : Hid (makeT n d t gs = opL n (kd t) (makeRow (makeT n (d - 1)) t k gs).2 (makeRow (makeT n (d - 1)) t k gs).1) := hid (by rw [HMake.out, hll])
      have hbd : (makeRow (makeT n (d - 1)) t k gs).2.length + 3 ≤ 1000000 := by
        have h1 := hFk.2.1
        omega
      have HIn0 := hid hFk.2.2
      clear HMake HIH HR HOk HFine HSum hFk hSk
      generalize (makeRow (makeT n (d - 1)) t k gs).2 = gs1 at *
      generalize (makeRow (makeT n (d - 1)) t k gs).1 = ks at *
      obtain ⟨gk, rfl⟩ : ∃ gk, ka = some ⟨gk, 0, none⟩ := by
        rcases HOw.out.2 with ⟨_, h0⟩ | ⟨g, cap, cur, e, _⟩
        · rw [HRowL.out] at h0; omega
        · injection e with e1 e2 e3
          exact ⟨g, e1⟩
      have hkl := World.ownsRow.lt HOw.out gk rfl
      have hap1 : some gk ≠ v1.ownBlock := HAp.out gk rfl
      have hgk1 : gk < wr.heap.size := hkl.2
      have hgM : gk ≠ M := by omega
      have hgm : gk ≠ mb := by omega
      have hoh := own_holds HOw.out
      obtain ⟨z0, hz0⟩ : ∃ z, at0 ks 0 = z := ⟨_, rfl⟩
      obtain ⟨z1, hz1⟩ : ∃ z, at0 ks 1 = z := ⟨_, rfl⟩
      obtain ⟨z2, hz2⟩ : ∃ z, at0 ks 2 = z := ⟨_, rfl⟩
      have HC : Hid (∀ j, j < k → wr.cell? ⟨gk, 0 + j, none⟩ = some (.int .i64 (if j = 0 then z0 else if j = 1 then z1 else z2))) := hid (fun j hj => by
        have h1 := (hoh.2 j hj).1
        rw [h1]
        obtain rfl | rfl | rfl : j = 0 ∨ j = 1 ∨ j = 2 := by omega
        · rw [← hz0]; rfl
        · rw [← hz1]; rfl
        · rw [← hz2]; rfl)
      have HIn : Hid (∀ j, j < k → In n gs1 (if j = 0 then z0 else if j = 1 then z1 else z2)) := hid (fun j hj => by
        have h1 := HIn0.out j hj
        obtain rfl | rfl | rfl : j = 0 ∨ j = 1 ∨ j = 2 := by omega
        · rw [← hz0]; exact h1
        · rw [← hz1]; exact h1
        · rw [← hz2]; exact h1)
      have HZe : Hid (at0 ks 0 = z0 ∧ at0 ks 1 = z1 ∧ at0 ks 2 = z2) := hid ⟨hz0, hz1, hz2⟩
      have HM1 := hid HMk.out
      have HCh1 := hid HCh.out
      have HNw1 := hid HNw.out
      clear hoh HOw HAp HMk HCh HNw HIn0 hkl hlt hz0 hz1 hz2
      go_wp2_with fail
      by_cases hkd : kd t = 3
      · have hk1 : k = 1 := by have := HHh.out; omega
        have HRes : Hid (makeT n d t gs = (notL z0, gs1)) := hid (by rw [HMk0.out]; unfold opL; rw [if_pos hkd, HZe.out.1])
        have c0 : wr.cell? ⟨gk, 0 + 0, none⟩ = some (.int .i64 z0) := HC.out 0 (by omega)
        have I0 : Hid (In n gs1 z0) := hid (HIn.out 0 (by omega))
        have HOp := hid (show wr.cell? ⟨M, 6, none⟩ = some (opsOf M 6) from World.rowIs.cell HM1.out.cells (i := 6) (by omega))
        have HKC1 : Hid (∀ w8 : World, Below wr.heap.size wr w8 → w8.cell? ⟨w.heap.size, 0, none⟩ = some (.int .i64 3) ∧ w8.cell? ⟨M, 6, none⟩ = some (.func (.func 35) #[.pointer (some ⟨M, 0, none⟩)] #[])) := hid (fun w8 hb => ⟨keep hb (by rw [x0, hkd]), keep hb HOp.out⟩)
        obtain ⟨ty, hty⟩ : ∃ z, kd t = z := ⟨_, rfl⟩
        rw [hty] at hkd x0
        subst hkd
        rw [hty] at d1 d2 HHh
        (try simp only [hty])
        subst hk1
        clear hty x2
        refine region_goes 9 10 (fun w' => w'.cell? ⟨w.heap.size, 0, none⟩ = some (.int .i64 3) ∧ w'.cell? ⟨M, 6, none⟩ = some (.func (.func 35) #[.pointer (some ⟨M, 0, none⟩)] #[])) (by kernel_rfl) (by rfl) ⟨by kernel_rfl, by kernel_rfl, by kernel_rfl, by decide⟩ (HKC1.out _ (below_drewN _ 1)) (fun hE inv hHeld => ?_)
        refine Goes.take (i := 0) (v := ?vuq30) (some 34) hE rfl rfl inv (by kernel_rfl) (by kernel_rfl) (by decide) (fun _ _ _ h => h) (Or.inl ⟨by rfl, ?yuq30⟩) (by assumption) (fun inv => ?ruq30)
        case yuq30 => (intro w' hSw; (try dsimp only at hSw); obtain ⟨s0, s1⟩ := hSw; go_simp; (try with_reducible rfl))
        simp only [Act.put, List.setIfInBounds_toArray, List.set_cons_zero, List.set_cons_succ]
        refine Goes.take (i := 1) (v := ?vuq31) (some 35) hE rfl rfl inv (by kernel_rfl) (by kernel_rfl) (by decide) (fun _ _ _ h => h) (Or.inl ⟨by rfl, ?yuq31⟩) (by assumption) (fun inv => ?ruq31)
        case yuq31 => (intro w' hSw; (try dsimp only at hSw); obtain ⟨s0, s1⟩ := hSw; go_simp; (try with_reducible rfl))
        simp only [Act.put, List.setIfInBounds_toArray, List.set_cons_zero, List.set_cons_succ]
        refine Goes.take (i := 2) (v := ?vuq32) (some 36) hE rfl rfl inv (by kernel_rfl) (by kernel_rfl) (by decide) (fun _ _ _ h => h) (Or.inl ⟨by rfl, ?yuq32⟩) (by assumption) (fun inv => ?ruq32)
        case yuq32 => (intro w' hSw; (try dsimp only at hSw); obtain ⟨s0, s1⟩ := hSw; go_simp; (try with_reducible rfl))
        simp only [Act.put, List.setIfInBounds_toArray, List.set_cons_zero, List.set_cons_succ]
        refine Goes.take (i := 3) (v := ?vuq33) (some 37) hE rfl rfl inv (by kernel_rfl) (by kernel_rfl) (by decide) (fun _ _ _ h => h) (Or.inl ⟨by rfl, ?yuq33⟩) (by assumption) (fun inv => ?ruq33)
        case yuq33 => (intro w' hSw; (try dsimp only at hSw); obtain ⟨s0, s1⟩ := hSw; go_simp; (try with_reducible rfl))
        simp only [Act.put, List.setIfInBounds_toArray, List.set_cons_zero, List.set_cons_succ]
        refine Goes.take (i := 4) (v := ?vuq34) (some 38) hE rfl rfl inv (by kernel_rfl) (by kernel_rfl) (by decide) (fun _ _ _ h => h) (Or.inl ⟨by rfl, ?yuq34⟩) (by assumption) (fun inv => ?ruq34)
        case yuq34 => (intro w' hSw; (try dsimp only at hSw); obtain ⟨s0, s1⟩ := hSw; go_simp; (try with_reducible rfl))
        simp only [Act.put, List.setIfInBounds_toArray, List.set_cons_zero, List.set_cons_succ]
        refine Goes.take (i := 5) (v := ?vuq35) (some 39) hE rfl rfl inv (by kernel_rfl) (by kernel_rfl) (by decide) (fun _ _ _ h => h) (Or.inl ⟨by rfl, ?yuq35⟩) (by assumption) (fun inv => ?ruq35)
        case yuq35 => (intro w' hSw; (try dsimp only at hSw); obtain ⟨s0, s1⟩ := hSw; go_simp; (try with_reducible rfl))
        simp only [Act.put, List.setIfInBounds_toArray, List.set_cons_zero, List.set_cons_succ]
        refine Goes.take (i := 6) (v := ?vuq36) (some 40) hE rfl rfl inv (by kernel_rfl) (by kernel_rfl) (by decide) (fun _ _ _ h => h) (Or.inl ⟨by rfl, ?yuq36⟩) (by assumption) (fun inv => ?ruq36)
        case yuq36 => (intro w' hSw; (try dsimp only at hSw); obtain ⟨s0, s1⟩ := hSw; go_simp; (try with_reducible rfl))
        simp only [Act.put, List.setIfInBounds_toArray, List.set_cons_zero, List.set_cons_succ]
        refine Goes.take (i := 7) (v := ?vuq37) (some 41) hE rfl rfl inv (by kernel_rfl) (by kernel_rfl) (by decide) (fun _ _ _ h => h) (Or.inl ⟨by rfl, ?yuq37⟩) (by assumption) (fun inv => ?ruq37)
        case yuq37 => (intro w' hSw; (try dsimp only at hSw); obtain ⟨s0, s1⟩ := hSw; go_simp; (try with_reducible rfl))
        simp only [Act.put, List.setIfInBounds_toArray, List.set_cons_zero, List.set_cons_succ]
        refine Goes.one (i := 8) inv (by kernel_rfl) (by decide) rfl (fun inv K' hK => ?_)
        go_simp
        refine (not_impl M z0 gk 0 1 kc _ (by omega) (keep (below_drewN _ 1) c0) I0.out.1 (by have := I0.out.2; omega)).mono ?_
        rintro e w2 ⟨rfl, hb2⟩
        have hbw2 : Below wr.heap.size wr w2 := (below_drewN wr 1).trans (hb2.mono (Nat.le_refl _))
        obtain ⟨v2, hv2⟩ : ∃ v2, v2 = v1 := ⟨_, rfl⟩
        have HM2 : Hid (Bd M mb B n gs1 v2 (opsOf M) w2) := hid (by rw [hv2]; exact HM1.out.below hbw2)
        have hch' : ChgB M mb v1 wr w2 := ChgB.of_below hbw2
        have hnw' : New wr v1 v2 := by rw [hv2]; exact New.refl _ _
        clear hb2 hbw2 hv2
        have HC2 := hid (HCh1.out.trans HNw1.out hch')
        have HN2 := hid (HNw1.out.trans hnw' HCh1.out.size)
        have HS2 : Hid (w2.cell? ⟨w.heap.size, 0, none⟩ = some (.int .i64 3) ∧ w2.cell? ⟨M, 6, none⟩ = some (.func (.func 35) #[.pointer (some ⟨M, 0, none⟩)] #[])) := hid ⟨hch'.cell (by omega) (by omega) (fun e => by
            rcases HNw1.out with h1 | ⟨g, hg, h1⟩
            · rw [h1] at e; exact hbw e
            · rw [h1] at e; injection e with e; simp at hg; omega) (HKC1.out _ (Below.refl _ _)).1, World.rowIs.cell HM2.out.cells (i := 6) (by omega)⟩
        clear hch' hnw'
        (try go_wp2_with fail)
        refine hK.out _ _ HS2.out (fun hHeld => ?_)
        clear hK K'
        (try simp only [Act.put, List.setIfInBounds_toArray, List.set_cons_zero, List.set_cons_succ])
        refine Goes.last (by kernel_rfl) (by kernel_rfl) rfl (fun K' hK => ?_)
        go_simp
        refine hK.out _ _ ?_
        clear hK K' hHeld
        (try simp only [Exit.then])
        go_wp2
        go_ret
        exact ⟨v2, by rw [HRes.out] <;> rfl, by rw [HRes.out]; exact HM2.out, (ChgB.of_below (by repeat (first | exact Below.refl _ _ | assumption | refine Below.drew ?_ | refine Below.alloc ?_ (by first | exact Nat.le_refl _ | omega | (simp; done) | (simp; omega)) _ | refine Below.setCell ?_ (by first | exact Nat.le_refl _ | omega | (simp; done) | (simp; omega)) _))).trans (New.refl _ _) HC2.out, (New.refl w v).trans HN2.out (by simp)⟩
      by_cases hkd : kd t = 4
      · have hk1 : k = 2 := by have := HHh.out; omega
        have HRes : Hid (makeT n d t gs = andL n gs1 z0 z1) := hid (by rw [HMk0.out]; unfold opL; rw [if_neg (by omega), if_pos hkd, HZe.out.1, HZe.out.2.1])
        have c0 : wr.cell? ⟨gk, 0 + 0, none⟩ = some (.int .i64 z0) := HC.out 0 (by omega)
        have I0 : Hid (In n gs1 z0) := hid (HIn.out 0 (by omega))
        have c1 : wr.cell? ⟨gk, 0 + 1, none⟩ = some (.int .i64 z1) := HC.out 1 (by omega)
        have I1 : Hid (In n gs1 z1) := hid (HIn.out 1 (by omega))
        have HOp := hid (show wr.cell? ⟨M, 7, none⟩ = some (opsOf M 7) from World.rowIs.cell HM1.out.cells (i := 7) (by omega))
        have HKC1 : Hid (∀ w8 : World, Below wr.heap.size wr w8 → w8.cell? ⟨w.heap.size, 0, none⟩ = some (.int .i64 4) ∧ w8.cell? ⟨M, 7, none⟩ = some (.func (.func 36) #[.pointer (some ⟨M, 0, none⟩)] #[])) := hid (fun w8 hb => ⟨keep hb (by rw [x0, hkd]), keep hb HOp.out⟩)
        obtain ⟨ty, hty⟩ : ∃ z, kd t = z := ⟨_, rfl⟩
        rw [hty] at hkd x0
        subst hkd
        rw [hty] at d1 d2 HHh
        (try simp only [hty])
        subst hk1
        clear hty x2
        refine region_goes 9 10 (fun w' => w'.cell? ⟨w.heap.size, 0, none⟩ = some (.int .i64 4) ∧ w'.cell? ⟨M, 7, none⟩ = some (.func (.func 36) #[.pointer (some ⟨M, 0, none⟩)] #[])) (by kernel_rfl) (by rfl) ⟨by kernel_rfl, by kernel_rfl, by kernel_rfl, by decide⟩ (HKC1.out _ (below_drewN _ 1)) (fun hE inv hHeld => ?_)
        refine Goes.take (i := 0) (v := ?vuq40) (some 34) hE rfl rfl inv (by kernel_rfl) (by kernel_rfl) (by decide) (fun _ _ _ h => h) (Or.inl ⟨by rfl, ?yuq40⟩) (by assumption) (fun inv => ?ruq40)
        case yuq40 => (intro w' hSw; (try dsimp only at hSw); obtain ⟨s0, s1⟩ := hSw; go_simp; (try with_reducible rfl))
        simp only [Act.put, List.setIfInBounds_toArray, List.set_cons_zero, List.set_cons_succ]
        refine Goes.take (i := 1) (v := ?vuq41) (some 35) hE rfl rfl inv (by kernel_rfl) (by kernel_rfl) (by decide) (fun _ _ _ h => h) (Or.inl ⟨by rfl, ?yuq41⟩) (by assumption) (fun inv => ?ruq41)
        case yuq41 => (intro w' hSw; (try dsimp only at hSw); obtain ⟨s0, s1⟩ := hSw; go_simp; (try with_reducible rfl))
        simp only [Act.put, List.setIfInBounds_toArray, List.set_cons_zero, List.set_cons_succ]
        refine Goes.take (i := 2) (v := ?vuq42) (some 36) hE rfl rfl inv (by kernel_rfl) (by kernel_rfl) (by decide) (fun _ _ _ h => h) (Or.inl ⟨by rfl, ?yuq42⟩) (by assumption) (fun inv => ?ruq42)
        case yuq42 => (intro w' hSw; (try dsimp only at hSw); obtain ⟨s0, s1⟩ := hSw; go_simp; (try with_reducible rfl))
        simp only [Act.put, List.setIfInBounds_toArray, List.set_cons_zero, List.set_cons_succ]
        refine Goes.take (i := 3) (v := ?vuq43) (some 37) hE rfl rfl inv (by kernel_rfl) (by kernel_rfl) (by decide) (fun _ _ _ h => h) (Or.inl ⟨by rfl, ?yuq43⟩) (by assumption) (fun inv => ?ruq43)
        case yuq43 => (intro w' hSw; (try dsimp only at hSw); obtain ⟨s0, s1⟩ := hSw; go_simp; (try with_reducible rfl))
        simp only [Act.put, List.setIfInBounds_toArray, List.set_cons_zero, List.set_cons_succ]
        refine Goes.take (i := 4) (v := ?vuq44) (some 38) hE rfl rfl inv (by kernel_rfl) (by kernel_rfl) (by decide) (fun _ _ _ h => h) (Or.inl ⟨by rfl, ?yuq44⟩) (by assumption) (fun inv => ?ruq44)
        case yuq44 => (intro w' hSw; (try dsimp only at hSw); obtain ⟨s0, s1⟩ := hSw; go_simp; (try with_reducible rfl))
        simp only [Act.put, List.setIfInBounds_toArray, List.set_cons_zero, List.set_cons_succ]
        refine Goes.take (i := 5) (v := ?vuq45) (some 39) hE rfl rfl inv (by kernel_rfl) (by kernel_rfl) (by decide) (fun _ _ _ h => h) (Or.inl ⟨by rfl, ?yuq45⟩) (by assumption) (fun inv => ?ruq45)
        case yuq45 => (intro w' hSw; (try dsimp only at hSw); obtain ⟨s0, s1⟩ := hSw; go_simp; (try with_reducible rfl))
        simp only [Act.put, List.setIfInBounds_toArray, List.set_cons_zero, List.set_cons_succ]
        refine Goes.take (i := 6) (v := ?vuq46) (some 40) hE rfl rfl inv (by kernel_rfl) (by kernel_rfl) (by decide) (fun _ _ _ h => h) (Or.inl ⟨by rfl, ?yuq46⟩) (by assumption) (fun inv => ?ruq46)
        case yuq46 => (intro w' hSw; (try dsimp only at hSw); obtain ⟨s0, s1⟩ := hSw; go_simp; (try with_reducible rfl))
        simp only [Act.put, List.setIfInBounds_toArray, List.set_cons_zero, List.set_cons_succ]
        refine Goes.take (i := 7) (v := ?vuq47) (some 41) hE rfl rfl inv (by kernel_rfl) (by kernel_rfl) (by decide) (fun _ _ _ h => h) (Or.inl ⟨by rfl, ?yuq47⟩) (by assumption) (fun inv => ?ruq47)
        case yuq47 => (intro w' hSw; (try dsimp only at hSw); obtain ⟨s0, s1⟩ := hSw; go_simp; (try with_reducible rfl))
        simp only [Act.put, List.setIfInBounds_toArray, List.set_cons_zero, List.set_cons_succ]
        refine Goes.one (i := 8) inv (by kernel_rfl) (by decide) rfl (fun inv K' hK => ?_)
        go_simp
        refine (and_impl M mb B n gs1 v1 (opsOf M) z0 z1 gk 0 2 kc _ (HM1.out.below (below_drewN _ 1)) hn0 hn (by omega) I0.out I1.out (by omega) (keep (below_drewN _ 1) c0) (keep (below_drewN _ 1) c1)).mono ?_
        rintro e w2 ⟨v2, rfl, hmk, hch, hnw⟩
        have hch' : ChgB M mb v1 wr w2 := (ChgB.of_below (below_drewN _ 1)).trans (New.refl _ _) hch
        have hnw' : New wr v1 v2 := (New.refl wr v1).trans hnw (by simp)
        have HM2 := hid hmk
        clear hmk hch hnw
        have HC2 := hid (HCh1.out.trans HNw1.out hch')
        have HN2 := hid (HNw1.out.trans hnw' HCh1.out.size)
        have HS2 : Hid (w2.cell? ⟨w.heap.size, 0, none⟩ = some (.int .i64 4) ∧ w2.cell? ⟨M, 7, none⟩ = some (.func (.func 36) #[.pointer (some ⟨M, 0, none⟩)] #[])) := hid ⟨hch'.cell (by omega) (by omega) (fun e => by
            rcases HNw1.out with h1 | ⟨g, hg, h1⟩
            · rw [h1] at e; exact hbw e
            · rw [h1] at e; injection e with e; simp at hg; omega) (HKC1.out _ (Below.refl _ _)).1, World.rowIs.cell HM2.out.cells (i := 7) (by omega)⟩
        clear hch' hnw'
        (try go_wp2_with fail)
        refine hK.out _ _ HS2.out (fun hHeld => ?_)
        clear hK K'
        (try simp only [Act.put, List.setIfInBounds_toArray, List.set_cons_zero, List.set_cons_succ])
        refine Goes.last (by kernel_rfl) (by kernel_rfl) rfl (fun K' hK => ?_)
        go_simp
        refine hK.out _ _ ?_
        clear hK K' hHeld
        (try simp only [Exit.then])
        go_wp2
        go_ret
        exact ⟨v2, by rw [HRes.out] <;> rfl, by rw [HRes.out]; exact HM2.out, (ChgB.of_below (by repeat (first | exact Below.refl _ _ | assumption | refine Below.drew ?_ | refine Below.alloc ?_ (by first | exact Nat.le_refl _ | omega | (simp; done) | (simp; omega)) _ | refine Below.setCell ?_ (by first | exact Nat.le_refl _ | omega | (simp; done) | (simp; omega)) _))).trans (New.refl _ _) HC2.out, (New.refl w v).trans HN2.out (by simp)⟩
      by_cases hkd : kd t = 5
      · have hk1 : k = 2 := by have := HHh.out; omega
        have HRes : Hid (makeT n d t gs = orL n gs1 z0 z1) := hid (by rw [HMk0.out]; unfold opL; rw [if_neg (by omega), if_neg (by omega), if_pos hkd, HZe.out.1, HZe.out.2.1])
        have c0 : wr.cell? ⟨gk, 0 + 0, none⟩ = some (.int .i64 z0) := HC.out 0 (by omega)
        have I0 : Hid (In n gs1 z0) := hid (HIn.out 0 (by omega))
        have c1 : wr.cell? ⟨gk, 0 + 1, none⟩ = some (.int .i64 z1) := HC.out 1 (by omega)
        have I1 : Hid (In n gs1 z1) := hid (HIn.out 1 (by omega))
        have HOp := hid (show wr.cell? ⟨M, 8, none⟩ = some (opsOf M 8) from World.rowIs.cell HM1.out.cells (i := 8) (by omega))
        have HKC1 : Hid (∀ w8 : World, Below wr.heap.size wr w8 → w8.cell? ⟨w.heap.size, 0, none⟩ = some (.int .i64 5) ∧ w8.cell? ⟨M, 8, none⟩ = some (.func (.func 37) #[.pointer (some ⟨M, 0, none⟩)] #[])) := hid (fun w8 hb => ⟨keep hb (by rw [x0, hkd]), keep hb HOp.out⟩)
        obtain ⟨ty, hty⟩ : ∃ z, kd t = z := ⟨_, rfl⟩
        rw [hty] at hkd x0
        subst hkd
        rw [hty] at d1 d2 HHh
        (try simp only [hty])
        subst hk1
        clear hty x2
        refine region_goes 9 10 (fun w' => w'.cell? ⟨w.heap.size, 0, none⟩ = some (.int .i64 5) ∧ w'.cell? ⟨M, 8, none⟩ = some (.func (.func 37) #[.pointer (some ⟨M, 0, none⟩)] #[])) (by kernel_rfl) (by rfl) ⟨by kernel_rfl, by kernel_rfl, by kernel_rfl, by decide⟩ (HKC1.out _ (below_drewN _ 1)) (fun hE inv hHeld => ?_)
        refine Goes.take (i := 0) (v := ?vuq50) (some 34) hE rfl rfl inv (by kernel_rfl) (by kernel_rfl) (by decide) (fun _ _ _ h => h) (Or.inl ⟨by rfl, ?yuq50⟩) (by assumption) (fun inv => ?ruq50)
        case yuq50 => (intro w' hSw; (try dsimp only at hSw); obtain ⟨s0, s1⟩ := hSw; go_simp; (try with_reducible rfl))
        simp only [Act.put, List.setIfInBounds_toArray, List.set_cons_zero, List.set_cons_succ]
        refine Goes.take (i := 1) (v := ?vuq51) (some 35) hE rfl rfl inv (by kernel_rfl) (by kernel_rfl) (by decide) (fun _ _ _ h => h) (Or.inl ⟨by rfl, ?yuq51⟩) (by assumption) (fun inv => ?ruq51)
        case yuq51 => (intro w' hSw; (try dsimp only at hSw); obtain ⟨s0, s1⟩ := hSw; go_simp; (try with_reducible rfl))
        simp only [Act.put, List.setIfInBounds_toArray, List.set_cons_zero, List.set_cons_succ]
        refine Goes.take (i := 2) (v := ?vuq52) (some 36) hE rfl rfl inv (by kernel_rfl) (by kernel_rfl) (by decide) (fun _ _ _ h => h) (Or.inl ⟨by rfl, ?yuq52⟩) (by assumption) (fun inv => ?ruq52)
        case yuq52 => (intro w' hSw; (try dsimp only at hSw); obtain ⟨s0, s1⟩ := hSw; go_simp; (try with_reducible rfl))
        simp only [Act.put, List.setIfInBounds_toArray, List.set_cons_zero, List.set_cons_succ]
        refine Goes.take (i := 3) (v := ?vuq53) (some 37) hE rfl rfl inv (by kernel_rfl) (by kernel_rfl) (by decide) (fun _ _ _ h => h) (Or.inl ⟨by rfl, ?yuq53⟩) (by assumption) (fun inv => ?ruq53)
        case yuq53 => (intro w' hSw; (try dsimp only at hSw); obtain ⟨s0, s1⟩ := hSw; go_simp; (try with_reducible rfl))
        simp only [Act.put, List.setIfInBounds_toArray, List.set_cons_zero, List.set_cons_succ]
        refine Goes.take (i := 4) (v := ?vuq54) (some 38) hE rfl rfl inv (by kernel_rfl) (by kernel_rfl) (by decide) (fun _ _ _ h => h) (Or.inl ⟨by rfl, ?yuq54⟩) (by assumption) (fun inv => ?ruq54)
        case yuq54 => (intro w' hSw; (try dsimp only at hSw); obtain ⟨s0, s1⟩ := hSw; go_simp; (try with_reducible rfl))
        simp only [Act.put, List.setIfInBounds_toArray, List.set_cons_zero, List.set_cons_succ]
        refine Goes.take (i := 5) (v := ?vuq55) (some 39) hE rfl rfl inv (by kernel_rfl) (by kernel_rfl) (by decide) (fun _ _ _ h => h) (Or.inl ⟨by rfl, ?yuq55⟩) (by assumption) (fun inv => ?ruq55)
        case yuq55 => (intro w' hSw; (try dsimp only at hSw); obtain ⟨s0, s1⟩ := hSw; go_simp; (try with_reducible rfl))
        simp only [Act.put, List.setIfInBounds_toArray, List.set_cons_zero, List.set_cons_succ]
        refine Goes.take (i := 6) (v := ?vuq56) (some 40) hE rfl rfl inv (by kernel_rfl) (by kernel_rfl) (by decide) (fun _ _ _ h => h) (Or.inl ⟨by rfl, ?yuq56⟩) (by assumption) (fun inv => ?ruq56)
        case yuq56 => (intro w' hSw; (try dsimp only at hSw); obtain ⟨s0, s1⟩ := hSw; go_simp; (try with_reducible rfl))
        simp only [Act.put, List.setIfInBounds_toArray, List.set_cons_zero, List.set_cons_succ]
        refine Goes.take (i := 7) (v := ?vuq57) (some 41) hE rfl rfl inv (by kernel_rfl) (by kernel_rfl) (by decide) (fun _ _ _ h => h) (Or.inl ⟨by rfl, ?yuq57⟩) (by assumption) (fun inv => ?ruq57)
        case yuq57 => (intro w' hSw; (try dsimp only at hSw); obtain ⟨s0, s1⟩ := hSw; go_simp; (try with_reducible rfl))
        simp only [Act.put, List.setIfInBounds_toArray, List.set_cons_zero, List.set_cons_succ]
        refine Goes.one (i := 8) inv (by kernel_rfl) (by decide) rfl (fun inv K' hK => ?_)
        go_simp
        refine (or_impl M mb B n gs1 v1 (opsOf M) z0 z1 gk 0 kc _ (HM1.out.below (below_drewN _ 1)) hn0 hn (by omega) I0.out I1.out (keep (below_drewN _ 1) c0) (keep (below_drewN _ 1) c1) hgM hgm hap1).mono ?_
        rintro e w2 ⟨v2, rfl, hmk, hch, hnw⟩
        have hch' : ChgB M mb v1 wr w2 := (ChgB.of_below (below_drewN _ 1)).trans (New.refl _ _) hch
        have hnw' : New wr v1 v2 := (New.refl wr v1).trans hnw (by simp)
        have HM2 := hid hmk
        clear hmk hch hnw
        have HC2 := hid (HCh1.out.trans HNw1.out hch')
        have HN2 := hid (HNw1.out.trans hnw' HCh1.out.size)
        have HS2 : Hid (w2.cell? ⟨w.heap.size, 0, none⟩ = some (.int .i64 5) ∧ w2.cell? ⟨M, 8, none⟩ = some (.func (.func 37) #[.pointer (some ⟨M, 0, none⟩)] #[])) := hid ⟨hch'.cell (by omega) (by omega) (fun e => by
            rcases HNw1.out with h1 | ⟨g, hg, h1⟩
            · rw [h1] at e; exact hbw e
            · rw [h1] at e; injection e with e; simp at hg; omega) (HKC1.out _ (Below.refl _ _)).1, World.rowIs.cell HM2.out.cells (i := 8) (by omega)⟩
        clear hch' hnw'
        (try go_wp2_with fail)
        refine hK.out _ _ HS2.out (fun hHeld => ?_)
        clear hK K'
        (try simp only [Act.put, List.setIfInBounds_toArray, List.set_cons_zero, List.set_cons_succ])
        refine Goes.last (by kernel_rfl) (by kernel_rfl) rfl (fun K' hK => ?_)
        go_simp
        refine hK.out _ _ ?_
        clear hK K' hHeld
        (try simp only [Exit.then])
        go_wp2
        go_ret
        exact ⟨v2, by rw [HRes.out] <;> rfl, by rw [HRes.out]; exact HM2.out, (ChgB.of_below (by repeat (first | exact Below.refl _ _ | assumption | refine Below.drew ?_ | refine Below.alloc ?_ (by first | exact Nat.le_refl _ | omega | (simp; done) | (simp; omega)) _ | refine Below.setCell ?_ (by first | exact Nat.le_refl _ | omega | (simp; done) | (simp; omega)) _))).trans (New.refl _ _) HC2.out, (New.refl w v).trans HN2.out (by simp)⟩
      by_cases hkd : kd t = 6
      · have hk1 : k = 2 := by have := HHh.out; omega
        have HRes : Hid (makeT n d t gs = xorL n gs1 z0 z1) := hid (by rw [HMk0.out]; unfold opL; rw [if_neg (by omega), if_neg (by omega), if_neg (by omega), if_pos hkd, HZe.out.1, HZe.out.2.1])
        have c0 : wr.cell? ⟨gk, 0 + 0, none⟩ = some (.int .i64 z0) := HC.out 0 (by omega)
        have I0 : Hid (In n gs1 z0) := hid (HIn.out 0 (by omega))
        have c1 : wr.cell? ⟨gk, 0 + 1, none⟩ = some (.int .i64 z1) := HC.out 1 (by omega)
        have I1 : Hid (In n gs1 z1) := hid (HIn.out 1 (by omega))
        have HOp := hid (show wr.cell? ⟨M, 9, none⟩ = some (opsOf M 9) from World.rowIs.cell HM1.out.cells (i := 9) (by omega))
        have HKC1 : Hid (∀ w8 : World, Below wr.heap.size wr w8 → w8.cell? ⟨w.heap.size, 0, none⟩ = some (.int .i64 6) ∧ w8.cell? ⟨M, 9, none⟩ = some (.func (.func 38) #[.pointer (some ⟨M, 0, none⟩)] #[])) := hid (fun w8 hb => ⟨keep hb (by rw [x0, hkd]), keep hb HOp.out⟩)
        obtain ⟨ty, hty⟩ : ∃ z, kd t = z := ⟨_, rfl⟩
        rw [hty] at hkd x0
        subst hkd
        rw [hty] at d1 d2 HHh
        (try simp only [hty])
        subst hk1
        clear hty x2
        refine region_goes 9 10 (fun w' => w'.cell? ⟨w.heap.size, 0, none⟩ = some (.int .i64 6) ∧ w'.cell? ⟨M, 9, none⟩ = some (.func (.func 38) #[.pointer (some ⟨M, 0, none⟩)] #[])) (by kernel_rfl) (by rfl) ⟨by kernel_rfl, by kernel_rfl, by kernel_rfl, by decide⟩ (HKC1.out _ (below_drewN _ 1)) (fun hE inv hHeld => ?_)
        refine Goes.take (i := 0) (v := ?vuq60) (some 34) hE rfl rfl inv (by kernel_rfl) (by kernel_rfl) (by decide) (fun _ _ _ h => h) (Or.inl ⟨by rfl, ?yuq60⟩) (by assumption) (fun inv => ?ruq60)
        case yuq60 => (intro w' hSw; (try dsimp only at hSw); obtain ⟨s0, s1⟩ := hSw; go_simp; (try with_reducible rfl))
        simp only [Act.put, List.setIfInBounds_toArray, List.set_cons_zero, List.set_cons_succ]
        refine Goes.take (i := 1) (v := ?vuq61) (some 35) hE rfl rfl inv (by kernel_rfl) (by kernel_rfl) (by decide) (fun _ _ _ h => h) (Or.inl ⟨by rfl, ?yuq61⟩) (by assumption) (fun inv => ?ruq61)
        case yuq61 => (intro w' hSw; (try dsimp only at hSw); obtain ⟨s0, s1⟩ := hSw; go_simp; (try with_reducible rfl))
        simp only [Act.put, List.setIfInBounds_toArray, List.set_cons_zero, List.set_cons_succ]
        refine Goes.take (i := 2) (v := ?vuq62) (some 36) hE rfl rfl inv (by kernel_rfl) (by kernel_rfl) (by decide) (fun _ _ _ h => h) (Or.inl ⟨by rfl, ?yuq62⟩) (by assumption) (fun inv => ?ruq62)
        case yuq62 => (intro w' hSw; (try dsimp only at hSw); obtain ⟨s0, s1⟩ := hSw; go_simp; (try with_reducible rfl))
        simp only [Act.put, List.setIfInBounds_toArray, List.set_cons_zero, List.set_cons_succ]
        refine Goes.take (i := 3) (v := ?vuq63) (some 37) hE rfl rfl inv (by kernel_rfl) (by kernel_rfl) (by decide) (fun _ _ _ h => h) (Or.inl ⟨by rfl, ?yuq63⟩) (by assumption) (fun inv => ?ruq63)
        case yuq63 => (intro w' hSw; (try dsimp only at hSw); obtain ⟨s0, s1⟩ := hSw; go_simp; (try with_reducible rfl))
        simp only [Act.put, List.setIfInBounds_toArray, List.set_cons_zero, List.set_cons_succ]
        refine Goes.take (i := 4) (v := ?vuq64) (some 38) hE rfl rfl inv (by kernel_rfl) (by kernel_rfl) (by decide) (fun _ _ _ h => h) (Or.inl ⟨by rfl, ?yuq64⟩) (by assumption) (fun inv => ?ruq64)
        case yuq64 => (intro w' hSw; (try dsimp only at hSw); obtain ⟨s0, s1⟩ := hSw; go_simp; (try with_reducible rfl))
        simp only [Act.put, List.setIfInBounds_toArray, List.set_cons_zero, List.set_cons_succ]
        refine Goes.take (i := 5) (v := ?vuq65) (some 39) hE rfl rfl inv (by kernel_rfl) (by kernel_rfl) (by decide) (fun _ _ _ h => h) (Or.inl ⟨by rfl, ?yuq65⟩) (by assumption) (fun inv => ?ruq65)
        case yuq65 => (intro w' hSw; (try dsimp only at hSw); obtain ⟨s0, s1⟩ := hSw; go_simp; (try with_reducible rfl))
        simp only [Act.put, List.setIfInBounds_toArray, List.set_cons_zero, List.set_cons_succ]
        refine Goes.take (i := 6) (v := ?vuq66) (some 40) hE rfl rfl inv (by kernel_rfl) (by kernel_rfl) (by decide) (fun _ _ _ h => h) (Or.inl ⟨by rfl, ?yuq66⟩) (by assumption) (fun inv => ?ruq66)
        case yuq66 => (intro w' hSw; (try dsimp only at hSw); obtain ⟨s0, s1⟩ := hSw; go_simp; (try with_reducible rfl))
        simp only [Act.put, List.setIfInBounds_toArray, List.set_cons_zero, List.set_cons_succ]
        refine Goes.take (i := 7) (v := ?vuq67) (some 41) hE rfl rfl inv (by kernel_rfl) (by kernel_rfl) (by decide) (fun _ _ _ h => h) (Or.inl ⟨by rfl, ?yuq67⟩) (by assumption) (fun inv => ?ruq67)
        case yuq67 => (intro w' hSw; (try dsimp only at hSw); obtain ⟨s0, s1⟩ := hSw; go_simp; (try with_reducible rfl))
        simp only [Act.put, List.setIfInBounds_toArray, List.set_cons_zero, List.set_cons_succ]
        refine Goes.one (i := 8) inv (by kernel_rfl) (by decide) rfl (fun inv K' hK => ?_)
        go_simp
        refine (xor_impl M mb B n gs1 v1 (opsOf M) z0 z1 gk 0 kc _ (HM1.out.below (below_drewN _ 1)) hn0 hn (by omega) I0.out I1.out (keep (below_drewN _ 1) c0) (keep (below_drewN _ 1) c1) hgM hgm hap1).mono ?_
        rintro e w2 ⟨v2, rfl, hmk, hch, hnw⟩
        have hch' : ChgB M mb v1 wr w2 := (ChgB.of_below (below_drewN _ 1)).trans (New.refl _ _) hch
        have hnw' : New wr v1 v2 := (New.refl wr v1).trans hnw (by simp)
        have HM2 := hid hmk
        clear hmk hch hnw
        have HC2 := hid (HCh1.out.trans HNw1.out hch')
        have HN2 := hid (HNw1.out.trans hnw' HCh1.out.size)
        have HS2 : Hid (w2.cell? ⟨w.heap.size, 0, none⟩ = some (.int .i64 6) ∧ w2.cell? ⟨M, 9, none⟩ = some (.func (.func 38) #[.pointer (some ⟨M, 0, none⟩)] #[])) := hid ⟨hch'.cell (by omega) (by omega) (fun e => by
            rcases HNw1.out with h1 | ⟨g, hg, h1⟩
            · rw [h1] at e; exact hbw e
            · rw [h1] at e; injection e with e; simp at hg; omega) (HKC1.out _ (Below.refl _ _)).1, World.rowIs.cell HM2.out.cells (i := 9) (by omega)⟩
        clear hch' hnw'
        (try go_wp2_with fail)
        refine hK.out _ _ HS2.out (fun hHeld => ?_)
        clear hK K'
        (try simp only [Act.put, List.setIfInBounds_toArray, List.set_cons_zero, List.set_cons_succ])
        refine Goes.last (by kernel_rfl) (by kernel_rfl) rfl (fun K' hK => ?_)
        go_simp
        refine hK.out _ _ ?_
        clear hK K' hHeld
        (try simp only [Exit.then])
        go_wp2
        go_ret
        exact ⟨v2, by rw [HRes.out] <;> rfl, by rw [HRes.out]; exact HM2.out, (ChgB.of_below (by repeat (first | exact Below.refl _ _ | assumption | refine Below.drew ?_ | refine Below.alloc ?_ (by first | exact Nat.le_refl _ | omega | (simp; done) | (simp; omega)) _ | refine Below.setCell ?_ (by first | exact Nat.le_refl _ | omega | (simp; done) | (simp; omega)) _))).trans (New.refl _ _) HC2.out, (New.refl w v).trans HN2.out (by simp)⟩
      have hkd : kd t = 7 := by have := HHh.out; omega
      have hk1 : k = 3 := by have := HHh.out; omega
      have HRes : Hid (makeT n d t gs = iteL n gs1 z0 z1 z2) := hid (by rw [HMk0.out]; unfold opL; rw [if_neg (by omega), if_neg (by omega), if_neg (by omega), if_neg (by omega), HZe.out.1, HZe.out.2.1, HZe.out.2.2])
      have c0 : wr.cell? ⟨gk, 0 + 0, none⟩ = some (.int .i64 z0) := HC.out 0 (by omega)
      have I0 : Hid (In n gs1 z0) := hid (HIn.out 0 (by omega))
      have c1 : wr.cell? ⟨gk, 0 + 1, none⟩ = some (.int .i64 z1) := HC.out 1 (by omega)
      have I1 : Hid (In n gs1 z1) := hid (HIn.out 1 (by omega))
      have c2 : wr.cell? ⟨gk, 0 + 2, none⟩ = some (.int .i64 z2) := HC.out 2 (by omega)
      have I2 : Hid (In n gs1 z2) := hid (HIn.out 2 (by omega))
      have HOp := hid (show wr.cell? ⟨M, 10, none⟩ = some (opsOf M 10) from World.rowIs.cell HM1.out.cells (i := 10) (by omega))
      have HKC1 : Hid (∀ w8 : World, Below wr.heap.size wr w8 → w8.cell? ⟨w.heap.size, 0, none⟩ = some (.int .i64 7) ∧ w8.cell? ⟨M, 10, none⟩ = some (.func (.func 39) #[.pointer (some ⟨M, 0, none⟩)] #[])) := hid (fun w8 hb => ⟨keep hb (by rw [x0, hkd]), keep hb HOp.out⟩)
      obtain ⟨ty, hty⟩ : ∃ z, kd t = z := ⟨_, rfl⟩
      rw [hty] at hkd x0
      subst hkd
      rw [hty] at d1 d2 HHh
      (try simp only [hty])
      subst hk1
      clear hty x2
      refine region_goes 9 10 (fun w' => w'.cell? ⟨w.heap.size, 0, none⟩ = some (.int .i64 7) ∧ w'.cell? ⟨M, 10, none⟩ = some (.func (.func 39) #[.pointer (some ⟨M, 0, none⟩)] #[])) (by kernel_rfl) (by rfl) ⟨by kernel_rfl, by kernel_rfl, by kernel_rfl, by decide⟩ (HKC1.out _ (below_drewN _ 1)) (fun hE inv hHeld => ?_)
      refine Goes.take (i := 0) (v := ?vuq70) (some 34) hE rfl rfl inv (by kernel_rfl) (by kernel_rfl) (by decide) (fun _ _ _ h => h) (Or.inl ⟨by rfl, ?yuq70⟩) (by assumption) (fun inv => ?ruq70)
      case yuq70 => (intro w' hSw; (try dsimp only at hSw); obtain ⟨s0, s1⟩ := hSw; go_simp; (try with_reducible rfl))
      simp only [Act.put, List.setIfInBounds_toArray, List.set_cons_zero, List.set_cons_succ]
      refine Goes.take (i := 1) (v := ?vuq71) (some 35) hE rfl rfl inv (by kernel_rfl) (by kernel_rfl) (by decide) (fun _ _ _ h => h) (Or.inl ⟨by rfl, ?yuq71⟩) (by assumption) (fun inv => ?ruq71)
      case yuq71 => (intro w' hSw; (try dsimp only at hSw); obtain ⟨s0, s1⟩ := hSw; go_simp; (try with_reducible rfl))
      simp only [Act.put, List.setIfInBounds_toArray, List.set_cons_zero, List.set_cons_succ]
      refine Goes.take (i := 2) (v := ?vuq72) (some 36) hE rfl rfl inv (by kernel_rfl) (by kernel_rfl) (by decide) (fun _ _ _ h => h) (Or.inl ⟨by rfl, ?yuq72⟩) (by assumption) (fun inv => ?ruq72)
      case yuq72 => (intro w' hSw; (try dsimp only at hSw); obtain ⟨s0, s1⟩ := hSw; go_simp; (try with_reducible rfl))
      simp only [Act.put, List.setIfInBounds_toArray, List.set_cons_zero, List.set_cons_succ]
      refine Goes.take (i := 3) (v := ?vuq73) (some 37) hE rfl rfl inv (by kernel_rfl) (by kernel_rfl) (by decide) (fun _ _ _ h => h) (Or.inl ⟨by rfl, ?yuq73⟩) (by assumption) (fun inv => ?ruq73)
      case yuq73 => (intro w' hSw; (try dsimp only at hSw); obtain ⟨s0, s1⟩ := hSw; go_simp; (try with_reducible rfl))
      simp only [Act.put, List.setIfInBounds_toArray, List.set_cons_zero, List.set_cons_succ]
      refine Goes.take (i := 4) (v := ?vuq74) (some 38) hE rfl rfl inv (by kernel_rfl) (by kernel_rfl) (by decide) (fun _ _ _ h => h) (Or.inl ⟨by rfl, ?yuq74⟩) (by assumption) (fun inv => ?ruq74)
      case yuq74 => (intro w' hSw; (try dsimp only at hSw); obtain ⟨s0, s1⟩ := hSw; go_simp; (try with_reducible rfl))
      simp only [Act.put, List.setIfInBounds_toArray, List.set_cons_zero, List.set_cons_succ]
      refine Goes.take (i := 5) (v := ?vuq75) (some 39) hE rfl rfl inv (by kernel_rfl) (by kernel_rfl) (by decide) (fun _ _ _ h => h) (Or.inl ⟨by rfl, ?yuq75⟩) (by assumption) (fun inv => ?ruq75)
      case yuq75 => (intro w' hSw; (try dsimp only at hSw); obtain ⟨s0, s1⟩ := hSw; go_simp; (try with_reducible rfl))
      simp only [Act.put, List.setIfInBounds_toArray, List.set_cons_zero, List.set_cons_succ]
      refine Goes.take (i := 6) (v := ?vuq76) (some 40) hE rfl rfl inv (by kernel_rfl) (by kernel_rfl) (by decide) (fun _ _ _ h => h) (Or.inl ⟨by rfl, ?yuq76⟩) (by assumption) (fun inv => ?ruq76)
      case yuq76 => (intro w' hSw; (try dsimp only at hSw); obtain ⟨s0, s1⟩ := hSw; go_simp; (try with_reducible rfl))
      simp only [Act.put, List.setIfInBounds_toArray, List.set_cons_zero, List.set_cons_succ]
      refine Goes.take (i := 7) (v := ?vuq77) (some 41) hE rfl rfl inv (by kernel_rfl) (by kernel_rfl) (by decide) (fun _ _ _ h => h) (Or.inl ⟨by rfl, ?yuq77⟩) (by assumption) (fun inv => ?ruq77)
      case yuq77 => (intro w' hSw; (try dsimp only at hSw); obtain ⟨s0, s1⟩ := hSw; go_simp; (try with_reducible rfl))
      simp only [Act.put, List.setIfInBounds_toArray, List.set_cons_zero, List.set_cons_succ]
      refine Goes.one (i := 8) inv (by kernel_rfl) (by decide) rfl (fun inv K' hK => ?_)
      go_simp
      refine (ite_impl M mb B n gs1 v1 (opsOf M) z0 z1 z2 gk 0 kc _ (HM1.out.below (below_drewN _ 1)) hn0 hn (by omega) I0.out I1.out I2.out (keep (below_drewN _ 1) c0) (keep (below_drewN _ 1) c1) (keep (below_drewN _ 1) c2) hgM hgm hap1).mono ?_
      rintro e w2 ⟨v2, rfl, hmk, hch, hnw⟩
      have hch' : ChgB M mb v1 wr w2 := (ChgB.of_below (below_drewN _ 1)).trans (New.refl _ _) hch
      have hnw' : New wr v1 v2 := (New.refl wr v1).trans hnw (by simp)
      have HM2 := hid hmk
      clear hmk hch hnw
      have HC2 := hid (HCh1.out.trans HNw1.out hch')
      have HN2 := hid (HNw1.out.trans hnw' HCh1.out.size)
      have HS2 : Hid (w2.cell? ⟨w.heap.size, 0, none⟩ = some (.int .i64 7) ∧ w2.cell? ⟨M, 10, none⟩ = some (.func (.func 39) #[.pointer (some ⟨M, 0, none⟩)] #[])) := hid ⟨hch'.cell (by omega) (by omega) (fun e => by
          rcases HNw1.out with h1 | ⟨g, hg, h1⟩
          · rw [h1] at e; exact hbw e
          · rw [h1] at e; injection e with e; simp at hg; omega) (HKC1.out _ (Below.refl _ _)).1, World.rowIs.cell HM2.out.cells (i := 10) (by omega)⟩
      clear hch' hnw'
      (try go_wp2_with fail)
      refine hK.out _ _ HS2.out (fun hHeld => ?_)
      clear hK K'
      (try simp only [Act.put, List.setIfInBounds_toArray, List.set_cons_zero, List.set_cons_succ])
      refine Goes.last (by kernel_rfl) (by kernel_rfl) rfl (fun K' hK => ?_)
      go_simp
      refine hK.out _ _ ?_
      clear hK K' hHeld
      (try simp only [Exit.then])
      go_wp2
      go_ret
      exact ⟨v2, by rw [HRes.out] <;> rfl, by rw [HRes.out]; exact HM2.out, (ChgB.of_below (by repeat (first | exact Below.refl _ _ | assumption | refine Below.drew ?_ | refine Below.alloc ?_ (by first | exact Nat.le_refl _ | omega | (simp; done) | (simp; omega)) _ | refine Below.setCell ?_ (by first | exact Nat.le_refl _ | omega | (simp; done) | (simp; omega)) _))).trans (New.refl _ _) HC2.out, (New.refl w v).trans HN2.out (by simp)⟩
end Go.Proofs.Ytgjfgkdmfahkaaa.buildBuild
