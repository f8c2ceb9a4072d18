/- Gates that are built, each once, of the program's builder: and; conditions: literals of nodes that are there. -/
import Derived.Test.YtgjfgkdmfahkaaaBuildMap
import Derived.Test.YtgjfgkdmfahkaaaBuildAnd
import Derived.Test.YtgjfgkdmfahkaaaBuildOpp
namespace Go.Proofs.Ytgjfgkdmfahkaaa.buildAndI
open Go.RowKit Go.Deep Go.Sort Go.Maps Go.WideMaps Go base trees buildSem buildMap buildAnd buildOpp heldStore
set_option linter.unusedVariables false

/-- The two are opposite literals of one node. -/
theorem opp_iff {p q : Int} (h0 : 0 ≤ p) (h : p ≤ q) : p = notL q ↔ p ≠ q ∧ p / 2 = q / 2 := by
  unfold notL
  split <;> omega
theorem look {W : World} {mb m : Nat} {D : DataW Unit} {kl : Lit} {key : Value} {c : Int} {t : Bool} (hown : W.ownsMap Try.prog 64 (plainElem Try.prog 3) mb m D) (hh : Maps.has D kl = t) (hat : D.atKey kl (.lit (.int .i64 0)) = .lit (.int .i64 c)) (hkey : keyOf Try.prog 64 key = some kl) :
    (Instr.lookup 52 (.map (some mb)) key true).run Try.prog W = .ok (.tuple #[.int .i64 c, .bool t]) W := by
  obtain ⟨v, ps, hrun, hv⟩ := hown.look_ok keyed Try.underlying52 (zeroI W) (plainElem_int Try.underlying3 (by decide)) hkey
  obtain ⟨c', rfl, hc, _⟩ := plainElem_int_inv Try.underlying3 hv
  have h1 := congrArg Prod.fst hc
  rw [hat] at h1
  injection h1 with h1
  injection h1 with _ h1
  rw [hrun, hh, h1]
/-- The builder behind the store of its grown row, ahead of the map's. -/
structure Bd0 (M mb B : Nat) (n : Int) (gs : Gl) (v v2 : Value) (F : Nat → Value) (we w2 w3 : World) (pb : Nat) (p q : Int) : Prop where
  row : w3.rowIs M 57 11 (fun i => if i = 0 then .int .i64 n else if i = 1 then v2 else if i = 2 then .map (some mb) else F i)
  own : w3.ownsRow B 63 2 v2 (gs.length + 1) (flatG gs ++ [.int .i64 p, .int .i64 q])
  map : ∃ D : DataW Unit, w3.ownsMap Try.prog 64 (plainElem Try.prog 3) mb gs.length D ∧ MapG n gs D
  chg : ChgB M mb v we w3
  new : New we v v2
  le : B ≤ w3.heap.size
  cells : w3.cell? ⟨M, 0, none⟩ = some (.int .i64 n) ∧ w3.cell? ⟨M, 1, none⟩ = some v2 ∧ w3.cell? ⟨M, 2, none⟩ = some (.map (some mb)) ∧ w3.cell? ⟨pb, 0, none⟩ = some (.int .i64 p) ∧ w3.cell? ⟨pb, 1, none⟩ = some (.int .i64 q)
theorem bd0_of {M mb B : Nat} {n : Int} {gs : Gl} {v v2 : Value} {F : Nat → Value} {we W w2 : World} {pb : Nat} {p q : Int} (h : Bd M mb B n gs v F we) (hb : Below we.heap.size we W) (ho : w2.ownsRow B 63 2 v2 (gs.length + 1) (flatG gs ++ [.int .i64 p, .int .i64 q])) (hg : W.grownBy w2 v.ownBlock) (ha : v2.ownBlock = v.ownBlock ∨ v2.ownBlock = some W.heap.size)
    (hk : we.cell? ⟨pb, 0, none⟩ = some (.int .i64 p) ∧ we.cell? ⟨pb, 1, none⟩ = some (.int .i64 q)) (h1 : some pb ≠ v.ownBlock) (h2 : pb ≠ M) (h3 : pb ≠ mb) : Bd0 M mb B n gs v v2 F we w2 (w2.setCell ⟨M, 1, none⟩ v2) pb p q := by
  have hW := h.below hb
  have hlt := h.lt
  have hle := h.le
  have hml := h.mlt
  have hne : some M ≠ v.ownBlock := fun e => by have := (World.ownsRow.lt h.own M e.symm).1; omega
  have hnm : some mb ≠ v.ownBlock := fun e => by have := (World.ownsRow.lt h.own mb e.symm).1; omega
  have htw := World.rowIs.of_block hW.cells (hg.block _ (World.rowIs.lt hW.cells) hne)
  have hrow : (w2.setCell ⟨M, 1, none⟩ v2).rowIs M 57 11 (fun i => if i = 0 then .int .i64 n else if i = 1 then v2 else if i = 2 then .map (some mb) else F i) := by
    refine World.rowIs.congr (World.rowIs.set htw 1 v2) fun i hi => ?_
    by_cases e1 : i = 1
    · subst e1; rfl
    · by_cases e0 : i = 0
      · subst e0; rfl
      · simp [e0, e1]
  have hpc : ∀ o u, we.cell? ⟨pb, o, none⟩ = some u → (w2.setCell ⟨M, 1, none⟩ v2).cell? ⟨pb, o, none⟩ = some u := fun o u hu => by
    have hh := World.block_lt_of_cell? _ _ hu
    rw [World.cell?_of_block (a := ⟨pb, o, none⟩) (Below.heap_setCell _ _ _ _ (by dsimp only; omega)), World.cell?_of_block (a := ⟨pb, o, none⟩) (hg.block pb (Nat.lt_of_lt_of_le hh hb.size) h1)]
    exact keep hb hu
  obtain ⟨D, hD, hG⟩ := hW.map
  have hsz : we.heap.size ≤ (w2.setCell ⟨M, 1, none⟩ v2).heap.size := by
    have h1 := hg.size
    have h2 := hb.size
    simp [World.setCell]
    omega
  refine ⟨hrow, own_kept ho fun g hgb => ?_, ⟨D, own_below hD ?_, hG⟩, ⟨?_, ?_, ?_, hsz, fun j hj j1 j2 j3 => ?_⟩, ?_, Nat.le_trans hle hsz, World.rowIs.cell hrow (i := 0) (by omega), World.rowIs.cell hrow (i := 1) (by omega), World.rowIs.cell hrow (i := 2) (by omega), hpc 0 _ hk.1, hpc 1 _ hk.2⟩
  · have := (World.ownsRow.lt ho g hgb).1
    exact Below.heap_setCell _ _ _ _ (by dsimp only; omega)
  · rw [Below.heap_setCell _ _ _ _ (by dsimp only; exact fun e => h.ne e.symm)]
    exact hg.block mb hD.lt hnm
  · rw [setCell_eq]; exact hg.os.trans hb.os
  · rw [setCell_eq]; exact hg.tape.trans hb.tape
  · rw [setCell_eq]; exact hg.output.trans hb.output
  · rw [Below.heap_setCell _ _ _ _ (by dsimp only; omega)]
    exact (hg.block j (Nat.lt_of_lt_of_le hj hb.size) j3).trans (hb.block j hj)
  · rcases ha with ha | ha
    · exact .inl ha
    · exact .inr ⟨_, hb.size, ha⟩
theorem bd1_of {M mb B : Nat} {n : Int} {gs : Gl} {v v2 : Value} {F : Nat → Value} {we w2 w3 wx w4 : World} {pb : Nat} {p q : Int} {D : DataW Unit} (h : Bd0 M mb B n gs v v2 F we w2 w3 pb p q) (hb : Below w3.heap.size w3 wx) (hG : MapG n gs D) (hp : I64 p) (hq : I64 q) (hno : placeG gs p q = none)
    (ho : w4.ownsMap Try.prog 64 (plainElem Try.prog 3) mb (gs.length + 1) (D.put (kb p q) (.lit (.int .i64 (2 * (n + 1 + (gs.length : Int))))))) (hg : wx.grownBy w4 (some mb)) (hlt : M < B) (hml : mb < B) (hne : M ≠ mb) : Bd M mb B n (gs ++ [(p, q)]) v2 F w4 ∧ ChgB M mb v we w4 := by
  refine ⟨⟨?_, ?_, ⟨_, by rw [List.length_append]; exact ho, mapG_add hG hp hq hno⟩, hlt, hml, hne, Nat.le_trans h.le (Nat.le_trans hb.size hg.size)⟩, ⟨?_, ?_, ?_, Nat.le_trans h.chg.size (Nat.le_trans hb.size hg.size), fun j hj j1 j2 j3 => ?_⟩⟩
  · have hl := World.rowIs.lt h.row
    exact World.rowIs.of_block h.row ((hg.block M (Nat.lt_of_lt_of_le hl hb.size) (fun e => hne (by injection e))).trans (hb.block M hl))
  · rw [flat_add, List.length_append]
    refine own_kept h.own fun g hgb => ?_
    have h1 := World.ownsRow.lt h.own g hgb
    exact (hg.block g (Nat.lt_of_lt_of_le h1.2 hb.size) (fun e => by injection e with e; omega)).trans (hb.block g h1.2)
  · exact hg.os.trans (hb.os.trans h.chg.os)
  · exact hg.tape.trans (hb.tape.trans h.chg.tape)
  · exact hg.output.trans (hb.output.trans h.chg.output)
  · have h1 := Nat.lt_of_lt_of_le hj h.chg.size
    exact (hg.block j (Nat.lt_of_lt_of_le h1 hb.size) (fun e => j2 (by injection e))).trans ((hb.block j h1).trans (h.chg.block j hj j1 j2 j3))
theorem step_update {P : Program} {H : Type} (w : World) {ops : Array Oper} {o : Oper} {a : Act} {K : Act → World → Prop} {Q : Exit → Act → World → Prop} {E : Prop} (hgd : o.guard = none) (m x v : Operand) (t : TypeId) (hop : o.op = Op.mapUpdate t m x v)
    (k e : TypeId) (Kd : Keyed P k) (ht : P.underlying t = some (.map k e)) (R : Value → Option (DataW H × List MemPlace)) (b n : Nat) (D : DataW H) (hm : a.eval m = .map (some b)) (hown : w.ownsMap P k R b n D) (hn : n < maxLen) (key val : Value) (kl : Lit) (hx : a.eval x = key) (hv : a.eval v = val) (hkey : keyOf P k key = some kl)
    (d : DataW H) (ps : List MemPlace) (hval : R val = some (d, ps)) (h : ∀ w', w'.ownsMap P k R b (n + 1) (D.put kl d) → w.grownBy w' (some b) → K (a.put o.dst undef) w') :
    if Region.wanted o (yielded ops a.tmps) = true then Oper.wp P o a w K Q else E := by
  have hw : Region.wanted o (yielded ops a.tmps) = true := by simp [Region.wanted, hgd]
  rw [if_pos hw]
  obtain ⟨w', hrun, r1, r2⟩ := hown.update Kd ht hn hkey hval
  have := h w' r1 r2
  unfold Oper.wp
  simp [execOp, hop, hm, hx, hv, hrun, Result.andThen]
  exact this
set_option maxHeartbeats 3200000 in
set_option maxRecDepth 8000 in
theorem and_impl (M mb B : Nat) (n : Int) (gs : Gl) (v : Value) (F : Nat → Value) (a b : Int) (kg ko kl kc : Nat) (w : World) (hm : Bd M mb B n gs v F w) (hn0 : 0 ≤ n) (hn : n ≤ 12) (hl : gs.length ≤ 1000000) (ha : In n gs a) (hb : In n gs b) (hkl : 2 ≤ kl) (hk0 : w.cell? ⟨kg, ko, none⟩ = some (.int .i64 a)) (hk1 : w.cell? ⟨kg, ko + 1, none⟩ = some (.int .i64 b)) :
    Calls Try.prog 36 #[.pointer (some ⟨M, 0, none⟩), .slice (some ⟨kg, ko, none⟩) kl kc] w fun e w' => ∃ v', e = .returned (.int .i64 (andL n gs a b).1) ∧ Bd M mb B n (andL n gs a b).2 v' F w' ∧ ChgB M mb v w w' ∧ New w v v' := by
  obtain ⟨ha0, ha1⟩ := ha
  obtain ⟨hb0, hb1⟩ := hb
  have HM := hid hm
  obtain ⟨i0, hi0, hzz⟩ := Option.map_eq_some_iff.1 info_gate
  simp only [Prod.mk.injEq] at hzz
  obtain ⟨hz0, hz1, hz2⟩ := hzz
  have HI := hid hi0
  have HZ0 := hid hz0
  have HZ1 := hid hz1
  have HZ2 := hid hz2
  clear hm hi0 hz0 hz1 hz2
  by_cases hab : b < a
  · have hle : b ≤ a := by omega
    have HA : Hid (andL n gs a b = ordL n gs b a) := hid (by unfold andL; rw [if_pos hab])
    have hk2 : (0 : Int) < (kl : Int) := by omega
    have hk3 : (1 : Int) < (kl : Int) := by omega
    go_enter Try.func36, Try.ntmps36
    go_wp2_with fail
    go_quiet (fail)
    have hbd := below_drewN w nq
    have HMd := hid (HM.out.below hbd)
    have HBd := hid hbd
    clear hbd hk0 hk1 hk2 hk3 hab
    generalize w.drewN nq = wd at *
    by_cases p0 : b = 0
    · have d0 : (b == 0) = true := by simp [p0]
      have HR : Hid (andL n gs a b = (0, gs)) := hid (by rw [HA.out]; unfold ordL; rw [if_pos p0])
      clear p0
      go_wp2
      go_ret
      first | exact ⟨v, by rw [HR.out]; rfl, by rw [HR.out]; exact HMd.out, ChgB.of_below HBd.out, New.refl _ _⟩ | exact ⟨by rw [HR.out]; rfl, v, by rw [HR.out]; exact HMd.out, ChgB.of_below HBd.out, New.refl _ _⟩
    have d0 : (b == 0) = false := by simp [p0]
    by_cases po : b = notL a
    · have do' : (b == notL a) = true := by simp [← po]
      have HR : Hid (andL n gs a b = (0, gs)) := hid (by
        have ho := (opp_iff hb0 (by omega)).1 po
        rw [HA.out]; unfold ordL; rw [if_neg p0, if_neg (by omega), if_pos ho.2])
      clear p0 po
      go_wp2_with (go_at_call 47; refine (opposite_impl a _ (by omega) (by omega)).mono ?_; rintro e w' ⟨rfl, hw'⟩; have hw' := hw'.symm; subst hw')
      go_ret
      first | exact ⟨v, by rw [HR.out]; rfl, by rw [HR.out]; exact HMd.out, ChgB.of_below HBd.out, New.refl _ _⟩ | exact ⟨by rw [HR.out]; rfl, v, by rw [HR.out]; exact HMd.out, ChgB.of_below HBd.out, New.refl _ _⟩
    have do' : (b == notL a) = false := by simp [po]
    by_cases p1 : b = 1
    · have d1 : (b == 1) = true := by simp [p1]
      have HR : Hid (andL n gs a b = (a, gs)) := hid (by rw [HA.out]; unfold ordL; rw [if_neg p0, if_pos (.inl p1)])
      clear p0 po p1
      go_wp2_with (go_at_call 47; refine (opposite_impl a _ (by omega) (by omega)).mono ?_; rintro e w' ⟨rfl, hw'⟩; have hw' := hw'.symm; subst hw')
      go_ret
      first | exact ⟨v, by rw [HR.out]; rfl, by rw [HR.out]; exact HMd.out, ChgB.of_below HBd.out, New.refl _ _⟩ | exact ⟨by rw [HR.out]; rfl, v, by rw [HR.out]; exact HMd.out, ChgB.of_below HBd.out, New.refl _ _⟩
    have d1 : (b == 1) = false := by simp [p1]
    by_cases pq : b = a
    · have d2 : (b == a) = true := by simp [pq]
      have HR : Hid (andL n gs a b = (a, gs)) := hid (by rw [HA.out]; unfold ordL; rw [if_neg p0, if_pos (.inr pq)])
      clear p0 po p1 pq
      go_wp2_with (go_at_call 47; refine (opposite_impl a _ (by omega) (by omega)).mono ?_; rintro e w' ⟨rfl, hw'⟩; have hw' := hw'.symm; subst hw')
      go_ret
      first | exact ⟨v, by rw [HR.out]; rfl, by rw [HR.out]; exact HMd.out, ChgB.of_below HBd.out, New.refl _ _⟩ | exact ⟨by rw [HR.out]; rfl, v, by rw [HR.out]; exact HMd.out, ChgB.of_below HBd.out, New.refl _ _⟩
    have d2 : (b == a) = false := by simp [pq]
    have HR : Hid (andL n gs a b = addG n gs b a) := hid (by
      have ho : ¬ (b / 2 = a / 2) := fun h => po ((opp_iff hb0 hle).2 ⟨pq, h⟩)
      rw [HA.out]; unfold ordL; rw [if_neg p0, if_neg (by simp [p1, pq]), if_neg ho])
    have I1 : I64 b := ⟨by omega, by omega⟩
    have I2 : I64 a := ⟨by omega, by omega⟩
    have HI1 := hid I1
    have HI2 := hid I2
    clear p0 po p1 pq I1 I2
    have HBW : Hid (Below wd.heap.size wd (wd.alloc (.cells #[.int .i64 b, .int .i64 a] 64))) := hid (by repeat (first | exact Below.refl _ _ | assumption | refine Below.drew ?_ | refine Below.alloc ?_ (by first | exact Nat.le_refl _ | omega | (simp; done) | (simp; omega)) _ | refine Below.setCell ?_ (by first | exact Nat.le_refl _ | omega | (simp; done) | (simp; omega)) _))
    have HM0 := hid (HMd.out.below HBW.out)
    have m2 := HM0.out.c2
    have hMz := World.block_lt_of_cell? _ _ m2
    simp at hMz
    obtain ⟨DD, hD, hG⟩ := HM0.out.map
    obtain ⟨hh, hat⟩ := hG.2 b a HI1.out HI2.out
    cases hpl : placeG gs b a with
    | some i =>
      rw [hpl] at hh hat
      have hlk : ∀ k : Nat, (Instr.lookup 52 (.map (some mb)) (.agg #[.int .i64 b, .int .i64 a]) true).run Try.prog ((wd.alloc (.cells #[.int .i64 b, .int .i64 a] 64)).drewN k) = .ok (.tuple #[.int .i64 (2 * (n + 1 + (i : Int))), .bool true]) ((wd.alloc (.cells #[.int .i64 b, .int .i64 a] 64)).drewN k) := fun k => look (own_below hD rfl) hh (hat i rfl) (key_of HI1.out HI2.out)
      have HR2 : Hid (andL n gs a b = (2 * (n + 1 + (i : Int)), gs)) := hid (by rw [HR.out]; unfold addG; rw [hpl])
      clear hD hG hh hat hpl
      go_wp2_with (go_at_call 47; refine (opposite_impl a _ (by omega) (by omega)).mono ?_; rintro e w' ⟨rfl, hw'⟩; have hw' := hw'.symm; subst hw')
      go_quiet (fail)
      go_wp2
      go_ret
      first | exact ⟨v, by rw [HR2.out]; rfl, by rw [HR2.out]; exact HM0.out.below (below_drewN _ _), ChgB.of_below (HBd.out.trans ((HBW.out.trans ((below_drewN _ _).mono (by simp))).mono HBd.out.size)), New.refl _ _⟩ | exact ⟨by rw [HR2.out]; rfl, v, by rw [HR2.out]; exact HM0.out.below (below_drewN _ _), ChgB.of_below (HBd.out.trans ((HBW.out.trans ((below_drewN _ _).mono (by simp))).mono HBd.out.size)), New.refl _ _⟩
    | none =>
      rw [hpl] at hh
      have hlk : ∀ k : Nat, (Instr.lookup 52 (.map (some mb)) (.agg #[.int .i64 b, .int .i64 a]) true).run Try.prog ((wd.alloc (.cells #[.int .i64 b, .int .i64 a] 64)).drewN k) = .ok (.tuple #[.int .i64 0, .bool false]) ((wd.alloc (.cells #[.int .i64 b, .int .i64 a] 64)).drewN k) := fun k => look (own_below hD rfl) hh (Maps.atKey_of_not_has hh _) (key_of HI1.out HI2.out)
      have HR2 : Hid (andL n gs a b = (2 * (n + (gs.length + 1 : Nat)), gs ++ [(b, a)])) := hid (by rw [HR.out]; unfold addG; rw [hpl])
      have HPl := hid hpl
      obtain ⟨va, vc, hv⟩ : ∃ a c, v = .slice a gs.length c := by
        rcases HM.out.own.2 with ⟨e, h0⟩ | ⟨g, cap, cur, e, _⟩
        · exact ⟨none, 0, by rw [e, h0]⟩
        · exact ⟨_, _, e⟩
      subst hv
      clear hD hG hh hat hpl
      go_wp2_with (go_at_call 47; refine (opposite_impl a _ (by omega) (by omega)).mono ?_; rintro e w' ⟨rfl, hw'⟩; have hw' := hw'.symm; subst hw')
      go_quiet (fail)
      have hbe := below_drewN (wd.alloc (.cells #[.int .i64 b, .int .i64 a] 64)) nq
      generalize hwe : (wd.alloc (.cells #[.int .i64 b, .int .i64 a] 64)).drewN nq = we at *
      have HBe := hid (HBW.out.trans (hbe.mono (by simp)))
      have HMe := hid (HM0.out.below hbe)
      have HK : Hid (we.cell? ⟨wd.heap.size, 0, none⟩ = some (.int .i64 b) ∧ we.cell? ⟨wd.heap.size, 1, none⟩ = some (.int .i64 a)) := hid ⟨keep hbe (by simp [go_sem]), keep hbe (by simp [go_sem])⟩
      clear hbe hwe m2 hMz hlk
      have m1 := HMe.out.c1
      have hMz : M < we.heap.size := World.block_lt_of_cell? _ _ m1
      have HA1 : Hid (Below we.heap.size we (we.alloc (.cells #[.int .i64 b, .int .i64 a] 63))) := hid (by repeat (first | exact Below.refl _ _ | assumption | refine Below.drew ?_ | refine Below.alloc ?_ (by first | exact Nat.le_refl _ | omega | (simp; done) | (simp; omega)) _ | refine Below.setCell ?_ (by first | exact Nat.le_refl _ | omega | (simp; done) | (simp; omega)) _))
      have HO1 := hid (HMe.out.below HA1.out).own
      go_wp2_with
        (at_builtin
         refine wpList_append_own_at _ rfl _ _ 27 rfl B 63 i0 _ 2 16 Try.underlying27 HI.out HZ0.out HZ1.out HZ2.out rfl (by decide) _ _ _ rfl HO1.out ⟨we.heap.size, 0, none⟩ 1 1 [.int .i64 b, .int .i64 a] rfl rfl (cell_two _ _ _ _) (fun u hu => by simp at hu; rcases hu with rfl | rfl <;> rfl) (by unfold maxLen; omega) (by omega) (by have := HMe.out.le; simp; omega) ?_
         intro v2 w2 hown2 hg2 hnil2 hat2
         obtain ⟨a2, c2, rfl⟩ : ∃ a c, v2 = .slice a (gs.length + 1) c := by
           rcases hown2.2 with ⟨_, h0⟩ | ⟨g, cap, cur, e, _⟩
           · omega
           · exact ⟨_, _, e⟩
         have HOwn2 := hid hown2
         have HG2 := hid hg2
         have HAt2 := hid hat2
         have hneM : some M ≠ (Value.slice va gs.length vc).ownBlock := fun e => by have := (World.ownsRow.lt HMe.out.own M e.symm).1; have := HMe.out.lt; omega
         have hrw := World.rowIs.of_block (HMe.out.below HA1.out).cells (hg2.block _ (World.rowIs.lt (HMe.out.below HA1.out).cells) hneM)
         have HRw := hid hrw
         have n1 : w2.cell? ⟨M, 1, none⟩ = some (.slice va gs.length vc) := World.rowIs.cell hrw (i := 1) (by omega)
         have n2 : w2.frozen? ⟨M, 1, none⟩ = false := World.rowIs.frozen hrw 1
         clear hown2 hg2 hnil2 hat2 hrw m1 hneM)
      have HSet : Hid (Bd0 M mb B n gs (.slice va gs.length vc) (.slice a2 (gs.length + 1) c2) F we w2 (w2.setCell ⟨M, 1, none⟩ (.slice a2 (gs.length + 1) c2)) wd.heap.size b a) := hid (bd0_of HMe.out HA1.out HOwn2.out HG2.out HAt2.out HK.out (by
        have := (World.ownsRow.lt HM.out.own)
        exact fun e => by
          have h1 := (this _ e.symm).2
          have h2 := HBd.out.size
          omega) (by have := HMd.out.lt; have := HMd.out.le; omega) (by have := HMd.out.mlt; have := HMd.out.le; omega))
      obtain ⟨e0, e1, e2, e3, e4⟩ := HSet.out.cells
      clear n1 n2
      generalize w2.setCell ⟨M, 1, none⟩ (.slice a2 (gs.length + 1) c2) = w3 at *
      have hMz3 : M < w3.heap.size := World.block_lt_of_cell? _ _ e0
      go_quiet (fail)
      go_wp2
      have HB4 := hid (below_drewN w3 nq)
      have HN4 : Hid (w3.drewN nq = w3.drewN nq ∧ True) := hid ⟨rfl, trivial⟩
      generalize w3.drewN nq = w4 at *
      clear HN4
      obtain ⟨D4, hD4, hG4⟩ := HSet.out.map
      have HD5 := hid (own_below hD4 (((below_drewN w4 1).block mb (Nat.lt_of_lt_of_le hD4.lt HB4.out.size)).trans (HB4.out.block mb hD4.lt)))
      have HG4 := hid hG4
      have q2 := keep HB4.out e2
      have q3 := keep HB4.out e3
      have q4 := keep HB4.out e4
      clear hD4 hG4 e0 e1 e2 e3 e4
      refine region_goes 6 7 (fun w' => w'.cell? ⟨M, 2, none⟩ = some (.map (some mb)) ∧ w'.cell? ⟨wd.heap.size, 0, none⟩ = some (.int .i64 b) ∧ w'.cell? ⟨wd.heap.size, 1, none⟩ = some (.int .i64 a)) (by kernel_rfl) (by rfl) ⟨by kernel_rfl, by kernel_rfl, by kernel_rfl, by decide⟩ ⟨q2, q3, q4⟩ (fun hE inv hHeld => ?_)
      refine Goes.take (i := 0) (v := ?vum0) (some 84) hE rfl rfl inv (by kernel_rfl) (by kernel_rfl) (by decide) (fun _ _ _ h => h) (Or.inl ⟨by rfl, ?yum0⟩) (by assumption) (fun inv => ?rum0)
      case yum0 => (intro w' hSw; (try dsimp only at hSw); obtain ⟨s0, s1, s2⟩ := hSw; go_simp; (try with_reducible rfl))
      simp only [Act.put, List.setIfInBounds_toArray, List.set_cons_zero, List.set_cons_succ]
      refine Goes.take (i := 1) (v := ?vum1) (some 85) hE rfl rfl inv (by kernel_rfl) (by kernel_rfl) (by decide) (fun _ _ _ h => h) (Or.inl ⟨by rfl, ?yum1⟩) (by assumption) (fun inv => ?rum1)
      case yum1 => (intro w' hSw; (try dsimp only at hSw); obtain ⟨s0, s1, s2⟩ := hSw; go_simp; (try with_reducible rfl))
      simp only [Act.put, List.setIfInBounds_toArray, List.set_cons_zero, List.set_cons_succ]
      refine Goes.take (i := 2) (v := ?vum2) (some 86) hE rfl rfl inv (by kernel_rfl) (by kernel_rfl) (by decide) (fun _ _ _ h => h) (Or.inl ⟨by rfl, ?yum2⟩) (by assumption) (fun inv => ?rum2)
      case yum2 => (intro w' hSw; (try dsimp only at hSw); obtain ⟨s0, s1, s2⟩ := hSw; go_simp; (try with_reducible rfl))
      simp only [Act.put, List.setIfInBounds_toArray, List.set_cons_zero, List.set_cons_succ]
      refine Goes.take (i := 3) (v := ?vum3) (some 87) hE rfl rfl inv (by kernel_rfl) (by kernel_rfl) (by decide) (fun _ _ _ h => h) (Or.inl ⟨by rfl, ?yum3⟩) (by assumption) (fun inv => ?rum3)
      case yum3 => (intro w' hSw; (try dsimp only at hSw); obtain ⟨s0, s1, s2⟩ := hSw; go_simp; (try with_reducible rfl))
      simp only [Act.put, List.setIfInBounds_toArray, List.set_cons_zero, List.set_cons_succ]
      refine Goes.take (i := 4) (v := ?vum4) (some 88) hE rfl rfl inv (by kernel_rfl) (by kernel_rfl) (by decide) (fun _ _ _ h => h) (Or.inl ⟨by rfl, ?yum4⟩) (by assumption) (fun inv => ?rum4)
      case yum4 => (intro w' hSw; (try dsimp only at hSw); obtain ⟨s0, s1, s2⟩ := hSw; go_simp; (try with_reducible rfl))
      simp only [Act.put, List.setIfInBounds_toArray, List.set_cons_zero, List.set_cons_succ]
      refine Goes.take (i := 5) (v := ?vum5) (some 89) hE rfl rfl inv (by kernel_rfl) (by kernel_rfl) (by decide) (fun _ _ _ h => h) (Or.inl ⟨by rfl, ?yum5⟩) (by assumption) (fun inv => ?rum5)
      case yum5 => (intro w' hSw; (try dsimp only at hSw); obtain ⟨s0, s1, s2⟩ := hSw; go_simp; (try with_reducible rfl))
      simp only [Act.put, List.setIfInBounds_toArray, List.set_cons_zero, List.set_cons_succ]
      refine Goes.last (by kernel_rfl) (by kernel_rfl) rfl (fun K' hK => ?_)
      refine step_update _ (by rfl) _ _ _ 52 (by rfl) 64 3 keyed Try.underlying52 (plainElem Try.prog 3) mb gs.length D4 (by rfl) HD5.out (by unfold maxLen; omega) _ _ (kb b a) (by rfl) (by rfl) (key_of HI1.out HI2.out) _ [] (plainElem_int Try.underlying3 (in64_wf ⟨by omega, by omega⟩)) ?_
      intro w5 hown5 hg5
      have e5 : (2 * (n + 1 + (gs.length : Int))) = 2 * (n + (gs.length + 1 : Nat)) := by omega
      have hown6 : w5.ownsMap Try.prog 64 (plainElem Try.prog 3) mb (gs.length + 1) (D4.put (kb b a) (.lit (.int .i64 (2 * (n + 1 + (gs.length : Int)))))) := by rw [e5]; exact hown5
      obtain ⟨hbd, hch⟩ := bd1_of HSet.out (HB4.out.trans ((below_drewN w4 1).mono HB4.out.size)) HG4.out HI1.out HI2.out HPl.out hown6 hg5 HM.out.lt HM.out.mlt HM.out.ne
      clear hown6 e5
      have HBF := hid hbd
      have HCF := hid hch
      clear hbd hch hown5 hg5
      refine hK.out _ _ ?_
      clear hK K'
      (try simp only [Exit.then])
      go_wp2
      go_ret
      first | exact ⟨_, by rw [HR2.out]; rfl, by rw [HR2.out]; exact HBF.out, (ChgB.of_below HBd.out).trans (New.refl _ _) ((ChgB.of_below HBe.out).trans (New.refl _ _) HCF.out), (New.refl w _).trans HSet.out.new (Nat.le_trans HBd.out.size HBe.out.size)⟩ | exact ⟨by rw [HR2.out]; rfl, _, by rw [HR2.out]; exact HBF.out, (ChgB.of_below HBd.out).trans (New.refl _ _) ((ChgB.of_below HBe.out).trans (New.refl _ _) HCF.out), (New.refl w _).trans HSet.out.new (Nat.le_trans HBd.out.size HBe.out.size)⟩
  · by_cases hab2 : a < b
    · have hle : a ≤ b := by omega
      have HA : Hid (andL n gs a b = ordL n gs a b) := hid (by unfold andL; rw [if_neg hab])
      have hk2 : (0 : Int) < (kl : Int) := by omega
      have hk3 : (1 : Int) < (kl : Int) := by omega
      go_enter Try.func36, Try.ntmps36
      go_wp2_with fail
      go_quiet (fail)
      have hbd := below_drewN w nq
      have HMd := hid (HM.out.below hbd)
      have HBd := hid hbd
      clear hbd hk0 hk1 hk2 hk3 hab hab2
      generalize w.drewN nq = wd at *
      by_cases p0 : a = 0
      · have d0 : (a == 0) = true := by simp [p0]
        have HR : Hid (andL n gs a b = (0, gs)) := hid (by rw [HA.out]; unfold ordL; rw [if_pos p0])
        clear p0
        go_wp2
        go_ret
        first | exact ⟨v, by rw [HR.out]; rfl, by rw [HR.out]; exact HMd.out, ChgB.of_below HBd.out, New.refl _ _⟩ | exact ⟨by rw [HR.out]; rfl, v, by rw [HR.out]; exact HMd.out, ChgB.of_below HBd.out, New.refl _ _⟩
      have d0 : (a == 0) = false := by simp [p0]
      by_cases po : a = notL b
      · have do' : (a == notL b) = true := by simp [← po]
        have HR : Hid (andL n gs a b = (0, gs)) := hid (by
          have ho := (opp_iff ha0 (by omega)).1 po
          rw [HA.out]; unfold ordL; rw [if_neg p0, if_neg (by omega), if_pos ho.2])
        clear p0 po
        go_wp2_with (go_at_call 47; refine (opposite_impl b _ (by omega) (by omega)).mono ?_; rintro e w' ⟨rfl, hw'⟩; have hw' := hw'.symm; subst hw')
        go_ret
        first | exact ⟨v, by rw [HR.out]; rfl, by rw [HR.out]; exact HMd.out, ChgB.of_below HBd.out, New.refl _ _⟩ | exact ⟨by rw [HR.out]; rfl, v, by rw [HR.out]; exact HMd.out, ChgB.of_below HBd.out, New.refl _ _⟩
      have do' : (a == notL b) = false := by simp [po]
      by_cases p1 : a = 1
      · have d1 : (a == 1) = true := by simp [p1]
        have HR : Hid (andL n gs a b = (b, gs)) := hid (by rw [HA.out]; unfold ordL; rw [if_neg p0, if_pos (.inl p1)])
        clear p0 po p1
        go_wp2_with (go_at_call 47; refine (opposite_impl b _ (by omega) (by omega)).mono ?_; rintro e w' ⟨rfl, hw'⟩; have hw' := hw'.symm; subst hw')
        go_ret
        first | exact ⟨v, by rw [HR.out]; rfl, by rw [HR.out]; exact HMd.out, ChgB.of_below HBd.out, New.refl _ _⟩ | exact ⟨by rw [HR.out]; rfl, v, by rw [HR.out]; exact HMd.out, ChgB.of_below HBd.out, New.refl _ _⟩
      have d1 : (a == 1) = false := by simp [p1]
      by_cases pq : a = b
      · have d2 : (a == b) = true := by simp [pq]
        have HR : Hid (andL n gs a b = (b, gs)) := hid (by rw [HA.out]; unfold ordL; rw [if_neg p0, if_pos (.inr pq)])
        clear p0 po p1 pq
        go_wp2_with (go_at_call 47; refine (opposite_impl b _ (by omega) (by omega)).mono ?_; rintro e w' ⟨rfl, hw'⟩; have hw' := hw'.symm; subst hw')
        go_ret
        first | exact ⟨v, by rw [HR.out]; rfl, by rw [HR.out]; exact HMd.out, ChgB.of_below HBd.out, New.refl _ _⟩ | exact ⟨by rw [HR.out]; rfl, v, by rw [HR.out]; exact HMd.out, ChgB.of_below HBd.out, New.refl _ _⟩
      have d2 : (a == b) = false := by simp [pq]
      have HR : Hid (andL n gs a b = addG n gs a b) := hid (by
        have ho : ¬ (a / 2 = b / 2) := fun h => po ((opp_iff ha0 hle).2 ⟨pq, h⟩)
        rw [HA.out]; unfold ordL; rw [if_neg p0, if_neg (by simp [p1, pq]), if_neg ho])
      have I1 : I64 a := ⟨by omega, by omega⟩
      have I2 : I64 b := ⟨by omega, by omega⟩
      have HI1 := hid I1
      have HI2 := hid I2
      clear p0 po p1 pq I1 I2
      have HBW : Hid (Below wd.heap.size wd (wd.alloc (.cells #[.int .i64 a, .int .i64 b] 64))) := hid (by repeat (first | exact Below.refl _ _ | assumption | refine Below.drew ?_ | refine Below.alloc ?_ (by first | exact Nat.le_refl _ | omega | (simp; done) | (simp; omega)) _ | refine Below.setCell ?_ (by first | exact Nat.le_refl _ | omega | (simp; done) | (simp; omega)) _))
      have HM0 := hid (HMd.out.below HBW.out)
      have m2 := HM0.out.c2
      have hMz := World.block_lt_of_cell? _ _ m2
      simp at hMz
      obtain ⟨DD, hD, hG⟩ := HM0.out.map
      obtain ⟨hh, hat⟩ := hG.2 a b HI1.out HI2.out
      cases hpl : placeG gs a b with
      | some i =>
        rw [hpl] at hh hat
        have hlk : ∀ k : Nat, (Instr.lookup 52 (.map (some mb)) (.agg #[.int .i64 a, .int .i64 b]) true).run Try.prog ((wd.alloc (.cells #[.int .i64 a, .int .i64 b] 64)).drewN k) = .ok (.tuple #[.int .i64 (2 * (n + 1 + (i : Int))), .bool true]) ((wd.alloc (.cells #[.int .i64 a, .int .i64 b] 64)).drewN k) := fun k => look (own_below hD rfl) hh (hat i rfl) (key_of HI1.out HI2.out)
        have HR2 : Hid (andL n gs a b = (2 * (n + 1 + (i : Int)), gs)) := hid (by rw [HR.out]; unfold addG; rw [hpl])
        clear hD hG hh hat hpl
        go_wp2_with (go_at_call 47; refine (opposite_impl b _ (by omega) (by omega)).mono ?_; rintro e w' ⟨rfl, hw'⟩; have hw' := hw'.symm; subst hw')
        go_quiet (fail)
        go_wp2
        go_ret
        first | exact ⟨v, by rw [HR2.out]; rfl, by rw [HR2.out]; exact HM0.out.below (below_drewN _ _), ChgB.of_below (HBd.out.trans ((HBW.out.trans ((below_drewN _ _).mono (by simp))).mono HBd.out.size)), New.refl _ _⟩ | exact ⟨by rw [HR2.out]; rfl, v, by rw [HR2.out]; exact HM0.out.below (below_drewN _ _), ChgB.of_below (HBd.out.trans ((HBW.out.trans ((below_drewN _ _).mono (by simp))).mono HBd.out.size)), New.refl _ _⟩
      | none =>
        rw [hpl] at hh
        have hlk : ∀ k : Nat, (Instr.lookup 52 (.map (some mb)) (.agg #[.int .i64 a, .int .i64 b]) true).run Try.prog ((wd.alloc (.cells #[.int .i64 a, .int .i64 b] 64)).drewN k) = .ok (.tuple #[.int .i64 0, .bool false]) ((wd.alloc (.cells #[.int .i64 a, .int .i64 b] 64)).drewN k) := fun k => look (own_below hD rfl) hh (Maps.atKey_of_not_has hh _) (key_of HI1.out HI2.out)
        have HR2 : Hid (andL n gs a b = (2 * (n + (gs.length + 1 : Nat)), gs ++ [(a, b)])) := hid (by rw [HR.out]; unfold addG; rw [hpl])
        have HPl := hid hpl
        obtain ⟨va, vc, hv⟩ : ∃ a c, v = .slice a gs.length c := by
          rcases HM.out.own.2 with ⟨e, h0⟩ | ⟨g, cap, cur, e, _⟩
          · exact ⟨none, 0, by rw [e, h0]⟩
          · exact ⟨_, _, e⟩
        subst hv
        clear hD hG hh hat hpl
        go_wp2_with (go_at_call 47; refine (opposite_impl b _ (by omega) (by omega)).mono ?_; rintro e w' ⟨rfl, hw'⟩; have hw' := hw'.symm; subst hw')
        go_quiet (fail)
        have hbe := below_drewN (wd.alloc (.cells #[.int .i64 a, .int .i64 b] 64)) nq
        generalize hwe : (wd.alloc (.cells #[.int .i64 a, .int .i64 b] 64)).drewN nq = we at *
        have HBe := hid (HBW.out.trans (hbe.mono (by simp)))
        have HMe := hid (HM0.out.below hbe)
        have HK : Hid (we.cell? ⟨wd.heap.size, 0, none⟩ = some (.int .i64 a) ∧ we.cell? ⟨wd.heap.size, 1, none⟩ = some (.int .i64 b)) := hid ⟨keep hbe (by simp [go_sem]), keep hbe (by simp [go_sem])⟩
        clear hbe hwe m2 hMz hlk
        have m1 := HMe.out.c1
        have hMz : M < we.heap.size := World.block_lt_of_cell? _ _ m1
        have HA1 : Hid (Below we.heap.size we (we.alloc (.cells #[.int .i64 a, .int .i64 b] 63))) := hid (by repeat (first | exact Below.refl _ _ | assumption | refine Below.drew ?_ | refine Below.alloc ?_ (by first | exact Nat.le_refl _ | omega | (simp; done) | (simp; omega)) _ | refine Below.setCell ?_ (by first | exact Nat.le_refl _ | omega | (simp; done) | (simp; omega)) _))
        have HO1 := hid (HMe.out.below HA1.out).own
        go_wp2_with
          (at_builtin
           refine wpList_append_own_at _ rfl _ _ 27 rfl B 63 i0 _ 2 16 Try.underlying27 HI.out HZ0.out HZ1.out HZ2.out rfl (by decide) _ _ _ rfl HO1.out ⟨we.heap.size, 0, none⟩ 1 1 [.int .i64 a, .int .i64 b] rfl rfl (cell_two _ _ _ _) (fun u hu => by simp at hu; rcases hu with rfl | rfl <;> rfl) (by unfold maxLen; omega) (by omega) (by have := HMe.out.le; simp; omega) ?_
           intro v2 w2 hown2 hg2 hnil2 hat2
           obtain ⟨a2, c2, rfl⟩ : ∃ a c, v2 = .slice a (gs.length + 1) c := by
             rcases hown2.2 with ⟨_, h0⟩ | ⟨g, cap, cur, e, _⟩
             · omega
             · exact ⟨_, _, e⟩
           have HOwn2 := hid hown2
           have HG2 := hid hg2
           have HAt2 := hid hat2
           have hneM : some M ≠ (Value.slice va gs.length vc).ownBlock := fun e => by have := (World.ownsRow.lt HMe.out.own M e.symm).1; have := HMe.out.lt; omega
           have hrw := World.rowIs.of_block (HMe.out.below HA1.out).cells (hg2.block _ (World.rowIs.lt (HMe.out.below HA1.out).cells) hneM)
           have HRw := hid hrw
           have n1 : w2.cell? ⟨M, 1, none⟩ = some (.slice va gs.length vc) := World.rowIs.cell hrw (i := 1) (by omega)
           have n2 : w2.frozen? ⟨M, 1, none⟩ = false := World.rowIs.frozen hrw 1
           clear hown2 hg2 hnil2 hat2 hrw m1 hneM)
        have HSet : Hid (Bd0 M mb B n gs (.slice va gs.length vc) (.slice a2 (gs.length + 1) c2) F we w2 (w2.setCell ⟨M, 1, none⟩ (.slice a2 (gs.length + 1) c2)) wd.heap.size a b) := hid (bd0_of HMe.out HA1.out HOwn2.out HG2.out HAt2.out HK.out (by
          have := (World.ownsRow.lt HM.out.own)
          exact fun e => by
            have h1 := (this _ e.symm).2
            have h2 := HBd.out.size
            omega) (by have := HMd.out.lt; have := HMd.out.le; omega) (by have := HMd.out.mlt; have := HMd.out.le; omega))
        obtain ⟨e0, e1, e2, e3, e4⟩ := HSet.out.cells
        clear n1 n2
        generalize w2.setCell ⟨M, 1, none⟩ (.slice a2 (gs.length + 1) c2) = w3 at *
        have hMz3 : M < w3.heap.size := World.block_lt_of_cell? _ _ e0
        go_quiet (fail)
        go_wp2
        have HB4 := hid (below_drewN w3 nq)
        have HN4 : Hid (w3.drewN nq = w3.drewN nq ∧ True) := hid ⟨rfl, trivial⟩
        generalize w3.drewN nq = w4 at *
        clear HN4
        obtain ⟨D4, hD4, hG4⟩ := HSet.out.map
        have HD5 := hid (own_below hD4 (((below_drewN w4 1).block mb (Nat.lt_of_lt_of_le hD4.lt HB4.out.size)).trans (HB4.out.block mb hD4.lt)))
        have HG4 := hid hG4
        have q2 := keep HB4.out e2
        have q3 := keep HB4.out e3
        have q4 := keep HB4.out e4
        clear hD4 hG4 e0 e1 e2 e3 e4
        refine region_goes 6 7 (fun w' => w'.cell? ⟨M, 2, none⟩ = some (.map (some mb)) ∧ w'.cell? ⟨wd.heap.size, 0, none⟩ = some (.int .i64 a) ∧ w'.cell? ⟨wd.heap.size, 1, none⟩ = some (.int .i64 b)) (by kernel_rfl) (by rfl) ⟨by kernel_rfl, by kernel_rfl, by kernel_rfl, by decide⟩ ⟨q2, q3, q4⟩ (fun hE inv hHeld => ?_)
        refine Goes.take (i := 0) (v := ?vun0) (some 84) hE rfl rfl inv (by kernel_rfl) (by kernel_rfl) (by decide) (fun _ _ _ h => h) (Or.inl ⟨by rfl, ?yun0⟩) (by assumption) (fun inv => ?run0)
        case yun0 => (intro w' hSw; (try dsimp only at hSw); obtain ⟨s0, s1, s2⟩ := hSw; go_simp; (try with_reducible rfl))
        simp only [Act.put, List.setIfInBounds_toArray, List.set_cons_zero, List.set_cons_succ]
        refine Goes.take (i := 1) (v := ?vun1) (some 85) hE rfl rfl inv (by kernel_rfl) (by kernel_rfl) (by decide) (fun _ _ _ h => h) (Or.inl ⟨by rfl, ?yun1⟩) (by assumption) (fun inv => ?run1)
        case yun1 => (intro w' hSw; (try dsimp only at hSw); obtain ⟨s0, s1, s2⟩ := hSw; go_simp; (try with_reducible rfl))
        simp only [Act.put, List.setIfInBounds_toArray, List.set_cons_zero, List.set_cons_succ]
        refine Goes.take (i := 2) (v := ?vun2) (some 86) hE rfl rfl inv (by kernel_rfl) (by kernel_rfl) (by decide) (fun _ _ _ h => h) (Or.inl ⟨by rfl, ?yun2⟩) (by assumption) (fun inv => ?run2)
        case yun2 => (intro w' hSw; (try dsimp only at hSw); obtain ⟨s0, s1, s2⟩ := hSw; go_simp; (try with_reducible rfl))
        simp only [Act.put, List.setIfInBounds_toArray, List.set_cons_zero, List.set_cons_succ]
        refine Goes.take (i := 3) (v := ?vun3) (some 87) hE rfl rfl inv (by kernel_rfl) (by kernel_rfl) (by decide) (fun _ _ _ h => h) (Or.inl ⟨by rfl, ?yun3⟩) (by assumption) (fun inv => ?run3)
        case yun3 => (intro w' hSw; (try dsimp only at hSw); obtain ⟨s0, s1, s2⟩ := hSw; go_simp; (try with_reducible rfl))
        simp only [Act.put, List.setIfInBounds_toArray, List.set_cons_zero, List.set_cons_succ]
        refine Goes.take (i := 4) (v := ?vun4) (some 88) hE rfl rfl inv (by kernel_rfl) (by kernel_rfl) (by decide) (fun _ _ _ h => h) (Or.inl ⟨by rfl, ?yun4⟩) (by assumption) (fun inv => ?run4)
        case yun4 => (intro w' hSw; (try dsimp only at hSw); obtain ⟨s0, s1, s2⟩ := hSw; go_simp; (try with_reducible rfl))
        simp only [Act.put, List.setIfInBounds_toArray, List.set_cons_zero, List.set_cons_succ]
        refine Goes.take (i := 5) (v := ?vun5) (some 89) hE rfl rfl inv (by kernel_rfl) (by kernel_rfl) (by decide) (fun _ _ _ h => h) (Or.inl ⟨by rfl, ?yun5⟩) (by assumption) (fun inv => ?run5)
        case yun5 => (intro w' hSw; (try dsimp only at hSw); obtain ⟨s0, s1, s2⟩ := hSw; go_simp; (try with_reducible rfl))
        simp only [Act.put, List.setIfInBounds_toArray, List.set_cons_zero, List.set_cons_succ]
        refine Goes.last (by kernel_rfl) (by kernel_rfl) rfl (fun K' hK => ?_)
        refine step_update _ (by rfl) _ _ _ 52 (by rfl) 64 3 keyed Try.underlying52 (plainElem Try.prog 3) mb gs.length D4 (by rfl) HD5.out (by unfold maxLen; omega) _ _ (kb a b) (by rfl) (by rfl) (key_of HI1.out HI2.out) _ [] (plainElem_int Try.underlying3 (in64_wf ⟨by omega, by omega⟩)) ?_
        intro w5 hown5 hg5
        have e5 : (2 * (n + 1 + (gs.length : Int))) = 2 * (n + (gs.length + 1 : Nat)) := by omega
        have hown6 : w5.ownsMap Try.prog 64 (plainElem Try.prog 3) mb (gs.length + 1) (D4.put (kb a b) (.lit (.int .i64 (2 * (n + 1 + (gs.length : Int)))))) := by rw [e5]; exact hown5
        obtain ⟨hbd, hch⟩ := bd1_of HSet.out (HB4.out.trans ((below_drewN w4 1).mono HB4.out.size)) HG4.out HI1.out HI2.out HPl.out hown6 hg5 HM.out.lt HM.out.mlt HM.out.ne
        clear hown6 e5
        have HBF := hid hbd
        have HCF := hid hch
        clear hbd hch hown5 hg5
        refine hK.out _ _ ?_
        clear hK K'
        (try simp only [Exit.then])
        go_wp2
        go_ret
        first | exact ⟨_, by rw [HR2.out]; rfl, by rw [HR2.out]; exact HBF.out, (ChgB.of_below HBd.out).trans (New.refl _ _) ((ChgB.of_below HBe.out).trans (New.refl _ _) HCF.out), (New.refl w _).trans HSet.out.new (Nat.le_trans HBd.out.size HBe.out.size)⟩ | exact ⟨by rw [HR2.out]; rfl, _, by rw [HR2.out]; exact HBF.out, (ChgB.of_below HBd.out).trans (New.refl _ _) ((ChgB.of_below HBe.out).trans (New.refl _ _) HCF.out), (New.refl w _).trans HSet.out.new (Nat.le_trans HBd.out.size HBe.out.size)⟩
    · have e : a = b := by omega
      subst e
      have hk2 : (0 : Int) < (kl : Int) := by omega
      have hk3 : (1 : Int) < (kl : Int) := by omega
      go_enter Try.func36, Try.ntmps36
      go_wp2_with fail
      go_quiet (fail)
      have hbd := below_drewN w nq
      have HMd := hid (HM.out.below hbd)
      have HBd := hid hbd
      clear hbd hk0 hk1 hk2 hk3 hab hab2
      generalize w.drewN nq = wd at *
      have HA : Hid (andL n gs a a = ordL n gs a a) := hid (by unfold andL; split <;> rfl)
      by_cases p0 : a = 0
      · have d0 : (a == 0) = true := by simp [p0]
        have HR : Hid (andL n gs a a = (0, gs)) := hid (by rw [HA.out]; unfold ordL; rw [if_pos p0])
        clear p0
        go_wp2
        go_ret
        first | exact ⟨v, by rw [HR.out]; rfl, by rw [HR.out]; exact HMd.out, ChgB.of_below HBd.out, New.refl _ _⟩ | exact ⟨by rw [HR.out]; rfl, v, by rw [HR.out]; exact HMd.out, ChgB.of_below HBd.out, New.refl _ _⟩
      have d0 : (a == 0) = false := by simp [p0]
      have HR : Hid (andL n gs a a = (a, gs)) := hid (by rw [HA.out]; unfold ordL; rw [if_neg p0, if_pos (.inr rfl)])
      have do' : (a == notL a) = false := by
        have : a ≠ notL a := by unfold notL; split <;> omega
        simp [this]
      obtain ⟨t1, d1⟩ : ∃ t, (a == 1) = t := ⟨_, rfl⟩
      cases t1
      all_goals
        clear p0
        go_wp2_with (go_at_call 47; refine (opposite_impl a _ (by omega) (by omega)).mono ?_; rintro e w' ⟨rfl, hw'⟩; have hw' := hw'.symm; subst hw')
        go_ret
        first | exact ⟨v, by rw [HR.out]; rfl, by rw [HR.out]; exact HMd.out, ChgB.of_below HBd.out, New.refl _ _⟩ | exact ⟨by rw [HR.out]; rfl, v, by rw [HR.out]; exact HMd.out, ChgB.of_below HBd.out, New.refl _ _⟩
end Go.Proofs.Ytgjfgkdmfahkaaa.buildAndI
