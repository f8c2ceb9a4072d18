/- Gates that are built, each once, of the specification's maker: the opposite of a literal, and, or; conditions: literals of nodes that are there. -/
import Derived.Test.YtaileckcflnbdaaBuildSem
import Derived.Test.YtaileckcflnbdaaHeldStore
import Derived.BigQuiet
import Derived.Maps.AppendAt
namespace Go.Proofs.Ytaileckcflnbdaa.buildAnd
open Go.RowKit Go.Deep Go base trees buildSem heldStore
set_option linter.unusedVariables false

theorem info_gate : (Try.prog.info? 60).map (fun i => (i.zero, i.size, i.bytes)) = some (some (.agg #[.int .i64 0, .int .i64 0]), 2, 16) := by kernel_rfl
theorem step_append_at {P : Program} (w : World) {ops : Array Oper} {o : Oper} {a : Act} {K : Act → World → Prop} {Q : Exit → Act → World → Prop} {E : Prop} (hgd : o.guard = none) (s x : Operand) (t : TypeId)
    (ho : o.op = .call { callee := .builtin .append, args := #[s, x], argTypes := #[t, t] }) (dd : Option Tmp) (hd : o.dst = dd)
    (base : Nat) (e : TypeId) (i : TypeInfo) (z : Value) (size bytes : Nat) (ht : P.underlying t = some (.slice e)) (hi : P.info? e = some i) (hz : i.zero = some z)
    (hsize : i.size = size) (hby : i.bytes = bytes) (hzs : z.cells.size = size) (hsz : 0 < size)
    (v : Value) (n : Nat) (xs : List Value) (hs : a.eval s = v) (hown : w.ownsRow base e size v n xs)
    (ad : Addr) (m c : Nat) (news : List Value) (hx : a.eval x = .slice (some ad) m c) (hl : news.length = m * size) (hnews : ∀ j u, news[j]? = some u → w.cell? (ad.add j) = some u) (h1 : ∀ u ∈ news, u.oneCell' = true)
    (h63 : n + m ≤ maxLen) (hbytes : (n + m) * bytes ≤ 140737488355328) (hbase : base ≤ w.heap.size)
    (h : ∀ v' w', w'.ownsRow base e size v' (n + m) (xs ++ news) → w.grownBy w' v.ownBlock → (v'.ownBlock = v.ownBlock ∨ v'.ownBlock = some w.heap.size) → K (a.put dd v') w') :
    if Region.wanted o (yielded ops a.tmps) = true then Oper.wp P o a w K Q else E := by
  subst hd
  have hw : Region.wanted o (yielded ops a.tmps) = true := by simp [Region.wanted, hgd]
  rw [if_pos hw]
  obtain ⟨v', w', hr, h2, h3, h4, h5⟩ := run_append_own_at (P := P) w base t o.type e i z size bytes ht hi hz hsize hby hzs hsz v n xs hown ad m c news hl hnews h1 h63 hbytes hbase
  have := h v' w' h2 h3 h5
  unfold Oper.wp execOp
  simp only [ho, resolve, invoke, builtin, Sem.run_bind, Sem.run_pure, Result.andThen_ok, List.map_toArray, List.map_cons, List.map_nil, hs, hx, hr]
  exact this


theorem cell_two (w : World) (x y : Value) (t : TypeId) : ∀ (j : Nat) (u : Value), [x, y][j]? = some u → (w.alloc (.cells #[x, y] t)).cell? ((⟨w.heap.size, 0, none⟩ : Addr).add j) = some u := by
  intro j u h
  match j, h with
  | 0, h => cases h; simp [Addr.add, go_sem]
  | 1, h => cases h; simp [Addr.add, go_sem]
  | _ + 2, h => simp at h

set_option maxHeartbeats 400000 in
theorem not_spec (a : Int) (w : World) (h0 : 0 ≤ a) (h1 : a ≤ 1000000000) :
    Calls Try.prog 34 #[.int .i64 a] w fun e w' => e = .returned (.int .i64 (notL a)) ∧ w' = w := by
  unfold notL
  by_cases h : a % 2 = 1
  · rw [if_pos h]
    have d : (a % 2 == 1) = true := by simp [h]
    clear h
    go_enter Try.func34, Try.ntmps34
    go_wp2
    go_ret
    exact ⟨rfl, rfl⟩
  · rw [if_neg h]
    have d : (a % 2 == 1) = false := by simp [h]
    clear h
    go_enter Try.func34, Try.ntmps34
    go_wp2
    go_ret
    exact ⟨rfl, rfl⟩

set_option maxHeartbeats 3200000 in
set_option maxRecDepth 8000 in
theorem and_spec (M B : Nat) (n : Int) (gs : Gl) (v : Value) (a b : Int) (w : World) (hm : Mk 56 M B n gs v w) (hn0 : 0 ≤ n) (hn : n ≤ 12) (hl : gs.length ≤ 1000000) (ha : In n gs a) (hb : In n gs b) :
    Calls Try.prog 35 #[.pointer (some ⟨M, 0, none⟩), .int .i64 a, .int .i64 b] w fun e w' => ∃ v', e = .returned (.int .i64 (andL n gs a b).1) ∧ Mk 56 M B n (andL n gs a b).2 v' w' ∧ Chg M v w w' ∧ New w v v' := by
  obtain ⟨ha0, ha1⟩ := ha
  obtain ⟨hb0, hb1⟩ := hb
  have HM := hid hm
  obtain ⟨i0, hi0, hzz⟩ := Option.map_eq_some_iff.1 info_gate
  simp only [Prod.mk.injEq] at hzz
  obtain ⟨hz0, hz1, hz2⟩ := hzz
  have HI := hid hi0
  have HZ0 := hid hz0
  have HZ1 := hid hz1
  have HZ2 := hid hz2
  clear hm hi0 hz0 hz1 hz2
  by_cases hab : b < a
  · have HA : Hid (andL n gs a b = ordL n gs b a) := hid (by unfold andL; rw [if_pos hab])
    have dab : decide (b < a) = true := decide_eq_true hab
    clear hab
    go_enter Try.func35, Try.ntmps35
    by_cases p0 : b = 0
    · have d0 : (b == 0) = true := by simp [p0]
      have HR : Hid (andL n gs a b = (0, gs)) := hid (by rw [HA.out]; unfold ordL; rw [if_pos p0])
      clear p0
      go_wp2
      go_ret
      exact ⟨v, by rw [HR.out]; rfl, by rw [HR.out]; exact HM.out, Chg.of_below (by repeat (first | exact Below.refl _ _ | assumption | refine Below.drew ?_ | refine Below.alloc ?_ (by first | exact Nat.le_refl _ | omega | (simp; done) | (simp; omega)) _ | refine Below.setCell ?_ (by first | exact Nat.le_refl _ | omega | (simp; done) | (simp; omega)) _)), New.refl _ _⟩
    have d0 : (b == 0) = false := by simp [p0]
    by_cases p1 : b = 1
    · have d1 : (b == 1) = true := by simp [p1]
      have HR : Hid (andL n gs a b = (a, gs)) := hid (by rw [HA.out]; unfold ordL; rw [if_neg p0, if_pos (.inl p1)])
      clear p0 p1
      go_wp2
      go_ret
      exact ⟨v, by rw [HR.out]; rfl, by rw [HR.out]; exact HM.out, Chg.of_below (by repeat (first | exact Below.refl _ _ | assumption | refine Below.drew ?_ | refine Below.alloc ?_ (by first | exact Nat.le_refl _ | omega | (simp; done) | (simp; omega)) _ | refine Below.setCell ?_ (by first | exact Nat.le_refl _ | omega | (simp; done) | (simp; omega)) _)), New.refl _ _⟩
    have d1 : (b == 1) = false := by simp [p1]
    by_cases pq : b = a
    · have d2 : (b == a) = true := by simp [pq]
      have HR : Hid (andL n gs a b = (a, gs)) := hid (by rw [HA.out]; unfold ordL; rw [if_neg p0, if_pos (.inr pq)])
      clear p0 p1 pq
      go_wp2
      go_ret
      exact ⟨v, by rw [HR.out]; rfl, by rw [HR.out]; exact HM.out, Chg.of_below (by repeat (first | exact Below.refl _ _ | assumption | refine Below.drew ?_ | refine Below.alloc ?_ (by first | exact Nat.le_refl _ | omega | (simp; done) | (simp; omega)) _ | refine Below.setCell ?_ (by first | exact Nat.le_refl _ | omega | (simp; done) | (simp; omega)) _)), New.refl _ _⟩
    have d2 : (b == a) = false := by simp [pq]
    by_cases ph : b / 2 = a / 2
    · have d3 : (b / 2 == a / 2) = true := by simp [ph]
      have HR : Hid (andL n gs a b = (0, gs)) := hid (by rw [HA.out]; unfold ordL; rw [if_neg p0, if_neg (by simp [p1, pq]), if_pos ph])
      clear p0 p1 pq ph
      go_wp2
      go_ret
      exact ⟨v, by rw [HR.out]; rfl, by rw [HR.out]; exact HM.out, Chg.of_below (by repeat (first | exact Below.refl _ _ | assumption | refine Below.drew ?_ | refine Below.alloc ?_ (by first | exact Nat.le_refl _ | omega | (simp; done) | (simp; omega)) _ | refine Below.setCell ?_ (by first | exact Nat.le_refl _ | omega | (simp; done) | (simp; omega)) _)), New.refl _ _⟩
    have d3 : (b / 2 == a / 2) = false := by simp [ph]
    have HR : Hid (andL n gs a b = addG n gs b a) := hid (by rw [HA.out]; unfold ordL; rw [if_neg p0, if_neg (by simp [p1, pq]), if_neg ph])
    clear p0 p1 pq ph
    go_wp2
    clear d0 d1 d2 d3
    have HC : Hid (∀ w8 : World, Below ((w.alloc (.cells #[.int .i64 b, .int .i64 a] 60))).heap.size (w.alloc (.cells #[.int .i64 b, .int .i64 a] 60)) w8 → w8.cell? ⟨w.heap.size, 0, none⟩ = some (.int .i64 b) ∧ w8.cell? ⟨w.heap.size, 1, none⟩ = some (.int .i64 a) ∧ Mk 56 M B n gs v w8 ∧ Below w.heap.size w w8) := hid (fun w8 hb => by
      have hB : Below w.heap.size w w8 := (show Below w.heap.size w (w.alloc (.cells #[.int .i64 b, .int .i64 a] 60)) from (by repeat (first | exact Below.refl _ _ | assumption | refine Below.drew ?_ | refine Below.alloc ?_ (by first | exact Nat.le_refl _ | omega | (simp; done) | (simp; omega)) _ | refine Below.setCell ?_ (by first | exact Nat.le_refl _ | omega | (simp; done) | (simp; omega)) _))).trans (hb.mono (by simp))
      exact ⟨keep hb (by simp [go_sem]), keep hb (by simp [go_sem]), HM.out.below hB, hB⟩)
    go_loopw [9] (fun i wr => ∃ k : Nat, k ≤ gs.length ∧ i = .int .i64 k ∧ (∀ j, j < k → gs[j]?.getD (0, 0) ≠ (b, a)) ∧ Below ((w.alloc (.cells #[.int .i64 b, .int .i64 a] 60))).heap.size (w.alloc (.cells #[.int .i64 b, .int .i64 a] 60)) wr) (fun i _ => gs.length - (intOf i).toNat)
    case atStart => exact ⟨0, Nat.zero_le _, rfl, fun j hj => absurd hj (Nat.not_lt_zero _), Below.refl _ _⟩
    case round =>
      obtain ⟨k, hk, rfl, hno, hbel⟩ := hrel
      have HNo := hid hno
      have HBk := hid hbel
      obtain ⟨g0, g1, hmk, hB⟩ := HC.out _ hbel
      have HMk := hid hmk
      have HB := hid hB
      have m0 := hmk.c0
      have m1 := hmk.c1
      have hMz := World.block_lt_of_cell? _ _ m0
      simp only at hMz
      clear hno hbel hmk hB
      by_cases hlt : k < gs.length
      · obtain ⟨gb, gc, hv, hc0, hc1⟩ := HMk.out.gate hlt
        obtain ⟨x, y, hxy⟩ : ∃ x y, gs[k]?.getD (0, 0) = (x, y) := ⟨_, _, rfl⟩
        rw [hxy] at hc0 hc1
        have HXY := hid hxy
        rw [hv] at m1
        clear hxy hv
        by_cases heq : x = b ∧ y = a
        · obtain ⟨hx, hy⟩ := heq
          rw [hx] at hc0 HXY
          rw [hy] at hc1 HXY
          clear hx hy
          have HRR : Hid (andL n gs a b = (2 * (n + 1 + k), gs)) := hid (by rw [HR.out]; unfold addG; rw [place_at hlt HXY.out HNo.out])
          go_wp2
          go_quiet (fail)
          go_wp2
          go_ret
          exact ⟨v, by rw [HRR.out]; rfl, by rw [HRR.out]; exact HMk.out.below (below_drewN _ _), Chg.of_below (HB.out.trans ((below_drewN _ _).mono HB.out.size)), New.refl _ _⟩
        · have HNQ := hid (show (x, y) ≠ (b, a) from fun h => heq (by simpa using h))
          by_cases hp : x = b
          · have hq : (y == a) = false := by simp; exact fun h => heq ⟨hp, h⟩
            rw [hp] at hc0 HXY HNQ
            clear heq hp
            go_wp2
            go_quiet (fail)
            go_wp2
            go_roundw
            case rel =>
              refine ⟨k + 1, by omega, by go_num, fun j hj => ?_, HBk.out.trans ((below_drewN _ _).mono HBk.out.size)⟩
              by_cases e : j = k
              · subst e; rw [HXY.out]; exact HNQ.out
              · exact HNo.out j (by omega)
            case measure => simp [intOf]; omega
          · have hq : (x == b) = false := by simp [hp]
            clear heq hp
            go_wp2
            go_quiet (fail)
            go_wp2
            go_roundw
            case rel =>
              refine ⟨k + 1, by omega, by go_num, fun j hj => ?_, HBk.out.trans ((below_drewN _ _).mono HBk.out.size)⟩
              by_cases e : j = k
              · subst e; rw [HXY.out]; exact HNQ.out
              · exact HNo.out j (by omega)
            case measure => simp [intOf]; omega
      · have ek : k = gs.length := by omega
        have HRR : Hid (andL n gs a b = (2 * (n + (gs.length + 1 : Nat)), gs ++ [(b, a)])) := hid (by rw [HR.out]; unfold addG; rw [place_none (fun j hj => HNo.out j (by omega))])
        have hlt' : decide (k < gs.length) = false := decide_eq_false (by omega)
        obtain ⟨va, vc, hv⟩ := HMk.out.form
        subst hv
        clear hlt ek hk HNo
        go_wp2
        refine region_goes 12 13 (fun w' => w'.cell? ⟨M, 1, none⟩ = some (.slice va gs.length vc) ∧ w'.cell? ⟨w.heap.size, 0, none⟩ = some (.int .i64 b) ∧ w'.cell? ⟨w.heap.size, 1, none⟩ = some (.int .i64 a)) (by kernel_rfl) (by rfl) ⟨by kernel_rfl, by kernel_rfl, by kernel_rfl, by decide⟩ ⟨by simpa using m1, by simpa using g0, by simpa using g1⟩ (fun hE inv hHeld => ?_)
        refine Goes.take (i := 0) (v := ?vux0) (some 66) hE rfl rfl inv (by kernel_rfl) (by kernel_rfl) (by decide) (fun _ _ _ h => h) (Or.inl ⟨by rfl, ?yux0⟩) (by assumption) (fun inv => ?rux0)
        case yux0 => (intro w' hSw; (try dsimp only at hSw); obtain ⟨s0, s1, s2⟩ := hSw; go_simp; (try with_reducible rfl))
        simp only [Act.put, List.setIfInBounds_toArray, List.set_cons_zero, List.set_cons_succ]
        refine Goes.take (i := 1) (v := ?vux1) (some 67) hE rfl rfl inv (by kernel_rfl) (by kernel_rfl) (by decide) (fun _ _ _ h => h) (Or.inl ⟨by rfl, ?yux1⟩) (by assumption) (fun inv => ?rux1)
        case yux1 => (intro w' hSw; (try dsimp only at hSw); obtain ⟨s0, s1, s2⟩ := hSw; go_simp; (try with_reducible rfl))
        simp only [Act.put, List.setIfInBounds_toArray, List.set_cons_zero, List.set_cons_succ]
        refine Goes.take (i := 2) (v := ?vux2) (some 68) hE rfl rfl inv (by kernel_rfl) (by kernel_rfl) (by decide) (fun _ _ _ h => h) (Or.inl ⟨by rfl, ?yux2⟩) (by assumption) (fun inv => ?rux2)
        case yux2 => (intro w' hSw; (try dsimp only at hSw); obtain ⟨s0, s1, s2⟩ := hSw; go_simp; (try with_reducible rfl))
        simp only [Act.put, List.setIfInBounds_toArray, List.set_cons_zero, List.set_cons_succ]
        refine Goes.take (i := 3) (v := ?vux3) (some 69) hE rfl rfl inv (by kernel_rfl) (by kernel_rfl) (by decide) (fun _ _ _ h => h) (Or.inl ⟨by rfl, ?yux3⟩) (by assumption) (fun inv => ?rux3)
        case yux3 => (intro w' hSw; (try dsimp only at hSw); obtain ⟨s0, s1, s2⟩ := hSw; go_simp; (try with_reducible rfl))
        simp only [Act.put, List.setIfInBounds_toArray, List.set_cons_zero, List.set_cons_succ]
        refine Goes.take (i := 4) (v := ?vux4) (some 70) hE rfl rfl inv (by kernel_rfl) (by kernel_rfl) (by decide) (fun _ _ _ h => h) (Or.inl ⟨by rfl, ?yux4⟩) (by assumption) (fun inv => ?rux4)
        case yux4 => (intro w' hSw; (try dsimp only at hSw); obtain ⟨s0, s1, s2⟩ := hSw; go_simp; (try with_reducible rfl))
        simp only [Act.put, List.setIfInBounds_toArray, List.set_cons_zero, List.set_cons_succ]
        refine Goes.take (i := 5) (v := ?vux5) (some 71) hE rfl rfl inv (by kernel_rfl) (by kernel_rfl) (by decide) (fun _ _ _ h => h) (Or.inl ⟨by rfl, ?yux5⟩) (by assumption) (fun inv => ?rux5)
        case yux5 => (intro w' hSw; (try dsimp only at hSw); obtain ⟨s0, s1, s2⟩ := hSw; go_simp; (try with_reducible rfl))
        simp only [Act.put, List.setIfInBounds_toArray, List.set_cons_zero, List.set_cons_succ]
        refine Goes.take (i := 6) (v := ?vux6) (some 72) hE rfl rfl inv (by kernel_rfl) (by kernel_rfl) (by decide) (fun _ _ _ h => h) (Or.inl ⟨by rfl, ?yux6⟩) (by assumption) (fun inv => ?rux6)
        case yux6 => (intro w' hSw; (try dsimp only at hSw); obtain ⟨s0, s1, s2⟩ := hSw; go_simp; (try with_reducible rfl))
        simp only [Act.put, List.setIfInBounds_toArray, List.set_cons_zero, List.set_cons_succ]
        have HA1 : Hid (Below wr.heap.size wr (wr.drew.alloc (.cells #[.int .i64 b, .int .i64 a] 60))) := hid (by repeat (first | exact Below.refl _ _ | assumption | refine Below.drew ?_ | refine Below.alloc ?_ (by first | exact Nat.le_refl _ | omega | (simp; done) | (simp; omega)) _ | refine Below.setCell ?_ (by first | exact Nat.le_refl _ | omega | (simp; done) | (simp; omega)) _))
        have HO1 := hid (HMk.out.below HA1.out).own
        refine Goes.one (i := 7) inv (by kernel_rfl) (by decide) rfl (fun inv K' hK => ?_)
        go_simp
        refine hK.out _ _ ⟨keep HA1.out m1, keep HA1.out g0, keep HA1.out g1⟩ (fun hHeld => ?_)
        clear hK K'
        (try simp only [Act.put, List.setIfInBounds_toArray, List.set_cons_zero, List.set_cons_succ])
        refine Goes.one (i := 8) inv (by kernel_rfl) (by decide) rfl (fun inv K' hK => ?_)
        refine step_append_at _ (by rfl) _ _ 27 (by rfl) (some 74) (by rfl) B 60 i0 _ 2 16 Try.underlying27 HI.out HZ0.out HZ1.out HZ2.out rfl (by decide) _ _ _ (by rfl) HO1.out ⟨wr.heap.size, 0, none⟩ 1 1 [.int .i64 b, .int .i64 a] (by rfl) rfl (cell_two _ _ _ _) (fun u hu => by simp at hu; rcases hu with rfl | rfl <;> rfl) (by unfold maxLen; omega) (by omega) (by have := HMk.out.le; simp; omega) ?_
        intro v2 w2 hown2 hg2 hat2
        obtain ⟨a2, c2, rfl⟩ : ∃ a c, v2 = .slice a (gs.length + 1) c := by
          rcases hown2.2 with ⟨_, h0⟩ | ⟨g, cap, cur, e, _⟩
          · omega
          · exact ⟨_, _, e⟩
        obtain ⟨⟨n1, n2⟩, hmk2, hch2, hnew2⟩ := HMk.out.add HA1.out hown2 hg2 hat2
        have HM2 := hid hmk2
        have HCh := hid ((Chg.of_below HB.out).trans (New.refl _ _) hch2)
        have HNew := hid ((New.refl w (.slice va gs.length vc)).trans hnew2 HB.out.size)
        have e0 := hmk2.c0
        have e1 := hmk2.c1
        have hgz : some w.heap.size ≠ (Value.slice va gs.length vc).ownBlock ∨ True := .inr trivial
        have HG0 : Hid (w2.cell? ⟨w.heap.size, 0, none⟩ = some (.int .i64 b) ∧ w2.cell? ⟨w.heap.size, 1, none⟩ = some (.int .i64 a)) := hid (by
          have hne : some w.heap.size ≠ (Value.slice va gs.length vc).ownBlock := fun e => by
            have := (World.ownsRow.lt HM.out.own _ e.symm).2
            omega
          have hb := hg2.block w.heap.size (Nat.lt_of_lt_of_le (World.block_lt_of_cell? _ _ g0) HA1.out.size) hne
          exact ⟨(World.cell?_of_block (a := ⟨w.heap.size, 0, none⟩) hb).trans (keep HA1.out g0), (World.cell?_of_block (a := ⟨w.heap.size, 1, none⟩) hb).trans (keep HA1.out g1)⟩)
        have hMz2 : M < w2.heap.size := World.block_lt_of_cell? _ _ n1
        clear hown2 hg2 hat2 hmk2 hch2 hnew2 hgz
        refine hK.out _ _ ⟨n1, HG0.out.1, HG0.out.2⟩ (fun hHeld => ?_)
        clear hK K'
        simp only [Act.put, List.setIfInBounds_toArray, List.set_cons_zero, List.set_cons_succ]
        refine Goes.one (i := 9) inv (by kernel_rfl) (by decide) rfl (fun inv K' hK => ?_)
        go_simp
        refine hK.out _ _ ⟨n1, HG0.out.1, HG0.out.2⟩ (fun hHeld => ?_)
        clear hK K'
        (try simp only [Act.put, List.setIfInBounds_toArray, List.set_cons_zero, List.set_cons_succ])
        refine Goes.one (i := 10) inv (by kernel_rfl) (by decide) rfl (fun inv K' hK => ?_)
        go_simp
        refine hK.out _ _ ⟨n1, HG0.out.1, HG0.out.2⟩ (fun hHeld => ?_)
        clear hK K'
        (try simp only [Act.put, List.setIfInBounds_toArray, List.set_cons_zero, List.set_cons_succ])
        refine Goes.one (i := 11) inv (by kernel_rfl) (by decide) rfl (fun inv K' hK => ?_)
        go_simp
        refine hK.out _ _ ⟨n1, HG0.out.1, HG0.out.2⟩ (fun hHeld => ?_)
        clear hK K'
        (try simp only [Act.put, List.setIfInBounds_toArray, List.set_cons_zero, List.set_cons_succ])
        refine Goes.last (by kernel_rfl) (by kernel_rfl) rfl (fun K' hK => ?_)
        go_simp
        refine hK.out _ _ ?_
        clear hK K'
        (try simp only [Exit.then])
        go_wp2
        go_quiet (fail)
        go_wp2
        go_ret
        exact ⟨_, by rw [HRR.out]; rfl, by rw [HRR.out]; exact HM2.out.below (below_drewN _ _), HCh.out.trans HNew.out (Chg.of_below (below_drewN _ _)), HNew.out⟩
  · have HA : Hid (andL n gs a b = ordL n gs a b) := hid (by unfold andL; rw [if_neg hab])
    have dab : decide (b < a) = false := decide_eq_false hab
    clear hab
    go_enter Try.func35, Try.ntmps35
    by_cases p0 : a = 0
    · have d0 : (a == 0) = true := by simp [p0]
      have HR : Hid (andL n gs a b = (0, gs)) := hid (by rw [HA.out]; unfold ordL; rw [if_pos p0])
      clear p0
      go_wp2
      go_ret
      exact ⟨v, by rw [HR.out]; rfl, by rw [HR.out]; exact HM.out, Chg.of_below (by repeat (first | exact Below.refl _ _ | assumption | refine Below.drew ?_ | refine Below.alloc ?_ (by first | exact Nat.le_refl _ | omega | (simp; done) | (simp; omega)) _ | refine Below.setCell ?_ (by first | exact Nat.le_refl _ | omega | (simp; done) | (simp; omega)) _)), New.refl _ _⟩
    have d0 : (a == 0) = false := by simp [p0]
    by_cases p1 : a = 1
    · have d1 : (a == 1) = true := by simp [p1]
      have HR : Hid (andL n gs a b = (b, gs)) := hid (by rw [HA.out]; unfold ordL; rw [if_neg p0, if_pos (.inl p1)])
      clear p0 p1
      go_wp2
      go_ret
      exact ⟨v, by rw [HR.out]; rfl, by rw [HR.out]; exact HM.out, Chg.of_below (by repeat (first | exact Below.refl _ _ | assumption | refine Below.drew ?_ | refine Below.alloc ?_ (by first | exact Nat.le_refl _ | omega | (simp; done) | (simp; omega)) _ | refine Below.setCell ?_ (by first | exact Nat.le_refl _ | omega | (simp; done) | (simp; omega)) _)), New.refl _ _⟩
    have d1 : (a == 1) = false := by simp [p1]
    by_cases pq : a = b
    · have d2 : (a == b) = true := by simp [pq]
      have HR : Hid (andL n gs a b = (b, gs)) := hid (by rw [HA.out]; unfold ordL; rw [if_neg p0, if_pos (.inr pq)])
      clear p0 p1 pq
      go_wp2
      go_ret
      exact ⟨v, by rw [HR.out]; rfl, by rw [HR.out]; exact HM.out, Chg.of_below (by repeat (first | exact Below.refl _ _ | assumption | refine Below.drew ?_ | refine Below.alloc ?_ (by first | exact Nat.le_refl _ | omega | (simp; done) | (simp; omega)) _ | refine Below.setCell ?_ (by first | exact Nat.le_refl _ | omega | (simp; done) | (simp; omega)) _)), New.refl _ _⟩
    have d2 : (a == b) = false := by simp [pq]
    by_cases ph : a / 2 = b / 2
    · have d3 : (a / 2 == b / 2) = true := by simp [ph]
      have HR : Hid (andL n gs a b = (0, gs)) := hid (by rw [HA.out]; unfold ordL; rw [if_neg p0, if_neg (by simp [p1, pq]), if_pos ph])
      clear p0 p1 pq ph
      go_wp2
      go_ret
      exact ⟨v, by rw [HR.out]; rfl, by rw [HR.out]; exact HM.out, Chg.of_below (by repeat (first | exact Below.refl _ _ | assumption | refine Below.drew ?_ | refine Below.alloc ?_ (by first | exact Nat.le_refl _ | omega | (simp; done) | (simp; omega)) _ | refine Below.setCell ?_ (by first | exact Nat.le_refl _ | omega | (simp; done) | (simp; omega)) _)), New.refl _ _⟩
    have d3 : (a / 2 == b / 2) = false := by simp [ph]
    have HR : Hid (andL n gs a b = addG n gs a b) := hid (by rw [HA.out]; unfold ordL; rw [if_neg p0, if_neg (by simp [p1, pq]), if_neg ph])
    clear p0 p1 pq ph
    go_wp2
    clear d0 d1 d2 d3
    have HC : Hid (∀ w8 : World, Below ((w.alloc (.cells #[.int .i64 a, .int .i64 b] 60))).heap.size (w.alloc (.cells #[.int .i64 a, .int .i64 b] 60)) w8 → w8.cell? ⟨w.heap.size, 0, none⟩ = some (.int .i64 a) ∧ w8.cell? ⟨w.heap.size, 1, none⟩ = some (.int .i64 b) ∧ Mk 56 M B n gs v w8 ∧ Below w.heap.size w w8) := hid (fun w8 hb => by
      have hB : Below w.heap.size w w8 := (show Below w.heap.size w (w.alloc (.cells #[.int .i64 a, .int .i64 b] 60)) from (by repeat (first | exact Below.refl _ _ | assumption | refine Below.drew ?_ | refine Below.alloc ?_ (by first | exact Nat.le_refl _ | omega | (simp; done) | (simp; omega)) _ | refine Below.setCell ?_ (by first | exact Nat.le_refl _ | omega | (simp; done) | (simp; omega)) _))).trans (hb.mono (by simp))
      exact ⟨keep hb (by simp [go_sem]), keep hb (by simp [go_sem]), HM.out.below hB, hB⟩)
    go_loopw [9] (fun i wr => ∃ k : Nat, k ≤ gs.length ∧ i = .int .i64 k ∧ (∀ j, j < k → gs[j]?.getD (0, 0) ≠ (a, b)) ∧ Below ((w.alloc (.cells #[.int .i64 a, .int .i64 b] 60))).heap.size (w.alloc (.cells #[.int .i64 a, .int .i64 b] 60)) wr) (fun i _ => gs.length - (intOf i).toNat)
    case atStart => exact ⟨0, Nat.zero_le _, rfl, fun j hj => absurd hj (Nat.not_lt_zero _), Below.refl _ _⟩
    case round =>
      obtain ⟨k, hk, rfl, hno, hbel⟩ := hrel
      have HNo := hid hno
      have HBk := hid hbel
      obtain ⟨g0, g1, hmk, hB⟩ := HC.out _ hbel
      have HMk := hid hmk
      have HB := hid hB
      have m0 := hmk.c0
      have m1 := hmk.c1
      have hMz := World.block_lt_of_cell? _ _ m0
      simp only at hMz
      clear hno hbel hmk hB
      by_cases hlt : k < gs.length
      · obtain ⟨gb, gc, hv, hc0, hc1⟩ := HMk.out.gate hlt
        obtain ⟨x, y, hxy⟩ : ∃ x y, gs[k]?.getD (0, 0) = (x, y) := ⟨_, _, rfl⟩
        rw [hxy] at hc0 hc1
        have HXY := hid hxy
        rw [hv] at m1
        clear hxy hv
        by_cases heq : x = a ∧ y = b
        · obtain ⟨hx, hy⟩ := heq
          rw [hx] at hc0 HXY
          rw [hy] at hc1 HXY
          clear hx hy
          have HRR : Hid (andL n gs a b = (2 * (n + 1 + k), gs)) := hid (by rw [HR.out]; unfold addG; rw [place_at hlt HXY.out HNo.out])
          go_wp2
          go_quiet (fail)
          go_wp2
          go_ret
          exact ⟨v, by rw [HRR.out]; rfl, by rw [HRR.out]; exact HMk.out.below (below_drewN _ _), Chg.of_below (HB.out.trans ((below_drewN _ _).mono HB.out.size)), New.refl _ _⟩
        · have HNQ := hid (show (x, y) ≠ (a, b) from fun h => heq (by simpa using h))
          by_cases hp : x = a
          · have hq : (y == b) = false := by simp; exact fun h => heq ⟨hp, h⟩
            rw [hp] at hc0 HXY HNQ
            clear heq hp
            go_wp2
            go_quiet (fail)
            go_wp2
            go_roundw
            case rel =>
              refine ⟨k + 1, by omega, by go_num, fun j hj => ?_, HBk.out.trans ((below_drewN _ _).mono HBk.out.size)⟩
              by_cases e : j = k
              · subst e; rw [HXY.out]; exact HNQ.out
              · exact HNo.out j (by omega)
            case measure => simp [intOf]; omega
          · have hq : (x == a) = false := by simp [hp]
            clear heq hp
            go_wp2
            go_quiet (fail)
            go_wp2
            go_roundw
            case rel =>
              refine ⟨k + 1, by omega, by go_num, fun j hj => ?_, HBk.out.trans ((below_drewN _ _).mono HBk.out.size)⟩
              by_cases e : j = k
              · subst e; rw [HXY.out]; exact HNQ.out
              · exact HNo.out j (by omega)
            case measure => simp [intOf]; omega
      · have ek : k = gs.length := by omega
        have HRR : Hid (andL n gs a b = (2 * (n + (gs.length + 1 : Nat)), gs ++ [(a, b)])) := hid (by rw [HR.out]; unfold addG; rw [place_none (fun j hj => HNo.out j (by omega))])
        have hlt' : decide (k < gs.length) = false := decide_eq_false (by omega)
        obtain ⟨va, vc, hv⟩ := HMk.out.form
        subst hv
        clear hlt ek hk HNo
        go_wp2
        refine region_goes 12 13 (fun w' => w'.cell? ⟨M, 1, none⟩ = some (.slice va gs.length vc) ∧ w'.cell? ⟨w.heap.size, 0, none⟩ = some (.int .i64 a) ∧ w'.cell? ⟨w.heap.size, 1, none⟩ = some (.int .i64 b)) (by kernel_rfl) (by rfl) ⟨by kernel_rfl, by kernel_rfl, by kernel_rfl, by decide⟩ ⟨by simpa using m1, by simpa using g0, by simpa using g1⟩ (fun hE inv hHeld => ?_)
        refine Goes.take (i := 0) (v := ?vuy0) (some 66) hE rfl rfl inv (by kernel_rfl) (by kernel_rfl) (by decide) (fun _ _ _ h => h) (Or.inl ⟨by rfl, ?yuy0⟩) (by assumption) (fun inv => ?ruy0)
        case yuy0 => (intro w' hSw; (try dsimp only at hSw); obtain ⟨s0, s1, s2⟩ := hSw; go_simp; (try with_reducible rfl))
        simp only [Act.put, List.setIfInBounds_toArray, List.set_cons_zero, List.set_cons_succ]
        refine Goes.take (i := 1) (v := ?vuy1) (some 67) hE rfl rfl inv (by kernel_rfl) (by kernel_rfl) (by decide) (fun _ _ _ h => h) (Or.inl ⟨by rfl, ?yuy1⟩) (by assumption) (fun inv => ?ruy1)
        case yuy1 => (intro w' hSw; (try dsimp only at hSw); obtain ⟨s0, s1, s2⟩ := hSw; go_simp; (try with_reducible rfl))
        simp only [Act.put, List.setIfInBounds_toArray, List.set_cons_zero, List.set_cons_succ]
        refine Goes.take (i := 2) (v := ?vuy2) (some 68) hE rfl rfl inv (by kernel_rfl) (by kernel_rfl) (by decide) (fun _ _ _ h => h) (Or.inl ⟨by rfl, ?yuy2⟩) (by assumption) (fun inv => ?ruy2)
        case yuy2 => (intro w' hSw; (try dsimp only at hSw); obtain ⟨s0, s1, s2⟩ := hSw; go_simp; (try with_reducible rfl))
        simp only [Act.put, List.setIfInBounds_toArray, List.set_cons_zero, List.set_cons_succ]
        refine Goes.take (i := 3) (v := ?vuy3) (some 69) hE rfl rfl inv (by kernel_rfl) (by kernel_rfl) (by decide) (fun _ _ _ h => h) (Or.inl ⟨by rfl, ?yuy3⟩) (by assumption) (fun inv => ?ruy3)
        case yuy3 => (intro w' hSw; (try dsimp only at hSw); obtain ⟨s0, s1, s2⟩ := hSw; go_simp; (try with_reducible rfl))
        simp only [Act.put, List.setIfInBounds_toArray, List.set_cons_zero, List.set_cons_succ]
        refine Goes.take (i := 4) (v := ?vuy4) (some 70) hE rfl rfl inv (by kernel_rfl) (by kernel_rfl) (by decide) (fun _ _ _ h => h) (Or.inl ⟨by rfl, ?yuy4⟩) (by assumption) (fun inv => ?ruy4)
        case yuy4 => (intro w' hSw; (try dsimp only at hSw); obtain ⟨s0, s1, s2⟩ := hSw; go_simp; (try with_reducible rfl))
        simp only [Act.put, List.setIfInBounds_toArray, List.set_cons_zero, List.set_cons_succ]
        refine Goes.take (i := 5) (v := ?vuy5) (some 71) hE rfl rfl inv (by kernel_rfl) (by kernel_rfl) (by decide) (fun _ _ _ h => h) (Or.inl ⟨by rfl, ?yuy5⟩) (by assumption) (fun inv => ?ruy5)
        case yuy5 => (intro w' hSw; (try dsimp only at hSw); obtain ⟨s0, s1, s2⟩ := hSw; go_simp; (try with_reducible rfl))
        simp only [Act.put, List.setIfInBounds_toArray, List.set_cons_zero, List.set_cons_succ]
        refine Goes.take (i := 6) (v := ?vuy6) (some 72) hE rfl rfl inv (by kernel_rfl) (by kernel_rfl) (by decide) (fun _ _ _ h => h) (Or.inl ⟨by rfl, ?yuy6⟩) (by assumption) (fun inv => ?ruy6)
        case yuy6 => (intro w' hSw; (try dsimp only at hSw); obtain ⟨s0, s1, s2⟩ := hSw; go_simp; (try with_reducible rfl))
        simp only [Act.put, List.setIfInBounds_toArray, List.set_cons_zero, List.set_cons_succ]
        have HA1 : Hid (Below wr.heap.size wr (wr.drew.alloc (.cells #[.int .i64 a, .int .i64 b] 60))) := hid (by repeat (first | exact Below.refl _ _ | assumption | refine Below.drew ?_ | refine Below.alloc ?_ (by first | exact Nat.le_refl _ | omega | (simp; done) | (simp; omega)) _ | refine Below.setCell ?_ (by first | exact Nat.le_refl _ | omega | (simp; done) | (simp; omega)) _))
        have HO1 := hid (HMk.out.below HA1.out).own
        refine Goes.one (i := 7) inv (by kernel_rfl) (by decide) rfl (fun inv K' hK => ?_)
        go_simp
        refine hK.out _ _ ⟨keep HA1.out m1, keep HA1.out g0, keep HA1.out g1⟩ (fun hHeld => ?_)
        clear hK K'
        (try simp only [Act.put, List.setIfInBounds_toArray, List.set_cons_zero, List.set_cons_succ])
        refine Goes.one (i := 8) inv (by kernel_rfl) (by decide) rfl (fun inv K' hK => ?_)
        refine step_append_at _ (by rfl) _ _ 27 (by rfl) (some 74) (by rfl) B 60 i0 _ 2 16 Try.underlying27 HI.out HZ0.out HZ1.out HZ2.out rfl (by decide) _ _ _ (by rfl) HO1.out ⟨wr.heap.size, 0, none⟩ 1 1 [.int .i64 a, .int .i64 b] (by rfl) rfl (cell_two _ _ _ _) (fun u hu => by simp at hu; rcases hu with rfl | rfl <;> rfl) (by unfold maxLen; omega) (by omega) (by have := HMk.out.le; simp; omega) ?_
        intro v2 w2 hown2 hg2 hat2
        obtain ⟨a2, c2, rfl⟩ : ∃ a c, v2 = .slice a (gs.length + 1) c := by
          rcases hown2.2 with ⟨_, h0⟩ | ⟨g, cap, cur, e, _⟩
          · omega
          · exact ⟨_, _, e⟩
        obtain ⟨⟨n1, n2⟩, hmk2, hch2, hnew2⟩ := HMk.out.add HA1.out hown2 hg2 hat2
        have HM2 := hid hmk2
        have HCh := hid ((Chg.of_below HB.out).trans (New.refl _ _) hch2)
        have HNew := hid ((New.refl w (.slice va gs.length vc)).trans hnew2 HB.out.size)
        have e0 := hmk2.c0
        have e1 := hmk2.c1
        have hgz : some w.heap.size ≠ (Value.slice va gs.length vc).ownBlock ∨ True := .inr trivial
        have HG0 : Hid (w2.cell? ⟨w.heap.size, 0, none⟩ = some (.int .i64 a) ∧ w2.cell? ⟨w.heap.size, 1, none⟩ = some (.int .i64 b)) := hid (by
          have hne : some w.heap.size ≠ (Value.slice va gs.length vc).ownBlock := fun e => by
            have := (World.ownsRow.lt HM.out.own _ e.symm).2
            omega
          have hb := hg2.block w.heap.size (Nat.lt_of_lt_of_le (World.block_lt_of_cell? _ _ g0) HA1.out.size) hne
          exact ⟨(World.cell?_of_block (a := ⟨w.heap.size, 0, none⟩) hb).trans (keep HA1.out g0), (World.cell?_of_block (a := ⟨w.heap.size, 1, none⟩) hb).trans (keep HA1.out g1)⟩)
        have hMz2 : M < w2.heap.size := World.block_lt_of_cell? _ _ n1
        clear hown2 hg2 hat2 hmk2 hch2 hnew2 hgz
        refine hK.out _ _ ⟨n1, HG0.out.1, HG0.out.2⟩ (fun hHeld => ?_)
        clear hK K'
        simp only [Act.put, List.setIfInBounds_toArray, List.set_cons_zero, List.set_cons_succ]
        refine Goes.one (i := 9) inv (by kernel_rfl) (by decide) rfl (fun inv K' hK => ?_)
        go_simp
        refine hK.out _ _ ⟨n1, HG0.out.1, HG0.out.2⟩ (fun hHeld => ?_)
        clear hK K'
        (try simp only [Act.put, List.setIfInBounds_toArray, List.set_cons_zero, List.set_cons_succ])
        refine Goes.one (i := 10) inv (by kernel_rfl) (by decide) rfl (fun inv K' hK => ?_)
        go_simp
        refine hK.out _ _ ⟨n1, HG0.out.1, HG0.out.2⟩ (fun hHeld => ?_)
        clear hK K'
        (try simp only [Act.put, List.setIfInBounds_toArray, List.set_cons_zero, List.set_cons_succ])
        refine Goes.one (i := 11) inv (by kernel_rfl) (by decide) rfl (fun inv K' hK => ?_)
        go_simp
        refine hK.out _ _ ⟨n1, HG0.out.1, HG0.out.2⟩ (fun hHeld => ?_)
        clear hK K'
        (try simp only [Act.put, List.setIfInBounds_toArray, List.set_cons_zero, List.set_cons_succ])
        refine Goes.last (by kernel_rfl) (by kernel_rfl) rfl (fun K' hK => ?_)
        go_simp
        refine hK.out _ _ ?_
        clear hK K'
        (try simp only [Exit.then])
        go_wp2
        go_quiet (fail)
        go_wp2
        go_ret
        exact ⟨_, by rw [HRR.out]; rfl, by rw [HRR.out]; exact HM2.out.below (below_drewN _ _), HCh.out.trans HNew.out (Chg.of_below (below_drewN _ _)), HNew.out⟩
end Go.Proofs.Ytaileckcflnbdaa.buildAnd
