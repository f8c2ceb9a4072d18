/- For all numbers of inputs and lists of expressions BuildAig answers as its specification, the list is as it was, and what is answered owns its memory; conditions: none. -/
import Derived.Test.YtnafjgbikgfppaaBuildFace
import Derived.Test.YtnafjgbikgfppaaAigOwn
import Derived.Test.YtnafjgbikgfppaaTreeMark
import Derived.Test.YtnafjgbikgfppaaTreeEq
import Derived.Test.YtnafjgbikgfppaaTreeArgs
import Derived.Test.YtnafjgbikgfppaaCopy
namespace Go.Proofs.Ytnafjgbikgfppaa.fnExactBuildAig
open Go.ChangeShapes Go.WideShapes Go.ChangeAt Go.RowKit Go.Deep Go.Joins Go base trees gates ownTree treeOwn treeMark treeEq treeArgs args buildSem buildTree buildList intsOwn aigOwn
open Go.Proofs.Ytnafjgbikgfppaa.buildFace (AnsI build_aig)
open Go.Proofs.Ytnafjgbikgfppaa.buildSpec (Ans build_spec GateL)
set_option linter.unusedVariables false

theorem small_ans (n : Int) (d : Nat) (t : T) (l : Nat) : (bG n d t l).length ≤ 400 ∧ (bL n d t l).length ≤ 4096 := by
  by_cases h : bC n d t l = 0
  · have e1 : bG n d t l = (rowB n d t l).2 := by unfold bG; rw [if_pos h]
    have e2 : bL n d t l = (rowB n d t l).1 := by unfold bL; rw [if_pos h]
    rw [e1, e2, row_len]
    unfold bC at h
    by_cases h1 : 4096 < l
    · rw [if_pos h1] at h; omega
    rw [if_neg h1] at h
    by_cases h2 : ¬ (0 ≤ n ∧ n ≤ 12)
    · rw [if_pos h2] at h; omega
    rw [if_neg h2] at h
    by_cases h3 : faultL n d t l ≠ 0
    · rw [if_pos h3] at h; exact absurd h h3
    rw [if_neg h3] at h
    by_cases h4 : 400 < (rowB n d t l).2.length
    · rw [if_pos h4] at h; omega
    omega
  · have e1 : bG n d t l = [] := by unfold bG; rw [if_neg h]
    have e2 : bL n d t l = [] := by unfold bL; rw [if_neg h]
    rw [e1, e2]
    exact ⟨Nat.zero_le _, Nat.zero_le _⟩
theorem cell_new (w : World) (cs : Array Value) (t : TypeId) {i : Nat} {v : Value} (h : cs[i]? = some v) : (w.alloc (.cells cs t)).cell? ⟨w.heap.size, i, none⟩ = some v := by
  unfold World.cell? World.alloc
  simp [h]
theorem own_fr {B n : Nat} {w w1 : World} {v : Value} {t : TypeId} {s : Nat} {xs : List Value} {S : Nat → Prop} (h : w.ownsRow B t s v n xs) (hf : Fr S w w1) (hS : ∀ b, S b → b < B) : w1.ownsRow B t s v n xs :=
  own_kept h fun g hg => hf.block g fun hs => by have := (World.ownsRow.lt h g hg).1; have := hS g hs; omega
theorem row_at {w w' : World} {a : Option Addr} {l : Nat} {zs : List Int} (h : IntRow w a l zs) (hk : ∀ b o, a = some ⟨b, o, none⟩ → ∀ j u, w.cell? ⟨b, o + j, none⟩ = some u → w'.cell? ⟨b, o + j, none⟩ = some u) : IntRow w' a l zs :=
  ⟨h.length, h.most, fun i hi => by
    obtain ⟨b, off, e, hc⟩ := h.cell i hi
    exact ⟨b, off, e, hk b off e _ _ hc⟩⟩

set_option maxHeartbeats 6400000 in
set_option maxRecDepth 8000 in
theorem walk (n : Int) (d : Nat) (t : T) (a : Option Addr) (l c : Nat) (w : World) (hA : Rd (fun _ => True) maxLen w d t a l) :
    Calls Try.prog 3 #[.int .i64 n, .slice a l c] w fun e w' => e = .returned (.bool true) ∧ Below w.heap.size w w' := by
  have HA := hid hA
  clear hA
  obtain ⟨b1, b2⟩ := small_ans n d t l
  obtain ⟨gs, hgs⟩ : ∃ z, bG n d t l = z := ⟨_, rfl⟩
  obtain ⟨zl, hzl⟩ : ∃ z, bL n d t l = z := ⟨_, rfl⟩
  obtain ⟨N, hN⟩ : ∃ z, bN n d t l = z := ⟨_, rfl⟩
  obtain ⟨code, hC⟩ : ∃ z, bC n d t l = z := ⟨_, rfl⟩
  obtain ⟨gl, hgl⟩ : ∃ z, gs.length = z := ⟨_, rfl⟩
  obtain ⟨ll, hll⟩ : ∃ z, zl.length = z := ⟨_, rfl⟩
  rw [hgs, hgl] at b1
  rw [hzl, hll] at b2
  have HSpec : Hid (∀ (x : Option Addr) (cx : Nat) (w' : World), Rd (fun _ => True) 1048576 w' d t x l → Calls Try.prog 5 #[.int .i64 n, .slice x l cx] w' fun e w'' => ∃ ga gc la lc, e = .returned (.tuple #[.agg #[.int .i64 N, .slice ga gl gc], .slice la ll lc, .int .i64 code]) ∧ GateRow w'' ga gl (gf gs) ∧ IntRow w'' la ll zl ∧ Below w'.heap.size w' w'') := hid (by
    intro x cx w' h1
    refine (build_spec d t x l cx n w' h1).mono ?_
    rintro e w'' ⟨ga, gc, la, lc, rfl, hg, hi, hb⟩
    rw [hgs] at hg ⊢
    rw [hzl] at hi ⊢
    rw [hN, hC, hgl, hll]
    rw [hll] at hi
    refine ⟨ga, gc, la, lc, rfl, ⟨by unfold maxLen; omega, fun i hi' => ?_⟩, hi, hb⟩
    exact hg i (by omega))
  have HImpl : Hid (∀ (x : Option Addr) (cx : Nat) (w' : World), Rd (fun _ => True) 1048576 w' d t x l → Calls Try.prog 7 #[.int .i64 n, .slice x l cx] w' fun e w'' => ∃ ga gc la lc, e = .returned (.tuple #[.agg #[.int .i64 N, .slice ga gl gc], .slice la ll lc, .int .i64 code]) ∧ w''.ownsRow w'.heap.size 69 2 (.slice ga gl gc) gs.length (flatG gs) ∧ OwnInts w'.heap.size w'' (.slice la ll lc) zl ∧ (∀ g, (Value.slice la ll lc).ownBlock = some g → some g ≠ (Value.slice ga gl gc).ownBlock) ∧ Below w'.heap.size w' w'') := hid (by
    intro x cx w' h1
    refine (build_aig d t x l cx n w' h1).mono ?_
    rintro e w'' ⟨gv, lv, rfl, hg, hi, hap, hb⟩
    rw [hgs] at hg
    rw [hzl] at hi
    rw [hN, hC]
    obtain ⟨ga, gc, rfl⟩ : ∃ a c, gv = .slice a gl c := by
      rcases hg.2 with ⟨e, h0⟩ | ⟨g, cap, cur, e, _⟩
      · exact ⟨none, 0, by rw [e, ← hgl, h0]⟩
      · exact ⟨_, _, by rw [e, hgl]⟩
    obtain ⟨la, lc, rfl⟩ : ∃ a c, lv = .slice a ll c := by
      rcases hi.2 with ⟨e, h0⟩ | ⟨g, cap, cur, e, _⟩
      · exact ⟨none, 0, by rw [e, ← hll, h0]⟩
      · exact ⟨_, _, by rw [e, hll]⟩
    exact ⟨ga, gc, la, lc, rfl, hg, hi, hap, hb⟩)
  have HGL := hid hgl
  have HLL := hid hll
  have dc : (code != code) = false := by simp
  clear hgs hzl hN hC hgl hll
  have dz : decide (zl = zl) = true := decide_eq_true rfl
  go_enter Try.func3, Try.ntmps3
  go_wp2_with fail
  refine (szS d t a l c 1048576 _ HA.out (by omega) (by omega)).mono ?_
  rintro e w1 ⟨r1, rfl, hb1, hr1, hr2, hr3⟩
  have H1 := hid hb1
  have R1 := hid hr3
  clear hb1 hr3
  by_cases hneg : r1 < 0
  · go_wp2
    go_ret
    exact ⟨rfl, H1.out⟩
  have S1 := hid (R1.out (by omega))
  have HN : Hid ((rowN d t : Int) ≤ 1048576) := hid (by have := S1.out.2; omega)
  go_wp2_with fail
  refine (toS d t a l c _ (HA.out.below H1.out) S1.out.1).mono ?_
  rintro e w3 ⟨N3, rfl, hb3, ho3⟩
  have H3 := hid (H1.out.trans (hb3.mono H1.out.size))
  have O3 := hid (ho3.rd.imp (q' := fun _ => True) fun _ _ => trivial)
  clear hb3 ho3
  go_wp2_with fail
  refine (HSpec.out _ _ _ O3.out).mono ?_
  rintro e w5 ⟨a0, c0, s0, k0, rfl, hg5, hi5, hb5⟩
  have H5 := hid (H3.out.trans (hb5.mono H3.out.size))
  have hs5 := H5.out.size
  have V6 : Hid (Below w5.heap.size w5 (w5.alloc (.cells #[.int .i64 N, .slice a0 gl c0] 26))) := hid (by repeat (first | exact Below.refl _ _ | assumption | refine Below.drew ?_ | refine Below.alloc ?_ (by first | exact Nat.le_refl _ | omega | (simp; done) | (simp; omega)) _ | refine Below.setCell ?_ (by first | exact Nat.le_refl _ | omega | (simp; done) | (simp; omega)) _))
  have v0 := cell_new w5 #[.int .i64 N, .slice a0 gl c0] 26 (i := 0) rfl
  have v1 := cell_new w5 #[.int .i64 N, .slice a0 gl c0] 26 (i := 1) rfl
  obtain ⟨Y, hY⟩ : ∃ Y, w5.heap.size = Y := ⟨_, rfl⟩
  have Z6 : Hid ((w5.alloc (.cells #[.int .i64 N, .slice a0 gl c0] 26)).heap.size = Y + 1) := hid (by rw [← hY]; simp)
  have SP : Hid (∀ w8, Below (Y + 1) (w5.alloc (.cells #[.int .i64 N, .slice a0 gl c0] 26)) w8 → (w8.cell? ⟨Y, 0, none⟩ = some (.int .i64 N) ∧ w8.cell? ⟨Y, 1, none⟩ = some (.slice a0 gl c0)) ∧ GateRow w8 a0 gl (gf gs) ∧ IntRow w8 s0 ll zl ∧ Below w.heap.size w w8) := hid (fun w8 hb => by
    rw [← Z6.out] at hb
    rw [hY] at v0 v1
    exact ⟨⟨keep hb v0, keep hb v1⟩, (hg5.below V6.out).below hb, (hi5.below V6.out).below hb, H5.out.trans ((V6.out.trans (hb.mono V6.out.size)).mono H5.out.size)⟩)
  go_wp2_with fail
  (try rw [hY])
  generalize w5.alloc (.cells #[.int .i64 N, .slice a0 gl c0] 26) = w6 at *
  have H6 : Hid (Below w.heap.size w w6) := hid (SP.out w6 (Below.refl _ _)).2.2.2
  have s6 : w6.heap.size = Y + 1 := Z6.out
  have hYs : w.heap.size ≤ Y := by omega
  clear hY V6 v0 v1 hg5 hi5 hb5 O3 hs5
  refine (toS d t a l c _ (HA.out.below H6.out) S1.out.1).mono ?_
  rintro e w7 ⟨N7, rfl, hb7, ho7⟩
  rw [s6] at hb7
  have B7 := hid hb7
  have O7 := hid ho7
  have s7 := hb7.size
  clear hb7 ho7
  go_wp2_with fail
  refine (HImpl.out _ _ _ (O7.out.rd.imp fun _ _ => trivial)).mono ?_
  rintro e w9 ⟨a1, c1, s1, k1, rfl, hg9, hi9, hap, hb9⟩
  have s9 := hb9.size
  have B9 := hid (B7.out.trans (hb9.mono (by omega)))
  have O9 := hid (O7.out.below hb9)
  have HAp := hid hap
  have V10 : Hid (Below w9.heap.size w9 (w9.alloc (.cells #[.int .i64 N, .slice a1 gl c1] 26))) := hid (by repeat (first | exact Below.refl _ _ | assumption | refine Below.drew ?_ | refine Below.alloc ?_ (by first | exact Nat.le_refl _ | omega | (simp; done) | (simp; omega)) _ | refine Below.setCell ?_ (by first | exact Nat.le_refl _ | omega | (simp; done) | (simp; omega)) _))
  obtain ⟨G, hG⟩ : ∃ G, w9.heap.size = G := ⟨_, rfl⟩
  have G10 : Hid ((w9.alloc (.cells #[.int .i64 N, .slice a1 gl c1] 26)).cell? ⟨G, 0, none⟩ = some (.int .i64 N) ∧ (w9.alloc (.cells #[.int .i64 N, .slice a1 gl c1] 26)).cell? ⟨G, 1, none⟩ = some (.slice a1 gl c1)) := hid (by rw [← hG]; exact ⟨cell_new w9 #[.int .i64 N, .slice a1 gl c1] 26 (i := 0) rfl, cell_new w9 #[.int .i64 N, .slice a1 gl c1] 26 (i := 1) rfl⟩)
  have g9 : ∀ g, (Value.slice a1 gl c1).ownBlock = some g → w7.heap.size ≤ g ∧ g < G := fun g hg => by have := World.ownsRow.lt hg9 g hg; omega
  have i9 : ∀ g, (Value.slice s1 ll k1).ownBlock = some g → w7.heap.size ≤ g ∧ g < G := fun g hg => by have := World.ownsRow.lt hi9 g hg; omega
  have GB := hid g9
  have IB := hid i9
  have hYG : Y < G := by omega
  have h7G : w7.heap.size ≤ G := by omega
  have y9 := (SP.out w9 B9.out).1
  obtain ⟨y0, y1⟩ := y9
  have hY9 : Y < w9.heap.size := by omega
  go_wp2_with fail
  generalize w9.alloc (.cells #[.int .i64 N, .slice a1 gl c1] 26) = w10 at *
  have B10 := hid (B9.out.trans (V10.out.mono (by omega)))
  have O10 := hid (O9.out.below V10.out)
  have PG := hid (own_kept hg9 fun g hg => V10.out.block g (World.ownsRow.lt hg9 g hg).2)
  have PI := hid (OwnInts.below hi9 V10.out)
  have hZ10 := V10.out.size
  (try rw [hG] at hZ10)
  (try rw [hG])
  have S10 : Hid (G < w10.heap.size) := hid (World.block_lt_of_cell? _ _ G10.out.1)
  clear hG V10 y0 y1 hg9 hi9 hap hb9 O9 g9 i9 B9 B7 O7 hY9
  have PG10 := hid PG.out
  have PI10 := hid PI.out
  clear PG PI
  obtain ⟨⟨y0, y1⟩, hGY, hIY, hW⟩ := SP.out w10 B10.out
  obtain ⟨g0, g1⟩ := G10.out
  have HGY := hid hGY
  have HIY := hid hIY
  clear hGY hIY hW
  refine (eqAig N a1 a0 gl c1 c0 (gf gs) _ (gates_of_own PG10.out (by unfold maxLen; omega)) HGY.out).mono ?_
  rintro e w11 ⟨rfl, hb11⟩
  clear y0 y1 g0 g1 HGY HIY
  have B11 := hid (B10.out.trans (hb11.mono (by have := S10.out; omega)))
  have S11 := hid (Nat.lt_of_lt_of_le S10.out hb11.size)
  have G11 : Hid (w11.cell? ⟨G, 0, none⟩ = some (.int .i64 N) ∧ w11.cell? ⟨G, 1, none⟩ = some (.slice a1 gl c1)) := hid ⟨keep hb11 G10.out.1, keep hb11 G10.out.2⟩
  have O11 := hid (O10.out.below hb11)
  have PG11 := hid (own_kept PG10.out fun g hg => hb11.block g (World.ownsRow.lt PG10.out g hg).2)
  have PI11 := hid (OwnInts.below PI10.out hb11)
  clear hb11 B10 S10 G10 O10 PG10 PI10
  obtain ⟨⟨y0, y1⟩, hGY, hIY, hW⟩ := SP.out w11 B11.out
  obtain ⟨g0, g1⟩ := G11.out
  have HGY := hid hGY
  have HIY := hid hIY
  clear hGY hIY hW
  go_wp2_with fail
  refine (copy.eqIntS s1 s0 ll ll k1 k0 zl zl _ (row_of_own PI11.out) HIY.out).mono ?_
  rintro e w12 ⟨rfl, nq12, hw12⟩
  have hb12 : Below w11.heap.size w11 w12 := by rw [hw12]; exact below_drewN _ _
  clear hw12
  clear y0 y1 g0 g1 HGY HIY
  have B12 := hid (B11.out.trans (hb12.mono (by have := S11.out; omega)))
  have S12 := hid (Nat.lt_of_lt_of_le S11.out hb12.size)
  have G12 : Hid (w12.cell? ⟨G, 0, none⟩ = some (.int .i64 N) ∧ w12.cell? ⟨G, 1, none⟩ = some (.slice a1 gl c1)) := hid ⟨keep hb12 G11.out.1, keep hb12 G11.out.2⟩
  have O12 := hid (O11.out.below hb12)
  have PG12 := hid (own_kept PG11.out fun g hg => hb12.block g (World.ownsRow.lt PG11.out g hg).2)
  have PI12 := hid (OwnInts.below PI11.out hb12)
  clear hb12 B11 S11 G11 O11 PG11 PI11
  go_wp2_with fail
  refine (toS d t a l c _ (HA.out.below (SP.out _ B12.out).2.2.2) S1.out.1).mono ?_
  rintro e w13 ⟨N13, rfl, hb13, ho13⟩
  have X13 := hid ho13
  clear ho13
  have B13 := hid (B12.out.trans (hb13.mono (by have := S12.out; omega)))
  have S13 := hid (Nat.lt_of_lt_of_le S12.out hb13.size)
  have G13 : Hid (w13.cell? ⟨G, 0, none⟩ = some (.int .i64 N) ∧ w13.cell? ⟨G, 1, none⟩ = some (.slice a1 gl c1)) := hid ⟨keep hb13 G12.out.1, keep hb13 G12.out.2⟩
  have O13 := hid (O12.out.below hb13)
  have PG13 := hid (own_kept PG12.out fun g hg => hb13.block g (World.ownsRow.lt PG12.out g hg).2)
  have PI13 := hid (OwnInts.below PI12.out hb13)
  clear hb13 B12 S12 G12 O12 PG12 PI12
  go_wp2_with fail
  refine (eqS d t _ _ l l l _ ((O13.out.rd.imp fun _ _ => trivial).wide (by unfold maxLen; omega)) ((X13.out.rd.imp fun _ _ => trivial).wide (by unfold maxLen; omega))).mono ?_
  rintro e w14 ⟨rfl, hb14⟩
  clear X13
  have B14 := hid (B13.out.trans (hb14.mono (by have := S13.out; omega)))
  have S14 := hid (Nat.lt_of_lt_of_le S13.out hb14.size)
  have G14 : Hid (w14.cell? ⟨G, 0, none⟩ = some (.int .i64 N) ∧ w14.cell? ⟨G, 1, none⟩ = some (.slice a1 gl c1)) := hid ⟨keep hb14 G13.out.1, keep hb14 G13.out.2⟩
  have O14 := hid (O13.out.below hb14)
  have PG14 := hid (own_kept PG13.out fun g hg => hb14.block g (World.ownsRow.lt PG13.out g hg).2)
  have PI14 := hid (OwnInts.below PI13.out hb14)
  clear hb14 B13 S13 G13 O13 PG13 PI13
  go_wp2_with fail
  refine (markS d t _ l l 1 _ _ O14.out (by omega) (by have := HN.out; omega)).mono ?_
  rintro e w15 ⟨rfl, ho15, hf15⟩
  have B15 : Hid (Below (Y + 1) w6 w15) := hid (B14.out.trans (hf15.below fun b hb => by omega))
  have S15 : Hid (G < w15.heap.size) := hid (by rw [hf15.size]; exact S14.out)
  have G15 : Hid (w15.cell? ⟨G, 0, none⟩ = some (.int .i64 N) ∧ w15.cell? ⟨G, 1, none⟩ = some (.slice a1 gl c1)) := hid ⟨(hf15.cell (by omega)).trans G14.out.1, (hf15.cell (by omega)).trans G14.out.2⟩
  have PG15 := hid (own_fr PG14.out hf15 (fun b hb => hb.2))
  have PI15 : Hid (OwnInts w7.heap.size w15 (.slice s1 ll k1) zl) := hid (own_fr PI14.out hf15 (fun b hb => hb.2))
  clear ho15 hf15 B14 S14 G14 O14 PG14 PI14
  obtain ⟨kq, hkq⟩ : ∃ z, 1 + 2 * (rowN d t : Int) = z := ⟨_, rfl⟩
  have hkq' : 0 ≤ kq := by omega
  have hkd : decide (kq < 0) = false := decide_eq_false (by omega)
  rw [hkq]
  clear hkq
  obtain ⟨⟨y0, y1⟩, hGY, hIY, hW⟩ := SP.out w15 B15.out
  obtain ⟨g0, g1⟩ := G15.out
  have HGY := hid hGY
  have HIY := hid hIY
  clear hGY hIY hW
  go_wp2_with fail
  refine (eqAig N a1 a0 gl c1 c0 (gf gs) _ (gates_of_own PG15.out (by unfold maxLen; omega)) HGY.out).mono ?_
  rintro e w16 ⟨rfl, hb16⟩
  clear y0 y1 g0 g1 HGY HIY
  have B16 := hid (B15.out.trans (hb16.mono (by have := S15.out; omega)))
  have S16 := hid (Nat.lt_of_lt_of_le S15.out hb16.size)
  have G16 : Hid (w16.cell? ⟨G, 0, none⟩ = some (.int .i64 N) ∧ w16.cell? ⟨G, 1, none⟩ = some (.slice a1 gl c1)) := hid ⟨keep hb16 G15.out.1, keep hb16 G15.out.2⟩
  have PG16 := hid (own_kept PG15.out fun g hg => hb16.block g (World.ownsRow.lt PG15.out g hg).2)
  have PI16 := hid (OwnInts.below PI15.out hb16)
  clear hb16 B15 S15 G15 PG15 PI15
  obtain ⟨⟨y0, y1⟩, hGY, hIY, hW⟩ := SP.out w16 B16.out
  obtain ⟨g0, g1⟩ := G16.out
  have HGY := hid hGY
  have HIY := hid hIY
  clear hGY hIY hW
  go_wp2_with fail
  refine (copy.eqIntS s1 s0 ll ll k1 k0 zl zl _ (row_of_own PI16.out) HIY.out).mono ?_
  rintro e w17 ⟨rfl, nq17, hw17⟩
  have hb17 : Below w16.heap.size w16 w17 := by rw [hw17]; exact below_drewN _ _
  clear hw17
  clear y0 y1 g0 g1 HGY HIY
  have B17 := hid (B16.out.trans (hb17.mono (by have := S16.out; omega)))
  have S17 := hid (Nat.lt_of_lt_of_le S16.out hb17.size)
  have G17 : Hid (w17.cell? ⟨G, 0, none⟩ = some (.int .i64 N) ∧ w17.cell? ⟨G, 1, none⟩ = some (.slice a1 gl c1)) := hid ⟨keep hb17 G16.out.1, keep hb17 G16.out.2⟩
  have PG17 := hid (own_kept PG16.out fun g hg => hb17.block g (World.ownsRow.lt PG16.out g hg).2)
  have PI17 := hid (OwnInts.below PI16.out hb17)
  clear hb17 B16 S16 G16 PG16 PI16
  obtain ⟨⟨y0, y1⟩, hGY, hIY, hW⟩ := SP.out w17 B17.out
  obtain ⟨g0, g1⟩ := G17.out
  have HGY := hid hGY
  have HIY := hid hIY
  clear hGY hIY hW
  go_wp2_with fail
  refine (mark_aig N w7.heap.size a1 gl c1 gs 1 _ PG17.out (by omega) (by omega) (by omega)).mono ?_
  rintro e w18 ⟨rfl, hg18, w17', hb17', hgr18⟩
  have BX : Below (Y + 1) w6 w17' := B17.out.trans (hb17'.mono (by have := S17.out; omega))
  have SX : G < w17'.heap.size := Nat.lt_of_lt_of_le S17.out hb17'.size
  have B18 : Hid (Below (Y + 1) w6 w18) := hid (BX.grown hgr18 (by omega) (fun g hg => by have := (GB.out g hg).1; omega))
  have S18 : Hid (G < w18.heap.size) := hid (Nat.lt_of_lt_of_le SX hgr18.size)
  have hGne : some G ≠ (Value.slice a1 gl c1).ownBlock := fun e => by have := (GB.out G e.symm).2; omega
  have hCG : ∀ o u, w17.cell? ⟨G, o, none⟩ = some u → w18.cell? ⟨G, o, none⟩ = some u := fun o u hu => (World.cell?_of_block (a := ⟨G, o, none⟩) (hgr18.block G SX hGne)).trans (keep hb17' hu)
  have G18 : Hid (w18.cell? ⟨G, 0, none⟩ = some (.int .i64 N) ∧ w18.cell? ⟨G, 1, none⟩ = some (.slice a1 gl c1)) := hid ⟨hCG _ _ G17.out.1, hCG _ _ G17.out.2⟩
  have PIX := OwnInts.below PI17.out hb17'
  have PI18 : Hid (OwnInts w7.heap.size w18 (.slice s1 ll k1) zl) := hid (own_kept PIX fun g hg => hgr18.block g (World.ownsRow.lt PIX g hg).2 (HAp.out g hg))
  have GM18 := hid hg18
  clear hg18 hb17' hgr18 BX SX hCG PIX B17 S17 G17 PG17 PI17
  clear y0 y1 g0 g1 HGY HIY
  obtain ⟨m1, hm1⟩ : ∃ z, 1 + 2 * (gl : Int) = z := ⟨_, rfl⟩
  have HM1 := hid hm1
  have hm1a : 0 ≤ m1 ∧ m1 ≤ 900 := by omega
  rw [hm1]
  clear hm1
  go_wp2_with fail
  refine (mark_any w7.heap.size _ zl m1 _ PI18.out (by omega) (by omega) (by rw [HLL.out]; omega)).mono ?_
  rintro e w19 ⟨rfl, ho19, hgr19⟩
  have B19 : Hid (Below (Y + 1) w6 w19) := hid (B18.out.grown hgr19 (by have := S18.out; omega) (fun g hg => by have := (IB.out g hg).1; omega))
  have S19 : Hid (G < w19.heap.size) := hid (Nat.lt_of_lt_of_le S18.out hgr19.size)
  have hGne2 : some G ≠ (Value.slice s1 ll k1).ownBlock := fun e => by have := (IB.out G e.symm).2; omega
  have hCG : ∀ o u, w18.cell? ⟨G, o, none⟩ = some u → w19.cell? ⟨G, o, none⟩ = some u := fun o u hu => (World.cell?_of_block (a := ⟨G, o, none⟩) (hgr19.block G S18.out hGne2)).trans hu
  have G19 : Hid (w19.cell? ⟨G, 0, none⟩ = some (.int .i64 N) ∧ w19.cell? ⟨G, 1, none⟩ = some (.slice a1 gl c1)) := hid ⟨hCG _ _ G18.out.1, hCG _ _ G18.out.2⟩
  have GM19 : Hid (GateRow w19 a1 gl (gm 1)) := hid (aigOwn.GateRow.kept GM18.out (fun b o e j u hu => by
    have hlt := World.block_lt_of_cell? _ _ hu
    refine (World.cell?_of_block (a := ⟨b, o + j, none⟩) (hgr19.block b hlt (fun e2 => ?_))).trans hu
    exact HAp.out b e2.symm (by rw [e]; rfl)))
  rw [HLL.out] at ho19 ⊢
  have IM19 : Hid (IntRow w19 s1 ll (marks m1 ll)) := hid (row_of_own ho19)
  clear ho19 hgr19 hCG B18 S18 G18 GM18 PI18
  obtain ⟨m2, hm2⟩ : ∃ z, m1 + (ll : Int) = z := ⟨_, rfl⟩
  have HM2 := hid hm2
  have hm2a : 0 ≤ m2 := by omega
  have dm2 : (m2 != m2) = false := by simp
  have e1a : decide (m1 < 0) = false := decide_eq_false (by omega)
  have e2a : decide (m2 < 0) = false := decide_eq_false (by omega)
  rw [hm2]
  clear hm2
  obtain ⟨⟨y0, y1⟩, hGY, hIY, hW⟩ := SP.out w19 B19.out
  obtain ⟨g0, g1⟩ := G19.out
  have HGY := hid hGY
  have HIY := hid hIY
  clear hGY hIY hW
  go_wp2_with fail
  refine (held_aig N a1 gl c1 1 _ GM19.out (by omega) (by omega) (by omega)).mono ?_
  rintro e w20 ⟨rfl, hb20⟩
  rw [HM1.out]
  clear y0 y1 g0 g1 HGY HIY
  have B20 := hid (B19.out.trans (hb20.mono (by have := S19.out; omega)))
  have S20 := hid (Nat.lt_of_lt_of_le S19.out hb20.size)
  have G20 : Hid (w20.cell? ⟨G, 0, none⟩ = some (.int .i64 N) ∧ w20.cell? ⟨G, 1, none⟩ = some (.slice a1 gl c1)) := hid ⟨keep hb20 G19.out.1, keep hb20 G19.out.2⟩
  have GM20 := hid (GM19.out.below hb20)
  have IM20 := hid (IM19.out.below hb20)
  clear hb20 B19 S19 G19 GM19 IM19
  go_wp2_with fail
  refine (held_ints s1 ll k1 m1 _ IM20.out (by omega) (by omega) (by omega)).mono ?_
  rintro e w21 ⟨rfl, hw21⟩
  rw [HM2.out]
  have hb21 : Below w20.heap.size w20 w21 := by rw [hw21]; exact Below.refl _ _
  clear hw21
  have B21 := hid (B20.out.trans (hb21.mono (by have := S20.out; omega)))
  have S21 := hid (Nat.lt_of_lt_of_le S20.out hb21.size)
  have G21 : Hid (w21.cell? ⟨G, 0, none⟩ = some (.int .i64 N) ∧ w21.cell? ⟨G, 1, none⟩ = some (.slice a1 gl c1)) := hid ⟨keep hb21 G20.out.1, keep hb21 G20.out.2⟩
  have GM21 := hid (GM20.out.below hb21)
  have IM21 := hid (IM20.out.below hb21)
  clear hb21 B20 S20 G20 GM20 IM20
  go_wp2_with fail
  refine (toS d t a l c _ (HA.out.below (SP.out _ B21.out).2.2.2) S1.out.1).mono ?_
  rintro e w22 ⟨N22, rfl, hb22, ho22⟩
  have X22 := hid (ho22.rd.imp (q' := fun _ => True) fun _ _ => trivial)
  clear ho22
  have B22 := hid (B21.out.trans (hb22.mono (by have := S21.out; omega)))
  have S22 := hid (Nat.lt_of_lt_of_le S21.out hb22.size)
  have G22 : Hid (w22.cell? ⟨G, 0, none⟩ = some (.int .i64 N) ∧ w22.cell? ⟨G, 1, none⟩ = some (.slice a1 gl c1)) := hid ⟨keep hb22 G21.out.1, keep hb22 G21.out.2⟩
  have GM22 := hid (GM21.out.below hb22)
  have IM22 := hid (IM21.out.below hb22)
  clear hb22 B21 S21 G21 GM21 IM21
  go_wp2_with fail
  refine (HImpl.out _ _ _ X22.out).mono ?_
  rintro e w23 ⟨a2, c2, s2, k2, rfl, hg23, hi23, hap23, hb23⟩
  have HGH23 := hid (gates_of_own hg23 (by unfold maxLen; omega))
  have HIH23 := hid (row_of_own hi23)
  clear hg23 hi23 hap23 X22
  have B23 := hid (B22.out.trans (hb23.mono (by have := S22.out; omega)))
  have S23 := hid (Nat.lt_of_lt_of_le S22.out hb23.size)
  have G23 : Hid (w23.cell? ⟨G, 0, none⟩ = some (.int .i64 N) ∧ w23.cell? ⟨G, 1, none⟩ = some (.slice a1 gl c1)) := hid ⟨keep hb23 G22.out.1, keep hb23 G22.out.2⟩
  have GM23 := hid (GM22.out.below hb23)
  have IM23 := hid (IM22.out.below hb23)
  clear hb23 B22 S22 G22 GM22 IM22
  have hG23 := S23.out
  have hY23 : Y < w23.heap.size := by omega
  obtain ⟨y0, y1⟩ := (SP.out w23 B23.out).1
  have V24 : Hid (Below w23.heap.size w23 (w23.alloc (.cells #[.int .i64 N, .slice a2 gl c2] 26))) := hid (by repeat (first | exact Below.refl _ _ | assumption | refine Below.drew ?_ | refine Below.alloc ?_ (by first | exact Nat.le_refl _ | omega | (simp; done) | (simp; omega)) _ | refine Below.setCell ?_ (by first | exact Nat.le_refl _ | omega | (simp; done) | (simp; omega)) _))
  go_wp2_with fail
  generalize w23.alloc (.cells #[.int .i64 N, .slice a2 gl c2] 26) = w24 at *
  have hb24 := V24.out
  have HGH24 := hid (HGH23.out.below hb24)
  have HIH24 := hid (HIH23.out.below hb24)
  clear V24 y0 y1 HGH23 HIH23
  have B24 := hid (B23.out.trans (hb24.mono (by have := S23.out; omega)))
  have S24 := hid (Nat.lt_of_lt_of_le S23.out hb24.size)
  have G24 : Hid (w24.cell? ⟨G, 0, none⟩ = some (.int .i64 N) ∧ w24.cell? ⟨G, 1, none⟩ = some (.slice a1 gl c1)) := hid ⟨keep hb24 G23.out.1, keep hb24 G23.out.2⟩
  have GM24 := hid (GM23.out.below hb24)
  have IM24 := hid (IM23.out.below hb24)
  clear hb24 B23 S23 G23 GM23 IM23
  obtain ⟨⟨y0, y1⟩, hGY, hIY, hW⟩ := SP.out w24 B24.out
  obtain ⟨g0, g1⟩ := G24.out
  have HGY := hid hGY
  have HIY := hid hIY
  clear hGY hIY hW
  refine (eqAig N a2 a0 gl c2 c0 (gf gs) _ HGH24.out HGY.out).mono ?_
  rintro e w25 ⟨rfl, hb25⟩
  clear y0 y1 g0 g1 HGY HIY
  have HIH25 := hid (HIH24.out.below hb25)
  have B25 := hid (B24.out.trans (hb25.mono (by have := S24.out; omega)))
  have S25 := hid (Nat.lt_of_lt_of_le S24.out hb25.size)
  have G25 : Hid (w25.cell? ⟨G, 0, none⟩ = some (.int .i64 N) ∧ w25.cell? ⟨G, 1, none⟩ = some (.slice a1 gl c1)) := hid ⟨keep hb25 G24.out.1, keep hb25 G24.out.2⟩
  have GM25 := hid (GM24.out.below hb25)
  have IM25 := hid (IM24.out.below hb25)
  clear hb25 B24 S24 G24 GM24 IM24
  obtain ⟨⟨y0, y1⟩, hGY, hIY, hW⟩ := SP.out w25 B25.out
  obtain ⟨g0, g1⟩ := G25.out
  have HGY := hid hGY
  have HIY := hid hIY
  clear hGY hIY hW
  go_wp2_with fail
  refine (copy.eqIntS s2 s0 ll ll k2 k0 zl zl _ HIH25.out HIY.out).mono ?_
  rintro e w26 ⟨rfl, nq26, hw26⟩
  have hb26 : Below w25.heap.size w25 w26 := by rw [hw26]; exact below_drewN _ _
  clear hw26
  clear y0 y1 g0 g1 HGY HIY
  have B26 := hid (B25.out.trans (hb26.mono (by have := S25.out; omega)))
  have S26 := hid (Nat.lt_of_lt_of_le S25.out hb26.size)
  have G26 : Hid (w26.cell? ⟨G, 0, none⟩ = some (.int .i64 N) ∧ w26.cell? ⟨G, 1, none⟩ = some (.slice a1 gl c1)) := hid ⟨keep hb26 G25.out.1, keep hb26 G25.out.2⟩
  have GM26 := hid (GM25.out.below hb26)
  have IM26 := hid (IM25.out.below hb26)
  clear hb26 B25 S25 G25 GM25 IM25
  obtain ⟨⟨y0, y1⟩, hGY, hIY, hW⟩ := SP.out w26 B26.out
  obtain ⟨g0, g1⟩ := G26.out
  have HGY := hid hGY
  have HIY := hid hIY
  clear hGY hIY hW
  go_wp2_with fail
  refine (held_aig N a1 gl c1 1 _ GM26.out (by omega) (by omega) (by omega)).mono ?_
  rintro e w27 ⟨rfl, hb27⟩
  rw [HM1.out]
  clear y0 y1 g0 g1 HGY HIY
  have B27 := hid (B26.out.trans (hb27.mono (by have := S26.out; omega)))
  have S27 := hid (Nat.lt_of_lt_of_le S26.out hb27.size)
  have G27 : Hid (w27.cell? ⟨G, 0, none⟩ = some (.int .i64 N) ∧ w27.cell? ⟨G, 1, none⟩ = some (.slice a1 gl c1)) := hid ⟨keep hb27 G26.out.1, keep hb27 G26.out.2⟩
  have GM27 := hid (GM26.out.below hb27)
  have IM27 := hid (IM26.out.below hb27)
  clear hb27 B26 S26 G26 GM26 IM26
  go_wp2_with fail
  refine (held_ints s1 ll k1 m1 _ IM27.out (by omega) (by omega) (by omega)).mono ?_
  rintro e w28 ⟨rfl, hw28⟩
  rw [HM2.out]
  have hb28 : Below w27.heap.size w27 w28 := by rw [hw28]; exact Below.refl _ _
  clear hw28
  have B28 := hid (B27.out.trans (hb28.mono (by have := S27.out; omega)))
  have S28 := hid (Nat.lt_of_lt_of_le S27.out hb28.size)
  have G28 : Hid (w28.cell? ⟨G, 0, none⟩ = some (.int .i64 N) ∧ w28.cell? ⟨G, 1, none⟩ = some (.slice a1 gl c1)) := hid ⟨keep hb28 G27.out.1, keep hb28 G27.out.2⟩
  have GM28 := hid (GM27.out.below hb28)
  have IM28 := hid (IM27.out.below hb28)
  clear hb28 B27 S27 G27 GM27 IM27
  have HF := hid (SP.out _ B28.out).2.2.2
  go_wp2
  go_ret
  exact ⟨rfl, HF.out⟩

theorem own : ownKnob Try.prog.godebug = none := by kernel_rfl
theorem laidOut : laidOutB Try.prog = true := by kernel_rfl

set_option maxRecDepth 100000 in
theorem lifted (os : Os) (started : os.Started) (H : Type) (enc : TypeId × Value → H) :
    ReturnsInHanded {} Try.checked os 3 .any (Rows.fnExactBuildAigSpec.pre6 enc Try.prog Try.f3 Rows.fnExactBuildAigRow.domain false) (Rows.fnExactBuildAigSpec.post enc Try.prog Try.f3 false true false false) := by
  refine returnsInHanded_of_change (C := Try.checked) own started (by kernel_rfl) Try.func3
    (ChangeSpec.witness6 (enc := enc) (C := Try.checked) false ⟨#[], #[.int .i64 0, .slice none 0 0], []⟩ 8 (by kernel_rfl) (by kernel_rfl) (by kernel_rfl) (by kernel_rfl)) ?_
  intro W base args ds gs before hval0 hW hcnd _
  have hval : ∀ (j : Nat) t v, Try.f3.params[j]? = some t → args[j]? = some v → Value.okWide Try.prog W .any base t v := hval0
  have hW' := hW
  obtain ⟨p, q, hA0, hV, rfl, hfz, hnd⟩ := hW
  have hA : DataW.TrodAll enc Try.prog W 0 (fun _ => true) true Try.f3.params.toList args.toList ds p := hA0
  rw [Try.params3] at hA hval
  obtain ⟨v0, vs0, d0, ds0, p0, q0, hargs, rfl, rfl, h0, r0⟩ := trodAll_cons hA
  obtain ⟨v1, vs1, d1, ds1, p1, q1, rfl, rfl, rfl, h1, r1⟩ := trodAll_cons r0
  obtain ⟨rfl, rfl, rfl⟩ := trodAll_nil r1
  obtain rfl : args = #[v0, v1] := by cases args; simp_all
  obtain ⟨rfl, rfl⟩ := trodVars_none hV
  have k0 := h0
  have lt0 : ∀ x ∈ p0, x.block < W.heap.size := by obtain ⟨m, hm⟩ := k0; exact DataW.trod_lt m _ _ _ hm
  have k1 := h1
  have lt1 : ∀ x ∈ p1, x.block < W.heap.size := by obtain ⟨m, hm⟩ := k1; exact DataW.trod_lt m _ _ _ hm
  obtain ⟨n, rfl⟩ := okWide_int Try.underlying3 (hval 0 3 v0 rfl rfl)
  obtain ⟨aB, lb, cB, rfl⟩ := okWide_slice Try.underlying22 (hval 1 22 v1 rfl rfl)
  obtain ⟨mB, fB, hRB⟩ : ∃ (m : Nat) (f : Nat → T), Rd (fun _ => True) maxLen W m (mkT 0 0 lb f) aB lb := by
    obtain ⟨fuel, hf⟩ := h1
    obtain ⟨a', l', c', e, f, hb⟩ := exs_of_trod fuel _ _ (by simpa [Value.cells] using hf)
    cases e
    exact ⟨fuel, f, hb 0 0⟩
  clear hA0 hval0
  refine (walk n mB (mkT 0 0 lb fB) aB lb cB W hRB).mono fun e W' ⟨he, bel⟩ => ?_
  subst he
  exact ⟨_, rfl, _, _, _, [], _, [], hW', trodAll_mk1 (shut_bool Try.underlying4 _), (trodAll_cons_mk (Below.trod laidOut (by kernel_rfl) (of_decide_eq_true (by kernel_rfl)) k0 bel lt0) (trodAll_cons_mk (Below.trod laidOut (by kernel_rfl) (of_decide_eq_true (by kernel_rfl)) k1 bel lt1) trodAll_mk0)), rfl, bel.frame _, fun h => by cases h⟩

theorem over : Rows.fnExactBuildAigRow.holds Try.pinned (OpenSpec.ofChange Rows.fnExactBuildAigSpec) :=
  OpenClaim.holds_of_wide 3 Try.f3 rfl rfl rfl rfl rfl rfl rfl ⟨rfl, rfl, rfl, rfl, rfl⟩ rfl rfl rfl rfl rfl (by kernel_rfl) Try.func3 (by kernel_rfl)
    (of_decide_eq_true (by kernel_rfl)) (by unfold Func.isWrapper; first | (rw [if_pos (by decide +kernel)]; kernel_rfl) | (rw [if_neg (by decide +kernel)]; exact ⟨rfl, rfl⟩))
    (fun os started H enc _ => lifted os started H enc)
end Go.Proofs.Ytnafjgbikgfppaa.fnExactBuildAig
namespace Go.Proofs.Ytnafjgbikgfppaa
theorem fnExactBuildAig_holds : Rows.FnExactBuildAigSaid := fnExactBuildAig.over
end Go.Proofs.Ytnafjgbikgfppaa
