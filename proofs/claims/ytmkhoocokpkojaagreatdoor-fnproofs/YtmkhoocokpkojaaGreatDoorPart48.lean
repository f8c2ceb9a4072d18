import Derived.Test.YtmkhoocokpkojaaGreatDoorPart47
import Derived.Test.YtmkhoocokpkojaaGreatDoorPart41
import Derived.Test.YtmkhoocokpkojaaGreatDoorPart36
namespace Go.Proofs.YtmkhoocokpkojaaGreatDoor.drawnJoin
open Go Go.RowKit base heldStore drawn drawnLin drawnSrc drawnMk drawnSeq drawnFree
set_option linter.unusedVariables false
variable {P : Program} {ops : Array Oper} {Q : Exit → Act → World → Prop}
theorem region_join {id : Nat} {a : Act} {w : World} (A : (Nat → Value) → Act) (s : Nat → Nat) (φ : Nat → Value → World → Prop) (J : (Nat → Bool) → (Nat → Value) → World → Prop) (W : World) (n : Nat) (con : List Nat) (u0 : Nat → Value) (ha : a = A u0)
  (hm : P.follows .mixedOrders = true) (hz : ops.size = n + 1) (hup : upC ops = true) (hch : chainB ops con n = true) (hW : Below W.heap.size W w) (hJ : J (fun _ => false) u0 w.drew)
  (hput : ∀ i, i < n → ∀ u v, (A u).put (some (s i)) v = A (upd u (s i) v)) (hputN : ∀ u v, (A u).put none v = A u) (hinj : ∀ i j, i < n → j < n → s i = s j → i = j)
  (stable : ∀ i v w w', Below w.heap.size w w' → φ i v w → φ i v w')
  (step : ∀ i, i < n → ∀ L u w, L i = false → J L u w → Below W.heap.size W w → (∀ j, L j = true → j < n → φ j (u (s j)) w) → (∀ j, Region.waitsFor .any ops i j = true → L j = true) → ∃ o, ops[i]? = some o ∧ ∀ K' : Act → World → Prop, Shut (∀ v w', Below w.heap.size w w' → φ i v w' → J (come L i) (upd u (s i) v) w' → K' ((A u).put (some (s i)) v) w') → if Region.wanted o (yielded ops (A u).tmps) = true then Oper.wp P o (A u) w K' Q else K' ((A u).put o.dst undef) w)
  (last : ∀ L u w, (∀ j, j < n → L j = true) → J L u w → Below W.heap.size W w → (∀ j, j < n → φ j (u (s j)) w) → ∃ o, ops[n]? = some o ∧ ∀ K' : Act → World → Prop, Shut (∀ v w', Q .normal (A u) w' → K' ((A u).put none v) w') → if Region.wanted o (yielded ops (A u).tmps) = true then Oper.wp P o (A u) w K' Q else K' ((A u).put o.dst undef) w) :
  (Code.region id ops true).wp P Q a w := by
 have hcon : ∀ j, j < n → j < con.getD j 0 ∧ con.getD j 0 ≤ n ∧ Region.waitsFor .any ops (con.getD j 0) j = true := fun j hj => by
  have h3 := List.all_eq_true.1 hch j (List.mem_range.2 hj)
  simp only [Bool.and_eq_true, decide_eq_true_eq] at h3
  exact ⟨h3.1.1, h3.1.2, h3.2⟩
 have all : ∀ L : Nat → Bool, (∀ j k, L j = true → Region.waitsFor .any ops j k = true → L k = true) → (∀ j, Region.waitsFor .any ops n j = true → L j = true) → ∀ d j, j < n → n ≤ j + d → L j = true := fun L hc hn d => by
  induction d with
  | zero => intro j h1 h2; omega
  | succ d ih =>
   intro j h1 h2
   obtain ⟨c1, c2, c3⟩ := hcon j h1
   rcases Nat.lt_or_ge (con.getD j 0) n with h | h
   · exact hc _ _ (ih _ h (by omega)) c3
   · rw [show con.getD j 0 = n by omega] at c3
     exact hn j c3
 refine region_free A (fun i => if i < n then some (s i) else none) (fun L u w8 => (∀ j k, L j = true → Region.waitsFor .any ops j k = true → L k = true) ∧ (L n = false → Below W.heap.size W w8 ∧ (∀ j, L j = true → j < n → φ j (u (s j)) w8) ∧ J L u w8) ∧ (L n = true → Q .normal (A u) w8)) (n + 1) u0 ha hm hz hup ⟨fun j k h => (by cases h), fun _ => ⟨hW.drew, fun j h => (by cases h), hJ⟩, fun h => (by cases h)⟩ ?_ ?_ ?_
 · intro i hi u v
   by_cases h : i < n
   · simp only [if_pos h]; exact hput i h u v
   · simp only [if_neg h]; exact hputN u v
 · intro i hi L u w8 hL hwt ⟨hcl, hno, hyes⟩
   by_cases h : i < n
   · have hLn : L n = false := by
      cases hb : L n with
      | false => rfl
      | true =>
       have := all L hcl (fun j hj => hcl n j hb hj) n i h (by omega)
       rw [hL] at this; cases this
     obtain ⟨h1, h2, h3⟩ := hno hLn
     obtain ⟨o, ho, hst⟩ := step i h L u w8 hL h3 h1 h2 hwt
     simp only [if_pos h]
     refine ⟨o, ho, fun K' hK => hst K' fun v w' hb hv hj => hK.out v w' ⟨fun j k hjL hjk => ?_, fun _ => ⟨h1.trans (hb.mono h1.size), fun j hjL hjn => ?_, hj⟩, fun hc => ?_⟩⟩
     · by_cases e : j = i
       · subst e
         by_cases e2 : k = j
         · subst e2; exact come_same _ _
         · rw [come_ne e2]; exact hwt k hjk
       · rw [come_ne e] at hjL
         by_cases e2 : k = i
         · subst e2; exact come_same _ _
         · rw [come_ne e2]; exact hcl j k hjL hjk
     · show φ j (upd u (s i) v (s j)) w'
       by_cases e : j = i
       · subst e; rw [upd_same]; exact hv
       · rw [come_ne e] at hjL
         rw [upd_ne _ _ (fun e' => e (hinj j i hjn h e'))]
         exact stable j _ _ _ hb (h2 j hjL hjn)
     · rw [come_ne (by omega)] at hc
       rw [hLn] at hc; cases hc
   · have e : i = n := by omega
     subst e
     obtain ⟨h1, h2, h3⟩ := hno hL
     have hall : ∀ j, j < i → L j = true := fun j hj => all L hcl hwt i j hj (by omega)
     obtain ⟨o, ho, hst⟩ := last L u w8 hall h3 h1 (fun j hj => h2 j (hall j hj) hj)
     simp only [if_neg h]
     refine ⟨o, ho, fun K' hK => hst K' fun v w' hq => hK.out v w' ⟨fun j k hjL hjk => ?_, fun hc => ?_, fun _ => hq⟩⟩
     · by_cases e : j = i
       · subst e
         by_cases e2 : k = j
         · subst e2; exact come_same _ _
         · rw [come_ne e2]; exact hwt k hjk
       · rw [come_ne e] at hjL
         by_cases e2 : k = i
         · subst e2; exact come_same _ _
         · rw [come_ne e2]; exact hcl j k hjL hjk
     · rw [come_same] at hc; cases hc
 · intro L u w8 hall hI
   exact hI.2.2 (hall n (by omega))
end Go.Proofs.YtmkhoocokpkojaaGreatDoor.drawnJoin
namespace Go.Proofs.YtmkhoocokpkojaaGreatDoor.refDo
open Go.RowKit Go.Deep Go base copy cnf sets setsOf solSets solMath solMem solOps chkNew chkMath rowsOwn withoutI endI refMem refImpl faultI refConc refOpen refTry refGo refStart
open readSpecP (Pt pcs OwnSteps Lone strip)
set_option linter.unusedVariables false
set_option linter.unusedSimpArgs false
theorem do_bad (N1 : Nat) (vars : Int) (a : Option Addr) (len cap : Nat) (zss : List (List Int)) (w : World) (hr : IntRows w a len zss) (c0 : w.cell? ⟨N1, 0, none⟩ = some (.int .i64 vars)) (c1 : w.cell? ⟨N1, 1, none⟩ = some (.slice a len cap)) (hc : cnfB vars zss = false) :
  Calls Tryz.prog 29 #[.pointer (some ⟨N1, 0, none⟩)] w fun e w' => Threw 1 e ∧ Below w.heap.size w w' := by
 have HCo := hid (fun (W : World) (hbw : Below w.heap.size w W) => cnfOK_impl vars a len cap zss W (hr.below hbw))
 rw [hc] at HCo
 clear hr hc
 go_enter Tryz.func29, Tryz.ntmps29
 go_wp2_with fail
 refine (HCo.out _ (by repeat (first | exact Below.refl _ _ | assumption | refine Below.drew ?_ | refine Below.alloc ?_ (by first | exact Nat.le_refl _ | omega | (simp; done) | (simp; omega)) _ | refine Below.setCell ?_ (by first | exact Nat.le_refl _ | omega | (simp; done) | (simp; omega)) _))).mono ?_
 rintro e w1 ⟨rfl, hb1⟩
 have HB1 := hid ((show Below w.heap.size w _ from (by repeat (first | exact Below.refl _ _ | assumption | refine Below.drew ?_ | refine Below.alloc ?_ (by first | exact Nat.le_refl _ | omega | (simp; done) | (simp; omega)) _ | refine Below.setCell ?_ (by first | exact Nat.le_refl _ | omega | (simp; done) | (simp; omega)) _))).trans (hb1.mono (by first | exact Nat.le_refl _ | simp)))
 clear hb1
 go_wp2_with fail
 refine (must_not 1 _).mono ?_
 rintro e w2 ⟨rfl, rfl⟩
 go_wp2
 exact ⟨rfl, rfl, HB1.out⟩
theorem rft_new {B M mb : Nat} {F : Nat → Value} {V : Int → Value} {s : Sv} {w : World} (h : Sol 0 M mb F V s w) (hv : V 0 = nilV) (hB : B ≤ w.heap.size) (hM : B ≤ M) (hm : B ≤ mb) (hb : ∀ a g, blk 0 F V a = some g → B ≤ g) (ht : 1 < B) {R : Nat} (hR : B ≤ R) (hrow : w.rowIs R 62 3 (rfI M (.slice none 0 0) (.slice none 0 0))) (hf : Far R M mb F V) :
  Rft B R M mb F V s [] (.slice none 0 0) (.slice none 0 0) [] w := by
 refine ⟨h, hv, hrow, ⟨rfl, .inl ⟨rfl, rfl⟩⟩, ⟨⟨rfl, .inl ⟨rfl, rfl⟩⟩, fun p hp => by cases hp⟩, List.Pairwise.nil, Nat.zero_le _, fun g hg => ?_, fun g hg => (by cases hg), hR, hM, hm, hb, ht⟩
 rcases hg with rfl | hg | hg | ⟨p, hp, _⟩
 · exact hf
 · cases hg
 · cases hg
 · cases hp
def rf0 : Nat → Value := fun i => if i = 0 then .pointer none else .slice none 0 0
def New (B M mb : Nat) (F : Nat → Value) (V : Int → Value) (n : Int) (zss : List (List Int)) (w : World) : Prop := Sol 0 M mb F V (chkS n (zss.map setL)) w ∧ V 0 = nilV ∧ B ≤ M ∧ B ≤ mb ∧ ∀ a g, blk 0 F V a = some g → B ≤ g
theorem New.below {B M mb : Nat} {F : Nat → Value} {V : Int → Value} {n : Int} {zss : List (List Int)} {w w1 : World} (h : New B M mb F V n zss w) (hb : Below w.heap.size w w1) : New B M mb F V n zss w1 := ⟨h.1.below hb, h.2⟩
def Ji (B : Nat) (n : Int) (zss : List (List Int)) (L : Nat → Bool) (u : Nat → Value) (w : World) : Prop :=
 (L 5 = true → L 7 = true → ∃ M mb F V R, u 11 = .pointer (some ⟨M, 0, none⟩) ∧ u 2 = .pointer (some ⟨R, 0, none⟩) ∧ New B M mb F V n zss w ∧ Far R M mb F V) ∧ (L 6 = true → L 5 = true ∧ u 12 = .agg #[u 11, .slice none 0 0, .slice none 0 0])
theorem Ji.calm {B : Nat} {n : Int} {zss : List (List Int)} {L : Nat → Bool} {u : Nat → Value} {w w1 : World} (h : Ji B n zss L u w) (hb : Below w.heap.size w w1) {i k : Nat} (hi : i < 5) (hk : 6 ≤ k ∧ k ≤ 10) (v : Value) : Ji B n zss (drawnLin.come L i) (drawn.upd u k v) w1 := by
 have e : ∀ j, j = 5 ∨ j = 6 ∨ j = 7 → drawnLin.come L i j = L j := fun j hj => drawnLin.come_ne (by omega)
 have f : ∀ j, j = 11 ∨ j = 12 ∨ j = 2 → drawn.upd u k v j = u j := fun j hj => drawn.upd_ne _ _ (by omega)
 unfold Ji
 rw [e 5 (by omega), e 6 (by omega), e 7 (by omega), f 11 (by omega), f 12 (by omega), f 2 (by omega)]
 refine ⟨fun h5 h7 => ?_, h.2⟩
 obtain ⟨M, mb, F, V, R, h1, h2, h3, h4⟩ := h.1 h5 h7
 exact ⟨M, mb, F, V, R, h1, h2, h3.below hb, h4⟩
theorem Ji.chk {B : Nat} {n : Int} {zss : List (List Int)} {L : Nat → Bool} {u : Nat → Value} {w w1 : World} (h : Ji B n zss L u w) (h5 : L 5 = false) (h7 : L 7 = true → ∃ R, u 2 = .pointer (some ⟨R, 0, none⟩) ∧ R < w.heap.size) {M mb : Nat} {F : Nat → Value} {V : Int → Value} (hN : New B M mb F V n zss w1)
  (m1 : w.heap.size ≤ M) (m2 : w.heap.size ≤ mb) (m3 : ∀ a g, blk 0 F V a = some g → w.heap.size ≤ g) : Ji B n zss (drawnLin.come L 5) (drawn.upd u 11 (.pointer (some ⟨M, 0, none⟩))) w1 := by
 unfold Ji
 rw [drawnLin.come_ne (show 7 ≠ 5 by decide), drawnLin.come_ne (show 6 ≠ 5 by decide), drawn.upd_ne _ _ (show 2 ≠ 11 by decide)]
 refine ⟨fun _ h77 => ?_, fun h6 => ?_⟩
 · obtain ⟨R, e, hR⟩ := h7 h77
   exact ⟨M, mb, F, V, R, drawn.upd_same _ _ _, e, hN, by omega, by omega, fun a e => by have := m3 a R e; omega⟩
 · have := (h.2 h6).1
   rw [h5] at this; cases this
theorem Ji.pack {B : Nat} {n : Int} {zss : List (List Int)} {L : Nat → Bool} {u : Nat → Value} {w w1 : World} (h : Ji B n zss L u w) (hb : Below w.heap.size w w1) (h5 : L 5 = true) : Ji B n zss (drawnLin.come L 6) (drawn.upd u 12 (.agg #[u 11, .slice none 0 0, .slice none 0 0])) w1 := by
 unfold Ji
 rw [drawnLin.come_ne (show 7 ≠ 6 by decide), drawnLin.come_ne (show 5 ≠ 6 by decide), drawn.upd_ne _ _ (show 2 ≠ 12 by decide), drawn.upd_ne _ _ (show 11 ≠ 12 by decide)]
 refine ⟨fun h5 h7 => ?_, fun _ => ⟨h5, drawn.upd_same _ _ _⟩⟩
 obtain ⟨M, mb, F, V, R, h1, h2, h3, h4⟩ := h.1 h5 h7
 exact ⟨M, mb, F, V, R, h1, h2, h3.below hb, h4⟩
theorem Ji.make {B : Nat} {n : Int} {zss : List (List Int)} {L : Nat → Bool} {u : Nat → Value} {w w1 : World} (h : Ji B n zss L u w) (hb : Below w.heap.size w w1) (h5 : L 5 = true → ∃ M mb F V, u 11 = .pointer (some ⟨M, 0, none⟩) ∧ New B M mb F V n zss w) {R : Nat} (hR : w.heap.size ≤ R) : Ji B n zss (drawnLin.come L 7) (drawn.upd u 2 (.pointer (some ⟨R, 0, none⟩))) w1 := by
 unfold Ji
 rw [drawnLin.come_ne (show 5 ≠ 7 by decide), drawnLin.come_ne (show 6 ≠ 7 by decide), drawn.upd_ne _ _ (show 11 ≠ 2 by decide), drawn.upd_ne _ _ (show 12 ≠ 2 by decide)]
 refine ⟨fun h55 _ => ?_, h.2⟩
 obtain ⟨M, mb, F, V, e, hN⟩ := h5 h55
 exact ⟨M, mb, F, V, R, e, drawn.upd_same _ _ _, hN.below hb, far_new hN.1 hR⟩
end Go.Proofs.YtmkhoocokpkojaaGreatDoor.refDo
namespace Go.Proofs.YtmkhoocokpkojaaGreatDoor.refOk
open Go.RowKit Go.Deep Go base copy cnf sets setsOf solSets solMath solMem solOps chkNew chkMath rowsOwn rupSpec withoutI endI refMem refImpl faultI refConc refOpen refTry refGo refStart refDo drawn
open readSpecP (Pt pcs OwnSteps Lone strip)
open refFace (codeK)
set_option linter.unusedVariables false
set_option linter.unusedSimpArgs false
set_option maxHeartbeats 6400000 in
set_option maxRecDepth 8000 in
theorem do_ok (N1 nv : Nat) (a : Option Addr) (len cap : Nat) (zss : List (List Int)) (w : World) (hr : IntRows w a len zss) (c0 : w.cell? ⟨N1, 0, none⟩ = some (.int .i64 nv)) (c1 : w.cell? ⟨N1, 1, none⟩ = some (.slice a len cap)) (hck : cnfB (nv : Int) zss = true) (ht : Tab w) {k : Nat} {p' : List (List Int)} (hg : Goes zss nv [] [] k p') :
  Calls Tryz.prog 29 #[.pointer (some ⟨N1, 0, none⟩)] w fun e w' => (k = 0 → ∃ v ps, e = .returned v ∧ OwnSteps w.heap.size w' v ps ∧ Lone ps ∧ cls ps = p' ∧ (∀ p ∈ ps, p.1 = false) ∧ ps.length ≤ 200) ∧ (k ≠ 0 → Threw (codeK k) e) ∧ Below w.heap.size w w' := by
 have HCo := hid (fun (W : World) (hbw : Below w.heap.size w W) => cnfOK_impl (nv : Int) a len cap zss W (hr.below hbw))
 rw [hck] at HCo
 obtain ⟨hv0, hv1, hv2⟩ := rupFaceS.cnf_vars hck
 have hzz := rupFaceS.cnf_in (n := nv + 1) (by rw [show ((nv + 1 : Nat) : Int) - 1 = (nv : Int) by omega]; exact hck)
 have HSs := hid (fun W (hW : Below w.heap.size w W) => setsOf_impl a len cap zss W (hr.below hW) (by have := hr.length; omega) (fun i hi z hz => by
  have hi' : i < zss.length := by rw [hr.length]; exact hi
  rw [List.getElem?_eq_getElem hi'] at hz
  have := hzz _ (List.getElem_mem hi') z hz
  omega))
 have HWf : Hid (∀ c ∈ zss.map setL, Wf c) := hid (fun c hc => by
  obtain ⟨ys, h1, rfl⟩ := List.mem_map.1 hc
  exact wf_set (fun z hz => by have := hzz ys h1 z hz; omega))
 have HTb := hid ht
 have HL3 : Hid (zss.length ≤ 300) := hid hv2
 have HG := hid hg
 clear hr hck ht hg
 go_enter Tryz.func29, Tryz.ntmps29
 go_wp2_with fail
 refine (HCo.out _ (by repeat (first | exact Below.refl _ _ | assumption | refine Below.drew ?_ | refine Below.alloc ?_ (by first | exact Nat.le_refl _ | omega | (simp; done) | (simp; omega)) _ | refine Below.setCell ?_ (by first | exact Nat.le_refl _ | omega | (simp; done) | (simp; omega)) _))).mono ?_
 rintro e w1 ⟨rfl, hb1⟩
 have HB1 := hid ((show Below w.heap.size w _ from (by repeat (first | exact Below.refl _ _ | assumption | refine Below.drew ?_ | refine Below.alloc ?_ (by first | exact Nat.le_refl _ | omega | (simp; done) | (simp; omega)) _ | refine Below.setCell ?_ (by first | exact Nat.le_refl _ | omega | (simp; done) | (simp; omega)) _))).trans (hb1.mono (by first | exact Nat.le_refl _ | simp)))
 clear hb1
 go_wp2_with fail
 refine (must_so 1 _).mono ?_
 rintro e w2 ⟨rfl, hw1⟩
 have hw1 := hw1.symm
 subst hw1
 have d0 := keep HB1.out c0
 have d1 := keep HB1.out c1
 clear c0 c1
 have HK1 : Hid (∀ w8 : World, Below w1.heap.size w1 w8 → w8.cell? ⟨N1, 0, none⟩ = some (.int .i64 nv) ∧ w8.cell? ⟨N1, 1, none⟩ = some (.slice a len cap)) := hid (fun w8 hb => ⟨keep hb d0, keep hb d1⟩)
 clear d0 d1
 go_wp2_with fail
 refine drawnJoin.region_join (fun uu => ⟨#[.pointer (some ⟨N1, 0, none⟩), .slice none 0 0, uu 2, .agg #[.int .i64 (nv : Int), .slice a len cap], .bool true, .tuple #[], uu 6, uu 7, uu 8, uu 9, uu 10, uu 11, uu 12, undef, undef, undef, undef, undef, undef, undef, undef, undef], []⟩) (fun i => [6, 7, 8, 9, 10, 11, 12, 2].getD i 0)
  (fun i v w8 => match i with | 0 => v = .pointer (some ⟨N1, 0, none⟩) | 1 => v = .int .i64 (nv : Int) | 2 => v = .pointer (some ⟨N1, 1, none⟩) | 3 => v = .slice a len cap | 4 => ∃ sa sc, v = .slice sa zss.length sc ∧ LsRow w8 sa zss.length (zss.map setL) | 5 => ∃ (M mb : Nat) (F : Nat → Value) (V : Int → Value), v = .pointer (some ⟨M, 0, none⟩) ∧ New w1.heap.size M mb F V nv zss w8 | 7 => ∃ R, v = .pointer (some ⟨R, 0, none⟩) ∧ w1.heap.size ≤ R ∧ w8.rowIs R 62 3 rf0 | _ => True)
  (Ji w1.heap.size nv zss) w1 8 [1, 5, 3, 4, 5, 6, 8, 8] (fun k => undef) (by rfl) (by kernel_rfl) (by rfl) (by kernel_rfl) (by kernel_rfl) (Below.refl _ _) ⟨fun h => (by cases h), fun h => (by cases h)⟩ ?hput ?hputN ?hinj ?stable ?step ?last
 case hput =>
  intro i hi us v
  match i, hi with
  | 0, _ => rfl
  | 1, _ => rfl
  | 2, _ => rfl
  | 3, _ => rfl
  | 4, _ => rfl
  | 5, _ => rfl
  | 6, _ => rfl
  | 7, _ => rfl
  | i + 8, hi => exact absurd hi (by omega)
 case hputN => intro us v; rfl
 case hinj =>
  intro i j hi hj h
  exact slots_inj [6, 7, 8, 9, 10, 11, 12, 2] (by decide) hi hj h
 case stable =>
  intro i v w8 w9 hb h
  match i, h with
  | 0, h => exact h
  | 1, h => exact h
  | 2, h => exact h
  | 3, h => exact h
  | 4, h => obtain ⟨sa, sc, e, hr⟩ := h; exact ⟨sa, sc, e, hr.below hb⟩
  | 5, h => obtain ⟨M, mb, F, V, e, q1⟩ := h; exact ⟨M, mb, F, V, e, q1.below hb⟩
  | 6, h => trivial
  | 7, h => obtain ⟨R, e, q1, q2⟩ := h; exact ⟨R, e, q1, q2.of_block (hb.block R q2.lt)⟩
  | _ + 8, h => trivial
 case step =>
  intro i hi L us w8 hL hJ S8 hphi hdep
  match i, hi with
  | 0, _ =>
   refine ⟨_, rfl, fun K' hK => ?_⟩
   go_simp
   exact hK.out _ _ (Below.refl _ _) rfl (hJ.calm (Below.refl _ _) (by decide) (by decide) _)
  | 1, _ =>
   have h0 : (us 6) = .pointer (some ⟨N1, 0, none⟩) := hphi 0 (hdep 0 (by kernel_rfl)) (by decide)
   refine ⟨_, rfl, fun K' hK => ?_⟩
   obtain ⟨y0, y1⟩ := HK1.out w8 S8
   simp only [h0] at hK ⊢
   go_simp
   exact hK.out _ _ (Below.refl _ _) rfl (hJ.calm (Below.refl _ _) (by decide) (by decide) _)
  | 2, _ =>
   refine ⟨_, rfl, fun K' hK => ?_⟩
   go_simp
   exact hK.out _ _ (Below.refl _ _) rfl (hJ.calm (Below.refl _ _) (by decide) (by decide) _)
  | 3, _ =>
   have h2 : (us 8) = .pointer (some ⟨N1, 1, none⟩) := hphi 2 (hdep 2 (by kernel_rfl)) (by decide)
   refine ⟨_, rfl, fun K' hK => ?_⟩
   obtain ⟨y0, y1⟩ := HK1.out w8 S8
   simp only [h2] at hK ⊢
   go_simp
   exact hK.out _ _ (Below.refl _ _) rfl (hJ.calm (Below.refl _ _) (by decide) (by decide) _)
  | 4, _ =>
   have h3 : (us 9) = .slice a len cap := hphi 3 (hdep 3 (by kernel_rfl)) (by decide)
   refine ⟨_, rfl, fun K' hK => ?_⟩
   simp only [h3] at hK ⊢
   go_simp
   refine (HSs.out _ (HB1.out.trans (S8.mono HB1.out.size))).mono ?_
   rintro e w9 ⟨v9, rfl, ho9, hb9⟩
   obtain ⟨sa, sc, rfl, hrow⟩ := ho9.form
   exact hK.out _ _ hb9 ⟨sa, sc, rfl, ls_of_sets hrow⟩ (hJ.calm hb9 (by decide) (by decide) _)
  | 5, _ =>
   have h1 : (us 7) = .int .i64 (nv : Int) := hphi 1 (hdep 1 (by kernel_rfl)) (by decide)
   have h4 : ∃ sa sc, (us 10) = .slice sa zss.length sc ∧ LsRow w8 sa zss.length (zss.map setL) := hphi 4 (hdep 4 (by kernel_rfl)) (by decide)
   have h7 : L 7 = true → ∃ R, us 2 = .pointer (some ⟨R, 0, none⟩) ∧ w1.heap.size ≤ R ∧ w8.rowIs R 62 3 rf0 := fun h => hphi 7 h (by decide)
   refine ⟨_, rfl, fun K' hK => ?_⟩
   obtain ⟨sa, sc, e4, hrow⟩ := h4
   simp only [h1, e4] at hK ⊢
   go_simp
   refine (chk_impl (nv : Int) sa zss.length sc (zss.map setL) _ hrow (by have := HL3.out; omega) HWf.out (tab_below HTb.out (HB1.out.trans (S8.mono HB1.out.size)))).mono ?_
   rintro e w9 ⟨M, mb, F, V, rfl, q1, qv, hb9, m1, m2, m3⟩
   have hN : New w1.heap.size M mb F V nv zss w9 := ⟨q1, qv, Nat.le_trans S8.size m1, Nat.le_trans S8.size m2, fun a g hg => Nat.le_trans S8.size (m3 a g hg)⟩
   exact hK.out _ _ hb9 ⟨M, mb, F, V, rfl, hN⟩ (hJ.chk hL (fun h => by obtain ⟨R, e, _, q⟩ := h7 h; exact ⟨R, e, q.lt⟩) hN m1 m2 m3)
  | 6, _ =>
   have h5 := hdep 5 (by kernel_rfl)
   have h55 : ∃ M mb F V, us 11 = .pointer (some ⟨M, 0, none⟩) ∧ New w1.heap.size M mb F V nv zss w8 := hphi 5 h5 (by decide)
   obtain ⟨M, mb, F, V, e11, -⟩ := h55
   have hP := hJ.pack (Below.refl w8.heap.size w8) h5
   rw [e11] at hP
   refine ⟨_, rfl, fun K' hK => ?_⟩
   simp only [e11] at hK ⊢
   go_simp
   exact hK.out _ _ (Below.refl _ _) trivial hP
  | 7, _ =>
   have h5 : L 5 = true → ∃ M mb F V, us 11 = .pointer (some ⟨M, 0, none⟩) ∧ New w1.heap.size M mb F V nv zss w8 := fun h => hphi 5 h (by decide)
   refine ⟨_, rfl, fun K' hK => ?_⟩
   go_simp
   exact hK.out _ _ (by repeat (first | exact Below.refl _ _ | assumption | refine Below.drew ?_ | refine Below.alloc ?_ (by first | exact Nat.le_refl _ | omega | (simp; done) | (simp; omega)) _ | refine Below.setCell ?_ (by first | exact Nat.le_refl _ | omega | (simp; done) | (simp; omega)) _)) ⟨w8.heap.size, rfl, S8.size, World.rowIs_alloc w8 _ _ rf0 (fun i hi => by
    match i, hi with
    | 0, _ => rfl
    | 1, _ => rfl
    | 2, _ => rfl)⟩ (hJ.make (by repeat (first | exact Below.refl _ _ | assumption | refine Below.drew ?_ | refine Below.alloc ?_ (by first | exact Nat.le_refl _ | omega | (simp; done) | (simp; omega)) _ | refine Below.setCell ?_ (by first | exact Nat.le_refl _ | omega | (simp; done) | (simp; omega)) _)) h5 (Nat.le_refl _))
  | i + 8, hi => exact absurd hi (by omega)
 case last =>
  intro L us w8 hall hJ S8 hphi
  have h7 : ∃ R, us 2 = .pointer (some ⟨R, 0, none⟩) ∧ w1.heap.size ≤ R ∧ w8.rowIs R 62 3 rf0 := hphi 7 (by decide)
  obtain ⟨R, e2, hR, hrow⟩ := h7
  obtain ⟨M, mb, F, V, R', e11, e2', hN, hfar⟩ := hJ.1 (hall 5 (by decide)) (hall 7 (by decide))
  have e12 := (hJ.2 (hall 6 (by decide))).2
  rw [e11] at e12
  rw [e2] at e2'
  obtain rfl : R = R' := by injection e2' with e; injection e with e; injection e
  have z0 := hrow.cell (i := 0) (by omega)
  have z1 := hrow.cell (i := 1) (by omega)
  have z2 := hrow.cell (i := 2) (by omega)
  have f0 := hrow.frozen 0
  have f1 := hrow.frozen 1
  have f2 := hrow.frozen 2
  have hRl := hrow.lt
  refine ⟨_, rfl, fun K' hK => ?_⟩
  simp only [e2, e11, e12] at hK ⊢
  go_simp
  refine hK.out undef _ ?_
  obtain ⟨w9, hw9⟩ : ∃ w9, ((w8.setCell ⟨R, 0, none⟩ (.pointer (some ⟨M, 0, none⟩))).setCell ⟨R, 1, none⟩ (.slice none 0 0)).setCell ⟨R, 2, none⟩ (.slice none 0 0) = w9 := ⟨_, rfl⟩
  rw [hw9]
  have hr9 : w9.rowIs R 62 3 (rfI M (.slice none 0 0) (.slice none 0 0)) := by
   rw [← hw9]
   exact (World.rowIs.set (World.rowIs.set (World.rowIs.set hrow 0 _) 1 _) 2 _).congr fun i hi => by
    match i, hi with
    | 0, _ => rfl
    | 1, _ => rfl
    | 2, _ => rfl
  have hk9 : ∀ j, j ≠ R → w9.heap[j]? = w8.heap[j]? := fun j hj => by
   rw [← hw9]
   exact (set_else hj).trans ((set_else hj).trans (set_else hj))
  have hsz9 : w9.heap.size = w8.heap.size := by rw [← hw9]; simp [World.setCell]
  have htR : 1 < w1.heap.size := by
   have h0 := tab_below HTb.out HB1.out 0 (by decide)
   exact World.block_lt_of_cell? _ _ h0
  have ht9 : Tab w9 := fun j hj => (World.cell?_of_block (hk9 _ (by show 1 ≠ R; omega))).trans (hN.1.tab j hj)
  have hs9 : Sol 0 M mb F V (chkS (nv : Int) (zss.map setL)) w9 := sol_keep hN.1 (hk9 M (fun e => hfar.1 e.symm)) (hk9 mb (fun e => hfar.2.1 e.symm)) (fun a g hg => hk9 g (fun e => hfar.2.2 a (by rw [← e]; exact hg))) ht9
  have HRf := hid (rft_new hs9 hN.2.1 (by rw [hsz9]; exact S8.size) hN.2.2.1 hN.2.2.2.1 hN.2.2.2.2 htR hR hr9 hfar)
  have HB9 : Hid (Below w1.heap.size w1 w9) := hid (S8.trans ⟨by rw [← hw9]; rfl, by rw [← hw9]; rfl, by rw [← hw9]; rfl, by rw [hsz9]; exact Nat.le_refl _, fun j hj => hk9 j (by omega)⟩)
  have hB9 : w1.heap.size ≤ w9.heap.size := HB9.out.size
  obtain ⟨q1, q2, q3, q4⟩ := opn_start (nv := nv) (by omega) hzz (chk_start (n := (nv : Int)) HWf.out).1 (chk_start (n := (nv : Int)) HWf.out).2
  have k10 := hs9.cell (i := 10) (by omega)
  rw [hs9.f10] at k10
  have r0 : w9.cell? ⟨R, 0, none⟩ = some (.pointer (some ⟨M, 0, none⟩)) := hr9.cell (i := 0) (by omega)
  have hR9 : R < w9.heap.size := hr9.lt
  have hM9 : M < w9.heap.size := hs9.lt.1
  clear hN hfar hs9 hk9 hr9 hJ hphi hall hK hrow z0 z1 z2 f0 f1 f2 ht9 hw9 e12 e11 e2 e2'
  generalize chkS (nv : Int) (zss.map setL) = sv0 at *
  by_cases hF : sv0.F = -1
  · have d1 : (sv0.F == -1) = true := by simp [hF]
    have d2 : (sv0.F != -1) = false := by simp [hF]
    have HRe := hid (refute_impl (by omega) hzz HL3.out HG.out F V _ (.slice none 0 0) (.slice none 0 0) [] w9 false HRf.out hB9 rfl (fun p hp => by cases hp) q1 q2 ⟨fun h => (by cases h), fun h => absurd hF (q3.2 h)⟩ (fun _ => q4 hF))
    clear q1 q2 q3 q4 hzz hF
    go_wp2_with fail
    refine HRe.out.mono ?_
    rintro e w10 hT
    have HBe := hid (HB1.out.trans ((HB9.out.trans hT.2.2).mono HB1.out.size))
    by_cases hk : k = 0
    · obtain ⟨rfl, F3, V3, s3, cv3, sv3, ps3, k1, k2, k3, -, -⟩ := hT.1 hk
      obtain ⟨_, _, sa3, sc3, -, rfl, hR3, -, -, t2, -⟩ := rft_cells k1
      have HX := hid (And.intro (k1.st.mono HB1.out.size) (And.intro k1.lone (And.intro k2 (And.intro k3 k1.few))))
      clear k1 k2 k3 hT
      go_wp2
      go_ret
      exact ⟨fun _ => ⟨_, ps3, rfl, HX.out.1, HX.out.2.1, HX.out.2.2.1, HX.out.2.2.2.1, HX.out.2.2.2.2⟩, fun h => absurd hk h, HBe.out⟩
    · have k2 := hT.2.1 hk
      unfold Threw at k2
      subst k2
      clear hT
      go_wp2
      exact ⟨rfl, fun h => absurd h hk, fun _ => rfl, HBe.out⟩
  · have d1 : (sv0.F == -1) = false := by simp [hF]
    have d2 : (sv0.F != -1) = true := by simp [hF]
    have HRe := hid (refute_impl (by omega) hzz HL3.out HG.out F V _ (.slice none 0 0) (.slice none 0 0) [] w9 true HRf.out hB9 rfl (fun p hp => by cases hp) q1 q2 ⟨fun _ => q3.1 hF, fun _ => rfl⟩ (fun h => by cases h))
    clear q1 q2 q3 q4 hzz hF
    go_wp2_with fail
    refine HRe.out.mono ?_
    rintro e w10 hT
    have HBe := hid (HB1.out.trans ((HB9.out.trans hT.2.2).mono HB1.out.size))
    by_cases hk : k = 0
    · obtain ⟨rfl, F3, V3, s3, cv3, sv3, ps3, k1, k2, k3, -, -⟩ := hT.1 hk
      obtain ⟨_, _, sa3, sc3, -, rfl, hR3, -, -, t2, -⟩ := rft_cells k1
      have HX := hid (And.intro (k1.st.mono HB1.out.size) (And.intro k1.lone (And.intro k2 (And.intro k3 k1.few))))
      clear k1 k2 k3 hT
      go_wp2
      go_ret
      exact ⟨fun _ => ⟨_, ps3, rfl, HX.out.1, HX.out.2.1, HX.out.2.2.1, HX.out.2.2.2.1, HX.out.2.2.2.2⟩, fun h => absurd hk h, HBe.out⟩
    · have k2 := hT.2.1 hk
      unfold Threw at k2
      subst k2
      clear hT
      go_wp2
      exact ⟨rfl, fun h => absurd h hk, fun _ => rfl, HBe.out⟩
end Go.Proofs.YtmkhoocokpkojaaGreatDoor.refOk
