import Derived.Test.YtmkhoocokpkojaaGreatDoorRefImpl
import Derived.Test.YtmkhoocokpkojaaGreatDoorPart2
namespace Go.Proofs.YtmkhoocokpkojaaGreatDoor.refFace
open Go.RowKit Go.Deep base copy runS rowsOwn runL refSem refImpl
open readSpecP (Pt pcs OwnSteps strip)
set_option linter.unusedVariables false
theorem cnf_lits {v : Int} {psZ : List (Value × List Int)} (h : cnf.cnfB v (psZ.map (·.2)) = true) : 0 ≤ v ∧ v ≤ 40 ∧ ∀ p ∈ psZ, ∀ z ∈ p.2, cnf.litB v z = true := by
 unfold cnf.cnfB at h
 rw [Bool.and_eq_true] at h
 obtain ⟨h1, h2, -⟩ := of_decide_eq_true h.1
 refine ⟨h1, h2, fun p hp z hz => ?_⟩
 have h3 := List.all_eq_true.1 h.2 p.2 (List.mem_map_of_mem hp)
 unfold cnf.clauseB at h3
 rw [Bool.and_eq_true] at h3
 exact List.all_eq_true.1 h3.2 z hz
theorem open_all : ∀ n, openN (allV []) n = n
 | 0 => rfl
 | n + 1 => by
  unfold openN
  rw [open_all n]
  rfl
theorem rf_new {B nv zn zc : Nat} {zp : Option Addr} {psZ : List (Value × List Int)} {w : World} (h : OwnRows B w (.slice zp zn zc) psZ) (o : Obj) :
  Rf B w.heap.size w.heap.size nv (.slice zp zn zc) psZ ((w.alloc (.cells #[.int .i64 nv, .slice zp zn zc, .slice none 0 0, .bool false] 76)).alloc o) (.slice none 0 0) false [] := by
 have hb : Below w.heap.size w ((w.alloc (.cells #[.int .i64 nv, .slice zp zn zc, .slice none 0 0, .bool false] 76)).alloc o) := (by repeat (first | exact Below.refl _ _ | assumption | refine Below.drew ?_ | refine Below.alloc ?_ (by first | exact Nat.le_refl _ | omega | (simp; done) | (simp; omega)) _ | refine Below.setCell ?_ (by first | exact Nat.le_refl _ | omega | (simp; done) | (simp; omega)) _))
 refine ⟨⟨#[.int .i64 nv, .slice zp zn zc, .slice none 0 0, .bool false], ?_, rfl, fun i hi => ?_⟩, h.below hb, ⟨World.ownsRow_nil _ _ _ _, fun p hp => (by cases hp)⟩, fun p hp => (by cases hp), Nat.zero_le _⟩
 · rw [Below.heap_alloc _ _ _ (by simp)]
   exact heap_alloc_new w _
 · rcases (show i = 0 ∨ i = 1 ∨ i = 2 ∨ i = 3 by omega) with rfl | rfl | rfl | rfl <;> rfl
def Right (v : Int) (ps : List Pt) : Prop := ∀ p ∈ ps, p.2.2.length ≤ 12 ∧ ∀ z ∈ p.2.2, cnf.litB v z = true
set_option maxRecDepth 8000 in
set_option maxHeartbeats 1600000 in
theorem goes_code {Z : List (List Int)} {nv : Nat} {zs : List Int} {p p' : List (List Int)} {c : Nat} (h : Goes Z nv zs p c p') : c = 0 ∨ c = 1 ∨ c = 2 := by
 induction h with
 | shut => exact .inl rfl
 | shutM => exact .inr (.inr rfl)
 | model => exact .inr (.inl rfl)
 | left _ _ _ _ ih => exact ih
 | right _ _ _ _ _ _ ih => exact ih
 | both => exact .inl rfl
 | bothM => exact .inr (.inr rfl)
def codeK (k : Nat) : Int := if k = 0 then 0 else if k = 1 then 6 else 7
set_option maxHeartbeats 1600000 in
theorem refutation_spec (B nv zn zc : Nat) (zp : Option Addr) (psZ : List (Value × List Int)) (w : World) (hr : OwnRows B w (.slice zp zn zc) psZ) (hcnf : cnf.cnfB (nv : Int) (psZ.map (·.2)) = true) :
  Calls Tryz.prog 12 #[.agg #[.int .i64 nv, .slice zp zn zc]] w fun e w' => ∃ g c code ps, e = .returned (.tuple #[.slice (some ⟨g, 0, none⟩) (List.length ps) c, .int .i64 code]) ∧ OwnSteps w.heap.size w' (.slice (some ⟨g, 0, none⟩) (List.length ps) c) ps ∧ Right nv ps ∧ ps.length ≤ 200 ∧ Below w.heap.size w w' ∧ (∀ p ∈ ps, p.1 = false) ∧ ∃ k sts, Goes (psZ.map (·.2)) nv [] [] k sts ∧ code = codeK k ∧ cls ps = if k = 0 then sts else [] := by
 have HR := hid hr
 have HCnf := hid hcnf
 clear hr hcnf
 go_enter Tryz.func12, Tryz.ntmps12
 go_wp2_with fail
 refine (cnf.cnfOK_spec nv zp zn zc (psZ.map (·.2)) _ ?_).mono ?_
 · exact (rows_of_own HR.out).below (by repeat (first | exact Below.refl _ _ | assumption | refine Below.drew ?_ | refine Below.alloc ?_ (by first | exact Nat.le_refl _ | omega | (simp; done) | (simp; omega)) _ | refine Below.setCell ?_ (by first | exact Nat.le_refl _ | omega | (simp; done) | (simp; omega)) _))
 rintro e w1 ⟨rfl, hb1⟩
 rw [HCnf.out]
 have HB1 : Hid (Below w.heap.size w w1) := hid ((show Below w.heap.size w _ from (by repeat (first | exact Below.refl _ _ | assumption | refine Below.drew ?_ | refine Below.alloc ?_ (by first | exact Nat.le_refl _ | omega | (simp; done) | (simp; omega)) _ | refine Below.setCell ?_ (by first | exact Nat.le_refl _ | omega | (simp; done) | (simp; omega)) _))).trans (hb1.mono (by simp)))
 have q0 : w1.cell? ⟨w.heap.size, 0, none⟩ = some (.int .i64 nv) := keep hb1 (by simp [go_sem])
 have q1 : w1.cell? ⟨w.heap.size, 1, none⟩ = some (.slice zp zn zc) := keep hb1 (by simp [go_sem])
 have z1 : w.heap.size < w1.heap.size := by have := hb1.size; simp at this; omega
 have HR1 := hid (HR.out.below HB1.out)
 clear hb1
 obtain ⟨hv0, hv40, hlits⟩ := cnf_lits HCnf.out
 have HF := hid (fun (w9 : World) (h9 : w9 = (w1.alloc (.cells #[.int .i64 nv, .slice zp zn zc, .slice none 0 0, .bool false] 76)).alloc (.cells #[] 3)) => from_spec B w1.heap.size w1.heap.size nv zn zc zp psZ (by omega) hlits (nv + 2) [] (w1.heap.size + 1) 0 0 w9 (.slice none 0 0) [] (by rw [open_all]; omega) (by rw [open_all]; simp) (by rw [h9]; exact rf_new HR1.out _) (by rw [h9]; exact cnfDraw.own_new (B := 0) (w1.alloc (.cells #[.int .i64 nv, .slice zp zn zc, .slice none 0 0, .bool false] 76)) (by simp) (Nat.zero_le _)) (fun z hz => by cases hz) (by rw [h9]; simp; omega))
 clear hlits
 go_wp2_with fail
 refine (HF.out _ rfl).mono ?_
 rintro e w2 ⟨ok, k, sv, mn, ps, rfl, hok, hmn, hgo, hne, hd⟩
 have hbn : Below w1.heap.size w1 ((w1.alloc (.cells #[.int .i64 nv, .slice zp zn zc, .slice none 0 0, .bool false] 76)).alloc (.cells #[] 3)) := (by repeat (first | exact Below.refl _ _ | assumption | refine Below.drew ?_ | refine Below.alloc ?_ (by first | exact Nat.le_refl _ | omega | (simp; done) | (simp; omega)) _ | refine Below.setCell ?_ (by first | exact Nat.le_refl _ | omega | (simp; done) | (simp; omega)) _))
 have HB2 : Hid (Below w.heap.size w w2) := hid (HB1.out.trans ⟨hd.fr.os.trans hbn.os, hd.fr.tape.trans hbn.tape, hd.fr.output.trans hbn.output, Nat.le_trans hbn.size hd.fr.size, fun q hq => by
  rw [hd.fr.blk q (by have := hbn.size; omega) (by omega) (fun h => absurd h (by omega))]
  exact hbn.block q (by omega)⟩)
 obtain ⟨sa, sc, hsv⟩ := steps_form hd.rf.steps
 subst hsv
 have m2 : w2.cell? ⟨w1.heap.size, 2, none⟩ = some (.slice sa ps.length sc) := hd.rf.row.cell (i := 2) (by omega)
 have m3 : w2.cell? ⟨w1.heap.size, 3, none⟩ = some (.bool mn) := hd.rf.row.cell (i := 3) (by omega)
 have hM2 := hd.rf.row.lt
 have HSt := hid (OwnSteps.mono hd.rf.steps (Nat.le_of_lt z1))
 have HRi : Hid (Right nv ps) := hid (fun p hp => (hd.rf.right p hp).2)
 have HFe := hid hd.rf.few
 have HDel : Hid (∀ p ∈ ps, p.1 = false) := hid (fun p hp => (hd.rf.right p hp).1)
 have HGo := hid hgo
 have hk3 := goes_code hgo
 clear hgo
 clear hd hbn
 cases ok with
 | false =>
  clear hne
  rcases hk3 with rfl | rfl | rfl
  · exact absurd (hok.2 rfl) (by decide)
  all_goals
   obtain rfl := hmn
   clear hok
   go_wp2
   go_ret2
   exact ⟨_, _, _, [], rfl, ⟨readSpecP.none_own w2 _ _ rfl HB2.out.size, fun p hp => by cases hp⟩, fun p hp => (by cases hp), Nat.zero_le _, HB2.out.alloc HB2.out.size _, fun p hp => (by cases hp), _, _, HGo.out, rfl, rfl⟩
 | true =>
  obtain ⟨g, rfl⟩ : ∃ g, sa = some ⟨g, 0, none⟩ := by
   rcases HSt.out.outer.2 with ⟨e, h0⟩ | ⟨g, cap, cur, e, _⟩
   · exact absurd (List.length_eq_zero_iff.1 h0) (hne rfl)
   · injection e with e _ _
     exact ⟨g, e⟩
  obtain rfl : k = 0 := hok.1 rfl
  clear hne hok hmn hk3
  go_wp2
  go_ret2
  exact ⟨_, _, _, ps, rfl, HSt.out, HRi.out, HFe.out, HB2.out, HDel.out, _, _, HGo.out, rfl, rfl⟩
end Go.Proofs.YtmkhoocokpkojaaGreatDoor.refFace
namespace Go.Proofs.YtmkhoocokpkojaaGreatDoor.drawn
open Go heldStore
variable {P : Program} {ops : Array Oper} {Q : Exit → Act → World → Prop}
def falses : List Bool → Nat
 | [] => 0
 | true :: l => falses l
 | false :: l => falses l + 1
theorem falses_set : ∀ (l : List Bool) (i : Nat), l[i]? = some false → falses (l.set i true) + 1 = falses l
 | [], i, h => by simp at h
 | b :: l, 0, h => by
  simp only [List.getElem?_cons_zero, Option.some.injEq] at h
  subst h; rfl
 | b :: l, i + 1, h => by
  simp only [List.getElem?_cons_succ] at h
  have ih := falses_set l i h
  cases b <;> simp only [List.set_cons_succ, falses] <;> omega
theorem falses_pos : ∀ (l : List Bool) (i : Nat), l[i]? = some false → 0 < falses l
 | [], i, h => by simp at h
 | b :: l, 0, h => by
  simp only [List.getElem?_cons_zero, Option.some.injEq] at h
  subst h; simp [falses]
 | b :: l, i + 1, h => by
  simp only [List.getElem?_cons_succ] at h
  have ih := falses_pos l i h
  cases b <;> simp only [falses] <;> omega
theorem falses_replicate (m : Nat) : falses (List.replicate m false) = m := by
 induction m with
 | zero => rfl
 | succ m ih => rw [List.replicate_succ]; simp [falses, ih]
theorem at_false {listed : Array Bool} {i : Nat} (h : listed.getD i true = false) : listed.toList[i]? = some false := by
 rcases Nat.lt_or_ge i listed.size with h' | h'
 · simp [h'] at h ⊢; exact h
 · simp [Array.getElem?_eq_none h'] at h
def upB (ops : Array Oper) : Bool := (List.range ops.size).all fun i => ((ops[i]?).map (·.after.all fun e => decide (e.on < i))).getD true
theorem upB_spec (h : upB ops = true) {i : Nat} {o : Oper} (ho : ops[i]? = some o) : ∀ e ∈ o.after, e.on < i := by
 have hlt : i < ops.size := (Array.getElem?_eq_some_iff.1 ho).1
 have h1 := List.all_eq_true.1 h i (List.mem_range.2 hlt)
 rw [ho] at h1
 simp only [Option.map_some, Option.getD_some, Array.all_eq_true_iff_forall_mem, decide_eq_true_eq] at h1
 exact h1
theorem ready_ne (h : upB ops = true) {listed : Array Bool} (hs : listed.size = ops.size) : ∀ n, listed.getD n true = false → Region.ready .any ops listed ≠ [] := by
 intro n
 induction n using Nat.strongRecOn with
 | _ n ih =>
  intro hn he
  have hlt : n < ops.size := by
   rcases Nat.lt_or_ge n listed.size with h' | h'
   · omega
   · simp [Array.getElem?_eq_none h'] at hn
  by_cases hall : ∀ e ∈ (ops[n]).after, Region.binds .any e = true → listed.getD e.on false = true
  · have : n ∈ Region.ready .any ops listed := mem_ready.2 ⟨hn, ops[n], by simp [hlt], hall⟩
    rw [he] at this
    cases this
  · have hx : ∃ e ∈ (ops[n]).after, listed.getD e.on false = false := by
     apply Classical.byContradiction
     intro hno
     refine hall fun e he' _ => ?_
     cases hb : listed.getD e.on false with
     | true => rfl
     | false => exact absurd ⟨e, he', hb⟩ hno
    obtain ⟨e, he', hb⟩ := hx
    have hlt' := upB_spec h (i := n) (o := ops[n]) (by simp [hlt]) e he'
    exact ih e.on hlt' (getD_in (by omega) hb) he
def upd (u : Nat → Value) (k : Nat) (v : Value) : Nat → Value := fun j => if j = k then v else u j
theorem upd_same (u : Nat → Value) (k : Nat) (v : Value) : upd u k v k = v := if_pos rfl
theorem upd_ne (u : Nat → Value) {k j : Nat} (v : Value) (h : j ≠ k) : upd u k v j = u j := if_neg h
variable {A : (Nat → Value) → Act} {s : Nat → Nat} {φ : Nat → Value → World → Prop} {S : World → Prop} {n : Nat}
theorem any_inv (hz : ops.size = n + 1) (hE : LastOf ops n) (hup : upB ops = true)
  (hput : ∀ i, i < n → ∀ u v, (A u).put (some (s i)) v = A (upd u (s i) v)) (hinj : ∀ i j, i < n → j < n → s i = s j → i = j)
  (step : ∀ i, i < n → ∀ u w, S w → (∀ j, Region.waitsFor .any ops i j = true → φ j (u (s j)) w) → ∃ o, ops[i]? = some o ∧ ∀ K' : Act → World → Prop, Shut (∀ v w', S w' → (∀ j v', φ j v' w → φ j v' w') → φ i v w' → K' ((A u).put (some (s i)) v) w') → if Region.wanted o (yielded ops (A u).tmps) = true then Oper.wp P o (A u) w K' Q else K' ((A u).put o.dst undef) w)
  (last : ∀ u w, S w → (∀ j, j < n → φ j (u (s j)) w) → ∃ o, ops[n]? = some o ∧ ∀ K' : Act → World → Prop, Shut (∀ a w, Q .normal a w → K' a w) → if Region.wanted o (yielded ops (A u).tmps) = true then Oper.wp P o (A u) w K' Q else K' ((A u).put o.dst undef) w) :
  ∀ (fuel : Nat) (listed : Array Bool) (u : Nat → Value) (w : World), falses listed.toList ≤ fuel → HeadInv .any ops n listed → S w → (∀ j, j < n → listed.getD j false = true → φ j (u (s j)) w) →
   wpAny P .any ops Q fuel listed (A u) w := by
 intro fuel
 induction fuel with
 | zero =>
  intro listed u w hf inv _ _
  have := falses_pos _ _ (at_false (inv.tail n (Nat.le_refl _) (by omega)))
  omega
 | succ fuel ih =>
  intro listed u w hf inv hS hφ
  have hn := inv.tail n (Nat.le_refl _) (by omega)
  refine ⟨fun h => absurd h (ready_ne hup inv.size n hn), fun i hi => ?_⟩
  have hi' := mem_ready.1 hi
  obtain ⟨hun, oi, hoi, hall⟩ := hi'
  have hisz : i < n + 1 := by rw [← hz]; exact (Array.getElem?_eq_some_iff.1 hoi).1
  by_cases hin : i < n
  · obtain ⟨o, ho, h⟩ := step i hin u w hS (fun j hj => by
     obtain ⟨oj, hoj, e, he, hb, hon⟩ := Region.waitsFor_spec hj
     have e1 : oj = oi := Option.some.inj (hoj.symm.trans hoi)
     subst e1
     have h1 := hall e he hb
     have h2 := upB_spec hup hoj e he
     rw [hon] at h1 h2
     exact hφ j (by omega) h1)
    refine wpOp_step ho fun K' hK => h K' fun v w' hS' hst hv => hK _ _ ?_
    rw [hput i hin]
    refine ih _ _ _ ?_ (inv.set hi hin) hS' fun j hj hl => ?_
    · have := falses_set _ _ (at_false hun)
      simp only [Array.toList_setIfInBounds]
      omega
    · by_cases e : i = j
      · subst e; rw [upd_same]; exact hv
      · rw [getD_set_ne false e] at hl
        rw [upd_ne _ _ (fun e' => e (hinj i j hin hj e'.symm))]
        exact hst j _ (hφ j hj hl)
  · have e : i = n := by omega
    subst e
    have hlall : ∀ j, j < i → listed.getD j false = true := by
     intro j hj
     cases hb : listed.getD j false with
     | true => rfl
     | false => exact absurd hi (tail_waits hE.sink hE.chain hE.lt inv _ j rfl hj (getD_in (by rw [inv.size]; omega) hb) i (Nat.le_refl _))
    obtain ⟨o, ho, h⟩ := last u w hS (fun j hj => hφ j hj (hlall j hj))
    refine wpOp_step ho fun K' hK => h K' fun a' w' hq => hK _ _ ?_
    have hd : Region.ready .any ops (listed.setIfInBounds i true) = [] := by
     cases hr : Region.ready .any ops (listed.setIfInBounds i true) with
     | nil => rfl
     | cons k l =>
      have hk : k ∈ Region.ready .any ops (listed.setIfInBounds i true) := by rw [hr]; exact List.mem_cons_self
      obtain ⟨h1, ok, hok, _⟩ := mem_ready.1 hk
      have hklt : k < i + 1 := by rw [← hz]; exact (Array.getElem?_eq_some_iff.1 hok).1
      by_cases e : k = i
      · subst e
        have : k < listed.size := by rw [inv.size]; omega
        simp [this] at h1
      · rw [getD_set_ne true (Ne.symm e)] at h1
        have h2 := hlall k (by omega)
        rw [getD_both h1] at h2
        cases h2
    cases fuel with
    | zero => exact ⟨hd, hq⟩
    | succ f => exact ⟨fun _ => hq, fun k hk => by rw [hd] at hk; cases hk⟩
theorem region_inv {id : Nat} {a : Act} {w : World} (A : (Nat → Value) → Act) (s : Nat → Nat) (φ : Nat → Value → World → Prop) (S : World → Prop) (n : Nat) (u0 : Nat → Value) (ha : a = A u0)
  (hm : P.follows .mixedOrders = true) (hz : ops.size = n + 1) (hE : LastOf ops n) (hup : upB ops = true) (hS : S w.drew)
  (hput : ∀ i, i < n → ∀ u v, (A u).put (some (s i)) v = A (upd u (s i) v)) (hinj : ∀ i j, i < n → j < n → s i = s j → i = j)
  (step : ∀ i, i < n → ∀ u w, S w → (∀ j, Region.waitsFor .any ops i j = true → φ j (u (s j)) w) → ∃ o, ops[i]? = some o ∧ ∀ K' : Act → World → Prop, Shut (∀ v w', S w' → (∀ j v', φ j v' w → φ j v' w') → φ i v w' → K' ((A u).put (some (s i)) v) w') → if Region.wanted o (yielded ops (A u).tmps) = true then Oper.wp P o (A u) w K' Q else K' ((A u).put o.dst undef) w)
  (last : ∀ u w, S w → (∀ j, j < n → φ j (u (s j)) w) → ∃ o, ops[n]? = some o ∧ ∀ K' : Act → World → Prop, Shut (∀ a w, Q .normal a w → K' a w) → if Region.wanted o (yielded ops (A u).tmps) = true then Oper.wp P o (A u) w K' Q else K' ((A u).put o.dst undef) w) :
  (Code.region id ops true).wp P Q a w := by
 subst ha
 refine wp_region_any hm ?_
 rw [hz]
 refine any_inv hz hE hup hput hinj step last _ _ _ _ ?_ ⟨by simp [hz], fun j oj _ hl => (by rw [getD_replicate_false] at hl; cases hl), fun t _ ht => getD_in (by simp; omega) (getD_replicate_false _ _)⟩ hS (fun j _ hl => (by rw [getD_replicate_false] at hl; cases hl))
 simp [falses_replicate]
open Go.RowKit in
theorem region_below {id : Nat} {a : Act} {w : World} (A : (Nat → Value) → Act) (s : Nat → Nat) (φ : Nat → Value → World → Prop) (W : World) (n : Nat) (u0 : Nat → Value) (ha : a = A u0)
  (hm : P.follows .mixedOrders = true) (hz : ops.size = n + 1) (hE : LastOf ops n) (hup : upB ops = true) (hW : Below W.heap.size W w)
  (hput : ∀ i, i < n → ∀ u v, (A u).put (some (s i)) v = A (upd u (s i) v)) (hinj : ∀ i j, i < n → j < n → s i = s j → i = j)
  (stable : ∀ i v w w', Below w.heap.size w w' → φ i v w → φ i v w')
  (step : ∀ i, i < n → ∀ u w, Below W.heap.size W w → (∀ j, Region.waitsFor .any ops i j = true → φ j (u (s j)) w) → ∃ o, ops[i]? = some o ∧ ∀ K' : Act → World → Prop, Shut (∀ v w', Below w.heap.size w w' → φ i v w' → K' ((A u).put (some (s i)) v) w') → if Region.wanted o (yielded ops (A u).tmps) = true then Oper.wp P o (A u) w K' Q else K' ((A u).put o.dst undef) w)
  (last : ∀ u w, Below W.heap.size W w → (∀ j, j < n → φ j (u (s j)) w) → ∃ o, ops[n]? = some o ∧ ∀ K' : Act → World → Prop, Shut (∀ a w, Q .normal a w → K' a w) → if Region.wanted o (yielded ops (A u).tmps) = true then Oper.wp P o (A u) w K' Q else K' ((A u).put o.dst undef) w) :
  (Code.region id ops true).wp P Q a w := by
 refine region_inv A s φ (fun w => Below W.heap.size W w) n u0 ha hm hz hE hup hW.drew hput hinj ?_ last
 intro i hi u w8 hS8 hdep
 obtain ⟨o, ho, h⟩ := step i hi u w8 hS8 hdep
 refine ⟨o, ho, fun K' hK => h K' fun v w' hb hv => hK.out v w' (hS8.trans (hb.mono hS8.size)) (fun j v' h' => stable j v' _ _ hb h') hv⟩
theorem slots_inj (l : List Nat) (h : l.Nodup) {i j : Nat} (hi : i < l.length) (hj : j < l.length) (e : l.getD i 0 = l.getD j 0) : i = j := by
 rw [List.getD_eq_getElem?_getD, List.getD_eq_getElem?_getD, List.getElem?_eq_getElem hi, List.getElem?_eq_getElem hj] at e
 exact (List.getElem_inj h).1 e
end Go.Proofs.YtmkhoocokpkojaaGreatDoor.drawn
namespace Go.Proofs.YtmkhoocokpkojaaGreatDoor.drawnLin
open Go heldStore drawn
variable {P : Program} {ops : Array Oper} {Q : Exit → Act → World → Prop}
variable {A : (Nat → Value) → Act} {s : Nat → Nat} {Inv : (Nat → Bool) → (Nat → Value) → World → Prop} {n : Nat}
def come (L : Nat → Bool) (i : Nat) : Nat → Bool := fun j => if j = i then true else L j
theorem come_same (L : Nat → Bool) (i : Nat) : come L i i = true := if_pos rfl
theorem come_old {L : Nat → Bool} {i j : Nat} (h : L j = true) : come L i j = true := by
 unfold come; split <;> first | rfl | exact h
theorem come_ne {L : Nat → Bool} {i j : Nat} (e : j ≠ i) : come L i j = L j := if_neg e
theorem any_all (hz : ops.size = n + 1) (hE : LastOf ops n) (hup : upB ops = true)
  (hput : ∀ i, i < n → ∀ u v, (A u).put (some (s i)) v = A (upd u (s i) v))
  (step : ∀ i, i < n → ∀ L u w, L i = false → (∀ j, Region.waitsFor .any ops i j = true → L j = true) → Inv L u w → ∃ o, ops[i]? = some o ∧ ∀ K' : Act → World → Prop, Shut (∀ v w', Inv (come L i) (upd u (s i) v) w' → K' ((A u).put (some (s i)) v) w') → if Region.wanted o (yielded ops (A u).tmps) = true then Oper.wp P o (A u) w K' Q else K' ((A u).put o.dst undef) w)
  (last : ∀ L u w, (∀ j, j < n → L j = true) → Inv L u w → ∃ o, ops[n]? = some o ∧ ∀ K' : Act → World → Prop, Shut (∀ a w, Q .normal a w → K' a w) → if Region.wanted o (yielded ops (A u).tmps) = true then Oper.wp P o (A u) w K' Q else K' ((A u).put o.dst undef) w) :
  ∀ (fuel : Nat) (listed : Array Bool) (u : Nat → Value) (w : World), falses listed.toList ≤ fuel → HeadInv .any ops n listed → Inv (fun j => listed.getD j false) u w →
   wpAny P .any ops Q fuel listed (A u) w := by
 intro fuel
 induction fuel with
 | zero =>
  intro listed u w hf inv _
  have := falses_pos _ _ (at_false (inv.tail n (Nat.le_refl _) (by omega)))
  omega
 | succ fuel ih =>
  intro listed u w hf inv hI
  have hn := inv.tail n (Nat.le_refl _) (by omega)
  refine ⟨fun h => absurd h (ready_ne hup inv.size n hn), fun i hi => ?_⟩
  have hi' := mem_ready.1 hi
  obtain ⟨hun, oi, hoi, hall⟩ := hi'
  have hisz : i < n + 1 := by rw [← hz]; exact (Array.getElem?_eq_some_iff.1 hoi).1
  by_cases hin : i < n
  · obtain ⟨o, ho, h⟩ := step i hin (fun j => listed.getD j false) u w (getD_both hun) (fun j hj => by
     obtain ⟨oj, hoj, e, he, hb, hon⟩ := Region.waitsFor_spec hj
     have e1 : oj = oi := Option.some.inj (hoj.symm.trans hoi)
     subst e1
     have h1 := hall e he hb
     rw [hon] at h1
     exact h1) hI
    refine wpOp_step ho fun K' hK => h K' fun v w' hI' => hK _ _ ?_
    rw [hput i hin]
    refine ih _ _ _ ?_ (inv.set hi hin) ?_
    · have := falses_set _ _ (at_false hun)
      simp only [Array.toList_setIfInBounds]
      omega
    · have : (fun j => (listed.setIfInBounds i true).getD j false) = come (fun j => listed.getD j false) i := by
       funext j
       unfold come
       by_cases e : j = i
       · subst e
         rw [if_pos rfl]
         have : j < listed.size := by rw [inv.size, hz]; omega
         simp [this]
       · rw [if_neg e, getD_set_ne false (Ne.symm e)]
      rw [this]
      exact hI'
  · have e : i = n := by omega
    subst e
    have hlall : ∀ j, j < i → listed.getD j false = true := by
     intro j hj
     cases hb : listed.getD j false with
     | true => rfl
     | false => exact absurd hi (tail_waits hE.sink hE.chain hE.lt inv _ j rfl hj (getD_in (by rw [inv.size]; omega) hb) i (Nat.le_refl _))
    obtain ⟨o, ho, h⟩ := last _ u w hlall hI
    refine wpOp_step ho fun K' hK => h K' fun a' w' hq => hK _ _ ?_
    have hd : Region.ready .any ops (listed.setIfInBounds i true) = [] := by
     cases hr : Region.ready .any ops (listed.setIfInBounds i true) with
     | nil => rfl
     | cons k l =>
      have hk : k ∈ Region.ready .any ops (listed.setIfInBounds i true) := by rw [hr]; exact List.mem_cons_self
      obtain ⟨h1, ok, hok, _⟩ := mem_ready.1 hk
      have hklt : k < i + 1 := by rw [← hz]; exact (Array.getElem?_eq_some_iff.1 hok).1
      by_cases e : k = i
      · subst e
        have : k < listed.size := by rw [inv.size]; omega
        simp [this] at h1
      · rw [getD_set_ne true (Ne.symm e)] at h1
        have h2 := hlall k (by omega)
        rw [getD_both h1] at h2
        cases h2
    cases fuel with
    | zero => exact ⟨hd, hq⟩
    | succ f => exact ⟨fun _ => hq, fun k hk => by rw [hd] at hk; cases hk⟩
theorem region_all {id : Nat} {a : Act} {w : World} (A : (Nat → Value) → Act) (s : Nat → Nat) (Inv : (Nat → Bool) → (Nat → Value) → World → Prop) (n : Nat) (u0 : Nat → Value) (ha : a = A u0)
  (hm : P.follows .mixedOrders = true) (hz : ops.size = n + 1) (hE : LastOf ops n) (hup : upB ops = true) (hS : Inv (fun _ => false) u0 w.drew)
  (hput : ∀ i, i < n → ∀ u v, (A u).put (some (s i)) v = A (upd u (s i) v))
  (step : ∀ i, i < n → ∀ L u w, L i = false → (∀ j, Region.waitsFor .any ops i j = true → L j = true) → Inv L u w → ∃ o, ops[i]? = some o ∧ ∀ K' : Act → World → Prop, Shut (∀ v w', Inv (come L i) (upd u (s i) v) w' → K' ((A u).put (some (s i)) v) w') → if Region.wanted o (yielded ops (A u).tmps) = true then Oper.wp P o (A u) w K' Q else K' ((A u).put o.dst undef) w)
  (last : ∀ L u w, (∀ j, j < n → L j = true) → Inv L u w → ∃ o, ops[n]? = some o ∧ ∀ K' : Act → World → Prop, Shut (∀ a w, Q .normal a w → K' a w) → if Region.wanted o (yielded ops (A u).tmps) = true then Oper.wp P o (A u) w K' Q else K' ((A u).put o.dst undef) w) :
  (Code.region id ops true).wp P Q a w := by
 subst ha
 refine wp_region_any hm ?_
 rw [hz]
 refine any_all hz hE hup hput step last _ _ _ _ ?_ ⟨by simp [hz], fun j oj _ hl => (by rw [getD_replicate_false] at hl; cases hl), fun t _ ht => getD_in (by simp; omega) (getD_replicate_false _ _)⟩ ?_
 · simp [falses_replicate]
 · have : (fun j => (Array.replicate (n + 1) false).getD j false) = fun _ => false := by funext j; exact getD_replicate_false _ _
   rw [this]
   exact hS
def chainB (ops : Array Oper) (nx : List Nat) (n : Nat) : Bool := (List.range n).all fun j => decide (j < nx.getD j 0) && decide (nx.getD j 0 ≤ n) && Region.waitsFor .any ops (nx.getD j 0) j
theorem chain_all {nx : List Nat} (h : chainB ops nx n = true) {L : Nat → Bool} (hc : ∀ j k, L j = true → Region.waitsFor .any ops j k = true → L k = true) (hn : L n = true) : ∀ d j, n - j ≤ d → j < n → L j = true := by
 intro d
 induction d with
 | zero => intro j h1 h2; omega
 | succ d ih =>
  intro j h1 h2
  have h3 := List.all_eq_true.1 h j (List.mem_range.2 h2)
  simp only [Bool.and_eq_true, decide_eq_true_eq] at h3
  obtain ⟨⟨h4, h5⟩, h6⟩ := h3
  refine hc _ _ ?_ h6
  by_cases e : nx.getD j 0 = n
  · rw [e]; exact hn
  · exact ih _ (by omega) (by omega)
open Go.RowKit in
structure Chg (X : Nat → Prop) (w w' : World) : Prop where
 os : w'.os = w.os
 tape : w'.tape = w.tape
 output : w'.output = w.output
 size : w.heap.size ≤ w'.heap.size
 block : ∀ k, k < w.heap.size → ¬ X k → w'.heap[k]? = w.heap[k]?
theorem Chg.refl (X : Nat → Prop) (w : World) : Chg X w w := ⟨rfl, rfl, rfl, Nat.le_refl _, fun _ _ _ => rfl⟩
open Go.RowKit in
theorem Chg.of_below {X : Nat → Prop} {w w' : World} (h : Below w.heap.size w w') : Chg X w w' := ⟨h.os, h.tape, h.output, h.size, fun k hk _ => h.block k hk⟩
theorem Chg.of_grown {X : Nat → Prop} {w w' : World} {row : Option Nat} (h : w.grownBy w' row) (hX : ∀ k, row = some k → X k) : Chg X w w' := ⟨h.os, h.tape, h.output, h.size, fun k hk hn => h.block k hk (fun e => hn (hX k e.symm))⟩
open Go.RowKit in
theorem region_lin {id : Nat} {a : Act} {w : World} (A : (Nat → Value) → Act) (s : Nat → Nat) (φ : Nat → Value → World → Prop) (fp : Nat → Value → World → Nat → Prop) (ψ : Value → World → Prop) (W : World) (n : Nat) (con : List Nat) (u0 : Nat → Value) (ha : a = A u0)
  (hm : P.follows .mixedOrders = true) (hz : ops.size = n + 2) (hE : LastOf ops (n + 1)) (hup : upB ops = true) (hch : chainB ops con n = true) (hW : Below W.heap.size W w)
  (hput : ∀ i, i < n + 1 → ∀ u v, (A u).put (some (s i)) v = A (upd u (s i) v)) (hinj : ∀ i j, i < n + 1 → j < n + 1 → s i = s j → i = j)
  (stable : ∀ i v w w', Below W.heap.size w w' → (∀ k, fp i v w k → k < w.heap.size ∧ w'.heap[k]? = w.heap[k]?) → φ i v w → φ i v w' ∧ ∀ k, fp i v w' k → fp i v w k)
  (step : ∀ i, i < n → ∀ u w, Below W.heap.size W w → (∀ j, con.getD j 0 = i → j < i → φ j (u (s j)) w ∧ ∀ k, fp j (u (s j)) w k → W.heap.size ≤ k ∧ k < w.heap.size) → ∃ o, ops[i]? = some o ∧ ∀ K' : Act → World → Prop, Shut (∀ v w', Chg (fun k => ∃ j, con.getD j 0 = i ∧ j < i ∧ fp j (u (s j)) w k) w w' → φ i v w' → (∀ k, fp i v w' k → k < w'.heap.size ∧ ((∃ j, con.getD j 0 = i ∧ j < i ∧ fp j (u (s j)) w k) ∨ w.heap.size ≤ k)) → K' ((A u).put (some (s i)) v) w') → if Region.wanted o (yielded ops (A u).tmps) = true then Oper.wp P o (A u) w K' Q else K' ((A u).put o.dst undef) w)
  (pre : ∀ u w, Below W.heap.size W w → (∀ j, con.getD j 0 = n → j < n → φ j (u (s j)) w ∧ ∀ k, fp j (u (s j)) w k → W.heap.size ≤ k ∧ k < w.heap.size) → ∃ o, ops[n]? = some o ∧ ∀ K' : Act → World → Prop, Shut (∀ v w', ψ v w' → K' ((A u).put (some (s n)) v) w') → if Region.wanted o (yielded ops (A u).tmps) = true then Oper.wp P o (A u) w K' Q else K' ((A u).put o.dst undef) w)
  (last : ∀ u w, ψ (u (s n)) w → ∃ o, ops[n + 1]? = some o ∧ ∀ K' : Act → World → Prop, Shut (∀ a w, Q .normal a w → K' a w) → if Region.wanted o (yielded ops (A u).tmps) = true then Oper.wp P o (A u) w K' Q else K' ((A u).put o.dst undef) w) :
  (Code.region id ops true).wp P Q a w := by
 have hcon : ∀ j, j < n → j < con.getD j 0 ∧ con.getD j 0 ≤ n ∧ Region.waitsFor .any ops (con.getD j 0) j = true := fun j hj => by
  have h3 := List.all_eq_true.1 hch j (List.mem_range.2 hj)
  simp only [Bool.and_eq_true, decide_eq_true_eq] at h3
  exact ⟨h3.1.1, h3.1.2, h3.2⟩
 refine region_all A s (fun L u w => (∀ j k, L j = true → Region.waitsFor .any ops j k = true → L k = true) ∧ (L n = true → ψ (u (s n)) w) ∧ (L n = false → Below W.heap.size W w ∧ (∀ j, j < n → L j = true → L (con.getD j 0) = false → φ j (u (s j)) w ∧ ∀ k, fp j (u (s j)) w k → W.heap.size ≤ k ∧ k < w.heap.size) ∧ ∀ j j', j < n → j' < n → j ≠ j' → L j = true → L (con.getD j 0) = false → L j' = true → L (con.getD j' 0) = false → ∀ k, fp j (u (s j)) w k → ¬ fp j' (u (s j')) w k)) (n + 1) u0 ha hm hz hE hup ⟨fun j k h => (by cases h), fun h => (by cases h), fun _ => ⟨hW.drew, fun j _ h => (by cases h), fun j j' _ _ _ h => (by cases h)⟩⟩ hput ?_ ?_
 · intro i hi L u w8 hLi hwait hI
   obtain ⟨hcl, hdone, hopen⟩ := hI
   have hcl' : ∀ j k, come L i j = true → Region.waitsFor .any ops j k = true → come L i k = true := by
    intro j k hj hw
    by_cases e : j = i
    · subst e; exact come_old (hwait k hw)
    · rw [come_ne e] at hj
      exact come_old (hcl j k hj hw)
   have hLn : L n = false := by
    by_cases hin : i < n
    · cases hb : L n with
      | false => rfl
      | true => rw [chain_all hch hcl hb (n - i) i (Nat.le_refl _) hin] at hLi; cases hLi
    · have e : i = n := by omega
      rw [← e]; exact hLi
   obtain ⟨hS8, hφ, hdis⟩ := hopen hLn
   have used : ∀ j, con.getD j 0 = i → j < i → L j = true := fun j hj hji => hwait j (by
    have := (hcon j (by omega)).2.2
    rw [hj] at this
    exact this)
   by_cases hin : i < n
   · obtain ⟨o, ho, h⟩ := step i hin u w8 hS8 (fun j hj hji => hφ j (by omega) (used j hj hji) (by rw [hj]; exact hLi))
     refine ⟨o, ho, fun K' hK => h K' fun v w' hc hv hf => hK.out v w' ⟨hcl', fun h1 => ?_, fun _ => ?_⟩⟩
     · rw [come_ne (by omega), hLn] at h1; cases h1
     · have hXW : ∀ k, (∃ j, con.getD j 0 = i ∧ j < i ∧ fp j (u (s j)) w8 k) → W.heap.size ≤ k := fun k hk => by
        obtain ⟨j, hj, hji, hk⟩ := hk
        exact ((hφ j (by omega) (used j hj hji) (by rw [hj]; exact hLi)).2 k hk).1
       have hb : Below W.heap.size w8 w' := ⟨hc.os, hc.tape, hc.output, hc.size, fun k hk => hc.block k (Nat.lt_of_lt_of_le hk hS8.size) (fun hx => by have := hXW k hx; omega)⟩
       -- an older operation that is still to be used
       have alive : ∀ j, j < n → j ≠ i → come L i j = true → come L i (con.getD j 0) = false → L j = true ∧ L (con.getD j 0) = false ∧ con.getD j 0 ≠ i := fun j hj e h1 h2 => by
        rw [come_ne e] at h1
        have h3 : con.getD j 0 ≠ i := fun e' => by rw [e', come_same] at h2; cases h2
        rw [come_ne h3] at h2
        exact ⟨h1, h2, h3⟩
       have apart : ∀ j, j < n → L j = true → L (con.getD j 0) = false → con.getD j 0 ≠ i → ∀ k, fp j (u (s j)) w8 k → ¬ ∃ j', con.getD j' 0 = i ∧ j' < i ∧ fp j' (u (s j')) w8 k := fun j hj h1 h2 h3 k hk hx => by
        obtain ⟨j', hj', hji, hk'⟩ := hx
        exact hdis j j' hj (by omega) (fun e => h3 (by rw [e]; exact hj')) h1 h2 (used j' hj' hji) (by rw [hj']; exact hLi) k hk hk'
       have sub : ∀ j, j < n → L j = true → L (con.getD j 0) = false → con.getD j 0 ≠ i → ∀ k, fp j (u (s j)) w' k → fp j (u (s j)) w8 k := fun j hj h1 h2 h3 => by
        obtain ⟨hp, hk⟩ := hφ j hj h1 h2
        exact (stable j _ _ _ hb (fun k hk' => ⟨(hk k hk').2, hc.block k (hk k hk').2 (apart j hj h1 h2 h3 k hk')⟩) hp).2
       refine ⟨hS8.trans hb, fun j hj h1 h2 => ?_, fun j j' hj hj' hne h1 h2 h1' h2' k hk => ?_⟩
       · by_cases e : j = i
         · subst e
           rw [upd_same]
           refine ⟨hv, fun k hk => ⟨?_, (hf k hk).1⟩⟩
           rcases (hf k hk).2 with hx | hx
           · exact hXW k hx
           · exact Nat.le_trans hS8.size hx
         · obtain ⟨h1, h2, h3⟩ := alive j hj e h1 h2
           rw [upd_ne _ _ (fun e' => e (hinj j i (by omega) hi e'))]
           obtain ⟨hp, hk⟩ := hφ j hj h1 h2
           obtain ⟨hp', hsub⟩ := stable j _ _ _ hb (fun k hk' => ⟨(hk k hk').2, hc.block k (hk k hk').2 (apart j hj h1 h2 h3 k hk')⟩) hp
           exact ⟨hp', fun k hk' => ⟨(hk k (hsub k hk')).1, Nat.lt_of_lt_of_le (hk k (hsub k hk')).2 hc.size⟩⟩
       · by_cases e : j = i
         · subst e
           have e' : j' ≠ j := fun e => hne e.symm
           obtain ⟨h1', h2', h3'⟩ := alive j' hj' e' h1' h2'
           rw [upd_same] at hk
           rw [upd_ne _ _ (fun e'' => e' (hinj j' j (by omega) hi e''))]
           intro hk'
           have hk' := sub j' hj' h1' h2' h3' k hk'
           rcases (hf k hk).2 with hx | hx
           · exact apart j' hj' h1' h2' h3' k hk' hx
           · have := ((hφ j' hj' h1' h2').2 k hk').2
             omega
         · obtain ⟨g1, g2, g3⟩ := alive j hj e h1 h2
           rw [upd_ne _ _ (fun e'' => e (hinj j i (by omega) hi e''))] at hk
           have hk := sub j hj g1 g2 g3 k hk
           by_cases e' : j' = i
           · subst e'
             rw [upd_same]
             intro hk'
             rcases (hf k hk').2 with hx | hx
             · exact apart j hj g1 g2 g3 k hk hx
             · have := ((hφ j hj g1 g2).2 k hk).2
               omega
           · obtain ⟨h1', h2', h3'⟩ := alive j' hj' e' h1' h2'
             rw [upd_ne _ _ (fun e'' => e' (hinj j' i (by omega) hi e''))]
             exact fun hk' => hdis j j' hj hj' hne g1 g2 h1' h2' k hk (sub j' hj' h1' h2' h3' k hk')
   · have e : i = n := by omega
     subst e
     obtain ⟨o, ho, h⟩ := pre u w8 hS8 (fun j hj hji => hφ j hji (used j hj hji) (by rw [hj]; exact hLi))
     refine ⟨o, ho, fun K' hK => h K' fun v w' hv => hK.out v w' ⟨hcl', fun _ => ?_, fun h1 => ?_⟩⟩
     · rw [upd_same]; exact hv
     · rw [come_same] at h1; cases h1
 · intro L u w8 hall hI
   exact last u w8 (hI.2.1 (hall n (by omega)))
end Go.Proofs.YtmkhoocokpkojaaGreatDoor.drawnLin
