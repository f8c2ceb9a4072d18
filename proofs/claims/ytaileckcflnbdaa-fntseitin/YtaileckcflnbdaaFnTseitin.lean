/- For every code the formula of the circuit of the expression drawn out of it is what the specification says, and its least model begins with the least values of which the expression is true; conditions: none. -/
import Derived.Test.YtaileckcflnbdaaTsFacts
import Derived.Test.YtaileckcflnbdaaTsImplI
import Derived.Test.YtaileckcflnbdaaTsSpecI
import Derived.Test.YtaileckcflnbdaaBuildSpec
import Derived.Test.YtaileckcflnbdaaExOfJ
import Derived.Test.YtaileckcflnbdaaSame
import Derived.Test.YtaileckcflnbdaaDrawnMk
import Derived.Test.YtaileckcflnbdaaByteArgsI
import Derived.Deep.CutBlock
import Derived.Laws.BitsLemmas
import Derived.Laws.BitsAllLaws
import Derived.Laws.Bits64b
namespace Go.Proofs.Ytaileckcflnbdaa.fnTseitin
open Go.ChangeShapes Go.WideShapes Go.ChangeAt Go.RowKit Go.Deep Go.Joins Go base copy trees treeEval gates rowsOwn drawn drawnLin drawnMk heldStore args byteArgs
open buildSem (Gl)
open buildEval (gf V)
open buildFacts (Nice gs1 ze)
open treeVars (evC evB evalEx_spec)
open tsMath (bits4)
open nodes (OwnBools)
set_option linter.unusedVariables false

theorem own_at {B n s : Nat} {t : TypeId} {w w1 : World} {v : Value} {xs : List Value} (h : w.ownsRow B t s v n xs) (hk : ∀ g cs, v.ownBlock = some g → w.heap[g]? = some (.cells cs t (0, 0)) → w1.heap[g]? = w.heap[g]?) : w1.ownsRow B t s v n xs := by
  obtain ⟨h1, h2⟩ := h
  refine ⟨h1, ?_⟩
  rcases h2 with h2 | ⟨g, cap, cur, rfl, hg, hh, hn⟩
  · exact .inl h2
  · exact .inr ⟨g, cap, cur, rfl, hg, by rw [hk g cur rfl hh]; exact hh, hn⟩
theorem rows_set {B N k : Nat} {w w1 : World} {v : Value} {ps : List (Value × List Int)} {f : Nat → Value} (h : OwnRows B w v ps) (hr : w.rowIs N 35 k f) (hc : Chg (fun j => j = N) w w1) : OwnRows B w1 v ps := by
  obtain ⟨cs0, h0, _⟩ := hr
  refine ⟨own_at h.outer fun g cs hv hh => hc.block g (Array.getElem?_eq_some_iff.1 hh).1 fun e => ?_, fun p hp => own_at (h.inner p hp) fun g cs hv hh => hc.block g (Array.getElem?_eq_some_iff.1 hh).1 fun e => ?_⟩
  all_goals
    have e' : g = N := e
    subst e'
    rw [h0] at hh
    injection hh with hh
    injection hh with _ hh _
    exact absurd hh (by decide)
theorem rd1 (w : World) (e : T) (a1 : Option Addr) (l1 c1 : Nat) (he : Rd (fun _ => True) 1048576 w 4 e a1 l1) :
    Rd (fun _ => True) 1048576 (w.alloc (.cells #[.int .i64 (kd e), .int .i64 (nn e), .slice a1 l1 c1] 25)) 5 (tsFacts.T1 e) (some ⟨w.heap.size, 0, none⟩) 1 := by
  have hb : Below w.heap.size w (w.alloc (.cells #[.int .i64 (kd e), .int .i64 (nn e), .slice a1 l1 c1] 25)) := (by repeat (first | exact Below.refl _ _ | assumption | refine Below.drew ?_ | refine Below.alloc ?_ (by first | exact Nat.le_refl _ | omega | (simp; done) | (simp; omega)) _ | refine Below.setCell ?_ (by first | exact Nat.le_refl _ | omega | (simp; done) | (simp; omega)) _))
  refine ⟨rfl, by omega, fun i hi => ⟨w.heap.size, 0, rfl, trivial, ?_⟩⟩
  obtain rfl : i = 0 := by omega
  exact ⟨by simp [go_sem]; rfl, by simp [go_sem]; rfl, a1, l1, c1, by simp [go_sem], he.below hb⟩
theorem bit1 (m : Nat) (hl : m < 4096) : (bits .and .i64 (m : Int) 1 == 1) = (m % 2 == 1) := by
  have h := bits_mask .i64 40 (by decide) (fun m h0 h1 => by rw [IntKind.wrap_i64]; omega) 1 (by decide) (m : Int) (by omega) (by omega)
  simp only [Int.reducePow, Int.reduceSub] at h
  rw [h]
  rw [Bool.eq_iff_iff]
  simp
  omega
theorem gate_row {w : World} {a : Option Addr} {gs : Gl} (h : buildSpec.GateL w a gs) (hm : gs.length ≤ maxLen) : GateRow w a gs.length (gf gs) := ⟨hm, fun i hi => h i hi⟩

set_option maxHeartbeats 6400000 in
set_option maxRecDepth 100000 in
theorem walk (a : Option Addr) (len cap : Nat) (w : World) (hby : source.Bytes w a len) (hmost : len ≤ maxLen) :
    Calls Try.prog 3 #[.slice a len cap] w fun e w' => e = .returned (.bool true) ∧ Below w.heap.size w w' := by
  unfold maxLen at hmost
  have HBy := hid hby
  clear hby
  by_cases h1 : 1048576 < len
  · go_enter Try.func3, Try.ntmps3
    go_wp2
    go_ret
    exact ⟨rfl, Below.refl _ _⟩
  have hla : len ≤ 1048576 := by omega
  have i1 : decide ((1048576 : Int) < (len : Int)) = false := decide_eq_false (by omega)
  go_enter Try.func3, Try.ntmps3
  go_wp2_with fail
  refine (exOf.exOf_spec a len cap _ HBy.out hla).mono ?_
  rintro e w1 ⟨te, a1, l1, c1, rfl, hr1, hn1, hb1⟩
  have HR1 : Hid (Rd (fun _ => True) 1048576 w1 4 te a1 l1) := hid (hr1.imp fun _ _ => trivial)
  have HNi := hid hn1
  have HB1 := hid hb1
  clear hr1 hn1 hb1
  obtain ⟨gs, hgs⟩ : ∃ gs, gs1 te = gs := ⟨_, rfl⟩
  obtain ⟨z, hz⟩ : ∃ z, ze te = z := ⟨_, rfl⟩
  obtain ⟨gl, hgl⟩ : ∃ gl, gs.length = gl := ⟨_, rfl⟩
  have HGood : Hid (buildEval.Good 4 gs) := hid (by rw [← hgs]; exact tsFacts.good1 HNi.out)
  have HIn : Hid (buildSem.In 4 gs z) := hid (by rw [← hgs, ← hz]; exact tsFacts.in1 HNi.out)
  have HVal : Hid (∀ vs : List Bool, vs.length = 4 → V vs gs z = evalT vs 4 te) := hid (fun vs hv => by rw [← hgs, ← hz]; exact tsFacts.val1 HNi.out hv)
  have HG64 : Hid (∀ i, i < gl → aigImpl.I64 (gf gs i).1 ∧ aigImpl.I64 (gf gs i).2) := hid (by rw [← hgl, ← hgs]; exact tsFacts.gate1 HNi.out)
  have HZ64 : Hid (aigImpl.I64 z) := hid (by rw [← hz]; exact tsFacts.lit1 HNi.out)
  have hgl120 : gl ≤ 120 := by rw [← hgl, ← hgs]; exact tsFacts.len1 HNi.out
  have hts := tsFacts.ts_one_ex HNi.out
  rw [hgs, hz, hgl] at hts
  have HTs := hid hts
  have HGl := hid hgl
  have HEv : Hid (∀ vs : List Bool, evC 4 te 4 = 0 ∧ evB 4 te 4 vs = evalT vs 4 te) := hid (fun vs => by
    have h1 : evC 4 te 4 = 0 := by unfold evC; rw [if_neg (by omega), buildFacts.nice_ok HNi.out, if_neg (by simp), if_neg (by have := HNi.out.2.1; omega)]
    exact ⟨h1, by unfold evB; rw [if_pos h1]⟩)
  obtain ⟨q1, q2, q3⟩ := tsFacts.ans1 HNi.out
  have hc0 := tsFacts.code1 HNi.out
  have HSpec : Hid (∀ (x : Option Addr) (cx : Nat) (w' : World), Rd (fun _ => True) 1048576 w' 5 (tsFacts.T1 te) x 1 → Calls Try.prog 5 #[.int .i64 4, .slice x 1 cx] w' fun e w'' => ∃ ga gc lb lo lc, e = .returned (.tuple #[.agg #[.int .i64 4, .slice ga gl gc], .slice (some ⟨lb, lo, none⟩) 1 lc, .int .i64 0]) ∧ GateRow w'' ga gl (gf gs) ∧ w''.cell? ⟨lb, lo, none⟩ = some (.int .i64 z) ∧ Below w'.heap.size w' w'') := hid (by
    intro x cx w' h1
    refine (buildSpec.build_spec 5 (tsFacts.T1 te) x 1 cx 4 w' h1).mono ?_
    rintro e w'' ⟨ga, gc, la, lc, rfl, hg, hi, hb⟩
    rw [q1, hgs] at hg
    rw [q2, hz] at hi
    obtain ⟨lb, lo, rfl, hc⟩ := hi.cell 0 (by simp)
    refine ⟨ga, gc, lb, lo, lc, by rw [q1, q2, q3, hc0, hgs, hgl]; rfl, ?_, by simpa using hc, hb⟩
    have h9 := gate_row hg (by unfold maxLen; omega)
    rw [hgl] at h9
    exact h9)
  clear q1 q2 q3 hc0 hts hgs hz hgl
  have HRd : Hid (Rd (fun _ => True) 1048576 ((w1.alloc (.cells #[.int .i64 (kd te), .int .i64 (nn te), .slice a1 l1 c1] 25)).alloc (.cells #[.int .i64 (kd te), .int .i64 (nn te), .slice a1 l1 c1] 25)) 5 (tsFacts.T1 te) (some ⟨w1.heap.size + 1, 0, none⟩) 1) := hid (by
    have h := rd1 _ te a1 l1 c1 (HR1.out.below (show Below w1.heap.size w1 (w1.alloc (.cells #[.int .i64 (kd te), .int .i64 (nn te), .slice a1 l1 c1] 25)) from (by repeat (first | exact Below.refl _ _ | assumption | refine Below.drew ?_ | refine Below.alloc ?_ (by first | exact Nat.le_refl _ | omega | (simp; done) | (simp; omega)) _ | refine Below.setCell ?_ (by first | exact Nat.le_refl _ | omega | (simp; done) | (simp; omega)) _))))
    rw [World.size_alloc] at h
    exact h)
  go_wp2_with fail
  refine (HSpec.out _ _ _ HRd.out).mono ?_
  rintro e w3 ⟨ga, gc, lb, lo, lc, rfl, hga, hlc, hb3⟩
  have hb13 : Below w1.heap.size w1 w3 := (show Below w1.heap.size w1 _ from (by repeat (first | exact Below.refl _ _ | assumption | refine Below.drew ?_ | refine Below.alloc ?_ (by first | exact Nat.le_refl _ | omega | (simp; done) | (simp; omega)) _ | refine Below.setCell ?_ (by first | exact Nat.le_refl _ | omega | (simp; done) | (simp; omega)) _))).trans (hb3.mono (by simp; omega))
  have x0 : w3.cell? ⟨w1.heap.size, 0, none⟩ = some (.int .i64 (kd te)) := keep hb3 (by simp [go_sem])
  have x1 : w3.cell? ⟨w1.heap.size, 1, none⟩ = some (.int .i64 (nn te)) := keep hb3 (by simp [go_sem])
  have x2 : w3.cell? ⟨w1.heap.size, 2, none⟩ = some (.slice a1 l1 c1) := keep hb3 (by simp [go_sem])
  have HX3 := hid (And.intro x0 (And.intro x1 x2))
  have HB3 := hid (HB1.out.trans (hb13.mono HB1.out.size))
  have HR3 := hid (HR1.out.below hb13)
  have HGa := hid hga
  have HLc := hid hlc
  have hx3 : w1.heap.size < w3.heap.size := by have := hb3.size; simp at this; omega
  clear hga hlc hb3 hb13 x0 x1 x2 HSpec HRd
  go_upto_region 5 with fail
  obtain ⟨w4, hw4⟩ : ∃ w4, w3.alloc (.cells #[.int .i64 4, .slice ga gl gc] 29) = w4 := ⟨_, rfl⟩
  have hb34 : Below w3.heap.size w3 w4 := by rw [← hw4]; exact (by repeat (first | exact Below.refl _ _ | assumption | refine Below.drew ?_ | refine Below.alloc ?_ (by first | exact Nat.le_refl _ | omega | (simp; done) | (simp; omega)) _ | refine Below.setCell ?_ (by first | exact Nat.le_refl _ | omega | (simp; done) | (simp; omega)) _))
  have HB4 := hid (HB3.out.trans (hb34.mono HB3.out.size))
  have hs4 : w4.heap.size = w3.heap.size + 1 := by rw [← hw4]; simp
  have HF4 : Hid (∀ w8, Below w4.heap.size w4 w8 → (w8.cell? ⟨w1.heap.size, 0, none⟩ = some (.int .i64 (kd te)) ∧ w8.cell? ⟨w1.heap.size, 1, none⟩ = some (.int .i64 (nn te)) ∧ w8.cell? ⟨w1.heap.size, 2, none⟩ = some (.slice a1 l1 c1)) ∧ (w8.cell? ⟨w3.heap.size, 0, none⟩ = some (.int .i64 4) ∧ w8.cell? ⟨w3.heap.size, 1, none⟩ = some (.slice ga gl gc)) ∧ Rd (fun _ => True) 1048576 w8 4 te a1 l1 ∧ GateRow w8 ga gl (gf gs) ∧ w8.cell? ⟨lb, lo, none⟩ = some (.int .i64 z)) := hid (fun w8 hb => by
    have h38 : Below w3.heap.size w3 w8 := hb34.trans (hb.mono (by omega))
    refine ⟨⟨keep h38 HX3.out.1, keep h38 HX3.out.2.1, keep h38 HX3.out.2.2⟩, ⟨keep hb (by rw [← hw4]; simp [go_sem]), keep hb (by rw [← hw4]; simp [go_sem])⟩, HR3.out.below h38, HGa.out.below h38, keep h38 HLc.out⟩)
  have hx4 : w1.heap.size < w4.heap.size := by omega
  have hA4 : w3.heap.size < w4.heap.size := by omega
  rw [hw4]
  clear hw4 hb34 HX3 HR3 HGa HLc hs4
  obtain ⟨TV, hTV⟩ : ∃ TV, tseitin.tsVars 4 gl (gf gs) z = TV := ⟨_, rfl⟩
  obtain ⟨TC, hTC⟩ : ∃ TC, tseitin.tsCode 4 gl (gf gs) z = TC := ⟨_, rfl⟩
  obtain ⟨TL, hTL⟩ : ∃ TL, tseitin.tsList 4 gl (gf gs) z = TL := ⟨_, rfl⟩
  have HTI : Hid (∀ w8, Below w4.heap.size w4 w8 → Calls Try.prog 6 #[.agg #[.int .i64 4, .slice ga gl gc], .int .i64 z] w8 fun e w' => ∃ (x : Option Addr) (L c : Nat) (ps : List (Value × List Int)), e = .returned (.tuple #[.agg #[.int .i64 TV, .slice x L c], .int .i64 TC]) ∧ OwnRows w8.heap.size w' (.slice x L c) ps ∧ ps.map (·.2) = TL ∧ Below w8.heap.size w8 w') := hid (fun w8 hb => by
    refine (tsImpl.tseitin_impl 4 ga gl gc (gf gs) z w8 (HF4.out w8 hb).2.2.2.1 HG64.out HZ64.out).mono ?_
    rintro e w' ⟨x, L, c, ps, he, ho, -, hl, hb'⟩
    rw [hTV, hTC] at he
    rw [hTL] at hl
    exact ⟨x, L, c, ps, he, ho, hl, hb'⟩)
  have HTS : Hid (∀ w8, Below w4.heap.size w4 w8 → Calls Try.prog 7 #[.agg #[.int .i64 4, .slice ga gl gc], .int .i64 z] w8 fun e w' => ∃ (x : Option Addr) (L c : Nat) (ps : List (Value × List Int)), e = .returned (.tuple #[.agg #[.int .i64 TV, .slice x L c], .int .i64 TC]) ∧ OwnRows w8.heap.size w' (.slice x L c) ps ∧ ps.map (·.2) = TL ∧ Below w8.heap.size w8 w') := hid (fun w8 hb => by
    refine (tsSpec.tseitin_spec 4 ga gl gc (gf gs) z w8 (HF4.out w8 hb).2.2.2.1 HG64.out HZ64.out).mono ?_
    rintro e w' ⟨x, L, c, ps, he, ho, -, hl, hb'⟩
    rw [hTV, hTC] at he
    rw [hTL] at hl
    exact ⟨x, L, c, ps, he, ho, hl, hb'⟩)
  have hcs := HTs.out
  rw [hTV, hTC, hTL] at hcs
  have HCs := hid hcs
  clear hcs hTV hTC hTL HTs HG64 HZ64
  refine region_mk (fun uu => ⟨#[.slice a len cap, undef, .bool false, .pointer (some ⟨w1.heap.size, 0, none⟩), .pointer (some ⟨w3.heap.size, 0, none⟩), .slice (some ⟨lb, lo, none⟩) 1 lc, .int .i64 0, uu 7, uu 8, undef, undef, undef, undef, undef, undef, undef, undef, undef, .slice a len cap, .int .i64 ↑len, .bool false, .slice a len cap, .agg #[.int .i64 (kd te), .int .i64 (nn te), .slice a1 l1 c1], .tuple #[.agg #[.int .i64 4, .slice ga gl gc], .slice (some ⟨lb, lo, none⟩) 1 lc, .int .i64 0], .agg #[.int .i64 (kd te), .int .i64 (nn te), .slice a1 l1 c1], .slice (some ⟨w1.heap.size + 1, 0, none⟩) 1 1, .tuple #[.agg #[.int .i64 4, .slice ga gl gc], .slice (some ⟨lb, lo, none⟩) 1 lc, .int .i64 0], .agg #[.int .i64 4, .slice ga gl gc], .slice (some ⟨lb, lo, none⟩) 1 lc, .int .i64 0, uu 30, uu 31, uu 32, uu 33, uu 34, uu 35, uu 36, uu 37, undef, undef, undef, undef, undef, undef, undef, undef, undef, undef, undef, undef, undef, undef, undef, undef, undef, undef, undef, undef, undef, undef, undef, undef, undef, undef, undef, undef, undef, undef, undef, undef, undef, undef, undef, undef, undef, undef, undef, undef, undef, undef, undef, undef, undef, undef, undef, undef, undef, undef, undef, undef, undef, undef, undef, undef, undef, undef, undef, undef, undef, undef, undef, undef, undef, undef, undef, undef, undef, undef], []⟩) (fun i => [some 31, some 32, some 33, some 34, some 35, some 30, some 36, some 37, some 7, none, some 8].getD i none) (fun i v w8 => match i with | 0 => v = .agg #[.int .i64 4, .slice ga gl gc] | 1 => v = .slice (some ⟨lb, lo, none⟩) 1 lc | 2 => v = .pointer (some ⟨lb, lo, none⟩) | 3 => v = .int .i64 z | 4 => ∃ (x : Option Addr) (L c : Nat) (ps : List (Value × List Int)), v = .tuple #[.agg #[.int .i64 TV, .slice x L c], .int .i64 TC] ∧ OwnRows w4.heap.size w8 (.slice x L c) ps ∧ ps.map (·.2) = TL | 5 => ∃ (x : Option Addr) (L c : Nat) (ps : List (Value × List Int)), v = .tuple #[.agg #[.int .i64 TV, .slice x L c], .int .i64 TC] ∧ OwnRows w4.heap.size w8 (.slice x L c) ps ∧ ps.map (·.2) = TL | 6 => ∃ (x : Option Addr) (L c : Nat) (ps : List (Value × List Int)), v = .agg #[.int .i64 TV, .slice x L c] ∧ OwnRows w4.heap.size w8 (.slice x L c) ps ∧ ps.map (·.2) = TL | 7 => True | 8 => ∃ N : Nat, v = .pointer (some ⟨N, 0, none⟩) ∧ w4.heap.size ≤ N ∧ World.rowIs w8 N 35 2 (fun i => if i = 0 then .int .i64 0 else .slice none 0 0) | 10 => True | _ => True) (fun i v => match i with | 5 => ∃ (vq : Value), v = .tuple #[vq, .int .i64 TC] | 7 => v = .int .i64 TC | 10 => v = .int .i64 TC | _ => True) (fun uu w8 => ∃ (N : Nat) (x : Option Addr) (L c : Nat) (ps : List (Value × List Int)), uu 7 = .pointer (some ⟨N, 0, none⟩) ∧ w4.heap.size ≤ N ∧ World.rowIs w8 N 35 2 (fun i => if i = 0 then .int .i64 TV else .slice x L c) ∧ OwnRows w4.heap.size w8 (.slice x L c) ps ∧ ps.map (·.2) = TL ∧ Below w4.heap.size w4 w8) w4 11 9 (fun i => decide (i = 7) || decide (i = 10)) (fun k => match k with | 31 => undef | 32 => undef | 33 => undef | 34 => undef | 35 => undef | 30 => undef | 36 => undef | 37 => undef | 7 => undef | 8 => undef | _ => undef) (by rfl) (by kernel_rfl) (by rfl) (by kernel_rfl) (by decide) rfl (by kernel_rfl) (Below.refl _ _) ?hput ?hinj ?hsome ?hom ?stable ?hpsi ?step ?stepL ?store ?fin
  case hput =>
    intro i hi uu v
    match i, hi with
    | 0, _ => rfl
    | 1, _ => rfl
    | 2, _ => rfl
    | 3, _ => rfl
    | 4, _ => rfl
    | 5, _ => rfl
    | 6, _ => rfl
    | 7, _ => rfl
    | 8, _ => rfl
    | 9, _ => rfl
    | 10, _ => rfl
    | i + 11, hi => exact absurd hi (by omega)
  case hinj =>
    intro i j hi hj _ h
    have h9 : ∀ i, i < 11 → ∀ j, j < 11 → [some 31, some 32, some 33, some 34, some 35, some 30, some 36, some 37, some 7, none, some 8].getD i none = [some 31, some 32, some 33, some 34, some 35, some 30, some 36, some 37, some 7, none, some 8].getD j none → i = j := by decide
    exact h9 i hi j hj h
  case hsome =>
    intro i hi hne
    have h9 : ∀ i, i < 11 → i ≠ 9 → [some 31, some 32, some 33, some 34, some 35, some 30, some 36, some 37, some 7, none, some 8].getD i none ≠ none := by decide
    exact h9 i hi hne
  case hom =>
    intro i v w8 hl h
    match i, hl, h with
    | 0, hl, h => trivial
    | 1, hl, h => trivial
    | 2, hl, h => trivial
    | 3, hl, h => trivial
    | 4, hl, h => trivial
    | 5, hl, h => (obtain ⟨x, L, c, ps, e9, -⟩ := h; exact ⟨_, e9⟩)
    | 6, hl, h => trivial
    | 7, hl, h => exact absurd hl (by decide)
    | 8, hl, h => trivial
    | 9, hl, h => trivial
    | 10, hl, h => exact absurd hl (by decide)
    | _ + 11, hl, h => trivial
  case stable =>
    intro i v w8 w9 hb h
    match i, hb, h with
    | 0, hb, h => exact h
    | 1, hb, h => exact h
    | 2, hb, h => exact h
    | 3, hb, h => exact h
    | 4, hb, h => (obtain ⟨x, L, c, ps, e9, ho, hl⟩ := h; exact ⟨x, L, c, ps, e9, ho.below hb, hl⟩)
    | 5, hb, h => (obtain ⟨x, L, c, ps, e9, ho, hl⟩ := h; exact ⟨x, L, c, ps, e9, ho.below hb, hl⟩)
    | 6, hb, h => (obtain ⟨x, L, c, ps, e9, ho, hl⟩ := h; exact ⟨x, L, c, ps, e9, ho.below hb, hl⟩)
    | 7, hb, h => exact h
    | 8, hb, h => (obtain ⟨N, e9, hN, hrw⟩ := h; exact ⟨N, e9, hN, hrw.of_block (hb.block N hrw.lt)⟩)
    | 9, hb, h => trivial
    | 10, hb, h => exact h
    | _ + 11, hb, h => trivial
  case hpsi =>
    intro i hi hl uu v w8 h
    match i, hi, hl, h with
    | 0, _, hl, h => exact absurd hl (by decide)
    | 1, _, hl, h => exact absurd hl (by decide)
    | 2, _, hl, h => exact absurd hl (by decide)
    | 3, _, hl, h => exact absurd hl (by decide)
    | 4, _, hl, h => exact absurd hl (by decide)
    | 5, _, hl, h => exact absurd hl (by decide)
    | 6, _, hl, h => exact absurd hl (by decide)
    | 7, _, hl, h => exact h
    | 8, _, hl, h => exact absurd hl (by decide)
    | 9, _, hl, h => exact absurd hl (by decide)
    | 10, _, hl, h => exact h
    | i + 11, hi, _, _ => exact absurd hi (by omega)
  case step =>
    intro i hi hne hl uu w8 S8 hdep
    match i, hi, hne, hl, hdep with
    | 0, _, _, _, hdep =>
      clear hdep
      refine ⟨_, rfl, fun K' hK => ?_⟩
      obtain ⟨-, ⟨g0, g1⟩, -, -, hli⟩ := HF4.out w8 ((Below.refl w4.heap.size w4).trans (S8.mono (Below.refl w4.heap.size w4).size))
      go_simp
      exact hK.out _ _ (Below.refl _ _) (rfl)
    | 1, _, _, _, hdep =>
      clear hdep
      refine ⟨_, rfl, fun K' hK => ?_⟩
      go_simp
      exact hK.out _ _ (Below.refl _ _) (rfl)
    | 2, _, _, _, hdep =>
      have h1 : (uu 32) = .slice (some ⟨lb, lo, none⟩) 1 lc := hdep 1 (by kernel_rfl) (by decide)
      clear hdep
      refine ⟨_, rfl, fun K' hK => ?_⟩
      simp only [h1] at hK ⊢
      go_simp
      exact hK.out _ _ (Below.refl _ _) (rfl)
    | 3, _, _, _, hdep =>
      have h2 : (uu 33) = .pointer (some ⟨lb, lo, none⟩) := hdep 2 (by kernel_rfl) (by decide)
      clear hdep
      refine ⟨_, rfl, fun K' hK => ?_⟩
      obtain ⟨-, ⟨g0, g1⟩, -, -, hli⟩ := HF4.out w8 ((Below.refl w4.heap.size w4).trans (S8.mono (Below.refl w4.heap.size w4).size))
      simp only [h2] at hK ⊢
      go_simp
      exact hK.out _ _ (Below.refl _ _) (rfl)
    | 4, _, _, _, hdep =>
      have h0 : (uu 31) = .agg #[.int .i64 4, .slice ga gl gc] := hdep 0 (by kernel_rfl) (by decide)
      have h3 : (uu 34) = .int .i64 z := hdep 3 (by kernel_rfl) (by decide)
      clear hdep
      refine ⟨_, rfl, fun K' hK => ?_⟩
      simp only [h0, h3] at hK ⊢
      go_simp
      refine (HTI.out _ ((Below.refl w4.heap.size w4).trans (S8.mono (Below.refl w4.heap.size w4).size))).mono ?_
      rintro e9 w9 ⟨x9, L9, c9, ps9, rfl, ho9, hl9, hb9⟩
      exact hK.out _ _ hb9 ⟨x9, L9, c9, ps9, rfl, rows_mono ho9 (Nat.le_trans (Below.refl w4.heap.size w4).size S8.size), hl9⟩
    | 5, _, _, _, hdep =>
      have h4 : ∃ (x : Option Addr) (L c : Nat) (ps : List (Value × List Int)), (uu 35) = .tuple #[.agg #[.int .i64 TV, .slice x L c], .int .i64 TC] ∧ OwnRows w4.heap.size w8 (.slice x L c) ps ∧ ps.map (·.2) = TL := hdep 4 (by kernel_rfl) (by decide)
      clear hdep
      refine ⟨_, rfl, fun K' hK => ?_⟩
      obtain ⟨x, L, c, ps, e9, ho, hl⟩ := h4
      simp only [e9] at hK ⊢
      go_simp
      exact hK.out _ _ (Below.refl _ _) (⟨x, L, c, ps, rfl, ho, hl⟩)
    | 6, _, _, _, hdep =>
      have h5 : ∃ (x : Option Addr) (L c : Nat) (ps : List (Value × List Int)), (uu 30) = .tuple #[.agg #[.int .i64 TV, .slice x L c], .int .i64 TC] ∧ OwnRows w4.heap.size w8 (.slice x L c) ps ∧ ps.map (·.2) = TL := hdep 5 (by kernel_rfl) (by decide)
      clear hdep
      refine ⟨_, rfl, fun K' hK => ?_⟩
      obtain ⟨x, L, c, ps, e9, ho, hl⟩ := h5
      simp only [e9] at hK ⊢
      go_simp
      exact hK.out _ _ (Below.refl _ _) (⟨x, L, c, ps, rfl, ho, hl⟩)
    | 7, _, _, hl, _ => exact absurd hl (by decide)
    | 8, _, _, _, hdep =>
      clear hdep
      refine ⟨_, rfl, fun K' hK => ?_⟩
      go_simp
      exact hK.out _ _ (by repeat (first | exact Below.refl _ _ | assumption | refine Below.drew ?_ | refine Below.alloc ?_ (by first | exact Nat.le_refl _ | omega | (simp; done) | (simp; omega)) _ | refine Below.setCell ?_ (by first | exact Nat.le_refl _ | omega | (simp; done) | (simp; omega)) _)) ⟨w8.heap.size, rfl, S8.size, World.rowIs_alloc w8 #[.int .i64 0, .slice none 0 0] _ _ (fun i hi => by
        have h3 : i < 2 := hi
        rcases (show i = 0 ∨ i = 1 by omega) with rfl | rfl <;> rfl)⟩
    | 9, _, hne, _, _ => exact absurd rfl hne
    | 10, _, _, hl, _ => exact absurd hl (by decide)
    | i + 11, hi, _, _, _ => exact absurd hi (by omega)
  case stepL =>
    intro i hi hne hl uu w8 hdep
    match i, hi, hne, hl, hdep with
    | 0, _, _, hl, _ => exact absurd hl (by decide)
    | 1, _, _, hl, _ => exact absurd hl (by decide)
    | 2, _, _, hl, _ => exact absurd hl (by decide)
    | 3, _, _, hl, _ => exact absurd hl (by decide)
    | 4, _, _, hl, _ => exact absurd hl (by decide)
    | 5, _, _, hl, _ => exact absurd hl (by decide)
    | 6, _, _, hl, _ => exact absurd hl (by decide)
    | 7, _, _, _, hdep =>
      have h5 : ∃ (vq : Value), (uu 30) = .tuple #[vq, .int .i64 TC] := hdep 5 (by kernel_rfl) (by decide)
      clear hdep
      refine ⟨_, rfl, fun K' hK => ?_⟩
      obtain ⟨vq, e9⟩ := h5
      simp only [e9] at hK ⊢
      go_simp
      exact hK.out _ rfl
    | 8, _, _, hl, _ => exact absurd hl (by decide)
    | 9, _, hne, _, _ => exact absurd rfl hne
    | 10, _, _, _, hdep =>
      have h7 : (uu 37) = .int .i64 TC := hdep 7 (by kernel_rfl) (by decide)
      clear hdep
      refine ⟨_, rfl, fun K' hK => ?_⟩
      simp only [h7] at hK ⊢
      go_simp
      exact hK.out _ rfl
    | i + 11, hi, _, _, _ => exact absurd hi (by omega)
  case store =>
    intro uu w8 S8 hdep
    have h6 : ∃ (x : Option Addr) (L c : Nat) (ps : List (Value × List Int)), (uu 36) = .agg #[.int .i64 TV, .slice x L c] ∧ OwnRows w4.heap.size w8 (.slice x L c) ps ∧ ps.map (·.2) = TL := hdep 6 (by kernel_rfl) (by decide)
    have h8 : ∃ N : Nat, (uu 7) = .pointer (some ⟨N, 0, none⟩) ∧ w4.heap.size ≤ N ∧ World.rowIs w8 N 35 2 (fun i => if i = 0 then .int .i64 0 else .slice none 0 0) := hdep 8 (by kernel_rfl) (by decide)
    clear hdep
    refine ⟨_, rfl, fun K' hK => ?_⟩
    obtain ⟨x, L, c, ps, e8, ho, hl⟩ := h6
    obtain ⟨N, e9, hN, hrw⟩ := h8
    simp only [e8, e9] at hK ⊢
    have n0 : World.cell? w8 ⟨N, 0, none⟩ = some (.int .i64 0) := hrw.cell (i := 0) (by omega)
    have n1 : World.cell? w8 ⟨N, 1, none⟩ = some (.slice none 0 0) := hrw.cell (i := 1) (by omega)
    have z0 := hrw.frozen 0
    have z1 := hrw.frozen 1
    have hcN : Chg (fun j => j = N) w8 ((w8.setCell ⟨N, 0, none⟩ (.int .i64 TV)).setCell ⟨N, 1, none⟩ (.slice x L c)) := ((Chg.refl (fun j => j = N) w8).set (.inl rfl) _).set (.inl rfl) _
    have hrn : World.rowIs ((w8.setCell ⟨N, 0, none⟩ (.int .i64 TV)).setCell ⟨N, 1, none⟩ (.slice x L c)) N 35 2 (fun i => if i = 0 then .int .i64 TV else .slice x L c) := ((hrw.set 0 (.int .i64 TV)).set 1 (.slice x L c)).congr (fun i hi => by
      rcases (show i = 0 ∨ i = 1 by omega) with rfl | rfl <;> rfl)
    have hon : OwnRows w4.heap.size ((w8.setCell ⟨N, 0, none⟩ (.int .i64 TV)).setCell ⟨N, 1, none⟩ (.slice x L c)) (.slice x L c) ps := rows_set ho hrw hcN
    go_simp
    exact hK.out undef _ ⟨N, x, L, c, ps, rfl, hN, hrn, hon, hl, ⟨hcN.os.trans S8.os, hcN.tape.trans S8.tape, hcN.output.trans S8.output, Nat.le_trans S8.size hcN.size, fun j hj => (hcN.block j (by have := S8.size; omega) (fun hx => by have h3 : j = N := hx; omega)).trans (S8.block j hj)⟩⟩
  case fin =>
    intro uu wf hpsi hom
    have hsc : uu 8 = .int .i64 TC := hom 10 (by decide) (by decide)
    obtain ⟨N, xa, xL, xc, xps, hsw, hN, hrn, hon, hxl, hbw⟩ := hpsi
    simp only [hsc, hsw]
    have HNf := hid hrn
    have HOf := hid hon
    have HLf := hid hxl
    have HB5 := hid hbw
    have hNf := hN
    have hNfl : N < wf.heap.size := hrn.lt
    clear hrn hon hxl hbw hsc hsw hom
    go_upto_region 6 with fail
    refine region_mk (fun uv => ⟨#[.slice a len cap, undef, .bool false, .pointer (some ⟨w1.heap.size, 0, none⟩), .pointer (some ⟨w3.heap.size, 0, none⟩), .slice (some ⟨lb, lo, none⟩) 1 lc, .int .i64 0, .pointer (some ⟨N, 0, none⟩), .int .i64 TC, uv 9, uv 10, undef, undef, undef, undef, undef, undef, undef, .slice a len cap, .int .i64 ↑len, .bool false, .slice a len cap, .agg #[.int .i64 (kd te), .int .i64 (nn te), .slice a1 l1 c1], .tuple #[.agg #[.int .i64 4, .slice ga gl gc], .slice (some ⟨lb, lo, none⟩) 1 lc, .int .i64 0], .agg #[.int .i64 (kd te), .int .i64 (nn te), .slice a1 l1 c1], .slice (some ⟨w1.heap.size + 1, 0, none⟩) 1 1, .tuple #[.agg #[.int .i64 4, .slice ga gl gc], .slice (some ⟨lb, lo, none⟩) 1 lc, .int .i64 0], .agg #[.int .i64 4, .slice ga gl gc], .slice (some ⟨lb, lo, none⟩) 1 lc, .int .i64 0, uu 30, uu 31, uu 32, uu 33, uu 34, uu 35, uu 36, uu 37, uv 38, uv 39, uv 40, uv 41, uv 42, uv 43, uv 44, uv 45, undef, undef, undef, undef, undef, undef, undef, undef, undef, undef, undef, undef, undef, undef, undef, undef, undef, undef, undef, undef, undef, undef, undef, undef, undef, undef, undef, undef, undef, undef, undef, undef, undef, undef, undef, undef, undef, undef, undef, undef, undef, undef, undef, undef, undef, undef, undef, undef, undef, undef, undef, undef, undef, undef, undef, undef, undef, undef, undef, undef, undef, undef], []⟩) (fun i => [some 39, some 40, some 41, some 42, some 43, some 38, some 44, some 45, some 9, none, some 10].getD i none) (fun i v w8 => match i with | 0 => v = .agg #[.int .i64 4, .slice ga gl gc] | 1 => v = .slice (some ⟨lb, lo, none⟩) 1 lc | 2 => v = .pointer (some ⟨lb, lo, none⟩) | 3 => v = .int .i64 z | 4 => ∃ (x : Option Addr) (L c : Nat) (ps : List (Value × List Int)), v = .tuple #[.agg #[.int .i64 TV, .slice x L c], .int .i64 TC] ∧ OwnRows w4.heap.size w8 (.slice x L c) ps ∧ ps.map (·.2) = TL | 5 => ∃ (x : Option Addr) (L c : Nat) (ps : List (Value × List Int)), v = .tuple #[.agg #[.int .i64 TV, .slice x L c], .int .i64 TC] ∧ OwnRows w4.heap.size w8 (.slice x L c) ps ∧ ps.map (·.2) = TL | 6 => ∃ (x : Option Addr) (L c : Nat) (ps : List (Value × List Int)), v = .agg #[.int .i64 TV, .slice x L c] ∧ OwnRows w4.heap.size w8 (.slice x L c) ps ∧ ps.map (·.2) = TL | 7 => True | 8 => ∃ N : Nat, v = .pointer (some ⟨N, 0, none⟩) ∧ wf.heap.size ≤ N ∧ World.rowIs w8 N 35 2 (fun i => if i = 0 then .int .i64 0 else .slice none 0 0) | 10 => True | _ => True) (fun i v => match i with | 5 => ∃ (vq : Value), v = .tuple #[vq, .int .i64 TC] | 7 => v = .int .i64 TC | 10 => v = .int .i64 TC | _ => True) (fun uv w8 => ∃ (N : Nat) (x : Option Addr) (L c : Nat) (ps : List (Value × List Int)), uv 9 = .pointer (some ⟨N, 0, none⟩) ∧ wf.heap.size ≤ N ∧ World.rowIs w8 N 35 2 (fun i => if i = 0 then .int .i64 TV else .slice x L c) ∧ OwnRows w4.heap.size w8 (.slice x L c) ps ∧ ps.map (·.2) = TL ∧ Below wf.heap.size wf w8) wf 11 9 (fun i => decide (i = 7) || decide (i = 10)) (fun k => match k with | 39 => undef | 40 => undef | 41 => undef | 42 => undef | 43 => undef | 38 => undef | 44 => undef | 45 => undef | 9 => undef | 10 => undef | _ => undef) (by rfl) (by kernel_rfl) (by rfl) (by kernel_rfl) (by decide) rfl (by kernel_rfl) (Below.refl _ _) ?hput ?hinj ?hsome ?hom ?stable ?hpsi ?step ?stepL ?store ?fin
    case hput =>
      intro i hi uv v
      match i, hi with
      | 0, _ => rfl
      | 1, _ => rfl
      | 2, _ => rfl
      | 3, _ => rfl
      | 4, _ => rfl
      | 5, _ => rfl
      | 6, _ => rfl
      | 7, _ => rfl
      | 8, _ => rfl
      | 9, _ => rfl
      | 10, _ => rfl
      | i + 11, hi => exact absurd hi (by omega)
    case hinj =>
      intro i j hi hj _ h
      have h9 : ∀ i, i < 11 → ∀ j, j < 11 → [some 39, some 40, some 41, some 42, some 43, some 38, some 44, some 45, some 9, none, some 10].getD i none = [some 39, some 40, some 41, some 42, some 43, some 38, some 44, some 45, some 9, none, some 10].getD j none → i = j := by decide
      exact h9 i hi j hj h
    case hsome =>
      intro i hi hne
      have h9 : ∀ i, i < 11 → i ≠ 9 → [some 39, some 40, some 41, some 42, some 43, some 38, some 44, some 45, some 9, none, some 10].getD i none ≠ none := by decide
      exact h9 i hi hne
    case hom =>
      intro i v w8 hl h
      match i, hl, h with
      | 0, hl, h => trivial
      | 1, hl, h => trivial
      | 2, hl, h => trivial
      | 3, hl, h => trivial
      | 4, hl, h => trivial
      | 5, hl, h => (obtain ⟨x, L, c, ps, e9, -⟩ := h; exact ⟨_, e9⟩)
      | 6, hl, h => trivial
      | 7, hl, h => exact absurd hl (by decide)
      | 8, hl, h => trivial
      | 9, hl, h => trivial
      | 10, hl, h => exact absurd hl (by decide)
      | _ + 11, hl, h => trivial
    case stable =>
      intro i v w8 w9 hb h
      match i, hb, h with
      | 0, hb, h => exact h
      | 1, hb, h => exact h
      | 2, hb, h => exact h
      | 3, hb, h => exact h
      | 4, hb, h => (obtain ⟨x, L, c, ps, e9, ho, hl⟩ := h; exact ⟨x, L, c, ps, e9, ho.below hb, hl⟩)
      | 5, hb, h => (obtain ⟨x, L, c, ps, e9, ho, hl⟩ := h; exact ⟨x, L, c, ps, e9, ho.below hb, hl⟩)
      | 6, hb, h => (obtain ⟨x, L, c, ps, e9, ho, hl⟩ := h; exact ⟨x, L, c, ps, e9, ho.below hb, hl⟩)
      | 7, hb, h => exact h
      | 8, hb, h => (obtain ⟨N, e9, hN, hrw⟩ := h; exact ⟨N, e9, hN, hrw.of_block (hb.block N hrw.lt)⟩)
      | 9, hb, h => trivial
      | 10, hb, h => exact h
      | _ + 11, hb, h => trivial
    case hpsi =>
      intro i hi hl uv v w8 h
      match i, hi, hl, h with
      | 0, _, hl, h => exact absurd hl (by decide)
      | 1, _, hl, h => exact absurd hl (by decide)
      | 2, _, hl, h => exact absurd hl (by decide)
      | 3, _, hl, h => exact absurd hl (by decide)
      | 4, _, hl, h => exact absurd hl (by decide)
      | 5, _, hl, h => exact absurd hl (by decide)
      | 6, _, hl, h => exact absurd hl (by decide)
      | 7, _, hl, h => exact h
      | 8, _, hl, h => exact absurd hl (by decide)
      | 9, _, hl, h => exact absurd hl (by decide)
      | 10, _, hl, h => exact h
      | i + 11, hi, _, _ => exact absurd hi (by omega)
    case step =>
      intro i hi hne hl uv w8 S8 hdep
      match i, hi, hne, hl, hdep with
      | 0, _, _, _, hdep =>
        clear hdep
        refine ⟨_, rfl, fun K' hK => ?_⟩
        obtain ⟨-, ⟨g0, g1⟩, -, -, hli⟩ := HF4.out w8 (HB5.out.trans (S8.mono HB5.out.size))
        go_simp
        exact hK.out _ _ (Below.refl _ _) (rfl)
      | 1, _, _, _, hdep =>
        clear hdep
        refine ⟨_, rfl, fun K' hK => ?_⟩
        go_simp
        exact hK.out _ _ (Below.refl _ _) (rfl)
      | 2, _, _, _, hdep =>
        have h1 : (uv 40) = .slice (some ⟨lb, lo, none⟩) 1 lc := hdep 1 (by kernel_rfl) (by decide)
        clear hdep
        refine ⟨_, rfl, fun K' hK => ?_⟩
        simp only [h1] at hK ⊢
        go_simp
        exact hK.out _ _ (Below.refl _ _) (rfl)
      | 3, _, _, _, hdep =>
        have h2 : (uv 41) = .pointer (some ⟨lb, lo, none⟩) := hdep 2 (by kernel_rfl) (by decide)
        clear hdep
        refine ⟨_, rfl, fun K' hK => ?_⟩
        obtain ⟨-, ⟨g0, g1⟩, -, -, hli⟩ := HF4.out w8 (HB5.out.trans (S8.mono HB5.out.size))
        simp only [h2] at hK ⊢
        go_simp
        exact hK.out _ _ (Below.refl _ _) (rfl)
      | 4, _, _, _, hdep =>
        have h0 : (uv 39) = .agg #[.int .i64 4, .slice ga gl gc] := hdep 0 (by kernel_rfl) (by decide)
        have h3 : (uv 42) = .int .i64 z := hdep 3 (by kernel_rfl) (by decide)
        clear hdep
        refine ⟨_, rfl, fun K' hK => ?_⟩
        simp only [h0, h3] at hK ⊢
        go_simp
        refine (HTS.out _ (HB5.out.trans (S8.mono HB5.out.size))).mono ?_
        rintro e9 w9 ⟨x9, L9, c9, ps9, rfl, ho9, hl9, hb9⟩
        exact hK.out _ _ hb9 ⟨x9, L9, c9, ps9, rfl, rows_mono ho9 (Nat.le_trans HB5.out.size S8.size), hl9⟩
      | 5, _, _, _, hdep =>
        have h4 : ∃ (x : Option Addr) (L c : Nat) (ps : List (Value × List Int)), (uv 43) = .tuple #[.agg #[.int .i64 TV, .slice x L c], .int .i64 TC] ∧ OwnRows w4.heap.size w8 (.slice x L c) ps ∧ ps.map (·.2) = TL := hdep 4 (by kernel_rfl) (by decide)
        clear hdep
        refine ⟨_, rfl, fun K' hK => ?_⟩
        obtain ⟨x, L, c, ps, e9, ho, hl⟩ := h4
        simp only [e9] at hK ⊢
        go_simp
        exact hK.out _ _ (Below.refl _ _) (⟨x, L, c, ps, rfl, ho, hl⟩)
      | 6, _, _, _, hdep =>
        have h5 : ∃ (x : Option Addr) (L c : Nat) (ps : List (Value × List Int)), (uv 38) = .tuple #[.agg #[.int .i64 TV, .slice x L c], .int .i64 TC] ∧ OwnRows w4.heap.size w8 (.slice x L c) ps ∧ ps.map (·.2) = TL := hdep 5 (by kernel_rfl) (by decide)
        clear hdep
        refine ⟨_, rfl, fun K' hK => ?_⟩
        obtain ⟨x, L, c, ps, e9, ho, hl⟩ := h5
        simp only [e9] at hK ⊢
        go_simp
        exact hK.out _ _ (Below.refl _ _) (⟨x, L, c, ps, rfl, ho, hl⟩)
      | 7, _, _, hl, _ => exact absurd hl (by decide)
      | 8, _, _, _, hdep =>
        clear hdep
        refine ⟨_, rfl, fun K' hK => ?_⟩
        go_simp
        exact hK.out _ _ (by repeat (first | exact Below.refl _ _ | assumption | refine Below.drew ?_ | refine Below.alloc ?_ (by first | exact Nat.le_refl _ | omega | (simp; done) | (simp; omega)) _ | refine Below.setCell ?_ (by first | exact Nat.le_refl _ | omega | (simp; done) | (simp; omega)) _)) ⟨w8.heap.size, rfl, S8.size, World.rowIs_alloc w8 #[.int .i64 0, .slice none 0 0] _ _ (fun i hi => by
          have h3 : i < 2 := hi
          rcases (show i = 0 ∨ i = 1 by omega) with rfl | rfl <;> rfl)⟩
      | 9, _, hne, _, _ => exact absurd rfl hne
      | 10, _, _, hl, _ => exact absurd hl (by decide)
      | i + 11, hi, _, _, _ => exact absurd hi (by omega)
    case stepL =>
      intro i hi hne hl uv w8 hdep
      match i, hi, hne, hl, hdep with
      | 0, _, _, hl, _ => exact absurd hl (by decide)
      | 1, _, _, hl, _ => exact absurd hl (by decide)
      | 2, _, _, hl, _ => exact absurd hl (by decide)
      | 3, _, _, hl, _ => exact absurd hl (by decide)
      | 4, _, _, hl, _ => exact absurd hl (by decide)
      | 5, _, _, hl, _ => exact absurd hl (by decide)
      | 6, _, _, hl, _ => exact absurd hl (by decide)
      | 7, _, _, _, hdep =>
        have h5 : ∃ (vq : Value), (uv 38) = .tuple #[vq, .int .i64 TC] := hdep 5 (by kernel_rfl) (by decide)
        clear hdep
        refine ⟨_, rfl, fun K' hK => ?_⟩
        obtain ⟨vq, e9⟩ := h5
        simp only [e9] at hK ⊢
        go_simp
        exact hK.out _ rfl
      | 8, _, _, hl, _ => exact absurd hl (by decide)
      | 9, _, hne, _, _ => exact absurd rfl hne
      | 10, _, _, _, hdep =>
        have h7 : (uv 45) = .int .i64 TC := hdep 7 (by kernel_rfl) (by decide)
        clear hdep
        refine ⟨_, rfl, fun K' hK => ?_⟩
        simp only [h7] at hK ⊢
        go_simp
        exact hK.out _ rfl
      | i + 11, hi, _, _, _ => exact absurd hi (by omega)
    case store =>
      intro uv w8 S8 hdep
      have h6 : ∃ (x : Option Addr) (L c : Nat) (ps : List (Value × List Int)), (uv 44) = .agg #[.int .i64 TV, .slice x L c] ∧ OwnRows w4.heap.size w8 (.slice x L c) ps ∧ ps.map (·.2) = TL := hdep 6 (by kernel_rfl) (by decide)
      have h8 : ∃ N : Nat, (uv 9) = .pointer (some ⟨N, 0, none⟩) ∧ wf.heap.size ≤ N ∧ World.rowIs w8 N 35 2 (fun i => if i = 0 then .int .i64 0 else .slice none 0 0) := hdep 8 (by kernel_rfl) (by decide)
      clear hdep
      refine ⟨_, rfl, fun K' hK => ?_⟩
      obtain ⟨x, L, c, ps, e8, ho, hl⟩ := h6
      obtain ⟨N, e9, hN, hrw⟩ := h8
      simp only [e8, e9] at hK ⊢
      have n0 : World.cell? w8 ⟨N, 0, none⟩ = some (.int .i64 0) := hrw.cell (i := 0) (by omega)
      have n1 : World.cell? w8 ⟨N, 1, none⟩ = some (.slice none 0 0) := hrw.cell (i := 1) (by omega)
      have z0 := hrw.frozen 0
      have z1 := hrw.frozen 1
      have hcN : Chg (fun j => j = N) w8 ((w8.setCell ⟨N, 0, none⟩ (.int .i64 TV)).setCell ⟨N, 1, none⟩ (.slice x L c)) := ((Chg.refl (fun j => j = N) w8).set (.inl rfl) _).set (.inl rfl) _
      have hrn : World.rowIs ((w8.setCell ⟨N, 0, none⟩ (.int .i64 TV)).setCell ⟨N, 1, none⟩ (.slice x L c)) N 35 2 (fun i => if i = 0 then .int .i64 TV else .slice x L c) := ((hrw.set 0 (.int .i64 TV)).set 1 (.slice x L c)).congr (fun i hi => by
        rcases (show i = 0 ∨ i = 1 by omega) with rfl | rfl <;> rfl)
      have hon : OwnRows w4.heap.size ((w8.setCell ⟨N, 0, none⟩ (.int .i64 TV)).setCell ⟨N, 1, none⟩ (.slice x L c)) (.slice x L c) ps := rows_set ho hrw hcN
      go_simp
      exact hK.out undef _ ⟨N, x, L, c, ps, rfl, hN, hrn, hon, hl, ⟨hcN.os.trans S8.os, hcN.tape.trans S8.tape, hcN.output.trans S8.output, Nat.le_trans S8.size hcN.size, fun j hj => (hcN.block j (by have := S8.size; omega) (fun hx => by have h3 : j = N := hx; omega)).trans (S8.block j hj)⟩⟩
    case fin =>
      intro uv wg hpsi hom
      have hsc : uv 10 = .int .i64 TC := hom 10 (by decide) (by decide)
      obtain ⟨N2, ya, yL, yc, yps, hsw, hN2, hrn2, hon2, hyl, hbw2⟩ := hpsi
      simp only [hsc, hsw]
      have HBg := hid (HB5.out.trans (hbw2.mono HB5.out.size))
      have hf0 : wg.rowIs N 35 2 (fun i => if i = 0 then .int .i64 TV else .slice xa xL xc) := HNf.out.of_block (hbw2.block N hNfl)
      have f0 : wg.cell? ⟨N, 0, none⟩ = some (.int .i64 TV) := hf0.cell (i := 0) (by omega)
      have f1 : wg.cell? ⟨N, 1, none⟩ = some (.slice xa xL xc) := hf0.cell (i := 1) (by omega)
      have g0 : wg.cell? ⟨N2, 0, none⟩ = some (.int .i64 TV) := hrn2.cell (i := 0) (by omega)
      have g1 : wg.cell? ⟨N2, 1, none⟩ = some (.slice ya yL yc) := hrn2.cell (i := 1) (by omega)
      have HOf2 := hid (OwnRows.below HOf.out hbw2)
      have r1 := rows_of_own HOf2.out
      have r2 := rows_of_own hon2
      rw [HLf.out] at r1
      rw [hyl] at r2
      have hLe : yL = xL := r2.length.symm.trans r1.length
      subst hLe
      have HRf := hid r1
      have HRg := hid r2
      have HFf := hid (And.intro f0 f1)
      have hNl : N < wg.heap.size := hf0.lt
      have hN2l : N2 < wg.heap.size := hrn2.lt
      clear hf0 hrn2 hon2 hyl hbw2 r1 r2 hsc hsw hom HNf HOf HTI HTS
      have hTT : (TC != TC) = false := by simp
      go_wp2_with fail
      refine (cnfDraw.same_cnf TV xa ya yL xc yc TL _ HRf.out HRg.out).mono ?_
      rintro e w7 ⟨rfl, hb7⟩
      have HB7 := hid (HBg.out.trans (hb7.mono HBg.out.size))
      obtain ⟨⟨x0, x1, x2⟩, ⟨a0, a1'⟩, -⟩ := HF4.out w7 HB7.out
      have HF7 := hid (And.intro (keep hb7 HFf.out.1) (keep hb7 HFf.out.2))
      have HO7 := hid (OwnRows.below HOf2.out hb7)
      have HBw7 := hid (HB4.out.trans (HB7.out.mono HB4.out.size))
      have hA7 : w3.heap.size < w7.heap.size := Nat.lt_of_lt_of_le hA4 HB7.out.size
      have hN7 : N < w7.heap.size := Nat.lt_of_lt_of_le hNl hb7.size
      clear hb7 f0 f1 g0 g1 hTT HOf2 HFf
      rcases HCs.out with ⟨hT0, hTV, hTL, hcnf⟩ | ⟨hT11, hbig⟩
      · subst hT0
        have HMs := hid hcnf
        have hnv : 4 + gl ≤ 40 := by
          have h9 := hcnf
          unfold cnf.cnfB at h9
          rw [Bool.and_eq_true] at h9
          have := (of_decide_eq_true h9.1).2.1
          omega
        have HLm : Hid (Calls Try.prog 9 #[.agg #[.int .i64 TV, .slice xa yL xc]] w7 fun e w' => ∃ v C, e = .returned (.tuple #[v, .int .i64 C]) ∧ ((C = 0 ∧ ∃ M, OwnBools w7.heap.size w' v (leastModel.bitsOf M (4 + gl)) ∧ leastSem.Least (tseitin.tsC 4 gl (gf gs) z) (4 + gl + 1) leastModel.V0 M) ∨ (C = 6 ∧ leastSem.None_ (tseitin.tsC 4 gl (gf gs) z) (4 + gl + 1) leastModel.V0)) ∧ Below w7.heap.size w7 w') := hid (by
          have e4 : TV = ((4 + gl : Nat) : Int) := by rw [hTV]; omega
          have h := leastModel.leastModel_spec w4.heap.size (4 + gl) yL xc xa xps w7 HO7.out (by
            rw [HLf.out, hTL, show ((4 + gl : Nat) : Int) = 4 + (gl : Int) by omega]
            exact HMs.out) hnv
          rw [HLf.out, hTL] at h
          rw [e4]
          refine h.mono ?_
          rintro e w' (⟨v, M, rfl, h1, h2, h3⟩ | ⟨v, rfl, h1, h2⟩)
          · exact ⟨v, 0, rfl, .inl ⟨rfl, M, h1, h2⟩, h3⟩
          · exact ⟨v, 6, rfl, .inr ⟨rfl, h1⟩, h2⟩)
        obtain ⟨f0, f1⟩ := HF7.out
        clear hcnf hTV hTL
        go_wp2_with fail
        refine HLm.out.mono ?_
        rintro e w8 ⟨mv, C, rfl, hres, hb8⟩
        have HRes := hid hres
        have HB8 := hid (HBw7.out.trans (hb8.mono HBw7.out.size))
        have HB48 := hid (HB7.out.trans (hb8.mono HB7.out.size))
        clear hres hb8 f0 f1 HLm x0 x1 x2 a0 a1'
        go_wp2
        have HZe : Hid (∀ k, k < 16 → V (bits4 k) gs z = evalT (bits4 k) 4 te) := hid (fun k _ => HVal.out _ rfl)
        have HYes : Hid (∀ k, k < 16 → evalT (bits4 k) 4 te = true → (∀ j, j < k → evalT (bits4 j) 4 te = false) → C = 0 ∧ ∃ M, OwnBools w7.heap.size w8 mv (leastModel.bitsOf M (4 + gl)) ∧ leastModel.bitsOf M 4 = bits4 k) := hid (fun k hk ht hf => by
          rcases HRes.out with ⟨h0, M, h1, h2⟩ | ⟨h0, h1⟩
          · refine ⟨h0, M, h1, ?_⟩
            rw [← HGl.out] at h2
            exact tsMath.least_first HGood.out HIn.out hk h2 (by rw [HVal.out _ rfl]; exact ht) (fun j hj => by rw [HVal.out _ rfl]; exact hf j hj)
          · rw [← HGl.out] at h1
            have h9 := tsMath.none_false (i := k) HGood.out HIn.out h1
            rw [HVal.out _ rfl, ht] at h9
            cases h9)
        have HNo : Hid ((∀ j, j < 16 → evalT (bits4 j) 4 te = false) → C = 6) := hid (fun hf => by
          rcases HRes.out with ⟨h0, M, h1, h2⟩ | ⟨h0, h1⟩
          · rw [← HGl.out] at h2
            obtain ⟨j, hj, ht⟩ := tsMath.some_true HGood.out HIn.out h2
            rw [HVal.out _ rfl, hf j hj] at ht
            cases ht
          · exact h0)
        obtain ⟨b0, hbi, hzz⟩ := Option.map_eq_some_iff.1 nodes.info_bool
        simp only [Prod.mk.injEq] at hzz
        obtain ⟨hz0, hz1, hz2⟩ := hzz
        have HI := hid hbi
        have HZ0 := hid hz0
        have HZ1 := hid hz1
        have HZ2 := hid hz2
        have HMv : Hid (OwnBools w7.heap.size w8 mv [] ∨ ∃ M, OwnBools w7.heap.size w8 mv (leastModel.bitsOf M (4 + gl)) ∨ C = 6) := hid (by
          rcases HRes.out with ⟨h0, M, h1, h2⟩ | ⟨h0, h1⟩
          · exact .inr ⟨M, .inl h1⟩
          · exact .inr ⟨leastModel.V0, .inr h0⟩)
        clear hbi hz0 hz1 hz2 HRes HMv HCs HMs
        go_loopw [13] (fun i wr => ∃ k : Nat, k ≤ 16 ∧ i = .int .i64 k ∧ (∀ j, j < k → evalT (bits4 j) 4 te = false) ∧ Below w8.heap.size w8 wr) (fun i _ => 16 - (intOf i).toNat)
        case atStart => exact ⟨0, Nat.zero_le _, rfl, (fun j hj => absurd hj (Nat.not_lt_zero _)), Below.refl _ _⟩
        case round =>
          generalize wr = wo at *
          obtain ⟨k, hk, rfl, hfa, hbr⟩ := hrel
          have HFa := hid hfa
          have HBr := hid hbr
          have hszr := hbr.size
          clear hfa hbr
          by_cases hlt : k < 16
          · have hki : (k : Int) < 16 := by omega
            go_wp2
            go_loopw [15, 14] (fun s v wq => ∃ q : Nat, q ≤ 4 ∧ s = .int .i64 (3 - (q : Int)) ∧ OwnBools wo.heap.size wq v ((bits4 k).take q) ∧ Below wo.heap.size wo wq) (fun s _ _ => (intOf s + 1).toNat)
            case atStart => exact ⟨0, Nat.zero_le _, rfl, nodes.OwnBools.zero _ wo (Nat.le_refl _), (by repeat (first | exact Below.refl _ _ | assumption | refine Below.drew ?_ | refine Below.alloc ?_ (by first | exact Nat.le_refl _ | omega | (simp; done) | (simp; omega)) _ | refine Below.setCell ?_ (by first | exact Nat.le_refl _ | omega | (simp; done) | (simp; omega)) _))⟩
            case round =>
              rename_i v
              obtain ⟨q, hq, rfl, hox, hbq⟩ := hrel
              have HO := hid hox
              have HBq := hid hbq
              have hszq := hbq.size
              have hbl : ((bits4 k).take q).length = q := by rw [List.length_take]; show min q 4 = q; omega
              obtain ⟨xa9, xc9, hv, hrow⟩ := hox.form hbl
              subst hv
              have HRow := hid hrow
              have HBl := hid hbl
              clear hox hbq hrow hbl
              by_cases hq4 : q < 4
              · rcases (show q = 0 ∨ q = 1 ∨ q = 2 ∨ q = 3 by omega) with rfl | rfl | rfl | rfl
                · have hbit : ((bits4 k).take 1) = (bits4 k).take 0 ++ [k / 8 % 2 == 1] := rfl
                  have HBit := hid hbit
                  clear hbit
                  go_wp2_with (at_builtin; (refine wpList_append_own _ rfl _ _ 39 rfl wo.heap.size 4 b0 (.bool false) 1 1 Try.underlying39 HI.out HZ0.out HZ1.out HZ2.out rfl (by decide) _ _ _ rfl (World.ownsRow.alloc HO.out _) ⟨wr.heap.size, 0, none⟩ 1 1 [_] rfl rfl (cell_one_new _ _ _) (fun x hx => by simp at hx; subst hx; rfl) (by have := HBl.out; unfold maxLen; omega) (by have := HBl.out; omega) (by simp; omega) ?_); intro v9 w9 hown9 hg9 hnil9)
                  have eb : (k : Int) / 8 = ((k / 8 : Nat) : Int) := by omega
                  rw [eb, bit1 _ (by omega)] at hown9
                  have HO9 : Hid (OwnBools wo.heap.size w9 v9 ((bits4 k).take 1)) := hid (by
                    unfold nodes.OwnBools
                    rw [HBit.out, List.length_append, List.map_append]
                    exact hown9)
                  have HB9 : Hid (Below wo.heap.size wo w9) := hid (Below.grown (HBq.out.alloc hszq _) hg9 (by simp; omega) (fun j hj => (World.ownsRow.lt HO.out j hj).1))
                  clear hown9 hg9 hnil9
                  exact ⟨⟨1, by omega, by first | rfl | simp | go_num, HO9.out, HB9.out⟩, by simp [intOf]⟩
                · have hbit : ((bits4 k).take 2) = (bits4 k).take 1 ++ [k / 4 % 2 == 1] := rfl
                  have HBit := hid hbit
                  clear hbit
                  go_wp2_with (at_builtin; (refine wpList_append_own _ rfl _ _ 39 rfl wo.heap.size 4 b0 (.bool false) 1 1 Try.underlying39 HI.out HZ0.out HZ1.out HZ2.out rfl (by decide) _ _ _ rfl (World.ownsRow.alloc HO.out _) ⟨wr.heap.size, 0, none⟩ 1 1 [_] rfl rfl (cell_one_new _ _ _) (fun x hx => by simp at hx; subst hx; rfl) (by have := HBl.out; unfold maxLen; omega) (by have := HBl.out; omega) (by simp; omega) ?_); intro v9 w9 hown9 hg9 hnil9)
                  have eb : (k : Int) / 4 = ((k / 4 : Nat) : Int) := by omega
                  rw [eb, bit1 _ (by omega)] at hown9
                  have HO9 : Hid (OwnBools wo.heap.size w9 v9 ((bits4 k).take 2)) := hid (by
                    unfold nodes.OwnBools
                    rw [HBit.out, List.length_append, List.map_append]
                    exact hown9)
                  have HB9 : Hid (Below wo.heap.size wo w9) := hid (Below.grown (HBq.out.alloc hszq _) hg9 (by simp; omega) (fun j hj => (World.ownsRow.lt HO.out j hj).1))
                  clear hown9 hg9 hnil9
                  exact ⟨⟨2, by omega, by first | rfl | simp | go_num, HO9.out, HB9.out⟩, by simp [intOf]⟩
                · have hbit : ((bits4 k).take 3) = (bits4 k).take 2 ++ [k / 2 % 2 == 1] := rfl
                  have HBit := hid hbit
                  clear hbit
                  go_wp2_with (at_builtin; (refine wpList_append_own _ rfl _ _ 39 rfl wo.heap.size 4 b0 (.bool false) 1 1 Try.underlying39 HI.out HZ0.out HZ1.out HZ2.out rfl (by decide) _ _ _ rfl (World.ownsRow.alloc HO.out _) ⟨wr.heap.size, 0, none⟩ 1 1 [_] rfl rfl (cell_one_new _ _ _) (fun x hx => by simp at hx; subst hx; rfl) (by have := HBl.out; unfold maxLen; omega) (by have := HBl.out; omega) (by simp; omega) ?_); intro v9 w9 hown9 hg9 hnil9)
                  have eb : (k : Int) / 2 = ((k / 2 : Nat) : Int) := by omega
                  rw [eb, bit1 _ (by omega)] at hown9
                  have HO9 : Hid (OwnBools wo.heap.size w9 v9 ((bits4 k).take 3)) := hid (by
                    unfold nodes.OwnBools
                    rw [HBit.out, List.length_append, List.map_append]
                    exact hown9)
                  have HB9 : Hid (Below wo.heap.size wo w9) := hid (Below.grown (HBq.out.alloc hszq _) hg9 (by simp; omega) (fun j hj => (World.ownsRow.lt HO.out j hj).1))
                  clear hown9 hg9 hnil9
                  exact ⟨⟨3, by omega, by first | rfl | simp | go_num, HO9.out, HB9.out⟩, by simp [intOf]⟩
                · have hbit : ((bits4 k).take 4) = (bits4 k).take 3 ++ [k % 2 == 1] := rfl
                  have HBit := hid hbit
                  clear hbit
                  go_wp2_with (at_builtin; (refine wpList_append_own _ rfl _ _ 39 rfl wo.heap.size 4 b0 (.bool false) 1 1 Try.underlying39 HI.out HZ0.out HZ1.out HZ2.out rfl (by decide) _ _ _ rfl (World.ownsRow.alloc HO.out _) ⟨wr.heap.size, 0, none⟩ 1 1 [_] rfl rfl (cell_one_new _ _ _) (fun x hx => by simp at hx; subst hx; rfl) (by have := HBl.out; unfold maxLen; omega) (by have := HBl.out; omega) (by simp; omega) ?_); intro v9 w9 hown9 hg9 hnil9)
                  have eb : (k : Int) = ((k : Nat) : Int) := by omega
                  rw [eb, bit1 _ (by omega)] at hown9
                  have HO9 : Hid (OwnBools wo.heap.size w9 v9 ((bits4 k).take 4)) := hid (by
                    unfold nodes.OwnBools
                    rw [HBit.out, List.length_append, List.map_append]
                    exact hown9)
                  have HB9 : Hid (Below wo.heap.size wo w9) := hid (Below.grown (HBq.out.alloc hszq _) hg9 (by simp; omega) (fun j hj => (World.ownsRow.lt HO.out j hj).1))
                  clear hown9 hg9 hnil9
                  exact ⟨⟨4, by omega, by first | rfl | simp | go_num, HO9.out, HB9.out⟩, by simp [intOf]⟩
              · obtain rfl : q = 4 := by omega
                have hEv := HEv.out (bits4 k)
                have HRow4 : Hid (BoolRow wr xa9 4 (bits4 k)) := hid (by
                  have h9 := HRow.out
                  rw [show (bits4 k).take 4 = bits4 k from rfl] at h9
                  exact h9)
                have HB8q := hid (HB48.out.trans ((HBr.out.trans (HBq.out.mono hszr)).mono HB48.out.size))
                obtain ⟨⟨x0, x1, x2⟩, -, hrd, -⟩ := HF4.out wr HB8q.out
                have HEx := hid (evalEx_spec 4 te a1 l1 c1 xa9 4 xc9 (bits4 k) wr hrd HRow4.out)
                rw [hEv.1, hEv.2] at HEx
                have hxq : w1.heap.size < wr.heap.size := Nat.lt_of_lt_of_le hx4 HB8q.out.size
                clear hEv hrd
                obtain ⟨ev, hev⟩ : ∃ ev, evalT (bits4 k) 4 te = ev := ⟨_, rfl⟩
                have HEe := hid hev
                rw [hev] at HEx
                clear hev
                go_wp2_with fail
                refine HEx.out.mono ?_
                rintro e wE ⟨rfl, hbE⟩
                have HB8E : Hid (Below w8.heap.size w8 wE) := hid ((HBr.out.trans (HBq.out.mono hszr)).trans (hbE.mono (Nat.le_trans hszr hszq)))
                cases ev with
                | true =>
                  obtain ⟨hC, M, hmb, hme⟩ := HYes.out k hlt HEe.out HFa.out
                  obtain ⟨ma, mc, hmv, hmr⟩ := hmb.form (L := 4 + gl) (leastModel.bits_len M (4 + gl))
                  subst hmv
                  subst hC
                  have HMr : Hid (BoolRow wE ma 4 (bits4 k)) := hid ⟨rfl, by unfold maxLen; omega, fun i hi => by
                    obtain ⟨bb, off, e, hc⟩ := (hmr.below HB8E.out).cell i (by omega)
                    refine ⟨bb, off, e, ?_⟩
                    rw [hc, ← hme]
                    simp [leastModel.bitsOf, hi, show i < 4 + gl by omega]⟩
                  have hcap : 4 + gl ≤ mc := by
                    rcases hmb.2 with ⟨e, h0⟩ | ⟨g, cp, cur, e, _, _, h3, _⟩
                    · rw [leastModel.bits_len] at h0; omega
                    · rw [leastModel.bits_len] at e h3
                      injection e with _ _ e
                      omega
                  have hc1 : (4 : Int) ≤ (mc : Int) := by omega
                  have HRowE := hid (HRow4.out.below hbE)
                  have HBE := hid (HB8.out.trans (HB8E.out.mono HB8.out.size))
                  clear hmb hmr hme hbE
                  go_wp2_with fail
                  refine (same.sameBools ma xa9 4 mc xc9 (bits4 k) _ HMr.out HRowE.out).mono ?_
                  rintro e wS ⟨rfl, hbS⟩
                  have HBS := hid (HBE.out.trans (hbS.mono HBE.out.size))
                  clear hbS
                  go_wp2
                  go_ret
                  exact ⟨rfl, HBS.out⟩
                | false =>
                  clear hbE
                  go_wp2
                  go_roundw
                  case rel => exact ⟨k + 1, by omega, by go_num, fun j hj => by
                    rcases Nat.lt_or_ge j k with h9 | h9
                    · exact HFa.out j h9
                    · have : j = k := by omega
                      subst this
                      exact HEe.out, HB8E.out⟩
                  case measure => simp [intOf]; omega
          · have e : k = 16 := by omega
            subst e
            have hC := HNo.out HFa.out
            subst hC
            have HBe := hid (HB8.out.trans (HBr.out.mono HB8.out.size))
            go_wp2
            go_ret
            exact ⟨rfl, HBe.out⟩
      · subst hT11
        have hbi : (40 : Int) < 4 + (gl : Int) := by omega
        go_wp2
        go_ret
        exact ⟨rfl, HBw7.out⟩

theorem own : ownKnob Try.prog.godebug = none := by kernel_rfl
theorem laidOut : laidOutB Try.prog = true := by kernel_rfl

set_option maxRecDepth 100000 in
theorem lifted (os : Os) (started : os.Started) (H : Type) (enc : TypeId × Value → H) :
    ReturnsInHanded {} Try.checked os 3 .any (Rows.fnTseitinSpec.pre6 enc Try.prog Try.f3 Rows.fnTseitinRow.domain false) (Rows.fnTseitinSpec.post enc Try.prog Try.f3 false true false false) := by
  refine returnsInHanded_of_change (C := Try.checked) own started (by kernel_rfl) Try.func3
    (ChangeSpec.witness6 (enc := enc) (C := Try.checked) false ⟨#[], #[.slice none 0 0], []⟩ 8 (by kernel_rfl) (by kernel_rfl) (by kernel_rfl) (by kernel_rfl)) ?_
  intro W base args ds gs before hval0 hW hcnd _
  have hval : ∀ (j : Nat) t v, Try.f3.params[j]? = some t → args[j]? = some v → Value.okWide Try.prog W .any base t v := hval0
  have hW' := hW
  obtain ⟨p, q, hA0, hV, rfl, hfz, hnd⟩ := hW
  have hA : DataW.TrodAll enc Try.prog W 0 (fun _ => true) true Try.f3.params.toList args.toList ds p := hA0
  rw [Try.params3] at hA hval
  obtain ⟨v0, vs0, d0, ds0, p0, q0, hargs, rfl, rfl, h0, r0⟩ := trodAll_cons hA
  obtain ⟨rfl, rfl, rfl⟩ := trodAll_nil r0
  obtain rfl : args = #[v0] := by cases args; simp_all
  obtain ⟨rfl, rfl⟩ := trodVars_none hV
  have k0 := h0
  have lt0 : ∀ x ∈ p0, x.block < W.heap.size := by obtain ⟨m, hm⟩ := k0; exact DataW.trod_lt m _ _ _ hm
  obtain ⟨a, la, ca, rfl⟩ := okWide_slice Try.underlying22 (hval 0 22 v0 rfl rfl)
  have hba : source.Bytes W a la ∧ la ≤ maxLen := by
    obtain ⟨fuel, hf⟩ := h0
    obtain ⟨a', l', c', e, hb⟩ := bytes_of_trod Try.underlying22 Try.underlying5 (by kernel_rfl) (by simpa [Value.cells] using hf)
    cases e
    exact hb
  clear hA0 hval0
  refine (walk a la ca W hba.1 hba.2).mono fun e W' ⟨he, bel⟩ => ?_
  subst he
  exact ⟨_, rfl, _, _, _, [], _, [], hW', trodAll_mk1 (shut_bool Try.underlying4 _), (trodAll_cons_mk (Below.trod laidOut (by kernel_rfl) (of_decide_eq_true (by kernel_rfl)) k0 bel lt0) trodAll_mk0), rfl, bel.frame _, fun h => by cases h⟩

theorem over : Rows.fnTseitinRow.holds Try.pinned (OpenSpec.ofChange Rows.fnTseitinSpec) :=
  OpenClaim.holds_of_wide 3 Try.f3 rfl rfl rfl rfl rfl rfl rfl ⟨rfl, rfl, rfl, rfl, rfl⟩ rfl rfl rfl rfl rfl (by kernel_rfl) Try.func3 (by kernel_rfl)
    (of_decide_eq_true (by kernel_rfl)) (by unfold Func.isWrapper; first | (rw [if_pos (by decide +kernel)]; kernel_rfl) | (rw [if_neg (by decide +kernel)]; exact ⟨rfl, rfl⟩))
    (fun os started H enc _ => lifted os started H enc)
end Go.Proofs.Ytaileckcflnbdaa.fnTseitin
namespace Go.Proofs.Ytaileckcflnbdaa
theorem fnTseitin_holds : Rows.FnTseitinSaid := fnTseitin.over
end Go.Proofs.Ytaileckcflnbdaa
