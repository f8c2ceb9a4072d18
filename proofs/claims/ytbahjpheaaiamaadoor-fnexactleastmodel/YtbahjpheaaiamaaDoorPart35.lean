/- SolNew; SolRefresh; CdSmall: one text, so that the claim has fewer files. -/
import Derived.Test.YtbahjpheaaiamaaDoorPart32
import Derived.Test.YtbahjpheaaiamaaDoorPart22
import Derived.Test.YtbahjpheaaiamaaDoorPart18
import Derived.Test.YtbahjpheaaiamaaDoorCdX
import Derived.Test.YtbahjpheaaiamaaDoorPart20
import Derived.Test.YtbahjpheaaiamaaDoorSolSolve
/- A solver of the program is made of a formula's clauses (newSolver); conditions: a right formula, given literals of which none is another's opposite. -/
namespace Go.Proofs.YtbahjpheaaiamaaDoor.solNew
open Go.RowKit Go.Deep Go.Maps Go base sets setsOf solSets solOps solMath solHold solAdd solMem solFail solDue solExpect solPush solLoop solMove solHoldI solAddI
set_option linter.unusedVariables false
set_option linter.unusedSimpArgs false

def arr0 (n : Int) (own : Int) (mb : Nat) (H1 H2 : Nat) : Array Value := #[.int .i64 n, .int .i64 own, .slice none 0 0, .slice none 0 0, .map (some mb), .int .u64 H1, .int .u64 H2, .slice none 0 0, .slice none 0 0, .slice none 0 0, .int .i64 (-1),
  .int .i64 0, .int .i64 0, .int .i64 0, .int .i64 0, .int .i64 0, .int .i64 0, .int .i64 0, .int .i64 0, .int .i64 0, .int .i64 0, .int .i64 0, .int .i64 0, .int .i64 0, .int .i64 0, .int .i64 0, .int .i64 0, .int .i64 0, .int .i64 0, .int .i64 0, .int .i64 0, .int .i64 0, .int .i64 0, .int .i64 0, .int .i64 0, .int .i64 0, .int .i64 0, .int .i64 0, .int .i64 0, .int .i64 0, .int .i64 0, .int .i64 0, .int .i64 0, .int .i64 0, .int .i64 0, .int .i64 0, .int .i64 0, .int .i64 0, .int .i64 0, .int .i64 0, .int .i64 0, .int .i64 0,
  .int .i64 1024, .int .i64 1000, .int .i64 100, .int .i64 0]
def F0 (n : Int) (own : Int) (mb : Nat) (H1 H2 : Nat) (i : Nat) : Value := (arr0 n own mb H1 H2)[i]?.getD undef
/-- The cells that propagation does not touch, as they are at first. -/
def X0 (own : Nat) (j : Nat) : Value := F0 0 own 0 0 0 j
def s0 (n : Int) (H : LS) (own : Nat := 0) : Sv := { n := n, C := [], W := [], L := fun _ => [], H := H, T := [], K := [], D := [], F := -1, X := X0 own }
def newS (n : Int) (H : LS) (cs : List LS) (own : Nat := cs.length) : Sv := cs.foldl addS (s0 n H own)
theorem full0 {n : Int} {H : LS} {own : Nat} (hH : Wf H) (hc : ∀ l, mem H l = true → mem H (-l) = false) : Full (s0 n H own) := by
  have hw : ∀ i, (s0 n H own).wt i = (0, 0) := fun i => rfl
  have hcl : ∀ i, (s0 n H own).cl i = (0, 0) := fun i => rfl
  exact ⟨⟨hH, hc, fun i => by rw [hcl]; exact wf_zero, rfl, fun i hi => absurd rfl hi, fun i hi => absurd rfl hi, fun x _ => List.nodup_nil, fun x i hx => (by rw [hw]; exact ⟨fun h => (by cases h), fun h => (by rcases h with h | h <;> exact absurd h.symm hx)⟩), List.Pairwise.nil, fun i hi => (by cases hi), fun i hi => (by cases hi), .inl rfl⟩, fun i hi => absurd hi (Nat.not_lt_zero _)⟩
theorem add_same (s : Sv) (c : LS) : (addS s c).C = s.C ++ [c] ∧ (addS s c).n = s.n ∧ (addS s c).H = s.H ∧ (addS s c).T = s.T ∧ (addS s c).K = s.K := by
  unfold addS
  split
  · exact ⟨rfl, rfl, rfl, rfl, rfl⟩
  · split
    · unfold solAdd.watS; rw [if_pos rfl]; exact ⟨rfl, rfl, rfl, rfl, rfl⟩
    · unfold solAdd.watS; split <;> exact ⟨rfl, rfl, rfl, rfl, rfl⟩
theorem fold_full : ∀ (cs : List LS) (s : Sv), Full s → (∀ c ∈ cs, Wf c) → Full (cs.foldl addS s) ∧ (cs.foldl addS s).C = s.C ++ cs ∧ (cs.foldl addS s).n = s.n ∧ (cs.foldl addS s).H = s.H ∧ (cs.foldl addS s).T = s.T ∧ (cs.foldl addS s).K = s.K
  | [], s, h, _ => ⟨h, by simp, rfl, rfl, rfl, rfl⟩
  | c :: cs, s, h, hw => by
    obtain ⟨e1, e2, e3, e4, e5⟩ := add_same s c
    obtain ⟨f1, f2, f3, f4, f5, f6⟩ := fold_full cs (addS s c) (add_full h (hw c (by simp))) (fun d hd => hw d (by simp [hd]))
    exact ⟨f1, by rw [List.foldl_cons, f2, e1]; simp, f3.trans e2, f4.trans e3, f5.trans e4, f6.trans e5⟩
theorem new_full {n : Int} {H : LS} {cs : List LS} (hH : Wf H) (hc : ∀ l, mem H l = true → mem H (-l) = false) (hw : ∀ c ∈ cs, Wf c) (own : Nat := cs.length) : Full (newS n H cs own) ∧ (newS n H cs own).C = cs ∧ (newS n H cs own).n = n ∧ (newS n H cs own).H = H ∧ (newS n H cs own).T = [] ∧ (newS n H cs own).K = [] := by
  have := fold_full cs (s0 n H own) (full0 hH hc) hw
  exact ⟨this.1, this.2.1, this.2.2.1, this.2.2.2.1, this.2.2.2.2.1, this.2.2.2.2.2⟩
theorem sol0 (w : World) (n : Int) (own : Nat) (H : LS) (ht : Tab w) (hg : 0 < w.heap.size) :
    Sol 0 (w.heap.size + 1) w.heap.size (F0 n own w.heap.size H.1 H.2) (fun _ => nilV) (s0 n H own) ((w.alloc (.map #[] 0)).alloc (.cells (arr0 n own w.heap.size H.1 H.2) 69)) ∧ ∀ a, blk 0 (F0 n own w.heap.size H.1 H.2) (fun _ => nilV) a = none := by
  have hval : ∀ a, valA (F0 n own w.heap.size H.1 H.2) (fun _ => nilV) a = nilV := fun a => by
    unfold valA
    repeat (first | rfl | split)
  have hfx : ∀ j, (j = 1 ∨ 11 ≤ j) → F0 n own w.heap.size H.1 H.2 j = X0 own j := fun j hj => by
    rcases hj with rfl | h11
    · rfl
    · obtain ⟨k, rfl⟩ : ∃ k, j = k + 11 := ⟨j - 11, by omega⟩
      unfold X0 F0 arr0
      simp only [List.getElem?_toArray, List.getElem?_cons_succ]
  have hblk : ∀ a, blk 0 (F0 n own w.heap.size H.1 H.2) (fun _ => nilV) a = none := fun a => by
    unfold blk
    split
    · rfl
    · rw [hval]; rfl
  refine ⟨⟨?_, rfl, rfl, rfl, rfl, rfl, hfx, ⟨.map [], ?_, mapV_new⟩, fun a ha => ?_, fun a b g _ h1 => (by rw [hblk] at h1; cases h1), fun a g h1 => (by rw [hblk] at h1; cases h1), by omega, ?_, ⟨by omega, by omega, fun a h1 => by rw [hblk] at h1; cases h1⟩⟩, hblk⟩
  · have := World.rowIs_alloc (w.alloc (.map #[] 0)) (arr0 n own w.heap.size H.1 H.2) 69 (F0 n own w.heap.size H.1 H.2) (fun i hi => by unfold F0; rw [Array.getElem?_eq_getElem hi]; rfl)
    rw [World.size_alloc] at this
    exact this
  · exact ((World.ownsMap_made w Tryd.prog 3 hE).alloc _).mono (by omega)
  · rw [hval]
    unfold RowA
    split
    · exact World.ownsRow_nil _ _ _ _
    · split
      · exact World.ownsRow_nil _ _ _ _
      · split
        · exact World.ownsRow_nil _ _ _ _
        · split
          · exact World.ownsRow_nil _ _ _ _
          · split
            · exact .inl ⟨rfl, rfl⟩
            · split
              · exact World.ownsRow_nil _ _ _ _
              · rfl
  · exact tab_below ht (by repeat (first | exact Below.refl _ _ | assumption | refine Below.drew ?_ | refine Below.alloc ?_ (by first | exact Nat.le_refl _ | omega | (simp; done) | (simp; omega)) _ | refine Below.setCell ?_ (by first | exact Nat.le_refl _ | omega | (simp; done) | (simp; omega)) _))
theorem sets_get {zss : List (List Int)} {i : Nat} (h : i < zss.length) : (zss.map setL)[i]? = some (setL (zss[i]?.getD [])) := by
  rw [List.getElem?_map, List.getElem?_eq_getElem h]; rfl
set_option maxHeartbeats 3200000 in
set_option maxRecDepth 8000 in
theorem new_impl (n : Int) (ca : Option Addr) (len cap : Nat) (zss : List (List Int)) (H : LS) (w : World) (hr : IntRows w ca len zss) (hlen : len ≤ 700000) (hz : ∀ zs ∈ zss, ∀ z ∈ zs, z ≠ 0 ∧ z.natAbs < 41) (hH : Wf H) (hcons : ∀ l, mem H l = true → mem H (-l) = false) (ht : Tab w) :
    Calls Tryd.prog 23 #[.agg #[.int .i64 n, .slice ca len cap], .agg #[.int .u64 H.1, .int .u64 H.2]] w fun e w' => ∃ M mb F V, e = .returned (.pointer (some ⟨M, 0, none⟩)) ∧ Sol 0 M mb F V (newS n H (zss.map setL)) w' ∧ V 0 = nilV ∧ Below w.heap.size w w' ∧ w.heap.size ≤ M ∧ w.heap.size ≤ mb ∧ ∀ a g, blk 0 F V a = some g → w.heap.size ≤ g := by
  obtain ⟨H1, hH1⟩ : ∃ q, H.1 = q := ⟨_, rfl⟩
  obtain ⟨H2, hH2⟩ : ∃ q, H.2 = q := ⟨_, rfl⟩
  have hmost := hr.most
  unfold maxLen at hmost
  have hlz := hr.length
  have HLz := hid hr.length
  have HSo := hid (fun (W : World) (hb : Below w.heap.size w W) => setsOf_impl ca len cap zss W (hr.below hb) (by omega) (fun i hi z hzm => by
    have hil : i < zss.length := by rw [hlz]; exact hi
    rw [List.getElem?_eq_getElem hil] at hzm
    exact (hz _ (List.getElem_mem hil) z hzm).2))
  have HWf : Hid (∀ c ∈ zss.map setL, Wf c) := hid (fun c hc => by
    obtain ⟨zs, h1, rfl⟩ := List.mem_map.1 hc
    exact wf_set (hz zs h1))
  have HH := hid hH
  have HCo := hid hcons
  have HTb := hid ht
  have hgt : 0 < w.heap.size := World.block_lt_of_cell? _ _ (ht 0 (by decide))
  rw [hH1, hH2]
  have hw2 : ∃ w2 : World, (w.alloc (.cells #[.int .i64 n, .slice ca len cap] 29)).alloc (.cells #[.int .u64 H1, .int .u64 H2] 51) = w2 := ⟨_, rfl⟩
  obtain ⟨w2, hw2⟩ := hw2
  have hb2 : Below w.heap.size w w2 := by rw [← hw2]; exact (by repeat (first | exact Below.refl _ _ | assumption | refine Below.drew ?_ | refine Below.alloc ?_ (by first | exact Nat.le_refl _ | omega | (simp; done) | (simp; omega)) _ | refine Below.setCell ?_ (by first | exact Nat.le_refl _ | omega | (simp; done) | (simp; omega)) _))
  have hz2 : w2.heap.size = w.heap.size + 1 + 1 := by rw [← hw2]; simp
  have HB2 := hid hb2
  have HZ2 := hid hz2
  have hs0 := sol0 w2 n len H (tab_below ht (show Below w.heap.size w w2 from hb2)) (by omega)
  rw [hH1, hH2, hz2] at hs0
  have HS0 := hid hs0
  have HW2 := hid hw2
  have Hh1 := hid hH1
  have Hh2 := hid hH2
  clear hr hz hH hcons ht hw2 hb2 hz2 hs0 hlz hH1 hH2
  have hmm := @run_makeMap Tryd.prog
  go_enter Tryd.func23, Tryd.ntmps23
  go_wp2_with fail
  clear hmm
  refine (HSo.out ((((w.alloc (.cells #[.int .i64 n, .slice ca len cap] 29)).alloc (.cells #[.int .u64 H1, .int .u64 H2] 51)).alloc (.map #[] 0)).alloc (.cells (arr0 n (len : Int) (w.heap.size + 1 + 1) H1 H2) 69)) (by repeat (first | exact Below.refl _ _ | assumption | refine Below.drew ?_ | refine Below.alloc ?_ (by first | exact Nat.le_refl _ | omega | (simp; done) | (simp; omega)) _ | refine Below.setCell ?_ (by first | exact Nat.le_refl _ | omega | (simp; done) | (simp; omega)) _))).mono ?_
  rintro e w5 ⟨v, rfl, ho, hb5⟩
  obtain ⟨sa, sc, rfl, hrow⟩ := ho.form
  have hz5 := hb5.size
  simp at hz5
  rw [HW2.out] at hb5
  have HS5 : Hid (Sol 0 (w.heap.size + 1 + 1 + 1) (w.heap.size + 1 + 1) (F0 n (len : Int) (w.heap.size + 1 + 1) H1 H2) (fun _ => nilV) (s0 n H len) w5) := hid (HS0.out.1.below hb5)
  have HB5 : Hid (Below w.heap.size w w5) := hid ((show Below w.heap.size w ((w2.alloc (.map #[] 0)).alloc (.cells (arr0 n (len : Int) (w.heap.size + 1 + 1) H1 H2) 69)) from (HB2.out.alloc (by have := HZ2.out; omega) _).alloc (by have := HZ2.out; simp; omega) _).trans (hb5.mono (by have := HZ2.out; simp; omega)))
  have HN5 := hid HS0.out.2
  rw [HLz.out] at hrow
  have HRow := hid hrow
  rw [HLz.out]
  obtain ⟨sb, hsb⟩ : ∃ sb : Option Nat, (∀ i, i < len → ∃ b, sb = some b ∧ sa = some ⟨b, 0, none⟩ ∧ w.heap.size + 1 + 1 + 1 < b ∧ b < w5.heap.size) := by
    by_cases h0 : len = 0
    · exact ⟨none, fun i hi => by omega⟩
    · obtain ⟨b, e, h1, _⟩ := hrow.cell 0 (by omega)
      refine ⟨some b, fun i hi => ⟨b, rfl, e, ?_, World.block_lt_of_cell? _ _ h1⟩⟩
      have := (World.ownsRow.lt ho b (by rw [e]; rfl)).1
      simp at this
      omega
  have HSb := hid hsb
  obtain ⟨M, hM⟩ : ∃ M, w.heap.size + 1 + 1 + 1 = M := ⟨_, rfl⟩
  obtain ⟨mb, hmb⟩ : ∃ mb, w.heap.size + 1 + 1 = mb := ⟨_, rfl⟩
  have HMb : Hid (w.heap.size ≤ M ∧ w.heap.size ≤ mb ∧ M < w5.heap.size ∧ mb < M) := hid (by omega)
  rw [hM, hmb] at HS5
  rw [hM] at HSb
  rw [hmb] at HN5
  rw [hM, hmb]
  have HRk : Hid (∀ wr F V, Chg M mb (blk 0 (F0 n (len : Int) mb H1 H2) (fun _ => nilV)) (blk 0 F V) w5 wr → SetRow wr sa len zss ∧ Below w.heap.size w wr ∧ (∀ a g, blk 0 F V a = some g → w.heap.size ≤ g)) := hid (fun wr F V hc => by
    have hnone : ∀ a j, blk 0 (F0 n (len : Int) mb H1 H2) (fun _ => nilV) a ≠ some j := fun a j e => by rw [HN5.out a] at e; cases e
    obtain ⟨m1, m2, m3, m4⟩ := HMb.out
    refine ⟨⟨HRow.out.length, HRow.out.most, fun i hi => ?_⟩, ?_, fun a g hg => ?_⟩
    · obtain ⟨b, e1, e2, e3, e4⟩ := HSb.out i hi
      obtain ⟨b', e5, h1, h2⟩ := HRow.out.cell i hi
      rw [e2] at e5
      injection e5 with e5
      injection e5 with e5
      subst e5
      exact ⟨b, e2, hc.cell (by omega) (by omega) (fun a => hnone a b) h1, hc.cell (by omega) (by omega) (fun a => hnone a b) h2⟩
    · exact HB5.out.trans (hc.toBelow HB5.out.size m1 m2 (fun a g e => absurd e (hnone a g)))
    · rcases hc.news a g hg with e | e
      · exact absurd e (hnone a g)
      · have := HB5.out.size; omega)
  clear ho hb5 hrow hsb hM hmb hz5 HS0 HN5 HSo HW2 HB2 HZ2
  go_wp2_with fail
  go_loopw [21] (fun i wr => ∃ (k : Nat) (F : Nat → Value) (V : Int → Value), k ≤ len ∧ i = .int .i64 k ∧ Sol 0 M mb F V (newS n H ((zss.map setL).take k) len) wr ∧ V 0 = nilV ∧ Chg M mb (blk 0 (F0 n (len : Int) mb H1 H2) (fun _ => nilV)) (blk 0 F V) w5 wr) (fun i _ => len - (intOf i).toNat)
  case atStart => exact ⟨0, _, _, Nat.zero_le _, rfl, HS5.out, rfl, Chg.below (Below.refl _ _)⟩
  case round =>
    obtain ⟨k, F, V, hk, rfl, hS, hv, hC⟩ := hrel
    have HSk := hid hS
    have HVk := hid hv
    have HCk := hid hC
    obtain ⟨hrow, hbel, hge⟩ := HRk.out wr F V hC
    have HBk := hid hbel
    have HGe := hid hge
    clear hS hv hC hbel hge
    by_cases hlt : k < len
    · obtain ⟨b, rfl, c0, c1⟩ := hrow.cell k hlt
      have hkl : (k : Int) < (len : Int) := by omega
      have hzk : k < zss.length := by rw [HLz.out]; exact hlt
      have hget := sets_get hzk
      obtain ⟨c, hcx⟩ : ∃ c, setL (zss[k]?.getD []) = c := ⟨_, rfl⟩
      have hc0 : pSet (zss[k]?.getD []) = c.1 := by rw [← hcx]; rfl
      have hc1 : oSet (zss[k]?.getD []) = c.2 := by rw [← hcx]; rfl
      rw [hcx] at hget
      have hwc : Wf c := HWf.out c (List.mem_of_getElem? hget)
      obtain ⟨hfu, hCC, -, -, hTT, -⟩ := new_full (n := n) (H := H) (cs := (zss.map setL).take k) HH.out HCo.out (fun d hd => HWf.out d (List.mem_of_mem_take hd)) len
      have HNx : Hid (newS n H ((zss.map setL).take (k + 1)) len = addS (newS n H ((zss.map setL).take k) len) (c.1, c.2)) := hid (by
        rw [List.take_add_one, hget]
        unfold newS
        rw [List.foldl_append]
        rfl)
      obtain ⟨C1, hC1⟩ : ∃ q, c.1 = q := ⟨_, rfl⟩
      obtain ⟨C2, hC2⟩ : ∃ q, c.2 = q := ⟨_, rfl⟩
      have hwc' : Wf (C1, C2) := by rw [← hC1, ← hC2]; exact hwc
      rw [hC1, hC2] at HNx
      rw [hc0, hC1] at c0
      rw [hc1, hC2] at c1
      have HAd := hid (fun (W : World) (hb : Below wr.heap.size wr W) => add_impl M mb F V (newS n H ((zss.map setL).take k) len) W (HSk.out.below hb) HVk.out C1 C2 hwc' hfu.ok hTT (by rw [hCC]; have := List.length_take_le k (zss.map setL); omega))
      have hbw := World.block_lt_of_cell? _ _ c0
      simp only at hbw
      clear hget hcx hc0 hc1 hwc hfu hCC hTT hC1 hC2 hwc' hrow hzk
      go_wp2_with fail
      refine (HAd.out _ (by repeat (first | exact Below.refl _ _ | assumption | refine Below.drew ?_ | refine Below.alloc ?_ (by first | exact Nat.le_refl _ | omega | (simp; done) | (simp; omega)) _ | refine Below.setCell ?_ (by first | exact Nat.le_refl _ | omega | (simp; done) | (simp; omega)) _))).mono ?_
      rintro e w6 ⟨rfl, F', V', q1, qv, q2⟩
      have HQ1 := hid q1
      have HQv := hid qv
      have HQ2 := hid (HCk.out.trans ((Chg.below (show Below wr.heap.size wr _ from (by repeat (first | exact Below.refl _ _ | assumption | refine Below.drew ?_ | refine Below.alloc ?_ (by first | exact Nat.le_refl _ | omega | (simp; done) | (simp; omega)) _ | refine Below.setCell ?_ (by first | exact Nat.le_refl _ | omega | (simp; done) | (simp; omega)) _)))).trans q2))
      clear q1 qv q2
      go_wp2
      go_roundw
      case rel => exact ⟨k + 1, F', V', by omega, by go_num, by rw [HNx.out]; exact HQ1.out, HQv.out, HQ2.out⟩
      case measure => simp [intOf]; omega
    · have e : k = len := by omega
      subst e
      have HTk : Hid ((zss.map setL).take k = zss.map setL) := hid (List.take_of_length_le (by rw [List.length_map, HLz.out]; exact Nat.le_refl _))
      clear hrow
      go_wp2
      go_ret
      refine ⟨M, mb, F, V, rfl, by have := HSk.out; rw [HTk.out] at this; have e : (zss.map setL).length = k := (by rw [List.length_map, HLz.out]); unfold newS at this ⊢; rw [e]; exact this, HVk.out, HBk.out, HMb.out.1, HMb.out.2.1, HGe.out⟩
end Go.Proofs.YtbahjpheaaiamaaDoor.solNew

/- A solver of the program: it begins anew when it has gone on for long (refresh); what thin does is given. -/
namespace Go.Proofs.YtbahjpheaaiamaaDoor.solRefresh
open Go.RowKit Go.Deep Go.Maps Go base sets setsOf solSets solOps solMath solHold solMem solFail solX solTrail solPush cdX solHang
set_option linter.unusedVariables false
set_option linter.unusedSimpArgs false

/-- What refresh makes of a solver's state ahead of thin: a lesson is counted, or all choices are taken back. -/
def RfS (s s1 : Sv) (L P : Int) : Prop :=
  (s1 = { s with X := s1.X } ∧ wrap64 (L + 1) ≠ P ∧ s1.X 55 = .int .i64 (wrap64 (L + 1)) ∧ s1.X 54 = .int .i64 P ∧ ∀ j, j < 54 → s1.X j = s.X j) ∨
  (s1 = { backS s 0 with X := s1.X } ∧ wrap64 (L + 1) = P ∧ s1.X 55 = .int .i64 0 ∧ s1.X 54 = .int .i64 (wrap64 (P + P.tdiv 10)) ∧ ∀ j, j < 54 → s1.X j = s.X j)
set_option maxHeartbeats 3200000 in
theorem refresh_impl (M mb : Nat) (F : Nat → Value) (V : Int → Value) (s : Sv) (w : World) (h : Sol 0 M mb F V s w) (L P R O : Int) (h55 : s.X 55 = .int .i64 L) (h54 : s.X 54 = .int .i64 P) (h53 : s.X 53 = .int .i64 R) (h1 : s.X 1 = .int .i64 O) (hO : 0 ≤ O ∧ O ≤ s.C.length) (hP : -9223372036854775808 ≤ P ∧ P < 9223372036854775808)
    (wf : Wf s.H) (hk : 0 < s.K.length → s.K[0]?.getD 0 ≤ s.T.length) (hT : ∀ p ∈ s.T, p.1 ≠ 0 ∧ -40 ≤ p.1 ∧ p.1 ≤ 40) (hTl : s.T.length ≤ 100000) (hKl : s.K.length ≤ 100000) (Q : World → Prop)
    (HTh : ∀ (F1 : Nat → Value) (s1 : Sv) (w1 : World), Sol 0 M mb F1 V s1 w1 → Chg M mb (blk 0 F V) (blk 0 F1 V) w w1 → RfS s s1 L P → R < (s.C.length : Int) - O →
      Calls Tryd.prog 70 #[.pointer (some ⟨M, 0, none⟩)] w1 fun e w2 => e = .returned (.tuple #[]) ∧ Q w2)
    (HNo : ∀ (F1 : Nat → Value) (s1 : Sv) (w1 : World), Sol 0 M mb F1 V s1 w1 → Chg M mb (blk 0 F V) (blk 0 F1 V) w w1 → RfS s s1 L P → ¬ R < (s.C.length : Int) - O → Q w1) :
    Calls Tryd.prog 63 #[.pointer (some ⟨M, 0, none⟩)] w fun e w2 => e = .returned (.tuple #[]) ∧ Q w2 := by
  have HS := hid h
  have HT := hid HTh
  have HN := hid HNo
  have hM := h.lt.1
  have k55 := h.cell (i := 55) (by omega)
  have z55 := h.frozen 55
  rw [h.fx 55 (.inr (by omega)), h55] at k55
  have H55 := hid h55
  have H54 := hid h54
  have H53 := hid h53
  have H1 := hid h1
  have HWf := hid wf
  have HK := hid hk
  have HTT := hid hT
  clear h h55 h54 h53 h1 HTh HNo wf hk hT
  go_enter Tryd.func63, Tryd.ntmps63
  go_wp2
  obtain ⟨L1, hL1⟩ : ∃ x, wrap64 (L + 1) = x := ⟨_, rfl⟩
  rw [hL1]
  obtain ⟨h3, h4⟩ := Sol.setX HS.out (by omega) (show 11 ≤ 55 by omega) (.int .i64 L1)
  have HS1 := hid h3
  have HC1 := hid h4
  have HL1 := hid hL1
  have HX1 : Hid (updX s.X 55 (.int .i64 L1) 55 = .int .i64 L1 ∧ (∀ j, j < 55 → updX s.X 55 (.int .i64 L1) j = s.X j)) := hid ⟨by unfold updX; rw [if_pos rfl], fun j hj => by unfold updX; rw [if_neg (by omega)]⟩
  clear h3 h4 k55 z55 hL1
  generalize w.setCell ⟨M, 55, none⟩ (.int .i64 L1) = w1 at *
  generalize updX s.X 55 (.int .i64 L1) = X1 at *
  generalize updX F 55 (.int .i64 L1) = F1 at *
  have k55 := HS1.out.cell (i := 55) (by omega)
  have k54 := HS1.out.cell (i := 54) (by omega)
  rw [HS1.out.fx 55 (.inr (by omega)), show (({ s with X := X1 } : Sv)).X 55 = .int .i64 L1 from HX1.out.1] at k55
  rw [HS1.out.fx 54 (.inr (by omega)), show (({ s with X := X1 } : Sv)).X 54 = .int .i64 P from (HX1.out.2 54 (by omega)).trans H54.out] at k54
  go_region
  have z55 := HS1.out.frozen 55
  have z54 := HS1.out.frozen 54
  have hwd : Below w1.heap.size w1 w1.drew := (Below.refl _ _).drew
  have HS2 := hid (HS1.out.below hwd)
  have HC2 := hid (HC1.out.trans (Chg.below hwd))
  clear HS1 HC1 hwd k55 k54 z55 z54
  generalize w1.drew = w2 at *
  have k55 := HS2.out.cell (i := 55) (by omega)
  have k54 := HS2.out.cell (i := 54) (by omega)
  have z55 := HS2.out.frozen 55
  have z54 := HS2.out.frozen 54
  rw [HS2.out.fx 55 (.inr (by omega)), show (({ s with X := X1 } : Sv)).X 55 = .int .i64 L1 from HX1.out.1] at k55
  rw [HS2.out.fx 54 (.inr (by omega)), show (({ s with X := X1 } : Sv)).X 54 = .int .i64 P from (HX1.out.2 54 (by omega)).trans H54.out] at k54
  by_cases hLP : L1 = P
  · have HLP := hid hLP
    go_wp2
    obtain ⟨h3, h4⟩ := Sol.setX HS2.out (by omega) (show 11 ≤ 55 by omega) (.int .i64 0)
    have HS3 := hid h3
    have HC3 := hid (HC2.out.trans h4)
    have HX3 : Hid (updX X1 55 (.int .i64 0) 55 = .int .i64 0 ∧ (∀ j, j < 55 → updX X1 55 (.int .i64 0) j = s.X j)) := hid ⟨by unfold updX; rw [if_pos rfl], fun j hj => by unfold updX; rw [if_neg (by omega)]; exact HX1.out.2 j hj⟩
    clear h3 h4 k55 z55 k54 z54 HS2 HC2
    generalize w2.setCell ⟨M, 55, none⟩ (.int .i64 0) = w3 at *
    generalize updX (({ s with X := X1 } : Sv)).X 55 (.int .i64 0) = X3 at *
    generalize updX F1 55 (.int .i64 0) = F3 at *
    have k54 := HS3.out.cell (i := 54) (by omega)
    have z54 := HS3.out.frozen 54
    rw [HS3.out.fx 54 (.inr (by omega))] at k54
    replace k54 : w3.cell? ⟨M, 54, none⟩ = some (.int .i64 P) := by rw [k54]; exact congrArg some ((HX3.out.2 54 (by omega)).trans H54.out)
    go_region
    obtain ⟨P1, hP1⟩ : ∃ x, wrap64 (P + P.tdiv 10) = x := ⟨_, rfl⟩
    rw [hP1]
    have HP1 := hid hP1
    obtain ⟨h3, h4⟩ := Sol.setX HS3.out (by omega) (show 11 ≤ 54 by omega) (.int .i64 P1)
    have hwd : Below (w3.setCell ⟨M, 54, none⟩ (.int .i64 P1)).heap.size (w3.setCell ⟨M, 54, none⟩ (.int .i64 P1)) (w3.setCell ⟨M, 54, none⟩ (.int .i64 P1)).drew := (Below.refl _ _).drew
    have HS4 := hid (h3.below hwd)
    have HC4 := hid ((HC3.out.trans h4).trans (Chg.below hwd))
    have HX4 : Hid (updX X3 54 (.int .i64 P1) 55 = .int .i64 0 ∧ updX X3 54 (.int .i64 P1) 54 = .int .i64 P1 ∧ (∀ j, j < 54 → updX X3 54 (.int .i64 P1) j = s.X j)) := hid ⟨by unfold updX; rw [if_neg (by omega)]; exact HX3.out.1, by unfold updX; rw [if_pos rfl], fun j hj => by unfold updX; rw [if_neg (by omega)]; exact HX3.out.2 j (by omega)⟩
    clear h3 h4 hwd k54 z54 HS3 HC3 hP1
    generalize (w3.setCell ⟨M, 54, none⟩ (.int .i64 P1)).drew = w4 at *
    generalize updX X3 54 (.int .i64 P1) = X4 at *
    generalize updX F3 54 (.int .i64 P1) = F4 at *
    go_wp2_with fail
    refine (solBackI.back_impl M mb F4 V { s with X := X4 } w4 HS4.out HWf.out 0 (Nat.zero_le _) HK.out HTT.out hTl hKl).mono ?_
    rintro e w5 ⟨rfl, F5, hs5, hch5, hf5⟩
    obtain ⟨sx, hsx⟩ : ∃ sx : Sv, backS ({ s with X := X4 } : Sv) 0 = sx := ⟨_, rfl⟩
    have hxx : sx = { backS s 0 with X := sx.X } ∧ sx.X = X4 := by rw [← hsx]; unfold backS; dsimp only; split <;> exact ⟨rfl, rfl⟩
    have HRf : Hid (RfS s sx L P) := hid (.inr ⟨hxx.1, by rw [HL1.out]; exact HLP.out, by rw [hxx.2]; exact HX4.out.1, by rw [hxx.2, HP1.out]; exact HX4.out.2.1, fun j hj => by rw [hxx.2]; exact HX4.out.2.2 j hj⟩)
    have HCl : Hid (sx.C.length = s.C.length) := hid (by rw [hxx.1]; unfold backS; split <;> rfl)
    have HXx : Hid (∀ j, j < 54 → sx.X j = s.X j) := hid (fun j hj => by rw [hxx.2]; exact HX4.out.2.2 j hj)
    rw [hsx] at hs5
    have HSt := hid hs5
    have HCt := hid (HC4.out.trans hch5)
    clear hsx hs5 hch5 hf5 hxx HS4 HC4
    go_wp2
    have hr2 : w5.ownsRow 0 51 2 (F5 2) sx.C.length (flatC sx.C) := HSt.out.rows 1001 (by omega)
    obtain ⟨ca, cc, hc2⟩ := own_formH hr2
    rw [hc2] at hr2
    obtain ⟨f1, f2⟩ := solBackI.row_fits hr2
    have k2 := HSt.out.cell (i := 2) (by omega)
    have k1 := HSt.out.cell (i := 1) (by omega)
    have k53 := HSt.out.cell (i := 53) (by omega)
    rw [hc2, HCl.out] at k2
    rw [HSt.out.fx 1 (.inl rfl), (HXx.out 1 (by omega)).trans H1.out] at k1
    rw [HSt.out.fx 53 (.inr (by omega)), (HXx.out 53 (by omega)).trans H53.out] at k53
    obtain ⟨cl, hcl⟩ : ∃ cl, s.C.length = cl := ⟨_, rfl⟩
    rw [HCl.out, hcl] at f1
    unfold maxLen at f2
    have hcm : cl ≤ 9223372036854775807 := by omega
    rw [hcl] at k2 hO HT HN
    clear hc2 hr2
    go_region
    have hwd : Below w5.heap.size w5 w5.drew := (Below.refl _ _).drew
    have HS9 := hid (HSt.out.below hwd)
    have HC9 := hid (HCt.out.trans (Chg.below hwd))
    clear hwd k2 k1 k53
    generalize w5.drew = w9 at *
    by_cases hr : R < (cl : Int) - O
    · have HQ := hid (HT.out F5 sx w9 HS9.out HC9.out HRf.out (by omega))
      go_wp2_with fail
      refine HQ.out.mono ?_
      rintro e w5 ⟨rfl, hq⟩
      have HQ5 := hid hq
      clear hq
      go_wp2
      exact ⟨rfl, .tuple #[], by simp [results, Tryd.results63, go_sem], rfl, HQ5.out⟩
    · have HQ := hid (HN.out F5 sx w9 HS9.out HC9.out HRf.out (by omega))
      go_wp2
      exact ⟨rfl, .tuple #[], by simp [results, Tryd.results63, go_sem], rfl, HQ.out⟩
  · have HRf : Hid (RfS s { s with X := X1 } L P) := hid (.inl ⟨rfl, by rw [HL1.out]; exact hLP, by rw [HL1.out]; exact HX1.out.1, (HX1.out.2 54 (by omega)).trans H54.out, fun j hj => HX1.out.2 j (by omega)⟩)
    go_wp2
    clear k55 k54 z55 z54
    obtain ⟨sx, hsx⟩ : ∃ sx : Sv, ({ s with X := X1 } : Sv) = sx := ⟨_, rfl⟩
    have HCl : Hid (sx.C.length = s.C.length) := hid (by rw [← hsx])
    have HXx : Hid (∀ j, j < 54 → sx.X j = s.X j) := hid (fun j hj => by rw [← hsx]; exact HX1.out.2 j (by omega))
    rw [hsx] at HS2 HRf
    have HSt := HS2
    have HCt := HC2
    clear hsx HS2 HC2
    have hr2 : w2.ownsRow 0 51 2 (F1 2) sx.C.length (flatC sx.C) := HSt.out.rows 1001 (by omega)
    obtain ⟨ca, cc, hc2⟩ := own_formH hr2
    rw [hc2] at hr2
    obtain ⟨f1, f2⟩ := solBackI.row_fits hr2
    have k2 := HSt.out.cell (i := 2) (by omega)
    have k1 := HSt.out.cell (i := 1) (by omega)
    have k53 := HSt.out.cell (i := 53) (by omega)
    rw [hc2, HCl.out] at k2
    rw [HSt.out.fx 1 (.inl rfl), (HXx.out 1 (by omega)).trans H1.out] at k1
    rw [HSt.out.fx 53 (.inr (by omega)), (HXx.out 53 (by omega)).trans H53.out] at k53
    obtain ⟨cl, hcl⟩ : ∃ cl, s.C.length = cl := ⟨_, rfl⟩
    rw [HCl.out, hcl] at f1
    unfold maxLen at f2
    have hcm : cl ≤ 9223372036854775807 := by omega
    rw [hcl] at k2 hO HT HN
    clear hc2 hr2
    go_region
    have hwd : Below w2.heap.size w2 w2.drew := (Below.refl _ _).drew
    have HS9 := hid (HSt.out.below hwd)
    have HC9 := hid (HCt.out.trans (Chg.below hwd))
    clear hwd k2 k1 k53
    generalize w2.drew = w9 at *
    by_cases hr : R < (cl : Int) - O
    · have HQ := hid (HT.out F1 sx w9 HS9.out HC9.out HRf.out (by omega))
      go_wp2_with fail
      refine HQ.out.mono ?_
      rintro e w5 ⟨rfl, hq⟩
      have HQ5 := hid hq
      clear hq
      go_wp2
      exact ⟨rfl, .tuple #[], by simp [results, Tryd.results63, go_sem], rfl, HQ5.out⟩
    · have HQ := hid (HN.out F1 sx w9 HS9.out HC9.out HRf.out (by omega))
      go_wp2
      exact ⟨rfl, .tuple #[], by simp [results, Tryd.results63, go_sem], rfl, HQ.out⟩
end Go.Proofs.YtbahjpheaaiamaaDoor.solRefresh

/- The credit of a search over few variables: it never begins anew, for fewer lessons come than patience and room allow; of no program. -/
namespace Go.Proofs.YtbahjpheaaiamaaDoor.cdSmall
open Go.RowKit Go.Deep Go.Shelf Go base sets setsOf solSets solOps solMath solHold solProp solTrail cdVal cdState cdLes cdLearn cdSolve cdX solSolve
set_option linter.unusedVariables false

theorem prop_again {s : Sv} (h : Full s) : propF (meas (propF (meas s + 1) s) + 1) (propF (meas s + 1) s) = propF (meas s + 1) s := by
  rcases (propF_done (meas s + 1) s h (Nat.lt_succ_self _)).2.1 with e | e
  · exact propF_end (.inl e)
  · exact propF_end (.inr e)
end Go.Proofs.YtbahjpheaaiamaaDoor.cdSmall
