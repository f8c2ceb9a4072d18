/- SolAddI; SolNew: one text, so that the claim has fewer files. -/
import Derived.Test.YtbahjpheaaiamaaDoorSolAddT
/- A solver of the program: a clause is put behind the others, while nothing has become true yet (add); conditions: literals of its variables, lengths that fit. -/
namespace Go.Proofs.YtbahjpheaaiamaaDoor.solAddI
open Go.RowKit Go.Deep Go.Maps Go base sets setsOf solSets solOps solMath solHold solAdd solMem solClose solTrail solLastT solAddM
set_option linter.unusedVariables false

theorem add_impl (M mb : Nat) (F : Nat → Value) (V : Int → Value) (s : Sv) (w : World) (h : Sol 0 M mb F V s w) (hv0 : V 0 = nilV) (C1 C2 : Nat) (hc : Wf (C1, C2)) (ok : Okay s) (hT : s.T = []) (hlen : s.C.length ≤ 8000000000000) :
    Calls Tryd.prog 39 #[.pointer (some ⟨M, 0, none⟩), .agg #[.int .u64 C1, .int .u64 C2]] w fun e w' => e = .returned (.tuple #[]) ∧ ∃ F' V', Sol 0 M mb F' V' (addS s (C1, C2)) w' ∧ V' 0 = nilV ∧ Chg M mb (blk 0 F V) (blk 0 F' V') w w' := by
  rw [← addT_nil hT]
  exact addT_impl M mb F V s w h hv0 C1 C2 hc ok ⟨fun p hp => (by rw [hT] at hp; cases hp), fun p hp => (by rw [hT] at hp; cases hp), by rw [hT]; simp⟩ hlen
end Go.Proofs.YtbahjpheaaiamaaDoor.solAddI

/- A solver of the program is made of a formula's clauses (newSolver); conditions: a right formula, given literals of which none is another's opposite. -/
namespace Go.Proofs.YtbahjpheaaiamaaDoor.solNew
open Go.RowKit Go.Deep Go.Maps Go base sets setsOf solSets solOps solMath solHold solAdd solMem solFail solDue solExpect solPush solLoop solMove solHoldI solAddI
set_option linter.unusedVariables false
set_option linter.unusedSimpArgs false

def arr0 (n : Int) (own : Int) (mb : Nat) (H1 H2 : Nat) : Array Value := #[.int .i64 n, .int .i64 own, .slice none 0 0, .slice none 0 0, .map (some mb), .int .u64 H1, .int .u64 H2, .slice none 0 0, .slice none 0 0, .slice none 0 0, .int .i64 (-1),
  .int .i64 0, .int .i64 0, .int .i64 0, .int .i64 0, .int .i64 0, .int .i64 0, .int .i64 0, .int .i64 0, .int .i64 0, .int .i64 0, .int .i64 0, .int .i64 0, .int .i64 0, .int .i64 0, .int .i64 0, .int .i64 0, .int .i64 0, .int .i64 0, .int .i64 0, .int .i64 0, .int .i64 0, .int .i64 0, .int .i64 0, .int .i64 0, .int .i64 0, .int .i64 0, .int .i64 0, .int .i64 0, .int .i64 0, .int .i64 0, .int .i64 0, .int .i64 0, .int .i64 0, .int .i64 0, .int .i64 0, .int .i64 0, .int .i64 0, .int .i64 0, .int .i64 0, .int .i64 0, .int .i64 0,
  .int .i64 1024, .int .i64 1000, .int .i64 100, .int .i64 0]
def F0 (n : Int) (own : Int) (mb : Nat) (H1 H2 : Nat) (i : Nat) : Value := (arr0 n own mb H1 H2)[i]?.getD undef
/-- The cells that propagation does not touch, as they are at first. -/
def X0 (own : Nat) (j : Nat) : Value := F0 0 own 0 0 0 j
def s0 (n : Int) (H : LS) (own : Nat := 0) : Sv := { n := n, C := [], W := [], L := fun _ => [], H := H, T := [], K := [], D := [], F := -1, X := X0 own }
def newS (n : Int) (H : LS) (cs : List LS) (own : Nat := cs.length) : Sv := cs.foldl addS (s0 n H own)
theorem full0 {n : Int} {H : LS} {own : Nat} (hH : Wf H) (hc : ∀ l, mem H l = true → mem H (-l) = false) : Full (s0 n H own) := by
  have hw : ∀ i, (s0 n H own).wt i = (0, 0) := fun i => rfl
  have hcl : ∀ i, (s0 n H own).cl i = (0, 0) := fun i => rfl
  exact ⟨⟨hH, hc, fun i => by rw [hcl]; exact wf_zero, rfl, fun i hi => absurd rfl hi, fun i hi => absurd rfl hi, fun x _ => List.nodup_nil, fun x i hx => (by rw [hw]; exact ⟨fun h => (by cases h), fun h => (by rcases h with h | h <;> exact absurd h.symm hx)⟩), List.Pairwise.nil, fun i hi => (by cases hi), fun i hi => (by cases hi), .inl rfl⟩, fun i hi => absurd hi (Nat.not_lt_zero _)⟩
theorem add_same (s : Sv) (c : LS) : (addS s c).C = s.C ++ [c] ∧ (addS s c).n = s.n ∧ (addS s c).H = s.H ∧ (addS s c).T = s.T ∧ (addS s c).K = s.K := by
  unfold addS
  split
  · exact ⟨rfl, rfl, rfl, rfl, rfl⟩
  · split
    · unfold solAdd.watS; rw [if_pos rfl]; exact ⟨rfl, rfl, rfl, rfl, rfl⟩
    · unfold solAdd.watS; split <;> exact ⟨rfl, rfl, rfl, rfl, rfl⟩
theorem fold_full : ∀ (cs : List LS) (s : Sv), Full s → (∀ c ∈ cs, Wf c) → Full (cs.foldl addS s) ∧ (cs.foldl addS s).C = s.C ++ cs ∧ (cs.foldl addS s).n = s.n ∧ (cs.foldl addS s).H = s.H ∧ (cs.foldl addS s).T = s.T ∧ (cs.foldl addS s).K = s.K
  | [], s, h, _ => ⟨h, by simp, rfl, rfl, rfl, rfl⟩
  | c :: cs, s, h, hw => by
    obtain ⟨e1, e2, e3, e4, e5⟩ := add_same s c
    obtain ⟨f1, f2, f3, f4, f5, f6⟩ := fold_full cs (addS s c) (add_full h (hw c (by simp))) (fun d hd => hw d (by simp [hd]))
    exact ⟨f1, by rw [List.foldl_cons, f2, e1]; simp, f3.trans e2, f4.trans e3, f5.trans e4, f6.trans e5⟩
theorem new_full {n : Int} {H : LS} {cs : List LS} (hH : Wf H) (hc : ∀ l, mem H l = true → mem H (-l) = false) (hw : ∀ c ∈ cs, Wf c) (own : Nat := cs.length) : Full (newS n H cs own) ∧ (newS n H cs own).C = cs ∧ (newS n H cs own).n = n ∧ (newS n H cs own).H = H ∧ (newS n H cs own).T = [] ∧ (newS n H cs own).K = [] := by
  have := fold_full cs (s0 n H own) (full0 hH hc) hw
  exact ⟨this.1, this.2.1, this.2.2.1, this.2.2.2.1, this.2.2.2.2.1, this.2.2.2.2.2⟩
theorem sol0 (w : World) (n : Int) (own : Nat) (H : LS) (ht : Tab w) (hg : 0 < w.heap.size) :
    Sol 0 (w.heap.size + 1) w.heap.size (F0 n own w.heap.size H.1 H.2) (fun _ => nilV) (s0 n H own) ((w.alloc (.map #[] 0)).alloc (.cells (arr0 n own w.heap.size H.1 H.2) 69)) ∧ ∀ a, blk 0 (F0 n own w.heap.size H.1 H.2) (fun _ => nilV) a = none := by
  have hval : ∀ a, valA (F0 n own w.heap.size H.1 H.2) (fun _ => nilV) a = nilV := fun a => by
    unfold valA
    repeat (first | rfl | split)
  have hfx : ∀ j, (j = 1 ∨ 11 ≤ j) → F0 n own w.heap.size H.1 H.2 j = X0 own j := fun j hj => by
    rcases hj with rfl | h11
    · rfl
    · obtain ⟨k, rfl⟩ : ∃ k, j = k + 11 := ⟨j - 11, by omega⟩
      unfold X0 F0 arr0
      simp only [List.getElem?_toArray, List.getElem?_cons_succ]
  have hblk : ∀ a, blk 0 (F0 n own w.heap.size H.1 H.2) (fun _ => nilV) a = none := fun a => by
    unfold blk
    split
    · rfl
    · rw [hval]; rfl
  refine ⟨⟨?_, rfl, rfl, rfl, rfl, rfl, hfx, ⟨.map [], ?_, mapV_new⟩, fun a ha => ?_, fun a b g _ h1 => (by rw [hblk] at h1; cases h1), fun a g h1 => (by rw [hblk] at h1; cases h1), by omega, ?_, ⟨by omega, by omega, fun a h1 => by rw [hblk] at h1; cases h1⟩⟩, hblk⟩
  · have := World.rowIs_alloc (w.alloc (.map #[] 0)) (arr0 n own w.heap.size H.1 H.2) 69 (F0 n own w.heap.size H.1 H.2) (fun i hi => by unfold F0; rw [Array.getElem?_eq_getElem hi]; rfl)
    rw [World.size_alloc] at this
    exact this
  · exact ((World.ownsMap_made w Tryd.prog 3 hE).alloc _).mono (by omega)
  · rw [hval]
    unfold RowA
    split
    · exact World.ownsRow_nil _ _ _ _
    · split
      · exact World.ownsRow_nil _ _ _ _
      · split
        · exact World.ownsRow_nil _ _ _ _
        · split
          · exact World.ownsRow_nil _ _ _ _
          · split
            · exact .inl ⟨rfl, rfl⟩
            · split
              · exact World.ownsRow_nil _ _ _ _
              · rfl
  · exact tab_below ht (by repeat (first | exact Below.refl _ _ | assumption | refine Below.drew ?_ | refine Below.alloc ?_ (by first | exact Nat.le_refl _ | omega | (simp; done) | (simp; omega)) _ | refine Below.setCell ?_ (by first | exact Nat.le_refl _ | omega | (simp; done) | (simp; omega)) _))
theorem sets_get {zss : List (List Int)} {i : Nat} (h : i < zss.length) : (zss.map setL)[i]? = some (setL (zss[i]?.getD [])) := by
  rw [List.getElem?_map, List.getElem?_eq_getElem h]; rfl
set_option maxHeartbeats 3200000 in
set_option maxRecDepth 8000 in
theorem new_impl (n : Int) (ca : Option Addr) (len cap : Nat) (zss : List (List Int)) (H : LS) (w : World) (hr : IntRows w ca len zss) (hlen : len ≤ 700000) (hz : ∀ zs ∈ zss, ∀ z ∈ zs, z ≠ 0 ∧ z.natAbs < 41) (hH : Wf H) (hcons : ∀ l, mem H l = true → mem H (-l) = false) (ht : Tab w) :
    Calls Tryd.prog 23 #[.agg #[.int .i64 n, .slice ca len cap], .agg #[.int .u64 H.1, .int .u64 H.2]] w fun e w' => ∃ M mb F V, e = .returned (.pointer (some ⟨M, 0, none⟩)) ∧ Sol 0 M mb F V (newS n H (zss.map setL)) w' ∧ V 0 = nilV ∧ Below w.heap.size w w' ∧ w.heap.size ≤ M ∧ w.heap.size ≤ mb ∧ ∀ a g, blk 0 F V a = some g → w.heap.size ≤ g := by
  obtain ⟨H1, hH1⟩ : ∃ q, H.1 = q := ⟨_, rfl⟩
  obtain ⟨H2, hH2⟩ : ∃ q, H.2 = q := ⟨_, rfl⟩
  have hmost := hr.most
  unfold maxLen at hmost
  have hlz := hr.length
  have HLz := hid hr.length
  have HSo := hid (fun (W : World) (hb : Below w.heap.size w W) => setsOf_impl ca len cap zss W (hr.below hb) (by omega) (fun i hi z hzm => by
    have hil : i < zss.length := by rw [hlz]; exact hi
    rw [List.getElem?_eq_getElem hil] at hzm
    exact (hz _ (List.getElem_mem hil) z hzm).2))
  have HWf : Hid (∀ c ∈ zss.map setL, Wf c) := hid (fun c hc => by
    obtain ⟨zs, h1, rfl⟩ := List.mem_map.1 hc
    exact wf_set (hz zs h1))
  have HH := hid hH
  have HCo := hid hcons
  have HTb := hid ht
  have hgt : 0 < w.heap.size := World.block_lt_of_cell? _ _ (ht 0 (by decide))
  rw [hH1, hH2]
  have hw2 : ∃ w2 : World, (w.alloc (.cells #[.int .i64 n, .slice ca len cap] 29)).alloc (.cells #[.int .u64 H1, .int .u64 H2] 51) = w2 := ⟨_, rfl⟩
  obtain ⟨w2, hw2⟩ := hw2
  have hb2 : Below w.heap.size w w2 := by rw [← hw2]; exact (by repeat (first | exact Below.refl _ _ | assumption | refine Below.drew ?_ | refine Below.alloc ?_ (by first | exact Nat.le_refl _ | omega | (simp; done) | (simp; omega)) _ | refine Below.setCell ?_ (by first | exact Nat.le_refl _ | omega | (simp; done) | (simp; omega)) _))
  have hz2 : w2.heap.size = w.heap.size + 1 + 1 := by rw [← hw2]; simp
  have HB2 := hid hb2
  have HZ2 := hid hz2
  have hs0 := sol0 w2 n len H (tab_below ht (show Below w.heap.size w w2 from hb2)) (by omega)
  rw [hH1, hH2, hz2] at hs0
  have HS0 := hid hs0
  have HW2 := hid hw2
  have Hh1 := hid hH1
  have Hh2 := hid hH2
  clear hr hz hH hcons ht hw2 hb2 hz2 hs0 hlz hH1 hH2
  have hmm := @run_makeMap Tryd.prog
  go_enter Tryd.func23, Tryd.ntmps23
  go_wp2_with fail
  clear hmm
  refine (HSo.out ((((w.alloc (.cells #[.int .i64 n, .slice ca len cap] 29)).alloc (.cells #[.int .u64 H1, .int .u64 H2] 51)).alloc (.map #[] 0)).alloc (.cells (arr0 n (len : Int) (w.heap.size + 1 + 1) H1 H2) 69)) (by repeat (first | exact Below.refl _ _ | assumption | refine Below.drew ?_ | refine Below.alloc ?_ (by first | exact Nat.le_refl _ | omega | (simp; done) | (simp; omega)) _ | refine Below.setCell ?_ (by first | exact Nat.le_refl _ | omega | (simp; done) | (simp; omega)) _))).mono ?_
  rintro e w5 ⟨v, rfl, ho, hb5⟩
  obtain ⟨sa, sc, rfl, hrow⟩ := ho.form
  have hz5 := hb5.size
  simp at hz5
  rw [HW2.out] at hb5
  have HS5 : Hid (Sol 0 (w.heap.size + 1 + 1 + 1) (w.heap.size + 1 + 1) (F0 n (len : Int) (w.heap.size + 1 + 1) H1 H2) (fun _ => nilV) (s0 n H len) w5) := hid (HS0.out.1.below hb5)
  have HB5 : Hid (Below w.heap.size w w5) := hid ((show Below w.heap.size w ((w2.alloc (.map #[] 0)).alloc (.cells (arr0 n (len : Int) (w.heap.size + 1 + 1) H1 H2) 69)) from (HB2.out.alloc (by have := HZ2.out; omega) _).alloc (by have := HZ2.out; simp; omega) _).trans (hb5.mono (by have := HZ2.out; simp; omega)))
  have HN5 := hid HS0.out.2
  rw [HLz.out] at hrow
  have HRow := hid hrow
  rw [HLz.out]
  obtain ⟨sb, hsb⟩ : ∃ sb : Option Nat, (∀ i, i < len → ∃ b, sb = some b ∧ sa = some ⟨b, 0, none⟩ ∧ w.heap.size + 1 + 1 + 1 < b ∧ b < w5.heap.size) := by
    by_cases h0 : len = 0
    · exact ⟨none, fun i hi => by omega⟩
    · obtain ⟨b, e, h1, _⟩ := hrow.cell 0 (by omega)
      refine ⟨some b, fun i hi => ⟨b, rfl, e, ?_, World.block_lt_of_cell? _ _ h1⟩⟩
      have := (World.ownsRow.lt ho b (by rw [e]; rfl)).1
      simp at this
      omega
  have HSb := hid hsb
  obtain ⟨M, hM⟩ : ∃ M, w.heap.size + 1 + 1 + 1 = M := ⟨_, rfl⟩
  obtain ⟨mb, hmb⟩ : ∃ mb, w.heap.size + 1 + 1 = mb := ⟨_, rfl⟩
  have HMb : Hid (w.heap.size ≤ M ∧ w.heap.size ≤ mb ∧ M < w5.heap.size ∧ mb < M) := hid (by omega)
  rw [hM, hmb] at HS5
  rw [hM] at HSb
  rw [hmb] at HN5
  rw [hM, hmb]
  have HRk : Hid (∀ wr F V, Chg M mb (blk 0 (F0 n (len : Int) mb H1 H2) (fun _ => nilV)) (blk 0 F V) w5 wr → SetRow wr sa len zss ∧ Below w.heap.size w wr ∧ (∀ a g, blk 0 F V a = some g → w.heap.size ≤ g)) := hid (fun wr F V hc => by
    have hnone : ∀ a j, blk 0 (F0 n (len : Int) mb H1 H2) (fun _ => nilV) a ≠ some j := fun a j e => by rw [HN5.out a] at e; cases e
    obtain ⟨m1, m2, m3, m4⟩ := HMb.out
    refine ⟨⟨HRow.out.length, HRow.out.most, fun i hi => ?_⟩, ?_, fun a g hg => ?_⟩
    · obtain ⟨b, e1, e2, e3, e4⟩ := HSb.out i hi
      obtain ⟨b', e5, h1, h2⟩ := HRow.out.cell i hi
      rw [e2] at e5
      injection e5 with e5
      injection e5 with e5
      subst e5
      exact ⟨b, e2, hc.cell (by omega) (by omega) (fun a => hnone a b) h1, hc.cell (by omega) (by omega) (fun a => hnone a b) h2⟩
    · exact HB5.out.trans (hc.toBelow HB5.out.size m1 m2 (fun a g e => absurd e (hnone a g)))
    · rcases hc.news a g hg with e | e
      · exact absurd e (hnone a g)
      · have := HB5.out.size; omega)
  clear ho hb5 hrow hsb hM hmb hz5 HS0 HN5 HSo HW2 HB2 HZ2
  go_wp2_with fail
  go_loopw [21] (fun i wr => ∃ (k : Nat) (F : Nat → Value) (V : Int → Value), k ≤ len ∧ i = .int .i64 k ∧ Sol 0 M mb F V (newS n H ((zss.map setL).take k) len) wr ∧ V 0 = nilV ∧ Chg M mb (blk 0 (F0 n (len : Int) mb H1 H2) (fun _ => nilV)) (blk 0 F V) w5 wr) (fun i _ => len - (intOf i).toNat)
  case atStart => exact ⟨0, _, _, Nat.zero_le _, rfl, HS5.out, rfl, Chg.below (Below.refl _ _)⟩
  case round =>
    obtain ⟨k, F, V, hk, rfl, hS, hv, hC⟩ := hrel
    have HSk := hid hS
    have HVk := hid hv
    have HCk := hid hC
    obtain ⟨hrow, hbel, hge⟩ := HRk.out wr F V hC
    have HBk := hid hbel
    have HGe := hid hge
    clear hS hv hC hbel hge
    by_cases hlt : k < len
    · obtain ⟨b, rfl, c0, c1⟩ := hrow.cell k hlt
      have hkl : (k : Int) < (len : Int) := by omega
      have hzk : k < zss.length := by rw [HLz.out]; exact hlt
      have hget := sets_get hzk
      obtain ⟨c, hcx⟩ : ∃ c, setL (zss[k]?.getD []) = c := ⟨_, rfl⟩
      have hc0 : pSet (zss[k]?.getD []) = c.1 := by rw [← hcx]; rfl
      have hc1 : oSet (zss[k]?.getD []) = c.2 := by rw [← hcx]; rfl
      rw [hcx] at hget
      have hwc : Wf c := HWf.out c (List.mem_of_getElem? hget)
      obtain ⟨hfu, hCC, -, -, hTT, -⟩ := new_full (n := n) (H := H) (cs := (zss.map setL).take k) HH.out HCo.out (fun d hd => HWf.out d (List.mem_of_mem_take hd)) len
      have HNx : Hid (newS n H ((zss.map setL).take (k + 1)) len = addS (newS n H ((zss.map setL).take k) len) (c.1, c.2)) := hid (by
        rw [List.take_add_one, hget]
        unfold newS
        rw [List.foldl_append]
        rfl)
      obtain ⟨C1, hC1⟩ : ∃ q, c.1 = q := ⟨_, rfl⟩
      obtain ⟨C2, hC2⟩ : ∃ q, c.2 = q := ⟨_, rfl⟩
      have hwc' : Wf (C1, C2) := by rw [← hC1, ← hC2]; exact hwc
      rw [hC1, hC2] at HNx
      rw [hc0, hC1] at c0
      rw [hc1, hC2] at c1
      have HAd := hid (fun (W : World) (hb : Below wr.heap.size wr W) => add_impl M mb F V (newS n H ((zss.map setL).take k) len) W (HSk.out.below hb) HVk.out C1 C2 hwc' hfu.ok hTT (by rw [hCC]; have := List.length_take_le k (zss.map setL); omega))
      have hbw := World.block_lt_of_cell? _ _ c0
      simp only at hbw
      clear hget hcx hc0 hc1 hwc hfu hCC hTT hC1 hC2 hwc' hrow hzk
      go_wp2_with fail
      refine (HAd.out _ (by repeat (first | exact Below.refl _ _ | assumption | refine Below.drew ?_ | refine Below.alloc ?_ (by first | exact Nat.le_refl _ | omega | (simp; done) | (simp; omega)) _ | refine Below.setCell ?_ (by first | exact Nat.le_refl _ | omega | (simp; done) | (simp; omega)) _))).mono ?_
      rintro e w6 ⟨rfl, F', V', q1, qv, q2⟩
      have HQ1 := hid q1
      have HQv := hid qv
      have HQ2 := hid (HCk.out.trans ((Chg.below (show Below wr.heap.size wr _ from (by repeat (first | exact Below.refl _ _ | assumption | refine Below.drew ?_ | refine Below.alloc ?_ (by first | exact Nat.le_refl _ | omega | (simp; done) | (simp; omega)) _ | refine Below.setCell ?_ (by first | exact Nat.le_refl _ | omega | (simp; done) | (simp; omega)) _)))).trans q2))
      clear q1 qv q2
      go_wp2
      go_roundw
      case rel => exact ⟨k + 1, F', V', by omega, by go_num, by rw [HNx.out]; exact HQ1.out, HQv.out, HQ2.out⟩
      case measure => simp [intOf]; omega
    · have e : k = len := by omega
      subst e
      have HTk : Hid ((zss.map setL).take k = zss.map setL) := hid (List.take_of_length_le (by rw [List.length_map, HLz.out]; exact Nat.le_refl _))
      clear hrow
      go_wp2
      go_ret
      refine ⟨M, mb, F, V, rfl, by have := HSk.out; rw [HTk.out] at this; have e : (zss.map setL).length = k := (by rw [List.length_map, HLz.out]); unfold newS at this ⊢; rw [e]; exact this, HVk.out, HBk.out, HMb.out.1, HMb.out.2.1, HGe.out⟩
end Go.Proofs.YtbahjpheaaiamaaDoor.solNew
