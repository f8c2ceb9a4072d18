/- The program's literals in order, each once, in memory of their own: sorted by the library, repeats struck by the library; conditions: literals of at most 40 variables, lengths that fit. -/
import Derived.Test.YtiiigdcfnnjkcaaConcat
import Derived.Test.YtiiigdcfnnjkcaaCompare
import Derived.Test.YtiiigdcfnnjkcaaShelf
import Derived.Lib.RowBridge
import Derived.Lib.SortBridge
namespace Go.Proofs.Ytiiigdcfnnjkcaa.inOrder
open Go.RowKit Go.Deep Go.Shelf Go.Lib Go.Sort base copy own order sorted concat compare

/-- A literal of at most 40 variables. -/
abbrev Lit := { z : Int // -40 ≤ z ∧ z ≤ 40 }
def encL (x : Lit) : Value := .int .i64 x.1
def cfL (x y : Lit) : Int := sgn (rk x.1) (rk y.1)
theorem ltL (x y : Lit) : ltOf cfL x y = decide (rk x.1 < rk y.1) := by
  unfold ltOf cfL sgn
  by_cases h1 : rk x.1 < rk y.1
  · simp [h1]
  · by_cases h2 : rk y.1 < rk x.1 <;> simp [h1, h2]
theorem swoL : SWO (ltOf cfL) where
  irrefl x := by rw [ltL]; simp
  trans x y z h1 h2 := by rw [ltL] at *; simp at *; omega
  ntrans x y z h1 h2 := by rw [ltL] at *; simp at *; omega
theorem totL (x y : Lit) (h1 : ltOf cfL x y = false) (h2 : ltOf cfL y x = false) : x = y := by
  rw [ltL] at *
  simp at h1 h2
  exact Subtype.ext (rk_inj (by omega))
def lits (zs : List Int) (h : ∀ z ∈ zs, -40 ≤ z ∧ z ≤ 40) : List Lit := zs.attach.map (fun z => ⟨z.1, h z.1 z.2⟩)
theorem lits_val (zs : List Int) (h : ∀ z ∈ zs, -40 ≤ z ∧ z ≤ 40) : (lits zs h).map Subtype.val = zs := by
  unfold lits
  rw [List.map_map]
  simp [Function.comp_def]
theorem lits_enc (ls : List Lit) : ls.map encL = (ls.map Subtype.val).map (Value.int .i64) := by
  rw [List.map_map]; rfl
theorem lits_sorted (zs : List Int) (h : ∀ z ∈ zs, -40 ≤ z ∧ z ≤ 40) : ((lits zs h).mergeSort fun x y => !(ltOf cfL) y x).map Subtype.val = zs.mergeSort rkLe := by
  have := List.map_mergeSort (r := fun x y : Lit => !(ltOf cfL) y x) (s := rkLe) (f := Subtype.val) (l := lits zs h) (fun a _ b _ => by
    rw [ltL]
    unfold rkLe
    rw [Bool.eq_iff_iff]
    simp)
  rw [this, lits_val]

/-- A row of the call's own, written over: its cells hold what was laid; below it nothing has turned. -/
theorem own_put {α : Type} [Inhabited α] {enc : α → Value} {B g n cap q : Nat} {t : TypeId} {w : World} {xs : List Value} {d : Array α} {os : Array Obj} (h : w.ownsRow B t 1 (.slice (some ⟨g, 0, none⟩) n cap) n xs) (hd : d.size = n) :
    (grow (putRow enc (Sort.ahead w q) g 0 d) os).ownsRow B t 1 (.slice (some ⟨g, 0, none⟩) n cap) n (d.toList.map enc) ∧ Below g w (grow (putRow enc (Sort.ahead w q) g 0 d) os) := by
  obtain ⟨h1, h2⟩ := h
  rcases h2 with ⟨e, _⟩ | ⟨g', cap', cur, e, hg, hh, hn, hm, hs, ht⟩
  · cases e
  · cases e
    have hlt : g < w.heap.size := (Array.getElem?_eq_some_iff.1 hh).1
    have hb : (grow (putRow enc (Sort.ahead w q) g 0 d) os).heap[g]? = some (.cells (putCells enc 0 d cur) t (0, 0)) := by
      show (_ ++ os)[g]? = _
      rw [Array.getElem?_append_left (by simp [putRow, mapBlock]; exact hlt)]
      show ((w.heap).modify g (onCells (putCells enc 0 d)))[g]? = _
      rw [Array.getElem?_modify, if_pos rfl, hh]
      rfl
    refine ⟨⟨by simp [hd], .inr ⟨g, cap, _, rfl, hg, hb, hn, hm, by unfold putCells; simpa using hs, ?_⟩⟩, ⟨rfl, rfl, rfl, ?_, ?_⟩⟩
    · apply List.ext_getElem
      · simp [putCells]; omega
      · intro i h1 h2
        have hi : i < d.size := by simpa using h2
        simp [putCells, hi, getElem!_pos]
    · show _ ≤ (_ ++ os).size
      simp [putRow, mapBlock]
    · intro k hk
      show (_ ++ os)[k]? = _
      rw [Array.getElem?_append_left (by simp [putRow, mapBlock]; omega)]
      show ((w.heap).modify g (onCells (putCells enc 0 d)))[k]? = _
      rw [Array.getElem?_modify, if_neg (by omega)]
theorem own_cut {B g n m cap : Nat} {t : TypeId} {w : World} {xs : List Value} (h : w.ownsRow B t 1 (.slice (some ⟨g, 0, none⟩) n cap) n xs) (hm : m ≤ n) : w.ownsRow B t 1 (.slice (some ⟨g, 0, none⟩) m cap) m (xs.take m) := by
  obtain ⟨h1, h2⟩ := h
  rcases h2 with ⟨e, _⟩ | ⟨g', cap', cur, e, hg, hh, hn, hm', hs, ht⟩
  · cases e
  · cases e
    refine ⟨by rw [List.length_take]; omega, .inr ⟨g, cap, cur, rfl, hg, hh, Nat.le_trans hm hn, hm', hs, ?_⟩⟩
    rw [← ht, List.take_take]
    congr 1
    omega
theorem own_raw {B n : Nat} {w : World} {v : Value} {zs : List Int} (h : OwnInts B w v zs) (hl : zs.length = n) : w.ownsRow B 3 1 v n (zs.map (Value.int .i64)) := by
  subst hl; exact h
theorem own_holds {B g n cap : Nat} {w : World} {zs : List Int} (h : OwnInts B w (.slice (some ⟨g, 0, none⟩) n cap) zs) : zs.length = n ∧ ∀ j, j < n → w.cell? ⟨g, 0 + j, none⟩ = some (.int .i64 (zs[j]?.getD 0)) ∧ w.frozen? ⟨g, 0 + j, none⟩ = false := by
  obtain ⟨a, c, e, hr⟩ := h.form
  simp only [Value.slice.injEq] at e
  obtain ⟨rfl, hl, _⟩ := e
  refine ⟨hl.symm, fun j hj => ?_⟩
  obtain ⟨b, o, e2, hc⟩ := hr.cell j (by omega)
  cases e2
  refine ⟨hc, ?_⟩
  rcases h.2 with ⟨e, _⟩ | ⟨g', cap', cur, e, hg, hh, _⟩
  · cases e
  · cases e
    simp [World.frozen?, hh]
theorem row_news {w w1 : World} {b off n : Nat} {zs : List Int} (h : IntRow w (some ⟨b, off, none⟩) n zs) (hb : Below w.heap.size w w1) : ∀ i u, (zs.map (Value.int .i64))[i]? = some u → w1.cell? ((⟨b, off, none⟩ : Addr).add i) = some u := fun i u hu => by
  rw [List.getElem?_map] at hu
  have hl : i < zs.length := by
    rcases Nat.lt_or_ge i zs.length with h | h
    · exact h
    · rw [List.getElem?_eq_none h] at hu; cases hu
  obtain ⟨b', o', e, hc⟩ := h.cell i (by rw [← h.length]; exact hl)
  cases e
  rw [List.getElem?_eq_getElem hl] at hu hc
  simp at hu
  subst hu
  rw [add_none]
  exact keep hb hc

theorem cmpReads [Inhabited Lit] (blk off size : Nat) (w : World) : CmpReads Try.prog 59 #[] encL cfL blk off size w := fun _ _ _ _ x y =>
  (lits_impl x.1 y.1 _ x.2 y.2).mono fun _ _ ⟨he, hw⟩ => ⟨he, 0, hw⟩
/-- The library's sort, at a row of the call's own. -/
theorem sort_ints (B g n cap : Nat) (zs : List Int) (w : World) (h : OwnInts B w (.slice (some ⟨g, 0, none⟩) n cap) zs) (hz : ∀ z ∈ zs, -40 ≤ z ∧ z ≤ 40) (hn : n ≤ 1048576) :
    Calls Try.prog 58 #[.slice (some ⟨g, 0, none⟩) n cap, .func (.func 59) #[] #[]] w fun e w' => e = .returned (.tuple #[]) ∧ OwnInts B w' (.slice (some ⟨g, 0, none⟩) n cap) (zs.mergeSort rkLe) ∧ Below g w w' := by
  obtain ⟨hl, hc⟩ := own_holds h
  haveI : Inhabited Lit := ⟨⟨0, by decide⟩⟩
  have hsz : (lits zs hz).toArray.size = n := by simp [lits, hl]
  have hget : ∀ j, j < n → encL (lits zs hz).toArray[j]! = .int .i64 (zs[j]?.getD 0) := fun j hj => by
    have h1 : ((lits zs hz).map Subtype.val)[j]? = zs[j]? := by rw [lits_val]
    have h2 : j < (lits zs hz).length := by simp [lits]; omega
    rw [List.getElem?_map, List.getElem?_eq_getElem h2] at h1
    simp only [Option.map_some] at h1
    rw [← h1]
    simp [getElem!_pos, h2, encL]
  have hH : Holds encL w g 0 (lits zs hz).toArray := fun j hj => by
    rw [hsz] at hj
    rw [hget j hj]
    exact hc j hj
  have hg : g < w.heap.size := by
    rcases h.2 with ⟨e, _⟩ | ⟨g', cap', cur, e, hg, hh, _⟩
    · cases e
    · cases e; exact (Array.getElem?_eq_some_iff.1 hh).1
  have eg : ∀ args w, (callFunc 59 args).run Try.prog w = .ok (.enter 59 args) w := enters_of Try.func59 (by kernel_rfl) rfl
  have hS := Any.slices_SortFunc_total Try.sortL encL (fun _ => rfl) cfL swoL 59 #[] g 0 cap (lits zs hz).toArray w eg (cmpReads g 0 _ w).lays hH hg (by rw [hsz]; omega) totL
  change Calls Try.prog 58 _ _ _ at hS
  rw [hsz] at hS
  refine hS.mono ?_
  rintro e w' ⟨rfl, q, os, rfl⟩
  have hp := own_put (enc := encL) (q := q) (os := os) (d := ((lits zs hz).mergeSort fun x y => !(ltOf cfL) y x).toArray) (own_raw h hl) (by simp [lits, hl])
  refine ⟨rfl, ?_, hp.2⟩
  have h1 := hp.1
  rw [List.toList_toArray, lits_enc, lits_sorted] at h1
  unfold OwnInts
  rw [List.length_mergeSort, hl]
  exact h1
/-- The library strikes repeats, at a row of the call's own. -/
theorem compact_ints (B g n cap : Nat) (zs : List Int) (w : World) (h : OwnInts B w (.slice (some ⟨g, 0, none⟩) n cap) zs) (hn : n ≤ 1048576) :
    Calls Try.prog 60 #[.slice (some ⟨g, 0, none⟩) n cap] w fun e w' => e = .returned (.slice (some ⟨g, 0, none⟩) (compact zs).length cap) ∧ OwnInts B w' (.slice (some ⟨g, 0, none⟩) (compact zs).length cap) (compact zs) ∧ Below g w w' := by
  obtain ⟨hl, hc⟩ := own_holds h
  have hcap := (own_cap h).1
  have hH : Holds (Value.int .i64) w g 0 zs.toArray := fun j hj => by
    have hj' : j < n := by rw [← hl]; simpa using hj
    have hz : zs.toArray[j]! = zs[j]?.getD 0 := by
      have : j < zs.length := by omega
      simp [getElem!_pos, this]
    rw [hz]
    exact hc j hj'
  have hS := AnyG.slices_Compact_int Try.compL g 0 cap zs w hH (by omega) (by omega)
  change Calls Try.prog 60 _ _ _ at hS
  rw [hl] at hS
  refine hS.mono ?_
  rintro e w' ⟨rfl, q, rfl⟩
  have hcl := compact_length_le zs
  rw [hl] at hcl
  have hp := own_put (enc := Value.int .i64) (q := q) (os := #[]) (d := (compact zs ++ List.replicate (n - (compact zs).length) 0).toArray) (own_raw h hl) (by simp; omega)
  rw [grow_empty] at hp
  refine ⟨rfl, ?_, hp.2⟩
  have h1 := own_cut hp.1 hcl
  rw [List.toList_toArray, List.map_append, List.take_left' (by simp)] at h1
  exact h1
set_option maxHeartbeats 1600000 in
theorem inOrder_impl (a : Option Addr) (len cap : Nat) (zs : List Int) (w : World) (hr : IntRow w a len zs) (hcap : a = none → cap = 0) (hz : ∀ z ∈ zs, -40 ≤ z ∧ z ≤ 40) (hb : len ≤ 4096) :
    Calls Try.prog 31 #[.slice a len cap] w fun e w' => ∃ v, e = .returned v ∧ OwnInts w.heap.size w' v (ord zs) ∧ Below w.heap.size w w' := by
  obtain ⟨i0, hi, hzz⟩ := Option.map_eq_some_iff.1 Try.info_int
  simp only [Prod.mk.injEq] at hzz
  obtain ⟨hz0, hz1, hz2⟩ := hzz
  have HI := hid hi
  have HZ0 := hid hz0
  have HZ1 := hid hz1
  have HZ2 := hid hz2
  clear hi hz0 hz1 hz2
  have HL := hid hr.length
  have hN := fun (v : Value) (W : World) => AnyF.slices_SortFunc_none (P := Try.prog) (ρ := Try.sortL_ren) { Try.sortL with } none 0 (.func (.func 59) #[] #[]) W
  have HN : Hid (∀ W, Calls Try.prog 58 #[.slice none 0 0, .func (.func 59) #[] #[]] W fun e w' => e = .returned (.tuple #[]) ∧ w' = W) := fun W => hN (.bool true) W
  have HE : Hid (∀ W, Calls Try.prog 60 #[.slice none 0 0] W fun e w' => e = .returned (.slice none 0 0) ∧ w' = W) := fun W => AnyG.slices_Compact_int_empty Try.compL none 0 W
  clear hN
  by_cases h0 : len = 0
  · subst h0
    have hzn : zs = [] := List.length_eq_zero_iff.1 HL.out
    subst hzn
    rw [ord_nil]
    rcases a with _ | ad
    · have hc := hcap rfl
      subst hc
      go_enter Try.func31, Try.ntmps31
      go_wp2_with (at_builtin; (refine wpList_append_own_none rfl _ _ 37 rfl w.heap.size 3 i0 1 Try.underlying37 HI.out _ _ _ rfl (World.ownsRow_nil w w.heap.size 3 1) rfl ?_))
      refine (HN.out _).mono ?_
      rintro e w1 ⟨rfl, rfl⟩
      go_wp2_with fail
      refine (HE.out _).mono ?_
      rintro e w2 ⟨rfl, rfl⟩
      go_wp2
      go_ret
      exact ⟨_, rfl, OwnInts.nil _ _, Below.refl _ _⟩
    · go_enter Try.func31, Try.ntmps31
      go_wp2_with (at_builtin; (refine wpList_append_own _ rfl _ _ 37 rfl w.heap.size 3 i0 (.int .i64 0) 1 8 Try.underlying37 HI.out HZ0.out HZ1.out HZ2.out rfl (by decide) _ _ _ rfl (World.ownsRow_nil w w.heap.size 3 1) ad 0 cap [] rfl rfl (no_news _ _) (one_ints []) (by unfold maxLen; omega) (by omega) (Nat.le_refl _) ?_); intro v1 w1 hown1 hgrow1 hnil1)
      have hv1 : v1 = .slice none 0 0 := hnil1.2 ⟨by first | rfl | trivial, by first | rfl | trivial⟩
      subst hv1
      have HB1 : Hid (Below w.heap.size w w1) := Below.grown (Below.refl _ w) hgrow1 (Nat.le_refl _) (fun k hk => by cases hk)
      clear hown1 hgrow1 hnil1
      go_wp2_with fail
      refine (HN.out _).mono ?_
      rintro e w1 ⟨rfl, rfl⟩
      go_wp2_with fail
      refine (HE.out _).mono ?_
      rintro e w2 ⟨rfl, rfl⟩
      go_wp2
      go_ret
      exact ⟨_, rfl, OwnInts.nil _ _, HB1.out⟩
  · obtain ⟨b, off, rfl, _⟩ := hr.cell 0 (by omega)
    have HNews := hid (row_news hr (Below.refl _ _))
    have HZ := hid hz
    have HOrd : Hid (ord zs = compact (zs.mergeSort rkLe)) := rfl
    have HSL : Hid ((zs.mergeSort rkLe).length = len) := by show _ = _; rw [List.length_mergeSort]; exact HL.out
    have HLm : Hid ((zs.map (Value.int .i64)).length = len * 1) := by show _ = _; rw [List.length_map, HL.out]; omega
    clear hr hz hcap HN HE
    go_enter Try.func31, Try.ntmps31
    go_wp2_with (at_builtin; (refine wpList_append_own _ rfl _ _ 37 rfl w.heap.size 3 i0 (.int .i64 0) 1 8 Try.underlying37 HI.out HZ0.out HZ1.out HZ2.out rfl (by decide) _ _ _ rfl (World.ownsRow_nil w w.heap.size 3 1) ⟨b, off, none⟩ len cap (zs.map (Value.int .i64)) rfl HLm.out HNews.out (one_ints zs) (by unfold maxLen; omega) (by omega) (Nat.le_refl _) ?_); intro v1 w1 hown1 hgrow1 hnil1)
    have HB1 : Hid (Below w.heap.size w w1) := Below.grown (Below.refl _ w) hgrow1 (Nat.le_refl _) (fun k hk => by cases hk)
    rw [List.nil_append, Nat.zero_add] at hown1
    obtain ⟨g, c1, rfl⟩ : ∃ g c1, v1 = .slice (some ⟨g, 0, none⟩) len c1 := by
      rcases hown1.2 with ⟨_, h⟩ | ⟨g, cap', cur, e, _⟩
      · omega
      · exact ⟨g, cap', e⟩
    have HO1 : Hid (OwnInts w.heap.size w1 (.slice (some ⟨g, 0, none⟩) len c1) zs) := by
      show OwnInts _ _ _ _
      unfold OwnInts
      rw [HL.out]
      exact hown1
    have hgw := (own_cap HO1.out).2
    clear hown1 hgrow1 hnil1
    go_wp2_with fail
    refine (sort_ints w.heap.size g len c1 zs _ HO1.out HZ.out (by omega)).mono ?_
    rintro e w2 ⟨rfl, ho2, hb2⟩
    have HO2 := hid ho2
    have HB2 := hid (HB1.out.trans (hb2.mono hgw))
    clear ho2 hb2
    go_wp2_with fail
    refine (compact_ints w.heap.size g len c1 (zs.mergeSort rkLe) _ HO2.out (by omega)).mono ?_
    rintro e w3 ⟨rfl, ho3, hb3⟩
    have HO3 := hid ho3
    have HB3 := hid (HB2.out.trans (hb3.mono hgw))
    clear ho3 hb3
    go_wp2
    go_ret
    exact ⟨_, rfl, by rw [HOrd.out]; exact HO3.out, HB3.out⟩
end Go.Proofs.Ytiiigdcfnnjkcaa.inOrder
