/- IntsOwn; SourceI; DrawnSrc; DrawnMk: one text, so that the claim has fewer files. -/
import Derived.Test.YtbahjpheaaiamaaDoorPart1
import Derived.OwnWalk
import Derived.WalkSpells
import Derived.Sort.Row
import Derived.BigRegion
import Derived.Test.YtbahjpheaaiamaaDoorPart10
/- Rows of integers that a call makes for itself, their marks, and that they are held; conditions: lengths that fit. -/
namespace Go.Proofs.YtbahjpheaaiamaaDoor.intsOwn
open Go.RowKit Go.Deep Go.Sort base copy
set_option linter.unusedVariables false

/-- A slice of the call's own (blocks from B on) that holds a list of integers. -/
def OwnInts (B : Nat) (w : World) (v : Value) (zs : List Int) : Prop := w.ownsRow B 3 1 v zs.length (zs.map (Value.int .i64))
theorem OwnInts.nil (B : Nat) (w : World) : OwnInts B w (.slice none 0 0) [] := World.ownsRow_nil w B 3 1
theorem OwnInts.form {B : Nat} {w : World} {v : Value} {zs : List Int} (h : OwnInts B w v zs) : ∃ a cap, v = .slice a zs.length cap ∧ IntRow w a zs.length zs := by
  obtain ⟨h1, h2⟩ := h
  rcases h2 with ⟨rfl, hn⟩ | ⟨g, cap, cur, rfl, hb, hh, hn, hm, hs, ht⟩
  · exact ⟨none, 0, by rw [hn], ⟨rfl, by rw [hn]; exact Nat.zero_le _, fun i hi => by omega⟩⟩
  · refine ⟨some ⟨g, 0, none⟩, cap, rfl, ⟨rfl, Nat.le_trans hn hm, fun i hi => ⟨g, 0, rfl, ?_⟩⟩⟩
    have h3 : cur[i]? = some (.int .i64 (zs[i]?.getD 0)) := by
      have : (cur.toList.take (zs.length * 1))[i]? = (zs.map (Value.int .i64))[i]? := by rw [ht]
      rw [List.getElem?_take, if_pos (by omega)] at this
      rw [← Array.getElem?_toList, this, List.getElem?_map, List.getElem?_eq_getElem hi]
      rfl
    simp [World.cell?, hh, h3]
theorem OwnInts.below {B : Nat} {W w1 : World} {v : Value} {zs : List Int} (h : OwnInts B W v zs) (hb : Below W.heap.size W w1) : OwnInts B w1 v zs := by
  obtain ⟨h1, h2⟩ := h
  refine ⟨h1, ?_⟩
  rcases h2 with h2 | ⟨g, cap, cur, e, hg, hh, hn, hm, hs, ht⟩
  · exact .inl h2
  · exact .inr ⟨g, cap, cur, e, hg, by rw [hb.block g (Array.getElem?_eq_some_iff.1 hh).1]; exact hh, hn, hm, hs, ht⟩
theorem OwnInts.mono {B B' : Nat} {w : World} {v : Value} {zs : List Int} (h : OwnInts B w v zs) (hb : B' ≤ B) : OwnInts B' w v zs := by
  obtain ⟨h1, h2⟩ := h
  refine ⟨h1, ?_⟩
  rcases h2 with h2 | ⟨g, cap, cur, e, hg, hh, hn, hm, hs, ht⟩
  · exact .inl h2
  · exact .inr ⟨g, cap, cur, e, Nat.le_trans hb hg, hh, hn, hm, hs, ht⟩
theorem grown_below {B : Nat} {w w1 w2 : World} {v : Value} {zs : List Int} (h : OwnInts B w1 v zs) (hb : Below B w w1) (hB : B ≤ w1.heap.size) (hg : w1.grownBy w2 v.ownBlock) : Below B w w2 :=
  hb.grown hg hB (fun k hk => (World.ownsRow.lt h k hk).1)
theorem own_pass {B n : Nat} {w w1 : World} {v : Value} {t : TypeId} {s : Nat} {xs : List Value} (h : w.ownsRow B t s v n xs) (hb : Below w.heap.size w w1) : w1.ownsRow B t s v n xs := by
  obtain ⟨h1, h2⟩ := h
  refine ⟨h1, ?_⟩
  rcases h2 with h2 | ⟨g, cap, cur, e, hg, hh, hn, hm, hs, ht⟩
  · exact .inl h2
  · exact .inr ⟨g, cap, cur, e, hg, by rw [hb.block g (Array.getElem?_eq_some_iff.1 hh).1]; exact hh, hn, hm, hs, ht⟩
theorem own_holds {B g n cap : Nat} {w : World} {zs : List Int} (h : OwnInts B w (.slice (some ⟨g, 0, none⟩) n cap) zs) : zs.length = n ∧ ∀ j, j < n → w.cell? ⟨g, 0 + j, none⟩ = some (.int .i64 (zs[j]?.getD 0)) ∧ w.frozen? ⟨g, 0 + j, none⟩ = false := by
  obtain ⟨a, c, e, hr⟩ := h.form
  simp only [Value.slice.injEq] at e
  obtain ⟨rfl, hl, _⟩ := e
  refine ⟨hl.symm, fun j hj => ?_⟩
  obtain ⟨b, o, e2, hc⟩ := hr.cell j (by omega)
  cases e2
  refine ⟨hc, ?_⟩
  rcases h.2 with ⟨e, _⟩ | ⟨g', cap', cur, e, hg, hh, _⟩
  · cases e
  · cases e
    simp [World.frozen?, hh]
theorem own_lt {B g : Nat} {w : World} {v : Value} {zs : List Int} (h : OwnInts B w v zs) (hg : v.ownBlock = some g) : B ≤ g ∧ g < w.heap.size := World.ownsRow.lt h g hg
theorem row_of_own {B : Nat} {w : World} {a : Option Addr} {n c : Nat} {zs : List Int} (h : OwnInts B w (.slice a n c) zs) : IntRow w a n zs := by
  obtain ⟨a', c', e, hr⟩ := h.form
  have e1 : a = a' := by injection e
  have e2 : n = zs.length := by injection e
  rw [e1, e2]
  exact hr
theorem own_grown {B : Nat} {w w1 : World} {v : Value} {zs : List Int} {row : Option Nat} (h : OwnInts B w v zs) (hg : w.grownBy w1 row) (hne : ∀ g, v.ownBlock = some g → some g ≠ row) : OwnInts B w1 v zs := by
  obtain ⟨h1, h2⟩ := h
  refine ⟨h1, ?_⟩
  rcases h2 with h2 | ⟨g, cap, cur, rfl, hgB, hh, hn, hm, hs, ht⟩
  · exact .inl h2
  · exact .inr ⟨g, cap, cur, rfl, hgB, by rw [hg.block g (Array.getElem?_eq_some_iff.1 hh).1 (hne g rfl)]; exact hh, hn, hm, hs, ht⟩
theorem own_of_row {B N len : Nat} {w : World} {zs : List Int} (h : w.rowIs N 3 len (fun i => .int .i64 (zs[i]?.getD 0))) (hl : zs.length = len) (hB : B ≤ N) (hm : len ≤ maxLen) : OwnInts B w (.slice (some ⟨N, 0, none⟩) len len) zs := by
  obtain ⟨c, hh, hs, hc⟩ := h
  subst hl
  refine ⟨by simp, .inr ⟨N, _, c, rfl, hB, hh, Nat.le_refl _, hm, by omega, ?_⟩⟩
  apply List.ext_getElem?
  intro i
  rw [List.getElem?_take, List.getElem?_map]
  split
  · rename_i hi
    have hi' : i < zs.length := by omega
    rw [Array.getElem?_toList, hc i hi']
    simp [List.getElem?_eq_getElem hi']
  · rename_i hi
    rw [List.getElem?_eq_none (by omega)]
    rfl
theorem grown_refl (w : World) (row : Option Nat) : w.grownBy w row := ⟨rfl, rfl, rfl, Nat.le_refl _, fun _ _ _ => rfl⟩
theorem grown_set {w w1 : World} {g k : Nat} {v : Value} (h : w.grownBy w1 (some g)) : w.grownBy (w1.setCell ⟨g, k, none⟩ v) (some g) := by
  rw [setCell_eq]
  refine ⟨h.os, h.tape, h.output, ?_, fun j hj hne => ?_⟩
  · show _ ≤ (w1.heap.modify g _).size
    rw [Array.size_modify]; exact h.size
  · show (w1.heap.modify g _)[j]? = _
    rw [Array.getElem?_modify, if_neg (fun e => hne (by rw [e]))]
    exact h.block j hj hne
theorem own_set {B g n c k : Nat} {w : World} {zs : List Int} {z : Int} (h : OwnInts B w (.slice (some ⟨g, 0, none⟩) n c) zs) (hk : k < n) : OwnInts B (w.setCell ⟨g, k, none⟩ (.int .i64 z)) (.slice (some ⟨g, 0, none⟩) n c) (zs.set k z) := by
  obtain ⟨h1, h2⟩ := h
  have hl : zs.length = n := by
    rcases h2 with ⟨e, _⟩ | ⟨g', cap, cur, e, _⟩
    · cases e
    · simp only [Value.slice.injEq] at e; exact e.2.1.symm
  subst hl
  refine ⟨by simp, .inr ?_⟩
  rcases h2 with ⟨e, _⟩ | ⟨g', cap, cur, e, hg, hh, hn, hm, hs, ht⟩
  · cases e
  · cases e
    refine ⟨g, c, cur.setIfInBounds k (.int .i64 z), by rw [List.length_set], hg, ?_, by rw [List.length_set]; exact hn, hm, by simpa using hs, ?_⟩
    · rw [setCell_eq]
      show (w.heap.modify g _)[g]? = _
      rw [Array.getElem?_modify, if_pos rfl, hh]
      rfl
    · rw [List.length_set, Array.toList_setIfInBounds, List.take_set, ht, List.map_set]
def marks (n : Int) (len : Nat) : List Int := (List.range len).map (fun i : Nat => n + (i : Int))
set_option maxHeartbeats 800000 in
theorem mark_ints (B g len c : Nat) (zs : List Int) (n : Int) (w : World) (h : OwnInts B w (.slice (some ⟨g, 0, none⟩) len c) zs) (hn0 : 0 ≤ n) (hn : n ≤ 2097152) (hl : len ≤ 1048576) :
    Calls Tryd.prog 50 #[.slice (some ⟨g, 0, none⟩) len c, .int .i64 n] w fun e w' => e = .returned (.int .i64 (n + len)) ∧ OwnInts B w' (.slice (some ⟨g, 0, none⟩) len c) (marks n len) ∧ w.grownBy w' (some g) := by
  have hlen := (own_holds h).1
  have HO := hid h
  clear h
  go_enter Tryd.func50, Tryd.ntmps50
  go_wp2
  go_loopw [5, 1] (fun i t wr => ∃ k : Nat, k ≤ len ∧ i = .int .i64 k ∧ t = .int .i64 (n + k) ∧ w.grownBy wr (some g) ∧ ∃ ys, OwnInts B wr (.slice (some ⟨g, 0, none⟩) len c) ys ∧ ∀ j, j < k → ys[j]?.getD 0 = n + (j : Int)) (fun i _ _ => len - (intOf i).toNat)
  case atStart => exact ⟨0, Nat.zero_le _, rfl, by simp, grown_refl _ _, zs, HO.out, fun j hj => absurd hj (Nat.not_lt_zero _)⟩
  case round =>
    obtain ⟨k, hk, rfl, rfl, hgr, ys, hown, hys⟩ := hrel
    obtain ⟨hyl, hcells⟩ := own_holds hown
    have HG := hid hgr
    have HOw := hid hown
    have HY := hid hys
    clear hgr hys
    by_cases hlt : k < len
    · obtain ⟨hc, hf⟩ := hcells k hlt
      rw [Nat.zero_add] at hc hf
      have HYL := hid hyl
      clear hown hcells hyl
      go_wp2
      go_roundw
      case rel =>
        refine ⟨k + 1, by omega, by go_num, by congr 1; omega, grown_set HG.out, ys.set k (n + k), own_set HOw.out hlt, fun j hj => ?_⟩
        rw [List.getElem?_set]
        by_cases e : k = j
        · subst e; rw [if_pos rfl, if_pos (by rw [HYL.out]; exact hlt)]; rfl
        · rw [if_neg e]; exact HY.out j (by omega)
      case measure => simp [intOf]; omega
    · have e : k = len := by omega
      subst e
      have HE : Hid (ys = marks n k) := by
        show _ = _
        apply List.ext_getElem
        · simp [marks]; omega
        · intro i h1 h2
          have := HY.out i (by omega)
          rw [List.getElem?_eq_getElem h1] at this
          simp [marks] at this ⊢
          exact this
      clear hown hcells hyl
      go_wp2
      go_ret
      exact ⟨rfl, by rw [← HE.out]; exact HOw.out, HG.out⟩
set_option maxHeartbeats 400000 in
theorem mark_any (B : Nat) (v : Value) (zs : List Int) (n : Int) (w : World) (h : OwnInts B w v zs) (hn0 : 0 ≤ n) (hn : n ≤ 2097152) (hl : zs.length ≤ 1048576) :
    Calls Tryd.prog 50 #[v, .int .i64 n] w fun e w' => e = .returned (.int .i64 (n + zs.length)) ∧ OwnInts B w' v (marks n zs.length) ∧ w.grownBy w' v.ownBlock := by
  rcases h.2 with ⟨rfl, h0⟩ | ⟨g, cap, cur, rfl, _⟩
  · have hz : zs = [] := List.length_eq_zero_iff.1 h0
    subst hz
    go_enter Tryd.func50, Tryd.ntmps50
    go_wp2
    go_loop [5, 1] (fun i t => i = .int .i64 0 ∧ t = .int .i64 n) (fun _ _ => 0)
    case atStart => exact ⟨rfl, rfl⟩
    case round =>
      obtain ⟨rfl, rfl⟩ := hrel
      go_wp2
      go_ret
      exact ⟨rfl, OwnInts.nil _ _, grown_refl _ _⟩
  · exact mark_ints B g zs.length cap zs n w h hn0 hn hl
end Go.Proofs.YtbahjpheaaiamaaDoor.intsOwn

/- The specification's source of choices: a number is told out of a code's bytes; whatever the bytes, it is in its bounds, and only the source's own block is written; conditions: lengths that fit. -/
namespace Go.Proofs.YtbahjpheaaiamaaDoor.source
open Go.RowKit Go.Deep Go.Sort base intsOwn

theorem far {w w1 : World} {b bb o : Nat} {v : Value} (h : w.grownBy w1 (some b)) (hne : bb < b) (hc : w.cell? ⟨bb, o, none⟩ = some v) : w1.cell? ⟨bb, o, none⟩ = some v := by
  rw [World.cell?_of_block (a := ⟨bb, o, none⟩) (h.block bb (World.block_lt_of_cell? _ _ hc) (fun e => Nat.ne_of_lt hne (by injection e)))]
  exact hc

end Go.Proofs.YtbahjpheaaiamaaDoor.source

/- A region that draws its order while it asks a source: one proof an operation; one of them may write some other blocks (an append); of no program; conditions: none. -/
namespace Go.Proofs.YtbahjpheaaiamaaDoor.drawnLin
open Go Go.RowKit Go.Deep Go.Sort base heldStore drawn
theorem Chg.mono {X Y : Nat → Prop} {w w' : World} (h : Chg X w w') (hx : ∀ k, X k → Y k) : Chg Y w w' := ⟨h.os, h.tape, h.output, h.size, fun k hk hn => h.block k hk (fun h' => hn (hx k h'))⟩
theorem Chg.trans {X : Nat → Prop} {w w1 w2 : World} (h : Chg X w w1) (h' : Chg X w1 w2) : Chg X w w2 :=
  ⟨h'.os.trans h.os, h'.tape.trans h.tape, h'.output.trans h.output, Nat.le_trans h.size h'.size, fun k hk hn => (h'.block k (Nat.lt_of_lt_of_le hk h.size) hn).trans (h.block k hk hn)⟩
theorem Chg.cell {X : Nat → Prop} {w w' : World} (h : Chg X w w') {q o : Nat} {v : Value} (hn : ¬ X q) (hc : w.cell? ⟨q, o, none⟩ = some v) : w'.cell? ⟨q, o, none⟩ = some v :=
  (World.cell?_of_block (a := ⟨q, o, none⟩) (h.block q (World.block_lt_of_cell? _ _ hc) hn)).trans hc
theorem Chg.drew {X : Nat → Prop} {w w1 : World} (h : Chg X w w1) : Chg X w w1.drew := h.trans (Chg.of_below (Below.refl _ _).drew)
theorem Chg.drewN {X : Nat → Prop} {w w1 : World} (h : Chg X w w1) (n : Nat) : Chg X w (w1.drewN n) := h.trans (Chg.of_below (below_drewN _ _))
theorem Chg.set {X : Nat → Prop} {w w1 : World} (h : Chg X w w1) {q o : Nat} (hq : X q ∨ w.heap.size ≤ q) (v : Value) : Chg X w (w1.setCell ⟨q, o, none⟩ v) :=
  ⟨by rw [setCell_eq]; exact h.os, by rw [setCell_eq]; exact h.tape, by rw [setCell_eq]; exact h.output, Nat.le_trans h.size (by simp [World.setCell]), fun k hk hn => (Below.heap_setCell _ _ _ _ (by dsimp only; intro e; subst e; rcases hq with hq | hq; exact hn hq; omega)).trans (h.block k hk hn)⟩
end Go.Proofs.YtbahjpheaaiamaaDoor.drawnLin
namespace Go.Proofs.YtbahjpheaaiamaaDoor.drawnSrc
open Go Go.RowKit base heldStore drawn drawnLin source
set_option linter.unusedVariables false

variable {P : Program} {ops : Array Oper} {Q : Exit → Act → World → Prop}
/-- Operations wait for earlier ones alone, where they wait at all. -/
def upC (ops : Array Oper) : Bool := (List.range ops.size).all fun i => ((ops[i]?).map (·.after.all fun e => !Region.binds .any e || decide (e.on < i))).getD true
theorem upC_spec (h : upC ops = true) {i : Nat} {o : Oper} (ho : ops[i]? = some o) : ∀ e ∈ o.after, Region.binds .any e = true → e.on < i := by
  have hlt : i < ops.size := (Array.getElem?_eq_some_iff.1 ho).1
  have h1 := List.all_eq_true.1 h i (List.mem_range.2 hlt)
  rw [ho] at h1
  simp only [Option.map_some, Option.getD_some, Array.all_eq_true_iff_forall_mem] at h1
  intro e he hb
  have h2 := h1 e he
  rw [hb] at h2
  simpa using h2
theorem ready_neC (h : upC ops = true) {listed : Array Bool} (hs : listed.size = ops.size) : ∀ n, listed.getD n true = false → Region.ready .any ops listed ≠ [] := by
  intro n
  induction n using Nat.strongRecOn with
  | _ n ih =>
    intro hn he
    have hlt : n < ops.size := by
      rcases Nat.lt_or_ge n listed.size with h' | h'
      · omega
      · simp [Array.getElem?_eq_none h'] at hn
    by_cases hall : ∀ e ∈ (ops[n]).after, Region.binds .any e = true → listed.getD e.on false = true
    · have : n ∈ Region.ready .any ops listed := mem_ready.2 ⟨hn, ops[n], by simp [hlt], hall⟩
      rw [he] at this
      cases this
    · have hx : ∃ e ∈ (ops[n]).after, Region.binds .any e = true ∧ listed.getD e.on false = false := by
        apply Classical.byContradiction
        intro hno
        refine hall fun e he' hb' => ?_
        cases hb : listed.getD e.on false with
        | true => rfl
        | false => exact absurd ⟨e, he', hb', hb⟩ hno
      obtain ⟨e, he', hbi, hb⟩ := hx
      have hlt' := upC_spec h (i := n) (o := ops[n]) (by simp [hlt]) e he' hbi
      exact ih e.on hlt' (getD_in (by omega) hb) he
def updO (u : Nat → Value) : Option Nat → Value → Nat → Value
  | none, _ => u
  | some k, v => upd u k v
/-- A region in whatever order, with an invariant over what has come. -/
theorem any_free {A : (Nat → Value) → Act} {s : Nat → Option Nat} {Inv : (Nat → Bool) → (Nat → Value) → World → Prop} {n : Nat} (hz : ops.size = n) (hup : upC ops = true)
    (hput : ∀ i, i < n → ∀ u v, (A u).put (s i) v = A (updO u (s i) v))
    (step : ∀ i, i < n → ∀ L u w, L i = false → (∀ j, Region.waitsFor .any ops i j = true → L j = true) → Inv L u w → ∃ o, ops[i]? = some o ∧ ∀ K' : Act → World → Prop, Shut (∀ v w', Inv (come L i) (updO u (s i) v) w' → K' ((A u).put (s i) v) w') → if Region.wanted o (yielded ops (A u).tmps) = true then Oper.wp P o (A u) w K' Q else K' ((A u).put o.dst undef) w)
    (fin : ∀ L u w, (∀ j, j < n → L j = true) → Inv L u w → Q .normal (A u) w) :
    ∀ (fuel : Nat) (listed : Array Bool) (u : Nat → Value) (w : World), falses listed.toList ≤ fuel → listed.size = n → Inv (fun j => listed.getD j false) u w → wpAny P .any ops Q fuel listed (A u) w := by
  have done : ∀ (listed : Array Bool), listed.size = n → Region.ready .any ops listed = [] → ∀ j, j < n → listed.getD j false = true := fun listed hs he j hj => by
    cases hb : listed.getD j false with
    | true => rfl
    | false => exact absurd he (ready_neC hup (by rw [hs, hz]) j (getD_in (by omega) hb))
  intro fuel
  induction fuel with
  | zero =>
    intro listed u w hf hs hI
    have hall : ∀ j, j < n → listed.getD j false = true := fun j hj => by
      cases hb : listed.getD j false with
      | true => rfl
      | false => have := falses_pos _ _ (at_false (getD_in (by omega) hb)); omega
    refine ⟨?_, fin _ u w hall hI⟩
    cases hr : Region.ready .any ops listed with
    | nil => rfl
    | cons k l =>
      have hk : k ∈ Region.ready .any ops listed := by rw [hr]; exact List.mem_cons_self
      obtain ⟨h1, ok, hok, _⟩ := mem_ready.1 hk
      have hklt : k < n := by rw [← hz]; exact (Array.getElem?_eq_some_iff.1 hok).1
      have h2 := hall k hklt
      rw [getD_both h1] at h2
      cases h2
  | succ fuel ih =>
    intro listed u w hf hs hI
    refine ⟨fun h => fin _ u w (done listed hs h) hI, fun i hi => ?_⟩
    obtain ⟨hun, oi, hoi, hall⟩ := mem_ready.1 hi
    have hin : i < n := by rw [← hz]; exact (Array.getElem?_eq_some_iff.1 hoi).1
    obtain ⟨o, ho, h⟩ := step i hin (fun j => listed.getD j false) u w (getD_both hun) (fun j hj => by
      obtain ⟨oj, hoj, e, he, hb, hon⟩ := Region.waitsFor_spec hj
      have e1 : oj = oi := Option.some.inj (hoj.symm.trans hoi)
      subst e1
      have h1 := hall e he hb
      rw [hon] at h1
      exact h1) hI
    refine wpOp_step ho fun K' hK => h K' fun v w' hI' => hK _ _ ?_
    rw [hput i hin]
    refine ih _ _ _ ?_ (by simp [hs]) ?_
    · have := falses_set _ _ (at_false hun)
      simp only [Array.toList_setIfInBounds]
      omega
    · have : (fun j => (listed.setIfInBounds i true).getD j false) = come (fun j => listed.getD j false) i := by
        funext j
        unfold come
        by_cases e : j = i
        · subst e
          rw [if_pos rfl]
          have : j < listed.size := by rw [hs]; omega
          simp [this]
        · rw [if_neg e, getD_set_ne false (Ne.symm e)]
      rw [this]
      exact hI'
end Go.Proofs.YtbahjpheaaiamaaDoor.drawnSrc

/- A region that draws its order, with calls that make new memory and a store into a variable of its own; operations that only reckon may come late; of no program; conditions: none. -/
namespace Go.Proofs.YtbahjpheaaiamaaDoor.drawnMk
open Go Go.RowKit base heldStore drawn drawnLin drawnSrc
set_option linter.unusedVariables false

variable {P : Program} {ops : Array Oper} {Q : Exit → Act → World → Prop}
/-- A region whose operations only make new memory: one proof an operation, in whatever order. -/
theorem region_calm {id : Nat} {a : Act} {w : World} (A : (Nat → Value) → Act) (s : Nat → Nat) (φ : Nat → Value → World → Prop) (W : World) (n : Nat) (u0 : Nat → Value) (ha : a = A u0)
    (hm : P.follows .mixedOrders = true) (hz : ops.size = n) (hup : upC ops = true) (hW : Below W.heap.size W w)
    (hput : ∀ i, i < n → ∀ u v, (A u).put (some (s i)) v = A (upd u (s i) v)) (hinj : ∀ i j, i < n → j < n → s i = s j → i = j)
    (stable : ∀ i v w w', Below w.heap.size w w' → φ i v w → φ i v w')
    (step : ∀ i, i < n → ∀ u w, Below W.heap.size W w → (∀ j, Region.waitsFor .any ops i j = true → φ j (u (s j)) w) → ∃ o, ops[i]? = some o ∧ ∀ K' : Act → World → Prop, Shut (∀ v w', Below w.heap.size w w' → φ i v w' → K' ((A u).put (some (s i)) v) w') → if Region.wanted o (yielded ops (A u).tmps) = true then Oper.wp P o (A u) w K' Q else K' ((A u).put o.dst undef) w)
    (fin : ∀ u w, Below W.heap.size W w → (∀ j, j < n → φ j (u (s j)) w) → Q .normal (A u) w) :
    (Code.region id ops true).wp P Q a w := by
  subst ha
  refine wp_region_any hm ?_
  rw [hz]
  refine any_free (s := fun i => some (s i)) (Inv := fun L u w8 => Below W.heap.size W w8 ∧ ∀ j, j < n → L j = true → φ j (u (s j)) w8) hz hup hput ?_ ?_ _ _ _ _ ?_ (by simp) ?_
  · intro i hi L u w8 hLi hwt hI
    obtain ⟨h1, h4⟩ := hI
    have lt : ∀ j, Region.waitsFor .any ops i j = true → j < i := fun j hj => by
      obtain ⟨oj, hoj, e, he, hb, hon⟩ := Region.waitsFor_spec hj
      have h5 := upC_spec hup hoj e he hb
      rw [hon] at h5
      exact h5
    obtain ⟨o, ho, h⟩ := step i hi u w8 h1 (fun j hj => h4 j (by have := lt j hj; omega) (hwt j hj))
    refine ⟨o, ho, fun K' hK => h K' fun v w' hc hv => hK.out v w' ⟨h1.trans (hc.mono h1.size), fun j hj hl => ?_⟩⟩
    simp only [updO]
    by_cases e : j = i
    · subst e; rw [upd_same]; exact hv
    · rw [come_ne e] at hl
      rw [upd_ne _ _ (fun e' => e (hinj j i hj hi e'))]
      exact stable j _ _ _ hc (h4 j hj hl)
  · intro L u w8 hall hI
    exact fin u w8 hI.1 (fun j hj => hI.2 j hj (hall j hj))
  · simp [falses_replicate]
  · have : (fun j => (Array.replicate n false).getD j false) = fun _ => false := by funext j; exact getD_replicate_false _ _
    rw [this]
    exact ⟨hW.drew, fun j _ h => (by cases h)⟩
end Go.Proofs.YtbahjpheaaiamaaDoor.drawnMk
