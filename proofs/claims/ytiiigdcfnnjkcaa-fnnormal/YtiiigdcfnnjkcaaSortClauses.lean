/- A list of clauses in memory of the call's own, and the library's sort of it; conditions: literals of at most 40 variables, lengths that fit. -/
import Derived.Test.YtiiigdcfnnjkcaaClauseOrder
import Derived.Test.YtiiigdcfnnjkcaaShelfC
namespace Go.Proofs.Ytiiigdcfnnjkcaa.sortClauses
open Go.RowKit Go.Deep Go.Shelf Go.Lib Go.Sort base copy own order sorted compare inOrder mark clauseOrder

/-- A slice of slices of the call's own: the values of its cells, and what each of them reads as. -/
structure OwnRows (B : Nat) (w : World) (v : Value) (ps : List (Value × List Int)) : Prop where
  outer : w.ownsRow B 37 1 v ps.length (ps.map Prod.fst)
  inner : ∀ p ∈ ps, OwnInts B w p.1 p.2
theorem OwnRows.nil (B : Nat) (w : World) : OwnRows B w (.slice none 0 0) [] := ⟨World.ownsRow_nil w B 37 1, fun p hp => by simp at hp⟩
theorem OwnRows.below {B : Nat} {w w1 : World} {v : Value} {ps : List (Value × List Int)} (h : OwnRows B w v ps) (hb : RowKit.Below w.heap.size w w1) : OwnRows B w1 v ps :=
  ⟨own_pass h.outer hb, fun p hp => (h.inner p hp).below hb⟩
/-- The rows lie in other blocks than the row of rows. -/
theorem OwnRows.apart {B g n c : Nat} {w : World} {ps : List (Value × List Int)} (h : OwnRows B w (.slice (some ⟨g, 0, none⟩) n c) ps) {p : Value × List Int} (hp : OwnInts B w p.1 p.2) {k : Nat} (hk : p.1.ownBlock = some k) : k ≠ g := by
  intro e
  subst e
  rcases h.outer.2 with ⟨e, _⟩ | ⟨g', cap, cur, e, _, hh, _⟩
  · cases e
  · cases e
    rcases hp.2 with ⟨e, _⟩ | ⟨g', cap, cur', e, _, hh', _⟩
    · rw [e] at hk; cases hk
    · rw [e] at hk
      have hk' : some g' = some k := hk
      injection hk' with hk'
      subst hk'
      rw [hh] at hh'
      injection hh' with hh'
      injection hh' with _ ht
      exact absurd ht (by decide)
theorem put_grown {α : Type} [Inhabited α] {enc : α → Value} {g q off : Nat} {w : World} {d : Array α} {os : Array Obj} : w.grownBy (grow (putRow enc (Sort.ahead w q) g off d) os) (some g) := by
  refine ⟨rfl, rfl, rfl, ?_, fun k hk hne => ?_⟩
  · show _ ≤ (_ ++ os).size
    simp [putRow, mapBlock]
  · show (_ ++ os)[k]? = _
    rw [Array.getElem?_append_left (by simp [putRow, mapBlock]; omega)]
    show ((w.heap).modify g (onCells (putCells enc off d)))[k]? = _
    rw [Array.getElem?_modify, if_neg (fun e => hne (by rw [e]))]

/-- A clause's value in a world, with what it reads as; it lies in another block than the row that is sorted. -/
abbrev Cl (B : Nat) (w : World) (g : Nat) := { p : Value × List Int // OwnInts B w p.1 p.2 ∧ (∀ k, p.1.ownBlock = some k → k ≠ g) ∧ ∀ z ∈ p.2, -40 ≤ z ∧ z ≤ 40 }
def encC {B : Nat} {w : World} {g : Nat} (x : Cl B w g) : Value := x.1.1
def cfC {B : Nat} {w : World} {g : Nat} (x y : Cl B w g) : Int := cmpL x.1.2 y.1.2
theorem oneC {B : Nat} {w : World} {g : Nat} : OneCell (encC (B := B) (w := w) (g := g)) := fun x => by
  obtain ⟨a, c, e, _⟩ := x.2.1.form
  unfold encC
  rw [e]; rfl
theorem ltC {B : Nat} {w : World} {g : Nat} (x y : Cl B w g) : ltOf cfC x y = decide (cmpL x.1.2 y.1.2 < 0) := rfl
theorem swoC {B : Nat} {w : World} {g : Nat} : SWO (ltOf (cfC (B := B) (w := w) (g := g))) where
  irrefl x := by rw [ltC, cmp_self]; rfl
  trans x y z h1 h2 := by
    rw [ltC] at *
    simp only [decide_eq_true_eq] at *
    exact cmp_trans h1 h2
  ntrans x y z h1 h2 := by
    rw [ltC] at *
    simp only [decide_eq_false_iff_not] at *
    intro h
    have h1' : cmpL y.1.2 x.1.2 ≤ 0 := by rw [cmp_neg x.1.2]; omega
    have h2' : cmpL z.1.2 y.1.2 ≤ 0 := by rw [cmp_neg y.1.2]; omega
    rcases Int.lt_or_eq_of_le h1' with p | p
    · exact h2 (cmp_trans p h)
    · rw [cmp_zero p] at h2
      exact h2 h

theorem lit_at {zs : List Int} (h : ∀ z ∈ zs, -40 ≤ z ∧ z ≤ 40) : ∀ i, i < zs.length → -40 ≤ zs[i]?.getD 0 ∧ zs[i]?.getD 0 ≤ 40 := fun i hi => by
  rw [List.getElem?_eq_getElem hi]; exact h _ (List.getElem_mem hi)
theorem cmpReadsC {B : Nat} {w : World} {g : Nat} [Inhabited (Cl B w g)] (off size : Nat) : CmpReads Try.prog 34 #[] (encC (B := B) (w := w) (g := g)) cfC g off size w := fun m os dk _ x y => by
  have hg : w.grownBy (sortWorld (encC (B := B) (w := w) (g := g)) w g off m dk os) (some g) := put_grown
  have hx := own_grown x.2.1 hg (fun k hk e => x.2.2.1 k hk (by injection e))
  have hy := own_grown y.2.1 hg (fun k hk e => y.2.2.1 k hk (by injection e))
  obtain ⟨a, c, e, hr⟩ := hx.form
  obtain ⟨a', c', e', hr'⟩ := hy.form
  unfold encC
  rw [e, e']
  exact (clauses_impl a a' _ c _ c' x.1.2 y.1.2 _ hr hr' (lit_at x.2.2.2) (lit_at y.2.2.2)).mono fun _ _ ⟨he, hw⟩ => ⟨he, 0, hw⟩
/-- The library's sort of clauses, at a row of the call's own. -/
theorem sort_clauses (B g n cap : Nat) (ps : List (Value × List Int)) (w : World) (h : OwnRows B w (.slice (some ⟨g, 0, none⟩) n cap) ps) (hz : ∀ p ∈ ps, ∀ z ∈ p.2, -40 ≤ z ∧ z ≤ 40) (hn : n ≤ 1048576) (hp : ps ≠ []) :
    Calls Try.prog 33 #[.slice (some ⟨g, 0, none⟩) n cap, .func (.func 34) #[] #[]] w fun e w' => e = .returned (.tuple #[]) ∧ ∃ qs, qs.Perm ps ∧ qs.Pairwise (fun a b => ¬ cmpL b.2 a.2 < 0) ∧ OwnRows B w' (.slice (some ⟨g, 0, none⟩) n cap) qs ∧ RowKit.Below g w w' := by
  have hl : ps.length = n := by
    rcases h.outer.2 with ⟨e, _⟩ | ⟨g', c', cur, e, _⟩
    · cases e
    · injection e with _ e _; exact e.symm
  let ls : List (Cl B w g) := ps.attach.map (fun p => ⟨p.1, h.inner p.1 p.2, fun k hk => h.apart (h.inner p.1 p.2) hk, hz p.1 p.2⟩)
  have hval : ls.map Subtype.val = ps := by
    simp only [ls, List.map_map, Function.comp_def]
    exact List.attach_map_subtype_val ps
  have hls : ls.length = n := by simp [ls, hl]
  obtain ⟨p0, hp0⟩ := List.exists_mem_of_ne_nil ps hp
  haveI : Inhabited (Cl B w g) := ⟨⟨p0, h.inner p0 hp0, fun k hk => h.apart (h.inner p0 hp0) hk, hz p0 hp0⟩⟩
  have hg : g < w.heap.size := (World.ownsRow.lt h.outer g rfl).2
  have hH : Holds encC w g 0 ls.toArray := fun j hj => by
    have hj' : j < ls.length := by simpa using hj
    have hjp : j < ps.length := by omega
    have e1 : (ls.toArray[j]!).1 = ps[j] := by
      have h1 : (ls.map Subtype.val)[j]? = ps[j]? := by rw [hval]
      rw [List.getElem?_map, List.getElem?_eq_getElem hj', List.getElem?_eq_getElem hjp] at h1
      simp only [Option.map_some, Option.some.injEq] at h1
      rw [← h1]
      simp [getElem!_pos, hj']
    unfold encC
    rw [e1]
    rcases h.outer.2 with ⟨e, _⟩ | ⟨g', c', cur, e, _, hh, hn', _, hs, ht⟩
    · cases e
    · have eg : g = g' := by injection e with e; injection e with e; injection e
      subst eg
      have h3 : cur[j]? = some ps[j].1 := by
        have : (cur.toList.take (ps.length * 1))[j]? = (ps.map Prod.fst)[j]? := by rw [ht]
        rw [List.getElem?_take, if_pos (by omega)] at this
        rw [← Array.getElem?_toList, this, List.getElem?_map, List.getElem?_eq_getElem hjp]
        rfl
      exact ⟨by simp [World.cell?, hh, h3], by simp [World.frozen?, hh]⟩
  have eg : ∀ args w, (callFunc 34 args).run Try.prog w = .ok (.enter 34 args) w := enters_of Try.func34 (by kernel_rfl) rfl
  have hS := Any.slices_SortFunc Try.sortC encC oneC cfC swoC 34 #[] g 0 cap ls.toArray w eg (cmpReadsC 0 _).lays hH hg (by simp [hls]; omega)
  change Calls Try.prog 33 _ _ _ at hS
  have hsz : ls.toArray.size = n := by simpa using hls
  rw [hsz] at hS
  refine hS.mono ?_
  rintro e w' ⟨rfl, d', q, os, hperm, hsort, rfl⟩
  obtain ⟨hs', _, hpp⟩ := hperm
  rw [hsz] at hs'
  have hp1 : d'.toList.Perm ls := by
    have e1 : (d'.extract 0 n).toList = d'.toList := by rw [← hs']; simp
    have e2 : (ls.toArray.extract 0 n).toList = ls := by rw [← hsz]; simp
    rw [e1, e2] at hpp
    exact hpp
  have hq := own_put (enc := encC (B := B) (w := w) (g := g)) (q := q) (os := os) (d := d') (hl ▸ h.outer) hs'
  refine ⟨rfl, d'.toList.map Subtype.val, ?_, ?_, ⟨?_, ?_⟩, hq.2⟩
  · rw [← hval]; exact hp1.map _
  · rw [List.pairwise_map, List.pairwise_iff_getElem]
    intro i j hi hj hij
    have := hsort i j (Nat.zero_le _) hij (by simpa [hs'] using hj)
    rw [ltC] at this
    simp only [decide_eq_false_iff_not] at this
    have hi' : i < d'.size := by simpa using hi
    have hj' : j < d'.size := by simpa using hj
    simpa [getElem!_pos, hi', hj'] using this
  · have e1 : (d'.toList.map Subtype.val).map Prod.fst = d'.toList.map encC := by rw [List.map_map]; rfl
    have e2 : (d'.toList.map Subtype.val).length = n := by simp [hs']
    rw [e1, e2]
    exact hq.1
  · intro p hp
    obtain ⟨x, hx, rfl⟩ := List.mem_map.1 hp
    exact own_grown x.2.1 put_grown (fun k hk e => x.2.2.1 k hk (by injection e))
end Go.Proofs.Ytiiigdcfnnjkcaa.sortClauses
