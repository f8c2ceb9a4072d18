/- The normal form of a formula, of the program; conditions: lengths that fit, empty rows without room. -/
import Derived.Test.YtiiigdcfnnjkcaaRises
import Derived.Laws.ResultCell
namespace Go.Proofs.Ytiiigdcfnnjkcaa.normal
open Go.RowKit Go.Deep Go.Shelf base copy cnf eval own order sorted concat compare inOrder mark clauseOrder sortClauses compactClauses rises

/-- The clauses that a normal form is made of, each in order, none with opposites. -/
def kept (zss : List (List Int)) : List (List Int) := (zss.map ord).filter (fun z => !oppB z)
theorem kept_succ {zss : List (List Int)} {k : Nat} (h : k < zss.length) : kept (zss.take (k + 1)) = kept (zss.take k) ++ (if oppB (ord (zss[k]?.getD [])) then [] else [ord (zss[k]?.getD [])]) := by
  unfold kept
  rw [List.take_succ_eq_append_getElem h, List.map_append, List.filter_append, List.getElem?_eq_getElem h]
  simp only [List.map_cons, List.map_nil, Option.getD_some]
  cases hh : oppB (ord zss[k])
  · simp [hh]
  · simp [hh]
/-- Rows that have no address have no room. -/
def NilCap (w : World) (a : Option Addr) (len : Nat) : Prop := ∀ i, i < len → ∀ b off a' l' c', a = some ⟨b, off, none⟩ → w.cell? ⟨b, off + i, none⟩ = some (.slice a' l' c') → a' = none → c' = 0
theorem copied_caps {w : World} {N : Nat} {zss : List (List Int)} (h : Copied w N zss) : NilCap w (some ⟨N, 0, none⟩) zss.length := fun i hi b off a' l' c' e hc ha => by
  have e1 : (⟨N, 0, none⟩ : Addr) = ⟨b, off, none⟩ := by injection e
  have e2 : N = b := by injection e1
  have e3 : 0 = off := by injection e1
  subst e2
  subst e3
  have h1 := World.rowIs.cell h.1 hi
  rw [Nat.zero_add] at hc
  rw [hc] at h1
  injection h1 with h1
  injection h1 with h1
  rw [ha] at h1
  cases h1
theorem caps_below {w w1 : World} {a : Option Addr} {len : Nat} {zss : List (List Int)} (h : NilCap w a len) (hr : IntRows w a len zss) (hb : Below w.heap.size w w1) : NilCap w1 a len := fun i hi b off a' l' c' e hc ha => by
  obtain ⟨b2, o2, e2, x, l, c, hc0, _⟩ := hr.cell i hi
  rw [e] at e2
  injection e2 with e2
  injection e2 with e3 e4
  subst e3
  subst e4
  have h1 := keep hb hc0
  rw [hc] at h1
  injection h1 with h1
  rw [← h1] at hc0
  exact h i hi b off a' l' c' e hc0 ha
theorem rows_append {B : Nat} {w w3 : World} {v v' x : Value} {ps : List (Value × List Int)} {zs : List Int} (h : OwnRows B w v ps) (hx : OwnInts B w x zs) (ho : w3.ownsRow B 37 1 v' (ps.length + 1) (ps.map Prod.fst ++ [x])) (hg : w.grownBy w3 v.ownBlock) : OwnRows B w3 v' (ps ++ [(x, zs)]) := by
  have hap : ∀ q : Value × List Int, OwnInts B w q.1 q.2 → OwnInts B w3 q.1 q.2 := fun q hq => by
    refine own_grown hq hg fun k hk => ?_
    rcases h.outer.2 with ⟨e, _⟩ | ⟨g', c', cur, e, _⟩
    · rw [e]; exact fun e => by cases e
    · subst e
      have hh := OwnRows.apart h hq hk
      intro e
      have e' : some k = some g' := e
      injection e' with e'
      exact hh e'
  refine ⟨by rw [List.length_append, List.map_append]; exact ho, fun q hq => ?_⟩
  rcases List.mem_append.1 hq with hq | hq
  · exact hap q (h.inner q hq)
  · rw [List.mem_singleton] at hq
    subst hq
    exact hap _ hx

/-- No two of the rows lie in one block. -/
def Lone (ps : List (Value × List Int)) : Prop := ps.Pairwise fun p q => ∀ g, p.1.ownBlock = some g → q.1.ownBlock = some g → False
theorem Lone.perm {ps qs : List (Value × List Int)} (h : Lone ps) (hp : qs.Perm ps) : Lone qs := (hp.pairwise_iff fun {_ _} hxy g h1 h2 => hxy g h2 h1).2 h
theorem comp_sublist (ps : List (Value × List Int)) : ∀ m, m ≤ ps.length → (compC ps m).Sublist (ps.take m)
  | 0, _ => by simp [compC]
  | m + 1, hm => by
    have hl : m < ps.length := hm
    unfold compC
    rw [List.take_succ_eq_append_getElem hl, getD_at hl]
    refine List.Sublist.append (comp_sublist ps m (by omega)) ?_
    split
    · exact List.Sublist.refl _
    · exact List.nil_sublist _
theorem lone_add {B : Nat} {w w2 : World} {v x : Value} {ps : List (Value × List Int)} {zs : List Int} (hl : Lone ps) (h : OwnRows B w v ps) (hx : OwnInts w.heap.size w2 x zs) : Lone (ps ++ [(x, zs)]) :=
  List.pairwise_append.2 ⟨hl, by simp, fun p hp q hq g h1 h2 => by
    rw [List.mem_singleton] at hq
    subst hq
    have a1 := (World.ownsRow.lt (h.inner p hp) g h1).2
    have a2 := (World.ownsRow.lt hx g h2).1
    omega⟩

theorem info_row : (Try.prog.info? 37).map (fun i => (i.zero, i.size, i.bytes)) = some (some (.slice none 0 0), 1, 24) := by kernel_rfl

theorem own_mono {B B' n : Nat} {t : TypeId} {w : World} {v : Value} {xs : List Value} (h : w.ownsRow B t 1 v n xs) (hb : B' ≤ B) : w.ownsRow B' t 1 v n xs := by
  obtain ⟨h1, h2⟩ := h
  refine ⟨h1, ?_⟩
  rcases h2 with h2 | ⟨g, cap, cur, e, hg, hh, hn, hm, hs, ht⟩
  · exact .inl h2
  · exact .inr ⟨g, cap, cur, e, Nat.le_trans hb hg, hh, hn, hm, hs, ht⟩
theorem rows_mono {B B' : Nat} {w : World} {v : Value} {ps : List (Value × List Int)} (h : OwnRows B w v ps) (hb : B' ≤ B) : OwnRows B' w v ps := ⟨own_mono h.outer hb, fun p hp => (h.inner p hp).mono hb⟩
/-- A store ahead of what a list of clauses owns leaves it. -/
theorem own_ahead {B n b o : Nat} {t : TypeId} {w : World} {v x : Value} {xs : List Value} (h : w.ownsRow B t 1 v n xs) (hb : b < B) : (w.setCell ⟨b, o, none⟩ x).ownsRow B t 1 v n xs := by
  obtain ⟨h1, h2⟩ := h
  refine ⟨h1, ?_⟩
  rcases h2 with h2 | ⟨g, cap, cur, e, hg, hh, hn, hm, hs, ht⟩
  · exact .inl h2
  · refine .inr ⟨g, cap, cur, e, hg, ?_, hn, hm, hs, ht⟩
    rw [Sort.setCell_eq]
    show (w.heap.modify b _)[g]? = _
    rw [Array.getElem?_modify, if_neg (by omega), hh]
theorem rows_ahead {B b o : Nat} {w : World} {v x : Value} {ps : List (Value × List Int)} (h : OwnRows B w v ps) (hb : b < B) : OwnRows B (w.setCell ⟨b, o, none⟩ x) v ps := ⟨own_ahead h.outer hb, fun p hp => own_ahead (h.inner p hp) hb⟩

theorem sort_any (B : Nat) (v : Value) (ps : List (Value × List Int)) (w : World) (h : OwnRows B w v ps) (hz : ∀ p ∈ ps, ∀ z ∈ p.2, -40 ≤ z ∧ z ≤ 40) (hn : ps.length ≤ 1048576) :
    Calls Try.prog 33 #[v, .func (.func 34) #[] #[]] w fun e w' => e = .returned (.tuple #[]) ∧ ∃ qs, qs.Perm ps ∧ qs.Pairwise (fun a b => ¬ cmpL b.2 a.2 < 0) ∧ OwnRows B w' v qs ∧ Below B w w' := by
  by_cases hp : ps = []
  · subst hp
    have hform : ∃ p c, v = .slice p 0 c := by
      rcases h.outer.2 with ⟨e, _⟩ | ⟨g, c, cur, e, _⟩
      · exact ⟨_, _, e⟩
      · exact ⟨_, _, e⟩
    obtain ⟨p, c, rfl⟩ := hform
    have hN := AnyF.slices_SortFunc_none (P := Try.prog) (ρ := Try.sortC_ren) { Try.sortC with } p c (.func (.func 34) #[] #[]) w
    change Calls Try.prog 33 _ _ _ at hN
    refine hN.mono ?_
    rintro e w' ⟨rfl, rfl⟩
    exact ⟨rfl, [], List.Perm.refl _, List.Pairwise.nil, h, Below.refl _ _⟩
  · rcases h.outer.2 with ⟨_, e⟩ | ⟨g, c, cur, e, hg, _⟩
    · exact absurd (List.length_eq_zero_iff.1 e) hp
    · subst e
      refine (sort_clauses B g _ c ps w h hz hn hp).mono ?_
      rintro e w' ⟨rfl, qs, h1, h2, h3, h4⟩
      exact ⟨rfl, qs, h1, h2, h3, h4.mono hg⟩

theorem compact_none (w : World) : Calls Try.prog 35 #[.slice none 0 0, .func (.func 36) #[] #[]] w fun e w' => e = .returned (.slice none 0 0) ∧ w' = w := by
  go_enter Try.func35, Try.ntmps35
  go_wp2
  go_ret
  exact ⟨rfl, rfl⟩

theorem compact_any (B : Nat) (v : Value) (ps : List (Value × List Int)) (w : World) (h : OwnRows B w v ps) (hn : ps.length ≤ 1048576) :
    Calls Try.prog 35 #[v, .func (.func 36) #[] #[]] w fun e w' => ∃ p n c, e = .returned (.slice p n c) ∧ OwnRows B w' (.slice p n c) (compC ps ps.length) ∧ Below B w w' := by
  rcases h.outer.2 with ⟨e, e'⟩ | ⟨g, c, cur, e, hg, _, hc, hm, _⟩
  · subst e
    have e2 : ps = [] := List.length_eq_zero_iff.1 e'
    subst e2
    refine (compact_none w).mono ?_
    rintro e w' ⟨rfl, rfl⟩
    exact ⟨_, _, _, rfl, h, Below.refl _ _⟩
  · subst e
    refine (compact_clauses B g _ c ps w h hn hc hm).mono ?_
    rintro e w' ⟨rfl, h3, h4⟩
    exact ⟨_, _, _, rfl, h3, h4.mono hg⟩

set_option maxHeartbeats 1600000 in
set_option maxRecDepth 8000 in
theorem normal_impl (vars : Int) (a : Option Addr) (len cap : Nat) (zss : List (List Int)) (w : World) (hr : IntRows w a len zss) (hnc : NilCap w a len) :
    Calls Try.prog 8 #[.agg #[.int .i64 vars, .slice a len cap]] w fun e w' =>
      (cnfB vars zss = false ∧ e = .returned (.tuple #[.agg #[.int .i64 0, .slice none 0 0], .int .i64 1]) ∧ Below w.heap.size w w') ∨
      (cnfB vars zss = true ∧ ∃ v qs, e = .returned (.tuple #[.agg #[.int .i64 vars, v], .int .i64 0]) ∧ OwnRows w.heap.size w' v qs ∧ (qs.Pairwise fun p q => cmpL p.2 q.2 < 0) ∧ (∀ z, z ∈ qs.map (·.2) ↔ z ∈ kept zss) ∧ Lone qs ∧ Below w.heap.size w w') := by
  have hmost := hr.most
  unfold maxLen at hmost
  have HR := hid hr
  have HL := hid hr.length
  have HNC := hid hnc
  clear hr hnc
  obtain ⟨i0, hi, hzz⟩ := Option.map_eq_some_iff.1 info_row
  simp only [Prod.mk.injEq] at hzz
  obtain ⟨hz0, hz1, hz2⟩ := hzz
  have HI := hid hi
  have HZ0 := hid hz0
  have HZ1 := hid hz1
  have HZ2 := hid hz2
  clear hi hz0 hz1 hz2
  cases hB : cnfB vars zss
  · go_enter Try.func8, Try.ntmps8
    go_wp2_with fail
    refine (cnfOK_impl vars a len cap zss _ (HR.out.below (by repeat (first | exact Below.refl _ _ | assumption | refine Below.drew ?_ | refine Below.alloc ?_ (by first | exact Nat.le_refl _ | omega | (simp; done) | (simp; omega)) _ | refine Below.setCell ?_ (by first | exact Nat.le_refl _ | omega | (simp; done) | (simp; omega)) _)))).mono ?_
    rintro e w1 ⟨rfl, hb1⟩
    have HB := hid ((show Below w.heap.size w _ from (by repeat (first | exact Below.refl _ _ | assumption | refine Below.drew ?_ | refine Below.alloc ?_ (by first | exact Nat.le_refl _ | omega | (simp; done) | (simp; omega)) _ | refine Below.setCell ?_ (by first | exact Nat.le_refl _ | omega | (simp; done) | (simp; omega)) _))).trans (hb1.mono (by simp; omega)))
    have q0 : w1.cell? ⟨w.heap.size + 1, 0, none⟩ = some (.int .i64 0) := keep hb1 (by simp [go_sem])
    have q1 : w1.cell? ⟨w.heap.size + 1, 1, none⟩ = some (.slice none 0 0) := keep hb1 (by simp [go_sem])
    have q2 : w1.frozen? ⟨w.heap.size + 1, 0, none⟩ = false := by rw [hb1.frozen (p := ⟨w.heap.size + 1, 0, none⟩) (by simp)]; simp [go_sem]
    have q3 : w1.frozen? ⟨w.heap.size + 1, 1, none⟩ = false := by rw [hb1.frozen (p := ⟨w.heap.size + 1, 1, none⟩) (by simp)]; simp [go_sem]
    clear hb1
    go_wp2
    (try simp only [Exit.inBlock, Exit.then])
    refine bodyPost_ret (v := .tuple #[.agg #[.int .i64 0, .slice none 0 0], .int .i64 1]) (by rw [results_cell_tmp rfl]; go_simp) rfl ?_
    exact .inl ⟨by trivial, rfl, (HB.out.setCell (by dsimp only; omega) _).setCell (by dsimp only; omega) _⟩
  · have h40 := cnf_vars hB
    have HCl : Hid (∀ i, i < len → clauseB vars (zss[i]?.getD []) = true) := fun i hi => cnf_clause hB i (by rw [HL.out]; exact hi)
    have hle : len ≤ 300 := by
      have h := hB
      simp only [cnfB, Bool.and_eq_true, decide_eq_true_eq] at h
      rw [HL.out] at h
      exact h.1.2.2
    go_enter Try.func8, Try.ntmps8
    go_wp2_with fail
    refine (cnfOK_impl vars a len cap zss _ (HR.out.below (by repeat (first | exact Below.refl _ _ | assumption | refine Below.drew ?_ | refine Below.alloc ?_ (by first | exact Nat.le_refl _ | omega | (simp; done) | (simp; omega)) _ | refine Below.setCell ?_ (by first | exact Nat.le_refl _ | omega | (simp; done) | (simp; omega)) _)))).mono ?_
    rintro e w1 ⟨rfl, hb1⟩
    have HB := hid ((show Below w.heap.size w _ from (by repeat (first | exact Below.refl _ _ | assumption | refine Below.drew ?_ | refine Below.alloc ?_ (by first | exact Nat.le_refl _ | omega | (simp; done) | (simp; omega)) _ | refine Below.setCell ?_ (by first | exact Nat.le_refl _ | omega | (simp; done) | (simp; omega)) _))).trans (hb1.mono (by simp; omega)))
    have b0 : w1.cell? ⟨w.heap.size, 0, none⟩ = some (.int .i64 vars) := keep hb1 (by simp [go_sem])
    have b1 : w1.cell? ⟨w.heap.size, 1, none⟩ = some (.slice a len cap) := keep hb1 (by simp [go_sem])
    have q0 : w1.cell? ⟨w.heap.size + 1, 0, none⟩ = some (.int .i64 0) := keep hb1 (by simp [go_sem])
    have q1 : w1.cell? ⟨w.heap.size + 1, 1, none⟩ = some (.slice none 0 0) := keep hb1 (by simp [go_sem])
    have q2 : w1.frozen? ⟨w.heap.size + 1, 0, none⟩ = false := by rw [hb1.frozen (p := ⟨w.heap.size + 1, 0, none⟩) (by simp)]; simp [go_sem]
    have q3 : w1.frozen? ⟨w.heap.size + 1, 1, none⟩ = false := by rw [hb1.frozen (p := ⟨w.heap.size + 1, 1, none⟩) (by simp)]; simp [go_sem]
    have Q0 := hid q0
    have Q1 := hid q1
    have Q2 := hid q2
    have Q3 := hid q3
    clear q0 q1 q2 q3
    have B0 := hid b0
    have B1 := hid b1
    have HS1 : Hid (w.heap.size + 2 ≤ w1.heap.size) := by
      have := hb1.size
      simp at this
      exact hid this
    clear hb1
    go_wp2_with fail
    go_loopw [15, 4] (fun i v wr => ∃ (k : Nat) (ps : List (Value × List Int)), k ≤ len ∧ i = .int .i64 k ∧ OwnRows w1.heap.size wr v ps ∧ ps.map (·.2) = kept (zss.take k) ∧ Lone ps ∧ Below w1.heap.size w1 wr) (fun i _ _ => len - (intOf i).toNat)
    case atStart => exact ⟨0, [], Nat.zero_le _, rfl, OwnRows.nil _ _, by simp [kept], List.Pairwise.nil, Below.refl _ _⟩
    case round =>
      rename_i v0
      obtain ⟨k, ps, hk, rfl, hown, hmap, hlone, hbel⟩ := hrel
      have HLo := hid hlone
      clear hlone
      have HO := hid hown
      have HM := hid hmap
      have HB2 := hid hbel
      have HBA := hid (HB.out.trans (hbel.mono HB.out.size))
      by_cases hlt : k < len
      · obtain ⟨b, off, rfl, x, l, c, hc0, hx0⟩ := HR.out.cell k hlt
        have HX := hid (hx0.below HBA.out)
        have hc := keep HBA.out hc0
        have HNc := hid (HNC.out k hlt b off x l c rfl hc0)
        have HCk := hid (HCl.out k hlt)
        have HK := hid (kept_succ (zss := zss) (k := k) (by rw [HL.out]; omega))
        have HPl : Hid (ps.length ≤ k) := by
          show _ ≤ _
          have e : ps.length = (ps.map (·.2)).length := by simp
          rw [e, hmap]
          unfold kept
          refine Nat.le_trans (List.length_filter_le _ _) ?_
          rw [List.length_map]
          exact List.length_take_le _ _
        have hl12 : Hid (l = (zss[k]?.getD []).length) := hid hx0.length.symm
        clear hown hmap hbel hc0 hx0
        generalize zss[k]?.getD [] = zs at *
        have HRg : Hid (∀ z ∈ zs, -40 ≤ z ∧ z ≤ 40) := fun z hz => by
          have h := HCk.out
          simp only [clauseB, Bool.and_eq_true, List.all_eq_true] at h
          have := litB_range (h.2 z hz)
          omega
        have HLn : Hid (l ≤ 12) := by
          show _ ≤ _
          have h := HCk.out
          simp only [clauseB, Bool.and_eq_true, decide_eq_true_eq] at h
          rw [hl12.out]
          exact h.1
        have HB0 := hid HB2.out.size
        go_wp2_with fail
        refine (inOrder_impl x l c zs _ HX.out HNc.out HRg.out (by have := HLn.out; omega)).mono ?_
        rintro e w2 ⟨y, rfl, hoy, hby⟩
        have HB3 := hid (HB2.out.trans (hby.mono HB0.out))
        have HO2 := hid (HO.out.below hby)
        have HOy := hid (hoy.mono HB0.out)
        have HLo2 := hid (lone_add HLo.out HO.out hoy)
        have HS2 := hid HB3.out.size
        obtain ⟨ay, cy, rfl, hry⟩ := hoy.form
        have HRy := hid hry
        have HZy : Hid (∀ i, i < (ord zs).length → -40 ≤ (ord zs)[i]?.getD 0 ∧ (ord zs)[i]?.getD 0 ≤ 40) := fun i hi => by
          rw [List.getElem?_eq_getElem hi]
          exact HRg.out _ (((ord_rises zs).2 _).1 (List.getElem_mem hi))
        clear hoy hby hry hc
        generalize (ord zs) = oz at *
        cases hop : oppB oz
        · have HOp := hid hop
          have HK' := HK.out
          rw [hop] at HK'
          simp only [Bool.false_eq_true, if_false] at HK'
          have HK2 := hid HK'
          clear HK' HK
          go_wp2_with fail
          refine (opposites_impl ay oz.length cy oz _ HRy.out HZy.out).mono ?_
          rintro e w3 ⟨rfl, q, hw3⟩
          have HW3 := hid hw3
          have hd3 : Below w2.heap.size w2 w3 := by rw [hw3]; exact below_drewN _ _
          have HD3 := hid hd3
          have HB4 := hid (HB3.out.trans (hd3.mono HS2.out))
          have HS3 := hid HB4.out.size
          have HO3 := hid (HO2.out.below hd3)
          have HOy3 := hid (HOy.out.below hd3)
          clear hw3 hd3
          rw [hop]
          clear hop
          go_wp2_with (at_builtin; (refine wpList_append_own _ rfl _ _ 23 rfl w1.heap.size 37 i0 (.slice none 0 0) 1 24 Try.underlying23 HI.out HZ0.out HZ1.out HZ2.out rfl (by decide) _ _ _ rfl (World.ownsRow.alloc HO3.out.outer _) ⟨w3.heap.size, 0, none⟩ 1 1 [.slice ay oz.length cy] rfl rfl (cell_one_new _ _ _) (fun x hx => by simp at hx; subst hx; rfl) (by have := HPl.out; unfold maxLen; omega) (by have := HPl.out; omega) (by have := HS3.out; simp; omega) ?_); intro v' w4 hown' hgrow4 hnil4)
          have HO4 : Hid (OwnRows w1.heap.size w4 v' (ps ++ [(.slice ay oz.length cy, oz)])) :=
            rows_append (OwnRows.below HO3.out (by repeat (first | exact Below.refl _ _ | assumption | refine Below.drew ?_ | refine Below.alloc ?_ (by first | exact Nat.le_refl _ | omega | (simp; done) | (simp; omega)) _ | refine Below.setCell ?_ (by first | exact Nat.le_refl _ | omega | (simp; done) | (simp; omega)) _))) (OwnInts.below HOy3.out (by repeat (first | exact Below.refl _ _ | assumption | refine Below.drew ?_ | refine Below.alloc ?_ (by first | exact Nat.le_refl _ | omega | (simp; done) | (simp; omega)) _ | refine Below.setCell ?_ (by first | exact Nat.le_refl _ | omega | (simp; done) | (simp; omega)) _))) hown' hgrow4
          have HB5 : Hid (Below w1.heap.size w1 w4) := (HB4.out.alloc HS3.out _).grown hgrow4 (by have := HS3.out; simp; omega) (fun k hk => (World.ownsRow.lt HO3.out.outer k hk).1)
          clear hown' hgrow4 hnil4
          go_wp2
          go_roundw
          case rel => exact ⟨k + 1, _, by omega, by go_num, HO4.out, by rw [HK2.out, List.map_append, HM.out]; rfl, HLo2.out, HB5.out⟩
          case measure => simp [intOf]; omega
        · have HOp := hid hop
          have HK' := HK.out
          rw [hop] at HK'
          simp only [if_true, List.append_nil] at HK'
          have HK2 := hid HK'
          clear HK' HK
          go_wp2_with fail
          refine (opposites_impl ay oz.length cy oz _ HRy.out HZy.out).mono ?_
          rintro e w3 ⟨rfl, q, hw3⟩
          have hd3 : Below w2.heap.size w2 w3 := by rw [hw3]; exact below_drewN _ _
          have HB4 := hid (HB3.out.trans (hd3.mono HS2.out))
          have HO3 := hid (HO2.out.below hd3)
          clear hw3 hd3
          rw [hop]
          clear hop
          go_wp2
          go_roundw
          case rel => exact ⟨k + 1, ps, by omega, by go_num, HO3.out, by rw [HK2.out, HM.out], HLo.out, HB4.out⟩
          case measure => simp [intOf]; omega
      · have e : k = len := by omega
        subst e
        have HMk : Hid (ps.map (·.2) = kept zss) := by
          show _ = _
          rw [HM.out, List.take_of_length_le (by rw [HL.out]; omega)]
        have HPl : Hid (ps.length ≤ k) := by
          show _ ≤ _
          have e : ps.length = (ps.map (·.2)).length := by simp
          rw [e, hmap]
          unfold kept
          refine Nat.le_trans (List.length_filter_le _ _) ?_
          rw [List.length_map]
          exact List.length_take_le _ _
        have HZp : Hid (∀ p ∈ ps, ∀ z ∈ p.2, -40 ≤ z ∧ z ≤ 40) := fun p hp z hz => by
          have h1 : p.2 ∈ kept zss := by rw [← HMk.out]; exact List.mem_map.2 ⟨p, hp, rfl⟩
          unfold kept at h1
          obtain ⟨zs, hzs, e⟩ := List.mem_map.1 (List.mem_filter.1 h1).1
          rw [← e] at hz
          have h2 := ((ord_rises zs).2 z).1 hz
          obtain ⟨i, hi, e⟩ := List.mem_iff_getElem.1 hzs
          have h3 := HCl.out i (by rw [← HL.out]; exact hi)
          rw [List.getElem?_eq_getElem hi, Option.getD_some, e] at h3
          simp only [clauseB, Bool.and_eq_true, List.all_eq_true] at h3
          have := litB_range (h3.2 z h2)
          omega
        clear hown hmap hbel
        have HB0 := hid HB2.out.size
        go_wp2_with fail
        refine (sort_any w1.heap.size _ ps _ HO.out HZp.out (by have := HPl.out; omega)).mono ?_
        rintro e w2 ⟨rfl, qs, hperm, hsort, hoq, hb2⟩
        have HB3 := hid (HB2.out.trans hb2)
        have HOq := hid hoq
        have HPm := hid hperm
        have HSo := hid hsort
        clear hoq hb2 hperm hsort
        have HQl : Hid (qs.length ≤ 1048576) := by
          show _ ≤ _
          have := HPm.out.length_eq
          have := HPl.out
          omega
        have hs1 := HS1.out
        have HKeep : Hid (∀ W, Below w1.heap.size w1 W → W.cell? ⟨w.heap.size, 0, none⟩ = some (.int .i64 vars) ∧ W.cell? ⟨w.heap.size + 1, 0, none⟩ = some (.int .i64 0) ∧ W.cell? ⟨w.heap.size + 1, 1, none⟩ = some (.slice none 0 0) ∧ W.frozen? ⟨w.heap.size + 1, 0, none⟩ = false ∧ W.frozen? ⟨w.heap.size + 1, 1, none⟩ = false) := fun W hW =>
          ⟨keep hW B0.out, keep hW Q0.out, keep hW Q1.out, by rw [(bcell hW).2 _ _ (by omega)]; exact Q2.out, by rw [(bcell hW).2 _ _ (by omega)]; exact Q3.out⟩
        have HDone : Hid (∀ W v', OwnRows w1.heap.size W v' (compC qs qs.length) → Below w1.heap.size w1 W → OwnRows w.heap.size ((W.setCell ⟨w.heap.size + 1, 0, none⟩ (.int .i64 vars)).setCell ⟨w.heap.size + 1, 1, none⟩ v') v' (compC qs qs.length) ∧ ((compC qs qs.length).Pairwise fun p q => cmpL p.2 q.2 < 0) ∧ (∀ z, z ∈ (compC qs qs.length).map (·.2) ↔ z ∈ kept zss) ∧ Lone (compC qs qs.length) ∧ Below w.heap.size w ((W.setCell ⟨w.heap.size + 1, 0, none⟩ (.int .i64 vars)).setCell ⟨w.heap.size + 1, 1, none⟩ v')) := fun W v' h1 h2 =>
          ⟨rows_mono (rows_ahead (rows_ahead h1 (by omega)) (by omega)) (by omega), comp_rises HSo.out _ (Nat.le_refl _), fun z => by
            rw [comp_mem qs _ (Nat.le_refl _), List.take_length, ← HMk.out]
            exact (HPm.out.map _).mem_iff, (HLo.out.perm HPm.out).sublist (by have := comp_sublist qs _ (Nat.le_refl _); rwa [List.take_length] at this), ((HB.out.trans (h2.mono (by omega))).setCell (by dsimp only; omega) _).setCell (by dsimp only; omega) _⟩
        have HN1 := hid hs1
        clear hs1
        obtain ⟨x0, x1, x2, x3, x4⟩ := HKeep.out w2 HB3.out
        clear b0
        clear hB hmost h40 hk hlt
        go_wp2
        go_region_with (go_at_call 35; refine (compact_any w1.heap.size _ qs _ (OwnRows.below HOq.out (by repeat (first | exact Below.refl _ _ | assumption | refine Below.drew ?_ | refine Below.alloc ?_ (by first | exact Nat.le_refl _ | omega | (simp; done) | (simp; omega)) _ | refine Below.setCell ?_ (by first | exact Nat.le_refl _ | omega | (simp; done) | (simp; omega)) _))) HQl.out).mono ?_; rintro e w3 ⟨p3, n3, c3, rfl, ho3, hb3⟩; have hb3' : Below w1.heap.size w1 w3 := HB3.out.trans ((show Below w1.heap.size w2 _ from (by repeat (first | exact Below.refl _ _ | assumption | refine Below.drew ?_ | refine Below.alloc ?_ (by first | exact Nat.le_refl _ | omega | (simp; done) | (simp; omega)) _ | refine Below.setCell ?_ (by first | exact Nat.le_refl _ | omega | (simp; done) | (simp; omega)) _))).trans hb3); obtain ⟨y0, y1, y2, y3, y4⟩ := HKeep.out w3 hb3'; clear hb3)
        all_goals
          have HD := hid (HDone.out _ _ ho3 hb3')
          clear ho3 hb3'
          go_wp2
          (try simp only [Exit.inBlock, Exit.then])
          refine bodyPost_ret (v := .tuple #[.agg #[.int .i64 vars, .slice p3 n3 c3], .int .i64 0]) (by rw [results_cell_tmp rfl]; go_simp) rfl ?_
          exact .inr ⟨trivial, _, _, rfl, HD.out⟩
end Go.Proofs.Ytiiigdcfnnjkcaa.normal
