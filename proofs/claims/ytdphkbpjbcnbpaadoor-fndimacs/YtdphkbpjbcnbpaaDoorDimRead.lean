/- A formula's first line and the clauses behind it, of the program, where they are right; conditions: lengths that fit. -/
import Derived.Test.YtdphkbpjbcnbpaaDoorConcatW
import Derived.Test.YtdphkbpjbcnbpaaDoorReadDim
import Derived.Test.YtdphkbpjbcnbpaaDoorCnfDraw
import Derived.WalkMore
namespace Go.Proofs.YtdphkbpjbcnbpaaDoor.dimRead
open Go.RowKit Go.Deep base numbers words cuts stepRead readSem readDim concatW
set_option linter.unusedVariables false

set_option maxHeartbeats 1600000 in
set_option maxRecDepth 8000 in
theorem head_impl (a : Option Addr) (cap : Nat) (l : List Wd) (v n : Int) (w : World) (hr : WordRow w a 4 l) (h0 : (l[0]?.getD ((⟨#[]⟩, 0) : Wd)).1.toList = [112]) (h1 : (l[1]?.getD ((⟨#[]⟩, 0) : Wd)).1.toList = [99, 110, 102])
    (h2 : isNum (l[2]?.getD ((⟨#[]⟩, 0) : Wd)).1 = true ∧ numS (l[2]?.getD ((⟨#[]⟩, 0) : Wd)).1 = v) (h3 : isNum (l[3]?.getD ((⟨#[]⟩, 0) : Wd)).1 = true ∧ numS (l[3]?.getD ((⟨#[]⟩, 0) : Wd)).1 = n)
    (v0 : 0 ≤ v) (v1 : v ≤ 40) (n0 : 0 ≤ n) (n1 : n ≤ 300) :
    Calls Tryd.prog 19 #[.slice a 4 cap] w fun e w' => e = .returned (.tuple #[.int .i64 v, .int .i64 n, .int .i64 0, .int .i64 0]) ∧ w' = w := by
  obtain ⟨b, off, rfl, c0, -⟩ := hr.cell 0 (by omega)
  obtain ⟨b', off', e, c1, -⟩ := hr.cell 1 (by omega)
  cases e
  obtain ⟨b', off', e, c2, -⟩ := hr.cell 2 (by omega)
  cases e
  obtain ⟨b', off', e, c3, -⟩ := hr.cell 3 (by omega)
  cases e
  clear hr
  generalize (l[0]?.getD ((⟨#[]⟩, 0) : Wd)).1 = t0 at *
  generalize (l[1]?.getD ((⟨#[]⟩, 0) : Wd)).1 = t1 at *
  generalize (l[2]?.getD ((⟨#[]⟩, 0) : Wd)).1 = t2 at *
  generalize (l[3]?.getD ((⟨#[]⟩, 0) : Wd)).1 = t3 at *
  simp only [Nat.zero_mul, Nat.add_zero, Nat.one_mul, Nat.reduceMul] at c0 c1 c2 c3
  have HN2 := hid (number_impl t2 w)
  have HN3 := hid (number_impl t3 w)
  rw [h2.1, h2.2] at HN2
  rw [h3.1, h3.2] at HN3
  clear h2 h3
  have q0 : (t0.toList == [112]) = true := by rw [h0]; rfl
  have q1 : (t1.toList == [99, 110, 102]) = true := by rw [h1]; rfl
  clear h0 h1
  go_enter Tryd.func19, Tryd.ntmps19
  go_wp2_with fail
  refine HN2.out.mono ?_
  rintro e w1 ⟨rfl, hw1⟩
  subst hw1
  go_wp2_with fail
  refine HN3.out.mono ?_
  rintro e w1 ⟨rfl, hw1⟩
  subst hw1
  go_wp2
  (try simp only [Exit.inBlock, Exit.then])
  refine bodyPost_ret (v := .tuple #[.int .i64 v, .int .i64 n, .int .i64 0, .int .i64 0]) (by simp [results, Tryd.results19, go_sem]) rfl ?_
  exact ⟨rfl, rfl⟩
theorem rd_step {vars : Int} {count : Nat} {z : Int} {r cur : List Int} {acc L : List (List Int)} (h : rdC vars count (z :: r) acc cur = some L) :
    acc.length ≠ count ∧ ((z = 0 ∧ rdC vars count r (acc ++ [cur]) [] = some L) ∨ (z ≠ 0 ∧ litB vars z = true ∧ cur.length ≠ 12 ∧ rdC vars count r acc (cur ++ [z]) = some L)) := by
  rw [rdC] at h
  by_cases h1 : acc.length = count
  · rw [if_pos h1] at h; cases h
  rw [if_neg h1] at h
  refine ⟨h1, ?_⟩
  by_cases h2 : z = 0
  · rw [if_pos h2] at h
    exact .inl ⟨h2, h⟩
  rw [if_neg h2] at h
  cases h3 : litB vars z
  · rw [if_pos h3] at h; cases h
  rw [if_neg (by rw [h3]; simp)] at h
  by_cases h4 : cur.length = 12
  · rw [if_pos h4] at h; cases h
  rw [if_neg h4] at h
  exact .inr ⟨h2, rfl, h4, h⟩
theorem rd_end {vars : Int} {count : Nat} {cur : List Int} {acc L : List (List Int)} (h : rdC vars count [] acc cur = some L) : ¬ acc.length < count ∧ acc = L := by
  rw [rdC] at h
  by_cases h1 : acc.length < count
  · rw [if_pos h1] at h; cases h
  rw [if_neg h1] at h
  exact ⟨h1, by injection h⟩
open rowsOwn in
/-- The clauses so far and the one that grows: no two in one block. -/
structure Cl (B M : Nat) (w : World) (v x : Value) (ps : List (Value × List Int)) (cur : List Int) : Prop where
  rows : OwnRows B w v ps
  low : ∀ p ∈ ps, ∀ g, p.1.ownBlock = some g → g < M
  one : OwnInts M w x cur
  base : B ≤ M
  size : M ≤ w.heap.size
open rowsOwn in
theorem Cl.below {B M : Nat} {w w1 : World} {v x : Value} {ps : List (Value × List Int)} {cur : List Int} (h : Cl B M w v x ps cur) (hb : Below w.heap.size w w1) : Cl B M w1 v x ps cur :=
  ⟨h.rows.below hb, h.low, h.one.below hb, h.base, Nat.le_trans h.size hb.size⟩
open rowsOwn in
theorem Cl.more {B M : Nat} {w w3 : World} {v x x' : Value} {ps : List (Value × List Int)} {cur cur' : List Int} (h : Cl B M w v x ps cur) (hx : OwnInts M w3 x' cur') (hg : w.grownBy w3 x.ownBlock) : Cl B M w3 v x' ps cur' := by
  refine ⟨⟨outer_grown h.rows hg fun g hv e => ?_, fun p hp => own_grown (h.rows.inner p hp) hg fun g hv e => ?_⟩, h.low, hx, h.base, Nat.le_trans h.size hg.size⟩
  · rcases h.rows.outer.2 with ⟨e1, _⟩ | ⟨g', cap, cur1, e1, _⟩
    · rw [e1] at hv; cases hv
    · subst e1
      have hv' : some g' = some g := hv
      injection hv' with hv'
      subst hv'
      exact OwnRows.apart h.rows (p := (x, cur)) (h.one.mono h.base) (k := g') e.symm rfl
  · have h1 := h.low p hp g hv
    have h2 := (World.ownsRow.lt h.one g e.symm).1
    omega
open rowsOwn in
theorem Cl.push {B M : Nat} {w w3 : World} {v v' x : Value} {ps : List (Value × List Int)} {cur : List Int} (h : Cl B M w v x ps cur) (ho : w3.ownsRow B 45 1 v' (ps.length + 1) (ps.map Prod.fst ++ [x])) (hg : w.grownBy w3 v.ownBlock) : Cl B w3.heap.size w3 v' (.slice none 0 0) (ps ++ [(x, cur)]) [] := by
  have hr := cnfDraw.rows_append h.rows (h.one.mono h.base) ho hg
  exact ⟨hr, rows_lt hr, OwnInts.nil _ _, Nat.le_trans h.base (Nat.le_trans h.size hg.size), Nat.le_refl _⟩
theorem drop_num {l : List Wd} {k : Nat} (h : k < l.length) : (l.map fun x => numS x.1).drop k = numS (l[k]?.getD ((⟨#[]⟩, 0) : Wd)).1 :: (l.map fun x => numS x.1).drop (k + 1) := by
  rw [List.drop_eq_getElem_cons (by simpa using h), List.getElem_map, List.getElem?_eq_getElem h]; rfl
open rowsOwn in
set_option maxHeartbeats 3200000 in
set_option maxRecDepth 8000 in
theorem clauses_impl (a : Option Addr) (len cap : Nat) (l : List Wd) (vars fin : Int) (count : Nat) (L : List (List Int)) (w : World) (hr : WordRow w a len l) (hv0 : 0 ≤ vars) (hv1 : vars ≤ 40) (hc : count ≤ 300)
    (hn : ∀ x ∈ l, isNum x.1 = true) (hL : rdC vars count (l.map fun x => numS x.1) [] [] = some L) (hlm : len ≤ 1048576) :
    Calls Tryd.prog 20 #[.slice a len cap, .int .i64 vars, .int .i64 count, .int .i64 fin] w fun e w' => ∃ v ps, e = .returned (.tuple #[v, .int .i64 0, .int .i64 0]) ∧ OwnRows w.heap.size w' v ps ∧ ps.map (·.2) = L ∧ Below w.heap.size w w' := by
  obtain ⟨i0, hi, hzz⟩ := Option.map_eq_some_iff.1 info_int
  simp only [Prod.mk.injEq] at hzz
  obtain ⟨hz0, hz1, hz2⟩ := hzz
  have HI := hid hi
  have HZ0 := hid hz0
  have HZ1 := hid hz1
  have HZ2 := hid hz2
  clear hi hz0 hz1 hz2
  obtain ⟨i1, hi, hzz⟩ := Option.map_eq_some_iff.1 info_row
  simp only [Prod.mk.injEq] at hzz
  obtain ⟨hz0, hz1, hz2⟩ := hzz
  have HI1 := hid hi
  have HZ01 := hid hz0
  have HZ11 := hid hz1
  have HZ21 := hid hz2
  clear hi hz0 hz1 hz2
  have HR := hid hr
  have HN := hid hn
  have HLr := hid hL
  clear hr hn hL
  go_enter Tryd.func20, Tryd.ntmps20
  go_wp2
  go_step3
  go_wp2
  go_step3
  go_wp2
  go_loopw [20, 11, 12] (fun i v x wr => ∃ (k M : Nat) (ps : List (Value × List Int)) (cur : List Int), k ≤ len ∧ i = .int .i64 k ∧ Cl w.heap.size M wr v x ps cur ∧ ps.length ≤ count ∧ cur.length ≤ 12 ∧ Below w.heap.size w wr ∧ rdC vars count ((l.map fun x => numS x.1).drop k) (ps.map (·.2)) cur = some L) (fun i _ _ _ => len - (intOf i).toNat)
  case atStart => exact ⟨0, w.heap.size, [], [], Nat.zero_le _, rfl, ⟨OwnRows.nil _ _, (fun p hp => by cases hp), OwnInts.nil _ _, Nat.le_refl _, Nat.le_refl _⟩, Nat.zero_le _, Nat.zero_le _, Below.refl _ _, by rw [List.drop_zero]; exact HLr.out⟩
  case round =>
    rename_i v x
    obtain ⟨k, M, ps, cur, hk, rfl, hcl, hpc, hcu, hbel, hrd⟩ := hrel
    have HCl := hid hcl
    have HB := hid hbel
    obtain ⟨va, vc, rfl⟩ := cnfDraw.own_form hcl.rows
    obtain ⟨xa, xc, rfl, -⟩ := hcl.one.form
    by_cases hlt : k < len
    · obtain ⟨b, off, rfl, hw0, hw1⟩ := HR.out.cell k hlt
      replace hw0 := keep hbel hw0
      replace hw1 := keep hbel hw1
      have hbw := World.block_lt_of_cell? _ _ hw0
      have hkl : k < l.length := by rw [HR.out.length]; exact hlt
      rw [drop_num hkl] at hrd
      have hnum : isNum (l[k]?.getD ((⟨#[]⟩, 0) : Wd)).1 = true := HN.out _ (by rw [List.getElem?_eq_getElem hkl]; exact List.getElem_mem _)
      generalize l[k]?.getD ((⟨#[]⟩, 0) : Wd) = y at *
      obtain ⟨t, q⟩ := y
      simp only at hw0 hw1 hrd hnum
      have HNum := hid (fun w => number_impl t w)
      rw [hnum] at HNum
      obtain ⟨hne, hcase⟩ := rd_step hrd
      rw [List.length_map] at hne
      have hq1 : ((ps.length : Int) == (count : Int)) = false := beq_eq_false_iff_ne.2 (by omega)
      clear hrd hnum hcl hbel
      generalize numS t = n at *
      have HBA : Hid (Below wr.heap.size wr (wr.alloc (.cells #[.string t, .int .i64 q] 58))) := hid (by repeat (first | exact Below.refl _ _ | assumption | refine Below.drew ?_ | refine Below.alloc ?_ (by first | exact Nat.le_refl _ | omega | (simp; done) | (simp; omega)) _ | refine Below.setCell ?_ (by first | exact Nat.le_refl _ | omega | (simp; done) | (simp; omega)) _))
      have HBW : Hid (Below w.heap.size w (wr.alloc (.cells #[.string t, .int .i64 q] 58))) := hid (HB.out.alloc HB.out.size _)
      rcases hcase with ⟨rfl, hnx⟩ | ⟨hz, hlit, h12, hnx⟩
      · have HNx := hid hnx
        clear hnx
        go_wp2_with fail
        refine (HNum.out _).mono ?_
        rintro e w1 ⟨rfl, hw1⟩
        subst hw1
        go_wp2_with (at_builtin; (refine wpList_append_own _ rfl _ _ 23 rfl w.heap.size 45 i1 (.slice none 0 0) 1 24 Tryd.underlying23 HI1.out HZ01.out HZ11.out HZ21.out rfl (by decide) _ _ _ rfl (words.own_pass HCl.out.rows.outer (by repeat (first | exact Below.refl _ _ | assumption | refine Below.drew ?_ | refine Below.alloc ?_ (by first | exact Nat.le_refl _ | omega | (simp; done) | (simp; omega)) _ | refine Below.setCell ?_ (by first | exact Nat.le_refl _ | omega | (simp; done) | (simp; omega)) _))) ⟨wr.heap.size + 1, 0, none⟩ 1 1 [.slice xa cur.length xc] rfl rfl (at_one (by simp [go_sem])) (by simp [Value.oneCell']) (by unfold maxLen; omega) (by omega) (by have := HB.out.size; simp; omega) ?_); intro v2 w2 hown2 hg2 hnil2)
        have hbb : Below wr.heap.size wr ((wr.alloc (.cells #[.string t, .int .i64 q] 58)).alloc (.cells #[.slice xa cur.length xc] 45)) := (by repeat (first | exact Below.refl _ _ | assumption | refine Below.drew ?_ | refine Below.alloc ?_ (by first | exact Nat.le_refl _ | omega | (simp; done) | (simp; omega)) _ | refine Below.setCell ?_ (by first | exact Nat.le_refl _ | omega | (simp; done) | (simp; omega)) _))
        have HCl2 := hid ((HCl.out.below hbb).push hown2 hg2)
        have HB2 : Hid (Below w.heap.size w w2) := hid (Below.grown (HB.out.trans (hbb.mono HB.out.size)) hg2 (by have := HB.out.size; simp; omega) (fun j hj => (World.ownsRow.lt HCl.out.rows.outer j hj).1))
        clear hown2 hg2 hnil2 hbb
        go_wp2
        exact ⟨⟨k + 1, w2.heap.size, ps ++ [(.slice xa cur.length xc, cur)], [], by omega, by go_num, HCl2.out, by simp; omega, Nat.zero_le _, HB2.out, by rw [List.map_append]; exact HNx.out⟩, by simp [intOf]; omega⟩
      · have HNx := hid hnx
        have hz' : (n == 0) = false := beq_eq_false_iff_ne.2 hz
        have hq2 : ((cur.length : Int) == 12) = false := beq_eq_false_iff_ne.2 (by omega)
        clear hnx
        go_wp2_with fail
        refine (HNum.out _).mono ?_
        rintro e w1 ⟨rfl, hw1⟩
        subst hw1
        go_wp2_with fail
        refine (lit_impl n vars _ hv0 hv1).mono ?_
        rintro e w1 ⟨rfl, hw1⟩
        subst hw1
        rw [hlit]
        go_wp2_with (at_builtin; (refine wpList_append_own _ rfl _ _ 45 rfl M 3 i0 (.int .i64 0) 1 8 Tryd.underlying45 HI.out HZ0.out HZ1.out HZ2.out rfl (by decide) _ _ _ rfl (words.own_pass HCl.out.one (by repeat (first | exact Below.refl _ _ | assumption | refine Below.drew ?_ | refine Below.alloc ?_ (by first | exact Nat.le_refl _ | omega | (simp; done) | (simp; omega)) _ | refine Below.setCell ?_ (by first | exact Nat.le_refl _ | omega | (simp; done) | (simp; omega)) _))) ⟨wr.heap.size + 1, 0, none⟩ 1 1 [.int .i64 n] rfl rfl (at_one (by simp [go_sem])) (by simp [Value.oneCell']) (by unfold maxLen; omega) (by omega) (by have := HCl.out.size; simp; omega) ?_); intro v2 w2 hown2 hg2 hnil2)
        have hbb : Below wr.heap.size wr ((wr.alloc (.cells #[.string t, .int .i64 q] 58)).alloc (.cells #[.int .i64 n] 3)) := (by repeat (first | exact Below.refl _ _ | assumption | refine Below.drew ?_ | refine Below.alloc ?_ (by first | exact Nat.le_refl _ | omega | (simp; done) | (simp; omega)) _ | refine Below.setCell ?_ (by first | exact Nat.le_refl _ | omega | (simp; done) | (simp; omega)) _))
        have hown3 : OwnInts M w2 v2 (cur ++ [n]) := by
          unfold OwnInts
          rw [List.length_append, List.map_append]
          exact hown2
        have HCl2 := hid ((HCl.out.below hbb).more hown3 hg2)
        have HB2 : Hid (Below w.heap.size w w2) := hid (Below.grown (HB.out.trans (hbb.mono HB.out.size)) hg2 (by have := HB.out.size; simp; omega) (fun j hj => by have := (World.ownsRow.lt HCl.out.one j hj).1; have := HCl.out.base; omega))
        clear hown2 hown3 hg2 hnil2 hbb
        go_wp2
        exact ⟨⟨k + 1, M, ps, cur ++ [n], by omega, by go_num, HCl2.out, hpc, by simp; omega, HB2.out, HNx.out⟩, by simp [intOf]; omega⟩
    · have e : k = len := by omega
      subst e
      rw [List.drop_of_length_le (by rw [List.length_map, HR.out.length]; exact Nat.le_refl _)] at hrd
      obtain ⟨h1, h2⟩ := rd_end hrd
      rw [List.length_map] at h1
      have HE := hid h2
      clear hrd h2 hcl hbel
      go_wp2
      (try simp only [Exit.inBlock, Exit.then])
      try rw [Exit.noGoto_ret]
      refine bodyPost_ret (v := .tuple #[.slice va ps.length vc, .int .i64 0, .int .i64 0]) (by simp [results, Tryd.results20, go_sem]) rfl ?_
      exact ⟨_, ps, rfl, HCl.out.rows, HE.out, HB.out⟩
end Go.Proofs.YtdphkbpjbcnbpaaDoor.dimRead
