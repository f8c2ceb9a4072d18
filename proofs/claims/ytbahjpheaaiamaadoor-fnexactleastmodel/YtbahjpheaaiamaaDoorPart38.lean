/- CnfDraw; RunL: one text, so that the claim has fewer files. -/
import Derived.Test.YtbahjpheaaiamaaDoorRowsOwn
import Derived.Test.YtbahjpheaaiamaaDoorPart13
import Derived.Test.YtbahjpheaaiamaaDoorPart9
import Derived.Test.YtbahjpheaaiamaaDoorPart2
import Derived.Laws.AppendOwnNone
import Derived.Deep.AppendLies
import Derived.Test.YtbahjpheaaiamaaDoorPart36
/- Formulas that are drawn out of a code: they are right, and lie in memory of their own; two formulas that are the same; conditions: a code that fits. -/
namespace Go.Proofs.YtbahjpheaaiamaaDoor.cnfDraw
open Go.RowKit Go.Deep Go.Sort base copy cnf rowsOwn source heldStore
set_option linter.unusedVariables false

theorem own_new {B H : Nat} (w : World) (h : w.heap.size = H) (hB : B ≤ H) : (w.alloc (.cells #[] 3)).ownsRow B 3 1 (.slice (some ⟨H, 0, none⟩) 0 0) 0 [] := ⟨rfl, .inr ⟨H, 0, #[], rfl, hB, by subst h; exact heap_alloc_new w _, Nat.le_refl _, Nat.zero_le _, rfl, rfl⟩⟩
theorem own_form {B : Nat} {w : World} {v : Value} {ps : List (Value × List Int)} (h : OwnRows B w v ps) : ∃ p c, v = .slice p ps.length c := by
  rcases h.outer.2 with ⟨e, h0⟩ | ⟨g, c, cur, e, _⟩
  · exact ⟨none, 0, by rw [e, h0]⟩
  · exact ⟨_, _, e⟩
theorem own_lt {B g : Nat} {w : World} {v : Value} {zs : List Int} (h : OwnInts B w v zs) (hg : v.ownBlock = some g) : B ≤ g ∧ g < w.heap.size := World.ownsRow.lt h g hg
/-- Only block b, and what is new, has turned. -/
theorem grown_own {w w1 w2 : World} {b : Nat} {row : Option Nat} (h : w.grownBy w1 (some b)) (hg : w1.grownBy w2 row) (hr : ∀ g, row = some g → w.heap.size ≤ g) : w.grownBy w2 (some b) :=
  ⟨hg.os.trans h.os, hg.tape.trans h.tape, hg.output.trans h.output, Nat.le_trans h.size hg.size, fun k hk hne => by
    rw [hg.block k (Nat.lt_of_lt_of_le hk h.size) (fun e => by have := hr k e.symm; omega), h.block k hk hne]⟩
theorem below_grown {w w1 : World} (h : Below w.heap.size w w1) : w.grownBy w1 none := ⟨h.os, h.tape, h.output, h.size, fun k hk _ => h.block k hk⟩
theorem own_far {B b : Nat} {w w1 : World} {v : Value} {zs : List Int} (h : OwnInts B w v zs) (hg : w.grownBy w1 (some b)) (hb : b < B) : OwnInts B w1 v zs :=
  own_grown h hg (fun g hgv e => by injection e with e; have := (own_lt h hgv).1; omega)
end Go.Proofs.YtbahjpheaaiamaaDoor.cnfDraw

/- What follows from clauses and values by clauses that have one open literal alone, of the specification (l02Run); conditions: lengths that fit. -/
namespace Go.Proofs.YtbahjpheaaiamaaDoor.runL
open Go.RowKit Go.Deep base copy runS rowsOwn
set_option linter.unusedVariables false

/-- One look over the clauses: the number of a false one, or -1 and the first literal that follows. -/
def scanS (V : Nat → Int) : List (List Int) → Int → Int → Int × Int
  | [], _, u => (-1, u)
  | c :: r, i, u => if (clS V c 0 0).1 = true then scanS V r (i + 1) u else if (clS V c 0 0).2.1 = 0 then (i, u) else scanS V r (i + 1) (if (clS V c 0 0).2.1 = 1 ∧ u = 0 then (clS V c 0 0).2.2 else u)
/-- What follows, one literal a look. -/
def runF : Nat → List (List Int) → (Nat → Int) → List Int → List Int × Int × (Nat → Int)
  | 0, _, V, acc => (acc, -1, V)
  | k + 1, Z, V, acc => if 0 ≤ (scanS V Z 0 0).1 then (acc, (scanS V Z 0 0).1, V) else if (scanS V Z 0 0).2 = 0 then (acc, -1, V) else runF k Z (setV V (scanS V Z 0 0).2) (acc ++ [(scanS V Z 0 0).2])
theorem clS_false {V : Nat → Int} {c : List Int} (h : (clS V c 0 0).1 = false) (h1 : (clS V c 0 0).2.1 = 1) : (clS V c 0 0).2.2 ∈ c ∧ V (clS V c 0 0).2.2.natAbs = 0 := by
  refine cl_unit (zs := c) ?_
  rw [← h, ← h1]
theorem scan_unit {V : Nat → Int} : ∀ (Z : List (List Int)) (i u : Int), (scanS V Z i u).2 = u ∨ ((∃ c ∈ Z, (scanS V Z i u).2 ∈ c) ∧ V (scanS V Z i u).2.natAbs = 0)
  | [], i, u => .inl rfl
  | c :: r, i, u => by
    unfold scanS
    by_cases h1 : (clS V c 0 0).1 = true
    · rw [if_pos h1]
      rcases scan_unit r (i + 1) u with h | ⟨⟨d, hd, hm⟩, hv⟩
      · exact .inl h
      · exact .inr ⟨⟨d, by simp [hd], hm⟩, hv⟩
    · rw [if_neg h1]
      by_cases h2 : (clS V c 0 0).2.1 = 0
      · rw [if_pos h2]; exact .inl rfl
      · rw [if_neg h2]
        have h1' : (clS V c 0 0).1 = false := by simpa using h1
        rcases scan_unit r (i + 1) (if (clS V c 0 0).2.1 = 1 ∧ u = 0 then (clS V c 0 0).2.2 else u) with h | ⟨⟨d, hd, hm⟩, hv⟩
        · rw [h]
          by_cases h3 : (clS V c 0 0).2.1 = 1 ∧ u = 0
          · rw [if_pos h3]
            obtain ⟨m1, m2⟩ := clS_false h1' h3.1
            exact .inr ⟨⟨c, by simp, m1⟩, m2⟩
          · rw [if_neg h3]; exact .inl rfl
        · exact .inr ⟨⟨d, by simp [hd], hm⟩, hv⟩
theorem open_most (V : Nat → Int) : ∀ n, openN V n ≤ n
  | 0 => Nat.le_refl _
  | n + 1 => by
    have := open_most V n
    unfold openN
    split <;> omega
theorem own_far {B b : Nat} {w w1 : World} {v : Value} {zs : List Int} (h : OwnInts B w v zs) (hg : w.grownBy w1 (some b)) (hb : b < B) : OwnInts B w1 v zs :=
  own_grown h hg (fun g hgv e => by injection e with e; have := (World.ownsRow.lt h g hgv).1; omega)
theorem vals_keep {w w1 : World} {b n : Nat} {V : Nat → Int} (h : ValRow w b n V) (hk : w1.heap[b]? = w.heap[b]?) : ValRow w1 b n V :=
  ⟨fun i hi => by
    obtain ⟨h1, h2⟩ := h.cell i hi
    exact ⟨by rw [World.cell?_of_block (a := ⟨b, i, none⟩) hk]; exact h1, by rw [World.frozen?_of_block (a := ⟨b, i, none⟩) hk]; exact h2⟩, h.range⟩
def lenS : Value → Nat
  | .slice _ n _ => n
  | _ => 0
theorem drop_row {Z : List (List Int)} {k : Nat} (h : k < Z.length) : Z.drop k = Z[k]?.getD [] :: Z.drop (k + 1) := by
  rw [List.drop_eq_getElem_cons h, List.getElem?_eq_getElem h]; rfl
theorem run_last {k : Nat} {Z : List (List Int)} {V : Nat → Int} {acc : List Int} {at_ u : Int} (hs : scanS V Z 0 0 = (at_, u)) (h : 0 ≤ at_) : runF (k + 1) Z V acc = (acc, at_, V) := by
  unfold runF
  rw [hs, if_pos h]
theorem run_none {k : Nat} {Z : List (List Int)} {V : Nat → Int} {acc : List Int} (hs : scanS V Z 0 0 = (-1, 0)) : runF (k + 1) Z V acc = (acc, -1, V) := by
  unfold runF
  rw [hs, if_neg (by decide), if_pos rfl]
theorem run_more {k : Nat} {Z : List (List Int)} {V : Nat → Int} {acc : List Int} {u : Int} (hs : scanS V Z 0 0 = (-1, u)) (h : u ≠ 0) : runF (k + 1) Z V acc = runF k Z (setV V u) (acc ++ [u]) := by
  rw [runF, hs, if_neg (show ¬ (0 : Int) ≤ -1 by decide), if_neg h]
set_option maxHeartbeats 1600000 in
set_option maxRecDepth 8000 in
theorem run_spec (a : Option Addr) (len cap b n c : Nat) (Z : List (List Int)) (V : Nat → Int) (w : World) (hst : ∀ w', w.grownBy w' (some b) → IntRows w' a len Z) (hv : ValRow w b n V) (hb : b < w.heap.size) (hz : ∀ zs ∈ Z, ∀ z ∈ zs, z.natAbs < n) (hn : n ≤ 41) :
    Calls Tryd.prog 37 #[.slice a len cap, .slice (some ⟨b, 0, none⟩) n c] w fun e w' => ∃ v, e = .returned (.tuple #[v, .int .i64 (runF (n + 1) Z V []).2.1]) ∧ OwnInts w.heap.size w' v (runF (n + 1) Z V []).1 ∧ ValRow w' b n (runF (n + 1) Z V []).2.2 ∧ w.grownBy w' (some b) := by
  have hmost := (hst w (grown_refl _ _)).most
  unfold maxLen at hmost
  have HLn := hid (hst w (grown_refl _ _)).length
  have HSt := hid hst
  have HV := hid hv
  have HZ := hid hz
  obtain ⟨R, hR⟩ : ∃ R, runF (n + 1) Z V [] = R := ⟨_, rfl⟩
  have HR := hid hR
  rw [hR]
  clear hst hv hz hR
  obtain ⟨i0, hi, hzz⟩ := Option.map_eq_some_iff.1 Tryd.info_int
  simp only [Prod.mk.injEq] at hzz
  obtain ⟨hz0, hz1, hz2⟩ := hzz
  have HI := hid hi
  have HZ0 := hid hz0
  have HZ1 := hid hz1
  have HZ2 := hid hz2
  clear hi hz0 hz1 hz2
  have HOm := hid (open_most V n)
  go_enter Tryd.func37, Tryd.ntmps37
  go_wp2
  go_loopw [6] (fun x wr => ∃ (V' : Nat → Int) (acc : List Int) (f : Nat), OwnInts w.heap.size wr x acc ∧ ValRow wr b n V' ∧ w.grownBy wr (some b) ∧ openN V' n < f ∧ runF f Z V' acc = R ∧ acc.length + openN V' n ≤ n) (fun x _ => n + 1 - lenS x)
  case atStart =>
    have hba : Below w.heap.size w (w.alloc (.cells #[] 3)) := (by repeat (first | exact Below.refl _ _ | assumption | refine Below.drew ?_ | refine Below.alloc ?_ (by first | exact Nat.le_refl _ | omega | (simp; done) | (simp; omega)) _ | refine Below.setCell ?_ (by first | exact Nat.le_refl _ | omega | (simp; done) | (simp; omega)) _))
    refine ⟨V, [], n + 1, cnfDraw.own_new w rfl (Nat.le_refl _), vals_keep HV.out (hba.block b hb), cnfDraw.grown_own (grown_refl _ _) (cnfDraw.below_grown hba) (fun g e => by cases e), by have := HOm.out; omega, HR.out, by have := HOm.out; simpa using this⟩
  case round =>
    rename_i x
    obtain ⟨V', acc, f, hox, hvr, hgr, hfu, hru, hac⟩ := hrel
    obtain ⟨xa, xc, rfl, -⟩ := hox.form
    obtain ⟨k, rfl⟩ : ∃ k, f = k + 1 := ⟨f - 1, by omega⟩
    have HO := hid hox
    have HVr := hid hvr
    have HG := hid hgr
    have HRu := hid hru
    have HRows := hid (HSt.out wr hgr)
    obtain ⟨S, hS⟩ : ∃ S, scanS V' Z 0 0 = S := ⟨_, rfl⟩
    have HS := hid hS
    clear hox hvr hgr hru hS
    go_wp2
    go_loop [8, 7] (fun i u => ∃ (j : Nat) (y : Int), j ≤ len ∧ i = .int .i64 j ∧ u = .int .i64 y ∧ scanS V' (Z.drop j) j y = S) (fun i _ => len - (intOf i).toNat)
    case atStart => exact ⟨0, 0, Nat.zero_le _, rfl, rfl, by rw [List.drop_zero]; exact HS.out⟩
    case round =>
      obtain ⟨j, y, hj, rfl, rfl, hsc⟩ := hrel
      by_cases hlt : j < len
      · obtain ⟨g, off, rfl, x', l', c', hc, hrow⟩ := HRows.out.cell j hlt
        rw [drop_row (by rw [HLn.out]; exact hlt)] at hsc
        have hzs : ∀ z ∈ Z[j]?.getD [], z.natAbs < n := fun z hz => by
          have hjl : j < Z.length := by rw [HLn.out]; exact hlt
          rw [List.getElem?_eq_getElem hjl] at hz
          exact HZ.out _ (List.getElem_mem hjl) z hz
        generalize Z[j]?.getD [] = cl at *
        have HCl := hid (clause_spec x' l' c' b n c cl V' wr hrow HVr.out (fun i hi => by
          have hi' : i < cl.length := by rw [hrow.length]; exact hi
          rw [List.getElem?_eq_getElem hi']
          exact hzs _ (List.getElem_mem hi')) hn)
        have HSc := hid hsc
        rw [scanS] at HSc
        clear hsc hrow hzs
        generalize clS V' cl 0 0 = T at *
        obtain ⟨q, o, un⟩ := T
        simp only at HCl HSc
        have HSb := HSc
        cases q with
        | true =>
          have HSn : Hid (scanS V' (Z.drop (j + 1)) (j + 1) y = S) := hid (by have := HSc.out; rwa [if_pos rfl] at this)
          clear HSc HSb
          go_wp2_with fail
          refine HCl.out.mono ?_
          rintro e w1 ⟨rfl, hw1⟩
          subst hw1
          go_wp2
          exact ⟨⟨j + 1, y, by omega, by go_num, rfl, by push_cast; exact HSn.out⟩, by simp [intOf]; omega⟩
        | false =>
          by_cases ho : o = 0
          · subst ho
            have HE : Hid (S = ((j : Int), y)) := hid (by have := HSc.out; rw [if_neg (by simp), if_pos rfl] at this; exact this.symm)
            have HRR : Hid (R = (acc, (j : Int), V')) := hid (by rw [← HRu.out]; exact run_last (HS.out.trans HE.out) (Int.natCast_nonneg _))
            clear HSc HSb
            go_wp2_with fail
            refine HCl.out.mono ?_
            rintro e w1 ⟨rfl, hw1⟩
            subst hw1
            go_wp2
            go_ret2
            have h9 := HRR.out
            subst h9
            exact ⟨_, rfl, HO.out, HVr.out, HG.out⟩
          · have ho' : (o == 0) = false := beq_eq_false_iff_ne.2 ho
            by_cases h1 : o = 1 ∧ y = 0
            · obtain ⟨rfl, rfl⟩ := h1
              have HSn : Hid (scanS V' (Z.drop (j + 1)) (j + 1) un = S) := hid (by have := HSc.out; rw [if_neg (by simp), if_neg (by decide), if_pos ⟨rfl, rfl⟩] at this; exact this)
              clear HSc HSb
              go_wp2_with fail
              refine HCl.out.mono ?_
              rintro e w1 ⟨rfl, hw1⟩
              subst hw1
              go_wp2
              exact ⟨⟨j + 1, un, by omega, by go_num, rfl, by push_cast; exact HSn.out⟩, by simp [intOf]; omega⟩
            · have HSn : Hid (scanS V' (Z.drop (j + 1)) (j + 1) y = S) := hid (by have := HSc.out; rw [if_neg (by simp), if_neg ho, if_neg h1] at this; exact this)
              clear HSc HSb
              by_cases h2 : o = 1
              · subst h2
                have hy : ¬ y = 0 := fun e => h1 ⟨rfl, e⟩
                have hy' : (y == 0) = false := beq_eq_false_iff_ne.2 hy
                clear h1
                go_wp2_with fail
                refine HCl.out.mono ?_
                rintro e w1 ⟨rfl, hw1⟩
                subst hw1
                go_wp2
                exact ⟨⟨j + 1, y, by omega, by go_num, rfl, by push_cast; exact HSn.out⟩, by simp [intOf]; omega⟩
              · have h2' : (o == 1) = false := beq_eq_false_iff_ne.2 h2
                clear h1
                go_wp2_with fail
                refine HCl.out.mono ?_
                rintro e w1 ⟨rfl, hw1⟩
                subst hw1
                go_wp2
                exact ⟨⟨j + 1, y, by omega, by go_num, rfl, by push_cast; exact HSn.out⟩, by simp [intOf]; omega⟩
      · have e : j = len := by omega
        subst e
        rw [List.drop_of_length_le (by rw [HLn.out]; exact Nat.le_refl _), scanS] at hsc
        by_cases hy : y = 0
        · subst hy
          have HRR : Hid (R = (acc, -1, V')) := hid (by rw [← HRu.out]; exact run_none (HS.out.trans hsc.symm))
          clear hsc
          go_wp2
          go_ret2
          have h9 := HRR.out
          subst h9
          exact ⟨_, rfl, HO.out, HVr.out, HG.out⟩
        · have hy' : (y == 0) = false := beq_eq_false_iff_ne.2 hy
          have HRR : Hid (runF k Z (setV V' y) (acc ++ [y]) = R) := hid (by rw [← HRu.out]; exact (run_more (HS.out.trans hsc.symm) hy).symm)
          have hun := scan_unit (V := V') Z 0 0
          rw [HS.out, ← hsc] at hun
          rcases hun with hun | ⟨⟨cl, hcl, hm⟩, hv0⟩
          · exact absurd hun hy
          have hyn := HZ.out cl hcl y hm
          have hop := open_set (V := V') (z := y) n hyn hv0
          have HOp := hid hop
          have HSet := hid (set_spec b n c V' y wr HVr.out hyn hy hn)
          have HVs := hid (HVr.out.set (z := y))
          have HGs : Hid (w.grownBy (wr.setCell ⟨b, y.natAbs, none⟩ (.int .i64 (if 0 < y then 1 else -1))) (some b)) := hid (grown_set HG.out)
          have HOs : Hid (OwnInts w.heap.size (wr.setCell ⟨b, y.natAbs, none⟩ (.int .i64 (if 0 < y then 1 else -1))) (.slice xa acc.length xc) acc) := hid (own_far HO.out (grown_set (grown_refl _ _)) hb)
          generalize wr.setCell ⟨b, y.natAbs, none⟩ (.int .i64 (if 0 < y then 1 else -1)) = ws at *
          clear hsc hcl hm hv0 hop
          go_wp2_with fail
          refine HSet.out.mono ?_
          rintro e w1 ⟨rfl, hw1⟩
          subst hw1
          go_wp2_with (at_builtin; (refine wpList_append_own _ rfl _ _ 36 rfl w.heap.size 3 i0 (.int .i64 0) 1 8 Tryd.underlying36 HI.out HZ0.out HZ1.out HZ2.out rfl (by decide) _ _ _ rfl (World.ownsRow.alloc HOs.out _) ⟨w1.heap.size, 0, none⟩ 1 1 [.int .i64 y] rfl rfl (cell_one_new _ _ _) (fun x hx => by simp at hx; subst hx; rfl) (by unfold maxLen; omega) (by omega) (by have := HGs.out.size; simp; omega) ?_); intro v' w3 hown' hgrow3 hnil3)
          have hba : Below w1.heap.size w1 (w1.alloc (.cells #[.int .i64 y] 3)) := (by repeat (first | exact Below.refl _ _ | assumption | refine Below.drew ?_ | refine Below.alloc ?_ (by first | exact Nat.le_refl _ | omega | (simp; done) | (simp; omega)) _ | refine Below.setCell ?_ (by first | exact Nat.le_refl _ | omega | (simp; done) | (simp; omega)) _))
          have hrow : ∀ g, _ = some g → w.heap.size ≤ g := fun g e => (World.ownsRow.lt HOs.out g e).1
          have HG3 : Hid (w.grownBy w3 (some b)) := hid (cnfDraw.grown_own (cnfDraw.grown_own HGs.out (cnfDraw.below_grown hba) (fun g e => by cases e)) hgrow3 hrow)
          have HV3 : Hid (ValRow w3 b n (setV V' y)) := hid (vals_keep HVs.out (by
            have hb1 : b < w1.heap.size := Nat.lt_of_lt_of_le hb HGs.out.size
            rw [hgrow3.block b (Nat.lt_of_lt_of_le hb1 hba.size) (fun e => by have := hrow b e.symm; omega)]
            exact hba.block b hb1))
          have HO3 : Hid (OwnInts w.heap.size w3 v' (acc ++ [y])) := hid (by
            unfold OwnInts
            rw [List.length_append, List.map_append]
            exact hown')
          obtain ⟨xa3, xc3, rfl, -⟩ := HO3.out.form
          clear hown' hgrow3 hnil3 hrow hba
          go_wp2
          exact ⟨⟨setV V' y, acc ++ [y], k, HO3.out, HV3.out, HG3.out, by have := HOp.out; omega, HRR.out, by have := HOp.out; rw [List.length_append]; simp; omega⟩, by simp [lenS]; omega⟩
end Go.Proofs.YtbahjpheaaiamaaDoor.runL
