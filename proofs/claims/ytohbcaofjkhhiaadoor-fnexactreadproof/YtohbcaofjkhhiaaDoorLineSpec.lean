/- A line of a proof's text, of the specification (l03Line); conditions: lengths that fit. -/
import Derived.Test.YtohbcaofjkhhiaaDoorReadSem
import Derived.BigRegion
namespace Go.Proofs.YtohbcaofjkhhiaaDoor.lineSpec
open Go.RowKit Go.Deep base numbers words cuts stepRead readSem
set_option linter.unusedVariables false

theorem results_cell_two {fn : Func} {p u v : Tmp} {ty : TypeId} (h : fn.results = #[.cell p ty, .tmp u, .tmp v]) (tmps : Array Value) (P : Program) (w : World) :
    (results fn tmps).run P w =
      ((asAddr (tmps.getD p undef)).run P w).andThen fun a w₁ => ((loadVar ty a).run P w₁).andThen fun x w₂ => .ok (.tuple #[x, tmps.getD u undef, tmps.getD v undef]) w₂ := by
  simp only [results, h]
  simp [Sem.run_bind, Result.andThen]
theorem own_set {B n X : Nat} {w w1 : World} {v : Value} {t u : TypeId} {s : Nat} {xs : List Value} {cs : Array Value} {fz : Nat × Nat} (h : w.ownsRow B t s v n xs) (hX : w.heap[X]? = some (.cells cs u fz)) (hu : u ≠ t) (hb : ∀ g, g < w.heap.size → g ≠ X → w1.heap[g]? = w.heap[g]?) : w1.ownsRow B t s v n xs := by
  obtain ⟨h1, h2⟩ := h
  refine ⟨h1, ?_⟩
  rcases h2 with h2 | ⟨g, cap, cur, e, hg, hh, hn⟩
  · exact .inl h2
  · refine .inr ⟨g, cap, cur, e, hg, ?_, hn⟩
    rw [hb g (Array.getElem?_eq_some_iff.1 hh).1 (fun e9 => by
      subst e9
      rw [hX] at hh
      simp only [Option.some.injEq, Obj.cells.injEq] at hh
      exact hu hh.2.1)]
    exact hh
def inS (n low high : Int) : Bool := decide (low ≤ n ∧ n ≤ high)
set_option maxHeartbeats 400000 in
theorem in_spec (n low high : Int) (w : World) :
    Calls Tryd.prog 20 #[.int .i64 n, .int .i64 low, .int .i64 high] w fun e w' => e = .returned (.bool (inS n low high)) ∧ w' = w := by
  go_enter Tryd.func20, Tryd.ntmps20
  go_wp2
  all_goals
    go_ret
    refine ⟨ret_bool ?_, rfl⟩
    rw [Bool.eq_iff_iff]; simp [inS, *]; try omega
theorem grow_x {B X n c : Nat} {wr w1 w2 : World} {p : Option Addr} {d : Bool} {v2 : Value} {xs ys : List Value} {t u : TypeId} (hw1 : Below wr.heap.size wr w1) (hown : wr.ownsRow B t 1 (.slice p n c) n ys) (hX : wr.heap[X]? = some (.cells #[.bool d, .slice p n c] u (0, 0))) (hu : u ≠ t)
    (hg2 : w1.grownBy w2 (Value.slice p n c).ownBlock) (hown2 : w2.ownsRow B t 1 v2 (n + 1) xs) :
    ∃ g2 c2, v2 = .slice (some ⟨g2, 0, none⟩) (n + 1) c2 ∧ w2.heap[X]? = some (.cells #[.bool d, .slice p n c] u (0, 0)) ∧ (w2.cell? ⟨X, 1, none⟩ = some (.slice p n c) ∧ w2.frozen? ⟨X, 1, none⟩ = false) := by
  have hXl := (Array.getElem?_eq_some_iff.1 hX).1
  have hne : some X ≠ (Value.slice p n c).ownBlock := fun e9 => by
    rcases hown.2 with ⟨e, _⟩ | ⟨g, cap, cur, e, hg, hh, hn⟩
    · rw [e] at e9; cases e9
    · rw [e] at e9
      injection e9 with e9
      subst e9
      rw [hX] at hh
      simp only [Option.some.injEq, Obj.cells.injEq] at hh
      exact hu hh.2.1
  have hk : w2.heap[X]? = some (.cells #[.bool d, .slice p n c] u (0, 0)) := by
    rw [hg2.block X (Nat.lt_of_lt_of_le hXl hw1.size) hne, hw1.block X hXl]
    exact hX
  obtain ⟨g2, c2, rfl⟩ : ∃ g2 c2, v2 = .slice (some ⟨g2, 0, none⟩) (n + 1) c2 := by
    rcases hown2.2 with ⟨_, h0⟩ | ⟨g, cp, cur, hv, _⟩
    · omega
    · exact ⟨g, cp, hv⟩
  exact ⟨g2, c2, rfl, hk, by rw [Lib.cell_of_heap hk]; rfl, Lib.frozen_of_heap hk 1⟩
/-- What the specification answers of a line. -/
def AnsS (B : Nat) (d : Bool) (R : Except (Int × Int) (List Int)) (e : Ending) (w' : World) : Prop :=
  match R with
  | .error (c, q) => ∃ d' p n cp, e = .returned (.tuple #[.agg #[.bool d', .slice p n cp], .int .i64 c, .int .i64 q])
  | .ok zs => ∃ p cp, e = .returned (.tuple #[.agg #[.bool d, .slice p zs.length cp], .int .i64 0, .int .i64 0]) ∧ w'.ownsRow B 3 1 (.slice p zs.length cp) zs.length (zs.map (Value.int .i64))
set_option maxHeartbeats 3200000 in
set_option maxRecDepth 8000 in
theorem line_spec (a : Option Addr) (len cap : Nat) (l : List Wd) (fin : Int) (w : World) (hr : WordRow w a len l) (hlen : 0 < len) (hts : ∀ x ∈ l, x.1.size ≤ 1048576) :
    Calls Tryd.prog 11 #[.slice a len cap, .int .i64 fin] w fun e w' => Below w.heap.size w w' ∧ AnsS w.heap.size (isDel l) (stepOf fin (restOf l) false []) e w' := by
  obtain ⟨i0, hi, hzz⟩ := Option.map_eq_some_iff.1 info_int
  simp only [Prod.mk.injEq] at hzz
  obtain ⟨hz0, hz1, hz2⟩ := hzz
  have HI := hid hi
  have HZ0 := hid hz0
  have HZ1 := hid hz1
  have HZ2 := hid hz2
  clear hi hz0 hz1 hz2
  have HR := hid hr
  obtain ⟨b, off, rfl, hc0, hc1⟩ := hr.cell 0 hlen
  simp only [Nat.zero_mul, Nat.add_zero] at hc0
  have hdel : isDel l = ((l[0]?.getD ((⟨#[]⟩, 0) : Wd)).1.toList == [100]) := rfl
  generalize (l[0]?.getD ((⟨#[]⟩, 0) : Wd)).1 = t0 at *
  have hmost := hr.most
  unfold maxLen at hmost
  have hbw : b < w.heap.size := World.block_lt_of_cell? _ _ hc0
  have hbw1 : b < w.heap.size + 1 := by omega
  have hbw2 : b < w.heap.size + 1 + 1 := by omega
  have hbw3 : b < w.heap.size + 1 + 1 + 1 := by omega
  clear hr hc1
  unfold restOf
  rw [hdel]
  clear hdel
  cases hd : (t0.toList == [100])
  · simp only [Bool.false_eq_true, if_false]
    obtain ⟨R, hRR⟩ : ∃ R, stepOf fin l false [] = R := ⟨_, rfl⟩
    have HRR := hid hRR.symm
    rw [hRR]
    clear hRR
    have HTs := hid hts
    have HLn := hid HR.out.length
    clear hts
    go_enter Tryd.func11, Tryd.ntmps11
    go_wp2
    clear hc0
    go_loopw [8] (fun i wr => ∃ (k : Nat) (acc : List Int) (p : Option Addr) (c : Nat), k ≤ len ∧ i = .int .i64 k ∧ acc.length ≤ 12 ∧ wr.heap[w.heap.size]? = some (.cells #[.bool false, .slice none 0 0] 36 (0, 0)) ∧ wr.heap[w.heap.size + 1 + 1]? = some (.cells #[.bool false, .slice p acc.length c] 36 (0, 0)) ∧
        wr.ownsRow (w.heap.size + 1) 3 1 (.slice p acc.length c) acc.length (acc.map (Value.int .i64)) ∧ Below w.heap.size w wr ∧ w.heap.size + 1 + 1 < wr.heap.size ∧ R = stepOf fin (l.drop k) false acc) (fun i _ => len - (intOf i).toNat)
    case atStart =>
      refine ⟨0, [], some ⟨w.heap.size + 1, 0, none⟩, 0, by omega, by rfl, Nat.zero_le _, ?_, ?_, ?_, (by repeat (first | exact Below.refl _ _ | assumption | refine Below.drew ?_ | refine Below.alloc ?_ (by first | exact Nat.le_refl _ | omega | (simp; done) | (simp; omega)) _ | refine Below.setCell ?_ (by first | exact Nat.le_refl _ | omega | (simp; done) | (simp; omega)) _)), by simp, HRR.out⟩
      · exact (Lib.alloc_old _ _ _ (by simp; omega)).trans ((Lib.alloc_old _ _ _ (by simp)).trans (heap_alloc_new w _))
      · have h := heap_alloc_new ((w.alloc (Obj.cells #[.bool false, .slice none 0 0] 36)).alloc (Obj.cells #[] 3)) (Obj.cells #[.bool false, .slice (some ⟨w.heap.size + 1, 0, none⟩) 0 0] 36)
        simpa using h
      · have h := heap_alloc_new (w.alloc (Obj.cells #[.bool false, .slice none 0 0] 36)) (Obj.cells #[] 3)
        rw [World.size_alloc] at h
        exact ⟨rfl, .inr ⟨w.heap.size + 1, 0, #[], rfl, Nat.le_refl _, (Lib.alloc_old _ _ _ (by simp)).trans h, Nat.le_refl _, Nat.zero_le _, rfl, rfl⟩⟩
    case round =>
      obtain ⟨k, acc, p, c, hk, rfl, hacc, hb0, hb1, hown, hbel, hsz, hst⟩ := hrel
      have HB0 := hid hb0
      have HB1 := hid hb1
      have HO := hid hown
      have HB := hid hbel
      have c10 : wr.cell? ⟨w.heap.size + 1 + 1, 0, none⟩ = some (.bool false) := by rw [Lib.cell_of_heap hb1]; rfl
      have c11 : wr.cell? ⟨w.heap.size + 1 + 1, 1, none⟩ = some (.slice p acc.length c) := by rw [Lib.cell_of_heap hb1]; rfl
      have f11 : wr.frozen? ⟨w.heap.size + 1 + 1, 1, none⟩ = false := Lib.frozen_of_heap hb1 1
      have c00 : wr.cell? ⟨w.heap.size, 0, none⟩ = some (.bool false) := by rw [Lib.cell_of_heap hb0]; rfl
      have c01 : wr.cell? ⟨w.heap.size, 1, none⟩ = some (.slice none 0 0) := by rw [Lib.cell_of_heap hb0]; rfl
      have f00 : wr.frozen? ⟨w.heap.size, 0, none⟩ = false := Lib.frozen_of_heap hb0 0
      have f01 : wr.frozen? ⟨w.heap.size, 1, none⟩ = false := Lib.frozen_of_heap hb0 1
      have HST := hid hst
      have hlt0 : w.heap.size < wr.heap.size := by omega
      clear hst hown hb0 hb1
      by_cases hlt : k < len
      · obtain ⟨b', off', e', hw0, hw1⟩ := HR.out.cell k hlt
        simp only [Option.some.injEq, Addr.mk.injEq, and_true] at e'
        obtain ⟨rfl, rfl⟩ := e'
        replace hw0 := keep hbel hw0
        replace hw1 := keep hbel hw1
        have hkl : k < l.length := by rw [HLn.out]; exact hlt
        have HD := hid (drop_at hkl)
        have hmem : l[k]?.getD (⟨#[]⟩, 0) ∈ l := by rw [List.getElem?_eq_getElem hkl]; exact List.getElem_mem _
        have hsm := HTs.out _ hmem
        clear hmem
        generalize l[k]?.getD (⟨#[]⟩, 0) = x at *
        obtain ⟨t, q⟩ := x
        simp only at hw0 hw1 hsm
        have HNum := hid (fun w => number_spec t w (Nat.le_trans hsm (by unfold maxLen; omega)))
        have HS2 : Hid (R = if false || !isNum t then .error (4, q) else if numS t = 0 then stepOf fin (l.drop (k + 1)) true acc else if litB 40 (numS t) = false then .error (5, q) else if acc.length = 12 then .error (11, q) else stepOf fin (l.drop (k + 1)) false (acc ++ [numS t])) := by
          show _ = _
          rw [HST.out, HD.out]; rfl
        clear HST HD hsm
        generalize numS t = n at *
        generalize isNum t = I at *
        go_wp2_with fail
        refine (HNum.out _).mono ?_
        rintro e w1 ⟨rfl, hw1e⟩
        have hw1e := hw1e.symm
        subst hw1e
        cases I with
        | false =>
          have hR : R = .error (4, q) := by rw [HS2.out]; rfl
          subst hR
          clear HS2
          go_wp2_with fail
          go_region
          all_goals
            go_wp2
            refine bodyPost_ret (v := .tuple #[.agg #[.bool false, .slice p acc.length c], .int .i64 4, .int .i64 q]) (by rw [results_cell_two rfl]; go_simp) rfl ?_
            exact ⟨by have hbb := HB.out; exact (by repeat (first | exact Below.refl _ _ | assumption | refine Below.drew ?_ | refine Below.alloc ?_ (by first | exact Nat.le_refl _ | omega | (simp; done) | (simp; omega)) _ | refine Below.setCell ?_ (by first | exact Nat.le_refl _ | omega | (simp; done) | (simp; omega)) _)), false, p, acc.length, c, rfl⟩
        | true =>
          by_cases hz : n = 0
          · subst hz
            have HR2 : Hid (R = stepOf fin (l.drop (k + 1)) true acc) := by show _ = _; rw [HS2.out]; rfl
            clear HS2
            by_cases hlast : k + 1 < len
            · obtain ⟨b', off', e', hv0, hv1⟩ := HR.out.cell (k + 1) hlast
              simp only [Option.some.injEq, Addr.mk.injEq, and_true] at e'
              obtain ⟨rfl, rfl⟩ := e'
              replace hv1 := keep hbel hv1
              have hR : R = .error (4, (l[k + 1]?.getD (⟨#[]⟩, 0)).2) := by
                rw [HR2.out, drop_at (by rw [HLn.out]; exact hlast)]; rfl
              generalize (l[k + 1]?.getD (⟨#[]⟩, 0)).2 = q2 at *
              have dl : decide ((k : Int) + 1 < (len : Int)) = true := decide_eq_true (by omega)
              subst hR
              clear HR2 hv0
              go_wp2_with fail
              go_region
              all_goals
                go_wp2
                refine bodyPost_ret (v := .tuple #[.agg #[.bool false, .slice p acc.length c], .int .i64 4, .int .i64 q2]) (by rw [results_cell_two rfl]; go_simp) rfl ?_
                exact ⟨by have hbb := HB.out; exact (by repeat (first | exact Below.refl _ _ | assumption | refine Below.drew ?_ | refine Below.alloc ?_ (by first | exact Nat.le_refl _ | omega | (simp; done) | (simp; omega)) _ | refine Below.setCell ?_ (by first | exact Nat.le_refl _ | omega | (simp; done) | (simp; omega)) _)), false, p, acc.length, c, rfl⟩
            · have hR : R = .ok acc := by
                rw [HR2.out, List.drop_of_length_le (by rw [HLn.out]; omega)]; rfl
              have dl : decide ((k : Int) + 1 < (len : Int)) = false := decide_eq_false (by omega)
              subst hR
              clear HR2
              go_wp2
              refine bodyPost_ret (v := .tuple #[.agg #[.bool false, .slice p acc.length c], .int .i64 0, .int .i64 0]) (by rw [results_cell_two rfl]; go_simp) rfl ?_
              exact ⟨by have hbb := HB.out; exact (by repeat (first | exact Below.refl _ _ | assumption | refine Below.drew ?_ | refine Below.alloc ?_ (by first | exact Nat.le_refl _ | omega | (simp; done) | (simp; omega)) _ | refine Below.setCell ?_ (by first | exact Nat.le_refl _ | omega | (simp; done) | (simp; omega)) _)), p, c, rfl, own_base (own_set HO.out HB0.out (by decide) (fun g hg hn => by rw [Below.heap_setCell _ _ _ _ (by simpa using hn), Below.heap_setCell _ _ _ _ (by simpa using hn)])) (by omega)⟩
          · have hz' : (n == 0) = false := beq_eq_false_iff_ne.2 hz
            cases hL : litB 40 n
            · have hR : R = .error (5, q) := by rw [HS2.out, if_neg (by simp), if_neg hz, if_pos hL]
              have hIn : inS n (-40) 40 = false := by
                unfold litB at hL
                unfold inS
                have := of_decide_eq_false hL
                exact decide_eq_false (by omega)
              subst hR
              clear HS2
              go_wp2_with fail
              refine (in_spec n (-40) 40 _).mono ?_
              rintro e w1 ⟨rfl, hw1e⟩
              have hw1e := hw1e.symm
              subst hw1e
              rw [hIn]
              go_wp2_with fail
              go_region
              all_goals
                go_wp2
                refine bodyPost_ret (v := .tuple #[.agg #[.bool false, .slice p acc.length c], .int .i64 5, .int .i64 q]) (by rw [results_cell_two rfl]; go_simp) rfl ?_
                exact ⟨by have hbb := HB.out; exact (by repeat (first | exact Below.refl _ _ | assumption | refine Below.drew ?_ | refine Below.alloc ?_ (by first | exact Nat.le_refl _ | omega | (simp; done) | (simp; omega)) _ | refine Below.setCell ?_ (by first | exact Nat.le_refl _ | omega | (simp; done) | (simp; omega)) _)), false, p, acc.length, c, rfl⟩
            · have hIn : inS n (-40) 40 = true := by
                unfold litB at hL
                unfold inS
                have := of_decide_eq_true hL
                exact decide_eq_true (by omega)
              by_cases h12 : acc.length = 12
              · have hR : R = .error (11, q) := by rw [HS2.out, if_neg (by simp), if_neg hz, if_neg (by rw [hL]; simp), if_pos h12]
                have hq : ((acc.length : Int) == 12) = true := by rw [h12]; rfl
                subst hR
                clear HS2 h12
                go_wp2_with fail
                refine (in_spec n (-40) 40 _).mono ?_
                rintro e w1 ⟨rfl, hw1e⟩
                have hw1e := hw1e.symm
                subst hw1e
                rw [hIn]
                go_wp2_with fail
                go_region
                all_goals
                  go_wp2
                  refine bodyPost_ret (v := .tuple #[.agg #[.bool false, .slice p acc.length c], .int .i64 11, .int .i64 q]) (by rw [results_cell_two rfl]; go_simp) rfl ?_
                  exact ⟨by have hbb := HB.out; exact (by repeat (first | exact Below.refl _ _ | assumption | refine Below.drew ?_ | refine Below.alloc ?_ (by first | exact Nat.le_refl _ | omega | (simp; done) | (simp; omega)) _ | refine Below.setCell ?_ (by first | exact Nat.le_refl _ | omega | (simp; done) | (simp; omega)) _)), false, p, acc.length, c, rfl⟩
              · have HR2 : Hid (R = stepOf fin (l.drop (k + 1)) false (acc ++ [n])) := by show _ = _; rw [HS2.out, if_neg (by simp), if_neg hz, if_neg (by rw [hL]; simp), if_neg h12]
                have hq : ((acc.length : Int) == 12) = false := beq_eq_false_iff_ne.2 (by omega)
                clear HS2
                go_wp2_with fail
                refine (in_spec n (-40) 40 _).mono ?_
                rintro e w1 ⟨rfl, hw1e⟩
                have hw1e := hw1e.symm
                subst hw1e
                rw [hIn]
                go_wp2_with (at_builtin; (refine wpList_append_own _ rfl _ _ 34 rfl (w.heap.size + 1) 3 i0 (.int .i64 0) 1 8 Tryd.underlying34 HI.out HZ0.out HZ1.out HZ2.out rfl (by decide) _ _ _ rfl (own_pass HO.out (by repeat (first | exact Below.refl _ _ | assumption | refine Below.drew ?_ | refine Below.alloc ?_ (by first | exact Nat.le_refl _ | omega | (simp; done) | (simp; omega)) _ | refine Below.setCell ?_ (by first | exact Nat.le_refl _ | omega | (simp; done) | (simp; omega)) _))) ⟨wr.heap.size, 0, none⟩ 1 1 [.int .i64 n] rfl rfl (at_one (by simp [go_sem])) (by simp [Value.oneCell']) (by unfold maxLen; omega) (by omega) (by simp; omega) ?_); intro v2 w2 hown2 hg2 hnil2; obtain ⟨g2, c2, rfl, hk1, d11, e11⟩ := grow_x (show Below wr.heap.size wr _ from (by repeat (first | exact Below.refl _ _ | assumption | refine Below.drew ?_ | refine Below.alloc ?_ (by first | exact Nat.le_refl _ | omega | (simp; done) | (simp; omega)) _ | refine Below.setCell ?_ (by first | exact Nat.le_refl _ | omega | (simp; done) | (simp; omega)) _))) HO.out HB1.out (by decide) hg2 hown2)
                have hk0 : w2.heap[w.heap.size]? = some (.cells #[.bool false, .slice none 0 0] 36 (0, 0)) := by
                  rw [hg2.block w.heap.size (by simp; omega) (fun e9 => by have := (World.ownsRow.lt HO.out _ e9.symm).1; omega), Lib.alloc_old _ _ _ (by omega)]
                  exact HB0.out
                have hB2 : Below w.heap.size w w2 := (show Below w.heap.size w _ from HB.out.alloc HB.out.size _).grown hg2 (by simp; omega) (fun j hj => by have := (World.ownsRow.lt HO.out j hj).1; omega)
                have hs2 := (Array.getElem?_eq_some_iff.1 hk1).1
                exact ⟨⟨k + 1, acc ++ [n], some ⟨g2, 0, none⟩, c2, by omega, by go_num, by simp; omega, by rw [Below.heap_setCell _ _ _ _ (by simp; omega)]; exact hk0, by rw [List.length_append]; exact set_blk hk1, by rw [List.map_append, List.length_append]; exact own_set hown2 hk1 (by decide) (fun g hg hn => Below.heap_setCell _ _ _ _ (by simpa using hn)), hB2.setCell (by simp; omega) _, by simpa [World.setCell] using hs2, HR2.out⟩, by simp [intOf]; omega⟩
      · have e : k = len := by omega
        have hdl : decide ((k : Int) < (len : Int)) = false := decide_eq_false (by omega)
        have hR : R = .error (4, fin) := by
          rw [HST.out, List.drop_of_length_le (by rw [HLn.out]; omega)]; rfl
        clear HST e
        subst hR
        go_wp2
        all_goals
          refine bodyPost_ret (v := .tuple #[.agg #[.bool false, .slice p acc.length c], .int .i64 4, .int .i64 fin]) (by rw [results_cell_two rfl]; go_simp) rfl ?_
          exact ⟨by have hbb := HB.out; exact (by repeat (first | exact Below.refl _ _ | assumption | refine Below.drew ?_ | refine Below.alloc ?_ (by first | exact Nat.le_refl _ | omega | (simp; done) | (simp; omega)) _ | refine Below.setCell ?_ (by first | exact Nat.le_refl _ | omega | (simp; done) | (simp; omega)) _)), false, p, acc.length, c, rfl⟩
  · simp only [if_true]
    obtain ⟨R, hRR⟩ : ∃ R, stepOf fin (l.drop 1) false [] = R := ⟨_, rfl⟩
    have HRR := hid hRR.symm
    rw [hRR]
    clear hRR
    have HTs := hid hts
    have HLn := hid HR.out.length
    clear hts
    go_enter Tryd.func11, Tryd.ntmps11
    go_wp2
    clear hc0
    go_loopw [8] (fun i wr => ∃ (k : Nat) (acc : List Int) (p : Option Addr) (c : Nat), k ≤ len ∧ i = .int .i64 k ∧ acc.length ≤ 12 ∧ wr.heap[w.heap.size]? = some (.cells #[.bool false, .slice none 0 0] 36 (0, 0)) ∧ wr.heap[w.heap.size + 1 + 1]? = some (.cells #[.bool true, .slice p acc.length c] 36 (0, 0)) ∧
        wr.ownsRow (w.heap.size + 1) 3 1 (.slice p acc.length c) acc.length (acc.map (Value.int .i64)) ∧ Below w.heap.size w wr ∧ w.heap.size + 1 + 1 < wr.heap.size ∧ R = stepOf fin (l.drop k) false acc) (fun i _ => len - (intOf i).toNat)
    case atStart =>
      refine ⟨1, [], some ⟨w.heap.size + 1, 0, none⟩, 0, by omega, by rfl, Nat.zero_le _, ?_, ?_, ?_, (by repeat (first | exact Below.refl _ _ | assumption | refine Below.drew ?_ | refine Below.alloc ?_ (by first | exact Nat.le_refl _ | omega | (simp; done) | (simp; omega)) _ | refine Below.setCell ?_ (by first | exact Nat.le_refl _ | omega | (simp; done) | (simp; omega)) _)), by simp, HRR.out⟩
      · exact (Lib.alloc_old _ _ _ (by simp; omega)).trans ((Lib.alloc_old _ _ _ (by simp)).trans (heap_alloc_new w _))
      · have h := heap_alloc_new ((w.alloc (Obj.cells #[.bool false, .slice none 0 0] 36)).alloc (Obj.cells #[] 3)) (Obj.cells #[.bool true, .slice (some ⟨w.heap.size + 1, 0, none⟩) 0 0] 36)
        simpa using h
      · have h := heap_alloc_new (w.alloc (Obj.cells #[.bool false, .slice none 0 0] 36)) (Obj.cells #[] 3)
        rw [World.size_alloc] at h
        exact ⟨rfl, .inr ⟨w.heap.size + 1, 0, #[], rfl, Nat.le_refl _, (Lib.alloc_old _ _ _ (by simp)).trans h, Nat.le_refl _, Nat.zero_le _, rfl, rfl⟩⟩
    case round =>
      obtain ⟨k, acc, p, c, hk, rfl, hacc, hb0, hb1, hown, hbel, hsz, hst⟩ := hrel
      have HB0 := hid hb0
      have HB1 := hid hb1
      have HO := hid hown
      have HB := hid hbel
      have c10 : wr.cell? ⟨w.heap.size + 1 + 1, 0, none⟩ = some (.bool true) := by rw [Lib.cell_of_heap hb1]; rfl
      have c11 : wr.cell? ⟨w.heap.size + 1 + 1, 1, none⟩ = some (.slice p acc.length c) := by rw [Lib.cell_of_heap hb1]; rfl
      have f11 : wr.frozen? ⟨w.heap.size + 1 + 1, 1, none⟩ = false := Lib.frozen_of_heap hb1 1
      have c00 : wr.cell? ⟨w.heap.size, 0, none⟩ = some (.bool false) := by rw [Lib.cell_of_heap hb0]; rfl
      have c01 : wr.cell? ⟨w.heap.size, 1, none⟩ = some (.slice none 0 0) := by rw [Lib.cell_of_heap hb0]; rfl
      have f00 : wr.frozen? ⟨w.heap.size, 0, none⟩ = false := Lib.frozen_of_heap hb0 0
      have f01 : wr.frozen? ⟨w.heap.size, 1, none⟩ = false := Lib.frozen_of_heap hb0 1
      have HST := hid hst
      have hlt0 : w.heap.size < wr.heap.size := by omega
      clear hst hown hb0 hb1
      by_cases hlt : k < len
      · obtain ⟨b', off', e', hw0, hw1⟩ := HR.out.cell k hlt
        simp only [Option.some.injEq, Addr.mk.injEq, and_true] at e'
        obtain ⟨rfl, rfl⟩ := e'
        replace hw0 := keep hbel hw0
        replace hw1 := keep hbel hw1
        have hkl : k < l.length := by rw [HLn.out]; exact hlt
        have HD := hid (drop_at hkl)
        have hmem : l[k]?.getD (⟨#[]⟩, 0) ∈ l := by rw [List.getElem?_eq_getElem hkl]; exact List.getElem_mem _
        have hsm := HTs.out _ hmem
        clear hmem
        generalize l[k]?.getD (⟨#[]⟩, 0) = x at *
        obtain ⟨t, q⟩ := x
        simp only at hw0 hw1 hsm
        have HNum := hid (fun w => number_spec t w (Nat.le_trans hsm (by unfold maxLen; omega)))
        have HS2 : Hid (R = if false || !isNum t then .error (4, q) else if numS t = 0 then stepOf fin (l.drop (k + 1)) true acc else if litB 40 (numS t) = false then .error (5, q) else if acc.length = 12 then .error (11, q) else stepOf fin (l.drop (k + 1)) false (acc ++ [numS t])) := by
          show _ = _
          rw [HST.out, HD.out]; rfl
        clear HST HD hsm
        generalize numS t = n at *
        generalize isNum t = I at *
        go_wp2_with fail
        refine (HNum.out _).mono ?_
        rintro e w1 ⟨rfl, hw1e⟩
        have hw1e := hw1e.symm
        subst hw1e
        cases I with
        | false =>
          have hR : R = .error (4, q) := by rw [HS2.out]; rfl
          subst hR
          clear HS2
          go_wp2_with fail
          go_region
          all_goals
            go_wp2
            refine bodyPost_ret (v := .tuple #[.agg #[.bool true, .slice p acc.length c], .int .i64 4, .int .i64 q]) (by rw [results_cell_two rfl]; go_simp) rfl ?_
            exact ⟨by have hbb := HB.out; exact (by repeat (first | exact Below.refl _ _ | assumption | refine Below.drew ?_ | refine Below.alloc ?_ (by first | exact Nat.le_refl _ | omega | (simp; done) | (simp; omega)) _ | refine Below.setCell ?_ (by first | exact Nat.le_refl _ | omega | (simp; done) | (simp; omega)) _)), true, p, acc.length, c, rfl⟩
        | true =>
          by_cases hz : n = 0
          · subst hz
            have HR2 : Hid (R = stepOf fin (l.drop (k + 1)) true acc) := by show _ = _; rw [HS2.out]; rfl
            clear HS2
            by_cases hlast : k + 1 < len
            · obtain ⟨b', off', e', hv0, hv1⟩ := HR.out.cell (k + 1) hlast
              simp only [Option.some.injEq, Addr.mk.injEq, and_true] at e'
              obtain ⟨rfl, rfl⟩ := e'
              replace hv1 := keep hbel hv1
              have hR : R = .error (4, (l[k + 1]?.getD (⟨#[]⟩, 0)).2) := by
                rw [HR2.out, drop_at (by rw [HLn.out]; exact hlast)]; rfl
              generalize (l[k + 1]?.getD (⟨#[]⟩, 0)).2 = q2 at *
              have dl : decide ((k : Int) + 1 < (len : Int)) = true := decide_eq_true (by omega)
              subst hR
              clear HR2 hv0
              go_wp2_with fail
              go_region
              all_goals
                go_wp2
                refine bodyPost_ret (v := .tuple #[.agg #[.bool true, .slice p acc.length c], .int .i64 4, .int .i64 q2]) (by rw [results_cell_two rfl]; go_simp) rfl ?_
                exact ⟨by have hbb := HB.out; exact (by repeat (first | exact Below.refl _ _ | assumption | refine Below.drew ?_ | refine Below.alloc ?_ (by first | exact Nat.le_refl _ | omega | (simp; done) | (simp; omega)) _ | refine Below.setCell ?_ (by first | exact Nat.le_refl _ | omega | (simp; done) | (simp; omega)) _)), true, p, acc.length, c, rfl⟩
            · have hR : R = .ok acc := by
                rw [HR2.out, List.drop_of_length_le (by rw [HLn.out]; omega)]; rfl
              have dl : decide ((k : Int) + 1 < (len : Int)) = false := decide_eq_false (by omega)
              subst hR
              clear HR2
              go_wp2
              refine bodyPost_ret (v := .tuple #[.agg #[.bool true, .slice p acc.length c], .int .i64 0, .int .i64 0]) (by rw [results_cell_two rfl]; go_simp) rfl ?_
              exact ⟨by have hbb := HB.out; exact (by repeat (first | exact Below.refl _ _ | assumption | refine Below.drew ?_ | refine Below.alloc ?_ (by first | exact Nat.le_refl _ | omega | (simp; done) | (simp; omega)) _ | refine Below.setCell ?_ (by first | exact Nat.le_refl _ | omega | (simp; done) | (simp; omega)) _)), p, c, rfl, own_base (own_set HO.out HB0.out (by decide) (fun g hg hn => by rw [Below.heap_setCell _ _ _ _ (by simpa using hn), Below.heap_setCell _ _ _ _ (by simpa using hn)])) (by omega)⟩
          · have hz' : (n == 0) = false := beq_eq_false_iff_ne.2 hz
            cases hL : litB 40 n
            · have hR : R = .error (5, q) := by rw [HS2.out, if_neg (by simp), if_neg hz, if_pos hL]
              have hIn : inS n (-40) 40 = false := by
                unfold litB at hL
                unfold inS
                have := of_decide_eq_false hL
                exact decide_eq_false (by omega)
              subst hR
              clear HS2
              go_wp2_with fail
              refine (in_spec n (-40) 40 _).mono ?_
              rintro e w1 ⟨rfl, hw1e⟩
              have hw1e := hw1e.symm
              subst hw1e
              rw [hIn]
              go_wp2_with fail
              go_region
              all_goals
                go_wp2
                refine bodyPost_ret (v := .tuple #[.agg #[.bool true, .slice p acc.length c], .int .i64 5, .int .i64 q]) (by rw [results_cell_two rfl]; go_simp) rfl ?_
                exact ⟨by have hbb := HB.out; exact (by repeat (first | exact Below.refl _ _ | assumption | refine Below.drew ?_ | refine Below.alloc ?_ (by first | exact Nat.le_refl _ | omega | (simp; done) | (simp; omega)) _ | refine Below.setCell ?_ (by first | exact Nat.le_refl _ | omega | (simp; done) | (simp; omega)) _)), true, p, acc.length, c, rfl⟩
            · have hIn : inS n (-40) 40 = true := by
                unfold litB at hL
                unfold inS
                have := of_decide_eq_true hL
                exact decide_eq_true (by omega)
              by_cases h12 : acc.length = 12
              · have hR : R = .error (11, q) := by rw [HS2.out, if_neg (by simp), if_neg hz, if_neg (by rw [hL]; simp), if_pos h12]
                have hq : ((acc.length : Int) == 12) = true := by rw [h12]; rfl
                subst hR
                clear HS2 h12
                go_wp2_with fail
                refine (in_spec n (-40) 40 _).mono ?_
                rintro e w1 ⟨rfl, hw1e⟩
                have hw1e := hw1e.symm
                subst hw1e
                rw [hIn]
                go_wp2_with fail
                go_region
                all_goals
                  go_wp2
                  refine bodyPost_ret (v := .tuple #[.agg #[.bool true, .slice p acc.length c], .int .i64 11, .int .i64 q]) (by rw [results_cell_two rfl]; go_simp) rfl ?_
                  exact ⟨by have hbb := HB.out; exact (by repeat (first | exact Below.refl _ _ | assumption | refine Below.drew ?_ | refine Below.alloc ?_ (by first | exact Nat.le_refl _ | omega | (simp; done) | (simp; omega)) _ | refine Below.setCell ?_ (by first | exact Nat.le_refl _ | omega | (simp; done) | (simp; omega)) _)), true, p, acc.length, c, rfl⟩
              · have HR2 : Hid (R = stepOf fin (l.drop (k + 1)) false (acc ++ [n])) := by show _ = _; rw [HS2.out, if_neg (by simp), if_neg hz, if_neg (by rw [hL]; simp), if_neg h12]
                have hq : ((acc.length : Int) == 12) = false := beq_eq_false_iff_ne.2 (by omega)
                clear HS2
                go_wp2_with fail
                refine (in_spec n (-40) 40 _).mono ?_
                rintro e w1 ⟨rfl, hw1e⟩
                have hw1e := hw1e.symm
                subst hw1e
                rw [hIn]
                go_wp2_with (at_builtin; (refine wpList_append_own _ rfl _ _ 34 rfl (w.heap.size + 1) 3 i0 (.int .i64 0) 1 8 Tryd.underlying34 HI.out HZ0.out HZ1.out HZ2.out rfl (by decide) _ _ _ rfl (own_pass HO.out (by repeat (first | exact Below.refl _ _ | assumption | refine Below.drew ?_ | refine Below.alloc ?_ (by first | exact Nat.le_refl _ | omega | (simp; done) | (simp; omega)) _ | refine Below.setCell ?_ (by first | exact Nat.le_refl _ | omega | (simp; done) | (simp; omega)) _))) ⟨wr.heap.size, 0, none⟩ 1 1 [.int .i64 n] rfl rfl (at_one (by simp [go_sem])) (by simp [Value.oneCell']) (by unfold maxLen; omega) (by omega) (by simp; omega) ?_); intro v2 w2 hown2 hg2 hnil2; obtain ⟨g2, c2, rfl, hk1, d11, e11⟩ := grow_x (show Below wr.heap.size wr _ from (by repeat (first | exact Below.refl _ _ | assumption | refine Below.drew ?_ | refine Below.alloc ?_ (by first | exact Nat.le_refl _ | omega | (simp; done) | (simp; omega)) _ | refine Below.setCell ?_ (by first | exact Nat.le_refl _ | omega | (simp; done) | (simp; omega)) _))) HO.out HB1.out (by decide) hg2 hown2)
                have hk0 : w2.heap[w.heap.size]? = some (.cells #[.bool false, .slice none 0 0] 36 (0, 0)) := by
                  rw [hg2.block w.heap.size (by simp; omega) (fun e9 => by have := (World.ownsRow.lt HO.out _ e9.symm).1; omega), Lib.alloc_old _ _ _ (by omega)]
                  exact HB0.out
                have hB2 : Below w.heap.size w w2 := (show Below w.heap.size w _ from HB.out.alloc HB.out.size _).grown hg2 (by simp; omega) (fun j hj => by have := (World.ownsRow.lt HO.out j hj).1; omega)
                have hs2 := (Array.getElem?_eq_some_iff.1 hk1).1
                exact ⟨⟨k + 1, acc ++ [n], some ⟨g2, 0, none⟩, c2, by omega, by go_num, by simp; omega, by rw [Below.heap_setCell _ _ _ _ (by simp; omega)]; exact hk0, by rw [List.length_append]; exact set_blk hk1, by rw [List.map_append, List.length_append]; exact own_set hown2 hk1 (by decide) (fun g hg hn => Below.heap_setCell _ _ _ _ (by simpa using hn)), hB2.setCell (by simp; omega) _, by simpa [World.setCell] using hs2, HR2.out⟩, by simp [intOf]; omega⟩
      · have e : k = len := by omega
        have hdl : decide ((k : Int) < (len : Int)) = false := decide_eq_false (by omega)
        have hR : R = .error (4, fin) := by
          rw [HST.out, List.drop_of_length_le (by rw [HLn.out]; omega)]; rfl
        clear HST e
        subst hR
        go_wp2
        all_goals
          refine bodyPost_ret (v := .tuple #[.agg #[.bool true, .slice p acc.length c], .int .i64 4, .int .i64 fin]) (by rw [results_cell_two rfl]; go_simp) rfl ?_
          exact ⟨by have hbb := HB.out; exact (by repeat (first | exact Below.refl _ _ | assumption | refine Below.drew ?_ | refine Below.alloc ?_ (by first | exact Nat.le_refl _ | omega | (simp; done) | (simp; omega)) _ | refine Below.setCell ?_ (by first | exact Nat.le_refl _ | omega | (simp; done) | (simp; omega)) _)), true, p, acc.length, c, rfl⟩
end Go.Proofs.YtohbcaofjkhhiaaDoor.lineSpec
