/- The lines of a text that say something, of the program (spokenLines); conditions: lengths that fit. -/
import Derived.Test.YtcgpjlpggbgdaaaGreatDoorReadSpecP
namespace Go.Proofs.YtcgpjlpggbgdaaaGreatDoor.spokenImpl
open Go.RowKit Go.Deep base numbers words cuts stepRead readSem readSpecP
set_option linter.unusedVariables false

/-- A line's words in memory: their row's value, the line, its place. -/
abbrev Pw := Value × ByteArray × Nat
def wat (p : Pw) : List Wd := wordsAt p.2.1 p.2.2
/-- A row of rows of words that a call owns. -/
structure OwnWs (B : Nat) (w : World) (v : Value) (ps : List Pw) : Prop where
  outer : w.ownsRow B 75 1 v ps.length (ps.map Prod.fst)
  inner : ∀ p ∈ ps, w.ownsRow B 77 2 p.1 (words p.2.1).length (wordCells p.2.1 p.2.2 (words p.2.1))
theorem OwnWs.below {B : Nat} {w w1 : World} {v : Value} {ps : List Pw} (h : OwnWs B w v ps) (hb : Below w.heap.size w w1) : OwnWs B w1 v ps := ⟨own_pass h.outer hb, fun p hp => own_pass (h.inner p hp) hb⟩
theorem ws_add {B : Nat} {w w3 : World} {v v' : Value} {ps : List Pw} {p : Pw} (h : OwnWs B w v ps) (hx : w.ownsRow B 77 2 p.1 (words p.2.1).length (wordCells p.2.1 p.2.2 (words p.2.1))) (ho : w3.ownsRow B 75 1 v' (ps.length + 1) (ps.map Prod.fst ++ [p.1])) (hg : w.grownBy w3 v.ownBlock) : OwnWs B w3 v' (ps ++ [p]) := by
  have keepI : ∀ q : Pw, w.ownsRow B 77 2 q.1 (words q.2.1).length (wordCells q.2.1 q.2.2 (words q.2.1)) → w3.ownsRow B 77 2 q.1 (words q.2.1).length (wordCells q.2.1 q.2.2 (words q.2.1)) := fun q hq => by
    obtain ⟨h1, h2⟩ := hq
    refine ⟨h1, ?_⟩
    rcases h2 with h2 | ⟨g, cap, cur, e, hb, hh, hn⟩
    · exact .inl h2
    · refine .inr ⟨g, cap, cur, e, hb, ?_, hn⟩
      rw [hg.block g (Array.getElem?_eq_some_iff.1 hh).1 (fun e9 => by
        rcases h.outer.2 with ⟨ev, _⟩ | ⟨g', cap', cur', ev, hb', hh', hn'⟩
        · rw [ev] at e9; cases e9
        · rw [ev] at e9
          injection e9 with e9
          subst e9
          rw [hh'] at hh
          simp only [Option.some.injEq, Obj.cells.injEq] at hh
          exact absurd hh.2.1 (by decide))]
      exact hh
  refine ⟨?_, fun q hq => ?_⟩
  · rw [List.length_append, List.map_append]
    exact ho
  · rcases List.mem_append.1 hq with hq | hq
    · exact keepI q (h.inner q hq)
    · simp at hq; subst hq; exact keepI _ hx
theorem rows_info : (Tryz.prog.info? 75).map (fun i => (i.zero, i.size, i.bytes)) = some (some (.slice none 0 0), 1, 24) := by kernel_rfl

set_option maxHeartbeats 3200000 in
set_option maxRecDepth 100000 in
theorem spoken_impl (s : ByteArray) (m : Int) (w : World) (hs : s.size ≤ 65536) (hm : w.cell? ⟨1, 0, none⟩ = some (.int .i64 m)) :
    Calls Tryz.prog 38 #[.string s] w fun e w' => ∃ v ps, e = .returned v ∧ OwnWs w.heap.size w' v ps ∧ ps.map wat = (sp (cutL s.data.toList) 0).map Prod.fst ∧ ps.length ≤ 65537 ∧ (∀ p ∈ ps, p.2.1.size ≤ 65536) ∧ Below w.heap.size w w' := by
  obtain ⟨i0, hi, hzz⟩ := Option.map_eq_some_iff.1 rows_info
  simp only [Prod.mk.injEq] at hzz
  obtain ⟨hz0, hz1, hz2⟩ := hzz
  have HI := hid hi
  have HZ0 := hid hz0
  have HZ1 := hid hz1
  have HZ2 := hid hz2
  clear hi hz0 hz1 hz2
  have HLS := hid (lines_impl s m w (by omega) hm)
  have HSum0 := hid (cut_sum _ s.data.toList (Nat.le_refl _))
  obtain ⟨L, hL⟩ : ∃ q, cutL s.data.toList = q := ⟨_, rfl⟩
  rw [hL] at HLS HSum0 ⊢
  clear hL hm
  have HSum : Hid ((L.map fun x => x.length + 1).sum = s.size + 1) := by
    show _ = _
    rw [HSum0.out]; simp
  have hLl : L.length ≤ s.size + 1 := by have := len_le_sum L; have := HSum.out; omega
  clear HSum0
  go_enter Tryz.func38, Tryz.ntmps38
  go_wp2_with fail
  refine HLS.out.mono ?_
  rintro e w1 ⟨rfl, hw1⟩
  have HCell : Hid (∀ k, k < L.length → w1.cell? ⟨w.heap.size, k, none⟩ = some (.string (piece (L[k]?.getD [])))) := fun k h => by
    rw [hw1]
    simp [go_sem, h]
  have HB1 : Hid (Below w.heap.size w w1) := by rw [hw1]; exact (by repeat (first | exact Below.refl _ _ | assumption | refine Below.drew ?_ | refine Below.alloc ?_ (by first | exact Nat.le_refl _ | omega | (simp; done) | (simp; omega)) _ | refine Below.setCell ?_ (by first | exact Nat.le_refl _ | omega | (simp; done) | (simp; omega)) _))
  have hz1 : w.heap.size < w1.heap.size := by rw [hw1]; simp
  clear hw1 HLS
  have hsz1 := HB1.out.size
  go_wp2
  go_loopw [3, 4, 11] (fun v at_ i wr => ∃ (k pl : Nat) (ps : List Pw), k ≤ L.length ∧ i = .int .i64 k ∧ at_ = .int .i64 pl ∧ pl + ((L.drop k).map fun x => x.length + 1).sum = s.size + 1 ∧ OwnWs w1.heap.size wr v ps ∧ ps.length ≤ k ∧ (∀ p ∈ ps, p.2.1.size ≤ 65536) ∧ Below w1.heap.size w1 wr ∧ (sp L 0).map Prod.fst = ps.map wat ++ (sp (L.drop k) pl).map Prod.fst) (fun _ _ i _ => L.length - (intOf i).toNat)
  case atStart => exact ⟨0, 0, [], Nat.zero_le _, rfl, rfl, by rw [List.drop_zero]; have := HSum.out; omega, ⟨World.ownsRow_nil _ _ _ _, (fun p hp => by cases hp)⟩, Nat.le_refl _, (fun p hp => by cases hp), Below.refl _ _, rfl⟩
  case round =>
    obtain ⟨k, pl, ps, hk, rfl, rfl, hsum, hown, hpl, hpz, hbel, hrd⟩ := hrel
    have HO := hid hown
    have HB := hid hbel
    have HRd := hid hrd
    have HPz := hid hpz
    have hszr := hbel.size
    clear hown hbel hrd hpz
    by_cases hlt : k < L.length
    · have hc' := keep HB.out (HCell.out k hlt)
      have hlbr : w.heap.size < wr.heap.size := by omega
      have HDL := hid (drop_line hlt)
      rw [HDL.out, List.map_cons, List.sum_cons] at hsum
      have HR1 : Hid ((sp L 0).map Prod.fst = ps.map wat ++ ((if spoke (wordsAt (piece (L[k]?.getD [])) pl) then [wordsAt (piece (L[k]?.getD [])) pl] else []) ++ (sp (L.drop (k + 1)) (pl + (L[k]?.getD []).length + 1)).map Prod.fst)) := by
        show _ = _
        rw [HRd.out, HDL.out]
        show _ = _
        simp only [sp, List.map_append]
        by_cases h9 : spoke (wordsAt (piece (L[k]?.getD [])) pl) = true
        · rw [if_pos h9, if_pos h9]; rfl
        · rw [if_neg h9, if_neg h9]; rfl
      clear HRd HDL
      generalize L[k]?.getD [] = ln at *
      have hpz : (piece ln).size = ln.length := by simp [piece, ByteArray.size]
      obtain ⟨pc, hpc⟩ : ∃ q, piece ln = q := ⟨_, rfl⟩
      rw [hpc] at hc' hpz HR1
      clear hpc
      have HWS := hid (fun w8 => words_impl pc pl w8 (by omega) (by omega) (by omega))
      go_wp2_with fail
      refine (HWS.out _).mono ?_
      rintro e w2 ⟨v2, rfl, ho2, hb2⟩
      obtain ⟨wa, wc, hv2, hwr, hwc, hwm⟩ := row_words ho2
      have HOw := hid ho2
      have HWL : Hid ((wordsAt pc pl).length = (words pc).length) := by show _ = _; simp [wordsAt]
      have HWr := hid hwr
      have HB2 := hid (HB.out.trans (hb2.mono hszr))
      have HO2 := hid (HO.out.below hb2)
      have hz2 := hb2.size
      have HWat : Hid (wat (v2, pc, pl) = wordsAt pc pl) := rfl
      clear hwr ho2 hb2 hc' HWS
      subst hv2
      obtain ⟨W, hW⟩ : ∃ q, wordsAt pc pl = q := ⟨_, rfl⟩
      rw [hW] at HR1 HWL HWr HWat
      clear hW
      obtain ⟨wn, hwn⟩ : ∃ q, (words pc).length = q := ⟨_, rfl⟩
      have HWn := hid hwn
      rw [hwn] at HWL HWr HOw hwc HWat ⊢
      clear hwn
      have hbnd : (pc.size : Int) + 1 ≤ 1048576 := by omega
      have hbnd2 : pl ≤ 1048576 := by omega
      by_cases hw0 : wn = 0
      · have HR2 : Hid ((sp L 0).map Prod.fst = ps.map wat ++ (sp (L.drop (k + 1)) (pl + ln.length + 1)).map Prod.fst) := by
          show _ = _
          rw [HR1.out]
          have : spoke W = false := by unfold spoke; rw [HWL.out, hw0]; rfl
          rw [this]; rfl
        have dz : decide ((0 : Int) < (wn : Int)) = false := decide_eq_false (by omega)
        clear HR1 HWr
        go_wp2
        exact ⟨⟨k + 1, pl + ln.length + 1, ps, by omega, by go_num, by go_num, by omega, HO2.out, by omega, HPz.out, HB2.out, HR2.out⟩, by simp [intOf]; omega⟩
      · obtain ⟨wm, rfl⟩ : ∃ wm, wn = wm + 1 := ⟨wn - 1, by omega⟩
        have dz : decide ((0 : Int) < (wm : Int) + 1) = true := decide_eq_true (by omega)
        clear hw0
        obtain ⟨wb, woff, hwa, hx0, hx1⟩ := HWr.out.cell 0 (by omega)
        subst hwa
        simp only [Nat.zero_mul, Nat.add_zero] at hx0 hx1
        have HSp : Hid (spoke W = !((W[0]?.getD ((⟨#[]⟩, 0) : Wd)).1.toList == [99])) := by
          show _ = _
          unfold spoke
          rw [HWL.out, decide_eq_true (by omega)]; rfl
        generalize (W[0]?.getD ((⟨#[]⟩, 0) : Wd)).1 = t0 at *
        clear hx1
        cases hcc : (t0.toList == [99]) with
        | true =>
          have HR2 : Hid ((sp L 0).map Prod.fst = ps.map wat ++ (sp (L.drop (k + 1)) (pl + ln.length + 1)).map Prod.fst) := by
            show _ = _
            rw [HR1.out, HSp.out, hcc]; rfl
          clear HR1 HWr
          go_wp2
          exact ⟨⟨k + 1, pl + ln.length + 1, ps, by omega, by go_num, by go_num, by omega, HO2.out, by omega, HPz.out, HB2.out, HR2.out⟩, by simp [intOf]; omega⟩
        | false =>
          have HR2 : Hid ((sp L 0).map Prod.fst = ps.map wat ++ ([W] ++ (sp (L.drop (k + 1)) (pl + ln.length + 1)).map Prod.fst)) := by
            show _ = _
            rw [HR1.out, HSp.out, hcc]; rfl
          clear HR1 HWr
          obtain ⟨ov, ovc, hu3⟩ : ∃ ov ovc, u3 = .slice ov ps.length ovc := by
            rcases HO2.out.outer.2 with ⟨e, h0⟩ | ⟨g, cp, cur, e, _⟩
            · rw [h0]; exact ⟨_, _, e⟩
            · exact ⟨_, _, e⟩
          subst hu3
          have hsz2 : w1.heap.size ≤ w2.heap.size := HB2.out.size
          go_wp2_with (at_builtin; (refine wpList_append_own _ rfl _ _ 73 rfl w1.heap.size 75 i0 _ 1 24 Tryz.underlying73 HI.out HZ0.out HZ1.out HZ2.out rfl (by decide) _ _ _ rfl (own_pass HO2.out.outer (by repeat (first | exact Below.refl _ _ | assumption | refine Below.drew ?_ | refine Below.alloc ?_ (by first | exact Nat.le_refl _ | omega | (simp; done) | (simp; omega)) _ | refine Below.setCell ?_ (by first | exact Nat.le_refl _ | omega | (simp; done) | (simp; omega)) _))) ⟨_, 0, none⟩ 1 1 [.slice (some ⟨wb, woff, none⟩) (wm + 1) wc] rfl rfl (at_one (by simp [go_sem])) (fun u hu => by simp at hu; subst hu; rfl) (by unfold maxLen; omega) (by omega) (by simp; omega) ?_); intro v4 w4 hown4 hg4 hnil4)
          have hb2a := (show Below w2.heap.size w2 _ from Below.alloc (Below.refl _ _) (Nat.le_refl _) (.cells #[.slice (some ⟨wb, woff, none⟩) (wm + 1) wc] 75))
          have hin : w2.ownsRow w1.heap.size 77 2 (.slice (some ⟨wb, woff, none⟩) (wm + 1) wc) (words pc).length (wordCells pc pl (words pc)) := by
            have h9 := readSpecP.own_base HOw.out hszr
            rw [← HWn.out] at h9
            rw [← HWn.out]
            exact h9
          have HOs := ws_add (p := (.slice (some ⟨wb, woff, none⟩) (wm + 1) wc, pc, pl)) (HO2.out.below hb2a) (own_pass hin hb2a) hown4 hg4
          have hB4 : Below w1.heap.size w1 w4 := (HB2.out.trans (hb2a.mono hsz2)).grown hg4 (by simp; omega) (fun j hj => (World.ownsRow.lt HO2.out.outer j hj).1)
          exact ⟨⟨k + 1, pl + ln.length + 1, ps ++ [(.slice (some ⟨wb, woff, none⟩) (wm + 1) wc, pc, pl)], by omega, by go_num, by go_num, by omega, HOs, by simp; omega, (fun q hq => by
            rcases List.mem_append.1 hq with hq | hq
            · exact HPz.out q hq
            · simp at hq; subst hq; show pc.size ≤ _; omega), hB4, by rw [HR2.out, List.map_append, List.append_assoc, List.map_cons, List.map_nil, HWat.out]⟩, by simp [intOf]; omega⟩
    · have e : k = L.length := by omega
      have hdl : decide ((k : Int) < (L.length : Int)) = false := decide_eq_false (by omega)
      have HE : Hid (ps.map wat = (sp L 0).map Prod.fst) := by
        show _ = _
        rw [HRd.out, List.drop_of_length_le (by omega)]; simp [sp]
      clear HRd e hsum
      go_wp2
      go_ret
      exact ⟨_, ps, rfl, ⟨readSpecP.own_base HO.out.outer (by omega), fun p hp => readSpecP.own_base (HO.out.inner p hp) (by omega)⟩, HE.out, by omega, HPz.out, HB1.out.trans (HB.out.mono hsz1)⟩
end Go.Proofs.YtcgpjlpggbgdaaaGreatDoor.spokenImpl
