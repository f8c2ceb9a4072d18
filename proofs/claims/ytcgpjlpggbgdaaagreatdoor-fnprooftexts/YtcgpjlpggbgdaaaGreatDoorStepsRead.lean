/- The steps of a proof's text, of the program (readSteps): what is answered or thrown; conditions: lengths that fit. -/
import Derived.Test.YtcgpjlpggbgdaaaGreatDoorSpokenImpl
namespace Go.Proofs.YtcgpjlpggbgdaaaGreatDoor.stepsRead
open Go.RowKit Go.Deep base numbers words cuts stepRead readSem readSpecP spokenImpl
set_option linter.unusedVariables false

/-- What a call that may throw has done. -/
def AnsP (B : Nat) (R : Except (Int × Int) (List (Bool × List Int))) (e : Ending) (w' : World) : Prop :=
  match R with
  | .error (c, q) => e = .panicked [{ v := .iface 40 (.agg #[.int .i64 c, .int .i64 q]), recovered := false }]
  | .ok ss => ∃ v ps, e = .returned v ∧ OwnSteps B w' v ps ∧ Lone ps ∧ ps.map strip = ss
theorem drop_sp {L : List (List Wd × Int)} {k : Nat} (h : k < L.length) : L.drop k = L[k] :: L.drop (k + 1) := List.drop_eq_getElem_cons h
theorem ws_cell {B : Nat} {w : World} {v : Value} {ps : List Pw} (h : OwnWs B w v ps) : ∃ a c, v = .slice a ps.length c ∧ ∀ i (hi : i < ps.length), ∃ b, a = some ⟨b, 0, none⟩ ∧ b < w.heap.size ∧ w.cell? ⟨b, i, none⟩ = some (ps[i]).1 := by
  obtain ⟨h1, h2⟩ := h.outer
  rcases h2 with ⟨rfl, h0⟩ | ⟨g, cap, cur, rfl, hb, hh, hc, hm, hz, ht⟩
  · exact ⟨none, 0, by rw [h0], fun i hi => absurd hi (by omega)⟩
  · refine ⟨_, cap, rfl, fun i hi => ⟨g, rfl, (Array.getElem?_eq_some_iff.1 hh).1, ?_⟩⟩
    have h7 : (ps.map Prod.fst)[i]? = some (ps[i]).1 := by
      rw [List.getElem?_map, List.getElem?_eq_getElem hi]; rfl
    rw [← ht, List.getElem?_take_of_lt (by omega)] at h7
    simp only [World.cell?, hh]
    simpa using h7
theorem ws_row {B : Nat} {w : World} {v : Value} {ps : List Pw} (h : OwnWs B w v ps) {p : Pw} (hp : p ∈ ps) : ∃ a c, p.1 = .slice a (wat p).length c ∧ WordRow w a (wat p).length (wat p) ∧ (wat p).length ≤ c ∧ c ≤ maxLen := by
  obtain ⟨a, c, e, hr, h1, h2⟩ := row_words (h.inner p hp)
  have hl : (wat p).length = (words p.2.1).length := by simp [wat, wordsAt]
  rw [hl]
  exact ⟨a, c, e, hr, h1, h2⟩
theorem sp_facts : ∀ (n : Nat) (pl : Nat) (l : List UInt8), l.length ≤ n → ∀ x ∈ sp (cutL l) pl, 0 < x.1.length ∧ 0 ≤ (x.1[0]?.getD ((⟨#[]⟩, 0) : Wd)).2 ∧ (x.1[0]?.getD ((⟨#[]⟩, 0) : Wd)).2 ≤ ((pl + l.length : Nat) : Int) := by
  intro n
  have here : ∀ (L : List UInt8) (pl : Nat), spoke (wordsAt (piece L) pl) = true → 0 < (wordsAt (piece L) pl).length ∧ 0 ≤ ((wordsAt (piece L) pl)[0]?.getD ((⟨#[]⟩, 0) : Wd)).2 ∧ ((wordsAt (piece L) pl)[0]?.getD ((⟨#[]⟩, 0) : Wd)).2 ≤ ((pl + L.length : Nat) : Int) := fun L pl hsp => by
    have hW : 0 < (wordsAt (piece L) pl).length := by
      unfold spoke at hsp; simp only [Bool.and_eq_true, decide_eq_true_eq] at hsp; exact hsp.1
    have h0 : 0 < (words (piece L)).length := by simpa [wordsAt] using hW
    have h1 := words_in (piece L) _ (List.getElem_mem h0)
    have hp : (piece L).size = L.length := by simp [piece, ByteArray.size]
    have e : (wordsAt (piece L) pl)[0]?.getD ((⟨#[]⟩, 0) : Wd) = ((piece L).extract ((words (piece L))[0]).1 ((words (piece L))[0]).2, ((pl : Int) + ((words (piece L))[0]).1)) := by
      unfold wordsAt
      rw [List.getElem?_map, List.getElem?_eq_getElem h0]; rfl
    rw [e]
    refine ⟨hW, ?_, ?_⟩
    · show 0 ≤ (pl : Int) + _; omega
    · show (pl : Int) + _ ≤ _; omega
  induction n with
  | zero =>
    intro pl l hl x hx
    have e0 : l = [] := List.length_eq_zero_iff.1 (by omega)
    subst e0
    simp only [cutL, sp, List.append_nil] at hx
    split at hx
    · rename_i hsp
      simp at hx
      subst hx
      exact here [] pl hsp
    · simp at hx
  | succ n ih =>
    intro pl l hl x hx
    obtain ⟨L, hn, h⟩ := cut_parts l
    rcases h with ⟨rfl, hc⟩ | ⟨rest, rfl, hc⟩
    · rw [hc] at hx
      simp only [sp, List.append_nil] at hx
      split at hx
      · rename_i hsp
        simp at hx
        subst hx
        exact here l pl hsp
      · simp at hx
    · rw [hc] at hx
      simp only [sp] at hx
      have hlen : (L ++ 10 :: rest).length = L.length + rest.length + 1 := by simp; omega
      rcases List.mem_append.1 hx with hx | hx
      · split at hx
        · rename_i hsp
          simp at hx
          subst hx
          have := here L pl hsp
          refine ⟨this.1, this.2.1, ?_⟩
          have h2 := this.2.2
          rw [hlen]
          dsimp only
          omega
        · simp at hx
      · have := ih (pl + L.length + 1) rest (by rw [hlen] at hl; omega) x hx
        refine ⟨this.1, this.2.1, ?_⟩
        have h2 := this.2.2
        rw [hlen]
        omega
set_option maxHeartbeats 3200000 in
set_option maxRecDepth 8000 in
theorem steps_impl (s : ByteArray) (m : Int) (w : World) (hs : s.size ≤ 65536) (hm : w.cell? ⟨1, 0, none⟩ = some (.int .i64 m)) :
    Calls Tryz.prog 22 #[.string s] w fun e w' => Below w.heap.size w w' ∧ AnsP w.heap.size (readS (sp (cutL s.data.toList) 0) []) e w' := by
  obtain ⟨i0, hi, hzz⟩ := Option.map_eq_some_iff.1 step_info
  simp only [Prod.mk.injEq] at hzz
  obtain ⟨hz0, hz1, hz2⟩ := hzz
  have HI := hid hi
  have HZ0 := hid hz0
  have HZ1 := hid hz1
  have HZ2 := hid hz2
  clear hi hz0 hz1 hz2
  have HSp := hid (spoken_impl s m w hs hm)
  have HEnd := hid (fun x hx => end_ok s _ [] s.data.toList (Nat.le_refl _) rfl x hx)
  have HSpk : Hid (∀ x ∈ sp (cutL s.data.toList) 0, 0 < x.1.length ∧ 0 ≤ (x.1[0]?.getD ((⟨#[]⟩, 0) : Wd)).2 ∧ (x.1[0]?.getD ((⟨#[]⟩, 0) : Wd)).2 ≤ s.size) := fun x hx => by
    have h := sp_facts _ 0 s.data.toList (Nat.le_refl _) x hx
    have e : s.data.toList.length = s.size := by simp
    rw [e] at h
    exact ⟨h.1, h.2.1, by have := h.2.2; omega⟩
  obtain ⟨SL, hSL⟩ : ∃ q, sp (cutL s.data.toList) 0 = q := ⟨_, rfl⟩
  have e00 : ([] : List UInt8).length = 0 := rfl
  rw [e00, hSL] at HEnd
  rw [hSL] at HSp HSpk ⊢
  clear hSL hm e00
  obtain ⟨RR, hRR⟩ : ∃ q, readS SL [] = q := ⟨_, rfl⟩
  have HRR := hid hRR.symm
  rw [hRR]
  clear hRR
  go_enter Tryz.func22, Tryz.ntmps22
  go_wp2_with fail
  refine HSp.out.mono ?_
  rintro e w1 ⟨v1, pw, rfl, how, hmap, hpl, hpz, hb1⟩
  obtain ⟨la, lc, rfl, hcell⟩ := ws_cell how
  have hlen : pw.length = SL.length := by
    have := congrArg List.length hmap
    simpa using this
  have HOW := hid how
  have HCell := hid hcell
  have HMap := hid hmap
  have HPz := hid hpz
  have HB1 := hid hb1
  have HLen := hid hlen
  have hsz1 := hb1.size
  clear how hcell hmap hpz hb1 hlen HSp
  go_wp2
  go_loopw [3, 11] (fun v i wr => ∃ (k : Nat) (ps : List Pt), k ≤ pw.length ∧ i = .int .i64 k ∧ OwnSteps w1.heap.size wr v ps ∧ Lone ps ∧ ps.length ≤ 200 ∧ Below w1.heap.size w1 wr ∧ RR = readS (SL.drop k) (ps.map strip)) (fun _ i _ => pw.length - (intOf i).toNat)
  case atStart => exact ⟨0, [], Nat.zero_le _, rfl, ⟨World.ownsRow_nil _ _ _ _, (fun p hp => by cases hp)⟩, List.Pairwise.nil, Nat.zero_le _, Below.refl _ _, HRR.out⟩
  case round =>
    obtain ⟨k, ps, hk, rfl, hown, hlone, hps, hbel, hrd⟩ := hrel
    have HO := hid hown
    have HLo := hid hlone
    have HB := hid hbel
    have HRd := hid hrd
    have hszr := hbel.size
    have HBw := hid (HB1.out.trans (HB.out.mono hsz1))
    clear hown hlone hbel hrd
    by_cases hlt : k < pw.length
    · obtain ⟨lb, rfl, hlb, hc⟩ := HCell.out k hlt
      have hc' := keep HB.out hc
      have hlbr : lb < wr.heap.size := by omega
      have hmem : pw[k] ∈ pw := List.getElem_mem hlt
      obtain ⟨wa, wc, hval, hrow, hwc, hwm⟩ := ws_row HOW.out hmem
      have hks : k < SL.length := by rw [← HLen.out]; exact hlt
      have hW : wat pw[k] = (SL[k]).1 := by
        have h9 := congrArg (fun l => l[k]?) HMap.out
        simp only [List.getElem?_map, List.getElem?_eq_getElem hlt, List.getElem?_eq_getElem hks, Option.map_some, Option.some.injEq] at h9
        exact h9
      have hsk := HSpk.out _ (List.getElem_mem hks)
      have hek := HEnd.out _ (List.getElem_mem hks)
      have hszs : ∀ x ∈ wat pw[k], x.1.size ≤ 1048576 := words_sizes _ _ (Nat.le_trans (HPz.out _ hmem) (by omega))
      have HR1 : Hid (RR = readS (SL[k] :: SL.drop (k + 1)) (ps.map strip)) := by
        show _ = _
        rw [HRd.out, drop_sp hks]
      rw [hval] at hc'
      rw [hW] at hrow hwc hc' hszs
      clear hval hW hmem hc HRd
      generalize SL[k] = X at *
      obtain ⟨W, fin⟩ := X
      dsimp only at hrow hwc hc' hszs hsk hek
      obtain ⟨wn, hwn⟩ : ∃ q, W.length = q := ⟨_, rfl⟩
      rw [hwn] at hrow hwc hc' hsk
      clear hwn
      obtain ⟨wm, rfl⟩ : ∃ wm, wn = wm + 1 := ⟨wn - 1, by omega⟩
      obtain ⟨wb, woff, hwa, hx0, hx1⟩ := hrow.cell 0 (by omega)
      subst hwa
      simp only [Nat.zero_mul, Nat.add_zero] at hx0 hx1
      have HRow := hid (hrow.below HB.out)
      have hx1' := keep HB.out hx1
      have hwbr := World.block_lt_of_cell? _ _ hx1'
      dsimp only at hwbr
      have HSzs := hid hszs
      have HW1 : Hid (RR = match stepOf fin (restOf W) false [] with | .error x => .error x | .ok zs => if (ps.map strip).length = 200 then .error (7, (W[0]?.getD ((⟨#[]⟩, 0) : Wd)).2) else readS (SL.drop (k + 1)) (ps.map strip ++ [(isDel W, zs)])) := by
        show _ = _
        rw [HR1.out]; rfl
      have hcap0 : wm + 1 ≤ wc := hwc
      have hwm2 : wc ≤ 9223372036854775807 := by
        have := hwm
        unfold maxLen at this
        omega
      obtain ⟨q0, hq0⟩ : ∃ q, (W[0]?.getD ((⟨#[]⟩, 0) : Wd)).2 = q := ⟨_, rfl⟩
      rw [hq0] at hx1' hsk hek HW1
      clear hq0 hx0 hx1 hszs hrow HR1
      obtain ⟨qn, rfl⟩ : ∃ qn : Nat, q0 = (qn : Int) := ⟨q0.toNat, by omega⟩
      rw [Int.toNat_natCast] at hek
      have hqs : qn ≤ s.size := by omega
      have HEndI := hid (fun w8 => end_impl s qn w8 (by omega) hqs)
      rw [hek] at HEndI
      clear hek hsk
      have HRead := hid (read_impl (some ⟨wb, woff, none⟩) (wm + 1) wc W fin wr HRow.out (by omega) hcap0 hwm2 HSzs.out)
      obtain ⟨T, hT⟩ : ∃ q, stepOf fin (restOf W) false [] = q := ⟨_, rfl⟩
      rw [hT] at HW1 HRead
      clear hT
      obtain ⟨D, hD⟩ : ∃ q, isDel W = q := ⟨_, rfl⟩
      rw [hD] at HW1 HRead
      clear hD
      go_wp2_with fail
      refine (HEndI.out _).mono ?_
      rintro e w2 ⟨rfl, hw2⟩
      have hw2 := hw2.symm
      subst hw2
      go_wp2_with fail
      refine HRead.out.mono ?_
      rintro e w3 ⟨hb3, hans⟩
      have HB3 := hid (HB.out.trans (hb3.mono hszr))
      have HO3 := hid (HO.out.below hb3)
      have hz3 := hb3.size
      have HBw3 := hid (HBw.out.trans (hb3.mono HBw.out.size))
      have HLt3 : Hid (∀ q ∈ ps, ∀ g, q.2.1.ownBlock = some g → g < wr.heap.size) := fun q hq g e => (World.ownsRow.lt (HO.out.inner q hq) g e).2
      clear hb3
      cases T with
      | error x =>
        obtain ⟨cc, qq⟩ := x
        have hR : RR = .error (cc, qq) := HW1.out
        subst hR
        clear HW1 HRead
        have hans' : e = .panicked [{ v := .iface 40 (.agg #[.int .i64 cc, .int .i64 qq]), recovered := false }] := hans
        subst hans'
        clear hans
        go_wp2
        exact ⟨rfl, HBw3.out, rfl⟩
      | ok zs =>
        obtain ⟨v3, rfl, hzs⟩ := hans
        obtain ⟨pp, cp, hv3⟩ : ∃ pp cp, v3 = .slice pp zs.length cp := by
          rcases hzs.2 with ⟨e, h0⟩ | ⟨g, cp, cur, e, _⟩
          · rw [h0]; exact ⟨_, _, e⟩
          · exact ⟨_, _, e⟩
        subst hv3
        have HZs := hid hzs
        have HW2 : Hid (RR = if (ps.map strip).length = 200 then .error (7, (qn : Int)) else readS (SL.drop (k + 1)) (ps.map strip ++ [(D, zs)])) := HW1.out
        clear hzs HW1 HRead
        obtain ⟨ov, ovc, hu3⟩ : ∃ ov ovc, u3 = .slice ov ps.length ovc := by
          rcases HO3.out.outer.2 with ⟨e, h0⟩ | ⟨g, cp, cur, e, _⟩
          · rw [h0]; exact ⟨_, _, e⟩
          · exact ⟨_, _, e⟩
        subst hu3
        by_cases h200 : ps.length = 200
        · have hR : RR = .error (7, (qn : Int)) := by rw [HW2.out, if_pos (by simp [h200])]
          have d200 : ((ps.length : Int) == 200) = true := by simp [h200]
          subst hR
          clear HW2 h200
          go_wp2
          exact ⟨rfl, by have hbb := HBw3.out; exact (by repeat (first | exact Below.refl _ _ | assumption | refine Below.drew ?_ | refine Below.alloc ?_ (by first | exact Nat.le_refl _ | omega | (simp; done) | (simp; omega)) _ | refine Below.setCell ?_ (by first | exact Nat.le_refl _ | omega | (simp; done) | (simp; omega)) _)), rfl⟩
        · have HR2 : Hid (RR = readS (SL.drop (k + 1)) (ps.map strip ++ [(D, zs)])) := by
            show _ = _
            rw [HW2.out, if_neg (by simpa using h200)]
          have d200 : ((ps.length : Int) == 200) = false := beq_eq_false_iff_ne.2 (by omega)
          have hsz3 : w1.heap.size ≤ w3.heap.size := HB3.out.size
          clear HW2
          go_wp2_with (at_builtin; (refine wpList_append_own _ rfl _ _ 23 rfl w1.heap.size 53 i0 _ 2 32 Tryz.underlying23 HI.out HZ0.out HZ1.out HZ2.out rfl (by decide) _ _ _ rfl (own_pass HO3.out.outer (by repeat (first | exact Below.refl _ _ | assumption | refine Below.drew ?_ | refine Below.alloc ?_ (by first | exact Nat.le_refl _ | omega | (simp; done) | (simp; omega)) _ | refine Below.setCell ?_ (by first | exact Nat.le_refl _ | omega | (simp; done) | (simp; omega)) _))) ⟨_, 0, none⟩ 1 1 [.bool D, .slice pp zs.length cp] rfl rfl (at_two (by simp [go_sem]) (by simp [go_sem])) (fun u hu => by simp at hu; rcases hu with rfl | rfl <;> rfl) (by unfold maxLen; omega) (by omega) (by simp; omega) ?_); intro v4 w4 hown4 hg4 hnil4)
          have hb3a := (show Below w3.heap.size w3 _ from Below.alloc (Below.alloc (Below.refl _ _) (Nat.le_refl _) (.cells #[.bool D, .slice pp zs.length cp] 53)) (by simp) (.cells #[.bool D, .slice pp zs.length cp] 53))
          have HOs := steps_add (p := (D, .slice pp zs.length cp, zs)) (HO3.out.below hb3a) (readSpecP.own_base (own_pass HZs.out hb3a) hszr) hown4 hg4
          have hB4 : Below w1.heap.size w1 w4 := (HB3.out.trans (hb3a.mono hsz3)).grown hg4 (by simp; omega) (fun j hj => (World.ownsRow.lt HO3.out.outer j hj).1)
          have hLn := lone_add (p := (D, .slice pp zs.length cp, zs)) (M := wr.heap.size) HLo.out HLt3.out (fun g e => (World.ownsRow.lt HZs.out g e).1)
          exact ⟨⟨k + 1, ps ++ [(D, .slice pp zs.length cp, zs)], by omega, by go_num, HOs, hLn, by simp; omega, hB4, by rw [HR2.out]; simp [strip]⟩, by simp [intOf]; omega⟩
    · have e : k = pw.length := by omega
      have hdl : decide ((k : Int) < (pw.length : Int)) = false := decide_eq_false (by omega)
      have hR : RR = .ok (ps.map strip) := by
        rw [HRd.out, List.drop_of_length_le (by rw [← HLen.out]; omega)]; rfl
      subst hR
      clear HRd e
      go_wp2
      go_ret
      exact ⟨HBw.out, _, ps, rfl, HO.out.mono hsz1, HLo.out, rfl⟩
end Go.Proofs.YtcgpjlpggbgdaaaGreatDoor.stepsRead
