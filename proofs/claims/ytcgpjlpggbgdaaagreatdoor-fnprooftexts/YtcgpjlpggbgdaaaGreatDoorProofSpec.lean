/- The text of steps, of the specification; conditions: lengths that fit. -/
import Derived.Test.YtcgpjlpggbgdaaaGreatDoorStepsImpl
import Derived.Test.YtcgpjlpggbgdaaaGreatDoorTextRow
namespace Go.Proofs.YtcgpjlpggbgdaaaGreatDoor.proofSpec
open Go.RowKit Go.Deep base copy cnf digits lines textImpl textRow steps stepsImpl
set_option linter.unusedVariables false

set_option maxHeartbeats 800000 in
theorem are_spec (a : Option Addr) (len cap : Nat) (ss : List St) (vars : Int) (w : World) (h0 : 0 ≤ vars) (h1 : vars ≤ 40) (hr : StepRow w a len ss) :
    Calls Tryz.prog 18 #[.slice a len cap, .int .i64 vars] w fun e w' => e = .returned (.bool (stepsB vars ss)) ∧ w' = w := by
  have hmost := hr.most
  unfold maxLen at hmost
  have HR := hid hr
  have HL := hid hr.length
  clear hr
  by_cases h3 : (200 : Int) < (len : Int)
  · have hf : stepsB vars ss = false := by
      have : decide (ss.length ≤ 200) = false := decide_eq_false (by rw [HL.out]; omega)
      simp [stepsB, this]
    rw [hf]
    clear hf
    go_enter Tryz.func18, Tryz.ntmps18
    go_wp2
    go_ret
    exact ⟨rfl, rfl⟩
  have hN : Hid (stepsB vars ss = ss.all (fun s => clauseB vars s.2)) := by
    show _ = _
    have : decide (ss.length ≤ 200) = true := decide_eq_true (by rw [HL.out]; omega)
    simp [stepsB, this]
  go_enter Tryz.func18, Tryz.ntmps18
  go_wp2
  go_loop [5] (fun i => ∃ k : Nat, k ≤ len ∧ i = .int .i64 k ∧ (ss.take k).all (fun s => clauseB vars s.2) = true) (fun i => len - (intOf i).toNat)
  case atStart => exact ⟨0, Nat.zero_le _, rfl, rfl⟩
  case round =>
    obtain ⟨k, hk, rfl, ha⟩ := hrel
    have HA := hid ha
    clear ha
    by_cases hlt : k < len
    · obtain ⟨b, off, rfl, hd, x, l, c, hc, hx⟩ := HR.out.cell k hlt
      have HX := hid hx
      clear hx
      by_cases hL : clauseB vars (ss[k]?.getD (false, [])).2 = true
      · go_wp2_with fail
        refine (clause_spec x l c _ vars _ h0 h1 HX.out).mono ?_
        rintro e w1 ⟨rfl, rfl⟩
        rw [hL]
        go_wp2
        go_round
        case rel => exact ⟨k + 1, by omega, by go_num, by rw [all_take_succ (d := (false, [])) (by rw [HL.out]; omega), HA.out, hL]; rfl⟩
        case measure => simp [intOf]; omega
      · have hL' : clauseB vars (ss[k]?.getD (false, [])).2 = false := by simpa using hL
        clear hL
        go_wp2_with fail
        refine (clause_spec x l c _ vars _ h0 h1 HX.out).mono ?_
        rintro e w1 ⟨rfl, rfl⟩
        rw [hL']
        go_wp2
        go_ret
        exact ⟨ret_bool (by rw [hN.out, all_false (d := (false, [])) (by rw [HL.out]; omega) hL']), rfl⟩
    · have e : k = len := by omega
      subst e
      go_wp2
      go_ret
      exact ⟨ret_bool (by rw [hN.out, ← HA.out, List.take_of_length_le (by rw [HL.out]; omega)]), rfl⟩

set_option maxHeartbeats 3200000 in
set_option maxRecDepth 8000 in
theorem text_of_spec (a : Option Addr) (len cap : Nat) (ss : List St) (w : World) (hr : StepRow w a len ss) (hB : stepsB 40 ss = true) :
    Calls Tryz.prog 19 #[.slice a len cap] w fun e w' => e = .returned (.string ⟨(proofBytes ss).toArray⟩) ∧ Below w.heap.size w w' := by
  obtain ⟨hl200, hrows⟩ := steps_rows hB
  have HRo := hid hrows
  have HR := hid hr
  have HL := hid hr.length
  have hle : len ≤ 200 := by rw [← hr.length]; exact hl200
  obtain ⟨tb, htb⟩ : ∃ tb, proofBytes ss = tb := ⟨_, rfl⟩
  have HTb : Hid (tb = ss.flatMap stepBytes) := htb.symm
  rw [htb]
  have HTx : Hid (∀ k, ((ss.take k).flatMap stepBytes).length ≤ 2408000) := fun k => steps_most (fun zs h => HRo.out zs (List.mem_of_mem_take h)) (Nat.le_trans (List.length_take_le' _ _) hl200)
  clear hr hrows htb hl200 hB
  go_enter Tryz.func19, Tryz.ntmps19
  go_wp2
  go_loopw [4, 3] (fun i v wr => ∃ k : Nat, k ≤ len ∧ i = .int .i64 k ∧ TextRow w.heap.size wr v ((ss.take k).flatMap stepBytes) ∧ Below w.heap.size w wr) (fun i _ _ => len - (intOf i).toNat)
  case atStart => exact ⟨0, Nat.zero_le _, rfl, ⟨w.heap.size, 0, rfl, Nat.le_refl _, by simp, Nat.le_refl _, fun j hj => absurd hj (Nat.not_lt_zero _), fun j h1 h2 => absurd h2 (Nat.not_lt_zero _)⟩, (Below.refl _ _).alloc (Nat.le_refl _) _⟩
  case round =>
    obtain ⟨k, hk, rfl, htr, hbel⟩ := hrel
    have HTk := hid htr
    have HBk := hid hbel
    have hfl := HTx.out k
    clear htr
    by_cases hlt : k < len
    · obtain ⟨b, off, rfl, hd0, x, l, c, hc0, hx0⟩ := HR.out.cell k hlt
      have hd := keep hbel hd0
      have HC0 := hid hc0
      have HX0 := hid hx0
      have hkz : k < ss.length := by rw [HL.out]; exact hlt
      have hmem : ss[k]?.getD (false, []) ∈ ss := by rw [List.getElem?_eq_getElem hkz]; exact List.getElem_mem _
      have HZ := hid (HRo.out _ hmem)
      have HXl := hid hx0.length
      have HF := hid (text_next (ss := ss) hkz)
      clear hc0 hd0 hx0 hmem hbel
      generalize ss[k]?.getD (false, []) = s at *
      obtain ⟨d, zs⟩ := s
      generalize (ss.take k).flatMap stepBytes = acc at *
      simp only at hd HX0 HZ HXl
      rw [show stepBytes (d, zs) = (if d then [100, 32] else []) ++ lineBytes zs from rfl] at HF
      have hl12 : l ≤ 12 := by rw [← HXl.out]; exact HZ.out.1
      have HFz := hid (fun j => flat_len (zs.take j) (fun z h => by have := HZ.out.2 z (List.mem_of_mem_take h); omega))
      have HSk := hid HBk.out.size
      obtain ⟨pre, hpre⟩ : ∃ pre : List UInt8, pre = if d then [100, 32] else [] := ⟨_, rfl⟩
      have hpl : pre.length ≤ 2 := by rw [hpre]; split <;> simp
      rw [← hpre] at HF
      cases d
      · have HTp : Hid (TextRow w.heap.size wr u3 (acc ++ pre)) := by
          show TextRow _ _ _ _
          rw [hpre]
          simpa using HTk.out
        have HBp := HBk
        clear HTk hpre
        go_wp2
        go_loopw [5, 3] (fun i v wr2 => ∃ j : Nat, j ≤ l ∧ i = .int .i64 j ∧ TextRow w.heap.size wr2 v (acc ++ pre ++ (zs.take j).flatMap litBytes) ∧ Below w.heap.size w wr2) (fun i _ _ => l - (intOf i).toNat)
        case atStart => exact ⟨0, Nat.zero_le _, rfl, by simpa using HTp.out, HBp.out⟩
        case round =>
          obtain ⟨j, hj, rfl, htr, hbel⟩ := hrel
          have HTj := hid htr
          have HBj := hid hbel
          have HSj := hid hbel.size
          have hcj := keep hbel HC0.out
          have hfj : ((zs.take j).flatMap litBytes).length ≤ 12036 := by
            have h1 := HFz.out j
            have h2 : (zs.take j).length ≤ 12 := by rw [List.length_take]; omega
            have h3 := Nat.mul_le_mul_right 1003 h2
            omega
          clear htr hbel
          by_cases hlj : j < l
          · obtain ⟨b', off', rfl, hcz0⟩ := HX0.out.cell j hlj
            have hcz := keep HBj.out hcz0
            have hjz : j < zs.length := by rw [HXl.out]; exact hlj
            have hmz : zs[j]?.getD 0 ∈ zs := by rw [List.getElem?_eq_getElem hjz]; exact List.getElem_mem _
            have hzr := HZ.out.2 _ hmz
            have HFl := hid (flat_succ (zs := zs) hjz)
            clear hcz0 hmz
            generalize zs[j]?.getD 0 = z at *
            generalize (zs.take j).flatMap litBytes = az at *
            have HDz := hid (fun w => digits_spec z w (by omega) (by omega))
            have hilz := itoa_len z (by omega) (by omega)
            obtain ⟨t, hti⟩ : ∃ t, Lib.itoa z = t := ⟨_, rfl⟩
            have HTi := hid hti
            rw [hti] at HDz hilz
            clear hti
            have hls : ¬ (9223372036854775807 < t.length + 1) := by omega
            go_wp2_with fail
            refine (HDz.out _).mono ?_
            rintro e w4 ⟨rfl, hb4⟩
            have HB4 := hid (HBj.out.trans (hb4.mono HSj.out))
            have HT4 := hid (HTj.out.below hb4)
            have HS4 := hid (Nat.le_trans HSj.out hb4.size)
            clear hb4
            go_wp2_with (at_builtin; (refine wpList_append_row _ rfl _ _ rfl w.heap.size _ _ rfl HT4.out (⟨t.toArray⟩ ++ ⟨#[32]⟩) rfl (by rw [ByteArray.size_append, List.length_append, List.length_append]; show _ + (t.toArray.size + 1) ≤ _; rw [List.size_toArray]; omega) HS4.out ?_); intro v5 w5 htr5 hb5)
            have HT5 : Hid (TextRow w.heap.size w5 v5 (acc ++ pre ++ (zs.take (j + 1)).flatMap litBytes)) := by
              show TextRow _ _ _ _
              rw [HFl.out]
              unfold litBytes
              rw [HTi.out]
              simpa using htr5
            have HB5 := hid (HB4.out.trans hb5)
            clear htr5 hb5
            go_wp2
            go_roundw
            case rel => exact ⟨j + 1, by omega, by go_num, HT5.out, HB5.out⟩
            case measure => simp [intOf]; omega
          · have e : j = l := by omega
            subst e
            have ht : zs.take j = zs := List.take_of_length_le (by rw [HXl.out]; omega)
            rw [ht] at HTj hfj
            clear ht
            go_wp2_with (at_builtin; (refine wpList_append_row _ rfl _ _ rfl w.heap.size _ _ rfl HTj.out ⟨#[48, 10]⟩ rfl (by rw [List.length_append, List.length_append]; show _ + 2 ≤ _; omega) HSj.out ?_); intro v5 w5 htr5 hb5)
            have HT5 : Hid (TextRow w.heap.size w5 v5 ((ss.take (k + 1)).flatMap stepBytes)) := by
              show TextRow _ _ _ _
              rw [HF.out]
              unfold lineBytes
              simpa using htr5
            have HB5 := hid (HBj.out.trans hb5)
            clear htr5 hb5
            go_wp2
            exact ⟨⟨k + 1, by omega, by go_num, HT5.out, HB5.out⟩, by simp [intOf]; omega⟩
      · go_wp2_with (at_builtin; (refine wpList_append_row _ rfl _ _ rfl w.heap.size _ _ rfl HTk.out ⟨#[100, 32]⟩ rfl (by show _ + 2 ≤ _; omega) HSk.out ?_); intro V1 W1 htr5 hb5)
        have HTp : Hid (TextRow w.heap.size W1 V1 (acc ++ pre)) := by
          show TextRow _ _ _ _
          rw [hpre]
          simpa using htr5
        have HBp := hid (HBk.out.trans hb5)
        clear htr5 hb5 HTk hpre hd
        go_wp2
        go_loopw [5, 3] (fun i v wr2 => ∃ j : Nat, j ≤ l ∧ i = .int .i64 j ∧ TextRow w.heap.size wr2 v (acc ++ pre ++ (zs.take j).flatMap litBytes) ∧ Below w.heap.size w wr2) (fun i _ _ => l - (intOf i).toNat)
        case atStart => exact ⟨0, Nat.zero_le _, rfl, by simpa using HTp.out, HBp.out⟩
        case round =>
          obtain ⟨j, hj, rfl, htr, hbel⟩ := hrel
          have HTj := hid htr
          have HBj := hid hbel
          have HSj := hid hbel.size
          have hcj := keep hbel HC0.out
          have hfj : ((zs.take j).flatMap litBytes).length ≤ 12036 := by
            have h1 := HFz.out j
            have h2 : (zs.take j).length ≤ 12 := by rw [List.length_take]; omega
            have h3 := Nat.mul_le_mul_right 1003 h2
            omega
          clear htr hbel
          by_cases hlj : j < l
          · obtain ⟨b', off', rfl, hcz0⟩ := HX0.out.cell j hlj
            have hcz := keep HBj.out hcz0
            have hjz : j < zs.length := by rw [HXl.out]; exact hlj
            have hmz : zs[j]?.getD 0 ∈ zs := by rw [List.getElem?_eq_getElem hjz]; exact List.getElem_mem _
            have hzr := HZ.out.2 _ hmz
            have HFl := hid (flat_succ (zs := zs) hjz)
            clear hcz0 hmz
            generalize zs[j]?.getD 0 = z at *
            generalize (zs.take j).flatMap litBytes = az at *
            have HDz := hid (fun w => digits_spec z w (by omega) (by omega))
            have hilz := itoa_len z (by omega) (by omega)
            obtain ⟨t, hti⟩ : ∃ t, Lib.itoa z = t := ⟨_, rfl⟩
            have HTi := hid hti
            rw [hti] at HDz hilz
            clear hti
            have hls : ¬ (9223372036854775807 < t.length + 1) := by omega
            go_wp2_with fail
            refine (HDz.out _).mono ?_
            rintro e w4 ⟨rfl, hb4⟩
            have HB4 := hid (HBj.out.trans (hb4.mono HSj.out))
            have HT4 := hid (HTj.out.below hb4)
            have HS4 := hid (Nat.le_trans HSj.out hb4.size)
            clear hb4
            go_wp2_with (at_builtin; (refine wpList_append_row _ rfl _ _ rfl w.heap.size _ _ rfl HT4.out (⟨t.toArray⟩ ++ ⟨#[32]⟩) rfl (by rw [ByteArray.size_append, List.length_append, List.length_append]; show _ + (t.toArray.size + 1) ≤ _; rw [List.size_toArray]; omega) HS4.out ?_); intro v5 w5 htr5 hb5)
            have HT5 : Hid (TextRow w.heap.size w5 v5 (acc ++ pre ++ (zs.take (j + 1)).flatMap litBytes)) := by
              show TextRow _ _ _ _
              rw [HFl.out]
              unfold litBytes
              rw [HTi.out]
              simpa using htr5
            have HB5 := hid (HB4.out.trans hb5)
            clear htr5 hb5
            go_wp2
            go_roundw
            case rel => exact ⟨j + 1, by omega, by go_num, HT5.out, HB5.out⟩
            case measure => simp [intOf]; omega
          · have e : j = l := by omega
            subst e
            have ht : zs.take j = zs := List.take_of_length_le (by rw [HXl.out]; omega)
            rw [ht] at HTj hfj
            clear ht
            go_wp2_with (at_builtin; (refine wpList_append_row _ rfl _ _ rfl w.heap.size _ _ rfl HTj.out ⟨#[48, 10]⟩ rfl (by rw [List.length_append, List.length_append]; show _ + 2 ≤ _; omega) HSj.out ?_); intro v5 w5 htr5 hb5)
            have HT5 : Hid (TextRow w.heap.size w5 v5 ((ss.take (k + 1)).flatMap stepBytes)) := by
              show TextRow _ _ _ _
              rw [HF.out]
              unfold lineBytes
              simpa using htr5
            have HB5 := hid (HBj.out.trans hb5)
            clear htr5 hb5
            go_wp2
            exact ⟨⟨k + 1, by omega, by go_num, HT5.out, HB5.out⟩, by simp [intOf]; omega⟩
    · have e : k = len := by omega
      subst e
      have ht : ss.take k = ss := List.take_of_length_le (by rw [HL.out]; omega)
      rw [ht, ← HTb.out] at HTk
      have hback := back_row HTk.out
      clear ht hbel
      go_wp2
      go_ret
      exact ⟨rfl, HBk.out⟩

set_option maxHeartbeats 800000 in
theorem pt_spec (a : Option Addr) (len cap : Nat) (ss : List St) (w : World) (hr : StepRow w a len ss) :
    Calls Tryz.prog 7 #[.slice a len cap] w fun e w' => e = .returned (.tuple #[.string ⟨(ptBytes ss).toArray⟩, .int .i64 (ptCode ss)]) ∧ Below w.heap.size w w' := by
  have hmost := hr.most
  unfold maxLen at hmost
  have HR := hid hr
  have hl := hr.length
  clear hr
  by_cases hlong : 4096 < len
  · have e1 : ptBytes ss = [] := by unfold ptBytes; rw [if_pos (by rw [hl]; exact hlong)]
    have e2 : ptCode ss = 2 := by unfold ptCode; rw [if_pos (by rw [hl]; exact hlong)]
    rw [e1, e2]
    clear e1 e2 hl
    have hle : decide ((4096 : Int) < (len : Int)) = true := decide_eq_true (by omega)
    go_enter Tryz.func7, Tryz.ntmps7
    go_wp2
    go_ret2
    exact ⟨rfl, Below.refl _ _⟩
  · have hl0 : ¬ 4096 < ss.length := by rw [hl]; exact hlong
    have hle : decide ((4096 : Int) < (len : Int)) = false := decide_eq_false (by omega)
    cases hB : stepsB 40 ss
    · have e1 : ptBytes ss = [] := by unfold ptBytes; rw [if_neg hl0, hB]; rfl
      have e2 : ptCode ss = 1 := by unfold ptCode; rw [if_neg hl0, hB]; rfl
      rw [e1, e2]
      clear e1 e2 hl hl0
      go_enter Tryz.func7, Tryz.ntmps7
      go_wp2_with fail
      refine (are_spec a len cap ss 40 _ (by omega) (by omega) HR.out).mono ?_
      rintro e w1 ⟨rfl, rfl⟩
      rw [hB]
      go_wp2
      go_ret2
      exact ⟨rfl, Below.refl _ _⟩
    · have e1 : ptBytes ss = proofBytes ss := by unfold ptBytes; rw [if_neg hl0, hB]; rfl
      have e2 : ptCode ss = 0 := by unfold ptCode; rw [if_neg hl0, hB]; rfl
      rw [e1, e2]
      clear e1 e2 hl hl0
      have HTx := hid (fun w hr => text_of_spec a len cap ss w hr hB)
      generalize proofBytes ss = tb at *
      go_enter Tryz.func7, Tryz.ntmps7
      go_wp2_with fail
      refine (are_spec a len cap ss 40 _ (by omega) (by omega) HR.out).mono ?_
      rintro e w1 ⟨rfl, rfl⟩
      rw [hB]
      go_wp2_with fail
      refine (HTx.out _ HR.out).mono ?_
      rintro e w2 ⟨rfl, hb2⟩
      have HB2 := hid hb2
      clear hb2
      go_wp2
      go_ret2
      exact ⟨rfl, HB2.out⟩
end Go.Proofs.YtcgpjlpggbgdaaaGreatDoor.proofSpec
