/- A formula's text, of the specification; conditions: lengths that fit. -/
import Derived.Test.YtdphkbpjbcnbpaaDoorTextRow
namespace Go.Proofs.YtdphkbpjbcnbpaaDoor.textSpec
open Go.RowKit Go.Deep base copy cnf digits lines heldStore textImpl textRow

set_option maxHeartbeats 3200000 in
set_option maxRecDepth 8000 in
theorem text_spec (vars : Int) (a : Option Addr) (len cap : Nat) (zss : List (List Int)) (w : World) (hr : IntRows w a len zss) (hB : cnfB vars zss = true) :
    Calls Tryd.prog 17 #[.agg #[.int .i64 vars, .slice a len cap]] w fun e w' => e = .returned (.string ⟨(textBytes vars zss).toArray⟩) ∧ Below w.heap.size w w' := by
  obtain ⟨hv0, hv1, hl300, hrows⟩ := cnf_rows hB
  have HRo := hid hrows
  have HR := hid hr
  have HL := hid hr.length
  have hle : len ≤ 300 := by rw [← hr.length]; exact hl300
  obtain ⟨tb, htb⟩ : ∃ tb, textBytes vars zss = tb := ⟨_, rfl⟩
  have HTb := hid htb
  rw [htb]
  have HDv := hid (fun w => digits_spec vars w (by omega) (by omega))
  have HDl := hid (fun w => digits_spec (len : Int) w (by omega) (by omega))
  have hil1 := itoa_len vars (by omega) (by omega)
  have hil2 := itoa_len (len : Int) (by omega) (by omega)
  have HHd : Hid (headBytes vars zss.length = [112, 32, 99, 110, 102, 32] ++ Lib.itoa vars ++ [32] ++ Lib.itoa (len : Int) ++ [10]) := by
    show _ = _
    rw [hr.length]
    rfl
  generalize Lib.itoa vars = t1 at *
  generalize Lib.itoa (len : Int) = t2 at *
  have HTx : Hid (∀ k, ((zss.take k).flatMap lineBytes).length ≤ 3611400) := fun k => text_most (fun zs h => HRo.out zs (List.mem_of_mem_take h)) (Nat.le_trans (List.length_take_le' _ _) hl300)
  have hsz1 : ¬ (9223372036854775807 < 6 + t1.length) := by omega
  have hsz2 : ¬ (9223372036854775807 < 6 + t1.length + 1) := by omega
  have hsz3 : ¬ (9223372036854775807 < 6 + t1.length + 1 + t2.length) := by omega
  have hsz4 : ¬ (9223372036854775807 < 6 + t1.length + 1 + t2.length + 1) := by omega
  have hhl : (headBytes vars zss.length).length ≤ 2012 := by
    rw [HHd.out]
    simp
    omega
  clear hr hrows htb hl300 hB
  obtain ⟨W0, hW0⟩ : ∃ W0, w.alloc (.cells #[.int .i64 vars, .slice a len cap] 25) = W0 := ⟨_, rfl⟩
  have HW0 := hid hW0
  have HB0 : Hid (Below w.heap.size w W0) := by rw [← hW0]; exact (Below.refl _ _).alloc (Nat.le_refl _) _
  have hz0 : W0.heap.size = w.heap.size + 1 := by rw [← hW0]; simp
  have cellsAt : ∀ w', Below (w.heap.size + 1) W0 w' → w'.cell? ⟨w.heap.size, 0, none⟩ = some (.int .i64 vars) ∧ w'.cell? ⟨w.heap.size, 1, none⟩ = some (.slice a len cap) := fun w' h => by
    refine ⟨keepB h (by omega) ?_, keepB h (by omega) ?_⟩
    · rw [← hW0]; simp [go_sem]
    · rw [← hW0]; simp [go_sem]
  have HZ0 := hid hz0
  clear hW0 hz0
  go_enter Tryd.func17, Tryd.ntmps17
  go_wp2
  refine region_goes 12 13 (fun w' => w'.cell? ⟨w.heap.size, 0, none⟩ = some (.int .i64 vars) ∧ w'.cell? ⟨w.heap.size, 1, none⟩ = some (.slice a len cap)) (by kernel_rfl) (by rfl) ⟨by kernel_rfl, by kernel_rfl, by kernel_rfl, by decide⟩ ⟨by simp [go_sem], by simp [go_sem]⟩ (fun hE inv hHeld => ?_)
  refine Goes.take (i := 0) (v := ?v0u1) (some 6) hE rfl rfl inv (by kernel_rfl) (by kernel_rfl) (by decide) (fun _ _ _ h => h) (Or.inl ⟨by rfl, ?y0u1⟩) (by assumption) (fun inv => ?r0u1)
  case y0u1 => (intro w' hSw; (try dsimp only at hSw); go_simp; (try with_reducible rfl))
  simp only [Act.put, List.setIfInBounds_toArray, List.set_cons_zero, List.set_cons_succ]
  refine Goes.take (i := 1) (v := ?v1u2) (some 7) hE rfl rfl inv (by kernel_rfl) (by kernel_rfl) (by decide) (fun _ _ _ h => h) (Or.inl ⟨by rfl, ?y1u2⟩) (by assumption) (fun inv => ?r1u2)
  case y1u2 => (intro w' hSw; (try dsimp only at hSw); go_simp; (try with_reducible rfl))
  simp only [Act.put, List.setIfInBounds_toArray, List.set_cons_zero, List.set_cons_succ]
  refine Goes.take (i := 5) (v := ?v5u3) (some 11) hE rfl rfl inv (by kernel_rfl) (by kernel_rfl) (by decide) (fun _ _ _ h => h) (Or.inl ⟨by rfl, ?y5u3⟩) (by assumption) (fun inv => ?r5u3)
  case y5u3 => (intro w' hSw; (try dsimp only at hSw); go_simp; (try with_reducible rfl))
  simp only [Act.put, List.setIfInBounds_toArray, List.set_cons_zero, List.set_cons_succ]
  refine Goes.take (i := 6) (v := ?v6u4) (some 12) hE rfl rfl inv (by kernel_rfl) (by kernel_rfl) (by decide) (fun _ _ _ h => h) (Or.inl ⟨by rfl, ?y6u4⟩) (by assumption) (fun inv => ?r6u4)
  case y6u4 => (intro w' hSw; (try dsimp only at hSw); go_simp; (try with_reducible rfl))
  simp only [Act.put, List.setIfInBounds_toArray, List.set_cons_zero, List.set_cons_succ]
  refine Goes.take (i := 7) (v := ?v7u5) (some 13) hE rfl rfl inv (by kernel_rfl) (by kernel_rfl) (by decide) (fun _ _ _ h => h) (Or.inl ⟨by rfl, ?y7u5⟩) (by assumption) (fun inv => ?r7u5)
  case y7u5 => (intro w' hSw; (try dsimp only at hSw); go_simp; (try with_reducible rfl))
  simp only [Act.put, List.setIfInBounds_toArray, List.set_cons_zero, List.set_cons_succ]
  refine Goes.one (i := 2) inv (by kernel_rfl) (by decide) rfl (fun inv K' hK => ?_)
  go_simp
  refine (HDv.out _).mono ?_
  rintro e w1 ⟨rfl, hb1⟩
  have H1 : Hid (Below (w.heap.size + 1) W0 w1) := ((Below.refl _ W0).drew).trans (by rw [← HW0.out]; exact hb1.mono (by simp))
  have s1 := cellsAt w1 H1.out
  (try go_wp2_with fail)
  refine hK.out _ _ s1 (fun hHeld => ?_)
  clear hK K'
  refine Goes.take (i := 3) (v := ?v3u6) (some 9) hE rfl rfl inv (by kernel_rfl) (by kernel_rfl) (by decide) (fun _ _ _ h => h) (Or.inl ⟨by rfl, ?y3u6⟩) (by assumption) (fun inv => ?r3u6)
  case y3u6 => (intro w' hSw; (try dsimp only at hSw); go_simp; (try with_reducible rfl))
  simp only [Act.put, List.setIfInBounds_toArray, List.set_cons_zero, List.set_cons_succ]
  refine Goes.take (i := 4) (v := ?v4u7) (some 10) hE rfl rfl inv (by kernel_rfl) (by kernel_rfl) (by decide) (fun _ _ _ h => h) (Or.inl ⟨by rfl, ?y4u7⟩) (by assumption) (fun inv => ?r4u7)
  case y4u7 => (intro w' hSw; (try dsimp only at hSw); go_simp; (try with_reducible rfl))
  simp only [Act.put, List.setIfInBounds_toArray, List.set_cons_zero, List.set_cons_succ]
  refine Goes.one (i := 8) inv (by kernel_rfl) (by decide) rfl (fun inv K' hK => ?_)
  go_simp
  refine (HDl.out _).mono ?_
  rintro e w2 ⟨rfl, hb2⟩
  have H2 : Hid (Below (w.heap.size + 1) W0 w2) := H1.out.trans (hb2.mono (by rw [← HZ0.out]; exact H1.out.size))
  have s2 := cellsAt w2 H2.out
  (try go_wp2_with fail)
  refine hK.out _ _ s2 (fun hHeld => ?_)
  clear hK K'
  refine Goes.take (i := 9) (v := ?v9u8) (some 15) hE rfl rfl inv (by kernel_rfl) (by kernel_rfl) (by decide) (fun _ _ _ h => h) (Or.inl ⟨by rfl, ?y9u8⟩) (by assumption) (fun inv => ?r9u8)
  case y9u8 => (intro w' hSw; (try dsimp only at hSw); go_simp; (try with_reducible rfl))
  simp only [Act.put, List.setIfInBounds_toArray, List.set_cons_zero, List.set_cons_succ]
  refine Goes.take (i := 10) (v := ?v10u9) (some 16) hE rfl rfl inv (by kernel_rfl) (by kernel_rfl) (by decide) (fun _ _ _ h => h) (Or.inl ⟨by rfl, ?y10u9⟩) (by assumption) (fun inv => ?r10u9)
  case y10u9 => (intro w' hSw; (try dsimp only at hSw); go_simp; (try with_reducible rfl))
  simp only [Act.put, List.setIfInBounds_toArray, List.set_cons_zero, List.set_cons_succ]
  refine Goes.one (i := 11) inv (by kernel_rfl) (by decide) rfl (fun inv K' hK => ?_)
  refine step_bytes (by rfl) _ (by rfl) (some 17) (by rfl) (w.heap.size + 1) (headStr t1 t2) (by rfl) (by rw [← HZ0.out]; exact H2.out.size) ?_
  intro v3 w3 htr hb3
  rw [head_list, ← HHd.out] at htr
  have H3 : Hid (Below (w.heap.size + 1) W0 w3) := H2.out.trans hb3
  have s3 := cellsAt w3 H3.out
  have HTr := hid htr
  clear htr hb3
  refine hK.out _ _ s3 (fun hHeld => ?_)
  clear hK K'
  simp only [Act.put, List.setIfInBounds_toArray, List.set_cons_zero, List.set_cons_succ]
  refine Goes.last (by kernel_rfl) (by kernel_rfl) rfl (fun K' hK => ?_)
  go_simp
  refine hK.out _ _ ?_
  clear hK K'
  (try simp only [Exit.then])
  obtain ⟨hd, hhd⟩ : ∃ hd, headBytes vars zss.length = hd := ⟨_, rfl⟩
  have HTe : Hid (tb = hd ++ zss.flatMap lineBytes) := by
    show _ = _
    rw [← HTb.out, ← hhd]
    rfl
  rw [hhd] at HTr hhl
  have HCA := hid cellsAt
  clear hhd s1 s2 s3 cellsAt hHeld
  go_wp2
  go_loopw [4, 3] (fun i v wr => ∃ k : Nat, k ≤ len ∧ i = .int .i64 k ∧ TextRow (w.heap.size + 1) wr v (hd ++ (zss.take k).flatMap lineBytes) ∧ Below (w.heap.size + 1) W0 wr) (fun i _ _ => len - (intOf i).toNat)
  case atStart => exact ⟨0, Nat.zero_le _, rfl, by simpa using HTr.out, H3.out⟩
  case round =>
    rename_i v0
    obtain ⟨k, hk, rfl, htr, hbel⟩ := hrel
    have HTk := hid htr
    have HBk := hid hbel
    have HBw : Hid (Below w.heap.size w wr) := HB0.out.trans (hbel.mono (by omega))
    have hfl := HTx.out k
    obtain ⟨x0, x1⟩ := HCA.out wr hbel
    clear htr hbel
    by_cases hlt : k < len
    · obtain ⟨b, off, rfl, x, l, c, hc0, hx0⟩ := HR.out.cell k hlt
      have hc := keep HBw.out hc0
      have HX0 := hid hx0
      have hkz : k < zss.length := by rw [HL.out]; exact hlt
      have hmem : zss[k]?.getD [] ∈ zss := by rw [List.getElem?_eq_getElem hkz]; exact List.getElem_mem _
      have HZ := hid (HRo.out _ hmem)
      have hxl := hx0.length
      have HF := hid (text_succ (zss := zss) hkz)
      clear hx0 hmem
      generalize zss[k]?.getD [] = zs at *
      generalize (zss.take k).flatMap lineBytes = acc at *
      have hl12 : l ≤ 12 := by rw [← hxl]; exact HZ.out.1
      have HXl := hid hxl
      have HFz := hid (fun j => flat_len (zs.take j) (fun z h => by have := HZ.out.2 z (List.mem_of_mem_take h); omega))
      clear hxl
      generalize wr = W1 at *
      go_wp2
      go_loopw [5, 3] (fun i v wr2 => ∃ j : Nat, j ≤ l ∧ i = .int .i64 j ∧ TextRow (w.heap.size + 1) wr2 v (hd ++ acc ++ (zs.take j).flatMap litBytes) ∧ Below (w.heap.size + 1) W0 wr2 ∧ Below (w.heap.size + 1) W1 wr2) (fun i _ _ => l - (intOf i).toNat)
      case atStart => exact ⟨0, Nat.zero_le _, rfl, by simpa using HTk.out, HBk.out, Below.refl _ _⟩
      case round =>
        rename_i v1
        obtain ⟨j, hj, rfl, htr, hbel, hbel1⟩ := hrel
        have HTj := hid htr
        have HBj := hid hbel
        have HB1j := hid hbel1
        have HBwj : Hid (Below w.heap.size w wr) := HB0.out.trans (hbel.mono (by omega))
        have HSj : Hid (w.heap.size + 1 ≤ wr.heap.size) := by rw [← HZ0.out]; exact Nat.le_trans (by omega) hbel.size
        obtain ⟨x0, x1⟩ := HCA.out wr hbel
        have hfj : ((zs.take j).flatMap litBytes).length ≤ 12036 := by
          have h1 := HFz.out j
          have h2 : (zs.take j).length ≤ 12 := by rw [List.length_take]; omega
          have h3 := Nat.mul_le_mul_right 1003 h2
          omega
        clear htr hbel hbel1
        have hcj0 := keep HBwj.out hc0
        by_cases hlj : j < l
        · obtain ⟨b', off', rfl, hcz0⟩ := HX0.out.cell j hlj
          have hcz := keep HBwj.out hcz0
          have hjz : j < zs.length := by rw [HXl.out]; exact hlj
          have hmz : zs[j]?.getD 0 ∈ zs := by rw [List.getElem?_eq_getElem hjz]; exact List.getElem_mem _
          have hzr := HZ.out.2 _ hmz
          have HFl := hid (flat_succ (zs := zs) hjz)
          clear hcz0 hmz
          generalize zs[j]?.getD 0 = z at *
          generalize (zs.take j).flatMap litBytes = az at *
          have HDz := hid (fun w => digits_spec z w (by omega) (by omega))
          have hilz := itoa_len z (by omega) (by omega)
          obtain ⟨t, hti⟩ : ∃ t, Lib.itoa z = t := ⟨_, rfl⟩
          have HTi := hid hti
          rw [hti] at HDz hilz
          clear hti
          have hls : ¬ (9223372036854775807 < t.length + 1) := by omega
          go_wp2_with fail
          refine (HDz.out _).mono ?_
          rintro e w4 ⟨rfl, hb4⟩
          have HB4 : Hid (Below (w.heap.size + 1) W0 w4) := HBj.out.trans (hb4.mono HSj.out)
          have HB14 : Hid (Below (w.heap.size + 1) W1 w4) := HB1j.out.trans (hb4.mono HSj.out)
          have HT4 := hid (HTj.out.below hb4)
          have HS4 : Hid (w.heap.size + 1 ≤ w4.heap.size) := Nat.le_trans HSj.out hb4.size
          clear hb4
          go_wp2_with (at_builtin; (refine wpList_append_row _ rfl _ _ rfl (w.heap.size + 1) _ _ rfl HT4.out (⟨t.toArray⟩ ++ ⟨#[32]⟩) rfl (by rw [ByteArray.size_append, List.length_append, List.length_append]; show _ + (t.toArray.size + 1) ≤ _; rw [List.size_toArray]; omega) HS4.out ?_); intro v5 w5 htr5 hb5)
          have HT5 : Hid (TextRow (w.heap.size + 1) w5 v5 (hd ++ acc ++ (zs.take (j + 1)).flatMap litBytes)) := by
            show TextRow _ _ _ _
            rw [HFl.out]
            unfold litBytes
            rw [HTi.out]
            simpa using htr5
          have HB5 := hid (HB4.out.trans hb5)
          have HB15 := hid (HB14.out.trans hb5)
          clear htr5 hb5
          go_wp2
          go_roundw
          case rel => exact ⟨j + 1, by omega, by go_num, HT5.out, HB5.out, HB15.out⟩
          case measure => simp [intOf]; omega
        · have e : j = l := by omega
          subst e
          have ht : zs.take j = zs := List.take_of_length_le (by rw [HXl.out]; omega)
          rw [ht] at HTj hfj
          clear ht
          go_wp2_with (at_builtin; (refine wpList_append_row _ rfl _ _ rfl (w.heap.size + 1) _ _ rfl HTj.out ⟨#[48, 10]⟩ rfl (by rw [List.length_append, List.length_append]; show _ + 2 ≤ _; omega) HSj.out ?_); intro v5 w5 htr5 hb5)
          have HT5 : Hid (TextRow (w.heap.size + 1) w5 v5 (hd ++ (zss.take (k + 1)).flatMap lineBytes)) := by
            show TextRow _ _ _ _
            rw [HF.out]
            unfold lineBytes
            simpa using htr5
          have HB5 := hid (HBj.out.trans hb5)
          clear htr5 hb5
          go_wp2
          exact ⟨⟨k + 1, by omega, by go_num, HT5.out, HB5.out⟩, by simp [intOf]; omega⟩
    · have e : k = len := by omega
      subst e
      have ht : zss.take k = zss := List.take_of_length_le (by rw [HL.out]; omega)
      rw [ht, ← HTe.out] at HTk
      have hback := back_row HTk.out
      clear ht
      go_wp2
      go_ret
      exact ⟨rfl, HBw.out⟩
end Go.Proofs.YtdphkbpjbcnbpaaDoor.textSpec
