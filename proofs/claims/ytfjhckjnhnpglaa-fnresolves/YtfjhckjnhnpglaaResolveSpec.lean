/- What two clauses resolve to by the specification; conditions: lengths that fit. -/
import Derived.Test.YtfjhckjnhnpglaaResolve
namespace Go.Proofs.Ytfjhckjnhnpglaa.resolveSpec
open Go.RowKit Go.Deep base copy cnf eval own order sorted concat inOrder resolved

set_option maxHeartbeats 1600000 in
theorem resolve_spec (a b : Option Addr) (la ca lb cb : Nat) (za zb : List Int) (v : Int) (w : World) (hra : IntRow w a la za) (hrb : IntRow w b lb zb) :
    Calls Try.prog 16 #[.slice a la ca, .slice b lb cb, .int .i64 v] w fun e w' => ∃ x, e = .returned (.tuple #[x, .int .i64 (resCode za zb v)]) ∧ OwnInts w.heap.size w' x (resList za zb v) ∧ Below w.heap.size w w' := by
  have hma := hra.most
  have hmb := hrb.most
  unfold maxLen at hma hmb
  have HRA := hid hra
  have HRB := hid hrb
  have HLA := hid hra.length
  have HLB := hid hrb.length
  clear hra hrb
  by_cases h1 : 4096 < la ∨ 4096 < lb
  · obtain ⟨e1, e2⟩ := res_long (za := za) (zb := zb) (v := v) (by rw [HLA.out, HLB.out]; exact h1)
    rw [e1, e2]
    clear e1 e2
    by_cases h2 : 4096 < la
    · go_enter Try.func16, Try.ntmps16
      go_wp2
      go_ret2
      exact ⟨_, rfl, own_fresh _ (Nat.le_refl _), (by repeat (first | exact Below.refl _ _ | assumption | refine Below.drew ?_ | refine Below.alloc ?_ (by first | exact Nat.le_refl _ | omega | (simp; done) | (simp; omega)) _ | refine Below.setCell ?_ (by first | exact Nat.le_refl _ | omega | (simp; done) | (simp; omega)) _))⟩
    · have h3 : 4096 < lb := by omega
      go_enter Try.func16, Try.ntmps16
      go_wp2
      go_ret2
      exact ⟨_, rfl, own_fresh _ (Nat.le_refl _), (by repeat (first | exact Below.refl _ _ | assumption | refine Below.drew ?_ | refine Below.alloc ?_ (by first | exact Nat.le_refl _ | omega | (simp; done) | (simp; omega)) _ | refine Below.setCell ?_ (by first | exact Nat.le_refl _ | omega | (simp; done) | (simp; omega)) _))⟩
  have H1 : Hid (¬ (4096 < za.length ∨ 4096 < zb.length)) := by show ¬ _; rw [HLA.out, HLB.out]; exact h1
  have h1a : la ≤ 4096 := by omega
  have h1b : lb ≤ 4096 := by omega
  clear h1
  cases hA : clauseB 40 za
  · obtain ⟨e1, e2⟩ := res_bad (v := v) H1.out (.inl hA)
    rw [e1, e2]
    clear e1 e2
    go_enter Try.func16, Try.ntmps16
    go_wp2_with fail
    refine (clause_spec a la ca za 40 _ (by decide) (by decide) HRA.out).mono ?_
    rintro e w1 ⟨rfl, rfl⟩
    go_wp2
    go_ret2
    exact ⟨_, rfl, own_fresh _ (Nat.le_refl _), (by repeat (first | exact Below.refl _ _ | assumption | refine Below.drew ?_ | refine Below.alloc ?_ (by first | exact Nat.le_refl _ | omega | (simp; done) | (simp; omega)) _ | refine Below.setCell ?_ (by first | exact Nat.le_refl _ | omega | (simp; done) | (simp; omega)) _))⟩
  cases hB : clauseB 40 zb
  · obtain ⟨e1, e2⟩ := res_bad (v := v) H1.out (.inr (.inl hB))
    rw [e1, e2]
    clear e1 e2
    go_enter Try.func16, Try.ntmps16
    go_wp2_with fail
    refine (clause_spec a la ca za 40 _ (by decide) (by decide) HRA.out).mono ?_
    rintro e w1 ⟨rfl, rfl⟩
    go_wp2_with fail
    refine (clause_spec b lb cb zb 40 _ (by decide) (by decide) HRB.out).mono ?_
    rintro e w1 ⟨rfl, rfl⟩
    go_wp2
    go_ret2
    exact ⟨_, rfl, own_fresh _ (Nat.le_refl _), (by repeat (first | exact Below.refl _ _ | assumption | refine Below.drew ?_ | refine Below.alloc ?_ (by first | exact Nat.le_refl _ | omega | (simp; done) | (simp; omega)) _ | refine Below.setCell ?_ (by first | exact Nat.le_refl _ | omega | (simp; done) | (simp; omega)) _))⟩
  by_cases hv : v < 1 ∨ 40 < v
  · obtain ⟨e1, e2⟩ := res_bad (v := v) H1.out (.inr (.inr hv))
    rw [e1, e2]
    clear e1 e2
    go_enter Try.func16, Try.ntmps16
    go_wp2_with fail
    refine (clause_spec a la ca za 40 _ (by decide) (by decide) HRA.out).mono ?_
    rintro e w1 ⟨rfl, rfl⟩
    go_wp2_with fail
    refine (clause_spec b lb cb zb 40 _ (by decide) (by decide) HRB.out).mono ?_
    rintro e w1 ⟨rfl, rfl⟩
    have hin : inB v 1 40 = false := by simp [inB]; omega
    go_wp2_with fail
    refine (in_spec v 1 40 _).mono ?_
    rintro e w1 ⟨rfl, rfl⟩
    go_wp2
    go_ret2
    exact ⟨_, rfl, own_fresh _ (Nat.le_refl _), (by repeat (first | exact Below.refl _ _ | assumption | refine Below.drew ?_ | refine Below.alloc ?_ (by first | exact Nat.le_refl _ | omega | (simp; done) | (simp; omega)) _ | refine Below.setCell ?_ (by first | exact Nat.le_refl _ | omega | (simp; done) | (simp; omega)) _))⟩
  have hv0 : 1 ≤ v := by omega
  have hin : inB v 1 40 = true := by simp [inB]; omega
  have hv40 : v ≤ 40 := by omega
  have H2 : Hid (¬ (clauseB 40 za = false ∨ clauseB 40 zb = false ∨ v < 1 ∨ 40 < v)) := by
    show ¬ _
    rintro (h | h | h)
    · rw [hA] at h; cases h
    · rw [hB] at h; cases h
    · exact hv h
  clear hv
  have HRR := hid (rest_range (v := v) hA hB)
  have HCA := hid (clause_range hA).1
  have HCB := hid (clause_range hB).1
  by_cases hma1 : v ∈ za
  · by_cases hmb1 : -v ∈ zb
    · have H3 : Hid (¬ (¬ v ∈ za ∨ ¬ -v ∈ zb)) := by
        show ¬ _
        rintro (h | h)
        · exact h hma1
        · exact h hmb1
      have hd1 : decide (v ∈ za) = true := decide_eq_true hma1
      have hd2 : decide (-v ∈ zb) = true := decide_eq_true hmb1
      have HOk := hid (fun h4 => res_ok (v := v) H1.out H2.out H3.out h4)
      have HSt := hid (fun h4 => res_state (v := v) H1.out H2.out H3.out h4)
      clear hma1 hmb1
      have HRest : Hid ([za.filter (fun z => z != v), zb.filter (fun z => z != -v)].flatten = restOf za zb v) := by show _ = _; unfold restOf; simp
      obtain ⟨C, hC⟩ : ∃ C, resCode za zb v = C := ⟨_, rfl⟩
      obtain ⟨L, hL⟩ : ∃ L, resList za zb v = L := ⟨_, rfl⟩
      rw [hC, hL] at HOk HSt ⊢
      clear hC hL
      go_enter Try.func16, Try.ntmps16
      go_wp2_with fail
      refine (clause_spec a la ca za 40 _ (by decide) (by decide) HRA.out).mono ?_
      rintro e w1 ⟨rfl, rfl⟩
      go_wp2_with fail
      refine (clause_spec b lb cb zb 40 _ (by decide) (by decide) HRB.out).mono ?_
      rintro e w1 ⟨rfl, rfl⟩
      go_wp2_with fail
      refine (in_spec v 1 40 _).mono ?_
      rintro e w1 ⟨rfl, rfl⟩
      go_wp2_with fail
      refine (has_spec a la ca za v _ HRA.out).mono ?_
      rintro e w1 ⟨rfl, rfl⟩
      go_wp2_with fail
      refine (has_spec b lb cb zb (-v) _ HRB.out).mono ?_
      rintro e w1 ⟨rfl, rfl⟩
      obtain ⟨i0, hi, hzz⟩ := Option.map_eq_some_iff.1 Try.info_int
      simp only [Prod.mk.injEq] at hzz
      obtain ⟨hz0, hz1, hz2⟩ := hzz
      have HI := hid hi
      have HZ0 := hid hz0
      have HZ1 := hid hz1
      have HZ2 := hid hz2
      clear hi hz0 hz1 hz2
      have HFA : Hid ((za.filter (fun z => z != v)).length ≤ 12) := Nat.le_trans (List.length_filter_le _ _) HCA.out
      go_wp2
      go_loopw [9, 8] (fun i x wr => ∃ k : Nat, k ≤ la ∧ i = .int .i64 k ∧ OwnInts w1.heap.size wr x ((za.take k).filter (fun z => z != v)) ∧ Below w1.heap.size w1 wr) (fun i _ _ => la - (intOf i).toNat)
      case atStart => exact ⟨0, Nat.zero_le _, rfl, own_fresh _ (Nat.le_refl _), (by repeat (first | exact Below.refl _ _ | assumption | refine Below.drew ?_ | refine Below.alloc ?_ (by first | exact Nat.le_refl _ | omega | (simp; done) | (simp; omega)) _ | refine Below.setCell ?_ (by first | exact Nat.le_refl _ | omega | (simp; done) | (simp; omega)) _))⟩
      case round =>
        obtain ⟨k, hk, rfl, hown, hbel⟩ := hrel
        have HO := hid hown
        have HB := hid hbel
        by_cases hlt : k < la
        · obtain ⟨bb, off, rfl, hc0⟩ := HRA.out.cell k hlt
          have hc := keep hbel hc0
          have HF := hid (filter_take_succ (p := fun z => z != v) (zs := za) (k := k) (by rw [HLA.out]; omega))
          have HLen : Hid (((za.take k).filter (fun z => z != v)).length ≤ k) := Nat.le_trans (List.length_filter_le _ _) (List.length_take_le _ _)
          clear hown hbel hc0
          generalize za[k]?.getD 0 = z at *
          have HB0 := hid HB.out.size
          by_cases he : (z != v) = true
          · go_wp2_with (at_builtin; (refine wpList_append_own _ rfl _ _ 37 rfl w1.heap.size 3 i0 (.int .i64 0) 1 8 Try.underlying37 HI.out HZ0.out HZ1.out HZ2.out rfl (by decide) _ _ _ rfl (World.ownsRow.alloc HO.out _) ⟨wr.heap.size, 0, none⟩ 1 1 [.int .i64 z] rfl rfl (cell_one_new _ _ _) (fun x hx => by simp at hx; subst hx; rfl) (by have := HLen.out; unfold maxLen; omega) (by have := HLen.out; omega) (by have := HB0.out; simp; omega) ?_); intro v' w3 hown' hgrow3 hnil3)
            have HF' := HF.out
            rw [if_pos he] at HF'
            have HF2 := hid HF'
            clear HF' HF
            have HO2 : Hid (OwnInts w1.heap.size w3 v' ((za.take (k + 1)).filter (fun z => z != v))) := by
              show OwnInts _ _ _ _
              rw [HF2.out]
              unfold OwnInts
              rw [List.length_append, List.map_append]
              exact hown'
            have HB2 : Hid (Below w1.heap.size w1 w3) := grown_below (OwnInts.below HO.out (by repeat (first | exact Below.refl _ _ | assumption | refine Below.drew ?_ | refine Below.alloc ?_ (by first | exact Nat.le_refl _ | omega | (simp; done) | (simp; omega)) _ | refine Below.setCell ?_ (by first | exact Nat.le_refl _ | omega | (simp; done) | (simp; omega)) _))) (HB.out.alloc HB0.out _) (by have := HB0.out; simp; omega) hgrow3
            clear hown' hgrow3 hnil3
            go_wp2
            go_roundw
            case rel => exact ⟨k + 1, by omega, by go_num, HO2.out, HB2.out⟩
            case measure => simp [intOf]; omega
          · have he' : (z != v) = false := by simpa using he
            clear he
            have HF' := HF.out
            rw [if_neg (by simp [he'])] at HF'
            rw [List.append_nil] at HF'
            have HF2 := hid HF'
            clear HF' HF
            go_wp2
            go_roundw
            case rel => exact ⟨k + 1, by omega, by go_num, by rw [HF2.out]; exact HO.out, HB.out⟩
            case measure => simp [intOf]; omega
        · have e : k = la := by omega
          subst e
          have ht : za.take k = za := List.take_of_length_le (by rw [HLA.out]; omega)
          rw [ht] at HO
          clear ht hown hbel
          have HRest2 : Hid (restOf za zb v = za.filter (fun z => z != v) ++ zb.filter (fun z => z != -v)) := rfl
          generalize za.filter (fun z => z != v) = fa at *
          generalize wr = W1 at *
          go_wp2
          go_loopw [10, 8] (fun i x wr => ∃ m : Nat, m ≤ lb ∧ i = .int .i64 m ∧ OwnInts w1.heap.size wr x (fa ++ (zb.take m).filter (fun z => z != -v)) ∧ Below w1.heap.size w1 wr) (fun i _ _ => lb - (intOf i).toNat)
          case atStart => exact ⟨0, Nat.zero_le _, rfl, by simpa using HO.out, HB.out⟩
          case round =>
            obtain ⟨m, hm, rfl, hown, hbel⟩ := hrel
            have HOm := hid hown
            have HBm := hid hbel
            by_cases hlt2 : m < lb
            · obtain ⟨bb, off, rfl, hc0⟩ := HRB.out.cell m hlt2
              have hc := keep hbel hc0
              have HF := hid (filter_take_succ (p := fun z => z != -v) (zs := zb) (k := m) (by rw [HLB.out]; omega))
              have HLen : Hid ((fa ++ (zb.take m).filter (fun z => z != -v)).length ≤ 12 + m) := by
                show _ ≤ _
                rw [List.length_append]
                have h1 := HFA.out
                have h2 : ((zb.take m).filter (fun z => z != -v)).length ≤ m := Nat.le_trans (List.length_filter_le _ _) (List.length_take_le _ _)
                omega
              clear hown hbel hc0
              generalize zb[m]?.getD 0 = z at *
              have HB0 := hid HBm.out.size
              by_cases he : (z != -v) = true
              · go_wp2_with (at_builtin; (refine wpList_append_own _ rfl _ _ 37 rfl w1.heap.size 3 i0 (.int .i64 0) 1 8 Try.underlying37 HI.out HZ0.out HZ1.out HZ2.out rfl (by decide) _ _ _ rfl (World.ownsRow.alloc HOm.out _) ⟨wr.heap.size, 0, none⟩ 1 1 [.int .i64 z] rfl rfl (cell_one_new _ _ _) (fun x hx => by simp at hx; subst hx; rfl) (by have := HLen.out; unfold maxLen; omega) (by have := HLen.out; omega) (by have := HB0.out; simp; omega) ?_); intro v' w3 hown' hgrow3 hnil3)
                have HF' := HF.out
                rw [if_pos he] at HF'
                have HF2 := hid HF'
                clear HF' HF
                have HO2 : Hid (OwnInts w1.heap.size w3 v' (fa ++ (zb.take (m + 1)).filter (fun z => z != -v))) := by
                  show OwnInts _ _ _ _
                  rw [HF2.out, ← List.append_assoc]
                  unfold OwnInts
                  rw [List.length_append, List.map_append]
                  exact hown'
                have HB2 : Hid (Below w1.heap.size w1 w3) := grown_below (OwnInts.below HOm.out (by repeat (first | exact Below.refl _ _ | assumption | refine Below.drew ?_ | refine Below.alloc ?_ (by first | exact Nat.le_refl _ | omega | (simp; done) | (simp; omega)) _ | refine Below.setCell ?_ (by first | exact Nat.le_refl _ | omega | (simp; done) | (simp; omega)) _))) (HBm.out.alloc HB0.out _) (by have := HB0.out; simp; omega) hgrow3
                clear hown' hgrow3 hnil3
                go_wp2
                go_roundw
                case rel => exact ⟨m + 1, by omega, by go_num, HO2.out, HB2.out⟩
                case measure => simp [intOf]; omega
              · have he' : (z != -v) = false := by simpa using he
                clear he
                have HF' := HF.out
                rw [if_neg (by simp [he'])] at HF'
                rw [List.append_nil] at HF'
                have HF2 := hid HF'
                clear HF' HF
                go_wp2
                go_roundw
                case rel => exact ⟨m + 1, by omega, by go_num, by rw [HF2.out]; exact HOm.out, HBm.out⟩
                case measure => simp [intOf]; omega
            · have e : m = lb := by omega
              subst e
              have ht : zb.take m = zb := List.take_of_length_le (by rw [HLB.out]; omega)
              rw [ht, ← HRest2.out] at HOm hown
              obtain ⟨a3, c3, rfl, hr3⟩ := hown.form
              have HR3 := hid hr3
              clear ht hown hbel hr3 HRest HRest2
              generalize restOf za zb v = rest at *
              go_wp2_with fail
              refine (sorted_spec a3 rest.length c3 rest _ HR3.out HRR.out.2 (by have := HRR.out.1; omega)).mono ?_
              rintro e w4 ⟨x4, rfl, ho4, hb4⟩
              have HB4 := hid (HBm.out.trans (hb4.mono HBm.out.size))
              have HO4 := hid (ho4.mono HBm.out.size)
              clear ho4 hb4
              cases hq : oppB (ord rest)
              · obtain ⟨e1, e2⟩ := HOk.out hq
                go_wp2
                go_ret2
                exact ⟨x4, by rw [e1]; rfl, by rw [e2]; exact HO4.out, HB4.out⟩
              · obtain ⟨e1, e2⟩ := HSt.out hq
                go_wp2
                go_ret2
                exact ⟨.slice (some ⟨w4.heap.size, 0, none⟩) 0 0, by rw [e1]; rfl, by rw [e2]; exact own_fresh _ HB4.out.size, HB4.out.alloc HB4.out.size _⟩
    · obtain ⟨e1, e2⟩ := res_none (v := v) H1.out H2.out (.inr hmb1)
      rw [e1, e2]
      have hd1 : decide (v ∈ za) = true := decide_eq_true hma1
      have hd2 : decide (-v ∈ zb) = false := decide_eq_false hmb1
      clear e1 e2 hma1 hmb1
      go_enter Try.func16, Try.ntmps16
      go_wp2_with fail
      refine (clause_spec a la ca za 40 _ (by decide) (by decide) HRA.out).mono ?_
      rintro e w1 ⟨rfl, rfl⟩
      go_wp2_with fail
      refine (clause_spec b lb cb zb 40 _ (by decide) (by decide) HRB.out).mono ?_
      rintro e w1 ⟨rfl, rfl⟩
      go_wp2_with fail
      refine (in_spec v 1 40 _).mono ?_
      rintro e w1 ⟨rfl, rfl⟩
      go_wp2_with fail
      refine (has_spec a la ca za v _ HRA.out).mono ?_
      rintro e w1 ⟨rfl, rfl⟩
      go_wp2_with fail
      refine (has_spec b lb cb zb (-v) _ HRB.out).mono ?_
      rintro e w1 ⟨rfl, rfl⟩
      go_wp2
      go_ret2
      exact ⟨_, rfl, own_fresh _ (Nat.le_refl _), (by repeat (first | exact Below.refl _ _ | assumption | refine Below.drew ?_ | refine Below.alloc ?_ (by first | exact Nat.le_refl _ | omega | (simp; done) | (simp; omega)) _ | refine Below.setCell ?_ (by first | exact Nat.le_refl _ | omega | (simp; done) | (simp; omega)) _))⟩
  · obtain ⟨e1, e2⟩ := res_none (v := v) H1.out H2.out (.inl hma1)
    rw [e1, e2]
    have hd1 : decide (v ∈ za) = false := decide_eq_false hma1
    clear e1 e2 hma1
    go_enter Try.func16, Try.ntmps16
    go_wp2_with fail
    refine (clause_spec a la ca za 40 _ (by decide) (by decide) HRA.out).mono ?_
    rintro e w1 ⟨rfl, rfl⟩
    go_wp2_with fail
    refine (clause_spec b lb cb zb 40 _ (by decide) (by decide) HRB.out).mono ?_
    rintro e w1 ⟨rfl, rfl⟩
    go_wp2_with fail
    refine (in_spec v 1 40 _).mono ?_
    rintro e w1 ⟨rfl, rfl⟩
    go_wp2_with fail
    refine (has_spec a la ca za v _ HRA.out).mono ?_
    rintro e w1 ⟨rfl, rfl⟩
    go_wp2
    go_ret2
    exact ⟨_, rfl, own_fresh _ (Nat.le_refl _), (by repeat (first | exact Below.refl _ _ | assumption | refine Below.drew ?_ | refine Below.alloc ?_ (by first | exact Nat.le_refl _ | omega | (simp; done) | (simp; omega)) _ | refine Below.setCell ?_ (by first | exact Nat.le_refl _ | omega | (simp; done) | (simp; omega)) _))⟩
end Go.Proofs.Ytfjhckjnhnpglaa.resolveSpec
