import Derived.Test.YtmkhoocokpkojaaGreatDoorCnfDraw
namespace Go.Proofs.YtmkhoocokpkojaaGreatDoor.pigeons
open Go.RowKit Go.Deep base copy cnf rowsOwn source cnfDraw
set_option linter.unusedVariables false
set_option linter.unusedSimpArgs false
structure PF (W0 : World) (vars : Int) (p : Option Addr) (q c : Nat) (ps : List (Value × List Int)) (wr : World) : Prop where
 c0 : wr.cell? ⟨W0.heap.size, 0, none⟩ = some (.int .i64 vars)
 c1 : wr.cell? ⟨W0.heap.size, 1, none⟩ = some (.slice p q c)
 z1 : wr.frozen? ⟨W0.heap.size, 1, none⟩ = false
 len : ps.length = q
 size : W0.heap.size + 1 ≤ wr.heap.size
 own : OwnRows (W0.heap.size + 1) wr (.slice p q c) ps
 lits : ∀ q ∈ ps, clauseB vars q.2 = true
 bel : Below W0.heap.size W0 wr
theorem PF.below {W0 w w' : World} {vars : Int} {p : Option Addr} {q c : Nat} {ps : List (Value × List Int)} (h : PF W0 vars p q c ps w) (hb : Below w.heap.size w w') : PF W0 vars p q c ps w' :=
 ⟨keep hb h.c0, keep hb h.c1, by rw [hb.frozen (p := ⟨W0.heap.size, 1, none⟩) (by have := h.size; dsimp only; omega)]; exact h.z1, h.len, Nat.le_trans h.size hb.size, h.own.below hb, h.lits, h.bel.trans (hb.mono h.bel.size)⟩
theorem PF.far {W0 wC wD : World} {vars : Int} {p : Option Addr} {q c : Nat} {ps : List (Value × List Int)} (h : PF W0 vars p q c ps wC) (hg4 : wC.grownBy wD (Value.slice p q c).ownBlock) : wD.cell? ⟨W0.heap.size, 0, none⟩ = some (.int .i64 vars) ∧ wD.cell? ⟨W0.heap.size, 1, none⟩ = some (.slice p q c) ∧ wD.frozen? ⟨W0.heap.size, 1, none⟩ = false := by
 have hown4 : ∀ g, (Value.slice p q c).ownBlock = some g → W0.heap.size + 1 ≤ g := fun g e => (World.ownsRow.lt h.own.outer g e).1
 have hs := h.size
 refine ⟨?_, ?_, ?_⟩
 · rw [hg4.cell_far ⟨W0.heap.size, 0, none⟩ (by simp; omega) (fun e => by have := hown4 W0.heap.size e.symm; omega)]
   exact h.c0
 · rw [hg4.cell_far ⟨W0.heap.size, 1, none⟩ (by simp; omega) (fun e => by have := hown4 W0.heap.size e.symm; omega)]
   exact h.c1
 · rw [hg4.frozen_far ⟨W0.heap.size, 1, none⟩ (by simp; omega) (fun e => by have := hown4 W0.heap.size e.symm; omega)]
   exact h.z1
theorem PF.add {W0 wC wD : World} {vars : Int} {p : Option Addr} {q c : Nat} {ps : List (Value × List Int)} {x v4 : Value} {zs : List Int} (h : PF W0 vars p q c ps wC) (hx : OwnInts (W0.heap.size + 1) wC x zs) (hz : clauseB vars zs = true)
  (hv4 : wD.ownsRow (W0.heap.size + 1) 52 1 v4 (ps.length + 1) (ps.map Prod.fst ++ [x])) (hg4 : wC.grownBy wD (Value.slice p q c).ownBlock) :
  ∃ p4 c4, v4 = .slice p4 (q + 1) c4 ∧ PF W0 vars p4 (q + 1) c4 (ps ++ [(x, zs)]) (wD.setCell ⟨W0.heap.size, 1, none⟩ (.slice p4 (q + 1) c4)) := by
 have hown4 : ∀ g, (Value.slice p q c).ownBlock = some g → W0.heap.size + 1 ≤ g := fun g e => (World.ownsRow.lt h.own.outer g e).1
 have HR4 := rows_append h.own hx hv4 hg4
 obtain ⟨p4, n4, c4, rfl, hn4⟩ := own_formN HR4
 obtain rfl : n4 = q + 1 := by rw [← hn4, List.length_append, h.len]; rfl
 obtain ⟨d0, d1, d2⟩ := h.far hg4
 have hb : Below W0.heap.size W0 wD := ⟨hg4.os.trans h.bel.os, hg4.tape.trans h.bel.tape, hg4.output.trans h.bel.output, Nat.le_trans h.bel.size hg4.size, fun k hk => (hg4.block k (Nat.lt_of_lt_of_le hk h.bel.size) (fun e => by have := hown4 k e.symm; omega)).trans (h.bel.block k hk)⟩
 refine ⟨p4, c4, rfl, ?_, World.cell?_setCell_same wD ⟨W0.heap.size, 1, none⟩ (.slice p4 (q + 1) c4) d1, ?_, hn4, by have := hg4.size; have := h.size; simp; omega, rows_ahead HR4 (by omega), fun y hy => ?_, hb.setCell (Nat.le_refl _) _⟩
 · rw [World.cell?_setCell_other _ _ _ _ (by simp)]; exact d0
 · rw [World.frozen?_setCell]; exact d2
 · rcases List.mem_append.1 hy with hy | hy
   · exact h.lits y hy
   · rw [List.mem_singleton] at hy; subst hy; exact hz
theorem pf_start (w2 : World) (vars : Int) : PF w2 vars none 0 0 [] (w2.alloc (.cells #[.int .i64 vars, .slice none 0 0] 25)) :=
 ⟨by simp [go_sem], by simp [go_sem], by simp [go_sem], rfl, by simp, OwnRows.nil _ _, fun q hq => (by cases hq), (Below.refl _ _).alloc (Nat.le_refl _) _⟩
theorem clause_of {vars : Int} {zs : List Int} (hl : zs.length ≤ 12) (h : ∀ z ∈ zs, litB vars z = true) : clauseB vars zs = true := by
 unfold clauseB
 rw [decide_eq_true hl, Bool.true_and, List.all_eq_true]
 exact h
set_option maxHeartbeats 6400000 in
set_option maxRecDepth 8000 in
theorem pigeons_src (b : Nat) (a : Option Addr) (len cap : Nat) (w : World) (h : source.Src w b a len cap 0) (hbw : b < w.heap.size) :
  Calls Tryz.prog 16 #[.pointer (some ⟨b, 0, none⟩)] w fun e w' => ∃ (vars : Int) (p : Option Addr) (n c : Nat) (ps : List (Value × List Int)), e = .returned (.agg #[.int .i64 vars, .slice p n c]) ∧ 1 ≤ vars ∧ vars ≤ 12 ∧ OwnRows w.heap.size w' (.slice p n c) ps ∧ ps.length ≤ 52 ∧ (∀ q ∈ ps, clauseB vars q.2 = true) ∧ w.grownBy w' (some b) := by
 have HS := hid h
 clear h
 obtain ⟨i0, hi, hzz⟩ := Option.map_eq_some_iff.1 info_row
 simp only [Prod.mk.injEq] at hzz
 obtain ⟨hz0, hz1, hz2⟩ := hzz
 have HI := hid hi
 have HZ0 := hid hz0
 have HZ1 := hid hz1
 have HZ2 := hid hz2
 clear hi hz0 hz1 hz2
 obtain ⟨i1, hi, hzz⟩ := Option.map_eq_some_iff.1 Tryz.info_int
 simp only [Prod.mk.injEq] at hzz
 obtain ⟨hz0, hz1, hz2⟩ := hzz
 have HJ := hid hi
 have HY0 := hid hz0
 have HY1 := hid hz1
 have HY2 := hid hz2
 clear hi hz0 hz1 hz2
 go_enter Tryz.func16, Tryz.ntmps16
 go_wp2_with fail
 refine (next_src b a len cap 0 2 _ (HS.out.below (by repeat (first | exact Below.refl _ _ | assumption | refine Below.drew ?_ | refine Below.alloc ?_ (by first | exact Nat.le_refl _ | omega | (simp; done) | (simp; omega)) _ | refine Below.setCell ?_ (by first | exact Nat.le_refl _ | omega | (simp; done) | (simp; omega)) _))) (by omega) (by omega) (by omega)).mono ?_
 rintro e w1 ⟨r, rfl, r0, r1, hs1, hg1⟩
 have hne1 : w.heap.size ≠ b := by omega
 have q0 : w1.cell? ⟨w.heap.size, 0, none⟩ = some (.int .i64 0) := fcell hg1 hne1 (by simp [go_sem])
 have q1 : w1.cell? ⟨w.heap.size, 1, none⟩ = some (.slice none 0 0) := fcell hg1 hne1 (by simp [go_sem])
 have q2 : w1.frozen? ⟨w.heap.size, 0, none⟩ = false := ffroz hg1 hne1 (by simp) (by simp [go_sem])
 have q3 : w1.frozen? ⟨w.heap.size, 1, none⟩ = false := ffroz hg1 hne1 (by simp) (by simp [go_sem])
 have HG1 : Hid (w.grownBy w1 (some b)) := grown_trans (grown_own (grown_refl _ _) (below_grown (show Below w.heap.size w _ from (by repeat (first | exact Below.refl _ _ | assumption | refine Below.drew ?_ | refine Below.alloc ?_ (by first | exact Nat.le_refl _ | omega | (simp; done) | (simp; omega)) _ | refine Below.setCell ?_ (by first | exact Nat.le_refl _ | omega | (simp; done) | (simp; omega)) _)))) (fun g e => by cases e)) hg1
 have s1 : w.heap.size < w1.heap.size := by have := hg1.size; simp at this; omega
 have HS1 := hid hs1
 clear hs1 hg1
 rcases (show r = 0 ∨ r = 1 by omega) with rfl | rfl
 · clear r0 r1
   go_wp2_with fail
   refine (next_src b a len cap 1 2 _ HS1.out (by omega) (by omega) (by omega)).mono ?_
   rintro e w2 ⟨r2, rfl, r20, r21, hs2, hg2⟩
   replace q0 := fcell hg2 hne1 q0
   replace q1 := fcell hg2 hne1 q1
   replace q2 := ffroz hg2 hne1 s1 q2
   replace q3 := ffroz hg2 hne1 s1 q3
   have HG2 := hid (grown_trans HG1.out hg2)
   have s2 : w.heap.size < w2.heap.size := by have := hg2.size; omega
   clear hs2 hg2 HS1 HG1
   obtain ⟨M, hM⟩ : ∃ M : Nat, 2 + r2 = M := ⟨(2 + r2).toNat, by omega⟩
   have hM1 : 2 ≤ M := by omega
   have hM2 : M ≤ 3 := by omega
   have hr2 : r2 = (M : Int) - 2 := by omega
   subst hr2
   have hMM : 2 + ((M : Int) - 2) = M := by omega
   obtain ⟨vars, hvars⟩ : ∃ v : Int, (M : Int) * 2 = v := ⟨_, rfl⟩
   have hv1 : 1 ≤ vars := by omega
   have hv12 : vars ≤ 12 := by omega
   go_wp2
   go_loopw [6] (fun i wr => ∃ (k q c : Nat) (p : Option Addr) (ps : List (Value × List Int)), k ≤ M ∧ i = .int .i64 k ∧ ps.length ≤ k ∧ PF w2 vars p q c ps wr) (fun i _ => M - (intOf i).toNat)
   case atStart => exact ⟨0, 0, 0, none, [], Nat.zero_le _, rfl, Nat.le_refl _, pf_start _ _⟩
   case round =>
    obtain ⟨k, q, c, p, ps, hk, rfl, hpl, hpf⟩ := hrel
    have HPF := hid hpf
    clear hpf
    by_cases hlt : k < M
    · generalize wr = wo at *
      go_wp2
      go_loopw [8, 7] (fun j x wr => ∃ (i : Nat) (zs : List Int), i ≤ 2 ∧ j = .int .i64 i ∧ OwnInts wo.heap.size wr x zs ∧ zs.length = i ∧ (∀ z ∈ zs, litB vars z = true) ∧ Below wo.heap.size wo wr) (fun j _ _ => 2 - (intOf j).toNat)
      case atStart => exact ⟨0, [], Nat.zero_le _, rfl, own_new wo rfl (Nat.le_refl _), rfl, by simp, (Below.refl _ _).alloc (Nat.le_refl _) _⟩
      case round =>
       obtain ⟨i, zs, hi, rfl, hown, hzl, hzs, hb⟩ := hrel
       have HO := hid hown
       have HZs := hid hzs
       have HZl := hid hzl
       have HB := hid hb
       have hsz := hb.size
       clear hown hzs hzl hb
       by_cases hlt2 : i < 2
       · go_wp2_with (at_builtin; (refine wpList_append_own _ rfl _ _ 52 rfl wo.heap.size 3 i1 (.int .i64 0) 1 8 Tryz.underlying52 HJ.out HY0.out HY1.out HY2.out rfl (by decide) _ _ _ rfl (World.ownsRow.alloc HO.out _) ⟨wr.heap.size, 0, none⟩ 1 1 [.int .i64 ((k : Int) * 2 + i + 1)] rfl rfl (cell_one_new _ _ _) (fun x hx => by simp at hx; subst hx; rfl) (by have := HZl.out; unfold maxLen; omega) (by have := HZl.out; omega) (by simp; omega) ?_); intro v' w3 hown' hgrow3 hnil3)
         have HO3 : Hid (OwnInts wo.heap.size w3 v' (zs ++ [((k : Int) * 2 + i + 1)])) := by
          show OwnInts _ _ _ _
          unfold OwnInts
          rw [List.length_append, List.map_append]
          exact hown'
         have HB3 : Hid (Below wo.heap.size wo w3) := grown_below (v := _) (zs := zs) (World.ownsRow.alloc HO.out _) (HB.out.alloc (by omega) _) (by simp; omega) hgrow3
         clear hown' hgrow3 hnil3
         go_wp2
         go_roundw
         case rel =>
          refine ⟨i + 1, zs ++ [((k : Int) * 2 + i + 1)], by omega, by go_num, HO3.out, by rw [List.length_append, HZl.out]; rfl, fun z hz => ?_, HB3.out⟩
          rcases List.mem_append.1 hz with h | h
          · exact HZs.out z h
          · rw [List.mem_singleton] at h
            subst h
            simp [litB]; omega
         case measure => simp [intOf]; omega
       · have e : i = 2 := by omega
         subst e
         have HPF2 := hid (HPF.out.below HB.out)
         obtain ⟨xa, xc, rfl, _⟩ := HO.out.form
         have c0 := HPF2.out.c0
         have c1 := HPF2.out.c1
         have hql := HPF2.out.len
         have HPF3 := hid (HPF2.out.below (show Below wr.heap.size wr (wr.alloc (.cells #[.slice xa zs.length xc] 52)) from (Below.refl _ _).alloc (Nat.le_refl _) _))
         go_wp2_with (at_builtin; (refine wpList_append_own _ rfl _ _ 23 rfl (w2.heap.size + 1) 52 i0 (.slice none 0 0) 1 24 Tryz.underlying23 HI.out HZ0.out HZ1.out HZ2.out rfl (by decide) _ _ _ rfl (own_pass HPF2.out.own.outer (by repeat (first | exact Below.refl _ _ | assumption | refine Below.drew ?_ | refine Below.alloc ?_ (by first | exact Nat.le_refl _ | omega | (simp; done) | (simp; omega)) _ | refine Below.setCell ?_ (by first | exact Nat.le_refl _ | omega | (simp; done) | (simp; omega)) _))) ⟨wr.heap.size, 0, none⟩ 1 1 [.slice xa zs.length xc] rfl rfl (cell_one_new _ _ _) (fun u hu => by simp at hu; subst hu; rfl) (by unfold maxLen; omega) (by omega) (by have := HPF2.out.size; simp; omega) ?_); intro v4 wD hv4 hg4 _; obtain ⟨p4, c4, rfl, hpf4⟩ := HPF3.out.add (OwnInts.mono (OwnInts.below HO.out ((Below.refl _ _).alloc (Nat.le_refl _) _)) (by have := HPF.out.size; omega)) (clause_of (by have := HZl.out; omega) HZs.out) hv4 hg4; obtain ⟨d0, d1, d2⟩ := HPF3.out.far hg4; have HPF4 := hid hpf4; clear hv4 hg4 hpf4)
         clear c0 c1 hql
         go_wp2
         go_roundw
         case rel => exact ⟨k + 1, q + 1, c4, p4, _, by omega, by go_num, by rw [List.length_append]; simp; omega, HPF4.out⟩
         case measure => simp [intOf]; omega
    · have ek : k = M := by omega
      clear hlt hk
      subst ek
      go_wp2
      go_loopw [9] (fun i wr => ∃ (k q c : Nat) (p : Option Addr) (ps : List (Value × List Int)), k ≤ 2 ∧ i = .int .i64 k ∧ ps.length ≤ 4 + 16 * k ∧ PF w2 vars p q c ps wr) (fun i _ => 2 - (intOf i).toNat)
      case atStart => exact ⟨0, q, c, p, ps, Nat.zero_le _, rfl, by omega, HPF.out⟩
      case round =>
       clear HPF hpl ps p q c
       obtain ⟨t, q, c, p, ps, ht, rfl, hpl, hpf⟩ := hrel
       have HPF := hid hpf
       clear hpf
       by_cases hlt : t < 2
       · generalize wr = wo at *
         have hlt' : (t : Int) < 2 := by omega
         have hltd : decide ((t : Int) < 2) = true := decide_eq_true hlt'
         go_wp2
         go_loopw [10] (fun j wr => ∃ (i q c : Nat) (p : Option Addr) (ps : List (Value × List Int)), i ≤ k ∧ j = .int .i64 i ∧ ps.length ≤ 4 + 16 * t + 4 * i ∧ PF w2 vars p q c ps wr) (fun j _ => k - (intOf j).toNat)
         case atStart => exact ⟨0, q, c, p, ps, Nat.zero_le _, rfl, by omega, HPF.out⟩
         case round =>
          clear HPF hpl ps p q c
          obtain ⟨i, q, c, p, ps, hi, rfl, hpl, hpf⟩ := hrel
          have HPF := hid hpf
          clear hpf
          by_cases hlt3 : i < k
          · generalize wr = wo2 at *
            go_wp2
            go_loopw [11] (fun l wr => ∃ (j q c : Nat) (p : Option Addr) (ps : List (Value × List Int)), j ≤ i ∧ l = .int .i64 j ∧ ps.length ≤ 4 + 16 * t + 4 * i + j ∧ PF w2 vars p q c ps wr) (fun l _ => i - (intOf l).toNat)
            case atStart => exact ⟨0, q, c, p, ps, Nat.zero_le _, rfl, by omega, HPF.out⟩
            case round =>
             clear HPF hpl ps p q c
             obtain ⟨j, q, c, p, ps, hj, rfl, hpl, hpf⟩ := hrel
             have HPF2 := hid hpf
             clear hpf
             by_cases hlt4 : j < i
             · have c0 := HPF2.out.c0
               have c1 := HPF2.out.c1
               have hql := HPF2.out.len
               have hb2 : Below wr.heap.size wr ((wr.alloc (.cells #[.int .i64 (-((i : Int) * 2 + t + 1)), .int .i64 (-((j : Int) * 2 + t + 1))] 3)).alloc (.cells #[.slice (some ⟨wr.heap.size, 0, none⟩) 2 2] 52)) := ((Below.refl _ _).alloc (Nat.le_refl _) _).alloc (by simp) _
               have HPF3 := hid (HPF2.out.below hb2)
               have hrow : OwnInts (w2.heap.size + 1) ((wr.alloc (.cells #[.int .i64 (-((i : Int) * 2 + t + 1)), .int .i64 (-((j : Int) * 2 + t + 1))] 3)).alloc (.cells #[.slice (some ⟨wr.heap.size, 0, none⟩) 2 2] 52)) (.slice (some ⟨wr.heap.size, 0, none⟩) 2 2) [-((i : Int) * 2 + t + 1), -((j : Int) * 2 + t + 1)] :=
                OwnInts.below (row_made (B := w2.heap.size + 1) wr [-((i : Int) * 2 + t + 1), -((j : Int) * 2 + t + 1)] HPF2.out.size (by unfold maxLen; simp)) ((Below.refl _ _).alloc (Nat.le_refl _) _)
               have hcl2 : clauseB vars [-((i : Int) * 2 + t + 1), -((j : Int) * 2 + t + 1)] = true := clause_of (by simp) (fun z hz => by
                have hz' : z = -((i : Int) * 2 + t + 1) ∨ z = -((j : Int) * 2 + t + 1) := by simpa using hz
                rcases hz' with rfl | rfl <;> (simp [litB]; omega))
               have HC9 : Hid (∀ (n : Nat) (u : Value), [Value.slice (some ⟨wr.heap.size, 0, none⟩) 2 2][n]? = some u → ((wr.alloc (.cells #[.int .i64 (-((i : Int) * 2 + t + 1)), .int .i64 (-((j : Int) * 2 + t + 1))] 3)).alloc (.cells #[.slice (some ⟨wr.heap.size, 0, none⟩) 2 2] 52)).cell? ((⟨wr.heap.size + 1, 0, none⟩ : Addr).add n) = some u) := hid (by
                have h9 := cell_one_new (wr.alloc (.cells #[.int .i64 (-((i : Int) * 2 + t + 1)), .int .i64 (-((j : Int) * 2 + t + 1))] 3)) (.slice (some ⟨wr.heap.size, 0, none⟩) 2 2) 52
                have h8 : (wr.alloc (.cells #[.int .i64 (-((i : Int) * 2 + t + 1)), .int .i64 (-((j : Int) * 2 + t + 1))] 3)).heap.size = wr.heap.size + 1 := by simp
                rw [h8] at h9
                exact h9)
               have HRow := hid hrow
               have HCl2 := hid hcl2
               clear hb2 hrow hcl2
               go_wp2_with (at_builtin; (refine wpList_append_own _ rfl _ _ 23 rfl (w2.heap.size + 1) 52 i0 (.slice none 0 0) 1 24 Tryz.underlying23 HI.out HZ0.out HZ1.out HZ2.out rfl (by decide) _ _ _ rfl (own_pass HPF2.out.own.outer (by repeat (first | exact Below.refl _ _ | assumption | refine Below.drew ?_ | refine Below.alloc ?_ (by first | exact Nat.le_refl _ | omega | (simp; done) | (simp; omega)) _ | refine Below.setCell ?_ (by first | exact Nat.le_refl _ | omega | (simp; done) | (simp; omega)) _))) ⟨wr.heap.size + 1, 0, none⟩ 1 1 [.slice (some ⟨wr.heap.size, 0, none⟩) 2 2] rfl rfl HC9.out (fun u hu => by simp at hu; subst hu; rfl) (by unfold maxLen; omega) (by omega) (by have := HPF2.out.size; simp; omega) ?_); intro v4 wD hv4 hg4 _; obtain ⟨p4, c4, rfl, hpf4⟩ := HPF3.out.add HRow.out HCl2.out hv4 hg4; obtain ⟨d0, d1, d2⟩ := HPF3.out.far hg4; have HPF4 := hid hpf4; clear hv4 hg4 hpf4)
               clear c0 c1 hql
               go_wp2
               go_roundw
               case rel => exact ⟨j + 1, q + 1, c4, p4, _, by omega, by go_num, by rw [List.length_append]; simp; omega, HPF4.out⟩
               case measure => simp [intOf]; omega
             · have ej : j = i := by omega
               subst ej
               go_wp2
               go_roundw
               case rel => exact ⟨j + 1, q, c, p, ps, by omega, by go_num, by omega, HPF2.out⟩
               case measure => simp [intOf]; omega
          · have ei : i = k := by omega
            subst ei
            go_wp2
            go_roundw
            case rel => exact ⟨t + 1, q, c, p, ps, by omega, by go_num, by omega, HPF.out⟩
            case measure => simp [intOf]; omega
       · have et : t = 2 := by omega
         subst et
         have c0 := HPF.out.c0
         have c1 := HPF.out.c1
         have hbl := HPF.out.bel
         have hsz := HPF.out.size
         replace q0 := keep hbl q0
         replace q1 := keep hbl q1
         replace q2 : wr.frozen? ⟨w.heap.size, 0, none⟩ = false := by rw [hbl.frozen (p := ⟨w.heap.size, 0, none⟩) (by dsimp only; omega)]; exact q2
         replace q3 : wr.frozen? ⟨w.heap.size, 1, none⟩ = false := by rw [hbl.frozen (p := ⟨w.heap.size, 1, none⟩) (by dsimp only; omega)]; exact q3
         have HF : Hid (OwnRows w.heap.size ((wr.setCell ⟨w.heap.size, 0, none⟩ (.int .i64 vars)).setCell ⟨w.heap.size, 1, none⟩ (.slice p q c)) (.slice p q c) ps) := rows_mono (rows_ahead (rows_ahead HPF.out.own (by omega)) (by omega)) (by omega)
         have HE : Hid (w.grownBy ((wr.setCell ⟨w.heap.size, 0, none⟩ (.int .i64 vars)).setCell ⟨w.heap.size, 1, none⟩ (.slice p q c)) (some b)) := by
          have h := grown_own HG2.out (below_grown hbl) (fun g e => by cases e)
          exact grown_own (grown_own h (grown_set (g := w.heap.size) (k := 0) (v := .int .i64 vars) (grown_refl _ _)) (fun g e => by injection e with e; omega)) (grown_set (g := w.heap.size) (k := 1) (v := .slice p q c) (grown_refl _ _)) (fun g e => by injection e with e; omega)
         have HCl := hid HPF.out.lits
         clear HPF hbl
         go_wp2
         (try simp only [Exit.inBlock, Exit.then])
         refine bodyPost_ret (v := .agg #[.int .i64 vars, .slice p q c]) (by simp [results, Tryz.results16, go_sem, q0, q1]) rfl ?_
         exact ⟨vars, p, q, c, ps, rfl, hv1, hv12, HF.out, by omega, HCl.out, HE.out⟩
 · clear r0 r1
   go_wp2_with fail
   refine (next_src b a len cap 1 2 _ HS1.out (by omega) (by omega) (by omega)).mono ?_
   rintro e w2 ⟨r2, rfl, r20, r21, hs2, hg2⟩
   replace q0 := fcell hg2 hne1 q0
   replace q1 := fcell hg2 hne1 q1
   replace q2 := ffroz hg2 hne1 s1 q2
   replace q3 := ffroz hg2 hne1 s1 q3
   have HG2 := hid (grown_trans HG1.out hg2)
   have s2 : w.heap.size < w2.heap.size := by have := hg2.size; omega
   clear hs2 hg2 HS1 HG1
   obtain ⟨M, hM⟩ : ∃ M : Nat, 3 + r2 = M := ⟨(3 + r2).toNat, by omega⟩
   have hM1 : 3 ≤ M := by omega
   have hM2 : M ≤ 4 := by omega
   have hr2 : r2 = (M : Int) - 3 := by omega
   subst hr2
   have hMM : 3 + ((M : Int) - 3) = M := by omega
   obtain ⟨vars, hvars⟩ : ∃ v : Int, (M : Int) * 3 = v := ⟨_, rfl⟩
   have hv1 : 1 ≤ vars := by omega
   have hv12 : vars ≤ 12 := by omega
   go_wp2
   go_loopw [6] (fun i wr => ∃ (k q c : Nat) (p : Option Addr) (ps : List (Value × List Int)), k ≤ M ∧ i = .int .i64 k ∧ ps.length ≤ k ∧ PF w2 vars p q c ps wr) (fun i _ => M - (intOf i).toNat)
   case atStart => exact ⟨0, 0, 0, none, [], Nat.zero_le _, rfl, Nat.le_refl _, pf_start _ _⟩
   case round =>
    obtain ⟨k, q, c, p, ps, hk, rfl, hpl, hpf⟩ := hrel
    have HPF := hid hpf
    clear hpf
    by_cases hlt : k < M
    · generalize wr = wo at *
      go_wp2
      go_loopw [8, 7] (fun j x wr => ∃ (i : Nat) (zs : List Int), i ≤ 3 ∧ j = .int .i64 i ∧ OwnInts wo.heap.size wr x zs ∧ zs.length = i ∧ (∀ z ∈ zs, litB vars z = true) ∧ Below wo.heap.size wo wr) (fun j _ _ => 3 - (intOf j).toNat)
      case atStart => exact ⟨0, [], Nat.zero_le _, rfl, own_new wo rfl (Nat.le_refl _), rfl, by simp, (Below.refl _ _).alloc (Nat.le_refl _) _⟩
      case round =>
       obtain ⟨i, zs, hi, rfl, hown, hzl, hzs, hb⟩ := hrel
       have HO := hid hown
       have HZs := hid hzs
       have HZl := hid hzl
       have HB := hid hb
       have hsz := hb.size
       clear hown hzs hzl hb
       by_cases hlt2 : i < 3
       · go_wp2_with (at_builtin; (refine wpList_append_own _ rfl _ _ 52 rfl wo.heap.size 3 i1 (.int .i64 0) 1 8 Tryz.underlying52 HJ.out HY0.out HY1.out HY2.out rfl (by decide) _ _ _ rfl (World.ownsRow.alloc HO.out _) ⟨wr.heap.size, 0, none⟩ 1 1 [.int .i64 ((k : Int) * 3 + i + 1)] rfl rfl (cell_one_new _ _ _) (fun x hx => by simp at hx; subst hx; rfl) (by have := HZl.out; unfold maxLen; omega) (by have := HZl.out; omega) (by simp; omega) ?_); intro v' w3 hown' hgrow3 hnil3)
         have HO3 : Hid (OwnInts wo.heap.size w3 v' (zs ++ [((k : Int) * 3 + i + 1)])) := by
          show OwnInts _ _ _ _
          unfold OwnInts
          rw [List.length_append, List.map_append]
          exact hown'
         have HB3 : Hid (Below wo.heap.size wo w3) := grown_below (v := _) (zs := zs) (World.ownsRow.alloc HO.out _) (HB.out.alloc (by omega) _) (by simp; omega) hgrow3
         clear hown' hgrow3 hnil3
         go_wp2
         go_roundw
         case rel =>
          refine ⟨i + 1, zs ++ [((k : Int) * 3 + i + 1)], by omega, by go_num, HO3.out, by rw [List.length_append, HZl.out]; rfl, fun z hz => ?_, HB3.out⟩
          rcases List.mem_append.1 hz with h | h
          · exact HZs.out z h
          · rw [List.mem_singleton] at h
            subst h
            simp [litB]; omega
         case measure => simp [intOf]; omega
       · have e : i = 3 := by omega
         subst e
         have HPF2 := hid (HPF.out.below HB.out)
         obtain ⟨xa, xc, rfl, _⟩ := HO.out.form
         have c0 := HPF2.out.c0
         have c1 := HPF2.out.c1
         have hql := HPF2.out.len
         have HPF3 := hid (HPF2.out.below (show Below wr.heap.size wr (wr.alloc (.cells #[.slice xa zs.length xc] 52)) from (Below.refl _ _).alloc (Nat.le_refl _) _))
         go_wp2_with (at_builtin; (refine wpList_append_own _ rfl _ _ 23 rfl (w2.heap.size + 1) 52 i0 (.slice none 0 0) 1 24 Tryz.underlying23 HI.out HZ0.out HZ1.out HZ2.out rfl (by decide) _ _ _ rfl (own_pass HPF2.out.own.outer (by repeat (first | exact Below.refl _ _ | assumption | refine Below.drew ?_ | refine Below.alloc ?_ (by first | exact Nat.le_refl _ | omega | (simp; done) | (simp; omega)) _ | refine Below.setCell ?_ (by first | exact Nat.le_refl _ | omega | (simp; done) | (simp; omega)) _))) ⟨wr.heap.size, 0, none⟩ 1 1 [.slice xa zs.length xc] rfl rfl (cell_one_new _ _ _) (fun u hu => by simp at hu; subst hu; rfl) (by unfold maxLen; omega) (by omega) (by have := HPF2.out.size; simp; omega) ?_); intro v4 wD hv4 hg4 _; obtain ⟨p4, c4, rfl, hpf4⟩ := HPF3.out.add (OwnInts.mono (OwnInts.below HO.out ((Below.refl _ _).alloc (Nat.le_refl _) _)) (by have := HPF.out.size; omega)) (clause_of (by have := HZl.out; omega) HZs.out) hv4 hg4; obtain ⟨d0, d1, d2⟩ := HPF3.out.far hg4; have HPF4 := hid hpf4; clear hv4 hg4 hpf4)
         clear c0 c1 hql
         go_wp2
         go_roundw
         case rel => exact ⟨k + 1, q + 1, c4, p4, _, by omega, by go_num, by rw [List.length_append]; simp; omega, HPF4.out⟩
         case measure => simp [intOf]; omega
    · have ek : k = M := by omega
      clear hlt hk
      subst ek
      go_wp2
      go_loopw [9] (fun i wr => ∃ (k q c : Nat) (p : Option Addr) (ps : List (Value × List Int)), k ≤ 3 ∧ i = .int .i64 k ∧ ps.length ≤ 4 + 16 * k ∧ PF w2 vars p q c ps wr) (fun i _ => 3 - (intOf i).toNat)
      case atStart => exact ⟨0, q, c, p, ps, Nat.zero_le _, rfl, by omega, HPF.out⟩
      case round =>
       clear HPF hpl ps p q c
       obtain ⟨t, q, c, p, ps, ht, rfl, hpl, hpf⟩ := hrel
       have HPF := hid hpf
       clear hpf
       by_cases hlt : t < 3
       · generalize wr = wo at *
         have hlt' : (t : Int) < 3 := by omega
         have hltd : decide ((t : Int) < 3) = true := decide_eq_true hlt'
         go_wp2
         go_loopw [10] (fun j wr => ∃ (i q c : Nat) (p : Option Addr) (ps : List (Value × List Int)), i ≤ k ∧ j = .int .i64 i ∧ ps.length ≤ 4 + 16 * t + 4 * i ∧ PF w2 vars p q c ps wr) (fun j _ => k - (intOf j).toNat)
         case atStart => exact ⟨0, q, c, p, ps, Nat.zero_le _, rfl, by omega, HPF.out⟩
         case round =>
          clear HPF hpl ps p q c
          obtain ⟨i, q, c, p, ps, hi, rfl, hpl, hpf⟩ := hrel
          have HPF := hid hpf
          clear hpf
          by_cases hlt3 : i < k
          · generalize wr = wo2 at *
            go_wp2
            go_loopw [11] (fun l wr => ∃ (j q c : Nat) (p : Option Addr) (ps : List (Value × List Int)), j ≤ i ∧ l = .int .i64 j ∧ ps.length ≤ 4 + 16 * t + 4 * i + j ∧ PF w2 vars p q c ps wr) (fun l _ => i - (intOf l).toNat)
            case atStart => exact ⟨0, q, c, p, ps, Nat.zero_le _, rfl, by omega, HPF.out⟩
            case round =>
             clear HPF hpl ps p q c
             obtain ⟨j, q, c, p, ps, hj, rfl, hpl, hpf⟩ := hrel
             have HPF2 := hid hpf
             clear hpf
             by_cases hlt4 : j < i
             · have c0 := HPF2.out.c0
               have c1 := HPF2.out.c1
               have hql := HPF2.out.len
               have hb2 : Below wr.heap.size wr ((wr.alloc (.cells #[.int .i64 (-((i : Int) * 3 + t + 1)), .int .i64 (-((j : Int) * 3 + t + 1))] 3)).alloc (.cells #[.slice (some ⟨wr.heap.size, 0, none⟩) 2 2] 52)) := ((Below.refl _ _).alloc (Nat.le_refl _) _).alloc (by simp) _
               have HPF3 := hid (HPF2.out.below hb2)
               have hrow : OwnInts (w2.heap.size + 1) ((wr.alloc (.cells #[.int .i64 (-((i : Int) * 3 + t + 1)), .int .i64 (-((j : Int) * 3 + t + 1))] 3)).alloc (.cells #[.slice (some ⟨wr.heap.size, 0, none⟩) 2 2] 52)) (.slice (some ⟨wr.heap.size, 0, none⟩) 2 2) [-((i : Int) * 3 + t + 1), -((j : Int) * 3 + t + 1)] :=
                OwnInts.below (row_made (B := w2.heap.size + 1) wr [-((i : Int) * 3 + t + 1), -((j : Int) * 3 + t + 1)] HPF2.out.size (by unfold maxLen; simp)) ((Below.refl _ _).alloc (Nat.le_refl _) _)
               have hcl2 : clauseB vars [-((i : Int) * 3 + t + 1), -((j : Int) * 3 + t + 1)] = true := clause_of (by simp) (fun z hz => by
                have hz' : z = -((i : Int) * 3 + t + 1) ∨ z = -((j : Int) * 3 + t + 1) := by simpa using hz
                rcases hz' with rfl | rfl <;> (simp [litB]; omega))
               have HC9 : Hid (∀ (n : Nat) (u : Value), [Value.slice (some ⟨wr.heap.size, 0, none⟩) 2 2][n]? = some u → ((wr.alloc (.cells #[.int .i64 (-((i : Int) * 3 + t + 1)), .int .i64 (-((j : Int) * 3 + t + 1))] 3)).alloc (.cells #[.slice (some ⟨wr.heap.size, 0, none⟩) 2 2] 52)).cell? ((⟨wr.heap.size + 1, 0, none⟩ : Addr).add n) = some u) := hid (by
                have h9 := cell_one_new (wr.alloc (.cells #[.int .i64 (-((i : Int) * 3 + t + 1)), .int .i64 (-((j : Int) * 3 + t + 1))] 3)) (.slice (some ⟨wr.heap.size, 0, none⟩) 2 2) 52
                have h8 : (wr.alloc (.cells #[.int .i64 (-((i : Int) * 3 + t + 1)), .int .i64 (-((j : Int) * 3 + t + 1))] 3)).heap.size = wr.heap.size + 1 := by simp
                rw [h8] at h9
                exact h9)
               have HRow := hid hrow
               have HCl2 := hid hcl2
               clear hb2 hrow hcl2
               go_wp2_with (at_builtin; (refine wpList_append_own _ rfl _ _ 23 rfl (w2.heap.size + 1) 52 i0 (.slice none 0 0) 1 24 Tryz.underlying23 HI.out HZ0.out HZ1.out HZ2.out rfl (by decide) _ _ _ rfl (own_pass HPF2.out.own.outer (by repeat (first | exact Below.refl _ _ | assumption | refine Below.drew ?_ | refine Below.alloc ?_ (by first | exact Nat.le_refl _ | omega | (simp; done) | (simp; omega)) _ | refine Below.setCell ?_ (by first | exact Nat.le_refl _ | omega | (simp; done) | (simp; omega)) _))) ⟨wr.heap.size + 1, 0, none⟩ 1 1 [.slice (some ⟨wr.heap.size, 0, none⟩) 2 2] rfl rfl HC9.out (fun u hu => by simp at hu; subst hu; rfl) (by unfold maxLen; omega) (by omega) (by have := HPF2.out.size; simp; omega) ?_); intro v4 wD hv4 hg4 _; obtain ⟨p4, c4, rfl, hpf4⟩ := HPF3.out.add HRow.out HCl2.out hv4 hg4; obtain ⟨d0, d1, d2⟩ := HPF3.out.far hg4; have HPF4 := hid hpf4; clear hv4 hg4 hpf4)
               clear c0 c1 hql
               go_wp2
               go_roundw
               case rel => exact ⟨j + 1, q + 1, c4, p4, _, by omega, by go_num, by rw [List.length_append]; simp; omega, HPF4.out⟩
               case measure => simp [intOf]; omega
             · have ej : j = i := by omega
               subst ej
               go_wp2
               go_roundw
               case rel => exact ⟨j + 1, q, c, p, ps, by omega, by go_num, by omega, HPF2.out⟩
               case measure => simp [intOf]; omega
          · have ei : i = k := by omega
            subst ei
            go_wp2
            go_roundw
            case rel => exact ⟨t + 1, q, c, p, ps, by omega, by go_num, by omega, HPF.out⟩
            case measure => simp [intOf]; omega
       · have et : t = 3 := by omega
         subst et
         have c0 := HPF.out.c0
         have c1 := HPF.out.c1
         have hbl := HPF.out.bel
         have hsz := HPF.out.size
         replace q0 := keep hbl q0
         replace q1 := keep hbl q1
         replace q2 : wr.frozen? ⟨w.heap.size, 0, none⟩ = false := by rw [hbl.frozen (p := ⟨w.heap.size, 0, none⟩) (by dsimp only; omega)]; exact q2
         replace q3 : wr.frozen? ⟨w.heap.size, 1, none⟩ = false := by rw [hbl.frozen (p := ⟨w.heap.size, 1, none⟩) (by dsimp only; omega)]; exact q3
         have HF : Hid (OwnRows w.heap.size ((wr.setCell ⟨w.heap.size, 0, none⟩ (.int .i64 vars)).setCell ⟨w.heap.size, 1, none⟩ (.slice p q c)) (.slice p q c) ps) := rows_mono (rows_ahead (rows_ahead HPF.out.own (by omega)) (by omega)) (by omega)
         have HE : Hid (w.grownBy ((wr.setCell ⟨w.heap.size, 0, none⟩ (.int .i64 vars)).setCell ⟨w.heap.size, 1, none⟩ (.slice p q c)) (some b)) := by
          have h := grown_own HG2.out (below_grown hbl) (fun g e => by cases e)
          exact grown_own (grown_own h (grown_set (g := w.heap.size) (k := 0) (v := .int .i64 vars) (grown_refl _ _)) (fun g e => by injection e with e; omega)) (grown_set (g := w.heap.size) (k := 1) (v := .slice p q c) (grown_refl _ _)) (fun g e => by injection e with e; omega)
         have HCl := hid HPF.out.lits
         clear HPF hbl
         go_wp2
         (try simp only [Exit.inBlock, Exit.then])
         refine bodyPost_ret (v := .agg #[.int .i64 vars, .slice p q c]) (by simp [results, Tryz.results16, go_sem, q0, q1]) rfl ?_
         exact ⟨vars, p, q, c, ps, rfl, hv1, hv12, HF.out, by omega, HCl.out, HE.out⟩
set_option maxHeartbeats 400000 in
theorem pigeonsOf_spec (a : Option Addr) (len cap : Nat) (w : World) (hb : Bytes w a len) (hl : len ≤ 1048576) :
  Calls Tryz.prog 6 #[.slice a len cap] w fun e w' => ∃ vars p n c ps, e = .returned (.agg #[.int .i64 vars, .slice p n c]) ∧ 1 ≤ vars ∧ vars ≤ 12 ∧ OwnRows w.heap.size w' (.slice p n c) ps ∧ cnfB vars (ps.map (·.2)) = true ∧ ps.length ≤ 52 ∧ Below w.heap.size w w' := by
 have HB := hid hb
 clear hb
 go_enter Tryz.func6, Tryz.ntmps6
 go_wp2_with fail
 refine (source_spec a len cap _ ?_ hl).mono ?_
 · exact fun i hi => by
    obtain ⟨bb, off, e, x, hx, hc⟩ := HB.out i hi
    exact ⟨bb, off, e, x, hx, keep (by repeat (first | exact Below.refl _ _ | assumption | refine Below.drew ?_ | refine Below.alloc ?_ (by first | exact Nat.le_refl _ | omega | (simp; done) | (simp; omega)) _ | refine Below.setCell ?_ (by first | exact Nat.le_refl _ | omega | (simp; done) | (simp; omega)) _)) hc⟩
 rintro e w1 ⟨b, rfl, hbe, hbl, hs1, hb1⟩
 have q0 : w1.cell? ⟨w.heap.size, 0, none⟩ = some (.int .i64 0) := keep hb1 (by simp [go_sem])
 have q1 : w1.cell? ⟨w.heap.size, 1, none⟩ = some (.slice none 0 0) := keep hb1 (by simp [go_sem])
 have q2 : w1.frozen? ⟨w.heap.size, 0, none⟩ = false := by rw [hb1.frozen (p := ⟨w.heap.size, 0, none⟩) (by simp)]; simp [go_sem]
 have q3 : w1.frozen? ⟨w.heap.size, 1, none⟩ = false := by rw [hb1.frozen (p := ⟨w.heap.size, 1, none⟩) (by simp)]; simp [go_sem]
 have hbe' : b = w.heap.size + 1 := by simpa using hbe
 have HS1 := hid hs1
 have HB1 : Hid (Below w.heap.size w w1) := (show Below w.heap.size w _ from (by repeat (first | exact Below.refl _ _ | assumption | refine Below.drew ?_ | refine Below.alloc ?_ (by first | exact Nat.le_refl _ | omega | (simp; done) | (simp; omega)) _ | refine Below.setCell ?_ (by first | exact Nat.le_refl _ | omega | (simp; done) | (simp; omega)) _))).trans (hb1.mono (by simp))
 have HBe := hid hbe'
 have hne : w.heap.size ≠ b := by omega
 have s1 : w.heap.size < w1.heap.size := by have := hb1.size; simp at this; omega
 clear hs1 hb1 hbe hbe'
 go_wp2_with fail
 refine (pigeons_src b a len cap _ HS1.out hbl).mono ?_
 rintro e w2 ⟨vars, p, n, c, ps, rfl, hv1, hv6, ho, hpl, hcl, hg⟩
 replace q0 := fcell hg hne q0
 replace q1 := fcell hg hne q1
 replace q2 := ffroz hg hne s1 q2
 replace q3 := ffroz hg hne s1 q3
 have HB2 : Hid (Below w.heap.size w w2) := HB1.out.grown hg HB1.out.size (fun g e => by injection e with e; have := HBe.out; omega)
 have HO : Hid (OwnRows w.heap.size ((w2.setCell ⟨w.heap.size, 0, none⟩ (.int .i64 vars)).setCell ⟨w.heap.size, 1, none⟩ (.slice p n c)) (.slice p n c) ps) := rows_mono (rows_ahead (rows_ahead ho (by omega)) (by omega)) (by omega)
 have HC : Hid (cnfB vars (ps.map (·.2)) = true) := by
  show _ = _
  unfold cnfB
  rw [decide_eq_true ⟨by omega, by omega, by rw [List.length_map]; omega⟩, Bool.true_and, List.all_eq_true]
  intro z hz
  obtain ⟨q, hq, rfl⟩ := List.mem_map.1 hz
  exact hcl q hq
 clear ho hcl hg
 go_wp2
 (try simp only [Exit.inBlock, Exit.then])
 refine bodyPost_ret (v := .agg #[.int .i64 vars, .slice p n c]) (by simp [results, Tryz.results6, go_sem, q0, q1]) rfl ?_
 exact ⟨vars, p, n, c, ps, rfl, hv1, hv6, HO.out, HC.out, hpl, (HB2.out.setCell (Nat.le_refl _) _).setCell (Nat.le_refl _) _⟩
end Go.Proofs.YtmkhoocokpkojaaGreatDoor.pigeons
