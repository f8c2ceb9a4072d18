/- A drawn word of three bits, of the specification; conditions: lengths that fit. -/
import Derived.Test.YtikdadpapdkfiaaWordDraw
namespace Go.Proofs.Ytikdadpapdkfiaa.wordSrc
open Go.RowKit Go.Deep Go.Sort Go base trees built wordTrees intsOwn source wordDraw
set_option linter.unusedVariables false

theorem asksW_ge : ∀ d, d ≤ asksW d
  | 0 => Nat.zero_le _
  | d + 1 => by have := asksW_ge d; simp only [asksW]; omega
set_option maxHeartbeats 6400000 in
set_option maxRecDepth 8000 in
theorem word_src (d : Nat) : WAt d := by
  induction d using Nat.strongRecOn with
  | _ d ih =>
  intro deep b a len cap k w hdd hs hk
  have HIH := hid ih
  have hap := asksW_pos d
  have hbw : b < w.heap.size := src_lt hs
  have HB0 : Hid (Below w.heap.size w (w.alloc (.cells #[.int .i64 0, .int .i64 0, .slice none 0 0] 25))) := hid (by repeat (first | exact Below.refl _ _ | assumption | refine Below.drew ?_ | refine Below.alloc ?_ (by first | exact Nat.le_refl _ | omega | (simp; done) | (simp; omega)) _ | refine Below.setCell ?_ (by first | exact Nat.le_refl _ | omega | (simp; done) | (simp; omega)) _))
  have HSw0 := hid (hs.below HB0.out)
  have HBw0 := hid (grown_refl (w.alloc (.cells #[.int .i64 0, .int .i64 0, .slice none 0 0] 25)) (some b))
  have HGw0 : Hid (w.grownBy (w.alloc (.cells #[.int .i64 0, .int .i64 0, .slice none 0 0] 25)) (some b)) := hid (grown_below' HB0.out)
  have HBox : Hid (∀ W : World, (w.alloc (.cells #[.int .i64 0, .int .i64 0, .slice none 0 0] 25)).grownBy W (some b) → (W.cell? ⟨w.heap.size, 0, none⟩ = some (.int .i64 0) ∧ W.cell? ⟨w.heap.size, 1, none⟩ = some (.int .i64 0) ∧ W.cell? ⟨w.heap.size, 2, none⟩ = some (.slice none 0 0) ∧ W.frozen? ⟨w.heap.size, 0, none⟩ = false ∧ W.frozen? ⟨w.heap.size, 1, none⟩ = false ∧ W.frozen? ⟨w.heap.size, 2, none⟩ = false) ∧ w.heap.size < W.heap.size) := hid (fun W hg => by
    have hb := hg.block w.heap.size (by simp) (fun e => by injection e with e; omega)
    have hz := hg.size
    simp at hz
    refine ⟨⟨?_, ?_, ?_, ?_, ?_, ?_⟩, by omega⟩
    · exact (World.cell?_of_block (a := ⟨w.heap.size, 0, none⟩) hb).trans (by simp [go_sem])
    · exact (World.cell?_of_block (a := ⟨w.heap.size, 1, none⟩) hb).trans (by simp [go_sem])
    · exact (World.cell?_of_block (a := ⟨w.heap.size, 2, none⟩) hb).trans (by simp [go_sem])
    · exact (World.frozen?_of_block (a := ⟨w.heap.size, 0, none⟩) hb).trans (by simp [go_sem])
    · exact (World.frozen?_of_block (a := ⟨w.heap.size, 1, none⟩) hb).trans (by simp [go_sem])
    · exact (World.frozen?_of_block (a := ⟨w.heap.size, 2, none⟩) hb).trans (by simp [go_sem]))
  clear hs ih
  have HLeaf : Hid (∀ (W : World) (k' : Nat) (kk nv : Int), Src W b a len cap k' → k' ≤ k + 3 → w.grownBy W (some b) → ((kk = 1 ∧ 0 ≤ nv ∧ nv < 8) ∨ (kk = 2 ∧ 0 ≤ nv ∧ nv < 4)) → ∃ t a' l c, Ending.returned (.agg #[.int .i64 kk, .int .i64 nv, .slice none 0 0]) = .returned (.agg #[.int .i64 (kd t), .int .i64 (nn t), .slice a' l c]) ∧ Rd (fun x => w.heap.size ≤ x) 1048576 W d t a' l ∧ FineW d t ∧ Src W b a len cap (k + asksW d) ∧ w.grownBy W (some b)) := hid (fun W k' kk nv h1 h2 h3 h4 =>
    ⟨leafT kk nv, none, 0, 0, rfl, rd_leaf _ _ _ _ _ _, fine_leaf d h4, h1.mono (by omega), h3⟩)
  by_cases h0 : deep = 0
  · subst h0
    have hd0 : decide (((0 : Nat) : Int) ≤ 0) = true := by decide
    go_enter Try.func13, Try.ntmps13
    go_wp2_with fail
    refine (chance_src b a len cap (k) 3 _ HSw0.out (by omega) (by omega) (by omega)).mono ?_
    rintro e wc ⟨tc, rfl, hs2, hg2⟩
    have HSwc := hid hs2
    have HBwc := hid (grown_trans HBw0.out hg2)
    have HGwc := hid (grown_trans HGw0.out hg2)
    clear hs2 hg2
    cases tc with
    | true =>
      go_wp2_with fail
      refine (next_src b a len cap (k + 1) 8 _ HSwc.out (by omega) (by omega) (by omega)).mono ?_
      rintro e wn ⟨r, rfl, hr0, hr1, hs2, hg2⟩
      have HSwn := hid hs2
      have HBwn := hid (grown_trans HBwc.out hg2)
      have HGwn := hid (grown_trans HGwc.out hg2)
      clear hs2 hg2
      obtain ⟨⟨q0, q1, q2, z0, z1, z2⟩, hltwn⟩ := HBox.out _ HBwn.out
      go_wp2
      refine bodyPost_ret (v := .agg #[.int .i64 1, .int .i64 r, .slice none 0 0]) (by first | (rw [results_cell rfl]; go_simp; done) | (simp [results, Try.results13]; go_simp; done)) rfl ?_
      exact HLeaf.out _ (k + 1 + 1) 1 r (src_kept HSwn.out (fun j hj => by rw [Below.heap_setCell _ _ _ _ (by dsimp only; omega), Below.heap_setCell _ _ _ _ (by dsimp only; omega), Below.heap_setCell _ _ _ _ (by dsimp only; omega)])) (by omega) (grown_new (grown_new (grown_new HGwn.out (Nat.le_refl _) _) (Nat.le_refl _) _) (Nat.le_refl _) _) (by omega)
    | false =>
      go_wp2_with fail
      refine (next_src b a len cap (k + 1) 4 _ HSwc.out (by omega) (by omega) (by omega)).mono ?_
      rintro e wn ⟨r, rfl, hr0, hr1, hs2, hg2⟩
      have HSwn := hid hs2
      have HBwn := hid (grown_trans HBwc.out hg2)
      have HGwn := hid (grown_trans HGwc.out hg2)
      clear hs2 hg2
      obtain ⟨⟨q0, q1, q2, z0, z1, z2⟩, hltwn⟩ := HBox.out _ HBwn.out
      go_wp2
      refine bodyPost_ret (v := .agg #[.int .i64 2, .int .i64 r, .slice none 0 0]) (by first | (rw [results_cell rfl]; go_simp; done) | (simp [results, Try.results13]; go_simp; done)) rfl ?_
      exact HLeaf.out _ (k + 1 + 1) 2 r (src_kept HSwn.out (fun j hj => by rw [Below.heap_setCell _ _ _ _ (by dsimp only; omega), Below.heap_setCell _ _ _ _ (by dsimp only; omega), Below.heap_setCell _ _ _ _ (by dsimp only; omega)])) (by omega) (grown_new (grown_new (grown_new HGwn.out (Nat.le_refl _) _) (Nat.le_refl _) _) (Nat.le_refl _) _) (by omega)
  have hd0 : decide ((deep : Int) ≤ 0) = false := decide_eq_false (by omega)
  obtain ⟨dp, rfl⟩ : ∃ dp, deep = dp + 1 := ⟨deep - 1, by omega⟩
  obtain ⟨d', rfl⟩ : ∃ d', d = d' + 1 := ⟨d - 1, by omega⟩
  have hask : asksW (d' + 1) = 3 + 2 * asksW d' := rfl
  have hdpb : (dp : Int) ≤ 1048576 := by have := asksW_ge (d' + 1); omega
  go_enter Try.func13, Try.ntmps13
  go_wp2_with fail
  refine (chance_src b a len cap k 3 _ HSw0.out (by omega) (by omega) (by omega)).mono ?_
  rintro e w1 ⟨t1, rfl, hs2, hg2⟩
  have HSw1 := hid hs2
  have HBw1 := hid (grown_trans HBw0.out hg2)
  have HGw1 := hid (grown_trans HGw0.out hg2)
  clear hs2 hg2
  cases t1 with
  | true =>
    go_wp2_with fail
    refine (chance_src b a len cap (k + 1) 3 _ HSw1.out (by omega) (by omega) (by omega)).mono ?_
    rintro e wc ⟨tc, rfl, hs2, hg2⟩
    have HSwc := hid hs2
    have HBwc := hid (grown_trans HBw1.out hg2)
    have HGwc := hid (grown_trans HGw1.out hg2)
    clear hs2 hg2
    cases tc with
    | true =>
      go_wp2_with fail
      refine (next_src b a len cap (k + 1 + 1) 8 _ HSwc.out (by omega) (by omega) (by omega)).mono ?_
      rintro e wn ⟨r, rfl, hr0, hr1, hs2, hg2⟩
      have HSwn := hid hs2
      have HBwn := hid (grown_trans HBwc.out hg2)
      have HGwn := hid (grown_trans HGwc.out hg2)
      clear hs2 hg2
      obtain ⟨⟨q0, q1, q2, z0, z1, z2⟩, hltwn⟩ := HBox.out _ HBwn.out
      go_wp2
      refine bodyPost_ret (v := .agg #[.int .i64 1, .int .i64 r, .slice none 0 0]) (by first | (rw [results_cell rfl]; go_simp; done) | (simp [results, Try.results13]; go_simp; done)) rfl ?_
      exact HLeaf.out _ (k + 1 + 1 + 1) 1 r (src_kept HSwn.out (fun j hj => by rw [Below.heap_setCell _ _ _ _ (by dsimp only; omega), Below.heap_setCell _ _ _ _ (by dsimp only; omega), Below.heap_setCell _ _ _ _ (by dsimp only; omega)])) (by omega) (grown_new (grown_new (grown_new HGwn.out (Nat.le_refl _) _) (Nat.le_refl _) _) (Nat.le_refl _) _) (by omega)
    | false =>
      go_wp2_with fail
      refine (next_src b a len cap (k + 1 + 1) 4 _ HSwc.out (by omega) (by omega) (by omega)).mono ?_
      rintro e wn ⟨r, rfl, hr0, hr1, hs2, hg2⟩
      have HSwn := hid hs2
      have HBwn := hid (grown_trans HBwc.out hg2)
      have HGwn := hid (grown_trans HGwc.out hg2)
      clear hs2 hg2
      obtain ⟨⟨q0, q1, q2, z0, z1, z2⟩, hltwn⟩ := HBox.out _ HBwn.out
      go_wp2
      refine bodyPost_ret (v := .agg #[.int .i64 2, .int .i64 r, .slice none 0 0]) (by first | (rw [results_cell rfl]; go_simp; done) | (simp [results, Try.results13]; go_simp; done)) rfl ?_
      exact HLeaf.out _ (k + 1 + 1 + 1) 2 r (src_kept HSwn.out (fun j hj => by rw [Below.heap_setCell _ _ _ _ (by dsimp only; omega), Below.heap_setCell _ _ _ _ (by dsimp only; omega), Below.heap_setCell _ _ _ _ (by dsimp only; omega)])) (by omega) (grown_new (grown_new (grown_new HGwn.out (Nat.le_refl _) _) (Nat.le_refl _) _) (Nat.le_refl _) _) (by omega)
  | false =>
  go_wp2_with fail
  refine (next_src b a len cap (k + 1) 3 _ HSw1.out (by omega) (by omega) (by omega)).mono ?_
  rintro e w2 ⟨r, rfl, hr0, hr1, hs2, hg2⟩
  have HSw2 := hid hs2
  have HBw2 := hid (grown_trans HBw1.out hg2)
  have HGw2 := hid (grown_trans HGw1.out hg2)
  clear hs2 hg2
  have hcast : ((dp + 1 : Nat) : Int) - 1 = (dp : Int) := by omega
  go_wp2_with fail
  (try simp only [Int.add_sub_cancel])
  refine (HIH.out d' (by omega) dp b a len cap (k + 1 + 1) _ (by omega) HSw2.out (by omega)).mono ?_
  rintro e w3 ⟨ta, aa, la, ca, rfl, hrd3, hf3, hs2, hg2⟩
  have HSw3 := hid hs2
  have HBw3 := hid (grown_trans HBw2.out hg2)
  have HGw3 := hid (grown_trans HGw2.out hg2)
  have HRa := hid hrd3
  have HFa := hid hf3
  have hsz23 := HGw2.out.size
  have hsz3 := hg2.size
  clear hs2 hg2 hrd3 hf3
  go_wp2_with fail
  (try simp only [Int.add_sub_cancel])
  refine (HIH.out d' (by omega) dp b a len cap (k + 1 + 1 + asksW d') _ (by omega) HSw3.out (by omega)).mono ?_
  rintro e w4 ⟨tb, ab, lb, cb, rfl, hrd4, hf4, hs2, hg2⟩
  have HSw4 := hid hs2
  have HBw4 := hid (grown_trans HBw3.out hg2)
  have HGw4 := hid (grown_trans HGw3.out hg2)
  have hw1s : w.heap.size + 1 ≤ w2.heap.size := by have := HBw2.out.size; simp at this; omega
  have HRb := hid (hrd4.imp (q' := fun x => w.heap.size + 1 ≤ x) fun q hq => by omega)
  have HRa4 : Hid (Rd (fun x => w.heap.size + 1 ≤ x) 1048576 w4 d' ta aa la) := hid (HRa.out.kept fun q o v hq hc => by
    have hlt := World.block_lt_of_cell? _ _ hc
    refine ⟨(World.cell?_of_block (a := ⟨q, o, none⟩) (hg2.block q hlt (fun e => by injection e with e; omega))).trans hc, by omega⟩)
  have HFb := hid hf4
  obtain ⟨⟨q0, q1, q2, z0, z1, z2⟩, hltw4⟩ := HBox.out _ HBw4.out
  clear hs2 hg2 hrd4 hf4
  have hsz4 : w.heap.size + 1 ≤ w4.heap.size := by have := HBw4.out.size; simp at this; omega
  go_wp2
  have HK5 : Hid (∀ j, j ≠ w.heap.size → (((w4.setCell ⟨w.heap.size, 0, none⟩ (.int .i64 (3 + r))).setCell ⟨w.heap.size, 1, none⟩ (.int .i64 0)).setCell ⟨w.heap.size, 2, none⟩ (.slice (some ⟨w4.heap.size, 0, none⟩) 2 2)).heap[j]? = w4.heap[j]?) := hid (fun j hj => by rw [Below.heap_setCell _ _ _ _ (by dsimp only; omega), Below.heap_setCell _ _ _ _ (by dsimp only; omega), Below.heap_setCell _ _ _ _ (by dsimp only; omega)])
  have HG5 : Hid (w.grownBy (((w4.setCell ⟨w.heap.size, 0, none⟩ (.int .i64 (3 + r))).setCell ⟨w.heap.size, 1, none⟩ (.int .i64 0)).setCell ⟨w.heap.size, 2, none⟩ (.slice (some ⟨w4.heap.size, 0, none⟩) 2 2)) (some b)) := hid (grown_new (grown_new (grown_new HGw4.out (Nat.le_refl _) _) (Nat.le_refl _) _) (Nat.le_refl _) _)
  have hz5 : (((w4.setCell ⟨w.heap.size, 0, none⟩ (.int .i64 (3 + r))).setCell ⟨w.heap.size, 1, none⟩ (.int .i64 0)).setCell ⟨w.heap.size, 2, none⟩ (.slice (some ⟨w4.heap.size, 0, none⟩) 2 2)).heap.size = w4.heap.size := by simp [World.setCell]
  have c5 : (((w4.setCell ⟨w.heap.size, 0, none⟩ (.int .i64 (3 + r))).setCell ⟨w.heap.size, 1, none⟩ (.int .i64 0)).setCell ⟨w.heap.size, 2, none⟩ (.slice (some ⟨w4.heap.size, 0, none⟩) 2 2)).cell? ⟨w.heap.size, 0, none⟩ = some (.int .i64 (3 + r)) ∧ (((w4.setCell ⟨w.heap.size, 0, none⟩ (.int .i64 (3 + r))).setCell ⟨w.heap.size, 1, none⟩ (.int .i64 0)).setCell ⟨w.heap.size, 2, none⟩ (.slice (some ⟨w4.heap.size, 0, none⟩) 2 2)).cell? ⟨w.heap.size, 1, none⟩ = some (.int .i64 0) ∧ (((w4.setCell ⟨w.heap.size, 0, none⟩ (.int .i64 (3 + r))).setCell ⟨w.heap.size, 1, none⟩ (.int .i64 0)).setCell ⟨w.heap.size, 2, none⟩ (.slice (some ⟨w4.heap.size, 0, none⟩) 2 2)).cell? ⟨w.heap.size, 2, none⟩ = some (.slice (some ⟨w4.heap.size, 0, none⟩) 2 2) := by
    refine ⟨?_, ?_, ?_⟩ <;> simp [go_sem, q0, q1, q2]
  generalize (((w4.setCell ⟨w.heap.size, 0, none⟩ (.int .i64 (3 + r))).setCell ⟨w.heap.size, 1, none⟩ (.int .i64 0)).setCell ⟨w.heap.size, 2, none⟩ (.slice (some ⟨w4.heap.size, 0, none⟩) 2 2)) = W5 at *
  obtain ⟨k0, k1, k2⟩ := c5
  have hl5 : w.heap.size < W5.heap.size := by omega
  refine bodyPost_ret (v := .agg #[.int .i64 (3 + r), .int .i64 0, .slice (some ⟨w4.heap.size, 0, none⟩) 2 2]) (by first | (rw [results_cell rfl]; go_simp; done) | (simp [results, Try.results13]; go_simp; done)) rfl ?_
  have hB6 : Below W5.heap.size W5 (W5.alloc (.cells #[.int .i64 (kd ta), .int .i64 (nn ta), .slice aa la ca, .int .i64 (kd tb), .int .i64 (nn tb), .slice ab lb cb] 25)) := (by repeat (first | exact Below.refl _ _ | assumption | refine Below.drew ?_ | refine Below.alloc ?_ (by first | exact Nat.le_refl _ | omega | (simp; done) | (simp; omega)) _ | refine Below.setCell ?_ (by first | exact Nat.le_refl _ | omega | (simp; done) | (simp; omega)) _))
  have hkeep : ∀ (q o : Nat) (v : Value), w.heap.size + 1 ≤ q → w4.cell? ⟨q, o, none⟩ = some v → (W5.alloc (.cells #[.int .i64 (kd ta), .int .i64 (nn ta), .slice aa la ca, .int .i64 (kd tb), .int .i64 (nn tb), .slice ab lb cb] 25)).cell? ⟨q, o, none⟩ = some v := fun q o v hq hc => keep hB6 ((World.cell?_of_block (a := ⟨q, o, none⟩) (HK5.out q (by omega))).trans hc)
  refine ⟨ndT (3 + r) 2 (two ta tb), some ⟨w4.heap.size, 0, none⟩, 2, 2, rfl, ⟨rfl, by omega, fun i hi => ?_⟩, fine_node (by omega) HFa.out HFb.out, ?_, ?_⟩
  · have hn : ∀ (o : Nat) (v : Value), #[Value.int .i64 (kd ta), .int .i64 (nn ta), .slice aa la ca, .int .i64 (kd tb), .int .i64 (nn tb), .slice ab lb cb][o]? = some v → (W5.alloc (.cells #[.int .i64 (kd ta), .int .i64 (nn ta), .slice aa la ca, .int .i64 (kd tb), .int .i64 (nn tb), .slice ab lb cb] 25)).cell? ⟨w4.heap.size, o, none⟩ = some v := fun o v h => by
      have := cell_new W5 #[Value.int .i64 (kd ta), .int .i64 (nn ta), .slice aa la ca, .int .i64 (kd tb), .int .i64 (nn tb), .slice ab lb cb] 25 h
      rwa [hz5] at this
    obtain rfl | rfl : i = 0 ∨ i = 1 := by omega
    · exact ⟨w4.heap.size, 0, rfl, by omega, hn 0 _ rfl, hn 1 _ rfl, aa, la, ca, hn 2 _ rfl, HRa4.out.kept fun q o v hq hc => ⟨hkeep q o v hq hc, by omega⟩⟩
    · exact ⟨w4.heap.size, 0, rfl, by omega, hn 3 _ rfl, hn 4 _ rfl, ab, lb, cb, hn 5 _ rfl, HRb.out.kept fun q o v hq hc => ⟨hkeep q o v hq hc, by omega⟩⟩
  · exact ((src_kept HSw4.out (fun j hj => HK5.out j (by omega))).below hB6).mono (by omega)
  · exact grown_trans HG5.out (grown_below' hB6)
end Go.Proofs.Ytikdadpapdkfiaa.wordSrc
