/- The text of steps, of the program: what tells right steps, the text itself, the faults that are thrown; conditions: lengths that fit, the library's tables as they are laid. -/
import Derived.Test.YtcgpjlpggbgdaaaGreatDoorSteps
import Derived.Test.YtcgpjlpggbgdaaaGreatDoorTextImpl
import Derived.Test.YtcgpjlpggbgdaaaGreatDoorFault
import Derived.Shelf.Strings.BuilderK
import Derived.Shelf.Strings.BuilderF
namespace Go.Proofs.YtcgpjlpggbgdaaaGreatDoor.stepsImpl
open Go.RowKit Go.Deep base copy cnf digits lines textImpl steps fault asHit
set_option linter.unusedVariables false

def stepsB (vars : Int) (ss : List St) : Bool := decide (ss.length ≤ 200) && ss.all (fun s => clauseB vars s.2)
def stepBytes (s : St) : List UInt8 := (if s.1 then [100, 32] else []) ++ lineBytes s.2
def proofBytes (ss : List St) : List UInt8 := ss.flatMap stepBytes

theorem builderF_below {T e : TypeId} {B b : Nat} {bs : List Value} {w w1 : World} (h : Lib.IsBuilderF T e B b bs w) (hb : Below w.heap.size w w1) : Lib.IsBuilderF T e B b bs w1 := by
  have own : ∀ {v : Value}, w.ownsRowF B e 1 v bs.length bs → w1.ownsRowF B e 1 v bs.length bs := fun {v} h => by
    obtain ⟨h1, h2⟩ := h
    refine ⟨h1, ?_⟩
    rcases h2 with h2 | ⟨g, cap, cur, fz, e, hg, hh, hn⟩
    · exact .inl h2
    · exact .inr ⟨g, cap, cur, fz, e, hg, by rw [hb.block g (Array.getElem?_eq_some_iff.1 hh).1]; exact hh, hn⟩
  rcases h with ⟨h1, v, h2, h3, h4⟩ | ⟨h1, v, h2, h3, h4⟩
  · exact .inl ⟨h1, v, by rw [hb.block b (Array.getElem?_eq_some_iff.1 h2).1]; exact h2, own h3, h4⟩
  · exact .inr ⟨h1, v, by rw [hb.block b (Array.getElem?_eq_some_iff.1 h2).1]; exact h2, own h3, h4⟩
theorem write_k (B b : Nat) (l : List UInt8) (s : ByteArray) (w : World) (h : Lib.IsBuilderF 66 5 B b (Lib.byteCells l) w) (hlen : l.length + s.size ≤ 140737488355328) (hBw : B ≤ w.heap.size) :
    Calls Tryz.prog 32 #[.pointer (some ⟨b, 0, none⟩), .string s] w fun e w' => e = .returned (.tuple #[.int .i64 s.size, .nilIface]) ∧ Lib.IsBuilderF 66 5 B b (Lib.byteCells (l ++ s.data.toList)) w' ∧ Below B w w' ∧ Lib.OthersKept 5 (some b) w w' := by
  have hc := Any.Builder_WriteString_k Tryz.lays166 Tryz.Builder_Extra_166 B b (Lib.byteCells l) s w h (by rw [Lib.byteCells_length]; exact hlen) hBw
  change Calls Tryz.prog 32 _ _ _ at hc
  refine hc.mono ?_
  rintro e w' ⟨rfl, h1, h2, h3⟩
  refine ⟨rfl, .inr ?_, h2, h3⟩
  rw [cells_append, ← str_cells]
  exact h1
theorem string_f (B b : Nat) (l : List UInt8) (w : World) (h : Lib.IsBuilderF 66 5 B b (Lib.byteCells l) w) (hBw : B ≤ w.heap.size) :
    Calls Tryz.prog 34 #[.pointer (some ⟨b, 0, none⟩)] w fun e w' => e = .returned (.string ⟨l.toArray⟩) ∧ Below B w w' := by
  have hc := Any.Builder_String_any_f Tryz.lays169 Tryz.Builder_Extra_169 B b l w h hBw
  change Calls Tryz.prog 34 _ _ _ at hc
  exact hc.mono fun e w' ⟨h1, _, h2⟩ => ⟨h1, h2⟩

theorem text_next {ss : List St} {k : Nat} (h : k < ss.length) : (ss.take (k + 1)).flatMap stepBytes = (ss.take k).flatMap stepBytes ++ stepBytes (ss[k]?.getD (false, [])) := by
  rw [List.take_succ_eq_append_getElem h, List.flatMap_append, List.getElem?_eq_getElem h]
  simp
theorem step_len {s : St} (hl : s.2.length ≤ 12) (hz : ∀ z ∈ s.2, -40 ≤ z ∧ z ≤ 40) : (stepBytes s).length ≤ 12040 := by
  have := line_len hl hz
  unfold stepBytes
  rw [List.length_append]
  split <;> simp <;> omega
theorem steps_len (ss : List St) (h : ∀ s ∈ ss, s.2.length ≤ 12 ∧ ∀ z ∈ s.2, -40 ≤ z ∧ z ≤ 40) : (ss.flatMap stepBytes).length ≤ ss.length * 12040 := by
  induction ss with
  | nil => simp
  | cons x xs ih =>
    have h1 := ih (fun z hz => h z (by simp [hz]))
    have h2 := h x (by simp)
    have h3 := step_len h2.1 h2.2
    rw [List.flatMap_cons, List.length_append, List.length_cons, Nat.succ_mul]
    omega
theorem steps_most {ss : List St} (h : ∀ s ∈ ss, s.2.length ≤ 12 ∧ ∀ z ∈ s.2, -40 ≤ z ∧ z ≤ 40) (hl : ss.length ≤ 200) : (ss.flatMap stepBytes).length ≤ 2408000 :=
  Nat.le_trans (steps_len ss h) (Nat.mul_le_mul_right 12040 hl)
theorem steps_rows {ss : List St} (h : stepsB 40 ss = true) : ss.length ≤ 200 ∧ ∀ s ∈ ss, s.2.length ≤ 12 ∧ ∀ z ∈ s.2, -40 ≤ z ∧ z ≤ 40 := by
  simp only [stepsB, Bool.and_eq_true, decide_eq_true_eq, List.all_eq_true] at h
  refine ⟨h.1, fun s hs => ?_⟩
  have h5 := h.2 s hs
  simp only [clauseB, Bool.and_eq_true, decide_eq_true_eq, List.all_eq_true] at h5
  refine ⟨h5.1, fun z hzz => ?_⟩
  have h6 : z ≠ 0 ∧ -40 ≤ z ∧ z ≤ 40 := of_decide_eq_true (h5.2 z hzz)
  omega

set_option maxHeartbeats 800000 in
theorem are_impl (a : Option Addr) (len cap : Nat) (ss : List St) (vars : Int) (w : World) (h0 : 0 ≤ vars) (h1 : vars ≤ 40) (hr : StepRow w a len ss) :
    Calls Tryz.prog 16 #[.slice a len cap, .int .i64 vars] w fun e w' => e = .returned (.bool (stepsB vars ss)) ∧ Below w.heap.size w w' := by
  have hmost := hr.most
  unfold maxLen at hmost
  have HR := hid hr
  have HL := hid hr.length
  clear hr
  by_cases h3 : (200 : Int) < (len : Int)
  · have hf : stepsB vars ss = false := by
      have : decide (ss.length ≤ 200) = false := decide_eq_false (by rw [HL.out]; omega)
      simp [stepsB, this]
    rw [hf]
    clear hf
    go_enter Tryz.func16, Tryz.ntmps16
    go_wp2
    go_ret
    exact ⟨rfl, Below.refl _ _⟩
  have hN : Hid (stepsB vars ss = ss.all (fun s => clauseB vars s.2)) := by
    show _ = _
    have : decide (ss.length ≤ 200) = true := decide_eq_true (by rw [HL.out]; omega)
    simp [stepsB, this]
  go_enter Tryz.func16, Tryz.ntmps16
  go_wp2
  go_loopw [12] (fun i wr => ∃ k : Nat, k ≤ len ∧ i = .int .i64 k ∧ (ss.take k).all (fun s => clauseB vars s.2) = true ∧ Below w.heap.size w wr) (fun i _ => len - (intOf i).toNat)
  case atStart => exact ⟨0, Nat.zero_le _, rfl, rfl, Below.refl _ _⟩
  case round =>
    obtain ⟨k, hk, rfl, ha, hbel⟩ := hrel
    have HA := hid ha
    have HB := hid hbel
    clear ha
    by_cases hlt : k < len
    · obtain ⟨b, off, rfl, hd, x, l, c, hc, hx⟩ := HR.out.cell k hlt
      replace hd := keep hbel hd
      replace hc := keep hbel hc
      have hbw : b < wr.heap.size := World.block_lt_of_cell? _ _ hc
      have HX := hid (hx.below hbel)
      have HS := hid hbel.size
      clear hx hbel
      by_cases hL : clauseB vars (ss[k]?.getD (false, [])).2 = true
      · go_wp2_with fail
        refine (clause_impl x l c _ vars _ h0 h1 (HX.out.below (by repeat (first | exact Below.refl _ _ | assumption | refine Below.drew ?_ | refine Below.alloc ?_ (by first | exact Nat.le_refl _ | omega | (simp; done) | (simp; omega)) _ | refine Below.setCell ?_ (by first | exact Nat.le_refl _ | omega | (simp; done) | (simp; omega)) _)))).mono ?_
        rintro e w1 ⟨rfl, rfl⟩
        rw [hL]
        have HB1 : Hid (Below w.heap.size w (wr.alloc (.cells #[.bool (ss[k]?.getD (false, [])).1, .slice x l c] 53))) := HB.out.alloc HS.out _
        go_wp2
        go_roundw
        case rel => exact ⟨k + 1, by omega, by go_num, by rw [all_take_succ (d := (false, [])) (by rw [HL.out]; omega), HA.out, hL]; rfl, HB1.out⟩
        case measure => simp [intOf]; omega
      · have hL' : clauseB vars (ss[k]?.getD (false, [])).2 = false := by simpa using hL
        clear hL
        go_wp2_with fail
        refine (clause_impl x l c _ vars _ h0 h1 (HX.out.below (by repeat (first | exact Below.refl _ _ | assumption | refine Below.drew ?_ | refine Below.alloc ?_ (by first | exact Nat.le_refl _ | omega | (simp; done) | (simp; omega)) _ | refine Below.setCell ?_ (by first | exact Nat.le_refl _ | omega | (simp; done) | (simp; omega)) _)))).mono ?_
        rintro e w1 ⟨rfl, rfl⟩
        rw [hL']
        go_wp2
        go_ret
        exact ⟨ret_bool (by rw [hN.out, all_false (d := (false, [])) (by rw [HL.out]; omega) hL']), HB.out.alloc HS.out _⟩
    · have e : k = len := by omega
      subst e
      clear hbel
      go_wp2
      go_ret
      exact ⟨ret_bool (by rw [hN.out, ← HA.out, List.take_of_length_le (by rw [HL.out]; omega)]), HB.out⟩

theorem kept_cell {e : TypeId} {b k o : Nat} {cs : Array Value} {t : TypeId} {v : Value} {w w1 : World} (h : Lib.OthersKept e (some b) w w1) (hk : w.heap[k]? = some (.cells cs t (0, 0))) (hkb : k ≠ b) (ht : t ≠ e) (hv : cs[o]? = some v) : w1.cell? ⟨k, o, none⟩ = some v := by
  have h1 := h k _ hk (by simpa using hkb) (fun c fz hh => by injection hh; exact ht ‹_›)
  rw [Lib.cell_of_heap h1]
  exact hv

set_option maxHeartbeats 3200000 in
set_option maxRecDepth 8000 in
theorem text_of (a : Option Addr) (len cap : Nat) (ss : List St) (w : World) (hr : StepRow w a len ss) (hB : stepsB 40 ss = true) (ht : TabW w) :
    Calls Tryz.prog 17 #[.slice a len cap] w fun e w' => e = .returned (.string ⟨(proofBytes ss).toArray⟩) ∧ Below w.heap.size w w' := by
  obtain ⟨hl200, hrows⟩ := steps_rows hB
  have HRo := hid hrows
  have HR := hid hr
  have HL := hid hr.length
  have HT := hid ht
  have hle : len ≤ 200 := by rw [← hr.length]; exact hl200
  obtain ⟨tb, htb⟩ : ∃ tb, proofBytes ss = tb := ⟨_, rfl⟩
  have HTb : Hid (tb = ss.flatMap stepBytes) := htb.symm
  rw [htb]
  have HTx : Hid (∀ k, ((ss.take k).flatMap stepBytes).length ≤ 2408000) := fun k => steps_most (fun zs h => HRo.out zs (List.mem_of_mem_take h)) (Nat.le_trans (List.length_take_le' _ _) hl200)
  clear hr ht hrows htb hl200 hB
  go_enter Tryz.func17, Tryz.ntmps17
  go_wp2
  go_loopw [8] (fun i wr => ∃ k : Nat, k ≤ len ∧ i = .int .i64 k ∧ Lib.IsBuilderF 66 5 w.heap.size w.heap.size (Lib.byteCells ((ss.take k).flatMap stepBytes)) wr ∧ Below w.heap.size w wr ∧ w.heap.size < wr.heap.size) (fun i _ => len - (intOf i).toNat)
  case atStart => exact ⟨0, Nat.zero_le _, rfl, Lib.IsBuilderF.of (Lib.fresh_isBuilder _ _ w), (Below.refl _ _).alloc (Nat.le_refl _) _, by simp⟩
  case round =>
    obtain ⟨k, hk, rfl, hbu, hbel, hsz⟩ := hrel
    have HBu := hid hbu
    have HBk := hid hbel
    have hfl := HTx.out k
    clear hbu
    by_cases hlt : k < len
    · obtain ⟨b, off, rfl, hd0, x, l, c, hc0, hx0⟩ := HR.out.cell k hlt
      have hd := keep hbel hd0
      have hc := keep hbel hc0
      have hbw : b < wr.heap.size := World.block_lt_of_cell? _ _ hc
      have HX := hid (hx0.below hbel)
      have HX0 := hid hx0
      have hkz : k < ss.length := by rw [HL.out]; exact hlt
      have hmem : ss[k]?.getD (false, []) ∈ ss := by rw [List.getElem?_eq_getElem hkz]; exact List.getElem_mem _
      have HZ := hid (HRo.out _ hmem)
      have HXl := hid hx0.length
      have HF := hid (text_next (ss := ss) hkz)
      clear hc0 hd0 hx0 hmem hbel
      generalize ss[k]?.getD (false, []) = s at *
      obtain ⟨d, zs⟩ := s
      generalize (ss.take k).flatMap stepBytes = acc at *
      have hll := line_len HZ.out.1 HZ.out.2
      have HLine := hid (fun w hr ht => line_impl x l c zs w hr HZ.out.2 (by rw [← HXl.out]; exact HZ.out.1) ht)
      simp only at hd HX HX0
      rw [show stepBytes (d, zs) = (if d then [100, 32] else []) ++ lineBytes zs from rfl] at HF
      simp only at hll HLine
      generalize lineBytes zs = lb at *
      obtain ⟨W1, hW1⟩ : ∃ W1, wr.alloc (.cells #[.bool d, .slice x l c] 53) = W1 := ⟨_, rfl⟩
      have HW1 := hid hW1
      have hb1 : Below wr.heap.size wr W1 := by rw [← hW1]; exact (Below.refl _ _).alloc (Nat.le_refl _) _
      have HB1 := hid (HBk.out.trans (hb1.mono HBk.out.size))
      have HBu1 := hid (builderF_below HBu.out hb1)
      have hblk : W1.heap[wr.heap.size]? = some (.cells #[.bool d, .slice x l c] 53 (0, 0)) := by rw [← hW1]; exact heap_alloc_new wr _
      have HBlk := hid hblk
      have HX1 := hid (HX.out.below hb1)
      have HS1 := hid (Nat.le_trans HBk.out.size hb1.size)
      have hz1 : W1.heap.size = wr.heap.size + 1 := by rw [← hW1]; simp
      have HZ1 := hid hz1
      clear hb1 hblk hW1 hz1
      cases d
      · go_wp2_with fail
        rw [HW1.out]
        refine (HLine.out _ HX1.out (HT.out.below HB1.out)).mono ?_
        rintro e w5 ⟨rfl, hb5⟩
        have HB5 := hid (HB1.out.trans (hb5.mono HS1.out))
        have HBu5 := hid (builderF_below HBu1.out hb5)
        have HS5 := hid (Nat.le_trans HS1.out hb5.size)
        have hs5 : w.heap.size < w5.heap.size := by have := hb5.size; have := HZ1.out; omega
        clear hb5
        go_wp2_with fail
        refine (write_k w.heap.size w.heap.size _ _ _ HBu5.out ?_ HS5.out).mono ?_
        · show _ + lb.toArray.size ≤ _
          rw [List.size_toArray]
          omega
        rintro e w6 ⟨rfl, hbu6, hb6, -⟩
        have HB6 := hid (HB5.out.trans hb6)
        have HS6 := hid (Nat.lt_of_lt_of_le hs5 hb6.size)
        have HBu6 : Hid (Lib.IsBuilderF 66 5 w.heap.size w.heap.size (Lib.byteCells ((ss.take (k + 1)).flatMap stepBytes)) w6) := by
          show Lib.IsBuilderF _ _ _ _ _ _
          rw [HF.out]
          simpa using hbu6
        clear hbu6 hb6 hs5
        go_wp2
        go_roundw
        case rel => exact ⟨k + 1, by omega, by go_num, HBu6.out, HB6.out, HS6.out⟩
        case measure => simp [intOf]; omega
      · go_wp2_with fail
        rw [HW1.out]
        refine (write_k w.heap.size w.heap.size _ _ _ HBu1.out ?_ HS1.out).mono ?_
        · show _ + 2 ≤ _
          omega
        rintro e w3 ⟨rfl, hbu3, hb3, hk3⟩
        have hcb : w3.cell? ⟨wr.heap.size, 1, none⟩ = some (.slice x l c) := kept_cell hk3 HBlk.out (by omega) (by decide) rfl
        have HB3 := hid (HB1.out.trans hb3)
        have HS3 := hid (Nat.le_trans HS1.out hb3.size)
        have hs3 : w.heap.size < w3.heap.size := by have := hb3.size; have := HZ1.out; omega
        have HBu3 := hid hbu3
        clear hbu3 hb3 hk3
        go_wp2_with fail
        refine (HLine.out _ (HX0.out.below HB3.out) (HT.out.below HB3.out)).mono ?_
        rintro e w5 ⟨rfl, hb5⟩
        have HB5 := hid (HB3.out.trans (hb5.mono HS3.out))
        have HBu5 := hid (builderF_below HBu3.out hb5)
        have HS5 := hid (Nat.le_trans HS3.out hb5.size)
        have hs5 : w.heap.size < w5.heap.size := Nat.lt_of_lt_of_le hs3 hb5.size
        clear hb5 hcb
        go_wp2_with fail
        refine (write_k w.heap.size w.heap.size _ _ _ HBu5.out ?_ HS5.out).mono ?_
        · show _ + lb.toArray.size ≤ _
          rw [List.size_toArray, List.length_append]
          show _ + 2 + _ ≤ _
          omega
        rintro e w6 ⟨rfl, hbu6, hb6, -⟩
        have HB6 := hid (HB5.out.trans hb6)
        have HS6 := hid (Nat.lt_of_lt_of_le hs5 hb6.size)
        have HBu6 : Hid (Lib.IsBuilderF 66 5 w.heap.size w.heap.size (Lib.byteCells ((ss.take (k + 1)).flatMap stepBytes)) w6) := by
          show Lib.IsBuilderF _ _ _ _ _ _
          rw [HF.out]
          simpa using hbu6
        clear hbu6 hb6 hs5
        go_wp2
        go_roundw
        case rel => exact ⟨k + 1, by omega, by go_num, HBu6.out, HB6.out, HS6.out⟩
        case measure => simp [intOf]; omega
    · have e : k = len := by omega
      subst e
      have ht : ss.take k = ss := List.take_of_length_le (by rw [HL.out]; omega)
      rw [ht, ← HTb.out] at HBu
      clear hbel ht
      go_wp2_with fail
      refine (string_f w.heap.size w.heap.size tb _ HBu.out (Nat.le_of_lt hsz)).mono ?_
      rintro e w5 ⟨rfl, hb5⟩
      have HB5 := hid (HBk.out.trans hb5)
      clear hb5
      go_wp2
      go_ret
      exact ⟨rfl, HB5.out⟩

def ptCode (ss : List St) : Int := if 4096 < ss.length then 2 else if stepsB 40 ss then 0 else 1
def ptBytes (ss : List St) : List UInt8 := if 4096 < ss.length then [] else if stepsB 40 ss then proofBytes ss else []

/- What is thrown, or answered, by what answerOf calls. -/
theorem do_long (N : Nat) (a : Option Addr) (len cap : Nat) (ss : List St) (w : World) (hc : w.cell? ⟨N, 0, none⟩ = some (.slice a len cap)) (hr : StepRow w a len ss) (h : 4096 < len) :
    Calls Tryz.prog 14 #[.pointer (some ⟨N, 0, none⟩)] w fun e w' => e = .panicked [{ v := .iface 40 (.agg #[.int .i64 2, .int .i64 0]), recovered := false }] ∧ Below w.heap.size w w' := by
  have hm := hr.most
  unfold maxLen at hm
  clear hr
  have hle : decide ((len : Int) ≤ 4096) = false := decide_eq_false (by omega)
  go_enter Tryz.func14, Tryz.ntmps14
  go_wp2_with fail
  refine (must_not 2 _).mono ?_
  rintro e w1 ⟨rfl, rfl⟩
  exact ⟨rfl, rfl, Below.refl _ _⟩
theorem do_bad (N : Nat) (a : Option Addr) (len cap : Nat) (ss : List St) (w : World) (hc : w.cell? ⟨N, 0, none⟩ = some (.slice a len cap)) (hr : StepRow w a len ss) (h : len ≤ 4096) (hB : stepsB 40 ss = false) :
    Calls Tryz.prog 14 #[.pointer (some ⟨N, 0, none⟩)] w fun e w' => e = .panicked [{ v := .iface 40 (.agg #[.int .i64 1, .int .i64 0]), recovered := false }] ∧ Below w.heap.size w w' := by
  have HR := hid hr
  clear hr
  have hle : decide ((len : Int) ≤ 4096) = true := decide_eq_true (by omega)
  go_enter Tryz.func14, Tryz.ntmps14
  go_wp2_with fail
  refine (must_so 2 _).mono ?_
  rintro e w1 ⟨rfl, rfl⟩
  go_wp2_with fail
  refine (are_impl a len cap ss 40 _ (by omega) (by omega) HR.out).mono ?_
  rintro e w2 ⟨rfl, hb2⟩
  rw [hB]
  have HB2 := hid hb2
  clear hb2
  go_wp2_with fail
  refine (must_not 1 _).mono ?_
  rintro e w3 ⟨rfl, rfl⟩
  exact ⟨rfl, rfl, HB2.out⟩
theorem do_good (N : Nat) (a : Option Addr) (len cap : Nat) (ss : List St) (w : World) (hc : w.cell? ⟨N, 0, none⟩ = some (.slice a len cap)) (hr : StepRow w a len ss) (h : len ≤ 4096) (hB : stepsB 40 ss = true) (ht : TabW w) :
    Calls Tryz.prog 14 #[.pointer (some ⟨N, 0, none⟩)] w fun e w' => e = .returned (.string ⟨(proofBytes ss).toArray⟩) ∧ Below w.heap.size w w' := by
  have HR := hid hr
  have HT := hid ht
  clear hr ht
  have hle : decide ((len : Int) ≤ 4096) = true := decide_eq_true (by omega)
  have HTx := hid (fun w hr ht => text_of a len cap ss w hr hB ht)
  generalize proofBytes ss = tb at *
  go_enter Tryz.func14, Tryz.ntmps14
  go_wp2_with fail
  refine (must_so 2 _).mono ?_
  rintro e w1 ⟨rfl, rfl⟩
  go_wp2_with fail
  refine (are_impl a len cap ss 40 _ (by omega) (by omega) HR.out).mono ?_
  rintro e w2 ⟨rfl, hb2⟩
  rw [hB]
  have hc2 := keep hb2 hc
  have HB2 := hid hb2
  clear hb2 hc
  go_wp2_with fail
  refine (must_so 1 _).mono ?_
  rintro e w3 ⟨rfl, rfl⟩
  go_wp2_with fail
  refine (HTx.out _ (HR.out.below HB2.out) (HT.out.below HB2.out)).mono ?_
  rintro e w4 ⟨rfl, hb4⟩
  have HB4 := hid (HB2.out.trans (hb4.mono HB2.out.size))
  clear hb4
  go_wp2
  go_ret
  exact ⟨rfl, HB4.out⟩
end Go.Proofs.YtcgpjlpggbgdaaaGreatDoor.stepsImpl
