/- A line of a proof's text, of the program: what is answered or thrown; conditions: lengths that fit. -/
import Derived.Test.YtcgpjlpggbgdaaaGreatDoorCuts
import Derived.WalkSmall
namespace Go.Proofs.YtcgpjlpggbgdaaaGreatDoor.stepRead
open Go.RowKit Go.Deep base numbers words cuts
set_option linter.unusedVariables false

abbrev Wd := ByteArray × Int
/-- A row of words. -/
structure WordRow (w : World) (a : Option Addr) (len : Nat) (l : List Wd) : Prop where
  length : l.length = len
  most : len ≤ maxLen
  cell : ∀ i, i < len → ∃ b off, a = some ⟨b, off, none⟩ ∧ w.cell? ⟨b, off + i * 2, none⟩ = some (.string (l[i]?.getD (⟨#[]⟩, 0)).1) ∧ w.cell? ⟨b, off + i * 2 + 1, none⟩ = some (.int .i64 (l[i]?.getD (⟨#[]⟩, 0)).2)
theorem WordRow.below {W w1 : World} {a : Option Addr} {len : Nat} {l : List Wd} (h : WordRow W a len l) (hb : Below W.heap.size W w1) : WordRow w1 a len l :=
  ⟨h.length, h.most, fun i hi => by
    obtain ⟨b, off, e, h1, h2⟩ := h.cell i hi
    exact ⟨b, off, e, keep hb h1, keep hb h2⟩⟩
def litB (vars n : Int) : Bool := decide (n ≠ 0 ∧ -vars ≤ n ∧ n ≤ vars)
set_option maxHeartbeats 400000 in
theorem lit_impl (n vars : Int) (w : World) (h0 : 0 ≤ vars) (h1 : vars ≤ 40) :
    Calls Tryz.prog 45 #[.int .i64 n, .int .i64 vars] w fun e w' => e = .returned (.bool (litB vars n)) ∧ w' = w := by
  go_enter Tryz.func45, Tryz.ntmps45
  go_wp2
  all_goals
    go_ret
    refine ⟨ret_bool ?_, rfl⟩
    rw [Bool.eq_iff_iff]; simp [litB, *]; try omega

/-- The place where the line of a place ends. -/
def endOf (s : ByteArray) (place : Nat) : Int := if Lib.indexByte (s.data.toList.drop place) 10 < 0 then s.size else place + Lib.indexByte (s.data.toList.drop place) 10
theorem index_impl (s : ByteArray) (w : World) :
    Calls Tryz.prog 52 #[.string s, .int .u8 10] w fun e w' => e = .returned (.int .i64 (Lib.indexByte s.data.toList 10)) ∧ w' = w := by
  have h := Any.strings_IndexByte Tryz.lays137 s 10 w
  change Calls Tryz.prog 52 _ _ _ at h
  exact h
theorem index_lt (l : List UInt8) : Lib.indexByte l 10 ≤ l.length := by
  induction l with
  | nil => simp [Lib.indexByte]
  | cons b l ih =>
    unfold Lib.indexByte
    split
    · simp; omega
    · split
      · simp; omega
      · simp; omega
set_option maxHeartbeats 400000 in
theorem end_impl (s : ByteArray) (place : Nat) (w : World) (hs : s.size ≤ 1048576) (hp : place ≤ s.size) :
    Calls Tryz.prog 40 #[.string s, .int .i64 place] w fun e w' => e = .returned (.int .i64 (endOf s place)) ∧ w' = w := by
  have hx := Lib.extract_to_end s place
  have HX := hid (index_impl (s.extract place s.size) w)
  rw [hx] at HX
  have hlt := index_lt (s.data.toList.drop place)
  have hge := Lib.indexByte_ge (s.data.toList.drop place) 10
  have hll : (s.data.toList.drop place).length ≤ 1048576 := by simp; omega
  have HE : Hid (endOf s place = if Lib.indexByte (s.data.toList.drop place) 10 < 0 then (s.size : Int) else place + Lib.indexByte (s.data.toList.drop place) 10) := rfl
  generalize endOf s place = E at *
  generalize Lib.indexByte (s.data.toList.drop place) 10 = X at *
  clear hx
  by_cases hneg : X < 0
  · go_enter Tryz.func40, Tryz.ntmps40
    go_wp2_with fail
    refine HX.out.mono ?_
    rintro e w1 ⟨rfl, rfl⟩
    go_wp2
    go_ret
    exact ⟨ret_int (by rw [HE.out, if_pos hneg]), rfl⟩
  · go_enter Tryz.func40, Tryz.ntmps40
    go_wp2_with fail
    refine HX.out.mono ?_
    rintro e w1 ⟨rfl, rfl⟩
    go_wp2
    go_ret
    exact ⟨ret_int (by rw [HE.out, if_neg (by omega)]), rfl⟩

/-- What is thrown, or the clause, by the words that are left. -/
def stepOf (fin : Int) : List Wd → Bool → List Int → Except (Int × Int) (List Int)
  | [], ended, acc => if ended then .ok acc else .error (4, fin)
  | x :: r, ended, acc =>
    if ended || !isNum x.1 then .error (4, x.2)
    else if numS x.1 = 0 then stepOf fin r true acc
    else if litB 40 (numS x.1) = false then .error (5, x.2)
    else if acc.length = 12 then .error (11, x.2)
    else stepOf fin r ended (acc ++ [numS x.1])
/-- What a call that may throw has done. -/
def Ans (B : Nat) (d : Bool) (R : Except (Int × Int) (List Int)) (e : Ending) (w' : World) : Prop :=
  match R with
  | .error (c, p) => e = .panicked [{ v := .iface 40 (.agg #[.int .i64 c, .int .i64 p]), recovered := false }]
  | .ok zs => ∃ v, e = .returned (.agg #[.bool d, v]) ∧ w'.ownsRow B 3 1 v zs.length (zs.map (Value.int .i64))

theorem drop_at {l : List Wd} {k : Nat} (h : k < l.length) : l.drop k = (l[k]?.getD (⟨#[]⟩, 0)) :: l.drop (k + 1) := by
  rw [List.drop_eq_getElem_cons h, List.getElem?_eq_getElem h]; rfl
/-- Whether a line takes a clause away. -/
def isDel (l : List Wd) : Bool := (l[0]?.getD ((⟨#[]⟩, 0) : Wd)).1.toList == [100]
def restOf (l : List Wd) : List Wd := if isDel l then l.drop 1 else l
theorem results_one {fn : Func} {p : Tmp} {ty : TypeId} (h : fn.results = #[.cell p ty]) (tmps : Array Value) (P : Program) (w : World) :
    (results fn tmps).run P w = ((asAddr (tmps.getD p undef)).run P w).andThen fun a w₁ => (loadVar ty a).run P w₁ := by
  simp only [results, h]
  simp [Sem.run_bind, Result.andThen]
theorem set_blk {w : World} {b : Nat} {x y v : Value} {t : TypeId} (h : w.heap[b]? = some (.cells #[x, y] t (0, 0))) : (w.setCell ⟨b, 1, none⟩ v).heap[b]? = some (.cells #[x, v] t (0, 0)) := by
  simp [World.setCell, Array.getElem?_modify, h]
theorem own_blk {B n : Nat} {w w1 : World} {v : Value} {t : TypeId} {s : Nat} {xs : List Value} (h : w.ownsRow B t s v n xs) (hb : ∀ g, B ≤ g → w1.heap[g]? = w.heap[g]?) : w1.ownsRow B t s v n xs := by
  obtain ⟨h1, h2⟩ := h
  refine ⟨h1, ?_⟩
  rcases h2 with h2 | ⟨g, cap, cur, e, hg, hh, hn⟩
  · exact .inl h2
  · exact .inr ⟨g, cap, cur, e, hg, by rw [hb g hg]; exact hh, hn⟩
theorem own_base {B B' n : Nat} {w : World} {v : Value} {t : TypeId} {s : Nat} {xs : List Value} (h : w.ownsRow B t s v n xs) (hB : B' ≤ B) : w.ownsRow B' t s v n xs := by
  obtain ⟨h1, h2⟩ := h
  refine ⟨h1, ?_⟩
  rcases h2 with h2 | ⟨g, cap, cur, e, hg, hn⟩
  · exact .inl h2
  · exact .inr ⟨g, cap, cur, e, Nat.le_trans hB hg, hn⟩
theorem info_int : (Tryz.prog.info? 3).map (fun i => (i.zero, i.size, i.bytes)) = some (some (.int .i64 0), 1, 8) := by kernel_rfl
theorem word_tail {w : World} {b off m : Nat} {l : List Wd} (h : WordRow w (some ⟨b, off, none⟩) (m + 1) l) : WordRow w (some ⟨b, off + 2, none⟩) m (l.drop 1) := by
  refine ⟨by rw [List.length_drop, h.length]; rfl, Nat.le_trans (Nat.le_succ _) h.most, fun i hi => ?_⟩
  obtain ⟨b', off', e, h1, h2⟩ := h.cell (i + 1) (by omega)
  simp only [Option.some.injEq, Addr.mk.injEq, and_true] at e
  obtain ⟨rfl, rfl⟩ := e
  have e1 : off + (i + 1) * 2 = off + 2 + i * 2 := by omega
  rw [e1] at h1 h2
  have e2 : (l.drop 1)[i]? = l[i + 1]? := by rw [List.getElem?_drop, Nat.add_comm]
  exact ⟨b, off + 2, rfl, by rw [e2]; exact h1, by rw [e2]; exact h2⟩
theorem grow_facts {wr w1 w2 : World} {N n c : Nat} {p : Option Addr} {d : Bool} {v2 : Value} {xs ys : List Value} {t u : TypeId} (hw1 : Below (N + 2) wr w1) (hsz : N + 2 ≤ w1.heap.size) (hown : wr.ownsRow (N + 2) t 1 (.slice p n c) n ys)
    (hg2 : w1.grownBy w2 (Value.slice p n c).ownBlock) (hown2 : w2.ownsRow (N + 2) t 1 v2 (n + 1) xs) (hb1 : wr.heap[N + 1]? = some (.cells #[.bool d, .slice p n c] u (0, 0))) :
    ∃ g2 c2, v2 = .slice (some ⟨g2, 0, none⟩) (n + 1) c2 ∧ Below (N + 2) wr w2 ∧ w2.cell? ⟨N + 1, 1, none⟩ = some (.slice p n c) ∧ w2.frozen? ⟨N + 1, 1, none⟩ = false := by
  have hb2 : Below (N + 2) wr w2 := hw1.grown hg2 hsz (fun j hj => (hown.lt j hj).1)
  have hk1 : w2.heap[N + 1]? = some (.cells #[.bool d, .slice p n c] u (0, 0)) := by rw [hb2.block _ (by omega)]; exact hb1
  obtain ⟨g2, c2, rfl⟩ : ∃ g2 c2, v2 = .slice (some ⟨g2, 0, none⟩) (n + 1) c2 := by
    rcases hown2.2 with ⟨_, h0⟩ | ⟨g, cp, cur, hv, _⟩
    · omega
    · exact ⟨g, cp, hv⟩
  exact ⟨g2, c2, rfl, hb2, by rw [Lib.cell_of_heap hk1]; rfl, Lib.frozen_of_heap hk1 1⟩
set_option maxHeartbeats 3200000 in
set_option maxRecDepth 8000 in
theorem read_impl (a : Option Addr) (len cap : Nat) (l : List Wd) (fin : Int) (w : World) (hr : WordRow w a len l) (hlen : 0 < len) (hcap : len ≤ cap) (hcm : cap ≤ 9223372036854775807)
    (hts : ∀ x ∈ l, x.1.size ≤ 1048576) :
    Calls Tryz.prog 39 #[.slice a len cap, .int .i64 fin] w fun e w' => Below w.heap.size w w' ∧
      Ans w.heap.size (isDel l) (stepOf fin (restOf l) false []) e w' := by
  obtain ⟨i0, hi, hzz⟩ := Option.map_eq_some_iff.1 info_int
  simp only [Prod.mk.injEq] at hzz
  obtain ⟨hz0, hz1, hz2⟩ := hzz
  have HI := hid hi
  have HZ0 := hid hz0
  have HZ1 := hid hz1
  have HZ2 := hid hz2
  clear hi hz0 hz1 hz2
  have HR := hid hr
  obtain ⟨b, off, rfl, hc0, hc1⟩ := hr.cell 0 hlen
  simp only [Nat.zero_mul, Nat.add_zero] at hc0
  have hdel : isDel l = ((l[0]?.getD ((⟨#[]⟩, 0) : Wd)).1.toList == [100]) := rfl
  generalize (l[0]?.getD ((⟨#[]⟩, 0) : Wd)).1 = t0 at *
  have hmost := hr.most
  unfold maxLen at hmost
  have hbw : b < w.heap.size := World.block_lt_of_cell? _ _ hc0
  clear hr hc1
  unfold restOf
  rw [hdel]
  clear hdel
  cases hd : (t0.toList == [100])
  · simp only [Bool.false_eq_true, if_false]
    obtain ⟨R, hRR⟩ : ∃ R, stepOf fin l false [] = R := ⟨_, rfl⟩
    have HRR := hid hRR
    rw [hRR]
    clear hRR
    go_enter Tryz.func39, Tryz.ntmps39
    go_wp2
    have HLn := hid HR.out.length
    go_loopw [21, 6] (fun i en wr => ∃ (k : Nat) (ended : Bool) (acc : List Int) (p : Option Addr) (c : Nat), k ≤ len ∧ i = .int .i64 k ∧ en = .bool ended ∧ acc.length ≤ 12 ∧ wr.heap[w.heap.size]? = some (.cells #[.bool false, .slice none 0 0] 53 (0, 0)) ∧ wr.heap[w.heap.size + 1]? = some (.cells #[.bool false, .slice p acc.length c] 53 (0, 0)) ∧
        wr.ownsRow (w.heap.size + 2) 3 1 (.slice p acc.length c) acc.length (acc.map (Value.int .i64)) ∧ Below w.heap.size w wr ∧ w.heap.size + 2 ≤ wr.heap.size ∧ R = stepOf fin (l.drop k) ended acc) (fun i _ _ => len - (intOf i).toNat)
    case atStart => exact ⟨0, false, [], none, 0, Nat.zero_le _, rfl, rfl, Nat.zero_le _, by rw [Lib.alloc_old _ _ _ (by simp)]; exact heap_alloc_new w _, by have h := heap_alloc_new (w.alloc (Obj.cells #[.bool false, .slice none 0 0] 53)) (Obj.cells #[.bool false, .slice none 0 0] 53); simpa using h, World.ownsRow_nil _ _ _ _, (by repeat (first | exact Below.refl _ _ | assumption | refine Below.drew ?_ | refine Below.alloc ?_ (by first | exact Nat.le_refl _ | omega | (simp; done) | (simp; omega)) _ | refine Below.setCell ?_ (by first | exact Nat.le_refl _ | omega | (simp; done) | (simp; omega)) _)), by simp, HRR.out.symm⟩
    case round =>
      obtain ⟨k, ended, acc, p, c, hk, rfl, rfl, hacc, hb0, hb1, hown, hbel, hsz, hst⟩ := hrel
      have HB0 := hid hb0
      have HB1 := hid hb1
      have HO := hid hown
      have HB := hid hbel
      have c10 : wr.cell? ⟨w.heap.size + 1, 0, none⟩ = some (.bool false) := by rw [Lib.cell_of_heap hb1]; rfl
      have c11 : wr.cell? ⟨w.heap.size + 1, 1, none⟩ = some (.slice p acc.length c) := by rw [Lib.cell_of_heap hb1]; rfl
      have f11 : wr.frozen? ⟨w.heap.size + 1, 1, none⟩ = false := Lib.frozen_of_heap hb1 1
      have c00 : wr.cell? ⟨w.heap.size, 0, none⟩ = some (.bool false) := by rw [Lib.cell_of_heap hb0]; rfl
      have c01 : wr.cell? ⟨w.heap.size, 1, none⟩ = some (.slice none 0 0) := by rw [Lib.cell_of_heap hb0]; rfl
      have f00 : wr.frozen? ⟨w.heap.size, 0, none⟩ = false := Lib.frozen_of_heap hb0 0
      have f01 : wr.frozen? ⟨w.heap.size, 1, none⟩ = false := Lib.frozen_of_heap hb0 1
      have HST := hid hst
      have hlt1 : w.heap.size + 1 < wr.heap.size := by omega
      have hlt0 : w.heap.size < wr.heap.size := by omega
      clear hst hown hb0 hb1
      by_cases hlt : k < len
      · obtain ⟨b', off', e', hw0, hw1⟩ := HR.out.cell k hlt
        simp only [Option.some.injEq, Addr.mk.injEq, and_true] at e'
        obtain ⟨rfl, rfl⟩ := e'
        replace hw0 := keep hbel hw0
        replace hw1 := keep hbel hw1
        have hbw' := World.block_lt_of_cell? _ _ hw0
        have hkl : k < l.length := by rw [HLn.out]; exact hlt
        have HD := hid (drop_at hkl)
        have hmem : l[k]?.getD (⟨#[]⟩, 0) ∈ l := by rw [List.getElem?_eq_getElem hkl]; exact List.getElem_mem _
        clear hmem hbel
        generalize l[k]?.getD (⟨#[]⟩, 0) = x at *
        obtain ⟨t, q⟩ := x
        simp only at hw0 hw1
        have HNum := hid (fun w => number_impl t w)
        have HS2 : Hid (R = if ended || !isNum t then .error (4, q) else if numS t = 0 then stepOf fin (l.drop (k + 1)) true acc else if litB 40 (numS t) = false then .error (5, q) else if acc.length = 12 then .error (11, q) else stepOf fin (l.drop (k + 1)) ended (acc ++ [numS t])) := by
          show _ = _
          rw [HST.out, HD.out]; rfl
        clear HST HD
        generalize numS t = n at *
        generalize isNum t = I at *
        have HBA : Hid (Below w.heap.size w (wr.alloc (.cells #[.string t, .int .i64 q] 77))) := HB.out.alloc HB.out.size _
        cases ended
        · cases I
          · have hR : R = .error (4, q) := by rw [HS2.out]; rfl
            subst hR
            clear HS2
            go_wp2_with fail
            refine (HNum.out _).mono ?_
            rintro e w1 ⟨rfl, rfl⟩
            go_wp2
            exact ⟨rfl, HBA.out, rfl⟩
          · by_cases hz : n = 0
            · subst hz
              have HR2 : Hid (R = stepOf fin (l.drop (k + 1)) true acc) := by show _ = _; rw [HS2.out]; rfl
              clear HS2
              go_wp2_with fail
              refine (HNum.out _).mono ?_
              rintro e w1 ⟨rfl, rfl⟩
              go_wp2
              exact ⟨⟨k + 1, true, acc, p, c, by omega, by go_num, rfl, hacc, by rw [Lib.alloc_old _ _ _ (by omega)]; exact HB0.out, by rw [Lib.alloc_old _ _ _ (by omega)]; exact HB1.out, own_pass HO.out ((Below.refl _ _).alloc (Nat.le_refl _) _), HBA.out, by simp; omega, HR2.out⟩, by simp [intOf]; omega⟩
            · have hz' : (n == 0) = false := beq_eq_false_iff_ne.2 hz
              cases hL : litB 40 n
              · have hR : R = .error (5, q) := by rw [HS2.out, if_neg (by simp), if_neg hz, if_pos hL]
                subst hR
                clear HS2
                go_wp2_with fail
                refine (HNum.out _).mono ?_
                rintro e w1 ⟨rfl, rfl⟩
                go_wp2_with fail
                refine (lit_impl n 40 _ (by omega) (by omega)).mono ?_
                rintro e w1 ⟨rfl, rfl⟩
                rw [hL]
                go_wp2
                exact ⟨rfl, HBA.out, rfl⟩
              · by_cases h12 : acc.length = 12
                · have hR : R = .error (11, q) := by rw [HS2.out, if_neg (by simp), if_neg hz, if_neg (by rw [hL]; simp), if_pos h12]
                  have hq : ((acc.length : Int) == 12) = true := by rw [h12]; rfl
                  subst hR
                  clear HS2 h12
                  go_wp2_with fail
                  refine (HNum.out _).mono ?_
                  rintro e w1 ⟨rfl, rfl⟩
                  go_wp2_with fail
                  refine (lit_impl n 40 _ (by omega) (by omega)).mono ?_
                  rintro e w1 ⟨rfl, rfl⟩
                  rw [hL]
                  go_wp2
                  exact ⟨rfl, HBA.out, rfl⟩
                · have HR2 : Hid (R = stepOf fin (l.drop (k + 1)) false (acc ++ [n])) := by show _ = _; rw [HS2.out, if_neg (by simp), if_neg hz, if_neg (by rw [hL]; simp), if_neg h12]
                  have hq : ((acc.length : Int) == 12) = false := beq_eq_false_iff_ne.2 (by omega)
                  clear HS2
                  go_wp2_with fail
                  refine (HNum.out _).mono ?_
                  rintro e w1 ⟨rfl, rfl⟩
                  go_wp2_with fail
                  refine (lit_impl n 40 _ (by omega) (by omega)).mono ?_
                  rintro e w1 ⟨rfl, rfl⟩
                  rw [hL]
                  go_wp2_with (at_builtin; (refine wpList_append_own _ rfl _ _ 51 rfl (w.heap.size + 2) 3 i0 (.int .i64 0) 1 8 Tryz.underlying51 HI.out HZ0.out HZ1.out HZ2.out rfl (by decide) _ _ _ rfl (own_pass HO.out (by repeat (first | exact Below.refl _ _ | assumption | refine Below.drew ?_ | refine Below.alloc ?_ (by first | exact Nat.le_refl _ | omega | (simp; done) | (simp; omega)) _ | refine Below.setCell ?_ (by first | exact Nat.le_refl _ | omega | (simp; done) | (simp; omega)) _))) ⟨wr.heap.size + 1, 0, none⟩ 1 1 [.int .i64 n] rfl rfl (at_one (by simp [go_sem])) (by simp [Value.oneCell']) (by unfold maxLen; omega) (by omega) (by simp; omega) ?_); intro v2 w2 hown2 hg2 hnil2; obtain ⟨g2, c2, rfl, hb2, d11, e11⟩ := grow_facts (show Below (w.heap.size + 2) wr _ from Below.alloc (Below.alloc (Below.refl _ _) hsz _) (by simp; omega) _) (by simp; omega) HO.out hg2 hown2 HB1.out)
                  have hk0 : w2.heap[w.heap.size]? = some (.cells #[.bool false, .slice none 0 0] 53 (0, 0)) := by rw [hb2.block _ (by omega)]; exact HB0.out
                  have hk1 : w2.heap[w.heap.size + 1]? = some (.cells #[.bool false, .slice p acc.length c] 53 (0, 0)) := by rw [hb2.block _ (by omega)]; exact HB1.out
                  have HO2 := hid hown2
                  have HB2 := hid (HB.out.trans (hb2.mono (by omega)))
                  have HK0 := hid hk0
                  have HK1 := hid hk1
                  have HS2 := hid (Nat.le_trans hsz hb2.size)
                  clear hown2 hg2 hnil2 hb2 hk0 hk1
                  go_wp2
                  exact ⟨⟨k + 1, false, acc ++ [n], some ⟨g2, 0, none⟩, c2, by omega, by go_num, rfl, by simp; omega, by rw [Below.heap_setCell _ _ _ _ (by simp)]; exact HK0.out, by rw [List.length_append]; exact set_blk HK1.out, by rw [List.map_append, List.length_append]; exact own_blk HO2.out (fun g hg => Below.heap_setCell _ _ _ _ (by simp; omega)), HB2.out.setCell (by simp) _, by simpa [World.setCell] using HS2.out, HR2.out⟩, by simp [intOf]; omega⟩
        · have hR : R = .error (4, q) := by rw [HS2.out]; rfl
          subst hR
          clear HS2
          go_wp2_with fail
          refine (HNum.out _).mono ?_
          rintro e w1 ⟨rfl, rfl⟩
          go_wp2
          exact ⟨rfl, HBA.out, rfl⟩
      · have e : k = len := by omega
        have hdl : decide ((k : Int) < (len : Int)) = false := decide_eq_false (by omega)
        have HE : Hid (R = if ended then .ok acc else .error (4, fin)) := by
          show _ = _
          rw [HST.out, List.drop_of_length_le (by rw [HLn.out]; omega)]; rfl
        clear HST e
        cases ended
        · have hR : R = .error (4, fin) := by rw [HE.out]; rfl
          subst hR
          clear HE
          go_wp2
          exact ⟨rfl, HB.out, rfl⟩
        · have hR : R = .ok acc := by rw [HE.out]; rfl
          subst hR
          clear HE
          go_wp2
          refine bodyPost_ret (v := .agg #[.bool false, .slice p acc.length c]) (by rw [results_one rfl]; go_simp) rfl ⟨?_, ?_⟩
          · exact (HB.out.setCell (by simp) _).setCell (by simp) _
          · exact ⟨_, rfl, own_base (own_blk HO.out (fun g hg => by rw [Below.heap_setCell _ _ _ _ (by simp; omega), Below.heap_setCell _ _ _ _ (by simp; omega)])) (by omega)⟩
  · simp only [if_true]
    obtain ⟨m, rfl⟩ : ∃ m, len = m + 1 := ⟨len - 1, by omega⟩
    obtain ⟨cm, rfl⟩ : ∃ cm, cap = cm + 1 := ⟨cap - 1, by omega⟩
    obtain ⟨ll, hll⟩ : ∃ ll, l.drop 1 = ll := ⟨_, rfl⟩
    have HRm := hid (word_tail HR.out)
    rw [hll] at HRm ⊢
    clear hll
    obtain ⟨R, hRR⟩ : ∃ R, stepOf fin ll false [] = R := ⟨_, rfl⟩
    have HRR := hid hRR
    rw [hRR]
    have hRz : cm = 0 → WordRow w (some ⟨b, off, none⟩) m ll := fun h => ⟨HRm.out.length, HRm.out.most, fun i hi => by omega⟩
    clear hRR HR hts
    rcases Nat.eq_zero_or_pos cm with rfl | hcm0
    · have HRx := hid (hRz rfl)
      clear hRz HRm
      go_enter Tryz.func39, Tryz.ntmps39
      go_wp2
      have HLn := hid HRx.out.length
      go_loopw [21, 6] (fun i en wr => ∃ (k : Nat) (ended : Bool) (acc : List Int) (p : Option Addr) (c : Nat), k ≤ m ∧ i = .int .i64 k ∧ en = .bool ended ∧ acc.length ≤ 12 ∧ wr.heap[w.heap.size]? = some (.cells #[.bool false, .slice none 0 0] 53 (0, 0)) ∧ wr.heap[w.heap.size + 1]? = some (.cells #[.bool true, .slice p acc.length c] 53 (0, 0)) ∧
          wr.ownsRow (w.heap.size + 2) 3 1 (.slice p acc.length c) acc.length (acc.map (Value.int .i64)) ∧ Below w.heap.size w wr ∧ w.heap.size + 2 ≤ wr.heap.size ∧ R = stepOf fin (ll.drop k) ended acc) (fun i _ _ => m - (intOf i).toNat)
      case atStart => exact ⟨0, false, [], none, 0, Nat.zero_le _, rfl, rfl, Nat.zero_le _, by rw [Lib.alloc_old _ _ _ (by simp)]; exact heap_alloc_new w _, by have h := heap_alloc_new (w.alloc (Obj.cells #[.bool false, .slice none 0 0] 53)) (Obj.cells #[.bool true, .slice none 0 0] 53); simpa using h, World.ownsRow_nil _ _ _ _, (by repeat (first | exact Below.refl _ _ | assumption | refine Below.drew ?_ | refine Below.alloc ?_ (by first | exact Nat.le_refl _ | omega | (simp; done) | (simp; omega)) _ | refine Below.setCell ?_ (by first | exact Nat.le_refl _ | omega | (simp; done) | (simp; omega)) _)), by simp, HRR.out.symm⟩
      case round =>
        obtain ⟨k, ended, acc, p, c, hk, rfl, rfl, hacc, hb0, hb1, hown, hbel, hsz, hst⟩ := hrel
        have HB0 := hid hb0
        have HB1 := hid hb1
        have HO := hid hown
        have HB := hid hbel
        have c10 : wr.cell? ⟨w.heap.size + 1, 0, none⟩ = some (.bool true) := by rw [Lib.cell_of_heap hb1]; rfl
        have c11 : wr.cell? ⟨w.heap.size + 1, 1, none⟩ = some (.slice p acc.length c) := by rw [Lib.cell_of_heap hb1]; rfl
        have f11 : wr.frozen? ⟨w.heap.size + 1, 1, none⟩ = false := Lib.frozen_of_heap hb1 1
        have c00 : wr.cell? ⟨w.heap.size, 0, none⟩ = some (.bool false) := by rw [Lib.cell_of_heap hb0]; rfl
        have c01 : wr.cell? ⟨w.heap.size, 1, none⟩ = some (.slice none 0 0) := by rw [Lib.cell_of_heap hb0]; rfl
        have f00 : wr.frozen? ⟨w.heap.size, 0, none⟩ = false := Lib.frozen_of_heap hb0 0
        have f01 : wr.frozen? ⟨w.heap.size, 1, none⟩ = false := Lib.frozen_of_heap hb0 1
        have HST := hid hst
        have hlt1 : w.heap.size + 1 < wr.heap.size := by omega
        have hlt0 : w.heap.size < wr.heap.size := by omega
        clear hst hown hb0 hb1
        by_cases hlt : k < m
        · exact absurd hlt (by omega)
        · have e : k = m := by omega
          have hdl : decide ((k : Int) < (m : Int)) = false := decide_eq_false (by omega)
          have HE : Hid (R = if ended then .ok acc else .error (4, fin)) := by
            show _ = _
            rw [HST.out, List.drop_of_length_le (by rw [HLn.out]; omega)]; rfl
          clear HST e
          cases ended
          · have hR : R = .error (4, fin) := by rw [HE.out]; rfl
            subst hR
            clear HE
            go_wp2
            exact ⟨rfl, HB.out, rfl⟩
          · have hR : R = .ok acc := by rw [HE.out]; rfl
            subst hR
            clear HE
            go_wp2
            refine bodyPost_ret (v := .agg #[.bool true, .slice p acc.length c]) (by rw [results_one rfl]; go_simp) rfl ⟨?_, ?_⟩
            · exact (HB.out.setCell (by simp) _).setCell (by simp) _
            · exact ⟨_, rfl, own_base (own_blk HO.out (fun g hg => by rw [Below.heap_setCell _ _ _ _ (by simp; omega), Below.heap_setCell _ _ _ _ (by simp; omega)])) (by omega)⟩
    · have HRx := HRm
      clear hRz HRm
      have hcz : ¬ cm = 0 := by omega
      have hcz' : ((cm : Int) == 0) = false := beq_eq_false_iff_ne.2 (by omega)
      have hci : ¬ ((cm : Int) = 0) := by omega
      go_enter Tryz.func39, Tryz.ntmps39
      go_wp2
      have HLn := hid HRx.out.length
      go_loopw [21, 6] (fun i en wr => ∃ (k : Nat) (ended : Bool) (acc : List Int) (p : Option Addr) (c : Nat), k ≤ m ∧ i = .int .i64 k ∧ en = .bool ended ∧ acc.length ≤ 12 ∧ wr.heap[w.heap.size]? = some (.cells #[.bool false, .slice none 0 0] 53 (0, 0)) ∧ wr.heap[w.heap.size + 1]? = some (.cells #[.bool true, .slice p acc.length c] 53 (0, 0)) ∧
          wr.ownsRow (w.heap.size + 2) 3 1 (.slice p acc.length c) acc.length (acc.map (Value.int .i64)) ∧ Below w.heap.size w wr ∧ w.heap.size + 2 ≤ wr.heap.size ∧ R = stepOf fin (ll.drop k) ended acc) (fun i _ _ => m - (intOf i).toNat)
      case atStart => exact ⟨0, false, [], none, 0, Nat.zero_le _, rfl, rfl, Nat.zero_le _, by rw [Lib.alloc_old _ _ _ (by simp)]; exact heap_alloc_new w _, by have h := heap_alloc_new (w.alloc (Obj.cells #[.bool false, .slice none 0 0] 53)) (Obj.cells #[.bool true, .slice none 0 0] 53); simpa using h, World.ownsRow_nil _ _ _ _, (by repeat (first | exact Below.refl _ _ | assumption | refine Below.drew ?_ | refine Below.alloc ?_ (by first | exact Nat.le_refl _ | omega | (simp; done) | (simp; omega)) _ | refine Below.setCell ?_ (by first | exact Nat.le_refl _ | omega | (simp; done) | (simp; omega)) _)), by simp, HRR.out.symm⟩
      case round =>
        obtain ⟨k, ended, acc, p, c, hk, rfl, rfl, hacc, hb0, hb1, hown, hbel, hsz, hst⟩ := hrel
        have HB0 := hid hb0
        have HB1 := hid hb1
        have HO := hid hown
        have HB := hid hbel
        have c10 : wr.cell? ⟨w.heap.size + 1, 0, none⟩ = some (.bool true) := by rw [Lib.cell_of_heap hb1]; rfl
        have c11 : wr.cell? ⟨w.heap.size + 1, 1, none⟩ = some (.slice p acc.length c) := by rw [Lib.cell_of_heap hb1]; rfl
        have f11 : wr.frozen? ⟨w.heap.size + 1, 1, none⟩ = false := Lib.frozen_of_heap hb1 1
        have c00 : wr.cell? ⟨w.heap.size, 0, none⟩ = some (.bool false) := by rw [Lib.cell_of_heap hb0]; rfl
        have c01 : wr.cell? ⟨w.heap.size, 1, none⟩ = some (.slice none 0 0) := by rw [Lib.cell_of_heap hb0]; rfl
        have f00 : wr.frozen? ⟨w.heap.size, 0, none⟩ = false := Lib.frozen_of_heap hb0 0
        have f01 : wr.frozen? ⟨w.heap.size, 1, none⟩ = false := Lib.frozen_of_heap hb0 1
        have HST := hid hst
        have hlt1 : w.heap.size + 1 < wr.heap.size := by omega
        have hlt0 : w.heap.size < wr.heap.size := by omega
        clear hst hown hb0 hb1
        by_cases hlt : k < m
        · obtain ⟨b', off', e', hw0, hw1⟩ := HRx.out.cell k hlt
          simp only [Option.some.injEq, Addr.mk.injEq, and_true] at e'
          obtain ⟨rfl, rfl⟩ := e'
          replace hw0 := keep hbel hw0
          replace hw1 := keep hbel hw1
          have hbw' := World.block_lt_of_cell? _ _ hw0
          have hkl : k < ll.length := by rw [HLn.out]; exact hlt
          have HD := hid (drop_at hkl)
          have hmem : ll[k]?.getD (⟨#[]⟩, 0) ∈ ll := by rw [List.getElem?_eq_getElem hkl]; exact List.getElem_mem _
          clear hmem hbel
          generalize ll[k]?.getD (⟨#[]⟩, 0) = x at *
          obtain ⟨t, q⟩ := x
          simp only at hw0 hw1
          have HNum := hid (fun w => number_impl t w)
          have HS2 : Hid (R = if ended || !isNum t then .error (4, q) else if numS t = 0 then stepOf fin (ll.drop (k + 1)) true acc else if litB 40 (numS t) = false then .error (5, q) else if acc.length = 12 then .error (11, q) else stepOf fin (ll.drop (k + 1)) ended (acc ++ [numS t])) := by
            show _ = _
            rw [HST.out, HD.out]; rfl
          clear HST HD
          generalize numS t = n at *
          generalize isNum t = I at *
          have HBA : Hid (Below w.heap.size w (wr.alloc (.cells #[.string t, .int .i64 q] 77))) := HB.out.alloc HB.out.size _
          cases ended
          · cases I
            · have hR : R = .error (4, q) := by rw [HS2.out]; rfl
              subst hR
              clear HS2
              go_wp2_with fail
              refine (HNum.out _).mono ?_
              rintro e w1 ⟨rfl, rfl⟩
              go_wp2
              exact ⟨rfl, HBA.out, rfl⟩
            · by_cases hz : n = 0
              · subst hz
                have HR2 : Hid (R = stepOf fin (ll.drop (k + 1)) true acc) := by show _ = _; rw [HS2.out]; rfl
                clear HS2
                go_wp2_with fail
                refine (HNum.out _).mono ?_
                rintro e w1 ⟨rfl, rfl⟩
                go_wp2
                exact ⟨⟨k + 1, true, acc, p, c, by omega, by go_num, rfl, hacc, by rw [Lib.alloc_old _ _ _ (by omega)]; exact HB0.out, by rw [Lib.alloc_old _ _ _ (by omega)]; exact HB1.out, own_pass HO.out ((Below.refl _ _).alloc (Nat.le_refl _) _), HBA.out, by simp; omega, HR2.out⟩, by simp [intOf]; omega⟩
              · have hz' : (n == 0) = false := beq_eq_false_iff_ne.2 hz
                cases hL : litB 40 n
                · have hR : R = .error (5, q) := by rw [HS2.out, if_neg (by simp), if_neg hz, if_pos hL]
                  subst hR
                  clear HS2
                  go_wp2_with fail
                  refine (HNum.out _).mono ?_
                  rintro e w1 ⟨rfl, rfl⟩
                  go_wp2_with fail
                  refine (lit_impl n 40 _ (by omega) (by omega)).mono ?_
                  rintro e w1 ⟨rfl, rfl⟩
                  rw [hL]
                  go_wp2
                  exact ⟨rfl, HBA.out, rfl⟩
                · by_cases h12 : acc.length = 12
                  · have hR : R = .error (11, q) := by rw [HS2.out, if_neg (by simp), if_neg hz, if_neg (by rw [hL]; simp), if_pos h12]
                    have hq : ((acc.length : Int) == 12) = true := by rw [h12]; rfl
                    subst hR
                    clear HS2 h12
                    go_wp2_with fail
                    refine (HNum.out _).mono ?_
                    rintro e w1 ⟨rfl, rfl⟩
                    go_wp2_with fail
                    refine (lit_impl n 40 _ (by omega) (by omega)).mono ?_
                    rintro e w1 ⟨rfl, rfl⟩
                    rw [hL]
                    go_wp2
                    exact ⟨rfl, HBA.out, rfl⟩
                  · have HR2 : Hid (R = stepOf fin (ll.drop (k + 1)) false (acc ++ [n])) := by show _ = _; rw [HS2.out, if_neg (by simp), if_neg hz, if_neg (by rw [hL]; simp), if_neg h12]
                    have hq : ((acc.length : Int) == 12) = false := beq_eq_false_iff_ne.2 (by omega)
                    clear HS2
                    go_wp2_with fail
                    refine (HNum.out _).mono ?_
                    rintro e w1 ⟨rfl, rfl⟩
                    go_wp2_with fail
                    refine (lit_impl n 40 _ (by omega) (by omega)).mono ?_
                    rintro e w1 ⟨rfl, rfl⟩
                    rw [hL]
                    go_wp2_with (at_builtin; (refine wpList_append_own _ rfl _ _ 51 rfl (w.heap.size + 2) 3 i0 (.int .i64 0) 1 8 Tryz.underlying51 HI.out HZ0.out HZ1.out HZ2.out rfl (by decide) _ _ _ rfl (own_pass HO.out (by repeat (first | exact Below.refl _ _ | assumption | refine Below.drew ?_ | refine Below.alloc ?_ (by first | exact Nat.le_refl _ | omega | (simp; done) | (simp; omega)) _ | refine Below.setCell ?_ (by first | exact Nat.le_refl _ | omega | (simp; done) | (simp; omega)) _))) ⟨wr.heap.size + 1, 0, none⟩ 1 1 [.int .i64 n] rfl rfl (at_one (by simp [go_sem])) (by simp [Value.oneCell']) (by unfold maxLen; omega) (by omega) (by simp; omega) ?_); intro v2 w2 hown2 hg2 hnil2; obtain ⟨g2, c2, rfl, hb2, d11, e11⟩ := grow_facts (show Below (w.heap.size + 2) wr _ from Below.alloc (Below.alloc (Below.refl _ _) hsz _) (by simp; omega) _) (by simp; omega) HO.out hg2 hown2 HB1.out)
                    have hk0 : w2.heap[w.heap.size]? = some (.cells #[.bool false, .slice none 0 0] 53 (0, 0)) := by rw [hb2.block _ (by omega)]; exact HB0.out
                    have hk1 : w2.heap[w.heap.size + 1]? = some (.cells #[.bool true, .slice p acc.length c] 53 (0, 0)) := by rw [hb2.block _ (by omega)]; exact HB1.out
                    have HO2 := hid hown2
                    have HB2 := hid (HB.out.trans (hb2.mono (by omega)))
                    have HK0 := hid hk0
                    have HK1 := hid hk1
                    have HS2 := hid (Nat.le_trans hsz hb2.size)
                    clear hown2 hg2 hnil2 hb2 hk0 hk1
                    go_wp2
                    exact ⟨⟨k + 1, false, acc ++ [n], some ⟨g2, 0, none⟩, c2, by omega, by go_num, rfl, by simp; omega, by rw [Below.heap_setCell _ _ _ _ (by simp)]; exact HK0.out, by rw [List.length_append]; exact set_blk HK1.out, by rw [List.map_append, List.length_append]; exact own_blk HO2.out (fun g hg => Below.heap_setCell _ _ _ _ (by simp; omega)), HB2.out.setCell (by simp) _, by simpa [World.setCell] using HS2.out, HR2.out⟩, by simp [intOf]; omega⟩
          · have hR : R = .error (4, q) := by rw [HS2.out]; rfl
            subst hR
            clear HS2
            go_wp2_with fail
            refine (HNum.out _).mono ?_
            rintro e w1 ⟨rfl, rfl⟩
            go_wp2
            exact ⟨rfl, HBA.out, rfl⟩
        · have e : k = m := by omega
          have hdl : decide ((k : Int) < (m : Int)) = false := decide_eq_false (by omega)
          have HE : Hid (R = if ended then .ok acc else .error (4, fin)) := by
            show _ = _
            rw [HST.out, List.drop_of_length_le (by rw [HLn.out]; omega)]; rfl
          clear HST e
          cases ended
          · have hR : R = .error (4, fin) := by rw [HE.out]; rfl
            subst hR
            clear HE
            go_wp2
            exact ⟨rfl, HB.out, rfl⟩
          · have hR : R = .ok acc := by rw [HE.out]; rfl
            subst hR
            clear HE
            go_wp2
            refine bodyPost_ret (v := .agg #[.bool true, .slice p acc.length c]) (by rw [results_one rfl]; go_simp) rfl ⟨?_, ?_⟩
            · exact (HB.out.setCell (by simp) _).setCell (by simp) _
            · exact ⟨_, rfl, own_base (own_blk HO.out (fun g hg => by rw [Below.heap_setCell _ _ _ _ (by simp; omega), Below.heap_setCell _ _ _ _ (by simp; omega)])) (by omega)⟩
end Go.Proofs.YtcgpjlpggbgdaaaGreatDoor.stepRead
