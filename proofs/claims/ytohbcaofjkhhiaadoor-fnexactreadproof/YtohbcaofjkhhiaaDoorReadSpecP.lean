/- A proof's text, of the specification (ReadProof); conditions: lengths that fit. -/
import Derived.Test.YtohbcaofjkhhiaaDoorLineSpec
namespace Go.Proofs.YtohbcaofjkhhiaaDoor.readSpecP
open Go.RowKit Go.Deep base numbers words cuts stepRead readSem lineSpec
set_option linter.unusedVariables false

/-- A step in memory: whether it takes away, the value of its clause, and that clause. -/
abbrev Pt := Bool × Value × List Int
def pcs (p : Pt) : List Value := [.bool p.1, p.2.1]
/-- A row of steps that a call owns, each clause with it. -/
structure OwnSteps (B : Nat) (w : World) (v : Value) (ps : List Pt) : Prop where
  outer : w.ownsRow B 36 2 v ps.length (ps.flatMap pcs)
  inner : ∀ p ∈ ps, w.ownsRow B 3 1 p.2.1 p.2.2.length (p.2.2.map (Value.int .i64))
/-- No two clauses lie in one block. -/
def Lone (ps : List Pt) : Prop := ps.Pairwise fun p q => ∀ g, p.2.1.ownBlock = some g → q.2.1.ownBlock = some g → False
def strip (p : Pt) : Bool × List Int := (p.1, p.2.2)
theorem OwnSteps.below {B : Nat} {w w1 : World} {v : Value} {ps : List Pt} (h : OwnSteps B w v ps) (hb : Below w.heap.size w w1) : OwnSteps B w1 v ps := ⟨own_pass h.outer hb, fun p hp => own_pass (h.inner p hp) hb⟩
theorem own_base {B B' n : Nat} {w : World} {v : Value} {t : TypeId} {s : Nat} {xs : List Value} (h : w.ownsRow B t s v n xs) (hB : B' ≤ B) : w.ownsRow B' t s v n xs := by
  obtain ⟨h1, h2⟩ := h
  refine ⟨h1, ?_⟩
  rcases h2 with h2 | ⟨g, cap, cur, e, hg, hn⟩
  · exact .inl h2
  · exact .inr ⟨g, cap, cur, e, Nat.le_trans hB hg, hn⟩
theorem OwnSteps.mono {B B' : Nat} {w : World} {v : Value} {ps : List Pt} (h : OwnSteps B w v ps) (hB : B' ≤ B) : OwnSteps B' w v ps := ⟨own_base h.outer hB, fun p hp => own_base (h.inner p hp) hB⟩
/-- What is read: the code, the place, the steps. -/
def codeR : Except (Int × Int) (List (Bool × List Int)) → Int
  | .error x => x.1
  | .ok _ => 0
def placeR : Except (Int × Int) (List (Bool × List Int)) → Int
  | .error x => x.2
  | .ok _ => 0
def stepsR : Except (Int × Int) (List (Bool × List Int)) → List (Bool × List Int)
  | .error _ => []
  | .ok ss => ss
def readR (s : ByteArray) : Except (Int × Int) (List (Bool × List Int)) := if 65536 < s.size then .error (2, 0) else readS (sp (cutL s.data.toList) 0) []
/-- A row of words that a call owns, by its cells. -/
theorem row_words {B : Nat} {w : World} {v : Value} {t : TypeId} {s : ByteArray} {place : Int} (h : w.ownsRow B t 2 v (words s).length (wordCells s place (words s))) : ∃ a c, v = .slice a (words s).length c ∧ WordRow w a (words s).length (wordsAt s place) ∧ (words s).length ≤ c ∧ c ≤ maxLen := by
  obtain ⟨h1, h2⟩ := h
  have hl : (wordsAt s place).length = (words s).length := by simp [wordsAt]
  rcases h2 with ⟨rfl, h0⟩ | ⟨g, cap, cur, rfl, hb, hh, hc, hm, hz, ht⟩
  · rw [h0] at hl ⊢
    exact ⟨none, 0, rfl, ⟨hl, by unfold maxLen; omega, fun i hi => absurd hi (Nat.not_lt_zero _)⟩, Nat.le_refl _, by unfold maxLen; omega⟩
  · refine ⟨_, cap, rfl, ⟨hl, Nat.le_trans hc hm, fun i hi => ⟨g, 0, rfl, ?_, ?_⟩⟩, hc, hm⟩
    all_goals
      have hx : (wordsAt s place)[i]? = some ((s.extract ((words s)[i]).1 ((words s)[i]).2, place + ((words s)[i]).1)) := by
        unfold wordsAt
        rw [List.getElem?_map, List.getElem?_eq_getElem hi]; rfl
      rw [hx]
      have key : ∀ j, j < 2 → (cur.toList.take ((words s).length * 2))[i * 2 + j]? = ([.string (s.extract ((words s)[i]).1 ((words s)[i]).2), .int .i64 (place + ((words s)[i]).1)] : List Value)[j]? := fun j hj => by
        rw [ht]
        have gen : ∀ (l : List (Nat × Nat)) (i : Nat) (h : i < l.length), (wordCells s place l)[i * 2 + j]? = ([.string (s.extract (l[i]).1 (l[i]).2), .int .i64 (place + (l[i]).1)] : List Value)[j]? := by
          intro l
          induction l with
          | nil => intro i h; exact absurd h (Nat.not_lt_zero _)
          | cons a l ih =>
            intro i h
            simp only [wordCells, List.flatMap_cons]
            match i with
            | 0 =>
              rw [List.getElem?_append_left (by simp; omega)]
              simp
            | i + 1 =>
              rw [List.getElem?_append_right (by simp; omega), show (i + 1) * 2 + j - [Value.string (s.extract a.1 a.2), Value.int .i64 (place + a.1)].length = i * 2 + j by simp; omega]
              exact ih i (by simp at h; omega)
        exact gen (words s) i hi
    · have k0 := key 0 (by omega)
      rw [List.getElem?_take_of_lt (by omega)] at k0
      simp only [World.cell?, hh]
      simpa using k0
    · have k1 := key 1 (by omega)
      rw [List.getElem?_take_of_lt (by omega)] at k1
      simp only [World.cell?, hh]
      simpa using k1
theorem words_sizes (s : ByteArray) (place : Int) (h : s.size ≤ 1048576) : ∀ x ∈ wordsAt s place, x.1.size ≤ 1048576 := by
  intro x hx
  obtain ⟨y, hy, rfl⟩ := List.mem_map.1 hx
  show (s.extract y.1 y.2).size ≤ _
  rw [ByteArray.size_extract]
  omega
theorem line_cell {B : Nat} {w : World} {v : Value} {L : List (List UInt8)} (h : w.ownsRow B 9 1 v L.length (lineCells L)) : ∃ a c, v = .slice a L.length c ∧ ∀ i, i < L.length → ∃ b, a = some ⟨b, 0, none⟩ ∧ b < w.heap.size ∧ w.cell? ⟨b, i, none⟩ = some (.string (piece (L[i]?.getD []))) := by
  obtain ⟨h1, h2⟩ := h
  rcases h2 with ⟨rfl, h0⟩ | ⟨g, cap, cur, rfl, hb, hh, hc, hm, hz, ht⟩
  · rw [h0]; exact ⟨none, 0, rfl, fun i hi => absurd hi (Nat.not_lt_zero _)⟩
  · refine ⟨_, cap, rfl, fun i hi => ⟨g, rfl, (Array.getElem?_eq_some_iff.1 hh).1, ?_⟩⟩
    have h7 : (lineCells L)[i]? = some (.string (piece (L[i]?.getD []))) := by
      unfold lineCells
      rw [List.getElem?_map, List.getElem?_eq_getElem hi]; rfl
    rw [← ht, List.getElem?_take_of_lt (by omega)] at h7
    simp only [World.cell?, hh]
    simpa using h7

theorem results_three {fn : Func} {p u v : Tmp} (h : fn.results = #[.tmp p, .tmp u, .tmp v]) (tmps : Array Value) (P : Program) (w : World) :
    (results fn tmps).run P w = .ok (.tuple #[tmps.getD p undef, tmps.getD u undef, tmps.getD v undef]) w := by
  simp only [results, h]
  simp
theorem cut_sum : ∀ (n : Nat) (l : List UInt8), l.length ≤ n → ((cutL l).map fun x => x.length + 1).sum = l.length + 1 := by
  intro n
  induction n with
  | zero =>
    intro l hl
    have e0 : l = [] := List.length_eq_zero_iff.1 (by omega)
    subst e0
    rfl
  | succ n ih =>
    intro l hl
    obtain ⟨L, hn, h⟩ := cut_parts l
    rcases h with ⟨rfl, hc⟩ | ⟨rest, rfl, hc⟩
    · rw [hc]; simp
    · rw [hc, List.map_cons, List.sum_cons, ih rest (by simp at hl; omega)]
      simp
      omega
theorem len_le_sum : ∀ L : List (List UInt8), L.length ≤ (L.map fun x => x.length + 1).sum
  | [] => Nat.le_refl _
  | a :: L => by
    have := len_le_sum L
    simp only [List.length_cons, List.map_cons, List.sum_cons]
    omega
theorem step_code (fin : Int) : ∀ (W : List Wd) (ended : Bool) (acc : List Int) x, stepOf fin W ended acc = .error x → x.1 ≠ 0
  | [], ended, acc, x, h => by
    unfold stepOf at h
    split at h
    · cases h
    · cases h; show (4 : Int) ≠ 0; decide
  | y :: r, ended, acc, x, h => by
    unfold stepOf at h
    split at h
    · cases h; show (4 : Int) ≠ 0; decide
    · split at h
      · exact step_code fin r _ _ x h
      · split at h
        · cases h; show (5 : Int) ≠ 0; decide
        · split at h
          · cases h; show (11 : Int) ≠ 0; decide
          · exact step_code fin r _ _ x h
theorem drop_line {L : List (List UInt8)} {k : Nat} (h : k < L.length) : L.drop k = L[k]?.getD [] :: L.drop (k + 1) := by
  rw [List.drop_eq_getElem_cons h, List.getElem?_eq_getElem h]; rfl
theorem steps_add {B : Nat} {w w3 : World} {v v' : Value} {ps : List Pt} {p : Pt} (h : OwnSteps B w v ps) (hx : w.ownsRow B 3 1 p.2.1 p.2.2.length (p.2.2.map (Value.int .i64))) (ho : w3.ownsRow B 36 2 v' (ps.length + 1) (ps.flatMap pcs ++ pcs p)) (hg : w.grownBy w3 v.ownBlock) : OwnSteps B w3 v' (ps ++ [p]) := by
  have keepI : ∀ q : Pt, w.ownsRow B 3 1 q.2.1 q.2.2.length (q.2.2.map (Value.int .i64)) → w3.ownsRow B 3 1 q.2.1 q.2.2.length (q.2.2.map (Value.int .i64)) := fun q hq => by
    obtain ⟨h1, h2⟩ := hq
    refine ⟨h1, ?_⟩
    rcases h2 with h2 | ⟨g, cap, cur, e, hb, hh, hn⟩
    · exact .inl h2
    · refine .inr ⟨g, cap, cur, e, hb, ?_, hn⟩
      rw [hg.block g (Array.getElem?_eq_some_iff.1 hh).1 (fun e9 => by
        rcases h.outer.2 with ⟨ev, _⟩ | ⟨g', cap', cur', ev, hb', hh', hn'⟩
        · rw [ev] at e9; cases e9
        · rw [ev] at e9
          injection e9 with e9
          subst e9
          rw [hh'] at hh
          simp only [Option.some.injEq, Obj.cells.injEq] at hh
          exact absurd hh.2.1 (by decide))]
      exact hh
  refine ⟨?_, fun q hq => ?_⟩
  · rw [List.length_append, List.flatMap_append]
    simpa using ho
  · rcases List.mem_append.1 hq with hq | hq
    · exact keepI q (h.inner q hq)
    · simp at hq; subst hq; exact keepI _ hx
theorem lone_add {ps : List Pt} {p : Pt} {M : Nat} (hl : Lone ps) (h1 : ∀ q ∈ ps, ∀ g, q.2.1.ownBlock = some g → g < M) (h2 : ∀ g, p.2.1.ownBlock = some g → M ≤ g) : Lone (ps ++ [p]) := by
  unfold Lone
  rw [List.pairwise_append]
  refine ⟨hl, List.pairwise_singleton _ _, fun a ha b hb g e1 e2 => ?_⟩
  simp at hb
  subst hb
  have := h1 a ha g e1
  have := h2 g e2
  omega
theorem step_info : (Tryd.prog.info? 36).map (fun i => (i.zero, i.size, i.bytes)) = some (some (.agg #[.bool false, .slice none 0 0]), 2, 32) := by kernel_rfl

set_option maxHeartbeats 6400000 in
set_option maxRecDepth 8000 in
theorem read_spec (s : ByteArray) (w : World) (hs : s.size ≤ 1048576) :
    Calls Tryd.prog 4 #[.string s] w fun e w' => ∃ v ps, e = .returned (.tuple #[v, .int .i64 (codeR (readR s)), .int .i64 (placeR (readR s))]) ∧ OwnSteps w.heap.size w' v ps ∧ Lone ps ∧ ps.map strip = stepsR (readR s) ∧ Below w.heap.size w w' := by
  unfold readR
  by_cases hbig : 65536 < s.size
  · rw [if_pos hbig]
    have d0 : decide ((65536 : Int) < (s.size : Int)) = true := decide_eq_true (by omega)
    go_enter Tryd.func4, Tryd.ntmps4
    go_wp2
    refine bodyPost_ret (results_three rfl _ _ _) rfl ?_
    exact ⟨_, [], rfl, ⟨⟨rfl, .inr ⟨w.heap.size, 0, #[], rfl, Nat.le_refl _, heap_alloc_new w _, Nat.le_refl _, Nat.zero_le _, rfl, rfl⟩⟩, fun p hp => by cases hp⟩, List.Pairwise.nil, rfl, (by repeat (first | exact Below.refl _ _ | assumption | refine Below.drew ?_ | refine Below.alloc ?_ (by first | exact Nat.le_refl _ | omega | (simp; done) | (simp; omega)) _ | refine Below.setCell ?_ (by first | exact Nat.le_refl _ | omega | (simp; done) | (simp; omega)) _))⟩
  · rw [if_neg hbig]
    have d0 : decide ((65536 : Int) < (s.size : Int)) = false := decide_eq_false (by omega)
    have HLS := hid (fun w8 => lines_spec s w8 hs)
    obtain ⟨L, hL⟩ : ∃ q, cutL s.data.toList = q := ⟨_, rfl⟩
    have HCL := hid hL
    rw [hL] at HLS ⊢
    clear hL
    obtain ⟨RR, hRR⟩ : ∃ q, readS (sp L 0) [] = q := ⟨_, rfl⟩
    have HRR := hid hRR.symm
    rw [hRR]
    clear hRR
    go_enter Tryd.func4, Tryd.ntmps4
    go_wp2_with fail
    refine (HLS.out _).mono ?_
    rintro e w1 ⟨v1, rfl, ho1, hb1⟩
    obtain ⟨la, lc, rfl, hcell⟩ := line_cell ho1
    have HCell := hid hcell
    have hbw : Below w.heap.size w w1 := (show Below w.heap.size w _ from (by repeat (first | exact Below.refl _ _ | assumption | refine Below.drew ?_ | refine Below.alloc ?_ (by first | exact Nat.le_refl _ | omega | (simp; done) | (simp; omega)) _ | refine Below.setCell ?_ (by first | exact Nat.le_refl _ | omega | (simp; done) | (simp; omega)) _))).trans (hb1.mono (by simp))
    have HBw := hid hbw
    have n0 : w1.heap[w.heap.size]? = some (.cells #[] 36 (0, 0)) := by
      rw [hb1.block w.heap.size (by simp)]
      exact heap_alloc_new w _
    have HN0 := hid n0
    have hz1 : w.heap.size < w1.heap.size := by have := hb1.size; simp at this; omega
    have HSum : Hid ((L.map fun x => x.length + 1).sum = s.size + 1) := by
      show _ = _
      rw [← HCL.out, cut_sum _ _ (Nat.le_refl _)]; simp
    have hLl : L.length ≤ s.size + 1 := by have := len_le_sum L; have := HSum.out; omega
    obtain ⟨i0, hi, hzz⟩ := Option.map_eq_some_iff.1 step_info
    simp only [Prod.mk.injEq] at hzz
    obtain ⟨hz0, hzb, hz2⟩ := hzz
    have HI := hid hi
    have HZ0 := hid hz0
    have HZ1 := hid hzb
    have HZ2 := hid hz2
    clear hi hz0 hzb hz2
    clear hb1 ho1 hcell hbw n0 HLS
    go_wp2
    go_loopw [7, 8, 9] (fun v at_ i wr => ∃ (k pl : Nat) (ps : List Pt), k ≤ L.length ∧ i = .int .i64 k ∧ at_ = .int .i64 pl ∧ pl + ((L.drop k).map fun x => x.length + 1).sum = s.size + 1 ∧ OwnSteps w1.heap.size wr v ps ∧ Lone ps ∧ ps.length ≤ 200 ∧ Below w1.heap.size w1 wr ∧ RR = readS (sp (L.drop k) pl) (ps.map strip)) (fun _ _ i _ => L.length - (intOf i).toNat)
    case atStart => exact ⟨0, 0, [], Nat.zero_le _, rfl, rfl, by rw [List.drop_zero]; have := HSum.out; omega, ⟨⟨rfl, .inr ⟨w1.heap.size, 0, #[], rfl, Nat.le_refl _, heap_alloc_new w1 _, Nat.le_refl _, Nat.zero_le _, rfl, rfl⟩⟩, fun p hp => by cases hp⟩, List.Pairwise.nil, Nat.zero_le _, (by repeat (first | exact Below.refl _ _ | assumption | refine Below.drew ?_ | refine Below.alloc ?_ (by first | exact Nat.le_refl _ | omega | (simp; done) | (simp; omega)) _ | refine Below.setCell ?_ (by first | exact Nat.le_refl _ | omega | (simp; done) | (simp; omega)) _)), HRR.out⟩
    case round =>
      obtain ⟨k, pl, ps, hk, rfl, rfl, hsum, hown, hlone, hps, hbel, hrd⟩ := hrel
      have HO := hid hown
      have HLo := hid hlone
      have HB := hid hbel
      have HRd := hid hrd
      have hszr := hbel.size
      clear hown hlone hbel hrd
      have HBwr := hid (HBw.out.trans (HB.out.mono HBw.out.size))
      have nil_at : Hid (∀ w8 : World, Below w1.heap.size w1 w8 → OwnSteps w.heap.size w8 (.slice (some ⟨w.heap.size, 0, none⟩) 0 0) []) := fun w8 hb => ⟨⟨rfl, .inr ⟨w.heap.size, 0, #[], rfl, Nat.le_refl _, (hb.block _ hz1).trans HN0.out, Nat.le_refl _, Nat.zero_le _, rfl, rfl⟩⟩, fun p hp => by cases hp⟩
      by_cases hlt : k < L.length
      · obtain ⟨lb, rfl, hlb, hc⟩ := HCell.out k hlt
        have hc' := keep HB.out hc
        have hlbr : lb < wr.heap.size := by omega
        have HDL := hid (drop_line hlt)
        rw [HDL.out, List.map_cons, List.sum_cons] at hsum
        have HR1 : Hid (RR = readS ((if spoke (wordsAt (piece (L[k]?.getD [])) pl) then [(wordsAt (piece (L[k]?.getD [])) pl, ((pl + (L[k]?.getD []).length : Nat) : Int))] else []) ++ sp (L.drop (k + 1)) (pl + (L[k]?.getD []).length + 1)) (ps.map strip)) := by
          show _ = _
          rw [HRd.out, HDL.out]; rfl
        clear HRd HDL hc
        generalize L[k]?.getD [] = ln at *
        have hpz : (piece ln).size = ln.length := by simp [piece, ByteArray.size]
        obtain ⟨pc, hpc⟩ : ∃ q, piece ln = q := ⟨_, rfl⟩
        rw [hpc] at hc' hpz HR1
        clear hpc
        have HWS := hid (fun w8 => words_spec pc pl w8 (by omega) (by omega) (by omega))
        have HSz := hid (words_sizes pc pl (by omega))
        have hadd : ¬ (9223372036854775807 < (pl : Int) + ln.length) := by omega
        go_wp2_with fail
        refine (HWS.out _).mono ?_
        rintro e w2 ⟨v2, rfl, ho2, hb2⟩
        obtain ⟨wa, wc, rfl, hwr, hwc, hwm⟩ := row_words ho2
        have HWL : Hid ((wordsAt pc pl).length = (words pc).length) := by show _ = _; simp [wordsAt]
        have HWr := hid hwr
        have HB2 := hid (HB.out.trans (hb2.mono hszr))
        have HO2 := hid (HO.out.below hb2)
        have hz2 := hb2.size
        have HBw2 := hid (HBw.out.trans (HB2.out.mono HBw.out.size))
        have hc2 := keep hb2 hc'
        have hlb2 : lb < w2.heap.size := by omega
        have hwn : (words pc).length ≤ 1048577 := by
          have := wst_le pc (pc.size + 1)
          show (wst pc (pc.size + 1)).2.length ≤ _
          omega
        clear hwr ho2 hb2 hc' HWS
        obtain ⟨W, hW⟩ : ∃ q, wordsAt pc pl = q := ⟨_, rfl⟩
        rw [hW] at HR1 HWL HWr HSz
        clear hW
        generalize (words pc).length = wn at *
        by_cases hw0 : wn = 0
        · have HR2 : Hid (RR = readS (sp (L.drop (k + 1)) (pl + ln.length + 1)) (ps.map strip)) := by
            show _ = _
            rw [HR1.out]
            have : spoke W = false := by unfold spoke; rw [HWL.out, hw0]; rfl
            rw [this]; rfl
          have dz : ((wn : Int) == 0) = true := by simp [hw0]
          clear HR1 HWr
          go_wp2
          exact ⟨⟨k + 1, pl + ln.length + 1, ps, by omega, by go_num, by go_num, by omega, HO2.out, HLo.out, hps, HB2.out, HR2.out⟩, by simp [intOf]; omega⟩
        · have dz : ((wn : Int) == 0) = false := beq_eq_false_iff_ne.2 (by omega)
          obtain ⟨wb, woff, rfl, hx0, hx1⟩ := HWr.out.cell 0 (by omega)
          simp only [Nat.zero_mul, Nat.add_zero] at hx0 hx1
          have i0w : (0 : Int) < (wn : Int) := by omega
          have HSp : Hid (spoke W = !((W[0]?.getD ((⟨#[]⟩, 0) : Wd)).1.toList == [99])) := by
            show _ = _
            unfold spoke
            rw [HWL.out, decide_eq_true (by omega)]; rfl
          have HW0 : Hid (RR = if spoke W = true then (match stepOf ((pl + ln.length : Nat) : Int) (restOf W) false [] with | .error x => .error x | .ok zs => if (ps.map strip).length = 200 then .error (7, (W[0]?.getD ((⟨#[]⟩, 0) : Wd)).2) else readS (sp (L.drop (k + 1)) (pl + ln.length + 1)) (ps.map strip ++ [(isDel W, zs)])) else readS (sp (L.drop (k + 1)) (pl + ln.length + 1)) (ps.map strip)) := by
            show _ = _
            rw [HR1.out]
            by_cases h9 : spoke W = true
            · rw [if_pos h9, if_pos h9]; rfl
            · rw [if_neg h9, if_neg h9]; rfl
          have HLine := hid (line_spec (some ⟨wb, woff, none⟩) wn wc W ((pl + ln.length : Nat) : Int) w2 HWr.out (by omega) HSz.out)
          generalize (W[0]?.getD ((⟨#[]⟩, 0) : Wd)).1 = t0 at *
          generalize (W[0]?.getD ((⟨#[]⟩, 0) : Wd)).2 = q0 at *
          clear HR1
          cases hcc : (t0.toList == [99]) with
          | true =>
            have HR2 : Hid (RR = readS (sp (L.drop (k + 1)) (pl + ln.length + 1)) (ps.map strip)) := by
              show _ = _
              rw [HW0.out, HSp.out, hcc]; rfl
            clear HW0 HLine
            go_wp2
            exact ⟨⟨k + 1, pl + ln.length + 1, ps, by omega, by go_num, by go_num, by omega, HO2.out, HLo.out, hps, HB2.out, HR2.out⟩, by simp [intOf]; omega⟩
          | false =>
            rw [HSp.out, hcc] at HW0
            obtain ⟨T, hT⟩ : ∃ q, stepOf ((pl + ln.length : Nat) : Int) (restOf W) false [] = q := ⟨_, rfl⟩
            have HTc := hid (fun x h => step_code _ _ _ _ x (hT.trans h))
            rw [hT] at HW0 HLine
            clear hT HSp
            obtain ⟨D, hD⟩ : ∃ q, isDel W = q := ⟨_, rfl⟩
            rw [hD] at HW0 HLine
            clear hD
            have ecast : ((pl + ln.length : Nat) : Int) = (pl : Int) + (ln.length : Int) := by omega
            rw [ecast] at HLine
            clear ecast
            go_wp2_with fail
            refine HLine.out.mono ?_
            rintro e w3 ⟨hb3, hans⟩
            have HB3 := hid (HB2.out.trans (hb3.mono HB2.out.size))
            have hx13 := keep hb3 hx1
            have hwb3 := World.block_lt_of_cell? _ _ hx13
            dsimp only at hwb3
            have HO3 := hid (HO2.out.below hb3)
            have hz3 := hb3.size
            have HBw3 := hid (HBw.out.trans (HB3.out.mono HBw.out.size))
            have HLt3 : Hid (∀ q ∈ ps, ∀ g, q.2.1.ownBlock = some g → g < w2.heap.size) := fun q hq g e => (World.ownsRow.lt (HO2.out.inner q hq) g e).2
            clear hb3 HLine hx0 hx1 hc2
            cases T with
            | error x =>
              obtain ⟨cc, qq⟩ := x
              obtain ⟨d', pp, nn, cp, rfl⟩ := hans
              have hcc0 : cc ≠ 0 := HTc.out (cc, qq) rfl
              have dcc : (cc != 0) = true := by simp [hcc0]
              have hR : RR = .error (cc, qq) := HW0.out
              subst hR
              clear HW0 HTc hcc0
              go_wp2
              refine bodyPost_ret (results_three rfl _ _ _) rfl ?_
              exact ⟨_, [], rfl, nil_at.out _ (by have hbb := HB3.out; have := HB3.out.size; exact (by repeat (first | exact Below.refl _ _ | assumption | refine Below.drew ?_ | refine Below.alloc ?_ (by first | exact Nat.le_refl _ | omega | (simp; done) | (simp; omega)) _ | refine Below.setCell ?_ (by first | exact Nat.le_refl _ | omega | (simp; done) | (simp; omega)) _))), List.Pairwise.nil, rfl, by have hbb := HBw3.out; exact (by repeat (first | exact Below.refl _ _ | assumption | refine Below.drew ?_ | refine Below.alloc ?_ (by first | exact Nat.le_refl _ | omega | (simp; done) | (simp; omega)) _ | refine Below.setCell ?_ (by first | exact Nat.le_refl _ | omega | (simp; done) | (simp; omega)) _))⟩
            | ok zs =>
              obtain ⟨pp, cp, rfl, hzs⟩ := hans
              have HZs := hid hzs
              clear hzs HTc
              have HW1 : Hid (RR = if (ps.map strip).length = 200 then .error (7, q0) else readS (sp (L.drop (k + 1)) (pl + ln.length + 1)) (ps.map strip ++ [(D, zs)])) := HW0.out
              clear HW0
              obtain ⟨ov, ovc, hu7⟩ : ∃ ov ovc, u7 = .slice ov ps.length ovc := by
                rcases HO3.out.outer.2 with ⟨e, h0⟩ | ⟨g, cp, cur, e, _⟩
                · rw [h0]; exact ⟨_, _, e⟩
                · exact ⟨_, _, e⟩
              subst hu7
              by_cases h200 : ps.length = 200
              · have hR : RR = .error (7, q0) := by rw [HW1.out, if_pos (by simp [h200])]
                have d200 : ((ps.length : Int) == 200) = true := by simp [h200]
                subst hR
                clear HW1 h200
                go_wp2_with fail
                (try go_region)
                all_goals
                  go_wp2
                  refine bodyPost_ret (results_three rfl _ _ _) rfl ?_
                  exact ⟨_, [], rfl, nil_at.out _ (by have hbb := HB3.out; have := HB3.out.size; exact (by repeat (first | exact Below.refl _ _ | assumption | refine Below.drew ?_ | refine Below.alloc ?_ (by first | exact Nat.le_refl _ | omega | (simp; done) | (simp; omega)) _ | refine Below.setCell ?_ (by first | exact Nat.le_refl _ | omega | (simp; done) | (simp; omega)) _))), List.Pairwise.nil, rfl, by have hbb := HBw3.out; exact (by repeat (first | exact Below.refl _ _ | assumption | refine Below.drew ?_ | refine Below.alloc ?_ (by first | exact Nat.le_refl _ | omega | (simp; done) | (simp; omega)) _ | refine Below.setCell ?_ (by first | exact Nat.le_refl _ | omega | (simp; done) | (simp; omega)) _))⟩
              · have HR2 : Hid (RR = readS (sp (L.drop (k + 1)) (pl + ln.length + 1)) (ps.map strip ++ [(D, zs)])) := by
                  show _ = _
                  rw [HW1.out, if_neg (by simpa using h200)]
                have d200 : ((ps.length : Int) == 200) = false := beq_eq_false_iff_ne.2 (by omega)
                clear HW1
                have hsz3 : w1.heap.size ≤ w3.heap.size := HB3.out.size
                go_wp2_with (at_builtin; (refine wpList_append_own _ rfl _ _ 22 rfl w1.heap.size 36 i0 _ 2 32 Tryd.underlying22 HI.out HZ0.out HZ1.out HZ2.out rfl (by decide) _ _ _ rfl (own_pass HO3.out.outer (by repeat (first | exact Below.refl _ _ | assumption | refine Below.drew ?_ | refine Below.alloc ?_ (by first | exact Nat.le_refl _ | omega | (simp; done) | (simp; omega)) _ | refine Below.setCell ?_ (by first | exact Nat.le_refl _ | omega | (simp; done) | (simp; omega)) _))) ⟨_, 0, none⟩ 1 1 [.bool D, .slice pp zs.length cp] rfl rfl (at_two (by simp [go_sem]) (by simp [go_sem])) (fun u hu => by simp at hu; rcases hu with rfl | rfl <;> rfl) (by unfold maxLen; omega) (by omega) (by simp; omega) ?_); intro v4 w4 hown4 hg4 hnil4)
                have hb3a := (show Below w3.heap.size w3 _ from Below.alloc (Below.alloc (Below.refl _ _) (Nat.le_refl _) (.cells #[.bool D, .slice pp zs.length cp] 36)) (by simp) (.cells #[.bool D, .slice pp zs.length cp] 36))
                have HOs := steps_add (p := (D, .slice pp zs.length cp, zs)) (HO3.out.below hb3a) (own_base (own_pass HZs.out hb3a) (by omega)) hown4 hg4
                have hB4 : Below w1.heap.size w1 w4 := (HB3.out.trans (hb3a.mono hsz3)).grown hg4 (by simp; omega) (fun j hj => (World.ownsRow.lt HO3.out.outer j hj).1)
                have hLn := lone_add (p := (D, .slice pp zs.length cp, zs)) (M := w2.heap.size) HLo.out HLt3.out (fun g e => (World.ownsRow.lt HZs.out g e).1)
                exact ⟨⟨k + 1, pl + ln.length + 1, ps ++ [(D, .slice pp zs.length cp, zs)], by omega, by go_num, by go_num, by omega, HOs, hLn, by simp; omega, hB4, by rw [HR2.out]; simp [strip]⟩, by simp [intOf]; omega⟩
      · have e : k = L.length := by omega
        have hdl : decide ((k : Int) < (L.length : Int)) = false := decide_eq_false (by omega)
        have hR : RR = .ok (ps.map strip) := by
          rw [HRd.out, List.drop_of_length_le (by omega)]; rfl
        subst hR
        clear HRd e hsum
        go_wp2
        refine bodyPost_ret (results_three rfl _ _ _) rfl ?_
        exact ⟨_, ps, rfl, HO.out.mono (by omega), HLo.out, rfl, HBwr.out⟩
end Go.Proofs.YtohbcaofjkhhiaaDoor.readSpecP
