/- A formula's text that ReadDimacs of the program reads; conditions: the text of a right formula of few clauses, behind a remark. -/
import Derived.Test.YtdphkbpjbcnbpaaDoorDimRead
import Derived.Test.YtdphkbpjbcnbpaaDoorStepsRead
namespace Go.Proofs.YtdphkbpjbcnbpaaDoor.dimFace
open Go.RowKit Go.Deep base numbers words cuts stepRead readSem spokenImpl stepsRead readBack readDim concatW dimRead rowsOwn
set_option linter.unusedVariables false

def wdc (x : Wd) : List Value := [.string x.1, .int .i64 x.2]
theorem cells_wdc (s : ByteArray) (p : Int) : wordCells s p (words s) = (wordsAt s p).flatMap wdc := by
  unfold wordCells wordsAt
  rw [List.flatMap_map]
  rfl
theorem wdc_len : ∀ R : List Wd, (R.flatMap wdc).length = R.length * 2
  | [] => rfl
  | x :: R => by rw [List.flatMap_cons, List.length_append, wdc_len R, List.length_cons]; show 2 + _ = _; omega
theorem wdc_at : ∀ (R : List Wd) (i : Nat), i < R.length → (R.flatMap wdc)[i * 2]? = some (.string (R[i]?.getD (⟨#[]⟩, 0)).1) ∧ (R.flatMap wdc)[i * 2 + 1]? = some (.int .i64 (R[i]?.getD (⟨#[]⟩, 0)).2)
  | [], i, h => by simp at h
  | x :: R, 0, _ => ⟨rfl, rfl⟩
  | x :: R, i + 1, h => by
    have ih := wdc_at R i (by simpa using h)
    have e : (i + 1) * 2 = i * 2 + 1 + 1 := by omega
    rw [List.flatMap_cons, e]
    exact ih
theorem wdc_row {B : Nat} {t : TypeId} {w : World} {v : Value} {R : List Wd} (h : w.ownsRow B t 2 v R.length (R.flatMap wdc)) : ∃ a c, v = .slice a R.length c ∧ WordRow w a R.length R := by
  obtain ⟨h1, h2⟩ := h
  rcases h2 with ⟨rfl, h0⟩ | ⟨g, cap, cur, rfl, hb, hh, hc, hm, hz, ht⟩
  · exact ⟨none, 0, by rw [h0], rfl, by rw [h0]; exact Nat.zero_le _, fun i hi => by omega⟩
  · refine ⟨_, cap, rfl, rfl, Nat.le_trans hc hm, fun i hi => ⟨g, 0, rfl, ?_⟩⟩
    obtain ⟨a1, a2⟩ := wdc_at R i hi
    rw [← ht, List.getElem?_take_of_lt (by omega)] at a1 a2
    rw [Lib.cell_of_heap hh, Lib.cell_of_heap hh, Nat.zero_add]
    exact ⟨by simpa using a1, by simpa using a2⟩
theorem own_src {B n : Nat} {w : World} {v : Value} {xs : List Value} (h : w.ownsRow B 58 2 v n xs) (h0 : 0 < n) : ∃ g c, v = .slice (some ⟨g, 0, none⟩) n c ∧ xs.length = n * 2 ∧ ∀ j u, xs[j]? = some u → w.cell? ((⟨g, 0, none⟩ : Addr).add j) = some u := by
  obtain ⟨h1, h2⟩ := h
  rcases h2 with ⟨rfl, hn⟩ | ⟨g, cap, cur, rfl, hb, hh, hc, hm, hz, ht⟩
  · omega
  · refine ⟨g, cap, rfl, h1, fun j u hu => ?_⟩
    rw [add_none, Lib.cell_of_heap hh, Nat.zero_add]
    have hj : j < n * 2 := by
      have := (List.getElem?_eq_some_iff.1 hu).1
      omega
    rw [← ht, List.getElem?_take_of_lt hj] at hu
    simpa using hu
def rowOf (p : Pw) : Rw := (p.1, (words p.2.1).length, wordCells p.2.1 p.2.2 (words p.2.1))
theorem rows_cells (ps : List Pw) : (ps.map rowOf).flatMap (fun r => r.2.2) = (ps.map wat).flatten.flatMap wdc := by
  rw [List.flatMap_map]
  induction ps with
  | nil => rfl
  | cons p ps ih =>
    rw [List.flatMap_cons, ih, List.map_cons, List.flatten_cons, List.flatMap_append]
    congr 1
    exact cells_wdc _ _
theorem rows_sum (ps : List Pw) : ((ps.map rowOf).map fun r => r.2.1).sum = (ps.map wat).flatten.length := by
  induction ps with
  | nil => rfl
  | cons p ps ih =>
    rw [List.map_cons, List.map_cons, List.sum_cons, ih, List.map_cons, List.flatten_cons, List.length_append]
    congr 1
    simp [rowOf, wat, wordsAt]
theorem toList_piece (l : List UInt8) : (piece l).toList = l := by rw [toList_data]; simp [piece]
theorem head_facts {v n : Int} {H : List Wd} (h0 : 0 ≤ v) (h1 : v ≤ 40) (n0 : 0 ≤ n) (n1 : n ≤ 40) (h : H.map Prod.fst = (headWs v n).map piece) :
    H.length = 4 ∧ (H[0]?.getD ((⟨#[]⟩, 0) : Wd)).1.toList = [112] ∧ (H[1]?.getD ((⟨#[]⟩, 0) : Wd)).1.toList = [99, 110, 102] ∧ (isNum (H[2]?.getD ((⟨#[]⟩, 0) : Wd)).1 = true ∧ numS (H[2]?.getD ((⟨#[]⟩, 0) : Wd)).1 = v) ∧ (isNum (H[3]?.getD ((⟨#[]⟩, 0) : Wd)).1 = true ∧ numS (H[3]?.getD ((⟨#[]⟩, 0) : Wd)).1 = n) := by
  have hl := congrArg List.length h
  simp only [List.length_map, headWs, List.length_cons, List.length_nil] at hl
  have hf : ∀ (i : Nat) (l : List UInt8), (headWs v n)[i]? = some l → (H[i]?.getD ((⟨#[]⟩, 0) : Wd)).1 = piece l := fun i l hi => by
    have h2 : (H.map Prod.fst)[i]? = some (piece l) := by rw [h, List.getElem?_map, hi]; rfl
    rw [List.getElem?_map] at h2
    cases h3 : H[i]? with
    | none => rw [h3] at h2; cases h2
    | some y => rw [h3] at h2; injection h2
  rw [hf 0 [112] rfl, hf 1 [99, 110, 102] rfl, hf 2 (lb v) rfl, hf 3 (lb n) rfl]
  exact ⟨hl, toList_piece _, toList_piece _, ⟨(num_facts h0 h1).1, (num_facts h0 h1).2.1⟩, (num_facts n0 n1).1, (num_facts n0 n1).2.1⟩

set_option maxHeartbeats 3200000 in
set_option maxRecDepth 8000 in
theorem dim_read (s : ByteArray) (v m : Int) (zss : List (List Int)) (w : World) (hs : s.data.toList = txt v zss) (h0 : 0 ≤ v) (h1 : v ≤ 40) (hn : zss.length ≤ 40) (hz : ∀ zs ∈ zss, zs.length ≤ 12 ∧ ∀ z ∈ zs, stepRead.litB v z = true)
    (hm : w.cell? ⟨1, 0, none⟩ = some (.int .i64 m)) :
    Calls Tryd.prog 7 #[.string s] w fun e w' => ∃ p n c ps, e = .returned (.tuple #[.agg #[.int .i64 v, .slice p n c], .int .i64 0, .int .i64 0]) ∧ OwnRows w.heap.size w' (.slice p n c) ps ∧ ps.map (·.2) = zss ∧ Below w.heap.size w w' := by
  have hz40 : ∀ zs ∈ zss, zs.length ≤ 12 ∧ ∀ z ∈ zs, stepRead.litB 40 z = true := fun zs hzs => ⟨(hz zs hzs).1, fun z hz' => by
    have := (of_decide_eq_true ((hz zs hzs).2 z hz') : z ≠ 0 ∧ -v ≤ z ∧ z ≤ v)
    exact decide_eq_true ⟨this.1, by omega, by omega⟩⟩
  have hsz : s.size ≤ 65536 := by
    have e : s.size = (txt v zss).length := by rw [← hs]; simp
    rw [e]
    exact txt_len h0 h1 hn hz40
  have hsz' : ¬ ((65536 : Int) < (s.size : Int)) := by omega
  obtain ⟨H, rest, hsp, hH, hnum, hrd⟩ := read_words h0 h1 hn hz
  obtain ⟨g4, g0, g1, g2, g3⟩ := head_facts h0 h1 (Int.natCast_nonneg zss.length) (by omega) hH
  have hL := rd_all (vars := v) (count := zss.length) zss [] hz (by simp)
  have hrl : rest.flatten.length ≤ 1048576 := by
    have e := congrArg List.length hrd
    have hk : ∀ L : List (List Int), (∀ zs ∈ L, zs.length ≤ 12) → (L.flatMap fun zs => zs ++ [0]).length ≤ L.length * 13 := by
      intro L
      induction L with
      | nil => intro _; exact Nat.le_refl _
      | cons zs L ih =>
        intro h
        have h1 := ih (fun y hy => h y (by simp [hy]))
        have h2 := h zs (by simp)
        simp only [List.flatMap_cons, List.length_append, List.length_cons, List.length_nil]
        omega
    have h2 := hk zss (fun zs hzs => (hz zs hzs).1)
    rw [List.length_map] at e
    omega
  rw [← hrd, List.nil_append] at hL
  have hpos : ∀ x ∈ (sp (cutL s.data.toList) 0).map Prod.fst, 0 < x.length := fun x hx => by
    obtain ⟨y, hy, rfl⟩ := List.mem_map.1 hx
    exact (sp_facts _ 0 _ (Nat.le_refl _) y hy).1
  rw [← hs] at hsp
  have HH := hid (And.intro g4 (And.intro g0 (And.intro g1 (And.intro g2 g3))))
  have HL := hid hL
  have HNum := hid hnum
  have HPos := hid hpos
  have HSp := hid hsp
  have HSpk := hid (fun w8 hm8 => spoken_impl s m w8 hsz hm8)
  have hgl := World.block_lt_of_cell? _ _ hm
  clear hL hnum hpos hsp hH hrd g4 g0 g1 g2 g3 hz hz40 hs
  go_enter Tryd.func7, Tryd.ntmps7
  go_wp2_with fail
  refine (HSpk.out _ (keep (by repeat (first | exact Below.refl _ _ | assumption | refine Below.drew ?_ | refine Below.alloc ?_ (by first | exact Nat.le_refl _ | omega | (simp; done) | (simp; omega)) _ | refine Below.setCell ?_ (by first | exact Nat.le_refl _ | omega | (simp; done) | (simp; omega)) _)) hm)).mono ?_
  rintro e w1 ⟨lv, ps, rfl, hws, hwat, hpl, hpz, hb1⟩
  rw [HSp.out] at hwat
  obtain ⟨p0, ps', rfl⟩ : ∃ p0 ps', ps = p0 :: ps' := by
    cases ps with
    | nil => cases hwat
    | cons p ps => exact ⟨p, ps, rfl⟩
  rw [List.map_cons] at hwat
  injection hwat with hw0 hwr
  obtain ⟨la, lc, rfl, hcl⟩ := ws_cell hws
  obtain ⟨b, rfl, hblt, hc0⟩ := hcl 0 (by simp)
  obtain ⟨ha, hcap, hp0, hrow, -, -⟩ := ws_row hws (p := p0) (by simp)
  have hc0' : w1.cell? ⟨b, 0, none⟩ = some (.slice ha 4 hcap) := by
    rw [hc0]
    show some p0.1 = _
    rw [hp0, hw0, HH.out.1]
  rw [hw0, HH.out.1] at hrow
  have HRow := hid hrow
  have hlcap : ps'.length + 1 ≤ lc ∧ lc ≤ maxLen := by
    rcases hws.outer.2 with ⟨e, _⟩ | ⟨g, cap, cur, e, _, _, h3, h4, _⟩
    · cases e
    · injection e with _ _ e
      subst e
      exact ⟨by simpa using h3, h4⟩
  obtain ⟨hlc1, hlc2⟩ := hlcap
  unfold maxLen at hlc2
  obtain ⟨cm, rfl⟩ : ∃ cm, lc = cm + 1 := ⟨lc - 1, by omega⟩
  have HRs : Hid (∀ i, i < ps'.length → w1.cell? ⟨b, 0 + 1 + i, none⟩ = some ((ps'.map rowOf)[i]?.getD rw0).1) := hid (fun i hi => by
    obtain ⟨b', e', _, h9⟩ := hcl (i + 1) (by simpa using hi)
    cases e'
    have e9 : 0 + 1 + i = i + 1 := by omega
    rw [e9, h9, List.getElem?_map, List.getElem?_eq_getElem hi]
    rfl)
  have HSrc : Hid (∀ r ∈ ps'.map rowOf, ∃ g c, r.1 = .slice (some ⟨g, 0, none⟩) r.2.1 c ∧ r.2.2.length = r.2.1 * 2 ∧ (∀ j u, r.2.2[j]? = some u → w1.cell? ((⟨g, 0, none⟩ : Addr).add j) = some u) ∧ ∀ u ∈ r.2.2, u.oneCell' = true) := hid (fun r hr => by
    obtain ⟨p, hp, rfl⟩ := List.mem_map.1 hr
    have hin := hws.inner p (by simp [hp])
    have hp1 : 0 < (words p.2.1).length := by
      have h8 : wat p ∈ ps'.map wat := List.mem_map_of_mem hp
      rw [hwr] at h8
      have h9 := HPos.out (wat p) (by rw [HSp.out]; exact List.mem_cons_of_mem _ h8)
      simpa [wat, wordsAt] using h9
    obtain ⟨g, c, e1, e2, e3⟩ := own_src hin hp1
    refine ⟨g, c, e1, e2, e3, fun u hu => ?_⟩
    have hu' : u ∈ wordCells p.2.1 p.2.2 (words p.2.1) := hu
    unfold wordCells at hu'
    obtain ⟨x, _, hx⟩ := List.mem_flatMap.1 hu'
    exact one_word _ _ u hx)
  have hsm := rows_sum ps'
  have hcs := rows_cells ps'
  rw [hwr] at hsm hcs
  have HSm := hid hsm
  have HCs := hid hcs
  have HB1 : Hid (Below w.heap.size w w1) := hid ((show Below w.heap.size w _ from (by repeat (first | exact Below.refl _ _ | assumption | refine Below.drew ?_ | refine Below.alloc ?_ (by first | exact Nat.le_refl _ | omega | (simp; done) | (simp; omega)) _ | refine Below.setCell ?_ (by first | exact Nat.le_refl _ | omega | (simp; done) | (simp; omega)) _))).trans (hb1.mono (by simp)))
  have r0 : w1.cell? ⟨w.heap.size, 0, none⟩ = some (.int .i64 0) := keep hb1 (by simp [go_sem])
  have r1 : w1.cell? ⟨w.heap.size, 1, none⟩ = some (.slice none 0 0) := keep hb1 (by simp [go_sem])
  have f0 : w1.frozen? ⟨w.heap.size, 0, none⟩ = false := by rw [hb1.frozen (p := ⟨w.heap.size, 0, none⟩) (by simp)]; simp [go_sem]
  have f1 : w1.frozen? ⟨w.heap.size, 1, none⟩ = false := by rw [hb1.frozen (p := ⟨w.heap.size, 1, none⟩) (by simp)]; simp [go_sem]
  have z1 : w.heap.size + 1 ≤ w1.heap.size := by have := hb1.size; simpa using this
  clear hws hwr hcl hc0 hp0 hw0 hrow hsm hcs hb1 hpz HSp HSpk HPos hm
  have hpl' : ps'.length ≤ 65536 := by simpa using hpl
  clear hpl
  have dl : (((ps'.length + 1 : Nat) : Int) == 0) = false := beq_eq_false_iff_ne.2 (by omega)
  go_wp2_with fail
  refine (head_impl ha hcap H v zss.length _ HRow.out HH.out.2.1 HH.out.2.2.1 HH.out.2.2.2.1 HH.out.2.2.2.2 h0 h1 (Int.natCast_nonneg _) (by omega)).mono ?_
  rintro e w2 ⟨rfl, hw2⟩
  subst hw2
  have HK : Hid (∀ a, (∀ i, i < ps'.length → ∃ b off, a = some ⟨b, off, none⟩ ∧ w2.cell? ⟨b, off + i, none⟩ = some ((ps'.map rowOf)[i]?.getD rw0).1) → Calls Tryd.prog 21 #[.slice a ps'.length cm] w2 fun e w3 => ∃ a3 c3, e = .returned (.slice a3 rest.flatten.length c3) ∧ WordRow w3 a3 rest.flatten.length rest.flatten ∧ Below w2.heap.size w2 w3) := hid (fun a ha => by
    refine (concat_word a ps'.length cm (ps'.map rowOf) w2 ha HSrc.out (by simp) (by rw [HSm.out]; exact hrl) (by omega)).mono ?_
    rintro e w3 ⟨v3, rfl, ho3, hb3⟩
    rw [HSm.out, HCs.out] at ho3
    obtain ⟨a3, c3, rfl, hr3⟩ := wdc_row ho3
    exact ⟨a3, c3, rfl, hr3, hb3⟩)
  have HCls : Hid (∀ a3 c3 w3, WordRow w3 a3 rest.flatten.length rest.flatten → Calls Tryd.prog 20 #[.slice a3 rest.flatten.length c3, .int .i64 v, .int .i64 zss.length, .int .i64 s.size] w3 fun e w' => ∃ p n c ps, e = .returned (.tuple #[.slice p n c, .int .i64 0, .int .i64 0]) ∧ OwnRows w3.heap.size w' (.slice p n c) ps ∧ ps.map (·.2) = zss ∧ Below w3.heap.size w3 w') := hid (fun a3 c3 w3 hr3 => by
    refine (clauses_impl a3 _ c3 _ v s.size zss.length zss w3 hr3 h0 h1 (by omega) HNum.out HL.out hrl).mono ?_
    rintro e w4 ⟨v4, ps4, rfl, ho4, hp4, hb4⟩
    obtain ⟨p, c, rfl⟩ := cnfDraw.own_form ho4
    exact ⟨p, _, c, ps4, rfl, ho4, hp4, hb4⟩)
  clear HSm HCs HSrc HNum HL HH HRow
  generalize rest.flatten.length = RL at *
  have HFin : Hid (∀ (w3 w4 : World) (p : Option Addr) (n c : Nat) (ps : List (Value × List Int)), Below w2.heap.size w2 w3 → OwnRows w3.heap.size w4 (.slice p n c) ps → Below w3.heap.size w3 w4 →
      w4.cell? ⟨w.heap.size, 0, none⟩ = some (.int .i64 0) ∧ w4.cell? ⟨w.heap.size, 1, none⟩ = some (.slice none 0 0) ∧ w4.frozen? ⟨w.heap.size, 0, none⟩ = false ∧ w4.frozen? ⟨w.heap.size, 1, none⟩ = false ∧ w.heap.size < w4.heap.size ∧
      OwnRows w.heap.size ((w4.setCell ⟨w.heap.size, 0, none⟩ (.int .i64 v)).setCell ⟨w.heap.size, 1, none⟩ (.slice p n c)) (.slice p n c) ps ∧ Below w.heap.size w ((w4.setCell ⟨w.heap.size, 0, none⟩ (.int .i64 v)).setCell ⟨w.heap.size, 1, none⟩ (.slice p n c))) := hid (fun w3 w4 p n c ps hb3 ho4 hb4 => by
    have hb34 : Below w2.heap.size w2 w4 := hb3.trans (hb4.mono hb3.size)
    have hz3 := hb3.size
    have hz4 := hb4.size
    refine ⟨keep hb34 r0, keep hb34 r1, ?_, ?_, by omega, ?_, ?_⟩
    · rw [hb34.frozen (p := ⟨w.heap.size, 0, none⟩) (by show w.heap.size < _; omega)]; exact f0
    · rw [hb34.frozen (p := ⟨w.heap.size, 1, none⟩) (by show w.heap.size < _; omega)]; exact f1
    · exact rows_mono (rows_ahead (rows_ahead ho4 (by omega)) (by omega)) (by omega)
    · exact ((HB1.out.trans (hb34.mono HB1.out.size)).setCell (Nat.le_refl _) _).setCell (Nat.le_refl _) _)
  clear r0 r1 f0 f1
  rcases Nat.eq_zero_or_pos cm with rfl | hcm0
  · have hp0 : ps'.length = 0 := by omega
    have HK0 := hid (HK.out (some ⟨b, 0, none⟩) (fun i hi => absurd hi (by omega)))
    rw [hp0] at HK0
    clear HK
    go_wp2_with fail
    refine HK0.out.mono ?_
    rintro e w3 ⟨a3, c3, rfl, hr3, hb3⟩
    go_wp2_with fail
    refine (HCls.out _ _ _ hr3).mono ?_
    rintro e w4 ⟨p, n, c, ps, rfl, ho4, hp4, hb4⟩
    obtain ⟨q0, q1, q2, q3, q4, q5, q6⟩ := HFin.out _ _ _ _ _ _ hb3 ho4 hb4
    have HQ5 := hid q5
    have HQ6 := hid q6
    have HP := hid hp4
    clear q5 q6 hp4 hb3 hb4 ho4 hr3
    go_wp2
    (try simp only [Exit.inBlock, Exit.then])
    refine bodyPost_ret (v := .tuple #[.agg #[.int .i64 v, .slice p n c], .int .i64 0, .int .i64 0]) (by simp [results, Tryd.results7, go_sem, q0, q1]) rfl ?_
    exact ⟨p, n, c, ps, rfl, HQ5.out, HP.out, HQ6.out⟩
  · have hcz : ¬ cm = 0 := by omega
    have hcz' : ((cm : Int) == 0) = false := beq_eq_false_iff_ne.2 (by omega)
    have hci : ¬ ((cm : Int) = 0) := by omega
    go_wp2_with fail
    refine (HK.out _ (fun i hi => ⟨_, _, rfl, HRs.out i hi⟩)).mono ?_
    rintro e w3 ⟨a3, c3, rfl, hr3, hb3⟩
    go_wp2_with fail
    refine (HCls.out _ _ _ hr3).mono ?_
    rintro e w4 ⟨p, n, c, ps, rfl, ho4, hp4, hb4⟩
    obtain ⟨q0, q1, q2, q3, q4, q5, q6⟩ := HFin.out _ _ _ _ _ _ hb3 ho4 hb4
    have HQ5 := hid q5
    have HQ6 := hid q6
    have HP := hid hp4
    clear q5 q6 hp4 hb3 hb4 ho4 hr3
    go_wp2
    (try simp only [Exit.inBlock, Exit.then])
    refine bodyPost_ret (v := .tuple #[.agg #[.int .i64 v, .slice p n c], .int .i64 0, .int .i64 0]) (by simp [results, Tryd.results7, go_sem, q0, q1]) rfl ?_
    exact ⟨p, n, c, ps, rfl, HQ5.out, HP.out, HQ6.out⟩
end Go.Proofs.YtdphkbpjbcnbpaaDoor.dimFace
