/- The normal form of a formula, of the specification, where the formula is one; conditions: lengths that fit. -/
import Derived.Test.YtiiigdcfnnjkcaaNormalSpec
import Derived.Test.YtiiigdcfnnjkcaaHeldStore
namespace Go.Proofs.Ytiiigdcfnnjkcaa.normalGood
open Go.RowKit Go.Deep Go.Shelf base copy cnf eval own order sorted concat compare inOrder mark clauseOrder sortClauses compactClauses rises normal heldStore

/-- What a slice to be appended holds: nothing, where it is nil; its cells. -/
def SrcOf (w : World) (sx : Value) (m : Nat) (news : List Value) : Prop := (sx = .slice none 0 0 ∧ m = 0 ∧ news = []) ∨ ∃ ad c, sx = .slice (some ad) m c ∧ news.length = m * 1 ∧ ∀ j u, news[j]? = some u → w.cell? (ad.add j) = some u
theorem step_append_src {P : Program} (w : World) {ops : Array Oper} {o : Oper} {a : Act} {K : Act → World → Prop} {Q : Exit → Act → World → Prop} {E : Prop} (hgd : o.guard = none) (s x : Operand) (t : TypeId)
    (ho : o.op = .call { callee := .builtin .append, args := #[s, x], argTypes := #[t, t] }) (d : Option Tmp) (hd : o.dst = d)
    (base : Nat) (e : TypeId) (i : TypeInfo) (z : Value) (bytes : Nat) (ht : P.underlying t = some (.slice e)) (hi : P.info? e = some i) (hz : i.zero = some z)
    (hsize : i.size = 1) (hby : i.bytes = bytes) (hzs : z.cells.size = 1)
    (v : Value) (n : Nat) (xs : List Value) (hs : a.eval s = v) (hown : w.ownsRow base e 1 v n xs)
    (sx : Value) (m : Nat) (news : List Value) (hx : a.eval x = sx) (hsrc : SrcOf w sx m news) (h1 : ∀ u ∈ news, u.oneCell' = true)
    (h63 : n + m ≤ maxLen) (hbytes : (n + m) * bytes ≤ 140737488355328) (hbase : base ≤ w.heap.size)
    (h : ∀ v' w', w'.ownsRow base e 1 v' (n + m) (xs ++ news) → w.grownBy w' v.ownBlock → K (a.put d v') w') :
    if Region.wanted o (yielded ops a.tmps) = true then Oper.wp P o a w K Q else E := by
  subst hd
  rcases hsrc with ⟨rfl, rfl, rfl⟩ | ⟨ad, c, rfl, hl, hc⟩
  · have hw : Region.wanted o (yielded ops a.tmps) = true := by simp [Region.wanted, hgd]
    rw [if_pos hw]
    have hrun := run_append_owned_none (P := P) (w := w) base t o.type e i 1 ht hi v n xs hown
    have := h v w (by simpa using hown) (grown_refl w _)
    unfold Oper.wp
    simp [execOp, ho, resolve, invoke, builtin, hs, hx, hrun, Result.andThen]
    exact this
  · exact step_append_own w hgd s x t ho base e i z 1 bytes ht hi hz hsize hby hzs (by decide) v n xs hs hown ad m c news hx hl hc h1 h63 hbytes hbase fun v' w' h2 h3 _ => h v' w' h2 h3

theorem one_rows {B : Nat} {w : World} {ps : List (Value × List Int)} (h : ∀ p ∈ ps, OwnInts B w p.1 p.2) : ∀ u ∈ ps.map Prod.fst, u.oneCell' = true := fun u hu => by
  obtain ⟨p, hp, rfl⟩ := List.mem_map.1 hu
  obtain ⟨a, c, e, _⟩ := (h p hp).form
  rw [e]
  rfl
theorem own_newT {B H : Nat} (w : World) (h : w.heap.size = H) (hB : B ≤ H) : (w.alloc (.cells #[] 37)).ownsRow B 37 1 (.slice (some ⟨H, 0, none⟩) 0 0) 0 [] := ⟨rfl, .inr ⟨H, 0, #[], rfl, hB, by subst h; exact heap_alloc_new w _, Nat.le_refl _, Nat.zero_le _, rfl, rfl⟩⟩
theorem row_at {B g n c i : Nat} {w w1 : World} {ps : List (Value × List Int)} {u : Value} (h : OwnRows B w (.slice (some ⟨g, 0, none⟩) n c) ps) (hb : Below w.heap.size w w1) (hu : (ps.map Prod.fst)[i]? = some u) : w1.cell? ⟨g, i, none⟩ = some u := by
  have hi : i < ps.length := by
    have := (List.getElem?_eq_some_iff.1 hu).1
    rwa [List.length_map] at this
  have hn : ps.length = n := by
    rcases h.outer.2 with ⟨e, _⟩ | ⟨g', cap, cur, e, _⟩
    · cases e
    · injection e with _ e2 _
      exact e2.symm
  obtain ⟨_, p, hp, hc, _, _⟩ := rows_cell h (show i < n by omega)
  rw [List.getElem?_map, hp] at hu
  injection hu with hu
  rw [← hu]
  exact keep hb hc
theorem take_rows {B g n c j : Nat} {w w1 : World} {ps : List (Value × List Int)} (h : OwnRows B w (.slice (some ⟨g, 0, none⟩) n c) ps) (hb : Below w.heap.size w w1) : ∀ i u, ((ps.take j).map Prod.fst)[i]? = some u → w1.cell? ((⟨g, 0, none⟩ : Addr).add i) = some u := fun i u hu => by
  rw [add_none, Nat.zero_add]
  rw [List.map_take, List.getElem?_take] at hu
  split at hu
  · exact row_at h hb hu
  · cases hu
theorem drop_rows {B g n c j : Nat} {w w1 : World} {ps : List (Value × List Int)} (h : OwnRows B w (.slice (some ⟨g, 0, none⟩) n c) ps) (hb : Below w.heap.size w w1) : ∀ i u, ((ps.drop j).map Prod.fst)[i]? = some u → w1.cell? ((⟨g, j, none⟩ : Addr).add i) = some u := fun i u hu => by
  rw [add_none]
  rw [List.map_drop, List.getElem?_drop] at hu
  exact row_at h hb hu
theorem put_facts {K : List (List Int)} {ps : List (Value × List Int)} {x : Value} {oz : List Int} {j : Nat} (hR : (ps.map (·.2)).Pairwise fun p q => cmpL p q < 0) (hM : ∀ z, z ∈ ps.map (·.2) ↔ z ∈ K) (hj : j ≤ ps.length) (hl : ∀ i, i < j → cmpL ((ps.map (·.2))[i]?.getD []) oz < 0) (hr : j < (ps.map (·.2)).length → ¬ cmpL ((ps.map (·.2))[j]?.getD []) oz < 0 ∧ (ps.map (·.2))[j]?.getD [] ≠ oz) :
    (((ps.take j ++ [(x, oz)] ++ ps.drop j).map (·.2)).Pairwise fun p q => cmpL p q < 0) ∧ ∀ z, z ∈ (ps.take j ++ [(x, oz)] ++ ps.drop j).map (·.2) ↔ z ∈ K ∨ z = oz := by
  have e : (ps.take j ++ [(x, oz)] ++ ps.drop j).map (·.2) = (ps.map (·.2)).take j ++ [oz] ++ (ps.map (·.2)).drop j := by simp [List.map_take, List.map_drop]
  rw [e]
  exact ⟨ins_rises hR (by rw [List.length_map]; exact hj) hl hr, fun z => by rw [ins_mem, hM]⟩
/-- A clause put into rows. -/
theorem ins_rows {B M N j : Nat} {W2 w3 : World} {v v3 x : Value} {ps : List (Value × List Int)} {zs : List Int} (hO : OwnRows B W2 v ps) (hx : OwnInts B W2 x zs) (h3 : w3.ownsRow W2.heap.size 37 1 v3 N ([] ++ (ps.take j).map Prod.fst ++ [x] ++ (ps.drop j).map Prod.fst)) (hb : Below W2.heap.size W2 w3) (hB : B ≤ W2.heap.size) (hM : M < B) :
    ∃ g c m, v3 = .slice (some ⟨g, 0, none⟩) m c ∧ (ps.take j ++ [(x, zs)] ++ ps.drop j).length = m ∧ OwnRows B (w3.setCell ⟨M, 1, none⟩ v3) v3 (ps.take j ++ [(x, zs)] ++ ps.drop j) := by
  have hm : [] ++ (ps.take j).map Prod.fst ++ [x] ++ (ps.drop j).map Prod.fst = (ps.take j ++ [(x, zs)] ++ ps.drop j).map Prod.fst := by simp
  rw [hm] at h3
  have hN : N = (ps.take j ++ [(x, zs)] ++ ps.drop j).length := by
    have := h3.1
    rw [List.length_map] at this
    omega
  subst hN
  have hpos : 0 < (ps.take j ++ [(x, zs)] ++ ps.drop j).length := by simp; omega
  generalize hq : ps.take j ++ [(x, zs)] ++ ps.drop j = qs at *
  refine ?_
  rcases h3.2 with ⟨_, h0⟩ | ⟨g, cap, cur, e, _⟩
  · omega
  · refine ⟨g, cap, _, e, rfl, own_ahead (own_mono h3 hB) hM, fun p hp => own_ahead ?_ hM⟩
    rw [← hq] at hp
    have hin : ∀ p : Value × List Int, OwnInts B W2 p.1 p.2 → OwnInts B w3 p.1 p.2 := fun p h => h.below hb
    rcases List.mem_append.1 hp with hp | hp
    · rcases List.mem_append.1 hp with hp | hp
      · exact hin p (hO.inner p (List.mem_of_mem_take hp))
      · rw [List.mem_singleton] at hp
        subst hp
        exact hin _ hx
    · exact hin p (hO.inner p (List.mem_of_mem_drop hp))

set_option maxHeartbeats 1600000 in
set_option maxRecDepth 8000 in
theorem normal_spec_good (vars : Int) (a : Option Addr) (len cap : Nat) (zss : List (List Int)) (w : World) (hr : IntRows w a len zss) (hB : cnfB vars zss = true) :
    Calls Try.prog 9 #[.agg #[.int .i64 vars, .slice a len cap]] w fun e w' =>
      ∃ v qs, e = .returned (.tuple #[.agg #[.int .i64 vars, v], .int .i64 0]) ∧ OwnRows w.heap.size w' v qs ∧ ((qs.map (·.2)).Pairwise fun p q => cmpL p q < 0) ∧ (∀ z, z ∈ qs.map (·.2) ↔ z ∈ kept zss) ∧ Below w.heap.size w w' := by
  have hmost := hr.most
  unfold maxLen at hmost
  have HR := hid hr
  have HL := hid hr.length
  clear hr
  obtain ⟨i0, hi, hzz⟩ := Option.map_eq_some_iff.1 info_row
  simp only [Prod.mk.injEq] at hzz
  obtain ⟨hz0, hz1, hz2⟩ := hzz
  have HI := hid hi
  have HZ0 := hid hz0
  have HZ1 := hid hz1
  have HZ2 := hid hz2
  clear hi hz0 hz1 hz2
  have h40 := cnf_vars hB
  have HCl : Hid (∀ i, i < len → clauseB vars (zss[i]?.getD []) = true) := fun i hi => cnf_clause hB i (by rw [HL.out]; exact hi)
  have hle : len ≤ 300 := by
    have h := hB
    simp only [cnfB, Bool.and_eq_true, decide_eq_true_eq] at h
    rw [HL.out] at h
    exact h.1.2.2
  go_enter Try.func9, Try.ntmps9
  go_wp2_with fail
  refine (cnfOK_spec vars a len cap zss _ (HR.out.below (by repeat (first | exact Below.refl _ _ | assumption | refine Below.drew ?_ | refine Below.alloc ?_ (by first | exact Nat.le_refl _ | omega | (simp; done) | (simp; omega)) _ | refine Below.setCell ?_ (by first | exact Nat.le_refl _ | omega | (simp; done) | (simp; omega)) _)))).mono ?_
  rintro e w1 ⟨rfl, hb1⟩
  have HB := hid ((show Below w.heap.size w _ from (by repeat (first | exact Below.refl _ _ | assumption | refine Below.drew ?_ | refine Below.alloc ?_ (by first | exact Nat.le_refl _ | omega | (simp; done) | (simp; omega)) _ | refine Below.setCell ?_ (by first | exact Nat.le_refl _ | omega | (simp; done) | (simp; omega)) _))).trans (hb1.mono (by simp; omega)))
  have b0 : w1.cell? ⟨w.heap.size, 0, none⟩ = some (.int .i64 vars) := keep hb1 (by simp [go_sem])
  have b1 : w1.cell? ⟨w.heap.size, 1, none⟩ = some (.slice a len cap) := keep hb1 (by simp [go_sem])
  have q0 : w1.cell? ⟨w.heap.size + 1, 0, none⟩ = some (.int .i64 0) := keep hb1 (by simp [go_sem])
  have q1 : w1.cell? ⟨w.heap.size + 1, 1, none⟩ = some (.slice none 0 0) := keep hb1 (by simp [go_sem])
  have q2 : w1.frozen? ⟨w.heap.size + 1, 0, none⟩ = false := by rw [hb1.frozen (p := ⟨w.heap.size + 1, 0, none⟩) (by simp)]; simp [go_sem]
  have q3 : w1.frozen? ⟨w.heap.size + 1, 1, none⟩ = false := by rw [hb1.frozen (p := ⟨w.heap.size + 1, 1, none⟩) (by simp)]; simp [go_sem]
  have s1 : w.heap.size + 1 < w1.heap.size := by have := hb1.size; simp at this; omega
  have B1 := hid b1
  have Q0 := hid q0
  have Q1 := hid q1
  have Q2 := hid q2
  have Q3 := hid q3
  have S1 := hid s1
  clear hb1 b1 q0 q1 q2 q3 s1
  rw [hB]
  clear hB
  go_wp2
  go_loopw [5] (fun i wr => ∃ (k n c : Nat) (p : Option Addr) (ps : List (Value × List Int)), k ≤ len ∧ i = .int .i64 k ∧ wr.cell? ⟨w1.heap.size, 0, none⟩ = some (.int .i64 vars) ∧ wr.cell? ⟨w1.heap.size, 1, none⟩ = some (.slice p n c) ∧ wr.frozen? ⟨w1.heap.size, 1, none⟩ = false ∧ ps.length = n ∧ n ≤ k ∧ w1.heap.size + 1 ≤ wr.heap.size ∧ OwnRows (w1.heap.size + 1) wr (.slice p n c) ps ∧ ((ps.map (·.2)).Pairwise fun p q => cmpL p q < 0) ∧ (∀ z, z ∈ ps.map (·.2) ↔ z ∈ kept (zss.take k)) ∧ Below w1.heap.size w1 wr) (fun i _ => len - (intOf i).toNat)
  case atStart =>
    exact ⟨0, 0, 0, none, [], Nat.zero_le _, rfl, by simp [go_sem], by simp [go_sem], by simp [go_sem], rfl, Nat.le_refl _, by simp, OwnRows.nil _ _, by simp, fun z => by simp [kept], (by repeat (first | exact Below.refl _ _ | assumption | refine Below.drew ?_ | refine Below.alloc ?_ (by first | exact Nat.le_refl _ | omega | (simp; done) | (simp; omega)) _ | refine Below.setCell ?_ (by first | exact Nat.le_refl _ | omega | (simp; done) | (simp; omega)) _))⟩
  case round =>
    obtain ⟨k, n, c, p, ps, hk, rfl, c0, c1, c2, hpn, hnk, hsz, hown, hris, hmem, hbel⟩ := hrel
    have HO := hid hown
    have HM := hid hmem
    have HRi := hid hris
    have HPn := hid hpn
    have HB2 := hid hbel
    have b1 := keep hbel B1.out
    clear hown hmem hris hbel hpn
    by_cases hlt : k < len
    · have hkz : k < zss.length := by rw [HL.out]; exact hlt
      obtain ⟨b, off, rfl, x, l, cx, hc0, hx0⟩ := HR.out.cell k hlt
      have hc : wr.cell? ⟨b, off + k, none⟩ = some (.slice x l cx) := keep HB2.out (keep HB.out hc0)
      have HX := hid ((hx0.below HB.out).below HB2.out)
      have HCk := hid (HCl.out k hlt)
      have HK := hid (kept_succ (zss := zss) (k := k) hkz)
      have hl12 : Hid (l = (zss[k]?.getD []).length) := hid hx0.length.symm
      clear hc0 hx0
      generalize zss[k]?.getD [] = zs at *
      have HRg : Hid (∀ z ∈ zs, -40 ≤ z ∧ z ≤ 40) := fun z hz => by
        have h := HCk.out
        simp only [clauseB, Bool.and_eq_true, List.all_eq_true] at h
        have := litB_range (h.2 z hz)
        omega
      have HLn : Hid (l ≤ 12) := by
        show _ ≤ _
        have h := HCk.out
        simp only [clauseB, Bool.and_eq_true, decide_eq_true_eq] at h
        rw [hl12.out]
        exact h.1
      go_wp2_with fail
      refine (sorted_spec x l cx zs _ HX.out HRg.out (by have := HLn.out; omega)).mono ?_
      rintro e w2 ⟨y, rfl, hoy, hby⟩
      have HBy := hid hby
      have d0 := keep hby c0
      have d1 := keep hby c1
      have d2 : w2.frozen? ⟨w1.heap.size, 1, none⟩ = false := by rw [hby.frozen (p := ⟨w1.heap.size, 1, none⟩) (by dsimp only; omega)]; exact c2
      have HO2 := hid (HO.out.below hby)
      have HB3 := hid (HB2.out.trans (hby.mono HB2.out.size))
      have HS2 : Hid (w1.heap.size + 1 ≤ w2.heap.size) := Nat.le_trans hsz hby.size
      have HOy := hid (hoy.mono hsz)
      obtain ⟨ay, cy, rfl, hry⟩ := hoy.form
      have HRy := hid hry
      have HZy : Hid (∀ i, i < (ord zs).length → -40 ≤ (ord zs)[i]?.getD 0 ∧ (ord zs)[i]?.getD 0 ≤ 40) := fun i hi => by
        rw [List.getElem?_eq_getElem hi]
        exact HRg.out _ (((ord_rises zs).2 _).1 (List.getElem_mem hi))
      clear hoy hby hry hc c0 c1 c2 b1
      generalize (ord zs) = oz at *
      cases hop : oppB oz
      · have HK' := HK.out
        rw [hop] at HK'
        simp only [Bool.false_eq_true, if_false] at HK'
        have HK2 := hid HK'
        clear HK' HK hop
        have HPs : Hid (∀ p ∈ ps, ∀ z ∈ p.2, -40 ≤ z ∧ z ≤ 40) := fun p hp z hz => by
          have h1 : p.2 ∈ kept (zss.take k) := (HM.out _).1 (List.mem_map.2 ⟨p, hp, rfl⟩)
          unfold kept at h1
          obtain ⟨ys, hys, e⟩ := List.mem_map.1 (List.mem_filter.1 h1).1
          rw [← e] at hz
          have h2 := ((ord_rises ys).2 z).1 hz
          obtain ⟨i, hi, e⟩ := List.mem_iff_getElem.1 (List.mem_of_mem_take hys)
          have h3 := HCl.out i (by rw [← HL.out]; exact hi)
          rw [List.getElem?_eq_getElem hi, Option.getD_some, e] at h3
          simp only [clauseB, Bool.and_eq_true, List.all_eq_true] at h3
          have := litB_range (h3.2 z h2)
          omega
        have HZp : Hid (∀ i, i < n → ∀ q, ps[i]? = some q → ∀ m, m < q.2.length → -40 ≤ q.2[m]?.getD 0 ∧ q.2[m]?.getD 0 ≤ 40) := fun i _ q hq m hm => by
          rw [List.getElem?_eq_getElem hm]
          exact HPs.out q (List.mem_of_getElem? hq) _ (List.getElem_mem hm)
        generalize hWW : w2 = W2 at *
        clear hWW
        go_wp2
        go_loopw [8] (fun t wr2 => ∃ (j q : Nat), j ≤ n ∧ t = .int .i64 j ∧ (∀ i, i < j → cmpL ((ps.map (·.2))[i]?.getD []) oz < 0) ∧ wr2 = W2.drewN q) (fun t _ => n - (intOf t).toNat)
        case atStart => exact ⟨0, 0, Nat.zero_le _, rfl, fun i hi => absurd hi (Nat.not_lt_zero _), rfl⟩
        case round =>
          obtain ⟨j, q, hj, rfl, hall, hw2⟩ := hrel
          have HAll := hid hall
          have hb2 : Below W2.heap.size W2 wr := by rw [hw2]; exact below_drewN _ _
          have HBq := hid hb2
          have HW2 := hid hw2
          have f0 := keep hb2 d0
          have f1 := keep hb2 d1
          have f2 : wr.frozen? ⟨w1.heap.size, 1, none⟩ = false := by rw [hb2.frozen (p := ⟨w1.heap.size, 1, none⟩) (by dsimp only; exact HS2.out)]; exact d2
          clear hall hw2
          by_cases hjn : j < n
          · obtain ⟨g, cur, hp, hgB⟩ : ∃ g cur, p = some ⟨g, 0, none⟩ ∧ w1.heap.size + 1 ≤ g ∧ g < W2.heap.size ∧ n ≤ c ∧ W2.heap[g]? = some cur := by
              rcases HO2.out.outer.2 with ⟨e, _⟩ | ⟨g, cap, cur, e, hg, hh, hnc, _⟩
              · have h0 : n = 0 := by injection e
                omega
              · have e1 : p = some ⟨g, 0, none⟩ := by injection e
                have e2 : c = cap := by injection e
                exact ⟨g, _, e1, hg, (Array.getElem?_eq_some_iff.1 hh).1, by rw [e2, ← HPn.out]; exact hnc, hh⟩
            subst hp
            obtain ⟨_, r, hr1, hr2, _, hr4⟩ := rows_cell HO2.out hjn
            obtain ⟨ar, cr, hre, hrr⟩ := hr4.form
            have hcj : wr.cell? ⟨g, j, none⟩ = some (.slice ar r.2.length cr) := by rw [← hre]; exact keep hb2 hr2
            have HRr := hid (hrr.below hb2)
            have HRy2 := hid (HRy.out.below hb2)
            have HZr := hid (HZp.out j hjn r hr1)
            have HAt : Hid ((ps.map (·.2))[j]?.getD [] = r.2) := by
              show _ = _
              rw [List.getElem?_map, hr1]
              rfl
            clear hr1 hr2 hr4 hre hrr hb2
            generalize r.2 = rz at *
            by_cases hls : cmpL rz oz < 0
            · have hd : decide (cmpL rz oz < 0) = true := decide_eq_true hls
              have HLs := hid hls
              clear hls
              go_wp2_with fail
              refine (less_spec ar ay rz.length cr oz.length cy rz oz _ HRr.out HRy2.out HZr.out HZy.out).mono ?_
              rintro e w3 ⟨rfl, q3, hw3⟩
              have HW3 := hid hw3
              clear hw3
              rw [hd]
              go_wp2
              go_roundw
              case rel => exact ⟨j + 1, q + q3, by omega, by go_num, fun i hi => by
                rcases Nat.lt_or_eq_of_le (Nat.le_of_lt_succ hi) with h | rfl
                · exact HAll.out i h
                · rw [HAt.out]; exact HLs.out, by rw [HW3.out, HW2.out, World.drewN_drewN]⟩
              case measure => simp [intOf]; omega
            · have hd : decide (cmpL rz oz < 0) = false := decide_eq_false hls
              have HLs := hid hls
              clear hls
              go_wp2_with fail
              refine (less_spec ar ay rz.length cr oz.length cy rz oz _ HRr.out HRy2.out HZr.out HZy.out).mono ?_
              rintro e w3 ⟨rfl, q3, hw3⟩
              have hb3 : Below wr.heap.size wr w3 := by rw [hw3]; exact below_drewN _ _
              have HB3q := hid hb3
              have HBw3 := hid (HBq.out.trans (hb3.mono HBq.out.size))
              have f0' := keep hb3 f0
              have f1' := keep hb3 f1
              have hcj' := keep hb3 hcj
              have HRr3 := hid (HRr.out.below hb3)
              have HRy3 := hid (HRy2.out.below hb3)
              clear hw3 hb3
              rw [hd]
              by_cases he : rz = oz
              · have hde : decide (rz = oz) = true := decide_eq_true he
                have HE := hid he
                clear he
                go_wp2_with fail
                refine (same_spec ar ay rz.length oz.length cr cy rz oz _ HRr3.out HRy3.out).mono ?_
                rintro e w4 ⟨rfl, q4, hw4⟩
                have hb4 : Below w3.heap.size w3 w4 := by rw [hw4]; exact below_drewN _ _
                have HBw4 := hid (HBw3.out.trans (hb4.mono HBw3.out.size))
                have f0'' := keep hb4 f0'
                have f1'' := keep hb4 f1'
                have f2'' : w4.frozen? ⟨w1.heap.size, 1, none⟩ = false := by rw [HBw4.out.frozen (p := ⟨w1.heap.size, 1, none⟩) (by dsimp only; exact HS2.out)]; exact d2
                clear hw4 hb4
                rw [hde]
                go_wp2
                exact ⟨⟨k + 1, n, c, some ⟨g, 0, none⟩, ps, by omega, by go_num, f0'', f1'', f2'', HPn.out, by omega, Nat.le_trans HS2.out HBw4.out.size, HO2.out.below HBw4.out, HRi.out, fun z => by
                  rw [HK2.out, List.mem_append, List.mem_singleton, ← HM.out z]
                  constructor
                  · exact .inl
                  · rintro (h | rfl)
                    · exact h
                    · exact has_mem (j := j) (by rw [List.length_map, HPn.out]; exact hjn) (by rw [HAt.out]; exact HE.out), HB3.out.trans (HBw4.out.mono HB3.out.size)⟩, by simp [intOf]; omega⟩
              · have hde : decide (rz = oz) = false := decide_eq_false he
                have HE := hid he
                clear he
                go_wp2_with fail
                refine (same_spec ar ay rz.length oz.length cr cy rz oz _ HRr3.out HRy3.out).mono ?_
                rintro e w4 ⟨rfl, q4, hw4⟩
                have hb4 : Below w3.heap.size w3 w4 := by rw [hw4]; exact below_drewN _ _
                have HBw4 := hid (HBw3.out.trans (hb4.mono HBw3.out.size))
                have f0'' := keep hb4 f0'
                have f1'' := keep hb4 f1'
                have f2'' : w4.frozen? ⟨w1.heap.size, 1, none⟩ = false := by rw [HBw4.out.frozen (p := ⟨w1.heap.size, 1, none⟩) (by dsimp only; exact HS2.out)]; exact d2
                clear hw4 hb4 f0 f1 f2 f0' f1' hcj hcj' d0 d1 d2
                rw [hde]
                go_wp2
                have HOw := hid (HO2.out.below HBw4.out)
                have HOyw := hid (HOy.out.below HBw4.out)
                have HBw := hid (HB3.out.trans (HBw4.out.mono HB3.out.size))
                have HSw : Hid (w1.heap.size + 1 ≤ w4.heap.size) := Nat.le_trans HS2.out HBw4.out.size
                clear HBw4 HBw3 HB3q
                have hnc : n ≤ c := hgB.2.2.1
                have i1 : (0 : Int) ≤ (j : Int) := by omega
                have i2 : (j : Int) ≤ (n : Int) := by omega
                have i3 : (n : Int) ≤ (c : Int) := by omega
                have i4 : (j : Int) ≤ (c : Int) := by omega
                have i5 : ¬ c = j := by omega
                have F0 := hid f0''
                have F1 := hid f1''
                have F2 := hid f2''
                clear f0'' f1'' f2''
                have HPut := hid (put_facts (x := .slice ay oz.length cy) (oz := oz) (j := j) HRi.out HM.out (by rw [HPn.out]; omega) HAll.out (fun _ => by rw [HAt.out]; exact ⟨by have := HLs.out; omega, HE.out⟩))
                have HT : Hid (∀ w1 : World, Below w4.heap.size w4 w1 → SrcOf w1 (.slice (some ⟨g, 0, none⟩) j c) j ((ps.take j).map Prod.fst)) := fun w1 h => .inr ⟨⟨g, 0, none⟩, c, rfl, by rw [List.length_map, List.length_take, HPn.out]; omega, take_rows HOw.out h⟩
                have HD : Hid (∀ w1 : World, Below w4.heap.size w4 w1 → SrcOf w1 (.slice (some ⟨g, j, none⟩) (n - j) (c - j)) (n - j) ((ps.drop j).map Prod.fst)) := fun w1 h => .inr ⟨⟨g, j, none⟩, c - j, rfl, by rw [List.length_map, List.length_drop, HPn.out]; omega, drop_rows HOw.out h⟩
                have HT1 := hid (one_rows (B := w1.heap.size + 1) (w := w4) (ps := ps.take j) (fun p hp => HOw.out.inner p (List.mem_of_mem_take hp)))
                have HD1 := hid (one_rows (B := w1.heap.size + 1) (w := w4) (ps := ps.drop j) (fun p hp => HOw.out.inner p (List.mem_of_mem_drop hp)))
                refine region_goes 15 16 (fun w' => w'.cell? ⟨w1.heap.size, 1, none⟩ = some (.slice (some ⟨g, 0, none⟩) n c) ∧ Below w4.heap.size w4 w') (by kernel_rfl) (by rfl) ⟨by kernel_rfl, by kernel_rfl, by kernel_rfl, by decide⟩ (and_of_below F1.out (by repeat (first | exact Below.refl _ _ | assumption | refine Below.drew ?_ | refine sorted.bdn ?_ _ | refine Below.alloc ?_ (by first | exact Nat.le_refl _ | exact Below.size (by assumption) | omega | (simp; done) | (simp; omega)) _))) (fun hE inv hHeld => ?_)
                refine Goes.take (i := 1) (v := ?v1u1) (some 65) hE rfl rfl inv (by kernel_rfl) (by kernel_rfl) (by decide) (fun _ _ _ h => h) (Or.inl ⟨by rfl, ?y1u1⟩) (by assumption) (fun inv => ?r1u1)
                case y1u1 => (intro w' hSw; (try dsimp only at hSw); go_simp; (try with_reducible rfl))
                simp only [Act.put, List.setIfInBounds_toArray, List.set_cons_zero, List.set_cons_succ]
                refine Goes.take (i := 2) (v := ?v2u2) (some 66) hE rfl rfl inv (by kernel_rfl) (by kernel_rfl) (by decide) (fun _ _ _ h => h) (Or.inl ⟨by rfl, ?y2u2⟩) (by assumption) (fun inv => ?r2u2)
                case y2u2 => (intro w' hSw; (try dsimp only at hSw); go_simp; (try with_reducible rfl))
                simp only [Act.put, List.setIfInBounds_toArray, List.set_cons_zero, List.set_cons_succ]
                refine Goes.take (i := 3) (v := ?v3u3) (some 67) hE rfl rfl inv (by kernel_rfl) (by kernel_rfl) (by decide) (fun _ _ _ h => h) (Or.inl ⟨by rfl, ?y3u3⟩) (by assumption) (fun inv => ?r3u3)
                case y3u3 => (intro w' hSw; (try dsimp only at hSw); go_simp; (try with_reducible rfl))
                simp only [Act.put, List.setIfInBounds_toArray, List.set_cons_zero, List.set_cons_succ]
                refine Goes.take (i := 4) (v := ?v4u4) (some 68) hE rfl rfl inv (by kernel_rfl) (by kernel_rfl) (by decide) (fun _ _ _ h => h) (Or.inl ⟨by rfl, ?y4u4⟩) (by assumption) (fun inv => ?r4u4)
                case y4u4 => (intro w' hSw; (try dsimp only at hSw); go_simp; (try with_reducible rfl))
                simp only [Act.put, List.setIfInBounds_toArray, List.set_cons_zero, List.set_cons_succ]
                refine Goes.take (i := 6) (v := ?v6u5) (some 70) hE rfl rfl inv (by kernel_rfl) (by kernel_rfl) (by decide) (fun _ _ _ h => h) (Or.inl ⟨by rfl, ?y6u5⟩) (by assumption) (fun inv => ?r6u5)
                case y6u5 => (intro w' hSw; (try dsimp only at hSw); go_simp; (try with_reducible rfl))
                simp only [Act.put, List.setIfInBounds_toArray, List.set_cons_zero, List.set_cons_succ]
                refine Goes.take (i := 9) (v := ?v9u6) (some 73) hE rfl rfl inv (by kernel_rfl) (by kernel_rfl) (by decide) (fun _ _ _ h => h) (Or.inl ⟨by rfl, ?y9u6⟩) (by assumption) (fun inv => ?r9u6)
                case y9u6 => (intro w' hSw; (try dsimp only at hSw); go_simp; (try with_reducible rfl))
                simp only [Act.put, List.setIfInBounds_toArray, List.set_cons_zero, List.set_cons_succ]
                refine Goes.take (i := 10) (v := ?v10u7) (some 74) hE rfl rfl inv (by kernel_rfl) (by kernel_rfl) (by decide) (fun _ _ _ h => h) (Or.inl ⟨by rfl, ?y10u7⟩) (by assumption) (fun inv => ?r10u7)
                case y10u7 => (intro w' hSw; (try dsimp only at hSw); go_simp; (try with_reducible rfl))
                simp only [Act.put, List.setIfInBounds_toArray, List.set_cons_zero, List.set_cons_succ]
                refine Goes.take (i := 11) (v := ?v11u8) (some 75) hE rfl rfl inv (by kernel_rfl) (by kernel_rfl) (by decide) (fun _ _ _ h => h) (Or.inl ⟨by rfl, ?y11u8⟩) (by assumption) (fun inv => ?r11u8)
                case y11u8 => (intro w' hSw; (try dsimp only at hSw); go_simp; (try with_reducible rfl))
                simp only [Act.put, List.setIfInBounds_toArray, List.set_cons_zero, List.set_cons_succ]
                refine Goes.take (i := 12) (v := ?v12u9) (some 76) hE rfl rfl inv (by kernel_rfl) (by kernel_rfl) (by decide) (fun _ _ _ h => h) (Or.inl ⟨by rfl, ?y12u9⟩) (by assumption) (fun inv => ?r12u9)
                case y12u9 => (intro w' hSw; (try dsimp only at hSw); go_simp; (try with_reducible rfl))
                simp only [Act.put, List.setIfInBounds_toArray, List.set_cons_zero, List.set_cons_succ]
                refine Goes.two (i := 0) (j := 7) inv (by kernel_rfl) (by decide) (by decide) rfl rfl (fun inv K' hK => ?_) (fun inv K' hK => ?_)
                · go_simp
                  refine hK.out _ _ (and_of_below F1.out (by repeat (first | exact Below.refl _ _ | assumption | refine Below.drew ?_ | refine sorted.bdn ?_ _ | refine Below.alloc ?_ (by first | exact Nat.le_refl _ | exact Below.size (by assumption) | omega | (simp; done) | (simp; omega)) _))) (fun hHeld => ?_)
                  clear hK K'
                  refine Goes.two (i := 5) (j := 7) inv (by kernel_rfl) (by decide) (by decide) rfl rfl (fun inv K' hK => ?_) (fun inv K' hK => ?_)
                  · refine step_append_src _ (by rfl) _ _ 23 (by rfl) (some 69) (by rfl) w4.heap.size 37 i0 (.slice none 0 0) 24 Try.underlying23 HI.out HZ0.out HZ1.out HZ2.out rfl (.slice (some ⟨w4.heap.size, 0, none⟩) 0 0) 0 [] (by rfl) (own_pass (own_newT w4.drew rfl (Nat.le_refl _)) (by repeat (first | exact Below.refl _ _ | assumption | refine Below.drew ?_ | refine sorted.bdn ?_ _ | refine Below.alloc ?_ (by first | exact Nat.le_refl _ | exact Below.size (by assumption) | omega | (simp; done) | (simp; omega)) _))) _ j ((ps.take j).map Prod.fst) (by rfl) (HT.out _ (by repeat (first | exact Below.refl _ _ | assumption | refine Below.drew ?_ | refine sorted.bdn ?_ _ | refine Below.alloc ?_ (by first | exact Nat.le_refl _ | exact Below.size (by assumption) | omega | (simp; done) | (simp; omega)) _))) HT1.out (by unfold maxLen; omega) (by omega) (by first | (simp; done) | (simp; omega)) ?_
                    intro v1 wA hv1 hgv1
                    have hBv1 : Below w4.heap.size w4 wA := Below.grown (by repeat (first | exact Below.refl _ _ | assumption | refine Below.drew ?_ | refine sorted.bdn ?_ _ | refine Below.alloc ?_ (by first | exact Nat.le_refl _ | exact Below.size (by assumption) | omega | (simp; done) | (simp; omega)) _)) hgv1 (by first | (simp; done) | (simp; omega)) (fun k hk => by cases hk; dsimp only; omega)
                    clear hgv1
                    refine hK.out _ _ (and_of_below F1.out (by repeat (first | exact Below.refl _ _ | assumption | refine Below.drew ?_ | refine sorted.bdn ?_ _ | refine Below.alloc ?_ (by first | exact Nat.le_refl _ | exact Below.size (by assumption) | omega | (simp; done) | (simp; omega)) _))) (fun hHeld => ?_)
                    clear hK K'
                    simp only [Act.put, List.setIfInBounds_toArray, List.set_cons_zero, List.set_cons_succ]
                    refine Goes.one (i := 7) inv (by kernel_rfl) (by decide) rfl (fun inv K' hK => ?_)
                    go_simp
                    refine hK.out _ _ (and_of_below F1.out (by repeat (first | exact Below.refl _ _ | assumption | refine Below.drew ?_ | refine sorted.bdn ?_ _ | refine Below.alloc ?_ (by first | exact Nat.le_refl _ | exact Below.size (by assumption) | omega | (simp; done) | (simp; omega)) _))) (fun hHeld => ?_)
                    clear hK K'
                    refine Goes.one (i := 8) inv (by kernel_rfl) (by decide) rfl (fun inv K' hK => ?_)
                    refine step_append_src _ (by rfl) _ _ 23 (by rfl) (some 72) (by rfl) w4.heap.size 37 i0 (.slice none 0 0) 24 Try.underlying23 HI.out HZ0.out HZ1.out HZ2.out rfl v1 (0 + j) ([] ++ (ps.take j).map Prod.fst) (by rfl) (own_pass hv1 (by repeat (first | exact Below.refl _ _ | assumption | refine Below.drew ?_ | refine sorted.bdn ?_ _ | refine Below.alloc ?_ (by first | exact Nat.le_refl _ | exact Below.size (by assumption) | omega | (simp; done) | (simp; omega)) _))) _ 1 [.slice ay oz.length cy] (by rfl) (.inr ⟨⟨wA.heap.size, 0, none⟩, 1, rfl, rfl, cell_one_new _ _ _⟩) (fun u hu => by simp at hu; subst hu; rfl) (by unfold maxLen; omega) (by omega) (by have := hBv1.size; first | exact this | (simp; omega)) ?_
                    intro v2 wB hv2 hgv2
                    have hBv2 : Below w4.heap.size w4 wB := Below.grown (by repeat (first | exact Below.refl _ _ | assumption | refine Below.drew ?_ | refine sorted.bdn ?_ _ | refine Below.alloc ?_ (by first | exact Nat.le_refl _ | exact Below.size (by assumption) | omega | (simp; done) | (simp; omega)) _)) hgv2 (by have := hBv1.size; first | exact this | (simp; omega)) (fun k hk => (World.ownsRow.lt hv1 k hk).1)
                    clear hgv2
                    refine hK.out _ _ (and_of_below F1.out (by repeat (first | exact Below.refl _ _ | assumption | refine Below.drew ?_ | refine sorted.bdn ?_ _ | refine Below.alloc ?_ (by first | exact Nat.le_refl _ | exact Below.size (by assumption) | omega | (simp; done) | (simp; omega)) _))) (fun hHeld => ?_)
                    clear hK K'
                    simp only [Act.put, List.setIfInBounds_toArray, List.set_cons_zero, List.set_cons_succ]
                    refine Goes.one (i := 13) inv (by kernel_rfl) (by decide) rfl (fun inv K' hK => ?_)
                    refine step_append_src _ (by rfl) _ _ 23 (by rfl) (some 77) (by rfl) w4.heap.size 37 i0 (.slice none 0 0) 24 Try.underlying23 HI.out HZ0.out HZ1.out HZ2.out rfl v2 (0 + j + 1) ([] ++ (ps.take j).map Prod.fst ++ [.slice ay oz.length cy]) (by rfl) (own_pass hv2 (by repeat (first | exact Below.refl _ _ | assumption | refine Below.drew ?_ | refine sorted.bdn ?_ _ | refine Below.alloc ?_ (by first | exact Nat.le_refl _ | exact Below.size (by assumption) | omega | (simp; done) | (simp; omega)) _))) _ (n - j) ((ps.drop j).map Prod.fst) (by rfl) (HD.out _ (by repeat (first | exact Below.refl _ _ | assumption | refine Below.drew ?_ | refine sorted.bdn ?_ _ | refine Below.alloc ?_ (by first | exact Nat.le_refl _ | exact Below.size (by assumption) | omega | (simp; done) | (simp; omega)) _))) HD1.out (by unfold maxLen; omega) (by omega) (by have := hBv2.size; first | exact this | (simp; omega)) ?_
                    intro v3 wC hv3 hgv3
                    have hBv3 : Below w4.heap.size w4 wC := Below.grown (by repeat (first | exact Below.refl _ _ | assumption | refine Below.drew ?_ | refine sorted.bdn ?_ _ | refine Below.alloc ?_ (by first | exact Nat.le_refl _ | exact Below.size (by assumption) | omega | (simp; done) | (simp; omega)) _)) hgv3 (by have := hBv2.size; first | exact this | (simp; omega)) (fun k hk => (World.ownsRow.lt hv2 k hk).1)
                    clear hgv3
                    obtain ⟨g', c', n', hv3', hn', hrows⟩ := ins_rows (j := j) HOw.out HOyw.out hv3 hBv3 HSw.out (Nat.lt_succ_self w1.heap.size)
                    subst hv3'
                    have HN := hid hn'
                    clear hn'
                    have HRows := hid hrows
                    have hfz : wC.frozen? ⟨w1.heap.size, 1, none⟩ = false := by rw [hBv3.frozen (p := ⟨w1.heap.size, 1, none⟩) (by dsimp only; exact HSw.out)]; exact F2.out
                    clear hrows hv1 hv2 hv3
                    refine hK.out _ _ (and_of_below F1.out (by repeat (first | exact Below.refl _ _ | assumption | refine Below.drew ?_ | refine sorted.bdn ?_ _ | refine Below.alloc ?_ (by first | exact Nat.le_refl _ | exact Below.size (by assumption) | omega | (simp; done) | (simp; omega)) _))) (fun hHeld => ?_)
                    clear hK K'
                    simp only [Act.put, List.setIfInBounds_toArray, List.set_cons_zero, List.set_cons_succ]
                    refine Goes.take (i := 14) (v := ?v14u10) (some 78) hE rfl rfl inv (by kernel_rfl) (by kernel_rfl) (by decide) (fun _ _ _ h => h) (Or.inl ⟨by rfl, ?y14u10⟩) (by assumption) (fun inv => ?r14u10)
                    case y14u10 => (intro w' hSw; (try dsimp only at hSw); go_simp; (try with_reducible rfl))
                    simp only [Act.put, List.setIfInBounds_toArray, List.set_cons_zero, List.set_cons_succ]
                    refine Goes.last (by kernel_rfl) (by kernel_rfl) rfl (fun K' hK => ?_)
                    obtain ⟨hcC, _⟩ := hHeld
                    go_simp
                    refine hK.out _ _ ?_
                    clear hK K'
                    have hc1 := World.cell?_setCell_same wC ⟨w1.heap.size, 1, none⟩ (.slice (some ⟨g', 0, none⟩) n' c') hcC
                    have hc0 : (wC.setCell ⟨w1.heap.size, 1, none⟩ (.slice (some ⟨g', 0, none⟩) n' c')).cell? ⟨w1.heap.size, 0, none⟩ = some (.int .i64 vars) := by rw [World.cell?_setCell_other _ _ _ _ (by simp)]; exact keep hBv3 F0.out
                    have HC1 := hid hc1
                    have HC0 := hid hc0
                    clear hc1 hc0 hcC
                    (try simp only [Exit.inBlock, Exit.then])
                    go_wp2
                    exact ⟨⟨k + 1, _, c', some ⟨g', 0, none⟩, _, by omega, by go_num, HC0.out, HC1.out, by rw [World.frozen?_setCell]; exact hfz, HN.out, by have := HPn.out; rw [← HN.out]; first | (simp; done) | (simp; omega), by have := hBv3.size; have := HSw.out; simp; omega, HRows.out, HPut.out.1, fun z => by rw [HK2.out, List.mem_append, List.mem_singleton, HPut.out.2 z], (HBw.out.trans (hBv3.mono HBw.out.size)).setCell (Nat.le_refl _) _⟩, by simp [intOf]; omega⟩
                  · go_simp
                    refine hK.out _ _ (and_of_below F1.out (by repeat (first | exact Below.refl _ _ | assumption | refine Below.drew ?_ | refine sorted.bdn ?_ _ | refine Below.alloc ?_ (by first | exact Nat.le_refl _ | exact Below.size (by assumption) | omega | (simp; done) | (simp; omega)) _))) (fun hHeld => ?_)
                    clear hK K'
                    refine Goes.one (i := 5) inv (by kernel_rfl) (by decide) rfl (fun inv K' hK => ?_)
                    refine step_append_src _ (by rfl) _ _ 23 (by rfl) (some 69) (by rfl) w4.heap.size 37 i0 (.slice none 0 0) 24 Try.underlying23 HI.out HZ0.out HZ1.out HZ2.out rfl (.slice (some ⟨w4.heap.size, 0, none⟩) 0 0) 0 [] (by rfl) (own_pass (own_newT w4 rfl (Nat.le_refl _)) (by repeat (first | exact Below.refl _ _ | assumption | refine Below.drew ?_ | refine sorted.bdn ?_ _ | refine Below.alloc ?_ (by first | exact Nat.le_refl _ | exact Below.size (by assumption) | omega | (simp; done) | (simp; omega)) _))) _ j ((ps.take j).map Prod.fst) (by rfl) (HT.out _ (by repeat (first | exact Below.refl _ _ | assumption | refine Below.drew ?_ | refine sorted.bdn ?_ _ | refine Below.alloc ?_ (by first | exact Nat.le_refl _ | exact Below.size (by assumption) | omega | (simp; done) | (simp; omega)) _))) HT1.out (by unfold maxLen; omega) (by omega) (by first | (simp; done) | (simp; omega)) ?_
                    intro v1 wA hv1 hgv1
                    have hBv1 : Below w4.heap.size w4 wA := Below.grown (by repeat (first | exact Below.refl _ _ | assumption | refine Below.drew ?_ | refine sorted.bdn ?_ _ | refine Below.alloc ?_ (by first | exact Nat.le_refl _ | exact Below.size (by assumption) | omega | (simp; done) | (simp; omega)) _)) hgv1 (by first | (simp; done) | (simp; omega)) (fun k hk => by cases hk; dsimp only; omega)
                    have hxc : wA.cell? ⟨w4.heap.size + 1, 0, none⟩ = some (.slice ay oz.length cy) := by rw [hgv1.cell_far _ (by first | (simp; done) | (simp; omega)) (by simp [Value.ownBlock])]; simp [go_sem]
                    clear hgv1
                    refine hK.out _ _ (and_of_below F1.out (by repeat (first | exact Below.refl _ _ | assumption | refine Below.drew ?_ | refine sorted.bdn ?_ _ | refine Below.alloc ?_ (by first | exact Nat.le_refl _ | exact Below.size (by assumption) | omega | (simp; done) | (simp; omega)) _))) (fun hHeld => ?_)
                    clear hK K'
                    simp only [Act.put, List.setIfInBounds_toArray, List.set_cons_zero, List.set_cons_succ]
                    refine Goes.one (i := 8) inv (by kernel_rfl) (by decide) rfl (fun inv K' hK => ?_)
                    refine step_append_src _ (by rfl) _ _ 23 (by rfl) (some 72) (by rfl) w4.heap.size 37 i0 (.slice none 0 0) 24 Try.underlying23 HI.out HZ0.out HZ1.out HZ2.out rfl v1 (0 + j) ([] ++ (ps.take j).map Prod.fst) (by rfl) (own_pass hv1 (by repeat (first | exact Below.refl _ _ | assumption | refine Below.drew ?_ | refine sorted.bdn ?_ _ | refine Below.alloc ?_ (by first | exact Nat.le_refl _ | exact Below.size (by assumption) | omega | (simp; done) | (simp; omega)) _))) _ 1 [.slice ay oz.length cy] (by rfl) (.inr ⟨⟨w4.heap.size + 1, 0, none⟩, 1, rfl, rfl, one_news hxc⟩) (fun u hu => by simp at hu; subst hu; rfl) (by unfold maxLen; omega) (by omega) (by have := hBv1.size; first | exact this | (simp; omega)) ?_
                    intro v2 wB hv2 hgv2
                    have hBv2 : Below w4.heap.size w4 wB := Below.grown (by repeat (first | exact Below.refl _ _ | assumption | refine Below.drew ?_ | refine sorted.bdn ?_ _ | refine Below.alloc ?_ (by first | exact Nat.le_refl _ | exact Below.size (by assumption) | omega | (simp; done) | (simp; omega)) _)) hgv2 (by have := hBv1.size; first | exact this | (simp; omega)) (fun k hk => (World.ownsRow.lt hv1 k hk).1)
                    clear hgv2
                    refine hK.out _ _ (and_of_below F1.out (by repeat (first | exact Below.refl _ _ | assumption | refine Below.drew ?_ | refine sorted.bdn ?_ _ | refine Below.alloc ?_ (by first | exact Nat.le_refl _ | exact Below.size (by assumption) | omega | (simp; done) | (simp; omega)) _))) (fun hHeld => ?_)
                    clear hK K'
                    simp only [Act.put, List.setIfInBounds_toArray, List.set_cons_zero, List.set_cons_succ]
                    refine Goes.one (i := 13) inv (by kernel_rfl) (by decide) rfl (fun inv K' hK => ?_)
                    refine step_append_src _ (by rfl) _ _ 23 (by rfl) (some 77) (by rfl) w4.heap.size 37 i0 (.slice none 0 0) 24 Try.underlying23 HI.out HZ0.out HZ1.out HZ2.out rfl v2 (0 + j + 1) ([] ++ (ps.take j).map Prod.fst ++ [.slice ay oz.length cy]) (by rfl) (own_pass hv2 (by repeat (first | exact Below.refl _ _ | assumption | refine Below.drew ?_ | refine sorted.bdn ?_ _ | refine Below.alloc ?_ (by first | exact Nat.le_refl _ | exact Below.size (by assumption) | omega | (simp; done) | (simp; omega)) _))) _ (n - j) ((ps.drop j).map Prod.fst) (by rfl) (HD.out _ (by repeat (first | exact Below.refl _ _ | assumption | refine Below.drew ?_ | refine sorted.bdn ?_ _ | refine Below.alloc ?_ (by first | exact Nat.le_refl _ | exact Below.size (by assumption) | omega | (simp; done) | (simp; omega)) _))) HD1.out (by unfold maxLen; omega) (by omega) (by have := hBv2.size; first | exact this | (simp; omega)) ?_
                    intro v3 wC hv3 hgv3
                    have hBv3 : Below w4.heap.size w4 wC := Below.grown (by repeat (first | exact Below.refl _ _ | assumption | refine Below.drew ?_ | refine sorted.bdn ?_ _ | refine Below.alloc ?_ (by first | exact Nat.le_refl _ | exact Below.size (by assumption) | omega | (simp; done) | (simp; omega)) _)) hgv3 (by have := hBv2.size; first | exact this | (simp; omega)) (fun k hk => (World.ownsRow.lt hv2 k hk).1)
                    clear hgv3
                    obtain ⟨g', c', n', hv3', hn', hrows⟩ := ins_rows (j := j) HOw.out HOyw.out hv3 hBv3 HSw.out (Nat.lt_succ_self w1.heap.size)
                    subst hv3'
                    have HN := hid hn'
                    clear hn'
                    have HRows := hid hrows
                    have hfz : wC.frozen? ⟨w1.heap.size, 1, none⟩ = false := by rw [hBv3.frozen (p := ⟨w1.heap.size, 1, none⟩) (by dsimp only; exact HSw.out)]; exact F2.out
                    clear hrows hv1 hv2 hv3
                    refine hK.out _ _ (and_of_below F1.out (by repeat (first | exact Below.refl _ _ | assumption | refine Below.drew ?_ | refine sorted.bdn ?_ _ | refine Below.alloc ?_ (by first | exact Nat.le_refl _ | exact Below.size (by assumption) | omega | (simp; done) | (simp; omega)) _))) (fun hHeld => ?_)
                    clear hK K'
                    simp only [Act.put, List.setIfInBounds_toArray, List.set_cons_zero, List.set_cons_succ]
                    refine Goes.take (i := 14) (v := ?v14u11) (some 78) hE rfl rfl inv (by kernel_rfl) (by kernel_rfl) (by decide) (fun _ _ _ h => h) (Or.inl ⟨by rfl, ?y14u11⟩) (by assumption) (fun inv => ?r14u11)
                    case y14u11 => (intro w' hSw; (try dsimp only at hSw); go_simp; (try with_reducible rfl))
                    simp only [Act.put, List.setIfInBounds_toArray, List.set_cons_zero, List.set_cons_succ]
                    refine Goes.last (by kernel_rfl) (by kernel_rfl) rfl (fun K' hK => ?_)
                    obtain ⟨hcC, _⟩ := hHeld
                    go_simp
                    refine hK.out _ _ ?_
                    clear hK K'
                    have hc1 := World.cell?_setCell_same wC ⟨w1.heap.size, 1, none⟩ (.slice (some ⟨g', 0, none⟩) n' c') hcC
                    have hc0 : (wC.setCell ⟨w1.heap.size, 1, none⟩ (.slice (some ⟨g', 0, none⟩) n' c')).cell? ⟨w1.heap.size, 0, none⟩ = some (.int .i64 vars) := by rw [World.cell?_setCell_other _ _ _ _ (by simp)]; exact keep hBv3 F0.out
                    have HC1 := hid hc1
                    have HC0 := hid hc0
                    clear hc1 hc0 hcC
                    (try simp only [Exit.inBlock, Exit.then])
                    go_wp2
                    exact ⟨⟨k + 1, _, c', some ⟨g', 0, none⟩, _, by omega, by go_num, HC0.out, HC1.out, by rw [World.frozen?_setCell]; exact hfz, HN.out, by have := HPn.out; rw [← HN.out]; first | (simp; done) | (simp; omega), by have := hBv3.size; have := HSw.out; simp; omega, HRows.out, HPut.out.1, fun z => by rw [HK2.out, List.mem_append, List.mem_singleton, HPut.out.2 z], (HBw.out.trans (hBv3.mono HBw.out.size)).setCell (Nat.le_refl _) _⟩, by simp [intOf]; omega⟩
                · go_simp
                  refine hK.out _ _ (and_of_below F1.out (by repeat (first | exact Below.refl _ _ | assumption | refine Below.drew ?_ | refine sorted.bdn ?_ _ | refine Below.alloc ?_ (by first | exact Nat.le_refl _ | exact Below.size (by assumption) | omega | (simp; done) | (simp; omega)) _))) (fun hHeld => ?_)
                  clear hK K'
                  refine Goes.one (i := 0) inv (by kernel_rfl) (by decide) rfl (fun inv K' hK => ?_)
                  go_simp
                  refine hK.out _ _ (and_of_below F1.out (by repeat (first | exact Below.refl _ _ | assumption | refine Below.drew ?_ | refine sorted.bdn ?_ _ | refine Below.alloc ?_ (by first | exact Nat.le_refl _ | exact Below.size (by assumption) | omega | (simp; done) | (simp; omega)) _))) (fun hHeld => ?_)
                  clear hK K'
                  refine Goes.one (i := 5) inv (by kernel_rfl) (by decide) rfl (fun inv K' hK => ?_)
                  refine step_append_src _ (by rfl) _ _ 23 (by rfl) (some 69) (by rfl) w4.heap.size 37 i0 (.slice none 0 0) 24 Try.underlying23 HI.out HZ0.out HZ1.out HZ2.out rfl (.slice (some ⟨w4.heap.size + 1, 0, none⟩) 0 0) 0 [] (by rfl) (own_newT _ (by simp) (by omega)) _ j ((ps.take j).map Prod.fst) (by rfl) (HT.out _ (by repeat (first | exact Below.refl _ _ | assumption | refine Below.drew ?_ | refine sorted.bdn ?_ _ | refine Below.alloc ?_ (by first | exact Nat.le_refl _ | exact Below.size (by assumption) | omega | (simp; done) | (simp; omega)) _))) HT1.out (by unfold maxLen; omega) (by omega) (by first | (simp; done) | (simp; omega)) ?_
                  intro v1 wA hv1 hgv1
                  have hBv1 : Below w4.heap.size w4 wA := Below.grown (by repeat (first | exact Below.refl _ _ | assumption | refine Below.drew ?_ | refine sorted.bdn ?_ _ | refine Below.alloc ?_ (by first | exact Nat.le_refl _ | exact Below.size (by assumption) | omega | (simp; done) | (simp; omega)) _)) hgv1 (by first | (simp; done) | (simp; omega)) (fun k hk => by cases hk; dsimp only; omega)
                  have hxc : wA.cell? ⟨w4.heap.size, 0, none⟩ = some (.slice ay oz.length cy) := (hgv1.cell_far ⟨w4.heap.size, 0, none⟩ (by simp; omega) (ne_row _)).trans (keep (W := w4.alloc (.cells #[.slice ay oz.length cy] 37)) (by repeat (first | exact Below.refl _ _ | assumption | refine Below.drew ?_ | refine sorted.bdn ?_ _ | refine Below.alloc ?_ (by first | exact Nat.le_refl _ | exact Below.size (by assumption) | omega | (simp; done) | (simp; omega)) _)) (new_cell rfl))
                  clear hgv1
                  refine hK.out _ _ (and_of_below F1.out (by repeat (first | exact Below.refl _ _ | assumption | refine Below.drew ?_ | refine sorted.bdn ?_ _ | refine Below.alloc ?_ (by first | exact Nat.le_refl _ | exact Below.size (by assumption) | omega | (simp; done) | (simp; omega)) _))) (fun hHeld => ?_)
                  clear hK K'
                  simp only [Act.put, List.setIfInBounds_toArray, List.set_cons_zero, List.set_cons_succ]
                  refine Goes.one (i := 8) inv (by kernel_rfl) (by decide) rfl (fun inv K' hK => ?_)
                  refine step_append_src _ (by rfl) _ _ 23 (by rfl) (some 72) (by rfl) w4.heap.size 37 i0 (.slice none 0 0) 24 Try.underlying23 HI.out HZ0.out HZ1.out HZ2.out rfl v1 (0 + j) ([] ++ (ps.take j).map Prod.fst) (by rfl) (own_pass hv1 (by repeat (first | exact Below.refl _ _ | assumption | refine Below.drew ?_ | refine sorted.bdn ?_ _ | refine Below.alloc ?_ (by first | exact Nat.le_refl _ | exact Below.size (by assumption) | omega | (simp; done) | (simp; omega)) _))) _ 1 [.slice ay oz.length cy] (by rfl) (.inr ⟨⟨w4.heap.size, 0, none⟩, 1, rfl, rfl, one_news hxc⟩) (fun u hu => by simp at hu; subst hu; rfl) (by unfold maxLen; omega) (by omega) (by have := hBv1.size; first | exact this | (simp; omega)) ?_
                  intro v2 wB hv2 hgv2
                  have hBv2 : Below w4.heap.size w4 wB := Below.grown (by repeat (first | exact Below.refl _ _ | assumption | refine Below.drew ?_ | refine sorted.bdn ?_ _ | refine Below.alloc ?_ (by first | exact Nat.le_refl _ | exact Below.size (by assumption) | omega | (simp; done) | (simp; omega)) _)) hgv2 (by have := hBv1.size; first | exact this | (simp; omega)) (fun k hk => (World.ownsRow.lt hv1 k hk).1)
                  clear hgv2
                  refine hK.out _ _ (and_of_below F1.out (by repeat (first | exact Below.refl _ _ | assumption | refine Below.drew ?_ | refine sorted.bdn ?_ _ | refine Below.alloc ?_ (by first | exact Nat.le_refl _ | exact Below.size (by assumption) | omega | (simp; done) | (simp; omega)) _))) (fun hHeld => ?_)
                  clear hK K'
                  simp only [Act.put, List.setIfInBounds_toArray, List.set_cons_zero, List.set_cons_succ]
                  refine Goes.one (i := 13) inv (by kernel_rfl) (by decide) rfl (fun inv K' hK => ?_)
                  refine step_append_src _ (by rfl) _ _ 23 (by rfl) (some 77) (by rfl) w4.heap.size 37 i0 (.slice none 0 0) 24 Try.underlying23 HI.out HZ0.out HZ1.out HZ2.out rfl v2 (0 + j + 1) ([] ++ (ps.take j).map Prod.fst ++ [.slice ay oz.length cy]) (by rfl) (own_pass hv2 (by repeat (first | exact Below.refl _ _ | assumption | refine Below.drew ?_ | refine sorted.bdn ?_ _ | refine Below.alloc ?_ (by first | exact Nat.le_refl _ | exact Below.size (by assumption) | omega | (simp; done) | (simp; omega)) _))) _ (n - j) ((ps.drop j).map Prod.fst) (by rfl) (HD.out _ (by repeat (first | exact Below.refl _ _ | assumption | refine Below.drew ?_ | refine sorted.bdn ?_ _ | refine Below.alloc ?_ (by first | exact Nat.le_refl _ | exact Below.size (by assumption) | omega | (simp; done) | (simp; omega)) _))) HD1.out (by unfold maxLen; omega) (by omega) (by have := hBv2.size; first | exact this | (simp; omega)) ?_
                  intro v3 wC hv3 hgv3
                  have hBv3 : Below w4.heap.size w4 wC := Below.grown (by repeat (first | exact Below.refl _ _ | assumption | refine Below.drew ?_ | refine sorted.bdn ?_ _ | refine Below.alloc ?_ (by first | exact Nat.le_refl _ | exact Below.size (by assumption) | omega | (simp; done) | (simp; omega)) _)) hgv3 (by have := hBv2.size; first | exact this | (simp; omega)) (fun k hk => (World.ownsRow.lt hv2 k hk).1)
                  clear hgv3
                  obtain ⟨g', c', n', hv3', hn', hrows⟩ := ins_rows (j := j) HOw.out HOyw.out hv3 hBv3 HSw.out (Nat.lt_succ_self w1.heap.size)
                  subst hv3'
                  have HN := hid hn'
                  clear hn'
                  have HRows := hid hrows
                  have hfz : wC.frozen? ⟨w1.heap.size, 1, none⟩ = false := by rw [hBv3.frozen (p := ⟨w1.heap.size, 1, none⟩) (by dsimp only; exact HSw.out)]; exact F2.out
                  clear hrows hv1 hv2 hv3
                  refine hK.out _ _ (and_of_below F1.out (by repeat (first | exact Below.refl _ _ | assumption | refine Below.drew ?_ | refine sorted.bdn ?_ _ | refine Below.alloc ?_ (by first | exact Nat.le_refl _ | exact Below.size (by assumption) | omega | (simp; done) | (simp; omega)) _))) (fun hHeld => ?_)
                  clear hK K'
                  simp only [Act.put, List.setIfInBounds_toArray, List.set_cons_zero, List.set_cons_succ]
                  refine Goes.take (i := 14) (v := ?v14u12) (some 78) hE rfl rfl inv (by kernel_rfl) (by kernel_rfl) (by decide) (fun _ _ _ h => h) (Or.inl ⟨by rfl, ?y14u12⟩) (by assumption) (fun inv => ?r14u12)
                  case y14u12 => (intro w' hSw; (try dsimp only at hSw); go_simp; (try with_reducible rfl))
                  simp only [Act.put, List.setIfInBounds_toArray, List.set_cons_zero, List.set_cons_succ]
                  refine Goes.last (by kernel_rfl) (by kernel_rfl) rfl (fun K' hK => ?_)
                  obtain ⟨hcC, _⟩ := hHeld
                  go_simp
                  refine hK.out _ _ ?_
                  clear hK K'
                  have hc1 := World.cell?_setCell_same wC ⟨w1.heap.size, 1, none⟩ (.slice (some ⟨g', 0, none⟩) n' c') hcC
                  have hc0 : (wC.setCell ⟨w1.heap.size, 1, none⟩ (.slice (some ⟨g', 0, none⟩) n' c')).cell? ⟨w1.heap.size, 0, none⟩ = some (.int .i64 vars) := by rw [World.cell?_setCell_other _ _ _ _ (by simp)]; exact keep hBv3 F0.out
                  have HC1 := hid hc1
                  have HC0 := hid hc0
                  clear hc1 hc0 hcC
                  (try simp only [Exit.inBlock, Exit.then])
                  go_wp2
                  exact ⟨⟨k + 1, _, c', some ⟨g', 0, none⟩, _, by omega, by go_num, HC0.out, HC1.out, by rw [World.frozen?_setCell]; exact hfz, HN.out, by have := HPn.out; rw [← HN.out]; first | (simp; done) | (simp; omega), by have := hBv3.size; have := HSw.out; simp; omega, HRows.out, HPut.out.1, fun z => by rw [HK2.out, List.mem_append, List.mem_singleton, HPut.out.2 z], (HBw.out.trans (hBv3.mono HBw.out.size)).setCell (Nat.le_refl _) _⟩, by simp [intOf]; omega⟩
          · have hjn' : j = n := by omega
            have HJ := hid hjn'
            clear hjn' d0 d1 d2
            generalize hWr : wr = w4 at *
            clear hWr
            have HOw := hid (HO2.out.below HBq.out)
            have HOyw := hid (HOy.out.below HBq.out)
            have HBw := hid (HB3.out.trans (HBq.out.mono HB3.out.size))
            have HSw : Hid (w1.heap.size + 1 ≤ w4.heap.size) := Nat.le_trans HS2.out HBq.out.size
            have F0 := hid f0
            have F1 := hid f1
            have F2 := hid f2
            have HPut := hid (put_facts (x := .slice ay oz.length cy) (oz := oz) (j := j) HRi.out HM.out (by rw [HPn.out]; omega) HAll.out (fun h => absurd h (by rw [List.length_map, HPn.out]; omega)))
            clear HBq
            rcases (show (p = none ∧ n = 0 ∧ c = 0) ∨ ∃ g, p = some ⟨g, 0, none⟩ ∧ n ≤ c by
                rcases HOw.out.outer.2 with ⟨e, _⟩ | ⟨g, cap, cur, e, hg, hh, hnc, _⟩
                · injection e with e1 e2 e3
                  exact .inl ⟨e1, e2, e3⟩
                · injection e with e1 e2 e3
                  exact .inr ⟨g, e1, by rw [e3, ← HPn.out]; exact hnc⟩) with ⟨hp, hn0, hc0'⟩ | ⟨g, hp, hnc⟩
            · subst hp
              have hj0 : j = 0 := by omega
              subst hj0
              subst hn0
              subst hc0'
              have hps : ps = [] := List.length_eq_zero_iff.1 HPn.out
              subst hps
              clear HJ
              go_wp2
              clear f0 f1 f2
              have HT : Hid (∀ w1 : World, Below w4.heap.size w4 w1 → SrcOf w1 (.slice none 0 0) 0 ((([] : List (Value × List Int)).take 0).map Prod.fst)) := fun w1 _ => .inl ⟨rfl, rfl, rfl⟩
              have HD : Hid (∀ w1 : World, Below w4.heap.size w4 w1 → SrcOf w1 (.slice none 0 0) (0 - 0) ((([] : List (Value × List Int)).drop 0).map Prod.fst)) := fun w1 _ => .inl ⟨rfl, rfl, rfl⟩
              have HT1 : Hid (∀ u ∈ (([] : List (Value × List Int)).take 0).map Prod.fst, u.oneCell' = true) := fun u hu => by simp at hu
              have HD1 : Hid (∀ u ∈ (([] : List (Value × List Int)).drop 0).map Prod.fst, u.oneCell' = true) := fun u hu => by simp at hu
              refine region_goes 15 16 (fun w' => w'.cell? ⟨w1.heap.size, 1, none⟩ = some (.slice none 0 0) ∧ Below w4.heap.size w4 w') (by kernel_rfl) (by rfl) ⟨by kernel_rfl, by kernel_rfl, by kernel_rfl, by decide⟩ (and_of_below F1.out (by repeat (first | exact Below.refl _ _ | assumption | refine Below.drew ?_ | refine sorted.bdn ?_ _ | refine Below.alloc ?_ (by first | exact Nat.le_refl _ | exact Below.size (by assumption) | omega | (simp; done) | (simp; omega)) _))) (fun hE inv hHeld => ?_)
              refine Goes.take (i := 1) (v := ?v1u13) (some 65) hE rfl rfl inv (by kernel_rfl) (by kernel_rfl) (by decide) (fun _ _ _ h => h) (Or.inl ⟨by rfl, ?y1u13⟩) (by assumption) (fun inv => ?r1u13)
              case y1u13 => (intro w' hSw; (try dsimp only at hSw); go_simp; (try with_reducible rfl))
              simp only [Act.put, List.setIfInBounds_toArray, List.set_cons_zero, List.set_cons_succ]
              refine Goes.take (i := 2) (v := ?v2u14) (some 66) hE rfl rfl inv (by kernel_rfl) (by kernel_rfl) (by decide) (fun _ _ _ h => h) (Or.inl ⟨by rfl, ?y2u14⟩) (by assumption) (fun inv => ?r2u14)
              case y2u14 => (intro w' hSw; (try dsimp only at hSw); go_simp; (try with_reducible rfl))
              simp only [Act.put, List.setIfInBounds_toArray, List.set_cons_zero, List.set_cons_succ]
              refine Goes.take (i := 3) (v := ?v3u15) (some 67) hE rfl rfl inv (by kernel_rfl) (by kernel_rfl) (by decide) (fun _ _ _ h => h) (Or.inl ⟨by rfl, ?y3u15⟩) (by assumption) (fun inv => ?r3u15)
              case y3u15 => (intro w' hSw; (try dsimp only at hSw); go_simp; (try with_reducible rfl))
              simp only [Act.put, List.setIfInBounds_toArray, List.set_cons_zero, List.set_cons_succ]
              refine Goes.take (i := 4) (v := ?v4u16) (some 68) hE rfl rfl inv (by kernel_rfl) (by kernel_rfl) (by decide) (fun _ _ _ h => h) (Or.inl ⟨by rfl, ?y4u16⟩) (by assumption) (fun inv => ?r4u16)
              case y4u16 => (intro w' hSw; (try dsimp only at hSw); go_simp; (try with_reducible rfl))
              simp only [Act.put, List.setIfInBounds_toArray, List.set_cons_zero, List.set_cons_succ]
              refine Goes.take (i := 6) (v := ?v6u17) (some 70) hE rfl rfl inv (by kernel_rfl) (by kernel_rfl) (by decide) (fun _ _ _ h => h) (Or.inl ⟨by rfl, ?y6u17⟩) (by assumption) (fun inv => ?r6u17)
              case y6u17 => (intro w' hSw; (try dsimp only at hSw); go_simp; (try with_reducible rfl))
              simp only [Act.put, List.setIfInBounds_toArray, List.set_cons_zero, List.set_cons_succ]
              refine Goes.take (i := 9) (v := ?v9u18) (some 73) hE rfl rfl inv (by kernel_rfl) (by kernel_rfl) (by decide) (fun _ _ _ h => h) (Or.inl ⟨by rfl, ?y9u18⟩) (by assumption) (fun inv => ?r9u18)
              case y9u18 => (intro w' hSw; (try dsimp only at hSw); go_simp; (try with_reducible rfl))
              simp only [Act.put, List.setIfInBounds_toArray, List.set_cons_zero, List.set_cons_succ]
              refine Goes.take (i := 10) (v := ?v10u19) (some 74) hE rfl rfl inv (by kernel_rfl) (by kernel_rfl) (by decide) (fun _ _ _ h => h) (Or.inl ⟨by rfl, ?y10u19⟩) (by assumption) (fun inv => ?r10u19)
              case y10u19 => (intro w' hSw; (try dsimp only at hSw); go_simp; (try with_reducible rfl))
              simp only [Act.put, List.setIfInBounds_toArray, List.set_cons_zero, List.set_cons_succ]
              refine Goes.take (i := 11) (v := ?v11u20) (some 75) hE rfl rfl inv (by kernel_rfl) (by kernel_rfl) (by decide) (fun _ _ _ h => h) (Or.inl ⟨by rfl, ?y11u20⟩) (by assumption) (fun inv => ?r11u20)
              case y11u20 => (intro w' hSw; (try dsimp only at hSw); go_simp; (try with_reducible rfl))
              simp only [Act.put, List.setIfInBounds_toArray, List.set_cons_zero, List.set_cons_succ]
              refine Goes.take (i := 12) (v := ?v12u21) (some 76) hE rfl rfl inv (by kernel_rfl) (by kernel_rfl) (by decide) (fun _ _ _ h => h) (Or.inl ⟨by rfl, ?y12u21⟩) (by assumption) (fun inv => ?r12u21)
              case y12u21 => (intro w' hSw; (try dsimp only at hSw); go_simp; (try with_reducible rfl))
              simp only [Act.put, List.setIfInBounds_toArray, List.set_cons_zero, List.set_cons_succ]
              refine Goes.two (i := 0) (j := 7) inv (by kernel_rfl) (by decide) (by decide) rfl rfl (fun inv K' hK => ?_) (fun inv K' hK => ?_)
              · go_simp
                refine hK.out _ _ (and_of_below F1.out (by repeat (first | exact Below.refl _ _ | assumption | refine Below.drew ?_ | refine sorted.bdn ?_ _ | refine Below.alloc ?_ (by first | exact Nat.le_refl _ | exact Below.size (by assumption) | omega | (simp; done) | (simp; omega)) _))) (fun hHeld => ?_)
                clear hK K'
                refine Goes.two (i := 5) (j := 7) inv (by kernel_rfl) (by decide) (by decide) rfl rfl (fun inv K' hK => ?_) (fun inv K' hK => ?_)
                · refine step_append_src _ (by rfl) _ _ 23 (by rfl) (some 69) (by rfl) w4.heap.size 37 i0 (.slice none 0 0) 24 Try.underlying23 HI.out HZ0.out HZ1.out HZ2.out rfl (.slice (some ⟨w4.heap.size, 0, none⟩) 0 0) 0 [] (by rfl) (own_pass (own_newT w4.drew rfl (Nat.le_refl _)) (by repeat (first | exact Below.refl _ _ | assumption | refine Below.drew ?_ | refine sorted.bdn ?_ _ | refine Below.alloc ?_ (by first | exact Nat.le_refl _ | exact Below.size (by assumption) | omega | (simp; done) | (simp; omega)) _))) _ 0 ((([] : List (Value × List Int)).take 0).map Prod.fst) (by rfl) (HT.out _ (by repeat (first | exact Below.refl _ _ | assumption | refine Below.drew ?_ | refine sorted.bdn ?_ _ | refine Below.alloc ?_ (by first | exact Nat.le_refl _ | exact Below.size (by assumption) | omega | (simp; done) | (simp; omega)) _))) HT1.out (by unfold maxLen; omega) (by omega) (by first | (simp; done) | (simp; omega)) ?_
                  intro v1 wA hv1 hgv1
                  have hBv1 : Below w4.heap.size w4 wA := Below.grown (by repeat (first | exact Below.refl _ _ | assumption | refine Below.drew ?_ | refine sorted.bdn ?_ _ | refine Below.alloc ?_ (by first | exact Nat.le_refl _ | exact Below.size (by assumption) | omega | (simp; done) | (simp; omega)) _)) hgv1 (by first | (simp; done) | (simp; omega)) (fun k hk => by cases hk; dsimp only; omega)
                  clear hgv1
                  refine hK.out _ _ (and_of_below F1.out (by repeat (first | exact Below.refl _ _ | assumption | refine Below.drew ?_ | refine sorted.bdn ?_ _ | refine Below.alloc ?_ (by first | exact Nat.le_refl _ | exact Below.size (by assumption) | omega | (simp; done) | (simp; omega)) _))) (fun hHeld => ?_)
                  clear hK K'
                  simp only [Act.put, List.setIfInBounds_toArray, List.set_cons_zero, List.set_cons_succ]
                  refine Goes.one (i := 7) inv (by kernel_rfl) (by decide) rfl (fun inv K' hK => ?_)
                  go_simp
                  refine hK.out _ _ (and_of_below F1.out (by repeat (first | exact Below.refl _ _ | assumption | refine Below.drew ?_ | refine sorted.bdn ?_ _ | refine Below.alloc ?_ (by first | exact Nat.le_refl _ | exact Below.size (by assumption) | omega | (simp; done) | (simp; omega)) _))) (fun hHeld => ?_)
                  clear hK K'
                  refine Goes.one (i := 8) inv (by kernel_rfl) (by decide) rfl (fun inv K' hK => ?_)
                  refine step_append_src _ (by rfl) _ _ 23 (by rfl) (some 72) (by rfl) w4.heap.size 37 i0 (.slice none 0 0) 24 Try.underlying23 HI.out HZ0.out HZ1.out HZ2.out rfl v1 (0 + 0) ([] ++ (([] : List (Value × List Int)).take 0).map Prod.fst) (by rfl) (own_pass hv1 (by repeat (first | exact Below.refl _ _ | assumption | refine Below.drew ?_ | refine sorted.bdn ?_ _ | refine Below.alloc ?_ (by first | exact Nat.le_refl _ | exact Below.size (by assumption) | omega | (simp; done) | (simp; omega)) _))) _ 1 [.slice ay oz.length cy] (by rfl) (.inr ⟨⟨wA.heap.size, 0, none⟩, 1, rfl, rfl, cell_one_new _ _ _⟩) (fun u hu => by simp at hu; subst hu; rfl) (by unfold maxLen; omega) (by omega) (by have := hBv1.size; first | exact this | (simp; omega)) ?_
                  intro v2 wB hv2 hgv2
                  have hBv2 : Below w4.heap.size w4 wB := Below.grown (by repeat (first | exact Below.refl _ _ | assumption | refine Below.drew ?_ | refine sorted.bdn ?_ _ | refine Below.alloc ?_ (by first | exact Nat.le_refl _ | exact Below.size (by assumption) | omega | (simp; done) | (simp; omega)) _)) hgv2 (by have := hBv1.size; first | exact this | (simp; omega)) (fun k hk => (World.ownsRow.lt hv1 k hk).1)
                  clear hgv2
                  refine hK.out _ _ (and_of_below F1.out (by repeat (first | exact Below.refl _ _ | assumption | refine Below.drew ?_ | refine sorted.bdn ?_ _ | refine Below.alloc ?_ (by first | exact Nat.le_refl _ | exact Below.size (by assumption) | omega | (simp; done) | (simp; omega)) _))) (fun hHeld => ?_)
                  clear hK K'
                  simp only [Act.put, List.setIfInBounds_toArray, List.set_cons_zero, List.set_cons_succ]
                  refine Goes.one (i := 13) inv (by kernel_rfl) (by decide) rfl (fun inv K' hK => ?_)
                  refine step_append_src _ (by rfl) _ _ 23 (by rfl) (some 77) (by rfl) w4.heap.size 37 i0 (.slice none 0 0) 24 Try.underlying23 HI.out HZ0.out HZ1.out HZ2.out rfl v2 (0 + 0 + 1) ([] ++ (([] : List (Value × List Int)).take 0).map Prod.fst ++ [.slice ay oz.length cy]) (by rfl) (own_pass hv2 (by repeat (first | exact Below.refl _ _ | assumption | refine Below.drew ?_ | refine sorted.bdn ?_ _ | refine Below.alloc ?_ (by first | exact Nat.le_refl _ | exact Below.size (by assumption) | omega | (simp; done) | (simp; omega)) _))) _ (0 - 0) ((([] : List (Value × List Int)).drop 0).map Prod.fst) (by rfl) (HD.out _ (by repeat (first | exact Below.refl _ _ | assumption | refine Below.drew ?_ | refine sorted.bdn ?_ _ | refine Below.alloc ?_ (by first | exact Nat.le_refl _ | exact Below.size (by assumption) | omega | (simp; done) | (simp; omega)) _))) HD1.out (by unfold maxLen; omega) (by omega) (by have := hBv2.size; first | exact this | (simp; omega)) ?_
                  intro v3 wC hv3 hgv3
                  have hBv3 : Below w4.heap.size w4 wC := Below.grown (by repeat (first | exact Below.refl _ _ | assumption | refine Below.drew ?_ | refine sorted.bdn ?_ _ | refine Below.alloc ?_ (by first | exact Nat.le_refl _ | exact Below.size (by assumption) | omega | (simp; done) | (simp; omega)) _)) hgv3 (by have := hBv2.size; first | exact this | (simp; omega)) (fun k hk => (World.ownsRow.lt hv2 k hk).1)
                  clear hgv3
                  obtain ⟨g', c', n', hv3', hn', hrows⟩ := ins_rows (j := 0) HOw.out HOyw.out hv3 hBv3 HSw.out (Nat.lt_succ_self w1.heap.size)
                  subst hv3'
                  have HN := hid hn'
                  clear hn'
                  have HRows := hid hrows
                  have hfz : wC.frozen? ⟨w1.heap.size, 1, none⟩ = false := by rw [hBv3.frozen (p := ⟨w1.heap.size, 1, none⟩) (by dsimp only; exact HSw.out)]; exact F2.out
                  clear hrows hv1 hv2 hv3
                  refine hK.out _ _ (and_of_below F1.out (by repeat (first | exact Below.refl _ _ | assumption | refine Below.drew ?_ | refine sorted.bdn ?_ _ | refine Below.alloc ?_ (by first | exact Nat.le_refl _ | exact Below.size (by assumption) | omega | (simp; done) | (simp; omega)) _))) (fun hHeld => ?_)
                  clear hK K'
                  simp only [Act.put, List.setIfInBounds_toArray, List.set_cons_zero, List.set_cons_succ]
                  refine Goes.take (i := 14) (v := ?v14u22) (some 78) hE rfl rfl inv (by kernel_rfl) (by kernel_rfl) (by decide) (fun _ _ _ h => h) (Or.inl ⟨by rfl, ?y14u22⟩) (by assumption) (fun inv => ?r14u22)
                  case y14u22 => (intro w' hSw; (try dsimp only at hSw); go_simp; (try with_reducible rfl))
                  simp only [Act.put, List.setIfInBounds_toArray, List.set_cons_zero, List.set_cons_succ]
                  refine Goes.last (by kernel_rfl) (by kernel_rfl) rfl (fun K' hK => ?_)
                  obtain ⟨hcC, _⟩ := hHeld
                  go_simp
                  refine hK.out _ _ ?_
                  clear hK K'
                  have hc1 := World.cell?_setCell_same wC ⟨w1.heap.size, 1, none⟩ (.slice (some ⟨g', 0, none⟩) n' c') hcC
                  have hc0 : (wC.setCell ⟨w1.heap.size, 1, none⟩ (.slice (some ⟨g', 0, none⟩) n' c')).cell? ⟨w1.heap.size, 0, none⟩ = some (.int .i64 vars) := by rw [World.cell?_setCell_other _ _ _ _ (by simp)]; exact keep hBv3 F0.out
                  have HC1 := hid hc1
                  have HC0 := hid hc0
                  clear hc1 hc0 hcC
                  (try simp only [Exit.inBlock, Exit.then])
                  go_wp2
                  exact ⟨⟨k + 1, _, c', some ⟨g', 0, none⟩, _, by omega, by go_num, HC0.out, HC1.out, by rw [World.frozen?_setCell]; exact hfz, HN.out, by have := HPn.out; rw [← HN.out]; first | (simp; done) | (simp; omega), by have := hBv3.size; have := HSw.out; simp; omega, HRows.out, HPut.out.1, fun z => by rw [HK2.out, List.mem_append, List.mem_singleton, HPut.out.2 z], (HBw.out.trans (hBv3.mono HBw.out.size)).setCell (Nat.le_refl _) _⟩, by simp [intOf]; omega⟩
                · go_simp
                  refine hK.out _ _ (and_of_below F1.out (by repeat (first | exact Below.refl _ _ | assumption | refine Below.drew ?_ | refine sorted.bdn ?_ _ | refine Below.alloc ?_ (by first | exact Nat.le_refl _ | exact Below.size (by assumption) | omega | (simp; done) | (simp; omega)) _))) (fun hHeld => ?_)
                  clear hK K'
                  refine Goes.one (i := 5) inv (by kernel_rfl) (by decide) rfl (fun inv K' hK => ?_)
                  refine step_append_src _ (by rfl) _ _ 23 (by rfl) (some 69) (by rfl) w4.heap.size 37 i0 (.slice none 0 0) 24 Try.underlying23 HI.out HZ0.out HZ1.out HZ2.out rfl (.slice (some ⟨w4.heap.size, 0, none⟩) 0 0) 0 [] (by rfl) (own_pass (own_newT w4 rfl (Nat.le_refl _)) (by repeat (first | exact Below.refl _ _ | assumption | refine Below.drew ?_ | refine sorted.bdn ?_ _ | refine Below.alloc ?_ (by first | exact Nat.le_refl _ | exact Below.size (by assumption) | omega | (simp; done) | (simp; omega)) _))) _ 0 ((([] : List (Value × List Int)).take 0).map Prod.fst) (by rfl) (HT.out _ (by repeat (first | exact Below.refl _ _ | assumption | refine Below.drew ?_ | refine sorted.bdn ?_ _ | refine Below.alloc ?_ (by first | exact Nat.le_refl _ | exact Below.size (by assumption) | omega | (simp; done) | (simp; omega)) _))) HT1.out (by unfold maxLen; omega) (by omega) (by first | (simp; done) | (simp; omega)) ?_
                  intro v1 wA hv1 hgv1
                  have hBv1 : Below w4.heap.size w4 wA := Below.grown (by repeat (first | exact Below.refl _ _ | assumption | refine Below.drew ?_ | refine sorted.bdn ?_ _ | refine Below.alloc ?_ (by first | exact Nat.le_refl _ | exact Below.size (by assumption) | omega | (simp; done) | (simp; omega)) _)) hgv1 (by first | (simp; done) | (simp; omega)) (fun k hk => by cases hk; dsimp only; omega)
                  have hxc : wA.cell? ⟨w4.heap.size + 1, 0, none⟩ = some (.slice ay oz.length cy) := by rw [hgv1.cell_far _ (by first | (simp; done) | (simp; omega)) (by simp [Value.ownBlock])]; simp [go_sem]
                  clear hgv1
                  refine hK.out _ _ (and_of_below F1.out (by repeat (first | exact Below.refl _ _ | assumption | refine Below.drew ?_ | refine sorted.bdn ?_ _ | refine Below.alloc ?_ (by first | exact Nat.le_refl _ | exact Below.size (by assumption) | omega | (simp; done) | (simp; omega)) _))) (fun hHeld => ?_)
                  clear hK K'
                  simp only [Act.put, List.setIfInBounds_toArray, List.set_cons_zero, List.set_cons_succ]
                  refine Goes.one (i := 8) inv (by kernel_rfl) (by decide) rfl (fun inv K' hK => ?_)
                  refine step_append_src _ (by rfl) _ _ 23 (by rfl) (some 72) (by rfl) w4.heap.size 37 i0 (.slice none 0 0) 24 Try.underlying23 HI.out HZ0.out HZ1.out HZ2.out rfl v1 (0 + 0) ([] ++ (([] : List (Value × List Int)).take 0).map Prod.fst) (by rfl) (own_pass hv1 (by repeat (first | exact Below.refl _ _ | assumption | refine Below.drew ?_ | refine sorted.bdn ?_ _ | refine Below.alloc ?_ (by first | exact Nat.le_refl _ | exact Below.size (by assumption) | omega | (simp; done) | (simp; omega)) _))) _ 1 [.slice ay oz.length cy] (by rfl) (.inr ⟨⟨w4.heap.size + 1, 0, none⟩, 1, rfl, rfl, one_news hxc⟩) (fun u hu => by simp at hu; subst hu; rfl) (by unfold maxLen; omega) (by omega) (by have := hBv1.size; first | exact this | (simp; omega)) ?_
                  intro v2 wB hv2 hgv2
                  have hBv2 : Below w4.heap.size w4 wB := Below.grown (by repeat (first | exact Below.refl _ _ | assumption | refine Below.drew ?_ | refine sorted.bdn ?_ _ | refine Below.alloc ?_ (by first | exact Nat.le_refl _ | exact Below.size (by assumption) | omega | (simp; done) | (simp; omega)) _)) hgv2 (by have := hBv1.size; first | exact this | (simp; omega)) (fun k hk => (World.ownsRow.lt hv1 k hk).1)
                  clear hgv2
                  refine hK.out _ _ (and_of_below F1.out (by repeat (first | exact Below.refl _ _ | assumption | refine Below.drew ?_ | refine sorted.bdn ?_ _ | refine Below.alloc ?_ (by first | exact Nat.le_refl _ | exact Below.size (by assumption) | omega | (simp; done) | (simp; omega)) _))) (fun hHeld => ?_)
                  clear hK K'
                  simp only [Act.put, List.setIfInBounds_toArray, List.set_cons_zero, List.set_cons_succ]
                  refine Goes.one (i := 13) inv (by kernel_rfl) (by decide) rfl (fun inv K' hK => ?_)
                  refine step_append_src _ (by rfl) _ _ 23 (by rfl) (some 77) (by rfl) w4.heap.size 37 i0 (.slice none 0 0) 24 Try.underlying23 HI.out HZ0.out HZ1.out HZ2.out rfl v2 (0 + 0 + 1) ([] ++ (([] : List (Value × List Int)).take 0).map Prod.fst ++ [.slice ay oz.length cy]) (by rfl) (own_pass hv2 (by repeat (first | exact Below.refl _ _ | assumption | refine Below.drew ?_ | refine sorted.bdn ?_ _ | refine Below.alloc ?_ (by first | exact Nat.le_refl _ | exact Below.size (by assumption) | omega | (simp; done) | (simp; omega)) _))) _ (0 - 0) ((([] : List (Value × List Int)).drop 0).map Prod.fst) (by rfl) (HD.out _ (by repeat (first | exact Below.refl _ _ | assumption | refine Below.drew ?_ | refine sorted.bdn ?_ _ | refine Below.alloc ?_ (by first | exact Nat.le_refl _ | exact Below.size (by assumption) | omega | (simp; done) | (simp; omega)) _))) HD1.out (by unfold maxLen; omega) (by omega) (by have := hBv2.size; first | exact this | (simp; omega)) ?_
                  intro v3 wC hv3 hgv3
                  have hBv3 : Below w4.heap.size w4 wC := Below.grown (by repeat (first | exact Below.refl _ _ | assumption | refine Below.drew ?_ | refine sorted.bdn ?_ _ | refine Below.alloc ?_ (by first | exact Nat.le_refl _ | exact Below.size (by assumption) | omega | (simp; done) | (simp; omega)) _)) hgv3 (by have := hBv2.size; first | exact this | (simp; omega)) (fun k hk => (World.ownsRow.lt hv2 k hk).1)
                  clear hgv3
                  obtain ⟨g', c', n', hv3', hn', hrows⟩ := ins_rows (j := 0) HOw.out HOyw.out hv3 hBv3 HSw.out (Nat.lt_succ_self w1.heap.size)
                  subst hv3'
                  have HN := hid hn'
                  clear hn'
                  have HRows := hid hrows
                  have hfz : wC.frozen? ⟨w1.heap.size, 1, none⟩ = false := by rw [hBv3.frozen (p := ⟨w1.heap.size, 1, none⟩) (by dsimp only; exact HSw.out)]; exact F2.out
                  clear hrows hv1 hv2 hv3
                  refine hK.out _ _ (and_of_below F1.out (by repeat (first | exact Below.refl _ _ | assumption | refine Below.drew ?_ | refine sorted.bdn ?_ _ | refine Below.alloc ?_ (by first | exact Nat.le_refl _ | exact Below.size (by assumption) | omega | (simp; done) | (simp; omega)) _))) (fun hHeld => ?_)
                  clear hK K'
                  simp only [Act.put, List.setIfInBounds_toArray, List.set_cons_zero, List.set_cons_succ]
                  refine Goes.take (i := 14) (v := ?v14u23) (some 78) hE rfl rfl inv (by kernel_rfl) (by kernel_rfl) (by decide) (fun _ _ _ h => h) (Or.inl ⟨by rfl, ?y14u23⟩) (by assumption) (fun inv => ?r14u23)
                  case y14u23 => (intro w' hSw; (try dsimp only at hSw); go_simp; (try with_reducible rfl))
                  simp only [Act.put, List.setIfInBounds_toArray, List.set_cons_zero, List.set_cons_succ]
                  refine Goes.last (by kernel_rfl) (by kernel_rfl) rfl (fun K' hK => ?_)
                  obtain ⟨hcC, _⟩ := hHeld
                  go_simp
                  refine hK.out _ _ ?_
                  clear hK K'
                  have hc1 := World.cell?_setCell_same wC ⟨w1.heap.size, 1, none⟩ (.slice (some ⟨g', 0, none⟩) n' c') hcC
                  have hc0 : (wC.setCell ⟨w1.heap.size, 1, none⟩ (.slice (some ⟨g', 0, none⟩) n' c')).cell? ⟨w1.heap.size, 0, none⟩ = some (.int .i64 vars) := by rw [World.cell?_setCell_other _ _ _ _ (by simp)]; exact keep hBv3 F0.out
                  have HC1 := hid hc1
                  have HC0 := hid hc0
                  clear hc1 hc0 hcC
                  (try simp only [Exit.inBlock, Exit.then])
                  go_wp2
                  exact ⟨⟨k + 1, _, c', some ⟨g', 0, none⟩, _, by omega, by go_num, HC0.out, HC1.out, by rw [World.frozen?_setCell]; exact hfz, HN.out, by have := HPn.out; rw [← HN.out]; first | (simp; done) | (simp; omega), by have := hBv3.size; have := HSw.out; simp; omega, HRows.out, HPut.out.1, fun z => by rw [HK2.out, List.mem_append, List.mem_singleton, HPut.out.2 z], (HBw.out.trans (hBv3.mono HBw.out.size)).setCell (Nat.le_refl _) _⟩, by simp [intOf]; omega⟩
              · go_simp
                refine hK.out _ _ (and_of_below F1.out (by repeat (first | exact Below.refl _ _ | assumption | refine Below.drew ?_ | refine sorted.bdn ?_ _ | refine Below.alloc ?_ (by first | exact Nat.le_refl _ | exact Below.size (by assumption) | omega | (simp; done) | (simp; omega)) _))) (fun hHeld => ?_)
                clear hK K'
                refine Goes.one (i := 0) inv (by kernel_rfl) (by decide) rfl (fun inv K' hK => ?_)
                go_simp
                refine hK.out _ _ (and_of_below F1.out (by repeat (first | exact Below.refl _ _ | assumption | refine Below.drew ?_ | refine sorted.bdn ?_ _ | refine Below.alloc ?_ (by first | exact Nat.le_refl _ | exact Below.size (by assumption) | omega | (simp; done) | (simp; omega)) _))) (fun hHeld => ?_)
                clear hK K'
                refine Goes.one (i := 5) inv (by kernel_rfl) (by decide) rfl (fun inv K' hK => ?_)
                refine step_append_src _ (by rfl) _ _ 23 (by rfl) (some 69) (by rfl) w4.heap.size 37 i0 (.slice none 0 0) 24 Try.underlying23 HI.out HZ0.out HZ1.out HZ2.out rfl (.slice (some ⟨w4.heap.size + 1, 0, none⟩) 0 0) 0 [] (by rfl) (own_newT _ (by simp) (by omega)) _ 0 ((([] : List (Value × List Int)).take 0).map Prod.fst) (by rfl) (HT.out _ (by repeat (first | exact Below.refl _ _ | assumption | refine Below.drew ?_ | refine sorted.bdn ?_ _ | refine Below.alloc ?_ (by first | exact Nat.le_refl _ | exact Below.size (by assumption) | omega | (simp; done) | (simp; omega)) _))) HT1.out (by unfold maxLen; omega) (by omega) (by first | (simp; done) | (simp; omega)) ?_
                intro v1 wA hv1 hgv1
                have hBv1 : Below w4.heap.size w4 wA := Below.grown (by repeat (first | exact Below.refl _ _ | assumption | refine Below.drew ?_ | refine sorted.bdn ?_ _ | refine Below.alloc ?_ (by first | exact Nat.le_refl _ | exact Below.size (by assumption) | omega | (simp; done) | (simp; omega)) _)) hgv1 (by first | (simp; done) | (simp; omega)) (fun k hk => by cases hk; dsimp only; omega)
                have hxc : wA.cell? ⟨w4.heap.size, 0, none⟩ = some (.slice ay oz.length cy) := (hgv1.cell_far ⟨w4.heap.size, 0, none⟩ (by simp; omega) (ne_row _)).trans (keep (W := w4.alloc (.cells #[.slice ay oz.length cy] 37)) (by repeat (first | exact Below.refl _ _ | assumption | refine Below.drew ?_ | refine sorted.bdn ?_ _ | refine Below.alloc ?_ (by first | exact Nat.le_refl _ | exact Below.size (by assumption) | omega | (simp; done) | (simp; omega)) _)) (new_cell rfl))
                clear hgv1
                refine hK.out _ _ (and_of_below F1.out (by repeat (first | exact Below.refl _ _ | assumption | refine Below.drew ?_ | refine sorted.bdn ?_ _ | refine Below.alloc ?_ (by first | exact Nat.le_refl _ | exact Below.size (by assumption) | omega | (simp; done) | (simp; omega)) _))) (fun hHeld => ?_)
                clear hK K'
                simp only [Act.put, List.setIfInBounds_toArray, List.set_cons_zero, List.set_cons_succ]
                refine Goes.one (i := 8) inv (by kernel_rfl) (by decide) rfl (fun inv K' hK => ?_)
                refine step_append_src _ (by rfl) _ _ 23 (by rfl) (some 72) (by rfl) w4.heap.size 37 i0 (.slice none 0 0) 24 Try.underlying23 HI.out HZ0.out HZ1.out HZ2.out rfl v1 (0 + 0) ([] ++ (([] : List (Value × List Int)).take 0).map Prod.fst) (by rfl) (own_pass hv1 (by repeat (first | exact Below.refl _ _ | assumption | refine Below.drew ?_ | refine sorted.bdn ?_ _ | refine Below.alloc ?_ (by first | exact Nat.le_refl _ | exact Below.size (by assumption) | omega | (simp; done) | (simp; omega)) _))) _ 1 [.slice ay oz.length cy] (by rfl) (.inr ⟨⟨w4.heap.size, 0, none⟩, 1, rfl, rfl, one_news hxc⟩) (fun u hu => by simp at hu; subst hu; rfl) (by unfold maxLen; omega) (by omega) (by have := hBv1.size; first | exact this | (simp; omega)) ?_
                intro v2 wB hv2 hgv2
                have hBv2 : Below w4.heap.size w4 wB := Below.grown (by repeat (first | exact Below.refl _ _ | assumption | refine Below.drew ?_ | refine sorted.bdn ?_ _ | refine Below.alloc ?_ (by first | exact Nat.le_refl _ | exact Below.size (by assumption) | omega | (simp; done) | (simp; omega)) _)) hgv2 (by have := hBv1.size; first | exact this | (simp; omega)) (fun k hk => (World.ownsRow.lt hv1 k hk).1)
                clear hgv2
                refine hK.out _ _ (and_of_below F1.out (by repeat (first | exact Below.refl _ _ | assumption | refine Below.drew ?_ | refine sorted.bdn ?_ _ | refine Below.alloc ?_ (by first | exact Nat.le_refl _ | exact Below.size (by assumption) | omega | (simp; done) | (simp; omega)) _))) (fun hHeld => ?_)
                clear hK K'
                simp only [Act.put, List.setIfInBounds_toArray, List.set_cons_zero, List.set_cons_succ]
                refine Goes.one (i := 13) inv (by kernel_rfl) (by decide) rfl (fun inv K' hK => ?_)
                refine step_append_src _ (by rfl) _ _ 23 (by rfl) (some 77) (by rfl) w4.heap.size 37 i0 (.slice none 0 0) 24 Try.underlying23 HI.out HZ0.out HZ1.out HZ2.out rfl v2 (0 + 0 + 1) ([] ++ (([] : List (Value × List Int)).take 0).map Prod.fst ++ [.slice ay oz.length cy]) (by rfl) (own_pass hv2 (by repeat (first | exact Below.refl _ _ | assumption | refine Below.drew ?_ | refine sorted.bdn ?_ _ | refine Below.alloc ?_ (by first | exact Nat.le_refl _ | exact Below.size (by assumption) | omega | (simp; done) | (simp; omega)) _))) _ (0 - 0) ((([] : List (Value × List Int)).drop 0).map Prod.fst) (by rfl) (HD.out _ (by repeat (first | exact Below.refl _ _ | assumption | refine Below.drew ?_ | refine sorted.bdn ?_ _ | refine Below.alloc ?_ (by first | exact Nat.le_refl _ | exact Below.size (by assumption) | omega | (simp; done) | (simp; omega)) _))) HD1.out (by unfold maxLen; omega) (by omega) (by have := hBv2.size; first | exact this | (simp; omega)) ?_
                intro v3 wC hv3 hgv3
                have hBv3 : Below w4.heap.size w4 wC := Below.grown (by repeat (first | exact Below.refl _ _ | assumption | refine Below.drew ?_ | refine sorted.bdn ?_ _ | refine Below.alloc ?_ (by first | exact Nat.le_refl _ | exact Below.size (by assumption) | omega | (simp; done) | (simp; omega)) _)) hgv3 (by have := hBv2.size; first | exact this | (simp; omega)) (fun k hk => (World.ownsRow.lt hv2 k hk).1)
                clear hgv3
                obtain ⟨g', c', n', hv3', hn', hrows⟩ := ins_rows (j := 0) HOw.out HOyw.out hv3 hBv3 HSw.out (Nat.lt_succ_self w1.heap.size)
                subst hv3'
                have HN := hid hn'
                clear hn'
                have HRows := hid hrows
                have hfz : wC.frozen? ⟨w1.heap.size, 1, none⟩ = false := by rw [hBv3.frozen (p := ⟨w1.heap.size, 1, none⟩) (by dsimp only; exact HSw.out)]; exact F2.out
                clear hrows hv1 hv2 hv3
                refine hK.out _ _ (and_of_below F1.out (by repeat (first | exact Below.refl _ _ | assumption | refine Below.drew ?_ | refine sorted.bdn ?_ _ | refine Below.alloc ?_ (by first | exact Nat.le_refl _ | exact Below.size (by assumption) | omega | (simp; done) | (simp; omega)) _))) (fun hHeld => ?_)
                clear hK K'
                simp only [Act.put, List.setIfInBounds_toArray, List.set_cons_zero, List.set_cons_succ]
                refine Goes.take (i := 14) (v := ?v14u24) (some 78) hE rfl rfl inv (by kernel_rfl) (by kernel_rfl) (by decide) (fun _ _ _ h => h) (Or.inl ⟨by rfl, ?y14u24⟩) (by assumption) (fun inv => ?r14u24)
                case y14u24 => (intro w' hSw; (try dsimp only at hSw); go_simp; (try with_reducible rfl))
                simp only [Act.put, List.setIfInBounds_toArray, List.set_cons_zero, List.set_cons_succ]
                refine Goes.last (by kernel_rfl) (by kernel_rfl) rfl (fun K' hK => ?_)
                obtain ⟨hcC, _⟩ := hHeld
                go_simp
                refine hK.out _ _ ?_
                clear hK K'
                have hc1 := World.cell?_setCell_same wC ⟨w1.heap.size, 1, none⟩ (.slice (some ⟨g', 0, none⟩) n' c') hcC
                have hc0 : (wC.setCell ⟨w1.heap.size, 1, none⟩ (.slice (some ⟨g', 0, none⟩) n' c')).cell? ⟨w1.heap.size, 0, none⟩ = some (.int .i64 vars) := by rw [World.cell?_setCell_other _ _ _ _ (by simp)]; exact keep hBv3 F0.out
                have HC1 := hid hc1
                have HC0 := hid hc0
                clear hc1 hc0 hcC
                (try simp only [Exit.inBlock, Exit.then])
                go_wp2
                exact ⟨⟨k + 1, _, c', some ⟨g', 0, none⟩, _, by omega, by go_num, HC0.out, HC1.out, by rw [World.frozen?_setCell]; exact hfz, HN.out, by have := HPn.out; rw [← HN.out]; first | (simp; done) | (simp; omega), by have := hBv3.size; have := HSw.out; simp; omega, HRows.out, HPut.out.1, fun z => by rw [HK2.out, List.mem_append, List.mem_singleton, HPut.out.2 z], (HBw.out.trans (hBv3.mono HBw.out.size)).setCell (Nat.le_refl _) _⟩, by simp [intOf]; omega⟩
            · subst hp
              have i1 : (0 : Int) ≤ (j : Int) := by omega
              have i2 : (j : Int) ≤ (n : Int) := by omega
              have i3 : (n : Int) ≤ (c : Int) := by omega
              have i4 : (j : Int) ≤ (c : Int) := by omega
              go_wp2
              clear f0 f1 f2
              have HT : Hid (∀ w1 : World, Below w4.heap.size w4 w1 → SrcOf w1 (.slice (some ⟨g, 0, none⟩) j c) j ((ps.take j).map Prod.fst)) := fun w1 h => .inr ⟨⟨g, 0, none⟩, c, rfl, by rw [List.length_map, List.length_take, HPn.out]; omega, take_rows HOw.out h⟩
              have HT1 := hid (one_rows (B := w1.heap.size + 1) (w := w4) (ps := ps.take j) (fun p hp => HOw.out.inner p (List.mem_of_mem_take hp)))
              have HD1 := hid (one_rows (B := w1.heap.size + 1) (w := w4) (ps := ps.drop j) (fun p hp => HOw.out.inner p (List.mem_of_mem_drop hp)))
              by_cases i5 : c = j
              · have HD : Hid (∀ w1 : World, Below w4.heap.size w4 w1 → SrcOf w1 (.slice (some ⟨g, 0, none⟩) (n - j) 0) (n - j) ((ps.drop j).map Prod.fst)) := fun w1 h => .inr ⟨⟨g, 0, none⟩, 0, rfl, by rw [List.length_map, List.length_drop, HPn.out]; omega, fun i u hu => by rw [List.drop_of_length_le (by rw [HPn.out]; omega)] at hu; simp at hu⟩
                replace HT : Hid (∀ w1 : World, Below w4.heap.size w4 w1 → SrcOf w1 (.slice (some ⟨g, 0, none⟩) j j) j ((ps.take j).map Prod.fst)) := by
                  have h := HT.out
                  rw [i5] at h
                  exact h
                refine region_goes 15 16 (fun w' => w'.cell? ⟨w1.heap.size, 1, none⟩ = some (.slice (some ⟨g, 0, none⟩) n c) ∧ Below w4.heap.size w4 w') (by kernel_rfl) (by rfl) ⟨by kernel_rfl, by kernel_rfl, by kernel_rfl, by decide⟩ (and_of_below F1.out (by repeat (first | exact Below.refl _ _ | assumption | refine Below.drew ?_ | refine sorted.bdn ?_ _ | refine Below.alloc ?_ (by first | exact Nat.le_refl _ | exact Below.size (by assumption) | omega | (simp; done) | (simp; omega)) _))) (fun hE inv hHeld => ?_)
                refine Goes.take (i := 1) (v := ?v1u25) (some 65) hE rfl rfl inv (by kernel_rfl) (by kernel_rfl) (by decide) (fun _ _ _ h => h) (Or.inl ⟨by rfl, ?y1u25⟩) (by assumption) (fun inv => ?r1u25)
                case y1u25 => (intro w' hSw; (try dsimp only at hSw); go_simp; (try with_reducible rfl))
                simp only [Act.put, List.setIfInBounds_toArray, List.set_cons_zero, List.set_cons_succ]
                refine Goes.take (i := 2) (v := ?v2u26) (some 66) hE rfl rfl inv (by kernel_rfl) (by kernel_rfl) (by decide) (fun _ _ _ h => h) (Or.inl ⟨by rfl, ?y2u26⟩) (by assumption) (fun inv => ?r2u26)
                case y2u26 => (intro w' hSw; (try dsimp only at hSw); go_simp; (try with_reducible rfl))
                simp only [Act.put, List.setIfInBounds_toArray, List.set_cons_zero, List.set_cons_succ]
                refine Goes.take (i := 3) (v := ?v3u27) (some 67) hE rfl rfl inv (by kernel_rfl) (by kernel_rfl) (by decide) (fun _ _ _ h => h) (Or.inl ⟨by rfl, ?y3u27⟩) (by assumption) (fun inv => ?r3u27)
                case y3u27 => (intro w' hSw; (try dsimp only at hSw); go_simp; (try with_reducible rfl))
                simp only [Act.put, List.setIfInBounds_toArray, List.set_cons_zero, List.set_cons_succ]
                refine Goes.take (i := 4) (v := ?v4u28) (some 68) hE rfl rfl inv (by kernel_rfl) (by kernel_rfl) (by decide) (fun _ _ _ h => h) (Or.inl ⟨by rfl, ?y4u28⟩) (by assumption) (fun inv => ?r4u28)
                case y4u28 => (intro w' hSw; (try dsimp only at hSw); go_simp; (try with_reducible rfl))
                simp only [Act.put, List.setIfInBounds_toArray, List.set_cons_zero, List.set_cons_succ]
                refine Goes.take (i := 6) (v := ?v6u29) (some 70) hE rfl rfl inv (by kernel_rfl) (by kernel_rfl) (by decide) (fun _ _ _ h => h) (Or.inl ⟨by rfl, ?y6u29⟩) (by assumption) (fun inv => ?r6u29)
                case y6u29 => (intro w' hSw; (try dsimp only at hSw); go_simp; (try with_reducible rfl))
                simp only [Act.put, List.setIfInBounds_toArray, List.set_cons_zero, List.set_cons_succ]
                refine Goes.take (i := 9) (v := ?v9u30) (some 73) hE rfl rfl inv (by kernel_rfl) (by kernel_rfl) (by decide) (fun _ _ _ h => h) (Or.inl ⟨by rfl, ?y9u30⟩) (by assumption) (fun inv => ?r9u30)
                case y9u30 => (intro w' hSw; (try dsimp only at hSw); go_simp; (try with_reducible rfl))
                simp only [Act.put, List.setIfInBounds_toArray, List.set_cons_zero, List.set_cons_succ]
                refine Goes.take (i := 10) (v := ?v10u31) (some 74) hE rfl rfl inv (by kernel_rfl) (by kernel_rfl) (by decide) (fun _ _ _ h => h) (Or.inl ⟨by rfl, ?y10u31⟩) (by assumption) (fun inv => ?r10u31)
                case y10u31 => (intro w' hSw; (try dsimp only at hSw); go_simp; (try with_reducible rfl))
                simp only [Act.put, List.setIfInBounds_toArray, List.set_cons_zero, List.set_cons_succ]
                refine Goes.take (i := 11) (v := ?v11u32) (some 75) hE rfl rfl inv (by kernel_rfl) (by kernel_rfl) (by decide) (fun _ _ _ h => h) (Or.inl ⟨by rfl, ?y11u32⟩) (by assumption) (fun inv => ?r11u32)
                case y11u32 => (intro w' hSw; (try dsimp only at hSw); go_simp; (try with_reducible rfl))
                simp only [Act.put, List.setIfInBounds_toArray, List.set_cons_zero, List.set_cons_succ]
                refine Goes.take (i := 12) (v := ?v12u33) (some 76) hE rfl rfl inv (by kernel_rfl) (by kernel_rfl) (by decide) (fun _ _ _ h => h) (Or.inl ⟨by rfl, ?y12u33⟩) (by assumption) (fun inv => ?r12u33)
                case y12u33 => (intro w' hSw; (try dsimp only at hSw); go_simp; (try with_reducible rfl))
                simp only [Act.put, List.setIfInBounds_toArray, List.set_cons_zero, List.set_cons_succ]
                refine Goes.two (i := 0) (j := 7) inv (by kernel_rfl) (by decide) (by decide) rfl rfl (fun inv K' hK => ?_) (fun inv K' hK => ?_)
                · go_simp
                  refine hK.out _ _ (and_of_below F1.out (by repeat (first | exact Below.refl _ _ | assumption | refine Below.drew ?_ | refine sorted.bdn ?_ _ | refine Below.alloc ?_ (by first | exact Nat.le_refl _ | exact Below.size (by assumption) | omega | (simp; done) | (simp; omega)) _))) (fun hHeld => ?_)
                  clear hK K'
                  refine Goes.two (i := 5) (j := 7) inv (by kernel_rfl) (by decide) (by decide) rfl rfl (fun inv K' hK => ?_) (fun inv K' hK => ?_)
                  · refine step_append_src _ (by rfl) _ _ 23 (by rfl) (some 69) (by rfl) w4.heap.size 37 i0 (.slice none 0 0) 24 Try.underlying23 HI.out HZ0.out HZ1.out HZ2.out rfl (.slice (some ⟨w4.heap.size, 0, none⟩) 0 0) 0 [] (by rfl) (own_pass (own_newT w4.drew rfl (Nat.le_refl _)) (by repeat (first | exact Below.refl _ _ | assumption | refine Below.drew ?_ | refine sorted.bdn ?_ _ | refine Below.alloc ?_ (by first | exact Nat.le_refl _ | exact Below.size (by assumption) | omega | (simp; done) | (simp; omega)) _))) _ j ((ps.take j).map Prod.fst) (by rfl) (HT.out _ (by repeat (first | exact Below.refl _ _ | assumption | refine Below.drew ?_ | refine sorted.bdn ?_ _ | refine Below.alloc ?_ (by first | exact Nat.le_refl _ | exact Below.size (by assumption) | omega | (simp; done) | (simp; omega)) _))) HT1.out (by unfold maxLen; omega) (by omega) (by first | (simp; done) | (simp; omega)) ?_
                    intro v1 wA hv1 hgv1
                    have hBv1 : Below w4.heap.size w4 wA := Below.grown (by repeat (first | exact Below.refl _ _ | assumption | refine Below.drew ?_ | refine sorted.bdn ?_ _ | refine Below.alloc ?_ (by first | exact Nat.le_refl _ | exact Below.size (by assumption) | omega | (simp; done) | (simp; omega)) _)) hgv1 (by first | (simp; done) | (simp; omega)) (fun k hk => by cases hk; dsimp only; omega)
                    clear hgv1
                    refine hK.out _ _ (and_of_below F1.out (by repeat (first | exact Below.refl _ _ | assumption | refine Below.drew ?_ | refine sorted.bdn ?_ _ | refine Below.alloc ?_ (by first | exact Nat.le_refl _ | exact Below.size (by assumption) | omega | (simp; done) | (simp; omega)) _))) (fun hHeld => ?_)
                    clear hK K'
                    simp only [Act.put, List.setIfInBounds_toArray, List.set_cons_zero, List.set_cons_succ]
                    refine Goes.one (i := 7) inv (by kernel_rfl) (by decide) rfl (fun inv K' hK => ?_)
                    go_simp
                    refine hK.out _ _ (and_of_below F1.out (by repeat (first | exact Below.refl _ _ | assumption | refine Below.drew ?_ | refine sorted.bdn ?_ _ | refine Below.alloc ?_ (by first | exact Nat.le_refl _ | exact Below.size (by assumption) | omega | (simp; done) | (simp; omega)) _))) (fun hHeld => ?_)
                    clear hK K'
                    refine Goes.one (i := 8) inv (by kernel_rfl) (by decide) rfl (fun inv K' hK => ?_)
                    refine step_append_src _ (by rfl) _ _ 23 (by rfl) (some 72) (by rfl) w4.heap.size 37 i0 (.slice none 0 0) 24 Try.underlying23 HI.out HZ0.out HZ1.out HZ2.out rfl v1 (0 + j) ([] ++ (ps.take j).map Prod.fst) (by rfl) (own_pass hv1 (by repeat (first | exact Below.refl _ _ | assumption | refine Below.drew ?_ | refine sorted.bdn ?_ _ | refine Below.alloc ?_ (by first | exact Nat.le_refl _ | exact Below.size (by assumption) | omega | (simp; done) | (simp; omega)) _))) _ 1 [.slice ay oz.length cy] (by rfl) (.inr ⟨⟨wA.heap.size, 0, none⟩, 1, rfl, rfl, cell_one_new _ _ _⟩) (fun u hu => by simp at hu; subst hu; rfl) (by unfold maxLen; omega) (by omega) (by have := hBv1.size; first | exact this | (simp; omega)) ?_
                    intro v2 wB hv2 hgv2
                    have hBv2 : Below w4.heap.size w4 wB := Below.grown (by repeat (first | exact Below.refl _ _ | assumption | refine Below.drew ?_ | refine sorted.bdn ?_ _ | refine Below.alloc ?_ (by first | exact Nat.le_refl _ | exact Below.size (by assumption) | omega | (simp; done) | (simp; omega)) _)) hgv2 (by have := hBv1.size; first | exact this | (simp; omega)) (fun k hk => (World.ownsRow.lt hv1 k hk).1)
                    clear hgv2
                    refine hK.out _ _ (and_of_below F1.out (by repeat (first | exact Below.refl _ _ | assumption | refine Below.drew ?_ | refine sorted.bdn ?_ _ | refine Below.alloc ?_ (by first | exact Nat.le_refl _ | exact Below.size (by assumption) | omega | (simp; done) | (simp; omega)) _))) (fun hHeld => ?_)
                    clear hK K'
                    simp only [Act.put, List.setIfInBounds_toArray, List.set_cons_zero, List.set_cons_succ]
                    refine Goes.one (i := 13) inv (by kernel_rfl) (by decide) rfl (fun inv K' hK => ?_)
                    refine step_append_src _ (by rfl) _ _ 23 (by rfl) (some 77) (by rfl) w4.heap.size 37 i0 (.slice none 0 0) 24 Try.underlying23 HI.out HZ0.out HZ1.out HZ2.out rfl v2 (0 + j + 1) ([] ++ (ps.take j).map Prod.fst ++ [.slice ay oz.length cy]) (by rfl) (own_pass hv2 (by repeat (first | exact Below.refl _ _ | assumption | refine Below.drew ?_ | refine sorted.bdn ?_ _ | refine Below.alloc ?_ (by first | exact Nat.le_refl _ | exact Below.size (by assumption) | omega | (simp; done) | (simp; omega)) _))) _ (n - j) ((ps.drop j).map Prod.fst) (by rfl) (HD.out _ (by repeat (first | exact Below.refl _ _ | assumption | refine Below.drew ?_ | refine sorted.bdn ?_ _ | refine Below.alloc ?_ (by first | exact Nat.le_refl _ | exact Below.size (by assumption) | omega | (simp; done) | (simp; omega)) _))) HD1.out (by unfold maxLen; omega) (by omega) (by have := hBv2.size; first | exact this | (simp; omega)) ?_
                    intro v3 wC hv3 hgv3
                    have hBv3 : Below w4.heap.size w4 wC := Below.grown (by repeat (first | exact Below.refl _ _ | assumption | refine Below.drew ?_ | refine sorted.bdn ?_ _ | refine Below.alloc ?_ (by first | exact Nat.le_refl _ | exact Below.size (by assumption) | omega | (simp; done) | (simp; omega)) _)) hgv3 (by have := hBv2.size; first | exact this | (simp; omega)) (fun k hk => (World.ownsRow.lt hv2 k hk).1)
                    clear hgv3
                    obtain ⟨g', c', n', hv3', hn', hrows⟩ := ins_rows (j := j) HOw.out HOyw.out hv3 hBv3 HSw.out (Nat.lt_succ_self w1.heap.size)
                    subst hv3'
                    have HN := hid hn'
                    clear hn'
                    have HRows := hid hrows
                    have hfz : wC.frozen? ⟨w1.heap.size, 1, none⟩ = false := by rw [hBv3.frozen (p := ⟨w1.heap.size, 1, none⟩) (by dsimp only; exact HSw.out)]; exact F2.out
                    clear hrows hv1 hv2 hv3
                    refine hK.out _ _ (and_of_below F1.out (by repeat (first | exact Below.refl _ _ | assumption | refine Below.drew ?_ | refine sorted.bdn ?_ _ | refine Below.alloc ?_ (by first | exact Nat.le_refl _ | exact Below.size (by assumption) | omega | (simp; done) | (simp; omega)) _))) (fun hHeld => ?_)
                    clear hK K'
                    simp only [Act.put, List.setIfInBounds_toArray, List.set_cons_zero, List.set_cons_succ]
                    refine Goes.take (i := 14) (v := ?v14u34) (some 78) hE rfl rfl inv (by kernel_rfl) (by kernel_rfl) (by decide) (fun _ _ _ h => h) (Or.inl ⟨by rfl, ?y14u34⟩) (by assumption) (fun inv => ?r14u34)
                    case y14u34 => (intro w' hSw; (try dsimp only at hSw); go_simp; (try with_reducible rfl))
                    simp only [Act.put, List.setIfInBounds_toArray, List.set_cons_zero, List.set_cons_succ]
                    refine Goes.last (by kernel_rfl) (by kernel_rfl) rfl (fun K' hK => ?_)
                    obtain ⟨hcC, _⟩ := hHeld
                    go_simp
                    refine hK.out _ _ ?_
                    clear hK K'
                    have hc1 := World.cell?_setCell_same wC ⟨w1.heap.size, 1, none⟩ (.slice (some ⟨g', 0, none⟩) n' c') hcC
                    have hc0 : (wC.setCell ⟨w1.heap.size, 1, none⟩ (.slice (some ⟨g', 0, none⟩) n' c')).cell? ⟨w1.heap.size, 0, none⟩ = some (.int .i64 vars) := by rw [World.cell?_setCell_other _ _ _ _ (by simp)]; exact keep hBv3 F0.out
                    have HC1 := hid hc1
                    have HC0 := hid hc0
                    clear hc1 hc0 hcC
                    (try simp only [Exit.inBlock, Exit.then])
                    go_wp2
                    exact ⟨⟨k + 1, _, c', some ⟨g', 0, none⟩, _, by omega, by go_num, HC0.out, HC1.out, by rw [World.frozen?_setCell]; exact hfz, HN.out, by have := HPn.out; rw [← HN.out]; first | (simp; done) | (simp; omega), by have := hBv3.size; have := HSw.out; simp; omega, HRows.out, HPut.out.1, fun z => by rw [HK2.out, List.mem_append, List.mem_singleton, HPut.out.2 z], (HBw.out.trans (hBv3.mono HBw.out.size)).setCell (Nat.le_refl _) _⟩, by simp [intOf]; omega⟩
                  · go_simp
                    refine hK.out _ _ (and_of_below F1.out (by repeat (first | exact Below.refl _ _ | assumption | refine Below.drew ?_ | refine sorted.bdn ?_ _ | refine Below.alloc ?_ (by first | exact Nat.le_refl _ | exact Below.size (by assumption) | omega | (simp; done) | (simp; omega)) _))) (fun hHeld => ?_)
                    clear hK K'
                    refine Goes.one (i := 5) inv (by kernel_rfl) (by decide) rfl (fun inv K' hK => ?_)
                    refine step_append_src _ (by rfl) _ _ 23 (by rfl) (some 69) (by rfl) w4.heap.size 37 i0 (.slice none 0 0) 24 Try.underlying23 HI.out HZ0.out HZ1.out HZ2.out rfl (.slice (some ⟨w4.heap.size, 0, none⟩) 0 0) 0 [] (by rfl) (own_pass (own_newT w4 rfl (Nat.le_refl _)) (by repeat (first | exact Below.refl _ _ | assumption | refine Below.drew ?_ | refine sorted.bdn ?_ _ | refine Below.alloc ?_ (by first | exact Nat.le_refl _ | exact Below.size (by assumption) | omega | (simp; done) | (simp; omega)) _))) _ j ((ps.take j).map Prod.fst) (by rfl) (HT.out _ (by repeat (first | exact Below.refl _ _ | assumption | refine Below.drew ?_ | refine sorted.bdn ?_ _ | refine Below.alloc ?_ (by first | exact Nat.le_refl _ | exact Below.size (by assumption) | omega | (simp; done) | (simp; omega)) _))) HT1.out (by unfold maxLen; omega) (by omega) (by first | (simp; done) | (simp; omega)) ?_
                    intro v1 wA hv1 hgv1
                    have hBv1 : Below w4.heap.size w4 wA := Below.grown (by repeat (first | exact Below.refl _ _ | assumption | refine Below.drew ?_ | refine sorted.bdn ?_ _ | refine Below.alloc ?_ (by first | exact Nat.le_refl _ | exact Below.size (by assumption) | omega | (simp; done) | (simp; omega)) _)) hgv1 (by first | (simp; done) | (simp; omega)) (fun k hk => by cases hk; dsimp only; omega)
                    have hxc : wA.cell? ⟨w4.heap.size + 1, 0, none⟩ = some (.slice ay oz.length cy) := by rw [hgv1.cell_far _ (by first | (simp; done) | (simp; omega)) (by simp [Value.ownBlock])]; simp [go_sem]
                    clear hgv1
                    refine hK.out _ _ (and_of_below F1.out (by repeat (first | exact Below.refl _ _ | assumption | refine Below.drew ?_ | refine sorted.bdn ?_ _ | refine Below.alloc ?_ (by first | exact Nat.le_refl _ | exact Below.size (by assumption) | omega | (simp; done) | (simp; omega)) _))) (fun hHeld => ?_)
                    clear hK K'
                    simp only [Act.put, List.setIfInBounds_toArray, List.set_cons_zero, List.set_cons_succ]
                    refine Goes.one (i := 8) inv (by kernel_rfl) (by decide) rfl (fun inv K' hK => ?_)
                    refine step_append_src _ (by rfl) _ _ 23 (by rfl) (some 72) (by rfl) w4.heap.size 37 i0 (.slice none 0 0) 24 Try.underlying23 HI.out HZ0.out HZ1.out HZ2.out rfl v1 (0 + j) ([] ++ (ps.take j).map Prod.fst) (by rfl) (own_pass hv1 (by repeat (first | exact Below.refl _ _ | assumption | refine Below.drew ?_ | refine sorted.bdn ?_ _ | refine Below.alloc ?_ (by first | exact Nat.le_refl _ | exact Below.size (by assumption) | omega | (simp; done) | (simp; omega)) _))) _ 1 [.slice ay oz.length cy] (by rfl) (.inr ⟨⟨w4.heap.size + 1, 0, none⟩, 1, rfl, rfl, one_news hxc⟩) (fun u hu => by simp at hu; subst hu; rfl) (by unfold maxLen; omega) (by omega) (by have := hBv1.size; first | exact this | (simp; omega)) ?_
                    intro v2 wB hv2 hgv2
                    have hBv2 : Below w4.heap.size w4 wB := Below.grown (by repeat (first | exact Below.refl _ _ | assumption | refine Below.drew ?_ | refine sorted.bdn ?_ _ | refine Below.alloc ?_ (by first | exact Nat.le_refl _ | exact Below.size (by assumption) | omega | (simp; done) | (simp; omega)) _)) hgv2 (by have := hBv1.size; first | exact this | (simp; omega)) (fun k hk => (World.ownsRow.lt hv1 k hk).1)
                    clear hgv2
                    refine hK.out _ _ (and_of_below F1.out (by repeat (first | exact Below.refl _ _ | assumption | refine Below.drew ?_ | refine sorted.bdn ?_ _ | refine Below.alloc ?_ (by first | exact Nat.le_refl _ | exact Below.size (by assumption) | omega | (simp; done) | (simp; omega)) _))) (fun hHeld => ?_)
                    clear hK K'
                    simp only [Act.put, List.setIfInBounds_toArray, List.set_cons_zero, List.set_cons_succ]
                    refine Goes.one (i := 13) inv (by kernel_rfl) (by decide) rfl (fun inv K' hK => ?_)
                    refine step_append_src _ (by rfl) _ _ 23 (by rfl) (some 77) (by rfl) w4.heap.size 37 i0 (.slice none 0 0) 24 Try.underlying23 HI.out HZ0.out HZ1.out HZ2.out rfl v2 (0 + j + 1) ([] ++ (ps.take j).map Prod.fst ++ [.slice ay oz.length cy]) (by rfl) (own_pass hv2 (by repeat (first | exact Below.refl _ _ | assumption | refine Below.drew ?_ | refine sorted.bdn ?_ _ | refine Below.alloc ?_ (by first | exact Nat.le_refl _ | exact Below.size (by assumption) | omega | (simp; done) | (simp; omega)) _))) _ (n - j) ((ps.drop j).map Prod.fst) (by rfl) (HD.out _ (by repeat (first | exact Below.refl _ _ | assumption | refine Below.drew ?_ | refine sorted.bdn ?_ _ | refine Below.alloc ?_ (by first | exact Nat.le_refl _ | exact Below.size (by assumption) | omega | (simp; done) | (simp; omega)) _))) HD1.out (by unfold maxLen; omega) (by omega) (by have := hBv2.size; first | exact this | (simp; omega)) ?_
                    intro v3 wC hv3 hgv3
                    have hBv3 : Below w4.heap.size w4 wC := Below.grown (by repeat (first | exact Below.refl _ _ | assumption | refine Below.drew ?_ | refine sorted.bdn ?_ _ | refine Below.alloc ?_ (by first | exact Nat.le_refl _ | exact Below.size (by assumption) | omega | (simp; done) | (simp; omega)) _)) hgv3 (by have := hBv2.size; first | exact this | (simp; omega)) (fun k hk => (World.ownsRow.lt hv2 k hk).1)
                    clear hgv3
                    obtain ⟨g', c', n', hv3', hn', hrows⟩ := ins_rows (j := j) HOw.out HOyw.out hv3 hBv3 HSw.out (Nat.lt_succ_self w1.heap.size)
                    subst hv3'
                    have HN := hid hn'
                    clear hn'
                    have HRows := hid hrows
                    have hfz : wC.frozen? ⟨w1.heap.size, 1, none⟩ = false := by rw [hBv3.frozen (p := ⟨w1.heap.size, 1, none⟩) (by dsimp only; exact HSw.out)]; exact F2.out
                    clear hrows hv1 hv2 hv3
                    refine hK.out _ _ (and_of_below F1.out (by repeat (first | exact Below.refl _ _ | assumption | refine Below.drew ?_ | refine sorted.bdn ?_ _ | refine Below.alloc ?_ (by first | exact Nat.le_refl _ | exact Below.size (by assumption) | omega | (simp; done) | (simp; omega)) _))) (fun hHeld => ?_)
                    clear hK K'
                    simp only [Act.put, List.setIfInBounds_toArray, List.set_cons_zero, List.set_cons_succ]
                    refine Goes.take (i := 14) (v := ?v14u35) (some 78) hE rfl rfl inv (by kernel_rfl) (by kernel_rfl) (by decide) (fun _ _ _ h => h) (Or.inl ⟨by rfl, ?y14u35⟩) (by assumption) (fun inv => ?r14u35)
                    case y14u35 => (intro w' hSw; (try dsimp only at hSw); go_simp; (try with_reducible rfl))
                    simp only [Act.put, List.setIfInBounds_toArray, List.set_cons_zero, List.set_cons_succ]
                    refine Goes.last (by kernel_rfl) (by kernel_rfl) rfl (fun K' hK => ?_)
                    obtain ⟨hcC, _⟩ := hHeld
                    go_simp
                    refine hK.out _ _ ?_
                    clear hK K'
                    have hc1 := World.cell?_setCell_same wC ⟨w1.heap.size, 1, none⟩ (.slice (some ⟨g', 0, none⟩) n' c') hcC
                    have hc0 : (wC.setCell ⟨w1.heap.size, 1, none⟩ (.slice (some ⟨g', 0, none⟩) n' c')).cell? ⟨w1.heap.size, 0, none⟩ = some (.int .i64 vars) := by rw [World.cell?_setCell_other _ _ _ _ (by simp)]; exact keep hBv3 F0.out
                    have HC1 := hid hc1
                    have HC0 := hid hc0
                    clear hc1 hc0 hcC
                    (try simp only [Exit.inBlock, Exit.then])
                    go_wp2
                    exact ⟨⟨k + 1, _, c', some ⟨g', 0, none⟩, _, by omega, by go_num, HC0.out, HC1.out, by rw [World.frozen?_setCell]; exact hfz, HN.out, by have := HPn.out; rw [← HN.out]; first | (simp; done) | (simp; omega), by have := hBv3.size; have := HSw.out; simp; omega, HRows.out, HPut.out.1, fun z => by rw [HK2.out, List.mem_append, List.mem_singleton, HPut.out.2 z], (HBw.out.trans (hBv3.mono HBw.out.size)).setCell (Nat.le_refl _) _⟩, by simp [intOf]; omega⟩
                · go_simp
                  refine hK.out _ _ (and_of_below F1.out (by repeat (first | exact Below.refl _ _ | assumption | refine Below.drew ?_ | refine sorted.bdn ?_ _ | refine Below.alloc ?_ (by first | exact Nat.le_refl _ | exact Below.size (by assumption) | omega | (simp; done) | (simp; omega)) _))) (fun hHeld => ?_)
                  clear hK K'
                  refine Goes.one (i := 0) inv (by kernel_rfl) (by decide) rfl (fun inv K' hK => ?_)
                  go_simp
                  refine hK.out _ _ (and_of_below F1.out (by repeat (first | exact Below.refl _ _ | assumption | refine Below.drew ?_ | refine sorted.bdn ?_ _ | refine Below.alloc ?_ (by first | exact Nat.le_refl _ | exact Below.size (by assumption) | omega | (simp; done) | (simp; omega)) _))) (fun hHeld => ?_)
                  clear hK K'
                  refine Goes.one (i := 5) inv (by kernel_rfl) (by decide) rfl (fun inv K' hK => ?_)
                  refine step_append_src _ (by rfl) _ _ 23 (by rfl) (some 69) (by rfl) w4.heap.size 37 i0 (.slice none 0 0) 24 Try.underlying23 HI.out HZ0.out HZ1.out HZ2.out rfl (.slice (some ⟨w4.heap.size + 1, 0, none⟩) 0 0) 0 [] (by rfl) (own_newT _ (by simp) (by omega)) _ j ((ps.take j).map Prod.fst) (by rfl) (HT.out _ (by repeat (first | exact Below.refl _ _ | assumption | refine Below.drew ?_ | refine sorted.bdn ?_ _ | refine Below.alloc ?_ (by first | exact Nat.le_refl _ | exact Below.size (by assumption) | omega | (simp; done) | (simp; omega)) _))) HT1.out (by unfold maxLen; omega) (by omega) (by first | (simp; done) | (simp; omega)) ?_
                  intro v1 wA hv1 hgv1
                  have hBv1 : Below w4.heap.size w4 wA := Below.grown (by repeat (first | exact Below.refl _ _ | assumption | refine Below.drew ?_ | refine sorted.bdn ?_ _ | refine Below.alloc ?_ (by first | exact Nat.le_refl _ | exact Below.size (by assumption) | omega | (simp; done) | (simp; omega)) _)) hgv1 (by first | (simp; done) | (simp; omega)) (fun k hk => by cases hk; dsimp only; omega)
                  have hxc : wA.cell? ⟨w4.heap.size, 0, none⟩ = some (.slice ay oz.length cy) := (hgv1.cell_far ⟨w4.heap.size, 0, none⟩ (by simp; omega) (ne_row _)).trans (keep (W := w4.alloc (.cells #[.slice ay oz.length cy] 37)) (by repeat (first | exact Below.refl _ _ | assumption | refine Below.drew ?_ | refine sorted.bdn ?_ _ | refine Below.alloc ?_ (by first | exact Nat.le_refl _ | exact Below.size (by assumption) | omega | (simp; done) | (simp; omega)) _)) (new_cell rfl))
                  clear hgv1
                  refine hK.out _ _ (and_of_below F1.out (by repeat (first | exact Below.refl _ _ | assumption | refine Below.drew ?_ | refine sorted.bdn ?_ _ | refine Below.alloc ?_ (by first | exact Nat.le_refl _ | exact Below.size (by assumption) | omega | (simp; done) | (simp; omega)) _))) (fun hHeld => ?_)
                  clear hK K'
                  simp only [Act.put, List.setIfInBounds_toArray, List.set_cons_zero, List.set_cons_succ]
                  refine Goes.one (i := 8) inv (by kernel_rfl) (by decide) rfl (fun inv K' hK => ?_)
                  refine step_append_src _ (by rfl) _ _ 23 (by rfl) (some 72) (by rfl) w4.heap.size 37 i0 (.slice none 0 0) 24 Try.underlying23 HI.out HZ0.out HZ1.out HZ2.out rfl v1 (0 + j) ([] ++ (ps.take j).map Prod.fst) (by rfl) (own_pass hv1 (by repeat (first | exact Below.refl _ _ | assumption | refine Below.drew ?_ | refine sorted.bdn ?_ _ | refine Below.alloc ?_ (by first | exact Nat.le_refl _ | exact Below.size (by assumption) | omega | (simp; done) | (simp; omega)) _))) _ 1 [.slice ay oz.length cy] (by rfl) (.inr ⟨⟨w4.heap.size, 0, none⟩, 1, rfl, rfl, one_news hxc⟩) (fun u hu => by simp at hu; subst hu; rfl) (by unfold maxLen; omega) (by omega) (by have := hBv1.size; first | exact this | (simp; omega)) ?_
                  intro v2 wB hv2 hgv2
                  have hBv2 : Below w4.heap.size w4 wB := Below.grown (by repeat (first | exact Below.refl _ _ | assumption | refine Below.drew ?_ | refine sorted.bdn ?_ _ | refine Below.alloc ?_ (by first | exact Nat.le_refl _ | exact Below.size (by assumption) | omega | (simp; done) | (simp; omega)) _)) hgv2 (by have := hBv1.size; first | exact this | (simp; omega)) (fun k hk => (World.ownsRow.lt hv1 k hk).1)
                  clear hgv2
                  refine hK.out _ _ (and_of_below F1.out (by repeat (first | exact Below.refl _ _ | assumption | refine Below.drew ?_ | refine sorted.bdn ?_ _ | refine Below.alloc ?_ (by first | exact Nat.le_refl _ | exact Below.size (by assumption) | omega | (simp; done) | (simp; omega)) _))) (fun hHeld => ?_)
                  clear hK K'
                  simp only [Act.put, List.setIfInBounds_toArray, List.set_cons_zero, List.set_cons_succ]
                  refine Goes.one (i := 13) inv (by kernel_rfl) (by decide) rfl (fun inv K' hK => ?_)
                  refine step_append_src _ (by rfl) _ _ 23 (by rfl) (some 77) (by rfl) w4.heap.size 37 i0 (.slice none 0 0) 24 Try.underlying23 HI.out HZ0.out HZ1.out HZ2.out rfl v2 (0 + j + 1) ([] ++ (ps.take j).map Prod.fst ++ [.slice ay oz.length cy]) (by rfl) (own_pass hv2 (by repeat (first | exact Below.refl _ _ | assumption | refine Below.drew ?_ | refine sorted.bdn ?_ _ | refine Below.alloc ?_ (by first | exact Nat.le_refl _ | exact Below.size (by assumption) | omega | (simp; done) | (simp; omega)) _))) _ (n - j) ((ps.drop j).map Prod.fst) (by rfl) (HD.out _ (by repeat (first | exact Below.refl _ _ | assumption | refine Below.drew ?_ | refine sorted.bdn ?_ _ | refine Below.alloc ?_ (by first | exact Nat.le_refl _ | exact Below.size (by assumption) | omega | (simp; done) | (simp; omega)) _))) HD1.out (by unfold maxLen; omega) (by omega) (by have := hBv2.size; first | exact this | (simp; omega)) ?_
                  intro v3 wC hv3 hgv3
                  have hBv3 : Below w4.heap.size w4 wC := Below.grown (by repeat (first | exact Below.refl _ _ | assumption | refine Below.drew ?_ | refine sorted.bdn ?_ _ | refine Below.alloc ?_ (by first | exact Nat.le_refl _ | exact Below.size (by assumption) | omega | (simp; done) | (simp; omega)) _)) hgv3 (by have := hBv2.size; first | exact this | (simp; omega)) (fun k hk => (World.ownsRow.lt hv2 k hk).1)
                  clear hgv3
                  obtain ⟨g', c', n', hv3', hn', hrows⟩ := ins_rows (j := j) HOw.out HOyw.out hv3 hBv3 HSw.out (Nat.lt_succ_self w1.heap.size)
                  subst hv3'
                  have HN := hid hn'
                  clear hn'
                  have HRows := hid hrows
                  have hfz : wC.frozen? ⟨w1.heap.size, 1, none⟩ = false := by rw [hBv3.frozen (p := ⟨w1.heap.size, 1, none⟩) (by dsimp only; exact HSw.out)]; exact F2.out
                  clear hrows hv1 hv2 hv3
                  refine hK.out _ _ (and_of_below F1.out (by repeat (first | exact Below.refl _ _ | assumption | refine Below.drew ?_ | refine sorted.bdn ?_ _ | refine Below.alloc ?_ (by first | exact Nat.le_refl _ | exact Below.size (by assumption) | omega | (simp; done) | (simp; omega)) _))) (fun hHeld => ?_)
                  clear hK K'
                  simp only [Act.put, List.setIfInBounds_toArray, List.set_cons_zero, List.set_cons_succ]
                  refine Goes.take (i := 14) (v := ?v14u36) (some 78) hE rfl rfl inv (by kernel_rfl) (by kernel_rfl) (by decide) (fun _ _ _ h => h) (Or.inl ⟨by rfl, ?y14u36⟩) (by assumption) (fun inv => ?r14u36)
                  case y14u36 => (intro w' hSw; (try dsimp only at hSw); go_simp; (try with_reducible rfl))
                  simp only [Act.put, List.setIfInBounds_toArray, List.set_cons_zero, List.set_cons_succ]
                  refine Goes.last (by kernel_rfl) (by kernel_rfl) rfl (fun K' hK => ?_)
                  obtain ⟨hcC, _⟩ := hHeld
                  go_simp
                  refine hK.out _ _ ?_
                  clear hK K'
                  have hc1 := World.cell?_setCell_same wC ⟨w1.heap.size, 1, none⟩ (.slice (some ⟨g', 0, none⟩) n' c') hcC
                  have hc0 : (wC.setCell ⟨w1.heap.size, 1, none⟩ (.slice (some ⟨g', 0, none⟩) n' c')).cell? ⟨w1.heap.size, 0, none⟩ = some (.int .i64 vars) := by rw [World.cell?_setCell_other _ _ _ _ (by simp)]; exact keep hBv3 F0.out
                  have HC1 := hid hc1
                  have HC0 := hid hc0
                  clear hc1 hc0 hcC
                  (try simp only [Exit.inBlock, Exit.then])
                  go_wp2
                  exact ⟨⟨k + 1, _, c', some ⟨g', 0, none⟩, _, by omega, by go_num, HC0.out, HC1.out, by rw [World.frozen?_setCell]; exact hfz, HN.out, by have := HPn.out; rw [← HN.out]; first | (simp; done) | (simp; omega), by have := hBv3.size; have := HSw.out; simp; omega, HRows.out, HPut.out.1, fun z => by rw [HK2.out, List.mem_append, List.mem_singleton, HPut.out.2 z], (HBw.out.trans (hBv3.mono HBw.out.size)).setCell (Nat.le_refl _) _⟩, by simp [intOf]; omega⟩
              · have HD : Hid (∀ w1 : World, Below w4.heap.size w4 w1 → SrcOf w1 (.slice (some ⟨g, j, none⟩) (n - j) (c - j)) (n - j) ((ps.drop j).map Prod.fst)) := fun w1 h => .inr ⟨⟨g, j, none⟩, c - j, rfl, by rw [List.length_map, List.length_drop, HPn.out]; omega, drop_rows HOw.out h⟩
                refine region_goes 15 16 (fun w' => w'.cell? ⟨w1.heap.size, 1, none⟩ = some (.slice (some ⟨g, 0, none⟩) n c) ∧ Below w4.heap.size w4 w') (by kernel_rfl) (by rfl) ⟨by kernel_rfl, by kernel_rfl, by kernel_rfl, by decide⟩ (and_of_below F1.out (by repeat (first | exact Below.refl _ _ | assumption | refine Below.drew ?_ | refine sorted.bdn ?_ _ | refine Below.alloc ?_ (by first | exact Nat.le_refl _ | exact Below.size (by assumption) | omega | (simp; done) | (simp; omega)) _))) (fun hE inv hHeld => ?_)
                refine Goes.take (i := 1) (v := ?v1u37) (some 65) hE rfl rfl inv (by kernel_rfl) (by kernel_rfl) (by decide) (fun _ _ _ h => h) (Or.inl ⟨by rfl, ?y1u37⟩) (by assumption) (fun inv => ?r1u37)
                case y1u37 => (intro w' hSw; (try dsimp only at hSw); go_simp; (try with_reducible rfl))
                simp only [Act.put, List.setIfInBounds_toArray, List.set_cons_zero, List.set_cons_succ]
                refine Goes.take (i := 2) (v := ?v2u38) (some 66) hE rfl rfl inv (by kernel_rfl) (by kernel_rfl) (by decide) (fun _ _ _ h => h) (Or.inl ⟨by rfl, ?y2u38⟩) (by assumption) (fun inv => ?r2u38)
                case y2u38 => (intro w' hSw; (try dsimp only at hSw); go_simp; (try with_reducible rfl))
                simp only [Act.put, List.setIfInBounds_toArray, List.set_cons_zero, List.set_cons_succ]
                refine Goes.take (i := 3) (v := ?v3u39) (some 67) hE rfl rfl inv (by kernel_rfl) (by kernel_rfl) (by decide) (fun _ _ _ h => h) (Or.inl ⟨by rfl, ?y3u39⟩) (by assumption) (fun inv => ?r3u39)
                case y3u39 => (intro w' hSw; (try dsimp only at hSw); go_simp; (try with_reducible rfl))
                simp only [Act.put, List.setIfInBounds_toArray, List.set_cons_zero, List.set_cons_succ]
                refine Goes.take (i := 4) (v := ?v4u40) (some 68) hE rfl rfl inv (by kernel_rfl) (by kernel_rfl) (by decide) (fun _ _ _ h => h) (Or.inl ⟨by rfl, ?y4u40⟩) (by assumption) (fun inv => ?r4u40)
                case y4u40 => (intro w' hSw; (try dsimp only at hSw); go_simp; (try with_reducible rfl))
                simp only [Act.put, List.setIfInBounds_toArray, List.set_cons_zero, List.set_cons_succ]
                refine Goes.take (i := 6) (v := ?v6u41) (some 70) hE rfl rfl inv (by kernel_rfl) (by kernel_rfl) (by decide) (fun _ _ _ h => h) (Or.inl ⟨by rfl, ?y6u41⟩) (by assumption) (fun inv => ?r6u41)
                case y6u41 => (intro w' hSw; (try dsimp only at hSw); go_simp; (try with_reducible rfl))
                simp only [Act.put, List.setIfInBounds_toArray, List.set_cons_zero, List.set_cons_succ]
                refine Goes.take (i := 9) (v := ?v9u42) (some 73) hE rfl rfl inv (by kernel_rfl) (by kernel_rfl) (by decide) (fun _ _ _ h => h) (Or.inl ⟨by rfl, ?y9u42⟩) (by assumption) (fun inv => ?r9u42)
                case y9u42 => (intro w' hSw; (try dsimp only at hSw); go_simp; (try with_reducible rfl))
                simp only [Act.put, List.setIfInBounds_toArray, List.set_cons_zero, List.set_cons_succ]
                refine Goes.take (i := 10) (v := ?v10u43) (some 74) hE rfl rfl inv (by kernel_rfl) (by kernel_rfl) (by decide) (fun _ _ _ h => h) (Or.inl ⟨by rfl, ?y10u43⟩) (by assumption) (fun inv => ?r10u43)
                case y10u43 => (intro w' hSw; (try dsimp only at hSw); go_simp; (try with_reducible rfl))
                simp only [Act.put, List.setIfInBounds_toArray, List.set_cons_zero, List.set_cons_succ]
                refine Goes.take (i := 11) (v := ?v11u44) (some 75) hE rfl rfl inv (by kernel_rfl) (by kernel_rfl) (by decide) (fun _ _ _ h => h) (Or.inl ⟨by rfl, ?y11u44⟩) (by assumption) (fun inv => ?r11u44)
                case y11u44 => (intro w' hSw; (try dsimp only at hSw); go_simp; (try with_reducible rfl))
                simp only [Act.put, List.setIfInBounds_toArray, List.set_cons_zero, List.set_cons_succ]
                refine Goes.take (i := 12) (v := ?v12u45) (some 76) hE rfl rfl inv (by kernel_rfl) (by kernel_rfl) (by decide) (fun _ _ _ h => h) (Or.inl ⟨by rfl, ?y12u45⟩) (by assumption) (fun inv => ?r12u45)
                case y12u45 => (intro w' hSw; (try dsimp only at hSw); go_simp; (try with_reducible rfl))
                simp only [Act.put, List.setIfInBounds_toArray, List.set_cons_zero, List.set_cons_succ]
                refine Goes.two (i := 0) (j := 7) inv (by kernel_rfl) (by decide) (by decide) rfl rfl (fun inv K' hK => ?_) (fun inv K' hK => ?_)
                · go_simp
                  refine hK.out _ _ (and_of_below F1.out (by repeat (first | exact Below.refl _ _ | assumption | refine Below.drew ?_ | refine sorted.bdn ?_ _ | refine Below.alloc ?_ (by first | exact Nat.le_refl _ | exact Below.size (by assumption) | omega | (simp; done) | (simp; omega)) _))) (fun hHeld => ?_)
                  clear hK K'
                  refine Goes.two (i := 5) (j := 7) inv (by kernel_rfl) (by decide) (by decide) rfl rfl (fun inv K' hK => ?_) (fun inv K' hK => ?_)
                  · refine step_append_src _ (by rfl) _ _ 23 (by rfl) (some 69) (by rfl) w4.heap.size 37 i0 (.slice none 0 0) 24 Try.underlying23 HI.out HZ0.out HZ1.out HZ2.out rfl (.slice (some ⟨w4.heap.size, 0, none⟩) 0 0) 0 [] (by rfl) (own_pass (own_newT w4.drew rfl (Nat.le_refl _)) (by repeat (first | exact Below.refl _ _ | assumption | refine Below.drew ?_ | refine sorted.bdn ?_ _ | refine Below.alloc ?_ (by first | exact Nat.le_refl _ | exact Below.size (by assumption) | omega | (simp; done) | (simp; omega)) _))) _ j ((ps.take j).map Prod.fst) (by rfl) (HT.out _ (by repeat (first | exact Below.refl _ _ | assumption | refine Below.drew ?_ | refine sorted.bdn ?_ _ | refine Below.alloc ?_ (by first | exact Nat.le_refl _ | exact Below.size (by assumption) | omega | (simp; done) | (simp; omega)) _))) HT1.out (by unfold maxLen; omega) (by omega) (by first | (simp; done) | (simp; omega)) ?_
                    intro v1 wA hv1 hgv1
                    have hBv1 : Below w4.heap.size w4 wA := Below.grown (by repeat (first | exact Below.refl _ _ | assumption | refine Below.drew ?_ | refine sorted.bdn ?_ _ | refine Below.alloc ?_ (by first | exact Nat.le_refl _ | exact Below.size (by assumption) | omega | (simp; done) | (simp; omega)) _)) hgv1 (by first | (simp; done) | (simp; omega)) (fun k hk => by cases hk; dsimp only; omega)
                    clear hgv1
                    refine hK.out _ _ (and_of_below F1.out (by repeat (first | exact Below.refl _ _ | assumption | refine Below.drew ?_ | refine sorted.bdn ?_ _ | refine Below.alloc ?_ (by first | exact Nat.le_refl _ | exact Below.size (by assumption) | omega | (simp; done) | (simp; omega)) _))) (fun hHeld => ?_)
                    clear hK K'
                    simp only [Act.put, List.setIfInBounds_toArray, List.set_cons_zero, List.set_cons_succ]
                    refine Goes.one (i := 7) inv (by kernel_rfl) (by decide) rfl (fun inv K' hK => ?_)
                    go_simp
                    refine hK.out _ _ (and_of_below F1.out (by repeat (first | exact Below.refl _ _ | assumption | refine Below.drew ?_ | refine sorted.bdn ?_ _ | refine Below.alloc ?_ (by first | exact Nat.le_refl _ | exact Below.size (by assumption) | omega | (simp; done) | (simp; omega)) _))) (fun hHeld => ?_)
                    clear hK K'
                    refine Goes.one (i := 8) inv (by kernel_rfl) (by decide) rfl (fun inv K' hK => ?_)
                    refine step_append_src _ (by rfl) _ _ 23 (by rfl) (some 72) (by rfl) w4.heap.size 37 i0 (.slice none 0 0) 24 Try.underlying23 HI.out HZ0.out HZ1.out HZ2.out rfl v1 (0 + j) ([] ++ (ps.take j).map Prod.fst) (by rfl) (own_pass hv1 (by repeat (first | exact Below.refl _ _ | assumption | refine Below.drew ?_ | refine sorted.bdn ?_ _ | refine Below.alloc ?_ (by first | exact Nat.le_refl _ | exact Below.size (by assumption) | omega | (simp; done) | (simp; omega)) _))) _ 1 [.slice ay oz.length cy] (by rfl) (.inr ⟨⟨wA.heap.size, 0, none⟩, 1, rfl, rfl, cell_one_new _ _ _⟩) (fun u hu => by simp at hu; subst hu; rfl) (by unfold maxLen; omega) (by omega) (by have := hBv1.size; first | exact this | (simp; omega)) ?_
                    intro v2 wB hv2 hgv2
                    have hBv2 : Below w4.heap.size w4 wB := Below.grown (by repeat (first | exact Below.refl _ _ | assumption | refine Below.drew ?_ | refine sorted.bdn ?_ _ | refine Below.alloc ?_ (by first | exact Nat.le_refl _ | exact Below.size (by assumption) | omega | (simp; done) | (simp; omega)) _)) hgv2 (by have := hBv1.size; first | exact this | (simp; omega)) (fun k hk => (World.ownsRow.lt hv1 k hk).1)
                    clear hgv2
                    refine hK.out _ _ (and_of_below F1.out (by repeat (first | exact Below.refl _ _ | assumption | refine Below.drew ?_ | refine sorted.bdn ?_ _ | refine Below.alloc ?_ (by first | exact Nat.le_refl _ | exact Below.size (by assumption) | omega | (simp; done) | (simp; omega)) _))) (fun hHeld => ?_)
                    clear hK K'
                    simp only [Act.put, List.setIfInBounds_toArray, List.set_cons_zero, List.set_cons_succ]
                    refine Goes.one (i := 13) inv (by kernel_rfl) (by decide) rfl (fun inv K' hK => ?_)
                    refine step_append_src _ (by rfl) _ _ 23 (by rfl) (some 77) (by rfl) w4.heap.size 37 i0 (.slice none 0 0) 24 Try.underlying23 HI.out HZ0.out HZ1.out HZ2.out rfl v2 (0 + j + 1) ([] ++ (ps.take j).map Prod.fst ++ [.slice ay oz.length cy]) (by rfl) (own_pass hv2 (by repeat (first | exact Below.refl _ _ | assumption | refine Below.drew ?_ | refine sorted.bdn ?_ _ | refine Below.alloc ?_ (by first | exact Nat.le_refl _ | exact Below.size (by assumption) | omega | (simp; done) | (simp; omega)) _))) _ (n - j) ((ps.drop j).map Prod.fst) (by rfl) (HD.out _ (by repeat (first | exact Below.refl _ _ | assumption | refine Below.drew ?_ | refine sorted.bdn ?_ _ | refine Below.alloc ?_ (by first | exact Nat.le_refl _ | exact Below.size (by assumption) | omega | (simp; done) | (simp; omega)) _))) HD1.out (by unfold maxLen; omega) (by omega) (by have := hBv2.size; first | exact this | (simp; omega)) ?_
                    intro v3 wC hv3 hgv3
                    have hBv3 : Below w4.heap.size w4 wC := Below.grown (by repeat (first | exact Below.refl _ _ | assumption | refine Below.drew ?_ | refine sorted.bdn ?_ _ | refine Below.alloc ?_ (by first | exact Nat.le_refl _ | exact Below.size (by assumption) | omega | (simp; done) | (simp; omega)) _)) hgv3 (by have := hBv2.size; first | exact this | (simp; omega)) (fun k hk => (World.ownsRow.lt hv2 k hk).1)
                    clear hgv3
                    obtain ⟨g', c', n', hv3', hn', hrows⟩ := ins_rows (j := j) HOw.out HOyw.out hv3 hBv3 HSw.out (Nat.lt_succ_self w1.heap.size)
                    subst hv3'
                    have HN := hid hn'
                    clear hn'
                    have HRows := hid hrows
                    have hfz : wC.frozen? ⟨w1.heap.size, 1, none⟩ = false := by rw [hBv3.frozen (p := ⟨w1.heap.size, 1, none⟩) (by dsimp only; exact HSw.out)]; exact F2.out
                    clear hrows hv1 hv2 hv3
                    refine hK.out _ _ (and_of_below F1.out (by repeat (first | exact Below.refl _ _ | assumption | refine Below.drew ?_ | refine sorted.bdn ?_ _ | refine Below.alloc ?_ (by first | exact Nat.le_refl _ | exact Below.size (by assumption) | omega | (simp; done) | (simp; omega)) _))) (fun hHeld => ?_)
                    clear hK K'
                    simp only [Act.put, List.setIfInBounds_toArray, List.set_cons_zero, List.set_cons_succ]
                    refine Goes.take (i := 14) (v := ?v14u46) (some 78) hE rfl rfl inv (by kernel_rfl) (by kernel_rfl) (by decide) (fun _ _ _ h => h) (Or.inl ⟨by rfl, ?y14u46⟩) (by assumption) (fun inv => ?r14u46)
                    case y14u46 => (intro w' hSw; (try dsimp only at hSw); go_simp; (try with_reducible rfl))
                    simp only [Act.put, List.setIfInBounds_toArray, List.set_cons_zero, List.set_cons_succ]
                    refine Goes.last (by kernel_rfl) (by kernel_rfl) rfl (fun K' hK => ?_)
                    obtain ⟨hcC, _⟩ := hHeld
                    go_simp
                    refine hK.out _ _ ?_
                    clear hK K'
                    have hc1 := World.cell?_setCell_same wC ⟨w1.heap.size, 1, none⟩ (.slice (some ⟨g', 0, none⟩) n' c') hcC
                    have hc0 : (wC.setCell ⟨w1.heap.size, 1, none⟩ (.slice (some ⟨g', 0, none⟩) n' c')).cell? ⟨w1.heap.size, 0, none⟩ = some (.int .i64 vars) := by rw [World.cell?_setCell_other _ _ _ _ (by simp)]; exact keep hBv3 F0.out
                    have HC1 := hid hc1
                    have HC0 := hid hc0
                    clear hc1 hc0 hcC
                    (try simp only [Exit.inBlock, Exit.then])
                    go_wp2
                    exact ⟨⟨k + 1, _, c', some ⟨g', 0, none⟩, _, by omega, by go_num, HC0.out, HC1.out, by rw [World.frozen?_setCell]; exact hfz, HN.out, by have := HPn.out; rw [← HN.out]; first | (simp; done) | (simp; omega), by have := hBv3.size; have := HSw.out; simp; omega, HRows.out, HPut.out.1, fun z => by rw [HK2.out, List.mem_append, List.mem_singleton, HPut.out.2 z], (HBw.out.trans (hBv3.mono HBw.out.size)).setCell (Nat.le_refl _) _⟩, by simp [intOf]; omega⟩
                  · go_simp
                    refine hK.out _ _ (and_of_below F1.out (by repeat (first | exact Below.refl _ _ | assumption | refine Below.drew ?_ | refine sorted.bdn ?_ _ | refine Below.alloc ?_ (by first | exact Nat.le_refl _ | exact Below.size (by assumption) | omega | (simp; done) | (simp; omega)) _))) (fun hHeld => ?_)
                    clear hK K'
                    refine Goes.one (i := 5) inv (by kernel_rfl) (by decide) rfl (fun inv K' hK => ?_)
                    refine step_append_src _ (by rfl) _ _ 23 (by rfl) (some 69) (by rfl) w4.heap.size 37 i0 (.slice none 0 0) 24 Try.underlying23 HI.out HZ0.out HZ1.out HZ2.out rfl (.slice (some ⟨w4.heap.size, 0, none⟩) 0 0) 0 [] (by rfl) (own_pass (own_newT w4 rfl (Nat.le_refl _)) (by repeat (first | exact Below.refl _ _ | assumption | refine Below.drew ?_ | refine sorted.bdn ?_ _ | refine Below.alloc ?_ (by first | exact Nat.le_refl _ | exact Below.size (by assumption) | omega | (simp; done) | (simp; omega)) _))) _ j ((ps.take j).map Prod.fst) (by rfl) (HT.out _ (by repeat (first | exact Below.refl _ _ | assumption | refine Below.drew ?_ | refine sorted.bdn ?_ _ | refine Below.alloc ?_ (by first | exact Nat.le_refl _ | exact Below.size (by assumption) | omega | (simp; done) | (simp; omega)) _))) HT1.out (by unfold maxLen; omega) (by omega) (by first | (simp; done) | (simp; omega)) ?_
                    intro v1 wA hv1 hgv1
                    have hBv1 : Below w4.heap.size w4 wA := Below.grown (by repeat (first | exact Below.refl _ _ | assumption | refine Below.drew ?_ | refine sorted.bdn ?_ _ | refine Below.alloc ?_ (by first | exact Nat.le_refl _ | exact Below.size (by assumption) | omega | (simp; done) | (simp; omega)) _)) hgv1 (by first | (simp; done) | (simp; omega)) (fun k hk => by cases hk; dsimp only; omega)
                    have hxc : wA.cell? ⟨w4.heap.size + 1, 0, none⟩ = some (.slice ay oz.length cy) := by rw [hgv1.cell_far _ (by first | (simp; done) | (simp; omega)) (by simp [Value.ownBlock])]; simp [go_sem]
                    clear hgv1
                    refine hK.out _ _ (and_of_below F1.out (by repeat (first | exact Below.refl _ _ | assumption | refine Below.drew ?_ | refine sorted.bdn ?_ _ | refine Below.alloc ?_ (by first | exact Nat.le_refl _ | exact Below.size (by assumption) | omega | (simp; done) | (simp; omega)) _))) (fun hHeld => ?_)
                    clear hK K'
                    simp only [Act.put, List.setIfInBounds_toArray, List.set_cons_zero, List.set_cons_succ]
                    refine Goes.one (i := 8) inv (by kernel_rfl) (by decide) rfl (fun inv K' hK => ?_)
                    refine step_append_src _ (by rfl) _ _ 23 (by rfl) (some 72) (by rfl) w4.heap.size 37 i0 (.slice none 0 0) 24 Try.underlying23 HI.out HZ0.out HZ1.out HZ2.out rfl v1 (0 + j) ([] ++ (ps.take j).map Prod.fst) (by rfl) (own_pass hv1 (by repeat (first | exact Below.refl _ _ | assumption | refine Below.drew ?_ | refine sorted.bdn ?_ _ | refine Below.alloc ?_ (by first | exact Nat.le_refl _ | exact Below.size (by assumption) | omega | (simp; done) | (simp; omega)) _))) _ 1 [.slice ay oz.length cy] (by rfl) (.inr ⟨⟨w4.heap.size + 1, 0, none⟩, 1, rfl, rfl, one_news hxc⟩) (fun u hu => by simp at hu; subst hu; rfl) (by unfold maxLen; omega) (by omega) (by have := hBv1.size; first | exact this | (simp; omega)) ?_
                    intro v2 wB hv2 hgv2
                    have hBv2 : Below w4.heap.size w4 wB := Below.grown (by repeat (first | exact Below.refl _ _ | assumption | refine Below.drew ?_ | refine sorted.bdn ?_ _ | refine Below.alloc ?_ (by first | exact Nat.le_refl _ | exact Below.size (by assumption) | omega | (simp; done) | (simp; omega)) _)) hgv2 (by have := hBv1.size; first | exact this | (simp; omega)) (fun k hk => (World.ownsRow.lt hv1 k hk).1)
                    clear hgv2
                    refine hK.out _ _ (and_of_below F1.out (by repeat (first | exact Below.refl _ _ | assumption | refine Below.drew ?_ | refine sorted.bdn ?_ _ | refine Below.alloc ?_ (by first | exact Nat.le_refl _ | exact Below.size (by assumption) | omega | (simp; done) | (simp; omega)) _))) (fun hHeld => ?_)
                    clear hK K'
                    simp only [Act.put, List.setIfInBounds_toArray, List.set_cons_zero, List.set_cons_succ]
                    refine Goes.one (i := 13) inv (by kernel_rfl) (by decide) rfl (fun inv K' hK => ?_)
                    refine step_append_src _ (by rfl) _ _ 23 (by rfl) (some 77) (by rfl) w4.heap.size 37 i0 (.slice none 0 0) 24 Try.underlying23 HI.out HZ0.out HZ1.out HZ2.out rfl v2 (0 + j + 1) ([] ++ (ps.take j).map Prod.fst ++ [.slice ay oz.length cy]) (by rfl) (own_pass hv2 (by repeat (first | exact Below.refl _ _ | assumption | refine Below.drew ?_ | refine sorted.bdn ?_ _ | refine Below.alloc ?_ (by first | exact Nat.le_refl _ | exact Below.size (by assumption) | omega | (simp; done) | (simp; omega)) _))) _ (n - j) ((ps.drop j).map Prod.fst) (by rfl) (HD.out _ (by repeat (first | exact Below.refl _ _ | assumption | refine Below.drew ?_ | refine sorted.bdn ?_ _ | refine Below.alloc ?_ (by first | exact Nat.le_refl _ | exact Below.size (by assumption) | omega | (simp; done) | (simp; omega)) _))) HD1.out (by unfold maxLen; omega) (by omega) (by have := hBv2.size; first | exact this | (simp; omega)) ?_
                    intro v3 wC hv3 hgv3
                    have hBv3 : Below w4.heap.size w4 wC := Below.grown (by repeat (first | exact Below.refl _ _ | assumption | refine Below.drew ?_ | refine sorted.bdn ?_ _ | refine Below.alloc ?_ (by first | exact Nat.le_refl _ | exact Below.size (by assumption) | omega | (simp; done) | (simp; omega)) _)) hgv3 (by have := hBv2.size; first | exact this | (simp; omega)) (fun k hk => (World.ownsRow.lt hv2 k hk).1)
                    clear hgv3
                    obtain ⟨g', c', n', hv3', hn', hrows⟩ := ins_rows (j := j) HOw.out HOyw.out hv3 hBv3 HSw.out (Nat.lt_succ_self w1.heap.size)
                    subst hv3'
                    have HN := hid hn'
                    clear hn'
                    have HRows := hid hrows
                    have hfz : wC.frozen? ⟨w1.heap.size, 1, none⟩ = false := by rw [hBv3.frozen (p := ⟨w1.heap.size, 1, none⟩) (by dsimp only; exact HSw.out)]; exact F2.out
                    clear hrows hv1 hv2 hv3
                    refine hK.out _ _ (and_of_below F1.out (by repeat (first | exact Below.refl _ _ | assumption | refine Below.drew ?_ | refine sorted.bdn ?_ _ | refine Below.alloc ?_ (by first | exact Nat.le_refl _ | exact Below.size (by assumption) | omega | (simp; done) | (simp; omega)) _))) (fun hHeld => ?_)
                    clear hK K'
                    simp only [Act.put, List.setIfInBounds_toArray, List.set_cons_zero, List.set_cons_succ]
                    refine Goes.take (i := 14) (v := ?v14u47) (some 78) hE rfl rfl inv (by kernel_rfl) (by kernel_rfl) (by decide) (fun _ _ _ h => h) (Or.inl ⟨by rfl, ?y14u47⟩) (by assumption) (fun inv => ?r14u47)
                    case y14u47 => (intro w' hSw; (try dsimp only at hSw); go_simp; (try with_reducible rfl))
                    simp only [Act.put, List.setIfInBounds_toArray, List.set_cons_zero, List.set_cons_succ]
                    refine Goes.last (by kernel_rfl) (by kernel_rfl) rfl (fun K' hK => ?_)
                    obtain ⟨hcC, _⟩ := hHeld
                    go_simp
                    refine hK.out _ _ ?_
                    clear hK K'
                    have hc1 := World.cell?_setCell_same wC ⟨w1.heap.size, 1, none⟩ (.slice (some ⟨g', 0, none⟩) n' c') hcC
                    have hc0 : (wC.setCell ⟨w1.heap.size, 1, none⟩ (.slice (some ⟨g', 0, none⟩) n' c')).cell? ⟨w1.heap.size, 0, none⟩ = some (.int .i64 vars) := by rw [World.cell?_setCell_other _ _ _ _ (by simp)]; exact keep hBv3 F0.out
                    have HC1 := hid hc1
                    have HC0 := hid hc0
                    clear hc1 hc0 hcC
                    (try simp only [Exit.inBlock, Exit.then])
                    go_wp2
                    exact ⟨⟨k + 1, _, c', some ⟨g', 0, none⟩, _, by omega, by go_num, HC0.out, HC1.out, by rw [World.frozen?_setCell]; exact hfz, HN.out, by have := HPn.out; rw [← HN.out]; first | (simp; done) | (simp; omega), by have := hBv3.size; have := HSw.out; simp; omega, HRows.out, HPut.out.1, fun z => by rw [HK2.out, List.mem_append, List.mem_singleton, HPut.out.2 z], (HBw.out.trans (hBv3.mono HBw.out.size)).setCell (Nat.le_refl _) _⟩, by simp [intOf]; omega⟩
                · go_simp
                  refine hK.out _ _ (and_of_below F1.out (by repeat (first | exact Below.refl _ _ | assumption | refine Below.drew ?_ | refine sorted.bdn ?_ _ | refine Below.alloc ?_ (by first | exact Nat.le_refl _ | exact Below.size (by assumption) | omega | (simp; done) | (simp; omega)) _))) (fun hHeld => ?_)
                  clear hK K'
                  refine Goes.one (i := 0) inv (by kernel_rfl) (by decide) rfl (fun inv K' hK => ?_)
                  go_simp
                  refine hK.out _ _ (and_of_below F1.out (by repeat (first | exact Below.refl _ _ | assumption | refine Below.drew ?_ | refine sorted.bdn ?_ _ | refine Below.alloc ?_ (by first | exact Nat.le_refl _ | exact Below.size (by assumption) | omega | (simp; done) | (simp; omega)) _))) (fun hHeld => ?_)
                  clear hK K'
                  refine Goes.one (i := 5) inv (by kernel_rfl) (by decide) rfl (fun inv K' hK => ?_)
                  refine step_append_src _ (by rfl) _ _ 23 (by rfl) (some 69) (by rfl) w4.heap.size 37 i0 (.slice none 0 0) 24 Try.underlying23 HI.out HZ0.out HZ1.out HZ2.out rfl (.slice (some ⟨w4.heap.size + 1, 0, none⟩) 0 0) 0 [] (by rfl) (own_newT _ (by simp) (by omega)) _ j ((ps.take j).map Prod.fst) (by rfl) (HT.out _ (by repeat (first | exact Below.refl _ _ | assumption | refine Below.drew ?_ | refine sorted.bdn ?_ _ | refine Below.alloc ?_ (by first | exact Nat.le_refl _ | exact Below.size (by assumption) | omega | (simp; done) | (simp; omega)) _))) HT1.out (by unfold maxLen; omega) (by omega) (by first | (simp; done) | (simp; omega)) ?_
                  intro v1 wA hv1 hgv1
                  have hBv1 : Below w4.heap.size w4 wA := Below.grown (by repeat (first | exact Below.refl _ _ | assumption | refine Below.drew ?_ | refine sorted.bdn ?_ _ | refine Below.alloc ?_ (by first | exact Nat.le_refl _ | exact Below.size (by assumption) | omega | (simp; done) | (simp; omega)) _)) hgv1 (by first | (simp; done) | (simp; omega)) (fun k hk => by cases hk; dsimp only; omega)
                  have hxc : wA.cell? ⟨w4.heap.size, 0, none⟩ = some (.slice ay oz.length cy) := (hgv1.cell_far ⟨w4.heap.size, 0, none⟩ (by simp; omega) (ne_row _)).trans (keep (W := w4.alloc (.cells #[.slice ay oz.length cy] 37)) (by repeat (first | exact Below.refl _ _ | assumption | refine Below.drew ?_ | refine sorted.bdn ?_ _ | refine Below.alloc ?_ (by first | exact Nat.le_refl _ | exact Below.size (by assumption) | omega | (simp; done) | (simp; omega)) _)) (new_cell rfl))
                  clear hgv1
                  refine hK.out _ _ (and_of_below F1.out (by repeat (first | exact Below.refl _ _ | assumption | refine Below.drew ?_ | refine sorted.bdn ?_ _ | refine Below.alloc ?_ (by first | exact Nat.le_refl _ | exact Below.size (by assumption) | omega | (simp; done) | (simp; omega)) _))) (fun hHeld => ?_)
                  clear hK K'
                  simp only [Act.put, List.setIfInBounds_toArray, List.set_cons_zero, List.set_cons_succ]
                  refine Goes.one (i := 8) inv (by kernel_rfl) (by decide) rfl (fun inv K' hK => ?_)
                  refine step_append_src _ (by rfl) _ _ 23 (by rfl) (some 72) (by rfl) w4.heap.size 37 i0 (.slice none 0 0) 24 Try.underlying23 HI.out HZ0.out HZ1.out HZ2.out rfl v1 (0 + j) ([] ++ (ps.take j).map Prod.fst) (by rfl) (own_pass hv1 (by repeat (first | exact Below.refl _ _ | assumption | refine Below.drew ?_ | refine sorted.bdn ?_ _ | refine Below.alloc ?_ (by first | exact Nat.le_refl _ | exact Below.size (by assumption) | omega | (simp; done) | (simp; omega)) _))) _ 1 [.slice ay oz.length cy] (by rfl) (.inr ⟨⟨w4.heap.size, 0, none⟩, 1, rfl, rfl, one_news hxc⟩) (fun u hu => by simp at hu; subst hu; rfl) (by unfold maxLen; omega) (by omega) (by have := hBv1.size; first | exact this | (simp; omega)) ?_
                  intro v2 wB hv2 hgv2
                  have hBv2 : Below w4.heap.size w4 wB := Below.grown (by repeat (first | exact Below.refl _ _ | assumption | refine Below.drew ?_ | refine sorted.bdn ?_ _ | refine Below.alloc ?_ (by first | exact Nat.le_refl _ | exact Below.size (by assumption) | omega | (simp; done) | (simp; omega)) _)) hgv2 (by have := hBv1.size; first | exact this | (simp; omega)) (fun k hk => (World.ownsRow.lt hv1 k hk).1)
                  clear hgv2
                  refine hK.out _ _ (and_of_below F1.out (by repeat (first | exact Below.refl _ _ | assumption | refine Below.drew ?_ | refine sorted.bdn ?_ _ | refine Below.alloc ?_ (by first | exact Nat.le_refl _ | exact Below.size (by assumption) | omega | (simp; done) | (simp; omega)) _))) (fun hHeld => ?_)
                  clear hK K'
                  simp only [Act.put, List.setIfInBounds_toArray, List.set_cons_zero, List.set_cons_succ]
                  refine Goes.one (i := 13) inv (by kernel_rfl) (by decide) rfl (fun inv K' hK => ?_)
                  refine step_append_src _ (by rfl) _ _ 23 (by rfl) (some 77) (by rfl) w4.heap.size 37 i0 (.slice none 0 0) 24 Try.underlying23 HI.out HZ0.out HZ1.out HZ2.out rfl v2 (0 + j + 1) ([] ++ (ps.take j).map Prod.fst ++ [.slice ay oz.length cy]) (by rfl) (own_pass hv2 (by repeat (first | exact Below.refl _ _ | assumption | refine Below.drew ?_ | refine sorted.bdn ?_ _ | refine Below.alloc ?_ (by first | exact Nat.le_refl _ | exact Below.size (by assumption) | omega | (simp; done) | (simp; omega)) _))) _ (n - j) ((ps.drop j).map Prod.fst) (by rfl) (HD.out _ (by repeat (first | exact Below.refl _ _ | assumption | refine Below.drew ?_ | refine sorted.bdn ?_ _ | refine Below.alloc ?_ (by first | exact Nat.le_refl _ | exact Below.size (by assumption) | omega | (simp; done) | (simp; omega)) _))) HD1.out (by unfold maxLen; omega) (by omega) (by have := hBv2.size; first | exact this | (simp; omega)) ?_
                  intro v3 wC hv3 hgv3
                  have hBv3 : Below w4.heap.size w4 wC := Below.grown (by repeat (first | exact Below.refl _ _ | assumption | refine Below.drew ?_ | refine sorted.bdn ?_ _ | refine Below.alloc ?_ (by first | exact Nat.le_refl _ | exact Below.size (by assumption) | omega | (simp; done) | (simp; omega)) _)) hgv3 (by have := hBv2.size; first | exact this | (simp; omega)) (fun k hk => (World.ownsRow.lt hv2 k hk).1)
                  clear hgv3
                  obtain ⟨g', c', n', hv3', hn', hrows⟩ := ins_rows (j := j) HOw.out HOyw.out hv3 hBv3 HSw.out (Nat.lt_succ_self w1.heap.size)
                  subst hv3'
                  have HN := hid hn'
                  clear hn'
                  have HRows := hid hrows
                  have hfz : wC.frozen? ⟨w1.heap.size, 1, none⟩ = false := by rw [hBv3.frozen (p := ⟨w1.heap.size, 1, none⟩) (by dsimp only; exact HSw.out)]; exact F2.out
                  clear hrows hv1 hv2 hv3
                  refine hK.out _ _ (and_of_below F1.out (by repeat (first | exact Below.refl _ _ | assumption | refine Below.drew ?_ | refine sorted.bdn ?_ _ | refine Below.alloc ?_ (by first | exact Nat.le_refl _ | exact Below.size (by assumption) | omega | (simp; done) | (simp; omega)) _))) (fun hHeld => ?_)
                  clear hK K'
                  simp only [Act.put, List.setIfInBounds_toArray, List.set_cons_zero, List.set_cons_succ]
                  refine Goes.take (i := 14) (v := ?v14u48) (some 78) hE rfl rfl inv (by kernel_rfl) (by kernel_rfl) (by decide) (fun _ _ _ h => h) (Or.inl ⟨by rfl, ?y14u48⟩) (by assumption) (fun inv => ?r14u48)
                  case y14u48 => (intro w' hSw; (try dsimp only at hSw); go_simp; (try with_reducible rfl))
                  simp only [Act.put, List.setIfInBounds_toArray, List.set_cons_zero, List.set_cons_succ]
                  refine Goes.last (by kernel_rfl) (by kernel_rfl) rfl (fun K' hK => ?_)
                  obtain ⟨hcC, _⟩ := hHeld
                  go_simp
                  refine hK.out _ _ ?_
                  clear hK K'
                  have hc1 := World.cell?_setCell_same wC ⟨w1.heap.size, 1, none⟩ (.slice (some ⟨g', 0, none⟩) n' c') hcC
                  have hc0 : (wC.setCell ⟨w1.heap.size, 1, none⟩ (.slice (some ⟨g', 0, none⟩) n' c')).cell? ⟨w1.heap.size, 0, none⟩ = some (.int .i64 vars) := by rw [World.cell?_setCell_other _ _ _ _ (by simp)]; exact keep hBv3 F0.out
                  have HC1 := hid hc1
                  have HC0 := hid hc0
                  clear hc1 hc0 hcC
                  (try simp only [Exit.inBlock, Exit.then])
                  go_wp2
                  exact ⟨⟨k + 1, _, c', some ⟨g', 0, none⟩, _, by omega, by go_num, HC0.out, HC1.out, by rw [World.frozen?_setCell]; exact hfz, HN.out, by have := HPn.out; rw [← HN.out]; first | (simp; done) | (simp; omega), by have := hBv3.size; have := HSw.out; simp; omega, HRows.out, HPut.out.1, fun z => by rw [HK2.out, List.mem_append, List.mem_singleton, HPut.out.2 z], (HBw.out.trans (hBv3.mono HBw.out.size)).setCell (Nat.le_refl _) _⟩, by simp [intOf]; omega⟩
      · have HK' := HK.out
        rw [hop] at HK'
        simp only [if_true, List.append_nil] at HK'
        have HK2 := hid HK'
        clear HK' HK hop
        go_wp2
        exact ⟨⟨k + 1, n, c, p, ps, by omega, by go_num, d0, d1, d2, HPn.out, by omega, HS2.out, HO2.out, HRi.out, fun z => by rw [HK2.out]; exact HM.out z, HB3.out⟩, by simp [intOf]; omega⟩
    · have e : k = len := by omega
      subst e
      have HMk : Hid (∀ z, z ∈ ps.map (·.2) ↔ z ∈ kept zss) := fun z => by
        have := HM.out z
        rwa [List.take_of_length_le (by rw [HL.out]; omega)] at this
      have q0 := keep HB2.out Q0.out
      have q1 := keep HB2.out Q1.out
      have s1 := S1.out
      have q2 : wr.frozen? ⟨w.heap.size + 1, 0, none⟩ = false := by rw [(bcell HB2.out).2 _ _ s1]; exact Q2.out
      have q3 : wr.frozen? ⟨w.heap.size + 1, 1, none⟩ = false := by rw [(bcell HB2.out).2 _ _ s1]; exact Q3.out
      have HF : Hid (OwnRows w.heap.size ((wr.setCell ⟨w.heap.size + 1, 0, none⟩ (.int .i64 vars)).setCell ⟨w.heap.size + 1, 1, none⟩ (.slice p n c)) (.slice p n c) ps) := rows_mono (rows_ahead (rows_ahead HO.out (by omega)) (by omega)) (by omega)
      have HE : Hid (Below w.heap.size w ((wr.setCell ⟨w.heap.size + 1, 0, none⟩ (.int .i64 vars)).setCell ⟨w.heap.size + 1, 1, none⟩ (.slice p n c))) := ((HB.out.trans (HB2.out.mono (by omega))).setCell (by dsimp only; omega) _).setCell (by dsimp only; omega) _
      clear s1
      go_wp2
      (try simp only [Exit.inBlock, Exit.then])
      refine bodyPost_ret (v := .tuple #[.agg #[.int .i64 vars, .slice p n c], .int .i64 0]) (by rw [results_cell_tmp rfl]; go_simp) rfl ?_
      exact ⟨_, ps, rfl, HF.out, HRi.out, HMk.out, HE.out⟩
end Go.Proofs.Ytiiigdcfnnjkcaa.normalGood
