/- The library strikes clauses that repeat the one ahead of them; conditions: lengths that fit. -/
import Derived.Test.YtiiigdcfnnjkcaaSortClauses
import Derived.Lib.SliceRun
namespace Go.Proofs.Ytiiigdcfnnjkcaa.compactClauses
open Go.RowKit Go.Deep base copy own order sorted inOrder mark clauseOrder sortClauses

set_option maxHeartbeats 400000 in
theorem equal_int (a a' : Option Addr) (len len' cap cap' : Nat) (zs ys : List Int) (w : World) (hr : IntRow w a len zs) (hr' : IntRow w a' len' ys) :
    Calls Try.prog 36 #[.slice a len cap, .slice a' len' cap'] w fun e w' => e = .returned (.bool (decide (zs = ys))) ∧ ∃ n, w' = w.drewN n := by
  obtain ⟨hlen, hmost, hcell⟩ := hr
  obtain ⟨hlen', hmost', hcell'⟩ := hr'
  unfold maxLen at hmost hmost'
  have HC := hid hcell
  have HC' := hid hcell'
  have HL := hid hlen
  have HL' := hid hlen'
  clear hcell hcell' hlen hlen'
  by_cases hne : len = len'
  · subst hne
    have hb : ((len : Int) != (len : Int)) = false := by simp
    go_enter Try.func36, Try.ntmps36
    go_wp2
    go_loopw [13] (fun i wr => ∃ k : Nat, k ≤ len ∧ i = .int .i64 k ∧ zs.take k = ys.take k ∧ ∃ n, wr = w.drewN n) (fun i _ => len - (intOf i).toNat)
    case atStart => exact ⟨0, Nat.zero_le _, rfl, rfl, 0, rfl⟩
    case round =>
      obtain ⟨k, hk, rfl, ht, n, hw⟩ := hrel
      have HT := hid ht
      clear ht
      by_cases hlt : k < len
      · obtain ⟨b, off, rfl, hc0⟩ := HC.out k hlt
        obtain ⟨b', off', rfl, hc0'⟩ := HC'.out k hlt
        have hc : wr.cell? ⟨b, off + k, none⟩ = some (.int .i64 (zs[k]?.getD 0)) := by rw [hw]; simpa using hc0
        have hc' : wr.cell? ⟨b', off' + k, none⟩ = some (.int .i64 (ys[k]?.getD 0)) := by rw [hw]; simpa using hc0'
        have HW := hid hw
        clear hw hc0 hc0'
        by_cases he : zs[k]?.getD 0 = ys[k]?.getD 0
        · have hq : (zs[k]?.getD 0 != ys[k]?.getD 0) = false := by simp [he]
          have HE := hid he
          clear he
          go_wp2
          go_quiet (fail)
          go_wp2
          go_roundw
          case rel => exact ⟨k + 1, by omega, by go_num, take_eq_succ (by rw [HL.out]; omega) (by rw [HL'.out]; omega) HT.out HE.out, n + nq, by rw [HW.out, World.drewN_drewN]⟩
          case measure => simp [intOf]; omega
        · have hq : (zs[k]?.getD 0 != ys[k]?.getD 0) = true := by simp [he]
          have HE := hid he
          clear he
          go_wp2
          go_quiet (fail)
          go_wp2
          go_ret
          exact ⟨ret_bool (decide_eq_false (ne_of_getD HE.out)).symm, n + nq, by rw [HW.out, World.drewN_drewN]⟩
      · have e : k = len := by omega
        subst e
        have HW := hid hw
        clear hw
        go_wp2
        go_ret
        refine ⟨ret_bool (decide_eq_true ?_).symm, n, HW.out⟩
        have := HT.out
        rwa [List.take_of_length_le (by rw [HL.out]; omega), List.take_of_length_le (by rw [HL'.out]; omega)] at this
  · have hb : ((len : Int) != (len' : Int)) = true := by simp; omega
    have hd : ¬ zs = ys := fun h => hne (by rw [← HL.out, ← HL'.out, h])
    have HD := hid hd
    clear hd
    go_enter Try.func36, Try.ntmps36
    go_wp2
    go_ret
    exact ⟨ret_bool (decide_eq_false HD.out).symm, 0, rfl⟩

/-- The place j of a list of clauses is kept: it is the first, or another clause than the one ahead. -/
def keepsC (ps : List (Value × List Int)) (j : Nat) : Bool := decide (j = 0 ∨ (ps[j]?.getD default).2 ≠ (ps[j - 1]?.getD default).2)
def compC (ps : List (Value × List Int)) : Nat → List (Value × List Int)
  | 0 => []
  | m + 1 => compC ps m ++ (if keepsC ps m then [ps[m]?.getD default] else [])
theorem compC_le (ps : List (Value × List Int)) : ∀ m, (compC ps m).length ≤ m
  | 0 => Nat.le_refl _
  | m + 1 => by
    have := compC_le ps m
    unfold compC
    rw [List.length_append]
    split <;> simp <;> omega
theorem compC_all (ps : List (Value × List Int)) : ∀ m, m ≤ ps.length → (∀ j, j < m → keepsC ps j = true) → compC ps m = ps.take m
  | 0, _, _ => by simp [compC]
  | m + 1, hm, h => by
    unfold compC
    rw [compC_all ps m (by omega) (fun j hj => h j (by omega)), if_pos (h m (by omega)), List.take_succ_eq_append_getElem (by omega), List.getElem?_eq_getElem (by omega)]
    rfl
theorem own_beyond {B g kk cap idx : Nat} {t : TypeId} {w : World} {xs : List Value} {v : Value} (h : w.ownsRow B t 1 (.slice (some ⟨g, 0, none⟩) kk cap) kk xs) (hi : kk ≤ idx) : (w.setCell ⟨g, idx, none⟩ v).ownsRow B t 1 (.slice (some ⟨g, 0, none⟩) kk cap) kk xs := by
  obtain ⟨h1, h2⟩ := h
  refine ⟨h1, ?_⟩
  rcases h2 with ⟨e, _⟩ | ⟨g', cap', cur, e, hg, hh, hn, hm, hs, ht⟩
  · cases e
  · cases e
    refine .inr ⟨g, cap, cur.setIfInBounds idx v, rfl, hg, ?_, hn, hm, by simpa using hs, ?_⟩
    · rw [Sort.setCell_eq]
      show (w.heap.modify g _)[g]? = _
      rw [Array.getElem?_modify, if_pos rfl, hh]
      rfl
    · rw [Array.toList_setIfInBounds, List.take_set_of_le (by omega)]
      exact ht
theorem rows_set {B g n c k : Nat} {w : World} {cs : List (Value × List Int)} {p : Value × List Int} (h : OwnRows B w (.slice (some ⟨g, 0, none⟩) n c) cs) (hp : OwnInts B w p.1 p.2) : OwnRows B (w.setCell ⟨g, k, none⟩ p.1) (.slice (some ⟨g, 0, none⟩) n c) (cs.set k p) := by
  have hgr : w.grownBy (w.setCell ⟨g, k, none⟩ p.1) (some g) := grown_set (grown_refl _ _)
  have hl : cs.length = n := by
    rcases h.outer.2 with ⟨e, _⟩ | ⟨g', c', cur, e, _⟩
    · cases e
    · injection e with _ e _; exact e.symm
  refine ⟨?_, fun q hq => ?_⟩
  · obtain ⟨h1, h2⟩ := h.outer
    refine ⟨by simp, .inr ?_⟩
    rcases h2 with ⟨e, _⟩ | ⟨g', cap, cur, e, hg, hh, hn, hm, hs, ht⟩
    · cases e
    · have eg : g = g' := by injection e with e; injection e with e; injection e
      have ec : c = cap := by injection e
      subst eg
      subst ec
      refine ⟨g, c, cur.setIfInBounds k p.1, by rw [List.length_set, hl], hg, ?_, by rw [List.length_set]; exact hn, hm, by simpa using hs, ?_⟩
      · rw [Sort.setCell_eq]
        show (w.heap.modify g _)[g]? = _
        rw [Array.getElem?_modify, if_pos rfl, hh]
        rfl
      · rw [List.length_set, Array.toList_setIfInBounds, List.take_set, ht, List.map_set]
  · have hqi : OwnInts B w q.1 q.2 := by
      rcases List.mem_or_eq_of_mem_set hq with h1 | rfl
      · exact h.inner q h1
      · exact hp
    exact own_grown hqi hgr (fun k' hk' e => h.apart hqi hk' (by injection e))
theorem rows_cell {B g n c j : Nat} {w : World} {cs : List (Value × List Int)} (h : OwnRows B w (.slice (some ⟨g, 0, none⟩) n c) cs) (hj : j < n) : cs.length = n ∧ ∃ p, cs[j]? = some p ∧ w.cell? ⟨g, j, none⟩ = some p.1 ∧ w.frozen? ⟨g, j, none⟩ = false ∧ OwnInts B w p.1 p.2 := by
  have hl : cs.length = n := by
    rcases h.outer.2 with ⟨e, _⟩ | ⟨g', c', cur, e, _⟩
    · cases e
    · injection e with _ e _; exact e.symm
  have hjc : j < cs.length := by omega
  refine ⟨hl, cs[j], List.getElem?_eq_getElem hjc, ?_⟩
  rcases h.outer.2 with ⟨e, _⟩ | ⟨g', cap, cur, e, _, hh, _, _, hs, ht⟩
  · cases e
  · have eg : g = g' := by injection e with e; injection e with e; injection e
    subst eg
    have h3 : cur[j]? = some cs[j].1 := by
      have : (cur.toList.take (cs.length * 1))[j]? = (cs.map Prod.fst)[j]? := by rw [ht]
      rw [List.getElem?_take, if_pos (by omega)] at this
      rw [← Array.getElem?_toList, this, List.getElem?_map, List.getElem?_eq_getElem hjc]
      rfl
    exact ⟨by simp [World.cell?, hh, h3], by simp [World.frozen?, hh], h.inner _ (List.getElem_mem hjc)⟩
theorem own_setCells {B g kk cap : Nat} {t : TypeId} {xs : List Value} : ∀ (vs : List Value) (o : Nat) (w : World), kk ≤ o → w.ownsRow B t 1 (.slice (some ⟨g, 0, none⟩) kk cap) kk xs → (w.setCells g o vs).ownsRow B t 1 (.slice (some ⟨g, 0, none⟩) kk cap) kk xs
  | [], _, _, _, h => h
  | _ :: vs, o, _, ho, h => own_setCells vs (o + 1) _ (by omega) (own_beyond h ho)
theorem grown_setCells {g : Nat} {w0 : World} : ∀ (vs : List Value) (o : Nat) (w : World), w0.grownBy w (some g) → w0.grownBy (w.setCells g o vs) (some g)
  | [], _, _, h => h
  | _ :: vs, o, _, h => grown_setCells vs (o + 1) _ (grown_set h)
theorem equal_yes {a a' : Option Addr} {c c' : Nat} {zs ys : List Int} {w : World} (he : zs = ys) (h : IntRow w a zs.length zs) (h' : IntRow w a' ys.length ys) :
    Calls Try.prog 36 #[.slice a zs.length c, .slice a' ys.length c'] w fun e w' => e = .returned (.bool true) ∧ ∃ n, w' = w.drewN n := by
  have := equal_int a a' zs.length ys.length c c' zs ys w h h'
  rwa [decide_eq_true he] at this
theorem equal_no {a a' : Option Addr} {c c' : Nat} {zs ys : List Int} {w : World} (he : ¬ zs = ys) (h : IntRow w a zs.length zs) (h' : IntRow w a' ys.length ys) :
    Calls Try.prog 36 #[.slice a zs.length c, .slice a' ys.length c'] w fun e w' => e = .returned (.bool false) ∧ ∃ n, w' = w.drewN n := by
  have := equal_int a a' zs.length ys.length c c' zs ys w h h'
  rwa [decide_eq_false he] at this
theorem keeps_no {ps : List (Value × List Int)} {m k : Nat} {p p' : Value × List Int} (hm : m = k + 1) (h : ps[m]? = some p) (h' : ps[k]? = some p') (e : p.2 = p'.2) : keepsC ps m = false := by
  subst hm
  simp [keepsC, h, h', e]
theorem keeps_yes {ps : List (Value × List Int)} {m k : Nat} {p p' : Value × List Int} (hm : m = k + 1) (h : ps[m]? = some p) (h' : ps[k]? = some p') (e : ¬ p.2 = p'.2) : keepsC ps m = true := by
  subst hm
  simp [keepsC, h, h', e]
set_option maxHeartbeats 1600000 in
theorem compact_clauses (B g n cap : Nat) (ps : List (Value × List Int)) (w : World) (h : OwnRows B w (.slice (some ⟨g, 0, none⟩) n cap) ps) (hn : n ≤ 1048576) (hcap : n ≤ cap) (hcap' : cap ≤ maxLen) :
    Calls Try.prog 35 #[.slice (some ⟨g, 0, none⟩) n cap, .func (.func 36) #[] #[]] w fun e w' => e = .returned (.slice (some ⟨g, 0, none⟩) (compC ps n).length cap) ∧ OwnRows B w' (.slice (some ⟨g, 0, none⟩) (compC ps n).length cap) (compC ps n) ∧ RowKit.Below g w w' := by
  have hl : ps.length = n := by
    rcases h.outer.2 with ⟨e, _⟩ | ⟨g', c', cur, e, _⟩
    · cases e
    · injection e with _ e _; exact e.symm
  unfold maxLen at hcap'
  have HO := hid h
  have HL := hid hl
  have HAll : Hid ((∀ j, j < n → keepsC ps j = true) → compC ps n = ps ∧ (compC ps n).length = n) := fun hk => by
    have e := compC_all ps n (by omega) hk
    rw [List.take_of_length_le (by omega)] at e
    exact ⟨e, by rw [e]; exact hl⟩
  clear h hl
  obtain ⟨M, hM⟩ : ∃ M, (compC ps n).length = M := ⟨_, rfl⟩
  obtain ⟨R, hR⟩ : ∃ R, compC ps n = R := ⟨_, rfl⟩
  rw [hM] at HAll ⊢
  rw [hR] at HAll ⊢
  have HM := hid hM
  have HR := hid hR
  clear hM hR
  by_cases h2 : n < 2
  · obtain ⟨e1, e2⟩ := HAll.out (fun j hj => by simp [keepsC]; exact .inl (by omega))
    have E1 := hid e1
    have E2 := hid e2
    clear e1 e2
    go_enter Try.func35, Try.ntmps35
    go_wp2
    go_ret
    exact ⟨by rw [E2.out]; rfl, by rw [E1.out, E2.out]; exact HO.out, RowKit.Below.refl _ _⟩
  go_enter Try.func35, Try.ntmps35
  go_wp2
  go_loopw [5] (fun i wr => ∃ k q : Nat, 1 ≤ k ∧ k ≤ n ∧ i = .int .i64 k ∧ wr = w.drewN q ∧ ∀ j, j < k → keepsC ps j = true) (fun i _ => n - (intOf i).toNat)
  case atStart => exact ⟨1, 0, Nat.le_refl _, by omega, rfl, rfl, fun j hj => by simp [keepsC]; exact .inl (by omega)⟩
  case round =>
    obtain ⟨k, q, hk1, hk, rfl, hw, hall⟩ := hrel
    have HK := hid hall
    have hb : RowKit.Below w.heap.size w wr := by rw [hw]; exact below_drewN _ _
    have HOr := hid (HO.out.below hb)
    have HW := hid hw
    have HBg : Hid (RowKit.Below g w wr) := hb.mono (Nat.le_of_lt (World.ownsRow.lt HO.out.outer g rfl).2)
    clear hall hw hb
    by_cases hlt : k < n
    · obtain ⟨m, hm⟩ : ∃ m, k = m + 1 := ⟨k - 1, by omega⟩
      obtain ⟨_, p, ep, cp, _, op⟩ := rows_cell HOr.out hlt
      obtain ⟨_, p', ep', cp', _, op'⟩ := rows_cell (j := m) HOr.out (by omega)
      have HNo := hid (keeps_no hm ep ep')
      have HYes := hid (keeps_yes hm ep ep')
      obtain ⟨a1, c1, e1, r1⟩ := op.form
      obtain ⟨a2, c2, e2, r2⟩ := op'.form
      rw [e1] at cp
      rw [e2] at cp'
      have R1 := hid r1
      have R2 := hid r2
      have ip : (k : Int) - 1 = (m : Int) := by omega
      have ip1 : (m : Int) < (n : Int) := by omega
      have ip2 : (k : Int) < (n : Int) := by omega
      have HMk := hid hm
      clear ep ep' op op' e1 e2 r1 r2 hm
      by_cases he : p.2 = p'.2
      · have HC := hid (fun (n' : Nat) => equal_yes (c := c1) (c' := c2) he (R1.out.drewN n') (R2.out.drewN n'))
        have HKn := hid (HNo.out he)
        clear he
        have hck : ¬ cap = k := by omega
        have ic : (k : Int) ≤ (cap : Int) := by omega
        go_wp2
        go_quiet ((go_at_call 36; exact Calls.quiet_of (HC.out _)))
        go_wp2
        have HB2 : Hid (RowKit.Below g w (wr.drewN nq)) := HBg.out.trans ((below_drewN wr nq).mono (by have := (World.ownsRow.lt HOr.out.outer g rfl).2; omega))
        have HO2 := hid (HOr.out.below (below_drewN wr nq))
        generalize wr.drewN nq = W1 at *
        have HSt : Hid (compC ps (k + 1) = ps.take k ∧ k ≤ ps.length) := by
          show _ ∧ _
          refine ⟨?_, by rw [HL.out]; omega⟩
          show compC ps k ++ _ = _
          rw [compC_all ps k (by rw [HL.out]; omega) HK.out, HKn.out]
          simp
        clear cp cp' R1 R2 HC ip ip1 ip2
        go_loopw [5, 7] (fun i j wr => ∃ (kk k2 : Nat) (cs : List (Value × List Int)), 1 ≤ k2 ∧ k + k2 ≤ n ∧ kk < k + k2 ∧ i = .int .i64 kk ∧ j = .int .i64 k2 ∧ RowKit.Below g w wr ∧ OwnRows B wr (.slice (some ⟨g, 0, none⟩) n cap) cs ∧ cs.take kk = compC ps (k + k2) ∧ (∀ t, kk ≤ t → cs[t]? = ps[t]?)) (fun _ j _ => n - (intOf j).toNat)
        case atStart => exact ⟨k, 1, ps, Nat.le_refl _, by omega, by omega, rfl, rfl, HB2.out, HO2.out, HSt.out.1.symm, fun _ _ => rfl⟩
        case round =>
          obtain ⟨kk, k2, cs, h1, hle, hkk, rfl, rfl, hbel, hown, htake, hhigh⟩ := hrel
          have HBw := hid hbel
          have HOw := hid hown
          have HT := hid htake
          have HH := hid hhigh
          clear hbel hown htake hhigh
          by_cases hlt2 : k + k2 < n
          · obtain ⟨m2, hm2⟩ : ∃ m2, k2 = m2 + 1 := ⟨k2 - 1, by omega⟩
            obtain ⟨_, p, ep, cp, _, op⟩ := rows_cell HOw.out hlt2
            obtain ⟨_, p', ep', cp', _, op'⟩ := rows_cell (j := k + m2) HOw.out (by omega)
            obtain ⟨_, po, _, ck, fk, oo⟩ := rows_cell (j := kk) HOw.out (by omega)
            obtain ⟨ao, co, eo, _⟩ := oo.form
            rw [eo] at ck
            rw [HH.out _ (by omega)] at ep ep'
            have HNo := hid (keeps_no (show k + k2 = k + m2 + 1 by omega) ep ep')
            have HYes := hid (keeps_yes (show k + k2 = k + m2 + 1 by omega) ep ep')
            have HEp := hid ep
            obtain ⟨a1, c1, e1, r1⟩ := op.form
            obtain ⟨a2, c2, e2, r2⟩ := op'.form
            have HP := hid op
            have E1 := hid e1
            rw [e1] at cp
            rw [e2] at cp'
            have R1 := hid r1
            have R2 := hid r2
            have ip : (k2 : Int) - 1 = (m2 : Int) := by omega
            have ip1 : (m2 : Int) < ((n - k : Nat) : Int) := by omega
            have ip2 : (k2 : Int) < ((n - k : Nat) : Int) := by omega
            have ip3 : (kk : Int) < (n : Int) := by omega
            clear ep ep' op op' e1 e2 r1 r2 hm2 oo eo
            by_cases he : p.2 = p'.2
            · have HC := hid (fun (n' : Nat) => equal_yes (c := c1) (c' := c2) he (R1.out.drewN n') (R2.out.drewN n'))
              have HKn2 := hid (HNo.out he)
              clear he
              go_wp2
              go_quiet ((go_at_call 36; exact Calls.quiet_of (HC.out _)))
              go_wp2
              go_roundw
              case rel =>
                refine ⟨kk, k2 + 1, cs, by omega, by omega, by omega, rfl, by go_num, HBw.out.trans ((below_drewN wr nq).mono (by have := (World.ownsRow.lt HOw.out.outer g rfl).2; omega)), HOw.out.below (below_drewN wr nq), ?_, HH.out⟩
                rw [← Nat.add_assoc]
                show _ = compC ps (k + k2) ++ _
                rw [HKn2.out, HT.out]; simp
              case measure => simp [intOf]; omega
            · have HC := hid (fun (n' : Nat) => equal_no (c := c1) (c' := c2) he (R1.out.drewN n') (R2.out.drewN n'))
              have HKy2 := hid (HYes.out he)
              clear he
              go_wp2
              go_quiet ((go_at_call 36; exact Calls.quiet_of (HC.out _)))
              have d1 : (wr.drewN nq).cell? ⟨g, k + k2, none⟩ = some (.slice a1 p.2.length c1) := cp
              have d2 : (wr.drewN nq).cell? ⟨g, kk, none⟩ = some (.slice ao po.2.length co) := ck
              have d3 : (wr.drewN nq).frozen? ⟨g, kk, none⟩ = false := fk
              have HBn : Hid (RowKit.Below g w (wr.drewN nq)) := HBw.out.trans ((below_drewN wr nq).mono (by have := (World.ownsRow.lt HOw.out.outer g rfl).2; omega))
              have HOn := hid (HOw.out.below (below_drewN wr nq))
              have HPn := hid (HP.out.below (below_drewN wr nq))
              clear cp cp' ck fk R1 R2 HC HBw HOw HP
              generalize wr.drewN nq = W2 at *
              go_wp2
              go_roundw
              case rel =>
                have hs := rows_set (k := kk) HOn.out HPn.out
                rw [E1.out] at hs
                refine ⟨kk + 1, k2 + 1, cs.set kk p, by omega, by omega, by omega, by go_num, by go_num, HBn.out.setCell (Nat.le_refl _) _, hs, ?_, fun t ht => ?_⟩
                · rw [← Nat.add_assoc]
                  show _ = compC ps (k + k2) ++ _
                  have hkc : kk < cs.length := by have := (rows_cell (j := kk) HOn.out (by omega)).1; omega
                  rw [if_pos HKy2.out, HEp.out, ← HT.out, List.take_succ_eq_append_getElem (by rw [List.length_set]; exact hkc), List.take_set_of_le (Nat.le_refl _), List.getElem_set_self]
                  rfl
                · rw [List.getElem?_set_ne (by omega)]
                  exact HH.out t (by omega)
              case measure => simp [intOf]; omega
          · have hend : k + k2 = n := by omega
            have hcl : ∀ ty, (Builtin.clear_ #[23] ty #[.slice (some ⟨g, kk, none⟩) (n - kk) (cap - kk)]).run Try.prog wr = .ok (.tuple #[]) (wr.setCells g kk (List.replicate (n - kk) (.slice none 0 0))) :=
              fun ty => Lib.run_clear_slice wr _ _ ty _ Try.underlying23 Try.zeroValue37 rfl rfl g kk _ _ (by omega) (fun j hj => by
                obtain ⟨_, pj, _, cj, _, oj⟩ := rows_cell (j := kk + j) HOw.out (by omega)
                rw [cj]; rfl) (fun j hj => (rows_cell (j := kk + j) HOw.out (by omega)).2.choose_spec.2.2.1)
            have HLn : Hid ((compC ps n).length = kk) := by
              show _ = _
              rw [← hend, ← HT.out, List.length_take]
              have := (rows_cell (j := kk) HOw.out (by omega)).1
              omega
            have HRn : Hid (R = cs.take kk) := by show _ = _; rw [← HR.out, ← hend, HT.out]
            have hMk : M = kk := by rw [← HM.out]; exact HLn.out
            subst hMk
            have ip2 : ¬ (k2 : Int) < ((n - k : Nat) : Int) := by omega
            have ipc : (M : Int) ≤ (cap : Int) := by omega
            have ipn : (M : Int) ≤ (n : Int) := by omega
            have hcM : ¬ cap = M := by omega
            have HEnd := hid hend
            clear hend
            go_wp2
            go_ret
            have hgr : wr.grownBy (wr.setCells g M (List.replicate (n - M) (.slice none 0 0))) (some g) := grown_setCells _ _ _ (grown_refl _ _)
            have hgl : g < wr.heap.size := (World.ownsRow.lt HOw.out.outer g rfl).2
            have hcl2 := (rows_cell (j := M) HOw.out (by omega)).1
            refine ⟨rfl, ⟨?_, fun q hq => ?_⟩, HBw.out.trans ⟨hgr.os, hgr.tape, hgr.output, hgr.size, fun t ht => hgr.block t (by omega) (fun e => by injection e with e; omega)⟩⟩
            · have hc := own_cut (m := M) (hcl2 ▸ HOw.out.outer : wr.ownsRow B 37 1 (.slice (some ⟨g, 0, none⟩) n cap) n (cs.map Prod.fst)) (by omega)
              have hs := own_setCells (List.replicate (n - M) (.slice none 0 0)) M wr (Nat.le_refl _) hc
              have hlen : (cs.take M).length = M := by rw [List.length_take]; omega
              rw [HRn.out, hlen, List.map_take]
              exact hs
            · rw [HRn.out] at hq
              have hqi := HOw.out.inner q (List.mem_of_mem_take hq)
              exact own_grown hqi hgr (fun t ht e => HOw.out.apart hqi ht (by injection e))
      · have HC := hid (fun (n' : Nat) => equal_no (c := c1) (c' := c2) he (R1.out.drewN n') (R2.out.drewN n'))
        have HKy := hid (HYes.out he)
        clear he
        go_wp2
        go_quiet ((go_at_call 36; exact Calls.quiet_of (HC.out _)))
        go_wp2
        go_roundw
        case rel =>
          refine ⟨k + 1, q + nq, by omega, by omega, by go_num, by rw [HW.out, World.drewN_drewN], fun j hj => ?_⟩
          rcases Nat.lt_or_eq_of_le (Nat.le_of_lt_succ hj) with h | rfl
          · exact HK.out j h
          · exact HKy.out
        case measure => simp [intOf]; omega
    · have e : k = n := by omega
      subst e
      obtain ⟨e1, e2⟩ := HAll.out HK.out
      have E1 := hid e1
      have E2 := hid e2
      clear e1 e2
      go_wp2
      go_ret
      exact ⟨by rw [E2.out]; rfl, by rw [E1.out, E2.out]; exact HOr.out, HBg.out⟩
end Go.Proofs.Ytiiigdcfnnjkcaa.compactClauses
