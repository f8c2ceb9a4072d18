/- LawNets; SameRts: one text, so that the claim has fewer files. -/
import Derived.Test.YtmipoghemfopaaaGreatArgs
import Derived.Test.YtmipoghemfopaaaGreatNetOfs
import Derived.Test.YtmipoghemfopaaaGreatEnvAll
import Derived.Test.YtmipoghemfopaaaGreatSceneAll
import Derived.Test.YtmipoghemfopaaaGreatStabAll
/- What laws over drawn networks share: arguments of bytes, small facts of right networks; conditions: none. -/
namespace Go.Proofs.YtmipoghemfopaaaGreat.lawNets
open Go.ChangeShapes Go.WideShapes Go.ChangeAt Go.RowKit Go.Deep Go.Joins Go base args netSem netMath routeRow rtsRow candEnv stabImpl source
set_option linter.unusedVariables false

theorem bytes_below {w w1 : World} {a : Option Addr} {len : Nat} (h : Bytes w a len) (hb : Below w.heap.size w w1) : Bytes w1 a len := fun i hi => by
  obtain ⟨b, o, e, x, hx, hc⟩ := h i hi
  exact ⟨b, o, e, x, hx, keep hb hc⟩
theorem bytes_of_trod {H : Type} {enc : TypeId × Value → H} {P : Program} {w : World} {base : Nat} {held : Bool} {t e : TypeId} {fuel : Nat} {v : Value} {x : DataW H × List MemPlace} (ht : P.underlying t = some (.slice e)) (he : P.underlying e = some (.int .u8)) (ce : P.cellsOf e = 1)
    (h : DataW.trod enc P w base (fun _ => true) held fuel t [v] = some x) : ∃ a len cap, v = .slice a len cap ∧ Bytes w a len ∧ len ≤ maxLen := by
  rcases open_ints ht he ce h with ⟨hcs, _⟩ | ⟨x, l, c, zs, hcs, _, hl, hm, hz, _, hcell, hwz⟩
  · exact ⟨none, 0, 0, by simpa using hcs, fun i hi => absurd hi (Nat.not_lt_zero _), Nat.zero_le _⟩
  · simp only [if_true] at hz
    refine ⟨some x, l, c, by simpa using hcs, fun i hi => ?_, Nat.le_trans hl hm⟩
    obtain ⟨e1, e2⟩ := at_none (hcell 0 (by omega)) (hcell i (by omega))
    have hi' : i < zs.length := by omega
    have hw := hwz zs[i] (List.getElem_mem hi')
    have hr : 0 ≤ zs[i] ∧ zs[i] < 256 := by
      simp [Lit.wf, IntKind.min, IntKind.max, IntKind.bits, IntKind.signed] at hw
      omega
    obtain ⟨y, hy⟩ := Int.eq_ofNat_of_zero_le hr.1
    refine ⟨x.block, x.off, by rw [← e1], y, by omega, ?_⟩
    rw [e2, List.getD_eq_getElem?_getD, List.getElem?_eq_getElem hi', Option.getD_some, hy]
def OwnBools (B : Nat) (w : World) (v : Value) (zs : List Bool) : Prop := w.ownsRow B 4 1 v zs.length (zs.map Value.bool)
theorem OwnBools.form {B : Nat} {w : World} {v : Value} {zs : List Bool} (h : OwnBools B w v zs) : ∃ a cap, v = .slice a zs.length cap ∧ BoolRow w a zs.length zs := by
  obtain ⟨h1, h2⟩ := h
  rcases h2 with ⟨rfl, hn⟩ | ⟨g, cap, cur, rfl, hb, hh, hn, hm, hs, ht⟩
  · exact ⟨none, 0, by rw [hn], ⟨rfl, by rw [hn]; exact Nat.zero_le _, fun i hi => by omega⟩⟩
  · refine ⟨some ⟨g, 0, none⟩, cap, rfl, ⟨rfl, Nat.le_trans hn hm, fun i hi => ⟨g, 0, rfl, ?_⟩⟩⟩
    have h3 : cur[i]? = some (.bool (zs[i]?.getD false)) := by
      have : (cur.toList.take (zs.length * 1))[i]? = (zs.map Value.bool)[i]? := by rw [ht]
      rw [List.getElem?_take, if_pos (by omega)] at this
      rw [← Array.getElem?_toList, this, List.getElem?_map, List.getElem?_eq_getElem hi]
      rfl
    simp [World.cell?, hh, h3]
theorem net_small {l : Nat → Nat} {s : Ss} {g x f : R} {o e : List Int} (h : netB l s g o e x f = true) : (1 ≤ l 0 ∧ l 0 ≤ 4) ∧ l 1 ≤ 6 ∧ l 3 ≤ 2 ∧ (∀ i, i < l 1 → 1 ≤ g i 2) := by
  unfold netB routersB linksB inB at h
  simp only [Bool.and_eq_true, decide_eq_true_eq, allN_iff] at h
  obtain ⟨⟨⟨⟨⟨⟨⟨h1, _⟩, ⟨h2, h3⟩⟩, _⟩, _⟩, h4⟩, _⟩, _⟩ := h
  refine ⟨by omega, h2, h4, fun i hi => ?_⟩
  have := h3 i hi
  unfold linkB inB at this
  simp only [Bool.and_eq_true, decide_eq_true_eq] at this
  omega
theorem env_good {zs : List Int} {dl : Nat} (h : ∀ z ∈ zs, 0 ≤ z ∧ z < 3) (hz : zs.length ≤ 4096) (hd : dl ≤ 4096) : envC true zs.length dl zs.length dl zs = 0 := by
  unfold envC
  rw [if_neg (by omega), if_neg (by decide), if_neg (by simp), if_pos ?_]
  refine allN_of fun i hi => ?_
  unfold inB zAt
  rw [List.getElem?_eq_getElem hi]
  have := h _ (List.getElem_mem hi)
  exact decide_eq_true (by simp only [Option.getD_some]; omega)
theorem env_pos {zs : List Int} (h : ∀ z ∈ zs, 0 ≤ z ∧ z < 3) (i : Nat) : 0 ≤ zAt zs i := by
  unfold zAt
  by_cases hi : i < zs.length
  · rw [List.getElem?_eq_getElem hi]; exact (h _ (List.getElem_mem hi)).1
  · rw [List.getElem?_eq_none (by omega)]; exact Int.le_refl _
theorem first_at {p : Nat → Bool} {n : Nat} (h : 0 ≤ firstAt p n) : p (firstAt p n).toNat = true := by
  unfold firstAt at h ⊢
  cases e : (List.range n).find? p with
  | none => rw [e] at h; exact absurd h (by decide)
  | some i =>
    have := List.find?_some e
    simpa using this
theorem rF_list {zs zs' : List Rt} (hl : zs.length = zs'.length) (h : ∀ i, i < zs.length → rF zs i = rF zs' i) : zs = zs' := by
  refine List.ext_getElem hl fun i h1 h2 => ?_
  have := h i h1
  unfold rF at this
  rw [List.getElem?_eq_getElem h1, List.getElem?_eq_getElem h2] at this
  exact this
theorem same_list {zs zs' : List Rt} (hl : zs.length = zs'.length) : (zs = zs' → sameTo (rF zs) (rF zs') zs.length = true) ∧ (zs ≠ zs' → sameTo (rF zs) (rF zs') zs.length = false) := by
  refine ⟨fun h => ?_, fun h => ?_⟩
  · subst h; exact same_yes fun _ _ => rfl
  · cases hb : sameTo (rF zs) (rF zs') zs.length with
    | false => rfl
    | true =>
      refine absurd (rF_list hl fun i hi => ?_) h
      unfold sameTo at hb
      exact eqR_iff.1 (allN_iff.1 hb i hi)
end Go.Proofs.YtmipoghemfopaaaGreat.lawNets

/- Whether two rows of routes are the same, of the laws; conditions: none. -/
namespace Go.Proofs.YtmipoghemfopaaaGreat.sameRts
open Go.RowKit Go.Deep Go base netSem routeRow candSem rtsRow stabImpl
set_option linter.unusedVariables false

set_option maxHeartbeats 1600000 in
set_option maxRecDepth 8000 in
theorem same_rts (a a' : Option Addr) (n c c' : Nat) (g g' : Rs) (w : World) (hr : RtRow w a n g) (hr' : RtRow w a' n g') :
    Calls Tryz.prog 9 #[.slice a n c, .slice a' n c'] w fun e w' => e = .returned (.bool (sameTo g g' n)) ∧ Below w.heap.size w w' := by
  have HR := hid hr
  have HR' := hid hr'
  have hm := hr.most
  unfold maxLen at hm
  clear hr hr'
  have hnn : ((n : Int) != (n : Int)) = false := by simp
  go_enter Tryz.func9, Tryz.ntmps9
  go_wp2
  go_loopw [5] (fun i wr => ∃ k : Nat, k ≤ n ∧ i = .int .i64 k ∧ (∀ j, j < k → g j = g' j) ∧ Below w.heap.size w wr) (fun i _ => n - (intOf i).toNat)
  case atStart => exact ⟨0, Nat.zero_le _, rfl, fun j hj => absurd hj (Nat.not_lt_zero _), (by repeat (first | exact Below.refl _ _ | assumption | refine Below.drew ?_ | refine Below.alloc ?_ (by first | exact Nat.le_refl _ | omega | (simp; done) | (simp; omega)) _ | refine Below.setCell ?_ (by first | exact Nat.le_refl _ | omega | (simp; done) | (simp; omega)) _))⟩
  case round =>
    obtain ⟨k, hk, rfl, ha, hbel⟩ := hrel
    have HA := hid ha
    have HB := hid hbel
    clear ha
    by_cases hlt : k < n
    · obtain ⟨b, off, rfl, c0, c1, c2, c3⟩ := (HR.out.below hbel).at4 hlt
      obtain ⟨b', off', rfl, d0, d1, d2, d3⟩ := (HR'.out.below hbel).at4 hlt
      clear hbel
      have HQ : Hid ((g k).via = (g' k).via → (g k).pref = (g' k).pref → (g k).len = (g' k).len → (g k).mark = (g' k).mark → g k = g' k) := fun h1 h2 h3 h4 => by
        revert h1 h2 h3 h4
        cases g k; cases g' k
        simp
        intros
        simp_all
      have HN : Hid (∀ r r', g k = r → g' k = r' → r ≠ r' → sameTo g g' n = false) := fun r r' e1 e2 h => same_no hlt (by rw [e1, e2]; exact h)
      obtain ⟨x, hx⟩ : ∃ r, g k = r := ⟨_, rfl⟩
      obtain ⟨y, hy⟩ : ∃ r, g' k = r := ⟨_, rfl⟩
      have HX := hid hx
      have HY := hid hy
      rw [hx] at c0 c1 c2 c3
      rw [hy] at d0 d1 d2 d3
      clear hx hy HQ
      obtain ⟨x0, x1, x2, x3⟩ := x
      obtain ⟨y0, y1, y2, y3⟩ := y
      dsimp only at c0 c1 c2 c3 d0 d1 d2 d3
      by_cases e0 : x0 = y0
      · subst e0
        by_cases e1 : x1 = y1
        · subst e1
          by_cases e2 : x2 = y2
          · subst e2
            by_cases e3 : x3 = y3
            · subst e3
              go_wp2
              go_region
              all_goals
                go_wp2
                go_roundw
                case rel =>
                  refine ⟨k + 1, by omega, by go_num, fun j hj => ?_, HB.out.drew⟩
                  by_cases e : j = k
                  · subst e; rw [HX.out, HY.out]
                  · exact HA.out j (by omega)
                case measure => simp [intOf]; omega
            · have f : (x3 == y3) = false := by simp [e3]
              have HF : Hid (sameTo g g' n = false) := HN.out _ _ HX.out HY.out (fun h => e3 (by injection h))
              clear e3
              go_wp2
              go_region
              all_goals
                go_wp2
                go_ret
                exact ⟨ret_bool HF.out.symm, HB.out.drew⟩
          · have f : (x2 == y2) = false := by simp [e2]
            have HF : Hid (sameTo g g' n = false) := HN.out _ _ HX.out HY.out (fun h => e2 (by injection h))
            clear e2
            go_wp2
            go_region
            all_goals
              go_wp2
              go_ret
              exact ⟨ret_bool HF.out.symm, HB.out.drew⟩
        · have f : (x1 == y1) = false := by simp [e1]
          have HF : Hid (sameTo g g' n = false) := HN.out _ _ HX.out HY.out (fun h => e1 (by injection h))
          clear e1
          go_wp2
          go_region
          all_goals
            go_wp2
            go_ret
            exact ⟨ret_bool HF.out.symm, HB.out.drew⟩
      · have f : (x0 == y0) = false := by simp [e0]
        have HF : Hid (sameTo g g' n = false) := HN.out _ _ HX.out HY.out (fun h => e0 (by injection h))
        clear e0
        go_wp2
        go_region
        all_goals
          go_wp2
          go_ret
          exact ⟨ret_bool HF.out.symm, HB.out.drew⟩
    · have e : k = n := by omega
      subst e
      clear hbel
      go_wp2
      go_ret
      exact ⟨ret_bool (same_yes HA.out).symm, HB.out⟩

set_option maxHeartbeats 800000 in
theorem same_ne (a a' : Option Addr) (n n' c c' : Nat) (w : World) (hn : n ≤ maxLen) (hn' : n' ≤ maxLen) (hne : n ≠ n') :
    Calls Tryz.prog 9 #[.slice a n c, .slice a' n' c'] w fun e w' => e = .returned (.bool false) ∧ Below w.heap.size w w' := by
  unfold maxLen at hn hn'
  have hnn : ((n : Int) != (n' : Int)) = true := by simp; omega
  go_enter Tryz.func9, Tryz.ntmps9
  go_wp2
  go_ret
  exact ⟨rfl, (by repeat (first | exact Below.refl _ _ | assumption | refine Below.drew ?_ | refine Below.alloc ?_ (by first | exact Nat.le_refl _ | omega | (simp; done) | (simp; omega)) _ | refine Below.setCell ?_ (by first | exact Nat.le_refl _ | omega | (simp; done) | (simp; omega)) _))⟩
end Go.Proofs.YtmipoghemfopaaaGreat.sameRts
