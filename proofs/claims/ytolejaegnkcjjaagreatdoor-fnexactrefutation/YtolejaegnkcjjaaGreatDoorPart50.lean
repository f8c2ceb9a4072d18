/- StepsMark; CopyOwn; Args: one text, so that the claim has fewer files. -/
import Derived.Test.YtolejaegnkcjjaaGreatDoorPart49
import Derived.Test.YtolejaegnkcjjaaGreatDoorRowsOwn
import Derived.Test.YtolejaegnkcjjaaGreatDoorPart5
import Derived.Test.YtolejaegnkcjjaaGreatDoorPart1
import Derived.ProofKit
import Derived.OpenShut
import Derived.ShutString
import Derived.ChangeOld
import Derived.Lib.SmallJoins
import Derived.Deep.Slices
/- Rows of steps that a call owns: their marks, and that they are held; conditions: lengths that fit. -/
namespace Go.Proofs.YtolejaegnkcjjaaGreatDoor.stepsMark
open Go.RowKit Go.Deep base copy intsOwn stepsEq
open readSpecP (Pt pcs OwnSteps Lone strip)
set_option linter.unusedVariables false

def stepMarks (n : Int) : List Nat → List St
  | [] => []
  | l :: ls => (n % 3 == 0, marks (n + 1) (l - 1)) :: stepMarks (n + (l : Int)) ls
theorem stepMarks_length : ∀ (ls : List Nat) (n : Int), (stepMarks n ls).length = ls.length
  | [], _ => rfl
  | l :: ls, n => by simp [stepMarks, stepMarks_length ls]
theorem stepMarks_get : ∀ (ls : List Nat) (n : Int) (k : Nat), k < ls.length → (stepMarks n ls)[k]? = some ((n + ((ls.take k).sum : Nat)) % 3 == 0, marks (n + ((ls.take k).sum : Nat) + 1) (ls[k]?.getD 0 - 1))
  | [], _, k, h => absurd h (Nat.not_lt_zero _)
  | l :: ls, n, 0, _ => by simp [stepMarks]
  | l :: ls, n, k + 1, h => by
    have ih := stepMarks_get ls (n + (l : Int)) k (by simpa using h)
    have e1 : n + (l : Int) + ((ls.take k).sum : Nat) = n + ((((l :: ls).take (k + 1)).sum : Nat) : Int) := by simp; omega
    rw [e1] at ih
    simpa [stepMarks] using ih
theorem sum_succ {ls : List Nat} {k : Nat} (h : k < ls.length) : (ls.take (k + 1)).sum = (ls.take k).sum + ls[k]?.getD 0 := by
  rw [List.take_succ_eq_append_getElem h, List.getElem?_eq_getElem h, List.sum_append]
  simp
theorem sum_le : ∀ (ls : List Nat) (k : Nat), (ls.take k).sum ≤ ls.sum
  | [], k => by simp
  | l :: ls, 0 => by simp
  | l :: ls, k + 1 => by
    rw [List.take_succ_cons, List.sum_cons, List.sum_cons]
    have := sum_le ls k
    omega
theorem steps_apart {B g n c : Nat} {w : World} {ps : List Pt} (h : OwnSteps B w (.slice (some ⟨g, 0, none⟩) n c) ps) {v : Value} {zs : List Int} (hp : OwnInts B w v zs) {k : Nat} (hk : v.ownBlock = some k) : k ≠ g := by
  intro e
  subst e
  rcases h.outer.2 with ⟨e, _⟩ | ⟨g', cap, cur, e, _, hh, _⟩
  · cases e
  · have eg : k = g' := by injection e with e; injection e with e; injection e
    subst eg
    rcases hp.2 with ⟨e, _⟩ | ⟨g', cap, cur', e, _, hh', _⟩
    · rw [e] at hk; cases hk
    · rw [e] at hk
      have hk' : some g' = some k := hk
      injection hk' with hk'
      subst hk'
      rw [hh] at hh'
      injection hh' with hh'
      injection hh' with _ ht
      exact absurd ht (by decide)
/-- The flag of one step is written. -/
theorem steps_flag {B g n c k : Nat} {w : World} {ps : List Pt} {p : Pt} {d : Bool} (h : OwnSteps B w (.slice (some ⟨g, 0, none⟩) n c) ps) (hk : ps[k]? = some p) : OwnSteps B (w.setCell ⟨g, k * 2, none⟩ (.bool d)) (.slice (some ⟨g, 0, none⟩) n c) (ps.set k (d, p.2.1, p.2.2)) := by
  have hkl : k < ps.length := (List.getElem?_eq_some_iff.1 hk).1
  have hke : ps[k] = p := (List.getElem?_eq_some_iff.1 hk).2
  refine ⟨?_, fun q hq => ?_⟩
  · obtain ⟨h1, h2⟩ := h.outer
    rw [flat_set ps k p d p.2.2 hk, List.length_set]
    refine ⟨by rw [List.length_set]; exact h1, .inr ?_⟩
    rcases h2 with ⟨e, _⟩ | ⟨g', cap, cur, e, hg, hh, hn, hm, hs, ht⟩
    · cases e
    · have eg : g = g' := by injection e with e; injection e with e; injection e
      subst eg
      refine ⟨g, cap, cur.setIfInBounds (k * 2) (.bool d), e, hg, ?_, hn, hm, by simpa using hs, ?_⟩
      · simp [World.setCell, Array.getElem?_modify, hh]
      · rw [Array.toList_setIfInBounds, List.take_set, ht]
  · have hin : OwnInts B w q.2.1 q.2.2 := by
      obtain ⟨i, hi, e⟩ := List.mem_iff_getElem.1 hq
      rw [List.getElem_set] at e
      by_cases eq : k = i
      · rw [if_pos eq] at e
        rw [← e]
        exact h.inner p (hke ▸ List.getElem_mem hkl)
      · rw [if_neg eq] at e
        rw [← e]
        exact h.inner _ (List.getElem_mem (by simpa using hi))
    exact own_grown hin (grown_set (grown_refl _ _)) fun g' hg' e => by
      injection e with e
      exact steps_apart h hin hg' e
theorem lone_set {ps : List Pt} {k : Nat} {p : Pt} {d : Bool} {ys : List Int} (hl : Lone ps) (hk : ps[k]? = some p) : Lone (ps.set k (d, p.2.1, ys)) := by
  have hmap : (ps.set k (d, p.2.1, ys)).map (fun x => x.2.1) = ps.map (fun x => x.2.1) := by
    rw [List.map_set]
    apply List.ext_getElem?
    intro i
    rw [List.getElem?_set]
    by_cases e : k = i
    · subst e
      rw [if_pos rfl, if_pos (by simpa using (List.getElem?_eq_some_iff.1 hk).1), List.getElem?_map, hk]
      rfl
    · rw [if_neg e]
  have e1 : ∀ l : List Pt, Lone l ↔ (l.map (fun x => x.2.1)).Pairwise fun x y => ∀ g, x.ownBlock = some g → y.ownBlock = some g → False := fun l => by unfold Lone; rw [List.pairwise_map]
  rw [e1, hmap, ← e1]
  exact hl
/-- The clause of one step is marked. -/
theorem steps_marked {B g n c k : Nat} {w w1 : World} {ps : List Pt} {p : Pt} {ys : List Int} (h : OwnSteps B w (.slice (some ⟨g, 0, none⟩) n c) ps) (hl : Lone ps) (hk : ps[k]? = some p) (ho : OwnInts B w1 p.2.1 ys) (hg : w.grownBy w1 p.2.1.ownBlock) : OwnSteps B w1 (.slice (some ⟨g, 0, none⟩) n c) (ps.set k (p.1, p.2.1, ys)) := by
  have hkl : k < ps.length := (List.getElem?_eq_some_iff.1 hk).1
  have hke : ps[k] = p := (List.getElem?_eq_some_iff.1 hk).2
  have hpw := List.pairwise_iff_getElem.1 hl
  have hflat : (ps.set k (p.1, p.2.1, ys)).flatMap pcs = ps.flatMap pcs := by
    rw [flat_set ps k p p.1 ys hk]
    have := (flat_get ps k p hk).1
    obtain ⟨hlt, he⟩ := List.getElem?_eq_some_iff.1 this
    rw [← he, List.set_getElem_self]
  refine ⟨?_, fun q hq => ?_⟩
  · rw [hflat, List.length_set]
    obtain ⟨h1, h2⟩ := h.outer
    refine ⟨h1, ?_⟩
    rcases h2 with h2 | ⟨g', cap, cur, e, hgB, hh, hn⟩
    · exact .inl h2
    · refine .inr ⟨g', cap, cur, e, hgB, ?_, hn⟩
      have eg : g = g' := by injection e with e; injection e with e; injection e
      subst eg
      rw [hg.block g (Array.getElem?_eq_some_iff.1 hh).1 (fun e9 => steps_apart h (h.inner p (hke ▸ List.getElem_mem hkl)) e9.symm rfl)]
      exact hh
  · obtain ⟨i, hi, e⟩ := List.mem_iff_getElem.1 hq
    rw [List.getElem_set] at e
    by_cases eq : k = i
    · rw [if_pos eq] at e
      rw [← e]
      exact ho
    · rw [if_neg eq] at e
      have hi' : i < ps.length := by simpa using hi
      rw [← e]
      refine own_grown (h.inner _ (List.getElem_mem hi')) hg fun g hv e2 => ?_
      rcases Nat.lt_or_gt_of_ne eq with h1 | h1
      · exact hpw k i hkl hi' h1 g (by rw [hke]; exact e2.symm) hv
      · exact hpw i k hi' hkl h1 g hv (by rw [hke]; exact e2.symm)
theorem lens_set {qs : List Pt} {ls : List Nat} {k : Nat} {p : Pt} {d : Bool} {ys : List Int} (h : qs.map (fun p => p.2.2.length + 1) = ls) (hp : qs[k]? = some p) (hy : ys.length = p.2.2.length) : (qs.set k (d, p.2.1, ys)).map (fun p => p.2.2.length + 1) = ls := by
  have hkl : k < qs.length := (List.getElem?_eq_some_iff.1 hp).1
  rw [List.map_set, ← h]
  apply List.ext_getElem?
  intro i
  rw [List.getElem?_set]
  by_cases e : k = i
  · subst e
    rw [if_pos rfl, if_pos (by simpa using hkl), List.getElem?_map, hp]
    show some (ys.length + 1) = some (p.2.2.length + 1)
    rw [hy]
  · rw [if_neg e]
theorem marks_set {qs : List Pt} {M : List St} {k : Nat} {d : Bool} {pv : Value} {ys : List Int} (h : ∀ j, j < k → (qs.map strip)[j]? = M[j]?) (hk : k < qs.length) (hM : M[k]? = some (d, ys)) : ∀ j, j < k + 1 → ((qs.set k (d, pv, ys)).map strip)[j]? = M[j]? := fun j hj => by
  rw [List.map_set, List.getElem?_set]
  by_cases e : k = j
  · subst e
    rw [if_pos rfl, if_pos (by simpa using hk), hM]
    rfl
  · rw [if_neg e]
    exact h j (by omega)
theorem set_set {qs : List Pt} {k : Nat} {x y : Pt} : (qs.set k x).set k y = qs.set k y := List.set_set ..

set_option maxHeartbeats 800000 in
theorem held_steps (a : Option Addr) (len cap : Nat) (ls : List Nat) (n : Int) (w : World) (hr : StepRow w a len (stepMarks n ls)) (hpos : ∀ x ∈ ls, 1 ≤ x) (hn0 : 0 ≤ n) (hn : n + (ls.sum : Nat) ≤ 1048576) :
    Calls Tryz.prog 17 #[.slice a len cap, .int .i64 n] w fun e w' => e = .returned (.int .i64 (n + (ls.sum : Nat))) ∧ Below w.heap.size w w' := by
  have hmost := hr.most
  unfold maxLen at hmost
  have hls : ls.length = len := by rw [← hr.length, stepMarks_length]
  have HR := hid hr
  have HLS := hid hls
  have HP := hid hpos
  clear hr hls hpos
  go_enter Tryz.func17, Tryz.ntmps17
  go_wp2
  go_loopw [5, 1] (fun i t wr => ∃ k s : Nat, k ≤ len ∧ i = .int .i64 k ∧ t = .int .i64 (n + s) ∧ s = (ls.take k).sum ∧ Below w.heap.size w wr) (fun i _ _ => len - (intOf i).toNat)
  case atStart => exact ⟨0, 0, Nat.zero_le _, rfl, by simp, by simp, Below.refl _ _⟩
  case round =>
    obtain ⟨k, s, hk, rfl, rfl, hs, hbel⟩ := hrel
    have hs1 : s ≤ ls.sum := by rw [hs]; exact sum_le ls k
    have HB := hid hbel
    by_cases hlt : k < len
    · obtain ⟨b, off, rfl, hd, x, l, c, hc, hx⟩ := HR.out.cell k hlt
      have hkl : k < ls.length := by rw [HLS.out]; exact hlt
      rw [stepMarks_get ls n k hkl, ← hs] at hx hd
      dsimp only [Option.getD_some] at hx hd
      have hl := hx.length
      have hl1 : 1 ≤ ls[k]?.getD 0 := by rw [List.getElem?_eq_getElem hkl]; exact HP.out _ (List.getElem_mem hkl)
      have hl2 : ls[k]?.getD 0 = l + 1 := by
        have : ls[k]?.getD 0 - 1 = l := by rw [← hl]; simp [marks]
        omega
      have hsum := sum_succ (ls := ls) (k := k) hkl
      have hle := sum_le ls (k + 1)
      rw [← hs, hl2] at hsum
      rw [hl2, Nat.add_sub_cancel] at hx
      have HX := hid (hx.below hbel)
      have HSum := hid hsum
      have hb2 : s + (l + 1) ≤ ls.sum := by omega
      have hng : ¬ (n + (s : Int) + 1 + (l : Int) < 0) := by omega
      replace hd := keep hbel hd
      replace hc := keep hbel hc
      have hq : ∀ b : Bool, (b != b) = false := fun b => by cases b <;> rfl
      clear hx hl hl1 hl2 hsum hle hs hkl hbel
      cases hm : ((n + (s : Int)) % 3 == 0)
      all_goals
        rw [hm] at hd
        go_wp2_with (go_at_call 41; refine (held_ints _ _ _ _ _ HX.out (by omega) (by omega) (by omega)).mono ?_; rintro e w' ⟨rfl, rfl⟩)
        go_roundw
        case rel => exact ⟨k + 1, s + (l + 1), by omega, by go_num, by congr 1; omega, HSum.out.symm, HB.out⟩
        case measure => simp [intOf]; omega
    · have e : k = len := by omega
      subst e
      have HE : Hid (s = ls.sum) := by
        show _ = _
        rw [hs, List.take_of_length_le (by rw [HLS.out]; omega)]
      clear hs hbel
      go_wp2
      go_ret
      exact ⟨by rw [← HE.out]; rfl, HB.out⟩
set_option maxHeartbeats 800000 in
theorem mark_steps (B g len c : Nat) (ps : List Pt) (n : Int) (w : World) (h : OwnSteps B w (.slice (some ⟨g, 0, none⟩) len c) ps) (hlo : Lone ps) (hn0 : 0 ≤ n) (hn : n + ((ps.map (fun p => p.2.2.length + 1)).sum : Nat) ≤ 1048576) (hlen : len ≤ 1048576) :
    Calls Tryz.prog 16 #[.slice (some ⟨g, 0, none⟩) len c, .int .i64 n] w fun e w' => e = .returned (.int .i64 (n + ((ps.map (fun p => p.2.2.length + 1)).sum : Nat))) ∧ ∃ qs, OwnSteps B w' (.slice (some ⟨g, 0, none⟩) len c) qs ∧ qs.map strip = stepMarks n (ps.map (fun p => p.2.2.length + 1)) ∧ Below B w w' := by
  obtain ⟨ls, hls⟩ : ∃ ls, ps.map (fun p => p.2.2.length + 1) = ls := ⟨_, rfl⟩
  rw [hls] at hn ⊢
  have hpl : ps.length = len := steps_len h
  have hll : ls.length = len := by rw [← hls, List.length_map, hpl]
  have HLL := hid hll
  have HO := hid h
  have HLo := hid hlo
  have HLS := hid hls
  clear h hlo hls hpl hll
  go_enter Tryz.func16, Tryz.ntmps16
  go_wp2
  go_loopw [5, 1] (fun i t wr => ∃ (k s : Nat) (qs : List Pt), k ≤ len ∧ i = .int .i64 k ∧ t = .int .i64 (n + s) ∧ s = (ls.take k).sum ∧ OwnSteps B wr (.slice (some ⟨g, 0, none⟩) len c) qs ∧ Lone qs ∧ qs.map (fun p => p.2.2.length + 1) = ls ∧ (∀ j, j < k → (qs.map strip)[j]? = (stepMarks n ls)[j]?) ∧ Below B w wr) (fun i _ _ => len - (intOf i).toNat)
  case atStart => exact ⟨0, 0, ps, Nat.zero_le _, rfl, by simp, by simp, HO.out, HLo.out, HLS.out, fun j hj => absurd hj (Nat.not_lt_zero _), Below.refl _ _⟩
  case round =>
    obtain ⟨k, s, qs, hk, rfl, rfl, hs, hown, hlone, hql, hqm, hbel⟩ := hrel
    have hs1 : s ≤ ls.sum := by rw [hs]; exact sum_le ls k
    have HOw := hid hown
    have HLn := hid hlone
    have HQL := hid hql
    have HQM := hid hqm
    have HB := hid hbel
    by_cases hlt : k < len
    · have hqlen := steps_len hown
      obtain ⟨⟨pd, pv, pz⟩, hp, hc0, hc1, hf0, hpo⟩ := steps_cell hown hlt
      dsimp only at hc0 hc1 hpo
      have hpl : ls[k]?.getD 0 = pz.length + 1 := by rw [← hql, List.getElem?_map, hp]; rfl
      have hkl : k < ls.length := by rw [HLL.out]; exact hlt
      have hsum := sum_succ (ls := ls) (k := k) hkl
      have hle := sum_le ls (k + 1)
      have hget := stepMarks_get ls n k hkl
      rw [← hs, hpl] at hsum hget
      rw [Nat.add_sub_cancel] at hget
      have HGet := hid hget
      have hgl := World.ownsRow.lt hown.outer g rfl
      have hBs : B ≤ wr.heap.size := by omega
      generalize hdd : ((n + (s : Int)) % 3 == 0) = dd at *
      have hflag := steps_flag (d := dd) hown hp
      have hp1 : (qs.set k (dd, pv, pz))[k]? = some (dd, pv, pz) := by rw [List.getElem?_set, if_pos rfl, if_pos (by rw [hqlen]; exact hlt)]
      have hc1' : (wr.setCell ⟨g, k * 2, none⟩ (.bool dd)).cell? ⟨g, k * 2 + 1, none⟩ = some pv := by
        rw [World.cell?_setCell_other _ _ _ _ (by intro e; injection e with _ e _; omega)]; exact hc1
      have HFl := hid hflag
      have HP1 := hid hp1
      have HPo := hid (hflag.inner (dd, pv, pz) (List.mem_of_getElem? hp1))
      have HL1 := hid (lone_set (d := dd) (ys := pz) hlone hp)
      have HSum := hid hsum
      have HP := hid hp
      have HBs := hid hBs
      have HQn := hid hqlen
      have HB1 := hid (hbel.setCell (show B ≤ (⟨g, k * 2, none⟩ : Addr).block from hgl.1) (.bool dd))
      have hb2 : s + (pz.length + 1) ≤ ls.sum := by omega
      have hz : (wr.setCell ⟨g, k * 2, none⟩ (.bool dd)).heap.size = wr.heap.size := by simp
      have HZ := hid hz
      clear hown hlone hql hqm hbel hp hpo hsum hle hs hpl hBs hget hkl hqlen hflag hp1 hgl hz
      go_wp2_with fail
      refine (mark_any B pv pz (n + s + 1) _ HPo.out (by omega) (by omega) (by omega)).mono ?_
      rintro e w2 ⟨rfl, ho2, hg2⟩
      have HM := hid (steps_marked HFl.out HL1.out HP1.out ho2 hg2)
      have HB2 := hid (HB1.out.grown hg2 (by rw [HZ.out]; exact HBs.out) (fun k hk => (World.ownsRow.lt HPo.out k hk).1))
      clear ho2 hg2
      go_wp2
      go_roundw
      case rel => exact ⟨k + 1, s + (pz.length + 1), qs.set k (dd, pv, marks (n + s + 1) pz.length), by omega, by go_num, by congr 1; omega, HSum.out.symm, by rw [← List.set_set (a := (dd, pv, pz))]; exact HM.out, lone_set HLn.out HP.out, lens_set HQL.out HP.out (by simp [marks]), marks_set HQM.out (by rw [HQn.out]; exact hlt) HGet.out, HB2.out⟩
      case measure => simp [intOf]; omega
    · have e : k = len := by omega
      subst e
      have HE : Hid (s = ls.sum) := by
        show _ = _
        rw [hs, List.take_of_length_le (by rw [HLL.out]; omega)]
      have HA : Hid (qs.map strip = stepMarks n ls) := by
        show _ = _
        apply List.ext_getElem?
        intro i
        by_cases hi : i < k
        · exact HQM.out i hi
        · have e1 : qs.length = k := by rw [← HLL.out, ← HQL.out, List.length_map]
          rw [List.getElem?_eq_none (by rw [List.length_map]; omega), List.getElem?_eq_none (by rw [stepMarks_length, HLL.out]; omega)]
      clear hs hown hlone hql hqm hbel
      go_wp2
      go_ret
      exact ⟨by rw [← HE.out]; rfl, qs, HOw.out, HA.out, HB.out⟩
set_option maxHeartbeats 400000 in
theorem mark_steps_any (B : Nat) (v : Value) (ps : List Pt) (n : Int) (w : World) (h : OwnSteps B w v ps) (hlo : Lone ps) (hn0 : 0 ≤ n) (hn : n + ((ps.map (fun p => p.2.2.length + 1)).sum : Nat) ≤ 1048576) (hlen : ps.length ≤ 1048576) :
    Calls Tryz.prog 16 #[v, .int .i64 n] w fun e w' => e = .returned (.int .i64 (n + ((ps.map (fun p => p.2.2.length + 1)).sum : Nat))) ∧ ∃ qs, OwnSteps B w' v qs ∧ qs.map strip = stepMarks n (ps.map (fun p => p.2.2.length + 1)) ∧ Below B w w' := by
  rcases h.outer.2 with ⟨rfl, h0⟩ | ⟨g, cap, cur, rfl, _⟩
  · have hz : ps = [] := List.length_eq_zero_iff.1 h0
    subst hz
    have HO := hid h
    clear h
    go_enter Tryz.func16, Tryz.ntmps16
    go_wp2
    go_loop [5, 1] (fun i t => i = .int .i64 0 ∧ t = .int .i64 n) (fun _ _ => 0)
    case atStart => exact ⟨rfl, rfl⟩
    case round =>
      obtain ⟨rfl, rfl⟩ := hrel
      go_wp2
      go_ret
      exact ⟨by simp, [], HO.out, rfl, Below.refl _ _⟩
  · exact mark_steps B g ps.length cap ps n w h hlo hn0 hn hlen
end Go.Proofs.YtolejaegnkcjjaaGreatDoor.stepsMark

/- A copied formula's rows are its own and lie apart; sizes of formulas told by their sums; conditions: lengths that fit. -/
namespace Go.Proofs.YtolejaegnkcjjaaGreatDoor.copyOwn
open Go.RowKit Go.Deep base copy cnf rowsOwn
set_option linter.unusedVariables false

theorem own_lt {B g : Nat} {w : World} {v : Value} {zs : List Int} (h : OwnInts B w v zs) (hg : v.ownBlock = some g) : B ≤ g ∧ g < w.heap.size := World.ownsRow.lt h g hg
theorem own_of_row {B N len : Nat} {w : World} {zs : List Int} (h : w.rowIs N 3 len (fun i => .int .i64 (zs[i]?.getD 0))) (hl : zs.length = len) (hB : B ≤ N) (hm : len ≤ maxLen) : OwnInts B w (.slice (some ⟨N, 0, none⟩) len len) zs := by
  obtain ⟨c, hh, hs, hc⟩ := h
  subst hl
  refine ⟨by simp, .inr ⟨N, _, c, rfl, hB, hh, Nat.le_refl _, hm, by omega, ?_⟩⟩
  apply List.ext_getElem?
  intro i
  rw [List.getElem?_take, List.getElem?_map]
  split
  · rename_i hi
    have hi' : i < zs.length := by omega
    rw [Array.getElem?_toList, hc i hi']
    simp [List.getElem?_eq_getElem hi']
  · rename_i hi
    rw [List.getElem?_eq_none (by omega)]
    rfl
def copiedPs (N : Nat) (zss : List (List Int)) : List (Value × List Int) := (List.range zss.length).map fun i => (.slice (some ⟨N + 1 + i, 0, none⟩) (zss[i]?.getD []).length (zss[i]?.getD []).length, zss[i]?.getD [])
theorem copiedPs_snd (N : Nat) (zss : List (List Int)) : (copiedPs N zss).map (·.2) = zss := by
  unfold copiedPs
  rw [List.map_map]
  apply List.ext_getElem
  · simp
  · intro i h1 h2
    simp [List.getElem?_eq_getElem h2]
theorem copied_own {B N : Nat} {w : World} {zss : List (List Int)} (h : Copied w N zss) (hB : B ≤ N) (hm : zss.length ≤ maxLen) (hi : ∀ i, i < zss.length → (zss[i]?.getD []).length ≤ maxLen) :
    OwnRows B w (.slice (some ⟨N, 0, none⟩) zss.length zss.length) (copiedPs N zss) ∧ Lone (copiedPs N zss) := by
  have hlen : (copiedPs N zss).length = zss.length := by simp [copiedPs]
  refine ⟨⟨?_, fun p hp => ?_⟩, ?_⟩
  · obtain ⟨c, hh, hs, hc⟩ := h.outer
    refine ⟨by simp, .inr ⟨N, zss.length, c, by rw [hlen], hB, hh, by omega, hm, by omega, ?_⟩⟩
    apply List.ext_getElem?
    intro i
    rw [List.getElem?_take, List.getElem?_map, hlen]
    split
    · rename_i hi2
      have hi' : i < zss.length := by omega
      rw [Array.getElem?_toList, hc i hi']
      unfold copiedPs
      rw [List.getElem?_map, List.getElem?_range hi']
      rfl
    · rename_i hi2
      rw [List.getElem?_eq_none (by omega)]
      rfl
  · unfold copiedPs at hp
    obtain ⟨i, hir, rfl⟩ := List.mem_map.1 hp
    have hil : i < zss.length := List.mem_range.1 hir
    exact own_of_row (h.inner i hil) rfl (by omega) (hi i hil)
  · unfold Lone copiedPs
    rw [List.pairwise_map]
    refine List.pairwise_lt_range.imp fun {a b} hab g h1 h2 => ?_
    have e1 : some (N + 1 + a) = some g := h1
    have e2 : some (N + 1 + b) = some g := h2
    injection e1 with e1
    injection e2 with e2
    omega
theorem at_le : ∀ {ls : List Nat} {i : Nat}, i < ls.length → ls[i]?.getD 0 ≤ ls.sum
  | [], i, h => absurd h (Nat.not_lt_zero _)
  | l :: ls, 0, _ => by simp
  | l :: ls, i + 1, h => by
    have := at_le (ls := ls) (i := i) (by simpa using h)
    rw [List.getElem?_cons_succ, List.sum_cons]
    omega
set_option maxHeartbeats 400000 in
theorem szRows_sum (a : Option Addr) (len cap : Nat) (zss : List (List Int)) (left : Int) (w : World) (hr : IntRows w a len zss) (h0 : 0 ≤ left) (h1 : left ≤ 1048576) :
    Calls Tryz.prog 18 #[.slice a len cap, .int .i64 left] w fun e w' => ∃ r : Int, e = .returned (.int .i64 r) ∧ w' = w ∧ -1 ≤ r ∧ r ≤ left ∧ (0 ≤ r → (len : Int) + ((zss.map List.length).sum : Nat) ≤ left) := by
  obtain ⟨hlen, hmost, hcell⟩ := hr
  unfold maxLen at hmost
  have HC := hid hcell
  obtain ⟨ls, hls⟩ : ∃ ls, zss.map List.length = ls := ⟨_, rfl⟩
  rw [hls]
  have HLs := hid hls
  have HLn : Hid (ls.length = len) := by
    show _ = _
    rw [← hls, List.length_map, hlen]
  clear hcell hlen hls
  by_cases h : left < (len : Int)
  · go_enter Tryz.func18, Tryz.ntmps18
    go_wp2
    go_ret
    exact ⟨_, rfl, rfl, by omega, by omega, by omega⟩
  · go_enter Tryz.func18, Tryz.ntmps18
    go_wp2
    go_loop [5, 1] (fun i t => ∃ (k s : Nat) (l : Int), k ≤ len ∧ i = .int .i64 k ∧ t = .int .i64 l ∧ 0 ≤ l ∧ l + len + s ≤ left ∧ s = (ls.take k).sum) (fun i _ => len - (intOf i).toNat)
    case atStart => exact ⟨0, 0, left - len, Nat.zero_le _, rfl, rfl, by omega, by omega, by simp⟩
    case round =>
      obtain ⟨k, s, l, hk, rfl, rfl, hl0, hl1, hs⟩ := hrel
      have HS := hid hs
      clear hs
      by_cases hlt : k < len
      · obtain ⟨b, off, rfl, a', l', c', hc, hrow⟩ := HC.out k hlt
        have hlen' := hrow.length
        have hmost' := hrow.most
        have HL : Hid (ls[k]?.getD 0 = l') := by
          show _ = _
          rw [← HLs.out, List.getElem?_map, ← hlen']
          cases zss[k]? <;> rfl
        have HSum := hid (sum_succ (ls := ls) (k := k) (by rw [HLn.out]; exact hlt))
        clear hlen' hrow
        by_cases hs : l < (l' : Int)
        · go_wp2_with (go_at_call 42; refine (szIntS _ _ _ _ _ hmost' hl0 (by omega)).mono ?_; rintro e w' ⟨rfl, rfl⟩)
          go_ret
          exact ⟨_, rfl, rfl, by omega, by omega, by omega⟩
        · go_wp2_with (go_at_call 42; refine (szIntS _ _ _ _ _ hmost' hl0 (by omega)).mono ?_; rintro e w' ⟨rfl, rfl⟩)
          go_round
          case rel => exact ⟨k + 1, s + l', l - l', by omega, by go_num, by rw [if_neg (by omega)], by omega, by omega, by rw [HSum.out, ← HS.out, HL.out]⟩
          case measure => simp [intOf]; omega
      · have e : k = len := by omega
        subst e
        have HE : Hid (s = ls.sum) := by
          show _ = _
          rw [HS.out, List.take_of_length_le (by rw [HLn.out]; omega)]
        go_wp2
        go_ret
        refine ⟨l, rfl, rfl, by omega, by omega, fun _ => ?_⟩
        have := HE.out
        omega

set_option maxHeartbeats 400000 in
theorem szCnf_sum (vars : Int) (a : Option Addr) (len cap : Nat) (zss : List (List Int)) (left : Int) (w : World) (hr : IntRows w a len zss) (h0 : 0 ≤ left) (h1 : left ≤ 1048576) :
    Calls Tryz.prog 5 #[.agg #[.int .i64 vars, .slice a len cap], .int .i64 left] w fun e w' => ∃ r : Int, e = .returned (.int .i64 r) ∧ Below w.heap.size w w' ∧ -1 ≤ r ∧ r ≤ left ∧ (0 ≤ r → (len : Int) + ((zss.map List.length).sum : Nat) ≤ left) := by
  go_enter Tryz.func5, Tryz.ntmps5
  go_wp2_with fail
  refine (szRows_sum a len cap zss left _ ?_ h0 h1).mono ?_
  · exact hr.below (by repeat (first | exact Below.refl _ _ | assumption | refine Below.drew ?_ | refine Below.alloc ?_ (by first | exact Nat.le_refl _ | omega | (simp; done) | (simp; omega)) _ | refine Below.setCell ?_ (by first | exact Nat.le_refl _ | omega | (simp; done) | (simp; omega)) _))
  rintro e w1 ⟨r, rfl, rfl, hr1, hr2, hr3⟩
  have H3 := hid hr3
  clear hr3
  go_wp2
  · go_ret
    exact ⟨_, rfl, (by repeat (first | exact Below.refl _ _ | assumption | refine Below.drew ?_ | refine Below.alloc ?_ (by first | exact Nat.le_refl _ | omega | (simp; done) | (simp; omega)) _ | refine Below.setCell ?_ (by first | exact Nat.le_refl _ | omega | (simp; done) | (simp; omega)) _)), by omega, by omega, by omega⟩
  · go_ret
    exact ⟨r, rfl, (by repeat (first | exact Below.refl _ _ | assumption | refine Below.drew ?_ | refine Below.alloc ?_ (by first | exact Nat.le_refl _ | omega | (simp; done) | (simp; omega)) _ | refine Below.setCell ?_ (by first | exact Nat.le_refl _ | omega | (simp; done) | (simp; omega)) _)), by omega, by omega, H3.out⟩
theorem keepB {B : Nat} {w w1 : World} (hb : Below B w w1) {b o : Nat} {v : Value} (hlt : b < B) (h : w.cell? ⟨b, o, none⟩ = some v) : w1.cell? ⟨b, o, none⟩ = some v := by
  rw [hb.cell (p := ⟨b, o, none⟩) hlt]; exact h
theorem copied_lt {N : Nat} {w : World} {zss : List (List Int)} (h : Copied w N zss) : ∀ u ∈ (copiedPs N zss).map Prod.fst, ∀ g, u.ownBlock = some g → g < w.heap.size := fun u hu g hg => by
  obtain ⟨p, hp, rfl⟩ := List.mem_map.1 hu
  unfold copiedPs at hp
  obtain ⟨i, hir, rfl⟩ := List.mem_map.1 hp
  have hil : i < zss.length := List.mem_range.1 hir
  obtain ⟨c, hh, _⟩ := h.inner i hil
  have e : some (N + 1 + i) = some g := hg
  injection e with e
  rw [← e]
  exact (Array.getElem?_eq_some_iff.1 hh).1
theorem lens_copied (N : Nat) (zss : List (List Int)) : (copiedPs N zss).map (fun p => p.2.length) = zss.map List.length := by
  have h := copiedPs_snd N zss
  have : (copiedPs N zss).map (fun p => p.2.length) = ((copiedPs N zss).map (·.2)).map List.length := by rw [List.map_map]; rfl
  rw [this, h]
theorem copied_length (N : Nat) (zss : List (List Int)) : (copiedPs N zss).length = zss.length := by simp [copiedPs]
end Go.Proofs.YtolejaegnkcjjaaGreatDoor.copyOwn

/- From the form's readings of arguments to the rows that the contracts speak of; of no program; conditions: none. -/
namespace Go.Proofs.YtolejaegnkcjjaaGreatDoor.args
open Go.ChangeShapes Go.WideShapes Go.ChangeAt Go.RowKit Go.Deep Go.Joins base

variable {H : Type} {enc : TypeId × Value → H} {P : Program} {w : World} {base : Nat} {held : Bool}

theorem getD_take {α : Type} {zs : List α} {d : α} {n i : Nat} (h : i < n) : (zs.take n)[i]?.getD d = zs[i]?.getD d := by
  rw [List.getElem?_take, if_pos h]
theorem at_none {x : Addr} {i : Nat} {v v0 : Value} (h0 : w.cell? (x.add 0) = some v0) (h : w.cell? (x.add i) = some v) : x = ⟨x.block, x.off, none⟩ ∧ w.cell? ⟨x.block, x.off + i, none⟩ = some v := by
  have hs := World.cell?_spot h0
  obtain ⟨b, o, s⟩ := x
  have hs' : s = none := by simpa [Addr.add] using hs
  subst hs'
  refine ⟨rfl, ?_⟩
  by_cases e : i = 0
  · subst e; simpa [Addr.add] using h
  · simpa [Addr.add, e] using h

theorem int_of_trod {e : TypeId} {k : IntKind} {fuel : Nat} {v : Value} {x : DataW H × List MemPlace} (he : P.underlying e = some (.int k)) (h : DataW.trod enc P w base (fun _ => true) held fuel e [v] = some x) :
    ∃ n, v = .int k n ∧ (Lit.int k n).wf = true := by
  obtain ⟨n, e0, _, hw⟩ := DataW.trod_int he h
  exact ⟨n, by simpa using e0, hw⟩

theorem row_of_trod {t e : TypeId} {fuel : Nat} {v : Value} {x : DataW H × List MemPlace} (ht : P.underlying t = some (.slice e)) (he : P.underlying e = some (.int .i64)) (ce : P.cellsOf e = 1)
    (h : DataW.trod enc P w base (fun _ => true) held fuel t [v] = some x) : ∃ a len cap zs, v = .slice a len cap ∧ IntRow w a len zs ∧ ∀ n ∈ zs, (Lit.int .i64 n).wf = true := by
  rcases open_ints ht he ce h with ⟨hcs, _⟩ | ⟨x, l, c, zs, hcs, _, hl, hm, hz, _, hcell, hwz⟩
  · exact ⟨none, 0, 0, [], by simpa using hcs, ⟨rfl, Nat.zero_le _, fun i hi => absurd hi (Nat.not_lt_zero _)⟩, by simp⟩
  · simp only [if_true] at hz
    refine ⟨some x, l, c, zs.take l, by simpa using hcs, ⟨by simp [hz, hl], Nat.le_trans hl hm, fun i hi => ?_⟩, fun n hn => hwz n (List.mem_of_mem_take hn)⟩
    obtain ⟨e1, e2⟩ := at_none (hcell 0 (by omega)) (hcell i (by omega))
    exact ⟨x.block, x.off, by rw [← e1], by rw [e2, getD_take hi, List.getD_eq_getElem?_getD]⟩

theorem rows_of_trod {t e q : TypeId} {fuel : Nat} {v : Value} {x : DataW H × List MemPlace} (ht : P.underlying t = some (.slice e)) (he : P.underlying e = some (.slice q)) (hq : P.underlying q = some (.int .i64)) (ce : P.cellsOf e = 1) (cq : P.cellsOf q = 1)
    (h : DataW.trod enc P w base (fun _ => true) held fuel t [v] = some x) : ∃ a len cap zss, v = .slice a len cap ∧ IntRows w a len zss ∧ ∀ zs ∈ zss, ∀ n ∈ zs, (Lit.int .i64 n).wf = true := by
  rcases open_slice1 ht ce h with ⟨hcs, _⟩ | ⟨a, len, cap, m, n, V, D, Pl, hcs, hb, hl, hm, hmm, rfl, hx⟩
  · exact ⟨none, 0, 0, [], by simpa using hcs, ⟨rfl, Nat.zero_le _, fun i hi => absurd hi (Nat.not_lt_zero _)⟩, by simp⟩
  · simp only [if_true] at hmm
    subst hmm
    have each : ∀ i, i < m → ∃ zs : List Int, ∃ a' l' c', V i = .slice a' l' c' ∧ IntRow w a' l' zs ∧ ∀ n ∈ zs, (Lit.int .i64 n).wf = true := fun i hi => by
      obtain ⟨a', l', c', zs, e0, h1, h2⟩ := row_of_trod he hq cq (hx i hi).2
      exact ⟨zs, a', l', c', e0, h1, h2⟩
    obtain ⟨f, hf⟩ := choose_lt each
    refine ⟨some a, len, m, (List.range len).map f, by simpa using hcs, ⟨by simp, Nat.le_trans hl hm, fun i hi => ?_⟩, ?_⟩
    · obtain ⟨a', l', c', e0, h1, _⟩ := hf i (by omega)
      obtain ⟨e1, e2⟩ := at_none (hx 0 (by omega)).1 (hx i (by omega)).1
      refine ⟨a.block, a.off, by rw [← e1], a', l', c', by rw [e2, e0], ?_⟩
      simpa [hi] using h1
    · intro zs hz
      obtain ⟨i, hi, rfl⟩ := List.mem_map.1 hz
      obtain ⟨_, _, _, _, _, h2⟩ := hf i (by have := List.mem_range.1 hi; omega)
      exact h2
end Go.Proofs.YtolejaegnkcjjaaGreatDoor.args
