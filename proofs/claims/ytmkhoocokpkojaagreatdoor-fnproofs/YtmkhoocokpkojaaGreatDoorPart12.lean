import Derived.Test.YtmkhoocokpkojaaGreatDoorStepsDraw
import Derived.Deep.RegionHeld3
import Derived.Test.YtmkhoocokpkojaaGreatDoorCnf
import Derived.Test.YtmkhoocokpkojaaGreatDoorPart1
import Derived.OwnWalk
import Derived.WalkSpells
import Derived.Lib.SlicesCompact
namespace Go.Proofs.YtmkhoocokpkojaaGreatDoor.stepsOf
open Go.RowKit Go.Deep Go base copy rowsOwn source refFace stepsDraw
open readSpecP (Pt pcs OwnSteps strip)
set_option linter.unusedVariables false
set_option maxHeartbeats 1600000 in
set_option maxRecDepth 8000 in
theorem stepsOf_spec (a : Option Addr) (len cap B nv zn zc : Nat) (zp : Option Addr) (psZ : List (Value × List Int)) (w : World) (h : Bytes w a len) (hlen : len ≤ 1048576) (hr : OwnRows B w (.slice zp zn zc) psZ) (hcnf : cnf.cnfB (nv : Int) (psZ.map (·.2)) = true) (hnv : 1 ≤ nv) (hB : B ≤ w.heap.size) (hzn : zn ≤ 64) :
  Calls Tryz.prog 7 #[.slice a len cap, .agg #[.int .i64 (nv : Int), .slice zp zn zc]] w fun e' w' => ∃ g c ps, e' = .returned (.slice (some ⟨g, 0, none⟩) (List.length ps) c) ∧ OwnSteps B w' (.slice (some ⟨g, 0, none⟩) (List.length ps) c) ps ∧ Right nv ps ∧ ps.length ≤ 202 ∧ Below w.heap.size w w' := by
 have HS : Hid (∀ W : World, Below w.heap.size w W → Calls Tryz.prog 14 #[.slice a len cap] W fun e w' => ∃ b, e = .returned (.pointer (some ⟨b, 0, none⟩)) ∧ b = W.heap.size ∧ b < w'.heap.size ∧ Src w' b a len cap 0 ∧ Below W.heap.size W w') := hid (fun W hb => source_spec a len cap W (fun i hi => by obtain ⟨bb, off, e, x, hx, hc⟩ := h i hi; exact ⟨bb, off, e, x, hx, keep hb hc⟩) hlen)
 have HE : Hid (∀ (W : World) (b : Nat), Below w.heap.size w W → Src W b a len cap 0 → b < W.heap.size → Calls Tryz.prog 17 #[.pointer (some ⟨b, 0, none⟩), .agg #[.int .i64 (nv : Int), .slice zp zn zc]] W fun e' w' => ∃ g c ps, e' = .returned (.slice (some ⟨g, 0, none⟩) (List.length ps) c) ∧ OwnSteps B w' (.slice (some ⟨g, 0, none⟩) (List.length ps) c) ps ∧ Right nv ps ∧ ps.length ≤ 202 ∧ W.grownBy w' (some b)) := hid (fun W b hb hs hl => steps_src b a len cap B nv zn zc zp psZ W hs hl (hr.below hb) hcnf hnv (Nat.le_trans hB hb.size) hzn)
 clear h hr hcnf
 go_enter Tryz.func7, Tryz.ntmps7
 go_wp2_with fail
 obtain ⟨W1, hW1⟩ : ∃ W1, w.alloc (.cells #[.int .i64 (nv : Int), .slice zp zn zc] 25) = W1 := ⟨_, rfl⟩
 have HBx : Hid (Below w.heap.size w W1) := hid (by rw [← hW1]; exact (by repeat (first | exact Below.refl _ _ | assumption | refine Below.drew ?_ | refine Below.alloc ?_ (by first | exact Nat.le_refl _ | omega | (simp; done) | (simp; omega)) _ | refine Below.setCell ?_ (by first | exact Nat.le_refl _ | omega | (simp; done) | (simp; omega)) _)))
 have HSz : Hid (W1.heap.size = w.heap.size + 1) := hid (by rw [← hW1]; simp)
 have HKc : Hid (∀ w8 : World, w8.heap[w.heap.size]? = W1.heap[w.heap.size]? → w8.cell? ⟨w.heap.size, 0, none⟩ = some (.int .i64 (nv : Int)) ∧ w8.cell? ⟨w.heap.size, 1, none⟩ = some (.slice zp zn zc)) := hid (fun w8 hb => by
  have h : ∀ o, w8.cell? ⟨w.heap.size, o, none⟩ = W1.cell? ⟨w.heap.size, o, none⟩ := fun o => World.cell?_of_block hb
  rw [h, h, ← hW1]
  exact ⟨by simp [go_sem], by simp [go_sem]⟩)
 rw [hW1]
 clear hW1
 obtain ⟨q0, q1⟩ := HKc.out W1 rfl
 have hk0 : W1.drew.heap[w.heap.size]? = W1.heap[w.heap.size]? := rfl
 go_region_with (first
   | (go_at_call 14; refine (HS.out _ HBx.out.drew).mono ?_; rintro e' w2 ⟨b, rfl, hbe, hbl, hsrc, hb1⟩; have HBe := hid hbe; clear hbe; have hk1 : w2.heap[w.heap.size]? = W1.heap[w.heap.size]? := hb1.block _ (by have := HSz.out; show _ < W1.heap.size; omega); obtain ⟨x0, x1⟩ := HKc.out w2 hk1; have HB12 : Hid (Below w.heap.size w w2) := hid (HBx.out.trans ((((Below.refl _ W1).drew).trans hb1).mono HBx.out.size)))
   | (go_at_call 17; refine (HE.out _ b HB12.out hsrc hbl).mono ?_; rintro e' w3 ⟨g3, c3, ps3, rfl, hown, hri, hfe, hg⟩))
 all_goals
  have hbw : w.heap.size ≤ b := by have := HBe.out; have := HSz.out; have e9 : W1.drew.heap.size = W1.heap.size := rfl; omega
  have HOw := hid hown
  have HRi := hid hri
  have HB2 : Hid (Below w.heap.size w w3) := hid (HB12.out.grown hg HB12.out.size (fun k hk => by injection hk with hk; omega))
  clear hown hri hg hb1 hsrc hk1
  go_wp2
  go_ret
  exact ⟨g3, c3, ps3, rfl, HOw.out, HRi.out, hfe, HB2.out⟩
end Go.Proofs.YtmkhoocokpkojaaGreatDoor.stepsOf
namespace Go.Proofs.YtmkhoocokpkojaaGreatDoor.eval
open Go.RowKit Go.Deep base copy cnf
set_option maxHeartbeats 400000 in
theorem abs_spec (n : Int) (w : World) (h0 : -4611686018427387904 ≤ n) (h1 : n ≤ 4611686018427387904) :
  Calls Tryz.prog 81 #[.int .i64 n] w fun e w' => e = .returned (.int .i64 (n.natAbs : Int)) ∧ w' = w := by
 go_enter Tryz.func81, Tryz.ntmps81
 go_wp2
 all_goals
  go_ret
  exact ⟨ret_int (by omega), rfl⟩
theorem cnf_vars {vars : Int} {zss : List (List Int)} (h : cnfB vars zss = true) : 0 ≤ vars ∧ vars ≤ 40 ∧ zss.length ≤ 300 := by
 simp only [cnfB, Bool.and_eq_true, decide_eq_true_eq] at h
 exact h.1
end Go.Proofs.YtmkhoocokpkojaaGreatDoor.eval
namespace Go.Proofs.YtmkhoocokpkojaaGreatDoor.own
open Go.RowKit Go.Deep base copy
def OwnInts (B : Nat) (w : World) (v : Value) (zs : List Int) : Prop := w.ownsRow B 3 1 v zs.length (zs.map (Value.int .i64))
theorem OwnInts.nil (B : Nat) (w : World) : OwnInts B w (.slice none 0 0) [] := World.ownsRow_nil w B 3 1
theorem OwnInts.form {B : Nat} {w : World} {v : Value} {zs : List Int} (h : OwnInts B w v zs) : ∃ a cap, v = .slice a zs.length cap ∧ IntRow w a zs.length zs := by
 obtain ⟨h1, h2⟩ := h
 rcases h2 with ⟨rfl, hn⟩ | ⟨g, cap, cur, rfl, hb, hh, hn, hm, hs, ht⟩
 · exact ⟨none, 0, by rw [hn], ⟨rfl, by rw [hn]; exact Nat.zero_le _, fun i hi => by omega⟩⟩
 · refine ⟨some ⟨g, 0, none⟩, cap, rfl, ⟨rfl, Nat.le_trans hn hm, fun i hi => ⟨g, 0, rfl, ?_⟩⟩⟩
   have h3 : cur[i]? = some (.int .i64 (zs[i]?.getD 0)) := by
    have : (cur.toList.take (zs.length * 1))[i]? = (zs.map (Value.int .i64))[i]? := by rw [ht]
    rw [List.getElem?_take, if_pos (by omega)] at this
    rw [← Array.getElem?_toList, this, List.getElem?_map, List.getElem?_eq_getElem hi]
    rfl
   simp [World.cell?, hh, h3]
theorem OwnInts.below {B : Nat} {W w1 : World} {v : Value} {zs : List Int} (h : OwnInts B W v zs) (hb : Below W.heap.size W w1) : OwnInts B w1 v zs := by
 obtain ⟨h1, h2⟩ := h
 refine ⟨h1, ?_⟩
 rcases h2 with h2 | ⟨g, cap, cur, e, hg, hh, hn, hm, hs, ht⟩
 · exact .inl h2
 · exact .inr ⟨g, cap, cur, e, hg, by rw [hb.block g (Array.getElem?_eq_some_iff.1 hh).1]; exact hh, hn, hm, hs, ht⟩
theorem OwnInts.mono {B B' : Nat} {w : World} {v : Value} {zs : List Int} (h : OwnInts B w v zs) (hb : B' ≤ B) : OwnInts B' w v zs := by
 obtain ⟨h1, h2⟩ := h
 refine ⟨h1, ?_⟩
 rcases h2 with h2 | ⟨g, cap, cur, e, hg, hh, hn, hm, hs, ht⟩
 · exact .inl h2
 · exact .inr ⟨g, cap, cur, e, Nat.le_trans hb hg, hh, hn, hm, hs, ht⟩
theorem grown_below {B : Nat} {w w1 w2 : World} {v : Value} {zs : List Int} (h : OwnInts B w1 v zs) (hb : Below B w w1) (hB : B ≤ w1.heap.size) (hg : w1.grownBy w2 v.ownBlock) : Below B w w2 :=
 hb.grown hg hB (fun k hk => (World.ownsRow.lt h k hk).1)
end Go.Proofs.YtmkhoocokpkojaaGreatDoor.own
namespace Go.Proofs.YtmkhoocokpkojaaGreatDoor.order
open Go.Lib
def rk (l : Int) : Int := if l < 0 then -2 * l + 1 else 2 * l
theorem rk_inj {a b : Int} (h : rk a = rk b) : a = b := by
 unfold rk at h
 split at h <;> split at h <;> omega
def SS (r : List Int) : Prop := r.Pairwise (fun x y => rk x < rk y)
theorem SS.uniq : ∀ {a b : List Int}, SS a → SS b → (∀ x, x ∈ a ↔ x ∈ b) → a = b
 | [], [], _, _, _ => rfl
 | [], y :: b, _, _, h => absurd ((h y).2 (List.mem_cons_self ..)) (by simp)
 | x :: a, [], _, _, h => absurd ((h x).1 (List.mem_cons_self ..)) (by simp)
 | x :: a, y :: b, ha, hb, h => by
  have ha' := List.pairwise_cons.1 ha
  have hb' := List.pairwise_cons.1 hb
  have e : x = y := by
   rcases List.mem_cons.1 ((h x).1 (List.mem_cons_self ..)) with e | hx
   · exact e
   · rcases List.mem_cons.1 ((h y).2 (List.mem_cons_self ..)) with e | hy
     · exact e.symm
     · have h1 := hb'.1 x hx
       have h2 := ha'.1 y hy
       omega
  subst e
  have ht : a = b := SS.uniq ha'.2 hb'.2 (fun z => by
   have hz := h z
   simp only [List.mem_cons] at hz
   constructor
   · intro hm
     rcases hz.1 (.inr hm) with rfl | h2
     · have := ha'.1 z hm; omega
     · exact h2
   · intro hm
     rcases hz.2 (.inr hm) with rfl | h2
     · have := hb'.1 z hm; omega
     · exact h2)
  rw [ht]
def insAt (k : Nat) (c : Int) (out : List Int) : List Int := out.take k ++ [c] ++ out.drop k
theorem SS.insAt {out : List Int} {c : Int} {k : Nat} (hs : SS out) (hk : k ≤ out.length) (hb : ∀ i (h : i < k), rk (out[i]'(Nat.lt_of_lt_of_le h hk)) < rk c) (hn : ∀ (h : k < out.length), rk c < rk out[k]) : SS (insAt k c out) := by
 have h1 : (out.take k ++ out.drop k).Pairwise (fun x y => rk x < rk y) := by rw [List.take_append_drop]; exact hs
 rw [List.pairwise_append] at h1
 obtain ⟨p1, p2, p3⟩ := h1
 have hlow : ∀ x ∈ out.take k, rk x < rk c := fun x hx => by
  obtain ⟨i, hi, rfl⟩ := List.getElem_of_mem hx
  rw [List.getElem_take]
  exact hb i (by rw [List.length_take] at hi; omega)
 have hhigh : ∀ y ∈ out.drop k, rk c < rk y := fun y hy => by
  have hlt : k < out.length := by
   rcases Nat.lt_or_ge k out.length with h | h
   · exact h
   · rw [List.drop_of_length_le h] at hy; cases hy
  rw [List.drop_eq_getElem_cons hlt] at hy p2
  rcases List.mem_cons.1 hy with rfl | hy
  · exact hn hlt
  · have := (List.pairwise_cons.1 p2).1 y hy
    have := hn hlt
    omega
 unfold order.insAt SS
 rw [List.append_assoc, List.pairwise_append]
 refine ⟨p1, ?_, ?_⟩
 · rw [List.singleton_append, List.pairwise_cons]
   exact ⟨hhigh, p2⟩
 · intro x hx y hy
   rw [List.singleton_append] at hy
   rcases List.mem_cons.1 hy with rfl | hy
   · exact hlow x hx
   · exact p3 x hx y hy
theorem mem_insAt {out : List Int} {c x : Int} {k : Nat} : x ∈ insAt k c out ↔ x = c ∨ x ∈ out := by
 unfold insAt
 have : x ∈ out ↔ x ∈ out.take k ∨ x ∈ out.drop k := by rw [← List.mem_append, List.take_append_drop]
 rw [this]
 simp only [List.mem_append, List.mem_singleton]
 constructor
 · rintro ((h | h) | h)
   · exact .inr (.inl h)
   · exact .inl h
   · exact .inr (.inr h)
 · rintro (h | h | h)
   · exact .inl (.inr h)
   · exact .inl (.inl h)
   · exact .inr h
theorem length_insAt {out : List Int} {c : Int} {k : Nat} (hk : k ≤ out.length) : (insAt k c out).length = out.length + 1 := by
 unfold insAt
 simp only [List.length_append, List.length_take, List.length_drop, List.length_cons, List.length_nil]
 omega
theorem rk_le_of_sorted {d : Array Int} (hd : ∀ i j, i < j → j < d.size → rk d[i]! ≤ rk d[j]!) {i j : Nat} (h : i ≤ j) (hj : j < d.size) : rk d[i]! ≤ rk d[j]! := by
 rcases Nat.lt_or_eq_of_le h with h | rfl
 · exact hd i j h hj
 · exact Int.le_refl _
theorem compactUpTo_rises (d : Array Int) (hd : ∀ i j, i < j → j < d.size → rk d[i]! ≤ rk d[j]!) : ∀ m, m ≤ d.size → SS (compactUpTo d m) ∧ (∀ x, x ∈ compactUpTo d m ↔ ∃ j, j < m ∧ d[j]! = x)
 | 0, _ => ⟨by simp [compactUpTo, SS], fun x => by simp [compactUpTo]⟩
 | m + 1, hm => by
  obtain ⟨h1, h2⟩ := compactUpTo_rises d hd m (by omega)
  rw [compactUpTo_succ]
  by_cases hk : keeps d m = true
  · rw [if_pos hk]
    refine ⟨?_, fun x => ?_⟩
    · unfold SS
      rw [List.pairwise_append]
      refine ⟨h1, by simp, fun x hx y hy => ?_⟩
      obtain ⟨j, hj, rfl⟩ := (h2 x).1 hx
      rw [List.mem_singleton] at hy
      subst hy
      have hne : d[m]! ≠ d[m - 1]! := by
       simp only [keeps, decide_eq_true_eq] at hk
       rcases hk with h | h
       · omega
       · exact h
      have ha : rk d[j]! ≤ rk d[m - 1]! := rk_le_of_sorted hd (by omega) (by omega)
      have hb : rk d[m - 1]! ≤ rk d[m]! := rk_le_of_sorted hd (by omega) (by omega)
      have hc : rk d[m - 1]! ≠ rk d[m]! := fun h => hne (rk_inj h).symm
      omega
    · rw [List.mem_append, List.mem_singleton, h2 x]
      constructor
      · rintro (⟨j, hj, e⟩ | rfl)
        · exact ⟨j, by omega, e⟩
        · exact ⟨m, by omega, rfl⟩
      · rintro ⟨j, hj, e⟩
        rcases Nat.lt_or_ge j m with h | h
        · exact .inl ⟨j, h, e⟩
        · exact .inr (by rw [← e, show j = m by omega])
  · rw [if_neg hk, List.append_nil]
    refine ⟨h1, fun x => ?_⟩
    rw [h2 x]
    have hk' : m ≠ 0 ∧ d[m]! = d[m - 1]! := by
     have : ¬ (m = 0 ∨ d[m]! ≠ d[m - 1]!) := by simpa [keeps] using hk
     exact ⟨fun h => this (.inl h), Classical.byContradiction fun h => this (.inr h)⟩
    constructor
    · rintro ⟨j, hj, e⟩
      exact ⟨j, by omega, e⟩
    · rintro ⟨j, hj, e⟩
      rcases Nat.lt_or_ge j m with h | h
      · exact ⟨j, h, e⟩
      · exact ⟨m - 1, by omega, by rw [← hk'.2, ← e, show j = m by omega]⟩
def rkLe (x y : Int) : Bool := decide (rk x ≤ rk y)
def ord (zs : List Int) : List Int := compact (zs.mergeSort rkLe)
theorem ord_rises (zs : List Int) : SS (ord zs) ∧ (∀ x, x ∈ ord zs ↔ x ∈ zs) := by
 have hs : (zs.mergeSort rkLe).Pairwise (fun a b => rkLe a b = true) := List.pairwise_mergeSort (fun a b c h1 h2 => by simp only [rkLe, decide_eq_true_eq] at *; omega) (fun a b => by simp only [rkLe, Bool.or_eq_true, decide_eq_true_eq]; omega) zs
 have hp : (zs.mergeSort rkLe).Perm zs := List.mergeSort_perm _ _
 have e0 : ord zs = compact (zs.mergeSort rkLe) := rfl
 rw [e0]
 clear e0
 generalize zs.mergeSort rkLe = ms at *
 have hd : ∀ i j, i < j → j < ms.toArray.size → rk ms.toArray[i]! ≤ rk ms.toArray[j]! := fun i j h1 h2 => by
  have h2' : j < ms.length := by simpa using h2
  have := (List.pairwise_iff_getElem.1 hs) i j (by omega) h2' h1
  simp only [rkLe, decide_eq_true_eq] at this
  simpa [getElem!_pos, h2', show i < ms.length by omega] using this
 have h := compactUpTo_rises ms.toArray hd ms.length (by simp)
 refine ⟨h.1, fun x => ?_⟩
 have h2 := h.2 x
 show x ∈ compactUpTo ms.toArray ms.length ↔ _
 rw [h2, ← hp.mem_iff]
 constructor
 · rintro ⟨j, hj, e⟩
   rw [← e]
   simp [getElem!_pos, hj]
 · intro hx
   obtain ⟨j, hj, e⟩ := List.getElem_of_mem hx
   exact ⟨j, hj, by simp [getElem!_pos, hj, e]⟩
theorem ord_eq {zs r : List Int} (hs : SS r) (hm : ∀ x, x ∈ r ↔ x ∈ zs) : ord zs = r :=
 SS.uniq (ord_rises zs).1 hs (fun x => by rw [(ord_rises zs).2 x, hm x])
end Go.Proofs.YtmkhoocokpkojaaGreatDoor.order
