import Derived.Test.YtmkhoocokpkojaaGreatDoorPart1
import Derived.Test.YtmkhoocokpkojaaGreatDoorCnfDraw
import Derived.Laws.AppendOwn
namespace Go.Proofs.YtmkhoocokpkojaaGreatDoor.runS
open Go.RowKit Go.Deep base copy
set_option linter.unusedVariables false
theorem results_three {fn : Func} {p u v : Tmp} (h : fn.results = #[.tmp p, .tmp u, .tmp v]) (tmps : Array Value) (P : Program) (w : World) :
  (results fn tmps).run P w = .ok (.tuple #[tmps.getD p undef, tmps.getD u undef, tmps.getD v undef]) w := by
 simp only [results, h]
 simp
structure ValRow (w : World) (b n : Nat) (V : Nat → Int) : Prop where
 cell : ∀ i, i < n → w.cell? ⟨b, i, none⟩ = some (.int .i64 (V i)) ∧ w.frozen? ⟨b, i, none⟩ = false
 range : ∀ i, i < n → -1 ≤ V i ∧ V i ≤ 1
def valOf (V : Nat → Int) (z : Int) : Int := if z < 0 then - V z.natAbs else V z.natAbs
def clS (V : Nat → Int) : List Int → Int → Int → Bool × Int × Int
 | [], o, u => (false, o, u)
 | z :: r, o, u => if valOf V z = 1 then (true, 0, 0) else if valOf V z = 0 ∧ u ≠ z then clS V r (o + 1) z else clS V r o u
set_option maxHeartbeats 400000 in
theorem abs_spec (n : Int) (w : World) (h0 : -4611686018427387904 ≤ n) (h1 : n ≤ 4611686018427387904) :
  Calls Tryz.prog 81 #[.int .i64 n] w fun e w' => e = .returned (.int .i64 (n.natAbs : Int)) ∧ w' = w := by
 go_enter Tryz.func81, Tryz.ntmps81
 go_wp2
 all_goals
  go_ret
  exact ⟨ret_int (by omega), rfl⟩
theorem drop_int {l : List Int} {k : Nat} (h : k < l.length) : l.drop k = (l[k]?.getD 0) :: l.drop (k + 1) := by
 rw [List.drop_eq_getElem_cons h, List.getElem?_eq_getElem h]; rfl
set_option maxHeartbeats 1600000 in
set_option maxRecDepth 8000 in
theorem clause_spec (a : Option Addr) (len cap b n c : Nat) (zs : List Int) (V : Nat → Int) (w : World) (hr : IntRow w a len zs) (hv : ValRow w b n V) (hz : ∀ i, i < len → (zs[i]?.getD 0).natAbs < n) (hn : n ≤ 41) :
  Calls Tryz.prog 83 #[.slice a len cap, .slice (some ⟨b, 0, none⟩) n c] w fun e w' => e = .returned (.tuple #[.bool (clS V zs 0 0).1, .int .i64 (clS V zs 0 0).2.1, .int .i64 (clS V zs 0 0).2.2]) ∧ w' = w := by
 have hmost := hr.most
 unfold maxLen at hmost
 have HR := hid hr
 have HV := hid hv
 have HZ := hid hz
 obtain ⟨R, hR⟩ : ∃ R, clS V zs 0 0 = R := ⟨_, rfl⟩
 have H0 := hid hR
 rw [hR]
 clear hr hv hz hR
 go_enter Tryz.func83, Tryz.ntmps83
 go_wp2
 go_loop [9, 7, 8] (fun i o u => ∃ (k : Nat) (x y : Int), k ≤ len ∧ i = .int .i64 k ∧ o = .int .i64 x ∧ u = .int .i64 y ∧ 0 ≤ x ∧ x ≤ k ∧ clS V (zs.drop k) x y = R) (fun i _ _ => len - (intOf i).toNat)
 case atStart => exact ⟨0, 0, 0, Nat.zero_le _, rfl, rfl, rfl, by omega, by omega, by simpa using H0.out⟩
 case round =>
  obtain ⟨k, x, y, hk, rfl, rfl, rfl, hx0, hx1, hcl⟩ := hrel
  have HC := hid hcl
  clear hcl
  by_cases hlt : k < len
  · obtain ⟨g, off, rfl, hc⟩ := HR.out.cell k hlt
    have hd := drop_int (l := zs) (k := k) (by rw [HR.out.length]; exact hlt)
    have hzk := HZ.out k hlt
    rw [hd] at HC
    generalize zs[k]?.getD 0 = z at *
    obtain ⟨hvc, hvf⟩ := HV.out.cell z.natAbs hzk
    obtain ⟨r0, r1⟩ := HV.out.range z.natAbs hzk
    obtain ⟨vz, hvz⟩ : ∃ v, V z.natAbs = v := ⟨_, rfl⟩
    obtain ⟨j, hj⟩ : ∃ j, z.natAbs = j := ⟨_, rfl⟩
    have hval : valOf V z = if z < 0 then -vz else vz := by unfold valOf; rw [hvz]
    rw [hvz] at hvc r0 r1
    have HA : Hid (∀ w, Calls Tryz.prog 81 #[.int .i64 z] w fun e w' => e = .returned (.int .i64 (j : Int)) ∧ w' = w) := fun w => by
     have := abs_spec z w (by omega) (by omega)
     rw [hj] at this
     exact this
    rw [hj] at hzk hvc hvf
    have HVal := hid hval
    clear hd hval hvz
    have hjn : (j : Int) < (n : Int) := by omega
    have hq1 : z < 0 ∨ ¬ z < 0 := Decidable.em _
    have hq2 : vz = 1 ∨ vz = -1 ∨ vz = 0 := by omega
    have hcase : z = y ∨ (z ≠ y ∧ (y != z) = true) := by
     by_cases e : z = y
     · exact .inl e
     · exact .inr ⟨e, by simpa using fun h => e h.symm⟩
    rcases hcase with rfl | ⟨hyz, hyb⟩
    all_goals
     rcases hq1 with hq1 | hq1
     all_goals
      have HQ := hid hq1
      rcases hq2 with rfl | rfl | rfl
      all_goals
       have HW : Hid (clS V (z :: zs.drop (k + 1)) x _ = R) := HC.out
       first
       | (go_wp2_with (go_at_call 81; refine (HA.out _).mono ?_; rintro e w' ⟨rfl, rfl⟩)
          first
          | (refine bodyPost_ret (results_three rfl _ _ _) rfl ?_
             have h9 := HW.out
             have h8 := HVal.out
             first | rw [if_pos HQ.out] at h8 | rw [if_neg (by have := HQ.out; omega)] at h8
             unfold clS at h9
             rw [h8] at h9
             simp at h9
             subst h9
             exact ⟨rfl, rfl⟩)
          | (go_round
             case rel =>
              have h9 := HW.out
              have h8 := HVal.out
              first | rw [if_pos HQ.out] at h8 | rw [if_neg (by have := HQ.out; omega)] at h8
              unfold clS at h9
              rw [h8] at h9
              first
              | rw [if_neg (by omega), if_neg (by omega)] at h9
              | rw [if_neg (by omega), if_pos (by constructor <;> omega)] at h9
              first
              | exact ⟨k + 1, x, _, by omega, by go_num, rfl, rfl, by omega, by omega, h9⟩
              | exact ⟨k + 1, x + 1, z, by omega, by go_num, by go_num, rfl, by omega, by omega, h9⟩
              | exact ⟨k + 1, x, z, by omega, by go_num, rfl, rfl, by omega, by omega, h9⟩
             case measure => simp [intOf]; omega))
  · have e : k = len := by omega
    subst e
    have h9 := HC.out
    rw [List.drop_of_length_le (by rw [HR.out.length]; omega)] at h9
    unfold clS at h9
    subst h9
    clear HC
    go_wp2
    refine bodyPost_ret (results_three rfl _ _ _) rfl ?_
    exact ⟨rfl, rfl⟩
def setV (V : Nat → Int) (z : Int) : Nat → Int := fun i => if i = z.natAbs then (if 0 < z then 1 else -1) else V i
theorem ValRow.set {w : World} {b n : Nat} {V : Nat → Int} (h : ValRow w b n V) {z : Int} : ValRow (w.setCell ⟨b, z.natAbs, none⟩ (.int .i64 (if 0 < z then 1 else -1))) b n (setV V z) := by
 refine ⟨fun i hi => ?_, fun i hi => ?_⟩
 · obtain ⟨h1, h2⟩ := h.cell i hi
   unfold setV
   by_cases e : i = z.natAbs
   · subst e
     rw [if_pos rfl]
     exact ⟨World.cell?_setCell_same _ _ _ h1, by simpa using h2⟩
   · rw [if_neg e]
     exact ⟨(World.cell?_setCell_other _ _ _ _ (by intro h; injection h with _ h _; omega)).trans h1, by simpa using h2⟩
 · have := h.range i hi
   unfold setV
   split
   · split <;> omega
   · exact this
set_option maxHeartbeats 400000 in
theorem set_spec (b n c : Nat) (V : Nat → Int) (z : Int) (w : World) (hv : ValRow w b n V) (hz : z.natAbs < n) (h0 : z ≠ 0) (hn : n ≤ 41) :
  Calls Tryz.prog 59 #[.slice (some ⟨b, 0, none⟩) n c, .int .i64 z] w fun e w' => e = .returned (.tuple #[]) ∧ w' = w.setCell ⟨b, z.natAbs, none⟩ (.int .i64 (if 0 < z then 1 else -1)) := by
 obtain ⟨hc, hf⟩ := hv.cell z.natAbs hz
 clear hv
 by_cases hp : 0 < z
 · obtain ⟨j, rfl⟩ : ∃ j : Nat, z = j := ⟨z.natAbs, by omega⟩
   rw [if_pos hp]
   rw [Int.natAbs_natCast] at hc hf hz ⊢
   go_enter Tryz.func59, Tryz.ntmps59
   go_wp2
   go_end0
   exact ⟨rfl, rfl⟩
 · obtain ⟨j, rfl⟩ : ∃ j : Nat, z = -(j : Int) := ⟨z.natAbs, by omega⟩
   rw [if_neg hp]
   rw [Int.natAbs_neg, Int.natAbs_natCast] at hc hf hz ⊢
   go_enter Tryz.func59, Tryz.ntmps59
   go_wp2
   go_end0
   exact ⟨rfl, rfl⟩
theorem cl_open (V : Nat → Int) : ∀ (zs : List Int) (o u o' u' : Int), clS V zs o u = (false, o', u') → o ≤ o' ∧ ((o' = o ∧ u' = u) ∨ (u' ∈ zs ∧ valOf V u' = 0))
 | [], o, u, o', u', h => by
  unfold clS at h
  simp only [Prod.mk.injEq] at h
  omega
 | z :: r, o, u, o', u', h => by
  unfold clS at h
  split at h
  · simp at h
  · split at h
    · rename_i hv
      obtain ⟨h1, h2⟩ := cl_open V r (o + 1) z o' u' h
      refine ⟨by omega, .inr ?_⟩
      rcases h2 with ⟨_, rfl⟩ | ⟨h3, h4⟩
      · exact ⟨by simp, hv.1⟩
      · exact ⟨by simp [h3], h4⟩
    · obtain ⟨h1, h2⟩ := cl_open V r o u o' u' h
      refine ⟨h1, ?_⟩
      rcases h2 with h2 | ⟨h3, h4⟩
      · exact .inl h2
      · exact .inr ⟨by simp [h3], h4⟩
theorem val_zero {V : Nat → Int} {z : Int} (h : valOf V z = 0) : V z.natAbs = 0 := by
 unfold valOf at h
 split at h <;> omega
theorem cl_unit {V : Nat → Int} {zs : List Int} {u : Int} (h : clS V zs 0 0 = (false, 1, u)) : u ∈ zs ∧ V u.natAbs = 0 := by
 obtain ⟨_, h2⟩ := cl_open V zs 0 0 1 u h
 rcases h2 with ⟨h3, _⟩ | ⟨h3, h4⟩
 · omega
 · exact ⟨h3, val_zero h4⟩
def openN (V : Nat → Int) : Nat → Nat
 | 0 => 0
 | n + 1 => openN V n + if V n = 0 then 1 else 0
theorem open_le {V V' : Nat → Int} : ∀ n, (∀ i, i < n → V i ≠ 0 → V' i ≠ 0) → openN V' n ≤ openN V n
 | 0, _ => Nat.le_refl _
 | n + 1, h => by
  have ih := open_le n (fun i hi => h i (by omega))
  have := h n (by omega)
  unfold openN
  split <;> split <;> first | omega | (rename_i h1 h2; exact absurd h1 (this h2))
theorem open_set {V : Nat → Int} {z : Int} : ∀ n, z.natAbs < n → V z.natAbs = 0 → openN (setV V z) n < openN V n
 | 0, h, _ => absurd h (Nat.not_lt_zero _)
 | n + 1, h, h0 => by
  have hs : ∀ i, i ≠ z.natAbs → setV V z i = V i := fun i hi => by unfold setV; rw [if_neg hi]
  have hz : setV V z z.natAbs ≠ 0 := by unfold setV; rw [if_pos rfl]; split <;> omega
  unfold openN
  by_cases e : n = z.natAbs
  · have hle := open_le (V := V) (V' := setV V z) n (fun i hi hv => by rw [hs i (by omega)]; exact hv)
    rw [e] at hle ⊢
    rw [if_neg hz, if_pos h0]
    omega
  · have ih := open_set (V := V) (z := z) n (by omega) h0
    rw [hs n e]
    omega
end Go.Proofs.YtmkhoocokpkojaaGreatDoor.runS
namespace Go.Proofs.YtmkhoocokpkojaaGreatDoor.runL
open Go.RowKit Go.Deep base copy runS rowsOwn
set_option linter.unusedVariables false
def scanS (V : Nat → Int) : List (List Int) → Int → Int → Int × Int
 | [], _, u => (-1, u)
 | c :: r, i, u => if (clS V c 0 0).1 = true then scanS V r (i + 1) u else if (clS V c 0 0).2.1 = 0 then (i, u) else scanS V r (i + 1) (if (clS V c 0 0).2.1 = 1 ∧ u = 0 then (clS V c 0 0).2.2 else u)
def runF : Nat → List (List Int) → (Nat → Int) → List Int → List Int × Int × (Nat → Int)
 | 0, _, V, acc => (acc, -1, V)
 | k + 1, Z, V, acc => if 0 ≤ (scanS V Z 0 0).1 then (acc, (scanS V Z 0 0).1, V) else if (scanS V Z 0 0).2 = 0 then (acc, -1, V) else runF k Z (setV V (scanS V Z 0 0).2) (acc ++ [(scanS V Z 0 0).2])
theorem clS_false {V : Nat → Int} {c : List Int} (h : (clS V c 0 0).1 = false) (h1 : (clS V c 0 0).2.1 = 1) : (clS V c 0 0).2.2 ∈ c ∧ V (clS V c 0 0).2.2.natAbs = 0 := by
 refine cl_unit (zs := c) ?_
 rw [← h, ← h1]
theorem scan_unit {V : Nat → Int} : ∀ (Z : List (List Int)) (i u : Int), (scanS V Z i u).2 = u ∨ ((∃ c ∈ Z, (scanS V Z i u).2 ∈ c) ∧ V (scanS V Z i u).2.natAbs = 0)
 | [], i, u => .inl rfl
 | c :: r, i, u => by
  unfold scanS
  by_cases h1 : (clS V c 0 0).1 = true
  · rw [if_pos h1]
    rcases scan_unit r (i + 1) u with h | ⟨⟨d, hd, hm⟩, hv⟩
    · exact .inl h
    · exact .inr ⟨⟨d, by simp [hd], hm⟩, hv⟩
  · rw [if_neg h1]
    by_cases h2 : (clS V c 0 0).2.1 = 0
    · rw [if_pos h2]; exact .inl rfl
    · rw [if_neg h2]
      have h1' : (clS V c 0 0).1 = false := by simpa using h1
      rcases scan_unit r (i + 1) (if (clS V c 0 0).2.1 = 1 ∧ u = 0 then (clS V c 0 0).2.2 else u) with h | ⟨⟨d, hd, hm⟩, hv⟩
      · rw [h]
        by_cases h3 : (clS V c 0 0).2.1 = 1 ∧ u = 0
        · rw [if_pos h3]
          obtain ⟨m1, m2⟩ := clS_false h1' h3.1
          exact .inr ⟨⟨c, by simp, m1⟩, m2⟩
        · rw [if_neg h3]; exact .inl rfl
      · exact .inr ⟨⟨d, by simp [hd], hm⟩, hv⟩
theorem open_most (V : Nat → Int) : ∀ n, openN V n ≤ n
 | 0 => Nat.le_refl _
 | n + 1 => by
  have := open_most V n
  unfold openN
  split <;> omega
theorem run_keeps : ∀ (k : Nat) (Z : List (List Int)) (V : Nat → Int) (acc : List Int) (i : Nat), V i ≠ 0 → (runF k Z V acc).2.2 i ≠ 0
 | 0, Z, V, acc, i, h => h
 | k + 1, Z, V, acc, i, h => by
  unfold runF
  split
  · exact h
  · split
    · exact h
    · refine run_keeps k Z _ _ i ?_
      unfold setV
      split
      · split <;> decide
      · exact h
theorem own_far {B b : Nat} {w w1 : World} {v : Value} {zs : List Int} (h : OwnInts B w v zs) (hg : w.grownBy w1 (some b)) (hb : b < B) : OwnInts B w1 v zs :=
 own_grown h hg (fun g hgv e => by injection e with e; have := (World.ownsRow.lt h g hgv).1; omega)
theorem vals_keep {w w1 : World} {b n : Nat} {V : Nat → Int} (h : ValRow w b n V) (hk : w1.heap[b]? = w.heap[b]?) : ValRow w1 b n V :=
 ⟨fun i hi => by
  obtain ⟨h1, h2⟩ := h.cell i hi
  exact ⟨by rw [World.cell?_of_block (a := ⟨b, i, none⟩) hk]; exact h1, by rw [World.frozen?_of_block (a := ⟨b, i, none⟩) hk]; exact h2⟩, h.range⟩
def lenS : Value → Nat
 | .slice _ n _ => n
 | _ => 0
theorem drop_row {Z : List (List Int)} {k : Nat} (h : k < Z.length) : Z.drop k = Z[k]?.getD [] :: Z.drop (k + 1) := by
 rw [List.drop_eq_getElem_cons h, List.getElem?_eq_getElem h]; rfl
theorem run_last {k : Nat} {Z : List (List Int)} {V : Nat → Int} {acc : List Int} {at_ u : Int} (hs : scanS V Z 0 0 = (at_, u)) (h : 0 ≤ at_) : runF (k + 1) Z V acc = (acc, at_, V) := by
 unfold runF
 rw [hs, if_pos h]
theorem run_none {k : Nat} {Z : List (List Int)} {V : Nat → Int} {acc : List Int} (hs : scanS V Z 0 0 = (-1, 0)) : runF (k + 1) Z V acc = (acc, -1, V) := by
 unfold runF
 rw [hs, if_neg (by decide), if_pos rfl]
theorem run_more {k : Nat} {Z : List (List Int)} {V : Nat → Int} {acc : List Int} {u : Int} (hs : scanS V Z 0 0 = (-1, u)) (h : u ≠ 0) : runF (k + 1) Z V acc = runF k Z (setV V u) (acc ++ [u]) := by
 rw [runF, hs, if_neg (show ¬ (0 : Int) ≤ -1 by decide), if_neg h]
set_option maxHeartbeats 1600000 in
set_option maxRecDepth 8000 in
theorem run_spec (a : Option Addr) (len cap b n c : Nat) (Z : List (List Int)) (V : Nat → Int) (w : World) (hst : ∀ w', w.grownBy w' (some b) → IntRows w' a len Z) (hv : ValRow w b n V) (hb : b < w.heap.size) (hz : ∀ zs ∈ Z, ∀ z ∈ zs, z.natAbs < n) (hn : n ≤ 41) :
  Calls Tryz.prog 53 #[.slice a len cap, .slice (some ⟨b, 0, none⟩) n c] w fun e w' => ∃ v, e = .returned (.tuple #[v, .int .i64 (runF (n + 1) Z V []).2.1]) ∧ OwnInts w.heap.size w' v (runF (n + 1) Z V []).1 ∧ ValRow w' b n (runF (n + 1) Z V []).2.2 ∧ w.grownBy w' (some b) := by
 have hmost := (hst w (grown_refl _ _)).most
 unfold maxLen at hmost
 have HLn := hid (hst w (grown_refl _ _)).length
 have HSt := hid hst
 have HV := hid hv
 have HZ := hid hz
 obtain ⟨R, hR⟩ : ∃ R, runF (n + 1) Z V [] = R := ⟨_, rfl⟩
 have HR := hid hR
 rw [hR]
 clear hst hv hz hR
 obtain ⟨i0, hi, hzz⟩ := Option.map_eq_some_iff.1 Tryz.info_int
 simp only [Prod.mk.injEq] at hzz
 obtain ⟨hz0, hz1, hz2⟩ := hzz
 have HI := hid hi
 have HZ0 := hid hz0
 have HZ1 := hid hz1
 have HZ2 := hid hz2
 clear hi hz0 hz1 hz2
 have HOm := hid (open_most V n)
 go_enter Tryz.func53, Tryz.ntmps53
 go_wp2
 go_loopw [6] (fun x wr => ∃ (V' : Nat → Int) (acc : List Int) (f : Nat), OwnInts w.heap.size wr x acc ∧ ValRow wr b n V' ∧ w.grownBy wr (some b) ∧ openN V' n < f ∧ runF f Z V' acc = R ∧ acc.length + openN V' n ≤ n) (fun x _ => n + 1 - lenS x)
 case atStart =>
  have hba : Below w.heap.size w (w.alloc (.cells #[] 3)) := (by repeat (first | exact Below.refl _ _ | assumption | refine Below.drew ?_ | refine Below.alloc ?_ (by first | exact Nat.le_refl _ | omega | (simp; done) | (simp; omega)) _ | refine Below.setCell ?_ (by first | exact Nat.le_refl _ | omega | (simp; done) | (simp; omega)) _))
  refine ⟨V, [], n + 1, cnfDraw.own_new w rfl (Nat.le_refl _), vals_keep HV.out (hba.block b hb), cnfDraw.grown_own (grown_refl _ _) (cnfDraw.below_grown hba) (fun g e => by cases e), by have := HOm.out; omega, HR.out, by have := HOm.out; simpa using this⟩
 case round =>
  rename_i x
  obtain ⟨V', acc, f, hox, hvr, hgr, hfu, hru, hac⟩ := hrel
  obtain ⟨xa, xc, rfl, -⟩ := hox.form
  obtain ⟨k, rfl⟩ : ∃ k, f = k + 1 := ⟨f - 1, by omega⟩
  have HO := hid hox
  have HVr := hid hvr
  have HG := hid hgr
  have HRu := hid hru
  have HRows := hid (HSt.out wr hgr)
  obtain ⟨S, hS⟩ : ∃ S, scanS V' Z 0 0 = S := ⟨_, rfl⟩
  have HS := hid hS
  clear hox hvr hgr hru hS
  go_wp2
  go_loop [8, 7] (fun i u => ∃ (j : Nat) (y : Int), j ≤ len ∧ i = .int .i64 j ∧ u = .int .i64 y ∧ scanS V' (Z.drop j) j y = S) (fun i _ => len - (intOf i).toNat)
  case atStart => exact ⟨0, 0, Nat.zero_le _, rfl, rfl, by rw [List.drop_zero]; exact HS.out⟩
  case round =>
   obtain ⟨j, y, hj, rfl, rfl, hsc⟩ := hrel
   by_cases hlt : j < len
   · obtain ⟨g, off, rfl, x', l', c', hc, hrow⟩ := HRows.out.cell j hlt
     rw [drop_row (by rw [HLn.out]; exact hlt)] at hsc
     have hzs : ∀ z ∈ Z[j]?.getD [], z.natAbs < n := fun z hz => by
      have hjl : j < Z.length := by rw [HLn.out]; exact hlt
      rw [List.getElem?_eq_getElem hjl] at hz
      exact HZ.out _ (List.getElem_mem hjl) z hz
     generalize Z[j]?.getD [] = cl at *
     have HCl := hid (clause_spec x' l' c' b n c cl V' wr hrow HVr.out (fun i hi => by
      have hi' : i < cl.length := by rw [hrow.length]; exact hi
      rw [List.getElem?_eq_getElem hi']
      exact hzs _ (List.getElem_mem hi')) hn)
     have HSc := hid hsc
     rw [scanS] at HSc
     clear hsc hrow hzs
     generalize clS V' cl 0 0 = T at *
     obtain ⟨q, o, un⟩ := T
     simp only at HCl HSc
     have HSb := HSc
     cases q with
     | true =>
      have HSn : Hid (scanS V' (Z.drop (j + 1)) (j + 1) y = S) := hid (by have := HSc.out; rwa [if_pos rfl] at this)
      clear HSc HSb
      go_wp2_with fail
      refine HCl.out.mono ?_
      rintro e w1 ⟨rfl, hw1⟩
      subst hw1
      go_wp2
      exact ⟨⟨j + 1, y, by omega, by go_num, rfl, by push_cast; exact HSn.out⟩, by simp [intOf]; omega⟩
     | false =>
      by_cases ho : o = 0
      · subst ho
        have HE : Hid (S = ((j : Int), y)) := hid (by have := HSc.out; rw [if_neg (by simp), if_pos rfl] at this; exact this.symm)
        have HRR : Hid (R = (acc, (j : Int), V')) := hid (by rw [← HRu.out]; exact run_last (HS.out.trans HE.out) (Int.natCast_nonneg _))
        clear HSc HSb
        go_wp2_with fail
        refine HCl.out.mono ?_
        rintro e w1 ⟨rfl, hw1⟩
        subst hw1
        go_wp2
        go_ret2
        have h9 := HRR.out
        subst h9
        exact ⟨_, rfl, HO.out, HVr.out, HG.out⟩
      · have ho' : (o == 0) = false := beq_eq_false_iff_ne.2 ho
        by_cases h1 : o = 1 ∧ y = 0
        · obtain ⟨rfl, rfl⟩ := h1
          have HSn : Hid (scanS V' (Z.drop (j + 1)) (j + 1) un = S) := hid (by have := HSc.out; rw [if_neg (by simp), if_neg (by decide), if_pos ⟨rfl, rfl⟩] at this; exact this)
          clear HSc HSb
          go_wp2_with fail
          refine HCl.out.mono ?_
          rintro e w1 ⟨rfl, hw1⟩
          subst hw1
          go_wp2
          exact ⟨⟨j + 1, un, by omega, by go_num, rfl, by push_cast; exact HSn.out⟩, by simp [intOf]; omega⟩
        · have HSn : Hid (scanS V' (Z.drop (j + 1)) (j + 1) y = S) := hid (by have := HSc.out; rw [if_neg (by simp), if_neg ho, if_neg h1] at this; exact this)
          clear HSc HSb
          by_cases h2 : o = 1
          · subst h2
            have hy : ¬ y = 0 := fun e => h1 ⟨rfl, e⟩
            have hy' : (y == 0) = false := beq_eq_false_iff_ne.2 hy
            clear h1
            go_wp2_with fail
            refine HCl.out.mono ?_
            rintro e w1 ⟨rfl, hw1⟩
            subst hw1
            go_wp2
            exact ⟨⟨j + 1, y, by omega, by go_num, rfl, by push_cast; exact HSn.out⟩, by simp [intOf]; omega⟩
          · have h2' : (o == 1) = false := beq_eq_false_iff_ne.2 h2
            clear h1
            go_wp2_with fail
            refine HCl.out.mono ?_
            rintro e w1 ⟨rfl, hw1⟩
            subst hw1
            go_wp2
            exact ⟨⟨j + 1, y, by omega, by go_num, rfl, by push_cast; exact HSn.out⟩, by simp [intOf]; omega⟩
   · have e : j = len := by omega
     subst e
     rw [List.drop_of_length_le (by rw [HLn.out]; exact Nat.le_refl _), scanS] at hsc
     by_cases hy : y = 0
     · subst hy
       have HRR : Hid (R = (acc, -1, V')) := hid (by rw [← HRu.out]; exact run_none (HS.out.trans hsc.symm))
       clear hsc
       go_wp2
       go_ret2
       have h9 := HRR.out
       subst h9
       exact ⟨_, rfl, HO.out, HVr.out, HG.out⟩
     · have hy' : (y == 0) = false := beq_eq_false_iff_ne.2 hy
       have HRR : Hid (runF k Z (setV V' y) (acc ++ [y]) = R) := hid (by rw [← HRu.out]; exact (run_more (HS.out.trans hsc.symm) hy).symm)
       have hun := scan_unit (V := V') Z 0 0
       rw [HS.out, ← hsc] at hun
       rcases hun with hun | ⟨⟨cl, hcl, hm⟩, hv0⟩
       · exact absurd hun hy
       have hyn := HZ.out cl hcl y hm
       have hop := open_set (V := V') (z := y) n hyn hv0
       have HOp := hid hop
       have HSet := hid (set_spec b n c V' y wr HVr.out hyn hy hn)
       have HVs := hid (HVr.out.set (z := y))
       have HGs : Hid (w.grownBy (wr.setCell ⟨b, y.natAbs, none⟩ (.int .i64 (if 0 < y then 1 else -1))) (some b)) := hid (grown_set HG.out)
       have HOs : Hid (OwnInts w.heap.size (wr.setCell ⟨b, y.natAbs, none⟩ (.int .i64 (if 0 < y then 1 else -1))) (.slice xa acc.length xc) acc) := hid (own_far HO.out (grown_set (grown_refl _ _)) hb)
       generalize wr.setCell ⟨b, y.natAbs, none⟩ (.int .i64 (if 0 < y then 1 else -1)) = ws at *
       clear hsc hcl hm hv0 hop
       go_wp2_with fail
       refine HSet.out.mono ?_
       rintro e w1 ⟨rfl, hw1⟩
       subst hw1
       go_wp2_with (at_builtin; (refine wpList_append_own _ rfl _ _ 52 rfl w.heap.size 3 i0 (.int .i64 0) 1 8 Tryz.underlying52 HI.out HZ0.out HZ1.out HZ2.out rfl (by decide) _ _ _ rfl (World.ownsRow.alloc HOs.out _) ⟨w1.heap.size, 0, none⟩ 1 1 [.int .i64 y] rfl rfl (cell_one_new _ _ _) (fun x hx => by simp at hx; subst hx; rfl) (by unfold maxLen; omega) (by omega) (by have := HGs.out.size; simp; omega) ?_); intro v' w3 hown' hgrow3 hnil3)
       have hba : Below w1.heap.size w1 (w1.alloc (.cells #[.int .i64 y] 3)) := (by repeat (first | exact Below.refl _ _ | assumption | refine Below.drew ?_ | refine Below.alloc ?_ (by first | exact Nat.le_refl _ | omega | (simp; done) | (simp; omega)) _ | refine Below.setCell ?_ (by first | exact Nat.le_refl _ | omega | (simp; done) | (simp; omega)) _))
       have hrow : ∀ g, _ = some g → w.heap.size ≤ g := fun g e => (World.ownsRow.lt HOs.out g e).1
       have HG3 : Hid (w.grownBy w3 (some b)) := hid (cnfDraw.grown_own (cnfDraw.grown_own HGs.out (cnfDraw.below_grown hba) (fun g e => by cases e)) hgrow3 hrow)
       have HV3 : Hid (ValRow w3 b n (setV V' y)) := hid (vals_keep HVs.out (by
        have hb1 : b < w1.heap.size := Nat.lt_of_lt_of_le hb HGs.out.size
        rw [hgrow3.block b (Nat.lt_of_lt_of_le hb1 hba.size) (fun e => by have := hrow b e.symm; omega)]
        exact hba.block b hb1))
       have HO3 : Hid (OwnInts w.heap.size w3 v' (acc ++ [y])) := hid (by
        unfold OwnInts
        rw [List.length_append, List.map_append]
        exact hown')
       obtain ⟨xa3, xc3, rfl, -⟩ := HO3.out.form
       clear hown' hgrow3 hnil3 hrow hba
       go_wp2
       exact ⟨⟨setV V' y, acc ++ [y], k, HO3.out, HV3.out, HG3.out, by have := HOp.out; omega, HRR.out, by have := HOp.out; rw [List.length_append]; simp; omega⟩, by simp [lenS]; omega⟩
end Go.Proofs.YtmkhoocokpkojaaGreatDoor.runL
namespace Go.Proofs.YtmkhoocokpkojaaGreatDoor.readSpecP
open Go.RowKit Go.Deep base
set_option linter.unusedVariables false
abbrev Pt := Bool × Value × List Int
def pcs (p : Pt) : List Value := [.bool p.1, p.2.1]
structure OwnSteps (B : Nat) (w : World) (v : Value) (ps : List Pt) : Prop where
 outer : w.ownsRow B 79 2 v ps.length (ps.flatMap pcs)
 inner : ∀ p ∈ ps, w.ownsRow B 3 1 p.2.1 p.2.2.length (p.2.2.map (Value.int .i64))
def Lone (ps : List Pt) : Prop := ps.Pairwise fun p q => ∀ g, p.2.1.ownBlock = some g → q.2.1.ownBlock = some g → False
def strip (p : Pt) : Bool × List Int := (p.1, p.2.2)
theorem pass_own {B n : Nat} {w w1 : World} {v : Value} {t : TypeId} {s : Nat} {xs : List Value} (h : w.ownsRow B t s v n xs) (hb : Below w.heap.size w w1) : w1.ownsRow B t s v n xs := by
 obtain ⟨h1, h2⟩ := h
 refine ⟨h1, ?_⟩
 rcases h2 with h2 | ⟨g, cap, cur, e, hg, hh, hn, hm, hs, ht⟩
 · exact .inl h2
 · exact .inr ⟨g, cap, cur, e, hg, by rw [hb.block g (Array.getElem?_eq_some_iff.1 hh).1]; exact hh, hn, hm, hs, ht⟩
theorem two_at {w : World} {b : Nat} {x y : Value} (h0 : w.cell? ⟨b, 0, none⟩ = some x) (h1 : w.cell? ⟨b, 1, none⟩ = some y) : ∀ j u, [x, y][j]? = some u → w.cell? ((⟨b, 0, none⟩ : Addr).add j) = some u := by
 intro j u h
 match j, h with
 | 0, h => simp at h; subst h; simpa [Addr.add] using h0
 | 1, h => simp at h; subst h; simpa [Addr.add] using h1
 | j + 2, h => simp at h
theorem none_own {B H : Nat} (w : World) (t : TypeId) (s : Nat) (h : w.heap.size = H) (hB : B ≤ H) : (w.alloc (.cells #[] t)).ownsRow B t s (.slice (some ⟨H, 0, none⟩) 0 0) 0 [] :=
 ⟨by simp, .inr ⟨H, 0, #[], rfl, hB, by subst h; exact heap_alloc_new w _, Nat.le_refl _, Nat.zero_le _, by simp, by simp⟩⟩
theorem OwnSteps.below {B : Nat} {w w1 : World} {v : Value} {ps : List Pt} (h : OwnSteps B w v ps) (hb : Below w.heap.size w w1) : OwnSteps B w1 v ps := ⟨pass_own h.outer hb, fun p hp => pass_own (h.inner p hp) hb⟩
theorem own_base {B B' n : Nat} {w : World} {v : Value} {t : TypeId} {s : Nat} {xs : List Value} (h : w.ownsRow B t s v n xs) (hB : B' ≤ B) : w.ownsRow B' t s v n xs := by
 obtain ⟨h1, h2⟩ := h
 refine ⟨h1, ?_⟩
 rcases h2 with h2 | ⟨g, cap, cur, e, hg, hn⟩
 · exact .inl h2
 · exact .inr ⟨g, cap, cur, e, Nat.le_trans hB hg, hn⟩
theorem OwnSteps.mono {B B' : Nat} {w : World} {v : Value} {ps : List Pt} (h : OwnSteps B w v ps) (hB : B' ≤ B) : OwnSteps B' w v ps := ⟨own_base h.outer hB, fun p hp => own_base (h.inner p hp) hB⟩
theorem steps_add {B : Nat} {w w3 : World} {v v' : Value} {ps : List Pt} {p : Pt} (h : OwnSteps B w v ps) (hx : w.ownsRow B 3 1 p.2.1 p.2.2.length (p.2.2.map (Value.int .i64))) (ho : w3.ownsRow B 79 2 v' (ps.length + 1) (ps.flatMap pcs ++ pcs p)) (hg : w.grownBy w3 v.ownBlock) : OwnSteps B w3 v' (ps ++ [p]) := by
 have keepI : ∀ q : Pt, w.ownsRow B 3 1 q.2.1 q.2.2.length (q.2.2.map (Value.int .i64)) → w3.ownsRow B 3 1 q.2.1 q.2.2.length (q.2.2.map (Value.int .i64)) := fun q hq => by
  obtain ⟨h1, h2⟩ := hq
  refine ⟨h1, ?_⟩
  rcases h2 with h2 | ⟨g, cap, cur, e, hb, hh, hn⟩
  · exact .inl h2
  · refine .inr ⟨g, cap, cur, e, hb, ?_, hn⟩
    rw [hg.block g (Array.getElem?_eq_some_iff.1 hh).1 (fun e9 => by
     rcases h.outer.2 with ⟨ev, _⟩ | ⟨g', cap', cur', ev, hb', hh', hn'⟩
     · rw [ev] at e9; cases e9
     · rw [ev] at e9
       injection e9 with e9
       subst e9
       rw [hh'] at hh
       simp only [Option.some.injEq, Obj.cells.injEq] at hh
       exact absurd hh.2.1 (by decide))]
    exact hh
 refine ⟨?_, fun q hq => ?_⟩
 · rw [List.length_append, List.flatMap_append]
   simpa using ho
 · rcases List.mem_append.1 hq with hq | hq
   · exact keepI q (h.inner q hq)
   · simp at hq; subst hq; exact keepI _ hx
theorem lone_add {ps : List Pt} {p : Pt} {M : Nat} (hl : Lone ps) (h1 : ∀ q ∈ ps, ∀ g, q.2.1.ownBlock = some g → g < M) (h2 : ∀ g, p.2.1.ownBlock = some g → M ≤ g) : Lone (ps ++ [p]) := by
 unfold Lone
 rw [List.pairwise_append]
 refine ⟨hl, List.pairwise_singleton _ _, fun a ha b hb g e1 e2 => ?_⟩
 simp at hb
 subst hb
 have := h1 a ha g e1
 have := h2 g e2
 omega
theorem step_info : (Tryz.prog.info? 79).map (fun i => (i.zero, i.size, i.bytes)) = some (some (.agg #[.bool false, .slice none 0 0]), 2, 32) := by kernel_rfl
end Go.Proofs.YtmkhoocokpkojaaGreatDoor.readSpecP
