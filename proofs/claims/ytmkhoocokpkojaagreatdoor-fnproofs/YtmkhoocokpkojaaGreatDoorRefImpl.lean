import Derived.Test.YtmkhoocokpkojaaGreatDoorRefSem
import Derived.Maps.AppendAt
namespace Go.Proofs.YtmkhoocokpkojaaGreatDoor.refImpl
open Go.RowKit Go.Deep base copy runS rowsOwn runL refSem
open readSpecP (Pt pcs OwnSteps strip)
set_option linter.unusedVariables false
def negs (zs : List Int) (k : Nat) : List Int := (zs.take k).map fun z => -z
theorem negs_len {zs : List Int} {k : Nat} (h : k ≤ zs.length) : (negs zs k).length = k := by simp [negs]; omega
theorem negs_succ {zs : List Int} {k : Nat} (h : k < zs.length) : negs zs (k + 1) = negs zs k ++ [-(zs[k]?.getD 0)] := by
 unfold negs
 rw [List.take_succ_eq_append_getElem h, List.map_append, List.getElem?_eq_getElem h]; rfl
theorem negs_lit {zs : List Int} {v : Int} (h : ∀ z ∈ zs, cnf.litB v z = true) (k : Nat) : ∀ z ∈ negs zs k, cnf.litB v z = true := fun z hz => by
 obtain ⟨y, hy, rfl⟩ := List.mem_map.1 hz
 have := (of_decide_eq_true (h y (List.mem_of_mem_take hy)) : y ≠ 0 ∧ -v ≤ y ∧ y ≤ v)
 exact decide_eq_true ⟨by omega, by omega, by omega⟩
theorem lit_abs {n : Nat} {z : Int} (h : cnf.litB (n : Int) z = true) : z.natAbs < n + 1 ∧ z ≠ 0 := by
 have := (of_decide_eq_true h : z ≠ 0 ∧ -(n : Int) ≤ z ∧ z ≤ n)
 omega
theorem lit_range {n : Nat} {z : Int} (h : cnf.litB (n : Int) z = true) : -(n : Int) ≤ z ∧ z ≤ n := (of_decide_eq_true h : z ≠ 0 ∧ -(n : Int) ≤ z ∧ z ≤ n).2
theorem one_ints (zs : List Int) : ∀ u ∈ zs.map (Value.int .i64), u.oneCell' = true := fun u hu => by
 obtain ⟨z, _, rfl⟩ := List.mem_map.1 hu
 rfl
theorem own_some {B : Nat} {w : World} {v : Value} {zs : List Int} {z : Int} (h : OwnInts B w v (zs ++ [z])) : ∃ g c, v = .slice (some ⟨g, 0, none⟩) (zs.length + 1) c ∧ B ≤ g ∧ g < w.heap.size ∧ ∃ cs, w.heap[g]? = some (.cells cs 3 (0, 0)) := by
 rcases h.2 with ⟨e, h0⟩ | ⟨g, cap, cur, e, hb, hh, _⟩
 · simp at h0
 · exact ⟨g, cap, by rw [e]; simp, hb, (Array.getElem?_eq_some_iff.1 hh).1, cur, hh⟩
def atF (Z : List (List Int)) (nv : Nat) (zs : List Int) : Int := (runF (nv + 1 + 1) Z (allV zs) []).2.1
def valF (Z : List (List Int)) (nv : Nat) (zs : List Int) : Nat → Int := (runF (nv + 1 + 1) Z (allV zs) []).2.2
def Opens (V : Nat → Int) (nv q : Nat) : Prop := 1 ≤ q ∧ q ≤ nv ∧ V q = 0 ∧ ∀ i, 1 ≤ i → i < q → V i ≠ 0
inductive Goes (Z : List (List Int)) (nv : Nat) : List Int → List (List Int) → Nat → List (List Int) → Prop
 | shut {zs : List Int} {p : List (List Int)} : 0 ≤ atF Z nv zs → zs.length ≤ 12 → p.length < 200 → Goes Z nv zs p 0 (p ++ [zs.map fun z => -z])
 | shutM {zs : List Int} {p : List (List Int)} : 0 ≤ atF Z nv zs → (12 < zs.length ∨ p.length = 200) → Goes Z nv zs p 2 p
 | model {zs : List Int} {p : List (List Int)} : atF Z nv zs < 0 → (∀ i, 1 ≤ i → i ≤ nv → valF Z nv zs i ≠ 0) → Goes Z nv zs p 1 p
 | left {zs : List Int} {p : List (List Int)} {q c : Nat} {p1 : List (List Int)} : atF Z nv zs < 0 → Opens (valF Z nv zs) nv q → Goes Z nv (zs ++ [-(q : Int)]) p c p1 → c ≠ 0 → Goes Z nv zs p c p1
 | right {zs : List Int} {p : List (List Int)} {q c : Nat} {p1 p2 : List (List Int)} : atF Z nv zs < 0 → Opens (valF Z nv zs) nv q → Goes Z nv (zs ++ [-(q : Int)]) p 0 p1 → Goes Z nv (zs ++ [(q : Int)]) p1 c p2 → c ≠ 0 → Goes Z nv zs p c p2
 | both {zs : List Int} {p : List (List Int)} {q : Nat} {p1 p2 : List (List Int)} : atF Z nv zs < 0 → Opens (valF Z nv zs) nv q → Goes Z nv (zs ++ [-(q : Int)]) p 0 p1 → Goes Z nv (zs ++ [(q : Int)]) p1 0 p2 → zs.length ≤ 12 → p2.length < 200 → Goes Z nv zs p 0 (p2 ++ [zs.map fun z => -z])
 | bothM {zs : List Int} {p : List (List Int)} {q : Nat} {p1 p2 : List (List Int)} : atF Z nv zs < 0 → Opens (valF Z nv zs) nv q → Goes Z nv (zs ++ [-(q : Int)]) p 0 p1 → Goes Z nv (zs ++ [(q : Int)]) p1 0 p2 → (12 < zs.length ∨ p2.length = 200) → Goes Z nv zs p 2 p2
def cls (ps : List Pt) : List (List Int) := ps.map fun p => p.2.2
theorem cls_snoc {ps : List Pt} {v : Value} {zs : List Int} {k : Nat} (h : zs.length = k) : cls (ps ++ [((false, v, negs zs k) : Pt)]) = cls ps ++ [zs.map fun z => -z] := by
 simp [cls, negs, List.take_of_length_le (Nat.le_of_eq h)]
theorem cls_len (ps : List Pt) : (cls ps).length = ps.length := by simp [cls]
def Ends (B S M nv : Nat) (cv : Value) (psZ : List (Value × List Int)) (zs : List Int) (w : World) (ps : List Pt) (e : Ending) (w' : World) : Prop := ∃ ok c sv' mn' ps', e = .returned (.bool ok) ∧ (ok = true ↔ c = 0) ∧ mn' = (c == 2) ∧ Goes (psZ.map (·.2)) nv zs (cls ps) c (cls ps') ∧ (ok = true → ps' ≠ []) ∧ Did B S M nv cv psZ w ps w' sv' mn' ps'
theorem set_last (zs : List Int) (x y : Int) : (zs ++ [x]).set zs.length y = zs ++ [y] := by simp
set_option maxRecDepth 100000 in
set_option maxHeartbeats 6400000 in
theorem from_spec (B S M nv zn zc : Nat) (zp : Option Addr) (psZ : List (Value × List Int)) (hnv : nv ≤ 40) (hcl : ∀ p ∈ psZ, ∀ z ∈ p.2, cnf.litB (nv : Int) z = true) :
  ∀ (m : Nat) (zs : List Int) (cb len cap : Nat) (w : World) (sv : Value) (ps : List Pt), openN (allV zs) (nv + 1) < m → zs.length + openN (allV zs) (nv + 1) ≤ nv + 1 → Rf B S M nv (.slice zp zn zc) psZ w sv false ps → OwnInts 0 w (.slice (some ⟨cb, 0, none⟩) len cap) zs → (∀ z ∈ zs, cnf.litB (nv : Int) z = true) → S ≤ w.heap.size →
   Calls Tryz.prog 33 #[.pointer (some ⟨M, 0, none⟩), .slice (some ⟨cb, 0, none⟩) len cap] w fun e w' => Ends B S M nv (.slice zp zn zc) psZ zs w ps e w' := by
 obtain ⟨i0, hi, hzz⟩ := Option.map_eq_some_iff.1 Tryz.info_int
 simp only [Prod.mk.injEq] at hzz
 obtain ⟨hz0, hz1, hz2⟩ := hzz
 have HI := hid hi
 have HZ0 := hid hz0
 have HZ1 := hid hz1
 have HZ2 := hid hz2
 clear hi hz0 hz1 hz2
 obtain ⟨j0, hi, hzz⟩ := Option.map_eq_some_iff.1 readSpecP.step_info
 simp only [Prod.mk.injEq] at hzz
 obtain ⟨hz0, hz1, hz2⟩ := hzz
 have HJ := hid hi
 have HJ0 := hid hz0
 have HJ1 := hid hz1
 have HJ2 := hid hz2
 clear hi hz0 hz1 hz2
 intro m
 induction m with
 | zero => intro zs cb len cap w sv ps h; exact absurd h (Nat.not_lt_zero _)
 | succ m ih =>
  intro zs cb len cap w sv ps hop hlz hrf hch hlit hB
  have HIh := hid ih
  have HRf := hid hrf
  have HCh := hid hch
  have HLit := hid hlit
  have HLz := hid (own_holds hch).1
  have hlen41 : len ≤ 41 := by have := (own_holds hch).1; omega
  have HOp := hid hop
  have HLo := hid hlz
  have HCl := hid hcl
  have hMlt := hrf.row.lt
  have c0 : w.cell? ⟨M, 0, none⟩ = some (.int .i64 nv) := hrf.row.cell (i := 0) (by omega)
  have c1 : w.cell? ⟨M, 1, none⟩ = some (.slice zp zn zc) := hrf.row.cell (i := 1) (by omega)
  have C0 := hid c0
  have C1 := hid c1
  obtain ⟨n, hn⟩ : ∃ n, nv + 1 = n := ⟨_, rfl⟩
  have hn' : (nv : Int) + 1 = (n : Int) := by omega
  have HN := hid hn
  have hmk := run_make_row' (P := Tryz.prog) 52 3 (.int .i64 0) 8 Tryz.underlying52 Tryz.info_int rfl .i64 .i64 n (by omega) (by omega)
  clear ih hrf hch hlit hop hlz hcl hn c1
  go_enter Tryz.func33, Tryz.ntmps33
  go_wp2
  clear c0 hmk hn'
  go_loopw [6] (fun i wr => ∃ k : Nat, k ≤ len ∧ i = .int .i64 k ∧ ValRow wr w.heap.size n (allV (zs.take k)) ∧ Below w.heap.size w wr ∧ w.heap.size < wr.heap.size) (fun i _ => len - (intOf i).toNat)
  case atStart =>
   have hbm : Below w.heap.size w (w.alloc (.cells (madeCells #[.int .i64 0] n) 3)) := (by repeat (first | exact Below.refl _ _ | assumption | refine Below.drew ?_ | refine Below.alloc ?_ (by first | exact Nat.le_refl _ | omega | (simp; done) | (simp; omega)) _ | refine Below.setCell ?_ (by first | exact Nat.le_refl _ | omega | (simp; done) | (simp; omega)) _))
   have hrm : (w.alloc (.cells (madeCells #[.int .i64 0] n) 3)).rowIs w.heap.size 3 n (fun _ => .int .i64 0) := World.rowIs_made w _ n 3
   exact ⟨0, Nat.zero_le _, rfl, ⟨fun i hi => ⟨hrm.cell hi, hrm.frozen i⟩, fun i hi => by simp [allV]⟩, hbm, by simp⟩
  case round =>
   obtain ⟨k, hk, rfl, hvr, hbel, hsz⟩ := hrel
   by_cases hlt : k < len
   · obtain ⟨_, hcc⟩ := own_holds HCh.out
     have hc := keep hbel (hcc k hlt).1
     have HV := hid hvr
     have HB := hid hbel
     have hkl : k < zs.length := by rw [HLz.out]; exact hlt
     have HTk := hid (allV_take hkl)
     obtain ⟨hza, hz0⟩ := lit_abs (HLit.out (zs[k]?.getD 0) (by rw [List.getElem?_eq_getElem hkl]; exact List.getElem_mem _))
     rw [HN.out] at hza
     simp only [Nat.zero_add] at hc
     clear hcc hvr hbel hkl
     generalize zs[k]?.getD 0 = z at *
     have HSet := hid (set_spec w.heap.size n n _ z wr HV.out hza hz0 (by have := HN.out; omega))
     go_wp2_with fail
     refine HSet.out.mono ?_
     rintro e w1 ⟨rfl, hw1⟩
     have HV1 : Hid (ValRow w1 w.heap.size n (allV (zs.take (k + 1)))) := hid (by rw [hw1, HTk.out]; exact HV.out.set)
     have HB1 : Hid (Below w.heap.size w w1) := hid (by rw [hw1]; exact HB.out.setCell (Nat.le_refl _) _)
     have hs1 : w.heap.size < w1.heap.size := by rw [hw1]; simpa [World.setCell] using hsz
     clear hw1
     go_wp2
     go_roundw
     case rel => exact ⟨k + 1, by omega, by go_num, HV1.out, HB1.out, hs1⟩
     case measure => simp [intOf]; omega
   · have e : k = len := by omega
     subst e
     rw [List.take_of_length_le (by rw [HLz.out]; exact Nat.le_refl _)] at hvr
     have HB := hid hbel
     have HRun := hid (run_spec zp zn zc w.heap.size n n (psZ.map (·.2)) (allV zs) wr (fun w' hg => rows_of_own (HRf.out.form.below (hbel.grown hg hbel.size (fun j e => by injection e with e; omega)))) hvr hsz (fun zs' hz' z hz => by
      obtain ⟨p, hp, rfl⟩ := List.mem_map.1 hz'
      have := (lit_abs (HCl.out p hp z hz)).1
      have := HN.out
      omega) (by have := HN.out; omega))
     have c1 := keep hbel C1.out
     have hMr : M < wr.heap.size := by omega
     have HKp : Hid (∀ i, allV zs i ≠ 0 → (runF (n + 1) (psZ.map (·.2)) (allV zs) []).2.2 i ≠ 0) := hid (fun i h => run_keeps _ _ _ _ i h)
     have HAt : Hid (atF (psZ.map (·.2)) nv zs = (runF (n + 1) (psZ.map (·.2)) (allV zs) []).2.1) := hid (by rw [← HN.out]; rfl)
     have HVa : Hid (valF (psZ.map (·.2)) nv zs = (runF (n + 1) (psZ.map (·.2)) (allV zs) []).2.2) := hid (by rw [← HN.out]; rfl)
     generalize runF (n + 1) (psZ.map (·.2)) (allV zs) [] = R at *
     obtain ⟨Ro, Ra, RV⟩ := R
     simp only at HRun HKp HAt HVa
     clear hvr hbel
     go_wp2_with fail
     refine HRun.out.mono ?_
     rintro e w2 ⟨ov, rfl, hov, hv2, hg2⟩
     have hb2 : Below w.heap.size w w2 := HB.out.grown hg2 HB.out.size (fun j e => by injection e with e; omega)
     have HB2 := hid hb2
     have HV2 := hid hv2
     have c0 := keep hb2 C0.out
     have hM2 : M < w2.heap.size := Nat.lt_of_lt_of_le hMlt hb2.size
     have hs2 := hb2.size
     have HCh2 := hid (HCh.out.below hb2)
     clear hov hv2 hg2 hb2 c1
     by_cases hat : Ra < 0
     · go_wp2
       go_loop [9] (fun v => ∃ q : Nat, 1 ≤ q ∧ q ≤ nv + 1 ∧ v = .int .i64 q ∧ ∀ i : Nat, 1 ≤ i → i < q → RV i ≠ 0) (fun v => nv + 1 - (intOf v).toNat)
       case atStart => exact ⟨1, Nat.le_refl _, by omega, rfl, fun i h1 h2 => by omega⟩
       case round =>
        obtain ⟨q, hq1, hq2, rfl, hall⟩ := hrel
        have HAll := hid hall
        have HNeg : Hid (atF (psZ.map (·.2)) nv zs < 0) := hid (by rw [HAt.out]; exact hat)
        clear hall
        by_cases hqn : q ≤ nv
        · have hqi : (q : Int) ≤ (nv : Int) := by omega
          obtain ⟨hvc, hvf⟩ := HV2.out.cell q (by have := HN.out; omega)
          have hqn' : (q : Int) < (n : Int) := by have := HN.out; omega
          by_cases hv0 : RV q = 0
          · have HOpn : Hid (Opens (valF (psZ.map (·.2)) nv zs) nv q) := hid (by rw [HVa.out]; exact ⟨hq1, hqn, hv0, HAll.out⟩)
            rw [hv0] at hvc
            have hA0 : allV zs q = 0 := by
             rcases Decidable.em (allV zs q = 0) with h | h
             · exact h
             · exact absurd hv0 (HKp.out q h)
            have HLess : Hid (∀ z : Int, z.natAbs = q → openN (allV (zs ++ [z])) (nv + 1) < openN (allV zs) (nv + 1)) := hid (fun z hz => by
             rw [allV_snoc]
             exact open_set (nv + 1) (by omega) (by rw [hz]; exact hA0))
            have HLt2 : Hid (∀ z : Int, z.natAbs = q → ∀ y ∈ zs ++ [z], cnf.litB (nv : Int) y = true) := hid (fun z hz y hy => by
             rcases List.mem_append.1 hy with hy | hy
             · exact HLit.out y hy
             · rw [List.mem_singleton] at hy
               subst hy
               exact decide_eq_true ⟨by omega, by omega, by omega⟩)
            have HNews := hid (fun o => news_of (HCh2.out.below (show Below w2.heap.size w2 (w2.alloc o) from (by repeat (first | exact Below.refl _ _ | assumption | refine Below.drew ?_ | refine Below.alloc ?_ (by first | exact Nat.le_refl _ | omega | (simp; done) | (simp; omega)) _ | refine Below.setCell ?_ (by first | exact Nat.le_refl _ | omega | (simp; done) | (simp; omega)) _)))))
            clear hA0 hv0
            go_wp2_with (at_builtin; first
             | ((refine wpList_append_own _ rfl _ _ 52 rfl w2.heap.size 3 i0 (.int .i64 0) 1 8 Tryz.underlying52 HI.out HZ0.out HZ1.out HZ2.out rfl (by decide) _ _ _ rfl (cnfDraw.own_new w2 rfl (Nat.le_refl _)) ⟨cb, 0, none⟩ k cap (zs.map (.int .i64)) rfl (by rw [List.length_map, HLz.out, Nat.mul_one]) (HNews.out _) (one_ints zs) (by unfold maxLen; omega) (by omega) (by simp) ?_); intro v3 w3 hown3 hg3 hnil3
                have hba : Below w2.heap.size w2 (w2.alloc (.cells #[] 3)) := (by repeat (first | exact Below.refl _ _ | assumption | refine Below.drew ?_ | refine Below.alloc ?_ (by first | exact Nat.le_refl _ | omega | (simp; done) | (simp; omega)) _ | refine Below.setCell ?_ (by first | exact Nat.le_refl _ | omega | (simp; done) | (simp; omega)) _))
                have HB3 : Hid (Below w2.heap.size w2 w3) := hid (hba.grown hg3 hba.size (fun j e => by have e' : some w2.heap.size = some j := e; injection e' with e'; omega))
                have HO3 : Hid (w3.ownsRow w2.heap.size 3 1 v3 k (zs.map (.int .i64))) := hid (by simpa using hown3)
                have hs3 := HB3.out.size
                clear hown3 hg3 hnil3 hba)
             | ((refine wpList_append_own _ rfl _ _ 52 rfl w2.heap.size 3 i0 (.int .i64 0) 1 8 Tryz.underlying52 HI.out HZ0.out HZ1.out HZ2.out rfl (by decide) _ _ _ rfl (World.ownsRow.alloc HO3.out _) ⟨w3.heap.size, 0, none⟩ 1 1 [.int .i64 (-(q : Int))] rfl rfl (cell_one_new _ _ _) (fun x hx => by simp at hx; subst hx; rfl) (by unfold maxLen; omega) (by omega) (by simp; omega) ?_); intro v4 w4 hown4 hg4 hnil4))
            have hba : Below w2.heap.size w2 (w3.alloc (.cells #[.int .i64 (-(q : Int))] 3)) := HB3.out.alloc hs3 _
            have HB24 : Hid (Below w2.heap.size w2 w4) := hid (hba.grown hg4 hba.size (fun j hj => (World.ownsRow.lt HO3.out j hj).1))
            have HB4 : Hid (Below w.heap.size w w4) := hid (HB2.out.trans (HB24.out.mono hs2))
            have HO4 : Hid (OwnInts w2.heap.size w4 v4 (zs ++ [-(q : Int)])) := hid (by
             unfold OwnInts
             rw [List.length_append, List.map_append, HLz.out]
             exact hown4)
            obtain ⟨mb, mc, hv4, hmb1, hmb2, hmbt⟩ := own_some HO4.out
            rw [HLz.out] at hv4
            subst hv4
            have HMt := hid hmbt
            clear hown4 hg4 hnil4 hba hmbt HO3 HNews
            have hl1 := HLess.out (-(q : Int)) (by omega)
            have HI1 := hid (HIh.out (zs ++ [-(q : Int)]) mb (k + 1) mc w4 sv ps (by have := HOp.out; omega) (by have := HLo.out; rw [List.length_append, List.length_singleton]; omega) (HRf.out.below HB4.out) (HO4.out.mono (Nat.zero_le _)) (HLt2.out _ (by omega)) (Nat.le_trans hB HB4.out.size))
            clear hl1
            go_wp2_with fail
            refine HI1.out.mono ?_
            rintro e w5 ⟨ok, c5, sv5, mn5, ps5, rfl, hok5, hm5, hg5, -, hd5⟩
            have HG5 := hid hg5
            clear hg5
            have HD5 := hid (hd5.after HB4.out)
            cases ok with
            | false =>
             have h5 : c5 ≠ 0 := fun h => absurd (hok5.2 h) (by decide)
             have HX := hid (And.intro hok5 (And.intro hm5 (Goes.left HNeg.out HOpn.out HG5.out h5)))
             clear hd5 hok5 hm5 h5
             go_wp2
             go_ret
             exact ⟨false, c5, sv5, mn5, ps5, rfl, HX.out.1, HX.out.2.1, HX.out.2.2, (fun h => by cases h), HD5.out⟩
            | true =>
             obtain rfl : c5 = 0 := hok5.1 rfl
             obtain rfl : mn5 = false := hm5
             clear hok5
             have hM4 := (HRf.out.below HB4.out).type
             have hO5 : OwnInts 0 w5 (.slice (some ⟨mb, 0, none⟩) (k + 1) mc) (zs ++ [-(q : Int)]) := own_fr (HO4.out.mono (Nat.zero_le _)) hd5.fr hM4 (by decide) (by decide)
             have hmt5 : ∃ cs, w5.heap[mb]? = some (.cells cs 3 (0, 0)) := by
              obtain ⟨cs, hcs⟩ := HMt.out
              refine ⟨cs, (hd5.fr.blk mb hmb2 (fun e => ?_) (fun _ cs' fr' e => ?_)).trans hcs⟩
              · have := HMt.out
                omega
              · rw [hcs] at e
                injection e with e
                injection e with _ e _
                exact absurd e (by decide)
             obtain ⟨_, hc5⟩ := own_holds hO5
             obtain ⟨d5, f5⟩ := hc5 k (by omega)
             simp only [Nat.zero_add] at d5 f5
             have HD6 := hid (HD5.out.set (v := .int .i64 (q : Int)) (k := k) HRf.out (by omega) hmt5 (fun p hp e => by
              rcases hd5.new p hp with h1 | h1
              · have := (World.ownsRow.lt (HRf.out.steps.inner p h1) mb e).2
                omega
              · have := h1 mb e
                omega))
             have hO6 : OwnInts 0 (w5.setCell ⟨mb, k, none⟩ (.int .i64 (q : Int))) (.slice (some ⟨mb, 0, none⟩) (k + 1) mc) (zs ++ [(q : Int)]) := by
              have h9 := own_set (k := k) (z := (q : Int)) hO5 (by omega)
              rw [← HLz.out, set_last, HLz.out] at h9
              exact h9
             have hl1 := HLess.out (q : Int) (by omega)
             have HI2 := hid (HIh.out (zs ++ [(q : Int)]) mb (k + 1) mc _ sv5 ps5 (by have := HOp.out; omega) (by have := HLo.out; rw [List.length_append, List.length_singleton]; omega) HD6.out.rf hO6 (HLt2.out _ (by omega)) (Nat.le_trans hB HD6.out.fr.size))
             have hmb5 : mb < w5.heap.size := Nat.lt_of_lt_of_le hmb2 hd5.fr.size
             clear hl1 hd5 hO5 hO6 hc5 hmt5 hM4 HD5 HI1
             have hki : (k : Int) < (k : Int) + 1 := by omega
             go_wp2_with fail
             refine HI2.out.mono ?_
             rintro e w7 ⟨ok, c7, sv7, mn7, ps7, rfl, hok7, hm7, hg7, -, hd7⟩
             have HG7 := hid hg7
             clear hg7
             have HD7 := hid (HD6.out.trans hd7)
             clear hd7 HI2 HD6 d5 f5
             cases ok with
             | false =>
              have h7 : c7 ≠ 0 := fun h => absurd (hok7.2 h) (by decide)
              have HX := hid (And.intro hok7 (And.intro hm7 (Goes.right HNeg.out HOpn.out HG5.out HG7.out h7)))
              clear hok7 hm7 h7
              go_wp2
              go_ret
              exact ⟨false, c7, sv7, mn7, ps7, rfl, HX.out.1, HX.out.2.1, HX.out.2.2, (fun h => by cases h), HD7.out⟩
             | true =>
              obtain rfl : c7 = 0 := hok7.1 rfl
              obtain rfl : mn7 = false := hm7
              clear hok7
              have HGM : Hid (12 < zs.length ∨ ps7.length = 200 → Goes (psZ.map (·.2)) nv zs (cls ps) 2 (cls ps7)) := hid (fun h => Goes.bothM HNeg.out HOpn.out HG5.out HG7.out (by rw [cls_len]; exact h))
              have HGS : Hid (zs.length ≤ 12 → ps7.length < 200 → ∀ v, Goes (psZ.map (·.2)) nv zs (cls ps) 0 (cls (ps7 ++ [((false, v, negs zs k) : Pt)]))) := hid (fun h1 h2 v => by rw [cls_snoc HLz.out]; exact Goes.both HNeg.out HOpn.out HG5.out HG7.out h1 (by rw [cls_len]; exact h2))
              have HC7 := hid (own_fr HCh.out HD7.out.fr HRf.out.type (by decide) (by decide))
              obtain ⟨sa, sc, hsvt⟩ := steps_form HD7.out.rf.steps
              subst hsvt
              have HRow := hid HD7.out.rf.row
              have hMW := HD7.out.rf.row.lt
              have hBW : S ≤ w7.heap.size := Nat.le_trans hB HD7.out.fr.size
              have h200 := HD7.out.rf.few
              go_wp2
              go_loopw [12, 11] (fun i x wr => ∃ j : Nat, j ≤ k ∧ i = .int .i64 j ∧ OwnInts w7.heap.size wr x (negs zs j) ∧ Below w7.heap.size w7 wr) (fun i _ _ => k - (intOf i).toNat)
              case atStart => exact ⟨0, Nat.zero_le _, rfl, cnfDraw.own_new w7 rfl (Nat.le_refl _), (by repeat (first | exact Below.refl _ _ | assumption | refine Below.drew ?_ | refine Below.alloc ?_ (by first | exact Nat.le_refl _ | omega | (simp; done) | (simp; omega)) _ | refine Below.setCell ?_ (by first | exact Nat.le_refl _ | omega | (simp; done) | (simp; omega)) _))⟩
              case round =>
               rename_i x
               obtain ⟨j, hk, rfl, hox, hbel⟩ := hrel
               have HO := hid hox
               have HB := hid hbel
               have hnl : (negs zs j).length = j := negs_len (by rw [HLz.out]; exact hk)
               obtain ⟨xa, xc, hxe, -⟩ := hox.form
               rw [hnl] at hxe
               subst hxe
               have HNl := hid hnl
               have hszw := hbel.size
               clear hox hnl
               by_cases hlt : j < k
               · obtain ⟨_, hcc⟩ := own_holds HC7.out
                 have hc := keep hbel (hcc j hlt).1
                 have HNs := hid (negs_succ (zs := zs) (k := j) (by rw [HLz.out]; exact hlt))
                 have hzk := HLit.out (zs[j]?.getD 0) (by rw [List.getElem?_eq_getElem (by rw [HLz.out]; exact hlt)]; exact List.getElem_mem _)
                 have hzr := lit_range hzk
                 simp only [Nat.zero_add] at hc
                 clear hcc hzk hbel
                 generalize zs[j]?.getD 0 = z at *
                 obtain ⟨z0, z1⟩ := hzr
                 go_wp2_with (at_builtin; (refine wpList_append_own _ rfl _ _ 52 rfl w7.heap.size 3 i0 (.int .i64 0) 1 8 Tryz.underlying52 HI.out HZ0.out HZ1.out HZ2.out rfl (by decide) _ j _ rfl (by have h9 := World.ownsRow.alloc HO.out (.cells #[.int .i64 (-z)] 3); rw [HNl.out] at h9; exact h9) ⟨wr.heap.size, 0, none⟩ 1 1 [.int .i64 (-z)] rfl rfl (cell_one_new _ _ _) (fun x hx => by simp at hx; subst hx; rfl) (by unfold maxLen; omega) (by omega) (by simp; omega) ?_); intro v' w9 hown' hgrow9 hnil9)
                 have HO9 : Hid (OwnInts w7.heap.size w9 v' (negs zs (j + 1))) := hid (by
                  unfold OwnInts
                  rw [HNs.out, List.length_append, List.map_append, HNl.out]
                  exact hown')
                 have hba : Below w7.heap.size w7 (wr.alloc (.cells #[.int .i64 (-z)] 3)) := HB.out.alloc HB.out.size _
                 have HB9 : Hid (Below w7.heap.size w7 w9) := hid (hba.grown hgrow9 (by simp; omega) (fun j hj => (World.ownsRow.lt HO.out j hj).1))
                 clear hown' hgrow9 hnil9 hba
                 go_wp2
                 go_roundw
                 case rel => exact ⟨j + 1, by omega, by go_num, HO9.out, HB9.out⟩
                 case measure => simp [intOf]; omega
               · obtain rfl : j = k := by omega
                 have HDb := hid (HD7.out.below hbel)
                 have m2 : wr.cell? ⟨M, 2, none⟩ = some (.slice sa _ sc) := HDb.out.rf.row.cell (i := 2) (by omega)
                 have m3 : wr.cell? ⟨M, 3, none⟩ = some (.bool _) := HDb.out.rf.row.cell (i := 3) (by omega)
                 have f2 := HDb.out.rf.row.frozen 2
                 have f3 := HDb.out.rf.row.frozen 3
                 have hMr := HDb.out.rf.row.lt
                 clear hbel
                 by_cases h12 : 12 < j
                 · go_wp2
                   go_ret
                   exact ⟨false, 2, _, true, _, rfl, by simp, rfl, HGM.out (.inl (by rw [HLz.out]; exact h12)), (fun h => by cases h), HDb.out.flag true⟩
                 · have h12' : ¬ (12 : Int) < (j : Int) := by omega
                   by_cases h2 : ps7.length = 200
                   · have hq : ((ps7.length : Int) == 200) = true := by rw [h2]; rfl
                     have H2 := hid h2
                     clear h2
                     go_wp2
                     go_ret
                     exact ⟨false, 2, _, true, _, rfl, by simp, rfl, HGM.out (.inr H2.out), (fun h => by cases h), HDb.out.flag true⟩
                   · have hq : ((ps7.length : Int) == 200) = false := beq_eq_false_iff_ne.2 (by omega)
                     have HRight : Hid ((negs zs j).length ≤ 12 ∧ ∀ z ∈ negs zs j, cnf.litB (nv : Int) z = true) := hid ⟨by rw [HNl.out]; omega, negs_lit HLit.out j⟩
                     go_wp2_with (
                       at_builtin
                       (refine wpList_append_own _ rfl _ _ 28 rfl S 79 j0 _ 2 32 Tryz.underlying28 HJ.out HJ0.out HJ1.out HJ2.out rfl (by decide) _ _ _ rfl (readSpecP.pass_own HDb.out.rf.steps.outer (by repeat (first | exact Below.refl _ _ | assumption | refine Below.drew ?_ | refine Below.alloc ?_ (by first | exact Nat.le_refl _ | omega | (simp; done) | (simp; omega)) _ | refine Below.setCell ?_ (by first | exact Nat.le_refl _ | omega | (simp; done) | (simp; omega)) _))) ⟨_, 0, none⟩ 1 1 [.bool false, .slice xa j xc] rfl rfl (readSpecP.two_at (by simp [go_sem]) (by simp [go_sem])) (fun u hu => by simp at hu; rcases hu with rfl | rfl <;> rfl) (by unfold maxLen; omega) (by omega) (by simp; omega) ?_)
                       intro v9 w9 hown9 hg9 hnil9
                       have hba : Below wr.heap.size wr (wr.alloc (.cells #[.bool false, .slice xa j xc] 79)) := (by repeat (first | exact Below.refl _ _ | assumption | refine Below.drew ?_ | refine Below.alloc ?_ (by first | exact Nat.le_refl _ | omega | (simp; done) | (simp; omega)) _ | refine Below.setCell ?_ (by first | exact Nat.le_refl _ | omega | (simp; done) | (simp; omega)) _))
                       have HFin := hid (HD7.out.step (HB.out.trans (hba.mono hszw)) hBW (HO.out.below hba) hown9 hg9 HRight.out (by omega))
                       have hM9 : w9.cell? ⟨M, 2, none⟩ = some (.slice sa ps7.length sc) ∧ w9.frozen? ⟨M, 2, none⟩ = false ∧ M < w9.heap.size := by
                        have hne : some M ≠ (Value.slice sa ps7.length sc).ownBlock := fun e => by
                         obtain ⟨csM, hM1⟩ := HDb.out.rf.type
                         rcases HDb.out.rf.steps.outer.2 with ⟨e1, _⟩ | ⟨g', cap', cur, e1, _, hh, _⟩
                         · rw [e1] at e; cases e
                         · rw [e1] at e
                           have e' : some M = some g' := e
                           injection e' with e'
                           subst e'
                           rw [hM1] at hh
                           injection hh with hh
                           injection hh with _ hh _
                           exact absurd hh (by decide)
                        have hz9 := hg9.size
                        have hbl : w9.heap[M]? = wr.heap[M]? := (hg9.block M (by simp; omega) hne).trans (hba.block M hMr)
                        exact ⟨by rw [World.cell?_of_block (a := ⟨M, 2, none⟩) hbl]; exact m2, by rw [World.frozen?_of_block (a := ⟨M, 2, none⟩) hbl]; exact f2, by simp at hz9; omega⟩
                       obtain ⟨n2, n3, n4⟩ := hM9
                       obtain ⟨sa9, sc9, hv9⟩ := steps_form HFin.out.rf.steps
                       simp only [List.length_append, List.length_cons, List.length_nil, Nat.zero_add] at hv9
                       subst hv9
                       clear hown9 hg9 hba)
                     go_wp2
                     go_ret
                     exact ⟨true, 0, _, _, _, rfl, by simp, rfl, HGS.out (by have := HLz.out; omega) (by omega) _, (fun _ => by simp), HFin.out⟩
          · have hvq : (RV q == 0) = false := beq_eq_false_iff_ne.2 hv0
            have hvq' : (RV q != 0) = true := by simp [hv0]
            go_wp2
            go_round
            case rel =>
             refine ⟨q + 1, by omega, by omega, by go_num, fun i h1 h2 => ?_⟩
             rcases Nat.lt_succ_iff_lt_or_eq.1 h2 with h2 | rfl
             · exact HAll.out i h1 h2
             · exact hv0
            case measure => simp [intOf]; omega
        · have e : q = nv + 1 := by omega
          have hqi : ¬ (q : Int) ≤ (nv : Int) := by omega
          have hqj : (nv : Int) < (q : Int) := by omega
          have HD2 := hid ((Did.refl HRf.out).below HB2.out)
          have HX : Hid (Goes (psZ.map (·.2)) nv zs (cls ps) 1 (cls ps)) := hid (Goes.model HNeg.out (fun i h1 h2 => by rw [HVa.out]; exact HAll.out i h1 (by omega)))
          clear e
          go_wp2
          go_ret
          exact ⟨false, 1, _, _, _, rfl, by simp, rfl, HX.out, (fun h => by cases h), HD2.out⟩
     · have HD2 := hid ((Did.refl HRf.out).below HB2.out)
       have hat0 : 0 ≤ atF (psZ.map (·.2)) nv zs := by rw [HAt.out]; show 0 ≤ Ra; omega
       have HGM : Hid (12 < zs.length ∨ ps.length = 200 → Goes (psZ.map (·.2)) nv zs (cls ps) 2 (cls ps)) := hid (fun h => Goes.shutM hat0 (by rw [cls_len]; exact h))
       have HGS : Hid (zs.length ≤ 12 → ps.length < 200 → ∀ v, Goes (psZ.map (·.2)) nv zs (cls ps) 0 (cls (ps ++ [((false, v, negs zs k) : Pt)]))) := hid (fun h1 h2 v => by rw [cls_snoc HLz.out]; exact Goes.shut hat0 h1 (by rw [cls_len]; exact h2))
       clear hat0
       obtain ⟨sa, sc, hsvt⟩ := steps_form HD2.out.rf.steps
       subst hsvt
       have HRow := hid HD2.out.rf.row
       have hMW := HD2.out.rf.row.lt
       have hBW : S ≤ w2.heap.size := Nat.le_trans hB HD2.out.fr.size
       have h200 := HD2.out.rf.few
       go_wp2
       go_loopw [12, 11] (fun i x wr => ∃ j : Nat, j ≤ k ∧ i = .int .i64 j ∧ OwnInts w2.heap.size wr x (negs zs j) ∧ Below w2.heap.size w2 wr) (fun i _ _ => k - (intOf i).toNat)
       case atStart => exact ⟨0, Nat.zero_le _, rfl, cnfDraw.own_new w2 rfl (Nat.le_refl _), (by repeat (first | exact Below.refl _ _ | assumption | refine Below.drew ?_ | refine Below.alloc ?_ (by first | exact Nat.le_refl _ | omega | (simp; done) | (simp; omega)) _ | refine Below.setCell ?_ (by first | exact Nat.le_refl _ | omega | (simp; done) | (simp; omega)) _))⟩
       case round =>
        rename_i x
        obtain ⟨j, hk, rfl, hox, hbel⟩ := hrel
        have HO := hid hox
        have HB := hid hbel
        have hnl : (negs zs j).length = j := negs_len (by rw [HLz.out]; exact hk)
        obtain ⟨xa, xc, hxe, -⟩ := hox.form
        rw [hnl] at hxe
        subst hxe
        have HNl := hid hnl
        have hszw := hbel.size
        clear hox hnl
        by_cases hlt : j < k
        · obtain ⟨_, hcc⟩ := own_holds HCh2.out
          have hc := keep hbel (hcc j hlt).1
          have HNs := hid (negs_succ (zs := zs) (k := j) (by rw [HLz.out]; exact hlt))
          have hzk := HLit.out (zs[j]?.getD 0) (by rw [List.getElem?_eq_getElem (by rw [HLz.out]; exact hlt)]; exact List.getElem_mem _)
          have hzr := lit_range hzk
          simp only [Nat.zero_add] at hc
          clear hcc hzk hbel
          generalize zs[j]?.getD 0 = z at *
          obtain ⟨z0, z1⟩ := hzr
          go_wp2_with (at_builtin; (refine wpList_append_own _ rfl _ _ 52 rfl w2.heap.size 3 i0 (.int .i64 0) 1 8 Tryz.underlying52 HI.out HZ0.out HZ1.out HZ2.out rfl (by decide) _ j _ rfl (by have h9 := World.ownsRow.alloc HO.out (.cells #[.int .i64 (-z)] 3); rw [HNl.out] at h9; exact h9) ⟨wr.heap.size, 0, none⟩ 1 1 [.int .i64 (-z)] rfl rfl (cell_one_new _ _ _) (fun x hx => by simp at hx; subst hx; rfl) (by unfold maxLen; omega) (by omega) (by simp; omega) ?_); intro v' w9 hown' hgrow9 hnil9)
          have HO9 : Hid (OwnInts w2.heap.size w9 v' (negs zs (j + 1))) := hid (by
           unfold OwnInts
           rw [HNs.out, List.length_append, List.map_append, HNl.out]
           exact hown')
          have hba : Below w2.heap.size w2 (wr.alloc (.cells #[.int .i64 (-z)] 3)) := HB.out.alloc HB.out.size _
          have HB9 : Hid (Below w2.heap.size w2 w9) := hid (hba.grown hgrow9 (by simp; omega) (fun j hj => (World.ownsRow.lt HO.out j hj).1))
          clear hown' hgrow9 hnil9 hba
          go_wp2
          go_roundw
          case rel => exact ⟨j + 1, by omega, by go_num, HO9.out, HB9.out⟩
          case measure => simp [intOf]; omega
        · obtain rfl : j = k := by omega
          have HDb := hid (HD2.out.below hbel)
          have m2 : wr.cell? ⟨M, 2, none⟩ = some (.slice sa _ sc) := HDb.out.rf.row.cell (i := 2) (by omega)
          have m3 : wr.cell? ⟨M, 3, none⟩ = some (.bool _) := HDb.out.rf.row.cell (i := 3) (by omega)
          have f2 := HDb.out.rf.row.frozen 2
          have f3 := HDb.out.rf.row.frozen 3
          have hMr := HDb.out.rf.row.lt
          clear hbel
          by_cases h12 : 12 < j
          · go_wp2
            go_ret
            exact ⟨false, 2, _, true, _, rfl, by simp, rfl, HGM.out (.inl (by rw [HLz.out]; exact h12)), (fun h => by cases h), HDb.out.flag true⟩
          · have h12' : ¬ (12 : Int) < (j : Int) := by omega
            by_cases h2 : ps.length = 200
            · have hq : ((ps.length : Int) == 200) = true := by rw [h2]; rfl
              have H2 := hid h2
              clear h2
              go_wp2
              go_ret
              exact ⟨false, 2, _, true, _, rfl, by simp, rfl, HGM.out (.inr H2.out), (fun h => by cases h), HDb.out.flag true⟩
            · have hq : ((ps.length : Int) == 200) = false := beq_eq_false_iff_ne.2 (by omega)
              have HRight : Hid ((negs zs j).length ≤ 12 ∧ ∀ z ∈ negs zs j, cnf.litB (nv : Int) z = true) := hid ⟨by rw [HNl.out]; omega, negs_lit HLit.out j⟩
              go_wp2_with (
                at_builtin
                (refine wpList_append_own _ rfl _ _ 28 rfl S 79 j0 _ 2 32 Tryz.underlying28 HJ.out HJ0.out HJ1.out HJ2.out rfl (by decide) _ _ _ rfl (readSpecP.pass_own HDb.out.rf.steps.outer (by repeat (first | exact Below.refl _ _ | assumption | refine Below.drew ?_ | refine Below.alloc ?_ (by first | exact Nat.le_refl _ | omega | (simp; done) | (simp; omega)) _ | refine Below.setCell ?_ (by first | exact Nat.le_refl _ | omega | (simp; done) | (simp; omega)) _))) ⟨_, 0, none⟩ 1 1 [.bool false, .slice xa j xc] rfl rfl (readSpecP.two_at (by simp [go_sem]) (by simp [go_sem])) (fun u hu => by simp at hu; rcases hu with rfl | rfl <;> rfl) (by unfold maxLen; omega) (by omega) (by simp; omega) ?_)
                intro v9 w9 hown9 hg9 hnil9
                have hba : Below wr.heap.size wr (wr.alloc (.cells #[.bool false, .slice xa j xc] 79)) := (by repeat (first | exact Below.refl _ _ | assumption | refine Below.drew ?_ | refine Below.alloc ?_ (by first | exact Nat.le_refl _ | omega | (simp; done) | (simp; omega)) _ | refine Below.setCell ?_ (by first | exact Nat.le_refl _ | omega | (simp; done) | (simp; omega)) _))
                have HFin := hid (HD2.out.step (HB.out.trans (hba.mono hszw)) hBW (HO.out.below hba) hown9 hg9 HRight.out (by omega))
                have hM9 : w9.cell? ⟨M, 2, none⟩ = some (.slice sa ps.length sc) ∧ w9.frozen? ⟨M, 2, none⟩ = false ∧ M < w9.heap.size := by
                 have hne : some M ≠ (Value.slice sa ps.length sc).ownBlock := fun e => by
                  obtain ⟨csM, hM1⟩ := HDb.out.rf.type
                  rcases HDb.out.rf.steps.outer.2 with ⟨e1, _⟩ | ⟨g', cap', cur, e1, _, hh, _⟩
                  · rw [e1] at e; cases e
                  · rw [e1] at e
                    have e' : some M = some g' := e
                    injection e' with e'
                    subst e'
                    rw [hM1] at hh
                    injection hh with hh
                    injection hh with _ hh _
                    exact absurd hh (by decide)
                 have hz9 := hg9.size
                 have hbl : w9.heap[M]? = wr.heap[M]? := (hg9.block M (by simp; omega) hne).trans (hba.block M hMr)
                 exact ⟨by rw [World.cell?_of_block (a := ⟨M, 2, none⟩) hbl]; exact m2, by rw [World.frozen?_of_block (a := ⟨M, 2, none⟩) hbl]; exact f2, by simp at hz9; omega⟩
                obtain ⟨n2, n3, n4⟩ := hM9
                obtain ⟨sa9, sc9, hv9⟩ := steps_form HFin.out.rf.steps
                simp only [List.length_append, List.length_cons, List.length_nil, Nat.zero_add] at hv9
                subst hv9
                clear hown9 hg9 hba)
              go_wp2
              go_ret
              exact ⟨true, 0, _, _, _, rfl, by simp, rfl, HGS.out (by have := HLz.out; omega) (by omega) _, (fun _ => by simp), HFin.out⟩
end Go.Proofs.YtmkhoocokpkojaaGreatDoor.refImpl
