/- RRows; RRMark: one text, so that the claim has fewer files. -/
import Derived.Test.YtoaeieehbplggaaGreatCandSem
import Derived.Test.YtoaeieehbplggaaGreatIntsOwn
import Derived.Test.YtoaeieehbplggaaGreatNoTwo
import Derived.Test.YtoaeieehbplggaaGreatRtsHeld
import Derived.Test.YtoaeieehbplggaaGreatChoAll
import Derived.Deep.RegionHeld3
/- Rows of rows of routes that a call makes for itself, no two in one block; conditions: none. -/
namespace Go.Proofs.YtoaeieehbplggaaGreat.rRows
open Go.RowKit Go.Deep Go base copy netSem routeRow candSem intsOwn
set_option linter.unusedVariables false

theorem own_apart {B B' n m k s s' : Nat} {t t' : TypeId} {w : World} {v x : Value} {xs ys : List Value} (hne : t ≠ t') (h : w.ownsRow B t s v n xs) (hx : w.ownsRow B' t' s' x m ys) (hv : v.ownBlock = some k) (hxk : x.ownBlock = some k) : False := by
  rcases h.2 with ⟨rfl, _⟩ | ⟨g, cap, cur, rfl, _, hh, _⟩
  · cases hv
  · rcases hx.2 with ⟨rfl, _⟩ | ⟨g', cap', cur', rfl, _, hh', _⟩
    · cases hxk
    · have e1 : some g = some k := hv
      have e2 : some g' = some k := hxk
      injection e1 with e1
      injection e2 with e2
      rw [e1] at hh
      rw [e2, hh] at hh'
      injection hh' with hh'
      injection hh' with _ ht
      exact hne ht
/-- What a slice owns stays, where another row that holds other things has grown. -/
theorem own_kept {B B' n m s s' : Nat} {t t' : TypeId} {w w' : World} {v x : Value} {xs ys : List Value} (hne : t ≠ t') (h : w.ownsRow B t s v n xs) (hx : w.ownsRow B' t' s' x m ys) (hg : w.grownBy w' x.ownBlock) : w'.ownsRow B t s v n xs := by
  refine World.ownsRow.kept h hg ?_
  rcases h.2 with ⟨rfl, _⟩ | ⟨g, cap, cur, rfl, _⟩
  · exact .inl rfl
  · exact .inr fun e => own_apart hne h hx rfl e.symm

/-- A row of routes is told by its block, its capacity and its routes. -/
def rvR (p : (Nat × Nat) × List Rt) : Value := .slice (some ⟨p.1.1, 0, none⟩) p.2.length p.1.2
structure OwnRR (B : Nat) (w : World) (v : Value) (ps : List ((Nat × Nat) × List Rt)) : Prop where
  outer : w.ownsRow B 63 1 v ps.length (ps.map rvR)
  inner : ∀ p ∈ ps, OwnRts B w (rvR p) p.2
  lone : ps.Pairwise fun p q => p.1.1 ≠ q.1.1
theorem OwnRR.below {B : Nat} {w w1 : World} {v : Value} {ps : List ((Nat × Nat) × List Rt)} (h : OwnRR B w v ps) (hb : Below w.heap.size w w1) : OwnRR B w1 v ps := ⟨own_pass h.outer hb, fun p hp => own_pass (h.inner p hp) hb, h.lone⟩
theorem OwnRR.mono {B B' : Nat} {w : World} {v : Value} {ps : List ((Nat × Nat) × List Rt)} (h : OwnRR B w v ps) (hb : B' ≤ B) : OwnRR B' w v ps := by
  refine ⟨⟨h.outer.1, ?_⟩, fun p hp => (h.inner p hp).mono hb, h.lone⟩
  rcases h.outer.2 with h2 | ⟨g, cap, cur, e, hg, rest⟩
  · exact .inl h2
  · exact .inr ⟨g, cap, cur, e, Nat.le_trans hb hg, rest⟩
theorem OwnRR.form {B : Nat} {w : World} {v : Value} {ps : List ((Nat × Nat) × List Rt)} (h : OwnRR B w v ps) : ∃ a cap, v = .slice a ps.length cap := by
  rcases h.outer.2 with ⟨rfl, hn⟩ | ⟨g, cap, cur, rfl, _⟩
  · exact ⟨none, 0, by rw [hn]⟩
  · exact ⟨_, cap, rfl⟩
theorem OwnRR.add {B : Nat} {w w' : World} {v v' : Value} {ps : List ((Nat × Nat) × List Rt)} {q : (Nat × Nat) × List Rt} (h : OwnRR B w v ps) (hq : OwnRts B w (rvR q) q.2) (hn : ∀ p ∈ ps, p.1.1 ≠ q.1.1) (ho : w'.ownsRow B 63 1 v' (ps.length + 1) (ps.map rvR ++ [rvR q])) (hg : w.grownBy w' v.ownBlock) : OwnRR B w' v' (ps ++ [q]) := by
  refine ⟨by rw [List.length_append, List.map_append]; exact ho, fun p hp => ?_, ?_⟩
  · have hp' : OwnRts B w (rvR p) p.2 := by
      rcases List.mem_append.1 hp with hp | hp
      · exact h.inner p hp
      · rw [List.mem_singleton] at hp
        rw [hp]; exact hq
    exact own_kept (by decide) hp' h.outer hg
  · refine List.pairwise_append.2 ⟨h.lone, List.pairwise_singleton _ _, fun a ha b hb => ?_⟩
    rw [List.mem_singleton] at hb
    rw [hb]; exact hn a ha
theorem OwnRR.lt {B : Nat} {w : World} {v : Value} {ps : List ((Nat × Nat) × List Rt)} (h : OwnRR B w v ps) : ∀ p ∈ ps, p.1.1 < w.heap.size := fun p hp => (World.ownsRow.lt (h.inner p hp) p.1.1 rfl).2
theorem rr_empty (B N : Nat) (w : World) (hB : B ≤ w.heap.size) (hN : w.heap.size = N) : OwnRR B (w.alloc (.cells #[] 63)) (.slice (some ⟨N, 0, none⟩) 0 0) [] := by
  subst hN
  exact ⟨⟨rfl, .inr ⟨w.heap.size, 0, #[], rfl, hB, heap_alloc_new w _, Nat.le_refl _, Nat.zero_le _, rfl, rfl⟩⟩, fun p hp => (by cases hp), List.Pairwise.nil⟩
theorem rts_some {B : Nat} {w : World} {v : Value} {zs : List Rt} (h : OwnRts B w v zs) (hz : 0 < zs.length) : ∃ g cap, v = rvR ((g, cap), zs) := by
  rcases h.2 with ⟨_, hn⟩ | ⟨g, cap, cur, rfl, _⟩
  · omega
  · exact ⟨g, cap, rfl⟩
theorem info_rr : (Tryz.prog.info? 63).map (fun i => (i.zero, i.size, i.bytes)) = some (some (.slice none 0 0), 1, 24) := by kernel_rfl
end Go.Proofs.YtoaeieehbplggaaGreat.rRows

/- Rows of rows of routes: that they are alike, their marks, and that they are held; of the laws; conditions: lengths that fit. -/
namespace Go.Proofs.YtoaeieehbplggaaGreat.rrMark
open Go.RowKit Go.Deep Go base copy netSem routeRow candSem intsOwn rtsRow rtsHeld rRows drawnLin
set_option linter.unusedVariables false

theorem add_at (g off j : Nat) : (⟨g, off, none⟩ : Addr).add j = ⟨g, off + j, none⟩ := by
  by_cases h : j = 0 <;> simp [Addr.add, h]
/-- The row's cells can be read, wherever they lie. -/
structure RRRow (w : World) (a : Option Addr) (n : Nat) (ps : List ((Nat × Nat) × List Rt)) : Prop where
  len : ps.length = n
  cell : ∀ k q, ps[k]? = some q → ∃ g, a = some ⟨g, 0, none⟩ ∧ w.cell? ⟨g, k, none⟩ = some (rvR q)
theorem RRRow.below {w w1 : World} {a : Option Addr} {n : Nat} {ps : List ((Nat × Nat) × List Rt)} (h : RRRow w a n ps) (hb : Below w.heap.size w w1) : RRRow w1 a n ps :=
  ⟨h.len, fun k q hq => by obtain ⟨g, e, hc⟩ := h.cell k q hq; exact ⟨g, e, keep hb hc⟩⟩
theorem rr_row {B n c : Nat} {w : World} {a : Option Addr} {ps : List ((Nat × Nat) × List Rt)} (h : OwnRR B w (.slice a n c) ps) : RRRow w a n ps := by
  have hl : ps.length = n := by
    obtain ⟨a', c', e⟩ := h.form
    injection e with _ e _
    exact e.symm
  refine ⟨hl, fun k q hk => ?_⟩
  have hlt : k < ps.length := (List.getElem?_eq_some_iff.1 hk).1
  rcases h.outer.2 with ⟨e, hn⟩ | ⟨g, cap', cur, e, hB, hh, _⟩
  · omega
  · injection e with e1 e2 e3
    refine ⟨g, e1, ?_⟩
    have hc := World.ownsRow.cells h.outer (g := g) (by rw [e1]; rfl) k (rvR q) (by rw [List.getElem?_map, hk]; rfl)
    rw [add_at, Nat.zero_add] at hc
    exact hc
set_option maxHeartbeats 1600000 in
theorem eq_rr {B B' n c c' : Nat} {a a' : Option Addr} {ps ps' : List ((Nat × Nat) × List Rt)} {w : World} (h : OwnRR B w (.slice a n c) ps) (h' : OwnRR B' w (.slice a' n c') ps') (hs : ps.map Prod.snd = ps'.map Prod.snd) (hn : n ≤ 1048576) :
    Calls Tryz.prog 10 #[.slice a n c, .slice a' n c'] w fun e w' => e = .returned (.bool true) ∧ Below w.heap.size w w' := by
  have HR := hid (rr_row h)
  have HR' := hid (rr_row h')
  have HI := hid h.inner
  have HI' := hid h'.inner
  have HS := hid hs
  clear h h' hs
  have hb : ((n : Int) != (n : Int)) = false := by simp
  go_enter Tryz.func10, Tryz.ntmps10
  go_wp2
  go_loopw [5] (fun i wr => ∃ k : Nat, k ≤ n ∧ i = .int .i64 k ∧ Below w.heap.size w wr) (fun i _ => n - (intOf i).toNat)
  case atStart => exact ⟨0, Nat.zero_le _, rfl, Below.refl _ _⟩
  case round =>
    obtain ⟨k, hk, rfl, hbel⟩ := hrel
    have HB := hid hbel
    by_cases hlt : k < n
    · obtain ⟨q, hq⟩ : ∃ q, ps[k]? = some q := ⟨_, List.getElem?_eq_getElem (by rw [HR.out.len]; exact hlt)⟩
      obtain ⟨q', hq'⟩ : ∃ q', ps'[k]? = some q' := ⟨_, List.getElem?_eq_getElem (by rw [HR'.out.len]; exact hlt)⟩
      have hqq : q'.2 = q.2 := by
        have h1 : (ps.map Prod.snd)[k]? = (ps'.map Prod.snd)[k]? := by rw [HS.out]
        rw [List.getElem?_map, List.getElem?_map, hq, hq'] at h1
        injection h1 with h1
        exact h1.symm
      obtain ⟨og, ea, hc⟩ := HR.out.cell k q hq
      obtain ⟨og', ea', hc'⟩ := HR'.out.cell k q' hq'
      subst ea
      subst ea'
      have hi := HI.out q (List.mem_of_getElem? hq)
      have hi' := HI'.out q' (List.mem_of_getElem? hq')
      unfold rvR at hc hc' hi hi'
      rw [hqq] at hc' hi'
      have HX := hid (rts_row hi)
      have HX' := hid (rts_row hi')
      have HK : Hid (∀ w8 : World, Below wr.heap.size wr w8 → w8.cell? ⟨og, k, none⟩ = some (.slice (some ⟨q.1.1, 0, none⟩) q.2.length q.1.2) ∧ w8.cell? ⟨og', k, none⟩ = some (.slice (some ⟨q'.1.1, 0, none⟩) q.2.length q'.1.2) ∧ Below wr.heap.size wr w8) :=
        hid (fun w8 h8 => ⟨keep h8 (keep hbel hc), keep h8 (keep hbel hc'), h8⟩)
      obtain ⟨y0, y1, _⟩ := HK.out wr (Below.refl _ _)
      have hki : (k : Int) < (n : Int) := by omega
      have hk0 : (0 : Int) ≤ (k : Int) := by omega
      clear hbel hc hc' hi hi' hq hq' hqq
      go_wp2_with fail
      go_region_held3 (fun w8 => w8.cell? ⟨og, k, none⟩ = some (.slice (some ⟨q.1.1, 0, none⟩) q.2.length q.1.2) ∧ w8.cell? ⟨og', k, none⟩ = some (.slice (some ⟨q'.1.1, 0, none⟩) q.2.length q'.1.2) ∧ Below wr.heap.size wr w8)
        (refine HK.out _ (by first | assumption | exact (Below.refl _ wr).drew | exact hb57))
        ((go_at_call 34; refine (eqRouteS _ _ q.2.length q.1.2 q'.1.2 (rF q.2) _ (HX.out.below (HB.out.trans ((Below.refl _ wr).drew.mono HB.out.size))) (HX'.out.below (HB.out.trans ((Below.refl _ wr).drew.mono HB.out.size)))).mono ?_; rintro e w7 ⟨rfl, hb7⟩; have hb57 : Below wr.heap.size wr w7 := ((Below.refl _ wr).drew).trans hb7; clear hb7))
      all_goals
        have HB5 := hid hb57
        clear hb57
        go_wp2
        go_roundw
        case rel => exact ⟨k + 1, by omega, by go_num, HB.out.trans (HB5.out.mono HB.out.size)⟩
        case measure => simp [intOf]; omega
    · have e : k = n := by omega
      subst e
      go_wp2
      go_ret
      exact ⟨rfl, HB.out⟩
/-- Every row holds the marks of a count. -/
structure Marked (w : World) (a : Option Addr) (n L : Nat) (m : Int) (ps : List ((Nat × Nat) × List Rt)) : Prop where
  row : RRRow w a n ps
  size : ∀ p ∈ ps, p.2.length = L
  mark : ∀ k q, ps[k]? = some q → RtRow w (some ⟨q.1.1, 0, none⟩) L (markR (m + 4 * ((L * k : Nat) : Int)))
theorem Marked.below {w w1 : World} {a : Option Addr} {n L : Nat} {m : Int} {ps : List ((Nat × Nat) × List Rt)} (h : Marked w a n L m ps) (hb : Below w.heap.size w w1) : Marked w1 a n L m ps :=
  ⟨h.row.below hb, h.size, fun k q hq => (h.mark k q hq).below hb⟩
set_option maxHeartbeats 1600000 in
theorem held_rr {n c L : Nat} {a : Option Addr} {m : Int} {ps : List ((Nat × Nat) × List Rt)} {w : World} (h : Marked w a n L m ps) (hm0 : 0 ≤ m) (hm : m ≤ 2097) (hL : L ≤ 4) (hn : n ≤ 2401) :
    Calls Tryz.prog 18 #[.slice a n c, .int .i64 m] w fun e w' => e = .returned (.int .i64 (m + 4 * ((L * n : Nat) : Int))) ∧ w' = w := by
  have HM := hid h
  have HR := hid h.row
  clear h
  go_enter Tryz.func18, Tryz.ntmps18
  go_wp2
  go_loopw [5, 1] (fun i t wr => ∃ k : Nat, k ≤ n ∧ i = .int .i64 k ∧ t = .int .i64 (m + 4 * ((L * k : Nat) : Int)) ∧ wr = w) (fun i _ _ => n - (intOf i).toNat)
  case atStart => exact ⟨0, Nat.zero_le _, rfl, by simp, rfl⟩
  case round =>
    obtain ⟨k, hk, rfl, rfl, rfl⟩ := hrel
    by_cases hlt : k < n
    · obtain ⟨q, hq⟩ : ∃ q, ps[k]? = some q := ⟨_, List.getElem?_eq_getElem (by rw [HR.out.len]; exact hlt)⟩
      obtain ⟨og, ea, hc⟩ := HR.out.cell k q hq
      subst ea
      have HX := hid (HM.out.mark k q hq)
      have hl := HM.out.size q (List.mem_of_getElem? hq)
      unfold rvR at hc
      rw [hl] at hc
      have hLk : L * k ≤ 4 * 2401 := Nat.mul_le_mul hL (by omega)
      have HLs : Hid (L * (k + 1) = L * k + L) := hid (Nat.mul_succ L k)
      obtain ⟨y, hy⟩ : ∃ y, L * k = y := ⟨_, rfl⟩
      have HY := hid hy
      rw [hy] at HX HLs hLk ⊢
      clear hy hq hl
      have g1 : decide (m + 4 * (y : Int) + 4 * (L : Int) < 0) = false := decide_eq_false (by omega)
      go_wp2_with fail
      refine (held_rts _ L q.1.2 (m + 4 * (y : Int)) _ HX.out (by omega) (by omega) (by omega)).mono ?_
      rintro e w7 ⟨rfl, hw7⟩
      have hw7 := hw7.symm
      subst hw7
      go_wp2
      go_roundw
      case rel => exact ⟨k + 1, by omega, by go_num, by rw [HLs.out]; congr 1; omega, by first | rfl | trivial⟩
      case measure => simp [intOf]; omega
    · have e : k = n := by omega
      subst e
      go_wp2
      go_ret
      exact ⟨rfl, rfl⟩
set_option maxHeartbeats 3200000 in
theorem mark_rr {B n c L : Nat} {a : Option Addr} {m : Int} {ps : List ((Nat × Nat) × List Rt)} {w : World} (h : OwnRR B w (.slice a n c) ps) (hs : ∀ p ∈ ps, p.2.length = L) (hm0 : 0 ≤ m) (hm : m ≤ 2097) (hL : L ≤ 4) (hn : n ≤ 2401) :
    Calls Tryz.prog 17 #[.slice a n c, .int .i64 m] w fun e w' => e = .returned (.int .i64 (m + 4 * ((L * n : Nat) : Int))) ∧ Marked w' a n L m ps ∧ Chg (fun b => ∃ p ∈ ps, p.1.1 = b) w w' := by
  have HO := hid h
  have HR := hid (rr_row h)
  have HI := hid h.inner
  have HLo := hid h.lone
  have HSz := hid hs
  have HAp : Hid (∀ g, a = some ⟨g, 0, none⟩ → ∀ p ∈ ps, p.1.1 ≠ g) := hid (fun g ha p hp e => own_apart (k := g) (by decide) (h.inner p hp) h.outer (by unfold rvR; rw [← e]; rfl) (by rw [ha]; rfl))
  clear h hs
  go_enter Tryz.func17, Tryz.ntmps17
  go_wp2
  go_loopw [5, 1] (fun i t wr => ∃ k : Nat, k ≤ n ∧ i = .int .i64 k ∧ t = .int .i64 (m + 4 * ((L * k : Nat) : Int)) ∧ RRRow wr a n ps ∧ (∀ j q, ps[j]? = some q → j < k → RtRow wr (some ⟨q.1.1, 0, none⟩) L (markR (m + 4 * ((L * j : Nat) : Int)))) ∧ (∀ j q, ps[j]? = some q → k ≤ j → OwnRts B wr (rvR q) q.2) ∧ Chg (fun b => ∃ p ∈ ps, p.1.1 = b) w wr) (fun i _ _ => n - (intOf i).toNat)
  case atStart => exact ⟨0, Nat.zero_le _, rfl, by simp, HR.out, fun j q _ h => absurd h (Nat.not_lt_zero _), fun j q hq _ => HI.out q (List.mem_of_getElem? hq), Chg.refl _ _⟩
  case round =>
    obtain ⟨k, hk, rfl, rfl, hrow, hdone, hopen, hchg⟩ := hrel
    have HRw := hid hrow
    have HDn := hid hdone
    have HOp := hid hopen
    have HCh := hid hchg
    clear hrow hdone hopen hchg
    by_cases hlt : k < n
    · obtain ⟨q, hq⟩ : ∃ q, ps[k]? = some q := ⟨_, List.getElem?_eq_getElem (by rw [HR.out.len]; exact hlt)⟩
      have HQ := hid hq
      obtain ⟨og, ea, hc⟩ := HRw.out.cell k q hq
      have HA2 := hid (HAp.out og ea)
      subst ea
      have hl := HSz.out q (List.mem_of_getElem? hq)
      have HOq : Hid (OwnRts B wr (.slice (some ⟨q.1.1, 0, none⟩) L q.1.2) q.2) := hid (by have := HOp.out k q hq (Nat.le_refl _); unfold rvR at this; rw [hl] at this; exact this)
      have HLq := hid hl
      unfold rvR at hc
      rw [hl] at hc
      have hLk : L * k ≤ 4 * 2401 := Nat.mul_le_mul hL (by omega)
      have HLs : Hid (L * (k + 1) = L * k + L) := hid (Nat.mul_succ L k)
      obtain ⟨y, hy⟩ : ∃ y, L * k = y := ⟨_, rfl⟩
      have HY := hid hy
      rw [hy] at HLs hLk ⊢
      clear hy hq hl
      go_wp2_with fail
      refine (mark_own B _ q.2 (m + 4 * (y : Int)) _ HOq.out (by omega) (by omega) (by rw [HLq.out]; omega)).mono ?_
      rintro e w7 ⟨rfl, hg7, am, cm, hv7, hr7⟩
      rw [HLq.out] at hv7 hr7 ⊢
      injection hv7 with hv7 _ _
      subst hv7
      have hg7 : wr.grownBy w7 (some q.1.1) := hg7
      have HG := hid hg7
      have HR7 := hid hr7
      clear hg7 hr7
      go_wp2
      go_roundw
      case rel =>
        have other : ∀ j q', ps[j]? = some q' → j ≠ k → q'.1.1 ≠ q.1.1 := fun j q' hj hne => by
          obtain ⟨h1, e1⟩ := List.getElem?_eq_some_iff.1 hj
          obtain ⟨h2, e2⟩ := List.getElem?_eq_some_iff.1 HQ.out
          have hpw := List.pairwise_iff_getElem.1 HLo.out
          rcases Nat.lt_or_gt_of_ne hne with h | h
          · have := hpw j k h1 h2 h
            rw [e1, e2] at this
            exact this
          · have := hpw k j h2 h1 h
            rw [e1, e2] at this
            exact Ne.symm this
        refine ⟨k + 1, by omega, by go_num, by rw [HLs.out]; congr 1; omega, ⟨HRw.out.len, fun j q' hj => ?_⟩, fun j q' hj hjk => ?_, fun j q' hj hjk => ?_, ?_⟩
        · obtain ⟨g', e', hc'⟩ := HRw.out.cell j q' hj
          refine ⟨g', e', HG.out.cell hc' (fun e => ?_)⟩
          have e1 : g' = q.1.1 := by injection e
          have e2 : og = g' := by injection e' with e'; injection e'
          exact HA2.out q (List.mem_of_getElem? HQ.out) (by omega)
        · by_cases e : j = k
          · subst e
            rw [HQ.out] at hj
            injection hj with hj
            subst hj
            rw [HY.out]
            exact HR7.out
          · have hold := HDn.out j q' hj (by omega)
            refine ⟨hold.most, fun i hi => ?_⟩
            obtain ⟨b0, o0, e0, hcs⟩ := hold.cell i hi
            refine ⟨b0, o0, e0, fun j' hj' => HG.out.cell (hcs j' hj') (fun e1 => ?_)⟩
            have e2 : b0 = q.1.1 := by injection e1
            have e3 : q'.1.1 = b0 := by injection e0 with e0; injection e0
            exact other j q' hj e (by omega)
        · exact World.ownsRow.kept (HOp.out j q' hj (by omega)) HG.out (.inr fun e => by
            have e1 : q'.1.1 = q.1.1 := by injection e
            exact other j q' hj (by omega) e1)
        · have h1 := HCh.out
          have h2 := HG.out
          exact ⟨h2.os.trans h1.os, h2.tape.trans h1.tape, h2.output.trans h1.output, Nat.le_trans h1.size h2.size, fun b hb hx => (h2.block b (Nat.lt_of_lt_of_le hb h1.size) (fun e => by injection e with e; exact hx ⟨q, List.mem_of_getElem? HQ.out, e.symm⟩)).trans (h1.block b hb hx)⟩
      case measure => simp [intOf]; omega
    · have e : k = n := by omega
      subst e
      go_wp2
      go_ret
      exact ⟨rfl, ⟨HRw.out, HSz.out, fun j q hq => HDn.out j q hq (by rw [← HR.out.len]; exact (List.getElem?_eq_some_iff.1 hq).1)⟩, HCh.out⟩
/-- The blocks that such an answer lies in. -/
def inR (v : Value) (ps : List ((Nat × Nat) × List Rt)) (g : Nat) : Prop := v.ownBlock = some g ∨ ∃ p ∈ ps, p.1.1 = g
theorem rr_in {B : Nat} {w : World} {v : Value} {ps : List ((Nat × Nat) × List Rt)} (h : OwnRR B w v ps) {g : Nat} (hg : inR v ps g) : B ≤ g ∧ g < w.heap.size := by
  rcases hg with hg | ⟨p, hp, rfl⟩
  · exact World.ownsRow.lt h.outer g hg
  · exact World.ownsRow.lt (h.inner p hp) p.1.1 rfl
theorem rr_blocks {B : Nat} {w w1 : World} {v : Value} {ps : List ((Nat × Nat) × List Rt)} (h : OwnRR B w v ps) (hb : ∀ g, inR v ps g → g < w.heap.size → w1.heap[g]? = w.heap[g]?) : OwnRR B w1 v ps := by
  have one : ∀ {t : TypeId} {s n : Nat} {x : Value} {xs : List Value}, w.ownsRow B t s x n xs → (∀ g, x.ownBlock = some g → inR v ps g) → w1.ownsRow B t s x n xs := fun hx hi => by
    refine ⟨hx.1, ?_⟩
    rcases hx.2 with h2 | ⟨g, cap, cur, rfl, hg, hh, rest⟩
    · exact .inl h2
    · exact .inr ⟨g, cap, cur, rfl, hg, by rw [hb g (hi g rfl) (Array.getElem?_eq_some_iff.1 hh).1]; exact hh, rest⟩
  exact ⟨one h.outer (fun g hg => .inl hg), fun p hp => one (h.inner p hp) (fun g hg => .inr ⟨p, hp, by have e : some p.1.1 = some g := hg; injection e⟩), h.lone⟩
theorem rr_keeps {B : Nat} {w w1 : World} {v : Value} {ps : List ((Nat × Nat) × List Rt)} {row : Option Nat} (h : OwnRR B w v ps) (hg : w.grownBy w1 row) (hne : ∀ g, inR v ps g → some g ≠ row) : OwnRR B w1 v ps :=
  rr_blocks h fun g hg' hl => hg.block g hl (hne g hg')
theorem chg_below {B : Nat} {a w w' : World} {X : Nat → Prop} (h : Below B a w) (hc : Chg X w w') (hB : B ≤ w.heap.size) (hX : ∀ b, X b → B ≤ b) : Below B a w' :=
  h.trans ⟨hc.os, hc.tape, hc.output, hc.size, fun k hk => hc.block k (by omega) (fun hx => by have := hX k hx; omega)⟩
end Go.Proofs.YtoaeieehbplggaaGreat.rrMark
