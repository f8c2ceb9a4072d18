/- Formulas that are drawn out of a code: they are right, and lie in memory of their own; two formulas that are the same; conditions: a code that fits. -/
import Derived.Test.YtjdcndkgodpnlaaDoorRowsOwn
import Derived.Test.YtjdcndkgodpnlaaDoorPart13
import Derived.Test.YtjdcndkgodpnlaaDoorPart9
import Derived.Test.YtjdcndkgodpnlaaDoorPart1
import Derived.Laws.AppendOwnNone
import Derived.Deep.AppendLies
namespace Go.Proofs.YtjdcndkgodpnlaaDoor.cnfDraw
open Go.RowKit Go.Deep Go.Sort base copy cnf rowsOwn source heldStore
set_option linter.unusedVariables false

theorem step_append_own {P : Program} (w : World) {ops : Array Oper} {o : Oper} {a : Act} {K : Act → World → Prop} {Q : Exit → Act → World → Prop} {E : Prop} (hgd : o.guard = none) (s x : Operand) (t : TypeId)
    (ho : o.op = .call { callee := .builtin .append, args := #[s, x], argTypes := #[t, t] })
    (base : Nat) (e : TypeId) (i : TypeInfo) (z : Value) (size bytes : Nat) (ht : P.underlying t = some (.slice e)) (hi : P.info? e = some i) (hz : i.zero = some z)
    (hsize : i.size = size) (hby : i.bytes = bytes) (hzs : z.cells.size = size) (hsz : 0 < size)
    (v : Value) (n : Nat) (xs : List Value) (hs : a.eval s = v) (hown : w.ownsRow base e size v n xs)
    (ad : Addr) (m c : Nat) (news : List Value) (hx : a.eval x = .slice (some ad) m c) (hl : news.length = m * size) (hnews : ∀ j u, news[j]? = some u → w.cell? (ad.add j) = some u) (h1 : ∀ u ∈ news, u.oneCell' = true)
    (h63 : n + m ≤ maxLen) (hbytes : (n + m) * bytes ≤ 140737488355328) (hbase : base ≤ w.heap.size)
    (h : ∀ v' w', w'.ownsRow base e size v' (n + m) (xs ++ news) → w.grownBy w' v.ownBlock → (v' = .slice none 0 0 ↔ v = .slice none 0 0 ∧ m = 0) → K (a.put o.dst v') w') :
    if Region.wanted o (yielded ops a.tmps) = true then Oper.wp P o a w K Q else E := by
  have hw : Region.wanted o (yielded ops a.tmps) = true := by simp [Region.wanted, hgd]
  rw [if_pos hw]
  exact wp_append_own w s x t ho base e i z size bytes ht hi hz hsize hby hzs hsz v n xs hs hown ad m c news hx hl hnews h1 h63 hbytes hbase h
theorem own_new {B H : Nat} (w : World) (h : w.heap.size = H) (hB : B ≤ H) : (w.alloc (.cells #[] 3)).ownsRow B 3 1 (.slice (some ⟨H, 0, none⟩) 0 0) 0 [] := ⟨rfl, .inr ⟨H, 0, #[], rfl, hB, by subst h; exact heap_alloc_new w _, Nat.le_refl _, Nat.zero_le _, rfl, rfl⟩⟩
/-- What a slice to be appended holds: nothing, where it is nil; its cells. -/
def SrcOf (w : World) (sx : Value) (m : Nat) (news : List Value) : Prop := (sx = .slice none 0 0 ∧ m = 0 ∧ news = []) ∨ ∃ ad c, sx = .slice (some ad) m c ∧ news.length = m * 1 ∧ ∀ j u, news[j]? = some u → w.cell? (ad.add j) = some u
theorem step_append_src {P : Program} (w : World) {ops : Array Oper} {o : Oper} {a : Act} {K : Act → World → Prop} {Q : Exit → Act → World → Prop} {E : Prop} (hgd : o.guard = none) (s x : Operand) (t : TypeId)
    (ho : o.op = .call { callee := .builtin .append, args := #[s, x], argTypes := #[t, t] }) (d : Option Tmp) (hd : o.dst = d)
    (base : Nat) (e : TypeId) (i : TypeInfo) (z : Value) (bytes : Nat) (ht : P.underlying t = some (.slice e)) (hi : P.info? e = some i) (hz : i.zero = some z)
    (hsize : i.size = 1) (hby : i.bytes = bytes) (hzs : z.cells.size = 1)
    (v : Value) (n : Nat) (xs : List Value) (hs : a.eval s = v) (hown : w.ownsRow base e 1 v n xs)
    (sx : Value) (m : Nat) (news : List Value) (hx : a.eval x = sx) (hsrc : SrcOf w sx m news) (h1 : ∀ u ∈ news, u.oneCell' = true)
    (h63 : n + m ≤ maxLen) (hbytes : (n + m) * bytes ≤ 140737488355328) (hbase : base ≤ w.heap.size)
    (h : ∀ v' w', w'.ownsRow base e 1 v' (n + m) (xs ++ news) → w.grownBy w' v.ownBlock → K (a.put d v') w') :
    if Region.wanted o (yielded ops a.tmps) = true then Oper.wp P o a w K Q else E := by
  subst hd
  rcases hsrc with ⟨rfl, rfl, rfl⟩ | ⟨ad, c, rfl, hl, hc⟩
  · have hw : Region.wanted o (yielded ops a.tmps) = true := by simp [Region.wanted, hgd]
    rw [if_pos hw]
    have hrun := run_append_owned_none (P := P) (w := w) base t o.type e i 1 ht hi v n xs hown
    have := h v w (by simpa using hown) (grown_refl w _)
    unfold Oper.wp
    simp [execOp, ho, resolve, invoke, builtin, hs, hx, hrun, Result.andThen]
    exact this
  · exact step_append_own w hgd s x t ho base e i z 1 bytes ht hi hz hsize hby hzs (by decide) v n xs hs hown ad m c news hx hl hc h1 h63 hbytes hbase fun v' w' h2 h3 _ => h v' w' h2 h3
theorem rows_append {B : Nat} {w w3 : World} {v v' x : Value} {ps : List (Value × List Int)} {zs : List Int} (h : OwnRows B w v ps) (hx : OwnInts B w x zs) (ho : w3.ownsRow B 55 1 v' (ps.length + 1) (ps.map Prod.fst ++ [x])) (hg : w.grownBy w3 v.ownBlock) : OwnRows B w3 v' (ps ++ [(x, zs)]) := by
  have hap : ∀ q : Value × List Int, OwnInts B w q.1 q.2 → OwnInts B w3 q.1 q.2 := fun q hq => by
    refine own_grown hq hg fun k hk => ?_
    rcases h.outer.2 with ⟨e, _⟩ | ⟨g', c', cur, e, _⟩
    · rw [e]; exact fun e => by cases e
    · subst e
      have hh := OwnRows.apart h hq hk
      intro e
      have e' : some k = some g' := e
      injection e' with e'
      exact hh e'
  refine ⟨by rw [List.length_append, List.map_append]; exact ho, fun q hq => ?_⟩
  rcases List.mem_append.1 hq with hq | hq
  · exact hap q (h.inner q hq)
  · rw [List.mem_singleton] at hq
    subst hq
    exact hap _ hx
theorem own_form {B : Nat} {w : World} {v : Value} {ps : List (Value × List Int)} (h : OwnRows B w v ps) : ∃ p c, v = .slice p ps.length c := by
  rcases h.outer.2 with ⟨e, h0⟩ | ⟨g, c, cur, e, _⟩
  · exact ⟨none, 0, by rw [e, h0]⟩
  · exact ⟨_, _, e⟩
theorem own_lt {B g : Nat} {w : World} {v : Value} {zs : List Int} (h : OwnInts B w v zs) (hg : v.ownBlock = some g) : B ≤ g ∧ g < w.heap.size := World.ownsRow.lt h g hg
theorem farRow {w w1 : World} {b len cap k M : Nat} {a : Option Addr} {row : Option Nat} (h : source.Src w b a len cap k) (hg : w.grownBy w1 row) (hr : ∀ g, row = some g → M ≤ g) (hM : b < M) : source.Src w1 b a len cap k := by
  obtain ⟨h1, ⟨n, s, p1, p2, p3, p4, hrow⟩, h3⟩ := h
  exact ⟨h1, ⟨n, s, p1, p2, p3, p4, hrow.of_block (hg.block b hrow.lt (fun e => by have := hr b e.symm; omega))⟩, fun i hi => by
    obtain ⟨bb, off, e, hne, x, hx, hc⟩ := h3 i hi
    refine ⟨bb, off, e, hne, x, hx, ?_⟩
    rw [World.cell?_of_block (a := ⟨bb, off + i, none⟩) (hg.block bb (World.block_lt_of_cell? _ _ hc) (fun e => by have := hr bb e.symm; omega))]
    exact hc⟩
/-- Only block b, and what is new, has turned. -/
theorem grown_own {w w1 w2 : World} {b : Nat} {row : Option Nat} (h : w.grownBy w1 (some b)) (hg : w1.grownBy w2 row) (hr : ∀ g, row = some g → w.heap.size ≤ g) : w.grownBy w2 (some b) :=
  ⟨hg.os.trans h.os, hg.tape.trans h.tape, hg.output.trans h.output, Nat.le_trans h.size hg.size, fun k hk hne => by
    rw [hg.block k (Nat.lt_of_lt_of_le hk h.size) (fun e => by have := hr k e.symm; omega), h.block k hk hne]⟩
theorem below_grown {w w1 : World} (h : Below w.heap.size w w1) : w.grownBy w1 none := ⟨h.os, h.tape, h.output, h.size, fun k hk _ => h.block k hk⟩
theorem own_far {B b : Nat} {w w1 : World} {v : Value} {zs : List Int} (h : OwnInts B w v zs) (hg : w.grownBy w1 (some b)) (hb : b < B) : OwnInts B w1 v zs :=
  own_grown h hg (fun g hgv e => by injection e with e; have := (own_lt h hgv).1; omega)
set_option maxHeartbeats 1600000 in
theorem clause_src (b : Nat) (a : Option Addr) (len cap k : Nat) (vars n : Int) (w : World) (h : source.Src w b a len cap k) (hbw : b < w.heap.size) (hk : k ≤ 524288) (hv : 1 ≤ vars) (hv' : vars ≤ 40) (hn0 : 0 ≤ n) (hn : n ≤ 16) :
    Calls Tryd.prog 22 #[.pointer (some ⟨b, 0, none⟩), .int .i64 vars, .int .i64 n] w fun e w' => ∃ x zs, e = .returned x ∧ OwnInts w.heap.size w' x zs ∧ (zs.length : Int) = n ∧ (∀ z ∈ zs, litB vars z = true) ∧ w.grownBy w' (some b) ∧ source.Src w' b a len cap (k + 32) := by
  obtain ⟨N, rfl⟩ := Int.eq_ofNat_of_zero_le hn0
  have HS := hid h
  clear h
  obtain ⟨i0, hi, hzz⟩ := Option.map_eq_some_iff.1 Tryd.info_int
  simp only [Prod.mk.injEq] at hzz
  obtain ⟨hz0, hz1, hz2⟩ := hzz
  have HI := hid hi
  have HZ0 := hid hz0
  have HZ1 := hid hz1
  have HZ2 := hid hz2
  clear hi hz0 hz1 hz2
  go_enter Tryd.func22, Tryd.ntmps22
  go_wp2
  go_loopw [8, 7] (fun i x wr => ∃ (m : Nat) (zs : List Int), m ≤ N ∧ i = .int .i64 m ∧ OwnInts w.heap.size wr x zs ∧ zs.length = m ∧ (∀ z ∈ zs, litB vars z = true) ∧ w.grownBy wr (some b) ∧ source.Src wr b a len cap (k + 2 * m)) (fun i _ _ => N - (intOf i).toNat)
  case atStart =>
    have hba : Below w.heap.size w (w.alloc (.cells #[] 3)) := (by repeat (first | exact Below.refl _ _ | assumption | refine Below.drew ?_ | refine Below.alloc ?_ (by first | exact Nat.le_refl _ | omega | (simp; done) | (simp; omega)) _ | refine Below.setCell ?_ (by first | exact Nat.le_refl _ | omega | (simp; done) | (simp; omega)) _))
    exact ⟨0, [], Nat.zero_le _, rfl, own_new w rfl (Nat.le_refl _), rfl, by simp, grown_own (grown_refl _ _) (below_grown hba) (fun g e => by cases e), HS.out.below hba⟩
  case round =>
    obtain ⟨m, zs, hm, rfl, hown, hzl, hzs, hgr, hsrc⟩ := hrel
    have HO := hid hown
    have HG := hid hgr
    have HSr := hid hsrc
    have HZs := hid hzs
    have HZl := hid hzl
    clear hown hgr hsrc hzs hzl
    have hv0 : 0 < vars := by omega
    by_cases hlt : m < N
    · have hlt' : (m : Int) < (N : Int) := by omega
      go_wp2_with fail
      refine (next_src b a len cap (k + 2 * m) vars _ HSr.out (by omega) hv (by omega)).mono ?_
      rintro e w1 ⟨r, rfl, r0, r1, hs1, hg1⟩
      have HS1 := hid hs1
      have HG1 := hid (grown_trans HG.out hg1)
      have HO1 := hid (own_far HO.out hg1 hbw)
      clear hs1 hg1
      go_wp2_with fail
      refine (chance_src b a len cap (k + 2 * m + 1) 2 _ HS1.out (by omega) (by omega) (by omega)).mono ?_
      rintro e w2 ⟨t, rfl, hs2, hg2⟩
      have HS2 := hid hs2
      have HG2 := hid (grown_trans HG1.out hg2)
      have HO2 := hid (own_far HO1.out hg2 hbw)
      have HSz := hid HG2.out.size
      clear hs2 hg2 HS1 HG1 HO1 HSr HG HO
      cases t
      · go_wp2_with (at_builtin; (refine wpList_append_own _ rfl _ _ 55 rfl w.heap.size 3 i0 (.int .i64 0) 1 8 Tryd.underlying55 HI.out HZ0.out HZ1.out HZ2.out rfl (by decide) _ _ _ rfl (World.ownsRow.alloc HO2.out _) ⟨w2.heap.size, 0, none⟩ 1 1 [.int .i64 (1 + r)] rfl rfl (cell_one_new _ _ _) (fun x hx => by simp at hx; subst hx; rfl) (by have := HZl.out; unfold maxLen; omega) (by have := HZl.out; omega) (by have := HSz.out; simp; omega) ?_); intro v' w3 hown' hgrow3 hnil3)
        have hrow : ∀ g, _ = some g → w.heap.size ≤ g := fun g e => (own_lt HO2.out e).1
        have hba : ∀ o, Below w2.heap.size w2 (w2.alloc o) := fun o => (Below.refl _ _).alloc (Nat.le_refl _) _
        have HG3 : Hid (w.grownBy w3 (some b)) := grown_own (grown_own HG2.out (below_grown (hba _)) (fun g e => by cases e)) hgrow3 hrow
        have HS3 : Hid (source.Src w3 b a len cap (k + 2 * (m + 1))) := farRow (HS2.out.below (hba _)) hgrow3 hrow hbw
        have HO3 : Hid (OwnInts w.heap.size w3 v' (zs ++ [(1 + r)])) := by
          show OwnInts _ _ _ _
          unfold OwnInts
          rw [List.length_append, List.map_append]
          exact hown'
        clear hown' hgrow3 hnil3 hrow hba
        go_wp2
        go_roundw
        case rel =>
          refine ⟨m + 1, zs ++ [(1 + r)], by omega, by go_num, HO3.out, by rw [List.length_append, HZl.out]; rfl, fun z hz => ?_, HG3.out, HS3.out⟩
          rcases List.mem_append.1 hz with h | h
          · exact HZs.out z h
          · rw [List.mem_singleton] at h
            subst h
            simp [litB]; omega
        case measure => simp [intOf]; omega
      · go_wp2_with (at_builtin; (refine wpList_append_own _ rfl _ _ 55 rfl w.heap.size 3 i0 (.int .i64 0) 1 8 Tryd.underlying55 HI.out HZ0.out HZ1.out HZ2.out rfl (by decide) _ _ _ rfl (World.ownsRow.alloc HO2.out _) ⟨w2.heap.size, 0, none⟩ 1 1 [.int .i64 (-(1 + r))] rfl rfl (cell_one_new _ _ _) (fun x hx => by simp at hx; subst hx; rfl) (by have := HZl.out; unfold maxLen; omega) (by have := HZl.out; omega) (by have := HSz.out; simp; omega) ?_); intro v' w3 hown' hgrow3 hnil3)
        have hrow : ∀ g, _ = some g → w.heap.size ≤ g := fun g e => (own_lt HO2.out e).1
        have hba : ∀ o, Below w2.heap.size w2 (w2.alloc o) := fun o => (Below.refl _ _).alloc (Nat.le_refl _) _
        have HG3 : Hid (w.grownBy w3 (some b)) := grown_own (grown_own HG2.out (below_grown (hba _)) (fun g e => by cases e)) hgrow3 hrow
        have HS3 : Hid (source.Src w3 b a len cap (k + 2 * (m + 1))) := farRow (HS2.out.below (hba _)) hgrow3 hrow hbw
        have HO3 : Hid (OwnInts w.heap.size w3 v' (zs ++ [(-(1 + r))])) := by
          show OwnInts _ _ _ _
          unfold OwnInts
          rw [List.length_append, List.map_append]
          exact hown'
        clear hown' hgrow3 hnil3 hrow hba
        go_wp2
        go_roundw
        case rel =>
          refine ⟨m + 1, zs ++ [(-(1 + r))], by omega, by go_num, HO3.out, by rw [List.length_append, HZl.out]; rfl, fun z hz => ?_, HG3.out, HS3.out⟩
          rcases List.mem_append.1 hz with h | h
          · exact HZs.out z h
          · rw [List.mem_singleton] at h
            subst h
            simp [litB]; omega
        case measure => simp [intOf]; omega
    · have e : m = N := by omega
      subst e
      go_wp2
      go_ret
      exact ⟨_, zs, rfl, HO.out, by rw [HZl.out], HZs.out, HG.out, HSr.out.mono (by omega)⟩
set_option maxHeartbeats 400000 in
theorem size_src (b : Nat) (a : Option Addr) (len cap k : Nat) (w : World) (h : source.Src w b a len cap k) :
    Calls Tryd.prog 21 #[.pointer (some ⟨b, 0, none⟩), .int .i64 14] w fun e w' => ∃ r : Int, e = .returned (.int .i64 r) ∧ 1 ≤ r ∧ r ≤ 14 ∧ w' = w := by
  obtain ⟨hlong, ⟨m, s, _, _, _, _, hrow⟩, _⟩ := h
  obtain ⟨h0, _⟩ := row_facts hrow
  clear hrow
  go_enter Tryd.func21, Tryd.ntmps21
  go_wp2
  all_goals
    go_ret
    exact ⟨_, rfl, by omega, by omega, rfl⟩
theorem own_formN {B : Nat} {w : World} {v : Value} {ps : List (Value × List Int)} (h : OwnRows B w v ps) : ∃ p n c, v = .slice p n c ∧ ps.length = n := by
  obtain ⟨p, c, e⟩ := own_form h
  exact ⟨p, _, c, e, rfl⟩
theorem lit_cell (w : World) (ρ : Nat) (h : ρ < 7) : ∃ lv : Int, (w.alloc (.cells #[.int .i64 2, .int .i64 3, .int .i64 1, .int .i64 2, .int .i64 3, .int .i64 0, .int .i64 3] 3)).cell? ⟨w.heap.size, ρ, none⟩ = some (.int .i64 lv) ∧ 0 ≤ lv ∧ lv ≤ 3 := by
  rcases (show ρ = 0 ∨ ρ = 1 ∨ ρ = 2 ∨ ρ = 3 ∨ ρ = 4 ∨ ρ = 5 ∨ ρ = 6 by omega) with e | e | e | e | e | e | e
  · subst e; exact ⟨2, by simp [go_sem], by omega, by omega⟩
  · subst e; exact ⟨3, by simp [go_sem], by omega, by omega⟩
  · subst e; exact ⟨1, by simp [go_sem], by omega, by omega⟩
  · subst e; exact ⟨2, by simp [go_sem], by omega, by omega⟩
  · subst e; exact ⟨3, by simp [go_sem], by omega, by omega⟩
  · subst e; exact ⟨0, by simp [go_sem], by omega, by omega⟩
  · subst e; exact ⟨3, by simp [go_sem], by omega, by omega⟩
theorem fcell {w w1 : World} {b bb o : Nat} {v : Value} (h : w.grownBy w1 (some b)) (hne : bb ≠ b) (hc : w.cell? ⟨bb, o, none⟩ = some v) : w1.cell? ⟨bb, o, none⟩ = some v := by
  rw [h.cell_far ⟨bb, o, none⟩ (World.block_lt_of_cell? _ _ hc) (fun e => hne (by injection e))]; exact hc
theorem ffroz {w w1 : World} {b bb o : Nat} (h : w.grownBy w1 (some b)) (hne : bb ≠ b) (hlt : bb < w.heap.size) (hc : w.frozen? ⟨bb, o, none⟩ = false) : w1.frozen? ⟨bb, o, none⟩ = false := by
  rw [h.frozen_far ⟨bb, o, none⟩ hlt (fun e => hne (by injection e))]; exact hc
theorem rows_far {B b : Nat} {w w1 : World} {v : Value} {ps : List (Value × List Int)} (h : OwnRows B w v ps) (hg : w.grownBy w1 (some b)) (hb : b < B) : OwnRows B w1 v ps :=
  ⟨outer_grown h hg (fun g hgv e => by injection e with e; have := (World.ownsRow.lt h.outer g hgv).1; omega), fun p hp => own_far (h.inner p hp) hg hb⟩
set_option maxHeartbeats 1600000 in
set_option maxRecDepth 8000 in
theorem cnf_src (b : Nat) (a : Option Addr) (len cap : Nat) (w : World) (h : source.Src w b a len cap 0) (hbw : b < w.heap.size) :
    Calls Tryd.prog 10 #[.pointer (some ⟨b, 0, none⟩)] w fun e w' => ∃ (vars : Int) (p : Option Addr) (n c : Nat) (ps : List (Value × List Int)), e = .returned (.agg #[.int .i64 vars, .slice p n c]) ∧ 1 ≤ vars ∧ vars ≤ 6 ∧ OwnRows w.heap.size w' (.slice p n c) ps ∧ ps.length ≤ 16 ∧ (∀ q ∈ ps, clauseB vars q.2 = true) ∧ w.grownBy w' (some b) := by
  have HS := hid h
  clear h
  obtain ⟨i0, hi, hzz⟩ := Option.map_eq_some_iff.1 info_row
  simp only [Prod.mk.injEq] at hzz
  obtain ⟨hz0, hz1, hz2⟩ := hzz
  have HI := hid hi
  have HZ0 := hid hz0
  have HZ1 := hid hz1
  have HZ2 := hid hz2
  clear hi hz0 hz1 hz2
  go_enter Tryd.func10, Tryd.ntmps10
  go_wp2_with fail
  refine (next_src b a len cap 0 6 _ (HS.out.below (by repeat (first | exact Below.refl _ _ | assumption | refine Below.drew ?_ | refine Below.alloc ?_ (by first | exact Nat.le_refl _ | omega | (simp; done) | (simp; omega)) _ | refine Below.setCell ?_ (by first | exact Nat.le_refl _ | omega | (simp; done) | (simp; omega)) _))) (by omega) (by omega) (by omega)).mono ?_
  rintro e w1 ⟨r, rfl, r0, r1, hs1, hg1⟩
  have hne1 : w.heap.size ≠ b := by omega
  have q0 : w1.cell? ⟨w.heap.size, 0, none⟩ = some (.int .i64 0) := fcell hg1 hne1 (by simp [go_sem])
  have q1 : w1.cell? ⟨w.heap.size, 1, none⟩ = some (.slice none 0 0) := fcell hg1 hne1 (by simp [go_sem])
  have q2 : w1.frozen? ⟨w.heap.size, 0, none⟩ = false := ffroz hg1 hne1 (by simp) (by simp [go_sem])
  have q3 : w1.frozen? ⟨w.heap.size, 1, none⟩ = false := ffroz hg1 hne1 (by simp) (by simp [go_sem])
  have HG1 : Hid (w.grownBy w1 (some b)) := grown_trans (grown_own (grown_refl _ _) (below_grown (show Below w.heap.size w _ from (by repeat (first | exact Below.refl _ _ | assumption | refine Below.drew ?_ | refine Below.alloc ?_ (by first | exact Nat.le_refl _ | omega | (simp; done) | (simp; omega)) _ | refine Below.setCell ?_ (by first | exact Nat.le_refl _ | omega | (simp; done) | (simp; omega)) _)))) (fun g e => by cases e)) hg1
  have s1 : w.heap.size < w1.heap.size := by have := hg1.size; simp at this; omega
  have HS1 := hid hs1
  have Q0 := hid q0
  have Q1 := hid q1
  have Q2 := hid q2
  have Q3 := hid q3
  clear hs1 hg1 q0 q1 q2 q3
  obtain ⟨vars, hvars⟩ : ∃ v, 1 + r = v := ⟨_, rfl⟩
  have hv1 : 1 ≤ vars := by omega
  have hv6 : vars ≤ 6 := by omega
  rw [← show vars - 1 = r by omega]
  clear hvars r0 r1
  have hb1 : b < w1.heap.size := by omega
  have hbn : ¬ w1.heap.size = b := by omega
  go_wp2_with fail
  refine (size_src b a len cap 1 _ (HS1.out.below (by repeat (first | exact Below.refl _ _ | assumption | refine Below.drew ?_ | refine Below.alloc ?_ (by first | exact Nat.le_refl _ | omega | (simp; done) | (simp; omega)) _ | refine Below.setCell ?_ (by first | exact Nat.le_refl _ | omega | (simp; done) | (simp; omega)) _)))).mono ?_
  rintro e w2 ⟨r2, rfl, r20, r21, hw2⟩
  subst hw2
  go_wp2_with fail
  refine (next_src b a len cap 1 (r2 + 3) _ (HS1.out.below (by repeat (first | exact Below.refl _ _ | assumption | refine Below.drew ?_ | refine Below.alloc ?_ (by first | exact Nat.le_refl _ | omega | (simp; done) | (simp; omega)) _ | refine Below.setCell ?_ (by first | exact Nat.le_refl _ | omega | (simp; done) | (simp; omega)) _))) (by omega) (by omega) (by omega)).mono ?_
  rintro e w3 ⟨r3, rfl, r30, r31, hs3, hg3⟩
  have f0 : w3.cell? ⟨w1.heap.size, 0, none⟩ = some (.int .i64 vars) := fcell hg3 hbn (by simp [go_sem]; omega)
  have f1 : w3.cell? ⟨w1.heap.size, 1, none⟩ = some (.slice none 0 0) := fcell hg3 hbn (by simp [go_sem])
  have f2 : w3.frozen? ⟨w1.heap.size, 1, none⟩ = false := ffroz hg3 hbn (by simp) (by simp [go_sem])
  have HG3 : Hid (w1.grownBy w3 (some b)) := grown_trans (grown_own (grown_refl _ _) (below_grown (show Below w1.heap.size w1 _ from (by repeat (first | exact Below.refl _ _ | assumption | refine Below.drew ?_ | refine Below.alloc ?_ (by first | exact Nat.le_refl _ | omega | (simp; done) | (simp; omega)) _ | refine Below.setCell ?_ (by first | exact Nat.le_refl _ | omega | (simp; done) | (simp; omega)) _)))) (fun g e => by cases e)) hg3
  have s3 : w1.heap.size < w3.heap.size := by have := hg3.size; simp at this; omega
  have HS3 := hid hs3
  clear hs3 hg3
  obtain ⟨T, hT⟩ := Int.eq_ofNat_of_zero_le r30
  subst hT
  have hT16 : T ≤ 16 := by omega
  go_wp2
  go_loopw [4] (fun i wr => ∃ (m n c : Nat) (p : Option Addr) (ps : List (Value × List Int)), i = .int .i64 m ∧ m ≤ 16 ∧ ps.length + m ≤ 16 ∧ wr.cell? ⟨w1.heap.size, 0, none⟩ = some (.int .i64 vars) ∧ wr.cell? ⟨w1.heap.size, 1, none⟩ = some (.slice p n c) ∧ wr.frozen? ⟨w1.heap.size, 1, none⟩ = false ∧ ps.length = n ∧ w1.heap.size + 1 ≤ wr.heap.size ∧ OwnRows (w1.heap.size + 1) wr (.slice p n c) ps ∧ (∀ q ∈ ps, clauseB vars q.2 = true) ∧ w1.grownBy wr (some b) ∧ source.Src wr b a len cap (2 + 33 * (16 - m))) (fun i _ => (intOf i).toNat)
  case atStart => exact ⟨T, 0, 0, none, [], rfl, hT16, by simpa using hT16, f0, f1, f2, rfl, s3, OwnRows.nil _ _, fun q hq => by simp at hq, HG3.out, HS3.out.mono (by omega)⟩
  case round =>
    obtain ⟨m, n, c, p, ps, rfl, hm, hpm, c0, c1, c2, hpn, hsz, hown, hcl, hgr, hsrc⟩ := hrel
    have HO := hid hown
    have HCl := hid hcl
    have HG := hid hgr
    have HSr := hid hsrc
    have HPn := hid hpn
    clear hown hcl hgr hsrc hpn
    by_cases hlt : 0 < m
    · go_wp2
      have C0 := hid c0
      have C1 := hid c1
      have C2 := hid c2
      clear c0 c1 c2
      refine region_goes 14 15 (fun w' => w'.cell? ⟨w1.heap.size, 1, none⟩ = some (.slice p n c) ∧ w'.cell? ⟨w1.heap.size, 0, none⟩ = some (.int .i64 vars)) (by kernel_rfl) (by rfl) ⟨by kernel_rfl, by kernel_rfl, by kernel_rfl, by decide⟩ ⟨keep (by repeat (first | exact Below.refl _ _ | assumption | refine Below.drew ?_ | refine sorted.bdn ?_ _ | refine Below.alloc ?_ (by first | exact Nat.le_refl _ | exact Below.size (by assumption) | omega | (simp; done) | (simp; omega)) _)) C1.out, keep (by repeat (first | exact Below.refl _ _ | assumption | refine Below.drew ?_ | refine sorted.bdn ?_ _ | refine Below.alloc ?_ (by first | exact Nat.le_refl _ | exact Below.size (by assumption) | omega | (simp; done) | (simp; omega)) _)) C0.out⟩ (fun hE inv hHeld => ?_)
      refine Goes.take (i := 0) (v := ?v0u1) (some 18) hE rfl rfl inv (by kernel_rfl) (by kernel_rfl) (by decide) (fun _ _ _ h => h) (Or.inl ⟨by rfl, ?y0u1⟩) (by assumption) (fun inv => ?r0u1)
      case y0u1 => (intro w' hSw; (try dsimp only at hSw); go_simp; (try with_reducible rfl))
      simp only [Act.put, List.setIfInBounds_toArray, List.set_cons_zero, List.set_cons_succ]
      refine Goes.take (i := 1) (v := ?v1u2) (some 19) hE rfl rfl inv (by kernel_rfl) (by kernel_rfl) (by decide) (fun _ _ _ h => h) (Or.inl ⟨by rfl, ?y1u2⟩) (by assumption) (fun inv => ?r1u2)
      case y1u2 => (intro w' hSw; (try dsimp only at hSw); go_simp; (try with_reducible rfl))
      simp only [Act.put, List.setIfInBounds_toArray, List.set_cons_zero, List.set_cons_succ]
      refine Goes.take (i := 2) (v := ?v2u3) (some 20) hE rfl rfl inv (by kernel_rfl) (by kernel_rfl) (by decide) (fun _ _ _ h => h) (Or.inl ⟨by rfl, ?y2u3⟩) (by assumption) (fun inv => ?r2u3)
      case y2u3 => (intro w' hSw; (try dsimp only at hSw); go_simp; (try with_reducible rfl))
      simp only [Act.put, List.setIfInBounds_toArray, List.set_cons_zero, List.set_cons_succ]
      refine Goes.take (i := 3) (v := ?v3u4) (some 21) hE rfl rfl inv (by kernel_rfl) (by kernel_rfl) (by decide) (fun _ _ _ h => h) (Or.inl ⟨by rfl, ?y3u4⟩) (by assumption) (fun inv => ?r3u4)
      case y3u4 => (intro w' hSw; (try dsimp only at hSw); go_simp; (try with_reducible rfl))
      simp only [Act.put, List.setIfInBounds_toArray, List.set_cons_zero, List.set_cons_succ]
      refine Goes.take (i := 4) (v := ?v4u5) (some 22) hE rfl rfl inv (by kernel_rfl) (by kernel_rfl) (by decide) (fun _ _ _ h => h) (Or.inl ⟨by rfl, ?y4u5⟩) (by assumption) (fun inv => ?r4u5)
      case y4u5 => (intro w' hSw; (try dsimp only at hSw); go_simp; (try with_reducible rfl))
      simp only [Act.put, List.setIfInBounds_toArray, List.set_cons_zero, List.set_cons_succ]
      refine Goes.take (i := 6) (v := ?v6u6) (some 24) hE rfl rfl inv (by kernel_rfl) (by kernel_rfl) (by decide) (fun _ _ _ h => h) (Or.inl ⟨by rfl, ?y6u6⟩) (by assumption) (fun inv => ?r6u6)
      case y6u6 => (intro w' hSw; (try dsimp only at hSw); go_simp; (try with_reducible rfl))
      simp only [Act.put, List.setIfInBounds_toArray, List.set_cons_zero, List.set_cons_succ]
      refine Goes.two (i := 5) (j := 7) inv (by kernel_rfl) (by decide) (by decide) rfl rfl (fun inv K' hK => ?_) (fun inv K' hK => ?_)
      · go_simp
        refine hK.out _ _ ⟨keep (by repeat (first | exact Below.refl _ _ | assumption | refine Below.drew ?_ | refine sorted.bdn ?_ _ | refine Below.alloc ?_ (by first | exact Nat.le_refl _ | exact Below.size (by assumption) | omega | (simp; done) | (simp; omega)) _)) C1.out, keep (by repeat (first | exact Below.refl _ _ | assumption | refine Below.drew ?_ | refine sorted.bdn ?_ _ | refine Below.alloc ?_ (by first | exact Nat.le_refl _ | exact Below.size (by assumption) | omega | (simp; done) | (simp; omega)) _)) C0.out⟩ (fun hHeld => ?_)
        clear hK K'
        refine Goes.one (i := 7) inv (by kernel_rfl) (by decide) rfl (fun inv K' hK => ?_)
        go_simp
        refine (next_src b a len cap (2 + 33 * (16 - m)) 7 _ (HSr.out.below (by repeat (first | exact Below.refl _ _ | assumption | refine Below.drew ?_ | refine sorted.bdn ?_ _ | refine Below.alloc ?_ (by first | exact Nat.le_refl _ | exact Below.size (by assumption) | omega | (simp; done) | (simp; omega)) _))) (by omega) (by omega) (by omega)).mono ?_
        rintro e wN ⟨r7, rfl, r70, r71, hsN, hgN⟩
        obtain ⟨ρ, hρ⟩ := Int.eq_ofNat_of_zero_le r70
        subst hρ
        have HSN := hid hsN
        have HGN : Hid (wr.grownBy wN (some b)) := grown_trans (grown_own (grown_refl _ _) (below_grown (show Below wr.heap.size wr _ from (by repeat (first | exact Below.refl _ _ | assumption | refine Below.drew ?_ | refine sorted.bdn ?_ _ | refine Below.alloc ?_ (by first | exact Nat.le_refl _ | exact Below.size (by assumption) | omega | (simp; done) | (simp; omega)) _)))) (fun g e => by cases e)) hgN
        have n1 : wN.cell? ⟨w1.heap.size, 1, none⟩ = some (.slice p n c) := fcell HGN.out hbn C1.out
        have n0 : wN.cell? ⟨w1.heap.size, 0, none⟩ = some (.int .i64 vars) := fcell HGN.out hbn C0.out
        obtain ⟨lv, hlit0, lv0, lv3⟩ : ∃ lv : Int, (wr.alloc (.cells #[.int .i64 2, .int .i64 3, .int .i64 1, .int .i64 2, .int .i64 3, .int .i64 0, .int .i64 3] 3)).cell? ⟨wr.heap.size, ρ, none⟩ = some (.int .i64 lv) ∧ 0 ≤ lv ∧ lv ≤ 3 := lit_cell _ ρ (by omega)
        have hlit : wN.cell? ⟨wr.heap.size, ρ, none⟩ = some (.int .i64 lv) := fcell hgN (by omega) (by first | exact hlit0 | simpa [go_sem] using hlit0)
        clear hlit0
        clear hsN hgN
        (try go_wp2_with fail)
        refine hK.out _ _ ⟨n1, n0⟩ (fun hHeld => ?_)
        clear hK K'
        have ir1 : (0 : Int) ≤ (ρ : Int) := by omega
        have ir2 : (ρ : Int) < 7 := by omega
        refine Goes.take (i := 8) (v := ?v8u7) (some 26) hE rfl rfl inv (by kernel_rfl) (by kernel_rfl) (by decide) (fun _ _ _ h => h) (Or.inl ⟨by rfl, ?y8u7⟩) (by assumption) (fun inv => ?r8u7)
        case y8u7 => (intro w' hSw; (try dsimp only at hSw); go_simp; (try with_reducible rfl))
        simp only [Act.put, List.setIfInBounds_toArray, List.set_cons_zero, List.set_cons_succ]
        refine Goes.one (i := 9) inv (by kernel_rfl) (by decide) rfl (fun inv K' hK => ?_)
        go_simp
        refine hK.out _ _ hHeld (fun hHeld => ?_)
        clear hK K'
        refine Goes.one (i := 10) inv (by kernel_rfl) (by decide) rfl (fun inv K' hK => ?_)
        go_simp
        refine (clause_src b a len cap (2 + 33 * (16 - m) + 1) vars lv _ (HSN.out.below (by repeat (first | exact Below.refl _ _ | assumption | refine Below.drew ?_ | refine sorted.bdn ?_ _ | refine Below.alloc ?_ (by first | exact Nat.le_refl _ | exact Below.size (by assumption) | omega | (simp; done) | (simp; omega)) _))) (by have := HGN.out.size; first | omega | (simp; omega)) (by omega) hv1 (by omega) lv0 (by omega)).mono ?_
        rintro e wC ⟨x, zs, rfl, hox, hzl, hzs, hgC, hsC⟩
        have HGC : Hid (wr.grownBy wC (some b)) := grown_trans (grown_own HGN.out (below_grown (show Below wN.heap.size wN _ from (by repeat (first | exact Below.refl _ _ | assumption | refine Below.drew ?_ | refine sorted.bdn ?_ _ | refine Below.alloc ?_ (by first | exact Nat.le_refl _ | exact Below.size (by assumption) | omega | (simp; done) | (simp; omega)) _)))) (fun g e => by cases e)) hgC
        have o1 : wC.cell? ⟨w1.heap.size, 1, none⟩ = some (.slice p n c) := fcell HGC.out hbn C1.out
        have o0 : wC.cell? ⟨w1.heap.size, 0, none⟩ = some (.int .i64 vars) := fcell HGC.out hbn C0.out
        have o2 : wC.frozen? ⟨w1.heap.size, 1, none⟩ = false := ffroz HGC.out hbn (by omega) C2.out
        have HOC := hid (rows_far HO.out HGC.out (by omega))
        have HSC : Hid (source.Src wC b a len cap (2 + 33 * (16 - (m - 1)))) := hsC.mono (by omega)
        have HOX : Hid (OwnInts (w1.heap.size + 1) wC x zs) := hox.mono (by have := HGN.out.size; first | omega | (simp; omega))
        have HZ : Hid (clauseB vars zs = true) := by
          show _ = _
          unfold clauseB
          rw [decide_eq_true (by omega), Bool.true_and, List.all_eq_true]
          exact hzs
        have sC : w1.heap.size + 1 ≤ wC.heap.size := by have := HGC.out.size; omega
        obtain ⟨ax, cx, rfl, _⟩ := hox.form
        clear hox hzl hzs hgC hsC
        (try go_wp2_with fail)
        refine hK.out _ _ ⟨o1, o0⟩ (fun hHeld => ?_)
        clear hK K'
        refine Goes.one (i := 11) inv (by kernel_rfl) (by decide) rfl (fun inv K' hK => ?_)
        go_simp
        refine hK.out _ _ ⟨keep (by repeat (first | exact Below.refl _ _ | assumption | refine Below.drew ?_ | refine sorted.bdn ?_ _ | refine Below.alloc ?_ (by first | exact Nat.le_refl _ | exact Below.size (by assumption) | omega | (simp; done) | (simp; omega)) _)) o1, keep (by repeat (first | exact Below.refl _ _ | assumption | refine Below.drew ?_ | refine sorted.bdn ?_ _ | refine Below.alloc ?_ (by first | exact Nat.le_refl _ | exact Below.size (by assumption) | omega | (simp; done) | (simp; omega)) _)) o0⟩ (fun hHeld => ?_)
        clear hK K'
        refine Goes.one (i := 12) inv (by kernel_rfl) (by decide) rfl (fun inv K' hK => ?_)
        refine step_append_src _ (by rfl) _ _ 23 (by rfl) (some 30) (by rfl) (w1.heap.size + 1) 55 i0 (.slice none 0 0) 24 Tryd.underlying23 HI.out HZ0.out HZ1.out HZ2.out rfl (.slice p n c) ps.length (ps.map Prod.fst) (by rfl) (own_pass HOC.out.outer (by repeat (first | exact Below.refl _ _ | assumption | refine Below.drew ?_ | refine sorted.bdn ?_ _ | refine Below.alloc ?_ (by first | exact Nat.le_refl _ | exact Below.size (by assumption) | omega | (simp; done) | (simp; omega)) _))) _ 1 [.slice ax zs.length cx] (by rfl) (.inr ⟨⟨wC.heap.size, 0, none⟩, 1, rfl, rfl, cell_one_new _ _ _⟩) (fun u hu => by simp at hu; subst hu; rfl) (by unfold maxLen; omega) (by omega) (by simp; omega) ?_
        intro v4 wD hv4 hg4
        have hown4 : ∀ g, (Value.slice p n c).ownBlock = some g → w1.heap.size + 1 ≤ g := fun g e => (World.ownsRow.lt HOC.out.outer g e).1
        have HR4 := hid (rows_append (OwnRows.below HOC.out (by repeat (first | exact Below.refl _ _ | assumption | refine Below.drew ?_ | refine sorted.bdn ?_ _ | refine Below.alloc ?_ (by first | exact Nat.le_refl _ | exact Below.size (by assumption) | omega | (simp; done) | (simp; omega)) _))) (OwnInts.below HOX.out (by repeat (first | exact Below.refl _ _ | assumption | refine Below.drew ?_ | refine sorted.bdn ?_ _ | refine Below.alloc ?_ (by first | exact Nat.le_refl _ | exact Below.size (by assumption) | omega | (simp; done) | (simp; omega)) _))) hv4 hg4)
        obtain ⟨p4, n4, c4, hv4e, hn4⟩ := own_formN HR4.out
        subst hv4e
        have HN4 := hid hn4
        clear hn4
        have d1 : wD.cell? ⟨w1.heap.size, 1, none⟩ = some (.slice p n c) := by
          rw [hg4.cell_far ⟨w1.heap.size, 1, none⟩ (by simp; omega) (fun e => by have := hown4 w1.heap.size e.symm; omega)]
          exact keep (by repeat (first | exact Below.refl _ _ | assumption | refine Below.drew ?_ | refine sorted.bdn ?_ _ | refine Below.alloc ?_ (by first | exact Nat.le_refl _ | exact Below.size (by assumption) | omega | (simp; done) | (simp; omega)) _)) o1
        have d0 : wD.cell? ⟨w1.heap.size, 0, none⟩ = some (.int .i64 vars) := by
          rw [hg4.cell_far ⟨w1.heap.size, 0, none⟩ (by simp; omega) (fun e => by have := hown4 w1.heap.size e.symm; omega)]
          exact keep (by repeat (first | exact Below.refl _ _ | assumption | refine Below.drew ?_ | refine sorted.bdn ?_ _ | refine Below.alloc ?_ (by first | exact Nat.le_refl _ | exact Below.size (by assumption) | omega | (simp; done) | (simp; omega)) _)) o0
        have d2 : wD.frozen? ⟨w1.heap.size, 1, none⟩ = false := by
          rw [hg4.frozen_far ⟨w1.heap.size, 1, none⟩ (by simp; omega) (fun e => by have := hown4 w1.heap.size e.symm; omega)]
          rw [Below.frozen (B := wC.heap.size) (w := wC) (p := ⟨w1.heap.size, 1, none⟩) (by repeat (first | exact Below.refl _ _ | assumption | refine Below.drew ?_ | refine sorted.bdn ?_ _ | refine Below.alloc ?_ (by first | exact Nat.le_refl _ | exact Below.size (by assumption) | omega | (simp; done) | (simp; omega)) _)) (by dsimp only; omega)]
          exact o2
        have HGD : Hid (w1.grownBy wD (some b)) := grown_own (grown_own (grown_trans HG.out HGC.out) (below_grown (show Below wC.heap.size wC _ from (by repeat (first | exact Below.refl _ _ | assumption | refine Below.drew ?_ | refine sorted.bdn ?_ _ | refine Below.alloc ?_ (by first | exact Nat.le_refl _ | exact Below.size (by assumption) | omega | (simp; done) | (simp; omega)) _)))) (fun g e => by cases e)) hg4 (fun g e => by have := hown4 _ e; omega)
        have HSD : Hid (source.Src wD b a len cap (2 + 33 * (16 - (m - 1)))) := farRow (M := w1.heap.size + 1) (HSC.out.below (by repeat (first | exact Below.refl _ _ | assumption | refine Below.drew ?_ | refine sorted.bdn ?_ _ | refine Below.alloc ?_ (by first | exact Nat.le_refl _ | exact Below.size (by assumption) | omega | (simp; done) | (simp; omega)) _))) hg4 hown4 (by omega)
        have sD : w1.heap.size + 1 ≤ wD.heap.size := by have := hg4.size; simp at this; omega
        clear hv4 hg4 hown4
        refine hK.out _ _ ⟨d1, d0⟩ (fun hHeld => ?_)
        clear hK K'
        simp only [Act.put, List.setIfInBounds_toArray, List.set_cons_zero, List.set_cons_succ]
        refine Goes.take (i := 13) (v := ?v13u8) (some 31) hE rfl rfl inv (by kernel_rfl) (by kernel_rfl) (by decide) (fun _ _ _ h => h) (Or.inl ⟨by rfl, ?y13u8⟩) (by assumption) (fun inv => ?r13u8)
        case y13u8 => (intro w' hSw; (try dsimp only at hSw); go_simp; (try with_reducible rfl))
        simp only [Act.put, List.setIfInBounds_toArray, List.set_cons_zero, List.set_cons_succ]
        refine Goes.last (by kernel_rfl) (by kernel_rfl) rfl (fun K' hK => ?_)
        obtain ⟨hcD, _⟩ := hHeld
        go_simp
        refine hK.out _ _ ?_
        clear hK K'
        have HF1 := hid (World.cell?_setCell_same wD ⟨w1.heap.size, 1, none⟩ (.slice p4 n4 c4) hcD)
        have HF0 : Hid ((wD.setCell ⟨w1.heap.size, 1, none⟩ (.slice p4 n4 c4)).cell? ⟨w1.heap.size, 0, none⟩ = some (.int .i64 vars)) := by
          show _ = _
          rw [World.cell?_setCell_other _ _ _ _ (by simp)]
          exact d0
        have HF2 : Hid ((wD.setCell ⟨w1.heap.size, 1, none⟩ (.slice p4 n4 c4)).frozen? ⟨w1.heap.size, 1, none⟩ = false) := by
          show _ = _
          rw [World.frozen?_setCell]
          exact d2
        clear d0 d1 d2 hcD
        (try simp only [Exit.inBlock, Exit.then])
        go_wp2
        exact ⟨⟨m - 1, n4, c4, p4, _, by congr 1; omega, by omega, by rw [List.length_append]; simp; omega, HF0.out, HF1.out, HF2.out, HN4.out, by simp; omega, rows_ahead HR4.out (by omega), fun q hq => by
          rcases List.mem_append.1 hq with h | h
          · exact HCl.out q h
          · rw [List.mem_singleton] at h
            subst h
            exact HZ.out, grown_own HGD.out (grown_set (g := w1.heap.size) (k := 1) (v := .slice p4 n4 c4) (grown_refl _ _)) (fun g e => by injection e with e; omega), farRow (M := w1.heap.size) HSD.out (grown_set (g := w1.heap.size) (k := 1) (v := .slice p4 n4 c4) (grown_refl _ _)) (fun g e => by injection e with e; omega) (by omega)⟩, by simp [intOf]; omega⟩
      · go_simp
        refine (next_src b a len cap (2 + 33 * (16 - m)) 7 _ (HSr.out.below (by repeat (first | exact Below.refl _ _ | assumption | refine Below.drew ?_ | refine sorted.bdn ?_ _ | refine Below.alloc ?_ (by first | exact Nat.le_refl _ | exact Below.size (by assumption) | omega | (simp; done) | (simp; omega)) _))) (by omega) (by omega) (by omega)).mono ?_
        rintro e wN ⟨r7, rfl, r70, r71, hsN, hgN⟩
        obtain ⟨ρ, hρ⟩ := Int.eq_ofNat_of_zero_le r70
        subst hρ
        have HSN := hid hsN
        have HGN : Hid (wr.grownBy wN (some b)) := grown_trans (grown_own (grown_refl _ _) (below_grown (show Below wr.heap.size wr _ from (by repeat (first | exact Below.refl _ _ | assumption | refine Below.drew ?_ | refine sorted.bdn ?_ _ | refine Below.alloc ?_ (by first | exact Nat.le_refl _ | exact Below.size (by assumption) | omega | (simp; done) | (simp; omega)) _)))) (fun g e => by cases e)) hgN
        have n1 : wN.cell? ⟨w1.heap.size, 1, none⟩ = some (.slice p n c) := fcell HGN.out hbn C1.out
        have n0 : wN.cell? ⟨w1.heap.size, 0, none⟩ = some (.int .i64 vars) := fcell HGN.out hbn C0.out
        clear hsN hgN
        (try go_wp2_with fail)
        refine hK.out _ _ ⟨n1, n0⟩ (fun hHeld => ?_)
        clear hK K'
        refine Goes.one (i := 5) inv (by kernel_rfl) (by decide) rfl (fun inv K' hK => ?_)
        go_simp
        refine hK.out _ _ ⟨keep (by repeat (first | exact Below.refl _ _ | assumption | refine Below.drew ?_ | refine sorted.bdn ?_ _ | refine Below.alloc ?_ (by first | exact Nat.le_refl _ | exact Below.size (by assumption) | omega | (simp; done) | (simp; omega)) _)) n1, keep (by repeat (first | exact Below.refl _ _ | assumption | refine Below.drew ?_ | refine sorted.bdn ?_ _ | refine Below.alloc ?_ (by first | exact Nat.le_refl _ | exact Below.size (by assumption) | omega | (simp; done) | (simp; omega)) _)) n0⟩ (fun hHeld => ?_)
        clear hK K'
        obtain ⟨lv, hlit, lv0, lv3⟩ : ∃ lv : Int, (wN.alloc (.cells #[.int .i64 2, .int .i64 3, .int .i64 1, .int .i64 2, .int .i64 3, .int .i64 0, .int .i64 3] 3)).cell? ⟨wN.heap.size, ρ, none⟩ = some (.int .i64 lv) ∧ 0 ≤ lv ∧ lv ≤ 3 := lit_cell _ ρ (by omega)
        have ir1 : (0 : Int) ≤ (ρ : Int) := by omega
        have ir2 : (ρ : Int) < 7 := by omega
        refine Goes.take (i := 8) (v := ?v8u9) (some 26) hE rfl rfl inv (by kernel_rfl) (by kernel_rfl) (by decide) (fun _ _ _ h => h) (Or.inl ⟨by rfl, ?y8u9⟩) (by assumption) (fun inv => ?r8u9)
        case y8u9 => (intro w' hSw; (try dsimp only at hSw); go_simp; (try with_reducible rfl))
        simp only [Act.put, List.setIfInBounds_toArray, List.set_cons_zero, List.set_cons_succ]
        refine Goes.one (i := 9) inv (by kernel_rfl) (by decide) rfl (fun inv K' hK => ?_)
        go_simp
        refine hK.out _ _ hHeld (fun hHeld => ?_)
        clear hK K'
        refine Goes.one (i := 10) inv (by kernel_rfl) (by decide) rfl (fun inv K' hK => ?_)
        go_simp
        refine (clause_src b a len cap (2 + 33 * (16 - m) + 1) vars lv _ (HSN.out.below (by repeat (first | exact Below.refl _ _ | assumption | refine Below.drew ?_ | refine sorted.bdn ?_ _ | refine Below.alloc ?_ (by first | exact Nat.le_refl _ | exact Below.size (by assumption) | omega | (simp; done) | (simp; omega)) _))) (by have := HGN.out.size; first | omega | (simp; omega)) (by omega) hv1 (by omega) lv0 (by omega)).mono ?_
        rintro e wC ⟨x, zs, rfl, hox, hzl, hzs, hgC, hsC⟩
        have HGC : Hid (wr.grownBy wC (some b)) := grown_trans (grown_own HGN.out (below_grown (show Below wN.heap.size wN _ from (by repeat (first | exact Below.refl _ _ | assumption | refine Below.drew ?_ | refine sorted.bdn ?_ _ | refine Below.alloc ?_ (by first | exact Nat.le_refl _ | exact Below.size (by assumption) | omega | (simp; done) | (simp; omega)) _)))) (fun g e => by cases e)) hgC
        have o1 : wC.cell? ⟨w1.heap.size, 1, none⟩ = some (.slice p n c) := fcell HGC.out hbn C1.out
        have o0 : wC.cell? ⟨w1.heap.size, 0, none⟩ = some (.int .i64 vars) := fcell HGC.out hbn C0.out
        have o2 : wC.frozen? ⟨w1.heap.size, 1, none⟩ = false := ffroz HGC.out hbn (by omega) C2.out
        have HOC := hid (rows_far HO.out HGC.out (by omega))
        have HSC : Hid (source.Src wC b a len cap (2 + 33 * (16 - (m - 1)))) := hsC.mono (by omega)
        have HOX : Hid (OwnInts (w1.heap.size + 1) wC x zs) := hox.mono (by have := HGN.out.size; first | omega | (simp; omega))
        have HZ : Hid (clauseB vars zs = true) := by
          show _ = _
          unfold clauseB
          rw [decide_eq_true (by omega), Bool.true_and, List.all_eq_true]
          exact hzs
        have sC : w1.heap.size + 1 ≤ wC.heap.size := by have := HGC.out.size; omega
        obtain ⟨ax, cx, rfl, _⟩ := hox.form
        clear hox hzl hzs hgC hsC
        (try go_wp2_with fail)
        refine hK.out _ _ ⟨o1, o0⟩ (fun hHeld => ?_)
        clear hK K'
        refine Goes.one (i := 11) inv (by kernel_rfl) (by decide) rfl (fun inv K' hK => ?_)
        go_simp
        refine hK.out _ _ ⟨keep (by repeat (first | exact Below.refl _ _ | assumption | refine Below.drew ?_ | refine sorted.bdn ?_ _ | refine Below.alloc ?_ (by first | exact Nat.le_refl _ | exact Below.size (by assumption) | omega | (simp; done) | (simp; omega)) _)) o1, keep (by repeat (first | exact Below.refl _ _ | assumption | refine Below.drew ?_ | refine sorted.bdn ?_ _ | refine Below.alloc ?_ (by first | exact Nat.le_refl _ | exact Below.size (by assumption) | omega | (simp; done) | (simp; omega)) _)) o0⟩ (fun hHeld => ?_)
        clear hK K'
        refine Goes.one (i := 12) inv (by kernel_rfl) (by decide) rfl (fun inv K' hK => ?_)
        refine step_append_src _ (by rfl) _ _ 23 (by rfl) (some 30) (by rfl) (w1.heap.size + 1) 55 i0 (.slice none 0 0) 24 Tryd.underlying23 HI.out HZ0.out HZ1.out HZ2.out rfl (.slice p n c) ps.length (ps.map Prod.fst) (by rfl) (own_pass HOC.out.outer (by repeat (first | exact Below.refl _ _ | assumption | refine Below.drew ?_ | refine sorted.bdn ?_ _ | refine Below.alloc ?_ (by first | exact Nat.le_refl _ | exact Below.size (by assumption) | omega | (simp; done) | (simp; omega)) _))) _ 1 [.slice ax zs.length cx] (by rfl) (.inr ⟨⟨wC.heap.size, 0, none⟩, 1, rfl, rfl, cell_one_new _ _ _⟩) (fun u hu => by simp at hu; subst hu; rfl) (by unfold maxLen; omega) (by omega) (by simp; omega) ?_
        intro v4 wD hv4 hg4
        have hown4 : ∀ g, (Value.slice p n c).ownBlock = some g → w1.heap.size + 1 ≤ g := fun g e => (World.ownsRow.lt HOC.out.outer g e).1
        have HR4 := hid (rows_append (OwnRows.below HOC.out (by repeat (first | exact Below.refl _ _ | assumption | refine Below.drew ?_ | refine sorted.bdn ?_ _ | refine Below.alloc ?_ (by first | exact Nat.le_refl _ | exact Below.size (by assumption) | omega | (simp; done) | (simp; omega)) _))) (OwnInts.below HOX.out (by repeat (first | exact Below.refl _ _ | assumption | refine Below.drew ?_ | refine sorted.bdn ?_ _ | refine Below.alloc ?_ (by first | exact Nat.le_refl _ | exact Below.size (by assumption) | omega | (simp; done) | (simp; omega)) _))) hv4 hg4)
        obtain ⟨p4, n4, c4, hv4e, hn4⟩ := own_formN HR4.out
        subst hv4e
        have HN4 := hid hn4
        clear hn4
        have d1 : wD.cell? ⟨w1.heap.size, 1, none⟩ = some (.slice p n c) := by
          rw [hg4.cell_far ⟨w1.heap.size, 1, none⟩ (by simp; omega) (fun e => by have := hown4 w1.heap.size e.symm; omega)]
          exact keep (by repeat (first | exact Below.refl _ _ | assumption | refine Below.drew ?_ | refine sorted.bdn ?_ _ | refine Below.alloc ?_ (by first | exact Nat.le_refl _ | exact Below.size (by assumption) | omega | (simp; done) | (simp; omega)) _)) o1
        have d0 : wD.cell? ⟨w1.heap.size, 0, none⟩ = some (.int .i64 vars) := by
          rw [hg4.cell_far ⟨w1.heap.size, 0, none⟩ (by simp; omega) (fun e => by have := hown4 w1.heap.size e.symm; omega)]
          exact keep (by repeat (first | exact Below.refl _ _ | assumption | refine Below.drew ?_ | refine sorted.bdn ?_ _ | refine Below.alloc ?_ (by first | exact Nat.le_refl _ | exact Below.size (by assumption) | omega | (simp; done) | (simp; omega)) _)) o0
        have d2 : wD.frozen? ⟨w1.heap.size, 1, none⟩ = false := by
          rw [hg4.frozen_far ⟨w1.heap.size, 1, none⟩ (by simp; omega) (fun e => by have := hown4 w1.heap.size e.symm; omega)]
          rw [Below.frozen (B := wC.heap.size) (w := wC) (p := ⟨w1.heap.size, 1, none⟩) (by repeat (first | exact Below.refl _ _ | assumption | refine Below.drew ?_ | refine sorted.bdn ?_ _ | refine Below.alloc ?_ (by first | exact Nat.le_refl _ | exact Below.size (by assumption) | omega | (simp; done) | (simp; omega)) _)) (by dsimp only; omega)]
          exact o2
        have HGD : Hid (w1.grownBy wD (some b)) := grown_own (grown_own (grown_trans HG.out HGC.out) (below_grown (show Below wC.heap.size wC _ from (by repeat (first | exact Below.refl _ _ | assumption | refine Below.drew ?_ | refine sorted.bdn ?_ _ | refine Below.alloc ?_ (by first | exact Nat.le_refl _ | exact Below.size (by assumption) | omega | (simp; done) | (simp; omega)) _)))) (fun g e => by cases e)) hg4 (fun g e => by have := hown4 _ e; omega)
        have HSD : Hid (source.Src wD b a len cap (2 + 33 * (16 - (m - 1)))) := farRow (M := w1.heap.size + 1) (HSC.out.below (by repeat (first | exact Below.refl _ _ | assumption | refine Below.drew ?_ | refine sorted.bdn ?_ _ | refine Below.alloc ?_ (by first | exact Nat.le_refl _ | exact Below.size (by assumption) | omega | (simp; done) | (simp; omega)) _))) hg4 hown4 (by omega)
        have sD : w1.heap.size + 1 ≤ wD.heap.size := by have := hg4.size; simp at this; omega
        clear hv4 hg4 hown4
        refine hK.out _ _ ⟨d1, d0⟩ (fun hHeld => ?_)
        clear hK K'
        simp only [Act.put, List.setIfInBounds_toArray, List.set_cons_zero, List.set_cons_succ]
        refine Goes.take (i := 13) (v := ?v13u10) (some 31) hE rfl rfl inv (by kernel_rfl) (by kernel_rfl) (by decide) (fun _ _ _ h => h) (Or.inl ⟨by rfl, ?y13u10⟩) (by assumption) (fun inv => ?r13u10)
        case y13u10 => (intro w' hSw; (try dsimp only at hSw); go_simp; (try with_reducible rfl))
        simp only [Act.put, List.setIfInBounds_toArray, List.set_cons_zero, List.set_cons_succ]
        refine Goes.last (by kernel_rfl) (by kernel_rfl) rfl (fun K' hK => ?_)
        obtain ⟨hcD, _⟩ := hHeld
        go_simp
        refine hK.out _ _ ?_
        clear hK K'
        have HF1 := hid (World.cell?_setCell_same wD ⟨w1.heap.size, 1, none⟩ (.slice p4 n4 c4) hcD)
        have HF0 : Hid ((wD.setCell ⟨w1.heap.size, 1, none⟩ (.slice p4 n4 c4)).cell? ⟨w1.heap.size, 0, none⟩ = some (.int .i64 vars)) := by
          show _ = _
          rw [World.cell?_setCell_other _ _ _ _ (by simp)]
          exact d0
        have HF2 : Hid ((wD.setCell ⟨w1.heap.size, 1, none⟩ (.slice p4 n4 c4)).frozen? ⟨w1.heap.size, 1, none⟩ = false) := by
          show _ = _
          rw [World.frozen?_setCell]
          exact d2
        clear d0 d1 d2 hcD
        (try simp only [Exit.inBlock, Exit.then])
        go_wp2
        exact ⟨⟨m - 1, n4, c4, p4, _, by congr 1; omega, by omega, by rw [List.length_append]; simp; omega, HF0.out, HF1.out, HF2.out, HN4.out, by simp; omega, rows_ahead HR4.out (by omega), fun q hq => by
          rcases List.mem_append.1 hq with h | h
          · exact HCl.out q h
          · rw [List.mem_singleton] at h
            subst h
            exact HZ.out, grown_own HGD.out (grown_set (g := w1.heap.size) (k := 1) (v := .slice p4 n4 c4) (grown_refl _ _)) (fun g e => by injection e with e; omega), farRow (M := w1.heap.size) HSD.out (grown_set (g := w1.heap.size) (k := 1) (v := .slice p4 n4 c4) (grown_refl _ _)) (fun g e => by injection e with e; omega) (by omega)⟩, by simp [intOf]; omega⟩
    · have e : m = 0 := by omega
      subst e
      have q0 := fcell HG.out hne1 Q0.out
      have q1 := fcell HG.out hne1 Q1.out
      have q2 := ffroz HG.out hne1 s1 Q2.out
      have q3 := ffroz HG.out hne1 s1 Q3.out
      have HF : Hid (OwnRows w.heap.size ((wr.setCell ⟨w.heap.size, 0, none⟩ (.int .i64 vars)).setCell ⟨w.heap.size, 1, none⟩ (.slice p n c)) (.slice p n c) ps) := rows_mono (rows_ahead (rows_ahead HO.out (by omega)) (by omega)) (by omega)
      have HE : Hid (w.grownBy ((wr.setCell ⟨w.heap.size, 0, none⟩ (.int .i64 vars)).setCell ⟨w.heap.size, 1, none⟩ (.slice p n c)) (some b)) := by
        have h := grown_trans HG1.out HG.out
        exact grown_own (grown_own h (grown_set (g := w.heap.size) (k := 0) (v := .int .i64 vars) (grown_refl _ _)) (fun g e => by injection e with e; omega)) (grown_set (g := w.heap.size) (k := 1) (v := .slice p n c) (grown_refl _ _)) (fun g e => by injection e with e; omega)
      go_wp2
      (try simp only [Exit.inBlock, Exit.then])
      refine bodyPost_ret (v := .agg #[.int .i64 vars, .slice p n c]) (by simp [results, Tryd.results10, go_sem, q0, q1]) rfl ?_
      exact ⟨vars, p, n, c, ps, rfl, hv1, hv6, HF.out, by omega, HCl.out, HE.out⟩
set_option maxHeartbeats 400000 in
theorem cnfOf_spec (a : Option Addr) (len cap : Nat) (w : World) (hb : Bytes w a len) (hl : len ≤ 1048576) :
    Calls Tryd.prog 4 #[.slice a len cap] w fun e w' => ∃ vars p n c ps, e = .returned (.agg #[.int .i64 vars, .slice p n c]) ∧ 1 ≤ vars ∧ vars ≤ 6 ∧ OwnRows w.heap.size w' (.slice p n c) ps ∧ cnfB vars (ps.map (·.2)) = true ∧ ps.length ≤ 16 ∧ Below w.heap.size w w' := by
  have HB := hid hb
  clear hb
  go_enter Tryd.func4, Tryd.ntmps4
  go_wp2_with fail
  refine (source_spec a len cap _ ?_ hl).mono ?_
  · exact fun i hi => by
      obtain ⟨bb, off, e, x, hx, hc⟩ := HB.out i hi
      exact ⟨bb, off, e, x, hx, keep (by repeat (first | exact Below.refl _ _ | assumption | refine Below.drew ?_ | refine Below.alloc ?_ (by first | exact Nat.le_refl _ | omega | (simp; done) | (simp; omega)) _ | refine Below.setCell ?_ (by first | exact Nat.le_refl _ | omega | (simp; done) | (simp; omega)) _)) hc⟩
  rintro e w1 ⟨b, rfl, hbe, hbl, hs1, hb1⟩
  have q0 : w1.cell? ⟨w.heap.size, 0, none⟩ = some (.int .i64 0) := keep hb1 (by simp [go_sem])
  have q1 : w1.cell? ⟨w.heap.size, 1, none⟩ = some (.slice none 0 0) := keep hb1 (by simp [go_sem])
  have q2 : w1.frozen? ⟨w.heap.size, 0, none⟩ = false := by rw [hb1.frozen (p := ⟨w.heap.size, 0, none⟩) (by simp)]; simp [go_sem]
  have q3 : w1.frozen? ⟨w.heap.size, 1, none⟩ = false := by rw [hb1.frozen (p := ⟨w.heap.size, 1, none⟩) (by simp)]; simp [go_sem]
  have hbe' : b = w.heap.size + 1 := by simpa using hbe
  have HS1 := hid hs1
  have HB1 : Hid (Below w.heap.size w w1) := (show Below w.heap.size w _ from (by repeat (first | exact Below.refl _ _ | assumption | refine Below.drew ?_ | refine Below.alloc ?_ (by first | exact Nat.le_refl _ | omega | (simp; done) | (simp; omega)) _ | refine Below.setCell ?_ (by first | exact Nat.le_refl _ | omega | (simp; done) | (simp; omega)) _))).trans (hb1.mono (by simp))
  have HBe := hid hbe'
  have hne : w.heap.size ≠ b := by omega
  have s1 : w.heap.size < w1.heap.size := by have := hb1.size; simp at this; omega
  clear hs1 hb1 hbe hbe'
  go_wp2_with fail
  refine (cnf_src b a len cap _ HS1.out hbl).mono ?_
  rintro e w2 ⟨vars, p, n, c, ps, rfl, hv1, hv6, ho, hpl, hcl, hg⟩
  replace q0 := fcell hg hne q0
  replace q1 := fcell hg hne q1
  replace q2 := ffroz hg hne s1 q2
  replace q3 := ffroz hg hne s1 q3
  have HB2 : Hid (Below w.heap.size w w2) := HB1.out.grown hg HB1.out.size (fun g e => by injection e with e; have := HBe.out; omega)
  have HO : Hid (OwnRows w.heap.size ((w2.setCell ⟨w.heap.size, 0, none⟩ (.int .i64 vars)).setCell ⟨w.heap.size, 1, none⟩ (.slice p n c)) (.slice p n c) ps) := rows_mono (rows_ahead (rows_ahead ho (by omega)) (by omega)) (by omega)
  have HC : Hid (cnfB vars (ps.map (·.2)) = true) := by
    show _ = _
    unfold cnfB
    rw [decide_eq_true ⟨by omega, by omega, by rw [List.length_map]; omega⟩, Bool.true_and, List.all_eq_true]
    intro z hz
    obtain ⟨q, hq, rfl⟩ := List.mem_map.1 hz
    exact hcl q hq
  clear ho hcl hg
  go_wp2
  (try simp only [Exit.inBlock, Exit.then])
  refine bodyPost_ret (v := .agg #[.int .i64 vars, .slice p n c]) (by simp [results, Tryd.results4, go_sem, q0, q1]) rfl ?_
  exact ⟨vars, p, n, c, ps, rfl, hv1, hv6, HO.out, HC.out, hpl, (HB2.out.setCell (Nat.le_refl _) _).setCell (Nat.le_refl _) _⟩
end Go.Proofs.YtjdcndkgodpnlaaDoor.cnfDraw
