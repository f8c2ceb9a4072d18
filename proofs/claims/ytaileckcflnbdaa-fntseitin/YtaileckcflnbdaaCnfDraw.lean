/- Formulas that are drawn out of a code: they are right, and lie in memory of their own; two formulas that are the same; conditions: a code that fits. -/
import Derived.Test.YtaileckcflnbdaaRowsOwn
import Derived.Test.YtaileckcflnbdaaSourceI
import Derived.Test.YtaileckcflnbdaaHeldStore
import Derived.Test.YtaileckcflnbdaaCnf
import Derived.Laws.AppendOwnNone
import Derived.Deep.AppendLies
namespace Go.Proofs.Ytaileckcflnbdaa.sorted
open Go.RowKit Go.Deep
theorem bdn {B : Nat} {W w1 : World} (h : Below B W w1) (n : Nat) : Below B W (w1.drewN n) := h.trans ⟨rfl, rfl, rfl, Nat.le_refl _, fun _ _ => rfl⟩
end Go.Proofs.Ytaileckcflnbdaa.sorted
namespace Go.Proofs.Ytaileckcflnbdaa.cnfDraw
open Go.RowKit Go.Deep Go.Sort base copy cnf rowsOwn source heldStore
set_option linter.unusedVariables false

theorem step_append_own {P : Program} (w : World) {ops : Array Oper} {o : Oper} {a : Act} {K : Act → World → Prop} {Q : Exit → Act → World → Prop} {E : Prop} (hgd : o.guard = none) (s x : Operand) (t : TypeId)
    (ho : o.op = .call { callee := .builtin .append, args := #[s, x], argTypes := #[t, t] })
    (base : Nat) (e : TypeId) (i : TypeInfo) (z : Value) (size bytes : Nat) (ht : P.underlying t = some (.slice e)) (hi : P.info? e = some i) (hz : i.zero = some z)
    (hsize : i.size = size) (hby : i.bytes = bytes) (hzs : z.cells.size = size) (hsz : 0 < size)
    (v : Value) (n : Nat) (xs : List Value) (hs : a.eval s = v) (hown : w.ownsRow base e size v n xs)
    (ad : Addr) (m c : Nat) (news : List Value) (hx : a.eval x = .slice (some ad) m c) (hl : news.length = m * size) (hnews : ∀ j u, news[j]? = some u → w.cell? (ad.add j) = some u) (h1 : ∀ u ∈ news, u.oneCell' = true)
    (h63 : n + m ≤ maxLen) (hbytes : (n + m) * bytes ≤ 140737488355328) (hbase : base ≤ w.heap.size)
    (h : ∀ v' w', w'.ownsRow base e size v' (n + m) (xs ++ news) → w.grownBy w' v.ownBlock → (v' = .slice none 0 0 ↔ v = .slice none 0 0 ∧ m = 0) → K (a.put o.dst v') w') :
    if Region.wanted o (yielded ops a.tmps) = true then Oper.wp P o a w K Q else E := by
  have hw : Region.wanted o (yielded ops a.tmps) = true := by simp [Region.wanted, hgd]
  rw [if_pos hw]
  exact wp_append_own w s x t ho base e i z size bytes ht hi hz hsize hby hzs hsz v n xs hs hown ad m c news hx hl hnews h1 h63 hbytes hbase h
theorem own_new {B H : Nat} (w : World) (h : w.heap.size = H) (hB : B ≤ H) : (w.alloc (.cells #[] 3)).ownsRow B 3 1 (.slice (some ⟨H, 0, none⟩) 0 0) 0 [] := ⟨rfl, .inr ⟨H, 0, #[], rfl, hB, by subst h; exact heap_alloc_new w _, Nat.le_refl _, Nat.zero_le _, rfl, rfl⟩⟩
/-- What a slice to be appended holds: nothing, where it is nil; its cells. -/
def SrcOf (w : World) (sx : Value) (m : Nat) (news : List Value) : Prop := (sx = .slice none 0 0 ∧ m = 0 ∧ news = []) ∨ ∃ ad c, sx = .slice (some ad) m c ∧ news.length = m * 1 ∧ ∀ j u, news[j]? = some u → w.cell? (ad.add j) = some u
theorem step_append_src {P : Program} (w : World) {ops : Array Oper} {o : Oper} {a : Act} {K : Act → World → Prop} {Q : Exit → Act → World → Prop} {E : Prop} (hgd : o.guard = none) (s x : Operand) (t : TypeId)
    (ho : o.op = .call { callee := .builtin .append, args := #[s, x], argTypes := #[t, t] }) (d : Option Tmp) (hd : o.dst = d)
    (base : Nat) (e : TypeId) (i : TypeInfo) (z : Value) (bytes : Nat) (ht : P.underlying t = some (.slice e)) (hi : P.info? e = some i) (hz : i.zero = some z)
    (hsize : i.size = 1) (hby : i.bytes = bytes) (hzs : z.cells.size = 1)
    (v : Value) (n : Nat) (xs : List Value) (hs : a.eval s = v) (hown : w.ownsRow base e 1 v n xs)
    (sx : Value) (m : Nat) (news : List Value) (hx : a.eval x = sx) (hsrc : SrcOf w sx m news) (h1 : ∀ u ∈ news, u.oneCell' = true)
    (h63 : n + m ≤ maxLen) (hbytes : (n + m) * bytes ≤ 140737488355328) (hbase : base ≤ w.heap.size)
    (h : ∀ v' w', w'.ownsRow base e 1 v' (n + m) (xs ++ news) → w.grownBy w' v.ownBlock → K (a.put d v') w') :
    if Region.wanted o (yielded ops a.tmps) = true then Oper.wp P o a w K Q else E := by
  subst hd
  rcases hsrc with ⟨rfl, rfl, rfl⟩ | ⟨ad, c, rfl, hl, hc⟩
  · have hw : Region.wanted o (yielded ops a.tmps) = true := by simp [Region.wanted, hgd]
    rw [if_pos hw]
    have hrun := run_append_owned_none (P := P) (w := w) base t o.type e i 1 ht hi v n xs hown
    have := h v w (by simpa using hown) (grown_refl w _)
    unfold Oper.wp
    simp [execOp, ho, resolve, invoke, builtin, hs, hx, hrun, Result.andThen]
    exact this
  · exact step_append_own w hgd s x t ho base e i z 1 bytes ht hi hz hsize hby hzs (by decide) v n xs hs hown ad m c news hx hl hc h1 h63 hbytes hbase fun v' w' h2 h3 _ => h v' w' h2 h3
theorem rows_append {B : Nat} {w w3 : World} {v v' x : Value} {ps : List (Value × List Int)} {zs : List Int} (h : OwnRows B w v ps) (hx : OwnInts B w x zs) (ho : w3.ownsRow B 30 1 v' (ps.length + 1) (ps.map Prod.fst ++ [x])) (hg : w.grownBy w3 v.ownBlock) : OwnRows B w3 v' (ps ++ [(x, zs)]) := by
  have hap : ∀ q : Value × List Int, OwnInts B w q.1 q.2 → OwnInts B w3 q.1 q.2 := fun q hq => by
    refine own_grown hq hg fun k hk => ?_
    rcases h.outer.2 with ⟨e, _⟩ | ⟨g', c', cur, e, _⟩
    · rw [e]; exact fun e => by cases e
    · subst e
      have hh := OwnRows.apart h hq hk
      intro e
      have e' : some k = some g' := e
      injection e' with e'
      exact hh e'
  refine ⟨by rw [List.length_append, List.map_append]; exact ho, fun q hq => ?_⟩
  rcases List.mem_append.1 hq with hq | hq
  · exact hap q (h.inner q hq)
  · rw [List.mem_singleton] at hq
    subst hq
    exact hap _ hx
theorem own_form {B : Nat} {w : World} {v : Value} {ps : List (Value × List Int)} (h : OwnRows B w v ps) : ∃ p c, v = .slice p ps.length c := by
  rcases h.outer.2 with ⟨e, h0⟩ | ⟨g, c, cur, e, _⟩
  · exact ⟨none, 0, by rw [e, h0]⟩
  · exact ⟨_, _, e⟩
theorem own_lt {B g : Nat} {w : World} {v : Value} {zs : List Int} (h : OwnInts B w v zs) (hg : v.ownBlock = some g) : B ≤ g ∧ g < w.heap.size := World.ownsRow.lt h g hg
theorem farRow {w w1 : World} {b len cap k M : Nat} {a : Option Addr} {row : Option Nat} (h : source.Src w b a len cap k) (hg : w.grownBy w1 row) (hr : ∀ g, row = some g → M ≤ g) (hM : b < M) : source.Src w1 b a len cap k := by
  obtain ⟨h1, ⟨n, s, p1, p2, p3, p4, hrow⟩, h3⟩ := h
  exact ⟨h1, ⟨n, s, p1, p2, p3, p4, hrow.of_block (hg.block b hrow.lt (fun e => by have := hr b e.symm; omega))⟩, fun i hi => by
    obtain ⟨bb, off, e, hne, x, hx, hc⟩ := h3 i hi
    refine ⟨bb, off, e, hne, x, hx, ?_⟩
    rw [World.cell?_of_block (a := ⟨bb, off + i, none⟩) (hg.block bb (World.block_lt_of_cell? _ _ hc) (fun e => by have := hr bb e.symm; omega))]
    exact hc⟩
/-- Only block b, and what is new, has turned. -/
theorem grown_own {w w1 w2 : World} {b : Nat} {row : Option Nat} (h : w.grownBy w1 (some b)) (hg : w1.grownBy w2 row) (hr : ∀ g, row = some g → w.heap.size ≤ g) : w.grownBy w2 (some b) :=
  ⟨hg.os.trans h.os, hg.tape.trans h.tape, hg.output.trans h.output, Nat.le_trans h.size hg.size, fun k hk hne => by
    rw [hg.block k (Nat.lt_of_lt_of_le hk h.size) (fun e => by have := hr k e.symm; omega), h.block k hk hne]⟩
theorem below_grown {w w1 : World} (h : Below w.heap.size w w1) : w.grownBy w1 none := ⟨h.os, h.tape, h.output, h.size, fun k hk _ => h.block k hk⟩
theorem own_far {B b : Nat} {w w1 : World} {v : Value} {zs : List Int} (h : OwnInts B w v zs) (hg : w.grownBy w1 (some b)) (hb : b < B) : OwnInts B w1 v zs :=
  own_grown h hg (fun g hgv e => by injection e with e; have := (own_lt h hgv).1; omega)
theorem own_formN {B : Nat} {w : World} {v : Value} {ps : List (Value × List Int)} (h : OwnRows B w v ps) : ∃ p n c, v = .slice p n c ∧ ps.length = n := by
  obtain ⟨p, c, e⟩ := own_form h
  exact ⟨p, _, c, e, rfl⟩
theorem lit_cell (w : World) (ρ : Nat) (h : ρ < 7) : ∃ lv : Int, (w.alloc (.cells #[.int .i64 2, .int .i64 3, .int .i64 1, .int .i64 2, .int .i64 3, .int .i64 0, .int .i64 3] 3)).cell? ⟨w.heap.size, ρ, none⟩ = some (.int .i64 lv) ∧ 0 ≤ lv ∧ lv ≤ 3 := by
  rcases (show ρ = 0 ∨ ρ = 1 ∨ ρ = 2 ∨ ρ = 3 ∨ ρ = 4 ∨ ρ = 5 ∨ ρ = 6 by omega) with e | e | e | e | e | e | e
  · subst e; exact ⟨2, by simp [go_sem], by omega, by omega⟩
  · subst e; exact ⟨3, by simp [go_sem], by omega, by omega⟩
  · subst e; exact ⟨1, by simp [go_sem], by omega, by omega⟩
  · subst e; exact ⟨2, by simp [go_sem], by omega, by omega⟩
  · subst e; exact ⟨3, by simp [go_sem], by omega, by omega⟩
  · subst e; exact ⟨0, by simp [go_sem], by omega, by omega⟩
  · subst e; exact ⟨3, by simp [go_sem], by omega, by omega⟩
theorem fcell {w w1 : World} {b bb o : Nat} {v : Value} (h : w.grownBy w1 (some b)) (hne : bb ≠ b) (hc : w.cell? ⟨bb, o, none⟩ = some v) : w1.cell? ⟨bb, o, none⟩ = some v := by
  rw [h.cell_far ⟨bb, o, none⟩ (World.block_lt_of_cell? _ _ hc) (fun e => hne (by injection e))]; exact hc
theorem ffroz {w w1 : World} {b bb o : Nat} (h : w.grownBy w1 (some b)) (hne : bb ≠ b) (hlt : bb < w.heap.size) (hc : w.frozen? ⟨bb, o, none⟩ = false) : w1.frozen? ⟨bb, o, none⟩ = false := by
  rw [h.frozen_far ⟨bb, o, none⟩ hlt (fun e => hne (by injection e))]; exact hc
theorem rows_far {B b : Nat} {w w1 : World} {v : Value} {ps : List (Value × List Int)} (h : OwnRows B w v ps) (hg : w.grownBy w1 (some b)) (hb : b < B) : OwnRows B w1 v ps :=
  ⟨outer_grown h hg (fun g hgv e => by injection e with e; have := (World.ownsRow.lt h.outer g hgv).1; omega), fun p hp => own_far (h.inner p hp) hg hb⟩
set_option maxHeartbeats 400000 in
theorem same_ints (a a' : Option Addr) (len len' cap cap' : Nat) (zs ys : List Int) (w : World) (hr : IntRow w a len zs) (hr' : IntRow w a' len' ys) :
    Calls Try.prog 27 #[.slice a len cap, .slice a' len' cap'] w fun e w' => e = .returned (.bool (decide (zs = ys))) ∧ ∃ n, w' = w.drewN n := by
  obtain ⟨hlen, hmost, hcell⟩ := hr
  obtain ⟨hlen', hmost', hcell'⟩ := hr'
  unfold maxLen at hmost hmost'
  have HC := hid hcell
  have HC' := hid hcell'
  have HL := hid hlen
  have HL' := hid hlen'
  clear hcell hcell' hlen hlen'
  by_cases hne : len = len'
  · subst hne
    have hb : ((len : Int) != (len : Int)) = false := by simp
    go_enter Try.func27, Try.ntmps27
    go_wp2
    go_loopw [5] (fun i wr => ∃ k : Nat, k ≤ len ∧ i = .int .i64 k ∧ zs.take k = ys.take k ∧ ∃ n, wr = w.drewN n) (fun i _ => len - (intOf i).toNat)
    case atStart => exact ⟨0, Nat.zero_le _, rfl, rfl, 0, rfl⟩
    case round =>
      obtain ⟨k, hk, rfl, ht, n, hw⟩ := hrel
      have HT := hid ht
      clear ht
      by_cases hlt : k < len
      · obtain ⟨b, off, rfl, hc0⟩ := HC.out k hlt
        obtain ⟨b', off', rfl, hc0'⟩ := HC'.out k hlt
        have hc : wr.cell? ⟨b, off + k, none⟩ = some (.int .i64 (zs[k]?.getD 0)) := by rw [hw]; simpa using hc0
        have hc' : wr.cell? ⟨b', off' + k, none⟩ = some (.int .i64 (ys[k]?.getD 0)) := by rw [hw]; simpa using hc0'
        have HW := hid hw
        clear hw hc0 hc0'
        by_cases he : zs[k]?.getD 0 = ys[k]?.getD 0
        · have hq : (zs[k]?.getD 0 != ys[k]?.getD 0) = false := by simp [he]
          have HE := hid he
          clear he
          go_wp2
          go_quiet (fail)
          go_wp2
          go_roundw
          case rel => exact ⟨k + 1, by omega, by go_num, take_eq_succ (by rw [HL.out]; omega) (by rw [HL'.out]; omega) HT.out HE.out, n + nq, by rw [HW.out, World.drewN_drewN]⟩
          case measure => simp [intOf]; omega
        · have hq : (zs[k]?.getD 0 != ys[k]?.getD 0) = true := by simp [he]
          have HE := hid he
          clear he
          go_wp2
          go_quiet (fail)
          go_wp2
          go_ret
          exact ⟨ret_bool (decide_eq_false (ne_of_getD HE.out)).symm, n + nq, by rw [HW.out, World.drewN_drewN]⟩
      · have e : k = len := by omega
        subst e
        have HW := hid hw
        clear hw
        go_wp2
        go_ret
        refine ⟨ret_bool (decide_eq_true ?_).symm, n, HW.out⟩
        have := HT.out
        rwa [List.take_of_length_le (by rw [HL.out]; omega), List.take_of_length_le (by rw [HL'.out]; omega)] at this
  · have hb : ((len : Int) != (len' : Int)) = true := by simp; omega
    have hd : ¬ zs = ys := fun h => hne (by rw [← HL.out, ← HL'.out, h])
    have HD := hid hd
    clear hd
    go_enter Try.func27, Try.ntmps27
    go_wp2
    go_ret
    exact ⟨ret_bool (decide_eq_false HD.out).symm, 0, rfl⟩
set_option maxHeartbeats 800000 in
theorem same_cnf (v : Int) (a a' : Option Addr) (len cap cap' : Nat) (zs : List (List Int)) (w : World) (hr : IntRows w a len zs) (hr' : IntRows w a' len zs) :
    Calls Try.prog 8 #[.agg #[.int .i64 v, .slice a len cap], .agg #[.int .i64 v, .slice a' len cap']] w fun e w' => e = .returned (.bool true) ∧ Below w.heap.size w w' := by
  have hmost := hr.most
  unfold maxLen at hmost
  have HR := hid hr
  have HR' := hid hr'
  clear hr hr'
  have hbv : (v != v) = false := by simp
  have hbl : ((len : Int) != (len : Int)) = false := by simp
  go_enter Try.func8, Try.ntmps8
  go_wp2
  go_loopw [5] (fun i wr => ∃ k : Nat, k ≤ len ∧ i = .int .i64 k ∧ Below w.heap.size w wr ∧ w.heap.size + 1 < wr.heap.size ∧ wr.cell? ⟨w.heap.size, 1, none⟩ = some (.slice a len cap) ∧ wr.cell? ⟨w.heap.size + 1, 1, none⟩ = some (.slice a' len cap')) (fun i _ => len - (intOf i).toNat)
  case atStart => exact ⟨0, Nat.zero_le _, rfl, (by repeat (first | exact Below.refl _ _ | assumption | refine Below.drew ?_ | refine Below.alloc ?_ (by first | exact Nat.le_refl _ | omega | (simp; done) | (simp; omega)) _ | refine Below.setCell ?_ (by first | exact Nat.le_refl _ | omega | (simp; done) | (simp; omega)) _)), by simp, by simp [go_sem], by simp [go_sem]⟩
  case round =>
    obtain ⟨k, hk, rfl, hb, hsz, d0, d1⟩ := hrel
    have HB := hid hb
    clear hb
    by_cases hlt : k < len
    · obtain ⟨b, off, rfl, x, l, c, hc0, hx0⟩ := HR.out.cell k hlt
      obtain ⟨b', off', rfl, x', l', c', hc0', hx0'⟩ := HR'.out.cell k hlt
      have hc := keep HB.out hc0
      have hc' := keep HB.out hc0'
      have hx := hx0.below HB.out
      have hx' := hx0'.below HB.out
      have HX := hid hx
      have HX' := hid hx'
      clear hc0 hc0' hx0 hx0' hx hx'
      generalize zs[k]?.getD [] = ys at *
      have HC : Hid (∀ q, Calls Try.prog 27 #[.slice x l c, .slice x' l' c'] (wr.drewN q) fun e w' => e = .returned (.bool true) ∧ ∃ n, w' = (wr.drewN q).drewN n) := fun q => (same_ints x x' l l' c c' ys ys _ (HX.out.drewN q) (HX'.out.drewN q)).mono (fun e w' ⟨he, hw⟩ => ⟨by rw [he, decide_eq_true rfl], hw⟩)
      have i1 : (0 : Int) ≤ (k : Int) := by omega
      have i2 : (k : Int) < (len : Int) := by omega
      go_wp2
      go_quiet ((go_at_call 27; exact Calls.quiet_of (HC.out _)))
      go_wp2
      go_roundw
      case rel => exact ⟨k + 1, by omega, by go_num, HB.out.trans ((below_drewN _ _).mono HB.out.size), hsz, d0, d1⟩
      case measure => simp [intOf]; omega
    · go_wp2
      go_ret
      exact ⟨rfl, HB.out⟩
end Go.Proofs.Ytaileckcflnbdaa.cnfDraw
