import Derived.Test.YtmkhoocokpkojaaGreatDoorPart1
import Derived.BigRegion
import Derived.StillTail
import Derived.Deep.RegionHeld3
namespace Go.Proofs.YtmkhoocokpkojaaGreatDoor.source
open Go.RowKit Go.Deep Go.Sort base intsOwn
def Bytes (w : World) (a : Option Addr) (len : Nat) : Prop := ∀ i, i < len → ∃ bb off, a = some ⟨bb, off, none⟩ ∧ ∃ x : Nat, x < 256 ∧ w.cell? ⟨bb, off + i, none⟩ = some (.int .u8 x)
structure Src (w : World) (b : Nat) (a : Option Addr) (len cap k : Nat) : Prop where
 long : len ≤ 1048576
 cells : ∃ n s : Int, 0 ≤ n ∧ n ≤ k ∧ 0 ≤ s ∧ s < 2147483648 ∧ w.rowIs b 82 3 (fun i => if i = 0 then .slice a len cap else if i = 1 then .int .i64 n else .int .i64 s)
 bytes : ∀ i, i < len → ∃ bb off, a = some ⟨bb, off, none⟩ ∧ bb < b ∧ ∃ x : Nat, x < 256 ∧ w.cell? ⟨bb, off + i, none⟩ = some (.int .u8 x)
theorem Src.below {w w1 : World} {b len cap k : Nat} {a : Option Addr} (h : Src w b a len cap k) (hb : Below w.heap.size w w1) : Src w1 b a len cap k := by
 obtain ⟨h1, ⟨n, s, p1, p2, p3, p4, hr⟩, h3⟩ := h
 exact ⟨h1, ⟨n, s, p1, p2, p3, p4, hr.of_block (hb.block _ hr.lt)⟩, fun i hi => by
  obtain ⟨bb, off, e, hne, x, hx, hc⟩ := h3 i hi
  exact ⟨bb, off, e, hne, x, hx, keep hb hc⟩⟩
theorem Src.mono {w : World} {b len cap k k' : Nat} {a : Option Addr} (h : Src w b a len cap k) (hk : k ≤ k') : Src w b a len cap k' := by
 obtain ⟨h1, ⟨n, s, p1, p2, p3, p4, hr⟩, h3⟩ := h
 exact ⟨h1, ⟨n, s, p1, by omega, p3, p4, hr⟩, h3⟩
theorem rem_range (x m : Int) (h : 0 ≤ x) (hm : 0 < m) : 0 ≤ x.tmod m ∧ x.tmod m < m := by
 rw [Int.tmod_eq_emod_of_nonneg h]
 exact ⟨Int.emod_nonneg _ (by omega), Int.emod_lt_of_pos _ hm⟩
theorem row_facts {w : World} {b : Nat} {x y z : Value} (h : w.rowIs b 82 3 (fun i => if i = 0 then x else if i = 1 then y else z)) :
  w.cell? ⟨b, 0, none⟩ = some x ∧ w.cell? ⟨b, 1, none⟩ = some y ∧ w.cell? ⟨b, 2, none⟩ = some z ∧ w.frozen? ⟨b, 1, none⟩ = false ∧ w.frozen? ⟨b, 2, none⟩ = false :=
 ⟨by simpa using h.cell (i := 0) (by omega), by simpa using h.cell (i := 1) (by omega), by simpa using h.cell (i := 2) (by omega), h.frozen 1, h.frozen 2⟩
theorem row_set1 {w : World} {b : Nat} {x y z : Value} (h : w.rowIs b 82 3 (fun i => if i = 0 then x else if i = 1 then y else z)) (v : Value) : (w.setCell ⟨b, 1, none⟩ v).rowIs b 82 3 (fun i => if i = 0 then x else if i = 1 then v else z) :=
 (h.set 1 v).congr (fun i hi => by rcases (show i = 0 ∨ i = 1 ∨ i = 2 by omega) with rfl | rfl | rfl <;> simp)
theorem row_set2 {w : World} {b : Nat} {x y z : Value} (h : w.rowIs b 82 3 (fun i => if i = 0 then x else if i = 1 then y else z)) (v : Value) : (w.setCell ⟨b, 2, none⟩ v).rowIs b 82 3 (fun i => if i = 0 then x else if i = 1 then y else v) :=
 (h.set 2 v).congr (fun i hi => by rcases (show i = 0 ∨ i = 1 ∨ i = 2 by omega) with rfl | rfl | rfl <;> simp)
theorem grown_drewN {w w1 : World} {row : Option Nat} (h : w.grownBy w1 row) (n : Nat) : w.grownBy (w1.drewN n) row := ⟨h.os, h.tape, h.output, h.size, h.block⟩
theorem grown_trans {w w1 w2 : World} {row : Option Nat} (h : w.grownBy w1 row) (h' : w1.grownBy w2 row) : w.grownBy w2 row :=
 ⟨h'.os.trans h.os, h'.tape.trans h.tape, h'.output.trans h.output, Nat.le_trans h.size h'.size, fun k hk hne => by rw [h'.block k (Nat.lt_of_lt_of_le hk h.size) hne, h.block k hk hne]⟩
theorem far {w w1 : World} {b bb o : Nat} {v : Value} (h : w.grownBy w1 (some b)) (hne : bb < b) (hc : w.cell? ⟨bb, o, none⟩ = some v) : w1.cell? ⟨bb, o, none⟩ = some v := by
 rw [World.cell?_of_block (a := ⟨bb, o, none⟩) (h.block bb (World.block_lt_of_cell? _ _ hc) (fun e => Nat.ne_of_lt hne (by injection e)))]
 exact hc
set_option maxHeartbeats 1600000 in
theorem byte_src (b : Nat) (a : Option Addr) (len cap k : Nat) (w : World) (h : Src w b a len cap k) (hk : k ≤ 1048576) :
  Calls Tryz.prog 60 #[.pointer (some ⟨b, 0, none⟩)] w fun e w' => ∃ r : Int, e = .returned (.int .i64 r) ∧ 0 ≤ r ∧ r < 256 ∧ Src w' b a len cap (k + 1) ∧ w.grownBy w' (some b) := by
 obtain ⟨hlong, ⟨n, s, p1, p2, p3, p4, hr⟩, hbytes⟩ := h
 obtain ⟨c0, c1, c2, f1, f2⟩ := row_facts hr
 have HR1 := hid (row_set1 hr (.int .i64 (n + 1)))
 have HBy := hid hbytes
 have HG1 : Hid (w.grownBy (w.setCell ⟨b, 1, none⟩ (.int .i64 (n + 1))) (some b)) := grown_set (grown_refl _ _)
 clear hbytes hr
 go_enter Tryz.func60, Tryz.ntmps60
 go_wp2
 generalize w.setCell ⟨b, 1, none⟩ (.int .i64 (n + 1)) = W1 at HR1 HG1 ⊢
 obtain ⟨d0, d1, d2, g1, g2⟩ := row_facts HR1.out
 clear c0 c1 c2 f1 f2
 obtain ⟨m, rfl⟩ := Int.eq_ofNat_of_zero_le p1
 by_cases hle : (m : Int) + 1 ≤ (len : Int)
 · obtain ⟨bb, off, rfl, hne, x, hx, hc⟩ := HBy.out m (by omega)
   have hcx := far HG1.out hne hc
   clear hc
   go_quiet (fail)
   have e0 : (W1.drewN nq).cell? ⟨b, 0, none⟩ = some (.slice (some ⟨bb, off, none⟩) len cap) := d0
   have e1 : (W1.drewN nq).cell? ⟨b, 1, none⟩ = some (.int .i64 ((m : Int) + 1)) := d1
   have e2 : (W1.drewN nq).cell? ⟨b, 2, none⟩ = some (.int .i64 s) := d2
   have e3 : (W1.drewN nq).cell? ⟨bb, off + m, none⟩ = some (.int .u8 x) := hcx
   have e4 : (W1.drewN nq).frozen? ⟨b, 2, none⟩ = false := g2
   have HR2 : Hid ((W1.drewN nq).rowIs b 82 3 (fun i => if i = 0 then .slice (some ⟨bb, off, none⟩) len cap else if i = 1 then .int .i64 ((m : Int) + 1) else .int .i64 s)) := HR1.out
   have HG2 := hid (grown_drewN HG1.out nq)
   clear d0 d1 d2 g1 g2 hcx HR1 HG1
   generalize W1.drewN nq = W2 at *
   have hrem := rem_range (s * 31 + x + 7) 2147483648 (by omega) (by omega)
   go_wp2
   go_region
   have hs2 : 0 ≤ (s * 31 + x + 7) % 2147483648 ∧ (s * 31 + x + 7) % 2147483648 < 2147483648 := ⟨Int.emod_nonneg _ (by omega), Int.emod_lt_of_pos _ (by omega)⟩
   generalize (s * 31 + x + 7) % 2147483648 = s2 at *
   have HR3 : Hid ((W2.setCell ⟨b, 2, none⟩ (.int .i64 s2)).drew.rowIs b 82 3 (fun i => if i = 0 then .slice (some ⟨bb, off, none⟩) len cap else if i = 1 then .int .i64 ((m : Int) + 1) else .int .i64 s2)) := row_set2 HR2.out _
   have HG3 : Hid (w.grownBy (W2.setCell ⟨b, 2, none⟩ (.int .i64 s2)).drew (some b)) := grown_drewN (grown_set HG2.out) 1
   have e3' : (W2.setCell ⟨b, 2, none⟩ (.int .i64 s2)).drew.cell? ⟨bb, off + m, none⟩ = some (.int .u8 x) := far (w := W2) (b := b) (grown_drewN (grown_set (grown_refl _ _)) 1) hne e3
   clear e0 e1 e2 e3 e4 HR2 HG2
   generalize (W2.setCell ⟨b, 2, none⟩ (.int .i64 s2)).drew = W3 at *
   obtain ⟨e0, e1, e2, _, _⟩ := row_facts HR3.out
   go_wp2
   go_quiet (fail)
   go_wp2
   go_ret
   refine ⟨x, rfl, by omega, by omega, ⟨hlong, ⟨(m : Int) + 1, s2, by omega, by omega, hs2.1, hs2.2, HR3.out⟩, fun i hi => ?_⟩, grown_drewN HG3.out _⟩
   obtain ⟨bb', off', e, hne', x', hx', hc'⟩ := HBy.out i hi
   exact ⟨bb', off', e, hne', x', hx', far (grown_drewN HG3.out _) hne' hc'⟩
 · have HRest : Hid (∀ i, i < len → ∃ bb off, a = some ⟨bb, off, none⟩ ∧ bb < b ∧ ∃ x : Nat, x < 256 ∧ W1.cell? ⟨bb, off + i, none⟩ = some (.int .u8 x)) := fun i hi => by
    obtain ⟨bb', off', e, hne', x', hx', hc'⟩ := HBy.out i hi
    exact ⟨bb', off', e, hne', x', hx', far HG1.out hne' hc'⟩
   go_quiet (fail)
   have e1 : (W1.drewN nq).cell? ⟨b, 1, none⟩ = some (.int .i64 ((m : Int) + 1)) := d1
   have e2 : (W1.drewN nq).cell? ⟨b, 2, none⟩ = some (.int .i64 s) := d2
   have e4 : (W1.drewN nq).frozen? ⟨b, 2, none⟩ = false := g2
   have HR2 : Hid ((W1.drewN nq).rowIs b 82 3 (fun i => if i = 0 then .slice a len cap else if i = 1 then .int .i64 ((m : Int) + 1) else .int .i64 s)) := HR1.out
   have HG2 := hid (grown_drewN HG1.out nq)
   have HRest2 : Hid (∀ i, i < len → ∃ bb off, a = some ⟨bb, off, none⟩ ∧ bb < b ∧ ∃ x : Nat, x < 256 ∧ (W1.drewN nq).cell? ⟨bb, off + i, none⟩ = some (.int .u8 x)) := HRest.out
   clear d0 d1 d2 g1 g2 HR1 HG1 HBy HRest
   generalize W1.drewN nq = W2 at *
   by_cases h3 : 3000 < (m : Int) + 1
   · go_wp2
     go_ret
     exact ⟨0, rfl, by omega, by omega, ⟨hlong, ⟨(m : Int) + 1, s, by omega, by omega, p3, p4, HR2.out⟩, HRest2.out⟩, HG2.out⟩
   · have hs2 : 0 ≤ (s * 1103515245 + 12345) % 2147483648 ∧ (s * 1103515245 + 12345) % 2147483648 < 2147483648 := ⟨Int.emod_nonneg _ (by omega), Int.emod_lt_of_pos _ (by omega)⟩
     have HR3 := hid (row_set2 HR2.out (.int .i64 ((s * 1103515245 + 12345) % 2147483648)))
     obtain ⟨_, _, t2, _, _⟩ := row_facts HR3.out
     have HS2 := hid hs2
     clear hs2
     go_wp2
     go_ret
     refine ⟨_, rfl, Int.emod_nonneg _ (by omega), Int.emod_lt_of_pos _ (by omega), ⟨hlong, ⟨(m : Int) + 1, _, by omega, by omega, HS2.out.1, HS2.out.2, HR3.out⟩, fun i hi => ?_⟩, grown_set HG2.out⟩
     obtain ⟨bb', off', e, hne', x', hx', hc'⟩ := HRest2.out i hi
     exact ⟨bb', off', e, hne', x', hx', far (grown_set (grown_refl _ _)) hne' hc'⟩
set_option maxHeartbeats 800000 in
theorem next_src (b : Nat) (a : Option Addr) (len cap k : Nat) (n : Int) (w : World) (h : Src w b a len cap k) (hk : k ≤ 1048576) (hn : 1 ≤ n) (hn' : n ≤ 256) :
  Calls Tryz.prog 35 #[.pointer (some ⟨b, 0, none⟩), .int .i64 n] w fun e w' => ∃ r : Int, e = .returned (.int .i64 r) ∧ 0 ≤ r ∧ r < n ∧ Src w' b a len cap (k + 1) ∧ w.grownBy w' (some b) := by
 have HS := hid h
 clear h
 by_cases h1n : n = 1
 · subst h1n
   go_enter Tryz.func35, Tryz.ntmps35
   go_wp2
   go_ret
   exact ⟨0, rfl, by omega, by omega, HS.out.mono (by omega), grown_refl _ _⟩
 have hgt : 1 < n := by omega
 go_enter Tryz.func35, Tryz.ntmps35
 go_wp2_with fail
 refine (byte_src b a len cap k _ HS.out hk).mono ?_
 rintro e w1 ⟨r, rfl, h0, h1, hs1, hg1⟩
 have HS1 := hid hs1
 have HG1 := hid hg1
 clear hs1 hg1
 have hr := rem_range r n h0 (by omega)
 have HRm := hid hr
 clear hr
 go_wp2
 go_ret
 exact ⟨r % n, rfl, Int.emod_nonneg _ (by omega), Int.emod_lt_of_pos _ (by omega), HS1.out, HG1.out⟩
set_option maxHeartbeats 800000 in
theorem chance_src (b : Nat) (a : Option Addr) (len cap k : Nat) (n : Int) (w : World) (h : Src w b a len cap k) (hk : k ≤ 1048576) (hn : 1 < n) (hn' : n ≤ 256) :
  Calls Tryz.prog 38 #[.pointer (some ⟨b, 0, none⟩), .int .i64 n] w fun e w' => ∃ t : Bool, e = .returned (.bool t) ∧ Src w' b a len cap (k + 1) ∧ w.grownBy w' (some b) := by
 have HS := hid h
 clear h
 go_enter Tryz.func38, Tryz.ntmps38
 go_wp2_with fail
 refine (next_src b a len cap k n _ HS.out hk (by omega) hn').mono ?_
 rintro e w1 ⟨r, rfl, h0, h1, hs1, hg1⟩
 have HS1 := hid hs1
 have HG1 := hid hg1
 clear hs1 hg1
 go_wp2
 go_ret
 exact ⟨_, rfl, HS1.out, HG1.out⟩
set_option maxHeartbeats 800000 in
theorem source_spec (a : Option Addr) (len cap : Nat) (w : World) (hb : Bytes w a len) (hl : len ≤ 1048576) :
  Calls Tryz.prog 14 #[.slice a len cap] w fun e w' => ∃ b, e = .returned (.pointer (some ⟨b, 0, none⟩)) ∧ b = w.heap.size ∧ b < w'.heap.size ∧ Src w' b a len cap 0 ∧ Below w.heap.size w w' := by
 have HB := hid hb
 clear hb
 go_enter Tryz.func14, Tryz.ntmps14
 go_wp2
 go_ret
 refine ⟨w.heap.size, rfl, rfl, by simp, ⟨hl, ⟨0, (len : Int) % 1000, by omega, by omega, Int.emod_nonneg _ (by omega), ?_, ?_⟩, fun i hi => ?_⟩, (by repeat (first | exact Below.refl _ _ | assumption | refine Below.drew ?_ | refine Below.alloc ?_ (by first | exact Nat.le_refl _ | omega | (simp; done) | (simp; omega)) _ | refine Below.setCell ?_ (by first | exact Nat.le_refl _ | omega | (simp; done) | (simp; omega)) _))⟩
 · have := Int.emod_lt_of_pos (len : Int) (show (0 : Int) < 1000 by omega)
   omega
 · exact World.rowIs_alloc w #[.slice a len cap, .int .i64 0, .int .i64 ((len : Int) % 1000)] _ _ (fun i hi => by
    have h3 : i < 3 := hi
    rcases (show i = 0 ∨ i = 1 ∨ i = 2 by omega) with rfl | rfl | rfl <;> rfl)
 · obtain ⟨bb, off, e, x, hx, hc⟩ := HB.out i hi
   exact ⟨bb, off, e, World.block_lt_of_cell? _ _ hc, x, hx, keep (by repeat (first | exact Below.refl _ _ | assumption | refine Below.drew ?_ | refine Below.alloc ?_ (by first | exact Nat.le_refl _ | omega | (simp; done) | (simp; omega)) _ | refine Below.setCell ?_ (by first | exact Nat.le_refl _ | omega | (simp; done) | (simp; omega)) _)) hc⟩
end Go.Proofs.YtmkhoocokpkojaaGreatDoor.source
namespace Go.Proofs.YtmkhoocokpkojaaGreatDoor.heldStore
open Go
variable {P : Program} {ops : Array Oper} {Q : Exit → Act → World → Prop} {S : World → Prop} {n : Nat}
def Goes (P : Program) (ops : Array Oper) (Q : Exit → Act → World → Prop) (S : World → Prop) (n : Nat) : Nat → Array Bool → Act → World → Prop
 | 0, listed, a, w => Region.ready .any ops listed = [] ∧ Q .normal a w
 | fuel + 1, listed, a, w => (Region.ready .any ops listed = [] → Q .normal a w) ∧
   ∀ i ∈ Region.ready .any ops listed, wpOp P ops Q i (fun a' w' => (i < n → S w') ∧ Goes P ops Q S n fuel (listed.setIfInBounds i true) a' w') a w
theorem Goes.any : ∀ (fuel : Nat) (listed : Array Bool) (a : Act) (w : World), Goes P ops Q S n fuel listed a w → wpAny P .any ops Q fuel listed a w
 | 0, _, _, _, h => h
 | fuel + 1, _, _, _, h => ⟨h.1, fun i hi => wpOp_mono (fun a' w' h' => Goes.any fuel _ a' w' h'.2) (h.2 i hi)⟩
theorem Goes.first {i : Nat} {oi : Oper} {v : Value} (hi : ops[i]? = some oi) (hsel : ∀ (j : Nat) (o : Oper) cs b, ops[j]? = some o → o.op ≠ .select cs b)
  (hs : Region.sinkB .any ops n = true) (hc : Region.chainB .any ops n = true) (hn : n < ops.size) (hin : i < n)
  (hQ : ∀ c a w, Q (.panic c) (a.put oi.dst v) w → Q (.panic c) a w) (fuel : Nat) : ∀ (listed : Array Bool) (a : Act) (w : World), HeadInv .any ops n listed →
   (∀ j oj, ops[j]? = some oj → j ≠ i → listed.getD j true = false → (∀ e ∈ oj.after, Region.binds .any e = true → e.on ≠ i) → oi.apart ops oj = true) →
   i ∈ Region.ready .any ops listed → YieldsIf P ops S oi v a → S w →
   Goes P ops Q S n fuel (listed.setIfInBounds i true) (a.put oi.dst v) w → Goes P ops Q S n (fuel + 1) listed a w := by
 induction fuel with
 | zero =>
  intro listed a w inv _ hr hy hS H
  refine ⟨fun h => absurd hr (by rw [h]; exact List.not_mem_nil), fun j hj => ?_⟩
  by_cases hji : j = i
  · subst hji
    exact hy.wpOp hi hS ⟨fun _ => hS, H⟩
  · have h1 := ready_mono hj hji
    rw [H.1] at h1
    cases h1
 | succ fuel ih =>
  intro listed a w inv hfree hr hy hS H
  have hun := (mem_ready.1 hr).1
  refine ⟨fun h => absurd hr (by rw [h]; exact List.not_mem_nil), fun j hj => ?_⟩
  by_cases hji : j = i
  · subst hji
    exact hy.wpOp hi hS ⟨fun _ => hS, H⟩
  · have hjn : j < n := by
     rcases Nat.lt_or_ge j n with h | h
     · exact h
     · exact absurd hj (tail_waits hs hc hn inv _ i rfl hin hun j h)
    obtain ⟨hjun, oj, hoj, hall⟩ := mem_ready.1 hj
    have hnot : ∀ e ∈ oj.after, Region.binds .any e = true → e.on ≠ i := fun e he hb heq => by
     have h1 := hall e he hb
     rw [heq, getD_both hun] at h1
     cases h1
    have hfree' : ∀ k ok, ops[k]? = some ok → k ≠ i → (listed.setIfInBounds j true).getD k true = false → (∀ e ∈ ok.after, Region.binds .any e = true → e.on ≠ i) → oi.apart ops ok = true := fun k ok hk hki hu hno => by
     refine hfree k ok hk hki ?_ hno
     by_cases hjk : j = k
     · rw [← hjk]; exact hjun
     · rw [getD_set_ne true hjk] at hu; exact hu
    have h1 := wpOp_putIf hoj (hfree j oj hoj hji hjun hnot) (fun cs b => hsel i oi cs b hi) (fun cs b => hsel j oj cs b hoj) hQ hy (H.2 j (ready_mono hj hji))
    refine wpOp_mono (fun a' w' h3 => ⟨fun _ => h3.2.1 hjn, ih _ a' w' (inv.set hj hjn) hfree' (ready_mono hr (Ne.symm hji)) h3.1 (h3.2.1 hjn) ?_⟩) h1
    rw [Array.setIfInBounds_comm _ _ hji]
    exact h3.2.2
structure LastOf (ops : Array Oper) (n : Nat) : Prop where
 sel : Region.noSelect ops = true
 sink : Region.sinkB .any ops n = true
 chain : Region.chainB .any ops n = true
 lt : n < ops.size
theorem Goes.take {i : Nat} {oi : Oper} {v : Value} {fuel : Nat} {listed : Array Bool} {a : Act} {w : World} (d : Option Tmp) (hE : LastOf ops n) (hi : ops[i]? = some oi) (hd : oi.dst = d) (inv : HeadInv .any ops n listed)
  (hf : Region.free .any ops listed i = true) (hr : (Region.ready .any ops listed).contains i = true) (hin : i < n)
  (hQ : ∀ c a w, Q (.panic c) (a.put d v) w → Q (.panic c) a w) (hy : YieldsIf P ops S oi v a) (hS : S w)
  (h : HeadInv .any ops n (listed.setIfInBounds i true) → Goes P ops Q S n fuel (listed.setIfInBounds i true) (a.put d v) w) : Goes P ops Q S n (fuel + 1) listed a w := by
 subst hd
 have hr' : i ∈ Region.ready .any ops listed := by simpa using hr
 exact Goes.first hi (Region.noSelect_spec hE.sel) hE.sink hE.chain hE.lt hin hQ fuel listed a w inv (Region.free_spec hi hf) hr' hy hS (h (inv.set hr' hin))
theorem Goes.one {i : Nat} {o : Oper} {fuel : Nat} {listed : Array Bool} {a : Act} {w : World} (inv : HeadInv .any ops n listed) (hr : Region.ready .any ops listed = [i]) (hin : i < n) (ho : ops[i]? = some o)
  (h : HeadInv .any ops n (listed.setIfInBounds i true) → ∀ K' : Act → World → Prop, Shut (∀ a w, S w → (S w → Goes P ops Q S n fuel (listed.setIfInBounds i true) a w) → K' a w) → if Region.wanted o (yielded ops a.tmps) = true then Oper.wp P o a w K' Q else K' (a.put o.dst undef) w) :
  Goes P ops Q S n (fuel + 1) listed a w :=
 ⟨fun h0 => (by rw [hr] at h0; cases h0), fun j hj => by
  have hj' := hj
  rw [hr] at hj
  have e : j = i := by simpa using hj
  subst e
  exact wpOp_step ho fun K' hK => h (inv.set hj' hin) K' fun a w hS hW => hK a w ⟨fun _ => hS, hW hS⟩⟩
theorem Goes.two {i j : Nat} {o p : Oper} {fuel : Nat} {listed : Array Bool} {a : Act} {w : World} (inv : HeadInv .any ops n listed) (hr : Region.ready .any ops listed = [i, j]) (hin : i < n) (hjn : j < n) (ho : ops[i]? = some o) (hp : ops[j]? = some p)
  (h : HeadInv .any ops n (listed.setIfInBounds i true) → ∀ K' : Act → World → Prop, Shut (∀ a w, S w → (S w → Goes P ops Q S n fuel (listed.setIfInBounds i true) a w) → K' a w) → if Region.wanted o (yielded ops a.tmps) = true then Oper.wp P o a w K' Q else K' (a.put o.dst undef) w)
  (h' : HeadInv .any ops n (listed.setIfInBounds j true) → ∀ K' : Act → World → Prop, Shut (∀ a w, S w → (S w → Goes P ops Q S n fuel (listed.setIfInBounds j true) a w) → K' a w) → if Region.wanted p (yielded ops a.tmps) = true then Oper.wp P p a w K' Q else K' (a.put p.dst undef) w) :
  Goes P ops Q S n (fuel + 1) listed a w :=
 ⟨fun h0 => (by rw [hr] at h0; cases h0), fun k hk => by
  have hk' := hk
  rw [hr] at hk
  rcases List.mem_cons.1 hk with e | e
  · subst e
    exact wpOp_step ho fun K' hK => h (inv.set hk' hin) K' fun a w hS hW => hK a w ⟨fun _ => hS, hW hS⟩
  · have e : k = j := by simpa using e
    subst e
    exact wpOp_step hp fun K' hK => h' (inv.set hk' hjn) K' fun a w hS hW => hK a w ⟨fun _ => hS, hW hS⟩⟩
theorem Goes.last {o : Oper} {listed : Array Bool} {a : Act} {w : World} (hr : Region.ready .any ops listed = [n]) (hd : Region.ready .any ops (listed.setIfInBounds n true) = []) (ho : ops[n]? = some o)
  (h : ∀ K' : Act → World → Prop, Shut (∀ a w, Q .normal a w → K' a w) → if Region.wanted o (yielded ops a.tmps) = true then Oper.wp P o a w K' Q else K' (a.put o.dst undef) w) :
  Goes P ops Q S n 1 listed a w :=
 ⟨fun h0 => (by rw [hr] at h0; cases h0), fun j hj => by
  rw [hr] at hj
  have e : j = n := by simpa using hj
  subst e
  exact wpOp_step ho fun K' hK => h K' fun a w hq => hK a w ⟨fun hlt => absurd hlt (Nat.lt_irrefl _), hd, hq⟩⟩
theorem region_goes {id : Nat} {a : Act} {w : World} (n m : Nat) (S : World → Prop) (hm : P.follows .mixedOrders = true) (hz : ops.size = m) (hE : LastOf ops n) (hS : S w.drew)
  (h : LastOf ops n → HeadInv .any ops n (Array.replicate m false) → S w.drew → Goes P ops Q S n m (Array.replicate m false) a w.drew) : (Code.region id ops true).wp P Q a w := by
 subst hz
 exact wp_region_any hm (Goes.any _ _ _ _ (h hE ⟨by simp, fun j oj _ hl => (by rw [getD_replicate_false] at hl; cases hl), fun t _ ht => getD_in (by simpa using ht) (getD_replicate_false _ _)⟩ hS))
end Go.Proofs.YtmkhoocokpkojaaGreatDoor.heldStore
