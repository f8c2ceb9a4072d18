/- Eval; Sets: one text, so that the claim has fewer files. -/
import Derived.Test.YtpfecijahiikhaaGreatDoorPart1
import Derived.Laws.BitsAllLaws
import Derived.Laws.Bits64b
import Derived.Laws.Shifts
/- The contracts of what tells whether values make a formula true, of the program and of the specification; conditions: lengths that fit. -/
namespace Go.Proofs.YtpfecijahiikhaaGreatDoor.eval
open Go.RowKit Go.Deep base copy cnf

set_option maxHeartbeats 400000 in
theorem abs_spec (n : Int) (w : World) (h0 : -4611686018427387904 ≤ n) (h1 : n ≤ 4611686018427387904) :
    Calls Tryz.prog 51 #[.int .i64 n] w fun e w' => e = .returned (.int .i64 (n.natAbs : Int)) ∧ w' = w := by
  go_enter Tryz.func51, Tryz.ntmps51
  go_wp2
  all_goals
    go_ret
    exact ⟨ret_int (by omega), rfl⟩

theorem cnf_vars {vars : Int} {zss : List (List Int)} (h : cnfB vars zss = true) : 0 ≤ vars ∧ vars ≤ 40 ∧ zss.length ≤ 300 := by
  simp only [cnfB, Bool.and_eq_true, decide_eq_true_eq] at h
  exact h.1

end Go.Proofs.YtpfecijahiikhaaGreatDoor.eval

/- Sets of literals as two words of bits: what they are in numbers, and the contracts of the functions that make, join and compare them; conditions: literals of at most 40 variables. -/
namespace Go.Proofs.YtpfecijahiikhaaGreatDoor.sets
open Go.RowKit Go.Deep base copy cnf eval

/-- the bit of a literal among the plain ones, and among the opposites -/
def pBit (l : Int) : Nat := if l < 0 then 0 else 2 ^ l.natAbs
def oBit (l : Int) : Nat := if l < 0 then 2 ^ l.natAbs else 0
def pSet (zs : List Int) : Nat := zs.foldl (fun a l => a ||| pBit l) 0
def oSet (zs : List Int) : Nat := zs.foldl (fun a l => a ||| oBit l) 0
def meetB (a b c d : Nat) : Bool := decide (¬ (a &&& c = 0 ∧ b &&& d = 0))
theorem pBit_lt {l : Int} {n : Nat} (h : l.natAbs < n) : pBit l < 2 ^ n := by
  unfold pBit; split
  · exact Nat.two_pow_pos _
  · exact Nat.pow_lt_pow_right (by decide) h
theorem oBit_lt {l : Int} {n : Nat} (h : l.natAbs < n) : oBit l < 2 ^ n := by
  unfold oBit; split
  · exact Nat.pow_lt_pow_right (by decide) h
  · exact Nat.two_pow_pos _
theorem take_succ_foldl {α β : Type} {f : β → α → β} {b : β} {zs : List α} {d : α} {k : Nat} (h : k < zs.length) : (zs.take (k + 1)).foldl f b = f ((zs.take k).foldl f b) (zs[k]?.getD d) := by
  rw [List.take_succ_eq_append_getElem h, List.foldl_append, List.getElem?_eq_getElem h]; rfl
theorem pSet_succ {zs : List Int} {k : Nat} (h : k < zs.length) : pSet (zs.take (k + 1)) = pSet (zs.take k) ||| pBit (zs[k]?.getD 0) := take_succ_foldl h
theorem oSet_succ {zs : List Int} {k : Nat} (h : k < zs.length) : oSet (zs.take (k + 1)) = oSet (zs.take k) ||| oBit (zs[k]?.getD 0) := take_succ_foldl h
theorem foldl_or_lt {f : Int → Nat} {n : Nat} : ∀ (zs : List Int) (a : Nat), a < 2 ^ n → (∀ z ∈ zs, f z < 2 ^ n) → zs.foldl (fun a l => a ||| f l) a < 2 ^ n
  | [], _, h, _ => h
  | z :: zs, a, h, hz => foldl_or_lt zs (a ||| f z) (Nat.or_lt_two_pow h (hz z (List.mem_cons_self ..))) (fun y hy => hz y (List.mem_cons_of_mem _ hy))
theorem pSet_lt {zs : List Int} {n : Nat} (h : ∀ z ∈ zs, z.natAbs < n) : pSet zs < 2 ^ n := foldl_or_lt zs 0 (Nat.two_pow_pos _) (fun z hz => pBit_lt (h z hz))
theorem oSet_lt {zs : List Int} {n : Nat} (h : ∀ z ∈ zs, z.natAbs < n) : oSet zs < 2 ^ n := foldl_or_lt zs 0 (Nat.two_pow_pos _) (fun z hz => oBit_lt (h z hz))
theorem testBit_compl {n i : Nat} (hn : n < 2 ^ 64) (hi : i < 64) : (18446744073709551615 - n).testBit i = !n.testBit i := by
  have : 18446744073709551615 - n = 2 ^ 64 - (n + 1) := by omega
  rw [this, Nat.testBit_two_pow_sub_succ hn]
  simp [hi]
theorem wrap_pow {n : Nat} (h : n < 64) : IntKind.u64.wrap (2 ^ n) = ((2 ^ n : Nat) : Int) := by
  have hp : (2 ^ n : Nat) < 18446744073709551616 := Nat.lt_of_lt_of_le (Nat.pow_lt_pow_right (by decide) h) (by decide)
  have hc : ((2 : Int) ^ n) = ((2 ^ n : Nat) : Int) := by simp
  rw [IntKind.wrap_u64, hc]
  generalize 2 ^ n = x at *
  omega

set_option maxHeartbeats 400000 in
theorem only_impl (l : Int) (w : World) (h0 : -40 ≤ l) (h1 : l ≤ 40) :
    Calls Tryz.prog 47 #[.int .i64 l] w fun e w' => e = .returned (.agg #[.int .u64 (pBit l), .int .u64 (oBit l)]) ∧ Below w.heap.size w w' := by
  by_cases hn : l < 0
  · obtain ⟨n, hl⟩ : ∃ n : Nat, l = -(n : Int) := ⟨l.natAbs, by omega⟩
    have e1 : pBit l = 0 := by simp [pBit, hn]
    have e2 : oBit l = 2 ^ n := by simp [oBit, hn]; congr 1; omega
    rw [e1, e2]
    clear e1 e2
    subst hl
    have H2 := hid (wrap_pow (n := n) (by omega))
    go_enter Tryz.func47, Tryz.ntmps47
    go_wp2
    refine bodyPost_ret (v := .agg #[.int .u64 0, .int .u64 (IntKind.u64.wrap (2 ^ n))]) (by simp [results, Tryz.results47, go_sem]) rfl ⟨by rw [H2.out]; rfl, (by repeat (first | exact Below.refl _ _ | assumption | refine Below.drew ?_ | refine Below.alloc ?_ (by first | exact Nat.le_refl _ | omega | (simp; done) | (simp; omega)) _ | refine Below.setCell ?_ (by first | exact Nat.le_refl _ | omega | (simp; done) | (simp; omega)) _))⟩
  · obtain ⟨n, hl⟩ : ∃ n : Nat, l = (n : Int) := ⟨l.natAbs, by omega⟩
    have e1 : oBit l = 0 := by simp [oBit, hn]
    have e2 : pBit l = 2 ^ n := by simp [pBit, hn]; congr 1; omega
    rw [e1, e2]
    clear e1 e2
    subst hl
    have H2 := hid (wrap_pow (n := n) (by omega))
    go_enter Tryz.func47, Tryz.ntmps47
    go_wp2
    refine bodyPost_ret (v := .agg #[.int .u64 (IntKind.u64.wrap (2 ^ n)), .int .u64 0]) (by simp [results, Tryz.results47, go_sem]) rfl ⟨by rw [H2.out]; rfl, (by repeat (first | exact Below.refl _ _ | assumption | refine Below.drew ?_ | refine Below.alloc ?_ (by first | exact Nat.le_refl _ | omega | (simp; done) | (simp; omega)) _ | refine Below.setCell ?_ (by first | exact Nat.le_refl _ | omega | (simp; done) | (simp; omega)) _))⟩

set_option maxHeartbeats 400000 in
theorem with_impl (a b c d : Nat) (w : World) (ha : a < 18446744073709551616) (hb : b < 18446744073709551616) (hc : c < 18446744073709551616) (hd : d < 18446744073709551616) :
    Calls Tryz.prog 46 #[.agg #[.int .u64 a, .int .u64 b], .agg #[.int .u64 c, .int .u64 d]] w fun e w' => e = .returned (.agg #[.int .u64 ((a ||| c : Nat) : Int), .int .u64 ((b ||| d : Nat) : Int)]) ∧ Below w.heap.size w w' := by
  have H1 := hid (bits_or_u64_nat a c ha hc)
  have H2 := hid (bits_or_u64_nat b d hb hd)
  go_enter Tryz.func46, Tryz.ntmps46
  go_wp2
  refine bodyPost_ret (v := .agg #[.int .u64 (bits .or .u64 a c), .int .u64 (bits .or .u64 b d)]) (by simp [results, Tryz.results46, go_sem]) rfl ⟨by rw [H1.out, H2.out], (by repeat (first | exact Below.refl _ _ | assumption | refine Below.drew ?_ | refine Below.alloc ?_ (by first | exact Nat.le_refl _ | omega | (simp; done) | (simp; omega)) _ | refine Below.setCell ?_ (by first | exact Nat.le_refl _ | omega | (simp; done) | (simp; omega)) _))⟩

set_option maxHeartbeats 400000 in
theorem common_impl (a b c d : Nat) (w : World) (ha : a < 18446744073709551616) (hb : b < 18446744073709551616) (hc : c < 18446744073709551616) (hd : d < 18446744073709551616) :
    Calls Tryz.prog 63 #[.agg #[.int .u64 a, .int .u64 b], .agg #[.int .u64 c, .int .u64 d]] w fun e w' => e = .returned (.agg #[.int .u64 ((a &&& c : Nat) : Int), .int .u64 ((b &&& d : Nat) : Int)]) ∧ Below w.heap.size w w' := by
  have H1 := hid (bits_and_u64_nat a c ha hc)
  have H2 := hid (bits_and_u64_nat b d hb hd)
  go_enter Tryz.func63, Tryz.ntmps63
  go_wp2
  refine bodyPost_ret (v := .agg #[.int .u64 (bits .and .u64 a c), .int .u64 (bits .and .u64 b d)]) (by simp [results, Tryz.results63, go_sem]) rfl ⟨by rw [H1.out, H2.out], (by repeat (first | exact Below.refl _ _ | assumption | refine Below.drew ?_ | refine Below.alloc ?_ (by first | exact Nat.le_refl _ | omega | (simp; done) | (simp; omega)) _ | refine Below.setCell ?_ (by first | exact Nat.le_refl _ | omega | (simp; done) | (simp; omega)) _))⟩

set_option maxHeartbeats 400000 in
theorem meets_impl (a b c d : Nat) (w : World) (ha : a < 18446744073709551616) (hb : b < 18446744073709551616) (hc : c < 18446744073709551616) (hd : d < 18446744073709551616) :
    Calls Tryz.prog 48 #[.agg #[.int .u64 a, .int .u64 b], .agg #[.int .u64 c, .int .u64 d]] w fun e w' => e = .returned (.bool (meetB a b c d)) ∧ Below w.heap.size w w' := by
  go_enter Tryz.func48, Tryz.ntmps48
  go_wp2_with fail
  refine (common_impl a b c d _ ha hb hc hd).mono ?_
  rintro e w1 ⟨rfl, hb1⟩
  have HB := hid ((show Below w.heap.size w _ from (by repeat (first | exact Below.refl _ _ | assumption | refine Below.drew ?_ | refine Below.alloc ?_ (by first | exact Nat.le_refl _ | omega | (simp; done) | (simp; omega)) _ | refine Below.setCell ?_ (by first | exact Nat.le_refl _ | omega | (simp; done) | (simp; omega)) _))).trans (hb1.mono (by simp; omega)))
  clear hb1
  have HM : Hid (meetB a b c d = !(decide ((a &&& c : Nat) = 0) && decide ((b &&& d : Nat) = 0))) := by
    show _ = _
    unfold meetB
    by_cases h1 : a &&& c = 0 <;> by_cases h2 : b &&& d = 0 <;> simp [h1, h2]
  generalize a &&& c = x at *
  generalize b &&& d = y at *
  go_wp2
  all_goals
    go_ret
    exact ⟨ret_bool (by rw [HM.out]; simp [*]), HB.out⟩

/-- A variable that holds a set. -/
def SetAt (w : World) (b P O : Nat) : Prop := w.rowIs b 52 2 (fun i => if i = 0 then .int .u64 P else .int .u64 O)
theorem SetAt.lt {w : World} {b P O : Nat} (h : SetAt w b P O) : b < w.heap.size := World.rowIs.lt h
theorem SetAt.facts {w : World} {b P O : Nat} (h : SetAt w b P O) : w.cell? ⟨b, 0, none⟩ = some (.int .u64 P) ∧ w.cell? ⟨b, 1, none⟩ = some (.int .u64 O) ∧ w.frozen? ⟨b, 0, none⟩ = false ∧ w.frozen? ⟨b, 1, none⟩ = false :=
  ⟨by simpa using World.rowIs.cell h (i := 0) (by omega), by simpa using World.rowIs.cell h (i := 1) (by omega), World.rowIs.frozen h 0, World.rowIs.frozen h 1⟩
theorem SetAt.below {w w1 : World} {b P O : Nat} (h : SetAt w b P O) (hb : Below w.heap.size w w1) : SetAt w1 b P O := World.rowIs.of_block h (hb.block _ h.lt)
theorem SetAt.alloc {w : World} {b P O : Nat} (h : SetAt w b P O) (o : Obj) : SetAt (w.alloc o) b P O := h.below ((Below.refl _ _).alloc (Nat.le_refl _) _)
theorem SetAt.put {w : World} {b P O : Nat} (h : SetAt w b P O) (P' O' : Nat) : SetAt ((w.setCell ⟨b, 0, none⟩ (.int .u64 P')).setCell ⟨b, 1, none⟩ (.int .u64 O')) b P' O' :=
  (World.rowIs.set (World.rowIs.set h 0 _) 1 _).congr (fun i hi => by
    rcases (show i = 0 ∨ i = 1 by omega) with rfl | rfl <;> simp)
theorem SetAt.other {w : World} {b P O : Nat} (h : SetAt w b P O) {a : Addr} (ha : b ≠ a.block) (v : Value) : SetAt (w.setCell a v) b P O := World.rowIs.setOther h (by omega) v
theorem SetAt.new (w : World) (P O : Nat) : SetAt (w.alloc (.cells #[.int .u64 P, .int .u64 O] 52)) w.heap.size P O :=
  World.rowIs_alloc w #[.int .u64 P, .int .u64 O] _ _ (fun i hi => by
    have h2 : i < 2 := hi
    rcases (show i = 0 ∨ i = 1 by omega) with rfl | rfl <;> rfl)

set_option maxHeartbeats 1600000 in
theorem setOf_impl (a : Option Addr) (len cap : Nat) (zs : List Int) (w : World) (hr : IntRow w a len zs) (hz : ∀ z ∈ zs, z.natAbs < 41) :
    Calls Tryz.prog 22 #[.slice a len cap] w fun e w' => e = .returned (.agg #[.int .u64 (pSet zs), .int .u64 (oSet zs)]) ∧ Below w.heap.size w w' := by
  have hmost := hr.most
  unfold maxLen at hmost
  have HR := hid hr
  have HL := hid hr.length
  have HZ := hid hz
  clear hr hz
  go_enter Tryz.func22, Tryz.ntmps22
  go_wp2
  go_loopw [8] (fun i wr => ∃ k : Nat, k ≤ len ∧ i = .int .i64 k ∧ Below w.heap.size w wr ∧ SetAt wr w.heap.size 0 0 ∧ SetAt wr (w.heap.size + 1) (pSet (zs.take k)) (oSet (zs.take k))) (fun i _ => len - (intOf i).toNat)
  case atStart => exact ⟨0, Nat.zero_le _, rfl, (by repeat (first | exact Below.refl _ _ | assumption | refine Below.drew ?_ | refine Below.alloc ?_ (by first | exact Nat.le_refl _ | omega | (simp; done) | (simp; omega)) _ | refine Below.setCell ?_ (by first | exact Nat.le_refl _ | omega | (simp; done) | (simp; omega)) _)), (SetAt.new w 0 0).alloc _, by have := SetAt.new (w.alloc (.cells #[.int .u64 0, .int .u64 0] 52)) 0 0; simpa [pSet, oSet] using this⟩
  case round =>
    obtain ⟨k, hk, rfl, hbel, s0, s1⟩ := hrel
    have hz0 := s0.lt
    have hz1 := s1.lt
    have HK := hid (fun (w2 : World) (h2 : Below wr.heap.size wr w2) => (s1.below h2).facts)
    obtain ⟨c0, c1, f0, f1⟩ := s1.facts
    have HB := hid hbel
    have S0 := hid s0
    have S1 := hid s1
    clear s1 s0
    by_cases hlt : k < len
    · obtain ⟨b, off, rfl, hc0⟩ := HR.out.cell k hlt
      have hc := keep hbel hc0
      have hmem : zs[k]?.getD 0 ∈ zs := by rw [List.getElem?_eq_getElem (by rw [HL.out]; exact hlt)]; exact List.getElem_mem _
      have hrange := HZ.out _ hmem
      have HP := hid (pSet_succ (zs := zs) (k := k) (by rw [HL.out]; exact hlt))
      have HO := hid (oSet_succ (zs := zs) (k := k) (by rw [HL.out]; exact hlt))
      have b1 : pSet (zs.take k) < 2 ^ 41 := pSet_lt fun z hz => HZ.out z (List.mem_of_mem_take hz)
      have b2 : oSet (zs.take k) < 2 ^ 41 := oSet_lt fun z hz => HZ.out z (List.mem_of_mem_take hz)
      have b3 : pBit (zs[k]?.getD 0) < 2 ^ 41 := pBit_lt hrange
      have b4 : oBit (zs[k]?.getD 0) < 2 ^ 41 := oBit_lt hrange
      clear hc0 hmem hbel
      generalize zs[k]?.getD 0 = z at *
      generalize pSet (zs.take k) = P at *
      generalize oSet (zs.take k) = O at *
      go_wp2
      go_region_with (first
        | (go_at_call 47; refine (only_impl _ _ (by omega) (by omega)).mono ?_; rintro e w2 ⟨rfl, hb2⟩; have hb2' : Below wr.heap.size wr w2 := ((Below.refl _ wr).drew).trans hb2; obtain ⟨y0, y1, y2, y3⟩ := HK.out w2 hb2'; clear hb2)
        | (go_at_call 46; refine (with_impl _ _ _ _ _ (by omega) (by omega) (by omega) (by omega)).mono ?_; rintro e w3 ⟨rfl, hb3⟩; have hb3' : Below wr.heap.size wr w3 := hb2'.trans (hb3.mono hb2'.size); clear y0 y1 y2 y3; obtain ⟨y0, y1, y2, y3⟩ := HK.out w3 hb3'; clear hb3))
      all_goals
        have H3 := hid hb3'
        have HB3 := hid (HB.out.trans (hb3'.mono (by omega)))
        clear hb3' hb2'
        go_wp2
        go_roundw
        case rel => exact ⟨k + 1, by omega, by go_num, (HB3.out.setCell (by dsimp only; omega) _).setCell (by dsimp only; omega) _, ((S0.out.below H3.out).other (by dsimp only; omega) _).other (by dsimp only; omega) _, by rw [HP.out, HO.out]; exact (S1.out.below H3.out).put _ _⟩
        case measure => simp [intOf]; omega
    · have e : k = len := by omega
      subst e
      have ht : zs.take k = zs := List.take_of_length_le (by rw [HL.out]; omega)
      rw [ht] at c0 c1
      obtain ⟨g0, g1, e0, e1⟩ := S0.out.facts
      clear ht hbel HK
      go_wp2
      refine bodyPost_ret (v := .agg #[.int .u64 (pSet zs), .int .u64 (oSet zs)]) ?_ rfl ⟨rfl, (HB.out.setCell (by dsimp only; omega) _).setCell (by dsimp only; omega) _⟩
      obtain ⟨h0, h1, _⟩ := (S0.out.put (pSet zs) (oSet zs)).facts
      simp [results, Tryz.results22, go_sem, h0, h1]
end Go.Proofs.YtpfecijahiikhaaGreatDoor.sets
