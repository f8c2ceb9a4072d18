/- Sets; SetsOf: one text, so that the claim has fewer files. -/
import Derived.Test.YtbahjpheaaiamaaDoorPart2
import Derived.Laws.BitsAllLaws
import Derived.Laws.Bits64b
import Derived.Laws.Shifts
import Derived.OwnWalk
import Derived.WalkSpells
import Derived.Maps.AppendAt
/- Sets of literals as two words of bits: what they are in numbers, and the contracts of the functions that make, join and compare them; conditions: literals of at most 40 variables. -/
namespace Go.Proofs.YtbahjpheaaiamaaDoor.sets
open Go.RowKit Go.Deep base copy cnf eval

/-- the bit of a literal among the plain ones, and among the opposites -/
def pBit (l : Int) : Nat := if l < 0 then 0 else 2 ^ l.natAbs
def oBit (l : Int) : Nat := if l < 0 then 2 ^ l.natAbs else 0
def pSet (zs : List Int) : Nat := zs.foldl (fun a l => a ||| pBit l) 0
def oSet (zs : List Int) : Nat := zs.foldl (fun a l => a ||| oBit l) 0
def meetB (a b c d : Nat) : Bool := decide (¬ (a &&& c = 0 ∧ b &&& d = 0))
theorem pBit_lt {l : Int} {n : Nat} (h : l.natAbs < n) : pBit l < 2 ^ n := by
  unfold pBit; split
  · exact Nat.two_pow_pos _
  · exact Nat.pow_lt_pow_right (by decide) h
theorem oBit_lt {l : Int} {n : Nat} (h : l.natAbs < n) : oBit l < 2 ^ n := by
  unfold oBit; split
  · exact Nat.pow_lt_pow_right (by decide) h
  · exact Nat.two_pow_pos _
theorem take_succ_foldl {α β : Type} {f : β → α → β} {b : β} {zs : List α} {d : α} {k : Nat} (h : k < zs.length) : (zs.take (k + 1)).foldl f b = f ((zs.take k).foldl f b) (zs[k]?.getD d) := by
  rw [List.take_succ_eq_append_getElem h, List.foldl_append, List.getElem?_eq_getElem h]; rfl
theorem pSet_succ {zs : List Int} {k : Nat} (h : k < zs.length) : pSet (zs.take (k + 1)) = pSet (zs.take k) ||| pBit (zs[k]?.getD 0) := take_succ_foldl h
theorem oSet_succ {zs : List Int} {k : Nat} (h : k < zs.length) : oSet (zs.take (k + 1)) = oSet (zs.take k) ||| oBit (zs[k]?.getD 0) := take_succ_foldl h
theorem foldl_or_lt {f : Int → Nat} {n : Nat} : ∀ (zs : List Int) (a : Nat), a < 2 ^ n → (∀ z ∈ zs, f z < 2 ^ n) → zs.foldl (fun a l => a ||| f l) a < 2 ^ n
  | [], _, h, _ => h
  | z :: zs, a, h, hz => foldl_or_lt zs (a ||| f z) (Nat.or_lt_two_pow h (hz z (List.mem_cons_self ..))) (fun y hy => hz y (List.mem_cons_of_mem _ hy))
theorem pSet_lt {zs : List Int} {n : Nat} (h : ∀ z ∈ zs, z.natAbs < n) : pSet zs < 2 ^ n := foldl_or_lt zs 0 (Nat.two_pow_pos _) (fun z hz => pBit_lt (h z hz))
theorem oSet_lt {zs : List Int} {n : Nat} (h : ∀ z ∈ zs, z.natAbs < n) : oSet zs < 2 ^ n := foldl_or_lt zs 0 (Nat.two_pow_pos _) (fun z hz => oBit_lt (h z hz))
theorem testBit_compl {n i : Nat} (hn : n < 2 ^ 64) (hi : i < 64) : (18446744073709551615 - n).testBit i = !n.testBit i := by
  have : 18446744073709551615 - n = 2 ^ 64 - (n + 1) := by omega
  rw [this, Nat.testBit_two_pow_sub_succ hn]
  simp [hi]
theorem wrap_pow {n : Nat} (h : n < 64) : IntKind.u64.wrap (2 ^ n) = ((2 ^ n : Nat) : Int) := by
  have hp : (2 ^ n : Nat) < 18446744073709551616 := Nat.lt_of_lt_of_le (Nat.pow_lt_pow_right (by decide) h) (by decide)
  have hc : ((2 : Int) ^ n) = ((2 ^ n : Nat) : Int) := by simp
  rw [IntKind.wrap_u64, hc]
  generalize 2 ^ n = x at *
  omega

set_option maxHeartbeats 400000 in
theorem only_impl (l : Int) (w : World) (h0 : -40 ≤ l) (h1 : l ≤ 40) :
    Calls Tryd.prog 46 #[.int .i64 l] w fun e w' => e = .returned (.agg #[.int .u64 (pBit l), .int .u64 (oBit l)]) ∧ Below w.heap.size w w' := by
  by_cases hn : l < 0
  · obtain ⟨n, hl⟩ : ∃ n : Nat, l = -(n : Int) := ⟨l.natAbs, by omega⟩
    have e1 : pBit l = 0 := by simp [pBit, hn]
    have e2 : oBit l = 2 ^ n := by simp [oBit, hn]; congr 1; omega
    rw [e1, e2]
    clear e1 e2
    subst hl
    have H2 := hid (wrap_pow (n := n) (by omega))
    go_enter Tryd.func46, Tryd.ntmps46
    go_wp2
    refine bodyPost_ret (v := .agg #[.int .u64 0, .int .u64 (IntKind.u64.wrap (2 ^ n))]) (by simp [results, Tryd.results46, go_sem]) rfl ⟨by rw [H2.out]; rfl, (by repeat (first | exact Below.refl _ _ | assumption | refine Below.drew ?_ | refine Below.alloc ?_ (by first | exact Nat.le_refl _ | omega | (simp; done) | (simp; omega)) _ | refine Below.setCell ?_ (by first | exact Nat.le_refl _ | omega | (simp; done) | (simp; omega)) _))⟩
  · obtain ⟨n, hl⟩ : ∃ n : Nat, l = (n : Int) := ⟨l.natAbs, by omega⟩
    have e1 : oBit l = 0 := by simp [oBit, hn]
    have e2 : pBit l = 2 ^ n := by simp [pBit, hn]; congr 1; omega
    rw [e1, e2]
    clear e1 e2
    subst hl
    have H2 := hid (wrap_pow (n := n) (by omega))
    go_enter Tryd.func46, Tryd.ntmps46
    go_wp2
    refine bodyPost_ret (v := .agg #[.int .u64 (IntKind.u64.wrap (2 ^ n)), .int .u64 0]) (by simp [results, Tryd.results46, go_sem]) rfl ⟨by rw [H2.out]; rfl, (by repeat (first | exact Below.refl _ _ | assumption | refine Below.drew ?_ | refine Below.alloc ?_ (by first | exact Nat.le_refl _ | omega | (simp; done) | (simp; omega)) _ | refine Below.setCell ?_ (by first | exact Nat.le_refl _ | omega | (simp; done) | (simp; omega)) _))⟩

set_option maxHeartbeats 400000 in
theorem with_impl (a b c d : Nat) (w : World) (ha : a < 18446744073709551616) (hb : b < 18446744073709551616) (hc : c < 18446744073709551616) (hd : d < 18446744073709551616) :
    Calls Tryd.prog 47 #[.agg #[.int .u64 a, .int .u64 b], .agg #[.int .u64 c, .int .u64 d]] w fun e w' => e = .returned (.agg #[.int .u64 ((a ||| c : Nat) : Int), .int .u64 ((b ||| d : Nat) : Int)]) ∧ Below w.heap.size w w' := by
  have H1 := hid (bits_or_u64_nat a c ha hc)
  have H2 := hid (bits_or_u64_nat b d hb hd)
  go_enter Tryd.func47, Tryd.ntmps47
  go_wp2
  refine bodyPost_ret (v := .agg #[.int .u64 (bits .or .u64 a c), .int .u64 (bits .or .u64 b d)]) (by simp [results, Tryd.results47, go_sem]) rfl ⟨by rw [H1.out, H2.out], (by repeat (first | exact Below.refl _ _ | assumption | refine Below.drew ?_ | refine Below.alloc ?_ (by first | exact Nat.le_refl _ | omega | (simp; done) | (simp; omega)) _ | refine Below.setCell ?_ (by first | exact Nat.le_refl _ | omega | (simp; done) | (simp; omega)) _))⟩

set_option maxHeartbeats 400000 in
theorem common_impl (a b c d : Nat) (w : World) (ha : a < 18446744073709551616) (hb : b < 18446744073709551616) (hc : c < 18446744073709551616) (hd : d < 18446744073709551616) :
    Calls Tryd.prog 45 #[.agg #[.int .u64 a, .int .u64 b], .agg #[.int .u64 c, .int .u64 d]] w fun e w' => e = .returned (.agg #[.int .u64 ((a &&& c : Nat) : Int), .int .u64 ((b &&& d : Nat) : Int)]) ∧ Below w.heap.size w w' := by
  have H1 := hid (bits_and_u64_nat a c ha hc)
  have H2 := hid (bits_and_u64_nat b d hb hd)
  go_enter Tryd.func45, Tryd.ntmps45
  go_wp2
  refine bodyPost_ret (v := .agg #[.int .u64 (bits .and .u64 a c), .int .u64 (bits .and .u64 b d)]) (by simp [results, Tryd.results45, go_sem]) rfl ⟨by rw [H1.out, H2.out], (by repeat (first | exact Below.refl _ _ | assumption | refine Below.drew ?_ | refine Below.alloc ?_ (by first | exact Nat.le_refl _ | omega | (simp; done) | (simp; omega)) _ | refine Below.setCell ?_ (by first | exact Nat.le_refl _ | omega | (simp; done) | (simp; omega)) _))⟩

set_option maxHeartbeats 400000 in
theorem meets_impl (a b c d : Nat) (w : World) (ha : a < 18446744073709551616) (hb : b < 18446744073709551616) (hc : c < 18446744073709551616) (hd : d < 18446744073709551616) :
    Calls Tryd.prog 49 #[.agg #[.int .u64 a, .int .u64 b], .agg #[.int .u64 c, .int .u64 d]] w fun e w' => e = .returned (.bool (meetB a b c d)) ∧ Below w.heap.size w w' := by
  go_enter Tryd.func49, Tryd.ntmps49
  go_wp2_with fail
  refine (common_impl a b c d _ ha hb hc hd).mono ?_
  rintro e w1 ⟨rfl, hb1⟩
  have HB := hid ((show Below w.heap.size w _ from (by repeat (first | exact Below.refl _ _ | assumption | refine Below.drew ?_ | refine Below.alloc ?_ (by first | exact Nat.le_refl _ | omega | (simp; done) | (simp; omega)) _ | refine Below.setCell ?_ (by first | exact Nat.le_refl _ | omega | (simp; done) | (simp; omega)) _))).trans (hb1.mono (by simp; omega)))
  clear hb1
  have HM : Hid (meetB a b c d = !(decide ((a &&& c : Nat) = 0) && decide ((b &&& d : Nat) = 0))) := by
    show _ = _
    unfold meetB
    by_cases h1 : a &&& c = 0 <;> by_cases h2 : b &&& d = 0 <;> simp [h1, h2]
  generalize a &&& c = x at *
  generalize b &&& d = y at *
  go_wp2
  all_goals
    go_ret
    exact ⟨ret_bool (by rw [HM.out]; simp [*]), HB.out⟩

/-- A variable that holds a set. -/
def SetAt (w : World) (b P O : Nat) : Prop := w.rowIs b 51 2 (fun i => if i = 0 then .int .u64 P else .int .u64 O)
theorem SetAt.lt {w : World} {b P O : Nat} (h : SetAt w b P O) : b < w.heap.size := World.rowIs.lt h
theorem SetAt.facts {w : World} {b P O : Nat} (h : SetAt w b P O) : w.cell? ⟨b, 0, none⟩ = some (.int .u64 P) ∧ w.cell? ⟨b, 1, none⟩ = some (.int .u64 O) ∧ w.frozen? ⟨b, 0, none⟩ = false ∧ w.frozen? ⟨b, 1, none⟩ = false :=
  ⟨by simpa using World.rowIs.cell h (i := 0) (by omega), by simpa using World.rowIs.cell h (i := 1) (by omega), World.rowIs.frozen h 0, World.rowIs.frozen h 1⟩
theorem SetAt.below {w w1 : World} {b P O : Nat} (h : SetAt w b P O) (hb : Below w.heap.size w w1) : SetAt w1 b P O := World.rowIs.of_block h (hb.block _ h.lt)
theorem SetAt.alloc {w : World} {b P O : Nat} (h : SetAt w b P O) (o : Obj) : SetAt (w.alloc o) b P O := h.below ((Below.refl _ _).alloc (Nat.le_refl _) _)
theorem SetAt.put {w : World} {b P O : Nat} (h : SetAt w b P O) (P' O' : Nat) : SetAt ((w.setCell ⟨b, 0, none⟩ (.int .u64 P')).setCell ⟨b, 1, none⟩ (.int .u64 O')) b P' O' :=
  (World.rowIs.set (World.rowIs.set h 0 _) 1 _).congr (fun i hi => by
    rcases (show i = 0 ∨ i = 1 by omega) with rfl | rfl <;> simp)
theorem SetAt.other {w : World} {b P O : Nat} (h : SetAt w b P O) {a : Addr} (ha : b ≠ a.block) (v : Value) : SetAt (w.setCell a v) b P O := World.rowIs.setOther h (by omega) v
theorem SetAt.new (w : World) (P O : Nat) : SetAt (w.alloc (.cells #[.int .u64 P, .int .u64 O] 51)) w.heap.size P O :=
  World.rowIs_alloc w #[.int .u64 P, .int .u64 O] _ _ (fun i hi => by
    have h2 : i < 2 := hi
    rcases (show i = 0 ∨ i = 1 by omega) with rfl | rfl <;> rfl)

set_option maxHeartbeats 1600000 in
theorem setOf_impl (a : Option Addr) (len cap : Nat) (zs : List Int) (w : World) (hr : IntRow w a len zs) (hz : ∀ z ∈ zs, z.natAbs < 41) :
    Calls Tryd.prog 32 #[.slice a len cap] w fun e w' => e = .returned (.agg #[.int .u64 (pSet zs), .int .u64 (oSet zs)]) ∧ Below w.heap.size w w' := by
  have hmost := hr.most
  unfold maxLen at hmost
  have HR := hid hr
  have HL := hid hr.length
  have HZ := hid hz
  clear hr hz
  go_enter Tryd.func32, Tryd.ntmps32
  go_wp2
  go_loopw [8] (fun i wr => ∃ k : Nat, k ≤ len ∧ i = .int .i64 k ∧ Below w.heap.size w wr ∧ SetAt wr w.heap.size 0 0 ∧ SetAt wr (w.heap.size + 1) (pSet (zs.take k)) (oSet (zs.take k))) (fun i _ => len - (intOf i).toNat)
  case atStart => exact ⟨0, Nat.zero_le _, rfl, (by repeat (first | exact Below.refl _ _ | assumption | refine Below.drew ?_ | refine Below.alloc ?_ (by first | exact Nat.le_refl _ | omega | (simp; done) | (simp; omega)) _ | refine Below.setCell ?_ (by first | exact Nat.le_refl _ | omega | (simp; done) | (simp; omega)) _)), (SetAt.new w 0 0).alloc _, by have := SetAt.new (w.alloc (.cells #[.int .u64 0, .int .u64 0] 51)) 0 0; simpa [pSet, oSet] using this⟩
  case round =>
    obtain ⟨k, hk, rfl, hbel, s0, s1⟩ := hrel
    have hz0 := s0.lt
    have hz1 := s1.lt
    have HK := hid (fun (w2 : World) (h2 : Below wr.heap.size wr w2) => (s1.below h2).facts)
    obtain ⟨c0, c1, f0, f1⟩ := s1.facts
    have HB := hid hbel
    have S0 := hid s0
    have S1 := hid s1
    clear s1 s0
    by_cases hlt : k < len
    · obtain ⟨b, off, rfl, hc0⟩ := HR.out.cell k hlt
      have hc := keep hbel hc0
      have hmem : zs[k]?.getD 0 ∈ zs := by rw [List.getElem?_eq_getElem (by rw [HL.out]; exact hlt)]; exact List.getElem_mem _
      have hrange := HZ.out _ hmem
      have HP := hid (pSet_succ (zs := zs) (k := k) (by rw [HL.out]; exact hlt))
      have HO := hid (oSet_succ (zs := zs) (k := k) (by rw [HL.out]; exact hlt))
      have b1 : pSet (zs.take k) < 2 ^ 41 := pSet_lt fun z hz => HZ.out z (List.mem_of_mem_take hz)
      have b2 : oSet (zs.take k) < 2 ^ 41 := oSet_lt fun z hz => HZ.out z (List.mem_of_mem_take hz)
      have b3 : pBit (zs[k]?.getD 0) < 2 ^ 41 := pBit_lt hrange
      have b4 : oBit (zs[k]?.getD 0) < 2 ^ 41 := oBit_lt hrange
      clear hc0 hmem hbel
      generalize zs[k]?.getD 0 = z at *
      generalize pSet (zs.take k) = P at *
      generalize oSet (zs.take k) = O at *
      go_wp2
      go_region_with (first
        | (go_at_call 46; refine (only_impl _ _ (by omega) (by omega)).mono ?_; rintro e w2 ⟨rfl, hb2⟩; have hb2' : Below wr.heap.size wr w2 := ((Below.refl _ wr).drew).trans hb2; obtain ⟨y0, y1, y2, y3⟩ := HK.out w2 hb2'; clear hb2)
        | (go_at_call 47; refine (with_impl _ _ _ _ _ (by omega) (by omega) (by omega) (by omega)).mono ?_; rintro e w3 ⟨rfl, hb3⟩; have hb3' : Below wr.heap.size wr w3 := hb2'.trans (hb3.mono hb2'.size); clear y0 y1 y2 y3; obtain ⟨y0, y1, y2, y3⟩ := HK.out w3 hb3'; clear hb3))
      all_goals
        have H3 := hid hb3'
        have HB3 := hid (HB.out.trans (hb3'.mono (by omega)))
        clear hb3' hb2'
        go_wp2
        go_roundw
        case rel => exact ⟨k + 1, by omega, by go_num, (HB3.out.setCell (by dsimp only; omega) _).setCell (by dsimp only; omega) _, ((S0.out.below H3.out).other (by dsimp only; omega) _).other (by dsimp only; omega) _, by rw [HP.out, HO.out]; exact (S1.out.below H3.out).put _ _⟩
        case measure => simp [intOf]; omega
    · have e : k = len := by omega
      subst e
      have ht : zs.take k = zs := List.take_of_length_le (by rw [HL.out]; omega)
      rw [ht] at c0 c1
      obtain ⟨g0, g1, e0, e1⟩ := S0.out.facts
      clear ht hbel HK
      go_wp2
      refine bodyPost_ret (v := .agg #[.int .u64 (pSet zs), .int .u64 (oSet zs)]) ?_ rfl ⟨rfl, (HB.out.setCell (by dsimp only; omega) _).setCell (by dsimp only; omega) _⟩
      obtain ⟨h0, h1, _⟩ := (S0.out.put (pSet zs) (oSet zs)).facts
      simp [results, Tryd.results32, go_sem, h0, h1]
end Go.Proofs.YtbahjpheaaiamaaDoor.sets

/- Lists of sets of literals in memory of the call's own, and what tells whether all of them meet values; with the contracts of the functions that make and read them; conditions: lengths that fit. -/
namespace Go.Proofs.YtbahjpheaaiamaaDoor.setsOf
open Go.RowKit Go.Deep base copy cnf eval sets

def setCells (zss : List (List Int)) : List Value := zss.flatMap (fun zs => [.int .u64 (pSet zs), .int .u64 (oSet zs)])
theorem setCells_get : ∀ (zss : List (List Int)) (i : Nat), i < zss.length → (setCells zss)[i * 2]? = some (.int .u64 (pSet (zss[i]?.getD []))) ∧ (setCells zss)[i * 2 + 1]? = some (.int .u64 (oSet (zss[i]?.getD [])))
  | [], i, h => absurd h (Nat.not_lt_zero _)
  | z :: zss, 0, _ => ⟨rfl, rfl⟩
  | z :: zss, i + 1, h => by
    have := setCells_get zss i (by simpa using h)
    have e : setCells (z :: zss) = [.int .u64 (pSet z), .int .u64 (oSet z)] ++ setCells zss := rfl
    rw [e, show (i + 1) * 2 = i * 2 + 2 by omega]
    rw [List.getElem?_append_right (by simp), List.getElem?_append_right (by simp)]
    simpa using this
theorem setCells_append (zss : List (List Int)) (zs : List Int) : setCells (zss ++ [zs]) = setCells zss ++ [.int .u64 (pSet zs), .int .u64 (oSet zs)] := by
  simp [setCells]
theorem cell_two_new (w : World) (x y : Value) (t : TypeId) : ∀ j u, [x, y][j]? = some u → (w.alloc (.cells #[x, y] t)).cell? ((⟨w.heap.size, 0, none⟩ : Addr).add j) = some u := by
  intro j u h
  rcases j with _ | _ | j
  · simp at h; subst h; simp [go_sem, Addr.add]
  · simp at h; subst h; simp [go_sem, Addr.add]
  · simp at h
theorem take_snoc {α : Type} {zs : List α} {d : α} {k : Nat} (h : k < zs.length) : zs.take (k + 1) = zs.take k ++ [zs[k]?.getD d] := by
  rw [List.take_succ_eq_append_getElem h, List.getElem?_eq_getElem h]; rfl
/-- A slice that reads as a list of sets. -/
structure SetRow (w : World) (a : Option Addr) (len : Nat) (zss : List (List Int)) : Prop where
  length : zss.length = len
  most : len ≤ maxLen
  cell : ∀ i, i < len → ∃ b, a = some ⟨b, 0, none⟩ ∧ w.cell? ⟨b, i * 2, none⟩ = some (.int .u64 (pSet (zss[i]?.getD []))) ∧ w.cell? ⟨b, i * 2 + 1, none⟩ = some (.int .u64 (oSet (zss[i]?.getD [])))
theorem SetRow.below {W w1 : World} {a : Option Addr} {len : Nat} {zss : List (List Int)} (h : SetRow W a len zss) (hb : Below W.heap.size W w1) : SetRow w1 a len zss :=
  ⟨h.length, h.most, fun i hi => by
    obtain ⟨b, e, h1, h2⟩ := h.cell i hi
    exact ⟨b, e, keep hb h1, keep hb h2⟩⟩
def OwnSets (B : Nat) (w : World) (v : Value) (zss : List (List Int)) : Prop := w.ownsRow B 51 2 v zss.length (setCells zss)
theorem OwnSets.nil (B : Nat) (w : World) : OwnSets B w (.slice none 0 0) [] := World.ownsRow_nil w B 51 2
theorem OwnSets.form {B : Nat} {w : World} {v : Value} {zss : List (List Int)} (h : OwnSets B w v zss) : ∃ a cap, v = .slice a zss.length cap ∧ SetRow w a zss.length zss := by
  obtain ⟨h1, h2⟩ := h
  rcases h2 with ⟨rfl, hn⟩ | ⟨g, cap, cur, rfl, hb, hh, hn, hm, hs, ht⟩
  · exact ⟨none, 0, by rw [hn], ⟨rfl, by rw [hn]; exact Nat.zero_le _, fun i hi => by omega⟩⟩
  · refine ⟨some ⟨g, 0, none⟩, cap, rfl, ⟨rfl, Nat.le_trans hn hm, fun i hi => ⟨g, rfl, ?_⟩⟩⟩
    have h3 : ∀ j, j < zss.length * 2 → cur[j]? = (setCells zss)[j]? := fun j hj => by
      have : (cur.toList.take (zss.length * 2))[j]? = (setCells zss)[j]? := by rw [ht]
      rw [List.getElem?_take, if_pos hj] at this
      rw [← Array.getElem?_toList, this]
    obtain ⟨g1, g2⟩ := setCells_get zss i hi
    have e1 := h3 (i * 2) (by omega)
    have e2 := h3 (i * 2 + 1) (by omega)
    rw [g1] at e1
    rw [g2] at e2
    exact ⟨by simp [World.cell?, hh, e1], by simp [World.cell?, hh, e2]⟩
theorem OwnSets.below {B : Nat} {W w1 : World} {v : Value} {zss : List (List Int)} (h : OwnSets B W v zss) (hb : Below W.heap.size W w1) : OwnSets B w1 v zss := by
  obtain ⟨h1, h2⟩ := h
  refine ⟨h1, ?_⟩
  rcases h2 with h2 | ⟨g, cap, cur, e, hg, hh, hn, hm, hs, ht⟩
  · exact .inl h2
  · exact .inr ⟨g, cap, cur, e, hg, by rw [hb.block g (Array.getElem?_eq_some_iff.1 hh).1]; exact hh, hn, hm, hs, ht⟩
theorem grown_below {B : Nat} {w w1 w2 : World} {v : Value} {zss : List (List Int)} (h : OwnSets B w1 v zss) (hb : Below B w w1) (hB : B ≤ w1.heap.size) (hg : w1.grownBy w2 v.ownBlock) : Below B w w2 :=
  hb.grown hg hB (fun k hk => (World.ownsRow.lt h k hk).1)

theorem Tryd.info_set : (Tryd.prog.info? 51).map (fun i => (i.zero, i.size, i.bytes)) = some (some (.agg #[.int .u64 0, .int .u64 0]), 2, 16) := by kernel_rfl

set_option maxHeartbeats 1600000 in
theorem setsOf_impl (a : Option Addr) (len cap : Nat) (zss : List (List Int)) (w : World) (hr : IntRows w a len zss) (hb : len ≤ 1048576) (hz : ∀ i, i < len → ∀ z ∈ zss[i]?.getD [], z.natAbs < 41) :
    Calls Tryd.prog 38 #[.slice a len cap] w fun e w' => ∃ v, e = .returned v ∧ OwnSets w.heap.size w' v zss ∧ Below w.heap.size w w' := by
  have hmost := hr.most
  unfold maxLen at hmost
  have HR := hid hr
  have HL := hid hr.length
  have HZ := hid hz
  clear hr hz
  obtain ⟨i0, hi, hzz⟩ := Option.map_eq_some_iff.1 Tryd.info_set
  simp only [Prod.mk.injEq] at hzz
  obtain ⟨hz0, hz1, hz2⟩ := hzz
  have HI := hid hi
  have HZ0 := hid hz0
  have HZ1 := hid hz1
  have HZ2 := hid hz2
  clear hi hz0 hz1 hz2
  go_enter Tryd.func38, Tryd.ntmps38
  go_wp2
  go_loopw [8, 3] (fun i v wr => ∃ k : Nat, k ≤ len ∧ i = .int .i64 k ∧ OwnSets w.heap.size wr v (zss.take k) ∧ Below w.heap.size w wr) (fun i _ _ => len - (intOf i).toNat)
  case atStart => exact ⟨0, Nat.zero_le _, rfl, OwnSets.nil _ _, Below.refl _ _⟩
  case round =>
    rename_i v0
    obtain ⟨k, hk, rfl, hown, hbel⟩ := hrel
    have HO := hid hown
    have HB := hid hbel
    by_cases hlt : k < len
    · obtain ⟨b, off, rfl, x, l, c, hc0, hx0⟩ := HR.out.cell k hlt
      have hc := keep hbel hc0
      have HX := hid (hx0.below hbel)
      have HZk := hid (HZ.out k hlt)
      have HT := hid (take_snoc (zs := zss) (d := []) (k := k) (by rw [HL.out]; omega))
      have HLen : Hid ((zss.take k).length ≤ k) := List.length_take_le _ _
      clear hown hbel hc0 hx0
      generalize zss[k]?.getD [] = zs at *
      have HB0 := hid HB.out.size
      go_wp2_with fail
      refine (setOf_impl x l c zs _ HX.out HZk.out).mono ?_
      rintro e w2 ⟨rfl, hb2⟩
      have HB2 := hid (HB.out.trans (hb2.mono HB0.out))
      have HO2 := hid (HO.out.below hb2)
      have HB20 := hid HB2.out.size
      clear hb2
      go_wp2_with (at_builtin; (refine wpList_append_own _ rfl _ _ 64 rfl w.heap.size 51 i0 _ 2 16 Tryd.underlying64 HI.out HZ0.out HZ1.out HZ2.out rfl (by decide) _ _ _ rfl (World.ownsRow.alloc HO2.out _) ⟨w2.heap.size, 0, none⟩ 1 1 [.int .u64 (pSet zs), .int .u64 (oSet zs)] rfl rfl (cell_two_new _ _ _ _) (fun x hx => by simp at hx; rcases hx with rfl | rfl <;> rfl) (by have := HLen.out; unfold maxLen; omega) (by have := HLen.out; omega) (by have := HB20.out; simp; omega) ?_); intro v' w3 hown' hgrow3 hnil3)
      have HO3 : Hid (OwnSets w.heap.size w3 v' (zss.take (k + 1))) := by
        show OwnSets _ _ _ _
        rw [HT.out]
        unfold OwnSets
        rw [List.length_append, setCells_append]
        exact hown'
      have HB3 : Hid (Below w.heap.size w w3) := grown_below (OwnSets.below HO2.out (by repeat (first | exact Below.refl _ _ | assumption | refine Below.drew ?_ | refine Below.alloc ?_ (by first | exact Nat.le_refl _ | omega | (simp; done) | (simp; omega)) _ | refine Below.setCell ?_ (by first | exact Nat.le_refl _ | omega | (simp; done) | (simp; omega)) _))) (HB2.out.alloc HB20.out _) (by have := HB20.out; simp; omega) hgrow3
      clear hown' hgrow3 hnil3
      go_wp2
      go_roundw
      case rel => exact ⟨k + 1, by omega, by go_num, HO3.out, HB3.out⟩
      case measure => simp [intOf]; omega
    · have e : k = len := by omega
      subst e
      clear hown hbel
      have ht : zss.take k = zss := List.take_of_length_le (by rw [HL.out]; omega)
      rw [ht] at HO
      clear ht
      go_wp2
      go_ret
      exact ⟨_, rfl, HO.out, HB.out⟩

end Go.Proofs.YtbahjpheaaiamaaDoor.setsOf
