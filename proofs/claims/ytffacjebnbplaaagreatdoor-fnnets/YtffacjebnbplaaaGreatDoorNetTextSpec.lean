/- A network's text, of the specification; conditions: none. -/
import Derived.Test.YtffacjebnbplaaaGreatDoorNetBytes
import Derived.Test.YtffacjebnbplaaaGreatDoorDigits
import Derived.Test.YtffacjebnbplaaaGreatDoorDrawn
namespace Go.Proofs.YtffacjebnbplaaaGreatDoor.netTextSpec
open Go.RowKit Go.Deep Go base names netSem netLines netBytes heldStore drawn
set_option linter.unusedVariables false

theorem ba_add (a b : ByteArray) : (a ++ b).data.toList = a.data.toList ++ b.data.toList := by simp
theorem ba_len (a : ByteArray) : a.data.toList.length = a.size := by rw [Array.length_toList]; rfl
theorem ba_of {a : ByteArray} {l : List UInt8} (h : a.data.toList = l) : a = ⟨l.toArray⟩ := by rw [← h]
def whenT (h : Nat) : ByteArray := ⟨(whenS (h : Int)).toArray⟩
def doT (d : Nat) : ByteArray := ⟨(doS (d : Int)).toArray⟩
theorem when_size (h : Nat) : (whenT h).size ≤ 10 := by
  show (whenS (h : Int)).toArray.size ≤ _
  rw [List.size_toArray]; exact whenS_len _
theorem do_size (h : Nat) : (doT h).size ≤ 10 := by
  show (doS (h : Int)).toArray.size ≤ _
  rw [List.size_toArray]; exact doS_len _
theorem num_size {n : Nat} (h : n ≤ 1000) : (numW n).size ≤ 1002 := by
  show (Lib.itoa (n : Int)).toArray.size ≤ _
  rw [List.size_toArray]; exact num_len h

set_option maxHeartbeats 6400000 in
set_option maxRecDepth 8000 in
theorem lines_spec (p : Nat → Option Addr) (l c : Nat → Nat) (s : Ss) (g : R) (o e : List Int) (x f : R) (w : World) (h : NetIs w p l s g o e x f) (hB : netB l s g o e x f = true) :
    Calls Tryz.prog 13 #[netV p l c] w fun e' w' => e' = .returned (.string ⟨(netL l s g o e x f).toArray⟩) ∧ Below w.heap.size w w' := by
  have G := hid (good hB)
  obtain ⟨p0, hp0⟩ : ∃ a, p 0 = a := ⟨_, rfl⟩
  obtain ⟨p1, hp1⟩ : ∃ a, p 1 = a := ⟨_, rfl⟩
  obtain ⟨p2, hp2⟩ : ∃ a, p 2 = a := ⟨_, rfl⟩
  obtain ⟨p3, hp3⟩ : ∃ a, p 3 = a := ⟨_, rfl⟩
  obtain ⟨p4, hp4⟩ : ∃ a, p 4 = a := ⟨_, rfl⟩
  obtain ⟨p5, hp5⟩ : ∃ a, p 5 = a := ⟨_, rfl⟩
  have HRW : Hid (∀ w8 : World, Below w.heap.size w w8 → StrRow w8 p0 (l 0) s ∧ Row 3 w8 p1 (l 1) g ∧ IntRow w8 p2 (l 2) o ∧ IntRow w8 p3 (l 3) e ∧ Row 5 w8 p4 (l 4) x ∧ Row 4 w8 p5 (l 5) f) := hid (fun w8 h8 => by
    rw [← hp0, ← hp1, ← hp2, ← hp3, ← hp4, ← hp5]
    have hn := h.below h8
    exact ⟨hn.routers, hn.links, hn.origins, hn.externals, hn.imports, hn.filters⟩)
  have m0 := h.routers.most
  have m1 := h.links.most
  have m2 := h.origins.most
  have m3 := h.externals.most
  have m4 := h.imports.most
  have m5 := h.filters.most
  unfold maxLen at m0 m1 m2 m3 m4 m5
  unfold netV
  rw [hp0, hp1, hp2, hp3, hp4, hp5]
  obtain ⟨tb, htb⟩ : ∃ tb, netL l s g o e x f = tb := ⟨_, rfl⟩
  have HTb := hid htb
  rw [htb]
  clear hp0 hp1 hp2 hp3 hp4 hp5 h hB htb
  have HC1 : Hid (∀ w8 : World, Below ((w.alloc (.cells #[.slice p0 (l 0) (c 0), .slice p1 (l 1) (c 1), .slice p2 (l 2) (c 2), .slice p3 (l 3) (c 3), .slice p4 (l 4) (c 4), .slice p5 (l 5) (c 5)] 29))).heap.size (w.alloc (.cells #[.slice p0 (l 0) (c 0), .slice p1 (l 1) (c 1), .slice p2 (l 2) (c 2), .slice p3 (l 3) (c 3), .slice p4 (l 4) (c 4), .slice p5 (l 5) (c 5)] 29)) w8 → (w8.cell? ⟨w.heap.size, 0, none⟩ = some (.slice p0 (l 0) (c 0)) ∧ w8.cell? ⟨w.heap.size, 1, none⟩ = some (.slice p1 (l 1) (c 1)) ∧ w8.cell? ⟨w.heap.size, 2, none⟩ = some (.slice p2 (l 2) (c 2)) ∧ w8.cell? ⟨w.heap.size, 3, none⟩ = some (.slice p3 (l 3) (c 3)) ∧ w8.cell? ⟨w.heap.size, 4, none⟩ = some (.slice p4 (l 4) (c 4)) ∧ w8.cell? ⟨w.heap.size, 5, none⟩ = some (.slice p5 (l 5) (c 5))) ∧ (StrRow w8 p0 (l 0) s ∧ Row 3 w8 p1 (l 1) g ∧ IntRow w8 p2 (l 2) o ∧ IntRow w8 p3 (l 3) e ∧ Row 5 w8 p4 (l 4) x ∧ Row 4 w8 p5 (l 5) f) ∧ Below w.heap.size w w8) := hid (fun w8 hb => by
    have B1 : Below w.heap.size w w8 := (show Below w.heap.size w _ from (by repeat (first | exact Below.refl _ _ | assumption | refine Below.drew ?_ | refine Below.alloc ?_ (by first | exact Nat.le_refl _ | omega | (simp; done) | (simp; omega)) _ | refine Below.setCell ?_ (by first | exact Nat.le_refl _ | omega | (simp; done) | (simp; omega)) _))).trans (hb.mono (by simp))
    exact ⟨⟨keep hb (by simp [go_sem]), keep hb (by simp [go_sem]), keep hb (by simp [go_sem]), keep hb (by simp [go_sem]), keep hb (by simp [go_sem]), keep hb (by simp [go_sem])⟩, HRW.out _ B1, B1⟩)
  clear HRW
  go_enter Tryz.func13, Tryz.ntmps13
  go_wp2
  go_loopw [5, 3] (fun i v wr => ∃ (k : Nat) (ob : ByteArray), k ≤ l 0 ∧ i = .int .i64 k ∧ v = .string ob ∧ ob.data.toList = upTo (routerL s) k ∧ Below ((w.alloc (.cells #[.slice p0 (l 0) (c 0), .slice p1 (l 1) (c 1), .slice p2 (l 2) (c 2), .slice p3 (l 3) (c 3), .slice p4 (l 4) (c 4), .slice p5 (l 5) (c 5)] 29))).heap.size (w.alloc (.cells #[.slice p0 (l 0) (c 0), .slice p1 (l 1) (c 1), .slice p2 (l 2) (c 2), .slice p3 (l 3) (c 3), .slice p4 (l 4) (c 4), .slice p5 (l 5) (c 5)] 29)) wr) (fun i _ _ => l 0 - (intOf i).toNat)
  case atStart => exact ⟨0, _, Nat.zero_le _, rfl, rfl, (by rw [up_zero]), Below.refl _ _⟩
  case round =>
    skip
    obtain ⟨k1, ob, hk, rfl, rfl, hob, hbel⟩ := hrel
    have HOb := hid hob
    have HBk := hid hbel
    obtain ⟨⟨q0, q1, q2, q3, q4, q5⟩, ⟨r0, r1, r2, r3, r4, r5⟩, hB⟩ := HC1.out _ hbel
    have R0 := hid r0
    have R1 := hid r1
    have R2 := hid r2
    have R3 := hid r3
    have R4 := hid r4
    have R5 := hid r5
    have BR := hid hB
    have hsz := hbel.size
    have hzr := World.block_lt_of_cell? _ _ q0
    simp only at hzr
    have hul := up_most (f := routerL s) G.out.router (by have := G.out.l0; omega) hk
    have hos : ob.size ≤ 36000 := by
      rw [← ba_len, hob]; omega
    clear hob hbel r0 r1 r2 r3 r4 r5 hB
    by_cases hlt : k1 < l 0
    · obtain ⟨b, off, rfl, hc⟩ := R0.out.cell k1 hlt
      have hsl := G.out.name k1 hlt
      clear q1 q2 q3 q4 q5
      have HF := hid (up_succ (routerL s) k1)
      have HLine : Hid ((⟨#[114, 111, 117, 116, 101, 114, 32]⟩ ++ s k1 ++ ⟨#[10]⟩ : ByteArray).data.toList = routerL s k1) := hid (by simp [routerL, nm_nat])
      generalize upTo (routerL s) k1 = acc at *
      generalize routerL s k1 = ln at *
      generalize s k1 = t at *
      have z1 : ¬ (9223372036854775807 < 7 + t.size) := by omega
      have z2 : ¬ (9223372036854775807 < 7 + t.size + 1) := by omega
      have z3 : ¬ (9223372036854775807 < ob.size + (7 + t.size + 1)) := by omega
      go_wp2
      go_roundw
      case rel => exact ⟨k1 + 1, _, by omega, by go_num, rfl, by rw [HF.out, ← HOb.out, ← HLine.out, ← ba_add], HBk.out⟩
      case measure => simp [intOf]; omega
    · have ek : k1 = l 0 := by omega
      obtain ⟨A1, hA⟩ : ∃ A, upTo (routerL s) (l 0) = A := ⟨_, rfl⟩
      have HE1 := hid hA
      rw [ek] at HOb hul
      rw [hA] at HOb
      have la1 : A1.length ≤ 36000 := by rw [← hA]; omega
      have hlt' : decide (k1 < l 0) = false := decide_eq_false (by omega)
      have HOX := hid HOb.out
      have HBX2 := hid HBk.out
      have hosx := hos
      clear hlt ek hk hA hul HOb HBk R0 R1 R2 R3 R4 R5 BR hos
      go_wp2
      go_loopw [6, 3] (fun i v wr => ∃ (k : Nat) (ob : ByteArray), k ≤ l 1 ∧ i = .int .i64 k ∧ v = .string ob ∧ ob.data.toList = A1 ++ upTo (linkL s g) k ∧ Below ((w.alloc (.cells #[.slice p0 (l 0) (c 0), .slice p1 (l 1) (c 1), .slice p2 (l 2) (c 2), .slice p3 (l 3) (c 3), .slice p4 (l 4) (c 4), .slice p5 (l 5) (c 5)] 29))).heap.size (w.alloc (.cells #[.slice p0 (l 0) (c 0), .slice p1 (l 1) (c 1), .slice p2 (l 2) (c 2), .slice p3 (l 3) (c 3), .slice p4 (l 4) (c 4), .slice p5 (l 5) (c 5)] 29)) wr) (fun i _ _ => l 1 - (intOf i).toNat)
      case atStart => exact ⟨0, _, Nat.zero_le _, rfl, rfl, (by rw [up_zero, List.append_nil]; exact HOX.out), HBX2.out⟩
      case round =>
        clear HOX HBX2 hosx
        obtain ⟨k2, ob, hk, rfl, rfl, hob, hbel⟩ := hrel
        have HOb := hid hob
        have HBk := hid hbel
        obtain ⟨⟨q0, q1, q2, q3, q4, q5⟩, ⟨r0, r1, r2, r3, r4, r5⟩, hB⟩ := HC1.out _ hbel
        have R0 := hid r0
        have R1 := hid r1
        have R2 := hid r2
        have R3 := hid r3
        have R4 := hid r4
        have R5 := hid r5
        have BR := hid hB
        have hsz := hbel.size
        have hzr := World.block_lt_of_cell? _ _ q0
        simp only at hzr
        have hul := up_most (f := linkL s g) G.out.links (by have := G.out.l1; omega) hk
        have hos : ob.size ≤ 72000 := by
          rw [← ba_len, hob]; rw [List.length_append]; omega
        clear hob hbel r0 r1 r2 r3 r4 r5 hB
        by_cases hlt : k2 < l 1
        · obtain ⟨b, off, rfl, hc0, hc1, hc2⟩ := R1.out.at3 hlt
          obtain ⟨na, nb, nn, hna, hnb, hnn, e1, e2, e3⟩ := G.out.link k2 hlt
          obtain ⟨b0, off0, rfl, ha0⟩ := R0.out.cell na hna
          obtain ⟨b0', off0', hpp, hb0⟩ := R0.out.cell nb hnb
          cases hpp
          have hsa := G.out.name na hna
          have hsb := G.out.name nb hnb
          have HF := hid (up_succ (linkL s g) k2)
          have HLine0 : Hid ((⟨#[108, 105, 110, 107, 32]⟩ ++ s na ++ ⟨#[32]⟩ ++ s nb ++ ⟨#[32, 99, 111, 115, 116, 32]⟩ ++ numW nn ++ ⟨#[10]⟩ : ByteArray).data.toList = linkL s g k2) := hid (by simp [linkL, nm_nat, e1, e2, e3, numW_list])
          have HI : Hid (∀ w8 : World, Calls Tryz.prog 36 #[.int .i64 (nn : Int)] w8 fun e' w' => e' = .returned (.string (numW nn)) ∧ Below w8.heap.size w8 w') := hid (fun w8 => digits.digits_spec (nn : Int) w8 (by omega) (by omega))
          have hsn := num_size (n := nn) (by omega)
          rw [e1] at hc0
          rw [e2] at hc1
          rw [e3] at hc2
          generalize upTo (linkL s g) k2 = acc at *
          generalize linkL s g k2 = ln at *
          generalize s na = sa at *
          generalize s nb = sb at *
          generalize numW nn = sn at *
          clear e1 e2 e3
          obtain ⟨x1, hxx1⟩ : ∃ y : ByteArray, ⟨#[108, 105, 110, 107, 32]⟩ ++ sa = y := ⟨_, rfl⟩
          have HXx1 := hid hxx1
          have hzx1 : x1.size = 5 + sa.size := by rw [← hxx1, ByteArray.size_append]; first | done | rfl
          have hwx1 : ¬ (9223372036854775807 < 5 + sa.size) := by omega
          have hvx1 : x1.size ≤ 300000 := by omega
          clear hxx1
          obtain ⟨x2, hxx2⟩ : ∃ y : ByteArray, x1 ++ ⟨#[32]⟩ = y := ⟨_, rfl⟩
          have HXx2 := hid hxx2
          have hzx2 : x2.size = x1.size + 1 := by rw [← hxx2, ByteArray.size_append]; first | done | rfl
          have hwx2 : ¬ (9223372036854775807 < x1.size + 1) := by omega
          have hvx2 : x2.size ≤ 300000 := by omega
          clear hxx2
          obtain ⟨x3, hxx3⟩ : ∃ y : ByteArray, x2 ++ sb = y := ⟨_, rfl⟩
          have HXx3 := hid hxx3
          have hzx3 : x3.size = x2.size + sb.size := by rw [← hxx3, ByteArray.size_append]; first | done | rfl
          have hwx3 : ¬ (9223372036854775807 < x2.size + sb.size) := by omega
          have hvx3 : x3.size ≤ 300000 := by omega
          clear hxx3
          obtain ⟨x4, hxx4⟩ : ∃ y : ByteArray, x3 ++ ⟨#[32, 99, 111, 115, 116, 32]⟩ = y := ⟨_, rfl⟩
          have HXx4 := hid hxx4
          have hzx4 : x4.size = x3.size + 6 := by rw [← hxx4, ByteArray.size_append]; first | done | rfl
          have hwx4 : ¬ (9223372036854775807 < x3.size + 6) := by omega
          have hvx4 : x4.size ≤ 300000 := by omega
          clear hxx4
          obtain ⟨x5, hxx5⟩ : ∃ y : ByteArray, x4 ++ sn = y := ⟨_, rfl⟩
          have HXx5 := hid hxx5
          have hzx5 : x5.size = x4.size + sn.size := by rw [← hxx5, ByteArray.size_append]; first | done | rfl
          have hwx5 : ¬ (9223372036854775807 < x4.size + sn.size) := by omega
          have hvx5 : x5.size ≤ 300000 := by omega
          clear hxx5
          obtain ⟨x6, hxx6⟩ : ∃ y : ByteArray, x5 ++ ⟨#[10]⟩ = y := ⟨_, rfl⟩
          have HXx6 := hid hxx6
          have hzx6 : x6.size = x5.size + 1 := by rw [← hxx6, ByteArray.size_append]; first | done | rfl
          have hwx6 : ¬ (9223372036854775807 < x5.size + 1) := by omega
          have hvx6 : x6.size ≤ 300000 := by omega
          clear hxx6
          obtain ⟨x7, hxx7⟩ : ∃ y : ByteArray, ob ++ x6 = y := ⟨_, rfl⟩
          have HXx7 := hid hxx7
          have hzx7 : x7.size = ob.size + x6.size := by rw [← hxx7, ByteArray.size_append]; first | done | rfl
          have hwx7 : ¬ (9223372036854775807 < ob.size + x6.size) := by omega
          have hvx7 : x7.size ≤ 300000 := by omega
          clear hxx7
          clear hzx1
          clear hzx2
          clear hzx3
          clear hzx4
          clear hzx5
          clear hzx6
          clear hzx7
          have HLine : Hid (x6.data.toList = ln) := hid (by rw [← HLine0.out, HXx1.out, HXx2.out, HXx3.out, HXx4.out, HXx5.out, HXx6.out])
          clear HLine0
          have F8 : Hid (∀ w8 : World, Below ((wr.alloc (.cells #[.int .i64 (na : Int), .int .i64 (nb : Int), .int .i64 (nn : Int)] 61))).heap.size (wr.alloc (.cells #[.int .i64 (na : Int), .int .i64 (nb : Int), .int .i64 (nn : Int)] 61)) w8 → w8.cell? ⟨wr.heap.size, 0, none⟩ = some (.int .i64 (na : Int)) ∧ w8.cell? ⟨wr.heap.size, 1, none⟩ = some (.int .i64 (nb : Int)) ∧ w8.cell? ⟨wr.heap.size, 2, none⟩ = some (.int .i64 (nn : Int)) ∧ True ∧ w8.cell? ⟨b0, off0 + na, none⟩ = some (.string sa) ∧ w8.cell? ⟨b0, off0 + nb, none⟩ = some (.string sb) ∧ Below ((w.alloc (.cells #[.slice (some ⟨b0, off0, none⟩) (l 0) (c 0), .slice (some ⟨b, off, none⟩) (l 1) (c 1), .slice p2 (l 2) (c 2), .slice p3 (l 3) (c 3), .slice p4 (l 4) (c 4), .slice p5 (l 5) (c 5)] 29))).heap.size (w.alloc (.cells #[.slice (some ⟨b0, off0, none⟩) (l 0) (c 0), .slice (some ⟨b, off, none⟩) (l 1) (c 1), .slice p2 (l 2) (c 2), .slice p3 (l 3) (c 3), .slice p4 (l 4) (c 4), .slice p5 (l 5) (c 5)] 29)) w8) := hid (fun w8 S8 => by
            have hab : Below wr.heap.size wr (wr.alloc (.cells #[.int .i64 (na : Int), .int .i64 (nb : Int), .int .i64 (nn : Int)] 61)) := (by repeat (first | exact Below.refl _ _ | assumption | refine Below.drew ?_ | refine Below.alloc ?_ (by first | exact Nat.le_refl _ | omega | (simp; done) | (simp; omega)) _ | refine Below.setCell ?_ (by first | exact Nat.le_refl _ | omega | (simp; done) | (simp; omega)) _))
            have h8 : Below wr.heap.size wr w8 := hab.trans (S8.mono (by simp))
            exact ⟨keep S8 (by simp [go_sem]), keep S8 (by simp [go_sem]), keep S8 (by simp [go_sem]), trivial, keep h8 ha0, keep h8 hb0, HBk.out.trans (h8.mono hsz)⟩)
          clear q0 q2 q3 q4 q5
          go_wp2
          clear q1 hc0 hc1 hc2 ha0 hb0
          refine region_below (fun u => ⟨#[.agg #[.slice (some ⟨b0, off0, none⟩) (l 0) (c 0), .slice (some ⟨b, off, none⟩) (l 1) (c 1), .slice (p2) (l 2) (c 2), .slice (p3) (l 3) (c 3), .slice (p4) (l 4) (c 4), .slice (p5) (l 5) (c 5)], .pointer (some ⟨w.heap.size, 0, none⟩), .string ⟨#[]⟩, .string ob, .slice (some ⟨b0, off0, none⟩) (l 0) (c 0), .int .i64 (k1 : Int), .int .i64 (k2 : Int), .pointer (some ⟨wr.heap.size, 0, none⟩), undef, undef, undef, undef, undef, undef, .pointer (some ⟨w.heap.size, 0, none⟩), .slice (some ⟨b0, off0, none⟩) (l 0) (c 0), .int .i64 (k1 : Int), .slice (some ⟨b0, off0, none⟩) (l 0) (c 0), .int .i64 (l 0 : Int), .bool false, u20, u21, u22, u23, u24, u25, u26, u27, u28, u29, .int .i64 (k2 : Int), .pointer (some ⟨w.heap.size, 1, none⟩), .slice (some ⟨b, off, none⟩) (l 1) (c 1), .int .i64 (l 1 : Int), .bool true, u35, u36, .pointer (some ⟨w.heap.size, 1, none⟩), .slice (some ⟨b, off, none⟩) (l 1) (c 1), .int .i64 (k2 : Int), .pointer (some ⟨b, off + k2 * 3, none⟩), .agg #[.int .i64 (na : Int), .int .i64 (nb : Int), .int .i64 (nn : Int)], u 42, u 43, u 44, u 45, u 46, u 47, u 48, u 49, u 50, u 51, u 52, u 53, u 54, u 55, u 56, u 57, u 58, u 59, u 60, u 61, u 62, undef, undef, undef, undef, undef, undef, undef, undef, undef, undef, undef, undef, undef, undef, undef, undef, undef, undef, undef, undef, undef, undef, undef, undef, undef, undef, undef, undef, undef, undef, undef, undef, undef, undef, undef, undef, undef, undef, undef, undef, undef, undef, undef, undef, undef, undef, undef, undef, undef, undef, undef, undef, undef, undef, undef, undef, undef, undef, undef, undef, undef, undef, undef, undef, undef, undef, undef, undef, undef, undef, undef, undef, undef, undef, undef, undef, undef, undef, undef, undef, undef, undef, undef, undef, undef, undef, undef, undef, undef, undef, undef, undef, undef, undef, undef, undef, undef, undef, undef, undef, undef, undef, undef, undef, undef, undef, undef, undef, undef, undef, undef, undef, undef, undef, undef, undef, undef, undef, undef, undef, undef, undef, undef, undef, undef, undef, undef], []⟩) (fun i => [42, 43, 44, 45, 46, 47, 48, 49, 50, 51, 52, 53, 54, 55, 56, 57, 58, 59, 60, 61, 62].getD i 0) (fun i v w8 => match i with | 0 => v = .string ob | 1 => v = .slice (some ⟨b0, off0, none⟩) (l 0) (c 0) | 2 => v = .pointer (some ⟨wr.heap.size, 0, none⟩) | 3 => v = .int .i64 (na : Int) | 4 => v = .pointer (some ⟨b0, off0 + na, none⟩) | 5 => v = .string sa | 6 => v = .string x1 | 7 => v = .string x2 | 8 => v = .slice (some ⟨b0, off0, none⟩) (l 0) (c 0) | 9 => v = .pointer (some ⟨wr.heap.size, 1, none⟩) | 10 => v = .int .i64 (nb : Int) | 11 => v = .pointer (some ⟨b0, off0 + nb, none⟩) | 12 => v = .string sb | 13 => v = .string x3 | 14 => v = .string x4 | 15 => v = .pointer (some ⟨wr.heap.size, 2, none⟩) | 16 => v = .int .i64 (nn : Int) | 17 => v = .string sn | 18 => v = .string x5 | 19 => v = .string x6 | 20 => v = .string x7 | _ => True) _ 21 (fun k => match k with | 42 => u42 | 43 => u43 | 44 => u44 | 45 => u45 | 46 => u46 | 47 => u47 | 48 => u48 | 49 => u49 | 50 => u50 | 51 => u51 | 52 => u52 | 53 => u53 | 54 => u54 | 55 => u55 | 56 => u56 | 57 => u57 | 58 => u58 | 59 => u59 | 60 => u60 | 61 => u61 | 62 => u62 | _ => undef) (by rfl) (by kernel_rfl) (by rfl) ⟨by kernel_rfl, by kernel_rfl, by kernel_rfl, by decide⟩ (by kernel_rfl) (Below.refl _ _) ?hput ?hinj ?stable ?step ?last
          case hput =>
            intro i hi u v
            match i, hi with
            | 0, _ => rfl
            | 1, _ => rfl
            | 2, _ => rfl
            | 3, _ => rfl
            | 4, _ => rfl
            | 5, _ => rfl
            | 6, _ => rfl
            | 7, _ => rfl
            | 8, _ => rfl
            | 9, _ => rfl
            | 10, _ => rfl
            | 11, _ => rfl
            | 12, _ => rfl
            | 13, _ => rfl
            | 14, _ => rfl
            | 15, _ => rfl
            | 16, _ => rfl
            | 17, _ => rfl
            | 18, _ => rfl
            | 19, _ => rfl
            | 20, _ => rfl
            | i + 21, hi => exact absurd hi (by omega)
          case hinj =>
            intro i j hi hj h
            exact slots_inj [42, 43, 44, 45, 46, 47, 48, 49, 50, 51, 52, 53, 54, 55, 56, 57, 58, 59, 60, 61, 62] (by decide) hi hj h
          case stable =>
            intro i v w8 w9 hb h
            match i, h with
            | 0, h => exact h
            | 1, h => exact h
            | 2, h => exact h
            | 3, h => exact h
            | 4, h => exact h
            | 5, h => exact h
            | 6, h => exact h
            | 7, h => exact h
            | 8, h => exact h
            | 9, h => exact h
            | 10, h => exact h
            | 11, h => exact h
            | 12, h => exact h
            | 13, h => exact h
            | 14, h => exact h
            | 15, h => exact h
            | 16, h => exact h
            | 17, h => exact h
            | 18, h => exact h
            | 19, h => exact h
            | 20, h => exact h
            | _ + 21, h => trivial
          case step =>
            intro i hi u w8 S8 hdep
            match i, hi with
            | 0, _ =>
              clear hdep
              refine ⟨_, rfl, fun K' hK => ?_⟩
              go_simp
              exact hK.out _ _ (Below.refl _ _) rfl
            | 1, _ =>
              clear hdep
              refine ⟨_, rfl, fun K' hK => ?_⟩
              go_simp
              exact hK.out _ _ (Below.refl _ _) rfl
            | 2, _ =>
              clear hdep
              refine ⟨_, rfl, fun K' hK => ?_⟩
              go_simp
              exact hK.out _ _ (Below.refl _ _) rfl
            | 3, _ =>
              have h2 : (u 44) = .pointer (some ⟨wr.heap.size, 0, none⟩) := hdep 2 (by kernel_rfl)
              clear hdep
              refine ⟨_, rfl, fun K' hK => ?_⟩
              obtain ⟨f1, f2, f3, f4, f5, f6, f7⟩ := F8.out _ S8
              have f0 := trivial
              simp only [h2] at hK ⊢
              go_simp
              exact hK.out _ _ (Below.refl _ _) rfl
            | 4, _ =>
              have h1 : (u 43) = .slice (some ⟨b0, off0, none⟩) (l 0) (c 0) := hdep 1 (by kernel_rfl)
              have h3 : (u 45) = .int .i64 (na : Int) := hdep 3 (by kernel_rfl)
              clear hdep
              refine ⟨_, rfl, fun K' hK => ?_⟩
              simp only [h1, h3] at hK ⊢
              go_simp
              exact hK.out _ _ (Below.refl _ _) rfl
            | 5, _ =>
              have h4 : (u 46) = .pointer (some ⟨b0, off0 + na, none⟩) := hdep 4 (by kernel_rfl)
              clear hdep
              refine ⟨_, rfl, fun K' hK => ?_⟩
              obtain ⟨f1, f2, f3, f4, f5, f6, f7⟩ := F8.out _ S8
              have f0 := trivial
              simp only [h4] at hK ⊢
              go_simp
              exact hK.out _ _ (Below.refl _ _) rfl
            | 6, _ =>
              have h5 : (u 47) = .string sa := hdep 5 (by kernel_rfl)
              clear hdep
              refine ⟨_, rfl, fun K' hK => ?_⟩
              simp only [h5] at hK ⊢
              go_simp
              exact hK.out _ _ (Below.refl _ _) (by rw [HXx1.out])
            | 7, _ =>
              have h6 : (u 48) = .string x1 := hdep 6 (by kernel_rfl)
              clear hdep
              refine ⟨_, rfl, fun K' hK => ?_⟩
              simp only [h6] at hK ⊢
              go_simp
              exact hK.out _ _ (Below.refl _ _) (by rw [HXx2.out])
            | 8, _ =>
              clear hdep
              refine ⟨_, rfl, fun K' hK => ?_⟩
              go_simp
              exact hK.out _ _ (Below.refl _ _) rfl
            | 9, _ =>
              clear hdep
              refine ⟨_, rfl, fun K' hK => ?_⟩
              go_simp
              exact hK.out _ _ (Below.refl _ _) rfl
            | 10, _ =>
              have h9 : (u 51) = .pointer (some ⟨wr.heap.size, 1, none⟩) := hdep 9 (by kernel_rfl)
              clear hdep
              refine ⟨_, rfl, fun K' hK => ?_⟩
              obtain ⟨f1, f2, f3, f4, f5, f6, f7⟩ := F8.out _ S8
              have f0 := trivial
              simp only [h9] at hK ⊢
              go_simp
              exact hK.out _ _ (Below.refl _ _) rfl
            | 11, _ =>
              have h8 : (u 50) = .slice (some ⟨b0, off0, none⟩) (l 0) (c 0) := hdep 8 (by kernel_rfl)
              have h10 : (u 52) = .int .i64 (nb : Int) := hdep 10 (by kernel_rfl)
              clear hdep
              refine ⟨_, rfl, fun K' hK => ?_⟩
              simp only [h8, h10] at hK ⊢
              go_simp
              exact hK.out _ _ (Below.refl _ _) rfl
            | 12, _ =>
              have h11 : (u 53) = .pointer (some ⟨b0, off0 + nb, none⟩) := hdep 11 (by kernel_rfl)
              clear hdep
              refine ⟨_, rfl, fun K' hK => ?_⟩
              obtain ⟨f1, f2, f3, f4, f5, f6, f7⟩ := F8.out _ S8
              have f0 := trivial
              simp only [h11] at hK ⊢
              go_simp
              exact hK.out _ _ (Below.refl _ _) rfl
            | 13, _ =>
              have h7 : (u 49) = .string x2 := hdep 7 (by kernel_rfl)
              have h12 : (u 54) = .string sb := hdep 12 (by kernel_rfl)
              clear hdep
              refine ⟨_, rfl, fun K' hK => ?_⟩
              simp only [h7, h12] at hK ⊢
              go_simp
              exact hK.out _ _ (Below.refl _ _) (by rw [HXx3.out])
            | 14, _ =>
              have h13 : (u 55) = .string x3 := hdep 13 (by kernel_rfl)
              clear hdep
              refine ⟨_, rfl, fun K' hK => ?_⟩
              simp only [h13] at hK ⊢
              go_simp
              exact hK.out _ _ (Below.refl _ _) (by rw [HXx4.out])
            | 15, _ =>
              clear hdep
              refine ⟨_, rfl, fun K' hK => ?_⟩
              go_simp
              exact hK.out _ _ (Below.refl _ _) rfl
            | 16, _ =>
              have h15 : (u 57) = .pointer (some ⟨wr.heap.size, 2, none⟩) := hdep 15 (by kernel_rfl)
              clear hdep
              refine ⟨_, rfl, fun K' hK => ?_⟩
              obtain ⟨f1, f2, f3, f4, f5, f6, f7⟩ := F8.out _ S8
              have f0 := trivial
              simp only [h15] at hK ⊢
              go_simp
              exact hK.out _ _ (Below.refl _ _) rfl
            | 17, _ =>
              have h16 : (u 58) = .int .i64 (nn : Int) := hdep 16 (by kernel_rfl)
              clear hdep
              refine ⟨_, rfl, fun K' hK => ?_⟩
              simp only [h16] at hK ⊢
              go_simp
              refine (HI.out _).mono ?_
              rintro e9 w9 ⟨rfl, hb9⟩
              exact hK.out _ _ hb9 rfl
            | 18, _ =>
              have h14 : (u 56) = .string x4 := hdep 14 (by kernel_rfl)
              have h17 : (u 59) = .string sn := hdep 17 (by kernel_rfl)
              clear hdep
              refine ⟨_, rfl, fun K' hK => ?_⟩
              simp only [h14, h17] at hK ⊢
              go_simp
              exact hK.out _ _ (Below.refl _ _) (by rw [HXx5.out])
            | 19, _ =>
              have h18 : (u 60) = .string x5 := hdep 18 (by kernel_rfl)
              clear hdep
              refine ⟨_, rfl, fun K' hK => ?_⟩
              simp only [h18] at hK ⊢
              go_simp
              exact hK.out _ _ (Below.refl _ _) (by rw [HXx6.out])
            | 20, _ =>
              have h0 : (u 42) = .string ob := hdep 0 (by kernel_rfl)
              have h19 : (u 61) = .string x6 := hdep 19 (by kernel_rfl)
              clear hdep
              refine ⟨_, rfl, fun K' hK => ?_⟩
              simp only [h0, h19] at hK ⊢
              go_simp
              exact hK.out _ _ (Below.refl _ _) (by rw [HXx7.out])
            | i + 21, hi => exact absurd hi (by omega)
          case last =>
            intro u w8 S8 hall
            have h20 : (u 62) = .string x7 := hall 20 (by decide)
            clear hall
            refine ⟨_, rfl, fun K' hK => ?_⟩
            obtain ⟨f1, f2, f3, f4, f5, f6, f7⟩ := F8.out _ S8
            have f0 := trivial
            simp only [h20] at hK ⊢
            go_simp
            refine hK.out _ _ ?_
            have B8 := hid f7
            clear hK K' f0 f1 f2 f3 f4 f5 f6 f7
            (try simp only [Exit.inBlock, Exit.then])
            go_wp2
            exact ⟨⟨k2 + 1, x7, by omega, by go_num, rfl, by rw [HF.out, ← List.append_assoc, ← HOb.out, ← HLine.out, ← ba_add]; rw [HXx7.out], B8.out⟩, by simp [intOf]; omega⟩
        · have ek : k2 = l 1 := by omega
          obtain ⟨A2, hA⟩ : ∃ A, A1 ++ upTo (linkL s g) (l 1) = A := ⟨_, rfl⟩
          have HE2 := hid hA
          rw [ek] at HOb hul
          rw [hA] at HOb
          have la2 : A2.length ≤ 72000 := by rw [← hA]; rw [List.length_append]; omega
          have hlt' : decide (k2 < l 1) = false := decide_eq_false (by omega)
          have HOX := hid HOb.out
          have HBX2 := hid HBk.out
          have hosx := hos
          clear hlt ek hk hA hul HOb HBk R0 R1 R2 R3 R4 R5 BR hos
          go_wp2
          go_loopw [8, 3] (fun i v wr => ∃ (k : Nat) (ob : ByteArray), k ≤ l 2 ∧ i = .int .i64 k ∧ v = .string ob ∧ ob.data.toList = A2 ++ upTo (origL s o) k ∧ Below ((w.alloc (.cells #[.slice p0 (l 0) (c 0), .slice p1 (l 1) (c 1), .slice p2 (l 2) (c 2), .slice p3 (l 3) (c 3), .slice p4 (l 4) (c 4), .slice p5 (l 5) (c 5)] 29))).heap.size (w.alloc (.cells #[.slice p0 (l 0) (c 0), .slice p1 (l 1) (c 1), .slice p2 (l 2) (c 2), .slice p3 (l 3) (c 3), .slice p4 (l 4) (c 4), .slice p5 (l 5) (c 5)] 29)) wr) (fun i _ _ => l 2 - (intOf i).toNat)
          case atStart => exact ⟨0, _, Nat.zero_le _, rfl, rfl, (by rw [up_zero, List.append_nil]; exact HOX.out), HBX2.out⟩
          case round =>
            clear HOX HBX2 hosx
            obtain ⟨k3, ob, hk, rfl, rfl, hob, hbel⟩ := hrel
            have HOb := hid hob
            have HBk := hid hbel
            obtain ⟨⟨q0, q1, q2, q3, q4, q5⟩, ⟨r0, r1, r2, r3, r4, r5⟩, hB⟩ := HC1.out _ hbel
            have R0 := hid r0
            have R1 := hid r1
            have R2 := hid r2
            have R3 := hid r3
            have R4 := hid r4
            have R5 := hid r5
            have BR := hid hB
            have hsz := hbel.size
            have hzr := World.block_lt_of_cell? _ _ q0
            simp only at hzr
            have hul := up_most (f := origL s o) G.out.origs (by have := G.out.l2; omega) hk
            have hos : ob.size ≤ 108000 := by
              rw [← ba_len, hob]; rw [List.length_append]; omega
            clear hob hbel r0 r1 r2 r3 r4 r5 hB
            by_cases hlt : k3 < l 2
            · obtain ⟨b, off, rfl, hc⟩ := R2.out.cell k3 hlt
              obtain ⟨na, hna, e1⟩ := G.out.orig k3 hlt
              obtain ⟨b0, off0, rfl, ha0⟩ := R0.out.cell na hna
              rw [show o[k3]?.getD 0 = (na : Int) from e1] at hc
              have hsl := G.out.name na hna
              clear q0 q1 q3 q4 q5
              have HF := hid (up_succ (origL s o) k3)
              have HLine : Hid ((⟨#[111, 114, 105, 103, 105, 110, 32]⟩ ++ s na ++ ⟨#[10]⟩ : ByteArray).data.toList = origL s o k3) := hid (by simp [origL, nm_nat, e1])
              generalize upTo (origL s o) k3 = acc at *
              generalize origL s o k3 = ln at *
              generalize s na = t at *
              clear e1
              have z1 : ¬ (9223372036854775807 < 7 + t.size) := by omega
              have z2 : ¬ (9223372036854775807 < 7 + t.size + 1) := by omega
              have z3 : ¬ (9223372036854775807 < ob.size + (7 + t.size + 1)) := by omega
              go_wp2
              go_roundw
              case rel => exact ⟨k3 + 1, _, by omega, by go_num, rfl, by rw [HF.out, ← List.append_assoc, ← HOb.out, ← HLine.out, ← ba_add], HBk.out⟩
              case measure => simp [intOf]; omega
            · have ek : k3 = l 2 := by omega
              obtain ⟨A3, hA⟩ : ∃ A, A2 ++ upTo (origL s o) (l 2) = A := ⟨_, rfl⟩
              have HE3 := hid hA
              rw [ek] at HOb hul
              rw [hA] at HOb
              have la3 : A3.length ≤ 108000 := by rw [← hA]; rw [List.length_append]; omega
              have hlt' : decide (k3 < l 2) = false := decide_eq_false (by omega)
              have HOX := hid HOb.out
              have HBX2 := hid HBk.out
              have hosx := hos
              clear hlt ek hk hA hul HOb HBk R0 R1 R2 R3 R4 R5 BR hos
              go_wp2
              go_loopw [9, 3] (fun i v wr => ∃ (k : Nat) (ob : ByteArray), k ≤ l 3 ∧ i = .int .i64 k ∧ v = .string ob ∧ ob.data.toList = A3 ++ upTo (extL s e) k ∧ Below ((w.alloc (.cells #[.slice p0 (l 0) (c 0), .slice p1 (l 1) (c 1), .slice p2 (l 2) (c 2), .slice p3 (l 3) (c 3), .slice p4 (l 4) (c 4), .slice p5 (l 5) (c 5)] 29))).heap.size (w.alloc (.cells #[.slice p0 (l 0) (c 0), .slice p1 (l 1) (c 1), .slice p2 (l 2) (c 2), .slice p3 (l 3) (c 3), .slice p4 (l 4) (c 4), .slice p5 (l 5) (c 5)] 29)) wr) (fun i _ _ => l 3 - (intOf i).toNat)
              case atStart => exact ⟨0, _, Nat.zero_le _, rfl, rfl, (by rw [up_zero, List.append_nil]; exact HOX.out), HBX2.out⟩
              case round =>
                clear HOX HBX2 hosx
                obtain ⟨k4, ob, hk, rfl, rfl, hob, hbel⟩ := hrel
                have HOb := hid hob
                have HBk := hid hbel
                obtain ⟨⟨q0, q1, q2, q3, q4, q5⟩, ⟨r0, r1, r2, r3, r4, r5⟩, hB⟩ := HC1.out _ hbel
                have R0 := hid r0
                have R1 := hid r1
                have R2 := hid r2
                have R3 := hid r3
                have R4 := hid r4
                have R5 := hid r5
                have BR := hid hB
                have hsz := hbel.size
                have hzr := World.block_lt_of_cell? _ _ q0
                simp only at hzr
                have hul := up_most (f := extL s e) G.out.exts (by have := G.out.l3; omega) hk
                have hos : ob.size ≤ 144000 := by
                  rw [← ba_len, hob]; rw [List.length_append]; omega
                clear hob hbel r0 r1 r2 r3 r4 r5 hB
                by_cases hlt : k4 < l 3
                · obtain ⟨b, off, rfl, hc⟩ := R3.out.cell k4 hlt
                  obtain ⟨na, hna, e1⟩ := G.out.extn k4 hlt
                  obtain ⟨b0, off0, rfl, ha0⟩ := R0.out.cell na hna
                  rw [show e[k4]?.getD 0 = (na : Int) from e1] at hc
                  have hsl := G.out.name na hna
                  clear q0 q1 q2 q4 q5
                  have HF := hid (up_succ (extL s e) k4)
                  have HLine : Hid ((⟨#[101, 120, 116, 101, 114, 110, 97, 108, 32]⟩ ++ s na ++ ⟨#[10]⟩ : ByteArray).data.toList = extL s e k4) := hid (by simp [extL, nm_nat, e1])
                  generalize upTo (extL s e) k4 = acc at *
                  generalize extL s e k4 = ln at *
                  generalize s na = t at *
                  clear e1
                  have z1 : ¬ (9223372036854775807 < 9 + t.size) := by omega
                  have z2 : ¬ (9223372036854775807 < 9 + t.size + 1) := by omega
                  have z3 : ¬ (9223372036854775807 < ob.size + (9 + t.size + 1)) := by omega
                  go_wp2
                  go_roundw
                  case rel => exact ⟨k4 + 1, _, by omega, by go_num, rfl, by rw [HF.out, ← List.append_assoc, ← HOb.out, ← HLine.out, ← ba_add], HBk.out⟩
                  case measure => simp [intOf]; omega
                · have ek : k4 = l 3 := by omega
                  obtain ⟨A4, hA⟩ : ∃ A, A3 ++ upTo (extL s e) (l 3) = A := ⟨_, rfl⟩
                  have HE4 := hid hA
                  rw [ek] at HOb hul
                  rw [hA] at HOb
                  have la4 : A4.length ≤ 144000 := by rw [← hA]; rw [List.length_append]; omega
                  have hlt' : decide (k4 < l 3) = false := decide_eq_false (by omega)
                  have HOX := hid HOb.out
                  have HBX2 := hid HBk.out
                  have hosx := hos
                  clear hlt ek hk hA hul HOb HBk R0 R1 R2 R3 R4 R5 BR hos
                  go_wp2
                  go_loopw [10, 3] (fun i v wr => ∃ (k : Nat) (ob : ByteArray), k ≤ l 4 ∧ i = .int .i64 k ∧ v = .string ob ∧ ob.data.toList = A4 ++ upTo (impL s x) k ∧ Below ((w.alloc (.cells #[.slice p0 (l 0) (c 0), .slice p1 (l 1) (c 1), .slice p2 (l 2) (c 2), .slice p3 (l 3) (c 3), .slice p4 (l 4) (c 4), .slice p5 (l 5) (c 5)] 29))).heap.size (w.alloc (.cells #[.slice p0 (l 0) (c 0), .slice p1 (l 1) (c 1), .slice p2 (l 2) (c 2), .slice p3 (l 3) (c 3), .slice p4 (l 4) (c 4), .slice p5 (l 5) (c 5)] 29)) wr) (fun i _ _ => l 4 - (intOf i).toNat)
                  case atStart => exact ⟨0, _, Nat.zero_le _, rfl, rfl, (by rw [up_zero, List.append_nil]; exact HOX.out), HBX2.out⟩
                  case round =>
                    clear HOX HBX2 hosx
                    obtain ⟨k5, ob, hk, rfl, rfl, hob, hbel⟩ := hrel
                    have HOb := hid hob
                    have HBk := hid hbel
                    obtain ⟨⟨q0, q1, q2, q3, q4, q5⟩, ⟨r0, r1, r2, r3, r4, r5⟩, hB⟩ := HC1.out _ hbel
                    have R0 := hid r0
                    have R1 := hid r1
                    have R2 := hid r2
                    have R3 := hid r3
                    have R4 := hid r4
                    have R5 := hid r5
                    have BR := hid hB
                    have hsz := hbel.size
                    have hzr := World.block_lt_of_cell? _ _ q0
                    simp only at hzr
                    have hul := up_most (f := impL s x) G.out.imps (by have := G.out.l4; omega) hk
                    have hos : ob.size ≤ 180000 := by
                      rw [← ba_len, hob]; rw [List.length_append]; omega
                    clear hob hbel r0 r1 r2 r3 r4 r5 hB
                    by_cases hlt : k5 < l 4
                    · obtain ⟨b, off, rfl, hc0, hc1, hc2, hc3, hc4⟩ := R4.out.at5 hlt
                      obtain ⟨na, nb, nh, nd, nn, hna, hnb, hnh, hnd1, hnd4, hnn, e1, e2, e3, e4, e5⟩ := G.out.impo k5 hlt
                      obtain ⟨b0, off0, rfl, ha0⟩ := R0.out.cell na hna
                      obtain ⟨b0', off0', hpp, hb0⟩ := R0.out.cell nb hnb
                      cases hpp
                      have hsa := G.out.name na hna
                      have hsb := G.out.name nb hnb
                      have HF := hid (up_succ (impL s x) k5)
                      have HL1 : Hid (nd ≠ 2 → (⟨#[105, 109, 112, 111, 114, 116, 32]⟩ ++ s na ++ ⟨#[32, 102, 114, 111, 109, 32]⟩ ++ s nb ++ whenT nh ++ doT nd : ByteArray).data.toList ++ [10] = impL s x k5) := hid (fun hq => by
                        have hq' : ¬ ((nd : Int) = 2) := by omega
                        simp [impL, nm_nat, e1, e2, e3, e4, whenT, doT, prefS, hq'])
                      have HL2 : Hid (nd = 2 → (⟨#[105, 109, 112, 111, 114, 116, 32]⟩ ++ s na ++ ⟨#[32, 102, 114, 111, 109, 32]⟩ ++ s nb ++ whenT nh ++ doT nd : ByteArray).data.toList ++ ([32] ++ (numW nn).data.toList) ++ [10] = impL s x k5) := hid (fun hq => by
                        have hq' : (nd : Int) = 2 := by omega
                        simp [impL, nm_nat, e1, e2, e3, e4, e5, whenT, doT, prefS, hq', numW_list])
                      have HI : Hid (∀ w8 : World, Calls Tryz.prog 36 #[.int .i64 (nn : Int)] w8 fun e' w' => e' = .returned (.string (numW nn)) ∧ Below w8.heap.size w8 w') := hid (fun w8 => digits.digits_spec (nn : Int) w8 (by omega) (by omega))
                      have HW3 : Hid (∀ w8 : World, (w8.alloc (.cells #[.string ⟨#[]⟩, .string ⟨#[32, 105, 102, 32, 109, 97, 114, 107]⟩, .string ⟨#[32, 105, 102, 32, 112, 108, 97, 105, 110]⟩] 9)).cell? ⟨w8.heap.size, nh, none⟩ = some (.string (whenT nh))) := hid (fun w8 => by
                        obtain rfl | rfl | rfl : nh = 0 ∨ nh = 1 ∨ nh = 2 := by omega
                        all_goals simp [go_sem, whenT, whenS])
                      have HD5 : Hid (∀ w8 : World, (w8.alloc (.cells #[.string ⟨#[]⟩, .string ⟨#[32, 100, 101, 110, 121]⟩, .string ⟨#[32, 112, 114, 101, 102]⟩, .string ⟨#[32, 109, 97, 114, 107]⟩, .string ⟨#[32, 99, 108, 101, 97, 114]⟩] 9)).cell? ⟨w8.heap.size, nd, none⟩ = some (.string (doT nd))) := hid (fun w8 => by
                        obtain rfl | rfl | rfl | rfl : nd = 1 ∨ nd = 2 ∨ nd = 3 ∨ nd = 4 := by omega
                        all_goals simp [go_sem, doT, doS])
                      have hsn := num_size (n := nn) (by omega)
                      have htw := when_size nh
                      have htd := do_size nd
                      have hn3 : (nh : Int) < 3 := by omega
                      have hd5 : (nd : Int) < 5 := by omega
                      rw [e1] at hc0
                      rw [e2] at hc1
                      rw [e3] at hc2
                      rw [e4] at hc3
                      rw [e5] at hc4
                      generalize upTo (impL s x) k5 = acc at *
                      generalize impL s x k5 = ln at *
                      generalize s na = sa at *
                      generalize s nb = sb at *
                      generalize numW nn = sn at *
                      generalize whenT nh = tw at *
                      generalize doT nd = td at *
                      clear e1 e2 e3 e4 e5
                      obtain ⟨x1, hxx1⟩ : ∃ y : ByteArray, ⟨#[105, 109, 112, 111, 114, 116, 32]⟩ ++ sa = y := ⟨_, rfl⟩
                      have HXx1 := hid hxx1
                      have hzx1 : x1.size = 7 + sa.size := by rw [← hxx1, ByteArray.size_append]; first | done | rfl
                      have hwx1 : ¬ (9223372036854775807 < 7 + sa.size) := by omega
                      have hvx1 : x1.size ≤ 300000 := by omega
                      clear hxx1
                      obtain ⟨x2, hxx2⟩ : ∃ y : ByteArray, x1 ++ ⟨#[32, 102, 114, 111, 109, 32]⟩ = y := ⟨_, rfl⟩
                      have HXx2 := hid hxx2
                      have hzx2 : x2.size = x1.size + 6 := by rw [← hxx2, ByteArray.size_append]; first | done | rfl
                      have hwx2 : ¬ (9223372036854775807 < x1.size + 6) := by omega
                      have hvx2 : x2.size ≤ 300000 := by omega
                      clear hxx2
                      obtain ⟨x3, hxx3⟩ : ∃ y : ByteArray, x2 ++ sb = y := ⟨_, rfl⟩
                      have HXx3 := hid hxx3
                      have hzx3 : x3.size = x2.size + sb.size := by rw [← hxx3, ByteArray.size_append]; first | done | rfl
                      have hwx3 : ¬ (9223372036854775807 < x2.size + sb.size) := by omega
                      have hvx3 : x3.size ≤ 300000 := by omega
                      clear hxx3
                      obtain ⟨x4, hxx4⟩ : ∃ y : ByteArray, x3 ++ tw = y := ⟨_, rfl⟩
                      have HXx4 := hid hxx4
                      have hzx4 : x4.size = x3.size + tw.size := by rw [← hxx4, ByteArray.size_append]; first | done | rfl
                      have hwx4 : ¬ (9223372036854775807 < x3.size + tw.size) := by omega
                      have hvx4 : x4.size ≤ 300000 := by omega
                      clear hxx4
                      obtain ⟨x5, hxx5⟩ : ∃ y : ByteArray, x4 ++ td = y := ⟨_, rfl⟩
                      have HXx5 := hid hxx5
                      have hzx5 : x5.size = x4.size + td.size := by rw [← hxx5, ByteArray.size_append]; first | done | rfl
                      have hwx5 : ¬ (9223372036854775807 < x4.size + td.size) := by omega
                      have hvx5 : x5.size ≤ 300000 := by omega
                      clear hxx5
                      obtain ⟨x6, hxx6⟩ : ∃ y : ByteArray, ob ++ x5 = y := ⟨_, rfl⟩
                      have HXx6 := hid hxx6
                      have hzx6 : x6.size = ob.size + x5.size := by rw [← hxx6, ByteArray.size_append]; first | done | rfl
                      have hwx6 : ¬ (9223372036854775807 < ob.size + x5.size) := by omega
                      have hvx6 : x6.size ≤ 300000 := by omega
                      clear hxx6
                      clear hzx1
                      clear hzx2
                      clear hzx3
                      clear hzx4
                      clear hzx5
                      clear hzx6
                      rw [HXx1.out, HXx2.out, HXx3.out, HXx4.out, HXx5.out] at HL1 HL2
                      have F8 : Hid (∀ w8 : World, Below ((wr.alloc (.cells #[.int .i64 (na : Int), .int .i64 (nb : Int), .int .i64 (nh : Int), .int .i64 (nd : Int), .int .i64 (nn : Int)] 65))).heap.size (wr.alloc (.cells #[.int .i64 (na : Int), .int .i64 (nb : Int), .int .i64 (nh : Int), .int .i64 (nd : Int), .int .i64 (nn : Int)] 65)) w8 → w8.cell? ⟨wr.heap.size, 0, none⟩ = some (.int .i64 (na : Int)) ∧ w8.cell? ⟨wr.heap.size, 1, none⟩ = some (.int .i64 (nb : Int)) ∧ w8.cell? ⟨wr.heap.size, 2, none⟩ = some (.int .i64 (nh : Int)) ∧ w8.cell? ⟨wr.heap.size, 3, none⟩ = some (.int .i64 (nd : Int)) ∧ w8.cell? ⟨b0, off0 + na, none⟩ = some (.string sa) ∧ w8.cell? ⟨b0, off0 + nb, none⟩ = some (.string sb) ∧ Below ((w.alloc (.cells #[.slice (some ⟨b0, off0, none⟩) (l 0) (c 0), .slice p1 (l 1) (c 1), .slice p2 (l 2) (c 2), .slice p3 (l 3) (c 3), .slice (some ⟨b, off, none⟩) (l 4) (c 4), .slice p5 (l 5) (c 5)] 29))).heap.size (w.alloc (.cells #[.slice (some ⟨b0, off0, none⟩) (l 0) (c 0), .slice p1 (l 1) (c 1), .slice p2 (l 2) (c 2), .slice p3 (l 3) (c 3), .slice (some ⟨b, off, none⟩) (l 4) (c 4), .slice p5 (l 5) (c 5)] 29)) w8) := hid (fun w8 S8 => by
                        have hab : Below wr.heap.size wr (wr.alloc (.cells #[.int .i64 (na : Int), .int .i64 (nb : Int), .int .i64 (nh : Int), .int .i64 (nd : Int), .int .i64 (nn : Int)] 65)) := (by repeat (first | exact Below.refl _ _ | assumption | refine Below.drew ?_ | refine Below.alloc ?_ (by first | exact Nat.le_refl _ | omega | (simp; done) | (simp; omega)) _ | refine Below.setCell ?_ (by first | exact Nat.le_refl _ | omega | (simp; done) | (simp; omega)) _))
                        have h8 : Below wr.heap.size wr w8 := hab.trans (S8.mono (by simp))
                        exact ⟨keep S8 (by simp [go_sem]), keep S8 (by simp [go_sem]), keep S8 (by simp [go_sem]), keep S8 (by simp [go_sem]), keep h8 ha0, keep h8 hb0, HBk.out.trans (h8.mono hsz)⟩)
                      have F9 : Hid (∀ w8 : World, Below ((wr.alloc (.cells #[.int .i64 (na : Int), .int .i64 (nb : Int), .int .i64 (nh : Int), .int .i64 (nd : Int), .int .i64 (nn : Int)] 65))).heap.size (wr.alloc (.cells #[.int .i64 (na : Int), .int .i64 (nb : Int), .int .i64 (nh : Int), .int .i64 (nd : Int), .int .i64 (nn : Int)] 65)) w8 → w8.cell? ⟨wr.heap.size, 4, none⟩ = some (.int .i64 (nn : Int))) := hid (fun w8 S8 => keep S8 (by simp [go_sem]))
                      clear q0 q1 q2 q3 q5
                      go_wp2
                      clear q4 hc0 hc1 hc2 hc3 hc4 ha0 hb0
                      refine region_below (fun u => ⟨#[.agg #[.slice (some ⟨b0, off0, none⟩) (l 0) (c 0), .slice (p1) (l 1) (c 1), .slice (p2) (l 2) (c 2), .slice (p3) (l 3) (c 3), .slice (some ⟨b, off, none⟩) (l 4) (c 4), .slice (p5) (l 5) (c 5)], .pointer (some ⟨w.heap.size, 0, none⟩), .string ⟨#[]⟩, .string ob, .slice (some ⟨b0, off0, none⟩) (l 0) (c 0), .int .i64 (k1 : Int), .int .i64 (k2 : Int), u7, .int .i64 (k3 : Int), .int .i64 (k4 : Int), .int .i64 (k5 : Int), .pointer (some ⟨wr.heap.size, 0, none⟩), undef, undef, .pointer (some ⟨w.heap.size, 0, none⟩), .slice (some ⟨b0, off0, none⟩) (l 0) (c 0), .int .i64 (k1 : Int), .slice (some ⟨b0, off0, none⟩) (l 0) (c 0), .int .i64 (l 0 : Int), .bool false, u20, u21, u22, u23, u24, u25, u26, u27, u28, u29, .int .i64 (k2 : Int), .pointer (some ⟨w.heap.size, 1, none⟩), .slice (p1) (l 1) (c 1), .int .i64 (l 1 : Int), .bool false, u35, u36, u37, u38, u39, u40, u41, u42, u43, u44, u45, u46, u47, u48, u49, u50, u51, u52, u53, u54, u55, u56, u57, u58, u59, u60, u61, u62, .int .i64 (k3 : Int), .pointer (some ⟨w.heap.size, 2, none⟩), .slice (p2) (l 2) (c 2), .int .i64 (l 2 : Int), .bool false, u68, u69, u70, u71, u72, u73, u74, u75, u76, u77, u78, u79, u80, u81, .int .i64 (k4 : Int), .pointer (some ⟨w.heap.size, 3, none⟩), .slice (p3) (l 3) (c 3), .int .i64 (l 3 : Int), .bool false, u87, u88, u89, u90, u91, u92, u93, u94, u95, u96, u97, u98, u99, u100, .int .i64 (k5 : Int), .pointer (some ⟨w.heap.size, 4, none⟩), .slice (some ⟨b, off, none⟩) (l 4) (c 4), .int .i64 (l 4 : Int), .bool true, u106, u107, .pointer (some ⟨w.heap.size, 4, none⟩), .slice (some ⟨b, off, none⟩) (l 4) (c 4), .int .i64 (k5 : Int), .pointer (some ⟨b, off + k5 * 5, none⟩), .agg #[.int .i64 (na : Int), .int .i64 (nb : Int), .int .i64 (nh : Int), .int .i64 (nd : Int), .int .i64 (nn : Int)], u 113, u 114, u 115, u 116, u 117, u 118, u 119, u 120, u 121, u 122, u 123, u 124, u 125, u 126, u 127, u 128, u 129, u 130, u 131, u 132, u 133, u 134, u 135, u 136, u 137, u 138, u 139, u140, u141, u142, u143, u144, u145, u146, u147, u148, u149, u150, undef, undef, undef, undef, undef, undef, undef, undef, undef, undef, undef, undef, undef, undef, undef, undef, undef, undef, undef, undef, undef, undef, undef, undef, undef, undef, undef, undef, undef, undef, undef, undef, undef, undef, undef, undef, undef, undef, undef], []⟩) (fun i => [113, 114, 115, 116, 117, 118, 119, 120, 121, 122, 123, 124, 125, 126, 127, 128, 129, 130, 131, 132, 133, 134, 135, 136, 137, 138, 139].getD i 0) (fun i v w8 => match i with | 0 => v = .string ob | 1 => v = .slice (some ⟨b0, off0, none⟩) (l 0) (c 0) | 2 => v = .pointer (some ⟨wr.heap.size, 0, none⟩) | 3 => v = .int .i64 (na : Int) | 4 => v = .pointer (some ⟨b0, off0 + na, none⟩) | 5 => v = .string sa | 6 => v = .string x1 | 7 => v = .string x2 | 8 => v = .slice (some ⟨b0, off0, none⟩) (l 0) (c 0) | 9 => v = .pointer (some ⟨wr.heap.size, 1, none⟩) | 10 => v = .int .i64 (nb : Int) | 11 => v = .pointer (some ⟨b0, off0 + nb, none⟩) | 12 => v = .string sb | 13 => v = .string x3 | 14 => (∃ N : Nat, v = .slice (some ⟨N, 0, none⟩) 3 3 ∧ w8.cell? ⟨N, nh, none⟩ = some (.string tw)) | 15 => v = .pointer (some ⟨wr.heap.size, 2, none⟩) | 16 => v = .int .i64 (nh : Int) | 17 => (∃ N : Nat, v = .pointer (some ⟨N, nh, none⟩) ∧ w8.cell? ⟨N, nh, none⟩ = some (.string tw)) | 18 => v = .string tw | 19 => v = .string x4 | 20 => (∃ N : Nat, v = .slice (some ⟨N, 0, none⟩) 5 5 ∧ w8.cell? ⟨N, nd, none⟩ = some (.string td)) | 21 => v = .pointer (some ⟨wr.heap.size, 3, none⟩) | 22 => v = .int .i64 (nd : Int) | 23 => (∃ N : Nat, v = .pointer (some ⟨N, nd, none⟩) ∧ w8.cell? ⟨N, nd, none⟩ = some (.string td)) | 24 => v = .string td | 25 => v = .string x5 | 26 => v = .string x6 | _ => True) _ 27 (fun k => match k with | 113 => u113 | 114 => u114 | 115 => u115 | 116 => u116 | 117 => u117 | 118 => u118 | 119 => u119 | 120 => u120 | 121 => u121 | 122 => u122 | 123 => u123 | 124 => u124 | 125 => u125 | 126 => u126 | 127 => u127 | 128 => u128 | 129 => u129 | 130 => u130 | 131 => u131 | 132 => u132 | 133 => u133 | 134 => u134 | 135 => u135 | 136 => u136 | 137 => u137 | 138 => u138 | 139 => u139 | _ => undef) (by rfl) (by kernel_rfl) (by rfl) ⟨by kernel_rfl, by kernel_rfl, by kernel_rfl, by decide⟩ (by kernel_rfl) (Below.refl _ _) ?hput ?hinj ?stable ?step ?last
                      case hput =>
                        intro i hi u v
                        match i, hi with
                        | 0, _ => rfl
                        | 1, _ => rfl
                        | 2, _ => rfl
                        | 3, _ => rfl
                        | 4, _ => rfl
                        | 5, _ => rfl
                        | 6, _ => rfl
                        | 7, _ => rfl
                        | 8, _ => rfl
                        | 9, _ => rfl
                        | 10, _ => rfl
                        | 11, _ => rfl
                        | 12, _ => rfl
                        | 13, _ => rfl
                        | 14, _ => rfl
                        | 15, _ => rfl
                        | 16, _ => rfl
                        | 17, _ => rfl
                        | 18, _ => rfl
                        | 19, _ => rfl
                        | 20, _ => rfl
                        | 21, _ => rfl
                        | 22, _ => rfl
                        | 23, _ => rfl
                        | 24, _ => rfl
                        | 25, _ => rfl
                        | 26, _ => rfl
                        | i + 27, hi => exact absurd hi (by omega)
                      case hinj =>
                        intro i j hi hj h
                        exact slots_inj [113, 114, 115, 116, 117, 118, 119, 120, 121, 122, 123, 124, 125, 126, 127, 128, 129, 130, 131, 132, 133, 134, 135, 136, 137, 138, 139] (by decide) hi hj h
                      case stable =>
                        intro i v w8 w9 hb h
                        match i, h with
                        | 0, h => exact h
                        | 1, h => exact h
                        | 2, h => exact h
                        | 3, h => exact h
                        | 4, h => exact h
                        | 5, h => exact h
                        | 6, h => exact h
                        | 7, h => exact h
                        | 8, h => exact h
                        | 9, h => exact h
                        | 10, h => exact h
                        | 11, h => exact h
                        | 12, h => exact h
                        | 13, h => exact h
                        | 14, h => obtain ⟨N, e, hc⟩ := h; exact ⟨N, e, keep hb hc⟩
                        | 15, h => exact h
                        | 16, h => exact h
                        | 17, h => obtain ⟨N, e, hc⟩ := h; exact ⟨N, e, keep hb hc⟩
                        | 18, h => exact h
                        | 19, h => exact h
                        | 20, h => obtain ⟨N, e, hc⟩ := h; exact ⟨N, e, keep hb hc⟩
                        | 21, h => exact h
                        | 22, h => exact h
                        | 23, h => obtain ⟨N, e, hc⟩ := h; exact ⟨N, e, keep hb hc⟩
                        | 24, h => exact h
                        | 25, h => exact h
                        | 26, h => exact h
                        | _ + 27, h => trivial
                      case step =>
                        intro i hi u w8 S8 hdep
                        match i, hi with
                        | 0, _ =>
                          clear hdep
                          refine ⟨_, rfl, fun K' hK => ?_⟩
                          go_simp
                          exact hK.out _ _ (Below.refl _ _) rfl
                        | 1, _ =>
                          clear hdep
                          refine ⟨_, rfl, fun K' hK => ?_⟩
                          go_simp
                          exact hK.out _ _ (Below.refl _ _) rfl
                        | 2, _ =>
                          clear hdep
                          refine ⟨_, rfl, fun K' hK => ?_⟩
                          go_simp
                          exact hK.out _ _ (Below.refl _ _) rfl
                        | 3, _ =>
                          have h2 : (u 115) = .pointer (some ⟨wr.heap.size, 0, none⟩) := hdep 2 (by kernel_rfl)
                          clear hdep
                          refine ⟨_, rfl, fun K' hK => ?_⟩
                          obtain ⟨f1, f2, f3, f4, f5, f6, f7⟩ := F8.out _ S8
                          have f0 := trivial
                          simp only [h2] at hK ⊢
                          go_simp
                          exact hK.out _ _ (Below.refl _ _) rfl
                        | 4, _ =>
                          have h1 : (u 114) = .slice (some ⟨b0, off0, none⟩) (l 0) (c 0) := hdep 1 (by kernel_rfl)
                          have h3 : (u 116) = .int .i64 (na : Int) := hdep 3 (by kernel_rfl)
                          clear hdep
                          refine ⟨_, rfl, fun K' hK => ?_⟩
                          simp only [h1, h3] at hK ⊢
                          go_simp
                          exact hK.out _ _ (Below.refl _ _) rfl
                        | 5, _ =>
                          have h4 : (u 117) = .pointer (some ⟨b0, off0 + na, none⟩) := hdep 4 (by kernel_rfl)
                          clear hdep
                          refine ⟨_, rfl, fun K' hK => ?_⟩
                          obtain ⟨f1, f2, f3, f4, f5, f6, f7⟩ := F8.out _ S8
                          have f0 := trivial
                          simp only [h4] at hK ⊢
                          go_simp
                          exact hK.out _ _ (Below.refl _ _) rfl
                        | 6, _ =>
                          have h5 : (u 118) = .string sa := hdep 5 (by kernel_rfl)
                          clear hdep
                          refine ⟨_, rfl, fun K' hK => ?_⟩
                          simp only [h5] at hK ⊢
                          go_simp
                          exact hK.out _ _ (Below.refl _ _) (by rw [HXx1.out])
                        | 7, _ =>
                          have h6 : (u 119) = .string x1 := hdep 6 (by kernel_rfl)
                          clear hdep
                          refine ⟨_, rfl, fun K' hK => ?_⟩
                          simp only [h6] at hK ⊢
                          go_simp
                          exact hK.out _ _ (Below.refl _ _) (by rw [HXx2.out])
                        | 8, _ =>
                          clear hdep
                          refine ⟨_, rfl, fun K' hK => ?_⟩
                          go_simp
                          exact hK.out _ _ (Below.refl _ _) rfl
                        | 9, _ =>
                          clear hdep
                          refine ⟨_, rfl, fun K' hK => ?_⟩
                          go_simp
                          exact hK.out _ _ (Below.refl _ _) rfl
                        | 10, _ =>
                          have h9 : (u 122) = .pointer (some ⟨wr.heap.size, 1, none⟩) := hdep 9 (by kernel_rfl)
                          clear hdep
                          refine ⟨_, rfl, fun K' hK => ?_⟩
                          obtain ⟨f1, f2, f3, f4, f5, f6, f7⟩ := F8.out _ S8
                          have f0 := trivial
                          simp only [h9] at hK ⊢
                          go_simp
                          exact hK.out _ _ (Below.refl _ _) rfl
                        | 11, _ =>
                          have h8 : (u 121) = .slice (some ⟨b0, off0, none⟩) (l 0) (c 0) := hdep 8 (by kernel_rfl)
                          have h10 : (u 123) = .int .i64 (nb : Int) := hdep 10 (by kernel_rfl)
                          clear hdep
                          refine ⟨_, rfl, fun K' hK => ?_⟩
                          simp only [h8, h10] at hK ⊢
                          go_simp
                          exact hK.out _ _ (Below.refl _ _) rfl
                        | 12, _ =>
                          have h11 : (u 124) = .pointer (some ⟨b0, off0 + nb, none⟩) := hdep 11 (by kernel_rfl)
                          clear hdep
                          refine ⟨_, rfl, fun K' hK => ?_⟩
                          obtain ⟨f1, f2, f3, f4, f5, f6, f7⟩ := F8.out _ S8
                          have f0 := trivial
                          simp only [h11] at hK ⊢
                          go_simp
                          exact hK.out _ _ (Below.refl _ _) rfl
                        | 13, _ =>
                          have h7 : (u 120) = .string x2 := hdep 7 (by kernel_rfl)
                          have h12 : (u 125) = .string sb := hdep 12 (by kernel_rfl)
                          clear hdep
                          refine ⟨_, rfl, fun K' hK => ?_⟩
                          simp only [h7, h12] at hK ⊢
                          go_simp
                          exact hK.out _ _ (Below.refl _ _) (by rw [HXx3.out])
                        | 14, _ =>
                          clear hdep
                          refine ⟨_, rfl, fun K' hK => ?_⟩
                          go_simp
                          exact hK.out _ _ (by repeat (first | exact Below.refl _ _ | assumption | refine Below.drew ?_ | refine Below.alloc ?_ (by first | exact Nat.le_refl _ | omega | (simp; done) | (simp; omega)) _ | refine Below.setCell ?_ (by first | exact Nat.le_refl _ | omega | (simp; done) | (simp; omega)) _)) ⟨w8.heap.size, rfl, HW3.out _⟩
                        | 15, _ =>
                          clear hdep
                          refine ⟨_, rfl, fun K' hK => ?_⟩
                          go_simp
                          exact hK.out _ _ (Below.refl _ _) rfl
                        | 16, _ =>
                          have h15 : (u 128) = .pointer (some ⟨wr.heap.size, 2, none⟩) := hdep 15 (by kernel_rfl)
                          clear hdep
                          refine ⟨_, rfl, fun K' hK => ?_⟩
                          obtain ⟨f1, f2, f3, f4, f5, f6, f7⟩ := F8.out _ S8
                          have f0 := trivial
                          simp only [h15] at hK ⊢
                          go_simp
                          exact hK.out _ _ (Below.refl _ _) rfl
                        | 17, _ =>
                          have h14 : (∃ N : Nat, (u 127) = .slice (some ⟨N, 0, none⟩) 3 3 ∧ w8.cell? ⟨N, nh, none⟩ = some (.string tw)) := hdep 14 (by kernel_rfl)
                          have h16 : (u 129) = .int .i64 (nh : Int) := hdep 16 (by kernel_rfl)
                          clear hdep
                          refine ⟨_, rfl, fun K' hK => ?_⟩
                          obtain ⟨N, eN, hcN⟩ := h14
                          simp only [eN, h16] at hK ⊢
                          go_simp
                          exact hK.out _ _ (Below.refl _ _) ⟨N, rfl, hcN⟩
                        | 18, _ =>
                          have h17 : (∃ N : Nat, (u 130) = .pointer (some ⟨N, nh, none⟩) ∧ w8.cell? ⟨N, nh, none⟩ = some (.string tw)) := hdep 17 (by kernel_rfl)
                          clear hdep
                          refine ⟨_, rfl, fun K' hK => ?_⟩
                          obtain ⟨N, eN, hcN⟩ := h17
                          simp only [eN] at hK ⊢
                          go_simp
                          exact hK.out _ _ (Below.refl _ _) rfl
                        | 19, _ =>
                          have h13 : (u 126) = .string x3 := hdep 13 (by kernel_rfl)
                          have h18 : (u 131) = .string tw := hdep 18 (by kernel_rfl)
                          clear hdep
                          refine ⟨_, rfl, fun K' hK => ?_⟩
                          simp only [h13, h18] at hK ⊢
                          go_simp
                          exact hK.out _ _ (Below.refl _ _) (by rw [HXx4.out])
                        | 20, _ =>
                          clear hdep
                          refine ⟨_, rfl, fun K' hK => ?_⟩
                          go_simp
                          exact hK.out _ _ (by repeat (first | exact Below.refl _ _ | assumption | refine Below.drew ?_ | refine Below.alloc ?_ (by first | exact Nat.le_refl _ | omega | (simp; done) | (simp; omega)) _ | refine Below.setCell ?_ (by first | exact Nat.le_refl _ | omega | (simp; done) | (simp; omega)) _)) ⟨w8.heap.size, rfl, HD5.out _⟩
                        | 21, _ =>
                          clear hdep
                          refine ⟨_, rfl, fun K' hK => ?_⟩
                          go_simp
                          exact hK.out _ _ (Below.refl _ _) rfl
                        | 22, _ =>
                          have h21 : (u 134) = .pointer (some ⟨wr.heap.size, 3, none⟩) := hdep 21 (by kernel_rfl)
                          clear hdep
                          refine ⟨_, rfl, fun K' hK => ?_⟩
                          obtain ⟨f1, f2, f3, f4, f5, f6, f7⟩ := F8.out _ S8
                          have f0 := trivial
                          simp only [h21] at hK ⊢
                          go_simp
                          exact hK.out _ _ (Below.refl _ _) rfl
                        | 23, _ =>
                          have h20 : (∃ N : Nat, (u 133) = .slice (some ⟨N, 0, none⟩) 5 5 ∧ w8.cell? ⟨N, nd, none⟩ = some (.string td)) := hdep 20 (by kernel_rfl)
                          have h22 : (u 135) = .int .i64 (nd : Int) := hdep 22 (by kernel_rfl)
                          clear hdep
                          refine ⟨_, rfl, fun K' hK => ?_⟩
                          obtain ⟨N, eN, hcN⟩ := h20
                          simp only [eN, h22] at hK ⊢
                          go_simp
                          exact hK.out _ _ (Below.refl _ _) ⟨N, rfl, hcN⟩
                        | 24, _ =>
                          have h23 : (∃ N : Nat, (u 136) = .pointer (some ⟨N, nd, none⟩) ∧ w8.cell? ⟨N, nd, none⟩ = some (.string td)) := hdep 23 (by kernel_rfl)
                          clear hdep
                          refine ⟨_, rfl, fun K' hK => ?_⟩
                          obtain ⟨N, eN, hcN⟩ := h23
                          simp only [eN] at hK ⊢
                          go_simp
                          exact hK.out _ _ (Below.refl _ _) rfl
                        | 25, _ =>
                          have h19 : (u 132) = .string x4 := hdep 19 (by kernel_rfl)
                          have h24 : (u 137) = .string td := hdep 24 (by kernel_rfl)
                          clear hdep
                          refine ⟨_, rfl, fun K' hK => ?_⟩
                          simp only [h19, h24] at hK ⊢
                          go_simp
                          exact hK.out _ _ (Below.refl _ _) (by rw [HXx5.out])
                        | 26, _ =>
                          have h0 : (u 113) = .string ob := hdep 0 (by kernel_rfl)
                          have h25 : (u 138) = .string x5 := hdep 25 (by kernel_rfl)
                          clear hdep
                          refine ⟨_, rfl, fun K' hK => ?_⟩
                          simp only [h0, h25] at hK ⊢
                          go_simp
                          exact hK.out _ _ (Below.refl _ _) (by rw [HXx6.out])
                        | i + 27, hi => exact absurd hi (by omega)
                      case last =>
                        intro u w8 S8 hall
                        have h26 : (u 139) = .string x6 := hall 26 (by decide)
                        clear hall
                        refine ⟨_, rfl, fun K' hK => ?_⟩
                        obtain ⟨f1, f2, f3, f4, f5, f6, f7⟩ := F8.out _ S8
                        have f0 := trivial
                        have f10 := F9.out _ S8
                        have B8 := hid f7
                        clear S8 f0 f1 f2 f5 f6 f7
                        simp only [h26] at hK ⊢
                        go_simp
                        refine hK.out _ _ ?_
                        clear hK K'
                        (try simp only [Exit.then])
                        by_cases q2 : nd = 2
                        · have dd : ((nd : Int) == 2) = true := by simp [q2]
                          have HLX := hid (HL2.out q2)
                          clear q2 HL2 HL1
                          go_wp2_with fail
                          refine (HI.out _).mono ?_
                          rintro e' w3 ⟨rfl, hb3⟩
                          have B3 := hid (B8.out.trans (hb3.mono B8.out.size))
                          clear hb3 f3 f4 f10
                          have z21 : ¬ (9223372036854775807 < 1 + sn.size) := by omega
                          have z22 : ¬ (9223372036854775807 < x6.size + (1 + sn.size)) := by omega
                          have z23 : ¬ (9223372036854775807 < x6.size + (1 + sn.size) + 1) := by omega
                          go_wp2
                          exact ⟨⟨k5 + 1, _, by omega, by go_num, rfl, by rw [HF.out, ← List.append_assoc, ← HOb.out, ← HLX.out, ← HXx6.out]; simp, B3.out⟩, by simp [intOf]; omega⟩
                        · have dd : ((nd : Int) == 2) = false := by simp; omega
                          have HLX := hid (HL1.out q2)
                          clear q2 HL2 HL1
                          have z23 : ¬ (9223372036854775807 < x6.size + 1) := by omega
                          go_wp2
                          exact ⟨⟨k5 + 1, _, by omega, by go_num, rfl, by rw [HF.out, ← List.append_assoc, ← HOb.out, ← HLX.out, ← HXx6.out]; simp, B8.out⟩, by simp [intOf]; omega⟩
                    · have ek : k5 = l 4 := by omega
                      obtain ⟨A5, hA⟩ : ∃ A, A4 ++ upTo (impL s x) (l 4) = A := ⟨_, rfl⟩
                      have HE5 := hid hA
                      rw [ek] at HOb hul
                      rw [hA] at HOb
                      have la5 : A5.length ≤ 180000 := by rw [← hA]; rw [List.length_append]; omega
                      have hlt' : decide (k5 < l 4) = false := decide_eq_false (by omega)
                      have HOX := hid HOb.out
                      have HBX2 := hid HBk.out
                      have hosx := hos
                      clear hlt ek hk hA hul HOb HBk R0 R1 R2 R3 R4 R5 BR hos
                      go_wp2
                      go_loopw [12, 3] (fun i v wr => ∃ (k : Nat) (ob : ByteArray), k ≤ l 5 ∧ i = .int .i64 k ∧ v = .string ob ∧ ob.data.toList = A5 ++ upTo (filtL s f) k ∧ Below ((w.alloc (.cells #[.slice p0 (l 0) (c 0), .slice p1 (l 1) (c 1), .slice p2 (l 2) (c 2), .slice p3 (l 3) (c 3), .slice p4 (l 4) (c 4), .slice p5 (l 5) (c 5)] 29))).heap.size (w.alloc (.cells #[.slice p0 (l 0) (c 0), .slice p1 (l 1) (c 1), .slice p2 (l 2) (c 2), .slice p3 (l 3) (c 3), .slice p4 (l 4) (c 4), .slice p5 (l 5) (c 5)] 29)) wr) (fun i _ _ => l 5 - (intOf i).toNat)
                      case atStart => exact ⟨0, _, Nat.zero_le _, rfl, rfl, (by rw [up_zero, List.append_nil]; exact HOX.out), HBX2.out⟩
                      case round =>
                        clear HOX HBX2 hosx
                        obtain ⟨k6, ob, hk, rfl, rfl, hob, hbel⟩ := hrel
                        have HOb := hid hob
                        have HBk := hid hbel
                        obtain ⟨⟨q0, q1, q2, q3, q4, q5⟩, ⟨r0, r1, r2, r3, r4, r5⟩, hB⟩ := HC1.out _ hbel
                        have R0 := hid r0
                        have R1 := hid r1
                        have R2 := hid r2
                        have R3 := hid r3
                        have R4 := hid r4
                        have R5 := hid r5
                        have BR := hid hB
                        have hsz := hbel.size
                        have hzr := World.block_lt_of_cell? _ _ q0
                        simp only at hzr
                        have hul := up_most (f := filtL s f) G.out.filts (by have := G.out.l5; omega) hk
                        have hos : ob.size ≤ 216000 := by
                          rw [← ba_len, hob]; rw [List.length_append]; omega
                        clear hob hbel r0 r1 r2 r3 r4 r5 hB
                        by_cases hlt : k6 < l 5
                        · obtain ⟨b, off, rfl, hc0, hc1, hc2, hc3⟩ := R5.out.at4 hlt
                          obtain ⟨na, nb, nn, nm, hna, hnb, hnn, hnm, e1, e2, e3, e4⟩ := G.out.filt k6 hlt
                          obtain ⟨b0, off0, rfl, ha0⟩ := R0.out.cell na hna
                          obtain ⟨b0', off0', hpp, hb0⟩ := R0.out.cell nb hnb
                          cases hpp
                          have hsa := G.out.name na hna
                          have hsb := G.out.name nb hnb
                          have HF := hid (up_succ (filtL s f) k6)
                          have HLine0 : Hid ((⟨#[102, 105, 108, 116, 101, 114, 32]⟩ ++ s na ++ ⟨#[32, 116, 111, 32]⟩ ++ s nb ++ ⟨#[32, 112, 111, 114, 116, 32]⟩ ++ numW nn ++ ⟨#[32]⟩ ++ numW nm ++ ⟨#[10]⟩ : ByteArray).data.toList = filtL s f k6) := hid (by simp [filtL, nm_nat, e1, e2, e3, e4, numW_list])
                          have HI : Hid (∀ w8 : World, Calls Tryz.prog 36 #[.int .i64 (nn : Int)] w8 fun e' w' => e' = .returned (.string (numW nn)) ∧ Below w8.heap.size w8 w') := hid (fun w8 => digits.digits_spec (nn : Int) w8 (by omega) (by omega))
                          have HJ : Hid (∀ w8 : World, Calls Tryz.prog 36 #[.int .i64 (nm : Int)] w8 fun e' w' => e' = .returned (.string (numW nm)) ∧ Below w8.heap.size w8 w') := hid (fun w8 => digits.digits_spec (nm : Int) w8 (by omega) (by omega))
                          have hsn := num_size (n := nn) (by omega)
                          have hsm := num_size (n := nm) (by omega)
                          rw [e1] at hc0
                          rw [e2] at hc1
                          rw [e3] at hc2
                          rw [e4] at hc3
                          obtain ⟨sn, hsn0⟩ : ∃ t, numW nn = t := ⟨_, rfl⟩
                          obtain ⟨sm, hsm0⟩ : ∃ t, numW nm = t := ⟨_, rfl⟩
                          rw [hsn0] at HLine0 HI hsn
                          rw [hsm0] at HLine0 HJ hsm
                          generalize upTo (filtL s f) k6 = acc at *
                          generalize filtL s f k6 = ln at *
                          generalize s na = sa at *
                          generalize s nb = sb at *
                          clear e1 e2 e3 e4 hsn0 hsm0
                          obtain ⟨x1, hxx1⟩ : ∃ y : ByteArray, ⟨#[102, 105, 108, 116, 101, 114, 32]⟩ ++ sa = y := ⟨_, rfl⟩
                          have HXx1 := hid hxx1
                          have hzx1 : x1.size = 7 + sa.size := by rw [← hxx1, ByteArray.size_append]; first | done | rfl
                          have hwx1 : ¬ (9223372036854775807 < 7 + sa.size) := by omega
                          have hvx1 : x1.size ≤ 300000 := by omega
                          clear hxx1
                          obtain ⟨x2, hxx2⟩ : ∃ y : ByteArray, x1 ++ ⟨#[32, 116, 111, 32]⟩ = y := ⟨_, rfl⟩
                          have HXx2 := hid hxx2
                          have hzx2 : x2.size = x1.size + 4 := by rw [← hxx2, ByteArray.size_append]; first | done | rfl
                          have hwx2 : ¬ (9223372036854775807 < x1.size + 4) := by omega
                          have hvx2 : x2.size ≤ 300000 := by omega
                          clear hxx2
                          obtain ⟨x3, hxx3⟩ : ∃ y : ByteArray, x2 ++ sb = y := ⟨_, rfl⟩
                          have HXx3 := hid hxx3
                          have hzx3 : x3.size = x2.size + sb.size := by rw [← hxx3, ByteArray.size_append]; first | done | rfl
                          have hwx3 : ¬ (9223372036854775807 < x2.size + sb.size) := by omega
                          have hvx3 : x3.size ≤ 300000 := by omega
                          clear hxx3
                          obtain ⟨x4, hxx4⟩ : ∃ y : ByteArray, x3 ++ ⟨#[32, 112, 111, 114, 116, 32]⟩ = y := ⟨_, rfl⟩
                          have HXx4 := hid hxx4
                          have hzx4 : x4.size = x3.size + 6 := by rw [← hxx4, ByteArray.size_append]; first | done | rfl
                          have hwx4 : ¬ (9223372036854775807 < x3.size + 6) := by omega
                          have hvx4 : x4.size ≤ 300000 := by omega
                          clear hxx4
                          obtain ⟨x5, hxx5⟩ : ∃ y : ByteArray, x4 ++ sn = y := ⟨_, rfl⟩
                          have HXx5 := hid hxx5
                          have hzx5 : x5.size = x4.size + sn.size := by rw [← hxx5, ByteArray.size_append]; first | done | rfl
                          have hwx5 : ¬ (9223372036854775807 < x4.size + sn.size) := by omega
                          have hvx5 : x5.size ≤ 300000 := by omega
                          clear hxx5
                          obtain ⟨x6, hxx6⟩ : ∃ y : ByteArray, x5 ++ ⟨#[32]⟩ = y := ⟨_, rfl⟩
                          have HXx6 := hid hxx6
                          have hzx6 : x6.size = x5.size + 1 := by rw [← hxx6, ByteArray.size_append]; first | done | rfl
                          have hwx6 : ¬ (9223372036854775807 < x5.size + 1) := by omega
                          have hvx6 : x6.size ≤ 300000 := by omega
                          clear hxx6
                          obtain ⟨x7, hxx7⟩ : ∃ y : ByteArray, x6 ++ sm = y := ⟨_, rfl⟩
                          have HXx7 := hid hxx7
                          have hzx7 : x7.size = x6.size + sm.size := by rw [← hxx7, ByteArray.size_append]; first | done | rfl
                          have hwx7 : ¬ (9223372036854775807 < x6.size + sm.size) := by omega
                          have hvx7 : x7.size ≤ 300000 := by omega
                          clear hxx7
                          obtain ⟨x8, hxx8⟩ : ∃ y : ByteArray, x7 ++ ⟨#[10]⟩ = y := ⟨_, rfl⟩
                          have HXx8 := hid hxx8
                          have hzx8 : x8.size = x7.size + 1 := by rw [← hxx8, ByteArray.size_append]; first | done | rfl
                          have hwx8 : ¬ (9223372036854775807 < x7.size + 1) := by omega
                          have hvx8 : x8.size ≤ 300000 := by omega
                          clear hxx8
                          obtain ⟨x9, hxx9⟩ : ∃ y : ByteArray, ob ++ x8 = y := ⟨_, rfl⟩
                          have HXx9 := hid hxx9
                          have hzx9 : x9.size = ob.size + x8.size := by rw [← hxx9, ByteArray.size_append]; first | done | rfl
                          have hwx9 : ¬ (9223372036854775807 < ob.size + x8.size) := by omega
                          have hvx9 : x9.size ≤ 300000 := by omega
                          clear hxx9
                          clear hzx1
                          clear hzx2
                          clear hzx3
                          clear hzx4
                          clear hzx5
                          clear hzx6
                          clear hzx7
                          clear hzx8
                          clear hzx9
                          have HLine : Hid (x8.data.toList = ln) := hid (by rw [← HLine0.out, HXx1.out, HXx2.out, HXx3.out, HXx4.out, HXx5.out, HXx6.out, HXx7.out, HXx8.out])
                          clear HLine0
                          have F8 : Hid (∀ w8 : World, Below ((wr.alloc (.cells #[.int .i64 (na : Int), .int .i64 (nb : Int), .int .i64 (nn : Int), .int .i64 (nm : Int)] 68))).heap.size (wr.alloc (.cells #[.int .i64 (na : Int), .int .i64 (nb : Int), .int .i64 (nn : Int), .int .i64 (nm : Int)] 68)) w8 → w8.cell? ⟨wr.heap.size, 0, none⟩ = some (.int .i64 (na : Int)) ∧ w8.cell? ⟨wr.heap.size, 1, none⟩ = some (.int .i64 (nb : Int)) ∧ w8.cell? ⟨wr.heap.size, 2, none⟩ = some (.int .i64 (nn : Int)) ∧ w8.cell? ⟨wr.heap.size, 3, none⟩ = some (.int .i64 (nm : Int)) ∧ w8.cell? ⟨b0, off0 + na, none⟩ = some (.string sa) ∧ w8.cell? ⟨b0, off0 + nb, none⟩ = some (.string sb) ∧ Below ((w.alloc (.cells #[.slice (some ⟨b0, off0, none⟩) (l 0) (c 0), .slice p1 (l 1) (c 1), .slice p2 (l 2) (c 2), .slice p3 (l 3) (c 3), .slice p4 (l 4) (c 4), .slice (some ⟨b, off, none⟩) (l 5) (c 5)] 29))).heap.size (w.alloc (.cells #[.slice (some ⟨b0, off0, none⟩) (l 0) (c 0), .slice p1 (l 1) (c 1), .slice p2 (l 2) (c 2), .slice p3 (l 3) (c 3), .slice p4 (l 4) (c 4), .slice (some ⟨b, off, none⟩) (l 5) (c 5)] 29)) w8) := hid (fun w8 S8 => by
                            have hab : Below wr.heap.size wr (wr.alloc (.cells #[.int .i64 (na : Int), .int .i64 (nb : Int), .int .i64 (nn : Int), .int .i64 (nm : Int)] 68)) := (by repeat (first | exact Below.refl _ _ | assumption | refine Below.drew ?_ | refine Below.alloc ?_ (by first | exact Nat.le_refl _ | omega | (simp; done) | (simp; omega)) _ | refine Below.setCell ?_ (by first | exact Nat.le_refl _ | omega | (simp; done) | (simp; omega)) _))
                            have h8 : Below wr.heap.size wr w8 := hab.trans (S8.mono (by simp))
                            exact ⟨keep S8 (by simp [go_sem]), keep S8 (by simp [go_sem]), keep S8 (by simp [go_sem]), keep S8 (by simp [go_sem]), keep h8 ha0, keep h8 hb0, HBk.out.trans (h8.mono hsz)⟩)
                          clear q0 q1 q2 q3 q4
                          go_wp2
                          clear q5 hc0 hc1 hc2 hc3 ha0 hb0
                          refine region_below (fun u => ⟨#[.agg #[.slice (some ⟨b0, off0, none⟩) (l 0) (c 0), .slice (p1) (l 1) (c 1), .slice (p2) (l 2) (c 2), .slice (p3) (l 3) (c 3), .slice (p4) (l 4) (c 4), .slice (some ⟨b, off, none⟩) (l 5) (c 5)], .pointer (some ⟨w.heap.size, 0, none⟩), .string ⟨#[]⟩, .string ob, .slice (some ⟨b0, off0, none⟩) (l 0) (c 0), .int .i64 (k1 : Int), .int .i64 (k2 : Int), u7, .int .i64 (k3 : Int), .int .i64 (k4 : Int), .int .i64 (k5 : Int), u11, .int .i64 (k6 : Int), .pointer (some ⟨wr.heap.size, 0, none⟩), .pointer (some ⟨w.heap.size, 0, none⟩), .slice (some ⟨b0, off0, none⟩) (l 0) (c 0), .int .i64 (k1 : Int), .slice (some ⟨b0, off0, none⟩) (l 0) (c 0), .int .i64 (l 0 : Int), .bool false, u20, u21, u22, u23, u24, u25, u26, u27, u28, u29, .int .i64 (k2 : Int), .pointer (some ⟨w.heap.size, 1, none⟩), .slice (p1) (l 1) (c 1), .int .i64 (l 1 : Int), .bool false, u35, u36, u37, u38, u39, u40, u41, u42, u43, u44, u45, u46, u47, u48, u49, u50, u51, u52, u53, u54, u55, u56, u57, u58, u59, u60, u61, u62, .int .i64 (k3 : Int), .pointer (some ⟨w.heap.size, 2, none⟩), .slice (p2) (l 2) (c 2), .int .i64 (l 2 : Int), .bool false, u68, u69, u70, u71, u72, u73, u74, u75, u76, u77, u78, u79, u80, u81, .int .i64 (k4 : Int), .pointer (some ⟨w.heap.size, 3, none⟩), .slice (p3) (l 3) (c 3), .int .i64 (l 3 : Int), .bool false, u87, u88, u89, u90, u91, u92, u93, u94, u95, u96, u97, u98, u99, u100, .int .i64 (k5 : Int), .pointer (some ⟨w.heap.size, 4, none⟩), .slice (p4) (l 4) (c 4), .int .i64 (l 4 : Int), .bool false, u106, u107, u108, u109, u110, u111, u112, u113, u114, u115, u116, u117, u118, u119, u120, u121, u122, u123, u124, u125, u126, u127, u128, u129, u130, u131, u132, u133, u134, u135, u136, u137, u138, u139, u140, u141, u142, u143, u144, u145, u146, u147, u148, u149, u150, .int .i64 (k6 : Int), .pointer (some ⟨w.heap.size, 5, none⟩), .slice (some ⟨b, off, none⟩) (l 5) (c 5), .int .i64 (l 5 : Int), .bool true, u156, u157, .pointer (some ⟨w.heap.size, 5, none⟩), .slice (some ⟨b, off, none⟩) (l 5) (c 5), .int .i64 (k6 : Int), .pointer (some ⟨b, off + k6 * 4, none⟩), .agg #[.int .i64 (na : Int), .int .i64 (nb : Int), .int .i64 (nn : Int), .int .i64 (nm : Int)], u 163, u 164, u 165, u 166, u 167, u 168, u 169, u 170, u 171, u 172, u 173, u 174, u 175, u 176, u 177, u 178, u 179, u 180, u 181, u 182, u 183, u 184, u 185, u 186, u 187, u 188, undef], []⟩) (fun i => [163, 164, 165, 166, 167, 168, 169, 170, 171, 172, 173, 174, 175, 176, 177, 178, 179, 180, 181, 182, 183, 184, 185, 186, 187, 188].getD i 0) (fun i v w8 => match i with | 0 => v = .string ob | 1 => v = .slice (some ⟨b0, off0, none⟩) (l 0) (c 0) | 2 => v = .pointer (some ⟨wr.heap.size, 0, none⟩) | 3 => v = .int .i64 (na : Int) | 4 => v = .pointer (some ⟨b0, off0 + na, none⟩) | 5 => v = .string sa | 6 => v = .string x1 | 7 => v = .string x2 | 8 => v = .slice (some ⟨b0, off0, none⟩) (l 0) (c 0) | 9 => v = .pointer (some ⟨wr.heap.size, 1, none⟩) | 10 => v = .int .i64 (nb : Int) | 11 => v = .pointer (some ⟨b0, off0 + nb, none⟩) | 12 => v = .string sb | 13 => v = .string x3 | 14 => v = .string x4 | 15 => v = .pointer (some ⟨wr.heap.size, 2, none⟩) | 16 => v = .int .i64 (nn : Int) | 17 => v = .string sn | 18 => v = .string x5 | 19 => v = .string x6 | 20 => v = .pointer (some ⟨wr.heap.size, 3, none⟩) | 21 => v = .int .i64 (nm : Int) | 22 => v = .string sm | 23 => v = .string x7 | 24 => v = .string x8 | 25 => v = .string x9 | _ => True) _ 26 (fun k => match k with | 163 => u163 | 164 => u164 | 165 => u165 | 166 => u166 | 167 => u167 | 168 => u168 | 169 => u169 | 170 => u170 | 171 => u171 | 172 => u172 | 173 => u173 | 174 => u174 | 175 => u175 | 176 => u176 | 177 => u177 | 178 => u178 | 179 => u179 | 180 => u180 | 181 => u181 | 182 => u182 | 183 => u183 | 184 => u184 | 185 => u185 | 186 => u186 | 187 => u187 | 188 => u188 | _ => undef) (by rfl) (by kernel_rfl) (by rfl) ⟨by kernel_rfl, by kernel_rfl, by kernel_rfl, by decide⟩ (by kernel_rfl) (Below.refl _ _) ?hput ?hinj ?stable ?step ?last
                          case hput =>
                            intro i hi u v
                            match i, hi with
                            | 0, _ => rfl
                            | 1, _ => rfl
                            | 2, _ => rfl
                            | 3, _ => rfl
                            | 4, _ => rfl
                            | 5, _ => rfl
                            | 6, _ => rfl
                            | 7, _ => rfl
                            | 8, _ => rfl
                            | 9, _ => rfl
                            | 10, _ => rfl
                            | 11, _ => rfl
                            | 12, _ => rfl
                            | 13, _ => rfl
                            | 14, _ => rfl
                            | 15, _ => rfl
                            | 16, _ => rfl
                            | 17, _ => rfl
                            | 18, _ => rfl
                            | 19, _ => rfl
                            | 20, _ => rfl
                            | 21, _ => rfl
                            | 22, _ => rfl
                            | 23, _ => rfl
                            | 24, _ => rfl
                            | 25, _ => rfl
                            | i + 26, hi => exact absurd hi (by omega)
                          case hinj =>
                            intro i j hi hj h
                            exact slots_inj [163, 164, 165, 166, 167, 168, 169, 170, 171, 172, 173, 174, 175, 176, 177, 178, 179, 180, 181, 182, 183, 184, 185, 186, 187, 188] (by decide) hi hj h
                          case stable =>
                            intro i v w8 w9 hb h
                            match i, h with
                            | 0, h => exact h
                            | 1, h => exact h
                            | 2, h => exact h
                            | 3, h => exact h
                            | 4, h => exact h
                            | 5, h => exact h
                            | 6, h => exact h
                            | 7, h => exact h
                            | 8, h => exact h
                            | 9, h => exact h
                            | 10, h => exact h
                            | 11, h => exact h
                            | 12, h => exact h
                            | 13, h => exact h
                            | 14, h => exact h
                            | 15, h => exact h
                            | 16, h => exact h
                            | 17, h => exact h
                            | 18, h => exact h
                            | 19, h => exact h
                            | 20, h => exact h
                            | 21, h => exact h
                            | 22, h => exact h
                            | 23, h => exact h
                            | 24, h => exact h
                            | 25, h => exact h
                            | _ + 26, h => trivial
                          case step =>
                            intro i hi u w8 S8 hdep
                            match i, hi with
                            | 0, _ =>
                              clear hdep
                              refine ⟨_, rfl, fun K' hK => ?_⟩
                              go_simp
                              exact hK.out _ _ (Below.refl _ _) rfl
                            | 1, _ =>
                              clear hdep
                              refine ⟨_, rfl, fun K' hK => ?_⟩
                              go_simp
                              exact hK.out _ _ (Below.refl _ _) rfl
                            | 2, _ =>
                              clear hdep
                              refine ⟨_, rfl, fun K' hK => ?_⟩
                              go_simp
                              exact hK.out _ _ (Below.refl _ _) rfl
                            | 3, _ =>
                              have h2 : (u 165) = .pointer (some ⟨wr.heap.size, 0, none⟩) := hdep 2 (by kernel_rfl)
                              clear hdep
                              refine ⟨_, rfl, fun K' hK => ?_⟩
                              obtain ⟨f1, f2, f3, f4, f5, f6, f7⟩ := F8.out _ S8
                              have f0 := trivial
                              simp only [h2] at hK ⊢
                              go_simp
                              exact hK.out _ _ (Below.refl _ _) rfl
                            | 4, _ =>
                              have h1 : (u 164) = .slice (some ⟨b0, off0, none⟩) (l 0) (c 0) := hdep 1 (by kernel_rfl)
                              have h3 : (u 166) = .int .i64 (na : Int) := hdep 3 (by kernel_rfl)
                              clear hdep
                              refine ⟨_, rfl, fun K' hK => ?_⟩
                              simp only [h1, h3] at hK ⊢
                              go_simp
                              exact hK.out _ _ (Below.refl _ _) rfl
                            | 5, _ =>
                              have h4 : (u 167) = .pointer (some ⟨b0, off0 + na, none⟩) := hdep 4 (by kernel_rfl)
                              clear hdep
                              refine ⟨_, rfl, fun K' hK => ?_⟩
                              obtain ⟨f1, f2, f3, f4, f5, f6, f7⟩ := F8.out _ S8
                              have f0 := trivial
                              simp only [h4] at hK ⊢
                              go_simp
                              exact hK.out _ _ (Below.refl _ _) rfl
                            | 6, _ =>
                              have h5 : (u 168) = .string sa := hdep 5 (by kernel_rfl)
                              clear hdep
                              refine ⟨_, rfl, fun K' hK => ?_⟩
                              simp only [h5] at hK ⊢
                              go_simp
                              exact hK.out _ _ (Below.refl _ _) (by rw [HXx1.out])
                            | 7, _ =>
                              have h6 : (u 169) = .string x1 := hdep 6 (by kernel_rfl)
                              clear hdep
                              refine ⟨_, rfl, fun K' hK => ?_⟩
                              simp only [h6] at hK ⊢
                              go_simp
                              exact hK.out _ _ (Below.refl _ _) (by rw [HXx2.out])
                            | 8, _ =>
                              clear hdep
                              refine ⟨_, rfl, fun K' hK => ?_⟩
                              go_simp
                              exact hK.out _ _ (Below.refl _ _) rfl
                            | 9, _ =>
                              clear hdep
                              refine ⟨_, rfl, fun K' hK => ?_⟩
                              go_simp
                              exact hK.out _ _ (Below.refl _ _) rfl
                            | 10, _ =>
                              have h9 : (u 172) = .pointer (some ⟨wr.heap.size, 1, none⟩) := hdep 9 (by kernel_rfl)
                              clear hdep
                              refine ⟨_, rfl, fun K' hK => ?_⟩
                              obtain ⟨f1, f2, f3, f4, f5, f6, f7⟩ := F8.out _ S8
                              have f0 := trivial
                              simp only [h9] at hK ⊢
                              go_simp
                              exact hK.out _ _ (Below.refl _ _) rfl
                            | 11, _ =>
                              have h8 : (u 171) = .slice (some ⟨b0, off0, none⟩) (l 0) (c 0) := hdep 8 (by kernel_rfl)
                              have h10 : (u 173) = .int .i64 (nb : Int) := hdep 10 (by kernel_rfl)
                              clear hdep
                              refine ⟨_, rfl, fun K' hK => ?_⟩
                              simp only [h8, h10] at hK ⊢
                              go_simp
                              exact hK.out _ _ (Below.refl _ _) rfl
                            | 12, _ =>
                              have h11 : (u 174) = .pointer (some ⟨b0, off0 + nb, none⟩) := hdep 11 (by kernel_rfl)
                              clear hdep
                              refine ⟨_, rfl, fun K' hK => ?_⟩
                              obtain ⟨f1, f2, f3, f4, f5, f6, f7⟩ := F8.out _ S8
                              have f0 := trivial
                              simp only [h11] at hK ⊢
                              go_simp
                              exact hK.out _ _ (Below.refl _ _) rfl
                            | 13, _ =>
                              have h7 : (u 170) = .string x2 := hdep 7 (by kernel_rfl)
                              have h12 : (u 175) = .string sb := hdep 12 (by kernel_rfl)
                              clear hdep
                              refine ⟨_, rfl, fun K' hK => ?_⟩
                              simp only [h7, h12] at hK ⊢
                              go_simp
                              exact hK.out _ _ (Below.refl _ _) (by rw [HXx3.out])
                            | 14, _ =>
                              have h13 : (u 176) = .string x3 := hdep 13 (by kernel_rfl)
                              clear hdep
                              refine ⟨_, rfl, fun K' hK => ?_⟩
                              simp only [h13] at hK ⊢
                              go_simp
                              exact hK.out _ _ (Below.refl _ _) (by rw [HXx4.out])
                            | 15, _ =>
                              clear hdep
                              refine ⟨_, rfl, fun K' hK => ?_⟩
                              go_simp
                              exact hK.out _ _ (Below.refl _ _) rfl
                            | 16, _ =>
                              have h15 : (u 178) = .pointer (some ⟨wr.heap.size, 2, none⟩) := hdep 15 (by kernel_rfl)
                              clear hdep
                              refine ⟨_, rfl, fun K' hK => ?_⟩
                              obtain ⟨f1, f2, f3, f4, f5, f6, f7⟩ := F8.out _ S8
                              have f0 := trivial
                              simp only [h15] at hK ⊢
                              go_simp
                              exact hK.out _ _ (Below.refl _ _) rfl
                            | 17, _ =>
                              have h16 : (u 179) = .int .i64 (nn : Int) := hdep 16 (by kernel_rfl)
                              clear hdep
                              refine ⟨_, rfl, fun K' hK => ?_⟩
                              simp only [h16] at hK ⊢
                              go_simp
                              refine (HI.out _).mono ?_
                              rintro e9 w9 ⟨rfl, hb9⟩
                              exact hK.out _ _ hb9 rfl
                            | 18, _ =>
                              have h14 : (u 177) = .string x4 := hdep 14 (by kernel_rfl)
                              have h17 : (u 180) = .string sn := hdep 17 (by kernel_rfl)
                              clear hdep
                              refine ⟨_, rfl, fun K' hK => ?_⟩
                              simp only [h14, h17] at hK ⊢
                              go_simp
                              exact hK.out _ _ (Below.refl _ _) (by rw [HXx5.out])
                            | 19, _ =>
                              have h18 : (u 181) = .string x5 := hdep 18 (by kernel_rfl)
                              clear hdep
                              refine ⟨_, rfl, fun K' hK => ?_⟩
                              simp only [h18] at hK ⊢
                              go_simp
                              exact hK.out _ _ (Below.refl _ _) (by rw [HXx6.out])
                            | 20, _ =>
                              clear hdep
                              refine ⟨_, rfl, fun K' hK => ?_⟩
                              go_simp
                              exact hK.out _ _ (Below.refl _ _) rfl
                            | 21, _ =>
                              have h20 : (u 183) = .pointer (some ⟨wr.heap.size, 3, none⟩) := hdep 20 (by kernel_rfl)
                              clear hdep
                              refine ⟨_, rfl, fun K' hK => ?_⟩
                              obtain ⟨f1, f2, f3, f4, f5, f6, f7⟩ := F8.out _ S8
                              have f0 := trivial
                              simp only [h20] at hK ⊢
                              go_simp
                              exact hK.out _ _ (Below.refl _ _) rfl
                            | 22, _ =>
                              have h21 : (u 184) = .int .i64 (nm : Int) := hdep 21 (by kernel_rfl)
                              clear hdep
                              refine ⟨_, rfl, fun K' hK => ?_⟩
                              simp only [h21] at hK ⊢
                              go_simp
                              refine (HJ.out _).mono ?_
                              rintro e9 w9 ⟨rfl, hb9⟩
                              exact hK.out _ _ hb9 rfl
                            | 23, _ =>
                              have h19 : (u 182) = .string x6 := hdep 19 (by kernel_rfl)
                              have h22 : (u 185) = .string sm := hdep 22 (by kernel_rfl)
                              clear hdep
                              refine ⟨_, rfl, fun K' hK => ?_⟩
                              simp only [h19, h22] at hK ⊢
                              go_simp
                              exact hK.out _ _ (Below.refl _ _) (by rw [HXx7.out])
                            | 24, _ =>
                              have h23 : (u 186) = .string x7 := hdep 23 (by kernel_rfl)
                              clear hdep
                              refine ⟨_, rfl, fun K' hK => ?_⟩
                              simp only [h23] at hK ⊢
                              go_simp
                              exact hK.out _ _ (Below.refl _ _) (by rw [HXx8.out])
                            | 25, _ =>
                              have h0 : (u 163) = .string ob := hdep 0 (by kernel_rfl)
                              have h24 : (u 187) = .string x8 := hdep 24 (by kernel_rfl)
                              clear hdep
                              refine ⟨_, rfl, fun K' hK => ?_⟩
                              simp only [h0, h24] at hK ⊢
                              go_simp
                              exact hK.out _ _ (Below.refl _ _) (by rw [HXx9.out])
                            | i + 26, hi => exact absurd hi (by omega)
                          case last =>
                            intro u w8 S8 hall
                            have h25 : (u 188) = .string x9 := hall 25 (by decide)
                            clear hall
                            refine ⟨_, rfl, fun K' hK => ?_⟩
                            obtain ⟨f1, f2, f3, f4, f5, f6, f7⟩ := F8.out _ S8
                            have f0 := trivial
                            simp only [h25] at hK ⊢
                            go_simp
                            refine hK.out _ _ ?_
                            have B8 := hid f7
                            clear hK K' f0 f1 f2 f3 f4 f5 f6 f7
                            (try simp only [Exit.inBlock, Exit.then])
                            go_wp2
                            exact ⟨⟨k6 + 1, x9, by omega, by go_num, rfl, by rw [HF.out, ← List.append_assoc, ← HOb.out, ← HLine.out, ← ba_add]; rw [HXx9.out], B8.out⟩, by simp [intOf]; omega⟩
                        · have ek : k6 = l 5 := by omega
                          obtain ⟨A6, hA⟩ : ∃ A, A5 ++ upTo (filtL s f) (l 5) = A := ⟨_, rfl⟩
                          have HE6 := hid hA
                          rw [ek] at HOb hul
                          rw [hA] at HOb
                          have la6 : A6.length ≤ 216000 := by rw [← hA]; rw [List.length_append]; omega
                          have hlt' : decide (k6 < l 5) = false := decide_eq_false (by omega)
                          have HOX := hid HOb.out
                          have HBX2 := hid HBk.out
                          have hosx := hos
                          clear hlt ek hk hA hul HOb HBk R0 R1 R2 R3 R4 R5 BR hos
                          have HTE : Hid (tb = A6) := hid (by rw [← HTb.out]; unfold netL; rw [HE1.out, HE2.out, HE3.out, HE4.out, HE5.out, HE6.out])
                          have BR := hid (HC1.out _ HBX2.out).2.2
                          clear q0 q1 q2 q3 q4
                          go_wp2
                          go_ret
                          exact ⟨by rw [HTE.out]; exact ret_str (ba_of HOX.out), BR.out⟩
end Go.Proofs.YtffacjebnbplaaaGreatDoor.netTextSpec
