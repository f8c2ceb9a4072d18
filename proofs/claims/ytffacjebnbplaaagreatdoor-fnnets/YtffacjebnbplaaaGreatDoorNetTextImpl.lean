/- A network's text, of the program; conditions: the library's table of powers as it is laid. -/
import Derived.Test.YtffacjebnbplaaaGreatDoorNetDeed
import Derived.Test.YtffacjebnbplaaaGreatDoorNetOKImpl
namespace Go.Proofs.YtffacjebnbplaaaGreatDoor.netTextImpl
open Go.RowKit Go.Deep Go base names netSem netImpl netParts netFace netOKImpl netLines netBytes netDeed heldStore drawn
set_option linter.unusedVariables false

theorem cells_new (w : World) (cs : Array Value) (t : TypeId) (xs : List ByteArray) (h : cs.toList = xs.map Value.string) : ∀ (j : Nat) x, xs[j]? = some x → (w.alloc (.cells cs t)).cell? ⟨w.heap.size, 0 + j, none⟩ = some (.string x) := by
  intro j x hj
  have : cs[j]? = some (.string x) := by rw [← Array.getElem?_toList, h, List.getElem?_map, hj]; rfl
  simp [go_sem, this]

theorem own_built {B : Nat} (w : World) (cs : Array Value) (xs : List ByteArray) (h : cs.toList = xs.map Value.string) (hB : B ≤ w.heap.size) (hm : xs.length ≤ maxLen) : OwnS B (w.alloc (.cells cs 9)) (.slice (some ⟨w.heap.size, 0, none⟩) xs.length xs.length) xs := by
  have hs : cs.size = xs.length := by rw [← Array.length_toList, h, List.length_map]
  refine ⟨by simp, .inr ⟨w.heap.size, xs.length, cs, rfl, hB, by show (w.heap.push _)[w.heap.size]? = _; simp, Nat.le_refl _, hm, by omega, ?_⟩⟩
  rw [Nat.mul_one, h]
  exact List.take_of_length_le (by simp)
theorem add_at (g j : Nat) : (⟨g, 0, none⟩ : Addr).add j = ⟨g, j, none⟩ := by
  by_cases h : j = 0 <;> simp [Addr.add, h]
theorem own_form {B : Nat} {w : World} {v : Value} {xs : List ByteArray} (h : OwnS B w v xs) (hn : xs ≠ []) : ∃ g cap, v = .slice (some ⟨g, 0, none⟩) xs.length cap ∧ (∀ j y, xs[j]? = some y → w.cell? ⟨g, 0 + j, none⟩ = some (.string y)) ∧ g < w.heap.size ∧ xs.length ≤ cap := by
  obtain ⟨h1, h2⟩ := h
  rcases h2 with ⟨_, h0⟩ | ⟨g, cap, cur, rfl, hb, hh, hn, hm, hs, ht⟩
  · exact absurd (List.length_eq_zero_iff.1 h0) hn
  · refine ⟨g, cap, rfl, fun j y hy => ?_, (Array.getElem?_eq_some_iff.1 hh).1, hn⟩
    have hj : j < xs.length := (List.getElem?_eq_some_iff.1 hy).1
    have h3 : cur[j]? = some (.string y) := by
      have : (cur.toList.take (xs.length * 1))[j]? = (xs.map Value.string)[j]? := by rw [ht]
      rw [List.getElem?_take, if_pos (by omega)] at this
      rw [← Array.getElem?_toList, this, List.getElem?_map, hy]
      rfl
    simp [World.cell?, hh, h3]
theorem num_size {n : Nat} (h : n ≤ 1000) : (numW n).size ≤ 1002 := by
  show (Lib.itoa (n : Int)).toArray.size ≤ _
  rw [List.size_toArray]; exact num_len h

theorem deed_sizes (h d : Nat) {n : Nat} (hn : n ≤ 1000) : ∀ y ∈ deedW h d n, y.size ≤ 1100 := by
  have h1 := num_size hn
  intro y hy
  simp only [deedW, whenW, prefW, List.mem_append] at hy
  rcases hy with (hy | hy) | hy
  · split at hy
    · cases hy
    · simp at hy
      rcases hy with rfl | rfl
      · decide
      · unfold whenN; (repeat' split) <;> decide
  · simp at hy
    subst hy
    unfold doN; (repeat' split) <;> decide
  · split at hy
    · simp at hy; subst hy; omega
    · cases hy

set_option maxHeartbeats 6400000 in
set_option maxRecDepth 8000 in
theorem textOf_impl (p : Nat → Option Addr) (l c : Nat → Nat) (s : Ss) (g : R) (o e : List Int) (x f : R) (w : World) (h : NetIs w p l s g o e x f) (hB : netB l s g o e x f = true) (ht : TabW w) :
    Calls Tryz.prog 11 #[netV p l c] w fun e' w' => e' = .returned (.string ⟨(netL l s g o e x f).toArray⟩) ∧ Below w.heap.size w w' := by
  have G := hid (good hB)
  obtain ⟨i0, hi, hzz⟩ := Option.map_eq_some_iff.1 info_string
  simp only [Prod.mk.injEq] at hzz
  obtain ⟨hz0, hz1, hz2⟩ := hzz
  have HI0 := hid hi
  have HZ0 := hid hz0
  have HZ1 := hid hz1
  have HZ2 := hid hz2
  clear hi hz0 hz1 hz2
  obtain ⟨p0, hp0⟩ : ∃ a, p 0 = a := ⟨_, rfl⟩
  obtain ⟨p1, hp1⟩ : ∃ a, p 1 = a := ⟨_, rfl⟩
  obtain ⟨p2, hp2⟩ : ∃ a, p 2 = a := ⟨_, rfl⟩
  obtain ⟨p3, hp3⟩ : ∃ a, p 3 = a := ⟨_, rfl⟩
  obtain ⟨p4, hp4⟩ : ∃ a, p 4 = a := ⟨_, rfl⟩
  obtain ⟨p5, hp5⟩ : ∃ a, p 5 = a := ⟨_, rfl⟩
  have HRW : Hid (∀ w8 : World, Below w.heap.size w w8 → StrRow w8 p0 (l 0) s ∧ Row 3 w8 p1 (l 1) g ∧ IntRow w8 p2 (l 2) o ∧ IntRow w8 p3 (l 3) e ∧ Row 5 w8 p4 (l 4) x ∧ Row 4 w8 p5 (l 5) f ∧ TabW w8) := hid (fun w8 h8 => by
    rw [← hp0, ← hp1, ← hp2, ← hp3, ← hp4, ← hp5]
    have hn := h.below h8
    exact ⟨hn.routers, hn.links, hn.origins, hn.externals, hn.imports, hn.filters, ht.below h8⟩)
  have m0 := h.routers.most
  have m1 := h.links.most
  have m2 := h.origins.most
  have m3 := h.externals.most
  have m4 := h.imports.most
  have m5 := h.filters.most
  unfold maxLen at m0 m1 m2 m3 m4 m5
  unfold netV
  rw [hp0, hp1, hp2, hp3, hp4, hp5]
  obtain ⟨tb, htb⟩ : ∃ tb, netL l s g o e x f = tb := ⟨_, rfl⟩
  have HTb := hid htb
  rw [htb]
  clear hp0 hp1 hp2 hp3 hp4 hp5 h hB ht htb
  go_enter Tryz.func11, Tryz.ntmps11
  go_wp2
  have B1 : Hid (Below w.heap.size w (w.alloc (.cells #[.slice p0 (l 0) (c 0), .slice p1 (l 1) (c 1), .slice p2 (l 2) (c 2), .slice p3 (l 3) (c 3), .slice p4 (l 4) (c 4), .slice p5 (l 5) (c 5)] 29))) := (by repeat (first | exact Below.refl _ _ | assumption | refine Below.drew ?_ | refine Below.alloc ?_ (by first | exact Nat.le_refl _ | omega | (simp; done) | (simp; omega)) _ | refine Below.setCell ?_ (by first | exact Nat.le_refl _ | omega | (simp; done) | (simp; omega)) _))
  have c0 : (w.alloc (.cells #[.slice p0 (l 0) (c 0), .slice p1 (l 1) (c 1), .slice p2 (l 2) (c 2), .slice p3 (l 3) (c 3), .slice p4 (l 4) (c 4), .slice p5 (l 5) (c 5)] 29)).cell? ⟨w.heap.size, 0, none⟩ = some (.slice p0 (l 0) (c 0)) := by simp [go_sem]
  have c1 : (w.alloc (.cells #[.slice p0 (l 0) (c 0), .slice p1 (l 1) (c 1), .slice p2 (l 2) (c 2), .slice p3 (l 3) (c 3), .slice p4 (l 4) (c 4), .slice p5 (l 5) (c 5)] 29)).cell? ⟨w.heap.size, 1, none⟩ = some (.slice p1 (l 1) (c 1)) := by simp [go_sem]
  have c2 : (w.alloc (.cells #[.slice p0 (l 0) (c 0), .slice p1 (l 1) (c 1), .slice p2 (l 2) (c 2), .slice p3 (l 3) (c 3), .slice p4 (l 4) (c 4), .slice p5 (l 5) (c 5)] 29)).cell? ⟨w.heap.size, 2, none⟩ = some (.slice p2 (l 2) (c 2)) := by simp [go_sem]
  have c3 : (w.alloc (.cells #[.slice p0 (l 0) (c 0), .slice p1 (l 1) (c 1), .slice p2 (l 2) (c 2), .slice p3 (l 3) (c 3), .slice p4 (l 4) (c 4), .slice p5 (l 5) (c 5)] 29)).cell? ⟨w.heap.size, 3, none⟩ = some (.slice p3 (l 3) (c 3)) := by simp [go_sem]
  have c4 : (w.alloc (.cells #[.slice p0 (l 0) (c 0), .slice p1 (l 1) (c 1), .slice p2 (l 2) (c 2), .slice p3 (l 3) (c 3), .slice p4 (l 4) (c 4), .slice p5 (l 5) (c 5)] 29)).cell? ⟨w.heap.size, 4, none⟩ = some (.slice p4 (l 4) (c 4)) := by simp [go_sem]
  have c5 : (w.alloc (.cells #[.slice p0 (l 0) (c 0), .slice p1 (l 1) (c 1), .slice p2 (l 2) (c 2), .slice p3 (l 3) (c 3), .slice p4 (l 4) (c 4), .slice p5 (l 5) (c 5)] 29)).cell? ⟨w.heap.size, 5, none⟩ = some (.slice p5 (l 5) (c 5)) := by simp [go_sem]
  have hz1 : (w.alloc (.cells #[.slice p0 (l 0) (c 0), .slice p1 (l 1) (c 1), .slice p2 (l 2) (c 2), .slice p3 (l 3) (c 3), .slice p4 (l 4) (c 4), .slice p5 (l 5) (c 5)] 29)).heap.size = w.heap.size + 1 := by simp
  rw [← hz1]
  clear hz1
  generalize (w.alloc (.cells #[.slice p0 (l 0) (c 0), .slice p1 (l 1) (c 1), .slice p2 (l 2) (c 2), .slice p3 (l 3) (c 3), .slice p4 (l 4) (c 4), .slice p5 (l 5) (c 5)] 29)) = w1 at *
  have HC1 : Hid (∀ w8 : World, Below w1.heap.size w1 w8 → (w8.cell? ⟨w.heap.size, 0, none⟩ = some (.slice p0 (l 0) (c 0)) ∧ w8.cell? ⟨w.heap.size, 1, none⟩ = some (.slice p1 (l 1) (c 1)) ∧ w8.cell? ⟨w.heap.size, 2, none⟩ = some (.slice p2 (l 2) (c 2)) ∧ w8.cell? ⟨w.heap.size, 3, none⟩ = some (.slice p3 (l 3) (c 3)) ∧ w8.cell? ⟨w.heap.size, 4, none⟩ = some (.slice p4 (l 4) (c 4)) ∧ w8.cell? ⟨w.heap.size, 5, none⟩ = some (.slice p5 (l 5) (c 5))) ∧ (StrRow w8 p0 (l 0) s ∧ Row 3 w8 p1 (l 1) g ∧ IntRow w8 p2 (l 2) o ∧ IntRow w8 p3 (l 3) e ∧ Row 5 w8 p4 (l 4) x ∧ Row 4 w8 p5 (l 5) f ∧ TabW w8) ∧ Below w.heap.size w w8) := hid (fun w8 hb => ⟨⟨keep hb c0, keep hb c1, keep hb c2, keep hb c3, keep hb c4, keep hb c5⟩, HRW.out _ (B1.out.trans (hb.mono B1.out.size)), B1.out.trans (hb.mono B1.out.size)⟩)
  have hzw : w.heap.size < w1.heap.size := World.block_lt_of_cell? _ _ c0
  clear HRW B1
  have hba : Below w1.heap.size w1 (w1.alloc (.cells #[.pointer none, .slice none 0 0] 71)) := (Below.refl _ _).alloc (Nat.le_refl _) _
  have HBa := hid hba
  have HBu0 : Hid (IsB w1.heap.size w1.heap.size [] (w1.alloc (.cells #[.pointer none, .slice none 0 0] 71))) := hid (Lib.fresh_isBuilder _ _ w1)
  clear hba
  clear c0 c1 c2 c3 c4 c5
  go_loopw [20] (fun i wr => ∃ k : Nat, k ≤ l 0 ∧ i = .int .i64 k ∧ IsB w1.heap.size w1.heap.size (upTo (routerL s) k) wr ∧ Below w1.heap.size w1 wr) (fun i _ => l 0 - (intOf i).toNat)
  case atStart => exact ⟨0, Nat.zero_le _, rfl, (by rw [up_zero]; exact HBu0.out), HBa.out⟩
  case round =>
    clear HBa HBu0
    obtain ⟨k1, hk, rfl, hbu, hbel⟩ := hrel
    have HBu := hid hbu
    have HBk := hid hbel
    obtain ⟨⟨q0, q1, q2, q3, q4, q5⟩, ⟨r0, r1, r2, r3, r4, r5, ht⟩, hB⟩ := HC1.out _ hbel
    have R0 := hid r0
    have R1 := hid r1
    have R2 := hid r2
    have R3 := hid r3
    have R4 := hid r4
    have R5 := hid r5
    have HT := hid ht
    have BR := hid hB
    have hsz : w1.heap.size ≤ wr.heap.size := hbel.size
    have hul := up_most (f := routerL s) G.out.router (by have := G.out.l0; omega) hk
    clear hbu hbel r0 r1 r2 r3 r4 r5 ht hB
    by_cases hlt : k1 < l 0
    · obtain ⟨b, off, rfl, hc⟩ := R0.out.cell k1 hlt
      have hsl := G.out.name k1 hlt
      clear q0 q1 q2 q3 q4 q5
      have HF := hid (up_succ (routerL s) k1)
      have HLine := hid (router_line s k1)
      generalize upTo (routerL s) k1 = acc at *
      generalize routerL s k1 = ln at *
      generalize s k1 = t at *
      go_wp2_with fail
      refine (line_impl w1.heap.size w1.heap.size _ wr.heap.size 0 2 [⟨#[114, 111, 117, 116, 101, 114]⟩, t] _ (builder_below HBu.out (by repeat (first | exact Below.refl _ _ | assumption | refine Below.drew ?_ | refine Below.alloc ?_ (by first | exact Nat.le_refl _ | omega | (simp; done) | (simp; omega)) _ | refine Below.setCell ?_ (by first | exact Nat.le_refl _ | omega | (simp; done) | (simp; omega)) _))) (cells_new _ _ _ _ rfl) (by simp) (by simp) (by simp) (fun y hy => by simp at hy; rcases hy with rfl | rfl <;> first | decide | omega) (by omega) (by simp; omega)).mono ?_
      rintro e' w2 ⟨rfl, hbu2, hb2⟩
      rw [HLine.out] at hbu2
      have HB2 := hid ((HBk.out.alloc hsz _).trans hb2)
      have HBu2 := hid hbu2
      clear hbu2 hb2
      go_wp2
      go_roundw
      case rel => exact ⟨k1 + 1, by omega, by go_num, by rw [HF.out]; exact HBu2.out, HB2.out⟩
      case measure => simp [intOf]; omega
    · have ek : k1 = l 0 := by omega
      obtain ⟨A1, hA⟩ : ∃ A, upTo (routerL s) (l 0) = A := ⟨_, rfl⟩
      have HE1 := hid hA
      rw [ek] at HBu hul
      rw [hA] at HBu
      have la1 : A1.length ≤ 36000 := by rw [← hA]; omega
      have hlt' : decide (k1 < l 0) = false := decide_eq_false (by omega)
      have HBX := hid HBu.out
      have HBX2 := hid HBk.out
      clear hlt ek hk hA hul HBu HBk R0 R1 R2 R3 R4 R5 HT BR
      go_wp2
      go_loopw [31] (fun i wr => ∃ k : Nat, k ≤ l 1 ∧ i = .int .i64 k ∧ IsB w1.heap.size w1.heap.size (A1 ++ upTo (linkL s g) k) wr ∧ Below w1.heap.size w1 wr) (fun i _ => l 1 - (intOf i).toNat)
      case atStart => exact ⟨0, Nat.zero_le _, rfl, (by rw [up_zero, List.append_nil]; exact HBX.out), HBX2.out⟩
      case round =>
        clear HBX HBX2
        obtain ⟨k2, hk, rfl, hbu, hbel⟩ := hrel
        have HBu := hid hbu
        have HBk := hid hbel
        obtain ⟨⟨q0, q1, q2, q3, q4, q5⟩, ⟨r0, r1, r2, r3, r4, r5, ht⟩, hB⟩ := HC1.out _ hbel
        have R0 := hid r0
        have R1 := hid r1
        have R2 := hid r2
        have R3 := hid r3
        have R4 := hid r4
        have R5 := hid r5
        have HT := hid ht
        have BR := hid hB
        have hsz : w1.heap.size ≤ wr.heap.size := hbel.size
        have hul := up_most (f := linkL s g) G.out.links (by have := G.out.l1; omega) hk
        clear hbu hbel r0 r1 r2 r3 r4 r5 ht hB
        by_cases hlt : k2 < l 1
        · obtain ⟨b, off, rfl, hc0, hc1, hc2⟩ := R1.out.at3 hlt
          obtain ⟨na, nb, nn, hna, hnb, hnn, e1, e2, e3⟩ := G.out.link k2 hlt
          obtain ⟨b0, off0, rfl, ha0⟩ := R0.out.cell na hna
          obtain ⟨b0', off0', hpp, hb0⟩ := R0.out.cell nb hnb
          cases hpp
          have HF := hid (up_succ (linkL s g) k2)
          have HLine := hid (link_line (s := s) e1 e2 e3)
          have HI : Hid (∀ w8 : World, TabW w8 → Calls Tryz.prog 29 #[.int .i64 (nn : Int)] w8 fun e' w' => e' = .returned (.string (numW nn)) ∧ Below w8.heap.size w8 w') := hid (fun w8 h8 => itoa_impl (nn : Int) w8 (by omega) (by omega) h8)
          have hsn := num_size (n := nn) (by omega)
          rw [e1] at hc0
          rw [e2] at hc1
          rw [e3] at hc2
          have hsa := G.out.name na hna
          have hsb := G.out.name nb hnb
          generalize upTo (linkL s g) k2 = acc at *
          generalize linkL s g k2 = ln at *
          generalize s na = sa at *
          generalize s nb = sb at *
          generalize numW nn = sn at *
          clear e1 e2 e3
          have hQ0 := q0
          have F8 : Hid (∀ w8 : World, Below ((wr.alloc (.cells #[.int .i64 (na : Int), .int .i64 (nb : Int), .int .i64 (nn : Int)] 61))).heap.size (wr.alloc (.cells #[.int .i64 (na : Int), .int .i64 (nb : Int), .int .i64 (nn : Int)] 61)) w8 → w8.cell? ⟨w.heap.size, 0, none⟩ = some (.slice (some ⟨b0, off0, none⟩) (l 0) (c 0)) ∧ w8.cell? ⟨wr.heap.size, 0, none⟩ = some (.int .i64 (na : Int)) ∧ w8.cell? ⟨wr.heap.size, 1, none⟩ = some (.int .i64 (nb : Int)) ∧ w8.cell? ⟨wr.heap.size, 2, none⟩ = some (.int .i64 (nn : Int)) ∧ True ∧ w8.cell? ⟨b0, off0 + na, none⟩ = some (.string sa) ∧ w8.cell? ⟨b0, off0 + nb, none⟩ = some (.string sb) ∧ TabW w8 ∧ IsB w1.heap.size w1.heap.size (A1 ++ acc) w8 ∧ Below w1.heap.size w1 w8) := hid (fun w8 S8 => by
            have hab : Below wr.heap.size wr (wr.alloc (.cells #[.int .i64 (na : Int), .int .i64 (nb : Int), .int .i64 (nn : Int)] 61)) := (by repeat (first | exact Below.refl _ _ | assumption | refine Below.drew ?_ | refine Below.alloc ?_ (by first | exact Nat.le_refl _ | omega | (simp; done) | (simp; omega)) _ | refine Below.setCell ?_ (by first | exact Nat.le_refl _ | omega | (simp; done) | (simp; omega)) _))
            have h8 : Below wr.heap.size wr w8 := hab.trans (S8.mono (by simp))
            exact ⟨keep h8 hQ0, keep S8 (by simp [go_sem]), keep S8 (by simp [go_sem]), keep S8 (by simp [go_sem]), trivial, keep h8 ha0, keep h8 hb0, HT.out.below h8, builder_below HBu.out h8, HBk.out.trans (h8.mono hsz)⟩)
          clear hQ0
          clear q1 q2 q3 q4 q5
          go_wp2
          clear q0 hc0 hc1 hc2 ha0 hb0
          refine region_below (fun u => ⟨#[.agg #[.slice (some ⟨b0, off0, none⟩) (l 0) (c 0), .slice (some ⟨b, off, none⟩) (l 1) (c 1), .slice (p2) (l 2) (c 2), .slice (p3) (l 3) (c 3), .slice (p4) (l 4) (c 4), .slice (p5) (l 5) (c 5)], .pointer (some ⟨w.heap.size, 0, none⟩), .string ⟨#[]⟩, .pointer (some ⟨w1.heap.size, 0, none⟩), undef, u5, undef, .pointer (some ⟨wr.heap.size, 0, none⟩), undef, undef, undef, undef, undef, undef, undef, undef, undef, .pointer (some ⟨w.heap.size, 0, none⟩), .slice (some ⟨b0, off0, none⟩) (l 0) (c 0), .int .i64 (l 0 : Int), .int .i64 (k1 : Int), .bool false, u22, u23, u24, u25, u26, u27, .pointer (some ⟨w.heap.size, 1, none⟩), .slice (some ⟨b, off, none⟩) (l 1) (c 1), .int .i64 (l 1 : Int), .int .i64 (k2 : Int), .bool true, .pointer (some ⟨b, off + k2 * 3, none⟩), .agg #[.int .i64 (na : Int), .int .i64 (nb : Int), .int .i64 (nn : Int)], u 35, u 36, u 37, u 38, u 39, u 40, u 41, u 42, u 43, u 44, u 45, u 46, u 47, u 48, u 49, u 50, u51, u52, undef, undef, undef, undef, undef, undef, undef, undef, undef, undef, undef, undef, undef, undef, undef, undef, undef, undef, undef, undef, undef, undef, undef, undef, undef, undef, undef, undef, undef, undef, undef, undef, undef, undef, undef, undef, undef, undef, undef, undef, undef, undef, undef, undef, undef, undef, undef, undef, undef, undef, undef, undef, undef, undef, undef, undef, undef, undef, undef, undef, undef, undef, undef, undef, undef, undef, undef, undef, undef, undef, undef, undef, undef, undef, undef, undef, undef, undef, undef, undef, undef, undef, undef, undef, undef], []⟩) (fun i => [35, 36, 37, 38, 39, 40, 41, 42, 43, 44, 45, 46, 47, 48, 49, 50].getD i 0) (fun i v w8 => match i with | 0 => v = .pointer (some ⟨w.heap.size, 0, none⟩) | 1 => v = .slice (some ⟨b0, off0, none⟩) (l 0) (c 0) | 2 => v = .pointer (some ⟨wr.heap.size, 0, none⟩) | 3 => v = .int .i64 (na : Int) | 4 => v = .pointer (some ⟨b0, off0 + na, none⟩) | 5 => v = .string sa | 6 => v = .pointer (some ⟨w.heap.size, 0, none⟩) | 7 => v = .slice (some ⟨b0, off0, none⟩) (l 0) (c 0) | 8 => v = .pointer (some ⟨wr.heap.size, 1, none⟩) | 9 => v = .int .i64 (nb : Int) | 10 => v = .pointer (some ⟨b0, off0 + nb, none⟩) | 11 => v = .string sb | 12 => v = .pointer (some ⟨wr.heap.size, 2, none⟩) | 13 => v = .int .i64 (nn : Int) | 14 => v = .string sn | 15 => (∃ N : Nat, v = .slice (some ⟨N, 0, none⟩) 5 5 ∧ (∀ (j : Nat) y, ([⟨#[108, 105, 110, 107]⟩, sa, sb, ⟨#[99, 111, 115, 116]⟩, sn] : List ByteArray)[j]? = some y → w8.cell? ⟨N, 0 + j, none⟩ = some (.string y)) ∧ N < w8.heap.size) | _ => True) _ 16 (fun k => match k with | 35 => u35 | 36 => u36 | 37 => u37 | 38 => u38 | 39 => u39 | 40 => u40 | 41 => u41 | 42 => u42 | 43 => u43 | 44 => u44 | 45 => u45 | 46 => u46 | 47 => u47 | 48 => u48 | 49 => u49 | 50 => u50 | _ => undef) (by rfl) (by kernel_rfl) (by rfl) ⟨by kernel_rfl, by kernel_rfl, by kernel_rfl, by decide⟩ (by kernel_rfl) (Below.refl _ _) ?hput ?hinj ?stable ?step ?last
          case hput =>
            intro i hi u v
            match i, hi with
            | 0, _ => rfl
            | 1, _ => rfl
            | 2, _ => rfl
            | 3, _ => rfl
            | 4, _ => rfl
            | 5, _ => rfl
            | 6, _ => rfl
            | 7, _ => rfl
            | 8, _ => rfl
            | 9, _ => rfl
            | 10, _ => rfl
            | 11, _ => rfl
            | 12, _ => rfl
            | 13, _ => rfl
            | 14, _ => rfl
            | 15, _ => rfl
            | i + 16, hi => exact absurd hi (by omega)
          case hinj =>
            intro i j hi hj h
            exact slots_inj [35, 36, 37, 38, 39, 40, 41, 42, 43, 44, 45, 46, 47, 48, 49, 50] (by decide) hi hj h
          case stable =>
            intro i v w8 w9 hb h
            match i, h with
            | 0, h => exact h
            | 1, h => exact h
            | 2, h => exact h
            | 3, h => exact h
            | 4, h => exact h
            | 5, h => exact h
            | 6, h => exact h
            | 7, h => exact h
            | 8, h => exact h
            | 9, h => exact h
            | 10, h => exact h
            | 11, h => exact h
            | 12, h => exact h
            | 13, h => exact h
            | 14, h => exact h
            | 15, h => obtain ⟨N, e, hc, hn⟩ := h; exact ⟨N, e, fun j y hy => keep hb (hc j y hy), Nat.lt_of_lt_of_le hn hb.size⟩
            | _ + 16, h => trivial
          case step =>
            intro i hi u w8 S8 hdep
            match i, hi with
            | 0, _ =>
              clear hdep
              refine ⟨_, rfl, fun K' hK => ?_⟩
              go_simp
              exact hK.out _ _ (Below.refl _ _) rfl
            | 1, _ =>
              have h0 : (u 35) = .pointer (some ⟨w.heap.size, 0, none⟩) := hdep 0 (by kernel_rfl)
              clear hdep
              refine ⟨_, rfl, fun K' hK => ?_⟩
              obtain ⟨f0, f1, f2, f3, f4, f5, f6, f7, f8, f9⟩ := F8.out _ S8
              simp only [h0] at hK ⊢
              go_simp
              exact hK.out _ _ (Below.refl _ _) rfl
            | 2, _ =>
              clear hdep
              refine ⟨_, rfl, fun K' hK => ?_⟩
              go_simp
              exact hK.out _ _ (Below.refl _ _) rfl
            | 3, _ =>
              have h2 : (u 37) = .pointer (some ⟨wr.heap.size, 0, none⟩) := hdep 2 (by kernel_rfl)
              clear hdep
              refine ⟨_, rfl, fun K' hK => ?_⟩
              obtain ⟨f0, f1, f2, f3, f4, f5, f6, f7, f8, f9⟩ := F8.out _ S8
              simp only [h2] at hK ⊢
              go_simp
              exact hK.out _ _ (Below.refl _ _) rfl
            | 4, _ =>
              have h1 : (u 36) = .slice (some ⟨b0, off0, none⟩) (l 0) (c 0) := hdep 1 (by kernel_rfl)
              have h3 : (u 38) = .int .i64 (na : Int) := hdep 3 (by kernel_rfl)
              clear hdep
              refine ⟨_, rfl, fun K' hK => ?_⟩
              simp only [h1, h3] at hK ⊢
              go_simp
              exact hK.out _ _ (Below.refl _ _) rfl
            | 5, _ =>
              have h4 : (u 39) = .pointer (some ⟨b0, off0 + na, none⟩) := hdep 4 (by kernel_rfl)
              clear hdep
              refine ⟨_, rfl, fun K' hK => ?_⟩
              obtain ⟨f0, f1, f2, f3, f4, f5, f6, f7, f8, f9⟩ := F8.out _ S8
              simp only [h4] at hK ⊢
              go_simp
              exact hK.out _ _ (Below.refl _ _) rfl
            | 6, _ =>
              clear hdep
              refine ⟨_, rfl, fun K' hK => ?_⟩
              go_simp
              exact hK.out _ _ (Below.refl _ _) rfl
            | 7, _ =>
              have h6 : (u 41) = .pointer (some ⟨w.heap.size, 0, none⟩) := hdep 6 (by kernel_rfl)
              clear hdep
              refine ⟨_, rfl, fun K' hK => ?_⟩
              obtain ⟨f0, f1, f2, f3, f4, f5, f6, f7, f8, f9⟩ := F8.out _ S8
              simp only [h6] at hK ⊢
              go_simp
              exact hK.out _ _ (Below.refl _ _) rfl
            | 8, _ =>
              clear hdep
              refine ⟨_, rfl, fun K' hK => ?_⟩
              go_simp
              exact hK.out _ _ (Below.refl _ _) rfl
            | 9, _ =>
              have h8 : (u 43) = .pointer (some ⟨wr.heap.size, 1, none⟩) := hdep 8 (by kernel_rfl)
              clear hdep
              refine ⟨_, rfl, fun K' hK => ?_⟩
              obtain ⟨f0, f1, f2, f3, f4, f5, f6, f7, f8, f9⟩ := F8.out _ S8
              simp only [h8] at hK ⊢
              go_simp
              exact hK.out _ _ (Below.refl _ _) rfl
            | 10, _ =>
              have h7 : (u 42) = .slice (some ⟨b0, off0, none⟩) (l 0) (c 0) := hdep 7 (by kernel_rfl)
              have h9 : (u 44) = .int .i64 (nb : Int) := hdep 9 (by kernel_rfl)
              clear hdep
              refine ⟨_, rfl, fun K' hK => ?_⟩
              simp only [h7, h9] at hK ⊢
              go_simp
              exact hK.out _ _ (Below.refl _ _) rfl
            | 11, _ =>
              have h10 : (u 45) = .pointer (some ⟨b0, off0 + nb, none⟩) := hdep 10 (by kernel_rfl)
              clear hdep
              refine ⟨_, rfl, fun K' hK => ?_⟩
              obtain ⟨f0, f1, f2, f3, f4, f5, f6, f7, f8, f9⟩ := F8.out _ S8
              simp only [h10] at hK ⊢
              go_simp
              exact hK.out _ _ (Below.refl _ _) rfl
            | 12, _ =>
              clear hdep
              refine ⟨_, rfl, fun K' hK => ?_⟩
              go_simp
              exact hK.out _ _ (Below.refl _ _) rfl
            | 13, _ =>
              have h12 : (u 47) = .pointer (some ⟨wr.heap.size, 2, none⟩) := hdep 12 (by kernel_rfl)
              clear hdep
              refine ⟨_, rfl, fun K' hK => ?_⟩
              obtain ⟨f0, f1, f2, f3, f4, f5, f6, f7, f8, f9⟩ := F8.out _ S8
              simp only [h12] at hK ⊢
              go_simp
              exact hK.out _ _ (Below.refl _ _) rfl
            | 14, _ =>
              have h13 : (u 48) = .int .i64 (nn : Int) := hdep 13 (by kernel_rfl)
              clear hdep
              refine ⟨_, rfl, fun K' hK => ?_⟩
              obtain ⟨f0, f1, f2, f3, f4, f5, f6, f7, f8, f9⟩ := F8.out _ S8
              simp only [h13] at hK ⊢
              go_simp
              refine (HI.out _ f7).mono ?_
              rintro e9 w9 ⟨rfl, hb9⟩
              exact hK.out _ _ hb9 rfl
            | 15, _ =>
              have h5 : (u 40) = .string sa := hdep 5 (by kernel_rfl)
              have h11 : (u 46) = .string sb := hdep 11 (by kernel_rfl)
              have h14 : (u 49) = .string sn := hdep 14 (by kernel_rfl)
              clear hdep
              refine ⟨_, rfl, fun K' hK => ?_⟩
              simp only [h5, h11, h14] at hK ⊢
              go_simp
              exact hK.out _ _ (by repeat (first | exact Below.refl _ _ | assumption | refine Below.drew ?_ | refine Below.alloc ?_ (by first | exact Nat.le_refl _ | omega | (simp; done) | (simp; omega)) _ | refine Below.setCell ?_ (by first | exact Nat.le_refl _ | omega | (simp; done) | (simp; omega)) _)) ⟨w8.heap.size, rfl, cells_new _ _ _ [⟨#[108, 105, 110, 107]⟩, sa, sb, ⟨#[99, 111, 115, 116]⟩, sn] rfl, by simp⟩
            | i + 16, hi => exact absurd hi (by omega)
          case last =>
            intro u w8 S8 hall
            have h15 : (∃ N : Nat, (u 50) = .slice (some ⟨N, 0, none⟩) 5 5 ∧ (∀ (j : Nat) y, ([⟨#[108, 105, 110, 107]⟩, sa, sb, ⟨#[99, 111, 115, 116]⟩, sn] : List ByteArray)[j]? = some y → w8.cell? ⟨N, 0 + j, none⟩ = some (.string y)) ∧ N < w8.heap.size) := hall 15 (by decide)
            clear hall
            refine ⟨_, rfl, fun K' hK => ?_⟩
            obtain ⟨N, eN, hcN, hNl⟩ := h15
            obtain ⟨f0, f1, f2, f3, f4, f5, f6, f7, f8, f9⟩ := F8.out _ S8
            simp only [eN] at hK ⊢
            go_simp
            refine (line_impl w1.heap.size w1.heap.size _ N 0 5 [⟨#[108, 105, 110, 107]⟩, sa, sb, ⟨#[99, 111, 115, 116]⟩, sn] _ f8 hcN hNl (by simp) (by simp) (fun y hy => by simp at hy; rcases hy with rfl | rfl | rfl | rfl | rfl <;> first | decide | omega) (by rw [List.length_append]; omega) f9.size).mono ?_
            rintro e' w2 ⟨rfl, hbu2, hb2⟩
            rw [HLine.out] at hbu2
            have HB2 := hid (f9.trans hb2)
            have HBu2 := hid hbu2
            clear hbu2 hb2 f0 f1 f2 f3 f4 f5 f6 f7 f8 f9
            (try go_wp2_with fail)
            refine hK.out _ _ ?_
            clear hK K'
            (try simp only [Exit.inBlock, Exit.then])
            go_wp2
            exact ⟨⟨k2 + 1, by omega, by go_num, by rw [HF.out, ← List.append_assoc]; exact HBu2.out, HB2.out⟩, by simp [intOf]; omega⟩
        · have ek : k2 = l 1 := by omega
          obtain ⟨A2, hA⟩ : ∃ A, A1 ++ upTo (linkL s g) (l 1) = A := ⟨_, rfl⟩
          have HE2 := hid hA
          rw [ek] at HBu hul
          rw [hA] at HBu
          have la2 : A2.length ≤ 72000 := by rw [← hA]; rw [List.length_append]; omega
          have hlt' : decide (k2 < l 1) = false := decide_eq_false (by omega)
          have HBX := hid HBu.out
          have HBX2 := hid HBk.out
          clear hlt ek hk hA hul HBu HBk R0 R1 R2 R3 R4 R5 HT BR
          go_wp2
          go_loopw [56] (fun i wr => ∃ k : Nat, k ≤ l 2 ∧ i = .int .i64 k ∧ IsB w1.heap.size w1.heap.size (A2 ++ upTo (origL s o) k) wr ∧ Below w1.heap.size w1 wr) (fun i _ => l 2 - (intOf i).toNat)
          case atStart => exact ⟨0, Nat.zero_le _, rfl, (by rw [up_zero, List.append_nil]; exact HBX.out), HBX2.out⟩
          case round =>
            clear HBX HBX2
            obtain ⟨k3, hk, rfl, hbu, hbel⟩ := hrel
            have HBu := hid hbu
            have HBk := hid hbel
            obtain ⟨⟨q0, q1, q2, q3, q4, q5⟩, ⟨r0, r1, r2, r3, r4, r5, ht⟩, hB⟩ := HC1.out _ hbel
            have R0 := hid r0
            have R1 := hid r1
            have R2 := hid r2
            have R3 := hid r3
            have R4 := hid r4
            have R5 := hid r5
            have HT := hid ht
            have BR := hid hB
            have hsz : w1.heap.size ≤ wr.heap.size := hbel.size
            have hul := up_most (f := origL s o) G.out.origs (by have := G.out.l2; omega) hk
            clear hbu hbel r0 r1 r2 r3 r4 r5 ht hB
            by_cases hlt : k3 < l 2
            · obtain ⟨b, off, rfl, hc⟩ := R2.out.cell k3 hlt
              obtain ⟨na, hna, e1⟩ := G.out.orig k3 hlt
              obtain ⟨b0, off0, rfl, ha0⟩ := R0.out.cell na hna
              rw [show o[k3]?.getD 0 = (na : Int) from e1] at hc
              have hsl := G.out.name na hna
              clear q1 q2 q3 q4 q5
              have HF := hid (up_succ (origL s o) k3)
              have HLine := hid (orig_line (s := s) e1)
              generalize upTo (origL s o) k3 = acc at *
              generalize origL s o k3 = ln at *
              generalize s na = t at *
              clear e1
              go_wp2_with fail
              refine (line_impl w1.heap.size w1.heap.size _ wr.heap.size 0 2 [⟨#[111, 114, 105, 103, 105, 110]⟩, t] _ (builder_below HBu.out (by repeat (first | exact Below.refl _ _ | assumption | refine Below.drew ?_ | refine Below.alloc ?_ (by first | exact Nat.le_refl _ | omega | (simp; done) | (simp; omega)) _ | refine Below.setCell ?_ (by first | exact Nat.le_refl _ | omega | (simp; done) | (simp; omega)) _))) (cells_new _ _ _ _ rfl) (by simp) (by simp) (by simp) (fun y hy => by simp at hy; rcases hy with rfl | rfl <;> first | decide | omega) (by rw [List.length_append]; omega) (by simp; omega)).mono ?_
              rintro e' w2 ⟨rfl, hbu2, hb2⟩
              rw [HLine.out] at hbu2
              have HB2 := hid ((HBk.out.alloc hsz _).trans hb2)
              have HBu2 := hid hbu2
              clear hbu2 hb2
              go_wp2
              go_roundw
              case rel => exact ⟨k3 + 1, by omega, by go_num, by rw [HF.out, ← List.append_assoc]; exact HBu2.out, HB2.out⟩
              case measure => simp [intOf]; omega
            · have ek : k3 = l 2 := by omega
              obtain ⟨A3, hA⟩ : ∃ A, A2 ++ upTo (origL s o) (l 2) = A := ⟨_, rfl⟩
              have HE3 := hid hA
              rw [ek] at HBu hul
              rw [hA] at HBu
              have la3 : A3.length ≤ 108000 := by rw [← hA]; rw [List.length_append]; omega
              have hlt' : decide (k3 < l 2) = false := decide_eq_false (by omega)
              have HBX := hid HBu.out
              have HBX2 := hid HBk.out
              clear hlt ek hk hA hul HBu HBk R0 R1 R2 R3 R4 R5 HT BR
              go_wp2
              go_loopw [71] (fun i wr => ∃ k : Nat, k ≤ l 3 ∧ i = .int .i64 k ∧ IsB w1.heap.size w1.heap.size (A3 ++ upTo (extL s e) k) wr ∧ Below w1.heap.size w1 wr) (fun i _ => l 3 - (intOf i).toNat)
              case atStart => exact ⟨0, Nat.zero_le _, rfl, (by rw [up_zero, List.append_nil]; exact HBX.out), HBX2.out⟩
              case round =>
                clear HBX HBX2
                obtain ⟨k4, hk, rfl, hbu, hbel⟩ := hrel
                have HBu := hid hbu
                have HBk := hid hbel
                obtain ⟨⟨q0, q1, q2, q3, q4, q5⟩, ⟨r0, r1, r2, r3, r4, r5, ht⟩, hB⟩ := HC1.out _ hbel
                have R0 := hid r0
                have R1 := hid r1
                have R2 := hid r2
                have R3 := hid r3
                have R4 := hid r4
                have R5 := hid r5
                have HT := hid ht
                have BR := hid hB
                have hsz : w1.heap.size ≤ wr.heap.size := hbel.size
                have hul := up_most (f := extL s e) G.out.exts (by have := G.out.l3; omega) hk
                clear hbu hbel r0 r1 r2 r3 r4 r5 ht hB
                by_cases hlt : k4 < l 3
                · obtain ⟨b, off, rfl, hc⟩ := R3.out.cell k4 hlt
                  obtain ⟨na, hna, e1⟩ := G.out.extn k4 hlt
                  obtain ⟨b0, off0, rfl, ha0⟩ := R0.out.cell na hna
                  rw [show e[k4]?.getD 0 = (na : Int) from e1] at hc
                  have hsl := G.out.name na hna
                  clear q1 q2 q3 q4 q5
                  have HF := hid (up_succ (extL s e) k4)
                  have HLine := hid (ext_line (s := s) e1)
                  generalize upTo (extL s e) k4 = acc at *
                  generalize extL s e k4 = ln at *
                  generalize s na = t at *
                  clear e1
                  go_wp2_with fail
                  refine (line_impl w1.heap.size w1.heap.size _ wr.heap.size 0 2 [⟨#[101, 120, 116, 101, 114, 110, 97, 108]⟩, t] _ (builder_below HBu.out (by repeat (first | exact Below.refl _ _ | assumption | refine Below.drew ?_ | refine Below.alloc ?_ (by first | exact Nat.le_refl _ | omega | (simp; done) | (simp; omega)) _ | refine Below.setCell ?_ (by first | exact Nat.le_refl _ | omega | (simp; done) | (simp; omega)) _))) (cells_new _ _ _ _ rfl) (by simp) (by simp) (by simp) (fun y hy => by simp at hy; rcases hy with rfl | rfl <;> first | decide | omega) (by rw [List.length_append]; omega) (by simp; omega)).mono ?_
                  rintro e' w2 ⟨rfl, hbu2, hb2⟩
                  rw [HLine.out] at hbu2
                  have HB2 := hid ((HBk.out.alloc hsz _).trans hb2)
                  have HBu2 := hid hbu2
                  clear hbu2 hb2
                  go_wp2
                  go_roundw
                  case rel => exact ⟨k4 + 1, by omega, by go_num, by rw [HF.out, ← List.append_assoc]; exact HBu2.out, HB2.out⟩
                  case measure => simp [intOf]; omega
                · have ek : k4 = l 3 := by omega
                  obtain ⟨A4, hA⟩ : ∃ A, A3 ++ upTo (extL s e) (l 3) = A := ⟨_, rfl⟩
                  have HE4 := hid hA
                  rw [ek] at HBu hul
                  rw [hA] at HBu
                  have la4 : A4.length ≤ 144000 := by rw [← hA]; rw [List.length_append]; omega
                  have hlt' : decide (k4 < l 3) = false := decide_eq_false (by omega)
                  have HBX := hid HBu.out
                  have HBX2 := hid HBk.out
                  clear hlt ek hk hA hul HBu HBk R0 R1 R2 R3 R4 R5 HT BR
                  go_wp2
                  go_loopw [86] (fun i wr => ∃ k : Nat, k ≤ l 4 ∧ i = .int .i64 k ∧ IsB w1.heap.size w1.heap.size (A4 ++ upTo (impL s x) k) wr ∧ Below w1.heap.size w1 wr) (fun i _ => l 4 - (intOf i).toNat)
                  case atStart => exact ⟨0, Nat.zero_le _, rfl, (by rw [up_zero, List.append_nil]; exact HBX.out), HBX2.out⟩
                  case round =>
                    clear HBX HBX2
                    obtain ⟨k5, hk, rfl, hbu, hbel⟩ := hrel
                    have HBu := hid hbu
                    have HBk := hid hbel
                    obtain ⟨⟨q0, q1, q2, q3, q4, q5⟩, ⟨r0, r1, r2, r3, r4, r5, ht⟩, hB⟩ := HC1.out _ hbel
                    have R0 := hid r0
                    have R1 := hid r1
                    have R2 := hid r2
                    have R3 := hid r3
                    have R4 := hid r4
                    have R5 := hid r5
                    have HT := hid ht
                    have BR := hid hB
                    have hsz : w1.heap.size ≤ wr.heap.size := hbel.size
                    have hul := up_most (f := impL s x) G.out.imps (by have := G.out.l4; omega) hk
                    clear hbu hbel r0 r1 r2 r3 r4 r5 ht hB
                    by_cases hlt : k5 < l 4
                    · obtain ⟨b, off, rfl, hc0, hc1, hc2, hc3, hc4⟩ := R4.out.at5 hlt
                      obtain ⟨na, nb, nh, nd, nn, hna, hnb, hnh, hnd1, hnd4, hnn, e1, e2, e3, e4, e5⟩ := G.out.impo k5 hlt
                      obtain ⟨b0, off0, rfl, ha0⟩ := R0.out.cell na hna
                      obtain ⟨b0', off0', hpp, hb0⟩ := R0.out.cell nb hnb
                      cases hpp
                      have HF := hid (up_succ (impL s x) k5)
                      have HLine := hid (imp_line (s := s) hnh hnd1 hnd4 e1 e2 e3 e4 e5)
                      have HD : Hid (∀ (za zb : Int) (w8 : World), TabW w8 → Calls Tryz.prog 30 #[.agg #[.int .i64 za, .int .i64 zb, .int .i64 (nh : Int), .int .i64 (nd : Int), .int .i64 (nn : Int)]] w8 fun e' w' => ∃ v, e' = .returned v ∧ OwnS w8.heap.size w' v (deedW nh nd nn) ∧ Below w8.heap.size w8 w') := hid (fun za zb w8 h8 => deed_impl za zb nh nd nn w8 hnh hnd1 hnd4 hnn h8)
                      have HDn : Hid (deedW nh nd nn ≠ []) := hid (by simp [deedW])
                      have HDs := hid (deed_sizes nh nd hnn)
                      have hdl := deed_len nh nd nn
                      rw [e1] at hc0
                      rw [e2] at hc1
                      rw [e3] at hc2
                      rw [e4] at hc3
                      rw [e5] at hc4
                      have hsa := G.out.name na hna
                      have hsb := G.out.name nb hnb
                      generalize upTo (impL s x) k5 = acc at *
                      generalize impL s x k5 = ln at *
                      generalize s na = sa at *
                      generalize s nb = sb at *
                      generalize deedW nh nd nn = ds at *
                      clear e1 e2 e3 e4 e5
                      have hQ0 := q0
                      have F8 : Hid (∀ w8 : World, Below ((wr.alloc (.cells #[.int .i64 (na : Int), .int .i64 (nb : Int), .int .i64 (nh : Int), .int .i64 (nd : Int), .int .i64 (nn : Int)] 65))).heap.size (wr.alloc (.cells #[.int .i64 (na : Int), .int .i64 (nb : Int), .int .i64 (nh : Int), .int .i64 (nd : Int), .int .i64 (nn : Int)] 65)) w8 → w8.cell? ⟨w.heap.size, 0, none⟩ = some (.slice (some ⟨b0, off0, none⟩) (l 0) (c 0)) ∧ w8.cell? ⟨wr.heap.size, 0, none⟩ = some (.int .i64 (na : Int)) ∧ w8.cell? ⟨wr.heap.size, 1, none⟩ = some (.int .i64 (nb : Int)) ∧ w8.cell? ⟨wr.heap.size, 2, none⟩ = some (.int .i64 (nh : Int)) ∧ w8.cell? ⟨wr.heap.size, 3, none⟩ = some (.int .i64 (nd : Int)) ∧ w8.cell? ⟨b0, off0 + na, none⟩ = some (.string sa) ∧ w8.cell? ⟨b0, off0 + nb, none⟩ = some (.string sb) ∧ TabW w8 ∧ IsB w1.heap.size w1.heap.size (A4 ++ acc) w8 ∧ Below w1.heap.size w1 w8) := hid (fun w8 S8 => by
                        have hab : Below wr.heap.size wr (wr.alloc (.cells #[.int .i64 (na : Int), .int .i64 (nb : Int), .int .i64 (nh : Int), .int .i64 (nd : Int), .int .i64 (nn : Int)] 65)) := (by repeat (first | exact Below.refl _ _ | assumption | refine Below.drew ?_ | refine Below.alloc ?_ (by first | exact Nat.le_refl _ | omega | (simp; done) | (simp; omega)) _ | refine Below.setCell ?_ (by first | exact Nat.le_refl _ | omega | (simp; done) | (simp; omega)) _))
                        have h8 : Below wr.heap.size wr w8 := hab.trans (S8.mono (by simp))
                        exact ⟨keep h8 hQ0, keep S8 (by simp [go_sem]), keep S8 (by simp [go_sem]), keep S8 (by simp [go_sem]), keep S8 (by simp [go_sem]), keep h8 ha0, keep h8 hb0, HT.out.below h8, builder_below HBu.out h8, HBk.out.trans (h8.mono hsz)⟩)
                      clear hQ0
                      have F9 : Hid (∀ w8 : World, Below ((wr.alloc (.cells #[.int .i64 (na : Int), .int .i64 (nb : Int), .int .i64 (nh : Int), .int .i64 (nd : Int), .int .i64 (nn : Int)] 65))).heap.size (wr.alloc (.cells #[.int .i64 (na : Int), .int .i64 (nb : Int), .int .i64 (nh : Int), .int .i64 (nd : Int), .int .i64 (nn : Int)] 65)) w8 → w8.cell? ⟨wr.heap.size, 4, none⟩ = some (.int .i64 (nn : Int))) := hid (fun w8 S8 => keep S8 (by simp [go_sem]))
                      clear q1 q2 q3 q4 q5
                      go_wp2
                      clear q0 hc0 hc1 hc2 hc3 hc4 ha0 hb0
                      refine region_below (fun u => ⟨#[.agg #[.slice (some ⟨b0, off0, none⟩) (l 0) (c 0), .slice (p1) (l 1) (c 1), .slice (p2) (l 2) (c 2), .slice (p3) (l 3) (c 3), .slice (some ⟨b, off, none⟩) (l 4) (c 4), .slice (p5) (l 5) (c 5)], .pointer (some ⟨w.heap.size, 0, none⟩), .string ⟨#[]⟩, .pointer (some ⟨w1.heap.size, 0, none⟩), undef, u5, undef, u7, undef, u9, undef, u11, undef, .pointer (some ⟨wr.heap.size, 0, none⟩), u14, undef, undef, .pointer (some ⟨w.heap.size, 0, none⟩), .slice (some ⟨b0, off0, none⟩) (l 0) (c 0), .int .i64 (l 0 : Int), .int .i64 (k1 : Int), .bool false, u22, u23, u24, u25, u26, u27, .pointer (some ⟨w.heap.size, 1, none⟩), .slice (p1) (l 1) (c 1), .int .i64 (l 1 : Int), .int .i64 (k2 : Int), .bool false, u33, u34, u35, u36, u37, u38, u39, u40, u41, u42, u43, u44, u45, u46, u47, u48, u49, u50, u51, u52, .pointer (some ⟨w.heap.size, 2, none⟩), .slice (p2) (l 2) (c 2), .int .i64 (l 2 : Int), .int .i64 (k3 : Int), .bool false, u58, u59, u60, u61, u62, u63, u64, u65, u66, u67, .pointer (some ⟨w.heap.size, 3, none⟩), .slice (p3) (l 3) (c 3), .int .i64 (l 3 : Int), .int .i64 (k4 : Int), .bool false, u73, u74, u75, u76, u77, u78, u79, u80, u81, u82, .pointer (some ⟨w.heap.size, 4, none⟩), .slice (some ⟨b, off, none⟩) (l 4) (c 4), .int .i64 (l 4 : Int), .int .i64 (k5 : Int), .bool true, .pointer (some ⟨b, off + k5 * 5, none⟩), .agg #[.int .i64 (na : Int), .int .i64 (nb : Int), .int .i64 (nh : Int), .int .i64 (nd : Int), .int .i64 (nn : Int)], u 90, u 91, u 92, u 93, u 94, u 95, u 96, u 97, u 98, u 99, u 100, u 101, u 102, u103, u104, u105, u106, u107, u108, undef, undef, undef, undef, undef, undef, undef, undef, undef, undef, undef, undef, undef, undef, undef, undef, undef, undef, undef, undef, undef, undef, undef, undef, undef, undef, undef, undef, undef], []⟩) (fun i => [90, 91, 92, 93, 94, 95, 96, 97, 98, 99, 100, 101, 102].getD i 0) (fun i v w8 => match i with | 0 => v = .pointer (some ⟨w.heap.size, 0, none⟩) | 1 => v = .slice (some ⟨b0, off0, none⟩) (l 0) (c 0) | 2 => v = .pointer (some ⟨wr.heap.size, 0, none⟩) | 3 => v = .int .i64 (na : Int) | 4 => v = .pointer (some ⟨b0, off0 + na, none⟩) | 5 => v = .string sa | 6 => v = .pointer (some ⟨w.heap.size, 0, none⟩) | 7 => v = .slice (some ⟨b0, off0, none⟩) (l 0) (c 0) | 8 => v = .pointer (some ⟨wr.heap.size, 1, none⟩) | 9 => v = .int .i64 (nb : Int) | 10 => v = .pointer (some ⟨b0, off0 + nb, none⟩) | 11 => v = .string sb | 12 => OwnS (wr.heap.size + 1) w8 v [⟨#[105, 109, 112, 111, 114, 116]⟩, sa, ⟨#[102, 114, 111, 109]⟩, sb] | _ => True) _ 13 (fun k => match k with | 90 => u90 | 91 => u91 | 92 => u92 | 93 => u93 | 94 => u94 | 95 => u95 | 96 => u96 | 97 => u97 | 98 => u98 | 99 => u99 | 100 => u100 | 101 => u101 | 102 => u102 | _ => undef) (by rfl) (by kernel_rfl) (by rfl) ⟨by kernel_rfl, by kernel_rfl, by kernel_rfl, by decide⟩ (by kernel_rfl) (Below.refl _ _) ?hput ?hinj ?stable ?step ?last
                      case hput =>
                        intro i hi u v
                        match i, hi with
                        | 0, _ => rfl
                        | 1, _ => rfl
                        | 2, _ => rfl
                        | 3, _ => rfl
                        | 4, _ => rfl
                        | 5, _ => rfl
                        | 6, _ => rfl
                        | 7, _ => rfl
                        | 8, _ => rfl
                        | 9, _ => rfl
                        | 10, _ => rfl
                        | 11, _ => rfl
                        | 12, _ => rfl
                        | i + 13, hi => exact absurd hi (by omega)
                      case hinj =>
                        intro i j hi hj h
                        exact slots_inj [90, 91, 92, 93, 94, 95, 96, 97, 98, 99, 100, 101, 102] (by decide) hi hj h
                      case stable =>
                        intro i v w8 w9 hb h
                        match i, h with
                        | 0, h => exact h
                        | 1, h => exact h
                        | 2, h => exact h
                        | 3, h => exact h
                        | 4, h => exact h
                        | 5, h => exact h
                        | 6, h => exact h
                        | 7, h => exact h
                        | 8, h => exact h
                        | 9, h => exact h
                        | 10, h => exact h
                        | 11, h => exact h
                        | 12, h => exact netLines.own_pass h hb
                        | _ + 13, h => trivial
                      case step =>
                        intro i hi u w8 S8 hdep
                        match i, hi with
                        | 0, _ =>
                          clear hdep
                          refine ⟨_, rfl, fun K' hK => ?_⟩
                          go_simp
                          exact hK.out _ _ (Below.refl _ _) rfl
                        | 1, _ =>
                          have h0 : (u 90) = .pointer (some ⟨w.heap.size, 0, none⟩) := hdep 0 (by kernel_rfl)
                          clear hdep
                          refine ⟨_, rfl, fun K' hK => ?_⟩
                          obtain ⟨f0, f1, f2, f3, f4, f5, f6, f7, f8, f9⟩ := F8.out _ S8
                          simp only [h0] at hK ⊢
                          go_simp
                          exact hK.out _ _ (Below.refl _ _) rfl
                        | 2, _ =>
                          clear hdep
                          refine ⟨_, rfl, fun K' hK => ?_⟩
                          go_simp
                          exact hK.out _ _ (Below.refl _ _) rfl
                        | 3, _ =>
                          have h2 : (u 92) = .pointer (some ⟨wr.heap.size, 0, none⟩) := hdep 2 (by kernel_rfl)
                          clear hdep
                          refine ⟨_, rfl, fun K' hK => ?_⟩
                          obtain ⟨f0, f1, f2, f3, f4, f5, f6, f7, f8, f9⟩ := F8.out _ S8
                          simp only [h2] at hK ⊢
                          go_simp
                          exact hK.out _ _ (Below.refl _ _) rfl
                        | 4, _ =>
                          have h1 : (u 91) = .slice (some ⟨b0, off0, none⟩) (l 0) (c 0) := hdep 1 (by kernel_rfl)
                          have h3 : (u 93) = .int .i64 (na : Int) := hdep 3 (by kernel_rfl)
                          clear hdep
                          refine ⟨_, rfl, fun K' hK => ?_⟩
                          simp only [h1, h3] at hK ⊢
                          go_simp
                          exact hK.out _ _ (Below.refl _ _) rfl
                        | 5, _ =>
                          have h4 : (u 94) = .pointer (some ⟨b0, off0 + na, none⟩) := hdep 4 (by kernel_rfl)
                          clear hdep
                          refine ⟨_, rfl, fun K' hK => ?_⟩
                          obtain ⟨f0, f1, f2, f3, f4, f5, f6, f7, f8, f9⟩ := F8.out _ S8
                          simp only [h4] at hK ⊢
                          go_simp
                          exact hK.out _ _ (Below.refl _ _) rfl
                        | 6, _ =>
                          clear hdep
                          refine ⟨_, rfl, fun K' hK => ?_⟩
                          go_simp
                          exact hK.out _ _ (Below.refl _ _) rfl
                        | 7, _ =>
                          have h6 : (u 96) = .pointer (some ⟨w.heap.size, 0, none⟩) := hdep 6 (by kernel_rfl)
                          clear hdep
                          refine ⟨_, rfl, fun K' hK => ?_⟩
                          obtain ⟨f0, f1, f2, f3, f4, f5, f6, f7, f8, f9⟩ := F8.out _ S8
                          simp only [h6] at hK ⊢
                          go_simp
                          exact hK.out _ _ (Below.refl _ _) rfl
                        | 8, _ =>
                          clear hdep
                          refine ⟨_, rfl, fun K' hK => ?_⟩
                          go_simp
                          exact hK.out _ _ (Below.refl _ _) rfl
                        | 9, _ =>
                          have h8 : (u 98) = .pointer (some ⟨wr.heap.size, 1, none⟩) := hdep 8 (by kernel_rfl)
                          clear hdep
                          refine ⟨_, rfl, fun K' hK => ?_⟩
                          obtain ⟨f0, f1, f2, f3, f4, f5, f6, f7, f8, f9⟩ := F8.out _ S8
                          simp only [h8] at hK ⊢
                          go_simp
                          exact hK.out _ _ (Below.refl _ _) rfl
                        | 10, _ =>
                          have h7 : (u 97) = .slice (some ⟨b0, off0, none⟩) (l 0) (c 0) := hdep 7 (by kernel_rfl)
                          have h9 : (u 99) = .int .i64 (nb : Int) := hdep 9 (by kernel_rfl)
                          clear hdep
                          refine ⟨_, rfl, fun K' hK => ?_⟩
                          simp only [h7, h9] at hK ⊢
                          go_simp
                          exact hK.out _ _ (Below.refl _ _) rfl
                        | 11, _ =>
                          have h10 : (u 100) = .pointer (some ⟨b0, off0 + nb, none⟩) := hdep 10 (by kernel_rfl)
                          clear hdep
                          refine ⟨_, rfl, fun K' hK => ?_⟩
                          obtain ⟨f0, f1, f2, f3, f4, f5, f6, f7, f8, f9⟩ := F8.out _ S8
                          simp only [h10] at hK ⊢
                          go_simp
                          exact hK.out _ _ (Below.refl _ _) rfl
                        | 12, _ =>
                          have h5 : (u 95) = .string sa := hdep 5 (by kernel_rfl)
                          have h11 : (u 101) = .string sb := hdep 11 (by kernel_rfl)
                          clear hdep
                          refine ⟨_, rfl, fun K' hK => ?_⟩
                          simp only [h5, h11] at hK ⊢
                          go_simp
                          exact hK.out _ _ (by repeat (first | exact Below.refl _ _ | assumption | refine Below.drew ?_ | refine Below.alloc ?_ (by first | exact Nat.le_refl _ | omega | (simp; done) | (simp; omega)) _ | refine Below.setCell ?_ (by first | exact Nat.le_refl _ | omega | (simp; done) | (simp; omega)) _)) (own_built _ _ _ rfl (by have := S8.size; simp at this; omega) (by simp [maxLen]))
                        | i + 13, hi => exact absurd hi (by omega)
                      case last =>
                        intro u w8 S8 hall
                        have h12 : OwnS (wr.heap.size + 1) w8 (u 102) [⟨#[105, 109, 112, 111, 114, 116]⟩, sa, ⟨#[102, 114, 111, 109]⟩, sb] := hall 12 (by decide)
                        clear hall
                        refine ⟨_, rfl, fun K' hK => ?_⟩
                        obtain ⟨f0, f1, f2, f3, f4, f5, f6, f7, f8, f9⟩ := F8.out _ S8
                        have f10 := F9.out _ S8
                        generalize u 102 = v8 at *
                        have O8 := hid h12
                        have S8h := hid S8
                        have hs8 : wr.heap.size + 1 ≤ w8.heap.size := by have := S8.size; simp at this; omega
                        have T8 := hid f7
                        clear h12 S8 f0 f5 f6 f7 f8 f9
                        go_simp
                        refine hK.out _ _ ?_
                        clear hK K'
                        (try simp only [Exit.then])
                        go_wp2_with fail
                        refine (HD.out (na : Int) (nb : Int) _ T8.out).mono ?_
                        rintro e' w3 ⟨v3, rfl, hown3, hb3⟩
                        obtain ⟨g3, cp3, rfl, hcl3, hlt3, hcp3⟩ := own_form hown3 HDn.out
                        have O3 := hid (netLines.own_pass O8.out hb3)
                        have S3 := hid (S8h.out.trans (hb3.mono S8h.out.size))
                        have hs3 : wr.heap.size + 1 ≤ w3.heap.size := Nat.le_trans hs8 hb3.size
                        have HCL := hid hcl3
                        clear hown3 hb3 hcl3 hlt3 hcp3 f1 f2 f3 f4 f10
                        go_wp2_with (at_builtin; (refine wpList_append_own _ rfl _ _ 23 rfl (wr.heap.size + 1) 9 i0 (.string ⟨#[]⟩) 1 16 Tryz.underlying23 HI0.out HZ0.out HZ1.out HZ2.out rfl (by decide) _ _ _ rfl O3.out ⟨g3, 0, none⟩ ds.length cp3 (ds.map Value.string) rfl (by simp) (fun j u hj => by rw [List.getElem?_map] at hj; obtain ⟨y, hy, rfl⟩ := Option.map_eq_some_iff.1 hj; rw [add_at]; have := HCL.out j y hy; rwa [Nat.zero_add] at this) (fun u hu => by obtain ⟨y, _, rfl⟩ := List.mem_map.1 hu; rfl) (by unfold maxLen; simp; omega) (by simp; omega) hs3 ?_); intro v4 w4 hown4 hgrow4 hnil4)
                        have hS4 := S3.out.grown hgrow4 (by simp; omega) (fun k hk => by have := (World.ownsRow.lt O3.out k hk).1; simp; omega)
                        have O4 : OwnS (wr.heap.size + 1) w4 v4 ([⟨#[105, 109, 112, 111, 114, 116]⟩, sa, ⟨#[102, 114, 111, 109]⟩, sb] ++ ds) := by
                          unfold OwnS
                          rw [List.length_append, List.map_append]
                          exact hown4
                        obtain ⟨g4, cp4, rfl, hcl4, hlt4, hcp4⟩ := own_form O4 (by simp)
                        obtain ⟨f0, f1, f2, f3, f4, f5, f6, f7, f8, f9⟩ := F8.out _ hS4
                        have HCL4 := hid hcl4
                        have B4 := hid f9
                        have BU4 := hid f8
                        clear hown4 hgrow4 hnil4 O4 hcl4 hS4 f0 f1 f2 f3 f4 f5 f6 f7 f8 f9
                        go_wp2_with fail
                        refine (line_impl w1.heap.size w1.heap.size _ g4 0 cp4 ([⟨#[105, 109, 112, 111, 114, 116]⟩, sa, ⟨#[102, 114, 111, 109]⟩, sb] ++ ds) _ BU4.out HCL4.out hlt4 hcp4 (by simp; omega) (fun y hy => by simp at hy; rcases hy with rfl | rfl | rfl | rfl | hy <;> first | decide | omega | exact HDs.out y hy) (by rw [List.length_append]; omega) B4.out.size).mono ?_
                        rintro e' w2 ⟨rfl, hbu2, hb2⟩
                        rw [HLine.out] at hbu2
                        have HB2 := hid (B4.out.trans hb2)
                        have HBu2 := hid hbu2
                        clear hbu2 hb2
                        go_wp2
                        exact ⟨⟨k5 + 1, by omega, by go_num, by rw [HF.out, ← List.append_assoc]; exact HBu2.out, HB2.out⟩, by simp [intOf]; omega⟩
                    · have ek : k5 = l 4 := by omega
                      obtain ⟨A5, hA⟩ : ∃ A, A4 ++ upTo (impL s x) (l 4) = A := ⟨_, rfl⟩
                      have HE5 := hid hA
                      rw [ek] at HBu hul
                      rw [hA] at HBu
                      have la5 : A5.length ≤ 180000 := by rw [← hA]; rw [List.length_append]; omega
                      have hlt' : decide (k5 < l 4) = false := decide_eq_false (by omega)
                      have HBX := hid HBu.out
                      have HBX2 := hid HBk.out
                      clear hlt ek hk hA hul HBu HBk R0 R1 R2 R3 R4 R5 HT BR
                      go_wp2
                      go_loopw [112] (fun i wr => ∃ k : Nat, k ≤ l 5 ∧ i = .int .i64 k ∧ IsB w1.heap.size w1.heap.size (A5 ++ upTo (filtL s f) k) wr ∧ Below w1.heap.size w1 wr) (fun i _ => l 5 - (intOf i).toNat)
                      case atStart => exact ⟨0, Nat.zero_le _, rfl, (by rw [up_zero, List.append_nil]; exact HBX.out), HBX2.out⟩
                      case round =>
                        clear HBX HBX2
                        obtain ⟨k6, hk, rfl, hbu, hbel⟩ := hrel
                        have HBu := hid hbu
                        have HBk := hid hbel
                        obtain ⟨⟨q0, q1, q2, q3, q4, q5⟩, ⟨r0, r1, r2, r3, r4, r5, ht⟩, hB⟩ := HC1.out _ hbel
                        have R0 := hid r0
                        have R1 := hid r1
                        have R2 := hid r2
                        have R3 := hid r3
                        have R4 := hid r4
                        have R5 := hid r5
                        have HT := hid ht
                        have BR := hid hB
                        have hsz : w1.heap.size ≤ wr.heap.size := hbel.size
                        have hul := up_most (f := filtL s f) G.out.filts (by have := G.out.l5; omega) hk
                        clear hbu hbel r0 r1 r2 r3 r4 r5 ht hB
                        by_cases hlt : k6 < l 5
                        · obtain ⟨b, off, rfl, hc0, hc1, hc2, hc3⟩ := R5.out.at4 hlt
                          obtain ⟨na, nb, nn, nm, hna, hnb, hnn, hnm, e1, e2, e3, e4⟩ := G.out.filt k6 hlt
                          obtain ⟨b0, off0, rfl, ha0⟩ := R0.out.cell na hna
                          obtain ⟨b0', off0', hpp, hb0⟩ := R0.out.cell nb hnb
                          cases hpp
                          have HF := hid (up_succ (filtL s f) k6)
                          have HLine := hid (filt_line (s := s) e1 e2 e3 e4)
                          have HI : Hid (∀ w8 : World, TabW w8 → Calls Tryz.prog 29 #[.int .i64 (nn : Int)] w8 fun e' w' => e' = .returned (.string (numW nn)) ∧ Below w8.heap.size w8 w') := hid (fun w8 h8 => itoa_impl (nn : Int) w8 (by omega) (by omega) h8)
                          have HJ : Hid (∀ w8 : World, TabW w8 → Calls Tryz.prog 29 #[.int .i64 (nm : Int)] w8 fun e' w' => e' = .returned (.string (numW nm)) ∧ Below w8.heap.size w8 w') := hid (fun w8 h8 => itoa_impl (nm : Int) w8 (by omega) (by omega) h8)
                          have hsn := num_size (n := nn) (by omega)
                          have hsm := num_size (n := nm) (by omega)
                          rw [e1] at hc0
                          rw [e2] at hc1
                          rw [e3] at hc2
                          rw [e4] at hc3
                          have hsa := G.out.name na hna
                          have hsb := G.out.name nb hnb
                          obtain ⟨sn, hsn0⟩ : ∃ t, numW nn = t := ⟨_, rfl⟩
                          obtain ⟨sm, hsm0⟩ : ∃ t, numW nm = t := ⟨_, rfl⟩
                          rw [hsn0] at HLine HI hsn
                          rw [hsm0] at HLine HJ hsm
                          generalize upTo (filtL s f) k6 = acc at *
                          generalize filtL s f k6 = ln at *
                          generalize s na = sa at *
                          generalize s nb = sb at *
                          clear e1 e2 e3 e4 hsn0 hsm0
                          have hQ0 := q0
                          have F8 : Hid (∀ w8 : World, Below ((wr.alloc (.cells #[.int .i64 (na : Int), .int .i64 (nb : Int), .int .i64 (nn : Int), .int .i64 (nm : Int)] 68))).heap.size (wr.alloc (.cells #[.int .i64 (na : Int), .int .i64 (nb : Int), .int .i64 (nn : Int), .int .i64 (nm : Int)] 68)) w8 → w8.cell? ⟨w.heap.size, 0, none⟩ = some (.slice (some ⟨b0, off0, none⟩) (l 0) (c 0)) ∧ w8.cell? ⟨wr.heap.size, 0, none⟩ = some (.int .i64 (na : Int)) ∧ w8.cell? ⟨wr.heap.size, 1, none⟩ = some (.int .i64 (nb : Int)) ∧ w8.cell? ⟨wr.heap.size, 2, none⟩ = some (.int .i64 (nn : Int)) ∧ w8.cell? ⟨wr.heap.size, 3, none⟩ = some (.int .i64 (nm : Int)) ∧ w8.cell? ⟨b0, off0 + na, none⟩ = some (.string sa) ∧ w8.cell? ⟨b0, off0 + nb, none⟩ = some (.string sb) ∧ TabW w8 ∧ IsB w1.heap.size w1.heap.size (A5 ++ acc) w8 ∧ Below w1.heap.size w1 w8) := hid (fun w8 S8 => by
                            have hab : Below wr.heap.size wr (wr.alloc (.cells #[.int .i64 (na : Int), .int .i64 (nb : Int), .int .i64 (nn : Int), .int .i64 (nm : Int)] 68)) := (by repeat (first | exact Below.refl _ _ | assumption | refine Below.drew ?_ | refine Below.alloc ?_ (by first | exact Nat.le_refl _ | omega | (simp; done) | (simp; omega)) _ | refine Below.setCell ?_ (by first | exact Nat.le_refl _ | omega | (simp; done) | (simp; omega)) _))
                            have h8 : Below wr.heap.size wr w8 := hab.trans (S8.mono (by simp))
                            exact ⟨keep h8 hQ0, keep S8 (by simp [go_sem]), keep S8 (by simp [go_sem]), keep S8 (by simp [go_sem]), keep S8 (by simp [go_sem]), keep h8 ha0, keep h8 hb0, HT.out.below h8, builder_below HBu.out h8, HBk.out.trans (h8.mono hsz)⟩)
                          clear hQ0
                          clear q1 q2 q3 q4 q5
                          go_wp2
                          clear q0 hc0 hc1 hc2 hc3 ha0 hb0
                          refine region_below (fun u => ⟨#[.agg #[.slice (some ⟨b0, off0, none⟩) (l 0) (c 0), .slice (p1) (l 1) (c 1), .slice (p2) (l 2) (c 2), .slice (p3) (l 3) (c 3), .slice (p4) (l 4) (c 4), .slice (some ⟨b, off, none⟩) (l 5) (c 5)], .pointer (some ⟨w.heap.size, 0, none⟩), .string ⟨#[]⟩, .pointer (some ⟨w1.heap.size, 0, none⟩), undef, u5, undef, u7, undef, u9, undef, u11, undef, u13, u14, undef, .pointer (some ⟨wr.heap.size, 0, none⟩), .pointer (some ⟨w.heap.size, 0, none⟩), .slice (some ⟨b0, off0, none⟩) (l 0) (c 0), .int .i64 (l 0 : Int), .int .i64 (k1 : Int), .bool false, u22, u23, u24, u25, u26, u27, .pointer (some ⟨w.heap.size, 1, none⟩), .slice (p1) (l 1) (c 1), .int .i64 (l 1 : Int), .int .i64 (k2 : Int), .bool false, u33, u34, u35, u36, u37, u38, u39, u40, u41, u42, u43, u44, u45, u46, u47, u48, u49, u50, u51, u52, .pointer (some ⟨w.heap.size, 2, none⟩), .slice (p2) (l 2) (c 2), .int .i64 (l 2 : Int), .int .i64 (k3 : Int), .bool false, u58, u59, u60, u61, u62, u63, u64, u65, u66, u67, .pointer (some ⟨w.heap.size, 3, none⟩), .slice (p3) (l 3) (c 3), .int .i64 (l 3 : Int), .int .i64 (k4 : Int), .bool false, u73, u74, u75, u76, u77, u78, u79, u80, u81, u82, .pointer (some ⟨w.heap.size, 4, none⟩), .slice (p4) (l 4) (c 4), .int .i64 (l 4 : Int), .int .i64 (k5 : Int), .bool false, u88, u89, u90, u91, u92, u93, u94, u95, u96, u97, u98, u99, u100, u101, u102, u103, u104, u105, u106, u107, u108, .pointer (some ⟨w.heap.size, 5, none⟩), .slice (some ⟨b, off, none⟩) (l 5) (c 5), .int .i64 (l 5 : Int), .int .i64 (k6 : Int), .bool true, .pointer (some ⟨b, off + k6 * 4, none⟩), .agg #[.int .i64 (na : Int), .int .i64 (nb : Int), .int .i64 (nn : Int), .int .i64 (nm : Int)], u 116, u 117, u 118, u 119, u 120, u 121, u 122, u 123, u 124, u 125, u 126, u 127, u 128, u 129, u 130, u 131, u 132, u 133, u 134, u135, u136, undef], []⟩) (fun i => [116, 117, 118, 119, 120, 121, 122, 123, 124, 125, 126, 127, 128, 129, 130, 131, 132, 133, 134].getD i 0) (fun i v w8 => match i with | 0 => v = .pointer (some ⟨w.heap.size, 0, none⟩) | 1 => v = .slice (some ⟨b0, off0, none⟩) (l 0) (c 0) | 2 => v = .pointer (some ⟨wr.heap.size, 0, none⟩) | 3 => v = .int .i64 (na : Int) | 4 => v = .pointer (some ⟨b0, off0 + na, none⟩) | 5 => v = .string sa | 6 => v = .pointer (some ⟨w.heap.size, 0, none⟩) | 7 => v = .slice (some ⟨b0, off0, none⟩) (l 0) (c 0) | 8 => v = .pointer (some ⟨wr.heap.size, 1, none⟩) | 9 => v = .int .i64 (nb : Int) | 10 => v = .pointer (some ⟨b0, off0 + nb, none⟩) | 11 => v = .string sb | 12 => v = .pointer (some ⟨wr.heap.size, 2, none⟩) | 13 => v = .int .i64 (nn : Int) | 14 => v = .string sn | 15 => v = .pointer (some ⟨wr.heap.size, 3, none⟩) | 16 => v = .int .i64 (nm : Int) | 17 => v = .string sm | 18 => (∃ N : Nat, v = .slice (some ⟨N, 0, none⟩) 7 7 ∧ (∀ (j : Nat) y, ([⟨#[102, 105, 108, 116, 101, 114]⟩, sa, ⟨#[116, 111]⟩, sb, ⟨#[112, 111, 114, 116]⟩, sn, sm] : List ByteArray)[j]? = some y → w8.cell? ⟨N, 0 + j, none⟩ = some (.string y)) ∧ N < w8.heap.size) | _ => True) _ 19 (fun k => match k with | 116 => u116 | 117 => u117 | 118 => u118 | 119 => u119 | 120 => u120 | 121 => u121 | 122 => u122 | 123 => u123 | 124 => u124 | 125 => u125 | 126 => u126 | 127 => u127 | 128 => u128 | 129 => u129 | 130 => u130 | 131 => u131 | 132 => u132 | 133 => u133 | 134 => u134 | _ => undef) (by rfl) (by kernel_rfl) (by rfl) ⟨by kernel_rfl, by kernel_rfl, by kernel_rfl, by decide⟩ (by kernel_rfl) (Below.refl _ _) ?hput ?hinj ?stable ?step ?last
                          case hput =>
                            intro i hi u v
                            match i, hi with
                            | 0, _ => rfl
                            | 1, _ => rfl
                            | 2, _ => rfl
                            | 3, _ => rfl
                            | 4, _ => rfl
                            | 5, _ => rfl
                            | 6, _ => rfl
                            | 7, _ => rfl
                            | 8, _ => rfl
                            | 9, _ => rfl
                            | 10, _ => rfl
                            | 11, _ => rfl
                            | 12, _ => rfl
                            | 13, _ => rfl
                            | 14, _ => rfl
                            | 15, _ => rfl
                            | 16, _ => rfl
                            | 17, _ => rfl
                            | 18, _ => rfl
                            | i + 19, hi => exact absurd hi (by omega)
                          case hinj =>
                            intro i j hi hj h
                            exact slots_inj [116, 117, 118, 119, 120, 121, 122, 123, 124, 125, 126, 127, 128, 129, 130, 131, 132, 133, 134] (by decide) hi hj h
                          case stable =>
                            intro i v w8 w9 hb h
                            match i, h with
                            | 0, h => exact h
                            | 1, h => exact h
                            | 2, h => exact h
                            | 3, h => exact h
                            | 4, h => exact h
                            | 5, h => exact h
                            | 6, h => exact h
                            | 7, h => exact h
                            | 8, h => exact h
                            | 9, h => exact h
                            | 10, h => exact h
                            | 11, h => exact h
                            | 12, h => exact h
                            | 13, h => exact h
                            | 14, h => exact h
                            | 15, h => exact h
                            | 16, h => exact h
                            | 17, h => exact h
                            | 18, h => obtain ⟨N, e, hc, hn⟩ := h; exact ⟨N, e, fun j y hy => keep hb (hc j y hy), Nat.lt_of_lt_of_le hn hb.size⟩
                            | _ + 19, h => trivial
                          case step =>
                            intro i hi u w8 S8 hdep
                            match i, hi with
                            | 0, _ =>
                              clear hdep
                              refine ⟨_, rfl, fun K' hK => ?_⟩
                              go_simp
                              exact hK.out _ _ (Below.refl _ _) rfl
                            | 1, _ =>
                              have h0 : (u 116) = .pointer (some ⟨w.heap.size, 0, none⟩) := hdep 0 (by kernel_rfl)
                              clear hdep
                              refine ⟨_, rfl, fun K' hK => ?_⟩
                              obtain ⟨f0, f1, f2, f3, f4, f5, f6, f7, f8, f9⟩ := F8.out _ S8
                              simp only [h0] at hK ⊢
                              go_simp
                              exact hK.out _ _ (Below.refl _ _) rfl
                            | 2, _ =>
                              clear hdep
                              refine ⟨_, rfl, fun K' hK => ?_⟩
                              go_simp
                              exact hK.out _ _ (Below.refl _ _) rfl
                            | 3, _ =>
                              have h2 : (u 118) = .pointer (some ⟨wr.heap.size, 0, none⟩) := hdep 2 (by kernel_rfl)
                              clear hdep
                              refine ⟨_, rfl, fun K' hK => ?_⟩
                              obtain ⟨f0, f1, f2, f3, f4, f5, f6, f7, f8, f9⟩ := F8.out _ S8
                              simp only [h2] at hK ⊢
                              go_simp
                              exact hK.out _ _ (Below.refl _ _) rfl
                            | 4, _ =>
                              have h1 : (u 117) = .slice (some ⟨b0, off0, none⟩) (l 0) (c 0) := hdep 1 (by kernel_rfl)
                              have h3 : (u 119) = .int .i64 (na : Int) := hdep 3 (by kernel_rfl)
                              clear hdep
                              refine ⟨_, rfl, fun K' hK => ?_⟩
                              simp only [h1, h3] at hK ⊢
                              go_simp
                              exact hK.out _ _ (Below.refl _ _) rfl
                            | 5, _ =>
                              have h4 : (u 120) = .pointer (some ⟨b0, off0 + na, none⟩) := hdep 4 (by kernel_rfl)
                              clear hdep
                              refine ⟨_, rfl, fun K' hK => ?_⟩
                              obtain ⟨f0, f1, f2, f3, f4, f5, f6, f7, f8, f9⟩ := F8.out _ S8
                              simp only [h4] at hK ⊢
                              go_simp
                              exact hK.out _ _ (Below.refl _ _) rfl
                            | 6, _ =>
                              clear hdep
                              refine ⟨_, rfl, fun K' hK => ?_⟩
                              go_simp
                              exact hK.out _ _ (Below.refl _ _) rfl
                            | 7, _ =>
                              have h6 : (u 122) = .pointer (some ⟨w.heap.size, 0, none⟩) := hdep 6 (by kernel_rfl)
                              clear hdep
                              refine ⟨_, rfl, fun K' hK => ?_⟩
                              obtain ⟨f0, f1, f2, f3, f4, f5, f6, f7, f8, f9⟩ := F8.out _ S8
                              simp only [h6] at hK ⊢
                              go_simp
                              exact hK.out _ _ (Below.refl _ _) rfl
                            | 8, _ =>
                              clear hdep
                              refine ⟨_, rfl, fun K' hK => ?_⟩
                              go_simp
                              exact hK.out _ _ (Below.refl _ _) rfl
                            | 9, _ =>
                              have h8 : (u 124) = .pointer (some ⟨wr.heap.size, 1, none⟩) := hdep 8 (by kernel_rfl)
                              clear hdep
                              refine ⟨_, rfl, fun K' hK => ?_⟩
                              obtain ⟨f0, f1, f2, f3, f4, f5, f6, f7, f8, f9⟩ := F8.out _ S8
                              simp only [h8] at hK ⊢
                              go_simp
                              exact hK.out _ _ (Below.refl _ _) rfl
                            | 10, _ =>
                              have h7 : (u 123) = .slice (some ⟨b0, off0, none⟩) (l 0) (c 0) := hdep 7 (by kernel_rfl)
                              have h9 : (u 125) = .int .i64 (nb : Int) := hdep 9 (by kernel_rfl)
                              clear hdep
                              refine ⟨_, rfl, fun K' hK => ?_⟩
                              simp only [h7, h9] at hK ⊢
                              go_simp
                              exact hK.out _ _ (Below.refl _ _) rfl
                            | 11, _ =>
                              have h10 : (u 126) = .pointer (some ⟨b0, off0 + nb, none⟩) := hdep 10 (by kernel_rfl)
                              clear hdep
                              refine ⟨_, rfl, fun K' hK => ?_⟩
                              obtain ⟨f0, f1, f2, f3, f4, f5, f6, f7, f8, f9⟩ := F8.out _ S8
                              simp only [h10] at hK ⊢
                              go_simp
                              exact hK.out _ _ (Below.refl _ _) rfl
                            | 12, _ =>
                              clear hdep
                              refine ⟨_, rfl, fun K' hK => ?_⟩
                              go_simp
                              exact hK.out _ _ (Below.refl _ _) rfl
                            | 13, _ =>
                              have h12 : (u 128) = .pointer (some ⟨wr.heap.size, 2, none⟩) := hdep 12 (by kernel_rfl)
                              clear hdep
                              refine ⟨_, rfl, fun K' hK => ?_⟩
                              obtain ⟨f0, f1, f2, f3, f4, f5, f6, f7, f8, f9⟩ := F8.out _ S8
                              simp only [h12] at hK ⊢
                              go_simp
                              exact hK.out _ _ (Below.refl _ _) rfl
                            | 14, _ =>
                              have h13 : (u 129) = .int .i64 (nn : Int) := hdep 13 (by kernel_rfl)
                              clear hdep
                              refine ⟨_, rfl, fun K' hK => ?_⟩
                              obtain ⟨f0, f1, f2, f3, f4, f5, f6, f7, f8, f9⟩ := F8.out _ S8
                              simp only [h13] at hK ⊢
                              go_simp
                              refine (HI.out _ f7).mono ?_
                              rintro e9 w9 ⟨rfl, hb9⟩
                              exact hK.out _ _ hb9 rfl
                            | 15, _ =>
                              clear hdep
                              refine ⟨_, rfl, fun K' hK => ?_⟩
                              go_simp
                              exact hK.out _ _ (Below.refl _ _) rfl
                            | 16, _ =>
                              have h15 : (u 131) = .pointer (some ⟨wr.heap.size, 3, none⟩) := hdep 15 (by kernel_rfl)
                              clear hdep
                              refine ⟨_, rfl, fun K' hK => ?_⟩
                              obtain ⟨f0, f1, f2, f3, f4, f5, f6, f7, f8, f9⟩ := F8.out _ S8
                              simp only [h15] at hK ⊢
                              go_simp
                              exact hK.out _ _ (Below.refl _ _) rfl
                            | 17, _ =>
                              have h16 : (u 132) = .int .i64 (nm : Int) := hdep 16 (by kernel_rfl)
                              clear hdep
                              refine ⟨_, rfl, fun K' hK => ?_⟩
                              obtain ⟨f0, f1, f2, f3, f4, f5, f6, f7, f8, f9⟩ := F8.out _ S8
                              simp only [h16] at hK ⊢
                              go_simp
                              refine (HJ.out _ f7).mono ?_
                              rintro e9 w9 ⟨rfl, hb9⟩
                              exact hK.out _ _ hb9 rfl
                            | 18, _ =>
                              have h5 : (u 121) = .string sa := hdep 5 (by kernel_rfl)
                              have h11 : (u 127) = .string sb := hdep 11 (by kernel_rfl)
                              have h14 : (u 130) = .string sn := hdep 14 (by kernel_rfl)
                              have h17 : (u 133) = .string sm := hdep 17 (by kernel_rfl)
                              clear hdep
                              refine ⟨_, rfl, fun K' hK => ?_⟩
                              simp only [h5, h11, h14, h17] at hK ⊢
                              go_simp
                              exact hK.out _ _ (by repeat (first | exact Below.refl _ _ | assumption | refine Below.drew ?_ | refine Below.alloc ?_ (by first | exact Nat.le_refl _ | omega | (simp; done) | (simp; omega)) _ | refine Below.setCell ?_ (by first | exact Nat.le_refl _ | omega | (simp; done) | (simp; omega)) _)) ⟨w8.heap.size, rfl, cells_new _ _ _ [⟨#[102, 105, 108, 116, 101, 114]⟩, sa, ⟨#[116, 111]⟩, sb, ⟨#[112, 111, 114, 116]⟩, sn, sm] rfl, by simp⟩
                            | i + 19, hi => exact absurd hi (by omega)
                          case last =>
                            intro u w8 S8 hall
                            have h18 : (∃ N : Nat, (u 134) = .slice (some ⟨N, 0, none⟩) 7 7 ∧ (∀ (j : Nat) y, ([⟨#[102, 105, 108, 116, 101, 114]⟩, sa, ⟨#[116, 111]⟩, sb, ⟨#[112, 111, 114, 116]⟩, sn, sm] : List ByteArray)[j]? = some y → w8.cell? ⟨N, 0 + j, none⟩ = some (.string y)) ∧ N < w8.heap.size) := hall 18 (by decide)
                            clear hall
                            refine ⟨_, rfl, fun K' hK => ?_⟩
                            obtain ⟨N, eN, hcN, hNl⟩ := h18
                            obtain ⟨f0, f1, f2, f3, f4, f5, f6, f7, f8, f9⟩ := F8.out _ S8
                            simp only [eN] at hK ⊢
                            go_simp
                            refine (line_impl w1.heap.size w1.heap.size _ N 0 7 [⟨#[102, 105, 108, 116, 101, 114]⟩, sa, ⟨#[116, 111]⟩, sb, ⟨#[112, 111, 114, 116]⟩, sn, sm] _ f8 hcN hNl (by simp) (by simp) (fun y hy => by simp at hy; rcases hy with rfl | rfl | rfl | rfl | rfl | rfl | rfl <;> first | decide | omega) (by rw [List.length_append]; omega) f9.size).mono ?_
                            rintro e' w2 ⟨rfl, hbu2, hb2⟩
                            rw [HLine.out] at hbu2
                            have HB2 := hid (f9.trans hb2)
                            have HBu2 := hid hbu2
                            clear hbu2 hb2 f0 f1 f2 f3 f4 f5 f6 f7 f8 f9
                            (try go_wp2_with fail)
                            refine hK.out _ _ ?_
                            clear hK K'
                            (try simp only [Exit.inBlock, Exit.then])
                            go_wp2
                            exact ⟨⟨k6 + 1, by omega, by go_num, by rw [HF.out, ← List.append_assoc]; exact HBu2.out, HB2.out⟩, by simp [intOf]; omega⟩
                        · have ek : k6 = l 5 := by omega
                          obtain ⟨A6, hA⟩ : ∃ A, A5 ++ upTo (filtL s f) (l 5) = A := ⟨_, rfl⟩
                          have HE6 := hid hA
                          rw [ek] at HBu hul
                          rw [hA] at HBu
                          have la6 : A6.length ≤ 216000 := by rw [← hA]; rw [List.length_append]; omega
                          have hlt' : decide (k6 < l 5) = false := decide_eq_false (by omega)
                          have HBX := hid HBu.out
                          have HBX2 := hid HBk.out
                          clear hlt ek hk hA hul HBu HBk R0 R1 R2 R3 R4 R5 HT BR
                          have HTE : Hid (tb = A6) := hid (by rw [← HTb.out]; unfold netL; rw [HE1.out, HE2.out, HE3.out, HE4.out, HE5.out, HE6.out])
                          have BR := hid (HC1.out _ HBX2.out).2.2
                          clear q0 q1 q2 q3 q4 q5
                          go_wp2_with fail
                          refine (string_impl w1.heap.size w1.heap.size A6 _ HBX.out hsz).mono ?_
                          rintro e' w5 ⟨rfl, hb5⟩
                          have B5 := hid (BR.out.trans (hb5.mono (by omega)))
                          clear hb5
                          go_wp2
                          go_ret
                          exact ⟨by rw [HTE.out]; rfl, B5.out⟩
set_option maxHeartbeats 800000 in
theorem text_impl_good (p : Nat → Option Addr) (l c : Nat → Nat) (s : Ss) (g : R) (o e : List Int) (x f : R) (w : World) (h : NetIs w p l s g o e x f) (hc0 : l 0 ≤ c 0) (hc1 : l 1 ≤ c 1) (hB : netB l s g o e x f = true) (ht : TabW w) :
    Calls Tryz.prog 5 #[netV p l c] w fun e' w' => e' = .returned (.tuple #[.string ⟨(netL l s g o e x f).toArray⟩, .int .i64 0]) ∧ Below w.heap.size w w' := by
  have HN := hid h
  have K0 := hid hc0
  have K1 := hid hc1
  have HTx := hid (fun w8 (hb : Below w.heap.size w w8) => textOf_impl p l c s g o e x f w8 (h.below hb) hB (ht.below hb))
  clear h hc0 hc1 ht
  generalize netL l s g o e x f = tb at *
  unfold netV at HTx
  unfold netV
  go_enter Tryz.func5, Tryz.ntmps5
  go_wp2_with fail
  refine (netOK_impl p l c s g o e x f _ (HN.out.below (by repeat (first | exact Below.refl _ _ | assumption | refine Below.drew ?_ | refine Below.alloc ?_ (by first | exact Nat.le_refl _ | omega | (simp; done) | (simp; omega)) _ | refine Below.setCell ?_ (by first | exact Nat.le_refl _ | omega | (simp; done) | (simp; omega)) _))) K0.out K1.out).mono ?_
  rintro e' w1 ⟨rfl, hb1⟩
  rw [hB]
  have B1 := hid ((show Below w.heap.size w _ from (by repeat (first | exact Below.refl _ _ | assumption | refine Below.drew ?_ | refine Below.alloc ?_ (by first | exact Nat.le_refl _ | omega | (simp; done) | (simp; omega)) _ | refine Below.setCell ?_ (by first | exact Nat.le_refl _ | omega | (simp; done) | (simp; omega)) _))).trans (hb1.mono (by simp)))
  have c0 : w1.cell? ⟨w.heap.size, 0, none⟩ = some (.slice (p 0) (l 0) (c 0)) := keep hb1 (by simp [go_sem])
  have c1 : w1.cell? ⟨w.heap.size, 1, none⟩ = some (.slice (p 1) (l 1) (c 1)) := keep hb1 (by simp [go_sem])
  have c2 : w1.cell? ⟨w.heap.size, 2, none⟩ = some (.slice (p 2) (l 2) (c 2)) := keep hb1 (by simp [go_sem])
  have c3 : w1.cell? ⟨w.heap.size, 3, none⟩ = some (.slice (p 3) (l 3) (c 3)) := keep hb1 (by simp [go_sem])
  have c4 : w1.cell? ⟨w.heap.size, 4, none⟩ = some (.slice (p 4) (l 4) (c 4)) := keep hb1 (by simp [go_sem])
  have c5 : w1.cell? ⟨w.heap.size, 5, none⟩ = some (.slice (p 5) (l 5) (c 5)) := keep hb1 (by simp [go_sem])
  clear hb1
  go_wp2_with fail
  refine (HTx.out _ B1.out).mono ?_
  rintro e' w2 ⟨rfl, hb2⟩
  have B2 := hid (B1.out.trans (hb2.mono B1.out.size))
  clear hb2
  go_wp2
  go_ret2
  exact ⟨rfl, B2.out⟩
end Go.Proofs.YtffacjebnbplaaaGreatDoor.netTextImpl
