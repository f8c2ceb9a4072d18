/- Slices of integers in memory that a call makes for itself: what is appended to them, and how they are read; with the contract of the function that leaves one literal out; conditions: lengths that fit. -/
import Derived.Test.YtiiigdcfnnjkcaaCopy
import Derived.OwnWalk
import Derived.WalkSpells
namespace Go.Proofs.Ytiiigdcfnnjkcaa.own
open Go.RowKit Go.Deep base copy

/-- A slice of the call's own (blocks from B on) that holds a list of integers. -/
def OwnInts (B : Nat) (w : World) (v : Value) (zs : List Int) : Prop := w.ownsRow B 3 1 v zs.length (zs.map (Value.int .i64))
theorem OwnInts.nil (B : Nat) (w : World) : OwnInts B w (.slice none 0 0) [] := World.ownsRow_nil w B 3 1
theorem OwnInts.form {B : Nat} {w : World} {v : Value} {zs : List Int} (h : OwnInts B w v zs) : ∃ a cap, v = .slice a zs.length cap ∧ IntRow w a zs.length zs := by
  obtain ⟨h1, h2⟩ := h
  rcases h2 with ⟨rfl, hn⟩ | ⟨g, cap, cur, rfl, hb, hh, hn, hm, hs, ht⟩
  · exact ⟨none, 0, by rw [hn], ⟨rfl, by rw [hn]; exact Nat.zero_le _, fun i hi => by omega⟩⟩
  · refine ⟨some ⟨g, 0, none⟩, cap, rfl, ⟨rfl, Nat.le_trans hn hm, fun i hi => ⟨g, 0, rfl, ?_⟩⟩⟩
    have h3 : cur[i]? = some (.int .i64 (zs[i]?.getD 0)) := by
      have : (cur.toList.take (zs.length * 1))[i]? = (zs.map (Value.int .i64))[i]? := by rw [ht]
      rw [List.getElem?_take, if_pos (by omega)] at this
      rw [← Array.getElem?_toList, this, List.getElem?_map, List.getElem?_eq_getElem hi]
      rfl
    simp [World.cell?, hh, h3]
theorem OwnInts.below {B : Nat} {W w1 : World} {v : Value} {zs : List Int} (h : OwnInts B W v zs) (hb : Below W.heap.size W w1) : OwnInts B w1 v zs := by
  obtain ⟨h1, h2⟩ := h
  refine ⟨h1, ?_⟩
  rcases h2 with h2 | ⟨g, cap, cur, e, hg, hh, hn, hm, hs, ht⟩
  · exact .inl h2
  · exact .inr ⟨g, cap, cur, e, hg, by rw [hb.block g (Array.getElem?_eq_some_iff.1 hh).1]; exact hh, hn, hm, hs, ht⟩
theorem OwnInts.mono {B B' : Nat} {w : World} {v : Value} {zs : List Int} (h : OwnInts B w v zs) (hb : B' ≤ B) : OwnInts B' w v zs := by
  obtain ⟨h1, h2⟩ := h
  refine ⟨h1, ?_⟩
  rcases h2 with h2 | ⟨g, cap, cur, e, hg, hh, hn, hm, hs, ht⟩
  · exact .inl h2
  · exact .inr ⟨g, cap, cur, e, Nat.le_trans hb hg, hh, hn, hm, hs, ht⟩
theorem grown_below {B : Nat} {w w1 w2 : World} {v : Value} {zs : List Int} (h : OwnInts B w1 v zs) (hb : Below B w w1) (hB : B ≤ w1.heap.size) (hg : w1.grownBy w2 v.ownBlock) : Below B w w2 :=
  hb.grown hg hB (fun k hk => (World.ownsRow.lt h k hk).1)
theorem filter_take_succ {p : Int → Bool} {zs : List Int} {k : Nat} (h : k < zs.length) : (zs.take (k + 1)).filter p = (zs.take k).filter p ++ (if p (zs[k]?.getD 0) then [zs[k]?.getD 0] else []) := by
  rw [List.take_succ_eq_append_getElem h, List.filter_append, List.getElem?_eq_getElem h]
  by_cases hp : p zs[k] <;> simp [hp]

set_option maxHeartbeats 1600000 in
theorem without_impl (a : Option Addr) (len cap : Nat) (zs : List Int) (l : Int) (w : World) (hr : IntRow w a len zs) (hb : len ≤ 1048576) :
    Calls Try.prog 47 #[.slice a len cap, .int .i64 l] w fun e w' => ∃ v, e = .returned v ∧ OwnInts w.heap.size w' v (zs.filter (fun z => z != l)) ∧ Below w.heap.size w w' := by
  have hmost := hr.most
  unfold maxLen at hmost
  have HR := hid hr
  have HL := hid hr.length
  clear hr
  obtain ⟨i0, hi, hzz⟩ := Option.map_eq_some_iff.1 Try.info_int
  simp only [Prod.mk.injEq] at hzz
  obtain ⟨hz0, hz1, hz2⟩ := hzz
  have HI := hid hi
  have HZ0 := hid hz0
  have HZ1 := hid hz1
  have HZ2 := hid hz2
  clear hi hz0 hz1 hz2
  go_enter Try.func47, Try.ntmps47
  go_wp2
  go_loopw [10, 5] (fun i v wr => ∃ k : Nat, k ≤ len ∧ i = .int .i64 k ∧ OwnInts w.heap.size wr v ((zs.take k).filter (fun z => z != l)) ∧ Below w.heap.size w wr) (fun i _ _ => len - (intOf i).toNat)
  case atStart => exact ⟨0, Nat.zero_le _, rfl, OwnInts.nil _ _, Below.refl _ _⟩
  case round =>
    rename_i v0
    obtain ⟨k, hk, rfl, hown, hbel⟩ := hrel
    have HO := hid hown
    have HB := hid hbel
    by_cases hlt : k < len
    · obtain ⟨b, off, rfl, hc0⟩ := HR.out.cell k hlt
      have hc := keep hbel hc0
      have HF := hid (filter_take_succ (p := fun z => z != l) (zs := zs) (k := k) (by rw [HL.out]; omega))
      have HLen : Hid (((zs.take k).filter (fun z => z != l)).length ≤ k) := by
        show _ ≤ _
        exact Nat.le_trans (List.length_filter_le _ _) (List.length_take_le _ _)
      clear hown hbel hc0
      generalize zs[k]?.getD 0 = z at *
      have HB0 := hid HB.out.size
      by_cases he : (z != l) = true
      · go_wp2_with (at_builtin; (refine wpList_append_own _ rfl _ _ 37 rfl w.heap.size 3 i0 (.int .i64 0) 1 8 Try.underlying37 HI.out HZ0.out HZ1.out HZ2.out rfl (by decide) _ _ _ rfl (World.ownsRow.alloc HO.out _) ⟨wr.heap.size, 0, none⟩ 1 1 [.int .i64 z] rfl rfl (cell_one_new _ _ _) (fun x hx => by simp at hx; subst hx; rfl) (by have := HLen.out; unfold maxLen; omega) (by have := HLen.out; omega) (by have := HB0.out; simp; omega) ?_); intro v' w3 hown' hgrow3 hnil3)
        have HF' := HF.out
        rw [if_pos he] at HF'
        have HF2 := hid HF'
        clear HF' HF
        have HO2 : Hid (OwnInts w.heap.size w3 v' ((zs.take (k + 1)).filter (fun z => z != l))) := by
          show OwnInts _ _ _ _
          rw [HF2.out]
          unfold OwnInts
          rw [List.length_append, List.map_append]
          exact hown'
        have HB2 : Hid (Below w.heap.size w w3) := grown_below (OwnInts.below HO.out (by repeat (first | exact Below.refl _ _ | assumption | refine Below.drew ?_ | refine Below.alloc ?_ (by first | exact Nat.le_refl _ | omega | (simp; done) | (simp; omega)) _ | refine Below.setCell ?_ (by first | exact Nat.le_refl _ | omega | (simp; done) | (simp; omega)) _))) (HB.out.alloc HB0.out _) (by have := HB0.out; simp; omega) hgrow3
        clear hown' hgrow3 hnil3
        go_wp2
        go_roundw
        case rel => exact ⟨k + 1, by omega, by go_num, HO2.out, HB2.out⟩
        case measure => simp [intOf]; omega
      · have he' : (z != l) = false := by simpa using he
        clear he
        have HF' := HF.out
        rw [if_neg (by simp [he'])] at HF'
        rw [List.append_nil] at HF'
        have HF2 := hid HF'
        clear HF' HF
        go_wp2
        go_roundw
        case rel => exact ⟨k + 1, by omega, by go_num, by rw [HF2.out]; exact HO.out, HB.out⟩
        case measure => simp [intOf]; omega
    · have e : k = len := by omega
      subst e
      clear hown hbel
      have ht : zs.take k = zs := List.take_of_length_le (by rw [HL.out]; omega)
      rw [ht] at HO
      clear ht
      go_wp2
      go_ret
      exact ⟨_, rfl, HO.out, HB.out⟩
end Go.Proofs.Ytiiigdcfnnjkcaa.own
