/- slices.SortStableFunc of the program over sets: rotate and symMerge; conditions: the row's own block. -/
import Derived.Test.YtbahjpheaaiamaaDoorPart34
namespace Go.Proofs.YtbahjpheaaiamaaDoor.symSets
open Go.RowKit Go.Deep Go base sets solSets solOps cmpInt drawnMk heldStore drawn drawnLin drawnSrc sortSets
set_option linter.unusedVariables false
set_option linter.unusedSimpArgs false
variable {Z : LS → Prop} {b N off len : Nat} {f0 : Nat → Value} {w0 w : World}

set_option maxHeartbeats 6400000 in
set_option maxRecDepth 8000 in
theorem rot_impl (cap x m y : Nat) (hs : Stt Z b N off len f0 w0 w) (hl : len ≤ 9000000000000) (hx : x < m) (hy : m < y) (hyl : y ≤ len) (cmp : Value) :
    Calls Tryd.prog 87 #[.slice (some ⟨b, off, none⟩) len cap, .int .i64 x, .int .i64 m, .int .i64 y, cmp] w (sortSets.Left Z b N off len f0 w0) := by
  have HS := hid hs
  clear hs
  have HSw := hid (fun (W : World) (x y k : Nat) (h : Stt Z b N off len f0 w0 W) => swap_impl (w := W) cap x y k cmp h hl)
  obtain ⟨i, hi⟩ : ∃ i : Nat, (m : Int) - x = i := ⟨m - x, by omega⟩
  obtain ⟨j, hj⟩ : ∃ j : Nat, (y : Int) - m = j := ⟨y - m, by omega⟩
  go_enter Tryd.func87, Tryd.ntmps87
  go_wp2_with fail
  go_loopw [10, 11] (fun u v wr => ∃ p q : Nat, 0 < p ∧ 0 < q ∧ p ≤ i ∧ q ≤ j ∧ u = .int .i64 p ∧ v = .int .i64 q ∧ Stt Z b N off len f0 w0 wr) (fun u v _ => (intOf u).toNat + (intOf v).toNat)
  case atStart => exact ⟨i, j, by omega, by omega, Nat.le_refl _, Nat.le_refl _, by first | rfl | go_num, by first | rfl | go_num, HS.out⟩
  case round =>
    obtain ⟨p, q, hp, hq, hpi, hqj, rfl, rfl, hsr⟩ := hrel
    have HR := hid hsr
    clear hsr
    obtain ⟨u, hu⟩ : ∃ u : Nat, (m : Int) - p = u := ⟨m - p, by omega⟩
    by_cases hpq : p = q
    · have HQ := hid hpq
      have e1 : (p : Int) = (q : Int) := by omega
      subst hpq
      go_wp2_with fail
      refine (HSw.out _ u m p HR.out (by omega) (by omega) (by omega)).mono ?_
      rintro e w1 ⟨rfl, hs1⟩
      have HN := hid hs1
      clear hs1
      go_wp2
      go_end0
      exact ⟨rfl, HN.out⟩
    · have e1 : ¬ (p : Int) = (q : Int) := by omega
      by_cases hgt : q < p
      · have e2 : (q : Int) < p := by omega
        go_wp2_with fail
        refine (HSw.out _ u m q HR.out (by omega) (by omega) (by omega)).mono ?_
        rintro e w1 ⟨rfl, hs1⟩
        have HN := hid hs1
        clear hs1
        go_wp2
        go_round
        case rel => exact ⟨p - q, q, by omega, hq, by omega, hqj, by first | rfl | go_num, by first | rfl | go_num, HN.out⟩
        case measure => simp [intOf]; omega
      · have e2 : ¬ (q : Int) < p := by omega
        obtain ⟨v, hv⟩ : ∃ v : Nat, (m : Int) + q - p = v := ⟨m + q - p, by omega⟩
        go_wp2_with fail
        refine (HSw.out _ u v p HR.out (by omega) (by omega) (by omega)).mono ?_
        rintro e w1 ⟨rfl, hs1⟩
        have HN := hid hs1
        clear hs1
        go_wp2
        go_round
        case rel => exact ⟨p, q - p, hp, by omega, hpi, by omega, by first | rfl | go_num, by first | rfl | go_num, HN.out⟩
        case measure => simp [intOf]; omega
set_option maxHeartbeats 25600000 in
set_option maxRecDepth 8000 in
theorem sym_impl (cap : Nat) (hl : len ≤ 9000000000000) : ∀ (d x m y : Nat) (w : World), y - x ≤ d → x < m → m < y → y ≤ len → Stt Z b N off len f0 w0 w →
    Calls Tryd.prog 86 #[.slice (some ⟨b, off, none⟩) len cap, .int .i64 x, .int .i64 m, .int .i64 y, .func (.func 77) #[] #[]] w (sortSets.Left Z b N off len f0 w0) := by
  intro d
  induction d with
  | zero => intro x m y w h1 h2 h3; omega
  | succ d ih =>
    intro x m y w hd hx hy hyl hs
    have HIh := hid ih
    have HS := hid hs
    have HL := hid less_num
    have HRo := hid (fun (W : World) (x m y : Nat) (h : Stt Z b N off len f0 w0 W) (h1 : x < m) (h2 : m < y) (h3 : y ≤ len) => rot_impl (w := W) cap x m y h hl h1 h2 h3 (.func (.func 77) #[] #[]))
    clear hs ih
    by_cases hA : m - x = 1
    · have e1 : (m : Int) - x = 1 := by omega
      go_enter Tryd.func86, Tryd.ntmps86
      go_wp2_with fail
      go_loopw [10, 11] (fun u v wr => ∃ p q : Nat, m ≤ p ∧ p ≤ q ∧ q ≤ y ∧ u = .int .i64 p ∧ v = .int .i64 q ∧ Stt Z b N off len f0 w0 wr) (fun u v _ => (intOf v).toNat - (intOf u).toNat)
      case atStart => exact ⟨m, y, Nat.le_refl _, by omega, Nat.le_refl _, rfl, rfl, HS.out⟩
      case round =>
        obtain ⟨p, q, hp, hpq, hq, rfl, rfl, hsr⟩ := hrel
        have HR := hid hsr
        clear hsr
        by_cases hlt : p < q
        · obtain ⟨h, hh⟩ : ∃ h : Nat, ((p : Int) + q) / 2 = h := ⟨(p + q) / 2, by omega⟩
          have hph : p ≤ h ∧ h < q := by omega
          have i0 : (h : Int) < len := by omega
          have i1 : (x : Int) < len := by omega
          go_wp2_with fail
          refine region_calm (fun uu => ⟨#[.slice (some ⟨b, off, none⟩) len cap, .int .i64 ↑x, .int .i64 ↑m, .int .i64 ↑y, .func (.func 77) #[] #[], undef, undef, undef, undef, undef, .int .i64 ↑p, .int .i64 ↑q, .int .i64 ↑h, undef, undef, undef, undef, undef, undef, undef, undef, undef, undef, undef, undef, .int .i64 ↑m, .int .i64 ↑x, .int .i64 1, .bool true, .int .i64 ↑m, .int .i64 ↑y, .int .i64 ↑p, .int .i64 ↑q, .bool true, .int .i64 ↑p, .int .i64 ↑q, .int .i64 (↑p + ↑q), .int IntKind.u64 (↑p + ↑q), .int IntKind.u64 ↑h, .int .i64 ↑h, uu 40, uu 41, uu 42, uu 43, uu 44, uu 45, uu 46, uu 47, uu 48, uu 49, uu 50, u51, u52, u53, undef, undef, undef, undef, undef, undef, undef, undef, undef, undef, undef, undef, undef, undef, undef, undef, undef, undef, undef, undef, undef, undef, undef, undef, undef, undef, undef, undef, undef, undef, undef, undef, undef, undef, undef, undef, undef, undef, undef, undef, undef, undef, undef, undef, undef, undef, undef, undef, undef, undef, undef, undef, undef, undef, undef, undef, undef, undef, undef, undef, undef, undef, undef, undef, undef, undef, undef, undef, undef, undef, undef, undef, undef, undef, undef, undef, undef, undef, undef, undef, undef, undef, undef, undef, undef, undef, undef, undef, undef, undef, undef, undef, undef, undef, undef, undef, undef, undef, undef, undef, undef, undef, undef, undef, undef, undef, undef, undef, undef, undef, undef, undef, undef, undef, undef, undef, undef, undef, undef, undef, undef, undef, undef, undef, undef, undef, undef, undef, undef, undef, undef, undef, undef, undef, undef, undef, undef, undef, undef, undef, undef, undef, undef, undef, undef, undef, undef, undef, undef, undef, undef, undef, undef, undef, undef, undef, undef, undef, undef, undef, undef, undef, undef, undef, undef, undef], []⟩) (fun i => [40, 41, 42, 43, 44, 45, 46, 47, 48, 49, 50].getD i 0) (fun i v w8 => match i with | 0 => v = .func (.func 77) #[] #[] | 1 => v = .slice (some ⟨b, off, none⟩) len cap | 2 => v = .int .i64 h | 3 => v = .pointer (some ⟨b, off + h * 2, none⟩) | 4 => ∃ c9 : LS, Z c9 ∧ v = .agg #[.int .u64 c9.1, .int .u64 c9.2] | 5 => v = .slice (some ⟨b, off, none⟩) len cap | 6 => v = .int .i64 x | 7 => v = .pointer (some ⟨b, off + x * 2, none⟩) | 8 => ∃ c9 : LS, Z c9 ∧ v = .agg #[.int .u64 c9.1, .int .u64 c9.2] | 9 => ∃ r : Int, v = .int .i64 r | 10 => ∃ tb : Bool, v = .bool tb | _ => True) wr 11 (fun k => match k with | 40 => u40 | 41 => u41 | 42 => u42 | 43 => u43 | 44 => u44 | 45 => u45 | 46 => u46 | 47 => u47 | 48 => u48 | 49 => u49 | 50 => u50 | _ => undef) (by rfl) (by kernel_rfl) (by rfl) (by kernel_rfl) (Below.refl _ _) ?hput ?hinj ?stable ?step ?fin
          case hput =>
            intro i hi uu v
            match i, hi with
            | 0, _ => rfl
            | 1, _ => rfl
            | 2, _ => rfl
            | 3, _ => rfl
            | 4, _ => rfl
            | 5, _ => rfl
            | 6, _ => rfl
            | 7, _ => rfl
            | 8, _ => rfl
            | 9, _ => rfl
            | 10, _ => rfl
            | i + 11, hi => exact absurd hi (by omega)
          case hinj =>
            intro i j hi hj h
            exact slots_inj [40, 41, 42, 43, 44, 45, 46, 47, 48, 49, 50] (by decide) hi hj h
          case stable =>
            intro i v w8 w9 hb h
            match i, hb, h with
            | 0, hb, h => exact h
            | 1, hb, h => exact h
            | 2, hb, h => exact h
            | 3, hb, h => exact h
            | 4, hb, h => exact h
            | 5, hb, h => exact h
            | 6, hb, h => exact h
            | 7, hb, h => exact h
            | 8, hb, h => exact h
            | 9, hb, h => exact h
            | 10, hb, h => exact h
            | _ + 11, hb, h => trivial
          case step =>
            intro i hi uu w8 S8 hdep
            match i, hi, hdep with
            | 0, _, hdep =>
              clear hdep
              refine ⟨_, rfl, fun K' hK => ?_⟩
              go_simp
              exact hK.out _ _ (Below.refl _ _) rfl
            | 1, _, hdep =>
              clear hdep
              refine ⟨_, rfl, fun K' hK => ?_⟩
              go_simp
              exact hK.out _ _ (Below.refl _ _) rfl
            | 2, _, hdep =>
              clear hdep
              refine ⟨_, rfl, fun K' hK => ?_⟩
              go_simp
              exact hK.out _ _ (Below.refl _ _) rfl
            | 3, _, hdep =>
              have h1 : (uu 41) = .slice (some ⟨b, off, none⟩) len cap := hdep 1 (by kernel_rfl)
              have h2 : (uu 42) = .int .i64 h := hdep 2 (by kernel_rfl)
              clear hdep
              refine ⟨_, rfl, fun K' hK => ?_⟩
              have i8 := i0
              simp only [h1, h2] at hK ⊢
              go_simp
              exact hK.out _ _ (Below.refl _ _) rfl
            | 4, _, hdep =>
              have h3 : (uu 43) = .pointer (some ⟨b, off + h * 2, none⟩) := hdep 3 (by kernel_rfl)
              clear hdep
              refine ⟨_, rfl, fun K' hK => ?_⟩
              obtain ⟨c9, hc9, y0, y1⟩ := (HR.out.below S8).at (i := h) (by omega)
              simp only [h3] at hK ⊢
              go_simp
              exact hK.out _ _ (Below.refl _ _) ⟨c9, hc9, rfl⟩
            | 5, _, hdep =>
              clear hdep
              refine ⟨_, rfl, fun K' hK => ?_⟩
              go_simp
              exact hK.out _ _ (Below.refl _ _) rfl
            | 6, _, hdep =>
              clear hdep
              refine ⟨_, rfl, fun K' hK => ?_⟩
              go_simp
              exact hK.out _ _ (Below.refl _ _) rfl
            | 7, _, hdep =>
              have h5 : (uu 45) = .slice (some ⟨b, off, none⟩) len cap := hdep 5 (by kernel_rfl)
              have h6 : (uu 46) = .int .i64 x := hdep 6 (by kernel_rfl)
              clear hdep
              refine ⟨_, rfl, fun K' hK => ?_⟩
              have i8 := i1
              simp only [h5, h6] at hK ⊢
              go_simp
              exact hK.out _ _ (Below.refl _ _) rfl
            | 8, _, hdep =>
              have h7 : (uu 47) = .pointer (some ⟨b, off + x * 2, none⟩) := hdep 7 (by kernel_rfl)
              clear hdep
              refine ⟨_, rfl, fun K' hK => ?_⟩
              obtain ⟨c9, hc9, y0, y1⟩ := (HR.out.below S8).at (i := x) (by omega)
              simp only [h7] at hK ⊢
              go_simp
              exact hK.out _ _ (Below.refl _ _) ⟨c9, hc9, rfl⟩
            | 9, _, hdep =>
              have h0 : (uu 40) = .func (.func 77) #[] #[] := hdep 0 (by kernel_rfl)
              have h4 : ∃ c9 : LS, Z c9 ∧ (uu 44) = .agg #[.int .u64 c9.1, .int .u64 c9.2] := hdep 4 (by kernel_rfl)
              have h8 : ∃ c9 : LS, Z c9 ∧ (uu 48) = .agg #[.int .u64 c9.1, .int .u64 c9.2] := hdep 8 (by kernel_rfl)
              clear hdep
              refine ⟨_, rfl, fun K' hK => ?_⟩
              obtain ⟨c9, hc9, h4⟩ := h4
              obtain ⟨d9, hd9, h8⟩ := h8
              simp only [h0, h4, h8] at hK ⊢
              go_simp
              refine (HL.out _ _ _ _ _).mono ?_
              rintro e w9 ⟨⟨r, rfl⟩, hb9⟩
              exact hK.out _ _ hb9 ⟨r, rfl⟩
            | 10, _, hdep =>
              have h9 : ∃ r : Int, (uu 49) = .int .i64 r := hdep 9 (by kernel_rfl)
              clear hdep
              refine ⟨_, rfl, fun K' hK => ?_⟩
              obtain ⟨r9, h9⟩ := h9
              simp only [h9] at hK ⊢
              go_simp
              exact hK.out _ _ (Below.refl _ _) ⟨_, rfl⟩
            | i + 11, hi, _ => exact absurd hi (by omega)
          case fin =>
            intro uu wf S8 hall
            have h10 : ∃ tb : Bool, (uu 50) = .bool tb := hall 10 (by decide)
            clear hall
            obtain ⟨tb, h10⟩ := h10
            have HW := hid (HR.out.below S8)
            clear S8
            rw [h10]
            clear h10
            cases tb with
            | true =>
              go_wp2
              go_round
              case rel => exact ⟨h + 1, q, by omega, by omega, hq, by first | rfl | go_num, rfl, HW.out⟩
              case measure => simp [intOf]; omega
            | false =>
              go_wp2
              go_round
              case rel => exact ⟨p, h, hp, by omega, by omega, rfl, by first | rfl | go_num, HW.out⟩
              case measure => simp [intOf]; omega
        · have e2 : ¬ (p : Int) < q := by omega
          go_wp2_with fail
          go_loopw [13] (fun u wr => ∃ k : Nat, x ≤ k ∧ u = .int .i64 k ∧ Stt Z b N off len f0 w0 wr) (fun u _ => p - (intOf u).toNat)
          case atStart => exact ⟨x, Nat.le_refl _, rfl, HR.out⟩
          case round =>
            obtain ⟨k, hk, rfl, hsk⟩ := hrel
            have HK := hid hsk
            clear hsk
            by_cases hkp : k + 1 < p
            · have e3 : (k : Int) < (p : Int) - 1 := by omega
              have i0 : (k : Int) < len := by omega
              have i1 : (k : Int) + 1 < len := by omega
              obtain ⟨c, hc, c0, c1⟩ := HK.out.at (i := k) (by omega)
              obtain ⟨d, hd, d0, d1⟩ := HK.out.at (i := k + 1) (by omega)
              have z0 := HK.out.frozen (off + (k) * 2)
              have z1 := HK.out.frozen (off + (k) * 2 + 1)
              have z2 := HK.out.frozen (off + (k + 1) * 2)
              have z3 := HK.out.frozen (off + (k + 1) * 2 + 1)
              have n0 : ¬ off + (k + 1) * 2 = off + (k) * 2 := by omega
              have n1 : ¬ off + (k + 1) * 2 = off + (k) * 2 + 1 := by omega
              have n2 : ¬ off + (k + 1) * 2 + 1 = off + (k) * 2 := by omega
              have n3 : ¬ off + (k + 1) * 2 + 1 = off + (k) * 2 + 1 := by omega
              have n4 : ¬ off + (k) * 2 = off + (k + 1) * 2 := by omega
              have n5 : ¬ off + (k) * 2 = off + (k + 1) * 2 + 1 := by omega
              have n6 : ¬ off + (k) * 2 + 1 = off + (k + 1) * 2 := by omega
              have n7 : ¬ off + (k) * 2 + 1 = off + (k + 1) * 2 + 1 := by omega
              go_wp2_with fail
              go_region
              have HN := hid (((HK.out.put (i := k) (by omega) hd).put (i := k + 1) (by omega) hc).drew)
              generalize (((((wr.setCell ⟨b, off + (k) * 2, none⟩ (.int .u64 d.1)).setCell ⟨b, off + (k) * 2 + 1, none⟩ (.int .u64 d.2)).setCell ⟨b, off + (k + 1) * 2, none⟩ (.int .u64 c.1)).setCell ⟨b, off + (k + 1) * 2 + 1, none⟩ (.int .u64 c.2)).drew) = wn at *
              clear c0 c1 d0 d1 z0 z1 z2 z3
              go_wp2
              go_round
              case rel => exact ⟨k + 1, by omega, by go_num, HN.out⟩
              case measure => simp [intOf]; omega
            · have e3 : ¬ (k : Int) < (p : Int) - 1 := by omega
              go_wp2
              go_end0
              exact ⟨rfl, HK.out⟩
    · by_cases hB : y - m = 1
      · have e1 : ¬ (m : Int) - x = 1 := by omega
        have e1b : ((m : Int) - x == 1) = false := by simp; omega
        have e0 : (y : Int) - m = 1 := by omega
        go_enter Tryd.func86, Tryd.ntmps86
        go_wp2_with fail
        go_loopw [14, 15] (fun u v wr => ∃ p q : Nat, x ≤ p ∧ p ≤ q ∧ q ≤ m ∧ u = .int .i64 p ∧ v = .int .i64 q ∧ Stt Z b N off len f0 w0 wr) (fun u v _ => (intOf v).toNat - (intOf u).toNat)
        case atStart => exact ⟨x, m, Nat.le_refl _, by omega, Nat.le_refl _, rfl, rfl, HS.out⟩
        case round =>
          obtain ⟨p, q, hp, hpq, hq, rfl, rfl, hsr⟩ := hrel
          have HR := hid hsr
          clear hsr
          by_cases hlt : p < q
          · obtain ⟨h, hh⟩ : ∃ h : Nat, ((p : Int) + q) / 2 = h := ⟨(p + q) / 2, by omega⟩
            have hph : p ≤ h ∧ h < q := by omega
            have i0 : (h : Int) < len := by omega
            have i1 : (m : Int) < len := by omega
            go_wp2_with fail
            refine region_calm (fun uu => ⟨#[.slice (some ⟨b, off, none⟩) len cap, .int .i64 ↑x, .int .i64 ↑m, .int .i64 ↑y, .func (.func 77) #[] #[], undef, undef, undef, undef, undef, undef, undef, undef, undef, .int .i64 ↑p, .int .i64 ↑q, .int .i64 ↑h, undef, undef, undef, undef, undef, undef, undef, undef, .int .i64 ↑m, .int .i64 ↑x, .int .i64 (↑m - ↑x), .bool false, undef, undef, undef, undef, undef, undef, undef, undef, undef, undef, undef, undef, undef, undef, undef, undef, undef, undef, undef, undef, undef, undef, undef, undef, undef, undef, undef, undef, undef, undef, undef, undef, undef, undef, undef, undef, undef, undef, undef, undef, undef, undef, undef, undef, undef, undef, undef, undef, .int .i64 ↑y, .int .i64 ↑m, .int .i64 1, .bool true, .int .i64 ↑x, .int .i64 ↑m, .int .i64 ↑p, .int .i64 ↑q, .bool true, .int .i64 ↑p, .int .i64 ↑q, .int .i64 (↑p + ↑q), .int IntKind.u64 (↑p + ↑q), .int IntKind.u64 ↑h, .int .i64 ↑h, uu 92, uu 93, uu 94, uu 95, uu 96, uu 97, uu 98, uu 99, uu 100, uu 101, uu 102, uu 103, u104, u105, u106, undef, undef, undef, undef, undef, undef, undef, undef, undef, undef, undef, undef, undef, undef, undef, undef, undef, undef, undef, undef, undef, undef, undef, undef, undef, undef, undef, undef, undef, undef, undef, undef, undef, undef, undef, undef, undef, undef, undef, undef, undef, undef, undef, undef, undef, undef, undef, undef, undef, undef, undef, undef, undef, undef, undef, undef, undef, undef, undef, undef, undef, undef, undef, undef, undef, undef, undef, undef, undef, undef, undef, undef, undef, undef, undef, undef, undef, undef, undef, undef, undef, undef, undef, undef, undef, undef, undef, undef, undef, undef, undef, undef, undef, undef, undef, undef, undef, undef, undef, undef, undef, undef, undef, undef, undef, undef, undef, undef, undef, undef, undef, undef, undef], []⟩) (fun i => [92, 93, 94, 95, 96, 97, 98, 99, 100, 101, 102, 103].getD i 0) (fun i v w8 => match i with | 0 => v = .func (.func 77) #[] #[] | 1 => v = .slice (some ⟨b, off, none⟩) len cap | 2 => v = .int .i64 m | 3 => v = .pointer (some ⟨b, off + m * 2, none⟩) | 4 => ∃ c9 : LS, Z c9 ∧ v = .agg #[.int .u64 c9.1, .int .u64 c9.2] | 5 => v = .slice (some ⟨b, off, none⟩) len cap | 6 => v = .int .i64 h | 7 => v = .pointer (some ⟨b, off + h * 2, none⟩) | 8 => ∃ c9 : LS, Z c9 ∧ v = .agg #[.int .u64 c9.1, .int .u64 c9.2] | 9 => ∃ r : Int, v = .int .i64 r | 10 => ∃ tb : Bool, v = .bool tb | 11 => ∃ tb : Bool, v = .bool tb | _ => True) wr 12 (fun k => match k with | 92 => u92 | 93 => u93 | 94 => u94 | 95 => u95 | 96 => u96 | 97 => u97 | 98 => u98 | 99 => u99 | 100 => u100 | 101 => u101 | 102 => u102 | 103 => u103 | _ => undef) (by rfl) (by kernel_rfl) (by rfl) (by kernel_rfl) (Below.refl _ _) ?hput ?hinj ?stable ?step ?fin
            case hput =>
              intro i hi uu v
              match i, hi with
              | 0, _ => rfl
              | 1, _ => rfl
              | 2, _ => rfl
              | 3, _ => rfl
              | 4, _ => rfl
              | 5, _ => rfl
              | 6, _ => rfl
              | 7, _ => rfl
              | 8, _ => rfl
              | 9, _ => rfl
              | 10, _ => rfl
              | 11, _ => rfl
              | i + 12, hi => exact absurd hi (by omega)
            case hinj =>
              intro i j hi hj h
              exact slots_inj [92, 93, 94, 95, 96, 97, 98, 99, 100, 101, 102, 103] (by decide) hi hj h
            case stable =>
              intro i v w8 w9 hb h
              match i, hb, h with
              | 0, hb, h => exact h
              | 1, hb, h => exact h
              | 2, hb, h => exact h
              | 3, hb, h => exact h
              | 4, hb, h => exact h
              | 5, hb, h => exact h
              | 6, hb, h => exact h
              | 7, hb, h => exact h
              | 8, hb, h => exact h
              | 9, hb, h => exact h
              | 10, hb, h => exact h
              | 11, hb, h => exact h
              | _ + 12, hb, h => trivial
            case step =>
              intro i hi uu w8 S8 hdep
              match i, hi, hdep with
              | 0, _, hdep =>
                clear hdep
                refine ⟨_, rfl, fun K' hK => ?_⟩
                go_simp
                exact hK.out _ _ (Below.refl _ _) rfl
              | 1, _, hdep =>
                clear hdep
                refine ⟨_, rfl, fun K' hK => ?_⟩
                go_simp
                exact hK.out _ _ (Below.refl _ _) rfl
              | 2, _, hdep =>
                clear hdep
                refine ⟨_, rfl, fun K' hK => ?_⟩
                go_simp
                exact hK.out _ _ (Below.refl _ _) rfl
              | 3, _, hdep =>
                have h1 : (uu 93) = .slice (some ⟨b, off, none⟩) len cap := hdep 1 (by kernel_rfl)
                have h2 : (uu 94) = .int .i64 m := hdep 2 (by kernel_rfl)
                clear hdep
                refine ⟨_, rfl, fun K' hK => ?_⟩
                have i8 := i1
                simp only [h1, h2] at hK ⊢
                go_simp
                exact hK.out _ _ (Below.refl _ _) rfl
              | 4, _, hdep =>
                have h3 : (uu 95) = .pointer (some ⟨b, off + m * 2, none⟩) := hdep 3 (by kernel_rfl)
                clear hdep
                refine ⟨_, rfl, fun K' hK => ?_⟩
                obtain ⟨c9, hc9, y0, y1⟩ := (HR.out.below S8).at (i := m) (by omega)
                simp only [h3] at hK ⊢
                go_simp
                exact hK.out _ _ (Below.refl _ _) ⟨c9, hc9, rfl⟩
              | 5, _, hdep =>
                clear hdep
                refine ⟨_, rfl, fun K' hK => ?_⟩
                go_simp
                exact hK.out _ _ (Below.refl _ _) rfl
              | 6, _, hdep =>
                clear hdep
                refine ⟨_, rfl, fun K' hK => ?_⟩
                go_simp
                exact hK.out _ _ (Below.refl _ _) rfl
              | 7, _, hdep =>
                have h5 : (uu 97) = .slice (some ⟨b, off, none⟩) len cap := hdep 5 (by kernel_rfl)
                have h6 : (uu 98) = .int .i64 h := hdep 6 (by kernel_rfl)
                clear hdep
                refine ⟨_, rfl, fun K' hK => ?_⟩
                have i8 := i0
                simp only [h5, h6] at hK ⊢
                go_simp
                exact hK.out _ _ (Below.refl _ _) rfl
              | 8, _, hdep =>
                have h7 : (uu 99) = .pointer (some ⟨b, off + h * 2, none⟩) := hdep 7 (by kernel_rfl)
                clear hdep
                refine ⟨_, rfl, fun K' hK => ?_⟩
                obtain ⟨c9, hc9, y0, y1⟩ := (HR.out.below S8).at (i := h) (by omega)
                simp only [h7] at hK ⊢
                go_simp
                exact hK.out _ _ (Below.refl _ _) ⟨c9, hc9, rfl⟩
              | 9, _, hdep =>
                have h0 : (uu 92) = .func (.func 77) #[] #[] := hdep 0 (by kernel_rfl)
                have h4 : ∃ c9 : LS, Z c9 ∧ (uu 96) = .agg #[.int .u64 c9.1, .int .u64 c9.2] := hdep 4 (by kernel_rfl)
                have h8 : ∃ c9 : LS, Z c9 ∧ (uu 100) = .agg #[.int .u64 c9.1, .int .u64 c9.2] := hdep 8 (by kernel_rfl)
                clear hdep
                refine ⟨_, rfl, fun K' hK => ?_⟩
                obtain ⟨c9, hc9, h4⟩ := h4
                obtain ⟨d9, hd9, h8⟩ := h8
                simp only [h0, h4, h8] at hK ⊢
                go_simp
                refine (HL.out _ _ _ _ _).mono ?_
                rintro e w9 ⟨⟨r, rfl⟩, hb9⟩
                exact hK.out _ _ hb9 ⟨r, rfl⟩
              | 10, _, hdep =>
                have h9 : ∃ r : Int, (uu 101) = .int .i64 r := hdep 9 (by kernel_rfl)
                clear hdep
                refine ⟨_, rfl, fun K' hK => ?_⟩
                obtain ⟨r9, h9⟩ := h9
                simp only [h9] at hK ⊢
                go_simp
                exact hK.out _ _ (Below.refl _ _) ⟨_, rfl⟩
              | 11, _, hdep =>
                have h10 : ∃ tb : Bool, (uu 102) = .bool tb := hdep 10 (by kernel_rfl)
                clear hdep
                refine ⟨_, rfl, fun K' hK => ?_⟩
                obtain ⟨tb9, h10⟩ := h10
                simp only [h10] at hK ⊢
                go_simp
                exact hK.out _ _ (Below.refl _ _) ⟨_, rfl⟩
              | i + 12, hi, _ => exact absurd hi (by omega)
            case fin =>
              intro uu wf S8 hall
              have h11 : ∃ tb : Bool, (uu 103) = .bool tb := hall 11 (by decide)
              clear hall
              obtain ⟨tb, h11⟩ := h11
              have HW := hid (HR.out.below S8)
              clear S8
              rw [h11]
              clear h11
              cases tb with
              | true =>
                go_wp2
                go_round
                case rel => exact ⟨h + 1, q, by omega, by omega, hq, by first | rfl | go_num, rfl, HW.out⟩
                case measure => simp [intOf]; omega
              | false =>
                go_wp2
                go_round
                case rel => exact ⟨p, h, hp, by omega, by omega, rfl, by first | rfl | go_num, HW.out⟩
                case measure => simp [intOf]; omega
          · have e2 : ¬ (p : Int) < q := by omega
            go_wp2_with fail
            go_loopw [17] (fun u wr => ∃ k : Nat, k ≤ m ∧ u = .int .i64 k ∧ Stt Z b N off len f0 w0 wr) (fun u _ => (intOf u).toNat)
            case atStart => exact ⟨m, Nat.le_refl _, rfl, HR.out⟩
            case round =>
              obtain ⟨k, hk, rfl, hsk⟩ := hrel
              have HK := hid hsk
              clear hsk
              by_cases hkp : p < k
              · have e3 : (p : Int) < (k : Int) := by omega
                obtain ⟨k1, hk1⟩ : ∃ k1 : Nat, (k : Int) - 1 = k1 := ⟨k - 1, by omega⟩
                have i0 : (k : Int) < len := by omega
                have i1 : (k1 : Int) < len := by omega
                obtain ⟨c, hc, c0, c1⟩ := HK.out.at (i := k) (by omega)
                obtain ⟨d, hd, d0, d1⟩ := HK.out.at (i := k1) (by omega)
                have z0 := HK.out.frozen (off + (k) * 2)
                have z1 := HK.out.frozen (off + (k) * 2 + 1)
                have z2 := HK.out.frozen (off + (k1) * 2)
                have z3 := HK.out.frozen (off + (k1) * 2 + 1)
                have n0 : ¬ off + (k1) * 2 = off + (k) * 2 := by omega
                have n1 : ¬ off + (k1) * 2 = off + (k) * 2 + 1 := by omega
                have n2 : ¬ off + (k1) * 2 + 1 = off + (k) * 2 := by omega
                have n3 : ¬ off + (k1) * 2 + 1 = off + (k) * 2 + 1 := by omega
                have n4 : ¬ off + (k) * 2 = off + (k1) * 2 := by omega
                have n5 : ¬ off + (k) * 2 = off + (k1) * 2 + 1 := by omega
                have n6 : ¬ off + (k) * 2 + 1 = off + (k1) * 2 := by omega
                have n7 : ¬ off + (k) * 2 + 1 = off + (k1) * 2 + 1 := by omega
                go_wp2_with fail
                go_region
                have HN := hid (((HK.out.put (i := k) (by omega) hd).put (i := k1) (by omega) hc).drew)
                generalize (((((wr.setCell ⟨b, off + (k) * 2, none⟩ (.int .u64 d.1)).setCell ⟨b, off + (k) * 2 + 1, none⟩ (.int .u64 d.2)).setCell ⟨b, off + (k1) * 2, none⟩ (.int .u64 c.1)).setCell ⟨b, off + (k1) * 2 + 1, none⟩ (.int .u64 c.2)).drew) = wn at *
                clear c0 c1 d0 d1 z0 z1 z2 z3
                go_wp2
                go_round
                case rel => exact ⟨k1, by omega, by first | rfl | go_num, HN.out⟩
                case measure => simp [intOf]; omega
              · have e3 : ¬ (p : Int) < (k : Int) := by omega
                go_wp2
                go_end0
                exact ⟨rfl, HK.out⟩
      · have e1 : ¬ (m : Int) - x = 1 := by omega
        have e1b : ((m : Int) - x == 1) = false := by simp; omega
        have e0b : ((y : Int) - m == 1) = false := by simp; omega
        have e0 : ¬ (y : Int) - m = 1 := by omega
        obtain ⟨mid, hmid⟩ : ∃ mid : Nat, ((x : Int) + y) / 2 = mid := ⟨(x + y) / 2, by omega⟩
        obtain ⟨nn, hnn⟩ : ∃ nn : Nat, (mid : Int) + m = nn := ⟨mid + m, by omega⟩
        obtain ⟨pp, hpp⟩ : ∃ pp : Nat, (nn : Int) - 1 = pp := ⟨nn - 1, by omega⟩
        by_cases hfar : mid < m
        · have e2 : (mid : Int) < (m : Int) := by omega
          obtain ⟨st, hst⟩ : ∃ st : Nat, (nn : Int) - y = st := ⟨nn - y, by omega⟩
          go_enter Tryd.func86, Tryd.ntmps86
          go_wp2_with fail
          go_loopw [20, 21] (fun u v wr => ∃ p q : Nat, st ≤ p ∧ p ≤ q ∧ q ≤ mid ∧ u = .int .i64 p ∧ v = .int .i64 q ∧ Stt Z b N off len f0 w0 wr) (fun u v _ => (intOf v).toNat - (intOf u).toNat)
          case atStart => exact ⟨st, mid, Nat.le_refl _, by omega, Nat.le_refl _, rfl, rfl, HS.out⟩
          case round =>
            obtain ⟨p, q, hp, hpq, hq, rfl, rfl, hsr⟩ := hrel
            have HR := hid hsr
            clear hsr
            by_cases hlt : p < q
            · obtain ⟨h, hh⟩ : ∃ h : Nat, ((p : Int) + q) / 2 = h := ⟨(p + q) / 2, by omega⟩
              have hph : p ≤ h ∧ h < q := by omega
              obtain ⟨g, hg⟩ : ∃ g : Nat, (pp : Int) - h = g := ⟨pp - h, by omega⟩
              have i0 : (h : Int) < len := by omega
              have i1 : (g : Int) < len := by omega
              go_wp2_with fail
              refine region_calm (fun uu => ⟨#[.slice (some ⟨b, off, none⟩) len cap, .int .i64 ↑x, .int .i64 ↑m, .int .i64 ↑y, .func (.func 77) #[] #[], undef, undef, undef, undef, undef, undef, undef, undef, undef, undef, undef, undef, undef, .int .i64 ↑mid, .int .i64 ↑nn, .int .i64 ↑p, .int .i64 ↑q, .int .i64 ↑pp, .int .i64 ↑h, undef, .int .i64 ↑m, .int .i64 ↑x, .int .i64 (↑m - ↑x), .bool false, undef, undef, undef, undef, undef, undef, undef, undef, undef, undef, undef, undef, undef, undef, undef, undef, undef, undef, undef, undef, undef, undef, undef, undef, undef, undef, undef, undef, undef, undef, undef, undef, undef, undef, undef, undef, undef, undef, undef, undef, undef, undef, undef, undef, undef, undef, undef, undef, .int .i64 ↑y, .int .i64 ↑m, .int .i64 (↑y - ↑m), .bool false, undef, undef, undef, undef, undef, undef, undef, undef, undef, undef, undef, undef, undef, undef, undef, undef, undef, undef, undef, undef, undef, undef, undef, undef, undef, undef, undef, undef, undef, undef, undef, undef, undef, undef, undef, undef, undef, undef, undef, undef, undef, undef, undef, undef, undef, undef, undef, undef, .int .i64 ↑x, .int .i64 ↑y, .int .i64 (↑x + ↑y), .int IntKind.u64 (↑x + ↑y), .int IntKind.u64 ↑mid, .int .i64 ↑mid, .int .i64 ↑mid, .int .i64 ↑m, .int .i64 ↑nn, .int .i64 ↑m, .int .i64 ↑mid, .bool true, .int .i64 ↑nn, .int .i64 ↑y, .int .i64 ↑st, .int .i64 ↑mid, undef, undef, .int .i64 ↑nn, .int .i64 ↑pp, .int .i64 ↑p, .int .i64 ↑q, .bool true, .int .i64 ↑p, .int .i64 ↑q, .int .i64 (↑p + ↑q), .int IntKind.u64 (↑p + ↑q), .int IntKind.u64 ↑h, .int .i64 ↑h, uu 158, uu 159, uu 160, uu 161, uu 162, uu 163, uu 164, uu 165, uu 166, uu 167, uu 168, uu 169, uu 170, uu 171, u172, u173, u174, undef, undef, undef, undef, undef, undef, undef, undef, undef, undef, undef, undef, undef, undef, undef, undef, undef, undef, undef, undef, undef, undef, undef, undef, undef, undef, undef, undef, undef, undef, undef, undef, undef, undef, undef, undef, undef, undef, undef, undef, undef, undef, undef, undef, undef], []⟩) (fun i => [158, 159, 160, 161, 162, 163, 164, 165, 166, 167, 168, 169, 170, 171].getD i 0) (fun i v w8 => match i with | 0 => v = .func (.func 77) #[] #[] | 1 => v = .slice (some ⟨b, off, none⟩) len cap | 2 => v = .int .i64 pp | 3 => v = .int .i64 h | 4 => v = .int .i64 g | 5 => v = .pointer (some ⟨b, off + g * 2, none⟩) | 6 => ∃ c9 : LS, Z c9 ∧ v = .agg #[.int .u64 c9.1, .int .u64 c9.2] | 7 => v = .slice (some ⟨b, off, none⟩) len cap | 8 => v = .int .i64 h | 9 => v = .pointer (some ⟨b, off + h * 2, none⟩) | 10 => ∃ c9 : LS, Z c9 ∧ v = .agg #[.int .u64 c9.1, .int .u64 c9.2] | 11 => ∃ r : Int, v = .int .i64 r | 12 => ∃ tb : Bool, v = .bool tb | 13 => ∃ tb : Bool, v = .bool tb | _ => True) wr 14 (fun k => match k with | 158 => u158 | 159 => u159 | 160 => u160 | 161 => u161 | 162 => u162 | 163 => u163 | 164 => u164 | 165 => u165 | 166 => u166 | 167 => u167 | 168 => u168 | 169 => u169 | 170 => u170 | 171 => u171 | _ => undef) (by rfl) (by kernel_rfl) (by rfl) (by kernel_rfl) (Below.refl _ _) ?hput ?hinj ?stable ?step ?fin
              case hput =>
                intro i hi uu v
                match i, hi with
                | 0, _ => rfl
                | 1, _ => rfl
                | 2, _ => rfl
                | 3, _ => rfl
                | 4, _ => rfl
                | 5, _ => rfl
                | 6, _ => rfl
                | 7, _ => rfl
                | 8, _ => rfl
                | 9, _ => rfl
                | 10, _ => rfl
                | 11, _ => rfl
                | 12, _ => rfl
                | 13, _ => rfl
                | i + 14, hi => exact absurd hi (by omega)
              case hinj =>
                intro i j hi hj h
                exact slots_inj [158, 159, 160, 161, 162, 163, 164, 165, 166, 167, 168, 169, 170, 171] (by decide) hi hj h
              case stable =>
                intro i v w8 w9 hb h
                match i, hb, h with
                | 0, hb, h => exact h
                | 1, hb, h => exact h
                | 2, hb, h => exact h
                | 3, hb, h => exact h
                | 4, hb, h => exact h
                | 5, hb, h => exact h
                | 6, hb, h => exact h
                | 7, hb, h => exact h
                | 8, hb, h => exact h
                | 9, hb, h => exact h
                | 10, hb, h => exact h
                | 11, hb, h => exact h
                | 12, hb, h => exact h
                | 13, hb, h => exact h
                | _ + 14, hb, h => trivial
              case step =>
                intro i hi uu w8 S8 hdep
                match i, hi, hdep with
                | 0, _, hdep =>
                  clear hdep
                  refine ⟨_, rfl, fun K' hK => ?_⟩
                  go_simp
                  exact hK.out _ _ (Below.refl _ _) rfl
                | 1, _, hdep =>
                  clear hdep
                  refine ⟨_, rfl, fun K' hK => ?_⟩
                  go_simp
                  exact hK.out _ _ (Below.refl _ _) rfl
                | 2, _, hdep =>
                  clear hdep
                  refine ⟨_, rfl, fun K' hK => ?_⟩
                  go_simp
                  exact hK.out _ _ (Below.refl _ _) rfl
                | 3, _, hdep =>
                  clear hdep
                  refine ⟨_, rfl, fun K' hK => ?_⟩
                  go_simp
                  exact hK.out _ _ (Below.refl _ _) rfl
                | 4, _, hdep =>
                  have h2 : (uu 160) = .int .i64 pp := hdep 2 (by kernel_rfl)
                  have h3 : (uu 161) = .int .i64 h := hdep 3 (by kernel_rfl)
                  clear hdep
                  refine ⟨_, rfl, fun K' hK => ?_⟩
                  have e8 := hg
                  have e7 : IntKind.i64.wrap (g : Int) = g := by rw [IntKind.wrap_i64]; omega
                  simp only [h2, h3] at hK ⊢
                  go_simp
                  exact hK.out _ _ (Below.refl _ _) rfl
                | 5, _, hdep =>
                  have h1 : (uu 159) = .slice (some ⟨b, off, none⟩) len cap := hdep 1 (by kernel_rfl)
                  have h4 : (uu 162) = .int .i64 g := hdep 4 (by kernel_rfl)
                  clear hdep
                  refine ⟨_, rfl, fun K' hK => ?_⟩
                  have i8 := i1
                  simp only [h1, h4] at hK ⊢
                  go_simp
                  exact hK.out _ _ (Below.refl _ _) rfl
                | 6, _, hdep =>
                  have h5 : (uu 163) = .pointer (some ⟨b, off + g * 2, none⟩) := hdep 5 (by kernel_rfl)
                  clear hdep
                  refine ⟨_, rfl, fun K' hK => ?_⟩
                  obtain ⟨c9, hc9, y0, y1⟩ := (HR.out.below S8).at (i := g) (by omega)
                  simp only [h5] at hK ⊢
                  go_simp
                  exact hK.out _ _ (Below.refl _ _) ⟨c9, hc9, rfl⟩
                | 7, _, hdep =>
                  clear hdep
                  refine ⟨_, rfl, fun K' hK => ?_⟩
                  go_simp
                  exact hK.out _ _ (Below.refl _ _) rfl
                | 8, _, hdep =>
                  clear hdep
                  refine ⟨_, rfl, fun K' hK => ?_⟩
                  go_simp
                  exact hK.out _ _ (Below.refl _ _) rfl
                | 9, _, hdep =>
                  have h7 : (uu 165) = .slice (some ⟨b, off, none⟩) len cap := hdep 7 (by kernel_rfl)
                  have h8 : (uu 166) = .int .i64 h := hdep 8 (by kernel_rfl)
                  clear hdep
                  refine ⟨_, rfl, fun K' hK => ?_⟩
                  have i8 := i0
                  simp only [h7, h8] at hK ⊢
                  go_simp
                  exact hK.out _ _ (Below.refl _ _) rfl
                | 10, _, hdep =>
                  have h9 : (uu 167) = .pointer (some ⟨b, off + h * 2, none⟩) := hdep 9 (by kernel_rfl)
                  clear hdep
                  refine ⟨_, rfl, fun K' hK => ?_⟩
                  obtain ⟨c9, hc9, y0, y1⟩ := (HR.out.below S8).at (i := h) (by omega)
                  simp only [h9] at hK ⊢
                  go_simp
                  exact hK.out _ _ (Below.refl _ _) ⟨c9, hc9, rfl⟩
                | 11, _, hdep =>
                  have h0 : (uu 158) = .func (.func 77) #[] #[] := hdep 0 (by kernel_rfl)
                  have h6 : ∃ c9 : LS, Z c9 ∧ (uu 164) = .agg #[.int .u64 c9.1, .int .u64 c9.2] := hdep 6 (by kernel_rfl)
                  have h10 : ∃ c9 : LS, Z c9 ∧ (uu 168) = .agg #[.int .u64 c9.1, .int .u64 c9.2] := hdep 10 (by kernel_rfl)
                  clear hdep
                  refine ⟨_, rfl, fun K' hK => ?_⟩
                  obtain ⟨c9, hc9, h6⟩ := h6
                  obtain ⟨d9, hd9, h10⟩ := h10
                  simp only [h0, h6, h10] at hK ⊢
                  go_simp
                  refine (HL.out _ _ _ _ _).mono ?_
                  rintro e w9 ⟨⟨r, rfl⟩, hb9⟩
                  exact hK.out _ _ hb9 ⟨r, rfl⟩
                | 12, _, hdep =>
                  have h11 : ∃ r : Int, (uu 169) = .int .i64 r := hdep 11 (by kernel_rfl)
                  clear hdep
                  refine ⟨_, rfl, fun K' hK => ?_⟩
                  obtain ⟨r9, h11⟩ := h11
                  simp only [h11] at hK ⊢
                  go_simp
                  exact hK.out _ _ (Below.refl _ _) ⟨_, rfl⟩
                | 13, _, hdep =>
                  have h12 : ∃ tb : Bool, (uu 170) = .bool tb := hdep 12 (by kernel_rfl)
                  clear hdep
                  refine ⟨_, rfl, fun K' hK => ?_⟩
                  obtain ⟨tb9, h12⟩ := h12
                  simp only [h12] at hK ⊢
                  go_simp
                  exact hK.out _ _ (Below.refl _ _) ⟨_, rfl⟩
                | i + 14, hi, _ => exact absurd hi (by omega)
              case fin =>
                intro uu wf S8 hall
                have h13 : ∃ tb : Bool, (uu 171) = .bool tb := hall 13 (by decide)
                clear hall
                obtain ⟨tb, h13⟩ := h13
                have HW := hid (HR.out.below S8)
                clear S8
                rw [h13]
                clear h13
                cases tb with
                | true =>
                  go_wp2
                  go_round
                  case rel => exact ⟨h + 1, q, by omega, by omega, hq, by first | rfl | go_num, rfl, HW.out⟩
                  case measure => simp [intOf]; omega
                | false =>
                  go_wp2
                  go_round
                  case rel => exact ⟨p, h, hp, by omega, by omega, rfl, by first | rfl | go_num, HW.out⟩
                  case measure => simp [intOf]; omega
            · have e3 : ¬ (p : Int) < q := by omega
              obtain ⟨e, he⟩ : ∃ e : Nat, (nn : Int) - p = e := ⟨nn - p, by omega⟩
              by_cases c0a : p < m
              · by_cases c0b : m < e
                · by_cases c1a : x < p
                  · by_cases c1b : p < mid
                    · by_cases c2a : mid < e
                      · by_cases c2b : e < y
                        · have f0t : (p : Int) < (m : Int) := by omega
                          have f0u : (m : Int) < (e : Int) := by omega
                          have f1t : (x : Int) < (p : Int) := by omega
                          have f1u : (p : Int) < (mid : Int) := by omega
                          have f2t : (mid : Int) < (e : Int) := by omega
                          have f2u : (e : Int) < (y : Int) := by omega
                          go_wp2_with fail
                          refine (HRo.out _ p m e HR.out (by omega) (by omega) (by omega)).mono ?_
                          rintro e9 w1 ⟨rfl, hs1⟩
                          have HT1 := hid hs1
                          clear hs1
                          go_wp2_with fail
                          refine (HIh.out x p mid _ (by omega) (by omega) (by omega) (by omega) HT1.out).mono ?_
                          rintro e9 w2 ⟨rfl, hs2⟩
                          have HT2 := hid hs2
                          clear hs2
                          go_wp2_with fail
                          refine (HIh.out mid e y _ (by omega) (by omega) (by omega) (by omega) HT2.out).mono ?_
                          rintro e9 w3 ⟨rfl, hs3⟩
                          have HT3 := hid hs3
                          clear hs3
                          go_wp2
                          go_end0
                          exact ⟨rfl, HT3.out⟩
                        · have f0t : (p : Int) < (m : Int) := by omega
                          have f0u : (m : Int) < (e : Int) := by omega
                          have f1t : (x : Int) < (p : Int) := by omega
                          have f1u : (p : Int) < (mid : Int) := by omega
                          have f2t : (mid : Int) < (e : Int) := by omega
                          have f2v : ¬ (e : Int) < (y : Int) := by omega
                          go_wp2_with fail
                          refine (HRo.out _ p m e HR.out (by omega) (by omega) (by omega)).mono ?_
                          rintro e9 w1 ⟨rfl, hs1⟩
                          have HT1 := hid hs1
                          clear hs1
                          go_wp2_with fail
                          refine (HIh.out x p mid _ (by omega) (by omega) (by omega) (by omega) HT1.out).mono ?_
                          rintro e9 w2 ⟨rfl, hs2⟩
                          have HT2 := hid hs2
                          clear hs2
                          go_wp2
                          go_end0
                          exact ⟨rfl, HT2.out⟩
                      · have f0t : (p : Int) < (m : Int) := by omega
                        have f0u : (m : Int) < (e : Int) := by omega
                        have f1t : (x : Int) < (p : Int) := by omega
                        have f1u : (p : Int) < (mid : Int) := by omega
                        have f2v : ¬ (mid : Int) < (e : Int) := by omega
                        go_wp2_with fail
                        refine (HRo.out _ p m e HR.out (by omega) (by omega) (by omega)).mono ?_
                        rintro e9 w1 ⟨rfl, hs1⟩
                        have HT1 := hid hs1
                        clear hs1
                        go_wp2_with fail
                        refine (HIh.out x p mid _ (by omega) (by omega) (by omega) (by omega) HT1.out).mono ?_
                        rintro e9 w2 ⟨rfl, hs2⟩
                        have HT2 := hid hs2
                        clear hs2
                        go_wp2
                        go_end0
                        exact ⟨rfl, HT2.out⟩
                    · by_cases c2a : mid < e
                      · by_cases c2b : e < y
                        · have f0t : (p : Int) < (m : Int) := by omega
                          have f0u : (m : Int) < (e : Int) := by omega
                          have f1t : (x : Int) < (p : Int) := by omega
                          have f1v : ¬ (p : Int) < (mid : Int) := by omega
                          have f2t : (mid : Int) < (e : Int) := by omega
                          have f2u : (e : Int) < (y : Int) := by omega
                          go_wp2_with fail
                          refine (HRo.out _ p m e HR.out (by omega) (by omega) (by omega)).mono ?_
                          rintro e9 w1 ⟨rfl, hs1⟩
                          have HT1 := hid hs1
                          clear hs1
                          go_wp2_with fail
                          refine (HIh.out mid e y _ (by omega) (by omega) (by omega) (by omega) HT1.out).mono ?_
                          rintro e9 w2 ⟨rfl, hs2⟩
                          have HT2 := hid hs2
                          clear hs2
                          go_wp2
                          go_end0
                          exact ⟨rfl, HT2.out⟩
                        · have f0t : (p : Int) < (m : Int) := by omega
                          have f0u : (m : Int) < (e : Int) := by omega
                          have f1t : (x : Int) < (p : Int) := by omega
                          have f1v : ¬ (p : Int) < (mid : Int) := by omega
                          have f2t : (mid : Int) < (e : Int) := by omega
                          have f2v : ¬ (e : Int) < (y : Int) := by omega
                          go_wp2_with fail
                          refine (HRo.out _ p m e HR.out (by omega) (by omega) (by omega)).mono ?_
                          rintro e9 w1 ⟨rfl, hs1⟩
                          have HT1 := hid hs1
                          clear hs1
                          go_wp2
                          go_end0
                          exact ⟨rfl, HT1.out⟩
                      · have f0t : (p : Int) < (m : Int) := by omega
                        have f0u : (m : Int) < (e : Int) := by omega
                        have f1t : (x : Int) < (p : Int) := by omega
                        have f1v : ¬ (p : Int) < (mid : Int) := by omega
                        have f2v : ¬ (mid : Int) < (e : Int) := by omega
                        go_wp2_with fail
                        refine (HRo.out _ p m e HR.out (by omega) (by omega) (by omega)).mono ?_
                        rintro e9 w1 ⟨rfl, hs1⟩
                        have HT1 := hid hs1
                        clear hs1
                        go_wp2
                        go_end0
                        exact ⟨rfl, HT1.out⟩
                  · by_cases c2a : mid < e
                    · by_cases c2b : e < y
                      · have f0t : (p : Int) < (m : Int) := by omega
                        have f0u : (m : Int) < (e : Int) := by omega
                        have f1v : ¬ (x : Int) < (p : Int) := by omega
                        have f2t : (mid : Int) < (e : Int) := by omega
                        have f2u : (e : Int) < (y : Int) := by omega
                        go_wp2_with fail
                        refine (HRo.out _ p m e HR.out (by omega) (by omega) (by omega)).mono ?_
                        rintro e9 w1 ⟨rfl, hs1⟩
                        have HT1 := hid hs1
                        clear hs1
                        go_wp2_with fail
                        refine (HIh.out mid e y _ (by omega) (by omega) (by omega) (by omega) HT1.out).mono ?_
                        rintro e9 w2 ⟨rfl, hs2⟩
                        have HT2 := hid hs2
                        clear hs2
                        go_wp2
                        go_end0
                        exact ⟨rfl, HT2.out⟩
                      · have f0t : (p : Int) < (m : Int) := by omega
                        have f0u : (m : Int) < (e : Int) := by omega
                        have f1v : ¬ (x : Int) < (p : Int) := by omega
                        have f2t : (mid : Int) < (e : Int) := by omega
                        have f2v : ¬ (e : Int) < (y : Int) := by omega
                        go_wp2_with fail
                        refine (HRo.out _ p m e HR.out (by omega) (by omega) (by omega)).mono ?_
                        rintro e9 w1 ⟨rfl, hs1⟩
                        have HT1 := hid hs1
                        clear hs1
                        go_wp2
                        go_end0
                        exact ⟨rfl, HT1.out⟩
                    · have f0t : (p : Int) < (m : Int) := by omega
                      have f0u : (m : Int) < (e : Int) := by omega
                      have f1v : ¬ (x : Int) < (p : Int) := by omega
                      have f2v : ¬ (mid : Int) < (e : Int) := by omega
                      go_wp2_with fail
                      refine (HRo.out _ p m e HR.out (by omega) (by omega) (by omega)).mono ?_
                      rintro e9 w1 ⟨rfl, hs1⟩
                      have HT1 := hid hs1
                      clear hs1
                      go_wp2
                      go_end0
                      exact ⟨rfl, HT1.out⟩
                · by_cases c1a : x < p
                  · by_cases c1b : p < mid
                    · by_cases c2a : mid < e
                      · by_cases c2b : e < y
                        · have f0t : (p : Int) < (m : Int) := by omega
                          have f0v : ¬ (m : Int) < (e : Int) := by omega
                          have f1t : (x : Int) < (p : Int) := by omega
                          have f1u : (p : Int) < (mid : Int) := by omega
                          have f2t : (mid : Int) < (e : Int) := by omega
                          have f2u : (e : Int) < (y : Int) := by omega
                          go_wp2_with fail
                          refine (HIh.out x p mid _ (by omega) (by omega) (by omega) (by omega) HR.out).mono ?_
                          rintro e9 w1 ⟨rfl, hs1⟩
                          have HT1 := hid hs1
                          clear hs1
                          go_wp2_with fail
                          refine (HIh.out mid e y _ (by omega) (by omega) (by omega) (by omega) HT1.out).mono ?_
                          rintro e9 w2 ⟨rfl, hs2⟩
                          have HT2 := hid hs2
                          clear hs2
                          go_wp2
                          go_end0
                          exact ⟨rfl, HT2.out⟩
                        · have f0t : (p : Int) < (m : Int) := by omega
                          have f0v : ¬ (m : Int) < (e : Int) := by omega
                          have f1t : (x : Int) < (p : Int) := by omega
                          have f1u : (p : Int) < (mid : Int) := by omega
                          have f2t : (mid : Int) < (e : Int) := by omega
                          have f2v : ¬ (e : Int) < (y : Int) := by omega
                          go_wp2_with fail
                          refine (HIh.out x p mid _ (by omega) (by omega) (by omega) (by omega) HR.out).mono ?_
                          rintro e9 w1 ⟨rfl, hs1⟩
                          have HT1 := hid hs1
                          clear hs1
                          go_wp2
                          go_end0
                          exact ⟨rfl, HT1.out⟩
                      · have f0t : (p : Int) < (m : Int) := by omega
                        have f0v : ¬ (m : Int) < (e : Int) := by omega
                        have f1t : (x : Int) < (p : Int) := by omega
                        have f1u : (p : Int) < (mid : Int) := by omega
                        have f2v : ¬ (mid : Int) < (e : Int) := by omega
                        go_wp2_with fail
                        refine (HIh.out x p mid _ (by omega) (by omega) (by omega) (by omega) HR.out).mono ?_
                        rintro e9 w1 ⟨rfl, hs1⟩
                        have HT1 := hid hs1
                        clear hs1
                        go_wp2
                        go_end0
                        exact ⟨rfl, HT1.out⟩
                    · by_cases c2a : mid < e
                      · by_cases c2b : e < y
                        · have f0t : (p : Int) < (m : Int) := by omega
                          have f0v : ¬ (m : Int) < (e : Int) := by omega
                          have f1t : (x : Int) < (p : Int) := by omega
                          have f1v : ¬ (p : Int) < (mid : Int) := by omega
                          have f2t : (mid : Int) < (e : Int) := by omega
                          have f2u : (e : Int) < (y : Int) := by omega
                          go_wp2_with fail
                          refine (HIh.out mid e y _ (by omega) (by omega) (by omega) (by omega) HR.out).mono ?_
                          rintro e9 w1 ⟨rfl, hs1⟩
                          have HT1 := hid hs1
                          clear hs1
                          go_wp2
                          go_end0
                          exact ⟨rfl, HT1.out⟩
                        · have f0t : (p : Int) < (m : Int) := by omega
                          have f0v : ¬ (m : Int) < (e : Int) := by omega
                          have f1t : (x : Int) < (p : Int) := by omega
                          have f1v : ¬ (p : Int) < (mid : Int) := by omega
                          have f2t : (mid : Int) < (e : Int) := by omega
                          have f2v : ¬ (e : Int) < (y : Int) := by omega
                          go_wp2
                          go_end0
                          exact ⟨rfl, HR.out⟩
                      · have f0t : (p : Int) < (m : Int) := by omega
                        have f0v : ¬ (m : Int) < (e : Int) := by omega
                        have f1t : (x : Int) < (p : Int) := by omega
                        have f1v : ¬ (p : Int) < (mid : Int) := by omega
                        have f2v : ¬ (mid : Int) < (e : Int) := by omega
                        go_wp2
                        go_end0
                        exact ⟨rfl, HR.out⟩
                  · by_cases c2a : mid < e
                    · by_cases c2b : e < y
                      · have f0t : (p : Int) < (m : Int) := by omega
                        have f0v : ¬ (m : Int) < (e : Int) := by omega
                        have f1v : ¬ (x : Int) < (p : Int) := by omega
                        have f2t : (mid : Int) < (e : Int) := by omega
                        have f2u : (e : Int) < (y : Int) := by omega
                        go_wp2_with fail
                        refine (HIh.out mid e y _ (by omega) (by omega) (by omega) (by omega) HR.out).mono ?_
                        rintro e9 w1 ⟨rfl, hs1⟩
                        have HT1 := hid hs1
                        clear hs1
                        go_wp2
                        go_end0
                        exact ⟨rfl, HT1.out⟩
                      · have f0t : (p : Int) < (m : Int) := by omega
                        have f0v : ¬ (m : Int) < (e : Int) := by omega
                        have f1v : ¬ (x : Int) < (p : Int) := by omega
                        have f2t : (mid : Int) < (e : Int) := by omega
                        have f2v : ¬ (e : Int) < (y : Int) := by omega
                        go_wp2
                        go_end0
                        exact ⟨rfl, HR.out⟩
                    · have f0t : (p : Int) < (m : Int) := by omega
                      have f0v : ¬ (m : Int) < (e : Int) := by omega
                      have f1v : ¬ (x : Int) < (p : Int) := by omega
                      have f2v : ¬ (mid : Int) < (e : Int) := by omega
                      go_wp2
                      go_end0
                      exact ⟨rfl, HR.out⟩
              · by_cases c1a : x < p
                · by_cases c1b : p < mid
                  · by_cases c2a : mid < e
                    · by_cases c2b : e < y
                      · have f0v : ¬ (p : Int) < (m : Int) := by omega
                        have f1t : (x : Int) < (p : Int) := by omega
                        have f1u : (p : Int) < (mid : Int) := by omega
                        have f2t : (mid : Int) < (e : Int) := by omega
                        have f2u : (e : Int) < (y : Int) := by omega
                        go_wp2_with fail
                        refine (HIh.out x p mid _ (by omega) (by omega) (by omega) (by omega) HR.out).mono ?_
                        rintro e9 w1 ⟨rfl, hs1⟩
                        have HT1 := hid hs1
                        clear hs1
                        go_wp2_with fail
                        refine (HIh.out mid e y _ (by omega) (by omega) (by omega) (by omega) HT1.out).mono ?_
                        rintro e9 w2 ⟨rfl, hs2⟩
                        have HT2 := hid hs2
                        clear hs2
                        go_wp2
                        go_end0
                        exact ⟨rfl, HT2.out⟩
                      · have f0v : ¬ (p : Int) < (m : Int) := by omega
                        have f1t : (x : Int) < (p : Int) := by omega
                        have f1u : (p : Int) < (mid : Int) := by omega
                        have f2t : (mid : Int) < (e : Int) := by omega
                        have f2v : ¬ (e : Int) < (y : Int) := by omega
                        go_wp2_with fail
                        refine (HIh.out x p mid _ (by omega) (by omega) (by omega) (by omega) HR.out).mono ?_
                        rintro e9 w1 ⟨rfl, hs1⟩
                        have HT1 := hid hs1
                        clear hs1
                        go_wp2
                        go_end0
                        exact ⟨rfl, HT1.out⟩
                    · have f0v : ¬ (p : Int) < (m : Int) := by omega
                      have f1t : (x : Int) < (p : Int) := by omega
                      have f1u : (p : Int) < (mid : Int) := by omega
                      have f2v : ¬ (mid : Int) < (e : Int) := by omega
                      go_wp2_with fail
                      refine (HIh.out x p mid _ (by omega) (by omega) (by omega) (by omega) HR.out).mono ?_
                      rintro e9 w1 ⟨rfl, hs1⟩
                      have HT1 := hid hs1
                      clear hs1
                      go_wp2
                      go_end0
                      exact ⟨rfl, HT1.out⟩
                  · by_cases c2a : mid < e
                    · by_cases c2b : e < y
                      · have f0v : ¬ (p : Int) < (m : Int) := by omega
                        have f1t : (x : Int) < (p : Int) := by omega
                        have f1v : ¬ (p : Int) < (mid : Int) := by omega
                        have f2t : (mid : Int) < (e : Int) := by omega
                        have f2u : (e : Int) < (y : Int) := by omega
                        go_wp2_with fail
                        refine (HIh.out mid e y _ (by omega) (by omega) (by omega) (by omega) HR.out).mono ?_
                        rintro e9 w1 ⟨rfl, hs1⟩
                        have HT1 := hid hs1
                        clear hs1
                        go_wp2
                        go_end0
                        exact ⟨rfl, HT1.out⟩
                      · have f0v : ¬ (p : Int) < (m : Int) := by omega
                        have f1t : (x : Int) < (p : Int) := by omega
                        have f1v : ¬ (p : Int) < (mid : Int) := by omega
                        have f2t : (mid : Int) < (e : Int) := by omega
                        have f2v : ¬ (e : Int) < (y : Int) := by omega
                        go_wp2
                        go_end0
                        exact ⟨rfl, HR.out⟩
                    · have f0v : ¬ (p : Int) < (m : Int) := by omega
                      have f1t : (x : Int) < (p : Int) := by omega
                      have f1v : ¬ (p : Int) < (mid : Int) := by omega
                      have f2v : ¬ (mid : Int) < (e : Int) := by omega
                      go_wp2
                      go_end0
                      exact ⟨rfl, HR.out⟩
                · by_cases c2a : mid < e
                  · by_cases c2b : e < y
                    · have f0v : ¬ (p : Int) < (m : Int) := by omega
                      have f1v : ¬ (x : Int) < (p : Int) := by omega
                      have f2t : (mid : Int) < (e : Int) := by omega
                      have f2u : (e : Int) < (y : Int) := by omega
                      go_wp2_with fail
                      refine (HIh.out mid e y _ (by omega) (by omega) (by omega) (by omega) HR.out).mono ?_
                      rintro e9 w1 ⟨rfl, hs1⟩
                      have HT1 := hid hs1
                      clear hs1
                      go_wp2
                      go_end0
                      exact ⟨rfl, HT1.out⟩
                    · have f0v : ¬ (p : Int) < (m : Int) := by omega
                      have f1v : ¬ (x : Int) < (p : Int) := by omega
                      have f2t : (mid : Int) < (e : Int) := by omega
                      have f2v : ¬ (e : Int) < (y : Int) := by omega
                      go_wp2
                      go_end0
                      exact ⟨rfl, HR.out⟩
                  · have f0v : ¬ (p : Int) < (m : Int) := by omega
                    have f1v : ¬ (x : Int) < (p : Int) := by omega
                    have f2v : ¬ (mid : Int) < (e : Int) := by omega
                    go_wp2
                    go_end0
                    exact ⟨rfl, HR.out⟩
        · have e2 : ¬ (mid : Int) < (m : Int) := by omega
          go_enter Tryd.func86, Tryd.ntmps86
          go_wp2_with fail
          go_loopw [20, 21] (fun u v wr => ∃ p q : Nat, x ≤ p ∧ p ≤ q ∧ q ≤ m ∧ u = .int .i64 p ∧ v = .int .i64 q ∧ Stt Z b N off len f0 w0 wr) (fun u v _ => (intOf v).toNat - (intOf u).toNat)
          case atStart => exact ⟨x, m, Nat.le_refl _, by omega, Nat.le_refl _, rfl, rfl, HS.out⟩
          case round =>
            obtain ⟨p, q, hp, hpq, hq, rfl, rfl, hsr⟩ := hrel
            have HR := hid hsr
            clear hsr
            by_cases hlt : p < q
            · obtain ⟨h, hh⟩ : ∃ h : Nat, ((p : Int) + q) / 2 = h := ⟨(p + q) / 2, by omega⟩
              have hph : p ≤ h ∧ h < q := by omega
              obtain ⟨g, hg⟩ : ∃ g : Nat, (pp : Int) - h = g := ⟨pp - h, by omega⟩
              have i0 : (h : Int) < len := by omega
              have i1 : (g : Int) < len := by omega
              go_wp2_with fail
              refine region_calm (fun uu => ⟨#[.slice (some ⟨b, off, none⟩) len cap, .int .i64 ↑x, .int .i64 ↑m, .int .i64 ↑y, .func (.func 77) #[] #[], undef, undef, undef, undef, undef, undef, undef, undef, undef, undef, undef, undef, undef, .int .i64 ↑mid, .int .i64 ↑nn, .int .i64 ↑p, .int .i64 ↑q, .int .i64 ↑pp, .int .i64 ↑h, undef, .int .i64 ↑m, .int .i64 ↑x, .int .i64 (↑m - ↑x), .bool false, undef, undef, undef, undef, undef, undef, undef, undef, undef, undef, undef, undef, undef, undef, undef, undef, undef, undef, undef, undef, undef, undef, undef, undef, undef, undef, undef, undef, undef, undef, undef, undef, undef, undef, undef, undef, undef, undef, undef, undef, undef, undef, undef, undef, undef, undef, undef, undef, .int .i64 ↑y, .int .i64 ↑m, .int .i64 (↑y - ↑m), .bool false, undef, undef, undef, undef, undef, undef, undef, undef, undef, undef, undef, undef, undef, undef, undef, undef, undef, undef, undef, undef, undef, undef, undef, undef, undef, undef, undef, undef, undef, undef, undef, undef, undef, undef, undef, undef, undef, undef, undef, undef, undef, undef, undef, undef, undef, undef, undef, undef, .int .i64 ↑x, .int .i64 ↑y, .int .i64 (↑x + ↑y), .int IntKind.u64 (↑x + ↑y), .int IntKind.u64 ↑mid, .int .i64 ↑mid, .int .i64 ↑mid, .int .i64 ↑m, .int .i64 ↑nn, .int .i64 ↑m, .int .i64 ↑mid, .bool false, undef, undef, undef, undef, .int .i64 ↑x, .int .i64 ↑m, .int .i64 ↑nn, .int .i64 ↑pp, .int .i64 ↑p, .int .i64 ↑q, .bool true, .int .i64 ↑p, .int .i64 ↑q, .int .i64 (↑p + ↑q), .int IntKind.u64 (↑p + ↑q), .int IntKind.u64 ↑h, .int .i64 ↑h, uu 158, uu 159, uu 160, uu 161, uu 162, uu 163, uu 164, uu 165, uu 166, uu 167, uu 168, uu 169, uu 170, uu 171, u172, u173, u174, undef, undef, undef, undef, undef, undef, undef, undef, undef, undef, undef, undef, undef, undef, undef, undef, undef, undef, undef, undef, undef, undef, undef, undef, undef, undef, undef, undef, undef, undef, undef, undef, undef, undef, undef, undef, undef, undef, undef, undef, undef, undef, undef, undef, undef], []⟩) (fun i => [158, 159, 160, 161, 162, 163, 164, 165, 166, 167, 168, 169, 170, 171].getD i 0) (fun i v w8 => match i with | 0 => v = .func (.func 77) #[] #[] | 1 => v = .slice (some ⟨b, off, none⟩) len cap | 2 => v = .int .i64 pp | 3 => v = .int .i64 h | 4 => v = .int .i64 g | 5 => v = .pointer (some ⟨b, off + g * 2, none⟩) | 6 => ∃ c9 : LS, Z c9 ∧ v = .agg #[.int .u64 c9.1, .int .u64 c9.2] | 7 => v = .slice (some ⟨b, off, none⟩) len cap | 8 => v = .int .i64 h | 9 => v = .pointer (some ⟨b, off + h * 2, none⟩) | 10 => ∃ c9 : LS, Z c9 ∧ v = .agg #[.int .u64 c9.1, .int .u64 c9.2] | 11 => ∃ r : Int, v = .int .i64 r | 12 => ∃ tb : Bool, v = .bool tb | 13 => ∃ tb : Bool, v = .bool tb | _ => True) wr 14 (fun k => match k with | 158 => u158 | 159 => u159 | 160 => u160 | 161 => u161 | 162 => u162 | 163 => u163 | 164 => u164 | 165 => u165 | 166 => u166 | 167 => u167 | 168 => u168 | 169 => u169 | 170 => u170 | 171 => u171 | _ => undef) (by rfl) (by kernel_rfl) (by rfl) (by kernel_rfl) (Below.refl _ _) ?hput ?hinj ?stable ?step ?fin
              case hput =>
                intro i hi uu v
                match i, hi with
                | 0, _ => rfl
                | 1, _ => rfl
                | 2, _ => rfl
                | 3, _ => rfl
                | 4, _ => rfl
                | 5, _ => rfl
                | 6, _ => rfl
                | 7, _ => rfl
                | 8, _ => rfl
                | 9, _ => rfl
                | 10, _ => rfl
                | 11, _ => rfl
                | 12, _ => rfl
                | 13, _ => rfl
                | i + 14, hi => exact absurd hi (by omega)
              case hinj =>
                intro i j hi hj h
                exact slots_inj [158, 159, 160, 161, 162, 163, 164, 165, 166, 167, 168, 169, 170, 171] (by decide) hi hj h
              case stable =>
                intro i v w8 w9 hb h
                match i, hb, h with
                | 0, hb, h => exact h
                | 1, hb, h => exact h
                | 2, hb, h => exact h
                | 3, hb, h => exact h
                | 4, hb, h => exact h
                | 5, hb, h => exact h
                | 6, hb, h => exact h
                | 7, hb, h => exact h
                | 8, hb, h => exact h
                | 9, hb, h => exact h
                | 10, hb, h => exact h
                | 11, hb, h => exact h
                | 12, hb, h => exact h
                | 13, hb, h => exact h
                | _ + 14, hb, h => trivial
              case step =>
                intro i hi uu w8 S8 hdep
                match i, hi, hdep with
                | 0, _, hdep =>
                  clear hdep
                  refine ⟨_, rfl, fun K' hK => ?_⟩
                  go_simp
                  exact hK.out _ _ (Below.refl _ _) rfl
                | 1, _, hdep =>
                  clear hdep
                  refine ⟨_, rfl, fun K' hK => ?_⟩
                  go_simp
                  exact hK.out _ _ (Below.refl _ _) rfl
                | 2, _, hdep =>
                  clear hdep
                  refine ⟨_, rfl, fun K' hK => ?_⟩
                  go_simp
                  exact hK.out _ _ (Below.refl _ _) rfl
                | 3, _, hdep =>
                  clear hdep
                  refine ⟨_, rfl, fun K' hK => ?_⟩
                  go_simp
                  exact hK.out _ _ (Below.refl _ _) rfl
                | 4, _, hdep =>
                  have h2 : (uu 160) = .int .i64 pp := hdep 2 (by kernel_rfl)
                  have h3 : (uu 161) = .int .i64 h := hdep 3 (by kernel_rfl)
                  clear hdep
                  refine ⟨_, rfl, fun K' hK => ?_⟩
                  have e8 := hg
                  have e7 : IntKind.i64.wrap (g : Int) = g := by rw [IntKind.wrap_i64]; omega
                  simp only [h2, h3] at hK ⊢
                  go_simp
                  exact hK.out _ _ (Below.refl _ _) rfl
                | 5, _, hdep =>
                  have h1 : (uu 159) = .slice (some ⟨b, off, none⟩) len cap := hdep 1 (by kernel_rfl)
                  have h4 : (uu 162) = .int .i64 g := hdep 4 (by kernel_rfl)
                  clear hdep
                  refine ⟨_, rfl, fun K' hK => ?_⟩
                  have i8 := i1
                  simp only [h1, h4] at hK ⊢
                  go_simp
                  exact hK.out _ _ (Below.refl _ _) rfl
                | 6, _, hdep =>
                  have h5 : (uu 163) = .pointer (some ⟨b, off + g * 2, none⟩) := hdep 5 (by kernel_rfl)
                  clear hdep
                  refine ⟨_, rfl, fun K' hK => ?_⟩
                  obtain ⟨c9, hc9, y0, y1⟩ := (HR.out.below S8).at (i := g) (by omega)
                  simp only [h5] at hK ⊢
                  go_simp
                  exact hK.out _ _ (Below.refl _ _) ⟨c9, hc9, rfl⟩
                | 7, _, hdep =>
                  clear hdep
                  refine ⟨_, rfl, fun K' hK => ?_⟩
                  go_simp
                  exact hK.out _ _ (Below.refl _ _) rfl
                | 8, _, hdep =>
                  clear hdep
                  refine ⟨_, rfl, fun K' hK => ?_⟩
                  go_simp
                  exact hK.out _ _ (Below.refl _ _) rfl
                | 9, _, hdep =>
                  have h7 : (uu 165) = .slice (some ⟨b, off, none⟩) len cap := hdep 7 (by kernel_rfl)
                  have h8 : (uu 166) = .int .i64 h := hdep 8 (by kernel_rfl)
                  clear hdep
                  refine ⟨_, rfl, fun K' hK => ?_⟩
                  have i8 := i0
                  simp only [h7, h8] at hK ⊢
                  go_simp
                  exact hK.out _ _ (Below.refl _ _) rfl
                | 10, _, hdep =>
                  have h9 : (uu 167) = .pointer (some ⟨b, off + h * 2, none⟩) := hdep 9 (by kernel_rfl)
                  clear hdep
                  refine ⟨_, rfl, fun K' hK => ?_⟩
                  obtain ⟨c9, hc9, y0, y1⟩ := (HR.out.below S8).at (i := h) (by omega)
                  simp only [h9] at hK ⊢
                  go_simp
                  exact hK.out _ _ (Below.refl _ _) ⟨c9, hc9, rfl⟩
                | 11, _, hdep =>
                  have h0 : (uu 158) = .func (.func 77) #[] #[] := hdep 0 (by kernel_rfl)
                  have h6 : ∃ c9 : LS, Z c9 ∧ (uu 164) = .agg #[.int .u64 c9.1, .int .u64 c9.2] := hdep 6 (by kernel_rfl)
                  have h10 : ∃ c9 : LS, Z c9 ∧ (uu 168) = .agg #[.int .u64 c9.1, .int .u64 c9.2] := hdep 10 (by kernel_rfl)
                  clear hdep
                  refine ⟨_, rfl, fun K' hK => ?_⟩
                  obtain ⟨c9, hc9, h6⟩ := h6
                  obtain ⟨d9, hd9, h10⟩ := h10
                  simp only [h0, h6, h10] at hK ⊢
                  go_simp
                  refine (HL.out _ _ _ _ _).mono ?_
                  rintro e w9 ⟨⟨r, rfl⟩, hb9⟩
                  exact hK.out _ _ hb9 ⟨r, rfl⟩
                | 12, _, hdep =>
                  have h11 : ∃ r : Int, (uu 169) = .int .i64 r := hdep 11 (by kernel_rfl)
                  clear hdep
                  refine ⟨_, rfl, fun K' hK => ?_⟩
                  obtain ⟨r9, h11⟩ := h11
                  simp only [h11] at hK ⊢
                  go_simp
                  exact hK.out _ _ (Below.refl _ _) ⟨_, rfl⟩
                | 13, _, hdep =>
                  have h12 : ∃ tb : Bool, (uu 170) = .bool tb := hdep 12 (by kernel_rfl)
                  clear hdep
                  refine ⟨_, rfl, fun K' hK => ?_⟩
                  obtain ⟨tb9, h12⟩ := h12
                  simp only [h12] at hK ⊢
                  go_simp
                  exact hK.out _ _ (Below.refl _ _) ⟨_, rfl⟩
                | i + 14, hi, _ => exact absurd hi (by omega)
              case fin =>
                intro uu wf S8 hall
                have h13 : ∃ tb : Bool, (uu 171) = .bool tb := hall 13 (by decide)
                clear hall
                obtain ⟨tb, h13⟩ := h13
                have HW := hid (HR.out.below S8)
                clear S8
                rw [h13]
                clear h13
                cases tb with
                | true =>
                  go_wp2
                  go_round
                  case rel => exact ⟨h + 1, q, by omega, by omega, hq, by first | rfl | go_num, rfl, HW.out⟩
                  case measure => simp [intOf]; omega
                | false =>
                  go_wp2
                  go_round
                  case rel => exact ⟨p, h, hp, by omega, by omega, rfl, by first | rfl | go_num, HW.out⟩
                  case measure => simp [intOf]; omega
            · have e3 : ¬ (p : Int) < q := by omega
              obtain ⟨e, he⟩ : ∃ e : Nat, (nn : Int) - p = e := ⟨nn - p, by omega⟩
              by_cases c0a : p < m
              · by_cases c0b : m < e
                · by_cases c1a : x < p
                  · by_cases c1b : p < mid
                    · by_cases c2a : mid < e
                      · by_cases c2b : e < y
                        · have f0t : (p : Int) < (m : Int) := by omega
                          have f0u : (m : Int) < (e : Int) := by omega
                          have f1t : (x : Int) < (p : Int) := by omega
                          have f1u : (p : Int) < (mid : Int) := by omega
                          have f2t : (mid : Int) < (e : Int) := by omega
                          have f2u : (e : Int) < (y : Int) := by omega
                          go_wp2_with fail
                          refine (HRo.out _ p m e HR.out (by omega) (by omega) (by omega)).mono ?_
                          rintro e9 w1 ⟨rfl, hs1⟩
                          have HT1 := hid hs1
                          clear hs1
                          go_wp2_with fail
                          refine (HIh.out x p mid _ (by omega) (by omega) (by omega) (by omega) HT1.out).mono ?_
                          rintro e9 w2 ⟨rfl, hs2⟩
                          have HT2 := hid hs2
                          clear hs2
                          go_wp2_with fail
                          refine (HIh.out mid e y _ (by omega) (by omega) (by omega) (by omega) HT2.out).mono ?_
                          rintro e9 w3 ⟨rfl, hs3⟩
                          have HT3 := hid hs3
                          clear hs3
                          go_wp2
                          go_end0
                          exact ⟨rfl, HT3.out⟩
                        · have f0t : (p : Int) < (m : Int) := by omega
                          have f0u : (m : Int) < (e : Int) := by omega
                          have f1t : (x : Int) < (p : Int) := by omega
                          have f1u : (p : Int) < (mid : Int) := by omega
                          have f2t : (mid : Int) < (e : Int) := by omega
                          have f2v : ¬ (e : Int) < (y : Int) := by omega
                          go_wp2_with fail
                          refine (HRo.out _ p m e HR.out (by omega) (by omega) (by omega)).mono ?_
                          rintro e9 w1 ⟨rfl, hs1⟩
                          have HT1 := hid hs1
                          clear hs1
                          go_wp2_with fail
                          refine (HIh.out x p mid _ (by omega) (by omega) (by omega) (by omega) HT1.out).mono ?_
                          rintro e9 w2 ⟨rfl, hs2⟩
                          have HT2 := hid hs2
                          clear hs2
                          go_wp2
                          go_end0
                          exact ⟨rfl, HT2.out⟩
                      · have f0t : (p : Int) < (m : Int) := by omega
                        have f0u : (m : Int) < (e : Int) := by omega
                        have f1t : (x : Int) < (p : Int) := by omega
                        have f1u : (p : Int) < (mid : Int) := by omega
                        have f2v : ¬ (mid : Int) < (e : Int) := by omega
                        go_wp2_with fail
                        refine (HRo.out _ p m e HR.out (by omega) (by omega) (by omega)).mono ?_
                        rintro e9 w1 ⟨rfl, hs1⟩
                        have HT1 := hid hs1
                        clear hs1
                        go_wp2_with fail
                        refine (HIh.out x p mid _ (by omega) (by omega) (by omega) (by omega) HT1.out).mono ?_
                        rintro e9 w2 ⟨rfl, hs2⟩
                        have HT2 := hid hs2
                        clear hs2
                        go_wp2
                        go_end0
                        exact ⟨rfl, HT2.out⟩
                    · by_cases c2a : mid < e
                      · by_cases c2b : e < y
                        · have f0t : (p : Int) < (m : Int) := by omega
                          have f0u : (m : Int) < (e : Int) := by omega
                          have f1t : (x : Int) < (p : Int) := by omega
                          have f1v : ¬ (p : Int) < (mid : Int) := by omega
                          have f2t : (mid : Int) < (e : Int) := by omega
                          have f2u : (e : Int) < (y : Int) := by omega
                          go_wp2_with fail
                          refine (HRo.out _ p m e HR.out (by omega) (by omega) (by omega)).mono ?_
                          rintro e9 w1 ⟨rfl, hs1⟩
                          have HT1 := hid hs1
                          clear hs1
                          go_wp2_with fail
                          refine (HIh.out mid e y _ (by omega) (by omega) (by omega) (by omega) HT1.out).mono ?_
                          rintro e9 w2 ⟨rfl, hs2⟩
                          have HT2 := hid hs2
                          clear hs2
                          go_wp2
                          go_end0
                          exact ⟨rfl, HT2.out⟩
                        · have f0t : (p : Int) < (m : Int) := by omega
                          have f0u : (m : Int) < (e : Int) := by omega
                          have f1t : (x : Int) < (p : Int) := by omega
                          have f1v : ¬ (p : Int) < (mid : Int) := by omega
                          have f2t : (mid : Int) < (e : Int) := by omega
                          have f2v : ¬ (e : Int) < (y : Int) := by omega
                          go_wp2_with fail
                          refine (HRo.out _ p m e HR.out (by omega) (by omega) (by omega)).mono ?_
                          rintro e9 w1 ⟨rfl, hs1⟩
                          have HT1 := hid hs1
                          clear hs1
                          go_wp2
                          go_end0
                          exact ⟨rfl, HT1.out⟩
                      · have f0t : (p : Int) < (m : Int) := by omega
                        have f0u : (m : Int) < (e : Int) := by omega
                        have f1t : (x : Int) < (p : Int) := by omega
                        have f1v : ¬ (p : Int) < (mid : Int) := by omega
                        have f2v : ¬ (mid : Int) < (e : Int) := by omega
                        go_wp2_with fail
                        refine (HRo.out _ p m e HR.out (by omega) (by omega) (by omega)).mono ?_
                        rintro e9 w1 ⟨rfl, hs1⟩
                        have HT1 := hid hs1
                        clear hs1
                        go_wp2
                        go_end0
                        exact ⟨rfl, HT1.out⟩
                  · by_cases c2a : mid < e
                    · by_cases c2b : e < y
                      · have f0t : (p : Int) < (m : Int) := by omega
                        have f0u : (m : Int) < (e : Int) := by omega
                        have f1v : ¬ (x : Int) < (p : Int) := by omega
                        have f2t : (mid : Int) < (e : Int) := by omega
                        have f2u : (e : Int) < (y : Int) := by omega
                        go_wp2_with fail
                        refine (HRo.out _ p m e HR.out (by omega) (by omega) (by omega)).mono ?_
                        rintro e9 w1 ⟨rfl, hs1⟩
                        have HT1 := hid hs1
                        clear hs1
                        go_wp2_with fail
                        refine (HIh.out mid e y _ (by omega) (by omega) (by omega) (by omega) HT1.out).mono ?_
                        rintro e9 w2 ⟨rfl, hs2⟩
                        have HT2 := hid hs2
                        clear hs2
                        go_wp2
                        go_end0
                        exact ⟨rfl, HT2.out⟩
                      · have f0t : (p : Int) < (m : Int) := by omega
                        have f0u : (m : Int) < (e : Int) := by omega
                        have f1v : ¬ (x : Int) < (p : Int) := by omega
                        have f2t : (mid : Int) < (e : Int) := by omega
                        have f2v : ¬ (e : Int) < (y : Int) := by omega
                        go_wp2_with fail
                        refine (HRo.out _ p m e HR.out (by omega) (by omega) (by omega)).mono ?_
                        rintro e9 w1 ⟨rfl, hs1⟩
                        have HT1 := hid hs1
                        clear hs1
                        go_wp2
                        go_end0
                        exact ⟨rfl, HT1.out⟩
                    · have f0t : (p : Int) < (m : Int) := by omega
                      have f0u : (m : Int) < (e : Int) := by omega
                      have f1v : ¬ (x : Int) < (p : Int) := by omega
                      have f2v : ¬ (mid : Int) < (e : Int) := by omega
                      go_wp2_with fail
                      refine (HRo.out _ p m e HR.out (by omega) (by omega) (by omega)).mono ?_
                      rintro e9 w1 ⟨rfl, hs1⟩
                      have HT1 := hid hs1
                      clear hs1
                      go_wp2
                      go_end0
                      exact ⟨rfl, HT1.out⟩
                · by_cases c1a : x < p
                  · by_cases c1b : p < mid
                    · by_cases c2a : mid < e
                      · by_cases c2b : e < y
                        · have f0t : (p : Int) < (m : Int) := by omega
                          have f0v : ¬ (m : Int) < (e : Int) := by omega
                          have f1t : (x : Int) < (p : Int) := by omega
                          have f1u : (p : Int) < (mid : Int) := by omega
                          have f2t : (mid : Int) < (e : Int) := by omega
                          have f2u : (e : Int) < (y : Int) := by omega
                          go_wp2_with fail
                          refine (HIh.out x p mid _ (by omega) (by omega) (by omega) (by omega) HR.out).mono ?_
                          rintro e9 w1 ⟨rfl, hs1⟩
                          have HT1 := hid hs1
                          clear hs1
                          go_wp2_with fail
                          refine (HIh.out mid e y _ (by omega) (by omega) (by omega) (by omega) HT1.out).mono ?_
                          rintro e9 w2 ⟨rfl, hs2⟩
                          have HT2 := hid hs2
                          clear hs2
                          go_wp2
                          go_end0
                          exact ⟨rfl, HT2.out⟩
                        · have f0t : (p : Int) < (m : Int) := by omega
                          have f0v : ¬ (m : Int) < (e : Int) := by omega
                          have f1t : (x : Int) < (p : Int) := by omega
                          have f1u : (p : Int) < (mid : Int) := by omega
                          have f2t : (mid : Int) < (e : Int) := by omega
                          have f2v : ¬ (e : Int) < (y : Int) := by omega
                          go_wp2_with fail
                          refine (HIh.out x p mid _ (by omega) (by omega) (by omega) (by omega) HR.out).mono ?_
                          rintro e9 w1 ⟨rfl, hs1⟩
                          have HT1 := hid hs1
                          clear hs1
                          go_wp2
                          go_end0
                          exact ⟨rfl, HT1.out⟩
                      · have f0t : (p : Int) < (m : Int) := by omega
                        have f0v : ¬ (m : Int) < (e : Int) := by omega
                        have f1t : (x : Int) < (p : Int) := by omega
                        have f1u : (p : Int) < (mid : Int) := by omega
                        have f2v : ¬ (mid : Int) < (e : Int) := by omega
                        go_wp2_with fail
                        refine (HIh.out x p mid _ (by omega) (by omega) (by omega) (by omega) HR.out).mono ?_
                        rintro e9 w1 ⟨rfl, hs1⟩
                        have HT1 := hid hs1
                        clear hs1
                        go_wp2
                        go_end0
                        exact ⟨rfl, HT1.out⟩
                    · by_cases c2a : mid < e
                      · by_cases c2b : e < y
                        · have f0t : (p : Int) < (m : Int) := by omega
                          have f0v : ¬ (m : Int) < (e : Int) := by omega
                          have f1t : (x : Int) < (p : Int) := by omega
                          have f1v : ¬ (p : Int) < (mid : Int) := by omega
                          have f2t : (mid : Int) < (e : Int) := by omega
                          have f2u : (e : Int) < (y : Int) := by omega
                          go_wp2_with fail
                          refine (HIh.out mid e y _ (by omega) (by omega) (by omega) (by omega) HR.out).mono ?_
                          rintro e9 w1 ⟨rfl, hs1⟩
                          have HT1 := hid hs1
                          clear hs1
                          go_wp2
                          go_end0
                          exact ⟨rfl, HT1.out⟩
                        · have f0t : (p : Int) < (m : Int) := by omega
                          have f0v : ¬ (m : Int) < (e : Int) := by omega
                          have f1t : (x : Int) < (p : Int) := by omega
                          have f1v : ¬ (p : Int) < (mid : Int) := by omega
                          have f2t : (mid : Int) < (e : Int) := by omega
                          have f2v : ¬ (e : Int) < (y : Int) := by omega
                          go_wp2
                          go_end0
                          exact ⟨rfl, HR.out⟩
                      · have f0t : (p : Int) < (m : Int) := by omega
                        have f0v : ¬ (m : Int) < (e : Int) := by omega
                        have f1t : (x : Int) < (p : Int) := by omega
                        have f1v : ¬ (p : Int) < (mid : Int) := by omega
                        have f2v : ¬ (mid : Int) < (e : Int) := by omega
                        go_wp2
                        go_end0
                        exact ⟨rfl, HR.out⟩
                  · by_cases c2a : mid < e
                    · by_cases c2b : e < y
                      · have f0t : (p : Int) < (m : Int) := by omega
                        have f0v : ¬ (m : Int) < (e : Int) := by omega
                        have f1v : ¬ (x : Int) < (p : Int) := by omega
                        have f2t : (mid : Int) < (e : Int) := by omega
                        have f2u : (e : Int) < (y : Int) := by omega
                        go_wp2_with fail
                        refine (HIh.out mid e y _ (by omega) (by omega) (by omega) (by omega) HR.out).mono ?_
                        rintro e9 w1 ⟨rfl, hs1⟩
                        have HT1 := hid hs1
                        clear hs1
                        go_wp2
                        go_end0
                        exact ⟨rfl, HT1.out⟩
                      · have f0t : (p : Int) < (m : Int) := by omega
                        have f0v : ¬ (m : Int) < (e : Int) := by omega
                        have f1v : ¬ (x : Int) < (p : Int) := by omega
                        have f2t : (mid : Int) < (e : Int) := by omega
                        have f2v : ¬ (e : Int) < (y : Int) := by omega
                        go_wp2
                        go_end0
                        exact ⟨rfl, HR.out⟩
                    · have f0t : (p : Int) < (m : Int) := by omega
                      have f0v : ¬ (m : Int) < (e : Int) := by omega
                      have f1v : ¬ (x : Int) < (p : Int) := by omega
                      have f2v : ¬ (mid : Int) < (e : Int) := by omega
                      go_wp2
                      go_end0
                      exact ⟨rfl, HR.out⟩
              · by_cases c1a : x < p
                · by_cases c1b : p < mid
                  · by_cases c2a : mid < e
                    · by_cases c2b : e < y
                      · have f0v : ¬ (p : Int) < (m : Int) := by omega
                        have f1t : (x : Int) < (p : Int) := by omega
                        have f1u : (p : Int) < (mid : Int) := by omega
                        have f2t : (mid : Int) < (e : Int) := by omega
                        have f2u : (e : Int) < (y : Int) := by omega
                        go_wp2_with fail
                        refine (HIh.out x p mid _ (by omega) (by omega) (by omega) (by omega) HR.out).mono ?_
                        rintro e9 w1 ⟨rfl, hs1⟩
                        have HT1 := hid hs1
                        clear hs1
                        go_wp2_with fail
                        refine (HIh.out mid e y _ (by omega) (by omega) (by omega) (by omega) HT1.out).mono ?_
                        rintro e9 w2 ⟨rfl, hs2⟩
                        have HT2 := hid hs2
                        clear hs2
                        go_wp2
                        go_end0
                        exact ⟨rfl, HT2.out⟩
                      · have f0v : ¬ (p : Int) < (m : Int) := by omega
                        have f1t : (x : Int) < (p : Int) := by omega
                        have f1u : (p : Int) < (mid : Int) := by omega
                        have f2t : (mid : Int) < (e : Int) := by omega
                        have f2v : ¬ (e : Int) < (y : Int) := by omega
                        go_wp2_with fail
                        refine (HIh.out x p mid _ (by omega) (by omega) (by omega) (by omega) HR.out).mono ?_
                        rintro e9 w1 ⟨rfl, hs1⟩
                        have HT1 := hid hs1
                        clear hs1
                        go_wp2
                        go_end0
                        exact ⟨rfl, HT1.out⟩
                    · have f0v : ¬ (p : Int) < (m : Int) := by omega
                      have f1t : (x : Int) < (p : Int) := by omega
                      have f1u : (p : Int) < (mid : Int) := by omega
                      have f2v : ¬ (mid : Int) < (e : Int) := by omega
                      go_wp2_with fail
                      refine (HIh.out x p mid _ (by omega) (by omega) (by omega) (by omega) HR.out).mono ?_
                      rintro e9 w1 ⟨rfl, hs1⟩
                      have HT1 := hid hs1
                      clear hs1
                      go_wp2
                      go_end0
                      exact ⟨rfl, HT1.out⟩
                  · by_cases c2a : mid < e
                    · by_cases c2b : e < y
                      · have f0v : ¬ (p : Int) < (m : Int) := by omega
                        have f1t : (x : Int) < (p : Int) := by omega
                        have f1v : ¬ (p : Int) < (mid : Int) := by omega
                        have f2t : (mid : Int) < (e : Int) := by omega
                        have f2u : (e : Int) < (y : Int) := by omega
                        go_wp2_with fail
                        refine (HIh.out mid e y _ (by omega) (by omega) (by omega) (by omega) HR.out).mono ?_
                        rintro e9 w1 ⟨rfl, hs1⟩
                        have HT1 := hid hs1
                        clear hs1
                        go_wp2
                        go_end0
                        exact ⟨rfl, HT1.out⟩
                      · have f0v : ¬ (p : Int) < (m : Int) := by omega
                        have f1t : (x : Int) < (p : Int) := by omega
                        have f1v : ¬ (p : Int) < (mid : Int) := by omega
                        have f2t : (mid : Int) < (e : Int) := by omega
                        have f2v : ¬ (e : Int) < (y : Int) := by omega
                        go_wp2
                        go_end0
                        exact ⟨rfl, HR.out⟩
                    · have f0v : ¬ (p : Int) < (m : Int) := by omega
                      have f1t : (x : Int) < (p : Int) := by omega
                      have f1v : ¬ (p : Int) < (mid : Int) := by omega
                      have f2v : ¬ (mid : Int) < (e : Int) := by omega
                      go_wp2
                      go_end0
                      exact ⟨rfl, HR.out⟩
                · by_cases c2a : mid < e
                  · by_cases c2b : e < y
                    · have f0v : ¬ (p : Int) < (m : Int) := by omega
                      have f1v : ¬ (x : Int) < (p : Int) := by omega
                      have f2t : (mid : Int) < (e : Int) := by omega
                      have f2u : (e : Int) < (y : Int) := by omega
                      go_wp2_with fail
                      refine (HIh.out mid e y _ (by omega) (by omega) (by omega) (by omega) HR.out).mono ?_
                      rintro e9 w1 ⟨rfl, hs1⟩
                      have HT1 := hid hs1
                      clear hs1
                      go_wp2
                      go_end0
                      exact ⟨rfl, HT1.out⟩
                    · have f0v : ¬ (p : Int) < (m : Int) := by omega
                      have f1v : ¬ (x : Int) < (p : Int) := by omega
                      have f2t : (mid : Int) < (e : Int) := by omega
                      have f2v : ¬ (e : Int) < (y : Int) := by omega
                      go_wp2
                      go_end0
                      exact ⟨rfl, HR.out⟩
                  · have f0v : ¬ (p : Int) < (m : Int) := by omega
                    have f1v : ¬ (x : Int) < (p : Int) := by omega
                    have f2v : ¬ (mid : Int) < (e : Int) := by omega
                    go_wp2
                    go_end0
                    exact ⟨rfl, HR.out⟩

end Go.Proofs.YtbahjpheaaiamaaDoor.symSets
