import Derived.Test.YtmkhoocokpkojaaGreatDoorPart31
import Derived.Test.YtmkhoocokpkojaaGreatDoorPart41
namespace Go.Proofs.YtmkhoocokpkojaaGreatDoor.chkRat
open Go.RowKit Go.Deep Go.Maps Go base sets setsOf solSets solOps solMath solHold solMem solPush solAddI solClose solTrail chkNew chkMath chkRup ratMath heldStore drawn drawnLin drawnSeq
set_option linter.unusedVariables false
set_option linter.unusedSimpArgs false
def TwoJ (L : Nat → Bool) (u : Nat → Value) (w : World) : Prop := (L 7 = true → ∃ R : Nat, u 5 = .pointer (some ⟨R, 0, none⟩) ∧ R < w.heap.size) ∧ (L 8 = true → ∃ R : Nat, u 6 = .pointer (some ⟨R, 0, none⟩) ∧ R < w.heap.size) ∧ (L 7 = true → L 8 = true → u 5 ≠ u 6)
theorem TwoJ.nil (u : Nat → Value) (w : World) : TwoJ (fun _ => false) u w := ⟨fun h => (by cases h), fun h => (by cases h), fun h => (by cases h)⟩
theorem TwoJ.go {L : Nat → Bool} {u : Nat → Value} {w w' : World} (h : TwoJ L u w) (i k : Nat) (v : Value) (h7 : i ≠ 7) (h8 : i ≠ 8) (h5 : k ≠ 5) (h6 : k ≠ 6) (hw : w.heap.size ≤ w'.heap.size) : TwoJ (come L i) (upd u k v) w' := by
 unfold TwoJ
 rw [come_ne (Ne.symm h7), come_ne (Ne.symm h8), upd_ne u v (Ne.symm h5), upd_ne u v (Ne.symm h6)]
 exact ⟨fun e => (by obtain ⟨R, e1, e2⟩ := h.1 e; exact ⟨R, e1, by omega⟩), fun e => (by obtain ⟨R, e1, e2⟩ := h.2.1 e; exact ⟨R, e1, by omega⟩), h.2.2⟩
theorem TwoJ.c7 {L : Nat → Bool} {u : Nat → Value} {w w' : World} (h : TwoJ L u w) (hw : w.heap.size < w'.heap.size) : TwoJ (come L 7) (upd u 5 (.pointer (some ⟨w.heap.size, 0, none⟩))) w' := by
 unfold TwoJ
 rw [come_ne (by decide : (8 : Nat) ≠ 7), drawn.upd_same, upd_ne u _ (by decide : (6 : Nat) ≠ 5)]
 refine ⟨fun _ => ⟨_, rfl, hw⟩, fun e => (by obtain ⟨R, e1, e2⟩ := h.2.1 e; exact ⟨R, e1, by omega⟩), fun _ e => ?_⟩
 obtain ⟨R, e1, e2⟩ := h.2.1 e
 rw [e1]
 intro e3
 injection e3 with e3
 injection e3 with e3
 injection e3 with e3
 omega
theorem TwoJ.c8 {L : Nat → Bool} {u : Nat → Value} {w w' : World} (h : TwoJ L u w) (hw : w.heap.size < w'.heap.size) : TwoJ (come L 8) (upd u 6 (.pointer (some ⟨w.heap.size, 0, none⟩))) w' := by
 unfold TwoJ
 rw [come_ne (by decide : (7 : Nat) ≠ 8), drawn.upd_same, upd_ne u _ (by decide : (5 : Nat) ≠ 6)]
 refine ⟨fun e => (by obtain ⟨R, e1, e2⟩ := h.1 e; exact ⟨R, e1, by omega⟩), fun _ => ⟨_, rfl, hw⟩, fun e _ => ?_⟩
 obtain ⟨R, e1, e2⟩ := h.1 e
 rw [e1]
 intro e3
 injection e3 with e3
 injection e3 with e3
 injection e3 with e3
 omega
set_option maxHeartbeats 3200000 in
set_option maxRecDepth 8000 in
theorem isRat_impl (M mb : Nat) (F : Nat → Value) (V : Int → Value) (cs : List LS) (s : Sv) (w : World) (h : Sol 0 M mb F V s w) (hv0 : V 0 = nilV) (hk : Chk cs s) (hcs : ∀ c ∈ cs, Wf c) (hlen : cs.length ≤ 8000000000000) (b : Option Addr) (bl bc : Nat) (zs : List Int) (hb : IntRow w b bl zs) (hz : ∀ z ∈ zs, z ≠ 0 ∧ z.natAbs < 41) :
  Calls Tryz.prog 45 #[.pointer (some ⟨M, 0, none⟩), .slice b bl bc] w fun e w' => ∃ (t : Bool) (s' : Sv) (F' : Nat → Value) (V' : Int → Value), e = .returned (.bool t) ∧ (t = true ↔ ratP cs zs) ∧ Chk cs s' ∧ s'.n = s.n ∧ Sol 0 M mb F' V' s' w' ∧ V' 0 = nilV ∧ Chg M mb (blk 0 F V) (blk 0 F' V') w w' ∧ F' 2 = F 2 := by
 have hmost := hb.most
 unfold maxLen at hmost
 have hlb := hb.length
 have HS := hid h
 have HV0 := hid hv0
 have HK := hid hk
 by_cases h0 : bl = 0
 · have HN : Hid (¬ ratP cs zs) := hid (by
    rintro ⟨l, r, e, _⟩
    rw [e] at hlb
    simp at hlb
    omega)
   have d0 : ((bl : Int) == 0) = true := by simp [h0]
   clear h hv0 hk hb hlb
   go_enter Tryz.func45, Tryz.ntmps45
   go_wp2
   go_ret
   exact ⟨false, s, F, V, rfl, ⟨fun e => (by cases e), fun e => absurd e HN.out⟩, HK.out, rfl, HS.out.below (by repeat (first | exact Below.refl _ _ | assumption | refine netSem.bdn ?_ _ | refine Below.drew ?_ | refine Below.alloc ?_ (by first | exact Nat.le_refl _ | omega | (simp; done) | (simp; omega)) _)), HV0.out, Chg.below (by repeat (first | exact Below.refl _ _ | assumption | refine netSem.bdn ?_ _ | refine Below.drew ?_ | refine Below.alloc ?_ (by first | exact Nat.le_refl _ | omega | (simp; done) | (simp; omega)) _)), rfl⟩
 · have d0 : ((bl : Int) == 0) = false := by simp; omega
   obtain ⟨g, off, rfl, hc0⟩ := hb.cell 0 (by omega)
   rw [Nat.add_zero] at hc0
   obtain ⟨l, r, hzl⟩ : ∃ l r, zs = l :: r := by
    cases zs with
    | nil => simp at hlb; omega
    | cons l r => exact ⟨l, r, rfl⟩
   replace hc0 : w.cell? ⟨g, off, none⟩ = some (.int .i64 l) := by rw [hzl] at hc0; exact hc0
   have hlz := hz l (by rw [hzl]; simp)
   have HIff : Hid (ratP cs zs ↔ ∀ d ∈ cs, ratAt cs (setL zs) l d) := hid (by
    unfold ratP
    constructor
    · rintro ⟨l', r', e, h⟩
      rw [hzl] at e
      injection e with e1 e2
      rw [e1]; exact h
    · exact fun h => ⟨l, r, hzl, h⟩)
   have HSt := hid (fun W (hW : Below w.heap.size w W) => setOf_impl (some ⟨g, off, none⟩) bl bc zs W (hb.below hW) (fun z hz' => (hz z hz').2))
   have HOn := hid (fun W => only_impl (-l) W (by omega) (by omega))
   have HWz : Hid (Wf (setL zs)) := hid (wf_set hz)
   have hwz := HWz.out.lt
   have HWl : Hid (Wf (onlyL (-l))) := hid (wf_only (by omega) (by omega) (by omega))
   have hwl := HWl.out.lt
   obtain ⟨P, hP⟩ : ∃ q, pSet zs = q := ⟨_, rfl⟩
   obtain ⟨O, hO⟩ : ∃ q, oSet zs = q := ⟨_, rfl⟩
   obtain ⟨P2, hP2⟩ : ∃ q, pBit (-l) = q := ⟨_, rfl⟩
   obtain ⟨O2, hO2⟩ : ∃ q, oBit (-l) = q := ⟨_, rfl⟩
   have HZs : Hid (setL zs = (P, O)) := hid (by rw [← hP, ← hO]; rfl)
   have HOl : Hid (onlyL (-l) = (P2, O2)) := hid (by rw [← hP2, ← hO2]; rfl)
   rw [hP, hO] at HSt
   rw [hP2, hO2] at HOn
   rw [HZs.out] at hwz
   rw [HOl.out] at hwl
   dsimp only at hwz hwl
   obtain ⟨l0, l1⟩ := hlz
   have k2 := h.cell (i := 2) (by omega)
   have HRw : Hid (w.ownsRow 0 68 2 (F 2) s.C.length (flatC s.C)) := hid (h.rows 1001 (by omega))
   obtain ⟨fa, fc, hfa⟩ := solHoldI.own_form HRw.out
   rw [hk.C] at hfa
   obtain ⟨cl, hcl⟩ : ∃ q, cs.length = q := ⟨_, rfl⟩
   rw [hcl] at hfa hlen
   have HCl := hid hcl
   rw [hfa] at k2
   have HFa := hid hfa
   have hMl := h.lt.1
   have HBl : Hid (0 < bl) := hid (by omega)
   have HNg : Hid (IntKind.i64.wrap (-l) = -l) := hid (by rw [IntKind.wrap_i64]; omega)
   clear h hv0 hk hb hlb hzl hP hO hP2 hO2 hcl hfa
   go_enter Tryz.func45, Tryz.ntmps45
   go_wp2_with fail
   refine region_duo (fun us => ⟨#[.pointer (some ⟨M, 0, none⟩), .slice (some ⟨g, off, none⟩) bl bc, undef, undef, .bool false, us 5, us 6, undef, undef, .slice (some ⟨g, off, none⟩) bl bc, .int .i64 (bl : Int), .bool false, us 12, us 13, us 14, us 15, us 16, us 17, us 18, undef, undef, undef, undef, undef, undef, undef, undef, undef, undef, undef, undef, undef, undef, undef, undef, undef, undef, undef, undef, undef, undef, undef], []⟩) (fun i => [12, 13, 14, 15, 16, 17, 18, 5, 6, 999].getD i 0) (fun i v w8 => match i with | 0 => v = .slice (some ⟨g, off, none⟩) bl bc | 1 => v = .agg #[.int .u64 P, .int .u64 O] | 2 => v = .slice (some ⟨g, off, none⟩) bl bc | 3 => v = .pointer (some ⟨g, off, none⟩) | 4 => v = .int .i64 l | 5 => v = .int .i64 (-l) | 6 => v = .agg #[.int .u64 P2, .int .u64 O2] | 7 => ∃ R : Nat, v = .pointer (some ⟨R, 0, none⟩) ∧ w.heap.size ≤ R ∧ SetAt w8 R 0 0 | 8 => ∃ R : Nat, v = .pointer (some ⟨R, 0, none⟩) ∧ w.heap.size ≤ R ∧ SetAt w8 R 0 0 | _ => True) TwoJ (fun u w9 => ∃ R5 R6 : Nat, u 5 = .pointer (some ⟨R5, 0, none⟩) ∧ u 6 = .pointer (some ⟨R6, 0, none⟩) ∧ u 18 = .agg #[.int .u64 P2, .int .u64 O2] ∧ R5 ≠ R6 ∧ w.heap.size ≤ R5 ∧ w.heap.size ≤ R6 ∧ SetAt w9 R5 P O ∧ SetAt w9 R6 0 0 ∧ Below w.heap.size w w9) w 9 [9, 9, 3, 4, 5, 6, 9, 9, 9] (fun k => match k with | 12 => undef | 13 => undef | 14 => undef | 15 => undef | 16 => undef | 17 => undef | 18 => undef | 5 => undef | 6 => undef | _ => undef) (by rfl) (by kernel_rfl) (by rfl) ⟨by kernel_rfl, by kernel_rfl, by kernel_rfl, by decide⟩ (by kernel_rfl) (by kernel_rfl) (Below.refl _ _) (TwoJ.nil _ _) ?hput ?hinj ?stable ?step ?pre ?last
   case hput =>
    intro i hi us v
    match i, hi with
    | 0, _ => rfl
    | 1, _ => rfl
    | 2, _ => rfl
    | 3, _ => rfl
    | 4, _ => rfl
    | 5, _ => rfl
    | 6, _ => rfl
    | 7, _ => rfl
    | 8, _ => rfl
    | 9, _ => rfl
    | i + 10, hi => exact absurd hi (by omega)
   case hinj =>
    intro i j hi hj h
    exact slots_inj [12, 13, 14, 15, 16, 17, 18, 5, 6, 999] (by decide) hi hj h
   case stable =>
    intro i v w8 w9 hb h
    match i, h with
    | 0, h => exact h
    | 1, h => exact h
    | 2, h => exact h
    | 3, h => exact h
    | 4, h => exact h
    | 5, h => exact h
    | 6, h => exact h
    | 7, h => obtain ⟨R, e1, e2, e3⟩ := h; exact ⟨R, e1, e2, e3.below hb⟩
    | 8, h => obtain ⟨R, e1, e2, e3⟩ := h; exact ⟨R, e1, e2, e3.below hb⟩
    | _ + 9, h => trivial
   case step =>
    intro i hi L8 us w8 hl8 hJ8 S8 hdep
    match i, hi with
    | 0, _ =>
     clear hdep
     refine ⟨_, rfl, fun K' hK => ?_⟩
     go_simp
     exact hK.out _ _ (Below.refl _ _) rfl (hJ8.go 0 12 _ (by decide) (by decide) (by decide) (by decide) (Nat.le_refl _))
    | 1, _ =>
     have h0 : (us 12) = .slice (some ⟨g, off, none⟩) bl bc := hdep 0 (by kernel_rfl)
     clear hdep
     refine ⟨_, rfl, fun K' hK => ?_⟩
     simp only [h0] at hK ⊢
     go_simp
     refine (HSt.out _ S8).mono ?_
     rintro e w9 ⟨rfl, hb9⟩
     exact hK.out _ _ hb9 rfl (hJ8.go 1 13 _ (by decide) (by decide) (by decide) (by decide) (hb9.size))
    | 2, _ =>
     clear hdep
     refine ⟨_, rfl, fun K' hK => ?_⟩
     go_simp
     exact hK.out _ _ (Below.refl _ _) rfl (hJ8.go 2 14 _ (by decide) (by decide) (by decide) (by decide) (Nat.le_refl _))
    | 3, _ =>
     have h2 : (us 14) = .slice (some ⟨g, off, none⟩) bl bc := hdep 2 (by kernel_rfl)
     clear hdep
     refine ⟨_, rfl, fun K' hK => ?_⟩
     have hbl0 := HBl.out
     simp only [h2] at hK ⊢
     go_simp
     exact hK.out _ _ (Below.refl _ _) rfl (hJ8.go 3 15 _ (by decide) (by decide) (by decide) (by decide) (Nat.le_refl _))
    | 4, _ =>
     have h3 : (us 15) = .pointer (some ⟨g, off, none⟩) := hdep 3 (by kernel_rfl)
     clear hdep
     refine ⟨_, rfl, fun K' hK => ?_⟩
     have hcx := keep S8 hc0
     simp only [h3] at hK ⊢
     go_simp
     exact hK.out _ _ (Below.refl _ _) rfl (hJ8.go 4 16 _ (by decide) (by decide) (by decide) (by decide) (Nat.le_refl _))
    | 5, _ =>
     have h4 : (us 16) = .int .i64 l := hdep 4 (by kernel_rfl)
     clear hdep
     refine ⟨_, rfl, fun K' hK => ?_⟩
     have hng := HNg.out
     simp only [h4] at hK ⊢
     go_simp
     exact hK.out _ _ (Below.refl _ _) rfl (hJ8.go 5 17 _ (by decide) (by decide) (by decide) (by decide) (Nat.le_refl _))
    | 6, _ =>
     have h5 : (us 17) = .int .i64 (-l) := hdep 5 (by kernel_rfl)
     clear hdep
     refine ⟨_, rfl, fun K' hK => ?_⟩
     simp only [h5] at hK ⊢
     go_simp
     refine (HOn.out _).mono ?_
     rintro e w9 ⟨rfl, hb9⟩
     exact hK.out _ _ hb9 rfl (hJ8.go 6 18 _ (by decide) (by decide) (by decide) (by decide) (hb9.size))
    | 7, _ =>
     clear hdep
     refine ⟨_, rfl, fun K' hK => ?_⟩
     go_simp
     exact hK.out _ _ (by repeat (first | exact Below.refl _ _ | assumption | refine Below.drew ?_ | refine Below.alloc ?_ (by first | exact Nat.le_refl _ | omega | (simp; done) | (simp; omega)) _ | refine Below.setCell ?_ (by first | exact Nat.le_refl _ | omega | (simp; done) | (simp; omega)) _)) ⟨w8.heap.size, rfl, S8.size, SetAt.new w8 0 0⟩ (hJ8.c7 (by simp))
    | 8, _ =>
     clear hdep
     refine ⟨_, rfl, fun K' hK => ?_⟩
     go_simp
     exact hK.out _ _ (by repeat (first | exact Below.refl _ _ | assumption | refine Below.drew ?_ | refine Below.alloc ?_ (by first | exact Nat.le_refl _ | omega | (simp; done) | (simp; omega)) _ | refine Below.setCell ?_ (by first | exact Nat.le_refl _ | omega | (simp; done) | (simp; omega)) _)) ⟨w8.heap.size, rfl, S8.size, SetAt.new w8 0 0⟩ (hJ8.c8 (by simp))
    | i + 9, hi => exact absurd hi (by omega)
   case pre =>
    intro L8 us w8 hL8 hJ8 S8 hall
    have h1 : (us 13) = .agg #[.int .u64 P, .int .u64 O] := hall 1 (by decide)
    have h6 : (us 18) = .agg #[.int .u64 P2, .int .u64 O2] := hall 6 (by decide)
    have h7 : ∃ R : Nat, (us 5) = .pointer (some ⟨R, 0, none⟩) ∧ w.heap.size ≤ R ∧ SetAt w8 R 0 0 := hall 7 (by decide)
    have h8 : ∃ R : Nat, (us 6) = .pointer (some ⟨R, 0, none⟩) ∧ w.heap.size ≤ R ∧ SetAt w8 R 0 0 := hall 8 (by decide)
    clear hall
    refine ⟨_, rfl, fun K' hK => ?_⟩
    obtain ⟨R5, e7, hR5, hs5⟩ := h7
    obtain ⟨R6, e8, hR6, hs6⟩ := h8
    have hne : R5 ≠ R6 := fun e => hJ8.2.2 (hL8 7 (by decide)) (hL8 8 (by decide)) (by rw [e7, e8, e])
    obtain ⟨x0, x1, z0, z1⟩ := hs5.facts
    simp only [h1, h6, e7, e8] at hK ⊢
    go_simp
    exact hK.out undef _ ⟨R5, R6, (drawn.upd_ne us _ (by decide)).trans e7, (drawn.upd_ne us _ (by decide)).trans e8, (drawn.upd_ne us _ (by decide)).trans h6, hne, hR5, hR6, hs5.put P O, SetAt.other (SetAt.other hs6 (by dsimp only; omega) _) (by dsimp only; omega) _, (S8.setCell (by dsimp only; omega) _).setCell (by dsimp only; omega) _⟩
   case last =>
    intro us w8 hp
    refine ⟨_, rfl, fun K' hK => ?_⟩
    obtain ⟨R5, R6, e5, e6, e18, hne, b5, b6, hs5, hs6, hb9⟩ := hp
    obtain ⟨y0, y1, zz0, zz1⟩ := hs6.facts
    simp only [e5, e6, e18] at hK ⊢
    go_simp
    refine hK.out _ _ ?_
    have HN6 := hid (hs6.put P2 O2)
    have HN5 : Hid (SetAt ((w8.setCell ⟨R6, 0, none⟩ (.int .u64 P2)).setCell ⟨R6, 1, none⟩ (.int .u64 O2)) R5 P O) := hid (SetAt.other (SetAt.other hs5 (by dsimp only; omega) _) (by dsimp only; omega) _)
    have HB8 : Hid (Below w.heap.size w ((w8.setCell ⟨R6, 0, none⟩ (.int .u64 P2)).setCell ⟨R6, 1, none⟩ (.int .u64 O2))) := hid ((hb9.setCell (by dsimp only; omega) _).setCell (by dsimp only; omega) _)
    clear hs5 hs6 y0 y1 zz0 zz1 e5 e6 e18 hb9
    generalize (w8.setCell ⟨R6, 0, none⟩ (.int .u64 P2)).setCell ⟨R6, 1, none⟩ (.int .u64 O2) = w1 at *
    have hk2 := keep HB8.out k2
    go_wp2_with fail
    have HSS := hid (HS.out.below HB8.out)
    have HC0 : Hid (Chg M mb (blk 0 F V) (blk 0 F V) w w1) := hid (Chg.below HB8.out)
    have HBlk : Hid (∀ a j, blk 0 F V a = some j → j < w.heap.size) := hid (fun a j hj => HS.out.blt hj)
    have HMm := hid HS.out.lt
    clear k2 hk2 hc0 HRw
    go_loopw [24] (fun i wr => ∃ (k : Nat) (s' : Sv) (F' : Nat → Value) (V' : Int → Value), k ≤ cl ∧ i = .int .i64 k ∧ (∀ d ∈ cs.take k, ratAt cs (P, O) l d) ∧ Chk cs s' ∧ s'.n = s.n ∧ Sol 0 M mb F' V' s' wr ∧ V' 0 = nilV ∧ Chg M mb (blk 0 F V) (blk 0 F' V') w1 wr ∧ F' 2 = F 2) (fun i _ => cl - (intOf i).toNat)
    case atStart => exact ⟨0, s, F, V, Nat.zero_le _, rfl, fun d hd => (by cases hd), HK.out, rfl, HSS.out, HV0.out, Chg.below (Below.refl _ _), rfl⟩
    case round =>
     obtain ⟨k, s1, F1, V1, hk, rfl, hall, hk1, hn1, hs1, hv1, hc1, hf1⟩ := hrel
     have HAll := hid hall
     have HK1 := hid hk1
     have HN1 := hid hn1
     have HS1 := hid hs1
     have HV1 := hid hv1
     have HC1 := hid hc1
     have HF1 := hid hf1
     clear hall hk1 hn1 hs1 hv1 hc1 hf1
     by_cases hlt : k < cl
     · have d9 : decide ((k : Int) < (cl : Int)) = true := by simp; omega
       obtain ⟨gq, gc, hgq, hgl, hg0, hg1⟩ := solPush.Sol.clause HS1.out (by omega) (i := k) (by rw [HK1.out.C, HCl.out]; exact hlt)
       have HMem : Hid (s1.cl k ∈ cs) := hid (by
        have h9 : k < cs.length := by rw [HCl.out]; exact hlt
        have e9 : s1.cl k = cs[k] := by unfold Sv.cl; rw [HK1.out.C]; simp [h9]
        rw [e9]; exact List.getElem_mem _)
       have HTk : Hid (cs.take (k + 1) = cs.take k ++ [s1.cl k]) := hid (by
        have h9 : k < cs.length := by rw [HCl.out]; exact hlt
        rw [List.take_succ_eq_append_getElem h9]
        congr 2
        unfold Sv.cl; rw [HK1.out.C]; simp [h9])
       obtain ⟨⟨D1, D2⟩, hD⟩ : ∃ q, s1.cl k = q := ⟨_, rfl⟩
       rw [hD] at hg0 hg1 HMem HTk
       have HWd := hid (hcs _ HMem.out)
       have hwd := HWd.out.lt
       dsimp only at hg0 hg1 hwd
       rw [HF1.out, HFa.out] at hgq
       injection hgq with e1 e2 e3
       subst e1
       clear e2 e3
       have hR5 : SetAt wr R5 P O := World.rowIs.of_block HN5.out (HC1.out.block R5 HN5.out.lt (by have := HMm.out; omega) (by have := HMm.out; omega) (fun a e => by have := HBlk.out a R5 e; omega))
       have hR6 : SetAt wr R6 P2 O2 := World.rowIs.of_block HN6.out (HC1.out.block R6 HN6.out.lt (by have := HMm.out; omega) (by have := HMm.out; omega) (fun a e => by have := HBlk.out a R6 e; omega))
       obtain ⟨q0, q1, -, -⟩ := hR5.facts
       obtain ⟨p0, p1, -, -⟩ := hR6.facts
       have hl5 := hR5.lt
       have hl6 := hR6.lt
       have hlg := World.block_lt_of_cell? _ _ hg0
       obtain ⟨X1, hX1⟩ : ∃ q, D1 &&& (18446744073709551615 - P2) = q := ⟨_, rfl⟩
       obtain ⟨X2, hX2⟩ : ∃ q, D2 &&& (18446744073709551615 - O2) = q := ⟨_, rfl⟩
       obtain ⟨mt, hmt⟩ : ∃ q, meetL (D1, D2) (P2, O2) = q := ⟨_, rfl⟩
       have HMt : Hid (∀ W : World, Calls Tryz.prog 71 #[.agg #[.int .u64 D1, .int .u64 D2], .agg #[.int .u64 P2, .int .u64 O2]] W fun e w' => e = .returned (.bool mt) ∧ Below W.heap.size W w') := hid (fun W => by rw [← hmt]; exact meets_impl D1 D2 P2 O2 W hwd.1 hwd.2 hwl.1 hwl.2)
       have Hmt := hid hmt
       clear hmt hR5 hR6 hD hgl
       cases mt with
       | false =>
        have HA9 : Hid (∀ d ∈ cs.take (k + 1), ratAt cs (P, O) l d) := hid (by
         rw [HTk.out]
         intro d hd
         rcases List.mem_append.1 hd with hd | hd
         · exact HAll.out d hd
         · rw [List.mem_singleton.1 hd]
           intro hm
           have := (meet_iff HWd.out (b := (P2, O2))).2 ⟨-l, hm, by rw [← HOl.out, mem_only (by omega)]; simp⟩
           rw [Hmt.out] at this; cases this)
        go_wp2_with fail
        have HA8 : Hid (SetAt (wr.alloc (.cells #[.int .u64 D1, .int .u64 D2] 68)) wr.heap.size D1 D2) := hid (SetAt.new wr D1 D2)
        have HBa : Hid (Below wr.heap.size wr (wr.alloc (.cells #[.int .u64 D1, .int .u64 D2] 68))) := hid (by repeat (first | exact Below.refl _ _ | assumption | refine Below.drew ?_ | refine Below.alloc ?_ (by first | exact Nat.le_refl _ | omega | (simp; done) | (simp; omega)) _ | refine Below.setCell ?_ (by first | exact Nat.le_refl _ | omega | (simp; done) | (simp; omega)) _))
        have q0' := keep HBa.out q0
        have q1' := keep HBa.out q1
        have p0' := keep HBa.out p0
        have p1' := keep HBa.out p1
        obtain ⟨n0, n1, -, -⟩ := HA8.out.facts
        clear q0 q1 p0 p1 hg0 hg1
        generalize wr.alloc (.cells #[.int .u64 D1, .int .u64 D2] 68) = wa at *
        refine region_below (fun ut => ⟨#[.pointer (some ⟨M, 0, none⟩), .slice (some ⟨g, off, none⟩) bl bc, undef, undef, u4, .pointer (some ⟨R5, 0, none⟩), .pointer (some ⟨R6, 0, none⟩), undef, .pointer (some ⟨wr.heap.size, 0, none⟩), .slice (some ⟨g, off, none⟩) bl bc, .int .i64 (bl : Int), .bool false, us 12, us 13, us 14, us 15, us 16, us 17, .agg #[.int .u64 P2, .int .u64 O2], .pointer (some ⟨M, 0, none⟩), .pointer (some ⟨M, 0, none⟩), .pointer (some ⟨M, 2, none⟩), .slice (some ⟨gq, 0, none⟩) cl fc, .int .i64 (cl : Int), .int .i64 (k : Int), .bool true, .pointer (some ⟨gq, k * 2, none⟩), .agg #[.int .u64 D1, .int .u64 D2], ut 28, ut 29, ut 30, ut 31, ut 32, ut 33, ut 34, ut 35, ut 36, ut 37, ut 38, ut 39, u40, u41], []⟩) (fun i => [28, 29, 30, 31, 32, 33, 34, 35, 36, 37, 38, 39].getD i 0) (fun i v w8 => match i with | 0 => v = .agg #[.int .u64 D1, .int .u64 D2] | 1 => v = .agg #[.int .u64 P2, .int .u64 O2] | 2 => v = .bool false | 3 => v = .bool false | 4 => v = undef | 5 => v = undef | 6 => v = undef | 7 => v = undef | 8 => v = undef | 9 => v = undef | 10 => v = undef | 11 => v = undef | _ => True) wa 12 (fun k => match k with | 28 => u28 | 29 => u29 | 30 => u30 | 31 => u31 | 32 => u32 | 33 => u33 | 34 => u34 | 35 => u35 | 36 => u36 | 37 => u37 | 38 => u38 | 39 => u39 | _ => undef) (by rfl) (by kernel_rfl) (by rfl) ⟨by kernel_rfl, by kernel_rfl, by kernel_rfl, by decide⟩ (by kernel_rfl) (Below.refl _ _) ?hput ?hinj ?stable ?step ?last
        case hput =>
         intro i hi ut v
         match i, hi with
         | 0, _ => rfl
         | 1, _ => rfl
         | 2, _ => rfl
         | 3, _ => rfl
         | 4, _ => rfl
         | 5, _ => rfl
         | 6, _ => rfl
         | 7, _ => rfl
         | 8, _ => rfl
         | 9, _ => rfl
         | 10, _ => rfl
         | 11, _ => rfl
         | i + 12, hi => exact absurd hi (by omega)
        case hinj =>
         intro i j hi hj h
         exact slots_inj [28, 29, 30, 31, 32, 33, 34, 35, 36, 37, 38, 39] (by decide) hi hj h
        case stable =>
         intro i v w8 w9 hb h
         match i, h with
         | 0, h => exact h
         | 1, h => exact h
         | 2, h => exact h
         | 3, h => exact h
         | 4, h => exact h
         | 5, h => exact h
         | 6, h => exact h
         | 7, h => exact h
         | 8, h => exact h
         | 9, h => exact h
         | 10, h => exact h
         | 11, h => exact h
         | _ + 12, h => trivial
        case step =>
         intro i hi ut w8 S8 hdep
         match i, hi with
         | 0, _ =>
          clear hdep
          refine ⟨_, rfl, fun K' hK => ?_⟩
          have n0x := keep S8 n0
          have n1x := keep S8 n1
          go_simp
          exact hK.out _ _ (Below.refl _ _) rfl
         | 1, _ =>
          clear hdep
          refine ⟨_, rfl, fun K' hK => ?_⟩
          have p0x := keep S8 p0'
          have p1x := keep S8 p1'
          go_simp
          exact hK.out _ _ (Below.refl _ _) rfl
         | 2, _ =>
          have h0 : (ut 28) = .agg #[.int .u64 D1, .int .u64 D2] := hdep 0 (by kernel_rfl)
          have h1 : (ut 29) = .agg #[.int .u64 P2, .int .u64 O2] := hdep 1 (by kernel_rfl)
          clear hdep
          refine ⟨_, rfl, fun K' hK => ?_⟩
          simp only [h0, h1] at hK ⊢
          go_simp
          refine (HMt.out _).mono ?_
          rintro e w9 ⟨rfl, hb9⟩
          exact hK.out _ _ hb9 rfl
         | 3, _ =>
          have h2 : (ut 30) = .bool false := hdep 2 (by kernel_rfl)
          clear hdep
          refine ⟨_, rfl, fun K' hK => ?_⟩
          simp only [h2] at hK ⊢
          go_simp
          exact hK.out _ _ (Below.refl _ _) rfl
         | 4, _ =>
          have h3 : (ut 31) = .bool false := hdep 3 (by kernel_rfl)
          clear hdep
          refine ⟨_, rfl, fun K' hK => ?_⟩
          simp only [h3] at hK ⊢
          go_simp
          exact hK.out _ _ (Below.refl _ _) rfl
         | 5, _ =>
          have h3 : (ut 31) = .bool false := hdep 3 (by kernel_rfl)
          clear hdep
          refine ⟨_, rfl, fun K' hK => ?_⟩
          simp only [h3] at hK ⊢
          go_simp
          exact hK.out _ _ (Below.refl _ _) rfl
         | 6, _ =>
          have h3 : (ut 31) = .bool false := hdep 3 (by kernel_rfl)
          clear hdep
          refine ⟨_, rfl, fun K' hK => ?_⟩
          simp only [h3] at hK ⊢
          go_simp
          exact hK.out _ _ (Below.refl _ _) rfl
         | 7, _ =>
          have h3 : (ut 31) = .bool false := hdep 3 (by kernel_rfl)
          clear hdep
          refine ⟨_, rfl, fun K' hK => ?_⟩
          simp only [h3] at hK ⊢
          go_simp
          exact hK.out _ _ (Below.refl _ _) rfl
         | 8, _ =>
          have h3 : (ut 31) = .bool false := hdep 3 (by kernel_rfl)
          clear hdep
          refine ⟨_, rfl, fun K' hK => ?_⟩
          simp only [h3] at hK ⊢
          go_simp
          exact hK.out _ _ (Below.refl _ _) rfl
         | 9, _ =>
          have h3 : (ut 31) = .bool false := hdep 3 (by kernel_rfl)
          clear hdep
          refine ⟨_, rfl, fun K' hK => ?_⟩
          simp only [h3] at hK ⊢
          go_simp
          exact hK.out _ _ (Below.refl _ _) rfl
         | 10, _ =>
          have h3 : (ut 31) = .bool false := hdep 3 (by kernel_rfl)
          clear hdep
          refine ⟨_, rfl, fun K' hK => ?_⟩
          simp only [h3] at hK ⊢
          go_simp
          exact hK.out _ _ (Below.refl _ _) rfl
         | 11, _ =>
          have h3 : (ut 31) = .bool false := hdep 3 (by kernel_rfl)
          clear hdep
          refine ⟨_, rfl, fun K' hK => ?_⟩
          simp only [h3] at hK ⊢
          go_simp
          exact hK.out _ _ (Below.refl _ _) rfl
         | i + 12, hi => exact absurd hi (by omega)
        case last =>
         intro ut w8 S8 hall
         have h3 : (ut 31) = .bool false := hall 3 (by decide)
         clear hall
         refine ⟨_, rfl, fun K' hK => ?_⟩
         simp only [h3] at hK ⊢
         go_simp
         refine hK.out _ _ ?_
         have HB9 := hid (HBa.out.trans (S8.mono HBa.out.size))
         clear S8
         go_wp2_with fail
         refine ⟨⟨k + 1, s1, F1, V1, by omega, rfl, HA9.out, HK1.out, HN1.out, HS1.out.below HB9.out, HV1.out, HC1.out.trans (Chg.below HB9.out), HF1.out⟩, ?_⟩
         simp [intOf]
         omega
       | true =>
        have HMd : Hid (mem (D1, D2) (-l) = true) := hid (by
         obtain ⟨x, hx1, hx2⟩ := (meet_iff HWd.out (b := (P2, O2))).1 Hmt.out
         rw [← HOl.out, mem_only (by omega)] at hx2
         have : x = -l := by simp at hx2; exact hx2.symm
         rw [← this]; exact hx1)
        have HWx : Hid (Wf (X1, X2)) := hid (by rw [← hX1, ← hX2]; exact wf_wo HWd.out (P2, O2))
        have hwx := HWx.out.lt
        dsimp only at hwx
        obtain ⟨Y1, hY1⟩ : ∃ q, P ||| X1 = q := ⟨_, rfl⟩
        obtain ⟨Y2, hY2⟩ : ∃ q, O ||| X2 = q := ⟨_, rfl⟩
        have HWy : Hid (Wf (Y1, Y2)) := hid (by rw [← hY1, ← hY2]; exact wf_with (show Wf (P, O) by rw [← HZs.out]; exact HWz.out) HWx.out)
        have HRes : Hid (resL (P, O) (D1, D2) l = (Y1, Y2)) := hid (by unfold resL; rw [HOl.out, ← hY1, ← hY2, ← hX1, ← hX2]; rfl)
        have HWo := hid (fun W => without_impl D1 D2 P2 O2 W hwd.1 hwd.2 hwl.1 hwl.2)
        have HWi := hid (fun W => with_impl P O X1 X2 W hwz.1 hwz.2 hwx.1 hwx.2)
        rw [hX1, hX2] at HWo
        rw [hY1, hY2] at HWi
        have HSp := hid (rup_spec HK1.out HWy.out)
        go_wp2_with fail
        have HA8 : Hid (SetAt (wr.alloc (.cells #[.int .u64 D1, .int .u64 D2] 68)) wr.heap.size D1 D2) := hid (SetAt.new wr D1 D2)
        have HBa : Hid (Below wr.heap.size wr (wr.alloc (.cells #[.int .u64 D1, .int .u64 D2] 68))) := hid (by repeat (first | exact Below.refl _ _ | assumption | refine Below.drew ?_ | refine Below.alloc ?_ (by first | exact Nat.le_refl _ | omega | (simp; done) | (simp; omega)) _ | refine Below.setCell ?_ (by first | exact Nat.le_refl _ | omega | (simp; done) | (simp; omega)) _))
        have q0' := keep HBa.out q0
        have q1' := keep HBa.out q1
        have p0' := keep HBa.out p0
        have p1' := keep HBa.out p1
        obtain ⟨n0, n1, -, -⟩ := HA8.out.facts
        clear q0 q1 p0 p1 hg0 hg1
        generalize wr.alloc (.cells #[.int .u64 D1, .int .u64 D2] 68) = wa at *
        have HRup := hid (fun W (hW : Below wa.heap.size wa W) => isRup_impl M mb F1 V1 cs s1 W (HS1.out.below (HBa.out.trans (hW.mono HBa.out.size))) HV1.out HK1.out (by rw [HCl.out]; exact hlen) Y1 Y2 HWy.out)
        obtain ⟨⟨s2, t⟩, hst⟩ : ∃ q, rupS s1 (Y1, Y2) = q := ⟨_, rfl⟩
        rw [hst] at HSp HRup
        dsimp only at HSp HRup
        have HT1 := hid HSp.out.1
        have HT2 := hid HSp.out.2.1
        have HT3 := hid HSp.out.2.2
        clear hX1 hX2 hY1 hY2 hst HSp
        refine region_tri (fun ut => ⟨#[.pointer (some ⟨M, 0, none⟩), .slice (some ⟨g, off, none⟩) bl bc, undef, undef, u4, .pointer (some ⟨R5, 0, none⟩), .pointer (some ⟨R6, 0, none⟩), undef, .pointer (some ⟨wr.heap.size, 0, none⟩), .slice (some ⟨g, off, none⟩) bl bc, .int .i64 (bl : Int), .bool false, us 12, us 13, us 14, us 15, us 16, us 17, .agg #[.int .u64 P2, .int .u64 O2], .pointer (some ⟨M, 0, none⟩), .pointer (some ⟨M, 0, none⟩), .pointer (some ⟨M, 2, none⟩), .slice (some ⟨gq, 0, none⟩) cl fc, .int .i64 (cl : Int), .int .i64 (k : Int), .bool true, .pointer (some ⟨gq, k * 2, none⟩), .agg #[.int .u64 D1, .int .u64 D2], ut 28, ut 29, ut 30, ut 31, ut 32, ut 33, ut 34, ut 35, ut 36, ut 37, ut 38, ut 39, u40, u41], []⟩) (fun i => [28, 29, 30, 31, 32, 33, 34, 35, 36, 37, 38, 39].getD i 0) (fun i v w8 => match i with | 0 => v = .agg #[.int .u64 D1, .int .u64 D2] | 1 => v = .agg #[.int .u64 P2, .int .u64 O2] | 2 => v = .bool true | 3 => v = .bool true | 4 => v = .pointer (some ⟨M, 0, none⟩) | 5 => v = .agg #[.int .u64 P, .int .u64 O] | 6 => v = .agg #[.int .u64 D1, .int .u64 D2] | 7 => v = .agg #[.int .u64 P2, .int .u64 O2] | 8 => v = .agg #[.int .u64 X1, .int .u64 X2] | 9 => v = .agg #[.int .u64 Y1, .int .u64 Y2] | _ => True) (fun u w9 => u 31 = .bool true ∧ u 38 = .bool t ∧ ∃ (F2 : Nat → Value) (V2 : Int → Value), Sol 0 M mb F2 V2 s2 w9 ∧ V2 0 = nilV ∧ Chg M mb (blk 0 F1 V1) (blk 0 F2 V2) wr w9 ∧ F2 2 = F1 2) (fun u w9 => u 31 = .bool true ∧ u 39 = .bool (!t) ∧ ∃ (F2 : Nat → Value) (V2 : Int → Value), Sol 0 M mb F2 V2 s2 w9 ∧ V2 0 = nilV ∧ Chg M mb (blk 0 F1 V1) (blk 0 F2 V2) wr w9 ∧ F2 2 = F1 2) wa 10 [2, 2, 3, 8, 10, 9, 8, 8, 9, 10] (fun k => match k with | 28 => u28 | 29 => u29 | 30 => u30 | 31 => u31 | 32 => u32 | 33 => u33 | 34 => u34 | 35 => u35 | 36 => u36 | 37 => u37 | 38 => u38 | 39 => u39 | _ => undef) (by rfl) (by kernel_rfl) (by rfl) ⟨by kernel_rfl, by kernel_rfl, by kernel_rfl, by decide⟩ (by kernel_rfl) (by kernel_rfl) (by kernel_rfl) (Below.refl _ _) ?hput ?hinj ?stable ?step ?pre ?mid ?last
        case hput =>
         intro i hi ut v
         match i, hi with
         | 0, _ => rfl
         | 1, _ => rfl
         | 2, _ => rfl
         | 3, _ => rfl
         | 4, _ => rfl
         | 5, _ => rfl
         | 6, _ => rfl
         | 7, _ => rfl
         | 8, _ => rfl
         | 9, _ => rfl
         | 10, _ => rfl
         | 11, _ => rfl
         | i + 12, hi => exact absurd hi (by omega)
        case hinj =>
         intro i j hi hj h
         exact slots_inj [28, 29, 30, 31, 32, 33, 34, 35, 36, 37, 38, 39] (by decide) hi hj h
        case stable =>
         intro i v w8 w9 hb h
         match i, h with
         | 0, h => exact h
         | 1, h => exact h
         | 2, h => exact h
         | 3, h => exact h
         | 4, h => exact h
         | 5, h => exact h
         | 6, h => exact h
         | 7, h => exact h
         | 8, h => exact h
         | 9, h => exact h
         | _ + 10, h => trivial
        case step =>
         intro i hi ut w8 S8 hdep
         match i, hi with
         | 0, _ =>
          clear hdep
          refine ⟨_, rfl, fun K' hK => ?_⟩
          have n0x := keep S8 n0
          have n1x := keep S8 n1
          go_simp
          exact hK.out _ _ (Below.refl _ _) rfl
         | 1, _ =>
          clear hdep
          refine ⟨_, rfl, fun K' hK => ?_⟩
          have p0x := keep S8 p0'
          have p1x := keep S8 p1'
          go_simp
          exact hK.out _ _ (Below.refl _ _) rfl
         | 2, _ =>
          have h0 : (ut 28) = .agg #[.int .u64 D1, .int .u64 D2] := hdep 0 (by kernel_rfl)
          have h1 : (ut 29) = .agg #[.int .u64 P2, .int .u64 O2] := hdep 1 (by kernel_rfl)
          clear hdep
          refine ⟨_, rfl, fun K' hK => ?_⟩
          simp only [h0, h1] at hK ⊢
          go_simp
          refine (HMt.out _).mono ?_
          rintro e w9 ⟨rfl, hb9⟩
          exact hK.out _ _ hb9 rfl
         | 3, _ =>
          have h2 : (ut 30) = .bool true := hdep 2 (by kernel_rfl)
          clear hdep
          refine ⟨_, rfl, fun K' hK => ?_⟩
          simp only [h2] at hK ⊢
          go_simp
          exact hK.out _ _ (Below.refl _ _) rfl
         | 4, _ =>
          have h3 : (ut 31) = .bool true := hdep 3 (by kernel_rfl)
          clear hdep
          refine ⟨_, rfl, fun K' hK => ?_⟩
          simp only [h3] at hK ⊢
          go_simp
          exact hK.out _ _ (Below.refl _ _) rfl
         | 5, _ =>
          have h3 : (ut 31) = .bool true := hdep 3 (by kernel_rfl)
          clear hdep
          refine ⟨_, rfl, fun K' hK => ?_⟩
          have q0x := keep S8 q0'
          have q1x := keep S8 q1'
          simp only [h3] at hK ⊢
          go_simp
          exact hK.out _ _ (Below.refl _ _) rfl
         | 6, _ =>
          have h3 : (ut 31) = .bool true := hdep 3 (by kernel_rfl)
          clear hdep
          refine ⟨_, rfl, fun K' hK => ?_⟩
          have n0x := keep S8 n0
          have n1x := keep S8 n1
          simp only [h3] at hK ⊢
          go_simp
          exact hK.out _ _ (Below.refl _ _) rfl
         | 7, _ =>
          have h3 : (ut 31) = .bool true := hdep 3 (by kernel_rfl)
          clear hdep
          refine ⟨_, rfl, fun K' hK => ?_⟩
          have p0x := keep S8 p0'
          have p1x := keep S8 p1'
          simp only [h3] at hK ⊢
          go_simp
          exact hK.out _ _ (Below.refl _ _) rfl
         | 8, _ =>
          have h3 : (ut 31) = .bool true := hdep 3 (by kernel_rfl)
          have h6 : (ut 34) = .agg #[.int .u64 D1, .int .u64 D2] := hdep 6 (by kernel_rfl)
          have h7 : (ut 35) = .agg #[.int .u64 P2, .int .u64 O2] := hdep 7 (by kernel_rfl)
          clear hdep
          refine ⟨_, rfl, fun K' hK => ?_⟩
          simp only [h3, h6, h7] at hK ⊢
          go_simp
          refine (HWo.out _).mono ?_
          rintro e w9 ⟨rfl, hb9⟩
          exact hK.out _ _ hb9 rfl
         | 9, _ =>
          have h3 : (ut 31) = .bool true := hdep 3 (by kernel_rfl)
          have h5 : (ut 33) = .agg #[.int .u64 P, .int .u64 O] := hdep 5 (by kernel_rfl)
          have h8 : (ut 36) = .agg #[.int .u64 X1, .int .u64 X2] := hdep 8 (by kernel_rfl)
          clear hdep
          refine ⟨_, rfl, fun K' hK => ?_⟩
          simp only [h3, h5, h8] at hK ⊢
          go_simp
          refine (HWi.out _).mono ?_
          rintro e w9 ⟨rfl, hb9⟩
          exact hK.out _ _ hb9 rfl
         | i + 10, hi => exact absurd hi (by omega)
        case pre =>
         intro ut w8 S8 hall
         have h3 : (ut 31) = .bool true := hall 3 (by decide)
         have h4 : (ut 32) = .pointer (some ⟨M, 0, none⟩) := hall 4 (by decide)
         have h9 : (ut 37) = .agg #[.int .u64 Y1, .int .u64 Y2] := hall 9 (by decide)
         clear hall
         refine ⟨_, rfl, fun K' hK => ?_⟩
         simp only [h3, h4, h9] at hK ⊢
         go_simp
         refine (HRup.out _ S8).mono ?_
         rintro e w9 ⟨rfl, F2, V2, z1, z2, z3, z4⟩
         exact hK.out _ _ ⟨(drawn.upd_ne ut _ (by decide)).trans h3, drawn.upd_same _ _ _, F2, V2, z1, z2, (Chg.below (HBa.out.trans (S8.mono HBa.out.size))).trans z3, z4⟩
        case mid =>
         intro ut w8 hp
         refine ⟨_, rfl, fun K' hK => ?_⟩
         obtain ⟨e31, e38, F2, V2, z1, z2, z3, z4⟩ := hp
         simp only [e31, e38] at hK ⊢
         go_simp
         exact hK.out _ _ ⟨(drawn.upd_ne ut _ (by decide)).trans e31, drawn.upd_same _ _ _, F2, V2, z1, z2, z3, z4⟩
        case last =>
         intro ut w8 hp
         refine ⟨_, rfl, fun K' hK => ?_⟩
         obtain ⟨e31, e39, F2, V2, z1, z2, z3, z4⟩ := hp
         simp only [e31, e39] at hK ⊢
         go_simp
         refine hK.out _ _ ?_
         have HZ1 := hid z1
         have HZ2 := hid z2
         have HZ3 := hid (HC1.out.trans z3)
         have HZ4 := hid (z4.trans HF1.out)
         clear z1 z2 z3 z4
         cases t with
         | false =>
          have HN9 : Hid (¬ ratP cs zs) := hid (fun h => by
           have h8 := HIff.out.1 h (D1, D2) HMem.out
           rw [HZs.out] at h8
           have h7 := h8 (HMd.out)
           rw [HRes.out] at h7
           have := HT2.out.2 h7
           cases this)
          go_wp2_with fail
          go_ret
          exact ⟨false, s2, F2, V2, rfl, ⟨fun e => (by cases e), fun e => absurd e HN9.out⟩, HT1.out, HT3.out.trans HN1.out, HZ1.out, HZ2.out, HC0.out.trans HZ3.out, HZ4.out⟩
         | true =>
          have HA9 : Hid (∀ d ∈ cs.take (k + 1), ratAt cs (P, O) l d) := hid (by
           rw [HTk.out]
           intro d hd
           rcases List.mem_append.1 hd with hd | hd
           · exact HAll.out d hd
           · rw [List.mem_singleton.1 hd]
             intro hm
             rw [HRes.out]
             exact HT2.out.1 rfl)
          go_wp2_with fail
          refine ⟨⟨k + 1, s2, F2, V2, by omega, rfl, HA9.out, HT1.out, HT3.out.trans HN1.out, HZ1.out, HZ2.out, HZ3.out, HZ4.out⟩, ?_⟩
          simp [intOf]
          omega
     · have d9 : decide ((k : Int) < (cl : Int)) = false := by simp; omega
       have hkc : k = cl := by omega
       have HT : Hid (ratP cs zs) := hid (HIff.out.2 (by rw [HZs.out]; intro d hd; exact HAll.out d (by rw [hkc, ← HCl.out, List.take_length]; exact hd)))
       go_wp2_with fail
       go_ret
       exact ⟨true, s1, F1, V1, rfl, ⟨fun _ => HT.out, fun _ => rfl⟩, HK1.out, HN1.out, HS1.out, HV1.out, HC0.out.trans HC1.out, HF1.out⟩
end Go.Proofs.YtmkhoocokpkojaaGreatDoor.chkRat
