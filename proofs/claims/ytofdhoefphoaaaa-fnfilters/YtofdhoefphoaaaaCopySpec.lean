/- l05Copy of the specification: a copy of an expression each of whose rows lies in a block of its own; conditions: none. -/
import Derived.Test.YtofdhoefphoaaaaOwnExE
namespace Go.Proofs.Ytofdhoefphoaaaa.copySpec
open Go.RowKit Go.Deep Go base trees built heldStore drawn ownTree ownEx ownExE
set_option linter.unusedVariables false

theorem step_append_at {P : Program} (w : World) {ops : Array Oper} {o : Oper} {a : Act} {K : Act → World → Prop} {Q : Exit → Act → World → Prop} {E : Prop} (hgd : o.guard = none) (s x : Operand) (t : TypeId)
    (ho : o.op = .call { callee := .builtin .append, args := #[s, x], argTypes := #[t, t] }) (dd : Option Tmp) (hd : o.dst = dd)
    (base : Nat) (e : TypeId) (i : TypeInfo) (z : Value) (size bytes : Nat) (ht : P.underlying t = some (.slice e)) (hi : P.info? e = some i) (hz : i.zero = some z)
    (hsize : i.size = size) (hby : i.bytes = bytes) (hzs : z.cells.size = size) (hsz : 0 < size)
    (v : Value) (n : Nat) (xs : List Value) (hs : a.eval s = v) (hown : w.ownsRow base e size v n xs)
    (ad : Addr) (m c : Nat) (news : List Value) (hx : a.eval x = .slice (some ad) m c) (hl : news.length = m * size) (hnews : ∀ j u, news[j]? = some u → w.cell? (ad.add j) = some u) (h1 : ∀ u ∈ news, u.oneCell' = true)
    (h63 : n + m ≤ maxLen) (hbytes : (n + m) * bytes ≤ 140737488355328) (hbase : base ≤ w.heap.size)
    (h : ∀ v' w', w'.ownsRow base e size v' (n + m) (xs ++ news) → w.grownBy w' v.ownBlock → (v'.ownBlock = v.ownBlock ∨ v'.ownBlock = some w.heap.size) → K (a.put dd v') w') :
    if Region.wanted o (yielded ops a.tmps) = true then Oper.wp P o a w K Q else E := by
  subst hd
  have hw : Region.wanted o (yielded ops a.tmps) = true := by simp [Region.wanted, hgd]
  rw [if_pos hw]
  obtain ⟨v', w', hr, h2, h3, h4, h5⟩ := run_append_own_at (P := P) w base t o.type e i z size bytes ht hi hz hsize hby hzs hsz v n xs hown ad m c news hl hnews h1 h63 hbytes hbase
  have := h v' w' h2 h3 h5
  unfold Oper.wp execOp
  simp only [ho, resolve, invoke, builtin, Sem.run_bind, Sem.run_pure, Result.andThen_ok, List.map_toArray, List.map_cons, List.map_nil, hs, hx, hr]
  exact this
theorem grow_form {w : World} {B k d : Nat} {v : Value} {t : T} (h : Grow w B v k d t) : ∃ a c, v = .slice a k c ∧ ∀ g, v.ownBlock = some g → B ≤ g ∧ g < w.heap.size := by
  obtain ⟨f, lo, hi, ho, _⟩ := h
  refine ((?_ : ∃ a c, v = .slice a k c)).elim fun a ⟨c, e⟩ => ⟨a, c, e, World.ownsRow.lt ho⟩
  rcases ho.2 with ⟨e1, e2⟩ | ⟨g, cap, cur, e, _⟩
  · subst e2; exact ⟨_, _, e1⟩
  · exact ⟨_, _, e⟩

def CopE (d : Nat) : Prop := ∀ (t : T) (a : Option Addr) (l c : Nat) (w : World), Rd (fun _ => True) 1048576 w d t a l →
    Calls Try.prog 68 #[.agg #[.int .i64 (kd t), .int .i64 (nn t), .slice a l c]] w fun e w' => ∃ a' c', e = .returned (.agg #[.int .i64 (kd t), .int .i64 (nn t), .slice a' l c']) ∧ Below w.heap.size w w' ∧ Ow w' d t a' l (fun b => w.heap.size ≤ b ∧ b < w'.heap.size)

set_option maxHeartbeats 3200000 in
set_option maxRecDepth 8000 in
theorem copE (d : Nat) : CopE d := by
  induction d using Nat.strongRecOn with
  | _ d ih =>
  intro t a l c w hr
  have hmost := hr.most
  have HR := hid (rd_old hr)
  have HL := hid hr.len
  have HZ := hid hr.zero
  have HI' := hid ih
  clear hr ih
  obtain ⟨i0, hi0, hz0, hz1, hz2⟩ := info_parts info_ex
  have HI := hid hi0
  have HZ0 := hid hz0
  have HZ1 := hid hz1
  have HZ2 := hid hz2
  clear hi0 hz0 hz1 hz2
  go_enter Try.func68, Try.ntmps68
  go_wp2
  go_loopw [4] (fun i wr => ∃ (k : Nat) (av : Option Addr) (cv : Nat), k ≤ l ∧ i = .int .i64 k ∧ Below w.heap.size w wr ∧ w.heap.size + 1 + 1 + 1 ≤ wr.heap.size ∧ Grow wr (w.heap.size + 1 + 1 + 1) (.slice av k cv) k d t ∧
    (wr.cell? ⟨w.heap.size + 1 + 1, 0, none⟩ = some (.int .i64 (kd t)) ∧ wr.cell? ⟨w.heap.size + 1 + 1, 1, none⟩ = some (.int .i64 (nn t)) ∧ wr.cell? ⟨w.heap.size + 1 + 1, 2, none⟩ = some (.slice av k cv)) ∧ wr.cell? ⟨w.heap.size, 2, none⟩ = some (.slice a l c) ∧
    (wr.cell? ⟨w.heap.size + 1, 0, none⟩ = some (.int .i64 0) ∧ wr.cell? ⟨w.heap.size + 1, 1, none⟩ = some (.int .i64 0) ∧ wr.cell? ⟨w.heap.size + 1, 2, none⟩ = some (.slice none 0 0)) ∧
    (∀ x, wr.frozen? ⟨w.heap.size + 1, x, none⟩ = false ∧ wr.frozen? ⟨w.heap.size + 1 + 1, x, none⟩ = false)) (fun i _ => l - (intOf i).toNat)
  case atStart => exact ⟨0, none, 0, Nat.zero_le _, rfl, (by repeat (first | exact Below.refl _ _ | assumption | refine Below.drew ?_ | refine Below.alloc ?_ (by first | exact Nat.le_refl _ | omega | (simp; done) | (simp; omega)) _ | refine Below.setCell ?_ (by first | exact Nat.le_refl _ | omega | (simp; done) | (simp; omega)) _)), by simp, Grow.nil _ _ _ _, ⟨by simp [go_sem], by simp [go_sem], by simp [go_sem]⟩, by simp [go_sem], ⟨by simp [go_sem], by simp [go_sem], by simp [go_sem]⟩, fun x => ⟨by simp [go_sem], by simp [go_sem]⟩⟩
  case round =>
    obtain ⟨k, av, cv, hk, rfl, hb, hsz, hgr, ⟨o0, o1, o2⟩, x2, ⟨z0, z1, z2⟩, hfr⟩ := hrel
    have HB := hid hb
    have HG := hid hgr
    have HFr := hid hfr
    clear hb hgr hfr
    by_cases hlt : k < l
    · obtain ⟨hd0, b, off, rfl, hbo, hc0, hc1, a', l', c', hc2, hrow⟩ := HR.out.cell hlt
      have hbl := hbo.2
      have C0 := hid (keep HB.out hc0)
      have C1 := hid (keep HB.out hc1)
      have C2 := hid (keep HB.out hc2)
      have HX := hid ((hrow.imp (q' := fun _ => True) fun _ _ => trivial).below HB.out)
      have O0 := hid o0
      have O1 := hid o1
      have O2 := hid o2
      have X2 := hid x2
      have Z0 := hid z0
      have Z1 := hid z1
      have Z2 := hid z2
      obtain ⟨_, _, _, hown⟩ := grow_form HG.out
      have HOwn := hid hown
      clear hrow hc0 hc1 hc2 o0 o1 z0 z1 z2 hown hbo
      go_wp2
      clear o2 x2
      refine region_goes 11 12 (fun w' => w'.cell? ⟨w.heap.size + 1 + 1, 2, none⟩ = some (.slice av k cv) ∧ w'.cell? ⟨w.heap.size, 2, none⟩ = some (.slice (some ⟨b, off, none⟩) l c) ∧ w'.cell? ⟨b, off + k * 3, none⟩ = some (.int .i64 (kd (kid t k))) ∧ w'.cell? ⟨b, off + k * 3 + 1, none⟩ = some (.int .i64 (nn (kid t k))) ∧ w'.cell? ⟨b, off + k * 3 + 2, none⟩ = some (.slice a' l' c')) (by kernel_rfl) (by rfl) ⟨by kernel_rfl, by kernel_rfl, by kernel_rfl, by decide⟩ ⟨O2.out, X2.out, C0.out, C1.out, C2.out⟩ (fun hE inv hHeld => ?_)
      refine Goes.take (i := 0) (v := ?vu0) (some 17) hE rfl rfl inv (by kernel_rfl) (by kernel_rfl) (by decide) (fun _ _ _ h => h) (Or.inl ⟨by rfl, ?yu0⟩) (by assumption) (fun inv => ?ru0)
      case yu0 => (intro w' hSw; (try dsimp only at hSw); obtain ⟨s0, s1, s2, s3, s4⟩ := hSw; go_simp; (try with_reducible rfl))
      simp only [Act.put, List.setIfInBounds_toArray, List.set_cons_zero, List.set_cons_succ]
      refine Goes.take (i := 1) (v := ?vu1) (some 18) hE rfl rfl inv (by kernel_rfl) (by kernel_rfl) (by decide) (fun _ _ _ h => h) (Or.inl ⟨by rfl, ?yu1⟩) (by assumption) (fun inv => ?ru1)
      case yu1 => (intro w' hSw; (try dsimp only at hSw); obtain ⟨s0, s1, s2, s3, s4⟩ := hSw; go_simp; (try with_reducible rfl))
      simp only [Act.put, List.setIfInBounds_toArray, List.set_cons_zero, List.set_cons_succ]
      refine Goes.take (i := 2) (v := ?vu2) (some 19) hE rfl rfl inv (by kernel_rfl) (by kernel_rfl) (by decide) (fun _ _ _ h => h) (Or.inl ⟨by rfl, ?yu2⟩) (by assumption) (fun inv => ?ru2)
      case yu2 => (intro w' hSw; (try dsimp only at hSw); obtain ⟨s0, s1, s2, s3, s4⟩ := hSw; go_simp; (try with_reducible rfl))
      simp only [Act.put, List.setIfInBounds_toArray, List.set_cons_zero, List.set_cons_succ]
      refine Goes.take (i := 3) (v := ?vu3) (some 20) hE rfl rfl inv (by kernel_rfl) (by kernel_rfl) (by decide) (fun _ _ _ h => h) (Or.inl ⟨by rfl, ?yu3⟩) (by assumption) (fun inv => ?ru3)
      case yu3 => (intro w' hSw; (try dsimp only at hSw); obtain ⟨s0, s1, s2, s3, s4⟩ := hSw; go_simp; (try with_reducible rfl))
      simp only [Act.put, List.setIfInBounds_toArray, List.set_cons_zero, List.set_cons_succ]
      refine Goes.take (i := 4) (v := ?vu4) (some 21) hE rfl rfl inv (by kernel_rfl) (by kernel_rfl) (by decide) (fun _ _ _ h => h) (Or.inl ⟨by rfl, ?yu4⟩) (by assumption) (fun inv => ?ru4)
      case yu4 => (intro w' hSw; (try dsimp only at hSw); obtain ⟨s0, s1, s2, s3, s4⟩ := hSw; go_simp; (try with_reducible rfl))
      simp only [Act.put, List.setIfInBounds_toArray, List.set_cons_zero, List.set_cons_succ]
      refine Goes.take (i := 5) (v := ?vu5) (some 22) hE rfl rfl inv (by kernel_rfl) (by kernel_rfl) (by decide) (fun _ _ _ h => h) (Or.inl ⟨by rfl, ?yu5⟩) (by assumption) (fun inv => ?ru5)
      case yu5 => (intro w' hSw; (try dsimp only at hSw); obtain ⟨s0, s1, s2, s3, s4⟩ := hSw; go_simp; (try with_reducible rfl))
      simp only [Act.put, List.setIfInBounds_toArray, List.set_cons_zero, List.set_cons_succ]
      refine Goes.take (i := 6) (v := ?vu6) (some 23) hE rfl rfl inv (by kernel_rfl) (by kernel_rfl) (by decide) (fun _ _ _ h => h) (Or.inl ⟨by rfl, ?yu6⟩) (by assumption) (fun inv => ?ru6)
      case yu6 => (intro w' hSw; (try dsimp only at hSw); obtain ⟨s0, s1, s2, s3, s4⟩ := hSw; go_simp; (try with_reducible rfl))
      simp only [Act.put, List.setIfInBounds_toArray, List.set_cons_zero, List.set_cons_succ]
      refine Goes.one (i := 7) inv (by kernel_rfl) (by decide) rfl (fun inv K' hK => ?_)
      go_simp
      refine (HI'.out (d - 1) (by omega) (kid t k) a' l' c' _ (HX.out.below (below_drewN _ 1))).mono ?_
      rintro e w1 ⟨a1, c1, rfl, hb1', ho1'⟩
      have HB1 : Hid (Below wr.heap.size wr w1) := (below_drewN wr 1).trans hb1'
      have HO1 : Hid (Ow w1 (d - 1) (kid t k) a1 l' (fun b => wr.heap.size ≤ b ∧ b < w1.heap.size)) := ho1'
      clear hb1' ho1'
      (try go_wp2_with fail)
      refine hK.out _ _ ⟨keep HB1.out O2.out, keep HB1.out X2.out, keep HB1.out C0.out, keep HB1.out C1.out, keep HB1.out C2.out⟩ (fun hHeld => ?_)
      clear hK K'
      have HA1 : Hid (Below w1.heap.size w1 (w1.alloc (.cells #[.int .i64 (kd (kid t k)), .int .i64 (nn (kid t k)), .slice a1 l' c1] 33))) := (by repeat (first | exact Below.refl _ _ | assumption | refine Below.drew ?_ | refine Below.alloc ?_ (by first | exact Nat.le_refl _ | omega | (simp; done) | (simp; omega)) _ | refine Below.setCell ?_ (by first | exact Nat.le_refl _ | omega | (simp; done) | (simp; omega)) _))
      have HB1A := hid (HB1.out.trans (HA1.out.mono HB1.out.size))
      refine Goes.one (i := 8) inv (by kernel_rfl) (by decide) rfl (fun inv K' hK => ?_)
      go_simp
      refine hK.out _ _ ⟨keep HB1A.out O2.out, keep HB1A.out X2.out, keep HB1A.out C0.out, keep HB1A.out C1.out, keep HB1A.out C2.out⟩ (fun hHeld => ?_)
      clear hK K'
      obtain ⟨xs, hxs⟩ := (HG.out.below HB1A.out).owns
      have HX1 := hid hxs
      have hs1 := HB1.out.size
      clear hxs
      refine Goes.one (i := 9) inv (by kernel_rfl) (by decide) rfl (fun inv K' hK => ?_)
      refine step_append_at _ (by rfl) _ _ 31 (by rfl) (some 26) (by rfl) (w.heap.size + 1 + 1 + 1) 33 i0 _ 3 40 Try.underlying31 HI.out HZ0.out HZ1.out HZ2.out rfl (by decide) (.slice av k cv) k xs (by rfl) HX1.out ⟨w1.heap.size, 0, none⟩ 1 1 [.int .i64 (kd (kid t k)), .int .i64 (nn (kid t k)), .slice a1 l' c1] (by rfl) rfl (three_at (cell_new _ _ _ rfl) (cell_new _ _ _ rfl) (cell_new _ _ _ rfl)) (fun u hu => by simp at hu; rcases hu with rfl | rfl | rfl <;> rfl) (by unfold maxLen; omega) (by omega) (by simp; omega) ?_
      intro v2 w2 hown2 hg2 hat2
      have HG2 := hid (HG.out.next (W := wr) (w1 := w1.alloc _) (by omega) HB1A.out ((HO1.out.below HA1.out).sub fun b hb => ⟨hb.1, by simp; omega⟩) HX1.out hown2 hg2 hat2)
      have hfar : ∀ b, b < w.heap.size + 1 + 1 + 1 → w2.heap[b]? = wr.heap[b]? := fun b hb => (hg2.block b (by simp; omega) (fun e => by have := (HOwn.out b e.symm).1; omega)).trans (HB1A.out.block b (by omega))
      have hfc : ∀ b o v, b < w.heap.size + 1 + 1 + 1 → wr.cell? ⟨b, o, none⟩ = some v → w2.cell? ⟨b, o, none⟩ = some v := fun b o v hb hv => (World.cell?_of_block (a := ⟨b, o, none⟩) (hfar b hb)).trans hv
      have HFar := hid hfar
      have HFc := hid hfc
      have HB2 : Hid (Below w.heap.size w w2) := (HB.out.trans (HB1A.out.mono HB.out.size)).grown hg2 (by simp; omega) (fun j hj => by have := (HOwn.out j hj).1; omega)
      have hs2 : w.heap.size + 1 + 1 + 1 ≤ w2.heap.size := by have := hg2.size; simp at this; omega
      obtain ⟨av2, cv2, hv2, _⟩ := grow_form HG2.out
      subst hv2
      clear hown2 hg2 hat2 hfar hfc
      refine hK.out _ _ ⟨HFc.out _ _ _ (by omega) O2.out, HFc.out _ _ _ (by omega) X2.out, HFc.out _ _ _ (by omega) C0.out, HFc.out _ _ _ (by omega) C1.out, HFc.out _ _ _ (by omega) C2.out⟩ (fun hHeld => ?_)
      clear hK K'
      simp only [Act.put, List.setIfInBounds_toArray, List.set_cons_zero, List.set_cons_succ]
      refine Goes.take (i := 10) (v := ?vu9) (some 27) hE rfl rfl inv (by kernel_rfl) (by kernel_rfl) (by decide) (fun _ _ _ h => h) (Or.inl ⟨by rfl, ?yu9⟩) (by assumption) (fun inv => ?ru9)
      case yu9 => (intro w' hSw; (try dsimp only at hSw); obtain ⟨s0, s1, s2, s3, s4⟩ := hSw; go_simp; (try with_reducible rfl))
      simp only [Act.put, List.setIfInBounds_toArray, List.set_cons_zero, List.set_cons_succ]
      refine Goes.last (by kernel_rfl) (by kernel_rfl) rfl (fun K' hK => ?_)
      have p2 := HFc.out _ _ _ (by omega) O2.out
      have q2 : w2.frozen? ⟨w.heap.size + 1 + 1, 2, none⟩ = false := (World.frozen?_of_block (a := ⟨w.heap.size + 1 + 1, 2, none⟩) (HFar.out (w.heap.size + 1 + 1) (by omega))).trans (HFr.out 2).2
      go_simp
      refine hK.out _ _ ?_
      clear hK K'
      have F0 := hid ((World.cell?_setCell_other w2 ⟨w.heap.size + 1 + 1, 2, none⟩ ⟨w.heap.size + 1 + 1, 0, none⟩ (.slice av2 (k + 1) cv2) (by simp)).trans (HFc.out _ _ _ (by omega) O0.out))
      have F1 := hid ((World.cell?_setCell_other w2 ⟨w.heap.size + 1 + 1, 2, none⟩ ⟨w.heap.size + 1 + 1, 1, none⟩ (.slice av2 (k + 1) cv2) (by simp)).trans (HFc.out _ _ _ (by omega) O1.out))
      have F2 := hid (World.cell?_setCell_same w2 ⟨w.heap.size + 1 + 1, 2, none⟩ (.slice av2 (k + 1) cv2) p2)
      have FX := hid ((World.cell?_setCell_other w2 ⟨w.heap.size + 1 + 1, 2, none⟩ ⟨w.heap.size, 2, none⟩ (.slice av2 (k + 1) cv2) (by first | (simp; done) | (simp; omega))).trans (HFc.out _ _ _ (by omega) X2.out))
      have G0 := hid ((World.cell?_setCell_other w2 ⟨w.heap.size + 1 + 1, 2, none⟩ ⟨w.heap.size + 1, 0, none⟩ (.slice av2 (k + 1) cv2) (by simp)).trans (HFc.out _ _ _ (by omega) Z0.out))
      have G1 := hid ((World.cell?_setCell_other w2 ⟨w.heap.size + 1 + 1, 2, none⟩ ⟨w.heap.size + 1, 1, none⟩ (.slice av2 (k + 1) cv2) (by simp)).trans (HFc.out _ _ _ (by omega) Z1.out))
      have G2 := hid ((World.cell?_setCell_other w2 ⟨w.heap.size + 1 + 1, 2, none⟩ ⟨w.heap.size + 1, 2, none⟩ (.slice av2 (k + 1) cv2) (by simp)).trans (HFc.out _ _ _ (by omega) Z2.out))
      have HG3 : Hid (Grow (w2.setCell ⟨w.heap.size + 1 + 1, 2, none⟩ (.slice av2 (k + 1) cv2)) (w.heap.size + 1 + 1 + 1) (.slice av2 (k + 1) cv2) (k + 1) d t) := by
        obtain ⟨f, lo, hi, h1, h2, h3⟩ := HG2.out
        refine ⟨f, lo, hi, owns_kept h1 fun g e => Below.heap_setCell _ _ _ _ (show g ≠ w.heap.size + 1 + 1 by have := (World.ownsRow.lt h1 g e).1; omega), fun i hi' => ⟨(h2 i hi').1, by simpa [World.setCell] using (h2 i hi').2.1, (h2 i hi').2.2.1.kept fun b hb _ => Below.heap_setCell _ _ _ _ (show b ≠ w.heap.size + 1 + 1 by have := (h2 i hi').1; omega), (h2 i hi').2.2.2⟩, h3⟩
      have HB3 := hid (HB2.out.setCell (show w.heap.size ≤ (⟨w.heap.size + 1 + 1, 2, none⟩ : Addr).block by dsimp only; omega) (.slice av2 (k + 1) cv2))
      have HF3 : Hid (∀ x, (w2.setCell ⟨w.heap.size + 1 + 1, 2, none⟩ (.slice av2 (k + 1) cv2)).frozen? ⟨w.heap.size + 1, x, none⟩ = false ∧ (w2.setCell ⟨w.heap.size + 1 + 1, 2, none⟩ (.slice av2 (k + 1) cv2)).frozen? ⟨w.heap.size + 1 + 1, x, none⟩ = false) := by
        intro x
        rw [World.frozen?_setCell, World.frozen?_setCell]
        exact ⟨(World.frozen?_of_block (a := ⟨w.heap.size + 1, x, none⟩) (HFar.out (w.heap.size + 1) (by omega))).trans (HFr.out x).1, (World.frozen?_of_block (a := ⟨w.heap.size + 1 + 1, x, none⟩) (HFar.out (w.heap.size + 1 + 1) (by omega))).trans (HFr.out x).2⟩
      clear p2 q2
      (try simp only [Exit.inBlock, Exit.then])
      go_wp2
      exact ⟨⟨k + 1, av2, cv2, by omega, by go_num, HB3.out, by simpa [World.setCell] using hs2, HG3.out, ⟨F0.out, F1.out, F2.out⟩, FX.out, ⟨G0.out, G1.out, G2.out⟩, HF3.out⟩, by simp [intOf]; omega⟩
    · have e : k = l := by omega
      subst e
      obtain ⟨a2, c2, e2, ho2⟩ := HG.out.done HL.out HZ.out hmost
      cases e2
      have g0 := (HFr.out 0).1
      have g1 := (HFr.out 1).1
      have g2 := (HFr.out 2).1
      have HO := hid (ho2.kept fun b hb _ => set3_heap wr (R := w.heap.size + 1) (b := b) (by omega) (.int .i64 (kd t)) (.int .i64 (nn t)) (.slice av k cv))
      have HB3 := hid (below_set3 HB.out (R := w.heap.size + 1) (by omega) (.int .i64 (kd t)) (.int .i64 (nn t)) (.slice av k cv))
      clear ho2
      go_wp2
      refine bodyPost_ret (v := .agg #[.int .i64 (kd t), .int .i64 (nn t), .slice av k cv]) (by simp [results, Try.results68, go_sem, z0, z1, z2]) rfl ⟨av, cv, rfl, HB3.out, HO.out.sub fun b hb => ⟨by omega, by simpa [World.setCell] using hb.2⟩⟩
end Go.Proofs.Ytofdhoefphoaaaa.copySpec
