/- What an import's line says behind its routers, of the program; conditions: numbers as in a right network, the library's table of powers as it is laid. -/
import Derived.Test.YtffacjebnbplaaaGreatDoorNetBytes
import Derived.Test.YtffacjebnbplaaaGreatDoorDrawn
import Derived.Maps.AppendAt
import Derived.OwnWalk
import Derived.WalkSpells
namespace Go.Proofs.YtffacjebnbplaaaGreatDoor.netDeed
open Go.RowKit Go.Deep Go base netSem netLines netBytes heldStore drawn
set_option linter.unusedVariables false

theorem info_string : (Tryz.prog.info? 9).map (fun i => (i.zero, i.size, i.bytes)) = some (some (.string ⟨#[]⟩), 1, 16) := by kernel_rfl
theorem World.ownsRow.below' {B n : Nat} {w w1 : World} {v : Value} {t : TypeId} {s : Nat} {xs : List Value} (h : w.ownsRow B t s v n xs) (hb : Below w.heap.size w w1) : w1.ownsRow B t s v n xs := netLines.own_pass h hb
theorem step_append_at {P : Program} (w : World) {ops : Array Oper} {o : Oper} {a : Act} {K : Act → World → Prop} {Q : Exit → Act → World → Prop} {E : Prop} (hgd : o.guard = none) (s x : Operand) (t : TypeId)
    (ho : o.op = .call { callee := .builtin .append, args := #[s, x], argTypes := #[t, t] }) (dd : Option Tmp) (hd : o.dst = dd)
    (base : Nat) (e : TypeId) (i : TypeInfo) (z : Value) (size bytes : Nat) (ht : P.underlying t = some (.slice e)) (hi : P.info? e = some i) (hz : i.zero = some z)
    (hsize : i.size = size) (hby : i.bytes = bytes) (hzs : z.cells.size = size) (hsz : 0 < size)
    (v : Value) (n : Nat) (xs : List Value) (hs : a.eval s = v) (hown : w.ownsRow base e size v n xs)
    (ad : Addr) (m c : Nat) (news : List Value) (hx : a.eval x = .slice (some ad) m c) (hl : news.length = m * size) (hnews : ∀ j u, news[j]? = some u → w.cell? (ad.add j) = some u) (h1 : ∀ u ∈ news, u.oneCell' = true)
    (h63 : n + m ≤ maxLen) (hbytes : (n + m) * bytes ≤ 140737488355328) (hbase : base ≤ w.heap.size)
    (h : ∀ v' w', w'.ownsRow base e size v' (n + m) (xs ++ news) → w.grownBy w' v.ownBlock → (v'.ownBlock = v.ownBlock ∨ v'.ownBlock = some w.heap.size) → K (a.put dd v') w') :
    if Region.wanted o (yielded ops a.tmps) = true then Oper.wp P o a w K Q else E := by
  subst hd
  have hw : Region.wanted o (yielded ops a.tmps) = true := by simp [Region.wanted, hgd]
  rw [if_pos hw]
  obtain ⟨v', w', hr, h2, h3, h4, h5⟩ := run_append_own_at (P := P) w base t o.type e i z size bytes ht hi hz hsize hby hzs hsz v n xs hown ad m c news hl hnews h1 h63 hbytes hbase
  have := h v' w' h2 h3 h5
  unfold Oper.wp execOp
  simp only [ho, resolve, invoke, builtin, Sem.run_bind, Sem.run_pure, Result.andThen_ok, List.map_toArray, List.map_cons, List.map_nil, hs, hx, hr]
  exact this

theorem cell_one (w : World) (x : Value) (t : TypeId) : ∀ (j : Nat) (u : Value), [x][j]? = some u → (w.alloc (.cells #[x] t)).cell? ((⟨w.heap.size, 0, none⟩ : Addr).add j) = some u := by
  intro j u h
  match j, h with
  | 0, h => cases h; simp [Addr.add, go_sem]
  | _ + 1, h => simp at h
theorem cell_two (w : World) (x y : Value) (t : TypeId) : ∀ (j : Nat) (u : Value), [x, y][j]? = some u → (w.alloc (.cells #[x, y] t)).cell? ((⟨w.heap.size, 0, none⟩ : Addr).add j) = some u := by
  intro j u h
  match j, h with
  | 0, h => cases h; simp [Addr.add, go_sem]
  | 1, h => cases h; simp [Addr.add, go_sem]
  | _ + 2, h => simp at h
theorem when_impl (w : World) : Calls Tryz.prog 60 #[] w fun e w' => ∃ N, e = .returned (.slice (some ⟨N, 0, none⟩) 3 3) ∧ (∀ i, i < 3 → w'.cell? ⟨N, i, none⟩ = some (.string (whenN i))) ∧ Below w.heap.size w w' := by
  go_enter Tryz.func60, Tryz.ntmps60
  go_wp2
  go_ret
  refine ⟨_, rfl, fun i hi => ?_, (by repeat (first | exact Below.refl _ _ | assumption | refine Below.drew ?_ | refine Below.alloc ?_ (by first | exact Nat.le_refl _ | omega | (simp; done) | (simp; omega)) _ | refine Below.setCell ?_ (by first | exact Nat.le_refl _ | omega | (simp; done) | (simp; omega)) _))⟩
  obtain rfl | rfl | rfl : i = 0 ∨ i = 1 ∨ i = 2 := by omega
  all_goals simp [go_sem, whenN]
theorem do_impl (w : World) : Calls Tryz.prog 61 #[] w fun e w' => ∃ N, e = .returned (.slice (some ⟨N, 0, none⟩) 5 5) ∧ (∀ i, i < 5 → w'.cell? ⟨N, i, none⟩ = some (.string (doN i))) ∧ Below w.heap.size w w' := by
  go_enter Tryz.func61, Tryz.ntmps61
  go_wp2
  go_ret
  refine ⟨_, rfl, fun i hi => ?_, (by repeat (first | exact Below.refl _ _ | assumption | refine Below.drew ?_ | refine Below.alloc ?_ (by first | exact Nat.le_refl _ | omega | (simp; done) | (simp; omega)) _ | refine Below.setCell ?_ (by first | exact Nat.le_refl _ | omega | (simp; done) | (simp; omega)) _))⟩
  obtain rfl | rfl | rfl | rfl | rfl : i = 0 ∨ i = 1 ∨ i = 2 ∨ i = 3 ∨ i = 4 := by omega
  all_goals simp [go_sem, doN]

/-- A row of words of the call's own. -/
abbrev OwnS (B : Nat) (w : World) (v : Value) (xs : List ByteArray) : Prop := w.ownsRow B 9 1 v xs.length (xs.map Value.string)

theorem own_mono {B B' n : Nat} {w : World} {v : Value} {t : TypeId} {s : Nat} {xs : List Value} (h : w.ownsRow B t s v n xs) (hb : B' ≤ B) : w.ownsRow B' t s v n xs := by
  obtain ⟨h1, h2⟩ := h
  refine ⟨h1, ?_⟩
  rcases h2 with h2 | ⟨g, cap, cur, e, hg, hh, hn, hm, hs, ht⟩
  · exact .inl h2
  · exact .inr ⟨g, cap, cur, e, Nat.le_trans hb hg, hh, hn, hm, hs, ht⟩

set_option maxHeartbeats 3200000 in
set_option maxRecDepth 8000 in
theorem deed_impl (za zb : Int) (h d n : Nat) (w : World) (hh : h ≤ 2) (hd1 : 1 ≤ d) (hd4 : d ≤ 4) (hn : n ≤ 1000) (ht : TabW w) :
    Calls Tryz.prog 30 #[.agg #[.int .i64 za, .int .i64 zb, .int .i64 (h : Int), .int .i64 (d : Int), .int .i64 (n : Int)]] w fun e w' => ∃ v, e = .returned v ∧ OwnS w.heap.size w' v (deedW h d n) ∧ Below w.heap.size w w' := by
  have HT := hid ht
  obtain ⟨i0, hi, hzz⟩ := Option.map_eq_some_iff.1 info_string
  simp only [Prod.mk.injEq] at hzz
  obtain ⟨hz0, hz1, hz2⟩ := hzz
  have HI := hid hi
  have HZ0 := hid hz0
  have HZ1 := hid hz1
  have HZ2 := hid hz2
  have HK : Hid (∀ w8 : World, Below (w.heap.size + 1) (w.alloc (.cells #[.int .i64 za, .int .i64 zb, .int .i64 (h : Int), .int .i64 (d : Int), .int .i64 (n : Int)] 65)) w8 → w8.cell? ⟨w.heap.size, 2, none⟩ = some (.int .i64 (h : Int)) ∧ w8.cell? ⟨w.heap.size, 3, none⟩ = some (.int .i64 (d : Int)) ∧ w8.cell? ⟨w.heap.size, 4, none⟩ = some (.int .i64 (n : Int)) ∧ Below w.heap.size w w8) := fun w8 hb => ⟨by
      rw [hb.cell (p := ⟨w.heap.size, 2, none⟩) (by simp)]; simp [go_sem], by
      rw [hb.cell (p := ⟨w.heap.size, 3, none⟩) (by simp)]; simp [go_sem], by
      rw [hb.cell (p := ⟨w.heap.size, 4, none⟩) (by simp)]; simp [go_sem], (show Below w.heap.size w _ from (by repeat (first | exact Below.refl _ _ | assumption | refine Below.drew ?_ | refine Below.alloc ?_ (by first | exact Nat.le_refl _ | omega | (simp; done) | (simp; omega)) _ | refine Below.setCell ?_ (by first | exact Nat.le_refl _ | omega | (simp; done) | (simp; omega)) _))).trans (hb.mono (by omega))⟩
  have HWA : Hid (Below (w.heap.size + 1) (w.alloc (.cells #[.int .i64 za, .int .i64 zb, .int .i64 (h : Int), .int .i64 (d : Int), .int .i64 (n : Int)] 65)) (w.alloc (.cells #[.int .i64 za, .int .i64 zb, .int .i64 (h : Int), .int .i64 (d : Int), .int .i64 (n : Int)] 65))) := hid (Below.refl _ _)
  have SA : Hid (w.heap.size + 1 ≤ ((w.alloc (.cells #[.int .i64 za, .int .i64 zb, .int .i64 (h : Int), .int .i64 (d : Int), .int .i64 (n : Int)] 65))).heap.size) := hid (by simp)
  have OA : Hid (((w.alloc (.cells #[.int .i64 za, .int .i64 zb, .int .i64 (h : Int), .int .i64 (d : Int), .int .i64 (n : Int)] 65))).ownsRow (w.heap.size + 1) 9 1 (.slice none 0 0) 0 []) := hid (World.ownsRow_nil _ _ _ _)
  clear ht hi hz0 hz1 hz2
  go_enter Tryz.func30, Tryz.ntmps30
  by_cases h0 : h = 0
  · have d0 : ((h : Int) != 0) = false := by simp [h0]
    have HD0 : Hid (deedW h d n = [doN d] ++ prefW d n) := hid (by simp [deedW, whenW, h0])
    clear h0
    go_wp2
    have hi5 : (d : Int) < 5 := by omega
    refine region_goes 8 9 (fun w' => w'.cell? ⟨w.heap.size, 3, none⟩ = some (.int .i64 (d : Int))) (by kernel_rfl) (by rfl) ⟨by kernel_rfl, by kernel_rfl, by kernel_rfl, by decide⟩ (HK.out _ HWA.out.drew).2.1 (fun hE inv hHeld => ?_)
    refine Goes.take (i := 0) (v := ?vucA0) (some 15) hE rfl rfl inv (by kernel_rfl) (by kernel_rfl) (by decide) (fun _ _ _ h => h) (Or.inl ⟨by rfl, ?yucA0⟩) (by assumption) (fun inv => ?rucA0)
    case yucA0 => (intro w' hSw; (try dsimp only at hSw); go_simp; (try with_reducible rfl))
    simp only [Act.put, List.setIfInBounds_toArray, List.set_cons_zero, List.set_cons_succ]
    refine Goes.take (i := 2) (v := ?vucA2) (some 17) hE rfl rfl inv (by kernel_rfl) (by kernel_rfl) (by decide) (fun _ _ _ h => h) (Or.inl ⟨by rfl, ?yucA2⟩) (by assumption) (fun inv => ?rucA2)
    case yucA2 => (intro w' hSw; (try dsimp only at hSw); go_simp; (try with_reducible rfl))
    simp only [Act.put, List.setIfInBounds_toArray, List.set_cons_zero, List.set_cons_succ]
    refine Goes.take (i := 3) (v := ?vucA3) (some 18) hE rfl rfl inv (by kernel_rfl) (by kernel_rfl) (by decide) (fun _ _ _ h => h) (Or.inl ⟨by rfl, ?yucA3⟩) (by assumption) (fun inv => ?rucA3)
    case yucA3 => (intro w' hSw; (try dsimp only at hSw); go_simp; (try with_reducible rfl))
    simp only [Act.put, List.setIfInBounds_toArray, List.set_cons_zero, List.set_cons_succ]
    refine Goes.one (i := 1) inv (by kernel_rfl) (by decide) rfl (fun inv K' hK => ?_)
    go_simp
    refine (do_impl _).mono ?_
    rintro e wc1 ⟨Nc, rfl, hcc, hbc⟩
    have HCc := hid (hcc d (by omega))
    have HBc := hid (HWA.out.drew.trans (hbc.mono SA.out))
    have HZc := hid hbc.size
    have HRc := hid (World.ownsRow.below' (OA.out) ((Below.refl _ _).drew.trans hbc))
    have hlc := World.block_lt_of_cell? _ _ HCc.out
    clear hcc hbc
    (try go_wp2_with fail)
    refine hK.out _ _ (HK.out _ HBc.out).2.1 (fun hHeld => ?_)
    clear hK K'
    (try simp only [Act.put, List.setIfInBounds_toArray, List.set_cons_zero, List.set_cons_succ])
    refine Goes.one (i := 4) inv (by kernel_rfl) (by decide) rfl (fun inv K' hK => ?_)
    go_simp
    refine hK.out _ _ (HK.out _ HBc.out).2.1 (fun hHeld => ?_)
    clear hK K'
    (try simp only [Act.put, List.setIfInBounds_toArray, List.set_cons_zero, List.set_cons_succ])
    have hcc := HCc.out
    refine Goes.one (i := 5) inv (by kernel_rfl) (by decide) rfl (fun inv K' hK => ?_)
    go_simp
    refine hK.out _ _ (HK.out _ HBc.out).2.1 (fun hHeld => ?_)
    clear hK K' hcc
    (try simp only [Act.put, List.setIfInBounds_toArray, List.set_cons_zero, List.set_cons_succ])
    have HSc : Hid (w.heap.size + 1 ≤ wc1.heap.size) := hid (Nat.le_trans SA.out HZc.out)
    have HAc := hid (HBc.out.alloc HSc.out (.cells #[.string (doN d)] 9))
    have HDc := hid (World.ownsRow.alloc HRc.out (.cells #[.string (doN d)] 9))
    refine Goes.one (i := 6) inv (by kernel_rfl) (by decide) rfl (fun inv K' hK => ?_)
    go_simp
    refine hK.out _ _ (HK.out _ HAc.out).2.1 (fun hHeld => ?_)
    clear hK K'
    (try simp only [Act.put, List.setIfInBounds_toArray, List.set_cons_zero, List.set_cons_succ])
    refine Goes.one (i := 7) inv (by kernel_rfl) (by decide) rfl (fun inv K' hK => ?_)
    refine step_append_at _ (by rfl) _ _ 23 (by rfl) (some 22) (by rfl) (w.heap.size + 1) 9 i0 _ 1 16 Tryz.underlying23 HI.out HZ0.out HZ1.out HZ2.out rfl (by decide) _ _ _ (by rfl) HDc.out ⟨wc1.heap.size, 0, none⟩ 1 1 [.string (doN d)] (by rfl) rfl (cell_one _ _ _) (fun u hu => by simp at hu; subst hu; rfl) (by unfold maxLen; omega) (by omega) (by have := HSc.out; simp; omega) ?_
    intro vc wc2 hownc hgc hatc
    have Oc := hid hownc
    have HWc := hid (HAc.out.grown hgc (by have := HSc.out; simp; omega) (fun k hk => (World.ownsRow.lt HDc.out k hk).1))
    have Sc : Hid (w.heap.size + 1 ≤ wc2.heap.size) := hid (by have h1 := HSc.out; have h2 := hgc.size; simp at h2; omega)
    clear hownc hgc hatc hlc HCc HBc HZc HRc HSc HAc HDc
    refine hK.out _ _ (HK.out _ HWc.out).2.1 (fun hHeld => ?_)
    clear hK K'
    simp only [Act.put, List.setIfInBounds_toArray, List.set_cons_zero, List.set_cons_succ]
    refine Goes.last (by kernel_rfl) (by kernel_rfl) rfl (fun K' hK => ?_)
    go_simp
    refine hK.out _ _ ?_
    clear hK K'
    (try simp only [Exit.then])
    have OC : Hid (OwnS (w.heap.size + 1) wc2 vc [doN d]) := hid Oc.out
    clear Oc
    by_cases q2 : d = 2
    · have dd : ((d : Int) == 2) = true := by simp [q2]
      have HDD : Hid (deedW h d n = [doN d] ++ [numW n]) := hid (by rw [HD0.out]; simp [prefW, q2])
      obtain ⟨c2, c3, c4, hB⟩ := HK.out _ HWc.out
      have BC := hid hB
      clear hB hHeld
      go_wp2_with fail
      refine (itoa_impl (n : Int) _ (by omega) (by omega) (HT.out.below BC.out)).mono ?_
      rintro e w3 ⟨rfl, hb3⟩
      have O3 := hid (World.ownsRow.below' OC.out hb3)
      have H3 := hid (HWc.out.trans (hb3.mono Sc.out))
      have S3 := hid (Nat.le_trans Sc.out hb3.size)
      clear hb3
      go_wp2_with (at_builtin; (refine wpList_append_own _ rfl _ _ 23 rfl (w.heap.size + 1) 9 i0 (.string ⟨#[]⟩) 1 16 Tryz.underlying23 HI.out HZ0.out HZ1.out HZ2.out rfl (by decide) _ _ _ rfl (World.ownsRow.alloc O3.out _) ⟨_, 0, none⟩ 1 1 [.string (numW n)] rfl rfl (cell_one _ _ _) (fun x hx => by simp at hx; subst hx; rfl) (by unfold maxLen; simp) (by simp) (by have := S3.out; simp at this ⊢; omega) ?_); intro v4 w4 hown4 hgrow4 hnil4)
      have HW4 := hid ((H3.out.alloc S3.out _).grown hgrow4 (by have := S3.out; simp; omega) (fun k hk => (World.ownsRow.lt O3.out k hk).1))
      have O4 := hid hown4
      clear hown4 hgrow4 hnil4
      go_wp2
      go_ret
      exact ⟨_, rfl, by rw [HDD.out]; exact own_mono O4.out (by omega), (HK.out _ HW4.out).2.2.2⟩
    · have dd : ((d : Int) == 2) = false := by simp; omega
      have HDD : Hid (deedW h d n = [doN d]) := hid (by rw [HD0.out]; simp [prefW, q2])
      obtain ⟨c2, c3, c4, hB⟩ := HK.out _ HWc.out
      have BC := hid hB
      clear hB hHeld
      go_wp2
      go_ret
      exact ⟨_, rfl, by rw [HDD.out]; exact own_mono OC.out (by omega), BC.out⟩
  · have d0 : ((h : Int) != 0) = true := by simp [h0]
    have hi3 : (h : Int) < 3 := by omega
    have HD0 : Hid (deedW h d n = [⟨#[105, 102]⟩, whenN h, doN d] ++ prefW d n) := hid (by simp [deedW, whenW, h0])
    clear h0
    go_wp2
    refine region_goes 8 9 (fun w' => w'.cell? ⟨w.heap.size, 2, none⟩ = some (.int .i64 (h : Int))) (by kernel_rfl) (by rfl) ⟨by kernel_rfl, by kernel_rfl, by kernel_rfl, by decide⟩ (HK.out _ HWA.out.drew).1 (fun hE inv hHeld => ?_)
    refine Goes.take (i := 0) (v := ?vubA0) (some 7) hE rfl rfl inv (by kernel_rfl) (by kernel_rfl) (by decide) (fun _ _ _ h => h) (Or.inl ⟨by rfl, ?yubA0⟩) (by assumption) (fun inv => ?rubA0)
    case yubA0 => (intro w' hSw; (try dsimp only at hSw); go_simp; (try with_reducible rfl))
    simp only [Act.put, List.setIfInBounds_toArray, List.set_cons_zero, List.set_cons_succ]
    refine Goes.take (i := 2) (v := ?vubA2) (some 9) hE rfl rfl inv (by kernel_rfl) (by kernel_rfl) (by decide) (fun _ _ _ h => h) (Or.inl ⟨by rfl, ?yubA2⟩) (by assumption) (fun inv => ?rubA2)
    case yubA2 => (intro w' hSw; (try dsimp only at hSw); go_simp; (try with_reducible rfl))
    simp only [Act.put, List.setIfInBounds_toArray, List.set_cons_zero, List.set_cons_succ]
    refine Goes.take (i := 3) (v := ?vubA3) (some 10) hE rfl rfl inv (by kernel_rfl) (by kernel_rfl) (by decide) (fun _ _ _ h => h) (Or.inl ⟨by rfl, ?yubA3⟩) (by assumption) (fun inv => ?rubA3)
    case yubA3 => (intro w' hSw; (try dsimp only at hSw); go_simp; (try with_reducible rfl))
    simp only [Act.put, List.setIfInBounds_toArray, List.set_cons_zero, List.set_cons_succ]
    refine Goes.one (i := 1) inv (by kernel_rfl) (by decide) rfl (fun inv K' hK => ?_)
    go_simp
    refine (when_impl _).mono ?_
    rintro e wb1 ⟨Nb, rfl, hcb, hbb⟩
    have HCb := hid (hcb h (by omega))
    have HBb := hid (HWA.out.drew.trans (hbb.mono SA.out))
    have HZb := hid hbb.size
    have HRb := hid (World.ownsRow.below' (OA.out) ((Below.refl _ _).drew.trans hbb))
    have hlb := World.block_lt_of_cell? _ _ HCb.out
    clear hcb hbb
    (try go_wp2_with fail)
    refine hK.out _ _ (HK.out _ HBb.out).1 (fun hHeld => ?_)
    clear hK K'
    (try simp only [Act.put, List.setIfInBounds_toArray, List.set_cons_zero, List.set_cons_succ])
    refine Goes.one (i := 4) inv (by kernel_rfl) (by decide) rfl (fun inv K' hK => ?_)
    go_simp
    refine hK.out _ _ (HK.out _ HBb.out).1 (fun hHeld => ?_)
    clear hK K'
    (try simp only [Act.put, List.setIfInBounds_toArray, List.set_cons_zero, List.set_cons_succ])
    have hcb := HCb.out
    refine Goes.one (i := 5) inv (by kernel_rfl) (by decide) rfl (fun inv K' hK => ?_)
    go_simp
    refine hK.out _ _ (HK.out _ HBb.out).1 (fun hHeld => ?_)
    clear hK K' hcb
    (try simp only [Act.put, List.setIfInBounds_toArray, List.set_cons_zero, List.set_cons_succ])
    have HSb : Hid (w.heap.size + 1 ≤ wb1.heap.size) := hid (Nat.le_trans SA.out HZb.out)
    have HAb := hid (HBb.out.alloc HSb.out (.cells #[.string ⟨#[105, 102]⟩, .string (whenN h)] 9))
    have HDb := hid (World.ownsRow.alloc HRb.out (.cells #[.string ⟨#[105, 102]⟩, .string (whenN h)] 9))
    refine Goes.one (i := 6) inv (by kernel_rfl) (by decide) rfl (fun inv K' hK => ?_)
    go_simp
    refine hK.out _ _ (HK.out _ HAb.out).1 (fun hHeld => ?_)
    clear hK K'
    (try simp only [Act.put, List.setIfInBounds_toArray, List.set_cons_zero, List.set_cons_succ])
    refine Goes.one (i := 7) inv (by kernel_rfl) (by decide) rfl (fun inv K' hK => ?_)
    refine step_append_at _ (by rfl) _ _ 23 (by rfl) (some 14) (by rfl) (w.heap.size + 1) 9 i0 _ 1 16 Tryz.underlying23 HI.out HZ0.out HZ1.out HZ2.out rfl (by decide) _ _ _ (by rfl) HDb.out ⟨wb1.heap.size, 0, none⟩ 2 2 [.string ⟨#[105, 102]⟩, .string (whenN h)] (by rfl) rfl (cell_two _ _ _ _) (fun u hu => by simp at hu; rcases hu with rfl | rfl <;> rfl) (by unfold maxLen; omega) (by omega) (by have := HSb.out; simp; omega) ?_
    intro vb wb2 hownb hgb hatb
    have Ob := hid hownb
    have HWb := hid (HAb.out.grown hgb (by have := HSb.out; simp; omega) (fun k hk => (World.ownsRow.lt HDb.out k hk).1))
    have Sb : Hid (w.heap.size + 1 ≤ wb2.heap.size) := hid (by have h1 := HSb.out; have h2 := hgb.size; simp at h2; omega)
    clear hownb hgb hatb hlb HCb HBb HZb HRb HSb HAb HDb
    refine hK.out _ _ (HK.out _ HWb.out).1 (fun hHeld => ?_)
    clear hK K'
    simp only [Act.put, List.setIfInBounds_toArray, List.set_cons_zero, List.set_cons_succ]
    refine Goes.last (by kernel_rfl) (by kernel_rfl) rfl (fun K' hK => ?_)
    go_simp
    refine hK.out _ _ ?_
    clear hK K'
    (try simp only [Exit.then])
    go_wp2
    have hi5 : (d : Int) < 5 := by omega
    refine region_goes 8 9 (fun w' => w'.cell? ⟨w.heap.size, 3, none⟩ = some (.int .i64 (d : Int))) (by kernel_rfl) (by rfl) ⟨by kernel_rfl, by kernel_rfl, by kernel_rfl, by decide⟩ (HK.out _ HWb.out.drew).2.1 (fun hE inv hHeld => ?_)
    refine Goes.take (i := 0) (v := ?vucb0) (some 15) hE rfl rfl inv (by kernel_rfl) (by kernel_rfl) (by decide) (fun _ _ _ h => h) (Or.inl ⟨by rfl, ?yucb0⟩) (by assumption) (fun inv => ?rucb0)
    case yucb0 => (intro w' hSw; (try dsimp only at hSw); go_simp; (try with_reducible rfl))
    simp only [Act.put, List.setIfInBounds_toArray, List.set_cons_zero, List.set_cons_succ]
    refine Goes.take (i := 2) (v := ?vucb2) (some 17) hE rfl rfl inv (by kernel_rfl) (by kernel_rfl) (by decide) (fun _ _ _ h => h) (Or.inl ⟨by rfl, ?yucb2⟩) (by assumption) (fun inv => ?rucb2)
    case yucb2 => (intro w' hSw; (try dsimp only at hSw); go_simp; (try with_reducible rfl))
    simp only [Act.put, List.setIfInBounds_toArray, List.set_cons_zero, List.set_cons_succ]
    refine Goes.take (i := 3) (v := ?vucb3) (some 18) hE rfl rfl inv (by kernel_rfl) (by kernel_rfl) (by decide) (fun _ _ _ h => h) (Or.inl ⟨by rfl, ?yucb3⟩) (by assumption) (fun inv => ?rucb3)
    case yucb3 => (intro w' hSw; (try dsimp only at hSw); go_simp; (try with_reducible rfl))
    simp only [Act.put, List.setIfInBounds_toArray, List.set_cons_zero, List.set_cons_succ]
    refine Goes.one (i := 1) inv (by kernel_rfl) (by decide) rfl (fun inv K' hK => ?_)
    go_simp
    refine (do_impl _).mono ?_
    rintro e wc1 ⟨Nc, rfl, hcc, hbc⟩
    have HCc := hid (hcc d (by omega))
    have HBc := hid (HWb.out.drew.trans (hbc.mono Sb.out))
    have HZc := hid hbc.size
    have HRc := hid (World.ownsRow.below' (Ob.out) ((Below.refl _ _).drew.trans hbc))
    have hlc := World.block_lt_of_cell? _ _ HCc.out
    clear hcc hbc
    (try go_wp2_with fail)
    refine hK.out _ _ (HK.out _ HBc.out).2.1 (fun hHeld => ?_)
    clear hK K'
    (try simp only [Act.put, List.setIfInBounds_toArray, List.set_cons_zero, List.set_cons_succ])
    refine Goes.one (i := 4) inv (by kernel_rfl) (by decide) rfl (fun inv K' hK => ?_)
    go_simp
    refine hK.out _ _ (HK.out _ HBc.out).2.1 (fun hHeld => ?_)
    clear hK K'
    (try simp only [Act.put, List.setIfInBounds_toArray, List.set_cons_zero, List.set_cons_succ])
    have hcc := HCc.out
    refine Goes.one (i := 5) inv (by kernel_rfl) (by decide) rfl (fun inv K' hK => ?_)
    go_simp
    refine hK.out _ _ (HK.out _ HBc.out).2.1 (fun hHeld => ?_)
    clear hK K' hcc
    (try simp only [Act.put, List.setIfInBounds_toArray, List.set_cons_zero, List.set_cons_succ])
    have HSc : Hid (w.heap.size + 1 ≤ wc1.heap.size) := hid (Nat.le_trans Sb.out HZc.out)
    have HAc := hid (HBc.out.alloc HSc.out (.cells #[.string (doN d)] 9))
    have HDc := hid (World.ownsRow.alloc HRc.out (.cells #[.string (doN d)] 9))
    refine Goes.one (i := 6) inv (by kernel_rfl) (by decide) rfl (fun inv K' hK => ?_)
    go_simp
    refine hK.out _ _ (HK.out _ HAc.out).2.1 (fun hHeld => ?_)
    clear hK K'
    (try simp only [Act.put, List.setIfInBounds_toArray, List.set_cons_zero, List.set_cons_succ])
    refine Goes.one (i := 7) inv (by kernel_rfl) (by decide) rfl (fun inv K' hK => ?_)
    refine step_append_at _ (by rfl) _ _ 23 (by rfl) (some 22) (by rfl) (w.heap.size + 1) 9 i0 _ 1 16 Tryz.underlying23 HI.out HZ0.out HZ1.out HZ2.out rfl (by decide) _ _ _ (by rfl) HDc.out ⟨wc1.heap.size, 0, none⟩ 1 1 [.string (doN d)] (by rfl) rfl (cell_one _ _ _) (fun u hu => by simp at hu; subst hu; rfl) (by unfold maxLen; omega) (by omega) (by have := HSc.out; simp; omega) ?_
    intro vc wc2 hownc hgc hatc
    have Oc := hid hownc
    have HWc := hid (HAc.out.grown hgc (by have := HSc.out; simp; omega) (fun k hk => (World.ownsRow.lt HDc.out k hk).1))
    have Sc : Hid (w.heap.size + 1 ≤ wc2.heap.size) := hid (by have h1 := HSc.out; have h2 := hgc.size; simp at h2; omega)
    clear hownc hgc hatc hlc HCc HBc HZc HRc HSc HAc HDc
    refine hK.out _ _ (HK.out _ HWc.out).2.1 (fun hHeld => ?_)
    clear hK K'
    simp only [Act.put, List.setIfInBounds_toArray, List.set_cons_zero, List.set_cons_succ]
    refine Goes.last (by kernel_rfl) (by kernel_rfl) rfl (fun K' hK => ?_)
    go_simp
    refine hK.out _ _ ?_
    clear hK K'
    (try simp only [Exit.then])
    have OC : Hid (OwnS (w.heap.size + 1) wc2 vc [⟨#[105, 102]⟩, whenN h, doN d]) := hid Oc.out
    clear Oc
    by_cases q2 : d = 2
    · have dd : ((d : Int) == 2) = true := by simp [q2]
      have HDD : Hid (deedW h d n = [⟨#[105, 102]⟩, whenN h, doN d] ++ [numW n]) := hid (by rw [HD0.out]; simp [prefW, q2])
      obtain ⟨c2, c3, c4, hB⟩ := HK.out _ HWc.out
      have BC := hid hB
      clear hB hHeld
      go_wp2_with fail
      refine (itoa_impl (n : Int) _ (by omega) (by omega) (HT.out.below BC.out)).mono ?_
      rintro e w3 ⟨rfl, hb3⟩
      have O3 := hid (World.ownsRow.below' OC.out hb3)
      have H3 := hid (HWc.out.trans (hb3.mono Sc.out))
      have S3 := hid (Nat.le_trans Sc.out hb3.size)
      clear hb3
      go_wp2_with (at_builtin; (refine wpList_append_own _ rfl _ _ 23 rfl (w.heap.size + 1) 9 i0 (.string ⟨#[]⟩) 1 16 Tryz.underlying23 HI.out HZ0.out HZ1.out HZ2.out rfl (by decide) _ _ _ rfl (World.ownsRow.alloc O3.out _) ⟨_, 0, none⟩ 1 1 [.string (numW n)] rfl rfl (cell_one _ _ _) (fun x hx => by simp at hx; subst hx; rfl) (by unfold maxLen; simp) (by simp) (by have := S3.out; simp at this ⊢; omega) ?_); intro v4 w4 hown4 hgrow4 hnil4)
      have HW4 := hid ((H3.out.alloc S3.out _).grown hgrow4 (by have := S3.out; simp; omega) (fun k hk => (World.ownsRow.lt O3.out k hk).1))
      have O4 := hid hown4
      clear hown4 hgrow4 hnil4
      go_wp2
      go_ret
      exact ⟨_, rfl, by rw [HDD.out]; exact own_mono O4.out (by omega), (HK.out _ HW4.out).2.2.2⟩
    · have dd : ((d : Int) == 2) = false := by simp; omega
      have HDD : Hid (deedW h d n = [⟨#[105, 102]⟩, whenN h, doN d]) := hid (by rw [HD0.out]; simp [prefW, q2])
      obtain ⟨c2, c3, c4, hB⟩ := HK.out _ HWc.out
      have BC := hid hB
      clear hB hHeld
      go_wp2
      go_ret
      exact ⟨_, rfl, by rw [HDD.out]; exact own_mono OC.out (by omega), BC.out⟩
end Go.Proofs.YtffacjebnbplaaaGreatDoor.netDeed
