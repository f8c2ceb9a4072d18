import Derived.Test.YtmkhoocokpkojaaGreatDoorPart12
import Derived.Deep.RegionHeld3
import Derived.Deep.AppendLies
import Derived.Deep.DrawnRows
namespace Go.Proofs.YtmkhoocokpkojaaGreatDoor.sorted
open Go.RowKit Go.Deep base copy cnf eval own order
theorem before_rk (a b : Int) : decide (rk a < rk b) = if a.natAbs = b.natAbs then decide (b < a) else decide (a.natAbs < b.natAbs) := by
 rw [Bool.eq_iff_iff]
 unfold rk
 repeat' split
 all_goals simp only [decide_eq_true_eq]
 all_goals omega
set_option maxHeartbeats 400000 in
theorem before_spec (a b : Int) (w : World) (h0 : -40 ≤ a ∧ a ≤ 40) (h1 : -40 ≤ b ∧ b ≤ 40) :
  Calls Tryz.prog 96 #[.int .i64 a, .int .i64 b] w fun e w' => e = .returned (.bool (decide (rk a < rk b))) ∧ w' = w := by
 rw [before_rk]
 have HA : ∀ w, Calls Tryz.prog 81 #[.int .i64 a] w fun e w' => e = .returned (.int .i64 (a.natAbs : Int)) ∧ w' = w := fun w => abs_spec a w (by omega) (by omega)
 have HB : ∀ w, Calls Tryz.prog 81 #[.int .i64 b] w fun e w' => e = .returned (.int .i64 (b.natAbs : Int)) ∧ w' = w := fun w => abs_spec b w (by omega) (by omega)
 replace HA := hid HA
 replace HB := hid HB
 clear h0 h1
 generalize a.natAbs = x at *
 generalize b.natAbs = y at *
 by_cases e : x = y
 · have hq : ((x : Int) != (y : Int)) = false := by simp [e]
   rw [if_pos e]
   clear e
   go_enter Tryz.func96, Tryz.ntmps96
   go_wp2_with fail
   refine (HA.out _).mono ?_
   rintro e w' ⟨rfl, rfl⟩
   go_wp2_with fail
   refine (HB.out _).mono ?_
   rintro e w' ⟨rfl, rfl⟩
   go_wp2
   go_ret
   exact ⟨rfl, rfl⟩
 · have hq : ((x : Int) != (y : Int)) = true := by simp; omega
   rw [if_neg e]
   clear e
   go_enter Tryz.func96, Tryz.ntmps96
   go_wp2_with fail
   refine (HA.out _).mono ?_
   rintro e w' ⟨rfl, rfl⟩
   go_wp2_with fail
   refine (HB.out _).mono ?_
   rintro e w' ⟨rfl, rfl⟩
   go_wp2_with fail
   refine (HA.out _).mono ?_
   rintro e w' ⟨rfl, rfl⟩
   go_wp2_with fail
   refine (HB.out _).mono ?_
   rintro e w' ⟨rfl, rfl⟩
   go_wp2
   go_ret
   exact ⟨ret_bool (by simp), rfl⟩
theorem not_mem_succ {zs : List Int} {l : Int} {k : Nat} (h : k < zs.length) (hn : l ∉ zs.take k) (he : ¬ zs[k]?.getD 0 = l) : l ∉ zs.take (k + 1) := by
 rw [List.take_succ_eq_append_getElem h, List.mem_append, List.mem_singleton]
 rw [List.getElem?_eq_getElem h] at he
 rintro (hm | rfl)
 · exact hn hm
 · exact he rfl
theorem mem_at {zs : List Int} {l : Int} {k : Nat} (h : k < zs.length) (e : zs[k]?.getD 0 = l) : l ∈ zs := by
 rw [List.getElem?_eq_getElem h] at e
 simp only [Option.getD_some] at e
 subst e
 exact List.getElem_mem h
set_option maxHeartbeats 400000 in
theorem has_spec (a : Option Addr) (len cap : Nat) (zs : List Int) (l : Int) (w : World) (hr : IntRow w a len zs) :
  Calls Tryz.prog 82 #[.slice a len cap, .int .i64 l] w fun e w' => e = .returned (.bool (decide (l ∈ zs))) ∧ w' = w := by
 obtain ⟨hlen, hmost, hcell⟩ := hr
 unfold maxLen at hmost
 have HL := hid hlen
 have HC := hid hcell
 clear hlen hcell
 go_enter Tryz.func82, Tryz.ntmps82
 go_wp2
 go_loop [5] (fun i => ∃ k : Nat, k ≤ len ∧ i = .int .i64 k ∧ l ∉ zs.take k) (fun i => len - (intOf i).toNat)
 case atStart => exact ⟨0, Nat.zero_le _, rfl, by simp⟩
 case round =>
  obtain ⟨k, hk, rfl, ha⟩ := hrel
  have HA := hid ha
  clear ha
  by_cases hlt : k < len
  · obtain ⟨b, off, rfl, hc⟩ := HC.out k hlt
    by_cases he : zs[k]?.getD 0 = l
    · have hq : (zs[k]?.getD 0 == l) = true := by simp [he]
      have HE := hid he
      clear he
      go_wp2
      go_ret
      exact ⟨ret_bool (decide_eq_true (mem_at (by rw [HL.out]; exact hlt) HE.out)).symm, rfl⟩
    · have hq : (zs[k]?.getD 0 == l) = false := by simp [he]
      have HE := hid he
      clear he
      go_wp2
      go_round
      case rel => exact ⟨k + 1, by omega, by go_num, not_mem_succ (by rw [HL.out]; exact hlt) HA.out HE.out⟩
      case measure => simp [intOf]; omega
  · have e : k = len := by omega
    subst e
    go_wp2
    go_ret
    exact ⟨ret_bool (by have := HA.out; rw [List.take_of_length_le (by rw [HL.out]; omega)] at this; exact (decide_eq_false this).symm), rfl⟩
theorem ord_nil : ord [] = [] := ord_eq List.Pairwise.nil (fun x => by simp)
theorem ord_length (zs : List Int) : (ord zs).length ≤ zs.length := by
 unfold ord Go.Lib.compact Go.Lib.compactUpTo
 rw [List.length_map]
 refine Nat.le_trans (List.length_filter_le _ _) ?_
 simp
theorem ord_same {zs : List Int} {c : Int} (h : c ∈ ord zs) : ord (zs ++ [c]) = ord zs := ord_eq (ord_rises zs).1 (fun x => by
 rw [(ord_rises zs).2 x, List.mem_append, List.mem_singleton]
 constructor
 · exact .inl
 · rintro (hx | rfl)
   · exact hx
   · exact ((ord_rises zs).2 x).1 h)
theorem ord_ins {zs : List Int} {c : Int} {j : Nat} (hj : j ≤ (ord zs).length) (hb : ∀ i, i < j → rk ((ord zs)[i]?.getD 0) < rk c) (hn : j < (ord zs).length → rk c < rk ((ord zs)[j]?.getD 0)) : ord (zs ++ [c]) = insAt j c (ord zs) :=
 ord_eq (SS.insAt (ord_rises zs).1 hj (fun i hi => by
   have := hb i hi
   rwa [List.getElem?_eq_getElem (Nat.lt_of_lt_of_le hi hj)] at this) (fun h => by
   have := hn h
   rwa [List.getElem?_eq_getElem h] at this)) (fun x => by
  rw [mem_insAt, (ord_rises zs).2 x, List.mem_append, List.mem_singleton]
  exact Or.comm)
def oppTo (r : List Int) : Nat → Bool
 | 0 => false
 | n + 1 => oppTo r n || (decide (1 ≤ n) && decide (r[n - 1]?.getD 0 = -(r[n]?.getD 0)))
def oppB (r : List Int) : Bool := oppTo r r.length
theorem opp_succ (r : List Int) (m : Nat) : oppTo r (m + 1 + 1) = (oppTo r (m + 1) || decide (r[m]?.getD 0 = -(r[m + 1]?.getD 0))) := by
 show (oppTo r (m + 1) || (decide (1 ≤ m + 1) && _)) = _
 rw [decide_eq_true (by omega), Bool.true_and, Nat.add_sub_cancel]
theorem opp_up {r : List Int} {n : Nat} : ∀ {m : Nat}, n ≤ m → oppTo r n = true → oppTo r m = true
 | 0, h, hn => by rw [show n = 0 by omega] at hn; cases hn
 | m + 1, h, hn => by
  rcases Nat.lt_or_eq_of_le h with h | rfl
  · show (oppTo r m || _) = true
    rw [opp_up (m := m) (by omega) hn]; rfl
  · exact hn
theorem step_append_own {P : Program} (w : World) {ops : Array Oper} {o : Oper} {a : Act} {K : Act → World → Prop} {Q : Exit → Act → World → Prop} {E : Prop} (hgd : o.guard = none) (s x : Operand) (t : TypeId)
  (ho : o.op = .call { callee := .builtin .append, args := #[s, x], argTypes := #[t, t] })
  (base : Nat) (e : TypeId) (i : TypeInfo) (z : Value) (size bytes : Nat) (ht : P.underlying t = some (.slice e)) (hi : P.info? e = some i) (hz : i.zero = some z)
  (hsize : i.size = size) (hby : i.bytes = bytes) (hzs : z.cells.size = size) (hsz : 0 < size)
  (v : Value) (n : Nat) (xs : List Value) (hs : a.eval s = v) (hown : w.ownsRow base e size v n xs)
  (ad : Addr) (m c : Nat) (news : List Value) (hx : a.eval x = .slice (some ad) m c) (hl : news.length = m * size) (hnews : ∀ j u, news[j]? = some u → w.cell? (ad.add j) = some u) (h1 : ∀ u ∈ news, u.oneCell' = true)
  (h63 : n + m ≤ maxLen) (hbytes : (n + m) * bytes ≤ 140737488355328) (hbase : base ≤ w.heap.size)
  (h : ∀ v' w', w'.ownsRow base e size v' (n + m) (xs ++ news) → w.grownBy w' v.ownBlock → (v' = .slice none 0 0 ↔ v = .slice none 0 0 ∧ m = 0) → K (a.put o.dst v') w') :
  if Region.wanted o (yielded ops a.tmps) = true then Oper.wp P o a w K Q else E := by
 have hw : Region.wanted o (yielded ops a.tmps) = true := by simp [Region.wanted, hgd]
 rw [if_pos hw]
 exact wp_append_own w s x t ho base e i z size bytes ht hi hz hsize hby hzs hsz v n xs hs hown ad m c news hx hl hnews h1 h63 hbytes hbase h
theorem bdn {B : Nat} {W w1 : World} (h : Below B W w1) (n : Nat) : Below B W (w1.drewN n) := h.trans ⟨rfl, rfl, rfl, Nat.le_refl _, fun _ _ => rfl⟩
theorem own_cap {B : Nat} {w : World} {g n c : Nat} {zs : List Int} (h : OwnInts B w (.slice (some ⟨g, 0, none⟩) n c) zs) : n ≤ c ∧ B ≤ g := by
 rcases h.2 with ⟨e, _⟩ | ⟨g', cap, cur, e, hb, hh, hn, _⟩
 · cases e
 · cases e
   exact ⟨hn, hb⟩
theorem and_of_below {W2 w' : World} {v : Value} {b o : Nat} (hc : W2.cell? ⟨b, o, none⟩ = some v) (h : Below W2.heap.size W2 w') : w'.cell? ⟨b, o, none⟩ = some v ∧ Below W2.heap.size W2 w' := ⟨keep h hc, h⟩
theorem own_new {B H : Nat} (w : World) (h : w.heap.size = H) (hB : B ≤ H) : (w.alloc (.cells #[] 3)).ownsRow B 3 1 (.slice (some ⟨H, 0, none⟩) 0 0) 0 [] := ⟨rfl, .inr ⟨H, 0, #[], rfl, hB, by subst h; exact heap_alloc_new w _, Nat.le_refl _, Nat.zero_le _, rfl, rfl⟩⟩
theorem one_ints (zs : List Int) : ∀ u ∈ zs.map (Value.int .i64), u.oneCell' = true := fun u hu => by
 obtain ⟨z, _, rfl⟩ := List.mem_map.1 hu
 rfl
theorem own_pass {B n : Nat} {w w1 : World} {v : Value} {t : TypeId} {s : Nat} {xs : List Value} (h : w.ownsRow B t s v n xs) (hb : Below w.heap.size w w1) : w1.ownsRow B t s v n xs := by
 obtain ⟨h1, h2⟩ := h
 refine ⟨h1, ?_⟩
 rcases h2 with h2 | ⟨g, cap, cur, e, hg, hh, hn, hm, hs, ht⟩
 · exact .inl h2
 · exact .inr ⟨g, cap, cur, e, hg, by rw [hb.block g (Array.getElem?_eq_some_iff.1 hh).1]; exact hh, hn, hm, hs, ht⟩
theorem len_take {out : List Int} {n j : Nat} (h : out.length = n) (hj : j ≤ n) : ((out.take j).map (Value.int .i64)).length = j * 1 := by
 rw [List.length_map, List.length_take]; omega
theorem len_drop {out : List Int} {n j : Nat} (h : out.length = n) : ((out.drop j).map (Value.int .i64)).length = (n - j) * 1 := by
 rw [List.length_map, List.length_drop]; omega
theorem add_none (b o i : Nat) : (⟨b, o, none⟩ : Addr).add i = ⟨b, o + i, none⟩ := by unfold Addr.add; split <;> simp_all
theorem one_news {w : World} {H : Nat} {x : Value} (h : w.cell? ⟨H, 0, none⟩ = some x) : ∀ i u, [x][i]? = some u → w.cell? ((⟨H, 0, none⟩ : Addr).add i) = some u := fun i u hu => by
 rcases i with _ | i
 · simp at hu; subst hu; rw [add_none]; exact h
 · simp at hu
theorem no_news (w : World) (a : Addr) : ∀ i u, ([] : List Value)[i]? = some u → w.cell? (a.add i) = some u := fun i u hu => by simp at hu
theorem new_cell {w : World} {H : Nat} {x : Value} {t : TypeId} (h : w.heap.size = H) : (w.alloc (.cells #[x] t)).cell? ⟨H, 0, none⟩ = some x := by
 subst h
 have := cell_one_new w x t 0 x rfl
 rwa [add_none] at this
theorem lt_two (W : World) (q : Nat) (o o' : Obj) : W.heap.size < (((W.drewN (q + 1)).alloc o).alloc o').heap.size := by simp; omega
theorem ne_row (m : Nat) : some m ≠ (Value.slice (some ⟨m + 1, 0, none⟩) 0 0).ownBlock := by simp [Value.ownBlock]
theorem drop_none {out : List Int} {n j : Nat} (h : out.length = n) (hj : ¬ j < n) : ([] : List Value) = (out.drop j).map (Value.int .i64) := by
 rw [List.drop_of_length_le (by omega)]; rfl
theorem ins_own {B B' j n N : Nat} {out : List Int} {x : Int} {w3 : World} {v3 : Value} {tl : List Value} (h : w3.ownsRow B' 3 1 v3 N ([] ++ (out.take j).map (Value.int .i64) ++ [.int .i64 x] ++ tl)) (ht : tl = (out.drop j).map (Value.int .i64)) (hB : B ≤ B') (hn : out.length = n) (hj : j ≤ n) : ∃ g c, v3 = .slice (some ⟨g, 0, none⟩) (insAt j x out).length c ∧ OwnInts B w3 v3 (insAt j x out) := by
 subst ht
 have hm : [] ++ (out.take j).map (Value.int .i64) ++ [.int .i64 x] ++ (out.drop j).map (Value.int .i64) = (insAt j x out).map (Value.int .i64) := by
  unfold insAt
  simp
 rw [hm] at h
 obtain ⟨h1, h2⟩ := h
 have hN : N = (insAt j x out).length := by rw [List.length_map] at h1; omega
 subst hN
 rcases h2 with ⟨_, h0⟩ | ⟨g, cap, cur, e, hg, hh, hl, hm', hs, ht⟩
 · rw [length_insAt (by omega)] at h0; omega
 · exact ⟨g, cap, e, by rw [List.length_map]; omega, .inr ⟨g, cap, cur, e, Nat.le_trans hB hg, hh, hl, hm', hs, ht⟩⟩
theorem take_cells {w : World} {g n j : Nat} {out : List Int} (h : IntRow w (some ⟨g, 0, none⟩) n out) (hj : j ≤ n) {w1 : World} (hb : Below w.heap.size w w1) : ∀ i u, ((out.take j).map (Value.int .i64))[i]? = some u → w1.cell? ((⟨g, 0, none⟩ : Addr).add i) = some u := fun i u hu => by
 rw [List.getElem?_map, List.getElem?_take] at hu
 split at hu
 · rename_i hi
   obtain ⟨b, o, e, hc⟩ := h.cell i (by omega)
   cases e
   rw [List.getElem?_eq_getElem (by rw [h.length]; omega)] at hu hc
   simp at hu
   subst hu
   rw [add_none]
   exact keep hb hc
 · simp at hu
theorem drop_cells {w : World} {g n j : Nat} {out : List Int} (h : IntRow w (some ⟨g, 0, none⟩) n out) {w1 : World} (hb : Below w.heap.size w w1) : ∀ i u, ((out.drop j).map (Value.int .i64))[i]? = some u → w1.cell? ((⟨g, j, none⟩ : Addr).add i) = some u := fun i u hu => by
 rw [List.getElem?_map, List.getElem?_drop] at hu
 have hl : j + i < out.length := by
  rcases Nat.lt_or_ge (j + i) out.length with h | h
  · exact h
  · rw [List.getElem?_eq_none h] at hu; cases hu
 obtain ⟨b, o, e, hc⟩ := h.cell (j + i) (by rw [← h.length]; exact hl)
 cases e
 rw [List.getElem?_eq_getElem hl] at hu hc
 simp at hu
 subst hu
 rw [add_none]
 rw [Nat.zero_add] at hc
 exact keep hb hc
set_option maxHeartbeats 1600000 in
theorem sorted_spec (a : Option Addr) (len cap : Nat) (zs : List Int) (w : World) (hr : IntRow w a len zs) (hz : ∀ z ∈ zs, -40 ≤ z ∧ z ≤ 40) (hb : len ≤ 4096) :
  Calls Tryz.prog 79 #[.slice a len cap] w fun e w' => ∃ v, e = .returned (.tuple #[v, .bool (!oppB (ord zs))]) ∧ OwnInts w.heap.size w' v (ord zs) ∧ Below w.heap.size w w' := by
 have HR := hid hr
 have HL := hid hr.length
 have HZ := hid hz
 clear hr hz
 obtain ⟨R, hR⟩ : ∃ R, ord zs = R := ⟨_, rfl⟩
 obtain ⟨ob, hob⟩ : ∃ ob, oppB R = ob := ⟨_, rfl⟩
 rw [hR, hob]
 have HRR := hid hR
 have HOO := hid hob
 clear hR hob
 obtain ⟨i0, hi, hzz⟩ := Option.map_eq_some_iff.1 Tryz.info_int
 simp only [Prod.mk.injEq] at hzz
 obtain ⟨hz0, hz1, hz2⟩ := hzz
 have HI := hid hi
 have HZ0 := hid hz0
 have HZ1 := hid hz1
 have HZ2 := hid hz2
 clear hi hz0 hz1 hz2
 go_enter Tryz.func79, Tryz.ntmps79
 go_wp2
 go_loopw [5, 4] (fun i v wr => ∃ (k g c : Nat), k ≤ len ∧ i = .int .i64 k ∧ v = .slice (some ⟨g, 0, none⟩) (ord (zs.take k)).length c ∧ OwnInts w.heap.size wr v (ord (zs.take k)) ∧ Below w.heap.size w wr) (fun i _ _ => len - (intOf i).toNat)
 case atStart => exact ⟨0, w.heap.size, 0, Nat.zero_le _, rfl, by rw [List.take_zero, ord_nil]; rfl, by rw [List.take_zero, ord_nil]; exact ⟨rfl, .inr ⟨w.heap.size, 0, #[], rfl, Nat.le_refl _, heap_alloc_new w _, Nat.le_refl _, Nat.zero_le _, rfl, rfl⟩⟩, (by repeat (first | exact Below.refl _ _ | assumption | refine Below.drew ?_ | refine Below.alloc ?_ (by first | exact Nat.le_refl _ | omega | (simp; done) | (simp; omega)) _ | refine Below.setCell ?_ (by first | exact Nat.le_refl _ | omega | (simp; done) | (simp; omega)) _))⟩
 case round =>
  obtain ⟨k, g, c, hk, rfl, rfl, hown, hbel⟩ := hrel
  have HO := hid hown
  have HB := hid hbel
  by_cases hlt : k < len
  · obtain ⟨b, off, rfl, hc0⟩ := HR.out.cell k hlt
    have hc := keep hbel hc0
    have hkz : k < zs.length := by rw [HL.out]; exact hlt
    have hmem : zs[k]?.getD 0 ∈ zs := by rw [List.getElem?_eq_getElem hkz]; exact List.getElem_mem _
    obtain ⟨hx0, hx1⟩ := HZ.out _ hmem
    have HT : Hid (zs.take (k + 1) = zs.take k ++ [zs[k]?.getD 0]) := by
     show _ = _
     rw [List.take_succ_eq_append_getElem hkz, List.getElem?_eq_getElem hkz]; rfl
    have HOL := hid (Nat.le_trans (ord_length (zs.take k)) (List.length_take_le k zs))
    have HOZ : Hid (∀ i, i < (ord (zs.take k)).length → -40 ≤ (ord (zs.take k))[i]?.getD 0 ∧ (ord (zs.take k))[i]?.getD 0 ≤ 40) := fun i hi => by
     rw [List.getElem?_eq_getElem hi]
     exact HZ.out _ (List.mem_of_mem_take (((ord_rises (zs.take k)).2 _).1 (List.getElem_mem hi)))
    have HIns := hid (fun j => ord_ins (zs := zs.take k) (c := zs[k]?.getD 0) (j := j))
    have HSame := hid (ord_same (zs := zs.take k) (c := zs[k]?.getD 0))
    obtain ⟨a', cap', hv, hrow⟩ := hown.form
    cases hv
    have HRow := hid hrow
    have hlo : (ord (zs.take k)).length ≤ 4096 := by have := HOL.out; omega
    clear hc0 hmem hown hbel hrow
    generalize zs[k]?.getD 0 = x at *
    generalize ord (zs.take k) = out at *
    obtain ⟨n, hn⟩ : ∃ n, out.length = n := ⟨_, rfl⟩
    rw [hn] at HRow HO HOZ HOL hlo HIns ⊢
    have HN := hid hn
    clear hn
    generalize wr = W1 at *
    go_wp2
    go_loopw [6] (fun t wr2 => ∃ (j q : Nat), j ≤ n ∧ t = .int .i64 j ∧ (∀ i, i < j → rk (out[i]?.getD 0) < rk x) ∧ wr2 = W1.drewN q) (fun t _ => n - (intOf t).toNat)
    case atStart => exact ⟨0, 0, Nat.zero_le _, rfl, fun i hi => absurd hi (Nat.not_lt_zero _), rfl⟩
    case round =>
     obtain ⟨j, q, hj, rfl, hall, hw2⟩ := hrel
     have HAll := hid hall
     have hcx : wr.cell? ⟨b, off + k, none⟩ = some (.int .i64 x) := by rw [hw2]; simpa using hc
     have HW2 := hid hw2
     clear hall
     by_cases hjn : j < n
     · obtain ⟨g', o', hgo, hcj0⟩ := HRow.out.cell j hjn
       cases hgo
       have hcj : wr.cell? ⟨g, 0 + j, none⟩ = some (.int .i64 (out[j]?.getD 0)) := by rw [hw2]; simpa using hcj0
       obtain ⟨hy0, hy1⟩ := HOZ.out j hjn
       rw [Nat.zero_add] at hcj
       clear hcj0 hw2
       generalize hy : out[j]?.getD 0 = y at *
       have HY := hid hy
       clear hy
       have hdl : decide ((j : Int) < (n : Int)) = true := by simp; omega
       by_cases hrk : rk y < rk x
       · have hd : decide (rk y < rk x) = true := decide_eq_true hrk
         have HRK := hid hrk
         clear hrk
         go_wp2
         go_quiet ((go_at_call 96; exact Calls.quiet_of_same (before_spec _ _ _ ⟨hy0, hy1⟩ ⟨hx0, hx1⟩)))
         go_wp2
         go_roundw
         case rel => exact ⟨j + 1, q + nq, by omega, by go_num, fun i hi => by
          rcases Nat.lt_or_eq_of_le (Nat.le_of_lt_succ hi) with h | rfl
          · exact HAll.out i h
          · rw [HY.out]; exact HRK.out, by rw [HW2.out, World.drewN_drewN]⟩
         case measure => simp [intOf]; omega
       · have hd : decide (rk y < rk x) = false := decide_eq_false hrk
         have HRK := hid hrk
         clear hrk
         by_cases hyx : y = x
         · have hq : (y == x) = true := by simp [hyx]
           have HYX := hid hyx
           clear hyx
           go_wp2
           go_quiet ((go_at_call 96; exact Calls.quiet_of_same (before_spec _ _ _ ⟨hy0, hy1⟩ ⟨hx0, hx1⟩)))
           go_wp2
           go_quiet (fail)
           go_wp2
           have hb2 : ∀ q', Below W1.heap.size W1 (wr.drewN q') := fun q' => by rw [HW2.out, World.drewN_drewN]; exact below_drewN _ _
           have HE := hid (HSame.out (mem_at (k := j) (by rw [HN.out]; exact hjn) (by rw [HY.out]; exact HYX.out)))
           exact ⟨⟨k + 1, g, c, by omega, by go_num, by rw [HT.out, HE.out, HN.out], by rw [HT.out, HE.out]; exact HO.out.below (hb2 _), HB.out.trans ((hb2 _).mono HB.out.size)⟩, by simp [intOf]; omega⟩
         · have hq : (y == x) = false := by simp [hyx]
           have HYX := hid hyx
           clear hyx
           go_wp2
           go_quiet ((go_at_call 96; exact Calls.quiet_of_same (before_spec _ _ _ ⟨hy0, hy1⟩ ⟨hx0, hx1⟩)))
           go_wp2
           go_quiet (fail)
           go_wp2
           have hcj : ¬ c = j := by have := (own_cap HO.out).1; omega
           generalize hWW : wr.drewN _ = W2
           have hb2 : Below W1.heap.size W1 W2 := by rw [← hWW, HW2.out, World.drewN_drewN]; exact below_drewN _ _
           have HOw := hid (HO.out.below hb2)
           have HBw := hid (HB.out.trans (hb2.mono HB.out.size))
           have hcw : W2.cell? ⟨b, off + k, none⟩ = some (.int .i64 x) := keep hb2 hc
           have HRw := hid (HRow.out.below hb2)
           have HTk := hid (fun (w1 : World) (h1 : Below W2.heap.size W2 w1) => take_cells HRw.out hj h1)
           have HDk := hid (fun (w1 : World) (h1 : Below W2.heap.size W2 w1) => drop_cells (j := j) HRw.out h1)
           clear hWW hb2 hcx hc
           obtain ⟨hnc, hBg⟩ := own_cap HOw.out
           have i1 : (0 : Int) ≤ (j : Int) := by omega
           have i2 : (j : Int) ≤ (n : Int) := by omega
           have i3 : (n : Int) ≤ (c : Int) := by omega
           have i4 : (j : Int) ≤ (c : Int) := by omega
           go_region_held3 (fun w' => w'.cell? ⟨b, off + k, none⟩ = some (.int .i64 x) ∧ Below W2.heap.size W2 w')
            (refine and_of_below hcw (by repeat (first | exact Below.refl _ _ | assumption | refine Below.drew ?_ | refine bdn ?_ _ | refine Below.alloc ?_ (by first | exact Nat.le_refl _ | exact Below.size (by assumption) | omega | (simp; done) | (simp; omega)) _)))
            (first
             | (refine step_append_own _ (by rfl) _ _ 52 (by rfl) W2.heap.size 3 i0 (.int .i64 0) 1 8 Tryz.underlying52 HI.out HZ0.out HZ1.out HZ2.out rfl (by decide) (.slice (some ⟨W2.heap.size, 0, none⟩) 0 0) 0 [] (by rfl) (own_pass (own_new (W2.drewN (nq + 1)) rfl (Nat.le_refl _)) (by repeat (first | exact Below.refl _ _ | assumption | refine Below.drew ?_ | refine bdn ?_ _ | refine Below.alloc ?_ (by first | exact Nat.le_refl _ | exact Below.size (by assumption) | omega | (simp; done) | (simp; omega)) _))) ⟨g, 0, none⟩ j c ((out.take j).map (.int .i64)) (by rfl) (len_take HN.out hj) (HTk.out _ (by repeat (first | exact Below.refl _ _ | assumption | refine Below.drew ?_ | refine bdn ?_ _ | refine Below.alloc ?_ (by first | exact Nat.le_refl _ | exact Below.size (by assumption) | omega | (simp; done) | (simp; omega)) _))) (one_ints _) (by unfold maxLen; omega) (by omega) (by first | (simp; done) | (simp; omega)) ?_; intro v1 w1 hown1 hgrow1 hnil1; have hB1 : Below W2.heap.size W2 w1 := Below.grown (by repeat (first | exact Below.refl _ _ | assumption | refine Below.drew ?_ | refine bdn ?_ _ | refine Below.alloc ?_ (by first | exact Nat.le_refl _ | exact Below.size (by assumption) | omega | (simp; done) | (simp; omega)) _)) hgrow1 (by first | (simp; done) | (simp; omega)) (fun k hk => by cases hk; dsimp only; omega); first | (have hxc : w1.cell? ⟨W2.heap.size + 1, 0, none⟩ = some (.int .i64 x) := by rw [hgrow1.cell_far _ (by first | (simp; done) | (simp; omega)) (by simp [Value.ownBlock])]; simp [go_sem]; done) | ((have hxc : w1.cell? ⟨W2.heap.size, 0, none⟩ = some (.int .i64 x) := (hgrow1.cell_far ⟨W2.heap.size, 0, none⟩ (lt_two W2 nq _ _) (ne_row _)).trans (keep (W := (W2.drewN (nq + 1)).alloc (.cells #[.int .i64 x] 3)) (by repeat (first | exact Below.refl _ _ | assumption | refine Below.drew ?_ | refine bdn ?_ _ | refine Below.alloc ?_ (by first | exact Nat.le_refl _ | exact Below.size (by assumption) | omega | (simp; done) | (simp; omega)) _)) (new_cell rfl)))) | skip; clear hgrow1 hnil1)
             | (refine step_append_own _ (by rfl) _ _ 52 (by rfl) W2.heap.size 3 i0 (.int .i64 0) 1 8 Tryz.underlying52 HI.out HZ0.out HZ1.out HZ2.out rfl (by decide) (.slice (some ⟨W2.heap.size + 1, 0, none⟩) 0 0) 0 [] (by rfl) (own_new _ (by simp) (by omega)) ⟨g, 0, none⟩ j c ((out.take j).map (.int .i64)) (by rfl) (len_take HN.out hj) (HTk.out _ (by repeat (first | exact Below.refl _ _ | assumption | refine Below.drew ?_ | refine bdn ?_ _ | refine Below.alloc ?_ (by first | exact Nat.le_refl _ | exact Below.size (by assumption) | omega | (simp; done) | (simp; omega)) _))) (one_ints _) (by unfold maxLen; omega) (by omega) (by first | (simp; done) | (simp; omega)) ?_; intro v1 w1 hown1 hgrow1 hnil1; have hB1 : Below W2.heap.size W2 w1 := Below.grown (by repeat (first | exact Below.refl _ _ | assumption | refine Below.drew ?_ | refine bdn ?_ _ | refine Below.alloc ?_ (by first | exact Nat.le_refl _ | exact Below.size (by assumption) | omega | (simp; done) | (simp; omega)) _)) hgrow1 (by first | (simp; done) | (simp; omega)) (fun k hk => by cases hk; dsimp only; omega); first | (have hxc : w1.cell? ⟨W2.heap.size + 1, 0, none⟩ = some (.int .i64 x) := by rw [hgrow1.cell_far _ (by first | (simp; done) | (simp; omega)) (by simp [Value.ownBlock])]; simp [go_sem]; done) | ((have hxc : w1.cell? ⟨W2.heap.size, 0, none⟩ = some (.int .i64 x) := (hgrow1.cell_far ⟨W2.heap.size, 0, none⟩ (lt_two W2 nq _ _) (ne_row _)).trans (keep (W := (W2.drewN (nq + 1)).alloc (.cells #[.int .i64 x] 3)) (by repeat (first | exact Below.refl _ _ | assumption | refine Below.drew ?_ | refine bdn ?_ _ | refine Below.alloc ?_ (by first | exact Nat.le_refl _ | exact Below.size (by assumption) | omega | (simp; done) | (simp; omega)) _)) (new_cell rfl)))) | skip; clear hgrow1 hnil1)
             | (refine step_append_own _ (by rfl) _ _ 52 (by rfl) W2.heap.size 3 i0 (.int .i64 0) 1 8 Tryz.underlying52 HI.out HZ0.out HZ1.out HZ2.out rfl (by decide) v1 (0 + j) ([] ++ (out.take j).map (.int .i64)) (by rfl) (own_pass hown1 (by repeat (first | exact Below.refl _ _ | assumption | refine Below.drew ?_ | refine bdn ?_ _ | refine Below.alloc ?_ (by first | exact Nat.le_refl _ | exact Below.size (by assumption) | omega | (simp; done) | (simp; omega)) _))) ⟨w1.heap.size, 0, none⟩ 1 1 [.int .i64 x] (by rfl) rfl (cell_one_new _ _ _) (one_ints [x]) (by unfold maxLen; omega) (by omega) (by have := hB1.size; first | exact this | (simp; omega)) ?_; intro v2 w2 hown2 hgrow2 hnil2; have hB2 : Below W2.heap.size W2 w2 := Below.grown (by repeat (first | exact Below.refl _ _ | assumption | refine Below.drew ?_ | refine bdn ?_ _ | refine Below.alloc ?_ (by first | exact Nat.le_refl _ | exact Below.size (by assumption) | omega | (simp; done) | (simp; omega)) _)) hgrow2 (by have := hB1.size; first | exact this | (simp; omega)) (fun k hk => (World.ownsRow.lt hown1 k hk).1); clear hgrow2 hnil2)
             | (refine step_append_own _ (by rfl) _ _ 52 (by rfl) W2.heap.size 3 i0 (.int .i64 0) 1 8 Tryz.underlying52 HI.out HZ0.out HZ1.out HZ2.out rfl (by decide) v1 (0 + j) ([] ++ (out.take j).map (.int .i64)) (by rfl) (own_pass hown1 (by repeat (first | exact Below.refl _ _ | assumption | refine Below.drew ?_ | refine bdn ?_ _ | refine Below.alloc ?_ (by first | exact Nat.le_refl _ | exact Below.size (by assumption) | omega | (simp; done) | (simp; omega)) _))) ⟨W2.heap.size + 1, 0, none⟩ 1 1 [.int .i64 x] (by rfl) rfl (one_news hxc) (one_ints [x]) (by unfold maxLen; omega) (by omega) (by have := hB1.size; first | exact this | (simp; omega)) ?_; intro v2 w2 hown2 hgrow2 hnil2; have hB2 : Below W2.heap.size W2 w2 := Below.grown (by repeat (first | exact Below.refl _ _ | assumption | refine Below.drew ?_ | refine bdn ?_ _ | refine Below.alloc ?_ (by first | exact Nat.le_refl _ | exact Below.size (by assumption) | omega | (simp; done) | (simp; omega)) _)) hgrow2 (by have := hB1.size; first | exact this | (simp; omega)) (fun k hk => (World.ownsRow.lt hown1 k hk).1); clear hgrow2 hnil2)
             | (refine step_append_own _ (by rfl) _ _ 52 (by rfl) W2.heap.size 3 i0 (.int .i64 0) 1 8 Tryz.underlying52 HI.out HZ0.out HZ1.out HZ2.out rfl (by decide) v1 (0 + j) ([] ++ (out.take j).map (.int .i64)) (by rfl) (own_pass hown1 (by repeat (first | exact Below.refl _ _ | assumption | refine Below.drew ?_ | refine bdn ?_ _ | refine Below.alloc ?_ (by first | exact Nat.le_refl _ | exact Below.size (by assumption) | omega | (simp; done) | (simp; omega)) _))) ⟨W2.heap.size, 0, none⟩ 1 1 [.int .i64 x] (by rfl) rfl (one_news hxc) (one_ints [x]) (by unfold maxLen; omega) (by omega) (by have := hB1.size; first | exact this | (simp; omega)) ?_; intro v2 w2 hown2 hgrow2 hnil2; have hB2 : Below W2.heap.size W2 w2 := Below.grown (by repeat (first | exact Below.refl _ _ | assumption | refine Below.drew ?_ | refine bdn ?_ _ | refine Below.alloc ?_ (by first | exact Nat.le_refl _ | exact Below.size (by assumption) | omega | (simp; done) | (simp; omega)) _)) hgrow2 (by have := hB1.size; first | exact this | (simp; omega)) (fun k hk => (World.ownsRow.lt hown1 k hk).1); clear hgrow2 hnil2)
             | (refine step_append_own _ (by rfl) _ _ 52 (by rfl) W2.heap.size 3 i0 (.int .i64 0) 1 8 Tryz.underlying52 HI.out HZ0.out HZ1.out HZ2.out rfl (by decide) v2 (0 + j + 1) ([] ++ (out.take j).map (.int .i64) ++ [.int .i64 x]) (by rfl) (own_pass hown2 (by repeat (first | exact Below.refl _ _ | assumption | refine Below.drew ?_ | refine bdn ?_ _ | refine Below.alloc ?_ (by first | exact Nat.le_refl _ | exact Below.size (by assumption) | omega | (simp; done) | (simp; omega)) _))) ⟨g, j, none⟩ (n - j) (c - j) ((out.drop j).map (.int .i64)) (by rfl) (len_drop HN.out) (HDk.out _ (by repeat (first | exact Below.refl _ _ | assumption | refine Below.drew ?_ | refine bdn ?_ _ | refine Below.alloc ?_ (by first | exact Nat.le_refl _ | exact Below.size (by assumption) | omega | (simp; done) | (simp; omega)) _))) (one_ints _) (by unfold maxLen; omega) (by omega) (by have := hB2.size; first | exact this | (simp; omega)) ?_; intro v3 w3 hown3 hgrow3 hnil3; have hB3 : Below W2.heap.size W2 w3 := Below.grown (by repeat (first | exact Below.refl _ _ | assumption | refine Below.drew ?_ | refine bdn ?_ _ | refine Below.alloc ?_ (by first | exact Nat.le_refl _ | exact Below.size (by assumption) | omega | (simp; done) | (simp; omega)) _)) hgrow3 (by have := hB2.size; first | exact this | (simp; omega)) (fun k hk => (World.ownsRow.lt hown2 k hk).1); clear hgrow3)
             | fail)
           all_goals
            have HIN := hid (HIns.out j hj HAll.out (fun _ => by rw [HY.out]; have h1 := HRK.out; have h2 : rk x ≠ rk y := fun e => HYX.out (rk_inj e).symm; omega))
            obtain ⟨g', c', hv3, ho3⟩ := ins_own hown3 rfl HBw.out.size HN.out hj
            have HO3 := hid ho3
            have HB3 := hid (HBw.out.trans (hB3.mono HBw.out.size))
            subst hv3
            clear hown1 hown2 hown3 ho3 hB1 hB2 hB3 hnil3
            go_wp2
            exact ⟨⟨k + 1, g', c', by omega, by go_num, by rw [HT.out, HIN.out], by rw [HT.out, HIN.out]; exact HO3.out, HB3.out⟩, by simp [intOf]; omega⟩
     · have hdl : decide ((j : Int) < (n : Int)) = false := by simp; omega
       go_wp2
       go_quiet (fail)
       go_wp2
       go_quiet (fail)
       go_wp2
       by_cases hcj : c = j
       · generalize hWW : wr.drewN _ = W2
         have hb2 : Below W1.heap.size W1 W2 := by rw [← hWW, HW2.out, World.drewN_drewN]; exact below_drewN _ _
         have HOw := hid (HO.out.below hb2)
         have HBw := hid (HB.out.trans (hb2.mono HB.out.size))
         have hcw : W2.cell? ⟨b, off + k, none⟩ = some (.int .i64 x) := keep hb2 hc
         have HRw := hid (HRow.out.below hb2)
         have HTk := hid (fun (w1 : World) (h1 : Below W2.heap.size W2 w1) => take_cells HRw.out hj h1)
         have HDk := hid (fun (w1 : World) (h1 : Below W2.heap.size W2 w1) => drop_cells (j := j) HRw.out h1)
         clear hWW hb2 hcx hc
         obtain ⟨hnc, hBg⟩ := own_cap HOw.out
         have i1 : (0 : Int) ≤ (j : Int) := by omega
         have i2 : (j : Int) ≤ (n : Int) := by omega
         have i3 : (n : Int) ≤ (c : Int) := by omega
         have i4 : (j : Int) ≤ (c : Int) := by omega
         go_region_held3 (fun w' => w'.cell? ⟨b, off + k, none⟩ = some (.int .i64 x) ∧ Below W2.heap.size W2 w')
          (refine and_of_below hcw (by repeat (first | exact Below.refl _ _ | assumption | refine Below.drew ?_ | refine bdn ?_ _ | refine Below.alloc ?_ (by first | exact Nat.le_refl _ | exact Below.size (by assumption) | omega | (simp; done) | (simp; omega)) _)))
          (first
           | (refine step_append_own _ (by rfl) _ _ 52 (by rfl) W2.heap.size 3 i0 (.int .i64 0) 1 8 Tryz.underlying52 HI.out HZ0.out HZ1.out HZ2.out rfl (by decide) (.slice (some ⟨W2.heap.size, 0, none⟩) 0 0) 0 [] (by rfl) (own_pass (own_new (W2.drewN (nq + 1)) rfl (Nat.le_refl _)) (by repeat (first | exact Below.refl _ _ | assumption | refine Below.drew ?_ | refine bdn ?_ _ | refine Below.alloc ?_ (by first | exact Nat.le_refl _ | exact Below.size (by assumption) | omega | (simp; done) | (simp; omega)) _))) ⟨g, 0, none⟩ j j ((out.take j).map (.int .i64)) (by rfl) (len_take HN.out hj) (HTk.out _ (by repeat (first | exact Below.refl _ _ | assumption | refine Below.drew ?_ | refine bdn ?_ _ | refine Below.alloc ?_ (by first | exact Nat.le_refl _ | exact Below.size (by assumption) | omega | (simp; done) | (simp; omega)) _))) (one_ints _) (by unfold maxLen; omega) (by omega) (by first | (simp; done) | (simp; omega)) ?_; intro v1 w1 hown1 hgrow1 hnil1; have hB1 : Below W2.heap.size W2 w1 := Below.grown (by repeat (first | exact Below.refl _ _ | assumption | refine Below.drew ?_ | refine bdn ?_ _ | refine Below.alloc ?_ (by first | exact Nat.le_refl _ | exact Below.size (by assumption) | omega | (simp; done) | (simp; omega)) _)) hgrow1 (by first | (simp; done) | (simp; omega)) (fun k hk => by cases hk; dsimp only; omega); first | (have hxc : w1.cell? ⟨W2.heap.size + 1, 0, none⟩ = some (.int .i64 x) := by rw [hgrow1.cell_far _ (by first | (simp; done) | (simp; omega)) (by simp [Value.ownBlock])]; simp [go_sem]; done) | ((have hxc : w1.cell? ⟨W2.heap.size, 0, none⟩ = some (.int .i64 x) := (hgrow1.cell_far ⟨W2.heap.size, 0, none⟩ (lt_two W2 nq _ _) (ne_row _)).trans (keep (W := (W2.drewN (nq + 1)).alloc (.cells #[.int .i64 x] 3)) (by repeat (first | exact Below.refl _ _ | assumption | refine Below.drew ?_ | refine bdn ?_ _ | refine Below.alloc ?_ (by first | exact Nat.le_refl _ | exact Below.size (by assumption) | omega | (simp; done) | (simp; omega)) _)) (new_cell rfl)))) | skip; clear hgrow1 hnil1)
           | (refine step_append_own _ (by rfl) _ _ 52 (by rfl) W2.heap.size 3 i0 (.int .i64 0) 1 8 Tryz.underlying52 HI.out HZ0.out HZ1.out HZ2.out rfl (by decide) (.slice (some ⟨W2.heap.size + 1, 0, none⟩) 0 0) 0 [] (by rfl) (own_new _ (by simp) (by omega)) ⟨g, 0, none⟩ j j ((out.take j).map (.int .i64)) (by rfl) (len_take HN.out hj) (HTk.out _ (by repeat (first | exact Below.refl _ _ | assumption | refine Below.drew ?_ | refine bdn ?_ _ | refine Below.alloc ?_ (by first | exact Nat.le_refl _ | exact Below.size (by assumption) | omega | (simp; done) | (simp; omega)) _))) (one_ints _) (by unfold maxLen; omega) (by omega) (by first | (simp; done) | (simp; omega)) ?_; intro v1 w1 hown1 hgrow1 hnil1; have hB1 : Below W2.heap.size W2 w1 := Below.grown (by repeat (first | exact Below.refl _ _ | assumption | refine Below.drew ?_ | refine bdn ?_ _ | refine Below.alloc ?_ (by first | exact Nat.le_refl _ | exact Below.size (by assumption) | omega | (simp; done) | (simp; omega)) _)) hgrow1 (by first | (simp; done) | (simp; omega)) (fun k hk => by cases hk; dsimp only; omega); first | (have hxc : w1.cell? ⟨W2.heap.size + 1, 0, none⟩ = some (.int .i64 x) := by rw [hgrow1.cell_far _ (by first | (simp; done) | (simp; omega)) (by simp [Value.ownBlock])]; simp [go_sem]; done) | ((have hxc : w1.cell? ⟨W2.heap.size, 0, none⟩ = some (.int .i64 x) := (hgrow1.cell_far ⟨W2.heap.size, 0, none⟩ (lt_two W2 nq _ _) (ne_row _)).trans (keep (W := (W2.drewN (nq + 1)).alloc (.cells #[.int .i64 x] 3)) (by repeat (first | exact Below.refl _ _ | assumption | refine Below.drew ?_ | refine bdn ?_ _ | refine Below.alloc ?_ (by first | exact Nat.le_refl _ | exact Below.size (by assumption) | omega | (simp; done) | (simp; omega)) _)) (new_cell rfl)))) | skip; clear hgrow1 hnil1)
           | (refine step_append_own _ (by rfl) _ _ 52 (by rfl) W2.heap.size 3 i0 (.int .i64 0) 1 8 Tryz.underlying52 HI.out HZ0.out HZ1.out HZ2.out rfl (by decide) v1 (0 + j) ([] ++ (out.take j).map (.int .i64)) (by rfl) (own_pass hown1 (by repeat (first | exact Below.refl _ _ | assumption | refine Below.drew ?_ | refine bdn ?_ _ | refine Below.alloc ?_ (by first | exact Nat.le_refl _ | exact Below.size (by assumption) | omega | (simp; done) | (simp; omega)) _))) ⟨w1.heap.size, 0, none⟩ 1 1 [.int .i64 x] (by rfl) rfl (cell_one_new _ _ _) (one_ints [x]) (by unfold maxLen; omega) (by omega) (by have := hB1.size; first | exact this | (simp; omega)) ?_; intro v2 w2 hown2 hgrow2 hnil2; have hB2 : Below W2.heap.size W2 w2 := Below.grown (by repeat (first | exact Below.refl _ _ | assumption | refine Below.drew ?_ | refine bdn ?_ _ | refine Below.alloc ?_ (by first | exact Nat.le_refl _ | exact Below.size (by assumption) | omega | (simp; done) | (simp; omega)) _)) hgrow2 (by have := hB1.size; first | exact this | (simp; omega)) (fun k hk => (World.ownsRow.lt hown1 k hk).1); clear hgrow2 hnil2)
           | (refine step_append_own _ (by rfl) _ _ 52 (by rfl) W2.heap.size 3 i0 (.int .i64 0) 1 8 Tryz.underlying52 HI.out HZ0.out HZ1.out HZ2.out rfl (by decide) v1 (0 + j) ([] ++ (out.take j).map (.int .i64)) (by rfl) (own_pass hown1 (by repeat (first | exact Below.refl _ _ | assumption | refine Below.drew ?_ | refine bdn ?_ _ | refine Below.alloc ?_ (by first | exact Nat.le_refl _ | exact Below.size (by assumption) | omega | (simp; done) | (simp; omega)) _))) ⟨W2.heap.size + 1, 0, none⟩ 1 1 [.int .i64 x] (by rfl) rfl (one_news hxc) (one_ints [x]) (by unfold maxLen; omega) (by omega) (by have := hB1.size; first | exact this | (simp; omega)) ?_; intro v2 w2 hown2 hgrow2 hnil2; have hB2 : Below W2.heap.size W2 w2 := Below.grown (by repeat (first | exact Below.refl _ _ | assumption | refine Below.drew ?_ | refine bdn ?_ _ | refine Below.alloc ?_ (by first | exact Nat.le_refl _ | exact Below.size (by assumption) | omega | (simp; done) | (simp; omega)) _)) hgrow2 (by have := hB1.size; first | exact this | (simp; omega)) (fun k hk => (World.ownsRow.lt hown1 k hk).1); clear hgrow2 hnil2)
           | (refine step_append_own _ (by rfl) _ _ 52 (by rfl) W2.heap.size 3 i0 (.int .i64 0) 1 8 Tryz.underlying52 HI.out HZ0.out HZ1.out HZ2.out rfl (by decide) v1 (0 + j) ([] ++ (out.take j).map (.int .i64)) (by rfl) (own_pass hown1 (by repeat (first | exact Below.refl _ _ | assumption | refine Below.drew ?_ | refine bdn ?_ _ | refine Below.alloc ?_ (by first | exact Nat.le_refl _ | exact Below.size (by assumption) | omega | (simp; done) | (simp; omega)) _))) ⟨W2.heap.size, 0, none⟩ 1 1 [.int .i64 x] (by rfl) rfl (one_news hxc) (one_ints [x]) (by unfold maxLen; omega) (by omega) (by have := hB1.size; first | exact this | (simp; omega)) ?_; intro v2 w2 hown2 hgrow2 hnil2; have hB2 : Below W2.heap.size W2 w2 := Below.grown (by repeat (first | exact Below.refl _ _ | assumption | refine Below.drew ?_ | refine bdn ?_ _ | refine Below.alloc ?_ (by first | exact Nat.le_refl _ | exact Below.size (by assumption) | omega | (simp; done) | (simp; omega)) _)) hgrow2 (by have := hB1.size; first | exact this | (simp; omega)) (fun k hk => (World.ownsRow.lt hown1 k hk).1); clear hgrow2 hnil2)
           | (refine step_append_own _ (by rfl) _ _ 52 (by rfl) W2.heap.size 3 i0 (.int .i64 0) 1 8 Tryz.underlying52 HI.out HZ0.out HZ1.out HZ2.out rfl (by decide) v2 (0 + j + 1) ([] ++ (out.take j).map (.int .i64) ++ [.int .i64 x]) (by rfl) (own_pass hown2 (by repeat (first | exact Below.refl _ _ | assumption | refine Below.drew ?_ | refine bdn ?_ _ | refine Below.alloc ?_ (by first | exact Nat.le_refl _ | exact Below.size (by assumption) | omega | (simp; done) | (simp; omega)) _))) ⟨g, 0, none⟩ (n - j) 0 [] (by rfl) (by simp; omega) (no_news _ _) (one_ints []) (by unfold maxLen; omega) (by omega) (by have := hB2.size; first | exact this | (simp; omega)) ?_; intro v3 w3 hown3 hgrow3 hnil3; have hB3 : Below W2.heap.size W2 w3 := Below.grown (by repeat (first | exact Below.refl _ _ | assumption | refine Below.drew ?_ | refine bdn ?_ _ | refine Below.alloc ?_ (by first | exact Nat.le_refl _ | exact Below.size (by assumption) | omega | (simp; done) | (simp; omega)) _)) hgrow3 (by have := hB2.size; first | exact this | (simp; omega)) (fun k hk => (World.ownsRow.lt hown2 k hk).1); clear hgrow3)
           | fail)
         all_goals
          have HIN := hid (HIns.out j hj HAll.out (fun h => absurd h hjn))
          obtain ⟨g', c', hv3, ho3⟩ := ins_own hown3 (drop_none HN.out hjn) HBw.out.size HN.out hj
          have HO3 := hid ho3
          have HB3 := hid (HBw.out.trans (hB3.mono HBw.out.size))
          subst hv3
          clear hown1 hown2 hown3 ho3 hB1 hB2 hB3 hnil3
          go_wp2
          exact ⟨⟨k + 1, g', c', by omega, by go_num, by rw [HT.out, HIN.out], by rw [HT.out, HIN.out]; exact HO3.out, HB3.out⟩, by simp [intOf]; omega⟩
       · generalize hWW : wr.drewN _ = W2
         have hb2 : Below W1.heap.size W1 W2 := by rw [← hWW, HW2.out, World.drewN_drewN]; exact below_drewN _ _
         have HOw := hid (HO.out.below hb2)
         have HBw := hid (HB.out.trans (hb2.mono HB.out.size))
         have hcw : W2.cell? ⟨b, off + k, none⟩ = some (.int .i64 x) := keep hb2 hc
         have HRw := hid (HRow.out.below hb2)
         have HTk := hid (fun (w1 : World) (h1 : Below W2.heap.size W2 w1) => take_cells HRw.out hj h1)
         have HDk := hid (fun (w1 : World) (h1 : Below W2.heap.size W2 w1) => drop_cells (j := j) HRw.out h1)
         clear hWW hb2 hcx hc
         obtain ⟨hnc, hBg⟩ := own_cap HOw.out
         have i1 : (0 : Int) ≤ (j : Int) := by omega
         have i2 : (j : Int) ≤ (n : Int) := by omega
         have i3 : (n : Int) ≤ (c : Int) := by omega
         have i4 : (j : Int) ≤ (c : Int) := by omega
         go_region_held3 (fun w' => w'.cell? ⟨b, off + k, none⟩ = some (.int .i64 x) ∧ Below W2.heap.size W2 w')
          (refine and_of_below hcw (by repeat (first | exact Below.refl _ _ | assumption | refine Below.drew ?_ | refine bdn ?_ _ | refine Below.alloc ?_ (by first | exact Nat.le_refl _ | exact Below.size (by assumption) | omega | (simp; done) | (simp; omega)) _)))
          (first
           | (refine step_append_own _ (by rfl) _ _ 52 (by rfl) W2.heap.size 3 i0 (.int .i64 0) 1 8 Tryz.underlying52 HI.out HZ0.out HZ1.out HZ2.out rfl (by decide) (.slice (some ⟨W2.heap.size, 0, none⟩) 0 0) 0 [] (by rfl) (own_pass (own_new (W2.drewN (nq + 1)) rfl (Nat.le_refl _)) (by repeat (first | exact Below.refl _ _ | assumption | refine Below.drew ?_ | refine bdn ?_ _ | refine Below.alloc ?_ (by first | exact Nat.le_refl _ | exact Below.size (by assumption) | omega | (simp; done) | (simp; omega)) _))) ⟨g, 0, none⟩ j c ((out.take j).map (.int .i64)) (by rfl) (len_take HN.out hj) (HTk.out _ (by repeat (first | exact Below.refl _ _ | assumption | refine Below.drew ?_ | refine bdn ?_ _ | refine Below.alloc ?_ (by first | exact Nat.le_refl _ | exact Below.size (by assumption) | omega | (simp; done) | (simp; omega)) _))) (one_ints _) (by unfold maxLen; omega) (by omega) (by first | (simp; done) | (simp; omega)) ?_; intro v1 w1 hown1 hgrow1 hnil1; have hB1 : Below W2.heap.size W2 w1 := Below.grown (by repeat (first | exact Below.refl _ _ | assumption | refine Below.drew ?_ | refine bdn ?_ _ | refine Below.alloc ?_ (by first | exact Nat.le_refl _ | exact Below.size (by assumption) | omega | (simp; done) | (simp; omega)) _)) hgrow1 (by first | (simp; done) | (simp; omega)) (fun k hk => by cases hk; dsimp only; omega); first | (have hxc : w1.cell? ⟨W2.heap.size + 1, 0, none⟩ = some (.int .i64 x) := by rw [hgrow1.cell_far _ (by first | (simp; done) | (simp; omega)) (by simp [Value.ownBlock])]; simp [go_sem]; done) | ((have hxc : w1.cell? ⟨W2.heap.size, 0, none⟩ = some (.int .i64 x) := (hgrow1.cell_far ⟨W2.heap.size, 0, none⟩ (lt_two W2 nq _ _) (ne_row _)).trans (keep (W := (W2.drewN (nq + 1)).alloc (.cells #[.int .i64 x] 3)) (by repeat (first | exact Below.refl _ _ | assumption | refine Below.drew ?_ | refine bdn ?_ _ | refine Below.alloc ?_ (by first | exact Nat.le_refl _ | exact Below.size (by assumption) | omega | (simp; done) | (simp; omega)) _)) (new_cell rfl)))) | skip; clear hgrow1 hnil1)
           | (refine step_append_own _ (by rfl) _ _ 52 (by rfl) W2.heap.size 3 i0 (.int .i64 0) 1 8 Tryz.underlying52 HI.out HZ0.out HZ1.out HZ2.out rfl (by decide) (.slice (some ⟨W2.heap.size + 1, 0, none⟩) 0 0) 0 [] (by rfl) (own_new _ (by simp) (by omega)) ⟨g, 0, none⟩ j c ((out.take j).map (.int .i64)) (by rfl) (len_take HN.out hj) (HTk.out _ (by repeat (first | exact Below.refl _ _ | assumption | refine Below.drew ?_ | refine bdn ?_ _ | refine Below.alloc ?_ (by first | exact Nat.le_refl _ | exact Below.size (by assumption) | omega | (simp; done) | (simp; omega)) _))) (one_ints _) (by unfold maxLen; omega) (by omega) (by first | (simp; done) | (simp; omega)) ?_; intro v1 w1 hown1 hgrow1 hnil1; have hB1 : Below W2.heap.size W2 w1 := Below.grown (by repeat (first | exact Below.refl _ _ | assumption | refine Below.drew ?_ | refine bdn ?_ _ | refine Below.alloc ?_ (by first | exact Nat.le_refl _ | exact Below.size (by assumption) | omega | (simp; done) | (simp; omega)) _)) hgrow1 (by first | (simp; done) | (simp; omega)) (fun k hk => by cases hk; dsimp only; omega); first | (have hxc : w1.cell? ⟨W2.heap.size + 1, 0, none⟩ = some (.int .i64 x) := by rw [hgrow1.cell_far _ (by first | (simp; done) | (simp; omega)) (by simp [Value.ownBlock])]; simp [go_sem]; done) | ((have hxc : w1.cell? ⟨W2.heap.size, 0, none⟩ = some (.int .i64 x) := (hgrow1.cell_far ⟨W2.heap.size, 0, none⟩ (lt_two W2 nq _ _) (ne_row _)).trans (keep (W := (W2.drewN (nq + 1)).alloc (.cells #[.int .i64 x] 3)) (by repeat (first | exact Below.refl _ _ | assumption | refine Below.drew ?_ | refine bdn ?_ _ | refine Below.alloc ?_ (by first | exact Nat.le_refl _ | exact Below.size (by assumption) | omega | (simp; done) | (simp; omega)) _)) (new_cell rfl)))) | skip; clear hgrow1 hnil1)
           | (refine step_append_own _ (by rfl) _ _ 52 (by rfl) W2.heap.size 3 i0 (.int .i64 0) 1 8 Tryz.underlying52 HI.out HZ0.out HZ1.out HZ2.out rfl (by decide) v1 (0 + j) ([] ++ (out.take j).map (.int .i64)) (by rfl) (own_pass hown1 (by repeat (first | exact Below.refl _ _ | assumption | refine Below.drew ?_ | refine bdn ?_ _ | refine Below.alloc ?_ (by first | exact Nat.le_refl _ | exact Below.size (by assumption) | omega | (simp; done) | (simp; omega)) _))) ⟨w1.heap.size, 0, none⟩ 1 1 [.int .i64 x] (by rfl) rfl (cell_one_new _ _ _) (one_ints [x]) (by unfold maxLen; omega) (by omega) (by have := hB1.size; first | exact this | (simp; omega)) ?_; intro v2 w2 hown2 hgrow2 hnil2; have hB2 : Below W2.heap.size W2 w2 := Below.grown (by repeat (first | exact Below.refl _ _ | assumption | refine Below.drew ?_ | refine bdn ?_ _ | refine Below.alloc ?_ (by first | exact Nat.le_refl _ | exact Below.size (by assumption) | omega | (simp; done) | (simp; omega)) _)) hgrow2 (by have := hB1.size; first | exact this | (simp; omega)) (fun k hk => (World.ownsRow.lt hown1 k hk).1); clear hgrow2 hnil2)
           | (refine step_append_own _ (by rfl) _ _ 52 (by rfl) W2.heap.size 3 i0 (.int .i64 0) 1 8 Tryz.underlying52 HI.out HZ0.out HZ1.out HZ2.out rfl (by decide) v1 (0 + j) ([] ++ (out.take j).map (.int .i64)) (by rfl) (own_pass hown1 (by repeat (first | exact Below.refl _ _ | assumption | refine Below.drew ?_ | refine bdn ?_ _ | refine Below.alloc ?_ (by first | exact Nat.le_refl _ | exact Below.size (by assumption) | omega | (simp; done) | (simp; omega)) _))) ⟨W2.heap.size + 1, 0, none⟩ 1 1 [.int .i64 x] (by rfl) rfl (one_news hxc) (one_ints [x]) (by unfold maxLen; omega) (by omega) (by have := hB1.size; first | exact this | (simp; omega)) ?_; intro v2 w2 hown2 hgrow2 hnil2; have hB2 : Below W2.heap.size W2 w2 := Below.grown (by repeat (first | exact Below.refl _ _ | assumption | refine Below.drew ?_ | refine bdn ?_ _ | refine Below.alloc ?_ (by first | exact Nat.le_refl _ | exact Below.size (by assumption) | omega | (simp; done) | (simp; omega)) _)) hgrow2 (by have := hB1.size; first | exact this | (simp; omega)) (fun k hk => (World.ownsRow.lt hown1 k hk).1); clear hgrow2 hnil2)
           | (refine step_append_own _ (by rfl) _ _ 52 (by rfl) W2.heap.size 3 i0 (.int .i64 0) 1 8 Tryz.underlying52 HI.out HZ0.out HZ1.out HZ2.out rfl (by decide) v1 (0 + j) ([] ++ (out.take j).map (.int .i64)) (by rfl) (own_pass hown1 (by repeat (first | exact Below.refl _ _ | assumption | refine Below.drew ?_ | refine bdn ?_ _ | refine Below.alloc ?_ (by first | exact Nat.le_refl _ | exact Below.size (by assumption) | omega | (simp; done) | (simp; omega)) _))) ⟨W2.heap.size, 0, none⟩ 1 1 [.int .i64 x] (by rfl) rfl (one_news hxc) (one_ints [x]) (by unfold maxLen; omega) (by omega) (by have := hB1.size; first | exact this | (simp; omega)) ?_; intro v2 w2 hown2 hgrow2 hnil2; have hB2 : Below W2.heap.size W2 w2 := Below.grown (by repeat (first | exact Below.refl _ _ | assumption | refine Below.drew ?_ | refine bdn ?_ _ | refine Below.alloc ?_ (by first | exact Nat.le_refl _ | exact Below.size (by assumption) | omega | (simp; done) | (simp; omega)) _)) hgrow2 (by have := hB1.size; first | exact this | (simp; omega)) (fun k hk => (World.ownsRow.lt hown1 k hk).1); clear hgrow2 hnil2)
           | (refine step_append_own _ (by rfl) _ _ 52 (by rfl) W2.heap.size 3 i0 (.int .i64 0) 1 8 Tryz.underlying52 HI.out HZ0.out HZ1.out HZ2.out rfl (by decide) v2 (0 + j + 1) ([] ++ (out.take j).map (.int .i64) ++ [.int .i64 x]) (by rfl) (own_pass hown2 (by repeat (first | exact Below.refl _ _ | assumption | refine Below.drew ?_ | refine bdn ?_ _ | refine Below.alloc ?_ (by first | exact Nat.le_refl _ | exact Below.size (by assumption) | omega | (simp; done) | (simp; omega)) _))) ⟨g, j, none⟩ (n - j) (c - j) ((out.drop j).map (.int .i64)) (by rfl) (len_drop HN.out) (HDk.out _ (by repeat (first | exact Below.refl _ _ | assumption | refine Below.drew ?_ | refine bdn ?_ _ | refine Below.alloc ?_ (by first | exact Nat.le_refl _ | exact Below.size (by assumption) | omega | (simp; done) | (simp; omega)) _))) (one_ints _) (by unfold maxLen; omega) (by omega) (by have := hB2.size; first | exact this | (simp; omega)) ?_; intro v3 w3 hown3 hgrow3 hnil3; have hB3 : Below W2.heap.size W2 w3 := Below.grown (by repeat (first | exact Below.refl _ _ | assumption | refine Below.drew ?_ | refine bdn ?_ _ | refine Below.alloc ?_ (by first | exact Nat.le_refl _ | exact Below.size (by assumption) | omega | (simp; done) | (simp; omega)) _)) hgrow3 (by have := hB2.size; first | exact this | (simp; omega)) (fun k hk => (World.ownsRow.lt hown2 k hk).1); clear hgrow3)
           | fail)
         all_goals
          have HIN := hid (HIns.out j hj HAll.out (fun h => absurd h hjn))
          obtain ⟨g', c', hv3, ho3⟩ := ins_own hown3 rfl HBw.out.size HN.out hj
          have HO3 := hid ho3
          have HB3 := hid (HBw.out.trans (hB3.mono HBw.out.size))
          subst hv3
          clear hown1 hown2 hown3 ho3 hB1 hB2 hB3 hnil3
          go_wp2
          exact ⟨⟨k + 1, g', c', by omega, by go_num, by rw [HT.out, HIN.out], by rw [HT.out, HIN.out]; exact HO3.out, HB3.out⟩, by simp [intOf]; omega⟩
  · have e : k = len := by omega
    subst e
    have ht : zs.take k = zs := List.take_of_length_le (by rw [HL.out]; omega)
    rw [ht, HRR.out] at HO hown ⊢
    obtain ⟨a', cap', hv, hrow⟩ := hown.form
    cases hv
    have HRow := hid hrow
    have HOZ : Hid (∀ i, i < R.length → -40 ≤ R[i]?.getD 0 ∧ R[i]?.getD 0 ≤ 40) := fun i hi => by
     rw [List.getElem?_eq_getElem hi]
     exact HZ.out _ (((ord_rises zs).2 _).1 (by rw [HRR.out]; exact List.getElem_mem hi))
    have hlo : R.length ≤ 4096 := by have := ord_length zs; rw [HL.out, HRR.out] at this; omega
    clear hown hbel hrow ht
    have HOB : Hid (ob = oppTo R R.length) := HOO.out.symm
    obtain ⟨n, hn⟩ : ∃ n, R.length = n := ⟨_, rfl⟩
    rw [hn] at HRow HO HOZ hlo HOB ⊢
    clear hn
    generalize wr = W1 at *
    go_wp2
    go_loopw [7] (fun i wr => ∃ m q : Nat, 1 ≤ m ∧ (m ≤ n ∨ m = 1) ∧ i = .int .i64 m ∧ oppTo R m = false ∧ wr = W1.drewN q) (fun i _ => n - (intOf i).toNat)
    case atStart => exact ⟨1, 0, Nat.le_refl _, .inr rfl, rfl, rfl, rfl⟩
    case round =>
     obtain ⟨m', q, h1, hm, rfl, ha, hw⟩ := hrel
     have HA := hid ha
     clear ha
     by_cases hlt2 : m' < n
     · obtain ⟨m, hm1⟩ : ∃ m, m' = m + 1 := ⟨m' - 1, by omega⟩
       obtain ⟨b1, o1, e1, hc0⟩ := HRow.out.cell m' hlt2
       obtain ⟨b2, o2, e2, hd0⟩ := HRow.out.cell m (by omega)
       cases e1
       cases e2
       have hc : wr.cell? ⟨g, 0 + m', none⟩ = some (.int .i64 (R[m']?.getD 0)) := by rw [hw]; simpa using hc0
       have hd : wr.cell? ⟨g, 0 + m, none⟩ = some (.int .i64 (R[m]?.getD 0)) := by rw [hw]; simpa using hd0
       rw [Nat.zero_add] at hc hd
       obtain ⟨r0, r1⟩ := HOZ.out m' hlt2
       have HS : Hid (oppTo R (m' + 1) = (oppTo R m' || decide (R[m]?.getD 0 = -(R[m']?.getD 0)))) := by
        show _ = _
        rw [hm1]; exact opp_succ R m
       have HUp := hid (fun h => opp_up (r := R) (n := m' + 1) (m := n) (by omega) h)
       have HW := hid hw
       have ip : (m' : Int) - 1 = (m : Int) := by omega
       have ip1 : (m : Int) < (n : Int) := by omega
       have ip2 : (m' : Int) < (n : Int) := by omega
       have HM := hid hm1
       clear hw hc0 hd0 hm1
       generalize R[m']?.getD 0 = y at *
       generalize R[m]?.getD 0 = x at *
       by_cases he : x = -y
       · have hq : (x == -y) = true := by simp [he]
         have HE := hid he
         clear he
         go_wp2
         go_quiet (fail)
         go_wp2
         go_ret2
         have hb2 : ∀ q', Below W1.heap.size W1 (wr.drewN q') := fun q' => by rw [HW.out, World.drewN_drewN]; exact below_drewN _ _
         exact ⟨_, by rw [HOB.out, HUp.out (by rw [HS.out, decide_eq_true HE.out, Bool.or_true])]; rfl, HO.out.below (hb2 _), HB.out.trans ((hb2 _).mono HB.out.size)⟩
       · have hq : (x == -y) = false := by simp [he]
         have HE := hid he
         clear he
         go_wp2
         go_quiet (fail)
         go_wp2
         go_roundw
         case rel => exact ⟨m' + 1, q + nq, by omega, .inl (by omega), by go_num, by rw [HS.out, HA.out, decide_eq_false HE.out]; rfl, by rw [HW.out, World.drewN_drewN]⟩
         case measure => simp [intOf]; omega
     · have hb2 : Hid (Below W1.heap.size W1 wr) := by show Below _ _ _; rw [hw]; exact below_drewN _ _
       have HF : Hid (oppTo R n = false) := by
        show _ = _
        rcases hm with hm | hm
        · rw [show n = m' by omega]; exact HA.out
        · subst hm
          rcases (show n = 0 ∨ n = 1 by omega) with rfl | rfl <;> rfl
       clear hw
       go_wp2
       go_ret2
       exact ⟨_, by rw [HOB.out, HF.out]; rfl, HO.out.below hb2.out, HB.out.trans (hb2.out.mono HB.out.size)⟩
end Go.Proofs.YtmkhoocokpkojaaGreatDoor.sorted
