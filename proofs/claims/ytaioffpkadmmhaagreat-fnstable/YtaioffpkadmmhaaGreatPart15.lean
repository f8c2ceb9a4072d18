import Derived.Test.YtaioffpkadmmhaaGreatPart9
import Derived.Test.YtaioffpkadmmhaaGreatPart5
namespace Go.Proofs.YtaioffpkadmmhaaGreat.candClear
open Go.RowKit Go.Deep Go base netSem nbSem routeRow candSem
set_option linter.unusedVariables false
set_option maxHeartbeats 1600000 in
theorem clear_impl (a : Option Addr) (n cap : Nat) (rs : Rs) (fr other : Int) (w : World) (hr : RtRow w a n rs) (hv : ∀ i, i < n → (rs i).via < n) (hf : 0 ≤ fr) (hf2 : fr < n) :
  Calls Tryz.prog 85 #[.slice a n cap, .int .i64 fr, .int .i64 other] w fun e w' => e = .returned (.bool (!(thru rs other n fr))) ∧ Below w.heap.size w w' := by
 have HR := hid hr
 have HV := hid hv
 have mr := hr.most
 unfold maxLen at mr
 clear hr hv
 obtain ⟨m0, rfl⟩ : ∃ m : Nat, fr = (m : Int) := ⟨fr.toNat, by omega⟩
 obtain ⟨T, hT⟩ : ∃ T, thru rs other n (m0 : Int) = T := ⟨_, rfl⟩
 have HT := hid hT
 rw [hT]
 clear hT
 go_enter Tryz.func85, Tryz.ntmps85
 go_wp2
 go_loopw [9, 1] (fun i v wr => ∃ k m : Nat, k ≤ n ∧ m < n ∧ i = .int .i64 k ∧ v = .int .i64 m ∧ Below w.heap.size w wr ∧ thru rs other (n - k) (m : Int) = T) (fun i _ _ => n - (intOf i).toNat)
 case atStart => exact ⟨0, m0, Nat.zero_le _, by omega, rfl, rfl, (by repeat (first | exact Below.refl _ _ | assumption | refine Below.drew ?_ | refine Below.alloc ?_ (by first | exact Nat.le_refl _ | omega | (simp; done) | (simp; omega)) _ | refine Below.setCell ?_ (by first | exact Nat.le_refl _ | omega | (simp; done) | (simp; omega)) _)), HT.out⟩
 case round =>
  obtain ⟨k, m, hk, hm, rfl, rfl, hb, ht⟩ := hrel
  have HB := hid hb
  have HU := hid ht
  clear hb ht HT
  by_cases hlt : k < n
  · have HU2 : Hid ((if (m : Int) = other then true else if (m : Int) < 0 then false else if (rs m).via < 0 then false else thru rs other (n - k - 1) (rs m).via) = T) := hid (by
     have h := HU.out
     rw [show n - k = n - k - 1 + 1 from by omega] at h
     exact h)
    have HVm := hid (HV.out m hm)
    obtain ⟨b0, off, rfl, c0, c1, c2, c3⟩ := HR.out.at4 hm
    replace c0 := keep HB.out c0
    clear c1 c2 c3
    generalize (rs m).via = y at *
    clear HU
    by_cases h1 : (m : Int) = other
    · have e1 : ((m : Int) == other) = true := by simp [h1]
      have HT2 := HU2.out
      rw [if_pos h1] at HT2
      subst HT2
      clear h1 HU2
      go_wp2
      go_ret
      exact ⟨rfl, HB.out⟩
    have e1 : ((m : Int) == other) = false := by simp [h1]
    have HU3 := HU2.out
    rw [if_neg h1, if_neg (by omega)] at HU3
    clear h1 HU2
    by_cases h2 : y < 0
    · have e3 : decide (y < 0) = true := decide_eq_true h2
      rw [if_pos h2] at HU3
      subst HU3
      clear h2
      go_wp2
      go_ret
      exact ⟨rfl, HB.out⟩
    · have e3 : decide (y < 0) = false := decide_eq_false h2
      rw [if_neg h2] at HU3
      have HU4 := hid HU3
      clear HU3
      obtain ⟨m1, rfl⟩ : ∃ q : Nat, y = (q : Int) := ⟨y.toNat, by omega⟩
      clear h2
      go_wp2
      go_roundw
      case rel => exact ⟨k + 1, m1, by omega, by have := HVm.out; omega, by go_num, rfl, HB.out, by rw [show n - (k + 1) = n - k - 1 from by omega]; exact HU4.out⟩
      case measure => simp [intOf]; omega
  · have e : k = n := by omega
    subst e
    have HT2 := HU.out
    rw [Nat.sub_self] at HT2
    have HT3 : true = T := HT2
    subst HT3
    clear HT2 HU hlt
    go_wp2
    go_ret
    exact ⟨rfl, HB.out⟩
end Go.Proofs.YtaioffpkadmmhaaGreat.candClear
namespace Go.Proofs.YtaioffpkadmmhaaGreat.walkSem
open Go.RowKit Go.Deep base names netSem routeRow
set_option linter.unusedVariables false
end Go.Proofs.YtaioffpkadmmhaaGreat.walkSem
namespace Go.Proofs.YtaioffpkadmmhaaGreat.routesB
open Go.RowKit Go.Deep base names netSem routeRow walkSem
set_option linter.unusedVariables false
def noneB (r : Rt) : Bool := decide (r.via = -3) && decide (r.pref = 0) && decide (r.len = 0) && !r.mark
def routeB (g : R) (nl n : Nat) (i : Nat) (r : Rt) : Bool := inB r.via (-3) ((n : Int) - 1) && inB r.pref 0 1000 && inB r.len 0 10000 && !(decide (0 ≤ r.via) && decide (linkAt g nl (i : Int) r.via < 0)) && !(decide (r.via = -3) && !noneB r)
def routesB (g : R) (nl n rl : Nat) (rs : Rs) : Bool := decide (rl = n) && allN (fun i => routeB g nl n i (rs i)) rl
def routeI (g : R) (nl : Nat) (i : Nat) (r : Rt) : Bool := if r.via = -3 then noneB r else (inB r.via (-2) (-1) || decide (0 ≤ linkAt g nl (i : Int) r.via)) && inB r.pref 0 1000 && inB r.len 0 10000
def LinksIn (g : R) (nl n : Nat) : Prop := ∀ j, j < nl → 0 ≤ g j 0 ∧ g j 0 < n ∧ 0 ≤ g j 1 ∧ g j 1 < n
theorem links_in {l : Nat → Nat} {s : Ss} {g x f : R} {o e : List Int} (h : netB l s g o e x f = true) : LinksIn g (l 1) (l 0) := by
 unfold netB linksB at h
 simp only [Bool.and_eq_true, decide_eq_true_eq] at h
 obtain ⟨⟨⟨⟨⟨⟨_, _, h1⟩, _⟩, _⟩, _⟩, _⟩, _⟩ := h
 intro j hj
 have := allN_iff.1 h1 j hj
 unfold linkB inB at this
 simp only [Bool.and_eq_true, decide_eq_true_eq] at this
 omega
theorem link_in {g : R} {nl n : Nat} {a b : Int} (h : LinksIn g nl n) (hl : 0 ≤ linkAt g nl a b) : 0 ≤ b ∧ b < n := by
 obtain ⟨j, hj, hh⟩ := firstAt_spec.1 hl
 have := h j hj
 unfold hit at hh
 rw [decide_eq_true_eq] at hh
 omega
theorem route_eq {g : R} {nl n : Nat} (h : LinksIn g nl n) (i : Nat) (r : Rt) : routeB g nl n i r = routeI g nl i r := by
 unfold routeB routeI
 have hl := fun hh => link_in (a := (i : Int)) (b := r.via) h hh
 generalize linkAt g nl (i : Int) r.via = L at *
 by_cases h3 : r.via = -3
 · rw [if_pos h3, Bool.eq_iff_iff]
   simp only [noneB, inB, h3]
   simp
   intro h4 h5 h6
   omega
 · rw [if_neg h3, Bool.eq_iff_iff]
   simp [inB, h3]
   constructor
   · rintro ⟨⟨⟨h4, h5⟩, h6⟩, h7⟩
     refine ⟨⟨?_, h5⟩, h6⟩
     omega
   · rintro ⟨⟨h4, h5⟩, h6⟩
     refine ⟨⟨⟨?_, h5⟩, h6⟩, ?_⟩
     · rcases h4 with h4 | h4
       · omega
       · have := hl h4; omega
     · omega
def downB (g : R) (nl : Nat) (ds : List Bool) (i : Nat) (r : Rt) : Bool := decide (0 ≤ linkAt g nl (i : Int) r.via) && ds[(linkAt g nl (i : Int) r.via).toNat]?.getD false
def anyDown (g : R) (nl rl : Nat) (ds : List Bool) (rs : Rs) : Bool := !allN (fun i => !downB g nl ds i (rs i)) rl
end Go.Proofs.YtaioffpkadmmhaaGreat.routesB
namespace Go.Proofs.YtaioffpkadmmhaaGreat.netImpl
open Go.RowKit Go.Deep base names netSem
set_option linter.unusedVariables false
set_option maxHeartbeats 400000 in
theorem within_impl (n low high : Int) (w : World) :
  Calls Tryz.prog 55 #[.int .i64 n, .int .i64 low, .int .i64 high] w fun e w' => e = .returned (.bool (inB n low high)) ∧ w' = w := by
 go_enter Tryz.func55, Tryz.ntmps55
 go_wp2
 all_goals
  go_ret
  refine ⟨ret_bool ?_, rfl⟩
  rw [Bool.eq_iff_iff]; simp [inB, *]; try omega
set_option maxHeartbeats 400000 in
theorem router_impl (n : Int) (r : Nat) (w : World) (hr : r ≤ maxLen) :
  Calls Tryz.prog 31 #[.int .i64 n, .int .i64 r] w fun e w' => e = .returned (.bool (inB n 0 (r - 1))) ∧ w' = w := by
 unfold maxLen at hr
 go_enter Tryz.func31, Tryz.ntmps31
 go_wp2_with (go_at_call 55; refine (within_impl _ _ _ _).mono ?_; rintro e w' ⟨rfl, rfl⟩)
 go_ret
 exact ⟨rfl, rfl⟩
set_option maxHeartbeats 400000 in
theorem index_str (a : Option Addr) (len cap : Nat) (s : Ss) (t : ByteArray) (w : World) (hr : StrRow w a len s) :
  Calls Tryz.prog 114 #[.slice a len cap, .string t] w fun e w' => e = .returned (.int .i64 (nameAt s len t)) ∧ w' = w := by
 have hmost := hr.most
 unfold maxLen at hmost
 have HC := hid hr.cell
 clear hr
 go_enter Tryz.func114, Tryz.ntmps114
 go_wp2
 go_loop [8] (fun i => ∃ k : Nat, k ≤ len ∧ i = .int .i64 k ∧ ∀ j, j < k → same s t j = false) (fun i => len - (intOf i).toNat)
 case atStart => exact ⟨0, Nat.zero_le _, rfl, fun j hj => absurd hj (Nat.not_lt_zero _)⟩
 case round =>
  obtain ⟨k, hk, rfl, ha⟩ := hrel
  have HA := hid ha
  clear ha
  by_cases hlt : k < len
  · obtain ⟨b, off, rfl, hc⟩ := HC.out k hlt
    by_cases he : (s k).toList = t.toList
    · have hq : (t.toList == (s k).toList) = true := by simp [he]
      have HE := hid (show same s t k = true from decide_eq_true he)
      clear he
      go_wp2
      go_ret
      exact ⟨ret_int (firstAt_hit hlt HE.out HA.out).symm, rfl⟩
    · have hq : (t.toList == (s k).toList) = false := beq_eq_false_iff_ne.2 fun h => he h.symm
      have HE := hid (show same s t k = false from decide_eq_false he)
      clear he
      go_wp2
      go_round
      case rel =>
       refine ⟨k + 1, by omega, by go_num, fun j hj => ?_⟩
       by_cases e : j = k
       · subst e; exact HE.out
       · exact HA.out j (by omega)
      case measure => simp [intOf]; omega
  · have e : k = len := by omega
    subst e
    go_wp2
    go_ret
    exact ⟨ret_int (firstAt_none HA.out).symm, rfl⟩
set_option maxHeartbeats 400000 in
theorem contains_str (a : Option Addr) (len cap : Nat) (s : Ss) (t : ByteArray) (w : World) (hr : StrRow w a len s) :
  Calls Tryz.prog 90 #[.slice a len cap, .string t] w fun e w' => e = .returned (.bool (decide (0 ≤ nameAt s len t))) ∧ w' = w := by
 have HR := hid hr
 clear hr
 go_enter Tryz.func90, Tryz.ntmps90
 go_wp2_with fail
 refine (index_str a len cap s t _ HR.out).mono ?_
 rintro e w' ⟨rfl, rfl⟩
 go_wp2
 go_ret
 exact ⟨rfl, rfl⟩
set_option maxHeartbeats 800000 in
theorem routers_impl (a : Option Addr) (len cap : Nat) (s : Ss) (w : World) (hr : StrRow w a len s) (hcap : len ≤ cap) :
  Calls Tryz.prog 59 #[.slice a len cap] w fun e w' => e = .returned (.bool (routersB s len)) ∧ ∃ n, w' = w.drewN n := by
 have hmost := hr.most
 unfold maxLen at hmost
 have HR := hid hr
 clear hr
 by_cases hin : inB len 1 4 = true
 · have hd : Hid (routersB s len = allN (routerB s) len) := by
    show _ = _
    unfold routersB; rw [hin, Bool.true_and]
   go_enter Tryz.func59, Tryz.ntmps59
   go_wp2_with (go_at_call 55; refine (within_impl _ _ _ _).mono ?_; rintro e w' ⟨rfl, hw'⟩; have hw' := hw'.symm; subst hw')
   go_loopw [11] (fun i wr => ∃ k : Nat, k ≤ len ∧ i = .int .i64 k ∧ (∀ j, j < k → routerB s j = true) ∧ ∃ n, wr = w.drewN n) (fun i _ => len - (intOf i).toNat)
   case atStart => exact ⟨0, Nat.zero_le _, rfl, fun j hj => absurd hj (Nat.not_lt_zero _), 0, rfl⟩
   case round =>
    obtain ⟨k, hk, rfl, ha, n, hw⟩ := hrel
    have HA := hid ha
    have HW := hid hw
    clear ha
    by_cases hlt : k < len
    · obtain ⟨b, off, rfl, hc0⟩ := HR.out.cell k hlt
      have hc : wr.cell? ⟨b, off + k, none⟩ = some (.string (s k)) := by rw [hw]; simpa using hc0
      have HR2 : Hid (StrRow wr (some ⟨b, off, none⟩) k s) := by
       show StrRow _ _ _ _
       rw [hw]; exact (HR.out.front (by omega)).below (below_drewN _ _)
      have hkc : (k : Int) ≤ (cap : Int) := by omega
      have hsz := HR.out.size k hlt
      have HS := hid hsz
      have HQ : Hid (routerB s k = (nameB (s k) && decide (nameAt s k (s k) < 0))) := rfl
      clear hw hc0
      generalize s k = t at *
      by_cases hn : nameB t = true
      · by_cases hp : 0 ≤ nameAt s k t
        · have hpd : decide (0 ≤ nameAt s k t) = true := decide_eq_true hp
          have HF := hid (show routerB s k = false by rw [HQ.out, hn, decide_eq_false (by omega)]; rfl)
          clear hp
          go_wp2_with (first | (go_at_call 89; refine (name_impl _ _ HS.out).mono ?_; rintro e w' ⟨rfl, rfl⟩) | (go_at_call 90; refine (contains_str _ _ _ s _ _ HR2.out).mono ?_; rintro e w' ⟨rfl, rfl⟩))
          go_ret
          exact ⟨ret_bool (by rw [hd.out]; exact (allN_false hlt HF.out).symm), n, HW.out⟩
        · have hpd : decide (0 ≤ nameAt s k t) = false := decide_eq_false hp
          have HF := hid (show routerB s k = true by rw [HQ.out, hn, decide_eq_true (by omega)]; rfl)
          clear hp
          go_wp2_with (first | (go_at_call 89; refine (name_impl _ _ HS.out).mono ?_; rintro e w' ⟨rfl, rfl⟩) | (go_at_call 90; refine (contains_str _ _ _ s _ _ HR2.out).mono ?_; rintro e w' ⟨rfl, rfl⟩))
          go_roundw
          case rel =>
           refine ⟨k + 1, by omega, by go_num, fun j hj => ?_, n, HW.out⟩
           by_cases e : j = k
           · subst e; exact HF.out
           · exact HA.out j (by omega)
          case measure => simp [intOf]; omega
      · have hn' : nameB t = false := by simpa using hn
        have HF := hid (show routerB s k = false by rw [HQ.out, hn']; rfl)
        clear hn
        go_wp2_with (first | (go_at_call 89; refine (name_impl _ _ HS.out).mono ?_; rintro e w' ⟨rfl, rfl⟩))
        go_ret
        exact ⟨ret_bool (by rw [hd.out]; exact (allN_false hlt HF.out).symm), n, HW.out⟩
    · have e : k = len := by omega
      subst e
      go_wp2
      go_ret
      exact ⟨ret_bool (by rw [hd.out]; exact (allN_of HA.out).symm), n, by first | exact HW.out | rfl⟩
 · have hf : routersB s len = false := by unfold routersB; simp [hin]
   have hin' : inB len 1 4 = false := by simpa using hin
   rw [hf]
   clear hf hin
   go_enter Tryz.func59, Tryz.ntmps59
   go_wp2_with (go_at_call 55; refine (within_impl _ _ _ _).mono ?_; rintro e w' ⟨rfl, rfl⟩)
   go_ret
   exact ⟨rfl, 0, rfl⟩
theorem mkfunc (fn : Fn) (first cap : Array Value) (w : World) : (Instr.makeFunc fn first cap).run Tryz.prog w = .ok (.func fn first cap) w := rfl
set_option maxHeartbeats 400000 in
theorem linkCl (x y c a b : Int) (B1 B2 : Nat) (w : World) (h1 : w.cell? ⟨B1, 0, none⟩ = some (.int .i64 a)) (h2 : w.cell? ⟨B2, 0, none⟩ = some (.int .i64 b)) :
  Calls Tryz.prog 65 #[.agg #[.int .i64 x, .int .i64 y, .int .i64 c], .pointer (some ⟨B1, 0, none⟩), .pointer (some ⟨B2, 0, none⟩)] w fun e w' => e = .returned (.bool (decide (x = a ∧ y = b ∨ x = b ∧ y = a))) ∧ Below w.heap.size w w' := by
 have g1 := keep (show Below w.heap.size w (w.alloc (.cells #[.int .i64 x, .int .i64 y, .int .i64 c] 82)) from (by repeat (first | exact Below.refl _ _ | assumption | refine Below.drew ?_ | refine Below.alloc ?_ (by first | exact Nat.le_refl _ | omega | (simp; done) | (simp; omega)) _ | refine Below.setCell ?_ (by first | exact Nat.le_refl _ | omega | (simp; done) | (simp; omega)) _))) h1
 have g2 := keep (show Below w.heap.size w (w.alloc (.cells #[.int .i64 x, .int .i64 y, .int .i64 c] 82)) from (by repeat (first | exact Below.refl _ _ | assumption | refine Below.drew ?_ | refine Below.alloc ?_ (by first | exact Nat.le_refl _ | omega | (simp; done) | (simp; omega)) _ | refine Below.setCell ?_ (by first | exact Nat.le_refl _ | omega | (simp; done) | (simp; omega)) _))) h2
 obtain ⟨D, hD⟩ : ∃ D, decide (x = a ∧ y = b ∨ x = b ∧ y = a) = D := ⟨_, rfl⟩
 rw [hD]
 obtain ⟨p1, e1⟩ : ∃ p, (x == a) = p := ⟨_, rfl⟩
 obtain ⟨p2, e2⟩ : ∃ p, (y == b) = p := ⟨_, rfl⟩
 obtain ⟨p3, e3⟩ : ∃ p, (x == b) = p := ⟨_, rfl⟩
 obtain ⟨p4, e4⟩ : ∃ p, (y == a) = p := ⟨_, rfl⟩
 have HD : Hid (D = (p1 && p2 || p3 && p4)) := by
  show _ = _
  rw [← hD, ← e1, ← e2, ← e3, ← e4, Bool.eq_iff_iff]
  simp
 clear hD
 cases p1 <;> cases p2 <;> cases p3 <;> cases p4
 all_goals
  go_enter Tryz.func65, Tryz.ntmps65
  go_wp2
  go_ret
  exact ⟨ret_bool (by rw [HD.out]; rfl), (by repeat (first | exact Below.refl _ _ | assumption | refine Below.drew ?_ | refine Below.alloc ?_ (by first | exact Nat.le_refl _ | omega | (simp; done) | (simp; omega)) _ | refine Below.setCell ?_ (by first | exact Nat.le_refl _ | omega | (simp; done) | (simp; omega)) _))⟩
set_option maxHeartbeats 800000 in
theorem indexLink (p : Option Addr) (len cap : Nat) (g : R) (a b : Int) (B1 B2 : Nat) (w : World) (hr : Row 3 w p len g) (h1 : w.cell? ⟨B1, 0, none⟩ = some (.int .i64 a)) (h2 : w.cell? ⟨B2, 0, none⟩ = some (.int .i64 b)) :
  Calls Tryz.prog 64 #[.slice p len cap, .func (.func 65) #[] #[.pointer (some ⟨B1, 0, none⟩), .pointer (some ⟨B2, 0, none⟩)]] w fun e w' => e = .returned (.int .i64 (linkAt g len a b)) ∧ Below w.heap.size w w' := by
 have hmost := hr.most
 unfold maxLen at hmost
 have HR := hid hr
 have H1 := hid h1
 have H2 := hid h2
 clear hr h1 h2
 go_enter Tryz.func64, Tryz.ntmps64
 go_wp2
 go_loopw [8] (fun i wr => ∃ k : Nat, k ≤ len ∧ i = .int .i64 k ∧ (∀ j, j < k → hit g a b j = false) ∧ Below w.heap.size w wr) (fun i _ => len - (intOf i).toNat)
 case atStart => exact ⟨0, Nat.zero_le _, rfl, fun j hj => absurd hj (Nat.not_lt_zero _), Below.refl _ _⟩
 case round =>
  obtain ⟨k, hk, rfl, ha, hbel⟩ := hrel
  have HA := hid ha
  have HB := hid hbel
  clear ha
  by_cases hlt : k < len
  · obtain ⟨b0, off, rfl, c0, c1, c2⟩ := HR.out.at3 hlt
    replace c0 := keep hbel c0
    replace c1 := keep hbel c1
    replace c2 := keep hbel c2
    have g1 := hid (keep hbel H1.out)
    have g2 := hid (keep hbel H2.out)
    have HQ : Hid (hit g a b k = decide (g k 0 = a ∧ g k 1 = b ∨ g k 0 = b ∧ g k 1 = a)) := rfl
    clear hbel
    generalize hD : decide (g k 0 = a ∧ g k 1 = b ∨ g k 0 = b ∧ g k 1 = a) = D at HQ
    have HD := hid hD
    clear hD
    generalize g k 0 = x at *
    generalize g k 1 = y at *
    generalize g k 2 = z at *
    cases D with
    | true =>
     go_wp2_with fail
     refine (linkCl x y z a b B1 B2 _ g1.out g2.out).mono ?_
     rintro e w1 ⟨rfl, hb1⟩
     have HB1 := hid (HB.out.trans (hb1.mono HB.out.size))
     clear hb1
     rw [HD.out]
     go_wp2
     go_ret
     exact ⟨ret_int (firstAt_hit hlt HQ.out HA.out).symm, HB1.out⟩
    | false =>
     go_wp2_with fail
     refine (linkCl x y z a b B1 B2 _ g1.out g2.out).mono ?_
     rintro e w1 ⟨rfl, hb1⟩
     have HB1 := hid (HB.out.trans (hb1.mono HB.out.size))
     clear hb1
     rw [HD.out]
     go_wp2
     go_roundw
     case rel =>
      refine ⟨k + 1, by omega, by go_num, fun j hj => ?_, HB1.out⟩
      by_cases e : j = k
      · subst e; exact HQ.out
      · exact HA.out j (by omega)
     case measure => simp [intOf]; omega
  · have e : k = len := by omega
    subst e
    clear hbel
    go_wp2
    go_ret
    exact ⟨ret_int (firstAt_none HA.out).symm, HB.out⟩
set_option maxHeartbeats 400000 in
theorem link_impl (p : Option Addr) (len cap : Nat) (g : R) (a b : Int) (w : World) (hr : Row 3 w p len g) :
  Calls Tryz.prog 36 #[.slice p len cap, .int .i64 a, .int .i64 b] w fun e w' => e = .returned (.int .i64 (linkAt g len a b)) ∧ Below w.heap.size w w' := by
 have HR := hid hr
 clear hr
 have hmf := mkfunc
 go_enter Tryz.func36, Tryz.ntmps36
 go_wp2_with fail
 refine (indexLink p len cap g a b _ _ _ (HR.out.below (by repeat (first | exact Below.refl _ _ | assumption | refine Below.drew ?_ | refine Below.alloc ?_ (by first | exact Nat.le_refl _ | omega | (simp; done) | (simp; omega)) _ | refine Below.setCell ?_ (by first | exact Nat.le_refl _ | omega | (simp; done) | (simp; omega)) _))) ?_ ?_).mono ?_
 · simp [go_sem]
 · simp [go_sem]
 rintro e w1 ⟨rfl, hb1⟩
 have HB1 := hid ((show Below w.heap.size w _ from (by repeat (first | exact Below.refl _ _ | assumption | refine Below.drew ?_ | refine Below.alloc ?_ (by first | exact Nat.le_refl _ | omega | (simp; done) | (simp; omega)) _ | refine Below.setCell ?_ (by first | exact Nat.le_refl _ | omega | (simp; done) | (simp; omega)) _))).trans (hb1.mono (by simp; omega)))
 clear hb1 hmf
 go_wp2
 go_ret
 exact ⟨rfl, HB1.out⟩
set_option maxHeartbeats 400000 in
theorem joined_impl (p : Option Addr) (len cap : Nat) (g : R) (a b : Int) (w : World) (hr : Row 3 w p len g) :
  Calls Tryz.prog 91 #[.slice p len cap, .int .i64 a, .int .i64 b] w fun e w' => e = .returned (.bool (decide (0 ≤ linkAt g len a b))) ∧ Below w.heap.size w w' := by
 have HR := hid hr
 clear hr
 go_enter Tryz.func91, Tryz.ntmps91
 go_wp2_with fail
 refine (link_impl p len cap g a b _ HR.out).mono ?_
 rintro e w1 ⟨rfl, hb1⟩
 have HB1 := hid hb1
 clear hb1
 go_wp2
 go_ret
 exact ⟨rfl, HB1.out⟩
end Go.Proofs.YtaioffpkadmmhaaGreat.netImpl
