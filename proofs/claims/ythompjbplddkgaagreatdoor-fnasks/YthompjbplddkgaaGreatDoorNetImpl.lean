import Derived.Test.YthompjbplddkgaaGreatDoorPart4
set_option linter.unusedVariables false
namespace Go.Proofs.YthompjbplddkgaaGreatDoor.netImpl
open Go.RowKit Go.Deep base names netSem
set_option maxHeartbeats 400000 in
theorem within_impl (n low high:Int) (w:World) :
  Calls Tryz.prog 57 #[.int .i64 n,.int .i64 low,.int .i64 high] w fun e w'=>e=.returned (.bool (inB n low high))∧w' = w:=by
 go_enter Tryz.func57,Tryz.ntmps57
 go_wp2
 all_goals
  go_ret
  refine ⟨ret_bool ?_,rfl⟩
  rw [Bool.eq_iff_iff];simp [inB, *];try omega
set_option maxHeartbeats 400000 in
theorem router_impl (n:Int) (r:Nat) (w:World) (hr:r≤maxLen) :
  Calls Tryz.prog 63 #[.int .i64 n,.int .i64 r] w fun e w'=>e=.returned (.bool (inB n 0 (r - 1)))∧w' = w:=by
 unfold maxLen at hr
 go_enter Tryz.func63,Tryz.ntmps63
 go_wp2_with (go_at_call 57;refine (within_impl _ _ _ _).mono ?_;rintro e w' ⟨rfl,rfl⟩)
 go_ret
 exact ⟨rfl,rfl⟩
set_option maxHeartbeats 400000 in
theorem index_str (a:Option Addr) (len cap:Nat) (s:Ss) (t:ByteArray) (w:World) (hr:StrRow w a len s) :
  Calls Tryz.prog 74 #[.slice a len cap,.string t] w fun e w'=>e=.returned (.int .i64 (nameAt s len t))∧w' = w:=by
 have hmost:=hr.most
 unfold maxLen at hmost
 have HC:=hid hr.cell
 clear hr
 go_enter Tryz.func74,Tryz.ntmps74
 go_wp2
 go_loop [8] (fun i=>∃ k:Nat,k≤len∧i=.int .i64 k∧∀ j,j<k→same s t j=false) (fun i=>len - (intOf i).toNat)
 case atStart=>exact ⟨0,Nat.zero_le _,rfl,fun j hj=>absurd hj (Nat.not_lt_zero _)⟩
 case round =>
  obtain ⟨k,hk,rfl,ha⟩:=hrel
  have HA:=hid ha
  clear ha
  by_cases hlt:k<len
  · obtain ⟨b,off,rfl,hc⟩:=HC.out k hlt
    by_cases he:(s k).toList=t.toList
    · have hq:(t.toList == (s k).toList)=true:=by simp [he]
      have HE:=hid (show same s t k=true from decide_eq_true he)
      clear he
      go_wp2
      go_ret
      exact ⟨ret_int (firstAt_hit hlt HE.out HA.out).symm,rfl⟩
    · have hq:(t.toList == (s k).toList)=false:=beq_eq_false_iff_ne.2 fun h=>he h.symm
      have HE:=hid (show same s t k=false from decide_eq_false he)
      clear he
      go_wp2
      go_round
      case rel =>
       refine ⟨k+1,by omega,by go_num,fun j hj=>?_⟩
       by_cases e:j=k
       · subst e;exact HE.out
       · exact HA.out j (by omega)
      case measure=>simp [intOf];omega
  · have e:k=len:=by omega
    subst e
    go_wp2
    go_ret
    exact ⟨ret_int (firstAt_none HA.out).symm,rfl⟩
set_option maxHeartbeats 400000 in
theorem contains_str (a:Option Addr) (len cap:Nat) (s:Ss) (t:ByteArray) (w:World) (hr:StrRow w a len s) :
  Calls Tryz.prog 62 #[.slice a len cap,.string t] w fun e w'=>e=.returned (.bool (decide (0≤nameAt s len t)))∧w' = w:=by
 have HR:=hid hr
 clear hr
 go_enter Tryz.func62,Tryz.ntmps62
 go_wp2_with fail
 refine (index_str a len cap s t _ HR.out).mono ?_
 rintro e w' ⟨rfl,rfl⟩
 go_wp2
 go_ret
 exact ⟨rfl,rfl⟩
set_option maxHeartbeats 800000 in
theorem routers_impl (a:Option Addr) (len cap:Nat) (s:Ss) (w:World) (hr:StrRow w a len s) (hcap:len≤cap) :
  Calls Tryz.prog 34 #[.slice a len cap] w fun e w'=>e=.returned (.bool (routersB s len))∧∃ n,w' = w.drewN n:=by
 have hmost:=hr.most
 unfold maxLen at hmost
 have HR:=hid hr
 clear hr
 by_cases hin:inB len 1 4=true
 · have hd : Hid (routersB s len = allN (routerB s) len) := by
    show _=_
    unfold routersB;rw [hin,Bool.true_and]
   go_enter Tryz.func34,Tryz.ntmps34
   go_wp2_with (go_at_call 57;refine (within_impl _ _ _ _).mono ?_;rintro e w' ⟨rfl,hw'⟩;have hw' := hw'.symm;subst hw')
   go_loopw [11] (fun i wr=>∃ k:Nat,k≤len∧i=.int .i64 k∧(∀ j,j<k→routerB s j=true)∧∃ n,wr=w.drewN n) (fun i _=>len - (intOf i).toNat)
   case atStart=>exact ⟨0,Nat.zero_le _,rfl,fun j hj=>absurd hj (Nat.not_lt_zero _),0,rfl⟩
   case round =>
    obtain ⟨k,hk,rfl,ha,n,hw⟩:=hrel
    have HA:=hid ha
    have HW:=hid hw
    clear ha
    by_cases hlt:k<len
    · obtain ⟨b,off,rfl,hc0⟩:=HR.out.cell k hlt
      have hc:wr.cell? ⟨b,off+k,none⟩=some (.string (s k)):=by rw [hw];simpa using hc0
      have HR2:Hid (StrRow wr (some ⟨b,off,none⟩) k s):=by
       show StrRow _ _ _ _
       rw [hw];exact (HR.out.front (by omega)).below (below_drewN _ _)
      have hkc:(k:Int)≤(cap:Int):=by omega
      have hsz:=HR.out.size k hlt
      have HS:=hid hsz
      have HQ:Hid (routerB s k=(nameB (s k) && decide (nameAt s k (s k)<0))):=rfl
      clear hw hc0
      generalize s k=t at *
      by_cases hn:nameB t=true
      · by_cases hp:0≤nameAt s k t
        · have hpd:decide (0≤nameAt s k t)=true:=decide_eq_true hp
          have HF:=hid (show routerB s k=false by rw [HQ.out,hn,decide_eq_false (by omega)];rfl)
          clear hp
          go_wp2_with (first|(go_at_call 61;refine (name_impl _ _ HS.out).mono ?_;rintro e w' ⟨rfl,rfl⟩)|(go_at_call 62;refine (contains_str _ _ _ s _ _ HR2.out).mono ?_;rintro e w' ⟨rfl,rfl⟩))
          go_ret
          exact ⟨ret_bool (by rw [hd.out];exact (allN_false hlt HF.out).symm),n,HW.out⟩
        · have hpd:decide (0≤nameAt s k t)=false:=decide_eq_false hp
          have HF:=hid (show routerB s k=true by rw [HQ.out,hn,decide_eq_true (by omega)];rfl)
          clear hp
          go_wp2_with (first|(go_at_call 61;refine (name_impl _ _ HS.out).mono ?_;rintro e w' ⟨rfl,rfl⟩)|(go_at_call 62;refine (contains_str _ _ _ s _ _ HR2.out).mono ?_;rintro e w' ⟨rfl,rfl⟩))
          go_roundw
          case rel =>
           refine ⟨k+1,by omega,by go_num,fun j hj=>?_,n,HW.out⟩
           by_cases e:j=k
           · subst e;exact HF.out
           · exact HA.out j (by omega)
          case measure=>simp [intOf];omega
      · have hn':nameB t=false:=by simpa using hn
        have HF:=hid (show routerB s k=false by rw [HQ.out,hn'];rfl)
        clear hn
        go_wp2_with (first|(go_at_call 61;refine (name_impl _ _ HS.out).mono ?_;rintro e w' ⟨rfl,rfl⟩))
        go_ret
        exact ⟨ret_bool (by rw [hd.out];exact (allN_false hlt HF.out).symm),n,HW.out⟩
    · have e:k=len:=by omega
      subst e
      go_wp2
      go_ret
      exact ⟨ret_bool (by rw [hd.out];exact (allN_of HA.out).symm),n,by first|exact HW.out|rfl⟩
 · have hf:routersB s len=false:=by unfold routersB;simp [hin]
   have hin':inB len 1 4=false:=by simpa using hin
   rw [hf]
   clear hf hin
   go_enter Tryz.func34,Tryz.ntmps34
   go_wp2_with (go_at_call 57;refine (within_impl _ _ _ _).mono ?_;rintro e w' ⟨rfl,rfl⟩)
   go_ret
   exact ⟨rfl,0,rfl⟩
theorem mkfunc (fn:Fn) (first cap:Array Value) (w:World):(Instr.makeFunc fn first cap).run Tryz.prog w=.ok (.func fn first cap) w:=rfl
set_option maxHeartbeats 400000 in
theorem linkCl (x y c a b:Int) (B1 B2:Nat) (w:World) (h1:w.cell? ⟨B1,0,none⟩=some (.int .i64 a)) (h2:w.cell? ⟨B2,0,none⟩=some (.int .i64 b)) :
  Calls Tryz.prog 109 #[.agg #[.int .i64 x,.int .i64 y,.int .i64 c],.pointer (some ⟨B1,0,none⟩),.pointer (some ⟨B2,0,none⟩)] w fun e w'=>e=.returned (.bool (decide (x=a∧y=b∨x=b∧y=a)))∧Below w.heap.size w w' := by
 have g1:=keep (show Below w.heap.size w (w.alloc (.cells #[.int .i64 x,.int .i64 y,.int .i64 c] 68)) from Bl) h1
 have g2:=keep (show Below w.heap.size w (w.alloc (.cells #[.int .i64 x,.int .i64 y,.int .i64 c] 68)) from Bl) h2
 obtain ⟨D,hD⟩:∃ D,decide (x=a∧y=b∨x=b∧y=a)=D:=⟨_,rfl⟩
 rw [hD]
 obtain ⟨p1,e1⟩:∃ p,(x == a)=p:=⟨_,rfl⟩
 obtain ⟨p2,e2⟩:∃ p,(y == b)=p:=⟨_,rfl⟩
 obtain ⟨p3,e3⟩:∃ p,(x == b)=p:=⟨_,rfl⟩
 obtain ⟨p4,e4⟩:∃ p,(y == a)=p:=⟨_,rfl⟩
 have HD:Hid (D=(p1 && p2 || p3 && p4)):=by
  show _=_
  rw [← hD,← e1,← e2,← e3,← e4,Bool.eq_iff_iff]
  simp
 clear hD
 cases p1 <;> cases p2 <;> cases p3 <;> cases p4
 all_goals
  go_enter Tryz.func109,Tryz.ntmps109
  go_wp2
  go_ret
  exact ⟨ret_bool (by rw [HD.out];rfl),Bl⟩
set_option maxHeartbeats 800000 in
theorem indexLink (p:Option Addr) (len cap:Nat) (g:R) (a b:Int) (B1 B2:Nat) (w:World) (hr:Row 3 w p len g) (h1:w.cell? ⟨B1,0,none⟩=some (.int .i64 a)) (h2:w.cell? ⟨B2,0,none⟩=some (.int .i64 b)) :
  Calls Tryz.prog 108 #[.slice p len cap,.func (.func 109) #[] #[.pointer (some ⟨B1,0,none⟩),.pointer (some ⟨B2,0,none⟩)]] w fun e w'=>e=.returned (.int .i64 (linkAt g len a b))∧Below w.heap.size w w' := by
 have hmost:=hr.most
 unfold maxLen at hmost
 have HR:=hid hr
 have H1:=hid h1
 have H2:=hid h2
 clear hr h1 h2
 go_enter Tryz.func108,Tryz.ntmps108
 go_wp2
 go_loopw [8] (fun i wr=>∃ k:Nat,k≤len∧i=.int .i64 k∧(∀ j,j<k→hit g a b j=false)∧Below w.heap.size w wr) (fun i _=>len - (intOf i).toNat)
 case atStart=>exact ⟨0,Nat.zero_le _,rfl,fun j hj=>absurd hj (Nat.not_lt_zero _),Below.refl _ _⟩
 case round =>
  obtain ⟨k,hk,rfl,ha,hbel⟩:=hrel
  have HA:=hid ha
  have HB:=hid hbel
  clear ha
  by_cases hlt:k<len
  · obtain ⟨b0,off,rfl,c0,c1,c2⟩:=HR.out.at3 hlt
    replace c0:=keep hbel c0
    replace c1:=keep hbel c1
    replace c2:=keep hbel c2
    have g1:=hid (keep hbel H1.out)
    have g2:=hid (keep hbel H2.out)
    have HQ:Hid (hit g a b k=decide (g k 0=a∧g k 1=b∨g k 0=b∧g k 1=a)):=rfl
    clear hbel
    generalize hD:decide (g k 0=a∧g k 1=b∨g k 0=b∧g k 1=a)=D at HQ
    have HD:=hid hD
    clear hD
    generalize g k 0=x at *
    generalize g k 1=y at *
    generalize g k 2=z at *
    cases D with
    | true =>
     go_wp2_with fail
     refine (linkCl x y z a b B1 B2 _ g1.out g2.out).mono ?_
     rintro e w1 ⟨rfl,hb1⟩
     have HB1:=hid (HB.out.trans (hb1.mono HB.out.size))
     clear hb1
     rw [HD.out]
     go_wp2
     go_ret
     exact ⟨ret_int (firstAt_hit hlt HQ.out HA.out).symm,HB1.out⟩
    | false =>
     go_wp2_with fail
     refine (linkCl x y z a b B1 B2 _ g1.out g2.out).mono ?_
     rintro e w1 ⟨rfl,hb1⟩
     have HB1:=hid (HB.out.trans (hb1.mono HB.out.size))
     clear hb1
     rw [HD.out]
     go_wp2
     go_roundw
     case rel =>
      refine ⟨k+1,by omega,by go_num,fun j hj=>?_,HB1.out⟩
      by_cases e:j=k
      · subst e;exact HQ.out
      · exact HA.out j (by omega)
     case measure=>simp [intOf];omega
  · have e:k=len:=by omega
    subst e
    clear hbel
    go_wp2
    go_ret
    exact ⟨ret_int (firstAt_none HA.out).symm,HB.out⟩
set_option maxHeartbeats 400000 in
theorem link_impl (p:Option Addr) (len cap:Nat) (g:R) (a b:Int) (w:World) (hr:Row 3 w p len g) :
  Calls Tryz.prog 89 #[.slice p len cap,.int .i64 a,.int .i64 b] w fun e w'=>e=.returned (.int .i64 (linkAt g len a b))∧Below w.heap.size w w' := by
 have HR:=hid hr
 clear hr
 have hmf:=mkfunc
 go_enter Tryz.func89,Tryz.ntmps89
 go_wp2_with fail
 refine (indexLink p len cap g a b _ _ _ (HR.out.below Bl) ?_ ?_).mono ?_
 · simp [go_sem]
 · simp [go_sem]
 rintro e w1 ⟨rfl,hb1⟩
 have HB1:=hid ((show Below w.heap.size w _ from Bl).trans (hb1.mono (by simp;omega)))
 clear hb1 hmf
 go_wp2
 go_ret
 exact ⟨rfl,HB1.out⟩
set_option maxHeartbeats 400000 in
theorem joined_impl (p:Option Addr) (len cap:Nat) (g:R) (a b:Int) (w:World) (hr:Row 3 w p len g) :
  Calls Tryz.prog 64 #[.slice p len cap,.int .i64 a,.int .i64 b] w fun e w'=>e=.returned (.bool (decide (0≤linkAt g len a b)))∧Below w.heap.size w w' := by
 have HR:=hid hr
 clear hr
 go_enter Tryz.func64,Tryz.ntmps64
 go_wp2_with fail
 refine (link_impl p len cap g a b _ HR.out).mono ?_
 rintro e w1 ⟨rfl,hb1⟩
 have HB1:=hid hb1
 clear hb1
 go_wp2
 go_ret
 exact ⟨rfl,HB1.out⟩
end Go.Proofs.YthompjbplddkgaaGreatDoor.netImpl
