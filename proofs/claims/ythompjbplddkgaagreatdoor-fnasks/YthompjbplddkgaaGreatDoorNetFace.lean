import Derived.Test.YthompjbplddkgaaGreatDoorNetParts
set_option linter.unusedVariables false
namespace Go.Proofs.YthompjbplddkgaaGreatDoor.netFace
open Go.RowKit Go.Deep Go base names netSem netImpl netParts
set_option maxHeartbeats 800000 in
theorem rising_impl (a:Option Addr) (len cap:Nat) (zs:List Int) (r:Nat) (w:World) (hr:IntRow w a len zs) (hm:r≤maxLen) :
  Calls Tryz.prog 36 #[.slice a len cap,.int .i64 r] w fun e w'=>e=.returned (.bool (risingB zs len r))∧∃ n,w' = w.drewN n:=by
 obtain ⟨hlen,hmost,hcell⟩:=hr
 unfold maxLen at hmost
 have HC:=hid hcell
 have HM:=hid hm
 unfold maxLen at hm
 clear hlen hcell
 go_enter Tryz.func36,Tryz.ntmps36
 go_wp2
 go_loopw [9] (fun i wr=>∃ k n:Nat,k≤len∧i=.int .i64 k∧(∀ j,j<k→risesB zs r j=true)∧wr=w.drewN n) (fun i _=>len - (intOf i).toNat)
 case atStart=>exact ⟨0,0,Nat.zero_le _,rfl,fun j hj=>absurd hj (Nat.not_lt_zero _),rfl⟩
 case round =>
  obtain ⟨k,n,hk,rfl,ha,hw⟩:=hrel
  have HA:=hid ha
  have HW:=hid hw
  clear ha
  by_cases hlt:k<len
  · obtain ⟨b,off,rfl,hc0⟩:=HC.out k hlt
    have hc:wr.cell? ⟨b,off+k,none⟩=some (.int .i64 (zAt zs k)):=by rw [hw];simpa [zAt] using hc0
    have HQ:Hid (risesB zs r k=(inB (zAt zs k) 0 (r - 1) && (decide (k=0) || decide (zAt zs (k - 1)<zAt zs k)))):=rfl
    obtain ⟨p1,e1⟩:∃ p,inB (zAt zs k) 0 (r - 1)=p:=⟨_,rfl⟩
    rw [e1] at HQ
    cases p1 with
    | false =>
     have HF:=hid (show risesB zs r k=false from HQ.out)
     clear hw hc0
     generalize zAt zs k=z at *
     go_wp2_with (go_at_call 63;refine (router_impl _ _ _ HM.out).mono ?_;rintro e w' ⟨rfl,rfl⟩)
     go_ret
     exact ⟨ret_bool (allN_false hlt HF.out).symm,n,HW.out⟩
    | true =>
     by_cases hk0:k=0
     · have HF:=hid (show risesB zs r k=true by rw [HQ.out,decide_eq_true hk0];rfl)
       have ip3:decide ((0:Int)<(k:Int))=false:=decide_eq_false (by omega)
       have ip4:decide (0<k)=false:=decide_eq_false (by omega)
       clear hw hc0 hk0
       generalize zAt zs k=z at *
       go_wp2_with (go_at_call 63;refine (router_impl _ _ _ HM.out).mono ?_;rintro e w' ⟨rfl,rfl⟩)
       go_roundw
       case rel =>
        refine ⟨k+1,n,by omega,by go_num,fun j hj=>?_,HW.out⟩
        by_cases e:j=k
        · subst e;exact HF.out
        · exact HA.out j (by omega)
       case measure=>simp [intOf];omega
     · obtain ⟨m,hm1⟩:∃ m,k=m+1:=⟨k - 1,by omega⟩
       obtain ⟨b',off',hab,hd0⟩:=HC.out m (by omega)
       cases hab
       have hd:wr.cell? ⟨b,off+m,none⟩=some (.int .i64 (zAt zs m)):=by rw [hw];simpa [zAt] using hd0
       have ek:k - 1=m:=by omega
       have ip:(k:Int) - 1=(m:Int):=by omega
       have ip1:(m:Int)<(len:Int):=by omega
       have ip2:(k:Int)<(len:Int):=by omega
       have ip3:decide ((0:Int)<(k:Int))=true:=decide_eq_true (by omega)
       have HQ2:Hid (risesB zs r k=decide (zAt zs m<zAt zs k)):=by
        show _=_
        rw [HQ.out,ek,decide_eq_false hk0];rfl
       have HM1:=hid hm1
       clear hw hc0 hd0 hm1 ek HQ
       obtain ⟨p2,e2⟩:∃ p,decide (zAt zs k≤zAt zs m)=p:=⟨_,rfl⟩
       have HF:Hid (risesB zs r k = !p2):=by
        show _=_
        rw [HQ2.out,← e2,Bool.eq_iff_iff];simp
       clear HQ2
       generalize zAt zs k=z at *
       generalize zAt zs m=y at *
       cases p2 with
       | true =>
        go_wp2_with (go_at_call 63;refine (router_impl _ _ _ HM.out).mono ?_;rintro e w' ⟨rfl,rfl⟩)
        go_ret
        exact ⟨ret_bool (allN_false hlt HF.out).symm,n,HW.out⟩
       | false =>
        go_wp2_with (go_at_call 63;refine (router_impl _ _ _ HM.out).mono ?_;rintro e w' ⟨rfl,rfl⟩)
        go_roundw
        case rel =>
         refine ⟨k+1,n,by omega,by go_num,fun j hj=>?_,HW.out⟩
         by_cases e:j=k
         · subst e;exact HF.out
         · exact HA.out j (by omega)
        case measure=>simp [intOf];omega
  · have e:k=len:=by omega
    subst e
    go_wp2
    go_ret
    exact ⟨ret_bool (allN_of HA.out).symm,n,by first|exact HW.out|rfl⟩
set_option maxHeartbeats 400000 in
theorem deed_impl (x y wh d n:Int) (w:World) :
  Calls Tryz.prog 67 #[.agg #[.int .i64 x,.int .i64 y,.int .i64 wh,.int .i64 d,.int .i64 n]] w fun e w'=>e=.returned (.bool (deedB wh d n))∧Below w.heap.size w w' := by
 obtain ⟨D,hD⟩:∃ D,deedB wh d n=D:=⟨_,rfl⟩
 rw [hD]
 obtain ⟨p1,e1⟩:∃ p,inB wh 0 2=p:=⟨_,rfl⟩
 obtain ⟨p2,e2⟩:∃ p,inB d 1 4=p:=⟨_,rfl⟩
 by_cases h2:d=2
 · have e3:(d == 2)=true:=by simp [h2]
   obtain ⟨p3,e4⟩:∃ p,inB n 0 1000=p:=⟨_,rfl⟩
   have HD:Hid (D=(p1 && p2 && p3)):=by
    show _=_
    rw [← hD,← e1,← e2,← e4];unfold deedB;rw [if_pos h2]
   clear hD h2
   cases p1 <;> cases p2 <;> cases p3
   all_goals
    go_enter Tryz.func67,Tryz.ntmps67
    go_wp2_with (go_at_call 57;refine (within_impl _ _ _ _).mono ?_;rintro e w' ⟨rfl,rfl⟩)
    go_ret
    exact ⟨ret_bool (by rw [HD.out];rfl),Bl⟩
 · have e3:(d == 2)=false:=by simp [h2]
   obtain ⟨p3,e4⟩:∃ p,inB n 0 0=p:=⟨_,rfl⟩
   have HD:Hid (D=(p1 && p2 && p3)):=by
    show _=_
    rw [← hD,← e1,← e2,← e4];unfold deedB;rw [if_neg h2]
   clear hD h2
   cases p1 <;> cases p2 <;> cases p3
   all_goals
    go_enter Tryz.func67,Tryz.ntmps67
    go_wp2_with (go_at_call 57;refine (within_impl _ _ _ _).mono ?_;rintro e w' ⟨rfl,rfl⟩)
    go_ret
    exact ⟨ret_bool (by rw [HD.out];rfl),Bl⟩
set_option maxHeartbeats 400000 in
theorem ports_impl (low high:Int) (w:World) :
  Calls Tryz.prog 70 #[.int .i64 low,.int .i64 high] w fun e w'=>e=.returned (.bool (portsB low high))∧w' = w:=by
 obtain ⟨D,hD⟩:∃ D,portsB low high=D:=⟨_,rfl⟩
 rw [hD]
 obtain ⟨p1,e1⟩:∃ p,decide (0≤low)=p:=⟨_,rfl⟩
 obtain ⟨p2,e2⟩:∃ p,inB high low 15=p:=⟨_,rfl⟩
 have HD:Hid (D=(p1 && p2)):=by
  show _=_
  rw [← hD,← e1,← e2];rfl
 clear hD
 cases p1 <;> cases p2
 all_goals
  go_enter Tryz.func70,Tryz.ntmps70
  go_wp2_with (go_at_call 57;refine (within_impl _ _ _ _).mono ?_;rintro e w' ⟨rfl,rfl⟩)
  go_ret
  exact ⟨ret_bool (by rw [HD.out];rfl),rfl⟩
set_option maxHeartbeats 800000 in
theorem importCl (x y wh d n:Int) (p:Option Addr) (len cap:Nat) (g:R) (B:Nat) (w:World) (h:w.cell? ⟨B,0,none⟩=some (.slice p len cap)) (hr:Row 3 w p len g) :
  Calls Tryz.prog 66 #[.agg #[.int .i64 x,.int .i64 y,.int .i64 wh,.int .i64 d,.int .i64 n],.pointer (some ⟨B,0,none⟩)] w fun e w'=>e=.returned (.bool (decide (0≤linkAt g len x y) && deedB wh d n))∧Below w.heap.size w w' := by
 have g1:=keep (show Below w.heap.size w (w.alloc (.cells #[.int .i64 x,.int .i64 y,.int .i64 wh,.int .i64 d,.int .i64 n] 72)) from Bl) h
 have HR:=hid hr
 clear hr h
 obtain ⟨p1,e1⟩:∃ p,decide (0≤linkAt g len x y)=p:=⟨_,rfl⟩
 rw [e1]
 go_enter Tryz.func66,Tryz.ntmps66
 cases p1 with
 | false =>
  go_wp2_with fail
  refine (joined_impl p len cap g x y _ (HR.out.below Bl)).mono ?_
  rintro e w1 ⟨rfl,hb1⟩
  rw [e1]
  have HB:=hid ((show Below w.heap.size w _ from Bl).trans (hb1.mono (by simp)))
  clear hb1
  go_wp2
  go_ret
  exact ⟨rfl,HB.out⟩
 | true =>
  go_wp2_with fail
  refine (joined_impl p len cap g x y _ (HR.out.below Bl)).mono ?_
  rintro e w1 ⟨rfl,hb1⟩
  rw [e1]
  have HB:=hid ((show Below w.heap.size w _ from Bl).trans (hb1.mono (by simp)))
  have c0:w1.cell? ⟨w.heap.size,0,none⟩=some (.int .i64 x):=keep hb1 (by simp [go_sem])
  have c1:w1.cell? ⟨w.heap.size,1,none⟩=some (.int .i64 y):=keep hb1 (by simp [go_sem])
  have c2:w1.cell? ⟨w.heap.size,2,none⟩=some (.int .i64 wh):=keep hb1 (by simp [go_sem])
  have c3:w1.cell? ⟨w.heap.size,3,none⟩=some (.int .i64 d):=keep hb1 (by simp [go_sem])
  have c4:w1.cell? ⟨w.heap.size,4,none⟩=some (.int .i64 n):=keep hb1 (by simp [go_sem])
  clear hb1
  go_wp2_with fail
  refine (deed_impl x y wh d n _).mono ?_
  rintro e w2 ⟨rfl,hb2⟩
  have HB2:=hid (HB.out.trans (hb2.mono HB.out.size))
  clear hb2
  go_wp2
  go_ret
  exact ⟨rfl,HB2.out⟩
set_option maxHeartbeats 800000 in
theorem filterCl (x y lo hi:Int) (p:Option Addr) (len cap:Nat) (g:R) (B:Nat) (w:World) (h:w.cell? ⟨B,0,none⟩=some (.slice p len cap)) (hr:Row 3 w p len g) :
  Calls Tryz.prog 69 #[.agg #[.int .i64 x,.int .i64 y,.int .i64 lo,.int .i64 hi],.pointer (some ⟨B,0,none⟩)] w fun e w'=>e=.returned (.bool (decide (0≤linkAt g len x y) && portsB lo hi))∧Below w.heap.size w w' := by
 have g1:=keep (show Below w.heap.size w (w.alloc (.cells #[.int .i64 x,.int .i64 y,.int .i64 lo,.int .i64 hi] 75)) from Bl) h
 have HR:=hid hr
 clear hr h
 obtain ⟨p1,e1⟩:∃ p,decide (0≤linkAt g len x y)=p:=⟨_,rfl⟩
 rw [e1]
 go_enter Tryz.func69,Tryz.ntmps69
 cases p1 with
 | false =>
  go_wp2_with fail
  refine (joined_impl p len cap g x y _ (HR.out.below Bl)).mono ?_
  rintro e w1 ⟨rfl,hb1⟩
  rw [e1]
  have HB:=hid ((show Below w.heap.size w _ from Bl).trans (hb1.mono (by simp)))
  clear hb1
  go_wp2
  go_ret
  exact ⟨rfl,HB.out⟩
 | true =>
  go_wp2_with fail
  refine (joined_impl p len cap g x y _ (HR.out.below Bl)).mono ?_
  rintro e w1 ⟨rfl,hb1⟩
  rw [e1]
  have HB:=hid ((show Below w.heap.size w _ from Bl).trans (hb1.mono (by simp)))
  have c2:w1.cell? ⟨w.heap.size,2,none⟩=some (.int .i64 lo):=keep hb1 (by simp [go_sem])
  have c3:w1.cell? ⟨w.heap.size,3,none⟩=some (.int .i64 hi):=keep hb1 (by simp [go_sem])
  clear hb1
  go_wp2_with (go_at_call 70;refine (ports_impl _ _ _).mono ?_;rintro e w' ⟨rfl,rfl⟩)
  go_ret
  exact ⟨rfl,HB.out⟩
set_option maxHeartbeats 800000 in
theorem allImport (a:Option Addr) (n c:Nat) (x:R) (p:Option Addr) (len cap:Nat) (g:R) (B:Nat) (w:World) (hx:Row 5 w a n x) (h:w.cell? ⟨B,0,none⟩=some (.slice p len cap)) (hr:Row 3 w p len g) :
  Calls Tryz.prog 65 #[.slice a n c,.func (.func 66) #[] #[.pointer (some ⟨B,0,none⟩)]] w fun e w'=>e=.returned (.bool (allN (importB g len x) n))∧Below w.heap.size w w' := by
 have hmost:=hx.most
 unfold maxLen at hmost
 have HX:=hid hx
 have HR:=hid hr
 have HC:=hid h
 clear hx hr h
 go_enter Tryz.func65,Tryz.ntmps65
 go_wp2
 go_loopw [9] (fun i wr=>∃ k:Nat,k≤n∧i=.int .i64 k∧(∀ j,j<k→importB g len x j=true)∧Below w.heap.size w wr) (fun i _=>n - (intOf i).toNat)
 case atStart=>exact ⟨0,Nat.zero_le _,rfl,fun j hj=>absurd hj (Nat.not_lt_zero _),Below.refl _ _⟩
 case round =>
  obtain ⟨k,hk,rfl,ha,hbel⟩:=hrel
  have HA:=hid ha
  have HB:=hid hbel
  clear ha
  by_cases hlt:k<n
  · obtain ⟨b0,off,rfl,c0,c1,c2,c3,c4⟩:=HX.out.at5 hlt
    replace c0:=keep hbel c0
    replace c1:=keep hbel c1
    replace c2:=keep hbel c2
    replace c3:=keep hbel c3
    replace c4:=keep hbel c4
    have HC2:=hid (keep hbel HC.out)
    have HR2:=hid (HR.out.below hbel)
    obtain ⟨D,hD⟩:∃ D,importB g len x k=D:=⟨_,rfl⟩
    have HD:=hid hD
    have HE:Hid (importB g len x k=(decide (0≤linkAt g len (x k 0) (x k 1)) && deedB (x k 2) (x k 3) (x k 4))):=rfl
    rw [hD] at HE
    clear hbel hD
    generalize x k 0=x0 at *
    generalize x k 1=x1 at *
    generalize x k 2=x2 at *
    generalize x k 3=x3 at *
    generalize x k 4=x4 at *
    cases D with
    | true =>
     go_wp2_with fail
     refine (importCl x0 x1 x2 x3 x4 p len cap g B _ (keep Bl HC2.out) (HR2.out.below Bl)).mono ?_
     rintro e w1 ⟨rfl,hb1⟩
     rw [← HE.out]
     have HB1:=hid (HB.out.trans (((show Below wr.heap.size wr _ from Bl).trans (hb1.mono (by simp))).mono HB.out.size))
     clear hb1
     go_wp2
     go_roundw
     case rel =>
      refine ⟨k+1,by omega,by go_num,fun j hj=>?_,HB1.out⟩
      by_cases e:j=k
      · subst e;exact HD.out
      · exact HA.out j (by omega)
     case measure=>simp [intOf];omega
    | false =>
     go_wp2_with fail
     refine (importCl x0 x1 x2 x3 x4 p len cap g B _ (keep Bl HC2.out) (HR2.out.below Bl)).mono ?_
     rintro e w1 ⟨rfl,hb1⟩
     rw [← HE.out]
     have HB1:=hid (HB.out.trans (((show Below wr.heap.size wr _ from Bl).trans (hb1.mono (by simp))).mono HB.out.size))
     clear hb1
     go_wp2
     go_ret
     exact ⟨ret_bool (allN_false hlt HD.out).symm,HB1.out⟩
  · have e:k=n:=by omega
    subst e
    clear hbel
    go_wp2
    go_ret
    exact ⟨ret_bool (allN_of HA.out).symm,HB.out⟩
set_option maxHeartbeats 400000 in
theorem imports_impl (a:Option Addr) (n c:Nat) (x:R) (p:Option Addr) (len cap:Nat) (g:R) (w:World) (hx:Row 5 w a n x) (hr:Row 3 w p len g) :
  Calls Tryz.prog 37 #[.slice a n c,.slice p len cap] w fun e w'=>e=.returned (.bool (importsB g len x n))∧Below w.heap.size w w' := by
 have hmost:=hx.most
 unfold maxLen at hmost
 have HX:=hid hx
 have HR:=hid hr
 clear hx hr
 have hmf:=mkfunc
 by_cases hin:n≤12
 · have hd:importsB g len x n=allN (importB g len x) n:=by unfold importsB;rw [decide_eq_true hin,Bool.true_and]
   rw [hd]
   have hlen:decide ((n:Int)≤12)=true:=decide_eq_true (by omega)
   go_enter Tryz.func37,Tryz.ntmps37
   go_wp2_with fail
   refine (allImport a n c x p len cap g w.heap.size _ (HX.out.below Bl) (by simp [go_sem]) (HR.out.below Bl)).mono ?_
   rintro e w1 ⟨rfl,hb1⟩
   have HB:=hid ((show Below w.heap.size w _ from Bl).trans (hb1.mono (by simp)))
   clear hb1 hmf
   go_wp2
   go_ret
   exact ⟨rfl,HB.out⟩
 · have hd:importsB g len x n=false:=by unfold importsB;rw [decide_eq_false hin,Bool.false_and]
   rw [hd]
   have hlen:decide ((n:Int)≤12)=false:=decide_eq_false (by omega)
   clear hmf
   go_enter Tryz.func37,Tryz.ntmps37
   go_wp2
   go_ret
   exact ⟨rfl,Bl⟩
set_option maxHeartbeats 800000 in
theorem allFilter (a:Option Addr) (n c:Nat) (x:R) (p:Option Addr) (len cap:Nat) (g:R) (B:Nat) (w:World) (hx:Row 4 w a n x) (h:w.cell? ⟨B,0,none⟩=some (.slice p len cap)) (hr:Row 3 w p len g) :
  Calls Tryz.prog 68 #[.slice a n c,.func (.func 69) #[] #[.pointer (some ⟨B,0,none⟩)]] w fun e w'=>e=.returned (.bool (allN (filterB g len x) n))∧Below w.heap.size w w' := by
 have hmost:=hx.most
 unfold maxLen at hmost
 have HX:=hid hx
 have HR:=hid hr
 have HC:=hid h
 clear hx hr h
 go_enter Tryz.func68,Tryz.ntmps68
 go_wp2
 go_loopw [9] (fun i wr=>∃ k:Nat,k≤n∧i=.int .i64 k∧(∀ j,j<k→filterB g len x j=true)∧Below w.heap.size w wr) (fun i _=>n - (intOf i).toNat)
 case atStart=>exact ⟨0,Nat.zero_le _,rfl,fun j hj=>absurd hj (Nat.not_lt_zero _),Below.refl _ _⟩
 case round =>
  obtain ⟨k,hk,rfl,ha,hbel⟩:=hrel
  have HA:=hid ha
  have HB:=hid hbel
  clear ha
  by_cases hlt:k<n
  · obtain ⟨b0,off,rfl,c0,c1,c2,c3⟩:=HX.out.at4 hlt
    replace c0:=keep hbel c0
    replace c1:=keep hbel c1
    replace c2:=keep hbel c2
    replace c3:=keep hbel c3
    have HC2:=hid (keep hbel HC.out)
    have HR2:=hid (HR.out.below hbel)
    obtain ⟨D,hD⟩:∃ D,filterB g len x k=D:=⟨_,rfl⟩
    have HD:=hid hD
    have HE:Hid (filterB g len x k=(decide (0≤linkAt g len (x k 0) (x k 1)) && portsB (x k 2) (x k 3))):=rfl
    rw [hD] at HE
    clear hbel hD
    generalize x k 0=x0 at *
    generalize x k 1=x1 at *
    generalize x k 2=x2 at *
    generalize x k 3=x3 at *
    cases D with
    | true =>
     go_wp2_with fail
     refine (filterCl x0 x1 x2 x3 p len cap g B _ (keep Bl HC2.out) (HR2.out.below Bl)).mono ?_
     rintro e w1 ⟨rfl,hb1⟩
     rw [← HE.out]
     have HB1:=hid (HB.out.trans (((show Below wr.heap.size wr _ from Bl).trans (hb1.mono (by simp))).mono HB.out.size))
     clear hb1
     go_wp2
     go_roundw
     case rel =>
      refine ⟨k+1,by omega,by go_num,fun j hj=>?_,HB1.out⟩
      by_cases e:j=k
      · subst e;exact HD.out
      · exact HA.out j (by omega)
     case measure=>simp [intOf];omega
    | false =>
     go_wp2_with fail
     refine (filterCl x0 x1 x2 x3 p len cap g B _ (keep Bl HC2.out) (HR2.out.below Bl)).mono ?_
     rintro e w1 ⟨rfl,hb1⟩
     rw [← HE.out]
     have HB1:=hid (HB.out.trans (((show Below wr.heap.size wr _ from Bl).trans (hb1.mono (by simp))).mono HB.out.size))
     clear hb1
     go_wp2
     go_ret
     exact ⟨ret_bool (allN_false hlt HD.out).symm,HB1.out⟩
  · have e:k=n:=by omega
    subst e
    clear hbel
    go_wp2
    go_ret
    exact ⟨ret_bool (allN_of HA.out).symm,HB.out⟩
set_option maxHeartbeats 400000 in
theorem filters_impl (a:Option Addr) (n c:Nat) (x:R) (p:Option Addr) (len cap:Nat) (g:R) (w:World) (hx:Row 4 w a n x) (hr:Row 3 w p len g) :
  Calls Tryz.prog 38 #[.slice a n c,.slice p len cap] w fun e w'=>e=.returned (.bool (filtersB g len x n))∧Below w.heap.size w w' := by
 have hmost:=hx.most
 unfold maxLen at hmost
 have HX:=hid hx
 have HR:=hid hr
 clear hx hr
 have hmf:=mkfunc
 by_cases hin:n≤6
 · have hd:filtersB g len x n=allN (filterB g len x) n:=by unfold filtersB;rw [decide_eq_true hin,Bool.true_and]
   rw [hd]
   have hlen:decide ((n:Int)≤6)=true:=decide_eq_true (by omega)
   go_enter Tryz.func38,Tryz.ntmps38
   go_wp2_with fail
   refine (allFilter a n c x p len cap g w.heap.size _ (HX.out.below Bl) (by simp [go_sem]) (HR.out.below Bl)).mono ?_
   rintro e w1 ⟨rfl,hb1⟩
   have HB:=hid ((show Below w.heap.size w _ from Bl).trans (hb1.mono (by simp)))
   clear hb1 hmf
   go_wp2
   go_ret
   exact ⟨rfl,HB.out⟩
 · have hd:filtersB g len x n=false:=by unfold filtersB;rw [decide_eq_false hin,Bool.false_and]
   rw [hd]
   have hlen:decide ((n:Int)≤6)=false:=decide_eq_false (by omega)
   clear hmf
   go_enter Tryz.func38,Tryz.ntmps38
   go_wp2
   go_ret
   exact ⟨rfl,Bl⟩
end Go.Proofs.YthompjbplddkgaaGreatDoor.netFace
