import Derived.Test.YtcnoemjeijjnjaaGreatPart15
set_option linter.unusedVariables false
namespace Go.Proofs.YtcnoemjeijjnjaaGreat.netFace
open Go.RowKit Go.Deep Go base names netSem netImpl netParts
set_option maxHeartbeats 800000 in
theorem rising_impl (a:Option Addr) (len cap:Nat) (zs:List Int) (r:Nat) (w:World) (hr:IntRow w a len zs) (hm:r≤maxLen) :
  Calls Tryz.prog 59 #[.slice a len cap,.int .i64 r] w fun e w'=>e=.returned (.bool (risingB zs len r))∧∃n,w' = w.drewN n:=by
 obtain⟨hlen,hmost,hcell⟩:=hr;unfold maxLen at hmost;have HC:=hid hcell;have HM:=hid hm;unfold maxLen at hm;clear hlen hcell;go_enter Tryz.func59,Tryz.ntmps59;go_wp2;go_loopw [9] (fun i wr=>∃k n:Nat,k≤len∧i=.int .i64 k∧(∀j,j<k→risesB zs r j=true)∧wr=w.drewN n) (fun i _=>len - (intOf i).toNat)
 case atStart=>exact⟨0,0,Nat.zero_le _,rfl,fun j hj=>absurd hj (Nat.not_lt_zero _),rfl⟩
 obtain⟨k,n,hk,rfl,ha,hw⟩:=hrel;have HA:=hid ha;have HW:=hid hw;clear ha;by_cases hlt:k<len
 · obtain⟨b,off,rfl,hc0⟩:=HC.out k hlt;have hc:wr.cell? ⟨b,off+k,none⟩=some (.int .i64 (zAt zs k)):=by rw[hw];simpa[zAt] using hc0
   have HQ:Hid (risesB zs r k=(inB (zAt zs k) 0 (r - 1)&&(decide (k=0)||decide (zAt zs (k - 1)<zAt zs k)))):=rfl;obtain⟨p1,e1⟩:∃p,inB (zAt zs k) 0 (r - 1)=p:=⟨_,rfl⟩;rw[e1]at HQ
   cases p1 with
   | false =>
    have HF:=hid (show risesB zs r k=false from HQ.out);clear hw hc0;generalize zAt zs k=z at *;go_wp2_with (go_at_call 27;refine(router_impl _ _ _ HM.out).mono ?_;rintro e w' ⟨rfl,rfl⟩);go_ret;exact⟨ret_bool (allN_false hlt HF.out).symm,n,HW.out⟩
   | true =>
    by_cases hk0:k=0
    · have HF:=hid (show risesB zs r k=true by rw[HQ.out,decide_eq_true hk0];rfl);have ip3:decide ((0:Int)<(k:Int))=false:=decide_eq_false Om;have ip4:decide (0<k)=false:=decide_eq_false Om;clear hw hc0 hk0;generalize zAt zs k=z at *;go_wp2_with (go_at_call 27;refine(router_impl _ _ _ HM.out).mono ?_;rintro e w' ⟨rfl,rfl⟩);go_roundw
      case rel =>
       refine⟨k+1,n,by omega,by go_num,fun j hj=>?_,HW.out⟩;by_cases e:j=k
       · subst e;exact HF.out
       exact HA.out j Om
      case measure=>simp[intOf];omega
    obtain⟨m,hm1⟩:∃m,k=m+1:=⟨k - 1,by omega⟩;obtain⟨b',off',hab,hd0⟩:=HC.out m Om;cases hab;have hd:wr.cell? ⟨b,off+m,none⟩=some (.int .i64 (zAt zs m)):=by rw[hw];simpa[zAt] using hd0
    have ek:k - 1=m:=by omega
    have ip:(k:Int) - 1=(m:Int):=by omega
    have ip1:(m:Int)<(len:Int):=by omega
    have ip2:(k:Int)<(len:Int):=by omega
    have ip3:decide ((0:Int)<(k:Int))=true:=decide_eq_true Om
    have HQ2:Hid (risesB zs r k=decide (zAt zs m<zAt zs k)):=by
     show _=_
     rw[HQ.out,ek,decide_eq_false hk0];rfl
    have HM1:=hid hm1;clear hw hc0 hd0 hm1 ek HQ;obtain⟨p2,e2⟩:∃p,decide (zAt zs k≤zAt zs m)=p:=⟨_,rfl⟩
    have HF:Hid (risesB zs r k = !p2):=by
     show _=_
     rw[HQ2.out,←e2,Bool.eq_iff_iff];simp
    clear HQ2;generalize zAt zs k=z at *;generalize zAt zs m=y at *
    cases p2 with
    | true =>
     go_wp2_with (go_at_call 27;refine(router_impl _ _ _ HM.out).mono ?_;rintro e w' ⟨rfl,rfl⟩);go_ret;exact⟨ret_bool (allN_false hlt HF.out).symm,n,HW.out⟩
    | false =>
     go_wp2_with (go_at_call 27;refine(router_impl _ _ _ HM.out).mono ?_;rintro e w' ⟨rfl,rfl⟩);go_roundw
     case rel =>
      refine⟨k+1,n,by omega,by go_num,fun j hj=>?_,HW.out⟩;by_cases e:j=k
      · subst e;exact HF.out
      exact HA.out j Om
     case measure=>simp[intOf];omega
 have e:k=len:=by omega
 subst e;go_wp2;go_ret;exact⟨ret_bool (allN_of HA.out).symm,n,by first|exact HW.out|rfl⟩
set_option maxHeartbeats 400000 in
theorem deed_impl (x y wh d n:Int) (w:World) :
  Calls Tryz.prog 97 #[.agg #[.int .i64 x,.int .i64 y,.int .i64 wh,.int .i64 d,.int .i64 n]] w fun e w'=>e=.returned (.bool (deedB wh d n))∧Below w.heap.size w w' := by
 obtain⟨D,hD⟩:∃D,deedB wh d n=D:=⟨_,rfl⟩;rw[hD];obtain⟨p1,e1⟩:∃p,inB wh 0 2=p:=⟨_,rfl⟩;obtain⟨p2,e2⟩:∃p,inB d 1 4=p:=⟨_,rfl⟩;by_cases h2:d=2
 · have e3:(d==2)=true:=by simp[h2]
   obtain⟨p3,e4⟩:∃p,inB n 0 1000=p:=⟨_,rfl⟩
   have HD:Hid (D=(p1&&p2&&p3)):=by
    show _=_
    rw[←hD,←e1,←e2,←e4];unfold deedB;rw[if_pos h2]
   clear hD h2;cases p1<;>cases p2<;>cases p3
   all_goals
    go_enter Tryz.func97,Tryz.ntmps97;go_wp2_with (go_at_call 19;refine(within_impl _ _ _ _).mono ?_;rintro e w' ⟨rfl,rfl⟩);go_ret;exact⟨ret_bool (by rw[HD.out];rfl),Bl⟩
 have e3:(d==2)=false:=by simp[h2]
 obtain⟨p3,e4⟩:∃p,inB n 0 0=p:=⟨_,rfl⟩
 have HD:Hid (D=(p1&&p2&&p3)):=by
  show _=_
  rw[←hD,←e1,←e2,←e4];unfold deedB;rw[if_neg h2]
 clear hD h2;cases p1<;>cases p2<;>cases p3
 all_goals
  go_enter Tryz.func97,Tryz.ntmps97;go_wp2_with (go_at_call 19;refine(within_impl _ _ _ _).mono ?_;rintro e w' ⟨rfl,rfl⟩);go_ret;exact⟨ret_bool (by rw[HD.out];rfl),Bl⟩
set_option maxHeartbeats 400000 in
theorem ports_impl (low high:Int) (w:World) :
  Calls Tryz.prog 100 #[.int .i64 low,.int .i64 high] w fun e w'=>e=.returned (.bool (portsB low high))∧w' = w:=by
 obtain⟨D,hD⟩:∃D,portsB low high=D:=⟨_,rfl⟩;rw[hD];obtain⟨p1,e1⟩:∃p,decide (0≤low)=p:=⟨_,rfl⟩;obtain⟨p2,e2⟩:∃p,inB high low 15=p:=⟨_,rfl⟩
 have HD:Hid (D=(p1&&p2)):=by
  show _=_
  rw[←hD,←e1,←e2];rfl
 clear hD;cases p1<;>cases p2
 all_goals
  go_enter Tryz.func100,Tryz.ntmps100;go_wp2_with (go_at_call 19;refine(within_impl _ _ _ _).mono ?_;rintro e w' ⟨rfl,rfl⟩);go_ret;exact⟨ret_bool (by rw[HD.out];rfl),rfl⟩
set_option maxHeartbeats 800000 in
theorem importCl (x y wh d n:Int) (p:Option Addr) (len cap:Nat) (g:R) (B:Nat) (w:World) (h:w.cell? ⟨B,0,none⟩=some (.slice p len cap)) (hr:Row 3 w p len g) :
  Calls Tryz.prog 96 #[.agg #[.int .i64 x,.int .i64 y,.int .i64 wh,.int .i64 d,.int .i64 n],.pointer (some ⟨B,0,none⟩)] w fun e w'=>e=.returned (.bool (decide (0≤linkAt g len x y)&&deedB wh d n))∧Below w.heap.size w w' := by
 have g1:=keep (show Below w.heap.size w (w.alloc (.cells #[.int .i64 x,.int .i64 y,.int .i64 wh,.int .i64 d,.int .i64 n] 116)) from Bl) h;have HR:=hid hr;clear hr h;obtain⟨p1,e1⟩:∃p,decide (0≤linkAt g len x y)=p:=⟨_,rfl⟩;rw[e1];go_enter Tryz.func96,Tryz.ntmps96
 cases p1 with
 | false =>
  go_wp2_with fail;refine(joined_impl p len cap g x y _ (HR.out.below Bl)).mono ?_;rintro e w1 ⟨rfl,hb1⟩;rw[e1];have HB:=hid ((show Below w.heap.size w _ from Bl).trans (hb1.mono (by simp)));clear hb1;go_wp2;go_ret;exact⟨rfl,HB.out⟩
 | true =>
  go_wp2_with fail;refine(joined_impl p len cap g x y _ (HR.out.below Bl)).mono ?_;rintro e w1 ⟨rfl,hb1⟩;rw[e1];have HB:=hid ((show Below w.heap.size w _ from Bl).trans (hb1.mono (by simp)));have c0:w1.cell? ⟨w.heap.size,0,none⟩=some (.int .i64 x):=keep hb1 (by simp[go_sem]);have c1:w1.cell? ⟨w.heap.size,1,none⟩=some (.int .i64 y):=keep hb1 (by simp[go_sem]);have c2:w1.cell? ⟨w.heap.size,2,none⟩=some (.int .i64 wh):=keep hb1 (by simp[go_sem]);have c3:w1.cell? ⟨w.heap.size,3,none⟩=some (.int .i64 d):=keep hb1 (by simp[go_sem]);have c4:w1.cell? ⟨w.heap.size,4,none⟩=some (.int .i64 n):=keep hb1 (by simp[go_sem]);clear hb1;go_wp2_with fail;refine(deed_impl x y wh d n _).mono ?_;rintro e w2 ⟨rfl,hb2⟩;have HB2:=hid (HB.out.trans (hb2.mono HB.out.size));clear hb2;go_wp2;go_ret;exact⟨rfl,HB2.out⟩
set_option maxHeartbeats 800000 in
theorem filterCl (x y lo hi:Int) (p:Option Addr) (len cap:Nat) (g:R) (B:Nat) (w:World) (h:w.cell? ⟨B,0,none⟩=some (.slice p len cap)) (hr:Row 3 w p len g) :
  Calls Tryz.prog 99 #[.agg #[.int .i64 x,.int .i64 y,.int .i64 lo,.int .i64 hi],.pointer (some ⟨B,0,none⟩)] w fun e w'=>e=.returned (.bool (decide (0≤linkAt g len x y)&&portsB lo hi))∧Below w.heap.size w w' := by
 have g1:=keep (show Below w.heap.size w (w.alloc (.cells #[.int .i64 x,.int .i64 y,.int .i64 lo,.int .i64 hi] 118)) from Bl) h;have HR:=hid hr;clear hr h;obtain⟨p1,e1⟩:∃p,decide (0≤linkAt g len x y)=p:=⟨_,rfl⟩;rw[e1];go_enter Tryz.func99,Tryz.ntmps99
 cases p1 with
 | false =>
  go_wp2_with fail;refine(joined_impl p len cap g x y _ (HR.out.below Bl)).mono ?_;rintro e w1 ⟨rfl,hb1⟩;rw[e1];have HB:=hid ((show Below w.heap.size w _ from Bl).trans (hb1.mono (by simp)));clear hb1;go_wp2;go_ret;exact⟨rfl,HB.out⟩
 | true =>
  go_wp2_with fail;refine(joined_impl p len cap g x y _ (HR.out.below Bl)).mono ?_;rintro e w1 ⟨rfl,hb1⟩;rw[e1];have HB:=hid ((show Below w.heap.size w _ from Bl).trans (hb1.mono (by simp)));have c2:w1.cell? ⟨w.heap.size,2,none⟩=some (.int .i64 lo):=keep hb1 (by simp[go_sem]);have c3:w1.cell? ⟨w.heap.size,3,none⟩=some (.int .i64 hi):=keep hb1 (by simp[go_sem]);clear hb1;go_wp2_with (go_at_call 100;refine(ports_impl _ _ _).mono ?_;rintro e w' ⟨rfl,rfl⟩);go_ret;exact⟨rfl,HB.out⟩
set_option maxHeartbeats 800000 in
theorem allImport (a:Option Addr) (n c:Nat) (x:R) (p:Option Addr) (len cap:Nat) (g:R) (B:Nat) (w:World) (hx:Row 5 w a n x) (h:w.cell? ⟨B,0,none⟩=some (.slice p len cap)) (hr:Row 3 w p len g) :
  Calls Tryz.prog 95 #[.slice a n c,.func (.func 96) #[] #[.pointer (some ⟨B,0,none⟩)]] w fun e w'=>e=.returned (.bool (allN (importB g len x) n))∧Below w.heap.size w w' := by
 have hmost:=hx.most;unfold maxLen at hmost;have HX:=hid hx;have HR:=hid hr;have HC:=hid h;clear hx hr h;go_enter Tryz.func95,Tryz.ntmps95;go_wp2;go_loopw [9] (fun i wr=>∃k:Nat,k≤n∧i=.int .i64 k∧(∀j,j<k→importB g len x j=true)∧Below w.heap.size w wr) (fun i _=>n - (intOf i).toNat)
 case atStart=>exact⟨0,Nat.zero_le _,rfl,fun j hj=>absurd hj (Nat.not_lt_zero _),Below.refl _ _⟩
 obtain⟨k,hk,rfl,ha,hbel⟩:=hrel;have HA:=hid ha;have HB:=hid hbel;clear ha;by_cases hlt:k<n
 · obtain⟨b0,off,rfl,c0,c1,c2,c3,c4⟩:=HX.out.at5 hlt
   replace c0:=keep hbel c0
   replace c1:=keep hbel c1
   replace c2:=keep hbel c2
   replace c3:=keep hbel c3
   replace c4:=keep hbel c4
   have HC2:=hid (keep hbel HC.out);have HR2:=hid (HR.out.below hbel);obtain⟨D,hD⟩:∃D,importB g len x k=D:=⟨_,rfl⟩;have HD:=hid hD;have HE:Hid (importB g len x k=(decide (0≤linkAt g len (x k 0) (x k 1))&&deedB (x k 2) (x k 3) (x k 4))):=rfl;rw[hD]at HE;clear hbel hD;generalize x k 0=x0 at *;generalize x k 1=x1 at *;generalize x k 2=x2 at *;generalize x k 3=x3 at *;generalize x k 4=x4 at *
   cases D with
   | true =>
    go_wp2_with fail;refine(importCl x0 x1 x2 x3 x4 p len cap g B _ (keep Bl HC2.out) (HR2.out.below Bl)).mono ?_;rintro e w1 ⟨rfl,hb1⟩;rw[←HE.out];have HB1:=hid (HB.out.trans (((show Below wr.heap.size wr _ from Bl).trans (hb1.mono (by simp))).mono HB.out.size));clear hb1;go_wp2;go_roundw
    case rel =>
     refine⟨k+1,by omega,by go_num,fun j hj=>?_,HB1.out⟩;by_cases e:j=k
     · subst e;exact HD.out
     exact HA.out j Om
    case measure=>simp[intOf];omega
   | false =>
    go_wp2_with fail;refine(importCl x0 x1 x2 x3 x4 p len cap g B _ (keep Bl HC2.out) (HR2.out.below Bl)).mono ?_;rintro e w1 ⟨rfl,hb1⟩;rw[←HE.out];have HB1:=hid (HB.out.trans (((show Below wr.heap.size wr _ from Bl).trans (hb1.mono (by simp))).mono HB.out.size));clear hb1;go_wp2;go_ret;exact⟨ret_bool (allN_false hlt HD.out).symm,HB1.out⟩
 have e:k=n:=by omega
 subst e;clear hbel;go_wp2;go_ret;exact⟨ret_bool (allN_of HA.out).symm,HB.out⟩
set_option maxHeartbeats 400000 in
theorem imports_impl (a:Option Addr) (n c:Nat) (x:R) (p:Option Addr) (len cap:Nat) (g:R) (w:World) (hx:Row 5 w a n x) (hr:Row 3 w p len g) :
  Calls Tryz.prog 60 #[.slice a n c,.slice p len cap] w fun e w'=>e=.returned (.bool (importsB g len x n))∧Below w.heap.size w w' := by
 have hmost:=hx.most;unfold maxLen at hmost;have HX:=hid hx;have HR:=hid hr;clear hx hr;have hmf:=mkfunc;by_cases hin:n≤12
 · have hd:importsB g len x n=allN (importB g len x) n:=by unfold importsB;rw[decide_eq_true hin,Bool.true_and]
   rw[hd];have hlen:decide ((n:Int)≤12)=true:=decide_eq_true Om;go_enter Tryz.func60,Tryz.ntmps60;go_wp2_with fail;refine(allImport a n c x p len cap g w.heap.size _ (HX.out.below Bl) (by simp[go_sem]) (HR.out.below Bl)).mono ?_;rintro e w1 ⟨rfl,hb1⟩;have HB:=hid ((show Below w.heap.size w _ from Bl).trans (hb1.mono (by simp)));clear hb1 hmf;go_wp2;go_ret;exact⟨rfl,HB.out⟩
 have hd:importsB g len x n=false:=by unfold importsB;rw[decide_eq_false hin,Bool.false_and]
 rw[hd];have hlen:decide ((n:Int)≤12)=false:=decide_eq_false Om;clear hmf;go_enter Tryz.func60,Tryz.ntmps60;go_wp2;go_ret;exact⟨rfl,Bl⟩
set_option maxHeartbeats 800000 in
theorem allFilter (a:Option Addr) (n c:Nat) (x:R) (p:Option Addr) (len cap:Nat) (g:R) (B:Nat) (w:World) (hx:Row 4 w a n x) (h:w.cell? ⟨B,0,none⟩=some (.slice p len cap)) (hr:Row 3 w p len g) :
  Calls Tryz.prog 98 #[.slice a n c,.func (.func 99) #[] #[.pointer (some ⟨B,0,none⟩)]] w fun e w'=>e=.returned (.bool (allN (filterB g len x) n))∧Below w.heap.size w w' := by
 have hmost:=hx.most;unfold maxLen at hmost;have HX:=hid hx;have HR:=hid hr;have HC:=hid h;clear hx hr h;go_enter Tryz.func98,Tryz.ntmps98;go_wp2;go_loopw [9] (fun i wr=>∃k:Nat,k≤n∧i=.int .i64 k∧(∀j,j<k→filterB g len x j=true)∧Below w.heap.size w wr) (fun i _=>n - (intOf i).toNat)
 case atStart=>exact⟨0,Nat.zero_le _,rfl,fun j hj=>absurd hj (Nat.not_lt_zero _),Below.refl _ _⟩
 obtain⟨k,hk,rfl,ha,hbel⟩:=hrel;have HA:=hid ha;have HB:=hid hbel;clear ha;by_cases hlt:k<n
 · obtain⟨b0,off,rfl,c0,c1,c2,c3⟩:=HX.out.at4 hlt
   replace c0:=keep hbel c0
   replace c1:=keep hbel c1
   replace c2:=keep hbel c2
   replace c3:=keep hbel c3
   have HC2:=hid (keep hbel HC.out);have HR2:=hid (HR.out.below hbel);obtain⟨D,hD⟩:∃D,filterB g len x k=D:=⟨_,rfl⟩;have HD:=hid hD;have HE:Hid (filterB g len x k=(decide (0≤linkAt g len (x k 0) (x k 1))&&portsB (x k 2) (x k 3))):=rfl;rw[hD]at HE;clear hbel hD;generalize x k 0=x0 at *;generalize x k 1=x1 at *;generalize x k 2=x2 at *;generalize x k 3=x3 at *
   cases D with
   | true =>
    go_wp2_with fail;refine(filterCl x0 x1 x2 x3 p len cap g B _ (keep Bl HC2.out) (HR2.out.below Bl)).mono ?_;rintro e w1 ⟨rfl,hb1⟩;rw[←HE.out];have HB1:=hid (HB.out.trans (((show Below wr.heap.size wr _ from Bl).trans (hb1.mono (by simp))).mono HB.out.size));clear hb1;go_wp2;go_roundw
    case rel =>
     refine⟨k+1,by omega,by go_num,fun j hj=>?_,HB1.out⟩;by_cases e:j=k
     · subst e;exact HD.out
     exact HA.out j Om
    case measure=>simp[intOf];omega
   | false =>
    go_wp2_with fail;refine(filterCl x0 x1 x2 x3 p len cap g B _ (keep Bl HC2.out) (HR2.out.below Bl)).mono ?_;rintro e w1 ⟨rfl,hb1⟩;rw[←HE.out];have HB1:=hid (HB.out.trans (((show Below wr.heap.size wr _ from Bl).trans (hb1.mono (by simp))).mono HB.out.size));clear hb1;go_wp2;go_ret;exact⟨ret_bool (allN_false hlt HD.out).symm,HB1.out⟩
 have e:k=n:=by omega
 subst e;clear hbel;go_wp2;go_ret;exact⟨ret_bool (allN_of HA.out).symm,HB.out⟩
set_option maxHeartbeats 400000 in
theorem filters_impl (a:Option Addr) (n c:Nat) (x:R) (p:Option Addr) (len cap:Nat) (g:R) (w:World) (hx:Row 4 w a n x) (hr:Row 3 w p len g) :
  Calls Tryz.prog 61 #[.slice a n c,.slice p len cap] w fun e w'=>e=.returned (.bool (filtersB g len x n))∧Below w.heap.size w w' := by
 have hmost:=hx.most;unfold maxLen at hmost;have HX:=hid hx;have HR:=hid hr;clear hx hr;have hmf:=mkfunc;by_cases hin:n≤6
 · have hd:filtersB g len x n=allN (filterB g len x) n:=by unfold filtersB;rw[decide_eq_true hin,Bool.true_and]
   rw[hd];have hlen:decide ((n:Int)≤6)=true:=decide_eq_true Om;go_enter Tryz.func61,Tryz.ntmps61;go_wp2_with fail;refine(allFilter a n c x p len cap g w.heap.size _ (HX.out.below Bl) (by simp[go_sem]) (HR.out.below Bl)).mono ?_;rintro e w1 ⟨rfl,hb1⟩;have HB:=hid ((show Below w.heap.size w _ from Bl).trans (hb1.mono (by simp)));clear hb1 hmf;go_wp2;go_ret;exact⟨rfl,HB.out⟩
 have hd:filtersB g len x n=false:=by unfold filtersB;rw[decide_eq_false hin,Bool.false_and]
 rw[hd];have hlen:decide ((n:Int)≤6)=false:=decide_eq_false Om;clear hmf;go_enter Tryz.func61,Tryz.ntmps61;go_wp2;go_ret;exact⟨rfl,Bl⟩
end Go.Proofs.YtcnoemjeijjnjaaGreat.netFace
namespace Go.Proofs.YtcnoemjeijjnjaaGreat.netOKImpl
open Go.RowKit Go.Deep Go base names netSem netImpl netParts netFace
theorem netB_no {l:Nat→Nat} {s:Ss} {g x f:R} {o e:List Int} (h:routersB s (l 0)=false∨linksB g (l 1) (l 0)=false∨risingB o (l 2) (l 0)=false∨risingB e (l 3) (l 0)=false∨¬l 3≤2∨importsB g (l 1) x (l 4)=false∨filtersB g (l 1) f (l 5)=false):netB l s g o e x f=false:=by
 unfold netB;rcases h with h|h|h|h|h|h|h
 all_goals simp[h]
set_option maxHeartbeats 1600000 in
theorem netOK_impl (p:Nat→Option Addr) (l c:Nat→Nat) (s:Ss) (g:R) (o e:List Int) (x f:R) (w:World) (h:NetIs w p l s g o e x f) (hc0:l 0≤c 0) (hc1:l 1≤c 1) :
  Calls Tryz.prog 26 #[netV p l c] w fun e' w'=>e' = .returned (.bool (netB l s g o e x f))∧Below w.heap.size w w' := by
 have HN:=hid h;have m0:=h.routers.most;have m3:=h.externals.most;have M0:=hid m0;have HK0:=hid hc0;have HK1:=hid hc1;unfold maxLen at m0 m3;obtain⟨D,hD⟩:∃D,netB l s g o e x f=D:=⟨_,rfl⟩;rw[hD];have HNO:=hid (fun hh=>hD.symm.trans (netB_no (l:=l) (s:=s) (g:=g) (o:=o) (e:=e) (x:=x) (f:=f) hh));have HD:Hid (D=(routersB s (l 0)&&linksB g (l 1) (l 0)&&risingB o (l 2) (l 0)&&risingB e (l 3) (l 0)&&decide (l 3≤2)&&importsB g (l 1) x (l 4)&&filtersB g (l 1) f (l 5))):=hD.symm;clear hD h hc0 hc1;unfold netV
 have C1:∀w8:World,Below (w.alloc (.cells #[.slice (p 0) (l 0) (c 0),.slice (p 1) (l 1) (c 1),.slice (p 2) (l 2) (c 2),.slice (p 3) (l 3) (c 3),.slice (p 4) (l 4) (c 4),.slice (p 5) (l 5) (c 5)] 29)).heap.size (w.alloc (.cells #[.slice (p 0) (l 0) (c 0),.slice (p 1) (l 1) (c 1),.slice (p 2) (l 2) (c 2),.slice (p 3) (l 3) (c 3),.slice (p 4) (l 4) (c 4),.slice (p 5) (l 5) (c 5)] 29)) w8 →
   w8.cell? ⟨w.heap.size,1,none⟩=some (.slice (p 1) (l 1) (c 1))∧w8.cell? ⟨w.heap.size,2,none⟩=some (.slice (p 2) (l 2) (c 2))∧w8.cell? ⟨w.heap.size,3,none⟩=some (.slice (p 3) (l 3) (c 3))∧w8.cell? ⟨w.heap.size,4,none⟩=some (.slice (p 4) (l 4) (c 4))∧w8.cell? ⟨w.heap.size,5,none⟩=some (.slice (p 5) (l 5) (c 5))∧NetIs w8 p l s g o e x f∧Below w.heap.size w w8 :=
  fun w8 hb=>⟨keep hb (by simp[go_sem]),keep hb (by simp[go_sem]),keep hb (by simp[go_sem]),keep hb (by simp[go_sem]),keep hb (by simp[go_sem]),(HN.out.below Bl).below hb,(show Below w.heap.size w _ from Bl).trans (hb.mono (by simp))⟩
 have HC1:=hid C1;clear C1;go_enter Tryz.func26,Tryz.ntmps26;go_wp2_with fail;refine(routers_impl (p 0) (l 0) (c 0) s _ (HN.out.routers.below Bl) HK0.out).mono ?_;rintro e' w1 ⟨rfl,n,hw⟩;have hb1:=below_drewN (w.alloc (.cells #[.slice (p 0) (l 0) (c 0),.slice (p 1) (l 1) (c 1),.slice (p 2) (l 2) (c 2),.slice (p 3) (l 3) (c 3),.slice (p 4) (l 4) (c 4),.slice (p 5) (l 5) (c 5)] 29)) n;rw[←hw]at hb1;clear hw;obtain⟨q1,q2,q3,q4,q5,hn,hB⟩:=HC1.out w1 hb1;have H1:=hid hb1;have N1:=hid hn;have B1:=hid hB;clear hb1 hn hB;obtain⟨b1,e1⟩:∃b,routersB s (l 0)=b:=⟨_,rfl⟩;rw[e1]at HD ⊢
 cases b1 with
 | false =>
  clear q1 q2 q3 q4 q5;go_wp2;go_ret;exact⟨ret_bool (HNO.out (.inl e1)).symm,B1.out⟩
 | true =>
 go_wp2_with fail;refine(links_impl (p 1) (l 1) (c 1) g (l 0) _ N1.out.links HK1.out M0.out).mono ?_;rintro e' w2 ⟨rfl,hb2⟩;obtain⟨q1,q2,q3,q4,q5,hn,hB⟩:=HC1.out w2 (H1.out.trans (hb2.mono H1.out.size));have H2:=hid (H1.out.trans (hb2.mono H1.out.size));have N2:=hid hn;have B2:=hid hB;clear hb2 hn hB;obtain⟨b2,e2⟩:∃b,linksB g (l 1) (l 0)=b:=⟨_,rfl⟩;rw[e2]at HD ⊢
 cases b2 with
 | false =>
  go_wp2;go_ret;exact⟨ret_bool (HNO.out (.inr (.inl e2))).symm,B2.out⟩
 | true =>
 go_wp2_with fail;refine(rising_impl (p 2) (l 2) (c 2) o (l 0) _ N2.out.origins M0.out).mono ?_;rintro e' w3 ⟨rfl,n3,hw⟩;have hb3:=below_drewN w2 n3;rw[←hw]at hb3;clear hw;obtain⟨q1,q2,q3,q4,q5,hn,hB⟩:=HC1.out w3 (H2.out.trans (hb3.mono H2.out.size));have H3:=hid (H2.out.trans (hb3.mono H2.out.size));have N3:=hid hn;have B3:=hid hB;clear hb3 hn hB;obtain⟨b3,e3⟩:∃b,risingB o (l 2) (l 0)=b:=⟨_,rfl⟩;rw[e3]at HD ⊢
 cases b3 with
 | false =>
  go_wp2;go_ret;exact⟨ret_bool (HNO.out (.inr (.inr (.inl e3)))).symm,B3.out⟩
 | true =>
 go_wp2_with fail;refine(rising_impl (p 3) (l 3) (c 3) e (l 0) _ N3.out.externals M0.out).mono ?_;rintro e' w4 ⟨rfl,n4,hw⟩;have hb4:=below_drewN w3 n4;rw[←hw]at hb4;clear hw;obtain⟨q1,q2,q3,q4,q5,hn,hB⟩:=HC1.out w4 (H3.out.trans (hb4.mono H3.out.size));have H4:=hid (H3.out.trans (hb4.mono H3.out.size));have N4:=hid hn;have B4:=hid hB;clear hb4 hn hB;obtain⟨b4,e4⟩:∃b,risingB e (l 3) (l 0)=b:=⟨_,rfl⟩;rw[e4]at HD ⊢
 cases b4 with
 | false =>
  go_wp2;go_ret;exact⟨ret_bool (HNO.out (.inr (.inr (.inr (.inl e4))))).symm,B4.out⟩
 | true =>
 by_cases h3:l 3≤2
 · have d3:decide ((l 3:Int)≤2)=true:=decide_eq_true Om;have E5:=hid (decide_eq_true h3);clear h3;go_wp2_with fail;refine(imports_impl (p 4) (l 4) (c 4) x (p 1) (l 1) (c 1) g _ N4.out.imports N4.out.links).mono ?_;rintro e' w5 ⟨rfl,hb5⟩;obtain⟨q1,q2,q3,q4,q5,hn,hB⟩:=HC1.out w5 (H4.out.trans (hb5.mono H4.out.size));have H5:=hid (H4.out.trans (hb5.mono H4.out.size));have N5:=hid hn;have B5:=hid hB;clear hb5 hn hB;obtain⟨b5,e5⟩:∃b,importsB g (l 1) x (l 4)=b:=⟨_,rfl⟩;rw[e5]at HD ⊢
   cases b5 with
   | false =>
    go_wp2;go_ret;exact⟨ret_bool (HNO.out (.inr (.inr (.inr (.inr (.inr (.inl e5))))))).symm,B5.out⟩
   | true =>
   go_wp2_with fail;refine(filters_impl (p 5) (l 5) (c 5) f (p 1) (l 1) (c 1) g _ N5.out.filters N5.out.links).mono ?_;rintro e' w6 ⟨rfl,hb6⟩;obtain⟨-,-,-,-,-,-,hB⟩:=HC1.out w6 (H5.out.trans (hb6.mono H5.out.size));have B6:=hid hB;clear hb6 hB q1 q2 q3 q4 q5;go_wp2;go_ret;exact⟨ret_bool (by rw[HD.out,E5.out];rfl),B6.out⟩
 have d3:decide ((l 3:Int)≤2)=false:=decide_eq_false Om;have E5:=hid h3;clear h3;go_wp2;go_ret;exact⟨ret_bool (HNO.out (.inr (.inr (.inr (.inr (.inl E5.out)))))).symm,B4.out⟩
end Go.Proofs.YtcnoemjeijjnjaaGreat.netOKImpl
namespace Go.Proofs.YtcnoemjeijjnjaaGreat.candEnv
open Go.RowKit Go.Deep Go base copy names netSem netSpec netOKSpec nbSem routeRow candSem
def envC (ok : Bool) (el dl l3 l1 : Nat) (env : List Int) : Int := if 4096<el∨4096<dl then 2 else if ok=false then 1 else if el≠l3∨dl≠l1 then 5 else if allN (fun i=>inB (zAt env i) 0 2) el=true then 0 else 5
set_option maxHeartbeats 3200000 in
theorem env_spec (p:Nat→Option Addr) (l c:Nat→Nat) (s:Ss) (g:R) (o e:List Int) (x f:R) (ea da:Option Addr) (el ec dl dc:Nat) (env:List Int) (w:World) (h:NetIs w p l s g o e x f) (hc0:l 0≤c 0) (hc1:l 1≤c 1) (he:IntRow w ea el env) (hdl:dl≤maxLen) :
  Calls Tryz.prog 37 #[netV p l c,.slice ea el ec,.slice da dl dc] w fun e' w'=>e' = .returned (.int .i64 (envC (netB l s g o e x f) el dl (l 3) (l 1) env))∧Below w.heap.size w w' := by
 have HN:=hid h;have HE:=hid he;have m3:=h.externals.most;have m1:=h.links.most;have me:=he.most;have K0:=hid hc0;have K1:=hid hc1;unfold maxLen at m1 m3 me hdl;clear h he hc0 hc1
 have C1:∀w8:World,Below ((w.alloc (.cells #[.slice (p 0) (l 0) (c 0),.slice (p 1) (l 1) (c 1),.slice (p 2) (l 2) (c 2),.slice (p 3) (l 3) (c 3),.slice (p 4) (l 4) (c 4),.slice (p 5) (l 5) (c 5)] 29))).heap.size (w.alloc (.cells #[.slice (p 0) (l 0) (c 0),.slice (p 1) (l 1) (c 1),.slice (p 2) (l 2) (c 2),.slice (p 3) (l 3) (c 3),.slice (p 4) (l 4) (c 4),.slice (p 5) (l 5) (c 5)] 29)) w8→(w8.cell? ⟨w.heap.size,1,none⟩=some (.slice (p 1) (l 1) (c 1))∧w8.cell? ⟨w.heap.size,3,none⟩=some (.slice (p 3) (l 3) (c 3)))∧IntRow w8 ea el env∧Below w.heap.size w w8 :=
  fun w8 hb=>⟨⟨keep hb (by simp[go_sem]),keep hb (by simp[go_sem])⟩,(HE.out.below Bl).below hb,(show Below w.heap.size w _ from Bl).trans (hb.mono (by simp))⟩
 have HC1:=hid C1;clear C1;obtain⟨ok,hok⟩:∃b,netB l s g o e x f=b:=⟨_,rfl⟩;have HOK:=hid hok;rw[hok];clear hok;obtain⟨C,hC⟩:∃C,envC ok el dl (l 3) (l 1) env=C:=⟨_,rfl⟩;have HC:=hid hC;rw[hC];clear hC;unfold envC at HC;unfold netV;by_cases h1:4096<el
 · have d1:decide ((4096:Int)<(el:Int))=true:=decide_eq_true Om;have e2:C=2:=by rw[←HC.out,if_pos (.inl h1)]
   subst e2;go_enter Tryz.func37,Tryz.ntmps37;go_wp2;go_ret;exact⟨rfl,Bl⟩
 have d1:decide ((4096:Int)<(el:Int))=false:=decide_eq_false Om;by_cases h2:4096<dl
 · have d2:decide ((4096:Int)<(dl:Int))=true:=decide_eq_true Om;have e2:C=2:=by rw[←HC.out,if_pos (.inr h2)]
   subst e2;go_enter Tryz.func37,Tryz.ntmps37;go_wp2;go_ret;exact⟨rfl,Bl⟩
 have d2:decide ((4096:Int)<(dl:Int))=false:=decide_eq_false Om;rw[if_neg Om]at HC;go_enter Tryz.func37,Tryz.ntmps37;go_wp2_with fail;refine(netOK_spec p l c s g o e x f _ (HN.out.below Bl) K0.out K1.out).mono ?_;rintro e' w1 ⟨rfl,hb1⟩;rw[HOK.out];obtain⟨⟨q1,q3⟩,hE1,hB⟩:=HC1.out _ hb1;have E1:=hid hE1;have B1:=hid hB;have hs1:w.heap.size<w1.heap.size:=World.block_lt_of_cell? _ _ q1;clear hb1 hE1 hB
 cases ok with
 | false =>
  have e2:C=1:=by rw[←HC.out,if_pos rfl]
  subst e2;go_wp2;go_ret;exact⟨rfl,B1.out⟩
 | true =>
 rw[if_neg (by decide)]at HC;by_cases h3:el=l 3
 · have d3:((el:Int) != (l 3:Int))=false:=by simp[h3]
   by_cases h4:dl=l 1
   · have d4:((dl:Int) != (l 1:Int))=false:=by simp[h4]
     rw[if_neg (by simp[h3,h4])]at HC;clear h3 h4;go_wp2;go_loopw [7] (fun i wr=>∃k:Nat,k≤el∧i=.int .i64 k∧Below w1.heap.size w1 wr∧∀j,j<k→inB (zAt env j) 0 2=true) (fun i _=>el - (intOf i).toNat)
     case atStart=>exact⟨0,Nat.zero_le _,rfl,Below.refl _ _,fun j hj=>absurd hj (Nat.not_lt_zero _)⟩
     obtain⟨k,hk,rfl,hb,ha⟩:=hrel;have HB:=hid hb;have HA:=hid ha;clear hb ha;by_cases hlt:k<el
     · obtain⟨b,off,rfl,c0⟩:=(E1.out.below HB.out).cell k hlt;have HZ:Hid (zAt env k=env[k]?.getD 0):=hid rfl;generalize env[k]?.getD 0=y at *;obtain⟨D,hD⟩:∃D,inB y 0 2=D:=⟨_,rfl⟩;have HQ:=hid hD;go_wp2_with fail;refine(in_spec _ _ _ _).mono ?_;rintro e' w' ⟨rfl,hw'⟩;have hw' := hw'.symm;subst hw';rw[hD];clear hD
       cases D with
       | true =>
        go_wp2;go_roundw
        case rel =>
         refine⟨k+1,by omega,by go_num,HB.out,fun j hj=>?_⟩;by_cases e:j=k
         · subst e;rw[HZ.out];exact HQ.out
         exact HA.out j Om
        case measure=>simp[intOf];omega
       | false =>
        have e2:C=5:=by
         rw[←HC.out,if_neg];rw[allN_false hlt (by show inB (zAt env k) 0 2=false;rw[HZ.out];exact HQ.out)]
         decide
        subst e2;go_wp2;go_ret;exact⟨rfl,B1.out.trans (HB.out.mono B1.out.size)⟩
     have e:k=el:=by omega
     subst e;have e2:C=0:=by rw[←HC.out,if_pos (allN_of HA.out)]
     subst e2;go_wp2;go_ret;exact⟨rfl,B1.out.trans (HB.out.mono B1.out.size)⟩
   have d4:((dl:Int) != (l 1:Int))=true:=by simp;omega
   have e2:C=5:=by rw[←HC.out,if_pos (.inr h4)]
   subst e2;clear h3 h4;go_wp2;go_ret;exact⟨rfl,B1.out⟩
 have d3:((el:Int) != (l 3:Int))=true:=by simp;omega
 have e2:C=5:=by rw[←HC.out,if_pos (.inl h3)]
 subst e2;clear h3;go_wp2;go_ret;exact⟨rfl,B1.out⟩
end Go.Proofs.YtcnoemjeijjnjaaGreat.candEnv
