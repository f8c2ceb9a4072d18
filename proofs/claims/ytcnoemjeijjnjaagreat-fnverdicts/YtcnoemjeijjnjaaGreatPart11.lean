import Derived.Test.YtcnoemjeijjnjaaGreatPart10
set_option linter.unusedVariables false
namespace Go.Proofs.YtcnoemjeijjnjaaGreat.walkSem
open Go.RowKit Go.Deep base names netSem routeRow
def filtB (f : R) (a b port : Int) (i : Nat) : Bool := f i 0==a&&f i 1==b&&inB port (f i 2) (f i 3)
def filt (f : R) (m : Nat) (a b port : Int) : Bool := decide (0≤firstAt (filtB f a b port) m)
theorem filt_hit {f:R} {m k:Nat} {a b port:Int} (hk:k<m) (h:filtB f a b port k=true):filt f m a b port=true:=decide_eq_true (firstAt_spec.2 ⟨k,hk,h⟩)
theorem filt_none {f:R} {m:Nat} {a b port:Int} (h:∀i,i<m→filtB f a b port i=false):filt f m a b port=false:=by
 unfold filt;rw[firstAt_none h];decide
def outAt (f : R) (m : Nat) (a via port : Int) : Int := if via = -2 then 1 else if via = -1 then 2 else if via = -3 then 3 else if filt f m a via port=true then 4 else 0
def wayR (rs : Rs) (f : R) (m : Nat) (port : Int) : Nat→Int→List Int
 | 0,_=>[]
 | n+1,a=>if outAt f m a (rs a.toNat).via port=0 then (rs a.toNat).via::wayR rs f m port n (rs a.toNat).via else []
def wayO (rs : Rs) (f : R) (m : Nat) (port : Int) : Nat→Int→Int
 | 0,_=>3
 | n+1,a=>if outAt f m a (rs a.toNat).via port=0 then wayO rs f m port n (rs a.toNat).via else outAt f m a (rs a.toNat).via port
theorem way_stop {rs:Rs} {f:R} {m n:Nat} {port a:Int} (h:outAt f m a (rs a.toNat).via port≠0):wayR rs f m port (n+1) a=[]∧wayO rs f m port (n+1) a=outAt f m a (rs a.toNat).via port:=by
 simp only[wayR,wayO];rw[if_neg h,if_neg h];exact⟨rfl,rfl⟩
theorem way_go {rs:Rs} {f:R} {m n:Nat} {port a:Int} (h:outAt f m a (rs a.toNat).via port=0):wayR rs f m port (n+1) a=(rs a.toNat).via::wayR rs f m port n (rs a.toNat).via∧wayO rs f m port (n+1) a=wayO rs f m port n (rs a.toNat).via:=by
 simp only[wayR,wayO];rw[if_pos h,if_pos h];exact⟨rfl,rfl⟩
def Viable (rs : Rs) (n : Nat) : Prop := ∀i,i<n→-3≤(rs i).via∧(rs i).via<n
theorem out_next {f:R} {m:Nat} {a via port:Int} (h:outAt f m a via port=0) (hv : -3≤via):0≤via:=by
 unfold outAt at h
 split at h
 · cases h
 split at h
 · cases h
 split at h
 · cases h
 omega
end Go.Proofs.YtcnoemjeijjnjaaGreat.walkSem
namespace Go.Proofs.YtcnoemjeijjnjaaGreat.routesB
open Go.RowKit Go.Deep base names netSem routeRow walkSem
def noneB (r : Rt) : Bool := decide (r.via = -3)&&decide (r.pref=0)&&decide (r.len=0)&&!r.mark
def routeB (g : R) (nl n : Nat) (i : Nat) (r : Rt) : Bool := inB r.via (-3) ((n : Int) - 1)&&inB r.pref 0 1000&&inB r.len 0 10000&&!(decide (0≤r.via)&&decide (linkAt g nl (i : Int) r.via<0))&&!(decide (r.via = -3)&&!noneB r)
def routesB (g : R) (nl n rl : Nat) (rs : Rs) : Bool := decide (rl=n)&&allN (fun i=>routeB g nl n i (rs i)) rl
def LinksIn (g : R) (nl n : Nat) : Prop := ∀j,j<nl→0≤g j 0∧g j 0<n∧0≤g j 1∧g j 1<n
theorem links_in {l:Nat→Nat} {s:Ss} {g x f:R} {o e:List Int} (h:netB l s g o e x f=true):LinksIn g (l 1) (l 0):=by
 unfold netB linksB at h;simp only[Bool.and_eq_true,decide_eq_true_eq]at h;obtain⟨⟨⟨⟨⟨⟨_,_,h1⟩,_⟩,_⟩,_⟩,_⟩,_⟩:=h;intro j hj;have:=allN_iff.1 h1 j hj;unfold linkB inB at this;simp only[Bool.and_eq_true,decide_eq_true_eq]at this;omega
theorem link_in {g:R} {nl n:Nat} {a b:Int} (h:LinksIn g nl n) (hl:0≤linkAt g nl a b):0≤b∧b<n:=by
 obtain⟨j,hj,hh⟩:=firstAt_spec.1 hl;have:=h j hj;unfold hit at hh;rw[decide_eq_true_eq]at hh;omega
theorem routes_viable {g:R} {nl n rl:Nat} {rs:Rs} (h:routesB g nl n rl rs=true):rl=n∧Viable rs n:=by
 unfold routesB at h;simp only[Bool.and_eq_true,decide_eq_true_eq]at h;obtain⟨rfl,h⟩:=h;refine⟨rfl,fun i hi=>?_⟩;have:=allN_iff.1 h i hi;unfold routeB inB at this;simp only[Bool.and_eq_true,decide_eq_true_eq]at this;omega
def downB (g : R) (nl : Nat) (ds : List Bool) (i : Nat) (r : Rt) : Bool := decide (0≤linkAt g nl (i : Int) r.via)&&ds[(linkAt g nl (i : Int) r.via).toNat]?.getD false
def anyDown (g : R) (nl rl : Nat) (ds : List Bool) (rs : Rs) : Bool := !allN (fun i=>!downB g nl ds i (rs i)) rl
theorem down_eq {g:R} {nl n rl i:Nat} {rs:Rs} (h:routesB g nl n rl rs=true) (hin:LinksIn g nl n) (hi:i<rl):decide (0≤(rs i).via)=decide (0≤linkAt g nl (i:Int) (rs i).via):=by
 unfold routesB at h;simp only[Bool.and_eq_true,decide_eq_true_eq]at h;have h1:=allN_iff.1 h.2 i hi;have h2:=fun hh=>link_in (a:=(i:Int)) (b:=(rs i).via) hin hh;unfold routeB at h1;generalize linkAt g nl (i:Int) (rs i).via=L at *;simp at h1;rw[Bool.eq_iff_iff,decide_eq_true_eq,decide_eq_true_eq];exact⟨fun h3=>by omega,fun h3=>(h2 h3).1⟩
def fwC (ok rB : Bool) (dl rl nl n : Nat) (fr port : Int) (dn : Bool) : Int := if 4096<dl∨4096<rl then 2 else if ok=false∨rB=false then 1 else if dl≠nl∨inB fr 0 ((n : Int) - 1)=false∨inB port 0 15=false then 5 else if dn=true then 8 else 0
end Go.Proofs.YtcnoemjeijjnjaaGreat.routesB
namespace Go.Proofs.YtcnoemjeijjnjaaGreat.netImpl
open Go.RowKit Go.Deep base names netSem
set_option maxHeartbeats 400000 in
theorem within_impl (n low high:Int) (w:World) :
  Calls Tryz.prog 19 #[.int .i64 n,.int .i64 low,.int .i64 high] w fun e w'=>e=.returned (.bool (inB n low high))∧w' = w:=by
 go_enter Tryz.func19,Tryz.ntmps19;go_wp2
 all_goals
  go_ret;refine⟨ret_bool ?_,rfl⟩;rw[Bool.eq_iff_iff];simp[inB, *];try omega
set_option maxHeartbeats 400000 in
theorem router_impl (n:Int) (r:Nat) (w:World) (hr:r≤maxLen) :
  Calls Tryz.prog 27 #[.int .i64 n,.int .i64 r] w fun e w'=>e=.returned (.bool (inB n 0 (r - 1)))∧w' = w:=by
 unfold maxLen at hr;go_enter Tryz.func27,Tryz.ntmps27;go_wp2_with (go_at_call 19;refine(within_impl _ _ _ _).mono ?_;rintro e w' ⟨rfl,rfl⟩);go_ret;exact⟨rfl,rfl⟩
set_option maxHeartbeats 400000 in
theorem index_str (a:Option Addr) (len cap:Nat) (s:Ss) (t:ByteArray) (w:World) (hr:StrRow w a len s) :
  Calls Tryz.prog 131 #[.slice a len cap,.string t] w fun e w'=>e=.returned (.int .i64 (nameAt s len t))∧w' = w:=by
 have hmost:=hr.most;unfold maxLen at hmost;have HC:=hid hr.cell;clear hr;go_enter Tryz.func131,Tryz.ntmps131;go_wp2;go_loop [8] (fun i=>∃k:Nat,k≤len∧i=.int .i64 k∧∀j,j<k→same s t j=false) (fun i=>len - (intOf i).toNat)
 case atStart=>exact⟨0,Nat.zero_le _,rfl,fun j hj=>absurd hj (Nat.not_lt_zero _)⟩
 obtain⟨k,hk,rfl,ha⟩:=hrel;have HA:=hid ha;clear ha;by_cases hlt:k<len
 · obtain⟨b,off,rfl,hc⟩:=HC.out k hlt;by_cases he:(s k).toList=t.toList
   · have hq:(t.toList==(s k).toList)=true:=by simp[he]
     have HE:=hid (show same s t k=true from decide_eq_true he);clear he;go_wp2;go_ret;exact⟨ret_int (firstAt_hit hlt HE.out HA.out).symm,rfl⟩
   have hq:(t.toList==(s k).toList)=false:=beq_eq_false_iff_ne.2 fun h=>he h.symm;have HE:=hid (show same s t k=false from decide_eq_false he);clear he;go_wp2;go_round
   case rel =>
    refine⟨k+1,by omega,by go_num,fun j hj=>?_⟩;by_cases e:j=k
    · subst e;exact HE.out
    exact HA.out j Om
   case measure=>simp[intOf];omega
 have e:k=len:=by omega
 subst e;go_wp2;go_ret;exact⟨ret_int (firstAt_none HA.out).symm,rfl⟩
set_option maxHeartbeats 400000 in
theorem contains_str (a:Option Addr) (len cap:Nat) (s:Ss) (t:ByteArray) (w:World) (hr:StrRow w a len s) :
  Calls Tryz.prog 93 #[.slice a len cap,.string t] w fun e w'=>e=.returned (.bool (decide (0≤nameAt s len t)))∧w' = w:=by
 have HR:=hid hr;clear hr;go_enter Tryz.func93,Tryz.ntmps93;go_wp2_with fail;refine(index_str a len cap s t _ HR.out).mono ?_;rintro e w' ⟨rfl,rfl⟩;go_wp2;go_ret;exact⟨rfl,rfl⟩
set_option maxHeartbeats 800000 in
theorem routers_impl (a:Option Addr) (len cap:Nat) (s:Ss) (w:World) (hr:StrRow w a len s) (hcap:len≤cap) :
  Calls Tryz.prog 57 #[.slice a len cap] w fun e w'=>e=.returned (.bool (routersB s len))∧∃n,w' = w.drewN n:=by
 have hmost:=hr.most;unfold maxLen at hmost;have HR:=hid hr;clear hr;by_cases hin:inB len 1 4=true
 · have hd : Hid (routersB s len = allN (routerB s) len) := by
    show _=_
    unfold routersB;rw[hin,Bool.true_and]
   go_enter Tryz.func57,Tryz.ntmps57;go_wp2_with (go_at_call 19;refine(within_impl _ _ _ _).mono ?_;rintro e w' ⟨rfl,hw'⟩;have hw' := hw'.symm;subst hw');go_loopw [11] (fun i wr=>∃k:Nat,k≤len∧i=.int .i64 k∧(∀j,j<k→routerB s j=true)∧∃n,wr=w.drewN n) (fun i _=>len - (intOf i).toNat)
   case atStart=>exact⟨0,Nat.zero_le _,rfl,fun j hj=>absurd hj (Nat.not_lt_zero _),0,rfl⟩
   obtain⟨k,hk,rfl,ha,n,hw⟩:=hrel;have HA:=hid ha;have HW:=hid hw;clear ha;by_cases hlt:k<len
   · obtain⟨b,off,rfl,hc0⟩:=HR.out.cell k hlt;have hc:wr.cell? ⟨b,off+k,none⟩=some (.string (s k)):=by rw[hw];simpa using hc0
     have HR2:Hid (StrRow wr (some ⟨b,off,none⟩) k s):=by
      show StrRow _ _ _ _
      rw[hw];exact(HR.out.front Om).below (below_drewN _ _)
     have hkc:(k:Int)≤(cap:Int):=by omega
     have hsz:=HR.out.size k hlt;have HS:=hid hsz;have HQ:Hid (routerB s k=(nameB (s k)&&decide (nameAt s k (s k)<0))):=rfl;clear hw hc0;generalize s k=t at *;by_cases hn:nameB t=true
     · by_cases hp:0≤nameAt s k t
       · have hpd:decide (0≤nameAt s k t)=true:=decide_eq_true hp;have HF:=hid (show routerB s k=false by rw[HQ.out,hn,decide_eq_false Om];rfl);clear hp;go_wp2_with (first|(go_at_call 92;refine(name_impl _ _ HS.out).mono ?_;rintro e w' ⟨rfl,rfl⟩)|(go_at_call 93;refine(contains_str _ _ _ s _ _ HR2.out).mono ?_;rintro e w' ⟨rfl,rfl⟩));go_ret;exact⟨ret_bool (by rw[hd.out];exact(allN_false hlt HF.out).symm),n,HW.out⟩
       have hpd:decide (0≤nameAt s k t)=false:=decide_eq_false hp;have HF:=hid (show routerB s k=true by rw[HQ.out,hn,decide_eq_true Om];rfl);clear hp;go_wp2_with (first|(go_at_call 92;refine(name_impl _ _ HS.out).mono ?_;rintro e w' ⟨rfl,rfl⟩)|(go_at_call 93;refine(contains_str _ _ _ s _ _ HR2.out).mono ?_;rintro e w' ⟨rfl,rfl⟩));go_roundw
       case rel =>
        refine⟨k+1,by omega,by go_num,fun j hj=>?_,n,HW.out⟩;by_cases e:j=k
        · subst e;exact HF.out
        exact HA.out j Om
       case measure=>simp[intOf];omega
     have hn':nameB t=false:=by simpa using hn
     have HF:=hid (show routerB s k=false by rw[HQ.out,hn'];rfl);clear hn;go_wp2_with (first|(go_at_call 92;refine(name_impl _ _ HS.out).mono ?_;rintro e w' ⟨rfl,rfl⟩));go_ret;exact⟨ret_bool (by rw[hd.out];exact(allN_false hlt HF.out).symm),n,HW.out⟩
   have e:k=len:=by omega
   subst e;go_wp2;go_ret;exact⟨ret_bool (by rw[hd.out];exact(allN_of HA.out).symm),n,by first|exact HW.out|rfl⟩
 have hf:routersB s len=false:=by unfold routersB;simp[hin]
 have hin':inB len 1 4=false:=by simpa using hin
 rw[hf];clear hf hin;go_enter Tryz.func57,Tryz.ntmps57;go_wp2_with (go_at_call 19;refine(within_impl _ _ _ _).mono ?_;rintro e w' ⟨rfl,rfl⟩);go_ret;exact⟨rfl,0,rfl⟩
theorem mkfunc (fn:Fn) (first cap:Array Value) (w:World):(Instr.makeFunc fn first cap).run Tryz.prog w=.ok (.func fn first cap) w:=rfl
set_option maxHeartbeats 400000 in
theorem linkCl (x y c a b:Int) (B1 B2:Nat) (w:World) (h1:w.cell? ⟨B1,0,none⟩=some (.int .i64 a)) (h2:w.cell? ⟨B2,0,none⟩=some (.int .i64 b)) :
  Calls Tryz.prog 151 #[.agg #[.int .i64 x,.int .i64 y,.int .i64 c],.pointer (some ⟨B1,0,none⟩),.pointer (some ⟨B2,0,none⟩)] w fun e w'=>e=.returned (.bool (decide (x=a∧y=b∨x=b∧y=a)))∧Below w.heap.size w w' := by
 have g1:=keep (show Below w.heap.size w (w.alloc (.cells #[.int .i64 x,.int .i64 y,.int .i64 c] 112)) from Bl) h1;have g2:=keep (show Below w.heap.size w (w.alloc (.cells #[.int .i64 x,.int .i64 y,.int .i64 c] 112)) from Bl) h2;obtain⟨D,hD⟩:∃D,decide (x=a∧y=b∨x=b∧y=a)=D:=⟨_,rfl⟩;rw[hD];obtain⟨p1,e1⟩:∃p,(x==a)=p:=⟨_,rfl⟩;obtain⟨p2,e2⟩:∃p,(y==b)=p:=⟨_,rfl⟩;obtain⟨p3,e3⟩:∃p,(x==b)=p:=⟨_,rfl⟩;obtain⟨p4,e4⟩:∃p,(y==a)=p:=⟨_,rfl⟩
 have HD:Hid (D=(p1&&p2||p3&&p4)):=by
  show _=_
  rw[←hD,←e1,←e2,←e3,←e4,Bool.eq_iff_iff];simp
 clear hD;cases p1<;>cases p2<;>cases p3<;>cases p4
 all_goals
  go_enter Tryz.func151,Tryz.ntmps151;go_wp2;go_ret;exact⟨ret_bool (by rw[HD.out];rfl),Bl⟩
set_option maxHeartbeats 800000 in
theorem indexLink (p:Option Addr) (len cap:Nat) (g:R) (a b:Int) (B1 B2:Nat) (w:World) (hr:Row 3 w p len g) (h1:w.cell? ⟨B1,0,none⟩=some (.int .i64 a)) (h2:w.cell? ⟨B2,0,none⟩=some (.int .i64 b)) :
  Calls Tryz.prog 150 #[.slice p len cap,.func (.func 151) #[] #[.pointer (some ⟨B1,0,none⟩),.pointer (some ⟨B2,0,none⟩)]] w fun e w'=>e=.returned (.int .i64 (linkAt g len a b))∧Below w.heap.size w w' := by
 have hmost:=hr.most;unfold maxLen at hmost;have HR:=hid hr;have H1:=hid h1;have H2:=hid h2;clear hr h1 h2;go_enter Tryz.func150,Tryz.ntmps150;go_wp2;go_loopw [8] (fun i wr=>∃k:Nat,k≤len∧i=.int .i64 k∧(∀j,j<k→hit g a b j=false)∧Below w.heap.size w wr) (fun i _=>len - (intOf i).toNat)
 case atStart=>exact⟨0,Nat.zero_le _,rfl,fun j hj=>absurd hj (Nat.not_lt_zero _),Below.refl _ _⟩
 obtain⟨k,hk,rfl,ha,hbel⟩:=hrel;have HA:=hid ha;have HB:=hid hbel;clear ha;by_cases hlt:k<len
 · obtain⟨b0,off,rfl,c0,c1,c2⟩:=HR.out.at3 hlt
   replace c0:=keep hbel c0
   replace c1:=keep hbel c1
   replace c2:=keep hbel c2
   have g1:=hid (keep hbel H1.out);have g2:=hid (keep hbel H2.out);have HQ:Hid (hit g a b k=decide (g k 0=a∧g k 1=b∨g k 0=b∧g k 1=a)):=rfl;clear hbel;generalize hD:decide (g k 0=a∧g k 1=b∨g k 0=b∧g k 1=a)=D at HQ;have HD:=hid hD;clear hD;generalize g k 0=x at *;generalize g k 1=y at *;generalize g k 2=z at *
   cases D with
   | true =>
    go_wp2_with fail;refine(linkCl x y z a b B1 B2 _ g1.out g2.out).mono ?_;rintro e w1 ⟨rfl,hb1⟩;have HB1:=hid (HB.out.trans (hb1.mono HB.out.size));clear hb1;rw[HD.out];go_wp2;go_ret;exact⟨ret_int (firstAt_hit hlt HQ.out HA.out).symm,HB1.out⟩
   | false =>
    go_wp2_with fail;refine(linkCl x y z a b B1 B2 _ g1.out g2.out).mono ?_;rintro e w1 ⟨rfl,hb1⟩;have HB1:=hid (HB.out.trans (hb1.mono HB.out.size));clear hb1;rw[HD.out];go_wp2;go_roundw
    case rel =>
     refine⟨k+1,by omega,by go_num,fun j hj=>?_,HB1.out⟩;by_cases e:j=k
     · subst e;exact HQ.out
     exact HA.out j Om
    case measure=>simp[intOf];omega
 have e:k=len:=by omega
 subst e;clear hbel;go_wp2;go_ret;exact⟨ret_int (firstAt_none HA.out).symm,HB.out⟩
set_option maxHeartbeats 400000 in
theorem link_impl (p:Option Addr) (len cap:Nat) (g:R) (a b:Int) (w:World) (hr:Row 3 w p len g) :
  Calls Tryz.prog 132 #[.slice p len cap,.int .i64 a,.int .i64 b] w fun e w'=>e=.returned (.int .i64 (linkAt g len a b))∧Below w.heap.size w w' := by
 have HR:=hid hr;clear hr;have hmf:=mkfunc;go_enter Tryz.func132,Tryz.ntmps132;go_wp2_with fail;refine(indexLink p len cap g a b _ _ _ (HR.out.below Bl) ?_ ?_).mono ?_
 · simp[go_sem]
 · simp[go_sem]
 rintro e w1 ⟨rfl,hb1⟩;have HB1:=hid ((show Below w.heap.size w _ from Bl).trans (hb1.mono (by simp;omega)));clear hb1 hmf;go_wp2;go_ret;exact⟨rfl,HB1.out⟩
set_option maxHeartbeats 400000 in
theorem joined_impl (p:Option Addr) (len cap:Nat) (g:R) (a b:Int) (w:World) (hr:Row 3 w p len g) :
  Calls Tryz.prog 94 #[.slice p len cap,.int .i64 a,.int .i64 b] w fun e w'=>e=.returned (.bool (decide (0≤linkAt g len a b)))∧Below w.heap.size w w' := by
 have HR:=hid hr;clear hr;go_enter Tryz.func94,Tryz.ntmps94;go_wp2_with fail;refine(link_impl p len cap g a b _ HR.out).mono ?_;rintro e w1 ⟨rfl,hb1⟩;have HB1:=hid hb1;clear hb1;go_wp2;go_ret;exact⟨rfl,HB1.out⟩
end Go.Proofs.YtcnoemjeijjnjaaGreat.netImpl
namespace Go.Proofs.YtcnoemjeijjnjaaGreat.routesImpl
open Go.RowKit Go.Deep Go base names netSem netImpl routeRow walkSem routesB
set_option maxHeartbeats 400000 in
theorem none_impl (w:World) :
  Calls Tryz.prog 105 #[] w fun e' w'=>e' = .returned (.agg #[.int .i64 (-3),.int .i64 0,.int .i64 0,.bool false])∧Below w.heap.size w w' := by
 go_enter Tryz.func105,Tryz.ntmps105;go_wp2;refine bodyPost_ret (v:=.agg #[.int .i64 (-3),.int .i64 0,.int .i64 0,.bool false]) (by simp[results,Tryz.results105,go_sem]) rfl ⟨rfl,Bl⟩
end Go.Proofs.YtcnoemjeijjnjaaGreat.routesImpl
namespace Go.Proofs.YtcnoemjeijjnjaaGreat.sceneBy
open Go.RowKit Go.Deep Go base netSem routeRow nbSem candSem candImp hopSem intsOwn hopMake hopBetween sceneSem sceneOpen candTake candClear routesImpl
structure Good (n : Nat) (l : Nat→Nat) (g x : R) (rs : Rs) : Prop where
 few:n≤4
 uniq:∀i,i<l 1→linkAt g i (g i 0) (g i 1)<0
 cost:∀i,i<l 1→0≤g i 2∧g i 2≤100
 deed:∀i,i<l 4→1≤x i 3∧x i 3≤4
 via:∀i,i<n→-3≤(rs i).via∧(rs i).via<n
 len:∀i,i<n→0≤(rs i).len∧(rs i).len≤20000
theorem ck_bounds {g:R} {p q:Int}:∀k,(∀i,i<k→0≤g i 2∧g i 2≤100)→0≤ckT g p q k∧ckT g p q k≤100
 | 0,_=>by simp[ckT]
 | k+1,h=>by
  simp only[ckT]
  split
  · exact h k Om
  exact ck_bounds k (fun i hi=>h i Om)
theorem box_end {sb b B:Nat} {F:Nat→Value} {p:Nat→Option Addr} {l c:Nat→Nat} {g:R} {o e:List Int} {x:R} {ea da:Option Addr} {el ec dl dc:Nat} {env:List Int} {ds:List Bool} {w W W2:World} {cs:Array Value} (h0:Sc sb b B F p l c g o e x ea da el ec dl dc env ds w) (hbw:b<w.heap.size) (h:Sc sb b B F p l c g o e x ea da el ec dl dc env ds W) (hg:w.grownBy W (some b))
  (hx:W.heap[w.heap.size]? = some (.cells cs 106)) (hk:∀k,k≠w.heap.size→W2.heap[k]? = W.heap[k]?) (hz:W2.heap.size=W.heap.size) (hos:W2.os=W.os) (ht:W2.tape=W.tape) (ho:W2.output=W.output):Sc sb b B F p l c g o e x ea da el ec dl dc env ds W2∧w.grownBy W2 (some b):=by
 have hg2:w.grownBy W2 (some b):=⟨hos.trans hg.os,ht.trans hg.tape,ho.trans hg.output,by rw[hz];exact hg.size,fun j hj hne=>(hk j Om).trans (hg.block j hj hne)⟩;refine⟨h0.step hg2 ?_,hg2⟩;rcases h.ready with ⟨h1,h2,h3,h4⟩|⟨V,F',hm⟩
 · exact .inl ⟨h1.of_block (hk b Om),h2,h3,h4⟩
 refine .inr ⟨V,F',hm.row.of_block (hk b Om),hm.net,hm.done,hm.hops,fun p q hp hq=>own_keep (hm.own p q hp hq) fun k hkb=>hk k fun ek=>?_⟩;rcases (hm.own p q hp hq).2 with ⟨e1,_⟩|⟨k',cap,cur,e1,_,hh,_⟩
 · rw[e1]at hkb;simp[Value.ownBlock]at hkb
 rw[e1]at hkb;simp[Value.ownBlock]at hkb;rw[hkb,ek,hx]at hh;injection hh with hh;injection hh with _ hh2 _;exact absurd hh2 (by decide)
theorem js_lt {x:R} {p q:Int} {k i:Nat} (h:i∈jsT x p q k):i<k:=by
 unfold jsT at h;exact List.mem_range.1 (List.mem_filter.1 h).1
theorem take_of {b B r v n:Nat} {F F':Nat→Value} {l:Nat→Nat} {g x:R} {V:Nat→Nat→Value} {rs:Rs} {W:World} (hm:Made b B F F' W (l 1) (l 4) g x V) (hg:Good n l g x rs) (hr:r<n) (hv:v<n) (hl:0≤linkAt g (l 1) r v) :
  Calls Tryz.prog 111 #[.pointer (some ⟨b,hopO r v,none⟩),.int .i64 (v:Int),rtV (rs v)] W fun e' w'=>e' = .returned (.tuple #[rtV ((impR g (l 1) x (l 4) r v (rs v)).getD zRt),.bool (impR g (l 1) x (l 4) r v (rs v)).isSome])∧Below W.heap.size W w' := by
 have h4:=hg.few;obtain⟨f0,f1,f2⟩:=hm.hops r v Om Om;obtain⟨ia,ic,hV⟩:=own_form (hm.own r v Om Om);have ho:=hm.own r v Om Om;rw[hV]at f2 ho;obtain⟨_,hrow⟩:=OwnImp.row ho;have hlt:hopO r v+2<57:=by unfold hopO;omega
 have c1:=hm.row.cell (i:=hopO r v+1) Om;have c2:=hm.row.cell (i:=hopO r v+2) Om;rw[f1]at c1;rw[f2]at c2;have hlk:=lk_first (g:=g) (p:=r) (q:=v) (l 1) hg.uniq;have hck:=hlk.2 (by rw[hlk.1];exact hl);rw[hlk.1]at hck
 have h:=take_impl b (hopO r v) _ _ _ (hopSem.rowAt x (jsT x r v (l 4))) _ r v (rs v) W c1 c2 hrow (fun i hi=>by
  have hmem:(jsT x r v (l 4))[i]'hi∈jsT x r v (l 4):=List.getElem_mem hi;have he:hopSem.rowAt x (jsT x r v (l 4)) i=x ((jsT x r v (l 4))[i]'hi):=by unfold hopSem.rowAt;rw[List.getElem?_eq_getElem hi];rfl
  rw[he]
  exact⟨(js_mem hmem).1,(js_mem hmem).2,hg.deed _ (js_lt hmem)⟩) (ck_bounds _ hg.cost) (hg.len v hv)
 simp only[impK_pair,hck]at h;exact h
set_option maxHeartbeats 6400000 in
set_option maxRecDepth 8000 in
theorem by_impl (sb b B:Nat) (F:Nat→Value) (p:Nat→Option Addr) (l c:Nat→Nat) (g:R) (o e:List Int) (x:R) (ea da:Option Addr) (el ec dl dc:Nat) (env:List Int) (ds:List Bool) (ra:Option Addr) (n cr:Nat) (rs:Rs) (r:Nat) (via:Int) (w:World) (h:Sc sb b B F p l c g o e x ea da el ec dl dc env ds w) (hgd:Good n l g x rs) (hrt:RtRow w ra n rs) (hna:∀a o,ra=some ⟨a,o,none⟩→a≠b) (hr:r<n) (hv0 : -3≤via) (hv1:via<n) :
  Calls Tryz.prog 67 #[.pointer (some ⟨sb,0,none⟩),.int .i64 (r:Int),.int .i64 via,.slice ra n cr] w fun e' w'=>e' = .returned (.tuple #[rtV ((byVia g (l 1) o e x (l 4) env ds rs n r via).getD zRt),.bool (byVia g (l 1) o e x (l 4) env ds rs n r via).isSome])∧Sc sb b B F p l c g o e x ea da el ec dl dc env ds w'∧w.grownBy w' (some b):=by
 have HS:=hid h;have HGd:=hid hgd;have HT:=hid hrt;have HNa:=hid hna;have hn4:=hgd.few;have hbw:b<w.heap.size:=by rcases h.ready with ⟨h1,_⟩|⟨V,F',hm⟩;exact h1.lt;exact hm.row.lt
 obtain⟨O,hO⟩:∃O,byVia g (l 1) o e x (l 4) env ds rs n r via=O:=⟨_,rfl⟩;have HO:=hid hO;rw[hO];clear hO h hgd hrt hna;unfold byVia at HO
 have HBox:Hid (∀W:World,(w.alloc (.cells #[.int .i64 0,.int .i64 0,.int .i64 0,.bool false] 106)).grownBy W (some b)→(W.cell? ⟨w.heap.size,0,none⟩=some (.int .i64 0)∧W.cell? ⟨w.heap.size,1,none⟩=some (.int .i64 0)∧W.cell? ⟨w.heap.size,2,none⟩=some (.int .i64 0)∧W.cell? ⟨w.heap.size,3,none⟩=some (.bool false)∧W.frozen? ⟨w.heap.size,0,none⟩=false∧W.frozen? ⟨w.heap.size,1,none⟩=false∧W.frozen? ⟨w.heap.size,2,none⟩=false∧W.frozen? ⟨w.heap.size,3,none⟩=false)∧w.heap.size<W.heap.size∧RtRow W ra n rs):=hid (fun W hg=>by
  have hb:=hg.block w.heap.size (by simp) (fun e=>by injection e with e;omega);have hz:=hg.size;simp at hz;have hb0:Below w.heap.size w (w.alloc (.cells #[.int .i64 0,.int .i64 0,.int .i64 0,.bool false] 106)):=Bl;refine⟨⟨?_,?_,?_,?_,?_,?_,?_,?_⟩,by omega,⟨HT.out.most,fun i hi=>?_⟩⟩
  · exact(World.cell?_of_block (a:=⟨w.heap.size,0,none⟩) hb).trans (by simp[go_sem])
  · exact(World.cell?_of_block (a:=⟨w.heap.size,1,none⟩) hb).trans (by simp[go_sem])
  · exact(World.cell?_of_block (a:=⟨w.heap.size,2,none⟩) hb).trans (by simp[go_sem])
  · exact(World.cell?_of_block (a:=⟨w.heap.size,3,none⟩) hb).trans (by simp[go_sem])
  · exact(World.frozen?_of_block (a:=⟨w.heap.size,0,none⟩) hb).trans (by simp[go_sem])
  · exact(World.frozen?_of_block (a:=⟨w.heap.size,1,none⟩) hb).trans (by simp[go_sem])
  · exact(World.frozen?_of_block (a:=⟨w.heap.size,2,none⟩) hb).trans (by simp[go_sem])
  · exact(World.frozen?_of_block (a:=⟨w.heap.size,3,none⟩) hb).trans (by simp[go_sem])
  obtain⟨q,off,e,hc⟩:=(HT.out.below hb0).cell i hi
  exact⟨q,off,e,fun j hj=>grown_cell hg q _ _ (HNa.out q off e) (hc j hj)⟩)
 have HS0:Hid (Sc sb b B F p l c g o e x ea da el ec dl dc env ds (w.alloc (.cells #[.int .i64 0,.int .i64 0,.int .i64 0,.bool false] 106))):=hid (HS.out.below Bl);have HG0:Hid (w.grownBy (w.alloc (.cells #[.int .i64 0,.int .i64 0,.int .i64 0,.bool false] 106)) (some b)):=hid (grown_of_below Bl _);go_enter Tryz.func67,Tryz.ntmps67;go_wp2_with fail;refine(open_impl sb b B F p l c g o e x ea da el ec dl dc env ds n r via _ HS0.out HGd.out.uniq hn4 hr hv0 hv1).mono ?_;rintro e' w1 ⟨rfl,hs1,hg1⟩;have HS1:=hid hs1;have HW1:=hid hg1;have HG1:=hid (grown_trans HG0.out hg1);clear hs1 hg1;obtain⟨⟨z0,z1,z2,z3,y0,y1,y2,y3⟩,hsz,hrt1⟩:=HBox.out _ HW1.out
 have HEnd:Hid (∀(W:World) (v0 v1 v2 v3:Value),Sc sb b B F p l c g o e x ea da el ec dl dc env ds W→(w.alloc (.cells #[.int .i64 0,.int .i64 0,.int .i64 0,.bool false] 106)).grownBy W (some b)→Sc sb b B F p l c g o e x ea da el ec dl dc env ds ((((W.setCell ⟨w.heap.size,0,none⟩ v0).setCell ⟨w.heap.size,1,none⟩ v1).setCell ⟨w.heap.size,2,none⟩ v2).setCell ⟨w.heap.size,3,none⟩ v3)∧w.grownBy ((((W.setCell ⟨w.heap.size,0,none⟩ v0).setCell ⟨w.heap.size,1,none⟩ v1).setCell ⟨w.heap.size,2,none⟩ v2).setCell ⟨w.heap.size,3,none⟩ v3) (some b)):=hid (fun W v0 v1 v2 v3 hs hg=>by
  refine box_end HS.out hbw hs (grown_trans HG0.out hg) ((hg.block w.heap.size (by simp) (fun e=>by injection e with e;omega)).trans (show (w.heap.push (.cells #[.int .i64 0,.int .i64 0,.int .i64 0,.bool false] 106))[w.heap.size]? = _ from Array.getElem?_push_size)) (fun k hk=>?_) (by simp[World.setCell]) rfl rfl rfl
  rw[Below.heap_setCell _ _ _ _ hk,Below.heap_setCell _ _ _ _ hk,Below.heap_setCell _ _ _ _ hk,Below.heap_setCell _ _ _ _ hk])
 obtain⟨ob,hob⟩:∃b,openB g (l 1) o e env ds (r:Int) via=b:=⟨_,rfl⟩;rw[hob]at HO ⊢;have HOb:=hid hob;clear hob
 cases ob with
 | false =>
  rw[if_pos rfl]at HO;have hO:=HO.out.symm;subst hO;go_wp2;refine bodyPost_ret (v:=.tuple #[.agg #[.int .i64 0,.int .i64 0,.int .i64 0,.bool false],.bool false]) (by rw[results_cell_tmp rfl];go_simp) rfl ?_;exact⟨rfl,HEnd.out _ _ _ _ _ HS1.out HW1.out⟩
 | true =>
 rw[if_neg (by decide)]at HO;by_cases v3:via = -3
 · subst v3;rw[if_pos rfl]at HO;have hO:=HO.out.symm;subst hO;go_wp2_with fail;refine(none_impl _).mono ?_;rintro e' w2 ⟨rfl,hb2⟩;have HS2:=hid (HS1.out.below hb2);have HW2:=hid (grown_trans HW1.out (grown_of_below hb2 _));clear hb2 z0 z1 z2 z3 y0 y1 y2 y3 hsz;obtain⟨⟨z0,z1,z2,z3,y0,y1,y2,y3⟩,hsz,hrt2⟩:=HBox.out _ HW2.out;go_wp2;refine bodyPost_ret (v:=.tuple #[.agg #[.int .i64 (-3),.int .i64 0,.int .i64 0,.bool false],.bool true]) (by rw[results_cell_tmp rfl];go_simp) rfl ?_;exact⟨rfl,HEnd.out _ _ _ _ _ HS2.out HW2.out⟩
 by_cases v2:via = -2
 · subst v2;rw[if_neg (by decide),if_pos rfl]at HO;have hO:=HO.out.symm;subst hO;go_wp2;refine bodyPost_ret (v:=.tuple #[.agg #[.int .i64 (-2),.int .i64 200,.int .i64 0,.bool false],.bool true]) (by rw[results_cell_tmp rfl];go_simp) rfl ?_;exact⟨rfl,HEnd.out _ _ _ _ _ HS1.out HW1.out⟩
 by_cases v1:via = -1
 · subst v1;rw[if_neg (by decide),if_neg (by decide),if_pos rfl]at HO;have hO:=HO.out.symm;subst hO;go_wp2_with fail;refine(ann_impl sb b B F p l c g o e x ea da el ec dl dc env ds r _ HS1.out).mono ?_;rintro e' w2 ⟨rfl,hb2⟩;have HS2:=hid (HS1.out.below hb2);have HW2:=hid (grown_trans HW1.out (grown_of_below hb2 _));clear hb2 z0 z1 z2 z3 y0 y1 y2 y3 hsz;obtain⟨⟨z0,z1,z2,z3,y0,y1,y2,y3⟩,hsz,hrt2⟩:=HBox.out _ HW2.out;go_wp2;refine bodyPost_ret (v:=.tuple #[.agg #[.int .i64 (-1),.int .i64 100,.int .i64 2,.bool (annA e env r==2)],.bool true]) (by rw[results_cell_tmp rfl];go_simp) rfl ?_;exact⟨rfl,HEnd.out _ _ _ _ _ HS2.out HW2.out⟩
 obtain⟨v,rfl⟩:∃v:Nat,via=(v:Int):=⟨via.toNat,by omega⟩;rw[if_neg Om,if_neg Om,if_neg Om,Int.toNat_natCast]at HO;have hvn:v<n:=by omega
 have hvi:(v:Int)<(n:Int):=by omega
 have hl1:0≤(rs v).len∧(rs v).len≤20000:=HGd.out.len v hvn;have hr1 : -3≤(rs v).via∧(rs v).via<n:=HGd.out.via v hvn;obtain⟨rb,ro,hra,hc⟩:=hrt1.cell v hvn;have k0:=hc 0 Om;have k1:=hc 1 Om;have k2:=hc 2 Om;have k3:=hc 3 Om;simp only[routeRow.rc,Nat.add_zero]at k0 k1 k2 k3;subst hra;have HC:=hid hrt1;clear hc hrt1;by_cases d:(rs v).via = -3
 · rw[if_pos (.inl d)]at HO;have hO:=HO.out.symm;subst hO;rw[d]at k0;clear d;go_wp2;refine bodyPost_ret (v:=.tuple #[.agg #[.int .i64 0,.int .i64 0,.int .i64 0,.bool false],.bool false]) (by rw[results_cell_tmp rfl];go_simp) rfl ?_;exact⟨rfl,HEnd.out _ _ _ _ _ HS1.out HW1.out⟩
 have hd:((rs v).via==-3)=false:=beq_eq_false_iff_ne.2 d;have HD:=hid d;clear d;go_wp2_with fail;refine(clear_impl _ n _ rs v r _ HC.out (fun i hi=>(HGd.out.via i hi).2) Om hvi).mono ?_;rintro e' w2 ⟨rfl,hb2⟩;have HS2:=hid (HS1.out.below hb2);have HW2:=hid (grown_trans HW1.out (grown_of_below hb2 _));have HB2:=hid hb2;clear hb2 z0 z1 z2 z3 y0 y1 y2 y3 hsz;obtain⟨⟨z0,z1,z2,z3,y0,y1,y2,y3⟩,hsz,hrt2⟩:=HBox.out _ HW2.out;have HC2:=hid hrt2;obtain⟨t,ht⟩:∃t,thru rs r n v=t:=⟨_,rfl⟩;rw[ht]at HO ⊢;clear ht hrt2
 cases t with
 | true =>
  rw[if_pos (.inr rfl)]at HO;have hO:=HO.out.symm;subst hO;go_wp2;refine bodyPost_ret (v:=.tuple #[.agg #[.int .i64 0,.int .i64 0,.int .i64 0,.bool false],.bool false]) (by rw[results_cell_tmp rfl];go_simp) rfl ?_;exact⟨rfl,HEnd.out _ _ _ _ _ HS2.out HW2.out⟩
 | false =>
 rw[if_neg (by simp[HD.out])]at HO;have HSd:Hid (Sc sb b B F p l c g o e x ea da el ec dl dc env ds w2.drew):=hid (HS2.out.below (Bz.drew));have HWd:Hid ((w.alloc (.cells #[.int .i64 0,.int .i64 0,.int .i64 0,.bool false] 106)).grownBy w2.drew (some b)):=hid (grown_trans HW2.out (grown_of_below (Bz.drew) _));have hnb:rb≠b:=HNa.out rb ro rfl
 have HCell:Hid (∀W:World,w2.drew.grownBy W (some b)→W.cell? ⟨rb,ro+v*4,none⟩=some (.int .i64 (rs v).via)∧W.cell? ⟨rb,ro+v*4+1,none⟩=some (.int .i64 (rs v).pref)∧W.cell? ⟨rb,ro+v*4+2,none⟩=some (.int .i64 (rs v).len)∧W.cell? ⟨rb,ro+v*4+3,none⟩=some (.bool (rs v).mark)):=hid (fun W hg=>by
  obtain⟨rb',ro',e',hc⟩:=HC2.out.cell v hvn;injection e' with e';injection e' with e1 e2;subst e1 e2
  exact⟨grown_cell hg _ _ _ hnb (hc 0 Om),grown_cell hg _ _ _ hnb (hc 1 Om),grown_cell hg _ _ _ hnb (hc 2 Om),grown_cell hg _ _ _ hnb (hc 3 Om)⟩)
 have HLk:Hid (0≤linkAt g (l 1) r v):=hid (by
  have h:=HOb.out;unfold openB at h;rw[if_neg v3,if_neg v2,if_neg v1,Int.toNat_natCast]at h;unfold nbB at h;simp only[Bool.and_eq_true,decide_eq_true_eq]at h
  exact h.1)
 obtain⟨⟨qv,qp,ql,qm⟩,hq⟩:∃q,O.getD zRt=q:=⟨_,rfl⟩;obtain⟨qs,hqs⟩:∃q,O.isSome=q:=⟨_,rfl⟩
 have HTk:Hid (∀(W:World) (F':Nat→Value) (V:Nat→Nat→Value),Made b B F F' W (l 1) (l 4) g x V→Calls Tryz.prog 111 #[.pointer (some ⟨b,hopO r v,none⟩),.int .i64 (v:Int),.agg #[.int .i64 (rs v).via,.int .i64 (rs v).pref,.int .i64 (rs v).len,.bool (rs v).mark]] W fun e' w'=>e' = .returned (.tuple #[.agg #[.int .i64 qv,.int .i64 qp,.int .i64 ql,.bool qm],.bool qs])∧Below W.heap.size W w'):=hid (fun W F' V hm=>by
  have h:=take_of hm HGd.out hr hvn HLk.out;rw[HO.out,hq,hqs]at h
  exact h)
 have HQ:=hid (And.intro hq hqs);have s0:=HS2.out.s0;obtain⟨j0,j1,j2,j3⟩:=HCell.out _ (grown_refl _ _);obtain⟨j0,j1,j2,j3⟩:w2.cell? ⟨rb,ro+v*4,none⟩=some (.int .i64 (rs v).via)∧w2.cell? ⟨rb,ro+v*4+1,none⟩=some (.int .i64 (rs v).pref)∧w2.cell? ⟨rb,ro+v*4+2,none⟩=some (.int .i64 (rs v).len)∧w2.cell? ⟨rb,ro+v*4+3,none⟩=some (.bool (rs v).mark):=⟨j0,j1,j2,j3⟩;clear hq hqs z0 z1 z2 z3 y0 y1 y2 y3 hsz k0 k1 k2 k3;go_wp2_with fail
 go_region_with (first
  | (go_at_call 110;refine(hop_between b B F (p 1) (p 4) (l 1) (l 4) (c 1) (c 4) g x r v _ HSd.out.ready HSd.out.fit HSd.out.hB Om Om).mono ?_;rintro e3 w3 ⟨rfl,V,F3,hm3,hg3⟩;have HM3:=hid hm3;have HG3:=hid hg3;obtain⟨i0,i1,i2,i3⟩:=HCell.out _ hg3;clear hm3 hg3)
  | (go_at_call 111;refine(HTk.out _ _ _ HM3.out).mono ?_;rintro e4 w4 ⟨rfl,hb4⟩;have HS4:=hid ((HSd.out.step HG3.out (.inr ⟨_,_,HM3.out⟩)).below hb4);have HW4:=hid (grown_trans (grown_trans HWd.out HG3.out) (grown_of_below hb4 _));obtain⟨⟨z0,z1,z2,z3,y0,y1,y2,y3⟩,hsz,hrt4⟩:=HBox.out _ HW4.out;clear hb4 hrt4))
 all_goals
  go_wp2;refine bodyPost_ret (v:=.tuple #[.agg #[.int .i64 qv,.int .i64 qp,.int .i64 ql,.bool qm],.bool qs]) (by rw[results_cell_tmp rfl];go_simp) rfl ?_;exact⟨by rw[HQ.out.1,HQ.out.2];rfl,HEnd.out _ _ _ _ _ HS4.out HW4.out⟩
end Go.Proofs.YtcnoemjeijjnjaaGreat.sceneBy
