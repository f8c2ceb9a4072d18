import Derived.Test.YtcnoemjeijjnjaaGreatPart7
set_option linter.unusedVariables false
namespace Go.Proofs.YtcnoemjeijjnjaaGreat.hopBetween
open Go.RowKit Go.Deep Go base netSem routeRow nbSem candSem hopSem intsOwn hopMake hopOnce
structure Fit (b : Nat) (F : Nat→Value) (w : World) (p1 p4 : Option Addr) (l1 l4 c1 c4 : Nat) (g x : R) : Prop where
 f1:F 1=.slice p1 l1 c1
 f4:F 4=.slice p4 l4 c4
 links:Row 3 w p1 l1 g
 imports:Row 5 w p4 l4 x
 gi:∀i,i<l1→0≤g i 0∧g i 0<4∧0≤g i 1∧g i 1<4∧g i 0≠g i 1
 xi:∀i,i<l4→0≤x i 0∧x i 0<4∧0≤x i 1∧x i 1<4
 few:l4≤12
 n1:∀a o,0<l1→p1=some ⟨a,o,none⟩→a≠b
 n4:∀a o,0<l4→p4=some ⟨a,o,none⟩→a≠b
structure Made (b B : Nat) (F F' : Nat→Value) (w : World) (l1 l4 : Nat) (g x : R) (V : Nat→Nat→Value) : Prop where
 row:w.rowIs b 79 57 F'
 net:∀o,o<6→F' o=F o
 done:F' 6=.int .u32 1
 hops:Hf F' (fun p q=>lkT g p q l1) (fun p q=>ckT g p q l1) V
 own:∀p q,p<4→q<4→OwnImp B w (V p q) x (jsT x p q l4)
theorem row_off {m:Nat} {w:World} {p:Option Addr} {l b o:Nat} {g:R} {v:Value} (h:Row m w p l g) (hn:∀a o,0<l→p=some ⟨a,o,none⟩→a≠b):Row m (w.setCell ⟨b,o,none⟩ v) p l g :=
 ⟨h.most,fun i hi=>by
  obtain⟨a,off,e,hc⟩:=h.cell i hi
  exact⟨a,off,e,fun j hj=>(World.cell?_of_block (a:=⟨a,off+i*m+j,none⟩) (Below.heap_setCell _ _ _ _ (by dsimp only;exact hn a off Om e))).trans (hc j hj)⟩⟩
set_option maxRecDepth 100000 in
set_option maxHeartbeats 3200000 in
theorem slow_hops (b:Nat) (F:Nat→Value) (p1 p4:Option Addr) (l1 l4 c1 c4:Nat) (g x:R) (w:World) (hr:w.rowIs b 79 57 F) (hf:Fit b F w p1 p4 l1 l4 c1 c4 g x)
  (hz:Hf F (fun _ _=>0) (fun _ _=>0) (fun _ _=>.slice none 0 0)) (h6:F 6=.int .u32 0) (h7:F 7=.int .i32 0) :
  Calls Tryz.prog 155 #[.pointer (some ⟨b,6,none⟩),.func (.func 135) #[.pointer (some ⟨b,0,none⟩)] #[]] w fun e w'=>e=.returned (.tuple #[])∧∃V F',Made b w.heap.size F F' w' l1 l4 g x V∧w.grownBy w' (some b):=by
 have c6:w.cell? ⟨b,6,none⟩=some (.int .u32 0):=by rw[hr.cell (i:=6) Om,h6]
 have c7:w.cell? ⟨b,7,none⟩=some (.int .i32 0):=by rw[hr.cell (i:=7) Om,h7]
 have z7:=hr.frozen 7;have hbw:=hr.lt;have r1:=hr.set 7 (.int .i32 1)
 have HM:=hid (make_hops b p1 p4 l1 l4 c1 c4 g x _ _ r1 (by rw[if_neg Om];exact hf.f1) (by rw[if_neg Om];exact hf.f4) (row_off hf.links hf.n1) (row_off hf.imports hf.n4)
  (fun p q hp hq=>by
   have h:=hz p q hp hq;unfold hopO at h ⊢;dsimp only;rw[if_neg Om,if_neg Om,if_neg Om]
   exact h) hf.gi hf.xi hf.few hf.n1 hf.n4)
 have hl:=run_call_load (P:=Tryz.prog) Tryz.func158 Kr Kr Kr .u32 Kr (w:=w.setCell ⟨b,7,none⟩ (.int .i32 1)) (a:=⟨b,6,none⟩) (x:=0) ((World.cell?_setCell_other _ ⟨b,7,none⟩ ⟨b,6,none⟩ _ (by simp)).trans c6);have hnot:∀(x:Bool) (w:World),(Op.unary .not (.bool x)).run Tryz.prog w=.ok (.bool (!x)) w:=fun _ _=>rfl;have HR:=hid hr;have HF:=hid hf;have H6:=hid h6;have HG1:Hid (w.grownBy (w.setCell ⟨b,7,none⟩ (.int .i32 1)) (some b)):=hid (grown_set (grown_refl _ _));have hs1:(w.setCell ⟨b,7,none⟩ (.int .i32 1)).heap.size=w.heap.size:=by simp[World.setCell]
 have HS1:=hid hs1;clear hr hf hz h6 h7 r1 hs1;go_enter_defers Tryz.func155,Tryz.ntmps155;go_wp2_with (first|(go_at_call 159;refine(lock_free ⟨b,7,none⟩ _ (by go_simp) (by go_simp)).mono ?_;rintro e w' ⟨rfl,rfl⟩)|(go_at_call 135;refine HM.out.mono ?_;rintro e w2 ⟨rfl,V,F2,hr2,hF2,hh2,ho2,hg2⟩)|(go_at_call 154;go_in));have f6:F2 6=.int .u32 0:=by rw[hF2 6 Om,if_neg Om];exact H6.out
 have f7:F2 7=.int .i32 1:=by rw[hF2 7 Om,if_pos rfl]
 refine leaves_cons (f:=161) (args:=#[.pointer (some ⟨b,6,none⟩),.bool true]) (by simp) (by simp[go_sem]) ?_;refine(store_deferred ⟨b,6,none⟩ (.int .u32 0) .returning _ (by rw[hr2.cell (i:=6) Om,f6]) (hr2.frozen 6)).mono ?_;rintro e u' w'' ⟨rfl,rfl,rfl⟩;have r3:=(show w2.drew.rowIs b 79 57 F2 from hr2).set 6 (.int .u32 1);refine leaves_cons (f:=160) (args:=#[.pointer (some ⟨b,7,none⟩)]) (by simp[settle]) (by simp[go_sem]) ?_;refine(unlock_deferred ⟨b,7,none⟩ _ _ (by rw[r3.cell (i:=7) Om,if_neg Om,f7]) (r3.frozen 7)).mono ?_;rintro e u' w'' ⟨rfl,rfl,rfl⟩;have r4:=r3.set 7 (.int .i32 0)
 have hres:∃V' F',Made b w.heap.size F F' ((w2.drew.setCell ⟨b,6,none⟩ (.int .u32 1)).setCell ⟨b,7,none⟩ (.int .i32 0)) l1 l4 g x V'∧w.grownBy ((w2.drew.setCell ⟨b,6,none⟩ (.int .u32 1)).setCell ⟨b,7,none⟩ (.int .i32 0)) (some b):=by
  refine⟨V,_,⟨r4,fun o ho=>?_,?_,fun p q hp hq=>?_,fun p q hp hq=>?_⟩,grown_set (grown_set (show w.grownBy w2.drew (some b) from ?_))⟩
  · rw[if_neg Om,if_neg Om,hF2 o Om,if_neg Om]
  · rw[if_neg Om,if_pos rfl]
  · have h:=hh2 p q hp hq;unfold hopO at h ⊢;dsimp only;rw[if_neg Om,if_neg Om,if_neg Om,if_neg Om,if_neg Om,if_neg Om];exact h
  · have h:=ho2 p q hp hq;rw[HS1.out]at h
    exact own_keep h fun q' hq'=>by
     have:=(World.ownsRow.lt h q' hq').1;rw[Below.heap_setCell _ _ _ _ (by dsimp only;omega),Below.heap_setCell _ _ _ _ (by dsimp only;omega)];rfl
  have h:=grown_trans HG1.out hg2;exact⟨h.os,h.tape,h.output,h.size,h.block⟩
 simp[Leaves,settle,results,Tryz.results155];obtain⟨V',F',k1,k2⟩:=hres
 first
  | exact⟨⟨V',F',k1⟩,k2⟩
  | exact⟨V',F',k1,k2⟩
theorem do_hops (b:Nat) (F:Nat→Value) (p1 p4:Option Addr) (l1 l4 c1 c4:Nat) (g x:R) (w:World) (hr:w.rowIs b 79 57 F) (hf:Fit b F w p1 p4 l1 l4 c1 c4 g x)
  (hz:Hf F (fun _ _=>0) (fun _ _=>0) (fun _ _=>.slice none 0 0)) (h6:F 6=.int .u32 0) (h7:F 7=.int .i32 0) :
  Calls Tryz.prog 134 #[.pointer (some ⟨b,6,none⟩),.func (.func 135) #[.pointer (some ⟨b,0,none⟩)] #[]] w fun e w'=>e=.returned (.tuple #[])∧∃V F',Made b w.heap.size F F' w' l1 l4 g x V∧w.grownBy w' (some b):=by
 have c6:w.cell? ⟨b,6,none⟩=some (.int .u32 0):=by rw[hr.cell (i:=6) Om,h6]
 have hl:=run_call_load (P:=Tryz.prog) Tryz.func158 Kr Kr Kr .u32 Kr c6;have hnot:∀(x:Bool) (w:World),(Op.unary .not (.bool x)).run Tryz.prog w=.ok (.bool (!x)) w:=fun _ _=>rfl;have HS:=hid (slow_hops b F p1 p4 l1 l4 c1 c4 g x w hr hf hz h6 h7);clear hr hf hz h6 h7;go_enter Tryz.func134,Tryz.ntmps134;go_wp2_with (first|(go_at_call 155;refine HS.out.mono ?_;rintro e w' ⟨rfl,hres⟩)|(go_at_call 154;go_in));go_end0;exact⟨rfl,hres⟩
def Ready (b B : Nat) (F : Nat→Value) (w : World) (p1 p4 : Option Addr) (l1 l4 c1 c4 : Nat) (g x : R) : Prop :=
 (w.rowIs b 79 57 F∧Hf F (fun _ _=>0) (fun _ _=>0) (fun _ _=>.slice none 0 0)∧F 6=.int .u32 0∧F 7=.int .i32 0)∨∃V F',Made b B F F' w l1 l4 g x V
theorem made_mono {b B B':Nat} {F F':Nat→Value} {w:World} {l1 l4:Nat} {g x:R} {V:Nat→Nat→Value} (h:Made b B F F' w l1 l4 g x V) (hB:B'≤B):Made b B' F F' w l1 l4 g x V :=
 ⟨h.row,h.net,h.done,h.hops,fun p q hp hq=>by
  obtain⟨h1,h2⟩:=h.own p q hp hq;refine⟨h1,?_⟩;rcases h2 with h|⟨g,cap,cur,e,hb,hr⟩
  · exact .inl h
  exact .inr ⟨g,cap,cur,e,Nat.le_trans hB hb,hr⟩⟩
set_option maxHeartbeats 1600000 in
theorem hop_between (b B:Nat) (F:Nat→Value) (p1 p4:Option Addr) (l1 l4 c1 c4:Nat) (g x:R) (P Q:Nat) (w:World) (hr:Ready b B F w p1 p4 l1 l4 c1 c4 g x) (hf:Fit b F w p1 p4 l1 l4 c1 c4 g x) (hB:B≤w.heap.size) (hP:P<4) (hQ:Q<4) :
  Calls Tryz.prog 110 #[.pointer (some ⟨b,0,none⟩),.int .i64 (P:Int),.int .i64 (Q:Int)] w fun e w'=>e=.returned (.pointer (some ⟨b,hopO P Q,none⟩))∧∃V F',Made b B F F' w' l1 l4 g x V∧w.grownBy w' (some b):=by
 have hmf:∀(fn:Fn) (first cap:Array Value) (w:World),(Instr.makeFunc fn first cap).run Tryz.prog w=.ok (.func fn first cap) w:=fun _ _ _ _=>rfl;have hPi:(P:Int)<4:=by omega
 have hQi:(Q:Int)<4:=by omega
 have HD:Hid (Calls Tryz.prog 134 #[.pointer (some ⟨b,6,none⟩),.func (.func 135) #[.pointer (some ⟨b,0,none⟩)] #[]] w fun e w'=>e=.returned (.tuple #[])∧∃V F',Made b B F F' w' l1 l4 g x V∧w.grownBy w' (some b)):=hid (by
  rcases hr with ⟨h1,h2,h3,h4⟩|⟨V,F',hm⟩
  · refine(do_hops b F p1 p4 l1 l4 c1 c4 g x w h1 hf h2 h3 h4).mono ?_;rintro e w' ⟨rfl,V,F',hm,hg⟩;exact⟨rfl,V,F',made_mono hm hB,hg⟩
  have c6:w.cell? ⟨b,6,none⟩=some (.int .u32 1):=by rw[hm.row.cell (i:=6) Om,hm.done]
  refine(do_done ⟨b,6,none⟩ 1 (by decide) _ w c6).mono ?_;rintro e w' ⟨rfl,rfl⟩
  exact⟨rfl,V,F',hm,grown_refl _ _⟩)
 clear hr hf;unfold hopO;go_enter Tryz.func110,Tryz.ntmps110;go_wp2_with (go_at_call 134;refine HD.out.mono ?_;rintro e w' ⟨rfl,hres⟩);go_ret;exact⟨rfl,hres⟩
end Go.Proofs.YtcnoemjeijjnjaaGreat.hopBetween
namespace Go.Proofs.YtcnoemjeijjnjaaGreat.candWay
open Go.RowKit Go.Deep Go base names netSem netSpec nbSem routeRow candSem
set_option maxHeartbeats 800000 in
theorem has_spec (a:Option Addr) (len cap:Nat) (z:List Int) (v:Int) (w:World) (hr:IntRow w a len z) :
  Calls Tryz.prog 128 #[.slice a len cap,.int .i64 v] w fun e w'=>e=.returned (.int .i64 (hasAt z v))∧w' = w:=by
 obtain⟨hlen,hmost,hcell⟩:=hr;unfold maxLen at hmost;have HC:=hid hcell;have HL:=hid hlen;clear hcell hlen;go_enter Tryz.func128,Tryz.ntmps128;go_wp2;go_loop [5] (fun i=>∃k:Nat,k≤len∧i=.int .i64 k∧∀j,j<k→decide (zAt z j=v)=false) (fun i=>len - (intOf i).toNat)
 case atStart=>exact⟨0,Nat.zero_le _,rfl,fun j hj=>absurd hj (Nat.not_lt_zero _)⟩
 obtain⟨k,hk,rfl,ha⟩:=hrel;have HA:=hid ha;clear ha;by_cases hlt:k<len
 · obtain⟨b0,off,rfl,c0⟩:=HC.out k hlt;have HZ:Hid (zAt z k=z[k]?.getD 0):=hid rfl;generalize z[k]?.getD 0=y at *;obtain⟨p1,e1⟩:∃p,(y==v)=p:=⟨_,rfl⟩
   cases p1 with
   | true =>
    have HQ:=hid (show decide (zAt z k=v)=true by rw[HZ.out];simpa using e1);go_wp2;go_ret;exact⟨ret_int (firstAt_hit (by rw[HL.out];exact hlt) HQ.out HA.out).symm,rfl⟩
   | false =>
    have HQ:=hid (show decide (zAt z k=v)=false by rw[HZ.out];simpa using e1);go_wp2;go_round
    case rel =>
     refine⟨k+1,by omega,by go_num,fun j hj=>?_⟩;by_cases e:j=k
     · subst e;exact HQ.out
     exact HA.out j Om
    case measure=>simp[intOf];omega
 have e:k=len:=by omega
 have HA2:=hid (firstAt_none (p:=fun i=>decide (zAt z i=v)) (n:=z.length) (fun i hi=>HA.out i (by rw[e,←HL.out];exact hi)));subst e;go_wp2;go_ret;exact⟨ret_int HA2.out.symm,rfl⟩
set_option maxHeartbeats 1600000 in
theorem thru_spec (a:Option Addr) (n cap:Nat) (rs:Rs) (fr router:Int) (w:World) (hr:RtRow w a n rs) (hn:n≤4) (hv:∀i,i<n→(rs i).via<n) (hf:0≤fr) (hf2:fr<n) :
  Calls Tryz.prog 141 #[.slice a n cap,.int .i64 fr,.int .i64 router] w fun e w'=>e=.returned (.bool (thru rs router (n+1) fr))∧Below w.heap.size w w' := by
 have HR:=hid hr;have HV:=hid hv;clear hr hv;obtain⟨m0,rfl⟩:∃m:Nat,fr=(m:Int):=⟨fr.toNat,by omega⟩;obtain⟨T,hT⟩:∃T,thru rs router (n+1) (m0:Int)=T:=⟨_,rfl⟩;have HT:=hid hT;rw[hT];clear hT;go_enter Tryz.func141,Tryz.ntmps141;go_wp2;go_loopw [8,7] (fun i v wr=>∃k m:Nat,k≤n+1∧m<n∧i=.int .i64 k∧v=.int .i64 m∧Below w.heap.size w wr∧thru rs router (n+1 - k) (m:Int)=T) (fun i _ _=>n+1 - (intOf i).toNat)
 case atStart=>exact⟨0,m0,Nat.zero_le _,by omega,rfl,rfl,Bl,HT.out⟩
 obtain⟨k,m,hk,hm,rfl,rfl,hb,ht⟩:=hrel;have HB:=hid hb;have HU:=hid ht;clear hb ht HT;by_cases hlt:k≤n
 · have HU2 : Hid ((if (m : Int) = router then true else if (m : Int) < 0 then false else if (rs m).via < 0 then false else thru rs router (n - k) (rs m).via) = T) := hid (by
    have h:=HU.out;rw[show n+1 - k=n - k+1 from by omega]at h
    exact h)
   have HVm:=hid (HV.out m hm);obtain⟨b0,off,rfl,c0,c1,c2,c3⟩:=HR.out.at4 hm
   replace c0:=keep HB.out c0
   replace c1:=keep HB.out c1
   replace c2:=keep HB.out c2
   replace c3:=keep HB.out c3
   generalize (rs m).via=y at *;generalize (rs m).pref=y1 at *;generalize (rs m).len=y2 at *;generalize (rs m).mark=y3 at *;clear HU;by_cases h1:(m:Int)=router
   · have e1:((m:Int)==router)=true:=by simp[h1]
     have HT2:=HU2.out;rw[if_pos h1]at HT2;subst HT2;clear h1 HU2;go_wp2;go_ret;exact⟨rfl,Bl⟩
   have e1:((m:Int)==router)=false:=by simp[h1]
   have e2:decide ((m:Int)<0)=false:=decide_eq_false Om;have HU3:=HU2.out;rw[if_neg h1,if_neg Om]at HU3;clear h1 HU2;by_cases h2:y<0
   · have e3:decide (y<0)=true:=decide_eq_true h2;rw[if_pos h2]at HU3;subst HU3;clear h2;go_wp2;go_ret;exact⟨rfl,HB.out.trans (by first|exact Below.refl _ _|exact Bl)⟩
   have e3:decide (y<0)=false:=decide_eq_false h2;rw[if_neg h2]at HU3;have HU4:=hid HU3;clear HU3;obtain⟨m1,rfl⟩:∃q:Nat,y=(q:Int):=⟨y.toNat,by omega⟩;clear h2;go_wp2;go_roundw
   case rel=>exact⟨k+1,m1,by omega,by have:=HVm.out;omega,by go_num,rfl,Bl,by rw[show n+1 - (k+1)=n - k from by omega];exact HU4.out⟩
   case measure=>simp[intOf];omega
 have e:k=n+1:=by omega
 subst e;have HT2:=HU.out;rw[Nat.sub_self]at HT2;have HT3:true=T:=HT2;subst HT3;have e1:decide (((n+1:Nat):Int)≤(n:Int))=false:=decide_eq_false Om;clear HT2 HU hlt;go_wp2;go_ret;exact⟨rfl,HB.out⟩
end Go.Proofs.YtcnoemjeijjnjaaGreat.candWay
