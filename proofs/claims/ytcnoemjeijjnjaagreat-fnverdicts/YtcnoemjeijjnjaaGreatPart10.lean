import Derived.Test.YtcnoemjeijjnjaaGreatCandImp
import Derived.Laws.ResultCell
set_option linter.unusedVariables false
namespace Go.Proofs.YtcnoemjeijjnjaaGreat.sceneSem
open Go.RowKit Go.Deep Go base netSem routeRow nbSem candSem candImp hopSem intsOwn hopMake hopBetween
structure Sc (sb b B : Nat) (F : Nat→Value) (p : Nat→Option Addr) (l c : Nat→Nat) (g : R) (o e : List Int) (x : R) (ea da : Option Addr) (el ec dl dc : Nat) (env : List Int) (ds : List Bool) (w : World) : Prop where
 s0:w.cell? ⟨sb,0,none⟩=some (.pointer (some ⟨b,0,none⟩))
 s1:w.cell? ⟨sb,1,none⟩=some (.slice ea el ec)
 s2:w.cell? ⟨sb,2,none⟩=some (.slice da dl dc)
 ready:Ready b B F w (p 1) (p 4) (l 1) (l 4) (c 1) (c 4) g x
 fit:Fit b F w (p 1) (p 4) (l 1) (l 4) (c 1) (c 4) g x
 f2:F 2=.slice (p 2) (l 2) (c 2)
 f3:F 3=.slice (p 3) (l 3) (c 3)
 orig:IntRow w (p 2) (l 2) o
 exts:IntRow w (p 3) (l 3) e
 envs:IntRow w ea el env
 downs:BoolRow w da dl ds
 ns:sb≠b
 n2:∀a o,0<l 2→p 2=some ⟨a,o,none⟩→a≠b
 n3:∀a o,0<l 3→p 3=some ⟨a,o,none⟩→a≠b
 ne:∀a o,0<el→ea=some ⟨a,o,none⟩→a≠b
 nd:∀a o,0<dl→da=some ⟨a,o,none⟩→a≠b
 hB:B≤w.heap.size
 le:el=l 3
 ld:dl=l 1
variable {sb b B : Nat} {F : Nat→Value} {p : Nat→Option Addr} {l c : Nat→Nat} {g : R} {o e : List Int} {x : R} {ea da : Option Addr} {el ec dl dc : Nat} {env : List Int} {ds : List Bool} {w w' : World}
theorem rowOff {m n:Nat} {a:Option Addr} {g:R} (h:Row m w a n g) (hk:∀q o v,q≠b→w.cell? ⟨q,o,none⟩=some v→w'.cell? ⟨q,o,none⟩=some v) (hn:∀q o,0<n→a=some ⟨q,o,none⟩→q≠b):Row m w' a n g :=
 ⟨h.most,fun i hi=>by
  obtain⟨q,off,e,hc⟩:=h.cell i hi
  exact⟨q,off,e,fun j hj=>hk _ _ _ (hn q off Om e) (hc j hj)⟩⟩
theorem intOff {n:Nat} {a:Option Addr} {z:List Int} (h:IntRow w a n z) (hk:∀q o v,q≠b→w.cell? ⟨q,o,none⟩=some v→w'.cell? ⟨q,o,none⟩=some v) (hn:∀q o,0<n→a=some ⟨q,o,none⟩→q≠b):IntRow w' a n z :=
 ⟨h.length,h.most,fun i hi=>by
  obtain⟨q,off,e,hc⟩:=h.cell i hi
  exact⟨q,off,e,hk _ _ _ (hn q off Om e) hc⟩⟩
theorem boolOff {n:Nat} {a:Option Addr} {z:List Bool} (h:BoolRow w a n z) (hk:∀q o v,q≠b→w.cell? ⟨q,o,none⟩=some v→w'.cell? ⟨q,o,none⟩=some v) (hn:∀q o,0<n→a=some ⟨q,o,none⟩→q≠b):BoolRow w' a n z :=
 ⟨h.length,h.most,fun i hi=>by
  obtain⟨q,off,e,hc⟩:=h.cell i hi
  exact⟨q,off,e,hk _ _ _ (hn q off Om e) hc⟩⟩
theorem grown_cell (hg:w.grownBy w' (some b)) (q o:Nat) (v:Value) (hq:q≠b) (hc:w.cell? ⟨q,o,none⟩=some v):w'.cell? ⟨q,o,none⟩=some v :=
 (World.cell?_of_block (a:=⟨q,o,none⟩) (hg.block q (World.block_lt_of_cell? _ _ hc) (fun e=>hq (by injection e)))).trans hc
theorem Sc.step (h:Sc sb b B F p l c g o e x ea da el ec dl dc env ds w) (hg:w.grownBy w' (some b)) (hr:Ready b B F w' (p 1) (p 4) (l 1) (l 4) (c 1) (c 4) g x):Sc sb b B F p l c g o e x ea da el ec dl dc env ds w' := by
 have k:=fun q o v hq hc=>grown_cell (b:=b) hg q o v hq hc;exact⟨k _ _ _ h.ns h.s0,k _ _ _ h.ns h.s1,k _ _ _ h.ns h.s2,hr,⟨h.fit.f1,h.fit.f4,rowOff h.fit.links k h.fit.n1,rowOff h.fit.imports k h.fit.n4,h.fit.gi,h.fit.xi,h.fit.few,h.fit.n1,h.fit.n4⟩,h.f2,h.f3,intOff h.orig k h.n2,intOff h.exts k h.n3,intOff h.envs k h.ne,boolOff h.downs k h.nd,h.ns,h.n2,h.n3,h.ne,h.nd,Nat.le_trans h.hB hg.size,h.le,h.ld⟩
theorem Ready.below (h:Ready b B F w (p 1) (p 4) (l 1) (l 4) (c 1) (c 4) g x) (hb:Below w.heap.size w w'):Ready b B F w' (p 1) (p 4) (l 1) (l 4) (c 1) (c 4) g x:=by
 rcases h with ⟨h1,h2,h3,h4⟩|⟨V,F',hm⟩
 · exact .inl ⟨h1.of_block (hb.block _ h1.lt),h2,h3,h4⟩
 exact .inr ⟨V,F',hm.row.of_block (hb.block _ hm.row.lt),hm.net,hm.done,hm.hops,fun p q hp hq=>own_keep (hm.own p q hp hq) fun g hg=>hb.block g (World.ownsRow.lt (hm.own p q hp hq) g hg).2⟩
theorem grown_of_below (hb:Below w.heap.size w w') (row:Option Nat):w.grownBy w' row:=⟨hb.os,hb.tape,hb.output,hb.size,fun j hj _=>hb.block j hj⟩
theorem Sc.below (h:Sc sb b B F p l c g o e x ea da el ec dl dc env ds w) (hb:Below w.heap.size w w'):Sc sb b B F p l c g o e x ea da el ec dl dc env ds w' := h.step (grown_of_below hb _) (Ready.below h.ready hb)
theorem Sc.net (h:Sc sb b B F p l c g o e x ea da el ec dl dc env ds w) (i:Nat) (hi:i<6):w.cell? ⟨b,i,none⟩=some (F i):=by
 rcases h.ready with ⟨h1,_⟩|⟨V,F',hm⟩
 · exact h1.cell (i:=i) Om
 rw[hm.row.cell (i:=i) Om,hm.net i hi]
def annA (e env : List Int) (router : Int) : Int := if 0≤hasAt e router then zAt env (hasAt e router).toNat else 0
def openB (g : R) (nl : Nat) (o e env : List Int) (ds : List Bool) (router via : Int) : Bool :=
 if via = -3 then true else if via = -2 then decide (0≤hasAt o router) else if via = -1 then (annA e env router != 0) else nbB g nl ds router via.toNat
def byVia (g : R) (nl : Nat) (o e : List Int) (x : R) (nx : Nat) (env : List Int) (ds : List Bool) (rs : Rs) (n : Nat) (router via : Int) : Option Rt :=
 if openB g nl o e env ds router via=false then none else if via = -3 then some noRt else if via = -2 then some ⟨-2,200,0,false⟩ else if via = -1 then some ⟨-1,100,2,annA e env router==2⟩
 else if (rs via.toNat).via = -3∨thru rs router n via=true then none else impR g nl x nx router via (rs via.toNat)
set_option maxHeartbeats 800000 in
theorem index_int (a:Option Addr) (len cap:Nat) (z:List Int) (v:Int) (w:World) (hr:IntRow w a len z) :
  Calls Tryz.prog 115 #[.slice a len cap,.int .i64 v] w fun e w'=>e=.returned (.int .i64 (hasAt z v))∧w' = w:=by
 have hmost:=hr.most;unfold maxLen at hmost;have hlen:=hr.length;unfold hasAt;rw[hlen];have HC:=hid hr.cell;clear hr hlen;go_enter Tryz.func115,Tryz.ntmps115;go_wp2;go_loop [8] (fun i=>∃k:Nat,k≤len∧i=.int .i64 k∧∀j,j<k→decide (zAt z j=v)=false) (fun i=>len - (intOf i).toNat)
 case atStart=>exact⟨0,Nat.zero_le _,rfl,fun j hj=>absurd hj (Nat.not_lt_zero _)⟩
 obtain⟨k,hk,rfl,ha⟩:=hrel;have HA:=hid ha;clear ha;by_cases hlt:k<len
 · obtain⟨b,off,rfl,hc⟩:=HC.out k hlt;have HQ:Hid (zAt z k=z[k]?.getD 0):=hid rfl;generalize z[k]?.getD 0=y at *;by_cases he:y=v
   · have hq:(v==y)=true:=by simp[he]
     have HE:=hid (show decide (zAt z k=v)=true from decide_eq_true (by rw[HQ.out];exact he));clear he;go_wp2;go_ret;exact⟨ret_int (firstAt_hit hlt HE.out HA.out).symm,rfl⟩
   have hq:(v==y)=false:=beq_eq_false_iff_ne.2 fun h=>he h.symm;have HE:=hid (show decide (zAt z k=v)=false from decide_eq_false (by rw[HQ.out];exact he));clear he;go_wp2;go_round
   case rel =>
    refine⟨k+1,by omega,by go_num,fun j hj=>?_⟩;by_cases e:j=k
    · subst e;exact HE.out
    exact HA.out j Om
   case measure=>simp[intOf];omega
 have e:k=len:=by omega
 subst e;go_wp2;go_ret;exact⟨ret_int (firstAt_none HA.out).symm,rfl⟩
theorem contains_int (a:Option Addr) (len cap:Nat) (z:List Int) (v:Int) (w:World) (hr:IntRow w a len z) :
  Calls Tryz.prog 70 #[.slice a len cap,.int .i64 v] w fun e w'=>e=.returned (.bool (decide (0≤hasAt z v)))∧w' = w:=by
 have HR:=hid hr;clear hr;go_enter Tryz.func70,Tryz.ntmps70;go_wp2_with fail;refine(index_int a len cap z v _ HR.out).mono ?_;rintro e w' ⟨rfl,hw⟩;have hw:=hw.symm;subst hw;go_wp2;go_ret;exact⟨rfl,rfl⟩
set_option maxHeartbeats 1600000 in
theorem ann_impl (sb b B:Nat) (F:Nat→Value) (p:Nat→Option Addr) (l c:Nat→Nat) (g:R) (o e:List Int) (x:R) (ea da:Option Addr) (el ec dl dc:Nat) (env:List Int) (ds:List Bool) (router:Int) (w:World) (h:Sc sb b B F p l c g o e x ea da el ec dl dc env ds w) :
  Calls Tryz.prog 108 #[.pointer (some ⟨sb,0,none⟩),.int .i64 router] w fun e' w'=>e' = .returned (.int .i64 (annA e env router))∧Below w.heap.size w w' := by
 have s0:=h.s0;have s1:=h.s1;have q3:=h.net 3 Om;rw[h.f3]at q3;have HS:=hid h;have hexl:=h.exts.length;have hev:=h.envs.length;have hle:=h.le;have HB:=hid (firstAt_bounds (fun i=>decide (zAt e i=router)) e.length);obtain⟨A,hA⟩:∃A,annA e env router=A:=⟨_,rfl⟩;have HA:=hid hA;rw[hA];clear hA;unfold annA at HA;obtain⟨L,hL⟩:∃L,hasAt e router=L:=⟨_,rfl⟩;have HL:=hid hL;have hLL:firstAt (fun i=>decide (zAt e i=router)) e.length=L:=hL;rw[hLL]at HB;rw[hL]at HA;clear hL hLL h;have HEx:=hid HS.out.exts;have HEv:=hid HS.out.envs;have HN:=hid (And.intro hexl (And.intro hev hle));clear hexl hev hle;go_enter Tryz.func108,Tryz.ntmps108;go_wp2_with fail;refine(index_int _ _ _ e router _ HEx.out).mono ?_;rintro e' w1 ⟨rfl,hw⟩;have hw:=hw.symm;subst hw;rw[HL.out];by_cases h0:0≤L
 · obtain⟨m,rfl⟩:∃m:Nat,L=(m:Int):=⟨L.toNat,by omega⟩;have hm:m<el:=by have:=HB.out;have:=HN.out;omega
   obtain⟨eb,eo,hea,hc⟩:=HEv.out.cell m hm;have hA2:env[m]?.getD 0=A:=by rw[←HA.out,if_pos h0,Int.toNat_natCast];rfl
   rw[hA2]at hc;subst hea;have g0:decide ((0:Int)≤(m:Int))=true:=decide_eq_true Om;have hmi:(m:Int)<(el:Int):=by omega
   clear h0 hA2;go_wp2;go_ret;exact⟨rfl,Below.refl _ _⟩
 have g0:decide ((0:Int)≤L)=false:=decide_eq_false h0;have hA2:A=0:=by rw[←HA.out,if_neg h0]
 subst hA2;clear h0;go_wp2;go_ret;exact⟨rfl,Below.refl _ _⟩
end Go.Proofs.YtcnoemjeijjnjaaGreat.sceneSem
namespace Go.Proofs.YtcnoemjeijjnjaaGreat.sceneOpen
open Go.RowKit Go.Deep Go base netSem routeRow nbSem candSem candImp hopSem intsOwn hopMake hopBetween sceneSem
set_option maxHeartbeats 3200000 in
theorem open_impl (sb b B:Nat) (F:Nat→Value) (p:Nat→Option Addr) (l c:Nat→Nat) (g:R) (o e:List Int) (x:R) (ea da:Option Addr) (el ec dl dc:Nat) (env:List Int) (ds:List Bool) (n r:Nat) (via:Int) (w:World) (h:Sc sb b B F p l c g o e x ea da el ec dl dc env ds w) (hu:∀i,i<l 1→linkAt g i (g i 0) (g i 1)<0) (hn:n≤4) (hr:r<n) (hv0 : -3≤via) (hv1:via<n) :
  Calls Tryz.prog 107 #[.pointer (some ⟨sb,0,none⟩),.int .i64 (r:Int),.int .i64 via] w fun e' w'=>e' = .returned (.bool (openB g (l 1) o e env ds r via))∧Sc sb b B F p l c g o e x ea da el ec dl dc env ds w'∧w.grownBy w' (some b):=by
 have HS:=hid h;have HU:=hid hu;obtain⟨D,hD⟩:∃D,openB g (l 1) o e env ds r via=D:=⟨_,rfl⟩;have HD:=hid hD;rw[hD];clear hD h hu;unfold openB at HD;by_cases h3:via = -3
 · subst h3;rw[if_pos rfl]at HD;have hD:=HD.out.symm;subst hD;go_enter Tryz.func107,Tryz.ntmps107;go_wp2;go_ret;exact⟨rfl,HS.out,grown_refl _ _⟩
 rw[if_neg h3]at HD;have e3:(via==-3)=false:=by simp[h3]
 by_cases h2:via = -2
 · subst h2;rw[if_pos rfl]at HD;have s0:=HS.out.s0;have q2:=HS.out.net 2 Om;rw[HS.out.f2]at q2;have HO:=hid HS.out.orig;clear e3 h3;go_enter Tryz.func107,Tryz.ntmps107;go_wp2_with fail;refine(contains_int _ _ _ o r _ HO.out).mono ?_;rintro e' w1 ⟨rfl,hw⟩;have hw:=hw.symm;subst hw;rw[HD.out];go_wp2;go_ret;exact⟨rfl,HS.out,grown_refl _ _⟩
 rw[if_neg h2]at HD;have e2:(via==-2)=false:=by simp[h2]
 by_cases h1:via = -1
 · subst h1;rw[if_pos rfl]at HD;clear e3 e2 h3 h2;go_enter Tryz.func107,Tryz.ntmps107;go_wp2_with fail;refine(ann_impl sb b B F p l c g o e x ea da el ec dl dc env ds r _ HS.out).mono ?_;rintro e' w1 ⟨rfl,hb1⟩;have HS1:=hid (HS.out.below hb1);have HG1:=hid (grown_of_below hb1 (some b));clear hb1;obtain⟨A,hA⟩:∃A,annA e env (r:Int)=A:=⟨_,rfl⟩;rw[hA]at HD ⊢;clear hA;have hq:=HD.out;go_wp2;go_ret;exact⟨by first|rfl|(rw[←HD.out]),HS1.out,HG1.out⟩
 rw[if_neg h1]at HD;have e1:(via==-1)=false:=by simp[h1]
 obtain⟨v,rfl⟩:∃v:Nat,via=(v:Int):=⟨via.toNat,by omega⟩;rw[Int.toNat_natCast]at HD;have hv4:v<4:=by omega
 have hr4:r<4:=by omega
 have HF:=hid HS.out.fit;have s0:=HS.out.s0;clear h1 h2 h3;go_enter Tryz.func107,Tryz.ntmps107;go_wp2_with fail;refine(hop_between b B F (p 1) (p 4) (l 1) (l 4) (c 1) (c 4) g x r v _ HS.out.ready HF.out HS.out.hB hr4 hv4).mono ?_;rintro e' w1 ⟨rfl,V,F',hm,hg1⟩;have HS1:=hid (HS.out.step hg1 (.inr ⟨V,F',hm⟩));have HG1:=hid hg1;have hlk:=(lk_first (g:=g) (p:=(r:Int)) (q:=(v:Int)) (l 1) HU.out).1
 have hc0:w1.cell? ⟨b,hopO r v,none⟩=some (.int .i64 (linkAt g (l 1) (r:Int) (v:Int))):=by
  rw[hm.row.cell (i:=hopO r v) (by unfold hopO;omega),(hm.hops r v hr4 hv4).1,←hlk]
 have s2:=HS1.out.s2;clear hg1 hm hlk s0;have HLB:=hid (firstAt_bounds (hit g (r:Int) (v:Int)) (l 1));unfold nbB at HD;obtain⟨L,hL⟩:∃L,linkAt g (l 1) (r:Int) (v:Int)=L:=⟨_,rfl⟩;have hLL:firstAt (hit g (r:Int) (v:Int)) (l 1)=L:=hL;rw[hLL]at HLB;rw[hL]at HD hc0;clear hL hLL;have hld:=HS1.out.ld;have HLD:=hid hld;have HDn:=hid HS1.out.downs;clear hld;generalize hopO r v=ho at *;by_cases h0:0≤L
 · obtain⟨m,rfl⟩:∃m:Nat,L=(m:Int):=⟨L.toNat,by omega⟩;have hm:m<dl:=by have:=HLB.out;have:=HLD.out;omega
   obtain⟨db,dof,hda,hc⟩:=HDn.out.cell m hm;rw[Int.toNat_natCast]at HD;generalize ds[m]?.getD false=dv at *;have hD2:(!dv)=D:=by rw[←HD.out,decide_eq_true h0];rfl
   have HD2:=hid hD2;subst hda;have g0:((m:Int) != -1)=true:=by first|(simp;done)|(simp;omega)
   have hmi:(m:Int)<(dl:Int):=by omega
   clear h0 hD2;go_wp2;go_ret;exact⟨ret_bool HD2.out,HS1.out,HG1.out⟩
 have hL1:L = -1:=by have:=HLB.out;omega
 subst hL1;have hD2:D=false:=by rw[←HD.out];rfl
 subst hD2;clear h0;go_wp2;go_ret;exact⟨rfl,HS1.out,HG1.out⟩
end Go.Proofs.YtcnoemjeijjnjaaGreat.sceneOpen
namespace Go.Proofs.YtcnoemjeijjnjaaGreat.candTake
open Go.RowKit Go.Deep Go base drawn netSem routeRow candSem candImp
set_option maxHeartbeats 3200000 in
set_option maxRecDepth 8000 in
theorem take_impl (H off ny ic:Nat) (ia:Option Addr) (y:R) (cost router fr:Int) (r:Rt) (w:World) (h1:w.cell? ⟨H,off+1,none⟩=some (.int .i64 cost)) (h2:w.cell? ⟨H,off+2,none⟩=some (.slice ia ny ic)) (hy:Row 5 w ia ny y) (hp:∀i,i<ny→y i 0=router∧y i 1=fr∧1≤y i 3∧y i 3≤4)
  (hc:0≤cost∧cost≤100) (h0:0≤r.len∧r.len≤20000) :
  Calls Tryz.prog 111 #[.pointer (some ⟨H,off,none⟩),.int .i64 fr,rtV r] w fun e' w'=>e' = .returned (.tuple #[rtV ((impK y router fr (startI fr cost r) ny).getD zRt),.bool (impK y router fr (startI fr cost r) ny).isSome])∧Below w.heap.size w w' := by
 have HY:=hid hy;have HP:=hid hp;have my:=hy.most;unfold maxLen at my;have HH1:=hid h1;have HH2:=hid h2;have hH:=World.block_lt_of_cell? _ _ h1;simp only at hH;clear hy hp;obtain⟨via,pref,len,mark⟩:=r;simp only[startI];simp only at h0;simp only[rtV];obtain⟨r0,hr0⟩:∃q:Rt,q=⟨fr,100,len+cost,mark⟩:=⟨_,rfl⟩;rw[←hr0];obtain⟨ri,hri⟩:∃q,impK y router fr r0 ny=q:=⟨_,rfl⟩;have HRI:=hid hri;rw[hri];clear hri;have hadd:IntKind.i64.wrap (len+cost)=len+cost:=by rw[IntKind.wrap_i64];omega
 go_enter Tryz.func111,Tryz.ntmps111;go_wp2_with fail
 have HW:Hid (∀w8:World,Below ((w.alloc (.cells #[.int .i64 via,.int .i64 pref,.int .i64 len,.bool mark] 106)).alloc (.cells #[.int .i64 0,.int .i64 0,.int .i64 0,.bool false] 106)).heap.size ((w.alloc (.cells #[.int .i64 via,.int .i64 pref,.int .i64 len,.bool mark] 106)).alloc (.cells #[.int .i64 0,.int .i64 0,.int .i64 0,.bool false] 106)) w8→w8.cell? ⟨w.heap.size,2,none⟩=some (.int .i64 len)∧w8.cell? ⟨w.heap.size,3,none⟩=some (.bool mark)∧w8.cell? ⟨H,off+1,none⟩=some (.int .i64 cost)∧w8.rowIs w.heap.size 106 4 (rc ⟨via,pref,len,mark⟩)):=hid (fun w8 hb=>by
  have hb0:Below w.heap.size w ((w.alloc (.cells #[.int .i64 via,.int .i64 pref,.int .i64 len,.bool mark] 106)).alloc (.cells #[.int .i64 0,.int .i64 0,.int .i64 0,.bool false] 106)):=Bl;have hb8:=hb0.trans (hb.mono hb0.size);have hrow:=row_alloc (ob:=.cells #[.int .i64 0,.int .i64 0,.int .i64 0,.bool false] 106) (row_new w ⟨via,pref,len,mark⟩)
  exact⟨keep hb (by simp[go_sem]),keep hb (by simp[go_sem]),keep hb8 HH1.out,World.rowIs.of_block hrow (hb.block _ (by simp;omega))⟩)
 have hz8:((w.alloc (.cells #[.int .i64 via,.int .i64 pref,.int .i64 len,.bool mark] 106)).alloc (.cells #[.int .i64 0,.int .i64 0,.int .i64 0,.bool false] 106)).heap.size=w.heap.size+2:=by simp
 have V8:Hid (Below w.heap.size w ((w.alloc (.cells #[.int .i64 via,.int .i64 pref,.int .i64 len,.bool mark] 106)).alloc (.cells #[.int .i64 0,.int .i64 0,.int .i64 0,.bool false] 106))):=hid Bl
 have Z8:Hid (((w.alloc (.cells #[.int .i64 via,.int .i64 pref,.int .i64 len,.bool mark] 106)).alloc (.cells #[.int .i64 0,.int .i64 0,.int .i64 0,.bool false] 106)).rowIs (w.heap.size+1) 106 4 (rc zRt)):=hid (by
  have hrow:=row_new (w.alloc (.cells #[.int .i64 via,.int .i64 pref,.int .i64 len,.bool mark] 106)) zRt;rw[World.size_alloc]at hrow
  exact hrow)
 have hz8:=hid hz8;clear h1 h2;generalize ((w.alloc (.cells #[.int .i64 via,.int .i64 pref,.int .i64 len,.bool mark] 106)).alloc (.cells #[.int .i64 0,.int .i64 0,.int .i64 0,.bool false] 106))=W8 at *;refine region_below (fun u=>⟨#[.pointer (some { block:=H,off:=off }),.int .i64 fr,.agg #[.int .i64 via,.int .i64 pref,.int .i64 len,.bool mark],undef,undef,.pointer (some { block:=w.heap.size,off:=0 }),.pointer (some { block:=w.heap.size+1,off:=0 }),.bool false,undef,undef,u 10,u 11,u 12,u 13,u 14,u 15,u 16,u 17,u 18,u 19,u 20,undef,undef,undef,undef,undef,undef,undef,undef,undef,undef,undef,undef,undef,undef,undef,undef,undef,undef,undef,undef,undef,undef,undef,undef,undef,undef,undef,undef,undef,undef,undef,undef,undef,undef,undef,undef,undef,undef,undef,undef,undef,undef,undef,undef],[]⟩) (fun i=>[10,11,12,13,14,15,16,17,18,19,20].getD i 0) (fun i v w8=>match i with|0=>v=.int .i64 fr|1=>v=.pointer (some ⟨w.heap.size,2,none⟩)|2=>v=.int .i64 len|3=>v=.pointer (some ⟨H,off,none⟩)|4=>v=.pointer (some ⟨H,off,none⟩)|5=>v=.pointer (some ⟨H,off+1,none⟩)|6=>v=.int .i64 cost|7=>v=.int .i64 (len+cost)|8=>v=.pointer (some ⟨w.heap.size,3,none⟩)|9=>v=.bool mark|10=>v=.agg #[.int .i64 fr,.int .i64 100,.int .i64 (len+cost),.bool mark]|_=>True) W8 11 (fun k=>match k with|10=>undef|11=>undef|12=>undef|13=>undef|14=>undef|15=>undef|16=>undef|17=>undef|18=>undef|19=>undef|20=>undef|_=>undef) (by rfl) Kr (by rfl) ⟨by kernel_rfl,by kernel_rfl,by kernel_rfl,by decide⟩ Kr Bz ?hput ?hinj ?stable ?step ?last
 case hput =>
  intro i hi u v
  iterate 11 (rcases i with _|i;rfl)
  exact absurd hi Om
 case hinj =>
  intro i j hi hj h;exact slots_inj [10,11,12,13,14,15,16,17,18,19,20] (by decide) hi hj h
 case stable =>
  intro i v w8 w9 hb h
  iterate 11 (rcases i with _|i;exact h)
  trivial
 case step =>
  intro i hi u w8 S8 hdep
  match i,hi with
  | 0,_ =>
   clear hdep;refine⟨_,rfl,fun K' hK=>?_⟩;go_simp;exact hK.out _ _ Bz rfl
  | 1,_ =>
   clear hdep;refine⟨_,rfl,fun K' hK=>?_⟩;go_simp;exact hK.out _ _ Bz rfl
  | 2,_ =>
   have h1:(u 11)=.pointer (some ⟨w.heap.size,2,none⟩):=hdep 1 Kr;clear hdep;refine⟨_,rfl,fun K' hK=>?_⟩;obtain⟨q0,q1,q2,-⟩:=HW.out w8 S8;simp only[h1]at hK ⊢;go_simp;exact hK.out _ _ Bz rfl
  | 3,_ =>
   clear hdep;refine⟨_,rfl,fun K' hK=>?_⟩;go_simp;exact hK.out _ _ Bz rfl
  | 4,_ =>
   have h3:(u 13)=.pointer (some ⟨H,off,none⟩):=hdep 3 Kr;clear hdep;refine⟨_,rfl,fun K' hK=>?_⟩;simp only[h3]at hK ⊢;go_simp;exact hK.out _ _ Bz rfl
  | 5,_ =>
   have h4:(u 14)=.pointer (some ⟨H,off,none⟩):=hdep 4 Kr;clear hdep;refine⟨_,rfl,fun K' hK=>?_⟩;simp only[h4]at hK ⊢;go_simp;exact hK.out _ _ Bz rfl
  | 6,_ =>
   have h5:(u 15)=.pointer (some ⟨H,off+1,none⟩):=hdep 5 Kr;clear hdep;refine⟨_,rfl,fun K' hK=>?_⟩;obtain⟨q0,q1,q2,-⟩:=HW.out w8 S8;simp only[h5]at hK ⊢;go_simp;exact hK.out _ _ Bz rfl
  | 7,_ =>
   have h2:(u 12)=.int .i64 len:=hdep 2 Kr;have h6:(u 16)=.int .i64 cost:=hdep 6 Kr;clear hdep;refine⟨_,rfl,fun K' hK=>?_⟩;simp only[h2,h6]at hK ⊢;go_simp;exact hK.out _ _ Bz rfl
  | 8,_ =>
   clear hdep;refine⟨_,rfl,fun K' hK=>?_⟩;go_simp;exact hK.out _ _ Bz rfl
  | 9,_ =>
   have h8:(u 18)=.pointer (some ⟨w.heap.size,3,none⟩):=hdep 8 Kr;clear hdep;refine⟨_,rfl,fun K' hK=>?_⟩;obtain⟨q0,q1,q2,-⟩:=HW.out w8 S8;simp only[h8]at hK ⊢;go_simp;exact hK.out _ _ Bz rfl
  | 10,_ =>
   have h0:(u 10)=.int .i64 fr:=hdep 0 Kr;have h7:(u 17)=.int .i64 (len+cost):=hdep 7 Kr;have h9:(u 19)=.bool mark:=hdep 9 Kr;clear hdep;refine⟨_,rfl,fun K' hK=>?_⟩;simp only[h0,h7,h9]at hK ⊢;go_simp;exact hK.out _ _ Bz rfl
  | i+11,hi=>exact absurd hi Om
 intro u w8 S8 hall;have h10:(u 20)=.agg #[.int .i64 fr,.int .i64 100,.int .i64 (len+cost),.bool mark]:=hall 10 (by decide);clear hall;refine⟨_,rfl,fun K' hK=>?_⟩;simp only[h10]at hK ⊢;have hrow:=(HW.out w8 S8).2.2.2;obtain⟨y0,y1,y2,y3⟩:=row_cells hrow;have z0:=hrow.frozen 0;have z1:=hrow.frozen 1;have z2:=hrow.frozen 2;have z3:=hrow.frozen 3;go_simp;refine hK.out _ _ ?_;have HO:Hid (((((w8.setCell ⟨w.heap.size,0,none⟩ (.int .i64 fr)).setCell ⟨w.heap.size,1,none⟩ (.int .i64 100)).setCell ⟨w.heap.size,2,none⟩ (.int .i64 (len+cost))).setCell ⟨w.heap.size,3,none⟩ (.bool mark)).rowIs w.heap.size 106 4 (rc r0)):=hid (by rw[hr0];exact row_set (r:=⟨fr,100,len+cost,mark⟩) hrow);have B9:Hid (Below w.heap.size w ((((w8.setCell ⟨w.heap.size,0,none⟩ (.int .i64 fr)).setCell ⟨w.heap.size,1,none⟩ (.int .i64 100)).setCell ⟨w.heap.size,2,none⟩ (.int .i64 (len+cost))).setCell ⟨w.heap.size,3,none⟩ (.bool mark))):=hid (((((V8.out.trans (S8.mono V8.out.size)).setCell (Nat.le_refl _) _).setCell (Nat.le_refl _) _).setCell (Nat.le_refl _) _).setCell (Nat.le_refl _) _)
 have ZR:Hid (((((w8.setCell ⟨w.heap.size,0,none⟩ (.int .i64 fr)).setCell ⟨w.heap.size,1,none⟩ (.int .i64 100)).setCell ⟨w.heap.size,2,none⟩ (.int .i64 (len+cost))).setCell ⟨w.heap.size,3,none⟩ (.bool mark)).rowIs (w.heap.size+1) 106 4 (rc zRt)):=hid (by
  refine World.rowIs.of_block (Z8.out.of_block (S8.block _ Z8.out.lt)) ?_
  rw[Below.heap_setCell _ _ _ _ (by dsimp only;omega),Below.heap_setCell _ _ _ _ (by dsimp only;omega),Below.heap_setCell _ _ _ _ (by dsimp only;omega),Below.heap_setCell _ _ _ _ (by dsimp only;omega)])
 clear hK K' h10 y0 y1 y2 y3 z0 z1 z2 z3 hrow S8
 (try simp only[Exit.then])
 generalize (((w8.setCell ⟨w.heap.size,0,none⟩ (.int .i64 fr)).setCell ⟨w.heap.size,1,none⟩ (.int .i64 100)).setCell ⟨w.heap.size,2,none⟩ (.int .i64 (len+cost))).setCell ⟨w.heap.size,3,none⟩ (.bool mark)=w9 at *;have k2:=keep B9.out HH2.out;go_wp2;go_loopw [26] (fun i wr=>∃(k:Nat) (q:Rt),k≤ny∧i=.int .i64 k∧impK y router fr r0 k=some q∧Below w.heap.size w wr∧wr.rowIs w.heap.size 106 4 (rc q)∧wr.rowIs (w.heap.size+1) 106 4 (rc zRt)) (fun i _=>ny - (intOf i).toNat)
 case atStart=>exact⟨0,r0,Nat.zero_le _,rfl,rfl,B9.out,HO.out,ZR.out⟩
 obtain⟨k,q,hk,rfl,hq,hb,hro,hre⟩:=hrel;have HQ:=hid hq;have HB:=hid hb;have HRo:=hid hro;have HRes:=hid hre;obtain⟨t0,t1,t2,t3⟩:=row_cells hro;obtain⟨y0,y1,y2,y3⟩:=row_cells hre;simp only[zRt]at y0 y1 y2 y3;have z0:=hre.frozen 0;have z1:=hre.frozen 1;have z2:=hre.frozen 2;have z3:=hre.frozen 3;have v1:=hro.frozen 1;have v3:=hro.frozen 3;have hR2:=hre.lt;have hNs:=hro.lt;obtain⟨qv,qp,ql,qm⟩:=q;simp only at t0 t1 t2 t3;clear hq hb hro hre HO B9 ZR k2;by_cases hlt:k<ny
 · obtain⟨b4,off4,rfl,d0,d1,d2,d3,d4⟩:=HY.out.at5 hlt
   replace d0:=keep HB.out d0
   have hb4:=World.block_lt_of_cell? _ _ d0;simp only at hb4
   replace d1:=keep HB.out d1
   replace d2:=keep HB.out d2
   replace d3:=keep HB.out d3
   replace d4:=keep HB.out d4
   obtain⟨p0,p1,p2,p3⟩:=HP.out k hlt;have HStep:Hid (impK y router fr r0 (k+1)=stepI y router fr k ⟨qv,qp,ql,qm⟩):=hid (by simp only[impK];rw[HQ.out];rfl);simp only[stepI,skipB,p0,p1]at HStep;clear p0 p1;generalize y k 0=x0 at *;generalize y k 1=x1 at *;generalize y k 2=x2 at *;generalize y k 3=x3 at *;generalize y k 4=x4 at *;obtain⟨s3,e3⟩:∃b,(x2==1)=b:=⟨_,rfl⟩;obtain⟨s4,e4⟩:∃b,(x2==2)=b:=⟨_,rfl⟩;have f3:decide (x2=1)=s3:=by rw[←e3,Bool.eq_iff_iff];simp
   have f4:decide (x2=2)=s4:=by rw[←e4,Bool.eq_iff_iff];simp
   rw[f3,f4]at HStep;simp only[ne_eq,not_true_eq_false,decide_false,Bool.false_or]at HStep;clear f3 f4
   cases s3 with
   | true =>
    cases qm with
    | false =>
     go_wp2;go_roundw
     case rel=>exact⟨k+1,_,by omega,by go_num,HStep.out,by have hbb:=HB.out;exact Bl,row_alloc HRo.out,row_alloc HRes.out⟩
     case measure=>simp[intOf];omega
    | true =>
     cases s4 with
     | true =>
      go_wp2;go_roundw
      case rel=>exact⟨k+1,_,by omega,by go_num,HStep.out,by have hbb:=HB.out;exact Bl,row_alloc HRo.out,row_alloc HRes.out⟩
      case measure=>simp[intOf];omega
     | false =>
      by_cases g1:x3=1
      · have g2:(x3==1)=true:=by simp[g1]
        have HS2:Hid (impK y router fr r0 (k+1)=none):=hid (by rw[HStep.out,if_neg (by simp),if_pos g1]);have HA2:ri=none:=by rw[←HRI.out];exact impK_none HS2.out hlt
        subst HA2;clear g1;go_wp2;refine bodyPost_ret (v:=.tuple #[.agg #[.int .i64 0,.int .i64 0,.int .i64 0,.bool false],.bool false]) (by rw[results_cell_tmp rfl];go_simp) rfl ?_;exact⟨rfl,by have hbb:=HB.out;exact Bl⟩
      have g2:(x3==1)=false:=by simp[g1]
      by_cases g3:x3=2
      · have g4:(x3==2)=true:=by simp[g3]
        have HS2:=hid HStep.out;rw[if_neg (by simp),if_neg g1,if_pos g3]at HS2;clear g1 g3;go_wp2;go_roundw
        case rel=>exact⟨k+1,⟨qv,x4,ql,_⟩,by omega,by go_num,HS2.out,by have hbb:=HB.out;exact Bl,row_alloc (row_pref x4 HRo.out),row_alloc (World.rowIs.of_block HRes.out (by rw[Below.heap_setCell _ _ _ _ (by dsimp only;omega)]))⟩
        case measure=>simp[intOf];omega
      have g4:(x3==2)=false:=by simp[g3]
      by_cases g5:x3=3
      · have g6:(x3==3)=true:=by simp[g5]
        have HS2:=hid HStep.out;rw[if_neg (by simp),if_neg g1,if_neg g3,decide_eq_true g5]at HS2;clear g1 g3 g5;go_wp2;go_roundw
        case rel=>exact⟨k+1,⟨qv,qp,ql,true⟩,by omega,by go_num,HS2.out,by have hbb:=HB.out;exact Bl,row_alloc (row_mark true HRo.out),row_alloc (World.rowIs.of_block HRes.out (by rw[Below.heap_setCell _ _ _ _ (by dsimp only;omega)]))⟩
        case measure=>simp[intOf];omega
      have g6:(x3==3)=false:=by simp[g5]
      have g7:(x3==4)=true:=by simp;omega
      have HS2:=hid HStep.out;rw[if_neg (by simp),if_neg g1,if_neg g3,decide_eq_false g5]at HS2;clear g1 g3 g5;go_wp2;go_roundw
      case rel=>exact⟨k+1,⟨qv,qp,ql,false⟩,by omega,by go_num,HS2.out,by have hbb:=HB.out;exact Bl,row_alloc (row_mark false HRo.out),row_alloc (World.rowIs.of_block HRes.out (by rw[Below.heap_setCell _ _ _ _ (by dsimp only;omega)]))⟩
      case measure=>simp[intOf];omega
   | false =>
    cases s4 with
    | true =>
     cases qm with
     | true =>
      go_wp2;go_roundw
      case rel=>exact⟨k+1,_,by omega,by go_num,HStep.out,by have hbb:=HB.out;exact Bl,row_alloc HRo.out,row_alloc HRes.out⟩
      case measure=>simp[intOf];omega
     | false =>
      by_cases g1:x3=1
      · have g2:(x3==1)=true:=by simp[g1]
        have HS2:Hid (impK y router fr r0 (k+1)=none):=hid (by rw[HStep.out,if_neg (by simp),if_pos g1]);have HA2:ri=none:=by rw[←HRI.out];exact impK_none HS2.out hlt
        subst HA2;clear g1;go_wp2;refine bodyPost_ret (v:=.tuple #[.agg #[.int .i64 0,.int .i64 0,.int .i64 0,.bool false],.bool false]) (by rw[results_cell_tmp rfl];go_simp) rfl ?_;exact⟨rfl,by have hbb:=HB.out;exact Bl⟩
      have g2:(x3==1)=false:=by simp[g1]
      by_cases g3:x3=2
      · have g4:(x3==2)=true:=by simp[g3]
        have HS2:=hid HStep.out;rw[if_neg (by simp),if_neg g1,if_pos g3]at HS2;clear g1 g3;go_wp2;go_roundw
        case rel=>exact⟨k+1,⟨qv,x4,ql,_⟩,by omega,by go_num,HS2.out,by have hbb:=HB.out;exact Bl,row_alloc (row_pref x4 HRo.out),row_alloc (World.rowIs.of_block HRes.out (by rw[Below.heap_setCell _ _ _ _ (by dsimp only;omega)]))⟩
        case measure=>simp[intOf];omega
      have g4:(x3==2)=false:=by simp[g3]
      by_cases g5:x3=3
      · have g6:(x3==3)=true:=by simp[g5]
        have HS2:=hid HStep.out;rw[if_neg (by simp),if_neg g1,if_neg g3,decide_eq_true g5]at HS2;clear g1 g3 g5;go_wp2;go_roundw
        case rel=>exact⟨k+1,⟨qv,qp,ql,true⟩,by omega,by go_num,HS2.out,by have hbb:=HB.out;exact Bl,row_alloc (row_mark true HRo.out),row_alloc (World.rowIs.of_block HRes.out (by rw[Below.heap_setCell _ _ _ _ (by dsimp only;omega)]))⟩
        case measure=>simp[intOf];omega
      have g6:(x3==3)=false:=by simp[g5]
      have g7:(x3==4)=true:=by simp;omega
      have HS2:=hid HStep.out;rw[if_neg (by simp),if_neg g1,if_neg g3,decide_eq_false g5]at HS2;clear g1 g3 g5;go_wp2;go_roundw
      case rel=>exact⟨k+1,⟨qv,qp,ql,false⟩,by omega,by go_num,HS2.out,by have hbb:=HB.out;exact Bl,row_alloc (row_mark false HRo.out),row_alloc (World.rowIs.of_block HRes.out (by rw[Below.heap_setCell _ _ _ _ (by dsimp only;omega)]))⟩
      case measure=>simp[intOf];omega
    | false =>
     by_cases g1:x3=1
     · have g2:(x3==1)=true:=by simp[g1]
       have HS2:Hid (impK y router fr r0 (k+1)=none):=hid (by rw[HStep.out,if_neg (by simp),if_pos g1]);have HA2:ri=none:=by rw[←HRI.out];exact impK_none HS2.out hlt
       subst HA2;clear g1;go_wp2;refine bodyPost_ret (v:=.tuple #[.agg #[.int .i64 0,.int .i64 0,.int .i64 0,.bool false],.bool false]) (by rw[results_cell_tmp rfl];go_simp) rfl ?_;exact⟨rfl,by have hbb:=HB.out;exact Bl⟩
     have g2:(x3==1)=false:=by simp[g1]
     by_cases g3:x3=2
     · have g4:(x3==2)=true:=by simp[g3]
       have HS2:=hid HStep.out;rw[if_neg (by simp),if_neg g1,if_pos g3]at HS2;clear g1 g3;go_wp2;go_roundw
       case rel=>exact⟨k+1,⟨qv,x4,ql,_⟩,by omega,by go_num,HS2.out,by have hbb:=HB.out;exact Bl,row_alloc (row_pref x4 HRo.out),row_alloc (World.rowIs.of_block HRes.out (by rw[Below.heap_setCell _ _ _ _ (by dsimp only;omega)]))⟩
       case measure=>simp[intOf];omega
     have g4:(x3==2)=false:=by simp[g3]
     by_cases g5:x3=3
     · have g6:(x3==3)=true:=by simp[g5]
       have HS2:=hid HStep.out;rw[if_neg (by simp),if_neg g1,if_neg g3,decide_eq_true g5]at HS2;clear g1 g3 g5;go_wp2;go_roundw
       case rel=>exact⟨k+1,⟨qv,qp,ql,true⟩,by omega,by go_num,HS2.out,by have hbb:=HB.out;exact Bl,row_alloc (row_mark true HRo.out),row_alloc (World.rowIs.of_block HRes.out (by rw[Below.heap_setCell _ _ _ _ (by dsimp only;omega)]))⟩
       case measure=>simp[intOf];omega
     have g6:(x3==3)=false:=by simp[g5]
     have g7:(x3==4)=true:=by simp;omega
     have HS2:=hid HStep.out;rw[if_neg (by simp),if_neg g1,if_neg g3,decide_eq_false g5]at HS2;clear g1 g3 g5;go_wp2;go_roundw
     case rel=>exact⟨k+1,⟨qv,qp,ql,false⟩,by omega,by go_num,HS2.out,by have hbb:=HB.out;exact Bl,row_alloc (row_mark false HRo.out),row_alloc (World.rowIs.of_block HRes.out (by rw[Below.heap_setCell _ _ _ _ (by dsimp only;omega)]))⟩
     case measure=>simp[intOf];omega
 have ek:k=ny:=by omega
 subst ek;have HA2:ri=some ⟨qv,qp,ql,qm⟩:=by rw[←HRI.out,HQ.out]
 subst HA2;go_wp2;refine bodyPost_ret (v:=.tuple #[.agg #[.int .i64 qv,.int .i64 qp,.int .i64 ql,.bool qm],.bool true]) (by rw[results_cell_tmp rfl];go_simp) rfl ?_;exact⟨rfl,(((HB.out.setCell (by dsimp only;omega) _).setCell (by dsimp only;omega) _).setCell (by dsimp only;omega) _).setCell (by dsimp only;omega) _⟩
end Go.Proofs.YtcnoemjeijjnjaaGreat.candTake
namespace Go.Proofs.YtcnoemjeijjnjaaGreat.candClear
open Go.RowKit Go.Deep Go base netSem nbSem routeRow candSem
set_option maxHeartbeats 1600000 in
theorem clear_impl (a:Option Addr) (n cap:Nat) (rs:Rs) (fr other:Int) (w:World) (hr:RtRow w a n rs) (hv:∀i,i<n→(rs i).via<n) (hf:0≤fr) (hf2:fr<n) :
  Calls Tryz.prog 109 #[.slice a n cap,.int .i64 fr,.int .i64 other] w fun e w'=>e=.returned (.bool (!(thru rs other n fr)))∧Below w.heap.size w w' := by
 have HR:=hid hr;have HV:=hid hv;have mr:=hr.most;unfold maxLen at mr;clear hr hv;obtain⟨m0,rfl⟩:∃m:Nat,fr=(m:Int):=⟨fr.toNat,by omega⟩;obtain⟨T,hT⟩:∃T,thru rs other n (m0:Int)=T:=⟨_,rfl⟩;have HT:=hid hT;rw[hT];clear hT;go_enter Tryz.func109,Tryz.ntmps109;go_wp2;go_loopw [9,1] (fun i v wr=>∃k m:Nat,k≤n∧m<n∧i=.int .i64 k∧v=.int .i64 m∧Below w.heap.size w wr∧thru rs other (n - k) (m:Int)=T) (fun i _ _=>n - (intOf i).toNat)
 case atStart=>exact⟨0,m0,Nat.zero_le _,by omega,rfl,rfl,Bl,HT.out⟩
 obtain⟨k,m,hk,hm,rfl,rfl,hb,ht⟩:=hrel;have HB:=hid hb;have HU:=hid ht;clear hb ht HT;by_cases hlt:k<n
 · have HU2 : Hid ((if (m : Int) = other then true else if (m : Int) < 0 then false else if (rs m).via < 0 then false else thru rs other (n - k - 1) (rs m).via) = T) := hid (by
    have h:=HU.out;rw[show n - k=n - k - 1+1 from by omega]at h
    exact h)
   have HVm:=hid (HV.out m hm);obtain⟨b0,off,rfl,c0,c1,c2,c3⟩:=HR.out.at4 hm
   replace c0:=keep HB.out c0
   clear c1 c2 c3;generalize (rs m).via=y at *;clear HU;by_cases h1:(m:Int)=other
   · have e1:((m:Int)==other)=true:=by simp[h1]
     have HT2:=HU2.out;rw[if_pos h1]at HT2;subst HT2;clear h1 HU2;go_wp2;go_ret;exact⟨rfl,HB.out⟩
   have e1:((m:Int)==other)=false:=by simp[h1]
   have HU3:=HU2.out;rw[if_neg h1,if_neg Om]at HU3;clear h1 HU2;by_cases h2:y<0
   · have e3:decide (y<0)=true:=decide_eq_true h2;rw[if_pos h2]at HU3;subst HU3;clear h2;go_wp2;go_ret;exact⟨rfl,HB.out⟩
   have e3:decide (y<0)=false:=decide_eq_false h2;rw[if_neg h2]at HU3;have HU4:=hid HU3;clear HU3;obtain⟨m1,rfl⟩:∃q:Nat,y=(q:Int):=⟨y.toNat,by omega⟩;clear h2;go_wp2;go_roundw
   case rel=>exact⟨k+1,m1,by omega,by have:=HVm.out;omega,by go_num,rfl,HB.out,by rw[show n - (k+1)=n - k - 1 from by omega];exact HU4.out⟩
   case measure=>simp[intOf];omega
 have e:k=n:=by omega
 subst e;have HT2:=HU.out;rw[Nat.sub_self]at HT2;have HT3:true=T:=HT2;subst HT3;clear HT2 HU hlt;go_wp2;go_ret;exact⟨rfl,HB.out⟩
end Go.Proofs.YtcnoemjeijjnjaaGreat.candClear
