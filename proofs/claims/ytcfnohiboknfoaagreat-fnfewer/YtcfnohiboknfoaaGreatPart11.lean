import Derived.Test.YtcfnohiboknfoaaGreatCandImp
set_option linter.unusedVariables false
namespace Go.Proofs.YtcfnohiboknfoaaGreat.sceneSem
open Go.RowKit Go.Deep Go base netSem routeRow nbSem candSem candImp hopSem intsOwn hopMake hopBetween
structure Sc (sb b B : Nat) (F : Nat→Value) (p : Nat→Option Addr) (l c : Nat→Nat) (g : R) (o e : List Int) (x : R) (ea da : Option Addr) (el ec dl dc : Nat) (env : List Int) (ds : List Bool) (w : World) : Prop where
 s0:w.cell? ⟨sb,0,none⟩=some (.pointer (some ⟨b,0,none⟩))
 s1:w.cell? ⟨sb,1,none⟩=some (.slice ea el ec)
 s2:w.cell? ⟨sb,2,none⟩=some (.slice da dl dc)
 ready:Ready b B F w (p 1) (p 4) (l 1) (l 4) (c 1) (c 4) g x
 fit:Fit b F w (p 1) (p 4) (l 1) (l 4) (c 1) (c 4) g x
 f2:F 2=.slice (p 2) (l 2) (c 2)
 f3:F 3=.slice (p 3) (l 3) (c 3)
 orig:IntRow w (p 2) (l 2) o
 exts:IntRow w (p 3) (l 3) e
 envs:IntRow w ea el env
 downs:BoolRow w da dl ds
 ns:sb≠b
 n2:∀ a o,0<l 2→p 2=some ⟨a,o,none⟩→a≠b
 n3:∀ a o,0<l 3→p 3=some ⟨a,o,none⟩→a≠b
 ne:∀ a o,0<el→ea=some ⟨a,o,none⟩→a≠b
 nd:∀ a o,0<dl→da=some ⟨a,o,none⟩→a≠b
 hB:B≤w.heap.size
 le:el=l 3
 ld:dl=l 1
variable {sb b B : Nat} {F : Nat→Value} {p : Nat→Option Addr} {l c : Nat→Nat} {g : R} {o e : List Int} {x : R} {ea da : Option Addr} {el ec dl dc : Nat} {env : List Int} {ds : List Bool} {w w' : World}
theorem rowOff {m n:Nat} {a:Option Addr} {g:R} (h:Row m w a n g) (hk:∀ q o v,q≠b→w.cell? ⟨q,o,none⟩=some v→w'.cell? ⟨q,o,none⟩=some v) (hn:∀ q o,0<n→a=some ⟨q,o,none⟩→q≠b):Row m w' a n g :=
 ⟨h.most,fun i hi=>by
  obtain ⟨q,off,e,hc⟩:=h.cell i hi
  exact ⟨q,off,e,fun j hj=>hk _ _ _ (hn q off (by omega) e) (hc j hj)⟩⟩
theorem intOff {n:Nat} {a:Option Addr} {z:List Int} (h:IntRow w a n z) (hk:∀ q o v,q≠b→w.cell? ⟨q,o,none⟩=some v→w'.cell? ⟨q,o,none⟩=some v) (hn:∀ q o,0<n→a=some ⟨q,o,none⟩→q≠b):IntRow w' a n z :=
 ⟨h.length,h.most,fun i hi=>by
  obtain ⟨q,off,e,hc⟩:=h.cell i hi
  exact ⟨q,off,e,hk _ _ _ (hn q off (by omega) e) hc⟩⟩
theorem boolOff {n:Nat} {a:Option Addr} {z:List Bool} (h:BoolRow w a n z) (hk:∀ q o v,q≠b→w.cell? ⟨q,o,none⟩=some v→w'.cell? ⟨q,o,none⟩=some v) (hn:∀ q o,0<n→a=some ⟨q,o,none⟩→q≠b):BoolRow w' a n z :=
 ⟨h.length,h.most,fun i hi=>by
  obtain ⟨q,off,e,hc⟩:=h.cell i hi
  exact ⟨q,off,e,hk _ _ _ (hn q off (by omega) e) hc⟩⟩
theorem grown_cell (hg:w.grownBy w' (some b)) (q o:Nat) (v:Value) (hq:q≠b) (hc:w.cell? ⟨q,o,none⟩=some v):w'.cell? ⟨q,o,none⟩=some v :=
 (World.cell?_of_block (a:=⟨q,o,none⟩) (hg.block q (World.block_lt_of_cell? _ _ hc) (fun e=>hq (by injection e)))).trans hc
theorem Sc.step (h:Sc sb b B F p l c g o e x ea da el ec dl dc env ds w) (hg:w.grownBy w' (some b)) (hr:Ready b B F w' (p 1) (p 4) (l 1) (l 4) (c 1) (c 4) g x):Sc sb b B F p l c g o e x ea da el ec dl dc env ds w' := by
 have k:=fun q o v hq hc=>grown_cell (b:=b) hg q o v hq hc
 exact ⟨k _ _ _ h.ns h.s0,k _ _ _ h.ns h.s1,k _ _ _ h.ns h.s2,hr,⟨h.fit.f1,h.fit.f4,rowOff h.fit.links k h.fit.n1,rowOff h.fit.imports k h.fit.n4,h.fit.gi,h.fit.xi,h.fit.few,h.fit.n1,h.fit.n4⟩,h.f2,h.f3,intOff h.orig k h.n2,intOff h.exts k h.n3,intOff h.envs k h.ne,boolOff h.downs k h.nd,h.ns,h.n2,h.n3,h.ne,h.nd,Nat.le_trans h.hB hg.size,h.le,h.ld⟩
theorem Ready.below (h:Ready b B F w (p 1) (p 4) (l 1) (l 4) (c 1) (c 4) g x) (hb:Below w.heap.size w w'):Ready b B F w' (p 1) (p 4) (l 1) (l 4) (c 1) (c 4) g x:=by
 rcases h with ⟨h1,h2,h3,h4⟩|⟨V,F',hm⟩
 · exact .inl ⟨h1.of_block (hb.block _ h1.lt),h2,h3,h4⟩
 exact .inr ⟨V,F',hm.row.of_block (hb.block _ hm.row.lt),hm.net,hm.done,hm.hops,fun p q hp hq=>own_keep (hm.own p q hp hq) fun g hg=>hb.block g (World.ownsRow.lt (hm.own p q hp hq) g hg).2⟩
theorem grown_of_below (hb:Below w.heap.size w w') (row:Option Nat):w.grownBy w' row:=⟨hb.os,hb.tape,hb.output,hb.size,fun j hj _=>hb.block j hj⟩
theorem Sc.below (h:Sc sb b B F p l c g o e x ea da el ec dl dc env ds w) (hb:Below w.heap.size w w'):Sc sb b B F p l c g o e x ea da el ec dl dc env ds w' := h.step (grown_of_below hb _) (Ready.below h.ready hb)
theorem Sc.net (h:Sc sb b B F p l c g o e x ea da el ec dl dc env ds w) (i:Nat) (hi:i<6):w.cell? ⟨b,i,none⟩=some (F i):=by
 rcases h.ready with ⟨h1,_⟩|⟨V,F',hm⟩
 · exact h1.cell (i:=i) (by omega)
 rw [hm.row.cell (i:=i) (by omega),hm.net i hi]
def annA (e env : List Int) (router : Int) : Int := if 0≤hasAt e router then zAt env (hasAt e router).toNat else 0
def openB (g : R) (nl : Nat) (o e env : List Int) (ds : List Bool) (router via : Int) : Bool :=
 if via = -3 then true else if via = -2 then decide (0≤hasAt o router) else if via = -1 then (annA e env router != 0) else nbB g nl ds router via.toNat
def byVia (g : R) (nl : Nat) (o e : List Int) (x : R) (nx : Nat) (env : List Int) (ds : List Bool) (rs : Rs) (n : Nat) (router via : Int) : Option Rt :=
 if openB g nl o e env ds router via=false then none else if via = -3 then some noRt else if via = -2 then some ⟨-2,200,0,false⟩ else if via = -1 then some ⟨-1,100,2,annA e env router == 2⟩
 else if (rs via.toNat).via = -3∨thru rs router n via=true then none else impR g nl x nx router via (rs via.toNat)
set_option maxHeartbeats 800000 in
theorem index_int (a:Option Addr) (len cap:Nat) (z:List Int) (v:Int) (w:World) (hr:IntRow w a len z) :
  Calls Tryz.prog 116 #[.slice a len cap,.int .i64 v] w fun e w'=>e=.returned (.int .i64 (hasAt z v))∧w' = w:=by
 have hmost:=hr.most
 unfold maxLen at hmost
 have hlen:=hr.length
 unfold hasAt
 rw [hlen]
 have HC:=hid hr.cell
 clear hr hlen
 go_enter Tryz.func116,Tryz.ntmps116
 go_wp2
 go_loop [8] (fun i=>∃ k:Nat,k≤len∧i=.int .i64 k∧∀ j,j<k→decide (zAt z j=v)=false) (fun i=>len - (intOf i).toNat)
 case atStart=>exact ⟨0,Nat.zero_le _,rfl,fun j hj=>absurd hj (Nat.not_lt_zero _)⟩
 obtain ⟨k,hk,rfl,ha⟩:=hrel
 have HA:=hid ha
 clear ha
 by_cases hlt:k<len
 · obtain ⟨b,off,rfl,hc⟩:=HC.out k hlt
   have HQ:Hid (zAt z k=z[k]?.getD 0):=hid rfl
   generalize z[k]?.getD 0=y at *
   by_cases he:y=v
   · have hq:(v == y)=true:=by simp [he]
     have HE:=hid (show decide (zAt z k=v)=true from decide_eq_true (by rw [HQ.out];exact he))
     clear he
     go_wp2
     go_ret
     exact ⟨ret_int (firstAt_hit hlt HE.out HA.out).symm,rfl⟩
   have hq:(v == y)=false:=beq_eq_false_iff_ne.2 fun h=>he h.symm
   have HE:=hid (show decide (zAt z k=v)=false from decide_eq_false (by rw [HQ.out];exact he))
   clear he
   go_wp2
   go_round
   case rel =>
    refine ⟨k+1,by omega,by go_num,fun j hj=>?_⟩
    by_cases e:j=k
    · subst e;exact HE.out
    exact HA.out j (by omega)
   case measure=>simp [intOf];omega
 have e:k=len:=by omega
 subst e
 go_wp2
 go_ret
 exact ⟨ret_int (firstAt_none HA.out).symm,rfl⟩
theorem contains_int (a:Option Addr) (len cap:Nat) (z:List Int) (v:Int) (w:World) (hr:IntRow w a len z) :
  Calls Tryz.prog 71 #[.slice a len cap,.int .i64 v] w fun e w'=>e=.returned (.bool (decide (0≤hasAt z v)))∧w' = w:=by
 have HR:=hid hr
 clear hr
 go_enter Tryz.func71,Tryz.ntmps71
 go_wp2_with fail
 refine (index_int a len cap z v _ HR.out).mono ?_
 rintro e w' ⟨rfl,hw⟩
 have hw:=hw.symm
 subst hw
 go_wp2
 go_ret
 exact ⟨rfl,rfl⟩
set_option maxHeartbeats 1600000 in
theorem ann_impl (sb b B:Nat) (F:Nat→Value) (p:Nat→Option Addr) (l c:Nat→Nat) (g:R) (o e:List Int) (x:R) (ea da:Option Addr) (el ec dl dc:Nat) (env:List Int) (ds:List Bool) (router:Int) (w:World) (h:Sc sb b B F p l c g o e x ea da el ec dl dc env ds w) :
  Calls Tryz.prog 109 #[.pointer (some ⟨sb,0,none⟩),.int .i64 router] w fun e' w'=>e' = .returned (.int .i64 (annA e env router))∧Below w.heap.size w w' := by
 have s0:=h.s0
 have s1:=h.s1
 have q3:=h.net 3 (by omega)
 rw [h.f3] at q3
 have HS:=hid h
 have hexl:=h.exts.length
 have hev:=h.envs.length
 have hle:=h.le
 have HB:=hid (firstAt_bounds (fun i=>decide (zAt e i=router)) e.length)
 obtain ⟨A,hA⟩:∃ A,annA e env router=A:=⟨_,rfl⟩
 have HA:=hid hA
 rw [hA]
 clear hA
 unfold annA at HA
 obtain ⟨L,hL⟩:∃ L,hasAt e router=L:=⟨_,rfl⟩
 have HL:=hid hL
 have hLL:firstAt (fun i=>decide (zAt e i=router)) e.length=L:=hL
 rw [hLL] at HB
 rw [hL] at HA
 clear hL hLL h
 have HEx:=hid HS.out.exts
 have HEv:=hid HS.out.envs
 have HN:=hid (And.intro hexl (And.intro hev hle))
 clear hexl hev hle
 go_enter Tryz.func109,Tryz.ntmps109
 go_wp2_with fail
 refine (index_int _ _ _ e router _ HEx.out).mono ?_
 rintro e' w1 ⟨rfl,hw⟩
 have hw:=hw.symm
 subst hw
 rw [HL.out]
 by_cases h0:0≤L
 · obtain ⟨m,rfl⟩:∃ m:Nat,L=(m:Int):=⟨L.toNat,by omega⟩
   have hm:m<el:=by have:=HB.out;have:=HN.out;omega
   obtain ⟨eb,eo,hea,hc⟩:=HEv.out.cell m hm
   have hA2:env[m]?.getD 0=A:=by rw [← HA.out,if_pos h0,Int.toNat_natCast];rfl
   rw [hA2] at hc
   subst hea
   have g0:decide ((0:Int)≤(m:Int))=true:=decide_eq_true (by omega)
   have hmi:(m:Int)<(el:Int):=by omega
   clear h0 hA2
   go_wp2
   go_ret
   exact ⟨rfl,Below.refl _ _⟩
 have g0:decide ((0:Int)≤L)=false:=decide_eq_false h0
 have hA2:A=0:=by rw [← HA.out,if_neg h0]
 subst hA2
 clear h0
 go_wp2
 go_ret
 exact ⟨rfl,Below.refl _ _⟩
end Go.Proofs.YtcfnohiboknfoaaGreat.sceneSem
namespace Go.Proofs.YtcfnohiboknfoaaGreat.sceneOpen
open Go.RowKit Go.Deep Go base netSem routeRow nbSem candSem candImp hopSem intsOwn hopMake hopBetween sceneSem
set_option maxHeartbeats 3200000 in
theorem open_impl (sb b B:Nat) (F:Nat→Value) (p:Nat→Option Addr) (l c:Nat→Nat) (g:R) (o e:List Int) (x:R) (ea da:Option Addr) (el ec dl dc:Nat) (env:List Int) (ds:List Bool) (n r:Nat) (via:Int) (w:World) (h:Sc sb b B F p l c g o e x ea da el ec dl dc env ds w) (hu:∀ i,i<l 1→linkAt g i (g i 0) (g i 1)<0) (hn:n≤4) (hr:r<n) (hv0 : -3≤via) (hv1:via<n) :
  Calls Tryz.prog 108 #[.pointer (some ⟨sb,0,none⟩),.int .i64 (r:Int),.int .i64 via] w fun e' w'=>e' = .returned (.bool (openB g (l 1) o e env ds r via))∧Sc sb b B F p l c g o e x ea da el ec dl dc env ds w'∧w.grownBy w' (some b):=by
 have HS:=hid h
 have HU:=hid hu
 obtain ⟨D,hD⟩:∃ D,openB g (l 1) o e env ds r via=D:=⟨_,rfl⟩
 have HD:=hid hD
 rw [hD]
 clear hD h hu
 unfold openB at HD
 by_cases h3:via = -3
 · subst h3
   rw [if_pos rfl] at HD
   have hD:=HD.out.symm
   subst hD
   go_enter Tryz.func108,Tryz.ntmps108
   go_wp2
   go_ret
   exact ⟨rfl,HS.out,grown_refl _ _⟩
 rw [if_neg h3] at HD
 have e3:(via == -3)=false:=by simp [h3]
 by_cases h2:via = -2
 · subst h2
   rw [if_pos rfl] at HD
   have s0:=HS.out.s0
   have q2:=HS.out.net 2 (by omega)
   rw [HS.out.f2] at q2
   have HO:=hid HS.out.orig
   clear e3 h3
   go_enter Tryz.func108,Tryz.ntmps108
   go_wp2_with fail
   refine (contains_int _ _ _ o r _ HO.out).mono ?_
   rintro e' w1 ⟨rfl,hw⟩
   have hw:=hw.symm
   subst hw
   rw [HD.out]
   go_wp2
   go_ret
   exact ⟨rfl,HS.out,grown_refl _ _⟩
 rw [if_neg h2] at HD
 have e2:(via == -2)=false:=by simp [h2]
 by_cases h1:via = -1
 · subst h1
   rw [if_pos rfl] at HD
   clear e3 e2 h3 h2
   go_enter Tryz.func108,Tryz.ntmps108
   go_wp2_with fail
   refine (ann_impl sb b B F p l c g o e x ea da el ec dl dc env ds r _ HS.out).mono ?_
   rintro e' w1 ⟨rfl,hb1⟩
   have HS1:=hid (HS.out.below hb1)
   have HG1:=hid (grown_of_below hb1 (some b))
   clear hb1
   obtain ⟨A,hA⟩:∃ A,annA e env (r:Int)=A:=⟨_,rfl⟩
   rw [hA] at HD ⊢
   clear hA
   have hq:=HD.out
   go_wp2
   go_ret
   exact ⟨by first|rfl|(rw [← HD.out]),HS1.out,HG1.out⟩
 rw [if_neg h1] at HD
 have e1:(via == -1)=false:=by simp [h1]
 obtain ⟨v,rfl⟩:∃ v:Nat,via=(v:Int):=⟨via.toNat,by omega⟩
 rw [Int.toNat_natCast] at HD
 have hv4:v<4:=by omega
 have hr4:r<4:=by omega
 have HF:=hid HS.out.fit
 have s0:=HS.out.s0
 clear h1 h2 h3
 go_enter Tryz.func108,Tryz.ntmps108
 go_wp2_with fail
 refine (hop_between b B F (p 1) (p 4) (l 1) (l 4) (c 1) (c 4) g x r v _ HS.out.ready HF.out HS.out.hB hr4 hv4).mono ?_
 rintro e' w1 ⟨rfl,V,F',hm,hg1⟩
 have HS1:=hid (HS.out.step hg1 (.inr ⟨V,F',hm⟩))
 have HG1:=hid hg1
 have hlk:=(lk_first (g:=g) (p:=(r:Int)) (q:=(v:Int)) (l 1) HU.out).1
 have hc0:w1.cell? ⟨b,hopO r v,none⟩=some (.int .i64 (linkAt g (l 1) (r:Int) (v:Int))):=by
  rw [hm.row.cell (i:=hopO r v) (by unfold hopO;omega),(hm.hops r v hr4 hv4).1,← hlk]
 have s2:=HS1.out.s2
 clear hg1 hm hlk s0
 have HLB:=hid (firstAt_bounds (hit g (r:Int) (v:Int)) (l 1))
 unfold nbB at HD
 obtain ⟨L,hL⟩:∃ L,linkAt g (l 1) (r:Int) (v:Int)=L:=⟨_,rfl⟩
 have hLL:firstAt (hit g (r:Int) (v:Int)) (l 1)=L:=hL
 rw [hLL] at HLB
 rw [hL] at HD hc0
 clear hL hLL
 have hld:=HS1.out.ld
 have HLD:=hid hld
 have HDn:=hid HS1.out.downs
 clear hld
 generalize hopO r v=ho at *
 by_cases h0:0≤L
 · obtain ⟨m,rfl⟩:∃ m:Nat,L=(m:Int):=⟨L.toNat,by omega⟩
   have hm:m<dl:=by have:=HLB.out;have:=HLD.out;omega
   obtain ⟨db,dof,hda,hc⟩:=HDn.out.cell m hm
   rw [Int.toNat_natCast] at HD
   generalize ds[m]?.getD false=dv at *
   have hD2:(!dv)=D:=by rw [← HD.out,decide_eq_true h0];rfl
   have HD2:=hid hD2
   subst hda
   have g0:((m:Int) != -1)=true:=by first|(simp;done)|(simp;omega)
   have hmi:(m:Int)<(dl:Int):=by omega
   clear h0 hD2
   go_wp2
   go_ret
   exact ⟨ret_bool HD2.out,HS1.out,HG1.out⟩
 have hL1:L = -1:=by have:=HLB.out;omega
 subst hL1
 have hD2:D=false:=by rw [← HD.out];rfl
 subst hD2
 clear h0
 go_wp2
 go_ret
 exact ⟨rfl,HS1.out,HG1.out⟩
end Go.Proofs.YtcfnohiboknfoaaGreat.sceneOpen
