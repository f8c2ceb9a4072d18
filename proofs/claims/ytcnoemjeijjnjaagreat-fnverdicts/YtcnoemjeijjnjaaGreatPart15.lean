import Derived.Test.YtcnoemjeijjnjaaGreatPart11
import Derived.Test.YtcnoemjeijjnjaaGreatCandSpec
set_option linter.unusedVariables false
namespace Go.Proofs.YtcnoemjeijjnjaaGreat.sceneCand
open Go.RowKit Go.Deep Go base netSem routeRow nbSem candSem candImp hopSem intsOwn hopMake hopBetween sceneSem sceneOpen sceneBy candSpec
def lst (g : R) (nl : Nat) (o e : List Int) (x : R) (nx : Nat) (env : List Int) (ds : List Bool) (rs : Rs) (n : Nat) (router : Int) (k : Nat) : List Rt := (List.range k).flatMap fun i : Nat=>(byVia g nl o e x nx env ds rs n router ((i : Int) - 2)).toList
theorem lst_succ (g:R) (nl:Nat) (o e:List Int) (x:R) (nx:Nat) (env:List Int) (ds:List Bool) (rs:Rs) (n:Nat) (router:Int) (k:Nat):lst g nl o e x nx env ds rs n router (k+1)=lst g nl o e x nx env ds rs n router k++(byVia g nl o e x nx env ds rs n router ((k:Int) - 2)).toList:=by
 unfold lst;rw[List.range_succ,List.flatMap_append];simp
theorem lst_len (g:R) (nl:Nat) (o e:List Int) (x:R) (nx:Nat) (env:List Int) (ds:List Bool) (rs:Rs) (n:Nat) (router:Int):∀k,(lst g nl o e x nx env ds rs n router k).length≤k
 | 0=>by simp[lst]
 | k+1=>by
  have ih:=lst_len g nl o e x nx env ds rs n router k;rw[lst_succ,List.length_append];cases byVia g nl o e x nx env ds rs n router ((k:Int) - 2)<;>simp<;>omega
theorem row_end {sb b B:Nat} {F:Nat→Value} {p:Nat→Option Addr} {l c:Nat→Nat} {g:R} {o e:List Int} {x:R} {ea da:Option Addr} {el ec dl dc:Nat} {env:List Int} {ds:List Bool} {w W W2:World} {v:Value} {zs:List Rt} (h0:Sc sb b B F p l c g o e x ea da el ec dl dc env ds w) (hbw:b<w.heap.size) (h:Sc sb b B F p l c g o e x ea da el ec dl dc env ds W) (hg:w.grownBy W (some b))
  (ho:OwnRts w.heap.size W v zs) (h2:W.grownBy W2 v.ownBlock):Sc sb b B F p l c g o e x ea da el ec dl dc env ds W2∧w.grownBy W2 (some b):=by
 have hge:∀k,v.ownBlock=some k→w.heap.size≤k:=fun k hk=>(World.ownsRow.lt ho k hk).1;have hz:=hg.size;have hg2:w.grownBy W2 (some b):=⟨h2.os.trans hg.os,h2.tape.trans hg.tape,h2.output.trans hg.output,Nat.le_trans hg.size h2.size,fun j hj hne=>(h2.block j Om (fun e=>by have:=hge j e.symm;omega)).trans (hg.block j hj hne)⟩;have hkb:W2.heap[b]? = W.heap[b]?:=h2.block b Om (fun e=>by have:=hge b e.symm;omega);refine⟨h0.step hg2 ?_,hg2⟩;rcases h.ready with ⟨h1,h2,h3,h4⟩|⟨V,F',hm⟩
 · exact .inl ⟨h1.of_block hkb,h2,h3,h4⟩
 refine .inr ⟨V,F',hm.row.of_block hkb,hm.net,hm.done,hm.hops,fun p q hp hq=>own_keep (hm.own p q hp hq) fun k hk=>h2.block k (World.ownsRow.lt (hm.own p q hp hq) k hk).2 fun ek=>?_⟩;rcases (hm.own p q hp hq).2 with ⟨e1,_⟩|⟨k',cap,cur,e1,_,hh,_⟩
 · rw[e1]at hk;simp[Value.ownBlock]at hk
 rw[e1]at hk;simp[Value.ownBlock]at hk;rcases ho.2 with ⟨f1,_⟩|⟨k2,cap2,cur2,f1,_,hh2,_⟩
 · rw[f1]at ek;simp[Value.ownBlock]at ek
 rw[f1]at ek;simp[Value.ownBlock]at ek;rw[hk,ek,hh2]at hh;injection hh with hh;injection hh with _ hh3 _;exact absurd hh3 (by decide)
set_option maxHeartbeats 6400000 in
set_option maxRecDepth 8000 in
theorem cand_impl (sb b B:Nat) (F:Nat→Value) (p:Nat→Option Addr) (l c:Nat→Nat) (g:R) (o e:List Int) (x:R) (ea da:Option Addr) (el ec dl dc:Nat) (env:List Int) (ds:List Bool) (ra:Option Addr) (n cr:Nat) (rs:Rs) (r:Nat) (w:World) (h:Sc sb b B F p l c g o e x ea da el ec dl dc env ds w) (hgd:sceneBy.Good n l g x rs) (hrt:RtRow w ra n rs) (hna:∀a o,ra=some ⟨a,o,none⟩→a≠b) (hr:r<n) :
  Calls Tryz.prog 112 #[.pointer (some ⟨sb,0,none⟩),.int .i64 (r:Int),.slice ra n cr] w fun e' w'=>∃v,e' = .returned v∧OwnRts w.heap.size w' v (lst g (l 1) o e x (l 4) env ds rs n r (n+2))∧Sc sb b B F p l c g o e x ea da el ec dl dc env ds w'∧w.grownBy w' (some b):=by
 have HS:=hid h;have HGd:=hid hgd;have HT:=hid hrt;have HNa:=hid hna;have hn4:=hgd.few;have hbw:b<w.heap.size:=by rcases h.ready with ⟨h1,_⟩|⟨V,F',hm⟩;exact h1.lt;exact hm.row.lt
 clear h hgd hrt hna
 have HRt:Hid (∀W:World,w.grownBy W (some b)→RtRow W ra n rs):=hid (fun W hg=>⟨HT.out.most,fun i hi=>by
  obtain⟨q,off,e,hc⟩:=HT.out.cell i hi
  exact⟨q,off,e,fun j hj=>grown_cell hg q _ _ (HNa.out q off e) (hc j hj)⟩⟩)
 have hni:(n:Int)≤4:=by omega
 obtain⟨i0,hi,hzz⟩:=Option.map_eq_some_iff.1 info_Route;simp only[Prod.mk.injEq]at hzz;obtain⟨hz0,hz1,hz2⟩:=hzz;have HI:=hid hi;have HZ0:=hid hz0;have HZ1:=hid hz1;have HZ2:=hid hz2;clear hi hz0 hz1 hz2;go_enter Tryz.func112,Tryz.ntmps112;go_wp2_with fail;go_loopw [8,7] (fun i v wr=>∃k:Nat,k≤n+2∧i=.int .i64 ((k:Int) - 2)∧OwnRts w.heap.size wr v (lst g (l 1) o e x (l 4) env ds rs n r k)∧Sc sb b B F p l c g o e x ea da el ec dl dc env ds wr∧w.grownBy wr (some b)) (fun i _ _=>(n:Nat)+2 - (intOf i+2).toNat)
 case atStart=>exact⟨0,by omega,rfl,⟨rfl,.inl ⟨rfl,rfl⟩⟩,HS.out,grown_refl _ _⟩
 obtain⟨k,hk,rfl,ho,hs,hg⟩:=hrel;have HOr:=hid ho;have HSr:=hid hs;have HGr:=hid hg;clear ho hs hg;obtain⟨vi,hvi⟩:∃vi:Int,(k:Int) - 2=vi:=⟨_,rfl⟩;have HVi:=hid hvi;rw[hvi];by_cases hlt:vi<n
 · obtain⟨⟨qv,qp,ql,qm⟩,hq⟩:∃q,(byVia g (l 1) o e x (l 4) env ds rs n r vi).getD zRt=q:=⟨_,rfl⟩;obtain⟨qs,hqs⟩:∃q,(byVia g (l 1) o e x (l 4) env ds rs n r vi).isSome=q:=⟨_,rfl⟩
   have HBy:Hid (Calls Tryz.prog 67 #[.pointer (some ⟨sb,0,none⟩),.int .i64 (r:Int),.int .i64 vi,.slice ra n cr] wr fun e' w'=>e' = .returned (.tuple #[.agg #[.int .i64 qv,.int .i64 qp,.int .i64 ql,.bool qm],.bool qs])∧Sc sb b B F p l c g o e x ea da el ec dl dc env ds w'∧wr.grownBy w' (some b)):=hid (by
    have h:=by_impl sb b B F p l c g o e x ea da el ec dl dc env ds ra n cr rs r vi wr HSr.out HGd.out (HRt.out _ HGr.out) HNa.out hr Om hlt;rw[hq,hqs]at h
    exact h)
   have HQ:=hid (And.intro hq hqs);have d1:decide (vi<(n:Int))=true:=decide_eq_true hlt;have hlo : -2≤vi:=by omega
   clear hq hqs hvi;go_wp2_with fail;refine HBy.out.mono ?_;rintro e' w1 ⟨rfl,hs1,hg1⟩;have HS1:=hid hs1;have HG1:=hid hg1;have HO1:Hid (OwnRts w.heap.size w1 u7 (lst g (l 1) o e x (l 4) env ds rs n r k)):=hid (own_keep HOr.out fun q hq=>hg1.block q (World.ownsRow.lt HOr.out q hq).2 (fun e=>by have:=(World.ownsRow.lt HOr.out q hq).1;injection e with e;omega));clear hs1 hg1;have hz1:w.heap.size≤w1.heap.size:=Nat.le_trans HGr.out.size HG1.out.size;have HG2:=hid (grown_trans HGr.out HG1.out);have hL:=lst_len g (l 1) o e x (l 4) env ds rs n r k;have HSuc:=hid (lst_succ g (l 1) o e x (l 4) env ds rs n r k);rw[HVi.out]at HSuc;obtain⟨Ls,hLs⟩:∃L,lst g (l 1) o e x (l 4) env ds rs n r k=L:=⟨_,rfl⟩;rw[hLs]at HO1 HSuc hL;clear hLs
   cases qs with
   | false =>
    have HN:Hid (lst g (l 1) o e x (l 4) env ds rs n r (k+1)=Ls):=hid (by
     rw[HSuc.out];have h:=HQ.out.2
     cases hby:byVia g (l 1) o e x (l 4) env ds rs n r vi with
     | none=>simp
     | some y=>rw[hby]at h;cases h)
    go_wp2;go_roundw
    case rel=>exact⟨k+1,by have:=HVi.out;omega,by have:=HVi.out;congr 1;omega,by rw[HN.out];exact World.ownsRow.alloc HO1.out _,HS1.out.below Bl,grown_trans HG2.out (grown_of_below Bl _)⟩
    case measure=>have:=HVi.out;simp[intOf];omega
   | true =>
    have HN:Hid (lst g (l 1) o e x (l 4) env ds rs n r (k+1)=Ls++[⟨qv,qp,ql,qm⟩]):=hid (by
     rw[HSuc.out];have h:=HQ.out
     cases hby:byVia g (l 1) o e x (l 4) env ds rs n r vi with
     | none=>rw[hby]at h;cases h.2
     | some y=>rw[hby]at h;have h1:=h.1;simp at h1;rw[h1];rfl)
    have HB3:Hid (Below w1.heap.size w1 ((w1.alloc (.cells #[.int .i64 qv,.int .i64 qp,.int .i64 ql,.bool qm] 106)).alloc (.cells #[.int .i64 qv,.int .i64 qp,.int .i64 ql,.bool qm] 106))):=hid Bl;have HO3:Hid (OwnRts w.heap.size ((w1.alloc (.cells #[.int .i64 qv,.int .i64 qp,.int .i64 ql,.bool qm] 106)).alloc (.cells #[.int .i64 qv,.int .i64 qp,.int .i64 ql,.bool qm] 106)) u7 Ls):=hid (World.ownsRow.alloc (World.ownsRow.alloc HO1.out _) _)
    have HC4:Hid (∀(j:Nat) (u:Value),[.int .i64 qv,.int .i64 qp,.int .i64 ql,.bool qm][j]? = some u→((w1.alloc (.cells #[.int .i64 qv,.int .i64 qp,.int .i64 ql,.bool qm] 106)).alloc (.cells #[.int .i64 qv,.int .i64 qp,.int .i64 ql,.bool qm] 106)).cell? ((⟨w1.heap.size+1,0,none⟩:Addr).add j)=some u):=hid (by
     have h:=cell_four (w1.alloc (.cells #[.int .i64 qv,.int .i64 qp,.int .i64 ql,.bool qm] 106)) (.int .i64 qv) (.int .i64 qp) (.int .i64 ql) (.bool qm) 106;have e:(w1.alloc (.cells #[.int .i64 qv,.int .i64 qp,.int .i64 ql,.bool qm] 106)).heap.size=w1.heap.size+1:=by simp
     rw[e]at h
     exact h)
    go_wp2_with (at_builtin
                 refine wpList_append_own_at _ rfl _ _ 52 rfl w.heap.size 106 i0 _ 4 32 Tryz.underlying52 HI.out HZ0.out HZ1.out HZ2.out rfl (by decide) _ _ _ rfl HO3.out ⟨w1.heap.size+1,0,none⟩ 1 1 [.int .i64 qv,.int .i64 qp,.int .i64 ql,.bool qm] rfl rfl HC4.out (fun u hu=>by simp at hu;rcases hu with rfl|rfl|rfl|rfl<;>rfl) (by unfold maxLen;omega) Om (by simp;omega) ?_
                 intro vA w3 hown' hgrow3 hnil3 hat3)
    have hmid:=row_end HS.out hbw (HS1.out.below HB3.out) (grown_trans HG2.out (grown_of_below HB3.out _)) HO3.out hgrow3;go_roundw
    case rel=>exact⟨k+1,by have:=HVi.out;omega,by have:=HVi.out;congr 1;omega,by rw[HN.out];exact rts_add hown',hmid⟩
    case measure=>have:=HVi.out;simp[intOf];omega
 have e1:vi=n:=by omega
 have e2:k=n+2:=by omega
 subst e2;have d1:decide (vi<(n:Int))=false:=decide_eq_false hlt;clear hlt;go_wp2;go_ret;exact⟨_,rfl,HOr.out,HSr.out,HGr.out⟩
end Go.Proofs.YtcnoemjeijjnjaaGreat.sceneCand
namespace Go.Proofs.YtcnoemjeijjnjaaGreat.candHole
open Go base netSem routeRow candSem
theorem hole (q:Nat→Int) (n:Nat) (hn:n≤4) (hq:∀j,j≤n→0≤q j∧q j<n) (hc:∀a b,q a=q b→q (a+1)=q (b+1)) (he:q (n+1)<0):False:=by
 have hs:∀t a b,q a=q b→q (a+t)=q (b+t):=by
  intro t
  induction t with
  | zero=>intro a b h;exact h
  | succ t ih=>intro a b h;exact hc _ _ (ih a b h)
 have hne:∀a b,a<b→b≤n→q a≠q b:=fun a b hab hb e=>by
  have h:=hs (n+1 - b) a b e;rw[show b+(n+1 - b)=n+1 from by omega]at h;have:=hq (a+(n+1 - b)) Om;omega
 obtain rfl|rfl|rfl|rfl|rfl:n=0∨n=1∨n=2∨n=3∨n=4:=by omega
 · have:=hq 0 Om;omega
 · have h0:=hq 0 Om;have h1:=hq 1 Om;have:=hne 0 1 Om Om;omega
 · have h0:=hq 0 Om;have h1:=hq 1 Om;have h2:=hq 2 Om;have:=hne 0 1 Om Om;have:=hne 0 2 Om Om;have:=hne 1 2 Om Om;omega
 · have h0:=hq 0 Om;have h1:=hq 1 Om;have h2:=hq 2 Om;have h3:=hq 3 Om;have:=hne 0 1 Om Om;have:=hne 0 2 Om Om;have:=hne 0 3 Om Om;have:=hne 1 2 Om Om;have:=hne 1 3 Om Om;have:=hne 2 3 Om Om;omega
 have h0:=hq 0 Om;have h1:=hq 1 Om;have h2:=hq 2 Om;have h3:=hq 3 Om;have h4:=hq 4 Om;have n01:=hne 0 1 Om Om;have n02:=hne 0 2 Om Om;have n03:=hne 0 3 Om Om;have n04:=hne 0 4 Om Om;have n12:=hne 1 2 Om Om;have n13:=hne 1 3 Om Om;have n14:=hne 1 4 Om Om;have n23:=hne 2 3 Om Om;have n24:=hne 2 4 Om Om;have n34:=hne 3 4 Om Om;clear hne hs hc hq;generalize q 0=a at *;generalize q 1=b at *;generalize q 2=c at *;generalize q 3=d at *;generalize q 4=e at *;obtain rfl|rfl|rfl|rfl:a=0∨a=1∨a=2∨a=3:=by omega
 all_goals (obtain rfl|rfl|rfl|rfl:b=0∨b=1∨b=2∨b=3:=by omega)<;>omega
def wayQ (rs : Rs) (k : Int) : Nat→Int
 | 0=>k
 | i+1=>(rs (wayQ rs k i).toNat).via
theorem wayQ_shift (rs:Rs) (k:Int) (i:Nat):wayQ rs (rs k.toNat).via i=wayQ rs k (i+1):=by
 induction i with
 | zero=>rfl
 | succ i ih=>simp only[wayQ]at ih ⊢;rw[ih]
theorem thru_way (rs:Rs) (r:Int) (f:Nat) (k:Int) (hk:0≤k):thru rs r f k=false ↔ ∃i,i<f∧(∀j,j≤i→wayQ rs k j≠r∧0≤wayQ rs k j)∧wayQ rs k (i+1)<0:=by
 induction f generalizing k with
 | zero=>simp[thru]
 | succ f ih =>
  simp only[thru];by_cases h1:k=r
  · rw[if_pos h1]
    constructor
    · intro h;cases h
    rintro ⟨i,_,hj,_⟩;exact absurd h1 (hj 0 (Nat.zero_le _)).1
  rw[if_neg h1,if_neg Om];by_cases h2:(rs k.toNat).via<0
  · rw[if_pos h2]
    constructor
    · intro _;refine⟨0,by omega,fun j hj=>?_,h2⟩;obtain rfl:j=0:=by omega
      exact⟨h1,hk⟩
    intro _;rfl
  rw[if_neg h2,ih _ Om]
  constructor
  · rintro ⟨i,hi,hj,he⟩;refine⟨i+1,by omega,fun j hj'=>?_,by rw[←wayQ_shift];exact he⟩
    cases j with
    | zero=>exact⟨h1,hk⟩
    | succ j=>rw[←wayQ_shift];exact hj j Om
  rintro ⟨i,hi,hj,he⟩
  cases i with
  | zero=>exact absurd he h2
  | succ i =>
   refine⟨i,by omega,fun j hj'=>?_,by rw[wayQ_shift];exact he⟩;rw[wayQ_shift];exact hj (j+1) Om
theorem thru_more (rs:Rs) (r:Int) (n:Nat) (k:Int) (hn:n≤4) (hv:∀i,i<n→(rs i).via<n) (hk:0≤k) (hk2:k<n):thru rs r (n+1) k=thru rs r n k:=by
 have h:thru rs r (n+1) k=false ↔ thru rs r n k=false:=by
  rw[thru_way _ _ _ _ hk,thru_way _ _ _ _ hk]
  constructor
  · rintro ⟨i,hi,hj,he⟩;by_cases e:i=n
    · subst e
      have hb:∀j,j≤i→0≤wayQ rs k j∧wayQ rs k j<i:=by
       intro j
       induction j with
       | zero=>intro _;exact⟨hk,hk2⟩
       | succ j ih =>
        intro hj';refine⟨(hj _ hj').2,?_⟩;have h1:=ih Om;exact hv _ Om
      exact(hole (wayQ rs k) i hn hb (fun a b e=>by simp only[wayQ];rw[e]) he).elim
    exact⟨i,by omega,hj,he⟩
  rintro ⟨i,hi,hj,he⟩;exact⟨i,by omega,hj,he⟩
 cases e1:thru rs r (n+1) k<;>cases e2:thru rs r n k<;>simp_all
end Go.Proofs.YtcnoemjeijjnjaaGreat.candHole
namespace Go.Proofs.YtcnoemjeijjnjaaGreat.sceneList
open Go base netSem routeRow nbSem candSem sceneSem sceneCand candHole
theorem by_own (g:R) (nl:Nat) (o e:List Int) (x:R) (nx:Nat) (env:List Int) (ds:List Bool) (rs:Rs) (n:Nat) (router:Int):(byVia g nl o e x nx env ds rs n router (-2)).toList=ownC o router:=by
 unfold byVia openB ownC;by_cases h:0≤hasAt o router<;>simp[h]
theorem by_ext (g:R) (nl:Nat) (o e:List Int) (x:R) (nx:Nat) (env:List Int) (ds:List Bool) (rs:Rs) (n:Nat) (router:Int) (he:∀i,0≤zAt env i):(byVia g nl o e x nx env ds rs n router (-1)).toList=extC e env router:=by
 unfold byVia openB extC annA;by_cases h:0≤hasAt e router
 · have h0:=he (hasAt e router).toNat;by_cases h2:zAt env (hasAt e router).toNat=0
   · simp[h,h2]
   have h3:0<zAt env (hasAt e router).toNat:=by omega
   simp[h,h2,h3];by_cases h4:zAt env (hasAt e router).toNat=2<;>simp[h4]
 simp[h]
theorem by_nb (g:R) (nl:Nat) (o e:List Int) (x:R) (nx:Nat) (env:List Int) (ds:List Bool) (rs:Rs) (n:Nat) (router:Int) (k:Nat) (hk:k<n) (hn:n≤4) (hv:∀i,i<n→(rs i).via<n):(byVia g nl o e x nx env ds rs n router (k:Int)).toList=if nbB g nl ds router k then candOf g nl x nx rs n router k else []:=by
 unfold byVia openB candOf;have e3:¬((k:Int) = -3):=by omega
 have e2:¬((k:Int) = -2):=by omega
 have e1:¬((k:Int) = -1):=by omega
 rw[if_neg e3,if_neg e2,if_neg e1,if_neg e3,if_neg e2,if_neg e1,thru_more rs router n k hn hv Om Om,Int.toNat_natCast]
 cases nbB g nl ds router k with
 | false=>simp
 | true =>
  by_cases h1:(rs k).via = -3
  · simp[h1]
  by_cases h2:thru rs router n k=true
  · simp[h2]
  simp[h1,h2];cases impR g nl x nx router k (rs k)<;>rfl
theorem lst_two (g:R) (nl:Nat) (o e:List Int) (x:R) (nx:Nat) (env:List Int) (ds:List Bool) (rs:Rs) (n:Nat) (router:Int) (hn:n≤4) (hv:∀i,i<n→(rs i).via<n) (he:∀i,0≤zAt env i):∀k,k≤n→lst g nl o e x nx env ds rs n router (k+2)=ownC o router++extC e env router++(nbL g nl ds router k).flatMap (candOf g nl x nx rs n router)
 | 0,_=>by
  rw[lst_succ,lst_succ];have h0:lst g nl o e x nx env ds rs n router 0=[]:=by simp[lst]
  rw[h0,show (((0:Nat):Int) - 2) = -2 from rfl,show (((0+1:Nat):Int) - 2) = -1 from rfl,by_own,by_ext _ _ _ _ _ _ _ _ _ _ _ he];simp[nbL]
 | k+1,hk=>by
  have ih:=lst_two g nl o e x nx env ds rs n router hn hv he k Om;rw[show k+1+2=(k+2)+1 from rfl,lst_succ,ih,show (((k+2:Nat):Int) - 2)=(k:Int) by omega,by_nb _ _ _ _ _ _ _ _ _ _ _ _ Om hn hv,nbL_succ,List.flatMap_append,←List.append_assoc]
  congr 1
  cases nbB g nl ds router k<;>simp
theorem lst_cand (g:R) (nl:Nat) (o e:List Int) (x:R) (nx:Nat) (env:List Int) (ds:List Bool) (rs:Rs) (n:Nat) (router:Int) (hn:n≤4) (hv:∀i,i<n→(rs i).via<n) (he:∀i,0≤zAt env i):lst g nl o e x nx env ds rs n router (n+2)=candL g nl o e x nx env ds rs n router :=
 lst_two g nl o e x nx env ds rs n router hn hv he n (Nat.le_refl _)
end Go.Proofs.YtcnoemjeijjnjaaGreat.sceneList
namespace Go.Proofs.YtcnoemjeijjnjaaGreat.netParts
open Go.RowKit Go.Deep Go base names netSem netImpl heldStore drawn
set_option maxHeartbeats 1600000 in
theorem links_impl (a:Option Addr) (len cap:Nat) (g:R) (r:Nat) (w:World) (hr:Row 3 w a len g) (hcap:len≤cap) (hm:r≤maxLen) :
  Calls Tryz.prog 58 #[.slice a len cap,.int .i64 r] w fun e w'=>e=.returned (.bool (linksB g len r))∧Below w.heap.size w w' := by
 have hmost:=hr.most;unfold maxLen at hmost;have HR:=hid hr;have HM:=hid hm;unfold maxLen at hm;clear hr;by_cases hin:len≤6
 · have hd : Hid (linksB g len r = allN (linkB g r) len) := by
    show _=_
    unfold linksB;rw[decide_eq_true hin,Bool.true_and]
   have hlen:decide ((6:Int)<(len:Int))=false:=decide_eq_false Om;go_enter Tryz.func58,Tryz.ntmps58;go_wp2;go_loopw [12] (fun i wr=>∃k:Nat,k≤len∧i=.int .i64 k∧(∀j,j<k→linkB g r j=true)∧Below w.heap.size w wr) (fun i _=>len - (intOf i).toNat)
   case atStart=>exact⟨0,Nat.zero_le _,rfl,fun j hj=>absurd hj (Nat.not_lt_zero _),Below.refl _ _⟩
   case round =>
    obtain⟨k,hk,rfl,ha,hbel⟩:=hrel;have HA:=hid ha;have HB:=hid hbel;clear ha;by_cases hlt:k<len
    · obtain⟨b0,off,rfl,c0,c1,c2⟩:=HR.out.at3 hlt
      replace c0:=keep hbel c0
      replace c1:=keep hbel c1
      replace c2:=keep hbel c2
      have hkc:(k:Int)≤(cap:Int):=by omega
      have HR2:=hid ((HR.out.front (show k≤len by omega)).below hbel);have HQ:Hid (linkB g r k=(inB (g k 0) 0 (r - 1)&&inB (g k 1) 0 (r - 1)&&decide (g k 0≠g k 1)&&inB (g k 2) 1 100&&decide (linkAt g k (g k 0) (g k 1)<0))):=rfl;clear hbel;generalize g k 0=x at *;generalize g k 1=y at *;generalize g k 2=z at *;obtain⟨L,hL⟩:∃L,linkAt g k x y=L:=⟨_,rfl⟩;rw[hL]at HQ;have HL:=hid hL;clear hL;obtain⟨p1,e1⟩:∃p,inB x 0 (r - 1)=p:=⟨_,rfl⟩;obtain⟨p2,e2⟩:∃p,inB y 0 (r - 1)=p:=⟨_,rfl⟩;obtain⟨p3,e3⟩:∃p,(x==y)=p:=⟨_,rfl⟩;obtain⟨p4,e4⟩:∃p,inB z 1 100=p:=⟨_,rfl⟩;obtain⟨p5,e5⟩:∃p,decide (0≤L)=p:=⟨_,rfl⟩
      have HF:Hid (linkB g r k=(p1&&p2&&!p3&&p4&&!p5)):=by
       show _=_
       rw[HQ.out,e1,e2,e4,←e3,←e5]
       congr 1
       · congr 1
         congr 1
         rw[Bool.eq_iff_iff];simp
       rw[Bool.eq_iff_iff];simp
      clear HQ
      cases p1 with
      | false =>
       go_wp2_with (go_at_call 27;refine(router_impl _ _ _ HM.out).mono ?_;rintro e w' ⟨rfl,rfl⟩);go_ret;exact⟨ret_bool (by rw[hd.out];exact(allN_false hlt HF.out).symm),HB.out.trans ((show Below wr.heap.size wr _ from Bl).mono HB.out.size)⟩
      | true =>
      cases p2 with
      | false =>
       go_wp2_with (go_at_call 27;refine(router_impl _ _ _ HM.out).mono ?_;rintro e w' ⟨rfl,rfl⟩);go_ret;exact⟨ret_bool (by rw[hd.out];exact(allN_false hlt HF.out).symm),HB.out.trans ((show Below wr.heap.size wr _ from Bl).mono HB.out.size)⟩
      | true =>
      cases p3 with
      | true =>
       go_wp2_with (go_at_call 27;refine(router_impl _ _ _ HM.out).mono ?_;rintro e w' ⟨rfl,rfl⟩);go_ret;exact⟨ret_bool (by rw[hd.out];exact(allN_false hlt HF.out).symm),HB.out.trans ((show Below wr.heap.size wr _ from Bl).mono HB.out.size)⟩
      | false =>
      cases p4 with
      | false =>
       go_wp2_with (go_at_call 27;refine(router_impl _ _ _ HM.out).mono ?_;rintro e w' ⟨rfl,rfl⟩);go_quiet (first|(go_at_call 19;exact Calls.quiet_of_same (within_impl _ _ _ _)));go_wp2;go_ret;exact⟨ret_bool (by rw[hd.out];exact(allN_false hlt HF.out).symm),HB.out.trans (((show Below wr.heap.size wr _ from Bl).trans ((below_drewN _ _).mono (by simp))).mono HB.out.size)⟩
      | true =>
       go_wp2_with (go_at_call 27;refine(router_impl _ _ _ HM.out).mono ?_;rintro e w' ⟨rfl,rfl⟩)
       -- BEGIN region 8
       refine region_below (fun u=>⟨#[.slice (some ⟨b0,off,none⟩) len cap,.int .i64 r,undef,undef,u4,.int .i64 k,.pointer (some ⟨wr.heap.size,0,none⟩),.slice (some ⟨b0,off,none⟩) len cap,.int .i64 len,.bool false,.slice (some ⟨b0,off,none⟩) len cap,.int .i64 len,.int .i64 k,.bool true,.int .i64 k,.pointer (some ⟨b0,off+k*3,none⟩),.agg #[.int .i64 x,.int .i64 y,.int .i64 z],.pointer (some ⟨wr.heap.size,0,none⟩),.int .i64 x,.int .i64 r,.bool true,.bool false,.bool false,.pointer (some ⟨wr.heap.size,1,none⟩),.int .i64 y,.int .i64 r,.bool true,.bool false,.bool false,.bool false,.pointer (some ⟨wr.heap.size,0,none⟩),.int .i64 x,.pointer (some ⟨wr.heap.size,1,none⟩),.int .i64 y,.bool false,.bool false,u 36,u 37,u 38,u 39,u 40,u 41,u 42,u 43,u 44,u 45,u 46,u 47,u 48,u49,u50],[]⟩) (fun i=>[36,37,38,39,40,41,42,43,44,45,46,47,48].getD i 0) (fun i v w8=>match i with|0=>v=.pointer (some ⟨wr.heap.size,2,none⟩)|1=>v=.int .i64 z|2=>v=.bool true|3=>v=.bool false|4=>v=.bool false|5=>v=.slice (some ⟨b0,off,none⟩) len cap|6=>v=.int .i64 k|7=>v=.slice (some ⟨b0,off,none⟩) k cap|8=>v=.pointer (some ⟨wr.heap.size,0,none⟩)|9=>v=.int .i64 x|10=>v=.pointer (some ⟨wr.heap.size,1,none⟩)|11=>v=.int .i64 y|12=>v=.bool p5|_=>True) _ 13 (fun k=>match k with|36=>u36|37=>u37|38=>u38|39=>u39|40=>u40|41=>u41|42=>u42|43=>u43|44=>u44|45=>u45|46=>u46|47=>u47|48=>u48|_=>undef) (by rfl) Kr (by rfl) ⟨by kernel_rfl,by kernel_rfl,by kernel_rfl,by decide⟩ Kr Bz ?hput ?hinj ?stable ?step ?last
       case hput =>
        intro i hi u v
        iterate 13 (rcases i with _|i;rfl)
        exact absurd hi Om
       case hinj =>
        intro i j hi hj h;exact slots_inj [36,37,38,39,40,41,42,43,44,45,46,47,48] (by decide) hi hj h
       case stable =>
        intro i v w8 w9 hb h
        iterate 13 (rcases i with _|i;exact h)
        trivial
       case step =>
        intro i hi u w8 S8 hdep
        match i,hi with
        | 0,_ =>
         clear hdep;refine⟨_,rfl,fun K' hK=>?_⟩;go_simp;exact hK.out _ _ Bz rfl
        | 1,_ =>
         have h0:(u 36)=.pointer (some ⟨wr.heap.size,2,none⟩):=hdep 0 Kr;clear hdep;refine⟨_,rfl,fun K' hK=>?_⟩;have hc:w8.cell? ⟨wr.heap.size,2,none⟩=some (.int .i64 z):=keep S8 (by simp[go_sem]);simp only[h0]at hK ⊢;go_simp;exact hK.out _ _ Bz rfl
        | 2,_ =>
         have h1:(u 37)=.int .i64 z:=hdep 1 Kr;clear hdep;refine⟨_,rfl,fun K' hK=>?_⟩;simp only[h1]at hK ⊢;go_simp;refine(within_impl z 1 100 _).mono ?_;rintro e w9 ⟨rfl,rfl⟩;exact hK.out _ _ Bz (by rw[e4])
        | 3,_ =>
         have h2:(u 38)=.bool true:=hdep 2 Kr;clear hdep;refine⟨_,rfl,fun K' hK=>?_⟩;simp only[h2]at hK ⊢;go_simp;exact hK.out _ _ Bz rfl
        | 4,_ =>
         have h3:(u 39)=.bool false:=hdep 3 Kr;clear hdep;refine⟨_,rfl,fun K' hK=>?_⟩;simp only[h3]at hK ⊢;go_simp;exact hK.out _ _ Bz rfl
        | 5,_ =>
         have h4:(u 40)=.bool false:=hdep 4 Kr;clear hdep;refine⟨_,rfl,fun K' hK=>?_⟩;simp only[h4]at hK ⊢;go_simp;exact hK.out _ _ Bz rfl
        | 6,_ =>
         have h4:(u 40)=.bool false:=hdep 4 Kr;clear hdep;refine⟨_,rfl,fun K' hK=>?_⟩;simp only[h4]at hK ⊢;go_simp;exact hK.out _ _ Bz rfl
        | 7,_ =>
         have h4:(u 40)=.bool false:=hdep 4 Kr;have h5:(u 41)=.slice (some ⟨b0,off,none⟩) len cap:=hdep 5 Kr;have h6:(u 42)=.int .i64 k:=hdep 6 Kr;clear hdep;refine⟨_,rfl,fun K' hK=>?_⟩;simp only[h4,h5,h6]at hK ⊢;go_simp;exact hK.out _ _ Bz rfl
        | 8,_ =>
         have h4:(u 40)=.bool false:=hdep 4 Kr;clear hdep;refine⟨_,rfl,fun K' hK=>?_⟩;simp only[h4]at hK ⊢;go_simp;exact hK.out _ _ Bz rfl
        | 9,_ =>
         have h4:(u 40)=.bool false:=hdep 4 Kr;have h8:(u 44)=.pointer (some ⟨wr.heap.size,0,none⟩):=hdep 8 Kr;clear hdep;refine⟨_,rfl,fun K' hK=>?_⟩;have hc:w8.cell? ⟨wr.heap.size,0,none⟩=some (.int .i64 x):=keep S8 (by simp[go_sem]);simp only[h4,h8]at hK ⊢;go_simp;exact hK.out _ _ Bz rfl
        | 10,_ =>
         have h4:(u 40)=.bool false:=hdep 4 Kr;clear hdep;refine⟨_,rfl,fun K' hK=>?_⟩;simp only[h4]at hK ⊢;go_simp;exact hK.out _ _ Bz rfl
        | 11,_ =>
         have h4:(u 40)=.bool false:=hdep 4 Kr;have h10:(u 46)=.pointer (some ⟨wr.heap.size,1,none⟩):=hdep 10 Kr;clear hdep;refine⟨_,rfl,fun K' hK=>?_⟩;have hc:w8.cell? ⟨wr.heap.size,1,none⟩=some (.int .i64 y):=keep S8 (by simp[go_sem]);simp only[h4,h10]at hK ⊢;go_simp;exact hK.out _ _ Bz rfl
        | 12,_ =>
         have h4:(u 40)=.bool false:=hdep 4 Kr;have h7:(u 43)=.slice (some ⟨b0,off,none⟩) k cap:=hdep 7 Kr;have h9:(u 45)=.int .i64 x:=hdep 9 Kr;have h11:(u 47)=.int .i64 y:=hdep 11 Kr;clear hdep;refine⟨_,rfl,fun K' hK=>?_⟩;simp only[h4,h7,h9,h11]at hK ⊢;go_simp;refine(joined_impl (some ⟨b0,off,none⟩) k cap g x y _ ((HR2.out.below Bl).below S8)).mono ?_;rintro e w9 ⟨rfl,hb9⟩;exact hK.out _ _ hb9 (by rw[HL.out,e5])
        | i+13,hi=>exact absurd hi Om
       case last =>
        intro u w8 S8 hall;have h4:(u 40)=.bool false:=hall 4 (by decide);have h12:(u 48)=.bool p5:=hall 12 (by decide);clear hall;refine⟨_,rfl,fun K' hK=>?_⟩;simp only[h4,h12]at hK ⊢;go_simp;refine hK.out _ _ ?_;have HB9:=hid (HB.out.trans (((show Below wr.heap.size wr _ from Bl).trans (S8.mono (by simp))).mono HB.out.size));clear S8;generalize hu:u=u9 at *;clear hu;clear hK K' h4 h12
        (try simp only[Exit.then])
        cases p5 with
        | true =>
         go_wp2;go_ret;exact⟨ret_bool (by rw[hd.out];exact(allN_false hlt HF.out).symm),HB9.out⟩
        | false =>
         go_wp2;go_roundw
         case rel =>
          refine⟨k+1,by omega,by go_num,fun j hj=>?_,HB9.out⟩;by_cases e:j=k
          · subst e;exact HF.out
          exact HA.out j Om
         case measure=>simp[intOf];omega
       -- END region 8
    have e:k=len:=by omega
    subst e;go_wp2;go_ret;exact⟨ret_bool (by rw[hd.out];exact(allN_of HA.out).symm),HB.out⟩
 have hf:linksB g len r=false:=by unfold linksB;rw[decide_eq_false hin];rfl
 have hlen:decide ((6:Int)<(len:Int))=true:=decide_eq_true Om;rw[hf];clear hf hin;go_enter Tryz.func58,Tryz.ntmps58;go_wp2;go_ret;exact⟨rfl,Below.refl _ _⟩
end Go.Proofs.YtcnoemjeijjnjaaGreat.netParts
