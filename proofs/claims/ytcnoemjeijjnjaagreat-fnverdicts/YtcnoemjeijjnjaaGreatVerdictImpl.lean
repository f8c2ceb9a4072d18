import Derived.Test.YtcnoemjeijjnjaaGreatPart39
set_option linter.unusedVariables false
namespace Go.Proofs.YtcnoemjeijjnjaaGreat.verdictImpl
open Go.RowKit Go.Deep Go.Shelf Go base copy netSem routeRow nbSem candSem hopBetween sceneSem prodSem ssSem rofSem rangeAt rangeTwo picksTwo downsTwo scenesTwo stateTwo verSem verSpec violImpl rtsRow verdictHelp countState cloneImpl downsSpec drawn drawnBelowIn walkSem faultSpec
open prodB (bAt)
open rofRun (Mk markD leaves_marks Ch)
open rofImpl (Fine)
open intsOwn (OwnInts own_pass)
attribute [local go_sem] Oper.semAt_some
theorem scenes_impl (b k:Nat) (w:World) :
  Calls Tryz.prog 46 #[.pointer (some ⟨b,0,none⟩),.int .i64 (k:Int)] w fun e w'=>e=.returned (.func (.func 81) #[] #[.pointer (some ⟨w.heap.size,0,none⟩),.pointer (some ⟨w.heap.size+1,0,none⟩)])∧w' = (w.alloc (.cells #[.pointer (some ⟨b,0,none⟩)] 61)).alloc (.cells #[.int .i64 (k:Int)] 3):=by
 go_enter Tryz.func46,Tryz.ntmps46;go_wp2;go_ret;exact⟨rfl,rfl⟩
theorem states_fn (sb:Nat) (w:World) :
  Calls Tryz.prog 47 #[.pointer (some ⟨sb,0,none⟩)] w fun e' w'=>e' = .returned (.func (.func 84) #[] #[.pointer (some ⟨w.heap.size,0,none⟩)])∧w' = w.alloc (.cells #[.pointer (some ⟨sb,0,none⟩)] 94):=by
 go_enter Tryz.func47,Tryz.ntmps47;go_wp2;go_ret;exact⟨rfl,rfl⟩
theorem leave_ver {tmps:Array Value} {R:Ending→World→Prop} {D vb Bm:Nat} {W:World} {c0 c1 c2 c3 c4 c5:Value} (h4:tmps[4]?.getD undef=.pointer (some ⟨vb,0,none⟩)) (hv:W.heap[vb]? = some (.cells #[c0,c1,c2,c3,c4,c5] 37 (0,0))) (hD:W.heap[D]? = some (.deferred (some [])))
  (hR:∀W',Ch (fun q=>q=D) W W'→R (.returned (.agg #[c0,c1,c2,c3,c4,c5])) W'):LeavesInM Fence.wide 9 Tryz.prog Tryz.f20 tmps R [markD D] .returning W:=by
 refine leaves_marks (B:=0) [D] W ⟨by simp,fun D' hD'=>by simp only[List.mem_singleton]at hD';subst hD';exact⟨Nat.zero_le _,hD⟩⟩ fun W' hc=>?_;have hc':Ch (fun q=>q=D) W W' := hc.mono (fun q hq=>by simpa using hq)
 have hne:vb≠D:=fun e=>by
  subst e;rw[hD]at hv;cases hv
 have hv' := (hc'.blk vb (Array.getElem?_eq_some_iff.1 hv).1 hne).trans hv;have k0:W'.cell? ⟨vb,0,none⟩=some c0:=by simp[World.cell?,hv']
 have k1:W'.cell? ⟨vb,1,none⟩=some c1:=by simp[World.cell?,hv']
 have k2:W'.cell? ⟨vb,2,none⟩=some c2:=by simp[World.cell?,hv']
 have k3:W'.cell? ⟨vb,3,none⟩=some c3:=by simp[World.cell?,hv']
 have k4:W'.cell? ⟨vb,4,none⟩=some c4:=by simp[World.cell?,hv']
 have k5:W'.cell? ⟨vb,5,none⟩=some c5:=by simp[World.cell?,hv']
 refine⟨_,?_,hR W' hc'⟩;simp[results,Tryz.f20,go_sem,h4,k0,k1,k2,k3,k4,k5]
def stP (g : R) (og ex : List Int) (x : R) (l : Nat→Nat) (d : List Bool) (env : List Int) : List (List Rt) := (viasP g (l 1) og ex x (l 4) env d (l 0)).map (stateOf g (l 1) og ex x (l 4) env d (l 0))
theorem via_ok {g:R} {og ex:List Int} {x:R} {l:Nat→Nat} {d:List Bool} {env vs:List Int} (hf:Fine (l 0) l g x) (hn1:1≤l 0) (h:vs∈viasP g (l 1) og ex x (l 4) env d (l 0)):Viable (rF (stateOf g (l 1) og ex x (l 4) env d (l 0) vs)) (l 0):=by
 unfold viasP at h;obtain⟨h1,h2⟩:=List.mem_filter.1 h;have hlen:=prod_len h1
 have hvv:∀i,-3≤zAt vs i∧zAt vs i<(l 0:Int):=fun i=>by
  by_cases hi:i<l 0
  · exact stateSeq.row_in (prod_in h1 i hi)
  unfold zAt;rw[List.getElem?_eq_none Om];simp only[Option.getD_none];omega
 have hok:okV g (l 1) og ex x (l 4) env d vs (l 0)=true:=by
  unfold goodB at h2;simp only[Bool.and_eq_true]at h2;exact h2.1
 intro i hi
 have e:rF (stateOf g (l 1) og ex x (l 4) env d (l 0) vs) i=valR g (l 1) og ex x (l 4) env d vs (l 0) i:=by
  unfold rF stateOf;rw[List.getElem?_map,List.getElem?_range hi];rfl
 rw[e];exact(stateSeq.valR_bounds hn1 hf.few hvv hf.cost hok hi).1
def Gd (fa : List Rt→Int) (L : List (List Bool × List Int × List Rt)) : Prop := ∀t∈L,decide (0≤fa t.2.2)=false
theorem rt_by {n:Nat} {A A':World} {a:Option Addr} {r:Rs} (h:RtRow A a n r) (hk:∀q o v,a=some ⟨q,0,none⟩→A.cell? ⟨q,o,none⟩=some v→A'.cell? ⟨q,o,none⟩=some v) (ha:∀q o,a=some ⟨q,o,none⟩→o=0:=by intro q o e;injection e with e;injection e with _ e;exact e.symm):RtRow A' a n r :=
 ⟨h.most,fun i hi=>by
  obtain⟨q,off,e,hc⟩:=h.cell i hi;have:=ha q off e;subst this
  exact⟨q,0,e,fun j hj=>hk _ _ _ e (hc j hj)⟩⟩
theorem laid_as {w:World} {N len k:Nat} {g g':Rs} (h:RtLaid w N len k g) (he:∀i,i<k→g i=g' i):RtLaid w N len k g' := by
 obtain⟨f,hf,hc⟩:=h.row;exact⟨f,hf,fun i hi j hj=>by rw[←he i hi];exact hc i hi j hj⟩
def Ap (v v' : Value) : Prop := ∀g,v.ownBlock=some g→v'.ownBlock=some g→False
def VAp (v : Value) : Prop := ∀a0 a1 a2 ev vv a5,v=.agg #[a0,a1,a2,ev,vv,a5]→Ap ev vv
theorem vap_of {a0 a1 a2 ev vv a5:Value} (h:Ap ev vv):VAp (.agg #[a0,a1,a2,ev,vv,a5]):=fun b0 b1 b2 ev' vv' b5 e=>by
 injection e with e;injection e with e;simp only[List.cons.injEq,and_true]at e;obtain⟨_,_,_,h1,h2,_⟩:=e;rw[←h1,←h2];exact h
def Done (w : World) (lk b vb : Nat) (ST : List Bool→List Int→List (List Rt)) (DL : List (List Bool)) (EL : List (List Int)) (fa : List Rt→Int) (A : World) : Prop :=
 Df (fun q=>q=lk∨q=b) w A∧∃pre d e s rest dv ev vv,trips ST DL EL=pre++(d,e,s)::rest∧(∀t∈pre,decide (0≤fa t.2.2)=false)∧decide (0≤fa s)=true ∧
  A.heap[vb]? = some (.cells #[.bool false,.int .i64 ((pre.length:Int)+1),dv,ev,vv,.int .i64 (fa s)] 37 (0,0))∧OwnBools (w.heap.size+1) A dv d∧OwnInts (w.heap.size+1) A ev e∧OwnInts (w.heap.size+1) A vv (s.map (·.via))∧w.heap.size<vb∧Ap ev vv
theorem six_block {W:World} {b:Nat} {t:TypeId} {a0 a1 a2 a3 a4 a5 v0 v1 v2 v3 v4 v5:Value} (h:W.heap[b]? = some (.cells #[a0,a1,a2,a3,a4,a5] t (0,0))):((((((W.setCell ⟨b,0,none⟩ v0).setCell ⟨b,1,none⟩ v1).setCell ⟨b,2,none⟩ v2).setCell ⟨b,3,none⟩ v3).setCell ⟨b,4,none⟩ v4).setCell ⟨b,5,none⟩ v5).heap[b]? = some (.cells #[v0,v1,v2,v3,v4,v5] t (0,0)):=by
 have h0:=set_block (j:=0) (v:=v0) h;have h1:=set_block (j:=1) (v:=v1) h0;have h2:=set_block (j:=2) (v:=v2) h1;have h3:=set_block (j:=3) (v:=v3) h2;have h4:=set_block (j:=4) (v:=v4) h3;have h5:=set_block (j:=5) (v:=v5) h4;simpa using h5
theorem six_df (W:World) (b:Nat) (v0 v1 v2 v3 v4 v5:Value):Df (fun q=>q=b) W ((((((W.setCell ⟨b,0,none⟩ v0).setCell ⟨b,1,none⟩ v1).setCell ⟨b,2,none⟩ v2).setCell ⟨b,3,none⟩ v3).setCell ⟨b,4,none⟩ v4).setCell ⟨b,5,none⟩ v5):=by
 have one:∀(W:World) (j:Nat) (v:Value),Df (fun q=>q=b) W (W.setCell ⟨b,j,none⟩ v):=fun W j v=>⟨rfl,rfl,rfl,by simp[World.setCell],fun q _ hx=>Below.heap_setCell _ _ _ _ hx⟩;exact(((((one _ _ _).trans (one _ _ _)).trans (one _ _ _)).trans (one _ _ _)).trans (one _ _ _)).trans (one _ _ _)
theorem own_noc {B n s:Nat} {t:TypeId} {A A':World} {X:Nat→Prop} {v:Value} {xs:List Value} (h:A.ownsRow B t s v n xs) (hd:Df X A A') (hx:∀q,X q→NoC A q):A'.ownsRow B t s v n xs :=
 own_atT h fun g cs hv hh=>hd.blk g (Array.getElem?_eq_some_iff.1 hh).1 (fun k=>hx g k _ _ _ hh)
theorem done_df {w A A':World} {lk b vb:Nat} {ST:List Bool→List Int→List (List Rt)} {DL:List (List Bool)} {EL:List (List Int)} {fa:List Rt→Int} {X:Nat→Prop} (h:Done w lk b vb ST DL EL fa A) (hd:Df X A A') (hx:∀q,X q→w.heap.size≤q∧NoC A q):Done w lk b vb ST DL EL fa A' := by
 obtain⟨hs,pre,d,e,s,rest,dv,ev,vv,t1,t2,t3,t4,t5,t6,t7,t8⟩:=h;refine⟨⟨hd.os.trans hs.os,hd.tape.trans hs.tape,hd.output.trans hs.output,Nat.le_trans hs.size hd.size,fun q hq hn=>(hd.blk q (Nat.lt_of_lt_of_le hq hs.size) (fun k=>by have:=(hx q k).1;omega)).trans (hs.blk q hq hn)⟩,pre,d,e,s,rest,dv,ev,vv,t1,t2,t3,hd.keeps t4 (fun k=>(hx _ k).2 _ _ _ t4),own_noc t5 hd (fun q k=>(hx q k).2),own_noc t6 hd (fun q k=>(hx q k).2),own_noc t7 hd (fun q k=>(hx q k).2),t8⟩
set_option maxRecDepth 100000 in
set_option maxHeartbeats 6400000 in
theorem verdict_impl (lk b B k:Nat) (kind pp way:Int) (fr:Nat) (F:Nat→Value) (p:Nat→Option Addr) (l c:Nat→Nat) (g x f:R) (og ex:List Int) (w:World)
  (hlk:w.heap[lk]? = some (.cells #[.pointer (some ⟨b,0,none⟩),.int .i64 kind,.int .i64 (fr:Int),.int .i64 pp,.int .i64 way,.int .i64 0] 84 (0,0)))
  (hrd:Ready b B F w (p 1) (p 4) (l 1) (l 4) (c 1) (c 4) g x) (hB:B≤w.heap.size) (hF:∀i,i<6→F i=.slice (p i) (l i) (c i))
  (hfit:Fit b F w (p 1) (p 4) (l 1) (l 4) (c 1) (c 4) g x) (ho:IntRow w (p 2) (l 2) og) (he:IntRow w (p 3) (l 3) ex) (hfl:Row 4 w (p 5) (l 5) f)
  (hne:∀i a q,1≤i→i≤5→0<l i→p i=some ⟨a,q,none⟩→a≠b∧a≠lk)
  (hf:Fine (l 0) l g x) (hn1:1≤l 0) (hfr:fr<l 0) (hpp : -1≤pp∧pp≤15) (hL:l 1≤6) (hE:l 3≤6) (hk:k≤2)
  (hTn:(trips (stP g og ex x l) (downsP (l 1) (k+1)) (prod (fun _=>[0,1,2]) (l 3))).length≤900000000) :
  Calls Tryz.prog 20 #[.pointer (some ⟨lk,0,none⟩),.int .i64 (k:Int)] w fun e w'=>∃v,e=.returned v∧IsVer w' w.heap.size (stP g og ex x l) (downsP (l 1) (k+1)) (prod (fun _=>[0,1,2]) (l 3)) (fun st=>faultAt (rF st) f (l 5) (l 0) kind pp way fr) v∧VAp v∧Df (fun q=>q=lk∨q=b) w w' := by
 obtain⟨fa,hfa⟩:∃fa:List Rt→Int,(fun st=>faultAt (rF st) f (l 5) (l 0) kind pp way fr)=fa:=⟨_,rfl⟩;have HFa:Hid (∀st,faultAt (rF st) f (l 5) (l 0) kind pp way fr=fa st):=hid (fun st=>by rw[←hfa]);rw[hfa];obtain⟨ST,hST⟩:∃ST,stP g og ex x l=ST:=⟨_,rfl⟩;have HST:Hid (∀d env,ST d env=(viasP g (l 1) og ex x (l 4) env d (l 0)).map (stateOf g (l 1) og ex x (l 4) env d (l 0))):=hid (fun d env=>by rw[←hST];rfl);rw[hST]at hTn ⊢;obtain⟨H,hH⟩:∃H,w.heap.size=H:=⟨_,rfl⟩;have hbw:b<H:=by rw[←hH];exact ready_lt hrd
 have hlw:lk<H:=by rw[←hH];exact(Array.getElem?_eq_some_iff.1 hlk).1
 have hbl:b≠lk:=fun e=>by
  subst e;have:=stateSeq.ready_type hrd _ _ _ hlk;exact absurd this (by decide)
 obtain⟨W1,hW1⟩:∃W1,(((w.alloc (.cells #[.pointer (some ⟨lk,0,none⟩)] 60)).alloc (.cells #[.bool false,.int .i64 0,.slice none 0 0,.slice none 0 0,.slice none 0 0,.int .i64 0] 37)).alloc (.cells #[.pointer (some ⟨b,0,none⟩)] 61)).alloc (.cells #[.int .i64 (k:Int)] 3)=W1:=⟨_,rfl⟩;have hb1:Below w.heap.size w W1:=by rw[←hW1];exact Bl
 have hz1:W1.heap.size=H+4:=by rw[←hW1,←hH];simp
 have hx:∀(o1 o2 o3 o4:Obj),(((w.alloc o1).alloc o2).alloc o3).alloc o4=W1→W1.heap[H]? = some o1∧W1.heap[H+1]? = some o2∧W1.heap[H+2]? = some o3∧W1.heap[H+3]? = some o4:=fun o1 o2 o3 o4 e=>by
  rw[←e,←hH];have a1:=World.alloc_heap_new w o1;have a2:=World.alloc_heap_new (w.alloc o1) o2;have a3:=World.alloc_heap_new ((w.alloc o1).alloc o2) o3;have a4:=World.alloc_heap_new (((w.alloc o1).alloc o2).alloc o3) o4;simp only[World.size_alloc]at a2 a3 a4;refine⟨?_,?_,?_,a4⟩
  · rw[Below.heap_alloc _ _ _ (by simp;omega),Below.heap_alloc _ _ _ (by simp;omega),Below.heap_alloc _ _ _ (by simp)];exact a1
  · rw[Below.heap_alloc _ _ _ (by simp),Below.heap_alloc _ _ _ (by simp)];exact a2
  rw[Below.heap_alloc _ _ _ (by simp)];exact a3
 obtain⟨y1,y2,y3,y4⟩:=hx _ _ _ _ hW1;have HV1:Hid (Vi w lk b (H+1) H kind pp way fr 0 W1):=hid ⟨(Df.of_below hb1).mono (fun _ _ h=>h.elim),(hb1.block _ Om).trans hlk,y1,y2⟩;have HR1:Hid (Ready b B F W1 (p 1) (p 4) (l 1) (l 4) (c 1) (c 4) g x):=hid (Ready.below hrd hb1);have HRb:Hid (Boxed W1 (H+2) 61 (.pointer (some ⟨b,0,none⟩))):=hid y3;have HKx:Hid (Boxed W1 (H+3) 3 (.int .i64 (k:Int))):=hid y4;have HW1:=hid hW1;have HFit:=hid hfit;have HOg:=hid ho;have HEx:=hid he;have HFl:=hid hfl;have HNe:=hid hne;have HF:=hid hF;have HFn:=hid hf;have HTn:=hid hTn;have HLk:=hid hlk;have q0:((w.alloc (.cells #[.pointer (some ⟨lk,0,none⟩)] 60)).alloc (.cells #[.bool false,.int .i64 0,.slice none 0 0,.slice none 0 0,.slice none 0 0,.int .i64 0] 37)).cell? ⟨lk,0,none⟩=some (.pointer (some ⟨b,0,none⟩)):=keep (show Below w.heap.size w _ from Bl) (by simp[World.cell?,hlk]);clear hlk hrd hfit ho he hfl hne hF hf hTn hfa hST hW1 hx y1 y2 y3 y4 hb1;refine(callsIn_wide (n:=9)).1 ?_;refine callsIn_of_wp_marks Tryz.func20 rfl trivial ?_ rfl;simp only[Tryz.ntmps20,List.size_toArray,List.length_cons,List.length_nil,Nat.reduceAdd,Nat.reduceSub,Array.replicate_succ,Array.replicate_zero,List.push_toArray,List.append_toArray,List.nil_append,List.cons_append];gi_wp2;refine⟨trivial,(callsIn_wide.2 (scenes_impl b k _)).mono ?_⟩;rintro e1 w1 ⟨rfl,hw1⟩;rw[HW1.out]at hw1;have hw1:=hw1.symm;subst hw1;simp only[World.size_alloc,hH];clear q0;gi_wp2
 have HX:Hid (∀A,Df (fun q=>q=lk∨q=b) w A→Fit b F A (p 1) (p 4) (l 1) (l 4) (c 1) (c 4) g x∧IntRow A (p 2) (l 2) og∧IntRow A (p 3) (l 3) ex∧Row 4 A (p 5) (l 5) f):=hid (fun A hd=>by
  have hk:∀(i:Nat),1≤i→i≤5→∀(q o:Nat) (v:Value),(∃o,0<l i∧p i=some ⟨q,o,none⟩)→w.cell? ⟨q,o,none⟩=some v→A.cell? ⟨q,o,none⟩=some v:=fun i i1 i5 q o v hq hc=>by
   obtain⟨o',h0,h1⟩:=hq;have h2:=HNe.out i q o' i1 i5 h0 h1;exact hd.cell hc (fun k=>k.elim h2.2 h2.1)
  exact⟨⟨HFit.out.f1,HFit.out.f4,row_by HFit.out.links (hk 1 Om Om),row_by HFit.out.imports (hk 4 Om Om),HFit.out.gi,HFit.out.xi,HFit.out.few,HFit.out.n1,HFit.out.n4⟩,ints_by HOg.out (hk 2 Om Om),ints_by HEx.out (hk 3 Om Om),row_by HFl.out (hk 5 Om Om)⟩)
 have HPl:Hid (∀i a q,1≤i→i≤4→0<l i→p i=some ⟨a,q,none⟩→a<H∧a≠b∧a≠lk):=hid (fun i a q h1 h2 h3 h4=>by
  have ha:a<w.heap.size:=by
   match i,h1,h2,h3,h4 with
   | 1,_,_,h3,h4=>exact row_lt HFit.out.links h3 h4
   | 2,_,_,h3,h4=>exact ints_lt HOg.out h3 h4
   | 3,_,_,h3,h4=>exact ints_lt HEx.out h3 h4
   | 4,_,_,h3,h4=>exact row_lt HFit.out.imports h3 h4
   | 0,h,_,_,_=>omega
   | i+5,_,h,_,_=>omega
  exact⟨by omega,HNe.out i a q h1 Om h3 h4⟩)
 have h04:l 0≤4:=HFn.out.few
 refine range_out (scenes_two lk (H+1) (H+1+1) (H+1+1+1) b (l 1) (l 3) k (p 1) (p 3) (c 1) (c 3) hL hE hk) rfl (enters_of Tryz.func81 Kr rfl) (fun q hq=>hq.elim) (fun r=>?hstart) KpV.trans (fun W' ob ob' h hc=>KpV.put ob' h hc Om) (fun _=>rfl)
  (fun pre A=>Vi w lk b (H+1) H kind pp way fr ((pre.map pr).flatMap (tr ST)).length A∧Ready b B F A (p 1) (p 4) (l 1) (l 4) (c 1) (c 4) g x∧Gd fa ((pre.map pr).flatMap (tr ST)))
  (fun c A=>c=.ret∧Done w lk b (H+1) ST (downsP (l 1) (k+1)) (prod (fun _=>[0,1,2]) (l 3)) fa A) ?hI ?hIx ?hAt (fun _ _ _ _ _=>trivial) ⟨HV1.out,HR1.out,fun t ht=>by simp at ht⟩
  (fun x a' A=>∃ab,a' = ⟨#[.pointer (some ⟨lk,0,none⟩),.int .i64 (k:Int),.pointer (some ⟨H,0,none⟩),undef,.pointer (some ⟨H+1,0,none⟩),.pointer (some ⟨ab,0,none⟩),undef,undef,undef,.pointer (some ⟨lk,0,none⟩),.pointer (some ⟨lk,0,none⟩),.pointer (some ⟨lk,0,none⟩),.pointer (some ⟨b,0,none⟩),.int .i64 (k:Int),.func (.func 81) #[] #[.pointer (some ⟨H+1+1,0,none⟩),.pointer (some ⟨H+1+1+1,0,none⟩)],.pointer (some ⟨x.1,0,none⟩),undef,undef,undef,undef,undef,undef,undef,undef,undef,undef,undef,undef,undef,undef,undef,undef,undef,undef,undef,undef,undef,undef,undef,undef,undef,undef,undef,undef,undef],[]⟩∧Boxed A ab 94 (.pointer (some ⟨x.1,0,none⟩))∧W1.heap.size+1<ab) ?hAx (fun _ _ h=>KpV.df h) ?hassign ?hbody ?hdone ?hstop
 case hstart =>
  have hb:Below W1.heap.size W1 ((W1.alloc (.deferred (some []))).alloc (.loop r)):=Bl;exact⟨(hb.block _ HRb.out.lt).trans HRb.out,(hb.block _ HKx.out.lt).trans HKx.out,keep hb (by rw[ready_net HR1.out Om,HF.out 1 Om]),keep hb (by rw[ready_net HR1.out Om,HF.out 3 Om])⟩
 case hI =>
  rintro pre A A' hd ⟨h1,h2,h3⟩;have hx:∀q,(False∨(W1.heap.size≤q∧Soft A q))→W1.heap.size≤q:=fun q hq=>hq.elim (fun h=>h.elim) (fun h=>h.1);exact⟨h1.df hd (fun q hq=>by have:=hx q hq;exact⟨by omega,by omega,by omega,fun h=>by omega⟩),ready_df h2 hd (fun k=>by have:=hx _ k;omega) (fun q k=>k.elim (fun h=>h.elim) (fun h=>h.2)),h3⟩
 case hIx =>
  rintro c A A' hd ⟨h1,h2⟩;exact⟨h1,done_df h2 hd (fun q hq=>hq.elim (fun h=>h.elim) (fun h=>⟨by omega,h.2⟩))⟩
 case hAt =>
  rintro pre x A A' ⟨r9,hr9⟩ hd ⟨h1,⟨h2,h3⟩,⟨h4,h5,h6⟩,h7⟩;exact⟨hd.keeps h1 (fun e=>by rw[e,hr9]at h1;cases h1),⟨h2,h3.of_block (hd.blk _ h3.lt (row_not h3 hr9))⟩,⟨h4,h5,h6.of_block (hd.blk _ h6.lt (row_not h6 hr9))⟩,h7⟩
 case hAx =>
  rintro x a A A' hd ⟨ab,h1,h2,h3⟩;exact⟨ab,h1,hd.keeps h2 Om,h3⟩
 case hassign =>
  intro x W' K hlt hK;gi_wp2;exact hK _ _ (Df.alloc _ _) ⟨W'.heap.size,rfl,Boxed.new _ _ _,hlt⟩
 case hdone =>
  rintro xs A hS ⟨h1,h2,h3⟩ - hD;obtain⟨n,hn⟩:∃n,((xs.map pr).flatMap (tr ST)).length=n:=⟨_,rfl⟩
  have HAll:Hid ((∀t∈trips ST (downsP (l 1) (k+1)) (prod (fun _=>[0,1,2]) (l 3)),decide (0≤fa t.2.2)=false)∧(trips ST (downsP (l 1) (k+1)) (prod (fun _=>[0,1,2]) (l 3))).length=n):=hid (by
   rw[hS]at h3 hn;rw[trips_pairs]
   exact⟨h3,hn⟩)
  rw[hn]at h1;have q1:=h1.box.cell;have q5:A.cell? ⟨lk,5,none⟩=some (.int .i64 (n:Int)):=by simp[World.cell?,h1.look]
  have HSo:=hid (states_of lk (n:Int) A q5);have hres:=h1.res;have r0:A.cell? ⟨H+1,0,none⟩=some (.bool false):=by simp[World.cell?,hres]
  have r1:A.cell? ⟨H+1,1,none⟩=some (.int .i64 0):=by simp[World.cell?,hres]
  have r2:A.cell? ⟨H+1,2,none⟩=some (.slice none 0 0):=by simp[World.cell?,hres]
  have r3:A.cell? ⟨H+1,3,none⟩=some (.slice none 0 0):=by simp[World.cell?,hres]
  have r4:A.cell? ⟨H+1,4,none⟩=some (.slice none 0 0):=by simp[World.cell?,hres]
  have r5:A.cell? ⟨H+1,5,none⟩=some (.int .i64 0):=by simp[World.cell?,hres]
  have z0:A.frozen? ⟨H+1,0,none⟩=false:=by simp[World.frozen?,hres]
  have z1:A.frozen? ⟨H+1,1,none⟩=false:=by simp[World.frozen?,hres]
  have z2:A.frozen? ⟨H+1,2,none⟩=false:=by simp[World.frozen?,hres]
  have z3:A.frozen? ⟨H+1,3,none⟩=false:=by simp[World.frozen?,hres]
  have z4:A.frozen? ⟨H+1,4,none⟩=false:=by simp[World.frozen?,hres]
  have z5:A.frozen? ⟨H+1,5,none⟩=false:=by simp[World.frozen?,hres]
  have HV:=hid h1;have HDe:=hid hD;have HRes:=hid hres;clear h1 h2 h3 hD hS hn q5 hres;gi_wp2;refine⟨trivial,(callsIn_wide.2 HSo.out).mono ?_⟩;rintro e9 w9 ⟨rfl,hw9⟩;have hw9:=hw9.symm;subst hw9;gi_wp2;rw[hz1]at HDe;refine leave_ver (Bm:=0) rfl (six_block HRes.out) ((Below.heap_setCell _ _ _ _ (by simp)).trans ((Below.heap_setCell _ _ _ _ (by simp)).trans ((Below.heap_setCell _ _ _ _ (by simp)).trans ((Below.heap_setCell _ _ _ _ (by simp)).trans ((Below.heap_setCell _ _ _ _ (by simp)).trans ((Below.heap_setCell _ _ _ _ (by simp)).trans HDe.out)))))) (fun W' hc=>⟨_,rfl,.inl ⟨HAll.out.1,by rw[HAll.out.2]⟩,vap_of (fun gq h1 _=>by simp[Value.ownBlock]at h1),?_⟩);have hd6:Df (fun q=>q=H+1) A _:=six_df A (H+1) (.bool true) (.int .i64 (n:Int)) (.slice none 0 0) (.slice none 0 0) (.slice none 0 0) (.int .i64 0);have hdc:Df (fun q=>q=H+4) _ W' := ⟨hc.os,hc.tape,hc.output,hc.size,hc.blk⟩;exact⟨hdc.os.trans (hd6.os.trans HV.out.same.os),hdc.tape.trans (hd6.tape.trans HV.out.same.tape),hdc.output.trans (hd6.output.trans HV.out.same.output),Nat.le_trans HV.out.same.size (Nat.le_trans hd6.size hdc.size),fun q hq hn=>(hdc.blk q (by have:=HV.out.same.size;have:=hd6.size;omega) Om).trans ((hd6.blk q (by have:=HV.out.same.size;omega) Om).trans (HV.out.same.blk q hq hn))⟩
 case hstop =>
  rintro c A ⟨rfl,h1⟩ hD;have HJe:=hid h1;have HDe:=hid hD;clear h1 hD;gi_wp2;obtain⟨hs,pre,d,e,s,rest,dv,ev,vv,t1,t2,t3,t4,t5,t6,t7,t8⟩:=HJe.out;refine leave_ver (Bm:=0) rfl t4 HDe.out (fun W' hc=>?_);have hdc:Df (fun q=>q=W1.heap.size) A W' := ⟨hc.os,hc.tape,hc.output,hc.size,hc.blk⟩;have hnc:∀q,q=W1.heap.size→NoC A q:=fun q e=>by subst e;exact noc_of HDe.out rfl
  exact⟨_,rfl,.inr ⟨pre,d,e,s,rest,dv,ev,vv,t1,t2,t3,rfl,own_low (own_noc t5 hdc hnc) Om,own_low (own_noc t6 hdc hnc) Om,own_low (own_noc t7 hdc hnc) Om⟩,vap_of t8.2,⟨hdc.os.trans hs.os,hdc.tape.trans hs.tape,hdc.output.trans hs.output,Nat.le_trans hs.size hdc.size,fun q hq hn=>(hdc.blk q (by have:=hs.size;omega) Om).trans (hs.blk q hq hn)⟩⟩
 case hbody =>
  rintro pre ⟨sb,⟨DB,d⟩,⟨EB,env⟩⟩ a9 A9 ⟨hvi,hrd9,hgood⟩ ⟨hsc,⟨hdl,hdr⟩,⟨hel,hein,her⟩,suf,hsuf⟩ ⟨ab,rfl,hab,habl⟩ hD ⟨r9,hr9⟩;dsimp only at hsc hdl hdr hel hein her hab;obtain⟨hfit9,hog9,hex9,hfl9⟩:=HX.out A9 hvi.same
  obtain⟨bcs,hbb⟩:∃cs,A9.heap[b]? = some (.cells cs 79 (0,0)):=by
   rcases hrd9 with ⟨⟨cs,h3,_⟩,_⟩|⟨V,F',hm⟩
   · exact⟨cs,h3⟩
   obtain⟨cs,h3,_⟩:=hm.row;exact⟨cs,h3⟩
  have typ:∀(q q':Nat) (cs cs':Array Value) (t t':TypeId),A9.heap[q]? = some (.cells cs t (0,0))→A9.heap[q']? = some (.cells cs' t' (0,0))→t≠t'→q≠q' := fun q q' cs cs' t t' h1 h2 h3 e=>by
   subst e;rw[h1]at h2;injection h2 with h2;injection h2 with _ h2 _;exact h3 h2
  have her' := her;have hdr' := hdr;obtain⟨ecs,hEb,_⟩:=her';obtain⟨dcs,hDb,_⟩:=hdr'
  have hscA:Sc sb b B F p l c g og ex x (some ⟨EB,0,none⟩) (some ⟨DB,0,none⟩) (l 3) (l 3) (l 1) (l 1) env d A9 :=
   ⟨by simp[World.cell?,hsc],by simp[World.cell?,hsc],by simp[World.cell?,hsc],hrd9,hfit9,HF.out 2 Om,HF.out 3 Om,hog9,hex9,⟨hel,by unfold maxLen;omega,fun i hi'=>⟨EB,0,rfl,by simpa[zAt] using her.cell hi'⟩⟩,⟨hdl,by unfold maxLen;omega,fun i hi'=>⟨DB,0,rfl,by simpa[bAt] using hdr.cell hi'⟩⟩,
    typ _ _ _ _ _ _ hsc hbb (by decide),fun a q h1 h2=>(HPl.out 2 a q Om Om h1 h2).2.1,fun a q h1 h2=>(HPl.out 3 a q Om Om h1 h2).2.1,fun a q _ e=>by injection e with e;injection e with e _;subst e;exact typ _ _ _ _ _ _ hEb hbb (by decide),fun a q _ e=>by injection e with e;injection e with e _;subst e;exact typ _ _ _ _ _ _ hDb hbb (by decide),Nat.le_trans hB hvi.same.size,rfl,rfl⟩
  have hty:Ty lk (H+1) sb p l (some ⟨EB,0,none⟩) (some ⟨DB,0,none⟩) (l 3) (l 1):=fun a ha=>by
   rcases ha with rfl|⟨q,h0,h1⟩|⟨q,h0,h1⟩|⟨q,h0,h1⟩|⟨q,h0,h1⟩|⟨q,h0,h1⟩|⟨q,h0,h1⟩
   · exact⟨typ _ _ _ _ _ _ hsc hvi.look (by decide),typ _ _ _ _ _ _ hsc hvi.res (by decide)⟩
   · have:=HPl.out 1 a q Om Om h0 h1;exact⟨this.2.2,by omega⟩
   · have:=HPl.out 2 a q Om Om h0 h1;exact⟨this.2.2,by omega⟩
   · have:=HPl.out 3 a q Om Om h0 h1;exact⟨this.2.2,by omega⟩
   · have:=HPl.out 4 a q Om Om h0 h1;exact⟨this.2.2,by omega⟩
   · injection h1 with h1;injection h1 with h1 _;subst h1;exact⟨typ _ _ _ _ _ _ hEb hvi.look (by decide),typ _ _ _ _ _ _ hEb hvi.res (by decide)⟩
   injection h1 with h1;injection h1 with h1 _;subst h1;exact⟨typ _ _ _ _ _ _ hDb hvi.look (by decide),typ _ _ _ _ _ _ hDb hvi.res (by decide)⟩
  have hen:∀i,0≤zAt env i:=fun i=>by
   by_cases hi:i<l 3
   · have:=hein i hi;simp only[List.mem_cons,List.not_mem_nil,or_false]at this;omega
   unfold zAt;rw[List.getElem?_eq_none Om];simp
  obtain⟨T0,hT0⟩:∃T0,(pre.map pr).flatMap (tr ST)=T0:=⟨_,rfl⟩;rw[hT0]at hvi hgood
  have HTr:Hid (∃r,trips ST (downsP (l 1) (k+1)) (prod (fun _=>[0,1,2]) (l 3))=T0++tr ST (d,env)++r):=hid (by
   rw[trips_pairs];have e1:((downsP (l 1) (k+1)).flatMap fun d=>(prod (fun _=>[0,1,2]) (l 3)).map fun e=>(d,e))=pairsP (l 1) k (l 3):=rfl;rw[e1,hsuf,List.flatMap_append,List.flatMap_cons,hT0]
   exact⟨suf.flatMap (tr ST),by rw[List.append_assoc];rfl⟩)
  have HNq:Hid ((sb≠lk∧sb≠b)∧(DB≠lk∧DB≠b)∧(EB≠lk∧EB≠b)∧(ab≠lk∧ab≠b)):=hid ⟨⟨typ _ _ _ _ _ _ hsc hvi.look (by decide),typ _ _ _ _ _ _ hsc hbb (by decide)⟩,⟨typ _ _ _ _ _ _ hDb hvi.look (by decide),typ _ _ _ _ _ _ hDb hbb (by decide)⟩,⟨typ _ _ _ _ _ _ hEb hvi.look (by decide),typ _ _ _ _ _ _ hEb hbb (by decide)⟩,⟨typ _ _ _ _ _ _ hab hvi.look (by decide),typ _ _ _ _ _ _ hab hbb (by decide)⟩⟩;have HT0:=hid hT0;have HVi:=hid hvi;have HRd9:=hid hrd9;have HGd:=hid hgood;have HSc:=hid hscA;have HTy:=hid hty;have HEn:=hid hen;have HAb:=hid hab;have HD9:=hid hD;have HR9:=hid hr9;have HRD:=hid hdr;have HRE:=hid her;have HLD:=hid hdl;have HLE:=hid hel;have HScb:=hid hsc;have q5:=hab.cell;clear hvi hrd9 hgood hscA hty hen hab hD hr9 hdr her hdl hel hein hsc hsuf hfit9 hog9 hex9 hfl9 hbb typ hEb hDb hT0;gi_wp2;refine⟨trivial,(CallsIn.inRound _ (callsIn_wide.2 (states_fn sb A9))).mono ?_⟩;rintro e8 A10 ⟨rfl,hA10⟩;have hb10:Below A9.heap.size A9 A10:=by rw[hA10];exact Bl
  have HSx:Hid (Boxed A10 A9.heap.size 94 (.pointer (some ⟨sb,0,none⟩))):=hid (by rw[hA10];exact Boxed.new _ _ _);have hz10:A10.heap.size=A9.heap.size+1:=by rw[hA10];simp
  have HB10:=hid hb10;have hd10:Df (fun _=>False) A9 A10:=Df.of_below hb10;have HR10:Hid (A10.heap[W1.heap.size+1]? = some (.loop r9)):=hid (hd10.keeps HR9.out (fun h=>h));have HVi10:Hid (Vi w lk b (H+1) H kind pp way fr T0.length A10):=hid (HVi.out.df hd10 (fun q hq=>hq.elim));have HD10:Hid (Df (fun q=>q=lk∨q=b) A9 A10):=hid (hd10.mono (fun _ _ h=>h.elim));have hs9:H≤A9.heap.size:=by have:=HVi.out.same.size;omega
  have hlA:H+1<A9.heap.size:=(Array.getElem?_eq_some_iff.1 HVi.out.res).1;obtain⟨stF,hstF⟩:∃stF:List Int→List Rt,stateOf g (l 1) og ex x (l 4) env d (l 0)=stF:=⟨_,rfl⟩;have HStF:=hid hstF;clear hA10 hb10 hd10 q5 hstF;gi_wp2
  refine range_in (states_two (sb:=sb) (b:=b) (B:=B) (F:=F) (p:=p) (l:=l) (c:=c) (g:=g) (o:=og) (e:=ex) (x:=x) (ea:=some ⟨EB,0,none⟩) (da:=some ⟨DB,0,none⟩) (el:=l 3) (ec:=l 3) (dl:=l 1) (dc:=l 1) (env:=env) (ds:=d) lk (H+1) (l 0) A9.heap.size (HF.out 0 Om) HFn.out rfl hn1 HEn.out) HR10.out rfl (enters_of Tryz.func84 Kr rfl) (fun q hq=>by omega) (fun r=>?istart) KpV.trans (fun W' ob ob' h hc=>KpV.put ob' h hc Om) (fun _=>rfl)
   (fun pre2 A=>Vi w lk b (H+1) H kind pp way fr (T0.length+pre2.length) A∧Gd fa (T0++pre2.map (fun y=>(d,env,stF y.2)))∧Df (fun q=>q=lk∨q=b) A9 A)
   (fun cc A=>cc=.ret∧Done w lk b (H+1) ST (downsP (l 1) (k+1)) (prod (fun _=>[0,1,2]) (l 3)) fa A∧Ready b B F A (p 1) (p 4) (l 1) (l 4) (c 1) (c 4) g x∧Df (fun q=>q=lk∨q=b∨q=H+1) A9 A∧∃cs,A.heap[lk]? = some (.cells cs 84 (0,0))) ?iI ?iIx ?iAt ?iEnd ⟨HVi10.out,fun t ht=>HGd.out t (by simpa using ht),HD10.out⟩
   (fun y a' _=>a' = ⟨#[.pointer (some ⟨lk,0,none⟩),.int .i64 (k:Int),.pointer (some ⟨H,0,none⟩),undef,.pointer (some ⟨H+1,0,none⟩),.pointer (some ⟨ab,0,none⟩),.slice (some ⟨y.1,0,none⟩) (l 0) (l 0),undef,undef,.pointer (some ⟨lk,0,none⟩),.pointer (some ⟨lk,0,none⟩),.pointer (some ⟨lk,0,none⟩),.pointer (some ⟨b,0,none⟩),.int .i64 (k:Int),.func (.func 81) #[] #[.pointer (some ⟨H+1+1,0,none⟩),.pointer (some ⟨H+1+1+1,0,none⟩)],.pointer (some ⟨sb,0,none⟩),.pointer (some ⟨sb,0,none⟩),.func (.func 84) #[] #[.pointer (some ⟨A9.heap.size,0,none⟩)],.slice (some ⟨y.1,0,none⟩) (l 0) (l 0),undef,undef,undef,undef,undef,undef,undef,undef,undef,undef,undef,undef,undef,undef,undef,undef,undef,undef,undef,undef,undef,undef,undef,undef,undef,undef],[]⟩) (fun _ _ _ _ _ h=>h) (fun _ _ h=>KpV.df h) ?iassign ?ibody ?idone ?istop
  case istart =>
   have hb:Below A10.heap.size A10 (A10.alloc (.loop r)):=Bl;exact⟨(hb.block _ HSx.out.lt).trans HSx.out,(HSc.out.below HB10.out).below hb,HTy.out⟩
  case iI =>
   rintro pre2 A A' hd ⟨h1,h2,h3⟩;have hx:∀q,(q=b∨(A10.heap.size≤q∧Soft A q))→q=b∨A10.heap.size≤q:=fun q hq=>hq.imp id (fun h=>h.1);exact⟨h1.df hd (fun q hq=>by have:=hx q hq;exact⟨by omega,by omega,by omega,fun h=>by omega⟩),h2,hd.os.trans h3.os,hd.tape.trans h3.tape,hd.output.trans h3.output,Nat.le_trans h3.size hd.size,fun q hq hn=>(hd.blk q (Nat.lt_of_lt_of_le hq h3.size) (fun k=>by have:=hx q k;omega)).trans (h3.blk q hq hn)⟩
  case iIx =>
   rintro cc A A' hd ⟨h1,h2,h3,h4,cs,h5⟩;have hx:∀q,(False∨(A10.heap.size≤q∧NoC A q))→A10.heap.size≤q∧NoC A q:=fun q hq=>hq.elim (fun h=>h.elim) id;exact⟨h1,done_df h2 hd (fun q hq=>⟨by have:=(hx q hq).1;omega,(hx q hq).2⟩),ready_df h3 hd (fun k=>by have:=(hx _ k).1;omega) (fun q k cs t fr h9=>absurd h9 ((hx q k).2 cs t fr)),⟨hd.os.trans h4.os,hd.tape.trans h4.tape,hd.output.trans h4.output,Nat.le_trans h4.size hd.size,fun q hq hn=>(hd.blk q (Nat.lt_of_lt_of_le hq h4.size) (fun k=>by have:=(hx q k).1;omega)).trans (h4.blk q hq hn)⟩,cs,hd.keeps h5 (fun k=>by have:=(hx _ k).1;omega)⟩
  case iAt =>
   rintro pre2 y A A' ⟨r7,hr7⟩ hd ⟨h1,h2,h3⟩;obtain⟨f9,hf9,hc9⟩:=h1.row;exact⟨⟨f9,hf9.of_block (hd.blk _ hf9.lt (row_not hf9 hr7)),hc9⟩,ready_df h2 hd Om (fun q e=>by subst e;exact soft_of hr7 rfl),h3⟩
  case iEnd =>
   rintro A A' ⟨r7,hr7⟩ hd h;exact ready_df h hd Om (fun q e=>by subst e;exact soft_of hr7 rfl)
  case iassign =>
   intro y W' K _ hK;gi_wp2;exact hK _ _ (Df.refl _ _) rfl
  case idone =>
   rintro ys A hS ⟨h1,h2,h3⟩ hrdA
   have htr:T0++ys.map (fun y=>(d,env,stF y.2))=((pre++[(sb,(DB,d),(EB,env))]).map pr).flatMap (tr ST):=by
    rw[List.map_append,List.flatMap_append,HT0.out]
    congr 1
    simp only[List.map_cons,List.map_nil,List.flatMap_cons,List.flatMap_nil,List.append_nil]
    show _=tr ST (d,env)
    unfold tr;rw[HST.out,HStF.out,←hS,List.map_map,List.map_map];rfl
   have hlen:T0.length+ys.length=(((pre++[(sb,(DB,d),(EB,env))]).map pr).flatMap (tr ST)).length:=by rw[←htr,List.length_append,List.length_map]
   rw[hlen]at h1;rw[htr]at h2;have HV2:=hid h1;have HG2:=hid h2;have HD2:=hid h3;have HR2:=hid hrdA;have HRe:Hid (A.heap[W1.heap.size+1]? = A9.heap[W1.heap.size+1]?):=hid (h3.blk _ (Array.getElem?_eq_some_iff.1 HR9.out).1 Om);have HDe:Hid (A.heap[W1.heap.size]? = A9.heap[W1.heap.size]?):=hid (h3.blk _ (Array.getElem?_eq_some_iff.1 HD9.out).1 Om);clear h1 h2 h3 hrdA hS htr hlen;gi_wp2;exact⟨HRe.out,⟨HDe.out,kp_out (HD2.out.mono (fun q _ h=>h.elim .inl (fun h=>.inr (.inl h)))) HVi.out.look HV2.out.look HVi.out.res HV2.out.res HRd9.out HR2.out⟩,HV2.out,HR2.out,HG2.out⟩
  case istop =>
   rintro cc A ⟨rfl,h2,h3,h4,cs,h5⟩;have HDn:=hid h2;have HR2:=hid h3;have HD2:=hid h4;have HL2:=hid h5;have HRe:Hid (A.heap[W1.heap.size+1]? = A9.heap[W1.heap.size+1]?):=hid (h4.blk _ (Array.getElem?_eq_some_iff.1 HR9.out).1 Om);have HDe:Hid (A.heap[W1.heap.size]? = A9.heap[W1.heap.size]?):=hid (h4.blk _ (Array.getElem?_eq_some_iff.1 HD9.out).1 Om)
   have HVb:Hid (∃vs,A.heap[H+1]? = some (.cells vs 37 (0,0))):=hid (by
    obtain⟨_,pre,d,e,s,rest,dv,ev,vv,t1,t2,t3,t4,_⟩:=h2
    exact⟨_,t4⟩)
   clear h2 h3 h4 h5;gi_wp2;obtain⟨vs,hvs⟩:=HVb.out;exact⟨HRe.out,⟨HDe.out,kp_out HD2.out HVi.out.look HL2.out HVi.out.res hvs HRd9.out HR2.out⟩,rfl,HDn.out⟩
  case ibody =>
   rintro pre2 ⟨N,vs⟩ a7 A ⟨h1,h2,h3⟩ ⟨hlaid,hrdA,suf2,hsuf2⟩ rfl ⟨r7,hr7⟩;dsimp only at hlaid hsuf2;obtain⟨n9,hn9⟩:∃n9,T0.length+pre2.length=n9:=⟨_,rfl⟩;rw[hn9]at h1;obtain⟨st,hst⟩:∃st,stF vs=st:=⟨_,rfl⟩;have hvm:vs∈viasP g (l 1) og ex x (l 4) env d (l 0):=by rw[hsuf2];simp
   have hvi:Viable (rF st) (l 0):=by rw[←hst,←HStF.out];exact via_ok HFn.out hn1 hvm
   have hrt:RtRow A (some ⟨N,0,none⟩) (l 0) (rF st):=(laid_as hlaid (fun i hi=>by
    rw[←hst,←HStF.out];unfold rF stateOf;rw[List.getElem?_map,List.getElem?_range hi]
    rfl)).is (by unfold maxLen;omega)
   have HNl:Hid (N≠lk):=hid (fun e=>by
    obtain⟨f9,⟨cs9,hf9,_⟩,_⟩:=hlaid.row;rw[e,h1.look]at hf9;injection hf9 with hf9;injection hf9 with _ hf9 _
    exact absurd hf9 (by decide))
   have hsl:st.length=l 0:=by rw[←hst,←HStF.out];unfold stateOf;simp
   have hat:∃rest,trips ST (downsP (l 1) (k+1)) (prod (fun _=>[0,1,2]) (l 3))=(T0++pre2.map (fun y=>(d,env,stF y.2)))++(d,env,st)::rest:=by
    obtain⟨r,hr⟩:=HTr.out;rw[hr]
    have e1:tr ST (d,env)=pre2.map (fun y=>(d,env,stF y.2))++(d,env,st)::(suf2.map fun v=>(d,env,stF v)):=by
     unfold tr;rw[HST.out,HStF.out,hsuf2,List.map_map,List.map_append,List.map_cons,List.map_map];rw[←hst];rfl
    rw[e1];exact⟨(suf2.map fun v=>(d,env,stF v))++r,by simp⟩
   have hnb:n9≤1000000000:=by
    obtain⟨rest,hr⟩:=hat;have h9:=HTn.out;rw[hr,List.length_append,List.length_append,List.length_map]at h9;omega
   have hnet:∀i,i<6→A.cell? ⟨b,i,none⟩=some (.slice (p i) (l i) (c i)):=fun i hi=>by rw[ready_net hrdA hi,HF.out i hi]
   have HVp:=hid (viol_impl lk b kind pp way fr n9 p l c f (some ⟨N,0,none⟩) (l 0) (l 0) (rF st) A (h1.lk_ hnet) hnb (HX.out A h1.same).2.2.2 hrt hvi hfr h04 hpp);rw[HFa.out]at HVp;have q2:=h1.box.cell;have HV7:=hid h1;have HG7:=hid h2;have HD7:=hid h3;have HRt:=hid hrt;have HRdA:=hid hrdA;have HR7:=hid hr7;have HAt:=hid hat;have HN9:=hid hn9;have HSl:=hid hsl;have HSt:=hid hst;clear h1 h2 h3 hlaid hrdA hr7 hvm hvi hrt hat hnet hsuf2 hst hn9 hsl;gi_wp2;refine⟨trivial,(CallsIn.inRound _ (callsIn_wide.2 HVp.out)).mono ?_⟩;rintro e7 W8 ⟨rfl,w1,hb1,hW8⟩;have HV8:Hid (Vi w lk b (H+1) H kind pp way fr (n9+1) W8):=hid (by rw[hW8];exact HV7.out.next hb1 Om Om)
   have hdl8:Df (fun q=>q=lk) A W8:=by
    rw[hW8];exact((Df.of_below hb1).mono (fun _ _ h=>h.elim)).trans ⟨rfl,rfl,rfl,by simp[World.setCell],fun q _ hx=>Below.heap_setCell _ _ _ _ hx⟩
   have HDl8:=hid hdl8;have HD8:Hid (Df (fun q=>q=lk∨q=b) A9 W8):=hid (HD7.out.trans (hdl8.mono (fun q _ h=>.inl h)));have HRd8:Hid (Ready b B F W8 (p 1) (p 4) (l 1) (l 4) (c 1) (c 4) g x):=hid (ready_kp HRdA.out (kp_in (N:=0) (vb:=H+1) (hdl8.mono (fun q _ h=>.inl h)) HV7.out.look HV8.out.look HV7.out.res HV8.out.res hbl Om) (fun _=>ns (by decide) (by decide)) (fun _=>ns (by decide) (by decide)));have HR8:Hid (W8.heap[A10.heap.size]? = A.heap[A10.heap.size]?):=hid (hdl8.blk _ (Array.getElem?_eq_some_iff.1 HR7.out).1 Om);clear hb1 hW8 hdl8 q2;by_cases hv0:0≤fa st
   · rw[if_pos hv0,decide_eq_true hv0];have HF0:=hid hv0;have CB:Hid (W8.cell? ⟨H,0,none⟩=some (.pointer (some ⟨lk,0,none⟩))):=hid HV8.out.box.cell;have CN:Hid (W8.cell? ⟨lk,5,none⟩=some (.int .i64 ((n9:Int)+1))):=hid (by simp[World.cell?,HV8.out.look]);have CA:Hid (W8.cell? ⟨ab,0,none⟩=some (.pointer (some ⟨sb,0,none⟩))):=hid (HD8.out.cell HAb.out.cell (fun k=>k.elim HNq.out.2.2.2.1 HNq.out.2.2.2.2));have hscW:W8.heap[sb]? = some (.cells #[.pointer (some ⟨b,0,none⟩),.slice (some ⟨EB,0,none⟩) (l 3) (l 3),.slice (some ⟨DB,0,none⟩) (l 1) (l 1)] 130 (0,0)):=HD8.out.keeps HScb.out (fun k=>k.elim HNq.out.1.1 HNq.out.1.2);have CD:Hid (W8.cell? ⟨sb,2,none⟩=some (.slice (some ⟨DB,0,none⟩) (l 1) (l 1))):=hid (by simp[World.cell?,hscW]);have CE:Hid (W8.cell? ⟨sb,1,none⟩=some (.slice (some ⟨EB,0,none⟩) (l 3) (l 3))):=hid (by simp[World.cell?,hscW]);have HRD:=hid (HRD.out.of_block (HD8.out.blk _ HRD.out.lt (fun k=>k.elim HNq.out.2.1.1 HNq.out.2.1.2)));have HRE:=hid (HRE.out.of_block (HD8.out.blk _ HRE.out.lt (fun k=>k.elim HNq.out.2.2.1.1 HNq.out.2.2.1.2)));have HRt:Hid (RtRow W8 (some ⟨N,0,none⟩) (l 0) (rF st)):=hid (rt_by HRt.out (fun q o v hq hc=>by injection hq with hq;injection hq with hq _;subst hq;exact HDl8.out.cell hc HNl.out))
     have HVs:Hid (viasSpec.viasL (rF st) (l 0)=st.map (·.via)):=hid (by
      rw[←HSl.out];unfold viasSpec.viasL rF;apply List.ext_getElem?;intro i;rw[List.getElem?_map,List.getElem?_map];by_cases hi:i<st.length
      · rw[List.getElem?_range hi,List.getElem?_eq_getElem hi];simp[List.getElem?_eq_getElem hi]
      rw[List.getElem?_eq_none (by simpa using hi),List.getElem?_eq_none Om]
      rfl)
     have HVl:Hid ((st.map (·.via)).length=l 0):=hid (by rw[List.length_map];exact HSl.out);clear hscW;gi_wp2;refine region_belowA 11 13 Ap (fun u=>⟨#[.pointer (some ⟨lk,0,none⟩),.int .i64 (k:Int),.pointer (some ⟨H,0,none⟩),undef,.pointer (some ⟨H+1,0,none⟩),.pointer (some ⟨ab,0,none⟩),.slice (some ⟨N,0,none⟩) (l 0) (l 0),.int .i64 (fa st),.bool true,.pointer (some ⟨lk,0,none⟩),.pointer (some ⟨lk,0,none⟩),.pointer (some ⟨lk,0,none⟩),.pointer (some ⟨b,0,none⟩),.int .i64 (k:Int),.func (.func 81) #[] #[.pointer (some ⟨H+1+1,0,none⟩),.pointer (some ⟨H+1+1+1,0,none⟩)],.pointer (some ⟨sb,0,none⟩),.pointer (some ⟨sb,0,none⟩),.func (.func 84) #[] #[.pointer (some ⟨A9.heap.size,0,none⟩)],.slice (some ⟨N,0,none⟩) (l 0) (l 0),.tuple #[.int .i64 (fa st),.bool true],.pointer (some ⟨lk,0,none⟩),.slice (some ⟨N,0,none⟩) (l 0) (l 0),.tuple #[.int .i64 (fa st),.bool true],.int .i64 (fa st),.bool true,.bool true,u 26,u 27,u 28,u 29,u 30,u 31,u 32,u 33,u 34,u 35,u 36,u 37,u 38,u 39,u 40,u 41,undef,undef,undef],[]⟩) (fun i=>[26,27,28,29,30,31,32,33,34,35,36,37,38,39,40,41].getD i 0) (fun i v w8=>match i with|0=>v=.pointer (some ⟨lk,0,none⟩)|1=>v=.int .i64 ((n9:Int)+1)|2=>v=.pointer (some ⟨sb,0,none⟩)|3=>v=.pointer (some ⟨sb,0,none⟩)|4=>v=.pointer (some ⟨sb,2,none⟩)|5=>v=.slice (some ⟨DB,0,none⟩) (l 1) (l 1)|6=>∃x9 y9,v=.slice x9 (l 1) y9∧OwnBools W8.heap.size w8 (.slice x9 (l 1) y9) d|7=>v=.pointer (some ⟨sb,0,none⟩)|8=>v=.pointer (some ⟨sb,0,none⟩)|9=>v=.pointer (some ⟨sb,1,none⟩)|10=>v=.slice (some ⟨EB,0,none⟩) (l 3) (l 3)|11=>∃x9 y9,v=.slice x9 (l 3) y9∧OwnInts W8.heap.size w8 (.slice x9 (l 3) y9) env|12=>v=.slice (some ⟨N,0,none⟩) (l 0) (l 0)|13=>∃x9 y9,v=.slice x9 (l 0) y9∧OwnInts W8.heap.size w8 (.slice x9 (l 0) y9) (st.map (·.via))|14=>v=.int .i64 (fa st)|15=>∃x1 y1 x2 y2 x3 y3,v=.agg #[.bool false,.int .i64 ((n9:Int)+1),.slice x1 (l 1) y1,.slice x2 (l 3) y2,.slice x3 (l 0) y3,.int .i64 (fa st)]∧Ap (.slice x2 (l 3) y2) (.slice x3 (l 0) y3)∧OwnBools W8.heap.size w8 (.slice x1 (l 1) y1) d∧OwnInts W8.heap.size w8 (.slice x2 (l 3) y2) env∧OwnInts W8.heap.size w8 (.slice x3 (l 0) y3) (st.map (·.via))|_=>True) W8 16 (fun k=>match k with|26=>undef|27=>undef|28=>undef|29=>undef|30=>undef|31=>undef|32=>undef|33=>undef|34=>undef|35=>undef|36=>undef|37=>undef|38=>undef|39=>undef|40=>undef|41=>undef|_=>undef) (by rfl) Kr (by rfl) ⟨by kernel_rfl,by kernel_rfl,by kernel_rfl,by decide⟩ Kr Bz ?hput ?hinj ?stable ?step ?last
     case hput =>
      intro i hi u v
      iterate 16 (rcases i with _|i;rfl)
      exact absurd hi Om
     case hinj =>
      intro i j hi hj h;exact slots_inj [26,27,28,29,30,31,32,33,34,35,36,37,38,39,40,41] (by decide) hi hj h
     case stable =>
      intro i v w8 w9 hb h
      iterate 16 (rcases i with _|i;(first|exact h|obtain⟨x9,y9,e9,h9⟩:=h;exact⟨x9,y9,e9,own_pass h9 hb⟩|obtain⟨x1,y1,x2,y2,x3,y3,e9,h6,h7,h8,h9⟩:=h;exact⟨x1,y1,x2,y2,x3,y3,e9,h6,own_pass h7 hb,own_pass h8 hb,own_pass h9 hb⟩))
      trivial
     case step =>
      intro i hi u w8 S8 hdep hrl
      match i,hi with
      | 0,_ =>
       clear hdep;refine⟨_,rfl,fun K' hK=>?_⟩;have q9:=keep S8 CB.out;go_simp;exact hK.out _ _ Bz rfl (fun h=>absurd h (by decide))
      | 1,_ =>
       have h0:(u 26)=.pointer (some ⟨lk,0,none⟩):=hdep 0 Kr;clear hdep;refine⟨_,rfl,fun K' hK=>?_⟩;simp only[h0]at hK ⊢;go_simp;refine(states_of lk ((n9:Int)+1) w8 (keep S8 CN.out)).mono ?_;rintro e9 w9 ⟨rfl,hw9⟩;have hw9:=hw9.symm;subst hw9;exact hK.out _ _ Bz rfl (fun h=>absurd h (by decide))
      | 2,_ =>
       clear hdep;refine⟨_,rfl,fun K' hK=>?_⟩;have q9:=keep S8 CA.out;go_simp;exact hK.out _ _ Bz rfl (fun h=>absurd h (by decide))
      | 3,_ =>
       have h2:(u 28)=.pointer (some ⟨sb,0,none⟩):=hdep 2 Kr;clear hdep;refine⟨_,rfl,fun K' hK=>?_⟩;simp only[h2]at hK ⊢;go_simp;exact hK.out _ _ Bz rfl (fun h=>absurd h (by decide))
      | 4,_ =>
       have h3:(u 29)=.pointer (some ⟨sb,0,none⟩):=hdep 3 Kr;clear hdep;refine⟨_,rfl,fun K' hK=>?_⟩;simp only[h3]at hK ⊢;go_simp;exact hK.out _ _ Bz rfl (fun h=>absurd h (by decide))
      | 5,_ =>
       have h4:(u 30)=.pointer (some ⟨sb,2,none⟩):=hdep 4 Kr;clear hdep;refine⟨_,rfl,fun K' hK=>?_⟩;have q9:=keep S8 CD.out;simp only[h4]at hK ⊢;go_simp;exact hK.out _ _ Bz rfl (fun h=>absurd h (by decide))
      | 6,_ =>
       have h5:(u 31)=.slice (some ⟨DB,0,none⟩) (l 1) (l 1):=hdep 5 Kr;clear hdep;refine⟨_,rfl,fun K' hK=>?_⟩;simp only[h5]at hK ⊢;go_simp;refine(clone_bool DB (l 1) d w8 (HRD.out.of_block (S8.block _ HRD.out.lt)) HLD.out Om).mono ?_;rintro e9 w9 ⟨v9,rfl,ho9,hb9⟩;obtain⟨x9,y9,hv9⟩:=bools_form ho9;rw[HLD.out]at hv9;subst hv9;exact hK.out _ _ hb9 ⟨_,_,rfl,own_low ho9 S8.size⟩ (fun h=>absurd h (by decide))
      | 7,_ =>
       clear hdep;refine⟨_,rfl,fun K' hK=>?_⟩;have q9:=keep S8 CA.out;go_simp;exact hK.out _ _ Bz rfl (fun h=>absurd h (by decide))
      | 8,_ =>
       have h7:(u 33)=.pointer (some ⟨sb,0,none⟩):=hdep 7 Kr;clear hdep;refine⟨_,rfl,fun K' hK=>?_⟩;simp only[h7]at hK ⊢;go_simp;exact hK.out _ _ Bz rfl (fun h=>absurd h (by decide))
      | 9,_ =>
       have h8:(u 34)=.pointer (some ⟨sb,0,none⟩):=hdep 8 Kr;clear hdep;refine⟨_,rfl,fun K' hK=>?_⟩;simp only[h8]at hK ⊢;go_simp;exact hK.out _ _ Bz rfl (fun h=>absurd h (by decide))
      | 10,_ =>
       have h9:(u 35)=.pointer (some ⟨sb,1,none⟩):=hdep 9 Kr;clear hdep;refine⟨_,rfl,fun K' hK=>?_⟩;have q9:=keep S8 CE.out;simp only[h9]at hK ⊢;go_simp;exact hK.out _ _ Bz rfl (fun h=>absurd h (by decide))
      | 11,_ =>
       have h10:(u 36)=.slice (some ⟨EB,0,none⟩) (l 3) (l 3):=hdep 10 Kr;clear hdep;refine⟨_,rfl,fun K' hK=>?_⟩;simp only[h10]at hK ⊢;go_simp;refine(clone_int EB (l 3) env w8 (HRE.out.of_block (S8.block _ HRE.out.lt)) HLE.out Om).mono ?_;rintro e9 w9 ⟨v9,rfl,ho9,hb9⟩;obtain⟨x9,y9,hv9,-⟩:=OwnInts.form ho9;rw[HLE.out]at hv9;subst hv9;exact hK.out _ _ hb9 ⟨_,_,rfl,own_low ho9 S8.size⟩ (fun h=>absurd h (by decide))
      | 12,_ =>
       clear hdep;refine⟨_,rfl,fun K' hK=>?_⟩;go_simp;exact hK.out _ _ Bz rfl (fun h=>absurd h (by decide))
      | 13,_ =>
       have h12:(u 38)=.slice (some ⟨N,0,none⟩) (l 0) (l 0):=hdep 12 Kr;have h11:∃x9 y9,(u 37)=.slice x9 (l 3) y9∧OwnInts W8.heap.size w8 (.slice x9 (l 3) y9) env:=hdep 11 Kr;clear hdep;refine⟨_,rfl,fun K' hK=>?_⟩;have h37:=h11;simp only[h12]at hK ⊢;go_simp;refine(vias_impl (some ⟨N,0,none⟩) (l 0) (l 0) (rF st) w8 (HRt.out.below S8) h04).mono ?_;rintro e9 w9 ⟨v9,rfl,ho9,hb9⟩;rw[HVs.out]at ho9;obtain⟨x9,y9,hv9,-⟩:=OwnInts.form ho9;rw[HVl.out]at hv9;subst hv9
       have hap9:Ap (u 37) (.slice x9 (l 0) y9):=fun gq hg1 hg2=>by
        obtain⟨x8,y8,e8,o8⟩:=h37;rw[e8]at hg1;have i1:=(World.ownsRow.lt o8 gq hg1).2;have i2:=(World.ownsRow.lt ho9 gq hg2).1;omega
       exact hK.out _ _ hb9 ⟨_,_,rfl,own_low ho9 S8.size⟩ (fun _=>hap9)
      | 14,_ =>
       clear hdep;refine⟨_,rfl,fun K' hK=>?_⟩;go_simp;exact hK.out _ _ Bz rfl (fun h=>absurd h (by decide))
      | 15,_ =>
       have h1:(u 27)=.int .i64 ((n9:Int)+1):=hdep 1 Kr;have h6:∃x9 y9,(u 32)=.slice x9 (l 1) y9∧OwnBools W8.heap.size w8 (.slice x9 (l 1) y9) d:=hdep 6 Kr;have h11:∃x9 y9,(u 37)=.slice x9 (l 3) y9∧OwnInts W8.heap.size w8 (.slice x9 (l 3) y9) env:=hdep 11 Kr;have h13:∃x9 y9,(u 39)=.slice x9 (l 0) y9∧OwnInts W8.heap.size w8 (.slice x9 (l 0) y9) (st.map (·.via)):=hdep 13 Kr;have h14:(u 40)=.int .i64 (fa st):=hdep 14 Kr;clear hdep;refine⟨_,rfl,fun K' hK=>?_⟩;obtain⟨x1,y1,e6,o6⟩:=h6;obtain⟨x2,y2,e11,o11⟩:=h11;obtain⟨x3,y3,e13,o13⟩:=h13;have hap:=hrl Kr;have hap:Ap (u 37) (u 39):=hap;rw[e11,e13]at hap;clear hrl;simp only[h1,e6,e11,e13,h14]at hK ⊢;go_simp;exact hK.out _ _ Bz ⟨x1,y1,x2,y2,x3,y3,rfl,hap,o6,o11,o13⟩ (fun h=>absurd h (by decide))
      | i+16,hi=>exact absurd hi Om
     intro u w8 S8 hall;have h15:∃x1 y1 x2 y2 x3 y3,(u 41)=.agg #[.bool false,.int .i64 ((n9:Int)+1),.slice x1 (l 1) y1,.slice x2 (l 3) y2,.slice x3 (l 0) y3,.int .i64 (fa st)]∧Ap (.slice x2 (l 3) y2) (.slice x3 (l 0) y3)∧OwnBools W8.heap.size w8 (.slice x1 (l 1) y1) d∧OwnInts W8.heap.size w8 (.slice x2 (l 3) y2) env∧OwnInts W8.heap.size w8 (.slice x3 (l 0) y3) (st.map (·.via)):=hall 15 (by decide);clear hall;refine⟨_,rfl,fun K' hK=>?_⟩;obtain⟨x1,y1,x2,y2,x3,y3,e15,ap9,o6,o11,o13⟩:=h15;simp only[e15]at hK ⊢;have hres9:=(S8.block _ (Array.getElem?_eq_some_iff.1 HV8.out.res).1).trans HV8.out.res;have r0:w8.cell? ⟨H+1,0,none⟩=some (.bool false):=by simp[World.cell?,hres9]
     have z0:w8.frozen? ⟨H+1,0,none⟩=false:=by simp[World.frozen?,hres9]
     have r1:w8.cell? ⟨H+1,1,none⟩=some (.int .i64 0):=by simp[World.cell?,hres9]
     have z1:w8.frozen? ⟨H+1,1,none⟩=false:=by simp[World.frozen?,hres9]
     have r2:w8.cell? ⟨H+1,2,none⟩=some (.slice none 0 0):=by simp[World.cell?,hres9]
     have z2:w8.frozen? ⟨H+1,2,none⟩=false:=by simp[World.frozen?,hres9]
     have r3:w8.cell? ⟨H+1,3,none⟩=some (.slice none 0 0):=by simp[World.cell?,hres9]
     have z3:w8.frozen? ⟨H+1,3,none⟩=false:=by simp[World.frozen?,hres9]
     have r4:w8.cell? ⟨H+1,4,none⟩=some (.slice none 0 0):=by simp[World.cell?,hres9]
     have z4:w8.frozen? ⟨H+1,4,none⟩=false:=by simp[World.frozen?,hres9]
     have r5:w8.cell? ⟨H+1,5,none⟩=some (.int .i64 0):=by simp[World.cell?,hres9]
     have z5:w8.frozen? ⟨H+1,5,none⟩=false:=by simp[World.frozen?,hres9]
     go_simp;refine hK.out _ _ ?_;have hz8:H+1<W8.heap.size:=(Array.getElem?_eq_some_iff.1 HV8.out.res).1;obtain⟨W9,hW9⟩:∃W9,(((((w8.setCell ⟨H+1,0,none⟩ (.bool false)).setCell ⟨H+1,1,none⟩ (.int .i64 ((n9:Int)+1))).setCell ⟨H+1,2,none⟩ (.slice x1 (l 1) y1)).setCell ⟨H+1,3,none⟩ (.slice x2 (l 3) y2)).setCell ⟨H+1,4,none⟩ (.slice x3 (l 0) y3)).setCell ⟨H+1,5,none⟩ (.int .i64 (fa st))=W9:=⟨_,rfl⟩;have hd6:Df (fun q=>q=H+1) w8 W9:=by rw[←hW9];exact six_df _ _ _ _ _ _ _ _
     have hv9:W9.heap[H+1]? = some (.cells #[.bool false,.int .i64 ((n9:Int)+1),.slice x1 (l 1) y1,.slice x2 (l 3) y2,.slice x3 (l 0) y3,.int .i64 (fa st)] 37 (0,0)):=by rw[←hW9];exact six_block hres9
     have hd89:Df (fun q=>q=H+1) W8 W9:=((Df.of_below S8).mono (fun _ _ h=>h.elim)).trans hd6;have hdA:Df (fun q=>q=lk∨q=H+1) A W9:=(HDl8.out.mono (fun _ _ h=>.inl h)).trans (hd89.mono (fun _ _ h=>.inr h));have hl9:=hd89.keeps HV8.out.look Om;have hkp:KpV b (TS lk (H+1)) (A10.heap.size+1) A W9:=kp_in hdA HV7.out.look hl9 HV7.out.res hv9 hbl Om;have HKp:=hid hkp;have HRd9':Hid (Ready b B F W9 (p 1) (p 4) (l 1) (l 4) (c 1) (c 4) g x):=hid (ready_kp HRdA.out hkp (fun _=>ns (by decide) (by decide)) (fun _=>ns (by decide) (by decide)))
     have HDn:Hid (Done w lk b (H+1) ST (downsP (l 1) (k+1)) (prod (fun _=>[0,1,2]) (l 3)) fa W9):=hid (by
      obtain⟨rest,hrest⟩:=HAt.out;refine⟨⟨hd89.os.trans HV8.out.same.os,hd89.tape.trans HV8.out.same.tape,hd89.output.trans HV8.out.same.output,Nat.le_trans HV8.out.same.size hd89.size,fun q hq hn=>(hd89.blk q (by have:=HV8.out.same.size;omega) Om).trans (HV8.out.same.blk q hq hn)⟩,T0++pre2.map (fun y=>(d,env,stF y.2)),d,env,st,rest,.slice x1 (l 1) y1,.slice x2 (l 3) y2,.slice x3 (l 0) y3,hrest,HG7.out,decide_eq_true HF0.out,?_,?_,?_,?_,by omega,ap9⟩
      · have e9:(T0++pre2.map (fun y=>(d,env,stF y.2))).length=n9:=by rw[List.length_append,List.length_map];exact HN9.out
        rw[e9];exact hv9
      · rw[←hW9];exact own_low (six_own o6 (show H+1<W8.heap.size from hz8)) Om
      · rw[←hW9];exact own_low (six_own o11 (show H+1<W8.heap.size from hz8)) Om
      rw[←hW9]
      exact own_low (six_own o13 (show H+1<W8.heap.size from hz8)) Om)
     have HD99:Hid (Df (fun q=>q=lk∨q=b∨q=H+1) A9 W9):=hid ((HD8.out.mono (fun q _ h=>h.elim .inl (fun h=>.inr (.inl h)))).trans (hd89.mono (fun _ _ h=>.inr (.inr h))));have HR99:Hid (W9.heap[A10.heap.size]? = A.heap[A10.heap.size]?):=hid (hdA.blk _ (Array.getElem?_eq_some_iff.1 HR7.out).1 Om);have HL99:=hid hl9;rw[hW9];clear S8 hK K' o6 o11 o13 hres9 hd6 hv9 hd89 hdA hl9 hkp hW9 r0 r1 r2 r3 r4 r5 z0 z1 z2 z3 z4 z5;gi_wp2;exact⟨(by first|exact HR99.out|(rw[←hz10];exact HR99.out)),(by first|exact HKp.out|(rw[←hz10];exact HKp.out)),rfl,HDn.out,HRd9'.out,HD99.out,_,HL99.out⟩
   have hdn:decide (0≤fa st)=false:=decide_eq_false hv0;rw[hdn]
   have HG8:Hid (Gd fa (T0++(pre2++[(N,vs)]).map (fun y=>(d,env,stF y.2)))):=hid (fun t ht=>by
    rw[List.map_append,←List.append_assoc]at ht;rcases List.mem_append.1 ht with h|h
    · exact HG7.out t h
    simp only[List.map_cons,List.map_nil,List.mem_singleton]at h;subst h
    show decide (0≤fa (stF vs))=false
    rw[HSt.out]
    exact hdn)
   have HVn:Hid (Vi w lk b (H+1) H kind pp way fr (T0.length+(pre2++[(N,vs)]).length) W8):=hid (by
    rw[List.length_append,←Nat.add_assoc,HN9.out]
    exact HV8.out)
   gi_wp2;exact⟨(by first|exact HR8.out|(rw[←hz10];exact HR8.out)),kp_in (HDl8.out.mono (fun q _ h=>.inl h)) HV7.out.look HV8.out.look HV7.out.res HV8.out.res hbl Om,HVn.out,HG8.out,HD8.out⟩
end Go.Proofs.YtcnoemjeijjnjaaGreat.verdictImpl
