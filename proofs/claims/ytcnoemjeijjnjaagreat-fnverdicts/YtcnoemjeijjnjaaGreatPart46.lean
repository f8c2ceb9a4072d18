import Derived.Test.YtcnoemjeijjnjaaGreatPart45
set_option linter.unusedVariables false
namespace Go.Proofs.YtcnoemjeijjnjaaGreat.vdMath
open Go.RowKit Go.Deep Go base copy names netSem intsOwn routeRow nbSem candSem prodSem ssSem rofSem rtsRow stabFace stabImpl bestAll downsSpec envsSpec downsTwo stateTwo verSem verSpec verdictImpl verMath verCont propSem faultSpec satSpec walkSem stableMath sceneFace sceneFault rofFace
theorem content3 (ST:List Bool→List Int→List (List Rt)) (DL:List (List Bool)) (EL:List (List Int)) (fa:List Rt→Int) :
  ∃(hv:Bool) (n:Int) (D:List Bool) (E V:List Int) (pt:Int),(hv=true→∀t∈trips ST DL EL,fa t.2.2<0)∧(hv=false→∃s,D∈DL∧E∈EL∧s∈ST D E∧V=s.map (·.via)∧pt=fa s∧0≤fa s)∧∀w B v,VerAns w B 0 ST DL EL fa v→∃x1 x2 x3 x4 x5 x6,v=.agg #[.bool hv,.int .i64 n,.slice x1 D.length x4,.slice x2 E.length x5,.slice x3 V.length x6,.int .i64 pt]∧downsSpec.OwnBools B w (.slice x1 D.length x4) D∧OwnInts B w (.slice x2 E.length x5) E∧OwnInts B w (.slice x3 V.length x6) V:=by
 by_cases hex:∃pre d e s rest,trips ST DL EL=pre++(d,e,s)::rest∧(∀t∈pre,decide (0≤fa t.2.2)=false)∧decide (0≤fa s)=true
 · obtain⟨pre,d,e,s,rest,t1,t2,t3⟩:=hex;have hm:(d,e,s)∈trips ST DL EL:=by rw[t1];simp
   obtain⟨m1,m2,m3⟩:=trips_mem hm;refine⟨false,(pre.length:Int)+1,d,e,s.map (·.via),fa s,(by intro h;cases h),fun _=>⟨s,m1,m2,m3,rfl,rfl,of_decide_eq_true t3⟩,fun w B v h=>?_⟩;unfold VerAns at h;rw[if_pos rfl]at h;rcases h with ⟨hall,_⟩|⟨pre',d',e',s',rest',dv,ev,vv,u1,u2,u3,rfl,o1,o2,o3⟩
   · have:=hall _ hm;simp only at this;rw[t3]at this;cases this
   obtain⟨r1,r2⟩:=first_uniq (fun t:List Bool × List Int × List Rt=>decide (0≤fa t.2.2)) (t1.symm.trans u1) t2 u2 t3 u3;simp only[Prod.mk.injEq]at r2;obtain⟨rfl,rfl,rfl⟩:=r2;subst r1;obtain⟨x1,y1,e1⟩:=bools_form o1;obtain⟨x2,y2,e2,-⟩:=OwnInts.form o2;obtain⟨x3,y3,e3,-⟩:=OwnInts.form o3;subst e1;subst e2;subst e3;exact⟨x1,x2,x3,y1,y2,y3,rfl,o1,o2,o3⟩
 refine⟨true,((trips ST DL EL).length:Int),[],[],[],0,fun _ t ht=>?_,(by intro h;cases h),fun w B v h=>?_⟩
 · apply Classical.byContradiction;intro hn;have hb:decide (0≤fa t.2.2)=true:=decide_eq_true Om
   have hsome:∃a,(trips ST DL EL).find? (fun t=>decide (0≤fa t.2.2))=some a:=by
    cases hf:(trips ST DL EL).find? (fun t=>decide (0≤fa t.2.2)) with
    | some a=>exact⟨a,rfl⟩
    | none=>have:=List.find?_eq_none.1 hf t ht;exact absurd hb (by simpa using this)
   obtain⟨a,ha⟩:=hsome;obtain⟨hp,pre,rest,e1,e2⟩:=List.find?_eq_some_iff_append.1 ha;exact hex ⟨pre,a.1,a.2.1,a.2.2,rest,e1,fun y hy=>by simpa using e2 y hy,hp⟩
 unfold VerAns at h;rw[if_pos rfl]at h;rcases h with ⟨_,rfl⟩|⟨pre',d',e',s',rest',dv,ev,vv,u1,u2,u3,_⟩
 · exact⟨none,none,none,0,0,0,rfl,World.ownsRow_nil _ _ _ _,World.ownsRow_nil _ _ _ _,World.ownsRow_nil _ _ _ _⟩
 exact absurd ⟨pre',d',e',s',rest',u1,u2,u3⟩ hex
theorem trips_in {ST:List Bool→List Int→List (List Rt)} {DL:List (List Bool)} {EL:List (List Int)} {d:List Bool} {e:List Int} {s:List Rt} (hd:d∈DL) (he:e∈EL) (hs:s∈ST d e):(d,e,s)∈trips ST DL EL:=by
 unfold trips rowT;exact List.mem_flatMap.2 ⟨d,hd,List.mem_flatMap.2 ⟨e,he,List.mem_map.2 ⟨s,hs,rfl⟩⟩⟩
theorem prod_has {A:Nat→List Int}:∀(k:Nat) (c:List Int),c.length=k→(∀i,i<k→zAt c i∈A i)→c∈prod A k
 | 0,c,h,_=>by
  have:c=[]:=List.eq_nil_of_length_eq_zero h;subst this;simp[prod]
 | k+1,c,h,hA=>by
  have hc:c≠[]:=fun e=>by rw[e]at h;cases h
  have e:=(List.dropLast_concat_getLast hc).symm;have hl:c.dropLast.length=k:=by rw[List.length_dropLast];omega
  have h1:c.dropLast∈prod A k:=prod_has k _ hl (fun i hi=>by
   have:=hA i Om;unfold zAt at this ⊢;rw[e,List.getElem?_append_left Om]at this
   exact this)
  have h2:c.getLast hc∈A k:=by
   have:=hA k Om;unfold zAt at this;rw[e,List.getElem?_append_right Om,hl]at this;simpa using this
  unfold prod;rw[e];exact List.mem_flatMap.2 ⟨_,h1,List.mem_map.2 ⟨_,h2,rfl⟩⟩
theorem prodB_has : ∀ (k:Nat) (c:List Bool),c.length=k→c∈prodB.prod (fun _=>[false,true]) k
 | 0,c,h=>by
  have:c=[]:=List.eq_nil_of_length_eq_zero h;subst this;simp[prodB.prod]
 | k+1,c,h=>by
  have hc:c≠[]:=fun e=>by rw[e]at h;cases h
  have e:=(List.dropLast_concat_getLast hc).symm;have hl:c.dropLast.length=k:=by rw[List.length_dropLast];omega
  have h1:=prodB_has k _ hl;unfold prodB.prod;rw[e];exact List.mem_flatMap.2 ⟨_,h1,List.mem_map.2 ⟨_,by cases c.getLast hc<;>simp,rfl⟩⟩
theorem envs_has {n:Nat} {env:List Int} (hl:env.length=n) (h:∀z∈env,0≤z∧z<3):env∈prod (fun _=>[0,1,2]) n :=
 prod_has n env hl fun i hi=>by
  unfold zAt;rw[List.getElem?_eq_getElem Om];have:=h _ (List.getElem_mem (l:=env) (n:=i) Om);simp only[Option.getD_some,List.mem_cons,List.not_mem_nil,or_false];omega
theorem downs_has {L k:Nat} {d:List Bool} (hl:d.length=L) (h:cntT d≤k):d∈downsP L (k+1):=by
 unfold downsP fewL;exact List.mem_flatMap.2 ⟨cntT d,List.mem_range.2 Om,List.mem_filter.2 ⟨prodB_has L d hl,by simp⟩⟩
theorem downs_cnt {L k:Nat} {d:List Bool} (h:d∈downsP L (k+1)):cntT d≤k:=by
 unfold downsP fewL at h;obtain⟨s,hs,h⟩:=List.mem_flatMap.1 h;have h1:=(List.mem_filter.1 h).2;have h2:=List.mem_range.1 hs;have h3:cntT d=s:=by simpa using h1
 omega
theorem ar_zero {ok:Bool} {el dl l3 l1:Nat} {env:List Int} (h:ok=true) (he:el=l3) (hd:dl=l1) (hm:env∈prod (fun _=>[0,1,2]) l3):arC ok el dl l3 l1 env=0:=by
 unfold arC;rw[if_neg (by rw[h];decide),if_neg Om,if_pos ?_];refine allN_iff.2 fun i hi=>?_;have:=prod_in hm i Om;simp only[List.mem_cons,List.not_mem_nil,or_false]at this;unfold inB;exact decide_eq_true Om
variable {g : R} {og ex : List Int} {x : R} {l : Nat→Nat}
theorem rep_facts {s:Ss} {f:R} (hnet:netB l s g og ex x f=true) {d:List Bool} {env:List Int} {st:List Rt} (he:env∈prod (fun _=>[0,1,2]) (l 3)) (hst:st∈stP g og ex x l d env) :
  ∃vs,st.map (·.via)=vs∧vs.length=l 0∧vsB vs (l 0) (l 0)=true∧okV g (l 1) og ex x (l 4) env d vs (l 0)=true∧(∀i,i<l 0→valR g (l 1) og ex x (l 4) env d vs (l 0) i=rF st i)∧sceneBy.Good (l 0) l g x (rF st)∧Viable (rF st) (l 0)∧sameTo (bests g (l 1) og ex x (l 4) env d (rF st) (l 0)) (rF st) (l 0)=true:=by
 obtain⟨hf,hn1,h6,h2,h12,hgi,hxi⟩:=net_facts hnet;have hvia:=via_st hf hn1 hst;have hstab:stabB g (l 1) og ex x (l 4) env d (rF st) (l 0)=true:=state_stab hn1 (ll:=prod (fun i:Nat=>rowP g (l 1) og ex env d (i:Int) (l 0+3)) (l 0)) hst;unfold stP viasP at hst;obtain⟨vs,hv,rfl⟩:=List.mem_map.1 hst;obtain⟨h1,hg⟩:=List.mem_filter.1 hv;have hlen:=prod_len h1
 have hvv:∀i,-3≤zAt vs i∧zAt vs i<(l 0:Int):=fun i=>by
  by_cases hi:i<l 0
  · exact stateSeq.row_in (prod_in h1 i hi)
  unfold zAt;rw[List.getElem?_eq_none Om];simp only[Option.getD_none];omega
 have hok:okV g (l 1) og ex x (l 4) env d vs (l 0)=true:=by
  unfold goodB at hg;simp only[Bool.and_eq_true]at hg;exact hg.1
 have hsame:∀i,i<l 0→valR g (l 1) og ex x (l 4) env d vs (l 0) i=rF (stateOf g (l 1) og ex x (l 4) env d (l 0) vs) i:=fun i hi=>state_rs hi;refine⟨vs,?_,hlen,?_,hok,hsame,⟨hf.few,hf.uniq,hf.cost,hf.deed,fun i hi=>?_,fun i hi=>?_⟩,hvia,?_⟩
 · refine List.ext_getElem (by simp[stateOf,hlen]) fun i hi hi'=>?_;have hil:i<l 0:=by omega
   have hv1:=allN_iff.1 hok i hil;obtain⟨r,hr⟩:=Option.isSome_iff_exists.1 hv1;have:=val_via hr;simp only[stateOf,List.map_map,List.getElem_map,List.getElem_range,Function.comp];unfold valR;rw[hr];simp only[Option.getD_some];rw[this];unfold zAt;simp[hi']
 · unfold vsB;rw[decide_eq_true rfl,Bool.true_and];refine allN_iff.2 fun i hi=>?_;have:=hvv i;unfold inB;exact decide_eq_true Om
 · rw[←hsame i hi];exact(stateSeq.valR_bounds hn1 hf.few hvv hf.cost hok hi).1
 · rw[←hsame i hi];exact(stateSeq.valR_bounds hn1 hf.few hvv hf.cost hok hi).2
 rw[bests_cand hf.few (fun i hi=>(hvia i hi).2) (envs_pos he)];exact hstab
theorem fault_facts {rs:Rs} {f:R} {m rl:Nat} {kind pp way:Int} {fr:Nat} (h:0≤faultAt rs f m rl kind pp way fr) (hpp : -1≤pp):faultAt rs f m rl kind pp way fr≤15∧(pp = -1∨pp=faultAt rs f m rl kind pp way fr)∧satB kind way (wayO rs f m (faultAt rs f m rl kind pp way fr) rl fr) ((fr:Int)::wayR rs f m (faultAt rs f m rl kind pp way fr) rl fr)=false:=by
 obtain⟨F,hF⟩:∃F,faultAt rs f m rl kind pp way fr=F:=⟨_,rfl⟩;have hb:badAt rs f m rl kind pp way fr F.toNat=true:=by rw[←hF];exact lawNets.first_at h
 have h15:F<16:=by rw[←hF];exact(firstAt_bounds _ 16).2
 rw[hF]at h ⊢;have hn:((F.toNat:Nat):Int)=F:=by omega
 unfold badAt at hb;rw[hn]at hb;simp only[Bool.and_eq_true,Bool.or_eq_true,decide_eq_true_eq,Bool.not_eq_true']at hb;exact⟨by omega,by omega,hb.2⟩
theorem fault_none {rs:Rs} {f:R} {m rl:Nat} {kind pp way:Int} {fr:Nat} (h:faultAt rs f m rl kind pp way fr<0) {i:Nat} (hi:i<16) (hpp:pp<0∨pp=(i:Int)):satB kind way (wayO rs f m (i:Int) rl fr) ((fr:Int)::wayR rs f m (i:Int) rl fr)=true:=by
 have hb:badAt rs f m rl kind pp way fr i=false:=by
  cases hb:badAt rs f m rl kind pp way fr i with
  | false=>rfl
  | true=>have:=firstAt_spec.2 ⟨i,hi,hb⟩;unfold faultAt at h;omega
 unfold badAt at hb;have h1:(decide (pp<0)||decide (pp=(i:Int)))=true:=by simpa using hpp
 rw[h1,Bool.true_and]at hb;simpa using hb
end Go.Proofs.YtcnoemjeijjnjaaGreat.vdMath
namespace Go.Proofs.YtcnoemjeijjnjaaGreat.propSpec
open Go.RowKit Go.Deep Go base names netSem propSem netSpec netOKSpec
set_option maxHeartbeats 3200000 in
theorem prop_spec (p:Nat→Option Addr) (l c:Nat→Nat) (s:Ss) (g:R) (o e:List Int) (x f:R) (k fr po wy:Int) (w:World) (h:NetIs w p l s g o e x f) (hc0:l 0≤c 0) (hc1:l 1≤c 1) :
  Calls Tryz.prog 21 #[netV p l c,.agg #[.int .i64 k,.int .i64 fr,.int .i64 po,.int .i64 wy]] w fun e' w'=>e' = .returned (.bool (propB (netB l s g o e x f) (l 0) k fr po wy))∧Below w.heap.size w w' := by
 have HN:=hid h;have m0:=h.routers.most;have HM0:=hid m0;unfold maxLen at m0;have HK0:=hid hc0;have HK1:=hid hc1;clear h hc0 hc1;obtain⟨D,hD⟩:∃D,propB (netB l s g o e x f) (l 0) k fr po wy=D:=⟨_,rfl⟩;rw[hD];have HP:=hid hD;clear hD
 have C1:∀w8:World,Below ((w.alloc (.cells #[.slice (p 0) (l 0) (c 0),.slice (p 1) (l 1) (c 1),.slice (p 2) (l 2) (c 2),.slice (p 3) (l 3) (c 3),.slice (p 4) (l 4) (c 4),.slice (p 5) (l 5) (c 5)] 29)).alloc (.cells #[.int .i64 k,.int .i64 fr,.int .i64 po,.int .i64 wy] 32)).heap.size ((w.alloc (.cells #[.slice (p 0) (l 0) (c 0),.slice (p 1) (l 1) (c 1),.slice (p 2) (l 2) (c 2),.slice (p 3) (l 3) (c 3),.slice (p 4) (l 4) (c 4),.slice (p 5) (l 5) (c 5)] 29)).alloc (.cells #[.int .i64 k,.int .i64 fr,.int .i64 po,.int .i64 wy] 32)) w8 →
   w8.cell? ⟨w.heap.size,0,none⟩=some (.slice (p 0) (l 0) (c 0))∧w8.cell? ⟨w.heap.size+1,0,none⟩=some (.int .i64 k)∧w8.cell? ⟨w.heap.size+1,1,none⟩=some (.int .i64 fr)∧w8.cell? ⟨w.heap.size+1,2,none⟩=some (.int .i64 po)∧w8.cell? ⟨w.heap.size+1,3,none⟩=some (.int .i64 wy)∧Below w.heap.size w w8 :=
  fun w8 hb=>⟨keep hb (by simp[go_sem]),keep hb (by simp[go_sem]),keep hb (by simp[go_sem]),keep hb (by simp[go_sem]),keep hb (by simp[go_sem]),(show Below w.heap.size w _ from Bl).trans (hb.mono (by simp;omega))⟩
 have HC1:=hid C1;clear C1;unfold netV;go_enter Tryz.func21,Tryz.ntmps21;go_wp2_with fail;refine(netOK_spec p l c s g o e x f _ (HN.out.below Bl) HK0.out HK1.out).mono ?_;rintro e' w1 ⟨rfl,hb1⟩;obtain⟨q0,x0,x1,x2,x3,hB⟩:=HC1.out w1 hb1;have B1:=hid hB;clear hb1 hB HC1;obtain⟨b,eb⟩:∃b,netB l s g o e x f=b:=⟨_,rfl⟩;rw[eb]
 cases b with
 | false =>
  go_wp2;go_ret;exact⟨ret_bool (by rw[←HP.out,eb];simp[propB]),B1.out⟩
 | true =>
 obtain⟨b1,e1⟩:∃b,inB k 1 4=b:=⟨_,rfl⟩;obtain⟨b2,e2⟩:∃b,inB fr 0 (l 0 - 1)=b:=⟨_,rfl⟩;obtain⟨b3,e3⟩:∃b,inB po (-1) 15=b:=⟨_,rfl⟩;obtain⟨b4,e4⟩:∃b,(k==3)=b:=⟨_,rfl⟩;obtain⟨b5,e5⟩:∃b,inB wy 0 (l 0 - 1)=b:=⟨_,rfl⟩;obtain⟨b6,e6⟩:∃b,(wy==0)=b:=⟨_,rfl⟩
 have HD:Hid (D=(b1&&b2&&b3&&(if b4 then b5 else b6))):=by
  show _=_
  rw[←HP.out,eb];exact((prop_eq' e1 e2 e3 e4 e5 e6).trans (by simp))
 clear HP eb
 cases b1 with
 | false =>
  go_wp2_with (go_at_call 22;refine(in_spec _ _ _ _).mono ?_;rintro e w' ⟨rfl,rfl⟩);go_ret;exact⟨ret_bool (by rw[HD.out];rfl),B1.out⟩
 | true =>
  cases b2 with
  | false =>
   go_wp2_with (go_at_call 22;refine(in_spec _ _ _ _).mono ?_;rintro e w' ⟨rfl,rfl⟩);go_ret;exact⟨ret_bool (by rw[HD.out];rfl),B1.out⟩
  | true =>
   cases b3 with
   | false =>
    go_wp2_with (go_at_call 22;refine(in_spec _ _ _ _).mono ?_;rintro e w' ⟨rfl,rfl⟩);go_ret;exact⟨ret_bool (by rw[HD.out];rfl),B1.out⟩
   | true =>
    cases b4 with
    | false =>
     cases b6 with
     | false =>
      go_wp2_with (go_at_call 22;refine(in_spec _ _ _ _).mono ?_;rintro e w' ⟨rfl,rfl⟩);go_ret;exact⟨ret_bool (by rw[HD.out];rfl),B1.out⟩
     | true =>
      go_wp2_with (go_at_call 22;refine(in_spec _ _ _ _).mono ?_;rintro e w' ⟨rfl,rfl⟩);go_ret;exact⟨ret_bool (by rw[HD.out];rfl),B1.out⟩
    | true =>
     cases b5 with
     | false =>
      go_wp2_with (go_at_call 22;refine(in_spec _ _ _ _).mono ?_;rintro e w' ⟨rfl,rfl⟩);go_ret;exact⟨ret_bool (by rw[HD.out];rfl),B1.out⟩
     | true =>
      go_wp2_with (go_at_call 22;refine(in_spec _ _ _ _).mono ?_;rintro e w' ⟨rfl,rfl⟩);go_ret;exact⟨ret_bool (by rw[HD.out];rfl),B1.out⟩
end Go.Proofs.YtcnoemjeijjnjaaGreat.propSpec
namespace Go.Proofs.YtcnoemjeijjnjaaGreat.verFaceS
open Go.RowKit Go.Deep Go base copy names netSem netImpl netSpec routeRow nbSem candSem prodSem ssSem rofSem downsSpec envsSpec downsTwo stateTwo verSem verSpec verdictImpl verMath propSem rtsRow faultSpec
theorem vias_map {st:List Rt} {n:Nat} (h:st.length=n):viasSpec.viasL (rtsRow.rF st) n=st.map (·.via):=by
 rw[←h];unfold viasSpec.viasL rtsRow.rF;apply List.ext_getElem?;intro i;rw[List.getElem?_map,List.getElem?_map];by_cases hi:i<st.length
 · rw[List.getElem?_range hi,List.getElem?_eq_getElem hi];simp[List.getElem?_eq_getElem hi]
 rw[List.getElem?_eq_none (by simpa using hi),List.getElem?_eq_none Om];rfl
theorem ver_form {w:World} {B:Nat} {ST:List Bool→List Int→List (List Rt)} {DL:List (List Bool)} {EL:List (List Int)} {fa:List Rt→Int} {v:Value} (h:IsVer w B ST DL EL fa v):∃hd n x1 n1 y1 x2 n2 y2 x3 n3 y3 pt,v=.agg #[.bool hd,.int .i64 n,.slice x1 n1 y1,.slice x2 n2 y2,.slice x3 n3 y3,.int .i64 pt]:=by
 rcases h with ⟨_,h⟩|⟨pre,d,e,s,rest,dv,ev,vv,_,_,_,h,h1,h2,h3⟩
 · exact⟨_,_,_,_,_,_,_,_,_,_,_,_,h⟩
 obtain⟨x1,y1,e1⟩:=bools_form h1;obtain⟨x2,y2,e2,-⟩:=intsOwn.OwnInts.form h2;obtain⟨x3,y3,e3,-⟩:=intsOwn.OwnInts.form h3;subst e1;subst e2;subst e3;exact⟨_,_,_,_,_,_,_,_,_,_,_,_,h⟩
theorem ver_six {w:World} {B B' b:Nat} {ST:List Bool→List Int→List (List Rt)} {DL:List (List Bool)} {EL:List (List Int)} {fa:List Rt→Int} {v v0 v1 v2 v3 v4 v5:Value} (h:IsVer w B ST DL EL fa v) (hb:b<B) (hB:B'≤B):IsVer ((((((w.setCell ⟨b,0,none⟩ v0).setCell ⟨b,1,none⟩ v1).setCell ⟨b,2,none⟩ v2).setCell ⟨b,3,none⟩ v3).setCell ⟨b,4,none⟩ v4).setCell ⟨b,5,none⟩ v5) B' ST DL EL fa v:=by
 rcases h with h|⟨pre,d,e,s,rest,dv,ev,vv,t1,t2,t3,h,h1,h2,h3⟩
 · exact .inl h
 exact .inr ⟨pre,d,e,s,rest,dv,ev,vv,t1,t2,t3,h,own_low (six_own h1 hb) hB,own_low (six_own h2 hb) hB,own_low (six_own h3 hb) hB⟩
set_option maxRecDepth 100000 in
set_option maxHeartbeats 6400000 in
theorem verify_spec (p:Nat→Option Addr) (l c:Nat→Nat) (s:Ss) (g:R) (og ex:List Int) (x f:R) (kind fr pp way k:Int) (w:World) (h:NetIs w p l s g og ex x f) (hc0:l 0≤c 0) (hc1:l 1≤c 1) :
  Calls Tryz.prog 8 #[netV p l c,.agg #[.int .i64 kind,.int .i64 fr,.int .i64 pp,.int .i64 way],.int .i64 k] w fun e' w'=>∃v,e' = .returned (.tuple #[v,.int .i64 (verC (propB (netB l s g og ex x f) (l 0) kind fr pp way) k)])∧VerAns w' w.heap.size (verC (propB (netB l s g og ex x f) (l 0) kind fr pp way) k) (stP g og ex x l) (downsP (l 1) (k.toNat+1)) (prod (fun _=>[0,1,2]) (l 3)) (fun st=>faultAt (rF st) f (l 5) (l 0) kind pp way fr.toNat) v∧Below w.heap.size w w' := by
 have HN:=hid h;have HP:Hid (∀W:World,Below w.heap.size w W→Calls Tryz.prog 21 #[netV p l c,.agg #[.int .i64 kind,.int .i64 fr,.int .i64 pp,.int .i64 way]] W fun e' w'=>e' = .returned (.bool (propB (netB l s g og ex x f) (l 0) kind fr pp way))∧Below W.heap.size W w'):=hid (fun W hb=>propSpec.prop_spec p l c s g og ex x f kind fr pp way W (h.below hb) hc0 hc1);obtain⟨ok,hok⟩:∃b,propB (netB l s g og ex x f) (l 0) kind fr pp way=b:=⟨_,rfl⟩;have HOK:=hid hok;rw[hok];simp only[hok]at HP;obtain⟨fa,hfa⟩:∃fa:List Rt→Int,(fun st=>faultAt (rF st) f (l 5) (l 0) kind pp way fr.toNat)=fa:=⟨_,rfl⟩;have HFa:Hid (∀st,faultAt (rF st) f (l 5) (l 0) kind pp way fr.toNat=fa st):=hid (fun st=>by rw[←hfa]);rw[hfa];clear hok hfa h
 have C1:∀w8:World,Below (((w.alloc (.cells #[.slice (p 0) (l 0) (c 0),.slice (p 1) (l 1) (c 1),.slice (p 2) (l 2) (c 2),.slice (p 3) (l 3) (c 3),.slice (p 4) (l 4) (c 4),.slice (p 5) (l 5) (c 5)] 29)).alloc (.cells #[.int .i64 kind,.int .i64 fr,.int .i64 pp,.int .i64 way] 32)).alloc (.cells #[.bool false,.int .i64 0,.slice none 0 0,.slice none 0 0,.slice none 0 0,.int .i64 0] 37)).heap.size (((w.alloc (.cells #[.slice (p 0) (l 0) (c 0),.slice (p 1) (l 1) (c 1),.slice (p 2) (l 2) (c 2),.slice (p 3) (l 3) (c 3),.slice (p 4) (l 4) (c 4),.slice (p 5) (l 5) (c 5)] 29)).alloc (.cells #[.int .i64 kind,.int .i64 fr,.int .i64 pp,.int .i64 way] 32)).alloc (.cells #[.bool false,.int .i64 0,.slice none 0 0,.slice none 0 0,.slice none 0 0,.int .i64 0] 37)) w8→(w8.cell? ⟨w.heap.size,0,none⟩=some (.slice (p 0) (l 0) (c 0))∧w8.cell? ⟨w.heap.size,1,none⟩=some (.slice (p 1) (l 1) (c 1))∧w8.cell? ⟨w.heap.size,2,none⟩=some (.slice (p 2) (l 2) (c 2))∧w8.cell? ⟨w.heap.size,3,none⟩=some (.slice (p 3) (l 3) (c 3))∧w8.cell? ⟨w.heap.size,4,none⟩=some (.slice (p 4) (l 4) (c 4))∧w8.cell? ⟨w.heap.size,5,none⟩=some (.slice (p 5) (l 5) (c 5))∧w8.cell? ⟨w.heap.size+1,0,none⟩=some (.int .i64 kind)∧w8.cell? ⟨w.heap.size+1,1,none⟩=some (.int .i64 fr)∧w8.cell? ⟨w.heap.size+1,2,none⟩=some (.int .i64 pp)∧w8.cell? ⟨w.heap.size+1,3,none⟩=some (.int .i64 way))∧w8.heap[w.heap.size+2]? = some (.cells #[.bool false,.int .i64 0,.slice none 0 0,.slice none 0 0,.slice none 0 0,.int .i64 0] 37 (0,0))∧Below w.heap.size w w8∧w.heap.size+3≤w8.heap.size:=fun w8 hb=>by
  refine⟨⟨keep hb (by simp[go_sem]),keep hb (by simp[go_sem]),keep hb (by simp[go_sem]),keep hb (by simp[go_sem]),keep hb (by simp[go_sem]),keep hb (by simp[go_sem]),keep hb (by simp[go_sem]),keep hb (by simp[go_sem]),keep hb (by simp[go_sem]),keep hb (by simp[go_sem])⟩,?_,(show Below w.heap.size w _ from Bl).trans (hb.mono (by simp;omega)),by have:=hb.size;simpa using this⟩;have h9:=heap_alloc_new ((w.alloc (.cells #[.slice (p 0) (l 0) (c 0),.slice (p 1) (l 1) (c 1),.slice (p 2) (l 2) (c 2),.slice (p 3) (l 3) (c 3),.slice (p 4) (l 4) (c 4),.slice (p 5) (l 5) (c 5)] 29)).alloc (.cells #[.int .i64 kind,.int .i64 fr,.int .i64 pp,.int .i64 way] 32)) (.cells #[.bool false,.int .i64 0,.slice none 0 0,.slice none 0 0,.slice none 0 0,.int .i64 0] 37);rw[show ((w.alloc (.cells #[.slice (p 0) (l 0) (c 0),.slice (p 1) (l 1) (c 1),.slice (p 2) (l 2) (c 2),.slice (p 3) (l 3) (c 3),.slice (p 4) (l 4) (c 4),.slice (p 5) (l 5) (c 5)] 29)).alloc (.cells #[.int .i64 kind,.int .i64 fr,.int .i64 pp,.int .i64 way] 32)).heap.size=w.heap.size+2 by simp]at h9;exact(hb.block _ (by simp)).trans h9
 have HC1:=hid C1;clear C1;unfold netV at HP ⊢;go_enter Tryz.func8,Tryz.ntmps8;go_wp2_with fail;refine(HP.out _ Bl).mono ?_;rintro e1 w1 ⟨rfl,hb1⟩;obtain⟨⟨q0,q1,q2,q3,q4,q5,q6,q7,q8,q9⟩,hres,hB1,hz1⟩:=HC1.out _ hb1;have B1:=hid hB1;have HRes:=hid hres;have r0:w1.cell? ⟨w.heap.size+2,0,none⟩=some (.bool false):=by simp[World.cell?,hres]
 have z0:w1.frozen? ⟨w.heap.size+2,0,none⟩=false:=by simp[World.frozen?,hres]
 have r1:w1.cell? ⟨w.heap.size+2,1,none⟩=some (.int .i64 0):=by simp[World.cell?,hres]
 have z1:w1.frozen? ⟨w.heap.size+2,1,none⟩=false:=by simp[World.frozen?,hres]
 have r2:w1.cell? ⟨w.heap.size+2,2,none⟩=some (.slice none 0 0):=by simp[World.cell?,hres]
 have z2:w1.frozen? ⟨w.heap.size+2,2,none⟩=false:=by simp[World.frozen?,hres]
 have r3:w1.cell? ⟨w.heap.size+2,3,none⟩=some (.slice none 0 0):=by simp[World.cell?,hres]
 have z3:w1.frozen? ⟨w.heap.size+2,3,none⟩=false:=by simp[World.frozen?,hres]
 have r4:w1.cell? ⟨w.heap.size+2,4,none⟩=some (.slice none 0 0):=by simp[World.cell?,hres]
 have z4:w1.frozen? ⟨w.heap.size+2,4,none⟩=false:=by simp[World.frozen?,hres]
 have r5:w1.cell? ⟨w.heap.size+2,5,none⟩=some (.int .i64 0):=by simp[World.cell?,hres]
 have z5:w1.frozen? ⟨w.heap.size+2,5,none⟩=false:=by simp[World.frozen?,hres]
 clear hb1 hB1 hres HC1
 cases ok with
 | false =>
  have HC:Hid (verC false k=1):=hid rfl;go_wp2_with fail;refine bodyPost_ret (v:=.tuple #[zeroV,.int .i64 1]) (by simp[results,Tryz.results8,go_sem,zeroV,r0,r1,r2,r3,r4,r5]) rfl ⟨_,by rw[HC.out],by unfold VerAns;rw[HC.out,if_neg (by decide)],?_⟩;exact six_below B1.out Om
 | true =>
  obtain⟨kb,hkb⟩:∃b,inB k 0 2=b:=⟨_,rfl⟩;have HKb:=hid hkb;have HIn:Hid (∀W:World,Calls Tryz.prog 22 #[.int .i64 k,.int .i64 0,.int .i64 2] W fun e w'=>e=.returned (.bool kb)∧w' = W):=hid (fun W=>by have:=in_spec k 0 2 W;rw[hkb]at this;exact this);clear hkb;go_wp2_with fail;refine(HIn.out _).mono ?_;rintro e2 w2 ⟨rfl,hw2⟩;have hw2:=hw2.symm;subst hw2
  cases kb with
  | false =>
   have HC:Hid (verC true k=5):=hid (by unfold verC;rw[HKb.out];rfl);go_wp2_with fail;refine bodyPost_ret (v:=.tuple #[zeroV,.int .i64 5]) (by simp[results,Tryz.results8,go_sem,zeroV,r0,r1,r2,r3,r4,r5]) rfl ⟨_,by rw[HC.out],by unfold VerAns;rw[HC.out,if_neg (by decide)],?_⟩;exact six_below B1.out Om
  | true =>
   have HC:Hid (verC true k=0):=hid (by unfold verC;rw[HKb.out];rfl);obtain⟨hok,hf0,hf1,hp0,hp1⟩:=prop_facts HOK.out;obtain⟨hfine,hn1,hL,hE,h12,hgi,hxi⟩:=net_facts hok;have h4:=hfine.few;obtain⟨kN,hkN⟩:∃kN:Nat,k=(kN:Int):=⟨k.toNat,by have:=HKb.out;unfold inB at this;simp only[decide_eq_true_eq]at this;omega⟩;have hk2:kN≤2:=by have:=HKb.out;unfold inB at this;simp only[decide_eq_true_eq]at this;omega
   obtain⟨fN,hfN⟩:∃fN:Nat,fr=(fN:Int):=⟨fr.toNat,by omega⟩;subst hkN;subst hfN;have hfl:fN<l 0:=by omega
   simp only[Int.toNat_natCast]at HFa ⊢
   have HVe:Hid (Calls Tryz.prog 23 #[netV p l c,.agg #[.int .i64 kind,.int .i64 (fN:Int),.int .i64 pp,.int .i64 way],.int .i64 (kN:Int)] w1 fun e w'=>∃v,e=.returned v∧IsVer w' w1.heap.size (stP g og ex x l) (downsP (l 1) (kN+1)) (prod (fun _=>[0,1,2]) (l 3)) fa v∧Below w1.heap.size w1 w'):=hid (by
    refine ver_spec p l c kind pp way fN kN (downsP (l 1) (kN+1)) (prod (fun _=>[0,1,2]) (l 3)) (stP g og ex x l) fa w1 (fun W=>?_) (fun W=>envs_spec (l 3) W Om) (fun W ea ec da dc env ds hds henv hb he hd=>?_) (fun W a rc ds env st hds henv hst hb hr=>?_) (fun W a rc st hsl hr=>?_) (fun d hd=>downs_len hd) (fun e he=>prod_len he) (fun d e st hst=>st_len st hst) (downs_few _ _ hL hk2) (envs_few _ Om) (fun d e=>st_few h4 d e)
    · have h9:=downs_spec (l 1) kN W hL hk2;rw[downs_same _ _ hL]at h9;exact h9
    · have hbb:=B1.out.trans (hb.mono B1.out.size);have h9:=staSpec.states_spec p l c s g og ex x f ea da ec dc env ds W (HN.out.below hbb) he hd h4 hn1 hfine.uniq hfine.cost hfine.deed (envs_pos henv);rw[st_same (fun _=>trivial) (envs_pos henv) hn1]at h9;exact h9
    · have hbb:=B1.out.trans (hb.mono B1.out.size);have h9:=fault_spec p l c f a (l 0) rc (rF st) kind pp way fN W (HN.out.filters.below hbb) hr (via_st hfine hn1 hst) hfl h4;rw[HFa.out]at h9;exact h9
    have h9:=viasSpec.vias_spec a (l 0) rc (rF st) W hr h4;rw[vias_map hsl]at h9
    exact h9)
   unfold netV at HVe;clear hok hf0 hf1 hp0 hp1 hfine hn1 hL hE h12 hgi hxi h4 hk2 hfl;go_wp2_with fail;refine HVe.out.mono ?_;rintro e3 w3 ⟨v,rfl,hv,hb3⟩;obtain⟨hd,n9,x1,n1,y1,x2,n2,y2,x3,n3,y3,pt,hvf⟩:=ver_form hv;subst hvf;have HV3:=hid hv;have HB3:=hid (B1.out.trans (hb3.mono B1.out.size));have hres3:=(hb3.block _ (Array.getElem?_eq_some_iff.1 HRes.out).1).trans HRes.out;have r0:w3.cell? ⟨w.heap.size+2,0,none⟩=some (.bool false):=by simp[World.cell?,hres3]
   have z0:w3.frozen? ⟨w.heap.size+2,0,none⟩=false:=by simp[World.frozen?,hres3]
   have r1:w3.cell? ⟨w.heap.size+2,1,none⟩=some (.int .i64 0):=by simp[World.cell?,hres3]
   have z1:w3.frozen? ⟨w.heap.size+2,1,none⟩=false:=by simp[World.frozen?,hres3]
   have r2:w3.cell? ⟨w.heap.size+2,2,none⟩=some (.slice none 0 0):=by simp[World.cell?,hres3]
   have z2:w3.frozen? ⟨w.heap.size+2,2,none⟩=false:=by simp[World.frozen?,hres3]
   have r3:w3.cell? ⟨w.heap.size+2,3,none⟩=some (.slice none 0 0):=by simp[World.cell?,hres3]
   have z3:w3.frozen? ⟨w.heap.size+2,3,none⟩=false:=by simp[World.frozen?,hres3]
   have r4:w3.cell? ⟨w.heap.size+2,4,none⟩=some (.slice none 0 0):=by simp[World.cell?,hres3]
   have z4:w3.frozen? ⟨w.heap.size+2,4,none⟩=false:=by simp[World.frozen?,hres3]
   have r5:w3.cell? ⟨w.heap.size+2,5,none⟩=some (.int .i64 0):=by simp[World.cell?,hres3]
   have z5:w3.frozen? ⟨w.heap.size+2,5,none⟩=false:=by simp[World.frozen?,hres3]
   clear hv hb3 hres3;go_wp2_with fail;refine bodyPost_ret (v:=.tuple #[.agg #[.bool hd,.int .i64 n9,.slice x1 n1 y1,.slice x2 n2 y2,.slice x3 n3 y3,.int .i64 pt],.int .i64 0]) (by simp[results,Tryz.results8,go_sem,r0,r1,r2,r3,r4,r5]) rfl ⟨_,by rw[HC.out],by unfold VerAns;rw[HC.out,if_pos rfl];exact ver_six HV3.out Om Om,?_⟩;exact six_below HB3.out Om
end Go.Proofs.YtcnoemjeijjnjaaGreat.verFaceS
namespace Go.Proofs.YtcnoemjeijjnjaaGreat.propImpl
open Go.RowKit Go.Deep Go base names netSem propSem netImpl netParts netFace netOKImpl
theorem port_impl (n:Int) (w:World) :
  Calls Tryz.prog 28 #[.int .i64 n] w fun e w'=>e=.returned (.bool (inB n 0 15))∧w' = w:=by
 go_enter Tryz.func28,Tryz.ntmps28;go_wp2_with (go_at_call 19;refine(within_impl _ _ _ _).mono ?_;rintro e w' ⟨rfl,rfl⟩);go_ret;exact⟨rfl,rfl⟩
set_option maxHeartbeats 3200000 in
theorem prop_impl (p:Nat→Option Addr) (l c:Nat→Nat) (s:Ss) (g:R) (o e:List Int) (x f:R) (k fr po wy:Int) (w:World) (h:NetIs w p l s g o e x f) (hc0:l 0≤c 0) (hc1:l 1≤c 1) :
  Calls Tryz.prog 10 #[netV p l c,.agg #[.int .i64 k,.int .i64 fr,.int .i64 po,.int .i64 wy]] w fun e' w'=>e' = .returned (.bool (propB (netB l s g o e x f) (l 0) k fr po wy))∧Below w.heap.size w w' := by
 have HN:=hid h;have m0:=h.routers.most;have HM0:=hid m0;unfold maxLen at m0;have HK0:=hid hc0;have HK1:=hid hc1;clear h hc0 hc1;obtain⟨D,hD⟩:∃D,propB (netB l s g o e x f) (l 0) k fr po wy=D:=⟨_,rfl⟩;rw[hD];have HP:=hid hD;clear hD
 have C1:∀w8:World,Below ((w.alloc (.cells #[.slice (p 0) (l 0) (c 0),.slice (p 1) (l 1) (c 1),.slice (p 2) (l 2) (c 2),.slice (p 3) (l 3) (c 3),.slice (p 4) (l 4) (c 4),.slice (p 5) (l 5) (c 5)] 29)).alloc (.cells #[.int .i64 k,.int .i64 fr,.int .i64 po,.int .i64 wy] 32)).heap.size ((w.alloc (.cells #[.slice (p 0) (l 0) (c 0),.slice (p 1) (l 1) (c 1),.slice (p 2) (l 2) (c 2),.slice (p 3) (l 3) (c 3),.slice (p 4) (l 4) (c 4),.slice (p 5) (l 5) (c 5)] 29)).alloc (.cells #[.int .i64 k,.int .i64 fr,.int .i64 po,.int .i64 wy] 32)) w8 →
   w8.cell? ⟨w.heap.size,0,none⟩=some (.slice (p 0) (l 0) (c 0))∧w8.cell? ⟨w.heap.size+1,0,none⟩=some (.int .i64 k)∧w8.cell? ⟨w.heap.size+1,1,none⟩=some (.int .i64 fr)∧w8.cell? ⟨w.heap.size+1,2,none⟩=some (.int .i64 po)∧w8.cell? ⟨w.heap.size+1,3,none⟩=some (.int .i64 wy)∧Below w.heap.size w w8 :=
  fun w8 hb=>⟨keep hb (by simp[go_sem]),keep hb (by simp[go_sem]),keep hb (by simp[go_sem]),keep hb (by simp[go_sem]),keep hb (by simp[go_sem]),(show Below w.heap.size w _ from Bl).trans (hb.mono (by simp;omega))⟩
 have HC1:=hid C1;clear C1;unfold netV;go_enter Tryz.func10,Tryz.ntmps10;go_wp2_with fail;refine(netOK_impl p l c s g o e x f _ (HN.out.below Bl) HK0.out HK1.out).mono ?_;rintro e' w1 ⟨rfl,hb1⟩;obtain⟨q0,x0,x1,x2,x3,hB⟩:=HC1.out w1 hb1;have B1:=hid hB;clear hb1 hB HC1;obtain⟨b,eb⟩:∃b,netB l s g o e x f=b:=⟨_,rfl⟩;rw[eb]
 cases b with
 | false =>
  go_wp2;go_ret;exact⟨ret_bool (by rw[←HP.out,eb];simp[propB]),B1.out⟩
 | true =>
 have h0:=netB_in eb;obtain⟨b1,e1⟩:∃b,inB k 1 4=b:=⟨_,rfl⟩;obtain⟨b2,e2⟩:∃b,inB fr 0 (l 0 - 1)=b:=⟨_,rfl⟩;obtain⟨b3,e3⟩:∃b,(po==-1)=b:=⟨_,rfl⟩;obtain⟨b4,e4⟩:∃b,inB po 0 15=b:=⟨_,rfl⟩;obtain⟨b5,e5⟩:∃b,(wy==0)=b:=⟨_,rfl⟩;obtain⟨b6,e6⟩:∃b,(k==3)=b:=⟨_,rfl⟩;obtain⟨b7,e7⟩:∃b,inB wy 0 (l 0 - 1)=b:=⟨_,rfl⟩
 have HD:Hid (D=(b1&&b2&&(b3||b4)&&(b5||b6&&b7))):=by
  show _=_
  rw[←HP.out,eb];exact(prop_eq h0.1 e1 e2 e3 e4 e5 e6 e7)
 clear HP eb
 cases b1 with
 | false =>
  go_wp2_with (first|(go_at_call 19;refine(within_impl _ _ _ _).mono ?_;rintro e w' ⟨rfl,rfl⟩)|(go_at_call 27;refine(router_impl _ _ _ HM0.out).mono ?_;rintro e w' ⟨rfl,rfl⟩)|(go_at_call 28;refine(port_impl _ _).mono ?_;rintro e w' ⟨rfl,rfl⟩));go_ret;exact⟨ret_bool (by rw[HD.out];rfl),B1.out⟩
 | true =>
  cases b2 with
  | false =>
   go_wp2_with (first|(go_at_call 19;refine(within_impl _ _ _ _).mono ?_;rintro e w' ⟨rfl,rfl⟩)|(go_at_call 27;refine(router_impl _ _ _ HM0.out).mono ?_;rintro e w' ⟨rfl,rfl⟩)|(go_at_call 28;refine(port_impl _ _).mono ?_;rintro e w' ⟨rfl,rfl⟩));go_ret;exact⟨ret_bool (by rw[HD.out];rfl),B1.out⟩
  | true =>
   cases b3 with
   | false =>
    cases b4 with
    | false =>
     go_wp2_with (first|(go_at_call 19;refine(within_impl _ _ _ _).mono ?_;rintro e w' ⟨rfl,rfl⟩)|(go_at_call 27;refine(router_impl _ _ _ HM0.out).mono ?_;rintro e w' ⟨rfl,rfl⟩)|(go_at_call 28;refine(port_impl _ _).mono ?_;rintro e w' ⟨rfl,rfl⟩));go_ret;exact⟨ret_bool (by rw[HD.out];rfl),B1.out⟩
    | true =>
     cases b5 with
     | false =>
      cases b6 with
      | false =>
       go_wp2_with (first|(go_at_call 19;refine(within_impl _ _ _ _).mono ?_;rintro e w' ⟨rfl,rfl⟩)|(go_at_call 27;refine(router_impl _ _ _ HM0.out).mono ?_;rintro e w' ⟨rfl,rfl⟩)|(go_at_call 28;refine(port_impl _ _).mono ?_;rintro e w' ⟨rfl,rfl⟩));go_ret;exact⟨ret_bool (by rw[HD.out];rfl),B1.out⟩
      | true =>
       cases b7 with
       | false =>
        go_wp2_with (first|(go_at_call 19;refine(within_impl _ _ _ _).mono ?_;rintro e w' ⟨rfl,rfl⟩)|(go_at_call 27;refine(router_impl _ _ _ HM0.out).mono ?_;rintro e w' ⟨rfl,rfl⟩)|(go_at_call 28;refine(port_impl _ _).mono ?_;rintro e w' ⟨rfl,rfl⟩));go_ret;exact⟨ret_bool (by rw[HD.out];rfl),B1.out⟩
       | true =>
        go_wp2_with (first|(go_at_call 19;refine(within_impl _ _ _ _).mono ?_;rintro e w' ⟨rfl,rfl⟩)|(go_at_call 27;refine(router_impl _ _ _ HM0.out).mono ?_;rintro e w' ⟨rfl,rfl⟩)|(go_at_call 28;refine(port_impl _ _).mono ?_;rintro e w' ⟨rfl,rfl⟩));go_ret;exact⟨ret_bool (by rw[HD.out];rfl),B1.out⟩
     | true =>
      go_wp2_with (first|(go_at_call 19;refine(within_impl _ _ _ _).mono ?_;rintro e w' ⟨rfl,rfl⟩)|(go_at_call 27;refine(router_impl _ _ _ HM0.out).mono ?_;rintro e w' ⟨rfl,rfl⟩)|(go_at_call 28;refine(port_impl _ _).mono ?_;rintro e w' ⟨rfl,rfl⟩));go_ret;exact⟨ret_bool (by rw[HD.out];rfl),B1.out⟩
   | true =>
    cases b5 with
    | false =>
     cases b6 with
     | false =>
      go_wp2_with (first|(go_at_call 19;refine(within_impl _ _ _ _).mono ?_;rintro e w' ⟨rfl,rfl⟩)|(go_at_call 27;refine(router_impl _ _ _ HM0.out).mono ?_;rintro e w' ⟨rfl,rfl⟩)|(go_at_call 28;refine(port_impl _ _).mono ?_;rintro e w' ⟨rfl,rfl⟩));go_ret;exact⟨ret_bool (by rw[HD.out];rfl),B1.out⟩
     | true =>
      cases b7 with
      | false =>
       go_wp2_with (first|(go_at_call 19;refine(within_impl _ _ _ _).mono ?_;rintro e w' ⟨rfl,rfl⟩)|(go_at_call 27;refine(router_impl _ _ _ HM0.out).mono ?_;rintro e w' ⟨rfl,rfl⟩)|(go_at_call 28;refine(port_impl _ _).mono ?_;rintro e w' ⟨rfl,rfl⟩));go_ret;exact⟨ret_bool (by rw[HD.out];rfl),B1.out⟩
      | true =>
       go_wp2_with (first|(go_at_call 19;refine(within_impl _ _ _ _).mono ?_;rintro e w' ⟨rfl,rfl⟩)|(go_at_call 27;refine(router_impl _ _ _ HM0.out).mono ?_;rintro e w' ⟨rfl,rfl⟩)|(go_at_call 28;refine(port_impl _ _).mono ?_;rintro e w' ⟨rfl,rfl⟩));go_ret;exact⟨ret_bool (by rw[HD.out];rfl),B1.out⟩
    | true =>
     go_wp2_with (first|(go_at_call 19;refine(within_impl _ _ _ _).mono ?_;rintro e w' ⟨rfl,rfl⟩)|(go_at_call 27;refine(router_impl _ _ _ HM0.out).mono ?_;rintro e w' ⟨rfl,rfl⟩)|(go_at_call 28;refine(port_impl _ _).mono ?_;rintro e w' ⟨rfl,rfl⟩));go_ret;exact⟨ret_bool (by rw[HD.out];rfl),B1.out⟩
end Go.Proofs.YtcnoemjeijjnjaaGreat.propImpl
