import Derived.Test.YtcnoemjeijjnjaaGreatChoSpec
import Derived.Test.YtcnoemjeijjnjaaGreatPart43
import Derived.Deep.RegionHeld3
import Derived.Test.YtcnoemjeijjnjaaGreatVerdictImpl
set_option linter.unusedVariables false
namespace Go.Proofs.YtcnoemjeijjnjaaGreat.staSpec
open Go.RowKit Go.Deep Go base copy names netSem netSpec routeRow nbSem candSem candWay hopSem intsOwn sceneSem sceneBy stabFace stabLaw prodSem rtsRow rofSem rofSpec ssSem optSpec choSpec rRows valRB
theorem OwnRI.kept {B B' m:Nat} {w w':World} {v x:Value} {ys:List Value} {ps:List ((Nat × Nat) × List Int)} (h:OwnRI B w v ps) (hx:w.ownsRow B' 52 1 x m ys) (hg:w.grownBy w' x.ownBlock):OwnRI B w' v ps :=
 ⟨own_kept (by decide) h.outer hx hg,fun p hp=>own_kept (by decide) (h.inner p hp) hx hg⟩
theorem opt_in {g:R} {nl:Nat} {o e env:List Int} {ds:List Bool} {n:Nat} {i:Int} (he:∀i,0≤zAt env i) {z:Int} (h:z∈optL g nl o e env ds n i) : -3≤z∧z<n:=by
 rw[opt_row g nl o e env ds n i he]at h;have h1:=(List.mem_filter.1 h).1;unfold rowP at h1;obtain⟨j,hj,rfl⟩:=List.mem_map.1 (List.mem_filter.1 h1).1;have:=List.mem_range.1 hj;omega
theorem prod_bounds {g:R} {nl:Nat} {o e env:List Int} {ds:List Bool} {n:Nat} (he:∀i,0≤zAt env i) (hn1:1≤n) {vs:List Int} (h:vs∈prod (fun i:Nat=>optL g nl o e env ds n (i:Int)) n) (i:Nat) : -3≤zAt vs i∧zAt vs i<n:=by
 by_cases hi:i<n
 · exact opt_in he (prod_in h i hi)
 have hl:=prod_len h;unfold zAt;rw[List.getElem?_eq_none Om];simp;omega
set_option maxHeartbeats 6400000 in
set_option maxRecDepth 8000 in
theorem states_spec (p:Nat→Option Addr) (l c:Nat→Nat) (s:Ss) (g:R) (o e:List Int) (x f:R) (ea da:Option Addr) (ec dc:Nat) (env:List Int) (ds:List Bool) (w:World) (h:NetIs w p l s g o e x f) (he:IntRow w ea (l 3) env) (hd:BoolRow w da (l 1) ds) (h4:l 0≤4) (hn1:1≤l 0) (hu:∀i,i<l 1→linkAt g i (g i 0) (g i 1)<0) (hc:∀i,i<l 1→0≤g i 2∧g i 2≤100) (hdd:∀i,i<l 4→1≤x i 3∧x i 3≤4) (henv:∀i,0≤zAt env i) :
  Calls Tryz.prog 38 #[netV p l c,.slice ea (l 3) ec,.slice da (l 1) dc] w fun e' w'=>∃v ps,e' = .returned v∧OwnRR w.heap.size w' v ps∧ps.map Prod.snd=statesL g (l 1) o e x (l 4) env ds (l 0) (prod (fun i:Nat=>optL g (l 1) o e env ds (l 0) (i:Int)) (l 0))∧Below w.heap.size w w' := by
 have HCh:Hid (∀W:World,Below w.heap.size w W→Calls Tryz.prog 72 #[netV p l c,.slice ea (l 3) ec,.slice da (l 1) dc] W fun e' w'=>∃v ps,e' = .returned v∧OwnRI W.heap.size w' v ps∧ps.map Prod.snd=prod (fun i:Nat=>optL g (l 1) o e env ds (l 0) (i:Int)) (l 0)∧Below W.heap.size W w'):=hid (fun W hb=>choices_spec p l c s g o e x f ea da ec dc env ds W (h.below hb) (he.below hb) (hd.below hb) h4);obtain⟨PR,hPR⟩:∃PR,prod (fun i:Nat=>optL g (l 1) o e env ds (l 0) (i:Int)) (l 0)=PR:=⟨_,rfl⟩;have HBo:Hid (∀vs∈PR,vs.length=l 0∧∀i,-3≤zAt vs i∧zAt vs i<l 0):=hid (fun vs hv=>by rw[←hPR]at hv;exact⟨prod_len hv,prod_bounds henv hn1 hv⟩)
 have HPn:Hid (PR.length≤2401):=hid (by
  have h1:=prod_size (A:=(fun i:Nat=>optL g (l 1) o e env ds (l 0) (i:Int))) (M:=7) (l 0) (fun i _=>Nat.le_trans (opt_len _ _ _ _ _ _ _ _) Om);have h2:7 ^ (l 0)≤7 ^ 4:=Nat.pow_le_pow_right (by decide) h4;rw[hPR]at h1
  omega)
 rw[hPR]at HCh ⊢;clear hPR;obtain⟨okF,hOk⟩:∃okF:List Int→Bool,okF=(fun vs=>okV g (l 1) o e x (l 4) env ds vs (l 0)):=⟨_,rfl⟩;obtain⟨stF,hSt⟩:∃stF:List Int→Bool,stF=(fun vs=>stabB g (l 1) o e x (l 4) env ds (valR g (l 1) o e x (l 4) env ds vs (l 0)) (l 0)):=⟨_,rfl⟩;obtain⟨zs,hZs⟩:∃zs:List Int→List Rt,zs=stateOf g (l 1) o e x (l 4) env ds (l 0):=⟨_,rfl⟩
 have HOf:Hid (∀(W:World) (va:Option Addr) (vc:Nat) (vs:List Int),vs∈PR→Below w.heap.size w W→IntRow W va (l 0) vs→Calls Tryz.prog 73 #[netV p l c,.slice ea (l 3) ec,.slice da (l 1) dc,.slice va (l 0) vc] W fun e' w'=>∃v,e' = .returned (.tuple #[v,.bool (okF vs)])∧(okF vs=true→OwnRts W.heap.size w' v (zs vs))∧Below W.heap.size W w'):=hid (fun W va vc vs hv hb hr=>by
  rw[hOk,hZs]
  exact of_spec p l c s g o e x f ea da va ec dc vc env ds vs W (h.below hb) (he.below hb) (hd.below hb) hr h4 hn1 hc (HBo.out vs hv).2 henv)
 have HSt:Hid (∀(W:World) (N cap:Nat) (vs:List Int),vs∈PR→okF vs=true→Below w.heap.size w W→OwnRts w.heap.size W (.slice (some ⟨N,0,none⟩) (l 0) cap) (zs vs)→Calls Tryz.prog 74 #[netV p l c,.slice ea (l 3) ec,.slice da (l 1) dc,.slice (some ⟨N,0,none⟩) (l 0) cap] W fun e' w'=>e' = .returned (.bool (stF vs))∧Below W.heap.size W w'):=hid (fun W N cap vs hv hok hb ho=>by
  rw[hOk]at hok;rw[hSt];obtain⟨h1,h2,h3,h5⟩:=laid_own ho;have hgd:sceneBy.Good (l 0) l g x (valR g (l 1) o e x (l 4) env ds vs (l 0)):=⟨h4,hu,hc,hdd,fun i hi=>(valR_bounds hn1 h4 (HBo.out vs hv).2 hc hok hi).1,fun i hi=>(valR_bounds hn1 h4 (HBo.out vs hv).2 hc hok hi).2⟩;refine stable_spec p l c s g o e x f ea da _ ec dc cap env ds _ W (h.below hb) (he.below hb) (hd.below hb) (laid_row (laid_same h1 (fun i hi=>?_)) h2 (Nat.le_trans h2 h3)) hgd;rw[hZs];unfold rF stateOf;rw[List.getElem?_map,List.getElem?_range hi]
  rfl)
 have HZl:Hid (∀vs,(zs vs).length=l 0):=hid (fun vs=>by rw[hZs];unfold stateOf;simp);have HSn:Hid (∀(L:List (List Int)) (vs:List Int),statesL g (l 1) o e x (l 4) env ds (l 0) (L++[vs])=statesL g (l 1) o e x (l 4) env ds (l 0) L++(if okF vs&&stF vs then [zs vs] else [])):=hid (fun L vs=>by rw[statesL_snoc,hOk,hSt,hZs];rfl);obtain⟨SL,hSL⟩:∃SL:List (List Int)→List (List Rt),SL=statesL g (l 1) o e x (l 4) env ds (l 0):=⟨_,rfl⟩;have HS0:Hid (SL []=[]):=hid (by rw[hSL];rfl);have HSm:Hid (∀L,(SL L).length≤L.length):=hid (fun L=>by rw[hSL];unfold statesL;rw[List.length_map];exact List.length_filter_le _ _);rw[←hSL]at HSn ⊢;clear hSL hOk hSt hZs
 have C1:∀w8:World,Below ((w.alloc (.cells #[.slice (p 0) (l 0) (c 0),.slice (p 1) (l 1) (c 1),.slice (p 2) (l 2) (c 2),.slice (p 3) (l 3) (c 3),.slice (p 4) (l 4) (c 4),.slice (p 5) (l 5) (c 5)] 29))).heap.size (w.alloc (.cells #[.slice (p 0) (l 0) (c 0),.slice (p 1) (l 1) (c 1),.slice (p 2) (l 2) (c 2),.slice (p 3) (l 3) (c 3),.slice (p 4) (l 4) (c 4),.slice (p 5) (l 5) (c 5)] 29)) w8→(w8.cell? ⟨w.heap.size,0,none⟩=some (.slice (p 0) (l 0) (c 0))∧w8.cell? ⟨w.heap.size,1,none⟩=some (.slice (p 1) (l 1) (c 1))∧w8.cell? ⟨w.heap.size,2,none⟩=some (.slice (p 2) (l 2) (c 2))∧w8.cell? ⟨w.heap.size,3,none⟩=some (.slice (p 3) (l 3) (c 3))∧w8.cell? ⟨w.heap.size,4,none⟩=some (.slice (p 4) (l 4) (c 4))∧w8.cell? ⟨w.heap.size,5,none⟩=some (.slice (p 5) (l 5) (c 5)))∧Below w.heap.size w w8 :=
  fun w8 hb=>⟨⟨keep hb (by simp[go_sem]),keep hb (by simp[go_sem]),keep hb (by simp[go_sem]),keep hb (by simp[go_sem]),keep hb (by simp[go_sem]),keep hb (by simp[go_sem])⟩,(show Below w.heap.size w _ from Bl).trans (hb.mono (by simp))⟩
 have HK:=hid C1;clear C1 h he hd hu hc hdd henv;obtain⟨i1,hi1,hzz⟩:=Option.map_eq_some_iff.1 info_rr;simp only[Prod.mk.injEq]at hzz;obtain⟨hy0,hy1,hy2⟩:=hzz;have HJ:=hid hi1;have HY0:=hid hy0;have HY1:=hid hy1;have HY2:=hid hy2;clear hi1 hy0 hy1 hy2;unfold netV at HCh HOf HSt ⊢;go_enter Tryz.func38,Tryz.ntmps38;obtain⟨q0,q1,q2,q3,q4,q5⟩:=(HK.out _ (Below.alloc Bz (Nat.le_refl _) (.cells #[] 52))).1;go_wp2_with fail;clear q0 q1 q2 q3 q4 q5;obtain⟨w1,hw1⟩:∃w1,(w.alloc (.cells #[.slice (p 0) (l 0) (c 0),.slice (p 1) (l 1) (c 1),.slice (p 2) (l 2) (c 2),.slice (p 3) (l 3) (c 3),.slice (p 4) (l 4) (c 4),.slice (p 5) (l 5) (c 5)] 29))=w1:=⟨_,rfl⟩;have hz1:w.heap.size<w1.heap.size:=by rw[←hw1];simp
 have HB1:Hid (Below w.heap.size w w1):=hid (by rw[←hw1];exact Bl);have HSz:Hid (w1.heap.size=w.heap.size+1):=hid (by rw[←hw1];simp);rw[hw1]at HK ⊢;clear hw1;obtain⟨w2,hw2⟩:∃w2,w1.alloc (.cells #[] 52)=w2:=⟨_,rfl⟩;have HB2:Hid (Below w1.heap.size w1 w2):=hid (by rw[←hw2];exact Bl);have HO2:Hid (OwnRR w1.heap.size w2 (.slice (some ⟨w.heap.size+1,0,none⟩) 0 0) []):=hid (by rw[←hw2];exact rr_empty _ _ _ (Nat.le_refl _) HSz.out);rw[hw2];clear hw2;refine(HCh.out _ (HB1.out.trans (HB2.out.mono HB1.out.size))).mono ?_;rintro e1 w3 ⟨vch,chs,rfl,hch,hcp,hb3⟩;obtain⟨oa,oc,hv⟩:=hch.form;subst hv;have HC3:=hid hch;have HCp:=hid hcp;have HO3:=hid (HO2.out.below hb3);have HB3:=hid (HB2.out.trans (hb3.mono HB2.out.size));have hcl:chs.length=PR.length:=by rw[←hcp,List.length_map]
 have hs2:=HB2.out.size;clear hch hcp hb3;go_wp2_with fail;go_loopw [9,7] (fun i v wr=>∃k:Nat,k≤chs.length∧i=.int .i64 k∧(∃ps,OwnRR w1.heap.size wr v ps∧ps.map Prod.snd=SL (PR.take k))∧OwnRI w2.heap.size wr (.slice oa chs.length oc) chs∧Below w1.heap.size w1 wr) (fun i _ _=>chs.length - (intOf i).toNat)
 case atStart=>exact⟨0,Nat.zero_le _,rfl,⟨[],HO3.out,HS0.out.symm⟩,HC3.out,HB3.out⟩
 obtain⟨k,hk,rfl,⟨ps,ho,hps⟩,hch,hbr⟩:=hrel;have HO:=hid ho;have HPs:=hid hps;have HC:=hid hch;have HBr:=hid hbr;have hsr:=hbr.size;obtain⟨⟨q0,q1,q2,q3,q4,q5⟩,hBw⟩:=HK.out _ HBr.out;have HBw:=hid hBw;clear ho hps hch hbr hBw;by_cases hlt:k<chs.length
 · obtain⟨q,hq⟩:∃q,chs[k]? = some q:=⟨_,List.getElem?_eq_getElem hlt⟩;obtain⟨og,hoa,hoc⟩:=HC.out.cell hq;subst hoa;have HCk:Hid (PR[k]? = some q.2):=hid (by rw[←HCp.out,List.getElem?_map,hq];rfl);have HMk:=hid (List.mem_of_getElem? HCk.out);have HQl:=hid (HBo.out q.2 HMk.out).1;have HQi:=hid (HC.out.inner q (List.mem_of_getElem? hq))
   have HRow:Hid (∀w8:World,Below wr.heap.size wr w8→IntRow w8 (some ⟨q.1.1,0,none⟩) (l 0) q.2):=hid (fun w8 hb=>by
    have:=row_of_own (HQi.out.below hb);rw[HQl.out]at this
    exact this)
   have HSk:Hid (SL (PR.take (k+1))=SL (PR.take k)++(if okF q.2&&stF q.2 then [zs q.2] else [])):=hid (by rw[List.take_add_one,HCk.out];exact HSn.out _ _)
   have hpn:ps.length≤2401:=by
    have h1:ps.length=(SL (PR.take k)).length:=by rw[←HPs.out,List.length_map]
    have h2:=HSm.out (PR.take k);have h3:=HPn.out;rw[List.length_take]at h2;omega
   unfold rv at hoc;rw[HQl.out]at hoc;have HKc:Hid (∀w8:World,Below wr.heap.size wr w8→w8.cell? ⟨w.heap.size,0,none⟩=some (.slice (p 0) (l 0) (c 0))∧w8.cell? ⟨w.heap.size,1,none⟩=some (.slice (p 1) (l 1) (c 1))∧w8.cell? ⟨w.heap.size,2,none⟩=some (.slice (p 2) (l 2) (c 2))∧w8.cell? ⟨w.heap.size,3,none⟩=some (.slice (p 3) (l 3) (c 3))∧w8.cell? ⟨w.heap.size,4,none⟩=some (.slice (p 4) (l 4) (c 4))∧w8.cell? ⟨w.heap.size,5,none⟩=some (.slice (p 5) (l 5) (c 5))∧w8.cell? ⟨og,k,none⟩=some (.slice (some ⟨q.1.1,0,none⟩) (l 0) q.1.2)∧Below wr.heap.size wr w8):=hid (fun w8 hb=>⟨keep hb q0,keep hb q1,keep hb q2,keep hb q3,keep hb q4,keep hb q5,keep hb hoc,hb⟩);have HLt:=hid hlt;have hk5:k≤2401:=by have:=HPn.out;omega
   have gd:decide (k<PR.length)=true:=decide_eq_true Om;have hki:(k:Int)<(PR.length:Int):=by omega
   have hk0:(0:Int)≤(k:Int):=by omega
   clear hq;obtain⟨OK,hOK⟩:∃OK,okF q.2=OK:=⟨_,rfl⟩;have HOK:=hid hOK;rw[hOK]at HSk;clear hOK;go_wp2_with fail
   go_region_held3 (fun w8=>w8.cell? ⟨w.heap.size,0,none⟩=some (.slice (p 0) (l 0) (c 0))∧w8.cell? ⟨w.heap.size,1,none⟩=some (.slice (p 1) (l 1) (c 1))∧w8.cell? ⟨w.heap.size,2,none⟩=some (.slice (p 2) (l 2) (c 2))∧w8.cell? ⟨w.heap.size,3,none⟩=some (.slice (p 3) (l 3) (c 3))∧w8.cell? ⟨w.heap.size,4,none⟩=some (.slice (p 4) (l 4) (c 4))∧w8.cell? ⟨w.heap.size,5,none⟩=some (.slice (p 5) (l 5) (c 5))∧w8.cell? ⟨og,k,none⟩=some (.slice (some ⟨q.1.1,0,none⟩) (l 0) q.1.2)∧Below wr.heap.size wr w8)
    (refine HKc.out _ (by first|assumption|exact(Below.refl _ wr).drew|exact hb6'))
    (first|(go_at_call 73;refine(HOf.out _ _ _ q.2 HMk.out HBw.out.drew (HRow.out _ (Below.refl _ wr).drew)).mono ?_;rintro e' w6 ⟨v6,rfl,ho6,hb6⟩;have hb6':Below wr.heap.size wr w6:=((Below.refl _ wr).drew).trans hb6;rw[HOK.out];have HO6:=hid ho6;clear hb6 ho6))
   all_goals
    obtain⟨r0,r1,r2,r3,r4,r5,_,_⟩:=HKc.out _ hb6';have HB6:=hid hb6';have hs6:=hb6'.size;clear hb6' q0 q1 q2 q3 q4 q5 hoc
    cases OK with
    | false =>
     have HS':Hid (SL (PR.take (k+1))=SL (PR.take k)):=hid (by rw[HSk.out];simp);clear HO6;go_wp2_with fail;go_roundw
     case rel=>exact⟨k+1,HLt.out,by go_num,⟨ps,HO.out.below HB6.out,by rw[HS'.out];exact HPs.out⟩,HC.out.below HB6.out,HBr.out.trans (HB6.out.mono hsr)⟩
     case measure=>have:=HLt.out;simp[intOf];omega
    | true =>
     have ho6:=HO6.out HOK.out;obtain⟨N,cap,e6⟩:=rts_some ho6 (by rw[HZl.out];omega);have HN6:Hid (wr.heap.size≤N):=hid (by rw[e6]at ho6;exact(World.ownsRow.lt ho6 N rfl).1);have HR6:Hid (OwnRts wr.heap.size w6 (rvR ((N,cap),zs q.2)) (zs q.2)):=hid (by rw[←e6];exact ho6);have HV6:Hid (rvR ((N,cap),zs q.2)=.slice (some ⟨N,0,none⟩) (l 0) cap):=hid (by unfold rvR;rw[HZl.out]);rw[HV6.out]at e6;subst e6;clear ho6 HO6;go_wp2_with fail;refine(HSt.out _ N cap q.2 HMk.out HOK.out (HBw.out.trans (HB6.out.mono HBw.out.size)) (by rw[←HV6.out];exact HR6.out.mono HBw.out.size)).mono ?_;rintro e7 w7 ⟨rfl,hb7⟩;have HB7:=hid (HB6.out.trans (hb7.mono hs6));have HR7:Hid (OwnRts wr.heap.size w7 (rvR ((N,cap),zs q.2)) (zs q.2)):=hid (own_pass HR6.out hb7);have hs7:=hb7.size;obtain⟨t0,t1,t2,t3,t4,t5,_,_⟩:=HKc.out _ HB7.out;obtain⟨ST,hST⟩:∃ST,stF q.2=ST:=⟨_,rfl⟩;rw[hST]at HSk ⊢;clear hST hb7 r0 r1 r2 r3 r4 r5
     cases ST with
     | false =>
      have HS':Hid (SL (PR.take (k+1))=SL (PR.take k)):=hid (by rw[HSk.out];simp);go_wp2_with fail;go_roundw
      case rel=>exact⟨k+1,HLt.out,by go_num,⟨ps,HO.out.below HB7.out,by rw[HS'.out];exact HPs.out⟩,HC.out.below HB7.out,HBr.out.trans (HB7.out.mono hsr)⟩
      case measure=>have:=HLt.out;simp[intOf];omega
     | true =>
      have HS':Hid (SL (PR.take (k+1))=SL (PR.take k)++[zs q.2]):=hid (by rw[HSk.out];simp);have HO7:=hid (HO.out.below HB7.out);have HC7:=hid (HC.out.below HB7.out);have HB17:=hid (HBr.out.trans (HB7.out.mono hsr))
      go_wp2_with (at_builtin
                   refine wpList_append_own _ rfl _ _ 45 rfl w1.heap.size 52 i1 (.slice none 0 0) 1 24 Tryz.underlying45 HJ.out HY0.out HY1.out HY2.out rfl (by decide) _ _ _ rfl (own_pass HO7.out.outer Bl) ⟨_,0,none⟩ 1 1 [.slice (some ⟨N,0,none⟩) (l 0) cap] rfl rfl (cell_one_new _ _ _) (fun y hy=>by simp at hy;subst hy;rfl) (by unfold maxLen;omega) Om (by simp;omega) ?_;intro v9 w9 hown9 hg9 hnil9;have HR9:Hid (OwnRR w1.heap.size w9 v9 (ps++[((N,cap),zs q.2)])):=hid (OwnRR.add (HO7.out.below Bl) (own_pass (HR7.out.mono hsr) Bl) (fun p hp=>by have h1:=HO.out.lt p hp;have h2:=HN6.out;show p.1.1≠N;omega) (by rw[HV6.out];exact hown9) hg9);have HC9:=hid (OwnRI.kept (HC7.out.below Bl) (HO7.out.below Bl).outer hg9);have HB9:Hid (Below w1.heap.size w1 w9):=hid ((HB17.out.alloc Om _).grown hg9 (by simp;omega) (fun b hb=>(World.ownsRow.lt (HO7.out.outer) b hb).1))
                   clear hown9 hg9 hnil9)
      go_roundw
      case rel =>
       refine⟨k+1,HLt.out,by go_num,⟨_,HR9.out,?_⟩,HC9.out,HB9.out⟩;rw[HS'.out,List.map_append,HPs.out];rfl
      case measure=>have:=HLt.out;simp[intOf];omega
 have ek:k=chs.length:=by omega
 subst ek;have HS':Hid (ps.map Prod.snd=SL PR):=hid (by rw[HPs.out,hcl,List.take_length]);go_wp2_with fail;go_ret;exact⟨_,ps,rfl,HO.out.mono (Nat.le_of_lt hz1),HS'.out,HBw.out⟩
end Go.Proofs.YtcnoemjeijjnjaaGreat.staSpec
namespace Go.Proofs.YtcnoemjeijjnjaaGreat.verMath
open Go.RowKit Go.Deep Go base netSem routeRow nbSem candSem prodSem ssSem rofSem downsSpec envsSpec downsTwo stateTwo verSem verSpec verdictImpl propSem sceneFace stabFace
theorem bits_all : ∀ L : Fin 7,((List.range (2 ^ L.val)).map (bitsD L.val))=prodB.prod (fun _=>[false,true]) L.val:=by decide +kernel
theorem downs_same (L k:Nat) (hL:L≤6):downsL L k=downsP L k:=by
 unfold downsL downsP
 congr 1
 funext s
 unfold downsAt fewL;rw[bits_all ⟨L,by omega⟩]
theorem downs_few (L k:Nat) (hL:L≤6) (hk:k≤2):(downsP L (k+1)).length≤300:=by
 rw[←downs_same L _ hL];have h1:=downsL_len L (k+1);have h2:2 ^ L≤2 ^ 6:=Nat.pow_le_pow_right (by decide) hL;have h3:(k+1)*2 ^ L≤3*64:=Nat.mul_le_mul Om h2;omega
theorem downs_len {L k:Nat} {d:List Bool} (h:d∈downsP L k):d.length=L:=by
 unfold downsP fewL at h;obtain⟨s,_,h⟩:=List.mem_flatMap.1 h;exact prodB.prod_len (List.mem_filter.1 h).1
theorem envs_few (n:Nat) (hn:n≤4):(prod (fun _=>[0,1,2]) n).length≤100:=by
 have h1:(prod (fun _=>[0,1,2]) n).length=3 ^ n:=prod_len3 n;have h2:3 ^ n≤3 ^ 4:=Nat.pow_le_pow_right (by decide) hn;omega
theorem envs_pos {n:Nat} {env:List Int} (h:env∈prod (fun _=>[0,1,2]) n):∀i,0≤zAt env i:=fun i=>by
 by_cases hi:i<n
 · have:=prod_in h i hi;simp only[List.mem_cons,List.not_mem_nil,or_false]at this;omega
 unfold zAt;rw[List.getElem?_eq_none (by have:=prod_len h;omega)];simp
variable {g : R} {og ex : List Int} {x : R} {l : Nat→Nat}
theorem st_few (h4:l 0≤4) (d:List Bool) (env:List Int):(stP g og ex x l d env).length≤3000:=by
 unfold stP viasP;rw[List.length_map];have h1:=List.length_filter_le (goodB g (l 1) og ex x (l 4) env d (l 0)) (prod (fun i:Nat=>rowP g (l 1) og ex env d (i:Int) (l 0+3)) (l 0));have h2:=prod_size (A:=fun i:Nat=>rowP g (l 1) og ex env d (i:Int) (l 0+3)) (M:=7) (l 0) (fun i _=>Nat.le_trans (rowP_len _ _ _ _ _ _ _ _) Om);have h3:7 ^ (l 0)≤7 ^ 4:=Nat.pow_le_pow_right (by decide) h4;omega
theorem st_len {d : List Bool} {env : List Int} : ∀s∈stP g og ex x l d env,s.length=l 0 := fun s hs=>by
 unfold stP at hs;obtain⟨v,_,rfl⟩:=List.mem_map.1 hs;unfold stateOf;simp
theorem st_same (he:∀env:List Int,True) {d:List Bool} {env:List Int} (hen:∀i,0≤zAt env i) (hn:1≤l 0):statesL g (l 1) og ex x (l 4) env d (l 0) (prod (fun i:Nat=>optL g (l 1) og ex env d (l 0) (i:Int)) (l 0))=stP g og ex x l d env:=by
 rw[states_same hen hn];rfl
theorem trips_few (k:Nat) (h4:l 0≤4) (hL:l 1≤6) (hE:l 3≤4) (hk:k≤2):(trips (stP g og ex x l) (downsP (l 1) (k+1)) (prod (fun _=>[0,1,2]) (l 3))).length≤900000000:=by
 have h1:=trips_len (stP g og ex x l) 3000 (fun d e=>st_few h4 d e) (downsP (l 1) (k+1)) (prod (fun _=>[0,1,2]) (l 3));have h2:(downsP (l 1) (k+1)).length*((prod (fun _=>[0,1,2]) (l 3)).length*3000)≤300*(100*3000):=Nat.mul_le_mul (downs_few _ _ hL hk) (Nat.mul_le_mul (envs_few _ hE) (Nat.le_refl _));omega
theorem via_st (hf:rofImpl.Fine (l 0) l g x) (hn1:1≤l 0) {d:List Bool} {env:List Int} {st:List Rt} (h:st∈stP g og ex x l d env):walkSem.Viable (rtsRow.rF st) (l 0):=by
 unfold stP at h;obtain⟨v,hv,rfl⟩:=List.mem_map.1 h;exact via_ok hf hn1 hv
theorem net_facts {s:Ss} {f:R} (h:netB l s g og ex x f=true):rofImpl.Fine (l 0) l g x∧1≤l 0∧l 1≤6∧l 3≤2∧l 4≤12∧(∀i,i<l 1→0≤g i 0∧g i 0<4∧0≤g i 1∧g i 1<4∧g i 0≠g i 1)∧(∀i,i<l 4→0≤x i 0∧x i 0<4∧0≤x i 1∧x i 1<4):=by
 obtain⟨n4,n12,nl,ni⟩:=net_links h;have hgi:=fun j hj=>(link_facts (nl j hj) n4).1
 have h36:l 1≤6∧l 3≤2:=by
  unfold netB linksB at h;simp only[Bool.and_eq_true,decide_eq_true_eq]at h;obtain⟨⟨⟨⟨⟨⟨_,h1⟩,_⟩,_⟩,h3⟩,_⟩,_⟩:=h;exact⟨h1.1,h3⟩
 exact⟨⟨n4,fun j hj=>(link_facts (nl j hj) n4).2.1,fun j hj=>(link_facts (nl j hj) n4).2.2,fun j hj=>(import_facts (ni j hj) hgi).2⟩,(netB_in h).1,h36.1,h36.2,n12,hgi,fun j hj=>(import_facts (ni j hj) hgi).1⟩
theorem prop_facts {ok:Bool} {r:Nat} {kind fr pp way:Int} (h:propB ok r kind fr pp way=true):ok=true∧0≤fr∧fr<r∧-1≤pp∧pp≤15:=by
 unfold propB inB at h;simp only[Bool.and_eq_true,decide_eq_true_eq]at h;obtain⟨⟨⟨⟨h1,h2⟩,h3⟩,h4⟩,h5⟩:=h;exact⟨h1,by omega,by omega,by omega,by omega⟩
def verC (ok : Bool) (k : Int) : Int := if ok then (if inB k 0 2 then 0 else 5) else 1
def zeroV : Value := .agg #[.bool false,.int .i64 0,.slice none 0 0,.slice none 0 0,.slice none 0 0,.int .i64 0]
def VerAns (w' : World) (B : Nat) (C : Int) (ST : List Bool→List Int→List (List Rt)) (DL : List (List Bool)) (EL : List (List Int)) (fa : List Rt→Int) (v : Value) : Prop := if C=0 then IsVer w' B ST DL EL fa v else v=zeroV
end Go.Proofs.YtcnoemjeijjnjaaGreat.verMath
namespace Go.Proofs.YtcnoemjeijjnjaaGreat.sameVer
open Go.RowKit Go.Deep Go base copy same intsOwn
set_option maxHeartbeats 1600000 in
theorem same_ver (hb:Bool) (n pt:Int) (D:List Bool) (E V:List Int) (a1 a2 a3 b1 b2 b3:Option Addr) (c1 c2 c3 d1 d2 d3:Nat) (w:World) (h1:BoolRow w a1 D.length D) (h2:IntRow w a2 E.length E) (h3:IntRow w a3 V.length V) (k1:BoolRow w b1 D.length D) (k2:IntRow w b2 E.length E) (k3:IntRow w b3 V.length V) :
  Calls Tryz.prog 9 #[.agg #[.bool hb,.int .i64 n,.slice a1 D.length c1,.slice a2 E.length c2,.slice a3 V.length c3,.int .i64 pt],.agg #[.bool hb,.int .i64 n,.slice b1 D.length d1,.slice b2 E.length d2,.slice b3 V.length d3,.int .i64 pt]] w fun e w'=>e=.returned (.bool true)∧Below w.heap.size w w' := by
 obtain⟨W1,hW1⟩:∃W1,(w.alloc (.cells #[.bool hb,.int .i64 n,.slice a1 D.length c1,.slice a2 E.length c2,.slice a3 V.length c3,.int .i64 pt] 37)).alloc (.cells #[.bool hb,.int .i64 n,.slice b1 D.length d1,.slice b2 E.length d2,.slice b3 V.length d3,.int .i64 pt] 37)=W1:=⟨_,rfl⟩;have HB1:Hid (Below w.heap.size w W1):=hid (by rw[←hW1];exact Bl)
 have HC:Hid (∀w8,Below W1.heap.size W1 w8→(w8.cell? ⟨w.heap.size,0,none⟩=some (.bool hb)∧w8.cell? ⟨w.heap.size,1,none⟩=some (.int .i64 n)∧w8.cell? ⟨w.heap.size,2,none⟩=some (.slice a1 D.length c1)∧w8.cell? ⟨w.heap.size,3,none⟩=some (.slice a2 E.length c2)∧w8.cell? ⟨w.heap.size,4,none⟩=some (.slice a3 V.length c3)∧w8.cell? ⟨w.heap.size,5,none⟩=some (.int .i64 pt))∧(w8.cell? ⟨w.heap.size+1,0,none⟩=some (.bool hb)∧w8.cell? ⟨w.heap.size+1,1,none⟩=some (.int .i64 n)∧w8.cell? ⟨w.heap.size+1,2,none⟩=some (.slice b1 D.length d1)∧w8.cell? ⟨w.heap.size+1,3,none⟩=some (.slice b2 E.length d2)∧w8.cell? ⟨w.heap.size+1,4,none⟩=some (.slice b3 V.length d3)∧w8.cell? ⟨w.heap.size+1,5,none⟩=some (.int .i64 pt))):=hid (fun w8 hb=>by
  refine⟨⟨keep hb ?_,keep hb ?_,keep hb ?_,keep hb ?_,keep hb ?_,keep hb ?_⟩,keep hb ?_,keep hb ?_,keep hb ?_,keep hb ?_,keep hb ?_,keep hb ?_⟩<;>(rw[←hW1];simp[go_sem]))
 have HW1:=hid hW1;have H1:=hid (h1.below HB1.out);have H2:=hid (h2.below HB1.out);have H3:=hid (h3.below HB1.out);have K1:=hid (k1.below HB1.out);have K2:=hid (k2.below HB1.out);have K3:=hid (k3.below HB1.out);have e0:(hb==hb)=true:=by simp
 have e1:(n==n)=true:=by simp
 have e5:(pt==pt)=true:=by simp
 clear h1 h2 h3 k1 k2 k3 hW1;go_enter Tryz.func9,Tryz.ntmps9;go_wp2_with fail;rw[HW1.out];refine(sameBools _ _ _ _ _ D _ H1.out K1.out).mono ?_;rintro e2 w2 ⟨rfl,hb2⟩;obtain⟨⟨p0,p1,p2,p3,p4,p5⟩,q0,q1,q2,q3,q4,q5⟩:=HC.out w2 hb2;have HB2:=hid hb2;clear hb2;go_wp2_with fail;refine(sameInts _ _ _ _ _ E _ (H2.out.below HB2.out) (K2.out.below HB2.out)).mono ?_;rintro e3 w3 ⟨rfl,hx3⟩;have hb3:Below W1.heap.size W1 w3:=HB2.out.trans (hx3.mono HB2.out.size);clear hx3;clear p0 p1 p2 p3 p4 p5 q0 q1 q2 q3 q4 q5;obtain⟨⟨p0,p1,p2,p3,p4,p5⟩,q0,q1,q2,q3,q4,q5⟩:=HC.out w3 hb3;have HB3:=hid hb3;clear hb3;go_wp2_with fail;refine(sameInts _ _ _ _ _ V _ (H3.out.below HB3.out) (K3.out.below HB3.out)).mono ?_;rintro e4 w4 ⟨rfl,hx4⟩;have hb4:Below W1.heap.size W1 w4:=HB3.out.trans (hx4.mono HB3.out.size);clear hx4;clear p0 p1 p2 p3 p4 p5 q0 q1 q2 q3 q4 q5;obtain⟨⟨p0,p1,p2,p3,p4,p5⟩,q0,q1,q2,q3,q4,q5⟩:=HC.out w4 hb4;have HB4:=hid (HB1.out.trans (hb4.mono HB1.out.size));clear hb4;go_wp2;go_ret;exact⟨rfl,HB4.out⟩
end Go.Proofs.YtcnoemjeijjnjaaGreat.sameVer
namespace Go.Proofs.YtcnoemjeijjnjaaGreat.verCont
open Go.RowKit Go.Deep base copy names netSem intsOwn routeRow candSem prodSem downsSpec downsTwo verSem verSpec verdictImpl verMath propSem
theorem trips_mem {ST:List Bool→List Int→List (List Rt)} {DL:List (List Bool)} {EL:List (List Int)} {d:List Bool} {e:List Int} {s:List Rt} (h:(d,e,s)∈trips ST DL EL):d∈DL∧e∈EL∧s∈ST d e:=by
 unfold trips rowT at h;obtain⟨d',hd,h⟩:=List.mem_flatMap.1 h;obtain⟨e',he,h⟩:=List.mem_flatMap.1 h;obtain⟨s',hs,h⟩:=List.mem_map.1 h;simp only[Prod.mk.injEq]at h;obtain⟨rfl,rfl,rfl⟩:=h;exact⟨hd,he,hs⟩
theorem six_cells {w:World} {N:Nat} {c0 c1 c2 c3 c4 c5:Value} (h:w.heap[N]? = some (.cells #[c0,c1,c2,c3,c4,c5] 37 (0,0))):(w.cell? ⟨N,0,none⟩=some c0∧w.cell? ⟨N,1,none⟩=some c1∧w.cell? ⟨N,2,none⟩=some c2∧w.cell? ⟨N,3,none⟩=some c3∧w.cell? ⟨N,4,none⟩=some c4∧w.cell? ⟨N,5,none⟩=some c5)∧N<w.heap.size:=by
 refine⟨⟨?_,?_,?_,?_,?_,?_⟩,(Array.getElem?_eq_some_iff.1 h).1⟩<;>simp[World.cell?,h]
end Go.Proofs.YtcnoemjeijjnjaaGreat.verCont
namespace Go.Proofs.YtcnoemjeijjnjaaGreat.settleSem
open Go.RowKit Go.Deep Go base names netSem routeRow nbSem candSem sceneBy sceneFace rtsRow noRts bestAll stabImpl stabFace
def stepS (g : R) (nl : Nat) (o e : List Int) (x : R) (nx : Nat) (env : List Int) (ds : List Bool) (n : Nat) (rs : Rs) : Rs := fun r : Nat=>bst (candL g nl o e x nx env ds rs n (r : Int))
def st (g : R) (nl : Nat) (o e : List Int) (x : R) (nx : Nat) (env : List Int) (ds : List Bool) (n : Nat) : Nat→Rs
 | 0=>noRs
 | t+1=>stepS g nl o e x nx env ds n (st g nl o e x nx env ds n t)
theorem best_in (g:Rs):∀k,∃i,i≤k∧bestTo g k=g i
 | 0=>⟨0,Nat.le_refl _,rfl⟩
 | k+1=>by
  simp only[bestTo]
  split
  · exact⟨k+1,Nat.le_refl _,rfl⟩
  obtain⟨i,hi,e⟩:=best_in g k;exact⟨i,by omega,e⟩
theorem rF_in {zs:List Rt} {i:Nat} (h:i<zs.length):rF zs i∈zs:=by
 unfold rF;rw[List.getElem?_eq_getElem h];exact List.getElem_mem h
theorem bst_in (zs:List Rt):bst zs=noRt∨bst zs∈zs:=by
 unfold bst;by_cases h:zs.length=0
 · rw[if_pos h];exact .inl rfl
 rw[if_neg h];obtain⟨i,hi,e⟩:=best_in (rF zs) (zs.length - 1);rw[e];exact .inr (rF_in Om)
variable {g : R} {nl nx : Nat} {o e : List Int} {x : R} {env : List Int} {ds : List Bool} {n : Nat} {rs : Rs} {router : Int} {B : Int}
end Go.Proofs.YtcnoemjeijjnjaaGreat.settleSem
