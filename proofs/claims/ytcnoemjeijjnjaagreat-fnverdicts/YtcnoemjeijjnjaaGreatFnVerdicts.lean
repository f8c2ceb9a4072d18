/- A property that is violated is so in a stable state that can be had again, and one that holds does in all, over drawn networks and properties; conditions: none. -/
import Derived.Test.YtcnoemjeijjnjaaGreatPart48
import Derived.Test.YtcnoemjeijjnjaaGreatPart49
set_option linter.unusedVariables false
namespace Go.Proofs.YtcnoemjeijjnjaaGreat.fnVerdicts
open Go.ChangeShapes Go.WideShapes Go.ChangeAt Go.RowKit Go.Deep Go.Joins Go base copy args netSem netMath routeRow candSem candEnv intsOwn rtsRow rRows source netOf envOf prodSem ssSem staFaceS walkSem routesB fwSem walkMath forwardSpec downsSpec downsTwo verSem verSpec verdictImpl verMath propSem propDraw propOf sameVer verCont vdMath satSpec faultSpec repImpl satAll atAny drawn drawnLin drawnSrc drawnMk
open lawNets hiding OwnBools
theorem brow {B:Nat} {w:World} {a:Option Addr} {n c:Nat} {zs:List Bool} (h:OwnBools B w (.slice a n c) zs):BoolRow w a n zs:=by
 obtain⟨a',c',e,hr⟩:=lawNets.OwnBools.form (show lawNets.OwnBools B w _ zs from h);injection e with e1 e2 e3;subst e1;subst e2;exact hr
theorem irow {B:Nat} {w:World} {a:Option Addr} {n c:Nat} {zs:List Int} (h:OwnInts B w (.slice a n c) zs):IntRow w a n zs:=by
 obtain⟨a',c',e,hr⟩:=OwnInts.form h;injection e with e1 e2 e3;subst e1;subst e2;exact hr
theorem brow_of {w:World} {N n:Nat} {f:Nat→Value} {zs:List Bool} (h:w.rowIs N 4 n f) (hl:zs.length=n) (hm:n≤maxLen) (hf:∀i,i<n→f i=.bool (zs[i]?.getD false)):BoolRow w (some ⟨N,0,none⟩) n zs :=
 ⟨hl,hm,fun i hi=>⟨N,0,rfl,by rw[Nat.zero_add,←hf i hi];exact h.cell hi⟩⟩
theorem cnt_zero (n:Nat):cntT (List.replicate n false)=0:=by simp[cntT]
theorem cnt_one : ∀ (n r:Nat),cntT ((List.replicate n false).set r true)≤1
 | 0,r=>by simp[cntT]
 | n+1,0=>by
  rw[List.replicate_succ,List.set_cons_zero];unfold cntT;simp
 | n+1,r+1=>by
  rw[List.replicate_succ,List.set_cons_succ];have:=cnt_one n r;unfold cntT at this ⊢;simpa using this
theorem rr_cell {B:Nat} {w:World} {a:Option Addr} {n c:Nat} {ps:List ((Nat × Nat) × List Rt)} (h:OwnRR B w (.slice a n c) ps) {i:Nat} (hi:i<ps.length):∃gb,a=some ⟨gb,0,none⟩∧w.cell? ⟨gb,i,none⟩=some (rvR ps[i]):=by
 obtain⟨h1,h2⟩:=h.outer;rcases h2 with ⟨h2,h0⟩|⟨gb,cap,cur,e,hb,hh,hc,hm,hs,ht⟩
 · omega
 have e1:a=some ⟨gb,0,none⟩:=by injection e
 refine⟨gb,e1,?_⟩;have h7:(ps.map rvR)[i]? = some (rvR ps[i]):=by rw[List.getElem?_map,List.getElem?_eq_getElem hi];rfl
 rw[←ht,List.getElem?_take_of_lt Om]at h7;simp only[World.cell?,hh];simpa using h7
theorem apart_row {w:World} {B N:Nat} {v:Value} {PP:List Int} {F:Nat→Value} (h:OwnInts B w v PP) (hr:w.rowIs N 49 2 F):∀k,v.ownBlock=some k→k≠N:=fun k hk e=>by
 subst e;obtain⟨c,hb,_⟩:=hr;rcases h.2 with ⟨h2,_⟩|⟨g,cap,cur,e,_,hh,_⟩
 · rw[h2]at hk;cases hk
 rw[e]at hk;have e2:g=k:=by simpa[Value.ownBlock] using hk
 subst e2;rw[hb]at hh;injection hh with hh;injection hh with _ h3;exact absurd h3 (by decide)
theorem out_in {g:R} {nl:Nat} {ds:List Bool} {n:Nat} {rs:Rs} {vs:List Int} (h:Fine g nl ds n rs vs) (f:R) (m:Nat) (po:Int) {fr:Nat} (hf:fr<n):1≤wayO rs f m po n (fr:Int)∧wayO rs f m po n (fr:Int)≤4:=by
 obtain⟨k,hk,hc⟩:=h.ends fr hf;obtain⟨_,hv⟩:=routes_viable h.right;obtain⟨h1,h2,h3⟩:=way_facts (f:=f) (m:=m) (port:=po) hv h.via n (fr:Int) k hc hk Om Om;have h5:=h3 _ (by rw[List.getLast?_eq_getElem?];exact List.getElem?_eq_getElem (by simp));rcases h5 with h|h|h|h<;>omega
set_option maxHeartbeats 12800000 in
set_option maxRecDepth 16000 in
theorem walk (aC aM:Option Addr) (lC cC lM cM:Nat) (w:World) (hC:Bytes w aC lC) (hM:Bytes w aM lM) (hlC:lC≤maxLen) (hlM:lM≤maxLen) :
  Calls Tryz.prog 3 #[.slice aC lC cC,.slice aM lM cM] w fun e w'=>e=.returned (.bool true)∧Below w.heap.size w w' := by
 have HC:=hid hC;have HM:=hid hM;unfold maxLen at hlC hlM;clear hC hM;by_cases h1:1048576<lC
 · have i1:decide ((1048576:Int)<(lC:Int))=true:=decide_eq_true Om;go_enter Tryz.func3,Tryz.ntmps3;go_wp2;go_ret;exact⟨rfl,Bl⟩
 have i1:decide ((1048576:Int)<(lC:Int))=false:=decide_eq_false Om;by_cases h2:1048576<lM
 · have i2:decide ((1048576:Int)<(lM:Int))=true:=decide_eq_true Om;go_enter Tryz.func3,Tryz.ntmps3;go_wp2;go_ret;exact⟨rfl,Bl⟩
 have i2:decide ((1048576:Int)<(lM:Int))=false:=decide_eq_false Om;go_enter Tryz.func3,Tryz.ntmps3;go_wp2_with fail;refine(netOf_spec aC lC cC _ HC.out Om).mono ?_;rintro e' w1 ⟨p,l,c,g,o,e,x,f,rfl,hn,hnr,hnc,hb⟩;obtain⟨hl0,hl1,hl3,hcost⟩:=net_small hnr;have HN1:=hid hn;have HNr:=hid hnr;have HNc:=hid hnc;have HB1:=hid hb;clear hn hnr hnc hb hcost;unfold netV;have HPo:=hid (fun(W:World) (hb:Bytes W aM lM)=>propertyOf_spec aM lM cM p l c W hb Om Om Om);unfold netV at HPo;go_wp2_with fail;obtain⟨w2,hWe⟩:∃w2,w1.alloc (.cells #[.slice (p 0) (l 0) (c 0),.slice (p 1) (l 1) (c 1),.slice (p 2) (l 2) (c 2),.slice (p 3) (l 3) (c 3),.slice (p 4) (l 4) (c 4),.slice (p 5) (l 5) (c 5)] 29)=w2:=⟨_,rfl⟩;have hA1:Below w1.heap.size w1 w2:=by rw[←hWe];exact Bl
 have hzn:w2.heap.size=w1.heap.size+1:=by rw[←hWe];simp
 have hcn:World.cell? w2 ⟨w1.heap.size,0,none⟩=some (.slice (p 0) (l 0) (c 0))∧World.cell? w2 ⟨w1.heap.size,1,none⟩=some (.slice (p 1) (l 1) (c 1))∧World.cell? w2 ⟨w1.heap.size,2,none⟩=some (.slice (p 2) (l 2) (c 2))∧World.cell? w2 ⟨w1.heap.size,3,none⟩=some (.slice (p 3) (l 3) (c 3))∧World.cell? w2 ⟨w1.heap.size,4,none⟩=some (.slice (p 4) (l 4) (c 4))∧World.cell? w2 ⟨w1.heap.size,5,none⟩=some (.slice (p 5) (l 5) (c 5)):=by rw[←hWe];simp[go_sem]
 rw[hWe];have HB2:=hid (HB1.out.trans (hA1.mono HB1.out.size))
 have HK:Hid (∀w8:World,Below w2.heap.size w2 w8→(World.cell? w8 ⟨w1.heap.size,0,none⟩=some (.slice (p 0) (l 0) (c 0))∧World.cell? w8 ⟨w1.heap.size,1,none⟩=some (.slice (p 1) (l 1) (c 1))∧World.cell? w8 ⟨w1.heap.size,2,none⟩=some (.slice (p 2) (l 2) (c 2))∧World.cell? w8 ⟨w1.heap.size,3,none⟩=some (.slice (p 3) (l 3) (c 3))∧World.cell? w8 ⟨w1.heap.size,4,none⟩=some (.slice (p 4) (l 4) (c 4))∧World.cell? w8 ⟨w1.heap.size,5,none⟩=some (.slice (p 5) (l 5) (c 5)))∧NetIs w8 p l sN g o e x f∧Below w.heap.size w w8):=hid fun w8 h=>by
  obtain⟨a0,a1,a2,a3,a4,a5⟩:=hcn;exact⟨⟨keep h a0,keep h a1,keep h a2,keep h a3,keep h a4,keep h a5⟩,(HN1.out.below hA1).below h,HB2.out.trans (h.mono HB2.out.size)⟩
 clear hcn hA1 HN1 HB1 hWe;refine(HPo.out _ (bytes_below HM.out HB2.out)).mono ?_;rintro e' w3 ⟨⟨kind,fr,pp,way,rfl,hp⟩,hb3⟩;have HP:Hid (propB (netB l sN g o e x f) (l 0) kind fr pp way=true):=hid (by rw[HNr.out];exact prop_in hp);have HB3:=hid hb3;clear hp hb3 HPo;obtain⟨⟨q0,q1,q2,q3,q4,q5⟩,-,-⟩:=HK.out w3 HB3.out;have zq:w1.heap.size<w3.heap.size:=by have:=HB3.out.size;omega
 go_wp2_with fail;obtain⟨W3,hWe⟩:∃W3,w3.alloc (.cells #[.int .i64 kind,.int .i64 fr,.int .i64 pp,.int .i64 way] 32)=W3:=⟨_,rfl⟩;have hb:Below w3.heap.size w3 W3:=by rw[←hWe];exact Bl
 have XP:Hid (∀w8:World,Below W3.heap.size W3 w8→(World.cell? w8 ⟨w1.heap.size,0,none⟩=some (.slice (p 0) (l 0) (c 0))∧World.cell? w8 ⟨w1.heap.size,1,none⟩=some (.slice (p 1) (l 1) (c 1))∧World.cell? w8 ⟨w1.heap.size,2,none⟩=some (.slice (p 2) (l 2) (c 2))∧World.cell? w8 ⟨w1.heap.size,3,none⟩=some (.slice (p 3) (l 3) (c 3))∧World.cell? w8 ⟨w1.heap.size,4,none⟩=some (.slice (p 4) (l 4) (c 4))∧World.cell? w8 ⟨w1.heap.size,5,none⟩=some (.slice (p 5) (l 5) (c 5)))∧(World.cell? w8 ⟨w3.heap.size,0,none⟩=some (.int .i64 kind)∧World.cell? w8 ⟨w3.heap.size,1,none⟩=some (.int .i64 fr)∧World.cell? w8 ⟨w3.heap.size,2,none⟩=some (.int .i64 pp)∧World.cell? w8 ⟨w3.heap.size,3,none⟩=some (.int .i64 way))∧NetIs w8 p l sN g o e x f∧Below w.heap.size w w8∧w1.heap.size<w8.heap.size∧w3.heap.size<w8.heap.size):=hid (fun w8 h=>by
  obtain⟨g1,g2,g3⟩:=HK.out w8 (HB3.out.trans ((hb.trans (h.mono hb.size)).mono HB3.out.size));have h9:W3.heap.size=w3.heap.size+1:=by rw[←hWe];simp
  have h8:=h.size;refine⟨g1,⟨keep h ?_,keep h ?_,keep h ?_,keep h ?_⟩,g2,g3,by omega,by omega⟩
  · rw[←hWe];simp[go_sem]
  · rw[←hWe];simp[go_sem]
  · rw[←hWe];simp[go_sem]
  rw[←hWe];simp[go_sem])
 rw[hWe];have HBW3:Hid (Below W3.heap.size W3 W3):=hid Bz;clear hWe hb q0 q1 q2 q3 q4 q5 zq HK;have HAt:Hid (∀W:World,Bytes W aM lM→Calls Tryz.prog 6 #[.slice aM lM cM,.int .i64 0,.int .i64 2] W fun e w'=>∃r:Nat,e=.returned (.int .i64 r)∧r<2∧Below W.heap.size W w'):=hid (fun W hb=>at_any 0 2 Om Om Om aM lM cM W hb Om);refine(HAt.out _ (bytes_below HM.out (XP.out W3 HBW3.out).2.2.2.1)).mono ?_;rintro e' w4 ⟨kr,rfl,hkr,hb⟩;have HBw4:=hid hb;clear hb HAt;obtain⟨⟨q0,q1,q2,q3,q4,q5⟩,⟨y0,y1,y2,y3⟩,-,-,hz1,hz⟩:=XP.out w4 HBw4.out;obtain⟨hv,n,D,E,V,pt,hyes,hno,hF⟩:=content3 (stP g o e x l) (downsP (l 1) (kr+1)) (prod (fun _=>[0,1,2]) (l 3)) (fun st=>faultAt (rF st) f (l 5) (l 0) kind pp way fr.toNat);have hC:verC (propB (netB l sN g o e x f) (l 0) kind fr pp way) (kr:Int)=0:=by rw[HP.out];unfold verC inB;simp;omega
 have HI:Hid (∀W:World,NetIs W p l sN g o e x f→Calls Tryz.prog 7 #[.agg #[.slice (p 0) (l 0) (c 0),.slice (p 1) (l 1) (c 1),.slice (p 2) (l 2) (c 2),.slice (p 3) (l 3) (c 3),.slice (p 4) (l 4) (c 4),.slice (p 5) (l 5) (c 5)],.agg #[.int .i64 kind,.int .i64 fr,.int .i64 pp,.int .i64 way],.int .i64 (kr:Int)] W fun e' w'=>∃(x1 x2 x3:Option Addr) (x4 x5 x6:Nat),e' = .returned (.tuple #[.agg #[.bool hv,.int .i64 n,.slice x1 D.length x4,.slice x2 E.length x5,.slice x3 V.length x6,.int .i64 pt],.int .i64 0])∧OwnBools W.heap.size w' (.slice x1 D.length x4) D∧OwnInts W.heap.size w' (.slice x2 E.length x5) E∧OwnInts W.heap.size w' (.slice x3 V.length x6) V∧Below W.heap.size W w'):=hid (fun W hn=>by
  have h9:=verFaceI.verify_impl p l c sN g o e x f kind fr pp way (kr:Int) W hn HNc.out.1 HNc.out.2;rw[hC,Int.toNat_natCast]at h9;refine h9.mono ?_;rintro e' w' ⟨v,rfl,hva,-,hb⟩;obtain⟨x1,x2,x3,x4,x5,x6,rfl,o1,o2,o3⟩:=hF _ _ _ hva
  exact⟨x1,x2,x3,x4,x5,x6,rfl,o1,o2,o3,hb⟩)
 have HS:Hid (∀W:World,NetIs W p l sN g o e x f→Calls Tryz.prog 8 #[.agg #[.slice (p 0) (l 0) (c 0),.slice (p 1) (l 1) (c 1),.slice (p 2) (l 2) (c 2),.slice (p 3) (l 3) (c 3),.slice (p 4) (l 4) (c 4),.slice (p 5) (l 5) (c 5)],.agg #[.int .i64 kind,.int .i64 fr,.int .i64 pp,.int .i64 way],.int .i64 (kr:Int)] W fun e' w'=>∃(x1 x2 x3:Option Addr) (x4 x5 x6:Nat),e' = .returned (.tuple #[.agg #[.bool hv,.int .i64 n,.slice x1 D.length x4,.slice x2 E.length x5,.slice x3 V.length x6,.int .i64 pt],.int .i64 0])∧OwnBools W.heap.size w' (.slice x1 D.length x4) D∧OwnInts W.heap.size w' (.slice x2 E.length x5) E∧OwnInts W.heap.size w' (.slice x3 V.length x6) V∧Below W.heap.size W w'):=hid (fun W hn=>by
  have h9:=verFaceS.verify_spec p l c sN g o e x f kind fr pp way (kr:Int) W hn HNc.out.1 HNc.out.2;rw[hC,Int.toNat_natCast]at h9;refine h9.mono ?_;rintro e' w' ⟨v,rfl,hva,hb⟩;obtain⟨x1,x2,x3,x4,x5,x6,rfl,o1,o2,o3⟩:=hF _ _ _ hva
  exact⟨x1,x2,x3,x4,x5,x6,rfl,o1,o2,o3,hb⟩)
 have HYes:=hid hyes;have HNo:=hid hno;clear hF hC hyes hno;go_wp2_with fail;refine(HI.out w4 (XP.out w4 HBw4.out).2.2.1).mono ?_;rintro e' w5 ⟨a1,a2,a3,a4,a5,a6,rfl,o1,o2,o3,hb⟩;have HBw5:=hid (HBw4.out.trans (hb.mono HBw4.out.size));clear hb;clear q0 q1 q2 q3 q4 q5 y0 y1 y2 y3 hz hz1;obtain⟨⟨q0,q1,q2,q3,q4,q5⟩,⟨y0,y1,y2,y3⟩,-,-,hz1,hz⟩:=XP.out w5 HBw5.out;go_wp2_with fail;obtain⟨W5,hWe⟩:∃W9,w5.alloc (.cells #[.bool hv,.int .i64 n,.slice a1 D.length a4,.slice a2 E.length a5,.slice a3 V.length a6,.int .i64 pt] 37)=W9:=⟨_,rfl⟩;have hb:Below w5.heap.size w5 W5:=by rw[←hWe];exact Bl
 have aB:Hid (W5.heap[w5.heap.size]? = some (.cells #[.bool hv,.int .i64 n,.slice a1 D.length a4,.slice a2 E.length a5,.slice a3 V.length a6,.int .i64 pt] 37 (0,0))):=hid (by rw[←hWe];exact World.alloc_heap_new _ _);have aO1:=hid (own_pass o1 hb);have aO2:=hid (own_pass o2 hb);have aO3:=hid (own_pass o3 hb);have HBW5:=hid (HBw5.out.trans (hb.mono HBw5.out.size));rw[hWe];clear hWe hb o1 o2 o3 hz hz1;clear q0 q1 q2 q3 q4 q5 y0 y1 y2 y3;obtain⟨⟨q0,q1,q2,q3,q4,q5⟩,⟨y0,y1,y2,y3⟩,-,-,hz1,hz⟩:=XP.out W5 HBW5.out;refine(HS.out W5 (XP.out W5 HBW5.out).2.2.1).mono ?_;rintro e' w7 ⟨d1,d2,d3,d4,d5,d6,rfl,o1,o2,o3,hb⟩;have aB:=hid ((hb.block _ (Array.getElem?_eq_some_iff.1 aB.out).1).trans aB.out);have aO1:=hid (own_pass aO1.out hb);have aO2:=hid (own_pass aO2.out hb);have aO3:=hid (own_pass aO3.out hb);have HBw7:=hid (HBW5.out.trans (hb.mono HBW5.out.size));clear hb;clear q0 q1 q2 q3 q4 q5 y0 y1 y2 y3 hz hz1;obtain⟨⟨q0,q1,q2,q3,q4,q5⟩,⟨y0,y1,y2,y3⟩,-,-,hz1,hz⟩:=XP.out w7 HBw7.out;obtain⟨⟨u0,u1,u2,u3,u4,u5⟩,ul⟩:=six_cells aB.out;go_wp2_with fail;obtain⟨W7,hWe⟩:∃W9,w7.alloc (.cells #[.bool hv,.int .i64 n,.slice d1 D.length d4,.slice d2 E.length d5,.slice d3 V.length d6,.int .i64 pt] 37)=W9:=⟨_,rfl⟩;have hb:Below w7.heap.size w7 W7:=by rw[←hWe];exact Bl
 have dB:Hid (W7.heap[w7.heap.size]? = some (.cells #[.bool hv,.int .i64 n,.slice d1 D.length d4,.slice d2 E.length d5,.slice d3 V.length d6,.int .i64 pt] 37 (0,0))):=hid (by rw[←hWe];exact World.alloc_heap_new _ _);have aB:=hid ((hb.block _ (Array.getElem?_eq_some_iff.1 aB.out).1).trans aB.out);have aO1:=hid (own_pass aO1.out hb);have aO2:=hid (own_pass aO2.out hb);have aO3:=hid (own_pass aO3.out hb);have dO1:=hid (own_pass o1 hb);have dO2:=hid (own_pass o2 hb);have dO3:=hid (own_pass o3 hb);have HBW7:=hid (HBw7.out.trans (hb.mono HBw7.out.size));rw[hWe];clear hWe hb o1 o2 o3 hz hz1;clear q0 q1 q2 q3 q4 q5 y0 y1 y2 y3;obtain⟨⟨q0,q1,q2,q3,q4,q5⟩,⟨y0,y1,y2,y3⟩,-,-,hz1,hz⟩:=XP.out W7 HBW7.out
 have HPr:Hid (∀W:World,NetIs W p l sN g o e x f→Calls Tryz.prog 10 #[.agg #[.slice (p 0) (l 0) (c 0),.slice (p 1) (l 1) (c 1),.slice (p 2) (l 2) (c 2),.slice (p 3) (l 3) (c 3),.slice (p 4) (l 4) (c 4),.slice (p 5) (l 5) (c 5)],.agg #[.int .i64 kind,.int .i64 fr,.int .i64 pp,.int .i64 way]] W fun e' w'=>e' = .returned (.bool true)∧Below W.heap.size W w'):=hid (fun W hn=>by
  have:=propImpl.prop_impl p l c sN g o e x f kind fr pp way W hn HNc.out.1 HNc.out.2;rw[HP.out]at this
  exact this)
 refine(same_ver hv n pt D E V a1 a2 a3 d1 d2 d3 a4 a5 a6 d4 d5 d6 W7 (brow aO1.out) (irow aO2.out) (irow aO3.out) (brow dO1.out) (irow dO2.out) (irow dO3.out)).mono ?_;rintro e' w8 ⟨rfl,hb⟩;have aB:=hid ((hb.block _ (Array.getElem?_eq_some_iff.1 aB.out).1).trans aB.out);have aO1:=hid (own_pass aO1.out hb);have aO2:=hid (own_pass aO2.out hb);have aO3:=hid (own_pass aO3.out hb);have HBw8:=hid (HBW7.out.trans (hb.mono HBW7.out.size));clear hb u0 u1 u2 u3 u4 u5 ul dB dO1 dO2 dO3;clear q0 q1 q2 q3 q4 q5 y0 y1 y2 y3 hz hz1;obtain⟨⟨q0,q1,q2,q3,q4,q5⟩,⟨y0,y1,y2,y3⟩,-,-,hz1,hz⟩:=XP.out w8 HBw8.out;obtain⟨⟨u0,u1,u2,u3,u4,u5⟩,ul⟩:=six_cells aB.out;go_wp2_with fail;refine(HPr.out w8 (XP.out w8 HBw8.out).2.2.1).mono ?_;rintro e' w9 ⟨rfl,hb⟩;have aB:=hid ((hb.block _ (Array.getElem?_eq_some_iff.1 aB.out).1).trans aB.out);have aO1:=hid (own_pass aO1.out hb);have aO2:=hid (own_pass aO2.out hb);have aO3:=hid (own_pass aO3.out hb);have HBw9:=hid (HBw8.out.trans (hb.mono HBw8.out.size));clear hb u0 u1 u2 u3 u4 u5 ul HPr HI HS;clear q0 q1 q2 q3 q4 q5 y0 y1 y2 y3 hz hz1;obtain⟨⟨q0,q1,q2,q3,q4,q5⟩,⟨y0,y1,y2,y3⟩,-,-,hz1,hz⟩:=XP.out w9 HBw9.out;obtain⟨⟨u0,u1,u2,u3,u4,u5⟩,ul⟩:=six_cells aB.out
 cases hv with
 | false =>
  have hf0:=(prop_facts HP.out).2.1;obtain⟨fn,rfl⟩:∃fn:Nat,fr=(fn:Int):=⟨fr.toNat,by omega⟩
  have HRep:Hid (∀W:World,NetIs W p l sN g o e x f→BoolRow W a1 D.length D→IntRow W a2 E.length E→IntRow W a3 V.length V→Calls Tryz.prog 11 #[.agg #[.slice (p 0) (l 0) (c 0),.slice (p 1) (l 1) (c 1),.slice (p 2) (l 2) (c 2),.slice (p 3) (l 3) (c 3),.slice (p 4) (l 4) (c 4),.slice (p 5) (l 5) (c 5)],.agg #[.int .i64 kind,.int .i64 (fn:Int),.int .i64 pp,.int .i64 way],.int .i64 (kr:Int),.agg #[.bool false,.int .i64 n,.slice a1 D.length a4,.slice a2 E.length a5,.slice a3 V.length a6,.int .i64 pt]] W fun e' w'=>e' = .returned (.tuple #[.bool true,.int .i64 0])∧Below W.heap.size W w'):=hid (fun W hn hd he hv=>by
   obtain⟨st,hD,hE,hst,hV,hpt,hfa⟩:=HNo.out rfl;obtain⟨vs,hvs,hvl,hvB,hok,hsm,hgd,hvi,hsame⟩:=rep_facts HNr.out hE hst;simp only[Int.toNat_natCast]at hpt hfa;obtain⟨g1,g2,g3⟩:=fault_facts hfa (prop_facts HP.out).2.2.2.1;rw[←hpt]at hfa g1 g2 g3;rw[hvs]at hV;subst hV
   exact replay_good p l c sN g o e x f kind pp way (kr:Int) n pt fn a1 a2 a3 D.length a4 E.length a5 V.length a6 D E V W hn HNc.out.1 HNc.out.2 hd he hv HP.out ⟨by omega,by omega⟩ (ar_zero HNr.out (prod_len hE) (downs_len hD) hE) (by rw[hvl];exact hvB) ⟨hfa,g1⟩ g2 (by have:=downs_cnt hD;omega) (rF st) hsm hok hsame hgd hvi g3)
  clear hf0 HYes HNo;go_wp2_with fail;refine(HRep.out w9 (XP.out w9 HBw9.out).2.2.1 (brow aO1.out) (irow aO2.out) (irow aO3.out)).mono ?_;rintro e' w10 ⟨rfl,hb⟩;have HBw10:=hid (HBw9.out.trans (hb.mono HBw9.out.size));clear hb;go_wp2;go_ret;exact⟨rfl,(XP.out _ HBw10.out).2.2.2.1⟩
 | true =>
  have HEv:=hid (fun(W:World) (hb:Bytes W aM lM)=>envOf_spec aM lM cM p l c W hb Om Om);unfold netV at HEv;have hmk:=run_make_row' (P:=Tryz.prog) 35 4 (.bool false) 1 Tryz.underlying35 (show (Tryz.prog.info? 4).map (fun i=>(i.zero,i.size,i.bytes))=some (some (.bool false),1,1) by kernel_rfl) rfl .i64 .i64 (l 1) Om Om;have HMk:=hid hmk;clear hmk aB aO1 aO2 aO3 HNo;go_wp2_with fail;refine(HEv.out _ (bytes_below HM.out (XP.out w9 HBw9.out).2.2.2.1)).mono ?_;rintro e' w10 ⟨v3,env,rfl,ho3,hel,hez,hb⟩;obtain⟨ea,ec,rfl,hrow3⟩:=OwnInts.form ho3;have HEr:=hid hrow3;have HEl:=hid hel;have HEz:=hid hez;have HBw10:=hid (HBw9.out.trans (hb.mono HBw9.out.size));clear ho3 hrow3 hel hez hb u0 u1 u2 u3 u4 u5 ul HEv;clear q0 q1 q2 q3 q4 q5 y0 y1 y2 y3 hz hz1;obtain⟨⟨q0,q1,q2,q3,q4,q5⟩,⟨y0,y1,y2,y3⟩,-,-,hz1,hz⟩:=XP.out w10 HBw10.out;have hmk:=HMk.out w10;go_upto_region 15 with fail;obtain⟨W11,hWe⟩:∃W11,w10.alloc (.cells (madeCells #[.bool false] (l 1)) 4)=W11:=⟨_,rfl⟩;have hb:Below w10.heap.size w10 W11:=by rw[←hWe];exact Bl
  have HDr:Hid (World.rowIs W11 w10.heap.size 4 (l 1) (fun _=>.bool false)):=hid (by rw[←hWe];exact World.rowIs_made w10 _ (l 1) 4);have hdl:w10.heap.size<W11.heap.size:=by rw[←hWe];simp
  have HBW11:=hid (HBw10.out.trans (hb.mono HBw10.out.size));have H1011:=hid hb;rw[hWe];clear hWe hb hmk HMk;clear q0 q1 q2 q3 q4 q5 y0 y1 y2 y3 hz hz1;obtain⟨⟨q0,q1,q2,q3,q4,q5⟩,⟨y0,y1,y2,y3⟩,-,-,hz1,hz⟩:=XP.out W11 HBW11.out;go_cut [96] from 90 to 149 (fun s96 wc=>(∃t:Bool,s96=.bool t∧(t=true→kr=1∧0<l 1))∧wc=W11)
  case first =>
   by_cases hk1:kr=1
   · have e1:((kr:Int)==1)=true:=by simp[hk1]
     by_cases hll:0<l 1
     · have e2:decide ((0:Int)<(l 1:Int))=true:=decide_eq_true Om;have e3:decide (0<l 1)=true:=decide_eq_true hll;have HKL:=hid (And.intro hk1 hll);clear hk1;go_wp2_with fail;go_meet;exact⟨⟨true,rfl,fun _=>HKL.out⟩,rfl⟩
     have e2:decide ((0:Int)<(l 1:Int))=false:=decide_eq_false Om;have e3:decide (0<l 1)=false:=decide_eq_false hll;clear hk1;go_wp2_with fail;go_meet;exact⟨⟨false,rfl,(by intro h;cases h)⟩,rfl⟩
   have e1:((kr:Int)==1)=false:=by simp;omega
   go_wp2_with fail;go_meet;exact⟨⟨false,rfl,(by intro h;cases h)⟩,rfl⟩
  case rest =>
   obtain⟨⟨t,ht96,ht⟩,hwc⟩:=hcut;have HT:=hid ht;have hwc:=hwc.symm;subst hwc;subst ht96;clear ht;go_upto_if 96 with fail;go_cut [] from 97 to 149 (fun wc=>(∃ds:List Bool,ds.length=l 1∧cntT ds≤kr∧BoolRow wc (some ⟨w10.heap.size,0,none⟩) (l 1) ds)∧Below w10.heap.size w10 wc)
   case first =>
    cases t with
    | false =>
     go_wp2_with fail;go_meet;exact⟨⟨List.replicate (l 1) false,by simp,by rw[cnt_zero];omega,brow_of HDr.out (by simp) (by unfold maxLen;omega) (fun i hi=>by simp[hi])⟩,H1011.out⟩
    | true =>
     obtain⟨hk1,hll⟩:=HT.out rfl;have HK1:=hid hk1;clear hk1;have HAt1:Hid (∀W:World,Bytes W aM lM→Calls Tryz.prog 6 #[.slice aM lM cM,.int .i64 1,.int .i64 (l 1:Int)] W fun e w'=>∃r:Nat,e=.returned (.int .i64 r)∧r<l 1∧Below W.heap.size W w'):=hid (fun W hb=>at_any 1 (l 1) Om Om Om aM lM cM W hb Om);go_wp2_with fail;refine(HAt1.out W11 (bytes_below HM.out (XP.out W11 HBW11.out).2.2.2.1)).mono ?_;rintro e' w12 ⟨r,rfl,hr,hb⟩;have hd12:=HDr.out.of_block (hb.block _ HDr.out.lt);have HD12:=hid hd12;have c0:w12.cell? ⟨w10.heap.size,r,none⟩=some (.bool false):=hd12.cell hr;have z0:=hd12.frozen r;have hl12:w10.heap.size<w12.heap.size:=hd12.lt;have H12:=hid (H1011.out.trans (hb.mono H1011.out.size));clear hb hd12 HAt1;go_wp2_with fail;go_meet
     exact⟨⟨(List.replicate (l 1) false).set r true,by simp,by rw[HK1.out];exact cnt_one _ _,brow_of (HD12.out.set r (.bool true)) (by simp) (by unfold maxLen;omega) (fun i hi=>by
      by_cases e:i=r
      · subst e;simp[hi]
      simp[e,Ne.symm e,hi])⟩,H12.out.setCell (Nat.le_refl _) _⟩
   case rest =>
    obtain⟨⟨ds,hds,hcn,hdr⟩,hbc⟩:=hcut;have HDs:=hid hds;have HCn:=hid hcn;have HDr:=hid hdr;have HEc:=hid (HEr.out.below hbc);have HBwc:=hid (HBw10.out.trans (hbc.mono HBw10.out.size));clear hds hcn hdr hbc HT;clear q0 q1 q2 q3 q4 q5 y0 y1 y2 y3 hz hz1;obtain⟨⟨q0,q1,q2,q3,q4,q5⟩,⟨y0,y1,y2,y3⟩,-,-,hz1,hz⟩:=XP.out wc HBwc.out
    have HD0:Hid (envC (netB l sN g o e x f) env.length (l 1) (l 3) (l 1) env=0):=hid (by
     rw[HNr.out,←HEl.out]
     exact env_good HEz.out (by rw[HEl.out];omega) Om)
    have HST:Hid (∀W:World,Below wc.heap.size wc W→Calls Tryz.prog 13 #[netV p l c,.slice ea env.length ec,.slice (some ⟨w10.heap.size,0,none⟩) (l 1) (l 1)] W fun e' w'=>∃v ps,e' = .returned (.tuple #[v,.int .i64 0])∧OwnRR W.heap.size w' v ps∧ps.map Prod.snd=ssL 0 g (l 1) o e x (l 4) env ds (l 0)∧Below W.heap.size W w'):=hid (fun W hb=>by
     have:=ss_spec p l c sN g o e x f ea (some ⟨w10.heap.size,0,none⟩) env.length ec (l 1) (l 1) env ds W (XP.out W (HBwc.out.trans (hb.mono HBwc.out.size))).2.2.1 HNc.out.1 HNc.out.2 (HEc.out.below hb) (HDr.out.below hb);rw[HD0.out]at this
     exact this)
    have HFs:Hid (∀zs∈ssL 0 g (l 1) o e x (l 4) env ds (l 0),(zs.length=l 0∧∃vs,Fine g (l 1) ds (l 0) (rF zs) vs)∧faultAt (rF zs) f (l 5) (l 0) kind pp way fr.toNat<0):=hid (fun zs hz=>by
     unfold ssL at hz;rw[if_pos rfl]at hz;refine⟨state_fine HNr.out (env_pos HEz.out) hz,?_⟩;rw[st_same (fun _=>trivial) (env_pos HEz.out) hl0.1]at hz
     exact HYes.out (by trivial) (ds,env,zs) (trips_in (downs_has HDs.out HCn.out) (envs_has HEl.out HEz.out) hz))
    have HFw:Hid ((ssL 0 g (l 1) o e x (l 4) env ds (l 0)).length≤3000):=hid (by
     unfold ssL;rw[if_pos rfl,st_same (fun _=>trivial) (env_pos HEz.out) hl0.1]
     exact st_few hl0.2 ds env)
    obtain⟨SL,hSL⟩:∃q,ssL 0 g (l 1) o e x (l 4) env ds (l 0)=q:=⟨_,rfl⟩;rw[hSL]at HST HFs HFw;clear hSL HD0 HYes HEr;unfold netV at HST;obtain⟨en,hen⟩:∃n,env.length=n:=⟨_,rfl⟩;rw[hen]at HST HEc;rw[hen];clear hen HEl;go_wp2_with fail;refine(HST.out _ Bz).mono ?_;rintro e' w13 ⟨v13,ps,rfl,ho5,hps,hb⟩;have HBw13:=hid (HBwc.out.trans (hb.mono HBwc.out.size));have HDr13:=hid (HDr.out.below hb);obtain⟨a13,c13,rfl⟩:=ho5.form;have HO5:=hid ho5
    have hnp24:ps.length≤3000:=by
     have:ps.length=SL.length:=by rw[←hps,List.length_map]
     rw[this];exact HFw.out
    have HPs:=hid hps;clear ho5 hb hps HDr HST HFw;clear q0 q1 q2 q3 q4 q5 y0 y1 y2 y3 hz hz1;obtain⟨⟨q0,q1,q2,q3,q4,q5⟩,⟨y0,y1,y2,y3⟩,-,-,hz1,hz⟩:=XP.out w13 HBw13.out;obtain⟨np,hnp⟩:∃n,ps.length=n:=⟨_,rfl⟩;have HNp:=hid hnp;rw[hnp]at HO5 hnp24 ⊢;clear hnp;go_wp2_with fail;go_loopw [18] (fun i wr=>∃k:Nat,k≤np∧i=.int .i64 k∧Below w13.heap.size w13 wr) (fun i _=>np - (intOf i).toNat)
    case atStart=>exact⟨0,Nat.zero_le _,rfl,Below.refl _ _⟩
    case round =>
     obtain⟨k,hk,rfl,hbel⟩:=hrel;have HBl:=hid hbel;have HBwr:=hid (HBw13.out.trans (hbel.mono HBw13.out.size));clear hbel;clear q0 q1 q2 q3 q4 q5 y0 y1 y2 y3 hz hz1;obtain⟨⟨q0,q1,q2,q3,q4,q5⟩,⟨y0,y1,y2,y3⟩,-,-,hz1,hz⟩:=XP.out wr HBwr.out;by_cases hlt:k<np
     · have hlt':k<ps.length:=by rw[HNp.out];exact hlt
       obtain⟨gb,rfl,-⟩:=rr_cell HO5.out hlt';have hfine:=HFs.out ps[k].2 (by rw[←HPs.out];exact List.mem_map.2 ⟨_,List.getElem_mem hlt',rfl⟩)
       have HZ:Hid (∀W:World,Below w13.heap.size w13 W→W.cell? ⟨gb,k,none⟩=some (rvR ps[k])∧OwnRts wc.heap.size W (rvR ps[k]) ps[k].2):=hid (fun W hb=>by
        obtain⟨gb',eg,hc⟩:=rr_cell (HO5.out.below hb) hlt';have e1:gb=gb' := by injection eg with eg;injection eg
        subst e1
        exact⟨hc,(HO5.out.below hb).inner ps[k] (List.getElem_mem hlt')⟩)
       obtain⟨q,hq⟩:∃q,ps[k]=q:=⟨_,rfl⟩;rw[hq]at HZ hfine;clear hq hlt';obtain⟨⟨ga,gc⟩,zs⟩:=q;unfold rvR at HZ;dsimp only at HZ hfine;obtain⟨⟨hzl,vs,hfi⟩,hflt⟩:=hfine;obtain⟨nR,hnR⟩:∃n,zs.length=n:=⟨_,rfl⟩;rw[hnR]at HZ hzl;have HFi:=hid hfi;have HFl:=hid hflt;have HnR:=hid hzl;have hn4:nR≤4:=by omega
       have hgbl:gb<w13.heap.size:=World.block_lt_of_cell? _ _ (HZ.out w13 Bz).1;clear hfi hnR hzl hflt;have HAt2:Hid (∀W:World,Bytes W aM lM→Calls Tryz.prog 6 #[.slice aM lM cM,.int .i64 (k:Int),.int .i64 16] W fun e w'=>∃r:Nat,e=.returned (.int .i64 r)∧r<16∧Below W.heap.size W w'):=hid (fun W hb=>at_any k 16 Om Om Om aM lM cM W hb Om);go_wp2_with fail;refine(HAt2.out _ (bytes_below HM.out (XP.out wr HBwr.out).2.2.2.1)).mono ?_;rintro e' w14 ⟨po,rfl,hpo,hb⟩;have HB14:=hid (HBl.out.trans (hb.mono HBl.out.size));have HBw14:=hid (HBwr.out.trans (hb.mono HBwr.out.size));clear hb HAt2;clear q0 q1 q2 q3 q4 q5 y0 y1 y2 y3 hz hz1;obtain⟨⟨q0,q1,q2,q3,q4,q5⟩,⟨y0,y1,y2,y3⟩,-,-,hz1,hz⟩:=XP.out w14 HBw14.out;go_upto_region 22 with fail;go_cut [121] from 119 to 149 (fun s121 wc=>s121=.bool (decide (0≤pp))∧wc=w14)
       case first =>
        go_wp2_with fail;go_meet;exact⟨rfl,rfl⟩
       case rest =>
        obtain⟨h121,hwc⟩:=hcut;rename_i wcc;have hwc:=hwc.symm;subst hwc;obtain⟨tp,htp⟩:∃t,decide (0≤pp)=t:=⟨_,rfl⟩;have HTp:=hid htp;rw[htp]at h121;subst h121;clear htp;go_upto_if 121 with fail;go_cut [19] from 122 to 149 (fun s19 wc=>(∃q:Nat,s19=.int .i64 (q:Int)∧q<16∧(pp<0∨pp=(q:Int)))∧wc=w14)
        case first =>
         cases tp with
         | true =>
          have h0:0≤pp:=of_decide_eq_true HTp.out;have h15:=(prop_facts HP.out).2.2.2.2;obtain⟨qn,hqn⟩:∃qn:Nat,pp=(qn:Int):=⟨pp.toNat,by omega⟩;have HQ:Hid (qn<16∧pp=(qn:Int)):=hid ⟨by omega,hqn⟩;clear h0 h15 hqn;go_wp2_with fail;go_meet;exact⟨⟨qn,by rw[HQ.out.2],HQ.out.1,.inr HQ.out.2⟩,rfl⟩
         | false =>
          have HN0:Hid (pp<0):=hid (by have:=of_decide_eq_false HTp.out;omega);have HPo:=hid hpo;go_wp2_with fail;go_meet;exact⟨⟨po,rfl,HPo.out,.inl HN0.out⟩,rfl⟩
        case rest =>
         obtain⟨⟨pq,h19,hpq,hpp⟩,hwc⟩:=hcut;have hwc:=hwc.symm;subst hwc;subst h19;have HPP:=hid hpp;clear hpp;have hf0:=prop_facts HP.out;obtain⟨fn,rfl⟩:∃fn:Nat,fr=(fn:Int):=⟨fr.toNat,by omega⟩;have hfn:fn<nR:=by have:=HnR.out;omega
         clear hf0;have HDr14:=hid (HDr13.out.below HB14.out);have HRow:=hid (rts_row (HZ.out w14 HB14.out).2)
         have HC0:Hid (fC l sN g o e x f (l 1) nR ds (rF zs) (fn:Int) (pq:Int)=0):=hid (by
          have hfine:=HFi.out;unfold fC fwC;rw[HnR.out,HNr.out,hfine.right,hfine.up,if_neg Om,if_neg (by decide),if_neg ?_,if_neg (by decide)];have:=HnR.out;unfold inB;simp
          omega)
         obtain⟨O,hO⟩:∃q,wayO (rF zs) f (l 5) (pq:Int) nR (fn:Int)=q:=⟨_,rfl⟩;obtain⟨PP,hPP⟩:∃q,(fn:Int)::wayR (rF zs) f (l 5) (pq:Int) nR (fn:Int)=q:=⟨_,rfl⟩
         have HO4:Hid (1≤O∧O≤4):=hid (by
          have:=out_in HFi.out f (l 5) (pq:Int) (fr:=fn) (by have:=HnR.out;omega);rw[←HnR.out,hO]at this
          exact this)
         have HSB:Hid (satB kind way O PP=true):=hid (by
          have h7:=HFl.out;rw[Int.toNat_natCast,←HnR.out]at h7;have:=fault_none h7 hpq HPP.out;rw[hO,hPP]at this
          exact this)
         have HFSp:Hid (∀W:World,Below w14.heap.size w14 W→Calls Tryz.prog 14 #[.agg #[.slice (p 0) (l 0) (c 0),.slice (p 1) (l 1) (c 1),.slice (p 2) (l 2) (c 2),.slice (p 3) (l 3) (c 3),.slice (p 4) (l 4) (c 4),.slice (p 5) (l 5) (c 5)],.slice (some ⟨w10.heap.size,0,none⟩) (l 1) (l 1),.slice (some ⟨ga,0,none⟩) nR gc,.int .i64 (fn:Int),.int .i64 (pq:Int)] W fun e' w'=>∃v,e' = .returned (.tuple #[.agg #[.int .i64 O,v],.int .i64 0])∧OwnInts W.heap.size w' v PP∧Below W.heap.size W w'):=hid (fun W hb=>by
          have:=forward_spec p l c sN g o e x f (some ⟨w10.heap.size,0,none⟩) (some ⟨ga,0,none⟩) (l 1) (l 1) nR gc ds (rF zs) (fn:Int) (pq:Int) W ((XP.out W (HBw14.out.trans (hb.mono HBw14.out.size))).2.2.1) HNc.out.1 HNc.out.2 (HDr14.out.below hb) (HRow.out.below hb);rw[HC0.out]at this;rw[(yes_out (rF zs) f (l 5) (pq:Int) nR (fn:Int)).1,(yes_out (rF zs) f (l 5) (pq:Int) nR (fn:Int)).2,hO,hPP]at this
          exact this)
         have HSat:Hid (∀(W:World) (pa:Option Addr) (pc:Nat),Below w14.heap.size w14 W→IntRow W pa PP.length PP→Calls Tryz.prog 15 #[.agg #[.slice (p 0) (l 0) (c 0),.slice (p 1) (l 1) (c 1),.slice (p 2) (l 2) (c 2),.slice (p 3) (l 3) (c 3),.slice (p 4) (l 4) (c 4),.slice (p 5) (l 5) (c 5)],.agg #[.int .i64 kind,.int .i64 (fn:Int),.int .i64 pp,.int .i64 way],.agg #[.int .i64 O,.slice pa PP.length pc]] W fun e' w'=>e' = .returned (.tuple #[.bool true,.int .i64 0])∧Below W.heap.size W w'):=hid (fun W pa pc hb hr=>by
          have:=sat_all p l c sN g o e x f kind (fn:Int) pp way O PP pa PP.length pc W ((XP.out W (HBw14.out.trans (hb.mono HBw14.out.size))).2.2.1) HNc.out.1 HNc.out.2 HP.out HO4.out hr;rw[HSB.out]at this
          exact this)
         have HZ6:Hid (∀W:World,Below w14.heap.size w14 W→(World.cell? W ⟨w1.heap.size,0,none⟩=some (.slice (p 0) (l 0) (c 0))∧World.cell? W ⟨w1.heap.size,1,none⟩=some (.slice (p 1) (l 1) (c 1))∧World.cell? W ⟨w1.heap.size,2,none⟩=some (.slice (p 2) (l 2) (c 2))∧World.cell? W ⟨w1.heap.size,3,none⟩=some (.slice (p 3) (l 3) (c 3))∧World.cell? W ⟨w1.heap.size,4,none⟩=some (.slice (p 4) (l 4) (c 4))∧World.cell? W ⟨w1.heap.size,5,none⟩=some (.slice (p 5) (l 5) (c 5)))∧(World.cell? W ⟨w3.heap.size,0,none⟩=some (.int .i64 kind)∧World.cell? W ⟨w3.heap.size,1,none⟩=some (.int .i64 (fn:Int))∧World.cell? W ⟨w3.heap.size,2,none⟩=some (.int .i64 pp)∧World.cell? W ⟨w3.heap.size,3,none⟩=some (.int .i64 way))∧W.cell? ⟨gb,k,none⟩=some (.slice (some ⟨ga,0,none⟩) nR gc)∧Below w13.heap.size w13 W∧(w1.heap.size<W.heap.size∧w3.heap.size<W.heap.size)):=hid (fun W hb=>by
          have h9:=HB14.out.trans (hb.mono HB14.out.size);obtain⟨g1,g2,-,-,g3,g4⟩:=XP.out W (HBw14.out.trans (hb.mono HBw14.out.size))
          exact⟨g1,g2,(HZ.out W h9).1,h9,g3,g4⟩)
         have hgb6:gb<w14.heap.size:=Nat.lt_of_lt_of_le hgbl HB14.out.size;clear hO hPP HC0 HFi HFl HZ HRow HDr14 HSB HO4 HPP HTp;go_upto_region 24 with fail;refine region_mk (fun uu=>⟨#[.slice aC lC cC,.slice aM lM cM,undef,undef,u4,.pointer (some ⟨w1.heap.size,0,none⟩),.pointer (some ⟨w3.heap.size,0,none⟩),.int .i64 ↑kr,.pointer (some ⟨w5.heap.size,0,none⟩),.int .i64 0,.pointer (some ⟨w7.heap.size,0,none⟩),.int .i64 0,undef,undef,.slice ea en ec,.slice (some ⟨w10.heap.size,0,none⟩) (l 1) (l 1),.slice (some ⟨gb,0,none⟩) np c13,.int .i64 0,.int .i64 ↑k,.int .i64 ↑pq,uu 20,uu 21,u22,u23,.slice aC lC cC,.int .i64 ↑lC,.bool false,.bool false,.slice aM lM cM,.int .i64 ↑lM,.bool false,.bool false,.slice aC lC cC,.agg #[.slice (p 0) (l 0) (c 0),.slice (p 1) (l 1) (c 1),.slice (p 2) (l 2) (c 2),.slice (p 3) (l 3) (c 3),.slice (p 4) (l 4) (c 4),.slice (p 5) (l 5) (c 5)],.slice aM lM cM,.agg #[.slice (p 0) (l 0) (c 0),.slice (p 1) (l 1) (c 1),.slice (p 2) (l 2) (c 2),.slice (p 3) (l 3) (c 3),.slice (p 4) (l 4) (c 4),.slice (p 5) (l 5) (c 5)],.agg #[.int .i64 kind,.int .i64 ↑fn,.int .i64 pp,.int .i64 way],.slice aM lM cM,.int .i64 ↑kr,.tuple #[.agg #[.bool true,.int .i64 n,.slice a1 D.length a4,.slice a2 E.length a5,.slice a3 V.length a6,.int .i64 pt],.int .i64 0],.agg #[.slice (p 0) (l 0) (c 0),.slice (p 1) (l 1) (c 1),.slice (p 2) (l 2) (c 2),.slice (p 3) (l 3) (c 3),.slice (p 4) (l 4) (c 4),.slice (p 5) (l 5) (c 5)],.agg #[.int .i64 kind,.int .i64 ↑fn,.int .i64 pp,.int .i64 way],.int .i64 ↑kr,.tuple #[.agg #[.bool true,.int .i64 n,.slice a1 D.length a4,.slice a2 E.length a5,.slice a3 V.length a6,.int .i64 pt],.int .i64 0],.agg #[.bool true,.int .i64 n,.slice a1 D.length a4,.slice a2 E.length a5,.slice a3 V.length a6,.int .i64 pt],.int .i64 0,.tuple #[.agg #[.bool true,.int .i64 n,.slice d1 D.length d4,.slice d2 E.length d5,.slice d3 V.length d6,.int .i64 pt],.int .i64 0],.agg #[.slice (p 0) (l 0) (c 0),.slice (p 1) (l 1) (c 1),.slice (p 2) (l 2) (c 2),.slice (p 3) (l 3) (c 3),.slice (p 4) (l 4) (c 4),.slice (p 5) (l 5) (c 5)],.agg #[.int .i64 kind,.int .i64 ↑fn,.int .i64 pp,.int .i64 way],.int .i64 ↑kr,.tuple #[.agg #[.bool true,.int .i64 n,.slice d1 D.length d4,.slice d2 E.length d5,.slice d3 V.length d6,.int .i64 pt],.int .i64 0],.agg #[.bool true,.int .i64 n,.slice d1 D.length d4,.slice d2 E.length d5,.slice d3 V.length d6,.int .i64 pt],.int .i64 0,.int .i64 0,.bool false,.bool false,.agg #[.bool true,.int .i64 n,.slice a1 D.length a4,.slice a2 E.length a5,.slice a3 V.length a6,.int .i64 pt],.agg #[.bool true,.int .i64 n,.slice d1 D.length d4,.slice d2 E.length d5,.slice d3 V.length d6,.int .i64 pt],.bool true,.bool false,.bool false,.bool false,.agg #[.slice (p 0) (l 0) (c 0),.slice (p 1) (l 1) (c 1),.slice (p 2) (l 2) (c 2),.slice (p 3) (l 3) (c 3),.slice (p 4) (l 4) (c 4),.slice (p 5) (l 5) (c 5)],.agg #[.int .i64 kind,.int .i64 ↑fn,.int .i64 pp,.int .i64 way],.bool true,.bool false,.bool false,.pointer (some ⟨w5.heap.size,0,none⟩),.bool true,.bool false,undef,undef,undef,undef,undef,undef,undef,undef,undef,undef,undef,undef,undef,.slice aM lM cM,.agg #[.slice (p 0) (l 0) (c 0),.slice (p 1) (l 1) (c 1),.slice (p 2) (l 2) (c 2),.slice (p 3) (l 3) (c 3),.slice (p 4) (l 4) (c 4),.slice (p 5) (l 5) (c 5)],.slice ea en ec,.pointer (some ⟨w1.heap.size,1,none⟩),.slice (p 1) (l 1) (c 1),.int .i64 ↑(l 1),.slice (some ⟨w10.heap.size,0,none⟩) (l 1) (l 1),u90,u91,u92,u93,u94,u95,.bool t,u97,u98,u99,u100,u101,u102,.tuple #[.slice (some ⟨gb,0,none⟩) np c13,.int .i64 0],.agg #[.slice (p 0) (l 0) (c 0),.slice (p 1) (l 1) (c 1),.slice (p 2) (l 2) (c 2),.slice (p 3) (l 3) (c 3),.slice (p 4) (l 4) (c 4),.slice (p 5) (l 5) (c 5)],.slice ea en ec,.slice (some ⟨w10.heap.size,0,none⟩) (l 1) (l 1),.tuple #[.slice (some ⟨gb,0,none⟩) np c13,.int .i64 0],.slice (some ⟨gb,0,none⟩) np c13,.int .i64 0,.int .i64 ↑k,.slice (some ⟨gb,0,none⟩) np c13,.int .i64 ↑np,.bool true,u114,u115,.slice aM lM cM,.int .i64 ↑k,.int .i64 ↑po,u119,u120,.bool tp,u122,u123,uu 124,uu 125,uu 126,uu 127,uu 128,uu 129,uu 130,uu 131,uu 132,uu 133,uu 134,uu 135,uu 136,u137,u138,u139,u140,u141,u142,u143,u144,u145,u146,u147,u148,u149],[]⟩) (fun i=>[some 125,some 126,some 127,some 128,some 129,some 130,some 131,some 132,some 133,some 134,some 124,some 135,some 136,some 20,none,some 21].getD i none) (fun i v w8=>match i with|0=>v=.agg #[.slice (p 0) (l 0) (c 0),.slice (p 1) (l 1) (c 1),.slice (p 2) (l 2) (c 2),.slice (p 3) (l 3) (c 3),.slice (p 4) (l 4) (c 4),.slice (p 5) (l 5) (c 5)]|1=>v=.slice (some ⟨w10.heap.size,0,none⟩) (l 1) (l 1)|2=>v=.slice (some ⟨gb,0,none⟩) np c13|3=>v=.int .i64 (k:Int)|4=>v=.pointer (some ⟨gb,k,none⟩)|5=>v=.slice (some ⟨ga,0,none⟩) nR gc|6=>v=.pointer (some ⟨w3.heap.size,1,none⟩)|7=>v=.int .i64 (fn:Int)|8=>v=.int .i64 (pq:Int)|9=>∃(vq:Value),v=.tuple #[.agg #[.int .i64 O,vq],.int .i64 0]∧OwnInts w14.heap.size w8 vq PP|10=>∃(vq:Value),v=.tuple #[.agg #[.int .i64 O,vq],.int .i64 0]∧OwnInts w14.heap.size w8 vq PP|11=>∃(vq:Value),v=.agg #[.int .i64 O,vq]∧OwnInts w14.heap.size w8 vq PP|12=>True|13=>∃N:Nat,v=.pointer (some ⟨N,0,none⟩)∧w14.heap.size≤N∧World.rowIs w8 N 49 2 (fun i=>if i=0 then .int .i64 0 else .slice none 0 0)|15=>True|_=>True) (fun i v=>match i with|10=>∃(vq:Value),v=.tuple #[vq,.int .i64 0]|12=>v=.int .i64 0|15=>v=.int .i64 0|_=>True) (fun uu w8=>∃(N:Nat) (pa:Option Addr) (pc:Nat),uu 20=.pointer (some ⟨N,0,none⟩)∧w14.heap.size≤N∧World.rowIs w8 N 49 2 (fun i=>if i=0 then .int .i64 O else .slice pa PP.length pc)∧OwnInts w14.heap.size w8 (.slice pa PP.length pc) PP∧Below w14.heap.size w14 w8) w14 16 14 (fun i=>decide (i=12)||decide (i=15)) (fun k=>match k with|125=>u125|126=>u126|127=>u127|128=>u128|129=>u129|130=>u130|131=>u131|132=>u132|133=>u133|134=>u134|124=>u124|135=>u135|136=>u136|20=>u20|21=>u21|_=>undef) (by rfl) Kr (by rfl) Kr (by decide) rfl Kr Bz ?hput ?hinj ?hsome ?hom ?stable ?hpsi ?step ?stepL ?store ?fin
         case hput =>
          intro i hi uu v
          iterate 16 (rcases i with _|i;rfl)
          exact absurd hi Om
         case hinj =>
          intro i j hi hj _ h;have h9:∀i,i<16→∀j,j<16→[some 125,some 126,some 127,some 128,some 129,some 130,some 131,some 132,some 133,some 134,some 124,some 135,some 136,some 20,none,some 21].getD i none=[some 125,some 126,some 127,some 128,some 129,some 130,some 131,some 132,some 133,some 134,some 124,some 135,some 136,some 20,none,some 21].getD j none→i=j:=by decide
          exact h9 i hi j hj h
         case hsome =>
          intro i hi hne;have h9:∀i,i<16→i≠14→[some 125,some 126,some 127,some 128,some 129,some 130,some 131,some 132,some 133,some 134,some 124,some 135,some 136,some 20,none,some 21].getD i none≠none:=by decide
          exact h9 i hi hne
         case hom =>
          intro i v w8 hl h
          match i,hl,h with
          | 0,hl,h=>trivial
          | 1,hl,h=>trivial
          | 2,hl,h=>trivial
          | 3,hl,h=>trivial
          | 4,hl,h=>trivial
          | 5,hl,h=>trivial
          | 6,hl,h=>trivial
          | 7,hl,h=>trivial
          | 8,hl,h=>trivial
          | 9,hl,h=>trivial
          | 10,hl,h=>(obtain⟨vq,e9,-⟩:=h;exact⟨_,e9⟩)
          | 11,hl,h=>trivial
          | 12,hl,h=>exact absurd hl (by decide)
          | 13,hl,h=>trivial
          | 14,hl,h=>trivial
          | 15,hl,h=>exact absurd hl (by decide)
          | _+16,hl,h=>trivial
         case stable =>
          intro i v w8 w9 hb h
          iterate 16 (rcases i with _|i;(first|exact h|(obtain⟨vq,e9,ho⟩:=h;exact⟨vq,e9,ho.below hb⟩)|(obtain⟨N,e9,hN,hrw⟩:=h;exact⟨N,e9,hN,hrw.of_block (hb.block N hrw.lt)⟩)|trivial))
          trivial
         case hpsi =>
          intro i hi hl uu v w8 h
          match i,hi,hl,h with
          | 0,_,hl,h=>exact absurd hl (by decide)
          | 1,_,hl,h=>exact absurd hl (by decide)
          | 2,_,hl,h=>exact absurd hl (by decide)
          | 3,_,hl,h=>exact absurd hl (by decide)
          | 4,_,hl,h=>exact absurd hl (by decide)
          | 5,_,hl,h=>exact absurd hl (by decide)
          | 6,_,hl,h=>exact absurd hl (by decide)
          | 7,_,hl,h=>exact absurd hl (by decide)
          | 8,_,hl,h=>exact absurd hl (by decide)
          | 9,_,hl,h=>exact absurd hl (by decide)
          | 10,_,hl,h=>exact absurd hl (by decide)
          | 11,_,hl,h=>exact absurd hl (by decide)
          | 12,_,hl,h=>exact h
          | 13,_,hl,h=>exact absurd hl (by decide)
          | 14,_,hl,h=>exact absurd hl (by decide)
          | 15,_,hl,h=>exact h
          | i+16,hi,_,_=>exact absurd hi Om
         case step =>
          intro i hi hne hl uu w8 S8 hdep
          match i,hi,hne,hl,hdep with
          | 0,_,_,_,hdep =>
           clear hdep;refine⟨_,rfl,fun K' hK=>?_⟩;obtain⟨⟨q0,q1,q2,q3,q4,q5⟩,⟨y0,y1,y2,y3⟩,hce,-,-⟩:=HZ6.out w8 ((Below.refl w14.heap.size w14).trans (S8.mono (Below.refl w14.heap.size w14).size));go_simp;exact hK.out _ _ Bz (rfl)
          | 1,_,_,_,hdep =>
           clear hdep;refine⟨_,rfl,fun K' hK=>?_⟩;go_simp;exact hK.out _ _ Bz (rfl)
          | 2,_,_,_,hdep =>
           clear hdep;refine⟨_,rfl,fun K' hK=>?_⟩;go_simp;exact hK.out _ _ Bz (rfl)
          | 3,_,_,_,hdep =>
           clear hdep;refine⟨_,rfl,fun K' hK=>?_⟩;go_simp;exact hK.out _ _ Bz (rfl)
          | 4,_,_,_,hdep =>
           have h2:(uu 127)=.slice (some ⟨gb,0,none⟩) np c13:=hdep 2 Kr (by decide);have h3:(uu 128)=.int .i64 (k:Int):=hdep 3 Kr (by decide);clear hdep;refine⟨_,rfl,fun K' hK=>?_⟩;simp only[h2,h3]at hK ⊢;go_simp;exact hK.out _ _ Bz (rfl)
          | 5,_,_,_,hdep =>
           have h4:(uu 129)=.pointer (some ⟨gb,k,none⟩):=hdep 4 Kr (by decide);clear hdep;refine⟨_,rfl,fun K' hK=>?_⟩;obtain⟨⟨q0,q1,q2,q3,q4,q5⟩,⟨y0,y1,y2,y3⟩,hce,-,-⟩:=HZ6.out w8 ((Below.refl w14.heap.size w14).trans (S8.mono (Below.refl w14.heap.size w14).size));simp only[h4]at hK ⊢;go_simp;exact hK.out _ _ Bz (rfl)
          | 6,_,_,_,hdep =>
           clear hdep;refine⟨_,rfl,fun K' hK=>?_⟩;go_simp;exact hK.out _ _ Bz (rfl)
          | 7,_,_,_,hdep =>
           have h6:(uu 131)=.pointer (some ⟨w3.heap.size,1,none⟩):=hdep 6 Kr (by decide);clear hdep;refine⟨_,rfl,fun K' hK=>?_⟩;obtain⟨⟨q0,q1,q2,q3,q4,q5⟩,⟨y0,y1,y2,y3⟩,hce,-,-⟩:=HZ6.out w8 ((Below.refl w14.heap.size w14).trans (S8.mono (Below.refl w14.heap.size w14).size));simp only[h6]at hK ⊢;go_simp;exact hK.out _ _ Bz (rfl)
          | 8,_,_,_,hdep =>
           clear hdep;refine⟨_,rfl,fun K' hK=>?_⟩;go_simp;exact hK.out _ _ Bz (rfl)
          | 9,_,_,_,hdep =>
           have h0:(uu 125)=.agg #[.slice (p 0) (l 0) (c 0),.slice (p 1) (l 1) (c 1),.slice (p 2) (l 2) (c 2),.slice (p 3) (l 3) (c 3),.slice (p 4) (l 4) (c 4),.slice (p 5) (l 5) (c 5)]:=hdep 0 Kr (by decide);have h1:(uu 126)=.slice (some ⟨w10.heap.size,0,none⟩) (l 1) (l 1):=hdep 1 Kr (by decide);have h5:(uu 130)=.slice (some ⟨ga,0,none⟩) nR gc:=hdep 5 Kr (by decide);have h7:(uu 132)=.int .i64 (fn:Int):=hdep 7 Kr (by decide);have h8:(uu 133)=.int .i64 (pq:Int):=hdep 8 Kr (by decide);clear hdep;refine⟨_,rfl,fun K' hK=>?_⟩;simp only[h0,h1,h5,h7,h8]at hK ⊢;go_simp;refine(HFSp.out _ ((Below.refl w14.heap.size w14).trans (S8.mono (Below.refl w14.heap.size w14).size))).mono ?_;rintro e9 w9 ⟨v9,rfl,ho9,hb9⟩;exact hK.out _ _ hb9 ⟨v9,rfl,ho9.mono (Nat.le_trans (Below.refl w14.heap.size w14).size S8.size)⟩
          | 10,_,_,_,hdep =>
           have h9:∃(vq:Value),(uu 134)=.tuple #[.agg #[.int .i64 O,vq],.int .i64 0]∧OwnInts w14.heap.size w8 vq PP:=hdep 9 Kr (by decide);clear hdep;refine⟨_,rfl,fun K' hK=>?_⟩;obtain⟨vq,e9,ho⟩:=h9;simp only[e9]at hK ⊢;go_simp;exact hK.out _ _ Bz (⟨vq,rfl,ho⟩)
          | 11,_,_,_,hdep =>
           have h10:∃(vq:Value),(uu 124)=.tuple #[.agg #[.int .i64 O,vq],.int .i64 0]∧OwnInts w14.heap.size w8 vq PP:=hdep 10 Kr (by decide);clear hdep;refine⟨_,rfl,fun K' hK=>?_⟩;obtain⟨vq,e9,ho⟩:=h10;simp only[e9]at hK ⊢;go_simp;exact hK.out _ _ Bz (⟨vq,rfl,ho⟩)
          | 12,_,_,hl,_=>exact absurd hl (by decide)
          | 13,_,_,_,hdep =>
           clear hdep;refine⟨_,rfl,fun K' hK=>?_⟩;go_simp
           exact hK.out _ _ Bl ⟨w8.heap.size,rfl,S8.size,World.rowIs_alloc w8 #[.int .i64 0,.slice none 0 0] _ _ (fun i hi=>by
            have h3:i<2:=hi
            rcases (show i=0∨i=1 by omega) with rfl|rfl<;>rfl)⟩
          | 14,_,hne,_,_=>exact absurd rfl hne
          | 15,_,_,hl,_=>exact absurd hl (by decide)
          | i+16,hi,_,_,_=>exact absurd hi Om
         case stepL =>
          intro i hi hne hl uu w8 hdep
          match i,hi,hne,hl,hdep with
          | 0,_,_,hl,_=>exact absurd hl (by decide)
          | 1,_,_,hl,_=>exact absurd hl (by decide)
          | 2,_,_,hl,_=>exact absurd hl (by decide)
          | 3,_,_,hl,_=>exact absurd hl (by decide)
          | 4,_,_,hl,_=>exact absurd hl (by decide)
          | 5,_,_,hl,_=>exact absurd hl (by decide)
          | 6,_,_,hl,_=>exact absurd hl (by decide)
          | 7,_,_,hl,_=>exact absurd hl (by decide)
          | 8,_,_,hl,_=>exact absurd hl (by decide)
          | 9,_,_,hl,_=>exact absurd hl (by decide)
          | 10,_,_,hl,_=>exact absurd hl (by decide)
          | 11,_,_,hl,_=>exact absurd hl (by decide)
          | 12,_,_,_,hdep =>
           have h10:∃(vq:Value),(uu 124)=.tuple #[vq,.int .i64 0]:=hdep 10 Kr (by decide);clear hdep;refine⟨_,rfl,fun K' hK=>?_⟩;obtain⟨vq,e9⟩:=h10;simp only[e9]at hK ⊢;go_simp;exact hK.out _ rfl
          | 13,_,_,hl,_=>exact absurd hl (by decide)
          | 14,_,hne,_,_=>exact absurd rfl hne
          | 15,_,_,_,hdep =>
           have h12:(uu 136)=.int .i64 0:=hdep 12 Kr (by decide);clear hdep;refine⟨_,rfl,fun K' hK=>?_⟩;simp only[h12]at hK ⊢;go_simp;exact hK.out _ rfl
          | i+16,hi,_,_,_=>exact absurd hi Om
         case store =>
          intro uu w8 S8 hdep;have h11:∃(vq:Value),(uu 135)=.agg #[.int .i64 O,vq]∧OwnInts w14.heap.size w8 vq PP:=hdep 11 Kr (by decide);have h13:∃N:Nat,(uu 20)=.pointer (some ⟨N,0,none⟩)∧w14.heap.size≤N∧World.rowIs w8 N 49 2 (fun i=>if i=0 then .int .i64 0 else .slice none 0 0):=hdep 13 Kr (by decide);clear hdep;refine⟨_,rfl,fun K' hK=>?_⟩;obtain⟨vq,e8,ho⟩:=h11;obtain⟨pa,pc,e7,-⟩:=OwnInts.form ho;subst e7;obtain⟨N,e9,hN,hrw⟩:=h13;have hap:=apart_row ho hrw;have HP9:=e9;simp only[e8,e9]at hK ⊢;have n0:World.cell? w8 ⟨N,0,none⟩=some (.int .i64 0):=hrw.cell (i:=0) Om;have n1:World.cell? w8 ⟨N,1,none⟩=some (.slice none 0 0):=hrw.cell (i:=1) Om;have z0:=hrw.frozen 0;have z1:=hrw.frozen 1;have hcN:Chg (fun j=>j=N) w8 ((w8.setCell ⟨N,0,none⟩ (.int .i64 O)).setCell ⟨N,1,none⟩ (.slice pa PP.length pc)):=((Chg.refl (fun j=>j=N) w8).set (.inl rfl) _).set (.inl rfl) _
          have hrn:World.rowIs ((w8.setCell ⟨N,0,none⟩ (.int .i64 O)).setCell ⟨N,1,none⟩ (.slice pa PP.length pc)) N 49 2 (fun i=>if i=0 then .int .i64 O else .slice pa PP.length pc):=((hrw.set 0 (.int .i64 O)).set 1 (.slice pa PP.length pc)).congr (fun i hi=>by
           rcases (show i=0∨i=1 by omega) with rfl|rfl<;>rfl)
          go_simp;refine hK.out undef _ ⟨N,pa,pc,rfl,hN,hrn,insSpec.own_same ho (fun j hj=>?_),⟨hcN.os.trans S8.os,hcN.tape.trans S8.tape,hcN.output.trans S8.output,Nat.le_trans S8.size hcN.size,fun j hj=>(hcN.block j (by have:=S8.size;omega) (fun hx=>by have h3:j=N:=hx;omega)).trans (S8.block j hj)⟩⟩;exact hcN.block j (World.ownsRow.lt ho j hj).2 (fun hx=>hap j hj hx)
         intro uu wf hpsi hom;have hsc:uu 21=.int .i64 0:=hom 15 (by decide) (by decide);obtain⟨N,pa,pc,hsw,hN,hrn,hoi,hbw⟩:=hpsi;simp only[hsc,hsw];have HN7:=hid hrn;have HP7:=hid (irow hoi);have HB7:=hid hbw;have n0:World.cell? wf ⟨N,0,none⟩=some (.int .i64 O):=hrn.cell (i:=0) Om;have n1:World.cell? wf ⟨N,1,none⟩=some (.slice pa PP.length pc):=hrn.cell (i:=1) Om;have hNl:=hrn.lt;clear hrn hoi hbw hN hsc hsw hom q0 q1 q2 q3 q4 q5 y0 y1 y2 y3 hz hz1;obtain⟨⟨q0,q1,q2,q3,q4,q5⟩,⟨y0,y1,y2,y3⟩,hce,-,hz1,hz⟩:=HZ6.out wf HB7.out;go_wp2_with fail;refine(HSat.out wf pa pc HB7.out HP7.out).mono ?_;rintro e' w15 ⟨rfl,hb⟩;have HB15:=hid (HB7.out.trans (hb.mono HB7.out.size));clear hb;go_wp2;go_roundw
         case rel=>exact⟨k+1,by omega,by go_num,(HZ6.out _ HB15.out).2.2.2.1⟩
         case measure=>simp[intOf];omega
     have dk:decide ((k:Int)<(np:Int))=false:=decide_eq_false Om;go_wp2;go_ret;exact⟨rfl,(XP.out _ HBwr.out).2.2.2.1⟩
theorem own : ownKnob Tryz.prog.godebug=none := by kernel_rfl
theorem laidOut : laidOutB Tryz.prog=true := by kernel_rfl
set_option maxRecDepth 100000 in
theorem lifted (os:Os) (started:os.Started) (H:Type) (enc:TypeId × Value→H) :
  ReturnsInHanded {} Tryz.checked os 3 .any (Rows.fnVerdictsSpec.pre6 enc Tryz.prog Tryz.f3 Rows.fnVerdictsRow.domain false) (Rows.fnVerdictsSpec.post enc Tryz.prog Tryz.f3 false true false false):=by
 refine returnsInHanded_of_change (C:=Tryz.checked) own started Kr Tryz.func3
  (ChangeSpec.witness6 (enc:=enc) (C:=Tryz.checked) false ⟨#[],#[.slice none 0 0,.slice none 0 0],[]⟩ 8 Kr Kr Kr Kr) ?_
 intro W base args ds gs before hval0 hW hcnd _;have hval:∀(j:Nat) t v,Tryz.f3.params[j]? = some t→args[j]? = some v→Value.okWide Tryz.prog W .any base t v:=hval0;have hW' := hW;obtain⟨p,q,hA0,hV,rfl,hfz,hnd⟩:=hW;have hA:DataW.TrodAll enc Tryz.prog W 0 (fun _=>true) true Tryz.f3.params.toList args.toList ds p:=hA0;rw[Tryz.params3]at hA hval;obtain⟨v0,vs0,d0,ds0,p0,q0,hargs,rfl,rfl,h0,r0⟩:=trodAll_cons hA;obtain⟨v1,vs1,d1,ds1,p1,q1,rfl,rfl,rfl,h1,r1⟩:=trodAll_cons r0;obtain⟨rfl,rfl,rfl⟩:=trodAll_nil r1;obtain rfl:args=#[v0,v1]:=by cases args;simp_all
 obtain⟨rfl,rfl⟩:=trodVars_none hV;have k0:=h0;have lt0:∀x∈p0,x.block<W.heap.size:=by obtain⟨m,hm⟩:=k0;exact DataW.trod_lt m _ _ _ hm
 have k1:=h1;have lt1:∀x∈p1,x.block<W.heap.size:=by obtain⟨m,hm⟩:=k1;exact DataW.trod_lt m _ _ _ hm
 obtain⟨aA,la,cA,rfl⟩:=okWide_slice Tryz.underlying22 (hval 0 22 v0 rfl rfl);obtain⟨aB,lb,cB,rfl⟩:=okWide_slice Tryz.underlying22 (hval 1 22 v1 rfl rfl)
 obtain⟨hA1,hA2⟩:Bytes W aA la∧la≤maxLen:=by
  obtain⟨fuel,hf⟩:=h0;obtain⟨a',l',c',e,hb,hl⟩:=bytes_of_trod Tryz.underlying22 Tryz.underlying5 Kr (by simpa[Value.cells] using hf);cases e;exact⟨hb,hl⟩
 obtain⟨hB1,hB2⟩:Bytes W aB lb∧lb≤maxLen:=by
  obtain⟨fuel,hf⟩:=h1;obtain⟨a',l',c',e,hb,hl⟩:=bytes_of_trod Tryz.underlying22 Tryz.underlying5 Kr (by simpa[Value.cells] using hf);cases e;exact⟨hb,hl⟩
 clear hA0 hval0;refine(walk aA aB la cA lb cB W hA1 hB1 hA2 hB2).mono fun e W' ⟨he,bel⟩=>?_;subst he;exact⟨_,rfl,_,_,_,[],_,[],hW',trodAll_mk1 (shut_bool Tryz.underlying4 _),(trodAll_cons_mk (Below.trod laidOut Kr (of_decide_eq_true Kr) k0 bel lt0) (trodAll_cons_mk (Below.trod laidOut Kr (of_decide_eq_true Kr) k1 bel lt1) trodAll_mk0)),rfl,bel.frame _,fun h=>by cases h⟩
theorem over : Rows.fnVerdictsRow.holds Tryz.pinned (OpenSpec.ofChange Rows.fnVerdictsSpec) :=
 OpenClaim.holds_of_wide 3 Tryz.f3 rfl rfl rfl rfl rfl rfl rfl ⟨rfl,rfl,rfl,rfl,rfl⟩ rfl rfl rfl rfl rfl Kr Tryz.func3 Kr
  (of_decide_eq_true Kr) (by unfold Func.isWrapper;first|(rw[if_pos (by decide +kernel)];kernel_rfl)|(rw[if_neg (by decide +kernel)];exact⟨rfl,rfl⟩))
  (fun os started H enc _=>lifted os started H enc)
end Go.Proofs.YtcnoemjeijjnjaaGreat.fnVerdicts
namespace Go.Proofs.YtcnoemjeijjnjaaGreat
theorem fnVerdicts_holds : Rows.FnVerdictsSaid := fnVerdicts.over
end Go.Proofs.YtcnoemjeijjnjaaGreat
