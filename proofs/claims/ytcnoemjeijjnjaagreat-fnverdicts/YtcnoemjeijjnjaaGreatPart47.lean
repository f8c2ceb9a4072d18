import Derived.Test.YtcnoemjeijjnjaaGreatPart46
import Derived.Deep.RegionWith
set_option linter.unusedVariables false
namespace Go.Proofs.YtcnoemjeijjnjaaGreat.verFaceI
open Go.RowKit Go.Deep Go base copy names netSem netImpl netSpec routeRow nbSem candSem prodSem ssSem rofSem downsSpec envsSpec downsTwo stateTwo verSem verSpec verdictImpl verMath propSem rtsRow faultSpec verFaceS hopBetween
set_option maxRecDepth 100000 in
set_option maxHeartbeats 6400000 in
theorem verify_impl (p:Nat→Option Addr) (l c:Nat→Nat) (s:Ss) (g:R) (og ex:List Int) (x f:R) (kind fr pp way k:Int) (w:World) (h:NetIs w p l s g og ex x f) (hc0:l 0≤c 0) (hc1:l 1≤c 1) :
  Calls Tryz.prog 7 #[netV p l c,.agg #[.int .i64 kind,.int .i64 fr,.int .i64 pp,.int .i64 way],.int .i64 k] w fun e' w'=>∃v,e' = .returned (.tuple #[v,.int .i64 (verC (propB (netB l s g og ex x f) (l 0) kind fr pp way) k)])∧VerAns w' w.heap.size (verC (propB (netB l s g og ex x f) (l 0) kind fr pp way) k) (stP g og ex x l) (downsP (l 1) (k.toNat+1)) (prod (fun _=>[0,1,2]) (l 3)) (fun st=>faultAt (rF st) f (l 5) (l 0) kind pp way fr.toNat) v∧VAp v∧Below w.heap.size w w' := by
 have HN:=hid h;have HP:Hid (∀W:World,Below w.heap.size w W→Calls Tryz.prog 10 #[netV p l c,.agg #[.int .i64 kind,.int .i64 fr,.int .i64 pp,.int .i64 way]] W fun e' w'=>e' = .returned (.bool (propB (netB l s g og ex x f) (l 0) kind fr pp way))∧Below W.heap.size W w'):=hid (fun W hb=>propImpl.prop_impl p l c s g og ex x f kind fr pp way W (h.below hb) hc0 hc1);obtain⟨ok,hok⟩:∃b,propB (netB l s g og ex x f) (l 0) kind fr pp way=b:=⟨_,rfl⟩;have HOK:=hid hok;rw[hok];simp only[hok]at HP;obtain⟨fa,hfa⟩:∃fa:List Rt→Int,(fun st=>faultAt (rF st) f (l 5) (l 0) kind pp way fr.toNat)=fa:=⟨_,rfl⟩;have HFa:Hid (∀st,faultAt (rF st) f (l 5) (l 0) kind pp way fr.toNat=fa st):=hid (fun st=>by rw[←hfa]);rw[hfa];clear hok hfa h
 have C1:∀w8:World,Below (((w.alloc (.cells #[.slice (p 0) (l 0) (c 0),.slice (p 1) (l 1) (c 1),.slice (p 2) (l 2) (c 2),.slice (p 3) (l 3) (c 3),.slice (p 4) (l 4) (c 4),.slice (p 5) (l 5) (c 5)] 29)).alloc (.cells #[.int .i64 kind,.int .i64 fr,.int .i64 pp,.int .i64 way] 32)).alloc (.cells #[.bool false,.int .i64 0,.slice none 0 0,.slice none 0 0,.slice none 0 0,.int .i64 0] 37)).heap.size (((w.alloc (.cells #[.slice (p 0) (l 0) (c 0),.slice (p 1) (l 1) (c 1),.slice (p 2) (l 2) (c 2),.slice (p 3) (l 3) (c 3),.slice (p 4) (l 4) (c 4),.slice (p 5) (l 5) (c 5)] 29)).alloc (.cells #[.int .i64 kind,.int .i64 fr,.int .i64 pp,.int .i64 way] 32)).alloc (.cells #[.bool false,.int .i64 0,.slice none 0 0,.slice none 0 0,.slice none 0 0,.int .i64 0] 37)) w8→(w8.cell? ⟨w.heap.size,0,none⟩=some (.slice (p 0) (l 0) (c 0))∧w8.cell? ⟨w.heap.size,1,none⟩=some (.slice (p 1) (l 1) (c 1))∧w8.cell? ⟨w.heap.size,2,none⟩=some (.slice (p 2) (l 2) (c 2))∧w8.cell? ⟨w.heap.size,3,none⟩=some (.slice (p 3) (l 3) (c 3))∧w8.cell? ⟨w.heap.size,4,none⟩=some (.slice (p 4) (l 4) (c 4))∧w8.cell? ⟨w.heap.size,5,none⟩=some (.slice (p 5) (l 5) (c 5))∧w8.cell? ⟨w.heap.size+1,0,none⟩=some (.int .i64 kind)∧w8.cell? ⟨w.heap.size+1,1,none⟩=some (.int .i64 fr)∧w8.cell? ⟨w.heap.size+1,2,none⟩=some (.int .i64 pp)∧w8.cell? ⟨w.heap.size+1,3,none⟩=some (.int .i64 way))∧w8.heap[w.heap.size+2]? = some (.cells #[.bool false,.int .i64 0,.slice none 0 0,.slice none 0 0,.slice none 0 0,.int .i64 0] 37 (0,0))∧Below w.heap.size w w8∧w.heap.size+3≤w8.heap.size:=fun w8 hb=>by
  refine⟨⟨keep hb (by simp[go_sem]),keep hb (by simp[go_sem]),keep hb (by simp[go_sem]),keep hb (by simp[go_sem]),keep hb (by simp[go_sem]),keep hb (by simp[go_sem]),keep hb (by simp[go_sem]),keep hb (by simp[go_sem]),keep hb (by simp[go_sem]),keep hb (by simp[go_sem])⟩,?_,(show Below w.heap.size w _ from Bl).trans (hb.mono (by simp;omega)),by have:=hb.size;simpa using this⟩;have h9:=heap_alloc_new ((w.alloc (.cells #[.slice (p 0) (l 0) (c 0),.slice (p 1) (l 1) (c 1),.slice (p 2) (l 2) (c 2),.slice (p 3) (l 3) (c 3),.slice (p 4) (l 4) (c 4),.slice (p 5) (l 5) (c 5)] 29)).alloc (.cells #[.int .i64 kind,.int .i64 fr,.int .i64 pp,.int .i64 way] 32)) (.cells #[.bool false,.int .i64 0,.slice none 0 0,.slice none 0 0,.slice none 0 0,.int .i64 0] 37);rw[show ((w.alloc (.cells #[.slice (p 0) (l 0) (c 0),.slice (p 1) (l 1) (c 1),.slice (p 2) (l 2) (c 2),.slice (p 3) (l 3) (c 3),.slice (p 4) (l 4) (c 4),.slice (p 5) (l 5) (c 5)] 29)).alloc (.cells #[.int .i64 kind,.int .i64 fr,.int .i64 pp,.int .i64 way] 32)).heap.size=w.heap.size+2 by simp]at h9;exact(hb.block _ (by simp)).trans h9
 have HC1:=hid C1;clear C1;unfold netV at HP ⊢;go_enter Tryz.func7,Tryz.ntmps7;go_wp2_with fail;refine(HP.out _ Bl).mono ?_;rintro e1 w1 ⟨rfl,hb1⟩;obtain⟨⟨q0,q1,q2,q3,q4,q5,q6,q7,q8,q9⟩,hres,hB1,hz1⟩:=HC1.out _ hb1;have B1:=hid hB1;have HRes:=hid hres;have r0:w1.cell? ⟨w.heap.size+2,0,none⟩=some (.bool false):=by simp[World.cell?,hres]
 have z0:w1.frozen? ⟨w.heap.size+2,0,none⟩=false:=by simp[World.frozen?,hres]
 have r1:w1.cell? ⟨w.heap.size+2,1,none⟩=some (.int .i64 0):=by simp[World.cell?,hres]
 have z1:w1.frozen? ⟨w.heap.size+2,1,none⟩=false:=by simp[World.frozen?,hres]
 have r2:w1.cell? ⟨w.heap.size+2,2,none⟩=some (.slice none 0 0):=by simp[World.cell?,hres]
 have z2:w1.frozen? ⟨w.heap.size+2,2,none⟩=false:=by simp[World.frozen?,hres]
 have r3:w1.cell? ⟨w.heap.size+2,3,none⟩=some (.slice none 0 0):=by simp[World.cell?,hres]
 have z3:w1.frozen? ⟨w.heap.size+2,3,none⟩=false:=by simp[World.frozen?,hres]
 have r4:w1.cell? ⟨w.heap.size+2,4,none⟩=some (.slice none 0 0):=by simp[World.cell?,hres]
 have z4:w1.frozen? ⟨w.heap.size+2,4,none⟩=false:=by simp[World.frozen?,hres]
 have r5:w1.cell? ⟨w.heap.size+2,5,none⟩=some (.int .i64 0):=by simp[World.cell?,hres]
 have z5:w1.frozen? ⟨w.heap.size+2,5,none⟩=false:=by simp[World.frozen?,hres]
 clear hb1 hB1 hres HC1
 cases ok with
 | false =>
  have HC:Hid (verC false k=1):=hid rfl;go_wp2_with fail;refine bodyPost_ret (v:=.tuple #[zeroV,.int .i64 1]) (by simp[results,Tryz.results7,go_sem,zeroV,r0,r1,r2,r3,r4,r5]) rfl ⟨zeroV,by rw[HC.out],by unfold VerAns;rw[HC.out,if_neg (by decide)],(show VAp zeroV from vap_of (fun gq h1 _=>by simp[Value.ownBlock]at h1)),?_⟩;exact six_below B1.out Om
 | true =>
  obtain⟨kb,hkb⟩:∃b,inB k 0 2=b:=⟨_,rfl⟩;have HKb:=hid hkb;have HIn:Hid (∀W:World,Calls Tryz.prog 19 #[.int .i64 k,.int .i64 0,.int .i64 2] W fun e w'=>e=.returned (.bool kb)∧w' = W):=hid (fun W=>by have:=within_impl k 0 2 W;rw[hkb]at this;exact this);clear hkb;go_wp2_with fail;refine(HIn.out _).mono ?_;rintro e2 w2 ⟨rfl,hw2⟩;have hw2:=hw2.symm;subst hw2
  cases kb with
  | false =>
   have HC:Hid (verC true k=5):=hid (by unfold verC;rw[HKb.out];rfl);go_wp2_with fail;refine bodyPost_ret (v:=.tuple #[zeroV,.int .i64 5]) (by simp[results,Tryz.results7,go_sem,zeroV,r0,r1,r2,r3,r4,r5]) rfl ⟨zeroV,by rw[HC.out],by unfold VerAns;rw[HC.out,if_neg (by decide)],(show VAp zeroV from vap_of (fun gq h1 _=>by simp[Value.ownBlock]at h1)),?_⟩;exact six_below B1.out Om
  | true =>
   have HC:Hid (verC true k=0):=hid (by unfold verC;rw[HKb.out];rfl);obtain⟨hok,hf0,hf1,hp0,hp1⟩:=prop_facts HOK.out;obtain⟨hfine,hn1,hL,hE,h12,hgi,hxi⟩:=net_facts hok;have h4:=hfine.few;obtain⟨kN,hkN⟩:∃kN:Nat,k=(kN:Int):=⟨k.toNat,by have:=HKb.out;unfold inB at this;simp only[decide_eq_true_eq]at this;omega⟩;have hk2:kN≤2:=by have:=HKb.out;unfold inB at this;simp only[decide_eq_true_eq]at this;omega
   obtain⟨fN,hfN⟩:∃fN:Nat,fr=(fN:Int):=⟨fr.toNat,by omega⟩;subst hkN;subst hfN;have hfl:fN<l 0:=by omega
   simp only[Int.toNat_natCast]at HFa ⊢;obtain⟨W2,hW2⟩:∃W2,(w1.alloc (.cells (sceneNew.newCells p l c) 79)).alloc (.cells #[.pointer (some ⟨w1.heap.size,0,none⟩),.int .i64 kind,.int .i64 (fN:Int),.int .i64 pp,.int .i64 way,.int .i64 0] 84)=W2:=⟨_,rfl⟩;have hb2:Below w1.heap.size w1 W2:=by rw[←hW2];exact Bl
   have hbw2:Below w.heap.size w W2:=B1.out.trans (hb2.mono B1.out.size);have hN2:=HN.out.below hbw2;have hrow:=sceneNew.new_row p l c w1
   have hrow2:W2.rowIs w1.heap.size 79 57 (sceneNew.newF p l c):=by
    rw[←hW2];exact hrow.of_block (Below.heap_alloc _ _ _ hrow.lt)
   have hlk:W2.heap[w1.heap.size+1]? = some (.cells #[.pointer (some ⟨w1.heap.size,0,none⟩),.int .i64 kind,.int .i64 (fN:Int),.int .i64 pp,.int .i64 way,.int .i64 0] 84 (0,0)):=by
    rw[←hW2];have h9:=World.alloc_heap_new (w1.alloc (.cells (sceneNew.newCells p l c) 79)) (.cells #[.pointer (some ⟨w1.heap.size,0,none⟩),.int .i64 kind,.int .i64 (fN:Int),.int .i64 pp,.int .i64 way,.int .i64 0] 84)
    rwa [World.size_alloc]at h9
   have hz2:W2.heap.size=w1.heap.size+2:=by rw[←hW2];simp
   have hlow:∀i a q,1≤i→i≤5→0<l i→p i=some ⟨a,q,none⟩→a<w.heap.size:=fun i a q i1 i5 h0 he=>by
    match i,i1,i5,h0,he with
    | 1,_,_,h0,he=>exact sceneNew.row_lt (by decide) HN.out.links a q h0 he
    | 2,_,_,h0,he=>exact sceneNew.int_lt HN.out.origins a q h0 he
    | 3,_,_,h0,he=>exact sceneNew.int_lt HN.out.externals a q h0 he
    | 4,_,_,h0,he=>exact sceneNew.row_lt (by decide) HN.out.imports a q h0 he
    | 5,_,_,h0,he=>exact sceneNew.row_lt (by decide) HN.out.filters a q h0 he
    | 0,h,_,_,_=>omega
    | i+6,_,h,_,_=>omega
   have HVe:Hid (Calls Tryz.prog 20 #[.pointer (some ⟨w1.heap.size+1,0,none⟩),.int .i64 (kN:Int)] W2 fun e w'=>∃v,e=.returned v∧IsVer w' W2.heap.size (stP g og ex x l) (downsP (l 1) (kN+1)) (prod (fun _=>[0,1,2]) (l 3)) fa v∧VAp v∧Below w1.heap.size W2 w'):=hid (by
    have h9:=verdict_impl (w1.heap.size+1) w1.heap.size W2.heap.size kN kind pp way fN (sceneNew.newF p l c) p l c g x f og ex W2 hlk (.inl ⟨hrow2,sceneNew.new_hf p l c,rfl,rfl⟩) (Nat.le_refl _) (fun i hi=>by
      match i,hi with
      | 0,_=>rfl
      | 1,_=>rfl
      | 2,_=>rfl
      | 3,_=>rfl
      | 4,_=>rfl
      | 5,_=>rfl
      | i+6,hi=>omega)
     ⟨rfl,rfl,hN2.links,hN2.imports,hgi,hxi,h12,fun a q h0 he=>by have:=hlow 1 a q Om Om h0 he;omega,fun a q h0 he=>by have:=hlow 4 a q Om Om h0 he;omega⟩ hN2.origins hN2.externals hN2.filters
     (fun i a q i1 i5 h0 he=>by have:=hlow i a q i1 i5 h0 he;exact⟨by omega,by omega⟩) hfine hn1 hfl ⟨hp0,hp1⟩ hL Om hk2 (trips_few kN h4 hL Om hk2)
    refine h9.mono ?_;rintro e9 w9 ⟨v9,rfl,hv9,ha9,hd9⟩;have efa:(fun st=>faultAt (rF st) f (l 5) (l 0) kind pp way fN)=fa:=funext HFa.out;rw[efa]at hv9
    exact⟨v9,rfl,hv9,ha9,hd9.os,hd9.tape,hd9.output,hd9.size,fun q hq=>hd9.blk q Om Om⟩)
   have HB2:=hid hb2;have hW2' := hW2;unfold sceneNew.newCells at hW2';have HW2:=hid hW2';have HZ2:=hid hz2;have g6:(w1.alloc (.cells (sceneNew.newCells p l c) 79)).cell? ⟨w.heap.size+1,0,none⟩=some (.int .i64 kind):=keep (show Below w1.heap.size w1 _ from Bl) q6;have g7:(w1.alloc (.cells (sceneNew.newCells p l c) 79)).cell? ⟨w.heap.size+1,1,none⟩=some (.int .i64 (fN:Int)):=keep (show Below w1.heap.size w1 _ from Bl) q7;have g8:(w1.alloc (.cells (sceneNew.newCells p l c) 79)).cell? ⟨w.heap.size+1,2,none⟩=some (.int .i64 pp):=keep (show Below w1.heap.size w1 _ from Bl) q8;have g9:(w1.alloc (.cells (sceneNew.newCells p l c) 79)).cell? ⟨w.heap.size+1,3,none⟩=some (.int .i64 way):=keep (show Below w1.heap.size w1 _ from Bl) q9;unfold sceneNew.newCells at g6 g7 g8 g9;clear hok hf0 hf1 hp0 hp1 hfine hn1 hL hE h12 hgi hxi h4 hk2 hfl hb2 hbw2 hN2 hrow hrow2 hlk hW2 hW2' hlow hz2;go_wp2_with fail;rw[HW2.out];refine HVe.out.mono ?_;rintro e3 w3 ⟨v,rfl,hv,ha3,hb3⟩;obtain⟨hd,n9,x1,n1,y1,x2,n2,y2,x3,n3,y3,pt,hvf⟩:=ver_form hv;subst hvf;have HV3:=hid hv;have HA3:=hid ha3;have hb13:Below w1.heap.size w1 w3:=HB2.out.trans hb3;have HB3:=hid (B1.out.trans (hb13.mono B1.out.size));have hres3:=(hb13.block _ (Array.getElem?_eq_some_iff.1 HRes.out).1).trans HRes.out;have r0:w3.cell? ⟨w.heap.size+2,0,none⟩=some (.bool false):=by simp[World.cell?,hres3]
   have z0:w3.frozen? ⟨w.heap.size+2,0,none⟩=false:=by simp[World.frozen?,hres3]
   have r1:w3.cell? ⟨w.heap.size+2,1,none⟩=some (.int .i64 0):=by simp[World.cell?,hres3]
   have z1:w3.frozen? ⟨w.heap.size+2,1,none⟩=false:=by simp[World.frozen?,hres3]
   have r2:w3.cell? ⟨w.heap.size+2,2,none⟩=some (.slice none 0 0):=by simp[World.cell?,hres3]
   have z2:w3.frozen? ⟨w.heap.size+2,2,none⟩=false:=by simp[World.frozen?,hres3]
   have r3:w3.cell? ⟨w.heap.size+2,3,none⟩=some (.slice none 0 0):=by simp[World.cell?,hres3]
   have z3:w3.frozen? ⟨w.heap.size+2,3,none⟩=false:=by simp[World.frozen?,hres3]
   have r4:w3.cell? ⟨w.heap.size+2,4,none⟩=some (.slice none 0 0):=by simp[World.cell?,hres3]
   have z4:w3.frozen? ⟨w.heap.size+2,4,none⟩=false:=by simp[World.frozen?,hres3]
   have r5:w3.cell? ⟨w.heap.size+2,5,none⟩=some (.int .i64 0):=by simp[World.cell?,hres3]
   have z5:w3.frozen? ⟨w.heap.size+2,5,none⟩=false:=by simp[World.frozen?,hres3]
   clear hv ha3 hb3 hb13 hres3;go_wp2_with fail;refine bodyPost_ret (v:=.tuple #[.agg #[.bool hd,.int .i64 n9,.slice x1 n1 y1,.slice x2 n2 y2,.slice x3 n3 y3,.int .i64 pt],.int .i64 0]) (by simp[results,Tryz.results7,go_sem,r0,r1,r2,r3,r4,r5]) rfl ⟨_,by rw[HC.out],by unfold VerAns;rw[HC.out,if_pos rfl];exact ver_six HV3.out (by have:=HZ2.out;omega) (by have:=HZ2.out;omega),HA3.out,?_⟩;exact six_below HB3.out Om
end Go.Proofs.YtcnoemjeijjnjaaGreat.verFaceI
namespace Go.Proofs.YtcnoemjeijjnjaaGreat.repFault
open Go.RowKit Go.Deep Go base copy names netSem netImpl propSem propImpl routeRow nbSem candSem candImp hopSem intsOwn hopMake hopBetween sceneSem sceneFault sceneNew sceneFace rofSem rofImpl rofFace bestAll stabImpl stabFace walkSem walkImpl soAll satSpec countImpl downsSpec downsTwo
set_option maxHeartbeats 3200000 in
set_option maxRecDepth 16000 in
theorem fault_good (p:Nat→Option Addr) (l c:Nat→Nat) (s:Ss) (g:R) (o e:List Int) (x f:R) (kind pp way k sn pt:Int) (fr:Nat) (da ea va:Option Addr) (dl dc el ec vl vc:Nat) (ds:List Bool) (env vs:List Int) (w:World) (h:NetIs w p l s g o e x f) (hc0:l 0≤c 0) (hc1:l 1≤c 1) (hd:BoolRow w da dl ds) (he:IntRow w ea el env) (hv:IntRow w va vl vs) (hp:propB (netB l s g o e x f) (l 0) kind (fr:Int) pp way=true) (hk:0≤k∧k≤2) (har:arC (netB l s g o e x f) el dl (l 3) (l 1) env=0) (hvs:vsB vs (l 0) vl=true) (hpt:0≤pt∧pt≤15) (hpp:pp = -1∨pp=pt) :
  Calls Tryz.prog 29 #[.agg #[.slice (p 0) (l 0) (c 0),.slice (p 1) (l 1) (c 1),.slice (p 2) (l 2) (c 2),.slice (p 3) (l 3) (c 3),.slice (p 4) (l 4) (c 4),.slice (p 5) (l 5) (c 5)],.agg #[.int .i64 kind,.int .i64 (fr:Int),.int .i64 pp,.int .i64 way],.int .i64 k,.agg #[.bool false,.int .i64 sn,.slice da dl dc,.slice ea el ec,.slice va vl vc,.int .i64 pt]] w fun e' w'=>e' = .returned (.int .i64 0)∧Below w.heap.size w w' := by
 have HA:Hid (∀W:World,Below w.heap.size w W→Calls Tryz.prog 62 #[netV p l c,.slice ea el ec,.slice da dl dc] W fun e' w'=>e' = .returned (.int .i64 0)∧Below W.heap.size W w'):=hid (fun W hb=>by
  have h9:=around_impl p l c s g o e x f ea da el ec dl dc env W (h.below hb) hc0 hc1 (he.below hb) hd.most;rw[har]at h9
  exact h9)
 have HP:Hid (∀W:World,Below w.heap.size w W→Calls Tryz.prog 10 #[netV p l c,.agg #[.int .i64 kind,.int .i64 (fr:Int),.int .i64 pp,.int .i64 way]] W fun e' w'=>e' = .returned (.bool true)∧Below W.heap.size W w'):=hid (fun W hb=>by
  have:=prop_impl p l c s g o e x f kind (fr:Int) pp way W (h.below hb) hc0 hc1;rw[hp]at this
  exact this)
 have HV:Hid (∀W:World,Below w.heap.size w W→Calls Tryz.prog 63 #[.slice va vl vc,.int .i64 (l 0:Int)] W fun e' w'=>e' = .returned (.bool true)∧Below W.heap.size W w'):=hid (fun W hb=>by
  have:=vias_impl va vl vc (l 0) vs W (hv.below hb) h.routers.most;rw[hvs]at this
  exact this)
 have HK:Hid (inB k 0 2=true):=hid (decide_eq_true hk);have HT:Hid (inB pt 0 15=true):=hid (decide_eq_true hpt);have hm0:=h.routers.most;unfold maxLen at hm0;clear h hc0 hc1 hd he hv hp hk har hvs
 have HX:Hid (∀w8:World,Below (((w.alloc (.cells #[.slice (p 0) (l 0) (c 0),.slice (p 1) (l 1) (c 1),.slice (p 2) (l 2) (c 2),.slice (p 3) (l 3) (c 3),.slice (p 4) (l 4) (c 4),.slice (p 5) (l 5) (c 5)] 29)).alloc (.cells #[.int .i64 kind,.int .i64 (fr:Int),.int .i64 pp,.int .i64 way] 32)).alloc (.cells #[.bool false,.int .i64 sn,.slice da dl dc,.slice ea el ec,.slice va vl vc,.int .i64 pt] 37)).heap.size (((w.alloc (.cells #[.slice (p 0) (l 0) (c 0),.slice (p 1) (l 1) (c 1),.slice (p 2) (l 2) (c 2),.slice (p 3) (l 3) (c 3),.slice (p 4) (l 4) (c 4),.slice (p 5) (l 5) (c 5)] 29)).alloc (.cells #[.int .i64 kind,.int .i64 (fr:Int),.int .i64 pp,.int .i64 way] 32)).alloc (.cells #[.bool false,.int .i64 sn,.slice da dl dc,.slice ea el ec,.slice va vl vc,.int .i64 pt] 37)) w8→(World.cell? w8 ⟨w.heap.size,0,none⟩=some (.slice (p 0) (l 0) (c 0))∧World.cell? w8 ⟨w.heap.size,1,none⟩=some (.slice (p 1) (l 1) (c 1))∧World.cell? w8 ⟨w.heap.size,2,none⟩=some (.slice (p 2) (l 2) (c 2))∧World.cell? w8 ⟨w.heap.size,3,none⟩=some (.slice (p 3) (l 3) (c 3))∧World.cell? w8 ⟨w.heap.size,4,none⟩=some (.slice (p 4) (l 4) (c 4))∧World.cell? w8 ⟨w.heap.size,5,none⟩=some (.slice (p 5) (l 5) (c 5))∧World.cell? w8 ⟨w.heap.size+1,0,none⟩=some (.int .i64 kind)∧World.cell? w8 ⟨w.heap.size+1,1,none⟩=some (.int .i64 (fr:Int))∧World.cell? w8 ⟨w.heap.size+1,2,none⟩=some (.int .i64 pp)∧World.cell? w8 ⟨w.heap.size+1,3,none⟩=some (.int .i64 way)∧World.cell? w8 ⟨w.heap.size+1+1,0,none⟩=some (.bool false)∧World.cell? w8 ⟨w.heap.size+1+1,1,none⟩=some (.int .i64 sn)∧World.cell? w8 ⟨w.heap.size+1+1,2,none⟩=some (.slice da dl dc)∧World.cell? w8 ⟨w.heap.size+1+1,3,none⟩=some (.slice ea el ec)∧World.cell? w8 ⟨w.heap.size+1+1,4,none⟩=some (.slice va vl vc)∧World.cell? w8 ⟨w.heap.size+1+1,5,none⟩=some (.int .i64 pt))∧Below w.heap.size w w8∧w.heap.size+1+1<w8.heap.size):=hid (fun w8 hb=>by
  refine⟨⟨keep hb (by simp[go_sem]),keep hb (by simp[go_sem]),keep hb (by simp[go_sem]),keep hb (by simp[go_sem]),keep hb (by simp[go_sem]),keep hb (by simp[go_sem]),keep hb (by simp[go_sem]),keep hb (by simp[go_sem]),keep hb (by simp[go_sem]),keep hb (by simp[go_sem]),keep hb (by simp[go_sem]),keep hb (by simp[go_sem]),keep hb (by simp[go_sem]),keep hb (by simp[go_sem]),keep hb (by simp[go_sem]),keep hb (by simp[go_sem])⟩,(show Below w.heap.size w _ from Bl).trans (hb.mono (by simp;omega)),by have:=hb.size;simp at this;omega⟩)
 unfold netV at HA HP;go_enter Tryz.func29,Tryz.ntmps29;go_wp2_with fail;refine(HA.out _ Bl).mono ?_;rintro e' w1 ⟨rfl,hb1⟩;have H1:=hid hb1;obtain⟨⟨q0,q1,q2,q3,q4,q5,q6,q7,q8,q9,q10,q11,q12,q13,q14,q15⟩,hB,hz⟩:=HX.out _ hb1;have B1:=hid hB;clear hb1 hB HA;go_wp2_with fail;refine(HP.out _ B1.out).mono ?_;rintro e' w2 ⟨rfl,hb2⟩;have H2:=hid (H1.out.trans (hb2.mono H1.out.size));clear q0 q1 q2 q3 q4 q5 q6 q7 q8 q9 q10 q11 q12 q13 q14 q15 hz hb2 H1 B1 HP;obtain⟨⟨q0,q1,q2,q3,q4,q5,q6,q7,q8,q9,q10,q11,q12,q13,q14,q15⟩,hB,hz⟩:=HX.out _ H2.out;have B2:=hid hB;clear hB;go_wp2_with (go_at_call 19;refine(within_impl _ _ _ _).mono ?_;rintro e w' ⟨rfl,rfl⟩;rw[HK.out]);refine(HV.out _ B2.out).mono ?_;rintro e' w3 ⟨rfl,hb3⟩;have H3:=hid (H2.out.trans (hb3.mono H2.out.size));clear q0 q1 q2 q3 q4 q5 q6 q7 q8 q9 q10 q11 q12 q13 q14 q15 hz hb3 H2 B2 HV;obtain⟨⟨q0,q1,q2,q3,q4,q5,q6,q7,q8,q9,q10,q11,q12,q13,q14,q15⟩,hB,hz⟩:=HX.out _ H3.out;have B3:=hid hB;clear hB;rcases hpp with hpp|hpp
 · have d1:(pp != -1)=false:=by simp[hpp]
   clear hpp;go_wp2_with (go_at_call 28;refine(port_impl _ _).mono ?_;rintro e w' ⟨rfl,rfl⟩;rw[HT.out]);go_ret;exact⟨rfl,B3.out⟩
 have d1:(pp != -1)=true:=by simp;omega
 have d2:(pp != pt)=false:=by simp[hpp]
 clear hpp;go_wp2_with (go_at_call 28;refine(port_impl _ _).mono ?_;rintro e w' ⟨rfl,rfl⟩;rw[HT.out]);go_ret;exact⟨rfl,B3.out⟩
end Go.Proofs.YtcnoemjeijjnjaaGreat.repFault
namespace Go.Proofs.YtcnoemjeijjnjaaGreat.drawnMk
open Go Go.RowKit base heldStore drawn drawnLin drawnSrc
variable {P : Program} {ops : Array Oper} {Q : Exit→Act→World→Prop}
theorem region_mk {id:Nat} {a:Act} {w:World} (A:(Nat→Value)→Act) (s:Nat→Option Nat) (φ:Nat→Value→World→Prop) (ω:Nat→Value→Prop) (ψ:(Nat→Value)→World→Prop) (W:World) (n st:Nat) (late:Nat→Bool) (u0:Nat→Value) (ha:a=A u0)
  (hm:P.follows .mixedOrders=true) (hz:ops.size=n) (hup:upC ops=true) (hst:st<n) (hsn:s st=none) (hwaitB:waitB ops st n late=true) (hW:Below W.heap.size W w)
  (hput:∀i,i<n→∀u v,(A u).put (s i) v=A (updO u (s i) v)) (hinj:∀i j,i<n→j<n→i≠st→s i=s j→i=j) (hsome:∀i,i<n→i≠st→s i≠none)
  (hω:∀i v w,late i=false→φ i v w→ω i v)
  (stable:∀i v w w',Below w.heap.size w w'→φ i v w→φ i v w')
  (hψ:∀i,i<n→late i=true→∀u v w,ψ u w→ψ (updO u (s i) v) w)
  (step:∀i,i<n→i≠st→late i=false→∀u w,Below W.heap.size W w→(∀j,Region.waitsFor .any ops i j=true→late j=false→φ j (u ((s j).getD 0)) w)→∃o,ops[i]? = some o∧∀K':Act→World→Prop,Shut (∀v w',Below w.heap.size w w'→φ i v w'→K' ((A u).put (s i) v) w')→if Region.wanted o (yielded ops (A u).tmps)=true then Oper.wp P o (A u) w K' Q else K' ((A u).put o.dst undef) w)
  (stepL:∀i,i<n→i≠st→late i=true→∀u w,(∀j,Region.waitsFor .any ops i j=true→j≠st→ω j (u ((s j).getD 0)))→∃o,ops[i]? = some o∧∀K':Act→World→Prop,Shut (∀v,ω i v→K' ((A u).put (s i) v) w)→if Region.wanted o (yielded ops (A u).tmps)=true then Oper.wp P o (A u) w K' Q else K' ((A u).put o.dst undef) w)
  (store:∀u w,Below W.heap.size W w→(∀j,Region.waitsFor .any ops st j=true→late j=false→φ j (u ((s j).getD 0)) w)→∃o,ops[st]? = some o∧∀K':Act→World→Prop,Shut (∀v w',ψ u w'→K' ((A u).put none v) w')→if Region.wanted o (yielded ops (A u).tmps)=true then Oper.wp P o (A u) w K' Q else K' ((A u).put o.dst undef) w)
  (fin:∀u w,ψ u w→(∀j,j<n→j≠st→ω j (u ((s j).getD 0)))→Q .normal (A u) w) :
  (Code.region id ops true).wp P Q a w:=by
 have hwait:=waitB_spec hwaitB;subst ha;refine wp_region_any hm ?_;rw[hz];refine any_free (Inv:=fun L u w8=>(L st=false→Below W.heap.size W w8∧∀j,j<n→j≠st→late j=false→L j=true→φ j (u ((s j).getD 0)) w8)∧(L st=true→ψ u w8)∧(L st=true→∀j,Region.waitsFor .any ops st j=true→L j=true)∧∀j,j<n→j≠st→L j=true→ω j (u ((s j).getD 0))) hz hup hput ?_ ?_ _ _ _ _ ?_ (by simp) ?_
 · intro i hi L u w8 hLi hwt hI;obtain⟨h1,h2,h3,h4⟩:=hI
   have lt:∀j,Region.waitsFor .any ops i j=true→j<i:=fun j hj=>by
    obtain⟨oj,hoj,e,he,hb,hon⟩:=Region.waitsFor_spec hj;have h5:=upC_spec hup hoj e he hb;rw[hon]at h5;exact h5
   by_cases ei:i=st
   · subst ei;obtain⟨g1,g2⟩:=h1 hLi;obtain⟨o,ho,h⟩:=store u w8 g1 (fun j hj hl=>g2 j (by have:=lt j hj;omega) (by have:=lt j hj;omega) hl (hwt j hj));refine⟨o,ho,fun K' hK=>h K' fun v w' hψ'=>?_⟩
     have:=hK.out v w' ⟨fun hq=>(by rw[come_same]at hq;cases hq),fun _=>(by rw[hsn];exact hψ'),fun _ j hj=>come_old (hwt j hj),fun j hj hne hl=>(by
      rw[come_ne hne]at hl;rw[hsn]
      exact h4 j hj hne hl)⟩
     rw[hsn]at this;exact this
   obtain⟨k,hk⟩:∃k,s i=some k:=by
    cases hh:s i with
    | none=>exact absurd hh (hsome i hi ei)
    | some k=>exact⟨k,rfl⟩
   have ne':∀j,j<n→j≠st→j≠i→((s j).getD 0)≠k:=fun j hj hjs hji e=>by
    cases hh:s j with
    | none=>exact hsome j hj hjs hh
    | some k' =>
     rw[hh]at e;have e2:k' = k:=e;exact hji (hinj j i hj hi hjs (by rw[hh,hk,e2]))
   cases hl:late i with
   | false =>
    have hLs:L st=false:=by
     cases hb:L st with
     | false=>rfl
     | true=>rw[h3 hb i (hwait i hi ei hl)]at hLi;cases hLi
    obtain⟨g1,g2⟩:=h1 hLs;obtain⟨o,ho,h⟩:=step i hi ei hl u w8 g1 (fun j hj hlj=>g2 j (by have:=lt j hj;omega) (fun e=>by rw[e]at hj;rw[hwt st hj]at hLs;cases hLs) hlj (hwt j hj));refine⟨o,ho,fun K' hK=>h K' fun v w' hc hv=>hK.out v w' ⟨fun _=>⟨g1.trans (hc.mono g1.size),fun j hj hne hlj hl'=>?_⟩,fun hq=>(by rw[come_ne (Ne.symm ei),hLs]at hq;cases hq),fun hq=>(by rw[come_ne (Ne.symm ei),hLs]at hq;cases hq),fun j hj hne hl'=>?_⟩⟩
    · by_cases e:j=i
      · subst e;rw[hk];simp only[updO,Option.getD_some];rw[upd_same];exact hv
      rw[come_ne e]at hl';rw[hk];simp only[updO];rw[upd_ne _ _ (ne' j hj hne e)];exact stable j _ _ _ hc (g2 j hj hne hlj hl')
    by_cases e:j=i
    · subst e;rw[hk];simp only[updO,Option.getD_some];rw[upd_same];exact hω j v w' hl hv
    rw[come_ne e]at hl';rw[hk];simp only[updO];rw[upd_ne _ _ (ne' j hj hne e)];exact h4 j hj hne hl'
   | true =>
    obtain⟨o,ho,h⟩:=stepL i hi ei hl u w8 (fun j hj hne=>h4 j (by have:=lt j hj;omega) hne (hwt j hj));refine⟨o,ho,fun K' hK=>h K' fun v hv=>hK.out v w8 ⟨fun hq=>?_,fun hq=>?_,fun hq j hj=>?_,fun j hj hne hl'=>?_⟩⟩
    · rw[come_ne (Ne.symm ei)]at hq;obtain⟨g1,g2⟩:=h1 hq;refine⟨g1,fun j hj hne hlj hl'=>?_⟩;have e:j≠i:=fun e=>by rw[e,hl]at hlj;cases hlj
      rw[come_ne e]at hl';rw[hk];simp only[updO];rw[upd_ne _ _ (ne' j hj hne e)];exact g2 j hj hne hlj hl'
    · rw[come_ne (Ne.symm ei)]at hq;exact hψ i hi hl u v w8 (h2 hq)
    · rw[come_ne (Ne.symm ei)]at hq;exact come_old (h3 hq j hj)
    by_cases e:j=i
    · subst e;rw[hk];simp only[updO,Option.getD_some];rw[upd_same];exact hv
    rw[come_ne e]at hl';rw[hk];simp only[updO];rw[upd_ne _ _ (ne' j hj hne e)];exact h4 j hj hne hl'
 · intro L u w8 hall hI;exact fin u w8 (hI.2.1 (hall st hst)) (fun j hj hne=>hI.2.2.2 j hj hne (hall j hj))
 · simp[falses_replicate]
 have:(fun j=>(Array.replicate n false).getD j false)=fun _=>false:=by funext j;exact getD_replicate_false _ _
 rw[this];exact⟨fun _=>⟨hW.drew,fun j _ _ _ h=>(by cases h)⟩,fun h=>(by cases h),fun h=>(by cases h),fun j _ _ h=>(by cases h)⟩
end Go.Proofs.YtcnoemjeijjnjaaGreat.drawnMk
namespace Go.Proofs.YtcnoemjeijjnjaaGreat.drawnKeep
open Go Go.RowKit base heldStore drawn drawnLin drawnSrc
variable {P : Program} {ops : Array Oper} {Q : Exit→Act→World→Prop}
theorem region_keep {id:Nat} {a:Act} {w:World} (A:(Nat→Value)→Act) (s:Nat→Nat) (φ:Nat→Value→World→Prop) (S:World→Prop) (Rel:World→World→Prop) (n:Nat) (u0:Nat→Value) (ha:a=A u0)
  (hm:P.follows .mixedOrders=true) (hz:ops.size=n) (hup:upC ops=true) (hS:S w.drew)
  (hput:∀i,i<n→∀u v,(A u).put (some (s i)) v=A (upd u (s i) v)) (hinj:∀i j,i<n→j<n→s i=s j→i=j)
  (stable:∀i v w w',Rel w w'→φ i v w→φ i v w')
  (step:∀i,i<n→∀u w,S w→(∀j,Region.waitsFor .any ops i j=true→φ j (u (s j)) w)→∃o,ops[i]? = some o∧∀K':Act→World→Prop,Shut (∀v w',S w'→Rel w w'→φ i v w'→K' ((A u).put (some (s i)) v) w')→if Region.wanted o (yielded ops (A u).tmps)=true then Oper.wp P o (A u) w K' Q else K' ((A u).put o.dst undef) w)
  (fin:∀u w,S w→(∀j,j<n→φ j (u (s j)) w)→Q .normal (A u) w) :
  (Code.region id ops true).wp P Q a w:=by
 subst ha;refine wp_region_any hm ?_;rw[hz];refine any_free (s:=fun i=>some (s i)) (Inv:=fun L u w8=>S w8∧∀j,j<n→L j=true→φ j (u (s j)) w8) hz hup hput ?_ ?_ _ _ _ _ ?_ (by simp) ?_
 · intro i hi L u w8 hLi hwt hI;obtain⟨h1,h4⟩:=hI
   have lt:∀j,Region.waitsFor .any ops i j=true→j<i:=fun j hj=>by
    obtain⟨oj,hoj,e,he,hb,hon⟩:=Region.waitsFor_spec hj;have h5:=upC_spec hup hoj e he hb;rw[hon]at h5;exact h5
   obtain⟨o,ho,h⟩:=step i hi u w8 h1 (fun j hj=>h4 j (by have:=lt j hj;omega) (hwt j hj));refine⟨o,ho,fun K' hK=>h K' fun v w' hs hc hv=>hK.out v w' ⟨hs,fun j hj hl=>?_⟩⟩;simp only[updO];by_cases e:j=i
   · subst e;rw[upd_same];exact hv
   rw[come_ne e]at hl;rw[upd_ne _ _ (fun e'=>e (hinj j i hj hi e'))];exact stable j _ _ _ hc (h4 j hj hl)
 · intro L u w8 hall hI;exact fin u w8 hI.1 (fun j hj=>hI.2 j hj (hall j hj))
 · simp[falses_replicate]
 have:(fun j=>(Array.replicate n false).getD j false)=fun _=>false:=by funext j;exact getD_replicate_false _ _
 rw[this];exact⟨hS,fun j _ h=>(by cases h)⟩
end Go.Proofs.YtcnoemjeijjnjaaGreat.drawnKeep
