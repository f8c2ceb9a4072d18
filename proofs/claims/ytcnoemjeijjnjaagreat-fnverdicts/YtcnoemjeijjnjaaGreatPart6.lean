import Derived.Test.YtcnoemjeijjnjaaGreatNetDraw
import Derived.Maps.AppendAt
import Derived.Deep.RegionHeld3
import Derived.Laws.ResultCell
set_option linter.unusedVariables false
namespace Go.Proofs.YtcnoemjeijjnjaaGreat.netOf
open Go.RowKit Go.Deep Go base names netSem intsOwn source netMath netDraw
theorem fro_of {w w':World} {b x:Nat} (h:w'.heap[b]? = w.heap[b]?):w'.frozen? ⟨b,x,none⟩=w.frozen? ⟨b,x,none⟩:=by simp[World.frozen?,h]
theorem cel_of {w w':World} {b x:Nat} {v:Value} (h:w'.heap[b]? = w.heap[b]?) (hc:w.cell? ⟨b,x,none⟩=some v):w'.cell? ⟨b,x,none⟩=some v:=(World.cell?_of_block (a:=⟨b,x,none⟩) h).trans hc
set_option maxHeartbeats 1600000 in
set_option maxRecDepth 8000 in
theorem netOf_spec (a:Option Addr) (len cap:Nat) (w:World) (hb:Bytes w a len) (hl:len≤1048576) :
  Calls Tryz.prog 4 #[.slice a len cap] w fun e' w'=>∃(p:Nat→Option Addr) (l c:Nat→Nat) (g:R) (o e:List Int) (x f:R),e' = .returned (netV p l c)∧NetIs w' p l sN g o e x f∧netB l sN g o e x f=true∧(l 0≤c 0∧l 1≤c 1)∧Below w.heap.size w w' := by
 have HB:=hid hb;clear hb;go_enter Tryz.func4,Tryz.ntmps4;go_wp2_with fail;have HA:Hid (Below w.heap.size w (w.alloc (.cells #[.slice none 0 0,.slice none 0 0,.slice none 0 0,.slice none 0 0,.slice none 0 0,.slice none 0 0] 29))):=Bl
 refine(source_spec a len cap _ (fun i hi=>by
  obtain⟨bb,off,e,x,hx,hc⟩:=HB.out i hi
  exact⟨bb,off,e,x,hx,keep HA.out hc⟩) hl).mono ?_
 rintro e' w1 ⟨b,rfl,hbe,hb1,hs,hbel⟩;have hbb:w.heap.size<b:=by rw[hbe];simp
 have HS:=hid hs
 have hd:∀i,i<6→w1.cell? ⟨w.heap.size,i,none⟩=some (.slice none 0 0):=fun i hi=>keep hbel (by
  match i,hi with
  | 0,_=>simp[go_sem]
  | 1,_=>simp[go_sem]
  | 2,_=>simp[go_sem]
  | 3,_=>simp[go_sem]
  | 4,_=>simp[go_sem]
  | 5,_=>simp[go_sem]
  | i+6,hi=>exact absurd hi Om)
 have hfz:∀x,w1.frozen? ⟨w.heap.size,x,none⟩=false:=fun x=>(hbel.frozen (p:=⟨w.heap.size,x,none⟩) (by simp)).trans (by simp[go_sem]);have HD:=hid hd;have HFz:=hid hfz;have HB1:=hid (HA.out.trans (hbel.mono (by simp)));have hw1:w.heap.size<w1.heap.size:=by omega
 clear hs hbel hbe hd hfz;go_wp2_with fail;refine(net_src b a len cap _ HS.out).mono ?_;rintro e' w2 ⟨p,l,c,g,o,e,x,f,rfl,hn,hnb,hc0,hc1,-,hg⟩;have hbl:w2.heap[w.heap.size]? = w1.heap[w.heap.size]?:=hg.block _ hw1 (fun e=>by injection e with e;omega);have d0:=cel_of hbl (HD.out 0 Om);have d1:=cel_of hbl (HD.out 1 Om);have d2:=cel_of hbl (HD.out 2 Om);have d3:=cel_of hbl (HD.out 3 Om);have d4:=cel_of hbl (HD.out 4 Om);have d5:=cel_of hbl (HD.out 5 Om);have z0:=(fro_of hbl).trans (HFz.out 0);have z1:=(fro_of hbl).trans (HFz.out 1);have z2:=(fro_of hbl).trans (HFz.out 2);have z3:=(fro_of hbl).trans (HFz.out 3);have z4:=(fro_of hbl).trans (HFz.out 4);have z5:=(fro_of hbl).trans (HFz.out 5);have HB2:Hid (Below w.heap.size w w2):=⟨hg.os.trans HB1.out.os,hg.tape.trans HB1.out.tape,hg.output.trans HB1.out.output,Nat.le_trans HB1.out.size hg.size,fun j hj=>(hg.block j Om (fun e=>by injection e with e;omega)).trans (HB1.out.block j hj)⟩;have HN:=hid hn;have HNb:=hid hnb;have HC:=hid (And.intro hc0 hc1);clear hn hnb hc0 hc1 hg hbl;unfold netV;go_wp2;refine bodyPost_ret (v:=netV p l c) (by simp[results,Tryz.results4,go_sem,d0,d1,d2,d3,d4,d5,netV]) rfl ?_;have hk1:∀(W:World) (o:Nat) (v:Value) (q:Nat),q≠w.heap.size→(W.setCell ⟨w.heap.size,o,none⟩ v).heap[q]? = W.heap[q]?:=fun W o v q hq=>Below.heap_setCell _ _ _ _ (by dsimp only;exact hq);refine⟨p,l,c,g,o,e,x,f,rfl,HN.out _ (fun q h1 h2=>?_),HNb.out,HC.out,?_⟩
 · have hq:q≠w.heap.size:=by omega
   rw[hk1 _ _ _ q hq,hk1 _ _ _ q hq,hk1 _ _ _ q hq,hk1 _ _ _ q hq,hk1 _ _ _ q hq,hk1 _ _ _ q hq]
 exact((((((HB2.out.setCell (Nat.le_refl _) _).setCell (Nat.le_refl _) _).setCell (Nat.le_refl _) _).setCell (Nat.le_refl _) _).setCell (Nat.le_refl _) _).setCell (Nat.le_refl _) _)
end Go.Proofs.YtcnoemjeijjnjaaGreat.netOf
namespace Go.Proofs.YtcnoemjeijjnjaaGreat.envDraw
open Go.RowKit Go.Deep Go base copy netSem netSpec source intsOwn
theorem row_empty (t:TypeId) (s B N:Nat) (w:World) (hB:B≤w.heap.size) (hN:w.heap.size=N):(w.alloc (.cells #[] t)).ownsRow B t s (.slice (some ⟨N,0,none⟩) 0 0) 0 []:=by
 subst hN;exact⟨by simp,.inr ⟨w.heap.size,0,#[],rfl,hB,heap_alloc_new w _,Nat.le_refl _,Nat.zero_le _,by simp,by simp⟩⟩
theorem src_low {w w1:World} {b len cap k B:Nat} {a:Option Addr} (h:Src w b a len cap k) (hb:Below B w w1) (hB:b<B):Src w1 b a len cap k:=by
 obtain⟨h1,⟨n,s,a1,a2,a3,a4,hr⟩,hd⟩:=h;refine⟨h1,⟨n,s,a1,a2,a3,a4,hr.of_block (hb.block b hB)⟩,fun i hi=>?_⟩;obtain⟨bb,off,e,hne,x,hx,hc⟩:=hd i hi;exact⟨bb,off,e,hne,x,hx,by rw[World.cell?_of_block (hb.block bb Om)];exact hc⟩
set_option maxHeartbeats 1600000 in
set_option maxRecDepth 8000 in
theorem env_src (b:Nat) (a:Option Addr) (len cap k0:Nat) (p:Nat→Option Addr) (l c:Nat→Nat) (w:World) (h:Src w b a len cap k0) (hb:b<w.heap.size) (hk0:k0≤1000) (hl:l 3≤100) :
  Calls Tryz.prog 36 #[.pointer (some ⟨b,0,none⟩),netV p l c] w fun e' w'=>∃(v:Value) (zs:List Int),e' = .returned v∧w'.ownsRow w.heap.size 3 1 v zs.length (zs.map (Value.int .i64))∧zs.length=l 3∧(∀z∈zs,0≤z∧z<3)∧Src w' b a len cap (k0+l 3)∧w.grownBy w' (some b):=by
 have HS:=hid h;clear h;obtain⟨i0,hi0,hzz⟩:=Option.map_eq_some_iff.1 Tryz.info_int;simp only[Prod.mk.injEq]at hzz;obtain⟨hz0,hz1,hz2⟩:=hzz;have HI:=hid hi0;have HZ0:=hid hz0;have HZ1:=hid hz1;have HZ2:=hid hz2;clear hi0 hz0 hz1 hz2;unfold netV;go_enter Tryz.func36,Tryz.ntmps36;go_wp2_with fail;obtain⟨w1,hw1⟩:∃w1,(w.alloc (.cells #[.slice (p 0) (l 0) (c 0),.slice (p 1) (l 1) (c 1),.slice (p 2) (l 2) (c 2),.slice (p 3) (l 3) (c 3),.slice (p 4) (l 4) (c 4),.slice (p 5) (l 5) (c 5)] 29))=w1:=⟨_,rfl⟩;have HQ:Hid (w1.cell? ⟨w.heap.size,3,none⟩=some (.slice (p 3) (l 3) (c 3))):=hid (by rw[←hw1];simp[go_sem]);have HSz:Hid (w1.heap.size=w.heap.size+1):=hid (by rw[←hw1];simp);have HB1:Hid (Below w.heap.size w w1):=hid (by rw[←hw1];exact Bl);rw[hw1];clear hw1;go_loopw [6,5] (fun i v wr=>∃zs:List Int,zs.length≤l 3∧i=.int .i64 zs.length∧wr.ownsRow (w.heap.size+1) 3 1 v zs.length (zs.map (Value.int .i64))∧(∀z∈zs,0≤z∧z<3)∧Src wr b a len cap (k0+zs.length)∧wr.cell? ⟨w.heap.size,3,none⟩=some (.slice (p 3) (l 3) (c 3))∧w.heap.size+1≤wr.heap.size∧w.grownBy wr (some b)) (fun i _ _=>l 3 - (intOf i).toNat)
 case atStart =>
  have hB2:Below w.heap.size w (w1.alloc (.cells #[] 3)):=HB1.out.alloc HB1.out.size _;exact⟨[],Nat.zero_le _,rfl,row_empty _ _ _ _ w1 (by rw[HSz.out];exact Nat.le_refl _) HSz.out,fun z hz=>(by cases hz),(HS.out.below hB2),keep ((Below.refl _ w1).alloc (Nat.le_refl _) _) HQ.out,by simp;have:=HSz.out;omega,⟨hB2.os,hB2.tape,hB2.output,hB2.size,fun k hk _=>hB2.block k hk⟩⟩
 obtain⟨zs,hz,rfl,hown,hfac,hsrc,hq,hsz,hgr⟩:=hrel;have HOw:=hid hown;have HFa:=hid hfac;have HSr:=hid hsrc;have HG:=hid hgr;have HQr:=hid hq;clear hown hfac hsrc hgr;by_cases hlt:zs.length<l 3
 · obtain⟨m,hm⟩:∃m,zs.length=m:=⟨_,rfl⟩;have HM:=hid hm;rw[hm]at hz hlt HOw HSr ⊢;clear hm;go_wp2_with fail;refine(next_src b a len cap (k0+m) 3 _ HSr.out Om Om Om).mono ?_;rintro e' w3 ⟨r,rfl,hr0,hr3,hs3,hg3⟩;have HS3:=hid hs3;have HG3:=hid hg3;have hs3z:=hg3.size
   have HO3:Hid (w3.ownsRow (w.heap.size+1) 3 1 u5 m (zs.map (Value.int .i64))):=hid (World.ownsRow.kept HOw.out hg3 (by
    cases hv:u5.ownBlock with
    | none=>exact .inl rfl
    | some g=>exact .inr fun e=>by have:=(World.ownsRow.lt HOw.out g hv).1;injection e with e;omega))
   have HQ3:=hid (hg3.cell HQr.out (fun e=>by injection e with e;simp only at e;omega));clear hs3 hg3 hq
   go_wp2_with (at_builtin
                refine wpList_append_own _ rfl _ _ 25 rfl (w.heap.size+1) 3 i0 (.int .i64 0) 1 8 Tryz.underlying25 HI.out HZ0.out HZ1.out HZ2.out rfl (by decide) _ _ _ rfl (World.ownsRow.alloc HO3.out _) ⟨_,0,none⟩ 1 1 [(Value.int .i64) r] rfl rfl (cell_one_new _ _ _) (fun x hx=>by simp at hx;subst hx;rfl) (by unfold maxLen;omega) Om (by simp;omega) ?_;intro v' w4 hown' hgrow hnil;have HO4:Hid (w4.ownsRow (w.heap.size+1) 3 1 v' (zs++[r]).length ((zs++[r]).map (Value.int .i64))):=hid (by rw[List.length_append,List.map_append,HM.out];exact hown');have HNe:Hid (∀g,u5.ownBlock=some g→w.heap.size+1≤g):=hid (fun g hg=>(World.ownsRow.lt HO3.out g hg).1);have HBl:Hid (Below (w.heap.size+1) w3 w4):=hid (((Below.refl _ w3).alloc Om _).grown hgrow (by simp;omega) (fun g hg=>HNe.out g hg))
                clear hown' hgrow hnil)
   go_roundw
   case rel =>
    have hb4:=HBl.out;refine⟨zs++[r],by rw[List.length_append,HM.out];exact hlt,by rw[List.length_append,HM.out];go_num,HO4.out,(fun z hz=>by rcases List.mem_append.1 hz with hz|hz;exact HFa.out z hz;rw[List.mem_singleton]at hz;rw[hz];exact⟨hr0,hr3⟩),?_,?_,by have:=hb4.size;omega,?_⟩
    · rw[List.length_append,HM.out];exact src_low HS3.out hb4 Om
    · rw[World.cell?_of_block (hb4.block w.heap.size Om)];exact HQ3.out
    have h1:=HG.out;have h3:=HG3.out;exact⟨hb4.os.trans (h3.os.trans h1.os),hb4.tape.trans (h3.tape.trans h1.tape),hb4.output.trans (h3.output.trans h1.output),Nat.le_trans h1.size (Nat.le_trans h3.size hb4.size),fun k hk hne=>(hb4.block k Om).trans ((h3.block k Om hne).trans (h1.block k hk hne))⟩
   case measure=>have:=HM.out;simp[intOf];omega
 have e1:zs.length=l 3:=by omega
 have HE:=hid e1;clear e1;go_wp2_with fail;go_ret;refine⟨_,zs,rfl,?_,HE.out,HFa.out,by have:=HSr.out;rw[HE.out]at this;exact this,HG.out⟩;refine⟨HOw.out.1,?_⟩;rcases HOw.out.2 with h2|⟨g,cp,cur,e,hg,rest⟩
 · exact .inl h2
 exact .inr ⟨g,cp,cur,e,Nat.le_of_succ_le hg,rest⟩
end Go.Proofs.YtcnoemjeijjnjaaGreat.envDraw
namespace Go.Proofs.YtcnoemjeijjnjaaGreat.envOf
open Go.RowKit Go.Deep Go base copy netSem netSpec source intsOwn envDraw
set_option maxHeartbeats 1600000 in
set_option maxRecDepth 8000 in
theorem envOf_spec (a:Option Addr) (len cap:Nat) (p:Nat→Option Addr) (l c:Nat→Nat) (w:World) (h:Bytes w a len) (hlen:len≤1048576) (hl:l 3≤100) :
  Calls Tryz.prog 12 #[.slice a len cap,netV p l c] w fun e' w'=>∃(v:Value) (zs:List Int),e' = .returned v∧w'.ownsRow w.heap.size 3 1 v zs.length (zs.map (Value.int .i64))∧zs.length=l 3∧(∀z∈zs,0≤z∧z<3)∧Below w.heap.size w w' := by
 have HS:Hid (∀W:World,Below w.heap.size w W→Calls Tryz.prog 16 #[.slice a len cap] W fun e w'=>∃b,e=.returned (.pointer (some ⟨b,0,none⟩))∧b=W.heap.size∧b<w'.heap.size∧Src w' b a len cap 0∧Below W.heap.size W w'):=hid (fun W hb=>source_spec a len cap W (fun i hi=>by obtain⟨bb,off,e,x,hx,hc⟩:=h i hi;exact⟨bb,off,e,x,hx,keep hb hc⟩) hlen);have HE:Hid (∀(W:World) (b:Nat),Src W b a len cap 0→b<W.heap.size→Calls Tryz.prog 36 #[.pointer (some ⟨b,0,none⟩),netV p l c] W fun e' w'=>∃(v:Value) (zs:List Int),e' = .returned v∧w'.ownsRow W.heap.size 3 1 v zs.length (zs.map (Value.int .i64))∧zs.length=l 3∧(∀z∈zs,0≤z∧z<3)∧Src w' b a len cap (0+l 3)∧W.grownBy w' (some b)):=hid (fun W b hs hb=>env_src b a len cap 0 p l c W hs hb Om hl);clear h;unfold netV at HE ⊢;go_enter Tryz.func12,Tryz.ntmps12;go_wp2_with fail;obtain⟨W1,hW1⟩:∃W1,(w.alloc (.cells #[.slice (p 0) (l 0) (c 0),.slice (p 1) (l 1) (c 1),.slice (p 2) (l 2) (c 2),.slice (p 3) (l 3) (c 3),.slice (p 4) (l 4) (c 4),.slice (p 5) (l 5) (c 5)] 29))=W1:=⟨_,rfl⟩;have HBx:Hid (Below w.heap.size w W1):=hid (by rw[←hW1];exact Bl);have HSz:Hid (W1.heap.size=w.heap.size+1):=hid (by rw[←hW1];simp)
 have HKc:Hid (∀w8:World,w8.heap[w.heap.size]? = W1.heap[w.heap.size]?→w8.cell? ⟨w.heap.size,0,none⟩=some (.slice (p 0) (l 0) (c 0))∧w8.cell? ⟨w.heap.size,1,none⟩=some (.slice (p 1) (l 1) (c 1))∧w8.cell? ⟨w.heap.size,2,none⟩=some (.slice (p 2) (l 2) (c 2))∧w8.cell? ⟨w.heap.size,3,none⟩=some (.slice (p 3) (l 3) (c 3))∧w8.cell? ⟨w.heap.size,4,none⟩=some (.slice (p 4) (l 4) (c 4))∧w8.cell? ⟨w.heap.size,5,none⟩=some (.slice (p 5) (l 5) (c 5))):=hid (fun w8 hb=>by
  have h:∀o,w8.cell? ⟨w.heap.size,o,none⟩=W1.cell? ⟨w.heap.size,o,none⟩:=fun o=>World.cell?_of_block hb;rw[h,h,h,h,h,h,←hW1]
  exact⟨by simp[go_sem],by simp[go_sem],by simp[go_sem],by simp[go_sem],by simp[go_sem],by simp[go_sem]⟩)
 rw[hW1];clear hW1;obtain⟨q0,q1,q2,q3,q4,q5⟩:=HKc.out W1 rfl;have hk0:W1.drew.heap[w.heap.size]? = W1.heap[w.heap.size]?:=rfl
 go_region_with (first
   | (go_at_call 16;refine(HS.out _ HBx.out.drew).mono ?_;rintro e' w2 ⟨b,rfl,hbe,hbl,hsrc,hb1⟩;have HBe:=hid hbe;clear hbe;have hk1:w2.heap[w.heap.size]? = W1.heap[w.heap.size]?:=hb1.block _ (by have:=HSz.out;show _<W1.heap.size;omega);obtain⟨x0,x1,x2,x3,x4,x5⟩:=HKc.out w2 hk1)
   | (go_at_call 36;refine(HE.out _ b hsrc hbl).mono ?_;rintro e' w3 ⟨v,zs,rfl,hown,hz,hf,-,hg⟩))
 all_goals
  have hb1':Below W1.heap.size W1 w2:=((Below.refl _ W1).drew).trans hb1;have hB1:Below w.heap.size w w2:=HBx.out.trans (hb1'.mono HBx.out.size);have hbw:w.heap.size≤b:=by have:=HBe.out;have:=HSz.out;have e9:W1.drew.heap.size=W1.heap.size:=rfl;omega
  have HOw:=hid hown;have HF:=hid hf;have HZ:=hid hz;have HB1:=hid hB1;have HB2:Hid (Below w.heap.size w w3):=hid (hB1.grown hg hB1.size (fun k hk=>by injection hk with hk;omega));clear hown hf hg hz hb1 hb1' hsrc hk1 hB1;go_wp2;go_ret;refine⟨_,zs,rfl,?_,HZ.out,HF.out,HB2.out⟩;refine⟨HOw.out.1,?_⟩;rcases HOw.out.2 with h2|⟨g,cp,cur,e,hg,rest⟩
  · exact .inl h2
  exact .inr ⟨g,cp,cur,e,Nat.le_trans HB1.out.size hg,rest⟩
end Go.Proofs.YtcnoemjeijjnjaaGreat.envOf
namespace Go.Proofs.YtcnoemjeijjnjaaGreat.nbSem
open Go.RowKit Go.Deep base netSem intsOwn
def nbB (g : R) (nl : Nat) (down : List Bool) (router : Int) (k : Nat) : Bool := decide (0≤linkAt g nl router k)&&!(down[(linkAt g nl router k).toNat]?.getD false)
def nbL (g : R) (nl : Nat) (down : List Bool) (router : Int) (n : Nat) : List Int := ((List.range n).filter (nbB g nl down router)).map (fun k : Nat=>(k : Int))
theorem nbL_succ (g:R) (nl:Nat) (down:List Bool) (router:Int) (k:Nat):nbL g nl down router (k+1)=nbL g nl down router k++(if nbB g nl down router k then [(k:Int)] else []):=by
 unfold nbL;rw[List.range_succ,List.filter_append,List.map_append];by_cases h:nbB g nl down router k=true
 · simp[h]
 simp[h]
theorem nbL_len (g:R) (nl:Nat) (down:List Bool) (router:Int) (n:Nat):(nbL g nl down router n).length≤n:=by
 unfold nbL;rw[List.length_map];exact Nat.le_trans (List.length_filter_le _ _) (by simp)
theorem own_empty (B N:Nat) (w:World) (hB:B≤w.heap.size) (hN:w.heap.size=N):OwnInts B (w.alloc (.cells #[] 3)) (.slice (some ⟨N,0,none⟩) 0 0) []:=by
 subst hN;exact⟨rfl,.inr ⟨w.heap.size,0,#[],rfl,hB,heap_alloc_new w _,Nat.le_refl _,Nat.zero_le _,rfl,rfl⟩⟩
end Go.Proofs.YtcnoemjeijjnjaaGreat.nbSem
namespace Go.Proofs.YtcnoemjeijjnjaaGreat.routeRow
open Go.RowKit Go.Deep base
structure Rt where
 via:Int
 pref:Int
 len:Int
 mark:Bool
def rtV (r : Rt) : Value := .agg #[.int .i64 r.via,.int .i64 r.pref,.int .i64 r.len,.bool r.mark]
def rc (r : Rt) : Nat→Value
 | 0=>.int .i64 r.via
 | 1=>.int .i64 r.pref
 | 2=>.int .i64 r.len
 | _=>.bool r.mark
abbrev Rs := Nat→Rt
structure RtRow (w : World) (a : Option Addr) (len : Nat) (g : Rs) : Prop where
 most:len≤maxLen
 cell:∀i,i<len→∃b off,a=some ⟨b,off,none⟩∧∀j,j<4→w.cell? ⟨b,off+i*4+j,none⟩=some (rc (g i) j)
theorem RtRow.kept {W w1:World} {a:Option Addr} {len:Nat} {g:Rs} (h:RtRow W a len g) (hk:∀b o v,W.cell? ⟨b,o,none⟩=some v→w1.cell? ⟨b,o,none⟩=some v):RtRow w1 a len g :=
 ⟨h.most,fun i hi=>by
  obtain⟨b,off,e,h0⟩:=h.cell i hi
  exact⟨b,off,e,fun j hj=>hk _ _ _ (h0 j hj)⟩⟩
theorem RtRow.below {W w1:World} {a:Option Addr} {len:Nat} {g:Rs} (h:RtRow W a len g) (hb:Below W.heap.size W w1):RtRow w1 a len g:=h.kept fun b o v hv=>keep hb hv
theorem RtRow.at4 {w:World} {a:Option Addr} {len i:Nat} {g:Rs} (h:RtRow w a len g) (hi:i<len):∃b off,a=some ⟨b,off,none⟩∧w.cell? ⟨b,off+i*4,none⟩=some (.int .i64 (g i).via)∧w.cell? ⟨b,off+i*4+1,none⟩=some (.int .i64 (g i).pref)∧w.cell? ⟨b,off+i*4+2,none⟩=some (.int .i64 (g i).len)∧w.cell? ⟨b,off+i*4+3,none⟩=some (.bool (g i).mark):=by
 obtain⟨b,off,e,hc⟩:=h.cell i hi;exact⟨b,off,e,hc 0 Om,hc 1 Om,hc 2 Om,hc 3 Om⟩
theorem RtRow.at0 {w:World} {a:Option Addr} {len:Nat} {g:Rs} (h:RtRow w a len g) (hi:0<len):∃b off,a=some ⟨b,off,none⟩∧w.cell? ⟨b,off,none⟩=some (.int .i64 (g 0).via)∧w.cell? ⟨b,off+1,none⟩=some (.int .i64 (g 0).pref)∧w.cell? ⟨b,off+2,none⟩=some (.int .i64 (g 0).len)∧w.cell? ⟨b,off+3,none⟩=some (.bool (g 0).mark):=by
 obtain⟨b,off,e,h0,h1,h2,h3⟩:=h.at4 hi;exact⟨b,off,e,by simpa using h0,by simpa using h1,by simpa using h2,by simpa using h3⟩
def better (a b : Rt) : Bool := if a.pref=b.pref then (if a.len=b.len then decide (a.via<b.via) else decide (a.len<b.len)) else decide (b.pref<a.pref)
def bestTo (g : Rs) : Nat→Rt
 | 0=>g 0
 | k+1=>if better (g (k+1)) (bestTo g k)=true then g (k+1) else bestTo g k
theorem best_yes {g:Rs} {k:Nat} (h:better (g (k+1)) (bestTo g k)=true):bestTo g (k+1)=g (k+1):=by simp only[bestTo];rw[if_pos h]
theorem best_no {g:Rs} {k:Nat} (h:better (g (k+1)) (bestTo g k)=false):bestTo g (k+1)=bestTo g k:=by simp only[bestTo];rw[if_neg (by rw[h];exact Bool.false_ne_true)]
structure RtLaid (w : World) (N len k : Nat) (g : Rs) : Prop where
 row:∃f,w.rowIs N 106 (len*4) f∧∀i,i<k→∀j,j<4→f (i*4+j)=rc (g i) j
theorem RtLaid.is {w:World} {N len:Nat} {g:Rs} (h:RtLaid w N len len g) (hm:len≤maxLen):RtRow w (some ⟨N,0,none⟩) len g:=by
 obtain⟨f,hf,hc⟩:=h.row;refine⟨hm,fun i hi=>⟨N,0,rfl,fun j hj=>?_⟩⟩;rw[←hc i hi j hj];simpa using hf.cell (i:=i*4+j) Om
theorem RtLaid.below {w w1:World} {N len k:Nat} {g:Rs} (h:RtLaid w N len k g) (hb:Below w.heap.size w w1):RtLaid w1 N len k g:=by
 obtain⟨f,hf,hc⟩:=h.row;exact⟨f,hf.of_block (hb.block _ hf.lt),hc⟩
theorem info_Route : (Tryz.prog.info? 106).map (fun i=>(i.zero,i.size,i.bytes))=some (some (.agg #[.int .i64 0,.int .i64 0,.int .i64 0,.bool false]),4,32):=by kernel_rfl
theorem run_make_Route (n:Nat) (h:n≤1048576) (w:World) :
  (Instr.makeSlice 52 (.int .i64 (n:Int)) (.int .i64 (n:Int))).run Tryz.prog w=.ok (.slice (some ⟨w.heap.size,0,none⟩) n n) (w.alloc (.cells (madeCells #[.int .i64 0,.int .i64 0,.int .i64 0,.bool false] (n*4)) 106)):=by
 obtain⟨i,hi,hzz⟩:=Option.map_eq_some_iff.1 info_Route;simp only[Prod.mk.injEq]at hzz;obtain⟨hz,hs,hb⟩:=hzz;have hr:=run_make (P:=Tryz.prog) w 52 106 i _ Tryz.underlying52 hi hz .i64 .i64 n n Om (Int.le_refl _) (by rw[hb];omega) Om;simp only[Int.toNat_natCast,hs]at hr;exact hr
end Go.Proofs.YtcnoemjeijjnjaaGreat.routeRow
namespace Go.Proofs.YtcnoemjeijjnjaaGreat.candSem
open Go.RowKit Go.Deep base netSem nbSem intsOwn routeRow
def hasAt (z : List Int) (v : Int) : Int := firstAt (fun i=>decide (zAt z i=v)) z.length
def thru (rs : Rs) (router : Int) : Nat→Int→Bool
 | 0,_=>true
 | f+1,k=>if k=router then true else if k<0 then false else if (rs k.toNat).via<0 then false else thru rs router f (rs k.toNat).via
def skipB (x : R) (router fr : Int) (i : Nat) (mark : Bool) : Bool := decide (x i 0≠router)||decide (x i 1≠fr)||(decide (x i 2=1)&&!mark)||(decide (x i 2=2)&&mark)
def stepI (x : R) (router fr : Int) (i : Nat) (r : Rt) : Option Rt :=
 if skipB x router fr i r.mark=true then some r
 else if x i 3=1 then none else if x i 3=2 then some { r with pref:=x i 4 } else some { r with mark:=decide (x i 3=3) }
def impK (x : R) (router fr : Int) (r0 : Rt) : Nat→Option Rt
 | 0=>some r0
 | k+1=>(impK x router fr r0 k).bind (stepI x router fr k)
def noRt : Rt := ⟨-3,0,0,false⟩
theorem impK_none {x:R} {router fr:Int} {r0:Rt} {k m:Nat} (h:impK x router fr r0 k=none) (hkm:k≤m):impK x router fr r0 m=none:=by
 induction m with
 | zero=>rwa [Nat.le_zero.1 hkm]at h
 | succ m ih =>
  by_cases e:k=m+1
  · rwa [←e]
  simp only[impK];rw[ih Om];rfl
theorem impK_via {x:R} {router fr:Int} {r0 r:Rt} {k:Nat} (h:impK x router fr r0 k=some r):r.via=r0.via∧r.len=r0.len:=by
 induction k generalizing r with
 | zero=>simp only[impK,Option.some.injEq]at h;subst h;exact⟨rfl,rfl⟩
 | succ k ih =>
  simp only[impK]at h
  cases e:impK x router fr r0 k with
  | none=>rw[e]at h;cases h
  | some q =>
   rw[e]at h;obtain⟨h1,h2⟩:=ih e;simp only[Option.bind_some,stepI]at h
   split at h
   · injection h with h;subst h;exact⟨h1,h2⟩
   split at h
   · cases h
   split at h
   · injection h with h;subst h;exact⟨h1,h2⟩
   injection h with h;subst h;exact⟨h1,h2⟩
def startI (fr cost : Int) (r : Rt) : Rt := ⟨fr,100,r.len+cost,r.mark⟩
def impR (g : R) (nl : Nat) (x : R) (nx : Nat) (router fr : Int) (r : Rt) : Option Rt := impK x router fr (startI fr (g (linkAt g nl router fr).toNat 2) r) nx
def candOf (g : R) (nl : Nat) (x : R) (nx : Nat) (rs : Rs) (n : Nat) (router j : Int) : List Rt :=
 if (rs j.toNat).via = -3 then [] else if thru rs router (n+1) j=true then [] else match impR g nl x nx router j (rs j.toNat) with
  | some r=>[r]
  | none=>[]
def ownC (o : List Int) (router : Int) : List Rt := if 0≤hasAt o router then [⟨-2,200,0,false⟩] else []
def extC (e env : List Int) (router : Int) : List Rt := if 0≤hasAt e router∧0<zAt env (hasAt e router).toNat then [⟨-1,100,2,decide (zAt env (hasAt e router).toNat=2)⟩] else []
def candL (g : R) (nl : Nat) (o e : List Int) (x : R) (nx : Nat) (env : List Int) (ds : List Bool) (rs : Rs) (n : Nat) (router : Int) : List Rt :=
 ownC o router++extC e env router++(nbL g nl ds router n).flatMap (candOf g nl x nx rs n router)
theorem candOf_len (g:R) (nl:Nat) (x:R) (nx:Nat) (rs:Rs) (n:Nat) (router j:Int):(candOf g nl x nx rs n router j).length≤1:=by
 unfold candOf
 split
 · simp
 split
 · simp
 split<;>simp
theorem flat_len {f:Int→List Rt} (h:∀j,(f j).length≤1) (z:List Int):(z.flatMap f).length≤z.length:=by
 induction z with
 | nil=>simp
 | cons a z ih=>simp only[List.flatMap_cons,List.length_append,List.length_cons];have:=h a;omega
def rcs (r : Rt) : List Value := [.int .i64 r.via,.int .i64 r.pref,.int .i64 r.len,.bool r.mark]
def OwnRts (B : Nat) (w : World) (v : Value) (zs : List Rt) : Prop := w.ownsRow B 106 4 v zs.length (zs.flatMap rcs)
theorem OwnRts.mono {B B':Nat} {w:World} {v:Value} {zs:List Rt} (h:OwnRts B w v zs) (hB:B'≤B):OwnRts B' w v zs:=by
 obtain⟨h1,h2⟩:=h;refine⟨h1,?_⟩;rcases h2 with h|⟨g,cap,cur,e,hb,hr⟩
 · exact .inl h
 exact .inr ⟨g,cap,cur,e,Nat.le_trans hB hb,hr⟩
theorem rts_empty (B N:Nat) (w:World) (hB:B≤w.heap.size) (hN:w.heap.size=N):OwnRts B (w.alloc (.cells #[] 106)) (.slice (some ⟨N,0,none⟩) 0 0) []:=by
 subst hN;exact⟨rfl,.inr ⟨w.heap.size,0,#[],rfl,hB,heap_alloc_new w _,Nat.le_refl _,Nat.zero_le _,rfl,rfl⟩⟩
end Go.Proofs.YtcnoemjeijjnjaaGreat.candSem
namespace Go.Proofs.YtcnoemjeijjnjaaGreat.hopSem
open Go.RowKit Go.Deep Go base netSem routeRow nbSem candSem
def hopO (p q : Nat) : Nat := 9+p*12+q*3
def lkT (g : R) (p q : Int) : Nat→Int
 | 0=>-1
 | k+1=>if hit g p q k=true then (k:Int) else lkT g p q k
def ckT (g : R) (p q : Int) : Nat→Int
 | 0=>0
 | k+1=>if hit g p q k=true then g k 2 else ckT g p q k
def ofPair (x : R) (p q : Int) (i : Nat) : Bool := decide (x i 0=p)&&decide (x i 1=q)
def jsT (x : R) (p q : Int) (k : Nat) : List Nat := (List.range k).filter (ofPair x p q)
theorem js_succ (x:R) (p q:Int) (k:Nat):jsT x p q (k+1)=jsT x p q k++(if ofPair x p q k=true then [k] else []):=by
 unfold jsT;rw[List.range_succ,List.filter_append];by_cases h:ofPair x p q k=true
 · simp[h]
 simp[h]
theorem js_len (x:R) (p q:Int) (k:Nat):(jsT x p q k).length≤k:=by
 unfold jsT;exact Nat.le_trans (List.length_filter_le _ _) (by simp)
theorem js_mem {x:R} {p q:Int} {k i:Nat} (h:i∈jsT x p q k):x i 0=p∧x i 1=q:=by
 unfold jsT at h;have:=(List.mem_filter.1 h).2;unfold ofPair at this;simpa using this
def rowAt (x : R) (js : List Nat) : R := fun i=>x (js[i]?.getD 0)
theorem step_pair {x:R} {p q:Int} {i:Nat} {r:Rt} (h:ofPair x p q i=false):stepI x p q i r=some r:=by
 unfold stepI;rw[if_pos];unfold skipB;unfold ofPair at h;by_cases h0:x i 0=p
 · have h1:¬x i 1=q:=by simpa[h0] using h
   simp[h1]
 simp[h0]
theorem step_at {x y:R} {p q:Int} {i j:Nat} {r:Rt} (h:∀m,x i m=y j m):stepI x p q i r=stepI y p q j r:=by
 unfold stepI skipB;rw[h 0,h 1,h 2,h 3,h 4]
theorem impK_congr {x y:R} {p q:Int} {r:Rt}:∀n,(∀i,i<n→∀m,x i m=y i m)→impK x p q r n=impK y p q r n
 | 0,_=>rfl
 | n+1,h=>by
  have ih:=impK_congr (x:=x) (y:=y) (p:=p) (q:=q) (r:=r) n (fun i hi=>h i Om)
  show (impK x p q r n).bind _=(impK y p q r n).bind _
  rw[ih]
  congr 1
  funext r'
  exact step_at (h n Om)
theorem impK_pair (x:R) (p q:Int) (r:Rt):∀k,impK (rowAt x (jsT x p q k)) p q r (jsT x p q k).length=impK x p q r k
 | 0=>rfl
 | k+1=>by
  have ih:=impK_pair x p q r k
  show _=(impK x p q r k).bind (stepI x p q k)
  rw[js_succ];by_cases h:ofPair x p q k=true
  · rw[if_pos h,List.length_append]
    have hc:impK (rowAt x (jsT x p q k++[k])) p q r (jsT x p q k).length=impK (rowAt x (jsT x p q k)) p q r (jsT x p q k).length :=
     impK_congr _ (fun i hi m=>by unfold rowAt;rw[List.getElem?_append_left hi])
    show (impK (rowAt x (jsT x p q k++[k])) p q r (jsT x p q k).length).bind (stepI (rowAt x (jsT x p q k++[k])) p q (jsT x p q k).length)=_
    rw[hc,ih]
    congr 1
    funext r'
    exact step_at (fun m=>by unfold rowAt;simp)
  rw[if_neg h,List.append_nil,ih]
  cases hq:impK x p q r k with
  | none=>rfl
  | some r'=>exact(step_pair (by simpa using h)).symm
theorem lk_first {g:R} {p q:Int}:∀n,(∀i,i<n→linkAt g i (g i 0) (g i 1)<0)→lkT g p q n=linkAt g n p q∧(0≤lkT g p q n→ckT g p q n=g (lkT g p q n).toNat 2)
 | 0,_=>⟨rfl,fun h=>by simp[lkT]at h⟩
 | n+1,h=>by
  obtain⟨ih1,ih2⟩:=lk_first (g:=g) (p:=p) (q:=q) n (fun i hi=>h i Om);simp only[lkT,ckT];by_cases hh:hit g p q n=true
  · rw[if_pos hh,if_pos hh]
    have hn:∀i,i<n→hit g p q i=false:=fun i hi=>by
     cases e:hit g p q i with
     | false=>rfl
     | true =>
      exfalso
      have h0:0≤linkAt g n (g n 0) (g n 1):=firstAt_spec.2 ⟨i,hi,by
       unfold hit at e hh ⊢;rw[decide_eq_true_eq]at e hh ⊢
       omega⟩
      have:=h n Om;omega
    exact⟨(firstAt_hit Om hh hn).symm,fun _=>by simp⟩
  rw[if_neg hh,if_neg hh];refine⟨?_,ih2⟩;rw[ih1];unfold linkAt;by_cases h0:0≤firstAt (hit g p q) n
  · obtain⟨i,hi,hp⟩:=firstAt_spec.1 h0;have hb:=firstAt_bounds (hit g p q) n;obtain⟨m,hm⟩:∃m:Nat,firstAt (hit g p q) n=(m:Int):=⟨(firstAt (hit g p q) n).toNat,by omega⟩;have hmf:hit g p q m=true∧∀i,i<m→hit g p q i=false:=first_is hm;rw[hm];exact(firstAt_hit Om hmf.1 hmf.2).symm
  have hne:∀i,i<n→hit g p q i=false:=fun i hi=>by
   cases e:hit g p q i with
   | false=>rfl
   | true=>exact absurd (firstAt_spec.2 ⟨i,hi,e⟩) h0
  rw[firstAt_none hne,firstAt_none];intro i hi;by_cases e:i=n
  · subst e;simpa using hh
  exact hne i Om
where
 first_is {g:R} {p q:Int} {n m:Nat} (h:firstAt (hit g p q) n=(m:Int)):hit g p q m=true∧∀i,i<m→hit g p q i=false:=by
  unfold firstAt at h
  cases e:(List.range n).find? (hit g p q) with
  | none=>rw[e]at h;simp only[]at h;omega
  | some k =>
   rw[e]at h;simp only[]at h;have hk:k=m:=by omega
   subst hk;rw[List.find?_range_eq_some]at e;exact⟨e.1,fun i hi=>by simpa using e.2.2 i hi⟩
def impCells (x : R) (js : List Nat) : List Value := js.flatMap fun i=>[.int .i64 (x i 0),.int .i64 (x i 1),.int .i64 (x i 2),.int .i64 (x i 3),.int .i64 (x i 4)]
def OwnImp (B : Nat) (w : World) (v : Value) (x : R) (js : List Nat) : Prop := w.ownsRow B 116 5 v js.length (impCells x js)
theorem imp_at (x:R):∀(js:List Nat) (i j:Nat),i<js.length→j<5→(impCells x js)[i*5+j]? = some (.int .i64 (x (js[i]?.getD 0) j))
 | [],i,j,hi,_=>absurd hi (Nat.not_lt_zero _)
 | k::js,0,j,_,hj=>by
  match j,hj with
  | 0,_=>rfl
  | 1,_=>rfl
  | 2,_=>rfl
  | 3,_=>rfl
  | 4,_=>rfl
  | j+5,hj=>exact absurd hj Om
 | k::js,i+1,j,hi,hj=>by
  have ih:=imp_at x js i j (by simpa using hi) hj;have e:(i+1)*5+j=(i*5+j)+5:=by omega
  rw[e];simpa[impCells] using ih
theorem OwnImp.row {B:Nat} {w:World} {a:Option Addr} {n c:Nat} {x:R} {js:List Nat} (h:OwnImp B w (.slice a n c) x js):n=js.length∧Row 5 w a n (rowAt x js):=by
 obtain⟨h1,h2⟩:=h;rcases h2 with ⟨e,hn⟩|⟨g,cap,cur,e,hb,hh,hn,hm,hs,ht⟩
 · injection e with e1 e2 e3;subst e1 e2;exact⟨hn.symm,⟨Nat.zero_le _,fun i hi=>absurd hi (Nat.not_lt_zero _)⟩⟩
 injection e with e1 e2 e3;subst e1 e2;refine⟨rfl,⟨Nat.le_trans hn hm,fun i hi=>⟨g,0,rfl,fun j hj=>?_⟩⟩⟩
 have h3:cur[i*5+j]? = some (.int .i64 (rowAt x js i j)):=by
  have:(cur.toList.take (js.length*5))[i*5+j]? = (impCells x js)[i*5+j]?:=by rw[ht]
  rw[List.getElem?_take,if_pos Om,imp_at x js i j hi hj]at this;rw[←Array.getElem?_toList,this];rfl
 simp[World.cell?,hh,h3]
end Go.Proofs.YtcnoemjeijjnjaaGreat.hopSem
