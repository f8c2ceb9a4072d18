import Derived.Test.YtcnoemjeijjnjaaGreatPart17
import Derived.BigRegion
set_option linter.unusedVariables false
namespace Go.Proofs.YtcnoemjeijjnjaaGreat.bestRoute
open Go.RowKit Go.Deep base routeRow compare drawn heldStore
def zeroRt : Rt := ⟨0,0,0,false⟩
set_option maxHeartbeats 400000 in
theorem better_spec (x0 x1 x2 y0 y1 y2:Int) (x3 y3:Bool) (w:World) :
  Calls Tryz.prog 143 #[.agg #[.int .i64 x0,.int .i64 x1,.int .i64 x2,.bool x3],.agg #[.int .i64 y0,.int .i64 y1,.int .i64 y2,.bool y3]] w fun e w'=>e=.returned (.bool (better ⟨x0,x1,x2,x3⟩ ⟨y0,y1,y2,y3⟩))∧Below w.heap.size w w' := by
 obtain⟨r,hr⟩:∃r,better ⟨x0,x1,x2,x3⟩ ⟨y0,y1,y2,y3⟩=r:=⟨_,rfl⟩;rw[hr];unfold better at hr;simp only at hr;by_cases h1:x1=y1
 · rw[if_pos h1]at hr;by_cases h2:x2=y2
   · rw[if_pos h2]at hr;have n1:(x1 != y1)=false:=by simp[h1]
     have n2:(x2 != y2)=false:=by simp[h2]
     clear h1 h2;go_enter Tryz.func143,Tryz.ntmps143;go_wp2;go_ret
     first|exact⟨ret_bool hr,Bl⟩|exact⟨rfl,Bl⟩
   rw[if_neg h2]at hr;have n1:(x1 != y1)=false:=by simp[h1]
   have n2:(x2 != y2)=true:=by simp[h2]
   clear h1 h2;go_enter Tryz.func143,Tryz.ntmps143;go_wp2;go_ret
   first|exact⟨ret_bool hr,Bl⟩|exact⟨rfl,Bl⟩
 rw[if_neg h1]at hr;have n1:(x1 != y1)=true:=by simp[h1]
 clear h1;go_enter Tryz.func143,Tryz.ntmps143;go_wp2;go_ret
 first|exact⟨ret_bool hr,Bl⟩|exact⟨rfl,Bl⟩
theorem or_int (a b c:Int) (B:Nat) (w:World) (h0:w.cell? ⟨B,0,none⟩=some (.int .i64 a)) (h1:w.cell? ⟨B,1,none⟩=some (.int .i64 b)) (h2:w.cell? ⟨B,2,none⟩=some (.int .i64 c)) (cap:Nat) :
  Calls Tryz.prog 136 #[.slice (some ⟨B,0,none⟩) 3 cap] w fun e w'=>e=.returned (.int .i64 (if a=0 then (if b=0 then c else b) else a))∧w' = w:=by
 obtain⟨r,hr⟩:∃r,(if a=0 then (if b=0 then c else b) else a)=r:=⟨_,rfl⟩;rw[hr];have HR:=hid hr;clear hr;go_enter Tryz.func136,Tryz.ntmps136;go_wp2;go_loop [8] (fun i=>∃k:Nat,k≤3∧i=.int .i64 k∧(0<k→a=0)∧(1<k→b=0)∧(2<k→c=0)) (fun i=>3 - (intOf i).toNat)
 case atStart=>exact⟨0,by omega,rfl,by omega,by omega,by omega⟩
 obtain⟨k,hk,rfl,ha,hb,hc⟩:=hrel;obtain rfl|rfl|rfl|rfl:k=0∨k=1∨k=2∨k=3:=by omega
 · clear ha hb hc;by_cases e:a=0
   · have n:(a != 0)=false:=by simp[e]
     have E:=hid e;clear e;go_wp2;go_round
     case rel=>exact⟨1,by omega,rfl,fun _=>E.out,by omega,by omega⟩
     case measure=>simp[intOf]
   have n:(a != 0)=true:=by simp[e]
   have E:=hid e;clear e;go_wp2;go_ret;exact⟨ret_int (by rw[←HR.out,if_neg E.out]),rfl⟩
 · have A:=hid (ha Om);clear ha hb hc;by_cases e:b=0
   · have n:(b != 0)=false:=by simp[e]
     have E:=hid e;clear e;go_wp2;go_round
     case rel=>exact⟨2,by omega,rfl,fun _=>A.out,fun _=>E.out,by omega⟩
     case measure=>simp[intOf]
   have n:(b != 0)=true:=by simp[e]
   have E:=hid e;clear e;go_wp2;go_ret;exact⟨ret_int (by rw[←HR.out,if_pos A.out,if_neg E.out]),rfl⟩
 · have A:=hid (ha Om);have B' := hid (hb Om);clear ha hb hc;by_cases e:c=0
   · have n:(c != 0)=false:=by simp[e]
     have E:=hid e;clear e;go_wp2;go_round
     case rel=>exact⟨3,by omega,rfl,fun _=>A.out,fun _=>B'.out,fun _=>E.out⟩
     case measure=>simp[intOf]
   have n:(c != 0)=true:=by simp[e]
   have E:=hid e;clear e;go_wp2;go_ret;exact⟨ret_int (by rw[←HR.out,if_pos A.out,if_pos B'.out]),rfl⟩
 have A:=hid (ha Om);have B' := hid (hb Om);have C:=hid (hc Om);clear ha hb hc;go_wp2;go_ret;exact⟨ret_int (by rw[←HR.out,if_pos A.out,if_pos B'.out,C.out]),rfl⟩
def first (a b : Rt) : Int := if sgn b.pref a.pref=0 then (if sgn a.len b.len=0 then sgn a.via b.via else sgn a.len b.len) else sgn b.pref a.pref
theorem sgn_zero {x y : Int} : sgn x y=0 ↔ x=y := by
 unfold sgn
 split
 · omega
 split<;>omega
theorem sgn_neg {x y : Int} : sgn x y<0 ↔ x<y := by
 unfold sgn
 split
 · omega
 split<;>omega
theorem first_neg (a b:Rt):decide (first a b<0)=better a b:=by
 unfold first better
 by_cases h1:a.pref=b.pref
 · rw[if_pos (sgn_zero.2 h1.symm),if_pos h1];by_cases h2:a.len=b.len
   · rw[if_pos (sgn_zero.2 h2),if_pos h2,decide_eq_decide];exact sgn_neg
   rw[if_neg (fun e=>h2 (sgn_zero.1 e)),if_neg h2,decide_eq_decide];exact sgn_neg
 rw[if_neg (fun e=>h1 (sgn_zero.1 e).symm),if_neg h1,decide_eq_decide];exact sgn_neg
set_option maxHeartbeats 800000 in
set_option maxRecDepth 8000 in
theorem first_impl (x0 x1 x2 y0 y1 y2:Int) (x3 y3:Bool) (w:World) :
  Calls Tryz.prog 114 #[.agg #[.int .i64 x0,.int .i64 x1,.int .i64 x2,.bool x3],.agg #[.int .i64 y0,.int .i64 y1,.int .i64 y2,.bool y3]] w fun e w'=>e=.returned (.int .i64 (first ⟨x0,x1,x2,x3⟩ ⟨y0,y1,y2,y3⟩))∧Below w.heap.size w w' := by
 obtain⟨r,hr⟩:∃r,first ⟨x0,x1,x2,x3⟩ ⟨y0,y1,y2,y3⟩=r:=⟨_,rfl⟩
 rw[hr];unfold first at hr
 simp only at hr;have HR:=hid hr;have H1:=hid (cmp_int y1 x1);have H2:=hid (cmp_int x2 y2);have H3:=hid (cmp_int x0 y0);clear hr;generalize sgn y1 x1=s1 at *;generalize sgn x2 y2=s2 at *;generalize sgn x0 y0=s3 at *;go_enter Tryz.func114,Tryz.ntmps114;go_wp2_with fail;obtain⟨W8,hW8⟩:∃W,((w.alloc (.cells #[.int .i64 x0,.int .i64 x1,.int .i64 x2,.bool x3] 106)).alloc (.cells #[.int .i64 y0,.int .i64 y1,.int .i64 y2,.bool y3] 106))=W:=⟨_,rfl⟩;have HC:Hid (W8.cell? ⟨w.heap.size,0,none⟩=some (.int .i64 x0)∧W8.cell? ⟨w.heap.size,1,none⟩=some (.int .i64 x1)∧W8.cell? ⟨w.heap.size,2,none⟩=some (.int .i64 x2)∧W8.cell? ⟨w.heap.size+1,0,none⟩=some (.int .i64 y0)∧W8.cell? ⟨w.heap.size+1,1,none⟩=some (.int .i64 y1)∧W8.cell? ⟨w.heap.size+1,2,none⟩=some (.int .i64 y2)):=hid (by rw[←hW8];refine⟨?_,?_,?_,?_,?_,?_⟩<;>simp[go_sem]);have HB:Hid (Below w.heap.size w W8):=hid (by rw[←hW8];exact Bl);rw[hW8];clear hW8
 -- region of betterFirst
 refine region_below (fun u=>⟨#[.agg #[.int .i64 x0,.int .i64 x1,.int .i64 x2,.bool x3],.agg #[.int .i64 y0,.int .i64 y1,.int .i64 y2,.bool y3],.pointer (some ⟨w.heap.size,0,none⟩),.pointer (some ⟨w.heap.size+1,0,none⟩),.int .i64 0,u 5,u 6,u 7,u 8,u 9,u 10,u 11,u 12,u 13,u 14,u 15,u 16,u 17,u 18,u 19,u 20,u 21],[]⟩) (fun i=>[5,6,7,8,9,10,11,12,13,14,15,16,17,18,19,20,21].getD i 0) (fun i v w8=>match i with|0=>v=.pointer (some ⟨w.heap.size+1,1,none⟩)|1=>v=.int .i64 y1|2=>v=.pointer (some ⟨w.heap.size,1,none⟩)|3=>v=.int .i64 x1|4=>v=.int .i64 s1|5=>v=.pointer (some ⟨w.heap.size,2,none⟩)|6=>v=.int .i64 x2|7=>v=.pointer (some ⟨w.heap.size+1,2,none⟩)|8=>v=.int .i64 y2|9=>v=.int .i64 s2|10=>v=.pointer (some ⟨w.heap.size,0,none⟩)|11=>v=.int .i64 x0|12=>v=.pointer (some ⟨w.heap.size+1,0,none⟩)|13=>v=.int .i64 y0|14=>v=.int .i64 s3|15=>∃N,v=.slice (some ⟨N,0,none⟩) 3 3∧w8.cell? ⟨N,0,none⟩=some (.int .i64 s1)∧w8.cell? ⟨N,1,none⟩=some (.int .i64 s2)∧w8.cell? ⟨N,2,none⟩=some (.int .i64 s3)|16=>v=.int .i64 r|_=>True) W8 17 (fun k=>match k with|5=>undef|6=>undef|7=>undef|8=>undef|9=>undef|10=>undef|11=>undef|12=>undef|13=>undef|14=>undef|15=>undef|16=>undef|17=>undef|18=>undef|19=>undef|20=>undef|21=>undef|_=>undef) (by rfl) Kr (by rfl) ⟨by kernel_rfl,by kernel_rfl,by kernel_rfl,by decide⟩ Kr Bz ?hput ?hinj ?stable ?step ?last
 case hput =>
  intro i hi u v
  iterate 17 (rcases i with _|i;rfl)
  exact absurd hi Om
 case hinj =>
  intro i j hi hj h;exact slots_inj [5,6,7,8,9,10,11,12,13,14,15,16,17,18,19,20,21] (by decide) hi hj h
 case stable =>
  intro i v w8 w9 hb h
  iterate 17 (rcases i with _|i;(first|exact h|obtain⟨N,e,h0,h1,h2⟩:=h;exact⟨N,e,keep hb h0,keep hb h1,keep hb h2⟩))
  trivial
 case step =>
  intro i hi u w8 S8 hdep
  match i,hi with
  | 0,_ =>
   clear hdep;refine⟨_,rfl,fun K' hK=>?_⟩;go_simp;exact hK.out _ _ Bz rfl
  | 1,_ =>
   have h0:(u 5)=.pointer (some ⟨w.heap.size+1,1,none⟩):=hdep 0 Kr;clear hdep;refine⟨_,rfl,fun K' hK=>?_⟩;have q:=keep S8 HC.out.2.2.2.2.1;simp only[h0]at hK ⊢;go_simp;exact hK.out _ _ Bz rfl
  | 2,_ =>
   clear hdep;refine⟨_,rfl,fun K' hK=>?_⟩;go_simp;exact hK.out _ _ Bz rfl
  | 3,_ =>
   have h2:(u 7)=.pointer (some ⟨w.heap.size,1,none⟩):=hdep 2 Kr;clear hdep;refine⟨_,rfl,fun K' hK=>?_⟩;have q:=keep S8 HC.out.2.1;simp only[h2]at hK ⊢;go_simp;exact hK.out _ _ Bz rfl
  | 4,_ =>
   have h1:(u 6)=.int .i64 y1:=hdep 1 Kr;have h3:(u 8)=.int .i64 x1:=hdep 3 Kr;clear hdep;refine⟨_,rfl,fun K' hK=>?_⟩;simp only[h1,h3]at hK ⊢;go_simp;refine(H1.out _).mono ?_;rintro e w9 ⟨rfl,hw⟩;have hw:=hw.symm;subst hw;exact hK.out _ _ Bz rfl
  | 5,_ =>
   clear hdep;refine⟨_,rfl,fun K' hK=>?_⟩;go_simp;exact hK.out _ _ Bz rfl
  | 6,_ =>
   have h5:(u 10)=.pointer (some ⟨w.heap.size,2,none⟩):=hdep 5 Kr;clear hdep;refine⟨_,rfl,fun K' hK=>?_⟩;have q:=keep S8 HC.out.2.2.1;simp only[h5]at hK ⊢;go_simp;exact hK.out _ _ Bz rfl
  | 7,_ =>
   clear hdep;refine⟨_,rfl,fun K' hK=>?_⟩;go_simp;exact hK.out _ _ Bz rfl
  | 8,_ =>
   have h7:(u 12)=.pointer (some ⟨w.heap.size+1,2,none⟩):=hdep 7 Kr;clear hdep;refine⟨_,rfl,fun K' hK=>?_⟩;have q:=keep S8 HC.out.2.2.2.2.2;simp only[h7]at hK ⊢;go_simp;exact hK.out _ _ Bz rfl
  | 9,_ =>
   have h6:(u 11)=.int .i64 x2:=hdep 6 Kr;have h8:(u 13)=.int .i64 y2:=hdep 8 Kr;clear hdep;refine⟨_,rfl,fun K' hK=>?_⟩;simp only[h6,h8]at hK ⊢;go_simp;refine(H2.out _).mono ?_;rintro e w9 ⟨rfl,hw⟩;have hw:=hw.symm;subst hw;exact hK.out _ _ Bz rfl
  | 10,_ =>
   clear hdep;refine⟨_,rfl,fun K' hK=>?_⟩;go_simp;exact hK.out _ _ Bz rfl
  | 11,_ =>
   have h10:(u 15)=.pointer (some ⟨w.heap.size,0,none⟩):=hdep 10 Kr;clear hdep;refine⟨_,rfl,fun K' hK=>?_⟩;have q:=keep S8 HC.out.1;simp only[h10]at hK ⊢;go_simp;exact hK.out _ _ Bz rfl
  | 12,_ =>
   clear hdep;refine⟨_,rfl,fun K' hK=>?_⟩;go_simp;exact hK.out _ _ Bz rfl
  | 13,_ =>
   have h12:(u 17)=.pointer (some ⟨w.heap.size+1,0,none⟩):=hdep 12 Kr;clear hdep;refine⟨_,rfl,fun K' hK=>?_⟩;have q:=keep S8 HC.out.2.2.2.1;simp only[h12]at hK ⊢;go_simp;exact hK.out _ _ Bz rfl
  | 14,_ =>
   have h11:(u 16)=.int .i64 x0:=hdep 11 Kr;have h13:(u 18)=.int .i64 y0:=hdep 13 Kr;clear hdep;refine⟨_,rfl,fun K' hK=>?_⟩;simp only[h11,h13]at hK ⊢;go_simp;refine(H3.out _).mono ?_;rintro e w9 ⟨rfl,hw⟩;have hw:=hw.symm;subst hw;exact hK.out _ _ Bz rfl
  | 15,_ =>
   have h4:(u 9)=.int .i64 s1:=hdep 4 Kr;have h9:(u 14)=.int .i64 s2:=hdep 9 Kr;have h14:(u 19)=.int .i64 s3:=hdep 14 Kr;clear hdep;refine⟨_,rfl,fun K' hK=>?_⟩;simp only[h4,h9,h14]at hK ⊢;go_simp;exact hK.out _ _ Bl ⟨_,rfl,by simp[go_sem],by simp[go_sem],by simp[go_sem]⟩
  | 16,_ =>
   have h15:∃N,(u 20)=.slice (some ⟨N,0,none⟩) 3 3∧w8.cell? ⟨N,0,none⟩=some (.int .i64 s1)∧w8.cell? ⟨N,1,none⟩=some (.int .i64 s2)∧w8.cell? ⟨N,2,none⟩=some (.int .i64 s3):=hdep 15 Kr;clear hdep;refine⟨_,rfl,fun K' hK=>?_⟩;obtain⟨N,e15,c0,c1,c2⟩:=h15;simp only[e15]at hK ⊢;go_simp;refine(or_int s1 s2 s3 N _ c0 c1 c2 3).mono ?_;rintro e w9 ⟨rfl,hw⟩;have hw:=hw.symm;subst hw;exact hK.out _ _ Bz (by rw[HR.out])
  | i+17,hi=>exact absurd hi Om
 case last =>
  intro u w8 S8 hall;have h16:(u 21)=.int .i64 r:=hall 16 (by decide);clear hall;refine⟨_,rfl,fun K' hK=>?_⟩;simp only[h16]at hK ⊢;go_simp;refine hK.out _ _ ?_;have HS:=hid S8;clear S8 hK K';go_wp2;go_ret;exact⟨rfl,HB.out.trans (HS.out.mono HB.out.size)⟩
 -- end of the region
end Go.Proofs.YtcnoemjeijjnjaaGreat.bestRoute
namespace Go.Proofs.YtcnoemjeijjnjaaGreat.bestFace
open Go.RowKit Go.Deep base routeRow compare bestRoute
set_option maxHeartbeats 1600000 in
set_option maxRecDepth 8000 in
theorem min_impl (a:Option Addr) (len cap:Nat) (g:Rs) (w:World) (hr:RtRow w a len g) (h0:0<len) :
  Calls Tryz.prog 113 #[.slice a len cap,.func (.func 114) #[] #[]] w fun e w'=>e=.returned (rtV (bestTo g (len - 1)))∧Below w.heap.size w w' := by
 have HR:=hid hr;have hmost:=hr.most;unfold maxLen at hmost;clear hr;unfold rtV;have i1:¬(len:Int)<1:=by omega
 obtain⟨b,off,rfl,c0,c1,c2,c3⟩:=HR.out.at0 Om;have hbs:=World.block_lt_of_cell? _ _ c0;simp only at hbs;go_enter Tryz.func113,Tryz.ntmps113;go_wp2;go_loopw [6] (fun i wr=>∃k:Nat,1≤k∧k≤len∧i=.int .i64 k∧Below w.heap.size w wr∧wr.rowIs (w.heap.size+1) 106 4 (rc (bestTo g (k - 1)))∧wr.rowIs w.heap.size 106 4 (rc zeroRt)) (fun i _=>len - (intOf i).toNat)
 case atStart =>
  refine⟨1,by omega,by omega,rfl,Bl,?_,?_⟩
  · have := World.rowIs_alloc (w.alloc (.cells #[.int .i64 0, .int .i64 0, .int .i64 0, .bool false] 106)) #[.int .i64 (g 0).via, .int .i64 (g 0).pref, .int .i64 (g 0).len, .bool (g 0).mark] 106 (rc (g 0)) (fun i hi => by
     match i,hi with
     | 0,_=>rfl
     | 1,_=>rfl
     | 2,_=>rfl
     | 3,_=>rfl
     | i+4,hi=>exact absurd hi (by simp))
    rw[World.size_alloc]at this;exact this
  refine World.rowIs.of_block (World.rowIs_alloc w #[.int .i64 0,.int .i64 0,.int .i64 0,.bool false] 106 (rc zeroRt) (fun i hi=>by
   match i,hi with
   | 0,_=>rfl
   | 1,_=>rfl
   | 2,_=>rfl
   | 3,_=>rfl
   | i+4,hi=>exact absurd hi (by simp))) ?_
  exact Below.block (B:=w.heap.size+1) (Bz.alloc (by first|exact Nat.le_refl _|(rw[World.size_alloc];exact Nat.le_refl _)) _) _ Om
 obtain⟨k,hk1,hk,rfl,hbel,hro,rb⟩:=hrel;have HB:=hid hbel;have HO:=hid hro;have HRB:=hid rb;have hsz:=hbel.size;have hlo:=World.rowIs.lt hro;have hd0:wr.cell? ⟨w.heap.size+1,0,none⟩=some (.int .i64 (bestTo g (k - 1)).via):=World.rowIs.cell hro (i:=0) Om;have hd1:wr.cell? ⟨w.heap.size+1,1,none⟩=some (.int .i64 (bestTo g (k - 1)).pref):=World.rowIs.cell hro (i:=1) Om;have hd2:wr.cell? ⟨w.heap.size+1,2,none⟩=some (.int .i64 (bestTo g (k - 1)).len):=World.rowIs.cell hro (i:=2) Om;have hd3:wr.cell? ⟨w.heap.size+1,3,none⟩=some (.bool (bestTo g (k - 1)).mark):=World.rowIs.cell hro (i:=3) Om;by_cases hlt:k<len
 · obtain⟨b',off',hae,hc0,hc1,hc2,hc3⟩:=HR.out.at4 hlt;injection hae with hae;injection hae with e1 e2;subst e1;subst e2
   replace hc0:=keep hbel hc0
   replace hc1:=keep hbel hc1
   replace hc2:=keep hbel hc2
   replace hc3:=keep hbel hc3
   have HG:Hid (g k=⟨(g k).via,(g k).pref,(g k).len,(g k).mark⟩):=hid rfl;have HY:Hid (bestTo g (k - 1)=⟨(bestTo g (k - 1)).via,(bestTo g (k - 1)).pref,(bestTo g (k - 1)).len,(bestTo g (k - 1)).mark⟩):=hid rfl;clear hbel hro rb;generalize (g k).via=x0 at *;generalize (g k).pref=x1 at *;generalize (g k).len=x2 at *;generalize (g k).mark=x3 at *;generalize (bestTo g (k - 1)).via=y0 at *;generalize (bestTo g (k - 1)).pref=y1 at *;generalize (bestTo g (k - 1)).len=y2 at *;generalize (bestTo g (k - 1)).mark=y3 at *
   have HBY:Hid (better ⟨x0,x1,x2,x3⟩ ⟨y0,y1,y2,y3⟩=true→bestTo g k=⟨x0,x1,x2,x3⟩):=hid (fun h=>by
    obtain⟨k',rfl⟩:∃k',k=k' + 1:=⟨k - 1,by omega⟩;rw[←HG.out]
    exact best_yes (by rw[HG.out];rw[Nat.add_sub_cancel]at HY;rw[HY.out];exact h))
   have HBN:Hid (better ⟨x0,x1,x2,x3⟩ ⟨y0,y1,y2,y3⟩=false→bestTo g k=⟨y0,y1,y2,y3⟩):=hid (fun h=>by
    obtain⟨k',rfl⟩:∃k',k=k' + 1:=⟨k - 1,by omega⟩;rw[Nat.add_sub_cancel]at HY;rw[←HY.out]
    exact best_no (by rw[HG.out,HY.out];exact h))
   have HK:Hid (∀w8:World,Below wr.heap.size wr w8→w8.cell? ⟨b,off+k*4,none⟩=some (.int .i64 x0)∧w8.cell? ⟨b,off+k*4+1,none⟩=some (.int .i64 x1)∧w8.cell? ⟨b,off+k*4+2,none⟩=some (.int .i64 x2)∧w8.cell? ⟨b,off+k*4+3,none⟩=some (.bool x3)∧w8.cell? ⟨w.heap.size+1,0,none⟩=some (.int .i64 y0)∧w8.cell? ⟨w.heap.size+1,1,none⟩=some (.int .i64 y1)∧w8.cell? ⟨w.heap.size+1,2,none⟩=some (.int .i64 y2)∧w8.cell? ⟨w.heap.size+1,3,none⟩=some (.bool y3)∧Below wr.heap.size wr w8) :=
    fun w8 h=>⟨keep h hc0,keep h hc1,keep h hc2,keep h hc3,keep h hd0,keep h hd1,keep h hd2,keep h hd3,h⟩
   clear hc0 hc1 hc2 hc3 hd0 hd1 hd2 hd3;go_wp2_with fail
   go_region_held3 (fun w8=>w8.cell? ⟨b,off+k*4,none⟩=some (.int .i64 x0)∧w8.cell? ⟨b,off+k*4+1,none⟩=some (.int .i64 x1)∧w8.cell? ⟨b,off+k*4+2,none⟩=some (.int .i64 x2)∧w8.cell? ⟨b,off+k*4+3,none⟩=some (.bool x3)∧w8.cell? ⟨w.heap.size+1,0,none⟩=some (.int .i64 y0)∧w8.cell? ⟨w.heap.size+1,1,none⟩=some (.int .i64 y1)∧w8.cell? ⟨w.heap.size+1,2,none⟩=some (.int .i64 y2)∧w8.cell? ⟨w.heap.size+1,3,none⟩=some (.bool y3)∧Below wr.heap.size wr w8)
    (refine HK.out _ (by first|assumption|exact(Below.refl _ wr).drew|exact hb57))
    ((go_at_call 114;refine(first_impl x0 x1 x2 y0 y1 y2 x3 y3 _).mono ?_;rintro e w7 ⟨rfl,hb7⟩;have hb57:Below wr.heap.size wr w7:=((Below.refl _ wr).drew).trans hb7;clear hb7))
   all_goals
    have HB5:=hid hb57;obtain⟨hc0,hc1,hc2,hc3,hd0,hd1,hd2,hd3,-⟩:=HK.out w7 hb57;have hr7:=HO.out.of_block (hb57.block _ hlo);have HR7:=hid hr7;have HRB7:=hid (HRB.out.of_block (HB5.out.block _ (World.rowIs.lt HRB.out)));have z0:=hr7.frozen 0;have z1:=hr7.frozen 1;have z2:=hr7.frozen 2;have z3:=hr7.frozen 3;have hbw:=HB.out.trans (hb57.mono HB.out.size);have HBW:=hid hbw;clear hb57 hr7 hbw
    cases hb:better ⟨x0,x1,x2,x3⟩ ⟨y0,y1,y2,y3⟩ with
    | true =>
     have HT:=hid hb;have hdc:decide (first ⟨x0,x1,x2,x3⟩ ⟨y0,y1,y2,y3⟩ < 0)=true:=by rw[first_neg];exact HT.out
     have hdc2:first ⟨x0,x1,x2,x3⟩ ⟨y0,y1,y2,y3⟩ < 0:=by simpa using hdc
     generalize first ⟨x0,x1,x2,x3⟩ ⟨y0,y1,y2,y3⟩=fr at *
     clear hdc hb;go_wp2;go_roundw
     case rel=>exact⟨k+1,by omega,by omega,by go_num,((((HBW.out.setCell (by first|exact Nat.le_refl _|omega|(simp;done)) _).setCell (by first|exact Nat.le_refl _|omega|(simp;done)) _).setCell (by first|exact Nat.le_refl _|omega|(simp;done)) _).setCell (by first|exact Nat.le_refl _|omega|(simp;done)) _),by
       rw[Nat.add_sub_cancel,HBY.out HT.out];refine World.rowIs.congr ((((HR7.out.set 0 _).set 1 _).set 2 _).set 3 _) fun i hi=>?_
       match i,hi with
       | 0,_=>rfl
       | 1,_=>rfl
       | 2,_=>rfl
       | 3,_=>rfl
       | i+4,hi=>exact absurd hi Om,by
       refine World.rowIs.of_block HRB7.out ?_
       rw[Below.heap_setCell _ _ _ _ (by dsimp only;omega),Below.heap_setCell _ _ _ _ (by dsimp only;omega),Below.heap_setCell _ _ _ _ (by dsimp only;omega),Below.heap_setCell _ _ _ _ (by dsimp only;omega)]⟩
     case measure=>simp[intOf];omega
    | false =>
     have HT:=hid hb;have hdc:decide (first ⟨x0,x1,x2,x3⟩ ⟨y0,y1,y2,y3⟩ < 0)=false:=by rw[first_neg];exact HT.out
     have hdc2:0≤first ⟨x0,x1,x2,x3⟩ ⟨y0,y1,y2,y3⟩:=by simpa using hdc
     generalize first ⟨x0,x1,x2,x3⟩ ⟨y0,y1,y2,y3⟩=fr at *
     clear hdc hb;go_wp2;go_roundw
     case rel=>exact⟨k+1,by omega,by omega,by go_num,HBW.out,by rw[Nat.add_sub_cancel,HBN.out HT.out];rw[HY.out]at HR7;exact HR7.out,HRB7.out⟩
     case measure=>simp[intOf];omega
 have e:k=len:=by omega
 subst e;have q0:wr.cell? ⟨w.heap.size,0,none⟩=some (.int .i64 0):=World.rowIs.cell HRB.out (i:=0) Om;have q1:wr.cell? ⟨w.heap.size,1,none⟩=some (.int .i64 0):=World.rowIs.cell HRB.out (i:=1) Om;have q2:wr.cell? ⟨w.heap.size,2,none⟩=some (.int .i64 0):=World.rowIs.cell HRB.out (i:=2) Om;have q3:wr.cell? ⟨w.heap.size,3,none⟩=some (.bool false):=World.rowIs.cell HRB.out (i:=3) Om;have z0:=HRB.out.frozen 0;have z1:=HRB.out.frozen 1;have z2:=HRB.out.frozen 2;have z3:=HRB.out.frozen 3;clear hbel hro rb c0 c1 c2 c3;go_wp2;refine bodyPost_ret (v:=.agg #[.int .i64 (bestTo g (k - 1)).via,.int .i64 (bestTo g (k - 1)).pref,.int .i64 (bestTo g (k - 1)).len,.bool (bestTo g (k - 1)).mark]) (by first|(rw[results_cell rfl];go_simp;done)|(simp[results,Tryz.results113];go_simp;done)|(simp[results,Tryz.results113,go_sem,q0,q1,q2,q3];done)) rfl ?_;exact⟨rfl,(((HB.out.setCell (Nat.le_refl _) _).setCell (Nat.le_refl _) _).setCell (Nat.le_refl _) _).setCell (Nat.le_refl _) _⟩
end Go.Proofs.YtcnoemjeijjnjaaGreat.bestFace
namespace Go.Proofs.YtcnoemjeijjnjaaGreat.bestAll
open Go.RowKit Go.Deep Go base netSem routeRow nbSem candSem candImp hopSem intsOwn hopMake hopBetween sceneSem sceneOpen sceneBy candSpec sceneCand noRts rtsRow bestFace
theorem noRoutes_impl (n:Nat) (hn:n=1∨n=2∨n=3∨n=4) (w:World) :
  Calls Tryz.prog 64 #[.int .i64 (n:Int)] w fun e w'=>∃N,e=.returned (.slice (some ⟨N,0,none⟩) n n)∧w.heap.size≤N∧RtLaid w' N n n noRs∧Below w.heap.size w w' := by
 have HN:=hid hn;clear hn;go_enter Tryz.func64,Tryz.ntmps64;go_wp2_with fail;refine(routesImpl.none_impl _).mono ?_;rintro e w1 ⟨rfl,hb1⟩;have HB1:=hid hb1;clear hb1;go_wp2_with fail;refine(repeat_impl n HN.out w1.heap.size _ (fun j hj=>?_)).mono ?_
 · match j,hj with
   | 0,_=>simp[go_sem,rc,noRt]
   | 1,_=>simp[go_sem,rc,noRt]
   | 2,_=>simp[go_sem,rc,noRt]
   | 3,_=>simp[go_sem,rc,noRt]
   | j+4,hj=>exact absurd hj Om
 rintro e w2 ⟨N,rfl,hN,hl,hb2⟩;have HB2:=hid (HB1.out.trans (((show Below w1.heap.size w1 _ from Bl).trans (hb2.mono (by simp))).mono HB1.out.size));have hN':w.heap.size≤N:=by have:=HB1.out.size;simp at hN;omega
 have HL:=hid hl;clear hb2 hl hN;go_wp2;go_ret;exact⟨N,rfl,hN',HL.out,HB2.out⟩
variable {sb b B : Nat} {F : Nat→Value} {p : Nat→Option Addr} {l c : Nat→Nat} {g : R} {o e : List Int} {x : R} {ea da : Option Addr} {el ec dl dc : Nat} {env : List Int} {ds : List Bool} {w W W2 : World}
theorem laid_end {N m:Nat} {f:Nat→Value} (h0:Sc sb b B F p l c g o e x ea da el ec dl dc env ds w) (hbw:b<w.heap.size) (h:Sc sb b B F p l c g o e x ea da el ec dl dc env ds W) (hg:w.grownBy W (some b))
  (hN:w.heap.size≤N) (hx:W.rowIs N 106 m f) (h2:W.grownBy W2 (some N)):Sc sb b B F p l c g o e x ea da el ec dl dc env ds W2∧w.grownBy W2 (some b):=by
 have hz:=hg.size;have hg2:w.grownBy W2 (some b):=⟨h2.os.trans hg.os,h2.tape.trans hg.tape,h2.output.trans hg.output,Nat.le_trans hg.size h2.size,fun j hj hne=>(h2.block j Om (fun e=>by injection e with e;omega)).trans (hg.block j hj hne)⟩;have hkb:W2.heap[b]? = W.heap[b]?:=h2.block b Om (fun e=>by injection e with e;omega);refine⟨h0.step hg2 ?_,hg2⟩;rcases h.ready with ⟨h1,h2,h3,h4⟩|⟨V,F',hm⟩
 · exact .inl ⟨h1.of_block hkb,h2,h3,h4⟩
 refine .inr ⟨V,F',hm.row.of_block hkb,hm.net,hm.done,hm.hops,fun p q hp hq=>own_keep (hm.own p q hp hq) fun k hk=>h2.block k (World.ownsRow.lt (hm.own p q hp hq) k hk).2 fun ek=>?_⟩;rcases (hm.own p q hp hq).2 with ⟨e1,_⟩|⟨k',cap,cur,e1,_,hh,_⟩
 · rw[e1]at hk;simp[Value.ownBlock]at hk
 rw[e1]at hk;simp[Value.ownBlock]at hk;injection ek with ek;obtain⟨cur2,hh2,_⟩:=hx;rw[hk,ek,hh2]at hh;injection hh with hh;injection hh with _ hh3 _;exact absurd hh3 (by decide)
def chosen (bs : Rs) (k : Nat) : Rs := fun i=>if i<k then bs i else noRt
def bests (g : R) (nl : Nat) (o e : List Int) (x : R) (nx : Nat) (env : List Int) (ds : List Bool) (rs : Rs) (n : Nat) : Rs := fun r=>bst (lst g nl o e x nx env ds rs n (r : Int) (n+2))
theorem gtrans {w w1 w2:World} {row:Option Nat} (h:w.grownBy w1 row) (h':w1.grownBy w2 row):w.grownBy w2 row :=
 ⟨h'.os.trans h.os,h'.tape.trans h.tape,h'.output.trans h.output,Nat.le_trans h.size h'.size,fun j hj hne=>(h'.block j (Nat.lt_of_lt_of_le hj h.size) hne).trans (h.block j hj hne)⟩
theorem laid_congr {w:World} {N len k:Nat} {g g':Rs} (h:RtLaid w N len k g) (he:∀i,i<k→g i=g' i):RtLaid w N len k g' := by
 obtain⟨f,hf,hc⟩:=h.row;exact⟨f,hf,fun i hi j hj=>by rw[←he i hi];exact hc i hi j hj⟩
theorem laid_block {w w':World} {N len k:Nat} {g:Rs} (h:RtLaid w N len k g) (hb:w'.heap[N]? = w.heap[N]?):RtLaid w' N len k g:=by
 obtain⟨f,hf,hc⟩:=h.row;exact⟨f,hf.of_block hb,hc⟩
theorem laid_set {w:World} {N n k:Nat} {g:Rs} (h:RtLaid w N n n g) (r:Rt) :
  RtLaid ((((w.setCell ⟨N,k*4,none⟩ (.int .i64 r.via)).setCell ⟨N,k*4+1,none⟩ (.int .i64 r.pref)).setCell ⟨N,k*4+2,none⟩ (.int .i64 r.len)).setCell ⟨N,k*4+3,none⟩ (.bool r.mark)) N n n (fun i=>if i=k then r else g i):=by
 obtain⟨f,hf,hc⟩:=h.row;refine⟨_,((((hf.set (k*4) _).set (k*4+1) _).set (k*4+2) _).set (k*4+3) _),fun i hi j hj=>?_⟩;by_cases e:i=k
 · subst e;rw[if_pos rfl]
   match j,hj with
   | 0,_=>rw[if_neg Om,if_neg Om,if_neg Om,if_pos Om];rfl
   | 1,_=>rw[if_neg Om,if_neg Om,if_pos rfl];rfl
   | 2,_=>rw[if_neg Om,if_pos rfl];rfl
   | 3,_=>rw[if_pos rfl];rfl
   | j+4,hj=>exact absurd hj Om
 rw[if_neg Om,if_neg Om,if_neg Om,if_neg Om,if_neg e];exact hc i hi j hj
set_option maxHeartbeats 6400000 in
set_option maxRecDepth 8000 in
theorem best_all (ra:Option Addr) (n cr:Nat) (rs:Rs) (h:Sc sb b B F p l c g o e x ea da el ec dl dc env ds w) (hgd:sceneBy.Good n l g x rs) (hrt:RtRow w ra n rs) (hna:∀a o,ra=some ⟨a,o,none⟩→a≠b) (hn1:1≤n) :
  Calls Tryz.prog 69 #[.pointer (some ⟨sb,0,none⟩),.slice ra n cr] w fun e' w'=>∃N,e' = .returned (.slice (some ⟨N,0,none⟩) n n)∧w.heap.size≤N∧RtLaid w' N n n (bests g (l 1) o e x (l 4) env ds rs n)∧Sc sb b B F p l c g o e x ea da el ec dl dc env ds w'∧w.grownBy w' (some b):=by
 have HS:=hid h;have HGd:=hid hgd;have HT:=hid hrt;have HNa:=hid hna;have hn4:=hgd.few;have hbw:b<w.heap.size:=by rcases h.ready with ⟨h1,_⟩|⟨V,F',hm⟩;exact h1.lt;exact hm.row.lt
 have HRt:Hid (∀W:World,w.grownBy W (some b)→RtRow W ra n rs):=hid (fun W hg=>⟨HT.out.most,fun i hi=>by
  obtain⟨q,off,e,hc⟩:=HT.out.cell i hi
  exact⟨q,off,e,fun j hj=>grown_cell hg q _ _ (HNa.out q off e) (hc j hj)⟩⟩)
 clear h hgd hrt hna;obtain⟨bs,hbs⟩:∃bs,bests g (l 1) o e x (l 4) env ds rs n=bs:=⟨_,rfl⟩;rw[hbs];have HBs:Hid (∀r:Nat,bst (lst g (l 1) o e x (l 4) env ds rs n (r:Int) (n+2))=bs r):=fun r=>by rw[←hbs];rfl
 clear hbs;go_enter Tryz.func69,Tryz.ntmps69;go_wp2_with fail;refine(noRoutes_impl n Om _).mono ?_;rintro e' w1 ⟨N,rfl,hN,hl1,hb1⟩;have HL1:=hid hl1;have HB1:=hid hb1;clear hl1 hb1;have hNb:N≠b:=by omega
 go_wp2_with fail;go_loopw [13] (fun i wr=>∃k:Nat,k≤n∧i=.int .i64 k∧RtLaid wr N n n (chosen bs k)∧Sc sb b B F p l c g o e x ea da el ec dl dc env ds wr∧w.grownBy wr (some b)∧N<wr.heap.size) (fun i _=>n - (intOf i).toNat)
 case atStart =>
  exact⟨0,Nat.zero_le _,rfl,laid_congr HL1.out (fun i hi=>by simp[chosen,noRs]),HS.out.below HB1.out,grown_of_below HB1.out _,by obtain⟨f,hf,-⟩:=HL1.out.row;exact hf.lt⟩
 clear HL1 HB1;obtain⟨k,hk,rfl,hl,hs,hg,hNw⟩:=hrel;have HL:=hid hl;have HSr:=hid hs;have HG:=hid hg;clear hl hs hg;by_cases hlt:k<n
 · go_wp2_with fail;refine(cand_impl sb b B F p l c g o e x ea da el ec dl dc env ds ra n cr rs k wr HSr.out HGd.out (HRt.out wr HG.out) HNa.out hlt).mono ?_;rintro e' w2 ⟨v,rfl,ho,hs2,hg2⟩;have HB2:=hid (HBs.out k);obtain⟨zs,hzs⟩:∃zs,lst g (l 1) o e x (l 4) env ds rs n (k:Int) (n+2)=zs:=⟨_,rfl⟩;rw[hzs]at ho HB2;obtain⟨av,cv,rfl,hrow⟩:=rts_form ho;have HRow:=hid hrow;have hlen:=hrow.most;unfold maxLen at hlen;have HS2:=hid hs2;have HG2:=hid (gtrans HG.out hg2);have HL2:=hid (laid_block HL.out (hg2.block N hNw (fun e=>by injection e with e;exact hNb e)));have hN2:N<w2.heap.size:=Nat.lt_of_lt_of_le hNw hg2.size;clear ho hrow hs2 hg2 hzs;by_cases hz:zs.length=0
   · have HLn : Hid (RtLaid w2 N n n (chosen bs (k + 1))) := laid_congr HL2.out (fun i hi => by
      unfold chosen;by_cases e1:i<k
      · rw[if_pos e1,if_pos Om]
      rw[if_neg e1];by_cases e2:i=k
      · subst e2;rw[if_pos Om,←HB2.out,bst_nil hz]
      rw[if_neg Om])
     have dz:decide ((0:Int)<(zs.length:Int))=false:=decide_eq_false Om;have dz':decide (0<zs.length)=false:=decide_eq_false Om;go_wp2;go_roundw
     case rel=>exact⟨k+1,by omega,by go_num,HLn.out,HS2.out,HG2.out,hN2⟩
     case measure=>simp[intOf];omega
   have hz':0<zs.length:=by omega
   have HB3:Hid (bestTo (rF zs) (zs.length - 1)=bs k):=by show _=_;rw[←HB2.out,bst_some hz']
   go_wp2_with fail;refine(min_impl av zs.length cv (rF zs) _ HRow.out hz').mono ?_;rintro e' w3 ⟨rfl,hb3⟩;rw[HB3.out];have HS3:=hid (HS2.out.below hb3);have HG3:=hid (gtrans HG2.out (grown_of_below hb3 _));have HL3:=hid (HL2.out.below hb3);have hN3:N<w3.heap.size:=Nat.lt_of_lt_of_le hN2 hb3.size;obtain⟨f,hf,-⟩:=HL3.out.row;have HF:=hid hf;have g0:=hf.cell (i:=k*4) Om;have z0:=hf.frozen (k*4);have g1:=hf.cell (i:=k*4+1) Om;have z1:=hf.frozen (k*4+1);have g2:=hf.cell (i:=k*4+2) Om;have z2:=hf.frozen (k*4+2);have g3:=hf.cell (i:=k*4+3) Om;have z3:=hf.frozen (k*4+3);have HLs:=hid (laid_set (k:=k) HL3.out (bs k));clear hf hb3 HS2 HL2 HG2;unfold rtV;obtain⟨r,hr⟩:∃r,bs k=r:=⟨_,rfl⟩;have HR:=hid hr;rw[hr]at HLs ⊢;clear hr;go_wp2
   all_goals
    go_roundw
    case rel =>
     obtain⟨h5,h6⟩:=laid_end HS.out hbw HS3.out HG3.out hN HF.out (grown_set (k:=k*4+3) (v:=.bool r.mark) (grown_set (k:=k*4+2) (v:=.int .i64 r.len) (grown_set (k:=k*4+1) (v:=.int .i64 r.pref) (grown_set (k:=k*4) (v:=.int .i64 r.via) (grown_refl w3 (some N))))))
     exact⟨k+1,by omega,by go_num,laid_congr HLs.out (fun i hi=>by
      unfold chosen;by_cases e1:i=k
      · subst e1;rw[if_pos rfl,if_pos Om,HR.out]
      rw[if_neg e1];by_cases e2:i<k
      · rw[if_pos e2,if_pos Om]
      rw[if_neg e2,if_neg Om]),h5,h6,by simpa using hN3⟩
    case measure=>simp[intOf];omega
 have e1:k=n:=by omega
 subst e1;have HLn:Hid (RtLaid wr N k k bs):=laid_congr HL.out (fun i hi=>by unfold chosen;rw[if_pos hi]);go_wp2;go_ret;exact⟨N,rfl,hN,HLn.out,HSr.out,HG.out⟩
end Go.Proofs.YtcnoemjeijjnjaaGreat.bestAll
namespace Go.Proofs.YtcnoemjeijjnjaaGreat.stabImpl
open Go.RowKit Go.Deep Go base netSem routeRow nbSem candSem candImp hopSem intsOwn hopMake hopBetween sceneSem sceneOpen sceneBy candSpec sceneCand noRts rtsRow bestFace bestAll
def eqR (a b : Rt) : Bool := a.via==b.via&&a.pref==b.pref&&a.len==b.len&&a.mark==b.mark
theorem eqR_iff {a b : Rt} : eqR a b=true ↔ a=b := by
 cases a;cases b;simp[eqR,and_assoc]
theorem eqR_no {a b:Rt} (h:a≠b):eqR a b=false:=by
 cases e:eqR a b with
 | false=>rfl
 | true=>exact absurd (eqR_iff.1 e) h
def sameTo (g g' : Rs) (n : Nat) : Bool := allN (fun i=>eqR (g i) (g' i)) n
theorem same_yes {g g':Rs} {n:Nat} (h:∀i,i<n→g i=g' i):sameTo g g' n=true:=allN_iff.2 fun i hi=>eqR_iff.2 (h i hi)
theorem same_no {g g':Rs} {n k:Nat} (hk:k<n) (h:g k≠g' k):sameTo g g' n=false:=allN_false hk (eqR_no h)
set_option maxHeartbeats 1600000 in
set_option maxRecDepth 8000 in
theorem equal_rts (a a':Option Addr) (n c c':Nat) (g g':Rs) (w:World) (hr:RtRow w a n g) (hr':RtRow w a' n g') :
  Calls Tryz.prog 68 #[.slice a n c,.slice a' n c'] w fun e w'=>e=.returned (.bool (sameTo g g' n))∧Below w.heap.size w w' := by
 have HR:=hid hr;have HR' := hid hr';have hm:=hr.most;unfold maxLen at hm;clear hr hr';have hnn:((n:Int) != (n:Int))=false:=by simp
 go_enter Tryz.func68,Tryz.ntmps68;go_wp2;go_loopw [13] (fun i wr=>∃k:Nat,k≤n∧i=.int .i64 k∧(∀j,j<k→g j=g' j)∧Below w.heap.size w wr) (fun i _=>n - (intOf i).toNat)
 case atStart=>exact⟨0,Nat.zero_le _,rfl,fun j hj=>absurd hj (Nat.not_lt_zero _),Bl⟩
 obtain⟨k,hk,rfl,ha,hbel⟩:=hrel;have HA:=hid ha;have HB:=hid hbel;clear ha;by_cases hlt:k<n
 · obtain⟨b,off,rfl,c0,c1,c2,c3⟩:=(HR.out.below hbel).at4 hlt;obtain⟨b',off',rfl,d0,d1,d2,d3⟩:=(HR'.out.below hbel).at4 hlt;clear hbel
   have HQ:Hid ((g k).via=(g' k).via→(g k).pref=(g' k).pref→(g k).len=(g' k).len→(g k).mark=(g' k).mark→g k=g' k):=fun h1 h2 h3 h4=>by
    revert h1 h2 h3 h4
    cases g k;cases g' k;simp
    intros
    simp_all
   have HN:Hid (∀r r',g k=r→g' k=r'→r≠r'→sameTo g g' n=false):=fun r r' e1 e2 h=>same_no hlt (by rw[e1,e2];exact h);obtain⟨x,hx⟩:∃r,g k=r:=⟨_,rfl⟩;obtain⟨y,hy⟩:∃r,g' k=r:=⟨_,rfl⟩;have HX:=hid hx;have HY:=hid hy;rw[hx]at c0 c1 c2 c3;rw[hy]at d0 d1 d2 d3;clear hx hy HQ;obtain⟨x0,x1,x2,x3⟩:=x;obtain⟨y0,y1,y2,y3⟩:=y;dsimp only at c0 c1 c2 c3 d0 d1 d2 d3;by_cases e0:x0=y0
   · subst e0;by_cases e1:x1=y1
     · subst e1;by_cases e2:x2=y2
       · subst e2;by_cases e3:x3=y3
         · subst e3;go_wp2;go_region
           all_goals
            go_wp2;go_roundw
            case rel =>
             refine⟨k+1,by omega,by go_num,fun j hj=>?_,HB.out.drew⟩;by_cases e:j=k
             · subst e;rw[HX.out,HY.out]
             exact HA.out j Om
            case measure=>simp[intOf];omega
         have f:(x3==y3)=false:=by simp[e3]
         have HF:Hid (sameTo g g' n=false):=HN.out _ _ HX.out HY.out (fun h=>e3 (by injection h));clear e3;go_wp2;go_region
         all_goals
          go_wp2;go_ret;exact⟨ret_bool HF.out.symm,HB.out.drew⟩
       have f:(x2==y2)=false:=by simp[e2]
       have HF:Hid (sameTo g g' n=false):=HN.out _ _ HX.out HY.out (fun h=>e2 (by injection h));clear e2;go_wp2;go_region
       all_goals
        go_wp2;go_ret;exact⟨ret_bool HF.out.symm,HB.out.drew⟩
     have f:(x1==y1)=false:=by simp[e1]
     have HF:Hid (sameTo g g' n=false):=HN.out _ _ HX.out HY.out (fun h=>e1 (by injection h));clear e1;go_wp2;go_region
     all_goals
      go_wp2;go_ret;exact⟨ret_bool HF.out.symm,HB.out.drew⟩
   have f:(x0==y0)=false:=by simp[e0]
   have HF:Hid (sameTo g g' n=false):=HN.out _ _ HX.out HY.out (fun h=>e0 (by injection h));clear e0;go_wp2;go_region
   all_goals
    go_wp2;go_ret;exact⟨ret_bool HF.out.symm,HB.out.drew⟩
 have e:k=n:=by omega
 subst e;clear hbel;go_wp2;go_ret;exact⟨ret_bool (same_yes HA.out).symm,HB.out⟩
set_option maxHeartbeats 1600000 in
theorem stable_impl {sb b B:Nat} {F:Nat→Value} {p:Nat→Option Addr} {l c:Nat→Nat} {g:R} {o e:List Int} {x:R} {ea da:Option Addr} {el ec dl dc:Nat} {env:List Int} {ds:List Bool} {w:World} (ra:Option Addr) (n cr:Nat) (rs:Rs) (h:Sc sb b B F p l c g o e x ea da el ec dl dc env ds w) (hgd:sceneBy.Good n l g x rs) (hrt:RtRow w ra n rs) (hna:∀a o,ra=some ⟨a,o,none⟩→a≠b) (hn1:1≤n) :
  Calls Tryz.prog 33 #[.pointer (some ⟨sb,0,none⟩),.slice ra n cr] w fun e' w'=>e' = .returned (.bool (sameTo (bests g (l 1) o e x (l 4) env ds rs n) rs n))∧Sc sb b B F p l c g o e x ea da el ec dl dc env ds w'∧w.grownBy w' (some b):=by
 have HBest:=hid (best_all ra n cr rs h hgd hrt hna hn1);have HT:=hid hrt;have HNa:=hid hna;have hm:=hrt.most;have HM:=hid hm
 have HRt:Hid (∀W:World,w.grownBy W (some b)→RtRow W ra n rs):=hid (fun W hg=>⟨HT.out.most,fun i hi=>by
  obtain⟨q,off,e,hc⟩:=HT.out.cell i hi
  exact⟨q,off,e,fun j hj=>grown_cell hg q _ _ (HNa.out q off e) (hc j hj)⟩⟩)
 clear h hgd hrt hna hm HT;generalize bests g (l 1) o e x (l 4) env ds rs n=bs at *;go_enter Tryz.func33,Tryz.ntmps33;go_wp2_with fail;refine HBest.out.mono ?_;rintro e' w1 ⟨N,rfl,hN,hl,hs,hg⟩;have HL:=hid hl;have HS:=hid hs;have HG:=hid hg;clear hl hs hg;go_wp2_with fail;refine(equal_rts _ ra n n cr bs rs _ (HL.out.is HM.out) (HRt.out _ HG.out)).mono ?_;rintro e' w2 ⟨rfl,hb2⟩;have HS2:=hid (HS.out.below hb2);have HG2:=hid (gtrans HG.out (grown_of_below hb2 _));clear hb2;go_wp2;go_ret;exact⟨rfl,HS2.out,HG2.out⟩
end Go.Proofs.YtcnoemjeijjnjaaGreat.stabImpl
