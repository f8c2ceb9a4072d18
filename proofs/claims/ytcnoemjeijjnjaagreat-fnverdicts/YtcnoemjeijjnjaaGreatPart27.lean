import Derived.Test.YtcnoemjeijjnjaaGreatDownsTwo
import Derived.Shelf.RegionOpen
import Derived.WalkKit
import Derived.OwnWalkIn
import Derived.TacticsInMore
import Derived.LoopNIn
import Derived.LoopIn
import Derived.BigRegion
import Derived.Deep.RegionWith
set_option linter.unusedVariables false
namespace Go.Proofs.YtcnoemjeijjnjaaGreat.scenesTwo
open Go.RowKit Go.Deep Go.Shelf Go base copy netSem verHold noRts repOne countImpl rangeAt rangeTwo picksTwo drawn downsTwo
open prodB (bAt)
open rofRun (Mk markD leaves_marks Ch)
attribute [local go_sem] Oper.semAt_some
def pairsP (L k ne : Nat) : List (List Bool × List Int) := (downsP L (k+1)).flatMap fun d=>(prodSem.prod (fun _=>[0,1,2]) ne).map fun e=>(d,e)
abbrev It : Type := Nat × (Nat × List Bool) × (Nat × List Int)
def pr (x : It) : List Bool × List Int := (x.2.1.2,x.2.2.2)
def AtS (b L ne k : Nat) (pre : List It) (x : It) (W : World) : Prop :=
 W.heap[x.1]? = some (.cells #[.pointer (some ⟨b,0,none⟩),.slice (some ⟨x.2.2.1,0,none⟩) ne ne,.slice (some ⟨x.2.1.1,0,none⟩) L L] 130 (0,0))∧(x.2.1.2.length=L∧W.rowIs x.2.1.1 4 L (fun i=>.bool (bAt x.2.1.2 i))) ∧
  (x.2.2.2.length=ne∧(∀i,i<ne→zAt x.2.2.2 i∈[0,1,2])∧W.rowIs x.2.2.1 3 ne (fun i=>.int .i64 (zAt x.2.2.2 i)))∧∃suf,pairsP L k ne=pre.map pr++pr x::suf
structure Bs (yb rb b lY L ne : Nat) (p1 p3 : Option Addr) (c1 c3 : Nat) (A : World) : Prop where
 y:Boxed A yb 159 (.func (.yield lY) #[] #[])
 r:Boxed A rb 61 (.pointer (some ⟨b,0,none⟩))
 n1:A.cell? ⟨b,1,none⟩=some (.slice p1 L c1)
 n3:A.cell? ⟨b,3,none⟩=some (.slice p3 ne c3)
variable {yb rb b lY L ne : Nat} {p1 p3 : Option Addr} {c1 c3 : Nat} {A A' : World} {X : Nat→Prop}
theorem Bs.df (h:Bs yb rb b lY L ne p1 p3 c1 c3 A) (hd:Df X A A') (hx:∀q,X q→q≠yb∧q≠rb∧q≠b):Bs yb rb b lY L ne p1 p3 c1 c3 A' :=
 ⟨hd.keeps h.y (fun hq=>(hx _ hq).1 rfl),hd.keeps h.r (fun hq=>(hx _ hq).2.1 rfl),hd.cell h.n1 (fun hq=>(hx _ hq).2.2 rfl),hd.cell h.n3 (fun hq=>(hx _ hq).2.2 rfl)⟩
theorem Bs.kp {N lk vb:Nat} (h:Bs yb rb b lY L ne p1 p3 c1 c3 A) (hd:KpV b (TV lk vb) N A A'):Bs yb rb b lY L ne p1 p3 c1 c3 A' :=
 ⟨hd.keep h.y (nv (by decide) (by decide) (by decide)),hd.keep h.r (nv (by decide) (by decide) (by decide)),hd.net _ _ Om h.n1,hd.net _ _ Om h.n3⟩
theorem row_kp {N q n lk vb:Nat} {t:TypeId} {f:Nat→Value} (h:A.rowIs q t n f) (hd:KpV b (TV lk vb) N A A') (ht:¬TV lk vb q t):A'.rowIs q t n f:=h.of_block (by obtain⟨cs,h1,_⟩:=h;rw[h1];exact hd.keep h1 ht)
theorem kp_df {T:Nat→TypeId→Prop} {N:Nat} {A B C:World} (h:KpV b T N A B) (hd:Df X B C) (hx:∀q,X q→A.heap.size≤q):KpV b T N A C :=
 ⟨hd.os.trans h.os,hd.tape.trans h.tape,hd.output.trans h.output,Nat.le_trans h.size hd.size,fun q hq h1 h2=>(hd.blk q (Nat.lt_of_lt_of_le hq h.size) (fun k=>by have:=hx q k;omega)).trans (h.blk q hq h1 h2),fun q cs t fr hq=>by
  obtain⟨cs',h1⟩:=h.typ q cs t fr hq
  exact⟨cs',hd.keeps h1 (fun k=>by have:=hx q k;have:=(Array.getElem?_eq_some_iff.1 hq).1;omega)⟩,fun o v ho hc=>hd.cell (h.net o v ho hc) (fun k=>by have:=hx _ k;have:=World.block_lt_of_cell? _ _ hc;simp at this;omega)⟩
theorem row_not {q l n:Nat} {t:TypeId} {f:Nat→Value} {r:Loop} (h:A.rowIs q t n f) (hl:A.heap[l]? = some (.loop r)):¬q=l:=fun e=>by
 subst e;obtain⟨cs,h1,_⟩:=h;rw[hl]at h1;cases h1
set_option maxRecDepth 100000 in
set_option maxHeartbeats 6400000 in
theorem scenes_two (lk vb rb kx b L ne k:Nat) (p1 p3:Option Addr) (c1 c3:Nat) (hL:L≤6) (hne:ne≤6) (hk:k≤2) :
  SeqTwo Tryz.prog 81 #[.pointer (some ⟨rb,0,none⟩),.pointer (some ⟨kx,0,none⟩)] (fun x:It=>#[.pointer (some ⟨x.1,0,none⟩)]) (AtS b L ne k) (KpV b (TV lk vb)) (fun _=>False) (fun xs=>xs.map pr=pairsP L k ne)
   (fun W=>Boxed W rb 61 (.pointer (some ⟨b,0,none⟩))∧Boxed W kx 3 (.int .i64 (k:Int))∧W.cell? ⟨b,1,none⟩=some (.slice p1 L c1)∧W.cell? ⟨b,3,none⟩=some (.slice p3 ne c3)) (fun _=>True):=by
 rintro lY J Jx W ⟨hr0,hk0,hn1,hn3⟩ hJ hJx hY h0;obtain⟨W0,hW0⟩:∃W0,W.alloc (.cells #[.func (.yield lY) #[] #[]] 159)=W0:=⟨_,rfl⟩;have hb0:Below W.heap.size W W0:=by rw[←hW0];exact Bl
 have HBs0:Hid (Bs W.heap.size rb b lY L ne p1 p3 c1 c3 W0):=hid ⟨by rw[←hW0];exact Boxed.new _ _ _,(hb0.block _ hr0.lt).trans hr0,keep hb0 hn1,keep hb0 hn3⟩;have HJ0:Hid (J [] W0):=hid (hJ _ _ _ ((Df.of_below hb0).mono (fun _ _ h=>h.elim)) h0);have QR:Hid (W0.cell? ⟨rb,0,none⟩=some (.pointer (some ⟨b,0,none⟩))):=hid HBs0.out.r.cell;have QK:Hid (W0.cell? ⟨kx,0,none⟩=some (.int .i64 (k:Int))):=hid (keep hb0 hk0.cell);have Q1:Hid (W0.cell? ⟨b,1,none⟩=some (.slice p1 L c1)):=hid HBs0.out.n1;have hz0:W0.heap.size=W.heap.size+1:=by rw[←hW0];simp
 have HJ:=hid hJ;have HJx:=hid hJx;have HY:=hid hY;have HW0:=hid hW0;have hbW:b<W.heap.size:=World.block_lt_of_cell? _ _ hn1;have hrW:rb<W.heap.size:=hr0.lt;clear hr0 hk0 hn1 hn3 hJ hJx hY h0 hW0 hb0;refine callsIn_of_wp_marks Tryz.func81 rfl trivial ?_ rfl;simp only[Tryz.ntmps81,List.size_toArray,List.length_cons,List.length_nil,Nat.reduceAdd,Nat.reduceSub,Array.replicate_succ,Array.replicate_zero,List.push_toArray,List.append_toArray,List.nil_append,List.cons_append];gi_wp2;rw[HW0.out];refine wpIn_wide.2 ?_;refine region_below (fun u=>⟨#[.func (.yield lY) #[] #[],.pointer (some ⟨rb,0,none⟩),.pointer (some ⟨kx,0,none⟩),.pointer (some ⟨W.heap.size,0,none⟩),undef,undef,u 6,u 7,u 8,u 9,u 10,u 11,u 12,undef,undef,undef,undef,undef,undef,undef,undef,undef,undef,undef,undef,undef,undef,undef,undef,undef,undef],[]⟩) (fun i=>[6,7,8,9,10,11,12].getD i 0) (fun i v w8=>match i with|0=>v=.pointer (some ⟨b,0,none⟩)|1=>v=.pointer (some ⟨b,0,none⟩)|2=>v=.pointer (some ⟨b,0,none⟩)|3=>v=.pointer (some ⟨b,1,none⟩)|4=>v=.slice p1 L c1|5=>v=.int .i64 (L:Int)|6=>v=.int .i64 (k:Int)|_=>True) W0 7 (fun k=>match k with|6=>undef|7=>undef|8=>undef|9=>undef|10=>undef|11=>undef|12=>undef|_=>undef) (by rfl) Kr (by rfl) ⟨by kernel_rfl,by kernel_rfl,by kernel_rfl,by decide⟩ Kr Bz ?hput ?hinj ?stable ?step ?last
 case hput =>
  intro i hi u v
  iterate 7 (rcases i with _|i;rfl)
  exact absurd hi Om
 case hinj =>
  intro i j hi hj h;exact slots_inj [6,7,8,9,10,11,12] (by decide) hi hj h
 case stable =>
  intro i v w8 w9 hb h
  iterate 7 (rcases i with _|i;exact h)
  trivial
 case step =>
  intro i hi u w8 S8 hdep
  match i,hi with
  | 0,_ =>
   clear hdep;refine⟨_,rfl,fun K' hK=>?_⟩;have q9:=keep S8 QR.out;go_simp;exact hK.out _ _ Bz rfl
  | 1,_ =>
   have h0:(u 6)=.pointer (some ⟨b,0,none⟩):=hdep 0 Kr;clear hdep;refine⟨_,rfl,fun K' hK=>?_⟩;simp only[h0]at hK ⊢;go_simp;exact hK.out _ _ Bz rfl
  | 2,_ =>
   have h1:(u 7)=.pointer (some ⟨b,0,none⟩):=hdep 1 Kr;clear hdep;refine⟨_,rfl,fun K' hK=>?_⟩;simp only[h1]at hK ⊢;go_simp;exact hK.out _ _ Bz rfl
  | 3,_ =>
   have h2:(u 8)=.pointer (some ⟨b,0,none⟩):=hdep 2 Kr;clear hdep;refine⟨_,rfl,fun K' hK=>?_⟩;simp only[h2]at hK ⊢;go_simp;exact hK.out _ _ Bz rfl
  | 4,_ =>
   have h3:(u 9)=.pointer (some ⟨b,1,none⟩):=hdep 3 Kr;clear hdep;refine⟨_,rfl,fun K' hK=>?_⟩;have q9:=keep S8 Q1.out;simp only[h3]at hK ⊢;go_simp;exact hK.out _ _ Bz rfl
  | 5,_ =>
   have h4:(u 10)=.slice p1 L c1:=hdep 4 Kr;clear hdep;refine⟨_,rfl,fun K' hK=>?_⟩;simp only[h4]at hK ⊢;go_simp;exact hK.out _ _ Bz rfl
  | 6,_ =>
   clear hdep;refine⟨_,rfl,fun K' hK=>?_⟩;have q9:=keep S8 QK.out;go_simp;exact hK.out _ _ Bz rfl
  | i+7,hi=>exact absurd hi Om
 case last =>
  intro u w8 S8 hall;have h5:(u 11)=.int .i64 (L:Int):=hall 5 (by decide);have h6:(u 12)=.int .i64 (k:Int):=hall 6 (by decide);clear hall;refine⟨_,rfl,fun K' hK=>?_⟩;simp only[h5,h6]at hK ⊢;go_simp;refine(downs_impl L k w8).mono ?_;rintro e9 w9 ⟨rfl,hw9⟩;refine hK.out _ _ ?_;obtain⟨Lb,hLb⟩:∃Lb,w8.heap.size=Lb:=⟨_,rfl⟩
  have HKb:Hid (Boxed w9 (Lb+1) 3 (.int .i64 (k:Int))∧Boxed w9 Lb 3 (.int .i64 (L:Int))):=hid (by
   rw[hw9,←hLb];refine⟨?_,(Boxed.new _ _ _).alloc _⟩;have:=Boxed.new (w8.alloc (.cells #[.int .i64 (L:Int)] 3)) 3 (.int .i64 (k:Int))
   rwa [World.size_alloc]at this)
  have hb9:Below W0.heap.size W0 w9:=by rw[hw9];exact(S8.alloc S8.size _).alloc (by have:=S8.size;simp;omega) _
  have hz9:Lb+1<w9.heap.size:=HKb.out.1.lt;have HBs9:=hid (HBs0.out.df (Df.of_below hb9) (fun q hq=>hq.elim));have HJ9:=hid (HJ.out _ _ _ ((Df.of_below hb9).mono (fun _ _ h=>h.elim)) HJ0.out);have hzz:W.heap.size<w9.heap.size:=by have:=hb9.size;omega
  rw[hLb];clear hK K' S8 hb9 hw9 hLb HBs0 HJ0 QR QK Q1;gi_wp2
  refine range_out (downs_two b lk vb (Lb+1) Lb L k hL hk) rfl (enters_of Tryz.func121 Kr rfl) (fun q hq=>hq.elim) (fun r=>?hstart) KpV.trans (fun W' ob ob' h hc=>KpV.put ob' h hc Om) (fun _=>rfl)
   (fun pre A=>(∃acc,J acc A∧acc.map pr=(pre.map (·.2)).flatMap fun d=>(prodSem.prod (fun _=>[0,1,2]) ne).map fun e=>(d,e))∧Bs W.heap.size rb b lY L ne p1 p3 c1 c3 A) (fun c A=>c=.ret∧Jx A) ?hI ?hIx ?hAt (fun _ _ _ _ _=>trivial) ⟨⟨[],HJ9.out,rfl⟩,HBs9.out⟩
   (fun x a' A=>∃db,a' = ⟨#[.func (.yield lY) #[] #[],.pointer (some ⟨rb,0,none⟩),.pointer (some ⟨kx,0,none⟩),.pointer (some ⟨W.heap.size,0,none⟩),.pointer (some ⟨db,0,none⟩),undef,u 6,u 7,u 8,u 9,u 10,.int .i64 (L:Int),.int .i64 (k:Int),.func (.func 121) #[] #[.pointer (some ⟨Lb+1,0,none⟩),.pointer (some ⟨Lb,0,none⟩)],.slice (some ⟨x.1,0,none⟩) L L,undef,undef,undef,undef,undef,undef,undef,undef,undef,undef,undef,undef,undef,undef,undef,undef],[]⟩∧Boxed A db 35 (.slice (some ⟨x.1,0,none⟩) L L)∧w9.heap.size+1<db) ?hAx (fun _ _ h=>KpV.df h) ?hassign ?hbody ?hdone ?hstop
  case hstart =>
   have hb:Below w9.heap.size w9 ((w9.alloc (.deferred (some []))).alloc (.loop r)):=Bl;exact⟨(hb.block _ HKb.out.1.lt).trans HKb.out.1,(hb.block _ HKb.out.2.lt).trans HKb.out.2⟩
  case hI =>
   rintro pre A B hd ⟨⟨acc,h1,h2⟩,h3⟩;refine⟨⟨acc,HJ.out _ _ _ (hd.mono fun q _ h=>h.elim .inl fun h=>.inr ⟨by omega,h.2⟩) h1,h2⟩,h3.df hd (fun q hq=>?_)⟩;have hq:w9.heap.size≤q:=hq.elim (fun h=>h.elim) (fun h=>h.1);exact⟨by omega,by omega,by omega⟩
  case hIx =>
   rintro c A B hd ⟨h1,h2⟩;exact⟨h1,HJx.out _ _ (hd.mono fun q _ h=>h.elim .inl fun h=>.inr ⟨by omega,h.2⟩) h2⟩
  case hAt =>
   rintro pre x A B ⟨r9,hr9⟩ hd ⟨⟨h2,h4⟩,h5⟩;refine⟨⟨h2,h4.of_block (hd.blk _ h4.lt (row_not h4 hr9))⟩,h5⟩
  case hAx =>
   rintro x a A B hd ⟨db,h1,h2,h3⟩;exact⟨db,h1,hd.keeps h2 Om,h3⟩
  case hassign =>
   intro x W' K hlt hK;gi_wp2;refine hK _ _ (Df.alloc _ _) ⟨W'.heap.size,rfl,Boxed.new _ _ _,hlt⟩
  case hdone =>
   rintro xs A' hS ⟨⟨acc,h1,h2⟩,h3⟩ - hD;have HJe:=hid h1;have HSe:Hid (acc.map pr=pairsP L k ne):=hid (by rw[h2,hS];rfl);have HDe:=hid hD;clear h1 h2 h3 hD hS;gi_wp2;refine leaves_marks (B:=W.heap.size) [w9.heap.size] A' ⟨by simp,fun D hD=>by simp only[List.mem_singleton]at hD;subst hD;exact⟨by omega,HDe.out⟩⟩ (fun W'' hc=>⟨_,results_none rfl _ _ _,⟨_,rfl⟩,.inl ⟨acc,HSe.out,HJ.out _ _ _ ⟨hc.os,hc.tape,hc.output,hc.size,fun q hq hx=>hc.blk q hq (fun hm=>hx (.inr (by simp only[List.mem_singleton]at hm;subst hm;exact⟨by omega,soft_of HDe.out rfl⟩)))⟩ HJe.out,trivial⟩⟩)
  case hstop =>
   rintro c A' ⟨rfl,h1⟩ hD;have HJe:=hid h1;have HDe:=hid hD;clear h1 hD;gi_wp2;refine leaves_marks (B:=W.heap.size) [w9.heap.size] A' ⟨by simp,fun D hD=>by simp only[List.mem_singleton]at hD;subst hD;exact⟨by omega,HDe.out⟩⟩ (fun W'' hc=>⟨_,results_none rfl _ _ _,⟨_,rfl⟩,.inr (HJx.out _ _ ⟨hc.os,hc.tape,hc.output,hc.size,fun q hq hx=>hc.blk q hq (fun hm=>hx (.inr (by simp only[List.mem_singleton]at hm;subst hm;exact⟨by omega,noc_of HDe.out rfl⟩)))⟩ HJe.out)⟩)
  case hbody =>
   rintro pre ⟨DB,d⟩ a9 A9 ⟨⟨acc0,h1,h2⟩,h3⟩ ⟨⟨hlen,hrow⟩,suf,hsuf⟩ ⟨db,rfl,hdb,hdl⟩ hD ⟨r9,hr9⟩;dsimp only at hlen hrow hsuf hdb;have HJa:=hid h1;have HAc:=hid h2;have HBs:=hid h3;have HDb:=hid hdb;have HD9:=hid hD;have HR9:=hid hr9;have HRow:=hid hrow;have HLen:=hid hlen;have HSuf:=hid hsuf;have q1:=h3.r.cell;have q3:=h3.n3;have HR9' := hid hr9;have HD9' := hid hD;clear h1 h2 h3 hdb hD hr9 hrow hlen hsuf;gi_wp2;refine⟨trivial,(CallsIn.inRound _ (callsIn_wide.2 (ann_impl ne hne A9))).mono ?_⟩;rintro e8 B0 ⟨Bx,RB,V,rfl,hrd,hbx,hb8⟩;have HRd:=hid hrd;have HBx:=hid hbx;have hd8:Df (fun _=>False) A9 B0:=Df.of_below hb8;have HJb:=hid (HJ.out _ _ _ (hd8.mono (fun _ _ h=>h.elim)) HJa.out);have HBsb:=hid (HBs.out.df hd8 (fun q hq=>hq.elim));have HDbb:Hid (Boxed B0 db 35 (.slice (some ⟨DB,0,none⟩) L L)):=hid (hd8.keeps HDb.out (fun h=>h));have HRowb:=hid (HRow.out.of_block (hb8.block _ HRow.out.lt));have HRb:Hid (B0.heap[w9.heap.size+1]? = some (.loop r9)):=hid (hd8.keeps HR9.out (fun h=>h));have HDd:Hid (B0.heap[w9.heap.size]? = some (.deferred (some []))):=hid (hd8.keeps HD9.out (fun h=>h));have HKp0:Hid (KpV b (TV lk vb) W.heap.size A9 B0):=hid (KpV.below hb8);have hlB:w9.heap.size+1<B0.heap.size:=(Array.getElem?_eq_some_iff.1 HRb.out).1;have hbB:=hb8.size;have hdbB:db<B0.heap.size:=HDbb.out.lt;have hDBB:DB<B0.heap.size:=HRowb.out.lt;clear hrd hbx hb8 hd8 q1 q3 HJa HBs HDb HRow HR9 HD9;gi_wp2
   refine range_in (picks_two (B0.heap.size+1) A9.heap.size B0.heap.size RB Bx ne V (fun _=>[0,1,2]) Om (KpV b (TV lk vb)) (KpV.int (fun _=>(nv (by decide) (by decide) (by decide))) (fun _=>(nv (by decide) (by decide) (by decide))) (fun _=>(nv (by decide) (by decide) (by decide))))) HRb.out rfl (enters_of Tryz.func148 Kr rfl) (fun q hq=>hq.elim) (fun r=>?istart) KpV.trans (fun W' ob ob' h hc=>KpV.put ob' h hc Om) (fun _=>rfl)
    (fun pre2 A=>(∃acc,J acc A∧acc.map pr=((pre.map (·.2)).flatMap fun d=>(prodSem.prod (fun _=>[0,1,2]) ne).map fun e=>(d,e))++(pre2.map (·.2)).map (fun e=>(d,e)))∧Bs W.heap.size rb b lY L ne p1 p3 c1 c3 A∧Boxed A db 35 (.slice (some ⟨DB,0,none⟩) L L)∧A.rowIs DB 4 L (fun i=>.bool (bAt d i))∧KpV b (TV lk vb) W.heap.size A9 A∧A.heap[w9.heap.size+1]? = some (.loop r9)∧A.heap[w9.heap.size]? = some (.deferred (some [])))
    (fun c A=>c=.ret∧Jx A∧KpV b (TV lk vb) W.heap.size A9 A∧A.heap[w9.heap.size+1]? = some (.loop r9)∧A.heap[w9.heap.size]? = some (.deferred (some []))) ?iI ?iIx ?iAt (fun _ _ _ _ _=>trivial) ⟨⟨acc0,HJb.out,by rw[HAc.out];simp⟩,HBsb.out,HDbb.out,HRowb.out,HKp0.out,HRb.out,HDd.out⟩
    (fun y a' _=>a' = ⟨#[.func (.yield lY) #[] #[],.pointer (some ⟨rb,0,none⟩),.pointer (some ⟨kx,0,none⟩),.pointer (some ⟨W.heap.size,0,none⟩),.pointer (some ⟨db,0,none⟩),.slice (some ⟨y.1,0,none⟩) ne ne,u 6,u 7,u 8,u 9,u 10,.int .i64 (L:Int),.int .i64 (k:Int),.func (.func 121) #[] #[.pointer (some ⟨Lb+1,0,none⟩),.pointer (some ⟨Lb,0,none⟩)],.slice (some ⟨DB,0,none⟩) L L,.pointer (some ⟨b,0,none⟩),.pointer (some ⟨b,0,none⟩),.pointer (some ⟨b,0,none⟩),.pointer (some ⟨b,3,none⟩),.slice p3 ne c3,.int .i64 (ne:Int),.func (.func 148) #[] #[.pointer (some ⟨Bx,0,none⟩)],.slice (some ⟨y.1,0,none⟩) ne ne,undef,undef,undef,undef,undef,undef,undef,undef],[]⟩) (fun _ _ _ _ _ h=>h) (fun _ _ h=>KpV.df h) ?iassign ?ibody ?idone ?istop
   case istart =>
    have hb:Below B0.heap.size B0 (B0.alloc (.loop r)):=Bl;exact⟨HRd.out.kept (picksI.kp_below hb),(hb.block _ HBx.out.lt).trans HBx.out,hb.size,by simp⟩
   case iI =>
    rintro pre2 A B hd ⟨⟨acc,h1,h2⟩,h3,h4,h5,h6,h7,h8⟩;have hx:∀q,(False∨(B0.heap.size≤q∧Soft A q))→B0.heap.size≤q:=fun q hq=>hq.elim (fun h=>h.elim) (fun h=>h.1);refine⟨⟨acc,HJ.out _ _ _ (hd.mono fun q _ h=>h.elim .inl fun h=>.inr ⟨by omega,h.2⟩) h1,h2⟩,h3.df hd (fun q hq=>?_),hd.keeps h4 (fun hq=>by have:=hx _ hq;omega),h5.of_block (hd.blk _ h5.lt (fun hq=>by have:=hx _ hq;omega)),?_,hd.keeps h7 (fun hq=>by have:=hx _ hq;omega),hd.keeps h8 (fun hq=>by have:=hx _ hq;omega)⟩
    · have:=hx _ hq;exact⟨by omega,by omega,by omega⟩
    exact kp_df h6 hd (fun q hq=>by have:=hx _ hq;omega)
   case iIx =>
    rintro c A B hd ⟨h1,h2,h6,h7,h8⟩;have hx:∀q,(False∨(B0.heap.size≤q∧NoC A q))→B0.heap.size≤q:=fun q hq=>hq.elim (fun h=>h.elim) (fun h=>h.1);exact⟨h1,HJx.out _ _ (hd.mono fun q _ h=>h.elim .inl fun h=>.inr ⟨by omega,h.2⟩) h2,kp_df h6 hd (fun q hq=>by have:=hx _ hq;omega),hd.keeps h7 (fun hq=>by have:=hx _ hq;omega),hd.keeps h8 (fun hq=>by have:=hx _ hq;omega)⟩
   case iAt =>
    rintro pre2 y A B - hd ⟨⟨h1,h2,h3,h4⟩,h5⟩;exact⟨⟨h1,h2,h3,h4.of_block (hd.blk _ h4.lt Om)⟩,h5⟩
   case iassign =>
    intro y W' K _ hK;gi_wp2;exact hK _ _ (Df.refl _ _) rfl
   case idone =>
    rintro xs B1 ⟨LB,rfl⟩ ⟨⟨acc,h1,h2⟩,h3,h4,h5,h6,h7,h8⟩ -
    have HAe:Hid (acc.map pr=((pre++[(DB,d)]).map (·.2)).flatMap fun d=>(prodSem.prod (fun _=>[0,1,2]) ne).map fun e=>(d,e)):=hid (by
     rw[h2,List.map_append,List.flatMap_append,List.map_map]
     congr 1
     simp[Function.comp_def])
    have HJe:=hid h1;have HBe:=hid h3;have HKe:=hid h6;have HRe:Hid (B1.heap[w9.heap.size+1]? = A9.heap[w9.heap.size+1]?):=hid (h7.trans HR9'.out.symm);have HDe:Hid (B1.heap[w9.heap.size]? = A9.heap[w9.heap.size]?):=hid (h8.trans HD9'.out.symm);clear h1 h2 h3 h4 h5 h6 h7 h8;gi_wp2;exact⟨HRe.out,⟨HDe.out,HKe.out.mono (fun _ _ h=>h) Om⟩,⟨acc,HJe.out,HAe.out⟩,HBe.out⟩
   case istop =>
    rintro c B1 ⟨rfl,h2,h6,h7,h8⟩;have HJe:=hid h2;have HKe:=hid h6;have HRe:Hid (B1.heap[w9.heap.size+1]? = A9.heap[w9.heap.size+1]?):=hid (h7.trans HR9'.out.symm);have HDe:Hid (B1.heap[w9.heap.size]? = A9.heap[w9.heap.size]?):=hid (h8.trans HD9'.out.symm);clear h2 h6 h7 h8;gi_wp2;exact⟨HRe.out,⟨HDe.out,HKe.out.mono (fun _ _ h=>h) Om⟩,rfl,HJe.out⟩
   rintro pre2 ⟨EB,e⟩ a7 B1 ⟨⟨acc,h1,h2⟩,h3,h4,h5,h6,h7,h8⟩ ⟨⟨hEB,hel,hein,herow⟩,esuf,hesuf⟩ rfl ⟨r7,hr7⟩;dsimp only at hEB hel hein herow hesuf;obtain⟨B2,hB2⟩:∃B2,B1.alloc (.cells #[.pointer (some ⟨b,0,none⟩),.slice (some ⟨EB,0,none⟩) ne ne,.slice (some ⟨DB,0,none⟩) L L] 130)=B2:=⟨_,rfl⟩;have hb2:Below B1.heap.size B1 B2:=by rw[←hB2];exact Bl
   have hsc:B2.heap[B1.heap.size]? = some (.cells #[.pointer (some ⟨b,0,none⟩),.slice (some ⟨EB,0,none⟩) ne ne,.slice (some ⟨DB,0,none⟩) L L] 130 (0,0)):=by rw[←hB2];exact World.alloc_heap_new _ _
   have hsf:∃suf,pairsP L k ne=acc.map pr++(d,e)::suf:=by
    rw[h2];unfold pairsP;rw[HSuf.out,hesuf];refine⟨esuf.map (fun e=>(d,e))++suf.flatMap fun d=>(pre2.map (·.2)++e::esuf).map fun e=>(d,e),?_⟩;simp[List.flatMap_append]
   obtain⟨fn,tmps,assign,body,hy,hround⟩:=yield_any (m' := 8) (HY.out acc (B1.heap.size,(DB,d),(EB,e)) B2 (HJ.out _ _ _ ((Df.of_below hb2).mono fun q _ h=>h.elim) h1) ⟨hsc,⟨HLen.out,h5.of_block (hb2.block _ h5.lt)⟩,⟨hel,hein,herow.of_block (hb2.block _ herow.lt)⟩,hsf⟩)
   try dsimp only at hy
   have HAe:=hid h2;have HBe:=hid (h3.df (Df.of_below hb2) (fun q hq=>hq.elim));have HDe:Hid (Boxed B2 db 35 (.slice (some ⟨DB,0,none⟩) L L)):=hid ((hb2.block _ h4.lt).trans h4);have HRe:=hid (h5.of_block (hb2.block _ h5.lt));have HKe:Hid (KpV b (TV lk vb) W.heap.size A9 B2):=hid (h6.trans (KpV.below hb2));have HKi:Hid (KpV b (TV lk vb) W.heap.size B1 B2):=hid (KpV.below hb2);have H7:Hid (B2.heap[w9.heap.size+1]? = some (.loop r9)):=hid ((hb2.block _ (Array.getElem?_eq_some_iff.1 h7).1).trans h7);have H8:Hid (B2.heap[w9.heap.size]? = some (.deferred (some []))):=hid ((hb2.block _ (Array.getElem?_eq_some_iff.1 h8).1).trans h8);have HR7:Hid (B2.heap[B0.heap.size]? = some (.loop r7)):=hid ((hb2.block _ (Array.getElem?_eq_some_iff.1 hr7).1).trans hr7);have HR7' := hid hr7;have g1:=h3.y.cell;have g2:=h3.r.cell;have g3:=h4.cell;have HB2:=hid hB2;rw[←hB2]at hy hround;clear h1 h2 h3 h4 h5 h6 h7 h8 hr7 hsc hb2 hsf hel hein herow hesuf hB2;gi_wp2;refine hround.mono ?_;rintro e5 B3 (⟨rfl,hj5,hk5⟩|⟨rfl,hj5,hk5⟩)
   · have HJ5:=hid hj5;have HK5:=hid hk5;rw[HB2.out]at HK5;clear hj5 hk5;gi_wp2;exact⟨(HK5.out.other HR7.out rfl Om).trans (HR7.out.trans HR7'.out.symm),(HKi.out.trans HK5.out).mono (fun _ _ h=>h) Om,⟨acc++[(B1.heap.size,(DB,d),(EB,e))],HJ5.out,by rw[List.map_append,HAe.out,List.map_append,List.map_append,List.append_assoc];rfl⟩,HBe.out.kp HK5.out,HK5.out.keep HDe.out (nv (by decide) (by decide) (by decide)),row_kp HRe.out HK5.out (nv (by decide) (by decide) (by decide)),HKe.out.trans HK5.out,(HK5.out.other H7.out rfl Om).trans H7.out,(HK5.out.other H8.out rfl Om).trans H8.out⟩
   have HJ5:=hid hj5;have HK5:=hid hk5;rw[HB2.out]at HK5;clear hj5 hk5;gi_wp2;exact⟨(HK5.out.other HR7.out rfl Om).trans (HR7.out.trans HR7'.out.symm),(HKi.out.trans HK5.out).mono (fun _ _ h=>h) Om,rfl,HJ5.out,HKe.out.trans HK5.out,(HK5.out.other H7.out rfl Om).trans H7.out,(HK5.out.other H8.out rfl Om).trans H8.out⟩
end Go.Proofs.YtcnoemjeijjnjaaGreat.scenesTwo
namespace Go.Proofs.YtcnoemjeijjnjaaGreat.pick
open Go.RowKit Go.Deep Go.Shelf Go base copy netSem intsOwn prodSem rangeAt
attribute [local go_sem] Oper.semAt_some
def KpT (A A' : World) : Prop := ∀(q : Nat) (cs : Array Value) (t : TypeId) (fr : Nat × Nat),A.heap[q]? = some (.cells cs t fr)→t=3∨t=25∨t=135→A'.heap[q]? = some (.cells cs t fr)
theorem KpT.trans {A B C:World} (h:KpT A B) (k:KpT B C):KpT A C:=fun q cs t fr hq ht=>k q cs t fr (h q cs t fr hq ht) ht
structure RInt (B : Nat) (A A' : World) : Prop where
 os:A'.os=A.os
 tape:A'.tape=A.tape
 output:A'.output=A.output
 size:A.heap.size≤A'.heap.size
 blk:∀q,q<A.heap.size→(B≤q→∀cs fr,A.heap[q]?≠some (.cells cs 3 fr))→A'.heap[q]? = A.heap[q]?
structure RowsD (B0 B1 RB n : Nat) (V : Nat→Value) (L : Nat→List Int) (W : World) : Prop where
 row:W.rowIs RB 25 n V
 own:∀i,i<n→OwnInts B0 W (V i) (L i)
 low:∀i g,i<n→(V i).ownBlock=some g→g<B1
 few:∀i,i<n→(L i).length≤100
theorem own_block {B g:Nat} {W:World} {v:Value} {zs:List Int} (h:OwnInts B W v zs) (hg:v.ownBlock=some g):∃cs,W.heap[g]? = some (.cells cs 3 (0,0)):=by
 rcases h.2 with ⟨e,_⟩|⟨g',cap,cur,e,_,hh,_⟩
 · rw[e]at hg;simp[Value.ownBlock]at hg
 rw[e]at hg;simp[Value.ownBlock]at hg;subst hg;exact⟨cur,hh⟩
end Go.Proofs.YtcnoemjeijjnjaaGreat.pick
namespace Go.Proofs.YtcnoemjeijjnjaaGreat.picksSeq
open Go.RowKit Go.Deep Go.Shelf Go base copy netSem intsOwn prodSem rangeAt pick
theorem RInt.below {B:Nat} {A A':World} (h:Below A.heap.size A A'):RInt B A A' := ⟨h.os,h.tape,h.output,h.size,fun q hq _=>h.block q hq⟩
theorem picks_impl (a:Option Addr) (len cap:Nat) (w:World) :
  Calls Tryz.prog 124 #[.slice a len cap] w fun e w'=>e=.returned (.func (.func 148) #[] #[.pointer (some ⟨w.heap.size,0,none⟩)])∧w' = w.alloc (.cells #[.slice a len cap] 135):=by
 go_enter Tryz.func124,Tryz.ntmps124;go_wp2;go_ret;exact⟨rfl,rfl⟩
end Go.Proofs.YtcnoemjeijjnjaaGreat.picksSeq
