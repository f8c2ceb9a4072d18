import Derived.Test.YthompjbplddkgaaGreatDoorPart38
import Derived.Test.YthompjbplddkgaaGreatDoorDigits
import Derived.Deep.CutRange
import Derived.Deep.CutBlock
set_option linter.unusedVariables false
namespace Go.Proofs.YthompjbplddkgaaGreatDoor.askDraw
open Go.RowKit Go.Deep Go base copy netSem netSpec source intsOwn drawnLin drawnSrc digits
open drawn (slots_inj)
def Texts (w : World) (g n hi : Nat) : Prop := ∀ i,i<n→∃ x : ByteArray,w.cell? ⟨g,i,none⟩=some (.string x)∧1≤x.size∧x.size≤hi
theorem Texts.pass {w w1:World} {g n hi:Nat} (h:Texts w g n hi) (hb:w1.heap[g]? = w.heap[g]?):Texts w1 g n hi:=fun i hi=>by
 obtain ⟨x,h1,h2,h3⟩:=h i hi
 exact ⟨x,(World.cell?_of_block (a:=⟨g,i,none⟩) hb).trans h1,h2,h3⟩
def Al (W w : World) (b : Nat) (a : Option Addr) (len cap k : Nat) : Prop := Src w b a len cap k∧Chg (fun j=>j=b) W w
theorem Al.mono {W w:World} {b len cap k k':Nat} {a:Option Addr} (h:Al W w b a len cap k) (hk:k≤k'):Al W w b a len cap k' := ⟨h.1.mono hk,h.2⟩
theorem chg_b {w w1:World} {b:Nat} (h:Chg (fun j=>j=b∨(fun _:Nat=>False) j) w w1):Chg (fun j=>j=b) w w1:=h.mono fun j hj=>by rcases hj with hj|hj;exact hj;exact hj.elim
theorem Al.next {W w w1:World} {b len cap k k':Nat} {a:Option Addr} (h:Al W w b a len cap k) (hs:Src w1 b a len cap k') (hc:Chg (fun j=>j=b∨(fun _:Nat=>False) j) w w1):Al W w1 b a len cap k' := ⟨hs,Chg.trans h.2 (chg_b hc)⟩
theorem Al.grow {W w w1:World} {b len cap k k':Nat} {a:Option Addr} (h:Al W w b a len cap k) (hs:Src w1 b a len cap k') (hg:w.grownBy w1 (some b)):Al W w1 b a len cap k' := ⟨hs,Chg.trans h.2 (Chg.of_grown hg fun j hj=>by injection hj with hj;exact hj.symm)⟩
theorem Al.below {W w w1:World} {b len cap k:Nat} {a:Option Addr} (h:Al W w b a len cap k) (hb:Below w.heap.size w w1):Al W w1 b a len cap k:=⟨h.1.below hb,Chg.trans h.2 (Chg.of_below hb)⟩
theorem grown_chg {w w1:World} {b:Nat} (hc:Chg (fun j=>j=b) w w1):w.grownBy w1 (some b):=⟨hc.os,hc.tape,hc.output,hc.size,fun q hq hne=>hc.block q hq (fun h9=>hne (by rw [h9]))⟩
set_option maxHeartbeats 1600000 in
theorem pick_src (b:Nat) (a:Option Addr) (len cap k g n hi c:Nat) (w:World) (h:Src w b a len cap k) (hk:k≤1048576) (hn:1≤n) (hn':n≤256) (hg:g≠b) (ht:Texts w g n hi) :
  Calls Tryz.prog 32 #[.pointer (some ⟨b,0,none⟩),.slice (some ⟨g,0,none⟩) n c] w fun e w'=>∃ x:ByteArray,e=.returned (.string x)∧1≤x.size∧x.size≤hi∧Src w' b a len cap (k+1)∧w.grownBy w' (some b):=by
 have HS:=hid h
 have HT:=hid ht
 have hz:((n:Int) == 0)=false:=by simp;omega
 clear h ht
 go_enter Tryz.func32,Tryz.ntmps32
 go_wp2_with fail
 refine (next_src b a len cap k (n:Int) _ HS.out hk (by omega) (by omega)).mono ?_
 rintro e w1 ⟨r,rfl,h0,h1,hs1,hg1⟩
 obtain ⟨m,rfl⟩:=Int.eq_ofNat_of_zero_le h0
 have hm:m<n:=by omega
 obtain ⟨x,hx,hx1,hx2⟩:=HT.out m hm
 have hlt:g<w.heap.size:=World.block_lt_of_cell? _ _ hx
 have hc1:w1.cell? ⟨g,m,none⟩=some (.string x):=(World.cell?_of_block (a:=⟨g,m,none⟩) (hg1.block g hlt (by intro h9;injection h9 with h9;exact hg h9))).trans hx
 have HS1:=hid hs1
 have HG1:=hid hg1
 clear hs1 hg1 hx
 go_wp2
 go_ret
 exact ⟨x,rfl,hx1,hx2,HS1.out,HG1.out⟩
set_option maxHeartbeats 6400000 in
set_option maxRecDepth 16000 in
theorem ask_src (b:Nat) (a:Option Addr) (len cap bb off:Nat) (p:Nat→Option Addr) (l c:Nat→Nat) (w:World) (h:Src w b a len cap 0) (hbw:b<w.heap.size) (hbb:bb<b) (hp:p 0=some ⟨bb,off,none⟩) (hr:∀ i,i<l 0→∃ x:ByteArray,w.cell? ⟨bb,off+i,none⟩=some (.string x)∧x.size≤40) (h1:1≤l 0) (h4:l 0≤200) :
  Calls Tryz.prog 14 #[.pointer (some ⟨b,0,none⟩),netV p l c] w fun e' w'=>(∃ t:ByteArray,e' = .returned (.string t)∧t.size≤6000)∧w.grownBy w' (some b):=by
 obtain ⟨W1,hW1⟩:∃ W1,(w.alloc (.cells #[.slice (some ⟨bb,off,none⟩) (l 0) (c 0),.slice (p 1) (l 1) (c 1),.slice (p 2) (l 2) (c 2),.slice (p 3) (l 3) (c 3),.slice (p 4) (l 4) (c 4),.slice (p 5) (l 5) (c 5)] 29))=W1:=⟨_,rfl⟩
 have HB1:Hid (Below w.heap.size w W1):=hid (by rw [← hW1];exact Bl)
 have HZ1:W1.heap.size=w.heap.size+1:=by rw [← hW1];simp
 have HC:Hid (∀ w8:World,Chg (fun j=>j=b) W1 w8→w8.cell? ⟨w.heap.size,0,none⟩=some (.slice (some ⟨bb,off,none⟩) (l 0) (c 0))):=hid (fun w8 hc=>by
  rw [World.cell?_of_block (hc.block w.heap.size (by omega) (by intro h9;omega)),← hW1]
  simp [go_sem])
 have HR:Hid (∀ w8:World,Chg (fun j=>j=b) W1 w8→∀ i,i<l 0→∃ x:ByteArray,w8.cell? ⟨bb,off+i,none⟩=some (.string x)∧x.size≤40):=hid (fun w8 hc i hi=>by
  obtain ⟨x,h1,h2⟩:=hr i hi
  have h3:=keep HB1.out h1
  exact ⟨x,(World.cell?_of_block (a:=⟨bb,off+i,none⟩) (hc.block bb (by omega) (by intro h9;omega))).trans h3,h2⟩)
 have HA0:Hid (Al W1 W1 b a len cap 0):=hid ⟨h.below HB1.out,Chg.refl _ _⟩
 have HW1:=hid hW1
 have HE:Hid (∀ w8:World,Chg (fun j=>j=b) W1 w8→w.grownBy w8 (some b)):=hid (fun w8 hc=>grown_chg (Chg.trans (Chg.of_below HB1.out) hc))
 clear h hW1 hr HB1
 unfold netV
 rw [hp]
 clear hp
 go_enter Tryz.func14,Tryz.ntmps14
 go_upto_region 1 with fail
 rw [HW1.out]
 refine region_src (fun uu=>⟨#[.pointer (some ⟨b,0,none⟩),.agg #[.slice (some ⟨bb,off,none⟩) (l 0) (c 0),.slice (p 1) (l 1) (c 1),.slice (p 2) (l 2) (c 2),.slice (p 3) (l 3) (c 3),.slice (p 4) (l 4) (c 4),.slice (p 5) (l 5) (c 5)],undef,.pointer (some ⟨w.heap.size,0,none⟩),.string { data:=#[] },undef,uu 6,uu 7,uu 8,uu 9,uu 10,uu 11,uu 12,uu 13,uu 14,uu 15,uu 16,uu 17,uu 18,uu 19,uu 20,undef,undef,undef,undef,undef,undef,undef,undef,undef,undef,undef,undef,undef,undef,undef,undef,undef,undef,undef,undef,undef,undef,undef,undef,undef,undef,undef,undef,undef,undef,undef,undef,undef,undef,undef,undef,undef],[]⟩) (fun i=>[6,7,8,9,10,11,12,13,14,15,16,17,18,19,20].getD i 0) (fun i v w8=>match i with|0=>v=.pointer (some ⟨b,0,none⟩)|1=>∃ N:Nat,v=.slice (some ⟨N,0,none⟩) 4 4∧N≠b∧Texts w8 N 4 5∧N<w8.heap.size|2=>∃ t:ByteArray,v=.string t∧1≤t.size∧t.size≤5|3=>∃ t:ByteArray,v=.string t∧8≤t.size∧t.size≤12|4=>∃ t:ByteArray,v=.string t∧9≤t.size∧t.size≤13|5=>v=.pointer (some ⟨w.heap.size,0,none⟩)|6=>v=.slice (some ⟨bb,off,none⟩) (l 0) (c 0)|7=>v=.pointer (some ⟨b,0,none⟩)|8=>v=.pointer (some ⟨w.heap.size,0,none⟩)|9=>v=.slice (some ⟨bb,off,none⟩) (l 0) (c 0)|10=>v=.int .i64 (l 0:Int)|11=>∃ r:Int,v=.int .i64 r∧0≤r∧r<(l 0:Int)|12=>∃ r:Nat,v=.pointer (some ⟨bb,off+r,none⟩)∧r<l 0|13=>∃ t:ByteArray,v=.string t∧0≤t.size∧t.size≤40|14=>∃ t:ByteArray,v=.string t∧9≤t.size∧t.size≤53|_=>True) (fun _=>True) (fun _=>False) W1 15 99 b a len cap (0) (fun k=>match k with|6=>undef|7=>undef|8=>undef|9=>undef|10=>undef|11=>undef|12=>undef|13=>undef|14=>undef|15=>undef|16=>undef|17=>undef|18=>undef|19=>undef|20=>undef|_=>undef) (by rfl) (by kernel_rfl) (by rfl) ⟨by kernel_rfl,by kernel_rfl,by kernel_rfl,by decide⟩ (by kernel_rfl) (Chg.refl _ _) HA0.out.1 trivial ?hput ?hinj ?stable ?stable0 ?step ?last
 case hput =>
  intro i hi uu v
  match i,hi with
  | 0,_=>rfl
  | 1,_=>rfl
  | 2,_=>rfl
  | 3,_=>rfl
  | 4,_=>rfl
  | 5,_=>rfl
  | 6,_=>rfl
  | 7,_=>rfl
  | 8,_=>rfl
  | 9,_=>rfl
  | 10,_=>rfl
  | 11,_=>rfl
  | 12,_=>rfl
  | 13,_=>rfl
  | 14,_=>rfl
  | i+15,hi=>exact absurd hi (by omega)
 case hinj =>
  intro i j hi hj h
  exact slots_inj [6,7,8,9,10,11,12,13,14,15,16,17,18,19,20] (by decide) hi hj h
 case stable =>
  intro i v w8 w9 hb h
  match i,hb,h with
  | 0,hb,h=>exact h
  | 1,hb,h=>(obtain ⟨N,e9,hN,ht,hl⟩:=h;exact ⟨N,e9,hN,ht.pass (hb.block N hl (by rintro (h9|h9);exact hN h9;exact h9.2)),Nat.lt_of_lt_of_le hl hb.size⟩)
  | 2,hb,h=>exact h
  | 3,hb,h=>exact h
  | 4,hb,h=>exact h
  | 5,hb,h=>exact h
  | 6,hb,h=>exact h
  | 7,hb,h=>exact h
  | 8,hb,h=>exact h
  | 9,hb,h=>exact h
  | 10,hb,h=>exact h
  | 11,hb,h=>exact h
  | 12,hb,h=>exact h
  | 13,hb,h=>exact h
  | 14,hb,h=>exact h
  | _+15,hb,h=>trivial
 case stable0 =>
  intro w8 w9 hb h
  exact trivial
 case step =>
  intro i hi uu w8 k8 S8 Sr hk8 hq hdep
  match i,hi,hq,hdep with
  | 0,_,hq,hdep =>
   clear hdep
   refine ⟨_,rfl,fun K' hK=>?_⟩
   go_simp
   exact hK.out _ _ (Chg.refl _ _) (Sr.mono (by omega)) (rfl)
  | 1,_,hq,hdep =>
   clear hdep
   refine ⟨_,rfl,fun K' hK=>?_⟩
   have hz9:b<w8.heap.size:=(by obtain ⟨_,⟨_,_,_,_,_,_,hr9⟩,_⟩:=Sr;exact hr9.lt)
   go_simp
   exact hK.out _ _ (Chg.of_below Bl) ((Sr.below Bl).mono (by omega)) ⟨w8.heap.size,rfl,by omega,fun i hi=>(by
    rcases (show i=0∨i=1∨i=2∨i=3 by omega) with rfl|rfl|rfl|rfl <;> exact ⟨_,by simp [go_sem];rfl,by decide,by decide⟩),by simp⟩
  | 2,_,hq,hdep =>
   have h0:(uu 6)=.pointer (some ⟨b,0,none⟩):=hdep 0 (by kernel_rfl)
   have h1:∃ N:Nat,(uu 7)=.slice (some ⟨N,0,none⟩) 4 4∧N≠b∧Texts w8 N 4 5∧N<w8.heap.size:=hdep 1 (by kernel_rfl)
   clear hdep
   refine ⟨_,rfl,fun K' hK=>?_⟩
   obtain ⟨N,e9,hN,ht,hl⟩:=h1
   simp only [e9,h0] at hK ⊢
   go_simp
   refine (pick_src b a len cap k8 N 4 5 4 _ Sr (by omega) (by omega) (by omega) hN ht).mono ?_
   rintro e9 w9 ⟨x,rfl,hx1,hx2,hs9,hg9⟩
   exact hK.out _ _ (Chg.of_grown hg9 (fun k e=>by first|exact .inl (by injection e with e;exact e.symm)|(injection e with e;exact e.symm))) hs9 ⟨x,rfl,hx1,hx2⟩
  | 3,_,hq,hdep =>
   have h2:∃ t:ByteArray,(uu 8)=.string t∧1≤t.size∧t.size≤5:=hdep 2 (by kernel_rfl)
   clear hdep
   refine ⟨_,rfl,fun K' hK=>?_⟩
   obtain ⟨t,e1,t1,t2⟩:=h2
   simp only [e1] at hK ⊢
   have hs9:¬ (9223372036854775807<7+t.size):=by omega
   obtain ⟨t9,ht9⟩:∃ t9:ByteArray,(⟨#[118,101,114,105,102,121,32]⟩:ByteArray) ++ t=t9:=⟨_,rfl⟩
   have hsz9:t9.size=7+t.size:=by rw [← ht9,ByteArray.size_append];rfl
   have HT9:=hid ht9
   clear ht9
   go_simp
   rw [HT9.out]
   exact hK.out _ _ (Chg.refl _ _) (Sr.mono (by omega)) ⟨t9,rfl,by omega,by omega⟩
  | 4,_,hq,hdep =>
   have h3:∃ t:ByteArray,(uu 9)=.string t∧8≤t.size∧t.size≤12:=hdep 3 (by kernel_rfl)
   clear hdep
   refine ⟨_,rfl,fun K' hK=>?_⟩
   obtain ⟨t,e1,t1,t2⟩:=h3
   simp only [e1] at hK ⊢
   have hs9:¬ (9223372036854775807<t.size+1):=by omega
   obtain ⟨t9,ht9⟩:∃ t9:ByteArray,t ++ (⟨#[32]⟩:ByteArray)=t9:=⟨_,rfl⟩
   have hsz9:t9.size=t.size+1:=by rw [← ht9,ByteArray.size_append];rfl
   have HT9:=hid ht9
   clear ht9
   go_simp
   rw [HT9.out]
   exact hK.out _ _ (Chg.refl _ _) (Sr.mono (by omega)) ⟨t9,rfl,by omega,by omega⟩
  | 5,_,hq,hdep =>
   clear hdep
   refine ⟨_,rfl,fun K' hK=>?_⟩
   go_simp
   exact hK.out _ _ (Chg.refl _ _) (Sr.mono (by omega)) (rfl)
  | 6,_,hq,hdep =>
   have h5:(uu 11)=.pointer (some ⟨w.heap.size,0,none⟩):=hdep 5 (by kernel_rfl)
   clear hdep
   refine ⟨_,rfl,fun K' hK=>?_⟩
   have c0:=HC.out w8 (Chg.trans HA0.out.2 (chg_b S8))
   simp only [h5] at hK ⊢
   go_simp
   exact hK.out _ _ (Chg.refl _ _) (Sr.mono (by omega)) (rfl)
  | 7,_,hq,hdep =>
   clear hdep
   refine ⟨_,rfl,fun K' hK=>?_⟩
   go_simp
   exact hK.out _ _ (Chg.refl _ _) (Sr.mono (by omega)) (rfl)
  | 8,_,hq,hdep =>
   clear hdep
   refine ⟨_,rfl,fun K' hK=>?_⟩
   go_simp
   exact hK.out _ _ (Chg.refl _ _) (Sr.mono (by omega)) (rfl)
  | 9,_,hq,hdep =>
   have h8:(uu 14)=.pointer (some ⟨w.heap.size,0,none⟩):=hdep 8 (by kernel_rfl)
   clear hdep
   refine ⟨_,rfl,fun K' hK=>?_⟩
   have c0:=HC.out w8 (Chg.trans HA0.out.2 (chg_b S8))
   simp only [h8] at hK ⊢
   go_simp
   exact hK.out _ _ (Chg.refl _ _) (Sr.mono (by omega)) (rfl)
  | 10,_,hq,hdep =>
   have h9:(uu 15)=.slice (some ⟨bb,off,none⟩) (l 0) (c 0):=hdep 9 (by kernel_rfl)
   clear hdep
   refine ⟨_,rfl,fun K' hK=>?_⟩
   simp only [h9] at hK ⊢
   go_simp
   exact hK.out _ _ (Chg.refl _ _) (Sr.mono (by omega)) (rfl)
  | 11,_,hq,hdep =>
   have h7:(uu 13)=.pointer (some ⟨b,0,none⟩):=hdep 7 (by kernel_rfl)
   have h10:(uu 16)=.int .i64 (l 0:Int):=hdep 10 (by kernel_rfl)
   clear hdep
   refine ⟨_,rfl,fun K' hK=>?_⟩
   simp only [h7,h10] at hK ⊢
   go_simp
   refine (next_src b a len cap k8 ((l 0:Int)) _ Sr (by omega) (by omega) (by omega)).mono ?_
   rintro e9 w9 ⟨r9,rfl,h90,h91,hs9,hg9⟩
   exact hK.out _ _ (Chg.of_grown hg9 (fun k e=>by first|exact .inl (by injection e with e;exact e.symm)|(injection e with e;exact e.symm))) hs9 ⟨r9,rfl,h90,h91⟩
  | 12,_,hq,hdep =>
   have h6:(uu 12)=.slice (some ⟨bb,off,none⟩) (l 0) (c 0):=hdep 6 (by kernel_rfl)
   have h11:∃ r:Int,(uu 17)=.int .i64 r∧0≤r∧r<(l 0:Int):=hdep 11 (by kernel_rfl)
   clear hdep
   refine ⟨_,rfl,fun K' hK=>?_⟩
   obtain ⟨r,e9,r0,r1⟩:=h11
   obtain ⟨m,rfl⟩:=Int.eq_ofNat_of_zero_le r0
   simp only [e9,h6] at hK ⊢
   have hm:m<l 0:=by omega
   go_simp
   exact hK.out _ _ (Chg.refl _ _) (Sr.mono (by omega)) ⟨m,rfl,hm⟩
  | 13,_,hq,hdep =>
   have h12:∃ r:Nat,(uu 18)=.pointer (some ⟨bb,off+r,none⟩)∧r<l 0:=hdep 12 (by kernel_rfl)
   clear hdep
   refine ⟨_,rfl,fun K' hK=>?_⟩
   obtain ⟨r,e9,hm⟩:=h12
   obtain ⟨x,hx,hx2⟩:=HR.out w8 (Chg.trans HA0.out.2 (chg_b S8)) r hm
   simp only [e9] at hK ⊢
   go_simp
   exact hK.out _ _ (Chg.refl _ _) (Sr.mono (by omega)) ⟨x,rfl,by omega,hx2⟩
  | 14,_,hq,hdep =>
   have h4:∃ t:ByteArray,(uu 10)=.string t∧9≤t.size∧t.size≤13:=hdep 4 (by kernel_rfl)
   have h13:∃ t:ByteArray,(uu 19)=.string t∧0≤t.size∧t.size≤40:=hdep 13 (by kernel_rfl)
   clear hdep
   refine ⟨_,rfl,fun K' hK=>?_⟩
   obtain ⟨t,e1,t1,t2⟩:=h4
   obtain ⟨u,e2,y1,y2⟩:=h13
   simp only [e1,e2] at hK ⊢
   have hs9:¬ (9223372036854775807<t.size+u.size):=by omega
   obtain ⟨t9,ht9⟩:∃ t9:ByteArray,t ++ u=t9:=⟨_,rfl⟩
   have hsz9:t9.size=t.size+u.size:=by rw [← ht9,ByteArray.size_append]
   have HT9:=hid ht9
   clear ht9
   go_simp
   rw [HT9.out]
   exact hK.out _ _ (Chg.refl _ _) (Sr.mono (by omega)) ⟨t9,rfl,by omega,by omega⟩
  | i+15,hi,_,_=>exact absurd hi (by omega)
 case last =>
  intro uu w8 S8 Sr hall
  have h14:∃ t:ByteArray,(uu 20)=.string t∧9≤t.size∧t.size≤53:=hall 14 (by decide)
  clear hall
  refine ⟨_,rfl,fun K' hK=>?_⟩
  obtain ⟨t,e9,hx1,hx2⟩:=h14
  simp only [e9] at hK ⊢
  have HNx:Hid (Al W1 w8 b a len cap 15):=hid (HA0.out.next (Sr.mono (by omega)) S8)
  clear S8 Sr
  go_simp
  refine hK.out _ _ ?_
  clear hK K' e9
  (try simp only [Exit.then])
  have HA1:=hid (HNx.out)
  clear HNx HA0
  go_upto_if 23 with fail
  go_cut [5] from 6 to 57 (fun s5 wc=>∃ t:ByteArray,s5=.string t∧8≤t.size∧t.size≤103∧Al W1 wc b a len cap 60)
  case first =>
   generalize (((t[7]'(by omega)).toNat:Int) == 119)=q
   cases q with
   | false =>
    go_wp2_with fail
    go_meet
    exact ⟨t,rfl,by omega,by omega,HA1.out.mono (by omega)⟩
   | true =>
    go_upto_region 3 with fail
    refine region_src (fun uv=>⟨#[.pointer (some ⟨b,0,none⟩),.agg #[.slice (some ⟨bb,off,none⟩) (l 0) (c 0),.slice (p 1) (l 1) (c 1),.slice (p 2) (l 2) (c 2),.slice (p 3) (l 3) (c 3),.slice (p 4) (l 4) (c 4),.slice (p 5) (l 5) (c 5)],undef,.pointer (some ⟨w.heap.size,0,none⟩),.string { data:=#[] },.string t,uu 6,uu 7,uu 8,uu 9,uu 10,uu 11,uu 12,uu 13,uu 14,uu 15,uu 16,uu 17,uu 18,uu 19,.string t,.string t,.int IntKind.u8 ↑t[7].toNat,.bool true,uv 24,uv 25,uv 26,uv 27,uv 28,uv 29,uv 30,uv 31,uv 32,uv 33,uv 34,uv 35,undef,undef,undef,undef,undef,undef,undef,undef,undef,undef,undef,undef,undef,undef,undef,undef,undef,undef,undef,undef,undef,undef],[]⟩) (fun i=>[24,25,26,27,28,29,30,31,32,33,34,35].getD i 0) (fun i v w8=>match i with|0=>v=.string t|1=>v=.pointer (some ⟨w.heap.size,0,none⟩)|2=>v=.slice (some ⟨bb,off,none⟩) (l 0) (c 0)|3=>v=.pointer (some ⟨b,0,none⟩)|4=>v=.pointer (some ⟨w.heap.size,0,none⟩)|5=>v=.slice (some ⟨bb,off,none⟩) (l 0) (c 0)|6=>v=.int .i64 (l 0:Int)|7=>∃ r:Int,v=.int .i64 r∧0≤r∧r<(l 0:Int)|8=>∃ r:Nat,v=.pointer (some ⟨bb,off+r,none⟩)∧r<l 0|9=>∃ t:ByteArray,v=.string t∧0≤t.size∧t.size≤40|10=>∃ t:ByteArray,v=.string t∧5≤t.size∧t.size≤45|11=>∃ t:ByteArray,v=.string t∧8≤t.size∧t.size≤98|_=>True) (fun _=>True) (fun _=>False) w8 12 99 b a len cap (15) (fun k=>match k with|24=>undef|25=>undef|26=>undef|27=>undef|28=>undef|29=>undef|30=>undef|31=>undef|32=>undef|33=>undef|34=>undef|35=>undef|_=>undef) (by rfl) (by kernel_rfl) (by rfl) ⟨by kernel_rfl,by kernel_rfl,by kernel_rfl,by decide⟩ (by kernel_rfl) (Chg.refl _ _) HA1.out.1 trivial ?hput ?hinj ?stable ?stable0 ?step ?last
    case hput =>
     intro i hi uv v
     match i,hi with
     | 0,_=>rfl
     | 1,_=>rfl
     | 2,_=>rfl
     | 3,_=>rfl
     | 4,_=>rfl
     | 5,_=>rfl
     | 6,_=>rfl
     | 7,_=>rfl
     | 8,_=>rfl
     | 9,_=>rfl
     | 10,_=>rfl
     | 11,_=>rfl
     | i+12,hi=>exact absurd hi (by omega)
    case hinj =>
     intro i j hi hj h
     exact slots_inj [24,25,26,27,28,29,30,31,32,33,34,35] (by decide) hi hj h
    case stable =>
     intro i v w8 w9 hb h
     match i,hb,h with
     | 0,hb,h=>exact h
     | 1,hb,h=>exact h
     | 2,hb,h=>exact h
     | 3,hb,h=>exact h
     | 4,hb,h=>exact h
     | 5,hb,h=>exact h
     | 6,hb,h=>exact h
     | 7,hb,h=>exact h
     | 8,hb,h=>exact h
     | 9,hb,h=>exact h
     | 10,hb,h=>exact h
     | 11,hb,h=>exact h
     | _+12,hb,h=>trivial
    case stable0 =>
     intro w8 w9 hb h
     exact trivial
    case step =>
     intro i hi uv w8 k8 S8 Sr hk8 hq hdep
     match i,hi,hq,hdep with
     | 0,_,hq,hdep =>
      clear hdep
      refine ⟨_,rfl,fun K' hK=>?_⟩
      go_simp
      exact hK.out _ _ (Chg.refl _ _) (Sr.mono (by omega)) (rfl)
     | 1,_,hq,hdep =>
      clear hdep
      refine ⟨_,rfl,fun K' hK=>?_⟩
      go_simp
      exact hK.out _ _ (Chg.refl _ _) (Sr.mono (by omega)) (rfl)
     | 2,_,hq,hdep =>
      have h1:(uv 25)=.pointer (some ⟨w.heap.size,0,none⟩):=hdep 1 (by kernel_rfl)
      clear hdep
      refine ⟨_,rfl,fun K' hK=>?_⟩
      have c0:=HC.out w8 (Chg.trans HA1.out.2 (chg_b S8))
      simp only [h1] at hK ⊢
      go_simp
      exact hK.out _ _ (Chg.refl _ _) (Sr.mono (by omega)) (rfl)
     | 3,_,hq,hdep =>
      clear hdep
      refine ⟨_,rfl,fun K' hK=>?_⟩
      go_simp
      exact hK.out _ _ (Chg.refl _ _) (Sr.mono (by omega)) (rfl)
     | 4,_,hq,hdep =>
      clear hdep
      refine ⟨_,rfl,fun K' hK=>?_⟩
      go_simp
      exact hK.out _ _ (Chg.refl _ _) (Sr.mono (by omega)) (rfl)
     | 5,_,hq,hdep =>
      have h4:(uv 28)=.pointer (some ⟨w.heap.size,0,none⟩):=hdep 4 (by kernel_rfl)
      clear hdep
      refine ⟨_,rfl,fun K' hK=>?_⟩
      have c0:=HC.out w8 (Chg.trans HA1.out.2 (chg_b S8))
      simp only [h4] at hK ⊢
      go_simp
      exact hK.out _ _ (Chg.refl _ _) (Sr.mono (by omega)) (rfl)
     | 6,_,hq,hdep =>
      have h5:(uv 29)=.slice (some ⟨bb,off,none⟩) (l 0) (c 0):=hdep 5 (by kernel_rfl)
      clear hdep
      refine ⟨_,rfl,fun K' hK=>?_⟩
      simp only [h5] at hK ⊢
      go_simp
      exact hK.out _ _ (Chg.refl _ _) (Sr.mono (by omega)) (rfl)
     | 7,_,hq,hdep =>
      have h3:(uv 27)=.pointer (some ⟨b,0,none⟩):=hdep 3 (by kernel_rfl)
      have h6:(uv 30)=.int .i64 (l 0:Int):=hdep 6 (by kernel_rfl)
      clear hdep
      refine ⟨_,rfl,fun K' hK=>?_⟩
      simp only [h3,h6] at hK ⊢
      go_simp
      refine (next_src b a len cap k8 ((l 0:Int)) _ Sr (by omega) (by omega) (by omega)).mono ?_
      rintro e9 w9 ⟨r9,rfl,h90,h91,hs9,hg9⟩
      exact hK.out _ _ (Chg.of_grown hg9 (fun k e=>by first|exact .inl (by injection e with e;exact e.symm)|(injection e with e;exact e.symm))) hs9 ⟨r9,rfl,h90,h91⟩
     | 8,_,hq,hdep =>
      have h2:(uv 26)=.slice (some ⟨bb,off,none⟩) (l 0) (c 0):=hdep 2 (by kernel_rfl)
      have h7:∃ r:Int,(uv 31)=.int .i64 r∧0≤r∧r<(l 0:Int):=hdep 7 (by kernel_rfl)
      clear hdep
      refine ⟨_,rfl,fun K' hK=>?_⟩
      obtain ⟨r,e9,r0,r1⟩:=h7
      obtain ⟨m,rfl⟩:=Int.eq_ofNat_of_zero_le r0
      simp only [e9,h2] at hK ⊢
      have hm:m<l 0:=by omega
      go_simp
      exact hK.out _ _ (Chg.refl _ _) (Sr.mono (by omega)) ⟨m,rfl,hm⟩
     | 9,_,hq,hdep =>
      have h8:∃ r:Nat,(uv 32)=.pointer (some ⟨bb,off+r,none⟩)∧r<l 0:=hdep 8 (by kernel_rfl)
      clear hdep
      refine ⟨_,rfl,fun K' hK=>?_⟩
      obtain ⟨r,e9,hm⟩:=h8
      obtain ⟨x,hx,hx2⟩:=HR.out w8 (Chg.trans HA1.out.2 (chg_b S8)) r hm
      simp only [e9] at hK ⊢
      go_simp
      exact hK.out _ _ (Chg.refl _ _) (Sr.mono (by omega)) ⟨x,rfl,by omega,hx2⟩
     | 10,_,hq,hdep =>
      have h9:∃ t:ByteArray,(uv 33)=.string t∧0≤t.size∧t.size≤40:=hdep 9 (by kernel_rfl)
      clear hdep
      refine ⟨_,rfl,fun K' hK=>?_⟩
      obtain ⟨t,e1,t1,t2⟩:=h9
      simp only [e1] at hK ⊢
      have hs9:¬ (9223372036854775807<5+t.size):=by omega
      obtain ⟨t9,ht9⟩:∃ t9:ByteArray,(⟨#[32,118,105,97,32]⟩:ByteArray) ++ t=t9:=⟨_,rfl⟩
      have hsz9:t9.size=5+t.size:=by rw [← ht9,ByteArray.size_append];rfl
      have HT9:=hid ht9
      clear ht9
      go_simp
      rw [HT9.out]
      exact hK.out _ _ (Chg.refl _ _) (Sr.mono (by omega)) ⟨t9,rfl,by omega,by omega⟩
     | 11,_,hq,hdep =>
      have h0:(uv 24)=.string t:=hdep 0 (by kernel_rfl)
      have h10:∃ t:ByteArray,(uv 34)=.string t∧5≤t.size∧t.size≤45:=hdep 10 (by kernel_rfl)
      clear hdep
      refine ⟨_,rfl,fun K' hK=>?_⟩
      obtain ⟨u,e2,y1,y2⟩:=h10
      simp only [h0,e2] at hK ⊢
      have hs9:¬ (9223372036854775807<t.size+u.size):=by omega
      obtain ⟨t9,ht9⟩:∃ t9:ByteArray,t ++ u=t9:=⟨_,rfl⟩
      have hsz9:t9.size=t.size+u.size:=by rw [← ht9,ByteArray.size_append]
      have HT9:=hid ht9
      clear ht9
      go_simp
      rw [HT9.out]
      exact hK.out _ _ (Chg.refl _ _) (Sr.mono (by omega)) ⟨t9,rfl,by omega,by omega⟩
     | i+12,hi,_,_=>exact absurd hi (by omega)
    case last =>
     intro uv w8 S8 Sr hall
     have h11:∃ t:ByteArray,(uv 35)=.string t∧8≤t.size∧t.size≤98:=hall 11 (by decide)
     clear hall
     refine ⟨_,rfl,fun K' hK=>?_⟩
     obtain ⟨t,e9,hx1,hx2⟩:=h11
     simp only [e9] at hK ⊢
     have HNx:Hid (Al W1 w8 b a len cap 27):=hid (HA1.out.next (Sr.mono (by omega)) S8)
     clear S8 Sr
     go_simp
     refine hK.out _ _ ?_
     clear hK K' e9
     (try simp only [Exit.then])
     (try go_wp2_with fail)
     go_meet
     exact ⟨t,rfl,by omega,by omega,HNx.out.mono (by omega)⟩
  case rest =>
   clear HA1 hx1 hx2
   (try clear t)
   obtain ⟨t,rfl,ht1,ht2,ha⟩:=hcut
   have HA:=hid ha
   clear ha
   go_wp2_with fail
   refine (chance_src b a len cap 60 3 _ HA.out.1 (by omega) (by omega) (by omega)).mono ?_
   rintro e' w2 ⟨q,rfl,hs2,hg2⟩
   have HA5:=hid (HA.out.grow hs2 hg2)
   clear hs2 hg2 HA
   go_upto_if 37 with fail
   go_cut [5] from 6 to 57 (fun s5 wc=>∃ t:ByteArray,s5=.string t∧8≤t.size∧t.size≤2300∧Al W1 wc b a len cap 100)
   case first =>
    cases q with
    | false =>
     go_wp2_with fail
     go_meet
     exact ⟨t,rfl,by omega,by omega,HA5.out.mono (by omega)⟩
    | true =>
     go_wp2_with fail
     refine (next_src b a len cap 61 17 _ HA5.out.1 (by omega) (by omega) (by omega)).mono ?_
     rintro e' w3 ⟨r,rfl,r0,r1,hs3,hg3⟩
     obtain ⟨m,rfl⟩:=Int.eq_ofNat_of_zero_le r0
     have HA3:=hid (HA5.out.grow hs3 hg3)
     clear hs3 hg3
     go_wp2_with fail
     refine (digits_nat m _ (by omega)).mono ?_
     rintro e' w4 ⟨rfl,hb4⟩
     have HA4:=hid (HA3.out.below hb4)
     clear hb4
     obtain ⟨u,hu⟩:∃ u:ByteArray,⟨(Lib.decDigits m).toArray⟩=u:=⟨_,rfl⟩
     have hus:u.size≤30:=by rw [← hu];show (Lib.decDigits m).toArray.size≤_;rw [List.size_toArray];have:=digits.dec_len m;omega
     rw [hu]
     clear hu
     have hs8:¬ (9223372036854775807<6+u.size):=by omega
     have hs9:¬ (9223372036854775807<t.size+(6+u.size)):=by omega
     go_wp2_with fail
     go_meet
     exact ⟨_,rfl,by simp only [ByteArray.size_append];omega,by simp only [ByteArray.size_append];change t.size+(6+u.size)≤_;omega,HA4.out.mono (by omega)⟩
   case rest =>
    clear ht1 ht2 HA5
    (try clear t)
    obtain ⟨t,rfl,ht1,ht2,ha⟩:=hcut
    have HA:=hid ha
    clear ha
    go_wp2_with fail
    refine (chance_src b a len cap 100 2 _ HA.out.1 (by omega) (by omega) (by omega)).mono ?_
    rintro e' w2 ⟨q,rfl,hs2,hg2⟩
    have HA7:=hid (HA.out.grow hs2 hg2)
    clear hs2 hg2 HA
    go_upto_if 45 with fail
    go_cut [5] from 6 to 57 (fun s5 wc=>∃ t:ByteArray,s5=.string t∧8≤t.size∧t.size≤4400∧Al W1 wc b a len cap 140)
    case first =>
     cases q with
     | false =>
      go_wp2_with fail
      go_meet
      exact ⟨t,rfl,by omega,by omega,HA7.out.mono (by omega)⟩
     | true =>
      go_wp2_with fail
      refine (next_src b a len cap 101 2 _ HA7.out.1 (by omega) (by omega) (by omega)).mono ?_
      rintro e' w3 ⟨r,rfl,r0,r1,hs3,hg3⟩
      obtain ⟨m,rfl⟩:=Int.eq_ofNat_of_zero_le r0
      have HA3:=hid (HA7.out.grow hs3 hg3)
      clear hs3 hg3
      go_wp2_with fail
      refine (digits_nat m _ (by omega)).mono ?_
      rintro e' w4 ⟨rfl,hb4⟩
      have HA4:=hid (HA3.out.below hb4)
      clear hb4
      obtain ⟨u,hu⟩:∃ u:ByteArray,⟨(Lib.decDigits m).toArray⟩=u:=⟨_,rfl⟩
      have hus:u.size≤30:=by rw [← hu];show (Lib.decDigits m).toArray.size≤_;rw [List.size_toArray];have:=digits.dec_len m;omega
      rw [hu]
      clear hu
      have hs8:¬ (9223372036854775807<6+u.size):=by omega
      have hs9:¬ (9223372036854775807<t.size+(6+u.size)):=by omega
      go_wp2_with fail
      go_meet
      exact ⟨_,rfl,by simp only [ByteArray.size_append];omega,by simp only [ByteArray.size_append];change t.size+(6+u.size)≤_;omega,HA4.out.mono (by omega)⟩
    case rest =>
     clear ht1 ht2 HA7
     (try clear t)
     obtain ⟨t,rfl,ht1,ht2,ha⟩:=hcut
     have HA:=hid ha
     clear ha
     go_wp2_with fail
     refine (chance_src b a len cap 140 8 _ HA.out.1 (by omega) (by omega) (by omega)).mono ?_
     rintro e' w2 ⟨q,rfl,hs2,hg2⟩
     have HA9:=hid (HA.out.grow hs2 hg2)
     clear hs2 hg2 HA
     go_upto_if 53 with fail
     go_cut [5] from 6 to 57 (fun s5 wc=>∃ t:ByteArray,s5=.string t∧1≤t.size∧t.size≤4400∧Al W1 wc b a len cap 180)
     case first =>
      cases q with
      | false =>
       go_wp2_with fail
       go_meet
       exact ⟨t,rfl,by omega,by omega,HA9.out.mono (by omega)⟩
      | true =>
       go_wp2_with fail
       refine (pick_src b a len cap 141 w2.heap.size 10 28 10 _ (HA9.out.1.below Bl) (by omega) (by omega) (by omega) (by have:=HA9.out.2.size;omega) (fun i hi=>by
        rcases (show i=0∨i=1∨i=2∨i=3∨i=4∨i=5∨i=6∨i=7∨i=8∨i=9 by omega) with rfl|rfl|rfl|rfl|rfl|rfl|rfl|rfl|rfl|rfl <;> exact ⟨_,by simp [go_sem];rfl,by decide,by decide⟩)).mono ?_
       rintro e' w3 ⟨x,rfl,hx1,hx2,hs3,hg3⟩
       have HA3:=hid ((HA9.out.below Bl).grow hs3 hg3)
       clear hs3 hg3
       go_wp2_with fail
       go_meet
       exact ⟨x,rfl,by omega,by omega,HA3.out.mono (by omega)⟩
     case rest =>
      clear ht1 ht2 HA9
      (try clear t)
      obtain ⟨t,rfl,ht1,ht2,ha⟩:=hcut
      have HG:=hid (HE.out _ ha.2)
      clear ha
      go_wp2
      go_ret
      exact ⟨⟨t,rfl,by omega⟩,HG.out⟩
end Go.Proofs.YthompjbplddkgaaGreatDoor.askDraw
