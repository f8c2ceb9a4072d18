import Derived.Test.YthompjbplddkgaaGreatDoorPart42
import Derived.Deep.CutRange
import Derived.Deep.CutBlock
set_option linter.unusedVariables false
namespace Go.Proofs.YthompjbplddkgaaGreatDoor.saySpec
open Go.RowKit Go.Deep Go base names netSem netLines netBytes heldStore drawn sayText prodB
theorem num_spec {z:Int} (w:World) (h0:0≤z) (h1:z≤1000000000):Calls Tryz.prog 33 #[.int .i64 z] w fun e' w'=>e' = .returned (.string (numB z))∧Below w.heap.size w w' := digits.digits_spec z w (by omega) h1
set_option maxHeartbeats 1600000 in
theorem via_spec (p:Nat→Option Addr) (l c:Nat→Nat) (s:Ss) (g:R) (o e:List Int) (x f:R) (v:Int) (w:World) (h:StrRow w (p 0) (l 0) s) (h0 : -3≤v) (h1:v<l 0) :
  Calls Tryz.prog 59 #[netV p l c,.int .i64 v] w fun e' w'=>e' = .returned (.string (viaW s v))∧Below w.heap.size w w' := by
 have m0:=h.most
 unfold maxLen at m0
 by_cases hv:0≤v
 · obtain ⟨a,rfl⟩:=Int.eq_ofNat_of_zero_le hv
   obtain ⟨b,off,hp,hc⟩:=h.cell a (by omega)
   have HS:Hid (viaW s (a:Int)=s a):=hid (by unfold viaW;rw [if_neg (by omega),if_neg (by omega),if_neg (by omega)];rfl)
   have hl:(a:Int)<(l 0:Int):=h1
   clear h
   unfold netV
   rw [hp,HS.out]
   generalize s a=t at *
   have hbl:=World.block_lt_of_cell? _ _ hc
   simp only at hbl
   clear hp HS
   go_enter Tryz.func59,Tryz.ntmps59
   go_wp2
   go_ret
   exact ⟨rfl,Bl⟩
 · have h3:v = -3∨v = -2∨v = -1:=by omega
   clear h h1
   unfold netV
   rcases h3 with rfl|rfl|rfl
   all_goals
    clear h0 hv
    go_enter Tryz.func59,Tryz.ntmps59
    go_wp2
    go_ret
    exact ⟨rfl,Bl⟩
set_option maxHeartbeats 1600000 in
theorem text_holds (p:Nat→Option Addr) (l c:Nat→Nat) (s:Ss) (g:R) (o e:List Int) (x f:R) (w:World) (n:Int) (v2 v3 v4 v5:Value) (h0:0≤n) (h1:n≤1000000000) :
  Calls Tryz.prog 27 #[netV p l c,.agg #[.bool true,.int .i64 n,v2,v3,v4,v5]] w fun e' w'=>e' = .returned (.string (J (holdW n) ++ ⟨#[10]⟩))∧Below w.heap.size w w' := by
 have hz:=numB_size h0 h1
 have HD:Hid (∀ w8:World,Calls Tryz.prog 33 #[.int .i64 n] w8 fun e' w'=>e' = .returned (.string (numB n))∧Below w8.heap.size w8 w'):=hid (fun w8=>num_spec w8 h0 h1)
 have HJ:Hid (J (holdW n)=⟨#[104,111,108,100,115,32]⟩ ++ numB n):=hid (by unfold holdW J Lib.join;apply ByteArray.ext;simp [List.intercalate_cons_cons])
 rw [HJ.out]
 generalize numB n=t at *
 clear HJ h0 h1
 have hw1:¬ (9223372036854775807<6+t.size):=by omega
 have hw2:¬ (9223372036854775807<6+t.size+1):=by omega
 unfold netV
 go_enter Tryz.func27,Tryz.ntmps27
 go_wp2_with fail
 refine (HD.out _).mono ?_
 rintro e1 w1 ⟨rfl,hb1⟩
 have HB1:=hid ((show Below w.heap.size w _ from Bl).trans (hb1.mono (by simp;omega)))
 clear hb1
 go_wp2
 go_ret
 exact ⟨rfl,HB1.out⟩
set_option maxHeartbeats 6400000 in
set_option maxRecDepth 8000 in
theorem text_bad (p:Nat→Option Addr) (l c:Nat→Nat) (s:Ss) (g:R) (o e:List Int) (x f:R) (w:World) (n pt:Int) (D:List Bool) (E V:List Int) (x1 x2 x3:Option Addr) (x4 x5 x6:Nat) (h:NetIs w p l s g o e x f) (hB:netB l s g o e x f=true) (h0:0≤n) (h1:n≤1000000000) (h2:0≤pt) (h3:pt≤1000000000) (hE:∀ i,0≤zAt E i∧zAt E i≤2) (hV:∀ i,-3≤zAt V i∧zAt V i<l 0) (rD:BoolRow w x1 (l 1) D) (rE:IntRow w x2 (l 3) E) (rV:IntRow w x3 (l 0) V) :
  Calls Tryz.prog 27 #[netV p l c,.agg #[.bool false,.int .i64 n,.slice x1 (l 1) x4,.slice x2 (l 3) x5,.slice x3 (l 0) x6,.int .i64 pt]] w fun e' w'=>e' = .returned (.string (J (sayW l s g e n D E V pt) ++ ⟨#[10]⟩))∧Below w.heap.size w w' := by
 have G:=hid (good hB)
 have HE:=hid hE
 have HV:=hid hV
 have F1:=hid (few1 h0 h1 h2 h3)
 have HVi:Hid (∀ (v:Int) (w8:World),Below w.heap.size w w8→-3≤v→v<l 0→Calls Tryz.prog 59 #[netV p l c,.int .i64 v] w8 fun e' w'=>e' = .returned (.string (viaW s v))∧Below w8.heap.size w8 w'):=hid (fun v w8 hb=>via_spec p l c s g o e x f v w8 (h.routers.below hb))
 obtain ⟨p0,hp0⟩:∃ a,p 0=a:=⟨_,rfl⟩
 obtain ⟨p1,hp1⟩:∃ a,p 1=a:=⟨_,rfl⟩
 obtain ⟨p2,hp2⟩:∃ a,p 2=a:=⟨_,rfl⟩
 obtain ⟨p3,hp3⟩:∃ a,p 3=a:=⟨_,rfl⟩
 obtain ⟨p4,hp4⟩:∃ a,p 4=a:=⟨_,rfl⟩
 obtain ⟨p5,hp5⟩:∃ a,p 5=a:=⟨_,rfl⟩
 have HRW:Hid (∀ w8:World,Below w.heap.size w w8→StrRow w8 p0 (l 0) s∧Row 3 w8 p1 (l 1) g∧IntRow w8 p3 (l 3) e∧BoolRow w8 x1 (l 1) D∧IntRow w8 x2 (l 3) E∧IntRow w8 x3 (l 0) V):=hid (fun w8 h8=>by
  rw [← hp0,← hp1,← hp3]
  have hn:=h.below h8
  exact ⟨hn.routers,hn.links,hn.externals,rD.below h8,rE.below h8,rV.below h8⟩)
 have m0:=h.routers.most
 have m1:=h.links.most
 have m3:=h.externals.most
 unfold maxLen at m0 m1 m3
 unfold netV at HVi ⊢
 rw [hp0,hp1,hp2,hp3,hp4,hp5] at HVi ⊢
 have HDn:Hid (∀ w8:World,Calls Tryz.prog 33 #[.int .i64 n] w8 fun e' w'=>e' = .returned (.string (numB n))∧Below w8.heap.size w8 w'):=hid (fun w8=>num_spec w8 h0 h1)
 have HDp:Hid (∀ w8:World,Calls Tryz.prog 33 #[.int .i64 pt] w8 fun e' w'=>e' = .returned (.string (numB pt))∧Below w8.heap.size w8 w'):=hid (fun w8=>num_spec w8 h2 h3)
 have hzn:=numB_size h0 h1
 have hzp:=numB_size h2 h3
 have HJ1:Hid (J (W1 n pt)=⟨#[118,105,111,108,97,116,101,100,32]⟩ ++ numB n ++ ⟨#[32,112,111,114,116,32]⟩ ++ numB pt ++ ⟨#[32,100,111,119,110]⟩):=hid (by unfold W1 J Lib.join;apply ByteArray.ext;simp [List.intercalate_cons_cons])
 obtain ⟨tn,htn⟩:∃ t,numB n=t:=⟨_,rfl⟩
 obtain ⟨tp,htp⟩:∃ t,numB pt=t:=⟨_,rfl⟩
 rw [htn] at HDn hzn HJ1
 rw [htp] at HDp hzp HJ1
 obtain ⟨S,hS⟩:∃ S,sayW l s g e n D E V pt=S:=⟨_,rfl⟩
 have HS:=hid hS
 rw [hS]
 clear hp0 hp1 hp2 hp3 hp4 hp5 h hB htn htp hS hE hV h0 h1 h2 h3 rD rE rV
 have HC1:Hid (∀ w8:World,Below ((w.alloc (.cells #[.slice p0 (l 0) (c 0),.slice p1 (l 1) (c 1),.slice p2 (l 2) (c 2),.slice p3 (l 3) (c 3),.slice p4 (l 4) (c 4),.slice p5 (l 5) (c 5)] 29)).alloc (.cells #[.bool false,.int .i64 n,.slice x1 (l 1) x4,.slice x2 (l 3) x5,.slice x3 (l 0) x6,.int .i64 pt] 38)).heap.size ((w.alloc (.cells #[.slice p0 (l 0) (c 0),.slice p1 (l 1) (c 1),.slice p2 (l 2) (c 2),.slice p3 (l 3) (c 3),.slice p4 (l 4) (c 4),.slice p5 (l 5) (c 5)] 29)).alloc (.cells #[.bool false,.int .i64 n,.slice x1 (l 1) x4,.slice x2 (l 3) x5,.slice x3 (l 0) x6,.int .i64 pt] 38)) w8→(w8.cell? ⟨w.heap.size,0,none⟩=some (.slice p0 (l 0) (c 0))∧w8.cell? ⟨w.heap.size,1,none⟩=some (.slice p1 (l 1) (c 1))∧w8.cell? ⟨w.heap.size,2,none⟩=some (.slice p2 (l 2) (c 2))∧w8.cell? ⟨w.heap.size,3,none⟩=some (.slice p3 (l 3) (c 3))∧w8.cell? ⟨w.heap.size,4,none⟩=some (.slice p4 (l 4) (c 4))∧w8.cell? ⟨w.heap.size,5,none⟩=some (.slice p5 (l 5) (c 5))∧w8.cell? ⟨w.heap.size+1,0,none⟩=some (.bool false)∧w8.cell? ⟨w.heap.size+1,1,none⟩=some (.int .i64 n)∧w8.cell? ⟨w.heap.size+1,2,none⟩=some (.slice x1 (l 1) x4)∧w8.cell? ⟨w.heap.size+1,3,none⟩=some (.slice x2 (l 3) x5)∧w8.cell? ⟨w.heap.size+1,4,none⟩=some (.slice x3 (l 0) x6)∧w8.cell? ⟨w.heap.size+1,5,none⟩=some (.int .i64 pt))∧(StrRow w8 p0 (l 0) s∧Row 3 w8 p1 (l 1) g∧IntRow w8 p3 (l 3) e∧BoolRow w8 x1 (l 1) D∧IntRow w8 x2 (l 3) E∧IntRow w8 x3 (l 0) V)∧Below w.heap.size w w8):=hid (fun w8 hb=>by
  have B1:Below w.heap.size w w8:=(show Below w.heap.size w _ from Bl).trans (hb.mono (by simp;omega))
  exact ⟨⟨keep hb (by simp [go_sem]),keep hb (by simp [go_sem]),keep hb (by simp [go_sem]),keep hb (by simp [go_sem]),keep hb (by simp [go_sem]),keep hb (by simp [go_sem]),keep hb (by simp [go_sem]),keep hb (by simp [go_sem]),keep hb (by simp [go_sem]),keep hb (by simp [go_sem]),keep hb (by simp [go_sem]),keep hb (by simp [go_sem])⟩,HRW.out _ B1,B1⟩)
 clear HRW
 obtain ⟨q0,q1,q2,q3,q4,q5,y0,y1,y2,y3,y4,y5⟩:=(HC1.out _ (Below.refl _ _)).1
 obtain ⟨v1,hxv1⟩:∃ y:ByteArray,⟨#[118,105,111,108,97,116,101,100,32]⟩ ++ tn=y:=⟨_,rfl⟩
 have HXv1:=hid hxv1
 have hzv1:v1.size=9+tn.size:=by rw [← hxv1,ByteArray.size_append];first|done|rfl
 have hwv1:¬ (9223372036854775807<9+tn.size):=by omega
 have hvv1:v1.size≤300000:=by omega
 clear hxv1
 obtain ⟨v2,hxv2⟩:∃ y:ByteArray,v1 ++ ⟨#[32,112,111,114,116,32]⟩=y:=⟨_,rfl⟩
 have HXv2:=hid hxv2
 have hzv2:v2.size=v1.size+6:=by rw [← hxv2,ByteArray.size_append];first|done|rfl
 have hwv2:¬ (9223372036854775807<v1.size+6):=by omega
 have hvv2:v2.size≤300000:=by omega
 clear hxv2
 obtain ⟨v3,hxv3⟩:∃ y:ByteArray,v2 ++ tp=y:=⟨_,rfl⟩
 have HXv3:=hid hxv3
 have hzv3:v3.size=v2.size+tp.size:=by rw [← hxv3,ByteArray.size_append];first|done|rfl
 have hwv3:¬ (9223372036854775807<v2.size+tp.size):=by omega
 have hvv3:v3.size≤300000:=by omega
 clear hxv3
 obtain ⟨v4,hxv4⟩:∃ y:ByteArray,v3 ++ ⟨#[32,100,111,119,110]⟩=y:=⟨_,rfl⟩
 have HXv4:=hid hxv4
 have hzv4:v4.size=v3.size+5:=by rw [← hxv4,ByteArray.size_append];first|done|rfl
 have hwv4:¬ (9223372036854775807<v3.size+5):=by omega
 have hvv4:v4.size≤300000:=by omega
 clear hxv4
 clear hzv1
 clear hzv2
 clear hzv3
 clear hzv4
 have HJ:Hid (J (W1 n pt)=v4):=hid (by rw [HJ1.out,HXv1.out,HXv2.out,HXv3.out,HXv4.out])
 clear HJ1
 go_enter Tryz.func27,Tryz.ntmps27
 go_upto_region 3 with fail
 rw [show w.heap.size+1=w.heap.size+1 from rfl]
 refine region_below (fun ua=>⟨#[.agg #[.slice p0 (l 0) (c 0),.slice p1 (l 1) (c 1),.slice p2 (l 2) (c 2),.slice p3 (l 3) (c 3),.slice p4 (l 4) (c 4),.slice p5 (l 5) (c 5)],.agg #[.bool false,.int .i64 n,.slice x1 (l 1) x4,.slice x2 (l 3) x5,.slice x3 (l 0) x6,.int .i64 pt],.pointer (some ⟨w.heap.size,0,none⟩),.pointer (some ⟨w.heap.size+1,0,none⟩),.string { data:=#[] },undef,undef,undef,undef,.pointer (some ⟨w.heap.size+1,0,none⟩),.bool false,undef,undef,undef,undef,undef,ua 16,ua 17,ua 18,ua 19,ua 20,ua 21,ua 22,ua 23,ua 24,ua 25,undef,undef,undef,undef,undef,undef,undef,undef,undef,undef,undef,undef,undef,undef,undef,undef,undef,undef,undef,undef,undef,undef,undef,undef,undef,undef,undef,undef,undef,undef,undef,undef,undef,undef,undef,undef,undef,undef,undef,undef,undef,undef,undef,undef,undef,undef,undef,undef,undef,undef,undef,undef,undef,undef,undef,undef,undef,undef,undef,undef,undef,undef,undef,undef,undef,undef,undef,undef,undef,undef,undef,undef,undef,undef,undef,undef,undef,undef,undef,undef,undef,undef,undef,undef,undef,undef,undef,undef,undef,undef,undef,undef,undef,undef],[]⟩) (fun i=>[16,17,18,19,20,21,22,23,24,25].getD i 0) (fun i v w8=>match i with|0=>v=.pointer (some ⟨w.heap.size+1,1,none⟩)|1=>v=.int .i64 n|2=>v=.string tn|3=>v=.string v1|4=>v=.string v2|5=>v=.pointer (some ⟨w.heap.size+1,5,none⟩)|6=>v=.int .i64 pt|7=>v=.string tp|8=>v=.string v3|9=>v=.string v4|_=>True) _ 10 (fun k=>match k with|16=>undef|17=>undef|18=>undef|19=>undef|20=>undef|21=>undef|22=>undef|23=>undef|24=>undef|25=>undef|_=>undef) (by rfl) (by kernel_rfl) (by rfl) ⟨by kernel_rfl,by kernel_rfl,by kernel_rfl,by decide⟩ (by kernel_rfl) (Below.refl _ _) ?hput ?hinj ?stable ?step ?last
 case hput =>
  intro i hi ua v
  match i,hi with
  | 0,_=>rfl
  | 1,_=>rfl
  | 2,_=>rfl
  | 3,_=>rfl
  | 4,_=>rfl
  | 5,_=>rfl
  | 6,_=>rfl
  | 7,_=>rfl
  | 8,_=>rfl
  | 9,_=>rfl
  | i+10,hi=>exact absurd hi (by omega)
 case hinj =>
  intro i j hi hj h
  exact slots_inj [16,17,18,19,20,21,22,23,24,25] (by decide) hi hj h
 case stable =>
  intro i v w8 w9 hb h
  match i,h with
  | 0,h=>exact h
  | 1,h=>exact h
  | 2,h=>exact h
  | 3,h=>exact h
  | 4,h=>exact h
  | 5,h=>exact h
  | 6,h=>exact h
  | 7,h=>exact h
  | 8,h=>exact h
  | 9,h=>exact h
  | _+10,h=>trivial
 case step =>
  intro i hi ua w8 S8 hdep
  match i,hi with
  | 0,_ =>
   clear hdep
   refine ⟨_,rfl,fun K' hK=>?_⟩
   go_simp
   exact hK.out _ _ (Below.refl _ _) rfl
  | 1,_ =>
   have h0:(ua 16)=.pointer (some ⟨w.heap.size+1,1,none⟩):=hdep 0 (by kernel_rfl)
   clear hdep
   refine ⟨_,rfl,fun K' hK=>?_⟩
   obtain ⟨⟨f0,f1,f2,f3,f4,f5,g0,g1,g2,g3,g4,g5⟩,_,_⟩:=HC1.out _ S8
   simp only [h0] at hK ⊢
   go_simp
   exact hK.out _ _ (Below.refl _ _) rfl
  | 2,_ =>
   have h1:(ua 17)=.int .i64 n:=hdep 1 (by kernel_rfl)
   clear hdep
   refine ⟨_,rfl,fun K' hK=>?_⟩
   simp only [h1] at hK ⊢
   go_simp
   refine (HDn.out _).mono ?_
   rintro e9 w9 ⟨rfl,hb9⟩
   exact hK.out _ _ hb9 rfl
  | 3,_ =>
   have h2:(ua 18)=.string tn:=hdep 2 (by kernel_rfl)
   clear hdep
   refine ⟨_,rfl,fun K' hK=>?_⟩
   simp only [h2] at hK ⊢
   go_simp
   exact hK.out _ _ (Below.refl _ _) (by rw [HXv1.out])
  | 4,_ =>
   have h3:(ua 19)=.string v1:=hdep 3 (by kernel_rfl)
   clear hdep
   refine ⟨_,rfl,fun K' hK=>?_⟩
   simp only [h3] at hK ⊢
   go_simp
   exact hK.out _ _ (Below.refl _ _) (by rw [HXv2.out])
  | 5,_ =>
   clear hdep
   refine ⟨_,rfl,fun K' hK=>?_⟩
   go_simp
   exact hK.out _ _ (Below.refl _ _) rfl
  | 6,_ =>
   have h5:(ua 21)=.pointer (some ⟨w.heap.size+1,5,none⟩):=hdep 5 (by kernel_rfl)
   clear hdep
   refine ⟨_,rfl,fun K' hK=>?_⟩
   obtain ⟨⟨f0,f1,f2,f3,f4,f5,g0,g1,g2,g3,g4,g5⟩,_,_⟩:=HC1.out _ S8
   simp only [h5] at hK ⊢
   go_simp
   exact hK.out _ _ (Below.refl _ _) rfl
  | 7,_ =>
   have h6:(ua 22)=.int .i64 pt:=hdep 6 (by kernel_rfl)
   clear hdep
   refine ⟨_,rfl,fun K' hK=>?_⟩
   simp only [h6] at hK ⊢
   go_simp
   refine (HDp.out _).mono ?_
   rintro e9 w9 ⟨rfl,hb9⟩
   exact hK.out _ _ hb9 rfl
  | 8,_ =>
   have h4:(ua 20)=.string v2:=hdep 4 (by kernel_rfl)
   have h7:(ua 23)=.string tp:=hdep 7 (by kernel_rfl)
   clear hdep
   refine ⟨_,rfl,fun K' hK=>?_⟩
   simp only [h4,h7] at hK ⊢
   go_simp
   exact hK.out _ _ (Below.refl _ _) (by rw [HXv3.out])
  | 9,_ =>
   have h8:(ua 24)=.string v3:=hdep 8 (by kernel_rfl)
   clear hdep
   refine ⟨_,rfl,fun K' hK=>?_⟩
   simp only [h8] at hK ⊢
   go_simp
   exact hK.out _ _ (Below.refl _ _) (by rw [HXv4.out])
  | i+10,hi=>exact absurd hi (by omega)
 case last =>
  intro ua w8 S8 hall
  have h9:(ua 25)=.string v4:=hall 9 (by decide)
  clear hall
  refine ⟨_,rfl,fun K' hK=>?_⟩
  simp only [h9] at hK ⊢
  go_simp
  refine hK.out _ _ ?_
  have HB0:=hid S8
  clear hK K' h9 S8 q0 q1 q2 q3 q4 q5 y0 y1 y2 y3 y4 y5
  (try simp only [Exit.then])
  go_wp2_with fail
  go_loopw [6,5] (fun i v wr=>∃ k:Nat,k≤l 1∧i=.int .i64 k∧v=.string (J (W2 s g D n pt k))∧Below ((w.alloc (.cells #[.slice p0 (l 0) (c 0),.slice p1 (l 1) (c 1),.slice p2 (l 2) (c 2),.slice p3 (l 3) (c 3),.slice p4 (l 4) (c 4),.slice p5 (l 5) (c 5)] 29)).alloc (.cells #[.bool false,.int .i64 n,.slice x1 (l 1) x4,.slice x2 (l 3) x5,.slice x3 (l 0) x6,.int .i64 pt] 38)).heap.size ((w.alloc (.cells #[.slice p0 (l 0) (c 0),.slice p1 (l 1) (c 1),.slice p2 (l 2) (c 2),.slice p3 (l 3) (c 3),.slice p4 (l 4) (c 4),.slice p5 (l 5) (c 5)] 29)).alloc (.cells #[.bool false,.int .i64 n,.slice x1 (l 1) x4,.slice x2 (l 3) x5,.slice x3 (l 0) x6,.int .i64 pt] 38)) wr) (fun i _ _=>l 1 - (intOf i).toNat)
  case atStart=>exact ⟨0,Nat.zero_le _,rfl,(by rw [show W2 s g D n pt 0=W1 n pt from rfl,HJ.out]),HB0.out⟩
  case round =>
   clear HB0
   obtain ⟨k1,hk,rfl,rfl,hbel⟩:=hrel
   have HB0:=hid hbel
   obtain ⟨⟨q0,q1,q2,q3,q4,q5,y0,y1,y2,y3,y4,y5⟩,⟨r0,r1,r3,rd,re,rv⟩,hB⟩:=HC1.out _ hbel
   have R0:=hid r0
   have R1:=hid r1
   have R3:=hid r3
   have RD:=hid rd
   have RE:=hid re
   have RV:=hid rv
   have BR:=hid hB
   have hsz:=hbel.size
   have hzr:=World.block_lt_of_cell? _ _ q0
   have hzv:=World.block_lt_of_cell? _ _ y0
   simp only at hzr hzv
   have hjs:=(few2 G.out (D:=D) F1.out k1 hk).size (by have:=G.out.l0;have:=G.out.l1;have:=G.out.l3;omega)
   clear hbel r0 r1 r3 rd re rv hB
   by_cases hlt:k1<l 1
   · obtain ⟨bd,od,rfl,hd⟩:=RD.out.cell k1 hlt
     rw [show D[k1]?.getD false=bAt D k1 from rfl] at hd
     obtain ⟨b,off,rfl,hc0,hc1,hc2⟩:=R1.out.at3 hlt
     obtain ⟨na,nb,nn,hna,hnb,hnn,e1,e2,e3⟩:=G.out.link k1 hlt
     obtain ⟨b0,off0,rfl,ha0⟩:=R0.out.cell na hna
     obtain ⟨b0',off0',hpp,hb0⟩:=R0.out.cell nb hnb
     cases hpp
     have hsa:=G.out.name na hna
     have hsb:=G.out.name nb hnb
     rw [e1] at hc0
     rw [e2] at hc1
     obtain ⟨jb,hjb⟩:∃ y:ByteArray,J (W2 s g D n pt k1)=y:=⟨_,rfl⟩
     rw [hjb] at hjs ⊢
     obtain ⟨db,hdb⟩:∃ db,bAt D k1=db:=⟨_,rfl⟩
     have HN:Hid (J (W2 s g D n pt (k1+1))=if db then jb ++ (⟨#[32]⟩ ++ (s na ++ ⟨#[45]⟩ ++ s nb)) else jb):=hid (by
      unfold W2
      rw [hdb]
      cases db with
      | false=>rw [if_neg (by decide),if_neg (by decide),List.append_nil,hjb]
      | true=>rw [if_pos rfl,if_pos rfl,J_snoc _ (few2 G.out (D:=D) F1.out k1 hk).1,hjb];unfold linkW;rw [e1,e2];rfl)
     rw [hdb] at hd
     generalize s na=sa at *
     generalize s nb=sb at *
     clear e1 e2 e3 hjb hdb
     cases db with
     | false =>
      go_wp2_with fail
      go_roundw
      case rel=>exact ⟨k1+1,by omega,by go_num,by rw [HN.out];rfl,HB0.out⟩
      case measure=>simp [intOf];omega
     | true =>
      rw [if_pos rfl] at HN
      obtain ⟨a1,hxa1⟩:∃ y:ByteArray,⟨#[32]⟩ ++ sa=y:=⟨_,rfl⟩
      have HXa1:=hid hxa1
      have hza1:a1.size=1+sa.size:=by rw [← hxa1,ByteArray.size_append];first|done|rfl
      have hwa1:¬ (9223372036854775807<1+sa.size):=by omega
      have hva1:a1.size≤300000:=by omega
      clear hxa1
      obtain ⟨a2,hxa2⟩:∃ y:ByteArray,a1 ++ ⟨#[45]⟩=y:=⟨_,rfl⟩
      have HXa2:=hid hxa2
      have hza2:a2.size=a1.size+1:=by rw [← hxa2,ByteArray.size_append];first|done|rfl
      have hwa2:¬ (9223372036854775807<a1.size+1):=by omega
      have hva2:a2.size≤300000:=by omega
      clear hxa2
      obtain ⟨a3,hxa3⟩:∃ y:ByteArray,a2 ++ sb=y:=⟨_,rfl⟩
      have HXa3:=hid hxa3
      have hza3:a3.size=a2.size+sb.size:=by rw [← hxa3,ByteArray.size_append];first|done|rfl
      have hwa3:¬ (9223372036854775807<a2.size+sb.size):=by omega
      have hva3:a3.size≤300000:=by omega
      clear hxa3
      obtain ⟨a4,hxa4⟩:∃ y:ByteArray,jb ++ a3=y:=⟨_,rfl⟩
      have HXa4:=hid hxa4
      have hza4:a4.size=jb.size+a3.size:=by rw [← hxa4,ByteArray.size_append];first|done|rfl
      have hwa4:¬ (9223372036854775807<jb.size+a3.size):=by omega
      have hva4:a4.size≤300000:=by omega
      clear hxa4
      clear hza1
      clear hza2
      clear hza3
      clear hza4
      have HN4:Hid (J (W2 s g D n pt (k1+1))=a4):=hid (by rw [HN.out,← HXa4.out,← HXa3.out,← HXa2.out,← HXa1.out];simp only [ByteArray.append_assoc])
      clear HN
      have F8:Hid (∀ w8:World,Below wr.heap.size wr w8→w8.cell? ⟨w.heap.size,0,none⟩=some (.slice (some ⟨b0,off0,none⟩) (l 0) (c 0))∧w8.cell? ⟨w.heap.size,1,none⟩=some (.slice (some ⟨b,off,none⟩) (l 1) (c 1))∧w8.cell? ⟨b,off+k1*3,none⟩=some (.int .i64 (na:Int))∧w8.cell? ⟨b,off+k1*3+1,none⟩=some (.int .i64 (nb:Int))∧w8.cell? ⟨b0,off0+na,none⟩=some (.string sa)∧w8.cell? ⟨b0,off0+nb,none⟩=some (.string sb)):=hid (fun w8 S8=>⟨keep S8 q0,keep S8 q1,keep S8 hc0,keep S8 hc1,keep S8 ha0,keep S8 hb0⟩)
      have hk1:(k1:Int)<(l 1:Int):=by omega
      go_upto_region 8 with fail
      clear q0 q1 q2 q3 q4 q5 y0 y1 y2 y3 y4 y5 hc0 hc1 hc2 ha0 hb0 hd
      refine region_below (fun ub=>⟨#[.agg #[.slice (some ⟨b0,off0,none⟩) (l 0) (c 0),.slice (some ⟨b,off,none⟩) (l 1) (c 1),.slice p2 (l 2) (c 2),.slice p3 (l 3) (c 3),.slice p4 (l 4) (c 4),.slice p5 (l 5) (c 5)],.agg #[.bool false,.int .i64 n,.slice (some ⟨bd,od,none⟩) (l 1) x4,.slice x2 (l 3) x5,.slice x3 (l 0) x6,.int .i64 pt],.pointer (some ⟨w.heap.size,0,none⟩),.pointer (some ⟨w.heap.size+1,0,none⟩),.string { data:=#[] },.string jb,.int .i64 ↑k1,undef,undef,.pointer (some ⟨w.heap.size+1,0,none⟩),.bool false,undef,undef,undef,undef,undef,ua 16,ua 17,ua 18,ua 19,ua 20,ua 21,ua 22,ua 23,ua 24,.string v4,.int .i64 ↑k1,.pointer (some ⟨w.heap.size+1,2,none⟩),.slice (some ⟨bd,od,none⟩) (l 1) x4,.int .i64 ↑(l 1),.bool true,u31,u32,.pointer (some ⟨w.heap.size+1,2,none⟩),.slice (some ⟨bd,od,none⟩) (l 1) x4,.int .i64 ↑k1,.pointer (some ⟨bd,od+k1,none⟩),.bool true,ub 38,ub 39,ub 40,ub 41,ub 42,ub 43,ub 44,ub 45,ub 46,ub 47,ub 48,ub 49,ub 50,ub 51,ub 52,ub 53,ub 54,ub 55,ub 56,ub 57,ub 58,ub 59,ub 60,ub 61,ub 62,undef,undef,undef,undef,undef,undef,undef,undef,undef,undef,undef,undef,undef,undef,undef,undef,undef,undef,undef,undef,undef,undef,undef,undef,undef,undef,undef,undef,undef,undef,undef,undef,undef,undef,undef,undef,undef,undef,undef,undef,undef,undef,undef,undef,undef,undef,undef,undef,undef,undef,undef,undef,undef,undef,undef,undef,undef],[]⟩) (fun i=>[38,39,40,41,42,43,44,45,46,47,48,49,50,51,52,53,54,55,56,57,58,59,60,61,62].getD i 0) (fun i v w8=>match i with|0=>v=.string jb|1=>v=.pointer (some ⟨w.heap.size,0,none⟩)|2=>v=.slice (some ⟨b0,off0,none⟩) (l 0) (c 0)|3=>v=.pointer (some ⟨w.heap.size,1,none⟩)|4=>v=.slice (some ⟨b,off,none⟩) (l 1) (c 1)|5=>v=.int .i64 (k1:Int)|6=>v=.pointer (some ⟨b,off+k1*3,none⟩)|7=>v=.pointer (some ⟨b,off+k1*3,none⟩)|8=>v=.int .i64 (na:Int)|9=>v=.pointer (some ⟨b0,off0+na,none⟩)|10=>v=.string sa|11=>v=.string a1|12=>v=.string a2|13=>v=.pointer (some ⟨w.heap.size,0,none⟩)|14=>v=.slice (some ⟨b0,off0,none⟩) (l 0) (c 0)|15=>v=.pointer (some ⟨w.heap.size,1,none⟩)|16=>v=.slice (some ⟨b,off,none⟩) (l 1) (c 1)|17=>v=.int .i64 (k1:Int)|18=>v=.pointer (some ⟨b,off+k1*3,none⟩)|19=>v=.pointer (some ⟨b,off+k1*3+1,none⟩)|20=>v=.int .i64 (nb:Int)|21=>v=.pointer (some ⟨b0,off0+nb,none⟩)|22=>v=.string sb|23=>v=.string a3|24=>v=.string a4|_=>True) wr 25 (fun k=>match k with|38=>u38|39=>u39|40=>u40|41=>u41|42=>u42|43=>u43|44=>u44|45=>u45|46=>u46|47=>u47|48=>u48|49=>u49|50=>u50|51=>u51|52=>u52|53=>u53|54=>u54|55=>u55|56=>u56|57=>u57|58=>u58|59=>u59|60=>u60|61=>u61|62=>u62|_=>undef) (by rfl) (by kernel_rfl) (by rfl) ⟨by kernel_rfl,by kernel_rfl,by kernel_rfl,by decide⟩ (by kernel_rfl) (Below.refl _ _) ?hput ?hinj ?stable ?step ?last
      case hput =>
       intro i hi ub v
       match i,hi with
       | 0,_=>rfl
       | 1,_=>rfl
       | 2,_=>rfl
       | 3,_=>rfl
       | 4,_=>rfl
       | 5,_=>rfl
       | 6,_=>rfl
       | 7,_=>rfl
       | 8,_=>rfl
       | 9,_=>rfl
       | 10,_=>rfl
       | 11,_=>rfl
       | 12,_=>rfl
       | 13,_=>rfl
       | 14,_=>rfl
       | 15,_=>rfl
       | 16,_=>rfl
       | 17,_=>rfl
       | 18,_=>rfl
       | 19,_=>rfl
       | 20,_=>rfl
       | 21,_=>rfl
       | 22,_=>rfl
       | 23,_=>rfl
       | 24,_=>rfl
       | i+25,hi=>exact absurd hi (by omega)
      case hinj =>
       intro i j hi hj h
       exact slots_inj [38,39,40,41,42,43,44,45,46,47,48,49,50,51,52,53,54,55,56,57,58,59,60,61,62] (by decide) hi hj h
      case stable =>
       intro i v w8 w9 hb h
       match i,h with
       | 0,h=>exact h
       | 1,h=>exact h
       | 2,h=>exact h
       | 3,h=>exact h
       | 4,h=>exact h
       | 5,h=>exact h
       | 6,h=>exact h
       | 7,h=>exact h
       | 8,h=>exact h
       | 9,h=>exact h
       | 10,h=>exact h
       | 11,h=>exact h
       | 12,h=>exact h
       | 13,h=>exact h
       | 14,h=>exact h
       | 15,h=>exact h
       | 16,h=>exact h
       | 17,h=>exact h
       | 18,h=>exact h
       | 19,h=>exact h
       | 20,h=>exact h
       | 21,h=>exact h
       | 22,h=>exact h
       | 23,h=>exact h
       | 24,h=>exact h
       | _+25,h=>trivial
      case step =>
       intro i hi ub w8 S8 hdep
       match i,hi with
       | 0,_ =>
        clear hdep
        refine ⟨_,rfl,fun K' hK=>?_⟩
        go_simp
        exact hK.out _ _ (Below.refl _ _) rfl
       | 1,_ =>
        clear hdep
        refine ⟨_,rfl,fun K' hK=>?_⟩
        go_simp
        exact hK.out _ _ (Below.refl _ _) rfl
       | 2,_ =>
        have h1:(ub 39)=.pointer (some ⟨w.heap.size,0,none⟩):=hdep 1 (by kernel_rfl)
        clear hdep
        refine ⟨_,rfl,fun K' hK=>?_⟩
        obtain ⟨f0,f1,fa,fb,fc,fd⟩:=F8.out _ S8
        simp only [h1] at hK ⊢
        go_simp
        exact hK.out _ _ (Below.refl _ _) rfl
       | 3,_ =>
        clear hdep
        refine ⟨_,rfl,fun K' hK=>?_⟩
        go_simp
        exact hK.out _ _ (Below.refl _ _) rfl
       | 4,_ =>
        have h3:(ub 41)=.pointer (some ⟨w.heap.size,1,none⟩):=hdep 3 (by kernel_rfl)
        clear hdep
        refine ⟨_,rfl,fun K' hK=>?_⟩
        obtain ⟨f0,f1,fa,fb,fc,fd⟩:=F8.out _ S8
        simp only [h3] at hK ⊢
        go_simp
        exact hK.out _ _ (Below.refl _ _) rfl
       | 5,_ =>
        clear hdep
        refine ⟨_,rfl,fun K' hK=>?_⟩
        go_simp
        exact hK.out _ _ (Below.refl _ _) rfl
       | 6,_ =>
        have h4:(ub 42)=.slice (some ⟨b,off,none⟩) (l 1) (c 1):=hdep 4 (by kernel_rfl)
        have h5:(ub 43)=.int .i64 (k1:Int):=hdep 5 (by kernel_rfl)
        clear hdep
        refine ⟨_,rfl,fun K' hK=>?_⟩
        simp only [h4,h5] at hK ⊢
        go_simp
        exact hK.out _ _ (Below.refl _ _) rfl
       | 7,_ =>
        have h6:(ub 44)=.pointer (some ⟨b,off+k1*3,none⟩):=hdep 6 (by kernel_rfl)
        clear hdep
        refine ⟨_,rfl,fun K' hK=>?_⟩
        simp only [h6] at hK ⊢
        go_simp
        exact hK.out _ _ (Below.refl _ _) rfl
       | 8,_ =>
        have h7:(ub 45)=.pointer (some ⟨b,off+k1*3,none⟩):=hdep 7 (by kernel_rfl)
        clear hdep
        refine ⟨_,rfl,fun K' hK=>?_⟩
        obtain ⟨f0,f1,fa,fb,fc,fd⟩:=F8.out _ S8
        simp only [h7] at hK ⊢
        go_simp
        exact hK.out _ _ (Below.refl _ _) rfl
       | 9,_ =>
        have h2:(ub 40)=.slice (some ⟨b0,off0,none⟩) (l 0) (c 0):=hdep 2 (by kernel_rfl)
        have h8:(ub 46)=.int .i64 (na:Int):=hdep 8 (by kernel_rfl)
        clear hdep
        refine ⟨_,rfl,fun K' hK=>?_⟩
        have hnq:(na:Int)<(l 0:Int):=by omega
        simp only [h2,h8] at hK ⊢
        go_simp
        exact hK.out _ _ (Below.refl _ _) rfl
       | 10,_ =>
        have h9:(ub 47)=.pointer (some ⟨b0,off0+na,none⟩):=hdep 9 (by kernel_rfl)
        clear hdep
        refine ⟨_,rfl,fun K' hK=>?_⟩
        obtain ⟨f0,f1,fa,fb,fc,fd⟩:=F8.out _ S8
        simp only [h9] at hK ⊢
        go_simp
        exact hK.out _ _ (Below.refl _ _) rfl
       | 11,_ =>
        have h10:(ub 48)=.string sa:=hdep 10 (by kernel_rfl)
        clear hdep
        refine ⟨_,rfl,fun K' hK=>?_⟩
        simp only [h10] at hK ⊢
        go_simp
        exact hK.out _ _ (Below.refl _ _) (by rw [HXa1.out])
       | 12,_ =>
        have h11:(ub 49)=.string a1:=hdep 11 (by kernel_rfl)
        clear hdep
        refine ⟨_,rfl,fun K' hK=>?_⟩
        simp only [h11] at hK ⊢
        go_simp
        exact hK.out _ _ (Below.refl _ _) (by rw [HXa2.out])
       | 13,_ =>
        clear hdep
        refine ⟨_,rfl,fun K' hK=>?_⟩
        go_simp
        exact hK.out _ _ (Below.refl _ _) rfl
       | 14,_ =>
        have h13:(ub 51)=.pointer (some ⟨w.heap.size,0,none⟩):=hdep 13 (by kernel_rfl)
        clear hdep
        refine ⟨_,rfl,fun K' hK=>?_⟩
        obtain ⟨f0,f1,fa,fb,fc,fd⟩:=F8.out _ S8
        simp only [h13] at hK ⊢
        go_simp
        exact hK.out _ _ (Below.refl _ _) rfl
       | 15,_ =>
        clear hdep
        refine ⟨_,rfl,fun K' hK=>?_⟩
        go_simp
        exact hK.out _ _ (Below.refl _ _) rfl
       | 16,_ =>
        have h15:(ub 53)=.pointer (some ⟨w.heap.size,1,none⟩):=hdep 15 (by kernel_rfl)
        clear hdep
        refine ⟨_,rfl,fun K' hK=>?_⟩
        obtain ⟨f0,f1,fa,fb,fc,fd⟩:=F8.out _ S8
        simp only [h15] at hK ⊢
        go_simp
        exact hK.out _ _ (Below.refl _ _) rfl
       | 17,_ =>
        clear hdep
        refine ⟨_,rfl,fun K' hK=>?_⟩
        go_simp
        exact hK.out _ _ (Below.refl _ _) rfl
       | 18,_ =>
        have h16:(ub 54)=.slice (some ⟨b,off,none⟩) (l 1) (c 1):=hdep 16 (by kernel_rfl)
        have h17:(ub 55)=.int .i64 (k1:Int):=hdep 17 (by kernel_rfl)
        clear hdep
        refine ⟨_,rfl,fun K' hK=>?_⟩
        simp only [h16,h17] at hK ⊢
        go_simp
        exact hK.out _ _ (Below.refl _ _) rfl
       | 19,_ =>
        have h18:(ub 56)=.pointer (some ⟨b,off+k1*3,none⟩):=hdep 18 (by kernel_rfl)
        clear hdep
        refine ⟨_,rfl,fun K' hK=>?_⟩
        simp only [h18] at hK ⊢
        go_simp
        exact hK.out _ _ (Below.refl _ _) rfl
       | 20,_ =>
        have h19:(ub 57)=.pointer (some ⟨b,off+k1*3+1,none⟩):=hdep 19 (by kernel_rfl)
        clear hdep
        refine ⟨_,rfl,fun K' hK=>?_⟩
        obtain ⟨f0,f1,fa,fb,fc,fd⟩:=F8.out _ S8
        simp only [h19] at hK ⊢
        go_simp
        exact hK.out _ _ (Below.refl _ _) rfl
       | 21,_ =>
        have h14:(ub 52)=.slice (some ⟨b0,off0,none⟩) (l 0) (c 0):=hdep 14 (by kernel_rfl)
        have h20:(ub 58)=.int .i64 (nb:Int):=hdep 20 (by kernel_rfl)
        clear hdep
        refine ⟨_,rfl,fun K' hK=>?_⟩
        have hnq:(nb:Int)<(l 0:Int):=by omega
        simp only [h14,h20] at hK ⊢
        go_simp
        exact hK.out _ _ (Below.refl _ _) rfl
       | 22,_ =>
        have h21:(ub 59)=.pointer (some ⟨b0,off0+nb,none⟩):=hdep 21 (by kernel_rfl)
        clear hdep
        refine ⟨_,rfl,fun K' hK=>?_⟩
        obtain ⟨f0,f1,fa,fb,fc,fd⟩:=F8.out _ S8
        simp only [h21] at hK ⊢
        go_simp
        exact hK.out _ _ (Below.refl _ _) rfl
       | 23,_ =>
        have h12:(ub 50)=.string a2:=hdep 12 (by kernel_rfl)
        have h22:(ub 60)=.string sb:=hdep 22 (by kernel_rfl)
        clear hdep
        refine ⟨_,rfl,fun K' hK=>?_⟩
        simp only [h12,h22] at hK ⊢
        go_simp
        exact hK.out _ _ (Below.refl _ _) (by rw [HXa3.out])
       | 24,_ =>
        have h0:(ub 38)=.string jb:=hdep 0 (by kernel_rfl)
        have h23:(ub 61)=.string a3:=hdep 23 (by kernel_rfl)
        clear hdep
        refine ⟨_,rfl,fun K' hK=>?_⟩
        simp only [h0,h23] at hK ⊢
        go_simp
        exact hK.out _ _ (Below.refl _ _) (by rw [HXa4.out])
       | i+25,hi=>exact absurd hi (by omega)
      case last =>
       intro ub w8 S8 hall
       have h24:(ub 62)=.string a4:=hall 24 (by decide)
       clear hall
       refine ⟨_,rfl,fun K' hK=>?_⟩
       simp only [h24] at hK ⊢
       go_simp
       refine hK.out _ _ ?_
       have HB8:=hid (HB0.out.trans (S8.mono hsz))
       clear hK K' h24 S8
       (try simp only [Exit.inBlock,Exit.then])
       go_wp2
       go_roundw
       case rel=>exact ⟨k1+1,by omega,by go_num,by rw [HN4.out],HB8.out⟩
       case measure=>simp [intOf];omega
   · have ek:k1=l 1:=by omega
     have hlt':decide (k1<l 1)=false:=decide_eq_false hlt
     obtain ⟨U2,hU2⟩:∃ y,W2 s g D n pt (l 1)=y:=⟨_,rfl⟩
     have HU2:=hid hU2
     have hF:=few2 G.out (D:=D) F1.out k1 hk
     rw [ek] at hF hjs hlt' ⊢
     rw [hU2] at hF hjs ⊢
     have F2:=hid hF
     clear hlt ek hk hU2 hF R0 R1 R3 RD RE RV
     obtain ⟨jc1,hjc⟩:∃ y:ByteArray,J U2=y:=⟨_,rfl⟩
     have HJ2:Hid (J (W3 s e E U2 0)=jc1 ++ ⟨#[32,102,114,111,109]⟩):=hid (by rw [show W3 s e E U2 0=U2 ++ [⟨#[102,114,111,109]⟩] from rfl,J_snoc _ F2.out.1,hjc];rfl)
     rw [hjc] at hjs ⊢
     clear hjc
     have hws:¬ (9223372036854775807<jc1.size+5):=by omega
     go_wp2_with fail
     go_loopw [7,5] (fun i v wr=>∃ k:Nat,k≤l 3∧i=.int .i64 k∧v=.string (J (W3 s e E U2 k))∧Below ((w.alloc (.cells #[.slice p0 (l 0) (c 0),.slice p1 (l 1) (c 1),.slice p2 (l 2) (c 2),.slice p3 (l 3) (c 3),.slice p4 (l 4) (c 4),.slice p5 (l 5) (c 5)] 29)).alloc (.cells #[.bool false,.int .i64 n,.slice x1 (l 1) x4,.slice x2 (l 3) x5,.slice x3 (l 0) x6,.int .i64 pt] 38)).heap.size ((w.alloc (.cells #[.slice p0 (l 0) (c 0),.slice p1 (l 1) (c 1),.slice p2 (l 2) (c 2),.slice p3 (l 3) (c 3),.slice p4 (l 4) (c 4),.slice p5 (l 5) (c 5)] 29)).alloc (.cells #[.bool false,.int .i64 n,.slice x1 (l 1) x4,.slice x2 (l 3) x5,.slice x3 (l 0) x6,.int .i64 pt] 38)) wr) (fun i _ _=>l 3 - (intOf i).toNat)
     case atStart=>exact ⟨0,Nat.zero_le _,rfl,(by rw [HJ2.out]),HB0.out⟩
     case round =>
      clear HB0
      obtain ⟨k2,hk,rfl,rfl,hbel⟩:=hrel
      have HB0:=hid hbel
      obtain ⟨⟨q0,q1,q2,q3,q4,q5,y0,y1,y2,y3,y4,y5⟩,⟨r0,r1,r3,rd,re,rv⟩,hB⟩:=HC1.out _ hbel
      have R0:=hid r0
      have R1:=hid r1
      have R3:=hid r3
      have RD:=hid rd
      have RE:=hid re
      have RV:=hid rv
      have BR:=hid hB
      have hsz:=hbel.size
      have hzr:=World.block_lt_of_cell? _ _ q0
      have hzv:=World.block_lt_of_cell? _ _ y0
      simp only at hzr hzv
      have hjs:=(few3 G.out F2.out HE.out k2 hk).size (by have:=G.out.l0;have:=G.out.l1;have:=G.out.l3;omega)
      clear hbel r0 r1 r3 rd re rv hB
      by_cases hlt:k2<l 3
      · obtain ⟨be,oe,rfl,hev⟩:=RE.out.cell k2 hlt
        rw [show E[k2]?.getD 0=zAt E k2 from rfl] at hev
        obtain ⟨b,off,rfl,hc0⟩:=R3.out.cell k2 hlt
        obtain ⟨na,hna,e1⟩:=G.out.extn k2 hlt
        rw [show e[k2]?.getD 0=(na:Int) from e1] at hc0
        obtain ⟨b0,off0,rfl,ha0⟩:=R0.out.cell na hna
        have hsa:=G.out.name na hna
        have hz2:=HE.out k2
        have hsb:=numB_size hz2.1 (by omega)
        have HDz:Hid (∀ w8:World,Calls Tryz.prog 33 #[.int .i64 (zAt E k2)] w8 fun e' w'=>e' = .returned (.string (numB (zAt E k2)))∧Below w8.heap.size w8 w'):=hid (fun w8=>num_spec w8 hz2.1 (by omega))
        obtain ⟨jb,hjb⟩:∃ y:ByteArray,J (W3 s e E U2 k2)=y:=⟨_,rfl⟩
        rw [hjb] at hjs ⊢
        have HN:Hid (J (W3 s e E U2 (k2+1))=jb ++ (⟨#[32]⟩ ++ (s na ++ ⟨#[61]⟩ ++ numB (zAt E k2)))):=hid (by
         rw [show W3 s e E U2 (k2+1)=W3 s e E U2 k2 ++ [fromW s e E k2] from rfl,J_snoc _ (few3 G.out F2.out HE.out k2 hk).1,hjb];unfold fromW;rw [e1];rfl)
        generalize s na=sa at *
        obtain ⟨sb,hsb0⟩:∃ y:ByteArray,numB (zAt E k2)=y:=⟨_,rfl⟩
        rw [hsb0] at HN HDz hsb
        generalize zAt E k2=ze at *
        clear e1 hjb hsb0
        obtain ⟨a1,hxa1⟩:∃ y:ByteArray,⟨#[32]⟩ ++ sa=y:=⟨_,rfl⟩
        have HXa1:=hid hxa1
        have hza1:a1.size=1+sa.size:=by rw [← hxa1,ByteArray.size_append];first|done|rfl
        have hwa1:¬ (9223372036854775807<1+sa.size):=by omega
        have hva1:a1.size≤300000:=by omega
        clear hxa1
        obtain ⟨a2,hxa2⟩:∃ y:ByteArray,a1 ++ ⟨#[61]⟩=y:=⟨_,rfl⟩
        have HXa2:=hid hxa2
        have hza2:a2.size=a1.size+1:=by rw [← hxa2,ByteArray.size_append];first|done|rfl
        have hwa2:¬ (9223372036854775807<a1.size+1):=by omega
        have hva2:a2.size≤300000:=by omega
        clear hxa2
        obtain ⟨a3,hxa3⟩:∃ y:ByteArray,a2 ++ sb=y:=⟨_,rfl⟩
        have HXa3:=hid hxa3
        have hza3:a3.size=a2.size+sb.size:=by rw [← hxa3,ByteArray.size_append];first|done|rfl
        have hwa3:¬ (9223372036854775807<a2.size+sb.size):=by omega
        have hva3:a3.size≤300000:=by omega
        clear hxa3
        obtain ⟨a4,hxa4⟩:∃ y:ByteArray,jb ++ a3=y:=⟨_,rfl⟩
        have HXa4:=hid hxa4
        have hza4:a4.size=jb.size+a3.size:=by rw [← hxa4,ByteArray.size_append];first|done|rfl
        have hwa4:¬ (9223372036854775807<jb.size+a3.size):=by omega
        have hva4:a4.size≤300000:=by omega
        clear hxa4
        clear hza1
        clear hza2
        clear hza3
        clear hza4
        have HN4:Hid (J (W3 s e E U2 (k2+1))=a4):=hid (by rw [HN.out,← HXa4.out,← HXa3.out,← HXa2.out,← HXa1.out];simp only [ByteArray.append_assoc])
        clear HN
        have F8:Hid (∀ w8:World,Below wr.heap.size wr w8→w8.cell? ⟨w.heap.size,0,none⟩=some (.slice (some ⟨b0,off0,none⟩) (l 0) (c 0))∧w8.cell? ⟨w.heap.size,3,none⟩=some (.slice (some ⟨b,off,none⟩) (l 3) (c 3))∧w8.cell? ⟨b,off+k2,none⟩=some (.int .i64 (na:Int))∧w8.cell? ⟨be,oe+k2,none⟩=some (.int .i64 ze)∧w8.cell? ⟨b0,off0+na,none⟩=some (.string sa)∧w8.cell? ⟨w.heap.size+1,3,none⟩=some (.slice (some ⟨be,oe,none⟩) (l 3) x5)):=hid (fun w8 S8=>⟨keep S8 q0,keep S8 q3,keep S8 hc0,keep S8 hev,keep S8 ha0,keep S8 y3⟩)
        have hk2:(k2:Int)<(l 3:Int):=by omega
        go_upto_region 13 with fail
        clear q0 q1 q2 q3 q4 q5 y0 y1 y2 y3 y4 y5 hc0 ha0 hev
        refine region_below (fun uc=>⟨#[.agg #[.slice (some ⟨b0,off0,none⟩) (l 0) (c 0),.slice p1 (l 1) (c 1),.slice p2 (l 2) (c 2),.slice (some ⟨b,off,none⟩) (l 3) (c 3),.slice p4 (l 4) (c 4),.slice p5 (l 5) (c 5)],.agg #[.bool false,.int .i64 n,.slice x1 (l 1) x4,.slice (some ⟨be,oe,none⟩) (l 3) x5,.slice x3 (l 0) x6,.int .i64 pt],.pointer (some ⟨w.heap.size,0,none⟩),.pointer (some ⟨w.heap.size+1,0,none⟩),.string { data:=#[] },.string jb,.int .i64 ↑(l 1),.int .i64 ↑k2,undef,.pointer (some ⟨w.heap.size+1,0,none⟩),.bool false,undef,undef,undef,undef,undef,ua 16,ua 17,ua 18,ua 19,ua 20,ua 21,ua 22,ua 23,ua 24,.string v4,.int .i64 ↑(l 1),.pointer (some ⟨w.heap.size+1,2,none⟩),.slice x1 (l 1) x4,.int .i64 ↑(l 1),.bool false,u31,u32,u33,u34,u35,u36,u37,u38,u39,u40,u41,u42,u43,u44,u45,u46,u47,u48,u49,u50,u51,u52,u53,u54,u55,u56,u57,u58,u59,u60,u61,u62,.string jc1,.string (jc1 ++ { data:=#[32,102,114,111,109] }),.int .i64 ↑k2,.pointer (some ⟨w.heap.size+1,3,none⟩),.slice (some ⟨be,oe,none⟩) (l 3) x5,.int .i64 ↑(l 3),.bool true,u70,u71,uc 72,uc 73,uc 74,uc 75,uc 76,uc 77,uc 78,uc 79,uc 80,uc 81,uc 82,uc 83,uc 84,uc 85,uc 86,uc 87,uc 88,uc 89,uc 90,uc 91,undef,undef,undef,undef,undef,undef,undef,undef,undef,undef,undef,undef,undef,undef,undef,undef,undef,undef,undef,undef,undef,undef,undef,undef,undef,undef,undef,undef],[]⟩) (fun i=>[72,73,74,75,76,77,78,79,80,81,82,83,84,85,86,87,88,89,90,91].getD i 0) (fun i v w8=>match i with|0=>v=.string jb|1=>v=.pointer (some ⟨w.heap.size,0,none⟩)|2=>v=.slice (some ⟨b0,off0,none⟩) (l 0) (c 0)|3=>v=.pointer (some ⟨w.heap.size,3,none⟩)|4=>v=.slice (some ⟨b,off,none⟩) (l 3) (c 3)|5=>v=.int .i64 (k2:Int)|6=>v=.pointer (some ⟨b,off+k2,none⟩)|7=>v=.int .i64 (na:Int)|8=>v=.pointer (some ⟨b0,off0+na,none⟩)|9=>v=.string sa|10=>v=.string a1|11=>v=.string a2|12=>v=.pointer (some ⟨w.heap.size+1,3,none⟩)|13=>v=.slice (some ⟨be,oe,none⟩) (l 3) x5|14=>v=.int .i64 (k2:Int)|15=>v=.pointer (some ⟨be,oe+k2,none⟩)|16=>v=.int .i64 ze|17=>v=.string sb|18=>v=.string a3|19=>v=.string a4|_=>True) wr 20 (fun k=>match k with|72=>u72|73=>u73|74=>u74|75=>u75|76=>u76|77=>u77|78=>u78|79=>u79|80=>u80|81=>u81|82=>u82|83=>u83|84=>u84|85=>u85|86=>u86|87=>u87|88=>u88|89=>u89|90=>u90|91=>u91|_=>undef) (by rfl) (by kernel_rfl) (by rfl) ⟨by kernel_rfl,by kernel_rfl,by kernel_rfl,by decide⟩ (by kernel_rfl) (Below.refl _ _) ?hput ?hinj ?stable ?step ?last
        case hput =>
         intro i hi uc v
         match i,hi with
         | 0,_=>rfl
         | 1,_=>rfl
         | 2,_=>rfl
         | 3,_=>rfl
         | 4,_=>rfl
         | 5,_=>rfl
         | 6,_=>rfl
         | 7,_=>rfl
         | 8,_=>rfl
         | 9,_=>rfl
         | 10,_=>rfl
         | 11,_=>rfl
         | 12,_=>rfl
         | 13,_=>rfl
         | 14,_=>rfl
         | 15,_=>rfl
         | 16,_=>rfl
         | 17,_=>rfl
         | 18,_=>rfl
         | 19,_=>rfl
         | i+20,hi=>exact absurd hi (by omega)
        case hinj =>
         intro i j hi hj h
         exact slots_inj [72,73,74,75,76,77,78,79,80,81,82,83,84,85,86,87,88,89,90,91] (by decide) hi hj h
        case stable =>
         intro i v w8 w9 hb h
         match i,h with
         | 0,h=>exact h
         | 1,h=>exact h
         | 2,h=>exact h
         | 3,h=>exact h
         | 4,h=>exact h
         | 5,h=>exact h
         | 6,h=>exact h
         | 7,h=>exact h
         | 8,h=>exact h
         | 9,h=>exact h
         | 10,h=>exact h
         | 11,h=>exact h
         | 12,h=>exact h
         | 13,h=>exact h
         | 14,h=>exact h
         | 15,h=>exact h
         | 16,h=>exact h
         | 17,h=>exact h
         | 18,h=>exact h
         | 19,h=>exact h
         | _+20,h=>trivial
        case step =>
         intro i hi uc w8 S8 hdep
         match i,hi with
         | 0,_ =>
          clear hdep
          refine ⟨_,rfl,fun K' hK=>?_⟩
          go_simp
          exact hK.out _ _ (Below.refl _ _) rfl
         | 1,_ =>
          clear hdep
          refine ⟨_,rfl,fun K' hK=>?_⟩
          go_simp
          exact hK.out _ _ (Below.refl _ _) rfl
         | 2,_ =>
          have h1:(uc 73)=.pointer (some ⟨w.heap.size,0,none⟩):=hdep 1 (by kernel_rfl)
          clear hdep
          refine ⟨_,rfl,fun K' hK=>?_⟩
          obtain ⟨f0,f1,fa,fb,fc,fd⟩:=F8.out _ S8
          simp only [h1] at hK ⊢
          go_simp
          exact hK.out _ _ (Below.refl _ _) rfl
         | 3,_ =>
          clear hdep
          refine ⟨_,rfl,fun K' hK=>?_⟩
          go_simp
          exact hK.out _ _ (Below.refl _ _) rfl
         | 4,_ =>
          have h3:(uc 75)=.pointer (some ⟨w.heap.size,3,none⟩):=hdep 3 (by kernel_rfl)
          clear hdep
          refine ⟨_,rfl,fun K' hK=>?_⟩
          obtain ⟨f0,f1,fa,fb,fc,fd⟩:=F8.out _ S8
          simp only [h3] at hK ⊢
          go_simp
          exact hK.out _ _ (Below.refl _ _) rfl
         | 5,_ =>
          clear hdep
          refine ⟨_,rfl,fun K' hK=>?_⟩
          go_simp
          exact hK.out _ _ (Below.refl _ _) rfl
         | 6,_ =>
          have h4:(uc 76)=.slice (some ⟨b,off,none⟩) (l 3) (c 3):=hdep 4 (by kernel_rfl)
          have h5:(uc 77)=.int .i64 (k2:Int):=hdep 5 (by kernel_rfl)
          clear hdep
          refine ⟨_,rfl,fun K' hK=>?_⟩
          simp only [h4,h5] at hK ⊢
          go_simp
          exact hK.out _ _ (Below.refl _ _) rfl
         | 7,_ =>
          have h6:(uc 78)=.pointer (some ⟨b,off+k2,none⟩):=hdep 6 (by kernel_rfl)
          clear hdep
          refine ⟨_,rfl,fun K' hK=>?_⟩
          obtain ⟨f0,f1,fa,fb,fc,fd⟩:=F8.out _ S8
          simp only [h6] at hK ⊢
          go_simp
          exact hK.out _ _ (Below.refl _ _) rfl
         | 8,_ =>
          have h2:(uc 74)=.slice (some ⟨b0,off0,none⟩) (l 0) (c 0):=hdep 2 (by kernel_rfl)
          have h7:(uc 79)=.int .i64 (na:Int):=hdep 7 (by kernel_rfl)
          clear hdep
          refine ⟨_,rfl,fun K' hK=>?_⟩
          have hnq:(na:Int)<(l 0:Int):=by omega
          simp only [h2,h7] at hK ⊢
          go_simp
          exact hK.out _ _ (Below.refl _ _) rfl
         | 9,_ =>
          have h8:(uc 80)=.pointer (some ⟨b0,off0+na,none⟩):=hdep 8 (by kernel_rfl)
          clear hdep
          refine ⟨_,rfl,fun K' hK=>?_⟩
          obtain ⟨f0,f1,fa,fb,fc,fd⟩:=F8.out _ S8
          simp only [h8] at hK ⊢
          go_simp
          exact hK.out _ _ (Below.refl _ _) rfl
         | 10,_ =>
          have h9:(uc 81)=.string sa:=hdep 9 (by kernel_rfl)
          clear hdep
          refine ⟨_,rfl,fun K' hK=>?_⟩
          simp only [h9] at hK ⊢
          go_simp
          exact hK.out _ _ (Below.refl _ _) (by rw [HXa1.out])
         | 11,_ =>
          have h10:(uc 82)=.string a1:=hdep 10 (by kernel_rfl)
          clear hdep
          refine ⟨_,rfl,fun K' hK=>?_⟩
          simp only [h10] at hK ⊢
          go_simp
          exact hK.out _ _ (Below.refl _ _) (by rw [HXa2.out])
         | 12,_ =>
          clear hdep
          refine ⟨_,rfl,fun K' hK=>?_⟩
          go_simp
          exact hK.out _ _ (Below.refl _ _) rfl
         | 13,_ =>
          have h12:(uc 84)=.pointer (some ⟨w.heap.size+1,3,none⟩):=hdep 12 (by kernel_rfl)
          clear hdep
          refine ⟨_,rfl,fun K' hK=>?_⟩
          obtain ⟨f0,f1,fa,fb,fc,fd⟩:=F8.out _ S8
          simp only [h12] at hK ⊢
          go_simp
          exact hK.out _ _ (Below.refl _ _) rfl
         | 14,_ =>
          clear hdep
          refine ⟨_,rfl,fun K' hK=>?_⟩
          go_simp
          exact hK.out _ _ (Below.refl _ _) rfl
         | 15,_ =>
          have h13:(uc 85)=.slice (some ⟨be,oe,none⟩) (l 3) x5:=hdep 13 (by kernel_rfl)
          have h14:(uc 86)=.int .i64 (k2:Int):=hdep 14 (by kernel_rfl)
          clear hdep
          refine ⟨_,rfl,fun K' hK=>?_⟩
          simp only [h13,h14] at hK ⊢
          go_simp
          exact hK.out _ _ (Below.refl _ _) rfl
         | 16,_ =>
          have h15:(uc 87)=.pointer (some ⟨be,oe+k2,none⟩):=hdep 15 (by kernel_rfl)
          clear hdep
          refine ⟨_,rfl,fun K' hK=>?_⟩
          obtain ⟨f0,f1,fa,fb,fc,fd⟩:=F8.out _ S8
          simp only [h15] at hK ⊢
          go_simp
          exact hK.out _ _ (Below.refl _ _) rfl
         | 17,_ =>
          have h16:(uc 88)=.int .i64 ze:=hdep 16 (by kernel_rfl)
          clear hdep
          refine ⟨_,rfl,fun K' hK=>?_⟩
          simp only [h16] at hK ⊢
          go_simp
          refine (HDz.out _).mono ?_
          rintro e9 w9 ⟨rfl,hb9⟩
          exact hK.out _ _ hb9 rfl
         | 18,_ =>
          have h11:(uc 83)=.string a2:=hdep 11 (by kernel_rfl)
          have h17:(uc 89)=.string sb:=hdep 17 (by kernel_rfl)
          clear hdep
          refine ⟨_,rfl,fun K' hK=>?_⟩
          simp only [h11,h17] at hK ⊢
          go_simp
          exact hK.out _ _ (Below.refl _ _) (by rw [HXa3.out])
         | 19,_ =>
          have h0:(uc 72)=.string jb:=hdep 0 (by kernel_rfl)
          have h18:(uc 90)=.string a3:=hdep 18 (by kernel_rfl)
          clear hdep
          refine ⟨_,rfl,fun K' hK=>?_⟩
          simp only [h0,h18] at hK ⊢
          go_simp
          exact hK.out _ _ (Below.refl _ _) (by rw [HXa4.out])
         | i+20,hi=>exact absurd hi (by omega)
        case last =>
         intro uc w8 S8 hall
         have h19:(uc 91)=.string a4:=hall 19 (by decide)
         clear hall
         refine ⟨_,rfl,fun K' hK=>?_⟩
         simp only [h19] at hK ⊢
         go_simp
         refine hK.out _ _ ?_
         have HB8:=hid (HB0.out.trans (S8.mono hsz))
         clear hK K' h19 S8
         (try simp only [Exit.inBlock,Exit.then])
         go_wp2
         go_roundw
         case rel=>exact ⟨k2+1,by omega,by go_num,by rw [HN4.out],HB8.out⟩
         case measure=>simp [intOf];omega
      · have ek:k2=l 3:=by omega
        have hlt':decide (k2<l 3)=false:=decide_eq_false hlt
        obtain ⟨U3,hU3⟩:∃ y,W3 s e E U2 (l 3)=y:=⟨_,rfl⟩
        have HU3:=hid hU3
        have hF:=few3 G.out F2.out HE.out k2 hk
        rw [ek] at hF hjs hlt' ⊢
        rw [hU3] at hF hjs ⊢
        have F3:=hid hF
        clear hlt ek hk hU3 hF R0 R1 R3 RD RE RV
        obtain ⟨jc,hjc⟩:∃ y:ByteArray,J U3=y:=⟨_,rfl⟩
        have HJ3:Hid (J (W4 s V U3 0)=jc ++ ⟨#[32,118,105,97]⟩):=hid (by rw [show W4 s V U3 0=U3 ++ [⟨#[118,105,97]⟩] from rfl,J_snoc _ F3.out.1,hjc];rfl)
        rw [hjc] at hjs ⊢
        clear hjc
        have hws:¬ (9223372036854775807<jc.size+4):=by omega
        go_wp2_with fail
        go_loopw [8,5] (fun i v wr=>∃ k:Nat,k≤l 0∧i=.int .i64 k∧v=.string (J (W4 s V U3 k))∧Below ((w.alloc (.cells #[.slice p0 (l 0) (c 0),.slice p1 (l 1) (c 1),.slice p2 (l 2) (c 2),.slice p3 (l 3) (c 3),.slice p4 (l 4) (c 4),.slice p5 (l 5) (c 5)] 29)).alloc (.cells #[.bool false,.int .i64 n,.slice x1 (l 1) x4,.slice x2 (l 3) x5,.slice x3 (l 0) x6,.int .i64 pt] 38)).heap.size ((w.alloc (.cells #[.slice p0 (l 0) (c 0),.slice p1 (l 1) (c 1),.slice p2 (l 2) (c 2),.slice p3 (l 3) (c 3),.slice p4 (l 4) (c 4),.slice p5 (l 5) (c 5)] 29)).alloc (.cells #[.bool false,.int .i64 n,.slice x1 (l 1) x4,.slice x2 (l 3) x5,.slice x3 (l 0) x6,.int .i64 pt] 38)) wr) (fun i _ _=>l 0 - (intOf i).toNat)
        case atStart=>exact ⟨0,Nat.zero_le _,rfl,(by rw [HJ3.out]),HB0.out⟩
        case round =>
         clear HB0
         obtain ⟨k3,hk,rfl,rfl,hbel⟩:=hrel
         have HB0:=hid hbel
         obtain ⟨⟨q0,q1,q2,q3,q4,q5,y0,y1,y2,y3,y4,y5⟩,⟨r0,r1,r3,rd,re,rv⟩,hB⟩:=HC1.out _ hbel
         have R0:=hid r0
         have R1:=hid r1
         have R3:=hid r3
         have RD:=hid rd
         have RE:=hid re
         have RV:=hid rv
         have BR:=hid hB
         have hsz:=hbel.size
         have hzr:=World.block_lt_of_cell? _ _ q0
         have hzv:=World.block_lt_of_cell? _ _ y0
         simp only at hzr hzv
         have hjs:=(few4 G.out F3.out HV.out k3 hk).size (by have:=G.out.l0;have:=G.out.l1;have:=G.out.l3;omega)
         clear hbel r0 r1 r3 rd re rv hB
         by_cases hlt:k3<l 0
         · obtain ⟨be,oe,rfl,hev⟩:=RV.out.cell k3 hlt
           rw [show V[k3]?.getD 0=zAt V k3 from rfl] at hev
           obtain ⟨b0,off0,rfl,ha0⟩:=R0.out.cell k3 hlt
           have hsa:=G.out.name k3 hlt
           have hz2:=HV.out k3
           have hsb:=viaW_size G.out hz2.1 hz2.2
           have HDz:Hid (∀ w8:World,Below wr.heap.size wr w8→Calls Tryz.prog 59 #[.agg #[.slice (some ⟨b0,off0,none⟩) (l 0) (c 0),.slice p1 (l 1) (c 1),.slice p2 (l 2) (c 2),.slice p3 (l 3) (c 3),.slice p4 (l 4) (c 4),.slice p5 (l 5) (c 5)],.int .i64 (zAt V k3)] w8 fun e' w'=>e' = .returned (.string (viaW s (zAt V k3)))∧Below w8.heap.size w8 w'):=hid (fun w8 hb=>HVi.out _ w8 (BR.out.trans (hb.mono BR.out.size)) hz2.1 hz2.2)
           obtain ⟨jb,hjb⟩:∃ y:ByteArray,J (W4 s V U3 k3)=y:=⟨_,rfl⟩
           rw [hjb] at hjs ⊢
           have HN:Hid (J (W4 s V U3 (k3+1))=jb ++ (⟨#[32]⟩ ++ (s k3 ++ ⟨#[62]⟩ ++ viaW s (zAt V k3)))):=hid (by
            rw [show W4 s V U3 (k3+1)=W4 s V U3 k3 ++ [overW s V k3] from rfl,J_snoc _ (few4 G.out F3.out HV.out k3 hk).1,hjb];rfl)
           generalize s k3=sa at *
           obtain ⟨sb,hsb0⟩:∃ y:ByteArray,viaW s (zAt V k3)=y:=⟨_,rfl⟩
           rw [hsb0] at HN HDz hsb
           generalize zAt V k3=ze at *
           clear hjb hsb0
           obtain ⟨a1,hxa1⟩:∃ y:ByteArray,⟨#[32]⟩ ++ sa=y:=⟨_,rfl⟩
           have HXa1:=hid hxa1
           have hza1:a1.size=1+sa.size:=by rw [← hxa1,ByteArray.size_append];first|done|rfl
           have hwa1:¬ (9223372036854775807<1+sa.size):=by omega
           have hva1:a1.size≤300000:=by omega
           clear hxa1
           obtain ⟨a2,hxa2⟩:∃ y:ByteArray,a1 ++ ⟨#[62]⟩=y:=⟨_,rfl⟩
           have HXa2:=hid hxa2
           have hza2:a2.size=a1.size+1:=by rw [← hxa2,ByteArray.size_append];first|done|rfl
           have hwa2:¬ (9223372036854775807<a1.size+1):=by omega
           have hva2:a2.size≤300000:=by omega
           clear hxa2
           obtain ⟨a3,hxa3⟩:∃ y:ByteArray,a2 ++ sb=y:=⟨_,rfl⟩
           have HXa3:=hid hxa3
           have hza3:a3.size=a2.size+sb.size:=by rw [← hxa3,ByteArray.size_append];first|done|rfl
           have hwa3:¬ (9223372036854775807<a2.size+sb.size):=by omega
           have hva3:a3.size≤300000:=by omega
           clear hxa3
           obtain ⟨a4,hxa4⟩:∃ y:ByteArray,jb ++ a3=y:=⟨_,rfl⟩
           have HXa4:=hid hxa4
           have hza4:a4.size=jb.size+a3.size:=by rw [← hxa4,ByteArray.size_append];first|done|rfl
           have hwa4:¬ (9223372036854775807<jb.size+a3.size):=by omega
           have hva4:a4.size≤300000:=by omega
           clear hxa4
           clear hza1
           clear hza2
           clear hza3
           clear hza4
           have HN4:Hid (J (W4 s V U3 (k3+1))=a4):=hid (by rw [HN.out,← HXa4.out,← HXa3.out,← HXa2.out,← HXa1.out];simp only [ByteArray.append_assoc])
           clear HN
           have F8:Hid (∀ w8:World,Below wr.heap.size wr w8→w8.cell? ⟨w.heap.size,0,none⟩=some (.slice (some ⟨b0,off0,none⟩) (l 0) (c 0))∧w8.cell? ⟨w.heap.size,1,none⟩=some (.slice p1 (l 1) (c 1))∧w8.cell? ⟨w.heap.size,2,none⟩=some (.slice p2 (l 2) (c 2))∧w8.cell? ⟨w.heap.size,3,none⟩=some (.slice p3 (l 3) (c 3))∧w8.cell? ⟨w.heap.size,4,none⟩=some (.slice p4 (l 4) (c 4))∧w8.cell? ⟨w.heap.size,5,none⟩=some (.slice p5 (l 5) (c 5))∧w8.cell? ⟨be,oe+k3,none⟩=some (.int .i64 ze)∧w8.cell? ⟨b0,off0+k3,none⟩=some (.string sa)∧w8.cell? ⟨w.heap.size+1,4,none⟩=some (.slice (some ⟨be,oe,none⟩) (l 0) x6)):=hid (fun w8 S8=>⟨keep S8 q0,keep S8 q1,keep S8 q2,keep S8 q3,keep S8 q4,keep S8 q5,keep S8 hev,keep S8 ha0,keep S8 y4⟩)
           have hk3:(k3:Int)<(l 0:Int):=by omega
           go_upto_region 18 with fail
           clear q0 q1 q2 q3 q4 q5 y0 y1 y2 y3 y4 y5 ha0 hev
           refine region_below (fun ud=>⟨#[.agg #[.slice (some ⟨b0,off0,none⟩) (l 0) (c 0),.slice p1 (l 1) (c 1),.slice p2 (l 2) (c 2),.slice p3 (l 3) (c 3),.slice p4 (l 4) (c 4),.slice p5 (l 5) (c 5)],.agg #[.bool false,.int .i64 n,.slice x1 (l 1) x4,.slice x2 (l 3) x5,.slice (some ⟨be,oe,none⟩) (l 0) x6,.int .i64 pt],.pointer (some ⟨w.heap.size,0,none⟩),.pointer (some ⟨w.heap.size+1,0,none⟩),.string { data:=#[] },.string jb,.int .i64 ↑(l 1),.int .i64 ↑(l 3),.int .i64 ↑k3,.pointer (some ⟨w.heap.size+1,0,none⟩),.bool false,undef,undef,undef,undef,undef,ua 16,ua 17,ua 18,ua 19,ua 20,ua 21,ua 22,ua 23,ua 24,.string v4,.int .i64 ↑(l 1),.pointer (some ⟨w.heap.size+1,2,none⟩),.slice x1 (l 1) x4,.int .i64 ↑(l 1),.bool false,u31,u32,u33,u34,u35,u36,u37,u38,u39,u40,u41,u42,u43,u44,u45,u46,u47,u48,u49,u50,u51,u52,u53,u54,u55,u56,u57,u58,u59,u60,u61,u62,.string jc1,.string (jc1 ++ { data:=#[32,102,114,111,109] }),.int .i64 ↑(l 3),.pointer (some ⟨w.heap.size+1,3,none⟩),.slice x2 (l 3) x5,.int .i64 ↑(l 3),.bool false,u70,u71,u72,u73,u74,u75,u76,u77,u78,u79,u80,u81,u82,u83,u84,u85,u86,u87,u88,u89,u90,u91,.string jc,.string (jc ++ { data:=#[32,118,105,97] }),.int .i64 ↑k3,.pointer (some ⟨w.heap.size+1,4,none⟩),.slice (some ⟨be,oe,none⟩) (l 0) x6,.int .i64 ↑(l 0),.bool true,u99,u100,ud 101,ud 102,ud 103,ud 104,ud 105,ud 106,ud 107,ud 108,ud 109,ud 110,ud 111,ud 112,ud 113,ud 114,ud 115,ud 116,ud 117,undef,undef],[]⟩) (fun i=>[101,102,103,104,105,106,107,108,109,110,111,112,113,114,115,116,117].getD i 0) (fun i v w8=>match i with|0=>v=.string jb|1=>v=.pointer (some ⟨w.heap.size,0,none⟩)|2=>v=.slice (some ⟨b0,off0,none⟩) (l 0) (c 0)|3=>v=.int .i64 (k3:Int)|4=>v=.pointer (some ⟨b0,off0+k3,none⟩)|5=>v=.string sa|6=>v=.string a1|7=>v=.string a2|8=>v=.agg #[.slice (some ⟨b0,off0,none⟩) (l 0) (c 0),.slice p1 (l 1) (c 1),.slice p2 (l 2) (c 2),.slice p3 (l 3) (c 3),.slice p4 (l 4) (c 4),.slice p5 (l 5) (c 5)]|9=>v=.pointer (some ⟨w.heap.size+1,4,none⟩)|10=>v=.slice (some ⟨be,oe,none⟩) (l 0) x6|11=>v=.int .i64 (k3:Int)|12=>v=.pointer (some ⟨be,oe+k3,none⟩)|13=>v=.int .i64 ze|14=>v=.string sb|15=>v=.string a3|16=>v=.string a4|_=>True) wr 17 (fun k=>match k with|101=>u101|102=>u102|103=>u103|104=>u104|105=>u105|106=>u106|107=>u107|108=>u108|109=>u109|110=>u110|111=>u111|112=>u112|113=>u113|114=>u114|115=>u115|116=>u116|117=>u117|_=>undef) (by rfl) (by kernel_rfl) (by rfl) ⟨by kernel_rfl,by kernel_rfl,by kernel_rfl,by decide⟩ (by kernel_rfl) (Below.refl _ _) ?hput ?hinj ?stable ?step ?last
           case hput =>
            intro i hi ud v
            match i,hi with
            | 0,_=>rfl
            | 1,_=>rfl
            | 2,_=>rfl
            | 3,_=>rfl
            | 4,_=>rfl
            | 5,_=>rfl
            | 6,_=>rfl
            | 7,_=>rfl
            | 8,_=>rfl
            | 9,_=>rfl
            | 10,_=>rfl
            | 11,_=>rfl
            | 12,_=>rfl
            | 13,_=>rfl
            | 14,_=>rfl
            | 15,_=>rfl
            | 16,_=>rfl
            | i+17,hi=>exact absurd hi (by omega)
           case hinj =>
            intro i j hi hj h
            exact slots_inj [101,102,103,104,105,106,107,108,109,110,111,112,113,114,115,116,117] (by decide) hi hj h
           case stable =>
            intro i v w8 w9 hb h
            match i,h with
            | 0,h=>exact h
            | 1,h=>exact h
            | 2,h=>exact h
            | 3,h=>exact h
            | 4,h=>exact h
            | 5,h=>exact h
            | 6,h=>exact h
            | 7,h=>exact h
            | 8,h=>exact h
            | 9,h=>exact h
            | 10,h=>exact h
            | 11,h=>exact h
            | 12,h=>exact h
            | 13,h=>exact h
            | 14,h=>exact h
            | 15,h=>exact h
            | 16,h=>exact h
            | _+17,h=>trivial
           case step =>
            intro i hi ud w8 S8 hdep
            match i,hi with
            | 0,_ =>
             clear hdep
             refine ⟨_,rfl,fun K' hK=>?_⟩
             go_simp
             exact hK.out _ _ (Below.refl _ _) rfl
            | 1,_ =>
             clear hdep
             refine ⟨_,rfl,fun K' hK=>?_⟩
             go_simp
             exact hK.out _ _ (Below.refl _ _) rfl
            | 2,_ =>
             have h1:(ud 102)=.pointer (some ⟨w.heap.size,0,none⟩):=hdep 1 (by kernel_rfl)
             clear hdep
             refine ⟨_,rfl,fun K' hK=>?_⟩
             obtain ⟨f0,f1,f2,f3,f4,f5,fa,fb,fc⟩:=F8.out _ S8
             simp only [h1] at hK ⊢
             go_simp
             exact hK.out _ _ (Below.refl _ _) rfl
            | 3,_ =>
             clear hdep
             refine ⟨_,rfl,fun K' hK=>?_⟩
             go_simp
             exact hK.out _ _ (Below.refl _ _) rfl
            | 4,_ =>
             have h2:(ud 103)=.slice (some ⟨b0,off0,none⟩) (l 0) (c 0):=hdep 2 (by kernel_rfl)
             have h3:(ud 104)=.int .i64 (k3:Int):=hdep 3 (by kernel_rfl)
             clear hdep
             refine ⟨_,rfl,fun K' hK=>?_⟩
             simp only [h2,h3] at hK ⊢
             go_simp
             exact hK.out _ _ (Below.refl _ _) rfl
            | 5,_ =>
             have h4:(ud 105)=.pointer (some ⟨b0,off0+k3,none⟩):=hdep 4 (by kernel_rfl)
             clear hdep
             refine ⟨_,rfl,fun K' hK=>?_⟩
             obtain ⟨f0,f1,f2,f3,f4,f5,fa,fb,fc⟩:=F8.out _ S8
             simp only [h4] at hK ⊢
             go_simp
             exact hK.out _ _ (Below.refl _ _) rfl
            | 6,_ =>
             have h5:(ud 106)=.string sa:=hdep 5 (by kernel_rfl)
             clear hdep
             refine ⟨_,rfl,fun K' hK=>?_⟩
             simp only [h5] at hK ⊢
             go_simp
             exact hK.out _ _ (Below.refl _ _) (by rw [HXa1.out])
            | 7,_ =>
             have h6:(ud 107)=.string a1:=hdep 6 (by kernel_rfl)
             clear hdep
             refine ⟨_,rfl,fun K' hK=>?_⟩
             simp only [h6] at hK ⊢
             go_simp
             exact hK.out _ _ (Below.refl _ _) (by rw [HXa2.out])
            | 8,_ =>
             clear hdep
             refine ⟨_,rfl,fun K' hK=>?_⟩
             obtain ⟨f0,f1,f2,f3,f4,f5,fa,fb,fc⟩:=F8.out _ S8
             go_simp
             exact hK.out _ _ (Below.refl _ _) rfl
            | 9,_ =>
             clear hdep
             refine ⟨_,rfl,fun K' hK=>?_⟩
             go_simp
             exact hK.out _ _ (Below.refl _ _) rfl
            | 10,_ =>
             have h9:(ud 110)=.pointer (some ⟨w.heap.size+1,4,none⟩):=hdep 9 (by kernel_rfl)
             clear hdep
             refine ⟨_,rfl,fun K' hK=>?_⟩
             obtain ⟨f0,f1,f2,f3,f4,f5,fa,fb,fc⟩:=F8.out _ S8
             simp only [h9] at hK ⊢
             go_simp
             exact hK.out _ _ (Below.refl _ _) rfl
            | 11,_ =>
             clear hdep
             refine ⟨_,rfl,fun K' hK=>?_⟩
             go_simp
             exact hK.out _ _ (Below.refl _ _) rfl
            | 12,_ =>
             have h10:(ud 111)=.slice (some ⟨be,oe,none⟩) (l 0) x6:=hdep 10 (by kernel_rfl)
             have h11:(ud 112)=.int .i64 (k3:Int):=hdep 11 (by kernel_rfl)
             clear hdep
             refine ⟨_,rfl,fun K' hK=>?_⟩
             simp only [h10,h11] at hK ⊢
             go_simp
             exact hK.out _ _ (Below.refl _ _) rfl
            | 13,_ =>
             have h12:(ud 113)=.pointer (some ⟨be,oe+k3,none⟩):=hdep 12 (by kernel_rfl)
             clear hdep
             refine ⟨_,rfl,fun K' hK=>?_⟩
             obtain ⟨f0,f1,f2,f3,f4,f5,fa,fb,fc⟩:=F8.out _ S8
             simp only [h12] at hK ⊢
             go_simp
             exact hK.out _ _ (Below.refl _ _) rfl
            | 14,_ =>
             have h8:(ud 109)=.agg #[.slice (some ⟨b0,off0,none⟩) (l 0) (c 0),.slice p1 (l 1) (c 1),.slice p2 (l 2) (c 2),.slice p3 (l 3) (c 3),.slice p4 (l 4) (c 4),.slice p5 (l 5) (c 5)]:=hdep 8 (by kernel_rfl)
             have h13:(ud 114)=.int .i64 ze:=hdep 13 (by kernel_rfl)
             clear hdep
             refine ⟨_,rfl,fun K' hK=>?_⟩
             simp only [h8,h13] at hK ⊢
             go_simp
             refine (HDz.out _ S8).mono ?_
             rintro e9 w9 ⟨rfl,hb9⟩
             exact hK.out _ _ hb9 rfl
            | 15,_ =>
             have h7:(ud 108)=.string a2:=hdep 7 (by kernel_rfl)
             have h14:(ud 115)=.string sb:=hdep 14 (by kernel_rfl)
             clear hdep
             refine ⟨_,rfl,fun K' hK=>?_⟩
             simp only [h7,h14] at hK ⊢
             go_simp
             exact hK.out _ _ (Below.refl _ _) (by rw [HXa3.out])
            | 16,_ =>
             have h0:(ud 101)=.string jb:=hdep 0 (by kernel_rfl)
             have h15:(ud 116)=.string a3:=hdep 15 (by kernel_rfl)
             clear hdep
             refine ⟨_,rfl,fun K' hK=>?_⟩
             simp only [h0,h15] at hK ⊢
             go_simp
             exact hK.out _ _ (Below.refl _ _) (by rw [HXa4.out])
            | i+17,hi=>exact absurd hi (by omega)
           case last =>
            intro ud w8 S8 hall
            have h16:(ud 117)=.string a4:=hall 16 (by decide)
            clear hall
            refine ⟨_,rfl,fun K' hK=>?_⟩
            simp only [h16] at hK ⊢
            go_simp
            refine hK.out _ _ ?_
            have HB8:=hid (HB0.out.trans (S8.mono hsz))
            clear hK K' h16 S8
            (try simp only [Exit.inBlock,Exit.then])
            go_wp2
            go_roundw
            case rel=>exact ⟨k3+1,by omega,by go_num,by rw [HN4.out],HB8.out⟩
            case measure=>simp [intOf];omega
         · have ek:k3=l 0:=by omega
           have hlt':decide (k3<l 0)=false:=decide_eq_false hlt
           obtain ⟨U4,hU4⟩:∃ y,W4 s V U3 (l 0)=y:=⟨_,rfl⟩
           have HU4:=hid hU4
           have hF:=few4 G.out F3.out HV.out k3 hk
           rw [ek] at hF hjs hlt' ⊢
           rw [hU4] at hF hjs ⊢
           have F4:=hid hF
           clear hlt ek hk hU4 hF R0 R1 R3 RD RE RV
           have HSU:Hid (S=U4):=hid (by rw [← HS.out,← HU4.out,← HU3.out,← HU2.out];rfl)
           obtain ⟨jc,hjc⟩:∃ y:ByteArray,J U4=y:=⟨_,rfl⟩
           have HJS:Hid (J S=jc):=hid (by rw [HSU.out];exact hjc)
           rw [hjc] at hjs ⊢
           clear hjc
           have hws:¬ (9223372036854775807<jc.size+1):=by omega
           go_wp2
           go_ret
           exact ⟨by rw [HJS.out];first|done|rfl,BR.out⟩
end Go.Proofs.YthompjbplddkgaaGreatDoor.saySpec
