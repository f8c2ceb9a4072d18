import Derived.Test.YthompjbplddkgaaGreatDoorPart42
import Derived.Test.YthompjbplddkgaaGreatDoorDrawnApp
import Derived.Deep.CutRange
import Derived.Deep.CutBlock
set_option linter.unusedVariables false
namespace Go.Proofs.YthompjbplddkgaaGreatDoor.sayImpl
open Go.RowKit Go.Deep Go base names netSem netLines netBytes netDeed heldStore drawn sayText prodB
def Old (W w8 : World) : Prop := ∀ k,k<W.heap.size→w8.heap[k]? = W.heap[k]?
theorem Old.cell {W w8:World} {b o:Nat} {v:Value} (h:Old W w8) (hc:W.cell? ⟨b,o,none⟩=some v):w8.cell? ⟨b,o,none⟩=some v:=(World.cell?_of_block (a:=⟨b,o,none⟩) (h b (World.block_lt_of_cell? _ _ hc))).trans hc
theorem Old.of_below {W w8:World} (hb:Below W.heap.size W w8):Old W w8:=fun k hk=>hb.block k hk
theorem Old.grown {W wr w8:World} {row:Option Nat} (h:Old W wr) (hs:W.heap.size≤wr.heap.size) (hg:wr.grownBy w8 row) (hr:∀ b,row=some b→W.heap.size≤b):Old W w8:=fun k hk=>(hg.block k (by omega) (fun e=>by have:=hr k e.symm;omega)).trans (h k hk)
theorem tab_old {w w1:World} (h:TabW w) (hb:Old w w1):TabW w1:=by
 unfold TabW Lib.TabIs at *
 unfold World.var? at *
 cases hg : Tryz.prog.globalNamed "internal/strconv.uint64pow10" with
 | none =>
  rw [hg] at h
  cases h
 | some g =>
  rw [hg] at h
  simp only [Option.bind_some] at h ⊢
  have hlt:g<w.heap.size:=by
   rcases Nat.lt_or_ge g w.heap.size with h'|h'
   · exact h'
   · rw [Array.getElem?_eq_none h'] at h
     cases h
  rw [hb g hlt]
  exact h
theorem keepG {W w8:World} {row:Option Nat} {b o:Nat} {v:Value} (hg:W.grownBy w8 row) (h:W.cell? ⟨b,o,none⟩=some v) (hne:∀ k,row=some k→k<b):w8.cell? ⟨b,o,none⟩=some v:=(World.cell?_of_block (a:=⟨b,o,none⟩) (hg.block b (World.block_lt_of_cell? _ _ h) (fun e=>by have:=hne b e.symm;omega))).trans h
theorem num_impl {z:Int} (w:World) (h0:0≤z) (h1:z≤1000000000) (ht:TabW w):Calls Tryz.prog 24 #[.int .i64 z] w fun e' w'=>e' = .returned (.string (numB z))∧Below w.heap.size w w' := itoa_impl z w (by omega) h1 ht
theorem own_five {B:Nat} (w:World) (a b d x y:ByteArray) (hB:B≤w.heap.size):OwnS B (w.alloc (.cells #[.string a,.string b,.string d,.string x,.string y] 9)) (.slice (some ⟨w.heap.size,0,none⟩) 5 5) [a,b,d,x,y]:=by
 refine ⟨by simp,.inr ⟨w.heap.size,5,_,rfl,hB,by show (w.heap.push _)[w.heap.size]? = _;simp;rfl,Nat.le_refl _,by show 5≤maxLen;unfold maxLen;omega,by simp,?_⟩⟩
 simp
theorem at_new (w:World) (x:Value) (t:TypeId):∀ (j:Nat) (u:Value),[x][j]? = some u→(w.alloc (.cells #[x] t)).cell? ((⟨w.heap.size,0,none⟩:Addr).add j)=some u:=cell_one w x t
set_option maxHeartbeats 1600000 in
theorem viaWord_impl (p:Nat→Option Addr) (l c:Nat→Nat) (s:Ss) (g:R) (o e:List Int) (x f:R) (v:Int) (w:World) (h:StrRow w (p 0) (l 0) s) (h0 : -3≤v) (h1:v<l 0) :
  Calls Tryz.prog 58 #[netV p l c,.int .i64 v] w fun e' w'=>e' = .returned (.string (viaW s v))∧Below w.heap.size w w' := by
 have m0:=h.most
 unfold maxLen at m0
 by_cases hv:0≤v
 · obtain ⟨a,rfl⟩:=Int.eq_ofNat_of_zero_le hv
   obtain ⟨b,off,hp,hc⟩:=h.cell a (by omega)
   have HS:Hid (viaW s (a:Int)=s a):=hid (by unfold viaW;rw [if_neg (by omega),if_neg (by omega),if_neg (by omega)];rfl)
   have hl:(a:Int)<(l 0:Int):=h1
   have d3:((a:Int) == -3)=false:=by simp
   have d2:((a:Int) == -2)=false:=by simp
   have d1:((a:Int) == -1)=false:=by simp
   clear h
   unfold netV
   rw [hp,HS.out]
   generalize s a=t at *
   have hbl:=World.block_lt_of_cell? _ _ hc
   simp only at hbl
   clear hp HS
   go_enter Tryz.func58,Tryz.ntmps58
   go_wp2
   go_ret
   exact ⟨rfl,Bl⟩
 · have h3:v = -3∨v = -2∨v = -1:=by omega
   clear h h1
   unfold netV
   rcases h3 with rfl|rfl|rfl
   all_goals
    clear h0 hv
    go_enter Tryz.func58,Tryz.ntmps58
    go_wp2
    go_ret
    exact ⟨rfl,Bl⟩
set_option maxHeartbeats 6400000 in
set_option maxRecDepth 8000 in
theorem words_impl (p:Nat→Option Addr) (l c:Nat→Nat) (s:Ss) (g:R) (o e:List Int) (x f:R) (w:World) (n pt:Int) (D:List Bool) (E V:List Int) (x1 x2 x3:Option Addr) (x4 x5 x6:Nat) (h:NetIs w p l s g o e x f) (hB:netB l s g o e x f=true) (h0:0≤n) (h1:n≤1000000000) (h2:0≤pt) (h3:pt≤1000000000) (hE:∀ i,0≤zAt E i∧zAt E i≤2) (hV:∀ i,-3≤zAt V i∧zAt V i<l 0) (rD:BoolRow w x1 (l 1) D) (rE:IntRow w x2 (l 3) E) (rV:IntRow w x3 (l 0) V) (ht:TabW w) :
  Calls Tryz.prog 26 #[netV p l c,.agg #[.bool false,.int .i64 n,.slice x1 (l 1) x4,.slice x2 (l 3) x5,.slice x3 (l 0) x6,.int .i64 pt]] w fun e' w'=>∃ v,e' = .returned v∧OwnS w.heap.size w' v (sayW l s g e n D E V pt)∧Below w.heap.size w w' := by
 have G:=hid (good hB)
 have g40:=G.out.l0
 have g41:=G.out.l1
 have g43:=G.out.l3
 have HE:=hid hE
 have HV:=hid hV
 have F1:=hid (few1 h0 h1 h2 h3)
 obtain ⟨i0,hi,hzz⟩:=Option.map_eq_some_iff.1 info_string
 simp only [Prod.mk.injEq] at hzz
 obtain ⟨hz0,hz1,hz2⟩:=hzz
 have HI:=hid hi
 have HZ0:=hid hz0
 have HZ1:=hid hz1
 have HZ2:=hid hz2
 clear hi hz0 hz1 hz2
 obtain ⟨p0,hp0⟩:∃ a,p 0=a:=⟨_,rfl⟩
 obtain ⟨p1,hp1⟩:∃ a,p 1=a:=⟨_,rfl⟩
 obtain ⟨p2,hp2⟩:∃ a,p 2=a:=⟨_,rfl⟩
 obtain ⟨p3,hp3⟩:∃ a,p 3=a:=⟨_,rfl⟩
 obtain ⟨p4,hp4⟩:∃ a,p 4=a:=⟨_,rfl⟩
 obtain ⟨p5,hp5⟩:∃ a,p 5=a:=⟨_,rfl⟩
 obtain ⟨O1,hO1⟩:∃ W,((w.alloc (.cells #[.slice p0 (l 0) (c 0),.slice p1 (l 1) (c 1),.slice p2 (l 2) (c 2),.slice p3 (l 3) (c 3),.slice p4 (l 4) (c 4),.slice p5 (l 5) (c 5)] 29)).alloc (.cells #[.bool false,.int .i64 n,.slice x1 (l 1) x4,.slice x2 (l 3) x5,.slice x3 (l 0) x6,.int .i64 pt] 38))=W:=⟨_,rfl⟩
 have HSz:O1.heap.size=w.heap.size+2:=by rw [← hO1];simp
 have BO:Hid (Below w.heap.size w O1):=hid (by rw [← hO1];exact Bl)
 have HC:Hid (O1.cell? ⟨w.heap.size,0,none⟩=some (.slice p0 (l 0) (c 0))∧O1.cell? ⟨w.heap.size,1,none⟩=some (.slice p1 (l 1) (c 1))∧O1.cell? ⟨w.heap.size,2,none⟩=some (.slice p2 (l 2) (c 2))∧O1.cell? ⟨w.heap.size,3,none⟩=some (.slice p3 (l 3) (c 3))∧O1.cell? ⟨w.heap.size,4,none⟩=some (.slice p4 (l 4) (c 4))∧O1.cell? ⟨w.heap.size,5,none⟩=some (.slice p5 (l 5) (c 5))∧O1.cell? ⟨w.heap.size+1,0,none⟩=some (.bool false)∧O1.cell? ⟨w.heap.size+1,1,none⟩=some (.int .i64 n)∧O1.cell? ⟨w.heap.size+1,2,none⟩=some (.slice x1 (l 1) x4)∧O1.cell? ⟨w.heap.size+1,3,none⟩=some (.slice x2 (l 3) x5)∧O1.cell? ⟨w.heap.size+1,4,none⟩=some (.slice x3 (l 0) x6)∧O1.cell? ⟨w.heap.size+1,5,none⟩=some (.int .i64 pt)):=hid (by rw [← hO1];exact ⟨by simp [go_sem],by simp [go_sem],by simp [go_sem],by simp [go_sem],by simp [go_sem],by simp [go_sem],by simp [go_sem],by simp [go_sem],by simp [go_sem],by simp [go_sem],by simp [go_sem],by simp [go_sem]⟩)
 obtain ⟨r0,r1,r3,rd,re,rv,rt⟩:StrRow O1 p0 (l 0) s∧Row 3 O1 p1 (l 1) g∧IntRow O1 p3 (l 3) e∧BoolRow O1 x1 (l 1) D∧IntRow O1 x2 (l 3) E∧IntRow O1 x3 (l 0) V∧TabW O1:=by
  rw [← hp0,← hp1,← hp3]
  have hn:=h.below BO.out
  exact ⟨hn.routers,hn.links,hn.externals,rD.below BO.out,rE.below BO.out,rV.below BO.out,ht.below BO.out⟩
 have R0:=hid r0
 have R1:=hid r1
 have R3:=hid r3
 have RD:=hid rd
 have RE:=hid re
 have RV:=hid rv
 have RT:=hid rt
 have HO1:=hid hO1
 have m0:=h.routers.most
 have m1:=h.links.most
 have m3:=h.externals.most
 unfold maxLen at m0 m1 m3
 have HVi:Hid (∀ (v:Int) (w8:World),Old O1 w8→-3≤v→v<l 0→Calls Tryz.prog 58 #[netV p l c,.int .i64 v] w8 fun e' w'=>e' = .returned (.string (viaW s v))∧Below w8.heap.size w8 w'):=hid (fun v w8 hb=>viaWord_impl p l c s g o e x f v w8 ((h.routers.below BO.out).kept fun b q u hc=>hb.cell hc))
 have HDn:Hid (∀ w8:World,Old O1 w8→Calls Tryz.prog 24 #[.int .i64 n] w8 fun e' w'=>e' = .returned (.string (numB n))∧Below w8.heap.size w8 w'):=hid (fun w8 hb=>num_impl w8 h0 h1 (tab_old RT.out hb))
 have HDp:Hid (∀ w8:World,Old O1 w8→Calls Tryz.prog 24 #[.int .i64 pt] w8 fun e' w'=>e' = .returned (.string (numB pt))∧Below w8.heap.size w8 w'):=hid (fun w8 hb=>num_impl w8 h2 h3 (tab_old RT.out hb))
 unfold netV at HVi ⊢
 rw [hp0,hp1,hp2,hp3,hp4,hp5] at HVi ⊢
 obtain ⟨tn,htn⟩:∃ t,numB n=t:=⟨_,rfl⟩
 obtain ⟨tp,htp⟩:∃ t,numB pt=t:=⟨_,rfl⟩
 have HU1:Hid (W1 n pt=[⟨#[118,105,111,108,97,116,101,100]⟩,tn,⟨#[112,111,114,116]⟩,tp,⟨#[100,111,119,110]⟩]):=hid (by unfold W1;rw [htn,htp])
 rw [htn] at HDn
 rw [htp] at HDp
 obtain ⟨S,hS⟩:∃ S,sayW l s g e n D E V pt=S:=⟨_,rfl⟩
 have HS:=hid hS
 rw [hS]
 clear hp0 hp1 hp2 hp3 hp4 hp5 h hB htn htp hS hE hV h0 h1 h2 h3 rD rE rV ht hO1 r0 r1 r3 rd re rv rt
 go_enter Tryz.func26,Tryz.ntmps26
 go_upto_region 1 with fail
 rw [HO1.out]
 refine region_below (fun ua=>⟨#[.agg #[.slice p0 (l 0) (c 0),.slice p1 (l 1) (c 1),.slice p2 (l 2) (c 2),.slice p3 (l 3) (c 3),.slice p4 (l 4) (c 4),.slice p5 (l 5) (c 5)],.agg #[.bool false,.int .i64 n,.slice x1 (l 1) x4,.slice x2 (l 3) x5,.slice x3 (l 0) x6,.int .i64 pt],.pointer (some ⟨w.heap.size,0,none⟩),.pointer (some ⟨w.heap.size+1,0,none⟩),.slice none 0 0,undef,undef,undef,undef,undef,undef,undef,ua 12,ua 13,ua 14,ua 15,ua 16,ua 17,ua 18,undef,undef,undef,undef,undef,undef,undef,undef,undef,undef,undef,undef,undef,undef,undef,undef,undef,undef,undef,undef,undef,undef,undef,undef,undef,undef,undef,undef,undef,undef,undef,undef,undef,undef,undef,undef,undef,undef,undef,undef,undef,undef,undef,undef,undef,undef,undef,undef,undef,undef,undef,undef,undef,undef,undef,undef,undef,undef,undef,undef,undef,undef,undef,undef,undef,undef,undef,undef,undef,undef,undef,undef,undef,undef,undef,undef,undef,undef,undef,undef,undef,undef,undef,undef,undef],[]⟩) (fun i=>[12,13,14,15,16,17,18].getD i 0) (fun i v w8=>match i with|0=>v=.pointer (some ⟨w.heap.size+1,1,none⟩)|1=>v=.int .i64 n|2=>v=.string tn|3=>v=.pointer (some ⟨w.heap.size+1,5,none⟩)|4=>v=.int .i64 pt|5=>v=.string tp|6=>OwnS O1.heap.size w8 v [⟨#[118,105,111,108,97,116,101,100]⟩,tn,⟨#[112,111,114,116]⟩,tp,⟨#[100,111,119,110]⟩]|_=>True) O1 7 (fun k=>match k with|12=>undef|13=>undef|14=>undef|15=>undef|16=>undef|17=>undef|18=>undef|_=>undef) (by rfl) (by kernel_rfl) (by rfl) ⟨by kernel_rfl,by kernel_rfl,by kernel_rfl,by decide⟩ (by kernel_rfl) (Below.refl _ _) ?hput ?hinj ?stable ?step ?last
 case hput =>
  intro i hi ua v
  match i,hi with
  | 0,_=>rfl
  | 1,_=>rfl
  | 2,_=>rfl
  | 3,_=>rfl
  | 4,_=>rfl
  | 5,_=>rfl
  | 6,_=>rfl
  | i+7,hi=>exact absurd hi (by omega)
 case hinj =>
  intro i j hi hj h
  exact slots_inj [12,13,14,15,16,17,18] (by decide) hi hj h
 case stable =>
  intro i v w8 w9 hb h
  match i,h with
  | 0,h=>exact h
  | 1,h=>exact h
  | 2,h=>exact h
  | 3,h=>exact h
  | 4,h=>exact h
  | 5,h=>exact h
  | 6,h=>exact netLines.own_pass h hb
  | _+7,h=>trivial
 case step =>
  intro i hi ua w8 S8 hdep
  match i,hi with
  | 0,_ =>
   clear hdep
   refine ⟨_,rfl,fun K' hK=>?_⟩
   go_simp
   exact hK.out _ _ (Below.refl _ _) rfl
  | 1,_ =>
   have h0:(ua 12)=.pointer (some ⟨w.heap.size+1,1,none⟩):=hdep 0 (by kernel_rfl)
   clear hdep
   refine ⟨_,rfl,fun K' hK=>?_⟩
   have qn:=(Old.of_below S8).cell HC.out.2.2.2.2.2.2.2.1
   simp only [h0] at hK ⊢
   go_simp
   exact hK.out _ _ (Below.refl _ _) rfl
  | 2,_ =>
   have h1:(ua 13)=.int .i64 n:=hdep 1 (by kernel_rfl)
   clear hdep
   refine ⟨_,rfl,fun K' hK=>?_⟩
   simp only [h1] at hK ⊢
   go_simp
   refine (HDn.out _ (Old.of_below S8)).mono ?_
   rintro e9 w9 ⟨rfl,hb9⟩
   exact hK.out _ _ hb9 rfl
  | 3,_ =>
   clear hdep
   refine ⟨_,rfl,fun K' hK=>?_⟩
   go_simp
   exact hK.out _ _ (Below.refl _ _) rfl
  | 4,_ =>
   have h3:(ua 15)=.pointer (some ⟨w.heap.size+1,5,none⟩):=hdep 3 (by kernel_rfl)
   clear hdep
   refine ⟨_,rfl,fun K' hK=>?_⟩
   have qp:=(Old.of_below S8).cell HC.out.2.2.2.2.2.2.2.2.2.2.2
   simp only [h3] at hK ⊢
   go_simp
   exact hK.out _ _ (Below.refl _ _) rfl
  | 5,_ =>
   have h4:(ua 16)=.int .i64 pt:=hdep 4 (by kernel_rfl)
   clear hdep
   refine ⟨_,rfl,fun K' hK=>?_⟩
   simp only [h4] at hK ⊢
   go_simp
   refine (HDp.out _ (Old.of_below S8)).mono ?_
   rintro e9 w9 ⟨rfl,hb9⟩
   exact hK.out _ _ hb9 rfl
  | 6,_ =>
   have h2:(ua 14)=.string tn:=hdep 2 (by kernel_rfl)
   have h5:(ua 17)=.string tp:=hdep 5 (by kernel_rfl)
   clear hdep
   refine ⟨_,rfl,fun K' hK=>?_⟩
   simp only [h2,h5] at hK ⊢
   go_simp
   exact hK.out _ _ Bl (own_five _ _ _ _ _ _ S8.size)
  | i+7,hi=>exact absurd hi (by omega)
 case last =>
  intro ua w8 S8 hall
  have h6:OwnS O1.heap.size w8 (ua 18) [⟨#[118,105,111,108,97,116,101,100]⟩,tn,⟨#[112,111,114,116]⟩,tp,⟨#[100,111,119,110]⟩]:=hall 6 (by decide)
  clear hall
  refine ⟨_,rfl,fun K' hK=>?_⟩
  obtain ⟨v0,hv0⟩:∃ v,ua 18=v:=⟨_,rfl⟩
  rw [hv0] at h6
  simp only [hv0] at hK ⊢
  rw [← HU1.out] at h6
  have HO:=hid h6
  have HB0:=hid S8
  go_simp
  refine hK.out _ _ ?_
  clear hK K' h6 S8 hv0 HU1 HDn HDp
  obtain ⟨q0,q1,q2,q3,q4,q5,y0,y1,y2,y3,y4,y5⟩:=HC.out
  replace q1:=(Old.of_below HB0.out).cell q1
  (try simp only [Exit.then])
  go_wp2_with fail
  go_loopw [22,5] (fun i v wr=>∃ k:Nat,k≤l 1∧i=.int .i64 k∧OwnS O1.heap.size wr v (W2 s g D n pt k)∧Below O1.heap.size O1 wr) (fun i _ _=>l 1 - (intOf i).toNat)
  case atStart=>exact ⟨0,Nat.zero_le _,rfl,HO.out,HB0.out⟩
  case round =>
   clear HO HB0
   obtain ⟨k1,hk,rfl,how,hbel⟩:=hrel
   have HB0:=hid hbel
   have HO:=hid how
   have OL:=hid (Old.of_below hbel)
   have hsz:=hbel.size
   have hF:=hid (few2 G.out (D:=D) F1.out k1 hk)
   have hjs:=hF.out.2.1
   have HRow:Hid (∀ b,Value.ownBlock u5=some b→O1.heap.size≤b∧b<wr.heap.size):=hid (fun b hb=>World.ownsRow.lt how b hb)
   clear hbel how
   by_cases hlt:k1<l 1
   · obtain ⟨bd,od,rfl,hd⟩:=RD.out.cell k1 hlt
     rw [show D[k1]?.getD false=bAt D k1 from rfl] at hd
     obtain ⟨b,off,rfl,hc0,hc1,hc2⟩:=R1.out.at3 hlt
     obtain ⟨na,nb,nn,hna,hnb,hnn,e1,e2,e3⟩:=G.out.link k1 hlt
     obtain ⟨b0,off0,rfl,ha0⟩:=R0.out.cell na hna
     obtain ⟨b0',off0',hpp,hb0⟩:=R0.out.cell nb hnb
     cases hpp
     have hsa:=G.out.name na hna
     have hsb:=G.out.name nb hnb
     rw [e1] at hc0
     rw [e2] at hc1
     rw [e3] at hc2
     obtain ⟨jb,hjb⟩:∃ y:List ByteArray,W2 s g D n pt k1=y:=⟨_,rfl⟩
     rw [hjb] at hjs HO
     obtain ⟨db,hdb⟩:∃ db,bAt D k1=db:=⟨_,rfl⟩
     have HN:Hid (W2 s g D n pt (k1+1)=if db then jb ++ [s na ++ ⟨#[45]⟩ ++ s nb] else jb):=hid (by
      unfold W2
      rw [hdb,hjb]
      cases db with
      | false=>rw [if_neg (by decide),if_neg (by decide),List.append_nil]
      | true=>rw [if_pos rfl,if_pos rfl];unfold linkW;rw [e1,e2];rfl)
     rw [hdb] at hd
     generalize s na=sa at *
     generalize s nb=sb at *
     clear e1 e2 e3 hjb hdb
     have hc0w:=OL.out.cell hc0
     have hc1w:=OL.out.cell hc1
     have hc2w:=OL.out.cell hc2
     have q2w:=OL.out.cell q2
     have y2w:=OL.out.cell y2
     have hdw:=OL.out.cell hd
     have BA:Hid (Below wr.heap.size wr (wr.alloc (.cells #[.int .i64 (na:Int),.int .i64 (nb:Int),.int .i64 (nn:Int)] 68))):=hid Bl
     have y2a:=keep BA.out y2w
     have hda:=keep BA.out hdw
     cases db with
     | false =>
      go_wp2_with fail
      go_roundw
      case rel=>exact ⟨k1+1,by omega,by go_num,by rw [HN.out];exact netLines.own_pass HO.out BA.out,HB0.out.trans (BA.out.mono hsz)⟩
      case measure=>simp [intOf];omega
     | true =>
      rw [if_pos rfl] at HN
      have w1:¬ (9223372036854775807<sa.size+1):=by omega
      obtain ⟨a1,ha1⟩:∃ y:ByteArray,sa ++ ⟨#[45]⟩=y:=⟨_,rfl⟩
      have HX1:=hid ha1
      have z1:a1.size=sa.size+1:=by rw [← ha1,ByteArray.size_append];rfl
      have w2:¬ (9223372036854775807<a1.size+sb.size):=by omega
      obtain ⟨a2,ha2⟩:∃ y:ByteArray,a1 ++ sb=y:=⟨_,rfl⟩
      have HX2:=hid ha2
      have HN2:Hid (W2 s g D n pt (k1+1)=jb ++ [a2]):=hid (by rw [HN.out,← ha2,← ha1])
      clear HN ha1 ha2 z1
      obtain ⟨W4,hW4⟩:∃ W,wr.alloc (.cells #[.int .i64 (na:Int),.int .i64 (nb:Int),.int .i64 (nn:Int)] 68)=W:=⟨_,rfl⟩
      have HW4:=hid hW4
      have u0:W4.cell? ⟨wr.heap.size,0,none⟩=some (.int .i64 (na:Int)):=by rw [← hW4];simp [go_sem]
      have u1:W4.cell? ⟨wr.heap.size,1,none⟩=some (.int .i64 (nb:Int)):=by rw [← hW4];simp [go_sem]
      have hs4:W4.heap.size=wr.heap.size+1:=by rw [← hW4];simp
      rw [hW4] at BA
      clear hW4
      have HOw:Hid (∀ w8:World,Below (W4).heap.size (W4) w8→OwnS O1.heap.size w8 u5 jb):=hid (fun w8 hb=>netLines.own_pass (netLines.own_pass HO.out BA.out) hb)
      have HOld:Hid (∀ w8:World,(W4).grownBy w8 (Value.ownBlock u5)→Old O1 w8):=hid (fun w8 hg=>(Old.of_below (HB0.out.trans (BA.out.mono hsz))).grown (by omega) hg (fun b hb=>(HRow.out b hb).1))
      have HBW:Hid (O1.heap.size≤(W4).heap.size):=hid (by omega)
      have HRl:Hid (∀ b,Value.ownBlock u5=some b→b<(W4).heap.size):=hid (fun b hb=>by have:=(HRow.out b hb).2;omega)
      have F8:Hid (∀ w8:World,W4.grownBy w8 (Value.ownBlock u5)→w8.cell? ⟨w.heap.size,0,none⟩=some (.slice (some ⟨b0,off0,none⟩) (l 0) (c 0))∧w8.cell? ⟨wr.heap.size,0,none⟩=some (.int .i64 (na:Int))∧w8.cell? ⟨wr.heap.size,1,none⟩=some (.int .i64 (nb:Int))∧w8.cell? ⟨b0,off0+na,none⟩=some (.string sa)∧w8.cell? ⟨b0,off0+nb,none⟩=some (.string sb)):=hid (fun w8 hg=>⟨(HOld.out w8 hg).cell q0,keepG hg u0 (fun k hk=>(HRow.out k hk).2),keepG hg u1 (fun k hk=>(HRow.out k hk).2),(HOld.out w8 hg).cell ha0,(HOld.out w8 hg).cell hb0⟩)
      have BW4:Hid (Below O1.heap.size O1 W4):=hid (HB0.out.trans (BA.out.mono hsz))
      go_upto_region 6 with fail
      rw [HW4.out]
      clear q0 q1 q2 q3 q4 q5 y0 y1 y2 y3 y4 y5 hc0 hc1 hc2 hc0w hc1w hc2w q2w y2w hdw y2a hda hd ha0 hb0 u0 u1
      refine drawnApp.region_app (fun ub=>⟨#[.agg #[.slice (some ⟨b0,off0,none⟩) (l 0) (c 0),.slice (some ⟨b,off,none⟩) (l 1) (c 1),.slice p2 (l 2) (c 2),.slice p3 (l 3) (c 3),.slice p4 (l 4) (c 4),.slice p5 (l 5) (c 5)],.agg #[.bool false,.int .i64 n,.slice (some ⟨bd,od,none⟩) (l 1) x4,.slice x2 (l 3) x5,.slice x3 (l 0) x6,.int .i64 pt],.pointer (some ⟨w.heap.size,0,none⟩),.pointer (some ⟨w.heap.size+1,0,none⟩),.slice none 0 0,u5,.int .i64 ↑k1,.pointer (some ⟨wr.heap.size,0,none⟩),undef,undef,undef,undef,ua 12,ua 13,ua 14,ua 15,ua 16,ua 17,v0,.pointer (some ⟨w.heap.size,1,none⟩),.slice (some ⟨b,off,none⟩) (l 1) (c 1),.int .i64 ↑(l 1),.int .i64 ↑k1,.bool true,.int .i64 ↑k1,.pointer (some ⟨b,off+k1*3,none⟩),.agg #[.int .i64 ↑na,.int .i64 ↑nb,.int .i64 ↑nn],.pointer (some ⟨w.heap.size+1,2,none⟩),.slice (some ⟨bd,od,none⟩) (l 1) x4,.int .i64 ↑k1,.pointer (some ⟨bd,od+k1,none⟩),.bool true,ub 32,ub 33,ub 34,ub 35,ub 36,ub 37,ub 38,ub 39,ub 40,ub 41,ub 42,ub 43,ub 44,ub 45,ub 46,ub 47,ub 48,u49,undef,undef,undef,undef,undef,undef,undef,undef,undef,undef,undef,undef,undef,undef,undef,undef,undef,undef,undef,undef,undef,undef,undef,undef,undef,undef,undef,undef,undef,undef,undef,undef,undef,undef,undef,undef,undef,undef,undef,undef,undef,undef,undef,undef,undef,undef,undef,undef,undef,undef,undef,undef,undef,undef],[]⟩) (fun i=>[32,33,34,35,36,37,38,39,40,41,42,43,44,45,46,47,48].getD i 0) (fun iq vq w8=>match iq with|0=>vq=u5|1=>vq=.pointer (some ⟨w.heap.size,0,none⟩)|2=>vq=.slice (some ⟨b0,off0,none⟩) (l 0) (c 0)|3=>vq=.pointer (some ⟨wr.heap.size,0,none⟩)|4=>vq=.int .i64 (na:Int)|5=>vq=.pointer (some ⟨b0,off0+na,none⟩)|6=>vq=.string sa|7=>vq=.string a1|8=>vq=.pointer (some ⟨w.heap.size,0,none⟩)|9=>vq=.slice (some ⟨b0,off0,none⟩) (l 0) (c 0)|10=>vq=.pointer (some ⟨wr.heap.size,1,none⟩)|11=>vq=.int .i64 (nb:Int)|12=>vq=.pointer (some ⟨b0,off0+nb,none⟩)|13=>vq=.string sb|14=>vq=.string a2|15=>∃ gb,vq=.slice (some ⟨gb,0,none⟩) 1 1∧(World.heap W4).size≤gb∧World.cell? w8 ⟨gb,0,none⟩=some (.string a2)|16=>World.ownsRow w8 O1.heap.size 9 1 vq (jb.length+1) (jb.map Value.string ++ [.string a2])∧(Value.ownBlock vq=Value.ownBlock u5∨∃ b,(World.heap W4).size≤b∧Value.ownBlock vq=some b)|_=>True) W4 (Value.ownBlock u5) 16 17 (fun k=>match k with|32=>u32|33=>u33|34=>u34|35=>u35|36=>u36|37=>u37|38=>u38|39=>u39|40=>u40|41=>u41|42=>u42|43=>u43|44=>u44|45=>u45|46=>u46|47=>u47|48=>u48|_=>undef) (by rfl) (by kernel_rfl) (by rfl) ⟨by kernel_rfl,by kernel_rfl,by kernel_rfl,by decide⟩ (by kernel_rfl) (Below.refl _ _) ?hput ?hinj ?stB ?stA ?step ?last
      case hput =>
       intro i hi ub v
       match i,hi with
       | 0,_=>rfl
       | 1,_=>rfl
       | 2,_=>rfl
       | 3,_=>rfl
       | 4,_=>rfl
       | 5,_=>rfl
       | 6,_=>rfl
       | 7,_=>rfl
       | 8,_=>rfl
       | 9,_=>rfl
       | 10,_=>rfl
       | 11,_=>rfl
       | 12,_=>rfl
       | 13,_=>rfl
       | 14,_=>rfl
       | 15,_=>rfl
       | 16,_=>rfl
       | i+17,hi=>exact absurd hi (by omega)
      case hinj =>
       intro i j hi hj h
       exact slots_inj [32,33,34,35,36,37,38,39,40,41,42,43,44,45,46,47,48] (by decide) hi hj h
      case stB =>
       intro iq vq w8 w9 hb h
       match iq,h with
       | 0,h=>exact h
       | 1,h=>exact h
       | 2,h=>exact h
       | 3,h=>exact h
       | 4,h=>exact h
       | 5,h=>exact h
       | 6,h=>exact h
       | 7,h=>exact h
       | 8,h=>exact h
       | 9,h=>exact h
       | 10,h=>exact h
       | 11,h=>exact h
       | 12,h=>exact h
       | 13,h=>exact h
       | 14,h=>exact h
       | 15,h=>obtain ⟨gb,e1,e2,e3⟩:=h;exact ⟨gb,e1,e2,keep hb e3⟩
       | 16,h=>exact ⟨netLines.own_pass h.1 hb,h.2⟩
       | _+17,h=>trivial
      case stA =>
       intro iq vq w8 w9 hne hb hg h
       match iq,hne,h with
       | 0,_,h=>exact h
       | 1,_,h=>exact h
       | 2,_,h=>exact h
       | 3,_,h=>exact h
       | 4,_,h=>exact h
       | 5,_,h=>exact h
       | 6,_,h=>exact h
       | 7,_,h=>exact h
       | 8,_,h=>exact h
       | 9,_,h=>exact h
       | 10,_,h=>exact h
       | 11,_,h=>exact h
       | 12,_,h=>exact h
       | 13,_,h=>exact h
       | 14,_,h=>exact h
       | 15,_,h=>obtain ⟨gb,e1,e2,e3⟩:=h;exact ⟨gb,e1,e2,keepG hg e3 (fun k hk=>by have:=HRl.out k hk;omega)⟩
       | 16,hne,h=>exact absurd rfl hne
       | _+17,_,h=>trivial
      case step =>
       intro iq hi ub w8 S8 hq hdep
       match iq,hi,hq,hdep with
       | 0,_,hq,hdep =>
        clear hdep
        refine ⟨_,rfl,fun K' hK=>?_⟩
        go_simp
        exact hK.out _ _ (drawnApp.grown_refl _ _) (fun _=>Below.refl _ _) rfl
       | 1,_,hq,hdep =>
        clear hdep
        refine ⟨_,rfl,fun K' hK=>?_⟩
        go_simp
        exact hK.out _ _ (drawnApp.grown_refl _ _) (fun _=>Below.refl _ _) rfl
       | 2,_,hq,hdep =>
        have h1:(ub 33)=.pointer (some ⟨w.heap.size,0,none⟩):=hdep 1 (by kernel_rfl)
        clear hdep
        refine ⟨_,rfl,fun K' hK=>?_⟩
        obtain ⟨f0,f1,f2,f3,f4⟩:=F8.out _ S8
        simp only [h1] at hK ⊢
        go_simp
        exact hK.out _ _ (drawnApp.grown_refl _ _) (fun _=>Below.refl _ _) rfl
       | 3,_,hq,hdep =>
        clear hdep
        refine ⟨_,rfl,fun K' hK=>?_⟩
        go_simp
        exact hK.out _ _ (drawnApp.grown_refl _ _) (fun _=>Below.refl _ _) rfl
       | 4,_,hq,hdep =>
        have h3:(ub 35)=.pointer (some ⟨wr.heap.size,0,none⟩):=hdep 3 (by kernel_rfl)
        clear hdep
        refine ⟨_,rfl,fun K' hK=>?_⟩
        obtain ⟨f0,f1,f2,f3,f4⟩:=F8.out _ S8
        simp only [h3] at hK ⊢
        go_simp
        exact hK.out _ _ (drawnApp.grown_refl _ _) (fun _=>Below.refl _ _) rfl
       | 5,_,hq,hdep =>
        have h2:(ub 34)=.slice (some ⟨b0,off0,none⟩) (l 0) (c 0):=hdep 2 (by kernel_rfl)
        have h4:(ub 36)=.int .i64 (na:Int):=hdep 4 (by kernel_rfl)
        clear hdep
        refine ⟨_,rfl,fun K' hK=>?_⟩
        have hnq:(na:Int)<(l 0:Int):=by omega
        simp only [h2,h4] at hK ⊢
        go_simp
        exact hK.out _ _ (drawnApp.grown_refl _ _) (fun _=>Below.refl _ _) rfl
       | 6,_,hq,hdep =>
        have h5:(ub 37)=.pointer (some ⟨b0,off0+na,none⟩):=hdep 5 (by kernel_rfl)
        clear hdep
        refine ⟨_,rfl,fun K' hK=>?_⟩
        obtain ⟨f0,f1,f2,f3,f4⟩:=F8.out _ S8
        simp only [h5] at hK ⊢
        go_simp
        exact hK.out _ _ (drawnApp.grown_refl _ _) (fun _=>Below.refl _ _) rfl
       | 7,_,hq,hdep =>
        have h6:(ub 38)=.string sa:=hdep 6 (by kernel_rfl)
        clear hdep
        refine ⟨_,rfl,fun K' hK=>?_⟩
        simp only [h6] at hK ⊢
        go_simp
        exact hK.out _ _ (drawnApp.grown_refl _ _) (fun _=>Below.refl _ _) (by rw [HX1.out])
       | 8,_,hq,hdep =>
        clear hdep
        refine ⟨_,rfl,fun K' hK=>?_⟩
        go_simp
        exact hK.out _ _ (drawnApp.grown_refl _ _) (fun _=>Below.refl _ _) rfl
       | 9,_,hq,hdep =>
        have h8:(ub 40)=.pointer (some ⟨w.heap.size,0,none⟩):=hdep 8 (by kernel_rfl)
        clear hdep
        refine ⟨_,rfl,fun K' hK=>?_⟩
        obtain ⟨f0,f1,f2,f3,f4⟩:=F8.out _ S8
        simp only [h8] at hK ⊢
        go_simp
        exact hK.out _ _ (drawnApp.grown_refl _ _) (fun _=>Below.refl _ _) rfl
       | 10,_,hq,hdep =>
        clear hdep
        refine ⟨_,rfl,fun K' hK=>?_⟩
        go_simp
        exact hK.out _ _ (drawnApp.grown_refl _ _) (fun _=>Below.refl _ _) rfl
       | 11,_,hq,hdep =>
        have h10:(ub 42)=.pointer (some ⟨wr.heap.size,1,none⟩):=hdep 10 (by kernel_rfl)
        clear hdep
        refine ⟨_,rfl,fun K' hK=>?_⟩
        obtain ⟨f0,f1,f2,f3,f4⟩:=F8.out _ S8
        simp only [h10] at hK ⊢
        go_simp
        exact hK.out _ _ (drawnApp.grown_refl _ _) (fun _=>Below.refl _ _) rfl
       | 12,_,hq,hdep =>
        have h9:(ub 41)=.slice (some ⟨b0,off0,none⟩) (l 0) (c 0):=hdep 9 (by kernel_rfl)
        have h11:(ub 43)=.int .i64 (nb:Int):=hdep 11 (by kernel_rfl)
        clear hdep
        refine ⟨_,rfl,fun K' hK=>?_⟩
        have hnq:(nb:Int)<(l 0:Int):=by omega
        simp only [h9,h11] at hK ⊢
        go_simp
        exact hK.out _ _ (drawnApp.grown_refl _ _) (fun _=>Below.refl _ _) rfl
       | 13,_,hq,hdep =>
        have h12:(ub 44)=.pointer (some ⟨b0,off0+nb,none⟩):=hdep 12 (by kernel_rfl)
        clear hdep
        refine ⟨_,rfl,fun K' hK=>?_⟩
        obtain ⟨f0,f1,f2,f3,f4⟩:=F8.out _ S8
        simp only [h12] at hK ⊢
        go_simp
        exact hK.out _ _ (drawnApp.grown_refl _ _) (fun _=>Below.refl _ _) rfl
       | 14,_,hq,hdep =>
        have h7:(ub 39)=.string a1:=hdep 7 (by kernel_rfl)
        have h13:(ub 45)=.string sb:=hdep 13 (by kernel_rfl)
        clear hdep
        refine ⟨_,rfl,fun K' hK=>?_⟩
        simp only [h7,h13] at hK ⊢
        go_simp
        exact hK.out _ _ (drawnApp.grown_refl _ _) (fun _=>Below.refl _ _) (by rw [HX2.out])
       | 15,_,hq,hdep =>
        have h14:(ub 46)=.string a2:=hdep 14 (by kernel_rfl)
        clear hdep
        refine ⟨_,rfl,fun K' hK=>?_⟩
        simp only [h14] at hK ⊢
        go_simp
        exact hK.out _ _ (drawnApp.grown_below Bl) (fun _=>Bl) ⟨w8.heap.size,rfl,S8.size,by simp [go_sem]⟩
       | 16,_,hq,hdep =>
        have h0:(ub 32)=u5:=hdep 0 (by kernel_rfl)
        have h15:∃ gb,(ub 47)=.slice (some ⟨gb,0,none⟩) 1 1∧(World.heap W4).size≤gb∧World.cell? w8 ⟨gb,0,none⟩=some (.string a2):=hdep 15 (by kernel_rfl)
        clear hdep
        refine ⟨_,rfl,fun K' hK=>?_⟩
        obtain ⟨gb,e15,hgb,hc15⟩:=h15
        refine stepAppend.step_append_at w8 rfl _ _ 23 rfl (some 48) rfl O1.heap.size 9 i0 _ 1 16 Tryz.underlying23 HI.out HZ0.out HZ1.out HZ2.out rfl (by decide) _ _ _ h0 (HOw.out w8 (hq rfl)) ⟨gb,0,none⟩ 1 1 [.string a2] e15 rfl (fun t y ht=>by rw [Addr.add_lit];cases t with|zero=>(injection ht with ht;rw [← ht];exact hc15)|succ t=>(cases ht)) (fun y hy=>by simp at hy;subst hy;rfl) (by unfold maxLen;omega) (by omega) (Nat.le_trans HBW.out S8.size) ?_
        intro v' w' hown hg hat
        refine hK.out v' w' hg (fun h=>absurd rfl h) ⟨hown,?_⟩
        rcases hat with hat|hat
        · exact .inl hat
        · exact .inr ⟨_,S8.size,hat⟩
       | i+17,hi,_,_=>exact absurd hi (by omega)
      case last =>
       intro ub w8 S8 hall
       have h16:World.ownsRow w8 O1.heap.size 9 1 (ub 48) (jb.length+1) (jb.map Value.string ++ [.string a2])∧(Value.ownBlock (ub 48)=Value.ownBlock u5∨∃ b,(World.heap W4).size≤b∧Value.ownBlock (ub 48)=some b):=hall 16 (by decide)
       clear hall
       refine ⟨_,rfl,fun K' hK=>?_⟩
       obtain ⟨vn,hvn⟩:∃ vn,ub 48=vn:=⟨_,rfl⟩
       rw [hvn] at h16
       have HO2:Hid (OwnS O1.heap.size w8 vn (W2 s g D n pt (k1+1))):=hid (by rw [HN2.out];unfold OwnS;rw [List.length_append,List.map_append];exact h16.1)
       have HB2:Hid (Below O1.heap.size O1 w8):=hid (BW4.out.grown S8 HBW.out (fun b hb=>(HRow.out b hb).1))
       simp only [hvn] at hK ⊢
       go_simp
       refine hK.out _ _ ?_
       clear h16 hvn S8 hK K'
       (try simp only [Exit.inBlock,Exit.then])
       go_wp2
       go_roundw
       case rel=>exact ⟨k1+1,by omega,by go_num,HO2.out,HB2.out⟩
       case measure=>simp [intOf];omega
   · have ek:k1=l 1:=by omega
     have hlt':decide (k1<l 1)=false:=decide_eq_false hlt
     obtain ⟨U2,hU2⟩:∃ y,W2 s g D n pt (l 1)=y:=⟨_,rfl⟩
     have HU2:=hid hU2
     have hG:=few2 G.out (D:=D) F1.out k1 hk
     rw [ek] at hG hjs hlt' HO ⊢
     rw [hU2] at hG hjs HO
     have F2:=hid hG
     clear hlt ek hk hU2 hG hF
     go_wp2_with (at_builtin;(refine wpList_append_own _ rfl _ _ 23 rfl O1.heap.size 9 i0 _ 1 16 Tryz.underlying23 HI.out HZ0.out HZ1.out HZ2.out rfl (by decide) _ _ _ rfl (netLines.own_pass HO.out Bl) ⟨wr.heap.size,0,none⟩ 1 1 [.string ⟨#[102,114,111,109]⟩] rfl rfl (at_new _ _ _) (by simp [Value.oneCell']) (by unfold maxLen;omega) (by omega) (by simp;omega) ?_);intro v2 w2 hown2 hg2 hnil2;have HB2:Hid (Below O1.heap.size O1 w2):=hid ((show Below O1.heap.size O1 _ from HB0.out.alloc hsz _).grown hg2 (by simp;omega) (fun j hj=>(HRow.out j hj).1));replace q3:=(Old.of_below HB2.out).cell HC.out.2.2.2.1)
     have HO2:Hid (OwnS O1.heap.size w2 v2 (W3 s e E U2 0)):=hid (by unfold OwnS;rw [show W3 s e E U2 0=U2 ++ [⟨#[102,114,111,109]⟩] from rfl,List.length_append,List.map_append];exact hown2)
     clear hown2 hg2 hnil2 HO HB0 HRow OL
     have HO:=hid HO2.out
     have HB0:=hid HB2.out
     clear HO2 HB2
     obtain ⟨u5a,hu5⟩:∃ y,y=u5:=⟨_,rfl⟩
     subst hu5
     obtain ⟨v2a,hv2⟩:∃ y,y=v2:=⟨_,rfl⟩
     subst hv2
     obtain ⟨wra,hwr⟩:∃ y,y=wr:=⟨_,rfl⟩
     subst hwr
     go_loopw [56,5] (fun i v wr=>∃ k:Nat,k≤l 3∧i=.int .i64 k∧OwnS O1.heap.size wr v (W3 s e E U2 k)∧Below O1.heap.size O1 wr) (fun i _ _=>l 3 - (intOf i).toNat)
     case atStart=>exact ⟨0,Nat.zero_le _,rfl,HO.out,HB0.out⟩
     case round =>
      clear HO HB0
      obtain ⟨k2,hk,rfl,how,hbel⟩:=hrel
      have HB0:=hid hbel
      have HO:=hid how
      have OL:=hid (Old.of_below hbel)
      have hsz:=hbel.size
      have hF:=hid (few3 G.out F2.out HE.out k2 hk)
      have hjs:=hF.out.2.1
      have HRow:Hid (∀ b,Value.ownBlock u5=some b→O1.heap.size≤b∧b<wr.heap.size):=hid (fun b hb=>World.ownsRow.lt how b hb)
      clear hbel how
      by_cases hlt:k2<l 3
      · obtain ⟨be,oe,rfl,hev⟩:=RE.out.cell k2 hlt
        rw [show E[k2]?.getD 0=zAt E k2 from rfl] at hev
        obtain ⟨b,off,rfl,hc0⟩:=R3.out.cell k2 hlt
        obtain ⟨na,hna,e1⟩:=G.out.extn k2 hlt
        rw [show e[k2]?.getD 0=(na:Int) from e1] at hc0
        obtain ⟨b0,off0,rfl,ha0⟩:=R0.out.cell na hna
        have hsa:=G.out.name na hna
        have hz2:=HE.out k2
        have hsb:=numB_size hz2.1 (by omega)
        have HDz:Hid (∀ w8:World,Old O1 w8→Calls Tryz.prog 24 #[.int .i64 (zAt E k2)] w8 fun e' w'=>e' = .returned (.string (numB (zAt E k2)))∧Below w8.heap.size w8 w'):=hid (fun w8 hb=>num_impl w8 hz2.1 (by omega) (tab_old RT.out hb))
        obtain ⟨jb,hjb⟩:∃ y:List ByteArray,W3 s e E U2 k2=y:=⟨_,rfl⟩
        rw [hjb] at hjs HO
        have HN:Hid (W3 s e E U2 (k2+1)=jb ++ [s na ++ ⟨#[61]⟩ ++ numB (zAt E k2)]):=hid (by
         rw [show W3 s e E U2 (k2+1)=W3 s e E U2 k2 ++ [fromW s e E k2] from rfl,hjb];unfold fromW;rw [e1];rfl)
        generalize s na=sa at *
        obtain ⟨sb,hsb0⟩:∃ y:ByteArray,numB (zAt E k2)=y:=⟨_,rfl⟩
        rw [hsb0] at HN HDz hsb
        generalize zAt E k2=ze at *
        have hc0w:=OL.out.cell hc0
        clear e1 hjb hsb0
        have w1:¬ (9223372036854775807<sa.size+1):=by omega
        obtain ⟨a1,ha1⟩:∃ y:ByteArray,sa ++ ⟨#[61]⟩=y:=⟨_,rfl⟩
        have HX1:=hid ha1
        have z1:a1.size=sa.size+1:=by rw [← ha1,ByteArray.size_append];rfl
        have w2:¬ (9223372036854775807<a1.size+sb.size):=by omega
        obtain ⟨a2,ha2⟩:∃ y:ByteArray,a1 ++ sb=y:=⟨_,rfl⟩
        have HX2:=hid ha2
        have HN2:Hid (W3 s e E U2 (k2+1)=jb ++ [a2]):=hid (by rw [HN.out,← ha2,← ha1])
        clear HN ha1 ha2 z1
        have HOw:Hid (∀ w8:World,Below (wr).heap.size (wr) w8→OwnS O1.heap.size w8 u5 jb):=hid (fun w8 hb=>netLines.own_pass HO.out hb)
        have HOld:Hid (∀ w8:World,(wr).grownBy w8 (Value.ownBlock u5)→Old O1 w8):=hid (fun w8 hg=>OL.out.grown hsz hg (fun b hb=>(HRow.out b hb).1))
        have HBW:Hid (O1.heap.size≤(wr).heap.size):=hid hsz
        have HRl:Hid (∀ b,Value.ownBlock u5=some b→b<(wr).heap.size):=hid (fun b hb=>by have:=(HRow.out b hb).2;omega)
        have F8:Hid (∀ w8:World,wr.grownBy w8 (Value.ownBlock u5)→w8.cell? ⟨w.heap.size,0,none⟩=some (.slice (some ⟨b0,off0,none⟩) (l 0) (c 0))∧w8.cell? ⟨w.heap.size+1,3,none⟩=some (.slice (some ⟨be,oe,none⟩) (l 3) x5)∧w8.cell? ⟨be,oe+k2,none⟩=some (.int .i64 ze)∧w8.cell? ⟨b0,off0+na,none⟩=some (.string sa)∧True):=hid (fun w8 hg=>⟨(HOld.out w8 hg).cell HC.out.1,(HOld.out w8 hg).cell y3,(HOld.out w8 hg).cell hev,(HOld.out w8 hg).cell ha0,trivial⟩)
        have BW4:Hid (Below O1.heap.size O1 wr):=hid HB0.out
        have hk2:(k2:Int)<(l 3:Int):=by omega
        go_upto_region 12 with fail
        clear q0 q1 q2 q3 q4 q5 y0 y1 y2 y3 y4 y5 hc0 hc0w ha0 hev
        refine drawnApp.region_app (fun uc=>⟨#[.agg #[.slice (some ⟨b0,off0,none⟩) (l 0) (c 0),.slice p1 (l 1) (c 1),.slice p2 (l 2) (c 2),.slice (some ⟨b,off,none⟩) (l 3) (c 3),.slice p4 (l 4) (c 4),.slice p5 (l 5) (c 5)],.agg #[.bool false,.int .i64 n,.slice x1 (l 1) x4,.slice (some ⟨be,oe,none⟩) (l 3) x5,.slice x3 (l 0) x6,.int .i64 pt],.pointer (some ⟨w.heap.size,0,none⟩),.pointer (some ⟨w.heap.size+1,0,none⟩),.slice none 0 0,u5,u6,u7,.int .i64 ↑k2,.int .i64 ↑na,undef,undef,ua 12,ua 13,ua 14,ua 15,ua 16,ua 17,v0,.pointer (some ⟨w.heap.size,1,none⟩),.slice p1 (l 1) (c 1),.int .i64 ↑(l 1),.int .i64 ↑(l 1),.bool false,u24,u25,u26,u27,u28,u29,u30,u31,u32,u33,u34,u35,u36,u37,u38,u39,u40,u41,u42,u43,u44,u45,u46,u47,u48,u49,u5a,.slice (some ⟨wra.heap.size,0,none⟩) 1 1,v2a,.pointer (some ⟨w.heap.size,3,none⟩),.slice (some ⟨b,off,none⟩) (l 3) (c 3),.int .i64 ↑(l 3),.int .i64 ↑k2,.bool true,.int .i64 ↑k2,.pointer (some ⟨b,off+k2,none⟩),.int .i64 ↑na,uc 61,uc 62,uc 63,uc 64,uc 65,uc 66,uc 67,uc 68,uc 69,uc 70,uc 71,uc 72,uc 73,uc 74,uc 75,uc 76,u77,undef,undef,undef,undef,undef,undef,undef,undef,undef,undef,undef,undef,undef,undef,undef,undef,undef,undef,undef,undef,undef,undef,undef,undef,undef,undef],[]⟩) (fun i=>[61,62,63,64,65,66,67,68,69,70,71,72,73,74,75,76].getD i 0) (fun iq vq w8=>match iq with|0=>vq=u5|1=>vq=.pointer (some ⟨w.heap.size,0,none⟩)|2=>vq=.slice (some ⟨b0,off0,none⟩) (l 0) (c 0)|3=>vq=.int .i64 (na:Int)|4=>vq=.pointer (some ⟨b0,off0+na,none⟩)|5=>vq=.string sa|6=>vq=.string a1|7=>vq=.pointer (some ⟨w.heap.size+1,3,none⟩)|8=>vq=.slice (some ⟨be,oe,none⟩) (l 3) x5|9=>vq=.int .i64 (k2:Int)|10=>vq=.pointer (some ⟨be,oe+k2,none⟩)|11=>vq=.int .i64 ze|12=>vq=.string sb|13=>vq=.string a2|14=>∃ gb,vq=.slice (some ⟨gb,0,none⟩) 1 1∧(World.heap wr).size≤gb∧World.cell? w8 ⟨gb,0,none⟩=some (.string a2)|15=>World.ownsRow w8 O1.heap.size 9 1 vq (jb.length+1) (jb.map Value.string ++ [.string a2])∧(Value.ownBlock vq=Value.ownBlock u5∨∃ b,(World.heap wr).size≤b∧Value.ownBlock vq=some b)|_=>True) wr (Value.ownBlock u5) 15 16 (fun k=>match k with|61=>u61|62=>u62|63=>u63|64=>u64|65=>u65|66=>u66|67=>u67|68=>u68|69=>u69|70=>u70|71=>u71|72=>u72|73=>u73|74=>u74|75=>u75|76=>u76|_=>undef) (by rfl) (by kernel_rfl) (by rfl) ⟨by kernel_rfl,by kernel_rfl,by kernel_rfl,by decide⟩ (by kernel_rfl) (Below.refl _ _) ?hput ?hinj ?stB ?stA ?step ?last
        case hput =>
         intro i hi uc v
         match i,hi with
         | 0,_=>rfl
         | 1,_=>rfl
         | 2,_=>rfl
         | 3,_=>rfl
         | 4,_=>rfl
         | 5,_=>rfl
         | 6,_=>rfl
         | 7,_=>rfl
         | 8,_=>rfl
         | 9,_=>rfl
         | 10,_=>rfl
         | 11,_=>rfl
         | 12,_=>rfl
         | 13,_=>rfl
         | 14,_=>rfl
         | 15,_=>rfl
         | i+16,hi=>exact absurd hi (by omega)
        case hinj =>
         intro i j hi hj h
         exact slots_inj [61,62,63,64,65,66,67,68,69,70,71,72,73,74,75,76] (by decide) hi hj h
        case stB =>
         intro iq vq w8 w9 hb h
         match iq,h with
         | 0,h=>exact h
         | 1,h=>exact h
         | 2,h=>exact h
         | 3,h=>exact h
         | 4,h=>exact h
         | 5,h=>exact h
         | 6,h=>exact h
         | 7,h=>exact h
         | 8,h=>exact h
         | 9,h=>exact h
         | 10,h=>exact h
         | 11,h=>exact h
         | 12,h=>exact h
         | 13,h=>exact h
         | 14,h=>obtain ⟨gb,e1,e2,e3⟩:=h;exact ⟨gb,e1,e2,keep hb e3⟩
         | 15,h=>exact ⟨netLines.own_pass h.1 hb,h.2⟩
         | _+16,h=>trivial
        case stA =>
         intro iq vq w8 w9 hne hb hg h
         match iq,hne,h with
         | 0,_,h=>exact h
         | 1,_,h=>exact h
         | 2,_,h=>exact h
         | 3,_,h=>exact h
         | 4,_,h=>exact h
         | 5,_,h=>exact h
         | 6,_,h=>exact h
         | 7,_,h=>exact h
         | 8,_,h=>exact h
         | 9,_,h=>exact h
         | 10,_,h=>exact h
         | 11,_,h=>exact h
         | 12,_,h=>exact h
         | 13,_,h=>exact h
         | 14,_,h=>obtain ⟨gb,e1,e2,e3⟩:=h;exact ⟨gb,e1,e2,keepG hg e3 (fun k hk=>by have:=HRl.out k hk;omega)⟩
         | 15,hne,h=>exact absurd rfl hne
         | _+16,_,h=>trivial
        case step =>
         intro iq hi uc w8 S8 hq hdep
         match iq,hi,hq,hdep with
         | 0,_,hq,hdep =>
          clear hdep
          refine ⟨_,rfl,fun K' hK=>?_⟩
          go_simp
          exact hK.out _ _ (drawnApp.grown_refl _ _) (fun _=>Below.refl _ _) rfl
         | 1,_,hq,hdep =>
          clear hdep
          refine ⟨_,rfl,fun K' hK=>?_⟩
          go_simp
          exact hK.out _ _ (drawnApp.grown_refl _ _) (fun _=>Below.refl _ _) rfl
         | 2,_,hq,hdep =>
          have h1:(uc 62)=.pointer (some ⟨w.heap.size,0,none⟩):=hdep 1 (by kernel_rfl)
          clear hdep
          refine ⟨_,rfl,fun K' hK=>?_⟩
          obtain ⟨f0,f1,f2,f3,f4⟩:=F8.out _ S8
          simp only [h1] at hK ⊢
          go_simp
          exact hK.out _ _ (drawnApp.grown_refl _ _) (fun _=>Below.refl _ _) rfl
         | 3,_,hq,hdep =>
          clear hdep
          refine ⟨_,rfl,fun K' hK=>?_⟩
          go_simp
          exact hK.out _ _ (drawnApp.grown_refl _ _) (fun _=>Below.refl _ _) rfl
         | 4,_,hq,hdep =>
          have h2:(uc 63)=.slice (some ⟨b0,off0,none⟩) (l 0) (c 0):=hdep 2 (by kernel_rfl)
          have h3:(uc 64)=.int .i64 (na:Int):=hdep 3 (by kernel_rfl)
          clear hdep
          refine ⟨_,rfl,fun K' hK=>?_⟩
          have hnq:(na:Int)<(l 0:Int):=by omega
          simp only [h2,h3] at hK ⊢
          go_simp
          exact hK.out _ _ (drawnApp.grown_refl _ _) (fun _=>Below.refl _ _) rfl
         | 5,_,hq,hdep =>
          have h4:(uc 65)=.pointer (some ⟨b0,off0+na,none⟩):=hdep 4 (by kernel_rfl)
          clear hdep
          refine ⟨_,rfl,fun K' hK=>?_⟩
          obtain ⟨f0,f1,f2,f3,f4⟩:=F8.out _ S8
          simp only [h4] at hK ⊢
          go_simp
          exact hK.out _ _ (drawnApp.grown_refl _ _) (fun _=>Below.refl _ _) rfl
         | 6,_,hq,hdep =>
          have h5:(uc 66)=.string sa:=hdep 5 (by kernel_rfl)
          clear hdep
          refine ⟨_,rfl,fun K' hK=>?_⟩
          simp only [h5] at hK ⊢
          go_simp
          exact hK.out _ _ (drawnApp.grown_refl _ _) (fun _=>Below.refl _ _) (by rw [HX1.out])
         | 7,_,hq,hdep =>
          clear hdep
          refine ⟨_,rfl,fun K' hK=>?_⟩
          go_simp
          exact hK.out _ _ (drawnApp.grown_refl _ _) (fun _=>Below.refl _ _) rfl
         | 8,_,hq,hdep =>
          have h7:(uc 68)=.pointer (some ⟨w.heap.size+1,3,none⟩):=hdep 7 (by kernel_rfl)
          clear hdep
          refine ⟨_,rfl,fun K' hK=>?_⟩
          obtain ⟨f0,f1,f2,f3,f4⟩:=F8.out _ S8
          simp only [h7] at hK ⊢
          go_simp
          exact hK.out _ _ (drawnApp.grown_refl _ _) (fun _=>Below.refl _ _) rfl
         | 9,_,hq,hdep =>
          clear hdep
          refine ⟨_,rfl,fun K' hK=>?_⟩
          go_simp
          exact hK.out _ _ (drawnApp.grown_refl _ _) (fun _=>Below.refl _ _) rfl
         | 10,_,hq,hdep =>
          have h8:(uc 69)=.slice (some ⟨be,oe,none⟩) (l 3) x5:=hdep 8 (by kernel_rfl)
          have h9:(uc 70)=.int .i64 (k2:Int):=hdep 9 (by kernel_rfl)
          clear hdep
          refine ⟨_,rfl,fun K' hK=>?_⟩
          have hkq:(k2:Int)<(l 3:Int):=by omega
          simp only [h8,h9] at hK ⊢
          go_simp
          exact hK.out _ _ (drawnApp.grown_refl _ _) (fun _=>Below.refl _ _) rfl
         | 11,_,hq,hdep =>
          have h10:(uc 71)=.pointer (some ⟨be,oe+k2,none⟩):=hdep 10 (by kernel_rfl)
          clear hdep
          refine ⟨_,rfl,fun K' hK=>?_⟩
          obtain ⟨f0,f1,f2,f3,f4⟩:=F8.out _ S8
          simp only [h10] at hK ⊢
          go_simp
          exact hK.out _ _ (drawnApp.grown_refl _ _) (fun _=>Below.refl _ _) rfl
         | 12,_,hq,hdep =>
          have h11:(uc 72)=.int .i64 ze:=hdep 11 (by kernel_rfl)
          clear hdep
          refine ⟨_,rfl,fun K' hK=>?_⟩
          simp only [h11] at hK ⊢
          go_simp
          refine (HDz.out _ (HOld.out _ S8)).mono ?_
          rintro e1 w9 ⟨rfl,hb9⟩
          exact hK.out _ _ (drawnApp.grown_below hb9) (fun _=>hb9) rfl
         | 13,_,hq,hdep =>
          have h6:(uc 67)=.string a1:=hdep 6 (by kernel_rfl)
          have h12:(uc 73)=.string sb:=hdep 12 (by kernel_rfl)
          clear hdep
          refine ⟨_,rfl,fun K' hK=>?_⟩
          simp only [h6,h12] at hK ⊢
          go_simp
          exact hK.out _ _ (drawnApp.grown_refl _ _) (fun _=>Below.refl _ _) (by rw [HX2.out])
         | 14,_,hq,hdep =>
          have h13:(uc 74)=.string a2:=hdep 13 (by kernel_rfl)
          clear hdep
          refine ⟨_,rfl,fun K' hK=>?_⟩
          simp only [h13] at hK ⊢
          go_simp
          exact hK.out _ _ (drawnApp.grown_below Bl) (fun _=>Bl) ⟨w8.heap.size,rfl,S8.size,by simp [go_sem]⟩
         | 15,_,hq,hdep =>
          have h0:(uc 61)=u5:=hdep 0 (by kernel_rfl)
          have h14:∃ gb,(uc 75)=.slice (some ⟨gb,0,none⟩) 1 1∧(World.heap wr).size≤gb∧World.cell? w8 ⟨gb,0,none⟩=some (.string a2):=hdep 14 (by kernel_rfl)
          clear hdep
          refine ⟨_,rfl,fun K' hK=>?_⟩
          obtain ⟨gb,e14,hgb,hc14⟩:=h14
          refine stepAppend.step_append_at w8 rfl _ _ 23 rfl (some 76) rfl O1.heap.size 9 i0 _ 1 16 Tryz.underlying23 HI.out HZ0.out HZ1.out HZ2.out rfl (by decide) _ _ _ h0 (HOw.out w8 (hq rfl)) ⟨gb,0,none⟩ 1 1 [.string a2] e14 rfl (fun t y ht=>by rw [Addr.add_lit];cases t with|zero=>(injection ht with ht;rw [← ht];exact hc14)|succ t=>(cases ht)) (fun y hy=>by simp at hy;subst hy;rfl) (by unfold maxLen;omega) (by omega) (Nat.le_trans HBW.out S8.size) ?_
          intro v' w' hown hg hat
          refine hK.out v' w' hg (fun h=>absurd rfl h) ⟨hown,?_⟩
          rcases hat with hat|hat
          · exact .inl hat
          · exact .inr ⟨_,S8.size,hat⟩
         | i+16,hi,_,_=>exact absurd hi (by omega)
        case last =>
         intro uc w8 S8 hall
         have h15:World.ownsRow w8 O1.heap.size 9 1 (uc 76) (jb.length+1) (jb.map Value.string ++ [.string a2])∧(Value.ownBlock (uc 76)=Value.ownBlock u5∨∃ b,(World.heap wr).size≤b∧Value.ownBlock (uc 76)=some b):=hall 15 (by decide)
         clear hall
         refine ⟨_,rfl,fun K' hK=>?_⟩
         obtain ⟨vn,hvn⟩:∃ vn,uc 76=vn:=⟨_,rfl⟩
         rw [hvn] at h15
         have HO2:Hid (OwnS O1.heap.size w8 vn (W3 s e E U2 (k2+1))):=hid (by rw [HN2.out];unfold OwnS;rw [List.length_append,List.map_append];exact h15.1)
         have HB2:Hid (Below O1.heap.size O1 w8):=hid (BW4.out.grown S8 HBW.out (fun b hb=>(HRow.out b hb).1))
         simp only [hvn] at hK ⊢
         go_simp
         refine hK.out _ _ ?_
         clear h15 hvn S8 hK K'
         (try simp only [Exit.inBlock,Exit.then])
         go_wp2
         go_roundw
         case rel=>exact ⟨k2+1,by omega,by go_num,HO2.out,HB2.out⟩
         case measure=>simp [intOf];omega
      · have ek:k2=l 3:=by omega
        have hlt':decide (k2<l 3)=false:=decide_eq_false hlt
        obtain ⟨U3,hU3⟩:∃ y,W3 s e E U2 (l 3)=y:=⟨_,rfl⟩
        have HU3:=hid hU3
        have hG:=few3 G.out F2.out HE.out k2 hk
        rw [ek] at hG hjs hlt' HO ⊢
        rw [hU3] at hG hjs HO
        have F3:=hid hG
        clear hlt ek hk hU3 hG hF
        go_wp2_with (at_builtin;(refine wpList_append_own _ rfl _ _ 23 rfl O1.heap.size 9 i0 _ 1 16 Tryz.underlying23 HI.out HZ0.out HZ1.out HZ2.out rfl (by decide) _ _ _ rfl (netLines.own_pass HO.out Bl) ⟨wr.heap.size,0,none⟩ 1 1 [.string ⟨#[118,105,97]⟩] rfl rfl (at_new _ _ _) (by simp [Value.oneCell']) (by unfold maxLen;omega) (by omega) (by simp;omega) ?_);intro v2 w2 hown2 hg2 hnil2;have HB2:Hid (Below O1.heap.size O1 w2):=hid ((show Below O1.heap.size O1 _ from HB0.out.alloc hsz _).grown hg2 (by simp;omega) (fun j hj=>(HRow.out j hj).1));replace y4:=(Old.of_below HB2.out).cell HC.out.2.2.2.2.2.2.2.2.2.2.1)
        have HO2:Hid (OwnS O1.heap.size w2 v2 (W4 s V U3 0)):=hid (by unfold OwnS;rw [show W4 s V U3 0=U3 ++ [⟨#[118,105,97]⟩] from rfl,List.length_append,List.map_append];exact hown2)
        clear hown2 hg2 hnil2 HO HB0 HRow OL
        have HO:=hid HO2.out
        have HB0:=hid HB2.out
        clear HO2 HB2
        obtain ⟨u5b,hu5⟩:∃ y,y=u5:=⟨_,rfl⟩
        subst hu5
        obtain ⟨v2b,hv2⟩:∃ y,y=v2:=⟨_,rfl⟩
        subst hv2
        obtain ⟨wrb,hwr⟩:∃ y,y=wr:=⟨_,rfl⟩
        subst hwr
        go_loopw [84,5] (fun i v wr=>∃ k:Nat,k≤l 0∧i=.int .i64 k∧OwnS O1.heap.size wr v (W4 s V U3 k)∧Below O1.heap.size O1 wr) (fun i _ _=>l 0 - (intOf i).toNat)
        case atStart=>exact ⟨0,Nat.zero_le _,rfl,HO.out,HB0.out⟩
        case round =>
         clear HO HB0
         obtain ⟨k3,hk,rfl,how,hbel⟩:=hrel
         have HB0:=hid hbel
         have HO:=hid how
         have OL:=hid (Old.of_below hbel)
         have hsz:=hbel.size
         have hF:=hid (few4 G.out F3.out HV.out k3 hk)
         have hjs:=hF.out.2.1
         have HRow:Hid (∀ b,Value.ownBlock u5=some b→O1.heap.size≤b∧b<wr.heap.size):=hid (fun b hb=>World.ownsRow.lt how b hb)
         clear hbel how
         by_cases hlt:k3<l 0
         · obtain ⟨be,oe,rfl,hev⟩:=RV.out.cell k3 hlt
           rw [show V[k3]?.getD 0=zAt V k3 from rfl] at hev
           obtain ⟨b0,off0,rfl,ha0⟩:=R0.out.cell k3 hlt
           have hsa:=G.out.name k3 hlt
           have hz2:=HV.out k3
           have hsb:=viaW_size G.out hz2.1 hz2.2
           have HDz:Hid (∀ w8:World,Old O1 w8→Calls Tryz.prog 58 #[.agg #[.slice (some ⟨b0,off0,none⟩) (l 0) (c 0),.slice p1 (l 1) (c 1),.slice p2 (l 2) (c 2),.slice p3 (l 3) (c 3),.slice p4 (l 4) (c 4),.slice p5 (l 5) (c 5)],.int .i64 (zAt V k3)] w8 fun e' w'=>e' = .returned (.string (viaW s (zAt V k3)))∧Below w8.heap.size w8 w'):=hid (fun w8 hb=>HVi.out _ w8 hb hz2.1 hz2.2)
           obtain ⟨jb,hjb⟩:∃ y:List ByteArray,W4 s V U3 k3=y:=⟨_,rfl⟩
           rw [hjb] at hjs HO
           have HN:Hid (W4 s V U3 (k3+1)=jb ++ [s k3 ++ ⟨#[62]⟩ ++ viaW s (zAt V k3)]):=hid (by
            rw [show W4 s V U3 (k3+1)=W4 s V U3 k3 ++ [overW s V k3] from rfl,hjb];rfl)
           generalize s k3=sa at *
           obtain ⟨sb,hsb0⟩:∃ y:ByteArray,viaW s (zAt V k3)=y:=⟨_,rfl⟩
           rw [hsb0] at HN HDz hsb
           generalize zAt V k3=ze at *
           have hevw:=OL.out.cell hev
           clear hjb hsb0
           have w1:¬ (9223372036854775807<sa.size+1):=by omega
           obtain ⟨a1,ha1⟩:∃ y:ByteArray,sa ++ ⟨#[62]⟩=y:=⟨_,rfl⟩
           have HX1:=hid ha1
           have z1:a1.size=sa.size+1:=by rw [← ha1,ByteArray.size_append];rfl
           have w2:¬ (9223372036854775807<a1.size+sb.size):=by omega
           obtain ⟨a2,ha2⟩:∃ y:ByteArray,a1 ++ sb=y:=⟨_,rfl⟩
           have HX2:=hid ha2
           have HN2:Hid (W4 s V U3 (k3+1)=jb ++ [a2]):=hid (by rw [HN.out,← ha2,← ha1])
           clear HN ha1 ha2 z1
           have HOw:Hid (∀ w8:World,Below (wr).heap.size (wr) w8→OwnS O1.heap.size w8 u5 jb):=hid (fun w8 hb=>netLines.own_pass HO.out hb)
           have HOld:Hid (∀ w8:World,(wr).grownBy w8 (Value.ownBlock u5)→Old O1 w8):=hid (fun w8 hg=>OL.out.grown hsz hg (fun b hb=>(HRow.out b hb).1))
           have HBW:Hid (O1.heap.size≤(wr).heap.size):=hid hsz
           have HRl:Hid (∀ b,Value.ownBlock u5=some b→b<(wr).heap.size):=hid (fun b hb=>by have:=(HRow.out b hb).2;omega)
           have F8:Hid (∀ w8:World,wr.grownBy w8 (Value.ownBlock u5)→w8.cell? ⟨w.heap.size,0,none⟩=some (.slice (some ⟨b0,off0,none⟩) (l 0) (c 0))∧w8.cell? ⟨w.heap.size,1,none⟩=some (.slice p1 (l 1) (c 1))∧w8.cell? ⟨w.heap.size,2,none⟩=some (.slice p2 (l 2) (c 2))∧w8.cell? ⟨w.heap.size,3,none⟩=some (.slice p3 (l 3) (c 3))∧w8.cell? ⟨w.heap.size,4,none⟩=some (.slice p4 (l 4) (c 4))∧w8.cell? ⟨w.heap.size,5,none⟩=some (.slice p5 (l 5) (c 5))∧w8.cell? ⟨b0,off0+k3,none⟩=some (.string sa)):=hid (fun w8 hg=>⟨(HOld.out w8 hg).cell HC.out.1,(HOld.out w8 hg).cell HC.out.2.1,(HOld.out w8 hg).cell HC.out.2.2.1,(HOld.out w8 hg).cell HC.out.2.2.2.1,(HOld.out w8 hg).cell HC.out.2.2.2.2.1,(HOld.out w8 hg).cell HC.out.2.2.2.2.2.1,(HOld.out w8 hg).cell ha0⟩)
           have BW4:Hid (Below O1.heap.size O1 wr):=hid HB0.out
           have hk3:(k3:Int)<(l 0:Int):=by omega
           go_upto_region 18 with fail
           clear q0 q1 q2 q3 q4 q5 y0 y1 y2 y3 y4 y5 ha0 hev hevw
           refine drawnApp.region_app (fun ud=>⟨#[.agg #[.slice (some ⟨b0,off0,none⟩) (l 0) (c 0),.slice p1 (l 1) (c 1),.slice p2 (l 2) (c 2),.slice p3 (l 3) (c 3),.slice p4 (l 4) (c 4),.slice p5 (l 5) (c 5)],.agg #[.bool false,.int .i64 n,.slice x1 (l 1) x4,.slice x2 (l 3) x5,.slice (some ⟨be,oe,none⟩) (l 0) x6,.int .i64 pt],.pointer (some ⟨w.heap.size,0,none⟩),.pointer (some ⟨w.heap.size+1,0,none⟩),.slice none 0 0,u5,u6,u7,u8,u9,.int .i64 ↑k3,.int .i64 ze,ua 12,ua 13,ua 14,ua 15,ua 16,ua 17,v0,.pointer (some ⟨w.heap.size,1,none⟩),.slice p1 (l 1) (c 1),.int .i64 ↑(l 1),.int .i64 ↑(l 1),.bool false,u24,u25,u26,u27,u28,u29,u30,u31,u32,u33,u34,u35,u36,u37,u38,u39,u40,u41,u42,u43,u44,u45,u46,u47,u48,u49,u5a,.slice (some ⟨wra.heap.size,0,none⟩) 1 1,v2a,.pointer (some ⟨w.heap.size,3,none⟩),.slice p3 (l 3) (c 3),.int .i64 ↑(l 3),.int .i64 ↑(l 3),.bool false,u58,u59,u60,u61,u62,u63,u64,u65,u66,u67,u68,u69,u70,u71,u72,u73,u74,u75,u76,u77,u5b,.slice (some ⟨wrb.heap.size,0,none⟩) 1 1,v2b,.pointer (some ⟨w.heap.size+1,4,none⟩),.slice (some ⟨be,oe,none⟩) (l 0) x6,.int .i64 ↑(l 0),.int .i64 ↑k3,.bool true,.int .i64 ↑k3,.pointer (some ⟨be,oe+k3,none⟩),.int .i64 ze,ud 89,ud 90,ud 91,ud 92,ud 93,ud 94,ud 95,ud 96,ud 97,ud 98,ud 99,ud 100,ud 101,u102,undef],[]⟩) (fun i=>[89,90,91,92,93,94,95,96,97,98,99,100,101].getD i 0) (fun iq vq w8=>match iq with|0=>vq=u5|1=>vq=.pointer (some ⟨w.heap.size,0,none⟩)|2=>vq=.slice (some ⟨b0,off0,none⟩) (l 0) (c 0)|3=>vq=.int .i64 (k3:Int)|4=>vq=.pointer (some ⟨b0,off0+k3,none⟩)|5=>vq=.string sa|6=>vq=.string a1|7=>vq=.agg #[.slice (some ⟨b0,off0,none⟩) (l 0) (c 0),.slice p1 (l 1) (c 1),.slice p2 (l 2) (c 2),.slice p3 (l 3) (c 3),.slice p4 (l 4) (c 4),.slice p5 (l 5) (c 5)]|8=>vq=.int .i64 ze|9=>vq=.string sb|10=>vq=.string a2|11=>∃ gb,vq=.slice (some ⟨gb,0,none⟩) 1 1∧(World.heap wr).size≤gb∧World.cell? w8 ⟨gb,0,none⟩=some (.string a2)|12=>World.ownsRow w8 O1.heap.size 9 1 vq (jb.length+1) (jb.map Value.string ++ [.string a2])∧(Value.ownBlock vq=Value.ownBlock u5∨∃ b,(World.heap wr).size≤b∧Value.ownBlock vq=some b)|_=>True) wr (Value.ownBlock u5) 12 13 (fun k=>match k with|89=>u89|90=>u90|91=>u91|92=>u92|93=>u93|94=>u94|95=>u95|96=>u96|97=>u97|98=>u98|99=>u99|100=>u100|101=>u101|_=>undef) (by rfl) (by kernel_rfl) (by rfl) ⟨by kernel_rfl,by kernel_rfl,by kernel_rfl,by decide⟩ (by kernel_rfl) (Below.refl _ _) ?hput ?hinj ?stB ?stA ?step ?last
           case hput =>
            intro i hi ud v
            match i,hi with
            | 0,_=>rfl
            | 1,_=>rfl
            | 2,_=>rfl
            | 3,_=>rfl
            | 4,_=>rfl
            | 5,_=>rfl
            | 6,_=>rfl
            | 7,_=>rfl
            | 8,_=>rfl
            | 9,_=>rfl
            | 10,_=>rfl
            | 11,_=>rfl
            | 12,_=>rfl
            | i+13,hi=>exact absurd hi (by omega)
           case hinj =>
            intro i j hi hj h
            exact slots_inj [89,90,91,92,93,94,95,96,97,98,99,100,101] (by decide) hi hj h
           case stB =>
            intro iq vq w8 w9 hb h
            match iq,h with
            | 0,h=>exact h
            | 1,h=>exact h
            | 2,h=>exact h
            | 3,h=>exact h
            | 4,h=>exact h
            | 5,h=>exact h
            | 6,h=>exact h
            | 7,h=>exact h
            | 8,h=>exact h
            | 9,h=>exact h
            | 10,h=>exact h
            | 11,h=>obtain ⟨gb,e1,e2,e3⟩:=h;exact ⟨gb,e1,e2,keep hb e3⟩
            | 12,h=>exact ⟨netLines.own_pass h.1 hb,h.2⟩
            | _+13,h=>trivial
           case stA =>
            intro iq vq w8 w9 hne hb hg h
            match iq,hne,h with
            | 0,_,h=>exact h
            | 1,_,h=>exact h
            | 2,_,h=>exact h
            | 3,_,h=>exact h
            | 4,_,h=>exact h
            | 5,_,h=>exact h
            | 6,_,h=>exact h
            | 7,_,h=>exact h
            | 8,_,h=>exact h
            | 9,_,h=>exact h
            | 10,_,h=>exact h
            | 11,_,h=>obtain ⟨gb,e1,e2,e3⟩:=h;exact ⟨gb,e1,e2,keepG hg e3 (fun k hk=>by have:=HRl.out k hk;omega)⟩
            | 12,hne,h=>exact absurd rfl hne
            | _+13,_,h=>trivial
           case step =>
            intro iq hi ud w8 S8 hq hdep
            match iq,hi,hq,hdep with
            | 0,_,hq,hdep =>
             clear hdep
             refine ⟨_,rfl,fun K' hK=>?_⟩
             go_simp
             exact hK.out _ _ (drawnApp.grown_refl _ _) (fun _=>Below.refl _ _) rfl
            | 1,_,hq,hdep =>
             clear hdep
             refine ⟨_,rfl,fun K' hK=>?_⟩
             go_simp
             exact hK.out _ _ (drawnApp.grown_refl _ _) (fun _=>Below.refl _ _) rfl
            | 2,_,hq,hdep =>
             have h1:(ud 90)=.pointer (some ⟨w.heap.size,0,none⟩):=hdep 1 (by kernel_rfl)
             clear hdep
             refine ⟨_,rfl,fun K' hK=>?_⟩
             obtain ⟨f0,f1,f2,f3,f4,f5,f6⟩:=F8.out _ S8
             simp only [h1] at hK ⊢
             go_simp
             exact hK.out _ _ (drawnApp.grown_refl _ _) (fun _=>Below.refl _ _) rfl
            | 3,_,hq,hdep =>
             clear hdep
             refine ⟨_,rfl,fun K' hK=>?_⟩
             go_simp
             exact hK.out _ _ (drawnApp.grown_refl _ _) (fun _=>Below.refl _ _) rfl
            | 4,_,hq,hdep =>
             have h2:(ud 91)=.slice (some ⟨b0,off0,none⟩) (l 0) (c 0):=hdep 2 (by kernel_rfl)
             have h3:(ud 92)=.int .i64 (k3:Int):=hdep 3 (by kernel_rfl)
             clear hdep
             refine ⟨_,rfl,fun K' hK=>?_⟩
             have hkq:(k3:Int)<(l 0:Int):=by omega
             simp only [h2,h3] at hK ⊢
             go_simp
             exact hK.out _ _ (drawnApp.grown_refl _ _) (fun _=>Below.refl _ _) rfl
            | 5,_,hq,hdep =>
             have h4:(ud 93)=.pointer (some ⟨b0,off0+k3,none⟩):=hdep 4 (by kernel_rfl)
             clear hdep
             refine ⟨_,rfl,fun K' hK=>?_⟩
             obtain ⟨f0,f1,f2,f3,f4,f5,f6⟩:=F8.out _ S8
             simp only [h4] at hK ⊢
             go_simp
             exact hK.out _ _ (drawnApp.grown_refl _ _) (fun _=>Below.refl _ _) rfl
            | 6,_,hq,hdep =>
             have h5:(ud 94)=.string sa:=hdep 5 (by kernel_rfl)
             clear hdep
             refine ⟨_,rfl,fun K' hK=>?_⟩
             simp only [h5] at hK ⊢
             go_simp
             exact hK.out _ _ (drawnApp.grown_refl _ _) (fun _=>Below.refl _ _) (by rw [HX1.out])
            | 7,_,hq,hdep =>
             clear hdep
             refine ⟨_,rfl,fun K' hK=>?_⟩
             obtain ⟨f0,f1,f2,f3,f4,f5,f6⟩:=F8.out _ S8
             go_simp
             exact hK.out _ _ (drawnApp.grown_refl _ _) (fun _=>Below.refl _ _) rfl
            | 8,_,hq,hdep =>
             clear hdep
             refine ⟨_,rfl,fun K' hK=>?_⟩
             go_simp
             exact hK.out _ _ (drawnApp.grown_refl _ _) (fun _=>Below.refl _ _) rfl
            | 9,_,hq,hdep =>
             have h7:(ud 96)=.agg #[.slice (some ⟨b0,off0,none⟩) (l 0) (c 0),.slice p1 (l 1) (c 1),.slice p2 (l 2) (c 2),.slice p3 (l 3) (c 3),.slice p4 (l 4) (c 4),.slice p5 (l 5) (c 5)]:=hdep 7 (by kernel_rfl)
             have h8:(ud 97)=.int .i64 ze:=hdep 8 (by kernel_rfl)
             clear hdep
             refine ⟨_,rfl,fun K' hK=>?_⟩
             simp only [h7,h8] at hK ⊢
             go_simp
             refine (HDz.out _ (HOld.out _ S8)).mono ?_
             rintro e1 w9 ⟨rfl,hb9⟩
             exact hK.out _ _ (drawnApp.grown_below hb9) (fun _=>hb9) rfl
            | 10,_,hq,hdep =>
             have h6:(ud 95)=.string a1:=hdep 6 (by kernel_rfl)
             have h9:(ud 98)=.string sb:=hdep 9 (by kernel_rfl)
             clear hdep
             refine ⟨_,rfl,fun K' hK=>?_⟩
             simp only [h6,h9] at hK ⊢
             go_simp
             exact hK.out _ _ (drawnApp.grown_refl _ _) (fun _=>Below.refl _ _) (by rw [HX2.out])
            | 11,_,hq,hdep =>
             have h10:(ud 99)=.string a2:=hdep 10 (by kernel_rfl)
             clear hdep
             refine ⟨_,rfl,fun K' hK=>?_⟩
             simp only [h10] at hK ⊢
             go_simp
             exact hK.out _ _ (drawnApp.grown_below Bl) (fun _=>Bl) ⟨w8.heap.size,rfl,S8.size,by simp [go_sem]⟩
            | 12,_,hq,hdep =>
             have h0:(ud 89)=u5:=hdep 0 (by kernel_rfl)
             have h11:∃ gb,(ud 100)=.slice (some ⟨gb,0,none⟩) 1 1∧(World.heap wr).size≤gb∧World.cell? w8 ⟨gb,0,none⟩=some (.string a2):=hdep 11 (by kernel_rfl)
             clear hdep
             refine ⟨_,rfl,fun K' hK=>?_⟩
             obtain ⟨gb,e11,hgb,hc11⟩:=h11
             refine stepAppend.step_append_at w8 rfl _ _ 23 rfl (some 101) rfl O1.heap.size 9 i0 _ 1 16 Tryz.underlying23 HI.out HZ0.out HZ1.out HZ2.out rfl (by decide) _ _ _ h0 (HOw.out w8 (hq rfl)) ⟨gb,0,none⟩ 1 1 [.string a2] e11 rfl (fun t y ht=>by rw [Addr.add_lit];cases t with|zero=>(injection ht with ht;rw [← ht];exact hc11)|succ t=>(cases ht)) (fun y hy=>by simp at hy;subst hy;rfl) (by unfold maxLen;omega) (by omega) (Nat.le_trans HBW.out S8.size) ?_
             intro v' w' hown hg hat
             refine hK.out v' w' hg (fun h=>absurd rfl h) ⟨hown,?_⟩
             rcases hat with hat|hat
             · exact .inl hat
             · exact .inr ⟨_,S8.size,hat⟩
            | i+13,hi,_,_=>exact absurd hi (by omega)
           case last =>
            intro ud w8 S8 hall
            have h12:World.ownsRow w8 O1.heap.size 9 1 (ud 101) (jb.length+1) (jb.map Value.string ++ [.string a2])∧(Value.ownBlock (ud 101)=Value.ownBlock u5∨∃ b,(World.heap wr).size≤b∧Value.ownBlock (ud 101)=some b):=hall 12 (by decide)
            clear hall
            refine ⟨_,rfl,fun K' hK=>?_⟩
            obtain ⟨vn,hvn⟩:∃ vn,ud 101=vn:=⟨_,rfl⟩
            rw [hvn] at h12
            have HO2:Hid (OwnS O1.heap.size w8 vn (W4 s V U3 (k3+1))):=hid (by rw [HN2.out];unfold OwnS;rw [List.length_append,List.map_append];exact h12.1)
            have HB2:Hid (Below O1.heap.size O1 w8):=hid (BW4.out.grown S8 HBW.out (fun b hb=>(HRow.out b hb).1))
            simp only [hvn] at hK ⊢
            go_simp
            refine hK.out _ _ ?_
            clear h12 hvn S8 hK K'
            (try simp only [Exit.inBlock,Exit.then])
            go_wp2
            go_roundw
            case rel=>exact ⟨k3+1,by omega,by go_num,HO2.out,HB2.out⟩
            case measure=>simp [intOf];omega
         · have ek:k3=l 0:=by omega
           have hlt':decide (k3<l 0)=false:=decide_eq_false hlt
           obtain ⟨U4,hU4⟩:∃ y,W4 s V U3 (l 0)=y:=⟨_,rfl⟩
           have HU4:=hid hU4
           have hG:=few4 G.out F3.out HV.out k3 hk
           rw [ek] at hG hjs hlt' HO ⊢
           rw [hU4] at hG hjs HO
           have F4:=hid hG
           clear hlt ek hk hU4 hG hF
           have HSU:Hid (S=U4):=hid (by rw [← HS.out,← HU4.out,← HU3.out,← HU2.out];rfl)
           have HOE:Hid (OwnS w.heap.size wr u5 U4):=hid (own_mono HO.out (by omega))
           have HBE:Hid (Below w.heap.size w wr):=hid (BO.out.trans (HB0.out.mono BO.out.size))
           clear q0 q1 q2 q3 q4 q5 y0 y1 y2 y3 y4 y5
           go_wp2
           go_ret
           exact ⟨u5,rfl,by rw [HSU.out];exact HOE.out,HBE.out⟩
end Go.Proofs.YthompjbplddkgaaGreatDoor.sayImpl
